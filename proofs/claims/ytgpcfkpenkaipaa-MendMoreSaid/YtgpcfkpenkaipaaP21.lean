/- Parts of the proof: M31, M32, M33, M29, M35, M37 -/
import Derived.Test.YtgpcfkpenkaipaaP20
set_option linter.unusedVariables false
set_option linter.unusedSimpArgs false
set_option linter.unusedSectionVars false
namespace Go.Pv
open Go.Proofs Go.Am
set_option maxRecDepth 10000
theorem get_job (post:List PV) {c:Nat} (hc:c < 8):∀ (js:List Job) (i:Nat) (h:i < js.length),(flat (js.map Job.v)++post)[8 * i+c]?=js[i].v.cells[c]?
  | j :: js, 0, _ => by
    simp only [List.map_cons,flat,List.getElem_cons_zero,Nat.mul_zero,Nat.zero_add,List.append_assoc]
    exact List.getElem?_append_left (by show c < 8;exact hc)
  | j :: js, i + 1, h => by
    have ih:=get_job post hc js i (by simpa using h)
    simp only [List.map_cons,flat,List.getElem_cons_succ,List.append_assoc]
    have h8:j.v.cells.length=8:=rfl
    rw [List.getElem?_append_right (by rw [h8];omega),h8,← ih]
    congr 1
    omega
theorem set_job (post:List PV) {c:Nat} (hc:c < 8) {x:PV} {g:Job→Job} (hg:∀ j:Job,(g j).v.cells=j.v.cells.set c x):∀ (js:List Job) (i:Nat) (h:i < js.length),(flat (js.map Job.v)++post).set (8 * i+c) x=flat ((js.set i (g js[i])).map Job.v)++post
  | j :: js, 0, _ => by
    simp only [List.map_cons,flat,List.getElem_cons_zero,Nat.mul_zero,Nat.zero_add,List.set_cons_zero,List.append_assoc,hg]
    rw [List.set_append_left _ _ (by show c < 8;exact hc)]
  | j :: js, i + 1, h => by
    have ih:=set_job post hc hg js i (by simpa using h)
    simp only [List.map_cons,flat,List.getElem_cons_succ,List.set_cons_succ,List.append_assoc]
    have h8:j.v.cells.length=8:=rfl
    rw [List.set_append_right _ _ (by rw [h8];omega),h8,← ih]
    congr 2
    omega
theorem jobs_len (js:List Job) (post:List PV):(flat (js.map Job.v)++post).length=8 * js.length+post.length:=by rw [List.length_append,flat_jobs]
section
variable (s:Shp) {t1 t2:Tail} (h1:t1.isOwn=false) (h2:t2.isOwn=false)
include h1 h2
theorem f37 (hv:s.val=true) (hs:s.ok 30) (tq:Tail) (htq:tq.isOwn=false) (o:List Nat) (ho:Ordr s.jo.length o):Fn P0 37 [s.v t1 t2,.sl tq (o.map N)] (B (s.rgt o)):=by
  obtain ⟨J,R,g,hch,hgc⟩:=checkV h1 h2 hv hs htq ho
  have hbo:PV.bds 0 [s.v t1 t2,.sl tq (o.map N)]=true:=bd_ord s h1 h2 tq htq o
  have hr:s.rgt o=decide (g=4):=by
    rcases hgc with ⟨a,b,_⟩ | ⟨a,b,_⟩
    · rw [b,a];rfl
    · rw [b,a];rfl
  rw [hr]
  refine PFun.of (C:=c37) (cx_ok _ _ _) rfl (fn:=Try.f37) (by kernel_rfl) (c:=_) rfl rfl rfl ?_
  refine Run.seq (Run.region (cx_ok _ _ _) (Reg.op rfl (Ope.boxF rfl rfl ?_)))
  refine Reg.op rfl (Ope.asg rfl ?_)
  refine Reg.nil (Run.seq (Run.region (cx_ok _ _ _) (Reg.op rfl (Ope.load rfl rfl ?_))))
  refine Reg.op rfl (Ope.mov rfl ?_)
  refine Reg.op rfl (Ope.cf rfl rfl hch hbo ?_)
  refine Reg.op rfl (Ope.mov rfl ?_)
  refine Reg.op rfl (Ope.ext rfl rfl ?_)
  refine Reg.op rfl (Ope.ext rfl rfl ?_)
  refine Reg.op rfl (Ope.ext rfl rfl ?_)
  refine Reg.op rfl (Ope.asg rfl ?_)
  refine Reg.op rfl (Ope.asg rfl ?_)
  refine Reg.op rfl (Ope.asg rfl ?_)
  refine Reg.nil (Run.seq (Run.region (cx_ok _ _ _) (Reg.op rfl (Ope.mov rfl ?_))))
  refine Reg.op rfl (Ope.eq rfl rfl ?_)
  refine Reg.op rfl (Ope.asg rfl ?_)
  exact Reg.nil (Run.ret (fin_ret (.tmp rfl .nil) rfl rfl))
end
end Go.Pv
namespace Go.Pv
open Go.Proofs Go.Am
set_option maxRecDepth 10000
structure LaxJ (j k:Job):Prop where
  kd:k.kd=j.kd
  hi:k.hi≤j.hi
  fr:k.fr≤j.fr
  so:j.so≤k.so
  bt:j.bt≤k.bt
  co:k.co≤j.co
  c0:0≤k.co
  af:∀ q,k.af.toNat.testBit q=true→j.af.toNat.testBit q=true
structure Lax (s x:Shp):Prop where
  su:x.su=s.su
  n:x.jo.length=s.jo.length
  j:∀ i,i < s.jo.length→LaxJ (s.job i) (x.job i)
structure PLax (p q:Pst):Prop where
  J:q.J=p.J
  kd:q.kd=p.kd
  f1:q.f1≤p.f1
theorem Shp.set_su {s x:Shp} (h:x.su=s.su) (k:Int):x.set k=s.set k:=by unfold Shp.set;rw [h]
section
variable {s x:Shp} (hL:Lax s x)
include hL
theorem lax_wrk {p q:Pst} (hp:PLax p q) {i:Nat} (hi:i < s.jo.length):(x.wrk q i).d1≤(s.wrk p i).d1:=by
  have hj:=hL.j i hi
  have hr:(x.rdy q (x.job i).kd).2≤(s.rdy p (s.job i).kd).2:=by
    unfold Shp.rdy
    rw [hj.kd,hp.kd,Shp.set_su hL.su]
    have:=hp.f1
    split
    · exact this
    · show q.f1+_≤p.f1+_;omega
  have h1:=hj.fr
  have h2:=hj.hi
  show max _ _+_≤max _ _+_
  omega
theorem lax_aft {p q:Pst} (hp:PLax p q) {i:Nat} (hi:i < s.jo.length):PLax (s.aft (s.wrk p i)) (x.aft (x.wrk q i)):=by
  refine ⟨?_,(hL.j i hi).kd,lax_wrk hL hp hi⟩
  show q.J ||| _=p.J ||| _
  rw [hp.J];rfl
theorem lax_early {p q:Pst} (hp:PLax p q) {i:Nat} (hi:i < s.jo.length) (h:s.early (s.wrk p i)=false):x.early (x.wrk q i)=false:=by
  unfold Shp.early at h ⊢
  simp only [Bool.not_eq_false',decide_eq_true_eq] at h ⊢
  have h':(s.job i).af.toNat &&& (2 ^ 64 - 1 - p.J)=0:=by
    have:(((s.job i).af.toNat &&& (2 ^ 64 - 1 - p.J):Nat):Int)=0:=h
    omega
  have h2:(x.job i).af.toNat &&& (2 ^ 64 - 1 - q.J)=0:=Nat.eq_of_testBit_eq fun b=>by
    rw [Nat.zero_testBit,Nat.testBit_and]
    cases hb:(x.job i).af.toNat.testBit b with
    | false=>rfl
    | true =>
      have h3:=congrArg (fun n=>n.testBit b) h'
      simp only [Nat.testBit_and,(hL.j i hi).af b hb,Nat.zero_testBit,Bool.true_and] at h3
      rw [hp.J,h3];rfl
  show (((x.job i).af.toNat &&& (2 ^ 64 - 1 - q.J):Nat):Int)=0
  rw [h2];rfl
theorem lax_late {p q:Pst} (hp:PLax p q) {i:Nat} (hi:i < s.jo.length) (h:s.late (s.wrk p i)=false):x.late (x.wrk q i)=false:=by
  unfold Shp.late at h ⊢
  simp only [decide_eq_false_iff_not] at h ⊢
  have h1:=lax_wrk hL hp hi
  have h2:=(hL.j i hi).bt
  have h3:¬ (s.job i).bt < (s.wrk p i).d1:=h
  show ¬ (x.job i).bt < (x.wrk q i).d1
  omega
theorem lax_can {p q:Pst} (hp:PLax p q) {i:Nat} (hi:i < s.jo.length) (h:s.can p i=true):x.can q i=true:=by
  unfold Shp.can at h ⊢
  simp only [Bool.and_eq_true,Bool.not_eq_true'] at h ⊢
  exact ⟨by rw [hp.J];exact h.1,lax_early hL hp hi h.2.1,lax_late hL hp hi h.2.2⟩
theorem lax_fin {p q:Pst} (hp:PLax p q) {i:Nat} (hi:i < s.jo.length):x.fin (x.wrk q i)≤s.fin (s.wrk p i):=by
  have hj:=hL.j i hi
  have h1:=lax_wrk hL hp hi
  have h2:=hj.so
  have h3:=hj.co
  have h4:=hj.c0
  show (x.job i).co * max 0 ((x.wrk q i).d1 - (x.job i).so)≤(s.job i).co * max 0 ((s.wrk p i).d1 - (s.job i).so)
  exact Int.mul_le_mul h3 (by omega) (by omega) (by omega)
theorem lax_past:∀ (o:List Nat) (p q:Pst),PLax p q→(∀ i∈o,i < s.jo.length)→PLax (s.past p o) (x.past q o)
  | [],p,q,hp,_=>hp
  | i::l,p,q,hp,h=>lax_past l _ _ (lax_aft hL hp (h i (by simp))) fun j hj=>h j (List.mem_cons_of_mem _ hj)
theorem lax_cst:∀ (o:List Nat) (p q:Pst),PLax p q→(∀ i∈o,i < s.jo.length)→x.cst q o≤s.cst p o
  | [],p,q,_,_=>Int.le_refl _
  | i :: l, p, q, hp, h => by
    have h1:=lax_fin hL hp (h i (by simp))
    have h2:=lax_cst l _ _ (lax_aft hL hp (h i (by simp))) fun j hj=>h j (List.mem_cons_of_mem _ hj)
    show x.fin _+x.cst _ _≤s.fin _+s.cst _ _
    omega
theorem lax_flt:∀ (o:List Nat) (p q:Pst),PLax p q→(∀ i∈o,i < s.jo.length)→s.flt (s.alg p o)=none→x.flt (x.alg q o)=none
  | [],p,q,_,_,_=>rfl
  | i :: l, p, q, hp, h, hf => by
    have hi:=h i (by simp)
    obtain ⟨h1,h2⟩:=flt_cons.1 hf
    obtain ⟨h3,h4⟩:=bad_zero.1 h1
    exact flt_cons.2 ⟨bad_zero.2 ⟨lax_early hL hp hi h3,lax_late hL hp hi h4⟩,lax_flt l _ _ (lax_aft hL hp hi) (fun j hj=>h j (List.mem_cons_of_mem _ hj)) h2⟩
theorem lax_len : ∀ (k : Nat) (p q : Pst), PLax p q → (s.sqs k p).length ≤ (x.sqs k q).length
  | 0,p,q,_=>Nat.le_refl _
  | k + 1, p, q, hp => by
    have ih:=fun i (hi:i < s.jo.length)=>lax_len k _ _ (lax_aft hL hp hi)
    simp only [Shp.sqs,List.length_flatMap,List.length_map,Shp.nxt]
    have hc:=fun i hi=>lax_can hL hp (i:=i) hi
    have key:∀ L:List Nat,(∀ i∈L,i < s.jo.length)→((L.filter (s.can p)).map fun i=>(s.sqs k (s.aft (s.wrk p i))).length).sum≤((L.filter (x.can q)).map fun i=>(x.sqs k (x.aft (x.wrk q i))).length).sum:=by
      intro L
      induction L with
      | nil=>intro _;simp
      | cons i L ihL =>
        intro h
        have h1:=ihL fun j hj=>h j (List.mem_cons_of_mem _ hj)
        have h2:=ih i (h i (by simp))
        simp only [List.filter_cons]
        cases hs:s.can p i with
        | true =>
          rw [hc i (h i (by simp)) hs]
          simp only [if_true,List.map_cons,List.sum_cons]
          omega
        | false =>
          simp only [Bool.false_eq_true,if_false]
          split
          · simp only [List.map_cons,List.sum_cons];omega
          · exact h1
    have hn:x.n=s.n:=hL.n
    rw [hn]
    exact key _ fun i hi=>List.mem_range.1 hi
theorem plax_0:PLax Shp.p0 Shp.p0:=⟨rfl,rfl,Int.le_refl _⟩
theorem lax_rgt {o:List Nat} (h:∀ i∈o,i < s.jo.length) (hr:s.rgt o=true):x.rgt o=true:=rgt_iff.2 (lax_flt hL o _ _ (plax_0 hL) h (rgt_iff.1 hr))
end
theorem olk_n (L:List Sq):(olk L).n=L.length:=by cases L<;>rfl
theorem all_n (s:Shp):s.all.n=(s.sqs s.jo.length Shp.p0).length:=olk_n _
theorem lax_all {s x:Shp} (hL:Lax s x):s.all.n≤x.all.n:=by
  rw [all_n,all_n,hL.n]
  exact lax_len hL _ _ _ (plax_0 hL)
theorem lax_best {s x:Shp} (hL:Lax s x) (h:0 < s.all.n):x.all.c≤s.all.c∧x.all.t≤s.all.t:=by
  have hx:0 < x.all.n:=Nat.lt_of_lt_of_le h (lax_all hL)
  obtain ⟨a1,a2,a3,_,o,b1,b2,b3⟩:=all_best h
  obtain ⟨_,_,_,c4,_⟩:=all_best hx
  have e:∀ {o},Ordr s.jo.length o→Ordr x.jo.length o:=fun h=>by rw [hL.n];exact h
  refine ⟨?_,?_⟩
  · rw [a3]
    exact Int.le_trans (c4 _ (e a1) (lax_rgt hL a1.lt a2)).1 (lax_cst hL _ _ _ (plax_0 hL) a1.lt)
  · rw [b3]
    exact Int.le_trans (c4 _ (e b1) (lax_rgt hL b1.lt b2)).2 (lax_past hL _ _ _ (plax_0 hL) b1.lt).f1
structure SameJ (j k:Job):Prop where
  kd:k.kd=j.kd
  hi:k.hi=j.hi
  fr:k.fr=j.fr
  so:k.so=j.so
  bt:k.bt=j.bt
  co:k.co=j.co
  af:k.af=j.af
structure Same (s x:Shp):Prop where
  su:x.su=s.su
  n:x.jo.length=s.jo.length
  j:∀ i,i < s.jo.length→SameJ (s.job i) (x.job i)
structure PSame (p q:Pst):Prop where
  J:q.J=p.J
  kd:q.kd=p.kd
  f1:q.f1=p.f1
section
variable {s x:Shp} (hL:Same s x)
include hL
end
theorem ok_val {s:Shp} (hs:s.ok 30):s.val=true:=by
  refine val_yes s hs.su hs.jo (fun i h=>?_) fun i h=>?_
  · have := hs.sv _ (List.getElem_mem h)
    unfold upB
    simp only [Bool.and_eq_true,decide_eq_true_eq]
    exact this
  · have hj := hs.jv i h
    have haf:=hj.af
    have hp:=pow6 hs.jo
    exact (job_ok hs.jo h (by omega)).2 hj
end Go.Pv
namespace Go.Pv
open Go.Proofs Go.Am
set_option maxRecDepth 10000
def bC (o:Olk):Int:=if o.n=0 then 0 else o.c
def bT (o:Olk):Tail:=if o.n=0 then .ex else otl o.o
def bO (o:Olk):List Nat:=if o.n=0 then [] else o.o
def bE (o:Olk):Int:=if o.n=0 then 4 else 0
def bU (o:Olk):Int:=if o.n=0 then 0 else o.t
theorem bestF {s:Shp} {t1 t2:Tail} (h1:t1.isOwn=false) (h2:t2.isOwn=false) (hs:s.ok 30):Fn P0 26 [s.v t1 t2] (.tup [I (bC s.all),.sl (bT s.all) ((bO s.all).map N),I (bE s.all)]):=by
  rcases Nat.eq_zero_or_pos s.all.n with h | h
  · have := f26no s h1 h2 (ok_val hs) hs h
    unfold bC bT bO bE
    simp only [h,if_true]
    exact this
  · have := f26ok s h1 h2 (ok_val hs) hs h
    unfold bC bT bO bE
    simp only [show ¬ s.all.n=0 by omega,if_false]
    exact this
theorem untilF {s:Shp} {t1 t2:Tail} (h1:t1.isOwn=false) (h2:t2.isOwn=false) (hs:s.ok 30):Fn P0 28 [s.v t1 t2] (.tup [I (bU s.all),I (bE s.all)]):=by
  rcases Nat.eq_zero_or_pos s.all.n with h | h
  · have := f28no s h1 h2 (ok_val hs) hs h
    unfold bU bE
    simp only [h,if_true]
    exact this
  · have := f28ok s h1 h2 (ok_val hs) hs h
    unfold bU bE
    simp only [show ¬ s.all.n=0 by omega,if_false]
    exact this
end Go.Pv
namespace Go.Pv
open Go.Proofs Go.Am
set_option maxRecDepth 10000
section
variable (s:Shp) {t1 t2:Tail} (h1:t1.isOwn=false) (h2:t2.isOwn=false)
include h1 h2
end
end Go.Pv
namespace Go.Pv
open Go.Proofs Go.Am
set_option maxRecDepth 10000
section
variable (s:Shp) {t1 t2:Tail} (h1:t1.isOwn=false) (h2:t2.isOwn=false)
include h1 h2
end
end Go.Pv
namespace Go.Pv
open Go.Proofs Go.Am
set_option maxRecDepth 10000
section
variable (s:Shp) {t1 t2:Tail} (h1:t1.isOwn=false) (h2:t2.isOwn=false)
include h1 h2
theorem past_f1b {s:Shp} (hs:s.ok 30) {o:List Nat} (ho:Ordr s.jo.length o) (i:Nat):0≤(s.past Shp.p0 (o.take i)).f1∧(s.past Shp.p0 (o.take i)).f1≤5000:=by
  have hp:=past_ok hs (o.take i) Shp.p0 0 ⟨⟨Int.le_refl _,Int.le_refl _⟩,⟨Int.le_refl _,Int.le_refl _⟩⟩ (Int.le_refl _) fun j hj=>ho.lt j (List.mem_of_mem_take hj)
  have hlen:((o.take i).length:Int)≤6:=by rw [List.length_take];have:=ho.len;have:=hs.jo;omega
  have:=hp.f1
  omega
theorem f39 (hv:s.val=true) (hs:s.ok 30) (tq:Tail) (htq:tq.isOwn=false) (o:List Nat) (ho:Ordr s.jo.length o):Fn P0 39 [s.v t1 t2,.sl tq (o.map N)] (I (s.cst Shp.p0 o)):=by
  have hti:=timesV h1 h2 hv hs htq ho
  have hbo:PV.bds 0 [s.v t1 t2,.sl tq (o.map N)]=true:=bd_ord s h1 h2 tq htq o
  have hwl:(s.alg Shp.p0 o).length=o.length:=alg_len _ _ _
  have hol:=ho.len
  have hn6:=hs.jo
  have hst:∀ i (hi:i < o.length) (hw:i < (s.alg Shp.p0 o).length),s.cst Shp.p0 (o.take (i+1))=s.cst Shp.p0 (o.take i)+(s.job o[i]).co * max 0 (((s.alg Shp.p0 o)[i]).d1 - (s.job o[i]).so)∧0≤((s.alg Shp.p0 o)[i]).d1∧((s.alg Shp.p0 o)[i]).d1≤6000:=fun i hi hw=>by
    rw [alg_at s o Shp.p0 i hi]
    refine ⟨by rw [List.take_succ_eq_append_getElem hi,cst_snoc];rfl,?_⟩
    have h:=past_f1b h1 h2 hs ho (i+1)
    rw [List.take_succ_eq_append_getElem hi,past_snoc] at h
    have h3:(s.aft (s.wrk (s.past Shp.p0 (o.take i)) o[i])).f1=(s.wrk (s.past Shp.p0 (o.take i)) o[i]).d1:=rfl
    omega
  generalize s.alg Shp.p0 o=ws at *
  refine PFun.of (C:=c39) (cx_ok _ _ _) rfl (fn:=Try.f39) (by kernel_rfl) (c:=_) rfl rfl rfl ?_
  refine Run.seq (Run.region (cx_ok _ _ _) (Reg.op rfl (Ope.boxF rfl rfl ?_)))
  refine Reg.op rfl (Ope.asg rfl ?_)
  refine Reg.nil (Run.seq (Run.region (cx_ok _ _ _) (Reg.op rfl (Ope.load rfl rfl ?_))))
  refine Reg.op rfl (Ope.mov rfl ?_)
  refine Reg.op rfl (Ope.cf rfl rfl hti hbo ?_)
  refine Reg.op rfl (Ope.mov rfl ?_)
  refine Reg.op rfl (Ope.ext rfl rfl ?_)
  refine Reg.op rfl (Ope.ext rfl rfl ?_)
  refine Reg.op rfl (Ope.asg rfl ?_)
  refine Reg.op rfl (Ope.asg rfl ?_)
  refine Reg.nil (Run.seq (Run.seq (Run.region (cx_ok _ _ _) (Reg.op rfl (Ope.mov rfl ?_)))))
  refine Reg.op rfl (Ope.ne rfl rfl ?_)
  refine Reg.op rfl (Ope.mov rfl ?_)
  refine Reg.splitX rfl rfl (fun hg=>?_) fun hg=>?_
  ·first
   |(first | (exfalso;omega) | cases hg)
   |refine Reg.off rfl rfl rfl (Reg.off rfl rfl rfl (Reg.off rfl rfl rfl (Reg.off rfl rfl rfl (Reg.off rfl rfl rfl (Reg.op rfl (Ope.pickT rfl rfl ?_))))))
    refine Reg.nil (Run.condT rfl (Run.seq (Run.region (cx_ok _ _ _) (Reg.op rfl (Ope.asg rfl ?_)))))
    exact Reg.nil (Run.ret (Jmp.code (fin_ret (.tmp rfl .nil) rfl rfl)))
  ·first
   |(first | (exfalso;omega) | cases hg)
   |refine Reg.on rfl rfl rfl (Ope.mov rfl ?_)
    refine Reg.on rfl rfl rfl (Ope.len (m:=o.length) rfl (by rw [List.length_map,hwl]) ?_)
    refine Reg.on rfl rfl rfl (Ope.mov rfl ?_)
    refine Reg.on rfl rfl rfl (Ope.len (m:=o.length) rfl (by simp) ?_)
    refine Reg.on rfl rfl rfl (Ope.ne rfl rfl ?_)
    refine Reg.op rfl (Ope.pickF rfl rfl ?_)
    refine Reg.nil (Run.condX rfl (fun hc=>?_) fun hc=>?_)
    ·first | (exfalso;omega) | cases hc
    ·refine Run.skip (Run.seq (Run.region (cx_ok _ _ _) (Reg.op rfl (Ope.asg rfl ?_))))
     refine Reg.nil (Run.seq (Run.seq (Run.region (cx_ok _ _ _) (Reg.op rfl (Ope.mov rfl ?_)))))
     refine Reg.op rfl (Ope.len (m:=o.length) rfl (by simp) ?_)
     refine Reg.op rfl (Ope.mov rfl ?_)
     refine Reg.nil (Run.block (Run.loop (α:=Nat) (fun i=>[(2,.fp (s.v t1 t2)),(5,.sl .no (ws.map Wrk.sp)),(7,I (s.cst Shp.p0 (o.take i))),(25,.sl tq (o.map N)),(26,I o.length),(27,I i)]) (fun _=>HE 0 []) (fun i=>i≤o.length∧0≤s.cst Shp.p0 (o.take i)∧s.cst Shp.p0 (o.take i)≤1000000 * i) (fun i=>o.length - i) 0 ⟨rfl,rfl,rfl,rfl,rfl,rfl,trivial⟩ rfl ⟨Nat.zero_le _,Int.le_refl _,Int.le_refl _⟩ (fun i hi=>?_)))
     obtain ⟨hi,hcb⟩:=hi
     refine Run.seq (Run.region (cx_ok _ _ _) (Reg.op rfl (Ope.lt rfl rfl ?_)))
     refine Reg.nil (Run.seq (Run.condX rfl (fun hc=>?_) fun hc=>?_))
     ·refine Run.skip (Run.seq (Run.block (Run.seq (Run.region (cx_ok _ _ _) (Reg.op rfl (Ope.mov rfl ?_))))))
      refine Reg.op rfl (Ope.idxM (m:=i) (f:=N) rfl rfl rfl (by omega) (fun _=>rfl) ?_)
      refine Reg.op rfl (Ope.load rfl rfl ?_)
      refine Reg.op rfl (Ope.asg rfl ?_)
      refine Reg.op rfl (Ope.asg rfl ?_)
      refine Reg.nil ?_
      have hlt:i < o.length:=by omega
      have hwi:i < ws.length:=by omega
      have hoi:o[i] < s.jo.length:=ho.lt _ (List.getElem_mem hlt)
      have hst:=hst i hlt hwi
      have hj:=hs.job hoi
      rw [Shp.job_at hoi] at hst hj
      have hco:=hj.co
      have hso:=hj.so
      have hm1:0≤s.jo[o[i]].co * max 0 (ws[i].d1 - s.jo[o[i]].so):=Int.mul_nonneg hco.1 (by omega)
      have hm3:s.jo[o[i]].co * max 0 (ws[i].d1 - s.jo[o[i]].so)≤50 * 6000:=Int.mul_le_mul hco.2 (by omega) (by omega) (by decide)
      refine Run.draw (cx_ok _ _ _) [(0,true),(1,true),(2,true),(3,true),(4,true),(5,true),(6,true),(7,true),(8,true),(9,true),(10,true),(11,true),(12,true),(13,true),(14,true),(15,true),(16,true),(17,true),(18,true),(19,true),(20,true),(21,true),(22,true)] (by kernel_rfl) (Dra.op' rfl rfl rfl .sure (Ope.mov rfl ?_))
      refine Dra.op' rfl rfl rfl .sure (Ope.fld rfl rfl ?_)
      refine Dra.op' rfl rfl rfl .sure (Ope.load rfl rfl ?_)
      refine Dra.op' rfl rfl rfl .sure (Ope.mov rfl ?_)
      refine Dra.op' rfl rfl rfl .sure (Ope.idxM (m:=o[i]) (f:=Job.v) rfl rfl rfl hoi (fun _=>rfl) ?_)
      refine Dra.op' rfl rfl rfl .sure (Ope.fld rfl rfl ?_)
      refine Dra.op' rfl rfl rfl .sure (Ope.load rfl rfl ?_)
      refine Dra.op' rfl rfl rfl .sure (Ope.mov rfl ?_)
      refine Dra.op' rfl rfl rfl .sure (Ope.mov rfl ?_)
      refine Dra.op' rfl rfl rfl .sure (Ope.idxM (m:=i) (f:=Wrk.sp) rfl rfl rfl hwi (fun _=>rfl) ?_)
      refine Dra.op' rfl rfl rfl .sure (Ope.fld rfl rfl ?_)
      refine Dra.op' rfl rfl rfl .sure (Ope.load rfl rfl ?_)
      refine Dra.op' rfl rfl rfl .sure (Ope.fld rfl rfl ?_)
      refine Dra.op' rfl rfl rfl .sure (Ope.load rfl rfl ?_)
      refine Dra.op' rfl rfl rfl .sure (Ope.mov rfl ?_)
      refine Dra.op' rfl rfl rfl .sure (Ope.idxM (m:=o[i]) (f:=Job.v) rfl rfl rfl hoi (fun _=>rfl) ?_)
      refine Dra.op' rfl rfl rfl .sure (Ope.fld rfl rfl ?_)
      refine Dra.op' rfl rfl rfl .sure (Ope.load rfl rfl ?_)
      refine Dra.op' rfl rfl rfl .sure (Ope.sub rfl rfl (by omega) ?_)
      refine Dra.op' rfl rfl rfl .sure (Ope.maxI rfl rfl ?_)
      refine Dra.op' rfl rfl rfl .sure (Ope.mul rfl rfl (by omega) ?_)
      refine Dra.op' rfl rfl rfl .sure (Ope.add rfl rfl (by omega) ?_)
      refine Dra.op' rfl rfl rfl .sure (Ope.asg rfl ?_)
      refine Dra.nil (Run.bend (Run.region (cx_ok _ _ _) (Reg.op rfl (Ope.add rfl rfl (by omega) ?_))))
      refine Reg.op rfl (Ope.mov rfl ?_)
      exact Reg.nil (Run.lend ⟨i+1,by omega,⟨by omega,by rw [hst.1];omega,by rw [hst.1];omega⟩,⟨rfl,rfl,(by rw [hst.1];rfl),rfl,rfl,rfl,trivial⟩,rfl,rfl⟩)
     ·refine Run.exit (Jmp.code (Jmp.round (Jmp.here (Run.seq ?_))))
      obtain rfl:i=o.length:=by omega
      rw [List.take_length]
      refine Run.region (cx_ok _ _ _) (Reg.op rfl (Ope.mov rfl ?_))
      refine Reg.op rfl (Ope.asg rfl ?_)
      exact Reg.nil (Run.ret (fin_ret (.tmp rfl .nil) rfl rfl))
end
end Go.Pv
