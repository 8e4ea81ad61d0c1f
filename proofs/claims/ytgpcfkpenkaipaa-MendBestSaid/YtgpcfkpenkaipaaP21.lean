/- Parts of the proof: M31, M32, M33, M29, M35, M37 -/
import Derived.Test.YtgpcfkpenkaipaaP20
set_option linter.unusedVariables false
set_option linter.unusedSimpArgs false
set_option linter.unusedSectionVars false
namespace Go.Pv
open Go.Proofs Go.Am
set_option maxRecDepth 10000
section
variable (s:Shp) {t1 t2:Tail} (h1:t1.isOwn=false) (h2:t2.isOwn=false)
include h1 h2
theorem f37 (hv:s.val=true) (hs:s.ok 30) (tq:Tail) (htq:tq.isOwn=false) (o:List Nat) (ho:Ordr s.jo.length o):Fn P0 37 [s.v t1 t2,.sl tq (o.map N)] (B (s.rgt o)):=by
  obtain ⟨J,R,g,hch,hgc⟩:=checkV h1 h2 hv hs htq ho
  have hbo:PV.bds 0 [s.v t1 t2,.sl tq (o.map N)]=true:=bd_ord s h1 h2 tq htq o
  have hr:s.rgt o=decide (g=4):=by
    rcases hgc with ⟨a,b,_⟩ | ⟨a,b,_⟩
    · rw [b,a];rfl
    · rw [b,a];rfl
  rw [hr]
  refine PFun.of (C:=c37) (cx_ok _ _ _) rfl (fn:=Try.f37) (by kernel_rfl) (c:=_) rfl rfl rfl ?_
  refine Run.seq (Run.region (cx_ok _ _ _) (Reg.op rfl (Ope.boxF rfl rfl ?_)))
  refine Reg.op rfl (Ope.asg rfl ?_)
  refine Reg.nil (Run.seq (Run.region (cx_ok _ _ _) (Reg.op rfl (Ope.load rfl rfl ?_))))
  refine Reg.op rfl (Ope.mov rfl ?_)
  refine Reg.op rfl (Ope.cf rfl rfl hch hbo ?_)
  refine Reg.op rfl (Ope.mov rfl ?_)
  refine Reg.op rfl (Ope.ext rfl rfl ?_)
  refine Reg.op rfl (Ope.ext rfl rfl ?_)
  refine Reg.op rfl (Ope.ext rfl rfl ?_)
  refine Reg.op rfl (Ope.asg rfl ?_)
  refine Reg.op rfl (Ope.asg rfl ?_)
  refine Reg.op rfl (Ope.asg rfl ?_)
  refine Reg.nil (Run.seq (Run.region (cx_ok _ _ _) (Reg.op rfl (Ope.mov rfl ?_))))
  refine Reg.op rfl (Ope.eq rfl rfl ?_)
  refine Reg.op rfl (Ope.asg rfl ?_)
  exact Reg.nil (Run.ret (fin_ret (.tmp rfl .nil) rfl rfl))
end
end Go.Pv
namespace Go.Pv
open Go.Proofs Go.Am
set_option maxRecDepth 10000
structure LaxJ (j k:Job):Prop where
  kd:k.kd=j.kd
  hi:k.hi≤j.hi
  fr:k.fr≤j.fr
  so:j.so≤k.so
  bt:j.bt≤k.bt
  co:k.co≤j.co
  c0:0≤k.co
  af:∀ q,k.af.toNat.testBit q=true→j.af.toNat.testBit q=true
structure Lax (s x:Shp):Prop where
  su:x.su=s.su
  n:x.jo.length=s.jo.length
  j:∀ i,i < s.jo.length→LaxJ (s.job i) (x.job i)
structure PLax (p q:Pst):Prop where
  J:q.J=p.J
  kd:q.kd=p.kd
  f1:q.f1≤p.f1
section
variable {s x:Shp} (hL:Lax s x)
include hL
end
structure SameJ (j k:Job):Prop where
  kd:k.kd=j.kd
  hi:k.hi=j.hi
  fr:k.fr=j.fr
  so:k.so=j.so
  bt:k.bt=j.bt
  co:k.co=j.co
  af:k.af=j.af
structure Same (s x:Shp):Prop where
  su:x.su=s.su
  n:x.jo.length=s.jo.length
  j:∀ i,i < s.jo.length→SameJ (s.job i) (x.job i)
structure PSame (p q:Pst):Prop where
  J:q.J=p.J
  kd:q.kd=p.kd
  f1:q.f1=p.f1
section
variable {s x:Shp} (hL:Same s x)
include hL
end
end Go.Pv
namespace Go.Pv
open Go.Proofs Go.Am
set_option maxRecDepth 10000
end Go.Pv
namespace Go.Pv
open Go.Proofs Go.Am
set_option maxRecDepth 10000
def GI (s:Shp) (ws:List Wrk) (J R:Int) (i:Nat) (G:Int):Prop :=
  (G=4∧s.flt ws=none)∨(G=0∧(∃ j:Nat,J=j∧s.flt ws=some (j,R))∧∀ k (hk:k < ws.length),k < i→s.bad ws[k]=0)∨(G=11∧s.flt ws≠none)
theorem GI.zero {s:Shp} {ws:List Wrk} {J R:Int} {i:Nat} {G:Int} (h:GI s ws J R i G) (hG:G=0):(∃ j:Nat,J=j∧s.flt ws=some (j,R))∧∀ k (hk:k < ws.length),k < i→s.bad ws[k]=0:=by
  rcases h with h | h | h
  · have:=h.1;omega
  · exact h.2
  · have:=h.1;omega
theorem neB (x y:Operand):∀ a b:Bool,a=b→pbin A0 E0 .neq 4 x y (B a) (B b)=some (B false):=by
  rintro a _ rfl
  cases a<;>rfl
section
variable (s:Shp) {t1 t2:Tail} (h1:t1.isOwn=false) (h2:t2.isOwn=false)
include h1 h2
end
end Go.Pv
namespace Go.Pv
open Go.Proofs Go.Am
set_option maxRecDepth 10000
section
variable (s:Shp) {t1 t2:Tail} (h1:t1.isOwn=false) (h2:t2.isOwn=false)
include h1 h2
end
end Go.Pv
namespace Go.Pv
open Go.Proofs Go.Am
set_option maxRecDepth 10000
def atI:List Int→Int→Int
  | [],_=>-1
  | y::l,x=>if y=x then 0 else if atI l x < 0 then -1 else atI l x+1
theorem atI_none:∀ {xs:List Int} {x:Int},(∀ k (h:k < xs.length),xs[k]≠x)→atI xs x=-1
  | [],_,_=>rfl
  | y :: l, x, h => by
    have h0:=h 0 (by simp)
    have ih:=atI_none (xs:=l) (x:=x) fun k hk=>by
      have:=h (k+1) (by simpa using hk)
      simpa using this
    simp only [List.getElem_cons_zero] at h0
    simp only [atI,ih,if_neg h0]
    rfl
theorem atI_found:∀ {xs:List Int} {x:Int} {i:Nat} (hi:i < xs.length),xs[i]=x→(∀ k (h:k < xs.length),k < i→xs[k]≠x)→atI xs x=i
  | y :: l, x, 0, _, he, _ => by
    simp only [List.getElem_cons_zero] at he
    simp only [atI,if_pos he];rfl
  | y :: l, x, i + 1, hi, he, h => by
    have h0:=h 0 (by simp) (by omega)
    simp only [List.getElem_cons_zero] at h0
    have ih:=atI_found (xs:=l) (x:=x) (i:=i) (by simpa using hi) (by simpa using he) fun k hk hki=>by
      have:=h (k+1) (by simpa using hk) (by omega)
      simpa using this
    simp only [atI,ih,if_neg h0]
    rw [if_neg (by omega)]
    omega
theorem atI_neg {xs : List Int} {x : Int} : 0 ≤ atI xs x ↔ x ∈ xs := by
  induction xs with
  | nil=>simp [atI]
  | cons y l ih =>
    simp only [atI,List.mem_cons]
    split
    · next h=>simp [h]
    · next h =>
      split
      · next h2 =>
        have:¬ x∈l:=fun hm=>by have:=ih.2 hm;omega
        have h3:¬ x=y:=fun e=>h e.symm
        simp [this,h3]
      · next h2 =>
        have:x∈l:=ih.1 (by omega)
        simp [this]
        omega
theorem f68 (t:Tail) (xs:List Int) (hx:xs.length≤1000000) (x:Int):Fn P0 68 [.sl t (xs.map I),I x] (I (atI xs x)):=by
  have hno:=fun h=>atI_none (xs:=xs) (x:=x) h
  have hyes:=fun {i:Nat} hi he h=>atI_found (xs:=xs) (x:=x) (i:=i) hi he h
  generalize atI xs x=z at *
  refine PFun.of (C:=c68) (cx_ok _ _ _) rfl (fn:=Try.f68) (by kernel_rfl) (c:=_) rfl rfl rfl ?_
  refine Run.seq (Run.region (cx_ok _ _ _) (Reg.op rfl (Ope.asg rfl ?_)))
  refine Reg.nil (Run.seq (Run.seq (Run.region (cx_ok _ _ _) (Reg.op rfl (Ope.asg rfl ?_)))))
  refine Reg.nil (Run.block (Run.loop (α:=Nat) (fun i=>[(0,.sl t (xs.map I)),(1,I x),(5,I i)]) (fun _=>HE 0 []) (fun i=>i≤xs.length∧∀ k (h:k < xs.length),k < i→xs[k]≠x) (fun i=>xs.length - i) 0 ⟨rfl,rfl,rfl,trivial⟩ rfl ⟨Nat.zero_le _,fun k _ h=>absurd h (Nat.not_lt_zero _)⟩ (fun i hi=>?_)))
  obtain ⟨hi,hall⟩:=hi
  refine Run.seq (Run.seq (Run.region (cx_ok _ _ _) (Reg.op rfl (Ope.mov rfl ?_))))
  refine Reg.op rfl (Ope.mov rfl ?_)
  refine Reg.op rfl (Ope.len (m:=xs.length) rfl (by simp) ?_)
  refine Reg.op rfl (Ope.lt rfl rfl ?_)
  refine Reg.nil (Run.condX rfl (fun hc=>?_) fun hc=>?_)
  ·refine Run.skip (Run.seq (Run.block (Run.seq ?_)))
   have hlt:i < xs.length:=by omega
   refine Run.region (cx_ok _ _ _) (Reg.op rfl (Ope.mov rfl ?_))
   refine Reg.op rfl (Ope.mov rfl ?_)
   refine Reg.op rfl (Ope.idxM (m:=i) (f:=I) rfl rfl rfl hlt (fun _=>rfl) ?_)
   refine Reg.op rfl (Ope.load rfl rfl ?_)
   refine Reg.op rfl (Ope.mov rfl ?_)
   refine Reg.op rfl (Ope.eq rfl rfl ?_)
   refine Reg.nil (Run.condX rfl (fun hc=>?_) fun hc=>?_)
   ·refine Run.seq (Run.region (cx_ok _ _ _) (Reg.op rfl (Ope.mov rfl ?_)))
    refine Reg.op rfl (Ope.asg rfl ?_)
    refine Reg.nil (Run.ret (Jmp.retB (Jmp.code (Jmp.round (Jmp.retB (Jmp.code (fin_ret (.tmp rfl .nil) rfl ?_)))))))
    first
    | (rw [hyes hlt hc hall];rfl)
    | (rw [hno fun k hk=>hall k hk (by omega)];rfl)
   ·refine Run.skip (Run.bend (Run.region (cx_ok _ _ _) (Reg.op rfl (Ope.mov rfl ?_))))
    refine Reg.op rfl (Ope.add rfl rfl (by omega) ?_)
    refine Reg.op rfl (Ope.asg rfl ?_)
    refine Reg.nil ?_
    exact Run.lend ⟨i+1,by omega,⟨by omega,fun k hk hki=>by
      by_cases hkk:k=i
      · subst hkk;exact hc
      · exact hall k hk (by omega)⟩,⟨rfl,rfl,rfl,trivial⟩,rfl,rfl⟩
  ·refine Run.exit (Jmp.code (Jmp.round (Jmp.here (Run.seq (Run.region (cx_ok _ _ _) (Reg.op rfl (Ope.asg rfl ?_)))))))
   refine Reg.nil (Run.ret (fin_ret (.tmp rfl .nil) rfl ?_))
   first
   | (rw [hyes hlt hc hall];rfl)
   | (rw [hno fun k hk=>hall k hk (by omega)];rfl)
def ordR (n:Nat) (xs:List Int):Bool:=(List.range n).all (fun i=>decide (0≤atI xs (i:Int))) && decide (xs.length=n)
theorem ordR_eq {n : Nat} (hn : n ≤ 6) (xs : List Int) : ordR n xs = ordB n xs := by
  have key:ordR n xs=true↔ordB n xs=true:=by
    constructor
    · intro h
      unfold ordR at h
      simp only [Bool.and_eq_true,List.all_eq_true,List.mem_range,decide_eq_true_eq] at h
      obtain ⟨h1,h2⟩:=h
      have hm:∀ i,i < n→(i:Int)∈xs:=fun i hi=>atI_neg.1 (h1 i hi)
      -- what is in the limits
      let ys:=xs.filter (numB n)
      let o:=ys.map Int.toNat
      have hol:∀ i∈o,i < n:=fun i hi=>by
        obtain ⟨x,hx,rfl⟩:=List.mem_map.1 hi
        have:=(List.mem_filter.1 hx).2
        simp only [numB,Bool.and_eq_true,decide_eq_true_eq] at this
        omega
      have hoa:∀ i,i < n→i∈o:=fun i hi=>List.mem_map.2 ⟨(i:Int),List.mem_filter.2 ⟨hm i hi,by simp only [numB,Bool.and_eq_true,decide_eq_true_eq];omega⟩,by simp⟩
      have h3:=(lft_orJ o 0 hol).1
      rw [lft_0,(lft_zero n).2 fun i hi=>by rw [orJ_bit,decide_eq_true (hoa i hi),Bool.or_true]] at h3
      have h4:ys.length=xs.length:=by
        have:=List.length_filter_le (numB n) xs
        have:o.length=ys.length:=List.length_map _
        show (xs.filter (numB n)).length=_
        have h6:ys.length=(xs.filter (numB n)).length:=rfl
        omega
      have h5:∀ x∈xs,numB n x=true:=List.length_filter_eq_length_iff.1 h4
      have h6:xs=o.map fun i:Nat=>(i:Int):=by
        have e:ys=xs:=List.filter_eq_self.2 h5
        show xs=(ys.map Int.toNat).map fun i:Nat=>(i:Int)
        rw [e,List.map_map]
        have:∀ x∈xs,((fun i:Nat=>(i:Int)) ∘ Int.toNat) x=x:=fun x hx=>by
          have:=h5 x hx
          simp only [numB,Bool.and_eq_true,decide_eq_true_eq] at this
          show ((x.toNat:Nat):Int)=x
          omega
        exact ((List.map_congr_left this).trans (List.map_id' xs)).symm
      rw [h6]
      refine ordr_B hn ⟨?_,hol,hoa⟩
      have:o.length=ys.length:=List.length_map _
      omega
    · intro h
      obtain ⟨o,rfl,ho⟩:=ord_nat hn h
      unfold ordR
      simp only [Bool.and_eq_true,List.all_eq_true,List.mem_range,decide_eq_true_eq,List.length_map]
      exact ⟨fun i hi=>atI_neg.2 (List.mem_map.2 ⟨i,ho.all i hi,rfl⟩),ho.len⟩
  cases ha:ordR n xs<;>cases hb:ordB n xs<;>simp_all
section
variable (s:Shp) {t1 t2:Tail} (h1:t1.isOwn=false) (h2:t2.isOwn=false)
include h1 h2
theorem f38 (hJ:s.jo.length≤1000000) (t:Tail) (ht:t.isOwn=false) (xs:List Int) (hx:xs.length≤1000000):Fn P0 38 [s.v t1 t2,.sl t (xs.map I)] (B (ordR s.jo.length xs)):=by
  have hat:=fun x=>f68 t xs hx x
  have hba:∀ x:Int,PV.bds 0 [.sl t (xs.map I),I x]=true:=fun x=>bds_cons (bd_sl (f:=I) ht (fun _=>rfl) _) rfl
  have hno:∀ i,i < s.jo.length→atI xs i < 0→ordR s.jo.length xs=false:=fun i hi h=>by
    unfold ordR
    rw [show (List.range s.jo.length).all (fun i=>decide (0≤atI xs (i:Int)))=false from by
      rw [List.all_eq_false]
      exact ⟨i,List.mem_range.2 hi,by simp;omega⟩]
    rfl
  have hyes:(∀ i,i < s.jo.length→¬ atI xs i < 0)→ordR s.jo.length xs=decide ((xs.length:Int)=s.jo.length):=fun h=>by
    unfold ordR
    rw [show (List.range s.jo.length).all (fun i=>decide (0≤atI xs (i:Int)))=true from by
      rw [List.all_eq_true]
      exact fun i hi=>decide_eq_true (by have:=h i (List.mem_range.1 hi);omega),Bool.true_and]
    exact decide_eq_decide.2 (by omega)
  obtain ⟨su,jo⟩:=s
  simp only at hno hyes hJ
  refine PFun.of (C:=c38) (cx_ok _ _ _) rfl (fn:=Try.f38) (by kernel_rfl) (c:=_) rfl rfl rfl ?_
  refine Run.seq (Run.region (cx_ok _ _ _) (Reg.op rfl (Ope.boxF rfl rfl ?_)))
  refine Reg.op rfl (Ope.asg rfl ?_)
  refine Reg.nil (Run.seq (Run.seq (Run.region (cx_ok _ _ _) (Reg.op rfl (Ope.asg rfl ?_)))))
  refine Reg.nil (Run.block (Run.loop (α:=Nat) (fun i=>[(2,.fp (.agg [.sl t1 (su.map I),.sl t2 (jo.map Job.v)])),(1,.sl t (xs.map I)),(5,I i)]) (fun _=>HE 0 []) (fun i=>i≤jo.length∧∀ k,k < i→¬ atI xs k < 0) (fun i=>jo.length - i) 0 ⟨rfl,rfl,rfl,trivial⟩ rfl ⟨Nat.zero_le _,fun k h=>absurd h (Nat.not_lt_zero _)⟩ (fun i hi=>?_)))
  obtain ⟨hi,hall⟩:=hi
  refine Run.seq (Run.seq (Run.region (cx_ok _ _ _) (Reg.op rfl (Ope.mov rfl ?_))))
  refine Reg.op rfl (Ope.fld rfl rfl ?_)
  refine Reg.op rfl (Ope.load rfl rfl ?_)
  refine Reg.op rfl (Ope.len (m:=jo.length) rfl (by simp) ?_)
  refine Reg.op rfl (Ope.lt rfl rfl ?_)
  refine Reg.nil (Run.condX rfl (fun hc=>?_) fun hc=>?_)
  ·refine Run.skip (Run.seq (Run.block (Run.seq (Run.region (cx_ok _ _ _) (Reg.op rfl (Ope.mov rfl ?_))))))
   refine Reg.op rfl (Ope.mov rfl ?_)
   refine Reg.op rfl (Ope.cf rfl rfl (hat _) (hba _) ?_)
   refine Reg.op rfl (Ope.lt rfl rfl ?_)
   refine Reg.nil (Run.condX rfl (fun hc=>?_) fun hc=>?_)
   ·refine Run.seq (Run.region (cx_ok _ _ _) (Reg.op rfl (Ope.asg rfl ?_)))
    refine Reg.nil (Run.ret (Jmp.retB (Jmp.code (Jmp.round (Jmp.retB (Jmp.code (fin_ret (.tmp rfl .nil) rfl ?_)))))))
    first
    | (rw [hno i (by omega) hc];rfl)
    | (rw [hyes fun k hk=>hall k (by omega)];rfl)
   ·refine Run.skip (Run.bend (Run.region (cx_ok _ _ _) (Reg.op rfl (Ope.mov rfl ?_))))
    refine Reg.op rfl (Ope.add rfl rfl (by omega) ?_)
    refine Reg.op rfl (Ope.asg rfl ?_)
    refine Reg.nil ?_
    exact Run.lend ⟨i+1,by omega,⟨by omega,fun k hk=>by
      by_cases hkk:k=i
      · subst hkk;exact hc
      · exact hall k (by omega)⟩,⟨rfl,rfl,rfl,trivial⟩,rfl,rfl⟩
  ·refine Run.exit (Jmp.code (Jmp.round (Jmp.here (Run.seq (Run.region (cx_ok _ _ _) (Reg.op rfl (Ope.mov rfl ?_)))))))
   refine Reg.op rfl (Ope.len (m:=xs.length) rfl (by simp) ?_)
   refine Reg.op rfl (Ope.fld rfl rfl ?_)
   refine Reg.op rfl (Ope.load rfl rfl ?_)
   refine Reg.op rfl (Ope.len (m:=jo.length) rfl (by simp) ?_)
   refine Reg.op rfl (Ope.eq rfl rfl ?_)
   refine Reg.op rfl (Ope.asg rfl ?_)
   refine Reg.nil (Run.ret (fin_ret (.tmp rfl .nil) rfl ?_))
   first
   | (rw [hno i (by omega) hc];rfl)
   | (rw [hyes fun k hk=>hall k (by omega)];rfl)
theorem past_f1b {s:Shp} (hs:s.ok 30) {o:List Nat} (ho:Ordr s.jo.length o) (i:Nat):0≤(s.past Shp.p0 (o.take i)).f1∧(s.past Shp.p0 (o.take i)).f1≤5000:=by
  have hp:=past_ok hs (o.take i) Shp.p0 0 ⟨⟨Int.le_refl _,Int.le_refl _⟩,⟨Int.le_refl _,Int.le_refl _⟩⟩ (Int.le_refl _) fun j hj=>ho.lt j (List.mem_of_mem_take hj)
  have hlen:((o.take i).length:Int)≤6:=by rw [List.length_take];have:=ho.len;have:=hs.jo;omega
  have:=hp.f1
  omega
theorem f39 (hv:s.val=true) (hs:s.ok 30) (tq:Tail) (htq:tq.isOwn=false) (o:List Nat) (ho:Ordr s.jo.length o):Fn P0 39 [s.v t1 t2,.sl tq (o.map N)] (I (s.cst Shp.p0 o)):=by
  have hti:=timesV h1 h2 hv hs htq ho
  have hbo:PV.bds 0 [s.v t1 t2,.sl tq (o.map N)]=true:=bd_ord s h1 h2 tq htq o
  have hwl:(s.alg Shp.p0 o).length=o.length:=alg_len _ _ _
  have hol:=ho.len
  have hn6:=hs.jo
  have hst:∀ i (hi:i < o.length) (hw:i < (s.alg Shp.p0 o).length),s.cst Shp.p0 (o.take (i+1))=s.cst Shp.p0 (o.take i)+(s.job o[i]).co * max 0 (((s.alg Shp.p0 o)[i]).d1 - (s.job o[i]).so)∧0≤((s.alg Shp.p0 o)[i]).d1∧((s.alg Shp.p0 o)[i]).d1≤6000:=fun i hi hw=>by
    rw [alg_at s o Shp.p0 i hi]
    refine ⟨by rw [List.take_succ_eq_append_getElem hi,cst_snoc];rfl,?_⟩
    have h:=past_f1b h1 h2 hs ho (i+1)
    rw [List.take_succ_eq_append_getElem hi,past_snoc] at h
    have h3:(s.aft (s.wrk (s.past Shp.p0 (o.take i)) o[i])).f1=(s.wrk (s.past Shp.p0 (o.take i)) o[i]).d1:=rfl
    omega
  generalize s.alg Shp.p0 o=ws at *
  refine PFun.of (C:=c39) (cx_ok _ _ _) rfl (fn:=Try.f39) (by kernel_rfl) (c:=_) rfl rfl rfl ?_
  refine Run.seq (Run.region (cx_ok _ _ _) (Reg.op rfl (Ope.boxF rfl rfl ?_)))
  refine Reg.op rfl (Ope.asg rfl ?_)
  refine Reg.nil (Run.seq (Run.region (cx_ok _ _ _) (Reg.op rfl (Ope.load rfl rfl ?_))))
  refine Reg.op rfl (Ope.mov rfl ?_)
  refine Reg.op rfl (Ope.cf rfl rfl hti hbo ?_)
  refine Reg.op rfl (Ope.mov rfl ?_)
  refine Reg.op rfl (Ope.ext rfl rfl ?_)
  refine Reg.op rfl (Ope.ext rfl rfl ?_)
  refine Reg.op rfl (Ope.asg rfl ?_)
  refine Reg.op rfl (Ope.asg rfl ?_)
  refine Reg.nil (Run.seq (Run.seq (Run.region (cx_ok _ _ _) (Reg.op rfl (Ope.mov rfl ?_)))))
  refine Reg.op rfl (Ope.ne rfl rfl ?_)
  refine Reg.op rfl (Ope.mov rfl ?_)
  refine Reg.splitX rfl rfl (fun hg=>?_) fun hg=>?_
  ·first
   |(first | (exfalso;omega) | cases hg)
   |refine Reg.off rfl rfl rfl (Reg.off rfl rfl rfl (Reg.off rfl rfl rfl (Reg.off rfl rfl rfl (Reg.off rfl rfl rfl (Reg.op rfl (Ope.pickT rfl rfl ?_))))))
    refine Reg.nil (Run.condT rfl (Run.seq (Run.region (cx_ok _ _ _) (Reg.op rfl (Ope.asg rfl ?_)))))
    exact Reg.nil (Run.ret (Jmp.code (fin_ret (.tmp rfl .nil) rfl rfl)))
  ·first
   |(first | (exfalso;omega) | cases hg)
   |refine Reg.on rfl rfl rfl (Ope.mov rfl ?_)
    refine Reg.on rfl rfl rfl (Ope.len (m:=o.length) rfl (by rw [List.length_map,hwl]) ?_)
    refine Reg.on rfl rfl rfl (Ope.mov rfl ?_)
    refine Reg.on rfl rfl rfl (Ope.len (m:=o.length) rfl (by simp) ?_)
    refine Reg.on rfl rfl rfl (Ope.ne rfl rfl ?_)
    refine Reg.op rfl (Ope.pickF rfl rfl ?_)
    refine Reg.nil (Run.condX rfl (fun hc=>?_) fun hc=>?_)
    ·first | (exfalso;omega) | cases hc
    ·refine Run.skip (Run.seq (Run.region (cx_ok _ _ _) (Reg.op rfl (Ope.asg rfl ?_))))
     refine Reg.nil (Run.seq (Run.seq (Run.region (cx_ok _ _ _) (Reg.op rfl (Ope.mov rfl ?_)))))
     refine Reg.op rfl (Ope.len (m:=o.length) rfl (by simp) ?_)
     refine Reg.op rfl (Ope.mov rfl ?_)
     refine Reg.nil (Run.block (Run.loop (α:=Nat) (fun i=>[(2,.fp (s.v t1 t2)),(5,.sl .no (ws.map Wrk.sp)),(7,I (s.cst Shp.p0 (o.take i))),(25,.sl tq (o.map N)),(26,I o.length),(27,I i)]) (fun _=>HE 0 []) (fun i=>i≤o.length∧0≤s.cst Shp.p0 (o.take i)∧s.cst Shp.p0 (o.take i)≤1000000 * i) (fun i=>o.length - i) 0 ⟨rfl,rfl,rfl,rfl,rfl,rfl,trivial⟩ rfl ⟨Nat.zero_le _,Int.le_refl _,Int.le_refl _⟩ (fun i hi=>?_)))
     obtain ⟨hi,hcb⟩:=hi
     refine Run.seq (Run.region (cx_ok _ _ _) (Reg.op rfl (Ope.lt rfl rfl ?_)))
     refine Reg.nil (Run.seq (Run.condX rfl (fun hc=>?_) fun hc=>?_))
     ·refine Run.skip (Run.seq (Run.block (Run.seq (Run.region (cx_ok _ _ _) (Reg.op rfl (Ope.mov rfl ?_))))))
      refine Reg.op rfl (Ope.idxM (m:=i) (f:=N) rfl rfl rfl (by omega) (fun _=>rfl) ?_)
      refine Reg.op rfl (Ope.load rfl rfl ?_)
      refine Reg.op rfl (Ope.asg rfl ?_)
      refine Reg.op rfl (Ope.asg rfl ?_)
      refine Reg.nil ?_
      have hlt:i < o.length:=by omega
      have hwi:i < ws.length:=by omega
      have hoi:o[i] < s.jo.length:=ho.lt _ (List.getElem_mem hlt)
      have hst:=hst i hlt hwi
      have hj:=hs.job hoi
      rw [Shp.job_at hoi] at hst hj
      have hco:=hj.co
      have hso:=hj.so
      have hm1:0≤s.jo[o[i]].co * max 0 (ws[i].d1 - s.jo[o[i]].so):=Int.mul_nonneg hco.1 (by omega)
      have hm3:s.jo[o[i]].co * max 0 (ws[i].d1 - s.jo[o[i]].so)≤50 * 6000:=Int.mul_le_mul hco.2 (by omega) (by omega) (by decide)
      refine Run.draw (cx_ok _ _ _) [(0,true),(1,true),(2,true),(3,true),(4,true),(5,true),(6,true),(7,true),(8,true),(9,true),(10,true),(11,true),(12,true),(13,true),(14,true),(15,true),(16,true),(17,true),(18,true),(19,true),(20,true),(21,true),(22,true)] (by kernel_rfl) (Dra.op' rfl rfl rfl .sure (Ope.mov rfl ?_))
      refine Dra.op' rfl rfl rfl .sure (Ope.fld rfl rfl ?_)
      refine Dra.op' rfl rfl rfl .sure (Ope.load rfl rfl ?_)
      refine Dra.op' rfl rfl rfl .sure (Ope.mov rfl ?_)
      refine Dra.op' rfl rfl rfl .sure (Ope.idxM (m:=o[i]) (f:=Job.v) rfl rfl rfl hoi (fun _=>rfl) ?_)
      refine Dra.op' rfl rfl rfl .sure (Ope.fld rfl rfl ?_)
      refine Dra.op' rfl rfl rfl .sure (Ope.load rfl rfl ?_)
      refine Dra.op' rfl rfl rfl .sure (Ope.mov rfl ?_)
      refine Dra.op' rfl rfl rfl .sure (Ope.mov rfl ?_)
      refine Dra.op' rfl rfl rfl .sure (Ope.idxM (m:=i) (f:=Wrk.sp) rfl rfl rfl hwi (fun _=>rfl) ?_)
      refine Dra.op' rfl rfl rfl .sure (Ope.fld rfl rfl ?_)
      refine Dra.op' rfl rfl rfl .sure (Ope.load rfl rfl ?_)
      refine Dra.op' rfl rfl rfl .sure (Ope.fld rfl rfl ?_)
      refine Dra.op' rfl rfl rfl .sure (Ope.load rfl rfl ?_)
      refine Dra.op' rfl rfl rfl .sure (Ope.mov rfl ?_)
      refine Dra.op' rfl rfl rfl .sure (Ope.idxM (m:=o[i]) (f:=Job.v) rfl rfl rfl hoi (fun _=>rfl) ?_)
      refine Dra.op' rfl rfl rfl .sure (Ope.fld rfl rfl ?_)
      refine Dra.op' rfl rfl rfl .sure (Ope.load rfl rfl ?_)
      refine Dra.op' rfl rfl rfl .sure (Ope.sub rfl rfl (by omega) ?_)
      refine Dra.op' rfl rfl rfl .sure (Ope.maxI rfl rfl ?_)
      refine Dra.op' rfl rfl rfl .sure (Ope.mul rfl rfl (by omega) ?_)
      refine Dra.op' rfl rfl rfl .sure (Ope.add rfl rfl (by omega) ?_)
      refine Dra.op' rfl rfl rfl .sure (Ope.asg rfl ?_)
      refine Dra.nil (Run.bend (Run.region (cx_ok _ _ _) (Reg.op rfl (Ope.add rfl rfl (by omega) ?_))))
      refine Reg.op rfl (Ope.mov rfl ?_)
      exact Reg.nil (Run.lend ⟨i+1,by omega,⟨by omega,by rw [hst.1];omega,by rw [hst.1];omega⟩,⟨rfl,rfl,(by rw [hst.1];rfl),rfl,rfl,rfl,trivial⟩,rfl,rfl⟩)
     ·refine Run.exit (Jmp.code (Jmp.round (Jmp.here (Run.seq ?_))))
      obtain rfl:i=o.length:=by omega
      rw [List.take_length]
      refine Run.region (cx_ok _ _ _) (Reg.op rfl (Ope.mov rfl ?_))
      refine Reg.op rfl (Ope.asg rfl ?_)
      exact Reg.nil (Run.ret (fin_ret (.tmp rfl .nil) rfl rfl))
theorem f40 (hv:s.val=true) (hs:s.ok 30) (tq:Tail) (htq:tq.isOwn=false) (o:List Nat) (ho:Ordr s.jo.length o):Fn P0 40 [.sl tq (o.map N),.fp (s.v t1 t2)] (I (s.past Shp.p0 o).f1):=by
  have hti:=timesV h1 h2 hv hs htq ho
  have hbo:PV.bds 0 [s.v t1 t2,.sl tq (o.map N)]=true:=bd_ord s h1 h2 tq htq o
  have hwl:(s.alg Shp.p0 o).length=o.length:=alg_len _ _ _
  have hol:=ho.len
  have hn6:=hs.jo
  have hz:o.length=0→(s.past Shp.p0 o).f1=0:=fun h=>by
    have:=List.eq_nil_of_length_eq_zero h
    subst this;rfl
  have hl:∀ k (hk:k < (s.alg Shp.p0 o).length),k+1=o.length→(s.past Shp.p0 o).f1=((s.alg Shp.p0 o)[k]).d1:=fun k hk he=>by
    have hko:k < o.length:=by omega
    rw [alg_at s o Shp.p0 k hko]
    have h:s.past Shp.p0 (o.take (k+1))=s.aft (s.wrk (s.past Shp.p0 (o.take k)) o[k]):=by rw [List.take_succ_eq_append_getElem hko,past_snoc]
    rw [he,List.take_length] at h
    rw [h];rfl
  generalize s.alg Shp.p0 o=ws at *
  refine PFun.of (C:=c40) (cx_ok _ _ _) rfl (fn:=Try.f40) (by kernel_rfl) (c:=_) rfl rfl rfl ?_
  refine Run.seq (Run.region (cx_ok _ _ _) (Reg.op rfl (Ope.asg rfl ?_)))
  refine Reg.nil (Run.seq (Run.region (cx_ok _ _ _) (Reg.op rfl (Ope.load rfl rfl ?_))))
  refine Reg.op rfl (Ope.mov rfl ?_)
  refine Reg.op rfl (Ope.cf rfl rfl hti hbo ?_)
  refine Reg.op rfl (Ope.mov rfl ?_)
  refine Reg.op rfl (Ope.ext rfl rfl ?_)
  refine Reg.op rfl (Ope.ext rfl rfl ?_)
  refine Reg.op rfl (Ope.asg rfl ?_)
  refine Reg.op rfl (Ope.asg rfl ?_)
  refine Reg.nil (Run.seq (Run.seq (Run.region (cx_ok _ _ _) (Reg.op rfl (Ope.mov rfl ?_)))))
  refine Reg.op rfl (Ope.ne rfl rfl ?_)
  refine Reg.op rfl (Ope.mov rfl ?_)
  refine Reg.splitX rfl rfl (fun hg=>?_) fun hg=>?_
  ·first
   |(first | (exfalso;omega) | cases hg)
   |refine Reg.off rfl rfl rfl (Reg.off rfl rfl rfl (Reg.off rfl rfl rfl (Reg.op rfl (Ope.pickT rfl rfl ?_))))
    refine Reg.nil (Run.condT rfl (Run.seq (Run.region (cx_ok _ _ _) (Reg.op rfl (Ope.asg rfl ?_)))))
    refine Reg.nil (Run.ret (Jmp.code (fin_ret (.tmp rfl .nil) rfl ?_)))
    first
    | (rw [hz (by omega)];rfl)
    | (rw [hl (o.length - 1) (by omega) (by omega)];rfl)
  ·first
   |(first | (exfalso;omega) | cases hg)
   |refine Reg.on rfl rfl rfl (Ope.mov rfl ?_)
    refine Reg.on rfl rfl rfl (Ope.len (m:=o.length) rfl (by rw [List.length_map,hwl]) ?_)
    refine Reg.on rfl rfl rfl (Ope.eq rfl rfl ?_)
    refine Reg.op rfl (Ope.pickF rfl rfl ?_)
    refine Reg.nil (Run.condX rfl (fun hc=>?_) fun hc=>?_)
    ·refine Run.seq (Run.region (cx_ok _ _ _) (Reg.op rfl (Ope.asg rfl ?_)))
     refine Reg.nil (Run.ret (Jmp.code (fin_ret (.tmp rfl .nil) rfl ?_)))
     first
     | (rw [hz (by omega)];rfl)
     | (rw [hl (o.length - 1) (by omega) (by omega)];rfl)
    ·refine Run.skip (Run.seq (Run.region (cx_ok _ _ _) (Reg.op rfl (Ope.mov rfl ?_))))
     refine Reg.op rfl (Ope.mov rfl ?_)
     refine Reg.op rfl (Ope.len (m:=o.length) rfl (by rw [List.length_map,hwl]) ?_)
     refine Reg.op rfl (Ope.sub rfl rfl (by omega) ?_)
     refine Reg.op rfl (Ope.idxM (m:=o.length - 1) (f:=Wrk.sp) rfl rfl (by rw [show ((o.length:Int) - 1)=((o.length - 1:Nat):Int) from by omega];rfl) (by omega) (fun _=>rfl) ?_)
     refine Reg.op rfl (Ope.fld rfl rfl ?_)
     refine Reg.op rfl (Ope.load rfl rfl ?_)
     refine Reg.op rfl (Ope.asg rfl ?_)
     refine Reg.nil (Run.ret (fin_ret (.tmp rfl .nil) rfl ?_))
     first
     | (rw [hz (by omega)];rfl)
     | (rw [hl (o.length - 1) (by omega) (by omega)];rfl)
end
end Go.Pv
