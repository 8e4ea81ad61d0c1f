/- Parts of the proof: M31, M32, M33, M29, M35, M36 -/
import Derived.Test.YtgpcfkpenkaipaaP20
set_option linter.unusedVariables false
set_option linter.unusedSimpArgs false
set_option linter.unusedSectionVars false
namespace Go.Pv
open Go.Proofs Go.Am
set_option maxRecDepth 10000
theorem get_job (post:List PV) {c:Nat} (hc:c < 8):∀ (js:List Job) (i:Nat) (h:i < js.length),(flat (js.map Job.v)++post)[8 * i+c]?=js[i].v.cells[c]?
  | j :: js, 0, _ => by
    simp only [List.map_cons,flat,List.getElem_cons_zero,Nat.mul_zero,Nat.zero_add,List.append_assoc]
    exact List.getElem?_append_left (by show c < 8;exact hc)
  | j :: js, i + 1, h => by
    have ih:=get_job post hc js i (by simpa using h)
    simp only [List.map_cons,flat,List.getElem_cons_succ,List.append_assoc]
    have h8:j.v.cells.length=8:=rfl
    rw [List.getElem?_append_right (by rw [h8];omega),h8,← ih]
    congr 1
    omega
theorem set_job (post:List PV) {c:Nat} (hc:c < 8) {x:PV} {g:Job→Job} (hg:∀ j:Job,(g j).v.cells=j.v.cells.set c x):∀ (js:List Job) (i:Nat) (h:i < js.length),(flat (js.map Job.v)++post).set (8 * i+c) x=flat ((js.set i (g js[i])).map Job.v)++post
  | j :: js, 0, _ => by
    simp only [List.map_cons,flat,List.getElem_cons_zero,Nat.mul_zero,Nat.zero_add,List.set_cons_zero,List.append_assoc,hg]
    rw [List.set_append_left _ _ (by show c < 8;exact hc)]
  | j :: js, i + 1, h => by
    have ih:=set_job post hc hg js i (by simpa using h)
    simp only [List.map_cons,flat,List.getElem_cons_succ,List.set_cons_succ,List.append_assoc]
    have h8:j.v.cells.length=8:=rfl
    rw [List.set_append_right _ _ (by rw [h8];omega),h8,← ih]
    congr 2
    omega
theorem jobs_len (js:List Job) (post:List PV):(flat (js.map Job.v)++post).length=8 * js.length+post.length:=by rw [List.length_append,flat_jobs]
section
variable (s:Shp) {t1 t2:Tail} (h1:t1.isOwn=false) (h2:t2.isOwn=false)
include h1 h2
theorem f37 (hv:s.val=true) (hs:s.ok 30) (tq:Tail) (htq:tq.isOwn=false) (o:List Nat) (ho:Ordr s.jo.length o):Fn P0 37 [s.v t1 t2,.sl tq (o.map N)] (B (s.rgt o)):=by
  obtain ⟨J,R,g,hch,hgc⟩:=checkV h1 h2 hv hs htq ho
  have hbo:PV.bds 0 [s.v t1 t2,.sl tq (o.map N)]=true:=bd_ord s h1 h2 tq htq o
  have hr:s.rgt o=decide (g=4):=by
    rcases hgc with ⟨a,b,_⟩ | ⟨a,b,_⟩
    · rw [b,a];rfl
    · rw [b,a];rfl
  rw [hr]
  refine PFun.of (C:=c37) (cx_ok _ _ _) rfl (fn:=Try.f37) (by kernel_rfl) (c:=_) rfl rfl rfl ?_
  refine Run.seq (Run.region (cx_ok _ _ _) (Reg.op rfl (Ope.boxF rfl rfl ?_)))
  refine Reg.op rfl (Ope.asg rfl ?_)
  refine Reg.nil (Run.seq (Run.region (cx_ok _ _ _) (Reg.op rfl (Ope.load rfl rfl ?_))))
  refine Reg.op rfl (Ope.mov rfl ?_)
  refine Reg.op rfl (Ope.cf rfl rfl hch hbo ?_)
  refine Reg.op rfl (Ope.mov rfl ?_)
  refine Reg.op rfl (Ope.ext rfl rfl ?_)
  refine Reg.op rfl (Ope.ext rfl rfl ?_)
  refine Reg.op rfl (Ope.ext rfl rfl ?_)
  refine Reg.op rfl (Ope.asg rfl ?_)
  refine Reg.op rfl (Ope.asg rfl ?_)
  refine Reg.op rfl (Ope.asg rfl ?_)
  refine Reg.nil (Run.seq (Run.region (cx_ok _ _ _) (Reg.op rfl (Ope.mov rfl ?_))))
  refine Reg.op rfl (Ope.eq rfl rfl ?_)
  refine Reg.op rfl (Ope.asg rfl ?_)
  exact Reg.nil (Run.ret (fin_ret (.tmp rfl .nil) rfl rfl))
end
end Go.Pv
namespace Go.Pv
open Go.Proofs Go.Am
set_option maxRecDepth 10000
structure LaxJ (j k:Job):Prop where
  kd:k.kd=j.kd
  hi:k.hi≤j.hi
  fr:k.fr≤j.fr
  so:j.so≤k.so
  bt:j.bt≤k.bt
  co:k.co≤j.co
  c0:0≤k.co
  af:∀ q,k.af.toNat.testBit q=true→j.af.toNat.testBit q=true
structure Lax (s x:Shp):Prop where
  su:x.su=s.su
  n:x.jo.length=s.jo.length
  j:∀ i,i < s.jo.length→LaxJ (s.job i) (x.job i)
structure PLax (p q:Pst):Prop where
  J:q.J=p.J
  kd:q.kd=p.kd
  f1:q.f1≤p.f1
theorem Shp.set_su {s x:Shp} (h:x.su=s.su) (k:Int):x.set k=s.set k:=by unfold Shp.set;rw [h]
section
variable {s x:Shp} (hL:Lax s x)
include hL
theorem lax_wrk {p q:Pst} (hp:PLax p q) {i:Nat} (hi:i < s.jo.length):(x.wrk q i).d1≤(s.wrk p i).d1:=by
  have hj:=hL.j i hi
  have hr:(x.rdy q (x.job i).kd).2≤(s.rdy p (s.job i).kd).2:=by
    unfold Shp.rdy
    rw [hj.kd,hp.kd,Shp.set_su hL.su]
    have:=hp.f1
    split
    · exact this
    · show q.f1+_≤p.f1+_;omega
  have h1:=hj.fr
  have h2:=hj.hi
  show max _ _+_≤max _ _+_
  omega
theorem lax_aft {p q:Pst} (hp:PLax p q) {i:Nat} (hi:i < s.jo.length):PLax (s.aft (s.wrk p i)) (x.aft (x.wrk q i)):=by
  refine ⟨?_,(hL.j i hi).kd,lax_wrk hL hp hi⟩
  show q.J ||| _=p.J ||| _
  rw [hp.J];rfl
theorem lax_past:∀ (o:List Nat) (p q:Pst),PLax p q→(∀ i∈o,i < s.jo.length)→PLax (s.past p o) (x.past q o)
  | [],p,q,hp,_=>hp
  | i::l,p,q,hp,h=>lax_past l _ _ (lax_aft hL hp (h i (by simp))) fun j hj=>h j (List.mem_cons_of_mem _ hj)
end
structure SameJ (j k:Job):Prop where
  kd:k.kd=j.kd
  hi:k.hi=j.hi
  fr:k.fr=j.fr
  so:k.so=j.so
  bt:k.bt=j.bt
  co:k.co=j.co
  af:k.af=j.af
structure Same (s x:Shp):Prop where
  su:x.su=s.su
  n:x.jo.length=s.jo.length
  j:∀ i,i < s.jo.length→SameJ (s.job i) (x.job i)
structure PSame (p q:Pst):Prop where
  J:q.J=p.J
  kd:q.kd=p.kd
  f1:q.f1=p.f1
section
variable {s x:Shp} (hL:Same s x)
include hL
end
theorem job_map {s:Shp} {g:Job→Job} {i:Nat} (hi:i < s.jo.length):(⟨s.su,s.jo.map g⟩:Shp).job i=g (s.job i):=by
  rw [Shp.job_at hi,Shp.job_at (show i < (s.jo.map g).length by rw [List.length_map];exact hi)]
  exact List.getElem_map _
end Go.Pv
namespace Go.Pv
open Go.Proofs Go.Am
set_option maxRecDepth 10000
end Go.Pv
namespace Go.Pv
open Go.Proofs Go.Am
set_option maxRecDepth 10000
section
variable (s:Shp) {t1 t2:Tail} (h1:t1.isOwn=false) (h2:t2.isOwn=false)
include h1 h2
end
end Go.Pv
namespace Go.Pv
open Go.Proofs Go.Am
set_option maxRecDepth 10000
def upN (g:Job→Job) (i:Nat) (js:List Job):List Job:=(js.take i).map g++js.drop i
theorem upN_len (g:Job→Job) (i:Nat) (js:List Job):(upN g i js).length=js.length:=by simp [upN];omega
theorem upN_tk {g:Job→Job} {i:Nat} {js:List Job} (h:i < js.length):((js.take i).map g).length=i:=by
  rw [List.length_map,List.length_take];omega
theorem upN_at {g:Job→Job} {i:Nat} {js:List Job} (h:i < js.length):(upN g i js)[i]'(by rw [upN_len];exact h)=js[i]:=by
  have hl:=upN_tk (g:=g) h
  simp only [upN]
  rw [List.getElem_append_right (by rw [hl];exact Nat.le_refl _),List.getElem_drop]
  congr 1
  omega
theorem upN_succ {g:Job→Job} {i:Nat} {js:List Job} (h:i < js.length):(upN g i js).set i (g js[i])=upN g (i+1) js:=by
  have hl:=upN_tk (g:=g) h
  simp only [upN]
  rw [List.take_succ_eq_append_getElem h,List.map_append,List.drop_eq_getElem_cons h,List.set_append_right _ _ (by rw [hl];exact Nat.le_refl _),hl,Nat.sub_self,List.set_cons_zero]
  simp
theorem upN_all (g:Job→Job) (js:List Job):upN g js.length js=js.map g:=by simp [upN]
section
variable (s:Shp) {t1 t2:Tail} (h1:t1.isOwn=false) (h2:t2.isOwn=false)
include h1 h2
theorem f41e (hj:s.jo=[]) (n:Int):Fn P0 41 [s.v t1 t2,I n] ((s.lon n).v t1 .ex):=by
  have hbr:PV.bd 0 (.agg [.sl t1 (s.su.map I),.sl .ex []])=true:=bd_agg (bds_cons (bd_sl (f:=I) h1 (fun _=>rfl) _) rfl)
  obtain ⟨su,jo⟩:=s
  simp only at hj
  subst hj
  refine PFun.of (C:=c41) (cx_ok _ _ _) rfl (fn:=Try.f41) (by kernel_rfl) (c:=_) rfl rfl rfl ?_
  refine Run.seq (Run.region (cx_ok _ _ _) (Reg.op rfl (Ope.boxF rfl rfl ?_)))
  refine Reg.op rfl (Ope.newL rfl ?_)
  refine Reg.nil (Run.seq (Run.region (cx_ok _ _ _) (Reg.op rfl (Ope.load rfl rfl ?_))))
  refine Reg.op rfl (Ope.newL rfl ?_)
  refine Reg.op0 (Ope.store rfl rfl hget_hd rfl rfl rfl ?_)
  refine Reg.nil (Run.seq (Run.region (cx_ok _ _ _) (Reg.op rfl (Ope.bsl rfl rfl rfl rfl ?_))))
  refine Reg.op rfl (Ope.fld rfl rfl ?_)
  refine Reg.op rfl (Ope.load rfl rfl ?_)
  refine Reg.op rfl (Ope.ap0 rfl rfl ?_)
  refine Reg.op rfl (Ope.fld rfl rfl ?_)
  refine Reg.op0 (Ope.store rfl rfl hget_hd rfl rfl rfl ?_)
  refine Reg.nil (Run.seq (Run.seq (Run.region (cx_ok _ _ _) (Reg.op rfl (Ope.asg rfl ?_)))))
  refine Reg.nil (Run.block (Run.wide (m:=2) (l':=[(1,some (.cells [.sl t1 (su.map I),.sl .ex []])),(0,some (.cells [.sl .ex [],.sl .ex []]))]) (Nat.le_refl _) ⟨rfl,rfl,trivial⟩ ?_))
  refine Run.loop (α:=Nat) (fun i=>[(5,.ptr 1 0),(4,.ptr 0 0),(6,I i)]) (fun _=>HE 2 [(1,some (.cells [.sl t1 (su.map I),.sl .ex []])),(0,some (.cells [.sl .ex [],.sl .ex []]))]) (fun i=>i=0) (fun i=>i) 0 ⟨rfl,rfl,rfl,trivial⟩ rfl rfl (fun i hi=>?_)
  subst hi
  refine Run.seq (Run.seq (Run.region (cx_ok _ _ _) (Reg.op rfl (Ope.mov rfl ?_))))
  refine Reg.op rfl (Ope.fld rfl rfl ?_)
  refine Reg.op rfl (Ope.load rfl rfl ?_)
  refine Reg.op rfl (Ope.len (m:=0) rfl rfl ?_)
  refine Reg.op rfl (Ope.lt rfl rfl ?_)
  refine Reg.nil (Run.condX rfl (fun hc=>?_) fun hc=>?_)
  ·(exfalso;omega)
  ·refine Run.exit (Jmp.code (Jmp.round (Jmp.here (Run.seq (Run.region (cx_ok _ _ _) (Reg.op rfl (Ope.load rfl rfl ?_)))))))
   refine Reg.op0 (Ope.store rfl rfl rfl rfl rfl rfl ?_)
   exact Reg.nil (Run.ret (fin_ret (.cell rfl rfl .nil) hbr rfl))
theorem f41l (hs:s.ok 30) (hne:s.jo≠[]) (n:Int) (hn:0≤n∧n≤100):Fn P0 41 [s.v t1 t2,I n] ((s.lon n).v t1 .no):=by
  have hl6:=hs.jo
  have hjv:=hs.jv
  have hbr:PV.bd 0 (.agg [.sl t1 (s.su.map I),.sl .no ((s.jo.map (Job.lon n)).map Job.v)])=true:=bd_agg (bds_cons (bd_sl (f:=I) h1 (fun _=>rfl) _) (bds_cons (bd_sl (f:=Job.v) (tl:=.no) rfl (fun _=>rfl) _) rfl))
  obtain ⟨su,jo⟩:=s
  simp only at hne hl6 hbr hjv
  have hne':jo.map Job.v≠[]:=fun h=>hne (List.map_eq_nil_iff.1 h)
  have hln:([]:List PV).length+(jo.map Job.v).length=jo.length:=by simp
  refine PFun.of (C:=c41) (cx_ok _ _ _) rfl (fn:=Try.f41) (by kernel_rfl) (c:=_) rfl rfl rfl ?_
  refine Run.seq (Run.region (cx_ok _ _ _) (Reg.op rfl (Ope.boxF rfl rfl ?_)))
  refine Reg.op rfl (Ope.newL rfl ?_)
  refine Reg.nil (Run.seq (Run.region (cx_ok _ _ _) (Reg.op rfl (Ope.load rfl rfl ?_))))
  refine Reg.op rfl (Ope.newL rfl ?_)
  refine Reg.op0 (Ope.store rfl rfl hget_hd rfl rfl rfl ?_)
  refine Reg.nil (Run.seq (Run.region (cx_ok _ _ _) (Reg.op rfl (Ope.bsl rfl rfl rfl rfl ?_))))
  refine Reg.op rfl (Ope.fld rfl rfl ?_)
  refine Reg.op rfl (Ope.load rfl rfl ?_)
  refine Reg.op rfl (Ope.apLa rfl rfl hne' (by rw [hln];omega) (by rw [hln];omega) (by decide) (by simp) (by intro v hv;obtain ⟨_,_,rfl⟩:=List.mem_map.1 hv;exact ⟨rfl,rfl⟩) (fun cp post ez hcp=>?_))
  have hcp':jo.length≤cp:=by simpa using hcp
  rw [hln]
  refine Reg.op rfl (Ope.fld rfl rfl ?_)
  refine Reg.op0 (Ope.store rfl rfl ((hget_tl (by omega)).trans hget_hd) rfl rfl rfl ?_)
  refine Reg.nil (Run.seq (Run.seq (Run.region (cx_ok _ _ _) (Reg.op rfl (Ope.asg rfl ?_)))))
  refine Reg.nil (Run.block (Run.wide (m:=3) (l':=[(2,some (.cells (flat ((upN (Job.lon n) 0 jo).map Job.v)++post))),(1,some (.cells [.sl t1 (su.map I),.ms 2 0 jo.length cp ez])),(0,some (.cells [.sl .ex [],.sl .ex []]))]) (Nat.le_refl _) ⟨rfl,rfl,rfl,trivial⟩ ?_))
  refine Run.loop (α:=Nat) (fun i=>[(1,I n),(5,.ptr 1 0),(4,.ptr 0 0),(6,I i)]) (fun i=>HE 3 [(2,some (.cells (flat ((upN (Job.lon n) i jo).map Job.v)++post))),(1,some (.cells [.sl t1 (su.map I),.ms 2 0 jo.length cp ez])),(0,some (.cells [.sl .ex [],.sl .ex []]))]) (fun i=>i≤jo.length) (fun i=>jo.length - i) 0 ⟨rfl,rfl,rfl,rfl,trivial⟩ rfl (Nat.zero_le _) (fun i hi=>?_)
  refine Run.seq (Run.seq (Run.region (cx_ok _ _ _) (Reg.op rfl (Ope.mov rfl ?_))))
  refine Reg.op rfl (Ope.fld rfl rfl ?_)
  refine Reg.op rfl (Ope.load rfl rfl ?_)
  refine Reg.op rfl (Ope.lenL rfl ?_)
  refine Reg.op rfl (Ope.lt rfl rfl ?_)
  refine Reg.nil (Run.condX rfl (fun hc=>?_) fun hc=>?_)
  ·refine Run.skip (Run.seq (Run.block ?_))
   have hlt:i < jo.length:=by omega
   have hmi:=(hjv i hlt).mi
   have hlt':i < (upN (Job.lon n) i jo).length:=by rw [upN_len];exact hlt
   have hg2:=get_job post (c:=2) (by decide) (upN (Job.lon n) i jo) i hlt'
   rw [upN_at hlt] at hg2
   have hs2:=set_job post (c:=2) (by decide) (x:=I (jo[i].hi+n)) (g:=fun j=>{ j with hi:=jo[i].hi+n }) (fun j=>rfl) (upN (Job.lon n) i jo) i hlt'
   rw [upN_at hlt] at hs2
   have hsu:=upN_succ (g:=Job.lon n) hlt
   have hcl:=jobs_len (upN (Job.lon n) i jo) post
   rw [upN_len] at hcl
   have hgo2:∀ q,q=8 * i+2→(flat ((upN (Job.lon n) i jo).map Job.v)++post)[q]?=some (I jo[i].hi):=by rintro q rfl;exact hg2
   have hso2:∀ q,q=8 * i+2→(flat ((upN (Job.lon n) i jo).map Job.v)++post).set q (I (jo[i].hi+n))=flat ((upN (Job.lon n) (i+1) jo).map Job.v)++post:=by
     rintro q rfl
     refine hs2.trans ?_
     rw [← hsu];rfl
   refine Run.draw (cx_ok _ _ _) [(0,true),(1,true),(2,true),(3,true),(4,true),(5,true),(6,true),(7,true),(8,true),(9,true),(10,true),(11,true),(12,true),(13,true),(14,true),(15,true)] (by kernel_rfl) (Dra.op' rfl rfl rfl .sure (Ope.fld rfl rfl ?_))
   refine Dra.op' rfl rfl rfl .sure (Ope.load rfl rfl ?_)
   refine Dra.op' rfl rfl rfl .sure (Ope.mov rfl ?_)
   refine Dra.op' rfl rfl rfl .sure (Ope.fld rfl rfl ?_)
   refine Dra.op' rfl rfl rfl .sure (Ope.load rfl rfl ?_)
   refine Dra.op' rfl rfl rfl .sure (Ope.mov rfl ?_)
   refine Dra.op' rfl rfl rfl .sure (Ope.idxL (m:=i) rfl rfl rfl hlt ?_)
   refine Dra.op' rfl rfl rfl .sure (Ope.fld rfl rfl ?_)
   refine Dra.op' rfl rfl rfl .sure (Ope.fld rfl rfl ?_)
   refine Dra.op' rfl rfl rfl .sure (Ope.loadL rfl hget_hd (hgo2 _ (by show 0+i * 8+1+1=_;omega)) ?_)
   refine Dra.op' rfl rfl rfl .sure (Ope.mov rfl ?_)
   refine Dra.op' rfl rfl rfl .sure (Ope.add rfl rfl (by omega) ?_)
   refine Dra.op' rfl rfl rfl .sure (Ope.idxL (m:=i) rfl rfl rfl hlt ?_)
   refine Dra.op' rfl rfl rfl .sure (Ope.fld rfl rfl ?_)
   refine Dra.op' rfl rfl rfl .sure (Ope.fld rfl rfl ?_)
   refine Dra.op' rfl rfl rfl .sure (Ope.storeL rfl rfl hget_hd rfl rfl (by rw [hcl];show 0+i * 8+1+1 < _;omega) ?_)
   refine Dra.nil (Run.bend (Run.wide (m:=3) (l':=[(2,some (.cells (flat ((upN (Job.lon n) (i+1) jo).map Job.v)++post))),(1,some (.cells [.sl t1 (su.map I),.ms 2 0 jo.length cp ez])),(0,some (.cells [.sl .ex [],.sl .ex []]))]) (Nat.le_refl _) ⟨hget_hd.trans (congrArg (fun l=>some (PBlk.cells l)) (hso2 _ (by show 0+i * 8+1+1=_;omega))),rfl,rfl,trivial⟩ ?_))
   refine Run.region (cx_ok _ _ _) (Reg.op rfl (Ope.mov rfl ?_))
   refine Reg.op rfl (Ope.add rfl rfl (by omega) ?_)
   refine Reg.op rfl (Ope.asg rfl ?_)
   exact Reg.nil (Run.lend ⟨i+1,by omega,by omega,⟨rfl,rfl,rfl,rfl,trivial⟩,rfl,rfl⟩)
  ·refine Run.exit (Jmp.code (Jmp.round (Jmp.here (Run.seq ?_))))
   obtain rfl:i=jo.length:=by omega
   rw [upN_all]
   refine Run.frzB (x:=1) (i:=2) (pre:=[.sl t1 (su.map I)]) (suf:=[]) (vs:=(jo.map (Job.lon n)).map Job.v) (post:=post) (sz:=8) rfl rfl (by decide) (by simp) hcp' (by intro v hv;obtain ⟨_,_,rfl⟩:=List.mem_map.1 hv;rfl) ?_
   refine Run.region (cx_ok _ _ _) (Reg.op rfl (Ope.load rfl rfl ?_))
   refine Reg.op0 (Ope.store rfl rfl rfl rfl rfl rfl ?_)
   exact Reg.nil (Run.ret (fin_ret (.cell rfl rfl .nil) hbr rfl))
theorem f41 (hs:s.ok 30) (n:Int) (hn:0≤n∧n≤100):∃ t3:Tail,t3.isOwn=false∧Fn P0 41 [s.v t1 t2,I n] ((s.lon n).v t1 t3):=by
  by_cases h:s.jo=[]
  · exact ⟨.ex,rfl,f41e s h1 h2 h n⟩
  · exact ⟨.no,rfl,f41l s h1 h2 hs h n hn⟩
end
theorem lon_i64 {s:Shp} (h:s.i64) (n:Int):(s.lon n).i64:=fun i hi=>by
  have hi':i < s.jo.length:=by simpa [Shp.lon] using hi
  have e:(s.lon n).jo[i]=(s.jo[i]).lon n:=by simp [Shp.lon]
  rw [e]
  exact h i hi'
theorem lon_zero (s:Shp):s.lon 0=s:=by
  obtain ⟨su,jo⟩:=s
  have:Job.lon 0=id:=funext fun j=>by obtain ⟨a,b,c,d,e,f,g,h⟩:=j;simp [Job.lon]
  simp [Shp.lon,this]
theorem slk_spec (s:Shp) (o:List Nat):∀ (k m:Nat),(s.lon m).rgt o=true→∃ r,s.slk o k m=r∧m≤r∧r≤m+k∧(s.lon r).rgt o=true∧(r < m+k→(s.lon ((r:Int)+1)).rgt o=false)
  | 0,m,h=>⟨m,rfl,Nat.le_refl _,Nat.le_refl _,h,fun h=>absurd h (Nat.lt_irrefl _)⟩
  | k + 1, m, h => by
    simp only [Shp.slk]
    split
    · next hr =>
      obtain ⟨r,a,b,c,d,e⟩:=slk_spec s o k (m+1) hr
      exact ⟨r,a,by omega,by omega,d,fun hlt=>e (by omega)⟩
    · next hr=>exact ⟨m,rfl,Nat.le_refl _,by omega,h,fun _=>by simpa using hr⟩
theorem lon_by {s:Shp} (hs:s.ok 30) {n:Int} (hn:0≤n) {o:List Nat} (ho:∀ i∈o,i < s.jo.length) (hr:(s.lon n).rgt o=true) {i:Nat} (hi:i < (s.alg Shp.p0 o).length) :
    ((s.alg Shp.p0 o)[i]).d1+n≤(s.job ((s.alg Shp.p0 o)[i]).j).bt:=by
  have hL:Lax (s.lon n) s:=⟨rfl,by simp [Shp.lon],fun i hi=>by
    have hi':i < s.jo.length:=by simpa [Shp.lon] using hi
    have e:(s.lon n).job i=(s.job i).lon n:=job_map hi'
    have h:=hs.job hi'
    rw [e]
    exact ⟨rfl,by show (s.job i).hi≤(s.job i).hi+n;omega,Int.le_refl _,Int.le_refl _,Int.le_refl _,Int.le_refl _,h.co.1,fun q h=>h⟩⟩
  have hlo:(s.alg Shp.p0 o).length=o.length:=alg_len _ _ _
  have hio:i < o.length:=by omega
  have hlx:((s.lon n).alg Shp.p0 o).length=o.length:=alg_len _ _ _
  have hoi:=ho _ (List.getElem_mem hio)
  have hbad:=flt_all (rgt_iff.1 hr) i (by omega)
  rw [alg_at (s.lon n) o Shp.p0 i hio] at hbad
  rw [alg_at s o Shp.p0 i hio]
  have hp:=lax_past hL (o.take i) Shp.p0 Shp.p0 ⟨rfl,rfl,Int.le_refl _⟩ fun j hj=>by
    have:=ho j (List.mem_of_mem_take hj)
    simpa [Shp.lon] using this
  generalize s.past Shp.p0 (o.take i)=p at *
  generalize (s.lon n).past Shp.p0 (o.take i)=q at *
  have hlt:=(bad_zero.1 hbad).2
  have ej:(s.lon n).job o[i]=(s.job o[i]).lon n:=job_map hoi
  unfold Shp.late at hlt
  simp only [decide_eq_false_iff_not] at hlt
  have h3:¬ ((s.lon n).job o[i]).bt < ((s.lon n).wrk q o[i]).d1:=hlt
  have h4:((s.lon n).wrk q o[i]).d1=max (s.rdy q (s.job o[i]).kd).2 (s.job o[i]).fr+((s.job o[i]).hi+n):=by
    unfold Shp.wrk
    rw [ej]
    rfl
  rw [ej,h4] at h3
  have h5:(s.rdy p (s.job o[i]).kd).2≤(s.rdy q (s.job o[i]).kd).2:=by
    unfold Shp.rdy
    have h1:=hp.f1
    rw [← hp.kd]
    split
    · exact h1
    · show p.f1+_≤q.f1+_;omega
  show max (s.rdy p (s.job o[i]).kd).2 (s.job o[i]).fr+(s.job o[i]).hi+n≤(s.job o[i]).bt
  have h6:¬ (s.job o[i]).bt < max (s.rdy q (s.job o[i]).kd).2 (s.job o[i]).fr+((s.job o[i]).hi+n):=h3
  omega
end Go.Pv
namespace Go.Pv
open Go.Proofs Go.Am
set_option maxRecDepth 10000
section
variable {C:Cx} {F:EQ} {X:EX} {k:List KI} {e:EL} {ds:List Nat} {K:PV→PH→Prop} {n:Nat} {l:HL}
variable {d:Option Tmp} {type:TypeId} {pos:String} {after:Array Edge} {guard:Option (Nat×Bool)}
theorem Ope.apXe {t tx sz bytes sz' bytes':Nat} {agg agg':Bool} {x y:Operand} {tl':Tail} {vs ws:List PV} [hs:Slc C.A t agg sz bytes] [hs':Slc C.A tx agg' sz' bytes'] (hx:pev (lget e) x=some (.sl .ex vs)) (hy:pev (lget e) y=some (.sl tl' ws))
    (hb1:(vs.length+ws.length) * bytes≤140737488355328) (hb2:vs.length+ws.length≤1000000000) (h1:1≤sz) (hv:∀ v∈vs,v.nc=sz) (hw:∀ v∈ws,v.nc=sz∧PV.allOne v.cells=true) (hK:∀ (t':Tail) (n':Nat),t'.isOwn=false→n≤n'→K (.sl t' (vs++ws)) (HE n' l)) :
    Ope C X { dst:=d,op:=.call { callee:=.builtin .append,args:=#[x,y],argTypes:=#[t,tx] },type,pos,after,guard } e ds (HE n l) K:=by
  by_cases hne:ws=[]
  · subst hne
    exact Ope.ap0 hx hy (by have:=hK .ex n rfl (Nat.le_refl _);rw [List.append_nil] at this;exact this)
  · exact Ope.apX hx hy hne hb1 hb2 h1 hv hw (hK .no (n+1) rfl (Nat.le_succ _))
end
section
variable (s:Shp) {t1 t2:Tail} (h1:t1.isOwn=false) (h2:t2.isOwn=false)
include h1 h2
theorem f8n (hi:s.i64) (a:PV) (hv:s.val=false):Fn P0 8 [s.v t1 t2,a] (B true):=by
  have hfi:=f33 s h1 h2 hi
  rw [hv] at hfi
  have hbs:PV.bds 0 [s.v t1 t2]=true:=bd_shpV s h1 h2 rfl
  refine PFun.of (C:=c8) (cx_ok _ _ _) rfl (fn:=Try.f8) (by kernel_rfl) (c:=_) rfl rfl rfl ?_
  refine Run.seq (Run.region (cx_ok _ _ _) (Reg.op rfl (Ope.boxF rfl rfl ?_)))
  refine Reg.op rfl (Ope.asg rfl ?_)
  refine Reg.nil (Run.seq (Run.seq (Run.region (cx_ok _ _ _) (Reg.op rfl (Ope.load rfl rfl ?_)))))
  refine Reg.op rfl (Ope.cf rfl rfl hfi hbs ?_)
  refine Reg.op rfl (Ope.not rfl ?_)
  refine Reg.nil (Run.condX rfl (fun hc=>?_) fun hc=>?_)
  ·refine Run.seq (Run.region (cx_ok _ _ _) (Reg.op rfl (Ope.cf rfl rfl (awakeF) rfl ?_)))
   refine Reg.op rfl (Ope.asg rfl ?_)
   exact Reg.nil (Run.ret (Jmp.code (fin_ret (.tmp rfl .nil) rfl rfl)))
  ·cases hc
theorem f8w (hi : s.i64) (hv : s.val = true) (tb : Tail) (htb : tb.isOwn = false) (by' : List Nat) (om : List Nat) (tm : Tail) (htm : tm.isOwn = false) (hom : Ordr s.jo.length om) (hma : Fn P0 34 [s.v t1 t2, .sl tb (by'.map U8)] (.sl tm (om.map N))) (hr : s.rgt om = false) :
    Fn P0 8 [s.v t1 t2,.sl tb (by'.map U8)] (B true):=by
  have hfi:=f33 s h1 h2 hi
  rw [hv] at hfi
  have hs:=val_ok hi hv
  have hbs:PV.bds 0 [s.v t1 t2]=true:=bd_shpV s h1 h2 rfl
  have hbm:PV.bds 0 [s.v t1 t2,.sl tb (by'.map U8)]=true:=bd_shpV s h1 h2 (bds_cons (bd_sl (f:=U8) htb (fun _=>rfl) _) rfl)
  have hbo:PV.bds 0 [s.v t1 t2,.sl tm (om.map N)]=true:=bd_ord s h1 h2 tm htm om
  have hsl:=f18no s h1 h2 (by have:=hs.su;omega) (by have:=hs.jo;omega) tm htm hv hs om hom hr
  have hrg:=f37 s h1 h2 hv hs tm htm om hom
  rw [hr] at hrg
  refine PFun.of (C:=c8) (cx_ok _ _ _) rfl (fn:=Try.f8) (by kernel_rfl) (c:=_) rfl rfl rfl ?_
  refine Run.seq (Run.region (cx_ok _ _ _) (Reg.op rfl (Ope.boxF rfl rfl ?_)))
  refine Reg.op rfl (Ope.asg rfl ?_)
  refine Reg.nil (Run.seq (Run.seq (Run.region (cx_ok _ _ _) (Reg.op rfl (Ope.load rfl rfl ?_)))))
  refine Reg.op rfl (Ope.cf rfl rfl hfi hbs ?_)
  refine Reg.op rfl (Ope.not rfl ?_)
  refine Reg.nil (Run.condX rfl (fun hc=>?_) fun hc=>?_)
  ·cases hc
  ·refine Run.skip (Run.seq (Run.region (cx_ok _ _ _) (Reg.op rfl (Ope.load rfl rfl ?_))))
   refine Reg.op rfl (Ope.mov rfl ?_)
   refine Reg.op rfl (Ope.cf rfl rfl hma hbm ?_)
   refine Reg.op rfl (Ope.asg rfl ?_)
   refine Reg.nil (Run.seq (Run.region (cx_ok _ _ _) (Reg.op rfl (Ope.load rfl rfl ?_))))
   refine Reg.op rfl (Ope.mov rfl ?_)
   refine Reg.op rfl (Ope.cf rfl rfl hsl hbo ?_)
   refine Reg.op rfl (Ope.mov rfl ?_)
   refine Reg.op rfl (Ope.ext rfl rfl ?_)
   refine Reg.op rfl (Ope.ext rfl rfl ?_)
   refine Reg.op rfl (Ope.asg rfl ?_)
   refine Reg.op rfl (Ope.asg rfl ?_)
   refine Reg.nil (Run.seq (Run.seq (Run.region (cx_ok _ _ _) (Reg.op rfl (Ope.mov rfl ?_)))))
   refine Reg.op rfl (Ope.ne rfl rfl ?_)
   refine Reg.nil (Run.condX rfl (fun hc=>?_) fun hc=>?_)
   ·refine Run.seq (Run.region (cx_ok _ _ _) (Reg.op rfl (Ope.mov rfl ?_)))
    refine Reg.op rfl (Ope.eq rfl rfl ?_)
    refine Reg.op rfl (Ope.mov rfl ?_)
    refine Reg.splitX rfl rfl (fun hg=>?_) fun hg=>?_
    ·first
     |(first | (exfalso;omega) | (exfalso;simp at hg;done))
     |refine Reg.on rfl rfl rfl (Ope.mov rfl ?_)
      refine Reg.on rfl rfl rfl (Ope.eq rfl rfl ?_)
      refine Reg.op rfl (Ope.pickT rfl rfl ?_)
      refine Reg.op rfl (Ope.mov rfl ?_)
      refine Reg.splitX rfl rfl (fun hg=>?_) fun hg=>?_
      ·first
       |(first | (exfalso;omega) | (exfalso;simp at hg;done))
       |refine Reg.on rfl rfl rfl (Ope.load rfl rfl ?_)
        refine Reg.on rfl rfl rfl (Ope.mov rfl ?_)
        refine Reg.on rfl rfl rfl (Ope.cf rfl rfl hrg hbo ?_)
        refine Reg.on rfl rfl rfl (Ope.not rfl ?_)
        refine Reg.op rfl (Ope.pickT rfl rfl ?_)
        refine Reg.op rfl (Ope.mov rfl ?_)
        refine Reg.splitX rfl rfl (fun hg=>?_) fun hg=>?_
        ·first
         |(first | (exfalso;omega) | (exfalso;simp at hg;done))
         |refine Reg.on rfl rfl rfl (Ope.cf rfl rfl (awakeF) rfl ?_)
          refine Reg.op rfl (Ope.pickT rfl rfl ?_)
          refine Reg.op rfl (Ope.asg rfl ?_)
          exact Reg.nil (Run.ret (Jmp.code (fin_ret (.tmp rfl .nil) rfl rfl)))
        ·first
         |(first | (exfalso;omega) | (exfalso;simp at hg;done))
         |refine Reg.off rfl rfl rfl (Reg.op rfl (Ope.pickF rfl rfl ?_))
          refine Reg.op rfl (Ope.asg rfl ?_)
          exact Reg.nil (Run.ret (Jmp.code (fin_ret (.tmp rfl .nil) rfl rfl)))
      ·first
       |(first | (exfalso;omega) | (exfalso;simp at hg;done))
       |refine Reg.off rfl rfl rfl (Reg.off rfl rfl rfl (Reg.off rfl rfl rfl (Reg.off rfl rfl rfl (Reg.op rfl (Ope.pickF rfl rfl ?_)))))
        refine Reg.op rfl (Ope.mov rfl ?_)
        refine Reg.off rfl rfl rfl (Reg.op rfl (Ope.pickF rfl rfl ?_))
        refine Reg.op rfl (Ope.asg rfl ?_)
        exact Reg.nil (Run.ret (Jmp.code (fin_ret (.tmp rfl .nil) rfl rfl)))
    ·first
     |(first | (exfalso;omega) | (exfalso;simp at hg;done))
     |refine Reg.off rfl rfl rfl (Reg.off rfl rfl rfl (Reg.op rfl (Ope.pickF rfl rfl ?_)))
      refine Reg.op rfl (Ope.mov rfl ?_)
      refine Reg.off rfl rfl rfl (Reg.off rfl rfl rfl (Reg.off rfl rfl rfl (Reg.off rfl rfl rfl (Reg.op rfl (Ope.pickF rfl rfl ?_)))))
      refine Reg.op rfl (Ope.mov rfl ?_)
      refine Reg.off rfl rfl rfl (Reg.op rfl (Ope.pickF rfl rfl ?_))
      refine Reg.op rfl (Ope.asg rfl ?_)
      exact Reg.nil (Run.ret (Jmp.code (fin_ret (.tmp rfl .nil) rfl rfl)))
   ·exact absurd (by decide) hc
theorem f8y (hi : s.i64) (hv : s.val = true) (tb : Tail) (htb : tb.isOwn = false) (by' : List Nat) (om : List Nat) (tm : Tail) (htm : tm.isOwn = false) (hom : Ordr s.jo.length om) (hma : Fn P0 34 [s.v t1 t2, .sl tb (by'.map U8)] (.sl tm (om.map N))) (hr : s.rgt om = true) :
    Fn P0 8 [s.v t1 t2,.sl tb (by'.map U8)] (B true):=by
  have hfi:=f33 s h1 h2 hi
  rw [hv] at hfi
  have hs:=val_ok hi hv
  have hS:=hs.su
  have hJ:=hs.jo
  have hol:=hom.len
  have hbs:PV.bds 0 [s.v t1 t2]=true:=bd_shpV s h1 h2 rfl
  have hbm:PV.bds 0 [s.v t1 t2,.sl tb (by'.map U8)]=true:=bd_shpV s h1 h2 (bds_cons (bd_sl (f:=U8) htb (fun _=>rfl) _) rfl)
  have hbo:PV.bds 0 [s.v t1 t2,.sl tm (om.map N)]=true:=bd_ord s h1 h2 tm htm om
  have hsl:=f18ok s h1 h2 (by omega) (by omega) tm htm hv hs om hom hr
  have hrg:=f37 s h1 h2 hv hs tm htm om hom
  rw [hr] at hrg
  have hti:=timesV h1 h2 hv hs htm hom
  obtain ⟨n,hn0,_,hn30,hnr,hny⟩:=slk_spec s om 30 0 (by rw [show ((0:Nat):Int)=0 from rfl,lon_zero];exact hr)
  rw [hn0] at hsl
  have hn30:n≤30:=by omega
  have hny:(n:Int) < 30→(s.lon ((n:Int)+1)).rgt om=false:=fun h=>hny (by omega)
  have hby:=fun {i:Nat} hi=>lon_by hs (n:=(n:Int)) (by omega) hom.lt hnr (i:=i) hi
  have hwl:(s.alg Shp.p0 om).length=om.length:=alg_len _ _ _
  have hwj:∀ i (h:i < om.length) (h':i < (s.alg Shp.p0 om).length),((s.alg Shp.p0 om)[i]).j=om[i]:=fun i h h'=>by rw [alg_at s om Shp.p0 i h];rfl
  have hwb:∀ i (h':i < (s.alg Shp.p0 om).length),0≤((s.alg Shp.p0 om)[i]).d1∧((s.alg Shp.p0 om)[i]).d1≤1000000:=fun i h'=>by
    have hio:i < om.length:=by omega
    rw [alg_at s om Shp.p0 i hio]
    have hp:=past_ok hs (om.take i) Shp.p0 0 ⟨⟨Int.le_refl _,Int.le_refl _⟩,⟨Int.le_refl _,Int.le_refl _⟩⟩ (Int.le_refl _) fun j hj=>hom.lt j (List.mem_of_mem_take hj)
    have hlen:((om.take i).length:Int)≤6:=by rw [List.length_take];omega
    have:=(wrk_ok hs hp (by omega) (hom.lt _ (List.getElem_mem hio))).d1
    omega
  generalize s.alg Shp.p0 om=ws at *
  obtain ⟨ta,hta,hlx⟩:=f41 s h1 h2 hs (n:Int) (by omega)
  obtain ⟨tc,htc,hly⟩:=f41 s h1 h2 hs ((n:Int)+1) (by omega)
  have hbx:∀ k:Int,PV.bds 0 [s.v t1 t2,I k]=true:=fun k=>bd_shpV s h1 h2 rfl
  have hlen:∀ k:Int,(s.lon k).jo.length=s.jo.length:=fun k=>by simp [Shp.lon]
  have hsl':∀ k:Int,(s.lon k).su.length=s.su.length:=fun k=>rfl
  have hmx:=f25 (s.lon n) h1 hta (lon_i64 hi n) (by rw [hsl'];omega) (by rw [hlen];omega)
  have hmy:=f25 (s.lon ((n:Int)+1)) h1 htc (lon_i64 hi _) (by rw [hsl'];omega) (by rw [hlen];omega)
  have hbsx:PV.bds 0 [(s.lon n).v t1 ta]=true:=bd_shpV _ h1 hta rfl
  have hbsy:PV.bds 0 [(s.lon ((n:Int)+1)).v t1 tc]=true:=bd_shpV _ h1 htc rfl
  have hbox:PV.bds 0 [(s.lon n).v t1 ta,.sl tm (om.map N)]=true:=bd_ord _ h1 hta tm htm om
  have hboy:PV.bds 0 [(s.lon ((n:Int)+1)).v t1 tc,.sl tm (om.map N)]=true:=bd_ord _ h1 htc tm htm om
  have hrx:(s.lon n).val=true→Fn P0 37 [(s.lon n).v t1 ta,.sl tm (om.map N)] (B true):=fun h=>by
    have:=f37 (s.lon n) h1 hta h (val_ok (lon_i64 hi n) h) tm htm om (by rw [hlen];exact hom)
    rw [hnr] at this
    exact this
  have hry:(s.lon ((n:Int)+1)).val=true→Fn P0 37 [(s.lon ((n:Int)+1)).v t1 tc,.sl tm (om.map N)] (B ((s.lon ((n:Int)+1)).rgt om)):=fun h =>
    f37 (s.lon ((n:Int)+1)) h1 htc h (val_ok (lon_i64 hi _) h) tm htm om (by rw [hlen];exact hom)
  have hse:∀ t':Tail,t'.isOwn=false→Fn P0 18 [s.v t1 t2,.sl t' ([I 0]++om.map N)] (.tup [I 0,I 2]):=fun t' ht'=>by
    have h:=f18er s h1 h2 (by omega) (by omega) t' ht' (((0:Nat)::om).map fun i:Nat=>(i:Int)) (by simp only [List.length_map,List.length_cons];omega) 2 (.inr ⟨hv,hJ,by
      unfold ordB
      rw [decide_eq_false (by simp only [List.length_map,List.length_cons];omega)];rfl,rfl⟩)
    rw [map_N] at h
    exact h
  have hbse:∀ t':Tail,t'.isOwn=false→PV.bds 0 [s.v t1 t2,.sl t' ([I 0]++om.map N)]=true:=fun t' ht'=>bd_ord s h1 h2 t' ht' (0::om)
  generalize (s.lon ((n:Int)+1)).rgt om=ry at *
  generalize s.lon ((n:Int)+1)=y at *
  generalize s.lon n=x at *
  refine PFun.of (C:=c8) (cx_ok _ _ _) rfl (fn:=Try.f8) (by kernel_rfl) (c:=_) rfl rfl rfl ?_
  refine Run.seq (Run.region (cx_ok _ _ _) (Reg.op rfl (Ope.boxF rfl rfl ?_)))
  refine Reg.op rfl (Ope.asg rfl ?_)
  refine Reg.nil (Run.seq (Run.seq (Run.region (cx_ok _ _ _) (Reg.op rfl (Ope.load rfl rfl ?_)))))
  refine Reg.op rfl (Ope.cf rfl rfl hfi hbs ?_)
  refine Reg.op rfl (Ope.not rfl ?_)
  refine Reg.nil (Run.condX rfl (fun hc=>?_) fun hc=>?_)
  ·cases hc
  ·refine Run.skip (Run.seq (Run.region (cx_ok _ _ _) (Reg.op rfl (Ope.load rfl rfl ?_))))
   refine Reg.op rfl (Ope.mov rfl ?_)
   refine Reg.op rfl (Ope.cf rfl rfl hma hbm ?_)
   refine Reg.op rfl (Ope.asg rfl ?_)
   refine Reg.nil (Run.seq (Run.region (cx_ok _ _ _) (Reg.op rfl (Ope.load rfl rfl ?_))))
   refine Reg.op rfl (Ope.mov rfl ?_)
   refine Reg.op rfl (Ope.cf rfl rfl hsl hbo ?_)
   refine Reg.op rfl (Ope.mov rfl ?_)
   refine Reg.op rfl (Ope.ext rfl rfl ?_)
   refine Reg.op rfl (Ope.ext rfl rfl ?_)
   refine Reg.op rfl (Ope.asg rfl ?_)
   refine Reg.op rfl (Ope.asg rfl ?_)
   refine Reg.nil (Run.seq (Run.seq (Run.region (cx_ok _ _ _) (Reg.op rfl (Ope.mov rfl ?_)))))
   refine Reg.op rfl (Ope.ne rfl rfl ?_)
   refine Reg.nil (Run.condX rfl (fun hc=>?_) fun hc=>?_)
   ·exact absurd rfl hc
   ·refine Run.skip (Run.seq (Run.region (cx_ok _ _ _) (Reg.op rfl (Ope.load rfl rfl ?_))))
    refine Reg.op rfl (Ope.mov rfl ?_)
    refine Reg.op rfl (Ope.cf rfl rfl hti hbo ?_)
    refine Reg.op rfl (Ope.mov rfl ?_)
    refine Reg.op rfl (Ope.ext rfl rfl ?_)
    refine Reg.op rfl (Ope.ext rfl rfl ?_)
    refine Reg.op rfl (Ope.asg rfl ?_)
    refine Reg.op rfl (Ope.asg rfl ?_)
    refine Reg.nil (Run.seq (Run.seq (Run.cut (fun e' d' h'=>Lsub [(2,.fp (s.v t1 t2)),(5,.sl tm (om.map N)),(6,N n),(8,.sl .no (ws.map Wrk.sp)),(74,B false)] e'∧d'=[]∧h'=HE 0 []) ?_ ?_)))
    ·refine Run.region (cx_ok _ _ _) (Reg.op rfl (Ope.load rfl rfl ?_))
     refine Reg.op rfl (Ope.mov rfl ?_)
     refine Reg.op rfl (Ope.cf rfl rfl hrg hbo ?_)
     refine Reg.op rfl (Ope.not rfl ?_)
     refine Reg.op rfl (Ope.mov rfl ?_)
     refine Reg.splitX rfl rfl (fun hg=>?_) fun hg=>?_
     ·first
      |(first | (exfalso;omega) | (exfalso;simp at hg;done))
      |refine Reg.off rfl rfl rfl (Reg.off rfl rfl rfl (Reg.op rfl (Ope.pickT rfl rfl ?_)))
       refine Reg.op rfl (Ope.mov rfl ?_)
       refine Reg.off rfl rfl rfl (Reg.off rfl rfl rfl (Reg.op rfl (Ope.pickT rfl rfl ?_)))
       refine Reg.op rfl (Ope.mov rfl ?_)
       refine Reg.off rfl rfl rfl (Reg.off rfl rfl rfl (Reg.op rfl (Ope.pickT rfl rfl ?_)))
       refine Reg.op rfl (Ope.mov rfl ?_)
       refine Reg.off rfl rfl rfl (Reg.off rfl rfl rfl (Reg.off rfl rfl rfl (Reg.off rfl rfl rfl (Reg.off rfl rfl rfl (Reg.op rfl (Ope.pickT rfl rfl ?_))))))
       refine Reg.nil ?_
       first | exact Run.lend ⟨⟨rfl,rfl,rfl,rfl,rfl,trivial⟩,rfl,rfl⟩ | exact Run.lend ⟨⟨rfl,rfl,rfl,rfl,congrArg (fun b=>some (B b)) (decide_eq_false (by omega)),trivial⟩,rfl,rfl⟩ | (exfalso;omega) | (exfalso;simp at hg;done)
     ·first
      |(first | (exfalso;omega) | (exfalso;simp at hg;done))
      |refine Reg.on rfl rfl rfl (Ope.mov rfl ?_)
       refine Reg.on rfl rfl rfl (Ope.lt rfl rfl ?_)
       refine Reg.op rfl (Ope.pickF rfl rfl ?_)
       refine Reg.op rfl (Ope.mov rfl ?_)
       refine Reg.splitX rfl rfl (fun hg=>?_) fun hg=>?_
       ·first
        |(first | (exfalso;omega) | (exfalso;simp at hg;done))
        |refine Reg.off rfl rfl rfl (Reg.off rfl rfl rfl (Reg.op rfl (Ope.pickT rfl rfl ?_)))
         refine Reg.op rfl (Ope.mov rfl ?_)
         refine Reg.off rfl rfl rfl (Reg.off rfl rfl rfl (Reg.op rfl (Ope.pickT rfl rfl ?_)))
         refine Reg.op rfl (Ope.mov rfl ?_)
         refine Reg.off rfl rfl rfl (Reg.off rfl rfl rfl (Reg.off rfl rfl rfl (Reg.off rfl rfl rfl (Reg.off rfl rfl rfl (Reg.op rfl (Ope.pickT rfl rfl ?_))))))
         refine Reg.nil ?_
         first | exact Run.lend ⟨⟨rfl,rfl,rfl,rfl,rfl,trivial⟩,rfl,rfl⟩ | exact Run.lend ⟨⟨rfl,rfl,rfl,rfl,congrArg (fun b=>some (B b)) (decide_eq_false (by omega)),trivial⟩,rfl,rfl⟩ | (exfalso;omega) | (exfalso;simp at hg;done)
       ·first
        |(first | (exfalso;omega) | (exfalso;simp at hg;done))
        |refine Reg.on rfl rfl rfl (Ope.mov rfl ?_)
         refine Reg.on rfl rfl rfl (Ope.gt rfl rfl ?_)
         refine Reg.op rfl (Ope.pickF rfl rfl ?_)
         refine Reg.op rfl (Ope.mov rfl ?_)
         refine Reg.splitX rfl rfl (fun hg=>?_) fun hg=>?_
         ·first
          |(first | (exfalso;omega) | (exfalso;simp at hg;done))
          |refine Reg.off rfl rfl rfl (Reg.off rfl rfl rfl (Reg.op rfl (Ope.pickT rfl rfl ?_)))
           refine Reg.op rfl (Ope.mov rfl ?_)
           refine Reg.off rfl rfl rfl (Reg.off rfl rfl rfl (Reg.off rfl rfl rfl (Reg.off rfl rfl rfl (Reg.off rfl rfl rfl (Reg.op rfl (Ope.pickT rfl rfl ?_))))))
           refine Reg.nil ?_
           first | exact Run.lend ⟨⟨rfl,rfl,rfl,rfl,rfl,trivial⟩,rfl,rfl⟩ | exact Run.lend ⟨⟨rfl,rfl,rfl,rfl,congrArg (fun b=>some (B b)) (decide_eq_false (by omega)),trivial⟩,rfl,rfl⟩ | (exfalso;omega) | (exfalso;simp at hg;done)
         ·first
          |(first | (exfalso;omega) | (exfalso;simp at hg;done))
          |refine Reg.on rfl rfl rfl (Ope.mov rfl ?_)
           refine Reg.on rfl rfl rfl (Ope.ne rfl rfl ?_)
           refine Reg.op rfl (Ope.pickF rfl rfl ?_)
           refine Reg.op rfl (Ope.mov rfl ?_)
           refine Reg.splitX rfl rfl (fun hg=>?_) fun hg=>?_
           ·first
            |(first | (exfalso;omega) | (exfalso;simp at hg;done))
            |refine Reg.off rfl rfl rfl (Reg.off rfl rfl rfl (Reg.off rfl rfl rfl (Reg.off rfl rfl rfl (Reg.off rfl rfl rfl (Reg.op rfl (Ope.pickT rfl rfl ?_))))))
             refine Reg.nil ?_
             first | exact Run.lend ⟨⟨rfl,rfl,rfl,rfl,rfl,trivial⟩,rfl,rfl⟩ | exact Run.lend ⟨⟨rfl,rfl,rfl,rfl,congrArg (fun b=>some (B b)) (decide_eq_false (by omega)),trivial⟩,rfl,rfl⟩ | (exfalso;omega) | (exfalso;simp at hg;done)
           ·first
            |(first | (exfalso;omega) | (exfalso;simp at hg;done))
            |refine Reg.on rfl rfl rfl (Ope.mov rfl ?_)
             refine Reg.on rfl rfl rfl (Ope.len (m:=om.length) rfl (by rw [List.length_map,hwl]) ?_)
             refine Reg.on rfl rfl rfl (Ope.mov rfl ?_)
             refine Reg.on rfl rfl rfl (Ope.len (m:=om.length) rfl (by simp) ?_)
             refine Reg.on rfl rfl rfl (Ope.ne rfl rfl ?_)
             refine Reg.op rfl (Ope.pickF rfl rfl ?_)
             refine Reg.nil ?_
             first | exact Run.lend ⟨⟨rfl,rfl,rfl,rfl,rfl,trivial⟩,rfl,rfl⟩ | exact Run.lend ⟨⟨rfl,rfl,rfl,rfl,congrArg (fun b=>some (B b)) (decide_eq_false (by omega)),trivial⟩,rfl,rfl⟩ | (exfalso;omega) | (exfalso;simp at hg;done)
    ·rintro e' d' h' ⟨hsb, rfl, rfl⟩; refine Run.less hsb ?_
     refine Run.condX rfl (fun hc=>?_) fun hc=>?_
     ·cases hc
     ·refine Run.skip (Run.seq (Run.seq (Run.region (cx_ok _ _ _) (Reg.op rfl (Ope.mov rfl ?_)))))
      refine Reg.op rfl (Ope.len (m:=om.length) rfl (by simp) ?_)
      refine Reg.op rfl (Ope.mov rfl ?_)
      refine Reg.nil (Run.block (Run.loop (α:=Nat) (fun i=>[(2,.fp (s.v t1 t2)),(5,.sl tm (om.map N)),(6,N n),(8,.sl .no (ws.map Wrk.sp)),(75,.sl tm (om.map N)),(76,I om.length),(77,I i)]) (fun _=>HE 0 []) (fun i=>i≤om.length) (fun i=>om.length - i) 0 ⟨rfl,rfl,rfl,rfl,rfl,rfl,rfl,trivial⟩ rfl (Nat.zero_le _) (fun i hi=>?_)))
      refine Run.seq (Run.region (cx_ok _ _ _) (Reg.op rfl (Ope.lt rfl rfl ?_)))
      refine Reg.nil (Run.seq (Run.condX rfl (fun hc=>?_) fun hc=>?_))
      ·refine Run.skip (Run.seq (Run.block (Run.seq (Run.region (cx_ok _ _ _) (Reg.op rfl (Ope.mov rfl ?_))))))
       refine Reg.op rfl (Ope.idxM (m:=i) (f:=N) rfl rfl rfl (by omega) (fun _=>rfl) ?_)
       refine Reg.op rfl (Ope.load rfl rfl ?_)
       refine Reg.op rfl (Ope.asg rfl ?_)
       refine Reg.op rfl (Ope.asg rfl ?_)
       refine Reg.nil (Run.seq ?_)
       have hlt:i < om.length:=by omega
       have hwi:i < ws.length:=by omega
       have hoi:om[i] < s.jo.length:=hom.lt _ (List.getElem_mem hlt)
       have hb:=hby hwi
       rw [hwj i hlt hwi,Shp.job_at hoi] at hb
       have hbb:=hwb i hwi
       refine Run.draw (cx_ok _ _ _) [(0,true),(1,true),(2,true),(3,true),(4,true),(5,true),(6,true),(7,true),(8,true),(9,true),(10,true),(11,true),(12,true),(13,true)] (by kernel_rfl) (Dra.op' rfl rfl rfl .sure (Ope.mov rfl ?_))
       refine Dra.op' rfl rfl rfl .sure (Ope.mov rfl ?_)
       refine Dra.op' rfl rfl rfl .sure (Ope.idxM (m:=i) (f:=Wrk.sp) rfl rfl rfl hwi (fun _=>rfl) ?_)
       refine Dra.op' rfl rfl rfl .sure (Ope.fld rfl rfl ?_)
       refine Dra.op' rfl rfl rfl .sure (Ope.load rfl rfl ?_)
       refine Dra.op' rfl rfl rfl .sure (Ope.mov rfl ?_)
       refine Dra.op' rfl rfl rfl .sure (Ope.add rfl rfl (by omega) ?_)
       refine Dra.op' rfl rfl rfl .sure (Ope.fld rfl rfl ?_)
       refine Dra.op' rfl rfl rfl .sure (Ope.load rfl rfl ?_)
       refine Dra.op' rfl rfl rfl .sure (Ope.mov rfl ?_)
       refine Dra.op' rfl rfl rfl .sure (Ope.idxM (m:=om[i]) (f:=Job.v) rfl rfl rfl hoi (fun _=>rfl) ?_)
       refine Dra.op' rfl rfl rfl .sure (Ope.fld rfl rfl ?_)
       refine Dra.op' rfl rfl rfl .sure (Ope.load rfl rfl ?_)
       refine Dra.op' rfl rfl rfl .sure (Ope.gt rfl rfl ?_)
       refine Dra.nil (Run.condX rfl (fun hc=>?_) fun hc=>?_)
       ·(exfalso;omega)
       ·refine Run.skip (Run.bend (Run.region (cx_ok _ _ _) (Reg.op rfl (Ope.add rfl rfl (by omega) ?_))))
        refine Reg.op rfl (Ope.mov rfl ?_)
        exact Reg.nil (Run.lend ⟨i+1,by omega,by omega,⟨rfl,rfl,rfl,rfl,rfl,rfl,rfl,trivial⟩,rfl,rfl⟩)
      ·refine Run.exit (Jmp.code (Jmp.round (Jmp.here (Run.seq (Run.cut (fun e' d' h' => ∃ (a b m : Nat) (l : HL), Lsub [(2, .fp (s.v t1 t2)), (5, .sl tm (om.map N)), (6, N n), (12, .ptr a 0), (13, .ptr b 0)] e' ∧ d' = [] ∧ h' = HE m l ∧ hget l a = some (.cells [.sl t1 (x.su.map I), .sl ta (x.jo.map Job.v)]) ∧ hget l b = some (.cells [.sl t1 (y.su.map I), .sl tc (y.jo.map Job.v)]) ∧ b ≠ a) ?_ ?_)))))
       ·refine Run.drawL (cx_ok _ _ _) [[(0,true),(1,true),(3,false),(4,true),(5,true),(2,true),(6,true),(7,true),(8,true),(9,true),(10,true)],[(0,true),(1,true),(3,false),(4,true),(5,true),(2,true),(6,true),(8,true),(7,true),(9,true),(10,true)],[(0,true),(1,true),(3,false),(4,true),(5,true),(2,true),(7,true),(6,true),(8,true),(9,true),(10,true)],[(0,true),(1,true),(3,false),(4,true),(5,true),(2,true),(7,true),(8,true),(6,true),(9,true),(10,true)],[(0,true),(1,true),(3,false),(4,true),(5,true),(2,true),(8,true),(6,true),(7,true),(9,true),(10,true)],[(0,true),(1,true),(3,false),(4,true),(5,true),(2,true),(8,true),(7,true),(6,true),(9,true),(10,true)],[(0,false),(1,true),(3,false),(4,true),(5,true),(7,true),(2,true),(6,true),(8,true),(9,true),(10,true)],[(0,false),(1,true),(3,false),(4,true),(5,true),(7,true),(2,true),(8,true),(6,true),(9,true),(10,true)],[(0,false),(1,true),(3,false),(4,true),(5,true),(7,true),(8,true),(2,true),(6,true),(9,true),(10,true)],[(0,false),(1,true),(3,false),(4,true),(5,true),(8,true),(2,true),(6,true),(7,true),(9,true),(10,true)],[(0,false),(1,true),(3,false),(4,true),(5,true),(8,true),(2,true),(7,true),(6,true),(9,true),(10,true)],[(0,false),(1,true),(3,false),(4,true),(5,true),(8,true),(7,true),(2,true),(6,true),(9,true),(10,true)]] (by kernel_rfl) ⟨?_,?_,?_,?_,?_,?_,?_,?_,?_,?_,?_,?_,trivial⟩
        ·refine Dra.op' rfl rfl rfl .sure (Ope.load rfl rfl ?_)
         refine Dra.op' rfl rfl rfl .sure (Ope.mov rfl ?_)
         refine Dra.op' rfl rfl rfl (.load rfl) (Ope.load rfl rfl ?_)
         refine Dra.op' rfl rfl rfl .sure (Ope.mov rfl ?_)
         refine Dra.op' rfl rfl rfl .sure (Ope.add rfl rfl (by omega) ?_)
         refine Dra.op' rfl rfl rfl .sure (Ope.cf rfl rfl hlx (hbx _) ?_)
         refine Dra.op' rfl rfl rfl .sure (Ope.cf rfl rfl hly (hbx _) ?_)
         refine Dra.op' rfl rfl rfl .sure (Ope.newL rfl ?_)
         refine Dra.op' rfl rfl rfl .sure (Ope.newL rfl ?_)
         refine Dra.op' rfl rfl rfl .sure (Ope.store rfl rfl rfl rfl rfl rfl ?_)
         refine Dra.op' rfl rfl rfl .sure (Ope.store rfl rfl rfl rfl rfl rfl ?_)
         exact Dra.nil (Run.lend ⟨_,_,_,_,⟨rfl,rfl,rfl,rfl,rfl,trivial⟩,rfl,rfl,rfl,rfl,by decide⟩)
        ·refine Dra.op' rfl rfl rfl .sure (Ope.load rfl rfl ?_)
         refine Dra.op' rfl rfl rfl .sure (Ope.mov rfl ?_)
         refine Dra.op' rfl rfl rfl (.load rfl) (Ope.load rfl rfl ?_)
         refine Dra.op' rfl rfl rfl .sure (Ope.mov rfl ?_)
         refine Dra.op' rfl rfl rfl .sure (Ope.add rfl rfl (by omega) ?_)
         refine Dra.op' rfl rfl rfl .sure (Ope.cf rfl rfl hlx (hbx _) ?_)
         refine Dra.op' rfl rfl rfl .sure (Ope.cf rfl rfl hly (hbx _) ?_)
         refine Dra.op' rfl rfl rfl .sure (Ope.newL rfl ?_)
         refine Dra.op' rfl rfl rfl .sure (Ope.newL rfl ?_)
         refine Dra.op' rfl rfl rfl .sure (Ope.store rfl rfl rfl rfl rfl rfl ?_)
         refine Dra.op' rfl rfl rfl .sure (Ope.store rfl rfl rfl rfl rfl rfl ?_)
         exact Dra.nil (Run.lend ⟨_,_,_,_,⟨rfl,rfl,rfl,rfl,rfl,trivial⟩,rfl,rfl,rfl,rfl,by decide⟩)
        ·refine Dra.op' rfl rfl rfl .sure (Ope.load rfl rfl ?_)
         refine Dra.op' rfl rfl rfl .sure (Ope.mov rfl ?_)
         refine Dra.op' rfl rfl rfl (.load rfl) (Ope.load rfl rfl ?_)
         refine Dra.op' rfl rfl rfl .sure (Ope.mov rfl ?_)
         refine Dra.op' rfl rfl rfl .sure (Ope.add rfl rfl (by omega) ?_)
         refine Dra.op' rfl rfl rfl .sure (Ope.cf rfl rfl hlx (hbx _) ?_)
         refine Dra.op' rfl rfl rfl .sure (Ope.newL rfl ?_)
         refine Dra.op' rfl rfl rfl .sure (Ope.cf rfl rfl hly (hbx _) ?_)
         refine Dra.op' rfl rfl rfl .sure (Ope.newL rfl ?_)
         refine Dra.op' rfl rfl rfl .sure (Ope.store rfl rfl rfl rfl rfl rfl ?_)
         refine Dra.op' rfl rfl rfl .sure (Ope.store rfl rfl rfl rfl rfl rfl ?_)
         exact Dra.nil (Run.lend ⟨_,_,_,_,⟨rfl,rfl,rfl,rfl,rfl,trivial⟩,rfl,rfl,rfl,rfl,by decide⟩)
        ·refine Dra.op' rfl rfl rfl .sure (Ope.load rfl rfl ?_)
         refine Dra.op' rfl rfl rfl .sure (Ope.mov rfl ?_)
         refine Dra.op' rfl rfl rfl (.load rfl) (Ope.load rfl rfl ?_)
         refine Dra.op' rfl rfl rfl .sure (Ope.mov rfl ?_)
         refine Dra.op' rfl rfl rfl .sure (Ope.add rfl rfl (by omega) ?_)
         refine Dra.op' rfl rfl rfl .sure (Ope.cf rfl rfl hlx (hbx _) ?_)
         refine Dra.op' rfl rfl rfl .sure (Ope.newL rfl ?_)
         refine Dra.op' rfl rfl rfl .sure (Ope.newL rfl ?_)
         refine Dra.op' rfl rfl rfl .sure (Ope.cf rfl rfl hly (hbx _) ?_)
         refine Dra.op' rfl rfl rfl .sure (Ope.store rfl rfl rfl rfl rfl rfl ?_)
         refine Dra.op' rfl rfl rfl .sure (Ope.store rfl rfl rfl rfl rfl rfl ?_)
         exact Dra.nil (Run.lend ⟨_,_,_,_,⟨rfl,rfl,rfl,rfl,rfl,trivial⟩,rfl,rfl,rfl,rfl,by decide⟩)
        ·refine Dra.op' rfl rfl rfl .sure (Ope.load rfl rfl ?_)
         refine Dra.op' rfl rfl rfl .sure (Ope.mov rfl ?_)
         refine Dra.op' rfl rfl rfl (.load rfl) (Ope.load rfl rfl ?_)
         refine Dra.op' rfl rfl rfl .sure (Ope.mov rfl ?_)
         refine Dra.op' rfl rfl rfl .sure (Ope.add rfl rfl (by omega) ?_)
         refine Dra.op' rfl rfl rfl .sure (Ope.cf rfl rfl hlx (hbx _) ?_)
         refine Dra.op' rfl rfl rfl .sure (Ope.newL rfl ?_)
         refine Dra.op' rfl rfl rfl .sure (Ope.cf rfl rfl hly (hbx _) ?_)
         refine Dra.op' rfl rfl rfl .sure (Ope.newL rfl ?_)
         refine Dra.op' rfl rfl rfl .sure (Ope.store rfl rfl rfl rfl rfl rfl ?_)
         refine Dra.op' rfl rfl rfl .sure (Ope.store rfl rfl rfl rfl rfl rfl ?_)
         exact Dra.nil (Run.lend ⟨_,_,_,_,⟨rfl,rfl,rfl,rfl,rfl,trivial⟩,rfl,rfl,rfl,rfl,by decide⟩)
        ·refine Dra.op' rfl rfl rfl .sure (Ope.load rfl rfl ?_)
         refine Dra.op' rfl rfl rfl .sure (Ope.mov rfl ?_)
         refine Dra.op' rfl rfl rfl (.load rfl) (Ope.load rfl rfl ?_)
         refine Dra.op' rfl rfl rfl .sure (Ope.mov rfl ?_)
         refine Dra.op' rfl rfl rfl .sure (Ope.add rfl rfl (by omega) ?_)
         refine Dra.op' rfl rfl rfl .sure (Ope.cf rfl rfl hlx (hbx _) ?_)
         refine Dra.op' rfl rfl rfl .sure (Ope.newL rfl ?_)
         refine Dra.op' rfl rfl rfl .sure (Ope.newL rfl ?_)
         refine Dra.op' rfl rfl rfl .sure (Ope.cf rfl rfl hly (hbx _) ?_)
         refine Dra.op' rfl rfl rfl .sure (Ope.store rfl rfl rfl rfl rfl rfl ?_)
         refine Dra.op' rfl rfl rfl .sure (Ope.store rfl rfl rfl rfl rfl rfl ?_)
         exact Dra.nil (Run.lend ⟨_,_,_,_,⟨rfl,rfl,rfl,rfl,rfl,trivial⟩,rfl,rfl,rfl,rfl,by decide⟩)
        ·refine Dra.op' rfl rfl rfl (.load rfl) (Ope.load rfl rfl ?_)
         refine Dra.op' rfl rfl rfl .sure (Ope.mov rfl ?_)
         refine Dra.op' rfl rfl rfl (.load rfl) (Ope.load rfl rfl ?_)
         refine Dra.op' rfl rfl rfl .sure (Ope.mov rfl ?_)
         refine Dra.op' rfl rfl rfl .sure (Ope.add rfl rfl (by omega) ?_)
         refine Dra.op' rfl rfl rfl .sure (Ope.newL rfl ?_)
         refine Dra.op' rfl rfl rfl .sure (Ope.cf rfl rfl hlx (hbx _) ?_)
         refine Dra.op' rfl rfl rfl .sure (Ope.cf rfl rfl hly (hbx _) ?_)
         refine Dra.op' rfl rfl rfl .sure (Ope.newL rfl ?_)
         refine Dra.op' rfl rfl rfl .sure (Ope.store rfl rfl rfl rfl rfl rfl ?_)
         refine Dra.op' rfl rfl rfl .sure (Ope.store rfl rfl rfl rfl rfl rfl ?_)
         exact Dra.nil (Run.lend ⟨_,_,_,_,⟨rfl,rfl,rfl,rfl,rfl,trivial⟩,rfl,rfl,rfl,rfl,by decide⟩)
        ·refine Dra.op' rfl rfl rfl (.load rfl) (Ope.load rfl rfl ?_)
         refine Dra.op' rfl rfl rfl .sure (Ope.mov rfl ?_)
         refine Dra.op' rfl rfl rfl (.load rfl) (Ope.load rfl rfl ?_)
         refine Dra.op' rfl rfl rfl .sure (Ope.mov rfl ?_)
         refine Dra.op' rfl rfl rfl .sure (Ope.add rfl rfl (by omega) ?_)
         refine Dra.op' rfl rfl rfl .sure (Ope.newL rfl ?_)
         refine Dra.op' rfl rfl rfl .sure (Ope.cf rfl rfl hlx (hbx _) ?_)
         refine Dra.op' rfl rfl rfl .sure (Ope.newL rfl ?_)
         refine Dra.op' rfl rfl rfl .sure (Ope.cf rfl rfl hly (hbx _) ?_)
         refine Dra.op' rfl rfl rfl .sure (Ope.store rfl rfl rfl rfl rfl rfl ?_)
         refine Dra.op' rfl rfl rfl .sure (Ope.store rfl rfl rfl rfl rfl rfl ?_)
         exact Dra.nil (Run.lend ⟨_,_,_,_,⟨rfl,rfl,rfl,rfl,rfl,trivial⟩,rfl,rfl,rfl,rfl,by decide⟩)
        ·refine Dra.op' rfl rfl rfl (.load rfl) (Ope.load rfl rfl ?_)
         refine Dra.op' rfl rfl rfl .sure (Ope.mov rfl ?_)
         refine Dra.op' rfl rfl rfl (.load rfl) (Ope.load rfl rfl ?_)
         refine Dra.op' rfl rfl rfl .sure (Ope.mov rfl ?_)
         refine Dra.op' rfl rfl rfl .sure (Ope.add rfl rfl (by omega) ?_)
         refine Dra.op' rfl rfl rfl .sure (Ope.newL rfl ?_)
         refine Dra.op' rfl rfl rfl .sure (Ope.newL rfl ?_)
         refine Dra.op' rfl rfl rfl .sure (Ope.cf rfl rfl hlx (hbx _) ?_)
         refine Dra.op' rfl rfl rfl .sure (Ope.cf rfl rfl hly (hbx _) ?_)
         refine Dra.op' rfl rfl rfl .sure (Ope.store rfl rfl rfl rfl rfl rfl ?_)
         refine Dra.op' rfl rfl rfl .sure (Ope.store rfl rfl rfl rfl rfl rfl ?_)
         exact Dra.nil (Run.lend ⟨_,_,_,_,⟨rfl,rfl,rfl,rfl,rfl,trivial⟩,rfl,rfl,rfl,rfl,by decide⟩)
        ·refine Dra.op' rfl rfl rfl (.load rfl) (Ope.load rfl rfl ?_)
         refine Dra.op' rfl rfl rfl .sure (Ope.mov rfl ?_)
         refine Dra.op' rfl rfl rfl (.load rfl) (Ope.load rfl rfl ?_)
         refine Dra.op' rfl rfl rfl .sure (Ope.mov rfl ?_)
         refine Dra.op' rfl rfl rfl .sure (Ope.add rfl rfl (by omega) ?_)
         refine Dra.op' rfl rfl rfl .sure (Ope.newL rfl ?_)
         refine Dra.op' rfl rfl rfl .sure (Ope.cf rfl rfl hlx (hbx _) ?_)
         refine Dra.op' rfl rfl rfl .sure (Ope.cf rfl rfl hly (hbx _) ?_)
         refine Dra.op' rfl rfl rfl .sure (Ope.newL rfl ?_)
         refine Dra.op' rfl rfl rfl .sure (Ope.store rfl rfl rfl rfl rfl rfl ?_)
         refine Dra.op' rfl rfl rfl .sure (Ope.store rfl rfl rfl rfl rfl rfl ?_)
         exact Dra.nil (Run.lend ⟨_,_,_,_,⟨rfl,rfl,rfl,rfl,rfl,trivial⟩,rfl,rfl,rfl,rfl,by decide⟩)
        ·refine Dra.op' rfl rfl rfl (.load rfl) (Ope.load rfl rfl ?_)
         refine Dra.op' rfl rfl rfl .sure (Ope.mov rfl ?_)
         refine Dra.op' rfl rfl rfl (.load rfl) (Ope.load rfl rfl ?_)
         refine Dra.op' rfl rfl rfl .sure (Ope.mov rfl ?_)
         refine Dra.op' rfl rfl rfl .sure (Ope.add rfl rfl (by omega) ?_)
         refine Dra.op' rfl rfl rfl .sure (Ope.newL rfl ?_)
         refine Dra.op' rfl rfl rfl .sure (Ope.cf rfl rfl hlx (hbx _) ?_)
         refine Dra.op' rfl rfl rfl .sure (Ope.newL rfl ?_)
         refine Dra.op' rfl rfl rfl .sure (Ope.cf rfl rfl hly (hbx _) ?_)
         refine Dra.op' rfl rfl rfl .sure (Ope.store rfl rfl rfl rfl rfl rfl ?_)
         refine Dra.op' rfl rfl rfl .sure (Ope.store rfl rfl rfl rfl rfl rfl ?_)
         exact Dra.nil (Run.lend ⟨_,_,_,_,⟨rfl,rfl,rfl,rfl,rfl,trivial⟩,rfl,rfl,rfl,rfl,by decide⟩)
        ·refine Dra.op' rfl rfl rfl (.load rfl) (Ope.load rfl rfl ?_)
         refine Dra.op' rfl rfl rfl .sure (Ope.mov rfl ?_)
         refine Dra.op' rfl rfl rfl (.load rfl) (Ope.load rfl rfl ?_)
         refine Dra.op' rfl rfl rfl .sure (Ope.mov rfl ?_)
         refine Dra.op' rfl rfl rfl .sure (Ope.add rfl rfl (by omega) ?_)
         refine Dra.op' rfl rfl rfl .sure (Ope.newL rfl ?_)
         refine Dra.op' rfl rfl rfl .sure (Ope.newL rfl ?_)
         refine Dra.op' rfl rfl rfl .sure (Ope.cf rfl rfl hlx (hbx _) ?_)
         refine Dra.op' rfl rfl rfl .sure (Ope.cf rfl rfl hly (hbx _) ?_)
         refine Dra.op' rfl rfl rfl .sure (Ope.store rfl rfl rfl rfl rfl rfl ?_)
         refine Dra.op' rfl rfl rfl .sure (Ope.store rfl rfl rfl rfl rfl rfl ?_)
         exact Dra.nil (Run.lend ⟨_,_,_,_,⟨rfl,rfl,rfl,rfl,rfl,trivial⟩,rfl,rfl,rfl,rfl,by decide⟩)
       ·rintro e' d' h' ⟨a, b, m, l, hsb, rfl, rfl, hla, hlb, hab⟩; refine Run.less hsb ?_; refine Run.frz (d := 12) true rfl hla rfl ?_; refine Run.frz (d := 13) true rfl ((hget_tl hab).trans hlb) rfl ?_; refine Run.wide (m := m) (l' := []) (Nat.le_refl _) trivial ?_
        refine Run.seq (Run.seq (Run.cut (fun e' d' h'=>Lsub [(2,.fp (s.v t1 t2)),(5,.sl tm (om.map N)),(6,N n),(124,B false)] e'∧d'=[]∧h'=HE m []) ?_ ?_))
        ·refine Run.region (cx_ok _ _ _) (Reg.op rfl (Ope.load rfl rfl ?_))
         refine Reg.op rfl (Ope.cf rfl rfl hmx hbsx ?_)
         refine Reg.op rfl (Ope.mov rfl ?_)
         refine Reg.splitX rfl rfl (fun hg=>?_) fun hg=>?_
         ·first
          |(first | (exfalso;omega) | (exfalso;simp at hg;done))
          |refine Reg.on rfl rfl rfl (Ope.load rfl rfl ?_)
           refine Reg.on rfl rfl rfl (Ope.mov rfl ?_)
           refine Reg.on rfl rfl rfl (Ope.cf rfl rfl (hrx hg) hbox ?_)
           refine Reg.on rfl rfl rfl (Ope.not rfl ?_)
           refine Reg.op rfl (Ope.pickT rfl rfl ?_)
           refine Reg.op rfl (Ope.mov rfl ?_)
           refine Reg.splitX rfl rfl (fun hg=>?_) fun hg=>?_
           ·first
            |(first | (exfalso;omega) | (exfalso;simp at hg;done))
            |refine Reg.off rfl rfl rfl (Reg.off rfl rfl rfl (Reg.off rfl rfl rfl (Reg.past rfl rfl rfl (Reg.past rfl rfl rfl (Reg.past rfl rfl rfl (Reg.off rfl rfl rfl (Reg.off rfl rfl rfl (Reg.past rfl rfl rfl (Reg.past rfl rfl rfl (Reg.off rfl rfl rfl (Reg.op rfl (Ope.pickT rfl rfl ?_))))))))))))
             refine Reg.nil ?_
             first | exact Run.lend ⟨⟨rfl,rfl,rfl,rfl,trivial⟩,rfl,rfl⟩ | exact Run.lend ⟨⟨rfl,rfl,rfl,congrArg (fun b=>some (B b)) (decide_eq_false (fun h=>absurd (hny h) (by rw [hg];decide))),trivial⟩,rfl,rfl⟩ | (exfalso;simp at hg;done)
           ·first
            |(first | (exfalso;omega) | (exfalso;simp at hg;done))
            |refine Reg.on rfl rfl rfl (Ope.load rfl rfl ?_)
             refine Reg.on rfl rfl rfl (Ope.cf rfl rfl hmy hbsy ?_)
             refine Reg.on rfl rfl rfl (Ope.mov rfl ?_)
             refine Reg.splitX rfl rfl (fun hg=>?_) fun hg=>?_
             ·first
              |(first | (exfalso;omega) | (exfalso;simp at hg;done))
              |refine Reg.on rfl rfl rfl (Ope.load rfl rfl ?_)
               refine Reg.on rfl rfl rfl (Ope.mov rfl ?_)
               refine Reg.on rfl rfl rfl (Ope.cf rfl rfl (hry hg) hboy ?_)
               refine Reg.on rfl rfl rfl (Ope.pickT rfl rfl ?_)
               refine Reg.on rfl rfl rfl (Ope.mov rfl ?_)
               refine Reg.splitX rfl rfl (fun hg=>?_) fun hg=>?_
               ·first
                |(first | (exfalso;omega) | (exfalso;simp at hg;done))
                |refine Reg.on rfl rfl rfl (Ope.mov rfl ?_)
                 refine Reg.on rfl rfl rfl (Ope.lt rfl rfl ?_)
                 refine Reg.on rfl rfl rfl (Ope.pickT rfl rfl ?_)
                 refine Reg.op rfl (Ope.pickF rfl rfl ?_)
                 refine Reg.nil ?_
                 first | exact Run.lend ⟨⟨rfl,rfl,rfl,rfl,trivial⟩,rfl,rfl⟩ | exact Run.lend ⟨⟨rfl,rfl,rfl,congrArg (fun b=>some (B b)) (decide_eq_false (fun h=>absurd (hny h) (by rw [hg];decide))),trivial⟩,rfl,rfl⟩ | (exfalso;simp at hg;done)
               ·first
                |(first | (exfalso;omega) | (exfalso;simp at hg;done))
                |refine Reg.off rfl rfl rfl (Reg.off rfl rfl rfl (Reg.on rfl rfl rfl (Ope.pickF rfl rfl ?_)))
                 refine Reg.op rfl (Ope.pickF rfl rfl ?_)
                 refine Reg.nil ?_
                 first | exact Run.lend ⟨⟨rfl,rfl,rfl,rfl,trivial⟩,rfl,rfl⟩ | exact Run.lend ⟨⟨rfl,rfl,rfl,congrArg (fun b=>some (B b)) (decide_eq_false (fun h=>absurd (hny h) (by rw [hg];decide))),trivial⟩,rfl,rfl⟩ | (exfalso;simp at hg;done)
             ·first
              |(first | (exfalso;omega) | (exfalso;simp at hg;done))
              |refine Reg.off rfl rfl rfl (Reg.off rfl rfl rfl (Reg.off rfl rfl rfl (Reg.on rfl rfl rfl (Ope.pickF rfl rfl ?_))))
               refine Reg.on rfl rfl rfl (Ope.mov rfl ?_)
               refine Reg.off rfl rfl rfl (Reg.off rfl rfl rfl (Reg.on rfl rfl rfl (Ope.pickF rfl rfl ?_)))
               refine Reg.op rfl (Ope.pickF rfl rfl ?_)
               refine Reg.nil ?_
               first | exact Run.lend ⟨⟨rfl,rfl,rfl,rfl,trivial⟩,rfl,rfl⟩ | exact Run.lend ⟨⟨rfl,rfl,rfl,congrArg (fun b=>some (B b)) (decide_eq_false (fun h=>absurd (hny h) (by rw [hg];decide))),trivial⟩,rfl,rfl⟩ | (exfalso;simp at hg;done)
         ·first
          |(first | (exfalso;omega) | (exfalso;simp at hg;done))
          |refine Reg.off rfl rfl rfl (Reg.off rfl rfl rfl (Reg.off rfl rfl rfl (Reg.off rfl rfl rfl (Reg.op rfl (Ope.pickF rfl rfl ?_)))))
           refine Reg.op rfl (Ope.mov rfl ?_)
           refine Reg.on rfl rfl rfl (Ope.load rfl rfl ?_)
           refine Reg.on rfl rfl rfl (Ope.cf rfl rfl hmy hbsy ?_)
           refine Reg.on rfl rfl rfl (Ope.mov rfl ?_)
           refine Reg.splitX rfl rfl (fun hg=>?_) fun hg=>?_
           ·first
            |(first | (exfalso;omega) | (exfalso;simp at hg;done))
            |refine Reg.on rfl rfl rfl (Ope.load rfl rfl ?_)
             refine Reg.on rfl rfl rfl (Ope.mov rfl ?_)
             refine Reg.on rfl rfl rfl (Ope.cf rfl rfl (hry hg) hboy ?_)
             refine Reg.on rfl rfl rfl (Ope.pickT rfl rfl ?_)
             refine Reg.on rfl rfl rfl (Ope.mov rfl ?_)
             refine Reg.splitX rfl rfl (fun hg=>?_) fun hg=>?_
             ·first
              |(first | (exfalso;omega) | (exfalso;simp at hg;done))
              |refine Reg.on rfl rfl rfl (Ope.mov rfl ?_)
               refine Reg.on rfl rfl rfl (Ope.lt rfl rfl ?_)
               refine Reg.on rfl rfl rfl (Ope.pickT rfl rfl ?_)
               refine Reg.op rfl (Ope.pickF rfl rfl ?_)
               refine Reg.nil ?_
               first | exact Run.lend ⟨⟨rfl,rfl,rfl,rfl,trivial⟩,rfl,rfl⟩ | exact Run.lend ⟨⟨rfl,rfl,rfl,congrArg (fun b=>some (B b)) (decide_eq_false (fun h=>absurd (hny h) (by rw [hg];decide))),trivial⟩,rfl,rfl⟩ | (exfalso;simp at hg;done)
             ·first
              |(first | (exfalso;omega) | (exfalso;simp at hg;done))
              |refine Reg.off rfl rfl rfl (Reg.off rfl rfl rfl (Reg.on rfl rfl rfl (Ope.pickF rfl rfl ?_)))
               refine Reg.op rfl (Ope.pickF rfl rfl ?_)
               refine Reg.nil ?_
               first | exact Run.lend ⟨⟨rfl,rfl,rfl,rfl,trivial⟩,rfl,rfl⟩ | exact Run.lend ⟨⟨rfl,rfl,rfl,congrArg (fun b=>some (B b)) (decide_eq_false (fun h=>absurd (hny h) (by rw [hg];decide))),trivial⟩,rfl,rfl⟩ | (exfalso;simp at hg;done)
           ·first
            |(first | (exfalso;omega) | (exfalso;simp at hg;done))
            |refine Reg.off rfl rfl rfl (Reg.off rfl rfl rfl (Reg.off rfl rfl rfl (Reg.on rfl rfl rfl (Ope.pickF rfl rfl ?_))))
             refine Reg.on rfl rfl rfl (Ope.mov rfl ?_)
             refine Reg.off rfl rfl rfl (Reg.off rfl rfl rfl (Reg.on rfl rfl rfl (Ope.pickF rfl rfl ?_)))
             refine Reg.op rfl (Ope.pickF rfl rfl ?_)
             refine Reg.nil ?_
             first | exact Run.lend ⟨⟨rfl,rfl,rfl,rfl,trivial⟩,rfl,rfl⟩ | exact Run.lend ⟨⟨rfl,rfl,rfl,congrArg (fun b=>some (B b)) (decide_eq_false (fun h=>absurd (hny h) (by rw [hg];decide))),trivial⟩,rfl,rfl⟩ | (exfalso;simp at hg;done)
        ·rintro e' d' h' ⟨hsb,rfl,rfl⟩;refine Run.less hsb ?_
         refine Run.condX rfl (fun hc=>?_) fun hc=>?_
         ·cases hc
         ·refine Run.skip (Run.seq (Run.draw (cx_ok _ _ _) [(0,false),(1,true),(2,true),(3,true),(4,true),(5,true),(6,true),(7,true),(8,true),(9,true)] (by kernel_rfl) (Dra.op' rfl rfl rfl (.load rfl) (Ope.load rfl rfl ?_))))
          refine Dra.op' rfl rfl rfl .sure (Ope.bsl rfl rfl rfl rfl ?_)
          refine Dra.op' rfl rfl rfl .sure (Ope.mov rfl ?_)
          refine Dra.op' rfl rfl rfl .sure (Ope.apXe (vs:=[I 0]) rfl rfl (by simp only [List.length_map,List.length_singleton];omega) (by simp only [List.length_map,List.length_singleton];omega) (by decide) (by intro v hv;simp only [List.mem_singleton] at hv;subst hv;rfl) (by intro v hv;obtain ⟨_,_,rfl⟩:=List.mem_map.1 hv;exact ⟨rfl,rfl⟩) (fun t' n' ht' _=>?_))
          refine Dra.op' rfl rfl rfl .sure (Ope.cf rfl rfl (hse t' ht') (hbse t' ht') ?_)
          refine Dra.op' rfl rfl rfl .sure (Ope.mov rfl ?_)
          refine Dra.op' rfl rfl rfl .sure (Ope.ext rfl rfl ?_)
          refine Dra.op' rfl rfl rfl .sure (Ope.ext rfl rfl ?_)
          refine Dra.op' rfl rfl rfl .sure (Ope.asg rfl ?_)
          refine Dra.op' rfl rfl rfl .sure (Ope.asg rfl ?_)
          refine Dra.nil (Run.seq (Run.region (cx_ok _ _ _) (Reg.op rfl (Ope.mov rfl ?_))))
          refine Reg.op rfl (Ope.eq rfl rfl ?_)
          refine Reg.op rfl (Ope.mov rfl ?_)
          refine Reg.splitX rfl rfl (fun hg=>?_) fun hg=>?_
          ·first
           |(first | (exfalso;omega) | (exfalso;simp at hg;done))
           |refine Reg.on rfl rfl rfl (Ope.cf rfl rfl (awakeF) rfl ?_)
            refine Reg.op rfl (Ope.pickT rfl rfl ?_)
            refine Reg.op rfl (Ope.asg rfl ?_)
            exact Reg.nil (Run.ret (fin_ret (.tmp rfl .nil) rfl rfl))
          ·first
           |(first | (exfalso;omega) | (exfalso;simp at hg;done))
           |refine Reg.off rfl rfl rfl (Reg.op rfl (Ope.pickF rfl rfl ?_))
            refine Reg.op rfl (Ope.asg rfl ?_)
            exact Reg.nil (Run.ret (fin_ret (.tmp rfl .nil) rfl rfl))
end
theorem f8a (s:Shp) (hi:s.i64) (by':List Nat) (hb8:∀ x∈by',x < 256):Fn P0 8 [s.v .no .no,.sl .no (by'.map U8)] (B true):=by
  cases hv:s.val with
  | false=>exact f8n s (t1:=.no) (t2:=.no) rfl rfl hi _ hv
  | true =>
    obtain ⟨om,tm,htm,hom,hma⟩:=f34 s (t1:=.no) (t2:=.no) rfl rfl (by have:=(val_ok hi hv).jo;omega) .no by' hb8
    cases hr:s.rgt om with
    | false=>exact f8w s (t1:=.no) (t2:=.no) rfl rfl hi hv .no rfl by' om tm htm hom hma hr
    | true=>exact f8y s (t1:=.no) (t2:=.no) rfl rfl hi hv .no rfl by' om tm htm hom hma hr
end Go.Pv
