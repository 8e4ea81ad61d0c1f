/- Parts of the proof: M31, M32, M33, M29, M35, M37 -/
import Derived.Test.YtgpcfkpenkaipaaP20
set_option linter.unusedVariables false
set_option linter.unusedSimpArgs false
set_option linter.unusedSectionVars false
namespace Go.Pv
open Go.Proofs Go.Am
set_option maxRecDepth 10000
theorem get_job (post:List PV) {c:Nat} (hc:c < 8):∀ (js:List Job) (i:Nat) (h:i < js.length),(flat (js.map Job.v)++post)[8 * i+c]?=js[i].v.cells[c]?
  | j :: js, 0, _ => by
    simp only [List.map_cons,flat,List.getElem_cons_zero,Nat.mul_zero,Nat.zero_add,List.append_assoc]
    exact List.getElem?_append_left (by show c < 8;exact hc)
  | j :: js, i + 1, h => by
    have ih:=get_job post hc js i (by simpa using h)
    simp only [List.map_cons,flat,List.getElem_cons_succ,List.append_assoc]
    have h8:j.v.cells.length=8:=rfl
    rw [List.getElem?_append_right (by rw [h8];omega),h8,← ih]
    congr 1
    omega
theorem set_job (post:List PV) {c:Nat} (hc:c < 8) {x:PV} {g:Job→Job} (hg:∀ j:Job,(g j).v.cells=j.v.cells.set c x):∀ (js:List Job) (i:Nat) (h:i < js.length),(flat (js.map Job.v)++post).set (8 * i+c) x=flat ((js.set i (g js[i])).map Job.v)++post
  | j :: js, 0, _ => by
    simp only [List.map_cons,flat,List.getElem_cons_zero,Nat.mul_zero,Nat.zero_add,List.set_cons_zero,List.append_assoc,hg]
    rw [List.set_append_left _ _ (by show c < 8;exact hc)]
  | j :: js, i + 1, h => by
    have ih:=set_job post hc hg js i (by simpa using h)
    simp only [List.map_cons,flat,List.getElem_cons_succ,List.set_cons_succ,List.append_assoc]
    have h8:j.v.cells.length=8:=rfl
    rw [List.set_append_right _ _ (by rw [h8];omega),h8,← ih]
    congr 2
    omega
theorem jobs_len (js:List Job) (post:List PV):(flat (js.map Job.v)++post).length=8 * js.length+post.length:=by rw [List.length_append,flat_jobs]
section
variable (s:Shp) {t1 t2:Tail} (h1:t1.isOwn=false) (h2:t2.isOwn=false)
include h1 h2
end
end Go.Pv
namespace Go.Pv
open Go.Proofs Go.Am
set_option maxRecDepth 10000
structure LaxJ (j k:Job):Prop where
  kd:k.kd=j.kd
  hi:k.hi≤j.hi
  fr:k.fr≤j.fr
  so:j.so≤k.so
  bt:j.bt≤k.bt
  co:k.co≤j.co
  c0:0≤k.co
  af:∀ q,k.af.toNat.testBit q=true→j.af.toNat.testBit q=true
structure Lax (s x:Shp):Prop where
  su:x.su=s.su
  n:x.jo.length=s.jo.length
  j:∀ i,i < s.jo.length→LaxJ (s.job i) (x.job i)
structure PLax (p q:Pst):Prop where
  J:q.J=p.J
  kd:q.kd=p.kd
  f1:q.f1≤p.f1
section
variable {s x:Shp} (hL:Lax s x)
include hL
end
theorem olk_n (L:List Sq):(olk L).n=L.length:=by cases L<;>rfl
theorem all_n (s:Shp):s.all.n=(s.sqs s.jo.length Shp.p0).length:=olk_n _
structure SameJ (j k:Job):Prop where
  kd:k.kd=j.kd
  hi:k.hi=j.hi
  fr:k.fr=j.fr
  so:k.so=j.so
  bt:k.bt=j.bt
  co:k.co=j.co
  af:k.af=j.af
structure Same (s x:Shp):Prop where
  su:x.su=s.su
  n:x.jo.length=s.jo.length
  j:∀ i,i < s.jo.length→SameJ (s.job i) (x.job i)
structure PSame (p q:Pst):Prop where
  J:q.J=p.J
  kd:q.kd=p.kd
  f1:q.f1=p.f1
section
variable {s x:Shp} (hL:Same s x)
include hL
end
end Go.Pv
namespace Go.Pv
open Go.Proofs Go.Am
set_option maxRecDepth 10000
theorem sps {ws:List Wrk}:ws.map Wrk.sp=(ws.map fun w=>(w.d0,w.d1)).map spV:=by rw [List.map_map];rfl
end Go.Pv
namespace Go.Pv
open Go.Proofs Go.Am
set_option maxRecDepth 10000
def GI (s:Shp) (ws:List Wrk) (J R:Int) (i:Nat) (G:Int):Prop :=
  (G=4∧s.flt ws=none)∨(G=0∧(∃ j:Nat,J=j∧s.flt ws=some (j,R))∧∀ k (hk:k < ws.length),k < i→s.bad ws[k]=0)∨(G=11∧s.flt ws≠none)
theorem GI.zero {s:Shp} {ws:List Wrk} {J R:Int} {i:Nat} {G:Int} (h:GI s ws J R i G) (hG:G=0):(∃ j:Nat,J=j∧s.flt ws=some (j,R))∧∀ k (hk:k < ws.length),k < i→s.bad ws[k]=0:=by
  rcases h with h | h | h
  · have:=h.1;omega
  · exact h.2
  · have:=h.1;omega
section
variable (s:Shp) {t1 t2:Tail} (h1:t1.isOwn=false) (h2:t2.isOwn=false)
include h1 h2
end
end Go.Pv
namespace Go.Pv
open Go.Proofs Go.Am
set_option maxRecDepth 10000
def upN (g:Job→Job) (i:Nat) (js:List Job):List Job:=(js.take i).map g++js.drop i
theorem upN_len (g:Job→Job) (i:Nat) (js:List Job):(upN g i js).length=js.length:=by simp [upN];omega
theorem upN_tk {g:Job→Job} {i:Nat} {js:List Job} (h:i < js.length):((js.take i).map g).length=i:=by
  rw [List.length_map,List.length_take];omega
theorem upN_at {g:Job→Job} {i:Nat} {js:List Job} (h:i < js.length):(upN g i js)[i]'(by rw [upN_len];exact h)=js[i]:=by
  have hl:=upN_tk (g:=g) h
  simp only [upN]
  rw [List.getElem_append_right (by rw [hl];exact Nat.le_refl _),List.getElem_drop]
  congr 1
  omega
theorem upN_succ {g:Job→Job} {i:Nat} {js:List Job} (h:i < js.length):(upN g i js).set i (g js[i])=upN g (i+1) js:=by
  have hl:=upN_tk (g:=g) h
  simp only [upN]
  rw [List.take_succ_eq_append_getElem h,List.map_append,List.drop_eq_getElem_cons h,List.set_append_right _ _ (by rw [hl];exact Nat.le_refl _),hl,Nat.sub_self,List.set_cons_zero]
  simp
theorem upN_all (g:Job→Job) (js:List Job):upN g js.length js=js.map g:=by simp [upN]
section
variable (s:Shp) {t1 t2:Tail} (h1:t1.isOwn=false) (h2:t2.isOwn=false)
include h1 h2
theorem f41e (hj:s.jo=[]) (n:Int):Fn P0 41 [s.v t1 t2,I n] ((s.lon n).v t1 .ex):=by
  have hbr:PV.bd 0 (.agg [.sl t1 (s.su.map I),.sl .ex []])=true:=bd_agg (bds_cons (bd_sl (f:=I) h1 (fun _=>rfl) _) rfl)
  obtain ⟨su,jo⟩:=s
  simp only at hj
  subst hj
  refine PFun.of (C:=c41) (cx_ok _ _ _) rfl (fn:=Try.f41) (by kernel_rfl) (c:=_) rfl rfl rfl ?_
  refine Run.seq (Run.region (cx_ok _ _ _) (Reg.op rfl (Ope.boxF rfl rfl ?_)))
  refine Reg.op rfl (Ope.newL rfl ?_)
  refine Reg.nil (Run.seq (Run.region (cx_ok _ _ _) (Reg.op rfl (Ope.load rfl rfl ?_))))
  refine Reg.op rfl (Ope.newL rfl ?_)
  refine Reg.op0 (Ope.store rfl rfl hget_hd rfl rfl rfl ?_)
  refine Reg.nil (Run.seq (Run.region (cx_ok _ _ _) (Reg.op rfl (Ope.bsl rfl rfl rfl rfl ?_))))
  refine Reg.op rfl (Ope.fld rfl rfl ?_)
  refine Reg.op rfl (Ope.load rfl rfl ?_)
  refine Reg.op rfl (Ope.ap0 rfl rfl ?_)
  refine Reg.op rfl (Ope.fld rfl rfl ?_)
  refine Reg.op0 (Ope.store rfl rfl hget_hd rfl rfl rfl ?_)
  refine Reg.nil (Run.seq (Run.seq (Run.region (cx_ok _ _ _) (Reg.op rfl (Ope.asg rfl ?_)))))
  refine Reg.nil (Run.block (Run.wide (m:=2) (l':=[(1,some (.cells [.sl t1 (su.map I),.sl .ex []])),(0,some (.cells [.sl .ex [],.sl .ex []]))]) (Nat.le_refl _) ⟨rfl,rfl,trivial⟩ ?_))
  refine Run.loop (α:=Nat) (fun i=>[(5,.ptr 1 0),(4,.ptr 0 0),(6,I i)]) (fun _=>HE 2 [(1,some (.cells [.sl t1 (su.map I),.sl .ex []])),(0,some (.cells [.sl .ex [],.sl .ex []]))]) (fun i=>i=0) (fun i=>i) 0 ⟨rfl,rfl,rfl,trivial⟩ rfl rfl (fun i hi=>?_)
  subst hi
  refine Run.seq (Run.seq (Run.region (cx_ok _ _ _) (Reg.op rfl (Ope.mov rfl ?_))))
  refine Reg.op rfl (Ope.fld rfl rfl ?_)
  refine Reg.op rfl (Ope.load rfl rfl ?_)
  refine Reg.op rfl (Ope.len (m:=0) rfl rfl ?_)
  refine Reg.op rfl (Ope.lt rfl rfl ?_)
  refine Reg.nil (Run.condX rfl (fun hc=>?_) fun hc=>?_)
  ·(exfalso;omega)
  ·refine Run.exit (Jmp.code (Jmp.round (Jmp.here (Run.seq (Run.region (cx_ok _ _ _) (Reg.op rfl (Ope.load rfl rfl ?_)))))))
   refine Reg.op0 (Ope.store rfl rfl rfl rfl rfl rfl ?_)
   exact Reg.nil (Run.ret (fin_ret (.cell rfl rfl .nil) hbr rfl))
theorem f41l (hs:s.ok 30) (hne:s.jo≠[]) (n:Int) (hn:0≤n∧n≤100):Fn P0 41 [s.v t1 t2,I n] ((s.lon n).v t1 .no):=by
  have hl6:=hs.jo
  have hjv:=hs.jv
  have hbr:PV.bd 0 (.agg [.sl t1 (s.su.map I),.sl .no ((s.jo.map (Job.lon n)).map Job.v)])=true:=bd_agg (bds_cons (bd_sl (f:=I) h1 (fun _=>rfl) _) (bds_cons (bd_sl (f:=Job.v) (tl:=.no) rfl (fun _=>rfl) _) rfl))
  obtain ⟨su,jo⟩:=s
  simp only at hne hl6 hbr hjv
  have hne':jo.map Job.v≠[]:=fun h=>hne (List.map_eq_nil_iff.1 h)
  have hln:([]:List PV).length+(jo.map Job.v).length=jo.length:=by simp
  refine PFun.of (C:=c41) (cx_ok _ _ _) rfl (fn:=Try.f41) (by kernel_rfl) (c:=_) rfl rfl rfl ?_
  refine Run.seq (Run.region (cx_ok _ _ _) (Reg.op rfl (Ope.boxF rfl rfl ?_)))
  refine Reg.op rfl (Ope.newL rfl ?_)
  refine Reg.nil (Run.seq (Run.region (cx_ok _ _ _) (Reg.op rfl (Ope.load rfl rfl ?_))))
  refine Reg.op rfl (Ope.newL rfl ?_)
  refine Reg.op0 (Ope.store rfl rfl hget_hd rfl rfl rfl ?_)
  refine Reg.nil (Run.seq (Run.region (cx_ok _ _ _) (Reg.op rfl (Ope.bsl rfl rfl rfl rfl ?_))))
  refine Reg.op rfl (Ope.fld rfl rfl ?_)
  refine Reg.op rfl (Ope.load rfl rfl ?_)
  refine Reg.op rfl (Ope.apLa rfl rfl hne' (by rw [hln];omega) (by rw [hln];omega) (by decide) (by simp) (by intro v hv;obtain ⟨_,_,rfl⟩:=List.mem_map.1 hv;exact ⟨rfl,rfl⟩) (fun cp post ez hcp=>?_))
  have hcp':jo.length≤cp:=by simpa using hcp
  rw [hln]
  refine Reg.op rfl (Ope.fld rfl rfl ?_)
  refine Reg.op0 (Ope.store rfl rfl ((hget_tl (by omega)).trans hget_hd) rfl rfl rfl ?_)
  refine Reg.nil (Run.seq (Run.seq (Run.region (cx_ok _ _ _) (Reg.op rfl (Ope.asg rfl ?_)))))
  refine Reg.nil (Run.block (Run.wide (m:=3) (l':=[(2,some (.cells (flat ((upN (Job.lon n) 0 jo).map Job.v)++post))),(1,some (.cells [.sl t1 (su.map I),.ms 2 0 jo.length cp ez])),(0,some (.cells [.sl .ex [],.sl .ex []]))]) (Nat.le_refl _) ⟨rfl,rfl,rfl,trivial⟩ ?_))
  refine Run.loop (α:=Nat) (fun i=>[(1,I n),(5,.ptr 1 0),(4,.ptr 0 0),(6,I i)]) (fun i=>HE 3 [(2,some (.cells (flat ((upN (Job.lon n) i jo).map Job.v)++post))),(1,some (.cells [.sl t1 (su.map I),.ms 2 0 jo.length cp ez])),(0,some (.cells [.sl .ex [],.sl .ex []]))]) (fun i=>i≤jo.length) (fun i=>jo.length - i) 0 ⟨rfl,rfl,rfl,rfl,trivial⟩ rfl (Nat.zero_le _) (fun i hi=>?_)
  refine Run.seq (Run.seq (Run.region (cx_ok _ _ _) (Reg.op rfl (Ope.mov rfl ?_))))
  refine Reg.op rfl (Ope.fld rfl rfl ?_)
  refine Reg.op rfl (Ope.load rfl rfl ?_)
  refine Reg.op rfl (Ope.lenL rfl ?_)
  refine Reg.op rfl (Ope.lt rfl rfl ?_)
  refine Reg.nil (Run.condX rfl (fun hc=>?_) fun hc=>?_)
  ·refine Run.skip (Run.seq (Run.block ?_))
   have hlt:i < jo.length:=by omega
   have hmi:=(hjv i hlt).mi
   have hlt':i < (upN (Job.lon n) i jo).length:=by rw [upN_len];exact hlt
   have hg2:=get_job post (c:=2) (by decide) (upN (Job.lon n) i jo) i hlt'
   rw [upN_at hlt] at hg2
   have hs2:=set_job post (c:=2) (by decide) (x:=I (jo[i].hi+n)) (g:=fun j=>{ j with hi:=jo[i].hi+n }) (fun j=>rfl) (upN (Job.lon n) i jo) i hlt'
   rw [upN_at hlt] at hs2
   have hsu:=upN_succ (g:=Job.lon n) hlt
   have hcl:=jobs_len (upN (Job.lon n) i jo) post
   rw [upN_len] at hcl
   have hgo2:∀ q,q=8 * i+2→(flat ((upN (Job.lon n) i jo).map Job.v)++post)[q]?=some (I jo[i].hi):=by rintro q rfl;exact hg2
   have hso2:∀ q,q=8 * i+2→(flat ((upN (Job.lon n) i jo).map Job.v)++post).set q (I (jo[i].hi+n))=flat ((upN (Job.lon n) (i+1) jo).map Job.v)++post:=by
     rintro q rfl
     refine hs2.trans ?_
     rw [← hsu];rfl
   refine Run.draw (cx_ok _ _ _) [(0,true),(1,true),(2,true),(3,true),(4,true),(5,true),(6,true),(7,true),(8,true),(9,true),(10,true),(11,true),(12,true),(13,true),(14,true),(15,true)] (by kernel_rfl) (Dra.op' rfl rfl rfl .sure (Ope.fld rfl rfl ?_))
   refine Dra.op' rfl rfl rfl .sure (Ope.load rfl rfl ?_)
   refine Dra.op' rfl rfl rfl .sure (Ope.mov rfl ?_)
   refine Dra.op' rfl rfl rfl .sure (Ope.fld rfl rfl ?_)
   refine Dra.op' rfl rfl rfl .sure (Ope.load rfl rfl ?_)
   refine Dra.op' rfl rfl rfl .sure (Ope.mov rfl ?_)
   refine Dra.op' rfl rfl rfl .sure (Ope.idxL (m:=i) rfl rfl rfl hlt ?_)
   refine Dra.op' rfl rfl rfl .sure (Ope.fld rfl rfl ?_)
   refine Dra.op' rfl rfl rfl .sure (Ope.fld rfl rfl ?_)
   refine Dra.op' rfl rfl rfl .sure (Ope.loadL rfl hget_hd (hgo2 _ (by show 0+i * 8+1+1=_;omega)) ?_)
   refine Dra.op' rfl rfl rfl .sure (Ope.mov rfl ?_)
   refine Dra.op' rfl rfl rfl .sure (Ope.add rfl rfl (by omega) ?_)
   refine Dra.op' rfl rfl rfl .sure (Ope.idxL (m:=i) rfl rfl rfl hlt ?_)
   refine Dra.op' rfl rfl rfl .sure (Ope.fld rfl rfl ?_)
   refine Dra.op' rfl rfl rfl .sure (Ope.fld rfl rfl ?_)
   refine Dra.op' rfl rfl rfl .sure (Ope.storeL rfl rfl hget_hd rfl rfl (by rw [hcl];show 0+i * 8+1+1 < _;omega) ?_)
   refine Dra.nil (Run.bend (Run.wide (m:=3) (l':=[(2,some (.cells (flat ((upN (Job.lon n) (i+1) jo).map Job.v)++post))),(1,some (.cells [.sl t1 (su.map I),.ms 2 0 jo.length cp ez])),(0,some (.cells [.sl .ex [],.sl .ex []]))]) (Nat.le_refl _) ⟨hget_hd.trans (congrArg (fun l=>some (PBlk.cells l)) (hso2 _ (by show 0+i * 8+1+1=_;omega))),rfl,rfl,trivial⟩ ?_))
   refine Run.region (cx_ok _ _ _) (Reg.op rfl (Ope.mov rfl ?_))
   refine Reg.op rfl (Ope.add rfl rfl (by omega) ?_)
   refine Reg.op rfl (Ope.asg rfl ?_)
   exact Reg.nil (Run.lend ⟨i+1,by omega,by omega,⟨rfl,rfl,rfl,rfl,trivial⟩,rfl,rfl⟩)
  ·refine Run.exit (Jmp.code (Jmp.round (Jmp.here (Run.seq ?_))))
   obtain rfl:i=jo.length:=by omega
   rw [upN_all]
   refine Run.frzB (x:=1) (i:=2) (pre:=[.sl t1 (su.map I)]) (suf:=[]) (vs:=(jo.map (Job.lon n)).map Job.v) (post:=post) (sz:=8) rfl rfl (by decide) (by simp) hcp' (by intro v hv;obtain ⟨_,_,rfl⟩:=List.mem_map.1 hv;rfl) ?_
   refine Run.region (cx_ok _ _ _) (Reg.op rfl (Ope.load rfl rfl ?_))
   refine Reg.op0 (Ope.store rfl rfl rfl rfl rfl rfl ?_)
   exact Reg.nil (Run.ret (fin_ret (.cell rfl rfl .nil) hbr rfl))
theorem f41 (hs:s.ok 30) (n:Int) (hn:0≤n∧n≤100):∃ t3:Tail,t3.isOwn=false∧Fn P0 41 [s.v t1 t2,I n] ((s.lon n).v t1 t3):=by
  by_cases h:s.jo=[]
  · exact ⟨.ex,rfl,f41e s h1 h2 h n⟩
  · exact ⟨.no,rfl,f41l s h1 h2 hs h n hn⟩
end
end Go.Pv
namespace Go.Pv
open Go.Proofs Go.Am
set_option maxRecDepth 10000
def atI:List Int→Int→Int
  | [],_=>-1
  | y::l,x=>if y=x then 0 else if atI l x < 0 then -1 else atI l x+1
theorem atI_none:∀ {xs:List Int} {x:Int},(∀ k (h:k < xs.length),xs[k]≠x)→atI xs x=-1
  | [],_,_=>rfl
  | y :: l, x, h => by
    have h0:=h 0 (by simp)
    have ih:=atI_none (xs:=l) (x:=x) fun k hk=>by
      have:=h (k+1) (by simpa using hk)
      simpa using this
    simp only [List.getElem_cons_zero] at h0
    simp only [atI,ih,if_neg h0]
    rfl
theorem atI_found:∀ {xs:List Int} {x:Int} {i:Nat} (hi:i < xs.length),xs[i]=x→(∀ k (h:k < xs.length),k < i→xs[k]≠x)→atI xs x=i
  | y :: l, x, 0, _, he, _ => by
    simp only [List.getElem_cons_zero] at he
    simp only [atI,if_pos he];rfl
  | y :: l, x, i + 1, hi, he, h => by
    have h0:=h 0 (by simp) (by omega)
    simp only [List.getElem_cons_zero] at h0
    have ih:=atI_found (xs:=l) (x:=x) (i:=i) (by simpa using hi) (by simpa using he) fun k hk hki=>by
      have:=h (k+1) (by simpa using hk) (by omega)
      simpa using this
    simp only [atI,ih,if_neg h0]
    rw [if_neg (by omega)]
    omega
theorem atI_neg {xs : List Int} {x : Int} : 0 ≤ atI xs x ↔ x ∈ xs := by
  induction xs with
  | nil=>simp [atI]
  | cons y l ih =>
    simp only [atI,List.mem_cons]
    split
    · next h=>simp [h]
    · next h =>
      split
      · next h2 =>
        have:¬ x∈l:=fun hm=>by have:=ih.2 hm;omega
        have h3:¬ x=y:=fun e=>h e.symm
        simp [this,h3]
      · next h2 =>
        have:x∈l:=ih.1 (by omega)
        simp [this]
        omega
theorem f68 (t:Tail) (xs:List Int) (hx:xs.length≤1000000) (x:Int):Fn P0 68 [.sl t (xs.map I),I x] (I (atI xs x)):=by
  have hno:=fun h=>atI_none (xs:=xs) (x:=x) h
  have hyes:=fun {i:Nat} hi he h=>atI_found (xs:=xs) (x:=x) (i:=i) hi he h
  generalize atI xs x=z at *
  refine PFun.of (C:=c68) (cx_ok _ _ _) rfl (fn:=Try.f68) (by kernel_rfl) (c:=_) rfl rfl rfl ?_
  refine Run.seq (Run.region (cx_ok _ _ _) (Reg.op rfl (Ope.asg rfl ?_)))
  refine Reg.nil (Run.seq (Run.seq (Run.region (cx_ok _ _ _) (Reg.op rfl (Ope.asg rfl ?_)))))
  refine Reg.nil (Run.block (Run.loop (α:=Nat) (fun i=>[(0,.sl t (xs.map I)),(1,I x),(5,I i)]) (fun _=>HE 0 []) (fun i=>i≤xs.length∧∀ k (h:k < xs.length),k < i→xs[k]≠x) (fun i=>xs.length - i) 0 ⟨rfl,rfl,rfl,trivial⟩ rfl ⟨Nat.zero_le _,fun k _ h=>absurd h (Nat.not_lt_zero _)⟩ (fun i hi=>?_)))
  obtain ⟨hi,hall⟩:=hi
  refine Run.seq (Run.seq (Run.region (cx_ok _ _ _) (Reg.op rfl (Ope.mov rfl ?_))))
  refine Reg.op rfl (Ope.mov rfl ?_)
  refine Reg.op rfl (Ope.len (m:=xs.length) rfl (by simp) ?_)
  refine Reg.op rfl (Ope.lt rfl rfl ?_)
  refine Reg.nil (Run.condX rfl (fun hc=>?_) fun hc=>?_)
  ·refine Run.skip (Run.seq (Run.block (Run.seq ?_)))
   have hlt:i < xs.length:=by omega
   refine Run.region (cx_ok _ _ _) (Reg.op rfl (Ope.mov rfl ?_))
   refine Reg.op rfl (Ope.mov rfl ?_)
   refine Reg.op rfl (Ope.idxM (m:=i) (f:=I) rfl rfl rfl hlt (fun _=>rfl) ?_)
   refine Reg.op rfl (Ope.load rfl rfl ?_)
   refine Reg.op rfl (Ope.mov rfl ?_)
   refine Reg.op rfl (Ope.eq rfl rfl ?_)
   refine Reg.nil (Run.condX rfl (fun hc=>?_) fun hc=>?_)
   ·refine Run.seq (Run.region (cx_ok _ _ _) (Reg.op rfl (Ope.mov rfl ?_)))
    refine Reg.op rfl (Ope.asg rfl ?_)
    refine Reg.nil (Run.ret (Jmp.retB (Jmp.code (Jmp.round (Jmp.retB (Jmp.code (fin_ret (.tmp rfl .nil) rfl ?_)))))))
    first
    | (rw [hyes hlt hc hall];rfl)
    | (rw [hno fun k hk=>hall k hk (by omega)];rfl)
   ·refine Run.skip (Run.bend (Run.region (cx_ok _ _ _) (Reg.op rfl (Ope.mov rfl ?_))))
    refine Reg.op rfl (Ope.add rfl rfl (by omega) ?_)
    refine Reg.op rfl (Ope.asg rfl ?_)
    refine Reg.nil ?_
    exact Run.lend ⟨i+1,by omega,⟨by omega,fun k hk hki=>by
      by_cases hkk:k=i
      · subst hkk;exact hc
      · exact hall k hk (by omega)⟩,⟨rfl,rfl,rfl,trivial⟩,rfl,rfl⟩
  ·refine Run.exit (Jmp.code (Jmp.round (Jmp.here (Run.seq (Run.region (cx_ok _ _ _) (Reg.op rfl (Ope.asg rfl ?_)))))))
   refine Reg.nil (Run.ret (fin_ret (.tmp rfl .nil) rfl ?_))
   first
   | (rw [hyes hlt hc hall];rfl)
   | (rw [hno fun k hk=>hall k hk (by omega)];rfl)
def ordR (n:Nat) (xs:List Int):Bool:=(List.range n).all (fun i=>decide (0≤atI xs (i:Int))) && decide (xs.length=n)
theorem ordR_eq {n : Nat} (hn : n ≤ 6) (xs : List Int) : ordR n xs = ordB n xs := by
  have key:ordR n xs=true↔ordB n xs=true:=by
    constructor
    · intro h
      unfold ordR at h
      simp only [Bool.and_eq_true,List.all_eq_true,List.mem_range,decide_eq_true_eq] at h
      obtain ⟨h1,h2⟩:=h
      have hm:∀ i,i < n→(i:Int)∈xs:=fun i hi=>atI_neg.1 (h1 i hi)
      -- what is in the limits
      let ys:=xs.filter (numB n)
      let o:=ys.map Int.toNat
      have hol:∀ i∈o,i < n:=fun i hi=>by
        obtain ⟨x,hx,rfl⟩:=List.mem_map.1 hi
        have:=(List.mem_filter.1 hx).2
        simp only [numB,Bool.and_eq_true,decide_eq_true_eq] at this
        omega
      have hoa:∀ i,i < n→i∈o:=fun i hi=>List.mem_map.2 ⟨(i:Int),List.mem_filter.2 ⟨hm i hi,by simp only [numB,Bool.and_eq_true,decide_eq_true_eq];omega⟩,by simp⟩
      have h3:=(lft_orJ o 0 hol).1
      rw [lft_0,(lft_zero n).2 fun i hi=>by rw [orJ_bit,decide_eq_true (hoa i hi),Bool.or_true]] at h3
      have h4:ys.length=xs.length:=by
        have:=List.length_filter_le (numB n) xs
        have:o.length=ys.length:=List.length_map _
        show (xs.filter (numB n)).length=_
        have h6:ys.length=(xs.filter (numB n)).length:=rfl
        omega
      have h5:∀ x∈xs,numB n x=true:=List.length_filter_eq_length_iff.1 h4
      have h6:xs=o.map fun i:Nat=>(i:Int):=by
        have e:ys=xs:=List.filter_eq_self.2 h5
        show xs=(ys.map Int.toNat).map fun i:Nat=>(i:Int)
        rw [e,List.map_map]
        have:∀ x∈xs,((fun i:Nat=>(i:Int)) ∘ Int.toNat) x=x:=fun x hx=>by
          have:=h5 x hx
          simp only [numB,Bool.and_eq_true,decide_eq_true_eq] at this
          show ((x.toNat:Nat):Int)=x
          omega
        exact ((List.map_congr_left this).trans (List.map_id' xs)).symm
      rw [h6]
      refine ordr_B hn ⟨?_,hol,hoa⟩
      have:o.length=ys.length:=List.length_map _
      omega
    · intro h
      obtain ⟨o,rfl,ho⟩:=ord_nat hn h
      unfold ordR
      simp only [Bool.and_eq_true,List.all_eq_true,List.mem_range,decide_eq_true_eq,List.length_map]
      exact ⟨fun i hi=>atI_neg.2 (List.mem_map.2 ⟨i,ho.all i hi,rfl⟩),ho.len⟩
  cases ha:ordR n xs<;>cases hb:ordB n xs<;>simp_all
section
variable (s:Shp) {t1 t2:Tail} (h1:t1.isOwn=false) (h2:t2.isOwn=false)
include h1 h2
theorem f38 (hJ:s.jo.length≤1000000) (t:Tail) (ht:t.isOwn=false) (xs:List Int) (hx:xs.length≤1000000):Fn P0 38 [s.v t1 t2,.sl t (xs.map I)] (B (ordR s.jo.length xs)):=by
  have hat:=fun x=>f68 t xs hx x
  have hba:∀ x:Int,PV.bds 0 [.sl t (xs.map I),I x]=true:=fun x=>bds_cons (bd_sl (f:=I) ht (fun _=>rfl) _) rfl
  have hno:∀ i,i < s.jo.length→atI xs i < 0→ordR s.jo.length xs=false:=fun i hi h=>by
    unfold ordR
    rw [show (List.range s.jo.length).all (fun i=>decide (0≤atI xs (i:Int)))=false from by
      rw [List.all_eq_false]
      exact ⟨i,List.mem_range.2 hi,by simp;omega⟩]
    rfl
  have hyes:(∀ i,i < s.jo.length→¬ atI xs i < 0)→ordR s.jo.length xs=decide ((xs.length:Int)=s.jo.length):=fun h=>by
    unfold ordR
    rw [show (List.range s.jo.length).all (fun i=>decide (0≤atI xs (i:Int)))=true from by
      rw [List.all_eq_true]
      exact fun i hi=>decide_eq_true (by have:=h i (List.mem_range.1 hi);omega),Bool.true_and]
    exact decide_eq_decide.2 (by omega)
  obtain ⟨su,jo⟩:=s
  simp only at hno hyes hJ
  refine PFun.of (C:=c38) (cx_ok _ _ _) rfl (fn:=Try.f38) (by kernel_rfl) (c:=_) rfl rfl rfl ?_
  refine Run.seq (Run.region (cx_ok _ _ _) (Reg.op rfl (Ope.boxF rfl rfl ?_)))
  refine Reg.op rfl (Ope.asg rfl ?_)
  refine Reg.nil (Run.seq (Run.seq (Run.region (cx_ok _ _ _) (Reg.op rfl (Ope.asg rfl ?_)))))
  refine Reg.nil (Run.block (Run.loop (α:=Nat) (fun i=>[(2,.fp (.agg [.sl t1 (su.map I),.sl t2 (jo.map Job.v)])),(1,.sl t (xs.map I)),(5,I i)]) (fun _=>HE 0 []) (fun i=>i≤jo.length∧∀ k,k < i→¬ atI xs k < 0) (fun i=>jo.length - i) 0 ⟨rfl,rfl,rfl,trivial⟩ rfl ⟨Nat.zero_le _,fun k h=>absurd h (Nat.not_lt_zero _)⟩ (fun i hi=>?_)))
  obtain ⟨hi,hall⟩:=hi
  refine Run.seq (Run.seq (Run.region (cx_ok _ _ _) (Reg.op rfl (Ope.mov rfl ?_))))
  refine Reg.op rfl (Ope.fld rfl rfl ?_)
  refine Reg.op rfl (Ope.load rfl rfl ?_)
  refine Reg.op rfl (Ope.len (m:=jo.length) rfl (by simp) ?_)
  refine Reg.op rfl (Ope.lt rfl rfl ?_)
  refine Reg.nil (Run.condX rfl (fun hc=>?_) fun hc=>?_)
  ·refine Run.skip (Run.seq (Run.block (Run.seq (Run.region (cx_ok _ _ _) (Reg.op rfl (Ope.mov rfl ?_))))))
   refine Reg.op rfl (Ope.mov rfl ?_)
   refine Reg.op rfl (Ope.cf rfl rfl (hat _) (hba _) ?_)
   refine Reg.op rfl (Ope.lt rfl rfl ?_)
   refine Reg.nil (Run.condX rfl (fun hc=>?_) fun hc=>?_)
   ·refine Run.seq (Run.region (cx_ok _ _ _) (Reg.op rfl (Ope.asg rfl ?_)))
    refine Reg.nil (Run.ret (Jmp.retB (Jmp.code (Jmp.round (Jmp.retB (Jmp.code (fin_ret (.tmp rfl .nil) rfl ?_)))))))
    first
    | (rw [hno i (by omega) hc];rfl)
    | (rw [hyes fun k hk=>hall k (by omega)];rfl)
   ·refine Run.skip (Run.bend (Run.region (cx_ok _ _ _) (Reg.op rfl (Ope.mov rfl ?_))))
    refine Reg.op rfl (Ope.add rfl rfl (by omega) ?_)
    refine Reg.op rfl (Ope.asg rfl ?_)
    refine Reg.nil ?_
    exact Run.lend ⟨i+1,by omega,⟨by omega,fun k hk=>by
      by_cases hkk:k=i
      · subst hkk;exact hc
      · exact hall k (by omega)⟩,⟨rfl,rfl,rfl,trivial⟩,rfl,rfl⟩
  ·refine Run.exit (Jmp.code (Jmp.round (Jmp.here (Run.seq (Run.region (cx_ok _ _ _) (Reg.op rfl (Ope.mov rfl ?_)))))))
   refine Reg.op rfl (Ope.len (m:=xs.length) rfl (by simp) ?_)
   refine Reg.op rfl (Ope.fld rfl rfl ?_)
   refine Reg.op rfl (Ope.load rfl rfl ?_)
   refine Reg.op rfl (Ope.len (m:=jo.length) rfl (by simp) ?_)
   refine Reg.op rfl (Ope.eq rfl rfl ?_)
   refine Reg.op rfl (Ope.asg rfl ?_)
   refine Reg.nil (Run.ret (fin_ret (.tmp rfl .nil) rfl ?_))
   first
   | (rw [hno i (by omega) hc];rfl)
   | (rw [hyes fun k hk=>hall k (by omega)];rfl)
end
end Go.Pv
