/- Parts of the proof: M31, M32, M33, M29, M34, M30 -/
import Derived.Test.YtgpcfkpenkaipaaP20
import Derived.Test.YtgpcfkpenkaipaaP12
set_option linter.unusedVariables false
set_option linter.unusedSimpArgs false
set_option linter.unusedSectionVars false
namespace Go.Pv
open Go.Proofs Go.Am
set_option maxRecDepth 10000
theorem get_job (post:List PV) {c:Nat} (hc:c < 8):∀ (js:List Job) (i:Nat) (h:i < js.length),(flat (js.map Job.v)++post)[8 * i+c]?=js[i].v.cells[c]?
  | j :: js, 0, _ => by
    simp only [List.map_cons,flat,List.getElem_cons_zero,Nat.mul_zero,Nat.zero_add,List.append_assoc]
    exact List.getElem?_append_left (by show c < 8;exact hc)
  | j :: js, i + 1, h => by
    have ih:=get_job post hc js i (by simpa using h)
    simp only [List.map_cons,flat,List.getElem_cons_succ,List.append_assoc]
    have h8:j.v.cells.length=8:=rfl
    rw [List.getElem?_append_right (by rw [h8];omega),h8,← ih]
    congr 1
    omega
theorem set_job (post:List PV) {c:Nat} (hc:c < 8) {x:PV} {g:Job→Job} (hg:∀ j:Job,(g j).v.cells=j.v.cells.set c x):∀ (js:List Job) (i:Nat) (h:i < js.length),(flat (js.map Job.v)++post).set (8 * i+c) x=flat ((js.set i (g js[i])).map Job.v)++post
  | j :: js, 0, _ => by
    simp only [List.map_cons,flat,List.getElem_cons_zero,Nat.mul_zero,Nat.zero_add,List.set_cons_zero,List.append_assoc,hg]
    rw [List.set_append_left _ _ (by show c < 8;exact hc)]
  | j :: js, i + 1, h => by
    have ih:=set_job post hc hg js i (by simpa using h)
    simp only [List.map_cons,flat,List.getElem_cons_succ,List.set_cons_succ,List.append_assoc]
    have h8:j.v.cells.length=8:=rfl
    rw [List.set_append_right _ _ (by rw [h8];omega),h8,← ih]
    congr 2
    omega
theorem jobs_len (js:List Job) (post:List PV):(flat (js.map Job.v)++post).length=8 * js.length+post.length:=by rw [List.length_append,flat_jobs]
def Job.exa (most:Bool) (j:Job):Job:=if most=true then { j with lo:=j.hi } else { j with hi:=j.lo }
def Shp.exa (most:Bool) (s:Shp):Shp:=⟨s.su,s.jo.map (Job.exa most)⟩
def exaN (most:Bool) (i:Nat) (js:List Job):List Job:=(js.take i).map (Job.exa most)++js.drop i
theorem exaN_len (most:Bool) (i:Nat) (js:List Job):(exaN most i js).length=js.length:=by simp [exaN];omega
theorem exaN_tk {most:Bool} {i:Nat} {js:List Job} (h:i < js.length):((js.take i).map (Job.exa most)).length=i:=by
  rw [List.length_map,List.length_take];omega
theorem exaN_at {most:Bool} {i:Nat} {js:List Job} (h:i < js.length):(exaN most i js)[i]'(by rw [exaN_len];exact h)=js[i]:=by
  have hl:=exaN_tk (most:=most) h
  simp only [exaN]
  rw [List.getElem_append_right (by rw [hl];exact Nat.le_refl _),List.getElem_drop]
  congr 1
  omega
theorem exaN_succ {most:Bool} {i:Nat} {js:List Job} (h:i < js.length):(exaN most i js).set i (js[i].exa most)=exaN most (i+1) js:=by
  have hl:=exaN_tk (most:=most) h
  simp only [exaN]
  rw [List.take_succ_eq_append_getElem h,List.map_append,List.drop_eq_getElem_cons h,List.set_append_right _ _ (by rw [hl];exact Nat.le_refl _),hl,Nat.sub_self,List.set_cons_zero]
  simp
theorem exaN_all (most:Bool) (js:List Job):exaN most js.length js=js.map (Job.exa most):=by simp [exaN]
section
variable (s:Shp) {t1 t2:Tail} (h1:t1.isOwn=false) (h2:t2.isOwn=false)
include h1 h2
theorem f37 (hv:s.val=true) (hs:s.ok 30) (tq:Tail) (htq:tq.isOwn=false) (o:List Nat) (ho:Ordr s.jo.length o):Fn P0 37 [s.v t1 t2,.sl tq (o.map N)] (B (s.rgt o)):=by
  obtain ⟨J,R,g,hch,hgc⟩:=checkV h1 h2 hv hs htq ho
  have hbo:PV.bds 0 [s.v t1 t2,.sl tq (o.map N)]=true:=bd_ord s h1 h2 tq htq o
  have hr:s.rgt o=decide (g=4):=by
    rcases hgc with ⟨a,b,_⟩ | ⟨a,b,_⟩
    · rw [b,a];rfl
    · rw [b,a];rfl
  rw [hr]
  refine PFun.of (C:=c37) (cx_ok _ _ _) rfl (fn:=Try.f37) (by kernel_rfl) (c:=_) rfl rfl rfl ?_
  refine Run.seq (Run.region (cx_ok _ _ _) (Reg.op rfl (Ope.boxF rfl rfl ?_)))
  refine Reg.op rfl (Ope.asg rfl ?_)
  refine Reg.nil (Run.seq (Run.region (cx_ok _ _ _) (Reg.op rfl (Ope.load rfl rfl ?_))))
  refine Reg.op rfl (Ope.mov rfl ?_)
  refine Reg.op rfl (Ope.cf rfl rfl hch hbo ?_)
  refine Reg.op rfl (Ope.mov rfl ?_)
  refine Reg.op rfl (Ope.ext rfl rfl ?_)
  refine Reg.op rfl (Ope.ext rfl rfl ?_)
  refine Reg.op rfl (Ope.ext rfl rfl ?_)
  refine Reg.op rfl (Ope.asg rfl ?_)
  refine Reg.op rfl (Ope.asg rfl ?_)
  refine Reg.op rfl (Ope.asg rfl ?_)
  refine Reg.nil (Run.seq (Run.region (cx_ok _ _ _) (Reg.op rfl (Ope.mov rfl ?_))))
  refine Reg.op rfl (Ope.eq rfl rfl ?_)
  refine Reg.op rfl (Ope.asg rfl ?_)
  exact Reg.nil (Run.ret (fin_ret (.tmp rfl .nil) rfl rfl))
theorem f35e (hj:s.jo=[]) (most:Bool):Fn P0 35 [s.v t1 t2,B most] ((s.exa most).v t1 .ex):=by
  have hbr:PV.bd 0 (.agg [.sl t1 (s.su.map I),.sl .ex []])=true:=bd_agg (bds_cons (bd_sl (f:=I) h1 (fun _=>rfl) _) rfl)
  obtain ⟨su,jo⟩:=s
  simp only at hj
  subst hj
  refine PFun.of (C:=c35) (cx_ok _ _ _) rfl (fn:=Try.f35) (by kernel_rfl) (c:=_) rfl rfl rfl ?_
  refine Run.seq (Run.region (cx_ok _ _ _) (Reg.op rfl (Ope.boxF rfl rfl ?_)))
  refine Reg.op rfl (Ope.newL rfl ?_)
  refine Reg.nil (Run.seq (Run.region (cx_ok _ _ _) (Reg.op rfl (Ope.load rfl rfl ?_))))
  refine Reg.op rfl (Ope.newL rfl ?_)
  refine Reg.op0 (Ope.store rfl rfl hget_hd rfl rfl rfl ?_)
  refine Reg.nil (Run.seq (Run.region (cx_ok _ _ _) (Reg.op rfl (Ope.bsl rfl rfl rfl rfl ?_))))
  refine Reg.op rfl (Ope.fld rfl rfl ?_)
  refine Reg.op rfl (Ope.load rfl rfl ?_)
  refine Reg.op rfl (Ope.ap0 rfl rfl ?_)
  refine Reg.op rfl (Ope.fld rfl rfl ?_)
  refine Reg.op0 (Ope.store rfl rfl hget_hd rfl rfl rfl ?_)
  refine Reg.nil (Run.seq (Run.seq (Run.region (cx_ok _ _ _) (Reg.op rfl (Ope.fld rfl rfl ?_)))))
  refine Reg.op rfl (Ope.load rfl rfl ?_)
  refine Reg.op rfl (Ope.len (m:=0) rfl rfl ?_)
  refine Reg.op rfl (Ope.mov rfl ?_)
  refine Reg.nil (Run.block (Run.wide (m:=2) (l':=[(1,some (.cells [.sl t1 (su.map I),.sl .ex []])),(0,some (.cells [.sl .ex [],.sl .ex []]))]) (Nat.le_refl _) ⟨rfl,rfl,trivial⟩ ?_))
  refine Run.loop (α:=Nat) (fun i=>[(5,.ptr 1 0),(4,.ptr 0 0),(16,I 0),(17,I i)]) (fun _=>HE 2 [(1,some (.cells [.sl t1 (su.map I),.sl .ex []])),(0,some (.cells [.sl .ex [],.sl .ex []]))]) (fun i=>i=0) (fun i=>i) 0 ⟨rfl,rfl,rfl,rfl,trivial⟩ rfl rfl (fun i hi=>?_)
  subst hi
  refine Run.seq (Run.region (cx_ok _ _ _) (Reg.op rfl (Ope.lt rfl rfl ?_)))
  refine Reg.nil (Run.seq (Run.condX rfl (fun hc=>?_) fun hc=>?_))
  ·first
   |(exfalso;omega)
   |refine Run.skip (Run.seq (Run.block (Run.seq (Run.region (cx_ok _ _ _) (Reg.op rfl (Ope.mov rfl ?_))))))
    refine Reg.op rfl (Ope.asg rfl ?_)
    refine Reg.nil (Run.seq (Run.region (cx_ok _ _ _) (Reg.op rfl (Ope.fld rfl rfl ?_))))
    refine Reg.op rfl (Ope.load rfl rfl ?_)
    refine Reg.op rfl (Ope.mov rfl ?_)
    first | refine Reg.op rfl (Ope.idxM rfl rfl rfl (by first | assumption | omega) (fun _=>rfl) ?_) | refine Reg.op rfl (Ope.idxL rfl rfl rfl (by first | assumption | omega) ?_)
    refine Reg.op rfl (Ope.fld rfl rfl ?_)
    refine Reg.op rfl (Ope.asg rfl ?_)
    refine Reg.nil (Run.seq (Run.region (cx_ok _ _ _) (Reg.op rfl (Ope.mov rfl ?_))))
    refine Reg.nil (Run.condX rfl (fun hc=>?_) fun hc=>?_)
    ·first
     |(exfalso;omega)
     |refine Run.region (cx_ok _ _ _) (Reg.op rfl (Ope.mov rfl ?_))
      refine Reg.op rfl (Ope.mov rfl ?_)
      refine Reg.op rfl (Ope.nilc rfl rfl ?_)
      refine Reg.op rfl (Ope.fld rfl rfl ?_)
      refine Reg.op rfl (Ope.load rfl rfl ?_)
      refine Reg.op rfl (Ope.nilc rfl rfl ?_)
      refine Reg.op rfl (Ope.fld rfl rfl ?_)
      refine Reg.op0 (Ope.store rfl rfl rfl rfl rfl rfl ?_)
      refine Reg.nil (Run.bend (Run.region (cx_ok _ _ _) (Reg.op rfl (Ope.add rfl rfl (by omega) ?_))))
      refine Reg.op rfl (Ope.mov rfl ?_)
      refine Reg.nil (Run.lend ?_)
    ·first
     |(exfalso;omega)
     |refine Run.region (cx_ok _ _ _) (Reg.op rfl (Ope.mov rfl ?_))
      refine Reg.op rfl (Ope.mov rfl ?_)
      refine Reg.op rfl (Ope.nilc rfl rfl ?_)
      refine Reg.op rfl (Ope.fld rfl rfl ?_)
      refine Reg.op rfl (Ope.load rfl rfl ?_)
      refine Reg.op rfl (Ope.nilc rfl rfl ?_)
      refine Reg.op rfl (Ope.fld rfl rfl ?_)
      refine Reg.op0 (Ope.store rfl rfl rfl rfl rfl rfl ?_)
      refine Reg.nil (Run.bend (Run.region (cx_ok _ _ _) (Reg.op rfl (Ope.add rfl rfl (by omega) ?_))))
      refine Reg.op rfl (Ope.mov rfl ?_)
      refine Reg.nil (Run.lend ?_)
  ·first
   |(exfalso;omega)
   |refine Run.exit (Jmp.code (Jmp.round (Jmp.here (Run.seq (Run.region (cx_ok _ _ _) (Reg.op rfl (Ope.load rfl rfl ?_)))))))
    refine Reg.op0 (Ope.store rfl rfl rfl rfl rfl rfl ?_)
    exact Reg.nil (Run.ret (fin_ret (.cell rfl rfl .nil) hbr rfl))
theorem f35l (hne:s.jo≠[]) (hl6:s.jo.length≤6) (most:Bool):Fn P0 35 [s.v t1 t2,B most] ((s.exa most).v t1 .no):=by
  have hbr:PV.bd 0 (.agg [.sl t1 (s.su.map I),.sl .no ((s.jo.map (Job.exa most)).map Job.v)])=true:=bd_agg (bds_cons (bd_sl (f:=I) h1 (fun _=>rfl) _) (bds_cons (bd_sl (f:=Job.v) (tl:=.no) rfl (fun _=>rfl) _) rfl))
  obtain ⟨su,jo⟩:=s
  simp only at hne hl6 hbr
  have hne':jo.map Job.v≠[]:=fun h=>hne (List.map_eq_nil_iff.1 h)
  have hln:([]:List PV).length+(jo.map Job.v).length=jo.length:=by simp
  refine PFun.of (C:=c35) (cx_ok _ _ _) rfl (fn:=Try.f35) (by kernel_rfl) (c:=_) rfl rfl rfl ?_
  refine Run.seq (Run.region (cx_ok _ _ _) (Reg.op rfl (Ope.boxF rfl rfl ?_)))
  refine Reg.op rfl (Ope.newL rfl ?_)
  refine Reg.nil (Run.seq (Run.region (cx_ok _ _ _) (Reg.op rfl (Ope.load rfl rfl ?_))))
  refine Reg.op rfl (Ope.newL rfl ?_)
  refine Reg.op0 (Ope.store rfl rfl hget_hd rfl rfl rfl ?_)
  refine Reg.nil (Run.seq (Run.region (cx_ok _ _ _) (Reg.op rfl (Ope.bsl rfl rfl rfl rfl ?_))))
  refine Reg.op rfl (Ope.fld rfl rfl ?_)
  refine Reg.op rfl (Ope.load rfl rfl ?_)
  refine Reg.op rfl (Ope.apLa rfl rfl hne' (by rw [hln];omega) (by rw [hln];omega) (by decide) (by simp) (by intro v hv;obtain ⟨_,_,rfl⟩:=List.mem_map.1 hv;exact ⟨rfl,rfl⟩) (fun cp post ez hcp=>?_))
  have hcp':jo.length≤cp:=by simpa using hcp
  rw [hln]
  refine Reg.op rfl (Ope.fld rfl rfl ?_)
  refine Reg.op0 (Ope.store rfl rfl ((hget_tl (by omega)).trans hget_hd) rfl rfl rfl ?_)
  refine Reg.nil (Run.seq (Run.seq (Run.region (cx_ok _ _ _) (Reg.op rfl (Ope.fld rfl rfl ?_)))))
  refine Reg.op rfl (Ope.loadH rfl hget_hd rfl ?_)
  refine Reg.op rfl (Ope.lenL rfl ?_)
  refine Reg.op rfl (Ope.mov rfl ?_)
  refine Reg.nil (Run.block (Run.wide (m:=3) (l':=[(2,some (.cells (flat ((exaN most 0 jo).map Job.v)++post))),(1,some (.cells [.sl t1 (su.map I),.ms 2 0 jo.length cp ez])),(0,some (.cells [.sl .ex [],.sl .ex []]))]) (Nat.le_refl _) ⟨rfl,rfl,rfl,trivial⟩ ?_))
  refine Run.loop (α:=Nat) (fun i=>[(1,B most),(5,.ptr 1 0),(4,.ptr 0 0),(16,I jo.length),(17,I i)]) (fun i=>HE 3 [(2,some (.cells (flat ((exaN most i jo).map Job.v)++post))),(1,some (.cells [.sl t1 (su.map I),.ms 2 0 jo.length cp ez])),(0,some (.cells [.sl .ex [],.sl .ex []]))]) (fun i=>i≤jo.length) (fun i=>jo.length - i) 0 ⟨rfl,rfl,rfl,rfl,rfl,trivial⟩ rfl (Nat.zero_le _) (fun i hi=>?_)
  refine Run.seq (Run.region (cx_ok _ _ _) (Reg.op rfl (Ope.lt rfl rfl ?_)))
  refine Reg.nil (Run.seq (Run.condX rfl (fun hc=>?_) fun hc=>?_))
  ·refine Run.skip (Run.seq (Run.block (Run.seq ?_)))
   have hlt:i < jo.length:=by omega
   have hlt':i < (exaN most i jo).length:=by rw [exaN_len];exact hlt
   have hg1:=get_job post (c:=1) (by decide) (exaN most i jo) i hlt'
   have hg2:=get_job post (c:=2) (by decide) (exaN most i jo) i hlt'
   rw [exaN_at hlt] at hg1 hg2
   have hs1:=set_job post (c:=1) (by decide) (x:=I jo[i].hi) (g:=fun j=>{ j with lo:=jo[i].hi }) (fun j=>rfl) (exaN most i jo) i hlt'
   have hs2:=set_job post (c:=2) (by decide) (x:=I jo[i].lo) (g:=fun j=>{ j with hi:=jo[i].lo }) (fun j=>rfl) (exaN most i jo) i hlt'
   have hsu:=exaN_succ (most:=most) hlt
   rw [exaN_at hlt] at hs1 hs2
   have hcl:=jobs_len (exaN most i jo) post
   rw [exaN_len] at hcl
   have hgo1:∀ q,q=8 * i+1→(flat ((exaN most i jo).map Job.v)++post)[q]?=some (I jo[i].lo):=by rintro q rfl;exact hg1
   have hgo2:∀ q,q=8 * i+2→(flat ((exaN most i jo).map Job.v)++post)[q]?=some (I jo[i].hi):=by rintro q rfl;exact hg2
   have hso1:most=true→∀ q,q=8 * i+1→(flat ((exaN most i jo).map Job.v)++post).set q (I jo[i].hi)=flat ((exaN most (i+1) jo).map Job.v)++post:=by
     rintro hm q rfl
     refine hs1.trans ?_
     rw [← hsu];unfold Job.exa;rw [if_pos hm]
   have hso2:most=false→∀ q,q=8 * i+2→(flat ((exaN most i jo).map Job.v)++post).set q (I jo[i].lo)=flat ((exaN most (i+1) jo).map Job.v)++post:=by
     rintro hm q rfl
     refine hs2.trans ?_
     rw [← hsu];unfold Job.exa;rw [if_neg (by rw [hm];decide)]
   refine Run.region (cx_ok _ _ _) (Reg.op rfl (Ope.mov rfl ?_))
   refine Reg.op rfl (Ope.asg rfl ?_)
   refine Reg.nil (Run.seq (Run.region (cx_ok _ _ _) (Reg.op rfl (Ope.fld rfl rfl ?_))))
   refine Reg.op rfl (Ope.load rfl rfl ?_)
   refine Reg.op rfl (Ope.mov rfl ?_)
   refine Reg.op rfl (Ope.idxL (m:=i) rfl rfl rfl hlt ?_)
   refine Reg.op rfl (Ope.fld rfl rfl ?_)
   refine Reg.op rfl (Ope.asg rfl ?_)
   refine Reg.nil (Run.seq (Run.region (cx_ok _ _ _) (Reg.op rfl (Ope.mov rfl ?_))))
   refine Reg.nil (Run.condX rfl (fun hc=>?_) fun hc=>?_)
   ·refine Run.region (cx_ok _ _ _) (Reg.op rfl (Ope.mov rfl ?_))
    refine Reg.op rfl (Ope.mov rfl ?_)
    refine Reg.op rfl (Ope.nilc rfl rfl ?_)
    refine Reg.op rfl (Ope.fld rfl rfl ?_)
    refine Reg.op rfl (Ope.loadL rfl hget_hd (hgo2 _ (by show 0+i * 8+1+1=_;omega)) ?_)
    refine Reg.op rfl (Ope.nilc rfl rfl ?_)
    refine Reg.op rfl (Ope.fld rfl rfl ?_)
    refine Reg.op0 (Ope.storeL rfl rfl hget_hd rfl rfl (by rw [hcl];show 0+i * 8+1+_ < _;omega) ?_)
    refine Reg.nil (Run.bend ?_)
    first
    | refine Run.wide (m:=3) (l':=[(2,some (.cells (flat ((exaN most (i+1) jo).map Job.v)++post))),(1,some (.cells [.sl t1 (su.map I),.ms 2 0 jo.length cp ez])),(0,some (.cells [.sl .ex [],.sl .ex []]))]) (Nat.le_refl _) ⟨hget_hd.trans (congrArg (fun l=>some (PBlk.cells l)) (hso1 hc _ (by show 0+i * 8+1+0=_;omega))),rfl,rfl,trivial⟩ ?_
    | refine Run.wide (m:=3) (l':=[(2,some (.cells (flat ((exaN most (i+1) jo).map Job.v)++post))),(1,some (.cells [.sl t1 (su.map I),.ms 2 0 jo.length cp ez])),(0,some (.cells [.sl .ex [],.sl .ex []]))]) (Nat.le_refl _) ⟨hget_hd.trans (congrArg (fun l=>some (PBlk.cells l)) (hso2 hc _ (by show 0+i * 8+1+1=_;omega))),rfl,rfl,trivial⟩ ?_
    refine Run.region (cx_ok _ _ _) (Reg.op rfl (Ope.add rfl rfl (by omega) ?_))
    refine Reg.op rfl (Ope.mov rfl ?_)
    exact Reg.nil (Run.lend ⟨i+1,by omega,by omega,⟨rfl,rfl,rfl,rfl,rfl,trivial⟩,rfl,rfl⟩)
   ·refine Run.region (cx_ok _ _ _) (Reg.op rfl (Ope.mov rfl ?_))
    refine Reg.op rfl (Ope.mov rfl ?_)
    refine Reg.op rfl (Ope.nilc rfl rfl ?_)
    refine Reg.op rfl (Ope.fld rfl rfl ?_)
    refine Reg.op rfl (Ope.loadL rfl hget_hd (hgo1 _ (by show 0+i * 8+1+0=_;omega)) ?_)
    refine Reg.op rfl (Ope.nilc rfl rfl ?_)
    refine Reg.op rfl (Ope.fld rfl rfl ?_)
    refine Reg.op0 (Ope.storeL rfl rfl hget_hd rfl rfl (by rw [hcl];show 0+i * 8+1+_ < _;omega) ?_)
    refine Reg.nil (Run.bend ?_)
    first
    | refine Run.wide (m:=3) (l':=[(2,some (.cells (flat ((exaN most (i+1) jo).map Job.v)++post))),(1,some (.cells [.sl t1 (su.map I),.ms 2 0 jo.length cp ez])),(0,some (.cells [.sl .ex [],.sl .ex []]))]) (Nat.le_refl _) ⟨hget_hd.trans (congrArg (fun l=>some (PBlk.cells l)) (hso1 hc _ (by show 0+i * 8+1+0=_;omega))),rfl,rfl,trivial⟩ ?_
    | refine Run.wide (m:=3) (l':=[(2,some (.cells (flat ((exaN most (i+1) jo).map Job.v)++post))),(1,some (.cells [.sl t1 (su.map I),.ms 2 0 jo.length cp ez])),(0,some (.cells [.sl .ex [],.sl .ex []]))]) (Nat.le_refl _) ⟨hget_hd.trans (congrArg (fun l=>some (PBlk.cells l)) (hso2 hc _ (by show 0+i * 8+1+1=_;omega))),rfl,rfl,trivial⟩ ?_
    refine Run.region (cx_ok _ _ _) (Reg.op rfl (Ope.add rfl rfl (by omega) ?_))
    refine Reg.op rfl (Ope.mov rfl ?_)
    exact Reg.nil (Run.lend ⟨i+1,by omega,by omega,⟨rfl,rfl,rfl,rfl,rfl,trivial⟩,rfl,rfl⟩)
  ·refine Run.exit (Jmp.code (Jmp.round (Jmp.here (Run.seq ?_))))
   obtain rfl:i=jo.length:=by omega
   rw [exaN_all]
   refine Run.frzB (x:=1) (i:=2) (pre:=[.sl t1 (su.map I)]) (suf:=[]) (vs:=(jo.map (Job.exa most)).map Job.v) (post:=post) (sz:=8) rfl rfl (by decide) (by simp) hcp' (by intro v hv;obtain ⟨_,_,rfl⟩:=List.mem_map.1 hv;rfl) ?_
   refine Run.region (cx_ok _ _ _) (Reg.op rfl (Ope.load rfl rfl ?_))
   refine Reg.op0 (Ope.store rfl rfl rfl rfl rfl rfl ?_)
   exact Reg.nil (Run.ret (fin_ret (.cell rfl rfl .nil) hbr rfl))
theorem f35 (hl6:s.jo.length≤6) (most:Bool):∃ t3:Tail,t3.isOwn=false∧Fn P0 35 [s.v t1 t2,B most] ((s.exa most).v t1 t3):=by
  by_cases h:s.jo=[]
  · exact ⟨.ex,rfl,f35e s h1 h2 h most⟩
  · exact ⟨.no,rfl,f35l s h1 h2 h hl6 most⟩
end
end Go.Pv
namespace Go.Pv
open Go.Proofs Go.Am
set_option maxRecDepth 10000
structure LaxJ (j k:Job):Prop where
  kd:k.kd=j.kd
  hi:k.hi≤j.hi
  fr:k.fr≤j.fr
  so:j.so≤k.so
  bt:j.bt≤k.bt
  co:k.co≤j.co
  c0:0≤k.co
  af:∀ q,k.af.toNat.testBit q=true→j.af.toNat.testBit q=true
structure Lax (s x:Shp):Prop where
  su:x.su=s.su
  n:x.jo.length=s.jo.length
  j:∀ i,i < s.jo.length→LaxJ (s.job i) (x.job i)
structure PLax (p q:Pst):Prop where
  J:q.J=p.J
  kd:q.kd=p.kd
  f1:q.f1≤p.f1
theorem Shp.set_su {s x:Shp} (h:x.su=s.su) (k:Int):x.set k=s.set k:=by unfold Shp.set;rw [h]
section
variable {s x:Shp} (hL:Lax s x)
include hL
theorem lax_wrk {p q:Pst} (hp:PLax p q) {i:Nat} (hi:i < s.jo.length):(x.wrk q i).d1≤(s.wrk p i).d1:=by
  have hj:=hL.j i hi
  have hr:(x.rdy q (x.job i).kd).2≤(s.rdy p (s.job i).kd).2:=by
    unfold Shp.rdy
    rw [hj.kd,hp.kd,Shp.set_su hL.su]
    have:=hp.f1
    split
    · exact this
    · show q.f1+_≤p.f1+_;omega
  have h1:=hj.fr
  have h2:=hj.hi
  show max _ _+_≤max _ _+_
  omega
theorem lax_aft {p q:Pst} (hp:PLax p q) {i:Nat} (hi:i < s.jo.length):PLax (s.aft (s.wrk p i)) (x.aft (x.wrk q i)):=by
  refine ⟨?_,(hL.j i hi).kd,lax_wrk hL hp hi⟩
  show q.J ||| _=p.J ||| _
  rw [hp.J];rfl
theorem lax_early {p q:Pst} (hp:PLax p q) {i:Nat} (hi:i < s.jo.length) (h:s.early (s.wrk p i)=false):x.early (x.wrk q i)=false:=by
  unfold Shp.early at h ⊢
  simp only [Bool.not_eq_false',decide_eq_true_eq] at h ⊢
  have h':(s.job i).af.toNat &&& (2 ^ 64 - 1 - p.J)=0:=by
    have:(((s.job i).af.toNat &&& (2 ^ 64 - 1 - p.J):Nat):Int)=0:=h
    omega
  have h2:(x.job i).af.toNat &&& (2 ^ 64 - 1 - q.J)=0:=Nat.eq_of_testBit_eq fun b=>by
    rw [Nat.zero_testBit,Nat.testBit_and]
    cases hb:(x.job i).af.toNat.testBit b with
    | false=>rfl
    | true =>
      have h3:=congrArg (fun n=>n.testBit b) h'
      simp only [Nat.testBit_and,(hL.j i hi).af b hb,Nat.zero_testBit,Bool.true_and] at h3
      rw [hp.J,h3];rfl
  show (((x.job i).af.toNat &&& (2 ^ 64 - 1 - q.J):Nat):Int)=0
  rw [h2];rfl
theorem lax_late {p q:Pst} (hp:PLax p q) {i:Nat} (hi:i < s.jo.length) (h:s.late (s.wrk p i)=false):x.late (x.wrk q i)=false:=by
  unfold Shp.late at h ⊢
  simp only [decide_eq_false_iff_not] at h ⊢
  have h1:=lax_wrk hL hp hi
  have h2:=(hL.j i hi).bt
  have h3:¬ (s.job i).bt < (s.wrk p i).d1:=h
  show ¬ (x.job i).bt < (x.wrk q i).d1
  omega
theorem lax_can {p q:Pst} (hp:PLax p q) {i:Nat} (hi:i < s.jo.length) (h:s.can p i=true):x.can q i=true:=by
  unfold Shp.can at h ⊢
  simp only [Bool.and_eq_true,Bool.not_eq_true'] at h ⊢
  exact ⟨by rw [hp.J];exact h.1,lax_early hL hp hi h.2.1,lax_late hL hp hi h.2.2⟩
theorem lax_flt:∀ (o:List Nat) (p q:Pst),PLax p q→(∀ i∈o,i < s.jo.length)→s.flt (s.alg p o)=none→x.flt (x.alg q o)=none
  | [],p,q,_,_,_=>rfl
  | i :: l, p, q, hp, h, hf => by
    have hi:=h i (by simp)
    obtain ⟨h1,h2⟩:=flt_cons.1 hf
    obtain ⟨h3,h4⟩:=bad_zero.1 h1
    exact flt_cons.2 ⟨bad_zero.2 ⟨lax_early hL hp hi h3,lax_late hL hp hi h4⟩,lax_flt l _ _ (lax_aft hL hp hi) (fun j hj=>h j (List.mem_cons_of_mem _ hj)) h2⟩
theorem lax_len : ∀ (k : Nat) (p q : Pst), PLax p q → (s.sqs k p).length ≤ (x.sqs k q).length
  | 0,p,q,_=>Nat.le_refl _
  | k + 1, p, q, hp => by
    have ih:=fun i (hi:i < s.jo.length)=>lax_len k _ _ (lax_aft hL hp hi)
    simp only [Shp.sqs,List.length_flatMap,List.length_map,Shp.nxt]
    have hc:=fun i hi=>lax_can hL hp (i:=i) hi
    have key:∀ L:List Nat,(∀ i∈L,i < s.jo.length)→((L.filter (s.can p)).map fun i=>(s.sqs k (s.aft (s.wrk p i))).length).sum≤((L.filter (x.can q)).map fun i=>(x.sqs k (x.aft (x.wrk q i))).length).sum:=by
      intro L
      induction L with
      | nil=>intro _;simp
      | cons i L ihL =>
        intro h
        have h1:=ihL fun j hj=>h j (List.mem_cons_of_mem _ hj)
        have h2:=ih i (h i (by simp))
        simp only [List.filter_cons]
        cases hs:s.can p i with
        | true =>
          rw [hc i (h i (by simp)) hs]
          simp only [if_true,List.map_cons,List.sum_cons]
          omega
        | false =>
          simp only [Bool.false_eq_true,if_false]
          split
          · simp only [List.map_cons,List.sum_cons];omega
          · exact h1
    have hn:x.n=s.n:=hL.n
    rw [hn]
    exact key _ fun i hi=>List.mem_range.1 hi
theorem plax_0:PLax Shp.p0 Shp.p0:=⟨rfl,rfl,Int.le_refl _⟩
theorem lax_rgt {o:List Nat} (h:∀ i∈o,i < s.jo.length) (hr:s.rgt o=true):x.rgt o=true:=rgt_iff.2 (lax_flt hL o _ _ (plax_0 hL) h (rgt_iff.1 hr))
end
theorem olk_n (L:List Sq):(olk L).n=L.length:=by cases L<;>rfl
theorem all_n (s:Shp):s.all.n=(s.sqs s.jo.length Shp.p0).length:=olk_n _
theorem lax_all {s x:Shp} (hL:Lax s x):s.all.n≤x.all.n:=by
  rw [all_n,all_n,hL.n]
  exact lax_len hL _ _ _ (plax_0 hL)
structure SameJ (j k:Job):Prop where
  kd:k.kd=j.kd
  hi:k.hi=j.hi
  fr:k.fr=j.fr
  so:k.so=j.so
  bt:k.bt=j.bt
  co:k.co=j.co
  af:k.af=j.af
structure Same (s x:Shp):Prop where
  su:x.su=s.su
  n:x.jo.length=s.jo.length
  j:∀ i,i < s.jo.length→SameJ (s.job i) (x.job i)
structure PSame (p q:Pst):Prop where
  J:q.J=p.J
  kd:q.kd=p.kd
  f1:q.f1=p.f1
section
variable {s x:Shp} (hL:Same s x)
include hL
theorem same_wrk {p q:Pst} (hp:PSame p q) {i:Nat} (hi:i < s.jo.length):(x.wrk q i).d1=(s.wrk p i).d1:=by
  have hj:=hL.j i hi
  show max (x.rdy q (x.job i).kd).2 (x.job i).fr+(x.job i).hi=max (s.rdy p (s.job i).kd).2 (s.job i).fr+(s.job i).hi
  rw [hj.kd,hj.fr,hj.hi]
  have:(x.rdy q (s.job i).kd).2=(s.rdy p (s.job i).kd).2:=by
    unfold Shp.rdy
    rw [hp.kd,Shp.set_su hL.su,hp.f1]
    split<;>rfl
  rw [this]
theorem same_aft {p q:Pst} (hp:PSame p q) {i:Nat} (hi:i < s.jo.length):PSame (s.aft (s.wrk p i)) (x.aft (x.wrk q i)) :=
  ⟨by show q.J ||| _=p.J ||| _;rw [hp.J];rfl,(hL.j i hi).kd,same_wrk hL hp hi⟩
theorem same_early {p q:Pst} (hp:PSame p q) {i:Nat} (hi:i < s.jo.length):x.early (x.wrk q i)=s.early (s.wrk p i):=by
  show (!decide ((((x.job i).af.toNat &&& (2 ^ 64 - 1 - q.J):Nat):Int)=0))=!decide ((((s.job i).af.toNat &&& (2 ^ 64 - 1 - p.J):Nat):Int)=0)
  rw [(hL.j i hi).af,hp.J]
theorem same_late {p q:Pst} (hp:PSame p q) {i:Nat} (hi:i < s.jo.length):x.late (x.wrk q i)=s.late (s.wrk p i):=by
  show decide ((x.job i).bt < (x.wrk q i).d1)=decide ((s.job i).bt < (s.wrk p i).d1)
  rw [(hL.j i hi).bt,same_wrk hL hp hi]
theorem same_fin {p q:Pst} (hp:PSame p q) {i:Nat} (hi:i < s.jo.length):x.fin (x.wrk q i)=s.fin (s.wrk p i):=by
  show (x.job i).co * max 0 ((x.wrk q i).d1 - (x.job i).so)=(s.job i).co * max 0 ((s.wrk p i).d1 - (s.job i).so)
  rw [(hL.j i hi).co,(hL.j i hi).so,same_wrk hL hp hi]
theorem same_flt:∀ (o:List Nat) (p q:Pst),PSame p q→(∀ i∈o,i < s.jo.length)→x.flt (x.alg q o)=s.flt (s.alg p o)
  | [],p,q,_,_=>rfl
  | i :: l, p, q, hp, h => by
    have hi:=h i (by simp)
    have hb:x.bad (x.wrk q i)=s.bad (s.wrk p i):=by unfold Shp.bad;rw [same_early hL hp hi,same_late hL hp hi]
    simp only [Shp.alg,Shp.flt,hb]
    rw [same_flt l _ _ (same_aft hL hp hi) fun j hj=>h j (List.mem_cons_of_mem _ hj)]
    rfl
theorem same_sqs:∀ (k:Nat) (p q:Pst),PSame p q→x.sqs k q=s.sqs k p
  | 0,p,q,hp=>by simp only [Shp.sqs,hp.f1]
  | k + 1, p, q, hp => by
    have hn:x.n=s.n:=hL.n
    have hnx:x.nxt q=s.nxt p:=by
      unfold Shp.nxt
      rw [hn]
      refine List.filter_congr fun i hi=>?_
      have hi:=List.mem_range.1 hi
      unfold Shp.can
      rw [same_early hL hp hi,same_late hL hp hi,hp.J]
    simp only [Shp.sqs,hnx,List.flatMap_def]
    congr 1
    refine List.map_congr_left fun i hi=>?_
    have hi:=(nxt_lt hi).1
    rw [same_sqs k _ _ (same_aft hL hp hi),same_fin hL hp hi]
theorem same_all:x.all=s.all:=by
  unfold Shp.all Shp.out
  rw [hL.n,same_sqs hL _ Shp.p0 Shp.p0 ⟨rfl,rfl,rfl⟩]
theorem same_rgt {o:List Nat} (h:∀ i∈o,i < s.jo.length):x.rgt o=s.rgt o:=by
  unfold Shp.rgt
  rw [same_flt hL o Shp.p0 Shp.p0 ⟨rfl,rfl,rfl⟩ h]
end
theorem job_map {s:Shp} {g:Job→Job} {i:Nat} (hi:i < s.jo.length):(⟨s.su,s.jo.map g⟩:Shp).job i=g (s.job i):=by
  rw [Shp.job_at hi,Shp.job_at (show i < (s.jo.map g).length by rw [List.length_map];exact hi)]
  exact List.getElem_map _
theorem exa_val {s:Shp} (hs:s.ok 30) (most:Bool):(s.exa most).ok 30:=by
  have hl:(s.exa most).jo.length=s.jo.length:=by simp [Shp.exa]
  refine ⟨hs.su,by rw [hl];exact hs.jo,hs.hH,hs.sv,fun i hi=>?_⟩
  have hi':i < s.jo.length:=by omega
  have h:=hs.job hi'
  have e:(s.exa most).jo[i]=(s.job i).exa most:=by rw [← Shp.job_at hi];exact job_map hi'
  rw [e,hl]
  have hm:=h.mi
  unfold Job.exa
  cases most with
  | true=>exact ⟨h.kd,⟨by show 1≤(s.job i).hi;omega,Int.le_refl _,hm.2.2⟩,h.fr,h.so,h.bt,h.co,h.af⟩
  | false=>exact ⟨h.kd,⟨hm.1,Int.le_refl _,by show (s.job i).lo≤30;omega⟩,h.fr,h.so,h.bt,h.co,h.af⟩
theorem ok_val {s:Shp} (hs:s.ok 30):s.val=true:=by
  refine val_yes s hs.su hs.jo (fun i h=>?_) fun i h=>?_
  · have := hs.sv _ (List.getElem_mem h)
    unfold upB
    simp only [Bool.and_eq_true,decide_eq_true_eq]
    exact this
  · have hj := hs.jv i h
    have haf:=hj.af
    have hp:=pow6 hs.jo
    exact (job_ok hs.jo h (by omega)).2 hj
theorem same_much {s:Shp}:Same s (s.exa true):=⟨rfl,by simp [Shp.exa],fun i hi=>by
  have e:(s.exa true).job i=(s.job i).exa true:=job_map hi
  rw [e]
  exact ⟨rfl,rfl,rfl,rfl,rfl,rfl,rfl⟩⟩
theorem lax_little {s:Shp} (hs:s.ok 30):Lax s (s.exa false):=⟨rfl,by simp [Shp.exa],fun i hi=>by
  have e:(s.exa false).job i=(s.job i).exa false:=job_map hi
  have h:=hs.job hi
  rw [e]
  exact ⟨rfl,h.mi.2.1,Int.le_refl _,Int.le_refl _,Int.le_refl _,Int.le_refl _,h.co.1,fun q h=>h⟩⟩
theorem exa_ends {s:Shp}:∀ (o:List Nat) (p:Pst),(∀ i∈o,i < s.jo.length) →
    (((s.exa false).alg ⟨p.J,p.kd,p.f0,p.f0⟩ o).map fun w=>(w.d0,w.d1))=((s.alg p o).map fun w=>(w.d0,w.d0)) ∧
    (((s.exa true).alg ⟨p.J,p.kd,p.f1,p.f1⟩ o).map fun w=>(w.d0,w.d1))=((s.alg p o).map fun w=>(w.d1,w.d1))
  | [],p,_=>⟨rfl,rfl⟩
  | i :: l, p, h => by
    have hi:=h i (by simp)
    have e0:(s.exa false).job i=(s.job i).exa false:=job_map hi
    have e1:(s.exa true).job i=(s.job i).exa true:=job_map hi
    have hr:∀ (b:Bool) (a:Int) (k:Int),(s.exa b).rdy ⟨p.J,p.kd,a,a⟩ k=if k=p.kd then (a,a) else (a+s.set k,a+s.set k):=fun b a k=>rfl
    have w0:(s.exa false).wrk ⟨p.J,p.kd,p.f0,p.f0⟩ i=⟨⟨p.J,p.kd,p.f0,p.f0⟩,i,(s.wrk p i).d0,(s.wrk p i).d0⟩:=by
      unfold Shp.wrk
      rw [e0,hr]
      show (⟨_,_,max (if (s.job i).kd=p.kd then (p.f0,p.f0) else _).1 (s.job i).fr+(s.job i).lo,max (if (s.job i).kd=p.kd then (p.f0,p.f0) else _).2 (s.job i).fr+(s.job i).lo⟩:Wrk)=_
      unfold Shp.rdy
      split<;>rfl
    have w1:(s.exa true).wrk ⟨p.J,p.kd,p.f1,p.f1⟩ i=⟨⟨p.J,p.kd,p.f1,p.f1⟩,i,(s.wrk p i).d1,(s.wrk p i).d1⟩:=by
      unfold Shp.wrk
      rw [e1,hr]
      show (⟨_,_,max (if (s.job i).kd=p.kd then (p.f1,p.f1) else _).1 (s.job i).fr+(s.job i).hi,max (if (s.job i).kd=p.kd then (p.f1,p.f1) else _).2 (s.job i).fr+(s.job i).hi⟩:Wrk)=_
      unfold Shp.rdy
      split<;>rfl
    obtain ⟨i1,i2⟩:=exa_ends l (s.aft (s.wrk p i)) fun j hj=>h j (List.mem_cons_of_mem _ hj)
    have a0:(s.exa false).aft ((s.exa false).wrk ⟨p.J,p.kd,p.f0,p.f0⟩ i)=⟨(s.aft (s.wrk p i)).J,(s.aft (s.wrk p i)).kd,(s.aft (s.wrk p i)).f0,(s.aft (s.wrk p i)).f0⟩:=by
      rw [w0]
      show (⟨_,((s.exa false).job i).kd,_,_⟩:Pst)=_
      rw [e0];rfl
    have a1:(s.exa true).aft ((s.exa true).wrk ⟨p.J,p.kd,p.f1,p.f1⟩ i)=⟨(s.aft (s.wrk p i)).J,(s.aft (s.wrk p i)).kd,(s.aft (s.wrk p i)).f1,(s.aft (s.wrk p i)).f1⟩:=by
      rw [w1]
      show (⟨_,((s.exa true).job i).kd,_,_⟩:Pst)=_
      rw [e1];rfl
    refine ⟨?_,?_⟩
    · simp only [Shp.alg, List.map_cons]
      rw [a0,i1,w0]
    · simp only [Shp.alg, List.map_cons]
      rw [a1,i2,w1]
end Go.Pv
namespace Go.Pv
open Go.Proofs Go.Am
set_option maxRecDepth 10000
def bC (o:Olk):Int:=if o.n=0 then 0 else o.c
def bT (o:Olk):Tail:=if o.n=0 then .ex else otl o.o
def bO (o:Olk):List Nat:=if o.n=0 then [] else o.o
def bE (o:Olk):Int:=if o.n=0 then 4 else 0
def bU (o:Olk):Int:=if o.n=0 then 0 else o.t
theorem bT_own (o:Olk):(bT o).isOwn=false:=by unfold bT;split;rfl;exact otl_own _
theorem bestF {s:Shp} {t1 t2:Tail} (h1:t1.isOwn=false) (h2:t2.isOwn=false) (hs:s.ok 30):Fn P0 26 [s.v t1 t2] (.tup [I (bC s.all),.sl (bT s.all) ((bO s.all).map N),I (bE s.all)]):=by
  rcases Nat.eq_zero_or_pos s.all.n with h | h
  · have := f26no s h1 h2 (ok_val hs) hs h
    unfold bC bT bO bE
    simp only [h,if_true]
    exact this
  · have := f26ok s h1 h2 (ok_val hs) hs h
    unfold bC bT bO bE
    simp only [show ¬ s.all.n=0 by omega,if_false]
    exact this
theorem untilF {s:Shp} {t1 t2:Tail} (h1:t1.isOwn=false) (h2:t2.isOwn=false) (hs:s.ok 30):Fn P0 28 [s.v t1 t2] (.tup [I (bU s.all),I (bE s.all)]):=by
  rcases Nat.eq_zero_or_pos s.all.n with h | h
  · have := f28no s h1 h2 (ok_val hs) hs h
    unfold bU bE
    simp only [h,if_true]
    exact this
  · have := f28ok s h1 h2 (ok_val hs) hs h
    unfold bU bE
    simp only [show ¬ s.all.n=0 by omega,if_false]
    exact this
theorem intsF (t1 t2:Tail) (o:List Nat) (h:o.length≤1000000):Fn P0 32 [.sl t1 (o.map N),.sl t2 (o.map N)] (B true):=by
  have:=f32 t1 t2 (o.map fun i:Nat=>(i:Int)) (o.map fun i:Nat=>(i:Int)) (by rw [List.length_map];exact h) (by rw [List.length_map];exact h)
  rw [map_N,decide_eq_true rfl] at this
  exact this
theorem bO_len {s:Shp} (hs:s.ok 30):(bO s.all).length≤6:=by
  unfold bO
  split
  · simp
  · have := (all_best (s := s) (by omega)).1.len
    have:=hs.jo
    omega
theorem sps {ws:List Wrk}:ws.map Wrk.sp=(ws.map fun w=>(w.d0,w.d1)).map spV:=by rw [List.map_map];rfl
theorem alg_up {s:Shp} (hs:s.ok 30) {o:List Nat} (ho:∀ i∈o,i < s.jo.length) {i:Nat} (hi:i+1 < (s.alg Shp.p0 o).length) :
    ((s.alg Shp.p0 o)[i]'(by omega)).d0 < ((s.alg Shp.p0 o)[i+1]).d0∧((s.alg Shp.p0 o)[i]'(by omega)).d1 < ((s.alg Shp.p0 o)[i+1]).d1:=by
  have hl:(s.alg Shp.p0 o).length=o.length:=alg_len _ _ _
  have hi1:i < o.length:=by omega
  have hi2:i+1 < o.length:=by omega
  rw [alg_at s o Shp.p0 (i+1) hi2,alg_at s o Shp.p0 i hi1,List.take_succ_eq_append_getElem hi1,past_snoc]
  have hj:=hs.job (ho _ (List.getElem_mem hi2))
  generalize s.past Shp.p0 (o.take i)=p
  generalize s.wrk p o[i]=w
  obtain ⟨q,hq⟩:∃ q:Nat,(s.job o[i+1]).kd=(q:Int):=⟨(s.job o[i+1]).kd.toNat,by have:=hj.kd;omega⟩
  have hst:=hs.set (q:=q) (by have:=hj.kd;omega)
  have hm:=hj.mi
  show w.d0 < max (s.rdy (s.aft w) (s.job o[i+1]).kd).1 (s.job o[i+1]).fr+(s.job o[i+1]).lo∧w.d1 < max (s.rdy (s.aft w) (s.job o[i+1]).kd).2 (s.job o[i+1]).fr+(s.job o[i+1]).hi
  have hr:w.d0≤(s.rdy (s.aft w) (s.job o[i+1]).kd).1∧w.d1≤(s.rdy (s.aft w) (s.job o[i+1]).kd).2:=by
    unfold Shp.rdy
    split
    · exact ⟨Int.le_refl _,Int.le_refl _⟩
    · rw [hq]
      show w.d0≤w.d0+_∧w.d1≤w.d1+_
      omega
  omega
end Go.Pv
namespace Go.Pv
open Go.Proofs Go.Am
set_option maxRecDepth 10000
section
variable (s:Shp) {t1 t2:Tail} (h1:t1.isOwn=false) (h2:t2.isOwn=false)
include h1 h2
end
end Go.Pv
namespace Go.Pv
open Go.Proofs Go.Am
set_option maxRecDepth 10000
theorem natK_sub1 {i:Nat} (h:0 < i):natK ((i:Int) - 1)=some (i - 1):=by
  rw [show ((i:Int) - 1)=((i - 1:Nat):Int) from by omega];rfl
section
variable (s:Shp) {t1 t2:Tail} (h1:t1.isOwn=false) (h2:t2.isOwn=false)
include h1 h2
theorem f6n (hi:s.i64) (a:PV) (hv:s.val=false):Fn P0 6 [s.v t1 t2,a] (B true):=by
  have hfi:=f33 s h1 h2 hi
  rw [hv] at hfi
  have hbs:PV.bds 0 [s.v t1 t2]=true:=bd_shpV s h1 h2 rfl
  refine PFun.of (C:=c6) (cx_ok _ _ _) rfl (fn:=Try.f6) (by kernel_rfl) (c:=_) rfl rfl rfl ?_
  refine Run.seq (Run.region (cx_ok _ _ _) (Reg.op rfl (Ope.boxF rfl rfl ?_)))
  refine Reg.op rfl (Ope.asg rfl ?_)
  refine Reg.nil (Run.seq (Run.seq (Run.region (cx_ok _ _ _) (Reg.op rfl (Ope.load rfl rfl ?_)))))
  refine Reg.op rfl (Ope.cf rfl rfl hfi hbs ?_)
  refine Reg.op rfl (Ope.not rfl ?_)
  refine Reg.nil (Run.condX rfl (fun hc=>?_) fun hc=>?_)
  ·refine Run.seq (Run.region (cx_ok _ _ _) (Reg.op rfl (Ope.cf rfl rfl (awakeF) rfl ?_)))
   refine Reg.op rfl (Ope.asg rfl ?_)
   exact Reg.nil (Run.ret (Jmp.code (fin_ret (.tmp rfl .nil) rfl rfl)))
  ·cases hc
theorem f6y (hi : s.i64) (hv : s.val = true) (tb : Tail) (htb : tb.isOwn = false) (by' : List Nat) (hb8 : ∀ x ∈ by', x < 256) :
    Fn P0 6 [s.v t1 t2,.sl tb (by'.map U8)] (B true):=by
  have hfi:=f33 s h1 h2 hi
  rw [hv] at hfi
  have hs:=val_ok hi hv
  have hn6:=hs.jo
  have hbs:PV.bds 0 [s.v t1 t2]=true:=bd_shpV s h1 h2 rfl
  obtain ⟨om,tm,htm,hom,hma⟩:=f34 s h1 h2 (by omega) tb by' hb8
  have hol:=hom.len
  have hbm:PV.bds 0 [s.v t1 t2,.sl tb (by'.map U8)]=true:=bd_shpV s h1 h2 (bds_cons (bd_sl (f:=U8) htb (fun _=>rfl) _) rfl)
  obtain ⟨ta,hta,he0⟩:=f35 s h1 h2 hn6 false
  obtain ⟨tb2,htb2,he1⟩:=f35 s h1 h2 hn6 true
  have hbx:∀ b:Bool,PV.bds 0 [s.v t1 t2,B b]=true:=fun b=>bd_shpV s h1 h2 rfl
  have hs0:=exa_val hs false
  have hs1:=exa_val hs true
  have hv0:=ok_val hs0
  have hv1:=ok_val hs1
  have hL0:=lax_little hs
  have hS1:=same_much (s:=s)
  have hom0:Ordr (s.exa false).jo.length om:=by rw [hL0.n];exact hom
  have hom1:Ordr (s.exa true).jo.length om:=by rw [hS1.n];exact hom
  have hr0:s.rgt om=true→(s.exa false).rgt om=true:=fun h=>lax_rgt hL0 hom.lt h
  have hr1:(s.exa true).rgt om=s.rgt om:=same_rgt hS1 hom.lt
  have ha1:(s.exa true).all=s.all:=same_all hS1
  have ha0:s.all.n≤(s.exa false).all.n:=lax_all hL0
  have hbo:PV.bds 0 [s.v t1 t2,.sl tm (om.map N)]=true:=bd_ord s h1 h2 tm htm om
  have hbo0:PV.bds 0 [(s.exa false).v t1 ta,.sl tm (om.map N)]=true:=bd_ord _ h1 hta tm htm om
  have hbo1:PV.bds 0 [(s.exa true).v t1 tb2,.sl tm (om.map N)]=true:=bd_ord _ h1 htb2 tm htm om
  have hbs0:PV.bds 0 [(s.exa false).v t1 ta]=true:=bd_shpV _ h1 hta rfl
  have hbs1:PV.bds 0 [(s.exa true).v t1 tb2]=true:=bd_shpV _ h1 htb2 rfl
  obtain ⟨A,hA⟩:∃ A,A=(s.alg Shp.p0 om).map fun w=>(w.d0,w.d1):=⟨_,rfl⟩
  have hAl:A.length=om.length:=by rw [hA,List.length_map,alg_len]
  have hti:Fn P0 14 [s.v t1 t2,.sl tm (om.map N)] (.tup [.sl .no (A.map spV),I 0]):=by
    have h:=timesV h1 h2 hv hs htm hom
    rw [sps,← hA] at h
    exact h
  have hee:=exa_ends om Shp.p0 hom.lt
  have hti0:Fn P0 14 [(s.exa false).v t1 ta,.sl tm (om.map N)] (.tup [.sl .no (A.map fun a=>.agg [I a.1,I a.1]),I 0]):=by
    have h:=timesV h1 hta hv0 hs0 htm hom0
    rw [sps] at h
    have e:((s.exa false).alg Shp.p0 om).map (fun w=>(w.d0,w.d1))=A.map fun a=>(a.1,a.1):=by
      rw [hA,List.map_map]
      exact hee.1
    rw [e,List.map_map] at h
    exact h
  have hti1:Fn P0 14 [(s.exa true).v t1 tb2,.sl tm (om.map N)] (.tup [.sl .no (A.map fun a=>.agg [I a.2,I a.2]),I 0]):=by
    have h:=timesV h1 htb2 hv1 hs1 htm hom1
    rw [sps] at h
    have e:((s.exa true).alg Shp.p0 om).map (fun w=>(w.d0,w.d1))=A.map fun a=>(a.2,a.2):=by
      rw [hA,List.map_map]
      exact hee.2
    rw [e,List.map_map] at h
    exact h
  have hup:∀ i (h:i+1 < A.length),(A[i]'(by omega)).1 < A[i+1].1∧(A[i]'(by omega)).2 < A[i+1].2:=fun i h=>by
    subst hA
    rw [List.length_map] at h
    have:=alg_up hs hom.lt h
    simp only [List.getElem_map]
    exact this
  have hrg:=f37 s h1 h2 hv hs tm htm om hom
  have hrg0:=f37 (s.exa false) h1 hta hv0 hs0 tm htm om hom0
  have hrg1:=f37 (s.exa true) h1 htb2 hv1 hs1 tm htm om hom1
  rw [hr1] at hrg1
  have hco:=f20ok s h1 h2 hv hs
  have hco0:=f20ok (s.exa false) h1 hta hv0 hs0
  have hco1:=f20ok (s.exa true) h1 htb2 hv1 hs1
  have hbe:=bestF h1 h2 hs
  have hbe1:=bestF h1 htb2 hs1
  have hun:=untilF h1 h2 hs
  have hun1:=untilF h1 htb2 hs1
  rw [ha1] at hco1 hbe1 hun1
  have hbl:=bO_len hs
  have hin:=intsF (bT s.all) (bT s.all) (bO s.all) (by omega)
  have hbi:PV.bds 0 [.sl (bT s.all) ((bO s.all).map N),.sl (bT s.all) ((bO s.all).map N)]=true:=bds_cons (bd_sl (f:=N) (bT_own _) (fun _=>rfl) _) (bds_cons (bd_sl (f:=N) (bT_own _) (fun _=>rfl) _) rfl)
  generalize s.all.n=na at *
  generalize (s.exa false).all.n=na0 at *
  generalize bC s.all=bc at *
  generalize bE s.all=be at *
  generalize bU s.all=bu at *
  generalize bO s.all=bo at *
  generalize bT s.all=bt at *
  generalize (s.exa false).rgt om=r0 at *
  generalize s.rgt om=r at *
  generalize s.exa false=x0 at *
  generalize s.exa true=x1 at *
  refine PFun.of (C:=c6) (cx_ok _ _ _) rfl (fn:=Try.f6) (by kernel_rfl) (c:=_) rfl rfl rfl ?_
  refine Run.seq (Run.region (cx_ok _ _ _) (Reg.op rfl (Ope.boxF rfl rfl ?_)))
  refine Reg.op rfl (Ope.asg rfl ?_)
  refine Reg.nil (Run.seq (Run.seq (Run.region (cx_ok _ _ _) (Reg.op rfl (Ope.load rfl rfl ?_)))))
  refine Reg.op rfl (Ope.cf rfl rfl hfi hbs ?_)
  refine Reg.op rfl (Ope.not rfl ?_)
  refine Reg.nil (Run.condX rfl (fun hc=>?_) fun hc=>?_)
  ·cases hc
  ·refine Run.skip (Run.seq (Run.region (cx_ok _ _ _) (Reg.op rfl (Ope.load rfl rfl ?_))))
   refine Reg.op rfl (Ope.mov rfl ?_)
   refine Reg.op rfl (Ope.cf rfl rfl hma hbm ?_)
   refine Reg.op rfl (Ope.asg rfl ?_)
   refine Reg.nil (Run.seq (Run.cut (fun e' d' h'=>∃ (a b m:Nat) (l:HL),Lsub [(2,.fp (s.v t1 t2)),(5,.sl tm (om.map N)),(6,.ptr a 0),(7,.ptr b 0)] e'∧d'=[]∧h'=HE m l∧hget l a=some (.cells [.sl t1 (x0.su.map I),.sl ta (x0.jo.map Job.v)])∧hget l b=some (.cells [.sl t1 (x1.su.map I),.sl tb2 (x1.jo.map Job.v)])∧b≠a) ?_ ?_))
   ·refine Run.drawL (cx_ok _ _ _) [[(0,true),(2,false),(1,true),(3,true),(4,true),(5,true),(6,true),(7,true)],[(0,true),(2,false),(1,true),(3,true),(5,true),(4,true),(6,true),(7,true)],[(0,true),(2,false),(1,true),(4,true),(3,true),(5,true),(6,true),(7,true)],[(0,true),(2,false),(1,true),(4,true),(5,true),(3,true),(6,true),(7,true)],[(0,true),(2,false),(1,true),(5,true),(3,true),(4,true),(6,true),(7,true)],[(0,true),(2,false),(1,true),(5,true),(4,true),(3,true),(6,true),(7,true)],[(0,false),(2,false),(4,true),(1,true),(3,true),(5,true),(6,true),(7,true)],[(0,false),(2,false),(4,true),(1,true),(5,true),(3,true),(6,true),(7,true)],[(0,false),(2,false),(4,true),(5,true),(1,true),(3,true),(6,true),(7,true)],[(0,false),(2,false),(5,true),(1,true),(3,true),(4,true),(6,true),(7,true)],[(0,false),(2,false),(5,true),(1,true),(4,true),(3,true),(6,true),(7,true)],[(0,false),(2,false),(5,true),(4,true),(1,true),(3,true),(6,true),(7,true)]] (by kernel_rfl) ⟨?_,?_,?_,?_,?_,?_,?_,?_,?_,?_,?_,?_,trivial⟩
    ·refine Dra.op' rfl rfl rfl .sure (Ope.load rfl rfl ?_)
     refine Dra.op' rfl rfl rfl (.load rfl) (Ope.load rfl rfl ?_)
     refine Dra.op' rfl rfl rfl .sure (Ope.cf rfl rfl he0 (hbx _) ?_)
     refine Dra.op' rfl rfl rfl .sure (Ope.cf rfl rfl he1 (hbx _) ?_)
     refine Dra.op' rfl rfl rfl .sure (Ope.newL rfl ?_)
     refine Dra.op' rfl rfl rfl .sure (Ope.newL rfl ?_)
     refine Dra.op' rfl rfl rfl .sure (Ope.store rfl rfl rfl rfl rfl rfl ?_)
     refine Dra.op' rfl rfl rfl .sure (Ope.store rfl rfl rfl rfl rfl rfl ?_)
     exact Dra.nil (Run.lend ⟨_,_,_,_,⟨rfl,rfl,rfl,rfl,trivial⟩,rfl,rfl,rfl,rfl,by decide⟩)
    ·refine Dra.op' rfl rfl rfl .sure (Ope.load rfl rfl ?_)
     refine Dra.op' rfl rfl rfl (.load rfl) (Ope.load rfl rfl ?_)
     refine Dra.op' rfl rfl rfl .sure (Ope.cf rfl rfl he0 (hbx _) ?_)
     refine Dra.op' rfl rfl rfl .sure (Ope.cf rfl rfl he1 (hbx _) ?_)
     refine Dra.op' rfl rfl rfl .sure (Ope.newL rfl ?_)
     refine Dra.op' rfl rfl rfl .sure (Ope.newL rfl ?_)
     refine Dra.op' rfl rfl rfl .sure (Ope.store rfl rfl rfl rfl rfl rfl ?_)
     refine Dra.op' rfl rfl rfl .sure (Ope.store rfl rfl rfl rfl rfl rfl ?_)
     exact Dra.nil (Run.lend ⟨_,_,_,_,⟨rfl,rfl,rfl,rfl,trivial⟩,rfl,rfl,rfl,rfl,by decide⟩)
    ·refine Dra.op' rfl rfl rfl .sure (Ope.load rfl rfl ?_)
     refine Dra.op' rfl rfl rfl (.load rfl) (Ope.load rfl rfl ?_)
     refine Dra.op' rfl rfl rfl .sure (Ope.cf rfl rfl he0 (hbx _) ?_)
     refine Dra.op' rfl rfl rfl .sure (Ope.newL rfl ?_)
     refine Dra.op' rfl rfl rfl .sure (Ope.cf rfl rfl he1 (hbx _) ?_)
     refine Dra.op' rfl rfl rfl .sure (Ope.newL rfl ?_)
     refine Dra.op' rfl rfl rfl .sure (Ope.store rfl rfl rfl rfl rfl rfl ?_)
     refine Dra.op' rfl rfl rfl .sure (Ope.store rfl rfl rfl rfl rfl rfl ?_)
     exact Dra.nil (Run.lend ⟨_,_,_,_,⟨rfl,rfl,rfl,rfl,trivial⟩,rfl,rfl,rfl,rfl,by decide⟩)
    ·refine Dra.op' rfl rfl rfl .sure (Ope.load rfl rfl ?_)
     refine Dra.op' rfl rfl rfl (.load rfl) (Ope.load rfl rfl ?_)
     refine Dra.op' rfl rfl rfl .sure (Ope.cf rfl rfl he0 (hbx _) ?_)
     refine Dra.op' rfl rfl rfl .sure (Ope.newL rfl ?_)
     refine Dra.op' rfl rfl rfl .sure (Ope.newL rfl ?_)
     refine Dra.op' rfl rfl rfl .sure (Ope.cf rfl rfl he1 (hbx _) ?_)
     refine Dra.op' rfl rfl rfl .sure (Ope.store rfl rfl rfl rfl rfl rfl ?_)
     refine Dra.op' rfl rfl rfl .sure (Ope.store rfl rfl rfl rfl rfl rfl ?_)
     exact Dra.nil (Run.lend ⟨_,_,_,_,⟨rfl,rfl,rfl,rfl,trivial⟩,rfl,rfl,rfl,rfl,by decide⟩)
    ·refine Dra.op' rfl rfl rfl .sure (Ope.load rfl rfl ?_)
     refine Dra.op' rfl rfl rfl (.load rfl) (Ope.load rfl rfl ?_)
     refine Dra.op' rfl rfl rfl .sure (Ope.cf rfl rfl he0 (hbx _) ?_)
     refine Dra.op' rfl rfl rfl .sure (Ope.newL rfl ?_)
     refine Dra.op' rfl rfl rfl .sure (Ope.cf rfl rfl he1 (hbx _) ?_)
     refine Dra.op' rfl rfl rfl .sure (Ope.newL rfl ?_)
     refine Dra.op' rfl rfl rfl .sure (Ope.store rfl rfl rfl rfl rfl rfl ?_)
     refine Dra.op' rfl rfl rfl .sure (Ope.store rfl rfl rfl rfl rfl rfl ?_)
     exact Dra.nil (Run.lend ⟨_,_,_,_,⟨rfl,rfl,rfl,rfl,trivial⟩,rfl,rfl,rfl,rfl,by decide⟩)
    ·refine Dra.op' rfl rfl rfl .sure (Ope.load rfl rfl ?_)
     refine Dra.op' rfl rfl rfl (.load rfl) (Ope.load rfl rfl ?_)
     refine Dra.op' rfl rfl rfl .sure (Ope.cf rfl rfl he0 (hbx _) ?_)
     refine Dra.op' rfl rfl rfl .sure (Ope.newL rfl ?_)
     refine Dra.op' rfl rfl rfl .sure (Ope.newL rfl ?_)
     refine Dra.op' rfl rfl rfl .sure (Ope.cf rfl rfl he1 (hbx _) ?_)
     refine Dra.op' rfl rfl rfl .sure (Ope.store rfl rfl rfl rfl rfl rfl ?_)
     refine Dra.op' rfl rfl rfl .sure (Ope.store rfl rfl rfl rfl rfl rfl ?_)
     exact Dra.nil (Run.lend ⟨_,_,_,_,⟨rfl,rfl,rfl,rfl,trivial⟩,rfl,rfl,rfl,rfl,by decide⟩)
    ·refine Dra.op' rfl rfl rfl (.load rfl) (Ope.load rfl rfl ?_)
     refine Dra.op' rfl rfl rfl (.load rfl) (Ope.load rfl rfl ?_)
     refine Dra.op' rfl rfl rfl .sure (Ope.newL rfl ?_)
     refine Dra.op' rfl rfl rfl .sure (Ope.cf rfl rfl he0 (hbx _) ?_)
     refine Dra.op' rfl rfl rfl .sure (Ope.cf rfl rfl he1 (hbx _) ?_)
     refine Dra.op' rfl rfl rfl .sure (Ope.newL rfl ?_)
     refine Dra.op' rfl rfl rfl .sure (Ope.store rfl rfl rfl rfl rfl rfl ?_)
     refine Dra.op' rfl rfl rfl .sure (Ope.store rfl rfl rfl rfl rfl rfl ?_)
     exact Dra.nil (Run.lend ⟨_,_,_,_,⟨rfl,rfl,rfl,rfl,trivial⟩,rfl,rfl,rfl,rfl,by decide⟩)
    ·refine Dra.op' rfl rfl rfl (.load rfl) (Ope.load rfl rfl ?_)
     refine Dra.op' rfl rfl rfl (.load rfl) (Ope.load rfl rfl ?_)
     refine Dra.op' rfl rfl rfl .sure (Ope.newL rfl ?_)
     refine Dra.op' rfl rfl rfl .sure (Ope.cf rfl rfl he0 (hbx _) ?_)
     refine Dra.op' rfl rfl rfl .sure (Ope.newL rfl ?_)
     refine Dra.op' rfl rfl rfl .sure (Ope.cf rfl rfl he1 (hbx _) ?_)
     refine Dra.op' rfl rfl rfl .sure (Ope.store rfl rfl rfl rfl rfl rfl ?_)
     refine Dra.op' rfl rfl rfl .sure (Ope.store rfl rfl rfl rfl rfl rfl ?_)
     exact Dra.nil (Run.lend ⟨_,_,_,_,⟨rfl,rfl,rfl,rfl,trivial⟩,rfl,rfl,rfl,rfl,by decide⟩)
    ·refine Dra.op' rfl rfl rfl (.load rfl) (Ope.load rfl rfl ?_)
     refine Dra.op' rfl rfl rfl (.load rfl) (Ope.load rfl rfl ?_)
     refine Dra.op' rfl rfl rfl .sure (Ope.newL rfl ?_)
     refine Dra.op' rfl rfl rfl .sure (Ope.newL rfl ?_)
     refine Dra.op' rfl rfl rfl .sure (Ope.cf rfl rfl he0 (hbx _) ?_)
     refine Dra.op' rfl rfl rfl .sure (Ope.cf rfl rfl he1 (hbx _) ?_)
     refine Dra.op' rfl rfl rfl .sure (Ope.store rfl rfl rfl rfl rfl rfl ?_)
     refine Dra.op' rfl rfl rfl .sure (Ope.store rfl rfl rfl rfl rfl rfl ?_)
     exact Dra.nil (Run.lend ⟨_,_,_,_,⟨rfl,rfl,rfl,rfl,trivial⟩,rfl,rfl,rfl,rfl,by decide⟩)
    ·refine Dra.op' rfl rfl rfl (.load rfl) (Ope.load rfl rfl ?_)
     refine Dra.op' rfl rfl rfl (.load rfl) (Ope.load rfl rfl ?_)
     refine Dra.op' rfl rfl rfl .sure (Ope.newL rfl ?_)
     refine Dra.op' rfl rfl rfl .sure (Ope.cf rfl rfl he0 (hbx _) ?_)
     refine Dra.op' rfl rfl rfl .sure (Ope.cf rfl rfl he1 (hbx _) ?_)
     refine Dra.op' rfl rfl rfl .sure (Ope.newL rfl ?_)
     refine Dra.op' rfl rfl rfl .sure (Ope.store rfl rfl rfl rfl rfl rfl ?_)
     refine Dra.op' rfl rfl rfl .sure (Ope.store rfl rfl rfl rfl rfl rfl ?_)
     exact Dra.nil (Run.lend ⟨_,_,_,_,⟨rfl,rfl,rfl,rfl,trivial⟩,rfl,rfl,rfl,rfl,by decide⟩)
    ·refine Dra.op' rfl rfl rfl (.load rfl) (Ope.load rfl rfl ?_)
     refine Dra.op' rfl rfl rfl (.load rfl) (Ope.load rfl rfl ?_)
     refine Dra.op' rfl rfl rfl .sure (Ope.newL rfl ?_)
     refine Dra.op' rfl rfl rfl .sure (Ope.cf rfl rfl he0 (hbx _) ?_)
     refine Dra.op' rfl rfl rfl .sure (Ope.newL rfl ?_)
     refine Dra.op' rfl rfl rfl .sure (Ope.cf rfl rfl he1 (hbx _) ?_)
     refine Dra.op' rfl rfl rfl .sure (Ope.store rfl rfl rfl rfl rfl rfl ?_)
     refine Dra.op' rfl rfl rfl .sure (Ope.store rfl rfl rfl rfl rfl rfl ?_)
     exact Dra.nil (Run.lend ⟨_,_,_,_,⟨rfl,rfl,rfl,rfl,trivial⟩,rfl,rfl,rfl,rfl,by decide⟩)
    ·refine Dra.op' rfl rfl rfl (.load rfl) (Ope.load rfl rfl ?_)
     refine Dra.op' rfl rfl rfl (.load rfl) (Ope.load rfl rfl ?_)
     refine Dra.op' rfl rfl rfl .sure (Ope.newL rfl ?_)
     refine Dra.op' rfl rfl rfl .sure (Ope.newL rfl ?_)
     refine Dra.op' rfl rfl rfl .sure (Ope.cf rfl rfl he0 (hbx _) ?_)
     refine Dra.op' rfl rfl rfl .sure (Ope.cf rfl rfl he1 (hbx _) ?_)
     refine Dra.op' rfl rfl rfl .sure (Ope.store rfl rfl rfl rfl rfl rfl ?_)
     refine Dra.op' rfl rfl rfl .sure (Ope.store rfl rfl rfl rfl rfl rfl ?_)
     exact Dra.nil (Run.lend ⟨_,_,_,_,⟨rfl,rfl,rfl,rfl,trivial⟩,rfl,rfl,rfl,rfl,by decide⟩)
   ·rintro e' d' h' ⟨a, b, m, l, hsb, rfl, rfl, hla, hlb, hab⟩; refine Run.less hsb ?_; refine Run.frz (d := 6) true rfl hla rfl ?_; refine Run.frz (d := 7) true rfl ((hget_tl hab).trans hlb) rfl ?_; refine Run.wide (m := m) (l' := []) (Nat.le_refl _) trivial ?_
    refine Run.seq (Run.region (cx_ok _ _ _) (Reg.op rfl (Ope.load rfl rfl ?_)))
    refine Reg.op rfl (Ope.mov rfl ?_)
    refine Reg.op rfl (Ope.cf rfl rfl hti hbo ?_)
    refine Reg.op rfl (Ope.mov rfl ?_)
    refine Reg.op rfl (Ope.ext rfl rfl ?_)
    refine Reg.op rfl (Ope.ext rfl rfl ?_)
    refine Reg.op rfl (Ope.asg rfl ?_)
    refine Reg.op rfl (Ope.asg rfl ?_)
    refine Reg.nil (Run.seq (Run.region (cx_ok _ _ _) (Reg.op rfl (Ope.load rfl rfl ?_))))
    refine Reg.op rfl (Ope.mov rfl ?_)
    refine Reg.op rfl (Ope.cf rfl rfl hti0 hbo0 ?_)
    refine Reg.op rfl (Ope.mov rfl ?_)
    refine Reg.op rfl (Ope.ext rfl rfl ?_)
    refine Reg.op rfl (Ope.ext rfl rfl ?_)
    refine Reg.op rfl (Ope.asg rfl ?_)
    refine Reg.op rfl (Ope.asg rfl ?_)
    refine Reg.nil (Run.seq (Run.region (cx_ok _ _ _) (Reg.op rfl (Ope.load rfl rfl ?_))))
    refine Reg.op rfl (Ope.mov rfl ?_)
    refine Reg.op rfl (Ope.cf rfl rfl hti1 hbo1 ?_)
    refine Reg.op rfl (Ope.mov rfl ?_)
    refine Reg.op rfl (Ope.ext rfl rfl ?_)
    refine Reg.op rfl (Ope.ext rfl rfl ?_)
    refine Reg.op rfl (Ope.asg rfl ?_)
    refine Reg.op rfl (Ope.asg rfl ?_)
    refine Reg.nil (Run.seq (Run.seq (Run.cut (fun e' d' h'=>Lsub [(2,.fp (s.v t1 t2)),(5,.sl tm (om.map N)),(6,.fp (x0.v t1 ta)),(7,.fp (x1.v t1 tb2)),(8,.sl .no (A.map spV)),(9,I 0),(10,.sl .no (A.map fun a=>.agg [I a.1,I a.1])),(11,I 0),(12,.sl .no (A.map fun a=>.agg [I a.2,I a.2])),(13,I 0),(90,B false)] e'∧d'=[]∧h'=HE m []) ?_ ?_)))
    ·refine Run.region (cx_ok _ _ _) (Reg.op rfl (Ope.mov rfl ?_))
     refine Reg.op rfl (Ope.ne rfl rfl ?_)
     refine Reg.op rfl (Ope.mov rfl ?_)
     refine Reg.splitX rfl rfl (fun hg=>?_) fun hg=>?_
     ·first
      |(first | (exfalso;omega) | (exfalso;simp at hg;done) | (exfalso;simp_all;done))
      |refine Reg.off rfl rfl rfl (Reg.off rfl rfl rfl (Reg.op rfl (Ope.pickT rfl rfl ?_)))
       refine Reg.op rfl (Ope.mov rfl ?_)
       refine Reg.off rfl rfl rfl (Reg.off rfl rfl rfl (Reg.op rfl (Ope.pickT rfl rfl ?_)))
       refine Reg.op rfl (Ope.mov rfl ?_)
       refine Reg.off rfl rfl rfl (Reg.off rfl rfl rfl (Reg.off rfl rfl rfl (Reg.off rfl rfl rfl (Reg.off rfl rfl rfl (Reg.op rfl (Ope.pickT rfl rfl ?_))))))
       refine Reg.op rfl (Ope.mov rfl ?_)
       refine Reg.off rfl rfl rfl (Reg.off rfl rfl rfl (Reg.off rfl rfl rfl (Reg.off rfl rfl rfl (Reg.off rfl rfl rfl (Reg.op rfl (Ope.pickT rfl rfl ?_))))))
       refine Reg.op rfl (Ope.mov rfl ?_)
       refine Reg.off rfl rfl rfl (Reg.off rfl rfl rfl (Reg.off rfl rfl rfl (Reg.off rfl rfl rfl (Reg.off rfl rfl rfl (Reg.op rfl (Ope.pickT rfl rfl ?_))))))
       refine Reg.nil ?_
       first | exact Run.lend ⟨⟨rfl,rfl,rfl,rfl,rfl,rfl,rfl,rfl,rfl,rfl,rfl,trivial⟩,rfl,rfl⟩ | exact Run.lend ⟨⟨rfl,rfl,rfl,rfl,rfl,rfl,rfl,rfl,rfl,rfl,congrArg (fun b=>some (B b)) (decide_eq_false (by omega)),trivial⟩,rfl,rfl⟩ | (exfalso;omega)
     ·first
      |(first | (exfalso;omega) | (exfalso;simp at hg;done) | (exfalso;simp_all;done))
      |refine Reg.on rfl rfl rfl (Ope.mov rfl ?_)
       refine Reg.on rfl rfl rfl (Ope.ne rfl rfl ?_)
       refine Reg.op rfl (Ope.pickF rfl rfl ?_)
       refine Reg.op rfl (Ope.mov rfl ?_)
       refine Reg.splitX rfl rfl (fun hg=>?_) fun hg=>?_
       ·first
        |(first | (exfalso;omega) | (exfalso;simp at hg;done) | (exfalso;simp_all;done))
        |refine Reg.off rfl rfl rfl (Reg.off rfl rfl rfl (Reg.op rfl (Ope.pickT rfl rfl ?_)))
         refine Reg.op rfl (Ope.mov rfl ?_)
         refine Reg.off rfl rfl rfl (Reg.off rfl rfl rfl (Reg.off rfl rfl rfl (Reg.off rfl rfl rfl (Reg.off rfl rfl rfl (Reg.op rfl (Ope.pickT rfl rfl ?_))))))
         refine Reg.op rfl (Ope.mov rfl ?_)
         refine Reg.off rfl rfl rfl (Reg.off rfl rfl rfl (Reg.off rfl rfl rfl (Reg.off rfl rfl rfl (Reg.off rfl rfl rfl (Reg.op rfl (Ope.pickT rfl rfl ?_))))))
         refine Reg.op rfl (Ope.mov rfl ?_)
         refine Reg.off rfl rfl rfl (Reg.off rfl rfl rfl (Reg.off rfl rfl rfl (Reg.off rfl rfl rfl (Reg.off rfl rfl rfl (Reg.op rfl (Ope.pickT rfl rfl ?_))))))
         refine Reg.nil ?_
         first | exact Run.lend ⟨⟨rfl,rfl,rfl,rfl,rfl,rfl,rfl,rfl,rfl,rfl,rfl,trivial⟩,rfl,rfl⟩ | exact Run.lend ⟨⟨rfl,rfl,rfl,rfl,rfl,rfl,rfl,rfl,rfl,rfl,congrArg (fun b=>some (B b)) (decide_eq_false (by omega)),trivial⟩,rfl,rfl⟩ | (exfalso;omega)
       ·first
        |(first | (exfalso;omega) | (exfalso;simp at hg;done) | (exfalso;simp_all;done))
        |refine Reg.on rfl rfl rfl (Ope.mov rfl ?_)
         refine Reg.on rfl rfl rfl (Ope.ne rfl rfl ?_)
         refine Reg.op rfl (Ope.pickF rfl rfl ?_)
         refine Reg.op rfl (Ope.mov rfl ?_)
         refine Reg.splitX rfl rfl (fun hg=>?_) fun hg=>?_
         ·first
          |(first | (exfalso;omega) | (exfalso;simp at hg;done) | (exfalso;simp_all;done))
          |refine Reg.off rfl rfl rfl (Reg.off rfl rfl rfl (Reg.off rfl rfl rfl (Reg.off rfl rfl rfl (Reg.off rfl rfl rfl (Reg.op rfl (Ope.pickT rfl rfl ?_))))))
           refine Reg.op rfl (Ope.mov rfl ?_)
           refine Reg.off rfl rfl rfl (Reg.off rfl rfl rfl (Reg.off rfl rfl rfl (Reg.off rfl rfl rfl (Reg.off rfl rfl rfl (Reg.op rfl (Ope.pickT rfl rfl ?_))))))
           refine Reg.op rfl (Ope.mov rfl ?_)
           refine Reg.off rfl rfl rfl (Reg.off rfl rfl rfl (Reg.off rfl rfl rfl (Reg.off rfl rfl rfl (Reg.off rfl rfl rfl (Reg.op rfl (Ope.pickT rfl rfl ?_))))))
           refine Reg.nil ?_
           first | exact Run.lend ⟨⟨rfl,rfl,rfl,rfl,rfl,rfl,rfl,rfl,rfl,rfl,rfl,trivial⟩,rfl,rfl⟩ | exact Run.lend ⟨⟨rfl,rfl,rfl,rfl,rfl,rfl,rfl,rfl,rfl,rfl,congrArg (fun b=>some (B b)) (decide_eq_false (by omega)),trivial⟩,rfl,rfl⟩ | (exfalso;omega)
         ·first
          |(first | (exfalso;omega) | (exfalso;simp at hg;done) | (exfalso;simp_all;done))
          |refine Reg.on rfl rfl rfl (Ope.mov rfl ?_)
           refine Reg.on rfl rfl rfl (Ope.len (m:=A.length) rfl (by simp) ?_)
           refine Reg.on rfl rfl rfl (Ope.mov rfl ?_)
           refine Reg.on rfl rfl rfl (Ope.len (m:=om.length) rfl (by simp) ?_)
           refine Reg.on rfl rfl rfl (Ope.ne rfl rfl ?_)
           refine Reg.op rfl (Ope.pickF rfl rfl ?_)
           refine Reg.op rfl (Ope.mov rfl ?_)
           refine Reg.splitX rfl rfl (fun hg=>?_) fun hg=>?_
           ·first
            |(first | (exfalso;omega) | (exfalso;simp at hg;done) | (exfalso;simp_all;done))
            |refine Reg.off rfl rfl rfl (Reg.off rfl rfl rfl (Reg.off rfl rfl rfl (Reg.off rfl rfl rfl (Reg.off rfl rfl rfl (Reg.op rfl (Ope.pickT rfl rfl ?_))))))
             refine Reg.op rfl (Ope.mov rfl ?_)
             refine Reg.off rfl rfl rfl (Reg.off rfl rfl rfl (Reg.off rfl rfl rfl (Reg.off rfl rfl rfl (Reg.off rfl rfl rfl (Reg.op rfl (Ope.pickT rfl rfl ?_))))))
             refine Reg.nil ?_
             first | exact Run.lend ⟨⟨rfl,rfl,rfl,rfl,rfl,rfl,rfl,rfl,rfl,rfl,rfl,trivial⟩,rfl,rfl⟩ | exact Run.lend ⟨⟨rfl,rfl,rfl,rfl,rfl,rfl,rfl,rfl,rfl,rfl,congrArg (fun b=>some (B b)) (decide_eq_false (by omega)),trivial⟩,rfl,rfl⟩ | (exfalso;omega)
           ·first
            |(first | (exfalso;omega) | (exfalso;simp at hg;done) | (exfalso;simp_all;done))
            |refine Reg.on rfl rfl rfl (Ope.mov rfl ?_)
             refine Reg.on rfl rfl rfl (Ope.len (m:=A.length) rfl (by simp) ?_)
             refine Reg.on rfl rfl rfl (Ope.mov rfl ?_)
             refine Reg.on rfl rfl rfl (Ope.len (m:=om.length) rfl (by simp) ?_)
             refine Reg.on rfl rfl rfl (Ope.ne rfl rfl ?_)
             refine Reg.op rfl (Ope.pickF rfl rfl ?_)
             refine Reg.op rfl (Ope.mov rfl ?_)
             refine Reg.splitX rfl rfl (fun hg=>?_) fun hg=>?_
             ·first
              |(first | (exfalso;omega) | (exfalso;simp at hg;done) | (exfalso;simp_all;done))
              |refine Reg.off rfl rfl rfl (Reg.off rfl rfl rfl (Reg.off rfl rfl rfl (Reg.off rfl rfl rfl (Reg.off rfl rfl rfl (Reg.op rfl (Ope.pickT rfl rfl ?_))))))
               refine Reg.nil ?_
               first | exact Run.lend ⟨⟨rfl,rfl,rfl,rfl,rfl,rfl,rfl,rfl,rfl,rfl,rfl,trivial⟩,rfl,rfl⟩ | exact Run.lend ⟨⟨rfl,rfl,rfl,rfl,rfl,rfl,rfl,rfl,rfl,rfl,congrArg (fun b=>some (B b)) (decide_eq_false (by omega)),trivial⟩,rfl,rfl⟩ | (exfalso;omega)
             ·first
              |(first | (exfalso;omega) | (exfalso;simp at hg;done) | (exfalso;simp_all;done))
              |refine Reg.on rfl rfl rfl (Ope.mov rfl ?_)
               refine Reg.on rfl rfl rfl (Ope.len (m:=A.length) rfl (by simp) ?_)
               refine Reg.on rfl rfl rfl (Ope.mov rfl ?_)
               refine Reg.on rfl rfl rfl (Ope.len (m:=om.length) rfl (by simp) ?_)
               refine Reg.on rfl rfl rfl (Ope.ne rfl rfl ?_)
               refine Reg.op rfl (Ope.pickF rfl rfl ?_)
               refine Reg.nil ?_
               first | exact Run.lend ⟨⟨rfl,rfl,rfl,rfl,rfl,rfl,rfl,rfl,rfl,rfl,rfl,trivial⟩,rfl,rfl⟩ | exact Run.lend ⟨⟨rfl,rfl,rfl,rfl,rfl,rfl,rfl,rfl,rfl,rfl,congrArg (fun b=>some (B b)) (decide_eq_false (by omega)),trivial⟩,rfl,rfl⟩ | (exfalso;omega)
    ·rintro e' d' h' ⟨hsb, rfl, rfl⟩; refine Run.less hsb ?_
     refine Run.condX rfl (fun hc=>?_) fun hc=>?_
     ·cases hc
     ·refine Run.skip (Run.seq (Run.seq (Run.region (cx_ok _ _ _) (Reg.op rfl (Ope.mov rfl ?_)))))
      refine Reg.op rfl (Ope.len (m:=A.length) rfl (by simp) ?_)
      refine Reg.op rfl (Ope.mov rfl ?_)
      refine Reg.nil (Run.block (Run.loop (α:=Nat) (fun i=>[(2,.fp (s.v t1 t2)),(5,.sl tm (om.map N)),(6,.fp (x0.v t1 ta)),(7,.fp (x1.v t1 tb2)),(8,.sl .no (A.map spV)),(10,.sl .no (A.map fun a=>.agg [I a.1,I a.1])),(12,.sl .no (A.map fun a=>.agg [I a.2,I a.2])),(92,I A.length),(93,I i)]) (fun _=>HE m []) (fun i=>i≤A.length) (fun i=>A.length - i) 0 ⟨rfl,rfl,rfl,rfl,rfl,rfl,rfl,rfl,rfl,trivial⟩ rfl (Nat.zero_le _) (fun i hi=>?_)))
      refine Run.seq (Run.region (cx_ok _ _ _) (Reg.op rfl (Ope.lt rfl rfl ?_)))
      refine Reg.nil (Run.seq (Run.condX rfl (fun hc=>?_) fun hc=>?_))
      ·refine Run.skip (Run.seq (Run.block (Run.seq (Run.region (cx_ok _ _ _) (Reg.op rfl (Ope.mov rfl ?_))))))
       refine Reg.op rfl (Ope.asg rfl ?_)
       refine Reg.nil (Run.seq ?_)
       have hlt:i < A.length:=by omega
       have hpr:0 < i→∃ k,i=k+1:=fun h=>⟨i - 1,by omega⟩
       refine Run.cut (fun e' d' h'=>Lsub [(2,.fp (s.v t1 t2)),(5,.sl tm (om.map N)),(6,.fp (x0.v t1 ta)),(7,.fp (x1.v t1 tb2)),(8,.sl .no (A.map spV)),(10,.sl .no (A.map fun a=>.agg [I a.1,I a.1])),(12,.sl .no (A.map fun a=>.agg [I a.2,I a.2])),(92,I A.length),(93,I i),(161,B false)] e'∧d'=[]∧h'=HE m []) ?_ ?_
       ·refine Run.draw (cx_ok _ _ _) [(0, true), (1, true), (2, true), (3, false), (4, true), (5, true), (6, true), (7, true), (8, true), (9, true), (10, true), (11, true), (12, true), (13, true), (14, true), (15, true), (16, true), (17, true), (18, true), (19, true), (20, false), (21, true), (22, true), (23, true), (24, true), (25, true), (26, true), (27, true), (28, true), (29, true), (30, true), (31, true), (32, true), (33, true), (34, true), (35, true), (36, true), (37, true), (38, true), (39, true), (40, true), (41, true), (42, true), (43, true), (44, true), (45, true), (46, true), (47, true), (48, true), (49, true), (50, true), (51, true), (52, true), (53, true), (54, true), (55, true), (56, true), (57, true), (58, true), (59, true), (60, true), (61, true), (62, true), (63, true), (64, true), (65, true)] (by kernel_rfl) (Dra.op' rfl rfl rfl .sure (Ope.mov rfl ?_))
        refine Dra.op' rfl rfl rfl .sure (Ope.mov rfl ?_)
        refine Dra.op' rfl rfl rfl .sure (Ope.idxM (m:=i) (f:=fun a:Int×Int=>PV.agg [I a.1,I a.1]) rfl rfl rfl hlt (fun _=>rfl) ?_)
        refine Dra.op' rfl rfl rfl (.load rfl) (Ope.load rfl rfl ?_)
        refine Dra.op' rfl rfl rfl .sure (Ope.mov rfl ?_)
        refine Dra.op' rfl rfl rfl .sure (Ope.mov rfl ?_)
        refine Dra.op' rfl rfl rfl .sure (Ope.idxM (m:=i) (f:=spV) rfl rfl rfl hlt (fun _=>rfl) ?_)
        refine Dra.op' rfl rfl rfl .sure (Ope.fld rfl rfl ?_)
        refine Dra.op' rfl rfl rfl .sure (Ope.load rfl rfl ?_)
        refine Dra.op' rfl rfl rfl .sure (Ope.mov rfl ?_)
        refine Dra.op' rfl rfl rfl .sure (Ope.mov rfl ?_)
        refine Dra.op' rfl rfl rfl .sure (Ope.idxM (m:=i) (f:=spV) rfl rfl rfl hlt (fun _=>rfl) ?_)
        refine Dra.op' rfl rfl rfl .sure (Ope.fld rfl rfl ?_)
        refine Dra.op' rfl rfl rfl .sure (Ope.load rfl rfl ?_)
        refine Dra.op' rfl rfl rfl .sure (Ope.cf rfl rfl (f36 _ _) rfl ?_)
        refine Dra.op' rfl rfl rfl .sure (Ope.neV rfl rfl (neSp _ _ A[i].1 A[i].1 A[i].1 A[i].1) ?_)
        refine Dra.op' rfl rfl rfl .sure (Ope.mov rfl ?_)
        refine Dra.splitX rfl rfl rfl rfl (fun hg=>?_) fun hg=>?_
        ·first
         |(first | (exfalso;omega) | (exfalso;simp at hg;done) | (exfalso;simp_all;done))
         |refine Dra.off' rfl rfl rfl (.inl rfl) rfl (Dra.off' rfl rfl rfl (.inl rfl) rfl (Dra.off' rfl rfl rfl (.inl rfl) rfl (Dra.off' rfl rfl rfl (.inl rfl) rfl (Dra.off' rfl rfl rfl (.inl rfl) rfl (Dra.off' rfl rfl rfl (.inl rfl) rfl (Dra.off' rfl rfl rfl (.inl rfl) rfl (Dra.off' rfl rfl rfl (.inl rfl) rfl (Dra.off' rfl rfl rfl (.inl rfl) rfl (Dra.off' rfl rfl rfl (.inl rfl) rfl (Dra.off' rfl rfl rfl (.inl rfl) rfl (Dra.off' rfl rfl rfl (.inl rfl) rfl (Dra.off' rfl rfl rfl (.inl rfl) rfl (Dra.off' rfl rfl rfl (.inl rfl) rfl (Dra.off' rfl rfl rfl (.inl rfl) rfl (Dra.off' rfl rfl rfl (.inl rfl) rfl (Dra.op' rfl rfl rfl .sure (Ope.pickT rfl rfl ?_)))))))))))))))))
          refine Dra.op' rfl rfl rfl .sure (Ope.mov rfl ?_)
          refine Dra.off' rfl rfl rfl (.inl rfl) rfl (Dra.off' rfl rfl rfl (.inl rfl) rfl (Dra.off' rfl rfl rfl (.inl rfl) rfl (Dra.off' rfl rfl rfl (.inr rfl) rfl (Dra.off' rfl rfl rfl (.inr rfl) rfl (Dra.off' rfl rfl rfl (.inr rfl) rfl (Dra.off' rfl rfl rfl (.inr rfl) rfl (Dra.off' rfl rfl rfl (.inr rfl) rfl ?_)))))))
          refine Dra.off' rfl rfl rfl (.inr rfl) rfl (Dra.off' rfl rfl rfl (.inr rfl) rfl (Dra.off' rfl rfl rfl (.inr rfl) rfl (Dra.off' rfl rfl rfl (.inr rfl) rfl (Dra.off' rfl rfl rfl (.inr rfl) rfl (Dra.off' rfl rfl rfl (.inr rfl) rfl (Dra.off' rfl rfl rfl (.inr rfl) rfl (Dra.off' rfl rfl rfl (.inr rfl) rfl (Dra.off' rfl rfl rfl (.inr rfl) rfl (Dra.off' rfl rfl rfl (.inr rfl) rfl (Dra.off' rfl rfl rfl (.inr rfl) rfl (Dra.off' rfl rfl rfl (.inr rfl) rfl (Dra.off' rfl rfl rfl (.inr rfl) rfl (Dra.off' rfl rfl rfl (.inr rfl) rfl (Dra.off' rfl rfl rfl (.inr rfl) rfl (Dra.off' rfl rfl rfl (.inr rfl) rfl (Dra.off' rfl rfl rfl (.inr rfl) rfl (Dra.off' rfl rfl rfl (.inr rfl) rfl (Dra.off' rfl rfl rfl (.inr rfl) rfl (Dra.off' rfl rfl rfl (.inr rfl) rfl (Dra.off' rfl rfl rfl (.inr rfl) rfl (Dra.off' rfl rfl rfl (.inl rfl) rfl (Dra.op' rfl rfl rfl .sure (Ope.pickT rfl rfl ?_)))))))))))))))))))))))
          refine Dra.nil ?_
          first
          | exact Run.lend ⟨⟨rfl,rfl,rfl,rfl,rfl,rfl,rfl,rfl,rfl,rfl,trivial⟩,rfl,rfl⟩
          | (exfalso;omega)
          | (exfalso
             obtain ⟨k,rfl⟩:=hpr (by omega)
             have:=hup k hlt
             simp only [Nat.add_sub_cancel] at *
             omega)
          | (obtain ⟨k, rfl⟩ := hpr (by omega)
             have:=hup k hlt
             exact Run.lend ⟨⟨rfl,rfl,rfl,rfl,rfl,rfl,rfl,rfl,rfl,congrArg (fun b=>some (B b)) (decide_eq_false (by simp only [Nat.add_sub_cancel];omega)),trivial⟩,rfl,rfl⟩)
        ·first
         |(first | (exfalso;omega) | (exfalso;simp at hg;done) | (exfalso;simp_all;done))
         |refine Dra.on' rfl rfl rfl rfl rfl .sure (Ope.mov rfl ?_)
          refine Dra.on' rfl rfl rfl rfl rfl .sure (Ope.mov rfl ?_)
          refine Dra.on' rfl rfl rfl rfl rfl .sure (Ope.idxM (m:=i) (f:=fun a:Int×Int=>PV.agg [I a.2,I a.2]) rfl rfl rfl hlt (fun _=>rfl) ?_)
          refine Dra.on' rfl rfl rfl rfl rfl (.load rfl) (Ope.load rfl rfl ?_)
          refine Dra.on' rfl rfl rfl rfl rfl .sure (Ope.mov rfl ?_)
          refine Dra.on' rfl rfl rfl rfl rfl .sure (Ope.mov rfl ?_)
          refine Dra.on' rfl rfl rfl rfl rfl .sure (Ope.idxM (m:=i) (f:=spV) rfl rfl rfl hlt (fun _=>rfl) ?_)
          refine Dra.on' rfl rfl rfl rfl rfl .sure (Ope.fld rfl rfl ?_)
          refine Dra.on' rfl rfl rfl rfl rfl .sure (Ope.load rfl rfl ?_)
          refine Dra.on' rfl rfl rfl rfl rfl .sure (Ope.mov rfl ?_)
          refine Dra.on' rfl rfl rfl rfl rfl .sure (Ope.mov rfl ?_)
          refine Dra.on' rfl rfl rfl rfl rfl .sure (Ope.idxM (m:=i) (f:=spV) rfl rfl rfl hlt (fun _=>rfl) ?_)
          refine Dra.on' rfl rfl rfl rfl rfl .sure (Ope.fld rfl rfl ?_)
          refine Dra.on' rfl rfl rfl rfl rfl .sure (Ope.load rfl rfl ?_)
          refine Dra.on' rfl rfl rfl rfl rfl .sure (Ope.cf rfl rfl (f36 _ _) rfl ?_)
          refine Dra.on' rfl rfl rfl rfl rfl .sure (Ope.neV rfl rfl (neSp _ _ A[i].2 A[i].2 A[i].2 A[i].2) ?_)
          refine Dra.op' rfl rfl rfl .sure (Ope.pickF rfl rfl ?_)
          refine Dra.op' rfl rfl rfl .sure (Ope.mov rfl ?_)
          refine Dra.splitX rfl rfl rfl rfl (fun hg=>?_) fun hg=>?_
          ·first
           |(first | (exfalso;omega) | (exfalso;simp at hg;done) | (exfalso;simp_all;done))
           |refine Dra.off' rfl rfl rfl (.inl rfl) rfl (Dra.off' rfl rfl rfl (.inl rfl) rfl (Dra.off' rfl rfl rfl (.inl rfl) rfl (Dra.off' rfl rfl rfl (.inr rfl) rfl (Dra.off' rfl rfl rfl (.inr rfl) rfl (Dra.off' rfl rfl rfl (.inr rfl) rfl (Dra.off' rfl rfl rfl (.inr rfl) rfl (Dra.off' rfl rfl rfl (.inr rfl) rfl ?_)))))))
            refine Dra.off' rfl rfl rfl (.inr rfl) rfl (Dra.off' rfl rfl rfl (.inr rfl) rfl (Dra.off' rfl rfl rfl (.inr rfl) rfl (Dra.off' rfl rfl rfl (.inr rfl) rfl (Dra.off' rfl rfl rfl (.inr rfl) rfl (Dra.off' rfl rfl rfl (.inr rfl) rfl (Dra.off' rfl rfl rfl (.inr rfl) rfl (Dra.off' rfl rfl rfl (.inr rfl) rfl (Dra.off' rfl rfl rfl (.inr rfl) rfl (Dra.off' rfl rfl rfl (.inr rfl) rfl (Dra.off' rfl rfl rfl (.inr rfl) rfl (Dra.off' rfl rfl rfl (.inr rfl) rfl (Dra.off' rfl rfl rfl (.inr rfl) rfl (Dra.off' rfl rfl rfl (.inr rfl) rfl (Dra.off' rfl rfl rfl (.inr rfl) rfl (Dra.off' rfl rfl rfl (.inr rfl) rfl (Dra.off' rfl rfl rfl (.inr rfl) rfl (Dra.off' rfl rfl rfl (.inr rfl) rfl (Dra.off' rfl rfl rfl (.inr rfl) rfl (Dra.off' rfl rfl rfl (.inr rfl) rfl (Dra.off' rfl rfl rfl (.inr rfl) rfl (Dra.off' rfl rfl rfl (.inl rfl) rfl (Dra.op' rfl rfl rfl .sure (Ope.pickT rfl rfl ?_)))))))))))))))))))))))
            refine Dra.nil ?_
            first
            | exact Run.lend ⟨⟨rfl,rfl,rfl,rfl,rfl,rfl,rfl,rfl,rfl,rfl,trivial⟩,rfl,rfl⟩
            | (exfalso;omega)
            | (exfalso
               obtain ⟨k,rfl⟩:=hpr (by omega)
               have:=hup k hlt
               simp only [Nat.add_sub_cancel] at *
               omega)
            | (obtain ⟨k, rfl⟩ := hpr (by omega)
               have:=hup k hlt
               exact Run.lend ⟨⟨rfl,rfl,rfl,rfl,rfl,rfl,rfl,rfl,rfl,congrArg (fun b=>some (B b)) (decide_eq_false (by simp only [Nat.add_sub_cancel];omega)),trivial⟩,rfl,rfl⟩)
          ·first
           |(first | (exfalso;omega) | (exfalso;simp at hg;done) | (exfalso;simp_all;done))
           |refine Dra.on' rfl rfl rfl rfl rfl .sure (Ope.mov rfl ?_)
            refine Dra.on' rfl rfl rfl rfl rfl .sure (Ope.gt rfl rfl ?_)
            refine Dra.on' rfl rfl rfl rfl rfl .sure (Ope.mov rfl ?_)
            refine Dra.splitX rfl rfl rfl rfl (fun hg=>?_) fun hg=>?_
            ·first
             |(first | (exfalso;omega) | (exfalso;simp at hg;done) | (exfalso;simp_all;done))
             |refine Dra.on' rfl rfl rfl rfl rfl .sure (Ope.mov rfl ?_)
              refine Dra.on' rfl rfl rfl rfl rfl .sure (Ope.mov rfl ?_)
              refine Dra.on' rfl rfl rfl rfl rfl .sure (Ope.idxM (m:=i) (f:=spV) rfl rfl rfl hlt (fun _=>rfl) ?_)
              refine Dra.on' rfl rfl rfl rfl rfl .sure (Ope.fld rfl rfl ?_)
              refine Dra.on' rfl rfl rfl rfl rfl .sure (Ope.load rfl rfl ?_)
              refine Dra.on' rfl rfl rfl rfl rfl .sure (Ope.mov rfl ?_)
              refine Dra.on' rfl rfl rfl rfl rfl .sure (Ope.mov rfl ?_)
              refine Dra.on' rfl rfl rfl rfl rfl .sure (Ope.sub rfl rfl (by omega) ?_)
              refine Dra.on' rfl rfl rfl rfl rfl .sure (Ope.idxM (m:=i - 1) (f:=spV) rfl rfl (natK_sub1 (by omega)) (by omega) (fun _=>rfl) ?_)
              refine Dra.on' rfl rfl rfl rfl rfl .sure (Ope.fld rfl rfl ?_)
              refine Dra.on' rfl rfl rfl rfl rfl .sure (Ope.load rfl rfl ?_)
              refine Dra.on' rfl rfl rfl rfl rfl .sure (Ope.le rfl rfl ?_)
              refine Dra.on' rfl rfl rfl rfl rfl .sure (Ope.mov rfl ?_)
              refine Dra.splitX rfl rfl rfl rfl (fun hg=>?_) fun hg=>?_
              ·first
               |(first | (exfalso;omega) | (exfalso;simp at hg;done) | (exfalso;simp_all;done))
               |refine Dra.off' rfl rfl rfl (.inl rfl) rfl (Dra.off' rfl rfl rfl (.inl rfl) rfl (Dra.off' rfl rfl rfl (.inl rfl) rfl (Dra.off' rfl rfl rfl (.inl rfl) rfl (Dra.off' rfl rfl rfl (.inl rfl) rfl (Dra.off' rfl rfl rfl (.inl rfl) rfl (Dra.off' rfl rfl rfl (.inl rfl) rfl (Dra.off' rfl rfl rfl (.inl rfl) rfl (Dra.off' rfl rfl rfl (.inl rfl) rfl (Dra.off' rfl rfl rfl (.inl rfl) rfl (Dra.off' rfl rfl rfl (.inl rfl) rfl (Dra.off' rfl rfl rfl (.inl rfl) rfl (Dra.on' rfl rfl rfl rfl rfl .sure (Ope.pickT rfl rfl ?_)))))))))))))
                refine Dra.on' rfl rfl rfl rfl rfl .sure (Ope.pickT rfl rfl ?_)
                refine Dra.op' rfl rfl rfl .sure (Ope.pickF rfl rfl ?_)
                refine Dra.nil ?_
                first
                | exact Run.lend ⟨⟨rfl,rfl,rfl,rfl,rfl,rfl,rfl,rfl,rfl,rfl,trivial⟩,rfl,rfl⟩
                | (exfalso;omega)
                | (exfalso
                   obtain ⟨k,rfl⟩:=hpr (by omega)
                   have:=hup k hlt
                   simp only [Nat.add_sub_cancel] at *
                   omega)
                | (obtain ⟨k, rfl⟩ := hpr (by omega)
                   have:=hup k hlt
                   exact Run.lend ⟨⟨rfl,rfl,rfl,rfl,rfl,rfl,rfl,rfl,rfl,congrArg (fun b=>some (B b)) (decide_eq_false (by simp only [Nat.add_sub_cancel];omega)),trivial⟩,rfl,rfl⟩)
              ·first
               |(first | (exfalso;omega) | (exfalso;simp at hg;done) | (exfalso;simp_all;done))
               |refine Dra.on' rfl rfl rfl rfl rfl .sure (Ope.mov rfl ?_)
                refine Dra.on' rfl rfl rfl rfl rfl .sure (Ope.mov rfl ?_)
                refine Dra.on' rfl rfl rfl rfl rfl .sure (Ope.idxM (m:=i) (f:=spV) rfl rfl rfl hlt (fun _=>rfl) ?_)
                refine Dra.on' rfl rfl rfl rfl rfl .sure (Ope.fld rfl rfl ?_)
                refine Dra.on' rfl rfl rfl rfl rfl .sure (Ope.load rfl rfl ?_)
                refine Dra.on' rfl rfl rfl rfl rfl .sure (Ope.mov rfl ?_)
                refine Dra.on' rfl rfl rfl rfl rfl .sure (Ope.mov rfl ?_)
                refine Dra.on' rfl rfl rfl rfl rfl .sure (Ope.sub rfl rfl (by omega) ?_)
                refine Dra.on' rfl rfl rfl rfl rfl .sure (Ope.idxM (m:=i - 1) (f:=spV) rfl rfl (natK_sub1 (by omega)) (by omega) (fun _=>rfl) ?_)
                refine Dra.on' rfl rfl rfl rfl rfl .sure (Ope.fld rfl rfl ?_)
                refine Dra.on' rfl rfl rfl rfl rfl .sure (Ope.load rfl rfl ?_)
                refine Dra.on' rfl rfl rfl rfl rfl .sure (Ope.le rfl rfl ?_)
                refine Dra.on' rfl rfl rfl rfl rfl .sure (Ope.pickF rfl rfl ?_)
                refine Dra.on' rfl rfl rfl rfl rfl .sure (Ope.pickT rfl rfl ?_)
                refine Dra.op' rfl rfl rfl .sure (Ope.pickF rfl rfl ?_)
                refine Dra.nil ?_
                first
                | exact Run.lend ⟨⟨rfl,rfl,rfl,rfl,rfl,rfl,rfl,rfl,rfl,rfl,trivial⟩,rfl,rfl⟩
                | (exfalso;omega)
                | (exfalso
                   obtain ⟨k,rfl⟩:=hpr (by omega)
                   have:=hup k hlt
                   simp only [Nat.add_sub_cancel] at *
                   omega)
                | (obtain ⟨k, rfl⟩ := hpr (by omega)
                   have:=hup k hlt
                   exact Run.lend ⟨⟨rfl,rfl,rfl,rfl,rfl,rfl,rfl,rfl,rfl,congrArg (fun b=>some (B b)) (decide_eq_false (by simp only [Nat.add_sub_cancel];omega)),trivial⟩,rfl,rfl⟩)
            ·first
             |(first | (exfalso;omega) | (exfalso;simp at hg;done) | (exfalso;simp_all;done))
             |refine Dra.off' rfl rfl rfl (.inl rfl) rfl (Dra.off' rfl rfl rfl (.inl rfl) rfl (Dra.off' rfl rfl rfl (.inl rfl) rfl (Dra.off' rfl rfl rfl (.inl rfl) rfl (Dra.off' rfl rfl rfl (.inl rfl) rfl ?_))))
              refine Dra.off' rfl rfl rfl (.inl rfl) rfl (Dra.off' rfl rfl rfl (.inl rfl) rfl (Dra.off' rfl rfl rfl (.inl rfl) rfl (Dra.off' rfl rfl rfl (.inl rfl) rfl (Dra.off' rfl rfl rfl (.inl rfl) rfl (Dra.off' rfl rfl rfl (.inl rfl) rfl (Dra.off' rfl rfl rfl (.inl rfl) rfl (Dra.off' rfl rfl rfl (.inl rfl) rfl (Dra.off' rfl rfl rfl (.inr rfl) rfl (Dra.off' rfl rfl rfl (.inr rfl) rfl (Dra.off' rfl rfl rfl (.inr rfl) rfl (Dra.off' rfl rfl rfl (.inr rfl) rfl (Dra.off' rfl rfl rfl (.inr rfl) rfl (Dra.off' rfl rfl rfl (.inr rfl) rfl (Dra.off' rfl rfl rfl (.inr rfl) rfl (Dra.off' rfl rfl rfl (.inr rfl) rfl (Dra.off' rfl rfl rfl (.inr rfl) rfl (Dra.off' rfl rfl rfl (.inr rfl) rfl (Dra.off' rfl rfl rfl (.inr rfl) rfl (Dra.off' rfl rfl rfl (.inr rfl) rfl (Dra.off' rfl rfl rfl (.inl rfl) rfl (Dra.on' rfl rfl rfl rfl rfl .sure (Ope.pickF rfl rfl ?_))))))))))))))))))))))
              refine Dra.op' rfl rfl rfl .sure (Ope.pickF rfl rfl ?_)
              refine Dra.nil ?_
              first
              | exact Run.lend ⟨⟨rfl,rfl,rfl,rfl,rfl,rfl,rfl,rfl,rfl,rfl,trivial⟩,rfl,rfl⟩
              | (exfalso;omega)
              | (exfalso
                 obtain ⟨k,rfl⟩:=hpr (by omega)
                 have:=hup k hlt
                 simp only [Nat.add_sub_cancel] at *
                 omega)
              | (obtain ⟨k, rfl⟩ := hpr (by omega)
                 have:=hup k hlt
                 exact Run.lend ⟨⟨rfl,rfl,rfl,rfl,rfl,rfl,rfl,rfl,rfl,congrArg (fun b=>some (B b)) (decide_eq_false (by simp only [Nat.add_sub_cancel];omega)),trivial⟩,rfl,rfl⟩)
       ·rintro e' d' h' ⟨hsb,rfl,rfl⟩;refine Run.less hsb ?_
        refine Run.condX rfl (fun hc=>?_) fun hc=>?_
        ·cases hc
        ·refine Run.skip (Run.bend (Run.region (cx_ok _ _ _) (Reg.op rfl (Ope.add rfl rfl (by omega) ?_))))
         refine Reg.op rfl (Ope.mov rfl ?_)
         exact Reg.nil (Run.lend ⟨i+1,by omega,by omega,⟨rfl,rfl,rfl,rfl,rfl,rfl,rfl,rfl,rfl,trivial⟩,rfl,rfl⟩)
      ·refine Run.exit (Jmp.code (Jmp.round (Jmp.here (Run.seq (Run.region (cx_ok _ _ _) (Reg.op rfl (Ope.load rfl rfl ?_)))))))
       refine Reg.op rfl (Ope.cf rfl rfl hco hbs ?_)
       refine Reg.op rfl (Ope.mov rfl ?_)
       refine Reg.op rfl (Ope.ext rfl rfl ?_)
       refine Reg.op rfl (Ope.ext rfl rfl ?_)
       refine Reg.op rfl (Ope.asg rfl ?_)
       refine Reg.op rfl (Ope.asg rfl ?_)
       refine Reg.nil (Run.seq (Run.region (cx_ok _ _ _) (Reg.op rfl (Ope.load rfl rfl ?_))))
       refine Reg.op rfl (Ope.cf rfl rfl hco1 hbs1 ?_)
       refine Reg.op rfl (Ope.mov rfl ?_)
       refine Reg.op rfl (Ope.ext rfl rfl ?_)
       refine Reg.op rfl (Ope.ext rfl rfl ?_)
       refine Reg.op rfl (Ope.asg rfl ?_)
       refine Reg.op rfl (Ope.asg rfl ?_)
       refine Reg.nil (Run.seq (Run.region (cx_ok _ _ _) (Reg.op rfl (Ope.load rfl rfl ?_))))
       refine Reg.op rfl (Ope.cf rfl rfl hco0 hbs0 ?_)
       refine Reg.op rfl (Ope.mov rfl ?_)
       refine Reg.op rfl (Ope.ext rfl rfl ?_)
       refine Reg.op rfl (Ope.ext rfl rfl ?_)
       refine Reg.op rfl (Ope.asg rfl ?_)
       refine Reg.op rfl (Ope.asg rfl ?_)
       refine Reg.nil (Run.seq (Run.region (cx_ok _ _ _) (Reg.op rfl (Ope.load rfl rfl ?_))))
       refine Reg.op rfl (Ope.cf rfl rfl hbe hbs ?_)
       refine Reg.op rfl (Ope.mov rfl ?_)
       refine Reg.op rfl (Ope.ext rfl rfl ?_)
       refine Reg.op rfl (Ope.ext rfl rfl ?_)
       refine Reg.op rfl (Ope.ext rfl rfl ?_)
       refine Reg.op rfl (Ope.asg rfl ?_)
       refine Reg.op rfl (Ope.asg rfl ?_)
       refine Reg.op rfl (Ope.asg rfl ?_)
       refine Reg.nil (Run.seq (Run.region (cx_ok _ _ _) (Reg.op rfl (Ope.load rfl rfl ?_))))
       refine Reg.op rfl (Ope.cf rfl rfl hbe1 hbs1 ?_)
       refine Reg.op rfl (Ope.mov rfl ?_)
       refine Reg.op rfl (Ope.ext rfl rfl ?_)
       refine Reg.op rfl (Ope.ext rfl rfl ?_)
       refine Reg.op rfl (Ope.ext rfl rfl ?_)
       refine Reg.op rfl (Ope.asg rfl ?_)
       refine Reg.op rfl (Ope.asg rfl ?_)
       refine Reg.op rfl (Ope.asg rfl ?_)
       refine Reg.nil (Run.seq (Run.region (cx_ok _ _ _) (Reg.op rfl (Ope.load rfl rfl ?_))))
       refine Reg.op rfl (Ope.cf rfl rfl hun hbs ?_)
       refine Reg.op rfl (Ope.mov rfl ?_)
       refine Reg.op rfl (Ope.ext rfl rfl ?_)
       refine Reg.op rfl (Ope.ext rfl rfl ?_)
       refine Reg.op rfl (Ope.asg rfl ?_)
       refine Reg.op rfl (Ope.asg rfl ?_)
       refine Reg.nil (Run.seq (Run.region (cx_ok _ _ _) (Reg.op rfl (Ope.load rfl rfl ?_))))
       refine Reg.op rfl (Ope.cf rfl rfl hun1 hbs1 ?_)
       refine Reg.op rfl (Ope.mov rfl ?_)
       refine Reg.op rfl (Ope.ext rfl rfl ?_)
       refine Reg.op rfl (Ope.ext rfl rfl ?_)
       refine Reg.op rfl (Ope.asg rfl ?_)
       refine Reg.op rfl (Ope.asg rfl ?_)
       refine Reg.nil (Run.seq (Run.draw (cx_ok _ _ _) [(0,true),(1,true),(3,false),(4,true),(2,true),(5,true),(6,true),(7,true),(8,true),(9,true),(10,true),(11,true),(12,true),(13,true),(14,true),(15,true),(16,true),(17,true),(18,true),(19,true),(20,true),(21,true),(22,true),(23,true),(24,true),(25,true),(26,true),(27,true),(28,true),(29,true),(30,true),(31,true),(32,true),(33,true),(34,true),(35,true),(36,true),(37,true),(38,true),(39,true),(40,true),(41,true),(42,true),(43,true),(44,true),(45,true),(46,true),(47,true),(48,true),(49,true),(50,true),(51,true),(52,true),(53,true),(54,true),(55,true),(56,true),(57,true),(58,true),(59,true),(60,true),(61,true),(62,true),(63,true),(64,true),(65,true),(66,true),(67,true),(68,true)] (by kernel_rfl) ?_))
       refine Dra.op' rfl rfl rfl .sure (Ope.load rfl rfl ?_)
       refine Dra.op' rfl rfl rfl .sure (Ope.mov rfl ?_)
       refine Dra.op' rfl rfl rfl (.load rfl) (Ope.load rfl rfl ?_)
       refine Dra.op' rfl rfl rfl .sure (Ope.mov rfl ?_)
       refine Dra.op' rfl rfl rfl .sure (Ope.cf rfl rfl hrg hbo ?_)
       refine Dra.op' rfl rfl rfl .sure (Ope.cf rfl rfl hrg1 hbo1 ?_)
       refine Dra.op' rfl rfl rfl .sure (Ope.eqB (by kernel_rfl) rfl rfl ?_)
       refine Dra.op' rfl rfl rfl .sure (Ope.mov rfl ?_)
       refine Dra.splitX rfl rfl rfl rfl (fun hg=>?_) fun hg=>?_
       ·first
        |(first | (exfalso;omega) | (exfalso;simp at hg;done) | (exfalso;simp_all;done))
        |refine Dra.on' rfl rfl rfl rfl rfl .sure (Ope.load rfl rfl ?_)
         refine Dra.on' rfl rfl rfl rfl rfl .sure (Ope.mov rfl ?_)
         refine Dra.on' rfl rfl rfl rfl rfl .sure (Ope.cf rfl rfl hrg hbo ?_)
         refine Dra.on' rfl rfl rfl rfl rfl .sure (Ope.not rfl ?_)
         refine Dra.on' rfl rfl rfl rfl rfl .sure (Ope.mov rfl ?_)
         refine Dra.splitX rfl rfl rfl rfl (fun hg=>?_) fun hg=>?_
         ·first
          |(first | (exfalso;omega) | (exfalso;simp at hg;done) | (exfalso;simp_all;done))
          |refine Dra.off' rfl rfl rfl (.inl rfl) rfl (Dra.off' rfl rfl rfl (.inl rfl) rfl (Dra.off' rfl rfl rfl (.inl rfl) rfl (Dra.on' rfl rfl rfl rfl rfl .sure (Ope.pickT rfl rfl ?_))))
           refine Dra.op' rfl rfl rfl .sure (Ope.pickT rfl rfl ?_)
           refine Dra.op' rfl rfl rfl .sure (Ope.mov rfl ?_)
           refine Dra.on' rfl rfl rfl rfl rfl .sure (Ope.mov rfl ?_)
           refine Dra.on' rfl rfl rfl rfl rfl .sure (Ope.eq rfl rfl ?_)
           refine Dra.op' rfl rfl rfl .sure (Ope.pickT rfl rfl ?_)
           refine Dra.op' rfl rfl rfl .sure (Ope.mov rfl ?_)
           refine Dra.splitX rfl rfl rfl rfl (fun hg=>?_) fun hg=>?_
           ·first
            |(first | (exfalso;omega) | (exfalso;simp at hg;done) | (exfalso;simp_all;done))
            |refine Dra.on' rfl rfl rfl rfl rfl .sure (Ope.mov rfl ?_)
             refine Dra.on' rfl rfl rfl rfl rfl .sure (Ope.eq rfl rfl ?_)
             refine Dra.op' rfl rfl rfl .sure (Ope.pickT rfl rfl ?_)
             refine Dra.op' rfl rfl rfl .sure (Ope.mov rfl ?_)
             refine Dra.splitX rfl rfl rfl rfl (fun hg=>?_) fun hg=>?_
             ·first
              |(first | (exfalso;omega) | (exfalso;simp at hg;done) | (exfalso;simp_all;done))
              |refine Dra.on' rfl rfl rfl rfl rfl .sure (Ope.mov rfl ?_)
               refine Dra.on' rfl rfl rfl rfl rfl .sure (Ope.eq rfl rfl ?_)
               refine Dra.op' rfl rfl rfl .sure (Ope.pickT rfl rfl ?_)
               refine Dra.op' rfl rfl rfl .sure (Ope.mov rfl ?_)
               refine Dra.splitX rfl rfl rfl rfl (fun hg=>?_) fun hg=>?_
               ·first
                |(first | (exfalso;omega) | (exfalso;simp at hg;done) | (exfalso;simp_all;done))
                |refine Dra.on' rfl rfl rfl rfl rfl .sure (Ope.mov rfl ?_)
                 refine Dra.on' rfl rfl rfl rfl rfl .sure (Ope.mov rfl ?_)
                 refine Dra.on' rfl rfl rfl rfl rfl .sure (Ope.eq rfl rfl ?_)
                 refine Dra.op' rfl rfl rfl .sure (Ope.pickT rfl rfl ?_)
                 refine Dra.op' rfl rfl rfl .sure (Ope.mov rfl ?_)
                 refine Dra.splitX rfl rfl rfl rfl (fun hg=>?_) fun hg=>?_
                 ·first
                  |(first | (exfalso;omega) | (exfalso;simp at hg;done) | (exfalso;simp_all;done))
                  |refine Dra.on' rfl rfl rfl rfl rfl .sure (Ope.mov rfl ?_)
                   refine Dra.on' rfl rfl rfl rfl rfl .sure (Ope.mov rfl ?_)
                   refine Dra.on' rfl rfl rfl rfl rfl .sure (Ope.ge rfl rfl ?_)
                   refine Dra.op' rfl rfl rfl .sure (Ope.pickT rfl rfl ?_)
                   refine Dra.op' rfl rfl rfl .sure (Ope.mov rfl ?_)
                   refine Dra.splitX rfl rfl rfl rfl (fun hg=>?_) fun hg=>?_
                   ·first
                    |(first | (exfalso;omega) | (exfalso;simp at hg;done) | (exfalso;simp_all;done))
                    |refine Dra.on' rfl rfl rfl rfl rfl .sure (Ope.mov rfl ?_)
                     refine Dra.on' rfl rfl rfl rfl rfl .sure (Ope.mov rfl ?_)
                     refine Dra.on' rfl rfl rfl rfl rfl .sure (Ope.eq rfl rfl ?_)
                     refine Dra.op' rfl rfl rfl .sure (Ope.pickT rfl rfl ?_)
                     refine Dra.op' rfl rfl rfl .sure (Ope.mov rfl ?_)
                     refine Dra.splitX rfl rfl rfl rfl (fun hg=>?_) fun hg=>?_
                     ·first
                      |(first | (exfalso;omega) | (exfalso;simp at hg;done) | (exfalso;simp_all;done))
                      |refine Dra.on' rfl rfl rfl rfl rfl .sure (Ope.mov rfl ?_)
                       refine Dra.on' rfl rfl rfl rfl rfl .sure (Ope.mov rfl ?_)
                       refine Dra.on' rfl rfl rfl rfl rfl .sure (Ope.cf rfl rfl hin hbi ?_)
                       refine Dra.op' rfl rfl rfl .sure (Ope.pickT rfl rfl ?_)
                       refine Dra.op' rfl rfl rfl .sure (Ope.mov rfl ?_)
                       refine Dra.splitX rfl rfl rfl rfl (fun hg=>?_) fun hg=>?_
                       ·first
                        |(first | (exfalso;omega) | (exfalso;simp at hg;done) | (exfalso;simp_all;done))
                        |refine Dra.on' rfl rfl rfl rfl rfl .sure (Ope.mov rfl ?_)
                         refine Dra.on' rfl rfl rfl rfl rfl .sure (Ope.mov rfl ?_)
                         refine Dra.on' rfl rfl rfl rfl rfl .sure (Ope.eq rfl rfl ?_)
                         refine Dra.op' rfl rfl rfl .sure (Ope.pickT rfl rfl ?_)
                         refine Dra.op' rfl rfl rfl .sure (Ope.mov rfl ?_)
                         refine Dra.splitX rfl rfl rfl rfl (fun hg=>?_) fun hg=>?_
                         ·first
                          |(first | (exfalso;omega) | (exfalso;simp at hg;done) | (exfalso;simp_all;done))
                          |refine Dra.on' rfl rfl rfl rfl rfl .sure (Ope.mov rfl ?_)
                           refine Dra.on' rfl rfl rfl rfl rfl .sure (Ope.mov rfl ?_)
                           refine Dra.on' rfl rfl rfl rfl rfl .sure (Ope.eq rfl rfl ?_)
                           refine Dra.op' rfl rfl rfl .sure (Ope.pickT rfl rfl ?_)
                           refine Dra.op' rfl rfl rfl .sure (Ope.mov rfl ?_)
                           refine Dra.splitX rfl rfl rfl rfl (fun hg=>?_) fun hg=>?_
                           ·first
                            |(first | (exfalso;omega) | (exfalso;simp at hg;done) | (exfalso;simp_all;done))
                            |refine Dra.on' rfl rfl rfl rfl rfl .sure (Ope.mov rfl ?_)
                             refine Dra.on' rfl rfl rfl rfl rfl .sure (Ope.mov rfl ?_)
                             refine Dra.on' rfl rfl rfl rfl rfl .sure (Ope.eq rfl rfl ?_)
                             refine Dra.op' rfl rfl rfl .sure (Ope.pickT rfl rfl ?_)
                             refine Dra.op' rfl rfl rfl .sure (Ope.mov rfl ?_)
                             refine Dra.splitX rfl rfl rfl rfl (fun hg=>?_) fun hg=>?_
                             ·first
                              |(first | (exfalso;omega) | (exfalso;simp at hg;done) | (exfalso;simp_all;done))
                              |refine Dra.on' rfl rfl rfl rfl rfl .sure (Ope.cf rfl rfl (awakeF) rfl ?_)
                               refine Dra.op' rfl rfl rfl .sure (Ope.pickT rfl rfl ?_)
                               refine Dra.op' rfl rfl rfl .sure (Ope.asg rfl ?_)
                               exact Dra.nil (Run.ret (fin_ret (.tmp rfl .nil) rfl rfl))
                             ·first
                              |(first | (exfalso;omega) | (exfalso;simp at hg;done) | (exfalso;simp_all;done))
                              |refine Dra.off' rfl rfl rfl (.inl rfl) rfl (Dra.op' rfl rfl rfl .sure (Ope.pickF rfl rfl ?_))
                               refine Dra.op' rfl rfl rfl .sure (Ope.asg rfl ?_)
                               exact Dra.nil (Run.ret (fin_ret (.tmp rfl .nil) rfl rfl))
                           ·first
                            |(first | (exfalso;omega) | (exfalso;simp at hg;done) | (exfalso;simp_all;done))
                            |refine Dra.off' rfl rfl rfl (.inl rfl) rfl (Dra.off' rfl rfl rfl (.inl rfl) rfl (Dra.off' rfl rfl rfl (.inl rfl) rfl (Dra.op' rfl rfl rfl .sure (Ope.pickF rfl rfl ?_))))
                             refine Dra.op' rfl rfl rfl .sure (Ope.mov rfl ?_)
                             refine Dra.off' rfl rfl rfl (.inl rfl) rfl (Dra.op' rfl rfl rfl .sure (Ope.pickF rfl rfl ?_))
                             refine Dra.op' rfl rfl rfl .sure (Ope.asg rfl ?_)
                             exact Dra.nil (Run.ret (fin_ret (.tmp rfl .nil) rfl rfl))
                         ·first
                          |(first | (exfalso;omega) | (exfalso;simp at hg;done) | (exfalso;simp_all;done))
                          |refine Dra.off' rfl rfl rfl (.inl rfl) rfl (Dra.off' rfl rfl rfl (.inl rfl) rfl (Dra.off' rfl rfl rfl (.inl rfl) rfl (Dra.op' rfl rfl rfl .sure (Ope.pickF rfl rfl ?_))))
                           refine Dra.op' rfl rfl rfl .sure (Ope.mov rfl ?_)
                           refine Dra.off' rfl rfl rfl (.inl rfl) rfl (Dra.off' rfl rfl rfl (.inl rfl) rfl (Dra.off' rfl rfl rfl (.inl rfl) rfl (Dra.op' rfl rfl rfl .sure (Ope.pickF rfl rfl ?_))))
                           refine Dra.op' rfl rfl rfl .sure (Ope.mov rfl ?_)
                           refine Dra.off' rfl rfl rfl (.inl rfl) rfl (Dra.op' rfl rfl rfl .sure (Ope.pickF rfl rfl ?_))
                           refine Dra.op' rfl rfl rfl .sure (Ope.asg rfl ?_)
                           exact Dra.nil (Run.ret (fin_ret (.tmp rfl .nil) rfl rfl))
                       ·first
                        |(first | (exfalso;omega) | (exfalso;simp at hg;done) | (exfalso;simp_all;done))
                        |refine Dra.off' rfl rfl rfl (.inl rfl) rfl (Dra.off' rfl rfl rfl (.inl rfl) rfl (Dra.off' rfl rfl rfl (.inl rfl) rfl (Dra.op' rfl rfl rfl .sure (Ope.pickF rfl rfl ?_))))
                         refine Dra.op' rfl rfl rfl .sure (Ope.mov rfl ?_)
                         refine Dra.off' rfl rfl rfl (.inl rfl) rfl (Dra.off' rfl rfl rfl (.inl rfl) rfl (Dra.off' rfl rfl rfl (.inl rfl) rfl (Dra.op' rfl rfl rfl .sure (Ope.pickF rfl rfl ?_))))
                         refine Dra.op' rfl rfl rfl .sure (Ope.mov rfl ?_)
                         refine Dra.off' rfl rfl rfl (.inl rfl) rfl (Dra.off' rfl rfl rfl (.inl rfl) rfl (Dra.off' rfl rfl rfl (.inl rfl) rfl (Dra.op' rfl rfl rfl .sure (Ope.pickF rfl rfl ?_))))
                         refine Dra.op' rfl rfl rfl .sure (Ope.mov rfl ?_)
                         refine Dra.off' rfl rfl rfl (.inl rfl) rfl (Dra.op' rfl rfl rfl .sure (Ope.pickF rfl rfl ?_))
                         refine Dra.op' rfl rfl rfl .sure (Ope.asg rfl ?_)
                         exact Dra.nil (Run.ret (fin_ret (.tmp rfl .nil) rfl rfl))
                     ·first
                      |(first | (exfalso;omega) | (exfalso;simp at hg;done) | (exfalso;simp_all;done))
                      |refine Dra.off' rfl rfl rfl (.inl rfl) rfl (Dra.off' rfl rfl rfl (.inl rfl) rfl (Dra.off' rfl rfl rfl (.inl rfl) rfl (Dra.op' rfl rfl rfl .sure (Ope.pickF rfl rfl ?_))))
                       refine Dra.op' rfl rfl rfl .sure (Ope.mov rfl ?_)
                       refine Dra.off' rfl rfl rfl (.inl rfl) rfl (Dra.off' rfl rfl rfl (.inl rfl) rfl (Dra.off' rfl rfl rfl (.inl rfl) rfl (Dra.op' rfl rfl rfl .sure (Ope.pickF rfl rfl ?_))))
                       refine Dra.op' rfl rfl rfl .sure (Ope.mov rfl ?_)
                       refine Dra.off' rfl rfl rfl (.inl rfl) rfl (Dra.off' rfl rfl rfl (.inl rfl) rfl (Dra.off' rfl rfl rfl (.inl rfl) rfl (Dra.op' rfl rfl rfl .sure (Ope.pickF rfl rfl ?_))))
                       refine Dra.op' rfl rfl rfl .sure (Ope.mov rfl ?_)
                       refine Dra.off' rfl rfl rfl (.inl rfl) rfl (Dra.off' rfl rfl rfl (.inl rfl) rfl (Dra.off' rfl rfl rfl (.inl rfl) rfl (Dra.op' rfl rfl rfl .sure (Ope.pickF rfl rfl ?_))))
                       refine Dra.op' rfl rfl rfl .sure (Ope.mov rfl ?_)
                       refine Dra.off' rfl rfl rfl (.inl rfl) rfl (Dra.op' rfl rfl rfl .sure (Ope.pickF rfl rfl ?_))
                       refine Dra.op' rfl rfl rfl .sure (Ope.asg rfl ?_)
                       exact Dra.nil (Run.ret (fin_ret (.tmp rfl .nil) rfl rfl))
                   ·first
                    |(first | (exfalso;omega) | (exfalso;simp at hg;done) | (exfalso;simp_all;done))
                    |refine Dra.off' rfl rfl rfl (.inl rfl) rfl (Dra.off' rfl rfl rfl (.inl rfl) rfl (Dra.off' rfl rfl rfl (.inl rfl) rfl (Dra.op' rfl rfl rfl .sure (Ope.pickF rfl rfl ?_))))
                     refine Dra.op' rfl rfl rfl .sure (Ope.mov rfl ?_)
                     refine Dra.off' rfl rfl rfl (.inl rfl) rfl (Dra.off' rfl rfl rfl (.inl rfl) rfl (Dra.off' rfl rfl rfl (.inl rfl) rfl (Dra.op' rfl rfl rfl .sure (Ope.pickF rfl rfl ?_))))
                     refine Dra.op' rfl rfl rfl .sure (Ope.mov rfl ?_)
                     refine Dra.off' rfl rfl rfl (.inl rfl) rfl (Dra.off' rfl rfl rfl (.inl rfl) rfl (Dra.off' rfl rfl rfl (.inl rfl) rfl (Dra.op' rfl rfl rfl .sure (Ope.pickF rfl rfl ?_))))
                     refine Dra.op' rfl rfl rfl .sure (Ope.mov rfl ?_)
                     refine Dra.off' rfl rfl rfl (.inl rfl) rfl (Dra.off' rfl rfl rfl (.inl rfl) rfl (Dra.off' rfl rfl rfl (.inl rfl) rfl (Dra.op' rfl rfl rfl .sure (Ope.pickF rfl rfl ?_))))
                     refine Dra.op' rfl rfl rfl .sure (Ope.mov rfl ?_)
                     refine Dra.off' rfl rfl rfl (.inl rfl) rfl (Dra.off' rfl rfl rfl (.inl rfl) rfl (Dra.off' rfl rfl rfl (.inl rfl) rfl (Dra.op' rfl rfl rfl .sure (Ope.pickF rfl rfl ?_))))
                     refine Dra.op' rfl rfl rfl .sure (Ope.mov rfl ?_)
                     refine Dra.off' rfl rfl rfl (.inl rfl) rfl (Dra.op' rfl rfl rfl .sure (Ope.pickF rfl rfl ?_))
                     refine Dra.op' rfl rfl rfl .sure (Ope.asg rfl ?_)
                     exact Dra.nil (Run.ret (fin_ret (.tmp rfl .nil) rfl rfl))
                 ·first
                  |(first | (exfalso;omega) | (exfalso;simp at hg;done) | (exfalso;simp_all;done))
                  |refine Dra.off' rfl rfl rfl (.inl rfl) rfl (Dra.off' rfl rfl rfl (.inl rfl) rfl (Dra.off' rfl rfl rfl (.inl rfl) rfl (Dra.op' rfl rfl rfl .sure (Ope.pickF rfl rfl ?_))))
                   refine Dra.op' rfl rfl rfl .sure (Ope.mov rfl ?_)
                   refine Dra.off' rfl rfl rfl (.inl rfl) rfl (Dra.off' rfl rfl rfl (.inl rfl) rfl (Dra.off' rfl rfl rfl (.inl rfl) rfl (Dra.op' rfl rfl rfl .sure (Ope.pickF rfl rfl ?_))))
                   refine Dra.op' rfl rfl rfl .sure (Ope.mov rfl ?_)
                   refine Dra.off' rfl rfl rfl (.inl rfl) rfl (Dra.off' rfl rfl rfl (.inl rfl) rfl (Dra.off' rfl rfl rfl (.inl rfl) rfl (Dra.op' rfl rfl rfl .sure (Ope.pickF rfl rfl ?_))))
                   refine Dra.op' rfl rfl rfl .sure (Ope.mov rfl ?_)
                   refine Dra.off' rfl rfl rfl (.inl rfl) rfl (Dra.off' rfl rfl rfl (.inl rfl) rfl (Dra.off' rfl rfl rfl (.inl rfl) rfl (Dra.op' rfl rfl rfl .sure (Ope.pickF rfl rfl ?_))))
                   refine Dra.op' rfl rfl rfl .sure (Ope.mov rfl ?_)
                   refine Dra.off' rfl rfl rfl (.inl rfl) rfl (Dra.off' rfl rfl rfl (.inl rfl) rfl (Dra.off' rfl rfl rfl (.inl rfl) rfl (Dra.op' rfl rfl rfl .sure (Ope.pickF rfl rfl ?_))))
                   refine Dra.op' rfl rfl rfl .sure (Ope.mov rfl ?_)
                   refine Dra.off' rfl rfl rfl (.inl rfl) rfl (Dra.off' rfl rfl rfl (.inl rfl) rfl (Dra.off' rfl rfl rfl (.inl rfl) rfl (Dra.op' rfl rfl rfl .sure (Ope.pickF rfl rfl ?_))))
                   refine Dra.op' rfl rfl rfl .sure (Ope.mov rfl ?_)
                   refine Dra.off' rfl rfl rfl (.inl rfl) rfl (Dra.op' rfl rfl rfl .sure (Ope.pickF rfl rfl ?_))
                   refine Dra.op' rfl rfl rfl .sure (Ope.asg rfl ?_)
                   exact Dra.nil (Run.ret (fin_ret (.tmp rfl .nil) rfl rfl))
               ·first
                |(first | (exfalso;omega) | (exfalso;simp at hg;done) | (exfalso;simp_all;done))
                |refine Dra.off' rfl rfl rfl (.inl rfl) rfl (Dra.off' rfl rfl rfl (.inl rfl) rfl (Dra.off' rfl rfl rfl (.inl rfl) rfl (Dra.op' rfl rfl rfl .sure (Ope.pickF rfl rfl ?_))))
                 refine Dra.op' rfl rfl rfl .sure (Ope.mov rfl ?_)
                 refine Dra.off' rfl rfl rfl (.inl rfl) rfl (Dra.off' rfl rfl rfl (.inl rfl) rfl (Dra.off' rfl rfl rfl (.inl rfl) rfl (Dra.op' rfl rfl rfl .sure (Ope.pickF rfl rfl ?_))))
                 refine Dra.op' rfl rfl rfl .sure (Ope.mov rfl ?_)
                 refine Dra.off' rfl rfl rfl (.inl rfl) rfl (Dra.off' rfl rfl rfl (.inl rfl) rfl (Dra.off' rfl rfl rfl (.inl rfl) rfl (Dra.op' rfl rfl rfl .sure (Ope.pickF rfl rfl ?_))))
                 refine Dra.op' rfl rfl rfl .sure (Ope.mov rfl ?_)
                 refine Dra.off' rfl rfl rfl (.inl rfl) rfl (Dra.off' rfl rfl rfl (.inl rfl) rfl (Dra.off' rfl rfl rfl (.inl rfl) rfl (Dra.op' rfl rfl rfl .sure (Ope.pickF rfl rfl ?_))))
                 refine Dra.op' rfl rfl rfl .sure (Ope.mov rfl ?_)
                 refine Dra.off' rfl rfl rfl (.inl rfl) rfl (Dra.off' rfl rfl rfl (.inl rfl) rfl (Dra.off' rfl rfl rfl (.inl rfl) rfl (Dra.op' rfl rfl rfl .sure (Ope.pickF rfl rfl ?_))))
                 refine Dra.op' rfl rfl rfl .sure (Ope.mov rfl ?_)
                 refine Dra.off' rfl rfl rfl (.inl rfl) rfl (Dra.off' rfl rfl rfl (.inl rfl) rfl (Dra.off' rfl rfl rfl (.inl rfl) rfl (Dra.op' rfl rfl rfl .sure (Ope.pickF rfl rfl ?_))))
                 refine Dra.op' rfl rfl rfl .sure (Ope.mov rfl ?_)
                 refine Dra.off' rfl rfl rfl (.inl rfl) rfl (Dra.off' rfl rfl rfl (.inl rfl) rfl (Dra.off' rfl rfl rfl (.inl rfl) rfl (Dra.op' rfl rfl rfl .sure (Ope.pickF rfl rfl ?_))))
                 refine Dra.op' rfl rfl rfl .sure (Ope.mov rfl ?_)
                 refine Dra.off' rfl rfl rfl (.inl rfl) rfl (Dra.op' rfl rfl rfl .sure (Ope.pickF rfl rfl ?_))
                 refine Dra.op' rfl rfl rfl .sure (Ope.asg rfl ?_)
                 exact Dra.nil (Run.ret (fin_ret (.tmp rfl .nil) rfl rfl))
             ·first
              |(first | (exfalso;omega) | (exfalso;simp at hg;done) | (exfalso;simp_all;done))
              |refine Dra.off' rfl rfl rfl (.inl rfl) rfl (Dra.off' rfl rfl rfl (.inl rfl) rfl (Dra.op' rfl rfl rfl .sure (Ope.pickF rfl rfl ?_)))
               refine Dra.op' rfl rfl rfl .sure (Ope.mov rfl ?_)
               refine Dra.off' rfl rfl rfl (.inl rfl) rfl (Dra.off' rfl rfl rfl (.inl rfl) rfl (Dra.off' rfl rfl rfl (.inl rfl) rfl (Dra.op' rfl rfl rfl .sure (Ope.pickF rfl rfl ?_))))
               refine Dra.op' rfl rfl rfl .sure (Ope.mov rfl ?_)
               refine Dra.off' rfl rfl rfl (.inl rfl) rfl (Dra.off' rfl rfl rfl (.inl rfl) rfl (Dra.off' rfl rfl rfl (.inl rfl) rfl (Dra.op' rfl rfl rfl .sure (Ope.pickF rfl rfl ?_))))
               refine Dra.op' rfl rfl rfl .sure (Ope.mov rfl ?_)
               refine Dra.off' rfl rfl rfl (.inl rfl) rfl (Dra.off' rfl rfl rfl (.inl rfl) rfl (Dra.off' rfl rfl rfl (.inl rfl) rfl (Dra.op' rfl rfl rfl .sure (Ope.pickF rfl rfl ?_))))
               refine Dra.op' rfl rfl rfl .sure (Ope.mov rfl ?_)
               refine Dra.off' rfl rfl rfl (.inl rfl) rfl (Dra.off' rfl rfl rfl (.inl rfl) rfl (Dra.off' rfl rfl rfl (.inl rfl) rfl (Dra.op' rfl rfl rfl .sure (Ope.pickF rfl rfl ?_))))
               refine Dra.op' rfl rfl rfl .sure (Ope.mov rfl ?_)
               refine Dra.off' rfl rfl rfl (.inl rfl) rfl (Dra.off' rfl rfl rfl (.inl rfl) rfl (Dra.off' rfl rfl rfl (.inl rfl) rfl (Dra.op' rfl rfl rfl .sure (Ope.pickF rfl rfl ?_))))
               refine Dra.op' rfl rfl rfl .sure (Ope.mov rfl ?_)
               refine Dra.off' rfl rfl rfl (.inl rfl) rfl (Dra.off' rfl rfl rfl (.inl rfl) rfl (Dra.off' rfl rfl rfl (.inl rfl) rfl (Dra.op' rfl rfl rfl .sure (Ope.pickF rfl rfl ?_))))
               refine Dra.op' rfl rfl rfl .sure (Ope.mov rfl ?_)
               refine Dra.off' rfl rfl rfl (.inl rfl) rfl (Dra.off' rfl rfl rfl (.inl rfl) rfl (Dra.off' rfl rfl rfl (.inl rfl) rfl (Dra.op' rfl rfl rfl .sure (Ope.pickF rfl rfl ?_))))
               refine Dra.op' rfl rfl rfl .sure (Ope.mov rfl ?_)
               refine Dra.off' rfl rfl rfl (.inl rfl) rfl (Dra.op' rfl rfl rfl .sure (Ope.pickF rfl rfl ?_))
               refine Dra.op' rfl rfl rfl .sure (Ope.asg rfl ?_)
               exact Dra.nil (Run.ret (fin_ret (.tmp rfl .nil) rfl rfl))
           ·first
            |(first | (exfalso;omega) | (exfalso;simp at hg;done) | (exfalso;simp_all;done))
            |refine Dra.off' rfl rfl rfl (.inl rfl) rfl (Dra.off' rfl rfl rfl (.inl rfl) rfl (Dra.op' rfl rfl rfl .sure (Ope.pickF rfl rfl ?_)))
             refine Dra.op' rfl rfl rfl .sure (Ope.mov rfl ?_)
             refine Dra.off' rfl rfl rfl (.inl rfl) rfl (Dra.off' rfl rfl rfl (.inl rfl) rfl (Dra.op' rfl rfl rfl .sure (Ope.pickF rfl rfl ?_)))
             refine Dra.op' rfl rfl rfl .sure (Ope.mov rfl ?_)
             refine Dra.off' rfl rfl rfl (.inl rfl) rfl (Dra.off' rfl rfl rfl (.inl rfl) rfl (Dra.off' rfl rfl rfl (.inl rfl) rfl (Dra.op' rfl rfl rfl .sure (Ope.pickF rfl rfl ?_))))
             refine Dra.op' rfl rfl rfl .sure (Ope.mov rfl ?_)
             refine Dra.off' rfl rfl rfl (.inl rfl) rfl (Dra.off' rfl rfl rfl (.inl rfl) rfl (Dra.off' rfl rfl rfl (.inl rfl) rfl (Dra.op' rfl rfl rfl .sure (Ope.pickF rfl rfl ?_))))
             refine Dra.op' rfl rfl rfl .sure (Ope.mov rfl ?_)
             refine Dra.off' rfl rfl rfl (.inl rfl) rfl (Dra.off' rfl rfl rfl (.inl rfl) rfl (Dra.off' rfl rfl rfl (.inl rfl) rfl (Dra.op' rfl rfl rfl .sure (Ope.pickF rfl rfl ?_))))
             refine Dra.op' rfl rfl rfl .sure (Ope.mov rfl ?_)
             refine Dra.off' rfl rfl rfl (.inl rfl) rfl (Dra.off' rfl rfl rfl (.inl rfl) rfl (Dra.off' rfl rfl rfl (.inl rfl) rfl (Dra.op' rfl rfl rfl .sure (Ope.pickF rfl rfl ?_))))
             refine Dra.op' rfl rfl rfl .sure (Ope.mov rfl ?_)
             refine Dra.off' rfl rfl rfl (.inl rfl) rfl (Dra.off' rfl rfl rfl (.inl rfl) rfl (Dra.off' rfl rfl rfl (.inl rfl) rfl (Dra.op' rfl rfl rfl .sure (Ope.pickF rfl rfl ?_))))
             refine Dra.op' rfl rfl rfl .sure (Ope.mov rfl ?_)
             refine Dra.off' rfl rfl rfl (.inl rfl) rfl (Dra.off' rfl rfl rfl (.inl rfl) rfl (Dra.off' rfl rfl rfl (.inl rfl) rfl (Dra.op' rfl rfl rfl .sure (Ope.pickF rfl rfl ?_))))
             refine Dra.op' rfl rfl rfl .sure (Ope.mov rfl ?_)
             refine Dra.off' rfl rfl rfl (.inl rfl) rfl (Dra.off' rfl rfl rfl (.inl rfl) rfl (Dra.off' rfl rfl rfl (.inl rfl) rfl (Dra.op' rfl rfl rfl .sure (Ope.pickF rfl rfl ?_))))
             refine Dra.op' rfl rfl rfl .sure (Ope.mov rfl ?_)
             refine Dra.off' rfl rfl rfl (.inl rfl) rfl (Dra.op' rfl rfl rfl .sure (Ope.pickF rfl rfl ?_))
             refine Dra.op' rfl rfl rfl .sure (Ope.asg rfl ?_)
             exact Dra.nil (Run.ret (fin_ret (.tmp rfl .nil) rfl rfl))
         ·first
          |(first | (exfalso;omega) | (exfalso;simp at hg;done) | (exfalso;simp_all;done))
          |refine Dra.on' rfl rfl rfl rfl rfl .sure (Ope.load rfl rfl ?_)
           refine Dra.on' rfl rfl rfl rfl rfl .sure (Ope.mov rfl ?_)
           refine Dra.on' rfl rfl rfl rfl rfl .sure (Ope.cf rfl rfl hrg0 hbo0 ?_)
           refine Dra.on' rfl rfl rfl rfl rfl .sure (Ope.pickF rfl rfl ?_)
           refine Dra.op' rfl rfl rfl .sure (Ope.pickT rfl rfl ?_)
           refine Dra.op' rfl rfl rfl .sure (Ope.mov rfl ?_)
           refine Dra.splitX rfl rfl rfl rfl (fun hg=>?_) fun hg=>?_
           ·first
            |(first | (exfalso;omega) | (exfalso;simp at hg;done) | (exfalso;simp_all;done))
            |refine Dra.on' rfl rfl rfl rfl rfl .sure (Ope.mov rfl ?_)
             refine Dra.on' rfl rfl rfl rfl rfl .sure (Ope.eq rfl rfl ?_)
             refine Dra.op' rfl rfl rfl .sure (Ope.pickT rfl rfl ?_)
             refine Dra.op' rfl rfl rfl .sure (Ope.mov rfl ?_)
             refine Dra.splitX rfl rfl rfl rfl (fun hg=>?_) fun hg=>?_
             ·first
              |(first | (exfalso;omega) | (exfalso;simp at hg;done) | (exfalso;simp_all;done))
              |refine Dra.on' rfl rfl rfl rfl rfl .sure (Ope.mov rfl ?_)
               refine Dra.on' rfl rfl rfl rfl rfl .sure (Ope.eq rfl rfl ?_)
               refine Dra.op' rfl rfl rfl .sure (Ope.pickT rfl rfl ?_)
               refine Dra.op' rfl rfl rfl .sure (Ope.mov rfl ?_)
               refine Dra.splitX rfl rfl rfl rfl (fun hg=>?_) fun hg=>?_
               ·first
                |(first | (exfalso;omega) | (exfalso;simp at hg;done) | (exfalso;simp_all;done))
                |refine Dra.on' rfl rfl rfl rfl rfl .sure (Ope.mov rfl ?_)
                 refine Dra.on' rfl rfl rfl rfl rfl .sure (Ope.eq rfl rfl ?_)
                 refine Dra.op' rfl rfl rfl .sure (Ope.pickT rfl rfl ?_)
                 refine Dra.op' rfl rfl rfl .sure (Ope.mov rfl ?_)
                 refine Dra.splitX rfl rfl rfl rfl (fun hg=>?_) fun hg=>?_
                 ·first
                  |(first | (exfalso;omega) | (exfalso;simp at hg;done) | (exfalso;simp_all;done))
                  |refine Dra.on' rfl rfl rfl rfl rfl .sure (Ope.mov rfl ?_)
                   refine Dra.on' rfl rfl rfl rfl rfl .sure (Ope.mov rfl ?_)
                   refine Dra.on' rfl rfl rfl rfl rfl .sure (Ope.eq rfl rfl ?_)
                   refine Dra.op' rfl rfl rfl .sure (Ope.pickT rfl rfl ?_)
                   refine Dra.op' rfl rfl rfl .sure (Ope.mov rfl ?_)
                   refine Dra.splitX rfl rfl rfl rfl (fun hg=>?_) fun hg=>?_
                   ·first
                    |(first | (exfalso;omega) | (exfalso;simp at hg;done) | (exfalso;simp_all;done))
                    |refine Dra.on' rfl rfl rfl rfl rfl .sure (Ope.mov rfl ?_)
                     refine Dra.on' rfl rfl rfl rfl rfl .sure (Ope.mov rfl ?_)
                     refine Dra.on' rfl rfl rfl rfl rfl .sure (Ope.ge rfl rfl ?_)
                     refine Dra.op' rfl rfl rfl .sure (Ope.pickT rfl rfl ?_)
                     refine Dra.op' rfl rfl rfl .sure (Ope.mov rfl ?_)
                     refine Dra.splitX rfl rfl rfl rfl (fun hg=>?_) fun hg=>?_
                     ·first
                      |(first | (exfalso;omega) | (exfalso;simp at hg;done) | (exfalso;simp_all;done))
                      |refine Dra.on' rfl rfl rfl rfl rfl .sure (Ope.mov rfl ?_)
                       refine Dra.on' rfl rfl rfl rfl rfl .sure (Ope.mov rfl ?_)
                       refine Dra.on' rfl rfl rfl rfl rfl .sure (Ope.eq rfl rfl ?_)
                       refine Dra.op' rfl rfl rfl .sure (Ope.pickT rfl rfl ?_)
                       refine Dra.op' rfl rfl rfl .sure (Ope.mov rfl ?_)
                       refine Dra.splitX rfl rfl rfl rfl (fun hg=>?_) fun hg=>?_
                       ·first
                        |(first | (exfalso;omega) | (exfalso;simp at hg;done) | (exfalso;simp_all;done))
                        |refine Dra.on' rfl rfl rfl rfl rfl .sure (Ope.mov rfl ?_)
                         refine Dra.on' rfl rfl rfl rfl rfl .sure (Ope.mov rfl ?_)
                         refine Dra.on' rfl rfl rfl rfl rfl .sure (Ope.cf rfl rfl hin hbi ?_)
                         refine Dra.op' rfl rfl rfl .sure (Ope.pickT rfl rfl ?_)
                         refine Dra.op' rfl rfl rfl .sure (Ope.mov rfl ?_)
                         refine Dra.splitX rfl rfl rfl rfl (fun hg=>?_) fun hg=>?_
                         ·first
                          |(first | (exfalso;omega) | (exfalso;simp at hg;done) | (exfalso;simp_all;done))
                          |refine Dra.on' rfl rfl rfl rfl rfl .sure (Ope.mov rfl ?_)
                           refine Dra.on' rfl rfl rfl rfl rfl .sure (Ope.mov rfl ?_)
                           refine Dra.on' rfl rfl rfl rfl rfl .sure (Ope.eq rfl rfl ?_)
                           refine Dra.op' rfl rfl rfl .sure (Ope.pickT rfl rfl ?_)
                           refine Dra.op' rfl rfl rfl .sure (Ope.mov rfl ?_)
                           refine Dra.splitX rfl rfl rfl rfl (fun hg=>?_) fun hg=>?_
                           ·first
                            |(first | (exfalso;omega) | (exfalso;simp at hg;done) | (exfalso;simp_all;done))
                            |refine Dra.on' rfl rfl rfl rfl rfl .sure (Ope.mov rfl ?_)
                             refine Dra.on' rfl rfl rfl rfl rfl .sure (Ope.mov rfl ?_)
                             refine Dra.on' rfl rfl rfl rfl rfl .sure (Ope.eq rfl rfl ?_)
                             refine Dra.op' rfl rfl rfl .sure (Ope.pickT rfl rfl ?_)
                             refine Dra.op' rfl rfl rfl .sure (Ope.mov rfl ?_)
                             refine Dra.splitX rfl rfl rfl rfl (fun hg=>?_) fun hg=>?_
                             ·first
                              |(first | (exfalso;omega) | (exfalso;simp at hg;done) | (exfalso;simp_all;done))
                              |refine Dra.on' rfl rfl rfl rfl rfl .sure (Ope.mov rfl ?_)
                               refine Dra.on' rfl rfl rfl rfl rfl .sure (Ope.mov rfl ?_)
                               refine Dra.on' rfl rfl rfl rfl rfl .sure (Ope.eq rfl rfl ?_)
                               refine Dra.op' rfl rfl rfl .sure (Ope.pickT rfl rfl ?_)
                               refine Dra.op' rfl rfl rfl .sure (Ope.mov rfl ?_)
                               refine Dra.splitX rfl rfl rfl rfl (fun hg=>?_) fun hg=>?_
                               ·first
                                |(first | (exfalso;omega) | (exfalso;simp at hg;done) | (exfalso;simp_all;done))
                                |refine Dra.on' rfl rfl rfl rfl rfl .sure (Ope.cf rfl rfl (awakeF) rfl ?_)
                                 refine Dra.op' rfl rfl rfl .sure (Ope.pickT rfl rfl ?_)
                                 refine Dra.op' rfl rfl rfl .sure (Ope.asg rfl ?_)
                                 exact Dra.nil (Run.ret (fin_ret (.tmp rfl .nil) rfl rfl))
                               ·first
                                |(first | (exfalso;omega) | (exfalso;simp at hg;done) | (exfalso;simp_all;done))
                                |refine Dra.off' rfl rfl rfl (.inl rfl) rfl (Dra.op' rfl rfl rfl .sure (Ope.pickF rfl rfl ?_))
                                 refine Dra.op' rfl rfl rfl .sure (Ope.asg rfl ?_)
                                 exact Dra.nil (Run.ret (fin_ret (.tmp rfl .nil) rfl rfl))
                             ·first
                              |(first | (exfalso;omega) | (exfalso;simp at hg;done) | (exfalso;simp_all;done))
                              |refine Dra.off' rfl rfl rfl (.inl rfl) rfl (Dra.off' rfl rfl rfl (.inl rfl) rfl (Dra.off' rfl rfl rfl (.inl rfl) rfl (Dra.op' rfl rfl rfl .sure (Ope.pickF rfl rfl ?_))))
                               refine Dra.op' rfl rfl rfl .sure (Ope.mov rfl ?_)
                               refine Dra.off' rfl rfl rfl (.inl rfl) rfl (Dra.op' rfl rfl rfl .sure (Ope.pickF rfl rfl ?_))
                               refine Dra.op' rfl rfl rfl .sure (Ope.asg rfl ?_)
                               exact Dra.nil (Run.ret (fin_ret (.tmp rfl .nil) rfl rfl))
                           ·first
                            |(first | (exfalso;omega) | (exfalso;simp at hg;done) | (exfalso;simp_all;done))
                            |refine Dra.off' rfl rfl rfl (.inl rfl) rfl (Dra.off' rfl rfl rfl (.inl rfl) rfl (Dra.off' rfl rfl rfl (.inl rfl) rfl (Dra.op' rfl rfl rfl .sure (Ope.pickF rfl rfl ?_))))
                             refine Dra.op' rfl rfl rfl .sure (Ope.mov rfl ?_)
                             refine Dra.off' rfl rfl rfl (.inl rfl) rfl (Dra.off' rfl rfl rfl (.inl rfl) rfl (Dra.off' rfl rfl rfl (.inl rfl) rfl (Dra.op' rfl rfl rfl .sure (Ope.pickF rfl rfl ?_))))
                             refine Dra.op' rfl rfl rfl .sure (Ope.mov rfl ?_)
                             refine Dra.off' rfl rfl rfl (.inl rfl) rfl (Dra.op' rfl rfl rfl .sure (Ope.pickF rfl rfl ?_))
                             refine Dra.op' rfl rfl rfl .sure (Ope.asg rfl ?_)
                             exact Dra.nil (Run.ret (fin_ret (.tmp rfl .nil) rfl rfl))
                         ·first
                          |(first | (exfalso;omega) | (exfalso;simp at hg;done) | (exfalso;simp_all;done))
                          |refine Dra.off' rfl rfl rfl (.inl rfl) rfl (Dra.off' rfl rfl rfl (.inl rfl) rfl (Dra.off' rfl rfl rfl (.inl rfl) rfl (Dra.op' rfl rfl rfl .sure (Ope.pickF rfl rfl ?_))))
                           refine Dra.op' rfl rfl rfl .sure (Ope.mov rfl ?_)
                           refine Dra.off' rfl rfl rfl (.inl rfl) rfl (Dra.off' rfl rfl rfl (.inl rfl) rfl (Dra.off' rfl rfl rfl (.inl rfl) rfl (Dra.op' rfl rfl rfl .sure (Ope.pickF rfl rfl ?_))))
                           refine Dra.op' rfl rfl rfl .sure (Ope.mov rfl ?_)
                           refine Dra.off' rfl rfl rfl (.inl rfl) rfl (Dra.off' rfl rfl rfl (.inl rfl) rfl (Dra.off' rfl rfl rfl (.inl rfl) rfl (Dra.op' rfl rfl rfl .sure (Ope.pickF rfl rfl ?_))))
                           refine Dra.op' rfl rfl rfl .sure (Ope.mov rfl ?_)
                           refine Dra.off' rfl rfl rfl (.inl rfl) rfl (Dra.op' rfl rfl rfl .sure (Ope.pickF rfl rfl ?_))
                           refine Dra.op' rfl rfl rfl .sure (Ope.asg rfl ?_)
                           exact Dra.nil (Run.ret (fin_ret (.tmp rfl .nil) rfl rfl))
                       ·first
                        |(first | (exfalso;omega) | (exfalso;simp at hg;done) | (exfalso;simp_all;done))
                        |refine Dra.off' rfl rfl rfl (.inl rfl) rfl (Dra.off' rfl rfl rfl (.inl rfl) rfl (Dra.off' rfl rfl rfl (.inl rfl) rfl (Dra.op' rfl rfl rfl .sure (Ope.pickF rfl rfl ?_))))
                         refine Dra.op' rfl rfl rfl .sure (Ope.mov rfl ?_)
                         refine Dra.off' rfl rfl rfl (.inl rfl) rfl (Dra.off' rfl rfl rfl (.inl rfl) rfl (Dra.off' rfl rfl rfl (.inl rfl) rfl (Dra.op' rfl rfl rfl .sure (Ope.pickF rfl rfl ?_))))
                         refine Dra.op' rfl rfl rfl .sure (Ope.mov rfl ?_)
                         refine Dra.off' rfl rfl rfl (.inl rfl) rfl (Dra.off' rfl rfl rfl (.inl rfl) rfl (Dra.off' rfl rfl rfl (.inl rfl) rfl (Dra.op' rfl rfl rfl .sure (Ope.pickF rfl rfl ?_))))
                         refine Dra.op' rfl rfl rfl .sure (Ope.mov rfl ?_)
                         refine Dra.off' rfl rfl rfl (.inl rfl) rfl (Dra.off' rfl rfl rfl (.inl rfl) rfl (Dra.off' rfl rfl rfl (.inl rfl) rfl (Dra.op' rfl rfl rfl .sure (Ope.pickF rfl rfl ?_))))
                         refine Dra.op' rfl rfl rfl .sure (Ope.mov rfl ?_)
                         refine Dra.off' rfl rfl rfl (.inl rfl) rfl (Dra.op' rfl rfl rfl .sure (Ope.pickF rfl rfl ?_))
                         refine Dra.op' rfl rfl rfl .sure (Ope.asg rfl ?_)
                         exact Dra.nil (Run.ret (fin_ret (.tmp rfl .nil) rfl rfl))
                     ·first
                      |(first | (exfalso;omega) | (exfalso;simp at hg;done) | (exfalso;simp_all;done))
                      |refine Dra.off' rfl rfl rfl (.inl rfl) rfl (Dra.off' rfl rfl rfl (.inl rfl) rfl (Dra.off' rfl rfl rfl (.inl rfl) rfl (Dra.op' rfl rfl rfl .sure (Ope.pickF rfl rfl ?_))))
                       refine Dra.op' rfl rfl rfl .sure (Ope.mov rfl ?_)
                       refine Dra.off' rfl rfl rfl (.inl rfl) rfl (Dra.off' rfl rfl rfl (.inl rfl) rfl (Dra.off' rfl rfl rfl (.inl rfl) rfl (Dra.op' rfl rfl rfl .sure (Ope.pickF rfl rfl ?_))))
                       refine Dra.op' rfl rfl rfl .sure (Ope.mov rfl ?_)
                       refine Dra.off' rfl rfl rfl (.inl rfl) rfl (Dra.off' rfl rfl rfl (.inl rfl) rfl (Dra.off' rfl rfl rfl (.inl rfl) rfl (Dra.op' rfl rfl rfl .sure (Ope.pickF rfl rfl ?_))))
                       refine Dra.op' rfl rfl rfl .sure (Ope.mov rfl ?_)
                       refine Dra.off' rfl rfl rfl (.inl rfl) rfl (Dra.off' rfl rfl rfl (.inl rfl) rfl (Dra.off' rfl rfl rfl (.inl rfl) rfl (Dra.op' rfl rfl rfl .sure (Ope.pickF rfl rfl ?_))))
                       refine Dra.op' rfl rfl rfl .sure (Ope.mov rfl ?_)
                       refine Dra.off' rfl rfl rfl (.inl rfl) rfl (Dra.off' rfl rfl rfl (.inl rfl) rfl (Dra.off' rfl rfl rfl (.inl rfl) rfl (Dra.op' rfl rfl rfl .sure (Ope.pickF rfl rfl ?_))))
                       refine Dra.op' rfl rfl rfl .sure (Ope.mov rfl ?_)
                       refine Dra.off' rfl rfl rfl (.inl rfl) rfl (Dra.op' rfl rfl rfl .sure (Ope.pickF rfl rfl ?_))
                       refine Dra.op' rfl rfl rfl .sure (Ope.asg rfl ?_)
                       exact Dra.nil (Run.ret (fin_ret (.tmp rfl .nil) rfl rfl))
                   ·first
                    |(first | (exfalso;omega) | (exfalso;simp at hg;done) | (exfalso;simp_all;done))
                    |refine Dra.off' rfl rfl rfl (.inl rfl) rfl (Dra.off' rfl rfl rfl (.inl rfl) rfl (Dra.off' rfl rfl rfl (.inl rfl) rfl (Dra.op' rfl rfl rfl .sure (Ope.pickF rfl rfl ?_))))
                     refine Dra.op' rfl rfl rfl .sure (Ope.mov rfl ?_)
                     refine Dra.off' rfl rfl rfl (.inl rfl) rfl (Dra.off' rfl rfl rfl (.inl rfl) rfl (Dra.off' rfl rfl rfl (.inl rfl) rfl (Dra.op' rfl rfl rfl .sure (Ope.pickF rfl rfl ?_))))
                     refine Dra.op' rfl rfl rfl .sure (Ope.mov rfl ?_)
                     refine Dra.off' rfl rfl rfl (.inl rfl) rfl (Dra.off' rfl rfl rfl (.inl rfl) rfl (Dra.off' rfl rfl rfl (.inl rfl) rfl (Dra.op' rfl rfl rfl .sure (Ope.pickF rfl rfl ?_))))
                     refine Dra.op' rfl rfl rfl .sure (Ope.mov rfl ?_)
                     refine Dra.off' rfl rfl rfl (.inl rfl) rfl (Dra.off' rfl rfl rfl (.inl rfl) rfl (Dra.off' rfl rfl rfl (.inl rfl) rfl (Dra.op' rfl rfl rfl .sure (Ope.pickF rfl rfl ?_))))
                     refine Dra.op' rfl rfl rfl .sure (Ope.mov rfl ?_)
                     refine Dra.off' rfl rfl rfl (.inl rfl) rfl (Dra.off' rfl rfl rfl (.inl rfl) rfl (Dra.off' rfl rfl rfl (.inl rfl) rfl (Dra.op' rfl rfl rfl .sure (Ope.pickF rfl rfl ?_))))
                     refine Dra.op' rfl rfl rfl .sure (Ope.mov rfl ?_)
                     refine Dra.off' rfl rfl rfl (.inl rfl) rfl (Dra.off' rfl rfl rfl (.inl rfl) rfl (Dra.off' rfl rfl rfl (.inl rfl) rfl (Dra.op' rfl rfl rfl .sure (Ope.pickF rfl rfl ?_))))
                     refine Dra.op' rfl rfl rfl .sure (Ope.mov rfl ?_)
                     refine Dra.off' rfl rfl rfl (.inl rfl) rfl (Dra.op' rfl rfl rfl .sure (Ope.pickF rfl rfl ?_))
                     refine Dra.op' rfl rfl rfl .sure (Ope.asg rfl ?_)
                     exact Dra.nil (Run.ret (fin_ret (.tmp rfl .nil) rfl rfl))
                 ·first
                  |(first | (exfalso;omega) | (exfalso;simp at hg;done) | (exfalso;simp_all;done))
                  |refine Dra.off' rfl rfl rfl (.inl rfl) rfl (Dra.off' rfl rfl rfl (.inl rfl) rfl (Dra.off' rfl rfl rfl (.inl rfl) rfl (Dra.op' rfl rfl rfl .sure (Ope.pickF rfl rfl ?_))))
                   refine Dra.op' rfl rfl rfl .sure (Ope.mov rfl ?_)
                   refine Dra.off' rfl rfl rfl (.inl rfl) rfl (Dra.off' rfl rfl rfl (.inl rfl) rfl (Dra.off' rfl rfl rfl (.inl rfl) rfl (Dra.op' rfl rfl rfl .sure (Ope.pickF rfl rfl ?_))))
                   refine Dra.op' rfl rfl rfl .sure (Ope.mov rfl ?_)
                   refine Dra.off' rfl rfl rfl (.inl rfl) rfl (Dra.off' rfl rfl rfl (.inl rfl) rfl (Dra.off' rfl rfl rfl (.inl rfl) rfl (Dra.op' rfl rfl rfl .sure (Ope.pickF rfl rfl ?_))))
                   refine Dra.op' rfl rfl rfl .sure (Ope.mov rfl ?_)
                   refine Dra.off' rfl rfl rfl (.inl rfl) rfl (Dra.off' rfl rfl rfl (.inl rfl) rfl (Dra.off' rfl rfl rfl (.inl rfl) rfl (Dra.op' rfl rfl rfl .sure (Ope.pickF rfl rfl ?_))))
                   refine Dra.op' rfl rfl rfl .sure (Ope.mov rfl ?_)
                   refine Dra.off' rfl rfl rfl (.inl rfl) rfl (Dra.off' rfl rfl rfl (.inl rfl) rfl (Dra.off' rfl rfl rfl (.inl rfl) rfl (Dra.op' rfl rfl rfl .sure (Ope.pickF rfl rfl ?_))))
                   refine Dra.op' rfl rfl rfl .sure (Ope.mov rfl ?_)
                   refine Dra.off' rfl rfl rfl (.inl rfl) rfl (Dra.off' rfl rfl rfl (.inl rfl) rfl (Dra.off' rfl rfl rfl (.inl rfl) rfl (Dra.op' rfl rfl rfl .sure (Ope.pickF rfl rfl ?_))))
                   refine Dra.op' rfl rfl rfl .sure (Ope.mov rfl ?_)
                   refine Dra.off' rfl rfl rfl (.inl rfl) rfl (Dra.off' rfl rfl rfl (.inl rfl) rfl (Dra.off' rfl rfl rfl (.inl rfl) rfl (Dra.op' rfl rfl rfl .sure (Ope.pickF rfl rfl ?_))))
                   refine Dra.op' rfl rfl rfl .sure (Ope.mov rfl ?_)
                   refine Dra.off' rfl rfl rfl (.inl rfl) rfl (Dra.op' rfl rfl rfl .sure (Ope.pickF rfl rfl ?_))
                   refine Dra.op' rfl rfl rfl .sure (Ope.asg rfl ?_)
                   exact Dra.nil (Run.ret (fin_ret (.tmp rfl .nil) rfl rfl))
               ·first
                |(first | (exfalso;omega) | (exfalso;simp at hg;done) | (exfalso;simp_all;done))
                |refine Dra.off' rfl rfl rfl (.inl rfl) rfl (Dra.off' rfl rfl rfl (.inl rfl) rfl (Dra.op' rfl rfl rfl .sure (Ope.pickF rfl rfl ?_)))
                 refine Dra.op' rfl rfl rfl .sure (Ope.mov rfl ?_)
                 refine Dra.off' rfl rfl rfl (.inl rfl) rfl (Dra.off' rfl rfl rfl (.inl rfl) rfl (Dra.off' rfl rfl rfl (.inl rfl) rfl (Dra.op' rfl rfl rfl .sure (Ope.pickF rfl rfl ?_))))
                 refine Dra.op' rfl rfl rfl .sure (Ope.mov rfl ?_)
                 refine Dra.off' rfl rfl rfl (.inl rfl) rfl (Dra.off' rfl rfl rfl (.inl rfl) rfl (Dra.off' rfl rfl rfl (.inl rfl) rfl (Dra.op' rfl rfl rfl .sure (Ope.pickF rfl rfl ?_))))
                 refine Dra.op' rfl rfl rfl .sure (Ope.mov rfl ?_)
                 refine Dra.off' rfl rfl rfl (.inl rfl) rfl (Dra.off' rfl rfl rfl (.inl rfl) rfl (Dra.off' rfl rfl rfl (.inl rfl) rfl (Dra.op' rfl rfl rfl .sure (Ope.pickF rfl rfl ?_))))
                 refine Dra.op' rfl rfl rfl .sure (Ope.mov rfl ?_)
                 refine Dra.off' rfl rfl rfl (.inl rfl) rfl (Dra.off' rfl rfl rfl (.inl rfl) rfl (Dra.off' rfl rfl rfl (.inl rfl) rfl (Dra.op' rfl rfl rfl .sure (Ope.pickF rfl rfl ?_))))
                 refine Dra.op' rfl rfl rfl .sure (Ope.mov rfl ?_)
                 refine Dra.off' rfl rfl rfl (.inl rfl) rfl (Dra.off' rfl rfl rfl (.inl rfl) rfl (Dra.off' rfl rfl rfl (.inl rfl) rfl (Dra.op' rfl rfl rfl .sure (Ope.pickF rfl rfl ?_))))
                 refine Dra.op' rfl rfl rfl .sure (Ope.mov rfl ?_)
                 refine Dra.off' rfl rfl rfl (.inl rfl) rfl (Dra.off' rfl rfl rfl (.inl rfl) rfl (Dra.off' rfl rfl rfl (.inl rfl) rfl (Dra.op' rfl rfl rfl .sure (Ope.pickF rfl rfl ?_))))
                 refine Dra.op' rfl rfl rfl .sure (Ope.mov rfl ?_)
                 refine Dra.off' rfl rfl rfl (.inl rfl) rfl (Dra.off' rfl rfl rfl (.inl rfl) rfl (Dra.off' rfl rfl rfl (.inl rfl) rfl (Dra.op' rfl rfl rfl .sure (Ope.pickF rfl rfl ?_))))
                 refine Dra.op' rfl rfl rfl .sure (Ope.mov rfl ?_)
                 refine Dra.off' rfl rfl rfl (.inl rfl) rfl (Dra.op' rfl rfl rfl .sure (Ope.pickF rfl rfl ?_))
                 refine Dra.op' rfl rfl rfl .sure (Ope.asg rfl ?_)
                 exact Dra.nil (Run.ret (fin_ret (.tmp rfl .nil) rfl rfl))
             ·first
              |(first | (exfalso;omega) | (exfalso;simp at hg;done) | (exfalso;simp_all;done))
              |refine Dra.off' rfl rfl rfl (.inl rfl) rfl (Dra.off' rfl rfl rfl (.inl rfl) rfl (Dra.op' rfl rfl rfl .sure (Ope.pickF rfl rfl ?_)))
               refine Dra.op' rfl rfl rfl .sure (Ope.mov rfl ?_)
               refine Dra.off' rfl rfl rfl (.inl rfl) rfl (Dra.off' rfl rfl rfl (.inl rfl) rfl (Dra.op' rfl rfl rfl .sure (Ope.pickF rfl rfl ?_)))
               refine Dra.op' rfl rfl rfl .sure (Ope.mov rfl ?_)
               refine Dra.off' rfl rfl rfl (.inl rfl) rfl (Dra.off' rfl rfl rfl (.inl rfl) rfl (Dra.off' rfl rfl rfl (.inl rfl) rfl (Dra.op' rfl rfl rfl .sure (Ope.pickF rfl rfl ?_))))
               refine Dra.op' rfl rfl rfl .sure (Ope.mov rfl ?_)
               refine Dra.off' rfl rfl rfl (.inl rfl) rfl (Dra.off' rfl rfl rfl (.inl rfl) rfl (Dra.off' rfl rfl rfl (.inl rfl) rfl (Dra.op' rfl rfl rfl .sure (Ope.pickF rfl rfl ?_))))
               refine Dra.op' rfl rfl rfl .sure (Ope.mov rfl ?_)
               refine Dra.off' rfl rfl rfl (.inl rfl) rfl (Dra.off' rfl rfl rfl (.inl rfl) rfl (Dra.off' rfl rfl rfl (.inl rfl) rfl (Dra.op' rfl rfl rfl .sure (Ope.pickF rfl rfl ?_))))
               refine Dra.op' rfl rfl rfl .sure (Ope.mov rfl ?_)
               refine Dra.off' rfl rfl rfl (.inl rfl) rfl (Dra.off' rfl rfl rfl (.inl rfl) rfl (Dra.off' rfl rfl rfl (.inl rfl) rfl (Dra.op' rfl rfl rfl .sure (Ope.pickF rfl rfl ?_))))
               refine Dra.op' rfl rfl rfl .sure (Ope.mov rfl ?_)
               refine Dra.off' rfl rfl rfl (.inl rfl) rfl (Dra.off' rfl rfl rfl (.inl rfl) rfl (Dra.off' rfl rfl rfl (.inl rfl) rfl (Dra.op' rfl rfl rfl .sure (Ope.pickF rfl rfl ?_))))
               refine Dra.op' rfl rfl rfl .sure (Ope.mov rfl ?_)
               refine Dra.off' rfl rfl rfl (.inl rfl) rfl (Dra.off' rfl rfl rfl (.inl rfl) rfl (Dra.off' rfl rfl rfl (.inl rfl) rfl (Dra.op' rfl rfl rfl .sure (Ope.pickF rfl rfl ?_))))
               refine Dra.op' rfl rfl rfl .sure (Ope.mov rfl ?_)
               refine Dra.off' rfl rfl rfl (.inl rfl) rfl (Dra.off' rfl rfl rfl (.inl rfl) rfl (Dra.off' rfl rfl rfl (.inl rfl) rfl (Dra.op' rfl rfl rfl .sure (Ope.pickF rfl rfl ?_))))
               refine Dra.op' rfl rfl rfl .sure (Ope.mov rfl ?_)
               refine Dra.off' rfl rfl rfl (.inl rfl) rfl (Dra.op' rfl rfl rfl .sure (Ope.pickF rfl rfl ?_))
               refine Dra.op' rfl rfl rfl .sure (Ope.asg rfl ?_)
               exact Dra.nil (Run.ret (fin_ret (.tmp rfl .nil) rfl rfl))
           ·first
            |(first | (exfalso;omega) | (exfalso;simp at hg;done) | (exfalso;simp_all;done))
            |refine Dra.off' rfl rfl rfl (.inl rfl) rfl (Dra.off' rfl rfl rfl (.inl rfl) rfl (Dra.op' rfl rfl rfl .sure (Ope.pickF rfl rfl ?_)))
             refine Dra.op' rfl rfl rfl .sure (Ope.mov rfl ?_)
             refine Dra.off' rfl rfl rfl (.inl rfl) rfl (Dra.off' rfl rfl rfl (.inl rfl) rfl (Dra.op' rfl rfl rfl .sure (Ope.pickF rfl rfl ?_)))
             refine Dra.op' rfl rfl rfl .sure (Ope.mov rfl ?_)
             refine Dra.off' rfl rfl rfl (.inl rfl) rfl (Dra.off' rfl rfl rfl (.inl rfl) rfl (Dra.op' rfl rfl rfl .sure (Ope.pickF rfl rfl ?_)))
             refine Dra.op' rfl rfl rfl .sure (Ope.mov rfl ?_)
             refine Dra.off' rfl rfl rfl (.inl rfl) rfl (Dra.off' rfl rfl rfl (.inl rfl) rfl (Dra.off' rfl rfl rfl (.inl rfl) rfl (Dra.op' rfl rfl rfl .sure (Ope.pickF rfl rfl ?_))))
             refine Dra.op' rfl rfl rfl .sure (Ope.mov rfl ?_)
             refine Dra.off' rfl rfl rfl (.inl rfl) rfl (Dra.off' rfl rfl rfl (.inl rfl) rfl (Dra.off' rfl rfl rfl (.inl rfl) rfl (Dra.op' rfl rfl rfl .sure (Ope.pickF rfl rfl ?_))))
             refine Dra.op' rfl rfl rfl .sure (Ope.mov rfl ?_)
             refine Dra.off' rfl rfl rfl (.inl rfl) rfl (Dra.off' rfl rfl rfl (.inl rfl) rfl (Dra.off' rfl rfl rfl (.inl rfl) rfl (Dra.op' rfl rfl rfl .sure (Ope.pickF rfl rfl ?_))))
             refine Dra.op' rfl rfl rfl .sure (Ope.mov rfl ?_)
             refine Dra.off' rfl rfl rfl (.inl rfl) rfl (Dra.off' rfl rfl rfl (.inl rfl) rfl (Dra.off' rfl rfl rfl (.inl rfl) rfl (Dra.op' rfl rfl rfl .sure (Ope.pickF rfl rfl ?_))))
             refine Dra.op' rfl rfl rfl .sure (Ope.mov rfl ?_)
             refine Dra.off' rfl rfl rfl (.inl rfl) rfl (Dra.off' rfl rfl rfl (.inl rfl) rfl (Dra.off' rfl rfl rfl (.inl rfl) rfl (Dra.op' rfl rfl rfl .sure (Ope.pickF rfl rfl ?_))))
             refine Dra.op' rfl rfl rfl .sure (Ope.mov rfl ?_)
             refine Dra.off' rfl rfl rfl (.inl rfl) rfl (Dra.off' rfl rfl rfl (.inl rfl) rfl (Dra.off' rfl rfl rfl (.inl rfl) rfl (Dra.op' rfl rfl rfl .sure (Ope.pickF rfl rfl ?_))))
             refine Dra.op' rfl rfl rfl .sure (Ope.mov rfl ?_)
             refine Dra.off' rfl rfl rfl (.inl rfl) rfl (Dra.off' rfl rfl rfl (.inl rfl) rfl (Dra.off' rfl rfl rfl (.inl rfl) rfl (Dra.op' rfl rfl rfl .sure (Ope.pickF rfl rfl ?_))))
             refine Dra.op' rfl rfl rfl .sure (Ope.mov rfl ?_)
             refine Dra.off' rfl rfl rfl (.inl rfl) rfl (Dra.op' rfl rfl rfl .sure (Ope.pickF rfl rfl ?_))
             refine Dra.op' rfl rfl rfl .sure (Ope.asg rfl ?_)
             exact Dra.nil (Run.ret (fin_ret (.tmp rfl .nil) rfl rfl))
       ·first
        |(first | (exfalso;omega) | (exfalso;simp at hg;done) | (exfalso;simp_all;done))
        |refine Dra.off' rfl rfl rfl (.inl rfl) rfl (Dra.off' rfl rfl rfl (.inl rfl) rfl (Dra.off' rfl rfl rfl (.inl rfl) rfl (Dra.off' rfl rfl rfl (.inl rfl) rfl (Dra.off' rfl rfl rfl (.inl rfl) rfl (Dra.off' rfl rfl rfl (.inr rfl) rfl (Dra.off' rfl rfl rfl (.inr rfl) rfl (Dra.off' rfl rfl rfl (.inr rfl) rfl (Dra.off' rfl rfl rfl (.inl rfl) rfl (Dra.op' rfl rfl rfl .sure (Ope.pickF rfl rfl ?_))))))))))
         refine Dra.op' rfl rfl rfl .sure (Ope.mov rfl ?_)
         refine Dra.off' rfl rfl rfl (.inl rfl) rfl (Dra.off' rfl rfl rfl (.inl rfl) rfl (Dra.op' rfl rfl rfl .sure (Ope.pickF rfl rfl ?_)))
         refine Dra.op' rfl rfl rfl .sure (Ope.mov rfl ?_)
         refine Dra.off' rfl rfl rfl (.inl rfl) rfl (Dra.off' rfl rfl rfl (.inl rfl) rfl (Dra.op' rfl rfl rfl .sure (Ope.pickF rfl rfl ?_)))
         refine Dra.op' rfl rfl rfl .sure (Ope.mov rfl ?_)
         refine Dra.off' rfl rfl rfl (.inl rfl) rfl (Dra.off' rfl rfl rfl (.inl rfl) rfl (Dra.op' rfl rfl rfl .sure (Ope.pickF rfl rfl ?_)))
         refine Dra.op' rfl rfl rfl .sure (Ope.mov rfl ?_)
         refine Dra.off' rfl rfl rfl (.inl rfl) rfl (Dra.off' rfl rfl rfl (.inl rfl) rfl (Dra.off' rfl rfl rfl (.inl rfl) rfl (Dra.op' rfl rfl rfl .sure (Ope.pickF rfl rfl ?_))))
         refine Dra.op' rfl rfl rfl .sure (Ope.mov rfl ?_)
         refine Dra.off' rfl rfl rfl (.inl rfl) rfl (Dra.off' rfl rfl rfl (.inl rfl) rfl (Dra.off' rfl rfl rfl (.inl rfl) rfl (Dra.op' rfl rfl rfl .sure (Ope.pickF rfl rfl ?_))))
         refine Dra.op' rfl rfl rfl .sure (Ope.mov rfl ?_)
         refine Dra.off' rfl rfl rfl (.inl rfl) rfl (Dra.off' rfl rfl rfl (.inl rfl) rfl (Dra.off' rfl rfl rfl (.inl rfl) rfl (Dra.op' rfl rfl rfl .sure (Ope.pickF rfl rfl ?_))))
         refine Dra.op' rfl rfl rfl .sure (Ope.mov rfl ?_)
         refine Dra.off' rfl rfl rfl (.inl rfl) rfl (Dra.off' rfl rfl rfl (.inl rfl) rfl (Dra.off' rfl rfl rfl (.inl rfl) rfl (Dra.op' rfl rfl rfl .sure (Ope.pickF rfl rfl ?_))))
         refine Dra.op' rfl rfl rfl .sure (Ope.mov rfl ?_)
         refine Dra.off' rfl rfl rfl (.inl rfl) rfl (Dra.off' rfl rfl rfl (.inl rfl) rfl (Dra.off' rfl rfl rfl (.inl rfl) rfl (Dra.op' rfl rfl rfl .sure (Ope.pickF rfl rfl ?_))))
         refine Dra.op' rfl rfl rfl .sure (Ope.mov rfl ?_)
         refine Dra.off' rfl rfl rfl (.inl rfl) rfl (Dra.off' rfl rfl rfl (.inl rfl) rfl (Dra.off' rfl rfl rfl (.inl rfl) rfl (Dra.op' rfl rfl rfl .sure (Ope.pickF rfl rfl ?_))))
         refine Dra.op' rfl rfl rfl .sure (Ope.mov rfl ?_)
         refine Dra.off' rfl rfl rfl (.inl rfl) rfl (Dra.off' rfl rfl rfl (.inl rfl) rfl (Dra.off' rfl rfl rfl (.inl rfl) rfl (Dra.op' rfl rfl rfl .sure (Ope.pickF rfl rfl ?_))))
         refine Dra.op' rfl rfl rfl .sure (Ope.mov rfl ?_)
         refine Dra.off' rfl rfl rfl (.inl rfl) rfl (Dra.op' rfl rfl rfl .sure (Ope.pickF rfl rfl ?_))
         refine Dra.op' rfl rfl rfl .sure (Ope.asg rfl ?_)
         exact Dra.nil (Run.ret (fin_ret (.tmp rfl .nil) rfl rfl))
end
theorem f6a (s:Shp) (hi:s.i64) (by':List Nat) (hb8:∀ x∈by',x < 256):Fn P0 6 [s.v .no .no,.sl .no (by'.map U8)] (B true):=by
  cases hv:s.val with
  | false=>exact f6n s (t1:=.no) (t2:=.no) rfl rfl hi _ hv
  | true=>exact f6y s (t1:=.no) (t2:=.no) rfl rfl hi hv .no rfl by' hb8
end Go.Pv
namespace Go.Pv
open Go.Proofs Go.Am
set_option maxRecDepth 10000
section
variable {H:Type} {enc:TypeId×Value→H} {w:World} {base:Nat} {held:Bool}
theorem reads_int:Reads enc Try.prog w base (fun _=>true) held 3 fun ps=>∃ n:Int,ps=[I n]∧(-9223372036854775808≤n∧n≤9223372036854775807) :=
  (Reads.int Try.underlying3).mono fun ps ⟨n,h,h1,h2⟩=>⟨n,h,Int.le_trans (by decide) h1,Int.le_trans h2 (by decide)⟩
theorem reads_span:Reads enc Try.prog w base (fun _=>true) held 46 fun ps=>∃ a b:Int,ps=[I a,I b] :=
  (Reads.struct (Qs:=[fun ps=>∃ n:Int,ps=[I n]∧_,fun ps=>∃ n:Int,ps=[I n]∧_]) Try.underlying46 (by kernel_rfl) ⟨reads_int,reads_int,trivial⟩).mono fun ps h=>by
    obtain ⟨_,_,rfl,⟨a,rfl,_⟩,_,_,rfl,⟨b,rfl,_⟩,rfl⟩:=h
    exact ⟨a,b,rfl⟩
theorem reads_job:Reads enc Try.prog w base (fun _=>true) held 48 fun ps=>∃ j:Job,ps=j.v.cells∧(-9223372036854775808≤j.af∧j.af≤9223372036854775807) :=
  (Reads.struct (Qs:=[fun ps=>∃ n:Int,ps=[I n]∧_,fun ps=>∃ a b:Int,ps=[I a,I b],fun ps=>∃ n:Int,ps=[I n]∧_,fun ps=>∃ n:Int,ps=[I n]∧_,fun ps=>∃ n:Int,ps=[I n]∧_,fun ps=>∃ n:Int,ps=[I n]∧_,fun ps=>∃ n:Int,ps=[I n]∧_]) Try.underlying48 (by kernel_rfl) ⟨reads_int,reads_span,reads_int,reads_int,reads_int,reads_int,reads_int,trivial⟩).mono fun ps h=>by
    obtain ⟨_,_,rfl,⟨a,rfl,_⟩,_,_,rfl,⟨b,c,rfl⟩,_,_,rfl,⟨d,rfl,_⟩,_,_,rfl,⟨e,rfl,_⟩,_,_,rfl,⟨f,rfl,_⟩,_,_,rfl,⟨g,rfl,_⟩,_,_,rfl,⟨h,rfl,hh⟩,rfl⟩:=h
    exact ⟨⟨a,b,c,d,e,f,g,h⟩,rfl,hh⟩
theorem cells_job:Try.prog.cellsOf 48=8:=by kernel_rfl
theorem cells_int:Try.prog.cellsOf 3=1:=by kernel_rfl
theorem cells_u8:Try.prog.cellsOf 5=1:=by kernel_rfl
theorem reads_jobs:Reads enc Try.prog w base (fun _=>true) held 23 fun ps=>∃ S:List Job,ps=[.sl .no (S.map Job.v)]∧∀ j∈S,-9223372036854775808≤j.af∧j.af≤9223372036854775807 :=
  (Reads.slice (Q:=fun j:Job=>-9223372036854775808≤j.af∧j.af≤9223372036854775807) (f:=Job.v) (fun _=>rfl) Try.underlying23 (by rw [cells_job];decide) (reads_job.mono fun ps ⟨s,h,h'⟩=>⟨s,h,by rw [cells_job];rfl,h'⟩)).mono fun ps ⟨S,h,_,h'⟩=>⟨S,h,h'⟩
theorem reads_ints:Reads enc Try.prog w base (fun _=>true) held 22 fun ps=>∃ S:List Int,ps=[.sl .no (S.map I)] :=
  (Reads.slice (Q:=fun _=>True) (f:=I) (fun _=>rfl) Try.underlying22 (by rw [cells_int];decide) (reads_int.mono fun ps ⟨s,h,_⟩=>⟨s,h,by rw [cells_int];rfl,trivial⟩)).mono fun ps ⟨S,h,_⟩=>⟨S,h⟩
theorem reads_mend:Reads enc Try.prog w base (fun _=>true) held 25 fun ps=>∃ s:Shp,s.i64∧ps=[.sl .no (s.su.map I),.sl .no (s.jo.map Job.v)] :=
  (Reads.struct (Qs:=[fun ps=>∃ S:List Int,ps=[.sl .no (S.map I)],fun ps=>∃ S:List Job,ps=[.sl .no (S.map Job.v)]∧_]) Try.underlying25 (by kernel_rfl) ⟨reads_ints,reads_jobs,trivial⟩).mono fun ps h=>by
    obtain ⟨_,_,rfl,⟨su,rfl⟩,_,_,rfl,⟨jo,rfl,hj⟩,rfl⟩:=h
    exact ⟨⟨su,jo⟩,fun i hi=>hj _ (List.getElem_mem hi),rfl⟩
theorem trod_mend {v:Value} {d:DataW H} {ps:List MemPlace} {r:Reach} {b:Nat} (hv:Value.okWide Try.prog w r b 25 v) (h:DataW.Trod enc Try.prog w base (fun _=>true) held 25 v d ps):∃ s:Shp,s.i64∧RV (St.froz w) (s.v .no .no) v:=by
  obtain ⟨l,h1,s,hi,rfl⟩:=trod_agg Try.underlying25 hv h reads_mend
  exact ⟨s,hi,h1⟩
theorem trod_bytes {v : Value} {d : DataW H} {ps : List MemPlace} {r : Reach} {b : Nat} (hv : Value.okWide Try.prog w r b 42 v) (h : DataW.Trod enc Try.prog w base (fun _ => true) held 42 v d ps) : ∃ xs : List Nat, (∀ x ∈ xs, x < 256) ∧ RV (St.froz w) (.sl .no (xs.map U8)) v := by
  obtain ⟨xs,h1,_,h3⟩:=trod_ints Try.underlying42 Try.underlying5 cells_u8 hv h
  have h4:∀ x∈xs,0≤x∧x≤255:=fun x hx=>⟨Int.le_trans (by decide) (h3 x hx).1,Int.le_trans (h3 x hx).2 (by decide)⟩
  refine ⟨xs.map Int.toNat,fun x hx=>?_,?_⟩
  · obtain ⟨y, hy, rfl⟩ := List.mem_map.1 hx
    have:=h4 y hy;omega
  · have e : (xs.map Int.toNat).map U8 = xs.map fun n => .lit (.int .u8 n) := by
      rw [List.map_map]
      exact List.map_congr_left fun x hx=>by
        have:=h4 x hx
        show PV.lit (.int .u8 ((x.toNat:Nat):Int))=_
        rw [Int.toNat_of_nonneg this.1]
    rw [e]
    exact h1
end
end Go.Pv
