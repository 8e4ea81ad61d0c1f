/- Parts of the proof: S34, S35, S36, S37, S38, S39 -/
import Derived.Test.YtkabfhoicdeehaaGreatP23
set_option linter.unusedVariables false
set_option linter.unusedSimpArgs false
set_option linter.unusedSectionVars false
namespace Go.Pv
open Go.Proofs Go.Am
set_option maxRecDepth 10000
theorem f52l (tl:Tail) (htl:tl.isOwn=false) (LL:List (Tail×List Rpt)) (hLt:∀ p∈LL,p.1.isOwn=false) (hLL:LL.length≤100) (hb:(cat LL).length≤1000) (hok:∀ r∈cat LL,r.ok=true):PCall P0 52 [.sl tl (LL.map slR)] (HE 0 []) (fun v h'=>∃ m,0 < m∧v=.mp 0∧h'=HE m [(0,some (mapB (stdM (cat LL))))]) fun _ _=>False:=by
  obtain ⟨t3,ht3,hcc⟩:=f93 tl LL hLL hb
  have hbc:PV.bds 0 [.sl tl (LL.map slR)]=true:=by
    refine bds_cons ?_ rfl
    have:∀ l:List (Tail×List Rpt),(∀ p∈l,p.1.isOwn=false)→PV.bds 0 (l.map slR)=true:=fun l=>by
      induction l with
      | nil=>intro _;rfl
      | cons p l ih=>intro h;exact bds_cons (bd_sl (f:=Rpt.v) (h p (by simp)) (fun _=>rfl) _) (ih fun q hq=>h q (List.mem_cons_of_mem _ hq))
    have h1:=this LL hLt
    cases tl<;>first | (simp only [PV.bd];exact h1) | cases htl | (simp [PV.bd,h1])
  have hstep:∀ i,i < (cat LL).length→stdM ((cat LL).take (i+1))=stepR (stdM ((cat LL).take i)) (atR (cat LL) i).own:=fun i h=>by
    rw [List.take_succ_eq_append_getElem h,stdM_snoc,atR_get h]
  have hat:∀ i (h:i < (cat LL).length),(cat LL)[i]=atR (cat LL) i:=fun i h=>(atR_get h).symm
  have hoki:∀ i,i < (cat LL).length→0≤(atR (cat LL) i).ki∧(atR (cat LL) i).ki≤2:=fun i h=>by
    rw [atR_get h];exact Rpt.ok_ki (hok _ (List.getElem_mem h))
  generalize cat LL=L at *
  refine PCall.ofH (C:=c52) (cx_ok _ _ _) rfl (fn:=Tryz.f52) (by kernel_rfl) (c:=_) rfl rfl rfl (fun hok=>?_)
  refine Run.seq (Run.region (cx_ok _ _ _) (Reg.op rfl (Ope.asg rfl ?_)))
  refine Reg.nil (Run.seq (Run.region (cx_ok _ _ _) (Reg.op rfl (Ope.mmap ?_))))
  refine Reg.op rfl (Ope.asg rfl ?_)
  refine Reg.nil (Run.seq (Run.seq (Run.region (cx_ok _ _ _) (Reg.op rfl (Ope.mov rfl ?_)))))
  refine Reg.op rfl (Ope.cf rfl rfl hcc hbc ?_)
  refine Reg.op rfl (Ope.len (m:=L.length) rfl (by simp) ?_)
  refine Reg.op rfl (Ope.mov rfl ?_)
  refine Reg.nil (Run.block (Run.loop (α:=Nat×Nat) (fun t=>[(3,.mp 0),(10,.sl t3 (L.map Rpt.v)),(11,I L.length),(12,I t.1)]) (fun t=>HE t.2 [(0,some (mapB (stdM (L.take t.1))))]) (fun t=>t.1≤L.length∧0 < t.2) (fun t=>L.length - t.1) (0,1) ⟨rfl,rfl,rfl,rfl,trivial⟩ rfl ⟨Nat.zero_le _,Nat.lt_succ_self _⟩ (fun t ht=>?_)))
  obtain ⟨i,m⟩:=t
  obtain ⟨hi,hm⟩:=ht
  simp only at hi hm
  show Run _ _ _ _ [(3,.mp 0),(10,.sl t3 (L.map Rpt.v)),(11,I L.length),(12,I i)] [] (HE m [(0,some (mapB (stdM (L.take i))))])
  cases hgq:getR (stdM (L.take i)) (atR L i).own.id with | none=>?_ | some o=>?_
  ·refine Run.seq (Run.region (cx_ok _ _ _) (Reg.op rfl (Ope.lt rfl rfl ?_)))
   refine Reg.nil (Run.seq (Run.condX rfl (fun hc=>?_) fun hc=>?_))
   ·refine Run.skip (Run.seq (Run.block (Run.seq ?_)))
    have hlt:i < L.length:=by omega
    have hsi:=hstep i hlt
    have hai:=hat i hlt
    obtain ⟨hk0,hk2⟩:=hoki i hlt
    have hgt:=toR_get (atR L i).own.id (stdM (L.take i))
    refine Run.region (cx_ok _ _ _) (Reg.op rfl (Ope.idxM (m:=i) (f:=Rpt.v) rfl rfl rfl hlt (fun _=>rfl) ?_))
    rw [hai]
    generalize atR L i=r at *
    generalize hM:stdM (L.take i)=M at *
    refine Reg.op rfl (Ope.load rfl rfl ?_)
    refine Reg.op rfl (Ope.newL rfl ?_)
    refine Reg.op0 (Ope.store rfl rfl hget_hd rfl rfl rfl ?_)
    refine Reg.nil (Run.seq (Run.wide (m:=m+1) (l':=[(m,some (.cells r.v.cells)),(0,some (mapB M))]) (Nat.le_refl _) ⟨hget_hd,by repeat (first | rfl | exact hget_hd | refine (hget_tl (by omega)).trans ?_),trivial⟩ ?_))
    refine Run.drawS (cx_ok _ _ _) (fun h'=>h'.get m=some (.cells r.v.cells)) [(0,true,false),(3,false,false),(1,true,true),(2,true,false),(4,true,false),(5,true,false)] (by kernel_rfl) (DraS.opQ rfl rfl rfl (Ope.loadH rfl hget_hd rfl ?_))
    refine DraS.opR rfl rfl rfl hget_hd (StabS.at rfl) (Ope.loadH rfl hget_hd rfl ?_)
    refine DraS.opS rfl rfl rfl (Ope.cf rfl rfl (f94 r hk0 hk2) rfl ?_)
    refine ⟨hget_hd,?_⟩
    refine DraS.opQ rfl rfl rfl (Ope.field rfl rfl ?_)
    refine DraS.opQ rfl rfl rfl (Ope.cf rfl rfl (fKOwn r) rfl ?_)
    refine DraS.opQ rfl rfl rfl (Ope.store rfl rfl hget_hd rfl rfl rfl ?_)
    refine DraS.nil (Run.seq (Run.frz (d:=5) true rfl hget_hd rfl ?_))
    refine Run.wide (m:=m+1) (l':=[(0,some (mapB M))]) (Nat.le_refl _) ⟨by repeat (first | rfl | exact hget_hd | refine (hget_tl (by omega)).trans ?_),trivial⟩ ?_
    refine Run.region (cx_ok _ _ _) (Reg.op rfl (Ope.mov rfl ?_))
    refine Reg.op rfl (Ope.fld rfl rfl ?_)
    refine Reg.op rfl (Ope.load rfl rfl ?_)
    refine Reg.op rfl (Ope.lookI (M:=toR M) und_int rfl rfl hget_hd ?_)
    rw [hgt,hgq]
    refine Reg.op rfl (Ope.mov rfl ?_)
    refine Reg.op rfl (Ope.ext rfl rfl ?_)
    refine Reg.op rfl (Ope.ext rfl rfl ?_)
    refine Reg.op rfl (Ope.newL rfl ?_)
    refine Reg.op0 (Ope.store rfl rfl hget_hd rfl rfl rfl ?_)
    refine Reg.op rfl (Ope.asg rfl ?_)
    refine Reg.nil (Run.seq (Run.frz (d:=6) true rfl hget_hd rfl ?_))
    refine Run.wide (m:=m+2) (l':=[(0,some (mapB M))]) (Nat.le_refl _) ⟨by repeat (first | rfl | exact hget_hd | refine (hget_tl (by omega)).trans ?_),trivial⟩ ?_
    refine Run.region (cx_ok _ _ _) (Reg.op rfl (Ope.mov rfl ?_))
    refine Reg.op rfl (Ope.not rfl ?_)
    refine Reg.op rfl (Ope.mov rfl ?_)
    refine Reg.splitX rfl rfl (fun hg=>?_) fun hg=>?_
    ·first
     |(simp at hg;done)
     |refine Reg.off rfl rfl rfl (Reg.off rfl rfl rfl (Reg.off rfl rfl rfl (Reg.off rfl rfl rfl (Reg.op rfl (Ope.pickT rfl rfl ?_)))))
      refine Reg.nil (Run.condT rfl (Run.region (cx_ok _ _ _) (Reg.op rfl (Ope.mov rfl ?_))))
      refine Reg.op rfl (Ope.fld rfl rfl ?_)
      refine Reg.op rfl (Ope.load rfl rfl ?_)
      refine Reg.op rfl (Ope.load rfl rfl ?_)
      refine Reg.op0 (Ope.msetI (M:=toR M) und_int rfl rfl rfl hget_hd ?_)
      refine Reg.nil (Run.bend ?_)
      first
      | (have hs2 : stepR M r.own = updR M r.own := by simp only [stepR, hgq]
         rw [hs2] at hsi
         refine Run.wide (m:=m+2) (l':=[(0,some (mapB (updR M r.own)))]) (Nat.le_refl _) ⟨by unfold mapB;rw [toR_set];exact hget_hd,trivial⟩ ?_
         rw [← hsi])
      | (have hs2 : stepR M r.own = if 0 < cmpR r.own o then updR M r.own else M := by simp only [stepR, hgq]
         rw [if_pos (by omega)] at hs2
         rw [hs2] at hsi
         refine Run.wide (m:=m+2) (l':=[(0,some (mapB (updR M r.own)))]) (Nat.le_refl _) ⟨by unfold mapB;rw [toR_set];exact hget_hd,trivial⟩ ?_
         rw [← hsi])
      | (have hs2 : stepR M r.own = if 0 < cmpR r.own o then updR M r.own else M := by simp only [stepR, hgq]
         rw [if_neg (by omega)] at hs2
         rw [hs2] at hsi
         rw [← hsi])
      refine Run.region (cx_ok _ _ _) (Reg.op rfl (Ope.add rfl rfl (by omega) ?_))
      refine Reg.op rfl (Ope.mov rfl ?_)
      exact Reg.nil (Run.lend ⟨(i+1,m+2),by show L.length - (i+1) < L.length - i;omega,⟨by show i+1≤L.length;omega,by show 0 < m+2;omega⟩,⟨rfl,rfl,rfl,rfl,trivial⟩,rfl,rfl⟩)
    ·first
     |(simp at hg;done)
     |refine Reg.on rfl rfl rfl (Ope.load rfl rfl ?_)
      refine Reg.on rfl rfl rfl (Ope.load rfl rfl ?_)
      refine Reg.on rfl rfl rfl (Ope.cf rfl rfl (f95 r.own o) rfl ?_)
      refine Reg.on rfl rfl rfl (Ope.gt rfl rfl ?_)
      refine Reg.op rfl (Ope.pickF rfl rfl ?_)
      refine Reg.nil (Run.condX rfl (fun hc=>?_) fun hc=>?_)
      ·refine Run.region (cx_ok _ _ _) (Reg.op rfl (Ope.mov rfl ?_))
       refine Reg.op rfl (Ope.fld rfl rfl ?_)
       refine Reg.op rfl (Ope.load rfl rfl ?_)
       refine Reg.op rfl (Ope.load rfl rfl ?_)
       refine Reg.op0 (Ope.msetI (M:=toR M) und_int rfl rfl rfl hget_hd ?_)
       refine Reg.nil (Run.bend ?_)
       first
       | (have hs2 : stepR M r.own = updR M r.own := by simp only [stepR, hgq]
          rw [hs2] at hsi
          refine Run.wide (m:=m+2) (l':=[(0,some (mapB (updR M r.own)))]) (Nat.le_refl _) ⟨by unfold mapB;rw [toR_set];exact hget_hd,trivial⟩ ?_
          rw [← hsi])
       | (have hs2 : stepR M r.own = if 0 < cmpR r.own o then updR M r.own else M := by simp only [stepR, hgq]
          rw [if_pos (by omega)] at hs2
          rw [hs2] at hsi
          refine Run.wide (m:=m+2) (l':=[(0,some (mapB (updR M r.own)))]) (Nat.le_refl _) ⟨by unfold mapB;rw [toR_set];exact hget_hd,trivial⟩ ?_
          rw [← hsi])
       | (have hs2 : stepR M r.own = if 0 < cmpR r.own o then updR M r.own else M := by simp only [stepR, hgq]
          rw [if_neg (by omega)] at hs2
          rw [hs2] at hsi
          rw [← hsi])
       refine Run.region (cx_ok _ _ _) (Reg.op rfl (Ope.add rfl rfl (by omega) ?_))
       refine Reg.op rfl (Ope.mov rfl ?_)
       exact Reg.nil (Run.lend ⟨(i+1,m+2),by show L.length - (i+1) < L.length - i;omega,⟨by show i+1≤L.length;omega,by show 0 < m+2;omega⟩,⟨rfl,rfl,rfl,rfl,trivial⟩,rfl,rfl⟩)
      ·refine Run.skip (Run.bend ?_)
       first
       | (have hs2 : stepR M r.own = updR M r.own := by simp only [stepR, hgq]
          rw [hs2] at hsi
          refine Run.wide (m:=m+2) (l':=[(0,some (mapB (updR M r.own)))]) (Nat.le_refl _) ⟨by unfold mapB;rw [toR_set];exact hget_hd,trivial⟩ ?_
          rw [← hsi])
       | (have hs2 : stepR M r.own = if 0 < cmpR r.own o then updR M r.own else M := by simp only [stepR, hgq]
          rw [if_pos (by omega)] at hs2
          rw [hs2] at hsi
          refine Run.wide (m:=m+2) (l':=[(0,some (mapB (updR M r.own)))]) (Nat.le_refl _) ⟨by unfold mapB;rw [toR_set];exact hget_hd,trivial⟩ ?_
          rw [← hsi])
       | (have hs2 : stepR M r.own = if 0 < cmpR r.own o then updR M r.own else M := by simp only [stepR, hgq]
          rw [if_neg (by omega)] at hs2
          rw [hs2] at hsi
          rw [← hsi])
       refine Run.region (cx_ok _ _ _) (Reg.op rfl (Ope.add rfl rfl (by omega) ?_))
       refine Reg.op rfl (Ope.mov rfl ?_)
       exact Reg.nil (Run.lend ⟨(i+1,m+2),by show L.length - (i+1) < L.length - i;omega,⟨by show i+1≤L.length;omega,by show 0 < m+2;omega⟩,⟨rfl,rfl,rfl,rfl,trivial⟩,rfl,rfl⟩)
   ·refine Run.exit (Jmp.code (Jmp.round (Jmp.here (Run.seq ?_))))
    obtain rfl:i=L.length:=by omega
    rw [List.take_length] at *
    refine Run.region (cx_ok _ _ _) (Reg.op rfl (Ope.mov rfl ?_))
    refine Reg.op rfl (Ope.asg rfl ?_)
    exact Reg.nil (Run.ret (finH_ret (.tmp rfl .nil) (Nat.le_refl _) (fun _ _ h=>h) ⟨m,hm,rfl,rfl⟩))
  ·refine Run.seq (Run.region (cx_ok _ _ _) (Reg.op rfl (Ope.lt rfl rfl ?_)))
   refine Reg.nil (Run.seq (Run.condX rfl (fun hc=>?_) fun hc=>?_))
   ·refine Run.skip (Run.seq (Run.block (Run.seq ?_)))
    have hlt:i < L.length:=by omega
    have hsi:=hstep i hlt
    have hai:=hat i hlt
    obtain ⟨hk0,hk2⟩:=hoki i hlt
    have hgt:=toR_get (atR L i).own.id (stdM (L.take i))
    refine Run.region (cx_ok _ _ _) (Reg.op rfl (Ope.idxM (m:=i) (f:=Rpt.v) rfl rfl rfl hlt (fun _=>rfl) ?_))
    rw [hai]
    generalize atR L i=r at *
    generalize hM:stdM (L.take i)=M at *
    refine Reg.op rfl (Ope.load rfl rfl ?_)
    refine Reg.op rfl (Ope.newL rfl ?_)
    refine Reg.op0 (Ope.store rfl rfl hget_hd rfl rfl rfl ?_)
    refine Reg.nil (Run.seq (Run.wide (m:=m+1) (l':=[(m,some (.cells r.v.cells)),(0,some (mapB M))]) (Nat.le_refl _) ⟨hget_hd,by repeat (first | rfl | exact hget_hd | refine (hget_tl (by omega)).trans ?_),trivial⟩ ?_))
    refine Run.drawS (cx_ok _ _ _) (fun h'=>h'.get m=some (.cells r.v.cells)) [(0,true,false),(3,false,false),(1,true,true),(2,true,false),(4,true,false),(5,true,false)] (by kernel_rfl) (DraS.opQ rfl rfl rfl (Ope.loadH rfl hget_hd rfl ?_))
    refine DraS.opR rfl rfl rfl hget_hd (StabS.at rfl) (Ope.loadH rfl hget_hd rfl ?_)
    refine DraS.opS rfl rfl rfl (Ope.cf rfl rfl (f94 r hk0 hk2) rfl ?_)
    refine ⟨hget_hd,?_⟩
    refine DraS.opQ rfl rfl rfl (Ope.field rfl rfl ?_)
    refine DraS.opQ rfl rfl rfl (Ope.cf rfl rfl (fKOwn r) rfl ?_)
    refine DraS.opQ rfl rfl rfl (Ope.store rfl rfl hget_hd rfl rfl rfl ?_)
    refine DraS.nil (Run.seq (Run.frz (d:=5) true rfl hget_hd rfl ?_))
    refine Run.wide (m:=m+1) (l':=[(0,some (mapB M))]) (Nat.le_refl _) ⟨by repeat (first | rfl | exact hget_hd | refine (hget_tl (by omega)).trans ?_),trivial⟩ ?_
    refine Run.region (cx_ok _ _ _) (Reg.op rfl (Ope.mov rfl ?_))
    refine Reg.op rfl (Ope.fld rfl rfl ?_)
    refine Reg.op rfl (Ope.load rfl rfl ?_)
    refine Reg.op rfl (Ope.lookI (M:=toR M) und_int rfl rfl hget_hd ?_)
    rw [hgt,hgq]
    refine Reg.op rfl (Ope.mov rfl ?_)
    refine Reg.op rfl (Ope.ext rfl rfl ?_)
    refine Reg.op rfl (Ope.ext rfl rfl ?_)
    refine Reg.op rfl (Ope.newL rfl ?_)
    refine Reg.op0 (Ope.store rfl rfl hget_hd rfl rfl rfl ?_)
    refine Reg.op rfl (Ope.asg rfl ?_)
    refine Reg.nil (Run.seq (Run.frz (d:=6) true rfl hget_hd rfl ?_))
    refine Run.wide (m:=m+2) (l':=[(0,some (mapB M))]) (Nat.le_refl _) ⟨by repeat (first | rfl | exact hget_hd | refine (hget_tl (by omega)).trans ?_),trivial⟩ ?_
    refine Run.region (cx_ok _ _ _) (Reg.op rfl (Ope.mov rfl ?_))
    refine Reg.op rfl (Ope.not rfl ?_)
    refine Reg.op rfl (Ope.mov rfl ?_)
    refine Reg.splitX rfl rfl (fun hg=>?_) fun hg=>?_
    ·first
     |(simp at hg;done)
     |refine Reg.off rfl rfl rfl (Reg.off rfl rfl rfl (Reg.off rfl rfl rfl (Reg.off rfl rfl rfl (Reg.op rfl (Ope.pickT rfl rfl ?_)))))
      refine Reg.nil (Run.condT rfl (Run.region (cx_ok _ _ _) (Reg.op rfl (Ope.mov rfl ?_))))
      refine Reg.op rfl (Ope.fld rfl rfl ?_)
      refine Reg.op rfl (Ope.load rfl rfl ?_)
      refine Reg.op rfl (Ope.load rfl rfl ?_)
      refine Reg.op0 (Ope.msetI (M:=toR M) und_int rfl rfl rfl hget_hd ?_)
      refine Reg.nil (Run.bend ?_)
      first
      | (have hs2 : stepR M r.own = updR M r.own := by simp only [stepR, hgq]
         rw [hs2] at hsi
         refine Run.wide (m:=m+2) (l':=[(0,some (mapB (updR M r.own)))]) (Nat.le_refl _) ⟨by unfold mapB;rw [toR_set];exact hget_hd,trivial⟩ ?_
         rw [← hsi])
      | (have hs2 : stepR M r.own = if 0 < cmpR r.own o then updR M r.own else M := by simp only [stepR, hgq]
         rw [if_pos (by omega)] at hs2
         rw [hs2] at hsi
         refine Run.wide (m:=m+2) (l':=[(0,some (mapB (updR M r.own)))]) (Nat.le_refl _) ⟨by unfold mapB;rw [toR_set];exact hget_hd,trivial⟩ ?_
         rw [← hsi])
      | (have hs2 : stepR M r.own = if 0 < cmpR r.own o then updR M r.own else M := by simp only [stepR, hgq]
         rw [if_neg (by omega)] at hs2
         rw [hs2] at hsi
         rw [← hsi])
      refine Run.region (cx_ok _ _ _) (Reg.op rfl (Ope.add rfl rfl (by omega) ?_))
      refine Reg.op rfl (Ope.mov rfl ?_)
      exact Reg.nil (Run.lend ⟨(i+1,m+2),by show L.length - (i+1) < L.length - i;omega,⟨by show i+1≤L.length;omega,by show 0 < m+2;omega⟩,⟨rfl,rfl,rfl,rfl,trivial⟩,rfl,rfl⟩)
    ·first
     |(simp at hg;done)
     |refine Reg.on rfl rfl rfl (Ope.load rfl rfl ?_)
      refine Reg.on rfl rfl rfl (Ope.load rfl rfl ?_)
      refine Reg.on rfl rfl rfl (Ope.cf rfl rfl (f95 r.own o) rfl ?_)
      refine Reg.on rfl rfl rfl (Ope.gt rfl rfl ?_)
      refine Reg.op rfl (Ope.pickF rfl rfl ?_)
      refine Reg.nil (Run.condX rfl (fun hc=>?_) fun hc=>?_)
      ·refine Run.region (cx_ok _ _ _) (Reg.op rfl (Ope.mov rfl ?_))
       refine Reg.op rfl (Ope.fld rfl rfl ?_)
       refine Reg.op rfl (Ope.load rfl rfl ?_)
       refine Reg.op rfl (Ope.load rfl rfl ?_)
       refine Reg.op0 (Ope.msetI (M:=toR M) und_int rfl rfl rfl hget_hd ?_)
       refine Reg.nil (Run.bend ?_)
       first
       | (have hs2 : stepR M r.own = updR M r.own := by simp only [stepR, hgq]
          rw [hs2] at hsi
          refine Run.wide (m:=m+2) (l':=[(0,some (mapB (updR M r.own)))]) (Nat.le_refl _) ⟨by unfold mapB;rw [toR_set];exact hget_hd,trivial⟩ ?_
          rw [← hsi])
       | (have hs2 : stepR M r.own = if 0 < cmpR r.own o then updR M r.own else M := by simp only [stepR, hgq]
          rw [if_pos (by omega)] at hs2
          rw [hs2] at hsi
          refine Run.wide (m:=m+2) (l':=[(0,some (mapB (updR M r.own)))]) (Nat.le_refl _) ⟨by unfold mapB;rw [toR_set];exact hget_hd,trivial⟩ ?_
          rw [← hsi])
       | (have hs2 : stepR M r.own = if 0 < cmpR r.own o then updR M r.own else M := by simp only [stepR, hgq]
          rw [if_neg (by omega)] at hs2
          rw [hs2] at hsi
          rw [← hsi])
       refine Run.region (cx_ok _ _ _) (Reg.op rfl (Ope.add rfl rfl (by omega) ?_))
       refine Reg.op rfl (Ope.mov rfl ?_)
       exact Reg.nil (Run.lend ⟨(i+1,m+2),by show L.length - (i+1) < L.length - i;omega,⟨by show i+1≤L.length;omega,by show 0 < m+2;omega⟩,⟨rfl,rfl,rfl,rfl,trivial⟩,rfl,rfl⟩)
      ·refine Run.skip (Run.bend ?_)
       first
       | (have hs2 : stepR M r.own = updR M r.own := by simp only [stepR, hgq]
          rw [hs2] at hsi
          refine Run.wide (m:=m+2) (l':=[(0,some (mapB (updR M r.own)))]) (Nat.le_refl _) ⟨by unfold mapB;rw [toR_set];exact hget_hd,trivial⟩ ?_
          rw [← hsi])
       | (have hs2 : stepR M r.own = if 0 < cmpR r.own o then updR M r.own else M := by simp only [stepR, hgq]
          rw [if_pos (by omega)] at hs2
          rw [hs2] at hsi
          refine Run.wide (m:=m+2) (l':=[(0,some (mapB (updR M r.own)))]) (Nat.le_refl _) ⟨by unfold mapB;rw [toR_set];exact hget_hd,trivial⟩ ?_
          rw [← hsi])
       | (have hs2 : stepR M r.own = if 0 < cmpR r.own o then updR M r.own else M := by simp only [stepR, hgq]
          rw [if_neg (by omega)] at hs2
          rw [hs2] at hsi
          rw [← hsi])
       refine Run.region (cx_ok _ _ _) (Reg.op rfl (Ope.add rfl rfl (by omega) ?_))
       refine Reg.op rfl (Ope.mov rfl ?_)
       exact Reg.nil (Run.lend ⟨(i+1,m+2),by show L.length - (i+1) < L.length - i;omega,⟨by show i+1≤L.length;omega,by show 0 < m+2;omega⟩,⟨rfl,rfl,rfl,rfl,trivial⟩,rfl,rfl⟩)
   ·refine Run.exit (Jmp.code (Jmp.round (Jmp.here (Run.seq ?_))))
    obtain rfl:i=L.length:=by omega
    rw [List.take_length] at *
    refine Run.region (cx_ok _ _ _) (Reg.op rfl (Ope.mov rfl ?_))
    refine Reg.op rfl (Ope.asg rfl ?_)
    exact Reg.nil (Run.ret (finH_ret (.tmp rfl .nil) (Nat.le_refl _) (fun _ _ h=>h) ⟨m,hm,rfl,rfl⟩))
def bnd2 (x k:Option Bool):Option Bool :=
  match x with
  | some true=>k
  | some false=>some false
  | none=>none
theorem bnd2_some (a b:Bool):bnd2 (some a) (some b)=some (a && b):=by cases a<;>rfl
def Rpt.k (r:Rpt):AV:=.agg [.int .i64 r.id,.int .i64 r.ve,.int .i64 r.ki,.int .i64 r.a,.int .i64 r.b,.int .i64 r.c,.int .i64 r.d,.int .i64 r.pr]
theorem rpSu:(match A0.under 44 with | some (.struct _)=>true | _=>false)=true:=by kernel_rfl
theorem rpSe:E0.eqs.get 44=some ():=by kernel_rfl
theorem rpSv (r s:Rpt):aeqv A0 E0 20 44 r.k s.k =
    bnd2 (some (r.id == s.id)) (bnd2 (some (r.ve == s.ve)) (bnd2 (some (r.ki == s.ki)) (bnd2 (bnd2 (some (r.a == s.a)) (bnd2 (some (r.b == s.b)) (some true))) (bnd2 (bnd2 (some (r.c == s.c)) (bnd2 (some (r.d == s.d)) (some true))) (bnd2 (some (r.pr == s.pr)) (some true)))))):=by kernel_rfl
theorem rp_dec (r s:Rpt):(r.id == s.id && (r.ve == s.ve && (r.ki == s.ki && ((r.a == s.a && (r.b == s.b && true)) && ((r.c == s.c && (r.d == s.d && true)) && (r.pr == s.pr && true))))))=decide (r=s):=by
  obtain ⟨r1,r2,r3,r4,r5,r6,r7,r8⟩:=r
  obtain ⟨s1,s2,s3,s4,s5,s6,s7,s8⟩:=s
  rw [Bool.eq_iff_iff]
  simp only [Bool.and_eq_true,beq_iff_eq,decide_eq_true_eq,Rpt.mk.injEq,and_true,and_assoc]
theorem eqRp (xo yo:Operand) (r s:Rpt):pbin A0 E0 .eql 44 xo yo r.v s.v=some (B (decide (r=s))):=by
  have hn:pnil A0 44 r.v s.v=none:=by
    have h:=rpSu
    unfold pnil
    cases hu:A0.under 44 with
    | none=>rfl
    | some d =>
      rw [hu] at h
      cases d<;>first | rfl | (exact absurd h (by decide))
  have hv:=rpSv r s
  simp only [bnd2_some] at hv
  rw [rp_dec] at hv
  have e1:PV.toAV r.v=some r.k:=rfl
  have e2:PV.toAV s.v=some s.k:=rfl
  have e3:bothNil r.k s.k=false:=rfl
  simp only [pbin,hn,e1,e2,e3,abin,aequal]
  show plit _=_
  unfold Rpt.k at hv ⊢
  simp only [rpSe,hv]
  rfl
theorem f58 (D:List Rpt) (hn:(D.map Rpt.id).Nodup) (r:Rpt):Fn P0 58 [fmR D,I r.id,r.v] (B (decide (getR D r.id=some r))):=by
  have hgt:=toR_get r.id D
  have hnd:((toR D).map (·.1)).Nodup:=by unfold toR;rw [List.map_map];exact hn
  have hfm:=(toR_fm D).symm
  cases hg:getR D r.id with
  | none =>
    rw [decide_eq_false (by simp)]
    refine PFun.of (C:=c58) (cx_ok _ _ _) rfl (fn:=Tryz.f58) (by kernel_rfl) (c:=_) rfl rfl rfl ?_
    refine Run.seq (Run.region (cx_ok _ _ _) (Reg.op rfl (Ope.boxF rfl rfl ?_)))
    refine Reg.op rfl (Ope.asg rfl ?_)
    refine Reg.nil (Run.seq (Run.region (cx_ok _ _ _) (Reg.op rfl (Ope.mov rfl ?_))))
    refine Reg.op rfl (Ope.mov rfl ?_)
    refine Reg.op rfl (Ope.lookFI (M:=toR D) und_int hnd (congrArg some hfm) rfl ?_)
    rw [hgt,hg]
    refine Reg.op rfl (Ope.mov rfl ?_)
    refine Reg.op rfl (Ope.ext rfl rfl ?_)
    refine Reg.op rfl (Ope.ext rfl rfl ?_)
    refine Reg.op rfl (Ope.newL rfl ?_)
    refine Reg.op0 (Ope.store rfl rfl hget_hd rfl rfl rfl ?_)
    refine Reg.op rfl (Ope.asg rfl ?_)
    refine Reg.nil (Run.seq (Run.frz (d:=7) true rfl hget_hd rfl ?_))
    refine Run.region (cx_ok _ _ _) (Reg.op rfl (Ope.mov rfl ?_))
    refine Reg.op rfl (Ope.mov rfl ?_)
    refine Reg.off rfl rfl rfl (Reg.off rfl rfl rfl (Reg.off rfl rfl rfl (Reg.op rfl (Ope.pickF rfl rfl ?_))))
    refine Reg.op rfl (Ope.asg rfl ?_)
    exact Reg.nil (Run.ret (fin_ret (.tmp rfl .nil) rfl rfl))
  | some o =>
    have e:decide (some o=some r)=decide (o=r):=decide_eq_decide.2 (by simp)
    rw [e]
    refine PFun.of (C:=c58) (cx_ok _ _ _) rfl (fn:=Tryz.f58) (by kernel_rfl) (c:=_) rfl rfl rfl ?_
    refine Run.seq (Run.region (cx_ok _ _ _) (Reg.op rfl (Ope.boxF rfl rfl ?_)))
    refine Reg.op rfl (Ope.asg rfl ?_)
    refine Reg.nil (Run.seq (Run.region (cx_ok _ _ _) (Reg.op rfl (Ope.mov rfl ?_))))
    refine Reg.op rfl (Ope.mov rfl ?_)
    refine Reg.op rfl (Ope.lookFI (M:=toR D) und_int hnd (congrArg some hfm) rfl ?_)
    rw [hgt,hg]
    refine Reg.op rfl (Ope.mov rfl ?_)
    refine Reg.op rfl (Ope.ext rfl rfl ?_)
    refine Reg.op rfl (Ope.ext rfl rfl ?_)
    refine Reg.op rfl (Ope.newL rfl ?_)
    refine Reg.op0 (Ope.store rfl rfl hget_hd rfl rfl rfl ?_)
    refine Reg.op rfl (Ope.asg rfl ?_)
    refine Reg.nil (Run.seq (Run.frz (d:=7) true rfl hget_hd rfl ?_))
    refine Run.region (cx_ok _ _ _) (Reg.op rfl (Ope.mov rfl ?_))
    refine Reg.op rfl (Ope.mov rfl ?_)
    refine Reg.on rfl rfl rfl (Ope.load rfl rfl ?_)
    refine Reg.on rfl rfl rfl (Ope.load rfl rfl ?_)
    refine Reg.on rfl rfl rfl (Ope.eqV rfl rfl (eqRp _ _ o r) ?_)
    refine Reg.op rfl (Ope.pickT rfl rfl ?_)
    refine Reg.op rfl (Ope.asg rfl ?_)
    exact Reg.nil (Run.ret (fin_ret (.tmp rfl .nil) rfl rfl))
end Go.Pv
namespace Go.Pv
open Go.Proofs Go.Am
set_option maxRecDepth 10000
def brn:Nat→List Rpt→List (Rpt×Nat)
  | _,[]=>[]
  | b,r::M=>(r,b)::brn (b+1) M
def toE (X:List (Rpt×Nat)):List (Int×PV×Nat):=X.map fun p=>(p.1.id,p.1.v,p.2)
theorem esI_brn:∀ (b:Nat) (M:List Rpt),esI b (toR M)=esL (toE (brn b M))
  | b,[]=>rfl
  | b, r :: M => by
    have ih:=esI_brn (b+1) M
    simp only [toR,List.map_cons,esI,brn,toE,esL] at ih ⊢
    rw [ih]
theorem brn_fst:∀ (b:Nat) (M:List Rpt),(brn b M).map (·.1)=M
  | b,[]=>rfl
  | b,r::M=>by simp only [brn,List.map_cons,brn_fst (b+1) M]
theorem brn_rng:∀ (b:Nat) (M:List Rpt),∀ p∈brn b M,b≤p.2∧p.2 < b+M.length
  | b,[],p,h=>by cases h
  | b, r :: M, p, h => by
    rcases List.mem_cons.1 h with rfl | h
    · exact ⟨Nat.le_refl _,by simp⟩
    · have := brn_rng (b + 1) M p h
      simp only [List.length_cons];omega
theorem brn_nodup:∀ (b:Nat) (M:List Rpt),((brn b M).map (·.2)).Nodup
  | b,[]=>List.nodup_nil
  | b, r :: M => by
    simp only [brn,List.map_cons,List.nodup_cons]
    refine ⟨fun h=>?_,brn_nodup (b+1) M⟩
    obtain ⟨p,hp,e⟩:=List.mem_map.1 h
    have:=(brn_rng (b+1) M p hp).1
    omega
def lftR (del:Rpt→Bool) (X:List (Rpt×Nat)) (seen:List Nat):List (Rpt×Nat):=X.filter fun p=>!(del p.1 && decide (p.2∈seen))
theorem inj_of {α β:Type} {f:α→β}:∀ {X:List α},(X.map f).Nodup→∀ {p q:α},p∈X→q∈X→f p=f q→p=q
  | x :: X, hn, p, q, hp, hq, e => by
    simp only [List.map_cons,List.nodup_cons] at hn
    rcases List.mem_cons.1 hp with h1 | h1
    · rcases List.mem_cons.1 hq with h2 | h2
      · rw [h1,h2]
      · exact absurd (by rw [← h1,e];exact List.mem_map_of_mem h2) hn.1
    · rcases List.mem_cons.1 hq with h2 | h2
      · exact absurd (by rw [← h2,← e];exact List.mem_map_of_mem h1) hn.1
      · exact inj_of hn.2 h1 h2 e
theorem lft_keep {del:Rpt→Bool} {X:List (Rpt×Nat)} (hn:(X.map (·.2)).Nodup) {seen:List Nat} {p:Rpt×Nat} (hp:p∈X) (h:del p.1=false):lftR del X (seen++[p.2])=lftR del X seen:=by
  unfold lftR
  refine List.filter_congr fun q hq=>?_
  by_cases e:q.2=p.2
  · have := inj_of hn hq hp e
    subst this
    simp [h]
  · simp [e]
theorem lft_del {del:Rpt→Bool} {X:List (Rpt×Nat)} (hn:(X.map (·.2)).Nodup) (hi:(X.map fun p=>p.1.id).Nodup) {seen:List Nat} {p:Rpt×Nat} (hp:p∈X) (h:del p.1=true):(toE (lftR del X seen)).filter (fun q=>decide (q.1≠p.1.id))=toE (lftR del X (seen++[p.2])):=by
  unfold toE lftR
  rw [List.filter_map,List.filter_filter]
  congr 1
  refine List.filter_congr fun q hq=>?_
  by_cases e:q.1.id=p.1.id
  · have := inj_of hi hq hp e
    subst this
    simp [h]
  · have e2 : q.2 ≠ p.2 := fun e2 => e (by rw [inj_of hn hq hp e2])
    simp [e,e2]
theorem lft_done {del:Rpt→Bool} {X:List (Rpt×Nat)} {seen:List Nat} (h:∀ p∈lftR del X seen,p.2∈seen):lftR del X seen=X.filter fun p=>!del p.1:=by
  unfold lftR at h ⊢
  refine List.filter_congr fun q hq=>?_
  cases hd:del q.1 with
  | false=>rfl
  | true =>
    by_cases hs:q.2∈seen
    · simp [hs]
    · exact absurd (h q (List.mem_filter.2 ⟨hq,by simp [hd,hs]⟩)) hs
theorem len_subN:∀ {L D:List Nat},L.Nodup→(∀ x∈L,x∈D)→L.length≤D.length
  | [],_,_,_=>Nat.zero_le _
  | r :: L, D, hn, h => by
    obtain ⟨h1,h2⟩:=List.nodup_cons.1 hn
    have hr:=h r (by simp)
    have ih:=len_subN (D:=D.erase r) h2 fun x hx=>(List.mem_erase_of_ne (fun e=>h1 (by rw [← e];exact hx))).2 (h x (List.mem_cons_of_mem _ hx))
    rw [List.length_erase_of_mem hr] at ih
    have:=List.length_pos_of_mem hr
    simp only [List.length_cons]
    omega
theorem f57 (g : Nat) (fs : List PV) (del : Rpt → Bool) (M : List Rpt) (hid : (M.map Rpt.id).Nodup) (hg : ∀ r ∈ M, Fn P0 g (fs ++ [I r.id, r.v] ++ []) (B (del r))) (hb : ∀ r : Rpt, PV.bds 0 (fs ++ [I r.id, r.v] ++ []) = true) (m : Nat) (hm : 0 < m) :
    PCall P0 57 [.mp 0,.fn (.func g) fs []] (HE m [(0,some (mapB M))]) (fun v h'=>∃ m',m≤m'∧v=.tup []∧h'=HE m' [(0,some (.map (esL (toE ((brn 0 M).filter fun p=>!del p.1))) M.length))]) fun _ _=>False:=by
  have hX1:=brn_nodup 0 M
  have hX2:((brn 0 M).map fun p=>p.1.id).Nodup:=by
    have:(brn 0 M).map (fun p=>p.1.id)=((brn 0 M).map (·.1)).map Rpt.id:=by rw [List.map_map];rfl
    rw [this,brn_fst];exact hid
  have hX3:=brn_rng 0 M
  have hX4:∀ p∈brn 0 M,p.1∈M:=fun p hp=>by
    have:=List.mem_map_of_mem (f:=(·.1)) hp
    rw [brn_fst] at this;exact this
  have hm0:mapB M=.map (esL (toE (lftR del (brn 0 M) []))) M.length:=by
    unfold mapB
    rw [esI_brn]
    have:lftR del (brn 0 M) []=brn 0 M:=List.filter_eq_self.2 fun p _=>by simp
    rw [this]
    unfold toR
    rw [List.length_map]
  have hsub:∀ seen,∀ p∈lftR del (brn 0 M) seen,p∈brn 0 M:=fun seen p hp=>(List.mem_filter.1 hp).1
  rw [hm0]
  generalize hX:brn 0 M=X at *
  generalize hcl:M.length=cl at *
  refine PCall.ofH (C:=c57) (cx_ok _ _ _) rfl (fn:=Tryz.f57) (by kernel_rfl) (c:=_) rfl rfl rfl (fun hok=>?_)
  refine Run.seq (Run.region (cx_ok _ _ _) (Reg.op rfl (Ope.mov rfl ?_)))
  refine Reg.op rfl (Ope.rngL rfl hget_hd ?_)
  refine Reg.nil (Run.block (Run.loop (α:=List Nat×Nat×Nat) (fun t=>[(0,.mp 0),(1,.fn (.func g) fs []),(7,.ptr m 0)]) (fun t=>HE t.2.1 [(m,some (.iter (some 0) cl t.1 t.2.2)),(0,some (.map (esL (toE (lftR del X t.1))) cl))]) (fun t=>t.1.Nodup∧(∀ b∈t.1,b∈X.map (·.2))∧m < t.2.1∧cl≤t.2.2) (fun t=>X.length+1 - t.1.length) ([],m+1,cl) ⟨rfl,rfl,rfl,trivial⟩ rfl ⟨List.nodup_nil,(fun b hb=>by cases hb),Nat.lt_succ_self _,Nat.le_refl _⟩ (fun t ht=>?_)))
  obtain ⟨seen,n2,last⟩:=t
  obtain ⟨hs1,hs2,hn2,hla⟩:=ht
  simp only at hs1 hs2 hn2 hla
  show Run _ _ _ _ [(0,.mp 0),(1,.fn (.func g) fs []),(7,.ptr m 0)] [] (HE n2 [(m,some (.iter (some 0) cl seen last)),(0,some (.map (esL (toE (lftR del X seen))) cl))])
  refine Run.seq (Run.region (cx_ok _ _ _) ?_)
  refine Reg.op rfl (Ope.nxtL rfl hget_hd ((hget_tl (by omega)).trans hget_hd) rfl hla (fun p hp=>by
    obtain ⟨q,hq,rfl⟩:=List.mem_map.1 hp
    have:=hX3 q (hsub _ q hq)
    show q.2 < cl;omega) (fun hall=>?_) (fun p hp hps=>?_))
  ·refine Reg.op rfl (Ope.ext rfl rfl ?_)
   refine Reg.nil (Run.seq (Run.condX rfl (fun hc=>?_) fun hc=>?_))
   ·first
    |(cases hc;done)
    |refine Run.skip (Run.block (Run.seq ?_))
     obtain ⟨q,hq,rfl⟩:=List.mem_map.1 hp
     have hqX:=hsub _ q hq
     have hnb:((toE (lftR del X seen)).map (·.2.2)).Nodup:=by
       unfold toE lftR
       rw [List.map_map]
       exact hX1.sublist ((List.filter_sublist).map _)
     have hni:((toE (lftR del X seen)).map (·.1)).Nodup:=by
       unfold toE lftR
       rw [List.map_map]
       exact hX2.sublist ((List.filter_sublist).map _)
     have hgq:=hg q.1 (hX4 q hqX)
     have hs1':(seen++[q.2]).Nodup:=by
       rw [List.nodup_append]
       exact ⟨hs1,by simp,fun a ha b hb e=>hps (by rw [List.mem_singleton.1 hb] at e;rw [← e];exact ha)⟩
     have hs2':∀ b∈seen++[q.2],b∈X.map (·.2):=fun b hb=>by
       rcases List.mem_append.1 hb with hb | hb
       · exact hs2 b hb
       · rw [List.mem_singleton.1 hb];exact List.mem_map_of_mem hqX
     have hlen:=len_subN hs1' hs2'
     rw [List.length_map,List.length_append,List.length_singleton] at hlen
     have hkp:=fun h=>lft_keep (del:=del) hX1 (seen:=seen) hqX h
     have hdl:=fun h=>lft_del (del:=del) hX1 hX2 (seen:=seen) hqX h
     refine Run.wide (m:=n2) (l':=[(m,some (.iter (some 0) cl (seen++[q.2]) cl)),(0,some (.map (esL (toE (lftR del X seen))) cl))]) (Nat.le_refl _) ⟨hget_hd,by repeat (first | rfl | exact hget_hd | refine (hget_tl (by omega)).trans ?_),trivial⟩ ?_
     refine Run.region (cx_ok _ _ _) (Reg.op rfl (Ope.entL (p:=(q.1.id,q.1.v,q.2)) hnb (List.mem_map_of_mem hq) rfl hget_hd ((hget_tl (by omega)).trans hget_hd) ?_))
     refine Reg.op rfl (Ope.ext rfl rfl ?_)
     refine Reg.op rfl (Ope.ext rfl rfl ?_)
     refine Reg.op rfl (Ope.newL rfl ?_)
     refine Reg.op rfl (Ope.asg rfl ?_)
     refine Reg.op0 (Ope.store rfl rfl hget_hd rfl rfl rfl ?_)
     refine Reg.nil (Run.seq (Run.frz (d:=5) true rfl hget_hd rfl ?_))
     refine Run.wide (m:=n2+1) (l':=[(m,some (.iter (some 0) cl (seen++[q.2]) cl)),(0,some (.map (esL (toE (lftR del X seen))) cl))]) (Nat.le_refl _) ⟨by repeat (first | rfl | exact hget_hd | refine (hget_tl (by omega)).trans ?_),by repeat (first | rfl | exact hget_hd | refine (hget_tl (by omega)).trans ?_),trivial⟩ ?_
     refine Run.region (cx_ok _ _ _) (Reg.op rfl (Ope.mov rfl ?_))
     refine Reg.op rfl (Ope.mov rfl ?_)
     refine Reg.op rfl (Ope.load rfl rfl ?_)
     refine Reg.op rfl (Ope.cf rfl rfl hgq (hb q.1) ?_)
     refine Reg.nil (Run.condX rfl (fun hc=>?_) fun hc=>?_)
     ·refine Run.region (cx_ok _ _ _) (Reg.op rfl (Ope.mov rfl ?_))
      refine Reg.op rfl (Ope.mov rfl ?_)
      refine Reg.op0 (Ope.delL und_int rfl rfl ((hget_tl (by omega)).trans hget_hd) hni ?_)
      rw [hdl hc]
      refine Reg.nil (Run.bend ?_)
      first
      | exact Run.lend ⟨(seen++[q.2],n2+1,cl),by show X.length+1 - (seen++[q.2]).length < X.length+1 - seen.length;rw [List.length_append,List.length_singleton];omega,⟨hs1',hs2',by show m < n2+1;omega,Nat.le_refl _⟩,⟨rfl,rfl,rfl,trivial⟩,by
          show HE (n2+1) _=HE (n2+1) [(m,some (.iter (some 0) cl (seen++[q.2]) cl)),(0,some (.map (esL (toE (lftR del X (seen++[q.2])))) cl))]
          rw [hkp (by simpa using hc)],rfl⟩
      | exact Run.lend ⟨(seen++[q.2],n2+1,cl),by show X.length+1 - (seen++[q.2]).length < X.length+1 - seen.length;rw [List.length_append,List.length_singleton];omega,⟨hs1',hs2',by show m < n2+1;omega,Nat.le_refl _⟩,⟨rfl,rfl,rfl,trivial⟩,by
          show HE (n2+1) ((0,some (.map (esL (toE (lftR del X (seen++[q.2])))) cl))::[(m,some (.iter (some 0) cl (seen++[q.2]) cl)),(0,some (.map (esL (toE (lftR del X seen))) cl))])=HE (n2+1) [(m,some (.iter (some 0) cl (seen++[q.2]) cl)),(0,some (.map (esL (toE (lftR del X (seen++[q.2])))) cl))]
          simp only [HE,PH.mk.injEq,and_true]
          funext z
          by_cases h1:z=0
          · subst h1
            rw [hget_hd,hget_tl (by omega),hget_hd]
          · rw [hget_tl h1]
            by_cases h2:z=m
            · subst h2;rw [hget_hd,hget_hd]
            · rw [hget_tl h2,hget_tl h2,hget_tl h1,hget_tl h1],rfl⟩
     ·refine Run.skip (Run.bend ?_)
      first
      | exact Run.lend ⟨(seen++[q.2],n2+1,cl),by show X.length+1 - (seen++[q.2]).length < X.length+1 - seen.length;rw [List.length_append,List.length_singleton];omega,⟨hs1',hs2',by show m < n2+1;omega,Nat.le_refl _⟩,⟨rfl,rfl,rfl,trivial⟩,by
          show HE (n2+1) _=HE (n2+1) [(m,some (.iter (some 0) cl (seen++[q.2]) cl)),(0,some (.map (esL (toE (lftR del X (seen++[q.2])))) cl))]
          rw [hkp (by simpa using hc)],rfl⟩
      | exact Run.lend ⟨(seen++[q.2],n2+1,cl),by show X.length+1 - (seen++[q.2]).length < X.length+1 - seen.length;rw [List.length_append,List.length_singleton];omega,⟨hs1',hs2',by show m < n2+1;omega,Nat.le_refl _⟩,⟨rfl,rfl,rfl,trivial⟩,by
          show HE (n2+1) ((0,some (.map (esL (toE (lftR del X (seen++[q.2])))) cl))::[(m,some (.iter (some 0) cl (seen++[q.2]) cl)),(0,some (.map (esL (toE (lftR del X seen))) cl))])=HE (n2+1) [(m,some (.iter (some 0) cl (seen++[q.2]) cl)),(0,some (.map (esL (toE (lftR del X (seen++[q.2])))) cl))]
          simp only [HE,PH.mk.injEq,and_true]
          funext z
          by_cases h1:z=0
          · subst h1
            rw [hget_hd,hget_tl (by omega),hget_hd]
          · rw [hget_tl h1]
            by_cases h2:z=m
            · subst h2;rw [hget_hd,hget_hd]
            · rw [hget_tl h2,hget_tl h2,hget_tl h1,hget_tl h1],rfl⟩
   ·first
    |(cases hc;done)
    |refine Run.exit (Jmp.code (Jmp.round (Jmp.here ?_)))
     exact finH_end .nil (Nat.le_refl _) (fun z b h=>by
       by_cases hz:z=0
       · subst hz
         rw [hget_tl (by omega),hget_hd,lft_done (fun p hp=>hall _ (List.mem_map_of_mem hp))]
         rw [hget_hd] at h
         exact h
       · rw [hget_tl hz] at h;cases h) ⟨n2,by omega,rfl,rfl⟩
  ·refine Reg.op rfl (Ope.ext rfl rfl ?_)
   refine Reg.nil (Run.seq (Run.condX rfl (fun hc=>?_) fun hc=>?_))
   ·first
    |(cases hc;done)
    |refine Run.skip (Run.block (Run.seq ?_))
     obtain ⟨q,hq,rfl⟩:=List.mem_map.1 hp
     have hqX:=hsub _ q hq
     have hnb:((toE (lftR del X seen)).map (·.2.2)).Nodup:=by
       unfold toE lftR
       rw [List.map_map]
       exact hX1.sublist ((List.filter_sublist).map _)
     have hni:((toE (lftR del X seen)).map (·.1)).Nodup:=by
       unfold toE lftR
       rw [List.map_map]
       exact hX2.sublist ((List.filter_sublist).map _)
     have hgq:=hg q.1 (hX4 q hqX)
     have hs1':(seen++[q.2]).Nodup:=by
       rw [List.nodup_append]
       exact ⟨hs1,by simp,fun a ha b hb e=>hps (by rw [List.mem_singleton.1 hb] at e;rw [← e];exact ha)⟩
     have hs2':∀ b∈seen++[q.2],b∈X.map (·.2):=fun b hb=>by
       rcases List.mem_append.1 hb with hb | hb
       · exact hs2 b hb
       · rw [List.mem_singleton.1 hb];exact List.mem_map_of_mem hqX
     have hlen:=len_subN hs1' hs2'
     rw [List.length_map,List.length_append,List.length_singleton] at hlen
     have hkp:=fun h=>lft_keep (del:=del) hX1 (seen:=seen) hqX h
     have hdl:=fun h=>lft_del (del:=del) hX1 hX2 (seen:=seen) hqX h
     refine Run.wide (m:=n2) (l':=[(m,some (.iter (some 0) cl (seen++[q.2]) cl)),(0,some (.map (esL (toE (lftR del X seen))) cl))]) (Nat.le_refl _) ⟨hget_hd,by repeat (first | rfl | exact hget_hd | refine (hget_tl (by omega)).trans ?_),trivial⟩ ?_
     refine Run.region (cx_ok _ _ _) (Reg.op rfl (Ope.entL (p:=(q.1.id,q.1.v,q.2)) hnb (List.mem_map_of_mem hq) rfl hget_hd ((hget_tl (by omega)).trans hget_hd) ?_))
     refine Reg.op rfl (Ope.ext rfl rfl ?_)
     refine Reg.op rfl (Ope.ext rfl rfl ?_)
     refine Reg.op rfl (Ope.newL rfl ?_)
     refine Reg.op rfl (Ope.asg rfl ?_)
     refine Reg.op0 (Ope.store rfl rfl hget_hd rfl rfl rfl ?_)
     refine Reg.nil (Run.seq (Run.frz (d:=5) true rfl hget_hd rfl ?_))
     refine Run.wide (m:=n2+1) (l':=[(m,some (.iter (some 0) cl (seen++[q.2]) cl)),(0,some (.map (esL (toE (lftR del X seen))) cl))]) (Nat.le_refl _) ⟨by repeat (first | rfl | exact hget_hd | refine (hget_tl (by omega)).trans ?_),by repeat (first | rfl | exact hget_hd | refine (hget_tl (by omega)).trans ?_),trivial⟩ ?_
     refine Run.region (cx_ok _ _ _) (Reg.op rfl (Ope.mov rfl ?_))
     refine Reg.op rfl (Ope.mov rfl ?_)
     refine Reg.op rfl (Ope.load rfl rfl ?_)
     refine Reg.op rfl (Ope.cf rfl rfl hgq (hb q.1) ?_)
     refine Reg.nil (Run.condX rfl (fun hc=>?_) fun hc=>?_)
     ·refine Run.region (cx_ok _ _ _) (Reg.op rfl (Ope.mov rfl ?_))
      refine Reg.op rfl (Ope.mov rfl ?_)
      refine Reg.op0 (Ope.delL und_int rfl rfl ((hget_tl (by omega)).trans hget_hd) hni ?_)
      rw [hdl hc]
      refine Reg.nil (Run.bend ?_)
      first
      | exact Run.lend ⟨(seen++[q.2],n2+1,cl),by show X.length+1 - (seen++[q.2]).length < X.length+1 - seen.length;rw [List.length_append,List.length_singleton];omega,⟨hs1',hs2',by show m < n2+1;omega,Nat.le_refl _⟩,⟨rfl,rfl,rfl,trivial⟩,by
          show HE (n2+1) _=HE (n2+1) [(m,some (.iter (some 0) cl (seen++[q.2]) cl)),(0,some (.map (esL (toE (lftR del X (seen++[q.2])))) cl))]
          rw [hkp (by simpa using hc)],rfl⟩
      | exact Run.lend ⟨(seen++[q.2],n2+1,cl),by show X.length+1 - (seen++[q.2]).length < X.length+1 - seen.length;rw [List.length_append,List.length_singleton];omega,⟨hs1',hs2',by show m < n2+1;omega,Nat.le_refl _⟩,⟨rfl,rfl,rfl,trivial⟩,by
          show HE (n2+1) ((0,some (.map (esL (toE (lftR del X (seen++[q.2])))) cl))::[(m,some (.iter (some 0) cl (seen++[q.2]) cl)),(0,some (.map (esL (toE (lftR del X seen))) cl))])=HE (n2+1) [(m,some (.iter (some 0) cl (seen++[q.2]) cl)),(0,some (.map (esL (toE (lftR del X (seen++[q.2])))) cl))]
          simp only [HE,PH.mk.injEq,and_true]
          funext z
          by_cases h1:z=0
          · subst h1
            rw [hget_hd,hget_tl (by omega),hget_hd]
          · rw [hget_tl h1]
            by_cases h2:z=m
            · subst h2;rw [hget_hd,hget_hd]
            · rw [hget_tl h2,hget_tl h2,hget_tl h1,hget_tl h1],rfl⟩
     ·refine Run.skip (Run.bend ?_)
      first
      | exact Run.lend ⟨(seen++[q.2],n2+1,cl),by show X.length+1 - (seen++[q.2]).length < X.length+1 - seen.length;rw [List.length_append,List.length_singleton];omega,⟨hs1',hs2',by show m < n2+1;omega,Nat.le_refl _⟩,⟨rfl,rfl,rfl,trivial⟩,by
          show HE (n2+1) _=HE (n2+1) [(m,some (.iter (some 0) cl (seen++[q.2]) cl)),(0,some (.map (esL (toE (lftR del X (seen++[q.2])))) cl))]
          rw [hkp (by simpa using hc)],rfl⟩
      | exact Run.lend ⟨(seen++[q.2],n2+1,cl),by show X.length+1 - (seen++[q.2]).length < X.length+1 - seen.length;rw [List.length_append,List.length_singleton];omega,⟨hs1',hs2',by show m < n2+1;omega,Nat.le_refl _⟩,⟨rfl,rfl,rfl,trivial⟩,by
          show HE (n2+1) ((0,some (.map (esL (toE (lftR del X (seen++[q.2])))) cl))::[(m,some (.iter (some 0) cl (seen++[q.2]) cl)),(0,some (.map (esL (toE (lftR del X seen))) cl))])=HE (n2+1) [(m,some (.iter (some 0) cl (seen++[q.2]) cl)),(0,some (.map (esL (toE (lftR del X (seen++[q.2])))) cl))]
          simp only [HE,PH.mk.injEq,and_true]
          funext z
          by_cases h1:z=0
          · subst h1
            rw [hget_hd,hget_tl (by omega),hget_hd]
          · rw [hget_tl h1]
            by_cases h2:z=m
            · subst h2;rw [hget_hd,hget_hd]
            · rw [hget_tl h2,hget_tl h2,hget_tl h1,hget_tl h1],rfl⟩
   ·first
    |(cases hc;done)
    |refine Run.exit (Jmp.code (Jmp.round (Jmp.here ?_)))
     exact finH_end .nil (Nat.le_refl _) (fun z b h=>by
       by_cases hz:z=0
       · subst hz
         rw [hget_tl (by omega),hget_hd,lft_done (fun p hp=>hall _ (List.mem_map_of_mem hp))]
         rw [hget_hd] at h
         exact h
       · rw [hget_tl hz] at h;cases h) ⟨n2,by omega,rfl,rfl⟩
end Go.Pv
namespace Go.Pv
open Go.Proofs Go.Am
set_option maxRecDepth 10000
def inJ (b:List Rpt) (r:Rpt):Bool:=decide (getR (stdM b) r.id=some r)
def sndM (a b:List Rpt):List Rpt:=(stdM (a++b)).filter fun r=>!inJ b r
def sndL (a b:List Rpt):List Rpt:=srtR (sndM a b)
theorem sndM_nodup (a b:List Rpt):((sndM a b).map Rpt.id).Nodup:=(stdM_nodup (a++b)).sublist ((List.filter_sublist).map _)
theorem mem_stdM {L:List Rpt} {r:Rpt} (h:r∈stdM L):bst r.id L=some r:=by
  rw [← getR_std]
  exact find_nodup (stdM_nodup L) h
theorem sndM_own {a b:List Rpt} {r:Rpt} (h:r∈sndM a b):r∈a.map Rpt.own:=by
  obtain ⟨h1,h2⟩:=List.mem_filter.1 h
  have h3:=mem_stdM h1
  obtain ⟨⟨s,hs,hsi,hso⟩,hmax⟩:=bst_some.1 h3
  rcases List.mem_append.1 hs with hs | hs
  · exact List.mem_map.2 ⟨s,hs,hso⟩
  · exfalso
    have:bst r.id b=some r:=bst_some.2 ⟨⟨s,hs,hsi,hso⟩,fun t ht hti=>hmax t (List.mem_append_right _ ht) hti⟩
    rw [← getR_std] at this
    simp [inJ,this] at h2
theorem sndM_len (a b:List Rpt):(sndM a b).length≤a.length:=by
  have:=len_sub (L:=sndM a b) (D:=a.map Rpt.own) (ids_nodup (sndM_nodup a b)) fun x hx=>sndM_own hx
  rw [List.length_map] at this
  exact this
def sndE (a b:List Rpt):Int:=if jouB a=true then (if jouB b=true then 0 else 1) else 1
section
variable (ta tb:Tail) (hta:ta.isOwn=false) (htb:tb.isOwn=false) (a b:List Rpt) (ha:a.length≤100) (hb:b.length≤100)
include hta htb ha hb
theorem f56f (h:jouB a=false∨(jouB a=true∧jouB b=false)):Pan P0 56 [.fp (.sl ta (a.map Rpt.v)),.fp (.sl tb (b.map Rpt.v))] (.ifc 25 (I 1)):=by
  have hva:=f51 ta hta a ha
  have hvb:=f51 tb htb b hb
  have hba:PV.bds 0 [.sl ta (a.map Rpt.v)]=true:=bds_cons (bd_sl (f:=Rpt.v) hta (fun _=>rfl) a) rfl
  have hbb:PV.bds 0 [.sl tb (b.map Rpt.v)]=true:=bds_cons (bd_sl (f:=Rpt.v) htb (fun _=>rfl) b) rfl
  rcases h with h | ⟨h,h2⟩
  · rw [h] at hva
    refine PFun.of (C:=c56) (cx_ok _ _ _) rfl (fn:=Tryz.f56) (by kernel_rfl) (c:=_) rfl rfl rfl ?_
    refine Run.seq (Run.region (cx_ok _ _ _) (Reg.op rfl (Ope.asg rfl ?_)))
    refine Reg.nil (Run.seq (Run.region (cx_ok _ _ _) (Reg.op rfl (Ope.load rfl rfl ?_))))
    refine Reg.op rfl (Ope.cf rfl rfl hva hba ?_)
    refine Reg.op rfl (Ope.mov rfl ?_)
    refine Reg.off rfl rfl rfl (Reg.off rfl rfl rfl (Reg.op rfl (Ope.pickF rfl rfl ?_)))
    refine Reg.op rfl (Ope.cp rfl rfl (f50f 1) rfl (fin_panic rfl rfl))
  · rw [h] at hva
    rw [h2] at hvb
    refine PFun.of (C:=c56) (cx_ok _ _ _) rfl (fn:=Tryz.f56) (by kernel_rfl) (c:=_) rfl rfl rfl ?_
    refine Run.seq (Run.region (cx_ok _ _ _) (Reg.op rfl (Ope.asg rfl ?_)))
    refine Reg.nil (Run.seq (Run.region (cx_ok _ _ _) (Reg.op rfl (Ope.load rfl rfl ?_))))
    refine Reg.op rfl (Ope.cf rfl rfl hva hba ?_)
    refine Reg.op rfl (Ope.mov rfl ?_)
    refine Reg.on rfl rfl rfl (Ope.load rfl rfl ?_)
    refine Reg.on rfl rfl rfl (Ope.cf rfl rfl hvb hbb ?_)
    refine Reg.op rfl (Ope.pickT rfl rfl ?_)
    refine Reg.op rfl (Ope.cp rfl rfl (f50f 1) rfl (fin_panic rfl rfl))
theorem f56t (h1:jouB a=true) (h2:jouB b=true):Fn P0 56 [.fp (.sl ta (a.map Rpt.v)),.fp (.sl tb (b.map Rpt.v))] (.sl .no ((sndL a b).map Rpt.v)):=by
  have j1:=jou_spec h1
  have j2:=jou_spec h2
  have hok:∀ r∈a++b,r.ok=true:=fun r hr=>by
    rcases List.mem_append.1 hr with hr | hr
    · exact j1.ok r hr
    · exact j2.ok r hr
  have hlive:=f52l .ex rfl [(ta,a),(tb,b)] (fun p hp=>by
    rcases List.mem_cons.1 hp with rfl | hp
    · exact hta
    · rw [List.mem_singleton.1 hp];exact htb) (by simp) (by rw [cat_two,List.length_append];omega) (by rw [cat_two];exact hok)
  rw [cat_two] at hlive
  have hth:=f52 .ex rfl [(tb,b)] (fun p hp=>by rw [List.mem_singleton.1 hp];exact htb) (by simp) (by rw [cat_one];omega) (by rw [cat_one];exact j2.ok)
  rw [cat_one] at hth
  have hdf:=fun m hm=>f57 58 [fmR (stdM b)] (inJ b) (stdM (a++b)) (stdM_nodup _) (fun r _=>f58 (stdM b) (stdM_nodup b) r) (fun r=>by
    show PV.bds 0 [fmR (stdM b),I r.id,r.v]=true
    simp only [PV.bds,bd_fmR];rfl) m hm
  have hidk:IdsOk (sndM a b):=fun r hr=>stdM_ids hok r (List.mem_filter.1 hr).1
  have hjo:=f53 (sndM a b) (Nat.le_trans (sndM_len a b) j1.len) (sndM_nodup a b) hidk
  have hva:=f51 ta hta a ha
  have hvb:=f51 tb htb b hb
  rw [h1] at hva
  rw [h2] at hvb
  have hba0:=bd_sl (f:=Rpt.v) hta (fun _=>rfl) a
  have hbb0:=bd_sl (f:=Rpt.v) htb (fun _=>rfl) b
  have hba:PV.bds 0 [.sl ta (a.map Rpt.v)]=true:=bds_cons hba0 rfl
  have hbb:PV.bds 0 [.sl tb (b.map Rpt.v)]=true:=bds_cons hbb0 rfl
  have hbs:PV.bds 0 [.sl .ex [.sl tb (b.map Rpt.v)]]=true:=by
    simp only [PV.bds,PV.bd,hbb0,Bool.and_self]
  have hbf:PV.bds 0 [fmR (sndM a b)]=true:=by simp only [PV.bds,bd_fmR,Bool.and_self]
  have hfst:((brn 0 (stdM (a++b))).filter fun p=>!inJ b p.1).map (·.1)=sndM a b:=by
    have:((brn 0 (stdM (a++b))).map (·.1)).filter (fun r=>!inJ b r)=((brn 0 (stdM (a++b))).filter fun p=>!inJ b p.1).map (·.1):=List.filter_map
    rw [← this,brn_fst];rfl
  have hrg:=brn_rng 0 (stdM (a++b))
  have hbn:=brn_nodup 0 (stdM (a++b))
  generalize brn 0 (stdM (a++b))=X at *
  refine PFun.of (C:=c56) (cx_ok _ _ _) rfl (fn:=Tryz.f56) (by kernel_rfl) (c:=_) rfl rfl rfl ?_
  refine Run.seq (Run.region (cx_ok _ _ _) (Reg.op rfl (Ope.asg rfl ?_)))
  refine Reg.nil (Run.seq (Run.region (cx_ok _ _ _) (Reg.op rfl (Ope.load rfl rfl ?_))))
  refine Reg.op rfl (Ope.cf rfl rfl hva hba ?_)
  refine Reg.op rfl (Ope.mov rfl ?_)
  refine Reg.on rfl rfl rfl (Ope.load rfl rfl ?_)
  refine Reg.on rfl rfl rfl (Ope.cf rfl rfl hvb hbb ?_)
  refine Reg.op rfl (Ope.pickT rfl rfl ?_)
  refine Reg.op rfl (Ope.cf rfl rfl (f50t 1) rfl ?_)
  refine Reg.nil (Run.seq (Run.draw (cx_ok _ _ _) [(0,true),(1,true),(2,true),(4,false),(5,true),(3,true),(6,true),(7,true),(8,true)] (by kernel_rfl) (Dra.op' rfl rfl rfl .sure (Ope.load rfl rfl ?_))))
  refine Dra.op' rfl rfl rfl .sure (Ope.load rfl rfl ?_)
  refine Dra.op' rfl rfl rfl .sure (Ope.bsl rfl rfl rfl rfl ?_)
  refine Dra.op' rfl rfl rfl (.load rfl) (Ope.load rfl rfl ?_)
  refine Dra.op' rfl rfl rfl .sure (Ope.bsl rfl rfl rfl rfl ?_)
  refine Dra.op' rfl rfl rfl .sure (Ope.call rfl rfl rfl (hlive.mono (fun v h' q=>?_) fun _ _ q=>q.elim))
  obtain ⟨m,hm,rfl,rfl⟩:=q
  refine Dra.op' rfl rfl rfl .sure (Ope.cf rfl rfl hth hbs ?_)
  refine Dra.op' rfl rfl rfl .sure (Ope.asg rfl ?_)
  refine Dra.op' rfl rfl rfl .sure (Ope.asg rfl ?_)
  refine Dra.nil (Run.seq (Run.region (cx_ok _ _ _) (Reg.op rfl (Ope.mov rfl ?_))))
  refine Reg.op rfl (Ope.mov rfl ?_)
  refine Reg.op rfl (Ope.mkf rfl rfl ?_)
  refine Reg.op rfl (Ope.call rfl rfl rfl ((hdf m hm).mono (fun v h' q=>?_) fun _ _ q=>q.elim))
  obtain ⟨m',hm',rfl,rfl⟩:=q
  refine Reg.nil (Run.seq ?_)
  refine Run.frzM (d:=3) (i:=0) ((sndM a b).map fun r=>(kR r,r.v)) rfl rfl (fun e he=>by
      obtain ⟨p,hp,rfl⟩:=List.mem_map.1 he
      obtain ⟨q,hq,rfl⟩:=List.mem_map.1 hp
      have:=hrg q (List.mem_filter.1 hq).1
      show q.2 < _;omega) (by
      unfold esL toE
      rw [List.map_map,List.map_map]
      exact hbn.sublist ((List.filter_sublist).map _)) (by
      rw [← hfst]
      unfold esL toE
      rw [List.map_map,List.map_map,List.map_map]
      exact List.Perm.refl _) ?_
  rw [show PV.fm (((sndM a b).map fun r=>(kR r,r.v)).map (·.1)) (((sndM a b).map fun r=>(kR r,r.v)).map (·.2))=fmR (sndM a b) from by unfold fmR;rw [List.map_map,List.map_map];rfl]
  refine Run.region (cx_ok _ _ _) (Reg.op rfl (Ope.mov rfl ?_))
  refine Reg.op rfl (Ope.cf rfl rfl hjo hbf ?_)
  refine Reg.op rfl (Ope.asg rfl ?_)
  exact Reg.nil (Run.ret (fin_ret (.tmp rfl .nil) (bd_sl (f:=Rpt.v) (tl:=.no) rfl (fun _=>rfl) _) rfl))
theorem f16 : ∃ t3 : Tail, t3.isOwn = false ∧ Fn P0 16 [.sl ta (a.map Rpt.v), .sl tb (b.map Rpt.v)] (.tup [.sl t3 ((if sndE a b = 0 then sndL a b else []).map Rpt.v), I (sndE a b)]) := by
  have hba0:=bd_sl (f:=Rpt.v) hta (fun _=>rfl) a
  have hbb0:=bd_sl (f:=Rpt.v) htb (fun _=>rfl) b
  have hba1:PV.bd 0 (.fp (.sl ta (a.map Rpt.v)))=true:=by
    have h:=hba0
    cases ta<;>first | (cases hta;done) | (simp only [PV.bd] at h ⊢;simp [h])
  have hbb1:PV.bd 0 (.fp (.sl tb (b.map Rpt.v)))=true:=by
    have h:=hbb0
    cases tb<;>first | (cases htb;done) | (simp only [PV.bd] at h ⊢;simp [h])
  have hbd:PV.bds 0 [.fp (.sl ta (a.map Rpt.v)),.fp (.sl tb (b.map Rpt.v))]=true:=by simp only [PV.bds,hba1,hbb1,Bool.and_self]
  have h:∃ t3:Tail,t3.isOwn=false∧Fn P0 48 [.fn (.func 56) [] [.fp (.sl ta (a.map Rpt.v)),.fp (.sl tb (b.map Rpt.v))]] (.tup [.sl t3 ((if sndE a b=0 then sndL a b else []).map Rpt.v),I (sndE a b)]):=by
    unfold sndE
    by_cases h1:jouB a=true
    · rw [if_pos h1]
      by_cases h2:jouB b=true
      · rw [if_pos h2, if_pos rfl]
        exact ⟨.no,rfl,f48ok (bd_sl (f:=Rpt.v) (tl:=.no) rfl (fun _=>rfl) _) (f56t ta tb hta htb a b ha hb h1 h2) hbd⟩
      · rw [if_neg h2, if_neg (by decide)]
        exact ⟨.ex,rfl,f48er (f56f ta tb hta htb a b ha hb (.inr ⟨h1,by simpa using h2⟩)) hbd⟩
    · rw [if_neg h1, if_neg (by decide)]
      exact ⟨.ex,rfl,f48er (f56f ta tb hta htb a b ha hb (.inl (by simpa using h1))) hbd⟩
  obtain ⟨t3,ht3,h⟩:=h
  refine ⟨t3,ht3,?_⟩
  have hbf:PV.bds 0 [.fn (.func 56) [] [.fp (.sl ta (a.map Rpt.v)),.fp (.sl tb (b.map Rpt.v))]]=true:=bds_cons (by simp only [PV.bd,hbd];rfl) rfl
  have hb3:=bd_sl (f:=Rpt.v) ht3 (fun _=>rfl) (if sndE a b=0 then sndL a b else [])
  refine PFun.of (C:=c16) (cx_ok _ _ _) rfl (fn:=Tryz.f16) (by kernel_rfl) (c:=_) rfl rfl rfl ?_
  refine Run.seq (Run.region (cx_ok _ _ _) (Reg.op rfl (Ope.boxF rfl rfl ?_)))
  refine Reg.op rfl (Ope.boxF rfl rfl ?_)
  refine Reg.op rfl (Ope.asg rfl ?_)
  refine Reg.op rfl (Ope.asg rfl ?_)
  refine Reg.nil (Run.seq (Run.region (cx_ok _ _ _) (Reg.op rfl (Ope.mkf rfl rfl ?_))))
  refine Reg.op rfl (Ope.cf rfl rfl h hbf ?_)
  refine Reg.op rfl (Ope.ext rfl rfl ?_)
  refine Reg.op rfl (Ope.ext rfl rfl ?_)
  refine Reg.op rfl (Ope.asg rfl ?_)
  refine Reg.op rfl (Ope.asg rfl ?_)
  exact Reg.nil (Run.ret (fin_ret (.tmp rfl (.tmp rfl .nil)) (by simp only [pone,PV.bd,PV.bds] at hb3 ⊢;simp [hb3]) rfl))
end
end Go.Pv
namespace Go.Pv
open Go.Proofs Go.Am
set_option maxRecDepth 10000
section
variable {C:Cx} {X:EX} {e:EL} {ds:List Nat} {K:PV→PH→Prop} {h:PH}
variable {d:Option Tmp} {type:TypeId} {pos:String} {after:Array Edge} {guard:Option (Nat×Bool)}
theorem Ope.nqV {t t':TypeId} {x y:Operand} {p q:PV} {b:Bool} (hx:pev (lget e) x=some p) (hy:pev (lget e) y=some q) (hb:pbin C.A C.E .neq t x y p q=some (B b)) (hK:K (B b) h) :
    Ope C X { dst:=d,op:=.binOp .neq t x y t',type,pos,after,guard } e ds h K:=by
  refine Ope.quiet rfl ?_ hK
  simp only [pquiet,hx,hy,hb]
end
theorem neRp (xo yo:Operand) (r s:Rpt):pbin A0 E0 .neq 44 xo yo r.v s.v=some (B (!decide (r=s))):=by
  have hn:pnil A0 44 r.v s.v=none:=by
    have h:=rpSu
    unfold pnil
    cases hu:A0.under 44 with
    | none=>rfl
    | some d =>
      rw [hu] at h
      cases d<;>first | rfl | (exact absurd h (by decide))
  have hv:=rpSv r s
  simp only [bnd2_some] at hv
  rw [rp_dec] at hv
  have e1:PV.toAV r.v=some r.k:=rfl
  have e2:PV.toAV s.v=some s.k:=rfl
  have e3:bothNil r.k s.k=false:=rfl
  simp only [pbin,hn,e1,e2,e3,abin,aequal]
  show plit _=_
  unfold Rpt.k at hv ⊢
  simp only [rpSe,hv]
  rfl
theorem spSv (x y x' y':Int):aeqv A0 E0 20 35 (.agg [.int .i64 x,.int .i64 y]) (.agg [.int .i64 x',.int .i64 y'])=chainB (x == x') (y == y'):=by kernel_rfl
theorem spSe:E0.eqs.get 35=some ():=by kernel_rfl
theorem spSu:(match A0.under 35 with | some (.struct _)=>true | _=>false)=true:=by kernel_rfl
theorem spNil (p q:Int×Int):pnil A0 35 (eV p) (eV q)=none:=by
  have h:=spSu
  unfold pnil
  cases hu:A0.under 35 with
  | none=>rfl
  | some d =>
    rw [hu] at h
    cases d<;>first | rfl | (exact absurd h (by decide))
theorem sp_dec (p q:Int×Int):(p.1 == q.1 && p.2 == q.2)=decide (p=q):=by
  obtain ⟨a,b⟩:=p
  obtain ⟨c,d⟩:=q
  rw [Bool.eq_iff_iff]
  simp
theorem eqSpn (xo yo:Operand) (p q:Int×Int):pbin A0 E0 .eql 35 xo yo (eV p) (eV q)=some (B (decide (p=q))):=by
  have hn:=spNil p q
  rw [← sp_dec]
  have hv:=spSv p.1 p.2 q.1 q.2
  unfold eV at hn ⊢
  simp only [pbin,PV.toAV,PV.toAVs,bothNil,hn,abin,aequal,spSe,hv]
  cases (p.1 == q.1)<;>cases (p.2 == q.2)<;>rfl
theorem neSpn (xo yo:Operand) (p q:Int×Int):pbin A0 E0 .neq 35 xo yo (eV p) (eV q)=some (B (!decide (p=q))):=by
  have hn:=spNil p q
  rw [← sp_dec]
  have hv:=spSv p.1 p.2 q.1 q.2
  unfold eV at hn ⊢
  simp only [pbin,PV.toAV,PV.toAVs,bothNil,hn,abin,aequal,spSe,hv]
  cases (p.1 == q.1)<;>cases (p.2 == q.2)<;>rfl
theorem f33 (a b:Int):Fn P0 33 [I a,I b] (eV (a,b)):=by
  refine PFun.of (C:=c33) (cx_ok _ _ _) rfl (fn:=Tryz.f33) (by kernel_rfl) (c:=_) rfl rfl rfl ?_
  refine Run.seq (Run.region (cx_ok _ _ _) (Reg.op rfl (Ope.newL rfl ?_)))
  refine Reg.nil (Run.seq (Run.region (cx_ok _ _ _) (Reg.op rfl (Ope.mov rfl ?_))))
  refine Reg.op rfl (Ope.mov rfl ?_)
  refine Reg.op rfl (Ope.bld rfl rfl ?_)
  refine Reg.op0 (Ope.store rfl rfl rfl rfl rfl rfl ?_)
  exact Reg.nil (Run.ret (fin_ret (.cell rfl rfl .nil) rfl rfl))
theorem f43 (i p a b:Int):Fn P0 43 [I i,I p,I a,I b] (⟨i,0,1,a,b,0,0,p⟩:Rpt).v:=by
  refine PFun.of (C:=c43) (cx_ok _ _ _) rfl (fn:=Tryz.f43) (by kernel_rfl) (c:=_) rfl rfl rfl ?_
  refine Run.seq (Run.region (cx_ok _ _ _) (Reg.op rfl (Ope.newL rfl ?_)))
  refine Reg.nil (Run.seq (Run.region (cx_ok _ _ _) (Reg.op rfl (Ope.mov rfl ?_))))
  refine Reg.op rfl (Ope.mov rfl ?_)
  refine Reg.op rfl (Ope.mov rfl ?_)
  refine Reg.op rfl (Ope.cf rfl rfl (f33 a b) rfl ?_)
  refine Reg.op rfl (Ope.mov rfl ?_)
  refine Reg.op rfl (Ope.bld rfl rfl ?_)
  refine Reg.op0 (Ope.store rfl rfl rfl rfl rfl rfl ?_)
  exact Reg.nil (Run.ret (fin_ret (.cell rfl rfl .nil) rfl rfl))
end Go.Pv
namespace Go.Pv
open Go.Proofs Go.Am
set_option maxRecDepth 10000
theorem f47 (i v a b c d:Int):Fn P0 47 [I i,I v,I a,I b,I c,I d] (⟨i,v,0,a,b,c,d,0⟩:Rpt).v:=by
  refine PFun.of (C:=c47) (cx_ok _ _ _) rfl (fn:=Tryz.f47) (by kernel_rfl) (c:=_) rfl rfl rfl ?_
  refine Run.seq (Run.region (cx_ok _ _ _) (Reg.op rfl (Ope.newL rfl ?_)))
  refine Reg.nil (Run.seq (Run.region (cx_ok _ _ _) (Reg.op rfl (Ope.mov rfl ?_))))
  refine Reg.op rfl (Ope.mov rfl ?_)
  refine Reg.op rfl (Ope.mov rfl ?_)
  refine Reg.op rfl (Ope.mov rfl ?_)
  refine Reg.op rfl (Ope.cf rfl rfl (f33 a b) rfl ?_)
  refine Reg.op rfl (Ope.mov rfl ?_)
  refine Reg.op rfl (Ope.mov rfl ?_)
  refine Reg.op rfl (Ope.cf rfl rfl (f33 c d) rfl ?_)
  refine Reg.op rfl (Ope.bld rfl rfl ?_)
  refine Reg.op0 (Ope.store rfl rfl rfl rfl rfl rfl ?_)
  exact Reg.nil (Run.ret (fin_ret (.cell rfl rfl .nil) rfl rfl))
theorem f84 (i p a b:Int):Fn P0 84 [I i,I p,I a,I b] (⟨i,0,2,a,b,0,0,p⟩:Rpt).v:=by
  refine PFun.of (C:=c84) (cx_ok _ _ _) rfl (fn:=Tryz.f84) (by kernel_rfl) (c:=_) rfl rfl rfl ?_
  refine Run.seq (Run.region (cx_ok _ _ _) (Reg.op rfl (Ope.newL rfl ?_)))
  refine Reg.nil (Run.seq (Run.region (cx_ok _ _ _) (Reg.op rfl (Ope.mov rfl ?_))))
  refine Reg.op rfl (Ope.mov rfl ?_)
  refine Reg.op rfl (Ope.mov rfl ?_)
  refine Reg.op rfl (Ope.mov rfl ?_)
  refine Reg.op rfl (Ope.cf rfl rfl (f43 i p a b) rfl ?_)
  refine Reg.op rfl (Ope.newL rfl ?_)
  refine Reg.op0 (Ope.store rfl rfl rfl rfl rfl rfl ?_)
  refine Reg.nil (Run.seq (Run.region (cx_ok _ _ _) (Reg.op rfl (Ope.fld rfl rfl ?_))))
  refine Reg.op0 (Ope.store rfl rfl rfl rfl rfl rfl ?_)
  refine Reg.nil (Run.seq (Run.region (cx_ok _ _ _) (Reg.op rfl (Ope.loadH rfl rfl rfl ?_))))
  refine Reg.op0 (Ope.store rfl rfl rfl rfl rfl rfl ?_)
  exact Reg.nil (Run.ret (fin_ret (.cell rfl rfl .nil) rfl rfl))
def smL:List Rpt:=[⟨1,0,0,10,11,3,4,0⟩,⟨2,0,1,12,13,0,0,0⟩,⟨3,0,1,20,20,0,0,0⟩,⟨4,0,2,11,11,0,0,1⟩]
def boL:List Rpt:=[⟨1,1,0,10,10,3,3,0⟩,⟨2,0,1,12,13,0,0,0⟩,⟨3,0,1,20,20,0,0,0⟩,⟨4,0,2,11,11,0,0,1⟩]
def riL:List Rpt:=[⟨1,1,0,10,10,3,3,0⟩]
theorem f31:Fn P0 31 [] (.sl .ex (smL.map Rpt.v)):=by
  refine PFun.of (C:=c31) (cx_ok _ _ _) rfl (fn:=Tryz.f31) (by kernel_rfl) (c:=_) rfl rfl rfl ?_
  refine Run.seq (Run.region (cx_ok _ _ _) (Reg.op rfl (Ope.asg rfl ?_)))
  refine Reg.nil (Run.seq (Run.region (cx_ok _ _ _) (Reg.op rfl (Ope.cf rfl rfl (f47 1 0 10 11 3 4) rfl ?_))))
  refine Reg.op rfl (Ope.cf rfl rfl (f43 2 0 12 13) rfl ?_)
  refine Reg.op rfl (Ope.cf rfl rfl (f43 3 0 20 20) rfl ?_)
  refine Reg.op rfl (Ope.cf rfl rfl (f84 4 1 11 11) rfl ?_)
  refine Reg.op rfl (Ope.bsl rfl rfl rfl rfl ?_)
  refine Reg.op rfl (Ope.asg rfl ?_)
  exact Reg.nil (Run.ret (fin_ret (.tmp rfl .nil) rfl rfl))
theorem f30:Fn P0 30 [] (.sl .ex (boL.map Rpt.v)):=by
  refine PFun.of (C:=c30) (cx_ok _ _ _) rfl (fn:=Tryz.f30) (by kernel_rfl) (c:=_) rfl rfl rfl ?_
  refine Run.seq (Run.region (cx_ok _ _ _) (Reg.op rfl (Ope.asg rfl ?_)))
  refine Reg.nil (Run.seq (Run.region (cx_ok _ _ _) (Reg.op rfl (Ope.cf rfl rfl (f47 1 1 10 10 3 3) rfl ?_))))
  refine Reg.op rfl (Ope.cf rfl rfl (f43 2 0 12 13) rfl ?_)
  refine Reg.op rfl (Ope.cf rfl rfl (f43 3 0 20 20) rfl ?_)
  refine Reg.op rfl (Ope.cf rfl rfl (f84 4 1 11 11) rfl ?_)
  refine Reg.op rfl (Ope.bsl rfl rfl rfl rfl ?_)
  refine Reg.op rfl (Ope.asg rfl ?_)
  exact Reg.nil (Run.ret (fin_ret (.tmp rfl .nil) rfl rfl))
theorem f32:Fn P0 32 [] (.sl .ex (riL.map Rpt.v)):=by
  refine PFun.of (C:=c32) (cx_ok _ _ _) rfl (fn:=Tryz.f32) (by kernel_rfl) (c:=_) rfl rfl rfl ?_
  refine Run.seq (Run.region (cx_ok _ _ _) (Reg.op rfl (Ope.asg rfl ?_)))
  refine Reg.nil (Run.seq (Run.region (cx_ok _ _ _) (Reg.op rfl (Ope.cf rfl rfl (f47 1 1 10 10 3 3) rfl ?_))))
  refine Reg.op rfl (Ope.bsl rfl rfl rfl rfl ?_)
  refine Reg.op rfl (Ope.asg rfl ?_)
  exact Reg.nil (Run.ret (fin_ret (.tmp rfl .nil) rfl rfl))
theorem take_eq {α:Type} {L M:List α} {i:Nat} (hi:i < L.length) (hm:i < M.length) (h:L.take i=M.take i):(L.take (i+1)=M.take (i+1))↔L[i]=M[i]:=by
  have e1:L.take (i+1)=L.take i++[L[i]]:=List.take_succ_eq_append_getElem hi
  have e2:M.take (i+1)=M.take i++[M[i]]:=List.take_succ_eq_append_getElem hm
  rw [e1,e2,h]
  constructor
  · intro e
    have:=List.append_cancel_left e
    simpa using this
  · intro e
    rw [e]
theorem f18 (t1 t2 : Tail) (L M : List (Rpt)) (hL : L.length ≤ 1000) (hM : M.length ≤ 1000) : Fn P0 18 [.sl t1 (L.map Rpt.v), .sl t2 (M.map Rpt.v)] (B (decide (L = M))) := by
  refine PFun.of (C:=c18) (cx_ok _ _ _) rfl (fn:=Tryz.f18) (by kernel_rfl) (c:=_) rfl rfl rfl ?_
  refine Run.seq (Run.region (cx_ok _ _ _) (Reg.op rfl (Ope.asg rfl ?_)))
  refine Reg.nil (Run.seq (Run.seq (Run.region (cx_ok _ _ _) (Reg.op rfl (Ope.mov rfl ?_)))))
  refine Reg.op rfl (Ope.len (m:=L.length) rfl (by simp) ?_)
  refine Reg.op rfl (Ope.mov rfl ?_)
  refine Reg.op rfl (Ope.len (m:=M.length) rfl (by simp) ?_)
  refine Reg.op rfl (Ope.ne rfl rfl ?_)
  refine Reg.nil (Run.condX rfl (fun hc=>?_) fun hc=>?_)
  ·refine Run.seq (Run.region (cx_ok _ _ _) (Reg.op rfl (Ope.asg rfl ?_)))
   refine Reg.nil (Run.ret (Jmp.code (fin_ret (.tmp rfl .nil) rfl ?_)))
   first
   | (refine congrArg B (Eq.symm (decide_eq_false fun e=>?_));subst e;exact absurd hc (by simp);done)
   | (refine congrArg B (Eq.symm (decide_eq_false fun e=>?_));subst e;simp at hc;done)
   | (refine congrArg B (Eq.symm (decide_eq_true ?_))
      have h1:i=L.length:=by omega
      rw [h1,List.take_length,hlm,List.take_length] at hti
      exact hti)
  ·refine Run.skip (Run.seq (Run.seq (Run.region (cx_ok _ _ _) (Reg.op rfl (Ope.asg rfl ?_)))))
   refine Reg.nil (Run.block (Run.loop (α:=Nat) (fun i=>[(0,.sl t1 (L.map Rpt.v)),(1,.sl t2 (M.map Rpt.v)),(5,I i)]) (fun _=>HE 0 []) (fun i=>i≤L.length∧L.take i=M.take i) (fun i=>L.length - i) 0 ⟨rfl,rfl,rfl,trivial⟩ rfl ⟨Nat.zero_le _,rfl⟩ (fun i ht=>?_)))
   obtain ⟨hi,hti⟩:=ht
   have hlm:L.length=M.length:=by omega
   refine Run.seq (Run.seq (Run.region (cx_ok _ _ _) (Reg.op rfl (Ope.mov rfl ?_))))
   refine Reg.op rfl (Ope.mov rfl ?_)
   refine Reg.op rfl (Ope.len (m:=L.length) rfl (by simp) ?_)
   refine Reg.op rfl (Ope.lt rfl rfl ?_)
   refine Reg.nil (Run.condX rfl (fun hc=>?_) fun hc=>?_)
   ·refine Run.skip (Run.seq (Run.block (Run.seq ?_)))
    have hlt:i < L.length:=by omega
    have hst:=take_eq hlt (by omega) hti
    refine Run.draw (cx_ok _ _ _) [(0,true),(1,true),(2,true),(3,true),(4,true),(5,true),(6,true),(7,true),(8,true)] (by kernel_rfl) (Dra.op' rfl rfl rfl .sure (Ope.mov rfl ?_))
    refine Dra.op' rfl rfl rfl .sure (Ope.mov rfl ?_)
    refine Dra.op' rfl rfl rfl .sure (Ope.idxM (m:=i) (f:=Rpt.v) rfl rfl rfl hlt (fun _=>rfl) ?_)
    refine Dra.op' rfl rfl rfl .sure (Ope.load rfl rfl ?_)
    refine Dra.op' rfl rfl rfl .sure (Ope.mov rfl ?_)
    refine Dra.op' rfl rfl rfl .sure (Ope.mov rfl ?_)
    refine Dra.op' rfl rfl rfl .sure (Ope.idxM (m:=i) (f:=Rpt.v) rfl rfl rfl (by omega) (fun _=>rfl) ?_)
    refine Dra.op' rfl rfl rfl .sure (Ope.load rfl rfl ?_)
    refine Dra.op' rfl rfl rfl .sure (Ope.nqV rfl rfl (neRp _ _ L[i] M[i]) ?_)
    refine Dra.nil (Run.condX rfl (fun hc=>?_) fun hc=>?_)
    ·refine Run.seq (Run.region (cx_ok _ _ _) (Reg.op rfl (Ope.asg rfl ?_)))
     refine Reg.nil (Run.ret (Jmp.retB (Jmp.code (Jmp.round (Jmp.retB (Jmp.code (fin_ret (.tmp rfl .nil) rfl ?_)))))))
     first
     | (refine congrArg B (Eq.symm (decide_eq_false fun e=>?_));subst e;exact absurd hc (by simp);done)
     | (refine congrArg B (Eq.symm (decide_eq_false fun e=>?_));subst e;simp at hc;done)
     | (refine congrArg B (Eq.symm (decide_eq_true ?_))
        have h1:i=L.length:=by omega
        rw [h1,List.take_length,hlm,List.take_length] at hti
        exact hti)
    ·refine Run.skip (Run.bend (Run.region (cx_ok _ _ _) (Reg.op rfl (Ope.mov rfl ?_))))
     refine Reg.op rfl (Ope.add rfl rfl (by omega) ?_)
     refine Reg.op rfl (Ope.asg rfl ?_)
     exact Reg.nil (Run.lend ⟨i+1,by show L.length - (i+1) < L.length - i;omega,⟨by show i+1≤L.length;omega,hst.2 (by simpa using hc)⟩,⟨rfl,rfl,rfl,trivial⟩,rfl,rfl⟩)
   ·refine Run.exit (Jmp.code (Jmp.round (Jmp.here (Run.seq (Run.region (cx_ok _ _ _) (Reg.op rfl (Ope.asg rfl ?_)))))))
    refine Reg.nil (Run.ret (fin_ret (.tmp rfl .nil) rfl ?_))
    first
    | (refine congrArg B (Eq.symm (decide_eq_false fun e=>?_));subst e;exact absurd hc (by simp);done)
    | (refine congrArg B (Eq.symm (decide_eq_false fun e=>?_));subst e;simp at hc;done)
    | (refine congrArg B (Eq.symm (decide_eq_true ?_))
       have h1:i=L.length:=by omega
       rw [h1,List.take_length,hlm,List.take_length] at hti
       exact hti)
theorem f29 (t1 t2 : Tail) (L M : List (Int × Int)) (hL : L.length ≤ 1000) (hM : M.length ≤ 1000) : Fn P0 29 [.sl t1 (L.map eV), .sl t2 (M.map eV)] (B (decide (L = M))) := by
  refine PFun.of (C:=c29) (cx_ok _ _ _) rfl (fn:=Tryz.f29) (by kernel_rfl) (c:=_) rfl rfl rfl ?_
  refine Run.seq (Run.region (cx_ok _ _ _) (Reg.op rfl (Ope.asg rfl ?_)))
  refine Reg.nil (Run.seq (Run.seq (Run.region (cx_ok _ _ _) (Reg.op rfl (Ope.mov rfl ?_)))))
  refine Reg.op rfl (Ope.len (m:=L.length) rfl (by simp) ?_)
  refine Reg.op rfl (Ope.mov rfl ?_)
  refine Reg.op rfl (Ope.len (m:=M.length) rfl (by simp) ?_)
  refine Reg.op rfl (Ope.ne rfl rfl ?_)
  refine Reg.nil (Run.condX rfl (fun hc=>?_) fun hc=>?_)
  ·refine Run.seq (Run.region (cx_ok _ _ _) (Reg.op rfl (Ope.asg rfl ?_)))
   refine Reg.nil (Run.ret (Jmp.code (fin_ret (.tmp rfl .nil) rfl ?_)))
   first
   | (refine congrArg B (Eq.symm (decide_eq_false fun e=>?_));subst e;exact absurd hc (by simp);done)
   | (refine congrArg B (Eq.symm (decide_eq_false fun e=>?_));subst e;simp at hc;done)
   | (refine congrArg B (Eq.symm (decide_eq_true ?_))
      have h1:i=L.length:=by omega
      rw [h1,List.take_length,hlm,List.take_length] at hti
      exact hti)
  ·refine Run.skip (Run.seq (Run.seq (Run.region (cx_ok _ _ _) (Reg.op rfl (Ope.asg rfl ?_)))))
   refine Reg.nil (Run.block (Run.loop (α:=Nat) (fun i=>[(0,.sl t1 (L.map eV)),(1,.sl t2 (M.map eV)),(5,I i)]) (fun _=>HE 0 []) (fun i=>i≤L.length∧L.take i=M.take i) (fun i=>L.length - i) 0 ⟨rfl,rfl,rfl,trivial⟩ rfl ⟨Nat.zero_le _,rfl⟩ (fun i ht=>?_)))
   obtain ⟨hi,hti⟩:=ht
   have hlm:L.length=M.length:=by omega
   refine Run.seq (Run.seq (Run.region (cx_ok _ _ _) (Reg.op rfl (Ope.mov rfl ?_))))
   refine Reg.op rfl (Ope.mov rfl ?_)
   refine Reg.op rfl (Ope.len (m:=L.length) rfl (by simp) ?_)
   refine Reg.op rfl (Ope.lt rfl rfl ?_)
   refine Reg.nil (Run.condX rfl (fun hc=>?_) fun hc=>?_)
   ·refine Run.skip (Run.seq (Run.block (Run.seq ?_)))
    have hlt:i < L.length:=by omega
    have hst:=take_eq hlt (by omega) hti
    refine Run.draw (cx_ok _ _ _) [(0,true),(1,true),(2,true),(3,true),(4,true),(5,true),(6,true),(7,true),(8,true)] (by kernel_rfl) (Dra.op' rfl rfl rfl .sure (Ope.mov rfl ?_))
    refine Dra.op' rfl rfl rfl .sure (Ope.mov rfl ?_)
    refine Dra.op' rfl rfl rfl .sure (Ope.idxM (m:=i) (f:=eV) rfl rfl rfl hlt (fun _=>rfl) ?_)
    refine Dra.op' rfl rfl rfl .sure (Ope.load rfl rfl ?_)
    refine Dra.op' rfl rfl rfl .sure (Ope.mov rfl ?_)
    refine Dra.op' rfl rfl rfl .sure (Ope.mov rfl ?_)
    refine Dra.op' rfl rfl rfl .sure (Ope.idxM (m:=i) (f:=eV) rfl rfl rfl (by omega) (fun _=>rfl) ?_)
    refine Dra.op' rfl rfl rfl .sure (Ope.load rfl rfl ?_)
    refine Dra.op' rfl rfl rfl .sure (Ope.nqV rfl rfl (neSpn _ _ L[i] M[i]) ?_)
    refine Dra.nil (Run.condX rfl (fun hc=>?_) fun hc=>?_)
    ·refine Run.seq (Run.region (cx_ok _ _ _) (Reg.op rfl (Ope.asg rfl ?_)))
     refine Reg.nil (Run.ret (Jmp.retB (Jmp.code (Jmp.round (Jmp.retB (Jmp.code (fin_ret (.tmp rfl .nil) rfl ?_)))))))
     first
     | (refine congrArg B (Eq.symm (decide_eq_false fun e=>?_));subst e;exact absurd hc (by simp);done)
     | (refine congrArg B (Eq.symm (decide_eq_false fun e=>?_));subst e;simp at hc;done)
     | (refine congrArg B (Eq.symm (decide_eq_true ?_))
        have h1:i=L.length:=by omega
        rw [h1,List.take_length,hlm,List.take_length] at hti
        exact hti)
    ·refine Run.skip (Run.bend (Run.region (cx_ok _ _ _) (Reg.op rfl (Ope.mov rfl ?_))))
     refine Reg.op rfl (Ope.add rfl rfl (by omega) ?_)
     refine Reg.op rfl (Ope.asg rfl ?_)
     exact Reg.nil (Run.lend ⟨i+1,by show L.length - (i+1) < L.length - i;omega,⟨by show i+1≤L.length;omega,hst.2 (by simpa using hc)⟩,⟨rfl,rfl,rfl,trivial⟩,rfl,rfl⟩)
   ·refine Run.exit (Jmp.code (Jmp.round (Jmp.here (Run.seq (Run.region (cx_ok _ _ _) (Reg.op rfl (Ope.asg rfl ?_)))))))
    refine Reg.nil (Run.ret (fin_ret (.tmp rfl .nil) rfl ?_))
    first
    | (refine congrArg B (Eq.symm (decide_eq_false fun e=>?_));subst e;exact absurd hc (by simp);done)
    | (refine congrArg B (Eq.symm (decide_eq_false fun e=>?_));subst e;simp at hc;done)
    | (refine congrArg B (Eq.symm (decide_eq_true ?_))
       have h1:i=L.length:=by omega
       rw [h1,List.take_length,hlm,List.take_length] at hti
       exact hti)
end Go.Pv
namespace Go.Pv
open Go.Proofs Go.Am
set_option maxRecDepth 100000
theorem x_m1:mrgE smL riL=0:=by decide +kernel
theorem x_m2:std (smL++riL)=boL:=by decide +kernel
theorem x_m3:(std (smL++riL)).length≤12:=by decide +kernel
theorem x_s1:sndE riL smL=0:=by decide +kernel
theorem x_s2:sndL riL smL=riL:=by decide +kernel
theorem x_v1:errV smL=0:=by decide +kernel
theorem x_v2:ansVoid smL=[(11,12)]:=by decide +kernel
theorem x_v3:ansCould smL=[(10,14)]:=by decide +kernel
theorem x_c1:errC smL 2=0:=by decide +kernel
theorem x_c2:cntR smL 2=1:=by decide +kernel
theorem x_b1:errB smL 0=0:=by decide +kernel
theorem x_b2:balR smL 0=(1,2):=by decide +kernel
theorem x_a1:askE boL 0=0:=by decide +kernel
theorem x_a2:askR boL 0=2:=by decide +kernel
theorem y_v1:errV boL=0:=by decide +kernel
theorem y_v2:ansVoid boL=[(10,12)]:=by decide +kernel
theorem y_v3:ansCould boL=[(10,12)]:=by decide +kernel
theorem y_c1:errC smL 3=0:=by decide +kernel
theorem y_c2:cntR smL 3=2:=by decide +kernel
theorem y_c3:errC smL 4=0:=by decide +kernel
theorem y_c4:cntR smL 4=0:=by decide +kernel
theorem y_c5:errC smL 1=4:=by decide +kernel
theorem y_b1:errB smL 1=0:=by decide +kernel
theorem y_b2:balR smL 1=(0,0):=by decide +kernel
theorem y_b3:errB smL 2=0:=by decide +kernel
theorem y_b4:balR smL 2=(0,0):=by decide +kernel
theorem y_a1:askE smL 0=4:=by decide +kernel
theorem y_a2:askE smL 1=11:=by decide +kernel
theorem y_s1:sndE smL riL=0:=by decide +kernel
theorem y_s2:sndL smL riL=smL.drop 1:=by decide +kernel
end Go.Pv
