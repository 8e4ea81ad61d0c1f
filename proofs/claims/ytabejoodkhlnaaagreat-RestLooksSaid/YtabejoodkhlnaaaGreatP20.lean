/- Parts of the proof: T46, T47, T48, T49, Pv56, T50 -/
import Derived.Test.YtabejoodkhlnaaaGreatP19
set_option linter.unusedVariables false
set_option linter.unusedSimpArgs false
namespace Go.Pv
open Go.Proofs Go.Am
set_option maxRecDepth 10000
theorem f108 (tl:Tail) (xs:List Int) (hl:xs.length≤16) (h:Nat) (hh:h < xs.length):Fn P0 108 [.sl tl (xs.map I),I h] (I (hst xs xs[h] (h+1)).1):=by
  have hbd:=hst_bound xs xs[h]
  refine PFun.of (C:=c108) (cx_ok _ _ _) rfl (fn:=Tryz.f108) (by kernel_rfl) (c:=_) rfl rfl rfl ?_
  refine Run.seq (Run.region (cx_ok _ _ _) (Reg.op rfl (Ope.asg rfl ?_)))
  refine Reg.nil (Run.seq (Run.region (cx_ok _ _ _) (Reg.op rfl (Ope.asg rfl ?_))))
  refine Reg.nil (Run.seq (Run.seq (Run.region (cx_ok _ _ _) (Reg.op rfl (Ope.asg rfl ?_)))))
  refine Reg.nil (Run.block (Run.loop (α:=Nat) (fun k=>[(0,.sl tl (xs.map I)),(1,I h),(5,I (hst xs xs[h] k).1),(6,I k)]) (fun _=>HE 0 []) (fun k=>k≤h+1) (fun k=>h+1 - k) 0 ⟨rfl,rfl,rfl,rfl,trivial⟩ rfl (Nat.zero_le _) (fun k hk=>?_)))
  obtain ⟨⟨hb1,hb2⟩,_⟩:=hbd k
  refine Run.seq (Run.seq (Run.region (cx_ok _ _ _) (Reg.op rfl (Ope.mov rfl ?_))))
  refine Reg.op rfl (Ope.mov rfl ?_)
  refine Reg.op rfl (Ope.le rfl rfl ?_)
  refine Reg.nil (Run.condX rfl (fun hc=>?_) fun hc=>?_)
  ·refine Run.skip (Run.seq (Run.block (Run.seq ?_)))
   have hlt:k < xs.length:=by omega
   have hgk:xs.getD k 0=xs[k]:=by simp [List.getD,hlt]
   refine Run.draw (cx_ok _ _ _) [(0,true),(1,true),(2,true),(3,true),(4,true),(5,true),(6,true),(7,true),(8,true)] (by kernel_rfl) (Dra.op' rfl rfl rfl .sure (Ope.mov rfl ?_))
   refine Dra.op' rfl rfl rfl .sure (Ope.mov rfl ?_)
   refine Dra.op' rfl rfl rfl .sure (Ope.idxM (m:=k) rfl rfl rfl hlt (fun _=>rfl) ?_)
   refine Dra.op' rfl rfl rfl .sure (Ope.load rfl rfl ?_)
   refine Dra.op' rfl rfl rfl .sure (Ope.mov rfl ?_)
   refine Dra.op' rfl rfl rfl .sure (Ope.mov rfl ?_)
   refine Dra.op' rfl rfl rfl .sure (Ope.idxM (m:=h) rfl rfl rfl hh (fun _=>rfl) ?_)
   refine Dra.op' rfl rfl rfl .sure (Ope.load rfl rfl ?_)
   refine Dra.op' rfl rfl rfl .sure (Ope.eq rfl rfl ?_)
   refine Dra.nil (Run.condX rfl (fun hc=>?_) fun hc=>?_)
   ·refine Run.region (cx_ok _ _ _) (Reg.op rfl (Ope.mov rfl ?_))
    refine Reg.op rfl (Ope.add rfl rfl (by omega) ?_)
    refine Reg.op rfl (Ope.asg rfl ?_)
    refine Reg.nil (Run.bend (Run.region (cx_ok _ _ _) (Reg.op rfl (Ope.mov rfl ?_))))
    refine Reg.op rfl (Ope.add rfl rfl (by omega) ?_)
    refine Reg.op rfl (Ope.asg rfl ?_)
    refine Reg.nil ?_
    first
      | (refine Run.lend ⟨k + 1, by omega, by omega, ⟨rfl, rfl, ?_, rfl, trivial⟩, rfl, rfl⟩
         rw [hst_yes (hgk.trans hc)]
         rfl)
      | (refine Run.lend ⟨k + 1, by omega, by omega, ⟨rfl, rfl, ?_, rfl, trivial⟩, rfl, rfl⟩
         rw [hst_not (fun q=>hc (hgk.symm.trans q))]
         rfl)
   ·refine Run.skip (Run.bend (Run.region (cx_ok _ _ _) (Reg.op rfl (Ope.mov rfl ?_))))
    refine Reg.op rfl (Ope.add rfl rfl (by omega) ?_)
    refine Reg.op rfl (Ope.asg rfl ?_)
    refine Reg.nil ?_
    first
      | (refine Run.lend ⟨k + 1, by omega, by omega, ⟨rfl, rfl, ?_, rfl, trivial⟩, rfl, rfl⟩
         rw [hst_yes (hgk.trans hc)]
         rfl)
      | (refine Run.lend ⟨k + 1, by omega, by omega, ⟨rfl, rfl, ?_, rfl, trivial⟩, rfl, rfl⟩
         rw [hst_not (fun q=>hc (hgk.symm.trans q))]
         rfl)
  ·refine Run.exit (Jmp.code (Jmp.round (Jmp.here (Run.seq (Run.region (cx_ok _ _ _) (Reg.op rfl (Ope.mov rfl ?_)))))))
   refine Reg.op rfl (Ope.asg rfl ?_)
   refine Reg.nil (Run.ret (fin_ret (.tmp rfl .nil) rfl ?_))
   rw [show h+1=k by omega]
   rfl
theorem f109 (tl : Tail) (xs : List Int) (hl : xs.length ≤ 16) (h : Nat) (hh : h < xs.length) : Fn P0 109 [.sl tl (xs.map I), I h] (I (hst xs xs[h] (h + 1)).2.2) := by
  have hbd:=hst_bound xs xs[h]
  refine PFun.of (C:=c109) (cx_ok _ _ _) rfl (fn:=Tryz.f109) (by kernel_rfl) (c:=_) rfl rfl rfl ?_
  refine Run.seq (Run.region (cx_ok _ _ _) (Reg.op rfl (Ope.asg rfl ?_)))
  refine Reg.nil (Run.seq (Run.region (cx_ok _ _ _) (Reg.op rfl (Ope.asg rfl ?_))))
  refine Reg.nil (Run.seq (Run.seq (Run.region (cx_ok _ _ _) (Reg.op rfl (Ope.mov rfl ?_)))))
  refine Reg.op rfl (Ope.asg rfl ?_)
  refine Reg.nil (Run.block (Run.loop (α:=Nat×Nat) (fun s=>[(0,.sl tl (xs.map I)),(1,I h),(5,I s.1),(6,I ((s.2:Int) - 1))]) (fun _=>HE 0 []) (fun s=>s.1+s.2=h+1∧(hst xs xs[h] (h+1)).2.2=s.1+(hst xs xs[h] s.2).2.2) (fun s=>s.2) (0,h+1) ⟨rfl,rfl,rfl,by show some (I _)=some (I _);exact congrArg (fun z=>some (I z)) (by omega),trivial⟩ rfl ⟨by simp,by simp⟩ (fun s hs=>?_)))
  obtain ⟨j,k⟩:=s
  obtain ⟨hs1,hs2⟩:=hs
  simp only at hs1 hs2
  show Run _ _ _ _ [(0,.sl tl (xs.map I)),(1,I h),(5,I j),(6,I ((k:Int) - 1))] [] (HE 0 [])
  refine Run.seq (Run.seq (Run.draw (cx_ok _ _ _) [(0,true),(1,true),(2,true),(3,true),(4,true),(5,true),(6,true),(7,true),(8,true),(9,true),(10,true),(11,true),(12,true)] (by kernel_rfl) (Dra.op' rfl rfl rfl .sure (Ope.mov rfl ?_))))
  refine Dra.op' rfl rfl rfl .sure (Ope.ge rfl rfl ?_)
  refine Dra.op' rfl rfl rfl .sure (Ope.mov rfl ?_)
  refine Dra.splitX rfl rfl rfl rfl (fun hg=>?_) fun hg=>?_
  ·refine Dra.on' rfl rfl rfl rfl rfl .sure (Ope.mov rfl ?_)
   refine Dra.on' rfl rfl rfl rfl rfl .sure (Ope.mov rfl ?_)
   obtain ⟨k,rfl⟩:∃ k',k=k'+1:=⟨k - 1,by omega⟩
   have hlt:k < xs.length:=by omega
   have hgk:xs.getD k 0=xs[k]:=by simp [List.getD,hlt]
   refine Dra.on' rfl rfl rfl rfl rfl .sure (Ope.idxM (m:=k) rfl rfl (by first | rfl | (simp [natK];done) | exact natK_sub) hlt (fun _=>rfl) ?_)
   refine Dra.on' rfl rfl rfl rfl rfl .sure (Ope.load rfl rfl ?_)
   refine Dra.on' rfl rfl rfl rfl rfl .sure (Ope.mov rfl ?_)
   refine Dra.on' rfl rfl rfl rfl rfl .sure (Ope.mov rfl ?_)
   refine Dra.on' rfl rfl rfl rfl rfl .sure (Ope.idxM (m:=h) rfl rfl rfl hh (fun _=>rfl) ?_)
   refine Dra.on' rfl rfl rfl rfl rfl .sure (Ope.load rfl rfl ?_)
   refine Dra.on' rfl rfl rfl rfl rfl .sure (Ope.eq rfl rfl ?_)
   refine Dra.op' rfl rfl rfl .sure (Ope.pickT rfl rfl ?_)
   refine Dra.nil (Run.condX rfl (fun hc=>?_) fun hc=>?_)
   ·refine Run.skip (Run.seq (Run.block (Run.region (cx_ok _ _ _) (Reg.op rfl (Ope.mov rfl ?_)))))
    refine Reg.op rfl (Ope.add rfl rfl (by omega) ?_)
    refine Reg.op rfl (Ope.asg rfl ?_)
    refine Reg.nil (Run.bend (Run.region (cx_ok _ _ _) (Reg.op rfl (Ope.mov rfl ?_))))
    refine Reg.op rfl (Ope.sub rfl rfl (by omega) ?_)
    refine Reg.op rfl (Ope.asg rfl ?_)
    refine Reg.nil (Run.lend ⟨(j+1,k),by simp only;omega,⟨by simp only;omega,?_⟩,⟨rfl,rfl,rfl,by show some (I _)=some (I _);exact congrArg (fun z=>some (I z)) (by omega),trivial⟩,rfl,rfl⟩)
    rw [hst_yes (hgk.trans hc)] at hs2
    show _=((j+1:Nat):Int)+_
    simp only at hs2 ⊢
    omega
   ·refine Run.exit (Jmp.code (Jmp.round (Jmp.here (Run.seq (Run.region (cx_ok _ _ _) (Reg.op rfl (Ope.mov rfl ?_)))))))
    refine Reg.op rfl (Ope.asg rfl ?_)
    refine Reg.nil (Run.ret (fin_ret (.tmp rfl .nil) rfl ?_))
    first
      | (rw [hs2, hst_not (fun q => hc (hgk.symm.trans q))]
         exact congrArg I (by simp only;omega))
      | (obtain rfl : k = 0 := by omega
         rw [hs2]
         exact congrArg I (by simp only [hst];omega))
  ·refine Dra.off' rfl rfl rfl (.inl rfl) rfl (Dra.off' rfl rfl rfl (.inl rfl) rfl (Dra.off' rfl rfl rfl (.inl rfl) rfl (Dra.off' rfl rfl rfl (.inl rfl) rfl (Dra.off' rfl rfl rfl (.inl rfl) rfl (Dra.off' rfl rfl rfl (.inl rfl) rfl (Dra.off' rfl rfl rfl (.inl rfl) rfl (Dra.off' rfl rfl rfl (.inl rfl) rfl (Dra.off' rfl rfl rfl (.inl rfl) rfl (Dra.op' rfl rfl rfl .sure (Ope.pickF rfl rfl ?_))))))))))
   refine Dra.nil (Run.condF rfl (Run.exit (Jmp.code (Jmp.round (Jmp.here (Run.seq (Run.region (cx_ok _ _ _) (Reg.op rfl (Ope.mov rfl ?_)))))))))
   refine Reg.op rfl (Ope.asg rfl ?_)
   refine Reg.nil (Run.ret (fin_ret (.tmp rfl .nil) rfl ?_))
   first
     | (rw [hs2, hst_not (fun q => hc (hgk.symm.trans q))]
        exact congrArg I (by simp only;omega))
     | (obtain rfl : k = 0 := by omega
        rw [hs2]
        exact congrArg I (by simp only [hst];omega))
def offV (xs:List Int) (x:Int) (h:Nat):Int:=if (hst xs x h).2.1 < 0 then -1 else (h:Int) - 1 - (hst xs x h).2.1
theorem f110 (tl : Tail) (xs : List Int) (hl : xs.length ≤ 16) (h : Nat) (hh : h < xs.length) : Fn P0 110 [.sl tl (xs.map I), I h] (I (offV xs xs[h] h)) := by
  have hbd:=hst_bound xs xs[h]
  refine PFun.of (C:=c110) (cx_ok _ _ _) rfl (fn:=Tryz.f110) (by kernel_rfl) (c:=_) rfl rfl rfl ?_
  refine Run.seq (Run.region (cx_ok _ _ _) (Reg.op rfl (Ope.asg rfl ?_)))
  refine Reg.nil (Run.seq (Run.region (cx_ok _ _ _) (Reg.op rfl (Ope.asg rfl ?_))))
  refine Reg.nil (Run.seq (Run.seq (Run.region (cx_ok _ _ _) (Reg.op rfl (Ope.mov rfl ?_)))))
  refine Reg.op rfl (Ope.sub rfl rfl (by omega) ?_)
  refine Reg.op rfl (Ope.asg rfl ?_)
  refine Reg.nil (Run.block (Run.loop (α:=Nat×Nat) (fun s=>[(0,.sl tl (xs.map I)),(1,I h),(5,I s.1),(6,I ((s.2:Int) - 1))]) (fun _=>HE 0 []) (fun s=>s.1+s.2=h∧(hst xs xs[h] h).2.1=(hst xs xs[h] s.2).2.1) (fun s=>s.2) (0,h) ⟨rfl,rfl,rfl,rfl,trivial⟩ rfl ⟨by simp,rfl⟩ (fun s hs=>?_)))
  obtain ⟨j,k⟩:=s
  obtain ⟨hs1,hs2⟩:=hs
  simp only at hs1 hs2
  show Run _ _ _ _ [(0,.sl tl (xs.map I)),(1,I h),(5,I j),(6,I ((k:Int) - 1))] [] (HE 0 [])
  refine Run.seq (Run.seq (Run.region (cx_ok _ _ _) (Reg.op rfl (Ope.mov rfl ?_))))
  refine Reg.op rfl (Ope.ge rfl rfl ?_)
  refine Reg.nil (Run.condX rfl (fun hc=>?_) fun hc=>?_)
  ·refine Run.skip (Run.seq (Run.block (Run.seq (Run.seq ?_))))
   obtain ⟨k,rfl⟩:∃ k',k=k'+1:=⟨k - 1,by omega⟩
   have hlt:k < xs.length:=by omega
   have hgk:xs.getD k 0=xs[k]:=by simp [List.getD,hlt]
   refine Run.draw (cx_ok _ _ _) [(0,true),(1,true),(2,true),(3,true),(4,true),(5,true),(6,true),(7,true),(8,true)] (by kernel_rfl) (Dra.op' rfl rfl rfl .sure (Ope.mov rfl ?_))
   refine Dra.op' rfl rfl rfl .sure (Ope.mov rfl ?_)
   refine Dra.op' rfl rfl rfl .sure (Ope.idxM (m:=k) rfl rfl (by first | rfl | (simp [natK];done) | exact natK_sub) hlt (fun _=>rfl) ?_)
   refine Dra.op' rfl rfl rfl .sure (Ope.load rfl rfl ?_)
   refine Dra.op' rfl rfl rfl .sure (Ope.mov rfl ?_)
   refine Dra.op' rfl rfl rfl .sure (Ope.mov rfl ?_)
   refine Dra.op' rfl rfl rfl .sure (Ope.idxM (m:=h) rfl rfl rfl hh (fun _=>rfl) ?_)
   refine Dra.op' rfl rfl rfl .sure (Ope.load rfl rfl ?_)
   refine Dra.op' rfl rfl rfl .sure (Ope.eq rfl rfl ?_)
   refine Dra.nil (Run.condX rfl (fun hc=>?_) fun hc=>?_)
   ·refine Run.seq (Run.region (cx_ok _ _ _) (Reg.op rfl (Ope.mov rfl ?_)))
    refine Reg.op rfl (Ope.asg rfl ?_)
    refine Reg.nil (Run.ret (Jmp.code (Jmp.retB (Jmp.code (Jmp.round (Jmp.retB (Jmp.code (fin_ret (.tmp rfl .nil) rfl ?_))))))))
    first
      | (rw [hst_yes (hgk.trans hc)] at hs2
         simp only at hs2
         unfold offV
         rw [if_neg (by omega)]
         exact congrArg I (by omega))
      | (obtain rfl : k = 0 := by omega
         simp only [hst] at hs2
         unfold offV
         rw [if_pos (by omega)]
         rfl)
   ·refine Run.skip (Run.region (cx_ok _ _ _) (Reg.op rfl (Ope.mov rfl ?_)))
    refine Reg.op rfl (Ope.add rfl rfl (by omega) ?_)
    refine Reg.op rfl (Ope.asg rfl ?_)
    refine Reg.nil (Run.bend (Run.region (cx_ok _ _ _) (Reg.op rfl (Ope.mov rfl ?_))))
    refine Reg.op rfl (Ope.sub rfl rfl (by omega) ?_)
    refine Reg.op rfl (Ope.asg rfl ?_)
    refine Reg.nil (Run.lend ⟨(j+1,k),by simp only;omega,⟨by simp only;omega,?_⟩,⟨rfl,rfl,rfl,by show some (I _)=some (I _);exact congrArg (fun z=>some (I z)) (by omega),trivial⟩,rfl,rfl⟩)
    rw [hst_not (fun q=>hc (hgk.symm.trans q))] at hs2
    exact hs2
  ·refine Run.exit (Jmp.code (Jmp.round (Jmp.here (Run.seq (Run.region (cx_ok _ _ _) (Reg.op rfl (Ope.asg rfl ?_)))))))
   refine Reg.nil (Run.ret (fin_ret (.tmp rfl .nil) rfl ?_))
   first
     | (rw [hst_yes (hgk.trans hc)] at hs2
        simp only at hs2
        unfold offV
        rw [if_neg (by omega)]
        exact congrArg I (by omega))
     | (obtain rfl : k = 0 := by omega
        simp only [hst] at hs2
        unfold offV
        rw [if_pos (by omega)]
        rfl)
theorem f80 (o n:Nat) (ho:o < 2 ^ 62) (hn:n≤16):Fn P0 80 [I o,I n] (B (decide (((o >>> n &&& 1:Nat):Int)=1))):=by
  have e:o >>> n &&& 1=o / 2 ^ n % 2:=by rw [Nat.and_one_is_mod,Nat.shiftRight_eq_div_pow]
  rw [e]
  have hp:0 < 2 ^ n:=Nat.pow_pos (by decide)
  refine PFun.of (C:=c80) (cx_ok _ _ _) rfl (fn:=Tryz.f80) (by kernel_rfl) (c:=_) rfl rfl rfl ?_
  refine Run.seq (Run.region (cx_ok _ _ _) (Reg.op rfl (Ope.asg rfl ?_)))
  refine Reg.nil (Run.seq (Run.region (cx_ok _ _ _) (Reg.op rfl (Ope.mov rfl ?_))))
  refine Reg.op rfl (Ope.mov rfl ?_)
  refine Reg.op rfl (Ope.cf rfl rfl (f76 n hn) rfl ?_)
  refine Reg.op rfl (Ope.quoN (p:=o) (q:=2 ^ n) rfl rfl rfl rfl hp (by show _ < 2 ^ 63;omega) ?_)
  refine Reg.op rfl (Ope.remN (p:=o / 2 ^ n) (q:=2) rfl rfl rfl rfl (by decide) ?_)
  refine Reg.op rfl (Ope.eq rfl rfl ?_)
  refine Reg.op rfl (Ope.asg rfl ?_)
  refine Reg.nil (Run.ret (fin_ret (.tmp rfl .nil) rfl ?_))
  rfl
theorem f58 (R : Rst) (hR : R.ok) (tl : Tail) (htl : tl.isOwn = false) (xs : List Int) (hx : ∀ x ∈ xs, x = 0 ∨ x = 1) (hl : xs.length ≤ 16) (h : Nat) (hh : h < xs.length) : Fn P0 58 [.agg R.cells, .sl tl (xs.map I), I h] (I (R.law xs h)) := by
  obtain ⟨hm16,ho0,ho1,⟨ht0,ht0'⟩,⟨hr0,hr0'⟩,⟨hf0,hf0'⟩,⟨ht1,ht1'⟩,⟨hr1,hr1'⟩,⟨hf1,hf1'⟩⟩:=hR
  have hgd:xs.getD h 0=xs[h]:=by simp [List.getD,hh]
  have h108:=f108 tl xs hl h hh
  have h109:=f109 tl xs hl h hh
  have h110:=f110 tl xs hl h hh
  have hyes:=hst_yes (L:=xs) (k:=h) (w:=xs[h]) hgd
  rw [hyes] at h108 h109
  have hb:PV.bds 0 [.sl tl (xs.map I),I h]=true:=by
    simp only [PV.bds,bd_sl (f:=I) htl (fun _=>rfl) xs,Bool.true_and]
    rfl
  have hbd:=hst_bound xs xs[h] h
  obtain ⟨⟨q1,q2⟩,⟨q3,q4⟩,q5,q6⟩:=hbd
  rcases hx xs[h] (List.getElem_mem _) with hw | hw
  · have hw2 := hw
    refine PFun.of (C:=c58) (cx_ok _ _ _) rfl (fn:=Tryz.f58) (by kernel_rfl) (c:=_) rfl rfl rfl ?_
    refine Run.seq (Run.region (cx_ok _ _ _) (Reg.op rfl (Ope.boxF rfl rfl ?_)))
    refine Reg.op rfl (Ope.asg rfl ?_)
    refine Reg.nil (Run.seq (Run.region (cx_ok _ _ _) (Reg.op rfl (Ope.mov rfl ?_))))
    refine Reg.op rfl (Ope.mov rfl ?_)
    refine Reg.op rfl (Ope.idxM (m:=h) rfl rfl rfl hh (fun _=>rfl) ?_)
    refine Reg.op rfl (Ope.load rfl rfl ?_)
    refine Reg.op rfl (Ope.fld rfl rfl ?_)
    refine Reg.op rfl (Ope.idxA (m:=0) rfl rfl (by show natK xs[h]=_;rw [hw];rfl) rfl ?_)
    refine Reg.op rfl (Ope.load rfl rfl ?_)
    refine Reg.op rfl (Ope.newL rfl ?_)
    refine Reg.op0 (Ope.store rfl rfl rfl rfl rfl rfl ?_)
    refine Reg.nil (Run.seq (Run.seq (Run.frz (d:=7) true rfl rfl rfl ?_)))
    refine Run.wide (Nat.le_refl _) Hsub.nil ?_
    refine Run.region (cx_ok _ _ _) (Reg.op rfl (Ope.fld rfl rfl ?_))
    refine Reg.op rfl (Ope.load rfl rfl ?_)
    refine Reg.op rfl (Ope.mov rfl ?_)
    refine Reg.op rfl (Ope.cf rfl rfl (f80 R.o0 h ho0 (by omega)) rfl ?_)
    refine Reg.nil (Run.condX rfl (fun hc=>?_) fun hc=>?_)
    ·refine Run.seq (Run.region (cx_ok _ _ _) (Reg.op rfl (Ope.asg rfl ?_)))
     refine Reg.nil (Run.ret (Jmp.code (fin_ret (.tmp rfl .nil) rfl ?_)))
     refine congrArg I ?_
     rw [Rst.law,if_pos (hgd.trans hw)]
     rw [hw] at *
     unfold offV at *
     unfold lawBrk
     generalize ((R.o0 >>> h &&& 1:Nat):Int)=bit at *
     repeat' split
     all_goals first | omega | (split at *<;>omega)
    ·refine Run.skip (Run.seq (Run.seq (Run.draw (cx_ok _ _ _) [(0,true),(1,true),(3,true),(4,false),(2,true),(5,true)] (by kernel_rfl) (Dra.op' rfl rfl rfl .sure (Ope.mov rfl ?_)))))
     refine Dra.op' rfl rfl rfl .sure (Ope.mov rfl ?_)
     refine Dra.op' rfl rfl rfl .sure (Ope.fld rfl rfl ?_)
     refine Dra.op' rfl rfl rfl (.load rfl) (Ope.load rfl rfl ?_)
     refine Dra.op' rfl rfl rfl .sure (Ope.cf rfl rfl h108 hb ?_)
     refine Dra.op' rfl rfl rfl .sure (Ope.gt rfl rfl ?_)
     refine Dra.nil (Run.condX rfl (fun hc=>?_) fun hc=>?_)
     ·refine Run.seq (Run.region (cx_ok _ _ _) (Reg.op rfl (Ope.asg rfl ?_)))
      refine Reg.nil (Run.ret (Jmp.code (fin_ret (.tmp rfl .nil) rfl ?_)))
      refine congrArg I ?_
      rw [Rst.law,if_pos (hgd.trans hw)]
      rw [hw] at *
      unfold offV at *
      unfold lawBrk
      generalize ((R.o0 >>> h &&& 1:Nat):Int)=bit at *
      repeat' split
      all_goals first | omega | (split at *<;>omega)
     ·refine Run.skip (Run.seq (Run.seq (Run.draw (cx_ok _ _ _) [(0,true),(1,true),(3,true),(4,false),(2,true),(5,true)] (by kernel_rfl) (Dra.op' rfl rfl rfl .sure (Ope.mov rfl ?_)))))
      refine Dra.op' rfl rfl rfl .sure (Ope.mov rfl ?_)
      refine Dra.op' rfl rfl rfl .sure (Ope.fld rfl rfl ?_)
      refine Dra.op' rfl rfl rfl (.load rfl) (Ope.load rfl rfl ?_)
      refine Dra.op' rfl rfl rfl .sure (Ope.cf rfl rfl h109 hb ?_)
      refine Dra.op' rfl rfl rfl .sure (Ope.gt rfl rfl ?_)
      refine Dra.nil (Run.condX rfl (fun hc=>?_) fun hc=>?_)
      ·refine Run.seq (Run.region (cx_ok _ _ _) (Reg.op rfl (Ope.asg rfl ?_)))
       refine Reg.nil (Run.ret (Jmp.code (fin_ret (.tmp rfl .nil) rfl ?_)))
       refine congrArg I ?_
       rw [Rst.law,if_pos (hgd.trans hw)]
       rw [hw] at *
       unfold offV at *
       unfold lawBrk
       generalize ((R.o0 >>> h &&& 1:Nat):Int)=bit at *
       repeat' split
       all_goals first | omega | (split at *<;>omega)
      ·refine Run.skip (Run.seq (Run.region (cx_ok _ _ _) (Reg.op rfl (Ope.mov rfl ?_))))
       refine Reg.op rfl (Ope.mov rfl ?_)
       refine Reg.op rfl (Ope.cf rfl rfl h110 hb ?_)
       refine Reg.op rfl (Ope.asg rfl ?_)
       refine Reg.nil (Run.seq (Run.seq (Run.region (cx_ok _ _ _) (Reg.op rfl (Ope.mov rfl ?_)))))
       refine Reg.op rfl (Ope.gt rfl rfl ?_)
       refine Reg.op rfl (Ope.mov rfl ?_)
       refine Reg.splitX rfl rfl (fun hg=>?_) fun hg=>?_
       ·refine Reg.on rfl rfl rfl (Ope.mov rfl ?_)
        refine Reg.on rfl rfl rfl (Ope.fld rfl rfl ?_)
        refine Reg.on rfl rfl rfl (Ope.load rfl rfl ?_)
        refine Reg.on rfl rfl rfl (Ope.lt rfl rfl ?_)
        refine Reg.op rfl (Ope.pickT rfl rfl ?_)
        refine Reg.nil (Run.condX rfl (fun hc=>?_) fun hc=>?_)
        ·refine Run.seq (Run.region (cx_ok _ _ _) (Reg.op rfl (Ope.asg rfl ?_)))
         refine Reg.nil (Run.ret (Jmp.code (fin_ret (.tmp rfl .nil) rfl ?_)))
         refine congrArg I ?_
         rw [Rst.law,if_pos (hgd.trans hw)]
         rw [hw] at *
         unfold offV at *
         unfold lawBrk
         generalize ((R.o0 >>> h &&& 1:Nat):Int)=bit at *
         repeat' split
         all_goals first | omega | (split at *<;>omega)
        ·refine Run.skip (Run.seq (Run.region (cx_ok _ _ _) (Reg.op rfl (Ope.asg rfl ?_))))
         refine Reg.nil (Run.ret (fin_ret (.tmp rfl .nil) rfl ?_))
         refine congrArg I ?_
         rw [Rst.law,if_pos (hgd.trans hw)]
         rw [hw] at *
         unfold offV at *
         unfold lawBrk
         generalize ((R.o0 >>> h &&& 1:Nat):Int)=bit at *
         repeat' split
         all_goals first | omega | (split at *<;>omega)
       ·refine Reg.off rfl rfl rfl (Reg.off rfl rfl rfl (Reg.off rfl rfl rfl (Reg.off rfl rfl rfl (Reg.op rfl (Ope.pickF rfl rfl ?_)))))
        refine Reg.nil (Run.condF rfl (Run.skip (Run.seq (Run.region (cx_ok _ _ _) (Reg.op rfl (Ope.asg rfl ?_))))))
        refine Reg.nil (Run.ret (fin_ret (.tmp rfl .nil) rfl ?_))
        refine congrArg I ?_
        rw [Rst.law,if_pos (hgd.trans hw)]
        rw [hw] at *
        unfold offV at *
        unfold lawBrk
        generalize ((R.o0 >>> h &&& 1:Nat):Int)=bit at *
        repeat' split
        all_goals first | omega | (split at *<;>omega)
  · have hw2 := hw
    refine PFun.of (C:=c58) (cx_ok _ _ _) rfl (fn:=Tryz.f58) (by kernel_rfl) (c:=_) rfl rfl rfl ?_
    refine Run.seq (Run.region (cx_ok _ _ _) (Reg.op rfl (Ope.boxF rfl rfl ?_)))
    refine Reg.op rfl (Ope.asg rfl ?_)
    refine Reg.nil (Run.seq (Run.region (cx_ok _ _ _) (Reg.op rfl (Ope.mov rfl ?_))))
    refine Reg.op rfl (Ope.mov rfl ?_)
    refine Reg.op rfl (Ope.idxM (m:=h) rfl rfl rfl hh (fun _=>rfl) ?_)
    refine Reg.op rfl (Ope.load rfl rfl ?_)
    refine Reg.op rfl (Ope.fld rfl rfl ?_)
    refine Reg.op rfl (Ope.idxA (m:=1) rfl rfl (by show natK xs[h]=_;rw [hw];rfl) rfl ?_)
    refine Reg.op rfl (Ope.load rfl rfl ?_)
    refine Reg.op rfl (Ope.newL rfl ?_)
    refine Reg.op0 (Ope.store rfl rfl rfl rfl rfl rfl ?_)
    refine Reg.nil (Run.seq (Run.seq (Run.frz (d:=7) true rfl rfl rfl ?_)))
    refine Run.wide (Nat.le_refl _) Hsub.nil ?_
    refine Run.region (cx_ok _ _ _) (Reg.op rfl (Ope.fld rfl rfl ?_))
    refine Reg.op rfl (Ope.load rfl rfl ?_)
    refine Reg.op rfl (Ope.mov rfl ?_)
    refine Reg.op rfl (Ope.cf rfl rfl (f80 R.o1 h ho1 (by omega)) rfl ?_)
    refine Reg.nil (Run.condX rfl (fun hc=>?_) fun hc=>?_)
    ·refine Run.seq (Run.region (cx_ok _ _ _) (Reg.op rfl (Ope.asg rfl ?_)))
     refine Reg.nil (Run.ret (Jmp.code (fin_ret (.tmp rfl .nil) rfl ?_)))
     refine congrArg I ?_
     rw [Rst.law,if_neg (by rw [hgd,hw];decide)]
     rw [hw] at *
     unfold offV at *
     unfold lawBrk
     generalize ((R.o1 >>> h &&& 1:Nat):Int)=bit at *
     repeat' split
     all_goals first | omega | (split at *<;>omega)
    ·refine Run.skip (Run.seq (Run.seq (Run.draw (cx_ok _ _ _) [(0,true),(1,true),(3,true),(4,false),(2,true),(5,true)] (by kernel_rfl) (Dra.op' rfl rfl rfl .sure (Ope.mov rfl ?_)))))
     refine Dra.op' rfl rfl rfl .sure (Ope.mov rfl ?_)
     refine Dra.op' rfl rfl rfl .sure (Ope.fld rfl rfl ?_)
     refine Dra.op' rfl rfl rfl (.load rfl) (Ope.load rfl rfl ?_)
     refine Dra.op' rfl rfl rfl .sure (Ope.cf rfl rfl h108 hb ?_)
     refine Dra.op' rfl rfl rfl .sure (Ope.gt rfl rfl ?_)
     refine Dra.nil (Run.condX rfl (fun hc=>?_) fun hc=>?_)
     ·refine Run.seq (Run.region (cx_ok _ _ _) (Reg.op rfl (Ope.asg rfl ?_)))
      refine Reg.nil (Run.ret (Jmp.code (fin_ret (.tmp rfl .nil) rfl ?_)))
      refine congrArg I ?_
      rw [Rst.law,if_neg (by rw [hgd,hw];decide)]
      rw [hw] at *
      unfold offV at *
      unfold lawBrk
      generalize ((R.o1 >>> h &&& 1:Nat):Int)=bit at *
      repeat' split
      all_goals first | omega | (split at *<;>omega)
     ·refine Run.skip (Run.seq (Run.seq (Run.draw (cx_ok _ _ _) [(0,true),(1,true),(3,true),(4,false),(2,true),(5,true)] (by kernel_rfl) (Dra.op' rfl rfl rfl .sure (Ope.mov rfl ?_)))))
      refine Dra.op' rfl rfl rfl .sure (Ope.mov rfl ?_)
      refine Dra.op' rfl rfl rfl .sure (Ope.fld rfl rfl ?_)
      refine Dra.op' rfl rfl rfl (.load rfl) (Ope.load rfl rfl ?_)
      refine Dra.op' rfl rfl rfl .sure (Ope.cf rfl rfl h109 hb ?_)
      refine Dra.op' rfl rfl rfl .sure (Ope.gt rfl rfl ?_)
      refine Dra.nil (Run.condX rfl (fun hc=>?_) fun hc=>?_)
      ·refine Run.seq (Run.region (cx_ok _ _ _) (Reg.op rfl (Ope.asg rfl ?_)))
       refine Reg.nil (Run.ret (Jmp.code (fin_ret (.tmp rfl .nil) rfl ?_)))
       refine congrArg I ?_
       rw [Rst.law,if_neg (by rw [hgd,hw];decide)]
       rw [hw] at *
       unfold offV at *
       unfold lawBrk
       generalize ((R.o1 >>> h &&& 1:Nat):Int)=bit at *
       repeat' split
       all_goals first | omega | (split at *<;>omega)
      ·refine Run.skip (Run.seq (Run.region (cx_ok _ _ _) (Reg.op rfl (Ope.mov rfl ?_))))
       refine Reg.op rfl (Ope.mov rfl ?_)
       refine Reg.op rfl (Ope.cf rfl rfl h110 hb ?_)
       refine Reg.op rfl (Ope.asg rfl ?_)
       refine Reg.nil (Run.seq (Run.seq (Run.region (cx_ok _ _ _) (Reg.op rfl (Ope.mov rfl ?_)))))
       refine Reg.op rfl (Ope.gt rfl rfl ?_)
       refine Reg.op rfl (Ope.mov rfl ?_)
       refine Reg.splitX rfl rfl (fun hg=>?_) fun hg=>?_
       ·refine Reg.on rfl rfl rfl (Ope.mov rfl ?_)
        refine Reg.on rfl rfl rfl (Ope.fld rfl rfl ?_)
        refine Reg.on rfl rfl rfl (Ope.load rfl rfl ?_)
        refine Reg.on rfl rfl rfl (Ope.lt rfl rfl ?_)
        refine Reg.op rfl (Ope.pickT rfl rfl ?_)
        refine Reg.nil (Run.condX rfl (fun hc=>?_) fun hc=>?_)
        ·refine Run.seq (Run.region (cx_ok _ _ _) (Reg.op rfl (Ope.asg rfl ?_)))
         refine Reg.nil (Run.ret (Jmp.code (fin_ret (.tmp rfl .nil) rfl ?_)))
         refine congrArg I ?_
         rw [Rst.law,if_neg (by rw [hgd,hw];decide)]
         rw [hw] at *
         unfold offV at *
         unfold lawBrk
         generalize ((R.o1 >>> h &&& 1:Nat):Int)=bit at *
         repeat' split
         all_goals first | omega | (split at *<;>omega)
        ·refine Run.skip (Run.seq (Run.region (cx_ok _ _ _) (Reg.op rfl (Ope.asg rfl ?_))))
         refine Reg.nil (Run.ret (fin_ret (.tmp rfl .nil) rfl ?_))
         refine congrArg I ?_
         rw [Rst.law,if_neg (by rw [hgd,hw];decide)]
         rw [hw] at *
         unfold offV at *
         unfold lawBrk
         generalize ((R.o1 >>> h &&& 1:Nat):Int)=bit at *
         repeat' split
         all_goals first | omega | (split at *<;>omega)
       ·refine Reg.off rfl rfl rfl (Reg.off rfl rfl rfl (Reg.off rfl rfl rfl (Reg.off rfl rfl rfl (Reg.op rfl (Ope.pickF rfl rfl ?_)))))
        refine Reg.nil (Run.condF rfl (Run.skip (Run.seq (Run.region (cx_ok _ _ _) (Reg.op rfl (Ope.asg rfl ?_))))))
        refine Reg.nil (Run.ret (fin_ret (.tmp rfl .nil) rfl ?_))
        refine congrArg I ?_
        rw [Rst.law,if_neg (by rw [hgd,hw];decide)]
        rw [hw] at *
        unfold offV at *
        unfold lawBrk
        generalize ((R.o1 >>> h &&& 1:Nat):Int)=bit at *
        repeat' split
        all_goals first | omega | (split at *<;>omega)
theorem f114 (R : Rst) (hR : R.ok) (tl : Tail) (htl : tl.isOwn = false) (xs : List Int) (hx : ∀ x ∈ xs, x = 0 ∨ x = 1) (hl : xs.length ≤ 16) : Fn P0 114 [.agg R.cells, .sl tl (xs.map I)] (B (rt R zeroRid xs)) := by
  have hrt:=rt_law (R:=R) hx
  have hb:∀ i:Nat,PV.bds 0 [.agg R.cells,.sl tl (xs.map I),I i]=true:=by
    intro i
    simp only [PV.bds,bd_sl (f:=I) htl (fun _=>rfl) xs,Bool.true_and,Bool.and_true]
    rfl
  refine PFun.of (C:=c114) (cx_ok _ _ _) rfl (fn:=Tryz.f114) (by kernel_rfl) (c:=_) rfl rfl rfl ?_
  refine Run.seq (Run.region (cx_ok _ _ _) (Reg.op rfl (Ope.boxF rfl rfl ?_)))
  refine Reg.op rfl (Ope.asg rfl ?_)
  refine Reg.nil (Run.seq (Run.seq (Run.region (cx_ok _ _ _) (Reg.op rfl (Ope.asg rfl ?_)))))
  refine Reg.nil (Run.block (Run.loop (α:=Nat) (fun i=>[(1,.sl tl (xs.map I)),(2,.fp (.agg R.cells)),(5,I i)]) (fun _=>HE 0 []) (fun i=>i≤xs.length∧∀ j,j < i→R.law xs j=0) (fun i=>xs.length - i) 0 ⟨rfl,rfl,rfl,trivial⟩ rfl ⟨Nat.zero_le _,fun j hj=>by omega⟩ (fun i hi=>?_)))
  obtain ⟨hi1,hi2⟩:=hi
  refine Run.seq (Run.seq (Run.region (cx_ok _ _ _) (Reg.op rfl (Ope.mov rfl ?_))))
  refine Reg.op rfl (Ope.mov rfl ?_)
  refine Reg.op rfl (Ope.len (m:=xs.length) rfl (by simp) ?_)
  refine Reg.op rfl (Ope.lt rfl rfl ?_)
  refine Reg.nil (Run.condX rfl (fun hc=>?_) fun hc=>?_)
  ·refine Run.skip (Run.seq (Run.block (Run.seq ?_)))
   have hlt:i < xs.length:=by omega
   refine Run.region (cx_ok _ _ _) (Reg.op rfl (Ope.load rfl rfl ?_))
   refine Reg.op rfl (Ope.mov rfl ?_)
   refine Reg.op rfl (Ope.mov rfl ?_)
   refine Reg.op rfl (Ope.cf rfl rfl (f58 R hR tl htl xs hx hl i hlt) (hb i) ?_)
   refine Reg.op rfl (Ope.ne rfl rfl ?_)
   refine Reg.nil (Run.condX rfl (fun hc=>?_) fun hc=>?_)
   ·refine Run.seq (Run.region (cx_ok _ _ _) (Reg.op rfl (Ope.asg rfl ?_)))
    refine Reg.nil (Run.ret (Jmp.retB (Jmp.code (Jmp.round (Jmp.retB (Jmp.code (fin_ret (.tmp rfl .nil) rfl ?_)))))))
    first
      | (have : rt R zeroRid xs = false := by
           cases hq:rt R zeroRid xs with
           | false=>rfl
           | true=>exact absurd (hrt.1 hq i hlt) hc
         exact congrArg B this.symm)
      | exact congrArg B (hrt.2 fun j hj=>hi2 j (by omega)).symm
   ·refine Run.skip (Run.bend (Run.region (cx_ok _ _ _) (Reg.op rfl (Ope.mov rfl ?_))))
    refine Reg.op rfl (Ope.add rfl rfl (by omega) ?_)
    refine Reg.op rfl (Ope.asg rfl ?_)
    refine Reg.nil ?_
    exact Run.lend ⟨i+1,by omega,⟨by omega,fun j hj=>by
      by_cases hji:j < i
      · exact hi2 j hji
      · have : j = i := by omega
        subst this
        omega⟩,⟨rfl,rfl,rfl,trivial⟩,rfl,rfl⟩
  ·refine Run.exit (Jmp.code (Jmp.round (Jmp.here (Run.seq (Run.region (cx_ok _ _ _) (Reg.op rfl (Ope.asg rfl ?_)))))))
   refine Reg.nil (Run.ret (fin_ret (.tmp rfl .nil) rfl ?_))
   first
     | (have : rt R zeroRid xs = false := by
          cases hq:rt R zeroRid xs with
          | false=>rfl
          | true=>exact absurd (hrt.1 hq i hlt) hc
        exact congrArg B this.symm)
     | exact congrArg B (hrt.2 fun j hj=>hi2 j (by omega)).symm
end Go.Pv
namespace Go.Pv
open Go.Proofs Go.Am
set_option maxRecDepth 10000
end Go.Pv
namespace Go.Pv
open Go.Proofs Go.Am
set_option maxRecDepth 10000
def alls (R:Rst):Nat→List Int→List (List Int)
  | 0,b=>if rt R zeroRid b then [b] else []
  | k+1,b=>if rt R zeroRid b then alls R k (b++[0])++alls R k (b++[1]) else []
theorem rt_snoc (R:Rst):∀ (b:List Int) (d:Rid) (x:Int),rt R d (b++[x])=(rt R d b && decide (R.brk (fin d b) x=0))
  | [], d, x => by
    show (decide (R.brk d x=0) && true)=(true && decide (R.brk d x=0))
    rw [Bool.and_true,Bool.true_and]
  | y :: b, d, x => by
    show (decide (R.brk d y=0) && rt R (d.then y) (b++[x]))=((decide (R.brk d y=0) && rt R (d.then y) b) && decide (R.brk (fin (d.then y) b) x=0))
    rw [rt_snoc R b (d.then y) x,Bool.and_assoc]
theorem fin_snoc:∀ (b:List Int) (d:Rid) (x:Int),fin d (b++[x])=(fin d b).then x
  | [],_,_=>rfl
  | y::b,d,x=>fin_snoc b (d.then y) x
theorem alls_len (R:Rst):∀ (k:Nat) (b:List Int),(alls R k b).length=if rt R zeroRid b=true then cnt R k (fin zeroRid b) else 0
  | 0, b => by
    simp only [alls,cnt]
    split<;>rfl
  | k + 1, b => by
    simp only [alls,cnt]
    split
    · next h =>
      rw [List.length_append,alls_len R k,alls_len R k,rt_snoc,rt_snoc,fin_snoc,fin_snoc,h]
      simp only [Bool.true_and,decide_eq_true_eq]
    · rfl
theorem alls_many (R:Rst) (k:Nat):(alls R k []).length=cnt R k zeroRid:=by
  rw [alls_len]
  rfl
theorem alls_le (R:Rst) (k:Nat) (b:List Int):(alls R k b).length≤2 ^ k:=by
  rw [alls_len]
  split
  · exact cnt_le R k _
  · exact Nat.zero_le _
abbrev fV (b:List Int):PV:=.sl .no (b.map I)
def tlA:Option Nat→Tail
  | none=>.ex
  | some j=>.own j
def ownA:Option Nat→HL
  | none=>[]
  | some j=>[(j,some .own)]
structure OkA (o:Option Nat) (n:Nat) (out:List (List Int)):Prop where
  lt:∀ j,o=some j→j < n
  ne:o=none↔out=[]
def QA (out:List (List Int)) (v:PV) (h':PH):Prop:=∃ (m:Nat) (o:Option Nat),OkA o m out∧h'=HE m (ownA o)∧v=.sl (tlA o) (out.map fV)
theorem weak3 {s:St} {a b d:PV} {tl:Tail} {vs vs':List PV} (hv:vs=vs') {xs:List Value} (h:RVs s [a,b,.sl tl vs,d] xs):RVs s [a,b,.sl .no vs',d] xs:=by
  subst hv
  obtain ⟨y1,r1,rfl,h1,h⟩:=RVs_cons.1 h
  obtain ⟨y2,r2,rfl,h2,h⟩:=RVs_cons.1 h
  obtain ⟨y3,r3,rfl,h3,h⟩:=RVs_cons.1 h
  exact RVs_cons.2 ⟨_,_,rfl,h1,RVs_cons.2 ⟨_,_,rfl,h2,RVs_cons.2 ⟨_,_,rfl,RV_tl_no h3,h⟩⟩⟩
theorem ownA_up {o : Option Nat} {n : Nat} (h : ∀ j, o = some j → j < n) {x y z : Option PBlk} : ∀ i b, hget (ownA o) i = some b → hget ((n + 1, x) :: (n, y) :: (n, z) :: ownA o) i = some b := by
  intro i b hb
  cases o with
  | none=>simp [ownA,hget] at hb
  | some j =>
    have hj:=h j rfl
    have hi:i=j:=by
      by_cases hi:i=j
      · exact hi
      · rw [ownA, hget_tl hi] at hb
        simp [hget] at hb
    subst hi
    rw [hget_tl (by omega),hget_tl (by omega),hget_tl (by omega)]
    exact hb
theorem f62r (R:Rst) (hR:R.ok) (N:Nat) (b:List Int) (hb01:∀ x∈b,x=0∨x=1) (hl:b.length≤16) (hrt:rt R zeroRid b=false) (out:List (List Int)) (o:Option Nat) (n:Nat) (ho:OkA o n out) :
    PCall P0 62 [.agg R.cells,I N,.sl .no (b.map I),.sl (tlA o) (out.map fV)] (HE n (ownA o)) (QA out) fun _ _=>False:=by
  have h114:=f114 R hR .no rfl b hb01 hl
  rw [hrt] at h114
  have hbd:PV.bds 0 [.agg R.cells,.sl .no (b.map I)]=true:=by
    simp only [PV.bds,bd_sl (f:=I) (tl:=.no) rfl (fun _=>rfl) b,Bool.and_true]
    rfl
  refine PCall.ofH (C:=c62) (cx_ok _ _ _) rfl (fn:=Tryz.f62) (by kernel_rfl) (c:=_) rfl rfl rfl (fun hok=>?_)
  refine Run.seq (Run.region (cx_ok _ _ _) (Reg.op rfl (Ope.boxF rfl rfl ?_)))
  refine Reg.op rfl (Ope.asg rfl ?_)
  refine Reg.nil (Run.seq (Run.seq (Run.region (cx_ok _ _ _) (Reg.op rfl (Ope.load rfl rfl ?_)))))
  refine Reg.op rfl (Ope.mov rfl ?_)
  refine Reg.op rfl (Ope.cf rfl rfl h114 hbd ?_)
  refine Reg.op rfl (Ope.not rfl ?_)
  refine Reg.nil (Run.condX rfl (fun hc=>?_) fun hc=>?_)
  ·refine Run.seq (Run.region (cx_ok _ _ _) (Reg.op rfl (Ope.mov rfl ?_)))
   refine Reg.op rfl (Ope.asg rfl ?_)
   exact Reg.nil (Run.ret (Jmp.code (finH_ret (.tmp rfl .nil) (Nat.le_refl _) (fun _ _ h=>h) ⟨n,o,ho,rfl,rfl⟩)))
  ·exact absurd hc (by decide)
theorem f62z (R : Rst) (hR : R.ok) (N : Nat) (b : List Int) (hb01 : ∀ x ∈ b, x = 0 ∨ x = 1) (hl : b.length ≤ 16) (hrt : rt R zeroRid b = true) (hN : b.length = N) (out : List (List Int)) (o : Option Nat) (n : Nat) (ho : OkA o n out) (hout : out.length ≤ 200000) :
    PCall P0 62 [.agg R.cells,I N,.sl .no (b.map I),.sl (tlA o) (out.map fV)] (HE n (ownA o)) (QA (out++[b])) fun _ _=>False:=by
  have h114:=f114 R hR .no rfl b hb01 hl
  rw [hrt] at h114
  have hbd:PV.bds 0 [.agg R.cells,.sl .no (b.map I)]=true:=by
    simp only [PV.bds,bd_sl (f:=I) (tl:=.no) rfl (fun _=>rfl) b,Bool.and_true]
    rfl
  have hmap:(out++[b]).map fV=out.map fV++[fV b]:=by simp
  rcases o with _ | j
  all_goals
    refine PCall.ofH (C:=c62) (cx_ok _ _ _) rfl (fn:=Tryz.f62) (by kernel_rfl) (c:=_) rfl rfl rfl (fun hok=>?_)
    refine Run.seq (Run.region (cx_ok _ _ _) (Reg.op rfl (Ope.boxF rfl rfl ?_)))
    refine Reg.op rfl (Ope.asg rfl ?_)
    refine Reg.nil (Run.seq (Run.seq (Run.region (cx_ok _ _ _) (Reg.op rfl (Ope.load rfl rfl ?_)))))
    refine Reg.op rfl (Ope.mov rfl ?_)
    refine Reg.op rfl (Ope.cf rfl rfl h114 hbd ?_)
    refine Reg.op rfl (Ope.not rfl ?_)
    refine Reg.nil (Run.condX rfl (fun hc=>?_) fun hc=>?_)
    ·exact absurd hc (by decide)
    ·refine Run.skip (Run.seq (Run.seq (Run.region (cx_ok _ _ _) (Reg.op rfl (Ope.mov rfl ?_)))))
     refine Reg.op rfl (Ope.len (m:=b.length) rfl (by simp) ?_)
     refine Reg.op rfl (Ope.mov rfl ?_)
     refine Reg.op rfl (Ope.eq rfl rfl ?_)
     refine Reg.nil (Run.condX rfl (fun hc=>?_) fun hc=>?_)
     ·refine Run.seq (Run.region (cx_ok _ _ _) (Reg.op rfl (Ope.mov rfl ?_)))
      refine Reg.op rfl (Ope.mov rfl ?_)
      refine Reg.op rfl (Ope.bsl rfl rfl rfl rfl ?_)
      first
        | (obtain rfl : out = [] := ho.ne.1 rfl
           refine Reg.op rfl (Ope.apO rfl rfl (by simp) (by simp) (by simp) (by decide) (by simp) (by intro v hv;simp only [List.mem_singleton] at hv;subst hv;exact ⟨rfl,rfl⟩) ?_))
        | refine Reg.op rfl (Ope.apP (j:=j) rfl rfl (by simp) (by intro e;have:=(ho.ne).2 (by simpa using e);cases this) hget_hd (by simp;omega) (by simp;omega) (by decide) (by intro v hv;obtain ⟨_,_,rfl⟩:=List.mem_map.1 hv;rfl) (by intro v hv;simp only [List.mem_singleton] at hv;subst hv;exact ⟨rfl,rfl⟩) ?_)
      refine Reg.op rfl (Ope.asg rfl ?_)
      refine Reg.nil (Run.ret (Jmp.code ?_))
      exact finH_ret (.tmp rfl .nil) (Nat.le_refl _) (l':=ownA (some n)) (fun i c h=>by
        by_cases hi:i=n
        · subst hi;rw [hget_hd];rw [ownA,hget_hd] at h;exact h
        · rw [ownA,hget_tl hi] at h;simp [hget] at h) ⟨n+1,some n,⟨fun j hj=>by cases hj;omega,by simp⟩,rfl,by rw [hmap];rfl⟩
     ·exfalso;omega
theorem f62s (R : Rst) (hR : R.ok) (N : Nat) (b : List Int) (hb01 : ∀ x ∈ b, x = 0 ∨ x = 1) (hrt : rt R zeroRid b = true) (k : Nat) (hN : b.length + (k + 1) = N) (hN16 : N ≤ 16) (out : List (List Int)) (o : Option Nat) (n : Nat) (ho : OkA o n out)
    (ih:∀ (z:Nat),z < 2→∀ (out:List (List Int)) (o:Option Nat) (n:Nat),OkA o n out→out.length+2 ^ k≤200000→PCall P0 62 [.agg R.cells,I N,.sl .no ((b++[(z:Int)]).map I),.sl (tlA o) (out.map fV)] (HE n (ownA o)) (QA (out++alls R k (b++[(z:Int)]))) fun _ _=>False)
    (hout:out.length+2 ^ (k+1)≤200000) :
    PCall P0 62 [.agg R.cells,I N,.sl .no (b.map I),.sl (tlA o) (out.map fV)] (HE n (ownA o)) (QA (out++alls R (k+1) b)) fun _ _=>False:=by
  have h114:=f114 R hR .no rfl b hb01 (by omega)
  rw [hrt] at h114
  have hbd:PV.bds 0 [.agg R.cells,.sl .no (b.map I)]=true:=by
    simp only [PV.bds,bd_sl (f:=I) (tl:=.no) rfl (fun _=>rfl) b,Bool.and_true]
    rfl
  have hall:alls R (k+1) b=alls R k (b++[0])++alls R k (b++[1]):=by
    rw [alls,if_pos hrt]
  let oz:Nat→List (List Int):=fun z=>out++(if 1≤z then alls R k (b++[0]) else [])++(if 2≤z then alls R k (b++[1]) else [])
  have hoz1:∀ z,z < 2→oz (z+1)=oz z++alls R k (b++[(z:Int)]):=by
    intro z hz
    rcases (by omega:z=0∨z=1) with rfl | rfl
    · show out ++ alls R k (b ++ [0]) ++ [] = out ++ [] ++ [] ++ alls R k (b ++ [0])
      simp
    · show out ++ alls R k (b ++ [0]) ++ alls R k (b ++ [1]) = out ++ alls R k (b ++ [0]) ++ [] ++ alls R k (b ++ [1])
      simp
  have hoz2:oz 2=out++alls R (k+1) b:=by
    rw [hall]
    show out++alls R k (b++[0])++alls R k (b++[1])=_
    rw [List.append_assoc]
  have hoz0:oz 0=out:=by
    show out++[]++[]=out
    simp
  have hlen:∀ z,z < 2→(oz z).length+2 ^ k≤200000:=by
    intro z hz
    have h0:=alls_le R k (b++[0])
    have hp:2 ^ (k+1)=2 ^ k+2 ^ k:=by rw [Nat.pow_succ];omega
    rcases (by omega:z=0∨z=1) with rfl | rfl
    · rw [hoz0];omega
    · have : oz 1 = out ++ alls R k (b ++ [0]) := by
        show out++alls R k (b++[0])++[]=_
        simp
      rw [this,List.length_append]
      omega
  clear_value oz
  rcases b with _ | ⟨c,b⟩
  all_goals
    refine PCall.ofH (C:=c62) (cx_ok _ _ _) rfl (fn:=Tryz.f62) (by kernel_rfl) (c:=_) rfl rfl rfl (fun hok=>?_)
    refine Run.seq (Run.region (cx_ok _ _ _) (Reg.op rfl (Ope.boxF rfl rfl ?_)))
    refine Reg.op rfl (Ope.asg rfl ?_)
    refine Reg.nil (Run.seq (Run.seq (Run.region (cx_ok _ _ _) (Reg.op rfl (Ope.load rfl rfl ?_)))))
    refine Reg.op rfl (Ope.mov rfl ?_)
    refine Reg.op rfl (Ope.cf rfl rfl h114 hbd ?_)
    refine Reg.op rfl (Ope.not rfl ?_)
    refine Reg.nil (Run.condX rfl (fun hc=>?_) fun hc=>?_)
    ·exact absurd hc (by decide)
    ·refine Run.skip (Run.seq (Run.seq (Run.region (cx_ok _ _ _) (Reg.op rfl (Ope.mov rfl ?_)))))
     first
       | refine Reg.op rfl (Ope.len (m:=(c::b).length) rfl (by simp) ?_)
       | refine Reg.op rfl (Ope.len (m:=0) rfl rfl ?_)
     refine Reg.op rfl (Ope.mov rfl ?_)
     refine Reg.op rfl (Ope.eq rfl rfl ?_)
     refine Reg.nil (Run.condX rfl (fun hc=>?_) fun hc=>?_)
     ·exfalso;simp only [List.length_cons,List.length_nil] at *;omega
     ·refine Run.skip (Run.seq (Run.seq (Run.region (cx_ok _ _ _) (Reg.op rfl (Ope.asg rfl ?_)))))
      refine Reg.nil (Run.block ?_)
      first
        | refine Run.loop (α:=Nat×Option Nat×Nat) (fun s=>[(1,I N),(2,.sl .no ((c::b).map I)),(3,.sl (tlA s.2.1) ((oz s.1).map fV)),(4,.fp (.agg R.cells)),(9,I s.1)]) (fun s=>HE s.2.2 (ownA s.2.1)) (fun s=>s.1≤2∧OkA s.2.1 s.2.2 (oz s.1)) (fun s=>2 - s.1) (0,o,n) ⟨rfl,rfl,by show some (PV.sl (tlA o) (out.map fV))=some (PV.sl (tlA o) ((oz 0).map fV));rw [hoz0],rfl,rfl,trivial⟩ rfl ⟨by simp,by rw [hoz0];exact ho⟩ (fun s hs=>?_)
        | refine Run.loop (α:=Nat×Option Nat×Nat) (fun s=>[(1,I N),(2,.sl .no []),(3,.sl (tlA s.2.1) ((oz s.1).map fV)),(4,.fp (.agg R.cells)),(9,I s.1)]) (fun s=>HE s.2.2 (ownA s.2.1)) (fun s=>s.1≤2∧OkA s.2.1 s.2.2 (oz s.1)) (fun s=>2 - s.1) (0,o,n) ⟨rfl,rfl,by show some (PV.sl (tlA o) (out.map fV))=some (PV.sl (tlA o) ((oz 0).map fV));rw [hoz0],rfl,rfl,trivial⟩ rfl ⟨by simp,by rw [hoz0];exact ho⟩ (fun s hs=>?_)
      obtain ⟨z,o,m⟩:=s
      obtain ⟨hz,hoA⟩:=hs
      simp only at hz hoA
      first
        | show Run _ _ _ _ [(1,I N),(2,.sl .no ((c::b).map I)),(3,.sl (tlA o) ((oz z).map fV)),(4,.fp (.agg R.cells)),(9,I z)] [] (HE m (ownA o))
        | show Run _ _ _ _ [(1,I N),(2,.sl .no []),(3,.sl (tlA o) ((oz z).map fV)),(4,.fp (.agg R.cells)),(9,I z)] [] (HE m (ownA o))
      refine Run.seq (Run.seq (Run.region (cx_ok _ _ _) (Reg.op rfl (Ope.mov rfl ?_))))
      refine Reg.op rfl (Ope.lt rfl rfl ?_)
      refine Reg.nil (Run.condX rfl (fun hc=>?_) fun hc=>?_)
      ·refine Run.skip (Run.seq (Run.block ?_))
       have hz2:z < 2:=by omega
       refine Run.draw (cx_ok _ _ _) [(0,false),(1,true),(2,true),(3,true),(5,true),(6,true),(8,true),(4,true),(7,true),(9,true),(10,true)] (by kernel_rfl) (Dra.op' rfl rfl rfl (.load rfl) (Ope.load rfl rfl ?_))
       refine Dra.op' rfl rfl rfl .sure (Ope.mov rfl ?_)
       refine Dra.op' rfl rfl rfl .sure (Ope.bsl rfl rfl rfl rfl ?_)
       refine Dra.op' rfl rfl rfl .sure (Ope.mov rfl ?_)
       refine Dra.op' rfl rfl rfl .sure (Ope.mov rfl ?_)
       refine Dra.op' rfl rfl rfl .sure (Ope.bsl rfl rfl rfl rfl ?_)
       refine Dra.op' rfl rfl rfl .sure (Ope.mov rfl ?_)
       first
         | refine Dra.op' rfl rfl rfl .sure (Ope.ap0 rfl rfl ?_)
         | refine Dra.op' rfl rfl rfl .sure (Ope.apO rfl rfl (by simp) (by simp at hN;simp;omega) (by simp at hN;simp;omega) (by decide) (by simp) (by intro v hv;obtain ⟨_,_,rfl⟩:=List.mem_map.1 hv;exact ⟨rfl,rfl⟩) ?_)
       first
         | refine Dra.op' rfl rfl rfl .sure (Ope.apX rfl rfl (by simp) (by simp) (by simp) (by decide) (by simp) (by intro v hv;simp only [List.mem_singleton] at hv;subst hv;exact ⟨rfl,rfl⟩) ?_)
         | refine Dra.op' rfl rfl rfl .sure (Ope.apP (j:=m) rfl rfl (by simp) (by simp) hget_hd (by simp at hN;simp;omega) (by simp at hN;simp;omega) (by decide) (by intro v hv;simp only [List.nil_append] at hv;obtain ⟨_,_,rfl⟩:=List.mem_map.1 hv;rfl) (by intro v hv;simp only [List.mem_singleton] at hv;subst hv;exact ⟨rfl,rfl⟩) ?_)
       first
         | refine Dra.op' rfl rfl rfl .sure (Ope.callW (l':=ownA o) rfl rfl (fun s xs h=>weak3 (vs':=((c::b)++[(z:Int)]).map I) (by simp) h) (Nat.le_refl _) (ownA_up hoA.lt) (ih z hz2 (oz z) o (m+1+1) ⟨fun j hj=>by have:=hoA.lt j hj;omega,hoA.ne⟩ (hlen z hz2)) (fun v h' hq=>?_))
         | refine Dra.op' rfl rfl rfl .sure (Ope.callW (l':=ownA o) rfl rfl (fun s xs h=>weak3 (vs':=([]++[(z:Int)]).map I) (by simp) h) (Nat.le_refl _) (fun _ _ h=>h) (ih z hz2 (oz z) o (m+1) ⟨fun j hj=>by have:=hoA.lt j hj;omega,hoA.ne⟩ (hlen z hz2)) (fun v h' hq=>?_))
       obtain ⟨m2,o2,hok2,rfl,rfl⟩:=hq
       rw [← hoz1 z hz2] at *
       refine Dra.op' rfl rfl rfl .sure (Ope.asg rfl ?_)
       refine Dra.nil (Run.bend (Run.region (cx_ok _ _ _) (Reg.op rfl (Ope.mov rfl ?_))))
       refine Reg.op rfl (Ope.add rfl rfl (by omega) ?_)
       refine Reg.op rfl (Ope.asg rfl ?_)
       exact Reg.nil (Run.lend ⟨(z+1,o2,m2),by simp only;omega,⟨by simp only;omega,hok2⟩,⟨rfl,rfl,rfl,rfl,rfl,trivial⟩,rfl,rfl⟩)
      ·refine Run.exit (Jmp.code (Jmp.round (Jmp.here (Run.seq (Run.region (cx_ok _ _ _) (Reg.op rfl (Ope.mov rfl ?_)))))))
       refine Reg.op rfl (Ope.asg rfl ?_)
       refine Reg.nil (Run.ret ?_)
       obtain rfl:z=2:=by omega
       exact finH_ret (.tmp rfl .nil) (Nat.le_refl _) (fun _ _ h=>h) ⟨m,o,by rw [← hoz2];exact hoA,rfl,by rw [← hoz2];rfl⟩
theorem f62 (R : Rst) (hR : R.ok) (N : Nat) (hN16 : N ≤ 16) : ∀ (k : Nat) (b : List Int) (out : List (List Int)) (o : Option Nat) (n : Nat), (∀ x ∈ b, x = 0 ∨ x = 1) → b.length + k = N → OkA o n out → out.length + 2 ^ k ≤ 200000 →
    PCall P0 62 [.agg R.cells,I N,.sl .no (b.map I),.sl (tlA o) (out.map fV)] (HE n (ownA o)) (QA (out++alls R k b)) fun _ _=>False
  | 0, b, out, o, n, hb, hN, ho, hout => by
    cases hrt:rt R zeroRid b with
    | false =>
      have:=f62r R hR N b hb (by omega) hrt out o n ho
      simpa [alls,hrt] using this
    | true =>
      have:=f62z R hR N b hb (by omega) hrt (by omega) out o n ho (by omega)
      simpa [alls,hrt] using this
  | k + 1, b, out, o, n, hb, hN, ho, hout => by
    cases hrt:rt R zeroRid b with
    | false =>
      have:=f62r R hR N b hb (by omega) hrt out o n ho
      simpa [alls,hrt] using this
    | true =>
      refine f62s R hR N b hb hrt k (by omega) hN16 out o n ho (fun z hz out o n ho hout=>?_) hout
      refine f62 R hR N hN16 k (b++[(z:Int)]) out o n ?_ (by simp;omega) ho hout
      intro x hx
      rcases List.mem_append.1 hx with hx | hx
      · exact hb x hx
      · simp only [List.mem_singleton] at hx
        omega
end Go.Pv
namespace Go.Pv
open Go.Proofs Go.Am
set_option maxRecDepth 10000
theorem okA0 (n:Nat):OkA none n []:=⟨fun j h=>(by cases h),by simp⟩
theorem f14 (h a0 b0 c0 d0 a1 b1 c1 d1 k:Int):Fn P0 14 [.agg [I h,I a0,I b0,I c0,I d0,I a1,I b1,I c1,I d1],I k] (B (decide (k < h) && validR h a0 b0 c0 d0 a1 b1 c1 d1)):=by
  have h33:=f33 h a0 b0 c0 d0 a1 b1 c1 d1
  refine PFun.of (C:=c14) (cx_ok _ _ _) rfl (fn:=Tryz.f14) (by kernel_rfl) (c:=_) rfl rfl rfl ?_
  refine Run.seq (Run.region (cx_ok _ _ _) (Reg.op rfl (Ope.boxF rfl rfl ?_)))
  refine Reg.op rfl (Ope.asg rfl ?_)
  refine Reg.nil (Run.seq (Run.region (cx_ok _ _ _) (Reg.op rfl (Ope.fld rfl rfl ?_))))
  refine Reg.op rfl (Ope.load rfl rfl ?_)
  refine Reg.op rfl (Ope.mov rfl ?_)
  refine Reg.op rfl (Ope.gt rfl rfl ?_)
  refine Reg.op rfl (Ope.mov rfl ?_)
  refine Reg.splitX rfl rfl (fun hg=>?_) fun hg=>?_
  ·refine Reg.on rfl rfl rfl (Ope.load rfl rfl ?_)
   refine Reg.on rfl rfl rfl (Ope.cf rfl rfl h33 rfl ?_)
   refine Reg.op rfl (Ope.pickT rfl rfl ?_)
   refine Reg.op rfl (Ope.asg rfl ?_)
   refine Reg.nil (Run.ret (fin_ret (.tmp rfl .nil) rfl ?_))
   first
     | (rw [decide_eq_true hg,Bool.true_and];rfl)
     | (rw [decide_eq_false hg,Bool.false_and];rfl)
  ·refine Reg.off rfl rfl rfl (Reg.off rfl rfl rfl (Reg.op rfl (Ope.pickF rfl rfl ?_)))
   refine Reg.op rfl (Ope.asg rfl ?_)
   refine Reg.nil (Run.ret (fin_ret (.tmp rfl .nil) rfl ?_))
   first
     | (rw [decide_eq_true hg,Bool.true_and];rfl)
     | (rw [decide_eq_false hg,Bool.false_and];rfl)
end Go.Pv
namespace Go.Pv
open Go.Am Go.RowKit
section
variable {C:Cx} {F:EQ} {X:EX} {k:List KI} {e:EL} {ds:List Nat} {h:PH}
theorem Run.weakT {c:Code} {d:Nat} {tl:Tail} {vs:List PV} (hd:lget e d=some (.sl tl vs)) (hr:Run C F X (.c c::k) ((d,.sl .no vs)::e) ds h):Run C F X (.c c::k) e ds h:=by
 refine Run.ghost (fun t ht=>⟨t.set d (.sl .no vs),?_,?_⟩) hr
 ·intro j u hj
  simp only [lget] at hj
  simp only [T.get_set]
  split at hj
  ·next hb=>rw [if_pos (Nat.eq_of_beq_eq_true hb)];exact hj
  ·next hb =>
   rw [if_neg (fun c=>by subst c;simp at hb)]
   exact ht j u hj
 ·intro w0 s arr a1 a2 a3
  refine ⟨s,rfl,a1,Ext.refl s,a2,?_⟩
  intro j u hj
  simp only [T.get_set] at hj
  split at hj
  ·next hjd =>
   cases hj
   subst hjd
   obtain ⟨x,x1,x2⟩:=a3 j _ (ht j _ hd)
   exact ⟨x,x1,RV_tl_no x2⟩
  ·exact a3 j u hj
end
end Go.Pv
namespace Go.Pv
open Go.Proofs Go.Am
set_option maxRecDepth 10000
theorem bds_fV (n:Nat) (L:List (List Int)):PV.bds n (L.map fV)=true:=by
  induction L with
  | nil=>rfl
  | cons b L ih =>
    simp only [List.map_cons,PV.bds,ih,Bool.and_true]
    simp only [PV.bd]
    induction b with
    | nil=>rfl
    | cons x b ih2 =>
      simp only [List.map_cons,PV.bds,ih2,Bool.and_true]
      rfl
theorem sl_fV (L:List (List Int)):(PV.sl .no (L.map fV)).bd 0=true:=bds_fV 0 L
theorem rt_app (R:Rst):∀ (b c:List Int) (d:Rid),rt R d (b++c)=(rt R d b && rt R (fin d b) c)
  | [], c, d => by
    show rt R d c=(true && rt R d c)
    rw [Bool.true_and]
  | y :: b, c, d => by
    show (decide (R.brk d y=0) && rt R (d.then y) (b++c))=((decide (R.brk d y=0) && rt R (d.then y) b) && rt R (fin (d.then y) b) c)
    rw [rt_app R b c (d.then y),Bool.and_assoc]
theorem mem_alls (R : Rst) : ∀ (k : Nat) (b y : List Int), y ∈ alls R k b ↔ ∃ t : List Int, y = b ++ t ∧ t.length = k ∧ (∀ x ∈ t, x = 0 ∨ x = 1) ∧ rt R zeroRid y = true
  | 0, b, y => by
    simp only [alls]
    constructor
    · intro h
      split at h
      · next hr =>
        simp only [List.mem_singleton] at h
        subst h
        exact ⟨[],by simp,rfl,by simp,hr⟩
      · cases h
    · rintro ⟨t, rfl, h2, _, h4⟩
      have:t=[]:=List.length_eq_zero_iff.1 h2
      subst this
      rw [List.append_nil] at h4 ⊢
      rw [if_pos h4]
      simp
  | k + 1, b, y => by
    simp only [alls]
    constructor
    · intro h
      split at h
      · rcases List.mem_append.1 h with h | h
        · obtain ⟨t, rfl, h2, h3, h4⟩ := (mem_alls R k (b ++ [0]) y).1 h
          refine ⟨0::t,by simp,by simp [h2],?_,h4⟩
          intro x hx
          rcases List.mem_cons.1 hx with rfl | hx
          · exact .inl rfl
          · exact h3 x hx
        · obtain ⟨t, rfl, h2, h3, h4⟩ := (mem_alls R k (b ++ [1]) y).1 h
          refine ⟨1::t,by simp,by simp [h2],?_,h4⟩
          intro x hx
          rcases List.mem_cons.1 hx with rfl | hx
          · exact .inr rfl
          · exact h3 x hx
      · cases h
    · rintro ⟨t, rfl, h2, h3, h4⟩
      have hb:rt R zeroRid b=true:=by
        rw [rt_app,Bool.and_eq_true] at h4
        exact h4.1
      rw [if_pos hb,List.mem_append]
      cases t with
      | nil=>simp at h2
      | cons x t =>
        have ht:∀ z∈t,z=0∨z=1:=fun z hz=>h3 z (List.mem_cons_of_mem _ hz)
        rcases h3 x (by simp) with rfl | rfl
        · exact .inl ((mem_alls R k (b++[0]) _).2 ⟨t,by simp,by simpa using h2,ht,h4⟩)
        · exact .inr ((mem_alls R k (b++[1]) _).2 ⟨t,by simp,by simpa using h2,ht,h4⟩)
theorem mem_all (R:Rst) (y:List Int):y∈alls R R.m []↔Right R R.m zeroRid y:=by
  rw [mem_alls]
  constructor
  · rintro ⟨t, h1, h2, h3, h4⟩
    rw [List.nil_append] at h1
    subst h1
    exact ⟨h2,h3,h4⟩
  · rintro ⟨h1, h2, h3⟩
    exact ⟨y,rfl,h1,h2,h3⟩
def Fst (c:List Int→Int) (L:List (List Int)) (i:Nat) (b:List Int):Prop :=
  ∃ p,p < max i 1∧L[p]?=some b∧(∀ j y,j < i→L[j]?=some y→c b≤c y)∧∀ j y,j < p→L[j]?=some y→c b < c y
theorem Fst.zero {c:List Int→Int} {L:List (List Int)} {b:List Int} (h:L[0]?=some b):Fst c L 0 b:=⟨0,by omega,h,fun j y hj=>by omega,fun j y hj=>by omega⟩
end Go.Pv
