/- Parts of the proof: T46, T47, T48, T49, Pv54 -/
import Derived.Test.YtabejoodkhlnaaaGreatP19
import Derived.Test.YtabejoodkhlnaaaGreatP13
import Derived.ChangeArms
set_option linter.unusedVariables false
set_option linter.unusedSimpArgs false
namespace Go.Pv
open Go.Proofs Go.Am
set_option maxRecDepth 10000
theorem f108 (tl:Tail) (xs:List Int) (hl:xs.length≤16) (h:Nat) (hh:h < xs.length):Fn P0 108 [.sl tl (xs.map I),I h] (I (hst xs xs[h] (h+1)).1):=by
  have hbd:=hst_bound xs xs[h]
  refine PFun.of (C:=c108) (cx_ok _ _ _) rfl (fn:=Tryz.f108) (by kernel_rfl) (c:=_) rfl rfl rfl ?_
  refine Run.seq (Run.region (cx_ok _ _ _) (Reg.op rfl (Ope.asg rfl ?_)))
  refine Reg.nil (Run.seq (Run.region (cx_ok _ _ _) (Reg.op rfl (Ope.asg rfl ?_))))
  refine Reg.nil (Run.seq (Run.seq (Run.region (cx_ok _ _ _) (Reg.op rfl (Ope.asg rfl ?_)))))
  refine Reg.nil (Run.block (Run.loop (α:=Nat) (fun k=>[(0,.sl tl (xs.map I)),(1,I h),(5,I (hst xs xs[h] k).1),(6,I k)]) (fun _=>HE 0 []) (fun k=>k≤h+1) (fun k=>h+1 - k) 0 ⟨rfl,rfl,rfl,rfl,trivial⟩ rfl (Nat.zero_le _) (fun k hk=>?_)))
  obtain ⟨⟨hb1,hb2⟩,_⟩:=hbd k
  refine Run.seq (Run.seq (Run.region (cx_ok _ _ _) (Reg.op rfl (Ope.mov rfl ?_))))
  refine Reg.op rfl (Ope.mov rfl ?_)
  refine Reg.op rfl (Ope.le rfl rfl ?_)
  refine Reg.nil (Run.condX rfl (fun hc=>?_) fun hc=>?_)
  ·refine Run.skip (Run.seq (Run.block (Run.seq ?_)))
   have hlt:k < xs.length:=by omega
   have hgk:xs.getD k 0=xs[k]:=by simp [List.getD,hlt]
   refine Run.draw (cx_ok _ _ _) [(0,true),(1,true),(2,true),(3,true),(4,true),(5,true),(6,true),(7,true),(8,true)] (by kernel_rfl) (Dra.op' rfl rfl rfl .sure (Ope.mov rfl ?_))
   refine Dra.op' rfl rfl rfl .sure (Ope.mov rfl ?_)
   refine Dra.op' rfl rfl rfl .sure (Ope.idxM (m:=k) rfl rfl rfl hlt (fun _=>rfl) ?_)
   refine Dra.op' rfl rfl rfl .sure (Ope.load rfl rfl ?_)
   refine Dra.op' rfl rfl rfl .sure (Ope.mov rfl ?_)
   refine Dra.op' rfl rfl rfl .sure (Ope.mov rfl ?_)
   refine Dra.op' rfl rfl rfl .sure (Ope.idxM (m:=h) rfl rfl rfl hh (fun _=>rfl) ?_)
   refine Dra.op' rfl rfl rfl .sure (Ope.load rfl rfl ?_)
   refine Dra.op' rfl rfl rfl .sure (Ope.eq rfl rfl ?_)
   refine Dra.nil (Run.condX rfl (fun hc=>?_) fun hc=>?_)
   ·refine Run.region (cx_ok _ _ _) (Reg.op rfl (Ope.mov rfl ?_))
    refine Reg.op rfl (Ope.add rfl rfl (by omega) ?_)
    refine Reg.op rfl (Ope.asg rfl ?_)
    refine Reg.nil (Run.bend (Run.region (cx_ok _ _ _) (Reg.op rfl (Ope.mov rfl ?_))))
    refine Reg.op rfl (Ope.add rfl rfl (by omega) ?_)
    refine Reg.op rfl (Ope.asg rfl ?_)
    refine Reg.nil ?_
    first
      | (refine Run.lend ⟨k + 1, by omega, by omega, ⟨rfl, rfl, ?_, rfl, trivial⟩, rfl, rfl⟩
         rw [hst_yes (hgk.trans hc)]
         rfl)
      | (refine Run.lend ⟨k + 1, by omega, by omega, ⟨rfl, rfl, ?_, rfl, trivial⟩, rfl, rfl⟩
         rw [hst_not (fun q=>hc (hgk.symm.trans q))]
         rfl)
   ·refine Run.skip (Run.bend (Run.region (cx_ok _ _ _) (Reg.op rfl (Ope.mov rfl ?_))))
    refine Reg.op rfl (Ope.add rfl rfl (by omega) ?_)
    refine Reg.op rfl (Ope.asg rfl ?_)
    refine Reg.nil ?_
    first
      | (refine Run.lend ⟨k + 1, by omega, by omega, ⟨rfl, rfl, ?_, rfl, trivial⟩, rfl, rfl⟩
         rw [hst_yes (hgk.trans hc)]
         rfl)
      | (refine Run.lend ⟨k + 1, by omega, by omega, ⟨rfl, rfl, ?_, rfl, trivial⟩, rfl, rfl⟩
         rw [hst_not (fun q=>hc (hgk.symm.trans q))]
         rfl)
  ·refine Run.exit (Jmp.code (Jmp.round (Jmp.here (Run.seq (Run.region (cx_ok _ _ _) (Reg.op rfl (Ope.mov rfl ?_)))))))
   refine Reg.op rfl (Ope.asg rfl ?_)
   refine Reg.nil (Run.ret (fin_ret (.tmp rfl .nil) rfl ?_))
   rw [show h+1=k by omega]
   rfl
theorem f109 (tl:Tail) (xs:List Int) (hl:xs.length≤16) (h:Nat) (hh:h < xs.length):Fn P0 109 [.sl tl (xs.map I),I h] (I (hst xs xs[h] (h+1)).2.2):=by
  have hbd:=hst_bound xs xs[h]
  refine PFun.of (C:=c109) (cx_ok _ _ _) rfl (fn:=Tryz.f109) (by kernel_rfl) (c:=_) rfl rfl rfl ?_
  refine Run.seq (Run.region (cx_ok _ _ _) (Reg.op rfl (Ope.asg rfl ?_)))
  refine Reg.nil (Run.seq (Run.region (cx_ok _ _ _) (Reg.op rfl (Ope.asg rfl ?_))))
  refine Reg.nil (Run.seq (Run.seq (Run.region (cx_ok _ _ _) (Reg.op rfl (Ope.mov rfl ?_)))))
  refine Reg.op rfl (Ope.asg rfl ?_)
  refine Reg.nil (Run.block (Run.loop (α:=Nat×Nat) (fun s=>[(0,.sl tl (xs.map I)),(1,I h),(5,I s.1),(6,I ((s.2:Int) - 1))]) (fun _=>HE 0 []) (fun s=>s.1+s.2=h+1∧(hst xs xs[h] (h+1)).2.2=s.1+(hst xs xs[h] s.2).2.2) (fun s=>s.2) (0,h+1) ⟨rfl,rfl,rfl,by show some (I _)=some (I _);exact congrArg (fun z=>some (I z)) (by omega),trivial⟩ rfl ⟨by simp,by simp⟩ (fun s hs=>?_)))
  obtain ⟨j,k⟩:=s
  obtain ⟨hs1,hs2⟩:=hs
  simp only at hs1 hs2
  show Run _ _ _ _ [(0,.sl tl (xs.map I)),(1,I h),(5,I j),(6,I ((k:Int) - 1))] [] (HE 0 [])
  refine Run.seq (Run.seq (Run.draw (cx_ok _ _ _) [(0,true),(1,true),(2,true),(3,true),(4,true),(5,true),(6,true),(7,true),(8,true),(9,true),(10,true),(11,true),(12,true)] (by kernel_rfl) (Dra.op' rfl rfl rfl .sure (Ope.mov rfl ?_))))
  refine Dra.op' rfl rfl rfl .sure (Ope.ge rfl rfl ?_)
  refine Dra.op' rfl rfl rfl .sure (Ope.mov rfl ?_)
  refine Dra.splitX rfl rfl rfl rfl (fun hg=>?_) fun hg=>?_
  ·first
   |(exfalso;omega)
   |refine Dra.on' rfl rfl rfl rfl rfl .sure (Ope.mov rfl ?_)
    refine Dra.on' rfl rfl rfl rfl rfl .sure (Ope.mov rfl ?_)
    obtain ⟨k,rfl⟩:∃ k',k=k'+1:=⟨k - 1,by omega⟩
    have hlt:k < xs.length:=by omega
    have hgk:xs.getD k 0=xs[k]:=by simp [List.getD,hlt]
    refine Dra.on' rfl rfl rfl rfl rfl .sure (Ope.idxM (m:=k) rfl rfl (by first | rfl | (simp [natK];done) | exact natK_sub) hlt (fun _=>rfl) ?_)
    refine Dra.on' rfl rfl rfl rfl rfl .sure (Ope.load rfl rfl ?_)
    refine Dra.on' rfl rfl rfl rfl rfl .sure (Ope.mov rfl ?_)
    refine Dra.on' rfl rfl rfl rfl rfl .sure (Ope.mov rfl ?_)
    refine Dra.on' rfl rfl rfl rfl rfl .sure (Ope.idxM (m:=h) rfl rfl rfl hh (fun _=>rfl) ?_)
    refine Dra.on' rfl rfl rfl rfl rfl .sure (Ope.load rfl rfl ?_)
    refine Dra.on' rfl rfl rfl rfl rfl .sure (Ope.eq rfl rfl ?_)
    refine Dra.op' rfl rfl rfl .sure (Ope.pickT rfl rfl ?_)
    refine Dra.nil (Run.condX rfl (fun hc=>?_) fun hc=>?_)
    ·refine Run.skip (Run.seq (Run.block (Run.region (cx_ok _ _ _) (Reg.op rfl (Ope.mov rfl ?_)))))
     refine Reg.op rfl (Ope.add rfl rfl (by omega) ?_)
     refine Reg.op rfl (Ope.asg rfl ?_)
     refine Reg.nil (Run.bend (Run.region (cx_ok _ _ _) (Reg.op rfl (Ope.mov rfl ?_))))
     refine Reg.op rfl (Ope.sub rfl rfl (by omega) ?_)
     refine Reg.op rfl (Ope.asg rfl ?_)
     refine Reg.nil (Run.lend ⟨(j+1,k),by simp only;omega,⟨by simp only;omega,?_⟩,⟨rfl,rfl,rfl,by show some (I _)=some (I _);exact congrArg (fun z=>some (I z)) (by omega),trivial⟩,rfl,rfl⟩)
     rw [hst_yes (hgk.trans hc)] at hs2
     show _=((j+1:Nat):Int)+_
     simp only at hs2 ⊢
     omega
    ·refine Run.exit (Jmp.code (Jmp.round (Jmp.here (Run.seq (Run.region (cx_ok _ _ _) (Reg.op rfl (Ope.mov rfl ?_)))))))
     refine Reg.op rfl (Ope.asg rfl ?_)
     refine Reg.nil (Run.ret (fin_ret (.tmp rfl .nil) rfl ?_))
     first
       | (rw [hs2, hst_not (fun q => hc (hgk.symm.trans q))]
          exact congrArg I (by simp only;omega))
       | (obtain rfl : k = 0 := by omega
          rw [hs2]
          exact congrArg I (by simp only [hst];omega))
  ·first
   |(exfalso;omega)
   |refine Dra.off' rfl rfl rfl (.inl rfl) rfl (Dra.off' rfl rfl rfl (.inl rfl) rfl (Dra.off' rfl rfl rfl (.inl rfl) rfl (Dra.off' rfl rfl rfl (.inl rfl) rfl (Dra.off' rfl rfl rfl (.inl rfl) rfl (Dra.off' rfl rfl rfl (.inl rfl) rfl (Dra.off' rfl rfl rfl (.inl rfl) rfl (Dra.off' rfl rfl rfl (.inl rfl) rfl (Dra.off' rfl rfl rfl (.inl rfl) rfl (Dra.op' rfl rfl rfl .sure (Ope.pickF rfl rfl ?_))))))))))
    refine Dra.nil (Run.condF rfl (Run.exit (Jmp.code (Jmp.round (Jmp.here (Run.seq (Run.region (cx_ok _ _ _) (Reg.op rfl (Ope.mov rfl ?_)))))))))
    refine Reg.op rfl (Ope.asg rfl ?_)
    refine Reg.nil (Run.ret (fin_ret (.tmp rfl .nil) rfl ?_))
    first
      | (rw [hs2, hst_not (fun q => hc (hgk.symm.trans q))]
         exact congrArg I (by simp only;omega))
      | (obtain rfl : k = 0 := by omega
         rw [hs2]
         exact congrArg I (by simp only [hst];omega))
def offV (xs:List Int) (x:Int) (h:Nat):Int:=if (hst xs x h).2.1 < 0 then -1 else (h:Int) - 1 - (hst xs x h).2.1
theorem f110 (tl : Tail) (xs : List Int) (hl : xs.length ≤ 16) (h : Nat) (hh : h < xs.length) : Fn P0 110 [.sl tl (xs.map I), I h] (I (offV xs xs[h] h)) := by
  have hbd:=hst_bound xs xs[h]
  refine PFun.of (C:=c110) (cx_ok _ _ _) rfl (fn:=Tryz.f110) (by kernel_rfl) (c:=_) rfl rfl rfl ?_
  refine Run.seq (Run.region (cx_ok _ _ _) (Reg.op rfl (Ope.asg rfl ?_)))
  refine Reg.nil (Run.seq (Run.region (cx_ok _ _ _) (Reg.op rfl (Ope.asg rfl ?_))))
  refine Reg.nil (Run.seq (Run.seq (Run.region (cx_ok _ _ _) (Reg.op rfl (Ope.mov rfl ?_)))))
  refine Reg.op rfl (Ope.sub rfl rfl (by omega) ?_)
  refine Reg.op rfl (Ope.asg rfl ?_)
  refine Reg.nil (Run.block (Run.loop (α:=Nat×Nat) (fun s=>[(0,.sl tl (xs.map I)),(1,I h),(5,I s.1),(6,I ((s.2:Int) - 1))]) (fun _=>HE 0 []) (fun s=>s.1+s.2=h∧(hst xs xs[h] h).2.1=(hst xs xs[h] s.2).2.1) (fun s=>s.2) (0,h) ⟨rfl,rfl,rfl,rfl,trivial⟩ rfl ⟨by simp,rfl⟩ (fun s hs=>?_)))
  obtain ⟨j,k⟩:=s
  obtain ⟨hs1,hs2⟩:=hs
  simp only at hs1 hs2
  show Run _ _ _ _ [(0,.sl tl (xs.map I)),(1,I h),(5,I j),(6,I ((k:Int) - 1))] [] (HE 0 [])
  refine Run.seq (Run.seq (Run.region (cx_ok _ _ _) (Reg.op rfl (Ope.mov rfl ?_))))
  refine Reg.op rfl (Ope.ge rfl rfl ?_)
  refine Reg.nil (Run.condX rfl (fun hc=>?_) fun hc=>?_)
  ·refine Run.skip (Run.seq (Run.block (Run.seq (Run.seq ?_))))
   obtain ⟨k,rfl⟩:∃ k',k=k'+1:=⟨k - 1,by omega⟩
   have hlt:k < xs.length:=by omega
   have hgk:xs.getD k 0=xs[k]:=by simp [List.getD,hlt]
   refine Run.draw (cx_ok _ _ _) [(0,true),(1,true),(2,true),(3,true),(4,true),(5,true),(6,true),(7,true),(8,true)] (by kernel_rfl) (Dra.op' rfl rfl rfl .sure (Ope.mov rfl ?_))
   refine Dra.op' rfl rfl rfl .sure (Ope.mov rfl ?_)
   refine Dra.op' rfl rfl rfl .sure (Ope.idxM (m:=k) rfl rfl (by first | rfl | (simp [natK];done) | exact natK_sub) hlt (fun _=>rfl) ?_)
   refine Dra.op' rfl rfl rfl .sure (Ope.load rfl rfl ?_)
   refine Dra.op' rfl rfl rfl .sure (Ope.mov rfl ?_)
   refine Dra.op' rfl rfl rfl .sure (Ope.mov rfl ?_)
   refine Dra.op' rfl rfl rfl .sure (Ope.idxM (m:=h) rfl rfl rfl hh (fun _=>rfl) ?_)
   refine Dra.op' rfl rfl rfl .sure (Ope.load rfl rfl ?_)
   refine Dra.op' rfl rfl rfl .sure (Ope.eq rfl rfl ?_)
   refine Dra.nil (Run.condX rfl (fun hc=>?_) fun hc=>?_)
   ·refine Run.seq (Run.region (cx_ok _ _ _) (Reg.op rfl (Ope.mov rfl ?_)))
    refine Reg.op rfl (Ope.asg rfl ?_)
    refine Reg.nil (Run.ret (Jmp.code (Jmp.retB (Jmp.code (Jmp.round (Jmp.retB (Jmp.code (fin_ret (.tmp rfl .nil) rfl ?_))))))))
    first
      | (rw [hst_yes (hgk.trans hc)] at hs2
         simp only at hs2
         unfold offV
         rw [if_neg (by omega)]
         exact congrArg I (by omega))
      | (obtain rfl : k = 0 := by omega
         simp only [hst] at hs2
         unfold offV
         rw [if_pos (by omega)]
         rfl)
   ·refine Run.skip (Run.region (cx_ok _ _ _) (Reg.op rfl (Ope.mov rfl ?_)))
    refine Reg.op rfl (Ope.add rfl rfl (by omega) ?_)
    refine Reg.op rfl (Ope.asg rfl ?_)
    refine Reg.nil (Run.bend (Run.region (cx_ok _ _ _) (Reg.op rfl (Ope.mov rfl ?_))))
    refine Reg.op rfl (Ope.sub rfl rfl (by omega) ?_)
    refine Reg.op rfl (Ope.asg rfl ?_)
    refine Reg.nil (Run.lend ⟨(j+1,k),by simp only;omega,⟨by simp only;omega,?_⟩,⟨rfl,rfl,rfl,by show some (I _)=some (I _);exact congrArg (fun z=>some (I z)) (by omega),trivial⟩,rfl,rfl⟩)
    rw [hst_not (fun q=>hc (hgk.symm.trans q))] at hs2
    exact hs2
  ·refine Run.exit (Jmp.code (Jmp.round (Jmp.here (Run.seq (Run.region (cx_ok _ _ _) (Reg.op rfl (Ope.asg rfl ?_)))))))
   refine Reg.nil (Run.ret (fin_ret (.tmp rfl .nil) rfl ?_))
   first
     | (rw [hst_yes (hgk.trans hc)] at hs2
        simp only at hs2
        unfold offV
        rw [if_neg (by omega)]
        exact congrArg I (by omega))
     | (obtain rfl : k = 0 := by omega
        simp only [hst] at hs2
        unfold offV
        rw [if_pos (by omega)]
        rfl)
theorem f80 (o n:Nat) (ho:o < 2 ^ 62) (hn:n≤16):Fn P0 80 [I o,I n] (B (decide (((o >>> n &&& 1:Nat):Int)=1))):=by
  have e:o >>> n &&& 1=o / 2 ^ n % 2:=by rw [Nat.and_one_is_mod,Nat.shiftRight_eq_div_pow]
  rw [e]
  have hp:0 < 2 ^ n:=Nat.pow_pos (by decide)
  refine PFun.of (C:=c80) (cx_ok _ _ _) rfl (fn:=Tryz.f80) (by kernel_rfl) (c:=_) rfl rfl rfl ?_
  refine Run.seq (Run.region (cx_ok _ _ _) (Reg.op rfl (Ope.asg rfl ?_)))
  refine Reg.nil (Run.seq (Run.region (cx_ok _ _ _) (Reg.op rfl (Ope.mov rfl ?_))))
  refine Reg.op rfl (Ope.mov rfl ?_)
  refine Reg.op rfl (Ope.cf rfl rfl (f76 n hn) rfl ?_)
  refine Reg.op rfl (Ope.quoN (p:=o) (q:=2 ^ n) rfl rfl rfl rfl hp (by show _ < 2 ^ 63;omega) ?_)
  refine Reg.op rfl (Ope.remN (p:=o / 2 ^ n) (q:=2) rfl rfl rfl rfl (by decide) ?_)
  refine Reg.op rfl (Ope.eq rfl rfl ?_)
  refine Reg.op rfl (Ope.asg rfl ?_)
  refine Reg.nil (Run.ret (fin_ret (.tmp rfl .nil) rfl ?_))
  rfl
theorem f58 (R : Rst) (hR : R.ok) (tl : Tail) (htl : tl.isOwn = false) (xs : List Int) (hx : ∀ x ∈ xs, x = 0 ∨ x = 1) (hl : xs.length ≤ 16) (h : Nat) (hh : h < xs.length) : Fn P0 58 [.agg R.cells, .sl tl (xs.map I), I h] (I (R.law xs h)) := by
  obtain ⟨hm16,ho0,ho1,⟨ht0,ht0'⟩,⟨hr0,hr0'⟩,⟨hf0,hf0'⟩,⟨ht1,ht1'⟩,⟨hr1,hr1'⟩,⟨hf1,hf1'⟩⟩:=hR
  have hgd:xs.getD h 0=xs[h]:=by simp [List.getD,hh]
  have h108:=f108 tl xs hl h hh
  have h109:=f109 tl xs hl h hh
  have h110:=f110 tl xs hl h hh
  have hyes:=hst_yes (L:=xs) (k:=h) (w:=xs[h]) hgd
  rw [hyes] at h108 h109
  have hb:PV.bds 0 [.sl tl (xs.map I),I h]=true:=by
    simp only [PV.bds,bd_sl (f:=I) htl (fun _=>rfl) xs,Bool.true_and]
    rfl
  have hbd:=hst_bound xs xs[h] h
  obtain ⟨⟨q1,q2⟩,⟨q3,q4⟩,q5,q6⟩:=hbd
  rcases hx xs[h] (List.getElem_mem _) with hw | hw
  · have hw2 := hw
    refine PFun.of (C:=c58) (cx_ok _ _ _) rfl (fn:=Tryz.f58) (by kernel_rfl) (c:=_) rfl rfl rfl ?_
    refine Run.seq (Run.region (cx_ok _ _ _) (Reg.op rfl (Ope.boxF rfl rfl ?_)))
    refine Reg.op rfl (Ope.asg rfl ?_)
    refine Reg.nil (Run.seq (Run.region (cx_ok _ _ _) (Reg.op rfl (Ope.mov rfl ?_))))
    refine Reg.op rfl (Ope.mov rfl ?_)
    refine Reg.op rfl (Ope.idxM (m:=h) rfl rfl rfl hh (fun _=>rfl) ?_)
    refine Reg.op rfl (Ope.load rfl rfl ?_)
    refine Reg.op rfl (Ope.fld rfl rfl ?_)
    refine Reg.op rfl (Ope.idxA (m:=0) rfl rfl (by show natK xs[h]=_;rw [hw];rfl) rfl ?_)
    refine Reg.op rfl (Ope.load rfl rfl ?_)
    refine Reg.op rfl (Ope.newL rfl ?_)
    refine Reg.op0 (Ope.store rfl rfl rfl rfl rfl rfl ?_)
    refine Reg.nil (Run.seq (Run.seq (Run.frz (d:=7) true rfl rfl rfl ?_)))
    refine Run.wide (Nat.le_refl _) Hsub.nil ?_
    refine Run.region (cx_ok _ _ _) (Reg.op rfl (Ope.fld rfl rfl ?_))
    refine Reg.op rfl (Ope.load rfl rfl ?_)
    refine Reg.op rfl (Ope.mov rfl ?_)
    refine Reg.op rfl (Ope.cf rfl rfl (f80 R.o0 h ho0 (by omega)) rfl ?_)
    refine Reg.nil (Run.condX rfl (fun hc=>?_) fun hc=>?_)
    ·refine Run.seq (Run.region (cx_ok _ _ _) (Reg.op rfl (Ope.asg rfl ?_)))
     refine Reg.nil (Run.ret (Jmp.code (fin_ret (.tmp rfl .nil) rfl ?_)))
     refine congrArg I ?_
     rw [Rst.law,if_pos (hgd.trans hw)]
     rw [hw] at *
     unfold offV at *
     unfold lawBrk
     generalize ((R.o0 >>> h &&& 1:Nat):Int)=bit at *
     repeat' split
     all_goals first | omega | (split at *<;>omega)
    ·refine Run.skip (Run.seq (Run.seq (Run.draw (cx_ok _ _ _) [(0,true),(1,true),(3,true),(4,false),(2,true),(5,true)] (by kernel_rfl) (Dra.op' rfl rfl rfl .sure (Ope.mov rfl ?_)))))
     refine Dra.op' rfl rfl rfl .sure (Ope.mov rfl ?_)
     refine Dra.op' rfl rfl rfl .sure (Ope.fld rfl rfl ?_)
     refine Dra.op' rfl rfl rfl (.load rfl) (Ope.load rfl rfl ?_)
     refine Dra.op' rfl rfl rfl .sure (Ope.cf rfl rfl h108 hb ?_)
     refine Dra.op' rfl rfl rfl .sure (Ope.gt rfl rfl ?_)
     refine Dra.nil (Run.condX rfl (fun hc=>?_) fun hc=>?_)
     ·refine Run.seq (Run.region (cx_ok _ _ _) (Reg.op rfl (Ope.asg rfl ?_)))
      refine Reg.nil (Run.ret (Jmp.code (fin_ret (.tmp rfl .nil) rfl ?_)))
      refine congrArg I ?_
      rw [Rst.law,if_pos (hgd.trans hw)]
      rw [hw] at *
      unfold offV at *
      unfold lawBrk
      generalize ((R.o0 >>> h &&& 1:Nat):Int)=bit at *
      repeat' split
      all_goals first | omega | (split at *<;>omega)
     ·refine Run.skip (Run.seq (Run.seq (Run.draw (cx_ok _ _ _) [(0,true),(1,true),(3,true),(4,false),(2,true),(5,true)] (by kernel_rfl) (Dra.op' rfl rfl rfl .sure (Ope.mov rfl ?_)))))
      refine Dra.op' rfl rfl rfl .sure (Ope.mov rfl ?_)
      refine Dra.op' rfl rfl rfl .sure (Ope.fld rfl rfl ?_)
      refine Dra.op' rfl rfl rfl (.load rfl) (Ope.load rfl rfl ?_)
      refine Dra.op' rfl rfl rfl .sure (Ope.cf rfl rfl h109 hb ?_)
      refine Dra.op' rfl rfl rfl .sure (Ope.gt rfl rfl ?_)
      refine Dra.nil (Run.condX rfl (fun hc=>?_) fun hc=>?_)
      ·refine Run.seq (Run.region (cx_ok _ _ _) (Reg.op rfl (Ope.asg rfl ?_)))
       refine Reg.nil (Run.ret (Jmp.code (fin_ret (.tmp rfl .nil) rfl ?_)))
       refine congrArg I ?_
       rw [Rst.law,if_pos (hgd.trans hw)]
       rw [hw] at *
       unfold offV at *
       unfold lawBrk
       generalize ((R.o0 >>> h &&& 1:Nat):Int)=bit at *
       repeat' split
       all_goals first | omega | (split at *<;>omega)
      ·refine Run.skip (Run.seq (Run.region (cx_ok _ _ _) (Reg.op rfl (Ope.mov rfl ?_))))
       refine Reg.op rfl (Ope.mov rfl ?_)
       refine Reg.op rfl (Ope.cf rfl rfl h110 hb ?_)
       refine Reg.op rfl (Ope.asg rfl ?_)
       refine Reg.nil (Run.seq (Run.seq (Run.region (cx_ok _ _ _) (Reg.op rfl (Ope.mov rfl ?_)))))
       refine Reg.op rfl (Ope.gt rfl rfl ?_)
       refine Reg.op rfl (Ope.mov rfl ?_)
       refine Reg.splitX rfl rfl (fun hg=>?_) fun hg=>?_
       ·refine Reg.on rfl rfl rfl (Ope.mov rfl ?_)
        refine Reg.on rfl rfl rfl (Ope.fld rfl rfl ?_)
        refine Reg.on rfl rfl rfl (Ope.load rfl rfl ?_)
        refine Reg.on rfl rfl rfl (Ope.lt rfl rfl ?_)
        refine Reg.op rfl (Ope.pickT rfl rfl ?_)
        refine Reg.nil (Run.condX rfl (fun hc=>?_) fun hc=>?_)
        ·refine Run.seq (Run.region (cx_ok _ _ _) (Reg.op rfl (Ope.asg rfl ?_)))
         refine Reg.nil (Run.ret (Jmp.code (fin_ret (.tmp rfl .nil) rfl ?_)))
         refine congrArg I ?_
         rw [Rst.law,if_pos (hgd.trans hw)]
         rw [hw] at *
         unfold offV at *
         unfold lawBrk
         generalize ((R.o0 >>> h &&& 1:Nat):Int)=bit at *
         repeat' split
         all_goals first | omega | (split at *<;>omega)
        ·refine Run.skip (Run.seq (Run.region (cx_ok _ _ _) (Reg.op rfl (Ope.asg rfl ?_))))
         refine Reg.nil (Run.ret (fin_ret (.tmp rfl .nil) rfl ?_))
         refine congrArg I ?_
         rw [Rst.law,if_pos (hgd.trans hw)]
         rw [hw] at *
         unfold offV at *
         unfold lawBrk
         generalize ((R.o0 >>> h &&& 1:Nat):Int)=bit at *
         repeat' split
         all_goals first | omega | (split at *<;>omega)
       ·refine Reg.off rfl rfl rfl (Reg.off rfl rfl rfl (Reg.off rfl rfl rfl (Reg.off rfl rfl rfl (Reg.op rfl (Ope.pickF rfl rfl ?_)))))
        refine Reg.nil (Run.condF rfl (Run.skip (Run.seq (Run.region (cx_ok _ _ _) (Reg.op rfl (Ope.asg rfl ?_))))))
        refine Reg.nil (Run.ret (fin_ret (.tmp rfl .nil) rfl ?_))
        refine congrArg I ?_
        rw [Rst.law,if_pos (hgd.trans hw)]
        rw [hw] at *
        unfold offV at *
        unfold lawBrk
        generalize ((R.o0 >>> h &&& 1:Nat):Int)=bit at *
        repeat' split
        all_goals first | omega | (split at *<;>omega)
  · have hw2 := hw
    refine PFun.of (C:=c58) (cx_ok _ _ _) rfl (fn:=Tryz.f58) (by kernel_rfl) (c:=_) rfl rfl rfl ?_
    refine Run.seq (Run.region (cx_ok _ _ _) (Reg.op rfl (Ope.boxF rfl rfl ?_)))
    refine Reg.op rfl (Ope.asg rfl ?_)
    refine Reg.nil (Run.seq (Run.region (cx_ok _ _ _) (Reg.op rfl (Ope.mov rfl ?_))))
    refine Reg.op rfl (Ope.mov rfl ?_)
    refine Reg.op rfl (Ope.idxM (m:=h) rfl rfl rfl hh (fun _=>rfl) ?_)
    refine Reg.op rfl (Ope.load rfl rfl ?_)
    refine Reg.op rfl (Ope.fld rfl rfl ?_)
    refine Reg.op rfl (Ope.idxA (m:=1) rfl rfl (by show natK xs[h]=_;rw [hw];rfl) rfl ?_)
    refine Reg.op rfl (Ope.load rfl rfl ?_)
    refine Reg.op rfl (Ope.newL rfl ?_)
    refine Reg.op0 (Ope.store rfl rfl rfl rfl rfl rfl ?_)
    refine Reg.nil (Run.seq (Run.seq (Run.frz (d:=7) true rfl rfl rfl ?_)))
    refine Run.wide (Nat.le_refl _) Hsub.nil ?_
    refine Run.region (cx_ok _ _ _) (Reg.op rfl (Ope.fld rfl rfl ?_))
    refine Reg.op rfl (Ope.load rfl rfl ?_)
    refine Reg.op rfl (Ope.mov rfl ?_)
    refine Reg.op rfl (Ope.cf rfl rfl (f80 R.o1 h ho1 (by omega)) rfl ?_)
    refine Reg.nil (Run.condX rfl (fun hc=>?_) fun hc=>?_)
    ·refine Run.seq (Run.region (cx_ok _ _ _) (Reg.op rfl (Ope.asg rfl ?_)))
     refine Reg.nil (Run.ret (Jmp.code (fin_ret (.tmp rfl .nil) rfl ?_)))
     refine congrArg I ?_
     rw [Rst.law,if_neg (by rw [hgd,hw];decide)]
     rw [hw] at *
     unfold offV at *
     unfold lawBrk
     generalize ((R.o1 >>> h &&& 1:Nat):Int)=bit at *
     repeat' split
     all_goals first | omega | (split at *<;>omega)
    ·refine Run.skip (Run.seq (Run.seq (Run.draw (cx_ok _ _ _) [(0,true),(1,true),(3,true),(4,false),(2,true),(5,true)] (by kernel_rfl) (Dra.op' rfl rfl rfl .sure (Ope.mov rfl ?_)))))
     refine Dra.op' rfl rfl rfl .sure (Ope.mov rfl ?_)
     refine Dra.op' rfl rfl rfl .sure (Ope.fld rfl rfl ?_)
     refine Dra.op' rfl rfl rfl (.load rfl) (Ope.load rfl rfl ?_)
     refine Dra.op' rfl rfl rfl .sure (Ope.cf rfl rfl h108 hb ?_)
     refine Dra.op' rfl rfl rfl .sure (Ope.gt rfl rfl ?_)
     refine Dra.nil (Run.condX rfl (fun hc=>?_) fun hc=>?_)
     ·refine Run.seq (Run.region (cx_ok _ _ _) (Reg.op rfl (Ope.asg rfl ?_)))
      refine Reg.nil (Run.ret (Jmp.code (fin_ret (.tmp rfl .nil) rfl ?_)))
      refine congrArg I ?_
      rw [Rst.law,if_neg (by rw [hgd,hw];decide)]
      rw [hw] at *
      unfold offV at *
      unfold lawBrk
      generalize ((R.o1 >>> h &&& 1:Nat):Int)=bit at *
      repeat' split
      all_goals first | omega | (split at *<;>omega)
     ·refine Run.skip (Run.seq (Run.seq (Run.draw (cx_ok _ _ _) [(0,true),(1,true),(3,true),(4,false),(2,true),(5,true)] (by kernel_rfl) (Dra.op' rfl rfl rfl .sure (Ope.mov rfl ?_)))))
      refine Dra.op' rfl rfl rfl .sure (Ope.mov rfl ?_)
      refine Dra.op' rfl rfl rfl .sure (Ope.fld rfl rfl ?_)
      refine Dra.op' rfl rfl rfl (.load rfl) (Ope.load rfl rfl ?_)
      refine Dra.op' rfl rfl rfl .sure (Ope.cf rfl rfl h109 hb ?_)
      refine Dra.op' rfl rfl rfl .sure (Ope.gt rfl rfl ?_)
      refine Dra.nil (Run.condX rfl (fun hc=>?_) fun hc=>?_)
      ·refine Run.seq (Run.region (cx_ok _ _ _) (Reg.op rfl (Ope.asg rfl ?_)))
       refine Reg.nil (Run.ret (Jmp.code (fin_ret (.tmp rfl .nil) rfl ?_)))
       refine congrArg I ?_
       rw [Rst.law,if_neg (by rw [hgd,hw];decide)]
       rw [hw] at *
       unfold offV at *
       unfold lawBrk
       generalize ((R.o1 >>> h &&& 1:Nat):Int)=bit at *
       repeat' split
       all_goals first | omega | (split at *<;>omega)
      ·refine Run.skip (Run.seq (Run.region (cx_ok _ _ _) (Reg.op rfl (Ope.mov rfl ?_))))
       refine Reg.op rfl (Ope.mov rfl ?_)
       refine Reg.op rfl (Ope.cf rfl rfl h110 hb ?_)
       refine Reg.op rfl (Ope.asg rfl ?_)
       refine Reg.nil (Run.seq (Run.seq (Run.region (cx_ok _ _ _) (Reg.op rfl (Ope.mov rfl ?_)))))
       refine Reg.op rfl (Ope.gt rfl rfl ?_)
       refine Reg.op rfl (Ope.mov rfl ?_)
       refine Reg.splitX rfl rfl (fun hg=>?_) fun hg=>?_
       ·refine Reg.on rfl rfl rfl (Ope.mov rfl ?_)
        refine Reg.on rfl rfl rfl (Ope.fld rfl rfl ?_)
        refine Reg.on rfl rfl rfl (Ope.load rfl rfl ?_)
        refine Reg.on rfl rfl rfl (Ope.lt rfl rfl ?_)
        refine Reg.op rfl (Ope.pickT rfl rfl ?_)
        refine Reg.nil (Run.condX rfl (fun hc=>?_) fun hc=>?_)
        ·refine Run.seq (Run.region (cx_ok _ _ _) (Reg.op rfl (Ope.asg rfl ?_)))
         refine Reg.nil (Run.ret (Jmp.code (fin_ret (.tmp rfl .nil) rfl ?_)))
         refine congrArg I ?_
         rw [Rst.law,if_neg (by rw [hgd,hw];decide)]
         rw [hw] at *
         unfold offV at *
         unfold lawBrk
         generalize ((R.o1 >>> h &&& 1:Nat):Int)=bit at *
         repeat' split
         all_goals first | omega | (split at *<;>omega)
        ·refine Run.skip (Run.seq (Run.region (cx_ok _ _ _) (Reg.op rfl (Ope.asg rfl ?_))))
         refine Reg.nil (Run.ret (fin_ret (.tmp rfl .nil) rfl ?_))
         refine congrArg I ?_
         rw [Rst.law,if_neg (by rw [hgd,hw];decide)]
         rw [hw] at *
         unfold offV at *
         unfold lawBrk
         generalize ((R.o1 >>> h &&& 1:Nat):Int)=bit at *
         repeat' split
         all_goals first | omega | (split at *<;>omega)
       ·refine Reg.off rfl rfl rfl (Reg.off rfl rfl rfl (Reg.off rfl rfl rfl (Reg.off rfl rfl rfl (Reg.op rfl (Ope.pickF rfl rfl ?_)))))
        refine Reg.nil (Run.condF rfl (Run.skip (Run.seq (Run.region (cx_ok _ _ _) (Reg.op rfl (Ope.asg rfl ?_))))))
        refine Reg.nil (Run.ret (fin_ret (.tmp rfl .nil) rfl ?_))
        refine congrArg I ?_
        rw [Rst.law,if_neg (by rw [hgd,hw];decide)]
        rw [hw] at *
        unfold offV at *
        unfold lawBrk
        generalize ((R.o1 >>> h &&& 1:Nat):Int)=bit at *
        repeat' split
        all_goals first | omega | (split at *<;>omega)
theorem f114 (R : Rst) (hR : R.ok) (tl : Tail) (htl : tl.isOwn = false) (xs : List Int) (hx : ∀ x ∈ xs, x = 0 ∨ x = 1) (hl : xs.length ≤ 16) : Fn P0 114 [.agg R.cells, .sl tl (xs.map I)] (B (rt R zeroRid xs)) := by
  have hrt:=rt_law (R:=R) hx
  have hb:∀ i:Nat,PV.bds 0 [.agg R.cells,.sl tl (xs.map I),I i]=true:=by
    intro i
    simp only [PV.bds,bd_sl (f:=I) htl (fun _=>rfl) xs,Bool.true_and,Bool.and_true]
    rfl
  refine PFun.of (C:=c114) (cx_ok _ _ _) rfl (fn:=Tryz.f114) (by kernel_rfl) (c:=_) rfl rfl rfl ?_
  refine Run.seq (Run.region (cx_ok _ _ _) (Reg.op rfl (Ope.boxF rfl rfl ?_)))
  refine Reg.op rfl (Ope.asg rfl ?_)
  refine Reg.nil (Run.seq (Run.seq (Run.region (cx_ok _ _ _) (Reg.op rfl (Ope.asg rfl ?_)))))
  refine Reg.nil (Run.block (Run.loop (α:=Nat) (fun i=>[(1,.sl tl (xs.map I)),(2,.fp (.agg R.cells)),(5,I i)]) (fun _=>HE 0 []) (fun i=>i≤xs.length∧∀ j,j < i→R.law xs j=0) (fun i=>xs.length - i) 0 ⟨rfl,rfl,rfl,trivial⟩ rfl ⟨Nat.zero_le _,fun j hj=>by omega⟩ (fun i hi=>?_)))
  obtain ⟨hi1,hi2⟩:=hi
  refine Run.seq (Run.seq (Run.region (cx_ok _ _ _) (Reg.op rfl (Ope.mov rfl ?_))))
  refine Reg.op rfl (Ope.mov rfl ?_)
  refine Reg.op rfl (Ope.len (m:=xs.length) rfl (by simp) ?_)
  refine Reg.op rfl (Ope.lt rfl rfl ?_)
  refine Reg.nil (Run.condX rfl (fun hc=>?_) fun hc=>?_)
  ·refine Run.skip (Run.seq (Run.block (Run.seq ?_)))
   have hlt:i < xs.length:=by omega
   refine Run.region (cx_ok _ _ _) (Reg.op rfl (Ope.load rfl rfl ?_))
   refine Reg.op rfl (Ope.mov rfl ?_)
   refine Reg.op rfl (Ope.mov rfl ?_)
   refine Reg.op rfl (Ope.cf rfl rfl (f58 R hR tl htl xs hx hl i hlt) (hb i) ?_)
   refine Reg.op rfl (Ope.ne rfl rfl ?_)
   refine Reg.nil (Run.condX rfl (fun hc=>?_) fun hc=>?_)
   ·refine Run.seq (Run.region (cx_ok _ _ _) (Reg.op rfl (Ope.asg rfl ?_)))
    refine Reg.nil (Run.ret (Jmp.retB (Jmp.code (Jmp.round (Jmp.retB (Jmp.code (fin_ret (.tmp rfl .nil) rfl ?_)))))))
    first
      | (have : rt R zeroRid xs = false := by
           cases hq:rt R zeroRid xs with
           | false=>rfl
           | true=>exact absurd (hrt.1 hq i hlt) hc
         exact congrArg B this.symm)
      | exact congrArg B (hrt.2 fun j hj=>hi2 j (by omega)).symm
   ·refine Run.skip (Run.bend (Run.region (cx_ok _ _ _) (Reg.op rfl (Ope.mov rfl ?_))))
    refine Reg.op rfl (Ope.add rfl rfl (by omega) ?_)
    refine Reg.op rfl (Ope.asg rfl ?_)
    refine Reg.nil ?_
    exact Run.lend ⟨i+1,by omega,⟨by omega,fun j hj=>by
      by_cases hji:j < i
      · exact hi2 j hji
      · have : j = i := by omega
        subst this
        omega⟩,⟨rfl,rfl,rfl,trivial⟩,rfl,rfl⟩
  ·refine Run.exit (Jmp.code (Jmp.round (Jmp.here (Run.seq (Run.region (cx_ok _ _ _) (Reg.op rfl (Ope.asg rfl ?_)))))))
   refine Reg.nil (Run.ret (fin_ret (.tmp rfl .nil) rfl ?_))
   first
     | (have : rt R zeroRid xs = false := by
          cases hq:rt R zeroRid xs with
          | false=>rfl
          | true=>exact absurd (hrt.1 hq i hlt) hc
        exact congrArg B this.symm)
     | exact congrArg B (hrt.2 fun j hj=>hi2 j (by omega)).symm
end Go.Pv
namespace Go.Pv
open Go.Proofs Go.Am
set_option maxRecDepth 10000
theorem f37g (h a0 b0 c0 d0 a1 b1 c1 d1 : Int) (tl : Tail) (xs : List Int) (hl : xs.length ≤ 1000000) : Fn P0 37 [.agg [I h, I a0, I b0, I c0, I d0, I a1, I b1, I c1, I d1], .sl tl (xs.map I)] (B (planOk h xs)) := by
  refine PFun.of (C:=c37) (cx_ok _ _ _) rfl (fn:=Tryz.f37) (by kernel_rfl) (c:=_) rfl rfl rfl ?_
  refine Run.seq (Run.region (cx_ok _ _ _) (Reg.op rfl (Ope.boxF rfl rfl ?_)))
  refine Reg.op rfl (Ope.asg rfl ?_)
  refine Reg.nil (Run.seq (Run.seq (Run.region (cx_ok _ _ _) (Reg.op rfl (Ope.asg rfl ?_)))))
  refine Reg.nil (Run.block (Run.loop (α:=Nat) (fun i=>[(1,.sl tl (xs.map I)),(2,.fp (.agg [I h,I a0,I b0,I c0,I d0,I a1,I b1,I c1,I d1])),(5,I i)]) (fun _=>HE 0 []) (fun i=>i≤xs.length∧∀ j (hj:j < xs.length),j < i→xs[j]=0∨xs[j]=1) (fun i=>xs.length - i) 0 ⟨rfl,rfl,rfl,trivial⟩ rfl ⟨Nat.zero_le _,fun j _ hj=>by omega⟩ (fun i hi=>?_)))
  obtain ⟨hi1,hi2⟩:=hi
  refine Run.seq (Run.seq (Run.region (cx_ok _ _ _) (Reg.op rfl (Ope.mov rfl ?_))))
  refine Reg.op rfl (Ope.mov rfl ?_)
  refine Reg.op rfl (Ope.len (m:=xs.length) rfl (by simp) ?_)
  refine Reg.op rfl (Ope.lt rfl rfl ?_)
  refine Reg.nil (Run.condX rfl (fun hc=>?_) fun hc=>?_)
  ·refine Run.skip (Run.seq (Run.block (Run.seq ?_)))
   have hlt:i < xs.length:=by omega
   refine Run.region (cx_ok _ _ _) (Reg.op rfl (Ope.mov rfl ?_))
   refine Reg.op rfl (Ope.mov rfl ?_)
   refine Reg.op rfl (Ope.idxM rfl rfl rfl hlt (fun _=>rfl) ?_)
   refine Reg.op rfl (Ope.load rfl rfl ?_)
   refine Reg.op rfl (Ope.cf rfl rfl (f73 _ _ _) rfl ?_)
   refine Reg.op rfl (Ope.not rfl ?_)
   refine Reg.nil (Run.condX rfl (fun hc=>?_) fun hc=>?_)
   ·refine Run.seq (Run.region (cx_ok _ _ _) (Reg.op rfl (Ope.asg rfl ?_)))
    refine Reg.nil (Run.ret (Jmp.retB (Jmp.code (Jmp.round (Jmp.retB (Jmp.code (fin_ret (.tmp rfl .nil) rfl ?_)))))))
    first
      | (have : planOk h xs = false := by
           cases hq:planOk h xs with
           | false=>rfl
           | true =>
             have:=(planOk_iff.1 hq).1 _ (List.getElem_mem hlt)
             simp at hc
             omega
         exact congrArg B this.symm)
      | (refine congrArg B ?_
         rw [planOk]
         have:xs.all (fun x=>decide (x=0) || decide (x=1))=true:=by
           rw [List.all_eq_true]
           intro x hx
           obtain ⟨j,hj,rfl⟩:=List.getElem_of_mem hx
           have:=hi2 j hj (by omega)
           simpa using this
         rw [this,Bool.true_and])
   ·refine Run.skip (Run.bend (Run.region (cx_ok _ _ _) (Reg.op rfl (Ope.mov rfl ?_))))
    refine Reg.op rfl (Ope.add rfl rfl (by omega) ?_)
    refine Reg.op rfl (Ope.asg rfl ?_)
    refine Reg.nil ?_
    exact Run.lend ⟨i+1,by omega,⟨by omega,fun j hj hji=>by
      by_cases h1:j < i
      · exact hi2 j hj h1
      · have : j = i := by omega
        subst this
        simp at hc
        omega⟩,⟨rfl,rfl,rfl,trivial⟩,rfl,rfl⟩
  ·refine Run.exit (Jmp.code (Jmp.round (Jmp.here (Run.seq (Run.region (cx_ok _ _ _) (Reg.op rfl (Ope.mov rfl ?_)))))))
   refine Reg.op rfl (Ope.len (m:=xs.length) rfl (by simp) ?_)
   refine Reg.op rfl (Ope.fld rfl rfl ?_)
   refine Reg.op rfl (Ope.load rfl rfl ?_)
   refine Reg.op rfl (Ope.eq rfl rfl ?_)
   refine Reg.op rfl (Ope.asg rfl ?_)
   refine Reg.nil (Run.ret (fin_ret (.tmp rfl .nil) rfl ?_))
   first
     | (have : planOk h xs = false := by
          cases hq:planOk h xs with
          | false=>rfl
          | true =>
            have:=(planOk_iff.1 hq).1 _ (List.getElem_mem hlt)
            simp at hc
            omega
        exact congrArg B this.symm)
     | (refine congrArg B ?_
        rw [planOk]
        have:xs.all (fun x=>decide (x=0) || decide (x=1))=true:=by
          rw [List.all_eq_true]
          intro x hx
          obtain ⟨j,hj,rfl⟩:=List.getElem_of_mem hx
          have:=hi2 j hj (by omega)
          simpa using this
        rw [this,Bool.true_and])
theorem f17a (h a0 b0 c0 d0 a1 b1 c1 d1:Int) (tl:Tail) (htl:tl.isOwn=false) (xs:List Int) (hl:xs.length≤1000000) (hv:validR h a0 b0 c0 d0 a1 b1 c1 d1=false):Fn P0 17 [.agg [I h,I a0,I b0,I c0,I d0,I a1,I b1,I c1,I d1],.sl tl (xs.map I)] (.tup [I 0,I 0,I 1]):=by
  have h33:=f33 h a0 b0 c0 d0 a1 b1 c1 d1
  rw [hv] at h33
  refine PFun.of (C:=c17) (cx_ok _ _ _) rfl (fn:=Tryz.f17) (by kernel_rfl) (c:=_) rfl rfl rfl ?_
  refine Run.seq (Run.region (cx_ok _ _ _) (Reg.op rfl (Ope.boxF rfl rfl ?_)))
  refine Reg.op rfl (Ope.asg rfl ?_)
  refine Reg.op rfl (Ope.asg rfl ?_)
  refine Reg.op rfl (Ope.asg rfl ?_)
  refine Reg.nil (Run.seq (Run.seq (Run.region (cx_ok _ _ _) (Reg.op rfl (Ope.load rfl rfl ?_)))))
  refine Reg.op rfl (Ope.cf rfl rfl (h33) rfl ?_)
  refine Reg.op rfl (Ope.not rfl ?_)
  refine Reg.nil (Run.condX rfl (fun hc=>?_) fun hc=>?_)
  ·refine Run.seq (Run.region (cx_ok _ _ _) (Reg.op rfl (Ope.asg rfl ?_)))
   refine Reg.op rfl (Ope.asg rfl ?_)
   refine Reg.op rfl (Ope.asg rfl ?_)
   exact Reg.nil (Run.ret (Jmp.code (fin_ret (.tmp rfl (.tmp rfl (.tmp rfl .nil))) rfl rfl)))
  ·exact absurd hc (by decide)
theorem f17b (h a0 b0 c0 d0 a1 b1 c1 d1:Int) (tl:Tail) (htl:tl.isOwn=false) (xs:List Int) (hl:xs.length≤1000000) (hv:validR h a0 b0 c0 d0 a1 b1 c1 d1=true) (hp:planOk h xs=false):Fn P0 17 [.agg [I h,I a0,I b0,I c0,I d0,I a1,I b1,I c1,I d1],.sl tl (xs.map I)] (.tup [I 0,I 0,I 2]):=by
  have h33:=f33 h a0 b0 c0 d0 a1 b1 c1 d1
  rw [hv] at h33
  have h37:=f37g h a0 b0 c0 d0 a1 b1 c1 d1 tl xs hl
  rw [hp] at h37
  refine PFun.of (C:=c17) (cx_ok _ _ _) rfl (fn:=Tryz.f17) (by kernel_rfl) (c:=_) rfl rfl rfl ?_
  refine Run.seq (Run.region (cx_ok _ _ _) (Reg.op rfl (Ope.boxF rfl rfl ?_)))
  refine Reg.op rfl (Ope.asg rfl ?_)
  refine Reg.op rfl (Ope.asg rfl ?_)
  refine Reg.op rfl (Ope.asg rfl ?_)
  refine Reg.nil (Run.seq (Run.seq (Run.region (cx_ok _ _ _) (Reg.op rfl (Ope.load rfl rfl ?_)))))
  refine Reg.op rfl (Ope.cf rfl rfl (h33) rfl ?_)
  refine Reg.op rfl (Ope.not rfl ?_)
  refine Reg.nil (Run.condX rfl (fun hc=>?_) fun hc=>?_)
  ·exact absurd hc (by decide)
  ·refine Run.skip (Run.seq (Run.seq (Run.region (cx_ok _ _ _) (Reg.op rfl (Ope.load rfl rfl ?_)))))
   refine Reg.op rfl (Ope.mov rfl ?_)
   refine Reg.op rfl (Ope.cf rfl rfl h37 (by simp only [List.nil_append,List.append_nil,PV.bds,PV.bd,bd_sl (f:=I) htl (fun _=>rfl) xs,Bool.and_true]) ?_)
   refine Reg.op rfl (Ope.not rfl ?_)
   refine Reg.nil (Run.condX rfl (fun hc=>?_) fun hc=>?_)
   ·refine Run.seq (Run.region (cx_ok _ _ _) (Reg.op rfl (Ope.asg rfl ?_)))
    refine Reg.op rfl (Ope.asg rfl ?_)
    refine Reg.op rfl (Ope.asg rfl ?_)
    exact Reg.nil (Run.ret (Jmp.code (fin_ret (.tmp rfl (.tmp rfl (.tmp rfl .nil))) rfl rfl)))
   ·exact absurd hc (by decide)
theorem f17c (R : Rst) (hR : R.ok) (hv : validR R.m R.o0 R.t0 R.r0 R.f0 R.o1 R.t1 R.r1 R.f1 = true) (tl : Tail) (htl : tl.isOwn = false) (xs : List Int) (hx : ∀ x ∈ xs, x = 0 ∨ x = 1) (hlen : xs.length = R.m) (a b e : Int)
    (H:(a=0∧b=0∧e=4∧∀ i,i < xs.length→R.law xs i=0)∨∃ hh:Nat,hh < xs.length∧a=hh∧b=R.law xs hh∧e=0∧R.law xs hh≠0∧∀ i,i < hh→R.law xs i=0):Fn P0 17 [.agg R.cells,.sl tl (xs.map I)] (.tup [I a,I b,I e]):=by
  have h33:=f33 R.m R.o0 R.t0 R.r0 R.f0 R.o1 R.t1 R.r1 R.f1
  rw [hv] at h33
  have hm16:=hR.1
  have hb:∀ i:Nat,PV.bds 0 [.agg R.cells,.sl tl (xs.map I),I i]=true:=by
    intro i
    simp only [PV.bds,bd_sl (f:=I) htl (fun _=>rfl) xs,Bool.true_and,Bool.and_true]
    rfl
  have hb2:PV.bds 0 [.agg R.cells,.sl tl (xs.map I)]=true:=by
    simp only [PV.bds,bd_sl (f:=I) htl (fun _=>rfl) xs,Bool.and_true]
    rfl
  refine PFun.of (C:=c17) (cx_ok _ _ _) rfl (fn:=Tryz.f17) (by kernel_rfl) (c:=_) rfl rfl rfl ?_
  refine Run.seq (Run.region (cx_ok _ _ _) (Reg.op rfl (Ope.boxF rfl rfl ?_)))
  refine Reg.op rfl (Ope.asg rfl ?_)
  refine Reg.op rfl (Ope.asg rfl ?_)
  refine Reg.op rfl (Ope.asg rfl ?_)
  refine Reg.nil (Run.seq (Run.seq (Run.region (cx_ok _ _ _) (Reg.op rfl (Ope.load rfl rfl ?_)))))
  refine Reg.op rfl (Ope.cf rfl rfl (h33) rfl ?_)
  refine Reg.op rfl (Ope.not rfl ?_)
  refine Reg.nil (Run.condX rfl (fun hc=>?_) fun hc=>?_)
  ·exact absurd hc (by decide)
  ·refine Run.skip (Run.seq (Run.seq (Run.region (cx_ok _ _ _) (Reg.op rfl (Ope.load rfl rfl ?_)))))
   refine Reg.op rfl (Ope.mov rfl ?_)
   refine Reg.op rfl (Ope.cf rfl rfl (f37 R tl xs hx hlen hm16) hb2 ?_)
   refine Reg.op rfl (Ope.not rfl ?_)
   refine Reg.nil (Run.condX rfl (fun hc=>?_) fun hc=>?_)
   ·exact absurd hc (by decide)
   ·refine Run.skip (Run.seq (Run.seq (Run.region (cx_ok _ _ _) (Reg.op rfl (Ope.asg rfl ?_)))))
    refine Reg.nil (Run.block (Run.loop (α:=Nat) (fun i=>[(1,.sl tl (xs.map I)),(2,.fp (.agg R.cells)),(7,I i)]) (fun _=>HE 0 []) (fun i=>i≤xs.length∧∀ j,j < i→R.law xs j=0) (fun i=>xs.length - i) 0 ⟨rfl,rfl,rfl,trivial⟩ rfl ⟨Nat.zero_le _,fun j hj=>by omega⟩ (fun i hi=>?_)))
    obtain ⟨hi1,hi2⟩:=hi
    refine Run.seq (Run.seq (Run.region (cx_ok _ _ _) (Reg.op rfl (Ope.mov rfl ?_))))
    refine Reg.op rfl (Ope.mov rfl ?_)
    refine Reg.op rfl (Ope.len (m:=xs.length) rfl (by simp) ?_)
    refine Reg.op rfl (Ope.lt rfl rfl ?_)
    refine Reg.nil (Run.condX rfl (fun hc=>?_) fun hc=>?_)
    ·refine Run.skip (Run.seq (Run.block (Run.seq ?_)))
     have hlt:i < xs.length:=by omega
     refine Run.region (cx_ok _ _ _) (Reg.op rfl (Ope.load rfl rfl ?_))
     refine Reg.op rfl (Ope.mov rfl ?_)
     refine Reg.op rfl (Ope.mov rfl ?_)
     refine Reg.op rfl (Ope.cf rfl rfl (f58 R hR tl htl xs hx (by omega) i hlt) (hb i) ?_)
     refine Reg.op rfl (Ope.asg rfl ?_)
     refine Reg.nil (Run.seq (Run.region (cx_ok _ _ _) (Reg.op rfl (Ope.mov rfl ?_))))
     refine Reg.op rfl (Ope.ne rfl rfl ?_)
     refine Reg.nil (Run.condX rfl (fun hc=>?_) fun hc=>?_)
     ·refine Run.seq (Run.region (cx_ok _ _ _) (Reg.op rfl (Ope.mov rfl ?_)))
      refine Reg.op rfl (Ope.mov rfl ?_)
      refine Reg.op rfl (Ope.asg rfl ?_)
      refine Reg.op rfl (Ope.asg rfl ?_)
      refine Reg.op rfl (Ope.asg rfl ?_)
      refine Reg.nil (Run.ret (Jmp.retB (Jmp.code (Jmp.round (Jmp.retB (Jmp.code (fin_ret (.tmp rfl (.tmp rfl (.tmp rfl .nil))) rfl ?_)))))))
      first
        | (rcases H with ⟨_, _, _, h4⟩ | ⟨hh, h1, h2, h3, h4, h5, h6⟩
           · exact absurd (h4 i hlt) hc
           · have : hh = i := by
               rcases Nat.lt_trichotomy hh i with q | q | q
               · exact absurd (hi2 hh q) h5
               · exact q
               · exact absurd (h6 i q) hc
             subst this
             rw [h2,h3,h4]
             rfl)
        | (rcases H with ⟨h1, h2, h3, _⟩ | ⟨hh, h1, h2, h3, h4, h5, h6⟩
           · rw [h1, h2, h3]
             rfl
           · exact absurd (hi2 hh (by omega)) h5)
     ·refine Run.skip (Run.bend (Run.region (cx_ok _ _ _) (Reg.op rfl (Ope.mov rfl ?_))))
      refine Reg.op rfl (Ope.add rfl rfl (by omega) ?_)
      refine Reg.op rfl (Ope.asg rfl ?_)
      refine Reg.nil ?_
      exact Run.lend ⟨i+1,by omega,⟨by omega,fun j hj=>by
        by_cases hji:j < i
        · exact hi2 j hji
        · have : j = i := by omega
          subst this
          omega⟩,⟨rfl,rfl,rfl,trivial⟩,rfl,rfl⟩
    ·refine Run.exit (Jmp.code (Jmp.round (Jmp.here (Run.seq (Run.region (cx_ok _ _ _) (Reg.op rfl (Ope.asg rfl ?_)))))))
     refine Reg.op rfl (Ope.asg rfl ?_)
     refine Reg.op rfl (Ope.asg rfl ?_)
     refine Reg.nil (Run.ret (fin_ret (.tmp rfl (.tmp rfl (.tmp rfl .nil))) rfl ?_))
     first
       | (rcases H with ⟨_, _, _, h4⟩ | ⟨hh, h1, h2, h3, h4, h5, h6⟩
          · exact absurd (h4 i hlt) hc
          · have : hh = i := by
              rcases Nat.lt_trichotomy hh i with q | q | q
              · exact absurd (hi2 hh q) h5
              · exact q
              · exact absurd (h6 i q) hc
            subst this
            rw [h2,h3,h4]
            rfl)
       | (rcases H with ⟨h1, h2, h3, _⟩ | ⟨hh, h1, h2, h3, h4, h5, h6⟩
          · rw [h1, h2, h3]
            rfl
          · exact absurd (hi2 hh (by omega)) h5)
theorem f17 (h a0 b0 c0 d0 a1 b1 c1 d1 : Int) (tl : Tail) (htl : tl.isOwn = false) (xs : List Int) (hl : xs.length ≤ 1000000) :
    Fn P0 17 [.agg [I h,I a0,I b0,I c0,I d0,I a1,I b1,I c1,I d1],.sl tl (xs.map I)] (.tup [I (checkV h a0 b0 c0 d0 a1 b1 c1 d1 xs).1,I (checkV h a0 b0 c0 d0 a1 b1 c1 d1 xs).2.1,I (checkV h a0 b0 c0 d0 a1 b1 c1 d1 xs).2.2]):=by
  unfold checkV
  by_cases hv:validR h a0 b0 c0 d0 a1 b1 c1 d1=true
  · rw [if_pos hv]
    by_cases hp:planOk h xs=true
    · rw [if_pos hp]
      obtain ⟨hok,⟨e1,e2,e3⟩,h16⟩:=rstOf_ok hv
      have hcells:(rstOf h a0 b0 c0 d0 a1 b1 c1 d1).cells=[I h,I a0,I b0,I c0,I d0,I a1,I b1,I c1,I d1]:=by
        show [I (h.toNat:Int),I (a0.toNat:Int),I b0,I c0,I d0,I (a1.toNat:Int),I b1,I c1,I d1]=_
        rw [← e1,← e2,← e3]
      rw [← hcells]
      obtain ⟨hx,hlen⟩:=planOk_iff.1 hp
      have hlen':xs.length=(rstOf h a0 b0 c0 d0 a1 b1 c1 d1).m:=by
        show xs.length=h.toNat
        omega
      generalize hR:rstOf h a0 b0 c0 d0 a1 b1 c1 d1=R at *
      have hv':validR R.m R.o0 R.t0 R.r0 R.f0 R.o1 R.t1 R.r1 R.f1=true:=by
        rw [← hR]
        show validR (h.toNat:Int) (a0.toNat:Int) b0 c0 d0 (a1.toNat:Int) b1 c1 d1=true
        rw [← e1,← e2,← e3]
        exact hv
      refine f17c R hok hv' tl htl xs hx hlen' _ _ _ ?_
      rcases fault_law (R:=R) hx xs.length 0 zeroRid (by omega) (sync_zero xs) with ⟨h1,h2⟩ | ⟨hh,h1,h2,h3,h4,h5⟩
      · rw [List.drop_zero] at h1
        rw [h1]
        exact .inl ⟨rfl,rfl,rfl,fun i hi=>h2 i (Nat.zero_le _) hi⟩
      · rw [List.drop_zero] at h3
        rw [h3,if_pos (by show 0 < R.law xs hh;omega)]
        exact .inr ⟨hh,h2,rfl,rfl,rfl,by omega,fun i hi=>h5 i (Nat.zero_le _) hi⟩
    · rw [if_neg hp]
      exact f17b _ _ _ _ _ _ _ _ _ tl htl xs hl hv (by simpa using hp)
  · rw [if_neg hv]
    exact f17a _ _ _ _ _ _ _ _ _ tl htl xs hl (by simpa using hv)
end Go.Pv
namespace Go.Pv
open Go.Proofs Go.Am
set_option maxRecDepth 10000
def alls (R:Rst):Nat→List Int→List (List Int)
  | 0,b=>if rt R zeroRid b then [b] else []
  | k+1,b=>if rt R zeroRid b then alls R k (b++[0])++alls R k (b++[1]) else []
theorem rt_snoc (R:Rst):∀ (b:List Int) (d:Rid) (x:Int),rt R d (b++[x])=(rt R d b && decide (R.brk (fin d b) x=0))
  | [], d, x => by
    show (decide (R.brk d x=0) && true)=(true && decide (R.brk d x=0))
    rw [Bool.and_true,Bool.true_and]
  | y :: b, d, x => by
    show (decide (R.brk d y=0) && rt R (d.then y) (b++[x]))=((decide (R.brk d y=0) && rt R (d.then y) b) && decide (R.brk (fin (d.then y) b) x=0))
    rw [rt_snoc R b (d.then y) x,Bool.and_assoc]
theorem fin_snoc:∀ (b:List Int) (d:Rid) (x:Int),fin d (b++[x])=(fin d b).then x
  | [],_,_=>rfl
  | y::b,d,x=>fin_snoc b (d.then y) x
theorem alls_len (R:Rst):∀ (k:Nat) (b:List Int),(alls R k b).length=if rt R zeroRid b=true then cnt R k (fin zeroRid b) else 0
  | 0, b => by
    simp only [alls,cnt]
    split<;>rfl
  | k + 1, b => by
    simp only [alls,cnt]
    split
    · next h =>
      rw [List.length_append,alls_len R k,alls_len R k,rt_snoc,rt_snoc,fin_snoc,fin_snoc,h]
      simp only [Bool.true_and,decide_eq_true_eq]
    · rfl
theorem alls_many (R:Rst) (k:Nat):(alls R k []).length=cnt R k zeroRid:=by
  rw [alls_len]
  rfl
theorem alls_le (R:Rst) (k:Nat) (b:List Int):(alls R k b).length≤2 ^ k:=by
  rw [alls_len]
  split
  · exact cnt_le R k _
  · exact Nat.zero_le _
abbrev fV (b:List Int):PV:=.sl .no (b.map I)
def tlA:Option Nat→Tail
  | none=>.ex
  | some j=>.own j
def ownA:Option Nat→HL
  | none=>[]
  | some j=>[(j,some .own)]
structure OkA (o:Option Nat) (n:Nat) (out:List (List Int)):Prop where
  lt:∀ j,o=some j→j < n
  ne:o=none↔out=[]
def QA (out:List (List Int)) (v:PV) (h':PH):Prop:=∃ (m:Nat) (o:Option Nat),OkA o m out∧h'=HE m (ownA o)∧v=.sl (tlA o) (out.map fV)
theorem weak3 {s:St} {a b d:PV} {tl:Tail} {vs vs':List PV} (hv:vs=vs') {xs:List Value} (h:RVs s [a,b,.sl tl vs,d] xs):RVs s [a,b,.sl .no vs',d] xs:=by
  subst hv
  obtain ⟨y1,r1,rfl,h1,h⟩:=RVs_cons.1 h
  obtain ⟨y2,r2,rfl,h2,h⟩:=RVs_cons.1 h
  obtain ⟨y3,r3,rfl,h3,h⟩:=RVs_cons.1 h
  exact RVs_cons.2 ⟨_,_,rfl,h1,RVs_cons.2 ⟨_,_,rfl,h2,RVs_cons.2 ⟨_,_,rfl,RV_tl_no h3,h⟩⟩⟩
theorem ownA_up {o : Option Nat} {n : Nat} (h : ∀ j, o = some j → j < n) {x y z : Option PBlk} : ∀ i b, hget (ownA o) i = some b → hget ((n + 1, x) :: (n, y) :: (n, z) :: ownA o) i = some b := by
  intro i b hb
  cases o with
  | none=>simp [ownA,hget] at hb
  | some j =>
    have hj:=h j rfl
    have hi:i=j:=by
      by_cases hi:i=j
      · exact hi
      · rw [ownA, hget_tl hi] at hb
        simp [hget] at hb
    subst hi
    rw [hget_tl (by omega),hget_tl (by omega),hget_tl (by omega)]
    exact hb
theorem f62r (R:Rst) (hR:R.ok) (N:Nat) (b:List Int) (hb01:∀ x∈b,x=0∨x=1) (hl:b.length≤16) (hrt:rt R zeroRid b=false) (out:List (List Int)) (o:Option Nat) (n:Nat) (ho:OkA o n out) :
    PCall P0 62 [.agg R.cells,I N,.sl .no (b.map I),.sl (tlA o) (out.map fV)] (HE n (ownA o)) (QA out) fun _ _=>False:=by
  have h114:=f114 R hR .no rfl b hb01 hl
  rw [hrt] at h114
  have hbd:PV.bds 0 [.agg R.cells,.sl .no (b.map I)]=true:=by
    simp only [PV.bds,bd_sl (f:=I) (tl:=.no) rfl (fun _=>rfl) b,Bool.and_true]
    rfl
  refine PCall.ofH (C:=c62) (cx_ok _ _ _) rfl (fn:=Tryz.f62) (by kernel_rfl) (c:=_) rfl rfl rfl (fun hok=>?_)
  refine Run.seq (Run.region (cx_ok _ _ _) (Reg.op rfl (Ope.boxF rfl rfl ?_)))
  refine Reg.op rfl (Ope.asg rfl ?_)
  refine Reg.nil (Run.seq (Run.seq (Run.region (cx_ok _ _ _) (Reg.op rfl (Ope.load rfl rfl ?_)))))
  refine Reg.op rfl (Ope.mov rfl ?_)
  refine Reg.op rfl (Ope.cf rfl rfl h114 hbd ?_)
  refine Reg.op rfl (Ope.not rfl ?_)
  refine Reg.nil (Run.condX rfl (fun hc=>?_) fun hc=>?_)
  ·refine Run.seq (Run.region (cx_ok _ _ _) (Reg.op rfl (Ope.mov rfl ?_)))
   refine Reg.op rfl (Ope.asg rfl ?_)
   exact Reg.nil (Run.ret (Jmp.code (finH_ret (.tmp rfl .nil) (Nat.le_refl _) (fun _ _ h=>h) ⟨n,o,ho,rfl,rfl⟩)))
  ·exact absurd hc (by decide)
theorem f62z (R : Rst) (hR : R.ok) (N : Nat) (b : List Int) (hb01 : ∀ x ∈ b, x = 0 ∨ x = 1) (hl : b.length ≤ 16) (hrt : rt R zeroRid b = true) (hN : b.length = N) (out : List (List Int)) (o : Option Nat) (n : Nat) (ho : OkA o n out) (hout : out.length ≤ 200000) :
    PCall P0 62 [.agg R.cells,I N,.sl .no (b.map I),.sl (tlA o) (out.map fV)] (HE n (ownA o)) (QA (out++[b])) fun _ _=>False:=by
  have h114:=f114 R hR .no rfl b hb01 hl
  rw [hrt] at h114
  have hbd:PV.bds 0 [.agg R.cells,.sl .no (b.map I)]=true:=by
    simp only [PV.bds,bd_sl (f:=I) (tl:=.no) rfl (fun _=>rfl) b,Bool.and_true]
    rfl
  have hmap:(out++[b]).map fV=out.map fV++[fV b]:=by simp
  rcases o with _ | j
  all_goals
    refine PCall.ofH (C:=c62) (cx_ok _ _ _) rfl (fn:=Tryz.f62) (by kernel_rfl) (c:=_) rfl rfl rfl (fun hok=>?_)
    refine Run.seq (Run.region (cx_ok _ _ _) (Reg.op rfl (Ope.boxF rfl rfl ?_)))
    refine Reg.op rfl (Ope.asg rfl ?_)
    refine Reg.nil (Run.seq (Run.seq (Run.region (cx_ok _ _ _) (Reg.op rfl (Ope.load rfl rfl ?_)))))
    refine Reg.op rfl (Ope.mov rfl ?_)
    refine Reg.op rfl (Ope.cf rfl rfl h114 hbd ?_)
    refine Reg.op rfl (Ope.not rfl ?_)
    refine Reg.nil (Run.condX rfl (fun hc=>?_) fun hc=>?_)
    ·exact absurd hc (by decide)
    ·refine Run.skip (Run.seq (Run.seq (Run.region (cx_ok _ _ _) (Reg.op rfl (Ope.mov rfl ?_)))))
     refine Reg.op rfl (Ope.len (m:=b.length) rfl (by simp) ?_)
     refine Reg.op rfl (Ope.mov rfl ?_)
     refine Reg.op rfl (Ope.eq rfl rfl ?_)
     refine Reg.nil (Run.condX rfl (fun hc=>?_) fun hc=>?_)
     ·refine Run.seq (Run.region (cx_ok _ _ _) (Reg.op rfl (Ope.mov rfl ?_)))
      refine Reg.op rfl (Ope.mov rfl ?_)
      refine Reg.op rfl (Ope.bsl rfl rfl rfl rfl ?_)
      first
        | (obtain rfl : out = [] := ho.ne.1 rfl
           refine Reg.op rfl (Ope.apO rfl rfl (by simp) (by simp) (by simp) (by decide) (by simp) (by intro v hv;simp only [List.mem_singleton] at hv;subst hv;exact ⟨rfl,rfl⟩) ?_))
        | refine Reg.op rfl (Ope.apP (j:=j) rfl rfl (by simp) (by intro e;have:=(ho.ne).2 (by simpa using e);cases this) hget_hd (by simp;omega) (by simp;omega) (by decide) (by intro v hv;obtain ⟨_,_,rfl⟩:=List.mem_map.1 hv;rfl) (by intro v hv;simp only [List.mem_singleton] at hv;subst hv;exact ⟨rfl,rfl⟩) ?_)
      refine Reg.op rfl (Ope.asg rfl ?_)
      refine Reg.nil (Run.ret (Jmp.code ?_))
      exact finH_ret (.tmp rfl .nil) (Nat.le_refl _) (l':=ownA (some n)) (fun i c h=>by
        by_cases hi:i=n
        · subst hi;rw [hget_hd];rw [ownA,hget_hd] at h;exact h
        · rw [ownA,hget_tl hi] at h;simp [hget] at h) ⟨n+1,some n,⟨fun j hj=>by cases hj;omega,by simp⟩,rfl,by rw [hmap];rfl⟩
     ·exfalso;omega
theorem f62s (R : Rst) (hR : R.ok) (N : Nat) (b : List Int) (hb01 : ∀ x ∈ b, x = 0 ∨ x = 1) (hrt : rt R zeroRid b = true) (k : Nat) (hN : b.length + (k + 1) = N) (hN16 : N ≤ 16) (out : List (List Int)) (o : Option Nat) (n : Nat) (ho : OkA o n out)
    (ih:∀ (z:Nat),z < 2→∀ (out:List (List Int)) (o:Option Nat) (n:Nat),OkA o n out→out.length+2 ^ k≤200000→PCall P0 62 [.agg R.cells,I N,.sl .no ((b++[(z:Int)]).map I),.sl (tlA o) (out.map fV)] (HE n (ownA o)) (QA (out++alls R k (b++[(z:Int)]))) fun _ _=>False)
    (hout:out.length+2 ^ (k+1)≤200000) :
    PCall P0 62 [.agg R.cells,I N,.sl .no (b.map I),.sl (tlA o) (out.map fV)] (HE n (ownA o)) (QA (out++alls R (k+1) b)) fun _ _=>False:=by
  have h114:=f114 R hR .no rfl b hb01 (by omega)
  rw [hrt] at h114
  have hbd:PV.bds 0 [.agg R.cells,.sl .no (b.map I)]=true:=by
    simp only [PV.bds,bd_sl (f:=I) (tl:=.no) rfl (fun _=>rfl) b,Bool.and_true]
    rfl
  have hall:alls R (k+1) b=alls R k (b++[0])++alls R k (b++[1]):=by
    rw [alls,if_pos hrt]
  let oz:Nat→List (List Int):=fun z=>out++(if 1≤z then alls R k (b++[0]) else [])++(if 2≤z then alls R k (b++[1]) else [])
  have hoz1:∀ z,z < 2→oz (z+1)=oz z++alls R k (b++[(z:Int)]):=by
    intro z hz
    rcases (by omega:z=0∨z=1) with rfl | rfl
    · show out ++ alls R k (b ++ [0]) ++ [] = out ++ [] ++ [] ++ alls R k (b ++ [0])
      simp
    · show out ++ alls R k (b ++ [0]) ++ alls R k (b ++ [1]) = out ++ alls R k (b ++ [0]) ++ [] ++ alls R k (b ++ [1])
      simp
  have hoz2:oz 2=out++alls R (k+1) b:=by
    rw [hall]
    show out++alls R k (b++[0])++alls R k (b++[1])=_
    rw [List.append_assoc]
  have hoz0:oz 0=out:=by
    show out++[]++[]=out
    simp
  have hlen:∀ z,z < 2→(oz z).length+2 ^ k≤200000:=by
    intro z hz
    have h0:=alls_le R k (b++[0])
    have hp:2 ^ (k+1)=2 ^ k+2 ^ k:=by rw [Nat.pow_succ];omega
    rcases (by omega:z=0∨z=1) with rfl | rfl
    · rw [hoz0];omega
    · have : oz 1 = out ++ alls R k (b ++ [0]) := by
        show out++alls R k (b++[0])++[]=_
        simp
      rw [this,List.length_append]
      omega
  clear_value oz
  rcases b with _ | ⟨c,b⟩
  all_goals
    refine PCall.ofH (C:=c62) (cx_ok _ _ _) rfl (fn:=Tryz.f62) (by kernel_rfl) (c:=_) rfl rfl rfl (fun hok=>?_)
    refine Run.seq (Run.region (cx_ok _ _ _) (Reg.op rfl (Ope.boxF rfl rfl ?_)))
    refine Reg.op rfl (Ope.asg rfl ?_)
    refine Reg.nil (Run.seq (Run.seq (Run.region (cx_ok _ _ _) (Reg.op rfl (Ope.load rfl rfl ?_)))))
    refine Reg.op rfl (Ope.mov rfl ?_)
    refine Reg.op rfl (Ope.cf rfl rfl h114 hbd ?_)
    refine Reg.op rfl (Ope.not rfl ?_)
    refine Reg.nil (Run.condX rfl (fun hc=>?_) fun hc=>?_)
    ·exact absurd hc (by decide)
    ·refine Run.skip (Run.seq (Run.seq (Run.region (cx_ok _ _ _) (Reg.op rfl (Ope.mov rfl ?_)))))
     first
       | refine Reg.op rfl (Ope.len (m:=(c::b).length) rfl (by simp) ?_)
       | refine Reg.op rfl (Ope.len (m:=0) rfl rfl ?_)
     refine Reg.op rfl (Ope.mov rfl ?_)
     refine Reg.op rfl (Ope.eq rfl rfl ?_)
     refine Reg.nil (Run.condX rfl (fun hc=>?_) fun hc=>?_)
     ·exfalso;simp only [List.length_cons,List.length_nil] at *;omega
     ·refine Run.skip (Run.seq (Run.seq (Run.region (cx_ok _ _ _) (Reg.op rfl (Ope.asg rfl ?_)))))
      refine Reg.nil (Run.block ?_)
      first
        | refine Run.loop (α:=Nat×Option Nat×Nat) (fun s=>[(1,I N),(2,.sl .no ((c::b).map I)),(3,.sl (tlA s.2.1) ((oz s.1).map fV)),(4,.fp (.agg R.cells)),(9,I s.1)]) (fun s=>HE s.2.2 (ownA s.2.1)) (fun s=>s.1≤2∧OkA s.2.1 s.2.2 (oz s.1)) (fun s=>2 - s.1) (0,o,n) ⟨rfl,rfl,by show some (PV.sl (tlA o) (out.map fV))=some (PV.sl (tlA o) ((oz 0).map fV));rw [hoz0],rfl,rfl,trivial⟩ rfl ⟨by simp,by rw [hoz0];exact ho⟩ (fun s hs=>?_)
        | refine Run.loop (α:=Nat×Option Nat×Nat) (fun s=>[(1,I N),(2,.sl .no []),(3,.sl (tlA s.2.1) ((oz s.1).map fV)),(4,.fp (.agg R.cells)),(9,I s.1)]) (fun s=>HE s.2.2 (ownA s.2.1)) (fun s=>s.1≤2∧OkA s.2.1 s.2.2 (oz s.1)) (fun s=>2 - s.1) (0,o,n) ⟨rfl,rfl,by show some (PV.sl (tlA o) (out.map fV))=some (PV.sl (tlA o) ((oz 0).map fV));rw [hoz0],rfl,rfl,trivial⟩ rfl ⟨by simp,by rw [hoz0];exact ho⟩ (fun s hs=>?_)
      obtain ⟨z,o,m⟩:=s
      obtain ⟨hz,hoA⟩:=hs
      simp only at hz hoA
      first
        | show Run _ _ _ _ [(1,I N),(2,.sl .no ((c::b).map I)),(3,.sl (tlA o) ((oz z).map fV)),(4,.fp (.agg R.cells)),(9,I z)] [] (HE m (ownA o))
        | show Run _ _ _ _ [(1,I N),(2,.sl .no []),(3,.sl (tlA o) ((oz z).map fV)),(4,.fp (.agg R.cells)),(9,I z)] [] (HE m (ownA o))
      refine Run.seq (Run.seq (Run.region (cx_ok _ _ _) (Reg.op rfl (Ope.mov rfl ?_))))
      refine Reg.op rfl (Ope.lt rfl rfl ?_)
      refine Reg.nil (Run.condX rfl (fun hc=>?_) fun hc=>?_)
      ·refine Run.skip (Run.seq (Run.block ?_))
       have hz2:z < 2:=by omega
       refine Run.draw (cx_ok _ _ _) [(0,false),(1,true),(2,true),(3,true),(5,true),(6,true),(8,true),(4,true),(7,true),(9,true),(10,true)] (by kernel_rfl) (Dra.op' rfl rfl rfl (.load rfl) (Ope.load rfl rfl ?_))
       refine Dra.op' rfl rfl rfl .sure (Ope.mov rfl ?_)
       refine Dra.op' rfl rfl rfl .sure (Ope.bsl rfl rfl rfl rfl ?_)
       refine Dra.op' rfl rfl rfl .sure (Ope.mov rfl ?_)
       refine Dra.op' rfl rfl rfl .sure (Ope.mov rfl ?_)
       refine Dra.op' rfl rfl rfl .sure (Ope.bsl rfl rfl rfl rfl ?_)
       refine Dra.op' rfl rfl rfl .sure (Ope.mov rfl ?_)
       first
         | refine Dra.op' rfl rfl rfl .sure (Ope.ap0 rfl rfl ?_)
         | refine Dra.op' rfl rfl rfl .sure (Ope.apO rfl rfl (by simp) (by simp at hN;simp;omega) (by simp at hN;simp;omega) (by decide) (by simp) (by intro v hv;obtain ⟨_,_,rfl⟩:=List.mem_map.1 hv;exact ⟨rfl,rfl⟩) ?_)
       first
         | refine Dra.op' rfl rfl rfl .sure (Ope.apX rfl rfl (by simp) (by simp) (by simp) (by decide) (by simp) (by intro v hv;simp only [List.mem_singleton] at hv;subst hv;exact ⟨rfl,rfl⟩) ?_)
         | refine Dra.op' rfl rfl rfl .sure (Ope.apP (j:=m) rfl rfl (by simp) (by simp) hget_hd (by simp at hN;simp;omega) (by simp at hN;simp;omega) (by decide) (by intro v hv;simp only [List.nil_append] at hv;obtain ⟨_,_,rfl⟩:=List.mem_map.1 hv;rfl) (by intro v hv;simp only [List.mem_singleton] at hv;subst hv;exact ⟨rfl,rfl⟩) ?_)
       first
         | refine Dra.op' rfl rfl rfl .sure (Ope.callW (l':=ownA o) rfl rfl (fun s xs h=>weak3 (vs':=((c::b)++[(z:Int)]).map I) (by simp) h) (Nat.le_refl _) (ownA_up hoA.lt) (ih z hz2 (oz z) o (m+1+1) ⟨fun j hj=>by have:=hoA.lt j hj;omega,hoA.ne⟩ (hlen z hz2)) (fun v h' hq=>?_))
         | refine Dra.op' rfl rfl rfl .sure (Ope.callW (l':=ownA o) rfl rfl (fun s xs h=>weak3 (vs':=([]++[(z:Int)]).map I) (by simp) h) (Nat.le_refl _) (fun _ _ h=>h) (ih z hz2 (oz z) o (m+1) ⟨fun j hj=>by have:=hoA.lt j hj;omega,hoA.ne⟩ (hlen z hz2)) (fun v h' hq=>?_))
       obtain ⟨m2,o2,hok2,rfl,rfl⟩:=hq
       rw [← hoz1 z hz2] at *
       refine Dra.op' rfl rfl rfl .sure (Ope.asg rfl ?_)
       refine Dra.nil (Run.bend (Run.region (cx_ok _ _ _) (Reg.op rfl (Ope.mov rfl ?_))))
       refine Reg.op rfl (Ope.add rfl rfl (by omega) ?_)
       refine Reg.op rfl (Ope.asg rfl ?_)
       exact Reg.nil (Run.lend ⟨(z+1,o2,m2),by simp only;omega,⟨by simp only;omega,hok2⟩,⟨rfl,rfl,rfl,rfl,rfl,trivial⟩,rfl,rfl⟩)
      ·refine Run.exit (Jmp.code (Jmp.round (Jmp.here (Run.seq (Run.region (cx_ok _ _ _) (Reg.op rfl (Ope.mov rfl ?_)))))))
       refine Reg.op rfl (Ope.asg rfl ?_)
       refine Reg.nil (Run.ret ?_)
       obtain rfl:z=2:=by omega
       exact finH_ret (.tmp rfl .nil) (Nat.le_refl _) (fun _ _ h=>h) ⟨m,o,by rw [← hoz2];exact hoA,rfl,by rw [← hoz2];rfl⟩
theorem f62 (R : Rst) (hR : R.ok) (N : Nat) (hN16 : N ≤ 16) : ∀ (k : Nat) (b : List Int) (out : List (List Int)) (o : Option Nat) (n : Nat), (∀ x ∈ b, x = 0 ∨ x = 1) → b.length + k = N → OkA o n out → out.length + 2 ^ k ≤ 200000 →
    PCall P0 62 [.agg R.cells,I N,.sl .no (b.map I),.sl (tlA o) (out.map fV)] (HE n (ownA o)) (QA (out++alls R k b)) fun _ _=>False
  | 0, b, out, o, n, hb, hN, ho, hout => by
    cases hrt:rt R zeroRid b with
    | false =>
      have:=f62r R hR N b hb (by omega) hrt out o n ho
      simpa [alls,hrt] using this
    | true =>
      have:=f62z R hR N b hb (by omega) hrt (by omega) out o n ho (by omega)
      simpa [alls,hrt] using this
  | k + 1, b, out, o, n, hb, hN, ho, hout => by
    cases hrt:rt R zeroRid b with
    | false =>
      have:=f62r R hR N b hb (by omega) hrt out o n ho
      simpa [alls,hrt] using this
    | true =>
      refine f62s R hR N b hb hrt k (by omega) hN16 out o n ho (fun z hz out o n ho hout=>?_) hout
      refine f62 R hR N hN16 k (b++[(z:Int)]) out o n ?_ (by simp;omega) ho hout
      intro x hx
      rcases List.mem_append.1 hx with hx | hx
      · exact hb x hx
      · simp only [List.mem_singleton] at hx
        omega
end Go.Pv
namespace Go.Pv
open Go.Proofs Go.Am
set_option maxRecDepth 10000
theorem f19a (h a0 b0 c0 d0 a1 b1 c1 d1:Int) (hv:validR h a0 b0 c0 d0 a1 b1 c1 d1=false):Fn P0 19 [.agg [I h,I a0,I b0,I c0,I d0,I a1,I b1,I c1,I d1]] (.tup [I 0,I 1]):=by
  have h33:=f33 h a0 b0 c0 d0 a1 b1 c1 d1
  rw [hv] at h33
  refine PFun.of (C:=c19) (cx_ok _ _ _) rfl (fn:=Tryz.f19) (by kernel_rfl) (c:=_) rfl rfl rfl ?_
  refine Run.seq (Run.region (cx_ok _ _ _) (Reg.op rfl (Ope.boxF rfl rfl ?_)))
  refine Reg.op rfl (Ope.asg rfl ?_)
  refine Reg.op rfl (Ope.asg rfl ?_)
  refine Reg.nil (Run.seq (Run.seq (Run.region (cx_ok _ _ _) (Reg.op rfl (Ope.load rfl rfl ?_)))))
  refine Reg.op rfl (Ope.cf rfl rfl (h33) rfl ?_)
  refine Reg.op rfl (Ope.not rfl ?_)
  refine Reg.nil (Run.condX rfl (fun hc=>?_) fun hc=>?_)
  ·refine Run.seq (Run.region (cx_ok _ _ _) (Reg.op rfl (Ope.asg rfl ?_)))
   refine Reg.op rfl (Ope.asg rfl ?_)
   exact Reg.nil (Run.ret (Jmp.code (fin_ret (.tmp rfl (.tmp rfl .nil)) rfl rfl)))
  ·exact absurd hc (by decide)
theorem okA0 (n:Nat):OkA none n []:=⟨fun j h=>(by cases h),by simp⟩
theorem f19b (R:Rst) (hR:R.ok) (hv:validR R.m R.o0 R.t0 R.r0 R.f0 R.o1 R.t1 R.r1 R.f1=true):Fn P0 19 [.agg R.cells] (.tup [I R.many,I 0]):=by
  have h33:=f33 R.m R.o0 R.t0 R.r0 R.f0 R.o1 R.t1 R.r1 R.f1
  rw [hv] at h33
  have hm16:=hR.1
  have hp:=pow16 hm16
  have h62:=f62 R hR R.m hm16 R.m [] [] none 0 (by simp) (by simp) (okA0 0) (by simp;omega)
  refine PFun.of (C:=c19) (cx_ok _ _ _) rfl (fn:=Tryz.f19) (by kernel_rfl) (c:=_) rfl rfl rfl ?_
  refine Run.seq (Run.region (cx_ok _ _ _) (Reg.op rfl (Ope.boxF rfl rfl ?_)))
  refine Reg.op rfl (Ope.asg rfl ?_)
  refine Reg.op rfl (Ope.asg rfl ?_)
  refine Reg.nil (Run.seq (Run.seq (Run.region (cx_ok _ _ _) (Reg.op rfl (Ope.load rfl rfl ?_)))))
  refine Reg.op rfl (Ope.cf rfl rfl (h33) rfl ?_)
  refine Reg.op rfl (Ope.not rfl ?_)
  refine Reg.nil (Run.condX rfl (fun hc=>?_) fun hc=>?_)
  ·exact absurd hc (by decide)
  ·refine Run.skip (Run.seq (Run.region (cx_ok _ _ _) (Reg.op rfl (Ope.load rfl rfl ?_))))
   refine Reg.op rfl (Ope.fld rfl rfl ?_)
   refine Reg.op rfl (Ope.load rfl rfl ?_)
   refine Reg.op rfl (Ope.callW (l':=ownA none) rfl rfl (fun s xs h=>weak3 rfl h) (Nat.le_refl _) (fun _ _ h=>h) h62 (fun v h' hq=>?_))
   obtain ⟨m2,o2,hok2,rfl,rfl⟩:=hq
   refine Reg.op rfl (Ope.len (m:=(alls R R.m []).length) rfl (by simp) ?_)
   refine Reg.op rfl (Ope.asg rfl ?_)
   refine Reg.op rfl (Ope.asg rfl ?_)
   refine Reg.nil (Run.ret (fin_ret (.tmp rfl (.tmp rfl .nil)) rfl ?_))
   rw [alls_many]
   rfl
theorem f21a (h a0 b0 c0 d0 a1 b1 c1 d1:Int) (hv:validR h a0 b0 c0 d0 a1 b1 c1 d1=false):Fn P0 21 [.agg [I h,I a0,I b0,I c0,I d0,I a1,I b1,I c1,I d1]] (.tup [I 0,I 1]):=by
  have h33:=f33 h a0 b0 c0 d0 a1 b1 c1 d1
  rw [hv] at h33
  refine PFun.of (C:=c21) (cx_ok _ _ _) rfl (fn:=Tryz.f21) (by kernel_rfl) (c:=_) rfl rfl rfl ?_
  refine Run.seq (Run.region (cx_ok _ _ _) (Reg.op rfl (Ope.boxF rfl rfl ?_)))
  refine Reg.op rfl (Ope.asg rfl ?_)
  refine Reg.op rfl (Ope.asg rfl ?_)
  refine Reg.nil (Run.seq (Run.seq (Run.region (cx_ok _ _ _) (Reg.op rfl (Ope.load rfl rfl ?_)))))
  refine Reg.op rfl (Ope.cf rfl rfl (h33) rfl ?_)
  refine Reg.op rfl (Ope.not rfl ?_)
  refine Reg.nil (Run.condX rfl (fun hc=>?_) fun hc=>?_)
  ·refine Run.seq (Run.region (cx_ok _ _ _) (Reg.op rfl (Ope.asg rfl ?_)))
   refine Reg.op rfl (Ope.asg rfl ?_)
   exact Reg.nil (Run.ret (Jmp.code (fin_ret (.tmp rfl (.tmp rfl .nil)) rfl rfl)))
  ·exact absurd hc (by decide)
theorem until_is {R:Rst} {z:Nat} (hz:z≤R.m) (hpos:∀ j,j≤z→cnt R j zeroRid≠0) (hend:z=R.m∨cnt R (z+1) zeroRid=0):z=R.until:=by
  have h1:=until_pos R
  have h2:=(until_spec R).1
  rcases Nat.lt_trichotomy z R.until with h | h | h
  · rcases hend with e | e
    · omega
    · exact absurd (cnt_zero_le R (show z+1≤R.until by omega) zeroRid e) h1
  · exact h
  · exact absurd (until_next (R:=R) (by omega)) (hpos _ (by omega))
theorem f21b (R:Rst) (hR:R.ok) (hv:validR R.m R.o0 R.t0 R.r0 R.f0 R.o1 R.t1 R.r1 R.f1=true):Fn P0 21 [.agg R.cells] (.tup [I R.until,I 0]):=by
  have h33:=f33 R.m R.o0 R.t0 R.r0 R.f0 R.o1 R.t1 R.r1 R.f1
  rw [hv] at h33
  have hm16:=hR.1
  refine PFun.of (C:=c21) (cx_ok _ _ _) rfl (fn:=Tryz.f21) (by kernel_rfl) (c:=_) rfl rfl rfl ?_
  refine Run.seq (Run.region (cx_ok _ _ _) (Reg.op rfl (Ope.boxF rfl rfl ?_)))
  refine Reg.op rfl (Ope.asg rfl ?_)
  refine Reg.op rfl (Ope.asg rfl ?_)
  refine Reg.nil (Run.seq (Run.seq (Run.region (cx_ok _ _ _) (Reg.op rfl (Ope.load rfl rfl ?_)))))
  refine Reg.op rfl (Ope.cf rfl rfl (h33) rfl ?_)
  refine Reg.op rfl (Ope.not rfl ?_)
  refine Reg.nil (Run.condX rfl (fun hc=>?_) fun hc=>?_)
  ·exact absurd hc (by decide)
  ·refine Run.skip (Run.seq (Run.region (cx_ok _ _ _) (Reg.op rfl (Ope.asg rfl ?_))))
   refine Reg.nil (Run.seq (Run.block (Run.loop (α:=Nat×Nat) (fun s=>[(1,.fp (.agg R.cells)),(4,I s.1)]) (fun s=>HE s.2 []) (fun s=>s.1≤R.m∧∀ j,j≤s.1→cnt R j zeroRid≠0) (fun s=>R.m - s.1) (0,0) ⟨rfl,rfl,trivial⟩ rfl ⟨Nat.zero_le _,fun j hj=>by obtain rfl:j=0:=Nat.le_zero.1 hj;simp [cnt]⟩ (fun s hs=>?_))))
   obtain ⟨z,m⟩:=s
   obtain ⟨hz,hpos⟩:=hs
   simp only at hz hpos
   show Run _ _ _ _ [(1,.fp (.agg R.cells)),(4,I z)] [] (HE m [])
   have hmany:=alls_many R (z+1)
   refine Run.seq (Run.seq (Run.region (cx_ok _ _ _) (Reg.op rfl (Ope.mov rfl ?_))))
   refine Reg.op rfl (Ope.fld rfl rfl ?_)
   refine Reg.op rfl (Ope.load rfl rfl ?_)
   refine Reg.op rfl (Ope.lt rfl rfl ?_)
   refine Reg.op rfl (Ope.mov rfl ?_)
   refine Reg.splitX rfl rfl (fun hg=>?_) fun hg=>?_
   ·refine Reg.on rfl rfl rfl (Ope.load rfl rfl ?_)
    refine Reg.on rfl rfl rfl (Ope.mov rfl ?_)
    refine Reg.on rfl rfl rfl (Ope.add rfl rfl (by omega) ?_)
    have hp1:=pow16 (show z+1≤16 by omega)
    refine Reg.on rfl rfl rfl (Ope.callW (l':=ownA none) rfl rfl (fun s xs h=>weak3 rfl h) (Nat.le_refl _) (fun _ _ h=>h) (f62 R hR (z+1) (by omega) (z+1) [] [] none m (by simp) (by simp) (okA0 m) (by simp only [List.length_nil];omega)) (fun v h' hq=>?_))
    obtain ⟨m2,o2,hok2,rfl,rfl⟩:=hq
    refine Reg.on rfl rfl rfl (Ope.len (m:=(alls R (z+1) []).length) rfl (by simp) ?_)
    refine Reg.on rfl rfl rfl (Ope.gt rfl rfl ?_)
    refine Reg.op rfl (Ope.pickT rfl rfl ?_)
    refine Reg.nil (Run.condX rfl (fun hc=>?_) fun hc=>?_)
    ·refine Run.skip (Run.block (Run.wideS (m:=m2) (l':=[]) (Nat.le_refl _) (fun i b h=>by simp [hget] at h) ?_))
     refine Run.region (cx_ok _ _ _) (Reg.op rfl (Ope.mov rfl ?_))
     refine Reg.op rfl (Ope.add rfl rfl (by omega) ?_)
     refine Reg.op rfl (Ope.asg rfl ?_)
     refine Reg.nil (Run.bend ?_)
     exact Run.lend ⟨(z+1,m2),by simp only;omega,⟨by simp only;omega,fun j hj=>by
       rcases Nat.lt_or_ge j (z+1) with q | q
       · exact hpos j (by omega)
       · have : j = z + 1 := by simp only at hj; omega
         subst this
         omega⟩,⟨rfl,rfl,trivial⟩,rfl,rfl⟩
    ·refine Run.exit (Jmp.code (Jmp.round (Jmp.here (Run.seq (Run.region (cx_ok _ _ _) (Reg.op rfl (Ope.mov rfl ?_)))))))
     refine Reg.op rfl (Ope.asg rfl ?_)
     refine Reg.op rfl (Ope.asg rfl ?_)
     refine Reg.nil (Run.ret (fin_ret (.tmp rfl (.tmp rfl .nil)) rfl ?_))
     have hu:z=R.until:=until_is hz hpos (by omega)
     rw [← hu]
     rfl
   ·refine Reg.off rfl rfl rfl (Reg.off rfl rfl rfl (Reg.off rfl rfl rfl (Reg.off rfl rfl rfl (Reg.off rfl rfl rfl (Reg.off rfl rfl rfl (Reg.op rfl (Ope.pickF rfl rfl ?_)))))))
    refine Reg.nil (Run.condF rfl (Run.exit (Jmp.code (Jmp.round (Jmp.here (Run.seq (Run.region (cx_ok _ _ _) (Reg.op rfl (Ope.mov rfl ?_)))))))))
    refine Reg.op rfl (Ope.asg rfl ?_)
    refine Reg.op rfl (Ope.asg rfl ?_)
    refine Reg.nil (Run.ret (fin_ret (.tmp rfl (.tmp rfl .nil)) rfl ?_))
    have hu:z=R.until:=until_is hz hpos (by omega)
    rw [← hu]
    rfl
theorem f14 (h a0 b0 c0 d0 a1 b1 c1 d1 k:Int):Fn P0 14 [.agg [I h,I a0,I b0,I c0,I d0,I a1,I b1,I c1,I d1],I k] (B (decide (k < h) && validR h a0 b0 c0 d0 a1 b1 c1 d1)):=by
  have h33:=f33 h a0 b0 c0 d0 a1 b1 c1 d1
  refine PFun.of (C:=c14) (cx_ok _ _ _) rfl (fn:=Tryz.f14) (by kernel_rfl) (c:=_) rfl rfl rfl ?_
  refine Run.seq (Run.region (cx_ok _ _ _) (Reg.op rfl (Ope.boxF rfl rfl ?_)))
  refine Reg.op rfl (Ope.asg rfl ?_)
  refine Reg.nil (Run.seq (Run.region (cx_ok _ _ _) (Reg.op rfl (Ope.fld rfl rfl ?_))))
  refine Reg.op rfl (Ope.load rfl rfl ?_)
  refine Reg.op rfl (Ope.mov rfl ?_)
  refine Reg.op rfl (Ope.gt rfl rfl ?_)
  refine Reg.op rfl (Ope.mov rfl ?_)
  refine Reg.splitX rfl rfl (fun hg=>?_) fun hg=>?_
  ·refine Reg.on rfl rfl rfl (Ope.load rfl rfl ?_)
   refine Reg.on rfl rfl rfl (Ope.cf rfl rfl h33 rfl ?_)
   refine Reg.op rfl (Ope.pickT rfl rfl ?_)
   refine Reg.op rfl (Ope.asg rfl ?_)
   refine Reg.nil (Run.ret (fin_ret (.tmp rfl .nil) rfl ?_))
   first
     | (rw [decide_eq_true hg,Bool.true_and];rfl)
     | (rw [decide_eq_false hg,Bool.false_and];rfl)
  ·refine Reg.off rfl rfl rfl (Reg.off rfl rfl rfl (Reg.op rfl (Ope.pickF rfl rfl ?_)))
   refine Reg.op rfl (Ope.asg rfl ?_)
   refine Reg.nil (Run.ret (fin_ret (.tmp rfl .nil) rfl ?_))
   first
     | (rw [decide_eq_true hg,Bool.true_and];rfl)
     | (rw [decide_eq_false hg,Bool.false_and];rfl)
theorem f3a (h a0 b0 c0 d0 a1 b1 c1 d1:Int) (xs:List Int) (hl:40 < xs.length):Fn P0 3 [.agg [I h,I a0,I b0,I c0,I d0,I a1,I b1,I c1,I d1],.sl .no (xs.map I)] (B true):=by
  refine PFun.of (C:=c3) (cx_ok _ _ _) rfl (fn:=Tryz.f3) (by kernel_rfl) (c:=_) rfl rfl rfl ?_
  refine Run.seq (Run.region (cx_ok _ _ _) (Reg.op rfl (Ope.boxF rfl rfl ?_)))
  refine Reg.op rfl (Ope.asg rfl ?_)
  refine Reg.nil (Run.seq (Run.seq (Run.region (cx_ok _ _ _) (Reg.op rfl (Ope.mov rfl ?_)))))
  refine Reg.op rfl (Ope.len (m:=xs.length) rfl (by simp) ?_)
  refine Reg.op rfl (Ope.gt rfl rfl ?_)
  refine Reg.op rfl (Ope.mov rfl ?_)
  refine Reg.splitX rfl rfl (fun hg=>?_) fun hg=>?_
  ·refine Reg.off rfl rfl rfl (Reg.off rfl rfl rfl (Reg.op rfl (Ope.pickT rfl rfl ?_)))
   refine Reg.nil (Run.condT rfl (Run.seq (Run.region (cx_ok _ _ _) (Reg.op rfl (Ope.clo rfl rfl awakeF ?_)))))
   refine Reg.op rfl (Ope.asg rfl ?_)
   refine Reg.nil (Run.ret (Jmp.code (fin_ret (.tmp rfl .nil) rfl ?_)))
   rfl
  ·(exfalso;omega)
theorem f3b (h a0 b0 c0 d0 a1 b1 c1 d1:Int) (xs:List Int) (hl:xs.length≤40) (hv:(decide (11 < h) && validR h a0 b0 c0 d0 a1 b1 c1 d1)=true):Fn P0 3 [.agg [I h,I a0,I b0,I c0,I d0,I a1,I b1,I c1,I d1],.sl .no (xs.map I)] (B true):=by
  have h14:=f14 h a0 b0 c0 d0 a1 b1 c1 d1 11
  rw [hv] at h14
  refine PFun.of (C:=c3) (cx_ok _ _ _) rfl (fn:=Tryz.f3) (by kernel_rfl) (c:=_) rfl rfl rfl ?_
  refine Run.seq (Run.region (cx_ok _ _ _) (Reg.op rfl (Ope.boxF rfl rfl ?_)))
  refine Reg.op rfl (Ope.asg rfl ?_)
  refine Reg.nil (Run.seq (Run.seq (Run.region (cx_ok _ _ _) (Reg.op rfl (Ope.mov rfl ?_)))))
  refine Reg.op rfl (Ope.len (m:=xs.length) rfl (by simp) ?_)
  refine Reg.op rfl (Ope.gt rfl rfl ?_)
  refine Reg.op rfl (Ope.mov rfl ?_)
  refine Reg.splitX rfl rfl (fun hg=>?_) fun hg=>?_
  ·(exfalso;omega)
  ·refine Reg.on rfl rfl rfl (Ope.load rfl rfl ?_)
   refine Reg.on rfl rfl rfl (Ope.cf rfl rfl h14 rfl ?_)
   refine Reg.op rfl (Ope.pickF rfl rfl ?_)
   refine Reg.nil (Run.condX rfl (fun hc=>?_) fun hc=>?_)
   ·refine Run.seq (Run.region (cx_ok _ _ _) (Reg.op rfl (Ope.clo rfl rfl awakeF ?_)))
    refine Reg.op rfl (Ope.asg rfl ?_)
    refine Reg.nil (Run.ret (Jmp.code (fin_ret (.tmp rfl .nil) rfl ?_)))
    rfl
   ·exact absurd hc (by decide)
theorem f3c (h a0 b0 c0 d0 a1 b1 c1 d1 : Int) (xs : List Int) (hl : xs.length ≤ 40) (hv : (decide (11 < h) && validR h a0 b0 c0 d0 a1 b1 c1 d1) = false) (a b e c f u g : Int)
    (h16:Fn P0 16 [.agg [I h,I a0,I b0,I c0,I d0,I a1,I b1,I c1,I d1],.sl .no (xs.map I)] (.tup [I a,I b,I e])) (h17:Fn P0 17 [.agg [I h,I a0,I b0,I c0,I d0,I a1,I b1,I c1,I d1],.sl .no (xs.map I)] (.tup [I a,I b,I e]))
    (h18:Fn P0 18 [.agg [I h,I a0,I b0,I c0,I d0,I a1,I b1,I c1,I d1]] (.tup [I c,I f])) (h19:Fn P0 19 [.agg [I h,I a0,I b0,I c0,I d0,I a1,I b1,I c1,I d1]] (.tup [I c,I f]))
    (h20:Fn P0 20 [.agg [I h,I a0,I b0,I c0,I d0,I a1,I b1,I c1,I d1]] (.tup [I u,I g])) (h21:Fn P0 21 [.agg [I h,I a0,I b0,I c0,I d0,I a1,I b1,I c1,I d1]] (.tup [I u,I g])) :
    Fn P0 3 [.agg [I h,I a0,I b0,I c0,I d0,I a1,I b1,I c1,I d1],.sl .no (xs.map I)] (B true):=by
  have h14:=f14 h a0 b0 c0 d0 a1 b1 c1 d1 11
  rw [hv] at h14
  have hb:PV.bds 0 [.agg [I h,I a0,I b0,I c0,I d0,I a1,I b1,I c1,I d1],.sl .no (xs.map I)]=true:=by
    simp only [PV.bds,bd_sl (f:=I) (tl:=.no) rfl (fun _=>rfl) xs,Bool.and_true]
    rfl
  refine PFun.of (C:=c3) (cx_ok _ _ _) rfl (fn:=Tryz.f3) (by kernel_rfl) (c:=_) rfl rfl rfl ?_
  refine Run.seq (Run.region (cx_ok _ _ _) (Reg.op rfl (Ope.boxF rfl rfl ?_)))
  refine Reg.op rfl (Ope.asg rfl ?_)
  refine Reg.nil (Run.seq (Run.seq (Run.region (cx_ok _ _ _) (Reg.op rfl (Ope.mov rfl ?_)))))
  refine Reg.op rfl (Ope.len (m:=xs.length) rfl (by simp) ?_)
  refine Reg.op rfl (Ope.gt rfl rfl ?_)
  refine Reg.op rfl (Ope.mov rfl ?_)
  refine Reg.splitX rfl rfl (fun hg=>?_) fun hg=>?_
  ·(exfalso;first | omega | exact hg rfl)
  ·refine Reg.on rfl rfl rfl (Ope.load rfl rfl ?_)
   refine Reg.on rfl rfl rfl (Ope.cf rfl rfl h14 rfl ?_)
   refine Reg.op rfl (Ope.pickF rfl rfl ?_)
   refine Reg.nil (Run.condX rfl (fun hc=>?_) fun hc=>?_)
   ·exact absurd hc (by decide)
   ·refine Run.skip (Run.seq (Run.region (cx_ok _ _ _) (Reg.op rfl (Ope.load rfl rfl ?_))))
    refine Reg.op rfl (Ope.mov rfl ?_)
    refine Reg.op rfl (Ope.cf rfl rfl h16 hb ?_)
    refine Reg.op rfl (Ope.mov rfl ?_)
    refine Reg.op rfl (Ope.ext rfl rfl ?_)
    refine Reg.op rfl (Ope.ext rfl rfl ?_)
    refine Reg.op rfl (Ope.ext rfl rfl ?_)
    refine Reg.op rfl (Ope.asg rfl ?_)
    refine Reg.op rfl (Ope.asg rfl ?_)
    refine Reg.op rfl (Ope.asg rfl ?_)
    refine Reg.nil (Run.seq (Run.region (cx_ok _ _ _) (Reg.op rfl (Ope.load rfl rfl ?_))))
    refine Reg.op rfl (Ope.mov rfl ?_)
    refine Reg.op rfl (Ope.cf rfl rfl h17 hb ?_)
    refine Reg.op rfl (Ope.mov rfl ?_)
    refine Reg.op rfl (Ope.ext rfl rfl ?_)
    refine Reg.op rfl (Ope.ext rfl rfl ?_)
    refine Reg.op rfl (Ope.ext rfl rfl ?_)
    refine Reg.op rfl (Ope.asg rfl ?_)
    refine Reg.op rfl (Ope.asg rfl ?_)
    refine Reg.op rfl (Ope.asg rfl ?_)
    refine Reg.nil (Run.seq (Run.region (cx_ok _ _ _) (Reg.op rfl (Ope.load rfl rfl ?_))))
    refine Reg.op rfl (Ope.cf rfl rfl (h18) rfl ?_)
    refine Reg.op rfl (Ope.mov rfl ?_)
    refine Reg.op rfl (Ope.ext rfl rfl ?_)
    refine Reg.op rfl (Ope.ext rfl rfl ?_)
    refine Reg.op rfl (Ope.asg rfl ?_)
    refine Reg.op rfl (Ope.asg rfl ?_)
    refine Reg.nil (Run.seq (Run.region (cx_ok _ _ _) (Reg.op rfl (Ope.load rfl rfl ?_))))
    refine Reg.op rfl (Ope.cf rfl rfl (h19) rfl ?_)
    refine Reg.op rfl (Ope.mov rfl ?_)
    refine Reg.op rfl (Ope.ext rfl rfl ?_)
    refine Reg.op rfl (Ope.ext rfl rfl ?_)
    refine Reg.op rfl (Ope.asg rfl ?_)
    refine Reg.op rfl (Ope.asg rfl ?_)
    refine Reg.nil (Run.seq (Run.region (cx_ok _ _ _) (Reg.op rfl (Ope.load rfl rfl ?_))))
    refine Reg.op rfl (Ope.cf rfl rfl (h20) rfl ?_)
    refine Reg.op rfl (Ope.mov rfl ?_)
    refine Reg.op rfl (Ope.ext rfl rfl ?_)
    refine Reg.op rfl (Ope.ext rfl rfl ?_)
    refine Reg.op rfl (Ope.asg rfl ?_)
    refine Reg.op rfl (Ope.asg rfl ?_)
    refine Reg.nil (Run.seq (Run.region (cx_ok _ _ _) (Reg.op rfl (Ope.load rfl rfl ?_))))
    refine Reg.op rfl (Ope.cf rfl rfl (h21) rfl ?_)
    refine Reg.op rfl (Ope.mov rfl ?_)
    refine Reg.op rfl (Ope.ext rfl rfl ?_)
    refine Reg.op rfl (Ope.ext rfl rfl ?_)
    refine Reg.op rfl (Ope.asg rfl ?_)
    refine Reg.op rfl (Ope.asg rfl ?_)
    refine Reg.nil (Run.seq (Run.region (cx_ok _ _ _) (Reg.op rfl (Ope.mov rfl ?_))))
    refine Reg.op rfl (Ope.mov rfl ?_)
    refine Reg.op rfl (Ope.eq rfl rfl ?_)
    refine Reg.op rfl (Ope.mov rfl ?_)
    refine Reg.splitX rfl rfl (fun hg=>?_) fun hg=>?_
    ·refine Reg.on rfl rfl rfl (Ope.mov rfl ?_)
     refine Reg.on rfl rfl rfl (Ope.mov rfl ?_)
     refine Reg.on rfl rfl rfl (Ope.eq rfl rfl ?_)
     refine Reg.op rfl (Ope.pickT rfl rfl ?_)
     refine Reg.op rfl (Ope.mov rfl ?_)
     refine Reg.splitX rfl rfl (fun hg=>?_) fun hg=>?_
     ·refine Reg.on rfl rfl rfl (Ope.mov rfl ?_)
      refine Reg.on rfl rfl rfl (Ope.mov rfl ?_)
      refine Reg.on rfl rfl rfl (Ope.eq rfl rfl ?_)
      refine Reg.op rfl (Ope.pickT rfl rfl ?_)
      refine Reg.op rfl (Ope.mov rfl ?_)
      refine Reg.splitX rfl rfl (fun hg=>?_) fun hg=>?_
      ·refine Reg.on rfl rfl rfl (Ope.mov rfl ?_)
       refine Reg.on rfl rfl rfl (Ope.mov rfl ?_)
       refine Reg.on rfl rfl rfl (Ope.eq rfl rfl ?_)
       refine Reg.op rfl (Ope.pickT rfl rfl ?_)
       refine Reg.op rfl (Ope.mov rfl ?_)
       refine Reg.splitX rfl rfl (fun hg=>?_) fun hg=>?_
       ·refine Reg.on rfl rfl rfl (Ope.mov rfl ?_)
        refine Reg.on rfl rfl rfl (Ope.mov rfl ?_)
        refine Reg.on rfl rfl rfl (Ope.eq rfl rfl ?_)
        refine Reg.op rfl (Ope.pickT rfl rfl ?_)
        refine Reg.op rfl (Ope.mov rfl ?_)
        refine Reg.splitX rfl rfl (fun hg=>?_) fun hg=>?_
        ·refine Reg.on rfl rfl rfl (Ope.mov rfl ?_)
         refine Reg.on rfl rfl rfl (Ope.mov rfl ?_)
         refine Reg.on rfl rfl rfl (Ope.eq rfl rfl ?_)
         refine Reg.op rfl (Ope.pickT rfl rfl ?_)
         refine Reg.op rfl (Ope.mov rfl ?_)
         refine Reg.splitX rfl rfl (fun hg=>?_) fun hg=>?_
         ·refine Reg.on rfl rfl rfl (Ope.mov rfl ?_)
          refine Reg.on rfl rfl rfl (Ope.mov rfl ?_)
          refine Reg.on rfl rfl rfl (Ope.eq rfl rfl ?_)
          refine Reg.op rfl (Ope.pickT rfl rfl ?_)
          refine Reg.op rfl (Ope.mov rfl ?_)
          refine Reg.splitX rfl rfl (fun hg=>?_) fun hg=>?_
          ·refine Reg.on rfl rfl rfl (Ope.clo rfl rfl awakeF ?_)
           refine Reg.op rfl (Ope.pickT rfl rfl ?_)
           refine Reg.op rfl (Ope.asg rfl ?_)
           refine Reg.nil (Run.ret (fin_ret (.tmp rfl .nil) rfl ?_))
           rfl
          ·(exfalso;first | omega | exact hg rfl)
         ·(exfalso;first | omega | exact hg rfl)
        ·(exfalso;first | omega | exact hg rfl)
       ·(exfalso;first | omega | exact hg rfl)
      ·(exfalso;first | omega | exact hg rfl)
     ·(exfalso;first | omega | exact hg rfl)
    ·(exfalso;first | omega | exact hg rfl)
theorem f3 (h a0 b0 c0 d0 a1 b1 c1 d1 : Int) (xs : List Int) : Fn P0 3 [.agg [I h, I a0, I b0, I c0, I d0, I a1, I b1, I c1, I d1], .sl .no (xs.map I)] (B true) := by
  by_cases hl:40 < xs.length
  · exact f3a _ _ _ _ _ _ _ _ _ xs hl
  · cases hq : (decide (11 < h) && validR h a0 b0 c0 d0 a1 b1 c1 d1) with
    | true=>exact f3b _ _ _ _ _ _ _ _ _ xs (by omega) hq
    | false =>
      have h16:=check h a0 b0 c0 d0 a1 b1 c1 d1 .no rfl xs (by omega)
      have h17:=f17 h a0 b0 c0 d0 a1 b1 c1 d1 .no rfl xs (by omega)
      by_cases hv:validR h a0 b0 c0 d0 a1 b1 c1 d1=true
      · obtain ⟨hok, ⟨e1, e2, e3⟩, hm⟩ := rstOf_ok hv
        have hcells:(rstOf h a0 b0 c0 d0 a1 b1 c1 d1).cells=[I h,I a0,I b0,I c0,I d0,I a1,I b1,I c1,I d1]:=by
          show [I (h.toNat:Int),I (a0.toNat:Int),I b0,I c0,I d0,I (a1.toNat:Int),I b1,I c1,I d1]=_
          rw [← e1,← e2,← e3]
        have hv':validR (rstOf h a0 b0 c0 d0 a1 b1 c1 d1).m (rstOf h a0 b0 c0 d0 a1 b1 c1 d1).o0 b0 c0 d0 (rstOf h a0 b0 c0 d0 a1 b1 c1 d1).o1 b1 c1 d1=true:=by
          show validR (h.toNat:Int) (a0.toNat:Int) b0 c0 d0 (a1.toNat:Int) b1 c1 d1=true
          rw [← e1,← e2,← e3]
          exact hv
        have h18:=f18b _ hok hv'
        have h19:=f19b _ hok hv'
        have h20:=f20b _ hok hv'
        have h21:=f21b _ hok hv'
        rw [hcells] at h18 h19 h20 h21
        exact f3c _ _ _ _ _ _ _ _ _ xs (by omega) hq _ _ _ _ _ _ _ h16 h17 h18 h19 h20 h21
      · have hv := Bool.eq_false_iff.2 hv
        exact f3c _ _ _ _ _ _ _ _ _ xs (by omega) hq _ _ _ _ _ _ _ h16 h17 (f18a _ _ _ _ _ _ _ _ _ hv) (f19a _ _ _ _ _ _ _ _ _ hv) (f20a _ _ _ _ _ _ _ _ _ hv) (f21a _ _ _ _ _ _ _ _ _ hv)
end Go.Pv
namespace Go.Pv
open Go.Am Go.RowKit Go.ChangeShapes Go.WideShapes
def frozσ (w:World) (k:Nat):BS:=match w.heap[k]? with
 |some (.cells arr _ _)=>.fz arr.size none
 |_=>.no
def St.froz (w:World):St:=⟨frozσ w,fun _=>0,.nil,w⟩
theorem PW.froz (w:World):PW (Base.of w) (St.froz w):=by
 refine ⟨rfl,rfl,rfl,Nat.le_refl _,fun _ _=>rfl,fun k _=>?_,fun k o hk ho=>?_,fun k hk=>?_,fun k n i h=>?_,fun i b h=>(by cases h)⟩
 ·show frozσ w k=.no∨∃ n,frozσ w k=.fz n none
  unfold frozσ
  split
  ·exact .inr ⟨_,rfl⟩
  ·exact .inl rfl
 ·exact absurd (Array.getElem?_eq_some_iff.1 ho).1 hk
 ·show frozσ w k=.no
  unfold frozσ
  rw [Array.getElem?_eq_none (show w.heap.size≤k from hk)]
 ·have h':frozσ w k=.fz n (some i):=h
  unfold frozσ at h'
  split at h'<;>cases h'
theorem froz_cell {w:World} {a:Addr} {v:Value} (h:w.cell? a=some v):a=⟨a.block,a.off,none⟩∧(St.froz w).fcell a.block a.off=some v:=by
 obtain ⟨k,o,sp⟩:=a
 unfold World.cell? at h
 simp only at h
 split at h
 ·next c t z hk =>
  split at h
  ·cases h
  ·next hs =>
   have hs':sp=none:=by simpa using hs
   subst hs'
   refine ⟨rfl,?_⟩
   have ho:=(Array.getElem?_eq_some_iff.1 h).1
   have hσ:(St.froz w).σ k=.fz c.size none:=by
    show frozσ w k=_
    unfold frozσ
    rw [hk]
   unfold St.fcell
   rw [hσ]
   simp only [ho,if_true]
   show w.cell? ⟨k,o,none⟩=some v
   unfold World.cell?
   simp only [hk]
   simpa using h
 ·cases h
theorem Fn.calls3 {P:Program} {g:Nat} {args:List PV} {xs:Array Value} (hp:Fn P g args (B true)) (w:World) (hx:RVs (St.froz w) args xs.toList):Calls P g xs w fun e w'=>e=.returned (.bool true)∧Below w.heap.size w w'∧Grown w w':=by
 refine (hp.2 (Base.of w) (St.froz w) xs (PW.froz w) rfl hx).mono fun e w' he=>?_
 obtain ⟨s',rfl,h2,_,h4⟩:=he
 cases e with
 |returned x =>
  obtain ⟨v,p,_,rfl⟩:=h4
  have:=(RV_lit.1 p).2
  simp only [VR] at this
  subst this
  exact ⟨rfl,⟨h2.os,h2.tape,h2.output,h2.size,h2.old⟩,h2.grown⟩
 |panicked c=>obtain ⟨_,_,_,_,_,hf⟩:=h4;exact hf.elim
 |outgrown=>exact h4.elim
section
variable {H:Type} {enc:TypeId×Value→H} {P:Program} {w:World} {base:Nat} {spare:Nat→Bool} {held:Bool}
theorem cells?_get {a:Addr} {n:Nat} {cs:List Value} (h:w.cells? base a n=some cs):cs.length=n∧∀ i,i < n→w.cell? (a.add i)=cs[i]?:=by
 unfold World.cells? at h
 split at h
 ·exact ⟨by simpa using mapM_some_length h,fun i hi=>mapM_some_get h i i (by simp [hi])⟩
 ·cases h
def Reads (enc:TypeId×Value→H) (P:Program) (w:World) (base:Nat) (spare:Nat→Bool) (held:Bool) (t:TypeId) (Q:List PV→Prop):Prop :=
 ∀ (fuel:Nat) (cs:List Value) (x:DataW H×List MemPlace),DataW.trod enc P w base spare held fuel t cs=some x→∃ ps,RVs (St.froz w) ps cs∧Q ps
theorem Reads.int {t:TypeId} {k:IntKind} (ht:P.underlying t=some (.int k)):Reads enc P w base spare held t fun ps=>∃ n:Int,ps=[.lit (.int k n)]∧k.min≤n∧n≤k.max:=by
 intro fuel cs x h
 cases fuel with
 |zero=>simp [DataW.trod] at h
 |succ n =>
  unfold DataW.trod at h
  rw [ht] at h
  split at h<;>first | (cases h;done) | skip
  all_goals try (rename_i heq _;cases heq;done)
  all_goals try (rename_i heq;cases heq;done)
  rename_i k0 k' m heq
  cases heq
  split at h
  ·next hk =>
   obtain ⟨rfl,hw⟩:=hk
   refine ⟨_,RVs_cons.2 ⟨_,_,rfl,RV_lit.2 ⟨rfl,by simp only [VR]⟩,RVs_nil.2 rfl⟩,m,rfl,?_⟩
   simpa [Lit.wf] using hw
  ·cases h
theorem Reads.mono {t:TypeId} {Q R:List PV→Prop} (hr:Reads enc P w base spare held t Q) (h:∀ ps,Q ps→R ps):Reads enc P w base spare held t R:=by
 intro fuel cs x ht
 obtain ⟨ps,h1,h2⟩:=hr _ _ _ ht
 exact ⟨ps,h1,h _ h2⟩
theorem exists_list {α:Type} {p:Nat→α→Prop}:∀ (n:Nat),(∀ i,i < n→∃ a,p i a)→∃ zs:List α,zs.length=n∧∀ i a,zs[i]?=some a→p i a
 |0,_=>⟨[],rfl,fun i a h=>by simp at h⟩
 |n + 1, h => by
  obtain ⟨zs,h1,h2⟩:=exists_list n fun i hi=>h i (by omega)
  obtain ⟨a,ha⟩:=h n (by omega)
  refine ⟨zs++[a],by simp [h1],fun i b hb=>?_⟩
  rcases Nat.lt_or_ge i zs.length with hi | hi
  ·rw [List.getElem?_append_left hi] at hb
   exact h2 i b hb
  ·rw [List.getElem?_append_right hi] at hb
   have hi':i - zs.length=0:=by
    rcases Nat.eq_zero_or_pos (i - zs.length) with e | e
    ·exact e
    ·rw [List.getElem?_eq_none (by show 1≤i - zs.length;omega)] at hb
     cases hb
   rw [hi'] at hb
   simp only [List.getElem?_cons_zero,Option.some.injEq] at hb
   subst hb
   rw [show i=n by omega]
   exact ha
theorem REs.froz {α:Type} {f:α→PV} {k sz:Nat} (hsz:0 < sz):∀ (xs:List α) (o:Nat),(∀ i x,xs[i]?=some x→∃ cs:List Value,RVs (St.froz w) (f x).cells cs∧(f x).nc=sz∧cs.length=sz∧∀ j,j < sz→w.cell? ⟨k,o+i * sz+j,none⟩=cs[j]?) →
  REs (St.froz w) (xs.map f) sz k o
 |[],_,_=>REs_nil
 |x::xs,o,h=>by
  obtain ⟨cs,h1,h2,h3,h4⟩:=h 0 x (by simp)
  simp only [List.map_cons]
  refine REs_cons.2 ⟨h2,RM_of_cells (RMs_of_row h1 fun j u hj=>?_),REs.froz hsz xs (o+sz) fun i y hy=>?_⟩
  ·have hj':j < sz:=by rw [← h3];exact (List.getElem?_eq_some_iff.1 hj).1
   have hc:=h4 j hj'
   rw [hj,Nat.zero_mul,Nat.add_zero] at hc
   exact (froz_cell hc).2
  ·obtain ⟨c,g1,g2,g3,g4⟩:=h (i+1) y (by simpa using hy)
   refine ⟨c,g1,g2,g3,fun j hj=>?_⟩
   rw [← g4 j hj]
   congr 2
   rw [Nat.add_mul]
   omega
theorem Reads.slice {α:Type} {f:α→PV} {Q:α→Prop} (hsp:∀ b,spare b=true) {t e:TypeId} (ht:P.underlying t=some (.slice e)) (he:0 < P.cellsOf e) (hr:Reads enc P w base spare held e fun ps=>∃ a,ps=(f a).cells∧(f a).nc=P.cellsOf e∧Q a) :
  Reads enc P w base spare held t fun ps=>∃ zs:List α,ps=[.sl .no (zs.map f)]∧zs.length≤maxLen∧∀ a∈zs,Q a:=by
 intro fuel cs x h
 rcases DataW.trod_slice ht h with ⟨rfl,rfl⟩ | ⟨a,len,cap,elems,rest,n,rfl,rfl,rfl,hb,hl,hc,hlen,hel,hrest,_⟩
 ·exact ⟨_,RVs_cons.2 ⟨_,_,rfl,RV_sl.2 (.inl ⟨rfl,rfl,none,rfl⟩),RVs_nil.2 rfl⟩,[],rfl,by simp,by simp⟩
 ·by_cases h0:cap=0
  ·subst h0
   obtain rfl:len=0:=by omega
   exact ⟨_,RVs_cons.2 ⟨_,_,rfl,RV_sl.2 (.inl ⟨rfl,rfl,some a,rfl⟩),RVs_nil.2 rfl⟩,[],rfl,by simp,by simp⟩
  ·have hcell:∃ y,w.cell? a=some y:=by
    have key:∀ y:DataW H×List MemPlace,(w.cells? base (a.add (0 * P.cellsOf e)) (P.cellsOf e)).bind (DataW.trod enc P w base spare held n e)=some y→∃ y,w.cell? a=some y:=by
     intro y hy
     obtain ⟨c,c1,_⟩:=Option.bind_eq_some_iff.1 hy
     obtain ⟨g1,g2⟩:=cells?_get c1
     have:=g2 0 he
     rw [Nat.zero_mul] at this
     have e0:(a.add 0).add 0=a:=by simp [Addr.add]
     rw [e0] at this
     exact ⟨_,this.trans (List.getElem?_eq_getElem (by omega))⟩
    by_cases hz:len=0
    ·obtain ⟨r1,r2⟩:=hrest (hsp _)
     have:=r2 0 (by omega)
     subst hz
     rw [Nat.zero_add] at this
     obtain ⟨y,hy⟩:∃ y,rest[0]?=some y:=⟨_,List.getElem?_eq_getElem (by omega)⟩
     exact key y (this.trans hy)
    ·have:=hel 0 (by omega)
     obtain ⟨y,hy⟩:∃ y,elems[0]?=some y:=⟨_,List.getElem?_eq_getElem (by omega)⟩
     exact key y (this.trans hy)
   obtain ⟨y,hy⟩:=hcell
   have hsn:=(froz_cell hy).1
   obtain ⟨k,o,sp⟩:=a
   have hsn:sp=none:=congrArg Addr.spot hsn
   subst hsn
   obtain ⟨zs,h1,h2⟩:=exists_list (p:=fun i (a':α)=>∃ cs:List Value,w.cells? base (Addr.add ⟨k,o,none⟩ (i * P.cellsOf e)) (P.cellsOf e)=some cs∧RVs (St.froz w) (f a').cells cs∧(f a').nc=P.cellsOf e∧Q a') len fun i hi=>by
    have h3:=hel i hi
    obtain ⟨y,hy⟩:∃ y,elems[i]?=some y:=⟨_,List.getElem?_eq_getElem (by omega)⟩
    rw [hy] at h3
    obtain ⟨c,c1,c2⟩:=Option.bind_eq_some_iff.1 h3
    obtain ⟨ps,q1,a',rfl,q2,q3⟩:=hr _ _ _ c2
    exact ⟨a',c,c1,q1,q2,q3⟩
   refine ⟨[.sl .no (zs.map f)],RVs_cons.2 ⟨_,_,rfl,RV_sl.2 (.inr ⟨k,o,cap,P.cellsOf e,by rw [List.length_map,h1],by simpa [h1] using hl,REs.froz he zs o fun i x hx=>?_,trivial⟩),RVs_nil.2 rfl⟩,zs,rfl,by omega,fun b hb=>?_⟩
   ·obtain ⟨c,c1,c2,c3,_⟩:=h2 i x hx
    obtain ⟨g1,g2⟩:=cells?_get c1
    refine ⟨c,c2,c3,g1,fun j hj=>?_⟩
    have:=g2 j hj
    rw [addr_add,addr_add] at this
    exact this
   ·obtain ⟨i,hi⟩:=List.getElem?_of_mem hb
    obtain ⟨_,_,_,_,q⟩:=h2 i b hi
    exact q
theorem okWide_slice {r:Reach} {t e:TypeId} {v:Value} (ht:P.underlying t=some (.slice e)) (h:Value.okWide P w r base t v):∃ a l c,v=.slice a l c:=by
 unfold Value.okWide at h
 rw [ht] at h
 simp only at h
 unfold Cell.okWide at h
 rw [ht] at h
 cases v<;>first | exact ⟨_,_,_,rfl⟩ | (exfalso;simp [Cell.ok,ht] at h;done)
theorem RV_of_cells {s:St} {p:PV} {a:Option Addr} {l c:Nat} (h:RVs s [p] (Value.slice a l c).cells.toList):RV s p (.slice a l c):=by
 obtain ⟨y,ys,e,h1,_⟩:=RVs_cons.1 h
 have e':[Value.slice a l c]=y::ys:=e
 cases e'
 exact h1
theorem trod_ints {t e:TypeId} {k:IntKind} {v:Value} {d:DataW H} {ps:List MemPlace} {r:Reach} {b:Nat} (ht:P.underlying t=some (.slice e)) (he:P.underlying e=some (.int k)) (hs:P.cellsOf e=1) (hv:Value.okWide P w r b t v) (h:DataW.Trod enc P w base (fun _=>true) held t v d ps) :
  ∃ xs:List Int,RV (St.froz w) (.sl .no (xs.map fun n=>.lit (.int k n))) v∧xs.length≤maxLen∧∀ n∈xs,k.min≤n∧n≤k.max:=by
 obtain ⟨fuel,h⟩:=h
 obtain ⟨a,l,c,rfl⟩:=okWide_slice ht hv
 have hr:Reads enc P w base (fun _=>true) held t fun ps=>∃ zs:List Int,ps=[.sl .no (zs.map fun n=>.lit (.int k n))]∧zs.length≤maxLen∧∀ a∈zs,k.min≤a∧a≤k.max :=
  Reads.slice (fun _=>rfl) ht (by omega) ((Reads.int he).mono fun ps ⟨n,e1,e2⟩=>⟨n,e1,by rw [hs];rfl,e2⟩)
 obtain ⟨ps,h1,zs,rfl,h2,h3⟩:=hr _ _ _ h
 exact ⟨zs,RV_of_cells h1,h2,h3⟩
end
end Go.Pv
