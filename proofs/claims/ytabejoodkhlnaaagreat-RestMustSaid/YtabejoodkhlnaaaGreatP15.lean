/- Parts of the proof: T3, T4, T5, T6, T7, T8 -/
import Derived.Test.YtabejoodkhlnaaaGreatP14
import Derived.Test.YtabejoodkhlnaaaGreatP13
set_option linter.unusedVariables false
set_option linter.unusedSimpArgs false
namespace Go.Pv
open Go.Proofs Go.Am
set_option maxRecDepth 10000
set_option linter.unusedVariables false
set_option linter.unusedSimpArgs false
def manyOk (n : Int) : Bool := decide (0 ≤ n) && decide (n ≤ 16)
theorem manyOk_iff {n : Int} : manyOk n = true ↔ 0 ≤ n ∧ n ≤ 16 := by simp [manyOk]
def limOk (h a b c d : Int) : Bool := decide (0 ≤ a) && decide (a < ((2 ^ h.toNat : Nat) : Int)) && (manyOk b && (manyOk c && manyOk d))
def validR (h a0 b0 c0 d0 a1 b1 c1 d1 : Int) : Bool := manyOk h && (limOk h a0 b0 c0 d0 && limOk h a1 b1 c1 d1)
theorem f157 (tl : Tail) (xs : List Int) (hl : xs.length ≤ 1000000) : Fn P0 157 [.sl tl (xs.map I)] (B (xs.all manyOk)) := by
  refine PFun.of (C := c157) (cx_ok _ _ _) rfl (fn := Tryz.f157) (by kernel_rfl) (c := _) rfl rfl rfl ?_
  refine Run.seq (Run.region (cx_ok _ _ _) (Reg.op rfl (Ope.asg rfl ?_)))
  refine Reg.nil (Run.seq (Run.seq (Run.region (cx_ok _ _ _) (Reg.op rfl (Ope.mov rfl ?_)))))
  first | refine Reg.op rfl (Ope.len rfl (List.length_map _) ?_) | refine Reg.op rfl (Ope.len rfl rfl ?_) | refine Reg.op rfl (Ope.lenL rfl ?_)
  refine Reg.op rfl (Ope.mov rfl ?_)
  refine Reg.nil (Run.block (Run.loop (α := Nat) (fun i => [(5, .sl tl (xs.map I)), (6, I xs.length), (7, I i)]) (fun _ => HE 0 []) (fun i => i ≤ xs.length ∧ ∀ j (hj : j < xs.length), j < i → manyOk xs[j] = true) (fun i => xs.length - i) 0 ⟨rfl, rfl, rfl, trivial⟩ rfl ⟨Nat.zero_le _, fun j _ h => absurd h (Nat.not_lt_zero _)⟩ (fun i hi => ?_)))
  obtain ⟨hi1, hi2⟩ := hi
  refine Run.seq (Run.region (cx_ok _ _ _) (Reg.op rfl (Ope.lt rfl rfl ?_)))
  refine Reg.nil (Run.seq (Run.condX rfl (fun hc => ?_) fun hc => ?_))
  ·refine Run.skip (Run.seq (Run.block (Run.seq (Run.region (cx_ok _ _ _) ?_))))
   first | refine Reg.op rfl (Ope.idxM rfl rfl rfl (by first | assumption | omega) (fun _ => rfl) ?_) | refine Reg.op rfl (Ope.idxL rfl rfl rfl (by first | assumption | omega) ?_)
   refine Reg.op rfl (Ope.load rfl rfl ?_)
   refine Reg.op rfl (Ope.asg rfl ?_)
   refine Reg.nil (Run.seq (Run.region (cx_ok _ _ _) (Reg.op rfl (Ope.mov rfl ?_))))
   refine Reg.op rfl (Ope.lt rfl rfl ?_)
   refine Reg.op rfl (Ope.mov rfl ?_)
   refine Reg.splitX rfl rfl (fun hg => ?_) fun hg => ?_
   ·refine Reg.off rfl rfl rfl (Reg.off rfl rfl rfl (Reg.op rfl (Ope.pickT rfl rfl ?_)))
    refine Reg.nil (Run.condT rfl (Run.seq (Run.region (cx_ok _ _ _) (Reg.op rfl (Ope.asg rfl ?_)))))
    refine Reg.nil (Run.ret (Jmp.retB (Jmp.code (Jmp.round (Jmp.retB (Jmp.code (fin_ret (.tmp rfl .nil) rfl ?_)))))))
    refine congrArg B ?_
    first
      | exact (List.all_eq_false.2 ⟨xs[i], List.getElem_mem _, by simp [manyOk]; omega⟩).symm
      | exact (List.all_eq_true.2 fun x hx => by obtain ⟨j, hj, rfl⟩ := List.getElem_of_mem hx; exact hi2 j hj (by omega)).symm
   ·refine Reg.on rfl rfl rfl (Ope.mov rfl ?_)
    refine Reg.on rfl rfl rfl (Ope.gt rfl rfl ?_)
    refine Reg.op rfl (Ope.pickF rfl rfl ?_)
    refine Reg.nil (Run.condX rfl (fun hc => ?_) fun hc => ?_)
    ·refine Run.seq (Run.region (cx_ok _ _ _) (Reg.op rfl (Ope.asg rfl ?_)))
     refine Reg.nil (Run.ret (Jmp.retB (Jmp.code (Jmp.round (Jmp.retB (Jmp.code (fin_ret (.tmp rfl .nil) rfl ?_)))))))
     refine congrArg B ?_
     first
       | exact (List.all_eq_false.2 ⟨xs[i], List.getElem_mem _, by simp [manyOk]; omega⟩).symm
       | exact (List.all_eq_true.2 fun x hx => by obtain ⟨j, hj, rfl⟩ := List.getElem_of_mem hx; exact hi2 j hj (by omega)).symm
    ·refine Run.skip (Run.bend (Run.region (cx_ok _ _ _) (Reg.op rfl (Ope.add rfl rfl (by omega) ?_))))
     refine Reg.op rfl (Ope.mov rfl ?_)
     refine Reg.nil (Run.lend ⟨i + 1, by omega, ⟨by omega, fun j hj hlt => ?_⟩, ⟨rfl, rfl, rfl, trivial⟩, rfl, rfl⟩)
     rcases Nat.lt_succ_iff_lt_or_eq.1 hlt with h1 | rfl
     · exact hi2 j hj h1
     · simp_all [manyOk]
  ·refine Run.exit (Jmp.code (Jmp.round (Jmp.here (Run.seq (Run.region (cx_ok _ _ _) (Reg.op rfl (Ope.asg rfl ?_)))))))
   refine Reg.nil (Run.ret (fin_ret (.tmp rfl .nil) rfl ?_))
   refine congrArg B ?_
   first
     | exact (List.all_eq_false.2 ⟨xs[i], List.getElem_mem _, by simp [manyOk]; omega⟩).symm
     | exact (List.all_eq_true.2 fun x hx => by obtain ⟨j, hj, rfl⟩ := List.getElem_of_mem hx; exact hi2 j hj (by omega)).symm
theorem f104 (h a0 b0 c0 d0 a1 b1 c1 d1 : Int) : Fn P0 104 [.agg [I h, I a0, I b0, I c0, I d0, I a1, I b1, I c1, I d1]] (B (validR h a0 b0 c0 d0 a1 b1 c1 d1)) := by
  refine PFun.of (C := c104) (cx_ok _ _ _) rfl (fn := Tryz.f104) (by kernel_rfl) (c := _) rfl rfl rfl ?_
  refine Run.seq (Run.region (cx_ok _ _ _) (Reg.op rfl (Ope.boxF rfl rfl ?_)))
  refine Reg.op rfl (Ope.asg rfl ?_)
  refine Reg.nil (Run.seq (Run.seq (Run.region (cx_ok _ _ _) (Reg.op rfl (Ope.fld rfl rfl ?_)))))
  refine Reg.op rfl (Ope.load rfl rfl ?_)
  refine Reg.op rfl (Ope.bsl rfl rfl rfl rfl ?_)
  refine Reg.op rfl (Ope.cf rfl rfl (f157 _ [_] (by simp)) rfl ?_)
  refine Reg.op rfl (Ope.not rfl ?_)
  refine Reg.nil (Run.condX rfl (fun hc => ?_) fun hc => ?_)
  ·refine Run.seq (Run.region (cx_ok _ _ _) (Reg.op rfl (Ope.asg rfl ?_)))
   refine Reg.nil (Run.ret (Jmp.code (fin_ret (.tmp rfl .nil) rfl ?_)))
   refine congrArg B ?_
   first
     | exact (Bool.eq_false_iff.2 fun hv => by simp only [validR, limOk, Bool.and_eq_true, decide_eq_true_eq, Int.toNat_natCast] at hv; omega).symm
     | exact (Bool.eq_false_iff.2 fun hv => by simp_all [validR, limOk]).symm
     | exact (show validR m a0 b0 c0 d0 a1 b1 c1 d1 = true by simp only [validR, hi2 (by decide), hi3 (by decide), manyOk, Bool.and_true, Bool.and_eq_true, decide_eq_true_eq]; omega).symm
  ·refine Run.skip (Run.seq (Run.seq (Run.region (cx_ok _ _ _) (Reg.op rfl (Ope.fld rfl rfl ?_)))))
   refine Reg.op rfl (Ope.load rfl rfl ?_)
   refine Reg.op rfl (Ope.mov rfl ?_)
   refine Reg.nil (Run.block ?_)
   obtain ⟨hh1, hh2⟩ : 0 ≤ h ∧ h ≤ 16 := by simpa [manyOk] using hc
   obtain ⟨m, rfl⟩ : ∃ m : Nat, h = (m : Int) := ⟨h.toNat, by omega⟩
   have hpw : 2 ^ m ≤ 65536 := Nat.le_trans (Nat.pow_le_pow_right (by decide) (by omega : m ≤ 16)) (by decide)
   refine Run.loop (α := Nat) (fun i => [(1, .fp (.agg [I m, I a0, I b0, I c0, I d0, I a1, I b1, I c1, I d1])), (11, .agg [I a0, I b0, I c0, I d0, I a1, I b1, I c1, I d1]), (12, I i)]) (fun i => HE i []) (fun i => i ≤ 2 ∧ (1 ≤ i → limOk m a0 b0 c0 d0 = true) ∧ (2 ≤ i → limOk m a1 b1 c1 d1 = true)) (fun i => 2 - i) 0 ⟨rfl, rfl, rfl, trivial⟩ rfl ⟨by omega, fun h => by omega, fun h => by omega⟩ (fun i hi => ?_)
   obtain ⟨hi1, hi2, hi3⟩ := hi
   rcases (by omega : i = 0 ∨ i = 1 ∨ i = 2) with rfl | rfl | rfl
   ·refine Run.seq (Run.region (cx_ok _ _ _) (Reg.op rfl (Ope.lt rfl rfl ?_)))
    refine Reg.nil (Run.seq (Run.condX rfl (fun hc => ?_) fun hc => ?_))
    ·refine Run.skip (Run.seq (Run.block (Run.seq (Run.region (cx_ok _ _ _) (Reg.op rfl (Ope.idx rfl rfl rfl rfl rfl ?_))))))
     refine Reg.op rfl (Ope.newL rfl ?_)
     refine Reg.op0 (Ope.store rfl rfl rfl rfl rfl rfl ?_)
     refine Reg.nil (Run.seq (Run.draw (cx_ok _ _ _) [(0, true), (1, true), (2, true), (3, true), (4, true), (5, true), (6, true), (7, true), (8, true), (9, true), (10, true), (11, true), (12, true), (13, true), (14, true), (15, true), (16, true), (17, true), (18, true), (19, true), (20, true), (21, true)] (by kernel_rfl) (Dra.op' rfl rfl rfl .sure (Ope.fld rfl rfl ?_))))
     refine Dra.op' rfl rfl rfl .sure (Ope.load rfl rfl ?_)
     refine Dra.op' rfl rfl rfl .sure (Ope.lt rfl rfl ?_)
     refine Dra.op' rfl rfl rfl .sure (Ope.mov rfl ?_)
     refine Dra.splitX rfl rfl rfl rfl (fun hg => ?_) fun hg => ?_
     ·refine Dra.off' rfl rfl rfl (.inl rfl) rfl (Dra.off' rfl rfl rfl (.inl rfl) rfl (Dra.off' rfl rfl rfl (.inl rfl) rfl (Dra.off' rfl rfl rfl (.inl rfl) rfl (Dra.off' rfl rfl rfl (.inl rfl) rfl (Dra.off' rfl rfl rfl (.inl rfl) rfl (Dra.op' rfl rfl rfl .sure (Ope.pickT rfl rfl ?_)))))))
      refine Dra.op' rfl rfl rfl .sure (Ope.mov rfl ?_)
      refine Dra.off' rfl rfl rfl (.inl rfl) rfl (Dra.off' rfl rfl rfl (.inl rfl) rfl (Dra.off' rfl rfl rfl (.inl rfl) rfl (Dra.off' rfl rfl rfl (.inl rfl) rfl (Dra.off' rfl rfl rfl (.inl rfl) rfl (Dra.off' rfl rfl rfl (.inl rfl) rfl (Dra.off' rfl rfl rfl (.inl rfl) rfl (Dra.off' rfl rfl rfl (.inl rfl) rfl (Dra.off' rfl rfl rfl (.inl rfl) rfl (Dra.op' rfl rfl rfl .sure (Ope.pickT rfl rfl ?_))))))))))
      refine Dra.nil (Run.condT rfl (Run.seq (Run.region (cx_ok _ _ _) (Reg.op rfl (Ope.asg rfl ?_)))))
      refine Reg.nil (Run.ret (Jmp.retB (Jmp.code (Jmp.round (Jmp.retB (Jmp.code (fin_ret (.tmp rfl .nil) rfl ?_)))))))
      refine congrArg B ?_
      first
        | exact (Bool.eq_false_iff.2 fun hv => by simp only [validR, limOk, Bool.and_eq_true, decide_eq_true_eq, Int.toNat_natCast] at hv; omega).symm
        | exact (Bool.eq_false_iff.2 fun hv => by simp_all [validR, limOk]).symm
        | exact (show validR m a0 b0 c0 d0 a1 b1 c1 d1 = true by simp only [validR, hi2 (by decide), hi3 (by decide), manyOk, Bool.and_true, Bool.and_eq_true, decide_eq_true_eq]; omega).symm
     ·refine Dra.on' rfl rfl rfl rfl rfl .sure (Ope.fld rfl rfl ?_)
      refine Dra.on' rfl rfl rfl rfl rfl .sure (Ope.load rfl rfl ?_)
      refine Dra.on' rfl rfl rfl rfl rfl .sure (Ope.fld rfl rfl ?_)
      refine Dra.on' rfl rfl rfl rfl rfl .sure (Ope.load rfl rfl ?_)
      refine Dra.on' rfl rfl rfl rfl rfl .sure (Ope.shlN (p := 1) (m := m) rfl rfl rfl rfl (by omega) (by omega) ?_)
      refine Dra.on' rfl rfl rfl rfl rfl .sure (Ope.ge rfl rfl ?_)
      refine Dra.op' rfl rfl rfl .sure (Ope.pickF rfl rfl ?_)
      refine Dra.op' rfl rfl rfl .sure (Ope.mov rfl ?_)
      refine Dra.splitX rfl rfl rfl rfl (fun hg => ?_) fun hg => ?_
      ·refine Dra.off' rfl rfl rfl (.inl rfl) rfl (Dra.off' rfl rfl rfl (.inl rfl) rfl (Dra.off' rfl rfl rfl (.inl rfl) rfl (Dra.off' rfl rfl rfl (.inl rfl) rfl (Dra.off' rfl rfl rfl (.inl rfl) rfl (Dra.off' rfl rfl rfl (.inl rfl) rfl (Dra.off' rfl rfl rfl (.inl rfl) rfl (Dra.off' rfl rfl rfl (.inl rfl) rfl (Dra.off' rfl rfl rfl (.inl rfl) rfl (Dra.op' rfl rfl rfl .sure (Ope.pickT rfl rfl ?_))))))))))
       refine Dra.nil (Run.condT rfl (Run.seq (Run.region (cx_ok _ _ _) (Reg.op rfl (Ope.asg rfl ?_)))))
       refine Reg.nil (Run.ret (Jmp.retB (Jmp.code (Jmp.round (Jmp.retB (Jmp.code (fin_ret (.tmp rfl .nil) rfl ?_)))))))
       refine congrArg B ?_
       first
         | exact (Bool.eq_false_iff.2 fun hv => by simp only [validR, limOk, Bool.and_eq_true, decide_eq_true_eq, Int.toNat_natCast] at hv; omega).symm
         | exact (Bool.eq_false_iff.2 fun hv => by simp_all [validR, limOk]).symm
         | exact (show validR m a0 b0 c0 d0 a1 b1 c1 d1 = true by simp only [validR, hi2 (by decide), hi3 (by decide), manyOk, Bool.and_true, Bool.and_eq_true, decide_eq_true_eq]; omega).symm
      ·refine Dra.on' rfl rfl rfl rfl rfl .sure (Ope.fld rfl rfl ?_)
       refine Dra.on' rfl rfl rfl rfl rfl .sure (Ope.load rfl rfl ?_)
       refine Dra.on' rfl rfl rfl rfl rfl .sure (Ope.fld rfl rfl ?_)
       refine Dra.on' rfl rfl rfl rfl rfl .sure (Ope.load rfl rfl ?_)
       refine Dra.on' rfl rfl rfl rfl rfl .sure (Ope.fld rfl rfl ?_)
       refine Dra.on' rfl rfl rfl rfl rfl .sure (Ope.load rfl rfl ?_)
       refine Dra.on' rfl rfl rfl rfl rfl .sure (Ope.bsl rfl rfl rfl rfl ?_)
       refine Dra.on' rfl rfl rfl rfl rfl .sure (Ope.cf rfl rfl (f157 _ [_, _, _] (by simp)) rfl ?_)
       refine Dra.on' rfl rfl rfl rfl rfl .sure (Ope.not rfl ?_)
       refine Dra.op' rfl rfl rfl .sure (Ope.pickF rfl rfl ?_)
       refine Dra.nil (Run.condX rfl (fun hc => ?_) fun hc => ?_)
       ·refine Run.seq (Run.region (cx_ok _ _ _) (Reg.op rfl (Ope.asg rfl ?_)))
        refine Reg.nil (Run.ret (Jmp.retB (Jmp.code (Jmp.round (Jmp.retB (Jmp.code (fin_ret (.tmp rfl .nil) rfl ?_)))))))
        refine congrArg B ?_
        first
          | exact (Bool.eq_false_iff.2 fun hv => by simp only [validR, limOk, Bool.and_eq_true, decide_eq_true_eq, Int.toNat_natCast] at hv; omega).symm
          | exact (Bool.eq_false_iff.2 fun hv => by simp_all [validR, limOk]).symm
          | exact (show validR m a0 b0 c0 d0 a1 b1 c1 d1 = true by simp only [validR, hi2 (by decide), hi3 (by decide), manyOk, Bool.and_true, Bool.and_eq_true, decide_eq_true_eq]; omega).symm
       ·refine Run.skip (Run.bend (Run.wide (Nat.le_refl _) Hsub.nil ?_))
        refine Run.region (cx_ok _ _ _) (Reg.op rfl (Ope.add rfl rfl (by omega) ?_))
        refine Reg.op rfl (Ope.mov rfl ?_)
        refine Reg.nil ?_
        first
          | refine Run.lend ⟨1, by decide, ⟨by decide, fun _ => ?_, fun h => absurd h (by decide)⟩, ⟨rfl, rfl, rfl, trivial⟩, rfl, rfl⟩
          | refine Run.lend ⟨2, by decide, ⟨by decide, fun _ => hi2 (by decide), fun _ => ?_⟩, ⟨rfl, rfl, rfl, trivial⟩, rfl, rfl⟩
        all_goals
          simp only [List.all_cons, List.all_nil, Bool.and_true] at hc
          simp only [limOk, hc, Bool.and_true, Bool.and_eq_true, decide_eq_true_eq, Int.toNat_natCast]
          omega
    ·exfalso; omega
   ·refine Run.seq (Run.region (cx_ok _ _ _) (Reg.op rfl (Ope.lt rfl rfl ?_)))
    refine Reg.nil (Run.seq (Run.condX rfl (fun hc => ?_) fun hc => ?_))
    ·refine Run.skip (Run.seq (Run.block (Run.seq (Run.region (cx_ok _ _ _) (Reg.op rfl (Ope.idx rfl rfl rfl rfl rfl ?_))))))
     refine Reg.op rfl (Ope.newL rfl ?_)
     refine Reg.op0 (Ope.store rfl rfl rfl rfl rfl rfl ?_)
     refine Reg.nil (Run.seq (Run.draw (cx_ok _ _ _) [(0, true), (1, true), (2, true), (3, true), (4, true), (5, true), (6, true), (7, true), (8, true), (9, true), (10, true), (11, true), (12, true), (13, true), (14, true), (15, true), (16, true), (17, true), (18, true), (19, true), (20, true), (21, true)] (by kernel_rfl) (Dra.op' rfl rfl rfl .sure (Ope.fld rfl rfl ?_))))
     refine Dra.op' rfl rfl rfl .sure (Ope.load rfl rfl ?_)
     refine Dra.op' rfl rfl rfl .sure (Ope.lt rfl rfl ?_)
     refine Dra.op' rfl rfl rfl .sure (Ope.mov rfl ?_)
     refine Dra.splitX rfl rfl rfl rfl (fun hg => ?_) fun hg => ?_
     ·refine Dra.off' rfl rfl rfl (.inl rfl) rfl (Dra.off' rfl rfl rfl (.inl rfl) rfl (Dra.off' rfl rfl rfl (.inl rfl) rfl (Dra.off' rfl rfl rfl (.inl rfl) rfl (Dra.off' rfl rfl rfl (.inl rfl) rfl (Dra.off' rfl rfl rfl (.inl rfl) rfl (Dra.op' rfl rfl rfl .sure (Ope.pickT rfl rfl ?_)))))))
      refine Dra.op' rfl rfl rfl .sure (Ope.mov rfl ?_)
      refine Dra.off' rfl rfl rfl (.inl rfl) rfl (Dra.off' rfl rfl rfl (.inl rfl) rfl (Dra.off' rfl rfl rfl (.inl rfl) rfl (Dra.off' rfl rfl rfl (.inl rfl) rfl (Dra.off' rfl rfl rfl (.inl rfl) rfl (Dra.off' rfl rfl rfl (.inl rfl) rfl (Dra.off' rfl rfl rfl (.inl rfl) rfl (Dra.off' rfl rfl rfl (.inl rfl) rfl (Dra.off' rfl rfl rfl (.inl rfl) rfl (Dra.op' rfl rfl rfl .sure (Ope.pickT rfl rfl ?_))))))))))
      refine Dra.nil (Run.condT rfl (Run.seq (Run.region (cx_ok _ _ _) (Reg.op rfl (Ope.asg rfl ?_)))))
      refine Reg.nil (Run.ret (Jmp.retB (Jmp.code (Jmp.round (Jmp.retB (Jmp.code (fin_ret (.tmp rfl .nil) rfl ?_)))))))
      refine congrArg B ?_
      first
        | exact (Bool.eq_false_iff.2 fun hv => by simp only [validR, limOk, Bool.and_eq_true, decide_eq_true_eq, Int.toNat_natCast] at hv; omega).symm
        | exact (Bool.eq_false_iff.2 fun hv => by simp_all [validR, limOk]).symm
        | exact (show validR m a0 b0 c0 d0 a1 b1 c1 d1 = true by simp only [validR, hi2 (by decide), hi3 (by decide), manyOk, Bool.and_true, Bool.and_eq_true, decide_eq_true_eq]; omega).symm
     ·refine Dra.on' rfl rfl rfl rfl rfl .sure (Ope.fld rfl rfl ?_)
      refine Dra.on' rfl rfl rfl rfl rfl .sure (Ope.load rfl rfl ?_)
      refine Dra.on' rfl rfl rfl rfl rfl .sure (Ope.fld rfl rfl ?_)
      refine Dra.on' rfl rfl rfl rfl rfl .sure (Ope.load rfl rfl ?_)
      refine Dra.on' rfl rfl rfl rfl rfl .sure (Ope.shlN (p := 1) (m := m) rfl rfl rfl rfl (by omega) (by omega) ?_)
      refine Dra.on' rfl rfl rfl rfl rfl .sure (Ope.ge rfl rfl ?_)
      refine Dra.op' rfl rfl rfl .sure (Ope.pickF rfl rfl ?_)
      refine Dra.op' rfl rfl rfl .sure (Ope.mov rfl ?_)
      refine Dra.splitX rfl rfl rfl rfl (fun hg => ?_) fun hg => ?_
      ·refine Dra.off' rfl rfl rfl (.inl rfl) rfl (Dra.off' rfl rfl rfl (.inl rfl) rfl (Dra.off' rfl rfl rfl (.inl rfl) rfl (Dra.off' rfl rfl rfl (.inl rfl) rfl (Dra.off' rfl rfl rfl (.inl rfl) rfl (Dra.off' rfl rfl rfl (.inl rfl) rfl (Dra.off' rfl rfl rfl (.inl rfl) rfl (Dra.off' rfl rfl rfl (.inl rfl) rfl (Dra.off' rfl rfl rfl (.inl rfl) rfl (Dra.op' rfl rfl rfl .sure (Ope.pickT rfl rfl ?_))))))))))
       refine Dra.nil (Run.condT rfl (Run.seq (Run.region (cx_ok _ _ _) (Reg.op rfl (Ope.asg rfl ?_)))))
       refine Reg.nil (Run.ret (Jmp.retB (Jmp.code (Jmp.round (Jmp.retB (Jmp.code (fin_ret (.tmp rfl .nil) rfl ?_)))))))
       refine congrArg B ?_
       first
         | exact (Bool.eq_false_iff.2 fun hv => by simp only [validR, limOk, Bool.and_eq_true, decide_eq_true_eq, Int.toNat_natCast] at hv; omega).symm
         | exact (Bool.eq_false_iff.2 fun hv => by simp_all [validR, limOk]).symm
         | exact (show validR m a0 b0 c0 d0 a1 b1 c1 d1 = true by simp only [validR, hi2 (by decide), hi3 (by decide), manyOk, Bool.and_true, Bool.and_eq_true, decide_eq_true_eq]; omega).symm
      ·refine Dra.on' rfl rfl rfl rfl rfl .sure (Ope.fld rfl rfl ?_)
       refine Dra.on' rfl rfl rfl rfl rfl .sure (Ope.load rfl rfl ?_)
       refine Dra.on' rfl rfl rfl rfl rfl .sure (Ope.fld rfl rfl ?_)
       refine Dra.on' rfl rfl rfl rfl rfl .sure (Ope.load rfl rfl ?_)
       refine Dra.on' rfl rfl rfl rfl rfl .sure (Ope.fld rfl rfl ?_)
       refine Dra.on' rfl rfl rfl rfl rfl .sure (Ope.load rfl rfl ?_)
       refine Dra.on' rfl rfl rfl rfl rfl .sure (Ope.bsl rfl rfl rfl rfl ?_)
       refine Dra.on' rfl rfl rfl rfl rfl .sure (Ope.cf rfl rfl (f157 _ [_, _, _] (by simp)) rfl ?_)
       refine Dra.on' rfl rfl rfl rfl rfl .sure (Ope.not rfl ?_)
       refine Dra.op' rfl rfl rfl .sure (Ope.pickF rfl rfl ?_)
       refine Dra.nil (Run.condX rfl (fun hc => ?_) fun hc => ?_)
       ·refine Run.seq (Run.region (cx_ok _ _ _) (Reg.op rfl (Ope.asg rfl ?_)))
        refine Reg.nil (Run.ret (Jmp.retB (Jmp.code (Jmp.round (Jmp.retB (Jmp.code (fin_ret (.tmp rfl .nil) rfl ?_)))))))
        refine congrArg B ?_
        first
          | exact (Bool.eq_false_iff.2 fun hv => by simp only [validR, limOk, Bool.and_eq_true, decide_eq_true_eq, Int.toNat_natCast] at hv; omega).symm
          | exact (Bool.eq_false_iff.2 fun hv => by simp_all [validR, limOk]).symm
          | exact (show validR m a0 b0 c0 d0 a1 b1 c1 d1 = true by simp only [validR, hi2 (by decide), hi3 (by decide), manyOk, Bool.and_true, Bool.and_eq_true, decide_eq_true_eq]; omega).symm
       ·refine Run.skip (Run.bend (Run.wide (Nat.le_refl _) Hsub.nil ?_))
        refine Run.region (cx_ok _ _ _) (Reg.op rfl (Ope.add rfl rfl (by omega) ?_))
        refine Reg.op rfl (Ope.mov rfl ?_)
        refine Reg.nil ?_
        first
          | refine Run.lend ⟨1, by decide, ⟨by decide, fun _ => ?_, fun h => absurd h (by decide)⟩, ⟨rfl, rfl, rfl, trivial⟩, rfl, rfl⟩
          | refine Run.lend ⟨2, by decide, ⟨by decide, fun _ => hi2 (by decide), fun _ => ?_⟩, ⟨rfl, rfl, rfl, trivial⟩, rfl, rfl⟩
        all_goals
          simp only [List.all_cons, List.all_nil, Bool.and_true] at hc
          simp only [limOk, hc, Bool.and_true, Bool.and_eq_true, decide_eq_true_eq, Int.toNat_natCast]
          omega
    ·exfalso; omega
   ·refine Run.seq (Run.region (cx_ok _ _ _) (Reg.op rfl (Ope.lt rfl rfl ?_)))
    refine Reg.nil (Run.seq (Run.condX rfl (fun hc => ?_) fun hc => ?_))
    ·exfalso; omega
    ·refine Run.exit (Jmp.code (Jmp.round (Jmp.here (Run.seq (Run.region (cx_ok _ _ _) (Reg.op rfl (Ope.asg rfl ?_)))))))
     refine Reg.nil (Run.ret (fin_ret (.tmp rfl .nil) rfl ?_))
     refine congrArg B ?_
     first
       | exact (Bool.eq_false_iff.2 fun hv => by simp only [validR, limOk, Bool.and_eq_true, decide_eq_true_eq, Int.toNat_natCast] at hv; omega).symm
       | exact (Bool.eq_false_iff.2 fun hv => by simp_all [validR, limOk]).symm
       | exact (show validR m a0 b0 c0 d0 a1 b1 c1 d1 = true by simp only [validR, hi2 (by decide), hi3 (by decide), manyOk, Bool.and_true, Bool.and_eq_true, decide_eq_true_eq]; omega).symm
end Go.Pv
namespace Go.Pv
open Go.Proofs Go.Am
set_option maxRecDepth 10000
set_option linter.unusedVariables false
set_option linter.unusedSimpArgs false
theorem pow16 {m : Nat} (h : m ≤ 16) : 2 ^ m ≤ 65536 := Nat.le_trans (Nat.pow_le_pow_right (by decide) h) (by decide)
theorem f76 (m : Nat) (hm : m ≤ 16) : Fn P0 76 [I m] (I ((2 ^ m : Nat) : Int)) := by
  refine PFun.of (C := c76) (cx_ok _ _ _) rfl (fn := Tryz.f76) (by kernel_rfl) (c := _) rfl rfl rfl ?_
  refine Run.seq (Run.region (cx_ok _ _ _) (Reg.op rfl (Ope.asg rfl ?_)))
  refine Reg.nil (Run.seq (Run.region (cx_ok _ _ _) (Reg.op rfl (Ope.asg rfl ?_))))
  refine Reg.nil (Run.seq (Run.seq (Run.region (cx_ok _ _ _) (Reg.op rfl (Ope.asg rfl ?_)))))
  refine Reg.nil (Run.block (Run.loop (α := Nat) (fun i => [(0, I m), (3, I ((2 ^ i : Nat) : Int)), (4, I i)]) (fun _ => HE 0 []) (fun i => i ≤ m) (fun i => m - i) 0 ⟨rfl, rfl, rfl, trivial⟩ rfl (Nat.zero_le _) (fun i hi => ?_)))
  have hpw := pow16 (Nat.le_trans hi hm)
  have hp1 : ((2 ^ i : Nat) : Int) ≤ 65536 ∧ 0 ≤ ((2 ^ i : Nat) : Int) := ⟨Int.ofNat_le.2 hpw, Int.natCast_nonneg _⟩
  refine Run.seq (Run.seq (Run.region (cx_ok _ _ _) (Reg.op rfl (Ope.mov rfl ?_))))
  refine Reg.op rfl (Ope.mov rfl ?_)
  refine Reg.op rfl (Ope.lt rfl rfl ?_)
  refine Reg.nil (Run.condX rfl (fun hc => ?_) fun hc => ?_)
  ·refine Run.skip (Run.seq (Run.block (Run.region (cx_ok _ _ _) (Reg.op rfl (Ope.mov rfl ?_)))))
   refine Reg.op rfl (Ope.mul rfl rfl (by omega) ?_)
   refine Reg.op rfl (Ope.asg rfl ?_)
   refine Reg.nil (Run.bend (Run.region (cx_ok _ _ _) (Reg.op rfl (Ope.mov rfl ?_))))
   refine Reg.op rfl (Ope.add rfl rfl (by omega) ?_)
   refine Reg.op rfl (Ope.asg rfl ?_)
   refine Reg.nil (Run.lend ⟨i + 1, by omega, by omega, ⟨rfl, ?_, rfl, trivial⟩, rfl, rfl⟩)
   show some (I (2 * ((2 ^ i : Nat) : Int))) = some (I ((2 ^ (i + 1) : Nat) : Int))
   congr 3
   rw [Nat.pow_succ]
   omega
  ·refine Run.exit (Jmp.code (Jmp.round (Jmp.here (Run.seq (Run.region (cx_ok _ _ _) (Reg.op rfl (Ope.mov rfl ?_)))))))
   refine Reg.op rfl (Ope.asg rfl ?_)
   refine Reg.nil (Run.ret (fin_ret (.tmp rfl .nil) rfl ?_))
   have : i = m := by omega
   subst this
   rfl
theorem f33 (h a0 b0 c0 d0 a1 b1 c1 d1 : Int) : Fn P0 33 [.agg [I h, I a0, I b0, I c0, I d0, I a1, I b1, I c1, I d1]] (B (validR h a0 b0 c0 d0 a1 b1 c1 d1)) := by
  refine PFun.of (C := c33) (cx_ok _ _ _) rfl (fn := Tryz.f33) (by kernel_rfl) (c := _) rfl rfl rfl ?_
  refine Run.seq (Run.region (cx_ok _ _ _) (Reg.op rfl (Ope.boxF rfl rfl ?_)))
  refine Reg.op rfl (Ope.asg rfl ?_)
  refine Reg.nil (Run.seq (Run.seq (Run.region (cx_ok _ _ _) (Reg.op rfl (Ope.fld rfl rfl ?_)))))
  refine Reg.op rfl (Ope.load rfl rfl ?_)
  refine Reg.op rfl (Ope.cf rfl rfl (f73 _ _ _) rfl ?_)
  refine Reg.op rfl (Ope.not rfl ?_)
  refine Reg.nil (Run.condX rfl (fun hc => ?_) fun hc => ?_)
  ·refine Run.seq (Run.region (cx_ok _ _ _) (Reg.op rfl (Ope.asg rfl ?_)))
   refine Reg.nil (Run.ret (Jmp.code (fin_ret (.tmp rfl .nil) rfl ?_)))
   refine congrArg B ?_
   first
     | refine (Bool.eq_false_iff.2 fun hv => ?_).symm
       simp only [validR, limOk, manyOk, Bool.and_eq_true, decide_eq_true_eq, Int.toNat_natCast] at hv
       simp only [Bool.not_eq_true', Bool.and_eq_false_iff, decide_eq_false_iff_not, Bool.not_eq_false', Bool.and_eq_true, decide_eq_true_eq] at *
       omega
     | exact (show validR m a0 b0 c0 d0 a1 b1 c1 d1 = true by simp only [validR, hi2 (by decide), hi3 (by decide), manyOk, Bool.and_true, Bool.and_eq_true, decide_eq_true_eq]; omega).symm
  ·refine Run.skip (Run.seq (Run.seq (Run.region (cx_ok _ _ _) (Reg.op rfl (Ope.asg rfl ?_)))))
   refine Reg.nil (Run.block ?_)
   obtain ⟨hh1, hh2⟩ : 0 ≤ h ∧ h ≤ 16 := by simpa using hc
   obtain ⟨m, rfl⟩ : ∃ m : Nat, h = (m : Int) := ⟨h.toNat, by omega⟩
   have hpw : 2 ^ m ≤ 65536 := pow16 (by omega)
   have hp1 : ((2 ^ m : Nat) : Int) ≤ 65536 ∧ 0 ≤ ((2 ^ m : Nat) : Int) := ⟨Int.ofNat_le.2 hpw, Int.natCast_nonneg _⟩
   refine Run.loop (α := Nat) (fun i => [(1, .fp (.agg [I m, I a0, I b0, I c0, I d0, I a1, I b1, I c1, I d1])), (3, I i)]) (fun i => HE i []) (fun i => i ≤ 2 ∧ (1 ≤ i → limOk m a0 b0 c0 d0 = true) ∧ (2 ≤ i → limOk m a1 b1 c1 d1 = true)) (fun i => 2 - i) 0 ⟨rfl, rfl, trivial⟩ rfl ⟨by omega, fun h => by omega, fun h => by omega⟩ (fun i hi => ?_)
   obtain ⟨hi1, hi2, hi3⟩ := hi
   rcases (by omega : i = 0 ∨ i = 1 ∨ i = 2) with rfl | rfl | rfl
   ·refine Run.seq (Run.seq (Run.region (cx_ok _ _ _) (Reg.op rfl (Ope.mov rfl ?_))))
    refine Reg.op rfl (Ope.lt rfl rfl ?_)
    refine Reg.nil (Run.condX rfl (fun hc => ?_) fun hc => ?_)
    ·refine Run.skip (Run.seq (Run.block (Run.seq (Run.region (cx_ok _ _ _) (Reg.op rfl (Ope.mov rfl ?_))))))
     refine Reg.op rfl (Ope.fld rfl rfl ?_)
     refine Reg.op rfl (Ope.idxA rfl rfl rfl rfl ?_)
     refine Reg.op rfl (Ope.load rfl rfl ?_)
     refine Reg.op rfl (Ope.newL rfl ?_)
     refine Reg.op0 (Ope.store rfl rfl rfl rfl rfl rfl ?_)
     refine Reg.nil (Run.seq (Run.frz (d := 4) true rfl rfl rfl ?_))
     refine Run.draw (cx_ok _ _ _) [(0, true), (1, false), (2, true), (3, true), (4, true), (5, true), (6, true), (7, true), (8, true), (9, true), (10, true), (11, true), (12, true), (13, true), (14, true), (15, true), (16, true), (17, true), (18, true), (19, true), (20, true), (21, true), (22, true), (23, true), (24, true), (25, true)] (by kernel_rfl) (Dra.op' rfl rfl rfl .sure (Ope.fld rfl rfl ?_))
     refine Dra.op' rfl rfl rfl (.load rfl) (Ope.load rfl rfl ?_)
     refine Dra.op' rfl rfl rfl .sure (Ope.fld rfl rfl ?_)
     refine Dra.op' rfl rfl rfl .sure (Ope.load rfl rfl ?_)
     refine Dra.op' rfl rfl rfl .sure (Ope.cf rfl rfl (f76 m (by omega)) rfl ?_)
     refine Dra.op' rfl rfl rfl .sure (Ope.sub rfl rfl (by omega) ?_)
     refine Dra.op' rfl rfl rfl .sure (Ope.cf rfl rfl (f73 _ _ _) rfl ?_)
     refine Dra.op' rfl rfl rfl .sure (Ope.not rfl ?_)
     refine Dra.op' rfl rfl rfl .sure (Ope.mov rfl ?_)
     refine Dra.splitX rfl rfl rfl rfl (fun hg => ?_) fun hg => ?_
     ·refine Dra.off' rfl rfl rfl (.inl rfl) rfl (Dra.off' rfl rfl rfl (.inl rfl) rfl (Dra.off' rfl rfl rfl (.inl rfl) rfl (Dra.off' rfl rfl rfl (.inl rfl) rfl (Dra.op' rfl rfl rfl .sure (Ope.pickT rfl rfl ?_)))))
      refine Dra.op' rfl rfl rfl .sure (Ope.mov rfl ?_)
      refine Dra.off' rfl rfl rfl (.inl rfl) rfl (Dra.off' rfl rfl rfl (.inl rfl) rfl (Dra.off' rfl rfl rfl (.inl rfl) rfl (Dra.off' rfl rfl rfl (.inl rfl) rfl (Dra.op' rfl rfl rfl .sure (Ope.pickT rfl rfl ?_)))))
      refine Dra.op' rfl rfl rfl .sure (Ope.mov rfl ?_)
      refine Dra.off' rfl rfl rfl (.inl rfl) rfl (Dra.off' rfl rfl rfl (.inl rfl) rfl (Dra.off' rfl rfl rfl (.inl rfl) rfl (Dra.off' rfl rfl rfl (.inl rfl) rfl (Dra.op' rfl rfl rfl .sure (Ope.pickT rfl rfl ?_)))))
      refine Dra.nil (Run.condT rfl (Run.seq (Run.region (cx_ok _ _ _) (Reg.op rfl (Ope.asg rfl ?_)))))
      refine Reg.nil (Run.ret (Jmp.retB (Jmp.code (Jmp.round (Jmp.retB (Jmp.code (fin_ret (.tmp rfl .nil) rfl ?_)))))))
      refine congrArg B ?_
      first
        | refine (Bool.eq_false_iff.2 fun hv => ?_).symm
          simp only [validR, limOk, manyOk, Bool.and_eq_true, decide_eq_true_eq, Int.toNat_natCast] at hv
          simp only [Bool.not_eq_true', Bool.and_eq_false_iff, decide_eq_false_iff_not, Bool.not_eq_false', Bool.and_eq_true, decide_eq_true_eq] at *
          omega
        | exact (show validR m a0 b0 c0 d0 a1 b1 c1 d1 = true by simp only [validR, hi2 (by decide), hi3 (by decide), manyOk, Bool.and_true, Bool.and_eq_true, decide_eq_true_eq]; omega).symm
     ·refine Dra.on' rfl rfl rfl rfl rfl .sure (Ope.fld rfl rfl ?_)
      refine Dra.on' rfl rfl rfl rfl rfl .sure (Ope.load rfl rfl ?_)
      refine Dra.on' rfl rfl rfl rfl rfl .sure (Ope.cf rfl rfl (f73 _ _ _) rfl ?_)
      refine Dra.on' rfl rfl rfl rfl rfl .sure (Ope.not rfl ?_)
      refine Dra.op' rfl rfl rfl .sure (Ope.pickF rfl rfl ?_)
      refine Dra.op' rfl rfl rfl .sure (Ope.mov rfl ?_)
      refine Dra.splitX rfl rfl rfl rfl (fun hg => ?_) fun hg => ?_
      ·refine Dra.off' rfl rfl rfl (.inl rfl) rfl (Dra.off' rfl rfl rfl (.inl rfl) rfl (Dra.off' rfl rfl rfl (.inl rfl) rfl (Dra.off' rfl rfl rfl (.inl rfl) rfl (Dra.op' rfl rfl rfl .sure (Ope.pickT rfl rfl ?_)))))
       refine Dra.op' rfl rfl rfl .sure (Ope.mov rfl ?_)
       refine Dra.off' rfl rfl rfl (.inl rfl) rfl (Dra.off' rfl rfl rfl (.inl rfl) rfl (Dra.off' rfl rfl rfl (.inl rfl) rfl (Dra.off' rfl rfl rfl (.inl rfl) rfl (Dra.op' rfl rfl rfl .sure (Ope.pickT rfl rfl ?_)))))
       refine Dra.nil (Run.condT rfl (Run.seq (Run.region (cx_ok _ _ _) (Reg.op rfl (Ope.asg rfl ?_)))))
       refine Reg.nil (Run.ret (Jmp.retB (Jmp.code (Jmp.round (Jmp.retB (Jmp.code (fin_ret (.tmp rfl .nil) rfl ?_)))))))
       refine congrArg B ?_
       first
         | refine (Bool.eq_false_iff.2 fun hv => ?_).symm
           simp only [validR, limOk, manyOk, Bool.and_eq_true, decide_eq_true_eq, Int.toNat_natCast] at hv
           simp only [Bool.not_eq_true', Bool.and_eq_false_iff, decide_eq_false_iff_not, Bool.not_eq_false', Bool.and_eq_true, decide_eq_true_eq] at *
           omega
         | exact (show validR m a0 b0 c0 d0 a1 b1 c1 d1 = true by simp only [validR, hi2 (by decide), hi3 (by decide), manyOk, Bool.and_true, Bool.and_eq_true, decide_eq_true_eq]; omega).symm
      ·refine Dra.on' rfl rfl rfl rfl rfl .sure (Ope.fld rfl rfl ?_)
       refine Dra.on' rfl rfl rfl rfl rfl .sure (Ope.load rfl rfl ?_)
       refine Dra.on' rfl rfl rfl rfl rfl .sure (Ope.cf rfl rfl (f73 _ _ _) rfl ?_)
       refine Dra.on' rfl rfl rfl rfl rfl .sure (Ope.not rfl ?_)
       refine Dra.op' rfl rfl rfl .sure (Ope.pickF rfl rfl ?_)
       refine Dra.op' rfl rfl rfl .sure (Ope.mov rfl ?_)
       refine Dra.splitX rfl rfl rfl rfl (fun hg => ?_) fun hg => ?_
       ·refine Dra.off' rfl rfl rfl (.inl rfl) rfl (Dra.off' rfl rfl rfl (.inl rfl) rfl (Dra.off' rfl rfl rfl (.inl rfl) rfl (Dra.off' rfl rfl rfl (.inl rfl) rfl (Dra.op' rfl rfl rfl .sure (Ope.pickT rfl rfl ?_)))))
        refine Dra.nil (Run.condT rfl (Run.seq (Run.region (cx_ok _ _ _) (Reg.op rfl (Ope.asg rfl ?_)))))
        refine Reg.nil (Run.ret (Jmp.retB (Jmp.code (Jmp.round (Jmp.retB (Jmp.code (fin_ret (.tmp rfl .nil) rfl ?_)))))))
        refine congrArg B ?_
        first
          | refine (Bool.eq_false_iff.2 fun hv => ?_).symm
            simp only [validR, limOk, manyOk, Bool.and_eq_true, decide_eq_true_eq, Int.toNat_natCast] at hv
            simp only [Bool.not_eq_true', Bool.and_eq_false_iff, decide_eq_false_iff_not, Bool.not_eq_false', Bool.and_eq_true, decide_eq_true_eq] at *
            omega
          | exact (show validR m a0 b0 c0 d0 a1 b1 c1 d1 = true by simp only [validR, hi2 (by decide), hi3 (by decide), manyOk, Bool.and_true, Bool.and_eq_true, decide_eq_true_eq]; omega).symm
       ·refine Dra.on' rfl rfl rfl rfl rfl .sure (Ope.fld rfl rfl ?_)
        refine Dra.on' rfl rfl rfl rfl rfl .sure (Ope.load rfl rfl ?_)
        refine Dra.on' rfl rfl rfl rfl rfl .sure (Ope.cf rfl rfl (f73 _ _ _) rfl ?_)
        refine Dra.on' rfl rfl rfl rfl rfl .sure (Ope.not rfl ?_)
        refine Dra.op' rfl rfl rfl .sure (Ope.pickF rfl rfl ?_)
        refine Dra.nil (Run.condX rfl (fun hc => ?_) fun hc => ?_)
        ·refine Run.seq (Run.region (cx_ok _ _ _) (Reg.op rfl (Ope.asg rfl ?_)))
         refine Reg.nil (Run.ret (Jmp.retB (Jmp.code (Jmp.round (Jmp.retB (Jmp.code (fin_ret (.tmp rfl .nil) rfl ?_)))))))
         refine congrArg B ?_
         first
           | refine (Bool.eq_false_iff.2 fun hv => ?_).symm
             simp only [validR, limOk, manyOk, Bool.and_eq_true, decide_eq_true_eq, Int.toNat_natCast] at hv
             simp only [Bool.not_eq_true', Bool.and_eq_false_iff, decide_eq_false_iff_not, Bool.not_eq_false', Bool.and_eq_true, decide_eq_true_eq] at *
             omega
           | exact (show validR m a0 b0 c0 d0 a1 b1 c1 d1 = true by simp only [validR, hi2 (by decide), hi3 (by decide), manyOk, Bool.and_true, Bool.and_eq_true, decide_eq_true_eq]; omega).symm
        ·refine Run.skip (Run.bend (Run.wide (Nat.le_refl _) Hsub.nil ?_))
         refine Run.region (cx_ok _ _ _) (Reg.op rfl (Ope.mov rfl ?_))
         refine Reg.op rfl (Ope.add rfl rfl (by omega) ?_)
         refine Reg.op rfl (Ope.asg rfl ?_)
         refine Reg.nil ?_
         first
           | refine Run.lend ⟨1, by decide, ⟨by decide, fun _ => ?_, fun h => absurd h (by decide)⟩, ⟨rfl, rfl, trivial⟩, rfl, rfl⟩
           | refine Run.lend ⟨2, by decide, ⟨by decide, fun _ => hi2 (by decide), fun _ => ?_⟩, ⟨rfl, rfl, trivial⟩, rfl, rfl⟩
         all_goals
           simp only [Bool.not_eq_true', Bool.and_eq_false_iff, decide_eq_false_iff_not, Bool.not_eq_false', Bool.and_eq_true, decide_eq_true_eq] at *
           simp only [limOk, manyOk, Bool.and_eq_true, decide_eq_true_eq, Int.toNat_natCast]
           omega
    ·exfalso; omega
   ·refine Run.seq (Run.seq (Run.region (cx_ok _ _ _) (Reg.op rfl (Ope.mov rfl ?_))))
    refine Reg.op rfl (Ope.lt rfl rfl ?_)
    refine Reg.nil (Run.condX rfl (fun hc => ?_) fun hc => ?_)
    ·refine Run.skip (Run.seq (Run.block (Run.seq (Run.region (cx_ok _ _ _) (Reg.op rfl (Ope.mov rfl ?_))))))
     refine Reg.op rfl (Ope.fld rfl rfl ?_)
     refine Reg.op rfl (Ope.idxA rfl rfl rfl rfl ?_)
     refine Reg.op rfl (Ope.load rfl rfl ?_)
     refine Reg.op rfl (Ope.newL rfl ?_)
     refine Reg.op0 (Ope.store rfl rfl rfl rfl rfl rfl ?_)
     refine Reg.nil (Run.seq (Run.frz (d := 4) true rfl rfl rfl ?_))
     refine Run.draw (cx_ok _ _ _) [(0, true), (1, false), (2, true), (3, true), (4, true), (5, true), (6, true), (7, true), (8, true), (9, true), (10, true), (11, true), (12, true), (13, true), (14, true), (15, true), (16, true), (17, true), (18, true), (19, true), (20, true), (21, true), (22, true), (23, true), (24, true), (25, true)] (by kernel_rfl) (Dra.op' rfl rfl rfl .sure (Ope.fld rfl rfl ?_))
     refine Dra.op' rfl rfl rfl (.load rfl) (Ope.load rfl rfl ?_)
     refine Dra.op' rfl rfl rfl .sure (Ope.fld rfl rfl ?_)
     refine Dra.op' rfl rfl rfl .sure (Ope.load rfl rfl ?_)
     refine Dra.op' rfl rfl rfl .sure (Ope.cf rfl rfl (f76 m (by omega)) rfl ?_)
     refine Dra.op' rfl rfl rfl .sure (Ope.sub rfl rfl (by omega) ?_)
     refine Dra.op' rfl rfl rfl .sure (Ope.cf rfl rfl (f73 _ _ _) rfl ?_)
     refine Dra.op' rfl rfl rfl .sure (Ope.not rfl ?_)
     refine Dra.op' rfl rfl rfl .sure (Ope.mov rfl ?_)
     refine Dra.splitX rfl rfl rfl rfl (fun hg => ?_) fun hg => ?_
     ·refine Dra.off' rfl rfl rfl (.inl rfl) rfl (Dra.off' rfl rfl rfl (.inl rfl) rfl (Dra.off' rfl rfl rfl (.inl rfl) rfl (Dra.off' rfl rfl rfl (.inl rfl) rfl (Dra.op' rfl rfl rfl .sure (Ope.pickT rfl rfl ?_)))))
      refine Dra.op' rfl rfl rfl .sure (Ope.mov rfl ?_)
      refine Dra.off' rfl rfl rfl (.inl rfl) rfl (Dra.off' rfl rfl rfl (.inl rfl) rfl (Dra.off' rfl rfl rfl (.inl rfl) rfl (Dra.off' rfl rfl rfl (.inl rfl) rfl (Dra.op' rfl rfl rfl .sure (Ope.pickT rfl rfl ?_)))))
      refine Dra.op' rfl rfl rfl .sure (Ope.mov rfl ?_)
      refine Dra.off' rfl rfl rfl (.inl rfl) rfl (Dra.off' rfl rfl rfl (.inl rfl) rfl (Dra.off' rfl rfl rfl (.inl rfl) rfl (Dra.off' rfl rfl rfl (.inl rfl) rfl (Dra.op' rfl rfl rfl .sure (Ope.pickT rfl rfl ?_)))))
      refine Dra.nil (Run.condT rfl (Run.seq (Run.region (cx_ok _ _ _) (Reg.op rfl (Ope.asg rfl ?_)))))
      refine Reg.nil (Run.ret (Jmp.retB (Jmp.code (Jmp.round (Jmp.retB (Jmp.code (fin_ret (.tmp rfl .nil) rfl ?_)))))))
      refine congrArg B ?_
      first
        | refine (Bool.eq_false_iff.2 fun hv => ?_).symm
          simp only [validR, limOk, manyOk, Bool.and_eq_true, decide_eq_true_eq, Int.toNat_natCast] at hv
          simp only [Bool.not_eq_true', Bool.and_eq_false_iff, decide_eq_false_iff_not, Bool.not_eq_false', Bool.and_eq_true, decide_eq_true_eq] at *
          omega
        | exact (show validR m a0 b0 c0 d0 a1 b1 c1 d1 = true by simp only [validR, hi2 (by decide), hi3 (by decide), manyOk, Bool.and_true, Bool.and_eq_true, decide_eq_true_eq]; omega).symm
     ·refine Dra.on' rfl rfl rfl rfl rfl .sure (Ope.fld rfl rfl ?_)
      refine Dra.on' rfl rfl rfl rfl rfl .sure (Ope.load rfl rfl ?_)
      refine Dra.on' rfl rfl rfl rfl rfl .sure (Ope.cf rfl rfl (f73 _ _ _) rfl ?_)
      refine Dra.on' rfl rfl rfl rfl rfl .sure (Ope.not rfl ?_)
      refine Dra.op' rfl rfl rfl .sure (Ope.pickF rfl rfl ?_)
      refine Dra.op' rfl rfl rfl .sure (Ope.mov rfl ?_)
      refine Dra.splitX rfl rfl rfl rfl (fun hg => ?_) fun hg => ?_
      ·refine Dra.off' rfl rfl rfl (.inl rfl) rfl (Dra.off' rfl rfl rfl (.inl rfl) rfl (Dra.off' rfl rfl rfl (.inl rfl) rfl (Dra.off' rfl rfl rfl (.inl rfl) rfl (Dra.op' rfl rfl rfl .sure (Ope.pickT rfl rfl ?_)))))
       refine Dra.op' rfl rfl rfl .sure (Ope.mov rfl ?_)
       refine Dra.off' rfl rfl rfl (.inl rfl) rfl (Dra.off' rfl rfl rfl (.inl rfl) rfl (Dra.off' rfl rfl rfl (.inl rfl) rfl (Dra.off' rfl rfl rfl (.inl rfl) rfl (Dra.op' rfl rfl rfl .sure (Ope.pickT rfl rfl ?_)))))
       refine Dra.nil (Run.condT rfl (Run.seq (Run.region (cx_ok _ _ _) (Reg.op rfl (Ope.asg rfl ?_)))))
       refine Reg.nil (Run.ret (Jmp.retB (Jmp.code (Jmp.round (Jmp.retB (Jmp.code (fin_ret (.tmp rfl .nil) rfl ?_)))))))
       refine congrArg B ?_
       first
         | refine (Bool.eq_false_iff.2 fun hv => ?_).symm
           simp only [validR, limOk, manyOk, Bool.and_eq_true, decide_eq_true_eq, Int.toNat_natCast] at hv
           simp only [Bool.not_eq_true', Bool.and_eq_false_iff, decide_eq_false_iff_not, Bool.not_eq_false', Bool.and_eq_true, decide_eq_true_eq] at *
           omega
         | exact (show validR m a0 b0 c0 d0 a1 b1 c1 d1 = true by simp only [validR, hi2 (by decide), hi3 (by decide), manyOk, Bool.and_true, Bool.and_eq_true, decide_eq_true_eq]; omega).symm
      ·refine Dra.on' rfl rfl rfl rfl rfl .sure (Ope.fld rfl rfl ?_)
       refine Dra.on' rfl rfl rfl rfl rfl .sure (Ope.load rfl rfl ?_)
       refine Dra.on' rfl rfl rfl rfl rfl .sure (Ope.cf rfl rfl (f73 _ _ _) rfl ?_)
       refine Dra.on' rfl rfl rfl rfl rfl .sure (Ope.not rfl ?_)
       refine Dra.op' rfl rfl rfl .sure (Ope.pickF rfl rfl ?_)
       refine Dra.op' rfl rfl rfl .sure (Ope.mov rfl ?_)
       refine Dra.splitX rfl rfl rfl rfl (fun hg => ?_) fun hg => ?_
       ·refine Dra.off' rfl rfl rfl (.inl rfl) rfl (Dra.off' rfl rfl rfl (.inl rfl) rfl (Dra.off' rfl rfl rfl (.inl rfl) rfl (Dra.off' rfl rfl rfl (.inl rfl) rfl (Dra.op' rfl rfl rfl .sure (Ope.pickT rfl rfl ?_)))))
        refine Dra.nil (Run.condT rfl (Run.seq (Run.region (cx_ok _ _ _) (Reg.op rfl (Ope.asg rfl ?_)))))
        refine Reg.nil (Run.ret (Jmp.retB (Jmp.code (Jmp.round (Jmp.retB (Jmp.code (fin_ret (.tmp rfl .nil) rfl ?_)))))))
        refine congrArg B ?_
        first
          | refine (Bool.eq_false_iff.2 fun hv => ?_).symm
            simp only [validR, limOk, manyOk, Bool.and_eq_true, decide_eq_true_eq, Int.toNat_natCast] at hv
            simp only [Bool.not_eq_true', Bool.and_eq_false_iff, decide_eq_false_iff_not, Bool.not_eq_false', Bool.and_eq_true, decide_eq_true_eq] at *
            omega
          | exact (show validR m a0 b0 c0 d0 a1 b1 c1 d1 = true by simp only [validR, hi2 (by decide), hi3 (by decide), manyOk, Bool.and_true, Bool.and_eq_true, decide_eq_true_eq]; omega).symm
       ·refine Dra.on' rfl rfl rfl rfl rfl .sure (Ope.fld rfl rfl ?_)
        refine Dra.on' rfl rfl rfl rfl rfl .sure (Ope.load rfl rfl ?_)
        refine Dra.on' rfl rfl rfl rfl rfl .sure (Ope.cf rfl rfl (f73 _ _ _) rfl ?_)
        refine Dra.on' rfl rfl rfl rfl rfl .sure (Ope.not rfl ?_)
        refine Dra.op' rfl rfl rfl .sure (Ope.pickF rfl rfl ?_)
        refine Dra.nil (Run.condX rfl (fun hc => ?_) fun hc => ?_)
        ·refine Run.seq (Run.region (cx_ok _ _ _) (Reg.op rfl (Ope.asg rfl ?_)))
         refine Reg.nil (Run.ret (Jmp.retB (Jmp.code (Jmp.round (Jmp.retB (Jmp.code (fin_ret (.tmp rfl .nil) rfl ?_)))))))
         refine congrArg B ?_
         first
           | refine (Bool.eq_false_iff.2 fun hv => ?_).symm
             simp only [validR, limOk, manyOk, Bool.and_eq_true, decide_eq_true_eq, Int.toNat_natCast] at hv
             simp only [Bool.not_eq_true', Bool.and_eq_false_iff, decide_eq_false_iff_not, Bool.not_eq_false', Bool.and_eq_true, decide_eq_true_eq] at *
             omega
           | exact (show validR m a0 b0 c0 d0 a1 b1 c1 d1 = true by simp only [validR, hi2 (by decide), hi3 (by decide), manyOk, Bool.and_true, Bool.and_eq_true, decide_eq_true_eq]; omega).symm
        ·refine Run.skip (Run.bend (Run.wide (Nat.le_refl _) Hsub.nil ?_))
         refine Run.region (cx_ok _ _ _) (Reg.op rfl (Ope.mov rfl ?_))
         refine Reg.op rfl (Ope.add rfl rfl (by omega) ?_)
         refine Reg.op rfl (Ope.asg rfl ?_)
         refine Reg.nil ?_
         first
           | refine Run.lend ⟨1, by decide, ⟨by decide, fun _ => ?_, fun h => absurd h (by decide)⟩, ⟨rfl, rfl, trivial⟩, rfl, rfl⟩
           | refine Run.lend ⟨2, by decide, ⟨by decide, fun _ => hi2 (by decide), fun _ => ?_⟩, ⟨rfl, rfl, trivial⟩, rfl, rfl⟩
         all_goals
           simp only [Bool.not_eq_true', Bool.and_eq_false_iff, decide_eq_false_iff_not, Bool.not_eq_false', Bool.and_eq_true, decide_eq_true_eq] at *
           simp only [limOk, manyOk, Bool.and_eq_true, decide_eq_true_eq, Int.toNat_natCast]
           omega
    ·exfalso; omega
   ·refine Run.seq (Run.seq (Run.region (cx_ok _ _ _) (Reg.op rfl (Ope.mov rfl ?_))))
    refine Reg.op rfl (Ope.lt rfl rfl ?_)
    refine Reg.nil (Run.condX rfl (fun hc => ?_) fun hc => ?_)
    ·exfalso; omega
    ·refine Run.exit (Jmp.code (Jmp.round (Jmp.here (Run.seq (Run.region (cx_ok _ _ _) (Reg.op rfl (Ope.asg rfl ?_)))))))
     refine Reg.nil (Run.ret (fin_ret (.tmp rfl .nil) rfl ?_))
     refine congrArg B ?_
     first
       | refine (Bool.eq_false_iff.2 fun hv => ?_).symm
         simp only [validR, limOk, manyOk, Bool.and_eq_true, decide_eq_true_eq, Int.toNat_natCast] at hv
         simp only [Bool.not_eq_true', Bool.and_eq_false_iff, decide_eq_false_iff_not, Bool.not_eq_false', Bool.and_eq_true, decide_eq_true_eq] at *
         omega
       | exact (show validR m a0 b0 c0 d0 a1 b1 c1 d1 = true by simp only [validR, hi2 (by decide), hi3 (by decide), manyOk, Bool.and_true, Bool.and_eq_true, decide_eq_true_eq]; omega).symm
theorem f55t (e : Int) : Fn P0 55 [B true, I e] (.tup []) := by
  refine PFun.of (C := c55) (cx_ok _ _ _) rfl (fn := Tryz.f55) (by kernel_rfl) (c := _) rfl rfl rfl ?_
  refine Run.seq (Run.region (cx_ok _ _ _) (Reg.op rfl (Ope.mov rfl ?_)))
  refine Reg.op rfl (Ope.not rfl ?_)
  refine Reg.nil (Run.condX rfl (fun hc => ?_) fun hc => ?_)
  ·cases hc
  ·exact Run.skip (fin_end .nil rfl rfl)
theorem f55f (e : Int) : Pan P0 55 [B false, I e] (.ifc 30 (I e)) := by
  refine PFun.of (C := c55) (cx_ok _ _ _) rfl (fn := Tryz.f55) (by kernel_rfl) (c := _) rfl rfl rfl ?_
  refine Run.seq (Run.region (cx_ok _ _ _) (Reg.op rfl (Ope.mov rfl ?_)))
  refine Reg.op rfl (Ope.not rfl ?_)
  refine Reg.nil (Run.condX rfl (fun hc => ?_) fun hc => ?_)
  ·refine Run.region (cx_ok _ _ _) (Reg.op rfl (Ope.mov rfl ?_))
   refine Reg.op rfl (Ope.ifc rfl ?_)
   refine Reg.op0 (Ope.panic rfl ?_)
   exact fin_panic rfl rfl
  ·cases hc
theorem f54t (h a0 b0 c0 d0 a1 b1 c1 d1 : Int) (hv : validR h a0 b0 c0 d0 a1 b1 c1 d1 = true) : Fn P0 54 [.agg [I h, I a0, I b0, I c0, I d0, I a1, I b1, I c1, I d1]] (.agg [I h, I a0, I b0, I c0, I d0, I a1, I b1, I c1, I d1]) := by
  refine PFun.of (C := c54) (cx_ok _ _ _) rfl (fn := Tryz.f54) (by kernel_rfl) (c := _) rfl rfl rfl ?_
  refine Run.seq (Run.region (cx_ok _ _ _) (Reg.op rfl (Ope.boxF rfl rfl ?_)))
  refine Reg.op rfl (Ope.newL rfl ?_)
  refine Reg.nil (Run.seq (Run.region (cx_ok _ _ _) (Reg.op rfl (Ope.load rfl rfl ?_))))
  refine Reg.op rfl (Ope.cf rfl rfl (by have := f104 h a0 b0 c0 d0 a1 b1 c1 d1; rw [hv] at this; exact this) rfl ?_)
  refine Reg.op rfl (Ope.cf rfl rfl (f55t _) rfl ?_)
  refine Reg.nil (Run.seq (Run.region (cx_ok _ _ _) (Reg.op rfl (Ope.load rfl rfl ?_))))
  refine Reg.op rfl (Ope.bld rfl rfl ?_)
  refine Reg.op0 (Ope.store rfl rfl rfl rfl rfl rfl ?_)
  exact Reg.nil (Run.ret (fin_ret (.cell rfl rfl .nil) rfl rfl))
end Go.Pv
namespace Go.Pv
open Go.Proofs Go.Am
set_option maxRecDepth 10000
set_option linter.unusedVariables false
set_option linter.unusedSimpArgs false
structure Rid where
  r : Int
  n : Int
  a : Int
  b : Int
def Rid.then (d : Rid) (x : Int) : Rid := ⟨x, if x = d.r then d.n + 1 else 1, if x = 0 then d.a + 1 else d.a, if x = 1 then d.b + 1 else d.b⟩
def Rid.cells (d : Rid) : List PV := [I d.r, I d.n, I d.a, I d.b]
def rideV (d : Rid) (x : Int) : PV := .agg [I (d.then x).r, I (d.then x).n, I (d.then x).a, I (d.then x).b, I d.r, I d.n, I d.a, I d.b]
def Rid.ok (d : Rid) (i : Nat) : Prop := (0 ≤ d.n ∧ d.n ≤ i) ∧ (0 ≤ d.a ∧ d.a ≤ i) ∧ (0 ≤ d.b ∧ d.b ≤ i)
theorem Rid.ok_then {d : Rid} {i : Nat} {x : Int} (h : d.ok i) : (d.then x).ok (i + 1) := by
  obtain ⟨h1, h2, h3⟩ := h
  refine ⟨?_, ?_, ?_⟩ <;> simp only [Rid.then] <;> split <;> omega
def zeroRid : Rid := ⟨0, 0, 0, 0⟩
end Go.Pv
namespace Go.Pv
open Go.Proofs Go.Am
set_option maxRecDepth 10000
set_option linter.unusedVariables false
set_option linter.unusedSimpArgs false
theorem f106 : Fn P0 106 [] (.agg [.ifc 196 (.agg []), .ifc 198 (.fn (.func 160) [] []), .ifc 198 (.fn (.func 161) [] []), .ifc 198 (.fn (.func 162) [] [])]) := by
  refine PFun.of (C := c106) (cx_ok _ _ _) rfl (fn := Tryz.f106) (by kernel_rfl) (c := _) rfl rfl rfl ?_
  refine Run.seq (Run.region (cx_ok _ _ _) (Reg.op rfl (Ope.newL rfl ?_)))
  refine Reg.nil (Run.seq (Run.region (cx_ok _ _ _) (Reg.op rfl (Ope.bld rfl rfl ?_))))
  refine Reg.op rfl (Ope.ifc rfl ?_)
  refine Reg.op rfl (Ope.ifc rfl ?_)
  refine Reg.op rfl (Ope.ifc rfl ?_)
  refine Reg.op rfl (Ope.ifc rfl ?_)
  refine Reg.op rfl (Ope.bld rfl rfl ?_)
  refine Reg.op0 (Ope.store rfl rfl rfl rfl rfl rfl ?_)
  exact Reg.nil (Run.ret (fin_ret (.cell rfl rfl .nil) rfl rfl))
theorem f221 (a b c d a' b' c' d' : Int) (o h : Nat) (q r s : Int) (hh : c' + d' = (h : Int)) (h16 : h ≤ 64) (ho : o < 2 ^ 62) (h0 : -100 ≤ c' ∧ c' ≤ 100) (h1 : -100 ≤ d' ∧ d' ≤ 100) :
    Fn P0 221 [.agg [], .agg [I a, I b, I c, I d, I a', I b', I c', I d'], .agg [I o, I q, I r, I s]] (B (decide (((o >>> h &&& 1 : Nat) : Int) = 1))) := by
  have hob : o >>> h < 2 ^ 62 := Nat.lt_of_le_of_lt (Nat.shiftRight_le _ _) ho
  refine PFun.of (C := c221) (cx_ok _ _ _) rfl (fn := Tryz.f221) (by kernel_rfl) (c := _) rfl rfl rfl ?_
  refine Run.seq (Run.region (cx_ok _ _ _) (Reg.op rfl (Ope.boxF rfl rfl ?_)))
  refine Reg.op rfl (Ope.boxF rfl rfl ?_)
  refine Reg.op rfl (Ope.boxF rfl rfl ?_)
  refine Reg.op rfl (Ope.asg rfl ?_)
  refine Reg.nil (Run.seq (Run.draw (cx_ok _ _ _) [(0, true), (1, false), (2, true), (3, true), (4, true), (5, true), (6, true), (7, true)] (by kernel_rfl) (Dra.op' rfl rfl rfl .sure (Ope.fld rfl rfl ?_))))
  refine Dra.op' rfl rfl rfl (.load rfl) (Ope.load rfl rfl ?_)
  refine Dra.op' rfl rfl rfl .sure (Ope.load rfl rfl ?_)
  refine Dra.op' rfl rfl rfl .sure (Ope.cf rfl rfl (f107 _ _ _ _ _ _ _ _ h0 h1) rfl ?_)
  refine Dra.op' rfl rfl rfl .sure (Ope.shrN (p := o) (m := h) rfl rfl rfl hh (by show h ≤ 64; omega) ?_)
  refine Dra.op' rfl rfl rfl .sure (Ope.andN (p := o >>> h) (q := 1) rfl rfl rfl rfl (by show _ < 2 ^ 64; omega) (by decide) ?_)
  refine Dra.op' rfl rfl rfl .sure (Ope.eq rfl rfl ?_)
  refine Dra.op' rfl rfl rfl .sure (Ope.asg rfl ?_)
  exact Dra.nil (Run.ret (fin_ret (.tmp rfl .nil) rfl rfl))
theorem f222a (a b c d a' b' c' d' p q r s : Int) (ha : a = 0 ∨ a = 1) (h0 : -100 ≤ c ∧ c ≤ 100) (h1 : -100 ≤ d ∧ d ≤ 100) (hq : -100 ≤ q ∧ q ≤ 100) :
    Fn P0 222 [.fn (.func 160) [] [], .agg [I a, I b, I c, I d, I a', I b', I c', I d'], .agg [I p, I q, I r, I s]] (B (decide (0 < (if a = 0 then c else d) - q))) := by
  refine PFun.of (C := c222) (cx_ok _ _ _) rfl (fn := Tryz.f222) (by kernel_rfl) (c := _) rfl rfl rfl ?_
  refine Run.seq (Run.region (cx_ok _ _ _) (Reg.op rfl (Ope.boxF rfl rfl ?_)))
  refine Reg.op rfl (Ope.boxF rfl rfl ?_)
  refine Reg.op rfl (Ope.asg rfl ?_)
  refine Reg.nil (Run.seq (Run.region (cx_ok _ _ _) (Reg.op rfl (Ope.mov rfl ?_))))
  refine Reg.op rfl (Ope.load rfl rfl ?_)
  refine Reg.op rfl (Ope.load rfl rfl ?_)
  refine Reg.op rfl (Ope.cf rfl rfl (f160 _ _ _ _ _ _ _ _ _ _ _ _ ha h0 h1 hq) rfl ?_)
  refine Reg.op rfl (Ope.gt rfl rfl ?_)
  refine Reg.op rfl (Ope.asg rfl ?_)
  exact Reg.nil (Run.ret (fin_ret (.tmp rfl .nil) rfl rfl))
theorem f222b (a b c d a' b' c' d' p q r s : Int) (h0 : -100 ≤ b ∧ b ≤ 100) (hr : -100 ≤ r ∧ r ≤ 100) :
    Fn P0 222 [.fn (.func 161) [] [], .agg [I a, I b, I c, I d, I a', I b', I c', I d'], .agg [I p, I q, I r, I s]] (B (decide (0 < b - r))) := by
  refine PFun.of (C := c222) (cx_ok _ _ _) rfl (fn := Tryz.f222) (by kernel_rfl) (c := _) rfl rfl rfl ?_
  refine Run.seq (Run.region (cx_ok _ _ _) (Reg.op rfl (Ope.boxF rfl rfl ?_)))
  refine Reg.op rfl (Ope.boxF rfl rfl ?_)
  refine Reg.op rfl (Ope.asg rfl ?_)
  refine Reg.nil (Run.seq (Run.region (cx_ok _ _ _) (Reg.op rfl (Ope.mov rfl ?_))))
  refine Reg.op rfl (Ope.load rfl rfl ?_)
  refine Reg.op rfl (Ope.load rfl rfl ?_)
  refine Reg.op rfl (Ope.cf rfl rfl (f161 _ _ _ _ _ _ _ _ _ _ _ _ h0 hr) rfl ?_)
  refine Reg.op rfl (Ope.gt rfl rfl ?_)
  refine Reg.op rfl (Ope.asg rfl ?_)
  exact Reg.nil (Run.ret (fin_ret (.tmp rfl .nil) rfl rfl))
theorem f222c (a b c d a' b' c' d' p q r s : Int) (ha : a = 0 ∨ a = 1) (h0 : -100 ≤ c' ∧ c' ≤ 100) (h1 : -100 ≤ d' ∧ d' ≤ 100) (hb : -100 ≤ b' ∧ b' ≤ 100) (hs : -100 ≤ s ∧ s ≤ 100) :
    Fn P0 222 [.fn (.func 162) [] [], .agg [I a, I b, I c, I d, I a', I b', I c', I d'], .agg [I p, I q, I r, I s]] (B (decide (0 < if ((decide (0 < c' + d') && !decide (a = a')) && decide (0 < if a = 0 then c' else d')) = true then s - b' else 0))) := by
  refine PFun.of (C := c222) (cx_ok _ _ _) rfl (fn := Tryz.f222) (by kernel_rfl) (c := _) rfl rfl rfl ?_
  refine Run.seq (Run.region (cx_ok _ _ _) (Reg.op rfl (Ope.boxF rfl rfl ?_)))
  refine Reg.op rfl (Ope.boxF rfl rfl ?_)
  refine Reg.op rfl (Ope.asg rfl ?_)
  refine Reg.nil (Run.seq (Run.region (cx_ok _ _ _) (Reg.op rfl (Ope.mov rfl ?_))))
  refine Reg.op rfl (Ope.load rfl rfl ?_)
  refine Reg.op rfl (Ope.load rfl rfl ?_)
  refine Reg.op rfl (Ope.cf rfl rfl (f162 _ _ _ _ _ _ _ _ _ _ _ _ ha h0 h1 hb hs) rfl ?_)
  refine Reg.op rfl (Ope.gt rfl rfl ?_)
  refine Reg.op rfl (Ope.asg rfl ?_)
  exact Reg.nil (Run.ret (fin_ret (.tmp rfl .nil) rfl rfl))
end Go.Pv
namespace Go.Pv
open Go.Proofs Go.Am
set_option maxRecDepth 10000
set_option linter.unusedVariables false
set_option linter.unusedSimpArgs false
structure Rst where
  m : Nat
  o0 : Nat
  t0 : Int
  r0 : Int
  f0 : Int
  o1 : Nat
  t1 : Int
  r1 : Int
  f1 : Int
abbrev Rst.cells (R : Rst) : List PV := [I R.m, I R.o0, I R.t0, I R.r0, I R.f0, I R.o1, I R.t1, I R.r1, I R.f1]
def Rst.ok (R : Rst) : Prop := R.m ≤ 16 ∧ R.o0 < 2 ^ 62 ∧ R.o1 < 2 ^ 62 ∧ (0 ≤ R.t0 ∧ R.t0 ≤ 16) ∧ (0 ≤ R.r0 ∧ R.r0 ≤ 16) ∧ (0 ≤ R.f0 ∧ R.f0 ≤ 16) ∧ (0 ≤ R.t1 ∧ R.t1 ≤ 16) ∧ (0 ≤ R.r1 ∧ R.r1 ≤ 16) ∧ (0 ≤ R.f1 ∧ R.f1 ≤ 16)
def viol (o : Nat) (t r f : Int) (d : Rid) (x : Int) : Nat → Bool
  | 0 => decide (((o >>> (d.a + d.b).toNat &&& 1 : Nat) : Int) = 1)
  | 1 => decide (0 < (if x = 0 then (d.then x).a else (d.then x).b) - t)
  | 2 => decide (0 < (d.then x).n - r)
  | _ => decide (0 < if ((decide (0 < d.a + d.b) && !decide (x = d.r)) && decide (0 < if x = 0 then d.a else d.b)) = true then f - d.n else 0)
def Rst.viol (R : Rst) (d : Rid) (x : Int) (k : Nat) : Bool := if x = 0 then Go.Pv.viol R.o0 R.t0 R.r0 R.f0 d x k else Go.Pv.viol R.o1 R.t1 R.r1 R.f1 d x k
def Rst.brk (R : Rst) (d : Rid) (x : Int) : Int := if R.viol d x 0 then 1 else if R.viol d x 1 then 2 else if R.viol d x 2 then 3 else if R.viol d x 3 then 4 else 0
end Go.Pv
namespace Go.Pv
open Go.Proofs Go.Am
set_option maxRecDepth 10000
set_option linter.unusedVariables false
set_option linter.unusedSimpArgs false
theorem f55t' {b : Bool} (e : Int) (hb : b = true) : Fn P0 55 [B b, I e] (.tup []) := by subst hb; exact f55t e
theorem f55f' {b : Bool} (e : Int) (hb : b = false) : Pan P0 55 [B b, I e] (.ifc 30 (I e)) := by subst hb; exact f55f e
end Go.Pv
