/- Parts of the proof: T23, T24 -/
import Derived.Test.YtabejoodkhlnaaaGreatP19
set_option linter.unusedVariables false
set_option linter.unusedSimpArgs false
namespace Go.Pv
open Go.Proofs Go.Am
set_option maxRecDepth 10000
set_option linter.unusedVariables false
set_option linter.unusedSimpArgs false
theorem f10s0 (R : Rst) (hR : R.ok) (hv : validR R.m R.o0 R.t0 R.r0 R.f0 R.o1 R.t1 R.r1 R.f1 = true) (hU : R.until ≠ R.m) (h : Nat) (hh : R.hind = some (0, h)) : Fn P0 10 [.agg R.cells] (B true) := by
  have h33 := f33 R.m R.o0 R.t0 R.r0 R.f0 R.o1 R.t1 R.r1 R.f1
  rw [hv] at h33
  have hm16 := hR.1
  have ho0 := hR.2.1
  have ho1 := hR.2.2.1
  have h31 := f31b R hR hv
  have hfv : R.freeV = (((0 : Nat) : Int), (h : Int), 0) := by unfold Rst.freeV; rw [if_neg (by simpa using until_less hU), hh]
  rw [hfv] at h31
  change Fn P0 31 [.agg R.cells] (.tup [I ((0 : Nat) : Int), I (h : Int), I 0]) at h31
  have hle := (until_spec R).1
  have hUi : ¬ (R.until : Int) = (R.m : Int) := by omega
  have hA : (R.first R.until).many ≠ 0 := by rw [first_many]; exact until_pos R
  have hB : (R.first (R.until + 1)).many = 0 := by rw [first_many]; exact until_next hU
  obtain ⟨⟨_, hhm, hbit⟩, hpos, hbef⟩ := hind_some hh
  have hbX : ((R.o0 >>> h &&& 1 : Nat) : Int) = 1 := of_decide_eq_true hbit
  have hsX : R.o0 >>> h < 2 ^ 62 := Nat.lt_of_le_of_lt (Nat.shiftRight_le _ _) ho0
  have hall : ∀ i k, i < 2 → k < R.m → R.bit i k = true → (i < 0 ∨ (i = 0 ∧ k ≤ h)) → (0 < (R.without i k).many ↔ (i = 0 ∧ k = h)) := by
    intro i k hi hk hb hlt
    by_cases he : i = 0 ∧ k = h
    · obtain ⟨rfl, rfl⟩ := he
      exact ⟨fun _ => ⟨rfl, rfl⟩, fun _ => hpos⟩
    · have := hbef i k hi hk hb (by omega)
      omega
  refine PFun.of (C := c10) (cx_ok _ _ _) rfl (fn := Tryz.f10) (by kernel_rfl) (c := _) rfl rfl rfl ?_
  refine Run.seq (Run.region (cx_ok _ _ _) (Reg.op rfl (Ope.boxF rfl rfl ?_)))
  refine Reg.op rfl (Ope.asg rfl ?_)
  refine Reg.nil (Run.seq (Run.seq (Run.region (cx_ok _ _ _) (Reg.op rfl (Ope.load rfl rfl ?_)))))
  refine Reg.op rfl (Ope.cf rfl rfl (h33) rfl ?_)
  refine Reg.op rfl (Ope.not rfl ?_)
  refine Reg.nil (Run.condX rfl (fun hc => ?_) fun hc => ?_)
  ·cases hc
  ·refine Run.skip (Run.seq (Run.region (cx_ok _ _ _) (Reg.op rfl (Ope.load rfl rfl ?_))))
   refine Reg.op rfl (Ope.cf rfl rfl (f20b R hR hv) rfl ?_)
   refine Reg.op rfl (Ope.mov rfl ?_)
   refine Reg.op rfl (Ope.ext rfl rfl ?_)
   refine Reg.op rfl (Ope.ext rfl rfl ?_)
   refine Reg.op rfl (Ope.asg rfl ?_)
   refine Reg.op rfl (Ope.asg rfl ?_)
   refine Reg.nil (Run.seq (Run.region (cx_ok _ _ _) (Reg.op rfl (Ope.load rfl rfl ?_))))
   refine Reg.op rfl (Ope.cf rfl rfl (h31) rfl ?_)
   refine Reg.op rfl (Ope.mov rfl ?_)
   refine Reg.op rfl (Ope.ext rfl rfl ?_)
   refine Reg.op rfl (Ope.ext rfl rfl ?_)
   refine Reg.op rfl (Ope.ext rfl rfl ?_)
   refine Reg.op rfl (Ope.asg rfl ?_)
   refine Reg.op rfl (Ope.asg rfl ?_)
   refine Reg.op rfl (Ope.asg rfl ?_)
   refine Reg.nil (Run.seq (Run.seq (Run.region (cx_ok _ _ _) (Reg.op rfl (Ope.mov rfl ?_)))))
   refine Reg.op rfl (Ope.ne rfl rfl ?_)
   refine Reg.op rfl (Ope.mov rfl ?_)
   refine Reg.splitX rfl rfl (fun hg => ?_) fun hg => ?_
   ·(first | (exfalso; first | omega | (simp [hUi] at hg; done)))
   ·refine Reg.on rfl rfl rfl (Ope.mov rfl ?_)
    refine Reg.on rfl rfl rfl (Ope.lt rfl rfl ?_)
    refine Reg.op rfl (Ope.pickF rfl rfl ?_)
    refine Reg.op rfl (Ope.mov rfl ?_)
    refine Reg.splitX rfl rfl (fun hg => ?_) fun hg => ?_
    ·(first | (exfalso; first | omega | (simp [hUi] at hg; done)))
    ·refine Reg.on rfl rfl rfl (Ope.mov rfl ?_)
     refine Reg.on rfl rfl rfl (Ope.fld rfl rfl ?_)
     refine Reg.on rfl rfl rfl (Ope.load rfl rfl ?_)
     refine Reg.on rfl rfl rfl (Ope.gt rfl rfl ?_)
     refine Reg.op rfl (Ope.pickF rfl rfl ?_)
     refine Reg.op rfl (Ope.mov rfl ?_)
     refine Reg.splitX rfl rfl (fun hg => ?_) fun hg => ?_
     ·(first | (exfalso; first | omega | (simp [hUi] at hg; done)))
     ·refine Reg.on rfl rfl rfl (Ope.mov rfl ?_)
      refine Reg.on rfl rfl rfl (Ope.eq rfl rfl ?_)
      refine Reg.on rfl rfl rfl (Ope.mov rfl ?_)
      refine Reg.on rfl rfl rfl (Ope.fld rfl rfl ?_)
      refine Reg.on rfl rfl rfl (Ope.load rfl rfl ?_)
      refine Reg.on rfl rfl rfl (Ope.eq rfl rfl ?_)
      refine Reg.on rfl rfl rfl (Ope.neB (by kernel_rfl) rfl rfl ?_)
      refine Reg.op rfl (Ope.pickF rfl rfl ?_)
      refine Reg.op rfl (Ope.mov rfl ?_)
      refine Reg.splitX rfl rfl (fun hg => ?_) fun hg => ?_
      ·(first | (exfalso; first | omega | (simp [hUi] at hg; done)))
      ·refine Reg.on rfl rfl rfl (Ope.mov rfl ?_)
       refine Reg.on rfl rfl rfl (Ope.ne rfl rfl ?_)
       refine Reg.on rfl rfl rfl (Ope.mov rfl ?_)
       refine Reg.splitX rfl rfl (fun hg => ?_) fun hg => ?_
       ·(first | (exfalso; first | omega | (simp [hUi] at hg; done)))
       ·refine Reg.off rfl rfl rfl (Reg.off rfl rfl rfl (Reg.off rfl rfl rfl (Reg.past rfl rfl rfl (Reg.past rfl rfl rfl (Reg.off rfl rfl rfl (Reg.off rfl rfl rfl (Reg.past rfl rfl rfl (Reg.past rfl rfl rfl (Reg.off rfl rfl rfl (Reg.off rfl rfl rfl (Reg.past rfl rfl rfl (Reg.past rfl rfl rfl (Reg.off rfl rfl rfl (Reg.on rfl rfl rfl (Ope.pickF rfl rfl ?_)))))))))))))))
        refine Reg.op rfl (Ope.pickF rfl rfl ?_)
        refine Reg.nil (Run.condF rfl (Run.skip (Run.seq (Run.region (cx_ok _ _ _) (Reg.op rfl (Ope.load rfl rfl ?_))))))
        refine Reg.op rfl (Ope.mov rfl ?_)
        refine Reg.op rfl (Ope.cf rfl rfl (f42 R hR R.until (by omega)) rfl ?_)
        refine Reg.op rfl (Ope.cf rfl rfl (f18b (R.first R.until) (first_ok hR (by omega)) (first_valid hv (by omega))) rfl ?_)
        refine Reg.op rfl (Ope.mov rfl ?_)
        refine Reg.op rfl (Ope.ext rfl rfl ?_)
        refine Reg.op rfl (Ope.ext rfl rfl ?_)
        refine Reg.op rfl (Ope.asg rfl ?_)
        refine Reg.op rfl (Ope.asg rfl ?_)
        refine Reg.nil (Run.seq (Run.seq (Run.region (cx_ok _ _ _) (Reg.op rfl (Ope.mov rfl ?_)))))
        refine Reg.op rfl (Ope.ne rfl rfl ?_)
        refine Reg.op rfl (Ope.mov rfl ?_)
        refine Reg.splitX rfl rfl (fun hg => ?_) fun hg => ?_
        ·(first | (exfalso; first | omega | (simp [hUi] at hg; done)))
        ·refine Reg.on rfl rfl rfl (Ope.mov rfl ?_)
         refine Reg.on rfl rfl rfl (Ope.lt rfl rfl ?_)
         refine Reg.op rfl (Ope.pickF rfl rfl ?_)
         refine Reg.nil (Run.condX rfl (fun hc => ?_) fun hc => ?_)
         ·(first | (exfalso; first | omega | (simp [hUi] at hc; done)))
         ·refine Run.skip (Run.seq (Run.seq (Run.region (cx_ok _ _ _) (Reg.op rfl (Ope.mov rfl ?_)))))
          refine Reg.op rfl (Ope.fld rfl rfl ?_)
          refine Reg.op rfl (Ope.load rfl rfl ?_)
          refine Reg.op rfl (Ope.eq rfl rfl ?_)
          refine Reg.nil (Run.condX rfl (fun hc => ?_) fun hc => ?_)
          ·(first | (exfalso; first | omega | (simp [hUi] at hc; done)))
          ·refine Run.skip (Run.seq (Run.seq (Run.region (cx_ok _ _ _) (Reg.op rfl (Ope.load rfl rfl ?_)))))
           refine Reg.op rfl (Ope.mov rfl ?_)
           refine Reg.op rfl (Ope.add rfl rfl (by omega) ?_)
           refine Reg.op rfl (Ope.cf rfl rfl (f42 R hR (R.until + 1) (by omega)) rfl ?_)
           refine Reg.op rfl (Ope.cf rfl rfl (f18b (R.first (R.until + 1)) (first_ok hR (by omega)) (first_valid hv (by omega))) rfl ?_)
           refine Reg.op rfl (Ope.mov rfl ?_)
           refine Reg.op rfl (Ope.ext rfl rfl ?_)
           refine Reg.op rfl (Ope.ext rfl rfl ?_)
           refine Reg.op rfl (Ope.asg rfl ?_)
           refine Reg.op rfl (Ope.asg rfl ?_)
           refine Reg.nil (Run.seq (Run.region (cx_ok _ _ _) (Reg.op rfl (Ope.mov rfl ?_))))
           refine Reg.op rfl (Ope.ne rfl rfl ?_)
           refine Reg.op rfl (Ope.mov rfl ?_)
           refine Reg.splitX rfl rfl (fun hg => ?_) fun hg => ?_
           ·(first | (exfalso; first | omega | (simp [hUi] at hg; done)))
           ·refine Reg.on rfl rfl rfl (Ope.mov rfl ?_)
            refine Reg.on rfl rfl rfl (Ope.ne rfl rfl ?_)
            refine Reg.op rfl (Ope.pickF rfl rfl ?_)
            refine Reg.nil (Run.condX rfl (fun hc => ?_) fun hc => ?_)
            ·(first | (exfalso; first | omega | (simp [hUi] at hc; done)))
            ·refine Run.skip (Run.seq (Run.seq (Run.region (cx_ok _ _ _) (Reg.op rfl (Ope.mov rfl ?_)))))
             refine Reg.op rfl (Ope.eq rfl rfl ?_)
             refine Reg.op rfl (Ope.mov rfl ?_)
             refine Reg.splitX rfl rfl (fun hg => ?_) fun hg => ?_
             ·refine Reg.on rfl rfl rfl (Ope.mov rfl ?_)
              refine Reg.on rfl rfl rfl (Ope.lt rfl rfl ?_)
              refine Reg.on rfl rfl rfl (Ope.mov rfl ?_)
              refine Reg.splitX rfl rfl (fun hg => ?_) fun hg => ?_
              ·(first | (exfalso; first | omega | (simp [hUi] at hg; done)))
              ·refine Reg.on rfl rfl rfl (Ope.mov rfl ?_)
               refine Reg.on rfl rfl rfl (Ope.gt rfl rfl ?_)
               refine Reg.on rfl rfl rfl (Ope.pickF rfl rfl ?_)
               refine Reg.on rfl rfl rfl (Ope.mov rfl ?_)
               refine Reg.splitX rfl rfl (fun hg => ?_) fun hg => ?_
               ·(first | (exfalso; first | omega | (simp [hUi] at hg; done)))
               ·refine Reg.on rfl rfl rfl (Ope.mov rfl ?_)
                refine Reg.on rfl rfl rfl (Ope.lt rfl rfl ?_)
                refine Reg.on rfl rfl rfl (Ope.pickF rfl rfl ?_)
                refine Reg.on rfl rfl rfl (Ope.mov rfl ?_)
                refine Reg.splitX rfl rfl (fun hg => ?_) fun hg => ?_
                ·(first | (exfalso; first | omega | (simp [hUi] at hg; done)))
                ·refine Reg.on rfl rfl rfl (Ope.mov rfl ?_)
                 refine Reg.on rfl rfl rfl (Ope.fld rfl rfl ?_)
                 refine Reg.on rfl rfl rfl (Ope.load rfl rfl ?_)
                 refine Reg.on rfl rfl rfl (Ope.ge rfl rfl ?_)
                 refine Reg.on rfl rfl rfl (Ope.pickF rfl rfl ?_)
                 refine Reg.on rfl rfl rfl (Ope.mov rfl ?_)
                 refine Reg.splitX rfl rfl (fun hg => ?_) fun hg => ?_
                 ·(first | (exfalso; first | omega | (simp [hUi] at hg; done)))
                 ·refine Reg.on rfl rfl rfl (Ope.mov rfl ?_)
                  refine Reg.on rfl rfl rfl (Ope.fld rfl rfl ?_)
                  refine Reg.on rfl rfl rfl (Ope.idxA rfl rfl rfl rfl ?_)
                  refine Reg.on rfl rfl rfl (Ope.fld rfl rfl ?_)
                  refine Reg.on rfl rfl rfl (Ope.load rfl rfl ?_)
                  refine Reg.on rfl rfl rfl (Ope.mov rfl ?_)
                  refine Reg.on rfl rfl rfl (Ope.shrN (m := h) rfl rfl rfl rfl (by show h ≤ 64; omega) ?_)
                  refine Reg.on rfl rfl rfl (Ope.andN (q := 1) rfl rfl rfl rfl (by show _ < 2 ^ 64; omega) (by decide) ?_)
                  refine Reg.on rfl rfl rfl (Ope.eq rfl rfl ?_)
                  refine Reg.on rfl rfl rfl (Ope.pickF rfl rfl ?_)
                  refine Reg.op rfl (Ope.pickT rfl rfl ?_)
                  refine Reg.nil (Run.condX rfl (fun hc => ?_) fun hc => ?_)
                  ·(first | (exfalso; first | omega | (simp [hUi] at hc; done)))
                  ·refine Run.skip (Run.seq (Run.seq (Run.region (cx_ok _ _ _) (Reg.op rfl (Ope.mov rfl ?_)))))
                   refine Reg.nil (Run.block (Run.loop (α := Nat × Nat) (fun s => [(1, .fp (.agg R.cells)), (10, I ((0 : Nat) : Int)), (11, I (h : Int)), (12, I 0), (162, I s.1)]) (fun s => HE s.2 []) (fun s => s.1 ≤ 2 ∧ s.1 ≤ 0) (fun s => 2 - s.1) (0, 0) ⟨rfl, rfl, rfl, rfl, rfl, trivial⟩ rfl (by constructor <;> simp) (fun s hs => ?_)))
                   obtain ⟨i, nx⟩ := s
                   obtain ⟨hi2, hiw⟩ := hs
                   simp only at hi2 hiw
                   show Run _ _ _ _ [(1, .fp (.agg R.cells)), (10, I ((0 : Nat) : Int)), (11, I (h : Int)), (12, I 0), (162, I i)] [] (HE nx [])
                   rcases (by omega : i = 0 ∨ i = 1 ∨ i = 2) with rfl | rfl | rfl
                   ·refine Run.seq (Run.region (cx_ok _ _ _) (Reg.op rfl (Ope.lt rfl rfl ?_)))
                    refine Reg.nil (Run.seq (Run.condX rfl (fun hc => ?_) fun hc => ?_))
                    ·refine Run.skip (Run.seq (Run.block (Run.seq (Run.region (cx_ok _ _ _) (Reg.op rfl (Ope.mov rfl ?_))))))
                     refine Reg.op rfl (Ope.asg rfl ?_)
                     refine Reg.nil (Run.seq (Run.region (cx_ok _ _ _) (Reg.op rfl (Ope.fld rfl rfl ?_))))
                     refine Reg.op rfl (Ope.load rfl rfl ?_)
                     refine Reg.op rfl (Ope.mov rfl ?_)
                     refine Reg.nil (Run.block ?_)
                     first
                       | refine Run.loop (α := Nat × Nat) (fun s => [(1, .fp (.agg R.cells)), (10, I ((0 : Nat) : Int)), (11, I (h : Int)), (12, I 0), (17, I ((0 : Nat) : Int)), (162, I ((0 : Nat) : Int)), (166, I R.m), (167, I s.1)]) (fun s => HE s.2 []) (fun s => s.1 ≤ R.m ∧ (0 = 0 → s.1 ≤ h)) (fun s => R.m - s.1) (0, nx) ⟨rfl, rfl, rfl, rfl, rfl, rfl, rfl, rfl, trivial⟩ rfl (by constructor <;> simp) (fun s hs => ?_)
                         obtain ⟨k, n1⟩ := s
                         have hkm : k ≤ R.m := hs.1
                         have hkh : (0 = 0 → k ≤ h) := hs.2
                         show Run _ _ _ _ [(1, .fp (.agg R.cells)), (10, I ((0 : Nat) : Int)), (11, I (h : Int)), (12, I 0), (17, I ((0 : Nat) : Int)), (162, I ((0 : Nat) : Int)), (166, I R.m), (167, I k)] [] (HE n1 [])
                       | refine Run.loop (α := Nat × Nat) (fun s => [(1, .fp (.agg R.cells)), (10, I ((0 : Nat) : Int)), (11, I (h : Int)), (12, I 0), (17, I ((1 : Nat) : Int)), (162, I ((1 : Nat) : Int)), (166, I R.m), (167, I s.1)]) (fun s => HE s.2 []) (fun s => s.1 ≤ R.m ∧ (1 = 0 → s.1 ≤ h)) (fun s => R.m - s.1) (0, nx) ⟨rfl, rfl, rfl, rfl, rfl, rfl, rfl, rfl, trivial⟩ rfl (by constructor <;> simp) (fun s hs => ?_)
                         obtain ⟨k, n1⟩ := s
                         have hkm : k ≤ R.m := hs.1
                         have hkh : (1 = 0 → k ≤ h) := hs.2
                         show Run _ _ _ _ [(1, .fp (.agg R.cells)), (10, I ((0 : Nat) : Int)), (11, I (h : Int)), (12, I 0), (17, I ((1 : Nat) : Int)), (162, I ((1 : Nat) : Int)), (166, I R.m), (167, I k)] [] (HE n1 [])
                     refine Run.seq (Run.region (cx_ok _ _ _) (Reg.op rfl (Ope.lt rfl rfl ?_)))
                     refine Reg.nil (Run.seq (Run.condX rfl (fun hc => ?_) fun hc => ?_))
                     ·refine Run.skip (Run.seq (Run.block (Run.seq ?_)))
                      have hkl : k < R.m := by omega
                      have hp := pow16 (show k ≤ 16 by omega)
                      have hs0 : R.o0 >>> k < 2 ^ 62 := Nat.lt_of_le_of_lt (Nat.shiftRight_le _ _) ho0
                      have hs1 : R.o1 >>> k < 2 ^ 62 := Nat.lt_of_le_of_lt (Nat.shiftRight_le _ _) ho1
                      have hl0 := and_one_lt (R.o0 >>> k)
                      have hl1 := and_one_lt (R.o1 >>> k)
                      refine Run.region (cx_ok _ _ _) (Reg.op rfl (Ope.mov rfl ?_))
                      refine Reg.op rfl (Ope.asg rfl ?_)
                      refine Reg.nil (Run.seq (Run.seq (Run.region (cx_ok _ _ _) (Reg.op rfl (Ope.mov rfl ?_)))))
                      refine Reg.op rfl (Ope.fld rfl rfl ?_)
                      refine Reg.op rfl (Ope.idxA rfl rfl rfl rfl ?_)
                      refine Reg.op rfl (Ope.fld rfl rfl ?_)
                      refine Reg.op rfl (Ope.load rfl rfl ?_)
                      refine Reg.op rfl (Ope.mov rfl ?_)
                      refine Reg.op rfl (Ope.shrN (m := k) rfl rfl rfl rfl (by show k ≤ 64; omega) ?_)
                      refine Reg.op rfl (Ope.andN (q := 1) rfl rfl rfl rfl (by show _ < 2 ^ 64; omega) (by decide) ?_)
                      refine Reg.op rfl (Ope.eq rfl rfl ?_)
                      refine Reg.nil (Run.condX rfl (fun hc => ?_) fun hc => ?_)
                      ·refine Run.exit (Jmp.code (Jmp.here (Run.wide (l' := []) (Nat.le_refl _) Hsub.nil ?_)))
                       refine Run.region (cx_ok _ _ _) (Reg.op rfl (Ope.add rfl rfl (by omega) ?_))
                       refine Reg.op rfl (Ope.mov rfl ?_)
                       refine Reg.nil ?_
                       first
                         | exact Run.lend ⟨(k + 1, n1), by simp only; omega, ⟨by simp only; omega, fun hX => Nat.lt_of_le_of_ne (hkh hX) (fun e => by subst e; omega)⟩, ⟨rfl, rfl, rfl, rfl, rfl, rfl, rfl, rfl, trivial⟩, rfl, rfl⟩
                         | exact Run.lend ⟨(k + 1, n1 + 1), by simp only; omega, ⟨by simp only; omega, fun hX => Nat.lt_of_le_of_ne (hkh hX) (fun e => by subst e; omega)⟩, ⟨rfl, rfl, rfl, rfl, rfl, rfl, rfl, rfl, trivial⟩, rfl, rfl⟩
                      ·refine Run.skip (Run.seq (Run.region (cx_ok _ _ _) (Reg.op rfl (Ope.load rfl rfl ?_))))
                       refine Reg.op rfl (Ope.newL rfl ?_)
                       refine Reg.op0 (Ope.store rfl rfl hget_hd rfl rfl rfl ?_)
                       refine Reg.nil (Run.seq (Run.draw (cx_ok _ _ _) [(0, true), (1, true), (2, true), (3, true), (4, true), (5, true), (6, true), (7, true), (8, true), (9, true), (10, true), (11, true)] (by kernel_rfl) (Dra.op' rfl rfl rfl .sure (Ope.mov rfl ?_))))
                       refine Dra.op' rfl rfl rfl .sure (Ope.fld rfl rfl ?_)
                       refine Dra.op' rfl rfl rfl .sure (Ope.idxA rfl rfl rfl rfl ?_)
                       refine Dra.op' rfl rfl rfl .sure (Ope.fld rfl rfl ?_)
                       refine Dra.op' rfl rfl rfl .sure (Ope.loadH rfl hget_hd rfl ?_)
                       refine Dra.op' rfl rfl rfl .sure (Ope.mov rfl ?_)
                       refine Dra.op' rfl rfl rfl .sure (Ope.shlN (p := 1) (m := k) rfl rfl rfl rfl (by omega) (by omega) ?_)
                       refine Dra.op' rfl rfl rfl .sure (Ope.andNotN rfl rfl rfl rfl (by show _ < 2 ^ 63; omega) (by show _ < 2 ^ 63; omega) ?_)
                       refine Dra.op' rfl rfl rfl .sure (Ope.fld rfl rfl ?_)
                       refine Dra.op' rfl rfl rfl .sure (Ope.idxA rfl rfl rfl rfl ?_)
                       refine Dra.op' rfl rfl rfl .sure (Ope.fld rfl rfl ?_)
                       refine Dra.op' rfl rfl rfl .sure (Ope.store rfl rfl hget_hd rfl rfl rfl ?_)
                       refine Dra.nil (Run.seq (Run.region (cx_ok _ _ _) (Reg.op rfl (Ope.loadH rfl hget_hd rfl ?_))))
                       first | refine Reg.op rfl (Ope.cf rfl rfl (f18b (R.without 0 k) (without_ok hR 0 k) (without_valid hv 0 k)) rfl ?_) | refine Reg.op rfl (Ope.cf rfl rfl (f18b (R.without 1 k) (without_ok hR 1 k) (without_valid hv 1 k)) rfl ?_)
                       refine Reg.op rfl (Ope.mov rfl ?_)
                       refine Reg.op rfl (Ope.ext rfl rfl ?_)
                       refine Reg.op rfl (Ope.ext rfl rfl ?_)
                       refine Reg.op rfl (Ope.asg rfl ?_)
                       refine Reg.op rfl (Ope.asg rfl ?_)
                       refine Reg.nil (Run.seq ?_)
                       first
                         | have hkey := hall 0 k (by decide) hkl (decide_eq_true (by show ((R.o0 >>> k &&& 1 : Nat) : Int) = 1; omega)) (by first | exact .inl (by decide) | exact .inr ⟨rfl, hkh rfl⟩)
                         | have hkey := hall 1 k (by decide) hkl (decide_eq_true (by show ((R.o1 >>> k &&& 1 : Nat) : Int) = 1; omega)) (by first | exact .inl (by decide) | exact .inr ⟨rfl, hkh rfl⟩)
                       refine Run.region (cx_ok _ _ _) (Reg.op rfl (Ope.mov rfl ?_))
                       refine Reg.op rfl (Ope.eq rfl rfl ?_)
                       refine Reg.op rfl (Ope.mov rfl ?_)
                       refine Reg.splitX rfl rfl (fun hg => ?_) fun hg => ?_
                       ·refine Reg.on rfl rfl rfl (Ope.mov rfl ?_)
                        refine Reg.on rfl rfl rfl (Ope.mov rfl ?_)
                        refine Reg.on rfl rfl rfl (Ope.eq rfl rfl ?_)
                        refine Reg.op rfl (Ope.pickT rfl rfl ?_)
                        refine Reg.op rfl (Ope.mov rfl ?_)
                        refine Reg.splitX rfl rfl (fun hg => ?_) fun hg => ?_
                        ·refine Reg.on rfl rfl rfl (Ope.mov rfl ?_)
                         refine Reg.on rfl rfl rfl (Ope.mov rfl ?_)
                         refine Reg.on rfl rfl rfl (Ope.eq rfl rfl ?_)
                         refine Reg.op rfl (Ope.pickT rfl rfl ?_)
                         refine Reg.op rfl (Ope.asg rfl ?_)
                         refine Reg.nil (Run.seq (Run.seq (Run.region (cx_ok _ _ _) (Reg.op rfl (Ope.mov rfl ?_)))))
                         refine Reg.op rfl (Ope.ne rfl rfl ?_)
                         refine Reg.op rfl (Ope.mov rfl ?_)
                         refine Reg.splitX rfl rfl (fun hg => ?_) fun hg => ?_
                         ·(first | (exfalso; first | omega | (simp [hUi] at hg; done)))
                         ·refine Reg.on rfl rfl rfl (Ope.mov rfl ?_)
                          refine Reg.on rfl rfl rfl (Ope.gt rfl rfl ?_)
                          refine Reg.on rfl rfl rfl (Ope.mov rfl ?_)
                          refine Reg.on rfl rfl rfl (Ope.neB (by kernel_rfl) rfl rfl ?_)
                          refine Reg.op rfl (Ope.pickF rfl rfl ?_)
                          refine Reg.nil (Run.condX rfl (fun hc => ?_) fun hc => ?_)
                          ·(exfalso; first | omega | (simp only [beq_eq_false_iff_ne, ne_eq, decide_eq_decide] at hc; omega) | (simp at hc; omega))
                          ·refine Run.skip (Run.seq (Run.region (cx_ok _ _ _) (Reg.op rfl (Ope.mov rfl ?_))))
                           refine Reg.nil (Run.condX rfl (fun hc => ?_) fun hc => ?_)
                           ·refine Run.seq (Run.region (cx_ok _ _ _) (Reg.op rfl (Ope.clo rfl rfl awakeC ?_)))
                            refine Reg.op rfl (Ope.asg rfl ?_)
                            refine Reg.nil (Run.ret (Jmp.retB (Jmp.code (Jmp.round (Jmp.retB (Jmp.retB (Jmp.code (Jmp.round (Jmp.retB (Jmp.code (fin_ret (.tmp rfl .nil) rfl ?_)))))))))))
                            rfl
                           ·refine Run.skip (Run.bend (Run.wide (l' := []) (Nat.le_refl _) Hsub.nil ?_))
                            refine Run.region (cx_ok _ _ _) (Reg.op rfl (Ope.add rfl rfl (by omega) ?_))
                            refine Reg.op rfl (Ope.mov rfl ?_)
                            refine Reg.nil ?_
                            first
                              | exact Run.lend ⟨(k + 1, n1), by simp only; omega, ⟨by simp only; omega, fun hX => Nat.lt_of_le_of_ne (hkh hX) (fun e => by subst e; omega)⟩, ⟨rfl, rfl, rfl, rfl, rfl, rfl, rfl, rfl, trivial⟩, rfl, rfl⟩
                              | exact Run.lend ⟨(k + 1, n1 + 1), by simp only; omega, ⟨by simp only; omega, fun hX => Nat.lt_of_le_of_ne (hkh hX) (fun e => by subst e; omega)⟩, ⟨rfl, rfl, rfl, rfl, rfl, rfl, rfl, rfl, trivial⟩, rfl, rfl⟩
                        ·(first | (exfalso; first | omega | (simp [hUi] at hg; done)))
                       ·(first | (exfalso; first | omega | (simp [hUi] at hg; done)))
                     ·(first | (exfalso; first | omega | (simp [hUi] at hc; done)))
                    ·(first | (exfalso; first | omega | (simp [hUi] at hc; done)))
                   ·refine Run.seq (Run.region (cx_ok _ _ _) (Reg.op rfl (Ope.lt rfl rfl ?_)))
                    refine Reg.nil (Run.seq (Run.condX rfl (fun hc => ?_) fun hc => ?_))
                    ·(first | (exfalso; first | omega | (simp [hUi] at hc; done)))
                    ·(first | (exfalso; first | omega | (simp [hUi] at hc; done)))
                   ·refine Run.seq (Run.region (cx_ok _ _ _) (Reg.op rfl (Ope.lt rfl rfl ?_)))
                    refine Reg.nil (Run.seq (Run.condX rfl (fun hc => ?_) fun hc => ?_))
                    ·(first | (exfalso; first | omega | (simp [hUi] at hc; done)))
                    ·(first | (exfalso; first | omega | (simp [hUi] at hc; done)))
             ·(first | (exfalso; first | omega | (simp [hUi] at hg; done)))
end Go.Pv
namespace Go.Pv
open Go.Proofs Go.Am
set_option maxRecDepth 10000
set_option linter.unusedVariables false
set_option linter.unusedSimpArgs false
theorem f10s1 (R : Rst) (hR : R.ok) (hv : validR R.m R.o0 R.t0 R.r0 R.f0 R.o1 R.t1 R.r1 R.f1 = true) (hU : R.until ≠ R.m) (h : Nat) (hh : R.hind = some (1, h)) : Fn P0 10 [.agg R.cells] (B true) := by
  have h33 := f33 R.m R.o0 R.t0 R.r0 R.f0 R.o1 R.t1 R.r1 R.f1
  rw [hv] at h33
  have hm16 := hR.1
  have ho0 := hR.2.1
  have ho1 := hR.2.2.1
  have h31 := f31b R hR hv
  have hfv : R.freeV = (((1 : Nat) : Int), (h : Int), 0) := by unfold Rst.freeV; rw [if_neg (by simpa using until_less hU), hh]
  rw [hfv] at h31
  change Fn P0 31 [.agg R.cells] (.tup [I ((1 : Nat) : Int), I (h : Int), I 0]) at h31
  have hle := (until_spec R).1
  have hUi : ¬ (R.until : Int) = (R.m : Int) := by omega
  have hA : (R.first R.until).many ≠ 0 := by rw [first_many]; exact until_pos R
  have hB : (R.first (R.until + 1)).many = 0 := by rw [first_many]; exact until_next hU
  obtain ⟨⟨_, hhm, hbit⟩, hpos, hbef⟩ := hind_some hh
  have hbX : ((R.o1 >>> h &&& 1 : Nat) : Int) = 1 := of_decide_eq_true hbit
  have hsX : R.o1 >>> h < 2 ^ 62 := Nat.lt_of_le_of_lt (Nat.shiftRight_le _ _) ho1
  have hall : ∀ i k, i < 2 → k < R.m → R.bit i k = true → (i < 1 ∨ (i = 1 ∧ k ≤ h)) → (0 < (R.without i k).many ↔ (i = 1 ∧ k = h)) := by
    intro i k hi hk hb hlt
    by_cases he : i = 1 ∧ k = h
    · obtain ⟨rfl, rfl⟩ := he
      exact ⟨fun _ => ⟨rfl, rfl⟩, fun _ => hpos⟩
    · have := hbef i k hi hk hb (by omega)
      omega
  refine PFun.of (C := c10) (cx_ok _ _ _) rfl (fn := Tryz.f10) (by kernel_rfl) (c := _) rfl rfl rfl ?_
  refine Run.seq (Run.region (cx_ok _ _ _) (Reg.op rfl (Ope.boxF rfl rfl ?_)))
  refine Reg.op rfl (Ope.asg rfl ?_)
  refine Reg.nil (Run.seq (Run.seq (Run.region (cx_ok _ _ _) (Reg.op rfl (Ope.load rfl rfl ?_)))))
  refine Reg.op rfl (Ope.cf rfl rfl (h33) rfl ?_)
  refine Reg.op rfl (Ope.not rfl ?_)
  refine Reg.nil (Run.condX rfl (fun hc => ?_) fun hc => ?_)
  ·cases hc
  ·refine Run.skip (Run.seq (Run.region (cx_ok _ _ _) (Reg.op rfl (Ope.load rfl rfl ?_))))
   refine Reg.op rfl (Ope.cf rfl rfl (f20b R hR hv) rfl ?_)
   refine Reg.op rfl (Ope.mov rfl ?_)
   refine Reg.op rfl (Ope.ext rfl rfl ?_)
   refine Reg.op rfl (Ope.ext rfl rfl ?_)
   refine Reg.op rfl (Ope.asg rfl ?_)
   refine Reg.op rfl (Ope.asg rfl ?_)
   refine Reg.nil (Run.seq (Run.region (cx_ok _ _ _) (Reg.op rfl (Ope.load rfl rfl ?_))))
   refine Reg.op rfl (Ope.cf rfl rfl (h31) rfl ?_)
   refine Reg.op rfl (Ope.mov rfl ?_)
   refine Reg.op rfl (Ope.ext rfl rfl ?_)
   refine Reg.op rfl (Ope.ext rfl rfl ?_)
   refine Reg.op rfl (Ope.ext rfl rfl ?_)
   refine Reg.op rfl (Ope.asg rfl ?_)
   refine Reg.op rfl (Ope.asg rfl ?_)
   refine Reg.op rfl (Ope.asg rfl ?_)
   refine Reg.nil (Run.seq (Run.seq (Run.region (cx_ok _ _ _) (Reg.op rfl (Ope.mov rfl ?_)))))
   refine Reg.op rfl (Ope.ne rfl rfl ?_)
   refine Reg.op rfl (Ope.mov rfl ?_)
   refine Reg.splitX rfl rfl (fun hg => ?_) fun hg => ?_
   ·(first | (exfalso; first | omega | (simp [hUi] at hg; done)))
   ·refine Reg.on rfl rfl rfl (Ope.mov rfl ?_)
    refine Reg.on rfl rfl rfl (Ope.lt rfl rfl ?_)
    refine Reg.op rfl (Ope.pickF rfl rfl ?_)
    refine Reg.op rfl (Ope.mov rfl ?_)
    refine Reg.splitX rfl rfl (fun hg => ?_) fun hg => ?_
    ·(first | (exfalso; first | omega | (simp [hUi] at hg; done)))
    ·refine Reg.on rfl rfl rfl (Ope.mov rfl ?_)
     refine Reg.on rfl rfl rfl (Ope.fld rfl rfl ?_)
     refine Reg.on rfl rfl rfl (Ope.load rfl rfl ?_)
     refine Reg.on rfl rfl rfl (Ope.gt rfl rfl ?_)
     refine Reg.op rfl (Ope.pickF rfl rfl ?_)
     refine Reg.op rfl (Ope.mov rfl ?_)
     refine Reg.splitX rfl rfl (fun hg => ?_) fun hg => ?_
     ·(first | (exfalso; first | omega | (simp [hUi] at hg; done)))
     ·refine Reg.on rfl rfl rfl (Ope.mov rfl ?_)
      refine Reg.on rfl rfl rfl (Ope.eq rfl rfl ?_)
      refine Reg.on rfl rfl rfl (Ope.mov rfl ?_)
      refine Reg.on rfl rfl rfl (Ope.fld rfl rfl ?_)
      refine Reg.on rfl rfl rfl (Ope.load rfl rfl ?_)
      refine Reg.on rfl rfl rfl (Ope.eq rfl rfl ?_)
      refine Reg.on rfl rfl rfl (Ope.neB (by kernel_rfl) rfl rfl ?_)
      refine Reg.op rfl (Ope.pickF rfl rfl ?_)
      refine Reg.op rfl (Ope.mov rfl ?_)
      refine Reg.splitX rfl rfl (fun hg => ?_) fun hg => ?_
      ·(first | (exfalso; first | omega | (simp [hUi] at hg; done)))
      ·refine Reg.on rfl rfl rfl (Ope.mov rfl ?_)
       refine Reg.on rfl rfl rfl (Ope.ne rfl rfl ?_)
       refine Reg.on rfl rfl rfl (Ope.mov rfl ?_)
       refine Reg.splitX rfl rfl (fun hg => ?_) fun hg => ?_
       ·(first | (exfalso; first | omega | (simp [hUi] at hg; done)))
       ·refine Reg.off rfl rfl rfl (Reg.off rfl rfl rfl (Reg.off rfl rfl rfl (Reg.past rfl rfl rfl (Reg.past rfl rfl rfl (Reg.off rfl rfl rfl (Reg.off rfl rfl rfl (Reg.past rfl rfl rfl (Reg.past rfl rfl rfl (Reg.off rfl rfl rfl (Reg.off rfl rfl rfl (Reg.past rfl rfl rfl (Reg.past rfl rfl rfl (Reg.off rfl rfl rfl (Reg.on rfl rfl rfl (Ope.pickF rfl rfl ?_)))))))))))))))
        refine Reg.op rfl (Ope.pickF rfl rfl ?_)
        refine Reg.nil (Run.condF rfl (Run.skip (Run.seq (Run.region (cx_ok _ _ _) (Reg.op rfl (Ope.load rfl rfl ?_))))))
        refine Reg.op rfl (Ope.mov rfl ?_)
        refine Reg.op rfl (Ope.cf rfl rfl (f42 R hR R.until (by omega)) rfl ?_)
        refine Reg.op rfl (Ope.cf rfl rfl (f18b (R.first R.until) (first_ok hR (by omega)) (first_valid hv (by omega))) rfl ?_)
        refine Reg.op rfl (Ope.mov rfl ?_)
        refine Reg.op rfl (Ope.ext rfl rfl ?_)
        refine Reg.op rfl (Ope.ext rfl rfl ?_)
        refine Reg.op rfl (Ope.asg rfl ?_)
        refine Reg.op rfl (Ope.asg rfl ?_)
        refine Reg.nil (Run.seq (Run.seq (Run.region (cx_ok _ _ _) (Reg.op rfl (Ope.mov rfl ?_)))))
        refine Reg.op rfl (Ope.ne rfl rfl ?_)
        refine Reg.op rfl (Ope.mov rfl ?_)
        refine Reg.splitX rfl rfl (fun hg => ?_) fun hg => ?_
        ·(first | (exfalso; first | omega | (simp [hUi] at hg; done)))
        ·refine Reg.on rfl rfl rfl (Ope.mov rfl ?_)
         refine Reg.on rfl rfl rfl (Ope.lt rfl rfl ?_)
         refine Reg.op rfl (Ope.pickF rfl rfl ?_)
         refine Reg.nil (Run.condX rfl (fun hc => ?_) fun hc => ?_)
         ·(first | (exfalso; first | omega | (simp [hUi] at hc; done)))
         ·refine Run.skip (Run.seq (Run.seq (Run.region (cx_ok _ _ _) (Reg.op rfl (Ope.mov rfl ?_)))))
          refine Reg.op rfl (Ope.fld rfl rfl ?_)
          refine Reg.op rfl (Ope.load rfl rfl ?_)
          refine Reg.op rfl (Ope.eq rfl rfl ?_)
          refine Reg.nil (Run.condX rfl (fun hc => ?_) fun hc => ?_)
          ·(first | (exfalso; first | omega | (simp [hUi] at hc; done)))
          ·refine Run.skip (Run.seq (Run.seq (Run.region (cx_ok _ _ _) (Reg.op rfl (Ope.load rfl rfl ?_)))))
           refine Reg.op rfl (Ope.mov rfl ?_)
           refine Reg.op rfl (Ope.add rfl rfl (by omega) ?_)
           refine Reg.op rfl (Ope.cf rfl rfl (f42 R hR (R.until + 1) (by omega)) rfl ?_)
           refine Reg.op rfl (Ope.cf rfl rfl (f18b (R.first (R.until + 1)) (first_ok hR (by omega)) (first_valid hv (by omega))) rfl ?_)
           refine Reg.op rfl (Ope.mov rfl ?_)
           refine Reg.op rfl (Ope.ext rfl rfl ?_)
           refine Reg.op rfl (Ope.ext rfl rfl ?_)
           refine Reg.op rfl (Ope.asg rfl ?_)
           refine Reg.op rfl (Ope.asg rfl ?_)
           refine Reg.nil (Run.seq (Run.region (cx_ok _ _ _) (Reg.op rfl (Ope.mov rfl ?_))))
           refine Reg.op rfl (Ope.ne rfl rfl ?_)
           refine Reg.op rfl (Ope.mov rfl ?_)
           refine Reg.splitX rfl rfl (fun hg => ?_) fun hg => ?_
           ·(first | (exfalso; first | omega | (simp [hUi] at hg; done)))
           ·refine Reg.on rfl rfl rfl (Ope.mov rfl ?_)
            refine Reg.on rfl rfl rfl (Ope.ne rfl rfl ?_)
            refine Reg.op rfl (Ope.pickF rfl rfl ?_)
            refine Reg.nil (Run.condX rfl (fun hc => ?_) fun hc => ?_)
            ·(first | (exfalso; first | omega | (simp [hUi] at hc; done)))
            ·refine Run.skip (Run.seq (Run.seq (Run.region (cx_ok _ _ _) (Reg.op rfl (Ope.mov rfl ?_)))))
             refine Reg.op rfl (Ope.eq rfl rfl ?_)
             refine Reg.op rfl (Ope.mov rfl ?_)
             refine Reg.splitX rfl rfl (fun hg => ?_) fun hg => ?_
             ·refine Reg.on rfl rfl rfl (Ope.mov rfl ?_)
              refine Reg.on rfl rfl rfl (Ope.lt rfl rfl ?_)
              refine Reg.on rfl rfl rfl (Ope.mov rfl ?_)
              refine Reg.splitX rfl rfl (fun hg => ?_) fun hg => ?_
              ·(first | (exfalso; first | omega | (simp [hUi] at hg; done)))
              ·refine Reg.on rfl rfl rfl (Ope.mov rfl ?_)
               refine Reg.on rfl rfl rfl (Ope.gt rfl rfl ?_)
               refine Reg.on rfl rfl rfl (Ope.pickF rfl rfl ?_)
               refine Reg.on rfl rfl rfl (Ope.mov rfl ?_)
               refine Reg.splitX rfl rfl (fun hg => ?_) fun hg => ?_
               ·(first | (exfalso; first | omega | (simp [hUi] at hg; done)))
               ·refine Reg.on rfl rfl rfl (Ope.mov rfl ?_)
                refine Reg.on rfl rfl rfl (Ope.lt rfl rfl ?_)
                refine Reg.on rfl rfl rfl (Ope.pickF rfl rfl ?_)
                refine Reg.on rfl rfl rfl (Ope.mov rfl ?_)
                refine Reg.splitX rfl rfl (fun hg => ?_) fun hg => ?_
                ·(first | (exfalso; first | omega | (simp [hUi] at hg; done)))
                ·refine Reg.on rfl rfl rfl (Ope.mov rfl ?_)
                 refine Reg.on rfl rfl rfl (Ope.fld rfl rfl ?_)
                 refine Reg.on rfl rfl rfl (Ope.load rfl rfl ?_)
                 refine Reg.on rfl rfl rfl (Ope.ge rfl rfl ?_)
                 refine Reg.on rfl rfl rfl (Ope.pickF rfl rfl ?_)
                 refine Reg.on rfl rfl rfl (Ope.mov rfl ?_)
                 refine Reg.splitX rfl rfl (fun hg => ?_) fun hg => ?_
                 ·(first | (exfalso; first | omega | (simp [hUi] at hg; done)))
                 ·refine Reg.on rfl rfl rfl (Ope.mov rfl ?_)
                  refine Reg.on rfl rfl rfl (Ope.fld rfl rfl ?_)
                  refine Reg.on rfl rfl rfl (Ope.idxA rfl rfl rfl rfl ?_)
                  refine Reg.on rfl rfl rfl (Ope.fld rfl rfl ?_)
                  refine Reg.on rfl rfl rfl (Ope.load rfl rfl ?_)
                  refine Reg.on rfl rfl rfl (Ope.mov rfl ?_)
                  refine Reg.on rfl rfl rfl (Ope.shrN (m := h) rfl rfl rfl rfl (by show h ≤ 64; omega) ?_)
                  refine Reg.on rfl rfl rfl (Ope.andN (q := 1) rfl rfl rfl rfl (by show _ < 2 ^ 64; omega) (by decide) ?_)
                  refine Reg.on rfl rfl rfl (Ope.eq rfl rfl ?_)
                  refine Reg.on rfl rfl rfl (Ope.pickF rfl rfl ?_)
                  refine Reg.op rfl (Ope.pickT rfl rfl ?_)
                  refine Reg.nil (Run.condX rfl (fun hc => ?_) fun hc => ?_)
                  ·(first | (exfalso; first | omega | (simp [hUi] at hc; done)))
                  ·refine Run.skip (Run.seq (Run.seq (Run.region (cx_ok _ _ _) (Reg.op rfl (Ope.mov rfl ?_)))))
                   refine Reg.nil (Run.block (Run.loop (α := Nat × Nat) (fun s => [(1, .fp (.agg R.cells)), (10, I ((1 : Nat) : Int)), (11, I (h : Int)), (12, I 0), (162, I s.1)]) (fun s => HE s.2 []) (fun s => s.1 ≤ 2 ∧ s.1 ≤ 1) (fun s => 2 - s.1) (0, 0) ⟨rfl, rfl, rfl, rfl, rfl, trivial⟩ rfl (by constructor <;> simp) (fun s hs => ?_)))
                   obtain ⟨i, nx⟩ := s
                   obtain ⟨hi2, hiw⟩ := hs
                   simp only at hi2 hiw
                   show Run _ _ _ _ [(1, .fp (.agg R.cells)), (10, I ((1 : Nat) : Int)), (11, I (h : Int)), (12, I 0), (162, I i)] [] (HE nx [])
                   rcases (by omega : i = 0 ∨ i = 1 ∨ i = 2) with rfl | rfl | rfl
                   ·refine Run.seq (Run.region (cx_ok _ _ _) (Reg.op rfl (Ope.lt rfl rfl ?_)))
                    refine Reg.nil (Run.seq (Run.condX rfl (fun hc => ?_) fun hc => ?_))
                    ·refine Run.skip (Run.seq (Run.block (Run.seq (Run.region (cx_ok _ _ _) (Reg.op rfl (Ope.mov rfl ?_))))))
                     refine Reg.op rfl (Ope.asg rfl ?_)
                     refine Reg.nil (Run.seq (Run.region (cx_ok _ _ _) (Reg.op rfl (Ope.fld rfl rfl ?_))))
                     refine Reg.op rfl (Ope.load rfl rfl ?_)
                     refine Reg.op rfl (Ope.mov rfl ?_)
                     refine Reg.nil (Run.block ?_)
                     first
                       | refine Run.loop (α := Nat × Nat) (fun s => [(1, .fp (.agg R.cells)), (10, I ((1 : Nat) : Int)), (11, I (h : Int)), (12, I 0), (17, I ((0 : Nat) : Int)), (162, I ((0 : Nat) : Int)), (166, I R.m), (167, I s.1)]) (fun s => HE s.2 []) (fun s => s.1 ≤ R.m ∧ (0 = 1 → s.1 ≤ h)) (fun s => R.m - s.1) (0, nx) ⟨rfl, rfl, rfl, rfl, rfl, rfl, rfl, rfl, trivial⟩ rfl (by constructor <;> simp) (fun s hs => ?_)
                         obtain ⟨k, n1⟩ := s
                         have hkm : k ≤ R.m := hs.1
                         have hkh : (0 = 1 → k ≤ h) := hs.2
                         show Run _ _ _ _ [(1, .fp (.agg R.cells)), (10, I ((1 : Nat) : Int)), (11, I (h : Int)), (12, I 0), (17, I ((0 : Nat) : Int)), (162, I ((0 : Nat) : Int)), (166, I R.m), (167, I k)] [] (HE n1 [])
                       | refine Run.loop (α := Nat × Nat) (fun s => [(1, .fp (.agg R.cells)), (10, I ((1 : Nat) : Int)), (11, I (h : Int)), (12, I 0), (17, I ((1 : Nat) : Int)), (162, I ((1 : Nat) : Int)), (166, I R.m), (167, I s.1)]) (fun s => HE s.2 []) (fun s => s.1 ≤ R.m ∧ (1 = 1 → s.1 ≤ h)) (fun s => R.m - s.1) (0, nx) ⟨rfl, rfl, rfl, rfl, rfl, rfl, rfl, rfl, trivial⟩ rfl (by constructor <;> simp) (fun s hs => ?_)
                         obtain ⟨k, n1⟩ := s
                         have hkm : k ≤ R.m := hs.1
                         have hkh : (1 = 1 → k ≤ h) := hs.2
                         show Run _ _ _ _ [(1, .fp (.agg R.cells)), (10, I ((1 : Nat) : Int)), (11, I (h : Int)), (12, I 0), (17, I ((1 : Nat) : Int)), (162, I ((1 : Nat) : Int)), (166, I R.m), (167, I k)] [] (HE n1 [])
                     refine Run.seq (Run.region (cx_ok _ _ _) (Reg.op rfl (Ope.lt rfl rfl ?_)))
                     refine Reg.nil (Run.seq (Run.condX rfl (fun hc => ?_) fun hc => ?_))
                     ·refine Run.skip (Run.seq (Run.block (Run.seq ?_)))
                      have hkl : k < R.m := by omega
                      have hp := pow16 (show k ≤ 16 by omega)
                      have hs0 : R.o0 >>> k < 2 ^ 62 := Nat.lt_of_le_of_lt (Nat.shiftRight_le _ _) ho0
                      have hs1 : R.o1 >>> k < 2 ^ 62 := Nat.lt_of_le_of_lt (Nat.shiftRight_le _ _) ho1
                      have hl0 := and_one_lt (R.o0 >>> k)
                      have hl1 := and_one_lt (R.o1 >>> k)
                      refine Run.region (cx_ok _ _ _) (Reg.op rfl (Ope.mov rfl ?_))
                      refine Reg.op rfl (Ope.asg rfl ?_)
                      refine Reg.nil (Run.seq (Run.seq (Run.region (cx_ok _ _ _) (Reg.op rfl (Ope.mov rfl ?_)))))
                      refine Reg.op rfl (Ope.fld rfl rfl ?_)
                      refine Reg.op rfl (Ope.idxA rfl rfl rfl rfl ?_)
                      refine Reg.op rfl (Ope.fld rfl rfl ?_)
                      refine Reg.op rfl (Ope.load rfl rfl ?_)
                      refine Reg.op rfl (Ope.mov rfl ?_)
                      refine Reg.op rfl (Ope.shrN (m := k) rfl rfl rfl rfl (by show k ≤ 64; omega) ?_)
                      refine Reg.op rfl (Ope.andN (q := 1) rfl rfl rfl rfl (by show _ < 2 ^ 64; omega) (by decide) ?_)
                      refine Reg.op rfl (Ope.eq rfl rfl ?_)
                      refine Reg.nil (Run.condX rfl (fun hc => ?_) fun hc => ?_)
                      ·refine Run.exit (Jmp.code (Jmp.here (Run.wide (l' := []) (Nat.le_refl _) Hsub.nil ?_)))
                       refine Run.region (cx_ok _ _ _) (Reg.op rfl (Ope.add rfl rfl (by omega) ?_))
                       refine Reg.op rfl (Ope.mov rfl ?_)
                       refine Reg.nil ?_
                       first
                         | exact Run.lend ⟨(k + 1, n1), by simp only; omega, ⟨by simp only; omega, fun hX => Nat.lt_of_le_of_ne (hkh hX) (fun e => by subst e; omega)⟩, ⟨rfl, rfl, rfl, rfl, rfl, rfl, rfl, rfl, trivial⟩, rfl, rfl⟩
                         | exact Run.lend ⟨(k + 1, n1 + 1), by simp only; omega, ⟨by simp only; omega, fun hX => Nat.lt_of_le_of_ne (hkh hX) (fun e => by subst e; omega)⟩, ⟨rfl, rfl, rfl, rfl, rfl, rfl, rfl, rfl, trivial⟩, rfl, rfl⟩
                      ·refine Run.skip (Run.seq (Run.region (cx_ok _ _ _) (Reg.op rfl (Ope.load rfl rfl ?_))))
                       refine Reg.op rfl (Ope.newL rfl ?_)
                       refine Reg.op0 (Ope.store rfl rfl hget_hd rfl rfl rfl ?_)
                       refine Reg.nil (Run.seq (Run.draw (cx_ok _ _ _) [(0, true), (1, true), (2, true), (3, true), (4, true), (5, true), (6, true), (7, true), (8, true), (9, true), (10, true), (11, true)] (by kernel_rfl) (Dra.op' rfl rfl rfl .sure (Ope.mov rfl ?_))))
                       refine Dra.op' rfl rfl rfl .sure (Ope.fld rfl rfl ?_)
                       refine Dra.op' rfl rfl rfl .sure (Ope.idxA rfl rfl rfl rfl ?_)
                       refine Dra.op' rfl rfl rfl .sure (Ope.fld rfl rfl ?_)
                       refine Dra.op' rfl rfl rfl .sure (Ope.loadH rfl hget_hd rfl ?_)
                       refine Dra.op' rfl rfl rfl .sure (Ope.mov rfl ?_)
                       refine Dra.op' rfl rfl rfl .sure (Ope.shlN (p := 1) (m := k) rfl rfl rfl rfl (by omega) (by omega) ?_)
                       refine Dra.op' rfl rfl rfl .sure (Ope.andNotN rfl rfl rfl rfl (by show _ < 2 ^ 63; omega) (by show _ < 2 ^ 63; omega) ?_)
                       refine Dra.op' rfl rfl rfl .sure (Ope.fld rfl rfl ?_)
                       refine Dra.op' rfl rfl rfl .sure (Ope.idxA rfl rfl rfl rfl ?_)
                       refine Dra.op' rfl rfl rfl .sure (Ope.fld rfl rfl ?_)
                       refine Dra.op' rfl rfl rfl .sure (Ope.store rfl rfl hget_hd rfl rfl rfl ?_)
                       refine Dra.nil (Run.seq (Run.region (cx_ok _ _ _) (Reg.op rfl (Ope.loadH rfl hget_hd rfl ?_))))
                       first | refine Reg.op rfl (Ope.cf rfl rfl (f18b (R.without 0 k) (without_ok hR 0 k) (without_valid hv 0 k)) rfl ?_) | refine Reg.op rfl (Ope.cf rfl rfl (f18b (R.without 1 k) (without_ok hR 1 k) (without_valid hv 1 k)) rfl ?_)
                       refine Reg.op rfl (Ope.mov rfl ?_)
                       refine Reg.op rfl (Ope.ext rfl rfl ?_)
                       refine Reg.op rfl (Ope.ext rfl rfl ?_)
                       refine Reg.op rfl (Ope.asg rfl ?_)
                       refine Reg.op rfl (Ope.asg rfl ?_)
                       refine Reg.nil (Run.seq ?_)
                       first
                         | have hkey := hall 0 k (by decide) hkl (decide_eq_true (by show ((R.o0 >>> k &&& 1 : Nat) : Int) = 1; omega)) (by first | exact .inl (by decide) | exact .inr ⟨rfl, hkh rfl⟩)
                         | have hkey := hall 1 k (by decide) hkl (decide_eq_true (by show ((R.o1 >>> k &&& 1 : Nat) : Int) = 1; omega)) (by first | exact .inl (by decide) | exact .inr ⟨rfl, hkh rfl⟩)
                       refine Run.region (cx_ok _ _ _) (Reg.op rfl (Ope.mov rfl ?_))
                       refine Reg.op rfl (Ope.eq rfl rfl ?_)
                       refine Reg.op rfl (Ope.mov rfl ?_)
                       refine Reg.splitX rfl rfl (fun hg => ?_) fun hg => ?_
                       ·refine Reg.on rfl rfl rfl (Ope.mov rfl ?_)
                        refine Reg.on rfl rfl rfl (Ope.mov rfl ?_)
                        refine Reg.on rfl rfl rfl (Ope.eq rfl rfl ?_)
                        refine Reg.op rfl (Ope.pickT rfl rfl ?_)
                        refine Reg.op rfl (Ope.mov rfl ?_)
                        refine Reg.splitX rfl rfl (fun hg => ?_) fun hg => ?_
                        ·(first | (exfalso; first | omega | (simp [hUi] at hg; done)))
                        ·refine Reg.off rfl rfl rfl (Reg.off rfl rfl rfl (Reg.off rfl rfl rfl (Reg.op rfl (Ope.pickF rfl rfl ?_))))
                         refine Reg.op rfl (Ope.asg rfl ?_)
                         refine Reg.nil (Run.seq (Run.seq (Run.region (cx_ok _ _ _) (Reg.op rfl (Ope.mov rfl ?_)))))
                         refine Reg.op rfl (Ope.ne rfl rfl ?_)
                         refine Reg.op rfl (Ope.mov rfl ?_)
                         refine Reg.splitX rfl rfl (fun hg => ?_) fun hg => ?_
                         ·(first | (exfalso; first | omega | (simp [hUi] at hg; done)))
                         ·refine Reg.on rfl rfl rfl (Ope.mov rfl ?_)
                          refine Reg.on rfl rfl rfl (Ope.gt rfl rfl ?_)
                          refine Reg.on rfl rfl rfl (Ope.mov rfl ?_)
                          refine Reg.on rfl rfl rfl (Ope.neB (by kernel_rfl) rfl rfl ?_)
                          refine Reg.op rfl (Ope.pickF rfl rfl ?_)
                          refine Reg.nil (Run.condX rfl (fun hc => ?_) fun hc => ?_)
                          ·(exfalso; first | omega | (simp only [beq_eq_false_iff_ne, ne_eq, decide_eq_decide] at hc; omega) | (simp at hc; omega))
                          ·refine Run.skip (Run.seq (Run.region (cx_ok _ _ _) (Reg.op rfl (Ope.mov rfl ?_))))
                           refine Reg.nil (Run.condF rfl (Run.skip (Run.bend (Run.wide (l' := []) (Nat.le_refl _) Hsub.nil ?_))))
                           refine Run.region (cx_ok _ _ _) (Reg.op rfl (Ope.add rfl rfl (by omega) ?_))
                           refine Reg.op rfl (Ope.mov rfl ?_)
                           refine Reg.nil ?_
                           first
                             | exact Run.lend ⟨(k + 1, n1), by simp only; omega, ⟨by simp only; omega, fun hX => Nat.lt_of_le_of_ne (hkh hX) (fun e => by subst e; omega)⟩, ⟨rfl, rfl, rfl, rfl, rfl, rfl, rfl, rfl, trivial⟩, rfl, rfl⟩
                             | exact Run.lend ⟨(k + 1, n1 + 1), by simp only; omega, ⟨by simp only; omega, fun hX => Nat.lt_of_le_of_ne (hkh hX) (fun e => by subst e; omega)⟩, ⟨rfl, rfl, rfl, rfl, rfl, rfl, rfl, rfl, trivial⟩, rfl, rfl⟩
                       ·(first | (exfalso; first | omega | (simp [hUi] at hg; done)))
                     ·refine Run.exit (Jmp.code (Jmp.round (Jmp.here (Run.bend (Run.region (cx_ok _ _ _) (Reg.op rfl (Ope.add rfl rfl (by omega) ?_)))))))
                      refine Reg.op rfl (Ope.mov rfl ?_)
                      refine Reg.nil ?_
                      first
                        | exact Run.lend ⟨(1, n1), by simp only; omega, ⟨by simp only; omega, by simp only; omega⟩, ⟨rfl, rfl, rfl, rfl, rfl, trivial⟩, rfl, rfl⟩
                        | (exfalso; have := hkh rfl; omega)
                    ·(first | (exfalso; first | omega | (simp [hUi] at hc; done)))
                   ·refine Run.seq (Run.region (cx_ok _ _ _) (Reg.op rfl (Ope.lt rfl rfl ?_)))
                    refine Reg.nil (Run.seq (Run.condX rfl (fun hc => ?_) fun hc => ?_))
                    ·refine Run.skip (Run.seq (Run.block (Run.seq (Run.region (cx_ok _ _ _) (Reg.op rfl (Ope.mov rfl ?_))))))
                     refine Reg.op rfl (Ope.asg rfl ?_)
                     refine Reg.nil (Run.seq (Run.region (cx_ok _ _ _) (Reg.op rfl (Ope.fld rfl rfl ?_))))
                     refine Reg.op rfl (Ope.load rfl rfl ?_)
                     refine Reg.op rfl (Ope.mov rfl ?_)
                     refine Reg.nil (Run.block ?_)
                     first
                       | refine Run.loop (α := Nat × Nat) (fun s => [(1, .fp (.agg R.cells)), (10, I ((1 : Nat) : Int)), (11, I (h : Int)), (12, I 0), (17, I ((0 : Nat) : Int)), (162, I ((0 : Nat) : Int)), (166, I R.m), (167, I s.1)]) (fun s => HE s.2 []) (fun s => s.1 ≤ R.m ∧ (0 = 1 → s.1 ≤ h)) (fun s => R.m - s.1) (0, nx) ⟨rfl, rfl, rfl, rfl, rfl, rfl, rfl, rfl, trivial⟩ rfl (by constructor <;> simp) (fun s hs => ?_)
                         obtain ⟨k, n1⟩ := s
                         have hkm : k ≤ R.m := hs.1
                         have hkh : (0 = 1 → k ≤ h) := hs.2
                         show Run _ _ _ _ [(1, .fp (.agg R.cells)), (10, I ((1 : Nat) : Int)), (11, I (h : Int)), (12, I 0), (17, I ((0 : Nat) : Int)), (162, I ((0 : Nat) : Int)), (166, I R.m), (167, I k)] [] (HE n1 [])
                       | refine Run.loop (α := Nat × Nat) (fun s => [(1, .fp (.agg R.cells)), (10, I ((1 : Nat) : Int)), (11, I (h : Int)), (12, I 0), (17, I ((1 : Nat) : Int)), (162, I ((1 : Nat) : Int)), (166, I R.m), (167, I s.1)]) (fun s => HE s.2 []) (fun s => s.1 ≤ R.m ∧ (1 = 1 → s.1 ≤ h)) (fun s => R.m - s.1) (0, nx) ⟨rfl, rfl, rfl, rfl, rfl, rfl, rfl, rfl, trivial⟩ rfl (by constructor <;> simp) (fun s hs => ?_)
                         obtain ⟨k, n1⟩ := s
                         have hkm : k ≤ R.m := hs.1
                         have hkh : (1 = 1 → k ≤ h) := hs.2
                         show Run _ _ _ _ [(1, .fp (.agg R.cells)), (10, I ((1 : Nat) : Int)), (11, I (h : Int)), (12, I 0), (17, I ((1 : Nat) : Int)), (162, I ((1 : Nat) : Int)), (166, I R.m), (167, I k)] [] (HE n1 [])
                     refine Run.seq (Run.region (cx_ok _ _ _) (Reg.op rfl (Ope.lt rfl rfl ?_)))
                     refine Reg.nil (Run.seq (Run.condX rfl (fun hc => ?_) fun hc => ?_))
                     ·refine Run.skip (Run.seq (Run.block (Run.seq ?_)))
                      have hkl : k < R.m := by omega
                      have hp := pow16 (show k ≤ 16 by omega)
                      have hs0 : R.o0 >>> k < 2 ^ 62 := Nat.lt_of_le_of_lt (Nat.shiftRight_le _ _) ho0
                      have hs1 : R.o1 >>> k < 2 ^ 62 := Nat.lt_of_le_of_lt (Nat.shiftRight_le _ _) ho1
                      have hl0 := and_one_lt (R.o0 >>> k)
                      have hl1 := and_one_lt (R.o1 >>> k)
                      refine Run.region (cx_ok _ _ _) (Reg.op rfl (Ope.mov rfl ?_))
                      refine Reg.op rfl (Ope.asg rfl ?_)
                      refine Reg.nil (Run.seq (Run.seq (Run.region (cx_ok _ _ _) (Reg.op rfl (Ope.mov rfl ?_)))))
                      refine Reg.op rfl (Ope.fld rfl rfl ?_)
                      refine Reg.op rfl (Ope.idxA rfl rfl rfl rfl ?_)
                      refine Reg.op rfl (Ope.fld rfl rfl ?_)
                      refine Reg.op rfl (Ope.load rfl rfl ?_)
                      refine Reg.op rfl (Ope.mov rfl ?_)
                      refine Reg.op rfl (Ope.shrN (m := k) rfl rfl rfl rfl (by show k ≤ 64; omega) ?_)
                      refine Reg.op rfl (Ope.andN (q := 1) rfl rfl rfl rfl (by show _ < 2 ^ 64; omega) (by decide) ?_)
                      refine Reg.op rfl (Ope.eq rfl rfl ?_)
                      refine Reg.nil (Run.condX rfl (fun hc => ?_) fun hc => ?_)
                      ·refine Run.exit (Jmp.code (Jmp.here (Run.wide (l' := []) (Nat.le_refl _) Hsub.nil ?_)))
                       refine Run.region (cx_ok _ _ _) (Reg.op rfl (Ope.add rfl rfl (by omega) ?_))
                       refine Reg.op rfl (Ope.mov rfl ?_)
                       refine Reg.nil ?_
                       first
                         | exact Run.lend ⟨(k + 1, n1), by simp only; omega, ⟨by simp only; omega, fun hX => Nat.lt_of_le_of_ne (hkh hX) (fun e => by subst e; omega)⟩, ⟨rfl, rfl, rfl, rfl, rfl, rfl, rfl, rfl, trivial⟩, rfl, rfl⟩
                         | exact Run.lend ⟨(k + 1, n1 + 1), by simp only; omega, ⟨by simp only; omega, fun hX => Nat.lt_of_le_of_ne (hkh hX) (fun e => by subst e; omega)⟩, ⟨rfl, rfl, rfl, rfl, rfl, rfl, rfl, rfl, trivial⟩, rfl, rfl⟩
                      ·refine Run.skip (Run.seq (Run.region (cx_ok _ _ _) (Reg.op rfl (Ope.load rfl rfl ?_))))
                       refine Reg.op rfl (Ope.newL rfl ?_)
                       refine Reg.op0 (Ope.store rfl rfl hget_hd rfl rfl rfl ?_)
                       refine Reg.nil (Run.seq (Run.draw (cx_ok _ _ _) [(0, true), (1, true), (2, true), (3, true), (4, true), (5, true), (6, true), (7, true), (8, true), (9, true), (10, true), (11, true)] (by kernel_rfl) (Dra.op' rfl rfl rfl .sure (Ope.mov rfl ?_))))
                       refine Dra.op' rfl rfl rfl .sure (Ope.fld rfl rfl ?_)
                       refine Dra.op' rfl rfl rfl .sure (Ope.idxA rfl rfl rfl rfl ?_)
                       refine Dra.op' rfl rfl rfl .sure (Ope.fld rfl rfl ?_)
                       refine Dra.op' rfl rfl rfl .sure (Ope.loadH rfl hget_hd rfl ?_)
                       refine Dra.op' rfl rfl rfl .sure (Ope.mov rfl ?_)
                       refine Dra.op' rfl rfl rfl .sure (Ope.shlN (p := 1) (m := k) rfl rfl rfl rfl (by omega) (by omega) ?_)
                       refine Dra.op' rfl rfl rfl .sure (Ope.andNotN rfl rfl rfl rfl (by show _ < 2 ^ 63; omega) (by show _ < 2 ^ 63; omega) ?_)
                       refine Dra.op' rfl rfl rfl .sure (Ope.fld rfl rfl ?_)
                       refine Dra.op' rfl rfl rfl .sure (Ope.idxA rfl rfl rfl rfl ?_)
                       refine Dra.op' rfl rfl rfl .sure (Ope.fld rfl rfl ?_)
                       refine Dra.op' rfl rfl rfl .sure (Ope.store rfl rfl hget_hd rfl rfl rfl ?_)
                       refine Dra.nil (Run.seq (Run.region (cx_ok _ _ _) (Reg.op rfl (Ope.loadH rfl hget_hd rfl ?_))))
                       first | refine Reg.op rfl (Ope.cf rfl rfl (f18b (R.without 0 k) (without_ok hR 0 k) (without_valid hv 0 k)) rfl ?_) | refine Reg.op rfl (Ope.cf rfl rfl (f18b (R.without 1 k) (without_ok hR 1 k) (without_valid hv 1 k)) rfl ?_)
                       refine Reg.op rfl (Ope.mov rfl ?_)
                       refine Reg.op rfl (Ope.ext rfl rfl ?_)
                       refine Reg.op rfl (Ope.ext rfl rfl ?_)
                       refine Reg.op rfl (Ope.asg rfl ?_)
                       refine Reg.op rfl (Ope.asg rfl ?_)
                       refine Reg.nil (Run.seq ?_)
                       first
                         | have hkey := hall 0 k (by decide) hkl (decide_eq_true (by show ((R.o0 >>> k &&& 1 : Nat) : Int) = 1; omega)) (by first | exact .inl (by decide) | exact .inr ⟨rfl, hkh rfl⟩)
                         | have hkey := hall 1 k (by decide) hkl (decide_eq_true (by show ((R.o1 >>> k &&& 1 : Nat) : Int) = 1; omega)) (by first | exact .inl (by decide) | exact .inr ⟨rfl, hkh rfl⟩)
                       refine Run.region (cx_ok _ _ _) (Reg.op rfl (Ope.mov rfl ?_))
                       refine Reg.op rfl (Ope.eq rfl rfl ?_)
                       refine Reg.op rfl (Ope.mov rfl ?_)
                       refine Reg.splitX rfl rfl (fun hg => ?_) fun hg => ?_
                       ·refine Reg.on rfl rfl rfl (Ope.mov rfl ?_)
                        refine Reg.on rfl rfl rfl (Ope.mov rfl ?_)
                        refine Reg.on rfl rfl rfl (Ope.eq rfl rfl ?_)
                        refine Reg.op rfl (Ope.pickT rfl rfl ?_)
                        refine Reg.op rfl (Ope.mov rfl ?_)
                        refine Reg.splitX rfl rfl (fun hg => ?_) fun hg => ?_
                        ·refine Reg.on rfl rfl rfl (Ope.mov rfl ?_)
                         refine Reg.on rfl rfl rfl (Ope.mov rfl ?_)
                         refine Reg.on rfl rfl rfl (Ope.eq rfl rfl ?_)
                         refine Reg.op rfl (Ope.pickT rfl rfl ?_)
                         refine Reg.op rfl (Ope.asg rfl ?_)
                         refine Reg.nil (Run.seq (Run.seq (Run.region (cx_ok _ _ _) (Reg.op rfl (Ope.mov rfl ?_)))))
                         refine Reg.op rfl (Ope.ne rfl rfl ?_)
                         refine Reg.op rfl (Ope.mov rfl ?_)
                         refine Reg.splitX rfl rfl (fun hg => ?_) fun hg => ?_
                         ·(first | (exfalso; first | omega | (simp [hUi] at hg; done)))
                         ·refine Reg.on rfl rfl rfl (Ope.mov rfl ?_)
                          refine Reg.on rfl rfl rfl (Ope.gt rfl rfl ?_)
                          refine Reg.on rfl rfl rfl (Ope.mov rfl ?_)
                          refine Reg.on rfl rfl rfl (Ope.neB (by kernel_rfl) rfl rfl ?_)
                          refine Reg.op rfl (Ope.pickF rfl rfl ?_)
                          refine Reg.nil (Run.condX rfl (fun hc => ?_) fun hc => ?_)
                          ·(exfalso; first | omega | (simp only [beq_eq_false_iff_ne, ne_eq, decide_eq_decide] at hc; omega) | (simp at hc; omega))
                          ·refine Run.skip (Run.seq (Run.region (cx_ok _ _ _) (Reg.op rfl (Ope.mov rfl ?_))))
                           refine Reg.nil (Run.condX rfl (fun hc => ?_) fun hc => ?_)
                           ·refine Run.seq (Run.region (cx_ok _ _ _) (Reg.op rfl (Ope.clo rfl rfl awakeC ?_)))
                            refine Reg.op rfl (Ope.asg rfl ?_)
                            refine Reg.nil (Run.ret (Jmp.retB (Jmp.code (Jmp.round (Jmp.retB (Jmp.retB (Jmp.code (Jmp.round (Jmp.retB (Jmp.code (fin_ret (.tmp rfl .nil) rfl ?_)))))))))))
                            rfl
                           ·refine Run.skip (Run.bend (Run.wide (l' := []) (Nat.le_refl _) Hsub.nil ?_))
                            refine Run.region (cx_ok _ _ _) (Reg.op rfl (Ope.add rfl rfl (by omega) ?_))
                            refine Reg.op rfl (Ope.mov rfl ?_)
                            refine Reg.nil ?_
                            first
                              | exact Run.lend ⟨(k + 1, n1), by simp only; omega, ⟨by simp only; omega, fun hX => Nat.lt_of_le_of_ne (hkh hX) (fun e => by subst e; omega)⟩, ⟨rfl, rfl, rfl, rfl, rfl, rfl, rfl, rfl, trivial⟩, rfl, rfl⟩
                              | exact Run.lend ⟨(k + 1, n1 + 1), by simp only; omega, ⟨by simp only; omega, fun hX => Nat.lt_of_le_of_ne (hkh hX) (fun e => by subst e; omega)⟩, ⟨rfl, rfl, rfl, rfl, rfl, rfl, rfl, rfl, trivial⟩, rfl, rfl⟩
                        ·(first | (exfalso; first | omega | (simp [hUi] at hg; done)))
                       ·(first | (exfalso; first | omega | (simp [hUi] at hg; done)))
                     ·(first | (exfalso; first | omega | (simp [hUi] at hc; done)))
                    ·(first | (exfalso; first | omega | (simp [hUi] at hc; done)))
                   ·refine Run.seq (Run.region (cx_ok _ _ _) (Reg.op rfl (Ope.lt rfl rfl ?_)))
                    refine Reg.nil (Run.seq (Run.condX rfl (fun hc => ?_) fun hc => ?_))
                    ·(first | (exfalso; first | omega | (simp [hUi] at hc; done)))
                    ·(first | (exfalso; first | omega | (simp [hUi] at hc; done)))
             ·(first | (exfalso; first | omega | (simp [hUi] at hg; done)))
theorem f10 (h a0 b0 c0 d0 a1 b1 c1 d1 : Int) : Fn P0 10 [.agg [I h, I a0, I b0, I c0, I d0, I a1, I b1, I c1, I d1]] (B true) := by
  by_cases hv : validR h a0 b0 c0 d0 a1 b1 c1 d1 = true
  · obtain ⟨hok, ⟨e1, e2, e3⟩, h16⟩ := rstOf_ok hv
    have hcells : (rstOf h a0 b0 c0 d0 a1 b1 c1 d1).cells = [I h, I a0, I b0, I c0, I d0, I a1, I b1, I c1, I d1] := by
      show [I (h.toNat : Int), I (a0.toNat : Int), I b0, I c0, I d0, I (a1.toNat : Int), I b1, I c1, I d1] = _
      rw [← e1, ← e2, ← e3]
    rw [← hcells]
    generalize hR : rstOf h a0 b0 c0 d0 a1 b1 c1 d1 = R at *
    have hv' : validR R.m R.o0 R.t0 R.r0 R.f0 R.o1 R.t1 R.r1 R.f1 = true := by
      rw [← hR]
      show validR (h.toNat : Int) (a0.toNat : Int) b0 c0 d0 (a1.toNat : Int) b1 c1 d1 = true
      rw [← e1, ← e2, ← e3]
      exact hv
    by_cases hU : R.until = R.m
    · exact f10m R hok hv' hU
    · cases hh : R.hind with
      | none => exact f10n R hok hv' hU hh
      | some o =>
        obtain ⟨x, h⟩ := o
        obtain ⟨⟨hx, _⟩, _⟩ := hind_some hh
        rcases (by omega : x = 0 ∨ x = 1) with rfl | rfl
        · exact f10s0 R hok hv' hU h hh
        · exact f10s1 R hok hv' hU h hh
  · exact f10a _ _ _ _ _ _ _ _ _ (by simpa using hv)
end Go.Pv
