/- ChaseNames is run, by the table of calls. -/
import Derived.Test.YtkfoapjbfooneaaK2
namespace Go.Am
open Go.Proofs Go.RowKit

theorem main_runs : isTrueK (kmainT (AP.of Try.prog) eqsK 1000000000 slowK (T.set (T.set (T.set (T.set (T.set (T.set (T.set (T.set (T.set T.nil 23 [ek23x1, ek23x6, ek23x8, ek23x15, ek23x16]) 38 [ek38x2]) 25 [ek25x3, ek25x5, ek25x10, ek25x21]) 26 [ek26x4, ek26x14, ek26x22, ek26x23]) 28 [ek28x7, ek28x11]) 29 [ek29x9, ek29x17, ek29x18]) 85 [ek85x12]) 30 [ek30x13, ek30x20]) 34 [ek34x19]) 60 4) = true := by kernel_rfl

theorem main_calls (w : World) : Calls Try.prog 4 #[] w fun e w' => e = .returned (.bool true) ∧ Kept w w' := by
  have ht : TabOk (AP.of Try.prog) Try.prog (T.set (T.set (T.set (T.set (T.set (T.set (T.set (T.set (T.set T.nil 23 [ek23x1, ek23x6, ek23x8, ek23x15, ek23x16]) 38 [ek38x2]) 25 [ek25x3, ek25x5, ek25x10, ek25x21]) 26 [ek26x4, ek26x14, ek26x22, ek26x23]) 28 [ek28x7, ek28x11]) 29 [ek29x9, ek29x17, ek29x18]) 85 [ek85x12]) 30 [ek30x13, ek30x20]) 34 [ek34x19]) := by
    refine TabOk.setL ?_ (by kernel_rfl) (ents_cons rfl (kent_ok progK_ok eqsK_ok progK_follows TabOk.nil ek34x19_runs) ents_nil)
    refine TabOk.setL ?_ (by kernel_rfl) (ents_cons rfl (kent_ok progK_ok eqsK_ok progK_follows TabOk.nil ek30x13_runs) (ents_cons rfl (kent_ok progK_ok eqsK_ok progK_follows TabOk.nil ek30x20_runs) ents_nil))
    refine TabOk.setL ?_ (by kernel_rfl) (ents_cons rfl (kent_ok progK_ok eqsK_ok progK_follows TabOk.nil ek85x12_runs) ents_nil)
    refine TabOk.setL ?_ (by kernel_rfl) (ents_cons rfl (kent_ok progK_ok eqsK_ok progK_follows TabOk.nil ek29x9_runs) (ents_cons rfl (kent_ok progK_ok eqsK_ok progK_follows TabOk.nil ek29x17_runs) (ents_cons rfl (kent_ok progK_ok eqsK_ok progK_follows TabOk.nil ek29x18_runs) ents_nil)))
    refine TabOk.setL ?_ (by kernel_rfl) (ents_cons rfl (kent_ok progK_ok eqsK_ok progK_follows TabOk.nil ek28x7_runs) (ents_cons rfl (kent_ok progK_ok eqsK_ok progK_follows TabOk.nil ek28x11_runs) ents_nil))
    refine TabOk.setL ?_ (by kernel_rfl) (ents_cons rfl (kent_ok progK_ok eqsK_ok progK_follows TabOk.nil ek26x4_runs) (ents_cons rfl (kent_ok progK_ok eqsK_ok progK_follows TabOk.nil ek26x14_runs) (ents_cons rfl (kent_ok progK_ok eqsK_ok progK_follows TabOk.nil ek26x22_runs) (ents_cons rfl (kent_ok progK_ok eqsK_ok progK_follows TabOk.nil ek26x23_runs) ents_nil))))
    refine TabOk.setL ?_ (by kernel_rfl) (ents_cons rfl (kent_ok progK_ok eqsK_ok progK_follows TabOk.nil ek25x3_runs) (ents_cons rfl (kent_ok progK_ok eqsK_ok progK_follows TabOk.nil ek25x5_runs) (ents_cons rfl (kent_ok progK_ok eqsK_ok progK_follows TabOk.nil ek25x10_runs) (ents_cons rfl (kent_ok progK_ok eqsK_ok progK_follows TabOk.nil ek25x21_runs) ents_nil))))
    refine TabOk.setL ?_ (by kernel_rfl) (ents_cons rfl (kent_ok progK_ok eqsK_ok progK_follows TabOk.nil ek38x2_runs) ents_nil)
    refine TabOk.setL ?_ (by kernel_rfl) (ents_cons rfl (kent_ok progK_ok eqsK_ok progK_follows TabOk.nil ek23x1_runs) (ents_cons rfl (kent_ok progK_ok eqsK_ok progK_follows TabOk.nil ek23x6_runs) (ents_cons rfl (kent_ok progK_ok eqsK_ok progK_follows TabOk.nil ek23x8_runs) (ents_cons rfl (kent_ok progK_ok eqsK_ok progK_follows TabOk.nil ek23x15_runs) (ents_cons rfl (kent_ok progK_ok eqsK_ok progK_follows TabOk.nil ek23x16_runs) ents_nil)))))
    exact TabOk.nil
  obtain ⟨H, hH⟩ := isTrueK_ok main_runs
  exact kmainT_keep progK_ok eqsK_ok progK_follows ht hH w

end Go.Am
