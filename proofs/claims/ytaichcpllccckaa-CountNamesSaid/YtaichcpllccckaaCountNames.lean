/- CountNames returns true, for every world in which it is called: it is run in an abstract machine that is proved right, by computation in the kernel. It has no argument, and no condition. -/
import Derived.Test.YtaichcpllccckaaRows
import Derived.Test.YtaichcpllccckaaT2
import Derived.Test.YtaichcpllccckaaT3
import Derived.Test.YtaichcpllccckaaT4
import Derived.WalkKit
import Derived.ProofKit
import Derived.OpenShut
namespace Go.Proofs.Ytaichcpllccckaa.countNames
open Go.ChangeShapes Go.WideShapes Go.ChangeAt Go.RowKit
set_option linter.unusedVariables false

theorem own : ownKnob Try.prog.godebug = none := by kernel_rfl

theorem walk  (w : World) :
    Calls Try.prog 3 #[] w fun e w' => e = .returned (.bool true) ∧ Grown w w' := by
  obtain ⟨fn, c, hfn, hc⟩ := Go.Am.hasBody_ok (A := Go.Am.AP.of Try.prog) (f := 153) (by kernel_rfl)
  have h1 : Go.Am.EntOk (Go.Am.AP.of Try.prog) Try.prog Go.Am.e153n1 := Go.Am.kent_ok Go.Am.try_ok Go.Am.eqs1_ok Go.Am.try_follows Go.Am.TabOk.nil Go.Am.e153n1_runs
  have h2 : Go.Am.EntOk (Go.Am.AP.of Try.prog) Try.prog Go.Am.e153n2 := Go.Am.kent_ok Go.Am.try_ok Go.Am.eqs1_ok Go.Am.try_follows Go.Am.TabOk.nil Go.Am.e153n2_runs
  have ht : Go.Am.TabOk (Go.Am.AP.of Try.prog) Try.prog (Go.Am.T.nil.set 153 [Go.Am.e153n1, Go.Am.e153n2]) := by
    refine Go.Am.TabOk.set Go.Am.TabOk.nil hfn hc fun e he => ?_
    rcases List.mem_cons.1 he with he | he
    · subst he; exact ⟨rfl, h1⟩
    · rcases List.mem_cons.1 he with he | he
      · subst he; exact ⟨rfl, h2⟩
      · cases he
  obtain ⟨H, hH⟩ := Go.Am.isTrue_ok Go.Am.main_runs
  exact Go.Am.kmainT_ok Go.Am.try_ok Go.Am.eqs1_ok Go.Am.try_follows ht hH w

set_option maxRecDepth 100000 in
theorem lifted (os : Os) (started : os.Started) (H : Type) (enc : TypeId × Value → H) :
    ReturnsInHanded {} Try.checked os 3 .any (Rows.countNamesSpec.pre6 enc Try.prog Try.f3 Rows.countNamesRow.domain false) (Rows.countNamesSpec.post enc Try.prog Try.f3 false true false false) := by
  refine returnsInHanded_of_change (C := Try.checked) own started (by kernel_rfl) Try.func3
    (ChangeSpec.witness6 (enc := enc) (C := Try.checked) false ⟨#[], #[], []⟩ 8 (by kernel_rfl) (by kernel_rfl) (by kernel_rfl) (by kernel_rfl)) ?_
  intro W base args ds gs before hval0 hW hcnd _
  have hval : ∀ (j : Nat) t v, Try.f3.params[j]? = some t → args[j]? = some v → Value.okWide Try.prog W .any base t v := hval0
  have hW' := hW
  obtain ⟨p, q, hA0, hV, rfl, hfz, hnd⟩ := hW
  have hA : DataW.TrodAll enc Try.prog W 0 (fun _ => true) true Try.f3.params.toList args.toList ds p := hA0
  rw [Try.params3] at hA hval
  obtain ⟨rfl, rfl, rfl⟩ := trodAll_none hA
  obtain ⟨rfl, rfl⟩ := trodVars_none hV
  clear hA0 hval0
  simp only [List.append_nil] at hW'
  refine (walk  W).mono fun e W' ⟨he, hg⟩ => ?_
  subst he
  exact ⟨_, rfl, post_of_same (pa := []) (pv := []) hW' (fun _ _ _ => (trodAll_cons_mk (shut_bool Try.underlying4 _) trodAll_mk0)) (fun sp _ => rfl) (fun _ _ => rfl) rfl
    (hg.frame _) hg.2.1 (ok_one (by kernel_rfl) rfl (okWide_bool_mk Try.underlying4 _))⟩

theorem over : Rows.countNamesRow.holds Try.pinned (OpenSpec.ofChange Rows.countNamesSpec) :=
  OpenClaim.holds_of_wide 3 Try.f3 rfl rfl rfl rfl rfl rfl rfl ⟨rfl, rfl, rfl, rfl, rfl⟩ rfl rfl rfl rfl rfl (by kernel_rfl) Try.func3 (by kernel_rfl)
    (of_decide_eq_true (by kernel_rfl)) (by unfold Func.isWrapper; first | (rw [if_pos (by decide +kernel)]; kernel_rfl) | (rw [if_neg (by decide +kernel)]; exact ⟨rfl, rfl⟩))
    (fun os started H enc _ => lifted os started H enc)

theorem proved : Rows.CountNamesSaid :=
  over
#print axioms proved
end Go.Proofs.Ytaichcpllccckaa.countNames
