/- Parts of the proof: K3 -/
import Derived.Test.YtkjffpokogbjjaaGreatP9
import Derived.Test.YtkjffpokogbjjaaGreatP10
import Derived.Test.YtkjffpokogbjjaaGreatP11
import Derived.Test.YtkjffpokogbjjaaGreatP12
import Derived.Test.YtkjffpokogbjjaaGreatP13
import Derived.Test.YtkjffpokogbjjaaGreatP14
import Derived.Test.YtkjffpokogbjjaaGreatP15
import Derived.Test.YtkjffpokogbjjaaGreatP16
import Derived.Test.YtkjffpokogbjjaaGreatP17
import Derived.Test.YtkjffpokogbjjaaGreatP18
import Derived.Test.YtkjffpokogbjjaaGreatP19
import Derived.Test.YtkjffpokogbjjaaGreatP20
import Derived.Test.YtkjffpokogbjjaaGreatP21
import Derived.Test.YtkjffpokogbjjaaGreatP22
set_option linter.unusedVariables false
set_option linter.unusedSimpArgs false
set_option linter.unusedSectionVars false
namespace Go.Am
open Go.Proofs Go.RowKit
def tabM:T (List Ent):=(T.set (T.set (T.set (T.set (T.set tabK 5 [ek5x2,ek5x11,ek5x23,ek5x27]) 7 [ek7x3,ek7x6,ek7x21]) 8 [ek8x7,ek8x13,ek8x24]) 9 [ek9x10,ek9x12,ek9x17]) 27 [ek27x20])
theorem main_runs:isTrueK (kmainT (AP.of Tryz.prog) eqsK 1000000000 slowK tabM 60 3)=true:=by kernel_rfl
theorem main_calls (w:World):Calls Tryz.prog 3 #[] w fun e w'=>e=.returned (.bool true)∧Kept w w':=by
  have ht:TabOk (AP.of Tryz.prog) Tryz.prog tabM:=by
    unfold tabM
    refine TabOk.setL ?_ (by kernel_rfl) (ents_cons rfl (kent_ok progK_ok eqsK_ok progK_follows tabK_ok ek27x20_runs) ents_nil)
    refine TabOk.setL ?_ (by kernel_rfl) (ents_cons rfl (kent_ok progK_ok eqsK_ok progK_follows tabK_ok ek9x10_runs) (ents_cons rfl (kent_ok progK_ok eqsK_ok progK_follows tabK_ok ek9x12_runs) (ents_cons rfl (kent_ok progK_ok eqsK_ok progK_follows tabK_ok ek9x17_runs) ents_nil)))
    refine TabOk.setL ?_ (by kernel_rfl) (ents_cons rfl (kent_ok progK_ok eqsK_ok progK_follows tabK_ok ek8x7_runs) (ents_cons rfl (kent_ok progK_ok eqsK_ok progK_follows tabK_ok ek8x13_runs) (ents_cons rfl (kent_ok progK_ok eqsK_ok progK_follows tabK_ok ek8x24_runs) ents_nil)))
    refine TabOk.setL ?_ (by kernel_rfl) (ents_cons rfl (kent_ok progK_ok eqsK_ok progK_follows tabK_ok ek7x3_runs) (ents_cons rfl (kent_ok progK_ok eqsK_ok progK_follows tabK_ok ek7x6_runs) (ents_cons rfl (kent_ok progK_ok eqsK_ok progK_follows tabK_ok ek7x21_runs) ents_nil)))
    refine TabOk.setL ?_ (by kernel_rfl) (ents_cons rfl (kent_ok progK_ok eqsK_ok progK_follows tabK_ok ek5x2_runs) (ents_cons rfl (kent_ok progK_ok eqsK_ok progK_follows tabK_ok ek5x11_runs) (ents_cons rfl (kent_ok progK_ok eqsK_ok progK_follows tabK_ok ek5x23_runs) (ents_cons rfl (kent_ok progK_ok eqsK_ok progK_follows tabK_ok ek5x27_runs) ents_nil))))
    exact tabK_ok
  obtain ⟨H,hH⟩:=isTrueK_ok main_runs
  exact kmainT_keep progK_ok eqsK_ok progK_follows ht hH w
end Go.Am
