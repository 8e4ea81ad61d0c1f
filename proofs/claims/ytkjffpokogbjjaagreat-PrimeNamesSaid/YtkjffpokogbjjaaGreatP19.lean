/- Parts of the proof: K2x10 -/
import Derived.Test.YtkjffpokogbjjaaGreatP8
set_option linter.unusedVariables false
set_option linter.unusedSimpArgs false
set_option linter.unusedSectionVars false
namespace Go.Am
open Go.Proofs
theorem ek7x21_runs:(kent (AP.of Tryz.prog) eqsK 1000000000 slowK tabK 60 ek7x21).isSome=true:=by kernel_rfl
end Go.Am
