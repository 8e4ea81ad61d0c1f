/- A call is run once. -/
import Derived.Test.YtaichcpllccckaaT1
namespace Go.Am
open Go.Proofs

theorem e153n1_runs : (kent (AP.of Try.prog) eqs1 1000000000 slow1 .nil 40 e153n1).isSome = true := by kernel_rfl

end Go.Am
