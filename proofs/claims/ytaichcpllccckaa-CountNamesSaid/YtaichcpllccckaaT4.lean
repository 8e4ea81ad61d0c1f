/- CountNames is run, by the table of two calls. -/
import Derived.Test.YtaichcpllccckaaT1
namespace Go.Am
open Go.Proofs

theorem main_runs : isTrue (kmainT (AP.of Try.prog) eqs1 1000000000 slow1 (T.nil.set 153 [e153n1, e153n2]) 40 3) = true := by kernel_rfl

end Go.Am
