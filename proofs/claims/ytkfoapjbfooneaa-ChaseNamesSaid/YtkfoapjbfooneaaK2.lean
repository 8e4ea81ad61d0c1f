/- Calls are run, each once. -/
import Derived.Test.YtkfoapjbfooneaaK1
namespace Go.Am
open Go.Proofs

theorem ek23x1_runs : (kent (AP.of Try.prog) eqsK 1000000000 slowK .nil 60 ek23x1).isSome = true := by kernel_rfl

theorem ek38x2_runs : (kent (AP.of Try.prog) eqsK 1000000000 slowK .nil 60 ek38x2).isSome = true := by kernel_rfl

theorem ek25x3_runs : (kent (AP.of Try.prog) eqsK 1000000000 slowK .nil 60 ek25x3).isSome = true := by kernel_rfl

theorem ek26x4_runs : (kent (AP.of Try.prog) eqsK 1000000000 slowK .nil 60 ek26x4).isSome = true := by kernel_rfl

theorem ek25x5_runs : (kent (AP.of Try.prog) eqsK 1000000000 slowK .nil 60 ek25x5).isSome = true := by kernel_rfl

theorem ek23x6_runs : (kent (AP.of Try.prog) eqsK 1000000000 slowK .nil 60 ek23x6).isSome = true := by kernel_rfl

theorem ek28x7_runs : (kent (AP.of Try.prog) eqsK 1000000000 slowK .nil 60 ek28x7).isSome = true := by kernel_rfl

theorem ek23x8_runs : (kent (AP.of Try.prog) eqsK 1000000000 slowK .nil 60 ek23x8).isSome = true := by kernel_rfl

theorem ek29x9_runs : (kent (AP.of Try.prog) eqsK 1000000000 slowK .nil 60 ek29x9).isSome = true := by kernel_rfl

theorem ek25x10_runs : (kent (AP.of Try.prog) eqsK 1000000000 slowK .nil 60 ek25x10).isSome = true := by kernel_rfl

theorem ek28x11_runs : (kent (AP.of Try.prog) eqsK 1000000000 slowK .nil 60 ek28x11).isSome = true := by kernel_rfl

theorem ek85x12_runs : (kent (AP.of Try.prog) eqsK 1000000000 slowK .nil 60 ek85x12).isSome = true := by kernel_rfl

theorem ek30x13_runs : (kent (AP.of Try.prog) eqsK 1000000000 slowK .nil 60 ek30x13).isSome = true := by kernel_rfl

theorem ek26x14_runs : (kent (AP.of Try.prog) eqsK 1000000000 slowK .nil 60 ek26x14).isSome = true := by kernel_rfl

theorem ek23x15_runs : (kent (AP.of Try.prog) eqsK 1000000000 slowK .nil 60 ek23x15).isSome = true := by kernel_rfl

theorem ek23x16_runs : (kent (AP.of Try.prog) eqsK 1000000000 slowK .nil 60 ek23x16).isSome = true := by kernel_rfl

theorem ek29x17_runs : (kent (AP.of Try.prog) eqsK 1000000000 slowK .nil 60 ek29x17).isSome = true := by kernel_rfl

theorem ek29x18_runs : (kent (AP.of Try.prog) eqsK 1000000000 slowK .nil 60 ek29x18).isSome = true := by kernel_rfl

theorem ek34x19_runs : (kent (AP.of Try.prog) eqsK 1000000000 slowK .nil 60 ek34x19).isSome = true := by kernel_rfl

theorem ek30x20_runs : (kent (AP.of Try.prog) eqsK 1000000000 slowK .nil 60 ek30x20).isSome = true := by kernel_rfl

theorem ek25x21_runs : (kent (AP.of Try.prog) eqsK 1000000000 slowK .nil 60 ek25x21).isSome = true := by kernel_rfl

theorem ek26x22_runs : (kent (AP.of Try.prog) eqsK 1000000000 slowK .nil 60 ek26x22).isSome = true := by kernel_rfl

theorem ek26x23_runs : (kent (AP.of Try.prog) eqsK 1000000000 slowK .nil 60 ek26x23).isSome = true := by kernel_rfl

end Go.Am
