/-
  No cell of these rows narrows 'for every input' (looked for: loops, veiled, ifaces, maps, wideKeys, modest, calm, conditions, laid).
  DERIVED. THE GIVEN ROWS OF THIS SEAT. 9 by the template 'for every input the law returns true; each argument reads behind the call as it read before'; 0 by the template 'total and deterministic' (their statements: YtkabfhoicdeehaaGreatTotals.lean).
  GIVEN WITH THE SEED: the statements are not yours to turn. If you find one false, say at which input.
  Laid BY PROGRAM, IN A SANDBOX (cutbox-rows.mjs): the forced cells as the released guide's own fill.sh prints them over the translation b313b2efa18d48eb… (all of the seat's roots in one cut). By AI agents, Wed Nov 11 2026. No macro, syntax, notation, axiom, sorry.
-/
import Derived.Test.YtkabfhoicdeehaaGreatChecked
import GoSem.Claim
import GoSem.ClaimJoined
import GoSem.ClaimMapViews
import Derived.JoinedTies
import Derived.KernelRfl
namespace Go.Proofs.YtkabfhoicdeehaaGreat
/- THE CELL 'sum', in the pinned program and in every row, IS THE sha256 OF THE DUMP (.gsa) THAT YtkabfhoicdeehaaGreatProg.lean LOADS. Nothing in Lean hashes anything: it is a label: what it is worth is what the hold of that sum in a sandbox is worth. -/
noncomputable def Tryz.pinned : Pinned := { name := "ytkabfhoicdeehaagreat", sum := "b313b2efa18d48eb4c3418587ae859920d0c2abd99369f259d06a0dd11aa6a32", checked := Tryz.checked }
namespace Rows
def none {H : Type} : Left H := { results := [], args := [] }

/-- 'lapworkslaw05.SpillMerges': WHATEVER THE INPUT: true; the input reads as it did. -/
def spillMergesSpec : ChangeSpec := { name := "spillMerges", fn := fun _ => fun
  | [d1, d2] => { results := [.lit (.bool true)], args := [d1, d2] }
  | _ => none }
def spillMergesRow : OpenClaim := { program := "ytkabfhoicdeehaagreat", sum := "b313b2efa18d48eb4c3418587ae859920d0c2abd99369f259d06a0dd11aa6a32", func := "lapworks/lapworkslaw05.SpillMerges", spec := "spillMerges", unfollowed := true, recurses := true, apart := false }
def SpillMergesSaid : Prop := spillMergesRow.holds Tryz.pinned (OpenSpec.ofChange spillMergesSpec)

/-- ITS FALSE NEIGHBOUR: 'it returns false'. Refute it at one input. -/
def spillMergesWrong : ChangeSpec := { name := "spillMerges", fn := fun _ => fun
  | [d1, d2] => { results := [.lit (.bool false)], args := [d1, d2] }
  | _ => none }
def SpillMergesWrongFalsely : Prop := spillMergesRow.holds Tryz.pinned (OpenSpec.ofChange spillMergesWrong)

/-- 'lapworkslaw05.SpillTells': WHATEVER THE INPUT: true; the input reads as it did. -/
def spillTellsSpec : ChangeSpec := { name := "spillTells", fn := fun _ => fun
  | [d1, d2, d3] => { results := [.lit (.bool true)], args := [d1, d2, d3] }
  | _ => none }
def spillTellsRow : OpenClaim := { program := "ytkabfhoicdeehaagreat", sum := "b313b2efa18d48eb4c3418587ae859920d0c2abd99369f259d06a0dd11aa6a32", func := "lapworks/lapworkslaw05.SpillTells", spec := "spillTells", unfollowed := true, recurses := true, apart := false }
def SpillTellsSaid : Prop := spillTellsRow.holds Tryz.pinned (OpenSpec.ofChange spillTellsSpec)

/-- ITS FALSE NEIGHBOUR: 'it returns false'. Refute it at one input. -/
def spillTellsWrong : ChangeSpec := { name := "spillTells", fn := fun _ => fun
  | [d1, d2, d3] => { results := [.lit (.bool false)], args := [d1, d2, d3] }
  | _ => none }
def SpillTellsWrongFalsely : Prop := spillTellsRow.holds Tryz.pinned (OpenSpec.ofChange spillTellsWrong)

/-- 'lapworkslaw05.SpillNames': WHATEVER THE INPUT: true; the input reads as it did. -/
def spillNamesSpec : ChangeSpec := { name := "spillNames", fn := fun _ => fun
  | [] => { results := [.lit (.bool true)], args := [] }
  | _ => none }
def spillNamesRow : OpenClaim := { program := "ytkabfhoicdeehaagreat", sum := "b313b2efa18d48eb4c3418587ae859920d0c2abd99369f259d06a0dd11aa6a32", func := "lapworks/lapworkslaw05.SpillNames", spec := "spillNames", unfollowed := true, recurses := true, apart := false }
def SpillNamesSaid : Prop := spillNamesRow.holds Tryz.pinned (OpenSpec.ofChange spillNamesSpec)

/-- ITS FALSE NEIGHBOUR: 'it returns false'. Refute it at one input. -/
def spillNamesWrong : ChangeSpec := { name := "spillNames", fn := fun _ => fun
  | [] => { results := [.lit (.bool false)], args := [] }
  | _ => none }
def SpillNamesWrongFalsely : Prop := spillNamesRow.holds Tryz.pinned (OpenSpec.ofChange spillNamesWrong)

/-- 'lapworkslaw05.SpillOrder': WHATEVER THE INPUT: true; the input reads as it did. -/
def spillOrderSpec : ChangeSpec := { name := "spillOrder", fn := fun _ => fun
  | [d1, d2, d3, d4] => { results := [.lit (.bool true)], args := [d1, d2, d3, d4] }
  | _ => none }
def spillOrderRow : OpenClaim := { program := "ytkabfhoicdeehaagreat", sum := "b313b2efa18d48eb4c3418587ae859920d0c2abd99369f259d06a0dd11aa6a32", func := "lapworks/lapworkslaw05.SpillOrder", spec := "spillOrder", unfollowed := true, recurses := true, apart := false }
def SpillOrderSaid : Prop := spillOrderRow.holds Tryz.pinned (OpenSpec.ofChange spillOrderSpec)

/-- ITS FALSE NEIGHBOUR: 'it returns false'. Refute it at one input. -/
def spillOrderWrong : ChangeSpec := { name := "spillOrder", fn := fun _ => fun
  | [d1, d2, d3, d4] => { results := [.lit (.bool false)], args := [d1, d2, d3, d4] }
  | _ => none }
def SpillOrderWrongFalsely : Prop := spillOrderRow.holds Tryz.pinned (OpenSpec.ofChange spillOrderWrong)

/-- 'lapworkslaw05.SpillTrue': WHATEVER THE INPUT: true; the input reads as it did. -/
def spillTrueSpec : ChangeSpec := { name := "spillTrue", fn := fun _ => fun
  | [d1, d2] => { results := [.lit (.bool true)], args := [d1, d2] }
  | _ => none }
def spillTrueRow : OpenClaim := { program := "ytkabfhoicdeehaagreat", sum := "b313b2efa18d48eb4c3418587ae859920d0c2abd99369f259d06a0dd11aa6a32", func := "lapworks/lapworkslaw05.SpillTrue", spec := "spillTrue", unfollowed := true, recurses := true, apart := false }
def SpillTrueSaid : Prop := spillTrueRow.holds Tryz.pinned (OpenSpec.ofChange spillTrueSpec)

/-- ITS FALSE NEIGHBOUR: 'it returns false'. Refute it at one input. -/
def spillTrueWrong : ChangeSpec := { name := "spillTrue", fn := fun _ => fun
  | [d1, d2] => { results := [.lit (.bool false)], args := [d1, d2] }
  | _ => none }
def SpillTrueWrongFalsely : Prop := spillTrueRow.holds Tryz.pinned (OpenSpec.ofChange spillTrueWrong)

/-- 'lapworkslaw05.SpillEnds': WHATEVER THE INPUT: true; the input reads as it did. -/
def spillEndsSpec : ChangeSpec := { name := "spillEnds", fn := fun _ => fun
  | [d1, d2, d3] => { results := [.lit (.bool true)], args := [d1, d2, d3] }
  | _ => none }
def spillEndsRow : OpenClaim := { program := "ytkabfhoicdeehaagreat", sum := "b313b2efa18d48eb4c3418587ae859920d0c2abd99369f259d06a0dd11aa6a32", func := "lapworks/lapworkslaw05.SpillEnds", spec := "spillEnds", unfollowed := true, recurses := true, apart := false }
def SpillEndsSaid : Prop := spillEndsRow.holds Tryz.pinned (OpenSpec.ofChange spillEndsSpec)

/-- ITS FALSE NEIGHBOUR: 'it returns false'. Refute it at one input. -/
def spillEndsWrong : ChangeSpec := { name := "spillEnds", fn := fun _ => fun
  | [d1, d2, d3] => { results := [.lit (.bool false)], args := [d1, d2, d3] }
  | _ => none }
def SpillEndsWrongFalsely : Prop := spillEndsRow.holds Tryz.pinned (OpenSpec.ofChange spillEndsWrong)

/-- 'lapworkslaw05.SpillAsk': WHATEVER THE INPUT: true; the input reads as it did. -/
def spillAskSpec : ChangeSpec := { name := "spillAsk", fn := fun _ => fun
  | [d1, d2, d3] => { results := [.lit (.bool true)], args := [d1, d2, d3] }
  | _ => none }
def spillAskRow : OpenClaim := { program := "ytkabfhoicdeehaagreat", sum := "b313b2efa18d48eb4c3418587ae859920d0c2abd99369f259d06a0dd11aa6a32", func := "lapworks/lapworkslaw05.SpillAsk", spec := "spillAsk", unfollowed := true, recurses := true, apart := false }
def SpillAskSaid : Prop := spillAskRow.holds Tryz.pinned (OpenSpec.ofChange spillAskSpec)

/-- ITS FALSE NEIGHBOUR: 'it returns false'. Refute it at one input. -/
def spillAskWrong : ChangeSpec := { name := "spillAsk", fn := fun _ => fun
  | [d1, d2, d3] => { results := [.lit (.bool false)], args := [d1, d2, d3] }
  | _ => none }
def SpillAskWrongFalsely : Prop := spillAskRow.holds Tryz.pinned (OpenSpec.ofChange spillAskWrong)

/-- 'lapworkslaw05.SpillMore': WHATEVER THE INPUT: true; the input reads as it did. -/
def spillMoreSpec : ChangeSpec := { name := "spillMore", fn := fun _ => fun
  | [d1, d2, d3, d4] => { results := [.lit (.bool true)], args := [d1, d2, d3, d4] }
  | _ => none }
def spillMoreRow : OpenClaim := { program := "ytkabfhoicdeehaagreat", sum := "b313b2efa18d48eb4c3418587ae859920d0c2abd99369f259d06a0dd11aa6a32", func := "lapworks/lapworkslaw05.SpillMore", spec := "spillMore", unfollowed := true, recurses := true, apart := false }
def SpillMoreSaid : Prop := spillMoreRow.holds Tryz.pinned (OpenSpec.ofChange spillMoreSpec)

/-- ITS FALSE NEIGHBOUR: 'it returns false'. Refute it at one input. -/
def spillMoreWrong : ChangeSpec := { name := "spillMore", fn := fun _ => fun
  | [d1, d2, d3, d4] => { results := [.lit (.bool false)], args := [d1, d2, d3, d4] }
  | _ => none }
def SpillMoreWrongFalsely : Prop := spillMoreRow.holds Tryz.pinned (OpenSpec.ofChange spillMoreWrong)

/-- 'lapworkslaw05.SpillTurned': WHATEVER THE INPUT: true; the input reads as it did. -/
def spillTurnedSpec : ChangeSpec := { name := "spillTurned", fn := fun _ => fun
  | [d1, d2] => { results := [.lit (.bool true)], args := [d1, d2] }
  | _ => none }
def spillTurnedRow : OpenClaim := { program := "ytkabfhoicdeehaagreat", sum := "b313b2efa18d48eb4c3418587ae859920d0c2abd99369f259d06a0dd11aa6a32", func := "lapworks/lapworkslaw05.SpillTurned", spec := "spillTurned", unfollowed := true, recurses := true, apart := false }
def SpillTurnedSaid : Prop := spillTurnedRow.holds Tryz.pinned (OpenSpec.ofChange spillTurnedSpec)

/-- ITS FALSE NEIGHBOUR: 'it returns false'. Refute it at one input. -/
def spillTurnedWrong : ChangeSpec := { name := "spillTurned", fn := fun _ => fun
  | [d1, d2] => { results := [.lit (.bool false)], args := [d1, d2] }
  | _ => none }
def SpillTurnedWrongFalsely : Prop := spillTurnedRow.holds Tryz.pinned (OpenSpec.ofChange spillTurnedWrong)

/- THE SECOND FORM. 'bulk': how many values and letters a reading holds, each counted each time it is reached (what is shared counts as often as it is met; a slice's spare places count too). A statement '..UptoSaid' is the law's where the arguments, and the package variables that the reading takes, are together of bulk at most 1048576: NARROWER than '..Said'. Prove '..Said' where nothing that the law and all that it calls make is longer than what came in: it says more and counts as full. Else prove '..UptoSaid'. A law counts once. -/
mutual
def uptoBulk {H : Type} : DataW H → Nat
  | .lit (.string bytes) => bytes.length + 1
  | .lit _ => 1
  | .nil => 1
  | .ptr d => uptoBulk d + 1
  | .slice elems spare => uptoBulkAll elems + uptoBulkAll spare + 1
  | .agg parts => uptoBulkAll parts + 1
  | .iface _ d => uptoBulk d + 1
  | .map entries => uptoBulkEntries entries + 1
  | .held _ => 1
def uptoBulkAll {H : Type} : List (DataW H) → Nat
  | [] => 0
  | d :: r => uptoBulk d + uptoBulkAll r
def uptoBulkEntries {H : Type} : List (Lit × DataW H) → Nat
  | [] => 0
  | x :: r => uptoBulkEntry x + uptoBulkEntries r
def uptoBulkEntry {H : Type} : Lit × DataW H → Nat
  | (.string bytes, d) => bytes.length + uptoBulk d + 1
  | (_, d) => uptoBulk d + 1
 end
def uptoSmall : (H : Type) → List (DataW H) → Bool := fun _ ds => decide (uptoBulkAll ds ≤ 1048576)
def OpenSpec.upto (s : _root_.Go.ChangeSpec) : _root_.Go.OpenSpec := { _root_.Go.OpenSpec.ofChange s with cond := some uptoSmall }

/-- 'lapworkslaw05.SpillMerges', WHERE WHAT IT READS IS OF BULK AT MOST 1048576: true; the input reads as it did. -/
def spillMergesUptoRow : OpenClaim := { program := "ytkabfhoicdeehaagreat", sum := "b313b2efa18d48eb4c3418587ae859920d0c2abd99369f259d06a0dd11aa6a32", func := "lapworks/lapworkslaw05.SpillMerges", spec := "spillMerges", unfollowed := true, recurses := true, apart := false, narrowed := true }
def SpillMergesUptoSaid : Prop := spillMergesUptoRow.holds Tryz.pinned (OpenSpec.upto spillMergesSpec)

/-- 'lapworkslaw05.SpillTells', WHERE WHAT IT READS IS OF BULK AT MOST 1048576: true; the input reads as it did. -/
def spillTellsUptoRow : OpenClaim := { program := "ytkabfhoicdeehaagreat", sum := "b313b2efa18d48eb4c3418587ae859920d0c2abd99369f259d06a0dd11aa6a32", func := "lapworks/lapworkslaw05.SpillTells", spec := "spillTells", unfollowed := true, recurses := true, apart := false, narrowed := true }
def SpillTellsUptoSaid : Prop := spillTellsUptoRow.holds Tryz.pinned (OpenSpec.upto spillTellsSpec)

/-- 'lapworkslaw05.SpillNames', WHERE WHAT IT READS IS OF BULK AT MOST 1048576: true; the input reads as it did. -/
def spillNamesUptoRow : OpenClaim := { program := "ytkabfhoicdeehaagreat", sum := "b313b2efa18d48eb4c3418587ae859920d0c2abd99369f259d06a0dd11aa6a32", func := "lapworks/lapworkslaw05.SpillNames", spec := "spillNames", unfollowed := true, recurses := true, apart := false, narrowed := true }
def SpillNamesUptoSaid : Prop := spillNamesUptoRow.holds Tryz.pinned (OpenSpec.upto spillNamesSpec)

/-- 'lapworkslaw05.SpillOrder', WHERE WHAT IT READS IS OF BULK AT MOST 1048576: true; the input reads as it did. -/
def spillOrderUptoRow : OpenClaim := { program := "ytkabfhoicdeehaagreat", sum := "b313b2efa18d48eb4c3418587ae859920d0c2abd99369f259d06a0dd11aa6a32", func := "lapworks/lapworkslaw05.SpillOrder", spec := "spillOrder", unfollowed := true, recurses := true, apart := false, narrowed := true }
def SpillOrderUptoSaid : Prop := spillOrderUptoRow.holds Tryz.pinned (OpenSpec.upto spillOrderSpec)

/-- 'lapworkslaw05.SpillTrue', WHERE WHAT IT READS IS OF BULK AT MOST 1048576: true; the input reads as it did. -/
def spillTrueUptoRow : OpenClaim := { program := "ytkabfhoicdeehaagreat", sum := "b313b2efa18d48eb4c3418587ae859920d0c2abd99369f259d06a0dd11aa6a32", func := "lapworks/lapworkslaw05.SpillTrue", spec := "spillTrue", unfollowed := true, recurses := true, apart := false, narrowed := true }
def SpillTrueUptoSaid : Prop := spillTrueUptoRow.holds Tryz.pinned (OpenSpec.upto spillTrueSpec)

/-- 'lapworkslaw05.SpillEnds', WHERE WHAT IT READS IS OF BULK AT MOST 1048576: true; the input reads as it did. -/
def spillEndsUptoRow : OpenClaim := { program := "ytkabfhoicdeehaagreat", sum := "b313b2efa18d48eb4c3418587ae859920d0c2abd99369f259d06a0dd11aa6a32", func := "lapworks/lapworkslaw05.SpillEnds", spec := "spillEnds", unfollowed := true, recurses := true, apart := false, narrowed := true }
def SpillEndsUptoSaid : Prop := spillEndsUptoRow.holds Tryz.pinned (OpenSpec.upto spillEndsSpec)

/-- 'lapworkslaw05.SpillAsk', WHERE WHAT IT READS IS OF BULK AT MOST 1048576: true; the input reads as it did. -/
def spillAskUptoRow : OpenClaim := { program := "ytkabfhoicdeehaagreat", sum := "b313b2efa18d48eb4c3418587ae859920d0c2abd99369f259d06a0dd11aa6a32", func := "lapworks/lapworkslaw05.SpillAsk", spec := "spillAsk", unfollowed := true, recurses := true, apart := false, narrowed := true }
def SpillAskUptoSaid : Prop := spillAskUptoRow.holds Tryz.pinned (OpenSpec.upto spillAskSpec)

/-- 'lapworkslaw05.SpillMore', WHERE WHAT IT READS IS OF BULK AT MOST 1048576: true; the input reads as it did. -/
def spillMoreUptoRow : OpenClaim := { program := "ytkabfhoicdeehaagreat", sum := "b313b2efa18d48eb4c3418587ae859920d0c2abd99369f259d06a0dd11aa6a32", func := "lapworks/lapworkslaw05.SpillMore", spec := "spillMore", unfollowed := true, recurses := true, apart := false, narrowed := true }
def SpillMoreUptoSaid : Prop := spillMoreUptoRow.holds Tryz.pinned (OpenSpec.upto spillMoreSpec)

/-- 'lapworkslaw05.SpillTurned', WHERE WHAT IT READS IS OF BULK AT MOST 1048576: true; the input reads as it did. -/
def spillTurnedUptoRow : OpenClaim := { program := "ytkabfhoicdeehaagreat", sum := "b313b2efa18d48eb4c3418587ae859920d0c2abd99369f259d06a0dd11aa6a32", func := "lapworks/lapworkslaw05.SpillTurned", spec := "spillTurned", unfollowed := true, recurses := true, apart := false, narrowed := true }
def SpillTurnedUptoSaid : Prop := spillTurnedUptoRow.holds Tryz.pinned (OpenSpec.upto spillTurnedSpec)

end Rows
end Go.Proofs.YtkabfhoicdeehaaGreat
