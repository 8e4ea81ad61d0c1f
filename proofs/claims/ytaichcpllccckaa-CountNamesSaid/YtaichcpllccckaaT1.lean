/- What the run of CountNames needs: types that may be compared, functions that are run step by step, and two calls that are run once. -/
import Derived.Test.YtaichcpllccckaaAm42
import Derived.Test.YtaichcpllccckaaChecked
namespace Go.Am
open Go.Proofs

def setAll : List Nat → T Unit → T Unit
  | [], t => t
  | n :: l, t => setAll l (t.set n ())

theorem setAll_get : ∀ (l : List Nat) (t : T Unit) (x : Nat), (setAll l t).get x = some () → x ∈ l ∨ t.get x = some ()
  | [], _, _, h => .inr h
  | n :: l, t, x, h => by
    rcases setAll_get l _ x h with h1 | h1
    · exact .inl (List.mem_cons_of_mem _ h1)
    · rw [T.get_set] at h1
      split at h1
      · next e => subst e; exact .inl (List.mem_cons_self ..)
      · exact .inr h1

def eqTypes : List Nat := [7, 8, 26, 27, 37, 38, 46, 47, 61, 62, 96, 97, 119, 120, 141, 142, 152, 153, 155, 156, 158, 159, 160, 161, 162, 163, 164, 167, 168, 186, 187, 188, 189, 197, 198, 203, 204, 206, 207, 220, 221, 225, 226]

def eqs1 : Eqs := { eqs := setAll eqTypes .nil }

theorem eqs1_ok : eqs1.Ok Try.prog := by
  have h : eqTypes.all (fun t => !(Try.prog.eqGuardType Try.prog.depth t) && !(Try.prog.stoodInHeld t)) = true := by kernel_rfl
  refine ⟨fun t ht => ?_⟩
  rcases setAll_get _ _ _ ht with h1 | h1
  · have := List.all_eq_true.1 h t h1
    simp only [Bool.and_eq_true, Bool.not_eq_true'] at this
    exact this
  · rw [T.get_nil] at h1; cases h1

theorem try_ok : (AP.of Try.prog).Ok Try.prog := AP.of_ok _ (by kernel_rfl)

theorem try_follows : Try.prog.follows .mixedOrders = true := by kernel_rfl

def slow1 : T Unit := setAll [180, 163, 162, 156, 152, 145, 134, 130, 128, 127, 121, 81, 73, 66, 63, 57, 78, 80] .nil

def e153n1 : Ent := { f := 153, args := [.agg [.int .i64 (2), .sl 0 0 2 (.ex 2), .sl 1 0 2 (.ex 2)]], bs := [.cells 3 [.int .i64 (0), .int .i64 (1)], .cells 3 [.int .i64 (1), .int .i64 (0)]], v := .sl 1414 0 6 (.un 1), next := 1416, new := [(1414, .cells 81 [.sl 523 0 2 (.ex 2), .sl 526 0 2 (.ex 2), .sl 894 0 3 (.ex 3), .sl 1323 0 2 (.ex 2), .sl 1373 0 3 (.ex 3), .sl 1326 0 2 (.ex 2)]), (523, .cells 3 [.int .i64 (0), .int .i64 (0)]), (526, .cells 3 [.int .i64 (0), .int .i64 (1)]), (894, .cells 3 [.int .i64 (0), .int .i64 (1), .int .i64 (0)]), (1323, .cells 3 [.int .i64 (1), .int .i64 (0)]), (1373, .cells 3 [.int .i64 (1), .int .i64 (0), .int .i64 (1)]), (1326, .cells 3 [.int .i64 (1), .int .i64 (1)])] }
def e153n2 : Ent := { f := 153, args := [.agg [.int .i64 (3), .sl 0 0 3 (.ex 3), .sl 1 0 3 (.ex 3)]], bs := [.cells 3 [.int .i64 (0), .int .i64 (1), .int .i64 (2)], .cells 3 [.int .i64 (0), .int .i64 (2), .int .i64 (2)]], v := .sl 4019 0 2 (.un 1), next := 4021, new := [(4019, .cells 81 [.sl 2062 0 3 (.ex 3), .sl 2065 0 3 (.ex 3)]), (2062, .cells 3 [.int .i64 (0), .int .i64 (1), .int .i64 (2)]), (2065, .cells 3 [.int .i64 (0), .int .i64 (2), .int .i64 (2)])] }

def hasBody (A : AP) (f : FuncId) : Bool :=
  match A.funcs.get f with
  | some fn => fn.body.isSome
  | none => false

theorem hasBody_ok {A : AP} {f : FuncId} (h : hasBody A f = true) : ∃ fn c, A.funcs.get f = some fn ∧ fn.body = some c := by
  unfold hasBody at h
  split at h
  · next fn hfn =>
    obtain ⟨c, hc⟩ := Option.isSome_iff_exists.1 h
    exact ⟨fn, c, hfn, hc⟩
  · cases h

def isTrue : KR → Bool
  | some (.bool true, _) => true
  | _ => false

theorem isTrue_ok {r : KR} (h : isTrue r = true) : ∃ H, r = some (.bool true, H) := by
  unfold isTrue at h
  split at h
  · exact ⟨_, rfl⟩
  · cases h

end Go.Am
