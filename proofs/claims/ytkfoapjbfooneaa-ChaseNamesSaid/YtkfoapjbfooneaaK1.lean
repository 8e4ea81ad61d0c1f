/- What the run of ChaseNames needs: types that may be compared, functions that are run step by step, and calls that are run once. -/
import Derived.Test.YtkfoapjbfooneaaAm42
import Derived.Test.YtkfoapjbfooneaaChecked
namespace Go.Am
open Go.Proofs

def setAllK : List Nat → T Unit → T Unit
  | [], t => t
  | n :: l, t => setAllK l (t.set n ())

theorem setAllK_get : ∀ (l : List Nat) (t : T Unit) (x : Nat), (setAllK l t).get x = some () → x ∈ l ∨ t.get x = some ()
  | [], _, _, h => .inr h
  | n :: l, t, x, h => by
    rcases setAllK_get l _ x h with h1 | h1
    · exact .inl (List.mem_cons_of_mem _ h1)
    · rw [T.get_set] at h1
      split at h1
      · next e => subst e; exact .inl (List.mem_cons_self ..)
      · exact .inr h1

def eqTypesK : List Nat := [7, 8, 26, 27, 37, 38, 45, 48, 49, 81, 82, 92, 93, 94, 95, 100, 101, 104, 105, 107, 108, 133, 134, 146, 147, 155, 156, 157, 158, 159, 160, 161, 175, 176, 177, 178, 186, 187, 192, 193, 195, 196, 231]

def eqsK : Eqs := { eqs := setAllK eqTypesK .nil }

theorem eqsK_ok : eqsK.Ok Try.prog := by
  have h : eqTypesK.all (fun t => !(Try.prog.eqGuardType Try.prog.depth t) && !(Try.prog.stoodInHeld t)) = true := by kernel_rfl
  refine ⟨fun t ht => ?_⟩
  rcases setAllK_get _ _ _ ht with h1 | h1
  · have := List.all_eq_true.1 h t h1
    simp only [Bool.and_eq_true, Bool.not_eq_true'] at this
    exact this
  · rw [T.get_nil] at h1; cases h1

theorem progK_ok : (AP.of Try.prog).Ok Try.prog := AP.of_ok _ (by kernel_rfl)

theorem progK_follows : Try.prog.follows .mixedOrders = true := by kernel_rfl

def slowK : T Unit := setAllK [153, 140, 134, 133, 116, 103, 99, 97, 96, 90, 75, 64, 56, 49, 46, 40, 111, 81, 104, 77] .nil

def isTrueK : KR → Bool
  | some (.bool true, _) => true
  | _ => false

theorem isTrueK_ok {r : KR} (h : isTrueK r = true) : ∃ H, r = some (.bool true, H) := by
  unfold isTrueK at h
  split at h
  · exact ⟨_, rfl⟩
  · cases h

def hasBodyK (A : AP) (f : FuncId) : Bool :=
  match A.funcs.get f with
  | some fn => fn.body.isSome
  | none => false

theorem hasBodyK_ok {A : AP} {f : FuncId} (h : hasBodyK A f = true) : ∃ fn c, A.funcs.get f = some fn ∧ fn.body = some c := by
  unfold hasBodyK at h
  split at h
  · next fn hfn =>
    obtain ⟨c, hc⟩ := Option.isSome_iff_exists.1 h
    exact ⟨fn, c, hfn, hc⟩
  · cases h

theorem TabOk.setL {A : AP} {P : Program} {tb : T (List Ent)} (ht : TabOk A P tb) {f : FuncId} {es : List Ent} (hb : hasBodyK A f = true) (h : ∀ e, e ∈ es → e.f = f ∧ EntOk A P e) : TabOk A P (tb.set f es) := by
  obtain ⟨fn, c, hfn, hc⟩ := hasBodyK_ok hb
  exact ht.set hfn hc h

theorem ents_nil {A : AP} {P : Program} {f : FuncId} : ∀ e, e ∈ ([] : List Ent) → e.f = f ∧ EntOk A P e := fun _ h => by cases h

theorem ents_cons {A : AP} {P : Program} {f : FuncId} {e : Ent} {es : List Ent} (h1 : e.f = f) (h2 : EntOk A P e) (h3 : ∀ e, e ∈ es → e.f = f ∧ EntOk A P e) : ∀ x, x ∈ e :: es → x.f = f ∧ EntOk A P x := by
  intro x hx
  rcases List.mem_cons.1 hx with hx | hx
  · subst hx; exact ⟨h1, h2⟩
  · exact h3 x hx

def ek23x1 : Ent := { f := 23, args := [.agg [.int .i64 (1), .int .i64 (2), .sl 0 0 4 (.ex 4)], .int .i64 (0)], bs := [.cells 30 [.sl 1 0 2 (.ex 2), .sl 2 0 1 (.ex 1), .sl 3 0 2 (.ex 2), .sl 4 0 1 (.ex 1)], .cells 3 [.int .i64 (50), .int .i64 (51)], .cells 3 [.int .i64 (52)], .cells 3 [.int .i64 (53), .int .i64 (54)], .cells 3 [.int .i64 (51)]], v := .tup [.agg [.int .i64 (50), .int .i64 (51)], .int .i64 (0)], next := 48, new := [] }

def ek38x2 : Ent := { f := 38, args := [.agg [.int .i64 (1), .int .i64 (2), .sl 0 0 4 (.ex 4)]], bs := [.cells 30 [.sl 1 0 2 (.ex 2), .sl 2 0 1 (.ex 1), .sl 3 0 2 (.ex 2), .sl 4 0 1 (.ex 1)], .cells 3 [.int .i64 (50), .int .i64 (51)], .cells 3 [.int .i64 (52)], .cells 3 [.int .i64 (53), .int .i64 (54)], .cells 3 [.int .i64 (51)]], v := .tup [.int .i64 (3), .int .i64 (0)], next := 230, new := [] }

def ek25x3 : Ent := { f := 25, args := [.agg [.int .i64 (1), .int .i64 (2), .sl 0 0 4 (.ex 4)], .int .i64 (2)], bs := [.cells 30 [.sl 1 0 2 (.ex 2), .sl 2 0 1 (.ex 1), .sl 3 0 2 (.ex 2), .sl 4 0 1 (.ex 1)], .cells 3 [.int .i64 (50), .int .i64 (51)], .cells 3 [.int .i64 (52)], .cells 3 [.int .i64 (53), .int .i64 (54)], .cells 3 [.int .i64 (51)]], v := .tup [.agg [.int .i64 (3), .int .i64 (3)], .int .i64 (0)], next := 78, new := [] }

def ek26x4 : Ent := { f := 26, args := [.agg [.int .i64 (1), .int .i64 (2), .sl 0 0 4 (.ex 4)], .int .i64 (2)], bs := [.cells 30 [.sl 1 0 2 (.ex 2), .sl 2 0 1 (.ex 1), .sl 3 0 2 (.ex 2), .sl 4 0 1 (.ex 1)], .cells 3 [.int .i64 (50), .int .i64 (51)], .cells 3 [.int .i64 (52)], .cells 3 [.int .i64 (53), .int .i64 (54)], .cells 3 [.int .i64 (51)]], v := .tup [.int .i64 (0), .int .i64 (0)], next := 252, new := [] }

def ek25x5 : Ent := { f := 25, args := [.agg [.int .i64 (1), .int .i64 (2), .sl 0 0 4 (.ex 4)], .int .i64 (1)], bs := [.cells 30 [.sl 1 0 2 (.ex 2), .sl 2 0 1 (.ex 1), .sl 3 0 2 (.ex 2), .sl 4 0 1 (.ex 1)], .cells 3 [.int .i64 (50), .int .i64 (51)], .cells 3 [.int .i64 (52)], .cells 3 [.int .i64 (53), .int .i64 (54)], .cells 3 [.int .i64 (51)]], v := .tup [.agg [.int .i64 (1), .int .i64 (2)], .int .i64 (0)], next := 78, new := [] }

def ek23x6 : Ent := { f := 23, args := [.agg [.int .i64 (1), .int .i64 (2), .sl 0 0 4 (.ex 4)], .int .i64 (3)], bs := [.cells 30 [.sl 1 0 2 (.ex 2), .sl 2 0 1 (.ex 1), .sl 3 0 2 (.ex 2), .sl 4 0 1 (.ex 1)], .cells 3 [.int .i64 (50), .int .i64 (51)], .cells 3 [.int .i64 (52)], .cells 3 [.int .i64 (53), .int .i64 (54)], .cells 3 [.int .i64 (51)]], v := .tup [.agg [.int .i64 (50), .int .i64 (52)], .int .i64 (0)], next := 48, new := [] }

def ek28x7 : Ent := { f := 28, args := [.agg [.int .i64 (1), .int .i64 (2), .sl 0 0 4 (.ex 4)], .int .i64 (2)], bs := [.cells 30 [.sl 1 0 2 (.ex 2), .sl 2 0 1 (.ex 1), .sl 3 0 2 (.ex 2), .sl 4 0 1 (.ex 1)], .cells 3 [.int .i64 (50), .int .i64 (51)], .cells 3 [.int .i64 (52)], .cells 3 [.int .i64 (53), .int .i64 (54)], .cells 3 [.int .i64 (51)]], v := .tup [.int .i64 (0), .int .i64 (0)], next := 20, new := [] }

def ek23x8 : Ent := { f := 23, args := [.agg [.int .i64 (1), .int .i64 (2), .sl 0 0 4 (.ex 4)], .int .i64 (2)], bs := [.cells 30 [.sl 1 0 2 (.ex 2), .sl 2 0 1 (.ex 1), .sl 3 0 2 (.ex 2), .sl 4 0 1 (.ex 1)], .cells 3 [.int .i64 (50), .int .i64 (51)], .cells 3 [.int .i64 (52)], .cells 3 [.int .i64 (53), .int .i64 (54)], .cells 3 [.int .i64 (51)]], v := .tup [.agg [.int .i64 (53), .int .i64 (54)], .int .i64 (0)], next := 48, new := [] }

def ek29x9 : Ent := { f := 29, args := [.agg [.int .i64 (1), .int .i64 (2), .sl 0 0 4 (.ex 4)], .int .i64 (1), .int .i64 (3)], bs := [.cells 30 [.sl 1 0 2 (.ex 2), .sl 2 0 1 (.ex 1), .sl 3 0 2 (.ex 2), .sl 4 0 1 (.ex 1)], .cells 3 [.int .i64 (50), .int .i64 (51)], .cells 3 [.int .i64 (52)], .cells 3 [.int .i64 (53), .int .i64 (54)], .cells 3 [.int .i64 (51)]], v := .tup [.int .i64 (1), .int .i64 (0)], next := 257, new := [] }

def ek25x10 : Ent := { f := 25, args := [.agg [.int .i64 (1), .int .i64 (2), .sl 0 0 4 (.ex 4)], .int .i64 (3)], bs := [.cells 30 [.sl 1 0 2 (.ex 2), .sl 2 0 1 (.ex 1), .sl 3 0 2 (.ex 2), .sl 4 0 1 (.ex 1)], .cells 3 [.int .i64 (50), .int .i64 (51)], .cells 3 [.int .i64 (52)], .cells 3 [.int .i64 (53), .int .i64 (54)], .cells 3 [.int .i64 (51)]], v := .tup [.agg [.int .i64 (0), .int .i64 (2)], .int .i64 (0)], next := 78, new := [] }

def ek28x11 : Ent := { f := 28, args := [.agg [.int .i64 (1), .int .i64 (1), .sl 0 0 1 (.ex 1)], .int .i64 (0)], bs := [.cells 30 [.sl 1 0 2 (.ex 2)], .cells 3 [.int .i64 (49), .int .i64 (53)]], v := .tup [.int .i64 (1), .int .i64 (0)], next := 22, new := [] }

def ek85x12 : Ent := { f := 85, args := [.agg [.int .i64 (1), .int .i64 (2), .sl 0 0 4 (.ex 4)]], bs := [.cells 30 [.sl 1 0 2 (.ex 2), .sl 2 0 1 (.ex 1), .sl 3 0 2 (.ex 2), .sl 4 0 1 (.ex 1)], .cells 3 [.int .i64 (50), .int .i64 (51)], .cells 3 [.int .i64 (52)], .cells 3 [.int .i64 (53), .int .i64 (54)], .cells 3 [.int .i64 (51)]], v := .tup [.sl 108 0 4 (.un 1 4), .int .i64 (0)], next := 109, new := [(108, .cells 3 [.int .i64 (0), .int .i64 (1), .int .i64 (3), .int .i64 (2)])] }

def ek30x13 : Ent := { f := 30, args := [.agg [.int .i64 (1), .int .i64 (1), .sl 0 0 2 (.ex 2)]], bs := [.cells 30 [.sl 1 0 1 (.ex 1), .sl 2 0 2 (.ex 2)], .cells 3 [.int .i64 (52)], .cells 3 [.int .i64 (53), .int .i64 (51)]], v := .tup [.int .i64 (0), .int .i64 (0)], next := 166, new := [] }

def ek26x14 : Ent := { f := 26, args := [.agg [.int .i64 (1), .int .i64 (2), .sl 0 0 4 (.ex 4)], .int .i64 (0)], bs := [.cells 30 [.sl 1 0 2 (.ex 2), .sl 2 0 1 (.ex 1), .sl 3 0 2 (.ex 2), .sl 4 0 1 (.ex 1)], .cells 3 [.int .i64 (50), .int .i64 (51)], .cells 3 [.int .i64 (52)], .cells 3 [.int .i64 (53), .int .i64 (54)], .cells 3 [.int .i64 (51)]], v := .tup [.int .i64 (2), .int .i64 (0)], next := 252, new := [] }

def ek23x15 : Ent := { f := 23, args := [.agg [.int .i64 (1), .int .i64 (2), .sl 0 0 4 (.ex 4)], .int .i64 (1)], bs := [.cells 30 [.sl 1 0 2 (.ex 2), .sl 2 0 1 (.ex 1), .sl 3 0 2 (.ex 2), .sl 4 0 1 (.ex 1)], .cells 3 [.int .i64 (50), .int .i64 (51)], .cells 3 [.int .i64 (52)], .cells 3 [.int .i64 (53), .int .i64 (54)], .cells 3 [.int .i64 (51)]], v := .tup [.agg [.int .i64 (51), .int .i64 (53)], .int .i64 (0)], next := 48, new := [] }

def ek23x16 : Ent := { f := 23, args := [.agg [.int .i64 (1), .int .i64 (1), .sl 0 0 1 (.ex 1)], .int .i64 (0)], bs := [.cells 30 [.sl 1 0 2 (.ex 2)], .cells 3 [.int .i64 (49), .int .i64 (53)]], v := .tup [.agg [.int .i64 (0), .int .i64 (0)], .int .i64 (10)], next := 25, new := [] }

def ek29x17 : Ent := { f := 29, args := [.agg [.int .i64 (1), .int .i64 (2), .sl 0 0 4 (.ex 4)], .int .i64 (0), .int .i64 (2)], bs := [.cells 30 [.sl 1 0 2 (.ex 2), .sl 2 0 1 (.ex 1), .sl 3 0 2 (.ex 2), .sl 4 0 1 (.ex 1)], .cells 3 [.int .i64 (50), .int .i64 (51)], .cells 3 [.int .i64 (52)], .cells 3 [.int .i64 (53), .int .i64 (54)], .cells 3 [.int .i64 (51)]], v := .tup [.int .i64 (1), .int .i64 (0)], next := 257, new := [] }

def ek29x18 : Ent := { f := 29, args := [.agg [.int .i64 (1), .int .i64 (2), .sl 0 0 4 (.ex 4)], .int .i64 (1), .int .i64 (2)], bs := [.cells 30 [.sl 1 0 2 (.ex 2), .sl 2 0 1 (.ex 1), .sl 3 0 2 (.ex 2), .sl 4 0 1 (.ex 1)], .cells 3 [.int .i64 (50), .int .i64 (51)], .cells 3 [.int .i64 (52)], .cells 3 [.int .i64 (53), .int .i64 (54)], .cells 3 [.int .i64 (51)]], v := .tup [.int .i64 (0), .int .i64 (0)], next := 257, new := [] }

def ek34x19 : Ent := { f := 34, args := [.agg [.int .i64 (1), .int .i64 (2), .sl 0 0 4 (.ex 4)]], bs := [.cells 30 [.sl 1 0 2 (.ex 2), .sl 2 0 1 (.ex 1), .sl 3 0 2 (.ex 2), .sl 4 0 1 (.ex 1)], .cells 3 [.int .i64 (50), .int .i64 (51)], .cells 3 [.int .i64 (52)], .cells 3 [.int .i64 (53), .int .i64 (54)], .cells 3 [.int .i64 (51)]], v := .tup [.agg [.int .i64 (50), .int .i64 (52)], .int .i64 (0)], next := 66, new := [] }

def ek30x20 : Ent := { f := 30, args := [.agg [.int .i64 (1), .int .i64 (2), .sl 0 0 4 (.ex 4)]], bs := [.cells 30 [.sl 1 0 2 (.ex 2), .sl 2 0 1 (.ex 1), .sl 3 0 2 (.ex 2), .sl 4 0 1 (.ex 1)], .cells 3 [.int .i64 (50), .int .i64 (51)], .cells 3 [.int .i64 (52)], .cells 3 [.int .i64 (53), .int .i64 (54)], .cells 3 [.int .i64 (51)]], v := .tup [.int .i64 (0), .int .i64 (4)], next := 1061, new := [] }

def ek25x21 : Ent := { f := 25, args := [.agg [.int .i64 (1), .int .i64 (2), .sl 0 0 4 (.ex 4)], .int .i64 (0)], bs := [.cells 30 [.sl 1 0 2 (.ex 2), .sl 2 0 1 (.ex 1), .sl 3 0 2 (.ex 2), .sl 4 0 1 (.ex 1)], .cells 3 [.int .i64 (50), .int .i64 (51)], .cells 3 [.int .i64 (52)], .cells 3 [.int .i64 (53), .int .i64 (54)], .cells 3 [.int .i64 (51)]], v := .tup [.agg [.int .i64 (0), .int .i64 (1)], .int .i64 (0)], next := 78, new := [] }

def ek26x22 : Ent := { f := 26, args := [.agg [.int .i64 (1), .int .i64 (2), .sl 0 0 4 (.ex 4)], .int .i64 (3)], bs := [.cells 30 [.sl 1 0 2 (.ex 2), .sl 2 0 1 (.ex 1), .sl 3 0 2 (.ex 2), .sl 4 0 1 (.ex 1)], .cells 3 [.int .i64 (50), .int .i64 (51)], .cells 3 [.int .i64 (52)], .cells 3 [.int .i64 (53), .int .i64 (54)], .cells 3 [.int .i64 (51)]], v := .tup [.int .i64 (1), .int .i64 (0)], next := 252, new := [] }

def ek26x23 : Ent := { f := 26, args := [.agg [.int .i64 (1), .int .i64 (2), .sl 0 0 4 (.ex 4)], .int .i64 (1)], bs := [.cells 30 [.sl 1 0 2 (.ex 2), .sl 2 0 1 (.ex 1), .sl 3 0 2 (.ex 2), .sl 4 0 1 (.ex 1)], .cells 3 [.int .i64 (50), .int .i64 (51)], .cells 3 [.int .i64 (52)], .cells 3 [.int .i64 (53), .int .i64 (54)], .cells 3 [.int .i64 (51)]], v := .tup [.int .i64 (1), .int .i64 (0)], next := 252, new := [] }

end Go.Am
