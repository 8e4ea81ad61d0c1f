/- Parts of the proof: T9, T10, K1, K2, K3, T11 -/
import Derived.Test.YtabejoodkhlnaaaGreatP15
import Derived.Test.YtabejoodkhlnaaaGreatP13
import Derived.Test.YtabejoodkhlnaaaGreatChecked
import Derived.Test.YtabejoodkhlnaaaGreatP14
set_option linter.unusedVariables false
set_option linter.unusedSimpArgs false
namespace Go.Pv
open Go.Proofs Go.Am
set_option maxRecDepth 10000
set_option linter.unusedVariables false
set_option linter.unusedSimpArgs false
def rstOf (h a0 b0 c0 d0 a1 b1 c1 d1 : Int) : Rst := ⟨h.toNat, a0.toNat, b0, c0, d0, a1.toNat, b1, c1, d1⟩
theorem rstOf_ok {h a0 b0 c0 d0 a1 b1 c1 d1 : Int} (hv : validR h a0 b0 c0 d0 a1 b1 c1 d1 = true) : (rstOf h a0 b0 c0 d0 a1 b1 c1 d1).ok ∧ (h = (h.toNat : Int) ∧ a0 = (a0.toNat : Int) ∧ a1 = (a1.toNat : Int)) ∧ h.toNat ≤ 16 := by
  simp only [validR, limOk, manyOk, Bool.and_eq_true, decide_eq_true_eq] at hv
  obtain ⟨⟨h1, h2⟩, ⟨⟨p1, p2⟩, ⟨p3, p4⟩, ⟨p5, p6⟩, p7, p8⟩, ⟨q1, q2⟩, ⟨q3, q4⟩, ⟨q5, q6⟩, q7, q8⟩ := hv
  have hp : 2 ^ h.toNat ≤ 65536 := pow16 (by omega)
  have hp2 : ((2 ^ h.toNat : Nat) : Int) ≤ 65536 := Int.ofNat_le.2 hp
  refine ⟨⟨by show h.toNat ≤ 16; omega, by show a0.toNat < 2 ^ 62; omega, by show a1.toNat < 2 ^ 62; omega, ⟨p3, p4⟩, ⟨p5, p6⟩, ⟨p7, p8⟩, ⟨q3, q4⟩, ⟨q5, q6⟩, q7, q8⟩, by omega, by omega⟩
end Go.Pv
namespace Go.Pv
open Go.Proofs Go.Am
set_option maxRecDepth 10000
set_option linter.unusedVariables false
set_option linter.unusedSimpArgs false
def hst (xs : List Int) (who : Int) : Nat → Int × Int × Int
  | 0 => (0, -1, 0)
  | k + 1 => if xs.getD k 0 = who then ((hst xs who k).1 + 1, (k : Int), (hst xs who k).2.2 + 1) else ((hst xs who k).1, (hst xs who k).2.1, 0)
end Go.Pv
namespace Go.Am
open Go.Proofs
def setAllK : List Nat → T Unit → T Unit
  | [], t => t
  | n :: l, t => setAllK l (t.set n ())
theorem setAllK_get : ∀ (l : List Nat) (t : T Unit) (x : Nat), (setAllK l t).get x = some () → x ∈ l ∨ t.get x = some ()
  | [], _, _, h => .inr h
  | n :: l, t, x, h => by
    rcases setAllK_get l _ x h with h1 | h1
    · exact .inl (List.mem_cons_of_mem _ h1)
    · rw [T.get_set] at h1
      split at h1
      · next e => subst e; exact .inl (List.mem_cons_self ..)
      · exact .inr h1
def eqTypesK : List Nat := [7, 8, 22, 23, 24, 25, 26, 40, 41, 59, 60, 64, 65, 66, 67, 73, 74, 77, 78, 89, 90, 96, 97, 105, 106, 114, 115, 118, 119, 132, 133, 145, 146, 147, 148, 149, 150, 160, 161, 184, 185, 188, 189, 191, 195, 196, 220, 221, 228, 229, 245, 246, 249, 250, 251, 255]
def eqsK : Eqs := { eqs := setAllK eqTypesK .nil }
theorem eqsK_ok : eqsK.Ok Tryz.prog := by
  have h : eqTypesK.all (fun t => !(Tryz.prog.eqGuardType Tryz.prog.depth t) && !(Tryz.prog.stoodInHeld t)) = true := by kernel_rfl
  refine ⟨fun t ht => ?_⟩
  rcases setAllK_get _ _ _ ht with h1 | h1
  · have := List.all_eq_true.1 h t h1
    simp only [Bool.and_eq_true, Bool.not_eq_true'] at this
    exact this
  · rw [T.get_nil] at h1; cases h1
theorem tryz_ok : (AP.of Tryz.prog).Ok Tryz.prog := AP.of_ok _ (by kernel_rfl)
theorem tryz_follows : Tryz.prog.follows .mixedOrders = true := by kernel_rfl
def slowK : T Unit := setAllK [193, 192, 190, 183, 182, 179, 176, 171, 155, 152, 143, 138, 132, 126, 115, 111, 103, 77, 59, 57, 52] .nil
def isTrueK : KR → Bool
  | some (.bool true, _) => true
  | _ => false
theorem isTrueK_ok {r : KR} (h : isTrueK r = true) : ∃ H, r = some (.bool true, H) := by
  unfold isTrueK at h
  split at h
  · exact ⟨_, rfl⟩
  · cases h
def hasBodyK (A : AP) (f : FuncId) : Bool :=
  match A.funcs.get f with
  | some fn => fn.body.isSome
  | none => false
theorem hasBodyK_ok {A : AP} {f : FuncId} (h : hasBodyK A f = true) : ∃ fn c, A.funcs.get f = some fn ∧ fn.body = some c := by
  unfold hasBodyK at h
  split at h
  · next fn hfn =>
    obtain ⟨c, hc⟩ := Option.isSome_iff_exists.1 h
    exact ⟨fn, c, hfn, hc⟩
  · cases h
def ek16 : Ent := { f := 16, args := [.agg [.int .i64 (6), .int .i64 (4), .int .i64 (4), .int .i64 (2), .int .i64 (1), .int .i64 (32), .int .i64 (3), .int .i64 (2), .int .i64 (1)], .sl 0 0 6 (.ex 6)], bs := [.cells 3 [.int .i64 (0), .int .i64 (1), .int .i64 (1), .int .i64 (1), .int .i64 (0), .int .i64 (0)]], v := .tup [.int .i64 (3), .int .i64 (3), .int .i64 (0)], next := 131, new := [] }
def ek20 : Ent := { f := 20, args := [.agg [.int .i64 (6), .int .i64 (4), .int .i64 (4), .int .i64 (2), .int .i64 (1), .int .i64 (36), .int .i64 (3), .int .i64 (2), .int .i64 (1)]], bs := [], v := .tup [.int .i64 (2), .int .i64 (0)], next := 905, new := [] }
def ek24 : Ent := { f := 24, args := [.agg [.int .i64 (6), .int .i64 (4), .int .i64 (4), .int .i64 (2), .int .i64 (1), .int .i64 (32), .int .i64 (3), .int .i64 (2), .int .i64 (1)]], bs := [], v := .tup [.int .i64 (0), .sl 912 0 6 (.ex 6), .int .i64 (0)], next := 1351, new := [(912, .cells 3 [.int .i64 (0), .int .i64 (1), .int .i64 (1), .int .i64 (0), .int .i64 (1), .int .i64 (0)])] }
def ek29 : Ent := { f := 29, args := [.agg [.int .i64 (6), .int .i64 (4), .int .i64 (4), .int .i64 (2), .int .i64 (1), .int .i64 (32), .int .i64 (3), .int .i64 (2), .int .i64 (1)]], bs := [], v := .tup [.int .i64 (32), .int .i64 (4), .int .i64 (0)], next := 1309, new := [] }
def ek18 : Ent := { f := 18, args := [.agg [.int .i64 (6), .int .i64 (4), .int .i64 (4), .int .i64 (2), .int .i64 (1), .int .i64 (32), .int .i64 (3), .int .i64 (2), .int .i64 (1)]], bs := [], v := .tup [.int .i64 (5), .int .i64 (0)], next := 1170, new := [] }
def ek27 : Ent := { f := 27, args := [.agg [.int .i64 (6), .int .i64 (4), .int .i64 (4), .int .i64 (2), .int .i64 (1), .int .i64 (32), .int .i64 (3), .int .i64 (2), .int .i64 (1)], .int .i64 (0)], bs := [], v := .tup [.agg [.int .i64 (3), .int .i64 (4)], .int .i64 (0)], next := 1268, new := [] }
def ek22 : Ent := { f := 22, args := [.agg [.int .i64 (6), .int .i64 (4), .int .i64 (4), .int .i64 (2), .int .i64 (1), .int .i64 (32), .int .i64 (3), .int .i64 (2), .int .i64 (1)]], bs := [], v := .tup [.int .i64 (2), .sl 964 0 6 (.ex 6), .int .i64 (0)], next := 1435, new := [(964, .cells 3 [.int .i64 (0), .int .i64 (0), .int .i64 (1), .int .i64 (1), .int .i64 (0), .int .i64 (0)])] }
def ek31 : Ent := { f := 31, args := [.agg [.int .i64 (6), .int .i64 (4), .int .i64 (4), .int .i64 (2), .int .i64 (1), .int .i64 (36), .int .i64 (3), .int .i64 (2), .int .i64 (1)]], bs := [], v := .tup [.int .i64 (0), .int .i64 (2), .int .i64 (0)], next := 1488, new := [] }
end Go.Am
namespace Go.Am
open Go.Proofs
theorem ek16_runs : (kent (AP.of Tryz.prog) eqsK 1000000000 slowK .nil 60 ek16).isSome = true := by kernel_rfl
theorem ek20_runs : (kent (AP.of Tryz.prog) eqsK 1000000000 slowK .nil 60 ek20).isSome = true := by kernel_rfl
theorem ek24_runs : (kent (AP.of Tryz.prog) eqsK 1000000000 slowK .nil 60 ek24).isSome = true := by kernel_rfl
theorem ek29_runs : (kent (AP.of Tryz.prog) eqsK 1000000000 slowK .nil 60 ek29).isSome = true := by kernel_rfl
theorem ek18_runs : (kent (AP.of Tryz.prog) eqsK 1000000000 slowK .nil 60 ek18).isSome = true := by kernel_rfl
theorem ek27_runs : (kent (AP.of Tryz.prog) eqsK 1000000000 slowK .nil 60 ek27).isSome = true := by kernel_rfl
theorem ek22_runs : (kent (AP.of Tryz.prog) eqsK 1000000000 slowK .nil 60 ek22).isSome = true := by kernel_rfl
theorem ek31_runs : (kent (AP.of Tryz.prog) eqsK 1000000000 slowK .nil 60 ek31).isSome = true := by kernel_rfl
end Go.Am
namespace Go.Am
open Go.Proofs Go.RowKit
theorem awake_runs : isTrueK (kmainT (AP.of Tryz.prog) eqsK 1000000000 slowK (T.set (T.set (T.set (T.set (T.set (T.set (T.set (T.set T.nil 16 [ek16]) 20 [ek20]) 24 [ek24]) 29 [ek29]) 18 [ek18]) 27 [ek27]) 22 [ek22]) 31 [ek31]) 60 15) = true := by kernel_rfl
theorem TabOk.one {A : AP} {P : Program} {tb : T (List Ent)} (ht : TabOk A P tb) {f : FuncId} {e : Ent} (hb : hasBodyK A f = true) (h1 : e.f = f) (h2 : EntOk A P e) : TabOk A P (tb.set f [e]) := by
  obtain ⟨fn, c, hfn, hc⟩ := hasBodyK_ok hb
  refine ht.set hfn hc fun x hx => ?_
  rcases List.mem_cons.1 hx with hx | hx
  · subst hx; exact ⟨h1, h2⟩
  · cases hx
theorem awake_calls (w : World) : Calls Tryz.prog 15 #[] w fun e w' => e = .returned (.bool true) ∧ Kept w w' := by
  have ht : TabOk (AP.of Tryz.prog) Tryz.prog (T.set (T.set (T.set (T.set (T.set (T.set (T.set (T.set T.nil 16 [ek16]) 20 [ek20]) 24 [ek24]) 29 [ek29]) 18 [ek18]) 27 [ek27]) 22 [ek22]) 31 [ek31]) := by
    refine TabOk.one ?_ (by kernel_rfl) rfl (kent_ok tryz_ok eqsK_ok tryz_follows TabOk.nil ek31_runs)
    refine TabOk.one ?_ (by kernel_rfl) rfl (kent_ok tryz_ok eqsK_ok tryz_follows TabOk.nil ek22_runs)
    refine TabOk.one ?_ (by kernel_rfl) rfl (kent_ok tryz_ok eqsK_ok tryz_follows TabOk.nil ek27_runs)
    refine TabOk.one ?_ (by kernel_rfl) rfl (kent_ok tryz_ok eqsK_ok tryz_follows TabOk.nil ek18_runs)
    refine TabOk.one ?_ (by kernel_rfl) rfl (kent_ok tryz_ok eqsK_ok tryz_follows TabOk.nil ek29_runs)
    refine TabOk.one ?_ (by kernel_rfl) rfl (kent_ok tryz_ok eqsK_ok tryz_follows TabOk.nil ek24_runs)
    refine TabOk.one ?_ (by kernel_rfl) rfl (kent_ok tryz_ok eqsK_ok tryz_follows TabOk.nil ek20_runs)
    refine TabOk.one ?_ (by kernel_rfl) rfl (kent_ok tryz_ok eqsK_ok tryz_follows TabOk.nil ek16_runs)
    exact TabOk.nil
  obtain ⟨H, hH⟩ := isTrueK_ok awake_runs
  exact kmainT_keep tryz_ok eqsK_ok tryz_follows ht hH w
end Go.Am
namespace Go.Pv
open Go.Proofs Go.Am
set_option maxRecDepth 10000
set_option linter.unusedVariables false
set_option linter.unusedSimpArgs false
theorem awakeC : Clo P0 15 true := by
  have hf : A0.funcs.get 15 = some Tryz.f15 := by kernel_rfl
  exact fun hp X => PCall.closed ⟨Tryz.f15, _, A0_ok.funcs _ _ hf, rfl, by simpa using A0_ok.names _ _ hf⟩ awake_calls hp
end Go.Pv
