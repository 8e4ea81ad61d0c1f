/- The abstract machine, part 9: operations that leave the heap as it is. -/
import Derived.Test.YtkfoapjbfooneaaAm8
namespace Go.Am
open Go.RowKit

def plainV : Value → Bool
  | .int _ _ => false
  | .float _ _ => false
  | .complex _ _ _ => false
  | .string _ => false
  | _ => true

theorem binOp_eql {t : TypeId} {x y : Value} (h : plainV x = true) : binOp .eql t x y = (do pure (.bool (← Op.equal t x y))) := by
  cases x <;> simp only [plainV, Bool.false_eq_true] at h <;> cases y <;> rfl

theorem binOp_neq {t : TypeId} {x y : Value} (h : plainV x = true) : binOp .neq t x y = (do pure (.bool (!(← Op.equal t x y)))) := by
  cases x <;> simp only [plainV, Bool.false_eq_true] at h <;> cases y <;> rfl

section
variable {m : Env} {w : World} {A : AP} {P : Program} {E : Eqs}

theorem eqGuard_ok (op : BinOp) (t : TypeId) (xo yo : Operand) (x y : Value) (h1 : ¬ (x = .nilIface ∧ y = .nilIface))
    (h2 : ∀ a b, x = .agg a → y = .agg b → P.eqGuardType P.depth t = false) : (eqGuard op t xo yo x y).run P w = .ok () w := by
  cases x <;> cases y <;> first
    | exact absurd ⟨rfl, rfl⟩ h1
    | exact run_eqGuard_agg w op t xo yo _ _ (h2 _ _ rfl rfl)
    | (cases op <;> rfl)

theorem aequal_plain {t : TypeId} {x y : AV} {b : Bool} (h : aequal A E t x y = some b) {xv yv : Value} (hx : VR m x xv) (hy : VR m y yv) (hE : E.Ok P) :
    plainV xv = true ∧ ¬ (xv = .nilIface ∧ yv = .nilIface) ∧ (∀ p q, xv = .agg p → yv = .agg q → P.eqGuardType P.depth t = false) := by
  unfold aequal at h
  split at h
  · simp only [VR] at hx hy
    subst hx hy
    exact ⟨rfl, by simp, fun _ _ e => by cases e⟩
  · split at h
    · next he =>
      simp only [VR] at hx hy
      obtain ⟨xs, rfl, _⟩ := hx
      obtain ⟨ys, rfl, _⟩ := hy
      exact ⟨rfl, by simp, fun _ _ _ _ => (hE.ok t he).1⟩
    · cases h
  · unfold anil at h
    split at h <;> first
      | (cases h; done)
      | (simp only [VR] at hx hy
         first
          | (subst hx hy; exact ⟨rfl, by simp, fun _ _ e => by cases e⟩)
          | (subst hx; obtain ⟨z, rfl, _⟩ := hy; exact ⟨rfl, by simp, fun _ _ e => by cases e⟩)
          | (subst hy; obtain ⟨z, rfl, _⟩ := hx; exact ⟨rfl, by simp, fun _ _ e => by cases e⟩)
          | (subst hx; obtain ⟨l, _, rfl⟩ := hy; exact ⟨rfl, by simp, fun _ _ e => by cases e⟩)
          | (subst hx; obtain ⟨l, rfl⟩ := hy; exact ⟨rfl, by simp, fun _ _ e => by cases e⟩)
          | (subst hy; obtain ⟨l, rfl⟩ := hx; exact ⟨rfl, by simp, fun _ _ e => by cases e⟩)
          | (subst hy; obtain ⟨l, _, rfl⟩ := hx; exact ⟨rfl, by simp, fun _ _ e => by cases e⟩)
          | (subst hx; obtain ⟨l, p, c, _, rfl, _⟩ := hy; exact ⟨rfl, by simp, fun _ _ e => by cases e⟩)
          | (subst hy; obtain ⟨l, p, c, _, rfl, _⟩ := hx; exact ⟨rfl, by simp, fun _ _ e => by cases e⟩)
          | (subst hy; obtain ⟨l, c, rfl, _⟩ := hx; exact ⟨rfl, by simp, fun _ _ e => by cases e⟩))

theorem abin_ok (hA : A.Ok P) (hE : E.Ok P) {op : BinOp} {t : TypeId} {x y v : AV} (h : abin A E op t x y = some v) {xv yv : Value} (hx : VR m x xv) (hy : VR m y yv) (xo yo : Operand) :
    ∃ r, (do eqGuard op t xo yo xv yv; binOp op t xv yv : Sem Value).run P w = .ok r w ∧ VR m v r := by
  unfold abin at h
  split at h
  · simp only [VR] at hx hy
    subst hx hy
    have hg : ∀ op k k' a b, (eqGuard op t xo yo (.int k a) (.int k' b)).run P w = .ok () w := fun op _ _ _ _ => eqGuard_ok op t xo yo _ _ (by simp) (fun _ _ e => by cases e)
    split at h
    · obtain ⟨r, r1, r2⟩ := ashift_ok (w := w) (P := P) (m := m) h t
      exact ⟨r, by simp only [Sem.run_bind, hg, Result.andThen_ok]; exact r1, r2⟩
    · obtain ⟨r, r1, r2⟩ := ashift_ok (w := w) (P := P) (m := m) h t
      exact ⟨r, by simp only [Sem.run_bind, hg, Result.andThen_ok]; exact r1, r2⟩
    · split at h
      · next hk =>
        simp only [decide_eq_true_eq] at hk
        subst hk
        obtain ⟨r, r1, r2⟩ := aint_ok (w := w) (P := P) (m := m) h t
        exact ⟨r, by simp only [Sem.run_bind, hg, Result.andThen_ok]; exact r1, r2⟩
      · cases h
  · simp only [VR] at hx hy
    subst hx hy
    have hg : ∀ op a b, (eqGuard op t xo yo (.string a) (.string b)).run P w = .ok () w := fun op _ _ => eqGuard_ok op t xo yo _ _ (by simp) (fun _ _ e => by cases e)
    split at h
    · cases h
      exact ⟨_, by simp only [Sem.run_bind, hg, Result.andThen_ok]; rfl, by simp only [VR]⟩
    · cases h
      exact ⟨_, by simp only [Sem.run_bind, hg, Result.andThen_ok]; rfl, by simp only [VR]⟩
    · cases h
  · split at h
    · split at h
      · next b hb =>
        cases h
        obtain ⟨h1, h2, h3⟩ := aequal_plain hb hx hy hE
        refine ⟨.bool b, ?_, by simp only [VR]⟩
        simp only [Sem.run_bind, eqGuard_ok _ _ _ _ _ _ h2 h3, Result.andThen_ok, binOp_eql h1, aequal_ok hA hE hb hx hy, Sem.run_pure]
      · cases h
    · split at h
      · next b hb =>
        cases h
        obtain ⟨h1, h2, h3⟩ := aequal_plain hb hx hy hE
        refine ⟨.bool (!b), ?_, by simp only [VR]⟩
        simp only [Sem.run_bind, eqGuard_ok _ _ _ _ _ _ h2 h3, Result.andThen_ok, binOp_neq h1, aequal_ok hA hE hb hx hy, Sem.run_pure]
      · cases h
    · cases h

theorem aun_ok {op : UnOp} {x v : AV} (h : aun op x = some v) {xv : Value} (hx : VR m x xv) : ∃ r, (Op.unary op xv).run P w = .ok r w ∧ VR m v r := by
  unfold aun at h
  split at h
  · simp only [VR] at hx
    subst hx
    cases h
    exact ⟨_, by simp only [Op.unary, Op.intArith, Sem.run_pure]; rfl, by simp only [VR, fwrap_eq]⟩
  · simp only [VR] at hx
    subst hx
    cases h
    exact ⟨_, rfl, by simp only [VR]⟩
  · simp only [VR] at hx
    subst hx
    simp only [aint, Option.some.injEq] at h
    subst h
    exact ⟨_, by simp only [Op.unary, Op.intBits, Sem.run_pure]; rfl, by simp only [VR]⟩
  · cases h

theorem aconv_ok (hA : A.Ok P) {src dst : TypeId} {x v : AV} (h : aconv A src dst x = some v) {xv : Value} (hx : VR m x xv) : ∃ r, (convert src dst xv).run P w = .ok r w ∧ VR m v r := by
  unfold aconv at h
  split at h
  · next d k k' n hs hd =>
    simp only [VR] at hx
    subst hx
    cases h
    refine ⟨.int k (k.wrap n), ?_, by simp only [VR, fwrap_eq]⟩
    simp only [convert, Sem.run_bind, run_underlying (hA.under_ok hs), run_underlying (hA.under_ok hd), Result.andThen_ok]
    cases d <;> rfl
  · next d s hs hd =>
    simp only [VR] at hx
    subst hx
    cases h
    refine ⟨.string s, ?_, by simp only [VR]⟩
    simp only [convert, Sem.run_bind, run_underlying (hA.under_ok hs), run_underlying (hA.under_ok hd), Result.andThen_ok]
    cases d <;> rfl
  · cases h

end
end Go.Am
