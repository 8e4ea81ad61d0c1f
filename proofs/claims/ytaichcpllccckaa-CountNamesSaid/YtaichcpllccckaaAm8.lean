/- The abstract machine, part 8: operations on values alone, as the model runs them. -/
import Derived.Test.YtaichcpllccckaaAm7
namespace Go.Am
open Go.RowKit

section
variable {m : Env} {w : World} {A : AP} {P : Program} {E : Eqs}

theorem fieldsOf_eq {t : TypeId} {fs : Array Field} (h : P.underlying t = some (.struct fs)) : P.fieldsOf t = fs := by simp [Program.fieldsOf, h]

theorem aeq_ok (hA : A.Ok P) (hE : E.Ok P) : ∀ n : Nat,
    (∀ t x y b xv yv d, aeqv A E n t x y = some b → VR m x xv → VR m y yv → n ≤ d → (Op.equalIn d t xv yv).run P w = .ok b w) ∧
    (∀ xs ys fs b xv yv d, aeqFields A E n xs ys fs = some b → VRs m xs xv.toList → VRs m ys yv.toList → n ≤ d → (Op.eqFields d xv yv fs).run P w = .ok b w) := by
  intro n
  induction n with
  | zero =>
    refine ⟨fun t x y b xv yv d h => by simp [aeqv] at h, fun xs ys fs b xv yv d h _ _ _ => ?_⟩
    cases fs with
    | nil => simp only [aeqFields, Option.some.injEq] at h; subst h; simp [Op.eqFields]
    | cons f fs => simp [aeqFields] at h
  | succ n ih =>
    refine ⟨?_, ?_⟩
    · intro t x y b xv yv d h hx hy hd
      obtain ⟨d, rfl⟩ : ∃ k, d = k + 1 := ⟨d - 1, by omega⟩
      cases x <;> cases y <;> simp only [aeqv, reduceCtorEq] at h
      case bool.bool p q =>
        simp only [VR] at hx hy
        subst hx hy
        split at h
        · next hu => cases h; exact run_equalIn_bool' w d t _ _ (hA.under_ok hu)
        · cases h
      case int.int k p k' q =>
        simp only [VR] at hx hy
        subst hx hy
        split at h
        · next hu =>
          split at h
          · next hk =>
            simp only [decide_eq_true_eq] at hk
            subst hk
            cases h
            exact run_equalIn_int w d t _ _ _ _ (hA.under_ok hu)
          · cases h
        · cases h
      case str.str p q =>
        simp only [VR] at hx hy
        subst hx hy
        split at h
        · next hu => cases h; exact run_equalIn_string w d t _ _ (hA.under_ok hu)
        · cases h
      case agg.agg xs ys =>
        simp only [VR] at hx hy
        obtain ⟨xs', rfl, hx⟩ := hx
        obtain ⟨ys', rfl, hy⟩ := hy
        split at h
        · next fs hu he =>
          have hu' := hA.under_ok hu
          rw [run_equalIn_agg w d t xs' ys' (by rw [fieldsOf_eq hu']; exact hu') (hE.ok t he).2, fieldsOf_eq hu']
          exact ih.2 _ _ _ b xs' ys' d h hx hy (by omega)
        · cases h
    · intro xs ys fs b xv yv d h hx hy hd
      cases fs with
      | nil =>
        simp only [aeqFields, Option.some.injEq] at h
        subst h
        simp [Op.eqFields]
      | cons f fs =>
        simp only [aeqFields] at h
        split at h
        · next hf =>
          have hf' : f.name ≠ "_" := by simpa using hf
          split at h
          · next a b' ha hb =>
            obtain ⟨ra, ha1, ha2⟩ := apart_ok (w := w) hA ha hx
            obtain ⟨rb, hb1, hb2⟩ := apart_ok (w := w) hA hb hy
            split at h
            · next he =>
              have := ih.1 _ _ _ _ ra rb d he ha2 hb2 (by omega)
              simp only [Op.eqFields, hf', ne_eq, not_false_eq_true, if_true, Sem.run_bind, ha1, hb1, this, Result.andThen_ok, Bool.not_true, Bool.false_eq_true, if_false]
              exact ih.2 _ _ _ b xv yv d h hx hy (by omega)
            · next he =>
              cases h
              have := ih.1 _ _ _ _ ra rb d he ha2 hb2 (by omega)
              simp [Op.eqFields, hf', ha1, hb1, this]
            · cases h
          · cases h
        · next hf =>
          have hf' : f.name = "_" := by simpa using hf
          simp only [Op.eqFields, hf', ne_eq, not_true_eq_false, if_false]
          exact ih.2 _ _ _ b xv yv d h hx hy (by omega)

theorem anil_ok (hA : A.Ok P) {t : TypeId} {x y : AV} {b : Bool} (h : anil A t x y = some b) {xv yv : Value} (hx : VR m x xv) (hy : VR m y yv) (d : Nat) :
    (Op.equalIn (d + 1) t xv yv).run P w = .ok b w := by
  unfold anil at h
  split at h <;> first
    | (cases h; done)
    | (next hu =>
        have hu' := hA.under_ok hu
        cases h
        simp only [VR] at hx hy
        first
          | (subst hx hy; simp [Op.equalIn, run_underlying hu']; done)
          | (subst hx; obtain ⟨z, rfl, _⟩ := hy; simp [Op.equalIn, run_underlying hu']; done)
          | (subst hy; obtain ⟨z, rfl, _⟩ := hx; simp [Op.equalIn, run_underlying hu']; done)
          | (subst hx; obtain ⟨l, _, rfl⟩ := hy; simp [Op.equalIn, run_underlying hu']; done)
          | (subst hx; obtain ⟨l, rfl⟩ := hy; simp [Op.equalIn, run_underlying hu']; done)
          | (subst hy; obtain ⟨l, rfl⟩ := hx; simp [Op.equalIn, run_underlying hu']; done)
          | (subst hy; obtain ⟨l, _, rfl⟩ := hx; simp [Op.equalIn, run_underlying hu']; done)
          | (subst hx; obtain ⟨l, p, c, _, rfl, _⟩ := hy; simp [Op.equalIn, run_underlying hu']; done)
          | (subst hy; obtain ⟨l, p, c, _, rfl, _⟩ := hx; simp [Op.equalIn, run_underlying hu']; done)
          | (subst hy; obtain ⟨l, c, rfl, _⟩ := hx; simp [Op.equalIn, run_underlying hu']; done))

theorem aequal_ok (hA : A.Ok P) (hE : E.Ok P) {t : TypeId} {x y : AV} {b : Bool} (h : aequal A E t x y = some b) {xv yv : Value} (hx : VR m x xv) (hy : VR m y yv) :
    (Op.equal t xv yv).run P w = .ok b w := by
  unfold aequal at h
  unfold Op.equal Op.maxDepth
  split at h
  · exact (aeq_ok hA hE 20).1 _ _ _ _ _ _ 10000 h hx hy (by omega)
  · split at h
    · exact (aeq_ok hA hE 20).1 _ _ _ _ _ _ 10000 h hx hy (by omega)
    · cases h
  · exact anil_ok hA h hx hy 9999

end
end Go.Am
