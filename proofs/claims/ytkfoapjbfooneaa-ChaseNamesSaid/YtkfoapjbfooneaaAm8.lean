/- The abstract machine, part 8: operations on values alone, as the model runs them. -/
import Derived.Test.YtkfoapjbfooneaaAm7
namespace Go.Am
open Go.RowKit

section
variable {m : Env} {w : World} {A : AP} {P : Program} {E : Eqs}

theorem fieldsOf_eq {t : TypeId} {fs : Array Field} (h : P.underlying t = some (.struct fs)) : P.fieldsOf t = fs := by simp [Program.fieldsOf, h]

/-- The elements of two arrays from one on, one after the other. -/
def elemsEq (d : Nat) (e : TypeId) (sz : Nat) (xs ys : Array Value) : Nat → Nat → Sem Bool
  | 0, _ => pure true
  | n + 1, i => do
    if !(← Op.equalIn d e (← part e xs (i * sz)) (← part e ys (i * sz))) then return false
    elemsEq d e sz xs ys n (i + 1)

theorem run_equalIn_arr {t e : TypeId} {n d : Nat} {xs ys : Array Value} {ti : TypeInfo} (hu : P.underlying t = some (.array n e)) (hti : P.info? e = some ti) :
    (Op.equalIn (d + 1) t (.agg xs) (.agg ys)).run P w = (elemsEq d e ti.size xs ys n 0).run P w := by
  simp only [Op.equalIn, Sem.run_bind, run_underlying hu, Result.andThen_ok, sizeOf, run_typeInfo' hti, Sem.run_pure]
  simp only [Std.Legacy.Range.forIn_eq_forIn_range', Std.Legacy.Range.size, Nat.sub_zero, Nat.add_one_sub_one, Nat.div_one]
  generalize 0 = i
  clear hu
  induction n generalizing i w with
  | zero => simp [elemsEq]
  | succ n ih =>
    simp only [List.range'_succ, List.forIn_cons, elemsEq, Sem.run_bind, Sem.run_ite]
    generalize (part e xs (i * ti.size)).run P w = r1
    cases r1 with
    | ok a w1 =>
      simp only [Result.andThen_ok]
      generalize (part e ys (i * ti.size)).run P w1 = r2
      cases r2 with
      | ok b w2 =>
        simp only [Result.andThen_ok]
        generalize (Op.equalIn d e a b).run P w2 = r3
        cases r3 with
        | ok r w3 =>
          cases r
          · simp only [Result.andThen_ok, Bool.not_false, if_true, Sem.run_pure]
          · simp only [Result.andThen_ok, Bool.not_true, Bool.false_eq_true, if_false, Sem.run_pure]
            exact ih (i + 1)
        | halt x w3 => simp [Result.andThen]
      | halt x w2 => simp [Result.andThen]
    | halt x w1 => simp [Result.andThen]

theorem aeq_ok (hA : A.Ok P) (hE : E.Ok P) : ∀ n : Nat,
    (∀ t x y b xv yv d, aeqv A E n t x y = some b → VR m x xv → VR m y yv → n ≤ d → (Op.equalIn d t xv yv).run P w = .ok b w) ∧
    (∀ xs ys fs b xv yv d, aeqFields A E n xs ys fs = some b → VRs m xs xv.toList → VRs m ys yv.toList → n ≤ d → (Op.eqFields d xv yv fs).run P w = .ok b w) ∧
    ∀ e sz xs ys k i b (xv yv : Array Value) d, aeqElems A E n e sz xs ys k i = some b → VRs m xs xv.toList → VRs m ys yv.toList → n ≤ d → (∃ ti, A.info e = some ti ∧ ti.size = sz) → (elemsEq d e sz xv yv k i).run P w = .ok b w := by
  intro n
  induction n with
  | zero =>
    refine ⟨fun t x y b xv yv d h => by simp [aeqv] at h, fun xs ys fs b xv yv d h _ _ _ => ?_, fun e sz xs ys k i b xv yv d h _ _ _ _ => ?_⟩
    · cases fs with
      | nil => simp only [aeqFields, Option.some.injEq] at h; subst h; simp [Op.eqFields]
      | cons f fs => simp [aeqFields] at h
    · cases k with
      | zero => simp only [aeqElems, Option.some.injEq] at h; subst h; simp [elemsEq]
      | succ k => simp [aeqElems] at h
  | succ n ih =>
    refine ⟨?_, ?_, ?_⟩
    · intro t x y b xv yv d h hx hy hd
      obtain ⟨d, rfl⟩ : ∃ k, d = k + 1 := ⟨d - 1, by omega⟩
      cases x <;> cases y <;> simp only [aeqv, reduceCtorEq] at h
      case bool.bool p q =>
        simp only [VR] at hx hy
        subst hx hy
        split at h
        · next hu => cases h; exact run_equalIn_bool' w d t _ _ (hA.under_ok hu)
        · cases h
      case int.int k p k' q =>
        simp only [VR] at hx hy
        subst hx hy
        split at h
        · next hu =>
          split at h
          · next hk =>
            simp only [decide_eq_true_eq] at hk
            subst hk
            cases h
            exact run_equalIn_int w d t _ _ _ _ (hA.under_ok hu)
          · cases h
        · cases h
      case str.str p q =>
        simp only [VR] at hx hy
        subst hx hy
        split at h
        · next hu => cases h; exact run_equalIn_string w d t _ _ (hA.under_ok hu)
        · cases h
      case agg.agg xs ys =>
        simp only [VR] at hx hy
        obtain ⟨xs', rfl, hx⟩ := hx
        obtain ⟨ys', rfl, hy⟩ := hy
        split at h
        · next fs hu he =>
          have hu' := hA.under_ok hu
          rw [run_equalIn_agg w d t xs' ys' (by rw [fieldsOf_eq hu']; exact hu') (hE.ok t he).2, fieldsOf_eq hu']
          exact ih.2.1 _ _ _ b xs' ys' d h hx hy (by omega)
        · next k e hu he =>
          split at h
          case h_2 => cases h
          next ti hti =>
          rw [run_equalIn_arr (hA.under_ok hu) (hA.info _ _ hti)]
          exact ih.2.2 _ _ _ _ k 0 b xs' ys' d h hx hy (by omega) ⟨ti, hti, rfl⟩
        · cases h
    · intro xs ys fs b xv yv d h hx hy hd
      cases fs with
      | nil =>
        simp only [aeqFields, Option.some.injEq] at h
        subst h
        simp [Op.eqFields]
      | cons f fs =>
        simp only [aeqFields] at h
        split at h
        · next hf =>
          have hf' : f.name ≠ "_" := by simpa using hf
          split at h
          · next a b' ha hb =>
            obtain ⟨ra, ha1, ha2⟩ := apart_ok (w := w) hA ha hx
            obtain ⟨rb, hb1, hb2⟩ := apart_ok (w := w) hA hb hy
            split at h
            · next he =>
              have := ih.1 _ _ _ _ ra rb d he ha2 hb2 (by omega)
              simp only [Op.eqFields, hf', ne_eq, not_false_eq_true, if_true, Sem.run_bind, ha1, hb1, this, Result.andThen_ok, Bool.not_true, Bool.false_eq_true, if_false]
              exact ih.2.1 _ _ _ b xv yv d h hx hy (by omega)
            · next he =>
              cases h
              have := ih.1 _ _ _ _ ra rb d he ha2 hb2 (by omega)
              simp [Op.eqFields, hf', ha1, hb1, this]
            · cases h
          · cases h
        · next hf =>
          have hf' : f.name = "_" := by simpa using hf
          simp only [Op.eqFields, hf', ne_eq, not_true_eq_false, if_false]
          exact ih.2.1 _ _ _ b xv yv d h hx hy (by omega)
    · intro e sz xs ys k i b xv yv d h hx hy hd hti
      cases k with
      | zero =>
        simp only [aeqElems, Option.some.injEq] at h
        subst h
        simp [elemsEq]
      | succ k =>
        simp only [aeqElems] at h
        split at h
        · next a b' ha hb =>
          obtain ⟨ra, ha1, ha2⟩ := apart_ok (w := w) hA ha hx
          obtain ⟨rb, hb1, hb2⟩ := apart_ok (w := w) hA hb hy
          split at h
          · next he =>
            have := ih.1 _ _ _ _ ra rb d he ha2 hb2 (by omega)
            simp only [elemsEq, Sem.run_bind, ha1, hb1, this, Result.andThen_ok, Bool.not_true, Bool.false_eq_true, if_false]
            exact ih.2.2 _ _ _ _ k _ b xv yv d h hx hy (by omega) hti
          · next he =>
            cases h
            have := ih.1 _ _ _ _ ra rb d he ha2 hb2 (by omega)
            simp [elemsEq, ha1, hb1, this]
          · cases h
        · cases h

theorem anil_ok (hA : A.Ok P) {t : TypeId} {x y : AV} {b : Bool} (h : anil A t x y = some b) {xv yv : Value} (hx : VR m x xv) (hy : VR m y yv) (d : Nat) :
    (Op.equalIn (d + 1) t xv yv).run P w = .ok b w := by
  unfold anil at h
  split at h <;> first
    | (cases h; done)
    | (next hu =>
        have hu' := hA.under_ok hu
        cases h
        simp only [VR] at hx hy
        first
          | (subst hx hy; simp [Op.equalIn, run_underlying hu']; done)
          | (subst hx; obtain ⟨z, rfl, _⟩ := hy; simp [Op.equalIn, run_underlying hu']; done)
          | (subst hy; obtain ⟨z, rfl, _⟩ := hx; simp [Op.equalIn, run_underlying hu']; done)
          | (subst hx; obtain ⟨l, _, rfl⟩ := hy; simp [Op.equalIn, run_underlying hu']; done)
          | (subst hx; obtain ⟨l, rfl⟩ := hy; simp [Op.equalIn, run_underlying hu']; done)
          | (subst hy; obtain ⟨l, rfl⟩ := hx; simp [Op.equalIn, run_underlying hu']; done)
          | (subst hy; obtain ⟨l, _, rfl⟩ := hx; simp [Op.equalIn, run_underlying hu']; done)
          | (subst hx; obtain ⟨l, p, c, _, rfl, _⟩ := hy; simp [Op.equalIn, run_underlying hu']; done)
          | (subst hy; obtain ⟨l, p, c, _, rfl, _⟩ := hx; simp [Op.equalIn, run_underlying hu']; done)
          | (subst hy; obtain ⟨l, c, rfl, _⟩ := hx; simp [Op.equalIn, run_underlying hu']; done))

theorem aequal_ok (hA : A.Ok P) (hE : E.Ok P) {t : TypeId} {x y : AV} {b : Bool} (h : aequal A E t x y = some b) {xv yv : Value} (hx : VR m x xv) (hy : VR m y yv) :
    (Op.equal t xv yv).run P w = .ok b w := by
  unfold aequal at h
  unfold Op.equal Op.maxDepth
  split at h
  · exact (aeq_ok hA hE 20).1 _ _ _ _ _ _ 10000 h hx hy (by omega)
  · split at h
    · exact (aeq_ok hA hE 20).1 _ _ _ _ _ _ 10000 h hx hy (by omega)
    · cases h
  · exact anil_ok hA h hx hy 9999

end
end Go.Am
