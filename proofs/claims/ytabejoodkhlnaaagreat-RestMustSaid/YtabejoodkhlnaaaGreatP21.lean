/- Parts of the proof: T28, T29 -/
import Derived.Test.YtabejoodkhlnaaaGreatP20
set_option linter.unusedVariables false
set_option linter.unusedSimpArgs false
namespace Go.Pv
open Go.Proofs Go.Am
set_option maxRecDepth 10000
set_option linter.unusedVariables false
set_option linter.unusedSimpArgs false
def Rst.out (R : Rst) (x h : Nat) : Rst :=
  if x = 0 then { R with o0 := R.o0 ||| 1 * 2 ^ h } else { R with o1 := R.o1 ||| 1 * 2 ^ h }
theorem out_ok {R : Rst} (hR : R.ok) (x : Nat) {h : Nat} (hh : h < 16) : (R.out x h).ok := by
  obtain ⟨h1, h2, h3, h4⟩ := hR
  have hp : 1 * 2 ^ h < 2 ^ 62 := by rw [Nat.one_mul]; exact Nat.pow_lt_pow_right (by decide) (by omega)
  unfold Rst.out
  split
  · exact ⟨h1, Nat.or_lt_two_pow h2 hp, h3, h4⟩
  · exact ⟨h1, h2, Nat.or_lt_two_pow h3 hp, h4⟩
theorem out_valid {R : Rst} (hv : validR R.m R.o0 R.t0 R.r0 R.f0 R.o1 R.t1 R.r1 R.f1 = true) (x : Nat) {h : Nat} (hh : h < R.m) :
    validR (R.out x h).m (R.out x h).o0 (R.out x h).t0 (R.out x h).r0 (R.out x h).f0 (R.out x h).o1 (R.out x h).t1 (R.out x h).r1 (R.out x h).f1 = true := by
  obtain ⟨h1, h2, h3, h4, h5⟩ := valid_iff.1 hv
  have hp : 1 * 2 ^ h < 2 ^ R.m := by rw [Nat.one_mul]; exact Nat.pow_lt_pow_right (by decide) hh
  refine valid_iff.2 ?_
  unfold Rst.out
  split
  · exact ⟨h1, Nat.or_lt_two_pow h2 hp, h3, h4, h5⟩
  · exact ⟨h1, h2, Nat.or_lt_two_pow h3 hp, h4, h5⟩
theorem bit_iff (q i : Nat) : ((q >>> i &&& 1 : Nat) : Int) = 1 ↔ q.testBit i = true := by
  rw [Nat.testBit_eq_decide_div_mod_eq, Nat.and_one_is_mod, Nat.shiftRight_eq_div_pow, decide_eq_true_eq]
  omega
theorem bit_or (q h i : Nat) : (q ||| 1 * 2 ^ h).testBit i = true ↔ q.testBit i = true ∨ i = h := by
  rw [Nat.one_mul, Nat.testBit_or, Nat.testBit_two_pow, Bool.or_eq_true, decide_eq_true_eq, eq_comm (a := h)]
theorem brk_ne {R : Rst} {d : Rid} {x : Int} (h : R.viol d x 0 = true) : R.brk d x ≠ 0 := by
  unfold Rst.brk
  rw [if_pos h]
  decide
theorem out_same {R : Rst} {d : Rid} {x : Nat} (hx : x = 0 ∨ x = 1) {h : Nat} (hd : (d.a + d.b).toNat = h) : (R.out x h).brk d x ≠ 0 := by
  apply brk_ne
  subst hd
  rcases hx with rfl | rfl
  · show decide ((((R.o0 ||| 1 * 2 ^ (d.a + d.b).toNat) >>> (d.a + d.b).toNat &&& 1 : Nat) : Int) = 1) = true
    exact decide_eq_true ((bit_iff _ _).2 ((bit_or _ _ _).2 (.inr rfl)))
  · show decide ((((R.o1 ||| 1 * 2 ^ (d.a + d.b).toNat) >>> (d.a + d.b).toNat &&& 1 : Nat) : Int) = 1) = true
    exact decide_eq_true ((bit_iff _ _).2 ((bit_or _ _ _).2 (.inr rfl)))
theorem viol0 (p : Nat) (t r f : Int) (d : Rid) (y : Int) {h : Nat} (hne : (d.a + d.b).toNat ≠ h) : Go.Pv.viol (p ||| 1 * 2 ^ h) t r f d y 0 = Go.Pv.viol p t r f d y 0 := by
  simp only [Go.Pv.viol, decide_eq_decide]
  rw [bit_iff, bit_iff, bit_or]
  simp [hne]
theorem out_brk {R : Rst} {d : Rid} {y : Int} {x h : Nat} (hx : x = 0 ∨ x = 1) (hy : y = 0 ∨ y = 1) (hne : (d.a + d.b).toNat ≠ h ∨ y ≠ x) : (R.out x h).brk d y = R.brk d y := by
  have key : ∀ k, (R.out x h).viol d y k = R.viol d y k := by
    intro k
    rcases hx with rfl | rfl <;> rcases hy with rfl | rfl
    · have hd : (d.a + d.b).toNat ≠ h := by simpa using hne
      cases k with
      | zero => exact viol0 R.o0 R.t0 R.r0 R.f0 d 0 hd
      | succ k => cases k with
        | zero => rfl
        | succ k => cases k with
          | zero => rfl
          | succ k => rfl
    · rfl
    · rfl
    · have hd : (d.a + d.b).toNat ≠ h := by simpa using hne
      cases k with
      | zero => exact viol0 R.o1 R.t1 R.r1 R.f1 d 1 hd
      | succ k => cases k with
        | zero => rfl
        | succ k => cases k with
          | zero => rfl
          | succ k => rfl
  unfold Rst.brk
  simp only [key]
theorem then_hour {d : Rid} (h0 : 0 ≤ d.a + d.b) {y : Int} (hy : y = 0 ∨ y = 1) : 0 ≤ (d.then y).a + (d.then y).b ∧ ((d.then y).a + (d.then y).b).toNat = (d.a + d.b).toNat + 1 := by
  rcases hy with rfl | rfl <;> simp [Rid.then] <;> omega
theorem out_late (R : Rst) {x h : Nat} (hx : x = 0 ∨ x = 1) : ∀ (k : Nat) (d : Rid), 0 ≤ d.a + d.b → h < (d.a + d.b).toNat → cnt (R.out x h) k d = cnt R k d
  | 0, _, _, _ => rfl
  | k + 1, d, h0, hlt => by
    obtain ⟨a0, a1⟩ := then_hour h0 (.inl rfl)
    obtain ⟨b0, b1⟩ := then_hour h0 (.inr rfl)
    simp only [cnt]
    rw [out_brk hx (.inl rfl) (.inl (by omega)), out_brk hx (.inr rfl) (.inl (by omega)), out_late R hx k (d.then 0) a0 (by omega), out_late R hx k (d.then 1) b0 (by omega)]
theorem out_here0 (R : Rst) {h : Nat} (k : Nat) (d : Rid) (h0 : 0 ≤ d.a + d.b) (hd : (d.a + d.b).toNat = h) : cnt (R.out 0 h) (k + 1) d = if R.brk d 1 = 0 then cnt R k (d.then 1) else 0 := by
  obtain ⟨b0, b1⟩ := then_hour h0 (y := 1) (.inr rfl)
  have hs := out_same (R := R) (x := 0) (.inl rfl) hd
  simp only [cnt]
  rw [if_neg (by simpa using hs), out_brk (.inl rfl) (.inr rfl) (.inr (by decide)), out_late R (.inl rfl) k (d.then 1) b0 (by omega), Nat.zero_add]
theorem out_here1 (R : Rst) {h : Nat} (k : Nat) (d : Rid) (h0 : 0 ≤ d.a + d.b) (hd : (d.a + d.b).toNat = h) : cnt (R.out 1 h) (k + 1) d = if R.brk d 0 = 0 then cnt R k (d.then 0) else 0 := by
  obtain ⟨b0, b1⟩ := then_hour h0 (y := 0) (.inl rfl)
  have hs := out_same (R := R) (x := 1) (.inr rfl) hd
  simp only [cnt]
  rw [if_neg (c := (R.out 1 h).brk d 1 = 0) (by simpa using hs), out_brk (.inr rfl) (.inl rfl) (.inr (by decide)), out_late R (.inr rfl) k (d.then 0) b0 (by omega), Nat.add_zero]
theorem out_else (R : Rst) {x h : Nat} (hx : x = 0 ∨ x = 1) (k : Nat) (d : Rid) (hd : (d.a + d.b).toNat ≠ h) : cnt (R.out x h) (k + 1) d = (if R.brk d 0 = 0 then cnt (R.out x h) k (d.then 0) else 0) + (if R.brk d 1 = 0 then cnt (R.out x h) k (d.then 1) else 0) := by
  rw [cnt, out_brk hx (.inl rfl) (.inl hd), out_brk hx (.inr rfl) (.inl hd)]
theorem out_sum (R : Rst) {h : Nat} : ∀ (k : Nat) (d : Rid), 0 ≤ d.a + d.b → (d.a + d.b).toNat ≤ h → h < (d.a + d.b).toNat + k → cnt (R.out 0 h) k d + cnt (R.out 1 h) k d = cnt R k d
  | 0, d, _, _, _ => by omega
  | k + 1, d, h0, h1, h2 => by
    obtain ⟨a0, a1⟩ := then_hour h0 (.inl rfl)
    obtain ⟨b0, b1⟩ := then_hour h0 (.inr rfl)
    by_cases hd : (d.a + d.b).toNat = h
    · rw [out_here0 R k d h0 hd, out_here1 R k d h0 hd, cnt]
      omega
    · have i0 := out_sum R (h := h) k (d.then 0) a0 (by omega) (by omega)
      have i1 := out_sum R (h := h) k (d.then 1) b0 (by omega) (by omega)
      rw [out_else R (.inl rfl) k d hd, out_else R (.inr rfl) k d hd, cnt]
      split <;> split <;> omega
theorem mst_none (R : Rst) : ∀ (k : Nat) (d : Rid), mst R k d = none ↔ cnt R k d = 0
  | 0, d => by simp [mst, cnt]
  | k + 1, d => by
    have i0 := mst_none R k (d.then 0)
    have i1 := mst_none R k (d.then 1)
    simp only [mst, cnt]
    by_cases c0 : R.brk d 0 = 0 <;> by_cases c1 : R.brk d 1 = 0 <;> simp only [c0, c1, if_true, if_false] <;> cases m0 : mst R k (d.then 0) <;> cases m1 : mst R k (d.then 1) <;> rw [m0] at i0 <;> rw [m1] at i1 <;> simp only [reduceCtorEq, true_iff, false_iff] at i0 i1 <;> simp only [Option.map_none, Option.map_some, join2, reduceCtorEq, true_iff, false_iff] <;> omega
theorem set2_1 (x : Int) (H : Nat) (p : Nat × Nat) (h : Nat) : (set2 x H p).1.testBit h = true ↔ p.1.testBit h = true ∨ (x = 0 ∧ h = H) := by
  unfold set2
  split
  · next hx => simp only [bit_or, hx, true_and]
  · next hx => simp only [hx, false_and, or_false]
theorem set2_2 (x : Int) (H : Nat) (p : Nat × Nat) (h : Nat) : (set2 x H p).2.testBit h = true ↔ p.2.testBit h = true ∨ (x ≠ 0 ∧ h = H) := by
  unfold set2
  split
  · next hx => simp only [hx, ne_eq, not_true_eq_false, false_and, or_false]
  · next hx => simp only [bit_or, ne_eq, hx, not_false_eq_true, true_and]
theorem and2_1 (p q : Nat × Nat) (h : Nat) : (and2 p q).1.testBit h = true ↔ p.1.testBit h = true ∧ q.1.testBit h = true := by
  unfold and2
  simp only [Nat.testBit_and, Bool.and_eq_true]
theorem and2_2 (p q : Nat × Nat) (h : Nat) : (and2 p q).2.testBit h = true ↔ p.2.testBit h = true ∧ q.2.testBit h = true := by
  unfold and2
  simp only [Nat.testBit_and, Bool.and_eq_true]
theorem join_bit {A B : Option (Nat × Nat)} {p : Nat × Nat} {h H k C0 C1 F0 F1 G00 G10 G01 G11 : Nat} (hp : join2 (A.map (set2 0 H)) (B.map (set2 1 H)) = some p) (nA : A = none ↔ F0 = 0) (nB : B = none ↔ F1 = 0)
    (iA : ∀ a, A = some a → (a.1.testBit h = true ↔ H + 1 ≤ h ∧ h < H + 1 + k ∧ G00 = 0) ∧ (a.2.testBit h = true ↔ H + 1 ≤ h ∧ h < H + 1 + k ∧ G10 = 0))
    (iB : ∀ b, B = some b → (b.1.testBit h = true ↔ H + 1 ≤ h ∧ h < H + 1 + k ∧ G01 = 0) ∧ (b.2.testBit h = true ↔ H + 1 ≤ h ∧ h < H + 1 + k ∧ G11 = 0))
    (fact : (h = H ∧ C0 = F1 ∧ C1 = F0) ∨ (H + 1 ≤ h ∧ h < H + 1 + k ∧ C0 = G00 + G01 ∧ C1 = G10 + G11 ∧ G00 + G10 = F0 ∧ G01 + G11 = F1) ∨ h < H ∨ H + 1 + k ≤ h) :
    (p.1.testBit h = true ↔ H ≤ h ∧ h < H + (k + 1) ∧ C0 = 0) ∧ (p.2.testBit h = true ↔ H ≤ h ∧ h < H + (k + 1) ∧ C1 = 0) := by
  cases A with
  | none =>
    have hF0 : F0 = 0 := nA.1 rfl
    cases B with
    | none => cases hp
    | some b =>
      have hF1 : F1 ≠ 0 := fun e => by cases nB.2 e
      obtain ⟨g1, g2⟩ := iB b rfl
      cases hp
      rw [set2_1, set2_2, g1, g2]
      clear iA iB nA nB g1 g2
      constructor <;> omega
  | some a =>
    have hF0 : F0 ≠ 0 := fun e => by cases nA.2 e
    obtain ⟨j1, j2⟩ := iA a rfl
    cases B with
    | none =>
      have hF1 : F1 = 0 := nB.1 rfl
      cases hp
      rw [set2_1, set2_2, j1, j2]
      clear iA iB nA nB j1 j2
      constructor <;> omega
    | some b =>
      have hF1 : F1 ≠ 0 := fun e => by cases nB.2 e
      obtain ⟨g1, g2⟩ := iB b rfl
      cases hp
      rw [and2_1, and2_2, set2_1, set2_2, set2_1, set2_2, j1, j2, g1, g2]
      clear iA iB nA nB j1 j2 g1 g2
      constructor <;> omega
theorem mst_bit (R : Rst) : ∀ (k : Nat) (d : Rid) (p : Nat × Nat), 0 ≤ d.a + d.b → mst R k d = some p → ∀ h,
    (p.1.testBit h = true ↔ (d.a + d.b).toNat ≤ h ∧ h < (d.a + d.b).toNat + k ∧ cnt (R.out 0 h) k d = 0) ∧
    (p.2.testBit h = true ↔ (d.a + d.b).toNat ≤ h ∧ h < (d.a + d.b).toNat + k ∧ cnt (R.out 1 h) k d = 0)
  | 0, d, p, _, hp, h => by
    simp only [mst, Option.some.injEq] at hp
    subst hp
    constructor <;> (simp only [Nat.zero_testBit, Bool.false_eq_true, false_iff]; omega)
  | k + 1, d, p, h0, hp, h => by
    obtain ⟨a0, a1⟩ := then_hour h0 (y := 0) (.inl rfl)
    obtain ⟨b0, b1⟩ := then_hour h0 (y := 1) (.inr rfl)
    have i0 := fun p' hp' => mst_bit R k (d.then 0) p' a0 hp' h
    have i1 := fun p' hp' => mst_bit R k (d.then 1) p' b0 hp' h
    rw [a1] at i0
    rw [b1] at i1
    refine join_bit (A := if R.brk d 0 = 0 then mst R k (d.then 0) else none) (B := if R.brk d 1 = 0 then mst R k (d.then 1) else none) (F0 := if R.brk d 0 = 0 then cnt R k (d.then 0) else 0) (F1 := if R.brk d 1 = 0 then cnt R k (d.then 1) else 0)
      (G00 := if R.brk d 0 = 0 then cnt (R.out 0 h) k (d.then 0) else 0) (G10 := if R.brk d 0 = 0 then cnt (R.out 1 h) k (d.then 0) else 0) (G01 := if R.brk d 1 = 0 then cnt (R.out 0 h) k (d.then 1) else 0) (G11 := if R.brk d 1 = 0 then cnt (R.out 1 h) k (d.then 1) else 0) ?_ ?_ ?_ ?_ ?_ ?_
    · rw [mst] at hp
      rw [← hp]
      split <;> split <;> rfl
    · split
      · exact mst_none R k (d.then 0)
      · exact ⟨fun _ => rfl, fun _ => rfl⟩
    · split
      · exact mst_none R k (d.then 1)
      · exact ⟨fun _ => rfl, fun _ => rfl⟩
    · intro a ha
      split at ha
      · next c => rw [if_pos c, if_pos c]; exact i0 a ha
      · cases ha
    · intro b hb
      split at hb
      · next c => rw [if_pos c, if_pos c]; exact i1 b hb
      · cases hb
    · by_cases e1 : (d.a + d.b).toNat = h
      · exact .inl ⟨e1.symm, out_here0 R k d h0 e1, out_here1 R k d h0 e1⟩
      · by_cases e2 : (d.a + d.b).toNat + 1 ≤ h ∧ h < (d.a + d.b).toNat + 1 + k
        · refine .inr (.inl ⟨e2.1, e2.2, out_else R (.inl rfl) k d e1, out_else R (.inr rfl) k d e1, ?_, ?_⟩)
          · split
            · exact out_sum R k (d.then 0) a0 (by omega) (by omega)
            · rfl
          · split
            · exact out_sum R k (d.then 1) b0 (by omega) (by omega)
            · rfl
        · exact .inr (.inr (by omega))
theorem must_none {R : Rst} : R.must = none ↔ R.many = 0 := mst_none R R.m zeroRid
theorem out_many (R : Rst) (x h : Nat) : (R.out x h).many = cnt (R.out x h) R.m zeroRid := by
  unfold Rst.many Rst.out
  split <;> rfl
theorem must_bit {R : Rst} {p : Nat × Nat} (hp : R.must = some p) (h : Nat) :
    (p.1.testBit h = true ↔ h < R.m ∧ (R.out 0 h).many = 0) ∧ (p.2.testBit h = true ↔ h < R.m ∧ (R.out 1 h).many = 0) := by
  obtain ⟨h1, h2⟩ := mst_bit R R.m zeroRid p (by decide) hp h
  rw [h1, h2, out_many, out_many]
  simp [zeroRid]
theorem must_sum (R : Rst) {h : Nat} (hh : h < R.m) : (R.out 0 h).many + (R.out 1 h).many = R.many := by
  rw [out_many, out_many]
  exact out_sum R R.m zeroRid (by decide) (by simp [zeroRid]) (by simpa [zeroRid] using hh)
theorem must_lt {R : Rst} {p : Nat × Nat} (hp : R.must = some p) : p.1 < 2 ^ R.m ∧ p.2 < 2 ^ R.m := by
  constructor
  · refine Nat.lt_pow_two_of_testBit _ fun i hi => ?_
    have := (must_bit hp i).1
    cases hb : p.1.testBit i with
    | false => rfl
    | true => have := (this.1 hb).1; omega
  · refine Nat.lt_pow_two_of_testBit _ fun i hi => ?_
    have := (must_bit hp i).2
    cases hb : p.2.testBit i with
    | false => rfl
    | true => have := (this.1 hb).1; omega
theorem must_both {R : Rst} {p : Nat × Nat} (hp : R.must = some p) : p.1 &&& p.2 = 0 := by
  apply Nat.eq_of_testBit_eq
  intro i
  rw [Nat.testBit_and, Nat.zero_testBit]
  obtain ⟨h1, h2⟩ := must_bit hp i
  have hn : R.many ≠ 0 := by rw [Ne, ← must_none, hp]; simp
  cases b1 : p.1.testBit i with
  | false => rfl
  | true =>
    cases b2 : p.2.testBit i with
    | false => rfl
    | true =>
      obtain ⟨g1, g2⟩ := h1.1 b1
      obtain ⟨_, g3⟩ := h2.1 b2
      have := must_sum R g1
      omega
theorem must_in {R : Rst} {p : Nat × Nat} (hp : R.must = some p) (hm : R.m ≤ 16) : (p.1 ||| p.2) &&& (2 ^ 64 - 1 - (1 * 2 ^ R.m - 1)) = 0 := by
  obtain ⟨h1, h2⟩ := must_lt hp
  have h3 : p.1 ||| p.2 < 2 ^ R.m := Nat.or_lt_two_pow h1 h2
  have hpos : 0 < 2 ^ R.m := Nat.pow_pos (by decide)
  have hle : 2 ^ R.m ≤ 65536 := pow16 hm
  apply Nat.eq_of_testBit_eq
  intro i
  rw [Nat.one_mul, show 2 ^ 64 - 1 - (2 ^ R.m - 1) = 2 ^ 64 - ((2 ^ R.m - 1) + 1) from by omega, Nat.testBit_and, Nat.zero_testBit, Nat.testBit_two_pow_sub_succ (by omega), Nat.testBit_two_pow_sub_one]
  by_cases hi : i < R.m
  · simp [hi]
  · rw [Nat.testBit_lt_two_pow (Nat.lt_of_lt_of_le h3 (Nat.pow_le_pow_right (by decide) (by omega))), Bool.false_and]
theorem must_one {R : Rst} {p : Nat × Nat} (hp : R.must = some p) (h1 : R.many = 1) : p.1 ||| p.2 = 1 * 2 ^ R.m - 1 := by
  apply Nat.eq_of_testBit_eq
  intro i
  rw [Nat.one_mul, Nat.testBit_two_pow_sub_one, Nat.testBit_or]
  obtain ⟨g1, g2⟩ := must_bit hp i
  by_cases hi : i < R.m
  · have := must_sum R hi
    rw [decide_eq_true hi, Bool.or_eq_true, g1, g2]
    omega
  · rw [decide_eq_false hi]
    cases b1 : p.1.testBit i with
    | true => have := (g1.1 b1).1; omega
    | false =>
      cases b2 : p.2.testBit i with
      | true => have := (g2.1 b2).1; omega
      | false => rfl
theorem f41 (R : Rst) (hR : R.ok) (x h : Nat) (hx : x < 2) (hh : h < 16) : Fn P0 41 [.agg R.cells, I x, I h] (.agg (R.out x h).cells) := by
  obtain ⟨hm16, ho0, ho1, _⟩ := hR
  have hp := pow16 (show h ≤ 16 by omega)
  rcases (by omega : x = 0 ∨ x = 1) with rfl | rfl
  all_goals
    refine PFun.of (C := c41) (cx_ok _ _ _) rfl (fn := Tryz.f41) (by kernel_rfl) (c := _) rfl rfl rfl ?_
    refine Run.seq (Run.region (cx_ok _ _ _) (Reg.op rfl (Ope.boxL rfl rfl ?_)))
    refine Reg.op rfl (Ope.newL rfl ?_)
    refine Reg.nil (Run.seq (Run.draw (cx_ok _ _ _) [(0, true), (1, true), (2, true), (3, true), (4, true), (5, true), (6, true), (7, true), (8, true), (9, true), (10, true), (11, true)] (by kernel_rfl) (Dra.op' rfl rfl rfl .sure (Ope.mov rfl ?_))))
    refine Dra.op' rfl rfl rfl .sure (Ope.fld rfl rfl ?_)
    refine Dra.op' rfl rfl rfl .sure (Ope.idxA rfl rfl rfl rfl ?_)
    refine Dra.op' rfl rfl rfl .sure (Ope.fld rfl rfl ?_)
    refine Dra.op' rfl rfl rfl .sure (Ope.load rfl rfl ?_)
    refine Dra.op' rfl rfl rfl .sure (Ope.mov rfl ?_)
    refine Dra.op' rfl rfl rfl .sure (Ope.shlN (p := 1) (m := h) rfl rfl rfl rfl (by omega) (by omega) ?_)
    refine Dra.op' rfl rfl rfl .sure (Ope.orN rfl rfl rfl rfl (by show _ < 2 ^ 63; omega) (by show _ < 2 ^ 63; omega) ?_)
    refine Dra.op' rfl rfl rfl .sure (Ope.fld rfl rfl ?_)
    refine Dra.op' rfl rfl rfl .sure (Ope.idxA rfl rfl rfl rfl ?_)
    refine Dra.op' rfl rfl rfl .sure (Ope.fld rfl rfl ?_)
    refine Dra.op' rfl rfl rfl .sure (Ope.store rfl rfl rfl rfl rfl rfl ?_)
    refine Dra.nil (Run.seq (Run.region (cx_ok _ _ _) (Reg.op rfl (Ope.load rfl rfl ?_))))
    refine Reg.op0 (Ope.store rfl rfl rfl rfl rfl rfl ?_)
    exact Reg.nil (Run.ret (fin_ret (.cell rfl rfl .nil) rfl rfl))
end Go.Pv
namespace Go.Pv
open Go.Proofs Go.Am
set_option maxRecDepth 10000
set_option linter.unusedVariables false
set_option linter.unusedSimpArgs false
theorem f29b (R : Rst) (hR : R.ok) (hv : validR R.m R.o0 R.t0 R.r0 R.f0 R.o1 R.t1 R.r1 R.f1 = true) (hn : R.must = none) : Fn P0 29 [.agg R.cells] (.tup [I 0, I 0, I 4]) :=
  f29 _ _ _ _ _ _ _ _ _ _ _ _ (f132er (f133b R hR hv hn) rfl)
theorem f29c (R : Rst) (hR : R.ok) (hv : validR R.m R.o0 R.t0 R.r0 R.f0 R.o1 R.t1 R.r1 R.f1 = true) (p : Nat × Nat) (hn : R.must = some p) : Fn P0 29 [.agg R.cells] (.tup [I p.1, I p.2, I 0]) :=
  f29 _ _ _ _ _ _ _ _ _ _ _ _ (f132ok (f133c R hR hv p hn) rfl)
theorem f9a (h a0 b0 c0 d0 a1 b1 c1 d1 : Int) (x : Nat) (hv : validR h a0 b0 c0 d0 a1 b1 c1 d1 = false) : Fn P0 9 [.agg [I h, I a0, I b0, I c0, I d0, I a1, I b1, I c1, I d1], .lit (.int .u8 (x : Int))] (B true) := by
  have h33 := f33 h a0 b0 c0 d0 a1 b1 c1 d1
  rw [hv] at h33
  refine PFun.of (C := c9) (cx_ok _ _ _) rfl (fn := Tryz.f9) (by kernel_rfl) (c := _) rfl rfl rfl ?_
  refine Run.seq (Run.region (cx_ok _ _ _) (Reg.op rfl (Ope.boxF rfl rfl ?_)))
  refine Reg.op rfl (Ope.asg rfl ?_)
  refine Reg.nil (Run.seq (Run.seq (Run.region (cx_ok _ _ _) (Reg.op rfl (Ope.load rfl rfl ?_)))))
  refine Reg.op rfl (Ope.cf rfl rfl (h33) rfl ?_)
  refine Reg.op rfl (Ope.not rfl ?_)
  refine Reg.op rfl (Ope.mov rfl ?_)
  refine Reg.splitX rfl rfl (fun hg => ?_) fun hg => ?_
  ·refine Reg.off rfl rfl rfl (Reg.off rfl rfl rfl (Reg.off rfl rfl rfl (Reg.op rfl (Ope.pickT rfl rfl ?_))))
   refine Reg.nil (Run.condT rfl (Run.seq (Run.region (cx_ok _ _ _) (Reg.op rfl (Ope.clo rfl rfl awakeC ?_)))))
   refine Reg.op rfl (Ope.asg rfl ?_)
   refine Reg.nil (Run.ret (Jmp.code (fin_ret (.tmp rfl .nil) rfl ?_)))
   rfl
  ·(first | (exfalso; first | omega | (exact absurd hg (by decide))))
theorem f9z (R : Rst) (x : Nat) (hv : validR R.m R.o0 R.t0 R.r0 R.f0 R.o1 R.t1 R.r1 R.f1 = true) (hm : R.m = 0) : Fn P0 9 [.agg R.cells, .lit (.int .u8 (x : Int))] (B true) := by
  have h33 := f33 R.m R.o0 R.t0 R.r0 R.f0 R.o1 R.t1 R.r1 R.f1
  rw [hv] at h33
  refine PFun.of (C := c9) (cx_ok _ _ _) rfl (fn := Tryz.f9) (by kernel_rfl) (c := _) rfl rfl rfl ?_
  refine Run.seq (Run.region (cx_ok _ _ _) (Reg.op rfl (Ope.boxF rfl rfl ?_)))
  refine Reg.op rfl (Ope.asg rfl ?_)
  refine Reg.nil (Run.seq (Run.seq (Run.region (cx_ok _ _ _) (Reg.op rfl (Ope.load rfl rfl ?_)))))
  refine Reg.op rfl (Ope.cf rfl rfl (h33) rfl ?_)
  refine Reg.op rfl (Ope.not rfl ?_)
  refine Reg.op rfl (Ope.mov rfl ?_)
  refine Reg.splitX rfl rfl (fun hg => ?_) fun hg => ?_
  ·(first | (exfalso; first | omega | (exact absurd hg (by decide))))
  ·refine Reg.on rfl rfl rfl (Ope.fld rfl rfl ?_)
   refine Reg.on rfl rfl rfl (Ope.load rfl rfl ?_)
   refine Reg.on rfl rfl rfl (Ope.eq rfl rfl ?_)
   refine Reg.op rfl (Ope.pickF rfl rfl ?_)
   refine Reg.nil (Run.condX rfl (fun hc => ?_) fun hc => ?_)
   ·refine Run.seq (Run.region (cx_ok _ _ _) (Reg.op rfl (Ope.clo rfl rfl awakeC ?_)))
    refine Reg.op rfl (Ope.asg rfl ?_)
    refine Reg.nil (Run.ret (Jmp.code (fin_ret (.tmp rfl .nil) rfl ?_)))
    rfl
   ·(first | (exfalso; first | omega | (simp [hm] at hc; done)))
theorem f9n (R : Rst) (hR : R.ok) (x : Nat) (hx : x < 256) (hv : validR R.m R.o0 R.t0 R.r0 R.f0 R.o1 R.t1 R.r1 R.f1 = true) (hm : 0 < R.m) (hn : R.must = none) : Fn P0 9 [.agg R.cells, .lit (.int .u8 (x : Int))] (B true) := by
  have h33 := f33 R.m R.o0 R.t0 R.r0 R.f0 R.o1 R.t1 R.r1 R.f1
  rw [hv] at h33
  have h18 := f18b R hR hv
  rw [must_none.1 hn] at h18
  have hm0 : ¬ R.m = 0 := by omega
  refine PFun.of (C := c9) (cx_ok _ _ _) rfl (fn := Tryz.f9) (by kernel_rfl) (c := _) rfl rfl rfl ?_
  refine Run.seq (Run.region (cx_ok _ _ _) (Reg.op rfl (Ope.boxF rfl rfl ?_)))
  refine Reg.op rfl (Ope.asg rfl ?_)
  refine Reg.nil (Run.seq (Run.seq (Run.region (cx_ok _ _ _) (Reg.op rfl (Ope.load rfl rfl ?_)))))
  refine Reg.op rfl (Ope.cf rfl rfl (h33) rfl ?_)
  refine Reg.op rfl (Ope.not rfl ?_)
  refine Reg.op rfl (Ope.mov rfl ?_)
  refine Reg.splitX rfl rfl (fun hg => ?_) fun hg => ?_
  ·(first | (exfalso; first | omega | (exact absurd hg (by decide))))
  ·refine Reg.on rfl rfl rfl (Ope.fld rfl rfl ?_)
   refine Reg.on rfl rfl rfl (Ope.load rfl rfl ?_)
   refine Reg.on rfl rfl rfl (Ope.eq rfl rfl ?_)
   refine Reg.op rfl (Ope.pickF rfl rfl ?_)
   refine Reg.nil (Run.condX rfl (fun hc => ?_) fun hc => ?_)
   ·(first | (exfalso; first | omega | (simp [hm0] at hc; done)))
   ·refine Run.skip (Run.seq (Run.region (cx_ok _ _ _) (Reg.op rfl (Ope.load rfl rfl ?_))))
    refine Reg.op rfl (Ope.cf rfl rfl (f29b R hR hv hn) rfl ?_)
    refine Reg.op rfl (Ope.mov rfl ?_)
    refine Reg.op rfl (Ope.ext rfl rfl ?_)
    refine Reg.op rfl (Ope.ext rfl rfl ?_)
    refine Reg.op rfl (Ope.ext rfl rfl ?_)
    refine Reg.op rfl (Ope.asg rfl ?_)
    refine Reg.op rfl (Ope.asg rfl ?_)
    refine Reg.op rfl (Ope.asg rfl ?_)
    refine Reg.nil (Run.seq (Run.region (cx_ok _ _ _) (Reg.op rfl (Ope.load rfl rfl ?_))))
    refine Reg.op rfl (Ope.cf rfl rfl (h18) rfl ?_)
    refine Reg.op rfl (Ope.mov rfl ?_)
    refine Reg.op rfl (Ope.ext rfl rfl ?_)
    refine Reg.op rfl (Ope.ext rfl rfl ?_)
    refine Reg.op rfl (Ope.asg rfl ?_)
    refine Reg.op rfl (Ope.asg rfl ?_)
    refine Reg.nil (Run.seq (Run.seq (Run.region (cx_ok _ _ _) (Reg.op rfl (Ope.mov rfl ?_)))))
    refine Reg.op rfl (Ope.ne rfl rfl ?_)
    refine Reg.op rfl (Ope.mov rfl ?_)
    refine Reg.splitX rfl rfl (fun hg => ?_) fun hg => ?_
    ·(first | (exfalso; first | omega | (exact absurd hg (by decide))))
    ·refine Reg.on rfl rfl rfl (Ope.mov rfl ?_)
     refine Reg.on rfl rfl rfl (Ope.eq rfl rfl ?_)
     refine Reg.on rfl rfl rfl (Ope.mov rfl ?_)
     refine Reg.on rfl rfl rfl (Ope.gt rfl rfl ?_)
     refine Reg.on rfl rfl rfl (Ope.neB (by kernel_rfl) rfl rfl ?_)
     refine Reg.op rfl (Ope.pickF rfl rfl ?_)
     refine Reg.nil (Run.condX rfl (fun hc => ?_) fun hc => ?_)
     ·(first | (exfalso; first | omega | (simp [hm0] at hc; done)))
     ·refine Run.skip (Run.seq (Run.seq (Run.region (cx_ok _ _ _) (Reg.op rfl (Ope.mov rfl ?_)))))
      refine Reg.op rfl (Ope.ne rfl rfl ?_)
      refine Reg.nil (Run.condX rfl (fun hc => ?_) fun hc => ?_)
      ·refine Run.seq (Run.region (cx_ok _ _ _) (Reg.op rfl (Ope.mov rfl ?_)))
       refine Reg.op rfl (Ope.eq rfl rfl ?_)
       refine Reg.op rfl (Ope.mov rfl ?_)
       refine Reg.splitX rfl rfl (fun hg => ?_) fun hg => ?_
       ·refine Reg.on rfl rfl rfl (Ope.mov rfl ?_)
        refine Reg.on rfl rfl rfl (Ope.eq rfl rfl ?_)
        refine Reg.op rfl (Ope.pickT rfl rfl ?_)
        refine Reg.op rfl (Ope.mov rfl ?_)
        refine Reg.splitX rfl rfl (fun hg => ?_) fun hg => ?_
        ·refine Reg.on rfl rfl rfl (Ope.mov rfl ?_)
         refine Reg.on rfl rfl rfl (Ope.eq rfl rfl ?_)
         refine Reg.op rfl (Ope.pickT rfl rfl ?_)
         refine Reg.op rfl (Ope.mov rfl ?_)
         refine Reg.splitX rfl rfl (fun hg => ?_) fun hg => ?_
         ·refine Reg.on rfl rfl rfl (Ope.clo rfl rfl awakeC ?_)
          refine Reg.op rfl (Ope.pickT rfl rfl ?_)
          refine Reg.op rfl (Ope.asg rfl ?_)
          refine Reg.nil (Run.ret (Jmp.code (fin_ret (.tmp rfl .nil) rfl ?_)))
          rfl
         ·(first | (exfalso; first | omega | (exact absurd hg (by decide))))
        ·(first | (exfalso; first | omega | (exact absurd hg (by decide))))
       ·(first | (exfalso; first | omega | (exact absurd hg (by decide))))
      ·(first | (exfalso; first | omega | (simp [hm0] at hc; done)))
theorem f9s (R : Rst) (hR : R.ok) (x : Nat) (hx : x < 256) (hv : validR R.m R.o0 R.t0 R.r0 R.f0 R.o1 R.t1 R.r1 R.f1 = true) (hm : 0 < R.m) (p : Nat × Nat) (hn : R.must = some p) : Fn P0 9 [.agg R.cells, .lit (.int .u8 (x : Int))] (B true) := by
  have h33 := f33 R.m R.o0 R.t0 R.r0 R.f0 R.o1 R.t1 R.r1 R.f1
  rw [hv] at h33
  have hm0 : ¬ R.m = 0 := by omega
  have hm16 := hR.1
  have hpw := pow16 hm16
  have hmod : x % R.m < R.m := Nat.mod_lt _ hm
  have h18 := f18b R hR hv
  have hmany : R.many ≠ 0 := by rw [Ne, ← must_none, hn]; simp
  have hmle : R.many ≤ 65536 := Nat.le_trans (cnt_le R R.m zeroRid) hpw
  obtain ⟨hl1, hl2⟩ := must_lt hn
  have hboth := must_both hn
  have hin := must_in hn hm16
  have hone := must_one hn
  have hsum := must_sum R hmod
  have hbit := must_bit hn (x % R.m)
  have hs1 : p.1 >>> (x % R.m) ≤ p.1 := Nat.shiftRight_le _ _
  have hs2 : p.2 >>> (x % R.m) ≤ p.2 := Nat.shiftRight_le _ _
  have hb1 := bit_iff p.1 (x % R.m)
  have hb2 := bit_iff p.2 (x % R.m)
  rw [hbit.1] at hb1
  rw [hbit.2] at hb2
  clear hbit
  refine PFun.of (C := c9) (cx_ok _ _ _) rfl (fn := Tryz.f9) (by kernel_rfl) (c := _) rfl rfl rfl ?_
  refine Run.seq (Run.region (cx_ok _ _ _) (Reg.op rfl (Ope.boxF rfl rfl ?_)))
  refine Reg.op rfl (Ope.asg rfl ?_)
  refine Reg.nil (Run.seq (Run.seq (Run.region (cx_ok _ _ _) (Reg.op rfl (Ope.load rfl rfl ?_)))))
  refine Reg.op rfl (Ope.cf rfl rfl (h33) rfl ?_)
  refine Reg.op rfl (Ope.not rfl ?_)
  refine Reg.op rfl (Ope.mov rfl ?_)
  refine Reg.splitX rfl rfl (fun hg => ?_) fun hg => ?_
  ·(first | (exfalso; first | omega | (exact absurd hg (by decide)) | (exact hg (congrArg Int.ofNat hin)) | (simp only [beq_eq_false_iff_ne, ne_eq, decide_eq_decide] at hg; omega) | (simp [hmany, hm0, hboth, hin] at hg; done)))
  ·refine Reg.on rfl rfl rfl (Ope.fld rfl rfl ?_)
   refine Reg.on rfl rfl rfl (Ope.load rfl rfl ?_)
   refine Reg.on rfl rfl rfl (Ope.eq rfl rfl ?_)
   refine Reg.op rfl (Ope.pickF rfl rfl ?_)
   refine Reg.nil (Run.condX rfl (fun hc => ?_) fun hc => ?_)
   ·(first | (exfalso; first | omega | (exact hc (congrArg Int.ofNat hin)) | (simp only [beq_eq_false_iff_ne, ne_eq, decide_eq_decide] at hc; omega) | (simp [hmany, hm0, hboth, hin] at hc; done)))
   ·refine Run.skip (Run.seq (Run.region (cx_ok _ _ _) (Reg.op rfl (Ope.load rfl rfl ?_))))
    refine Reg.op rfl (Ope.cf rfl rfl (f29c R hR hv p hn) rfl ?_)
    refine Reg.op rfl (Ope.mov rfl ?_)
    refine Reg.op rfl (Ope.ext rfl rfl ?_)
    refine Reg.op rfl (Ope.ext rfl rfl ?_)
    refine Reg.op rfl (Ope.ext rfl rfl ?_)
    refine Reg.op rfl (Ope.asg rfl ?_)
    refine Reg.op rfl (Ope.asg rfl ?_)
    refine Reg.op rfl (Ope.asg rfl ?_)
    refine Reg.nil (Run.seq (Run.region (cx_ok _ _ _) (Reg.op rfl (Ope.load rfl rfl ?_))))
    refine Reg.op rfl (Ope.cf rfl rfl (h18) rfl ?_)
    refine Reg.op rfl (Ope.mov rfl ?_)
    refine Reg.op rfl (Ope.ext rfl rfl ?_)
    refine Reg.op rfl (Ope.ext rfl rfl ?_)
    refine Reg.op rfl (Ope.asg rfl ?_)
    refine Reg.op rfl (Ope.asg rfl ?_)
    refine Reg.nil (Run.seq (Run.seq (Run.region (cx_ok _ _ _) (Reg.op rfl (Ope.mov rfl ?_)))))
    refine Reg.op rfl (Ope.ne rfl rfl ?_)
    refine Reg.op rfl (Ope.mov rfl ?_)
    refine Reg.splitX rfl rfl (fun hg => ?_) fun hg => ?_
    ·(first | (exfalso; first | omega | (exact absurd hg (by decide)) | (exact hg (congrArg Int.ofNat hin)) | (simp only [beq_eq_false_iff_ne, ne_eq, decide_eq_decide] at hg; omega) | (simp [hmany, hm0, hboth, hin] at hg; done)))
    ·refine Reg.on rfl rfl rfl (Ope.mov rfl ?_)
     refine Reg.on rfl rfl rfl (Ope.eq rfl rfl ?_)
     refine Reg.on rfl rfl rfl (Ope.mov rfl ?_)
     refine Reg.on rfl rfl rfl (Ope.gt rfl rfl ?_)
     refine Reg.on rfl rfl rfl (Ope.neB (by kernel_rfl) rfl rfl ?_)
     refine Reg.op rfl (Ope.pickF rfl rfl ?_)
     refine Reg.nil (Run.condX rfl (fun hc => ?_) fun hc => ?_)
     ·(first | (exfalso; first | omega | (exact hc (congrArg Int.ofNat hin)) | (simp only [beq_eq_false_iff_ne, ne_eq, decide_eq_decide] at hc; omega) | (simp [hmany, hm0, hboth, hin] at hc; done)))
     ·refine Run.skip (Run.seq (Run.seq (Run.region (cx_ok _ _ _) (Reg.op rfl (Ope.mov rfl ?_)))))
      refine Reg.op rfl (Ope.ne rfl rfl ?_)
      refine Reg.nil (Run.condX rfl (fun hc => ?_) fun hc => ?_)
      ·(first | (exfalso; first | omega | (exact hc (congrArg Int.ofNat hin)) | (simp only [beq_eq_false_iff_ne, ne_eq, decide_eq_decide] at hc; omega) | (simp [hmany, hm0, hboth, hin] at hc; done)))
      ·refine Run.skip (Run.seq (Run.region (cx_ok _ _ _) (Reg.op rfl (Ope.fld rfl rfl ?_))))
       refine Reg.op rfl (Ope.load rfl rfl ?_)
       refine Reg.op rfl (Ope.shlN (p := 1) (m := R.m) rfl rfl rfl rfl (by omega) (by omega) ?_)
       refine Reg.op rfl (Ope.sub rfl rfl (by omega) ?_)
       refine Reg.op rfl (Ope.asg rfl ?_)
       refine Reg.nil (Run.seq (Run.seq (Run.region (cx_ok _ _ _) (Reg.op rfl (Ope.mov rfl ?_)))))
       refine Reg.op rfl (Ope.lt rfl rfl ?_)
       refine Reg.op rfl (Ope.mov rfl ?_)
       refine Reg.splitX rfl rfl (fun hg => ?_) fun hg => ?_
       ·(first | (exfalso; first | omega | (exact absurd hg (by decide)) | (exact hg (congrArg Int.ofNat hin)) | (simp only [beq_eq_false_iff_ne, ne_eq, decide_eq_decide] at hg; omega) | (simp [hmany, hm0, hboth, hin] at hg; done)))
       ·refine Reg.on rfl rfl rfl (Ope.mov rfl ?_)
        refine Reg.on rfl rfl rfl (Ope.lt rfl rfl ?_)
        refine Reg.op rfl (Ope.pickF rfl rfl ?_)
        refine Reg.op rfl (Ope.mov rfl ?_)
        refine Reg.splitX rfl rfl (fun hg => ?_) fun hg => ?_
        ·(first | (exfalso; first | omega | (exact absurd hg (by decide)) | (exact hg (congrArg Int.ofNat hin)) | (simp only [beq_eq_false_iff_ne, ne_eq, decide_eq_decide] at hg; omega) | (simp [hmany, hm0, hboth, hin] at hg; done)))
        ·refine Reg.on rfl rfl rfl (Ope.mov rfl ?_)
         refine Reg.on rfl rfl rfl (Ope.mov rfl ?_)
         refine Reg.on rfl rfl rfl (Ope.andN rfl rfl rfl rfl (by show _ < 2 ^ 64; omega) (by show _ < 2 ^ 63; omega) ?_)
         refine Reg.on rfl rfl rfl (Ope.ne rfl rfl ?_)
         refine Reg.op rfl (Ope.pickF rfl rfl ?_)
         refine Reg.op rfl (Ope.mov rfl ?_)
         refine Reg.splitX rfl rfl (fun hg => ?_) fun hg => ?_
         ·(first | (exfalso; first | omega | (exact absurd hg (by decide)) | (exact hg (congrArg Int.ofNat hin)) | (simp only [beq_eq_false_iff_ne, ne_eq, decide_eq_decide] at hg; omega) | (simp [hmany, hm0, hboth, hin] at hg; done)))
         ·refine Reg.on rfl rfl rfl (Ope.mov rfl ?_)
          refine Reg.on rfl rfl rfl (Ope.mov rfl ?_)
          refine Reg.on rfl rfl rfl (Ope.orN rfl rfl rfl rfl (by show _ < 2 ^ 63; omega) (by show _ < 2 ^ 63; omega) ?_)
          refine Reg.on rfl rfl rfl (Ope.mov rfl ?_)
          refine Reg.on rfl rfl rfl (Ope.andNotN (q := 1 * 2 ^ R.m - 1) rfl rfl rfl (by omega) (by have := Nat.or_lt_two_pow hl1 hl2; show _ < 2 ^ 63; omega) (by show _ < 2 ^ 63; omega) ?_)
          refine Reg.on rfl rfl rfl (Ope.ne rfl rfl ?_)
          refine Reg.op rfl (Ope.pickF rfl rfl ?_)
          refine Reg.op rfl (Ope.mov rfl ?_)
          refine Reg.splitX rfl rfl (fun hg => ?_) fun hg => ?_
          ·(first | (exfalso; first | omega | (exact absurd hg (by decide)) | (exact hg (congrArg Int.ofNat hin)) | (simp only [beq_eq_false_iff_ne, ne_eq, decide_eq_decide] at hg; omega) | (simp [hmany, hm0, hboth, hin] at hg; done)))
          ·refine Reg.on rfl rfl rfl (Ope.mov rfl ?_)
           refine Reg.on rfl rfl rfl (Ope.eq rfl rfl ?_)
           refine Reg.on rfl rfl rfl (Ope.mov rfl ?_)
           refine Reg.splitX rfl rfl (fun hg => ?_) fun hg => ?_
           ·refine Reg.on rfl rfl rfl (Ope.mov rfl ?_)
            refine Reg.on rfl rfl rfl (Ope.mov rfl ?_)
            refine Reg.on rfl rfl rfl (Ope.orN rfl rfl rfl rfl (by show _ < 2 ^ 63; omega) (by show _ < 2 ^ 63; omega) ?_)
            refine Reg.on rfl rfl rfl (Ope.mov rfl ?_)
            refine Reg.on rfl rfl rfl (Ope.ne rfl rfl ?_)
            refine Reg.on rfl rfl rfl (Ope.pickT rfl rfl ?_)
            refine Reg.op rfl (Ope.pickF rfl rfl ?_)
            refine Reg.nil (Run.condX rfl (fun hc => ?_) fun hc => ?_)
            ·(first | (exfalso; first | omega | (exact hc (congrArg Int.ofNat hin)) | (simp only [beq_eq_false_iff_ne, ne_eq, decide_eq_decide] at hc; omega) | (simp [hmany, hm0, hboth, hin] at hc; done)))
            ·refine Run.skip (Run.seq (Run.region (cx_ok _ _ _) (Reg.op rfl (Ope.mov rfl ?_))))
             refine Reg.op rfl (Ope.convN (p := x) rfl rfl (by show _ < 2 ^ 63; omega) ?_)
             refine Reg.op rfl (Ope.fld rfl rfl ?_)
             refine Reg.op rfl (Ope.load rfl rfl ?_)
             refine Reg.op rfl (Ope.remN (p := x) (q := R.m) rfl rfl rfl rfl hm ?_)
             refine Reg.op rfl (Ope.asg rfl ?_)
             refine Reg.nil (Run.seq (Run.region (cx_ok _ _ _) (Reg.op rfl (Ope.load rfl rfl ?_))))
             refine Reg.op rfl (Ope.mov rfl ?_)
             refine Reg.op rfl (Ope.cf rfl rfl (f41 R hR 0 (x % R.m) (by decide) (by omega)) rfl ?_)
             refine Reg.op rfl (Ope.cf rfl rfl (f18b (R.out 0 (x % R.m)) (out_ok hR 0 (by omega)) (out_valid hv 0 hmod)) rfl ?_)
             refine Reg.op rfl (Ope.mov rfl ?_)
             refine Reg.op rfl (Ope.ext rfl rfl ?_)
             refine Reg.op rfl (Ope.ext rfl rfl ?_)
             refine Reg.op rfl (Ope.asg rfl ?_)
             refine Reg.op rfl (Ope.asg rfl ?_)
             refine Reg.nil (Run.seq (Run.region (cx_ok _ _ _) (Reg.op rfl (Ope.load rfl rfl ?_))))
             refine Reg.op rfl (Ope.mov rfl ?_)
             refine Reg.op rfl (Ope.cf rfl rfl (f41 R hR 1 (x % R.m) (by decide) (by omega)) rfl ?_)
             refine Reg.op rfl (Ope.cf rfl rfl (f18b (R.out 1 (x % R.m)) (out_ok hR 1 (by omega)) (out_valid hv 1 hmod)) rfl ?_)
             refine Reg.op rfl (Ope.mov rfl ?_)
             refine Reg.op rfl (Ope.ext rfl rfl ?_)
             refine Reg.op rfl (Ope.ext rfl rfl ?_)
             refine Reg.op rfl (Ope.asg rfl ?_)
             refine Reg.op rfl (Ope.asg rfl ?_)
             refine Reg.nil (Run.seq (Run.region (cx_ok _ _ _) (Reg.op rfl (Ope.mov rfl ?_))))
             refine Reg.op rfl (Ope.eq rfl rfl ?_)
             refine Reg.op rfl (Ope.mov rfl ?_)
             refine Reg.splitX rfl rfl (fun hg => ?_) fun hg => ?_
             ·refine Reg.on rfl rfl rfl (Ope.mov rfl ?_)
              refine Reg.on rfl rfl rfl (Ope.eq rfl rfl ?_)
              refine Reg.op rfl (Ope.pickT rfl rfl ?_)
              refine Reg.op rfl (Ope.mov rfl ?_)
              refine Reg.splitX rfl rfl (fun hg => ?_) fun hg => ?_
              ·refine Reg.on rfl rfl rfl (Ope.mov rfl ?_)
               refine Reg.on rfl rfl rfl (Ope.mov rfl ?_)
               refine Reg.on rfl rfl rfl (Ope.add rfl rfl (by omega) ?_)
               refine Reg.on rfl rfl rfl (Ope.mov rfl ?_)
               refine Reg.on rfl rfl rfl (Ope.eq rfl rfl ?_)
               refine Reg.op rfl (Ope.pickT rfl rfl ?_)
               refine Reg.op rfl (Ope.mov rfl ?_)
               refine Reg.splitX rfl rfl (fun hg => ?_) fun hg => ?_
               ·refine Reg.on rfl rfl rfl (Ope.mov rfl ?_)
                refine Reg.on rfl rfl rfl (Ope.eq rfl rfl ?_)
                refine Reg.on rfl rfl rfl (Ope.mov rfl ?_)
                refine Reg.on rfl rfl rfl (Ope.mov rfl ?_)
                refine Reg.on rfl rfl rfl (Ope.shrN (m := x % R.m) rfl rfl rfl rfl (by show _ ≤ 64; omega) ?_)
                refine Reg.on rfl rfl rfl (Ope.andN (q := 1) rfl rfl rfl rfl (by show _ < 2 ^ 64; omega) (by decide) ?_)
                refine Reg.on rfl rfl rfl (Ope.eq rfl rfl ?_)
                refine Reg.on rfl rfl rfl (Ope.eqB (by kernel_rfl) rfl rfl ?_)
                refine Reg.op rfl (Ope.pickT rfl rfl ?_)
                refine Reg.op rfl (Ope.mov rfl ?_)
                refine Reg.splitX rfl rfl (fun hg => ?_) fun hg => ?_
                ·refine Reg.on rfl rfl rfl (Ope.mov rfl ?_)
                 refine Reg.on rfl rfl rfl (Ope.eq rfl rfl ?_)
                 refine Reg.on rfl rfl rfl (Ope.mov rfl ?_)
                 refine Reg.on rfl rfl rfl (Ope.mov rfl ?_)
                 refine Reg.on rfl rfl rfl (Ope.shrN (m := x % R.m) rfl rfl rfl rfl (by show _ ≤ 64; omega) ?_)
                 refine Reg.on rfl rfl rfl (Ope.andN (q := 1) rfl rfl rfl rfl (by show _ < 2 ^ 64; omega) (by decide) ?_)
                 refine Reg.on rfl rfl rfl (Ope.eq rfl rfl ?_)
                 refine Reg.on rfl rfl rfl (Ope.eqB (by kernel_rfl) rfl rfl ?_)
                 refine Reg.op rfl (Ope.pickT rfl rfl ?_)
                 refine Reg.op rfl (Ope.mov rfl ?_)
                 refine Reg.splitX rfl rfl (fun hg => ?_) fun hg => ?_
                 ·refine Reg.on rfl rfl rfl (Ope.clo rfl rfl awakeC ?_)
                  refine Reg.op rfl (Ope.pickT rfl rfl ?_)
                  refine Reg.op rfl (Ope.asg rfl ?_)
                  refine Reg.nil (Run.ret (fin_ret (.tmp rfl .nil) rfl ?_))
                  rfl
                 ·(first | (exfalso; first | omega | (exact absurd hg (by decide)) | (exact hg (congrArg Int.ofNat hin)) | (simp only [beq_eq_false_iff_ne, ne_eq, decide_eq_decide] at hg; omega) | (simp [hmany, hm0, hboth, hin] at hg; done)))
                ·(first | (exfalso; first | omega | (exact absurd hg (by decide)) | (exact hg (congrArg Int.ofNat hin)) | (simp only [beq_eq_false_iff_ne, ne_eq, decide_eq_decide] at hg; omega) | (simp [hmany, hm0, hboth, hin] at hg; done)))
               ·(first | (exfalso; first | omega | (exact absurd hg (by decide)) | (exact hg (congrArg Int.ofNat hin)) | (simp only [beq_eq_false_iff_ne, ne_eq, decide_eq_decide] at hg; omega) | (simp [hmany, hm0, hboth, hin] at hg; done)))
              ·(first | (exfalso; first | omega | (exact absurd hg (by decide)) | (exact hg (congrArg Int.ofNat hin)) | (simp only [beq_eq_false_iff_ne, ne_eq, decide_eq_decide] at hg; omega) | (simp [hmany, hm0, hboth, hin] at hg; done)))
             ·(first | (exfalso; first | omega | (exact absurd hg (by decide)) | (exact hg (congrArg Int.ofNat hin)) | (simp only [beq_eq_false_iff_ne, ne_eq, decide_eq_decide] at hg; omega) | (simp [hmany, hm0, hboth, hin] at hg; done)))
           ·refine Reg.off rfl rfl rfl (Reg.off rfl rfl rfl (Reg.off rfl rfl rfl (Reg.off rfl rfl rfl (Reg.off rfl rfl rfl (Reg.on rfl rfl rfl (Ope.pickF rfl rfl ?_))))))
            refine Reg.op rfl (Ope.pickF rfl rfl ?_)
            refine Reg.nil (Run.condF rfl (Run.skip (Run.seq (Run.region (cx_ok _ _ _) (Reg.op rfl (Ope.mov rfl ?_))))))
            refine Reg.op rfl (Ope.convN (p := x) rfl rfl (by show _ < 2 ^ 63; omega) ?_)
            refine Reg.op rfl (Ope.fld rfl rfl ?_)
            refine Reg.op rfl (Ope.load rfl rfl ?_)
            refine Reg.op rfl (Ope.remN (p := x) (q := R.m) rfl rfl rfl rfl hm ?_)
            refine Reg.op rfl (Ope.asg rfl ?_)
            refine Reg.nil (Run.seq (Run.region (cx_ok _ _ _) (Reg.op rfl (Ope.load rfl rfl ?_))))
            refine Reg.op rfl (Ope.mov rfl ?_)
            refine Reg.op rfl (Ope.cf rfl rfl (f41 R hR 0 (x % R.m) (by decide) (by omega)) rfl ?_)
            refine Reg.op rfl (Ope.cf rfl rfl (f18b (R.out 0 (x % R.m)) (out_ok hR 0 (by omega)) (out_valid hv 0 hmod)) rfl ?_)
            refine Reg.op rfl (Ope.mov rfl ?_)
            refine Reg.op rfl (Ope.ext rfl rfl ?_)
            refine Reg.op rfl (Ope.ext rfl rfl ?_)
            refine Reg.op rfl (Ope.asg rfl ?_)
            refine Reg.op rfl (Ope.asg rfl ?_)
            refine Reg.nil (Run.seq (Run.region (cx_ok _ _ _) (Reg.op rfl (Ope.load rfl rfl ?_))))
            refine Reg.op rfl (Ope.mov rfl ?_)
            refine Reg.op rfl (Ope.cf rfl rfl (f41 R hR 1 (x % R.m) (by decide) (by omega)) rfl ?_)
            refine Reg.op rfl (Ope.cf rfl rfl (f18b (R.out 1 (x % R.m)) (out_ok hR 1 (by omega)) (out_valid hv 1 hmod)) rfl ?_)
            refine Reg.op rfl (Ope.mov rfl ?_)
            refine Reg.op rfl (Ope.ext rfl rfl ?_)
            refine Reg.op rfl (Ope.ext rfl rfl ?_)
            refine Reg.op rfl (Ope.asg rfl ?_)
            refine Reg.op rfl (Ope.asg rfl ?_)
            refine Reg.nil (Run.seq (Run.region (cx_ok _ _ _) (Reg.op rfl (Ope.mov rfl ?_))))
            refine Reg.op rfl (Ope.eq rfl rfl ?_)
            refine Reg.op rfl (Ope.mov rfl ?_)
            refine Reg.splitX rfl rfl (fun hg => ?_) fun hg => ?_
            ·refine Reg.on rfl rfl rfl (Ope.mov rfl ?_)
             refine Reg.on rfl rfl rfl (Ope.eq rfl rfl ?_)
             refine Reg.op rfl (Ope.pickT rfl rfl ?_)
             refine Reg.op rfl (Ope.mov rfl ?_)
             refine Reg.splitX rfl rfl (fun hg => ?_) fun hg => ?_
             ·refine Reg.on rfl rfl rfl (Ope.mov rfl ?_)
              refine Reg.on rfl rfl rfl (Ope.mov rfl ?_)
              refine Reg.on rfl rfl rfl (Ope.add rfl rfl (by omega) ?_)
              refine Reg.on rfl rfl rfl (Ope.mov rfl ?_)
              refine Reg.on rfl rfl rfl (Ope.eq rfl rfl ?_)
              refine Reg.op rfl (Ope.pickT rfl rfl ?_)
              refine Reg.op rfl (Ope.mov rfl ?_)
              refine Reg.splitX rfl rfl (fun hg => ?_) fun hg => ?_
              ·refine Reg.on rfl rfl rfl (Ope.mov rfl ?_)
               refine Reg.on rfl rfl rfl (Ope.eq rfl rfl ?_)
               refine Reg.on rfl rfl rfl (Ope.mov rfl ?_)
               refine Reg.on rfl rfl rfl (Ope.mov rfl ?_)
               refine Reg.on rfl rfl rfl (Ope.shrN (m := x % R.m) rfl rfl rfl rfl (by show _ ≤ 64; omega) ?_)
               refine Reg.on rfl rfl rfl (Ope.andN (q := 1) rfl rfl rfl rfl (by show _ < 2 ^ 64; omega) (by decide) ?_)
               refine Reg.on rfl rfl rfl (Ope.eq rfl rfl ?_)
               refine Reg.on rfl rfl rfl (Ope.eqB (by kernel_rfl) rfl rfl ?_)
               refine Reg.op rfl (Ope.pickT rfl rfl ?_)
               refine Reg.op rfl (Ope.mov rfl ?_)
               refine Reg.splitX rfl rfl (fun hg => ?_) fun hg => ?_
               ·refine Reg.on rfl rfl rfl (Ope.mov rfl ?_)
                refine Reg.on rfl rfl rfl (Ope.eq rfl rfl ?_)
                refine Reg.on rfl rfl rfl (Ope.mov rfl ?_)
                refine Reg.on rfl rfl rfl (Ope.mov rfl ?_)
                refine Reg.on rfl rfl rfl (Ope.shrN (m := x % R.m) rfl rfl rfl rfl (by show _ ≤ 64; omega) ?_)
                refine Reg.on rfl rfl rfl (Ope.andN (q := 1) rfl rfl rfl rfl (by show _ < 2 ^ 64; omega) (by decide) ?_)
                refine Reg.on rfl rfl rfl (Ope.eq rfl rfl ?_)
                refine Reg.on rfl rfl rfl (Ope.eqB (by kernel_rfl) rfl rfl ?_)
                refine Reg.op rfl (Ope.pickT rfl rfl ?_)
                refine Reg.op rfl (Ope.mov rfl ?_)
                refine Reg.splitX rfl rfl (fun hg => ?_) fun hg => ?_
                ·refine Reg.on rfl rfl rfl (Ope.clo rfl rfl awakeC ?_)
                 refine Reg.op rfl (Ope.pickT rfl rfl ?_)
                 refine Reg.op rfl (Ope.asg rfl ?_)
                 refine Reg.nil (Run.ret (fin_ret (.tmp rfl .nil) rfl ?_))
                 rfl
                ·(first | (exfalso; first | omega | (exact absurd hg (by decide)) | (exact hg (congrArg Int.ofNat hin)) | (simp only [beq_eq_false_iff_ne, ne_eq, decide_eq_decide] at hg; omega) | (simp [hmany, hm0, hboth, hin] at hg; done)))
               ·(first | (exfalso; first | omega | (exact absurd hg (by decide)) | (exact hg (congrArg Int.ofNat hin)) | (simp only [beq_eq_false_iff_ne, ne_eq, decide_eq_decide] at hg; omega) | (simp [hmany, hm0, hboth, hin] at hg; done)))
              ·(first | (exfalso; first | omega | (exact absurd hg (by decide)) | (exact hg (congrArg Int.ofNat hin)) | (simp only [beq_eq_false_iff_ne, ne_eq, decide_eq_decide] at hg; omega) | (simp [hmany, hm0, hboth, hin] at hg; done)))
             ·(first | (exfalso; first | omega | (exact absurd hg (by decide)) | (exact hg (congrArg Int.ofNat hin)) | (simp only [beq_eq_false_iff_ne, ne_eq, decide_eq_decide] at hg; omega) | (simp [hmany, hm0, hboth, hin] at hg; done)))
            ·(first | (exfalso; first | omega | (exact absurd hg (by decide)) | (exact hg (congrArg Int.ofNat hin)) | (simp only [beq_eq_false_iff_ne, ne_eq, decide_eq_decide] at hg; omega) | (simp [hmany, hm0, hboth, hin] at hg; done)))
theorem f9 (h a0 b0 c0 d0 a1 b1 c1 d1 : Int) (x : Nat) (hx : x < 256) : Fn P0 9 [.agg [I h, I a0, I b0, I c0, I d0, I a1, I b1, I c1, I d1], .lit (.int .u8 (x : Int))] (B true) := by
  by_cases hv : validR h a0 b0 c0 d0 a1 b1 c1 d1 = true
  · obtain ⟨hok, ⟨e1, e2, e3⟩, h16⟩ := rstOf_ok hv
    have hcells : (rstOf h a0 b0 c0 d0 a1 b1 c1 d1).cells = [I h, I a0, I b0, I c0, I d0, I a1, I b1, I c1, I d1] := by
      show [I (h.toNat : Int), I (a0.toNat : Int), I b0, I c0, I d0, I (a1.toNat : Int), I b1, I c1, I d1] = _
      rw [← e1, ← e2, ← e3]
    rw [← hcells]
    generalize hR : rstOf h a0 b0 c0 d0 a1 b1 c1 d1 = R at *
    have hv' : validR R.m R.o0 R.t0 R.r0 R.f0 R.o1 R.t1 R.r1 R.f1 = true := by
      rw [← hR]
      show validR (h.toNat : Int) (a0.toNat : Int) b0 c0 d0 (a1.toNat : Int) b1 c1 d1 = true
      rw [← e1, ← e2, ← e3]
      exact hv
    by_cases hm : R.m = 0
    · exact f9z R x hv' hm
    · cases hn : R.must with
      | none => exact f9n R hok x hx hv' (by omega) hn
      | some p => exact f9s R hok x hx hv' (by omega) p hn
  · exact f9a _ _ _ _ _ _ _ _ _ x (by simpa using hv)
end Go.Pv
