/- The abstract machine, part 27: a region in any order that it may have. -/
import Derived.Test.YtkfoapjbfooneaaAm26
namespace Go.Am
open Go.RowKit

def Ran (all : List Oper) (st : Nat → DSt) (i : Nat) (o : Oper) : Prop := aguard all (restr (st i).t (looks all o)) o.guard = some true

/-- The operation i lays the new block r. -/
def New (A : AP) (a : AFr) (all : List Oper) (st : Nat → DSt) (i r : Nat) (b : ABlk) : Prop :=
  ∃ o v, all[i]? = some o ∧ Ran all st i o ∧ kin o.op = .new ∧ r = (st i).next ∧ anew A { a with tmps := restr (st i).t (looks all o) }.ev (st i).next o.op = some (v, b)

/-- Behind so many that turn the heap the new block of the operation i is in it. -/
def Laid (all : List Oper) (an : T Nat) (st : Nat → DSt) (k i : Nat) : Prop :=
  ∃ l o, all[l]? = some o ∧ kin o.op = .loud ∧ Ran all st l o ∧ (st l).lev < k ∧ (anc an l).testBit i = true

theorem parted_ok (s : Nat) : ∀ (l : List (Nat × Nat × ABlk)), parted s l = (l.filter (fun e => s.testBit e.1), l.filter (fun e => !s.testBit e.1))
  | [] => rfl
  | e :: l => by
    simp only [parted, parted_ok s l, List.filter_cons]
    cases s.testBit e.1 <;> rfl

section
variable {A : AP} {E : Eqs} {R : Runner} {a : AFr} {all : List Oper} {an : T Nat} {st : Nat → DSt}

theorem New.uniq {i r r' : Nat} {b b' : ABlk} (h : New A a all st i r b) (h' : New A a all st i r' b') : r = r' ∧ b = b' := by
  obtain ⟨o, v, h1, _, _, h2, h3⟩ := h
  obtain ⟨o', v', k1, _, _, k2, k3⟩ := h'
  rw [h1] at k1
  cases k1
  rw [h3] at k3
  cases k3
  exact ⟨h2.trans k2.symm, rfl⟩

theorem Tr.new_lt (h : Tr A E R a all an st) {i : Nat} {r : Nat} {b : ABlk} (hN : New A a all st i r b) {j : Nat} (hij : i < j) (hj : j ≤ all.length) : r < (st j).next := by
  obtain ⟨o, v, h1, h2, h3, h4, h5⟩ := hN
  obtain ⟨u, hd⟩ := h.step i o h1
  have h6 := h.next_le (i + 1) j (by omega) hj
  rcases hd.is with k | k | k | ⟨_, _, _, k⟩ | k
  · rw [h2] at k; cases k.1
  · rw [h2] at k; cases k.1
  · rw [h3] at k; cases k.2.1
  · have := k.2.2.2.2.1
    omega
  · rw [h3] at k; cases k.2.1

theorem Tr.new_inj (h : Tr A E R a all an st) {i j : Nat} {r : Nat} {b b' : ABlk} (hN : New A a all st i r b) (hN' : New A a all st j r b') : i = j := by
  have hj : j ≤ all.length := by
    obtain ⟨o, _, h1, _⟩ := hN'
    exact Nat.le_of_lt (lt_of_get h1)
  have hi : i ≤ all.length := by
    obtain ⟨o, _, h1, _⟩ := hN
    exact Nat.le_of_lt (lt_of_get h1)
  rcases Nat.lt_trichotomy i j with h1 | h1 | h1
  · have := h.new_lt hN h1 hj
    obtain ⟨_, _, _, _, _, h4, _⟩ := hN'
    omega
  · exact h1
  · have := h.new_lt hN' h1 hi
    obtain ⟨_, _, _, _, _, h4, _⟩ := hN
    omega

theorem Laid.up {k i : Nat} (h : Laid all an st k i) : Laid all an st (k + 1) i :=
  let ⟨l, o, h1, h2, h3, h4, h5⟩ := h
  ⟨l, o, h1, h2, h3, Nat.lt_succ_of_lt h4, h5⟩

/-- What one more that turns the heap lays. -/
theorem Tr.laid (h : Tr A E R a all an st) {p : Nat} {o : Oper} (ho : all[p]? = some o) (hl : kin o.op = .loud) {i : Nat} :
    Laid all an st ((st p).lev + 1) i ↔ Laid all an st (st p).lev i ∨ (Ran all st p o ∧ (anc an p).testBit i = true) := by
  constructor
  · rintro ⟨l, o', h1, h2, h3, h4, h5⟩
    by_cases h6 : (st l).lev < (st p).lev
    · exact .inl ⟨l, o', h1, h2, h3, h6, h5⟩
    · have := h.lev_inj h1 h2 ho hl (by omega)
      subst this
      rw [ho] at h1
      cases h1
      exact .inr ⟨h3, h5⟩
  · rintro (h1 | ⟨h1, h2⟩)
    · exact h1.up
    · exact ⟨p, o, ho, hl, h1, by omega, h2⟩

/-- What waits in the order of the text. -/
theorem Tr.wait (h : Tr A E R a all an st) : ∀ p, p ≤ all.length →
    (∀ e, e ∈ (st p).wait ↔ New A a all st e.1 e.2.1 e.2.2 ∧ e.1 < p ∧ ¬ Laid all an st (st p).lev e.1) ∧ (st p).wait.Pairwise (fun e e' => e.1 ≠ e'.1)
  | 0, _ => by
    rw [h.wait0]
    exact ⟨fun e => ⟨fun hc => (by cases hc), fun hc => absurd hc.2.1 (Nat.not_lt_zero _)⟩, .nil⟩
  | p + 1, hp => by
    obtain ⟨ih1, ih2⟩ := h.wait p (by omega)
    obtain ⟨o, ho, v, hd⟩ := h.op (i := p) (by omega)
    have notNew : (kin o.op ≠ .new ∨ ¬ Ran all st p o) → ∀ e : Nat × Nat × ABlk, New A a all st e.1 e.2.1 e.2.2 → e.1 < p + 1 → e.1 < p := by
      intro hn e hN he
      rcases Nat.lt_or_ge e.1 p with h1 | h1
      · exact h1
      · have hep : e.1 = p := by omega
        obtain ⟨o', _, k1, k2, k3, _⟩ := hN
        rw [hep, ho] at k1
        cases k1
        rw [hep] at k2
        rcases hn with hn | hn
        · exact absurd k3 hn
        · exact absurd k2 hn
    rcases hd.is with k | k | k | ⟨hR, hk, b, k⟩ | k
    · obtain ⟨hg, _, hk, _, _, hw, _, _, hlv⟩ := k
      have hnr : ¬ Ran all st p o := fun hc => by unfold Ran at hc; rw [hg] at hc; cases hc
      rw [hw, hlv]
      exact ⟨fun e => (ih1 e).trans ⟨fun ⟨x, y, z⟩ => ⟨x, by omega, z⟩, fun ⟨x, y, z⟩ => ⟨x, notNew (.inr hnr) e x y, z⟩⟩, ih2⟩
    · obtain ⟨hg, _, hk, _, _, hw, _, _, hlv⟩ := k
      have hnr : ¬ Ran all st p o := fun hc => by unfold Ran at hc; rw [hg] at hc; cases hc
      rw [hw, hlv]
      refine ⟨fun e => (ih1 e).trans ⟨fun ⟨x, y, z⟩ => ⟨x, by omega, fun hc => ?_⟩, fun ⟨x, y, z⟩ => ⟨x, notNew (.inr hnr) e x y, fun hc => z hc.up⟩⟩, ih2⟩
      rcases (h.laid ho hk).1 hc with h1 | h1
      · exact z h1
      · exact hnr h1.1
    · obtain ⟨hR, hk, _, _, _, hw, _, _, hlv⟩ := k
      rw [hw, hlv]
      exact ⟨fun e => (ih1 e).trans ⟨fun ⟨x, y, z⟩ => ⟨x, by omega, z⟩, fun ⟨x, y, z⟩ => ⟨x, notNew (.inl (by rw [hk]; simp)) e x y, z⟩⟩, ih2⟩
    · obtain ⟨ha, _, _, hw, _, _, hlv⟩ := k
      have hN : New A a all st p (st p).next b := ⟨o, v, ho, hR, hk, rfl, ha⟩
      rw [hw, hlv]
      refine ⟨fun e => ?_, List.pairwise_cons.2 ⟨fun e he => ?_, ih2⟩⟩
      · rw [List.mem_cons, ih1 e]
        constructor
        · rintro (rfl | ⟨x, y, z⟩)
          · refine ⟨hN, Nat.lt_succ_self _, ?_⟩
            rintro ⟨l, o', h1, h2, _, h4, h5⟩
            have h6 := h.stat.lt l (lt_of_get h1) p h5
            have h7 := h.lev_le p l (by omega) (Nat.le_of_lt (lt_of_get h1))
            omega
          · exact ⟨x, by omega, z⟩
        · rintro ⟨x, y, z⟩
          rcases Nat.lt_or_ge e.1 p with h1 | h1
          · exact .inr ⟨x, h1, z⟩
          · have hep : e.1 = p := by omega
            obtain ⟨e1, e2, e3⟩ := e
            simp only at hep x
            subst hep
            obtain ⟨q1, q2⟩ := x.uniq hN
            left
            rw [q1, q2]
      · have := ((ih1 e).1 he).2.1
        simp only
        omega
    · obtain ⟨hR, hk, _, _, hw, _, _, hlv⟩ := k
      rw [hw, hlv, parted_ok]
      refine ⟨fun e => ?_, ih2.filter _⟩
      simp only [List.mem_filter, ih1 e, Bool.not_eq_true']
      constructor
      · rintro ⟨⟨x, y, z⟩, u⟩
        refine ⟨x, by omega, fun hc => ?_⟩
        rcases (h.laid ho hk).1 hc with h1 | h1
        · exact z h1
        · rw [u] at h1; cases h1.2
      · rintro ⟨x, y, z⟩
        refine ⟨⟨x, notNew (.inl (by rw [hk]; simp)) e x y, fun hc => z hc.up⟩, ?_⟩
        cases hb : (anc an p).testBit e.1 with
        | false => rfl
        | true => exact absurd ((h.laid ho hk).2 (.inr ⟨hR, hb⟩)) z

/-- What is kept apart while a region is run: the blocks that wait, and the numbers of those that will be. -/
def PB (A : AP) (a : AFr) (all : List Oper) (an : T Nat) (st : Nat → DSt) (B0 : Prot) (Dn : Nat → Prop) (k : Nat) (m : Env) : Prot where
  blk q := B0 q ∨ ∃ i r b l, New A a all st i r b ∧ Dn i ∧ ¬ Laid all an st k i ∧ m r = some l ∧ l.blk = q
  ids x := B0.ids x ∨ ∃ i b, New A a all st i x b ∧ ¬ Dn i

structure Inv (A : AP) (a : AFr) (all : List Oper) (an : T Nat) (st : Nat → DSt) (B0 : Prot) (w0 : World) (m : Env) (Dn : Nat → Prop) (k : Nat) (arr : Array Value) (w : World) : Prop where
  down : ∀ i, Dn i → i < all.length ∧ ∀ j, (anc an i).testBit j = true → Dn j
  rank : ∀ (i : Nat) (o : Oper), all[i]? = some o → kin o.op = .loud → (Dn i ↔ (st i).lev < k)
  kle : k ≤ (st all.length).lev
  size : arr.size = a.sz
  tm : ∀ x v, (st all.length).t.get x = some v → (∀ (j : Nat) (o : Oper), all[j]? = some o → o.dst = some x → Dn j) → ∃ y, arr[x]? = some y ∧ VR m v y
  tm0 : ∀ x v, (st 0).t.get x = some v → (∀ (j : Nat) (o : Oper), all[j]? = some o → o.dst = some x → ¬ Dn j) → ∃ y, arr[x]? = some y ∧ VR m v y
  keep : Keep B0 w0 w
  hr : ∃ Hk, (st all.length).Hs.get k = some Hk ∧ HR (PB A a all an st B0 Dn k m) w m Hk w
  pend : ∀ i r b, New A a all st i r b → Dn i → ¬ Laid all an st k i → ∃ l, m r = some l ∧ ¬ B0 l.blk ∧ BR m b l (w.heap[l.blk]?) ∧ ∀ t f n c, b = .cells t f n c → f = r
  dist : ∀ i r b i' r' b' l l', New A a all st i r b → Dn i → ¬ Laid all an st k i → New A a all st i' r' b' → Dn i' → ¬ Laid all an st k i' →
    m r = some l → m r' = some l' → l.blk = l'.blk → i = i'

def putArr (arr : Array Value) (d : Option Tmp) (x : Value) : Array Value :=
  match d with
  | some d => arr.setIfInBounds d x
  | none => arr

def atF (f : Frame) (arr : Array Value) (ops : Array Oper) (rest : List Nat) (k : List Item) : Frame := { f with tmps := arr, todo := .inRegion ops rest :: k }

theorem finish_atF {f : Frame} {arr : Array Value} {ops : Array Oper} {i : Nat} {rest : List Nat} {k : List Item} {o : Oper} (ho : ops[i]? = some o) (x : Value) :
    (atF f arr ops (i :: rest) k).finish x = atF f (putArr arr o.dst x) ops rest k := by
  cases hd : o.dst <;> simp [Frame.finish, atF, ho, putArr, hd]

variable {B0 : Prot} {w0 : World} {m : Env} {Dn : Nat → Prop} {k : Nat} {arr : Array Value} {w : World}

theorem Inv.lev_eq (h : Tr A E R a all an st) (I : Inv A a all an st B0 w0 m Dn k arr w) {i : Nat} {o : Oper} (ho : all[i]? = some o) (hl : kin o.op = .loud) (hn : ¬ Dn i)
    (hanc : ∀ j, (anc an i).testBit j = true → Dn j) : (st i).lev = k := by
  have h1 : ¬ (st i).lev < k := fun hc => hn ((I.rank i o ho hl).2 hc)
  rcases Nat.lt_or_ge k (st i).lev with h2 | h2
  · obtain ⟨l, o', k1, k2, k3, k4⟩ := h.lev_at i (Nat.le_of_lt (lt_of_get ho)) h2
    have h3 := h.stat.chain i l o o' ho k2 hl k3 k1
    have h4 := (I.rank l o' k2 k3).1 (hanc l h3)
    omega
  · omega

theorem Inv.looked (h : Tr A E R a all an st) (I : Inv A a all an st B0 w0 m Dn k arr w) {i : Nat} {o : Oper} (ho : all[i]? = some o) (hn : ¬ Dn i)
    (hanc : ∀ j, (anc an i).testBit j = true → Dn j) : TR m a.sz (restr (st i).t (looks all o)) arr := by
  refine ⟨I.size, fun x v hx => ?_⟩
  rw [get_restr] at hx
  split at hx
  case isFalse => cases hx
  next hm =>
  have hi := Nat.le_of_lt (lt_of_get ho)
  by_cases hw : ∃ (j : Nat) (o' : Oper), all[j]? = some o' ∧ o'.dst = some x ∧ (anc an i).testBit j = false
  · obtain ⟨j, o', ho', hd, hj⟩ := hw
    rcases h.stat.look i j o o' x ho ho' hd hm with h1 | h1
    · rw [hj] at h1
      cases h1
    · have hlt := h.stat.lt j (lt_of_get ho') i h1.1
      have uniq : ∀ (j' : Nat) (o'' : Oper), all[j']? = some o'' → o''.dst = some x → j' = j := fun j' o'' k1 k2 => h.stat.dst j' j o'' o' x k1 ho' k2 hd
      rw [h.t_old i hi fun j' o'' k1 k2 => by rw [uniq j' o'' k1 k2]; omega] at hx
      exact I.tm0 x v hx fun j' o'' k1 k2 hc => by
        rw [uniq j' o'' k1 k2] at hc
        exact hn ((I.down j hc).2 i h1.1)
  · have hb : ∀ (j : Nat) (o' : Oper), all[j]? = some o' → o'.dst = some x → (anc an i).testBit j = true := by
      intro j o' k1 k2
      cases hj : (anc an i).testBit j with
      | true => rfl
      | false => exact absurd ⟨j, o', k1, k2, hj⟩ hw
    rw [← h.t_eq hi (fun j o' k1 k2 => h.stat.lt i (lt_of_get ho) j (hb j o' k1 k2)) _ hi (Nat.le_refl _)] at hx
    exact I.tm x v hx fun j o' ho' hd => hanc j (hb j o' ho' hd)

/-- What is the same of every operation. -/
theorem Inv.go (h : Tr A E R a all an st) (I : Inv A a all an st B0 w0 m Dn k arr w) {i : Nat} {o : Oper} (ho : all[i]? = some o) (hn : ¬ Dn i)
    (hanc : ∀ j, (anc an i).testBit j = true → Dn j) {v : AV} (hd : DS A E R a all an i o (st i) (st (i + 1)) v) {m' : Env} {x : Value} {w' : World} {k' : Nat}
    (hle : m.le m') (hx : VR m' v x) (hk : (kin o.op = .loud ∧ k' = k + 1) ∨ (kin o.op ≠ .loud ∧ k' = k)) (hkeep : Keep B0 w0 w')
    (hr : ∃ Hk, (st all.length).Hs.get k' = some Hk ∧ HR (PB A a all an st B0 (fun j => Dn j ∨ j = i) k' m') w' m' Hk w')
    (pend : ∀ i' r b, New A a all st i' r b → (Dn i' ∨ i' = i) → ¬ Laid all an st k' i' → ∃ l, m' r = some l ∧ ¬ B0 l.blk ∧ BR m' b l (w'.heap[l.blk]?) ∧ ∀ t f n c, b = .cells t f n c → f = r)
    (dist : ∀ i1 r b i' r' b' l l', New A a all st i1 r b → (Dn i1 ∨ i1 = i) → ¬ Laid all an st k' i1 → New A a all st i' r' b' → (Dn i' ∨ i' = i) → ¬ Laid all an st k' i' →
      m' r = some l → m' r' = some l' → l.blk = l'.blk → i1 = i') :
    Inv A a all an st B0 w0 m' (fun j => Dn j ∨ j = i) k' (putArr arr o.dst x) w' := by
  refine ⟨?_, ?_, ?_, ?_, ?_, ?_, hkeep, hr, pend, dist⟩
  · rintro j (hj | rfl)
    · exact ⟨(I.down j hj).1, fun l hl => .inl ((I.down j hj).2 l hl)⟩
    · exact ⟨lt_of_get ho, fun l hl => .inl (hanc l hl)⟩
  · intro j oj hoj hlj
    rcases hk with ⟨hk1, hk2⟩ | ⟨hk1, hk2⟩
    · have hlev := I.lev_eq h ho hk1 hn hanc
      subst hk2
      constructor
      · rintro (hj | rfl)
        · exact Nat.lt_succ_of_lt ((I.rank j oj hoj hlj).1 hj)
        · omega
      · intro hj
        by_cases h1 : (st j).lev < k
        · exact .inl ((I.rank j oj hoj hlj).2 h1)
        · exact .inr (h.lev_inj hoj hlj ho hk1 (by omega))
    · subst hk2
      constructor
      · rintro (hj | rfl)
        · exact (I.rank j oj hoj hlj).1 hj
        · rw [ho] at hoj
          cases hoj
          exact absurd hlj hk1
      · exact fun hj => .inl ((I.rank j oj hoj hlj).2 hj)
  · rcases hk with ⟨hk1, hk2⟩ | ⟨hk1, hk2⟩
    · have hlev := I.lev_eq h ho hk1 hn hanc
      have := h.lev_lt ho hk1 (lt_of_get ho) (Nat.le_refl _)
      omega
    · rw [hk2]
      exact I.kle
  · unfold putArr
    split
    · simp [I.size]
    · exact I.size
  · intro y u hu hw
    by_cases hy : o.dst = some y
    · obtain ⟨h1, h2⟩ := h.dst_eq ho hd hy
      rw [h2] at hu
      cases hu
      refine ⟨x, ?_, hx⟩
      have : y < arr.size := by rw [I.size]; exact h1
      simp [putArr, hy, this]
    · obtain ⟨z, z1, z2⟩ := I.tm y u hu fun j o' ho' hd' => by
        rcases hw j o' ho' hd' with h1 | h1
        · exact h1
        · subst h1
          rw [ho] at ho'
          cases ho'
          exact absurd hd' hy
      refine ⟨z, ?_, VR.mono hle _ _ z2⟩
      unfold putArr
      split
      · next d hd' =>
        rw [Array.getElem?_setIfInBounds_ne (fun e => hy (by rw [hd', e]))]
        exact z1
      · exact z1
  · intro y u hu hw
    obtain ⟨z, z1, z2⟩ := I.tm0 y u hu fun j o' ho' hd' hc => hw j o' ho' hd' (.inl hc)
    refine ⟨z, ?_, VR.mono hle _ _ z2⟩
    have hy : o.dst ≠ some y := fun hc => hw i o ho hc (.inr rfl)
    unfold putArr
    split
    · next d hd' =>
      rw [Array.getElem?_setIfInBounds_ne (fun e => hy (by rw [hd', e]))]
      exact z1
    · exact z1

end
end Go.Am
