/- The abstract machine, part 25: a region in the order of the text, step by step. -/
import Derived.Test.YtkfoapjbfooneaaAm24
namespace Go.Am
open Go.RowKit

theorem dput_ok {sz : Nat} {t t' : T AV} {d : Option Tmp} {v : AV} (h : dput sz t d v = some t') :
    (∀ x, d ≠ some x → t'.get x = t.get x) ∧ ∀ x, d = some x → x < sz ∧ t'.get x = some v := by
  unfold dput at h
  split at h
  · next d =>
    split at h
    case h_2 => cases h
    next hlt =>
    cases h
    refine ⟨fun x hx => by rw [T.get_set, if_neg (fun e => hx (by rw [e]))], fun x hx => ?_⟩
    cases hx
    exact ⟨(by simpa [Nat.blt, Nat.ble_eq] using hlt : d + 1 ≤ sz), by rw [T.get_set, if_pos rfl]⟩
  · cases h
    exact ⟨fun _ _ => rfl, fun x hx => by cases hx⟩

section
variable {A : AP} {E : Eqs} {R : Runner} {fr : AFr} {all : List Oper} {an : T Nat}

/-- What one operation does in the order of the text. -/
structure DS (A : AP) (E : Eqs) (R : Runner) (fr : AFr) (all : List Oper) (an : T Nat) (i : Nat) (o : Oper) (S S' : DSt) (v : AV) : Prop where
  put : dput fr.sz S.t o.dst v = some S'.t
  is :
    (aguard all (restr S.t (looks all o)) o.guard = some false ∧ v = .tup [] ∧ kin o.op ≠ .loud ∧ S'.vs = S.vs ∧ S'.H = S.H ∧ S'.wait = S.wait ∧ S'.next = S.next ∧ S'.Hs = S.Hs ∧ S'.lev = S.lev) ∨
    (aguard all (restr S.t (looks all o)) o.guard = some false ∧ v = .tup [] ∧ kin o.op = .loud ∧ S'.vs = S.vs ∧ S'.H = S.H ∧ S'.wait = S.wait ∧ S'.next = S.next ∧ S'.Hs = S.Hs.set (S.lev + 1) S.H ∧ S'.lev = S.lev + 1) ∨
    (aguard all (restr S.t (looks all o)) o.guard = some true ∧ kin o.op = .quiet ∧ (∃ H1, aop A E S.H { fr with tmps := restr S.t (looks all o) }.ev o = some (.val v H1)) ∧
      S'.vs = S.vs.set i v ∧ S'.H = S.H ∧ S'.wait = S.wait ∧ S'.next = S.next ∧ S'.Hs = S.Hs ∧ S'.lev = S.lev) ∨
    (aguard all (restr S.t (looks all o)) o.guard = some true ∧ kin o.op = .new ∧ ∃ b, anew A { fr with tmps := restr S.t (looks all o) }.ev S.next o.op = some (v, b) ∧
      S'.vs = S.vs ∧ S'.H = S.H ∧ S'.wait = (i, S.next, b) :: S.wait ∧ S'.next = S.next + 1 ∧ S'.Hs = S.Hs ∧ S'.lev = S.lev) ∨
    (aguard all (restr S.t (looks all o)) o.guard = some true ∧ kin o.op = .loud ∧
      R { fr := { fr with tmps := restr S.t (looks all o), todo := [.one all o], defers := [], mode := .run }, cs := [], H := layAll (parted (anc an i) S.wait).1 S.H } = some (v, S'.H) ∧
      S'.vs = S.vs ∧ S'.wait = (parted (anc an i) S.wait).2 ∧ S'.next = S.next ∧ S'.Hs = S.Hs.set (S.lev + 1) S'.H ∧ S'.lev = S.lev + 1)

theorem dstep_ok {i : Nat} {o : Oper} {S S' : DSt} (e : dstep A E R fr all an i o S = some S') : ∃ v, DS A E R fr all an i o S S' v := by
  unfold dstep at e
  split at e
  · cases e
  · next hg =>
    split at e
    case h_2 => cases e
    next t ht =>
    split at e
    · next hk => cases e; exact ⟨_, ht, .inr (.inl ⟨hg, rfl, hk, rfl, rfl, rfl, rfl, rfl, rfl⟩)⟩
    · next hk => cases e; exact ⟨_, ht, .inl ⟨hg, rfl, fun h => hk h, rfl, rfl, rfl, rfl, rfl, rfl⟩⟩
  · next hg =>
    split at e
    · next hk =>
      split at e
      case h_2 => cases e
      next v H1 ho =>
      split at e
      case h_2 => cases e
      next t ht =>
      cases e
      exact ⟨_, ht, .inr (.inr (.inl ⟨hg, hk, ⟨H1, ho⟩, rfl, rfl, rfl, rfl, rfl, rfl⟩))⟩
    · next hk =>
      split at e
      case h_2 => cases e
      next v b ho =>
      split at e
      case h_2 => cases e
      next t ht =>
      cases e
      exact ⟨_, ht, .inr (.inr (.inr (.inl ⟨hg, hk, b, ho, rfl, rfl, rfl, rfl, rfl, rfl⟩)))⟩
    · next hk =>
      split at e
      next now wait hp =>
      split at e
      case h_2 => cases e
      next v H' ho =>
      split at e
      case h_2 => cases e
      next t ht =>
      cases e
      have hp' : parted (anc an i) S.wait = (now, wait) := hp
      refine ⟨_, ht, .inr (.inr (.inr (.inr ⟨hg, hk, ?_, rfl, by rw [hp'], rfl, rfl, rfl⟩)))⟩
      rw [hp']
      exact ho

theorem dcanon_ok : ∀ (os : List Oper) (i : Nat) (S S' : DSt), dcanon A E R fr all an os i S = some S' →
    ∃ st : Nat → DSt, st i = S ∧ st (i + os.length) = S' ∧ ∀ j o, os[j]? = some o → ∃ v, DS A E R fr all an (i + j) o (st (i + j)) (st (i + j + 1)) v
  | [], i, S, S', e => by
    cases e
    exact ⟨fun _ => S, rfl, rfl, fun j o h => by simp at h⟩
  | o :: os, i, S, S', e => by
    simp only [dcanon] at e
    split at e
    case h_2 => cases e
    next S1 h1 =>
    obtain ⟨st, s1, s2, s3⟩ := dcanon_ok os (i + 1) S1 S' e
    refine ⟨fun k => if k = i then S else st k, by simp, ?_, fun j o' ho => ?_⟩
    · have hne : ¬ i + (o :: os).length = i := by simp
      simp only [hne, if_false]
      rw [← s2]
      congr 1
      simp only [List.length_cons]
      omega
    · cases j with
      | zero =>
        simp at ho
        subst ho
        simp only [Nat.add_zero, if_true, if_neg (show ¬ i + 1 = i by omega), s1]
        exact dstep_ok h1
      | succ j =>
        have := s3 j o' (by simpa using ho)
        simp only [if_neg (show ¬ i + (j + 1) = i by omega), if_neg (show ¬ i + (j + 1) + 1 = i by omega)]
        rw [show i + (j + 1) = i + 1 + j from by omega]
        exact this

/-- A run in the order of the text. -/
structure Tr (A : AP) (E : Eqs) (R : Runner) (fr : AFr) (all : List Oper) (an : T Nat) (st : Nat → DSt) : Prop where
  stat : RStat all an
  step : ∀ (i : Nat) (o : Oper), all[i]? = some o → ∃ v, DS A E R fr all an i o (st i) (st (i + 1)) v
  t0 : (st 0).t = fr.tmps
  lev0 : (st 0).lev = 0
  Hs0 : (st 0).Hs.get 0 = some (st 0).H
  wait0 : (st 0).wait = []

variable {st : Nat → DSt}

theorem DS.lev {i : Nat} {o : Oper} {S S' : DSt} {v : AV} (h : DS A E R fr all an i o S S' v) : (kin o.op = .loud ∧ S'.lev = S.lev + 1) ∨ (kin o.op ≠ .loud ∧ S'.lev = S.lev) := by
  rcases h.is with h | h | h | h | h
  · exact .inr ⟨h.2.2.1, h.2.2.2.2.2.2.2.2⟩
  · exact .inl ⟨h.2.2.1, h.2.2.2.2.2.2.2.2⟩
  · exact .inr ⟨by rw [h.2.1]; simp, h.2.2.2.2.2.2.2.2⟩
  · obtain ⟨_, h1, b, h2⟩ := h
    exact .inr ⟨by rw [h1]; simp, h2.2.2.2.2.2.2⟩
  · exact .inl ⟨h.2.1, h.2.2.2.2.2.2.2⟩

/-- From one to a later one. -/
theorem up (R : DSt → DSt → Prop) (hr : ∀ S, R S S) (ht : ∀ S S' S'', R S S' → R S' S'' → R S S'') {n : Nat} (h : ∀ i, i < n → R (st i) (st (i + 1))) :
    ∀ i j, i ≤ j → j ≤ n → R (st i) (st j) := by
  intro i j
  induction j with
  | zero => intro h1 _; rw [Nat.le_zero.1 h1]; exact hr _
  | succ j ih =>
    intro h1 h2
    rcases Nat.lt_or_ge i (j + 1) with h3 | h3
    · exact ht _ _ _ (ih (by omega) (by omega)) (h j (by omega))
    · rw [show i = j + 1 from by omega]
      exact hr _

theorem Tr.op (h : Tr A E R fr all an st) {i : Nat} (hi : i < all.length) : ∃ o, all[i]? = some o ∧ ∃ v, DS A E R fr all an i o (st i) (st (i + 1)) v :=
  ⟨all[i], List.getElem?_eq_getElem hi, h.step i _ (List.getElem?_eq_getElem hi)⟩

theorem lt_of_get {i : Nat} {o : Oper} (h : all[i]? = some o) : i < all.length := (List.getElem?_eq_some_iff.1 h).1

theorem Tr.lev_le (h : Tr A E R fr all an st) : ∀ i j, i ≤ j → j ≤ all.length → (st i).lev ≤ (st j).lev :=
  up (fun S S' => S.lev ≤ S'.lev) (fun _ => Nat.le_refl _) (fun _ _ _ => Nat.le_trans) fun i hi => by
    obtain ⟨o, _, v, hd⟩ := h.op hi
    rcases hd.lev with h | h <;> omega

theorem Tr.lev_lt (h : Tr A E R fr all an st) {i j : Nat} {o : Oper} (ho : all[i]? = some o) (hl : kin o.op = .loud) (hij : i < j) (hj : j ≤ all.length) : (st i).lev < (st j).lev := by
  obtain ⟨v, hd⟩ := h.step i o ho
  have h1 := h.lev_le (i + 1) j (by omega) hj
  rcases hd.lev with h2 | h2
  · omega
  · exact absurd hl h2.1

theorem Tr.lev_inj (h : Tr A E R fr all an st) {i j : Nat} {o o' : Oper} (ho : all[i]? = some o) (hl : kin o.op = .loud) (ho' : all[j]? = some o') (hl' : kin o'.op = .loud)
    (he : (st i).lev = (st j).lev) : i = j := by
  rcases Nat.lt_trichotomy i j with h1 | h1 | h1
  · have := h.lev_lt ho hl h1 (Nat.le_of_lt (lt_of_get ho'))
    omega
  · exact h1
  · have := h.lev_lt ho' hl' h1 (Nat.le_of_lt (lt_of_get ho))
    omega

theorem Tr.lev_at (h : Tr A E R fr all an st) {c : Nat} : ∀ j, j ≤ all.length → c < (st j).lev → ∃ i o, i < j ∧ all[i]? = some o ∧ kin o.op = .loud ∧ (st i).lev = c
  | 0, _, hc => by rw [h.lev0] at hc; omega
  | j + 1, hj, hc => by
    obtain ⟨o, ho, v, hd⟩ := h.op (i := j) (by omega)
    by_cases h1 : c < (st j).lev
    · obtain ⟨i, o', h2, h3⟩ := h.lev_at j (by omega) h1
      exact ⟨i, o', by omega, h3⟩
    · rcases hd.lev with h2 | h2
      · exact ⟨j, o, by omega, ho, h2.1, by omega⟩
      · omega

/-- A temporary that nobody writes any more. -/
theorem Tr.t_eq (h : Tr A E R fr all an st) {x : Nat} {i : Nat} (hi : i ≤ all.length) (hx : ∀ (j : Nat) (o : Oper), all[j]? = some o → o.dst = some x → j < i) :
    ∀ j, i ≤ j → j ≤ all.length → (st j).t.get x = (st i).t.get x := by
  intro j
  induction j with
  | zero => intro h1 _; rw [Nat.le_zero.1 h1]
  | succ j ih =>
    intro h1 h2
    rcases Nat.lt_or_ge i (j + 1) with h3 | h3
    · obtain ⟨o, ho, v, hd⟩ := h.op (i := j) (by omega)
      rw [← ih (by omega) (by omega)]
      exact (dput_ok hd.put).1 x fun e => by have := hx j o ho e; omega
    · rw [show i = j + 1 from by omega]

/-- A temporary that nobody has written yet. -/
theorem Tr.t_old (h : Tr A E R fr all an st) {x : Nat} : ∀ i, i ≤ all.length → (∀ (j : Nat) (o : Oper), all[j]? = some o → o.dst = some x → i ≤ j) → (st i).t.get x = (st 0).t.get x
  | 0, _, _ => rfl
  | i + 1, hi, hx => by
    obtain ⟨o, ho, v, hd⟩ := h.op (i := i) (by omega)
    rw [← h.t_old i (by omega) fun j o' ho' hd' => by have := hx j o' ho' hd'; omega]
    exact (dput_ok hd.put).1 x fun e => by have := hx i o ho e; omega

/-- What a reading looks at is as it is in the end. -/
theorem Tr.looks_eq (h : Tr A E R fr all an st) {i : Nat} {o : Oper} (ho : all[i]? = some o) (hrd : readOp o.op = true) : restr (st i).t (looks all o) = restr (st all.length).t (looks all o) :=
  restr_congr _ fun x hx => (h.t_eq (Nat.le_of_lt (lt_of_get ho)) (fun j o' ho' hd => h.stat.lt i (lt_of_get ho) j ((h.stat.look i j o o' x ho ho' hd hx).resolve_right fun hc => by rw [hrd] at hc; cases hc.2)) _ (Nat.le_of_lt (lt_of_get ho)) (Nat.le_refl _)).symm

/-- What an operation has written stays. -/
theorem Tr.dst_eq (h : Tr A E R fr all an st) {i : Nat} {o : Oper} {v : AV} (ho : all[i]? = some o) (hd : DS A E R fr all an i o (st i) (st (i + 1)) v) {x : Nat} (hx : o.dst = some x) :
    x < fr.sz ∧ (st all.length).t.get x = some v := by
  obtain ⟨h1, h2⟩ := (dput_ok hd.put).2 x hx
  refine ⟨h1, ?_⟩
  rw [h.t_eq (i := i + 1) (lt_of_get ho) (fun j o' ho' hd' => ?_) _ (lt_of_get ho) (Nat.le_refl _)]
  · exact h2
  · have := h.stat.dst i j o o' x ho ho' hx hd'
    omega

theorem Tr.free_eq (h : Tr A E R fr all an st) {x : Nat} (hx : ∀ (j : Nat) (o : Oper), all[j]? = some o → o.dst ≠ some x) : (st all.length).t.get x = fr.tmps.get x := by
  rw [h.t_eq (i := 0) (Nat.zero_le _) (fun j o ho hd => absurd hd (hx j o ho)) _ (Nat.zero_le _) (Nat.le_refl _), h.t0]

theorem Tr.Hs_top (h : Tr A E R fr all an st) : ∀ i, i ≤ all.length → (st i).Hs.get (st i).lev = some (st i).H
  | 0, _ => by rw [h.lev0]; exact h.Hs0
  | i + 1, hi => by
    obtain ⟨o, ho, v, hd⟩ := h.op (i := i) (by omega)
    have ih := h.Hs_top i (by omega)
    rcases hd.is with h | h | h | ⟨_, _, b, h⟩ | h
    · obtain ⟨_, _, _, _, h1, _, _, h2, h3⟩ := h; rw [h1, h2, h3]; exact ih
    · obtain ⟨_, _, _, _, h1, _, _, h2, h3⟩ := h; rw [h1, h2, h3, T.get_set, if_pos rfl]
    · obtain ⟨_, _, _, _, h1, _, _, h2, h3⟩ := h; rw [h1, h2, h3]; exact ih
    · obtain ⟨_, _, h1, _, _, h2, h3⟩ := h; rw [h1, h2, h3]; exact ih
    · obtain ⟨_, _, _, _, _, _, h2, h3⟩ := h; rw [h2, h3, T.get_set, if_pos rfl]

theorem Tr.Hs_eq (h : Tr A E R fr all an st) {i : Nat} {k : Nat} (hk : k ≤ (st i).lev) : ∀ j, i ≤ j → j ≤ all.length → (st j).Hs.get k = (st i).Hs.get k := by
  intro j
  induction j with
  | zero => intro h1 _; rw [Nat.le_zero.1 h1]
  | succ j ih =>
    intro h1 h2
    rcases Nat.lt_or_ge i (j + 1) with h3 | h3
    · obtain ⟨o, ho, v, hd⟩ := h.op (i := j) (by omega)
      have hle := h.lev_le i j (by omega) (by omega)
      rw [← ih (by omega) (by omega)]
      rcases hd.is with h | h | h | ⟨_, _, b, h⟩ | h
      · obtain ⟨_, _, _, _, h1, _, _, h2, h3⟩ := h; rw [h2]
      · obtain ⟨_, _, _, _, h1, _, _, h2, h3⟩ := h; rw [h2, T.get_set, if_neg (by omega)]
      · obtain ⟨_, _, _, _, h1, _, _, h2, h3⟩ := h; rw [h2]
      · obtain ⟨_, _, h1, _, _, h2, h3⟩ := h; rw [h2]
      · obtain ⟨_, _, _, _, _, _, h2, h3⟩ := h; rw [h2, T.get_set, if_neg (by omega)]
    · rw [show i = j + 1 from by omega]

theorem Tr.heap (h : Tr A E R fr all an st) {i : Nat} (hi : i ≤ all.length) : (st all.length).Hs.get (st i).lev = some (st i).H := by
  rw [h.Hs_eq (i := i) (Nat.le_refl _) _ hi (Nat.le_refl _)]
  exact h.Hs_top i hi

theorem Tr.vs_eq (h : Tr A E R fr all an st) {i : Nat} : ∀ j, i ≤ j → j ≤ all.length → ∀ k, k < i → (st j).vs.get k = (st i).vs.get k := by
  intro j
  induction j with
  | zero => intro h1 _ k hk; rw [Nat.le_zero.1 h1]
  | succ j ih =>
    intro h1 h2 k hk
    rcases Nat.lt_or_ge i (j + 1) with h3 | h3
    · obtain ⟨o, ho, v, hd⟩ := h.op (i := j) (by omega)
      rw [← ih (by omega) (by omega) k hk]
      rcases hd.is with h | h | h | ⟨_, _, b, h⟩ | h
      · rw [h.2.2.2.1]
      · rw [h.2.2.2.1]
      · rw [h.2.2.2.1, T.get_set, if_neg (by omega)]
      · rw [h.2.1]
      · rw [h.2.2.2.1]
    · rw [show i = j + 1 from by omega]

theorem DS.next {i : Nat} {o : Oper} {S S' : DSt} {v : AV} (h : DS A E R fr all an i o S S' v) : (kin o.op = .new ∧ S'.next = S.next + 1) ∨ S'.next = S.next := by
  rcases h.is with h | h | h | ⟨_, h1, b, h⟩ | h
  · exact .inr h.2.2.2.2.2.2.1
  · exact .inr h.2.2.2.2.2.2.1
  · exact .inr h.2.2.2.2.2.2.1
  · exact .inl ⟨h1, h.2.2.2.2.1⟩
  · exact .inr h.2.2.2.2.2.1

theorem Tr.next_le (h : Tr A E R fr all an st) : ∀ i j, i ≤ j → j ≤ all.length → (st i).next ≤ (st j).next :=
  up (fun S S' => S.next ≤ S'.next) (fun _ => Nat.le_refl _) (fun _ _ _ => Nat.le_trans) fun i hi => by
    obtain ⟨o, _, v, hd⟩ := h.op hi
    rcases hd.next with h | h <;> omega

theorem Tr.next_top (h : Tr A E R fr all an st) : ∀ (os : List Oper) (i : Nat), all.drop i = os → i ≤ all.length → (st all.length).next ≤ (st i).next + countNew os
  | [], i, hos, hi => by
    have : all.length ≤ i := by simpa using hos
    rw [show i = all.length from by omega]
    simp [countNew]
  | o :: os, i, hos, hi => by
    have hlt : i < all.length := by
      rcases Nat.lt_or_ge i all.length with h1 | h1
      · exact h1
      · rw [List.drop_eq_nil_of_le h1] at hos; cases hos
    have hd := List.drop_eq_getElem_cons hlt
    rw [hos] at hd
    simp only [List.cons.injEq] at hd
    obtain ⟨o', ho', v, hds⟩ := h.op hlt
    rw [List.getElem?_eq_getElem hlt, ← hd.1] at ho'
    cases ho'
    have ih := h.next_top os (i + 1) hd.2.symm hlt
    have hc : countNew os ≤ countNew (o :: os) := by
      simp only [countNew]
      split <;> omega
    rcases hds.next with ⟨h1, h2⟩ | h1
    · have : countNew (o :: os) = countNew os + 1 := by simp only [countNew, h1]
      omega
    · omega

end
end Go.Am
