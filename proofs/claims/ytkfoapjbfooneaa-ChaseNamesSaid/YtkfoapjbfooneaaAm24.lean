/- The abstract machine, part 24: what is known of a region ahead of its run. -/
import Derived.Test.YtkfoapjbfooneaaAm23
namespace Go.Am
open Go.RowKit

theorem get_restr (t : T AV) : ∀ (l : List Tmp) (x : Nat), (restr t l).get x = if x ∈ l then t.get x else none
  | [], x => by simp [restr, T.get_nil]
  | y :: l, x => by
    simp only [restr]
    cases hy : t.get y with
    | none =>
      simp only [get_restr t l x, List.mem_cons]
      by_cases hxy : x = y
      · subst hxy
        simp [hy]
      · simp [hxy]
    | some v =>
      simp only [T.get_set, get_restr t l x, List.mem_cons]
      by_cases hxy : x = y
      · subst hxy
        simp [hy]
      · simp [hxy]

theorem restr_congr {t t' : T AV} : ∀ (l : List Tmp), (∀ x ∈ l, t.get x = t'.get x) → restr t l = restr t' l
  | [], _ => rfl
  | y :: l, h => by
    simp only [restr, h y (by simp), restr_congr l fun x hx => h x (by simp [hx])]

def anc (an : T Nat) (i : Nat) : Nat := (an.get i).getD 0

theorem bit_ancOf (look : T Nat) (j : Nat) : ∀ (es : List Edge) (s : Nat), (ancOf look es s).testBit j = true ↔
    s.testBit j = true ∨ ∃ e ∈ es, Region.binds .any e = true ∧ (j = e.on ∨ (anc look e.on).testBit j = true)
  | [], s => by simp [ancOf]
  | e :: es, s => by
    simp only [ancOf]
    cases hb : Region.binds .any e with
    | true =>
      simp only [bit_ancOf look j es, Nat.testBit_or, Bool.or_eq_true, Nat.one_shiftLeft, Nat.testBit_two_pow, decide_eq_true_eq, List.mem_cons]
      constructor
      · rintro ((h | h) | h)
        · rcases h with h | h
          · exact .inl h
          · exact .inr ⟨e, .inl rfl, hb, .inl h.symm⟩
        · exact .inr ⟨e, .inl rfl, hb, .inr h⟩
        · obtain ⟨e', h1, h2⟩ := h
          exact .inr ⟨e', .inr h1, h2⟩
      · rintro (h | ⟨e', h1 | h1, h2, h3⟩)
        · exact .inl (.inl (.inl h))
        · subst h1
          rcases h3 with h3 | h3
          · exact .inl (.inl (.inr h3.symm))
          · exact .inl (.inr h3)
        · exact .inr ⟨e', h1, h2, h3⟩
    | false =>
      simp only [bit_ancOf look j es, List.mem_cons]
      constructor
      · rintro (h | ⟨e', h1, h2⟩)
        · exact .inl h
        · exact .inr ⟨e', .inr h1, h2⟩
      · rintro (h | ⟨e', h1 | h1, h2, h3⟩)
        · exact .inl h
        · subst h1
          rw [hb] at h2
          cases h2
        · exact .inr ⟨e', h1, h2, h3⟩

theorem edges_spec : ∀ (os : List Oper) (i : Nat), edgesOk os i = true → ∀ j o, os[j]? = some o → ∀ e ∈ o.after.toList, Region.binds .any e = true → e.on < i + j
  | [], _, _, j, o, h => by simp at h
  | x :: os, i, hk, j, o, h => by
    simp only [edgesOk] at hk
    split at hk
    case h_2 => cases hk
    next hx =>
    cases j with
    | zero =>
      simp at h
      subst h
      intro e he hb
      have := List.all_eq_true.1 hx e he
      simp only [hb, Bool.not_true, Bool.false_or, Nat.blt, Nat.ble_eq] at this
      exact this
    | succ j =>
      intro e he hb
      have := edges_spec os (i + 1) hk j o (by simpa using h) e he hb
      omega

theorem ancOf_congr {look look' : T Nat} : ∀ (es : List Edge) (s : Nat), (∀ e ∈ es, Region.binds .any e = true → look.get e.on = look'.get e.on) → ancOf look es s = ancOf look' es s
  | [], _, _ => rfl
  | e :: es, s, h => by
    have ih := fun s => ancOf_congr es s fun e' he => h e' (by simp [he])
    simp only [ancOf]
    cases hb : Region.binds .any e with
    | true => simp only [h e (by simp) hb, ih]
    | false => simp only [ih]

theorem ancs_spec : ∀ (os : List Oper) (i : Nat) (t : T Nat), edgesOk os i = true →
    (∀ x, x < i → (ancs os i t).get x = t.get x) ∧ ∀ j o, os[j]? = some o → (ancs os i t).get (i + j) = some (ancOf (ancs os i t) o.after.toList 0)
  | [], _, _, _ => ⟨fun _ _ => rfl, fun j o h => by simp at h⟩
  | x :: os, i, t, hk => by
    have hes := edges_spec (x :: os) i hk
    have hk' := hk
    simp only [edgesOk] at hk
    split at hk
    case h_2 => cases hk
    obtain ⟨h1, h2⟩ := ancs_spec os (i + 1) (t.set i (ancOf t x.after.toList 0)) hk
    simp only [ancs]
    refine ⟨fun y hy => ?_, fun j o h => ?_⟩
    · rw [h1 y (by omega), T.get_set, if_neg (by omega)]
    · cases j with
      | zero =>
        simp at h
        subst h
        refine (h1 i (by omega)).trans ?_
        rw [T.get_set, if_pos rfl]
        refine congrArg some (ancOf_congr _ _ fun e he hb => ?_)
        have := hes 0 x rfl e he hb
        rw [h1 e.on (by omega), T.get_set, if_neg (by omega)]
      | succ j =>
        have := h2 j o (by simpa using h)
        rw [show i + (j + 1) = i + 1 + j from by omega]
        exact this

theorem writers_spec : ∀ (os : List Oper) (i : Nat) (t wr : T Nat), writers os i t = some wr →
    (∀ d j, t.get d = some j → wr.get d = some j) ∧ ∀ j o d, os[j]? = some o → o.dst = some d → wr.get d = some (i + j)
  | [], _, _, _, h => by
    cases h
    exact ⟨fun _ _ h => h, fun j o d h => by simp at h⟩
  | x :: os, i, t, wr, h => by
    simp only [writers] at h
    split at h
    · next d hd =>
      split at h
      · cases h
      next hn =>
      obtain ⟨h1, h2⟩ := writers_spec os (i + 1) _ wr h
      refine ⟨fun d' j hj => h1 d' j ?_, fun j o d' ho hd' => ?_⟩
      · rw [T.get_set, if_neg (fun e => by subst e; rw [hn] at hj; cases hj)]
        exact hj
      · cases j with
        | zero =>
          simp at ho
          subst ho
          rw [hd] at hd'
          cases hd'
          exact h1 d i (by rw [T.get_set, if_pos rfl])
        | succ j =>
          rw [show i + (j + 1) = i + 1 + j from by omega]
          exact h2 j o d' (by simpa using ho) hd'
    · next hd =>
      obtain ⟨h1, h2⟩ := writers_spec os (i + 1) _ wr h
      refine ⟨h1, fun j o d' ho hd' => ?_⟩
      cases j with
      | zero =>
        simp at ho
        subst ho
        rw [hd] at hd'
        cases hd'
      | succ j =>
        rw [show i + (j + 1) = i + 1 + j from by omega]
        exact h2 j o d' (by simpa using ho) hd'

theorem looks_spec (all : List Oper) (an wr : T Nat) : ∀ (os : List Oper) (i : Nat), looksOk all an wr os i = true →
    ∀ j o, os[j]? = some o → ∀ x ∈ looks all o, ∀ w, wr.get x = some w → (anc an (i + j)).testBit w = true ∨ ((anc an w).testBit (i + j) = true ∧ readOp o.op = false)
  | [], _, _, j, o, h => by simp at h
  | y :: os, i, hk, j, o, h => by
    simp only [looksOk] at hk
    split at hk
    case h_2 => cases hk
    next hy =>
    cases j with
    | zero =>
      simp at h
      subst h
      intro x hx w hw
      have := List.all_eq_true.1 hy x hx
      simp only [hw, Bool.or_eq_true, Bool.and_eq_true, Bool.not_eq_true'] at this
      exact this
    | succ j =>
      rw [show i + (j + 1) = i + 1 + j from by omega]
      exact looks_spec all an wr os (i + 1) hk j o (by simpa using h)

theorem chain_spec (an : T Nat) : ∀ (os : List Oper) (i : Nat) (es : List Nat), chainOk an os i es = true →
    ∀ j o, os[j]? = some o → kin o.op = .loud → (∀ e ∈ es, (anc an (i + j)).testBit e = true) ∧
      ∀ j' o', j' < j → os[j']? = some o' → kin o'.op = .loud → (anc an (i + j)).testBit (i + j') = true
  | [], _, _, _, j, o, h => by simp at h
  | y :: os, i, es, hk, j, o, h => by
    intro hl
    simp only [chainOk] at hk
    cases j with
    | zero =>
      simp at h
      subst h
      simp only [hl] at hk
      split at hk
      case h_2 => cases hk
      next he =>
      exact ⟨fun e hee => List.all_eq_true.1 he e hee, fun j' _ hj => by omega⟩
    | succ j =>
      rw [show i + (j + 1) = i + 1 + j from by omega]
      have quiet : ∀ (hk : chainOk an os (i + 1) es = true), kin y.op ≠ .loud → (∀ e ∈ es, (anc an (i + 1 + j)).testBit e = true) ∧
          ∀ j' o', j' < j + 1 → (y :: os)[j']? = some o' → kin o'.op = .loud → (anc an (i + 1 + j)).testBit (i + j') = true := by
        intro hk hy
        obtain ⟨h1, h2⟩ := chain_spec an os (i + 1) es hk j o (by simpa using h) hl
        refine ⟨h1, fun j' o' hj ho' hl' => ?_⟩
        cases j' with
        | zero =>
          simp at ho'
          subst ho'
          exact absurd hl' hy
        | succ j' =>
          rw [show i + (j' + 1) = i + 1 + j' from by omega]
          exact h2 j' o' (by omega) (by simpa using ho') hl'
      split at hk
      · next hy => exact quiet hk (by rw [hy]; simp)
      · next hy => exact quiet hk (by rw [hy]; simp)
      · next hy =>
        split at hk
        case h_2 => cases hk
        obtain ⟨h1, h2⟩ := chain_spec an os (i + 1) (i :: es) hk j o (by simpa using h) hl
        refine ⟨fun e he => h1 e (by simp [he]), fun j' o' hj ho' hl' => ?_⟩
        cases j' with
        | zero => exact h1 i (by simp)
        | succ j' =>
          rw [show i + (j' + 1) = i + 1 + j' from by omega]
          exact h2 j' o' (by omega) (by simpa using ho') hl'

/-- What is known of a region ahead of its run. -/
structure RStat (all : List Oper) (an : T Nat) : Prop where
  edge : ∀ (i : Nat) (o : Oper), all[i]? = some o → ∀ e ∈ o.after.toList, Region.binds .any e = true → e.on < i
  back : ∀ (i : Nat) (o : Oper), all[i]? = some o → ∀ j, (anc an i).testBit j = true → ∃ e ∈ o.after.toList, Region.binds .any e = true ∧ (j = e.on ∨ (anc an e.on).testBit j = true)
  dst : ∀ (i j : Nat) (o o' : Oper) d, all[i]? = some o → all[j]? = some o' → o.dst = some d → o'.dst = some d → i = j
  look : ∀ (i j : Nat) (o o' : Oper) d, all[i]? = some o → all[j]? = some o' → o'.dst = some d → d ∈ looks all o → (anc an i).testBit j = true ∨ ((anc an j).testBit i = true ∧ readOp o.op = false)
  chain : ∀ (i j : Nat) (o o' : Oper), all[i]? = some o → all[j]? = some o' → kin o.op = .loud → kin o'.op = .loud → j < i → (anc an i).testBit j = true

theorem dstat_ok {all : List Oper} {an : T Nat} (h : dstat all = some an) : RStat all an := by
  unfold dstat at h
  split at h
  · cases h
  next he =>
  split at h
  · cases h
  next wr hw =>
  split at h
  case h_2 => cases h
  next hx =>
  simp only [Bool.and_eq_true] at hx
  cases h
  obtain ⟨_, ha⟩ := ancs_spec all 0 .nil he
  have hes := edges_spec all 0 he
  have hws := (writers_spec all 0 .nil wr hw).2
  refine ⟨fun i o ho e h1 h2 => by simpa using hes i o ho e h1 h2, fun i o ho j hj => ?_, fun i j o o' d ho ho' hd hd' => ?_, fun i j o o' d ho ho' hd hl => ?_, fun i j o o' ho ho' hl hl' hji => ?_⟩
  · have h1 := ha i o ho
    rw [Nat.zero_add] at h1
    have h2 : anc (ancs all 0 .nil) i = ancOf (ancs all 0 .nil) o.after.toList 0 := by unfold anc; rw [h1]; rfl
    rw [h2, bit_ancOf] at hj
    rcases hj with hj | hj
    · simp at hj
    · exact hj
  · have h1 := hws i o d ho hd
    have h2 := hws j o' d ho' hd'
    rw [h1] at h2
    simpa using h2
  · have := looks_spec all _ wr all 0 hx.1.1 i o ho d hl _ (hws j o' d ho' hd)
    simpa using this
  · have := (chain_spec _ all 0 [] hx.1.2 i o ho hl).2 j o' hji ho' hl'
    simpa using this

theorem RStat.lt {all : List Oper} {an : T Nat} (h : RStat all an) : ∀ (i : Nat), i < all.length → ∀ j, (anc an i).testBit j = true → j < i := by
  intro i
  induction i using Nat.strongRecOn with
  | _ i ih =>
    intro hi j hj
    have ho := List.getElem?_eq_getElem hi
    obtain ⟨e, h1, h2, h3⟩ := h.back i _ ho j hj
    have h4 := h.edge i _ ho e h1 h2
    rcases h3 with h3 | h3
    · omega
    · have := ih e.on h4 (by omega) j h3
      omega

end Go.Am
