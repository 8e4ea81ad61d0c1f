/- The abstract machine, part 3: cells read and written. -/
import Derived.Test.YtkfoapjbfooneaaAm2
namespace Go.Am
open Go.RowKit

def AV.one : AV → Bool
  | .agg _ => false
  | .tup _ => false
  | _ => true

theorem VR.one {m : Env} {v : AV} {x : Value} (h : VR m v x) (hv : v.one = true) : x.oneCell' = true := by
  cases v <;> simp only [VR, AV.one, Bool.false_eq_true] at h hv <;> first
    | (subst h; rfl)
    | (obtain ⟨l, _, rfl⟩ := h; rfl)
    | (obtain ⟨l, rfl⟩ := h; rfl)
    | (obtain ⟨l, p, c, _, rfl, _⟩ := h; rfl)
    | (obtain ⟨x, y, rfl, _⟩ := h; rfl)
    | (obtain ⟨x, rfl, _⟩ := h; rfl)

/-- Blocks of a list are dropped, but those that may stay. -/
def kill (keep : Nat → ABlk → Bool) : List Nat → T ABlk → T ABlk
  | [], t => t
  | x :: L, t => kill keep L (match t.get x with
    | some b => match keep x b with
      | true => t
      | false => t.del x
    | none => t)

theorem get_kill (keep : Nat → ABlk → Bool) : ∀ (L : List Nat) (t : T ABlk) (k : Nat) (b : ABlk), (kill keep L t).get k = some b →
    t.get k = some b ∧ (k ∈ L → keep k b = true)
  | [], t, k, b, h => ⟨h, fun e => by cases e⟩
  | x :: L, t, k, b, h => by
    have ih := get_kill keep L _ k b h
    by_cases hk : k = x
    · subst hk
      cases hx : t.get k with
      | none => simp only [hx] at ih; exact absurd ih.1 (by simp)
      | some b' =>
        simp only [hx] at ih
        cases hkeep : keep k b' with
        | false =>
          simp only [hkeep] at ih
          rw [T.get_del, if_pos rfl] at ih
          exact absurd ih.1 (by simp)
        | true =>
          simp only [hkeep] at ih
          have e : b' = b := Option.some.inj (hx.symm.trans ih.1)
          subst e
          exact ⟨rfl, fun _ => hkeep⟩
    · have hget : t.get k = some b := by
        cases hx : t.get x with
        | none => simp only [hx] at ih; exact ih.1
        | some b' =>
          simp only [hx] at ih
          cases hkeep : keep x b' with
          | false => simp only [hkeep] at ih; rw [T.get_del, if_neg hk] at ih; exact ih.1
          | true => simp only [hkeep] at ih; exact ih.1
      exact ⟨hget, fun e => by
        rcases List.mem_cons.1 e with e | e
        · exact absurd e hk
        · exact ih.2 e⟩

def Heap.cell (H : Heap) (a i : Nat) : Option AV :=
  match H.blks.get a with
  | some (.cells _ _ _ c) => c.get i
  | _ => none

def Heap.put (H : Heap) (a i : Nat) (v : AV) : Option Heap :=
  match H.blks.get a with
  | some (.cells t f n c) => match c.get i with
    | none => none
    | some _ => match H.fams.get f with
      | none => none
      | some [] => none
      | some [_] => some { H with blks := H.blks.set a (.cells t f n (c.set i v)) }
      | some L => some { H with blks := (kill (fun _ _ => false) L H.blks).set a (.cells t f n (c.set i v)), fams := H.fams.set f [a] }
  | _ => none

section
variable {B0 : Prot} {w0 : World} {m : Env} {H : Heap} {w : World}

theorem upd_setCell (w : World) (k i : Nat) (x : Value) {arr : Array Value} {t : TypeId} (h : w.heap[k]? = some (.cells arr t (0, 0))) :
    Upd w (w.setCell ⟨k, i, none⟩ x) k (.cells (arr.setIfInBounds i x) t (0, 0)) := by
  refine ⟨rfl, rfl, rfl, by simp, ?_, fun j hj => Below.heap_setCell _ _ _ _ hj⟩
  simp only [World.setCell, Array.getElem?_modify, if_true, h]
  rfl

theorem HR.get_cells (h : HR B0 w0 m H w) {a : Nat} {t : TypeId} {f n : Nat} {c : T AV} (hb : H.blks.get a = some (.cells t f n c)) :
    ∃ l arr, m a = some l ∧ w.heap[l.blk]? = some (.cells arr t (0, 0)) ∧ arr.size = l.size ∧ n + l.sh ≤ l.size ∧
      ∀ i v, c.get i = some v → i < n ∧ ∃ x, arr[i + l.sh]? = some x ∧ VR m v x := by
  obtain ⟨l, h1, arr, h2, h3⟩ := h.blk a _ hb
  exact ⟨l, arr, h1, h2, h3⟩

theorem HR.cell (h : HR B0 w0 m H w) {a i : Nat} {v : AV} (hc : H.cell a i = some v) :
    ∃ l x, m a = some l ∧ w.cell? ⟨l.blk, i + l.sh, none⟩ = some x ∧ w.frozen? ⟨l.blk, i + l.sh, none⟩ = false ∧ VR m v x := by
  unfold Heap.cell at hc
  split at hc
  · next t f n c hb =>
    obtain ⟨l, arr, h1, h2, h3, h4, h5⟩ := h.get_cells hb
    obtain ⟨_, x, k1, k2⟩ := h5 i v hc
    exact ⟨l, x, h1, by simp [World.cell?, h2, k1], by simp [World.frozen?, h2], k2⟩
  · cases hc

/-- Only one live block lies there: its fellows have gone. -/
theorem HR.alone (h : HR B0 w0 m H w) {a : Nat} {t : TypeId} {f n : Nat} {c : T AV} (hb : H.blks.get a = some (.cells t f n c)) {l : Loc} (hl : m a = some l)
    {L : List Nat} (hL : H.fams.get f = some L) {x : Nat} {b : ABlk} (hx : H.blks.get x = some b) (hxa : x ≠ a) (hnot : ∀ t' n' c', b = .cells t' f n' c' → x ∉ L) :
    ∀ l', m x = some l' → l'.blk ≠ l.blk := by
  intro l' hl' e
  rcases h.sep x a b _ l' l hx hb hl' hl e with rfl | ⟨t1, f1, n1, c1, t2, n2, c2, e1, e2, _⟩
  · exact hxa rfl
  · cases e2
    obtain ⟨_, L', hL', hmem⟩ := h.fam x t1 f n1 c1 (e1 ▸ hx)
    rw [hL] at hL'
    cases hL'
    exact hnot _ _ _ e1 hmem

theorem HR.put (h : HR B0 w0 m H w) {a i : Nat} {v : AV} {H' : Heap} (hp : H.put a i v = some H') {x : Value} (hv : VR m v x) :
    ∃ l u, m a = some l ∧ w.cell? ⟨l.blk, i + l.sh, none⟩ = some u ∧ w.frozen? ⟨l.blk, i + l.sh, none⟩ = false ∧
      HR B0 w0 m H' (w.setCell ⟨l.blk, i + l.sh, none⟩ x) := by
  unfold Heap.put at hp
  split at hp
  case h_2 => cases hp
  next t f n c hb =>
  split at hp
  case h_1 => cases hp
  next u hu =>
  obtain ⟨l, arr, h1, h2, h3, h4, h5⟩ := h.get_cells hb
  obtain ⟨hin, y, k1, k2⟩ := h5 i u hu
  have hlt : i + l.sh < arr.size := by omega
  have hbr : BR m (.cells t f n (c.set i v)) l (some (.cells (arr.setIfInBounds (i + l.sh) x) t (0, 0))) := by
    refine ⟨_, rfl, by simpa using h3, h4, fun j z hj => ?_⟩
    rw [T.get_set] at hj
    by_cases hji : j = i
    · subst hji
      simp only [if_true, Option.some.injEq] at hj
      subst hj
      exact ⟨hin, x, by simp [hlt], hv⟩
    · simp only [hji, if_false] at hj
      obtain ⟨q1, z', q2, q3⟩ := h5 j z hj
      exact ⟨q1, z', by rw [Array.getElem?_setIfInBounds_ne (by omega)]; exact q2, q3⟩
  have hu' := upd_setCell w l.blk (i + l.sh) x h2
  obtain ⟨hfn, L0, hL0, hmem0⟩ := h.fam a t f n c hb
  refine ⟨l, y, h1, by simp [World.cell?, h2, k1], by simp [World.frozen?, h2], ?_⟩
  split at hp
  · cases hp
  · cases hp
  · next z hL =>
    cases hp
    rw [hL] at hL0
    cases hL0
    have haz : a = z := by simpa using hmem0
    refine h.upd hb h1 (h.live a _ l hb h1) hu' hbr rfl (by rw [T.get_set]; simp) ?_ ?_
    · intro k b hka hk
      simp only [T.get_set, hka, if_false] at hk
      refine ⟨hk, h.alone hb h1 hL hk hka fun _ _ _ _ => ?_⟩
      simp only [List.mem_singleton]
      omega
    · intro k t' f' n' c' hk
      by_cases hka : k = a
      · subst hka
        simp only [T.get_set, if_true, Option.some.injEq, ABlk.cells.injEq] at hk
        obtain ⟨_, rfl, _⟩ := hk
        exact ⟨hfn, [z], hL, by simp [haz]⟩
      · simp only [T.get_set, hka, if_false] at hk
        exact h.fam k t' f' n' c' hk
  · next L hne1 hne2 hL =>
    cases hp
    rw [hL] at hL0
    cases hL0
    refine h.upd hb h1 (h.live a _ l hb h1) hu' hbr rfl (by rw [T.get_set]; simp) ?_ ?_
    · intro k b hka hk
      simp only [T.get_set, hka, if_false] at hk
      obtain ⟨hk1, hk2⟩ := get_kill _ _ _ _ _ hk
      exact ⟨hk1, h.alone hb h1 hL hk1 hka fun _ _ _ _ hm => absurd (hk2 hm) (by simp)⟩
    · intro k t' f' n' c' hk
      by_cases hka : k = a
      · subst hka
        simp only [T.get_set, if_true, Option.some.injEq, ABlk.cells.injEq] at hk
        obtain ⟨_, rfl, _⟩ := hk
        exact ⟨hfn, [k], by rw [T.get_set]; simp, by simp⟩
      · simp only [T.get_set, hka, if_false] at hk
        obtain ⟨hk1, hk2⟩ := get_kill _ _ _ _ _ hk
        obtain ⟨q1, L', q2, q3⟩ := h.fam k t' f' n' c' hk1
        refine ⟨q1, L', ?_, q3⟩
        rw [T.get_set]
        by_cases hff : f' = f
        · subst hff
          rw [hL] at q2
          cases q2
          exact absurd (hk2 q3) (by simp)
        · rw [if_neg hff]; exact q2

end
end Go.Am
