/- The abstract machine, part 6: append, as the model runs it. -/
import Derived.Test.YtkfoapjbfooneaaAm5
namespace Go.Am
open Go.RowKit

section
variable {B0 : Prot} {w0 : World} {m : Env} {H : Heap} {w : World} {A : AP} {P : Program}

theorem VRs.cons_iff {a : AV} {as : List AV} {xs : List Value} : VRs m (a :: as) xs ↔ ∃ y ys, xs = y :: ys ∧ VR m a y ∧ VRs m as ys := by simp only [VRs]

/-- The cells of a row, as a list from some cell on. -/
theorem rowCells {w : World} {k : Nat} {arr : Array Value} {t : TypeId} (h : w.heap[k]? = some (.cells arr t (0, 0))) (o n j : Nat) {v : Value}
    (hj : ((arr.toList.drop o).take n)[j]? = some v) : w.cell? ⟨k, o + j, none⟩ = some v := by
  have hlt : j < n := by
    rcases Nat.lt_or_ge j n with h | h
    · exact h
    · rw [List.getElem?_take_eq_none h] at hj; cases hj
  rw [List.getElem?_take_of_lt hlt, List.getElem?_drop] at hj
  simpa [World.cell?, h] using hj

theorem HR.grow (h : HR B0 w0 m H w) {e : TypeId} {a o clen : Nat} {new : List AV} {H' : Heap} (hg : H.grow e a o clen new = some H') {l : Loc} (hl : m a = some l)
    {xs : List Value} (hv : VRs m new xs) (hfit0 : o + l.sh + clen ≤ l.size) :
    ∃ arr : Array Value, w.heap[l.blk]? = some (.cells arr e (0, 0)) ∧ arr.size = l.size ∧
      (o + l.sh + clen + xs.length ≤ l.size → HR B0 w0 (m.ext H.next ⟨l.blk, o + l.sh, l.size⟩) H'
        (w.setRow l.blk (arr.toList.take (o + l.sh + clen) ++ xs ++ arr.toList.drop (o + l.sh + clen + xs.length)).toArray)) ∧
      (∀ rest : Array Value, HR B0 w0 (m.ext H.next ⟨w.heap.size, 0, clen + xs.length + rest.size⟩) H'
        (w.drew.alloc (.cells (((arr.toList.drop (o + l.sh)).take clen).toArray ++ xs.toArray ++ rest) e))) := by
  unfold Heap.grow at hg
  split at hg
  case h_2 => cases hg
  next t f n c hb =>
  split at hg
  · cases hg
  next L hL =>
  split at hg
  · cases hg
  next hte =>
  have hte := eq_of_beq hte
  subst hte
  obtain ⟨l1, arr, k1, k2, k3, k4, k5⟩ := h.get_cells hb
  rw [hl] at k1
  cases k1
  have hxl := hv.length
  have hin : ¬ B0 l.blk ∧ l.blk < w.heap.size := ⟨h.live a _ l hb hl, h.inb a l hl⟩
  refine ⟨arr, k2, k3, ?_⟩
  -- what the cells of the new row are, in either case
  have inrow : ∀ i, i < o + l.sh + clen → o + l.sh + clen + xs.length ≤ l.size →
      ((arr.toList.take (o + l.sh + clen) ++ xs ++ arr.toList.drop (o + l.sh + clen + xs.length)).toArray)[i]? = arr[i]? := by
    intro i hi hfit
    simp only [List.getElem?_toArray]
    rw [List.append_assoc, List.getElem?_append_left (by simp; omega), List.getElem?_take_of_lt hi]
    simp
  have innew : ∀ i, i < xs.length → o + l.sh + clen + xs.length ≤ l.size →
      ((arr.toList.take (o + l.sh + clen) ++ xs ++ arr.toList.drop (o + l.sh + clen + xs.length)).toArray)[o + l.sh + clen + i]? = xs[i]? := by
    intro i hi hfit
    simp only [List.getElem?_toArray]
    have e1 : (arr.toList.take (o + l.sh + clen)).length = o + l.sh + clen := by simp; omega
    rw [List.append_assoc, List.getElem?_append_right (by omega), List.getElem?_append_left (by omega), e1]
    congr 1
    omega
  have insize : o + l.sh + clen + xs.length ≤ l.size → (arr.toList.take (o + l.sh + clen) ++ xs ++ arr.toList.drop (o + l.sh + clen + xs.length)).toArray.size = l.size := by
    intro hfit
    simp
    omega
  have outold : ∀ (rest : Array Value) i, i < clen → o + l.sh + clen ≤ l.size → ((((arr.toList.drop (o + l.sh)).take clen).toArray ++ xs.toArray ++ rest))[i]? = arr[i + (o + l.sh)]? := by
    intro rest i hi hfit
    have e1 : ((arr.toList.drop (o + l.sh)).take clen).length = clen := by simp; omega
    rw [Array.getElem?_append_left (by simp; omega), Array.getElem?_append_left (by simp; omega)]
    simp only [List.getElem?_toArray]
    rw [List.getElem?_take_of_lt hi, List.getElem?_drop]
    simp [Nat.add_comm]
  have outnew : ∀ (rest : Array Value) i, i < xs.length → o + l.sh + clen ≤ l.size → ((((arr.toList.drop (o + l.sh)).take clen).toArray ++ xs.toArray ++ rest))[clen + i]? = xs[i]? := by
    intro rest i hi hfit
    have e1 : ((arr.toList.drop (o + l.sh)).take clen).length = clen := by simp; omega
    rw [Array.getElem?_append_left (by simp; omega), Array.getElem?_append_right (by simp; omega)]
    simp only [List.getElem?_toArray, List.size_toArray, e1]
    congr 1
    omega
  have outsize : ∀ (rest : Array Value), o + l.sh + clen ≤ l.size → (((arr.toList.drop (o + l.sh)).take clen).toArray ++ xs.toArray ++ rest).size = clen + xs.length + rest.size := by
    intro rest hfit
    have e1 : ((arr.toList.drop (o + l.sh)).take clen).length = clen := by simp; omega
    simp only [Array.size_append, List.size_toArray, e1]
  have bold : ∀ rest : Array Value, Keep B0 w0 (w.drew.alloc (.cells (((arr.toList.drop (o + l.sh)).take clen).toArray ++ xs.toArray ++ rest) t)) := fun rest =>
    h.below.drew.alloc _ fun _ _ _ e => by cases e; exact Nat.le_refl _
  split at hg
  · next hA =>
    cases hg
    simp only [Bool.and_eq_true, beq_iff_eq] at hA
    obtain ⟨rfl, rfl⟩ := hA
    refine ⟨fun hfit => ?_, fun rest => ?_⟩
    · have hu := upd_setRow w l.blk arr (arr.toList.take (0 + l.sh + n) ++ xs ++ arr.toList.drop (0 + l.sh + n + xs.length)).toArray t k2
      refine h.derive hb hL hl ⟨l.blk, 0 + l.sh, l.size⟩ (hu.below h.below hin.1 (fun _ _ _ e => by cases e; exact Nat.le_refl _) (h.cold hb hl)) (by rw [hu.size]; exact Nat.le_refl _) hin.1 (by rw [hu.size]; exact hin.2) _ [a] (fun x _ e => by simp [e])
        (fun x b _ hk => eq_of_beq hk) (fun i _ hne => hu.old i hne) (.inl rfl) (fun _ _ => ⟨by simp, ?_⟩) ?_
      · rw [hu.new]
        refine ⟨_, rfl, insize hfit, k4, fun i v hi => ?_⟩
        obtain ⟨q1, x, q2, q3⟩ := k5 i v hi
        exact ⟨q1, x, by rw [inrow _ (by omega) hfit]; exact q2, q3⟩
      · rw [hu.new]
        refine ⟨_, rfl, insize hfit, by simp only []; omega, fun i v hi => ?_⟩
        rw [T.get_ofList] at hi
        split at hi
        · next hlt =>
          obtain ⟨y, y1, y2⟩ := hv.get hi
          refine ⟨by omega, y, ?_, y2⟩
          have := innew (i - n) (by omega) hfit
          rw [show i + (0 + l.sh) = 0 + l.sh + n + (i - n) from by omega, this]
          exact y1
        · obtain ⟨q1, x, q2, q3⟩ := k5 i v hi
          exact ⟨by omega, x, by rw [inrow _ (by simp only []; omega) hfit]; simpa using q2, q3⟩
    · have hold : ∀ i, i < w.heap.size → (w.drew.alloc (.cells (((arr.toList.drop (0 + l.sh)).take n).toArray ++ xs.toArray ++ rest) t)).heap[i]? = w.heap[i]? :=
        fun i hi => Below.heap_alloc w.drew _ i hi
      refine h.derive hb hL hl ⟨w.heap.size, 0, n + xs.length + rest.size⟩ (bold rest) (by simp) (h.below.new (Nat.le_refl _)) (by simp) _ [a] (fun x _ e => by simp [e])
        (fun x b _ hk => eq_of_beq hk) (fun i hi _ => hold i hi) (.inr (Nat.le_refl _)) (fun e => by simp only [] at e; omega) ?_
      · rw [show (w.drew.alloc (.cells (((arr.toList.drop (0 + l.sh)).take n).toArray ++ xs.toArray ++ rest) t)).heap[w.heap.size]? = _ from heap_alloc_new w.drew _]
        refine ⟨_, rfl, outsize rest hfit0, by simp only []; omega, fun i v hi => ?_⟩
        rw [T.get_ofList] at hi
        split at hi
        · next hlt =>
          obtain ⟨y, y1, y2⟩ := hv.get hi
          refine ⟨by omega, y, ?_, y2⟩
          have := outnew rest (i - n) (by omega) hfit0
          rw [show i + 0 = n + (i - n) from by omega, this]
          exact y1
        · obtain ⟨q1, x, q2, q3⟩ := k5 i v hi
          exact ⟨by omega, x, by rw [Nat.add_zero, outold rest i q1 hfit0]; simpa using q2, q3⟩
  · next hA =>
    split at hg
    · cases hg
    next old hold0 =>
    cases hg
    obtain ⟨os, p1, p2, p3⟩ := h.cellsAt hl _ _ hold0
    have hol := p1.length
    have hget : ∀ j, j < clen → arr[o + l.sh + j]? = os[j]? := by
      intro j hj
      have hj' : j < os.length := by omega
      have := p3 j os[j] (List.getElem?_eq_getElem hj')
      rw [List.getElem?_eq_getElem hj']
      simpa [World.cell?, k2] using this
    have cells : ∀ (arr' : Array Value), (∀ i, i < clen → arr'[i + (o + l.sh)]? = arr[i + (o + l.sh)]?) → (∀ i, i < xs.length → arr'[clen + i + (o + l.sh)]? = xs[i]?) →
        ∀ i v, (T.ofList (old ++ new) 0 T.nil).get i = some v → i < clen + new.length ∧ ∃ x, arr'[i + (o + l.sh)]? = some x ∧ VR m v x := by
      intro arr' hO hN i v hi
      rw [T.get_ofList] at hi
      split at hi
      · next hlt =>
        rw [Nat.sub_zero] at hi
        have hlt' : i < old.length + new.length := by simpa using hlt.2
        refine ⟨by omega, ?_⟩
        by_cases hio : i < clen
        · rw [List.getElem?_append_left (by omega)] at hi
          obtain ⟨x, x1, x2⟩ := p1.get hi
          refine ⟨x, ?_, x2⟩
          rw [hO i hio, Nat.add_comm, hget i hio]
          exact x1
        · rw [List.getElem?_append_right (by omega)] at hi
          obtain ⟨x, x1, x2⟩ := hv.get hi
          refine ⟨x, ?_, x2⟩
          have := hN (i - clen) (by omega)
          rw [show clen + (i - clen) = i from by omega] at this
          rw [this, show i - clen = i - old.length from by omega]
          exact x1
      · simp [T.get_nil] at hi
    refine ⟨fun hfit => ?_, fun rest => ?_⟩
    · have hu := upd_setRow w l.blk arr (arr.toList.take (o + l.sh + clen) ++ xs ++ arr.toList.drop (o + l.sh + clen + xs.length)).toArray t k2
      refine h.derive hb hL hl ⟨l.blk, o + l.sh, l.size⟩ (hu.below h.below hin.1 (fun _ _ _ e => by cases e; exact Nat.le_refl _) (h.cold hb hl)) (by rw [hu.size]; exact Nat.le_refl _) hin.1 (by rw [hu.size]; exact hin.2) _ [] (fun x e _ => by cases e)
        (fun x b _ hk => by cases hk) (fun i _ hne => hu.old i hne) (.inl rfl) (fun _ e => by cases e) ?_
      rw [hu.new]
      refine ⟨_, rfl, insize hfit, by simp only []; omega, cells _ (fun i hi => inrow _ (by omega) hfit) fun i hi => ?_⟩
      rw [show clen + i + (o + l.sh) = o + l.sh + clen + i from by omega]
      exact innew i hi hfit
    · have hold : ∀ i, i < w.heap.size → (w.drew.alloc (.cells (((arr.toList.drop (o + l.sh)).take clen).toArray ++ xs.toArray ++ rest) t)).heap[i]? = w.heap[i]? :=
        fun i hi => Below.heap_alloc w.drew _ i hi
      refine h.derive hb hL hl ⟨w.heap.size, 0, clen + xs.length + rest.size⟩ (bold rest) (by simp) (h.below.new (Nat.le_refl _)) (by simp) _ [] (fun x e _ => by cases e)
        (fun x b _ hk => by cases hk) (fun i hi _ => hold i hi) (.inr (Nat.le_refl _)) (fun e => by simp only [] at e; omega) ?_
      rw [show (w.drew.alloc (.cells (((arr.toList.drop (o + l.sh)).take clen).toArray ++ xs.toArray ++ rest) t)).heap[w.heap.size]? = _ from heap_alloc_new w.drew _]
      refine ⟨_, rfl, outsize rest hfit0, by simp only []; omega, fun i v hi => ?_⟩
      rw [T.get_ofList] at hi
      split at hi
      · next hlt =>
        rw [Nat.sub_zero] at hi
        have hlt' : i < old.length + new.length := by simpa using hlt.2
        refine ⟨by omega, ?_⟩
        by_cases hio : i < clen
        · rw [List.getElem?_append_left (by omega)] at hi
          obtain ⟨x, x1, x2⟩ := p1.get hi
          refine ⟨x, ?_, x2⟩
          rw [Nat.add_zero, outold rest i hio hfit0, Nat.add_comm, hget i hio]
          exact x1
        · rw [List.getElem?_append_right (by omega)] at hi
          obtain ⟨x, x1, x2⟩ := hv.get hi
          refine ⟨x, ?_, x2⟩
          have := outnew rest (i - clen) (by omega) hfit0
          rw [show i + 0 = clen + (i - clen) from by omega, this, show i - clen = i - old.length from by omega]
          exact x1
      · simp [T.get_nil] at hi

/-- append where there is room. -/
theorem run_append_in (t tx ty e ex : TypeId) (i : TypeInfo) (ht : P.underlying t = some (.slice e)) (htx : P.underlying tx = some (.slice ex)) (hi : P.info? e = some i)
    (b : Addr) (sLen sCap : Nat) (xb : Option Addr) (n xc : Nat) (news : List Value) (hx : ∀ w' : World, w'.heap = w.heap → (Builtin.firstCells i.size n (.slice xb n xc)).run P w' = .ok news.toArray w')
    (hr : sLen + n ≤ sCap) {w' : World} (hst : (storeCells (b.add (sLen * i.size)) news).run P w = .ok () w') :
    (Builtin.append_ #[t, tx] ty #[.slice (some b) sLen sCap, .slice xb n xc]).run P w = .ok (.slice (some b) (sLen + n) sCap) w' := by
  simp [Builtin.append_, run_underlying ht, run_underlying htx, sizeOf, typeInfo, hi, Builtin.lenOf, hr, hx w rfl, hst]

/-- append onto nothing, of nothing. -/
theorem run_append_none (t tx ty e ex : TypeId) (i : TypeInfo) (ht : P.underlying t = some (.slice e)) (htx : P.underlying tx = some (.slice ex)) (hi : P.info? e = some i)
    (xb : Option Addr) (xc : Nat) (hx : ∀ w' : World, w'.heap = w.heap → (Builtin.firstCells i.size 0 (.slice xb 0 xc)).run P w' = .ok #[] w') :
    (Builtin.append_ #[t, tx] ty #[.slice none 0 0, .slice xb 0 xc]).run P w = .ok (.slice none 0 0) w := by
  simp [Builtin.append_, run_underlying ht, run_underlying htx, sizeOf, typeInfo, hi, Builtin.lenOf, hx w rfl]

/-- append where there is none. -/
theorem run_append_new (t tx ty e ex : TypeId) (i : TypeInfo) (z : Value) (ht : P.underlying t = some (.slice e)) (htx : P.underlying tx = some (.slice ex)) (hi : P.info? e = some i) (hz : i.zero = some z)
    (b : Option Addr) (sLen sCap : Nat) (olds : List Value) (hold : ∀ w' : World, w'.heap = w.heap → (Builtin.firstCells i.size sLen (.slice b sLen sCap)).run P w' = .ok olds.toArray w')
    (xb : Option Addr) (n xc : Nat) (news : List Value) (hx : ∀ w' : World, w'.heap = w.heap → (Builtin.firstCells i.size n (.slice xb n xc)).run P w' = .ok news.toArray w')
    (hg : sCap < sLen + n) (h63 : sLen + n ≤ 1000000000) (hfit : (sLen + n) * i.bytes ≤ 140737488355328) :
    ∃ cap rest, sLen + n ≤ cap ∧ rest.size = (cap - (sLen + n)) * z.cells.size ∧
    (Builtin.append_ #[t, tx] ty #[.slice b sLen sCap, .slice xb n xc]).run P w =
      .ok (.slice (some ⟨w.heap.size, 0, none⟩) (sLen + n) cap) (w.drew.alloc (.cells (olds.toArray ++ news.toArray ++ rest) e)) := by
  have hn : ¬ (sLen + n ≤ sCap) := by omega
  have h63' : ¬ (9223372036854775807 < ((sLen : Int) + (n : Int))) := by omega
  have h48' : ¬ (281474976710656 < Builtin.nextslicecap (sLen + n) sCap * i.bytes) := by
    have := growslice_fits hg hfit
    omega
  have hf := hx w.drew rfl
  have hfo := hold w.drew rfl
  refine ⟨grownCap w (sLen + n) sCap e, Builtin.zeroCells z.cells (grownCap w (sLen + n) sCap e - (sLen + n)), ?_, by simp [Builtin.zeroCells], ?_⟩
  · exact Nat.le_add_right _ _
  · simp [Builtin.append_, run_underlying ht, run_underlying htx, sizeOf, typeInfo, zeroValue, hi, hz, Builtin.lenOf, hn, h63', h48', Question.forced, hf, hfo, newRow, grownCap]
    congr 2
    apply Array.ext'
    simp [List.append_assoc]

theorem firstCells_none (size : Nat) (n c : Nat) (w' : World) : (Builtin.firstCells size n (.slice none n c)).run P w' = .ok #[] w' := by simp [Builtin.firstCells]

theorem firstCells_zero (size : Nat) (b : Option Addr) (n c : Nat) (w' : World) : (Builtin.firstCells size 0 (.slice b n c)).run P w' = .ok #[] w' := by
  cases b <;> simp [Builtin.firstCells, loadCells, loadCellsFrom]

/-- The cells of a slice that is known. -/
theorem HR.firstCells (h : HR B0 w0 m H w) {a o n : Nat} {size : Nat} {vs : List AV} (hc : H.cellsAt a o (n * size) = some vs) {l : Loc} (hl : m a = some l) (c : Nat) :
    ∃ xs : List Value, VRs m vs xs ∧ xs.length = n * size ∧ ∀ w' : World, w'.heap = w.heap → (Builtin.firstCells size n (.slice (some ⟨l.blk, o + l.sh, none⟩) n c)).run P w' = .ok xs.toArray w' := by
  obtain ⟨xs, h1, h2, h3⟩ := h.cellsAt hl _ _ hc
  refine ⟨xs, h1, h2, fun w' hw => ?_⟩
  refine run_firstCells_some w' size n _ n c xs h2 fun j v hj => ?_
  rw [addr_add]
  have := h3 j v hj
  simpa [World.cell?, hw] using this

theorem ACap.ptr {l : Loc} {o c : Nat} {p : Addr} {cap : ACap} (h : cap.ok l o p c) : p = ⟨l.blk, o + l.sh, none⟩ ∨ c = 0 := by
  cases cap with
  | ex c' => exact .inl h.2
  | un esz lb => exact h.2.2.1

theorem HR.append (hA : A.Ok P) (h : HR B0 w0 m H w) {t tx ty : TypeId} {s x v : AV} {H' : Heap} (e : H.append A t tx s x = some (v, H')) {sv xv : Value} (hs : VR m s sv) (hx : VR m x xv) :
    ∃ rv m' w', (Builtin.append_ #[t, tx] ty #[sv, xv]).run P w = .ok rv w' ∧ m.le m' ∧ VR m' v rv ∧ HR B0 w0 m' H' w' := by
  unfold Heap.append at e
  split at e
  case h_2 => cases e
  next el ex hu hux =>
  have ht := hA.under_ok hu
  have htx := hA.under_ok hux
  split at e
  · cases e
  next ti hti =>
  have hi := hA.info _ _ hti
  simp only [] at e
  split at e
  · cases e
  next n news hsrc =>
  -- what is appended
  obtain ⟨xb, xc, xs, rfl, hnews, hnl, hfx⟩ : ∃ xb xc, ∃ xs : List Value, xv = .slice xb n xc ∧ VRs m news xs ∧ xs.length = n * ti.size ∧
      ∀ w' : World, w'.heap = w.heap → (Builtin.firstCells ti.size n (.slice xb n xc)).run P w' = .ok xs.toArray w' := by
    split at hsrc
    · cases hsrc
      simp only [VR] at hx
      exact ⟨none, 0, [], hx, by simp only [VRs], by simp, fun w' _ => firstCells_none _ _ _ w'⟩
    · next a o len cap =>
      split at hsrc
      · next vs hvs =>
        cases hsrc
        simp only [VR] at hx
        obtain ⟨l, p, c, hl, rfl, hlc, hcap⟩ := hx
        rcases ACap.ptr hcap with rfl | rfl
        · obtain ⟨xs, h1, h2, h3⟩ := h.firstCells (P := P) hvs hl c
          exact ⟨_, c, xs, rfl, h1, h2, h3⟩
        · have h0 : n = 0 := by omega
          subst h0
          rw [Nat.zero_mul] at hvs
          simp only [Heap.cellsAt, Option.some.injEq] at hvs
          subst hvs
          exact ⟨_, 0, [], rfl, by simp only [VRs], by simp, fun w' _ => firstCells_zero _ _ _ _ w'⟩
      · cases hsrc
    · cases hsrc
  clear hsrc hx
  have hnlen := hnews.length
  -- a new block of all that is known
  have fresh : ∀ (z : Value) (need : Nat) (cs : List AV) (ys : List Value) (cap : Nat) (rest : Array Value), z.cells.size = ti.size → 1 ≤ ti.size → VRs m cs ys → ys.length = need * ti.size → need ≤ cap →
      rest.size = (cap - need) * z.cells.size → ∃ m', m.le m' ∧ VR m' (.sl H.next 0 need (.un ti.size need)) (.slice (some ⟨w.heap.size, 0, none⟩) need cap) ∧
        HR B0 w0 m' (H.newB el cs) (w.drew.alloc (.cells (ys.toArray ++ rest) el)) := by
    intro z need cs ys cap rest hz h1 hcs hyl hcap hrest
    have hcl := hcs.length
    have hn := h.drew.newB (t := el) (vs := cs) (arr := ys.toArray ++ rest) (by simp; omega) (fun i v hi => by
      obtain ⟨x, x1, x2⟩ := hcs.get hi
      refine ⟨x, ?_, x2⟩
      have hlt : i < ys.length := (List.getElem?_eq_some_iff.1 x1).1
      rw [Array.getElem?_append_left (by simpa using hlt)]
      simpa using x1)
    refine ⟨_, h.drew.le_ext _, ?_, hn⟩
    simp only [VR]
    refine ⟨_, _, cap, Env.ext_self _ _ _, rfl, hcap, h1, ?_, .inl rfl, hcap⟩
    simp only [Array.size_append, List.size_toArray, hyl, hrest, hz]
    have : need * ti.size + (cap - need) * ti.size = cap * ti.size := by rw [← Nat.add_mul]; congr 1; omega
    omega
  split at e
  · -- onto nothing
    simp only [VR] at hs
    subst hs
    split at e
    · cases e
      have hxs : xs = [] := List.eq_nil_of_length_eq_zero (by simpa using hnl)
      subst hxs
      exact ⟨_, m, w, run_append_none t tx ty el ex ti ht htx hi xb xc hfx, m.le_refl, by simp only [VR], h⟩
    · next k =>
      split at e
      · next hbnd =>
        cases e
        simp only [Bool.and_eq_true, Nat.ble_eq] at hbnd
        obtain ⟨⟨⟨hb1, hb2⟩, hb3⟩, hb4⟩ := hbnd
        unfold zeroOk at hb4
        split at hb4
        case h_2 => cases hb4
        next z hz =>
        have hb4 := eq_of_beq hb4
        obtain ⟨cap, rest, hc1, hc2, hrun⟩ := run_append_new (P := P) (w := w) t tx ty el ex ti z ht htx hi hz none 0 0 [] (fun w' _ => firstCells_none _ _ _ w') xb (k + 1) xc xs hfx (by omega) (by omega) (by simpa using hb1)
        simp only [Nat.zero_add] at hc1 hc2 hrun
        obtain ⟨m', q1, q2, q3⟩ := fresh z (k + 1) news xs cap rest hb4 hb3 hnews hnl hc1 hc2
        exact ⟨_, m', _, hrun, q1, q2, by simpa using q3⟩
      · cases e
  · next a o len cap =>
    simp only [VR] at hs
    obtain ⟨l, p, c, hl, rfl, hlc, hcap⟩ := hs
    split at e
    · cases e
    next hbnd =>
    simp only [Bool.and_eq_true, Nat.ble_eq] at hbnd
    obtain ⟨⟨hb1, hb2⟩, hb4⟩ := hbnd
    unfold zeroOk at hb4
    split at hb4
    case h_2 => cases hb4
    next z hz =>
    have hb4 := eq_of_beq hb4
    cases cap with
    | ex c' =>
      simp only [ACap.ok] at hcap
      obtain ⟨rfl, rfl⟩ := hcap
      simp only [] at e
      split at e
      · next hle =>
        simp only [Nat.ble_eq] at hle
        split at e
        · next H1 hp =>
          cases e
          obtain ⟨w', r1, r2⟩ := HR.puts P hl news (o + len * ti.size) (o + len * ti.size) 0 H _ w xs h hp hnews rfl
          refine ⟨_, m, w', run_append_in (w := w) t tx ty el ex ti ht htx hi _ len c xb n xc xs hfx hle (w' := w') ?_, m.le_refl, ?_, r2⟩
          · rw [addr_add, show o + l.sh + len * ti.size = o + len * ti.size + l.sh from by omega]
            exact r1
          · simp only [VR]
            exact ⟨l, _, c, hl, rfl, hle, rfl, rfl⟩
        · cases e
      · split at e
        · next olds hb hold =>
          cases e
          simp only [Bool.and_eq_true, Nat.ble_eq] at hb
          obtain ⟨os, p1, p2, p3⟩ := h.firstCells (P := P) hold hl c
          obtain ⟨cap, rest, hc1, hc2, hrun⟩ := run_append_new (P := P) (w := w) t tx ty el ex ti z ht htx hi hz _ len c os p3 xb n xc xs hfx (by omega) hb2 hb1
          obtain ⟨m', q1, q2, q3⟩ := fresh z (len + n) (olds ++ news) (os ++ xs) cap rest hb4 hb.1 (p1.append hnews) (by simp [p2, hnl, Nat.add_mul]) hc1 hc2
          exact ⟨_, m', _, hrun, q1, q2, by simpa using q3⟩
        · cases e
    | un esz lb =>
      simp only [ACap.ok] at hcap
      obtain ⟨hez, hcsz, hptr, hlb⟩ := hcap
      simp only [] at e
      split at e
      · cases e
      next hesz =>
      have hesz := eq_of_beq hesz
      subst hesz
      split at e
      · cases e
        have hxs : xs = [] := List.eq_nil_of_length_eq_zero (by simpa using hnl)
        subst hxs
        refine ⟨_, m, w, run_append_in (w := w) t tx ty el ex ti ht htx hi _ len c xb 0 xc [] hfx (by simpa using hlc) (by simp [storeCells]), m.le_refl, ?_, h⟩
        simp only [VR]
        exact ⟨l, p, c, hl, rfl, hlc, hez, hcsz, hptr, hlb⟩
      · next k =>
        split at e
        · cases e
        next hone =>
        split at e
        · next hle =>
          simp only [Nat.ble_eq] at hle
          split at e
          case h_2 => cases e
          next H1 hp =>
          cases e
          have hpe : p = ⟨l.blk, o + l.sh, none⟩ := by
            rcases hptr with e | e
            · exact e
            · omega
          subst hpe
          obtain ⟨w', r1, r2⟩ := HR.puts P hl news (o + len * ti.size) (o + len * ti.size) 0 H _ w xs h hp hnews rfl
          refine ⟨_, m, w', run_append_in (w := w) t tx ty el ex ti ht htx hi _ len c xb (k + 1) xc xs hfx (by omega) (w' := w') ?_, m.le_refl, ?_, r2⟩
          · rw [addr_add, show o + l.sh + len * ti.size = o + len * ti.size + l.sh from by omega]
            exact r1
          · simp only [VR]
            exact ⟨l, _, c, hl, rfl, by omega, hez, hcsz, .inl rfl, hlb⟩
        split at e
        · next H1 hg =>
          cases e
          have hlsz : len * ti.size ≤ c * ti.size := Nat.mul_le_mul_right _ hlc
          obtain ⟨arr, g1, g2, g3, g4⟩ := h.grow hg hl hnews (by omega)
          have hsz1 : xs.length = (k + 1) * ti.size := hnl
          by_cases hroom : len + (k + 1) ≤ c
          · have hfit : o + l.sh + len * ti.size + xs.length ≤ l.size := by
              have : (len + (k + 1)) * ti.size ≤ c * ti.size := Nat.mul_le_mul_right _ hroom
              rw [Nat.add_mul] at this
              omega
            have hp : p = ⟨l.blk, o + l.sh, none⟩ := by
              rcases hptr with e | e
              · exact e
              · omega
            subst hp
            refine ⟨_, _, _, run_append_in (w := w) t tx ty el ex ti ht htx hi _ len c xb (k + 1) xc xs hfx hroom ?_, h.le_ext _, ?_, g3 hfit⟩
            · rw [addr_add]
              have := run_storeCells_at P l.blk (o + l.sh + len * ti.size) el xs 0 arr w g1 (by omega) (allOne_ok hone hnews)
              simpa using this
            · simp only [VR]
              exact ⟨_, _, c, Env.ext_self _ _ _, rfl, hroom, hez, by simp only []; omega, .inl (by simp), hroom⟩
          · have hofc : ∀ w' : World, w'.heap = w.heap → (Builtin.firstCells ti.size len (.slice (some p) len c)).run P w' = .ok ((arr.toList.drop (o + l.sh)).take (len * ti.size)).toArray w' := by
              intro w' hw
              rcases hptr with rfl | e0
              case inr =>
                have h0 : len = 0 := by omega
                subst h0
                rw [firstCells_zero]
                simp
              refine run_firstCells_some w' ti.size len _ len c _ ?_ fun j v hj => ?_
              · simp
                omega
              · rw [addr_add]
                have := rowCells g1 (o + l.sh) (len * ti.size) j hj
                simpa [World.cell?, hw] using this
            obtain ⟨cap, rest, hc1, hc2, hrun⟩ := run_append_new (P := P) (w := w) t tx ty el ex ti z ht htx hi hz _ len c _ hofc xb (k + 1) xc xs hfx (by omega) hb2 hb1
            refine ⟨_, _, _, hrun, h.le_ext _, ?_, g4 rest⟩
            simp only [VR]
            refine ⟨_, _, cap, Env.ext_self _ _ _, rfl, hc1, hez, ?_, .inl rfl, hc1⟩
            simp only [hc2, hb4, hsz1]
            have : (len + (k + 1)) * ti.size + (cap - (len + (k + 1))) * ti.size = cap * ti.size := by rw [← Nat.add_mul]; congr 1; omega
            rw [Nat.add_mul] at this
            omega
        · cases e
  · cases e

end
end Go.Am
