/- The abstract machine, part 4: the program's tables; variables of many cells; new blocks. -/
import Derived.Test.YtkfoapjbfooneaaAm3
import Derived.Laws.Append
import Derived.WalkKit
namespace Go.Am
open Go.RowKit

structure AP where
  types : T TypeInfo
  funcs : T Func

def AP.info (A : AP) (t : TypeId) : Option TypeInfo := A.types.get t

def AP.under (A : AP) (t : TypeId) : Option TypeDesc :=
  match A.types.get t with
  | some i => match i.desc with
    | .named _ u => match A.types.get u with
      | some j => some j.desc
      | none => none
    | d => some d
  | none => none

structure AP.Ok (A : AP) (P : Program) : Prop where
  info : ∀ t i, A.types.get t = some i → P.info? t = some i
  funcs : ∀ f fn, A.funcs.get f = some fn → P.funcs[f]? = some fn
  names : ∀ f fn, A.funcs.get f = some fn → (fn.name == "runtime.NumGoroutine") = false

def AP.of (P : Program) : AP := { types := T.ofList P.types.toList 0 .nil, funcs := T.ofList P.funcs.toList 0 .nil }

theorem AP.of_ok (P : Program) (hN : P.funcs.toList.all (fun F => !(F.name == "runtime.NumGoroutine")) = true) : (AP.of P).Ok P := by
  refine ⟨fun t i h => ?_, fun f fn h => ?_, fun f fn h => ?_⟩
  · simp only [AP.of, T.get_ofList, T.get_nil] at h
    split at h
    · next hlt =>
      simp only [Nat.sub_zero, Array.getElem?_toList] at h
      have : t < P.types.size := by simpa using hlt.2
      unfold Tables.info?
      rw [if_pos this]
      exact h
    · cases h
  · simp only [AP.of, T.get_ofList, T.get_nil] at h
    split at h
    · simpa only [Nat.sub_zero, Array.getElem?_toList] using h
    · cases h
  · simp only [AP.of, T.get_ofList, T.get_nil] at h
    split at h
    · have := List.all_eq_true.1 hN fn (List.mem_of_getElem? h)
      simpa only [Bool.not_eq_true'] using this
    · cases h

theorem AP.Ok.under_ok {A : AP} {P : Program} (hA : A.Ok P) {t : TypeId} {d : TypeDesc} (h : A.under t = some d) : P.underlying t = some d := by
  unfold AP.under at h
  unfold Program.underlying
  split at h
  · next i hi =>
    rw [hA.info t i hi]
    split at h
    · next n u hd =>
      split at h
      · next j hj =>
        obtain ⟨desc, _⟩ := i
        simp only at hd
        subst hd
        simp only [hA.info u j hj]
        exact h
      · cases h
    · next d' hd =>
      obtain ⟨desc, _⟩ := i
      simp only at h hd ⊢
      cases desc <;> first
        | exact h
        | exact absurd rfl (hd _ _)
  · cases h

/-- A value of one cell that names no address. -/
def ofCell : Value → Option AV
  | .bool b => some (.bool b)
  | .int k n => some (.int k n)
  | .string s => some (.str s)
  | .pointer none => some .nilptr
  | .slice none 0 0 => some .nilsl
  | .map none => some .nilmap
  | .nilFunc => some .nilfn
  | .nilIface => some .nilifc
  | _ => none

def ofCells : List Value → Option (List AV)
  | [] => some []
  | v :: vs => match ofCell v with
    | some a => match ofCells vs with
      | some as => some (a :: as)
      | none => none
    | none => none

def ofValue : Value → Option AV
  | .agg cs => match ofCells cs.toList with
    | some l => some (.agg l)
    | none => none
  | v => ofCell v

theorem ofCell_ok {m : Env} {v : Value} {a : AV} (h : ofCell v = some a) : VR m a v := by
  unfold ofCell at h
  split at h <;> cases h <;> simp only [VR]

theorem ofCells_ok {m : Env} : ∀ {v : List Value} {a : List AV}, ofCells v = some a → VRs m a v
  | [], a, h => by cases h; simp only [VRs]
  | v :: vs, a, h => by
    simp only [ofCells] at h
    split at h
    · next b hb =>
      split at h
      · next bs hbs =>
        cases h
        simp only [VRs]
        exact ⟨v, vs, rfl, ofCell_ok hb, ofCells_ok hbs⟩
      · cases h
    · cases h

theorem ofValue_ok {m : Env} {v : Value} {a : AV} (h : ofValue v = some a) : VR m a v := by
  unfold ofValue at h
  split at h
  · split at h
    · next l hl =>
      cases h
      simp only [VR]
      exact ⟨_, rfl, ofCells_ok hl⟩
    · cases h
  · exact ofCell_ok h

/-- The cells of a value. -/
def AV.cells : AV → List AV
  | .agg l => l
  | v => [v]

theorem VR.cells {m : Env} {v : AV} {x : Value} (h : VR m v x) : VRs m v.cells x.cells.toList := by
  cases v <;> simp only [VR] at h <;> first
    | (subst h; simp only [AV.cells, VRs, Value.cells, VR]; exact ⟨_, _, rfl, rfl, rfl⟩)
    | (obtain ⟨l, h1, rfl⟩ := h; simp only [AV.cells, VRs, Value.cells, VR]; exact ⟨_, _, rfl, ⟨l, h1, rfl⟩, rfl⟩)
    | (obtain ⟨l, rfl⟩ := h; simp only [AV.cells, VRs, Value.cells, VR]; exact ⟨_, _, rfl, ⟨l, rfl⟩, rfl⟩)
    | (obtain ⟨l, p, c, h1, rfl, h2⟩ := h; simp only [AV.cells, VRs, Value.cells, VR]; exact ⟨_, _, rfl, ⟨l, p, c, h1, rfl, h2⟩, rfl⟩)
    | (obtain ⟨x, y, rfl, h1, h2⟩ := h; simp only [AV.cells, VRs, Value.cells, VR]; exact ⟨_, _, rfl, ⟨x, y, rfl, h1, h2⟩, rfl⟩)
    | (obtain ⟨x, rfl, h1⟩ := h; simp only [AV.cells, Value.cells]; exact h1)
    | (obtain ⟨x, rfl, h1⟩ := h; simp only [AV.cells, VRs, Value.cells, VR]; exact ⟨_, _, rfl, ⟨x, rfl, h1⟩, rfl⟩)

def Heap.cellsAt (H : Heap) (a : Nat) : Nat → Nat → Option (List AV)
  | _, 0 => some []
  | i, n + 1 => match H.cell a i with
    | some v => match H.cellsAt a (i + 1) n with
      | some vs => some (v :: vs)
      | none => none
    | none => none

def Heap.puts (H : Heap) (a : Nat) : Nat → List AV → Option Heap
  | _, [] => some H
  | i, v :: vs => match v.one with
    | true => match H.put a i v with
      | some H' => H'.puts a (i + 1) vs
      | none => none
    | false => none

/-- A new block. -/
def Heap.newB (H : Heap) (t : TypeId) (vs : List AV) : Heap :=
  { blks := H.blks.set H.next (.cells t H.next vs.length (T.ofList vs 0 .nil)), next := H.next + 1, fams := H.fams.set H.next [H.next] }

section
variable {B0 : Prot} {w0 : World} {m : Env} {H : Heap} {w : World}

theorem addr_add (k o j : Nat) : (⟨k, o, none⟩ : Addr).add j = ⟨k, o + j, none⟩ := by
  unfold Addr.add
  split
  · next h => subst h; rfl
  · rfl

theorem HR.cellsAt (h : HR B0 w0 m H w) {a : Nat} {l : Loc} (hl : m a = some l) : ∀ (n i : Nat) {vs : List AV}, H.cellsAt a i n = some vs →
    ∃ xs : List Value, VRs m vs xs ∧ xs.length = n ∧ ∀ j x, xs[j]? = some x → w.cell? ⟨l.blk, i + l.sh + j, none⟩ = some x
  | 0, i, vs, e => by
    simp only [Heap.cellsAt, Option.some.injEq] at e
    subst e
    exact ⟨[], by simp only [VRs], rfl, fun j x hj => by simp at hj⟩
  | n + 1, i, vs, e => by
    simp only [Heap.cellsAt] at e
    split at e
    · next v hv =>
      split at e
      · next vs' hvs =>
        cases e
        obtain ⟨l', x, h1, h2, _, h3⟩ := h.cell hv
        rw [hl] at h1
        cases h1
        obtain ⟨xs, k1, k2, k3⟩ := h.cellsAt hl n (i + 1) hvs
        refine ⟨x :: xs, by simp only [VRs]; exact ⟨x, xs, rfl, h3, k1⟩, by simp [k2], fun j y hj => ?_⟩
        cases j with
        | zero => simp at hj; subst hj; exact h2
        | succ j =>
          simp at hj
          have := k3 j y hj
          rw [show i + l.sh + (j + 1) = i + 1 + l.sh + j from by omega]
          exact this
      · cases e
    · cases e

theorem HR.puts (P : Program) {a : Nat} {l : Loc} (hl : m a = some l) : ∀ (vs : List AV) (i o j : Nat) (H H' : Heap) (w : World) (xs : List Value), HR B0 w0 m H w → H.puts a i vs = some H' → VRs m vs xs →
    i = o + j → ∃ w', (storeCells ⟨l.blk, o + l.sh, none⟩ xs j).run P w = .ok () w' ∧ HR B0 w0 m H' w'
  | [], i, o, j, H, H', w, xs, h, e, hv, _ => by
    simp only [Heap.puts, Option.some.injEq] at e
    simp only [VRs] at hv
    subst e hv
    exact ⟨w, by simp [storeCells], h⟩
  | v :: vs, i, o, j, H, H', w, xs, h, e, hv, hij => by
    simp only [Heap.puts] at e
    split at e
    · next hone =>
      split at e
      · next H1 hp =>
        simp only [VRs] at hv
        obtain ⟨x, ys, rfl, h1, h2⟩ := hv
        obtain ⟨l', u, k1, k2, k3, k4⟩ := h.put hp h1
        rw [hl] at k1
        cases k1
        obtain ⟨w', r1, r2⟩ := HR.puts P hl vs (i + 1) o (j + 1) H1 H' _ ys k4 e h2 (by omega)
        refine ⟨w', ?_, r2⟩
        have ea : (⟨l.blk, o + l.sh, none⟩ : Addr).add j = ⟨l.blk, i + l.sh, none⟩ := by
          rw [addr_add]
          congr 1
          omega
        simp only [storeCells, Sem.run_bind, run_store _ _ _ _ _ (h1.one hone), ea, k2, k3]
        simpa using r1
      · cases e
    · cases e

theorem HR.newB (h : HR B0 w0 m H w) (t : TypeId) {vs : List AV} {arr : Array Value} (hn : vs.length ≤ arr.size)
    (hv : ∀ (i : Nat) (v : AV), vs[i]? = some v → ∃ x, arr[i]? = some x ∧ VR m v x) :
    HR B0 w0 (m.ext H.next ⟨w.heap.size, 0, arr.size⟩) (H.newB t vs) (w.alloc (.cells arr t)) := by
  refine h.alloc ⟨w.heap.size, 0, arr.size⟩ rfl _ _ ?_ _ (.inl ⟨t, _, _, rfl, rfl⟩)
  refine ⟨arr, rfl, rfl, by simpa using hn, fun i v hi => ?_⟩
  rw [T.get_ofList] at hi
  split at hi
  · next hlt =>
    rw [Nat.sub_zero] at hi
    obtain ⟨x, h1, h2⟩ := hv i v hi
    exact ⟨by omega, x, h1, VR.mono (h.le_ext _) _ _ h2⟩
  · simp [T.get_nil] at hi

theorem HR.newB_of (h : HR B0 w0 m H w) (t : TypeId) {vs : List AV} {xs rest : List Value} (hv : VRs m vs xs) :
    HR B0 w0 (m.ext H.next ⟨w.heap.size, 0, (xs ++ rest).length⟩) (H.newB t vs) (w.alloc (.cells (xs ++ rest).toArray t)) := by
  have hl := hv.length
  refine h.newB t (arr := (xs ++ rest).toArray) (by simp; omega) fun i v hi => ?_
  obtain ⟨x, h1, h2⟩ := hv.get hi
  refine ⟨x, ?_, h2⟩
  have hlt : i < xs.length := by
    rcases Nat.lt_or_ge i xs.length with h | h
    · exact h
    · simp [List.getElem?_eq_none h] at h1
  simp only [List.getElem?_toArray]
  rw [List.getElem?_append_left hlt]
  exact h1

end

/-- A variable's value. -/
def Heap.load (A : AP) (H : Heap) (t : TypeId) (a o : Nat) : Option AV :=
  match A.info t with
  | some ti => match A.under t with
    | some (.struct _) => match H.cellsAt a o ti.size with
      | some vs => some (.agg vs)
      | none => none
    | some (.array _ _) => match H.cellsAt a o ti.size with
      | some vs => some (.agg vs)
      | none => none
    | some _ => H.cell a o
    | none => none
  | none => none

def Heap.store (A : AP) (H : Heap) (t : TypeId) (a o : Nat) (v : AV) : Option Heap :=
  match A.info t with
  | some ti => match v.cells.length == ti.size with
    | true => H.puts a o v.cells
    | false => none
  | none => none

section
variable {B0 : Prot} {w0 : World} {m : Env} {H : Heap} {w : World} {A : AP} {P : Program}

theorem run_typeInfo' {t : TypeId} {i : TypeInfo} (h : P.info? t = some i) (w : World) : (typeInfo t).run P w = .ok i w := by
  simp [typeInfo, h]

theorem HR.load (hA : A.Ok P) (h : HR B0 w0 m H w) {t : TypeId} {a o : Nat} {v : AV} (e : H.load A t a o = some v) {l : Loc} (hl : m a = some l) :
    ∃ x, (loadVar t ⟨l.blk, o + l.sh, none⟩).run P w = .ok x w ∧ VR m v x := by
  unfold Heap.load at e
  split at e
  case h_2 => cases e
  next ti hti =>
  have hi := hA.info t ti hti
  have many : ∀ vs, H.cellsAt a o ti.size = some vs → ∃ xs : List Value, (loadCells ⟨l.blk, o + l.sh, none⟩ ti.size).run P w = .ok xs.toArray w ∧ VRs m vs xs := by
    intro vs hvs
    obtain ⟨xs, h1, h2, h3⟩ := h.cellsAt hl _ _ hvs
    refine ⟨xs, ?_, h1⟩
    rw [← h2]
    exact run_loadCells_list w _ xs fun j x hj => by rw [addr_add]; exact h3 j x hj
  split at e
  · next fs hu =>
    split at e
    · next vs hvs =>
      cases e
      obtain ⟨xs, h1, h2⟩ := many vs hvs
      refine ⟨.agg xs.toArray, ?_, by simp only [VR]; exact ⟨_, rfl, h2⟩⟩
      simp [loadVar, isAgg, run_underlying (hA.under_ok hu), sizeOf, run_typeInfo' hi, h1]
    · cases e
  · next n el hu =>
    split at e
    · next vs hvs =>
      cases e
      obtain ⟨xs, h1, h2⟩ := many vs hvs
      refine ⟨.agg xs.toArray, ?_, by simp only [VR]; exact ⟨_, rfl, h2⟩⟩
      simp [loadVar, isAgg, run_underlying (hA.under_ok hu), sizeOf, run_typeInfo' hi, h1]
    · cases e
  · next d hn1 hn2 hu =>
    obtain ⟨l', x, k1, k2, _, k3⟩ := h.cell e
    rw [hl] at k1
    cases k1
    refine ⟨x, ?_, k3⟩
    have hagg : (isAgg t).run P w = .ok false w := by
      simp only [isAgg, Sem.run_bind, run_underlying (hA.under_ok hu), Result.andThen_ok]
      cases d <;> first
        | rfl
        | exact absurd rfl (hn1 _)
        | exact absurd rfl (hn2 _ _)
    simp only [loadVar, Sem.run_bind, hagg, Result.andThen_ok]
    simp [k2]
  · cases e

theorem HR.store (hA : A.Ok P) (h : HR B0 w0 m H w) {t : TypeId} {a o : Nat} {v : AV} {x : Value} {H' : Heap} (e : H.store A t a o v = some H') (hv : VR m v x) {l : Loc} (hl : m a = some l) :
    ∃ w', (storeVar t ⟨l.blk, o + l.sh, none⟩ x).run P w = .ok () w' ∧ HR B0 w0 m H' w' := by
  unfold Heap.store at e
  split at e
  case h_2 => cases e
  next ti hti =>
  split at e
  · next hsz =>
    have hc := hv.cells
    have hlen := hc.length
    obtain ⟨w', h1, h2⟩ := HR.puts P hl v.cells o o 0 H H' w _ h e hc rfl
    refine ⟨w', ?_, h2⟩
    have hs : x.cells.size = ti.size := by
      have := eq_of_beq hsz
      simp at hlen
      omega
    simp [storeVar, sizeOf, run_typeInfo' (hA.info t ti hti), hs, h1]
  · cases e

theorem HR.newVar (h : HR B0 w0 m H w) (t : TypeId) {v : AV} {x : Value} (hv : VR m v x) :
    ∃ l, (newVar t x).run P w = .ok ⟨l.blk, l.sh, none⟩ (w.alloc (.cells x.cells t)) ∧ HR B0 w0 (m.ext H.next l) (H.newB t v.cells) (w.alloc (.cells x.cells t)) := by
  refine ⟨⟨w.heap.size, 0, (x.cells.toList ++ []).length⟩, by simp [Go.newVar, newRow], ?_⟩
  have := h.newB_of t (rest := []) hv.cells
  simpa using this

end
end Go.Am
