/- The abstract machine, part 10: composite values. -/
import Derived.Test.YtkfoapjbfooneaaAm9
import Derived.Great.BuildSlice
namespace Go.Am
open Go.RowKit

def putAt : List AV → Nat → List AV → List AV
  | [], _, _ => []
  | c :: cs, 0, [] => c :: cs
  | _ :: cs, 0, v :: vs => v :: putAt cs 0 vs
  | c :: cs, n + 1, vs => c :: putAt cs n vs

theorem length_putAt : ∀ (l : List AV) (n : Nat) (vs : List AV), (putAt l n vs).length = l.length
  | [], _, _ => rfl
  | _ :: _, 0, [] => rfl
  | _ :: cs, 0, _ :: vs => by simp [putAt, length_putAt cs 0 vs]
  | _ :: cs, n + 1, vs => by simp [putAt, length_putAt cs n vs]

theorem get_putAt : ∀ (l : List AV) (n : Nat) (vs : List AV) (i : Nat), i < l.length →
    (putAt l n vs)[i]? = if n ≤ i ∧ i < n + vs.length then vs[i - n]? else l[i]?
  | [], n, vs, i, h => by simp at h
  | c :: cs, 0, [], i, h => by
    rw [if_neg (by simp)]
    rfl
  | c :: cs, 0, v :: vs, i, h => by
    cases i with
    | zero => simp [putAt]
    | succ i =>
      simp only [putAt, List.getElem?_cons_succ]
      rw [get_putAt cs 0 vs i (by simpa using h)]
      simp only [Nat.zero_le, Nat.zero_add, List.length_cons, Nat.sub_zero, true_and, Nat.add_lt_add_iff_right, List.getElem?_cons_succ]
  | c :: cs, n + 1, vs, i, h => by
    cases i with
    | zero => simp [putAt]
    | succ i =>
      simp only [putAt, List.getElem?_cons_succ]
      rw [get_putAt cs n vs i (by simpa using h)]
      by_cases hc : n ≤ i ∧ i < n + vs.length
      · rw [if_pos hc, if_pos ⟨by omega, by omega⟩]
        congr 1
        omega
      · rw [if_neg hc, if_neg (by omega)]

def afill (place : Nat → Option (Nat × Nat)) : List AV → List (Nat × AV) → Option (List AV)
  | cells, [] => some cells
  | cells, (i, v) :: rest => match place i with
    | none => none
    | some (off, size) => match v.cells.length == size && Nat.ble (off + size) cells.length with
      | true => afill place (putAt cells off v.cells) rest
      | false => none

def PR (m : Env) : List (Nat × AV) → List (Nat × Value) → Prop
  | [], xs => xs = []
  | a :: as, xs => ∃ y ys, xs = y :: ys ∧ a.1 = y.1 ∧ VR m a.2 y.2 ∧ PR m as ys

theorem foldl_put (off : Nat) : ∀ (l : List Value) (k : Nat) (cs : Array Value), off + k + l.length ≤ cs.size →
    ((l.zipIdx k).foldl (fun cs (c, j) => cs.setIfInBounds (off + j) c) cs).size = cs.size ∧
    ∀ i, ((l.zipIdx k).foldl (fun cs (c, j) => cs.setIfInBounds (off + j) c) cs)[i]? = if off + k ≤ i ∧ i < off + k + l.length then l[i - (off + k)]? else cs[i]?
  | [], k, cs, _ => ⟨rfl, fun i => by rw [if_neg (by simp)]; rfl⟩
  | c :: l, k, cs, h => by
    simp only [List.length_cons] at h
    have ih := foldl_put off l (k + 1) (cs.setIfInBounds (off + k) c) (by simp; omega)
    simp only [List.zipIdx_cons, List.foldl_cons]
    refine ⟨by rw [ih.1]; simp, fun i => ?_⟩
    rw [ih.2]
    by_cases h1 : i = off + k
    · subst h1
      rw [if_neg (by omega), if_pos ⟨by omega, by simp⟩]
      have hlt : off + k < cs.size := by omega
      simp [hlt]
    · by_cases h2 : off + k ≤ i ∧ i < off + k + (l.length + 1)
      · rw [if_pos (by omega), if_pos (by simpa using h2), show i - (off + k) = (i - (off + (k + 1))) + 1 from by omega]
        simp
      · rw [if_neg (by omega), if_neg (by simpa using h2), Array.getElem?_setIfInBounds_ne (by omega)]

theorem afill_ok {m : Env} (place : Nat → Option (Nat × Nat)) : ∀ (parts : List (Nat × AV)) (cells out : List AV) (xs : Array Value) (ps : List (Nat × Value)),
    afill place cells parts = some out → VRs m cells xs.toList → PR m parts ps → ∃ ys : Array Value, Instr.fill place xs ps = some ys ∧ VRs m out ys.toList
  | [], cells, out, xs, ps, h, hc, hp => by
    simp only [afill, Option.some.injEq] at h
    simp only [PR] at hp
    subst h hp
    exact ⟨xs, rfl, hc⟩
  | (i, v) :: rest, cells, out, xs, ps, h, hc, hp => by
    simp only [PR] at hp
    obtain ⟨⟨j, x⟩, ps', rfl, e1, e2, e3⟩ := hp
    simp only at e1 e2
    subst e1
    simp only [afill] at h
    split at h
    · cases h
    next off size hpl =>
    split at h
    case h_2 => cases h
    next hb =>
    simp only [Bool.and_eq_true, beq_iff_eq, Nat.ble_eq] at hb
    obtain ⟨hb1, hb2⟩ := hb
    have hvc := e2.cells
    have hvl := hvc.length
    have hcl := hc.length
    have hxl : x.cells.size = size := by simp at hvl; omega
    have hput := foldl_put off x.cells.toList 0 xs (by simp at hvl hcl ⊢; omega)
    have hfold : x.cells.zipIdx.foldl (fun cs (c, j) => cs.setIfInBounds (off + j) c) xs = (x.cells.toList.zipIdx 0).foldl (fun cs (c, j) => cs.setIfInBounds (off + j) c) xs := by
      rw [← Array.foldl_toList]
      simp
    have hnew : VRs m (putAt cells off v.cells) (x.cells.zipIdx.foldl (fun cs (c, j) => cs.setIfInBounds (off + j) c) xs).toList := by
      rw [hfold]
      refine VRs.of_get (by rw [Array.length_toList, hput.1, length_putAt]; simpa using hcl) fun k a y ha hy => ?_
      rw [Array.getElem?_toList, hput.2] at hy
      have hk : k < cells.length := by
        have := (List.getElem?_eq_some_iff.1 ha).1
        rwa [length_putAt] at this
      rw [get_putAt _ _ _ _ hk] at ha
      have hsame : x.cells.toList.length = v.cells.length := hvl
      by_cases hin : off ≤ k ∧ k < off + v.cells.length
      · rw [if_pos hin] at ha
        rw [if_pos (by omega)] at hy
        obtain ⟨z, z1, z2⟩ := hvc.get ha
        rw [show k - (off + 0) = k - off from by omega] at hy
        rw [z1] at hy
        cases hy
        exact z2
      · rw [if_neg hin] at ha
        rw [if_neg (by omega)] at hy
        obtain ⟨z, z1, z2⟩ := hc.get ha
        rw [Array.getElem?_toList] at z1
        rw [z1] at hy
        cases hy
        exact z2
    obtain ⟨ys, y1, y2⟩ := afill_ok place rest _ out _ ps' h hnew e3
    refine ⟨ys, ?_, y2⟩
    simp only [Instr.fill, hpl]
    rw [if_neg (by simp at hcl; simp; omega)]
    exact y1

def aplaces (A : AP) : List Field → Option (List (Nat × Nat))
  | [] => some []
  | f :: fs => match A.info f.type, aplaces A fs with
    | some i, some ps => some ((f.offset, i.size) :: ps)
    | _, _ => none

def abuild (A : AP) (t : TypeId) (parts : List (Nat × AV)) : Option AV :=
  match A.info t, A.under t with
  | some it, some (.struct fields) => match it.zero with
    | some z => match ofCells z.cells.toList, aplaces A fields.toList with
      | some cs, some places => match afill (fun i => places[i]?) cs parts with
        | some out => some (.agg out)
        | none => none
      | _, _ => none
    | none => none
  | some it, some (.array _ e) => match it.zero, A.info e with
    | some z, some ie => match ofCells z.cells.toList with
      | some cs => match afill (fun i => some (i * ie.size, ie.size)) cs parts with
        | some out => some (.agg out)
        | none => none
      | none => none
    | _, _ => none
  | _, _ => none

def acopies (l : List AV) : Nat → List AV
  | 0 => []
  | n + 1 => l ++ acopies l n

/-- The cells of a slice literal, and its elements' type. -/
def abuildSlice (A : AP) (t : TypeId) (len : Nat) (parts : List (Nat × AV)) : Option (TypeId × List AV) :=
  match A.under t with
  | some (.slice e) => match A.info e with
    | some ie => match len with
      | 0 => match parts with
        | [] => some (e, [])
        | _ :: _ => none
      | _ + 1 => match ie.zero with
        | some z => match z.cells.size == ie.size && Nat.ble 1 ie.size && Nat.ble (len * ie.size) 16777216, ofCells z.cells.toList with
          | true, some cs => match afill (fun i => some (i * ie.size, ie.size)) (acopies cs len) parts with
            | some out => some (e, out)
            | none => none
          | _, _ => none
        | none => none
    | none => none
  | _ => none

section
variable {m : Env} {w : World} {A : AP} {P : Program}

theorem aplaces_ok (hA : A.Ok P) : ∀ (fs : List Field) (ps : List (Nat × Nat)), aplaces A fs = some ps → fs.mapM (fun f => (P.info? f.type).map fun i => (f.offset, i.size)) = some ps
  | [], ps, h => by simp only [aplaces, Option.some.injEq] at h; subst h; rfl
  | f :: fs, ps, h => by
    simp only [aplaces] at h
    split at h
    · next i ps' h1 h2 =>
      cases h
      simp [hA.info _ _ h1, aplaces_ok hA fs ps' h2]
    · cases h

theorem abuild_ok (hA : A.Ok P) {t : TypeId} {parts : List (Nat × AV)} {v : AV} (h : abuild A t parts = some v) {ps : Array (Nat × Value)} (hp : PR m parts ps.toList) :
    ∃ r, (Instr.build t ps).run P w = .ok r w ∧ VR m v r := by
  unfold abuild at h
  split at h
  · next it fields hi hu =>
    split at h
    · next z hz =>
      split at h
      · next cs places hcs hpl =>
        split at h
        · next out hout =>
          cases h
          obtain ⟨ys, y1, y2⟩ := afill_ok _ parts _ out z.cells ps.toList hout (ofCells_ok (m := m) hcs) hp
          refine ⟨.agg ys, run_build w t ps ys ?_, by simp only [VR]; exact ⟨_, rfl, y2⟩⟩
          unfold Program.built
          simp only [hA.info _ _ hi, hA.under_ok hu, hz, aplaces_ok hA _ _ hpl]
          have e : (fun i => places.toArray[i]?) = fun i : Nat => places[i]? := funext fun i => by simp
          rw [e]
          exact y1
        · cases h
      · cases h
    · cases h
  · next it n e hi hu =>
    split at h
    · next z ie hz hie =>
      split at h
      · next cs hcs =>
        split at h
        · next out hout =>
          cases h
          obtain ⟨ys, y1, y2⟩ := afill_ok _ parts _ out z.cells ps.toList hout (ofCells_ok (m := m) hcs) hp
          refine ⟨.agg ys, run_build w t ps ys ?_, by simp only [VR]; exact ⟨_, rfl, y2⟩⟩
          unfold Program.built
          simp only [hA.info _ _ hi, hA.under_ok hu, hz, hA.info _ _ hie]
          exact y1
        · cases h
      · cases h
    · cases h
  · cases h

theorem length_acopies (l : List AV) : ∀ n, (acopies l n).length = n * l.length
  | 0 => by simp [acopies]
  | n + 1 => by simp [acopies, length_acopies l n, Nat.add_mul, Nat.add_comm]

theorem get_acopies (l : List AV) (hl : 0 < l.length) : ∀ (n i : Nat), i < n * l.length → (acopies l n)[i]? = l[i % l.length]?
  | 0, i, h => by simp at h
  | n + 1, i, h => by
    simp only [acopies]
    rcases Nat.lt_or_ge i l.length with h1 | h1
    · rw [List.getElem?_append_left h1, Nat.mod_eq_of_lt h1]
    · rw [Nat.add_mul] at h
      rw [List.getElem?_append_right h1, get_acopies l hl n _ (by omega), ← Nat.mod_eq_sub_mod h1]

theorem abuildSlice_ok (hA : A.Ok P) {t e : TypeId} {len : Nat} {parts : List (Nat × AV)} {cs : List AV} (h : abuildSlice A t len parts = some (e, cs)) {ps : Array (Nat × Value)} (hp : PR m parts ps.toList) :
    ∃ xs : Array Value, VRs m cs xs.toList ∧ (Instr.buildSlice t len ps).run P w = .ok (.slice (some ⟨w.heap.size, 0, none⟩) len len) (w.alloc (.cells xs e)) := by
  unfold abuildSlice at h
  split at h
  case h_2 => cases h
  next el hu =>
  split at h
  case h_2 => cases h
  next ie hie =>
  have hu' := hA.under_ok hu
  have hi := hA.info _ _ hie
  split at h
  · split at h
    · cases h
      simp only [PR] at hp
      have hp' : ps = #[] := by simpa using hp
      subst hp'
      refine ⟨#[], by simp only [VRs], ?_⟩
      have e0 : ∀ (f : Nat → Value), Array.map f (Array.range 0) = #[] := fun f => by simp [Array.range]
      simp [Instr.buildSlice, run_underlying hu', sizeOf, typeInfo, hi, Instr.fill, newRow, e0]
    · cases h
  · next k =>
    split at h
    case h_2 => cases h
    next z hz =>
    split at h
    case h_2 => cases h
    next cs0 hb hcs =>
    split at h
    case h_2 => cases h
    next out hout =>
    cases h
    simp only [Bool.and_eq_true, beq_iff_eq, Nat.ble_eq] at hb
    obtain ⟨⟨hb1, hb2⟩, hb3⟩ := hb
    have hc0 := ofCells_ok (m := m) hcs
    have hcl : z.cells.size = cs0.length := by simpa using hc0.length
    have hz0 : VRs m (acopies cs0 (k + 1)) ((Array.range ((k + 1) * ie.size)).map (z.cells[· % z.cells.size]!)).toList := by
      refine VRs.of_get (by rw [length_acopies]; simp; rw [← hcl, hb1]) fun i a y ha hy => ?_
      have hlt : i < (k + 1) * cs0.length := by
        have := (List.getElem?_eq_some_iff.1 ha).1
        rwa [length_acopies] at this
      rw [get_acopies cs0 (by omega) _ _ hlt] at ha
      obtain ⟨u, u1, u2⟩ := hc0.get ha
      have hmod : i % cs0.length < z.cells.size := by rw [hcl]; exact Nat.mod_lt _ (by omega)
      have hlt' : i < (k + 1) * ie.size := by rw [← hb1, hcl]; exact hlt
      simp [hlt'] at hy
      rw [hcl] at hy
      rw [Array.getElem?_toList] at u1
      rw [← hy, getElem!_pos z.cells _ hmod]
      rw [Array.getElem?_eq_getElem hmod] at u1
      cases u1
      exact u2
    obtain ⟨ys, y1, y2⟩ := afill_ok _ parts _ cs _ ps.toList hout hz0 hp
    refine ⟨ys, y2, ?_⟩
    refine run_buildSlice w t e (k + 1) ps ys ie z hu' hi hz ?_ ?_ y1
    · have e24 : (2 : Nat) ^ 24 = 16777216 := rfl
      rw [e24]
      exact Nat.not_lt.2 hb3
    · have : 1 * 1 ≤ (k + 1) * ie.size := Nat.mul_le_mul (by omega) hb2
      omega

end
end Go.Am
