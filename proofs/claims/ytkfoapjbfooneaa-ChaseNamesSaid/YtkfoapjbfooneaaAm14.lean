/- The abstract machine, part 14: make, copy, clear, len, min, max, interfaces. -/
import Derived.Test.YtkfoapjbfooneaaAm13
namespace Go.Am
open Go.RowKit

def anat : AV → Option Nat
  | .int _ (.ofNat n) => some n
  | _ => none

/-- So many zero elements. -/
def azeros (A : AP) (e : TypeId) (n : Nat) : Option (List AV) :=
  match A.info e with
  | some ie => match ie.zero with
    | some z => match z.cells.size == ie.size && Nat.ble 1 ie.size, ofCells z.cells.toList with
      | true, some cs => some (acopies cs n)
      | _, _ => none
    | none => none
  | none => none

def amakeSlice (A : AP) (H : Heap) (t : TypeId) (len cap : AV) : Option (AV × Heap) :=
  match A.under t, anat len, anat cap with
  | some (.slice e), some l, some c => match A.info e, azeros A e c with
    | some ie, some zs => match Nat.ble l c && Nat.ble c 1000000000 && Nat.ble (ie.bytes * c) 140737488355328 with
      | true => some (.sl H.next 0 l (.ex c), H.newB e zs)
      | false => none
    | _, _ => none
  | _, _, _ => none

def alen (A : AP) (H : Heap) (t : TypeId) (x : AV) : Option AV :=
  match A.under t, x with
  | some .string, .str s => some (.int .i64 s.size)
  | some (.slice _), .sl _ _ n _ => some (.int .i64 n)
  | some (.slice _), .nilsl => some (.int .i64 0)
  | some (.array n _), _ => some (.int .i64 n)
  | some (.map _ _), .nilmap => some (.int .i64 0)
  | some (.map _ _), .map a => match H.blks.get a with
    | some (.map es _) => some (.int .i64 es.length)
    | _ => none
  | _, _ => none

def acopy (A : AP) (H : Heap) (t : TypeId) (d s : AV) : Option (AV × Heap) :=
  match A.under t with
  | some (.slice e) => match A.info e with
    | some ie => match d, s with
      | .nilsl, .nilsl => some (.int .i64 0, H)
      | .nilsl, .sl _ _ _ _ => some (.int .i64 0, H)
      | .sl _ _ _ _, .nilsl => some (.int .i64 0, H)
      | .sl a o dl _, .sl b p sl _ => match Nat.min sl dl with
        | 0 => some (.int .i64 0, H)
        | n + 1 => match H.cellsAt b p ((n + 1) * ie.size) with
          | some vs => match H.puts a o vs with
            | some H' => some (.int .i64 (n + 1 : Nat), H')
            | none => none
          | none => none
      | _, _ => none
    | none => none
  | _ => none

def aclear (A : AP) (H : Heap) (t : TypeId) (x : AV) : Option (AV × Heap) :=
  match A.under t, x with
  | some (.slice _), .nilsl => some (.tup [], H)
  | some (.slice e), .sl a o n _ => match n with
    | 0 => some (.tup [], H)
    | _ + 1 => match azeros A e n with
      | some zs => match H.puts a o zs with
        | some H' => some (.tup [], H')
        | none => none
      | none => none
  | _, _ => none

def aminmax (mx : Bool) : AV → List AV → Option AV
  | x, [] => some x
  | .int k a, .int k' b :: l => match decide (k = k') with
    | true => match mx with
      | false => aminmax mx (.int k (if b < a then b else a)) l
      | true => aminmax mx (.int k (if b > a then b else a)) l
    | false => none
  | _, _ => none

def amakeInterface (A : AP) (t : TypeId) (x : AV) : Option AV :=
  match A.under t with
  | some (.interface _) => none
  | some _ => some (.ifc t x)
  | none => none

def atypeAssert (A : AP) (x : AV) (asserted : TypeId) (ok : Bool) : Option AV :=
  match A.under asserted with
  | some (.interface _) => none
  | none => none
  | some _ => match x with
    | .ifc t v => match Nat.beq t asserted with
      | true => some (match ok with
        | true => .tup [v, .bool true]
        | false => v)
      | false => match ok, A.info asserted with
        | true, some ti => match ti.zero with
          | some z => match ofValue z with
            | some z => some (.tup [z, .bool false])
            | none => none
          | none => none
        | _, _ => none
    | .nilifc => match ok, A.info asserted with
      | true, some ti => match ti.zero with
        | some z => match ofValue z with
          | some z => some (.tup [z, .bool false])
          | none => none
        | none => none
      | _, _ => none
    | _ => none

section
variable {m : Env} {w : World} {A : AP} {P : Program} {E : Eqs} {B0 : Prot} {w0 : World} {H : Heap}

theorem anat_ok {v : AV} {n : Nat} (h : anat v = some n) {x : Value} (hx : VR m v x) : ∃ k, x = .int k (n : Int) := by
  unfold anat at h
  split at h
  · cases h
    simp only [VR] at hx
    exact ⟨_, hx⟩
  · cases h

theorem azeros_ok (hA : A.Ok P) {e : TypeId} {n : Nat} {zs : List AV} (h : azeros A e n = some zs) :
    ∃ ie z, A.info e = some ie ∧ P.info? e = some ie ∧ ie.zero = some z ∧ z.cells.size = ie.size ∧ 1 ≤ ie.size ∧ zs.length = n * ie.size ∧
      VRs m zs ((Array.range (n * ie.size)).map (z.cells[· % z.cells.size]!)).toList := by
  unfold azeros at h
  split at h
  case h_2 => cases h
  next ie hie =>
  split at h
  case h_2 => cases h
  next z hz =>
  split at h
  case h_2 => cases h
  next cs hb hcs =>
  cases h
  simp only [Bool.and_eq_true, beq_iff_eq, Nat.ble_eq] at hb
  obtain ⟨hb1, hb2⟩ := hb
  have hc0 := ofCells_ok (m := m) hcs
  have hcl : z.cells.size = cs.length := by simpa using hc0.length
  refine ⟨ie, z, hie, hA.info _ _ hie, hz, hb1, hb2, by rw [length_acopies, ← hcl, hb1], ?_⟩
  refine VRs.of_get (by rw [length_acopies]; simp; rw [← hcl, hb1]) fun i a y ha hy => ?_
  have hlt : i < n * cs.length := by
    have := (List.getElem?_eq_some_iff.1 ha).1
    rwa [length_acopies] at this
  rw [get_acopies cs (by omega) _ _ hlt] at ha
  obtain ⟨u, u1, u2⟩ := hc0.get ha
  have hmod : i % cs.length < z.cells.size := by rw [hcl]; exact Nat.mod_lt _ (by omega)
  have hlt' : i < n * ie.size := by rw [← hb1, hcl]; exact hlt
  simp [hlt'] at hy
  rw [hcl] at hy
  rw [Array.getElem?_toList] at u1
  rw [← hy, getElem!_pos z.cells _ hmod]
  rw [Array.getElem?_eq_getElem hmod] at u1
  cases u1
  exact u2

theorem amakeSlice_ok (hA : A.Ok P) (h : HR B0 w0 m H w) {t : TypeId} {len cap v : AV} {H' : Heap} (e : amakeSlice A H t len cap = some (v, H')) {lv cv : Value} (hl : VR m len lv) (hc : VR m cap cv) :
    ∃ r m' w', (Instr.makeSlice t lv cv).run P w = .ok r w' ∧ m.le m' ∧ VR m' v r ∧ HR B0 w0 m' H' w' := by
  unfold amakeSlice at e
  split at e
  case h_2 => cases e
  next el l c hu hln hcn =>
  split at e
  case h_2 => cases e
  next ie zs hie hzs =>
  split at e
  case h_2 => cases e
  next hb =>
  cases e
  simp only [Bool.and_eq_true, Nat.ble_eq] at hb
  obtain ⟨⟨hb1, hb2⟩, hb3⟩ := hb
  obtain ⟨k1, rfl⟩ := anat_ok hln hl
  obtain ⟨k2, rfl⟩ := anat_ok hcn hc
  obtain ⟨ie', z, z0, z1, z2, z3, z4, z5, z6⟩ := azeros_ok (m := m) hA hzs
  rw [hie] at z0
  cases z0
  have hn := h.newB_of el (rest := []) z6
  have wl : IntKind.i64.wrap (l : Int) = (l : Int) := wrap_in _ (by omega) (by omega)
  have wc : IntKind.i64.wrap (c : Int) = (c : Int) := wrap_in _ (by omega) (by omega)
  have hbig : ¬ ((ie.bytes : Int) * (c : Int) > 2 ^ 48) := by
    have e1 : ((ie.bytes : Int) * (c : Int)) = ((ie.bytes * c : Nat) : Int) := by simp
    rw [e1]
    have : (2 : Int) ^ 48 = 281474976710656 := rfl
    omega
  have hbig' : ¬ ((2 : Int) ^ 48 < (ie.bytes : Int) * (c : Int)) := hbig
  have hlc : ¬ ((c : Int) < (l : Int)) := by omega
  have hne : ¬ (c * ie.size = 0 ∧ False) := by simp
  refine ⟨.slice (some ⟨w.heap.size, 0, none⟩) l c, _, _, ?_, h.le_ext _, ?_, hn⟩
  · by_cases hc0 : c = 0
    · subst hc0
      have e0 : ∀ (f : Nat → Value), Array.map f (Array.range 0) = #[] := fun f => by simp [Array.range]
      have hl0 : l = 0 := by omega
      subst hl0
      have w0' : IntKind.i64.wrap 0 = 0 := by simpa using wl
      simp [Instr.makeSlice, run_underlying (hA.under_ok hu), asInt, asIntOf, run_typeInfo' z1, w0', sizeOf, newRow, e0]
    · have hcs : ¬ (c * ie.size = 0) := by
        have : 1 * 1 ≤ c * ie.size := Nat.mul_le_mul (by omega) z4
        omega
      have hcs' : ¬ (c = 0 ∨ ie.size = 0) := by omega
      have hcond : ¬ (((c : Int) < 0 ∨ 281474976710656 < (ie.bytes : Int) * (c : Int)) ∨ (l : Int) < 0) := by
        have : (2 : Int) ^ 48 = 281474976710656 := rfl
        omega
      simp [Instr.makeSlice, run_underlying (hA.under_ok hu), asInt, asIntOf, run_typeInfo' z1, wl, wc, hlc, sizeOf, hcs, zeroValue, z2, newRow]
      rw [if_neg hcond]
      have hsz : ¬ ie.size = 0 := by omega
      simp [hc0, hsz]
      congr 2
      apply Array.ext'
      simp
  · simp only [VR]
    exact ⟨_, _, c, Env.ext_self _ _ _, rfl, hb1, rfl, by simp⟩

theorem ER.length {es : List AEnt} {xs : List MapEntry} (h : ER m es xs) : xs.length = es.length := by
  induction es generalizing xs with
  | nil => simp only [ER] at h; subst h; rfl
  | cons a as ih =>
    simp only [ER] at h
    obtain ⟨y, ys, rfl, _, _, _, h4⟩ := h
    simp [ih h4]

theorem alen_ok (hA : A.Ok P) (h : HR B0 w0 m H w) {t ty : TypeId} {x v : AV} (e : alen A H t x = some v) {xv : Value} (hx : VR m x xv) :
    ∃ r, (Builtin.len_ #[t] ty #[xv]).run P w = .ok r w ∧ VR m v r := by
  unfold alen at e
  split at e
  · next s hu =>
    cases e
    simp only [VR] at hx
    subst hx
    exact ⟨_, by simp [Builtin.len_, run_underlying (hA.under_ok hu)]; rfl, by simp only [VR, goInt]⟩
  · next el a o n cap hu =>
    cases e
    simp only [VR] at hx
    obtain ⟨l, p, c, _, rfl, _⟩ := hx
    exact ⟨_, by simp [Builtin.len_, run_underlying (hA.under_ok hu)]; rfl, by simp only [VR, goInt]⟩
  · next el hu =>
    cases e
    simp only [VR] at hx
    subst hx
    exact ⟨_, by simp [Builtin.len_, run_underlying (hA.under_ok hu)]; rfl, by simp only [VR, goInt]⟩
  · next n el hu =>
    cases e
    exact ⟨_, by simp [Builtin.len_, run_underlying (hA.under_ok hu)]; rfl, by simp only [VR, goInt]⟩
  · next k el hu =>
    cases e
    simp only [VR] at hx
    subst hx
    exact ⟨_, by simp [Builtin.len_, run_underlying (hA.under_ok hu)]; rfl, by simp only [VR, goInt]⟩
  · next k el a hu =>
    split at e
    · next es clock hb =>
      cases e
      simp only [VR] at hx
      obtain ⟨l, hl, rfl⟩ := hx
      obtain ⟨l', h1, arr, h2, h3⟩ := h.blk a _ hb
      rw [hl] at h1
      cases h1
      have hlen := h3.length
      have hsz : arr.size = es.length := by simpa using hlen
      have hget : (getObj l.blk).run P w = .ok (.map arr clock) w := by simp [getObj, Sem.run, h2]
      exact ⟨goInt arr.size, by simp [Builtin.len_, run_underlying (hA.under_ok hu), hget], by simp only [VR, goInt, hsz]⟩
    · cases e
  · cases e

theorem acopy_ok (hA : A.Ok P) (h : HR B0 w0 m H w) {t ts ty : TypeId} {d s v : AV} {H' : Heap} (e : acopy A H t d s = some (v, H')) {dv sv : Value} (hd : VR m d dv) (hs : VR m s sv) :
    ∃ r w', (Builtin.copy_ #[t, ts] ty #[dv, sv]).run P w = .ok r w' ∧ VR m v r ∧ HR B0 w0 m H' w' := by
  unfold acopy at e
  split at e
  case h_2 => cases e
  next el hu =>
  split at e
  case h_2 => cases e
  next ie hie =>
  have hu' := hA.under_ok hu
  have hi' := hA.info _ _ hie
  have zero : ∀ (b b' : Option Addr) (n n' c c' : Nat), Nat.min n' n = 0 → (Builtin.copy_ #[t, ts] ty #[.slice b n c, .slice b' n' c']).run P w = .ok (goInt 0) w := by
    intro b b' n n' c c' hn
    have hf := firstCells_zero (P := P) ie.size b' n' c' w
    cases b <;> simp [Builtin.copy_, run_underlying hu', Builtin.lenOf, sizeOf, run_typeInfo' hi', hn, hf, storeCells]
  split at e
  · cases e
    simp only [VR] at hd hs
    subst hd hs
    exact ⟨_, w, zero _ _ _ _ _ _ rfl, by simp only [VR, goInt], h⟩
  · cases e
    simp only [VR] at hd hs
    subst hd
    obtain ⟨l, p, c, _, rfl, _⟩ := hs
    exact ⟨_, w, zero _ _ _ _ _ _ (Nat.min_zero _), by simp only [VR, goInt], h⟩
  · cases e
    simp only [VR] at hd hs
    subst hs
    obtain ⟨l, p, c, _, rfl, _⟩ := hd
    exact ⟨_, w, zero _ _ _ _ _ _ (Nat.zero_min _), by simp only [VR, goInt], h⟩
  · next a o dl c1 b p sl c2 =>
    simp only [VR] at hd hs
    obtain ⟨l, q, c, hl, rfl, hlc, hcap⟩ := hd
    obtain ⟨l2, q2, c2', hl2, rfl, hlc2, hcap2⟩ := hs
    split at e
    · next hn =>
      cases e
      exact ⟨_, w, zero _ _ _ _ _ _ hn, by simp only [VR, goInt], h⟩
    · next n hn =>
      have hmin : n + 1 ≤ sl ∧ n + 1 ≤ dl := by
        have h1 : Nat.min sl dl ≤ sl := Nat.min_le_left _ _
        have h2 : Nat.min sl dl ≤ dl := Nat.min_le_right _ _
        omega
      have hq : q = ⟨l.blk, o + l.sh, none⟩ := by
        rcases ACap.ptr hcap with e | e
        · exact e
        · omega
      have hq2 : q2 = ⟨l2.blk, p + l2.sh, none⟩ := by
        rcases ACap.ptr hcap2 with e | e
        · exact e
        · omega
      subst hq hq2
      split at e
      case h_2 => cases e
      next vs hvs =>
      split at e
      case h_2 => cases e
      next H1 hp =>
      cases e
      obtain ⟨xs, x1, x2, x3⟩ := h.cellsAt hl2 _ _ hvs
      have hload := run_loadCells_list (P := P) w ⟨l2.blk, p + l2.sh, none⟩ xs fun j x hj => by rw [addr_add]; exact x3 j x hj
      rw [x2] at hload
      obtain ⟨w', r1, r2⟩ := HR.puts P hl vs o o 0 H _ w xs h hp x1 rfl
      refine ⟨goInt (n + 1 : Nat), w', ?_, by simp only [VR, goInt], r2⟩
      simp [Builtin.copy_, run_underlying hu', Builtin.lenOf, Builtin.firstCells, sizeOf, run_typeInfo' hi', hn, hload, r1]
  · cases e

theorem aclear_ok (hA : A.Ok P) (h : HR B0 w0 m H w) {t ty : TypeId} {x v : AV} {H' : Heap} (e : aclear A H t x = some (v, H')) {xv : Value} (hx : VR m x xv) :
    ∃ r w', (Builtin.clear_ #[t] ty #[xv]).run P w = .ok r w' ∧ VR m v r ∧ HR B0 w0 m H' w' := by
  unfold aclear at e
  split at e
  · next el hu =>
    cases e
    simp only [VR] at hx
    subst hx
    exact ⟨.tuple #[], w, by simp [Builtin.clear_, run_underlying (hA.under_ok hu)], by simp [VR, VRs], h⟩
  · next el a o n cap hu =>
    simp only [VR] at hx
    obtain ⟨l, q, c, hl, rfl, hlc, hcap⟩ := hx
    split at e
    · cases e
      exact ⟨.tuple #[], w, by simp [Builtin.clear_, run_underlying (hA.under_ok hu)], by simp [VR, VRs], h⟩
    · next k =>
      split at e
      case h_2 => cases e
      next zs hzs =>
      split at e
      case h_2 => cases e
      next H1 hp =>
      cases e
      obtain ⟨ie, z, z0, z1, z2, z3, z4, z5, z6⟩ := azeros_ok (m := m) hA hzs
      have hq : q = ⟨l.blk, o + l.sh, none⟩ := by
        rcases ACap.ptr hcap with e | e
        · exact e
        · omega
      subst hq
      obtain ⟨w', r1, r2⟩ := HR.puts P hl zs o o 0 H _ w _ h hp z6 rfl
      rw [← z3] at r1
      refine ⟨.tuple #[], w', ?_, by simp [VR, VRs], r2⟩
      simp [Builtin.clear_, run_underlying (hA.under_ok hu), zeroValue, run_typeInfo' z1, z2, Builtin.zeroCells]
      simp at r1
      rw [r1]
      rfl
  · cases e

theorem aminmax_ok {mx : Bool} : ∀ (l : List AV) (x v : AV) (xs : List Value) (xv : Value), aminmax mx x l = some v → VR m x xv → VRs m l xs →
    ∃ r, (xs.foldlM (match mx with | true => Builtin.max2 | false => Builtin.min2) xv : Sem Value).run P w = .ok r w ∧ VR m v r
  | [], x, v, xs, xv, h, hx, hl => by
    simp only [VRs] at hl
    subst hl
    have : x = v := by cases x <;> simpa [aminmax] using h
    subst this
    exact ⟨xv, by simp, hx⟩
  | y :: l, x, v, xs, xv, h, hx, hl => by
    simp only [VRs] at hl
    obtain ⟨z, zs, rfl, h1, h2⟩ := hl
    cases x <;> cases y <;> simp only [aminmax, reduceCtorEq] at h
    case int.int k a k' b =>
      split at h
      case h_2 => cases h
      next hk =>
      simp only [decide_eq_true_eq] at hk
      subst hk
      simp only [VR] at hx h1
      subst hx h1
      cases mx with
      | false =>
        simp only [] at h
        obtain ⟨r, r1, r2⟩ := aminmax_ok l _ v zs (.int k (if b < a then b else a)) h (by simp only [VR]) h2
        refine ⟨r, ?_, r2⟩
        simpa [Builtin.min2] using r1
      | true =>
        simp only [] at h
        obtain ⟨r, r1, r2⟩ := aminmax_ok l _ v zs (.int k (if b > a then b else a)) h (by simp only [VR]) h2
        refine ⟨r, ?_, r2⟩
        simpa [Builtin.max2] using r1

theorem amakeInterface_ok (hA : A.Ok P) {t : TypeId} {x v : AV} (h : amakeInterface A t x = some v) {xv : Value} (hx : VR m x xv) :
    ∃ r, (Instr.makeInterface t xv).run P w = .ok r w ∧ VR m v r := by
  unfold amakeInterface at h
  split at h
  · cases h
  · next d hn hu =>
    cases h
    refine ⟨.iface t xv, run_makeInterface w t xv ?_, by simp only [VR]; exact ⟨_, rfl, hx⟩⟩
    unfold Program.concrete
    rw [hA.under_ok hu]
    cases d <;> first
      | rfl
      | exact absurd rfl (hn _)
  · cases h

theorem atypeAssert_ok (hA : A.Ok P) {x v : AV} {asserted xt : TypeId} {ok : Bool} (h : atypeAssert A x asserted ok = some v) {xv : Value} (hx : VR m x xv) :
    ∃ r, (Instr.typeAssert xv xt asserted ok).run P w = .ok r w ∧ VR m v r := by
  unfold atypeAssert at h
  split at h
  · cases h
  · cases h
  · next d hn hu =>
    have hu' := hA.under_ok hu
    split at h
    · next t y =>
      simp only [VR] at hx
      obtain ⟨yv, rfl, hy⟩ := hx
      split at h
      · next ht =>
        have ht := Nat.eq_of_beq_eq_true ht
        subst ht
        cases h
        cases ok
        · refine ⟨yv, ?_, hy⟩
          cases d <;> first
            | exact absurd rfl (hn _)
            | simp [Instr.typeAssert, run_underlying hu']
        · refine ⟨.tuple #[yv, .bool true], ?_, by simp only [VR, VRs]; exact ⟨_, rfl, _, _, rfl, hy, _, _, rfl, rfl, rfl⟩⟩
          cases d <;> first
            | exact absurd rfl (hn _)
            | simp [Instr.typeAssert, run_underlying hu']
      · next ht =>
        have ht : ¬ t = asserted := fun e => by subst e; simp at ht
        split at h
        case h_2 => cases h
        next ti hti =>
        split at h
        case h_2 => cases h
        next z hz =>
        split at h
        case h_2 => cases h
        next z' hz' =>
        cases h
        refine ⟨.tuple #[z, .bool false], ?_, by simp only [VR, VRs]; exact ⟨_, rfl, _, _, rfl, ofValue_ok hz', _, _, rfl, rfl, rfl⟩⟩
        cases d <;> first
          | exact absurd rfl (hn _)
          | simp [Instr.typeAssert, run_underlying hu', ht, zeroValue, run_typeInfo' (hA.info _ _ hti), hz]
    · simp only [VR] at hx
      subst hx
      split at h
      case h_2 => cases h
      next ti hti =>
      split at h
      case h_2 => cases h
      next z hz =>
      split at h
      case h_2 => cases h
      next z' hz' =>
      cases h
      refine ⟨.tuple #[z, .bool false], ?_, by simp only [VR, VRs]; exact ⟨_, rfl, _, _, rfl, ofValue_ok hz', _, _, rfl, rfl, rfl⟩⟩
      cases d <;> first
        | exact absurd rfl (hn _)
        | simp [Instr.typeAssert, run_underlying hu', zeroValue, run_typeInfo' (hA.info _ _ hti), hz]
    · cases h

end
end Go.Am
