/- The abstract machine, part 11: addresses, indexes, slices. -/
import Derived.Test.YtkfoapjbfooneaaAm10
namespace Go.Am
open Go.RowKit

/-- An index below a bound. -/
def aidx (i : Int) (len : Nat) : Option Nat :=
  match i with
  | .ofNat n => match Nat.blt n len with
    | true => some n
    | false => none
  | .negSucc _ => none

theorem aidx_ok {i : Int} {len n : Nat} (h : aidx i len = some n) : i = (n : Int) ∧ n < len := by
  cases i with
  | negSucc k => simp [aidx] at h
  | ofNat k =>
    simp only [aidx] at h
    cases hb : Nat.blt k len with
    | false => simp [hb] at h
    | true =>
      simp only [hb, Option.some.injEq] at h
      subst h
      have hlt : k + 1 ≤ len := by simpa [Nat.blt, Nat.ble_eq] using hb
      exact ⟨rfl, hlt⟩

def aindexAddr (A : AP) (t : TypeId) (x ix : AV) : Option AV :=
  match ix with
  | .int _ i => match A.under t, x with
    | some (.array len e), .ptr a o => match aidx i len, A.info e with
      | some n, some ti => some (.ptr a (o + n * ti.size))
      | _, _ => none
    | some (.slice e), .sl a o len _ => match aidx i len, A.info e with
      | some n, some ti => some (.ptr a (o + n * ti.size))
      | _, _ => none
    | _, _ => none
  | _ => none

def afieldAddr (A : AP) (H : Heap) (s : TypeId) (x : AV) (f : Nat) : Option AV :=
  match A.under s, x with
  | some (.struct fields), .ptr a o => match fields.toList[f]? with
    | some fd => match A.info fd.type with
      | some ti => match ti.size with
        | 0 => match H.blks.get a with
          | some (.cells t _ _ _) => match A.info t with
            | some bi => match bi.size with
              | 0 => some .zptr
              | _ + 1 => none
            | none => none
          | _ => none
        | _ + 1 => some (.ptr a (o + fd.offset))
      | none => none
    | none => none
  | _, _ => none

def afield (A : AP) (t : TypeId) (x : AV) (f : Nat) : Option AV :=
  match A.under t, x with
  | some (.struct fields), .agg cs => match fields.toList[f]? with
    | some fd => apart A fd.type cs fd.offset
    | none => none
  | _, _ => none

def aextract (x : AV) (i : Nat) : Option AV :=
  match x with
  | .tup vs => vs[i]?
  | _ => none

def aindex (A : AP) (t : TypeId) (x ix : AV) : Option AV :=
  match ix with
  | .int _ i => match A.under t, x with
    | some (.array len e), .agg cs => match aidx i len, A.info e with
      | some n, some ti => apart A e cs (n * ti.size)
      | _, _ => none
    | some .string, .str s => match aidx i s.size with
      | some n => match s[n]? with
        | some b => some (.int .u8 b.toNat)
        | none => none
      | none => none
    | _, _ => none
  | _ => none

/-- A bound of a slice expression, at most y. -/
def abound (x : Option AV) (dflt y : Nat) : Option Nat :=
  match x with
  | none => some dflt
  | some (.int _ i) => aidx i (y + 1)
  | some _ => none

def aslice (A : AP) (t : TypeId) (x : AV) (lo hi : Option AV) : Option AV :=
  match A.under t, x with
  | some (.slice e), .sl a o len cap => match A.info e with
    | some ti => match cap with
      | .ex c => match abound hi len c with
        | some h => match abound lo 0 h with
          | some l => match Nat.beq c l with
            | true => some (.sl a o (h - l) (.ex 0))
            | false => some (.sl a (o + l * ti.size) (h - l) (.ex (c - l)))
          | none => none
        | none => none
      | .un esz lb => match esz == ti.size with
        | true => match abound hi len (Nat.max len lb) with
          | some h => match abound lo 0 h with
            | some l => some (.sl a (o + l * ti.size) (h - l) (.un esz (Nat.max len lb - l)))
            | none => none
          | none => none
        | false => none
    | none => none
  | some (.slice e), .nilsl => match A.info e, abound hi 0 0, abound lo 0 0 with
    | some _, some _, some _ => some .nilsl
    | _, _, _ => none
  | some (.array n e), .ptr a o => match A.info e with
    | some ti => match abound hi n n with
      | some h => match abound lo 0 h with
        | some l => match Nat.beq n l with
          | true => some (.sl a o (h - l) (.ex 0))
          | false => some (.sl a (o + l * ti.size) (h - l) (.ex (n - l)))
        | none => none
      | none => none
    | none => none
  | some .string, .str s => match abound hi s.size s.size with
    | some h => match abound lo 0 h with
      | some l => some (.str (s.extract l h))
      | none => none
    | none => none
  | _, _ => none

/-- A slice expression of three, whose last one is within the length. -/
def aslice3 (A : AP) (t : TypeId) (x : AV) (lo : Option AV) (hi mx : AV) : Option AV :=
  match A.under t, x with
  | some (.slice e), .sl a o len cap => match A.info e with
    | some ti => match abound (some mx) 0 len with
      | some m => match abound (some hi) 0 m with
        | some h => match abound lo 0 h with
          | some l => match cap with
            | .ex _ => match Nat.beq m l with
              | true => some (.sl a o (h - l) (.ex 0))
              | false => some (.sl a (o + l * ti.size) (h - l) (.ex (m - l)))
            | .un esz _ => match Nat.beq m l with
              | true => some (.sl a o (h - l) (.un esz 0))
              | false => some (.sl a (o + l * ti.size) (h - l) (.ex (m - l)))
          | none => none
        | none => none
      | none => none
    | none => none
  | _, _ => none

/-- Optional values. -/
def OVR (m : Env) : Option AV → Option Value → Prop
  | none, v => v = none
  | some a, v => ∃ x, v = some x ∧ VR m a x

section
variable {m : Env} {w : World} {A : AP} {P : Program}

theorem run_asIntOf (k : IntKind) (n : Int) : (asIntOf (.int k n)).run P w = .ok (k, n) w := rfl

theorem aindexAddr_ok (hA : A.Ok P) {t : TypeId} {x ix v : AV} (h : aindexAddr A t x ix = some v) {xv iv : Value} (hx : VR m x xv) (hi : VR m ix iv) :
    ∃ r, (Instr.indexAt t xv iv).run P w = .ok r w ∧ VR m v r := by
  unfold aindexAddr at h
  split at h
  case h_2 => cases h
  next k i =>
  simp only [VR] at hi
  subst hi
  split at h
  · next len e a o hu =>
    split at h
    · next n ti hn hti =>
      cases h
      obtain ⟨rfl, hlt⟩ := aidx_ok hn
      simp only [VR] at hx
      obtain ⟨l, hl, rfl⟩ := hx
      refine ⟨.pointer (some ⟨l.blk, o + n * ti.size + l.sh, none⟩), ?_, by simp only [VR]; exact ⟨l, hl, rfl⟩⟩
      have hlt' : (n : Int) < (len : Int) := by omega
      simp [Instr.indexAt, run_asIntOf, run_underlying (hA.under_ok hu), Instr.sureAddr, sizeOf, run_typeInfo' (hA.info _ _ hti), hlt', addr_add]
    · cases h
  · next e a o len cap hu =>
    split at h
    · next n ti hn hti =>
      cases h
      obtain ⟨rfl, hlt⟩ := aidx_ok hn
      simp only [VR] at hx
      obtain ⟨l, p, c, hl, rfl, hlc, hcap⟩ := hx
      rcases ACap.ptr hcap with rfl | rfl
      case inr => omega
      refine ⟨.pointer (some ⟨l.blk, o + n * ti.size + l.sh, none⟩), ?_, by simp only [VR]; exact ⟨l, hl, rfl⟩⟩
      have hlt' : (n : Int) < (len : Int) := by omega
      simp [Instr.indexAt, run_asIntOf, run_underlying (hA.under_ok hu), sizeOf, run_typeInfo' (hA.info _ _ hti), hlt', addr_add]
    · cases h
  · cases h

theorem afieldAddr_ok (hA : A.Ok P) {B0 : Prot} {w0 : World} {H : Heap} (hh : HR B0 w0 m H w) {s : TypeId} {x v : AV} {f : Nat} (h : afieldAddr A H s x f = some v) {xv : Value} (hx : VR m x xv) :
    ∃ r, (Instr.fieldAt s xv f).run P w = .ok r w ∧ VR m v r := by
  unfold afieldAddr at h
  split at h
  case h_2 => cases h
  next fields a o hu =>
  split at h
  case h_2 => cases h
  next fd hfd =>
  split at h
  case h_2 => cases h
  next ti hti =>
  have hf : fields[f]? = some fd := by simpa using hfd
  simp only [VR] at hx
  obtain ⟨l, hl, rfl⟩ := hx
  split at h
  · next hk =>
    split at h
    case h_2 => cases h
    next t fam n c hb =>
    split at h
    case h_2 => cases h
    next bi hbi =>
    split at h
    case h_2 => cases h
    next hbz =>
    cases h
    obtain ⟨l', arr, k1, k2, _⟩ := hh.get_cells hb
    rw [hl] at k1
    cases k1
    have hco : P.cellsOf t = 0 := by simp [Program.cellsOf, hA.info _ _ hbi, hbz]
    have hby : ∀ o : Nat, (byteOf ⟨l.blk, o, none⟩).run P w = .ok 0 w := by
      intro o
      simp [byteOf, noView, viewAt, World.shape?, k2, hco]
    have hpl : ∃ p, (partAt ⟨l.blk, o + l.sh, none⟩ fd.offset fd.byteOffset).run P w = .ok p w := by
      simp [partAt, hby]
    obtain ⟨p, hp⟩ := hpl
    refine ⟨.pointer (some p), ?_, by simp only [VR]; exact ⟨p, rfl⟩⟩
    simp [Instr.fieldAt, run_underlying (hA.under_ok hu), hf, Instr.sureAddr, fieldPlace, sizeOf, run_typeInfo' (hA.info _ _ hti), hk, hp]
  next k hk =>
  cases h
  refine ⟨.pointer (some ⟨l.blk, o + fd.offset + l.sh, none⟩), ?_, by simp only [VR]; exact ⟨l, hl, rfl⟩⟩
  simp [Instr.fieldAt, run_underlying (hA.under_ok hu), hf, Instr.sureAddr, fieldPlace, sizeOf, run_typeInfo' (hA.info _ _ hti), hk, addr_add]

theorem afield_ok (hA : A.Ok P) {t : TypeId} {x v : AV} {f : Nat} (h : afield A t x f = some v) {xv : Value} (hx : VR m x xv) :
    ∃ r, (Instr.field t xv f).run P w = .ok r w ∧ VR m v r := by
  unfold afield at h
  split at h
  case h_2 => cases h
  next fields cs hu =>
  split at h
  case h_2 => cases h
  next fd hfd =>
  simp only [VR] at hx
  obtain ⟨xs, rfl, hx⟩ := hx
  have hf : fields[f]? = some fd := by simpa using hfd
  obtain ⟨r, r1, r2⟩ := apart_ok (w := w) hA h hx
  exact ⟨r, by simp [Instr.field, run_underlying (hA.under_ok hu), hf, asAgg, r1], r2⟩

theorem aextract_ok {x v : AV} {i : Nat} (h : aextract x i = some v) {xv : Value} (hx : VR m x xv) : ∃ r, (Instr.extract xv i).run P w = .ok r w ∧ VR m v r := by
  unfold aextract at h
  split at h
  case h_2 => cases h
  simp only [VR] at hx
  obtain ⟨xs, rfl, hx⟩ := hx
  obtain ⟨y, y1, y2⟩ := hx.get h
  have : xs[i]? = some y := by simpa using y1
  exact ⟨y, by simp [Instr.extract, this], y2⟩

theorem aindex_ok (hA : A.Ok P) {t : TypeId} {x ix v : AV} (h : aindex A t x ix = some v) {xv iv : Value} (hx : VR m x xv) (hi : VR m ix iv) :
    ∃ r, (Instr.index t xv iv).run P w = .ok r w ∧ VR m v r := by
  unfold aindex at h
  split at h
  case h_2 => cases h
  next k i =>
  simp only [VR] at hi
  subst hi
  split at h
  · next len e cs hu =>
    split at h
    · next n ti hn hti =>
      obtain ⟨rfl, hlt⟩ := aidx_ok hn
      simp only [VR] at hx
      obtain ⟨xs, rfl, hx⟩ := hx
      obtain ⟨r, r1, r2⟩ := apart_ok (w := w) hA h hx
      have hlt' : (n : Int) < (len : Int) := by omega
      exact ⟨r, by simp [Instr.index, run_asIntOf, run_underlying (hA.under_ok hu), sizeOf, run_typeInfo' (hA.info _ _ hti), hlt', r1], r2⟩
    · cases h
  · next s hu =>
    split at h
    · next n hn =>
      split at h
      · next b hb =>
        cases h
        obtain ⟨rfl, hlt⟩ := aidx_ok hn
        simp only [VR] at hx
        subst hx
        refine ⟨.int .u8 b.toNat, ?_, by simp only [VR]⟩
        simp [Instr.index, run_asIntOf, run_underlying (hA.under_ok hu), hb]
      · cases h
    · cases h
  · cases h

theorem abound_ok {x : Option AV} {dflt y n : Nat} (h : abound x dflt y = some n) {v : Option Value} (hv : OVR m x v) :
    (v = none ∧ n = dflt) ∨ ∃ u, v = some u ∧ n ≤ y ∧ ∀ (z : Nat) code, n ≤ z → (Instr.sliceBound u z code).run P w = .ok n w := by
  unfold abound at h
  split at h
  · cases h
    exact .inl ⟨hv, rfl⟩
  · next k i =>
    obtain ⟨hi, hlt⟩ := aidx_ok h
    simp only [OVR, VR] at hv
    obtain ⟨u, rfl, rfl⟩ := hv
    refine .inr ⟨_, rfl, by omega, fun z code hz => ?_⟩
    subst hi
    have hz' : (n : Int) ≤ (z : Int) := by omega
    simp [Instr.sliceBound, run_asIntOf, hz']
  · cases h

/-- The three bounds of a slice expression of two. -/
theorem run_sliceBounds {lo hi : Option AV} {lov hiv : Option Value} (isSl : Bool) {len cap y h l : Nat} (hh : abound hi len y = some h) (hl : abound lo 0 h = some l)
    (hlen : len ≤ cap) (hy : y ≤ cap) (hhv : OVR m hi hiv) (hlv : OVR m lo lov) :
    (Instr.sliceBounds isSl len cap lov hiv none).run P w = .ok (l, h, cap) w ∧ l ≤ h ∧ h ≤ cap := by
  have h1 := abound_ok (P := P) (w := w) hh hhv
  have h2 := abound_ok (P := P) (w := w) hl hlv
  rcases h1 with ⟨rfl, rfl⟩ | ⟨u, rfl, hu1, hu2⟩
  · rcases h2 with ⟨rfl, rfl⟩ | ⟨z, rfl, hz1, hz2⟩
    · exact ⟨by simp [Instr.sliceBounds], by omega, hlen⟩
    · exact ⟨by simp [Instr.sliceBounds, hz2 _ _ hz1], hz1, hlen⟩
  · rcases h2 with ⟨rfl, rfl⟩ | ⟨z, rfl, hz1, hz2⟩
    · exact ⟨by simp [Instr.sliceBounds, hu2 cap _ (by omega)], by omega, by omega⟩
    · exact ⟨by simp [Instr.sliceBounds, hu2 cap _ (by omega), hz2 _ _ hz1], hz1, by omega⟩

theorem aslice3_ok (hA : A.Ok P) {t : TypeId} {x v : AV} {lo : Option AV} {hi mx : AV} (h : aslice3 A t x lo hi mx = some v) {xv : Value} {lov : Option Value} {hiv mxv : Value} (hx : VR m x xv) (hlo : OVR m lo lov) (hhi : VR m hi hiv) (hmx : VR m mx mxv) :
    ∃ r, (Instr.sliceAt t xv lov (some hiv) (some mxv)).run P w = .ok r w ∧ VR m v r := by
  unfold aslice3 at h
  split at h
  case h_2 => cases h
  next e a o len cap hu =>
  have hu' := hA.under_ok hu
  split at h
  case h_2 => cases h
  next ti hti =>
  have hi' := hA.info _ _ hti
  split at h
  case h_2 => cases h
  next mm hme =>
  split at h
  case h_2 => cases h
  next hh hhe =>
  split at h
  case h_2 => cases h
  next l hle =>
  simp only [VR] at hx
  obtain ⟨b, p, c, hb, rfl, hlc, hcap⟩ := hx
  have h1 := abound_ok (P := P) (w := w) hme (v := some mxv) ⟨mxv, rfl, hmx⟩
  have h2 := abound_ok (P := P) (w := w) hhe (v := some hiv) ⟨hiv, rfl, hhi⟩
  have h3 := abound_ok (P := P) (w := w) hle hlo
  rcases h1 with ⟨h1, _⟩ | ⟨u1, hu1, hm1, hm2⟩
  · cases h1
  cases hu1
  rcases h2 with ⟨h2, _⟩ | ⟨u2, hu2, hh1, hh2⟩
  · cases h2
  cases hu2
  have hl1 : l ≤ hh := by
    rcases h3 with ⟨_, rfl⟩ | ⟨_, _, h4, _⟩
    · exact Nat.zero_le _
    · exact h4
  have r1 : (Instr.sliceBounds true len c lov (some hiv) (some mxv)).run P w = .ok (l, hh, mm) w := by
    rcases h3 with ⟨rfl, rfl⟩ | ⟨z, rfl, hz1, hz2⟩
    · simp [Instr.sliceBounds, hm2 c _ (by omega), hh2 mm _ hh1]
    · simp [Instr.sliceBounds, hm2 c _ (by omega), hh2 mm _ hh1, hz2 hh _ hz1]
  cases cap with
  | ex c' =>
    simp only [ACap.ok] at hcap
    obtain ⟨rfl, rfl⟩ := hcap
    simp only [] at h
    split at h
    · next hcl =>
      cases h
      have hcl := Nat.eq_of_beq_eq_true hcl
      subst hcl
      refine ⟨.slice (some ⟨b.blk, o + b.sh, none⟩) (hh - mm) 0, ?_, ?_⟩
      · simp [Instr.sliceAt, Instr.slice, run_underlying hu', r1, sizeOf, run_typeInfo' hi']
      · simp only [VR]
        exact ⟨b, _, 0, hb, rfl, by omega, rfl, rfl⟩
    · next hcl =>
      cases h
      have hcl : ¬ mm = l := fun e => by subst e; simp at hcl
      refine ⟨.slice (some ⟨b.blk, o + b.sh + l * ti.size, none⟩) (hh - l) (mm - l), ?_, ?_⟩
      · simp [Instr.sliceAt, Instr.slice, run_underlying hu', r1, sizeOf, run_typeInfo' hi', hcl, addr_add]
      · simp only [VR]
        exact ⟨b, _, mm - l, hb, rfl, by omega, rfl, by congr 1; omega⟩
  | un esz lb =>
    simp only [ACap.ok] at hcap
    obtain ⟨hez, hsz, hp, hlb⟩ := hcap
    simp only [] at h
    split at h
    · next hcl =>
      cases h
      have hcl := Nat.eq_of_beq_eq_true hcl
      subst hcl
      refine ⟨.slice (some p) (hh - mm) 0, ?_, ?_⟩
      · simp [Instr.sliceAt, Instr.slice, run_underlying hu', r1, sizeOf, run_typeInfo' hi']
      · simp only [VR]
        refine ⟨b, p, 0, hb, rfl, by omega, hez, ?_, .inr rfl, Nat.le_refl _⟩
        omega
    · next hcl =>
      cases h
      have hcl : ¬ mm = l := fun e => by subst e; simp at hcl
      have hpe : p = ⟨b.blk, o + b.sh, none⟩ := by
        rcases hp with e | e
        · exact e
        · omega
      subst hpe
      refine ⟨.slice (some ⟨b.blk, o + b.sh + l * ti.size, none⟩) (hh - l) (mm - l), ?_, ?_⟩
      · simp [Instr.sliceAt, Instr.slice, run_underlying hu', r1, sizeOf, run_typeInfo' hi', hcl, addr_add]
      · simp only [VR]
        exact ⟨b, _, mm - l, hb, rfl, by omega, rfl, by congr 1; omega⟩

theorem aslice_ok (hA : A.Ok P) {t : TypeId} {x v : AV} {lo hi : Option AV} (h : aslice A t x lo hi = some v) {xv : Value} {lov hiv : Option Value} (hx : VR m x xv) (hlo : OVR m lo lov) (hhi : OVR m hi hiv) :
    ∃ r, (Instr.sliceAt t xv lov hiv none).run P w = .ok r w ∧ VR m v r := by
  unfold aslice at h
  split at h
  · next e a o len cap hu =>
    have hu' := hA.under_ok hu
    split at h
    case h_2 => cases h
    next ti hti =>
    have hi' := hA.info _ _ hti
    simp only [VR] at hx
    obtain ⟨b, p, c, hb, rfl, hlc, hcap⟩ := hx
    cases cap with
    | ex c' =>
      simp only [ACap.ok] at hcap
      obtain ⟨rfl, rfl⟩ := hcap
      simp only [] at h
      split at h
      case h_2 => cases h
      next hh hhe =>
      split at h
      case h_2 => cases h
      next l hle =>
      obtain ⟨r1, r2, r3⟩ := run_sliceBounds (P := P) (w := w) true hhe hle hlc (Nat.le_refl _) hhi hlo
      split at h
      · next hcl =>
        cases h
        have hcl := Nat.eq_of_beq_eq_true hcl
        subst hcl
        refine ⟨.slice (some ⟨b.blk, o + b.sh, none⟩) (hh - c) 0, ?_, ?_⟩
        · simp [Instr.sliceAt, Instr.slice, run_underlying hu', r1, sizeOf, run_typeInfo' hi']
        · simp only [VR]
          exact ⟨b, _, 0, hb, rfl, by omega, rfl, rfl⟩
      · next hcl =>
        cases h
        have hcl : ¬ c = l := fun e => by subst e; simp at hcl
        refine ⟨.slice (some ⟨b.blk, o + b.sh + l * ti.size, none⟩) (hh - l) (c - l), ?_, ?_⟩
        · simp [Instr.sliceAt, Instr.slice, run_underlying hu', r1, sizeOf, run_typeInfo' hi', hcl, addr_add]
        · simp only [VR]
          exact ⟨b, _, c - l, hb, rfl, by omega, rfl, by congr 1; omega⟩
    | un esz lb =>
      simp only [ACap.ok] at hcap
      obtain ⟨hez, hsz, hp, hlb⟩ := hcap
      have hmx : Nat.max len lb ≤ c := Nat.max_le.2 ⟨hlc, hlb⟩
      have hmy : len ≤ Nat.max len lb := Nat.le_max_left _ _
      simp only [] at h
      split at h
      case h_2 => cases h
      next hes =>
      have hes := eq_of_beq hes
      subst hes
      split at h
      case h_2 => cases h
      next hh hhe =>
      split at h
      case h_2 => cases h
      next l hle =>
      cases h
      obtain ⟨r1, r2, r3⟩ := run_sliceBounds (P := P) (w := w) true hhe hle hlc hmx hhi hlo
      have hhlen : hh ≤ Nat.max len lb := by
        rcases abound_ok (P := P) (w := w) hhe hhi with ⟨_, e⟩ | ⟨_, _, e, _⟩ <;> omega
      by_cases hcl : c = l
      · subst hcl
        refine ⟨.slice (some p) (hh - c) 0, ?_, ?_⟩
        · simp [Instr.sliceAt, Instr.slice, run_underlying hu', r1, sizeOf, run_typeInfo' hi']
        · simp only [VR]
          refine ⟨b, p, 0, hb, rfl, by omega, hez, ?_, .inr rfl, by omega⟩
          omega
      · have hpe : p = ⟨b.blk, o + b.sh, none⟩ := by
          rcases hp with e | e
          · exact e
          · omega
        subst hpe
        refine ⟨.slice (some ⟨b.blk, o + b.sh + l * ti.size, none⟩) (hh - l) (c - l), ?_, ?_⟩
        · simp [Instr.sliceAt, Instr.slice, run_underlying hu', r1, sizeOf, run_typeInfo' hi', hcl, addr_add]
        · simp only [VR]
          refine ⟨b, _, c - l, hb, rfl, by omega, hez, ?_, .inl (by congr 1; omega), by omega⟩
          have : l * ti.size + (c - l) * ti.size = c * ti.size := by rw [← Nat.add_mul]; congr 1; omega
          omega
  · next e hu =>
    split at h
    case h_2 => cases h
    next ti hh l hti hhe hle =>
    cases h
    simp only [VR] at hx
    subst hx
    have hh0 : hh = 0 := by
      rcases abound_ok (P := P) (w := w) hhe hhi with ⟨_, e⟩ | ⟨_, _, e, _⟩ <;> omega
    subst hh0
    obtain ⟨r1, r2, r3⟩ := run_sliceBounds (P := P) (w := w) true hhe hle (Nat.le_refl 0) (Nat.le_refl _) hhi hlo
    have hl0 : l = 0 := by omega
    subst hl0
    exact ⟨.slice none 0 0, by simp [Instr.sliceAt, Instr.slice, run_underlying (hA.under_ok hu), r1, sizeOf, run_typeInfo' (hA.info _ _ hti)], by simp only [VR]⟩
  · next n e a o hu =>
    split at h
    case h_2 => cases h
    next ti hti =>
    have hi' := hA.info _ _ hti
    simp only [VR] at hx
    obtain ⟨b, hb, rfl⟩ := hx
    split at h
    case h_2 => cases h
    next hh hhe =>
    split at h
    case h_2 => cases h
    next l hle =>
    obtain ⟨r1, r2, r3⟩ := run_sliceBounds (P := P) (w := w) false hhe hle (Nat.le_refl n) (Nat.le_refl _) hhi hlo
    split at h
    · next hcl =>
      cases h
      have hcl := Nat.eq_of_beq_eq_true hcl
      subst hcl
      refine ⟨.slice (some ⟨b.blk, o + b.sh, none⟩) (hh - n) 0, ?_, ?_⟩
      · simp [Instr.sliceAt, Instr.sureAddr, run_underlying (hA.under_ok hu), r1, sizeOf, run_typeInfo' hi']
      · simp only [VR]
        exact ⟨b, _, 0, hb, rfl, by omega, rfl, rfl⟩
    · next hcl =>
      cases h
      have hcl : ¬ n = l := fun e => by subst e; simp at hcl
      refine ⟨.slice (some ⟨b.blk, o + b.sh + l * ti.size, none⟩) (hh - l) (n - l), ?_, ?_⟩
      · simp [Instr.sliceAt, Instr.sureAddr, run_underlying (hA.under_ok hu), r1, sizeOf, run_typeInfo' hi', hcl, addr_add]
      · simp only [VR]
        exact ⟨b, _, n - l, hb, rfl, by omega, rfl, by congr 1; omega⟩
  · next s hu =>
    simp only [VR] at hx
    subst hx
    split at h
    case h_2 => cases h
    next hh hhe =>
    split at h
    case h_2 => cases h
    next l hle =>
    cases h
    obtain ⟨r1, r2, r3⟩ := run_sliceBounds (P := P) (w := w) false hhe hle (Nat.le_refl s.size) (Nat.le_refl _) hhi hlo
    exact ⟨.string (s.extract l hh), by simp [Instr.sliceAt, Instr.slice, run_underlying (hA.under_ok hu), r1], by simp only [VR]⟩
  · cases h

end
end Go.Am
