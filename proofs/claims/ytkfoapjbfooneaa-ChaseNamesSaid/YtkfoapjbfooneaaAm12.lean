/- The abstract machine, part 12: maps. -/
import Derived.Test.YtkfoapjbfooneaaAm11
namespace Go.Am
open Go.RowKit

abbrev AEnt := AV × AV × Nat

def afind (A : AP) (E : Eqs) (kt : TypeId) (k : AV) : List AEnt → Nat → Option (Option (Nat × AV))
  | [], _ => some none
  | e :: es, i => match aeqv A E 20 kt k e.1 with
    | some true => some (some (i, e.2.1))
    | some false => afind A E kt k es (i + 1)
    | none => none

def acheckFs (A : AP) (chk : TypeId → AV → Bool) (cs : List AV) : List Field → Bool
  | [] => true
  | f :: fs => match f.name != "_" with
    | true => match apart A f.type cs f.offset with
      | some v => match chk f.type v with
        | true => acheckFs A chk cs fs
        | false => false
      | none => false
    | false => acheckFs A chk cs fs

def acheckEs (A : AP) (chk : TypeId → AV → Bool) (cs : List AV) (e : TypeId) (sz : Nat) : Nat → Nat → Bool
  | 0, _ => true
  | k + 1, i => match apart A e cs (i * sz) with
    | some v => match chk e v with
      | true => acheckEs A chk cs e sz k (i + 1)
      | false => false
    | none => false

def acheck (A : AP) : Nat → TypeId → AV → Bool
  | 0, _, _ => false
  | n + 1, t, v => match A.under t with
    | some (.int _) => true
    | some .string => true
    | some .bool => true
    | some (.struct fs) => match v with
      | .agg cs => acheckFs A (acheck A n) cs fs.toList
      | _ => false
    | some (.array k e) => match v, A.info e with
      | .agg cs, some ti => acheckEs A (acheck A n) cs e ti.size k 0
      | _, _ => false
    | _ => false

mutual
def asame : Nat → AV → AV → Bool
  | _, .bool a, .bool b => a == b
  | _, .int j a, .int k b => decide (j = k) && a == b
  | _, .str a, .str b => a == b
  | n + 1, .agg a, .agg b => asames n a b
  | _, _, _ => false
def asames : Nat → List AV → List AV → Bool
  | _, [], [] => true
  | n + 1, x :: xs, y :: ys => asame n x y && asames n xs ys
  | _, _, _ => false
end

def asetAt : List AEnt → Nat → AV → AV → List AEnt
  | [], _, _, _ => []
  | e :: es, 0, k, v => (k, v, e.2.2) :: es
  | e :: es, i + 1, k, v => e :: asetAt es i k v

def alookup (A : AP) (E : Eqs) (H : Heap) (t : TypeId) (x k : AV) (ok : Bool) : Option AV :=
  match A.under t with
  | some (.map kt et) =>
    let es : Option (List AEnt) := match x with
      | .nilmap => some []
      | .map a => match H.blks.get a with
        | some (.map es _) => some es
        | _ => none
      | _ => none
    match es with
    | some es => match acheck A 20 kt k with
      | true => match afind A E kt k es 0 with
        | some r =>
          let v : Option (AV × Bool) := match r with
            | some (_, v) => some (v, true)
            | none => match A.info et with
              | some ti => match ti.zero with
                | some z => match ofValue z with
                  | some z => some (z, false)
                  | none => none
                | none => none
              | none => none
          match v with
          | some (v, b) => some (match ok with
            | true => .tup [v, .bool b]
            | false => v)
          | none => none
        | none => none
      | false => none
    | none => none
  | _ => none

def asetKey : List AEnt → Nat → AV → List AEnt
  | [], _, _ => []
  | e :: es, 0, k => (k, e.2.1, e.2.2) :: es
  | e :: es, i + 1, k => e :: asetKey es i k

def asetVal : List AEnt → Nat → AV → List AEnt
  | [], _, _ => []
  | e :: es, 0, v => (e.1, v, e.2.2) :: es
  | e :: es, i + 1, v => e :: asetVal es i v

def abornAt : List AEnt → Int → Nat → Option Nat
  | [], _, _ => none
  | e :: es, n, i => match decide ((e.2.2 : Int) = n) with
    | true => some i
    | false => abornAt es n (i + 1)

def azeroOf (A : AP) (t : TypeId) : Option AV :=
  match A.info t with
  | some ti => match ti.zero with
    | some z => ofValue z
    | none => none
  | none => none

def amapEntry (A : AP) (E : Eqs) (H : Heap) (t : TypeId) (x k : AV) : Option (AV × Heap) :=
  match A.under t, x with
  | some (.map kt et), .map a => match H.blks.get a with
    | some (.map es clock) => match acheck A 20 kt k with
      | true => match afind A E kt k es 0 with
        | some (some (i, v)) => match es[i]? with
          | some e => match asame 20 e.1 k with
            | true => some (.tup [v, .int .i64 (.ofNat e.2.2)], { H with blks := H.blks.set a (.map (asetKey es i k) clock) })
            | false => none
          | none => none
        | some none => match azeroOf A et with
          | some z => some (.tup [z, .int .i64 (.ofNat clock)], { H with blks := H.blks.set a (.map (es ++ [(k, z, clock)]) (clock + 1)) })
          | none => none
        | none => none
      | false => none
    | _ => none
  | _, _ => none

def aentryStore (H : Heap) (x s v : AV) : Option Heap :=
  match x, s with
  | .map a, .int _ n => match H.blks.get a with
    | some (.map es clock) => match abornAt es n 0 with
      | some i => some { H with blks := H.blks.set a (.map (asetVal es i v) clock) }
      | none => none
    | _ => none
  | _, _ => none

def amapUpdate (A : AP) (E : Eqs) (H : Heap) (t : TypeId) (x k v : AV) : Option Heap :=
  match A.under t, x with
  | some (.map kt _), .map a => match H.blks.get a with
    | some (.map es clock) => match acheck A 20 kt k with
      | true => match afind A E kt k es 0 with
        | some (some (i, _)) => match es[i]? with
          | some e => match asame 20 e.1 k with
            | true => some { H with blks := H.blks.set a (.map (asetAt es i k v) clock) }
            | false => none
          | none => none
        | some none => some { H with blks := H.blks.set a (.map (es ++ [(k, v, clock)]) (clock + 1)) }
        | none => none
      | false => none
    | _ => none
  | _, _ => none

section
variable {m : Env} {w : World} {A : AP} {P : Program} {E : Eqs} {B0 : Prot} {w0 : World} {H : Heap}

theorem acheck_ok (hA : A.Ok P) (em : Bool) : ∀ (n : Nat) t v x d, acheck A n t v = true → VR m v x → n ≤ d → (Instr.checkKey em d t x).run P w = .ok () w := by
  intro n
  induction n with
  | zero => intro t v x d h; simp [acheck] at h
  | succ n ih =>
    intro t v x d h hv hd
    obtain ⟨d, rfl⟩ : ∃ k, d = k + 1 := ⟨d - 1, by omega⟩
    simp only [acheck] at h
    split at h
    · next hu => simp [Instr.checkKey, run_underlying (hA.under_ok hu)]
    · next hu => simp [Instr.checkKey, run_underlying (hA.under_ok hu)]
    · next hu => simp [Instr.checkKey, run_underlying (hA.under_ok hu)]
    · next fs hu =>
      split at h
      · next cs =>
        simp only [VR] at hv
        obtain ⟨xs, rfl, hv⟩ := hv
        simp only [Instr.checkKey, Sem.run_bind, run_underlying (hA.under_ok hu), Result.andThen_ok]
        rw [← Array.forIn_toList]
        generalize fs.toList = l at h
        clear hu
        induction l with
        | nil => simp
        | cons f l ihl =>
          simp only [acheckFs] at h
          split at h
          · next hf =>
            have hf' : f.name ≠ "_" := by simpa using hf
            split at h
            · next v' hv' =>
              split at h
              · next hcv =>
                obtain ⟨r, r1, r2⟩ := apart_ok (w := w) hA hv' hv
                have h1 := ih f.type v' r d hcv r2 (by omega)
                have h2 := ihl h
                simp only [List.forIn_cons, Sem.run_bind, hf', ne_eq, not_false_eq_true, if_true, r1, h1, Result.andThen_ok, Sem.run_pure] at h2 ⊢
                exact h2
              · cases h
            · cases h
          · next hf =>
            have hf' : f.name = "_" := by simpa using hf
            have h2 := ihl h
            simp only [List.forIn_cons, Sem.run_bind, hf', ne_eq, not_true_eq_false, if_false, Result.andThen_ok, Sem.run_pure] at h2 ⊢
            exact h2
      · cases h
    · next k e hu =>
      split at h
      case h_2 => cases h
      next cs ti hti =>
      simp only [VR] at hv
      obtain ⟨xs, rfl, hv⟩ := hv
      simp only [Instr.checkKey, Sem.run_bind, run_underlying (hA.under_ok hu), Result.andThen_ok]
      simp only [Std.Legacy.Range.forIn_eq_forIn_range', Std.Legacy.Range.size, Nat.sub_zero, Nat.add_one_sub_one, Nat.div_one]
      clear hu
      generalize 0 = i at h ⊢
      induction k generalizing i with
      | zero => simp
      | succ k ihk =>
        simp only [acheckEs] at h
        split at h
        case h_2 => cases h
        next v' hv' =>
        split at h
        case h_2 => cases h
        next hcv =>
        obtain ⟨r, r1, r2⟩ := apart_ok (w := w) hA hv' hv
        have h1 := ih e v' r d hcv r2 (by omega)
        have h2 := ihk (i + 1) h
        simp only [List.range'_succ, List.forIn_cons, Sem.run_bind, sizeOf, run_typeInfo' (hA.info _ _ hti), Sem.run_pure, r1, h1, Result.andThen_ok] at h2 ⊢
        exact h2
    · cases h

theorem asame_ok : ∀ n : Nat, (∀ x y xv yv d, asame n x y = true → VR m x xv → VR m y yv → n ≤ d → Instr.sameBits d xv yv = true) ∧
    (∀ xs ys (xl yl : List Value) d, asames n xs ys = true → VRs m xs xl → VRs m ys yl → n ≤ d → xl.length = yl.length ∧ (xl.zip yl).all (fun (x, y) => Instr.sameBits d x y) = true) := by
  intro n
  induction n with
  | zero =>
    refine ⟨fun x y xv yv d h hx hy _ => ?_, fun xs ys xl yl d h hx hy _ => ?_⟩
    · cases x <;> cases y <;> simp only [asame, Bool.false_eq_true] at h <;> simp only [VR] at hx hy <;> subst hx hy
      · simpa [Instr.sameBits] using h
      · simp only [Bool.and_eq_true, decide_eq_true_eq, beq_iff_eq] at h
        obtain ⟨rfl, rfl⟩ := h
        cases d <;> simp [Instr.sameBits]
      · cases d <;> simpa [Instr.sameBits] using h
    · cases xs <;> cases ys <;> simp only [asames, Bool.false_eq_true] at h
      simp only [VRs] at hx hy
      subst hx hy
      simp
  | succ n ih =>
    refine ⟨fun x y xv yv d h hx hy hd => ?_, fun xs ys xl yl d h hx hy hd => ?_⟩
    · cases x <;> cases y <;> simp only [asame, Bool.false_eq_true] at h <;> simp only [VR] at hx hy
      · subst hx hy
        simpa [Instr.sameBits] using h
      · subst hx hy
        simp only [Bool.and_eq_true, decide_eq_true_eq, beq_iff_eq] at h
        obtain ⟨rfl, rfl⟩ := h
        cases d <;> simp [Instr.sameBits]
      · subst hx hy
        cases d <;> simpa [Instr.sameBits] using h
      · obtain ⟨xs, rfl, hx⟩ := hx
        obtain ⟨ys, rfl, hy⟩ := hy
        obtain ⟨d, rfl⟩ : ∃ k, d = k + 1 := ⟨d - 1, by omega⟩
        obtain ⟨h1, h2⟩ := ih.2 _ _ xs.toList ys.toList d h hx hy (by omega)
        simp only [Instr.sameBits, Bool.and_eq_true, beq_iff_eq]
        exact ⟨by simpa using h1, h2⟩
    · cases xs <;> cases ys <;> simp only [asames, Bool.false_eq_true] at h
      · simp only [VRs] at hx hy
        subst hx hy
        simp
      · simp only [Bool.and_eq_true] at h
        simp only [VRs] at hx hy
        obtain ⟨x, xl', rfl, hx1, hx2⟩ := hx
        obtain ⟨y, yl', rfl, hy1, hy2⟩ := hy
        obtain ⟨h1, h2⟩ := ih.2 _ _ xl' yl' d h.2 hx2 hy2 (by omega)
        have h3 := ih.1 _ _ x y d h.1 hx1 hy1 (by omega)
        refine ⟨by simp [h1], ?_⟩
        simp only [List.zip_cons_cons, List.all_cons, h3, h2, Bool.and_self]

end
end Go.Am
