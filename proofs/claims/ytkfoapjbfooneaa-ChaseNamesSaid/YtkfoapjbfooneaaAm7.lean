/- The abstract machine, part 7: operations on values alone. -/
import Derived.Test.YtkfoapjbfooneaaAm6
import Derived.Laws.StructEq
import Derived.WalkLawsBesides
namespace Go.Am
open Go.RowKit

/-- 'wrap' where it is quick. -/
def fwrap (k : IntKind) (n : Int) : Int :=
  match k with
  | .i64 => match n with
    | .ofNat a => match Nat.ble a 9223372036854775807 with
      | true => .ofNat a
      | false => IntKind.i64.wrap n
    | .negSucc a => match Nat.ble a 9223372036854775807 with
      | true => .negSucc a
      | false => IntKind.i64.wrap n
  | k => k.wrap n

theorem wrap_in (n : Int) (h1 : -9223372036854775808 ≤ n) (h2 : n ≤ 9223372036854775807) : IntKind.i64.wrap n = n := by
  have := IntWalk.i64_in n ⟨h1, h2⟩
  exact this

theorem fwrap_eq (k : IntKind) (n : Int) : fwrap k n = k.wrap n := by
  cases k <;> try rfl
  cases n with
  | ofNat a =>
    simp only [fwrap]
    cases h : Nat.ble a 9223372036854775807 with
    | false => rfl
    | true =>
      have := Nat.le_of_ble_eq_true h
      exact (wrap_in (Int.ofNat a) (by simp only [Int.ofNat_eq_natCast]; omega) (by simp only [Int.ofNat_eq_natCast]; omega)).symm
  | negSucc a =>
    simp only [fwrap]
    cases h : Nat.ble a 9223372036854775807 with
    | false => rfl
    | true =>
      have := Nat.le_of_ble_eq_true h
      exact (wrap_in (Int.negSucc a) (by omega) (by omega)).symm

def aint (op : BinOp) (k : IntKind) (x y : Int) : Option AV :=
  match op with
  | .add => some (.int k (fwrap k (x + y)))
  | .sub => some (.int k (fwrap k (x - y)))
  | .mul => some (.int k (fwrap k (x * y)))
  | .quo => match decide (y = 0) with
    | true => none
    | false => some (.int k (fwrap k (x.tdiv y)))
  | .rem => match decide (y = 0) with
    | true => none
    | false => some (.int k (x.tmod y))
  | .and => some (.int k (k.wrap (BitVec.ofInt k.bits x &&& BitVec.ofInt k.bits y).toNat))
  | .or => some (.int k (k.wrap (BitVec.ofInt k.bits x ||| BitVec.ofInt k.bits y).toNat))
  | .xor => some (.int k (k.wrap (BitVec.ofInt k.bits x ^^^ BitVec.ofInt k.bits y).toNat))
  | .andNot => some (.int k (k.wrap (BitVec.ofInt k.bits x &&& ~~~BitVec.ofInt k.bits y).toNat))
  | .eql => some (.bool (x == y))
  | .neq => some (.bool (x != y))
  | .lss => some (.bool (decide (x < y)))
  | .leq => some (.bool (decide (x ≤ y)))
  | .gtr => some (.bool (decide (x > y)))
  | .geq => some (.bool (decide (x ≥ y)))
  | .shl | .shr => none

def ashift (op : BinOp) (k : IntKind) (x y : Int) : Option AV :=
  match decide (y < 0) with
  | true => none
  | false => match op with
    | .shl => some (.int k (k.wrap (x * 2 ^ (min y.toNat k.bits))))
    | .shr => some (.int k (x.fdiv (2 ^ (min y.toNat k.bits))))
    | _ => none

def isAggB : TypeDesc → Bool
  | .struct _ => true
  | .array _ _ => true
  | _ => false

/-- A part of a value's cells. -/
def apart (A : AP) (t : TypeId) (cs : List AV) (off : Nat) : Option AV :=
  match A.under t, A.info t with
  | some d, some ti => match isAggB d with
    | true => some (.agg ((cs.drop off).take ti.size))
    | false => cs[off]?
  | _, _ => none

structure Eqs where
  eqs : T Unit

structure Eqs.Ok (E : Eqs) (P : Program) : Prop where
  ok : ∀ t, E.eqs.get t = some () → P.eqGuardType P.depth t = false ∧ P.stoodInHeld t = false

mutual
def aeqv (A : AP) (E : Eqs) : Nat → TypeId → AV → AV → Option Bool
  | 0, _, _, _ => none
  | d + 1, t, .int k a, .int k' b => match A.under t with
    | some (.int _) => match decide (k = k') with
      | true => some (a == b)
      | false => none
    | _ => none
  | d + 1, t, .bool a, .bool b => match A.under t with
    | some .bool => some (a == b)
    | _ => none
  | d + 1, t, .str a, .str b => match A.under t with
    | some .string => some (a.toList == b.toList)
    | _ => none
  | d + 1, t, .agg xs, .agg ys => match A.under t, E.eqs.get t with
    | some (.struct fs), some () => aeqFields A E d xs ys fs.toList
    | some (.array n e), some () => match A.info e with
      | some ti => aeqElems A E d e ti.size xs ys n 0
      | none => none
    | _, _ => none
  | _, _, _, _ => none
def aeqElems (A : AP) (E : Eqs) : Nat → TypeId → Nat → List AV → List AV → Nat → Nat → Option Bool
  | _, _, _, _, _, 0, _ => some true
  | 0, _, _, _, _, _ + 1, _ => none
  | d + 1, e, sz, xs, ys, n + 1, i => match apart A e xs (i * sz), apart A e ys (i * sz) with
    | some a, some b => match aeqv A E d e a b with
      | some true => aeqElems A E d e sz xs ys n (i + 1)
      | some false => some false
      | none => none
    | _, _ => none
def aeqFields (A : AP) (E : Eqs) : Nat → List AV → List AV → List Field → Option Bool
  | _, _, _, [] => some true
  | 0, _, _, _ => none
  | d + 1, xs, ys, f :: fs => match f.name != "_" with
    | true => match apart A f.type xs f.offset, apart A f.type ys f.offset with
      | some a, some b => match aeqv A E d f.type a b with
        | some true => aeqFields A E d xs ys fs
        | some false => some false
        | none => none
      | _, _ => none
    | false => aeqFields A E d xs ys fs
end

/-- A value against nil, or a nil. -/
def anil (A : AP) (t : TypeId) (x y : AV) : Option Bool :=
  match A.under t, x, y with
  | some (.interface _), .nilifc, .ifc _ _ => some false
  | some (.interface _), .ifc _ _, .nilifc => some false
  | some (.pointer _), .nilptr, .nilptr => some true
  | some (.pointer _), .nilptr, .ptr _ _ => some false
  | some (.pointer _), .ptr _ _, .nilptr => some false
  | some (.pointer _), .nilptr, .zptr => some false
  | some (.pointer _), .zptr, .nilptr => some false
  | some (.slice _), .nilsl, .nilsl => some true
  | some (.slice _), .nilsl, .sl _ _ _ _ => some false
  | some (.slice _), .sl _ _ _ _, .nilsl => some false
  | some (.map _ _), .nilmap, .nilmap => some true
  | some (.map _ _), .nilmap, .map _ => some false
  | some (.map _ _), .map _, .nilmap => some false
  | some (.func _ _ _), .nilfn, .nilfn => some true
  | some (.func _ _ _), .fn _ _ _, .nilfn => some false
  | _, _, _ => none

def aequal (A : AP) (E : Eqs) (t : TypeId) (x y : AV) : Option Bool :=
  match x, y with
  | .bool _, .bool _ => aeqv A E 20 t x y
  | .agg _, .agg _ => match E.eqs.get t with
    | some () => aeqv A E 20 t x y
    | none => none
  | _, _ => anil A t x y

def abin (A : AP) (E : Eqs) (op : BinOp) (t : TypeId) (x y : AV) : Option AV :=
  match x, y with
  | .int k a, .int k' b => match op with
    | .shl => ashift .shl k a b
    | .shr => ashift .shr k a b
    | _ => match decide (k = k') with
      | true => aint op k a b
      | false => none
  | .str a, .str b => match op with
    | .eql => some (.bool (a.toList == b.toList))
    | .neq => some (.bool (!(a.toList == b.toList)))
    | _ => none
  | _, _ => match op with
    | .eql => match aequal A E t x y with
      | some b => some (.bool b)
      | none => none
    | .neq => match aequal A E t x y with
      | some b => some (.bool (!b))
      | none => none
    | _ => none

def aun (op : UnOp) (x : AV) : Option AV :=
  match op, x with
  | .neg, .int k n => some (.int k (fwrap k (0 - n)))
  | .not, .bool b => some (.bool (!b))
  | .xor, .int k n => aint .xor k (if k.signed then -1 else k.max) n
  | _, _ => none

def aconv (A : AP) (src dst : TypeId) (x : AV) : Option AV :=
  match A.under src, A.under dst, x with
  | some _, some (.int k), .int _ n => some (.int k (fwrap k n))
  | some _, some .string, .str s => some (.str s)
  | _, _, _ => none

section
variable {m : Env} {w : World} {A : AP} {P : Program} {E : Eqs}

theorem aint_ok {op : BinOp} {k : IntKind} {x y : Int} {v : AV} (h : aint op k x y = some v) (t : TypeId) :
    ∃ r, (binOp op t (.int k x) (.int k y)).run P w = .ok r w ∧ VR m v r := by
  cases op <;> simp only [aint] at h
  case quo =>
    split at h
    · cases h
    next hy =>
    simp only [decide_eq_false_iff_not] at hy
    cases h
    exact ⟨_, by simp [binOp, Op.intDiv, hy]; rfl, by simp only [VR, fwrap_eq]⟩
  case rem =>
    split at h
    · cases h
    next hy =>
    simp only [decide_eq_false_iff_not] at hy
    cases h
    exact ⟨_, by simp [binOp, Op.intDiv, hy]; rfl, by simp only [VR]⟩
  case shl => cases h
  case shr => cases h
  all_goals
    cases h
    first
      | exact ⟨_, by simp only [binOp, ne_eq, not_true_eq_false, if_false, Op.intArith, Sem.run_pure]; rfl, by simp only [VR, fwrap_eq]⟩
      | exact ⟨_, by simp only [binOp, ne_eq, not_true_eq_false, if_false, Op.intBits, Sem.run_pure]; rfl, by simp only [VR]⟩
      | exact ⟨_, by simp only [binOp, ne_eq, not_true_eq_false, if_false, Op.intCmp, Sem.run_pure]; rfl, by simp only [VR]⟩

theorem ashift_ok {op : BinOp} {k k' : IntKind} {x y : Int} {v : AV} (h : ashift op k x y = some v) (t : TypeId) :
    ∃ r, (binOp op t (.int k x) (.int k' y)).run P w = .ok r w ∧ VR m v r := by
  unfold ashift at h
  split at h
  · cases h
  next hy =>
  simp only [decide_eq_false_iff_not] at hy
  split at h
  · cases h
    exact ⟨_, by simp [binOp, Op.shift, hy]; rfl, by simp only [VR]⟩
  · cases h
    exact ⟨_, by simp [binOp, Op.shift, hy]; rfl, by simp only [VR]⟩
  · cases h

theorem VRs.drop {v : List AV} {x : List Value} (h : VRs m v x) (n : Nat) : VRs m (v.drop n) (x.drop n) :=
  VRs.of_get (by simp [h.length]) fun i a y h1 h2 => by
    rw [List.getElem?_drop] at h1 h2
    obtain ⟨z, z1, z2⟩ := h.get h1
    rw [h2] at z1
    cases z1
    exact z2

theorem VRs.take {v : List AV} {x : List Value} (h : VRs m v x) (n : Nat) : VRs m (v.take n) (x.take n) :=
  VRs.of_get (by simp [h.length]) fun i a y h1 h2 => by
    rcases Nat.lt_or_ge i n with hi | hi
    · rw [List.getElem?_take_of_lt hi] at h1 h2
      obtain ⟨z, z1, z2⟩ := h.get h1
      rw [h2] at z1
      cases z1
      exact z2
    · rw [List.getElem?_take_eq_none hi] at h1
      cases h1

theorem run_isAgg {t : TypeId} {d : TypeDesc} (h : P.underlying t = some d) : (isAgg t).run P w = .ok (isAggB d) w := by
  simp only [isAgg, Sem.run_bind, run_underlying h, Result.andThen_ok]
  cases d <;> rfl

theorem apart_ok (hA : A.Ok P) {t : TypeId} {cs : List AV} {off : Nat} {v : AV} (h : apart A t cs off = some v) {xs : Array Value} (hx : VRs m cs xs.toList) :
    ∃ r, (part t xs off).run P w = .ok r w ∧ VR m v r := by
  unfold apart at h
  split at h
  case h_2 => cases h
  next d ti hd hti =>
  have hu := hA.under_ok hd
  split at h
  · next hagg =>
    cases h
    refine ⟨.agg (xs.extract off (off + ti.size)), ?_, ?_⟩
    · simp [part, run_isAgg hu, hagg, sizeOf, run_typeInfo' (hA.info _ _ hti)]
    · simp only [VR]
      refine ⟨_, rfl, ?_⟩
      have := (hx.drop off).take ti.size
      rw [Array.toList_extract, List.extract_eq_take_drop]
      rw [show off + ti.size - off = ti.size from by omega]
      exact this
  · next hagg =>
    obtain ⟨y, y1, y2⟩ := hx.get h
    refine ⟨y, ?_, y2⟩
    have : xs[off]? = some y := by simpa using y1
    simp [part, run_isAgg hu, hagg, this]

end
end Go.Am
