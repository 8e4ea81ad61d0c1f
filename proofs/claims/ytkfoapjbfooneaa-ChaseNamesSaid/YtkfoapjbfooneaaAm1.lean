/- The abstract machine, part 1: tries, abstract values, what an abstract value says of a value. -/
import Derived.Calls
import Derived.Below
namespace Go.Am

/-- Eight of a kind. -/
structure N8 (β : Type) where
  a : β
  b : β
  c : β
  d : β
  e : β
  f : β
  g : β
  h : β

namespace N8
variable {β : Type}

def rep (b : β) : N8 β := ⟨b, b, b, b, b, b, b, b⟩

/-- One of eight. -/
def sel (j : Nat) (n : N8 β) : β :=
  match n with
  | ⟨a, b, c, d, e, f, g, h⟩ => match j with
    | 0 => a
    | j + 1 => match j with
      | 0 => b
      | j + 1 => match j with
        | 0 => c
        | j + 1 => match j with
          | 0 => d
          | j + 1 => match j with
            | 0 => e
            | j + 1 => match j with
              | 0 => f
              | j + 1 => match j with
                | 0 => g
                | j + 1 => h

def upd (j : Nat) (F : β → β) (n : N8 β) : N8 β :=
  match n with
  | ⟨a, b, c, d, e, f, g, h⟩ => match j with
    | 0 => ⟨F a, b, c, d, e, f, g, h⟩
    | j + 1 => match j with
      | 0 => ⟨a, F b, c, d, e, f, g, h⟩
      | j + 1 => match j with
        | 0 => ⟨a, b, F c, d, e, f, g, h⟩
        | j + 1 => match j with
          | 0 => ⟨a, b, c, F d, e, f, g, h⟩
          | j + 1 => match j with
            | 0 => ⟨a, b, c, d, F e, f, g, h⟩
            | j + 1 => match j with
              | 0 => ⟨a, b, c, d, e, F f, g, h⟩
              | j + 1 => match j with
                | 0 => ⟨a, b, c, d, e, f, F g, h⟩
                | j + 1 => ⟨a, b, c, d, e, f, g, F h⟩

theorem sel_upd (j q : Nat) (F : β → β) (n : N8 β) (hj : j < 8) (hq : q < 8) : sel q (upd j F n) = if q = j then F (sel j n) else sel q n := by
  obtain ⟨a, b, c, d, e, f, g, h⟩ := n
  match j, hj with
  | 0, _ => match q, hq with | 0, _ | 1, _ | 2, _ | 3, _ | 4, _ | 5, _ | 6, _ | 7, _ => rfl
  | 1, _ => match q, hq with | 0, _ | 1, _ | 2, _ | 3, _ | 4, _ | 5, _ | 6, _ | 7, _ => rfl
  | 2, _ => match q, hq with | 0, _ | 1, _ | 2, _ | 3, _ | 4, _ | 5, _ | 6, _ | 7, _ => rfl
  | 3, _ => match q, hq with | 0, _ | 1, _ | 2, _ | 3, _ | 4, _ | 5, _ | 6, _ | 7, _ => rfl
  | 4, _ => match q, hq with | 0, _ | 1, _ | 2, _ | 3, _ | 4, _ | 5, _ | 6, _ | 7, _ => rfl
  | 5, _ => match q, hq with | 0, _ | 1, _ | 2, _ | 3, _ | 4, _ | 5, _ | 6, _ | 7, _ => rfl
  | 6, _ => match q, hq with | 0, _ | 1, _ | 2, _ | 3, _ | 4, _ | 5, _ | 6, _ | 7, _ => rfl
  | 7, _ => match q, hq with | 0, _ | 1, _ | 2, _ | 3, _ | 4, _ | 5, _ | 6, _ | 7, _ => rfl

theorem sel_rep (j : Nat) (b : β) : sel j (rep b) = b := by
  unfold sel rep
  simp only []
  repeat' split
  all_goals rfl

/-- One of sixty-four. -/
def get2 (w : N8 (N8 β)) (n : Nat) : β := sel (n % 8) (sel (n / 8 % 8) w)

def upd2 (w : N8 (N8 β)) (n : Nat) (F : β → β) : N8 (N8 β) := upd (n / 8 % 8) (upd (n % 8) F) w

theorem get2_upd2 (w : N8 (N8 β)) (n k : Nat) (F : β → β) (hn : n < 64) (hk : k < 64) : get2 (upd2 w n F) k = if k = n then F (get2 w n) else get2 w k := by
  have h8 : ∀ m, m % 8 < 8 := fun m => Nat.mod_lt _ (by omega)
  unfold get2 upd2
  rw [sel_upd _ _ _ _ (h8 _) (h8 _)]
  by_cases h1 : k / 8 % 8 = n / 8 % 8
  · rw [if_pos h1, sel_upd _ _ _ _ (h8 _) (h8 _)]
    by_cases h2 : k % 8 = n % 8
    · rw [if_pos h2, if_pos (by omega)]
    · rw [if_neg h2, if_neg (fun e => h2 (by rw [e])), h1]
  · rw [if_neg h1, if_neg (fun e => h1 (by rw [e]))]

theorem get2_rep (b : β) (n : Nat) : get2 (rep (rep b)) n = b := by
  unfold get2
  rw [sel_rep, sel_rep]

/-- One of 4096. -/
def get4 (w : N8 (N8 (N8 (N8 β)))) (n : Nat) : β := get2 (get2 w (n / 64)) (n % 64)

def upd4 (w : N8 (N8 (N8 (N8 β)))) (n : Nat) (F : β → β) : N8 (N8 (N8 (N8 β))) := upd2 w (n / 64) fun u => upd2 u (n % 64) F

theorem get4_upd4 (w : N8 (N8 (N8 (N8 β)))) (n k : Nat) (F : β → β) (hn : n < 4096) (hk : k < 4096) : get4 (upd4 w n F) k = if k = n then F (get4 w n) else get4 w k := by
  unfold get4 upd4
  rw [get2_upd2 _ _ _ _ (by omega) (by omega)]
  by_cases h1 : k / 64 = n / 64
  · rw [if_pos h1, get2_upd2 _ _ _ _ (by omega) (by omega)]
    by_cases h2 : k % 64 = n % 64
    · rw [if_pos h2, if_pos (by omega)]
    · rw [if_neg h2, if_neg (fun e => h2 (by rw [e])), h1]
  · rw [if_neg h1, if_neg (fun e => h1 (by rw [e]))]

theorem get4_rep (b : β) (n : Nat) : get4 (rep (rep (rep (rep b)))) n = b := by
  unfold get4
  rw [get2_rep, get2_rep]

end N8

/-- A trie. -/
inductive Z (α : Type) where
  | nil
  | node (v : Option α) (k : N8 (Z α))

namespace Z
variable {α : Type}
open N8

def getF : Nat → Z α → Nat → Option α
  | 0, _, _ => none
  | f + 1, t, n => match t with
    | .nil => none
    | .node v k => match n with
      | 0 => v
      | m + 1 => getF f (sel (m % 8) k) (m / 8)

def get (t : Z α) (n : Nat) : Option α := getF (n + 1) t n

def setF : Nat → Z α → Nat → Option α → Z α
  | 0, t, _, _ => t
  | f + 1, t, n, v => match t with
    | .nil => match n with
      | 0 => .node v (rep .nil)
      | m + 1 => .node none (upd (m % 8) (fun t => setF f t (m / 8) v) (rep .nil))
    | .node x k => match n with
      | 0 => .node v k
      | m + 1 => .node x (upd (m % 8) (fun t => setF f t (m / 8) v) k)

def set (t : Z α) (n : Nat) (v : Option α) : Z α := setF (n + 1) t n v

theorem getF_fuel (f : Nat) : ∀ (g : Nat) (t : Z α) (n : Nat), n < f → n < g → getF f t n = getF g t n := by
  induction f with
  | zero => intro g t n h; omega
  | succ f ih =>
    intro g t n h1 h2
    obtain ⟨g, rfl⟩ : ∃ g', g = g' + 1 := ⟨g - 1, by omega⟩
    cases t with
    | nil => rfl
    | node v k =>
      cases n with
      | zero => rfl
      | succ m => simp only [getF]; exact ih _ _ _ (by omega) (by omega)

theorem get_nil (n : Nat) : (Z.nil : Z α).get n = none := rfl

theorem get_zero (v : Option α) (k : N8 (Z α)) : (Z.node v k).get 0 = v := rfl

theorem get_succ (v : Option α) (k : N8 (Z α)) (m : Nat) : (Z.node v k).get (m + 1) = (sel (m % 8) k).get (m / 8) := by
  exact getF_fuel (m + 1) (m / 8 + 1) _ (m / 8) (by omega) (by omega)

theorem get_upd (j : Nat) (F : Z α → Z α) (v : Option α) (n : N8 (Z α)) (m : Nat) (hj : j < 8) :
    (Z.node v (upd j F n)).get (m + 1) = (if m % 8 = j then F (sel j n) else sel (m % 8) n).get (m / 8) := by
  rw [get_succ, sel_upd _ _ _ _ hj (Nat.mod_lt _ (by omega))]

theorem get_setF (f : Nat) : ∀ (t : Z α) (n : Nat) (v : Option α), n < f → (setF f t n v).get n = v := by
  induction f with
  | zero => intro t n v h; omega
  | succ f ih =>
    intro t n v h
    have hm : ∀ m, m % 8 < 8 := fun m => Nat.mod_lt _ (by omega)
    cases t <;> cases n <;> try rfl
    all_goals
      simp only [setF]
      rw [get_upd _ _ _ _ _ (hm _), if_pos rfl]
      exact ih _ _ _ (by omega)

theorem get_setF_ne (f : Nat) : ∀ (t : Z α) (n k : Nat) (v : Option α), k ≠ n → (setF f t n v).get k = t.get k := by
  induction f with
  | zero => intro t n k v h; rfl
  | succ f ih =>
    intro t n k v h
    have hm : ∀ m, m % 8 < 8 := fun m => Nat.mod_lt _ (by omega)
    cases t with
    | nil =>
      cases n with
      | zero => cases k with
        | zero => exact absurd rfl h
        | succ k => simp only [setF]; rw [get_succ, sel_rep]; rfl
      | succ m =>
        simp only [setF]
        cases k with
        | zero => rw [get_zero]; rfl
        | succ k =>
          rw [get_upd _ _ _ _ _ (hm m)]
          split
          · rw [sel_rep, ih _ _ _ _ (by omega)]; rfl
          · rw [sel_rep]; rfl
    | node x q =>
      cases n with
      | zero => cases k with
        | zero => exact absurd rfl h
        | succ k => simp only [setF]; rw [get_succ, get_succ]
      | succ m =>
        simp only [setF]
        cases k with
        | zero => rw [get_zero, get_zero]
        | succ k =>
          rw [get_upd _ _ _ _ _ (hm m), get_succ]
          split
          · next h1 => rw [h1, ih _ _ _ _ (by omega)]
          · rfl

theorem get_set (t : Z α) (n k : Nat) (v : Option α) : (t.set n v).get k = if k = n then v else t.get k := by
  unfold set
  split
  · next h => subst h; exact get_setF _ _ _ _ (by omega)
  · next h => exact get_setF_ne _ _ _ _ _ h

end Z

/-- A table: what has small numbers lies near. -/
structure T (α : Type) where
  a : N8 (N8 (Option α))
  b : N8 (N8 (N8 (N8 (Option α))))
  z : Z α

namespace T
variable {α : Type}
open N8

def nil : T α := ⟨rep (rep none), rep (rep (rep (rep none))), .nil⟩

def get (t : T α) (n : Nat) : Option α :=
  match Nat.blt n 64 with
  | true => get2 t.a n
  | false => match Nat.blt n 4160 with
    | true => get4 t.b (n - 64)
    | false => t.z.get (n - 4160)

def setO (t : T α) (n : Nat) (v : Option α) : T α :=
  match Nat.blt n 64 with
  | true => ⟨upd2 t.a n fun _ => v, t.b, t.z⟩
  | false => match Nat.blt n 4160 with
    | true => ⟨t.a, upd4 t.b (n - 64) fun _ => v, t.z⟩
    | false => ⟨t.a, t.b, t.z.set (n - 4160) v⟩

theorem blt_iff (n k : Nat) : Nat.blt n k = true ↔ n < k := by
  unfold Nat.blt
  rw [Nat.ble_eq]
  exact Iff.rfl

theorem blt_false (n k : Nat) (h : ¬ n < k) : Nat.blt n k = false := by
  cases hb : Nat.blt n k with
  | false => rfl
  | true => exact absurd ((blt_iff n k).1 hb) h

theorem get_a (a b z) (n : Nat) (h : n < 64) : (T.mk a b z : T α).get n = get2 a n := by
  unfold get
  rw [(blt_iff n 64).2 h]

theorem get_b (a b z) (n : Nat) (h : ¬ n < 64) (h' : n < 4160) : (T.mk a b z : T α).get n = get4 b (n - 64) := by
  unfold get
  rw [blt_false n 64 h, (blt_iff n 4160).2 h']

theorem get_z (a b z) (n : Nat) (h : ¬ n < 64) (h' : ¬ n < 4160) : (T.mk a b z : T α).get n = z.get (n - 4160) := by
  unfold get
  rw [blt_false n 64 h, blt_false n 4160 h']

theorem set_a (a b z) (n : Nat) (v : Option α) (h : n < 64) : (T.mk a b z : T α).setO n v = ⟨upd2 a n fun _ => v, b, z⟩ := by
  unfold setO
  rw [(blt_iff n 64).2 h]

theorem set_b (a b z) (n : Nat) (v : Option α) (h : ¬ n < 64) (h' : n < 4160) : (T.mk a b z : T α).setO n v = ⟨a, upd4 b (n - 64) fun _ => v, z⟩ := by
  unfold setO
  rw [blt_false n 64 h, (blt_iff n 4160).2 h']

theorem set_z (a b z) (n : Nat) (v : Option α) (h : ¬ n < 64) (h' : ¬ n < 4160) : (T.mk a b z : T α).setO n v = ⟨a, b, z.set (n - 4160) v⟩ := by
  unfold setO
  rw [blt_false n 64 h, blt_false n 4160 h']

theorem get_nil (n : Nat) : (nil : T α).get n = none := by
  unfold nil
  by_cases h : n < 64
  · rw [get_a _ _ _ _ h]; exact get2_rep _ _
  · by_cases h' : n < 4160
    · rw [get_b _ _ _ _ h h']; exact get4_rep _ _
    · rw [get_z _ _ _ _ h h']; exact Z.get_nil _

theorem get_setO (t : T α) (n k : Nat) (v : Option α) : (t.setO n v).get k = if k = n then v else t.get k := by
  obtain ⟨a, b, z⟩ := t
  by_cases n1 : n < 64
  · rw [set_a _ _ _ _ _ n1]
    by_cases k1 : k < 64
    · rw [get_a _ _ _ _ k1, get_a _ _ _ _ k1, get2_upd2 _ _ _ _ n1 k1]
    · have hk : ¬ k = n := by omega
      rw [if_neg hk]
      by_cases k2 : k < 4160
      · rw [get_b _ _ _ _ k1 k2, get_b _ _ _ _ k1 k2]
      · rw [get_z _ _ _ _ k1 k2, get_z _ _ _ _ k1 k2]
  · by_cases n2 : n < 4160
    · rw [set_b _ _ _ _ _ n1 n2]
      by_cases k1 : k < 64
      · have hk : ¬ k = n := by omega
        rw [if_neg hk, get_a _ _ _ _ k1, get_a _ _ _ _ k1]
      · by_cases k2 : k < 4160
        · rw [get_b _ _ _ _ k1 k2, get_b _ _ _ _ k1 k2, get4_upd4 _ _ _ _ (by omega) (by omega)]
          by_cases h : k = n
          · rw [if_pos h, if_pos (by omega)]
          · rw [if_neg h, if_neg (by omega)]
        · have hk : ¬ k = n := by omega
          rw [if_neg hk, get_z _ _ _ _ k1 k2, get_z _ _ _ _ k1 k2]
    · rw [set_z _ _ _ _ _ n1 n2]
      by_cases k1 : k < 64
      · have hk : ¬ k = n := by omega
        rw [if_neg hk, get_a _ _ _ _ k1, get_a _ _ _ _ k1]
      · by_cases k2 : k < 4160
        · have hk : ¬ k = n := by omega
          rw [if_neg hk, get_b _ _ _ _ k1 k2, get_b _ _ _ _ k1 k2]
        · rw [get_z _ _ _ _ k1 k2, get_z _ _ _ _ k1 k2, Z.get_set]
          by_cases h : k = n
          · rw [if_pos h, if_pos (by omega)]
          · rw [if_neg h, if_neg (by omega)]

def set (t : T α) (n : Nat) (v : α) : T α := t.setO n (some v)
def del (t : T α) (n : Nat) : T α := t.setO n none

theorem get_set (t : T α) (n k : Nat) (v : α) : (t.set n v).get k = if k = n then some v else t.get k := get_setO _ _ _ _

theorem get_del (t : T α) (n k : Nat) : (t.del n).get k = if k = n then none else t.get k := get_setO _ _ _ _

/-- The elements of a list from some number on. -/
def ofList : List α → Nat → T α → T α
  | [], _, t => t
  | x :: l, i, t => ofList l (i + 1) (t.set i x)

theorem get_ofList : ∀ (l : List α) (i : Nat) (t : T α) (k : Nat), (ofList l i t).get k = if i ≤ k ∧ k < i + l.length then l[k - i]? else t.get k
  | [], i, t, k => by simp [ofList]; omega
  | x :: l, i, t, k => by
    simp only [ofList, get_ofList l, get_set, List.length_cons]
    by_cases h1 : i + 1 ≤ k ∧ k < i + 1 + l.length
    · rw [if_pos h1, if_pos (by omega), show k - i = (k - (i + 1)) + 1 from by omega]; simp
    · rw [if_neg h1]
      by_cases h2 : k = i
      · subst h2; simp
      · rw [if_neg h2, if_neg (by omega)]

end T

inductive ACap where
  | ex (c : Nat)
  | un (esz lb : Nat)

inductive AV where
  | bool (b : Bool)
  | int (k : IntKind) (n : Int)
  | str (s : ByteArray)
  | ptr (a o : Nat)
  | nilptr
  | zptr
  | sl (a o len : Nat) (cap : ACap)
  | nilsl
  | map (a : Nat)
  | nilmap
  | fn (f : Fn) (first cap : List AV)
  | yld (l : Nat)
  | nilfn
  | ifc (t : TypeId) (v : AV)
  | nilifc
  | agg (l : List AV)
  | tup (l : List AV)

structure Loc where
  blk : Nat
  sh : Nat
  size : Nat

def ACap.ok (l : Loc) (o : Nat) (p : Addr) (c : Nat) : ACap → Prop
  | .ex c' => c = c' ∧ p = ⟨l.blk, o + l.sh, none⟩
  | .un esz lb => 0 < esz ∧ o + l.sh + c * esz ≤ l.size ∧ (p = ⟨l.blk, o + l.sh, none⟩ ∨ c = 0) ∧ lb ≤ c

abbrev Env := Nat → Option Loc
def Env.le (m m' : Env) : Prop := ∀ a l, m a = some l → m' a = some l

mutual
def VR (m : Env) : AV → Value → Prop
  | .bool b, v => v = .bool b
  | .int k n, v => v = .int k n
  | .str s, v => v = .string s
  | .ptr a o, v => ∃ l, m a = some l ∧ v = .pointer (some ⟨l.blk, o + l.sh, none⟩)
  | .nilptr, v => v = .pointer none
  | .zptr, v => ∃ p, v = .pointer (some p)
  | .sl a o len cap, v => ∃ l p c, m a = some l ∧ v = .slice (some p) len c ∧ len ≤ c ∧ cap.ok l o p c
  | .nilsl, v => v = .slice none 0 0
  | .map a, v => ∃ l, m a = some l ∧ v = .map (some l.blk)
  | .nilmap, v => v = .map none
  | .fn f a b, v => ∃ x y, v = .func f x y ∧ VRs m a x.toList ∧ VRs m b y.toList
  | .yld a, v => ∃ l, m a = some l ∧ v = .func (.yield l.blk) #[] #[]
  | .nilfn, v => v = .nilFunc
  | .ifc t a, v => ∃ x, v = .iface t x ∧ VR m a x
  | .nilifc, v => v = .nilIface
  | .agg l, v => ∃ x, v = .agg x ∧ VRs m l x.toList
  | .tup l, v => ∃ x, v = .tuple x ∧ VRs m l x.toList
def VRs (m : Env) : List AV → List Value → Prop
  | [], xs => xs = []
  | a :: as, xs => ∃ y ys, xs = y :: ys ∧ VR m a y ∧ VRs m as ys
end

variable {m m' : Env}
mutual
theorem VR.mono (h : m.le m') : ∀ (v : AV) (x : Value), VR m v x → VR m' v x
  | .bool _, _, e => by simpa only [VR] using e
  | .int _ _, _, e => by simpa only [VR] using e
  | .str _, _, e => by simpa only [VR] using e
  | .nilptr, _, e => by simpa only [VR] using e
  | .zptr, _, e => by simpa only [VR] using e
  | .nilsl, _, e => by simpa only [VR] using e
  | .nilmap, _, e => by simpa only [VR] using e
  | .nilfn, _, e => by simpa only [VR] using e
  | .nilifc, _, e => by simpa only [VR] using e
  | .ptr _ _, _, e => by
    simp only [VR] at e ⊢
    obtain ⟨l, h1, h2⟩ := e
    exact ⟨l, h _ _ h1, h2⟩
  | .sl _ _ _ _, _, e => by
    simp only [VR] at e ⊢
    obtain ⟨l, p, c, h1, h2⟩ := e
    exact ⟨l, p, c, h _ _ h1, h2⟩
  | .map _, _, e => by
    simp only [VR] at e ⊢
    obtain ⟨l, h1, h2⟩ := e
    exact ⟨l, h _ _ h1, h2⟩
  | .yld _, _, e => by
    simp only [VR] at e ⊢
    obtain ⟨l, h1, h2⟩ := e
    exact ⟨l, h _ _ h1, h2⟩
  | .fn _ a b, _, e => by
    simp only [VR] at e ⊢
    obtain ⟨x, y, h1, h2, h3⟩ := e
    exact ⟨x, y, h1, VRs.mono h a _ h2, VRs.mono h b _ h3⟩
  | .ifc _ a, _, e => by
    simp only [VR] at e ⊢
    obtain ⟨x, h1, h2⟩ := e
    exact ⟨x, h1, VR.mono h a _ h2⟩
  | .agg l, _, e => by
    simp only [VR] at e ⊢
    obtain ⟨x, h1, h2⟩ := e
    exact ⟨x, h1, VRs.mono h l _ h2⟩
  | .tup l, _, e => by
    simp only [VR] at e ⊢
    obtain ⟨x, h1, h2⟩ := e
    exact ⟨x, h1, VRs.mono h l _ h2⟩
theorem VRs.mono (h : m.le m') : ∀ (v : List AV) (x : List Value), VRs m v x → VRs m' v x
  | [], _, e => by simpa only [VRs] using e
  | a :: as, _, e => by
    simp only [VRs] at e ⊢
    obtain ⟨y, ys, h1, h2, h3⟩ := e
    exact ⟨y, ys, h1, VR.mono h a _ h2, VRs.mono h as _ h3⟩
end

theorem Env.le_refl (m : Env) : m.le m := fun _ _ h => h
theorem Env.le_trans {a b c : Env} (h : a.le b) (k : b.le c) : a.le c := fun x l e => k x l (h x l e)

theorem VRs.length {v : List AV} {x : List Value} (h : VRs m v x) : x.length = v.length := by
  induction v generalizing x with
  | nil => simp only [VRs] at h; subst h; rfl
  | cons a as ih =>
    simp only [VRs] at h
    obtain ⟨y, ys, rfl, _, h3⟩ := h
    simp [ih h3]

theorem VRs.get {v : List AV} {x : List Value} (h : VRs m v x) {i : Nat} {a : AV} (hi : v[i]? = some a) : ∃ y, x[i]? = some y ∧ VR m a y := by
  induction v generalizing x i with
  | nil => simp at hi
  | cons b bs ih =>
    simp only [VRs] at h
    obtain ⟨y, ys, rfl, h2, h3⟩ := h
    cases i with
    | zero => simp at hi; subst hi; exact ⟨y, rfl, h2⟩
    | succ i => simp at hi ⊢; exact ih h3 hi

theorem VRs.append {a b : List AV} {x y : List Value} (h : VRs m a x) (k : VRs m b y) : VRs m (a ++ b) (x ++ y) := by
  induction a generalizing x with
  | nil => simp only [VRs] at h; subst h; exact k
  | cons c cs ih =>
    simp only [VRs] at h
    obtain ⟨z, zs, rfl, h2, h3⟩ := h
    simp only [List.cons_append, VRs]
    exact ⟨z, zs ++ y, rfl, h2, ih h3⟩

theorem VRs.of_get {v : List AV} {x : List Value} (hl : x.length = v.length) (h : ∀ (i : Nat) a y, v[i]? = some a → x[i]? = some y → VR m a y) : VRs m v x := by
  induction v generalizing x with
  | nil => simp only [VRs]; exact List.eq_nil_of_length_eq_zero hl
  | cons a as ih =>
    cases x with
    | nil => simp at hl
    | cons y ys =>
      simp only [VRs]
      refine ⟨y, ys, rfl, h 0 a y rfl rfl, ih (by simpa using hl) fun i b z hb hz => h (i + 1) b z (by simpa using hb) (by simpa using hz)⟩

end Go.Am
