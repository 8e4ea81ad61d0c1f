/- The abstract machine, part 31: a quicker way to run it: operations, code and functions are made into what runs them, once. -/
import Derived.Test.YtkfoapjbfooneaaAm30
namespace Go.Am
open Go.RowKit

abbrev KR := Option (AV × Heap)

/-- What reads a trie at a place. -/
structure KT (α : Type) where
  run : T α → (α → KR) → KR

/-- What writes a trie at a place. -/
structure KU (α : Type) where
  run : T α → α → (T α → KR) → KR

/-- What reads a list of operands. -/
structure KL (α : Type) where
  run : T AV → (List α → KR) → KR

/-- What runs an operation. -/
structure KV where
  run : T AV → Heap → (AV → Heap → KR) → KR

/-- What else a frame has: calls that are deferred, and the loop that it is a round of. -/
structure KX where
  ds : List ADef
  rnd : Option Nat

/-- What runs code. -/
structure KC where
  run : T AV → KX → Heap → (T AV → KX → Heap → KR) → (Code → T AV → KX → Heap → KR) → KR

/-- What runs a function. -/
structure KF where
  run : List AV → Heap → (AV → Heap → KR) → KR

/-- What runs a round of a range over a function. -/
structure KO where
  run : Nat → T AV → Heap → (AV → Heap → KR) → KR

/-- What runs functions, rounds, and regions that draw their order in those functions that are run step by step. -/
structure KB where
  fn : FuncId → KF
  rd : FuncId → Nat → Code → Code → KO
  dr : Drawer

def KU.go {α : Type} (K : KU α) (t : T α) (v : α) (k : T α → KR) : KR := K.run t v k
def KV.go (K : KV) (t : T AV) (H : Heap) (k : AV → Heap → KR) : KR := K.run t H k
def KC.go (K : KC) (t : T AV) (x : KX) (H : Heap) (kn : T AV → KX → Heap → KR) (ka : Code → T AV → KX → Heap → KR) : KR := K.run t x H kn ka
def KO.go (K : KO) (l : Nat) (t : T AV) (H : Heap) (k : AV → Heap → KR) : KR := K.run l t H k
def KF.go (K : KF) (args : List AV) (H : Heap) (k : AV → Heap → KR) : KR := K.run args H k

/-- One of eight; and eight of which one is another. -/
structure KSel (β : Type) where
  f : N8 β → β

structure KSet (β : Type) where
  f : N8 β → β → (N8 β → KR) → KR

section
variable {α β : Type}

def ksel (j : Nat) : KSel β :=
  match j with
    | 0 => ⟨fun n => n.a⟩
    | j + 1 => match j with
      | 0 => ⟨fun n => n.b⟩
      | j + 1 => match j with
        | 0 => ⟨fun n => n.c⟩
        | j + 1 => match j with
          | 0 => ⟨fun n => n.d⟩
          | j + 1 => match j with
            | 0 => ⟨fun n => n.e⟩
            | j + 1 => match j with
              | 0 => ⟨fun n => n.f⟩
              | j + 1 => match j with
                | 0 => ⟨fun n => n.g⟩
                | j + 1 => ⟨fun n => n.h⟩

def kset (j : Nat) : KSet β :=
  match j with
    | 0 => ⟨fun n x k => N8.casesOn n fun _ b c d e f g h => k ⟨x, b, c, d, e, f, g, h⟩⟩
    | j + 1 => match j with
      | 0 => ⟨fun n x k => N8.casesOn n fun a _ c d e f g h => k ⟨a, x, c, d, e, f, g, h⟩⟩
      | j + 1 => match j with
        | 0 => ⟨fun n x k => N8.casesOn n fun a b _ d e f g h => k ⟨a, b, x, d, e, f, g, h⟩⟩
        | j + 1 => match j with
          | 0 => ⟨fun n x k => N8.casesOn n fun a b c _ e f g h => k ⟨a, b, c, x, e, f, g, h⟩⟩
          | j + 1 => match j with
            | 0 => ⟨fun n x k => N8.casesOn n fun a b c d _ f g h => k ⟨a, b, c, d, x, f, g, h⟩⟩
            | j + 1 => match j with
              | 0 => ⟨fun n x k => N8.casesOn n fun a b c d e _ g h => k ⟨a, b, c, d, e, x, g, h⟩⟩
              | j + 1 => match j with
                | 0 => ⟨fun n x k => N8.casesOn n fun a b c d e f _ h => k ⟨a, b, c, d, e, f, x, h⟩⟩
                | j + 1 => ⟨fun n x k => N8.casesOn n fun a b c d e f g _ => k ⟨a, b, c, d, e, f, g, x⟩⟩

def kat2 (i : KSel (N8 (Option α))) (j : KSel (Option α)) : KT α := ⟨fun t k => Option.casesOn (j.f (i.f t.a)) none k⟩

def kat4 (i : KSel (N8 (N8 (N8 (Option α))))) (j : KSel (N8 (N8 (Option α)))) (m : KSel (N8 (Option α))) (n : KSel (Option α)) : KT α :=
  ⟨fun t k => Option.casesOn (n.f (m.f (j.f (i.f t.b)))) none k⟩

/-- Reads at place n. -/
def kat (n : Nat) : KT α :=
  match Nat.blt n 64 with
  | true => kat2 (ksel (n / 8 % 8)) (ksel (n % 8))
  | false => match Nat.blt n 4160 with
    | true => kat4 (ksel ((n - 64) / 64 / 8 % 8)) (ksel ((n - 64) / 64 % 8)) (ksel ((n - 64) % 64 / 8 % 8)) (ksel ((n - 64) % 64 % 8))
    | false => ⟨fun t k => match t.get n with
      | some v => k v
      | none => none⟩

def kput2 (s : KSel (N8 (Option α))) (i : KSet (N8 (Option α))) (j : KSet (Option α)) : KU α :=
  ⟨fun t v k => T.casesOn t fun a b z => j.f (s.f a) (some v) fun r => i.f a r fun a => k ⟨a, b, z⟩⟩

def kput4 (s1 : KSel (N8 (N8 (N8 (Option α))))) (s2 : KSel (N8 (N8 (Option α)))) (s3 : KSel (N8 (Option α))) (u1 : KSet (N8 (N8 (N8 (Option α))))) (u2 : KSet (N8 (N8 (Option α)))) (u3 : KSet (N8 (Option α))) (u4 : KSet (Option α)) : KU α :=
  ⟨fun t v k => T.casesOn t fun a b z => u4.f (s3.f (s2.f (s1.f b))) (some v) fun r3 => u3.f (s2.f (s1.f b)) r3 fun r2 => u2.f (s1.f b) r2 fun r1 => u1.f b r1 fun b => k ⟨a, b, z⟩⟩

def fT (t : T α) (k : T α → KR) : KR :=
  T.casesOn t fun u w z => N8.casesOn u fun a b c d e f g h => N8.casesOn w fun a' b' c' d' e' f' g' h' => k ⟨⟨a, b, c, d, e, f, g, h⟩, ⟨a', b', c', d', e', f', g', h'⟩, z⟩

/-- Writes at place n. -/
def kput (n : Nat) : KU α :=
  match Nat.blt n 64 with
  | true => kput2 (ksel (n / 8 % 8)) (kset (n / 8 % 8)) (kset (n % 8))
  | false => match Nat.blt n 4160 with
    | true => kput4 (ksel ((n - 64) / 64 / 8 % 8)) (ksel ((n - 64) / 64 % 8)) (ksel ((n - 64) % 64 / 8 % 8)) (kset ((n - 64) / 64 / 8 % 8)) (kset ((n - 64) / 64 % 8)) (kset ((n - 64) % 64 / 8 % 8)) (kset ((n - 64) % 64 % 8))
    | false => ⟨fun t v k => fT (t.set n v) k⟩

end

/-- The elements of a list from some number on. -/
def kfill : List AV → Nat → T AV → (T AV → KR) → KR
  | [], _, t, k => k t
  | x :: l, i, t, k => (kput i).run t x fun t => kfill l (i + 1) t k

def evT (t : T AV) : Operand → Option AV
  | .tmp x => t.get x
  | .const v => ofValue v
  | .global _ => none
  | .func f => some (.fn (.func f) [] [])

def kev : Operand → KT AV
  | .tmp n => kat n
  | .const v => match ofValue v with
    | some a => ⟨fun _ k => k a⟩
    | none => ⟨fun _ _ => none⟩
  | .global _ => ⟨fun _ _ => none⟩
  | .func f => ⟨fun _ k => k (.fn (.func f) [] [])⟩

def kevs : List Operand → KL AV
  | [] => ⟨fun _ k => k []⟩
  | x :: xs => ⟨fun t k => (kev x).run t fun v => (kevs xs).run t fun vs => k (v :: vs)⟩

def kparts : List (Nat × Operand) → KL (Nat × AV)
  | [] => ⟨fun _ k => k []⟩
  | x :: xs => ⟨fun t k => (kev x.2).run t fun v => (kparts xs).run t fun vs => k ((x.1, v) :: vs)⟩

def fInt {β : Type} (n : Int) (k : Int → β) : β :=
  match n with
  | .ofNat n => fNat n fun n => k (.ofNat n)
  | .negSucc n => fNat n fun n => k (.negSucc n)

def fBool {β : Type} (b : Bool) (k : Bool → β) : β :=
  match b with
  | true => k true
  | false => k false

/-- A value, brought to its form before it is handed on. -/
def fAV (v : AV) (k : AV → KR) : KR :=
  match v with
  | .bool b => fBool b fun b => k (.bool b)
  | .int i n => fInt n fun n => k (.int i n)
  | .ptr a o => fNat a fun a => fNat o fun o => k (.ptr a o)
  | .sl a o n c => fNat a fun a => fNat o fun o => fNat n fun n => match c with
    | .ex c => fNat c fun c => k (.sl a o n (.ex c))
    | .un c x => fNat x fun x => k (.sl a o n (.un c x))
  | .map a => fNat a fun a => k (.map a)
  | .str s => k (.str s)
  | .nilptr => k .nilptr
  | .zptr => k .zptr
  | .nilsl => k .nilsl
  | .nilmap => k .nilmap
  | .fn f a b => k (.fn f a b)
  | .yld l => k (.yld l)
  | .nilfn => k .nilfn
  | .ifc t v => k (.ifc t v)
  | .nilifc => k .nilifc
  | .agg l => k (.agg l)
  | .tup l => k (.tup l)

def fHeap (H : Heap) (k : Heap → KR) : KR :=
  match H with
  | ⟨blks, next, fams⟩ => fNat next fun next => fT blks fun blks => fT fams fun fams => k ⟨blks, next, fams⟩

/-- A cell of a block. -/
def kcell (H : Heap) (a i : Nat) (k : AV → KR) : KR :=
  match H with
  | ⟨blks, _, _⟩ => (kat a).run blks fun b => match b with
    | .cells _ _ _ c => (kat i).run c k
    | _ => none

def kputc (H : Heap) (a i : Nat) (v : AV) (k : Heap → KR) : KR :=
  match H with
  | ⟨blks, next, fams⟩ => (kat a).run blks fun b => match b with
    | .cells t f n c => (kat i).run c fun _ => (kat f).run fams fun L => match L with
      | [_] => (kput i).run c v fun c => (kput a).run blks (.cells t f n c) fun blks => k ⟨blks, next, fams⟩
      | _ => match Heap.put ⟨blks, next, fams⟩ a i v with
        | some H' => fHeap H' k
        | none => none
    | _ => none

/-- Is it a type of variables of one cell? -/
def oneCell (A : AP) (t : TypeId) : Bool :=
  match A.info t with
  | some _ => match A.under t with
    | some (.struct _) => false
    | some (.array _ _) => false
    | some _ => true
    | none => false
  | none => false

def kval1 (o : Option AV) (k : AV → KR) : KR :=
  match o with
  | some v => fAV v k
  | none => none

def kbinG (A : AP) (E : Eqs) (op : BinOp) (t : TypeId) (x y : Operand) (a b : AV) (k : AV → KR) : KR :=
  match bothNil a b with
  | true => kval1 (anils A op t x y) k
  | false => kval1 (abin A E op t a b) k

def kbool (b : Bool) (k : AV → KR) : KR :=
  match b with
  | true => k (.bool true)
  | false => k (.bool false)

/-- Two numbers of 64 bits that are not below nothing. -/
def knat (A : AP) (E : Eqs) (op : BinOp) (t : TypeId) (a b : Nat) (k : AV → KR) : KR :=
  match op with
  | .add => fNat (a + b) fun c => match Nat.ble c 9223372036854775807 with
    | true => k (.int .i64 (.ofNat c))
    | false => none
  | .eql => kbool (Nat.beq a b) k
  | .neq => match Nat.beq a b with
    | true => k (.bool false)
    | false => k (.bool true)
  | .lss => kbool (Nat.blt a b) k
  | .leq => kbool (Nat.ble a b) k
  | .gtr => kbool (Nat.blt b a) k
  | .geq => kbool (Nat.ble b a) k
  | _ => kval1 (abin A E op t (.int .i64 (.ofNat a)) (.int .i64 (.ofNat b))) k

def kbin (A : AP) (E : Eqs) (op : BinOp) (t : TypeId) (x y : Operand) (a b : AV) (k : AV → KR) : KR :=
  match a with
  | .int i (.ofNat n) => match i with
    | .i64 => match b with
      | .int j (.ofNat m) => match j with
        | .i64 => knat A E op t n m k
        | _ => kbinG A E op t x y a b k
      | _ => kbinG A E op t x y a b k
    | _ => kbinG A E op t x y a b k
  | _ => kbinG A E op t x y a b k

/-- What runs an operation that leaves the heap as it is. -/
structure KQ where
  run : T AV → Heap → (AV → KR) → KR

def KQ.go (K : KQ) (t : T AV) (H : Heap) (k : AV → KR) : KR := K.run t H k

/-- What makes a new block that is given its number. -/
structure KN where
  run : T AV → Nat → (AV → ABlk → KR) → KR

def KN.go (K : KN) (t : T AV) (r : Nat) (k : AV → ABlk → KR) : KR := K.run t r k

/-- Any operation that leaves the heap as it is, as it comes. -/
def kqgen (A : AP) (E : Eqs) (o : Oper) : KQ :=
  ⟨fun t H k => match aop A E H (evT t) o with
    | some (.val v _) => fAV v k
    | _ => none⟩

/-- So many cells of a block. -/
def kcells (c : T AV) (i : Nat) : Nat → (List AV → KR) → KR
  | 0, k => k []
  | n + 1, k => (kat i).run c fun v => kcells c (i + 1) n fun vs => k (v :: vs)

def kq (A : AP) (E : Eqs) (o : Oper) : KQ :=
  match o.op with
  | .move x => ⟨fun t _ k => (kev x).run t k⟩
  | .assign x => ⟨fun t _ k => (kev x).run t k⟩
  | .pick c a b => ⟨fun t _ k => (kev c).run t fun v => match v with
      | .bool q => match q with
        | true => (kev a).run t k
        | false => (kev b).run t k
      | _ => none⟩
  | .build ty parts => ⟨fun t _ k => (kparts parts.toList).run t fun ps => kval1 (abuild A ty ps) k⟩
  | .load ty a => match oneCell A ty with
    | true => ⟨fun t H k => (kev a).run t fun p => match p with
      | .ptr a o => kcell H a o k
      | _ => none⟩
    | false => match A.under ty, A.info ty with
      | some (.struct _), some ti => ⟨fun t H k => (kev a).run t fun p => match p with
        | .ptr a o => match H with
          | ⟨blks, _, _⟩ => (kat a).run blks fun b => match b with
            | .cells _ _ _ c => kcells c o ti.size fun vs => k (.agg vs)
            | _ => none
        | .zptr => match ti.size with
          | 0 => k (.agg [])
          | _ + 1 => none
        | _ => none⟩
      | _, _ => kqgen A E o
  | .binOp op ty x y _ => ⟨fun t _ k => (kev x).run t fun a => (kev y).run t fun b => kbin A E op ty x y a b k⟩
  | .unOp op _ x => ⟨fun t _ k => (kev x).run t fun a => kval1 (aun op a) k⟩
  | .convert s d x => ⟨fun t _ k => (kev x).run t fun a => kval1 (aconv A s d a) k⟩
  | .makeInterface ty x => ⟨fun t _ k => (kev x).run t fun a => kval1 (amakeInterface A ty a) k⟩
  | .fieldAddr ty x f => ⟨fun t H k => (kev x).run t fun a => kval1 (afieldAddr A H ty a f) k⟩
  | .field ty x f => ⟨fun t _ k => (kev x).run t fun a => kval1 (afield A ty a f) k⟩
  | .indexAddr ty x i => ⟨fun t _ k => (kev x).run t fun a => (kev i).run t fun b => kval1 (aindexAddr A ty a b) k⟩
  | .index ty x i => ⟨fun t _ k => (kev x).run t fun a => (kev i).run t fun b => kval1 (aindex A ty a b) k⟩
  | .lookup ty x i ok => ⟨fun t H k => (kev x).run t fun a => (kev i).run t fun b => kval1 (alookup A E H ty a b ok) k⟩
  | .extract x i => ⟨fun t _ k => (kev x).run t fun a => kval1 (aextract a i) k⟩
  | .call c => match c.callee, c.argTypes.toList, c.args.toList with
    | .builtin .len, [ty], [x] => ⟨fun t H k => (kev x).run t fun a => kval1 (alen A H ty a) k⟩
    | _, _, _ => kqgen A E o
  | _ => kqgen A E o

def knew (A : AP) (o : Oper) : KN :=
  match o.op with
  | .alloc t => match A.info t with
    | some ti => match ti.zero with
      | some z => match ofValue z with
        | some v => ⟨fun _ r k => kfill v.cells 0 .nil fun c => k (.ptr r 0) (.cells t r v.cells.length c)⟩
        | none => ⟨fun _ _ _ => none⟩
      | none => ⟨fun _ _ _ => none⟩
    | none => ⟨fun _ _ _ => none⟩
  | .box ty x => ⟨fun t r k => (kev x).run t fun v => kfill v.cells 0 .nil fun c => k (.ptr r 0) (.cells ty r v.cells.length c)⟩
  | .buildSlice ty len parts => ⟨fun t r k => (kparts parts.toList).run t fun ps => match abuildSlice A ty len ps with
      | some (e, cs) => kfill cs 0 .nil fun c => k (.sl r 0 len (.ex len)) (.cells e r cs.length c)
      | none => none⟩
  | .makeMap _ none => ⟨fun _ r k => k (.map r) (.map [] 0)⟩
  | _ => ⟨fun _ _ _ => none⟩

/-- A new block is laid at the heap's next number. -/
def klay (H : Heap) (v : AV) (b : ABlk) (k : AV → Heap → KR) : KR :=
  match H with
  | ⟨blks, next, fams⟩ => (kput next).run blks b fun blks => fNat (next + 1) fun n => match b with
    | .cells _ _ _ _ => (kput next).run fams [next] fun fams => k v ⟨blks, n, fams⟩
    | _ => k v ⟨blks, n, fams⟩

/-- Any operation, as it comes. -/
def kgen (A : AP) (E : Eqs) (B : KB) (o : Oper) : KV :=
  ⟨fun t H k => match aop A E H (evT t) o with
    | some (.val v H') => fAV v fun v => fHeap H' fun H' => k v H'
    | some (.skip H') => fHeap H' fun H' => k (.tup []) H'
    | some (.enter f args) => (B.fn f).go args H k
    | some (.round l fn sz tmps asg body) => (B.rd fn sz asg body).go l tmps H k
    | _ => none⟩

/-- What an operation came to. -/
def kres1 (B : KB) (H : Heap) (o : Option AOut) (k : AV → Heap → KR) : KR :=
  match o with
  | some (.val v H') => fAV v fun v => fHeap H' fun H' => k v H'
  | some (.skip H') => fHeap H' fun H' => k (.tup []) H'
  | some (.enter f args) => (B.fn f).go args H k
  | some (.round l fn sz tmps asg body) => (B.rd fn sz asg body).go l tmps H k
  | _ => none

def kval (A : AP) (E : Eqs) (B : KB) (o : Oper) : KV :=
  match kin o.op with
  | .quiet => ⟨fun t H k => (kq A E o).run t H fun v => k v H⟩
  | .new => ⟨fun t H k => (knew A o).run t H.next fun v b => klay H v b k⟩
  | .loud => match o.op with
    | .store ty a x => match A.info ty with
      | some ti => match ti.size with
        | 1 => ⟨fun t H k => (kev a).run t fun p => (kev x).run t fun v => match p with
          | .ptr a o => match v.one with
            | true => kputc H a o v fun H => k (.tup []) H
            | false => none
          | _ => none⟩
        | _ => kgen A E B o
      | none => kgen A E B o
    | .call c => match c.callee with
      | .value (.func f) => match A.funcs.get f with
        | some fn => match fn.body with
          | some _ => ⟨fun t H k => (kevs c.args.toList).run t fun vs => (B.fn f).go vs H k⟩
          | none => kgen A E B o
        | none => kgen A E B o
      | .value f => ⟨fun t H k => (kevs c.args.toList).run t fun vs => (kev f).run t fun u => match u with
        | .fn fn first cap => kres1 B H (acallFn A H fn cap (first ++ vs)) k
        | .yld l => kres1 B H (ayield H l vs) k
        | _ => none⟩
      | .builtin b => ⟨fun t H k => (kevs c.args.toList).run t fun vs => kres1 B H (abuiltin A H b c.argTypes vs) k⟩
      | _ => kgen A E B o
    | .mapUpdate ty x i v => ⟨fun t H k => (kev x).run t fun x => (kev i).run t fun i => (kev v).run t fun v => match amapUpdate A E H ty x i v with
      | some H => fHeap H fun H => k (.tup []) H
      | none => none⟩
    | _ => kgen A E B o

/-- What writes what an operation gave. -/
def kfin (o : Oper) (sz : Nat) : KU AV :=
  match o.dst with
  | none => ⟨fun t _ k => k t⟩
  | some d => match Nat.blt d sz with
    | true => kput d
    | false => ⟨fun _ _ _ => none⟩

def kskip (o : Oper) (sz : Nat) (K : KC) (t : T AV) (x : KX) (H : Heap) (kn : T AV → KX → Heap → KR) (ka : Code → T AV → KX → Heap → KR) : KR :=
  (kfin o sz).go t (.tup []) fun t => K.go t x H kn ka

def kdo (V : KV) (U : KU AV) (K : KC) (t : T AV) (x : KX) (H : Heap) (kn : T AV → KX → Heap → KR) (ka : Code → T AV → KX → Heap → KR) : KR :=
  V.go t H fun v H => U.go t v fun t => K.go t x H kn ka

/-- Operations one after another. -/
def kops (A : AP) (E : Eqs) (B : KB) (sz : Nat) (all : List Oper) : List Oper → KC
  | [] => ⟨fun t x H kn _ => kn t x H⟩
  | o :: os => match o.guard with
    | none => ⟨kdo (kval A E B o) (kfin o sz) (kops A E B sz all os)⟩
    | some (j, want) => match all[j]? with
      | some p => match p.dst with
        | some d => ⟨fun t x H kn ka => (kat d).run t fun b => match b with
          | .bool b => match b == want with
            | true => kdo (kval A E B o) (kfin o sz) (kops A E B sz all os) t x H kn ka
            | false => kskip o sz (kops A E B sz all os) t x H kn ka
          | _ => kskip o sz (kops A E B sz all os) t x H kn ka⟩
        | none => ⟨kskip o sz (kops A E B sz all os)⟩
      | none => ⟨kskip o sz (kops A E B sz all os)⟩

def kloop (K : KC) : Nat → T AV → KX → Heap → (Code → T AV → KX → Heap → KR) → KR
  | 0, _, _, _, _ => none
  | n + 1, t, x, H, ka => K.go t x H (fun t x H => kloop K n t x H ka) ka

/-- A jump comes out of a block. -/
def kout (id : Nat) (j : Code) (t : T AV) (x : KX) (H : Heap) (kn : T AV → KX → Heap → KR) (ka : Code → T AV → KX → Heap → KR) : KR :=
  match j with
  | .exit i => match Nat.beq i id with
    | true => kn t x H
    | false => ka j t x H
  | _ => ka j t x H

/-- A block of the heap, read; and written. -/
def kblk (H : Heap) (l : Nat) (k : ABlk → KR) : KR :=
  match H with
  | ⟨blks, _, _⟩ => (kat l).run blks k

def kblkPut (H : Heap) (l : Nat) (b : ABlk) (k : Heap → KR) : KR :=
  match H with
  | ⟨blks, next, fams⟩ => (kput l).run blks b fun blks => k ⟨blks, next, fams⟩

/-- One operation of a region that draws its order, alone. -/
def kone (A : AP) (E : Eqs) (B : KB) : Runner := fun S =>
  match S.cs, S.fr.todo with
  | [], [.one all o] => match aguard all S.fr.tmps o.guard with
    | some true => (kval A E B o).run S.fr.tmps S.H fun v H => some (v, H)
    | _ => none
  | _, _ => none

/-- What does an operation of a region that draws its order, in the order of the text. -/
structure KD where
  run : DSt → (DSt → KR) → KR

def KD.go (K : KD) (S : DSt) (k : DSt → KR) : KR := K.run S k

/-- The temporaries of a list, and nothing else. -/
def krestr : List Tmp → T AV → (T AV → KR) → KR
  | [], _, k => k .nil
  | x :: xs, t, k => krestr xs t fun u => (kat x).run t fun v => (kput x).run u v k

def kdskip (sz : Nat) (o : Oper) : KD :=
  match kin o.op with
  | .loud => ⟨fun S k => match S with
    | ⟨t, vs, H, Hs, lev, wait, next⟩ => (kfin o sz).run t (.tup []) fun t => fNat (lev + 1) fun lev => (kput lev).run Hs H fun Hs => k ⟨t, vs, H, Hs, lev, wait, next⟩⟩
  | _ => ⟨fun S k => match S with
    | ⟨t, vs, H, Hs, lev, wait, next⟩ => (kfin o sz).run t (.tup []) fun t => k ⟨t, vs, H, Hs, lev, wait, next⟩⟩

def kdrun (A : AP) (E : Eqs) (B : KB) (sz : Nat) (all : List Oper) (an : Nat) (i : Nat) (o : Oper) : KD :=
  match kin o.op with
  | .quiet => ⟨fun S k => match S with
    | ⟨t, vs, H, Hs, lev, wait, next⟩ => (kq A E o).go t H fun v => (kfin o sz).go t v fun t => (kput i).run vs v fun vs => k ⟨t, vs, H, Hs, lev, wait, next⟩⟩
  | .new => ⟨fun S k => match S with
    | ⟨t, vs, H, Hs, lev, wait, next⟩ => (knew A o).go t next fun v b => (kfin o sz).go t v fun t => fNat (next + 1) fun n => k ⟨t, vs, H, Hs, lev, (i, next, b) :: wait, n⟩⟩
  | .loud => ⟨fun S k => match S with
    | ⟨t, vs, H, Hs, lev, wait, next⟩ => match parted an wait with
      | (now, wait) => krestr (looks all o) t fun u => match (kval A E B o).go u (layAll now H) fun v H => some (v, H) with
        | some (v, H') => (kfin o sz).go t v fun t => fHeap H' fun H' => fNat (lev + 1) fun lev => (kput lev).run Hs H' fun Hs => k ⟨t, vs, H', Hs, lev, wait, next⟩
        | none => none⟩

def kdstep (A : AP) (E : Eqs) (B : KB) (sz : Nat) (all : List Oper) (an : Nat) (i : Nat) (o : Oper) : KD :=
  match o.guard with
  | none => kdrun A E B sz all an i o
  | some (j, want) => match all[j]? with
    | some p => match p.dst with
      | some d => ⟨fun S k => match S with
        | ⟨t, vs, H, Hs, lev, wait, next⟩ => (kat d).run t fun b => match b with
          | .bool b => match b == want with
            | true => (kdrun A E B sz all an i o).go ⟨t, vs, H, Hs, lev, wait, next⟩ k
            | false => (kdskip sz o).go ⟨t, vs, H, Hs, lev, wait, next⟩ k
          | _ => (kdskip sz o).go ⟨t, vs, H, Hs, lev, wait, next⟩ k⟩
      | none => kdskip sz o
    | none => kdskip sz o

def kdcanon (A : AP) (E : Eqs) (B : KB) (sz : Nat) (all : List Oper) (an : T Nat) : List Oper → Nat → KD
  | [], _ => ⟨fun S k => k S⟩
  | o :: rest, i => ⟨fun S k => (kdstep A E B sz all ((an.get i).getD 0) i o).go S fun S => (kdcanon A E B sz all an rest (i + 1)).go S k⟩

/-- What looks whether all readings give the same wherever they may come. -/
structure KE where
  run : T AV → T AV → T Heap → (Unit → KR) → KR

def KE.go (K : KE) (t vs : T AV) (Hs : T Heap) (k : Unit → KR) : KR := K.run t vs Hs k

def ksames (A : AP) (E : Eqs) (o : Oper) (Hs : T Heap) (t : T AV) (v : AV) : Nat → Nat → (Unit → KR) → KR
  | _, 0, k => k ()
  | l, n + 1, k => (kat l).run Hs fun H => (kq A E o).go t H fun u => match AV.beq u v with
    | true => ksames A E o Hs t v (l + 1) n k
    | false => none

def kreads (A : AP) (E : Eqs) (all : List Oper) (an : T Nat) : List Oper → Nat → KE
  | [], _ => ⟨fun _ _ _ k => k ()⟩
  | o :: os, i => match readOp o.op with
    | true => ⟨fun t vs Hs k => match vs.get i with
      | some v => ksames A E o Hs t v (lowOf an i all 0 0) (highOf an i all 0 0 + 1 - lowOf an i all 0 0) fun _ => (kreads A E all an os (i + 1)).go t vs Hs k
      | none => (kreads A E all an os (i + 1)).go t vs Hs k⟩
    | false => kreads A E all an os (i + 1)

/-- A region that draws its order. -/
def kregion (A : AP) (E : Eqs) (B : KB) (sz : Nat) (ops : List Oper) : KC :=
  match dstat ops with
  | none => ⟨fun _ _ _ _ _ => none⟩
  | some an => ⟨fun t x H kn _ => match H with
    | ⟨blks, next, fams⟩ => fNat (next + countNew ops) fun nx => (kput 0).run .nil ⟨blks, nx, fams⟩ fun Hs =>
      (kdcanon A E B sz ops an ops 0).go ⟨t, .nil, ⟨blks, nx, fams⟩, Hs, 0, [], next⟩ fun S => match S with
        | ⟨t, vs, H, Hs, _, wait, _⟩ => (kreads A E ops an ops 0).go t vs Hs fun _ => fHeap (layAll wait H) fun H => kn t x H⟩

/-- A range over a function has ended. -/
def kendRF (l : Nat) (t : T AV) (x : KX) (H : Heap) (kn : T AV → KX → Heap → KR) (ka : Code → T AV → KX → Heap → KR) : KR :=
  kblk H l fun b => match b with
    | .loop st pend fn sz tmps ps asg body d => match st with
      | .busy => none
      | _ => kblkPut H l (.loop .exhausted pend fn sz tmps ps asg body d) fun H => match pend with
        | none => kn t x H
        | some c => match c with
          | .ret => ka .ret t x H
          | .exit id => ka (.exit id) t x H
          | _ => none
    | _ => none

/-- A function is called in whose hands the rounds are. -/
def kcallRF (A : AP) (B : KB) (fn : Fn) (first cap : List AV) (l : Nat) (t : T AV) (x : KX) (H : Heap) (kn : T AV → KX → Heap → KR) (ka : Code → T AV → KX → Heap → KR) : KR :=
  match acallFn A H fn cap (first ++ [.yld l]) with
  | some (.enter g args) => (B.fn g).go args H fun _ H => kendRF l t x H kn ka
  | _ => none

/-- A range over a function begins. -/
def krange (A : AP) (B : KB) (f : FuncId) (sz : Nat) (ps : Array Tmp) (asg body : Code) (v : AV) (t : T AV) (x : KX) (H : Heap) (kn : T AV → KX → Heap → KR) (ka : Code → T AV → KX → Heap → KR) : KR :=
  match v with
  | .fn fn first cap => match x with
    | ⟨ds, rnd⟩ => match rnd with
      | none => match H with
        | ⟨blks, d, fams⟩ => fNat (d + 1) fun l => fNat (l + 1) fun n => (kput d).run blks (.dfr (some [])) fun blks => (kput l).run blks (.loop .ready none f sz t ps asg body d) fun blks =>
          kcallRF A B fn first cap l t ⟨.collected d :: ds, none⟩ ⟨blks, n, fams⟩ kn ka
      | some l0 => kblk H l0 fun b => match b with
        | .loop _ _ _ _ _ _ _ _ d => match H with
          | ⟨blks, l, fams⟩ => fNat (l + 1) fun n => (kput l).run blks (.loop .ready none f sz t ps asg body d) fun blks =>
            kcallRF A B fn first cap l t ⟨ds, some l0⟩ ⟨blks, n, fams⟩ kn ka
        | _ => none
  | _ => none

def kcode (A : AP) (E : Eqs) (B : KB) (f : FuncId) (sz : Nat) : Code → KC
  | .skip => ⟨fun t x H kn _ => kn t x H⟩
  | .label _ => ⟨fun t x H kn _ => kn t x H⟩
  | .ret => ⟨fun t x H _ ka => ka .ret t x H⟩
  | .exit id => ⟨fun t x H _ ka => ka (.exit id) t x H⟩
  | .seq a b => ⟨fun t x H kn ka => (kcode A E B f sz a).go t x H (fun t x H => (kcode A E B f sz b).go t x H kn ka) ka⟩
  | .cond c a b => ⟨fun t x H kn ka => (kev c).run t fun v => match v with
      | .bool q => match q with
        | true => (kcode A E B f sz a).go t x H kn ka
        | false => (kcode A E B f sz b).go t x H kn ka
      | _ => none⟩
  | .block id body => ⟨fun t x H kn ka => (kcode A E B f sz body).go t x H kn fun j t x H => kout id j t x H kn ka⟩
  | .loop body => ⟨fun t x H _ ka => kloop (kcode A E B f sz body) 1000000000 t x H ka⟩
  | .region _ ops false => kops A E B sz ops.toList ops.toList
  | .region _ ops true => kregion A E B sz ops.toList
  | .rangeFunc g ps asg body => ⟨fun t x H kn ka => (kev g).run t fun v => krange A B f sz ps asg body v t x H kn ka⟩
  | _ => ⟨fun _ _ _ _ _ => none⟩

def kres (A : AP) (t : T AV) (H : Heap) : List ResultVar → (List AV → KR) → KR
  | [], k => k []
  | r :: rs, k => match r with
    | .tmp x => (kat x).run t fun v => kres A t H rs fun vs => k (v :: vs)
    | .cell _ _ => match aresult A H t r with
      | some v => kres A t H rs fun vs => k (v :: vs)
      | none => none

/-- What was deferred in rounds: nothing. -/
def kunw : List ADef → Heap → (Heap → KR) → KR
  | [], H, k => k H
  | d :: ds, H, k => match d with
    | .collected b => kblk H b fun o => match o with
      | .dfr (some []) => kblkPut H b (.dfr none) fun H => kunw ds H k
      | _ => none
    | .call _ _ _ => none

def kback (A : AP) (l : List ResultVar) (t : T AV) (x : KX) (H : Heap) (k : AV → Heap → KR) : KR :=
  match x with
  | ⟨ds, _⟩ => kunw ds H fun H => kres A t H l fun vs => k (aone vs) H

def kbackJ (A : AP) (l : List ResultVar) (j : Code) (t : T AV) (x : KX) (H : Heap) (k : AV → Heap → KR) : KR :=
  match j with
  | .ret => kback A l t x H k
  | _ => none

/-- A function whose frame nothing but code of its own runs in. -/
def kfast (A : AP) (E : Eqs) (B : KB) (f : FuncId) (fn : Func) (c : Code) : KF :=
  ⟨fun args H k => match Nat.ble args.length fn.ntmps with
    | true => kfill args 0 .nil fun t => (kcode A E B f fn.ntmps c).go t ⟨[], none⟩ H (fun t x H => kback A fn.results.toList t x H k) fun j t x H => kbackJ A fn.results.toList j t x H k
    | false => none⟩

/-- A round has ended. -/
def kleave (l : Nat) (jump : Option Code) (H : Heap) (k : AV → Heap → KR) : KR :=
  kblk H l fun b => match b with
    | .loop _ _ fn sz tmps ps asg body d => match jump with
      | none => kblkPut H l (.loop .ready none fn sz tmps ps asg body d) fun H => k (.bool true) H
      | some j => kblkPut H l (.loop .done (some j) fn sz tmps ps asg body d) fun H => k (.bool false) H
    | _ => none

/-- A round begins. -/
def kbegin (l : Nat) (H : Heap) (k : Heap → KR) : KR :=
  kblk H l fun b => match b with
    | .loop st pend fn sz tmps ps asg body d => match st with
      | .ready => kblkPut H l (.loop .busy pend fn sz tmps ps asg body d) k
      | _ => none
    | _ => none

def kround (A : AP) (E : Eqs) (B : KB) (f : FuncId) (sz : Nat) (asg body : Code) : KO :=
  ⟨fun l t H k => (kcode A E B f sz asg).go t ⟨[], some l⟩ H
    (fun t x H => kbegin l H fun H => (kcode A E B f sz body).go t x H (fun _ _ H => kleave l none H k) fun j _ _ H => kleave l (some j) H k)
    fun _ _ _ _ => none⟩

/-- A call of a function that is run quickly. -/
def mcall (A : AP) (E : Eqs) (slow : T Unit) (F : FuncId → KF) (S : ASt) (all : List Oper) (o : Oper) (els : Unit → Option ASt) : Option ASt :=
  match o.op with
  | .call _ => match aguard all S.fr.tmps o.guard with
    | some true => match aop A E S.H S.fr.ev o with
      | some (.enter f args) => match slow.get f with
        | some _ => els ()
        | none => match (F f).run args S.H fun v H => some (v, H) with
          | some (v, H) => match S.fr.fin v with
            | some fr => some { fr, cs := S.cs, H }
            | none => none
          | none => none
      | _ => els ()
    | _ => els ()
  | _ => els ()

/-- A step; a call of a function that is run quickly is one. -/
def mstep (A : AP) (E : Eqs) (D : Drawer) (slow : T Unit) (F : FuncId → KF) (S : ASt) : Option ASt :=
  match S.fr.mode with
  | .run => match S.fr.todo with
    | .ops all (o :: _) :: _ => mcall A E slow F S all o fun _ => astep A E D S
    | .one all o :: _ => mcall A E slow F S all o fun _ => astep A E D S
    | _ => astep A E D S
  | _ => astep A E D S

/-- The frame of a function has come to its end. -/
def mfinal (A : AP) (f : FuncId) (S : ASt) : Option (AV × Heap) :=
  match S.fr.kind with
  | .normal => match Nat.beq S.fr.fn f with
    | true => afinal A S
    | false => none
  | _ => none

/-- A frame, until it comes to its end. -/
def mrun (A : AP) (E : Eqs) (D : Drawer) (slow : T Unit) (F : FuncId → KF) (f : FuncId) : Nat → ASt → Option (AV × Heap)
  | 0, _ => none
  | n + 1, S => match mfinal A f S with
    | some r => some r
    | none => match mstep A E D slow F S with
      | some S' => S'.force fun S' => mrun A E D slow F f n S'
      | none => none

/-- One operation of a frame, until it comes to its end. -/
def mone (A : AP) (E : Eqs) (D : Drawer) (slow : T Unit) (F : FuncId → KF) : Nat → ASt → Option (AV × Heap)
  | 0, _ => none
  | n + 1, S => match S.cs, S.fr.todo with
    | [], [.don v] => some (v, S.H)
    | _, _ => match mstep A E D slow F S with
      | some S' => S'.force fun S' => mone A E D slow F n S'
      | none => none

def kslow (A : AP) (E : Eqs) (L : Nat) (D : Drawer) (slow : T Unit) (F : FuncId → KF) (f : FuncId) : KF :=
  ⟨fun args H k => match AFr.enter A f args .normal with
    | some fr => match mrun A E D slow F f L { fr, cs := [], H } with
      | some (v, H') => fAV v fun v => fHeap H' fun H' => k v H'
      | none => none
    | none => none⟩

def kfn (A : AP) (E : Eqs) (L : Nat) (slow : T Unit) (B : KB) (f : FuncId) : KF :=
  match slow.get f with
  | some _ => kslow A E L B.dr slow B.fn f
  | none => match A.funcs.get f with
    | some fn => match fn.body with
      | some c => kfast A E B f fn c
      | none => ⟨fun _ _ _ => none⟩
    | none => ⟨fun _ _ _ => none⟩

/-- The functions, to some depth of calls. -/
def klev (A : AP) (E : Eqs) (L : Nat) (slow : T Unit) : Nat → KB
  | 0 => ⟨fun _ => ⟨fun _ _ _ => none⟩, fun _ _ _ _ => ⟨fun _ _ _ _ => none⟩, fun _ _ _ => none⟩
  | n + 1 => ⟨kfn A E L slow (klev A E L slow n), kround A E (klev A E L slow n), drawR A E (mone A E (klev A E L slow n).dr slow (klev A E L slow n).fn L)⟩

/-- A function without arguments, from an empty heap. -/
def kmain (A : AP) (E : Eqs) (L : Nat) (slow : T Unit) (n : Nat) (f : FuncId) : KR := ((klev A E L slow n).fn f).run [] emptyHeap fun v H => some (v, H)

end Go.Am
