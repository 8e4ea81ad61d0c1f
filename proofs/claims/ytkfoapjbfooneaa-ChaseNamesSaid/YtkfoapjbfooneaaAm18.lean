/- The abstract machine, part 18: runs; regions that draw their order. -/
import Derived.Test.YtkfoapjbfooneaaAm17
namespace Go.Am
open Go.RowKit

/-- A number, brought to its form before it is handed on. -/
def fNat {β : Type} (n : Nat) (k : Nat → β) : β :=
  match n with
  | 0 => k 0
  | m + 1 => k (m + 1)

def fMode {β : Type} (m : AMode) (k : AMode → β) : β :=
  match m with
  | .run => k .run
  | .returning => k .returning
  | .panicking c => k (.panicking c)

def fKind {β : Type} (m : CallKind) (k : CallKind → β) : β :=
  match m with
  | .normal => k .normal
  | .deferred => k .deferred
  | .wrapped => k .wrapped
  | .report => k .report
  | .early => k .early

def fOpt {β : Type} (o : Option Nat) (k : Option Nat → β) : β :=
  match o with
  | none => k none
  | some n => fNat n fun n => k (some n)

def fList {α β : Type} (l : List α) (k : List α → β) : β :=
  match l with
  | [] => k []
  | x :: xs => k (x :: xs)

/-- A state, brought to its form before it is handed on. -/
def ASt.force {β : Type} (S : ASt) (k : ASt → β) : β :=
  match S with
  | ⟨⟨fn, sz, tmps, todo, defers, mode, kind, rnd⟩, cs, ⟨blks, next, fams⟩⟩ =>
    fNat fn fun fn => fNat sz fun sz => fList todo fun todo => fList defers fun defers => fMode mode fun mode => fKind kind fun kind => fOpt rnd fun rnd =>
      fList cs fun cs => fNat next fun next =>
        k ⟨⟨fn, sz, tmps, todo, defers, mode, kind, rnd⟩, cs, ⟨blks, next, fams⟩⟩

theorem fNat_eq {β : Type} (n : Nat) (k : Nat → β) : fNat n k = k n := by cases n <;> rfl
theorem fMode_eq {β : Type} (n : AMode) (k : AMode → β) : fMode n k = k n := by cases n <;> rfl
theorem fKind_eq {β : Type} (n : CallKind) (k : CallKind → β) : fKind n k = k n := by cases n <;> rfl
theorem fOpt_eq {β : Type} (n : Option Nat) (k : Option Nat → β) : fOpt n k = k n := by
  cases n
  · rfl
  · simp only [fOpt, fNat_eq]
theorem fList_eq {α β : Type} (n : List α) (k : List α → β) : fList n k = k n := by cases n <;> rfl

theorem ASt.force_eq {β : Type} (S : ASt) (k : ASt → β) : S.force k = k S := by
  obtain ⟨⟨fn, sz, tmps, todo, defers, mode, kind, rnd⟩, cs, ⟨blks, next, fams⟩⟩ := S
  simp only [ASt.force, fNat_eq, fMode_eq, fKind_eq, fOpt_eq, fList_eq]

/-- One operation of a frame, to its end. -/
def arunOne (A : AP) (E : Eqs) (D : Drawer) : Nat → ASt → Option (AV × Heap)
  | 0, _ => none
  | n + 1, S => match S.cs, S.fr.todo with
    | [], [.don v] => some (v, S.H)
    | _, _ => match astep A E D S with
      | some S' => S'.force fun S' => arunOne A E D n S'
      | none => none

def isTmp : Operand → Option Tmp
  | .tmp t => some t
  | _ => none

def tmpsOf (l : List Operand) : List Tmp := l.filterMap isTmp

/-- The temporaries that an operation looks at. -/
def looks (all : List Oper) (o : Oper) : List Tmp :=
  match o.guard with
  | some (j, _) => match all[j]? with
    | some p => match p.dst with
      | some d => d :: tmpsOf o.op.operands.toList
      | none => tmpsOf o.op.operands.toList
    | none => tmpsOf o.op.operands.toList
  | none => tmpsOf o.op.operands.toList

def restr (t : T AV) : List Tmp → T AV
  | [] => .nil
  | x :: xs => match t.get x with
    | some v => (restr t xs).set x v
    | none => restr t xs

/-- Does it leave the heap as it is, whatever that is? And does it look into it? -/
def quietOp : Op → Bool
  | .move _ | .assign _ | .pick _ _ _ | .build _ _ | .load _ _ | .nilCheck _ | .binOp _ _ _ _ _ | .unOp _ _ _ | .convert _ _ _ | .makeInterface _ _ | .makeFunc _ _ _ | .slice _ _ _ _ _
  | .fieldAddr _ _ _ | .field _ _ _ | .indexAddr _ _ _ | .index _ _ _ | .lookup _ _ _ _ | .typeAssert _ _ _ _ | .extract _ _ => true
  | .call c => match c.callee with
    | .builtin .len => true
    | .builtin .min => true
    | .builtin .max => true
    | _ => false
  | _ => false

/-- Does it lay one new block, and nothing else? -/
def newOp : Op → Bool
  | .alloc _ | .box _ _ | .buildSlice _ _ _ | .makeMap _ none => true
  | _ => false

/-- What a new block is, and the value that names it; r: its number. -/
def anew (A : AP) (ρ : Operand → Option AV) (r : Nat) : Op → Option (AV × ABlk)
  | .alloc t => match A.info t with
    | some ti => match ti.zero with
      | some z => match ofValue z with
        | some v => some (.ptr r 0, .cells t r v.cells.length (T.ofList v.cells 0 .nil))
        | none => none
      | none => none
    | none => none
  | .box t x => match ρ x with
    | some v => some (.ptr r 0, .cells t r v.cells.length (T.ofList v.cells 0 .nil))
    | none => none
  | .buildSlice t len parts => match aparts ρ parts.toList with
    | some ps => match abuildSlice A t len ps with
      | some (e, cs) => some (.sl r 0 len (.ex len), .cells e r cs.length (T.ofList cs 0 .nil))
      | none => none
    | none => none
  | .makeMap _ none => some (.map r, .map [] 0)
  | _ => none

/-- Which operation of a region it is. -/
inductive Kin where
  | quiet
  | new
  | loud

def kin (o : Op) : Kin :=
  match quietOp o with
  | true => .quiet
  | false => match newOp o with
    | true => .new
    | false => .loud

def readOp : Op → Bool
  | .load _ _ | .lookup _ _ _ _ | .fieldAddr _ _ _ => true
  | .call c => match c.callee with
    | .builtin .len => true
    | _ => false
  | _ => false

/-- The numbers of all that comes before an operation, as bits. -/
def ancOf (look : T Nat) : List Edge → Nat → Nat
  | [], s => s
  | e :: es, s => match Region.binds .any e with
    | true => ancOf look es (s ||| (1 <<< e.on) ||| (look.get e.on).getD 0)
    | false => ancOf look es s

def ancs : List Oper → Nat → T Nat → T Nat
  | [], _, t => t
  | o :: os, i, t => ancs os (i + 1) (t.set i (ancOf t o.after.toList 0))

/-- Edges lead back. -/
def edgesOk : List Oper → Nat → Bool
  | [], _ => true
  | o :: os, i => match o.after.toList.all (fun e => !Region.binds .any e || Nat.blt e.on i) with
    | true => edgesOk os (i + 1)
    | false => false

/-- Who writes a temporary: its number, and one more; 0: nobody. None: two do. -/
def writers : List Oper → Nat → T Nat → Option (T Nat)
  | [], _, t => some t
  | o :: os, i, t => match o.dst with
    | some d => match t.get d with
      | some _ => none
      | none => writers os (i + 1) (t.set d i)
    | none => writers os (i + 1) t

/-- What an operation looks at was written before it for sure, or is written behind it for sure; what a reading looks at, before it. -/
def looksOk (all : List Oper) (an wr : T Nat) : List Oper → Nat → Bool
  | [], _ => true
  | o :: os, i => match (looks all o).all (fun t => match wr.get t with
      | some j => ((an.get i).getD 0).testBit j || (((an.get j).getD 0).testBit i && !readOp o.op)
      | none => true) with
    | true => looksOk all an wr os (i + 1)
    | false => false

/-- Those that turn the heap come one behind the other. -/
def chainOk (an : T Nat) : List Oper → Nat → List Nat → Bool
  | [], _, _ => true
  | o :: os, i, es => match kin o.op with
    | .quiet => chainOk an os (i + 1) es
    | .new => chainOk an os (i + 1) es
    | .loud => match es.all (fun j => ((an.get i).getD 0).testBit j) with
      | true => chainOk an os (i + 1) (i :: es)
      | false => false

def guardsOk (an : T Nat) (all : List Oper) : List Oper → Nat → Bool
  | [], _ => true
  | o :: os, i => match o.guard with
    | none => guardsOk an all os (i + 1)
    | some (j, _) => match ((an.get i).getD 0).testBit j with
      | true => guardsOk an all os (i + 1)
      | false => false

/-- All that can be looked at ahead of a run. -/
def dstat (ops : List Oper) : Option (T Nat) :=
  match edgesOk ops 0 with
  | false => none
  | true => match writers ops 0 .nil with
    | none => none
    | some wr => match looksOk ops (ancs ops 0 .nil) wr ops 0 && chainOk (ancs ops 0 .nil) ops 0 [] && guardsOk (ancs ops 0 .nil) ops ops 0 with
      | true => some (ancs ops 0 .nil)
      | false => none

mutual
def AV.beq : AV → AV → Bool
  | .bool a, .bool b => a == b
  | .int j a, .int k b => decide (j = k) && decide (a = b)
  | .str a, .str b => decide (a = b)
  | .ptr a o, .ptr b p => Nat.beq a b && Nat.beq o p
  | .nilptr, .nilptr => true
  | .zptr, .zptr => true
  | .sl a o n (.ex c), .sl b p k (.ex d) => Nat.beq a b && Nat.beq o p && Nat.beq n k && Nat.beq c d
  | .sl a o n (.un c x), .sl b p k (.un d y) => Nat.beq a b && Nat.beq o p && Nat.beq n k && Nat.beq c d && Nat.beq x y
  | .nilsl, .nilsl => true
  | .map a, .map b => Nat.beq a b
  | .nilmap, .nilmap => true
  | .fn f a b, .fn g c d => decide (f = g) && AV.beqs a c && AV.beqs b d
  | .yld a, .yld b => Nat.beq a b
  | .nilfn, .nilfn => true
  | .ifc t a, .ifc u b => Nat.beq t u && AV.beq a b
  | .nilifc, .nilifc => true
  | .agg a, .agg b => AV.beqs a b
  | .tup a, .tup b => AV.beqs a b
  | _, _ => false
def AV.beqs : List AV → List AV → Bool
  | [], [] => true
  | a :: as, b :: bs => AV.beq a b && AV.beqs as bs
  | _, _ => false
end

def dput (sz : Nat) (t : T AV) (d : Option Tmp) (v : AV) : Option (T AV) :=
  match d with
  | some d => match Nat.blt d sz with
    | true => some (t.set d v)
    | false => none
  | none => some t

/-- A new block is laid in the heap at its number. -/
def Heap.lay (H : Heap) (r : Nat) (b : ABlk) : Heap :=
  match b with
  | .cells _ _ _ _ => { H with blks := H.blks.set r b, fams := H.fams.set r (match H.fams.get r with
    | some L => r :: L
    | none => [r]) }
  | _ => { H with blks := H.blks.set r b }

def layAll : List (Nat × Nat × ABlk) → Heap → Heap
  | [], H => H
  | (_, r, b) :: l, H => layAll l (H.lay r b)

/-- Those of some new blocks that an operation comes behind, and the others. i: the operation's number, r: the block's. -/
def parted (an : Nat) : List (Nat × Nat × ABlk) → List (Nat × Nat × ABlk) × List (Nat × Nat × ABlk)
  | [] => ([], [])
  | e :: l => match an.testBit e.1, parted an l with
    | true, (x, y) => (e :: x, y)
    | false, (x, y) => (x, e :: y)

/-- The state of a run in the order of the text. vs: what each gave that reads, lev: how many have come that turn the heap, Hs: the heap behind so many, wait: new blocks that are not laid yet. -/
structure DSt where
  t : T AV
  vs : T AV
  H : Heap
  Hs : T Heap
  lev : Nat
  wait : List (Nat × Nat × ABlk)
  next : Nat

/-- What runs one operation by itself, to its end. -/
abbrev Runner := ASt → Option (AV × Heap)

/-- The operation that comes next in the text. -/
def dstep (A : AP) (E : Eqs) (R : Runner) (fr : AFr) (all : List Oper) (an : T Nat) (i : Nat) (o : Oper) (S : DSt) : Option DSt :=
  match aguard all (restr S.t (looks all o)) o.guard with
  | none => none
  | some false => match dput fr.sz S.t o.dst (.tup []) with
    | some t => match kin o.op with
      | .loud => some { S with t, Hs := S.Hs.set (S.lev + 1) S.H, lev := S.lev + 1 }
      | _ => some { S with t }
    | none => none
  | some true => match kin o.op with
    | .quiet => match aop A E S.H { fr with tmps := restr S.t (looks all o) }.ev o with
      | some (.val v _) => match dput fr.sz S.t o.dst v with
        | some t => some { S with t, vs := S.vs.set i v }
        | none => none
      | _ => none
    | .new => match anew A { fr with tmps := restr S.t (looks all o) }.ev S.next o.op with
      | some (v, b) => match dput fr.sz S.t o.dst v with
        | some t => some { S with t, wait := (i, S.next, b) :: S.wait, next := S.next + 1 }
        | none => none
      | none => none
    | .loud => match parted ((an.get i).getD 0) S.wait with
      | (now, wait) => match R { fr := { fr with tmps := restr S.t (looks all o), todo := [.one all o], defers := [], mode := .run }, cs := [], H := layAll now S.H } with
        | some (v, H') => match dput fr.sz S.t o.dst v with
          | some t => some { S with t, H := H', Hs := S.Hs.set (S.lev + 1) H', lev := S.lev + 1, wait }
          | none => none
        | none => none

def dcanon (A : AP) (E : Eqs) (R : Runner) (fr : AFr) (all : List Oper) (an : T Nat) : List Oper → Nat → DSt → Option DSt
  | [], _, S => some S
  | o :: rest, i, S => match dstep A E R fr all an i o S with
    | some S' => dcanon A E R fr all an rest (i + 1) S'
    | none => none

def countNew : List Oper → Nat
  | [] => 0
  | o :: os => match kin o.op with
    | .new => countNew os + 1
    | _ => countNew os

/-- How many of those that turn the heap come before for sure, and how many can. -/
def lowOf (an : T Nat) (i : Nat) : List Oper → Nat → Nat → Nat
  | [], _, c => c
  | o :: os, j, c => match kin o.op with
    | .quiet => lowOf an i os (j + 1) c
    | .new => lowOf an i os (j + 1) c
    | .loud => match ((an.get i).getD 0).testBit j with
      | true => lowOf an i os (j + 1) (c + 1)
      | false => lowOf an i os (j + 1) c

def highOf (an : T Nat) (i : Nat) : List Oper → Nat → Nat → Nat
  | [], _, c => c
  | o :: os, j, c => match kin o.op with
    | .quiet => highOf an i os (j + 1) c
    | .new => highOf an i os (j + 1) c
    | .loud => match ((an.get j).getD 0).testBit i with
      | true => highOf an i os (j + 1) c
      | false => highOf an i os (j + 1) (c + 1)

/-- A reading gives the same in so many heaps from one on. -/
def sameIn (A : AP) (E : Eqs) (ρ : Operand → Option AV) (o : Oper) (v : AV) (Hs : T Heap) : Nat → Nat → Bool
  | _, 0 => true
  | k, n + 1 => match Hs.get k with
    | some H => match aop A E H ρ o with
      | some (.val u _) => match AV.beq u v with
        | true => sameIn A E ρ o v Hs (k + 1) n
        | false => false
      | _ => false
    | none => false

/-- All readings give the same wherever they may come. -/
def readsOk (A : AP) (E : Eqs) (fr : AFr) (an : T Nat) (all : List Oper) (S : DSt) : List Oper → Nat → Bool
  | [], _ => true
  | o :: os, i => match readOp o.op, S.vs.get i with
    | true, some v => match sameIn A E { fr with tmps := restr S.t (looks all o) }.ev o v S.Hs (lowOf an i all 0 0) (highOf an i all 0 0 + 1 - lowOf an i all 0 0) with
      | true => readsOk A E fr an all S os (i + 1)
      | false => false
    | _, _ => readsOk A E fr an all S os (i + 1)

def drawR (A : AP) (E : Eqs) (R : Runner) : Drawer :=
  fun fr ops H => match dstat ops.toList with
    | none => none
    | some an => match dcanon A E R fr ops.toList an ops.toList 0 { t := fr.tmps, vs := .nil, H := { H with next := H.next + countNew ops.toList }, Hs := T.nil.set 0 { H with next := H.next + countNew ops.toList }, lev := 0, wait := [], next := H.next } with
      | none => none
      | some S => match readsOk A E fr an ops.toList S ops.toList 0 with
        | true => some (S.t, layAll S.wait S.H)
        | false => none

def drawer (A : AP) (E : Eqs) (fuel : Nat) : Nat → Drawer
  | 0 => fun _ _ _ => none
  | n + 1 => drawR A E (arunOne A E (drawer A E fuel n) fuel)

/-- A frame has come to its end; nothing is below it. -/
def afinal (A : AP) (S : ASt) : Option (AV × Heap) :=
  match S.fr.mode, S.fr.defers, S.cs with
  | .returning, [], [] => match A.funcs.get S.fr.fn with
    | some fn => match aresults A S.H S.fr.tmps fn.results.toList with
      | some vs => some (aone vs, S.H)
      | none => none
    | none => none
  | _, _, _ => none

/-- So many steps. -/
def asteps (A : AP) (E : Eqs) (D : Drawer) : Nat → ASt → Option ASt
  | 0, S => some S
  | n + 1, S => match astep A E D S with
    | some S' => S'.force fun S' => asteps A E D n S'
    | none => none

end Go.Am
