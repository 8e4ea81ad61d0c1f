/- The abstract machine, part 17: its states, and its step. -/
import Derived.Test.YtkfoapjbfooneaaAm16
namespace Go.Am
open Go.RowKit

inductive AItem where
  | code (c : Code)
  | inBlock (id : Nat)
  | inLoop (c : Code)
  | inScope (c : Code)
  | ops (all rest : List Oper)
  | inRF (l : Nat)
  | endRF (l : Nat)
  | beginRound
  -- one operation, run by itself; and it has been, with this value
  | one (all : List Oper) (o : Oper)
  | don (v : AV)

inductive AMode where
  | run
  | returning
  | panicking (chain : List (AV × Bool))

structure AFr where
  fn : FuncId
  sz : Nat
  tmps : T AV
  todo : List AItem
  defers : List ADef
  mode : AMode
  kind : CallKind
  rnd : Option Nat

structure ASt where
  fr : AFr
  cs : List AFr
  H : Heap

def AFr.ev (fr : AFr) : Operand → Option AV
  | .tmp t => fr.tmps.get t
  | .const v => ofValue v
  | .global _ => none
  | .func f => some (.fn (.func f) [] [])

def AFr.fin (fr : AFr) (v : AV) : Option AFr :=
  match fr.todo with
  | .ops all (o :: rest) :: k => match o.dst with
    | some d => match Nat.blt d fr.sz with
      | true => some { fr with tmps := fr.tmps.set d v, todo := .ops all rest :: k }
      | false => none
    | none => some { fr with todo := .ops all rest :: k }
  | .inRF l :: k => some { fr with todo := .endRF l :: k }
  | .beginRound :: k => some { fr with todo := k }
  | .one _ _ :: _ => some { fr with todo := [.don v] }
  | _ => none

/-- Is it a frame of which one operation alone is run? -/
def AFr.lone (fr : AFr) : Bool :=
  match fr.todo with
  | .one _ _ :: _ => true
  | .don _ :: _ => true
  | _ => false

def AFr.raise (fr : AFr) (vs : List (AV × Bool)) : AFr :=
  match fr.mode with
  | .panicking chain => { fr with mode := .panicking (vs ++ chain) }
  | _ => { fr with mode := .panicking vs }

def AFr.enter (A : AP) (f : FuncId) (args : List AV) (kind : CallKind) : Option AFr :=
  match A.funcs.get f with
  | some fn => match fn.body with
    | some c => some { fn := f, sz := args.length + (fn.ntmps - args.length), tmps := T.ofList args 0 .nil, todo := [.code c], defers := [], mode := .run, kind, rnd := none }
    | none => none
  | none => none

def aexitTo (id : Nat) : List AItem → Option (List AItem)
  | .inBlock id' :: k => match Nat.beq id' id with
    | true => some k
    | false => aexitTo id k
  | _ :: k => aexitTo id k
  | [] => none

def agotoIn (l : Nat) : List AItem → Option (List AItem)
  | .inScope body :: k => match findLabel body l with
    | some rest => some (.code rest :: .inScope body :: k)
    | none => agotoIn l k
  | _ :: k => agotoIn l k
  | [] => none

/-- Is the guard of an operation met? -/
def aguard (all : List Oper) (t : T AV) : Option (Nat × Bool) → Option Bool
  | none => some true
  | some (j, want) => match all[j]? with
    | some o => match o.dst with
      | some d => match t.get d with
        | some (.bool b) => some (b == want)
        | some _ => some false
        | none => none
      | none => some false
    | none => some false

def aresult (A : AP) (H : Heap) (t : T AV) : ResultVar → Option AV
  | .tmp x => t.get x
  | .cell a ty => match t.get a with
    | some (.ptr b o) => H.load A ty b o
    | _ => none

def aresults (A : AP) (H : Heap) (t : T AV) : List ResultVar → Option (List AV)
  | [] => some []
  | r :: rs => match aresult A H t r with
    | some v => match aresults A H t rs with
      | some vs => some (v :: vs)
      | none => none
    | none => none

def aone : List AV → AV
  | [v] => v
  | l => .tup l

/-- A call returns to the frame below. -/
def adoReturn (S : ASt) (v : AV) : Option ASt :=
  match S.cs with
  | [] => none
  | c :: cs => match S.fr.kind with
    | .normal => match c.fin v with
      | some c' => some { fr := c', cs, H := S.H }
      | none => none
    | .deferred => match c.mode with
      | .run => none
      | .panicking ((_, true) :: _) => some { fr := { c with mode := .returning }, cs, H := S.H }
      | _ => some { fr := c, cs, H := S.H }
    | _ => none

def aleave (S : ASt) (jump : Option Code) : Option ASt :=
  match S.fr.rnd with
  | none => match jump with
    | none => some { S with fr := { S.fr with mode := .returning } }
    | some .ret => some { S with fr := { S.fr with mode := .returning } }
    | some _ => none
  | some l => match S.H.blks.get l with
    | some (.loop _ _ fn sz tmps ps asg body d) =>
      adoReturn { S with H := { S.H with blks := S.H.blks.set l (.loop (if jump.isNone then .ready else .done) jump fn sz tmps ps asg body d) } } (.bool jump.isNone)
    | _ => none

def aout (A : AP) (S : ASt) : AOut → Option ASt
  | .val v H => match S.fr.fin v with
    | some fr => some { S with fr, H }
    | none => none
  | .skip H => match S.fr.fin (.tup []) with
    | some fr => some { S with fr, H }
    | none => none
  | .enter f args => match AFr.enter A f args .normal with
    | some fr => some { S with fr, cs := S.fr :: S.cs }
    | none => none
  | .round l fn sz tmps asg body =>
    some { S with fr := { fn, sz, tmps, todo := [.code asg, .beginRound, .code body], defers := [], mode := .run, kind := .normal, rnd := some l }, cs := S.fr :: S.cs }
  | .defer d => match S.fr.rnd, S.fr.lone with
    | none, false => match ({ S.fr with defers := d :: S.fr.defers } : AFr).fin (.tup []) with
      | some fr => some { S with fr }
      | none => none
    | _, _ => none
  | .recover => match S.fr.rnd with
    | none => match S.fr.kind with
      | .normal => match S.fr.fin .nilifc with
        | some fr => some { S with fr }
        | none => none
      | .deferred => match S.cs with
        | [] => none
        | c :: cs => match c.mode with
          | .run => none
          | .panicking ((v, false) :: older) => match S.fr.fin v with
            | some fr => some { S with fr, cs := { c with mode := .panicking ((v, true) :: older) } :: cs }
            | none => none
          | _ => match S.fr.fin .nilifc with
            | some fr => some { S with fr }
            | none => none
      | _ => none
    | some _ => none
  | .panic v => match S.fr.lone with
    | false => some { S with fr := S.fr.raise [(v, false)] }
    | true => none

/-- What runs a region that draws its order, from end to end. -/
abbrev Drawer := AFr → Array Oper → Heap → Option (T AV × Heap)

def isYield : Fn → Bool
  | .yield _ => true
  | _ => false

/-- A range over a function begins. -/
def arange (A : AP) (S : ASt) (f : Operand) (ps : Array Tmp) (asg body : Code) (k : List AItem) : Option ASt :=
  match S.fr.ev f with
  | some (.fn fn first cap) =>
    let go (H : Heap) (fr : AFr) (l : Nat) : Option ASt := match acallFn A H fn cap (first ++ [.yld l]) with
      | some (.enter g args) => match AFr.enter A g args .normal with
        | some fr' => some { fr := fr', cs := fr :: S.cs, H }
        | none => none
      | _ => none
    match S.fr.rnd with
    | none =>
      let d := S.H.next
      let l := d + 1
      let H : Heap := { blks := (S.H.blks.set d (.dfr (some []))).set l (.loop .ready none S.fr.fn S.fr.sz S.fr.tmps ps asg body d), next := l + 1, fams := S.H.fams }
      go H { S.fr with todo := .inRF l :: k, defers := .collected d :: S.fr.defers } l
    | some l0 => match S.H.blks.get l0 with
      | some (.loop _ _ _ _ _ _ _ _ d) =>
        let l := S.H.next
        let H : Heap := { blks := S.H.blks.set l (.loop .ready none S.fr.fn S.fr.sz S.fr.tmps ps asg body d), next := l + 1, fams := S.H.fams }
        go H { S.fr with todo := .inRF l :: k } l
      | _ => none
  | _ => none

def acode (A : AP) (D : Drawer) (S : ASt) (k : List AItem) : Code → Option ASt
  | .skip => some { S with fr := { S.fr with todo := k } }
  | .label _ => some { S with fr := { S.fr with todo := k } }
  | .ret => aleave S (some .ret)
  | .seq a b => some { S with fr := { S.fr with todo := .code a :: .code b :: k } }
  | .cond c a b => match S.fr.ev c with
    | some (.bool true) => some { S with fr := { S.fr with todo := .code a :: k } }
    | some (.bool false) => some { S with fr := { S.fr with todo := .code b :: k } }
    | _ => none
  | .block id body => some { S with fr := { S.fr with todo := .code body :: .inBlock id :: k } }
  | .loop body => some { S with fr := { S.fr with todo := .code body :: .inLoop body :: k } }
  | .scope body => some { S with fr := { S.fr with todo := .code body :: .inScope body :: k } }
  | .exit id => match aexitTo id k with
    | some k' => some { S with fr := { S.fr with todo := k' } }
    | none => aleave S (some (.exit id))
  | .goto l => match agotoIn l k with
    | some k' => some { S with fr := { S.fr with todo := k' } }
    | none => aleave S (some (.goto l))
  | .region _ ops false => some { S with fr := { S.fr with todo := .ops ops.toList ops.toList :: k } }
  | .region _ ops true => match D S.fr ops S.H with
    | some (t, H) => some { S with fr := { S.fr with tmps := t, todo := k }, H }
    | none => none
  | .rangeFunc f ps asg body => arange A S f ps asg body k
  | .refuse _ => none

def arun1 (A : AP) (E : Eqs) (D : Drawer) (S : ASt) : Option ASt :=
  match S.fr.todo with
  | [] => aleave S none
  | .code c :: k => acode A D S k c
  | .inBlock _ :: k => some { S with fr := { S.fr with todo := k } }
  | .inScope _ :: k => some { S with fr := { S.fr with todo := k } }
  | .inLoop c :: k => some { S with fr := { S.fr with todo := .code c :: .inLoop c :: k } }
  | .ops _ [] :: k => some { S with fr := { S.fr with todo := k } }
  | .ops all (o :: _) :: _ => match aguard all S.fr.tmps o.guard with
    | some true => match aop A E S.H S.fr.ev o with
      | some out => aout A S out
      | none => none
    | some false => match S.fr.fin (.tup []) with
      | some fr => some { S with fr }
      | none => none
    | none => none
  | .one all o :: _ => match aguard all S.fr.tmps o.guard with
    | some true => match aop A E S.H S.fr.ev o with
      | some out => aout A S out
      | none => none
    | some false => match S.fr.fin (.tup []) with
      | some fr => some { S with fr }
      | none => none
    | none => none
  | .don _ :: _ => none
  | .inRF _ :: _ => none
  | .endRF l :: k => match S.H.blks.get l with
    | some (.loop st pend fn sz tmps ps asg body d) => match st with
      | .busy => none
      | _ => match pend with
        | some c => some { S with fr := { S.fr with todo := .code c :: k }, H := { S.H with blks := S.H.blks.set l (.loop .exhausted pend fn sz tmps ps asg body d) } }
        | none => some { S with fr := { S.fr with todo := k }, H := { S.H with blks := S.H.blks.set l (.loop .exhausted pend fn sz tmps ps asg body d) } }
    | _ => none
  | .beginRound :: k => match S.fr.rnd with
    | some l => match S.H.blks.get l with
      | some (.loop .ready pend fn sz tmps ps asg body d) =>
        some { S with fr := { S.fr with todo := k }, H := { S.H with blks := S.H.blks.set l (.loop .busy pend fn sz tmps ps asg body d) } }
      | _ => none
    | none => none

/-- A frame on its way out. -/
def aunwind (A : AP) (S : ASt) : Option ASt :=
  match S.fr.defers with
  | .collected b :: ds => match S.H.blks.get b with
    | some (.dfr (some calls)) => some { S with fr := { S.fr with defers := calls ++ ds }, H := { S.H with blks := S.H.blks.set b (.dfr none) } }
    | _ => none
  | .call f cap args :: ds => match acallFn A S.H f cap args with
    | some (.enter g xs) => match AFr.enter A g xs .deferred with
      | some fr => some { S with fr, cs := { S.fr with defers := ds } :: S.cs }
      | none => none
    | _ => none
  | [] => match S.fr.mode with
    | .run => none
    | .panicking chain => match S.cs, A.funcs.get S.fr.fn with
      | c :: cs, some _ => match c.lone with
        | false => some { fr := c.raise chain, cs, H := S.H }
        | true => none
      | _, _ => none
    | .returning => match A.funcs.get S.fr.fn with
      | some fn => match aresults A S.H S.fr.tmps fn.results.toList with
        | some vs => adoReturn S (aone vs)
        | none => none
      | none => none

def astep (A : AP) (E : Eqs) (D : Drawer) (S : ASt) : Option ASt :=
  match S.fr.mode with
  | .run => arun1 A E D S
  | .returning => aunwind A S
  | .panicking _ => aunwind A S

end Go.Am
