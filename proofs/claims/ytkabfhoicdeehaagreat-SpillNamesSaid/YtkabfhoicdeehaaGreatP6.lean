/- Parts of the proof: Am20, Am21, Am22, Pv12, Pv13, Pv14 -/
import Derived.Test.YtkabfhoicdeehaaGreatP5
set_option linter.unusedVariables false
set_option linter.unusedSimpArgs false
set_option linter.unusedSectionVars false
namespace Go.Am
open Go.RowKit
section
variable {P:Program} {fr:Frame} {cs:List Frame} {w:World}
theorem stepG_run (h:fr.mode=.run):stepG P true { frame:=fr,callers:=cs,status:=.running,dying:=none } w=stepG.exec P true true fr cs none w:=by
 obtain ⟨fn,tmps,todo,defers,mode,kind,roundOf⟩:=fr
 simp only at h
 subst h
 simp [stepG]
theorem stepG_out (h:fr.mode≠.run):stepG P true { frame:=fr,callers:=cs,status:=.running,dying:=none } w=unwind P true fr cs none w:=by
 obtain ⟨fn,tmps,todo,defers,mode,kind,roundOf⟩:=fr
 simp only at h
 cases mode with
 |run=>exact absurd rfl h
 |returning=>simp [stepG]
 |panicking c=>simp [stepG]
theorem step_todo {k:List Item} (hm:fr.mode=.run) (h:stepG.exec P true true fr cs none w=.go { frame:={ fr with todo:=k },callers:=cs,status:=.running,dying:=none } w) :
  step P (lone fr cs w)=.next (lone { fr with todo:=k } cs w) :=
 step_lone_go (by rw [stepG_run hm,h];rfl)
theorem exec_leave_none (hr:fr.roundOf=none) (hm:fr.mode=.run) {k:List Item} (ht:fr.todo=[]∨fr.todo=.code .ret::k) :
  step P (lone fr cs w)=.next (lone { fr with mode:=.returning } cs w):=by
 refine step_lone_go ?_
 rw [stepG_run hm]
 rcases ht with ht | ht<;>simp [stepG.exec,ht,hr]
variable {s:Sem Next}
theorem apply_value {v:Value} {w':World} (hr:s.run P w=.ok (.value v) w') :
  (stepG.apply P true fr cs none s w).bare=.go { frame:=fr.finish v,callers:=cs,status:=.running,dying:=none } w':=by
 simp [stepG.apply,hr]
theorem apply_skip {w':World} (hr:s.run P w=.ok .skip w') :
  (stepG.apply P true fr cs none s w).bare=.go { frame:=fr.finish undef,callers:=cs,status:=.running,dying:=none } w':=by
 simp [stepG.apply,hr]
theorem apply_enter {f:FuncId} {xs:Array Value} {w':World} (hn:∀ d r sv k,fr.todo≠.call d true r sv::k) (hr:s.run P w=.ok (.enter f xs) w') :
  (stepG.apply P true fr cs none s w).bare=.go { frame:=Frame.enter P f xs .normal,callers:=fr::cs,status:=.running,dying:=none } w':=by
 have hk:(match fr.todo with | .call _ true _ _::_=>CallKind.wrapped | _=>CallKind.normal)=.normal:=by
  split
  ·next h=>exact absurd h (hn _ _ _ _)
  ·rfl
 simp only [stepG.apply,Sem.runT_eq,hr,if_true,GStep.bare_after,hk]
 rfl
theorem apply_round {l:Nat} {f:FuncId} {arr:Array Value} {asg body:Code} {w':World} (hr:s.run P w=.ok (.round l f arr asg body) w') :
  (stepG.apply P true fr cs none s w).bare=.go { frame:=Frame.round l f arr asg body .normal,callers:=fr::cs,status:=.running,dying:=none } w':=by
 simp [stepG.apply,hr]
theorem apply_defer {d:Deferred} {w':World} (hr:s.run P w=.ok (.defer d) w') :
  (stepG.apply P true fr cs none s w).bare=.go { frame:=({ fr with defers:=d::fr.defers }:Frame).finish undef,callers:=cs,status:=.running,dying:=none } w':=by
 simp [stepG.apply,hr]
theorem apply_recover (h0:fr.roundOf=none) {w':World} (hr:s.run P w=.ok .recover w') :
  (stepG.apply P true fr cs none s w).bare = match tryRecover fr cs with
   |some (v,cs')=>.go { frame:=fr.finish v,callers:=cs',status:=.running,dying:=none } w'
   |none=>.go { frame:=fr.finish .nilIface,callers:=cs,status:=.running,dying:=none } w':=by
 simp only [stepG.apply,Sem.runT_eq,hr,if_true,GStep.bare_after,h0]
 cases tryRecover fr cs with
 |none=>rfl
 |some x=>rfl
theorem apply_panic {v:Value} {w':World} (hr:s.run P w=.halt (.panic v) w') :
  (stepG.apply P true fr cs none s w).bare=.go { frame:=fr.raise [{ v,recovered:=false }],callers:=cs,status:=.running,dying:=none } w':=by
 simp [stepG.apply,hr]
theorem exec_op {ops:Array Oper} {i:Nat} {is:List Nat} {k:List Item} {o:Oper} (ht:fr.todo=.inRegion ops (i::is)::k) (ho:ops[i]?=some o)
  (hw:Region.wanted o (yielded ops fr.tmps)=true) (hd:fr.roundOf=none∨∀ c,o.op≠.defer c) :
  stepG.exec P true true fr cs none w=stepG.apply P true fr cs none (execOp fr.eval o) w:=by
 have hop:fr.oper?=some o:=by simp [Frame.oper?,ht,ho]
 simp only [stepG.exec,ht,ho,Option.map_some,Option.getD_some,hw,if_true,stepG.oper,hop]
 rcases hd with hd | hd
 ·rw [hd]
 ·split
  ·next l c h1 h2=>exact absurd h2 (hd c)
  ·rfl
theorem exec_unwanted {ops:Array Oper} {i:Nat} {is:List Nat} {k:List Item} {o:Oper} (ht:fr.todo=.inRegion ops (i::is)::k) (ho:ops[i]?=some o)
  (hw:Region.wanted o (yielded ops fr.tmps)=false) :
  stepG.exec P true true fr cs none w=.go { frame:=fr.finish undef,callers:=cs,status:=.running,dying:=none } w:=by
 simp [stepG.exec,ht,ho,hw]
end
section
variable {m:Env} {w:World} {A:AP} {P:Program} {E:Eqs} {B0:Prot} {w0:World} {H:Heap}
end
end Go.Am
namespace Go.Am
open Go.RowKit
structure SR (B0:Prot) (w0:World) (Z:Option Lone) (m:Env) (S:ASt) (fr:Frame) (cs:List Frame) (w:World):Prop where
 fr:FrR Z m S.fr fr
 cs:FrRs Z m S.cs cs
 H:HR B0 w0 m S.H w
def Goal (B0:Prot) (w0:World) (Z:Option Lone) (P:Program) (base:List Frame) (m:Env) (S':ASt) (fr:Frame) (cs:List Frame) (w:World):Prop :=
 ∃ m' fr' cs' w',Steps P (lone fr (cs++base) w) (lone fr' (cs'++base) w')∧m.le m'∧SR B0 w0 Z m' S' fr' cs' w'
section
variable {m:Env} {w:World} {A:AP} {P:Program} {E:Eqs} {B0:Prot} {w0:World} {Z:Option Lone} {S S':ASt} {fr:Frame} {cs base:List Frame}
theorem Goal.one (h:∃ m' fr' cs' w',step P (lone fr (cs++base) w)=.next (lone fr' (cs'++base) w')∧m.le m'∧SR B0 w0 Z m' S' fr' cs' w'):Goal B0 w0 Z P base m S' fr cs w :=
 let ⟨m',fr',cs',w',h1,h2,h3⟩:=h
 ⟨m',fr',cs',w',.one h1,h2,h3⟩
theorem FrR.run (h:FrR Z m S.fr fr) (hm:S.fr.mode=.run):fr.mode=.run:=by
 rcases h with h | ⟨z,_,h⟩
 ·have:=h.mode
  rw [hm] at this
  exact this
 ·rcases h.todo with ⟨o,_,_,e,_⟩ | ⟨v,x,_,_,e⟩
  ·rw [e];exact z.mode
  ·rw [e]
   simp [Frame.finish,z.mode]
theorem FrR.out (h:FrR Z m S.fr fr) (hm:S.fr.mode≠.run):FrN m S.fr fr:=by
 rcases h with h | ⟨z,_,h⟩
 ·exact h
 ·exact absurd h.mode hm
theorem FrR.kind (h:FrR Z m S.fr fr):fr.kind=S.fr.kind:=by
 rcases h with h | ⟨z,_,h⟩
 ·exact h.kind
 ·rcases h.todo with ⟨o,_,_,e,_⟩ | ⟨v,x,_,_,e⟩
  ·rw [e];exact h.kind
  ·rw [e];simp [Frame.finish,h.kind]
theorem FrR.rnd (h:FrR Z m S.fr fr):RR m S.fr.rnd fr.roundOf:=by
 rcases h with h | ⟨z,_,h⟩
 ·exact h.rnd
 ·rcases h.todo with ⟨o,_,_,e,_⟩ | ⟨v,x,_,_,e⟩
  ·rw [e];exact h.rnd
  ·rw [e];simpa [Frame.finish] using h.rnd
theorem FrR.own {a:AFr} (h:FrR Z m a fr) (hl:a.lone=false):FrN m a fr:=by
 rcases h with h | ⟨z,_,h⟩
 ·exact h
 ·rcases h.todo with ⟨o,e,_⟩ | ⟨v,x,e,_⟩<;>simp [AFr.lone,e] at hl
end
end Go.Am
namespace Go.Am
open Go.RowKit
section
variable {m:Env} {w:World} {A:AP} {P:Program} {E:Eqs} {B0:Prot} {w0:World} {Z:Option Lone} {S S':ASt} {fr:Frame} {cs base:List Frame}
theorem exec_leave (hm:fr.mode=.run) {jump:Option Code} {k:List Item}
  (ht : (fr.todo = [] ∧ jump = none) ∨ (fr.todo = .code .ret :: k ∧ jump = some .ret) ∨ (∃ id, fr.todo = .code (.exit id) :: k ∧ jump = some (.exit id) ∧ exitTo id k = none) ∨
   (∃ l,fr.todo=.code (.goto l)::k∧jump=some (.goto l)∧gotoIn l k=none)) {l:Nat} (hr:fr.roundOf=some l) {v:Value} {w':World} (hrun:(Instr.endRound l jump).run P w=.ok v w') :
  (stepG P true { frame:=fr,callers:=cs,status:=.running,dying:=none } w).bare=(doReturn P true fr cs none v w').bare:=by
 rw [stepG_run hm]
 rcases ht with ⟨ht,rfl⟩ | ⟨ht,rfl⟩ | ⟨id,ht,rfl,hx⟩ | ⟨id,ht,rfl,hx⟩
 ·simp [stepG.exec,ht,hr,hrun]
 ·simp [stepG.exec,ht,hr,hrun]
 ·simp [stepG.exec,ht,hr,hrun,hx]
 ·simp [stepG.exec,ht,hr,hrun,hx]
theorem resolve_yield {ρ:Operand→Value} {f:Operand} {fn:Fn} {xf xc:Array Value} (h:ρ f=.func fn xf xc) (V:Value) (w:World) :
  (do let d ← resolve ρ { callee:=.value f,args:=#[.const V],argTypes:=#[] } 0;invoke d.target d.args:Sem Next).run P w=(invoke (.fn fn xc) (xf++#[ρ (.const V)])).run P w:=by
 simp [resolve,h,Deferred.ofValue]
end
end Go.Am
namespace Go.Pv
open Go.Am Go.RowKit
def Ends (w0:Base) (s:St) (R X:PV→PH→Prop) (e:Ending) (w':World):Prop :=
 ∃ s':St,s'.w=w'∧PW w0 s'∧Ext s s'∧match e with
  |.returned x=>∃ v,RV s' v x∧R v s'.h
  |.panicked chain=>∃ v x,chain=[{ v:=x,recovered:=false }]∧RV s' v x∧X v s'.h
  |.outgrown=>False
def PCall (P:Program) (g:FuncId) (args:List PV) (h:PH) (R X:PV→PH→Prop):Prop :=
 (∃ fn c, P.funcs[g]? = some fn ∧ fn.body = some c ∧ fn.name ≠ "runtime.NumGoroutine") ∧
  ∀ (w0:Base) (s:St) (xs:Array Value),PW w0 s→s.h=h→RVs s args xs.toList→Calls P g xs s.w (Ends w0 s R X)
def Rounds (P:Program) (fr:Frame) (w:World) (R:Ending→World→Prop):Prop :=
 ∀ (c:Frame) (cs:List Frame),(∃ v w',R (.returned v) w'∧Steps P (lone fr (c::cs) w) (lone (c.finish v) cs w')) ∨
  ∃ chain w',R (.panicked chain) w'∧Steps P (lone fr (c::cs) w) (lone (c.raise chain) cs w')
def VGo (P:Program) (r:Result Next) (R:Ending→World→Prop):Prop :=
 match r with
 |.ok (.enter g xs) w=>Calls P g xs w R
 |.ok (.round l f tmps asg body) w=>Rounds P (Frame.round l f tmps asg body .normal) w R
 |_=>False
def PCallV (P:Program) (f:PV) (args:List PV) (h:PH) (R X:PV→PH→Prop):Prop :=
 ∀ (w0:Base) (s:St) (fn:Fn) (xf xc xs:Array Value),PW w0 s→s.h=h→RV s f (.func fn xf xc)→RVs s args xs.toList →
  VGo P ((invoke (.fn fn xc) (xf++xs)).run P s.w) (Ends w0 s R X)
def PV.isFn:PV→Bool
 |.fn _ _ _=>true
 |.yld _=>true
 |_=>false
def pcallF (A:AP) (P:Program) (f:PV) (args:List PV) (h:PH) (R X:PV→PH→Prop):Prop :=
 match f with
 |.fn (.func g) first cap=>PCall P g (first++args++cap) h R X
 |.fn (.method name) (.ifc t v::first) _=>match pmethod A t v name with
  |some (g,u)=>PCall P g (u::(first++args)) h R X
  |none=>False
 |.fn (.method name) [] _=>match args with
  |.ifc t v::rest=>match pmethod A t v name with
   |some (g,u)=>PCall P g (u::rest) h R X
   |none=>False
  |_=>False
 |f=>f.isFn=true∧PCallV P f args h R X
section
variable {s:St} {A:AP} {P:Program} {E:Eqs} {w0:Base}
theorem Ends.mono {R R' X X':PV→PH→Prop} (hR:∀ v h,R v h→R' v h) (hX:∀ v h,X v h→X' v h) {e:Ending} {w':World} (h:Ends w0 s R X e w'):Ends w0 s R' X' e w':=by
 obtain ⟨s',h1,h2,h3,h4⟩:=h
 refine ⟨s',h1,h2,h3,?_⟩
 cases e with
 |returned x=>obtain ⟨v,p,q⟩:=h4;exact ⟨v,p,hR _ _ q⟩
 |panicked c=>obtain ⟨v,x,p,q,r⟩:=h4;exact ⟨v,x,p,q,hX _ _ r⟩
 |outgrown=>exact h4
theorem PCall.mono {g:FuncId} {args:List PV} {h:PH} {R R' X X':PV→PH→Prop} (hc:PCall P g args h R X) (hR:∀ v h,R v h→R' v h) (hX:∀ v h,X v h→X' v h):PCall P g args h R' X' :=
 ⟨hc.1,fun w0 s xs h1 h2 h3=>(hc.2 w0 s xs h1 h2 h3).mono fun _ _ he=>he.mono hR hX⟩
theorem callFunc_go {g:FuncId} {args:List PV} {h:PH} {R X:PV→PH→Prop} (hc:PCall P g args h R X) (hw:PW w0 s) (hh:s.h=h) {xs:Array Value} (hx:RVs s args xs.toList) :
  VGo P ((callFunc g xs).run P s.w) (Ends w0 s R X):=by
 obtain ⟨⟨fn,c,h1,h2,h3⟩,h4⟩:=hc
 have:(callFunc g xs).run P s.w=.ok (.enter g xs) s.w:=by simp [callFunc,h1,h2,h3]
 rw [this]
 exact h4 w0 s xs hw hh hx
theorem callMethod_go (hA:A.Ok P) {t:TypeId} {v u:PV} {name:String} {g:FuncId} (hm:pmethod A t v name=some (g,u)) {args:List PV} {h:PH} {R X:PV→PH→Prop} (hc:PCall P g (u::args) h R X) (hw:PW w0 s) (hh:s.h=h)
  {x:Value} {xs:Array Value} (hx:RV s v x) (hxs:RVs s args xs.toList):VGo P ((callMethod (.iface t x) name xs).run P s.w) (Ends w0 s R X):=by
 obtain ⟨y,y1,_,y3⟩:=pmethod_ok hA hm hx (P.types.size+99) s.w
 have:=callFunc_go hc hw hh (xs:=#[y]++xs) (by rw [Array.toList_append];exact RVs_cons.2 ⟨y,xs.toList,rfl,y3,hxs⟩)
 simp only [callMethod,Sem.run_bind,run_program,Result.andThen_ok]
 rw [show P.types.size+Made.depth=P.types.size+99+1 from rfl,y1]
 exact this
theorem pcallF_ok (hA:A.Ok P) {f:PV} {args:List PV} {h:PH} {R X:PV→PH→Prop} (hc:pcallF A P f args h R X) (hw:PW w0 s) (hh:s.h=h) {fv:Value} (hf:RV s f fv) {xs:Array Value} (hx:RVs s args xs.toList) :
  ∃ fn xf xc,fv=.func fn xf xc∧VGo P ((invoke (.fn fn xc) (xf++xs)).run P s.w) (Ends w0 s R X):=by
 have tail:∀ (name:String) (t:TypeId) (v:PV) (rest:List PV) (g:FuncId) (u:PV) (ys:Array Value) (xc:Array Value),pmethod A t v name=some (g,u)→PCall P g (u::rest) h R X→RVs s (.ifc t v::rest) ys.toList →
   VGo P ((invoke (.fn (.method name) xc) ys).run P s.w) (Ends w0 s R X):=by
  intro name t v rest g u ys xc hm hc hys
  obtain ⟨y0,ys',e1,e2,e3⟩:=RVs_cons.1 hys
  obtain ⟨x,rfl,hx2⟩:=RV_ifc.1 e2
  have hex:(ys.extract 1 ys.size).toList=ys':=by
   rw [Array.toList_extract,List.extract_eq_take_drop,e1]
   have hsz:ys.size=ys'.length+1:=by
    rw [← Array.length_toList,e1]
    rfl
   rw [hsz]
   simp
  have h0:ys[0]?=some (.iface t x):=by
   rw [← Array.getElem?_toList,e1]
   rfl
  simp only [invoke,h0]
  exact callMethod_go hA hm hc hw hh hx2 (by rw [hex];exact e3)
 unfold pcallF at hc
 split at hc
 ·next g first cap =>
  obtain ⟨y,z,rfl,h1,h2⟩:=RV_fn.1 hf
  refine ⟨_,y,z,rfl,?_⟩
  simp only [invoke]
  exact callFunc_go hc hw hh (by simp only [Array.toList_append];exact (h1.append hx).append h2)
 ·next name t v first cap =>
  obtain ⟨y,z,rfl,h1,h2⟩:=RV_fn.1 hf
  refine ⟨_,y,z,rfl,?_⟩
  split at hc
  case h_2=>exact hc.elim
  next g u hm =>
  exact tail name t v (first++args) g u (y++xs) z hm hc (by rw [Array.toList_append,← List.cons_append];exact h1.append hx)
 ·next name cap =>
  obtain ⟨y,z,rfl,h1,h2⟩:=RV_fn.1 hf
  refine ⟨_,y,z,rfl,?_⟩
  split at hc
  case h_2=>exact hc.elim
  next t v rest =>
  split at hc
  case h_2=>exact hc.elim
  next g u hm =>
  have hy:y.toList=[]:=RVs_nil.1 h1
  exact tail name t v rest g u (y++xs) z hm hc (by rw [Array.toList_append,hy];exact hx)
 ·obtain ⟨h1,h2⟩:=hc
  cases f<;>simp only [PV.isFn,Bool.false_eq_true] at h1
  case fn =>
   obtain ⟨y,z,rfl,h3,h4⟩:=RV_fn.1 hf
   exact ⟨_,y,z,rfl,h2 w0 s _ y z xs hw hh (RV_fn.2 ⟨y,z,rfl,h3,h4⟩) hx⟩
  case yld =>
   obtain ⟨h3,rfl⟩:=RV_yld.1 hf
   exact ⟨_,#[],#[],rfl,h2 w0 s _ #[] #[] xs hw hh (RV_yld.2 ⟨h3,rfl⟩) hx⟩
end
end Go.Pv
namespace Go.Pv
open Go.Am Go.RowKit
def PDo (o:Option PV) (K:PV→Prop):Prop :=
 match o with
 |some v=>K v
 |none=>False
def PIf (b:Bool) (p q:Prop):Prop :=
 match b with
 |true=>p
 |false=>q
inductive PK where
 |quiet
 |fresh
 |loud
 |pick
 |call
 |panic
def pkind (M:Nat→Bool) (o:Oper):PK :=
 match o.op with
 |.alloc _=>match o.dst with
  |some d=>match M d with
   |true=>.fresh
   |false=>.loud
  |none=>.fresh
 |.box _ _=>match o.dst with
  |some d=>match M d with
   |true=>.fresh
   |false=>.loud
  |none=>.fresh
 |.buildSlice _ _ _=>.fresh
 |.store _ _ _=>.loud
 |.makeMap _ _=>.loud
 |.makeSlice _ _ _=>.loud
 |.mapUpdate _ _ _ _=>.loud
 |.insert _ _ _ _=>.loud
 |.range _ _=>.loud
 |.next _ _=>.loud
 |.entry _=>.loud
 |.pick _ _ _=>.pick
 |.panic _=>.panic
 |.call c=>match c.callee with
  |.builtin .append=>.loud
  |.builtin .copy=>.loud
  |.builtin .delete=>.loud
  |.builtin .panic=>.panic
  |.builtin _=>.quiet
  |.invoke _ _=>.call
  |.value _=>.call
 |_=>.quiet
def ploud (A:AP) (E:Eqs) (ρ:Operand→Option PV) (h:PH) (o:Op) (K:PV→PH→Prop):Prop :=
 match o with
 |.store t a x=>match ρ a,ρ x with
  |some a,some v=>PStore A h t a v K
  |_,_=>False
 |.alloc t=>match pzero A t with
  |some z=>K (.ptr h.next 0) (h.add (.cells z.cells))
  |none=>False
 |.box _ x=>match ρ x with
  |some v=>K (.ptr h.next 0) (h.add (.cells v.cells))
  |none=>False
 |.makeMap _ none=>K (.mp h.next) (h.add (.map [] 0))
 |.makeSlice t l c=>match ρ l,ρ c with
  |some (.lit (.int _ n)),some (.lit (.int _ m))=>PMake A h t n m K
  |_,_=>False
 |.mapUpdate t x k v=>match ρ x,ρ k,ρ v with
  |some x,some k,some v=>PMapUpdate A E h t x k v K
  |_,_,_=>False
 |.insert t x k v=>match ρ x,ρ k,ρ v with
  |some x,some k,some v=>PMapUpdate A E h t x k v K
  |_,_,_=>False
 |.range t x=>match ρ x with
  |some x=>PRangeM A h t x K
  |none=>False
 |.next x false=>match ρ x with
  |some x=>PNext h x K
  |none=>False
 |.entry x=>match ρ x with
  |some x=>PEntry h x K
  |none=>False
 |.call c=>match c.callee,c.argTypes.toList,pargs ρ c.args.toList with
  |.builtin .append,[t,tx],some [s,x]=>PAppend A h t tx s x K
  |.builtin .copy,[t,_],some [d,x]=>PCopy A h t d x K
  |.builtin .delete,[t,_],some [x,k]=>PDelete A E h t x k K
  |_,_,_=>False
 |_=>False
def pcallO (A : AP) (P : Program) (ρ : Operand → Option PV) (h : PH) (o : Op) (K X : PV → PH → Prop) : Prop :=
 match o with
 |.call c=>match pargs ρ c.args.toList with
  |some args=>match c.callee with
   |.invoke recv name=>match ρ recv with
    |some (.ifc t v)=>match pmethod A t v name with
     |some (g,u)=>PCall P g (u::args) h K X
     |none=>False
    |_=>False
   |.value f=>match ρ f with
    |some f=>pcallF A P f args h K X
    |none=>False
   |.builtin _=>False
  |none=>False
 |_=>False
def ppanic (ρ:Operand→Option PV) (h:PH) (o:Op) (X:PV→PH→Prop):Prop :=
 match o with
 |.panic x=>match ρ x with
  |some (.ifc t v)=>X (.ifc t v) h
  |_=>False
 |.call c=>match c.callee,pargs ρ c.args.toList with
  |.builtin .panic,some (.ifc t v::_)=>X (.ifc t v) h
  |_,_=>False
 |_=>False
def ppick (ρ:Operand→Option PV) (o:Op) (K:PV→Prop):Prop :=
 match o with
 |.pick c a b=>match ρ c with
  |some (.lit (.bool q))=>PIf q (PDo (ρ a) K) (PDo (ρ b) K)
  |_=>False
 |_=>False
def pop (A:AP) (E:Eqs) (P:Program) (M:Nat→Bool) (t:Nat→Option PV) (h:PH) (o:Oper) (K X:PV→PH→Prop):Prop :=
 match pkind M o with
 |.quiet=>PDo (pquiet A E (pev t) h o.op) fun v=>K v h
 |.fresh=>PDo (pfresh A (pev t) o.op) fun v=>K v h
 |.loud=>ploud A E (pev t) h o.op K
 |.pick=>ppick (pev t) o.op fun v=>K v h
 |.call=>pcallO A P (pev t) h o.op K X
 |.panic=>ppanic (pev t) h o.op X
def Did (P:Program) (w0:Base) (s:St) (K X:PV→PH→Prop) (r:Result Next):Prop :=
 (∃ x v s',(r=.ok (.value x) s'.w∨(r=.ok .skip s'.w∧x=undef))∧PW w0 s'∧Ext s s'∧RV s' v x∧K v s'.h) ∨
 VGo P r (Ends w0 s K X)∨∃ x v,r=.halt (.panic x) s.w∧RV s v x∧X v s.h
section
variable {s:St} {A:AP} {P:Program} {E:Eqs} {w0:Base} {M:Nat→Bool}
theorem PDo_iff {o:Option PV} {K:PV→Prop}:PDo o K↔∃ v,o=some v∧K v:=by
 cases o with
 |none=>exact ⟨fun h=>h.elim,fun ⟨_,h,_⟩=>by cases h⟩
 |some v=>exact ⟨fun h=>⟨v,rfl,h⟩,fun ⟨_,h,k⟩=>by cases h;exact k⟩
theorem PDo.of {o:Option PV} {K:PV→Prop} {v:PV} (h:o=some v) (k:K v):PDo o K:=PDo_iff.2 ⟨v,h,k⟩
theorem PIf_iff {b:Bool} {p q:Prop}:PIf b p q↔(b=true→p)∧(b=false→q):=by
 cases b<;>simp [PIf]
theorem rv_undef (s:St):RV s (.tup []) undef:=RV_tup.2 ⟨_,rfl,RVs_nil.2 rfl⟩
theorem ploud_ok (hA:A.Ok P) (hE:E.Ok P) (hw:PW w0 s) {ρ:Operand→Option PV} {ρ':Operand→Value} (hρ:∀ x v,ρ x=some v→RV s v (ρ' x)) {o:Oper} {K:PV→PH→Prop} (h:ploud A E ρ s.h o.op K) :
  ∃ x v s',((execOp ρ' o).run P s.w=.ok (.value x) s'.w∨((execOp ρ' o).run P s.w=.ok .skip s'.w∧x=undef))∧PW w0 s'∧Ext s s'∧RV s' v x∧K v s'.h:=by
 have new:∀ (v:PV) (x:Value) (t:TypeId),RV s v x→K (.ptr s.h.next 0) (s.h.add (.cells v.cells)) →
   ∃ s',s'.w=s.w.alloc (.cells x.cells t)∧PW w0 s'∧Ext s s'∧RV s' (.ptr s.h.next 0) (.pointer (some ⟨s.w.heap.size,0,none⟩))∧K (.ptr s.h.next 0) s'.h:=fun v x t hv hK =>
  have hx:=Ext.new hw (b:=.cells v.cells) (o:=.cells x.cells t)
  ⟨s.new (.cells v.cells) (.cells x.cells t),rfl,hw.new (fun _ _ _ e=>by cases e;exact Nat.le_refl _) rfl ⟨_,t,heap_alloc_new _ _,(R2s.ext hx _).1 _ hv.cells⟩,hx,RV_ptr.2 ⟨Nat.lt_succ_self _,by simp [St.new,upd_self]⟩,hK⟩
 have unit:∀ {m:Sem Unit} {s':St},m.run P s.w=.ok () s'.w→((do m;pure .skip:Sem Next)).run P s.w=.ok .skip s'.w:=fun h=>by simp [h]
 have val:∀ {m:Sem Value} {r:Value} {s':St},m.run P s.w=.ok r s'.w→((do let x ← m;pure (.value x):Sem Next)).run P s.w=.ok (.value r) s'.w:=fun h=>by simp [h]
 unfold ploud at h
 split at h
 ·next t a x ho =>
  split at h
  case h_2=>exact h.elim
  next av v ha hv =>
  obtain ⟨s',s1,s2,s3,s4⟩:=pstore_ok hA hw h (hρ _ _ ha) (hρ _ _ hv)
  exact ⟨undef,.tup [],s',.inr ⟨by simp only [execOp,ho];exact unit s1,rfl⟩,s2,s3,rv_undef s',s4⟩
 ·next t ho =>
  split at h
  case h_2=>exact h.elim
  next z hz =>
  obtain ⟨zv,z1,z2⟩:=pzero_ok (s:=s) hA hz s.w
  obtain ⟨s',s1,s2,s3,s4,s5⟩:=new z zv t z2 h
  exact ⟨_,_,s',.inl (by rw [s1];simp [execOp,ho,Instr.alloc,z1,Go.newVar,newRow]),s2,s3,s4,s5⟩
 ·next t x ho =>
  split at h
  case h_2=>exact h.elim
  next v hv =>
  obtain ⟨s',s1,s2,s3,s4,s5⟩:=new v (ρ' x) t (hρ _ _ hv) h
  exact ⟨_,_,s',.inl (by rw [s1];simp [execOp,ho,Instr.box,Go.newVar,newRow]),s2,s3,s4,s5⟩
 ·next t ho =>
  refine ⟨_,_,s.new (.map [] 0) (.map #[] 0),.inl ?_,hw.new (fun _ _ _ e=>by cases e) rfl ⟨#[],heap_alloc_new _ _,rfl⟩,Ext.new hw,RV_mp.2 ⟨Nat.lt_succ_self _,rfl⟩,h⟩
  simp [execOp,ho,Instr.makeMap,St.new,upd_self]
 ·next t l c ho =>
  split at h
  case h_2=>exact h.elim
  next k1 n k2 m hl hc =>
  have h1:=(RV_lit.1 (hρ _ _ hl)).2
  have h2:=(RV_lit.1 (hρ _ _ hc)).2
  simp only [VR] at h1 h2
  obtain ⟨r,v,s',s1,s2,s3,s4,s5⟩:=pmake_ok hA hw h k1 k2
  exact ⟨r,v,s',.inl (by simp only [execOp,ho,h1,h2];exact val s1),s2,s3,s4,s5⟩
 ·next t x k v ho =>
  split at h
  case h_2=>exact h.elim
  next xv kv vv hx hk hv =>
  obtain ⟨s',s1,s2,s3,s4⟩:=pmapUpdate_ok hA hE hw h (hρ _ _ hx) (hρ _ _ hk) (hρ _ _ hv)
  exact ⟨undef,.tup [],s',.inr ⟨by simp only [execOp,ho];exact unit s1,rfl⟩,s2,s3,rv_undef s',s4⟩
 ·next t x k v ho =>
  split at h
  case h_2=>exact h.elim
  next xv kv vv hx hk hv =>
  obtain ⟨s',s1,s2,s3,s4⟩:=pmapUpdate_ok hA hE hw h (hρ _ _ hx) (hρ _ _ hk) (hρ _ _ hv)
  exact ⟨undef,.tup [],s',.inr ⟨by simp only [execOp,ho];exact unit s1,rfl⟩,s2,s3,rv_undef s',s4⟩
 ·next t x ho =>
  split at h
  case h_2=>exact h.elim
  next xv hx =>
  obtain ⟨r,v,s',s1,s2,s3,s4,s5⟩:=prange_ok hA hw h (hρ _ _ hx)
  exact ⟨r,v,s',.inl (by simp only [execOp,ho];exact val s1),s2,s3,s4,s5⟩
 ·next x ho =>
  split at h
  case h_2=>exact h.elim
  next xv hx =>
  obtain ⟨r,v,s',s1,s2,s3,s4,s5⟩:=pnext_ok (P:=P) (ty:=o.type) hw h (hρ _ _ hx)
  exact ⟨r,v,s',.inl (by simp only [execOp,ho];exact val s1),s2,s3,s4,s5⟩
 ·next x ho =>
  split at h
  case h_2=>exact h.elim
  next xv hx =>
  obtain ⟨r,v,s',s1,s2,s3,s4,s5⟩:=pentry_ok (P:=P) hw h (hρ _ _ hx)
  exact ⟨r,v,s',.inl (by simp only [execOp,ho];exact val s1),s2,s3,s4,s5⟩
 ·next c ho =>
  have two:∀ (b:Builtin),c.callee=.builtin b→∃ cs,(execOp ρ' o).run P s.w=(builtin b c.argTypes o.type cs (c.args.map ρ')).run P s.w:=by
   intro b hb
   simp only [execOp,ho,resolve,hb,pure_bind,invoke]
   exact ⟨_,rfl⟩
  have args2:∀ a b,pargs ρ c.args.toList=some [a,b]→∃ x y,c.args.map ρ'=#[x,y]∧RV s a x∧RV s b y:=by
   intro a b hargs
   have hx:=pargs_ok hρ _ _ hargs
   obtain ⟨y,ys,e1,e2,e3⟩:=RVs_cons.1 hx
   obtain ⟨z,zs,f1,f2,f3⟩:=RVs_cons.1 e3
   rw [RVs_nil.1 f3] at f1
   subst f1
   exact ⟨y,z,by apply Array.ext';simpa using e1,e2,f2⟩
  split at h
  ·next t tx a b hc hts hargs =>
   obtain ⟨x,y,e0,e1,e2⟩:=args2 _ _ hargs
   have htt:c.argTypes=#[t,tx]:=by apply Array.ext';simpa using hts
   obtain ⟨cs,e3⟩:=two _ hc
   obtain ⟨r,v,s',s1,s2,s3,s4,s5⟩:=pappend_ok (ty:=o.type) hA hw h e1 e2
   exact ⟨r,v,s',.inl (by rw [e3,e0,htt];simp [builtin,s1]),s2,s3,s4,s5⟩
  ·next t tx a b hc hts hargs =>
   obtain ⟨x,y,e0,e1,e2⟩:=args2 _ _ hargs
   have htt:c.argTypes=#[t,tx]:=by apply Array.ext';simpa using hts
   obtain ⟨cs,e3⟩:=two _ hc
   obtain ⟨r,v,s',s1,s2,s3,s4,s5⟩:=pcopy_ok (ty:=o.type) (ts:=tx) hA hw h e1 e2
   exact ⟨r,v,s',.inl (by rw [e3,e0,htt];simp [builtin,s1]),s2,s3,s4,s5⟩
  ·next t tx a b hc hts hargs =>
   obtain ⟨x,y,e0,e1,e2⟩:=args2 _ _ hargs
   have htt:c.argTypes=#[t,tx]:=by apply Array.ext';simpa using hts
   obtain ⟨cs,e3⟩:=two _ hc
   obtain ⟨s',s1,s2,s3,s4⟩:=pdelete_ok (ty:=o.type) (tk:=tx) hA hE hw h e1 e2
   exact ⟨.tuple #[],.tup [],s',.inl (by rw [e3,e0,htt];simp [builtin,s1]),s2,s3,rv_undef s',s4⟩
  ·exact h.elim
 ·exact h.elim
theorem pop_ok (hA:A.Ok P) (hE:E.Ok P) (hw:PW w0 s) {t:Nat→Option PV} {ρ':Operand→Value} (hρ:∀ x v,pev t x=some v→RV s v (ρ' x)) {o:Oper} {K X:PV→PH→Prop} (h:pop A E P M t s.h o K X) :
  Did P w0 s K X ((execOp ρ' o).run P s.w):=by
 unfold pop at h
 split at h
 ·obtain ⟨v,h1,h2⟩:=PDo_iff.1 h
  obtain ⟨r,r1,r2⟩:=pquiet_ok hA hE hw hρ h1
  exact .inl ⟨r,v,s,.inl r1,hw,Ext.refl s,r2,h2⟩
 ·obtain ⟨v,h1,h2⟩:=PDo_iff.1 h
  obtain ⟨r,s',r1,r2,r3,r4,r5⟩:=pfresh_ok hA hw hρ h1
  exact .inl ⟨r,v,s',.inl r1,r2,r3,r5,by rw [r4];exact h2⟩
 ·exact .inl (ploud_ok hA hE hw hρ h)
 ·unfold ppick at h
  split at h
  case h_2=>exact h.elim
  next c a b ho =>
  split at h
  case h_2=>exact h.elim
  next q hq =>
  have hqv:=(RV_lit.1 (hρ _ _ hq)).2
  simp only [VR] at hqv
  cases q with
  |true =>
   obtain ⟨v,h1,h2⟩:=PDo_iff.1 h
   exact .inl ⟨ρ' a,v,s,.inl (by simp [execOp,ho,hqv,asBool]),hw,Ext.refl s,hρ _ _ h1,h2⟩
  |false =>
   obtain ⟨v,h1,h2⟩:=PDo_iff.1 h
   exact .inl ⟨ρ' b,v,s,.inl (by simp [execOp,ho,hqv,asBool]),hw,Ext.refl s,hρ _ _ h1,h2⟩
 ·unfold pcallO at h
  split at h
  case h_2=>exact h.elim
  next c ho =>
  split at h
  case h_2=>exact h.elim
  next args hargs =>
  have hx:=pargs_ok hρ _ _ hargs
  have hx':RVs s args (c.args.map ρ').toList:=by simpa using hx
  split at h
  ·next recv name hc =>
   split at h
   case h_2=>exact h.elim
   next t' v hr =>
   split at h
   case h_2=>exact h.elim
   next g u hm =>
   obtain ⟨x,e1,e2⟩:=RV_ifc.1 (hρ _ _ hr)
   refine .inr (.inl ?_)
   have hex:((#[ρ' recv]++c.args.map ρ').extract 1 (#[ρ' recv]++c.args.map ρ').size)=c.args.map ρ':=by
    apply Array.ext'
    simp
    exact List.take_of_length_le (by simp)
   have h0:(#[ρ' recv]++c.args.map ρ')[0]?=some (.iface t' x):=by
    rw [← Array.getElem?_toList]
    simp [e1]
   simp only [execOp,ho,resolve,hc,pure_bind,invoke,h0,hex]
   exact callMethod_go hA hm h hw rfl e2 hx'
  ·next f hc =>
   split at h
   case h_2=>exact h.elim
   next fv hf =>
   refine .inr (.inl ?_)
   obtain ⟨fn,xf,xc,e1,e2⟩:=pcallF_ok hA h hw rfl (hρ _ _ hf) hx'
   simp only [execOp,ho,resolve,hc,e1,Deferred.ofValue,pure_bind]
   exact e2
  ·exact h.elim
 ·refine .inr (.inr ?_)
  unfold ppanic at h
  split at h
  ·next x ho =>
   split at h
   case h_2=>exact h.elim
   next t' v hx =>
   have hv:=hρ _ _ hx
   obtain ⟨y,e1,e2⟩:=RV_ifc.1 hv
   exact ⟨ρ' x,.ifc t' v,by simp [execOp,ho,e1,Instr.panic],hv,h⟩
  ·next c ho =>
   split at h
   case h_2=>exact h.elim
   next t' v l hc hargs =>
   have hx:=pargs_ok hρ _ _ hargs
   obtain ⟨y,ys,e1,e2,e3⟩:=RVs_cons.1 hx
   have hv:=e2
   obtain ⟨z,rfl,hz⟩:=RV_ifc.1 e2
   refine ⟨_,.ifc t' v,?_,hv,h⟩
   have h0:(c.args.map ρ')[0]?=some (.iface t' z):=by
    have:(c.args.map ρ').toList[0]?=some (.iface t' z):=by
     rw [Array.toList_map,e1];rfl
    simpa using this
   have hg:(c.args.map ρ').getD 0 .nilIface=.iface t' z:=by rw [Array.getD_eq_getD_getElem?,h0];rfl
   simp only [execOp,ho,resolve,hc,pure_bind,invoke,builtin,hg,Sem.run_bind]
   simp [Instr.panic]
  ·exact h.elim
end
end Go.Pv
namespace Go.Pv
open Go.Am Go.RowKit
def on (b:Frame) (arr:Array Value) (dl:List Deferred) (todo:List Item):Frame:={ b with tmps:=arr,defers:=dl++b.defers,todo:=todo }
def putA (arr:Array Value) (d:Option Tmp) (x:Value):Array Value :=
 match d with
 |some d=>arr.setIfInBounds d x
 |none=>arr
def dls (s:St) (ds:List Nat):List Deferred:=ds.map fun i=>{ target:=.collected (s.e i),args:=#[] }
inductive PExit where
 |normal
 |jump (c:Code)
def Thru (j:Code) (pre:List Item):Prop :=
 match j with
 |.ret=>True
 |.exit id=>∀ k,exitTo id (pre++k)=exitTo id k
 |.goto l=>∀ k,gotoIn l (pre++k)=gotoIn l k
 |_=>False
abbrev PQ:=PExit→T PV→List Nat→PH→Prop
def POut (P:Program) (w0:Base) (s:St) (sz:Nat) (b:Frame) (k:List Item) (cs:List Frame) (Q:PQ) (X:T PV→List Nat→PV→PH→Prop) (m:Machine):Prop :=
 ∃ (s' : St) (arr' : Array Value) (ds' : List Nat), PW w0 s' ∧ Ext s s' ∧ arr'.size = sz ∧ (∀ i ∈ ds', i < s'.h.next) ∧
  ((∃ t', Q .normal t' ds' s'.h ∧ TV s' t'.get arr' ∧ Steps P m (lone (on b arr' (dls s' ds') k) cs s'.w)) ∨
   (∃ t' j pre,Q (.jump j) t' ds' s'.h∧TV s' t'.get arr'∧Thru j pre∧Steps P m (lone (on b arr' (dls s' ds') (.code j::(pre++k))) cs s'.w)) ∨
   ∃ t' v x todo,X t' ds' v s'.h∧RV s' v x∧TV s' t'.get arr'∧Steps P m (lone { on b arr' (dls s' ds') todo with mode:=.panicking [{ v:=x,recovered:=false }] } cs s'.w))
def PWP (P:Program) (fi:FuncId) (sz:Nat) (rnd:Option Nat) (c:Code) (Q:PQ) (X:T PV→List Nat→PV→PH→Prop) (t:T PV) (ds:List Nat) (h:PH):Prop :=
 ∀ (w0:Base) (s:St) (arr:Array Value) (b:Frame) (k:List Item) (cs:List Frame),PW w0 s→s.h=h→TV s t.get arr→arr.size=sz→(∀ i∈ds,i < s.h.next)→b.mode=.run →
  b.roundOf=rnd.map s.e→(∀ i,rnd=some i→i < s.h.next)→b.fn=fi→POut P w0 s sz b k cs Q X (lone (on b arr (dls s ds) (.code c::k)) cs s.w)
section
variable {s:St} {P:Program} {w0:Base} {sz:Nat} {b:Frame} {k:List Item} {cs:List Frame} {Q:PQ} {X:T PV→List Nat→PV→PH→Prop} {rnd:Option Nat} {fi:FuncId}
theorem POut.of_steps {m m1:Machine} (h:Steps P m m1) (h':POut P w0 s sz b k cs Q X m1):POut P w0 s sz b k cs Q X m:=by
 obtain ⟨s',arr',ds',h1,h2,h3,h4,h5⟩:=h'
 refine ⟨s',arr',ds',h1,h2,h3,h4,?_⟩
 rcases h5 with ⟨t',p,q,r⟩ | ⟨t',j,pre,p,q,q',r⟩ | ⟨tx,v,x,todo,p,q,qx,r⟩
 ·exact .inl ⟨t',p,q,h.trans r⟩
 ·exact .inr (.inl ⟨t',j,pre,p,q,q',h.trans r⟩)
 ·exact .inr (.inr ⟨tx,v,x,todo,p,q,qx,h.trans r⟩)
theorem POut.ext {s1:St} (he:Ext s s1) {m:Machine} (h':POut P w0 s1 sz b k cs Q X m):POut P w0 s sz b k cs Q X m:=by
 obtain ⟨s',arr',ds',h1,h2,h3⟩:=h'
 exact ⟨s',arr',ds',h1,he.trans h2,h3⟩
theorem PWP.mono {c:Code} {Q':PQ} {X':T PV→List Nat→PV→PH→Prop} {t:T PV} {ds:List Nat} {h:PH} (hc:PWP P fi sz rnd c Q X t ds h) (hQ:∀ e t ds h,Q e t ds h→Q' e t ds h) (hX:∀ t ds v h,X t ds v h→X' t ds v h):PWP P fi sz rnd c Q' X' t ds h:=by
 intro w0 s arr b k cs a1 a2 a3 a4 a5 a6 a7 a8 a9
 obtain ⟨s',arr',ds',h1,h2,h3,h4,h5⟩:=hc w0 s arr b k cs a1 a2 a3 a4 a5 a6 a7 a8 a9
 refine ⟨s',arr',ds',h1,h2,h3,h4,?_⟩
 rcases h5 with ⟨t',p,q,r⟩ | ⟨t',j,pre,p,q,q',r⟩ | ⟨tx,v,x,todo,p,q,qx,r⟩
 ·exact .inl ⟨t',hQ _ _ _ _ p,q,r⟩
 ·exact .inr (.inl ⟨t',j,pre,hQ _ _ _ _ p,q,q',r⟩)
 ·exact .inr (.inr ⟨tx,v,x,todo,hX _ _ _ _ p,q,qx,r⟩)
theorem PWP.less {c:Code} {t t':T PV} {ds:List Nat} {h:PH} (hc:PWP P fi sz rnd c Q X t' ds h) (ht:∀ i v,t'.get i=some v→t.get i=some v):PWP P fi sz rnd c Q X t ds h :=
 fun w0 s arr b k cs a1 a2 a3 a4 a5 a6 a7 a8 a9=>hc w0 s arr b k cs a1 a2 (fun i v hi=>a3 i v (ht i v hi)) a4 a5 a6 a7 a8 a9
theorem step_on {arr:Array Value} {dl:List Deferred} {todo k':List Item} {w:World} (hm:b.mode=.run) (h:stepG.exec P true true (on b arr dl todo) cs none w=.go { frame:=on b arr dl k',callers:=cs,status:=.running,dying:=none } w) :
  Steps P (lone (on b arr dl todo) cs w) (lone (on b arr dl k') cs w) :=
 .one (step_todo (fr:=on b arr dl todo) (k:=k') hm h)
theorem PWP.skip {t:T PV} {ds:List Nat} {h:PH} (hq:Q .normal t ds h):PWP P fi sz rnd .skip Q X t ds h:=by
 intro w0 s arr b k cs a1 a2 a3 a4 a5 a6 a7 a8 a9
 subst a2
 exact ⟨s,arr,ds,a1,Ext.refl s,a4,a5,.inl ⟨t,hq,a3,step_on a6 (by simp [stepG.exec,on])⟩⟩
theorem PWP.label {l:Nat} {t:T PV} {ds:List Nat} {h:PH} (hq:Q .normal t ds h):PWP P fi sz rnd (.label l) Q X t ds h:=by
 intro w0 s arr b k cs a1 a2 a3 a4 a5 a6 a7 a8 a9
 subst a2
 exact ⟨s,arr,ds,a1,Ext.refl s,a4,a5,.inl ⟨t,hq,a3,step_on a6 (by simp [stepG.exec,on])⟩⟩
theorem PWP.jump {j:Code} (hj:Thru j []) {t:T PV} {ds:List Nat} {h:PH} (hq:Q (.jump j) t ds h):PWP P fi sz rnd j Q X t ds h:=by
 intro w0 s arr b k cs a1 a2 a3 a4 a5 a6 a7 a8 a9
 subst a2
 exact ⟨s,arr,ds,a1,Ext.refl s,a4,a5,.inr (.inl ⟨t,j,[],hq,a3,hj,.refl _ _⟩)⟩
theorem Thru.snoc {j:Code} {pre:List Item} {it:Item} (h:Thru j pre) (hi:∀ id k,j=.exit id→exitTo id (it::k)=exitTo id k) (hg:∀ l k,j=.goto l→gotoIn l (it::k)=gotoIn l k):Thru j (pre++[it]):=by
 cases j<;>first
  |exact h
  |(next id =>
    intro k
    rw [List.append_assoc]
    exact (h _).trans (hi id k rfl))
  |(next id =>
    intro k
    rw [List.append_assoc]
    exact (h _).trans (hg id k rfl))
def PQ.then (N:T PV→List Nat→PH→Prop) (Q:PQ):PQ:=fun e t ds h =>
 match e with
 |.normal=>N t ds h
 |.jump j=>Q (.jump j) t ds h
theorem dls_ext {s s':St} (h:Ext s s') {ds:List Nat} (hd:∀ i∈ds,i < s.h.next):dls s' ds=dls s ds:=by
 unfold dls
 exact List.map_congr_left fun i hi=>by rw [h.e i (hd i hi)]
theorem POut.bind {m:Machine} {it:Item} {Q1:PQ} (h1:POut P w0 s sz b (it::k) cs Q1 X m) (hit:∀ id k,exitTo id (it::k)=exitTo id k) (hgo:∀ l k,gotoIn l (it::k)=gotoIn l k)
  (hj:∀ j t ds h,Q1 (.jump j) t ds h→Q (.jump j) t ds h)
  (hn : ∀ (s' : St) (arr' : Array Value) (t' : T PV) (ds' : List Nat), PW w0 s' → Ext s s' → TV s' t'.get arr' → arr'.size = sz → (∀ i ∈ ds', i < s'.h.next) → Q1 .normal t' ds' s'.h →
   POut P w0 s' sz b k cs Q X (lone (on b arr' (dls s' ds') (it::k)) cs s'.w)):POut P w0 s sz b k cs Q X m:=by
 obtain ⟨s',arr',ds',p1,p2,p3,p4,p5⟩:=h1
 rcases p5 with ⟨t',p,q,r⟩ | ⟨t',j,pre,p,q,q',r⟩ | ⟨tx,v,x,todo,p,q,qx,r⟩
 ·exact (hn s' arr' t' ds' p1 p2 q p3 p4 p).ext p2 |>.of_steps r
 ·refine ⟨s',arr',ds',p1,p2,p3,p4,.inr (.inl ⟨t',j,pre++[it],hj _ _ _ _ p,q,q'.snoc (fun id k _=>hit id k) fun l k _=>hgo l k,?_⟩)⟩
  rw [List.append_assoc]
  exact r
 ·exact ⟨s',arr',ds',p1,p2,p3,p4,.inr (.inr ⟨tx,v,x,todo,p,q,qx,r⟩)⟩
theorem roundOf_ext {s s':St} (h:Ext s s') (h8:∀ i,rnd=some i→i < s.h.next):rnd.map s'.e=rnd.map s.e:=by
 cases rnd with
 |none=>rfl
 |some i=>simp only [Option.map_some,h.e i (h8 i rfl)]
theorem PWP.seq {x y:Code} {t:T PV} {ds:List Nat} {h:PH} (hx:PWP P fi sz rnd x (PQ.then (fun t ds h=>PWP P fi sz rnd y Q X t ds h) Q) X t ds h):PWP P fi sz rnd (.seq x y) Q X t ds h:=by
 intro w0 s arr b k cs a1 a2 a3 a4 a5 a6 a7 a8 a9
 refine POut.of_steps (step_on (k':=.code x::.code y::k) a6 (by simp [stepG.exec,on])) ?_
 refine POut.bind (hx w0 s arr b (.code y::k) cs a1 a2 a3 a4 a5 a6 a7 a8 a9) (fun _ _=>rfl) (fun _ _=>rfl) (fun _ _ _ _ h=>h) ?_
 intro s' arr' t' ds' b1 b2 b3 b4 b5 b6
 exact b6 w0 s' arr' b k cs b1 rfl b3 b4 b5 a6 (a7.trans (roundOf_ext b2 a8).symm) (fun i hi=>Nat.lt_of_lt_of_le (a8 i hi) b2.next) a9
theorem ev_on {t:T PV} {arr:Array Value} {dl:List Deferred} {todo:List Item} (ht:TV s t.get arr) (x:Operand) (v:PV) (h:pev t.get x=some v):RV s v ((on b arr dl todo).eval x):=by
 have:=pev_ok (a:={ tmps:=arr,defers:=dl }) ht x v h
 cases x<;>exact this
theorem PWP.cond {c:Operand} {x y:Code} {t:T PV} {ds:List Nat} {h:PH} {q:Bool} (hc:pev t.get c=some (.lit (.bool q))) (hxy:PIf q (PWP P fi sz rnd x Q X t ds h) (PWP P fi sz rnd y Q X t ds h)):PWP P fi sz rnd (.cond c x y) Q X t ds h:=by
 intro w0 s arr b k cs a1 a2 a3 a4 a5 a6 a7 a8 a9
 have hv:=(RV_lit.1 (ev_on (b:=b) (dl:=dls s ds) (todo:=.code (.cond c x y)::k) a3 c _ hc)).2
 simp only [VR] at hv
 refine POut.of_steps (step_on (k':=.code (if q then x else y)::k) a6 ?_) ?_
 ·simp only [on] at hv
  simp [stepG.exec,on,hv]
 ·cases q with
  |true=>exact hxy w0 s arr b k cs a1 a2 a3 a4 a5 a6 a7 a8 a9
  |false=>exact hxy w0 s arr b k cs a1 a2 a3 a4 a5 a6 a7 a8 a9
def PQ.block (id:Nat) (Q:PQ):PQ:=fun e t ds h =>
 match e with
 |.normal=>Q .normal t ds h
 |.jump (.exit id')=>match Nat.beq id' id with
  |true=>Q .normal t ds h
  |false=>Q (.jump (.exit id')) t ds h
 |.jump j=>Q (.jump j) t ds h
theorem PWP.block {id:Nat} {c:Code} {t:T PV} {ds:List Nat} {h:PH} (hc:PWP P fi sz rnd c (PQ.block id Q) X t ds h):PWP P fi sz rnd (.block id c) Q X t ds h:=by
 intro w0 s arr b k cs a1 a2 a3 a4 a5 a6 a7 a8 a9
 refine POut.of_steps (step_on (k':=.code c::.inBlock id::k) a6 (by simp [stepG.exec,on])) ?_
 obtain ⟨s',arr',ds',p1,p2,p3,p4,p5⟩:=hc w0 s arr b (.inBlock id::k) cs a1 a2 a3 a4 a5 a6 a7 a8 a9
 refine ⟨s',arr',ds',p1,p2,p3,p4,?_⟩
 rcases p5 with ⟨t',p,q,r⟩ | ⟨t',j,pre,p,q,q',r⟩ | ⟨tx,v,x,todo,p,q,qx,r⟩
 ·exact .inl ⟨t',p,q,r.trans (step_on a6 (by simp [stepG.exec,on]))⟩
 ·have other:(∀ id',j=.exit id'→id'≠id)→Q (.jump j) t' ds' s'.h→Thru j (pre++[.inBlock id]):=by
   intro hne _
   refine q'.snoc (fun id' k e=>?_) fun _ _ _=>rfl
   have:=hne id' e
   simp only [exitTo]
   rw [if_neg (by simpa using this.symm)]
  by_cases hex:∃ id',j=.exit id'
  ·obtain ⟨id',rfl⟩:=hex
   simp only [PQ.block] at p
   split at p
   ·next hid =>
    have hid:=Nat.eq_of_beq_eq_true hid
    subst hid
    refine .inl ⟨t',p,q,r.trans (step_on a6 ?_)⟩
    have:exitTo id' (pre++.inBlock id'::k)=some k:=(q' _).trans (by simp [exitTo])
    simp [stepG.exec,on,this]
   ·next hid =>
    refine .inr (.inl ⟨t',.exit id',pre++[.inBlock id],p,q,other (fun i e=>?_) p,?_⟩)
    ·cases e
     intro hc
     subst hc
     simp at hid
    ·rw [List.append_assoc]
     exact r
  ·have p':Q (.jump j) t' ds' s'.h:=by
    cases j<;>first
     |exact p
     |exact absurd ⟨_,rfl⟩ hex
   refine .inr (.inl ⟨t',j,pre++[.inBlock id],p',q,other (fun i e=>absurd ⟨i,e⟩ hex) p',?_⟩)
   rw [List.append_assoc]
   exact r
 ·exact .inr (.inr ⟨tx,v,x,todo,p,q,qx,r⟩)
theorem PWP.loop {c:Code} (J:Nat→T PV→List Nat→PH→Prop) {n:Nat} {t:T PV} {ds:List Nat} {h:PH} (h0:J n t ds h)
  (round:∀ n t ds h,J n t ds h→PWP P fi sz rnd c (PQ.then (fun t' ds' h'=>∃ m,m < n∧J m t' ds' h') Q) X t ds h):PWP P fi sz rnd (.loop c) Q X t ds h:=by
 intro w0 s arr b k cs a1 a2 a3 a4 a5 a6 a7 a8 a9
 refine POut.of_steps (step_on (k':=.code c::.inLoop c::k) a6 (by simp [stepG.exec,on])) ?_
 induction n using Nat.strongRecOn generalizing s arr t ds h with
 |_ n ih =>
  refine POut.bind (round n t ds h h0 w0 s arr b (.inLoop c::k) cs a1 a2 a3 a4 a5 a6 a7 a8 a9) (fun _ _=>rfl) (fun _ _=>rfl) (fun _ _ _ _ h=>h) ?_
  intro s' arr' t' ds' b1 b2 b3 b4 b5 b6
  obtain ⟨m,hm,hJ⟩:=b6
  refine POut.of_steps (step_on (k':=.code c::.inLoop c::k) a6 (by simp [stepG.exec,on])) ?_
  exact ih m hm hJ s' arr' b1 rfl b3 b4 b5 (a7.trans (roundOf_ext b2 a8).symm) fun i hi=>Nat.lt_of_lt_of_le (a8 i hi) b2.next
theorem PWP.scope {c:Code} {t:T PV} {ds:List Nat} {h:PH} (hc:PWP P fi sz rnd c (fun e t ds h=>match e with
  |.jump (.goto _)=>False
  |e=>Q e t ds h) X t ds h):PWP P fi sz rnd (.scope c) Q X t ds h:=by
 intro w0 s arr b k cs a1 a2 a3 a4 a5 a6 a7 a8 a9
 refine POut.of_steps (step_on (k':=.code c::.inScope c::k) a6 (by simp [stepG.exec,on])) ?_
 obtain ⟨s',arr',ds',p1,p2,p3,p4,p5⟩:=hc w0 s arr b (.inScope c::k) cs a1 a2 a3 a4 a5 a6 a7 a8 a9
 refine ⟨s',arr',ds',p1,p2,p3,p4,?_⟩
 rcases p5 with ⟨t',p,q,r⟩ | ⟨t',j,pre,p,q,q',r⟩ | ⟨tx,v,x,todo,p,q,qx,r⟩
 ·exact .inl ⟨t',p,q,r.trans (step_on a6 (by simp [stepG.exec,on]))⟩
 ·have hng:∀ l,j≠.goto l:=by
   intro l e
   subst e
   exact p
  have p':Q (.jump j) t' ds' s'.h:=by
   cases j<;>first
    |exact p
    |exact absurd rfl (hng _)
  refine .inr (.inl ⟨t',j,pre++[.inScope c],p',q,q'.snoc (fun _ _ _=>rfl) (fun l _ e=>absurd e (hng l)),?_⟩)
  rw [List.append_assoc]
  exact r
 ·exact .inr (.inr ⟨tx,v,x,todo,p,q,qx,r⟩)
end
end Go.Pv
