/- Parts of the proof: Am19, Am20, Am21, Am22, Am23, Am24 -/
import Derived.Test.YtkjffpokogbjjaaGreatP3
set_option linter.unusedVariables false
set_option linter.unusedSimpArgs false
set_option linter.unusedSectionVars false
namespace Go.Am
open Go.RowKit
structure Lone where
 f:Frame
 ops:Array Oper
 i:Nat
 rest:List Nat
 k:List Item
 mode:f.mode=.run
def IR (m:Env):AItem→Item→Prop
 |.code c,i=>i=.code c
 |.inBlock id,i=>i=.inBlock id
 |.inLoop c,i=>i=.inLoop c
 |.inScope c,i=>i=.inScope c
 |.ops all rest,i=>∃ arr is,i=.inRegion arr is∧arr.toList=all∧is.map (fun j=>arr[j]?)=rest.map some
 |.inRF l,i=>∃ lc,m l=some lc∧i=.inRangeFunc lc.blk
 |.endRF l,i=>∃ lc,m l=some lc∧i=.endRangeFunc lc.blk
 |.beginRound,i=>i=.beginRound
 |.one _ _,_=>False
 |.don _,_=>False
def IRs (m:Env):List AItem→List Item→Prop
 |[],xs=>xs=[]
 |a::as,xs=>∃ y ys,xs=y::ys∧IR m a y∧IRs m as ys
def CR (m:Env):List (AV×Bool)→List PanicEntry→Prop
 |[],xs=>xs=[]
 |a::as,xs=>∃ y ys,xs=y::ys∧VR m a.1 y.v∧a.2=y.recovered∧y.goexit=false∧CR m as ys
def MR (m:Env):AMode→FrameMode→Prop
 |.run,x=>x=.run
 |.returning,x=>x=.returning
 |.panicking c,x=>∃ c',x=.panicking c'∧CR m c c'
def RR (m:Env):Option Nat→Option Nat→Prop
 |none,x=>x=none
 |some l,x=>∃ lc,m l=some lc∧x=some lc.blk
structure FrN (m:Env) (a:AFr) (f:Frame):Prop where
 fn:f.fn=a.fn
 tmps:TR m a.sz a.tmps f.tmps
 todo:IRs m a.todo f.todo
 defers:DRs m a.defers f.defers
 mode:MR m a.mode f.mode
 kind:f.kind=a.kind
 rnd:RR m a.rnd f.roundOf
structure FrL (Z:Lone) (m:Env) (a:AFr) (f:Frame):Prop where
 todo:(∃ o,a.todo=[.one Z.ops.toList o]∧Z.ops[Z.i]?=some o∧f={ Z.f with todo:=.inRegion Z.ops (Z.i::Z.rest)::Z.k }∧TR m a.sz a.tmps Z.f.tmps) ∨
  (∃ v x,a.todo=[.don v]∧VR m v x∧f=({ Z.f with todo:=.inRegion Z.ops (Z.i::Z.rest)::Z.k }:Frame).finish x)
 mode:a.mode=.run
 fn:Z.f.fn=a.fn
 kind:Z.f.kind=a.kind
 rnd:RR m a.rnd Z.f.roundOf
def FrR (Z:Option Lone) (m:Env) (a:AFr) (f:Frame):Prop :=
 FrN m a f∨∃ z,Z=some z∧FrL z m a f
def FrRs (Z:Option Lone) (m:Env):List AFr→List Frame→Prop
 |[],xs=>xs=[]
 |a::as,xs=>∃ y ys,xs=y::ys∧FrR Z m a y∧FrRs Z m as ys
section
variable {m m':Env} {Z:Option Lone}
theorem IR.mono (h:m.le m') {a:AItem} {i:Item} (e:IR m a i):IR m' a i:=by
 cases a<;>simp only [IR] at e ⊢<;>first
  |exact e
  |(obtain ⟨lc,h1,h2⟩:=e;exact ⟨lc,h _ _ h1,h2⟩)
theorem IRs.mono (h:m.le m'):∀ {a:List AItem} {i:List Item},IRs m a i→IRs m' a i
 |[],_,e=>e
 |_::_,_,⟨y,ys,h1,h2,h3⟩=>⟨y,ys,h1,h2.mono h,IRs.mono h h3⟩
theorem CR.mono (h:m.le m'):∀ {a:List (AV×Bool)} {i:List PanicEntry},CR m a i→CR m' a i
 |[],_,e=>e
 |_::_,_,⟨y,ys,h1,h2,h3,h4,h5⟩=>⟨y,ys,h1,VR.mono h _ _ h2,h3,h4,CR.mono h h5⟩
theorem MR.mono (h:m.le m') {a:AMode} {x:FrameMode} (e:MR m a x):MR m' a x:=by
 cases a with
 |run=>exact e
 |returning=>exact e
 |panicking c=>obtain ⟨c',h1,h2⟩:=e;exact ⟨c',h1,h2.mono h⟩
theorem RR.mono (h:m.le m') {a:Option Nat} {x:Option Nat} (e:RR m a x):RR m' a x:=by
 cases a with
 |none=>exact e
 |some l=>obtain ⟨lc,h1,h2⟩:=e;exact ⟨lc,h _ _ h1,h2⟩
theorem FrN.mono (h:m.le m') {a:AFr} {f:Frame} (e:FrN m a f):FrN m' a f :=
 ⟨e.fn,e.tmps.mono h,e.todo.mono h,e.defers.mono h,e.mode.mono h,e.kind,e.rnd.mono h⟩
theorem FrL.mono {z:Lone} (h:m.le m') {a:AFr} {f:Frame} (e:FrL z m a f):FrL z m' a f:=by
 refine ⟨?_,e.mode,e.fn,e.kind,e.rnd.mono h⟩
 rcases e.todo with ⟨o,h1,h2,h3,h4⟩ | ⟨v,x,h1,h2,h3⟩
 ·exact .inl ⟨o,h1,h2,h3,h4.mono h⟩
 ·exact .inr ⟨v,x,h1,VR.mono h _ _ h2,h3⟩
theorem FrR.mono (h:m.le m') {a:AFr} {f:Frame} (e:FrR Z m a f):FrR Z m' a f:=by
 rcases e with e | ⟨z,hz,e⟩
 ·exact .inl (e.mono h)
 ·exact .inr ⟨z,hz,e.mono h⟩
theorem FrRs.mono (h:m.le m'):∀ {a:List AFr} {f:List Frame},FrRs Z m a f→FrRs Z m' a f
 |[],_,e=>e
 |_::_,_,⟨y,ys,h1,h2,h3⟩=>⟨y,ys,h1,h2.mono h,FrRs.mono h h3⟩
theorem aexitTo_ok (id:Nat):∀ (a:List AItem) (i:List Item),IRs m a i →
  (∀ a',aexitTo id a=some a'→∃ i',exitTo id i=some i'∧IRs m a' i')∧(aexitTo id a=none→exitTo id i=none)
 |[],i,h=>by
  simp only [IRs] at h
  subst h
  exact ⟨fun a' e=>by simp [aexitTo] at e,fun _=>rfl⟩
 |x :: a, i, ⟨y, ys, h1, h2, h3⟩ => by
  subst h1
  have ih:=aexitTo_ok id a ys h3
  cases x<;>simp only [IR] at h2
  case inBlock id' =>
   subst h2
   simp only [aexitTo,exitTo]
   cases hb:Nat.beq id' id with
   |true =>
    have:id'=id:=Nat.eq_of_beq_eq_true hb
    subst this
    exact ⟨fun a' e=>by simp only [Option.some.injEq] at e;subst e;exact ⟨ys,by simp,h3⟩,fun e=>by simp at e⟩
   |false =>
    have hne:¬ id'=id:=fun e=>by subst e;simp at hb
    have hb':(id' == id)=false:=by simpa using hne
    simp only [hb',Bool.false_eq_true,if_false]
    exact ih
  case ops all rest =>
   obtain ⟨arr,is,rfl,_,_⟩:=h2
   exact ih
  case inRF l =>
   obtain ⟨lc,_,rfl⟩:=h2
   exact ih
  case endRF l =>
   obtain ⟨lc,_,rfl⟩:=h2
   exact ih
  all_goals
   subst h2
   exact ih
theorem agotoIn_ok (l:Nat):∀ (a:List AItem) (i:List Item),IRs m a i →
  (∀ a',agotoIn l a=some a'→∃ i',gotoIn l i=some i'∧IRs m a' i')∧(agotoIn l a=none→gotoIn l i=none)
 |[],i,h=>by
  simp only [IRs] at h
  subst h
  exact ⟨fun a' e=>by simp [agotoIn] at e,fun _=>rfl⟩
 |x :: a, i, ⟨y, ys, h1, h2, h3⟩ => by
  subst h1
  have ih:=agotoIn_ok l a ys h3
  cases x<;>simp only [IR] at h2
  case inScope body =>
   subst h2
   simp only [agotoIn,gotoIn]
   cases hb:findLabel body l with
   |some rest =>
    refine ⟨fun a' e=>?_,fun e=>by simp at e⟩
    simp only [Option.some.injEq] at e
    subst e
    exact ⟨_,rfl,_,_,rfl,rfl,_,_,rfl,rfl,h3⟩
   |none=>exact ih
  case ops all rest =>
   obtain ⟨arr,is,rfl,_,_⟩:=h2
   exact ih
  case inRF l =>
   obtain ⟨lc,_,rfl⟩:=h2
   exact ih
  case endRF l =>
   obtain ⟨lc,_,rfl⟩:=h2
   exact ih
  all_goals
   subst h2
   exact ih
theorem fin_ok {a a':AFr} {f:Frame} {v:AV} {x:Value} (h:FrR Z m a f) (e:a.fin v=some a') (hv:VR m v x):FrR Z m a' (f.finish x):=by
 rcases h with h | ⟨z,hz,h⟩
 ·left
  obtain ⟨fn,tmps,todo,defers,mode,kind,rnd⟩:=h
  unfold AFr.fin at e
  split at e
  ·next all o rest k ht =>
   rw [ht] at todo
   obtain ⟨y,ys,h1,⟨arr,is,rfl,h2,h3⟩,h4⟩:=todo
   cases is with
   |nil=>simp at h3
   |cons i is =>
    simp only [List.map_cons,List.cons.injEq] at h3
    obtain ⟨h3,h3'⟩:=h3
    have hIR:IRs m (.ops all rest::k) (.inRegion arr is::ys):=⟨_,_,rfl,⟨arr,is,rfl,h2,h3'⟩,h4⟩
    split at e
    ·next d hd =>
     split at e
     ·next hlt =>
      cases e
      have hlt':d < a.sz:=by
       have:d+1≤a.sz:=by simpa [Nat.blt,Nat.ble_eq] using hlt
       exact this
      have hf:f.finish x={ f with tmps:=f.tmps.setIfInBounds d x,todo:=.inRegion arr is::ys }:=by
       simp [Frame.finish,h1,h3,hd]
      rw [hf]
      exact ⟨fn,tmps.set hlt' hv,hIR,defers,mode,kind,rnd⟩
     ·cases e
    ·next hd =>
     cases e
     have hf:f.finish x={ f with todo:=.inRegion arr is::ys }:=by simp [Frame.finish,h1,h3,hd]
     rw [hf]
     exact ⟨fn,tmps,hIR,defers,mode,kind,rnd⟩
  ·next l k ht =>
   cases e
   rw [ht] at todo
   obtain ⟨y,ys,h1,⟨lc,h2,rfl⟩,h4⟩:=todo
   have hf:f.finish x={ f with todo:=.endRangeFunc lc.blk::ys }:=by simp [Frame.finish,h1]
   rw [hf]
   exact ⟨fn,tmps,⟨_,_,rfl,⟨lc,h2,rfl⟩,h4⟩,defers,mode,kind,rnd⟩
  ·next k ht =>
   cases e
   rw [ht] at todo
   obtain ⟨y,ys,h1,h2,h4⟩:=todo
   simp only [IR] at h2
   subst h2
   have hf:f.finish x={ f with todo:=ys }:=by simp [Frame.finish,h1]
   rw [hf]
   exact ⟨fn,tmps,h4,defers,mode,kind,rnd⟩
  ·next ht =>
   rw [ht] at todo
   obtain ⟨y,ys,h1,h2,h4⟩:=todo
   exact h2.elim
  ·cases e
 ·right
  refine ⟨z,hz,?_⟩
  rcases h.todo with ⟨o,h1,h2,h3,h4⟩ | ⟨v',x',h1,h2,h3⟩
  ·simp only [AFr.fin,h1,Option.some.injEq] at e
   subst e
   exact ⟨.inr ⟨v,x,rfl,hv,by rw [h3]⟩,h.mode,h.fn,h.kind,h.rnd⟩
  ·simp [AFr.fin,h1] at e
end
end Go.Am
namespace Go.Am
open Go.RowKit
section
variable {P:Program} {fr:Frame} {cs:List Frame} {w:World}
theorem stepG_run (h:fr.mode=.run):stepG P true { frame:=fr,callers:=cs,status:=.running,dying:=none } w=stepG.exec P true true fr cs none w:=by
 obtain ⟨fn,tmps,todo,defers,mode,kind,roundOf⟩:=fr
 simp only at h
 subst h
 simp [stepG]
theorem stepG_out (h:fr.mode≠.run):stepG P true { frame:=fr,callers:=cs,status:=.running,dying:=none } w=unwind P true fr cs none w:=by
 obtain ⟨fn,tmps,todo,defers,mode,kind,roundOf⟩:=fr
 simp only at h
 cases mode with
 |run=>exact absurd rfl h
 |returning=>simp [stepG]
 |panicking c=>simp [stepG]
theorem step_todo {k:List Item} (hm:fr.mode=.run) (h:stepG.exec P true true fr cs none w=.go { frame:={ fr with todo:=k },callers:=cs,status:=.running,dying:=none } w) :
  step P (lone fr cs w)=.next (lone { fr with todo:=k } cs w) :=
 step_lone_go (by rw [stepG_run hm,h];rfl)
theorem exec_leave_none (hr:fr.roundOf=none) (hm:fr.mode=.run) {k:List Item} (ht:fr.todo=[]∨fr.todo=.code .ret::k) :
  step P (lone fr cs w)=.next (lone { fr with mode:=.returning } cs w):=by
 refine step_lone_go ?_
 rw [stepG_run hm]
 rcases ht with ht | ht<;>simp [stepG.exec,ht,hr]
variable {s:Sem Next}
theorem apply_value {v:Value} {w':World} (hr:s.run P w=.ok (.value v) w') :
  (stepG.apply P true fr cs none s w).bare=.go { frame:=fr.finish v,callers:=cs,status:=.running,dying:=none } w':=by
 simp [stepG.apply,hr]
theorem apply_skip {w':World} (hr:s.run P w=.ok .skip w') :
  (stepG.apply P true fr cs none s w).bare=.go { frame:=fr.finish undef,callers:=cs,status:=.running,dying:=none } w':=by
 simp [stepG.apply,hr]
theorem apply_enter {f:FuncId} {xs:Array Value} {w':World} (hn:∀ d r sv k,fr.todo≠.call d true r sv::k) (hr:s.run P w=.ok (.enter f xs) w') :
  (stepG.apply P true fr cs none s w).bare=.go { frame:=Frame.enter P f xs .normal,callers:=fr::cs,status:=.running,dying:=none } w':=by
 have hk:(match fr.todo with | .call _ true _ _::_=>CallKind.wrapped | _=>CallKind.normal)=.normal:=by
  split
  ·next h=>exact absurd h (hn _ _ _ _)
  ·rfl
 simp only [stepG.apply,Sem.runT_eq,hr,if_true,GStep.bare_after,hk]
 rfl
theorem apply_round {l:Nat} {f:FuncId} {arr:Array Value} {asg body:Code} {w':World} (hr:s.run P w=.ok (.round l f arr asg body) w') :
  (stepG.apply P true fr cs none s w).bare=.go { frame:=Frame.round l f arr asg body .normal,callers:=fr::cs,status:=.running,dying:=none } w':=by
 simp [stepG.apply,hr]
theorem apply_defer {d:Deferred} {w':World} (hr:s.run P w=.ok (.defer d) w') :
  (stepG.apply P true fr cs none s w).bare=.go { frame:=({ fr with defers:=d::fr.defers }:Frame).finish undef,callers:=cs,status:=.running,dying:=none } w':=by
 simp [stepG.apply,hr]
theorem apply_recover (h0:fr.roundOf=none) {w':World} (hr:s.run P w=.ok .recover w') :
  (stepG.apply P true fr cs none s w).bare = match tryRecover fr cs with
   |some (v,cs')=>.go { frame:=fr.finish v,callers:=cs',status:=.running,dying:=none } w'
   |none=>.go { frame:=fr.finish .nilIface,callers:=cs,status:=.running,dying:=none } w':=by
 simp only [stepG.apply,Sem.runT_eq,hr,if_true,GStep.bare_after,h0]
 cases tryRecover fr cs with
 |none=>rfl
 |some x=>rfl
theorem apply_panic {v:Value} {w':World} (hr:s.run P w=.halt (.panic v) w') :
  (stepG.apply P true fr cs none s w).bare=.go { frame:=fr.raise [{ v,recovered:=false }],callers:=cs,status:=.running,dying:=none } w':=by
 simp [stepG.apply,hr]
theorem exec_op {ops:Array Oper} {i:Nat} {is:List Nat} {k:List Item} {o:Oper} (ht:fr.todo=.inRegion ops (i::is)::k) (ho:ops[i]?=some o)
  (hw:Region.wanted o (yielded ops fr.tmps)=true) (hd:fr.roundOf=none∨∀ c,o.op≠.defer c) :
  stepG.exec P true true fr cs none w=stepG.apply P true fr cs none (execOp fr.eval o) w:=by
 have hop:fr.oper?=some o:=by simp [Frame.oper?,ht,ho]
 simp only [stepG.exec,ht,ho,Option.map_some,Option.getD_some,hw,if_true,stepG.oper,hop]
 rcases hd with hd | hd
 ·rw [hd]
 ·split
  ·next l c h1 h2=>exact absurd h2 (hd c)
  ·rfl
theorem exec_unwanted {ops:Array Oper} {i:Nat} {is:List Nat} {k:List Item} {o:Oper} (ht:fr.todo=.inRegion ops (i::is)::k) (ho:ops[i]?=some o)
  (hw:Region.wanted o (yielded ops fr.tmps)=false) :
  stepG.exec P true true fr cs none w=.go { frame:=fr.finish undef,callers:=cs,status:=.running,dying:=none } w:=by
 simp [stepG.exec,ht,ho,hw]
end
section
variable {m:Env} {w:World} {A:AP} {P:Program} {E:Eqs} {B0:Prot} {w0:World} {H:Heap}
theorem enter_ok (hA:A.Ok P) {f:FuncId} {args:List AV} {kind:CallKind} {a:AFr} (h:AFr.enter A f args kind=some a) {xs:Array Value} (hx:VRs m args xs.toList) :
  FrN m a (Frame.enter P f xs kind):=by
 unfold AFr.enter at h
 split at h
 case h_2=>cases h
 next fn hfn =>
 split at h
 case h_2=>cases h
 next c hc =>
 cases h
 have hF:=hA.funcs f fn hfn
 have hl:xs.size=args.length:=by simpa using hx.length
 refine ⟨rfl,⟨?_,fun i v hi=>?_⟩,⟨_,_,rfl,by simp [IR,hF,hc],rfl⟩,rfl,rfl,rfl,rfl⟩
 ·simp [Frame.enter,hF,hl]
 ·rw [T.get_ofList] at hi
  split at hi
  ·next hlt =>
   rw [Nat.sub_zero] at hi
   obtain ⟨x,x1,x2⟩:=hx.get hi
   refine ⟨x,?_,x2⟩
   have hlt':i < xs.size:=by omega
   simp only [Frame.enter]
   rw [Array.getElem?_append_left hlt']
   simpa using x1
  ·simp [T.get_nil] at hi
theorem ev_ok {a:AFr} {f:Frame} (ht:TR m a.sz a.tmps f.tmps) (x:Operand) (v:AV) (h:a.ev x=some v):VR m v (f.eval x):=by
 cases x with
 |tmp t =>
  obtain ⟨y,y1,y2⟩:=ht.2 t v h
  simp only [Frame.eval,Array.getD_eq_getD_getElem?,y1,Option.getD_some]
  exact y2
 |const c=>exact ofValue_ok h
 |global g=>cases h
 |func g =>
  simp only [AFr.ev,Option.some.injEq] at h
  subst h
  simp only [VR,Frame.eval]
  exact ⟨_,_,rfl,by simp only [VRs],by simp only [VRs]⟩
theorem aguard_ok {all:List Oper} {ops:Array Oper} (hall:ops.toList=all) {sz:Nat} {t:T AV} {arr:Array Value} (ht:TR m sz t arr) {o:Oper} {b:Bool} (h:aguard all t o.guard=some b) :
  Region.wanted o (yielded ops arr)=b:=by
 unfold Region.wanted
 unfold aguard at h
 split at h
 ·next hg=>cases h;simp [hg]
 ·next j want hg =>
  simp only [hg]
  subst hall
  split at h
  ·next p hp =>
   have hp':ops[j]?=some p:=by simpa using hp
   split at h
   ·next d hd =>
    split at h
    ·next b' hb =>
     cases h
     obtain ⟨y,y1,y2⟩:=ht.2 d _ hb
     simp only [VR] at y2
     subst y2
     simp [yielded,hp',hd,y1]
    ·next v hv hb =>
     cases h
     obtain ⟨y,y1,y2⟩:=ht.2 d _ hb
     have:yielded ops arr j=none:=by
      simp only [yielded,hp',Option.bind_some,hd,y1]
      cases v<;>simp only [VR] at y2<;>first
       |exact absurd hb (hv _)
       |(subst y2;rfl)
       |(obtain ⟨l,_,rfl⟩:=y2;rfl)
       |(obtain ⟨l,rfl⟩:=y2;rfl)
       |(obtain ⟨l,p,c,_,rfl,_⟩:=y2;rfl)
       |(obtain ⟨x,y,rfl,_⟩:=y2;rfl)
       |(obtain ⟨x,rfl,_⟩:=y2;rfl)
       |(exact absurd rfl (hv _))
     simp [this]
    ·cases h
   ·next hd =>
    cases h
    simp [yielded,hp',hd]
  ·next hp =>
   cases h
   have hp':ops[j]?=none:=by simpa using hp
   simp [yielded,hp']
theorem acallFn_ok (hA:A.Ok P) {f:Fn} {cap args:List AV} {out:AOut} (e:acallFn A H f cap args=some out) {xc xa:Array Value} (h2:VRs m cap xc.toList) (hall:VRs m args xa.toList) :
  OutR B0 w0 m H w out ((invoke (.fn f xc) xa).run P w):=by
 unfold acallFn at e
 split at e
 ·next g =>
  simp only [invoke]
  refine acallFunc_ok hA e ?_
  simp only [Array.toList_append]
  exact hall.append h2
 ·next name =>
  split at e
  case h_2=>cases e
  next t v rest =>
  split at e
  case h_2=>cases e
  next g u hm =>
  simp only [VRs,VR] at hall
  obtain ⟨y0,ys,hy,⟨x,rfl,hx2⟩,hrest⟩:=hall
  obtain ⟨y,y1,_,y3⟩:=amethod_ok (w:=w) hA hm hx2 (P.types.size+99)
  have hex:(xa.extract 1 xa.size).toList=ys:=by
   rw [Array.toList_extract,List.extract_eq_take_drop,hy]
   have hsz:xa.size=ys.length+1:=by
    rw [← Array.length_toList,hy]
    rfl
   rw [hsz]
   simp
  have h0:xa[0]?=some (.iface t x):=by
   rw [← Array.getElem?_toList,hy]
   rfl
  have hcall:=acallFunc_ok (B0:=B0) (w0:=w0) (H:=H) (w:=w) hA e (xs:=#[y]++xa.extract 1 xa.size)
   (by rw [Array.toList_append,hex];simp only [List.cons_append,List.nil_append,VRs];exact ⟨y,_,rfl,y3,hrest⟩)
  simp only [invoke,h0,callMethod,Sem.run_bind,run_program,Result.andThen_ok]
  rw [show P.types.size+Made.depth=P.types.size+99+1 from rfl,y1]
  exact hcall
 ·cases e
theorem aresults_ok (hA:A.Ok P) (h:HR B0 w0 m H w) {sz:Nat} {t:T AV} {arr:Array Value} (ht:TR m sz t arr):∀ (rs:List ResultVar) (vs:List AV),aresults A H t rs=some vs →
  ∃ xs:List Value,(∀ f:ResultVar→Sem Value,(∀ t,f (.tmp t)=pure (arr.getD t undef))→(∀ a t,f (.cell a t)=(do loadVar t (← asAddr (arr.getD a undef))))→(rs.mapM f).run P w=.ok xs w)∧VRs m vs xs
 |[],vs,e=>by
  simp only [aresults,Option.some.injEq] at e
  subst e
  exact ⟨[],fun f _ _=>by simp,by simp only [VRs]⟩
 |r::rs,vs,e=>by
  simp only [aresults] at e
  split at e
  case h_2=>cases e
  next v hv =>
  split at e
  case h_2=>cases e
  next vs' hvs =>
  cases e
  obtain ⟨xs,x1,x2⟩:=aresults_ok hA h ht rs vs' hvs
  cases r with
  |tmp x =>
   obtain ⟨y,y1,y2⟩:=ht.2 x v hv
   refine ⟨y::xs,fun f h1 h2=>?_,by simp only [VRs];exact ⟨_,_,rfl,y2,x2⟩⟩
   have hg:arr.getD x undef=y:=by simp [Array.getD_eq_getD_getElem?,y1]
   simp only [List.mapM_cons,Sem.run_bind,h1,hg,Sem.run_pure,Result.andThen_ok,x1 f h1 h2]
  |cell a ty =>
   simp only [aresult] at hv
   split at hv
   case h_2=>cases hv
   next b o hb =>
   obtain ⟨y,y1,y2⟩:=ht.2 a _ hb
   simp only [VR] at y2
   obtain ⟨l,hl,rfl⟩:=y2
   obtain ⟨z,z1,z2⟩:=h.load hA hv hl
   refine ⟨z::xs,fun f h1 h2=>?_,by simp only [VRs];exact ⟨_,_,rfl,z2,x2⟩⟩
   have hg:arr.getD a undef=.pointer (some ⟨l.blk,o+l.sh,none⟩):=by simp [Array.getD_eq_getD_getElem?,y1]
   have has:asAddr (arr.getD a undef)=pure ⟨l.blk,o+l.sh,none⟩:=by rw [hg];rfl
   simp only [List.mapM_cons,Sem.run_bind,h2,has,Sem.run_pure,Result.andThen_ok,z1,x1 f h1 h2]
theorem results_ok (hA:A.Ok P) (h:HR B0 w0 m H w) {sz:Nat} {t:T AV} {arr:Array Value} (ht:TR m sz t arr) {fn:Func} {vs:List AV} (e:aresults A H t fn.results.toList=some vs) :
  ∃ x,(results fn arr).run P w=.ok x w∧VR m (aone vs) x:=by
 obtain ⟨xs,x1,x2⟩:=aresults_ok hA h ht _ _ e
 have hl:=x2.length
 refine ⟨if h:xs.toArray.size=1 then xs.toArray[0] else .tuple xs.toArray,?_,?_⟩
 ·unfold results
  rw [Array.mapM_eq_mapM_toList]
  simp only [Sem.run_bind,Sem.run_map]
  rw [x1 _ (fun _=>rfl) (fun _ _=>rfl)]
  rfl
 ·match vs,xs,x2,hl with
  |[],[],_,_=>simp [aone,VR,VRs]
  |[v],[x],x2,_ =>
   simp only [VRs] at x2
   obtain ⟨y,ys,e1,e2,e3⟩:=x2
   cases e1
   simpa [aone] using e2
  |v::v'::vs,x::x'::xs,x2,_ =>
   simp only [aone,List.size_toArray,List.length_cons]
   rw [dif_neg (by omega)]
   simp only [VR]
   exact ⟨_,rfl,x2⟩
end
end Go.Am
namespace Go.Am
open Go.RowKit
structure SR (B0:Prot) (w0:World) (Z:Option Lone) (m:Env) (S:ASt) (fr:Frame) (cs:List Frame) (w:World):Prop where
 fr:FrR Z m S.fr fr
 cs:FrRs Z m S.cs cs
 H:HR B0 w0 m S.H w
def Goal (B0:Prot) (w0:World) (Z:Option Lone) (P:Program) (base:List Frame) (m:Env) (S':ASt) (fr:Frame) (cs:List Frame) (w:World):Prop :=
 ∃ m' fr' cs' w',Steps P (lone fr (cs++base) w) (lone fr' (cs'++base) w')∧m.le m'∧SR B0 w0 Z m' S' fr' cs' w'
section
variable {m:Env} {w:World} {A:AP} {P:Program} {E:Eqs} {B0:Prot} {w0:World} {Z:Option Lone} {S S':ASt} {fr:Frame} {cs base:List Frame}
theorem Goal.one (h:∃ m' fr' cs' w',step P (lone fr (cs++base) w)=.next (lone fr' (cs'++base) w')∧m.le m'∧SR B0 w0 Z m' S' fr' cs' w'):Goal B0 w0 Z P base m S' fr cs w :=
 let ⟨m',fr',cs',w',h1,h2,h3⟩:=h
 ⟨m',fr',cs',w',.one h1,h2,h3⟩
theorem FrR.run (h:FrR Z m S.fr fr) (hm:S.fr.mode=.run):fr.mode=.run:=by
 rcases h with h | ⟨z,_,h⟩
 ·have:=h.mode
  rw [hm] at this
  exact this
 ·rcases h.todo with ⟨o,_,_,e,_⟩ | ⟨v,x,_,_,e⟩
  ·rw [e];exact z.mode
  ·rw [e]
   simp [Frame.finish,z.mode]
theorem FrR.out (h:FrR Z m S.fr fr) (hm:S.fr.mode≠.run):FrN m S.fr fr:=by
 rcases h with h | ⟨z,_,h⟩
 ·exact h
 ·exact absurd h.mode hm
theorem FrR.kind (h:FrR Z m S.fr fr):fr.kind=S.fr.kind:=by
 rcases h with h | ⟨z,_,h⟩
 ·exact h.kind
 ·rcases h.todo with ⟨o,_,_,e,_⟩ | ⟨v,x,_,_,e⟩
  ·rw [e];exact h.kind
  ·rw [e];simp [Frame.finish,h.kind]
theorem FrR.rnd (h:FrR Z m S.fr fr):RR m S.fr.rnd fr.roundOf:=by
 rcases h with h | ⟨z,_,h⟩
 ·exact h.rnd
 ·rcases h.todo with ⟨o,_,_,e,_⟩ | ⟨v,x,_,_,e⟩
  ·rw [e];exact h.rnd
  ·rw [e];simpa [Frame.finish] using h.rnd
theorem FrR.own {a:AFr} (h:FrR Z m a fr) (hl:a.lone=false):FrN m a fr:=by
 rcases h with h | ⟨z,_,h⟩
 ·exact h
 ·rcases h.todo with ⟨o,e,_⟩ | ⟨v,x,e,_⟩<;>simp [AFr.lone,e] at hl
theorem raise_ok {a:AFr} (h:FrN m a fr) {vs:List (AV×Bool)} {ps:List PanicEntry} (hv:CR m vs ps):FrN m (a.raise vs) (fr.raise ps):=by
 obtain ⟨h1,h2,h3,h4,h5,h6,h7⟩:=h
 unfold AFr.raise
 split
 ·next chain hm =>
  rw [hm] at h5
  obtain ⟨c',hc,hcr⟩:=h5
  have hf:fr.raise ps={ fr with mode:=.panicking (ps++c') }:=by simp [Frame.raise,hc]
  rw [hf]
  refine ⟨h1,h2,h3,h4,⟨_,rfl,?_⟩,h6,h7⟩
  clear hf hc
  induction vs generalizing ps with
  |nil=>simp only [CR] at hv;subst hv;exact hcr
  |cons v vs ih =>
   obtain ⟨y,ys,rfl,e1,e2,e3,e4⟩:=hv
   exact ⟨_,_,rfl,e1,e2,e3,ih e4⟩
 ·next hm =>
  have hf:fr.raise ps={ fr with mode:=.panicking ps }:=by
   unfold Frame.raise
   split
   ·next c hc =>
    cases hmm:a.mode with
    |run=>rw [hmm] at h5;rw [h5] at hc;cases hc
    |returning=>rw [hmm] at h5;rw [h5] at hc;cases hc
    |panicking d=>exact absurd hmm (hm d)
   ·rfl
  rw [hf]
  exact ⟨h1,h2,h3,h4,⟨_,rfl,hv⟩,h6,h7⟩
theorem aout_ok (hA:A.Ok P) (h:SR B0 w0 Z m S fr cs w) {out:AOut} (e:aout A S out=some S') (hrun:S.fr.mode=.run) {s:Sem Next}
  (hn:∀ d r sv k,fr.todo≠.call d true r sv::k)
  (hstep:stepG P true { frame:=fr,callers:=cs++base,status:=.running,dying:=none } w=stepG.apply P true fr (cs++base) none s w)
  (ho:OutR B0 w0 m S.H w out (s.run P w)):Goal B0 w0 Z P base m S' fr cs w:=by
 refine Goal.one ?_
 have hmode:=h.fr.run hrun
 cases out with
 |val v H =>
  simp only [aout] at e
  split at e
  case h_2=>cases e
  next fr' hf =>
  cases e
  obtain ⟨x,m',w',r1,r2,r3,r4⟩:=ho
  exact ⟨m',fr.finish x,cs,w',step_lone_go (by rw [hstep];exact apply_value r1),r2,fin_ok (h.fr.mono r2) hf r3,h.cs.mono r2,r4⟩
 |skip H =>
  simp only [aout] at e
  split at e
  case h_2=>cases e
  next fr' hf =>
  cases e
  obtain ⟨m',w',r1,r2,r3⟩:=ho
  exact ⟨m',fr.finish undef,cs,w',step_lone_go (by rw [hstep];exact apply_skip r1),r2,fin_ok (h.fr.mono r2) hf (by simp [VR,VRs,undef]),h.cs.mono r2,r3⟩
 |enter f args =>
  simp only [aout] at e
  split at e
  case h_2=>cases e
  next fr' hf =>
  cases e
  obtain ⟨xs,r1,r2⟩:=ho
  exact ⟨m,Frame.enter P f xs .normal,fr::cs,w,step_lone_go (by rw [hstep];exact apply_enter hn r1),m.le_refl,.inl (enter_ok hA hf r2),⟨_,_,rfl,h.fr,h.cs⟩,h.H⟩
 |round l fn sz tmps asg body =>
  simp only [aout,Option.some.injEq] at e
  subst e
  obtain ⟨lc,arr,k1,r1,k2⟩:=ho
  refine ⟨m,Frame.round lc.blk fn arr asg body .normal,fr::cs,w,step_lone_go (by rw [hstep];exact apply_round r1),m.le_refl,.inl ⟨rfl,k2,?_,rfl,rfl,rfl,⟨lc,k1,rfl⟩⟩,⟨_,_,rfl,h.fr,h.cs⟩,h.H⟩
  exact ⟨_,_,rfl,rfl,_,_,rfl,rfl,_,_,rfl,rfl,rfl⟩
 |defer d =>
  simp only [aout] at e
  split at e
  case h_2=>cases e
  next hr hl =>
  split at e
  case h_2=>cases e
  next fr' hf =>
  cases e
  obtain ⟨x,r1,r2⟩:=ho
  have hown:=h.fr.own hl
  have hN:FrN m { S.fr with defers:=d::S.fr.defers } { fr with defers:=x::fr.defers }:=⟨hown.fn,hown.tmps,hown.todo,⟨_,_,rfl,r2,hown.defers⟩,hown.mode,hown.kind,hown.rnd⟩
  exact ⟨m,_,cs,w,step_lone_go (by rw [hstep];exact apply_defer r1),m.le_refl,fin_ok (.inl hN) hf (by simp [VR,VRs,undef]),h.cs,h.H⟩
 |recover =>
  simp only [aout] at e
  split at e
  case h_2=>cases e
  next hr =>
  have hr0:fr.roundOf=none:=by
   have:=h.fr.rnd
   rw [hr] at this
   exact this
  have hk:=h.fr.kind
  split at e
  ·next hkind =>
   split at e
   case h_2=>cases e
   next fr' hf =>
   cases e
   have ht:tryRecover fr (cs++base)=none:=by
    rw [hkind] at hk
    unfold tryRecover
    rw [hk]
   refine ⟨m,fr.finish .nilIface,cs,w,step_lone_go ?_,m.le_refl,fin_ok h.fr hf (by simp only [VR]),h.cs,h.H⟩
   rw [hstep,apply_recover hr0 ho,ht]
  ·next hkind =>
   rw [hkind] at hk
   split at e
   ·cases e
   next c cs' hcs =>
   have hcs2:=h.cs
   rw [hcs] at hcs2
   obtain ⟨y,ys,rfl,q1,q2⟩:=hcs2
   split at e
   ·cases e
   ·next v older hcm =>
    split at e
    case h_2=>cases e
    next fr' hf =>
    cases e
    have hcN:FrN m c y:=by
     rcases q1 with q | ⟨z,_,q⟩
     ·exact q
     ·rw [q.mode] at hcm;cases hcm
    have hmd:=hcN.mode
    rw [hcm] at hmd
    obtain ⟨ch,hch,p,ps,rfl,p1,p2,p3,p4⟩:=hmd
    obtain ⟨pv,prec,pgo⟩:=p
    simp only at p1 p2 p3
    subst p2 p3
    have ht:tryRecover fr (y::ys++base)=some (pv,{ y with mode:=.panicking ({ v:=pv,recovered:=true }::ps) }::(ys++base)):=by
     unfold tryRecover
     simp [hk,hch]
    refine ⟨m,fr.finish pv,{ y with mode:=.panicking ({ v:=pv,recovered:=true }::ps) }::ys,w,step_lone_go ?_,m.le_refl,fin_ok h.fr hf p1,?_,h.H⟩
    ·rw [hstep,apply_recover hr0 ho,ht]
     rfl
    ·exact ⟨_,_,rfl,.inl ⟨hcN.fn,hcN.tmps,hcN.todo,hcN.defers,⟨_,rfl,_,_,rfl,p1,rfl,rfl,p4⟩,hcN.kind,hcN.rnd⟩,q2⟩
   ·next h1 h2 =>
    split at e
    case h_2=>cases e
    next fr' hf =>
    cases e
    have hcN:FrN m c y:=by
     rcases q1 with q | ⟨z,_,q⟩
     ·exact q
     ·exact absurd q.mode h1
    have ht:tryRecover fr (y::ys++base)=none:=by
     have hmd:=hcN.mode
     unfold tryRecover
     simp only [hk,List.cons_append]
     cases hcm:c.mode with
     |run=>exact absurd hcm h1
     |returning=>rw [hcm] at hmd;rw [hmd]
     |panicking chain =>
      rw [hcm] at hmd
      obtain ⟨ch,hch,hcr⟩:=hmd
      rw [hch]
      cases chain with
      |nil=>simp only [CR] at hcr;subst hcr;rfl
      |cons v vs =>
       obtain ⟨p,ps,rfl,p1,p2,p3,p4⟩:=hcr
       obtain ⟨v,b⟩:=v
       obtain ⟨pv,prec,pgo⟩:=p
       simp only at p1 p2 p3
       subst p2 p3
       cases b with
       |true=>rfl
       |false=>exact absurd hcm (h2 v vs)
    refine ⟨m,fr.finish .nilIface,y::ys,w,step_lone_go ?_,m.le_refl,fin_ok h.fr hf (by simp only [VR]),(by show FrRs Z m S.cs _;rw [hcs];exact ⟨_,_,rfl,q1,q2⟩),h.H⟩
    rw [hstep,apply_recover hr0 ho,ht]
  ·cases e
 |panic v =>
  simp only [aout] at e
  split at e
  case h_2=>cases e
  next hl =>
  cases e
  obtain ⟨x,r1,r2⟩:=ho
  exact ⟨m,_,cs,w,step_lone_go (by rw [hstep];exact apply_panic r1),m.le_refl,.inl (raise_ok (h.fr.own hl) ⟨_,_,rfl,r2,rfl,rfl,rfl⟩),h.cs,h.H⟩
end
end Go.Am
namespace Go.Am
open Go.RowKit
section
variable {m:Env} {w:World} {A:AP} {P:Program} {E:Eqs} {B0:Prot} {w0:World} {Z:Option Lone} {S S':ASt} {fr:Frame} {cs base:List Frame}
theorem adoReturn_ok (h:SR B0 w0 Z m S fr cs w) {v:AV} {x:Value} (hv:VR m v x) (e:adoReturn S v=some S') :
  ∃ fr' cs',doReturn P true fr (cs++base) none x w=.go { frame:=fr',callers:=cs'++base,status:=.running,dying:=none } w∧SR B0 w0 Z m S' fr' cs' w:=by
 have hk:=h.fr.kind
 unfold adoReturn at e
 split at e
 ·cases e
 next c cs' hcs =>
 have hcs2:=h.cs
 rw [hcs] at hcs2
 obtain ⟨y,ys,rfl,q1,q2⟩:=hcs2
 split at e
 ·next hkind =>
  split at e
  case h_2=>cases e
  next c' hf =>
  cases e
  refine ⟨y.finish x,ys,?_,fin_ok q1 hf hv,q2,h.H⟩
  simp [doReturn,hk,hkind]
 ·next hkind =>
  split at e
  ·cases e
  ·next v' older hcm =>
   cases e
   have hcN:FrN m c y:=by
    rcases q1 with q | ⟨z,_,q⟩
    ·exact q
    ·rw [q.mode] at hcm;cases hcm
   have hmd:=hcN.mode
   rw [hcm] at hmd
   obtain ⟨ch,hch,p,ps,rfl,p1,p2,p3,p4⟩:=hmd
   obtain ⟨pv,prec,pgo⟩:=p
   simp only at p1 p2 p3
   subst p2 p3
   have hdrop:ps.dropWhile (fun q=>!q.goexit)=[]:=by
    clear hch hcm
    induction older generalizing ps with
    |nil=>simp only [CR] at p4;subst p4;rfl
    |cons o os ih =>
     obtain ⟨q,qs,rfl,_,_,e3,e4⟩:=p4
     simp only [List.dropWhile_cons,e3,Bool.not_false,if_true]
     exact ih qs e4
   refine ⟨{ y with mode:=.returning },ys,?_,.inl ⟨hcN.fn,hcN.tmps,hcN.todo,hcN.defers,rfl,hcN.kind,hcN.rnd⟩,q2,h.H⟩
   simp only [doReturn,List.cons_append,hk,hkind,hch,hdrop]
  ·next h1 h2 =>
   cases e
   have hcN:FrN m c y:=by
    rcases q1 with q | ⟨z,_,q⟩
    ·exact q
    ·exact absurd q.mode h1
   refine ⟨y,ys,?_,q1,q2,h.H⟩
   have hmd:=hcN.mode
   simp only [doReturn,List.cons_append,hk,hkind]
   cases hcm:c.mode with
   |run=>exact absurd hcm h1
   |returning=>rw [hcm] at hmd;rw [hmd]
   |panicking chain =>
    rw [hcm] at hmd
    obtain ⟨ch,hch,hcr⟩:=hmd
    rw [hch]
    cases chain with
    |nil=>simp only [CR] at hcr;subst hcr;rfl
    |cons v vs =>
     obtain ⟨p,ps,rfl,p1,p2,p3,p4⟩:=hcr
     obtain ⟨v,b⟩:=v
     obtain ⟨pv,prec,pgo⟩:=p
     simp only at p1 p2 p3
     subst p2 p3
     cases b with
     |false=>rfl
     |true=>exact absurd hcm (h2 v vs)
 ·cases e
theorem exec_leave (hm:fr.mode=.run) {jump:Option Code} {k:List Item}
  (ht : (fr.todo = [] ∧ jump = none) ∨ (fr.todo = .code .ret :: k ∧ jump = some .ret) ∨ (∃ id, fr.todo = .code (.exit id) :: k ∧ jump = some (.exit id) ∧ exitTo id k = none) ∨
   (∃ l,fr.todo=.code (.goto l)::k∧jump=some (.goto l)∧gotoIn l k=none)) {l:Nat} (hr:fr.roundOf=some l) {v:Value} {w':World} (hrun:(Instr.endRound l jump).run P w=.ok v w') :
  (stepG P true { frame:=fr,callers:=cs,status:=.running,dying:=none } w).bare=(doReturn P true fr cs none v w').bare:=by
 rw [stepG_run hm]
 rcases ht with ⟨ht,rfl⟩ | ⟨ht,rfl⟩ | ⟨id,ht,rfl,hx⟩ | ⟨id,ht,rfl,hx⟩
 ·simp [stepG.exec,ht,hr,hrun]
 ·simp [stepG.exec,ht,hr,hrun]
 ·simp [stepG.exec,ht,hr,hrun,hx]
 ·simp [stepG.exec,ht,hr,hrun,hx]
theorem aleave_ok (h:SR B0 w0 Z m S fr cs w) (hrun:S.fr.mode=.run) {jump:Option Code} (e:aleave S jump=some S') (hown:FrN m S.fr fr) {k:List Item}
  (ht : (fr.todo = [] ∧ jump = none) ∨ (fr.todo = .code .ret :: k ∧ jump = some .ret) ∨ (∃ id, fr.todo = .code (.exit id) :: k ∧ jump = some (.exit id) ∧ exitTo id k = none) ∨
   (∃ l,fr.todo=.code (.goto l)::k∧jump=some (.goto l)∧gotoIn l k=none)):Goal B0 w0 Z P base m S' fr cs w:=by
 have hmode:=h.fr.run hrun
 have hrnd:=h.fr.rnd
 unfold aleave at e
 split at e
 ·next hr =>
  rw [hr] at hrnd
  have hr0:fr.roundOf=none:=hrnd
  have fin:(jump=none∨jump=some .ret)→S'={ S with fr:={ S.fr with mode:=.returning } }→Goal B0 w0 Z P base m S' fr cs w:=by
   intro hj hS
   subst hS
   refine Goal.one ⟨m,{ fr with mode:=.returning },cs,w,?_,m.le_refl,.inl ⟨hown.fn,hown.tmps,hown.todo,hown.defers,rfl,hown.kind,hown.rnd⟩,h.cs,h.H⟩
   refine exec_leave_none (k:=k) hr0 hmode ?_
   rcases ht with ⟨ht,_⟩ | ⟨ht,_⟩ | ⟨id,_,rfl,_⟩ | ⟨l,_,rfl,_⟩
   ·exact .inl ht
   ·exact .inr ht
   ·rcases hj with hj | hj<;>cases hj
   ·rcases hj with hj | hj<;>cases hj
  split at e
  ·cases e;exact fin (.inl rfl) rfl
  ·cases e;exact fin (.inr rfl) rfl
  ·cases e
 ·next l hr =>
  rw [hr] at hrnd
  obtain ⟨lc,hl,hr0⟩:=hrnd
  split at e
  case h_2=>cases e
  next st pend fn sz tmps ps asg body d hb =>
  obtain ⟨l1,k1,arr,ld,k2,k3,k4⟩:=h.H.blk l _ hb
  rw [hl] at k1
  cases k1
  have hH:=h.H.setObj (b':=.loop (if jump.isNone then .ready else .done) jump fn sz tmps ps asg body d) hb (by simp) (by simp) hl
   (o':=.loop { state:=if jump.isNone then .ready else .done,pending:=jump,fn,tmps:=arr,params:=ps,assign:=asg,body,defers:=ld.blk }) ⟨arr,ld,k2,rfl,k4⟩
  have hend:(Instr.endRound lc.blk jump).run P w=.ok (.bool jump.isNone) { w with heap:=w.heap.setIfInBounds lc.blk (.loop { state:=if jump.isNone then .ready else .done,pending:=jump,fn,tmps:=arr,params:=ps,assign:=asg,body,defers:=ld.blk }) }:=by
   simp [Instr.endRound,Instr.getLoop,getObj,setObj,Sem.run,k3]
  obtain ⟨fr',cs',r1,r2⟩:=adoReturn_ok (P:=P) (base:=base) (S:={ S with H:={ S.H with blks:=S.H.blks.set l (.loop (if jump.isNone then .ready else .done) jump fn sz tmps ps asg body d) } })
   (x:=.bool jump.isNone) ⟨h.fr,h.cs,hH⟩ (by simp only [VR]) e
  refine Goal.one ⟨m,fr',cs',_,step_lone_go ?_,m.le_refl,r2⟩
  rw [exec_leave hmode ht hr0 hend,r1]
  rfl
theorem resolve_yield {ρ:Operand→Value} {f:Operand} {fn:Fn} {xf xc:Array Value} (h:ρ f=.func fn xf xc) (V:Value) (w:World) :
  (do let d ← resolve ρ { callee:=.value f,args:=#[.const V],argTypes:=#[] } 0;invoke d.target d.args:Sem Next).run P w=(invoke (.fn fn xc) (xf++#[ρ (.const V)])).run P w:=by
 simp [resolve,h,Deferred.ofValue]
theorem arange_ok (hA:A.Ok P) (h:SR B0 w0 Z m S fr cs w) (hrun:S.fr.mode=.run) {f:Operand} {ps:Array Tmp} {asg body:Code} {ka:List AItem} {k:List Item} (e:arange A S f ps asg body ka=some S')
  (hown:FrN m S.fr fr) (ht:fr.todo=.code (.rangeFunc f ps asg body)::k) (hk:IRs m ka k):Goal B0 w0 Z P base m S' fr cs w:=by
 have hmode:=h.fr.run hrun
 unfold arange at e
 split at e
 case h_2=>cases e
 next fn first cap hf =>
 have hfv:=ev_ok hown.tmps _ _ hf
 simp only [VR] at hfv
 obtain ⟨xf,xc,hx,h1,h2⟩:=hfv
 simp only [] at e
 split at e
 ·next hr =>
  have hrnd:=h.fr.rnd
  rw [hr] at hrnd
  have hr0:fr.roundOf=none:=hrnd
  split at e
  case h_2=>cases e
  next g args hcall =>
  split at e
  case h_2=>cases e
  next fr' hfr' =>
  cases e
  have hH1:=h.H.alloc ⟨w.heap.size,0,0⟩ rfl (.dfr (some [])) (.deferred (some [])) ⟨[],rfl,rfl⟩ S.H.fams (.inr ⟨by simp,rfl⟩)
  have hle1:=h.H.le_ext ⟨w.heap.size,0,0⟩
  have hH2:=hH1.alloc ⟨(w.alloc (.deferred (some []))).heap.size,0,0⟩ rfl
   (.loop .ready none S.fr.fn S.fr.sz S.fr.tmps ps asg body S.H.next)
   (.loop { state:=.ready,pending:=none,fn:=fr.fn,tmps:=fr.tmps,params:=ps,assign:=asg,body,defers:=w.heap.size })
   ⟨fr.tmps,⟨w.heap.size,0,0⟩,by rw [Env.ext_ne _ _ (by simp)];exact Env.ext_self _ _ _,by rw [hown.fn],(hown.tmps.mono hle1).mono (hH1.le_ext _)⟩
   S.H.fams (.inr ⟨by simp,rfl⟩)
  have hle2:=hH1.le_ext ⟨(w.alloc (.deferred (some []))).heap.size,0,0⟩
  have hle:m.le ((m.ext S.H.next ⟨w.heap.size,0,0⟩).ext (S.H.next+1) ⟨(w.alloc (.deferred (some []))).heap.size,0,0⟩):=Env.le_trans hle1 hle2
  have hcall':=acallFn_ok (B0:=B0) (w0:=w0) (w:=(w.alloc (.deferred (some []))).alloc (.loop { state:=.ready,pending:=none,fn:=fr.fn,tmps:=fr.tmps,params:=ps,assign:=asg,body,defers:=w.heap.size }))
   (m:=(m.ext S.H.next ⟨w.heap.size,0,0⟩).ext (S.H.next+1) ⟨(w.alloc (.deferred (some []))).heap.size,0,0⟩) (P:=P) hA hcall
   (xc:=xc) (xa:=xf++#[.func (.yield (w.heap.size+1)) #[] #[]]) (VRs.mono hle _ _ h2)
   (by
    rw [Array.toList_append]
    refine (VRs.mono hle _ _ h1).append ?_
    simp only [VRs,VR]
    refine ⟨_,_,rfl,⟨_,Env.ext_self _ _ _,?_⟩,rfl⟩
    simp)
  obtain ⟨xs,r1,r2⟩:=hcall'
  refine Goal.one ⟨_,Frame.enter P g xs .normal,{ fr with todo:=.inRangeFunc (w.heap.size+1)::k,defers:={ target:=.collected w.heap.size,args:=#[] }::fr.defers }::cs,_,step_lone_go ?_,hle,.inl (enter_ok hA hfr' r2),⟨_,_,rfl,.inl ?_,h.cs.mono hle⟩,hH2⟩
  ·rw [stepG_run hmode]
   simp only [stepG.exec,ht]
   have hent:(Instr.enterLoop fr.fn fr.tmps ps asg body fr.roundOf).run P w=.ok (w.heap.size+1,[{ target:=.collected w.heap.size,args:=#[] }])
     ((w.alloc (.deferred (some []))).alloc (.loop { state:=.ready,pending:=none,fn:=fr.fn,tmps:=fr.tmps,params:=ps,assign:=asg,body,defers:=w.heap.size })):=by
    simp [Instr.enterLoop,hr0]
   simp only [Sem.runT_eq,hent,GStep.bare_after]
   have hev:(Frame.eval { fr with todo:=.inRangeFunc (w.heap.size+1)::k,defers:={ target:=.collected w.heap.size,args:=#[] }::fr.defers } f)=.func fn xf xc:=by
    rw [← hx]
    cases f<;>rfl
   refine apply_enter (fun d r sv k' hc=>by simp at hc) ?_
   exact (resolve_yield hev _ _).trans r1
  ·refine ⟨hown.fn,hown.tmps.mono hle,⟨_,_,rfl,⟨_,Env.ext_self _ _ _,by simp⟩,hk.mono hle⟩,⟨_,_,rfl,⟨⟨w.heap.size,0,0⟩,hle2 _ _ (Env.ext_self _ _ _),rfl⟩,hown.defers.mono hle⟩,hown.mode.mono hle,hown.kind,hown.rnd.mono hle⟩
 ·next l0 hr =>
  have hrnd:=h.fr.rnd
  rw [hr] at hrnd
  obtain ⟨lc0,hl0,hr0⟩:=hrnd
  split at e
  case h_2=>cases e
  next st0 pend0 fn0 sz0 tmps0 ps0 asg0 body0 d hb0 =>
  obtain ⟨l1,k1,arr0,ld,k2,k3,k4⟩:=h.H.blk l0 _ hb0
  rw [hl0] at k1
  cases k1
  split at e
  case h_2=>cases e
  next g args hcall =>
  split at e
  case h_2=>cases e
  next fr' hfr' =>
  cases e
  have hle:=h.H.le_ext ⟨w.heap.size,0,0⟩
  have hH2:=h.H.alloc ⟨w.heap.size,0,0⟩ rfl
   (.loop .ready none S.fr.fn S.fr.sz S.fr.tmps ps asg body d)
   (.loop { state:=.ready,pending:=none,fn:=fr.fn,tmps:=fr.tmps,params:=ps,assign:=asg,body,defers:=ld.blk })
   ⟨fr.tmps,ld,hle _ _ k2,by rw [hown.fn],hown.tmps.mono hle⟩
   S.H.fams (.inr ⟨by simp,rfl⟩)
  have hcall':=acallFn_ok (B0:=B0) (w0:=w0) (w:=w.alloc (.loop { state:=.ready,pending:=none,fn:=fr.fn,tmps:=fr.tmps,params:=ps,assign:=asg,body,defers:=ld.blk }))
   (m:=m.ext S.H.next ⟨w.heap.size,0,0⟩) (P:=P) hA hcall
   (xc:=xc) (xa:=xf++#[.func (.yield w.heap.size) #[] #[]]) (VRs.mono hle _ _ h2)
   (by
    rw [Array.toList_append]
    refine (VRs.mono hle _ _ h1).append ?_
    simp only [VRs,VR]
    exact ⟨_,_,rfl,⟨_,Env.ext_self _ _ _,rfl⟩,rfl⟩)
  obtain ⟨xs,r1,r2⟩:=hcall'
  refine Goal.one ⟨_,Frame.enter P g xs .normal,{ fr with todo:=.inRangeFunc w.heap.size::k,defers:=fr.defers }::cs,_,step_lone_go ?_,hle,.inl (enter_ok hA hfr' r2),⟨_,_,rfl,.inl ?_,h.cs.mono hle⟩,hH2⟩
  ·rw [stepG_run hmode]
   simp only [stepG.exec,ht]
   have hent:(Instr.enterLoop fr.fn fr.tmps ps asg body fr.roundOf).run P w=.ok (w.heap.size,[])
     (w.alloc (.loop { state:=.ready,pending:=none,fn:=fr.fn,tmps:=fr.tmps,params:=ps,assign:=asg,body,defers:=ld.blk })):=by
    simp [Instr.enterLoop,hr0,Instr.getLoop,getObj,Sem.run,k3]
   simp only [Sem.runT_eq,hent,GStep.bare_after]
   have hev:(Frame.eval { fr with todo:=.inRangeFunc w.heap.size::k,defers:=[]++fr.defers } f)=.func fn xf xc:=by
    rw [← hx]
    cases f<;>rfl
   refine apply_enter (fun d r sv k' hc=>by simp at hc) ?_
   exact (resolve_yield hev _ _).trans r1
  ·exact ⟨hown.fn,hown.tmps.mono hle,⟨_,_,rfl,⟨_,Env.ext_self _ _ _,rfl⟩,hk.mono hle⟩,hown.defers.mono hle,hown.mode.mono hle,hown.kind,hown.rnd.mono hle⟩
end
end Go.Am
namespace Go.Am
open Go.RowKit
def DSound (P:Program) (D:Drawer):Prop :=
 ∀ (B0:Prot) (w0:World) (m:Env) (H H':Heap) (w:World) (a:AFr) (f:Frame) (id:Nat) (ops:Array Oper) (t:T AV) (k:List Item) (cs:List Frame),D a ops H=some (t,H')→HR B0 w0 m H w→f.fn=a.fn→f.kind=a.kind→RR m a.rnd f.roundOf→f.mode=.run→TR m a.sz a.tmps f.tmps →
  ∃ m' w' arr,Steps P (lone { f with todo:=.code (.region id ops true)::k } cs w) (lone { f with tmps:=arr,todo:=k } cs w')∧m.le m'∧TR m' a.sz t arr∧HR B0 w0 m' H' w'
section
variable {m:Env} {w:World} {A:AP} {P:Program} {E:Eqs} {B0:Prot} {w0:World} {Z:Option Lone} {S S':ASt} {fr:Frame} {cs base:List Frame} {D:Drawer}
theorem todo_ok (h:SR B0 w0 Z m S fr cs w) (hrun:S.fr.mode=.run) (hown:FrN m S.fr fr) {ka:List AItem} {k:List Item} (hk:IRs m ka k)
  (hx:stepG.exec P true true fr (cs++base) none w=.go { frame:={ fr with todo:=k },callers:=cs++base,status:=.running,dying:=none } w) :
  Goal B0 w0 Z P base m { S with fr:={ S.fr with todo:=ka } } fr cs w :=
 Goal.one ⟨m,{ fr with todo:=k },cs,w,step_todo (h.fr.run hrun) hx,m.le_refl,.inl ⟨hown.fn,hown.tmps,hk,hown.defers,hown.mode,hown.kind,hown.rnd⟩,h.cs,h.H⟩
theorem acode_ok (hA:A.Ok P) (hD:DSound P D) (h:SR B0 w0 Z m S fr cs w) (hrun:S.fr.mode=.run) {c:Code} {ka:List AItem} {k:List Item} (hown:FrN m S.fr fr) (ht:fr.todo=.code c::k) (hk:IRs m ka k)
  (e:acode A D S ka c=some S'):Goal B0 w0 Z P base m S' fr cs w:=by
 have hmode:=h.fr.run hrun
 cases c with
 |skip =>
  simp only [acode,Option.some.injEq] at e
  subst e
  exact todo_ok h hrun hown hk (by simp [stepG.exec,ht])
 |label l =>
  simp only [acode,Option.some.injEq] at e
  subst e
  exact todo_ok h hrun hown hk (by simp [stepG.exec,ht])
 |ret =>
  simp only [acode] at e
  exact aleave_ok h hrun e hown (.inr (.inl ⟨ht,rfl⟩))
 |seq a b =>
  simp only [acode,Option.some.injEq] at e
  subst e
  exact todo_ok h hrun hown ⟨_,_,rfl,rfl,_,_,rfl,rfl,hk⟩ (by simp [stepG.exec,ht])
 |cond c a b =>
  simp only [acode] at e
  split at e
  ·next hc =>
   cases e
   have hcv:=ev_ok hown.tmps _ _ hc
   simp only [VR] at hcv
   exact todo_ok h hrun hown ⟨_,_,rfl,rfl,hk⟩ (by simp [stepG.exec,ht,hcv])
  ·next hc =>
   cases e
   have hcv:=ev_ok hown.tmps _ _ hc
   simp only [VR] at hcv
   exact todo_ok h hrun hown ⟨_,_,rfl,rfl,hk⟩ (by simp [stepG.exec,ht,hcv])
  ·cases e
 |block id body =>
  simp only [acode,Option.some.injEq] at e
  subst e
  exact todo_ok h hrun hown ⟨_,_,rfl,rfl,_,_,rfl,rfl,hk⟩ (by simp [stepG.exec,ht])
 |loop body =>
  simp only [acode,Option.some.injEq] at e
  subst e
  exact todo_ok h hrun hown ⟨_,_,rfl,rfl,_,_,rfl,rfl,hk⟩ (by simp [stepG.exec,ht])
 |scope body =>
  simp only [acode,Option.some.injEq] at e
  subst e
  exact todo_ok h hrun hown ⟨_,_,rfl,rfl,_,_,rfl,rfl,hk⟩ (by simp [stepG.exec,ht])
 |exit id =>
  simp only [acode] at e
  obtain ⟨x1,x2⟩:=aexitTo_ok id ka k hk
  split at e
  ·next k' hk' =>
   cases e
   obtain ⟨i',i1,i2⟩:=x1 _ hk'
   exact todo_ok h hrun hown i2 (by simp [stepG.exec,ht,i1])
  ·next hk'=>exact aleave_ok h hrun e hown (.inr (.inr (.inl ⟨id,ht,rfl,x2 hk'⟩)))
 |goto l =>
  simp only [acode] at e
  obtain ⟨x1,x2⟩:=agotoIn_ok l ka k hk
  split at e
  ·next k' hk' =>
   cases e
   obtain ⟨i',i1,i2⟩:=x1 _ hk'
   exact todo_ok h hrun hown i2 (by simp [stepG.exec,ht,i1])
  ·next hk'=>exact aleave_ok h hrun e hown (.inr (.inr (.inr ⟨l,ht,rfl,x2 hk'⟩)))
 |region id ops draw =>
  cases draw with
  |false =>
   simp only [acode,Option.some.injEq] at e
   subst e
   refine todo_ok h hrun hown (k:=.inRegion ops (List.range ops.size)::k) ⟨_,_,rfl,⟨ops,_,rfl,rfl,?_⟩,hk⟩ (by simp [stepG.exec,ht])
   apply List.ext_getElem?
   intro i
   simp only [List.getElem?_map,List.getElem?_range,Array.getElem?_toList]
   rcases Nat.lt_or_ge i ops.size with hi | hi
   ·rw [List.getElem?_range hi]
    simp [hi]
   ·rw [List.getElem?_eq_none (by simpa using hi)]
    simp [hi]
  |true =>
   simp only [acode] at e
   split at e
   case h_2=>cases e
   next t H' hd =>
   cases e
   obtain ⟨m',w',arr,s1,s2,s3,s4⟩:=hD B0 w0 m S.H H' w S.fr fr id ops t k (cs++base) hd h.H hown.fn hown.kind hown.rnd hmode hown.tmps
   have hfr:{ fr with todo:=.code (.region id ops true)::k }=fr:=by rw [← ht]
   rw [hfr] at s1
   exact ⟨m',_,cs,w',s1,s2,.inl ⟨hown.fn,s3,hk.mono s2,hown.defers.mono s2,hown.mode.mono s2,hown.kind,hown.rnd.mono s2⟩,h.cs.mono s2,s4⟩
 |rangeFunc f ps asg body=>exact arange_ok hA h hrun e hown ht hk
 |refuse why=>simp [acode] at e
theorem oper_ok (hA:A.Ok P) (hE:E.Ok P) (h:SR B0 w0 Z m S fr cs w) (hrun:S.fr.mode=.run) {all:List Oper} {ops:Array Oper} (hall:ops.toList=all) {o:Oper} {i:Nat} {is:List Nat} {k:List Item}
  (ht:fr.todo=.inRegion ops (i::is)::k) (ho:ops[i]?=some o) (hT:TR m S.fr.sz S.fr.tmps fr.tmps)
  (e : (match aguard all S.fr.tmps o.guard with
   |some true=>match aop A E S.H S.fr.ev o with
    |some out=>aout A S out
    |none=>none
   |some false=>match S.fr.fin (.tup []) with
    |some fr=>some { S with fr }
    |none=>none
   |none=>none)=some S'):Goal B0 w0 Z P base m S' fr cs w:=by
 have hmode:=h.fr.run hrun
 split at e
 ·next hg =>
  split at e
  case h_2=>cases e
  next out hout =>
  have hw:=aguard_ok hall hT hg
  have hO:=aop_ok hA hE h.H (ev_ok hT) hout
  have hdef:fr.roundOf=none∨∀ c,o.op≠.defer c:=by
   by_cases hd:∃ c,o.op=.defer c
   ·obtain ⟨c,hd⟩:=hd
    left
    have hout':∃ d,out=.defer d:=by
     unfold aop at hout
     simp only [hd] at hout
     split at hout
     case h_2=>cases hout
     split at hout
     case h_2=>cases hout
     cases hout
     exact ⟨_,rfl⟩
    obtain ⟨d,rfl⟩:=hout'
    simp only [aout] at e
    split at e
    case h_2=>cases e
    next hr _ =>
    have:=h.fr.rnd
    rw [hr] at this
    exact this
   ·exact .inr fun c hc=>hd ⟨c,hc⟩
  exact aout_ok hA h e hrun (s:=execOp fr.eval o) (fun d r sv k' hc=>by rw [ht] at hc;cases hc)
   (by rw [stepG_run hmode];exact exec_op ht ho hw hdef) hO
 ·next hg =>
  split at e
  case h_2=>cases e
  next fr' hf =>
  cases e
  have hw:=aguard_ok hall hT hg
  exact Goal.one ⟨m,fr.finish undef,cs,w,step_lone_go (by rw [stepG_run hmode,exec_unwanted ht ho hw];rfl),m.le_refl,fin_ok h.fr hf (by simp [VR,VRs,undef]),h.cs,h.H⟩
 ·cases e
theorem arun1_ok (hA:A.Ok P) (hE:E.Ok P) (hD:DSound P D) (h:SR B0 w0 Z m S fr cs w) (hrun:S.fr.mode=.run) (e:arun1 A E D S=some S'):Goal B0 w0 Z P base m S' fr cs w:=by
 have hmode:=h.fr.run hrun
 have own:∀ {x:AItem} {l:List AItem},S.fr.todo=x::l→(∀ a o,x≠.one a o)→(∀ v,x≠.don v)→FrN m S.fr fr:=by
  intro x l hx h1 h2
  refine h.fr.own ?_
  unfold AFr.lone
  split
  ·next a o r hr=>rw [hx] at hr;cases hr;exact absurd rfl (h1 _ _)
  ·next v r hr=>rw [hx] at hr;cases hr;exact absurd rfl (h2 _)
  ·rfl
 unfold arun1 at e
 split at e
 ·next ht =>
  have hown:FrN m S.fr fr:=h.fr.own (by simp [AFr.lone,ht])
  have htd:=hown.todo
  rw [ht] at htd
  exact aleave_ok h hrun e hown (k:=[]) (.inl ⟨htd,rfl⟩)
 ·next c k ht =>
  have hown:=own ht (by simp) (by simp)
  have htd:=hown.todo
  rw [ht] at htd
  obtain ⟨y,ys,h1,h2,h3⟩:=htd
  simp only [IR] at h2
  subst h2
  exact acode_ok hA hD h hrun hown h1 h3 e
 ·next id k ht =>
  have hown:=own ht (by simp) (by simp)
  have htd:=hown.todo
  rw [ht] at htd
  obtain ⟨y,ys,h1,h2,h3⟩:=htd
  simp only [IR] at h2
  subst h2
  cases e
  exact todo_ok h hrun hown h3 (by simp [stepG.exec,h1])
 ·next c k ht =>
  have hown:=own ht (by simp) (by simp)
  have htd:=hown.todo
  rw [ht] at htd
  obtain ⟨y,ys,h1,h2,h3⟩:=htd
  simp only [IR] at h2
  subst h2
  cases e
  exact todo_ok h hrun hown h3 (by simp [stepG.exec,h1])
 ·next c k ht =>
  have hown:=own ht (by simp) (by simp)
  have htd:=hown.todo
  rw [ht] at htd
  obtain ⟨y,ys,h1,h2,h3⟩:=htd
  simp only [IR] at h2
  subst h2
  cases e
  exact todo_ok h hrun hown ⟨_,_,rfl,rfl,_,_,rfl,rfl,h3⟩ (by simp [stepG.exec,h1])
 ·next all k ht =>
  have hown:=own ht (by simp) (by simp)
  have htd:=hown.todo
  rw [ht] at htd
  obtain ⟨y,ys,h1,⟨arr,is,rfl,h2,h4⟩,h3⟩:=htd
  have his:is=[]:=by simpa using h4
  subst his
  cases e
  exact todo_ok h hrun hown h3 (by simp [stepG.exec,h1])
 ·next all o rest k ht =>
  have hown:=own ht (by simp) (by simp)
  have htd:=hown.todo
  rw [ht] at htd
  obtain ⟨y,ys,h1,⟨arr,is,rfl,h2,h4⟩,h3⟩:=htd
  cases is with
  |nil=>simp at h4
  |cons i is =>
   simp only [List.map_cons,List.cons.injEq] at h4
   exact oper_ok hA hE h hrun h2 h1 h4.1 hown.tmps e
 ·next all o k ht =>
  rcases h.fr with hN | ⟨z,hz,hL⟩
  ·have htd:=hN.todo
   rw [ht] at htd
   obtain ⟨y,ys,h1,h2,h3⟩:=htd
   exact h2.elim
  ·rcases hL.todo with ⟨o',t1,t2,t3,t4⟩ | ⟨v,x,t1,_⟩
   ·rw [ht] at t1
    cases t1
    refine oper_ok hA hE h hrun rfl (ops:=z.ops) (i:=z.i) (is:=z.rest) (k:=z.k) ?_ t2 ?_ e
    ·rw [t3]
    ·rw [t3];exact t4
   ·rw [ht] at t1
    cases t1
 ·cases e
 ·cases e
 ·next l k ht =>
  have hown:=own ht (by simp) (by simp)
  have htd:=hown.todo
  rw [ht] at htd
  obtain ⟨y,ys,h1,⟨lc,hl,rfl⟩,h3⟩:=htd
  split at e
  case h_2=>cases e
  next st pend fn sz tmps ps asg body d hb =>
  obtain ⟨l1,k1,arr,ld,k2,k3,k4⟩:=h.H.blk l _ hb
  rw [hl] at k1
  cases k1
  have hH:=h.H.setObj (b':=.loop .exhausted pend fn sz tmps ps asg body d) hb (by simp) (by simp) hl
   (o':=.loop { state:=.exhausted,pending:=pend,fn,tmps:=arr,params:=ps,assign:=asg,body,defers:=ld.blk }) ⟨arr,ld,k2,rfl,k4⟩
  have go:st≠.busy→∀ ka k',IRs m ka k'→(pend.map Item.code).toList++ys=k' →
    Goal B0 w0 Z P base m { S with fr:={ S.fr with todo:=ka },H:={ S.H with blks:=S.H.blks.set l (.loop .exhausted pend fn sz tmps ps asg body d) } } fr cs w:=by
   intro hst ka k' hk hke
   refine Goal.one ⟨m,{ fr with todo:=k' },cs,_,step_lone_go ?_,m.le_refl,.inl ⟨hown.fn,hown.tmps,hk,hown.defers,hown.mode,hown.kind,hown.rnd⟩,h.cs,hH⟩
   have hend:(Instr.endLoop lc.blk).run P w=.ok pend { w with heap:=w.heap.setIfInBounds lc.blk (.loop { state:=.exhausted,pending:=pend,fn,tmps:=arr,params:=ps,assign:=asg,body,defers:=ld.blk }) }:=by
    simp [Instr.endLoop,Instr.getLoop,getObj,setObj,Sem.run,k3,hst]
   rw [stepG_run hmode]
   subst hke
   simp [stepG.exec,h1,hend]
  split at e
  ·cases e
  ·next hst =>
   have hst':st≠.busy:=fun hc=>hst hc
   split at e
   ·next c=>cases e;exact go hst' _ _ ⟨_,_,rfl,rfl,h3⟩ rfl
   ·cases e;exact go hst' _ _ h3 rfl
 ·next k ht =>
  have hown:=own ht (by simp) (by simp)
  have htd:=hown.todo
  rw [ht] at htd
  obtain ⟨y,ys,h1,h2,h3⟩:=htd
  simp only [IR] at h2
  subst h2
  have hrnd:=h.fr.rnd
  split at e
  case h_2=>cases e
  next l hr =>
  rw [hr] at hrnd
  obtain ⟨lc,hl,hr0⟩:=hrnd
  split at e
  case h_2=>cases e
  next pend fn sz tmps ps asg body d hb =>
  cases e
  obtain ⟨l1,k1,arr,ld,k2,k3,k4⟩:=h.H.blk l _ hb
  rw [hl] at k1
  cases k1
  have hH:=h.H.setObj (b':=.loop .busy pend fn sz tmps ps asg body d) hb (by simp) (by simp) hl
   (o':=.loop { state:=.busy,pending:=pend,fn,tmps:=arr,params:=ps,assign:=asg,body,defers:=ld.blk }) ⟨arr,ld,k2,rfl,k4⟩
  refine Goal.one ⟨m,{ fr with todo:=ys },cs,_,step_lone_go ?_,m.le_refl,.inl ⟨hown.fn,hown.tmps,h3,hown.defers,hown.mode,hown.kind,hown.rnd⟩,h.cs,hH⟩
  have hbeg : (do fr.roundOf.elim (stuck "beginRound: no round") Instr.beginRound; pure .skip : Sem Next).run P w = .ok .skip { w with heap := w.heap.setIfInBounds lc.blk (.loop { state := .busy, pending := pend, fn, tmps := arr, params := ps, assign := asg, body, defers := ld.blk }) } := by
   simp [hr0,Instr.beginRound,Instr.getLoop,getObj,setObj,Sem.run,k3]
  have hfin:fr.finish undef={ fr with todo:=ys }:=by simp [Frame.finish,h1]
  rw [stepG_run hmode,← hfin]
  simp only [stepG.exec,h1]
  exact apply_skip hbeg
theorem aunwind_ok (hA:A.Ok P) (h:SR B0 w0 Z m S fr cs w) (hrun:S.fr.mode≠.run) (e:aunwind A S=some S'):Goal B0 w0 Z P base m S' fr cs w:=by
 have hown:=h.fr.out hrun
 have hmode:fr.mode≠.run:=by
  have:=hown.mode
  intro hc
  rw [hc] at this
  cases hm:S.fr.mode with
  |run=>exact hrun hm
  |returning=>rw [hm] at this;cases this
  |panicking c=>rw [hm] at this;obtain ⟨c',h1,_⟩:=this;cases h1
 have hdef:=hown.defers
 unfold aunwind at e
 split at e
 ·next b ds hd =>
  rw [hd] at hdef
  obtain ⟨y,ys,h1,⟨lc,hl,rfl⟩,h3⟩:=hdef
  split at e
  case h_2=>cases e
  next calls hb =>
  cases e
  obtain ⟨l1,k1,xs,k2,k3⟩:=h.H.blk b _ hb
  rw [hl] at k1
  cases k1
  have hH:=h.H.setObj (b':=.dfr none) hb (by simp) (by simp) hl (o':=.deferred none) rfl
  have hds:DRs m (calls++ds) (xs++ys):=by
   clear hb k2 hH
   induction calls generalizing xs with
   |nil=>simp only [DRs] at k3;subst k3;exact h3
   |cons c cs ih =>
    obtain ⟨z,zs,rfl,e1,e2⟩:=k3
    exact ⟨_,_,rfl,e1,ih zs e2⟩
  refine Goal.one ⟨m,{ fr with defers:=xs++ys },cs,_,step_lone_go ?_,m.le_refl,.inl ⟨hown.fn,hown.tmps,hown.todo,hds,hown.mode,hown.kind,hown.rnd⟩,h.cs,hH⟩
  have htake:(Instr.takeDeferred lc.blk).run P w=.ok xs { w with heap:=w.heap.setIfInBounds lc.blk (.deferred none) }:=by
   simp [Instr.takeDeferred,getObj,setObj,Sem.run,k2]
  rw [stepG_out hmode]
  simp [unwind,h1,htake]
 ·next f cap args ds hd =>
  rw [hd] at hdef
  obtain ⟨y,ys,h1,⟨c,a,rfl,h2,h2'⟩,h3⟩:=hdef
  split at e
  case h_2=>cases e
  next g xs hcall =>
  split at e
  case h_2=>cases e
  next fr' hf =>
  cases e
  obtain ⟨vs,r1,r2⟩:=acallFn_ok (B0:=B0) (w0:=w0) (H:=S.H) (w:=w) (m:=m) (P:=P) hA hcall h2 h2'
  refine Goal.one ⟨m,Frame.enter P g vs .deferred,{ fr with defers:=ys }::cs,w,step_lone_go ?_,m.le_refl,.inl (enter_ok hA hf r2),⟨_,_,rfl,.inl ⟨hown.fn,hown.tmps,hown.todo,h3,hown.mode,hown.kind,hown.rnd⟩,h.cs⟩,h.H⟩
  rw [stepG_out hmode]
  simp [unwind,h1,callDeferred,r1]
 ·next hd =>
  rw [hd] at hdef
  have hd0:fr.defers=[]:=hdef
  split at e
  ·cases e
  ·next chain hm =>
   split at e
   case h_2=>cases e
   next c cs' fn hcs hfn =>
   split at e
   case h_2=>cases e
   next hl =>
   cases e
   have hcs2:=h.cs
   rw [hcs] at hcs2
   obtain ⟨y,ys,rfl,q1,q2⟩:=hcs2
   have hmd:=hown.mode
   rw [hm] at hmd
   obtain ⟨ch,hch,hcr⟩:=hmd
   have hF:=hA.funcs _ _ hfn
   rw [← hown.fn] at hF
   refine Goal.one ⟨m,y.raise ch,ys,w,step_lone_go ?_,m.le_refl,.inl (raise_ok (q1.own hl) hcr),q2,h.H⟩
   rw [stepG_out hmode]
   simp [unwind,hd0,hch,Frame.catches,hF]
  ·next hm =>
   have hmd:=hown.mode
   rw [hm] at hmd
   have hmd':fr.mode=.returning:=hmd
   split at e
   case h_2=>cases e
   next fn hfn =>
   split at e
   case h_2=>cases e
   next vs hvs =>
   have hF:=hA.funcs _ _ hfn
   rw [← hown.fn] at hF
   obtain ⟨x,x1,x2⟩:=results_ok hA h.H hown.tmps hvs
   obtain ⟨fr',cs',r1,r2⟩:=adoReturn_ok (P:=P) (base:=base) h x2 e
   refine Goal.one ⟨m,fr',cs',w,step_lone_go ?_,m.le_refl,r2⟩
   rw [stepG_out hmode]
   simp [unwind,hd0,hmd',hF,x1,r1]
theorem astep_ok (hA:A.Ok P) (hE:E.Ok P) (hD:DSound P D) (h:SR B0 w0 Z m S fr cs w) (e:astep A E D S=some S'):Goal B0 w0 Z P base m S' fr cs w:=by
 unfold astep at e
 split at e
 ·next hm=>exact arun1_ok hA hE hD h hm e
 ·next hm=>exact aunwind_ok hA h (by rw [hm];simp) e
 ·next c hm=>exact aunwind_ok hA h (by rw [hm];simp) e
end
end Go.Am
namespace Go.Am
open Go.RowKit
theorem get_restr (t:T AV):∀ (l:List Tmp) (x:Nat),(restr t l).get x=if x∈l then t.get x else none
 |[],x=>by simp [restr,T.get_nil]
 |y :: l, x => by
  simp only [restr]
  cases hy:t.get y with
  |none =>
   simp only [get_restr t l x,List.mem_cons]
   by_cases hxy:x=y
   ·subst hxy
    simp [hy]
   ·simp [hxy]
  |some v =>
   simp only [T.get_set,get_restr t l x,List.mem_cons]
   by_cases hxy:x=y
   ·subst hxy
    simp [hy]
   ·simp [hxy]
theorem restr_congr {t t':T AV}:∀ (l:List Tmp),(∀ x∈l,t.get x=t'.get x)→restr t l=restr t' l
 |[],_=>rfl
 |y::l,h=>by
  simp only [restr,h y (by simp),restr_congr l fun x hx=>h x (by simp [hx])]
def anc (an:T Nat) (i:Nat):Nat:=(an.get i).getD 0
theorem bit_ancOf (look:T Nat) (j:Nat):∀ (es:List Edge) (s:Nat),(ancOf look es s).testBit j=true ↔
  s.testBit j=true∨∃ e∈es,Region.binds .any e=true∧(j=e.on∨(anc look e.on).testBit j=true)
 |[],s=>by simp [ancOf]
 |e :: es, s => by
  simp only [ancOf]
  cases hb:Region.binds .any e with
  |true =>
   simp only [bit_ancOf look j es,Nat.testBit_or,Bool.or_eq_true,Nat.one_shiftLeft,Nat.testBit_two_pow,decide_eq_true_eq,List.mem_cons]
   constructor
   ·rintro ((h | h) | h)
    ·rcases h with h | h
     ·exact .inl h
     ·exact .inr ⟨e,.inl rfl,hb,.inl h.symm⟩
    ·exact .inr ⟨e,.inl rfl,hb,.inr h⟩
    ·obtain ⟨e',h1,h2⟩:=h
     exact .inr ⟨e',.inr h1,h2⟩
   ·rintro (h | ⟨e',h1 | h1,h2,h3⟩)
    ·exact .inl (.inl (.inl h))
    ·subst h1
     rcases h3 with h3 | h3
     ·exact .inl (.inl (.inr h3.symm))
     ·exact .inl (.inr h3)
    ·exact .inr ⟨e',h1,h2,h3⟩
  |false =>
   simp only [bit_ancOf look j es,List.mem_cons]
   constructor
   ·rintro (h | ⟨e',h1,h2⟩)
    ·exact .inl h
    ·exact .inr ⟨e',.inr h1,h2⟩
   ·rintro (h | ⟨e',h1 | h1,h2,h3⟩)
    ·exact .inl h
    ·subst h1
     rw [hb] at h2
     cases h2
    ·exact .inr ⟨e',h1,h2,h3⟩
theorem edges_spec:∀ (os:List Oper) (i:Nat),edgesOk os i=true→∀ j o,os[j]?=some o→∀ e∈o.after.toList,Region.binds .any e=true→e.on < i+j
 |[],_,_,j,o,h=>by simp at h
 |x::os,i,hk,j,o,h=>by
  simp only [edgesOk] at hk
  split at hk
  case h_2=>cases hk
  next hx =>
  cases j with
  |zero =>
   simp at h
   subst h
   intro e he hb
   have:=List.all_eq_true.1 hx e he
   simp only [hb,Bool.not_true,Bool.false_or,Nat.blt,Nat.ble_eq] at this
   exact this
  |succ j =>
   intro e he hb
   have:=edges_spec os (i+1) hk j o (by simpa using h) e he hb
   omega
theorem ancOf_congr {look look':T Nat}:∀ (es:List Edge) (s:Nat),(∀ e∈es,Region.binds .any e=true→look.get e.on=look'.get e.on)→ancOf look es s=ancOf look' es s
 |[],_,_=>rfl
 |e::es,s,h=>by
  have ih:=fun s=>ancOf_congr es s fun e' he=>h e' (by simp [he])
  simp only [ancOf]
  cases hb:Region.binds .any e with
  |true=>simp only [h e (by simp) hb,ih]
  |false=>simp only [ih]
theorem ancs_spec:∀ (os:List Oper) (i:Nat) (t:T Nat),edgesOk os i=true →
  (∀ x,x < i→(ancs os i t).get x=t.get x)∧∀ j o,os[j]?=some o→(ancs os i t).get (i+j)=some (ancOf (ancs os i t) o.after.toList 0)
 |[],_,_,_=>⟨fun _ _=>rfl,fun j o h=>by simp at h⟩
 |x :: os, i, t, hk => by
  have hes:=edges_spec (x::os) i hk
  have hk':=hk
  simp only [edgesOk] at hk
  split at hk
  case h_2=>cases hk
  obtain ⟨h1,h2⟩:=ancs_spec os (i+1) (t.set i (ancOf t x.after.toList 0)) hk
  simp only [ancs]
  refine ⟨fun y hy=>?_,fun j o h=>?_⟩
  ·rw [h1 y (by omega),T.get_set,if_neg (by omega)]
  ·cases j with
   |zero =>
    simp at h
    subst h
    refine (h1 i (by omega)).trans ?_
    rw [T.get_set,if_pos rfl]
    refine congrArg some (ancOf_congr _ _ fun e he hb=>?_)
    have:=hes 0 x rfl e he hb
    rw [h1 e.on (by omega),T.get_set,if_neg (by omega)]
   |succ j =>
    have:=h2 j o (by simpa using h)
    rw [show i+(j+1)=i+1+j from by omega]
    exact this
theorem writers_spec:∀ (os:List Oper) (i:Nat) (t wr:T Nat),writers os i t=some wr →
  (∀ d j,t.get d=some j→wr.get d=some j)∧∀ j o d,os[j]?=some o→o.dst=some d→wr.get d=some (i+j)
 |[],_,_,_,h=>by
  cases h
  exact ⟨fun _ _ h=>h,fun j o d h=>by simp at h⟩
 |x :: os, i, t, wr, h => by
  simp only [writers] at h
  split at h
  ·next d hd =>
   split at h
   ·cases h
   next hn =>
   obtain ⟨h1,h2⟩:=writers_spec os (i+1) _ wr h
   refine ⟨fun d' j hj=>h1 d' j ?_,fun j o d' ho hd'=>?_⟩
   ·rw [T.get_set,if_neg (fun e=>by subst e;rw [hn] at hj;cases hj)]
    exact hj
   ·cases j with
    |zero =>
     simp at ho
     subst ho
     rw [hd] at hd'
     cases hd'
     exact h1 d i (by rw [T.get_set,if_pos rfl])
    |succ j =>
     rw [show i+(j+1)=i+1+j from by omega]
     exact h2 j o d' (by simpa using ho) hd'
  ·next hd =>
   obtain ⟨h1,h2⟩:=writers_spec os (i+1) _ wr h
   refine ⟨h1,fun j o d' ho hd'=>?_⟩
   cases j with
   |zero =>
    simp at ho
    subst ho
    rw [hd] at hd'
    cases hd'
   |succ j =>
    rw [show i+(j+1)=i+1+j from by omega]
    exact h2 j o d' (by simpa using ho) hd'
theorem looks_spec (all:List Oper) (an wr:T Nat):∀ (os:List Oper) (i:Nat),looksOk all an wr os i=true →
  ∀ j o,os[j]?=some o→∀ x∈looks all o,∀ w,wr.get x=some w→(anc an (i+j)).testBit w=true∨((anc an w).testBit (i+j)=true∧readOp o.op=false)
 |[],_,_,j,o,h=>by simp at h
 |y::os,i,hk,j,o,h=>by
  simp only [looksOk] at hk
  split at hk
  case h_2=>cases hk
  next hy =>
  cases j with
  |zero =>
   simp at h
   subst h
   intro x hx w hw
   have:=List.all_eq_true.1 hy x hx
   simp only [hw,Bool.or_eq_true,Bool.and_eq_true,Bool.not_eq_true'] at this
   exact this
  |succ j =>
   rw [show i+(j+1)=i+1+j from by omega]
   exact looks_spec all an wr os (i+1) hk j o (by simpa using h)
theorem chain_spec (an:T Nat):∀ (os:List Oper) (i:Nat) (es:List Nat),chainOk an os i es=true →
  ∀ j o,os[j]?=some o→kin o.op=.loud→(∀ e∈es,(anc an (i+j)).testBit e=true) ∧
   ∀ j' o',j' < j→os[j']?=some o'→kin o'.op=.loud→(anc an (i+j)).testBit (i+j')=true
 |[],_,_,_,j,o,h=>by simp at h
 |y :: os, i, es, hk, j, o, h => by
  intro hl
  simp only [chainOk] at hk
  cases j with
  |zero =>
   simp at h
   subst h
   simp only [hl] at hk
   split at hk
   case h_2=>cases hk
   next he =>
   exact ⟨fun e hee=>List.all_eq_true.1 he e hee,fun j' _ hj=>by omega⟩
  |succ j =>
   rw [show i+(j+1)=i+1+j from by omega]
   have quiet:∀ (hk:chainOk an os (i+1) es=true),kin y.op≠.loud→(∀ e∈es,(anc an (i+1+j)).testBit e=true) ∧
     ∀ j' o',j' < j+1→(y::os)[j']?=some o'→kin o'.op=.loud→(anc an (i+1+j)).testBit (i+j')=true:=by
    intro hk hy
    obtain ⟨h1,h2⟩:=chain_spec an os (i+1) es hk j o (by simpa using h) hl
    refine ⟨h1,fun j' o' hj ho' hl'=>?_⟩
    cases j' with
    |zero =>
     simp at ho'
     subst ho'
     exact absurd hl' hy
    |succ j' =>
     rw [show i+(j'+1)=i+1+j' from by omega]
     exact h2 j' o' (by omega) (by simpa using ho') hl'
   split at hk
   ·next hy=>exact quiet hk (by rw [hy];simp)
   ·next hy=>exact quiet hk (by rw [hy];simp)
   ·next hy =>
    split at hk
    case h_2=>cases hk
    obtain ⟨h1,h2⟩:=chain_spec an os (i+1) (i::es) hk j o (by simpa using h) hl
    refine ⟨fun e he=>h1 e (by simp [he]),fun j' o' hj ho' hl'=>?_⟩
    cases j' with
    |zero=>exact h1 i (by simp)
    |succ j' =>
     rw [show i+(j'+1)=i+1+j' from by omega]
     exact h2 j' o' (by omega) (by simpa using ho') hl'
structure RStat (all:List Oper) (an:T Nat):Prop where
 edge:∀ (i:Nat) (o:Oper),all[i]?=some o→∀ e∈o.after.toList,Region.binds .any e=true→e.on < i
 back:∀ (i:Nat) (o:Oper),all[i]?=some o→∀ j,(anc an i).testBit j=true→∃ e∈o.after.toList,Region.binds .any e=true∧(j=e.on∨(anc an e.on).testBit j=true)
 dst:∀ (i j:Nat) (o o':Oper) d,all[i]?=some o→all[j]?=some o'→o.dst=some d→o'.dst=some d→i=j
 look:∀ (i j:Nat) (o o':Oper) d,all[i]?=some o→all[j]?=some o'→o'.dst=some d→d∈looks all o→(anc an i).testBit j=true∨((anc an j).testBit i=true∧readOp o.op=false)
 chain:∀ (i j:Nat) (o o':Oper),all[i]?=some o→all[j]?=some o'→kin o.op=.loud→kin o'.op=.loud→j < i→(anc an i).testBit j=true
theorem dstat_ok {all:List Oper} {an:T Nat} (h:dstat all=some an):RStat all an:=by
 unfold dstat at h
 split at h
 ·cases h
 next he =>
 split at h
 ·cases h
 next wr hw =>
 split at h
 case h_2=>cases h
 next hx =>
 simp only [Bool.and_eq_true] at hx
 cases h
 obtain ⟨_,ha⟩:=ancs_spec all 0 .nil he
 have hes:=edges_spec all 0 he
 have hws:=(writers_spec all 0 .nil wr hw).2
 refine ⟨fun i o ho e h1 h2=>by simpa using hes i o ho e h1 h2,fun i o ho j hj=>?_,fun i j o o' d ho ho' hd hd'=>?_,fun i j o o' d ho ho' hd hl=>?_,fun i j o o' ho ho' hl hl' hji=>?_⟩
 ·have h1:=ha i o ho
  rw [Nat.zero_add] at h1
  have h2:anc (ancs all 0 .nil) i=ancOf (ancs all 0 .nil) o.after.toList 0:=by unfold anc;rw [h1];rfl
  rw [h2,bit_ancOf] at hj
  rcases hj with hj | hj
  ·simp at hj
  ·exact hj
 ·have h1:=hws i o d ho hd
  have h2:=hws j o' d ho' hd'
  rw [h1] at h2
  simpa using h2
 ·have:=looks_spec all _ wr all 0 hx.1.1 i o ho d hl _ (hws j o' d ho' hd)
  simpa using this
 ·have:=(chain_spec _ all 0 [] hx.1.2 i o ho hl).2 j o' hji ho' hl'
  simpa using this
theorem RStat.lt {all:List Oper} {an:T Nat} (h:RStat all an):∀ (i:Nat),i < all.length→∀ j,(anc an i).testBit j=true→j < i:=by
 intro i
 induction i using Nat.strongRecOn with
 |_ i ih =>
  intro hi j hj
  have ho:=List.getElem?_eq_getElem hi
  obtain ⟨e,h1,h2,h3⟩:=h.back i _ ho j hj
  have h4:=h.edge i _ ho e h1 h2
  rcases h3 with h3 | h3
  ·omega
  ·have:=ih e.on h4 (by omega) j h3
   omega
end Go.Am
