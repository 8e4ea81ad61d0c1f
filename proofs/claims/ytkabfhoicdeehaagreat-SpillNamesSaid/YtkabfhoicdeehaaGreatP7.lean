/- Parts of the proof: Pv15, Pv16, Am23, Am24, Pv17, Pv18 -/
import Derived.Test.YtkabfhoicdeehaaGreatP6
set_option linter.unusedVariables false
set_option linter.unusedSimpArgs false
set_option linter.unusedSectionVars false
namespace Go.Pv
open Go.Am Go.RowKit
def tput (t:T PV) (d:Option Tmp) (v:PV):T PV :=
 match d with
 |some d=>t.set d v
 |none=>t
def tless (t:T PV):List Oper→T PV
 |[]=>t
 |o::os=>match o.dst with
  |some d=>tless (t.del d) os
  |none=>tless t os
def dstIn (sz:Nat) (d:Option Tmp):Bool :=
 match d with
 |some d=>Nat.blt d sz
 |none=>true
def preg (A : AP) (E : Eqs) (P : Program) (M : Nat → Bool) (sz : Nat) (all : List Oper) : List Oper → T PV → PH → (T PV → PH → Prop) → (PV → PH → Prop) → Prop
 |[],t,h,K,_=>K t h
 |o :: os, t, h, K, X => match dstIn sz o.dst with
  |false=>False
  |true=>match o.guard with
   |none=>pop A E P M t.get h o (fun v h'=>preg A E P M sz all os (tput t o.dst v) h' K X) X
   |some (j,want)=>match all[j]? with
    |none=>False
    |some p=>match p.dst with
     |none=>False
     |some d=>match t.get d with
      |some (.lit (.bool q))=>match want with
       |true=>PIf q (pop A E P M t.get h o (fun v h'=>preg A E P M sz all os (tput t o.dst v) h' K X) X) (preg A E P M sz all os (tput t o.dst (.tup [])) h K X)
       |false=>PIf q (preg A E P M sz all os (tput t o.dst (.tup [])) h K X) (pop A E P M t.get h o (fun v h'=>preg A E P M sz all os (tput t o.dst v) h' K X) X)
      |some (.tup [])=>preg A E P M sz all os (tput t o.dst (.tup [])) h K X
      |_=>False
section
variable {s:St} {A:AP} {P:Program} {E:Eqs} {w0:Base} {M:Nat→Bool} {sz:Nat} {b:Frame} {k:List Item} {cs:List Frame}
theorem TV.put {t:T PV} {arr:Array Value} (h:TV s t.get arr) {d:Option Tmp} (hd:dstIn arr.size d=true) {v:PV} {x:Value} (hv:RV s v x):TV s (tput t d v).get (putA arr d x):=by
 cases d with
 |none=>exact h
 |some d =>
  have hlt:d < arr.size:=(T.blt_iff _ _).1 hd
  intro i u hi
  simp only [tput,T.get_set] at hi
  by_cases hid:i=d
  ·subst hid
   simp only [if_true,Option.some.injEq] at hi
   subst hi
   exact ⟨x,by simp [putA,hlt],hv⟩
  ·rw [if_neg hid] at hi
   obtain ⟨y,y1,y2⟩:=h i u hi
   exact ⟨y,by simp only [putA];rw [Array.getElem?_setIfInBounds_ne (fun e=>hid e.symm)];exact y1,y2⟩
theorem tless_get:∀ (os:List Oper) (t:T PV) (i:Nat) (v:PV),(tless t os).get i=some v→t.get i=some v∧∀ o∈os,o.dst≠some i
 |[],t,i,v,h=>⟨h,fun o ho=>by cases ho⟩
 |o :: os, t, i, v, h => by
  simp only [tless] at h
  split at h
  ·next d hd =>
   obtain ⟨h1,h2⟩:=tless_get os _ i v h
   rw [T.get_del] at h1
   split at h1
   ·cases h1
   ·next hid =>
    refine ⟨h1,fun p hp=>?_⟩
    rcases List.mem_cons.1 hp with rfl | hp
    ·rw [hd]
     intro e
     cases e
     exact hid rfl
    ·exact h2 p hp
  ·next hd =>
   obtain ⟨h1,h2⟩:=tless_get os _ i v h
   refine ⟨h1,fun p hp=>?_⟩
   rcases List.mem_cons.1 hp with rfl | hp
   ·rw [hd];intro e;cases e
   ·exact h2 p hp
theorem TV.putNot {t:T PV} {arr:Array Value} (h:TV s t.get arr) {d:Option Tmp} (hd:∀ i v,t.get i=some v→d≠some i) {x:Value}:TV s t.get (putA arr d x):=by
 intro i v hi
 obtain ⟨y,y1,y2⟩:=h i v hi
 refine ⟨y,?_,y2⟩
 unfold putA
 split
 ·next d'=>rw [Array.getElem?_setIfInBounds_ne (fun e=>hd i v hi (by rw [e]))];exact y1
 ·exact y1
theorem putA_ne {arr:Array Value} {d:Option Tmp} {x:Value} {i:Nat} (h:d≠some i):(putA arr d x)[i]?=arr[i]?:=by
 unfold putA
 split
 ·next d'=>exact Array.getElem?_setIfInBounds_ne (fun e=>h (by rw [e]))
 ·rfl
theorem putA_size (arr:Array Value) (d:Option Tmp) (x:Value):(putA arr d x).size=arr.size:=by
 cases d<;>simp [putA]
theorem pop_nodefer {t:Nat→Option PV} {h:PH} {o:Oper} {K X:PV→PH→Prop} (hp:pop A E P M t h o K X):∀ c,o.op≠.defer c:=by
 intro c hc
 simp [pop,pkind,hc,pquiet,PDo] at hp
theorem on_finish {arr:Array Value} {dl:List Deferred} {ops:Array Oper} {i:Nat} {rest:List Nat} {o:Oper} (ho:ops[i]?=some o) (x:Value) :
  (on b arr dl (.inRegion ops (i::rest)::k)).finish x=on b (putA arr o.dst x) dl (.inRegion ops rest::k):=by
 cases hd:o.dst<;>simp [Frame.finish,on,ho,putA,hd]
theorem on_raise {arr:Array Value} {dl:List Deferred} {todo:List Item} (hm:b.mode=.run) (ch:List PanicEntry):(on b arr dl todo).raise ch={ on b arr dl todo with mode:=.panicking ch }:=by
 rw [Frame.raise_mode]
 simp [on,hm,raised]
theorem op_go (hA:A.Ok P) (hE:E.Ok P) (hw:PW w0 s) {t:T PV} {arr:Array Value} (ht:TV s t.get arr) {o:Oper} {K X:PV→PH→Prop} (hp:pop A E P M t.get s.h o K X)
  {ops:Array Oper} {i:Nat} {rest:List Nat} {dl:List Deferred} (ho:ops[i]?=some o) (hwt:Region.wanted o (yielded ops arr)=true) (hm:b.mode=.run) :
  (∃ x v s',PW w0 s'∧Ext s s'∧RV s' v x∧K v s'.h∧Steps P (lone (on b arr dl (.inRegion ops (i::rest)::k)) cs s.w) (lone (on b (putA arr o.dst x) dl (.inRegion ops rest::k)) cs s'.w)) ∨
  ∃ x v s' todo,PW w0 s'∧Ext s s'∧RV s' v x∧X v s'.h∧Steps P (lone (on b arr dl (.inRegion ops (i::rest)::k)) cs s.w) (lone { on b arr dl todo with mode:=.panicking [{ v:=x,recovered:=false }] } cs s'.w):=by
 have hρ:∀ x v,pev t.get x=some v→RV s v ((on b arr dl (.inRegion ops (i::rest)::k)).eval x):=fun x v hx=>ev_on ht x v hx
 have hd:=pop_ok hA hE hw hρ hp
 have hexec:=exec_op (P:=P) (fr:=on b arr dl (.inRegion ops (i::rest)::k)) (cs:=cs) (w:=s.w) (k:=k) rfl ho hwt (.inr (pop_nodefer hp))
 have hst:=stepG_run (P:=P) (fr:=on b arr dl (.inRegion ops (i::rest)::k)) (cs:=cs) (w:=s.w) hm
 rcases hd with ⟨x,v,s',h1,h2,h3,h4,h5⟩ | hgo | ⟨x,v,h1,h2,h3⟩
 ·refine .inl ⟨x,v,s',h2,h3,h4,h5,.one (step_lone_go ?_)⟩
  rw [hst,hexec,← on_finish ho]
  rcases h1 with h1 | ⟨h1,rfl⟩
  ·exact apply_value h1
  ·exact apply_skip h1
 ·generalize hr:(execOp (on b arr dl (.inRegion ops (i::rest)::k)).eval o).run P s.w=r at hgo
  cases r with
  |halt x w=>exact hgo.elim
  |ok nx w =>
   cases nx<;>try exact hgo.elim
   ·next g xs =>
    obtain ⟨e,w',fr',he,hc,_,hlv⟩:=hgo (on b arr dl (.inRegion ops (i::rest)::k)::cs)
    obtain ⟨s',e1,e2,e3,e4⟩:=he
    subst e1
    have henter:step P (lone (on b arr dl (.inRegion ops (i::rest)::k)) cs s.w)=.next (lone (Frame.enter P g xs .normal) (on b arr dl (.inRegion ops (i::rest)::k)::cs) w):=by
     refine step_lone_go ?_
     rw [hst,hexec]
     exact apply_enter (fun d r sv k' hc=>by simp [on] at hc) hr
    cases e with
    |returned x =>
     obtain ⟨v,v1,v2⟩:=e4
     refine .inl ⟨x,v,s',e2,e3,v1,v2,.head henter (Steps.trans hc (.one ?_))⟩
     rw [← on_finish ho]
     exact step_leave_returned hlv
    |panicked ch =>
     obtain ⟨v,x,rfl,v1,v2⟩:=e4
     refine .inr ⟨x,v,s',.inRegion ops (i::rest)::k,e2,e3,v1,v2,.head henter (Steps.trans hc (.one ?_))⟩
     rw [← on_raise hm]
     exact step_leave_panicked hlv
    |outgrown=>exact e4.elim
   ·next l f tmps asg body =>
    have henter:step P (lone (on b arr dl (.inRegion ops (i::rest)::k)) cs s.w)=.next (lone (Frame.round l f tmps asg body .normal) (on b arr dl (.inRegion ops (i::rest)::k)::cs) w):=by
     refine step_lone_go ?_
     rw [hst,hexec]
     exact apply_round hr
    rcases hgo (on b arr dl (.inRegion ops (i::rest)::k)) cs with ⟨x,w',⟨s',e1,e2,e3,v,v1,v2⟩,hs⟩ | ⟨ch,w',⟨s',e1,e2,e3,v,x,rfl,v1,v2⟩,hs⟩
    ·subst e1
     refine .inl ⟨x,v,s',e2,e3,v1,v2,.head henter ?_⟩
     rw [← on_finish ho]
     exact hs
    ·subst e1
     refine .inr ⟨x,v,s',.inRegion ops (i::rest)::k,e2,e3,v1,v2,.head henter ?_⟩
     rw [← on_raise hm]
     exact hs
 ·refine .inr ⟨x,v,s,.inRegion ops (i::rest)::k,hw,Ext.refl s,h2,h3,.one (step_lone_go ?_)⟩
  rw [hst,hexec,← on_raise hm]
  exact apply_panic h1
theorem op_pass {arr:Array Value} {dl:List Deferred} {ops:Array Oper} {i:Nat} {rest:List Nat} {o:Oper} {w:World} (ho:ops[i]?=some o) (hwt:Region.wanted o (yielded ops arr)=false) (hm:b.mode=.run) :
  Steps P (lone (on b arr dl (.inRegion ops (i::rest)::k)) cs w) (lone (on b (putA arr o.dst undef) dl (.inRegion ops rest::k)) cs w):=by
 refine .one (step_lone_go ?_)
 rw [stepG_run (fr:=on b arr dl (.inRegion ops (i::rest)::k)) hm,exec_unwanted (fr:=on b arr dl (.inRegion ops (i::rest)::k)) rfl ho hwt,on_finish ho]
 rfl
theorem wanted_of {t:T PV} {arr:Array Value} (ht:TV s t.get arr) {ops:Array Oper} {o:Oper} {j:Nat} {want:Bool} (hg:o.guard=some (j,want)) {p:Oper} (hp:ops[j]?=some p) {d:Tmp} (hd:p.dst=some d) {q:Bool}
  (hq:t.get d=some (.lit (.bool q))):Region.wanted o (yielded ops arr)=(q == want):=by
 obtain ⟨y,y1,y2⟩:=ht d _ hq
 have y2:=(RV_lit.1 y2).2
 simp only [VR] at y2
 subst y2
 simp [Region.wanted,hg,yielded,hp,hd,y1]
theorem wanted_not {t:T PV} {arr:Array Value} (ht:TV s t.get arr) {ops:Array Oper} {o:Oper} {j:Nat} {want:Bool} (hg:o.guard=some (j,want)) {p:Oper} (hp:ops[j]?=some p) {d:Tmp} (hd:p.dst=some d)
  (hq:t.get d=some (.tup [])):Region.wanted o (yielded ops arr)=false:=by
 obtain ⟨y,y1,y2⟩:=ht d _ hq
 obtain ⟨z,rfl,_⟩:=RV_tup.1 y2
 simp [Region.wanted,hg,yielded,hp,hd,y1]
theorem preg_go (hA:A.Ok P) (hE:E.Ok P) (hm:b.mode=.run) {ops:Array Oper} {Q:PQ} {X:T PV→List Nat→PV→PH→Prop} {ds:List Nat} {tl:T PV}:∀ (os:List Oper) (i:Nat) (s:St) (t:T PV) (arr:Array Value),ops.toList.drop i=os →
  preg A E P M sz ops.toList os t s.h (fun t h=>Q .normal t ds h) (X tl ds)→PW w0 s→TV s t.get arr→(TV s tl.get arr∧∀ o∈os,∀ i v,tl.get i=some v→o.dst≠some i)→arr.size=sz→(∀ i∈ds,i < s.h.next) →
  POut P w0 s sz b k cs Q X (lone (on b arr (dls s ds) (.inRegion ops ((List.range ops.size).drop i)::k)) cs s.w)
 |[],i,s,t,arr,hos,hp,hw,ht,htl,hsz,hds=>by
  have hle:ops.size≤i:=by simpa using hos
  have e0:(List.range ops.size).drop i=[]:=List.drop_eq_nil_of_le (by simpa using hle)
  rw [e0]
  exact ⟨s,arr,ds,hw,Ext.refl s,hsz,hds,.inl ⟨t,hp,ht,step_on hm (by simp [stepG.exec,on])⟩⟩
 |o :: os, i, s, t, arr, hos, hp, hw, ht, htl, hsz, hds => by
  have hlt:i < ops.size:=by
   rcases Nat.lt_or_ge i ops.size with h1 | h1
   ·exact h1
   ·rw [List.drop_eq_nil_of_le (by simpa using h1)] at hos;cases hos
  have hdr:=List.drop_eq_getElem_cons (l:=ops.toList) (i:=i) (by simpa using hlt)
  rw [hos] at hdr
  simp only [List.cons.injEq] at hdr
  obtain ⟨hd1,hd2⟩:=hdr
  have ho:ops[i]?=some o:=by rw [Array.getElem?_eq_getElem hlt,hd1];simp
  have er:(List.range ops.size).drop i=i::(List.range ops.size).drop (i+1):=by
   rw [List.drop_eq_getElem_cons (by simpa using hlt)]
   simp
  rw [er]
  simp only [preg] at hp
  split at hp
  ·exact hp.elim
  next hdst =>
  have hdst':dstIn arr.size o.dst=true:=by rw [hsz];exact hdst
  have run:pop A E P M t.get s.h o (fun v h'=>preg A E P M sz ops.toList os (tput t o.dst v) h' (fun t h=>Q .normal t ds h) (X tl ds)) (X tl ds)→Region.wanted o (yielded ops arr)=true →
    POut P w0 s sz b k cs Q X (lone (on b arr (dls s ds) (.inRegion ops (i::(List.range ops.size).drop (i+1))::k)) cs s.w):=by
   intro hp hwt
   rcases op_go (b:=b) (k:=k) (cs:=cs) (dl:=dls s ds) (rest:=(List.range ops.size).drop (i+1)) hA hE hw ht hp ho hwt hm with ⟨x,v,s',h1,h2,h3,h4,h5⟩ | ⟨x,v,s',todo,h1,h2,h3,h4,h5⟩
   ·refine POut.of_steps h5 (POut.ext h2 ?_)
    rw [← dls_ext h2 hds]
    exact preg_go hA hE hm os (i+1) s' (tput t o.dst v) (putA arr o.dst x) hd2.symm h4 h1 ((ht.ext h2).put hdst' h3) ⟨(htl.1.ext h2).putNot (htl.2 o (by simp)),fun p hp=>htl.2 p (List.mem_cons_of_mem _ hp)⟩ (by rw [putA_size];exact hsz) fun j hj=>Nat.lt_of_lt_of_le (hds j hj) h2.next
   ·refine ⟨s',arr,ds,h1,h2,hsz,fun j hj=>Nat.lt_of_lt_of_le (hds j hj) h2.next,.inr (.inr ⟨tl,v,x,todo,h4,h3,htl.1.ext h2,?_⟩)⟩
    rw [dls_ext h2 hds]
    exact h5
  have pass:preg A E P M sz ops.toList os (tput t o.dst (.tup [])) s.h (fun t h=>Q .normal t ds h) (X tl ds)→Region.wanted o (yielded ops arr)=false →
    POut P w0 s sz b k cs Q X (lone (on b arr (dls s ds) (.inRegion ops (i::(List.range ops.size).drop (i+1))::k)) cs s.w):=by
   intro hp hwt
   exact POut.of_steps (op_pass ho hwt hm) (preg_go hA hE hm os (i+1) s (tput t o.dst (.tup [])) (putA arr o.dst undef) hd2.symm hp hw (ht.put hdst' (rv_undef s)) ⟨htl.1.putNot (htl.2 o (by simp)),fun p hp=>htl.2 p (List.mem_cons_of_mem _ hp)⟩ (by rw [putA_size];exact hsz) hds)
  split at hp
  ·next hg=>exact run hp (by simp [Region.wanted,hg])
  ·next j want hg =>
   split at hp
   ·exact hp.elim
   next p hpj =>
   have hpj':ops[j]?=some p:=by simpa using hpj
   split at hp
   ·exact hp.elim
   next d hd =>
   split at hp
   ·next q hq =>
    have hwt:=wanted_of ht hg hpj' hd hq
    split at hp
    ·cases q with
     |true=>exact run hp (by simpa using hwt)
     |false=>exact pass hp (by simpa using hwt)
    ·cases q with
     |true=>exact pass hp (by simpa using hwt)
     |false=>exact run hp (by simpa using hwt)
   ·next hq=>exact pass hp (wanted_not ht hg hpj' hd hq)
   ·exact hp.elim
theorem PWP.region (hA:A.Ok P) (hE:E.Ok P) {id:Nat} {ops:Array Oper} {rnd:Option Nat} {fi:FuncId} {Q:PQ} {X:T PV→List Nat→PV→PH→Prop} {t:T PV} {ds:List Nat} {h:PH} (hp:preg A E P M sz ops.toList ops.toList t h (fun t h=>Q .normal t ds h) (X (tless t ops.toList) ds)) :
  PWP P fi sz rnd (.region id ops false) Q X t ds h:=by
 intro w0 s arr b k cs a1 a2 a3 a4 a5 a6 a7 a8 a9
 subst a2
 refine POut.of_steps (step_on (k':=.inRegion ops (List.range ops.size)::k) a6 (by simp [stepG.exec,on])) ?_
 have:=preg_go (k:=k) (cs:=cs) (M:=M) (b:=b) hA hE a6 ops.toList 0 s t arr rfl hp a1 a3 ⟨fun i v hi=>a3 i v (tless_get _ _ _ _ hi).1,fun o ho i v hi=>(tless_get _ _ _ _ hi).2 o ho⟩ a4 a5
 simpa using this
end
end Go.Pv
namespace Go.Pv
open Go.Am Go.RowKit
def presult (A:AP) (h:PH) (t:Nat→Option PV):ResultVar→Option PV
 |.tmp x=>t x
 |.cell a ty=>match t a with
  |some v=>pload A h ty v
  |none=>none
def presults (A:AP) (h:PH) (t:Nat→Option PV):List ResultVar→Option (List PV)
 |[]=>some []
 |r::rs=>match presult A h t r with
  |some v=>match presults A h t rs with
   |some vs=>some (v::vs)
   |none=>none
  |none=>none
def pone:List PV→PV
 |[v]=>v
 |l=>.tup l
def PGh (n:Nat) (h:PH) (v:PV) (h':PH) (v':PV):Prop :=
 ∀ (w0:Base) (s0 s:St) (x:Value),s0.h.next=n→PW w0 s→Ext s0 s→s.h=h→RV s v x→∃ s':St,s'.w=s.w∧PW w0 s'∧Ext s0 s'∧s'.h=h'∧RV s' v' x
theorem PGh.refl (n:Nat) (h:PH) (v:PV):PGh n h v h v:=fun _ _ s _ _ h1 h2 h3 h4=>⟨s,rfl,h1,h2,h3,h4⟩
theorem PGh.trans {n:Nat} {h h' h'':PH} {v v' v'':PV} (a:PGh n h v h' v') (b:PGh n h' v' h'' v''):PGh n h v h'' v'':=by
 intro w0 s0 s x h0 h1 h2 h3 h4
 obtain ⟨s1,a1,a2,a3,a4,a5⟩:=a w0 s0 s x h0 h1 h2 h3 h4
 obtain ⟨s2,b1,b2,b3,b4,b5⟩:=b w0 s0 s1 x h0 a2 a3 a4 a5
 exact ⟨s2,b1.trans a1,b2,b3,b4,b5⟩
theorem PGh.cut {n:Nat} {h:PH} {v:PV} (hv:v.bd n=true) (hh:(h.cut n).Ok):PGh n h v (h.cut n) v:=by
 intro w0 s0 s x h0 h1 h2 h3 h4
 subst h3
 exact ⟨s.cut n,rfl,h1.cut hh,h2.cut (Nat.le_of_eq h0),rfl,(R2.cut v hv).1 _ h4⟩
def PCut (n:Nat) (v:PV) (h:PH) (R:PV→PH→Prop):Prop:=∃ h' v',PGh n h v h' v'∧R v' h'
def unds:List Nat→PH→PH
 |[],h=>h
 |i::ds,h=>unds ds (h.del i)
def Undo:List Nat→PH→Prop
 |[],_=>True
 |i::ds,h=>h.get i=some .dfr∧Undo ds (h.del i)
def PRet (A:AP) (fn:Func) (n:Nat) (R:PV→PH→Prop) (t:T PV) (ds:List Nat) (h:PH):Prop :=
 Undo ds h∧PDo (match presults A (unds ds h) t.get fn.results.toList with
  |some vs=>some (pone vs)
  |none=>none) fun v=>PCut n v (unds ds h) R
def PFin (A:AP) (fn:Func) (n:Nat) (R:PV→PH→Prop):PQ:=fun e t ds h =>
 match e with
 |.normal=>PRet A fn n R t ds h
 |.jump .ret=>PRet A fn n R t ds h
 |_=>False
def PFinX (n:Nat) (X:PV→PH→Prop):T PV→List Nat→PV→PH→Prop:=fun _ ds v h=>Undo ds h∧PCut n v (unds ds h) X
section
variable {s:St} {A:AP} {P:Program} {E:Eqs} {w0:Base}
theorem presults_ok (hA:A.Ok P) (hw:PW w0 s) {t:Nat→Option PV} {arr:Array Value} (ht:TV s t arr):∀ (rs:List ResultVar) (vs:List PV),presults A s.h t rs=some vs →
  ∃ xs:List Value,(∀ f:ResultVar→Sem Value,(∀ t,f (.tmp t)=pure (arr.getD t undef))→(∀ a t,f (.cell a t)=(do loadVar t (← asAddr (arr.getD a undef))))→(rs.mapM f).run P s.w=.ok xs s.w)∧RVs s vs xs
 |[],vs,e=>by
  simp only [presults,Option.some.injEq] at e
  subst e
  exact ⟨[],fun f _ _=>by simp,RVs_nil.2 rfl⟩
 |r :: rs, vs, e => by
  simp only [presults] at e
  split at e
  case h_2=>cases e
  next v hv =>
  split at e
  case h_2=>cases e
  next vs' hvs =>
  cases e
  obtain ⟨xs,x1,x2⟩:=presults_ok hA hw ht rs vs' hvs
  cases r with
  |tmp x =>
   obtain ⟨y,y1,y2⟩:=ht x v hv
   refine ⟨y::xs,fun f h1 h2=>?_,RVs_cons.2 ⟨_,_,rfl,y2,x2⟩⟩
   have hg:arr.getD x undef=y:=by simp [Array.getD_eq_getD_getElem?,y1]
   simp only [List.mapM_cons,Sem.run_bind,h1,hg,Sem.run_pure,Result.andThen_ok,x1 f h1 h2]
  |cell a ty =>
   simp only [presult] at hv
   split at hv
   case h_2=>cases hv
   next u hu =>
   obtain ⟨y,y1,y2⟩:=ht a _ hu
   obtain ⟨z,z1,z2⟩:=pload_ok hA hw hv y2
   refine ⟨z::xs,fun f h1 h2=>?_,RVs_cons.2 ⟨_,_,rfl,z2,x2⟩⟩
   have hg:arr.getD a undef=y:=by simp [Array.getD_eq_getD_getElem?,y1]
   have hptr:∃ p,y=.pointer (some p):=by
    unfold pload at hv
    split at hv
    case h_2=>cases hv
    split at hv
    ·obtain ⟨k,o,rfl,_⟩:=RV_fp.1 y2;exact ⟨_,rfl⟩
    ·obtain ⟨_,rfl⟩:=RV_ptr.1 y2;exact ⟨_,rfl⟩
    ·cases hv
   obtain ⟨p,rfl⟩:=hptr
   have has:asAddr (arr.getD a undef)=pure p:=by rw [hg];rfl
   have z1':(loadVar ty p).run P s.w=.ok z s.w:=by simpa [Instr.loadAt,Instr.sureAddr] using z1
   simp only [List.mapM_cons,Sem.run_bind,h2,has,Sem.run_pure,Result.andThen_ok,z1',x1 f h1 h2]
theorem presults_run (hA:A.Ok P) (hw:PW w0 s) {t:Nat→Option PV} {arr:Array Value} (ht:TV s t arr) {fn:Func} {vs:List PV} (e:presults A s.h t fn.results.toList=some vs) :
  ∃ x,(results fn arr).run P s.w=.ok x s.w∧RV s (pone vs) x:=by
 obtain ⟨xs,x1,x2⟩:=presults_ok hA hw ht _ _ e
 have hl:=x2.length
 refine ⟨if h:xs.toArray.size=1 then xs.toArray[0] else .tuple xs.toArray,?_,?_⟩
 ·unfold results
  rw [Array.mapM_eq_mapM_toList]
  simp only [Sem.run_bind,Sem.run_map]
  rw [x1 _ (fun _=>rfl) (fun _ _=>rfl)]
  rfl
 ·match vs,xs,x2,hl with
  |[],[],_,_=>exact RV_tup.2 ⟨#[],rfl,RVs_nil.2 rfl⟩
  |[v],[x],x2,_ =>
   obtain ⟨y,ys,e1,e2,e3⟩:=RVs_cons.1 x2
   cases e1
   simpa [pone] using e2
  |v::v'::vs,x::x'::xs,x2,_ =>
   simp only [pone,List.size_toArray,List.length_cons]
   rw [dif_neg (by omega)]
   exact RV_tup.2 ⟨_,rfl,x2⟩
theorem dropObj_ok (hw:PW w0 s) {i:Nat} {b:PBlk} (hi:s.h.get i=some b) (hno:b.isOwn=false) {o':Obj} (hc:Cold o') :
  ∃ s':St,s'.w={ s.w with heap:=s.w.heap.setIfInBounds (s.e i) o' }∧PW w0 s'∧Ext s s'∧s'.h=s.h.del i:=by
 obtain ⟨h1,h2,h3⟩:=hw.hp i _ hi
 have hl:=(BAt_live hno).1 h2
 have hlt:s.e i < s.w.heap.size:=hw.lt h2.some
 have u:=upd_setIf s.w (s.e i) o' hlt
 have hnp:¬ w0.pr (s.e i):=fun hlt=>by
  rcases hw.prot _ hlt with h1 | ⟨n,h1⟩<;>rw [hl] at h1<;>cases h1
 let s':St:={ σ:=upd s.σ (s.e i) .no,e:=s.e,h:=s.h.del i,w:={ s.w with heap:=s.w.heap.setIfInBounds (s.e i) o' } }
 have hx:Ext s s':=by
  refine Ext.mk' ⟨Nat.le_of_eq u.size.symm,fun x _=>⟨fun e=>(upd_ne s.σ _ (fun c:x=s.e i=>by rw [c,hl] at e;cases e)).trans e,fun n' e=>(upd_ne s.σ _ (fun c:x=s.e i=>by rw [c,hl] at e;cases e)).trans e⟩⟩ (Nat.le_refl _) (fun _ _=>rfl) (fun k j y hy=>?_) (fun j n _ hn=>?_) (fun x r hr=>fmp_keep hr (fun n' own e=>⟨n',own,(upd_ne s.σ _ (fun c:x=s.e i=>by rw [c,hl] at e;cases e)).trans e⟩) fun hx=>?_)
  ·obtain ⟨n,own,p1,p2,p3⟩:=fcell_some hy
   have hk:k≠s.e i:=fun e=>by rw [e,hl] at p1;cases p1
   refine fcell_of (s:=s') ((upd_ne _ _ hk).trans p1) p2 ?_
   rw [← p3]
   exact cell_heap (u.old k hk)
  ·by_cases hk:s.e j=s.e i
   ·have:s'.σ (s.e j)=.no:=by rw [hk];exact upd_self _ _ _
    rw [this] at hn
    cases hn
   ·have:s'.σ (s.e j)=s.σ (s.e j):=upd_ne _ _ hk
    rw [this] at hn
    exact ⟨hn,fun arr t ha=>⟨arr,(u.old _ hk).trans ha,rfl⟩⟩
  ·obtain ⟨⟨n',own,e⟩,_⟩:=fmp_some.1 hr
   exact u.old x (fun c:x=s.e i=>by rw [c,hl] at e;cases e)
 refine ⟨s',rfl,⟨hw.os,hw.tape,hw.output,by have h5:=hw.size;have h6:s'.w.heap.size=s.w.heap.size:=u.size;omega,fun k hk=>?_,fun k hk=>?_,fun k o hk ho=>?_,fun k hk=>?_,fun k n j hk=>?_,fun j b hj=>?_⟩,hx,rfl⟩
 ·exact (u.old k (fun e=>hnp (e ▸ hk))).trans (hw.old k hk)
 ·have:s'.σ k=s.σ k:=upd_ne _ _ (fun e:k=s.e i=>hnp (e ▸ hk))
  rw [this]
  exact hw.prot k hk
 ·by_cases hke:k=s.e i
  ·subst hke
   rw [show s'.w.heap[s.e i]?=_ from u.new] at ho
   cases ho
   exact hc
  ·exact hw.cold k o hk ((u.old k hke).symm.trans ho)
 ·have hne:k≠s.e i:=fun e=>by
   have:s'.w.heap.size=s.w.heap.size:=u.size
   omega
  rw [show s'.σ k=s.σ k from upd_ne _ _ hne]
  exact hw.inb k (by have:s'.w.heap.size=s.w.heap.size:=u.size;omega)
 ·by_cases hke:k=s.e i
  ·rw [hke,show s'.σ (s.e i)=.no from upd_self _ _ _] at hk
   cases hk
  ·rw [show s'.σ k=s.σ k from upd_ne _ _ hke] at hk
   obtain ⟨p1,p2,arr,t,p3,p4⟩:=hw.ob k n j hk
   exact ⟨p1,p2,arr,t,(u.old k hke).trans p3,p4⟩
 ·simp only [s',PH.del] at hj
  split at hj
  ·cases hj
  ·next hji =>
   obtain ⟨q1,q2,q3⟩:=hw.hp j b hj
   have hne:s.e j≠s.e i:=fun e=>hji (q2.inj h2 e)
   exact ⟨q1,BAt.congr (s':=s') (s:=s) rfl (upd_ne _ _ hne) q2,q3.ext hx (u.old _ hne)⟩
theorem unds_go (b : Frame) (todo : List Item) (cs : List Frame) (md : FrameMode) (hm : md ≠ .run) (arr : Array Value) : ∀ (ds : List Nat) (s : St), PW w0 s → Undo ds s.h → ∃ s', PW w0 s' ∧ Ext s s' ∧ s'.h = unds ds s.h ∧
  Steps P (lone { on b arr (dls s ds) todo with mode:=md } cs s.w) (lone { on b arr [] todo with mode:=md } cs s'.w)
 |[],s,hw,_=>⟨s,hw,Ext.refl s,rfl,.refl _ _⟩
 |i :: ds, s, hw, ⟨h1, h2⟩ => by
  obtain ⟨q1,q2,q3⟩:=hw.hp i _ h1
  obtain ⟨s1,e1,e2,e3,e4⟩:=dropObj_ok hw h1 rfl (o':=.deferred none) (fun _ _ _ e=>by cases e)
  have hds : dls s1 ds = dls s ds := by
   unfold dls
   have:s1.e=s1.e:=rfl
   exact List.map_congr_left fun j hj=>by
    have hlt:j < s.h.next:=by
     clear e1 e2 e3 e4
     have:∀ (ds:List Nat) (h:PH),Undo ds h→∀ j∈ds,∃ b,h.get j=some b:=by
      intro ds
      induction ds with
      |nil=>intro h _ j hj;cases hj
      |cons x xs ih =>
       rintro h ⟨p1,p2⟩ j hj
       rcases List.mem_cons.1 hj with rfl | hj
       ·exact ⟨_,p1⟩
       ·obtain ⟨bb,p3⟩:=ih _ p2 j hj
        simp only [PH.del] at p3
        split at p3
        ·cases p3
        ·exact ⟨bb,p3⟩
     obtain ⟨bb,p⟩:=this ds _ h2 j hj
     simp only [PH.del] at p
     split at p
     ·cases p
     ·exact (hw.hp j bb p).1
    rw [e3.e j hlt]
  obtain ⟨s',f1,f2,f3,f4⟩:=unds_go b todo cs md hm arr ds s1 e2 (by rw [e4];exact h2)
  refine ⟨s',f1,e3.trans f2,by rw [f3,e4];rfl,.head (step_lone_go ?_) f4⟩
  have htake:(Instr.takeDeferred (s.e i)).run P s.w=.ok [] s1.w:=by
   have q3':s.w.heap[s.e i]?=some (.deferred (some [])):=q3
   rw [e1]
   simp [Instr.takeDeferred,getObj,setObj,Sem.run,q3']
  rw [stepG_out (fr:={ on b arr (dls s (i::ds)) todo with mode:=md }) hm,hds]
  simp [unwind,on,dls,htake]
theorem TV.ofList {args:List PV} {xs:List Value} (h:RVs s args xs) (rest:Array Value):TV s (T.ofList args 0 .nil).get (xs.toArray++rest):=by
 intro i v hi
 rw [T.get_ofList] at hi
 split at hi
 ·next hlt =>
  rw [Nat.sub_zero] at hi
  obtain ⟨x,x1,x2⟩:=h.get hi
  refine ⟨x,?_,x2⟩
  have:i < xs.length:=(List.getElem?_eq_some_iff.1 x1).1
  rw [Array.getElem?_append_left (by simpa using this)]
  simpa using x1
 ·simp [T.get_nil] at hi
theorem PCall.intro (hA:A.Ok P) {g:FuncId} {fn:Func} {c:Code} (hf:A.funcs.get g=some fn) (hc:fn.body=some c) {args:List PV} (hle:Nat.ble args.length fn.ntmps=true) {h:PH} {R X:PV→PH→Prop}
  (hp:h.Ok→PWP P g fn.ntmps none c (PFin A fn h.next R) (PFinX h.next X) (T.ofList args 0 .nil) [] h):PCall P g args h R X:=by
 have hF:=hA.funcs g fn hf
 refine ⟨⟨fn,c,hF,hc,by simpa using hA.names g fn hf⟩,fun w0 s xs hw hh hx cs=>?_⟩
 subst hh
 have hl:xs.size=args.length:=by simpa using hx.length
 rw [Nat.ble_eq] at hle
 let arr:Array Value:=xs++Array.replicate (fn.ntmps - xs.size) undef
 let b:Frame:=Frame.enter P g xs .normal
 have hb:b=on b arr (dls s []) [.code c]:=by simp [b,on,Frame.enter,hF,hc,arr,dls]
 have htv:TV s (T.ofList args 0 .nil).get arr:=by
  have:=TV.ofList hx (Array.replicate (fn.ntmps - xs.size) undef)
  simpa [arr] using this
 have hout:=hp hw.ok w0 s arr b [] cs hw rfl htv (by simp [arr];omega) (fun i hi=>by cases hi) (by simp [b,Frame.enter]) (by simp [b,Frame.enter]) (fun i hi=>by cases hi) (by simp [b,Frame.enter])
 rw [← hb] at hout
 have hbfn:b.fn=g:=by simp [b,Frame.enter]
 have hbk:b.kind=.normal:=by simp [b,Frame.enter]
 have hbr:b.roundOf=none:=by simp [b,Frame.enter]
 have hbm:b.mode=.run:=by simp [b,Frame.enter]
 obtain ⟨s1,arr1,ds1,p1,p2,p3,p4,p5⟩:=hout
 have cutR:∀ (s2:St) (v:PV) (x:Value) (R:PV→PH→Prop),PW w0 s2→Ext s s2→RV s2 v x→PCut s.h.next v s2.h R→∃ s3 v',s3.w=s2.w∧PW w0 s3∧Ext s s3∧RV s3 v' x∧R v' s3.h:=by
  intro s2 v x R q1 q2 q3 q4
  obtain ⟨h',v',r1,r2⟩:=q4
  obtain ⟨s3,g1,g2,g3,g4,g5⟩:=r1 w0 s s2 x rfl q1 q2 rfl q3
  exact ⟨s3,v',g1,g2,g3,g5,by rw [g4];exact r2⟩
 have ret:∀ (t1:T PV) (todo:List Item) ,PRet A fn s.h.next R t1 ds1 s1.h→TV s1 t1.get arr1→(todo=[]∨∃ k,todo=.code .ret::k)→Steps P (lone b cs s.w) (lone (on b arr1 (dls s1 ds1) todo) cs s1.w) →
   ∃ e w' fr,Ends w0 s R X e w'∧Comes P (lone b cs s.w) (lone fr cs w') e∧fr.fn=g∧fr.leaving P w' e:=by
  intro t1 todo hret ht1 htodo hst
  obtain ⟨hu,hv⟩:=hret
  have h0:step P (lone (on b arr1 (dls s1 ds1) todo) cs s1.w)=.next (lone { on b arr1 (dls s1 ds1) todo with mode:=.returning } cs s1.w):=by
   rcases htodo with rfl | ⟨k,rfl⟩
   ·exact exec_leave_none (k:=[]) (fr:=on b arr1 (dls s1 ds1) []) hbr hbm (.inl rfl)
   ·exact exec_leave_none (fr:=on b arr1 (dls s1 ds1) (.code .ret::k)) hbr hbm (.inr rfl)
  obtain ⟨s2,f1,f2,f3,f4⟩:=unds_go (P:=P) b todo cs .returning (by simp) arr1 ds1 s1 p1 hu
  obtain ⟨v,v1,v2⟩:=PDo_iff.1 hv
  split at v1
  case h_2=>cases v1
  next vs hvs =>
  cases v1
  rw [← f3] at hvs v2
  obtain ⟨x,x1,x2⟩:=presults_run hA f1 (ht1.ext f2) hvs
  obtain ⟨s3,v',g1,g2,g3,g4,g5⟩:=cutR s2 _ x R f1 (p2.trans f2) x2 v2
  refine ⟨.returned x,s2.w,{ on b arr1 [] todo with mode:=.returning },⟨s3,g1,g2,g3,_,g4,g5⟩,hst.trans (.head h0 f4),hbfn,rfl,rfl,hbk,fn,?_,x1⟩
  show P.funcs[b.fn]?=some fn
  rw [hbfn]
  exact hF
 rcases p5 with ⟨t1,q1,q2,q3⟩ | ⟨t1,j,pre,q1,q2,q2',q3⟩ | ⟨tx,v,x,todo,q1,q2,qx,q3⟩
 ·exact ret t1 [] q1 q2 (.inl rfl) q3
 ·cases j<;>simp only [PFin] at q1
  exact ret t1 _ q1 q2 (.inr ⟨_,rfl⟩) q3
 ·obtain ⟨hu,hv⟩:=q1
  obtain ⟨s2,f1,f2,f3,f4⟩:=unds_go (P:=P) b todo cs (.panicking [{ v:=x,recovered:=false }]) (by simp) arr1 ds1 s1 p1 hu
  rw [← f3] at hv
  obtain ⟨s3,v',g1,g2,g3,g4,g5⟩:=cutR s2 _ x X f1 (p2.trans f2) ((R2.ext f2 v).1 _ q2) hv
  refine ⟨.panicked [{ v:=x,recovered:=false }],s2.w,{ on b arr1 [] todo with mode:=.panicking [{ v:=x,recovered:=false }] },⟨s3,g1,g2,g3,v',x,rfl,g4,g5⟩,q3.trans f4,hbfn,rfl,rfl,fn,?_⟩
  show P.funcs[b.fn]?=some fn
  rw [hbfn]
  exact hF
end
end Go.Pv
namespace Go.Am
open Go.RowKit
section
variable {m:Env} {w:World} {A:AP} {P:Program} {E:Eqs} {B0:Prot} {w0:World} {Z:Option Lone} {S S':ASt} {fr:Frame} {cs base:List Frame} {D:Drawer}
end
end Go.Am
namespace Go.Am
open Go.RowKit
def anc (an:T Nat) (i:Nat):Nat:=(an.get i).getD 0
theorem bit_ancOf (look:T Nat) (j:Nat):∀ (es:List Edge) (s:Nat),(ancOf look es s).testBit j=true ↔
  s.testBit j=true∨∃ e∈es,Region.binds .any e=true∧(j=e.on∨(anc look e.on).testBit j=true)
 |[],s=>by simp [ancOf]
 |e :: es, s => by
  simp only [ancOf]
  cases hb:Region.binds .any e with
  |true =>
   simp only [bit_ancOf look j es,Nat.testBit_or,Bool.or_eq_true,Nat.one_shiftLeft,Nat.testBit_two_pow,decide_eq_true_eq,List.mem_cons]
   constructor
   ·rintro ((h | h) | h)
    ·rcases h with h | h
     ·exact .inl h
     ·exact .inr ⟨e,.inl rfl,hb,.inl h.symm⟩
    ·exact .inr ⟨e,.inl rfl,hb,.inr h⟩
    ·obtain ⟨e',h1,h2⟩:=h
     exact .inr ⟨e',.inr h1,h2⟩
   ·rintro (h | ⟨e',h1 | h1,h2,h3⟩)
    ·exact .inl (.inl (.inl h))
    ·subst h1
     rcases h3 with h3 | h3
     ·exact .inl (.inl (.inr h3.symm))
     ·exact .inl (.inr h3)
    ·exact .inr ⟨e',h1,h2,h3⟩
  |false =>
   simp only [bit_ancOf look j es,List.mem_cons]
   constructor
   ·rintro (h | ⟨e',h1,h2⟩)
    ·exact .inl h
    ·exact .inr ⟨e',.inr h1,h2⟩
   ·rintro (h | ⟨e',h1 | h1,h2,h3⟩)
    ·exact .inl h
    ·subst h1
     rw [hb] at h2
     cases h2
    ·exact .inr ⟨e',h1,h2,h3⟩
theorem edges_spec:∀ (os:List Oper) (i:Nat),edgesOk os i=true→∀ j o,os[j]?=some o→∀ e∈o.after.toList,Region.binds .any e=true→e.on < i+j
 |[],_,_,j,o,h=>by simp at h
 |x::os,i,hk,j,o,h=>by
  simp only [edgesOk] at hk
  split at hk
  case h_2=>cases hk
  next hx =>
  cases j with
  |zero =>
   simp at h
   subst h
   intro e he hb
   have:=List.all_eq_true.1 hx e he
   simp only [hb,Bool.not_true,Bool.false_or,Nat.blt,Nat.ble_eq] at this
   exact this
  |succ j =>
   intro e he hb
   have:=edges_spec os (i+1) hk j o (by simpa using h) e he hb
   omega
theorem ancOf_congr {look look':T Nat}:∀ (es:List Edge) (s:Nat),(∀ e∈es,Region.binds .any e=true→look.get e.on=look'.get e.on)→ancOf look es s=ancOf look' es s
 |[],_,_=>rfl
 |e::es,s,h=>by
  have ih:=fun s=>ancOf_congr es s fun e' he=>h e' (by simp [he])
  simp only [ancOf]
  cases hb:Region.binds .any e with
  |true=>simp only [h e (by simp) hb,ih]
  |false=>simp only [ih]
theorem ancs_spec:∀ (os:List Oper) (i:Nat) (t:T Nat),edgesOk os i=true →
  (∀ x,x < i→(ancs os i t).get x=t.get x)∧∀ j o,os[j]?=some o→(ancs os i t).get (i+j)=some (ancOf (ancs os i t) o.after.toList 0)
 |[],_,_,_=>⟨fun _ _=>rfl,fun j o h=>by simp at h⟩
 |x :: os, i, t, hk => by
  have hes:=edges_spec (x::os) i hk
  have hk':=hk
  simp only [edgesOk] at hk
  split at hk
  case h_2=>cases hk
  obtain ⟨h1,h2⟩:=ancs_spec os (i+1) (t.set i (ancOf t x.after.toList 0)) hk
  simp only [ancs]
  refine ⟨fun y hy=>?_,fun j o h=>?_⟩
  ·rw [h1 y (by omega),T.get_set,if_neg (by omega)]
  ·cases j with
   |zero =>
    simp at h
    subst h
    refine (h1 i (by omega)).trans ?_
    rw [T.get_set,if_pos rfl]
    refine congrArg some (ancOf_congr _ _ fun e he hb=>?_)
    have:=hes 0 x rfl e he hb
    rw [h1 e.on (by omega),T.get_set,if_neg (by omega)]
   |succ j =>
    have:=h2 j o (by simpa using h)
    rw [show i+(j+1)=i+1+j from by omega]
    exact this
theorem writers_spec:∀ (os:List Oper) (i:Nat) (t wr:T Nat),writers os i t=some wr →
  (∀ d j,t.get d=some j→wr.get d=some j)∧∀ j o d,os[j]?=some o→o.dst=some d→wr.get d=some (i+j)
 |[],_,_,_,h=>by
  cases h
  exact ⟨fun _ _ h=>h,fun j o d h=>by simp at h⟩
 |x :: os, i, t, wr, h => by
  simp only [writers] at h
  split at h
  ·next d hd =>
   split at h
   ·cases h
   next hn =>
   obtain ⟨h1,h2⟩:=writers_spec os (i+1) _ wr h
   refine ⟨fun d' j hj=>h1 d' j ?_,fun j o d' ho hd'=>?_⟩
   ·rw [T.get_set,if_neg (fun e=>by subst e;rw [hn] at hj;cases hj)]
    exact hj
   ·cases j with
    |zero =>
     simp at ho
     subst ho
     rw [hd] at hd'
     cases hd'
     exact h1 d i (by rw [T.get_set,if_pos rfl])
    |succ j =>
     rw [show i+(j+1)=i+1+j from by omega]
     exact h2 j o d' (by simpa using ho) hd'
  ·next hd =>
   obtain ⟨h1,h2⟩:=writers_spec os (i+1) _ wr h
   refine ⟨h1,fun j o d' ho hd'=>?_⟩
   cases j with
   |zero =>
    simp at ho
    subst ho
    rw [hd] at hd'
    cases hd'
   |succ j =>
    rw [show i+(j+1)=i+1+j from by omega]
    exact h2 j o d' (by simpa using ho) hd'
structure RStat (all:List Oper) (an:T Nat):Prop where
 edge:∀ (i:Nat) (o:Oper),all[i]?=some o→∀ e∈o.after.toList,Region.binds .any e=true→e.on < i
 back:∀ (i:Nat) (o:Oper),all[i]?=some o→∀ j,(anc an i).testBit j=true→∃ e∈o.after.toList,Region.binds .any e=true∧(j=e.on∨(anc an e.on).testBit j=true)
 dst:∀ (i j:Nat) (o o':Oper) d,all[i]?=some o→all[j]?=some o'→o.dst=some d→o'.dst=some d→i=j
 look:∀ (i j:Nat) (o o':Oper) d,all[i]?=some o→all[j]?=some o'→o'.dst=some d→d∈looks all o→(anc an i).testBit j=true∨((anc an j).testBit i=true∧readOp o.op=false)
 chain:∀ (i j:Nat) (o o':Oper),all[i]?=some o→all[j]?=some o'→kin o.op=.loud→kin o'.op=.loud→j < i→(anc an i).testBit j=true
theorem RStat.lt {all:List Oper} {an:T Nat} (h:RStat all an):∀ (i:Nat),i < all.length→∀ j,(anc an i).testBit j=true→j < i:=by
 intro i
 induction i using Nat.strongRecOn with
 |_ i ih =>
  intro hi j hj
  have ho:=List.getElem?_eq_getElem hi
  obtain ⟨e,h1,h2,h3⟩:=h.back i _ ho j hj
  have h4:=h.edge i _ ho e h1 h2
  rcases h3 with h3 | h3
  ·omega
  ·have:=ih e.on h4 (by omega) j h3
   omega
end Go.Am
namespace Go.Pv
open Go.Am Go.RowKit
def lateP (M:Nat→Bool) (o:Oper):Bool :=
 match o.dst with
 |some d=>M (d+1000000)
 |none=>false
def loudP (M:Nat→Bool) (o:Oper):Bool :=
 match pkind M o with
 |.quiet=>lateP M o
 |.fresh=>lateP M o
 |.pick=>lateP M o
 |_=>true
def ppure (A : AP) (E : Eqs) (M : Nat → Bool) (ρ : Operand → Option PV) (h : PH) (o : Oper) : Option PV :=
 match pkind M o with
 |.quiet=>pquiet A E ρ h o.op
 |.fresh=>pfresh A ρ o.op
 |.pick=>match o.op with
  |.pick c a b=>match ρ c with
   |some (.lit (.bool q))=>match q with
    |true=>ρ a
    |false=>ρ b
   |_=>none
  |_=>none
 |_=>none
def readsP (o:Op):Bool :=
 match o with
 |.load _ _=>true
 |.lookup _ _ _ _=>true
 |.call _=>true
 |_=>false
section
variable {s:St} {A:AP} {P:Program} {E:Eqs} {w0:Base} {M:Nat→Bool}
theorem pargs_congr {ρ ρ':Operand→Option PV}:∀ {l:List Operand},(∀ x∈l,ρ x=ρ' x)→pargs ρ l=pargs ρ' l
 |[],_=>rfl
 |x::xs,h=>by simp only [pargs,h x (by simp),pargs_congr fun y hy=>h y (List.mem_cons_of_mem _ hy)]
theorem pparts_congr {ρ ρ':Operand→Option PV}:∀ {l:List (Nat×Operand)},(∀ x∈l,ρ x.2=ρ' x.2)→pparts ρ l=pparts ρ' l
 |[],_=>rfl
 |x::xs,h=>by simp only [pparts,h x (by simp),pparts_congr fun y hy=>h y (List.mem_cons_of_mem _ hy)]
theorem popt_congr {ρ ρ':Operand→Option PV} {x:Option Operand} (h:∀ y,x=some y→ρ y=ρ' y):popt ρ x=popt ρ' x:=by
 cases x with
 |none=>rfl
 |some y=>simp only [popt,h y rfl]
theorem parts_mem {ps:Array (Nat×Operand)} {ρ ρ':Operand→Option PV} (h:∀ x∈(List.map (fun x=>x.snd) ps.toList).toArray,ρ x=ρ' x):∀ x∈ps.toList,ρ x.2=ρ' x.2:=fun x hx=>h _ (by
 simp only [List.mem_toArray,List.mem_map]
 exact ⟨x,hx,rfl⟩)
theorem pquiet_congr {ρ ρ':Operand→Option PV} {h:PH} {o:Op} (hρ:∀ x∈o.operands,ρ x=ρ' x):pquiet A E ρ h o=pquiet A E ρ' h o:=by
 cases o<;>simp only [Op.operands] at hρ<;>simp only [pquiet]
 case build t ps=>rw [pparts_congr (parts_mem hρ)]
 case makeFunc f a b=>rw [pargs_congr (l:=a.toList) fun x hx=>hρ x (by simp at hx ⊢;exact .inl hx),pargs_congr (l:=b.toList) fun x hx=>hρ x (by simp at hx ⊢;exact .inr hx)]
 case slice t x lo hi mx =>
  rw [hρ x (by simp),popt_congr (x:=lo) fun y hy=>hρ y (by subst hy;simp),popt_congr (x:=hi) fun y hy=>hρ y (by subst hy;cases lo<;>simp)]
  cases mx with
  |none=>cases ρ' x<;>cases popt ρ' lo<;>cases popt ρ' hi<;>rfl
  |some m =>
   have hm:ρ m=ρ' m:=hρ m (by cases lo<;>cases hi<;>simp)
   cases ρ' x<;>rcases popt ρ' lo with _ | _ | _<;>rcases popt ρ' hi with _ | _ | _<;>first | rfl | simp only [hm]
 case call c =>
  have hargs:pargs ρ c.args.toList=pargs ρ' c.args.toList:=pargs_congr fun x hx=>hρ x (by
   simp only [Call.operands]
   cases c.callee<;>simp at hx ⊢<;>first | exact hx | exact .inr hx)
  rw [hargs]
 all_goals (first | rfl | (simp_all;done))
theorem pfresh_congr {ρ ρ':Operand→Option PV} {o:Op} (hρ:∀ x∈o.operands,ρ x=ρ' x):pfresh A ρ o=pfresh A ρ' o:=by
 cases o<;>simp only [Op.operands] at hρ<;>simp only [pfresh]
 case box t x=>rw [hρ x (by simp)]
 case buildSlice t n ps=>rw [pparts_congr (parts_mem hρ)]
theorem ploud_congr {ρ ρ':Operand→Option PV} {h:PH} {o:Op} {K:PV→PH→Prop} (hρ:∀ x∈o.operands,ρ x=ρ' x):ploud A E ρ h o K=ploud A E ρ' h o K:=by
 cases o<;>simp only [Op.operands] at hρ<;>simp only [ploud]
 case next x b=>cases b<;>simp_all [ploud]
 case makeMap t r=>cases r<;>rfl
 case call c =>
  have hargs:pargs ρ c.args.toList=pargs ρ' c.args.toList:=pargs_congr fun x hx=>hρ x (by
   simp only [Call.operands]
   cases c.callee<;>simp at hx ⊢<;>first | exact hx | exact .inr hx)
  rw [hargs]
 all_goals (first | rfl | (simp_all;done))
theorem pop_congr {t t':Nat→Option PV} {h:PH} {o:Oper} {K X:PV→PH→Prop} (hρ:∀ x∈o.op.operands,pev t x=pev t' x):pop A E P M t h o K X=pop A E P M t' h o K X:=by
 unfold pop
 rw [pquiet_congr hρ,pfresh_congr hρ,ploud_congr hρ]
 have hpick:∀ K,ppick (pev t) o.op K=ppick (pev t') o.op K:=by
  intro K
  unfold ppick
  split
  ·next c a b ho =>
   rw [ho] at hρ
   simp only [Op.operands] at hρ
   rw [hρ c (by simp),hρ a (by simp),hρ b (by simp)]
  ·rfl
 have hcall:pcallO A P (pev t) h o.op K X=pcallO A P (pev t') h o.op K X:=by
  unfold pcallO
  split
  ·next c ho =>
   rw [ho] at hρ
   simp only [Op.operands,Call.operands] at hρ
   have hargs:pargs (pev t) c.args.toList=pargs (pev t') c.args.toList:=pargs_congr fun x hx=>hρ x (by
    cases c.callee<;>simp at hx ⊢<;>first | exact hx | exact .inr hx)
   rw [hargs]
   split
   ·split
    ·next recv name hc=>rw [hρ recv (by simp [hc])]
    ·next f hc=>rw [hρ f (by simp [hc])]
    ·rfl
   ·rfl
  ·rfl
 have hpanic:ppanic (pev t) h o.op X=ppanic (pev t') h o.op X:=by
  unfold ppanic
  split
  ·next x ho =>
   rw [ho] at hρ
   rw [hρ x (by simp [Op.operands])]
  ·next c ho =>
   rw [ho] at hρ
   simp only [Op.operands,Call.operands] at hρ
   have hargs:pargs (pev t) c.args.toList=pargs (pev t') c.args.toList:=pargs_congr fun x hx=>hρ x (by
    cases c.callee<;>simp at hx ⊢<;>first | exact hx | exact .inr hx)
   rw [hargs]
  ·rfl
 rw [hpick,hcall,hpanic]
theorem ppure_congr {ρ ρ':Operand→Option PV} {h:PH} {o:Oper} (hρ:∀ x∈o.op.operands,ρ x=ρ' x):ppure A E M ρ h o=ppure A E M ρ' h o:=by
 unfold ppure
 rw [pquiet_congr hρ,pfresh_congr hρ]
 split
 ·rfl
 ·rfl
 ·split
  ·next c a b ho =>
   rw [ho] at hρ
   simp only [Op.operands] at hρ
   rw [hρ c (by simp),hρ a (by simp),hρ b (by simp)]
  ·rfl
 ·rfl
theorem ppure_heap {ρ:Operand→Option PV} {h h':PH} {o:Oper} (hr:readsP o.op=false):ppure A E M ρ h o=ppure A E M ρ h' o:=by
 unfold ppure
 split
 ·cases ho:o.op<;>rw [ho] at hr<;>simp only [readsP,Bool.true_eq_false] at hr<;>simp only [pquiet]
 ·rfl
 ·rfl
 ·rfl
theorem ppure_reads {ρ:Operand→Option PV} {h:PH} {o:Oper} (hr:readsP o.op=true) {v:PV} (hp:ppure A E M ρ h o=some v):ppure A E M ρ h o=pquiet A E ρ h o.op:=by
 unfold ppure at hp ⊢
 split at hp
 ·rfl
 ·exfalso
  revert hp
  cases ho:o.op<;>rw [ho] at hr<;>simp only [readsP,Bool.false_eq_true] at hr<;>simp [pfresh]
 ·exfalso
  revert hp
  cases ho:o.op<;>rw [ho] at hr<;>simp only [readsP,Bool.false_eq_true] at hr<;>simp
 ·cases hp
theorem pop_pure {t:Nat→Option PV} {h:PH} {o:Oper} {K X:PV→PH→Prop} (hl:loudP M o=false) (hp:pop A E P M t h o K X):∃ v,ppure A E M (pev t) h o=some v∧K v h:=by
 unfold pop at hp
 unfold ppure
 unfold loudP at hl
 split at hp<;>rename_i hk<;>simp only [hk] at hl ⊢<;>first
  |(cases hl;done)
  |exact PDo_iff.1 hp
  |skip
 unfold ppick at hp
 split at hp
 case h_2=>exact hp.elim
 next c a b ho =>
 split at hp
 case h_2=>exact hp.elim
 next q hq =>
 simp only [ho,hq]
 cases q with
 |true=>exact PDo_iff.1 hp
 |false=>exact PDo_iff.1 hp
theorem ppure_ok (hA:A.Ok P) (hE:E.Ok P) (hw:PW w0 s) {ρ:Operand→Option PV} {ρ':Operand→Value} (hρ:∀ x v,ρ x=some v→RV s v (ρ' x)) {o:Oper} {v:PV} (h:ppure A E M ρ s.h o=some v) :
  ∃ x s',(execOp ρ' o).run P s.w=.ok (.value x) s'.w∧PW w0 s'∧Ext s s'∧s'.h=s.h∧RV s' v x:=by
 unfold ppure at h
 split at h
 ·obtain ⟨r,r1,r2⟩:=pquiet_ok hA hE hw hρ h
  exact ⟨r,s,r1,hw,Ext.refl s,rfl,r2⟩
 ·obtain ⟨r,s',r1,r2,r3,r4,r5⟩:=pfresh_ok hA hw hρ h
  exact ⟨r,s',r1,r2,r3,r4,r5⟩
 ·split at h
  case h_2=>cases h
  next c a b ho =>
  split at h
  case h_2=>cases h
  next q hq =>
  have hqv:=(RV_lit.1 (hρ _ _ hq)).2
  simp only [VR] at hqv
  cases q with
  |true=>exact ⟨ρ' a,s,by simp [execOp,ho,hqv,asBool],hw,Ext.refl s,rfl,hρ _ _ h⟩
  |false=>exact ⟨ρ' b,s,by simp [execOp,ho,hqv,asBool],hw,Ext.refl s,rfl,hρ _ _ h⟩
 ·cases h
theorem ppure_nodefer {ρ:Operand→Option PV} {h:PH} {o:Oper} {v:PV} (hp:ppure A E M ρ h o=some v):∀ c,o.op≠.defer c:=by
 intro c hc
 simp [ppure,pkind,hc,pquiet] at hp
end
end Go.Pv
namespace Go.Pv
open Go.Am Go.RowKit
def loudAt (M:Nat→Bool) (all:List Oper) (i:Nat):Bool :=
 match all[i]? with
 |some o=>loudP M o
 |none=>false
def ready1 (M:Nat→Bool) (an:T Nat) (lw:Bool) (seen:Nat):List Oper→Nat→Option Nat
 |[],_=>none
 |o::os,i=>match seen.testBit i,loudP M o == lw,Nat.beq (Nat.land (anc an i) seen) (anc an i) with
  |false,true,true=>some i
  |_,_,_=>ready1 M an lw seen os (i+1)
def asap (M:Nat→Bool) (an:T Nat) (all:List Oper):Nat→Nat→List Nat
 |0,_=>[]
 |f+1,seen=>match ready1 M an false seen all 0 with
  |some i=>i::asap M an all f (Nat.lor seen (2 ^ i))
  |none=>match ready1 M an true seen all 0 with
   |some i=>i::asap M an all f (Nat.lor seen (2 ^ i))
   |none=>[]
def ordOk (M:Nat→Bool) (an:T Nat) (all:List Oper):Nat→Nat→List Nat→Bool
 |seen,_,[]=>Nat.beq seen (2 ^ all.length - 1)
 |seen,ls,i::rest=>match Nat.blt i all.length && !seen.testBit i && Nat.beq (Nat.land (anc an i) seen) (anc an i) && Nat.beq (Nat.land (anc an i) ls) ls with
  |true=>ordOk M an all (Nat.lor seen (2 ^ i)) (match loudAt M all i with
   |true=>Nat.lor ls (2 ^ i)
   |false=>ls) rest
  |false=>false
structure Ord (M:Nat→Bool) (an:T Nat) (all:List Oper) (ord:List Nat):Prop where
 at_:∀ a i c,ord=a++i::c→i < all.length∧i ∉ a∧(∀ j,(anc an i).testBit j=true→j∈a)∧∀ l∈a,loudAt M all l=true→(anc an i).testBit l=true
 mem:∀ i,i < all.length→i∈ord
theorem land_sub {x y:Nat} (h:Nat.beq (Nat.land x y) x=true) {j:Nat} (hj:x.testBit j=true):y.testBit j=true:=by
 have h:=Nat.eq_of_beq_eq_true h
 have h2:(x &&& y).testBit j=x.testBit j:=congrArg (·.testBit j) h
 rw [Nat.testBit_and,hj] at h2
 simpa using h2
theorem bit_lor (x i j:Nat):(Nat.lor x (2 ^ i)).testBit j=(x.testBit j || decide (i=j)):=by
 show (x ||| 2 ^ i).testBit j=_
 rw [Nat.testBit_or,Nat.testBit_two_pow]
theorem ordOk_spec {M:Nat→Bool} {an:T Nat} {all:List Oper}:∀ (rest a:List Nat) (seen ls:Nat),ordOk M an all seen ls rest=true→(∀ j,seen.testBit j=true↔j∈a)→(∀ j,ls.testBit j=true↔j∈a∧loudAt M all j=true) →
  (∀ b i c,rest=b++i::c→i < all.length∧i ∉ a++b∧(∀ j,(anc an i).testBit j=true→j∈a++b)∧∀ l∈a++b,loudAt M all l=true→(anc an i).testBit l=true)∧∀ i,i < all.length→i∈a++rest
 |[],a,seen,ls,h,h1,h2=>by
  refine ⟨fun b i c e=>by simp at e,fun i hi=>?_⟩
  simp only [ordOk] at h
  have h:=Nat.eq_of_beq_eq_true h
  rw [List.append_nil,← h1,h,Nat.testBit_two_pow_sub_one]
  simpa using hi
 |x :: rest, a, seen, ls, h, h1, h2 => by
  simp only [ordOk] at h
  split at h
  case h_2=>cases h
  next hx =>
  simp only [Bool.and_eq_true,Bool.not_eq_true'] at hx
  obtain ⟨⟨⟨x1,x2⟩,x3⟩,x4⟩:=hx
  have hxa:x ∉ a:=fun hc=>by rw [(h1 x).2 hc] at x2;cases x2
  obtain ⟨p1,p2⟩:=ordOk_spec rest (a++[x]) _ _ h
   (fun j => by
    rw [bit_lor,Bool.or_eq_true,h1,decide_eq_true_eq,List.mem_append,List.mem_singleton]
    exact ⟨fun h=>h.imp id Eq.symm,fun h=>h.imp id Eq.symm⟩)
   (fun j => by
    split
    ·next hl =>
     rw [bit_lor,Bool.or_eq_true,h2,decide_eq_true_eq,List.mem_append,List.mem_singleton]
     constructor
     ·rintro (⟨q1,q2⟩ | rfl)
      ·exact ⟨.inl q1,q2⟩
      ·exact ⟨.inr rfl,hl⟩
     ·rintro ⟨q1 | rfl,q2⟩
      ·exact .inl ⟨q1,q2⟩
      ·exact .inr rfl
    ·next hl =>
     rw [h2,List.mem_append,List.mem_singleton]
     constructor
     ·exact fun ⟨q1,q2⟩=>⟨.inl q1,q2⟩
     ·rintro ⟨q1 | rfl,q2⟩
      ·exact ⟨q1,q2⟩
      ·rw [hl] at q2;cases q2)
  refine ⟨fun b i c e=>?_,fun i hi=>by have:=p2 i hi;rwa [List.append_assoc,List.singleton_append] at this⟩
  cases b with
  |nil =>
   simp only [List.nil_append,List.cons.injEq] at e
   obtain ⟨rfl,rfl⟩:=e
   rw [List.append_nil]
   exact ⟨(T.blt_iff _ _).1 x1,hxa,fun j hj=>(h1 j).1 (land_sub x3 hj),fun l hl hll=>by
    have h4:=Nat.eq_of_beq_eq_true x4
    have h5:(anc an x &&& ls).testBit l=ls.testBit l:=congrArg (·.testBit l) h4
    rw [Nat.testBit_and,(h2 l).2 ⟨hl,hll⟩] at h5
    simpa using h5⟩
  |cons y b =>
   simp only [List.cons_append,List.cons.injEq] at e
   obtain ⟨rfl,rfl⟩:=e
   have:=p1 b i c rfl
   rwa [List.append_assoc,List.singleton_append] at this
theorem ord_of {M:Nat→Bool} {an:T Nat} {all:List Oper} {ord:List Nat} (h:ordOk M an all 0 0 ord=true):Ord M an all ord:=by
 obtain ⟨p1,p2⟩:=ordOk_spec ord [] 0 0 h (fun j=>by simp) (fun j=>by simp)
 exact ⟨fun a i c e=>by simpa using p1 a i c e,fun i hi=>by simpa using p2 i hi⟩
def looksM (M:Nat→Bool) (all:List Oper) (an wr:T Nat):List Oper→Nat→Bool
 |[],_=>true
 |o::os,i=>match (looks all o).all (fun t=>match wr.get t with
   |some j=>(anc an i).testBit j || (M (t+1000000) && (anc an j).testBit i)
   |none=>true) with
  |true=>looksM M all an wr os (i+1)
  |false=>false
def pstat (M:Nat→Bool) (ops:List Oper):Option (T Nat) :=
 match edgesOk ops 0 with
 |false=>none
 |true=>match writers ops 0 .nil with
  |none=>none
  |some wr=>match looksM M ops (ancs ops 0 .nil) wr ops 0 with
   |true=>some (ancs ops 0 .nil)
   |false=>none
structure PStat (M:Nat→Bool) (all:List Oper) (an:T Nat):Prop where
 dst:∀ (i j:Nat) (o o':Oper) d,all[i]?=some o→all[j]?=some o'→o.dst=some d→o'.dst=some d→i=j
 look:∀ (i j:Nat) (o o':Oper) d,all[i]?=some o→all[j]?=some o'→o'.dst=some d→d∈looks all o→(anc an i).testBit j=true∨(M (d+1000000)=true∧(anc an j).testBit i=true)
structure PEdge (all:List Oper) (an:T Nat):Prop where
 edge:∀ (i:Nat) (o:Oper),all[i]?=some o→∀ e∈o.after.toList,Region.binds .any e=true→e.on < i
 back:∀ (i:Nat) (o:Oper),all[i]?=some o→∀ j,(anc an i).testBit j=true→∃ e∈o.after.toList,Region.binds .any e=true∧(j=e.on∨(anc an e.on).testBit j=true)
theorem looksM_spec (M:Nat→Bool) (all:List Oper) (an wr:T Nat):∀ (os:List Oper) (i:Nat),looksM M all an wr os i=true →
  ∀ j o,os[j]?=some o→∀ x∈looks all o,∀ w,wr.get x=some w→(anc an (i+j)).testBit w=true∨(M (x+1000000)=true∧(anc an w).testBit (i+j)=true)
 |[],_,_,j,o,h=>by simp at h
 |y::os,i,hk,j,o,h=>by
  simp only [looksM] at hk
  split at hk
  case h_2=>cases hk
  next hy =>
  cases j with
  |zero =>
   simp at h
   subst h
   intro x hx w hw
   have:=List.all_eq_true.1 hy x hx
   simpa [hw] using this
  |succ j =>
   rw [show i+(j+1)=i+1+j from by omega]
   exact looksM_spec M all an wr os (i+1) hk j o (by simpa using h)
theorem pstat_edge {M:Nat→Bool} {all:List Oper} {an:T Nat} (h:pstat M all=some an):PEdge all an:=by
 unfold pstat at h
 split at h
 ·cases h
 next he =>
 split at h
 ·cases h
 next wr hw =>
 split at h
 case h_2=>cases h
 next hx =>
 cases h
 obtain ⟨_,ha⟩:=ancs_spec all 0 .nil he
 have hes:=edges_spec all 0 he
 refine ⟨fun i o ho e h1 h2=>by simpa using hes i o ho e h1 h2,fun i o ho j hj=>?_⟩
 have h1:=ha i o ho
 rw [Nat.zero_add] at h1
 have h2:anc (ancs all 0 .nil) i=ancOf (ancs all 0 .nil) o.after.toList 0:=by unfold anc;rw [h1];rfl
 rw [h2,bit_ancOf] at hj
 rcases hj with hj | hj
 ·simp at hj
 ·exact hj
theorem pstat_ok {M:Nat→Bool} {all:List Oper} {an:T Nat} (h:pstat M all=some an):PStat M all an:=by
 unfold pstat at h
 split at h
 ·cases h
 next he =>
 split at h
 ·cases h
 next wr hw =>
 split at h
 case h_2=>cases h
 next hx =>
 cases h
 have hws:=(writers_spec all 0 .nil wr hw).2
 refine ⟨fun i j o o' d ho ho' hd hd'=>?_,fun i j o o' d ho ho' hd hl=>?_⟩
 ·have h1:=hws i o d ho hd
  have h2:=hws j o' d ho' hd'
  rw [h1] at h2
  simpa using h2
 ·have:=looksM_spec M all _ wr all 0 hx i o ho d hl _ (hws j o' d ho' hd)
  simp only [Nat.zero_add] at this
  exact this
theorem late_loud {M:Nat→Bool} {o:Oper} {d:Nat} (hd:o.dst=some d) (h:M (d+1000000)=true):loudP M o=true:=by
 have h3:lateP M o=true:=by simp [lateP,hd,h]
 unfold loudP
 split<;>first | exact h3 | rfl
def gst (all : List Oper) (t : T PV) (o : Oper) : Option Bool :=
 match o.guard with
 |none=>some true
 |some (j,want)=>match all[j]? with
  |none=>none
  |some p=>match p.dst with
   |none=>none
   |some d=>match t.get d with
    |some (.lit (.bool q))=>match want with
     |true=>some q
     |false=>some (!q)
    |some (.tup [])=>some false
    |_=>none
def still (A:AP) (E:Eqs) (an:T Nat) (i:Nat) (t:T PV) (h:PH):List (Nat×Oper×PV)→Prop
 |[]=>True
 |r::l=>(match (anc an i).testBit r.1 with
  |true=>True
  |false=>pquiet A E (pev t.get) h r.2.1.op=some r.2.2)∧still A E an i t h l
def stillP (A:AP) (E:Eqs) (M:Nat→Bool) (an:T Nat) (i:Nat) (o:Oper) (t:T PV) (h:PH) (rds:List (Nat×Oper×PV)):Prop :=
 match loudP M o with
 |true=>still A E an i t h rds
 |false=>True
def addRd (i:Nat) (o:Oper) (v:PV) (rds:List (Nat×Oper×PV)):List (Nat×Oper×PV) :=
 match readsP o.op with
 |true=>(i,o,v)::rds
 |false=>rds
def pdrawF (A:AP) (E:Eqs) (P:Program) (M:Nat→Bool) (sz:Nat) (an:T Nat) (all:List Oper):List Nat→List (Nat×Oper×PV)→T PV→PH→(T PV→PH→Prop)→(PV→PH→Prop)→Prop
 |[],_,t,h,K,_=>K t h
 |i::rest,rds,t,h,K,X=>match all[i]? with
  |none=>False
  |some o=>match dstIn sz o.dst,gst all t o with
   |true,some g=>PIf g (pop A E P M t.get h o (fun v h'=>stillP A E M an i o t h' rds∧pdrawF A E P M sz an all rest (addRd i o v rds) (tput t o.dst v) h' K X) X)
     (pdrawF A E P M sz an all rest rds (tput t o.dst (.tup [])) h K X)
   |_,_=>False
def pdraw (A:AP) (E:Eqs) (P:Program) (M:Nat→Bool) (sz:Nat) (ops:List Oper) (t:T PV) (h:PH) (K:T PV→PH→Prop) (X:PV→PH→Prop):Prop :=
 match pstat M ops with
 |none=>False
 |some an=>match ordOk M an ops 0 0 (asap M an ops ops.length 0) with
  |true=>pdrawF A E P M sz an ops (asap M an ops ops.length 0) [] t h K X
  |false=>False
section
variable {A:AP} {P:Program} {E:Eqs} {w0:Base} {M:Nat→Bool} {sz:Nat} {an:T Nat} {all:List Oper} {ord:List Nat}
def Fact (A:AP) (E:Eqs) (M:Nat→Bool) (sz:Nat) (all:List Oper) (t:T PV) (h:PH) (rds:List (Nat×Oper×PV)) (i:Nat) (o:Oper):Prop :=
 dstIn sz o.dst=true∧((gst all t o=some false∧∀ d,o.dst=some d→t.get d=some (.tup [])) ∨
  (gst all t o=some true∧∃ v,ppure A E M (pev t.get) h o=some v∧(∀ d,o.dst=some d→t.get d=some v)∧(readsP o.op=true→(i,o,v)∈rds)))
theorem mem_looks_op {o:Oper} {x:Nat} (h:Operand.tmp x∈o.op.operands):x∈looks all o:=by
 have h1:x∈tmpsOf o.op.operands.toList:=by
  simp only [tmpsOf,List.mem_filterMap]
  exact ⟨.tmp x,by simpa using h,rfl⟩
 unfold looks
 split
 ·split
  ·split
   ·exact List.mem_cons_of_mem _ h1
   ·exact h1
  ·exact h1
 ·exact h1
theorem mem_looks_guard {o p:Oper} {j:Nat} {want:Bool} {d:Tmp} (hg:o.guard=some (j,want)) (hp:all[j]?=some p) (hd:p.dst=some d):d∈looks all o:=by
 simp [looks,hg,hp,hd]
theorem pev_eq {t t':Nat→Option PV} {o:Oper} (h:∀ x∈looks all o,t x=t' x):∀ x∈o.op.operands,pev t x=pev t' x:=by
 intro x hx
 cases x with
 |tmp i=>exact h i (mem_looks_op hx)
 |_=>rfl
theorem gst_eq {t t':T PV} {o:Oper} (h:∀ x∈looks all o,t.get x=t'.get x):gst all t o=gst all t' o:=by
 unfold gst
 split
 ·rfl
 ·next j want hg =>
  split
  ·rfl
  ·next p hp =>
   split
   ·rfl
   ·next d hd=>rw [h d (mem_looks_guard hg hp hd)]
theorem Fact.same {t t':T PV} {h:PH} {rds rds':List (Nat×Oper×PV)} {i:Nat} {o:Oper} (hf:Fact A E M sz all t h rds i o) (h1:∀ x∈looks all o,t.get x=t'.get x) (h2:∀ d,o.dst=some d→t'.get d=t.get d)
  (h3:∀ r∈rds,r∈rds'):Fact A E M sz all t' h rds' i o:=by
 obtain ⟨p1,p2⟩:=hf
 refine ⟨p1,?_⟩
 rw [← gst_eq h1]
 rcases p2 with ⟨q1,q2⟩ | ⟨q1,v,q2,q3,q4⟩
 ·exact .inl ⟨q1,fun d hd=>(h2 d hd).trans (q2 d hd)⟩
 ·exact .inr ⟨q1,v,by rw [← ppure_congr (pev_eq (all:=all) h1)];exact q2,fun d hd=>(h2 d hd).trans (q3 d hd),fun hr=>h3 _ (q4 hr)⟩
theorem tput_ne {t:T PV} {d:Option Tmp} {v:PV} {x:Nat} (h:d≠some x):(tput t d v).get x=t.get x:=by
 cases d with
 |none=>rfl
 |some d=>simp only [tput,T.get_set];rw [if_neg (fun e=>h (by rw [e]))]
theorem tput_self {t:T PV} {d:Tmp} {v:PV}:(tput t (some d) v).get d=some v:=by
 simp only [tput,T.get_set,if_true]
theorem Ord.before (hO:Ord M an all ord) (hS:PStat M all an) {pre rest:List Nat} {i j:Nat} (e:ord=pre++i::rest) (hj:j∈pre):(anc an j).testBit i=false:=by
 obtain ⟨a,c,rfl⟩:=List.append_of_mem hj
 cases hb:(anc an j).testBit i with
 |false=>rfl
 |true =>
  have h1:=hO.at_ a j (c++i::rest) (by rw [e];simp)
  have h2:=h1.2.2.1 i hb
  have h3:=hO.at_ (a++j::c) i rest (by rw [e])
  exact absurd (List.mem_append_left _ h2) h3.2.1
theorem Ord.apart (hO:Ord M an all ord) (hS:PStat M all an) {pre rest:List Nat} {i j:Nat} {o p:Oper} (e:ord=pre++i::rest) (hj:j∈pre) (ho:all[i]?=some o) (hp:all[j]?=some p) (hx:loudP M o=true→(anc an i).testBit j=false) {v:PV} {t:T PV} :
  (∀ x∈looks all p,t.get x=(tput t o.dst v).get x)∧∀ d,p.dst=some d→(tput t o.dst v).get d=t.get d:=by
 refine ⟨fun x hxl=>(tput_ne fun hd=>?_).symm,fun d hd=>tput_ne fun hd'=>?_⟩
 ·rcases hS.look j i p o x hp ho hd hxl with this | ⟨h1,h2⟩
  ·rw [hO.before hS e hj] at this
   cases this
  ·rw [hx (late_loud hd h1)] at h2
   cases h2
 ·have:=hS.dst i j o p d ho hp hd' hd
  subst this
  exact (hO.at_ pre i rest e).2.1 hj
theorem absorb (hO:Ord M an all ord) (hS:PStat M all an) {h:PH} {K:T PV→PH→Prop} {X:PV→PH→Prop} (Dn:Nat→Prop):∀ (rest pre:List Nat) (rds:List (Nat×Oper×PV)) (t:T PV),ord=pre++rest→pdrawF A E P M sz an all rest rds t h K X →
  (∀ i∈pre,¬ Dn i→∀ o,all[i]?=some o→Fact A E M sz all t h rds i o) →
  ∃ pre' rest' rds' t',ord=pre'++rest'∧(∀ i∈pre,i∈pre')∧(rest'=[]∨∃ i r o,rest'=i::r∧all[i]?=some o∧loudP M o=true)∧pdrawF A E P M sz an all rest' rds' t' h K X ∧
   (∀ i∈pre',¬ Dn i→∀ o,all[i]?=some o→Fact A E M sz all t' h rds' i o)∧(∀ i∈pre',loudAt M all i=true→i∈pre) ∧
   ∀ x,(∀ i∈pre',i ∉ pre→∀ o,all[i]?=some o→o.dst≠some x)→t'.get x=t.get x
 |[],pre,rds,t,e,hp,hf=>⟨pre,[],rds,t,e,fun _ h=>h,.inl rfl,hp,hf,fun _ h _=>h,fun _ _=>rfl⟩
 |i :: rest, pre, rds, t, e, hp, hf => by
  have hp0:=hp
  simp only [pdrawF] at hp
  split at hp
  ·exact hp.elim
  next o ho =>
  cases hl:loudP M o with
  |true=>exact ⟨pre,i::rest,rds,t,e,fun _ h=>h,.inr ⟨i,rest,o,rfl,ho,hl⟩,hp0,hf,fun _ h _=>h,fun _ _=>rfl⟩
  |false =>
   split at hp
   case h_2=>exact hp.elim
   next g hd hg =>
   have hat:=hO.at_ pre i rest e
   have e':ord=(pre++[i])++rest:=by rw [e];simp
   have hlook:∀ x∈looks all o,o.dst≠some x:=fun x hx hdx=>by
    have:(anc an i).testBit i=true:=(hS.look i i o o x ho ho hdx hx).elim id fun h=>h.2
    exact absurd (hat.2.2.1 i this) hat.2.1
   have go:∀ (v:PV) (rds2:List (Nat×Oper×PV)),pdrawF A E P M sz an all rest rds2 (tput t o.dst v) h K X→(∀ r∈rds,r∈rds2)→Fact A E M sz all (tput t o.dst v) h rds2 i o →
     ∃ pre' rest' rds' t',ord=pre'++rest'∧(∀ i∈pre,i∈pre')∧(rest'=[]∨∃ i r o,rest'=i::r∧all[i]?=some o∧loudP M o=true)∧pdrawF A E P M sz an all rest' rds' t' h K X ∧
      (∀ i∈pre',¬ Dn i→∀ o,all[i]?=some o→Fact A E M sz all t' h rds' i o)∧(∀ i∈pre',loudAt M all i=true→i∈pre) ∧
      ∀ x,(∀ i∈pre',i ∉ pre→∀ o,all[i]?=some o→o.dst≠some x)→t'.get x=t.get x:=by
    intro v rds2 hF hr hfi
    obtain ⟨pre',rest',rds',t',q1,q2,q3,q4,q5,q6,q7⟩:=absorb hO hS Dn rest (pre++[i]) rds2 (tput t o.dst v) e' hF (fun j hj hn p hpj=>by
     rcases List.mem_append.1 hj with hj | hj
     ·have ha:=hO.apart (v:=v) (t:=t) hS e hj ho hpj (fun hc=>by rw [hl] at hc;cases hc)
      exact (hf j hj hn p hpj).same ha.1 ha.2 hr
     ·rw [List.mem_singleton] at hj
      subst hj
      rw [ho] at hpj
      cases hpj
      exact hfi)
    have hipre:i∈pre':=q2 i (by simp)
    refine ⟨pre',rest',rds',t',q1,fun j hj=>q2 j (by simp [hj]),q3,q4,q5,fun j hj hlj=>?_,fun x hx=>?_⟩
    ·rcases List.mem_append.1 (q6 j hj hlj) with h1 | h1
     ·exact h1
     ·rw [List.mem_singleton] at h1
      subst h1
      simp only [loudAt,ho,hl] at hlj
      cases hlj
    ·rw [q7 x fun j hj hjn p hpj=>hx j hj (fun hc=>hjn (by simp [hc])) p hpj]
     exact tput_ne (hx i hipre hat.2.1 o ho)
   rcases PIf_iff.1 hp with ⟨hp1,hp2⟩
   cases g with
   |false =>
    refine go (.tup []) rds (hp2 rfl) (fun _ h=>h) ⟨hd,.inl ⟨?_,fun d hdd=>?_⟩⟩
    ·rw [← gst_eq (t:=t) fun x hx=>(tput_ne (hlook x hx)).symm]
     exact hg
    ·rw [hdd];exact tput_self
   |true =>
    obtain ⟨v,v1,_,v2⟩:=pop_pure hl (hp1 rfl)
    refine go v (addRd i o v rds) v2 (fun r hr=>?_) ⟨hd,.inr ⟨?_,v,?_,fun d hdd=>?_,fun hrd=>?_⟩⟩
    ·unfold addRd
     split
     ·exact List.mem_cons_of_mem _ hr
     ·exact hr
    ·rw [← gst_eq (t:=t) fun x hx=>(tput_ne (hlook x hx)).symm]
     exact hg
    ·rw [← ppure_congr (pev_eq (all:=all) fun x hx=>(tput_ne (hlook x hx)).symm)]
     exact v1
    ·rw [hdd];exact tput_self
    ·simp [addRd,hrd]
end
end Go.Pv
