/- Parts of the proof: Pv63, Pv64, Pv45, Pv46, Pv47, Pv65 -/
import Derived.Test.YtkabfhoicdeehaaGreatP12
set_option linter.unusedVariables false
set_option linter.unusedSimpArgs false
set_option linter.unusedSectionVars false
namespace Go.Pv
open Go.Am Go.RowKit
section
variable {C:Cx} {F:EQ} {X:EX} {k:List KI} {e:EL} {ds:List Nat} {h:PH} {K:PV→PH→Prop} {n:Nat} {l:HL}
variable {d:Option Tmp} {type:TypeId} {pos:String} {after:Array Edge} {guard:Option (Nat×Bool)}
end
end Go.Pv
namespace Go.Pv
open Go.Am Go.RowKit
def isNilSl (x:Operand):Bool :=
 match x with
 |.const (.slice none _ _)=>true
 |_=>false
def nilc (A:AP) (t:Nat→Option PV) (h:PH) (o:Oper) (K:PV→PH→Prop):Prop :=
 match o.op with
 |.binOp .eql ty x y _=>isNilSl y=true∧(∃ e,A.under ty=some (.slice e))∧∃ tl vs,pev t x=some (.sl tl vs)∧∀ b:Bool,(vs≠[]→b=false)→K (.lit (.bool b)) h
 |_=>False
section
variable {s:St} {A:AP} {P:Program} {E:Eqs} {w0:Base} {M:Nat→Bool} {sz:Nat} {b:Frame} {k:List Item} {cs:List Frame}
theorem op_goN (hw:PW w0 s) {t:T PV} {arr:Array Value} (ht:TV s t.get arr) {o:Oper} {K X:PV→PH→Prop}
  {ops:Array Oper} {i:Nat} {rest:List Nat} {dl:List Deferred} (hd:Did P w0 s K X ((execOp (on b arr dl (.inRegion ops (i::rest)::k)).eval o).run P s.w)) (hnd:∀ c,o.op≠.defer c) (ho:ops[i]?=some o) (hwt:Region.wanted o (yielded ops arr)=true) (hm:b.mode=.run) :
  (∃ x v s',PW w0 s'∧Ext s s'∧RV s' v x∧K v s'.h∧Steps P (lone (on b arr dl (.inRegion ops (i::rest)::k)) cs s.w) (lone (on b (putA arr o.dst x) dl (.inRegion ops rest::k)) cs s'.w)) ∨
  ∃ x v s' todo,PW w0 s'∧Ext s s'∧RV s' v x∧X v s'.h∧Steps P (lone (on b arr dl (.inRegion ops (i::rest)::k)) cs s.w) (lone { on b arr dl todo with mode:=.panicking [{ v:=x,recovered:=false }] } cs s'.w):=by
 have hexec:=exec_op (P:=P) (fr:=on b arr dl (.inRegion ops (i::rest)::k)) (cs:=cs) (w:=s.w) (k:=k) rfl ho hwt (.inr hnd)
 have hst:=stepG_run (P:=P) (fr:=on b arr dl (.inRegion ops (i::rest)::k)) (cs:=cs) (w:=s.w) hm
 rcases hd with ⟨x,v,s',h1,h2,h3,h4,h5⟩ | hgo | ⟨x,v,h1,h2,h3⟩
 ·refine .inl ⟨x,v,s',h2,h3,h4,h5,.one (step_lone_go ?_)⟩
  rw [hst,hexec,← on_finish ho]
  rcases h1 with h1 | ⟨h1,rfl⟩
  ·exact apply_value h1
  ·exact apply_skip h1
 ·generalize hr:(execOp (on b arr dl (.inRegion ops (i::rest)::k)).eval o).run P s.w=r at hgo
  cases r with
  |halt x w=>exact hgo.elim
  |ok nx w =>
   cases nx<;>try exact hgo.elim
   ·next g xs =>
    obtain ⟨e,w',fr',he,hc,_,hlv⟩:=hgo (on b arr dl (.inRegion ops (i::rest)::k)::cs)
    obtain ⟨s',e1,e2,e3,e4⟩:=he
    subst e1
    have henter:step P (lone (on b arr dl (.inRegion ops (i::rest)::k)) cs s.w)=.next (lone (Frame.enter P g xs .normal) (on b arr dl (.inRegion ops (i::rest)::k)::cs) w):=by
     refine step_lone_go ?_
     rw [hst,hexec]
     exact apply_enter (fun d r sv k' hc=>by simp [on] at hc) hr
    cases e with
    |returned x =>
     obtain ⟨v,v1,v2⟩:=e4
     refine .inl ⟨x,v,s',e2,e3,v1,v2,.head henter (Steps.trans hc (.one ?_))⟩
     rw [← on_finish ho]
     exact step_leave_returned hlv
    |panicked ch =>
     obtain ⟨v,x,rfl,v1,v2⟩:=e4
     refine .inr ⟨x,v,s',.inRegion ops (i::rest)::k,e2,e3,v1,v2,.head henter (Steps.trans hc (.one ?_))⟩
     rw [← on_raise hm]
     exact step_leave_panicked hlv
    |outgrown=>exact e4.elim
   ·next l f tmps asg body =>
    have henter:step P (lone (on b arr dl (.inRegion ops (i::rest)::k)) cs s.w)=.next (lone (Frame.round l f tmps asg body .normal) (on b arr dl (.inRegion ops (i::rest)::k)::cs) w):=by
     refine step_lone_go ?_
     rw [hst,hexec]
     exact apply_round hr
    rcases hgo (on b arr dl (.inRegion ops (i::rest)::k)) cs with ⟨x,w',⟨s',e1,e2,e3,v,v1,v2⟩,hs⟩ | ⟨ch,w',⟨s',e1,e2,e3,v,x,rfl,v1,v2⟩,hs⟩
    ·subst e1
     refine .inl ⟨x,v,s',e2,e3,v1,v2,.head henter ?_⟩
     rw [← on_finish ho]
     exact hs
    ·subst e1
     refine .inr ⟨x,v,s',.inRegion ops (i::rest)::k,e2,e3,v1,v2,.head henter ?_⟩
     rw [← on_raise hm]
     exact hs
 ·refine .inr ⟨x,v,s,.inRegion ops (i::rest)::k,hw,Ext.refl s,h2,h3,.one (step_lone_go ?_)⟩
  rw [hst,hexec,← on_raise hm]
  exact apply_panic h1
end
section
variable {C:Cx} {F:EQ} {X:EX} {k:List KI} {e:EL} {ds:List Nat} {h:PH}
end
end Go.Pv
namespace Go.Pv
open Go.Am Go.RowKit
section
variable {C:Cx} {F:EQ} {X:EX} {k:List KI} {e:EL} {ds:List Nat} {h:PH}
theorem StabS.at {t:TypeId} {a:Operand} {i o:Nat} {g:Option PBlk} {dd:Option Nat} {type:TypeId} {pos:String} {after:Array Edge} {guard:Option (Nat×Bool)} (ha:pev (lget e) a=some (.ptr i o)):StabS C.A C.E (fun h=>h.get i=g) (lget e) { dst:=dd,op:=.load t a,type,pos,after,guard }:=by
 intro h h' h1 h2
 simp only [pquiet,ha]
 unfold pload
 simp only [h1,h2]
end
end Go.Pv
namespace Go.Pv
open Go.Am Go.RowKit
section
variable {s:St} {A:AP} {P:Program} {E:Eqs} {w0:Base} {M:Nat→Bool} {sz:Nat} {b:Frame} {k:List Item} {cs:List Frame}
theorem preg_go2 (hA:A.Ok P) (hE:E.Ok P) (hm:b.mode=.run) {ops:Array Oper} {Q:PQ} {X:T PV→List Nat→PV→PH→Prop} {ds:List Nat} {tl:T PV} (os2:List Oper):∀ (os:List Oper) (i:Nat) (s:St) (t:T PV) (arr:Array Value),ops.toList.drop i=os++os2 →
  preg A E P M sz ops.toList os t s.h (fun t h=>preg A E P M sz ops.toList os2 t h (fun t h=>Q .normal t ds h) (X (tless t os2) ds)) (X tl ds)→PW w0 s→TV s t.get arr→(TV s tl.get arr∧∀ o∈os,∀ i v,tl.get i=some v→o.dst≠some i)→arr.size=sz→(∀ i∈ds,i < s.h.next) →
  POut P w0 s sz b k cs Q X (lone (on b arr (dls s ds) (.inRegion ops ((List.range ops.size).drop i)::k)) cs s.w)
 |[],i,s,t,arr,hos,hp,hw,ht,htl,hsz,hds =>
  preg_go hA hE hm os2 i s t arr (by simpa using hos) hp hw ht ⟨fun i v hi=>ht i v (tless_get _ _ _ _ hi).1,fun o ho i v hi=>(tless_get _ _ _ _ hi).2 o ho⟩ hsz hds
 |o :: os, i, s, t, arr, hos, hp, hw, ht, htl, hsz, hds => by
  have hlt:i < ops.size:=by
   rcases Nat.lt_or_ge i ops.size with h1 | h1
   ·exact h1
   ·rw [List.drop_eq_nil_of_le (by simpa using h1)] at hos;cases hos
  have hdr:=List.drop_eq_getElem_cons (l:=ops.toList) (i:=i) (by simpa using hlt)
  rw [hos] at hdr
  simp only [List.cons_append,List.cons.injEq] at hdr
  obtain ⟨hd1,hd2⟩:=hdr
  have ho:ops[i]?=some o:=by rw [Array.getElem?_eq_getElem hlt,hd1];simp
  have er:(List.range ops.size).drop i=i::(List.range ops.size).drop (i+1):=by
   rw [List.drop_eq_getElem_cons (by simpa using hlt)]
   simp
  rw [er]
  simp only [preg] at hp
  split at hp
  ·exact hp.elim
  next hdst =>
  have hdst':dstIn arr.size o.dst=true:=by rw [hsz];exact hdst
  have run:pop A E P M t.get s.h o (fun v h'=>preg A E P M sz ops.toList os (tput t o.dst v) h' (fun t h=>preg A E P M sz ops.toList os2 t h (fun t h=>Q .normal t ds h) (X (tless t os2) ds)) (X tl ds)) (X tl ds)→Region.wanted o (yielded ops arr)=true →
    POut P w0 s sz b k cs Q X (lone (on b arr (dls s ds) (.inRegion ops (i::(List.range ops.size).drop (i+1))::k)) cs s.w):=by
   intro hp hwt
   rcases op_go (b:=b) (k:=k) (cs:=cs) (dl:=dls s ds) (rest:=(List.range ops.size).drop (i+1)) hA hE hw ht hp ho hwt hm with ⟨x,v,s',h1,h2,h3,h4,h5⟩ | ⟨x,v,s',todo,h1,h2,h3,h4,h5⟩
   ·refine POut.of_steps h5 (POut.ext h2 ?_)
    rw [← dls_ext h2 hds]
    exact preg_go2 hA hE hm os2 os (i+1) s' (tput t o.dst v) (putA arr o.dst x) hd2.symm h4 h1 ((ht.ext h2).put hdst' h3) ⟨(htl.1.ext h2).putNot (htl.2 o (by simp)),fun p hp=>htl.2 p (List.mem_cons_of_mem _ hp)⟩ (by rw [putA_size];exact hsz) fun j hj=>Nat.lt_of_lt_of_le (hds j hj) h2.next
   ·refine ⟨s',arr,ds,h1,h2,hsz,fun j hj=>Nat.lt_of_lt_of_le (hds j hj) h2.next,.inr (.inr ⟨tl,v,x,todo,h4,h3,htl.1.ext h2,?_⟩)⟩
    rw [dls_ext h2 hds]
    exact h5
  have pass:preg A E P M sz ops.toList os (tput t o.dst (.tup [])) s.h (fun t h=>preg A E P M sz ops.toList os2 t h (fun t h=>Q .normal t ds h) (X (tless t os2) ds)) (X tl ds)→Region.wanted o (yielded ops arr)=false →
    POut P w0 s sz b k cs Q X (lone (on b arr (dls s ds) (.inRegion ops (i::(List.range ops.size).drop (i+1))::k)) cs s.w):=by
   intro hp hwt
   exact POut.of_steps (op_pass ho hwt hm) (preg_go2 hA hE hm os2 os (i+1) s (tput t o.dst (.tup [])) (putA arr o.dst undef) hd2.symm hp hw (ht.put hdst' (rv_undef s)) ⟨htl.1.putNot (htl.2 o (by simp)),fun p hp=>htl.2 p (List.mem_cons_of_mem _ hp)⟩ (by rw [putA_size];exact hsz) hds)
  split at hp
  ·next hg=>exact run hp (by simp [Region.wanted,hg])
  ·next j want hg =>
   split at hp
   ·exact hp.elim
   next p hpj =>
   have hpj':ops[j]?=some p:=by simpa using hpj
   split at hp
   ·exact hp.elim
   next d hd =>
   split at hp
   ·next q hq =>
    have hwt:=wanted_of ht hg hpj' hd hq
    split at hp
    ·cases q with
     |true=>exact run hp (by simpa using hwt)
     |false=>exact pass hp (by simpa using hwt)
    ·cases q with
     |true=>exact pass hp (by simpa using hwt)
     |false=>exact run hp (by simpa using hwt)
   ·next hq=>exact pass hp (wanted_not ht hg hpj' hd hq)
   ·exact hp.elim
theorem PWP.region2 (hA:A.Ok P) (hE:E.Ok P) {id:Nat} {ops:Array Oper} (n:Nat) {rnd:Option Nat} {fi:FuncId} {Q:PQ} {X:T PV→List Nat→PV→PH→Prop} {t:T PV} {ds:List Nat} {h:PH}
  (hp:preg A E P M sz ops.toList (ops.toList.take n) t h (fun t h=>preg A E P M sz ops.toList (ops.toList.drop n) t h (fun t h=>Q .normal t ds h) (X (tless t (ops.toList.drop n)) ds)) (X (tless t (ops.toList.take n)) ds)) :
  PWP P fi sz rnd (.region id ops false) Q X t ds h:=by
 intro w0 s arr b k cs a1 a2 a3 a4 a5 a6 a7 a8 a9
 subst a2
 refine POut.of_steps (step_on (k':=.inRegion ops (List.range ops.size)::k) a6 (by simp [stepG.exec,on])) ?_
 have:=preg_go2 (k:=k) (cs:=cs) (M:=M) (b:=b) hA hE a6 (ops.toList.drop n) (ops.toList.take n) 0 s t arr (by simp) hp a1 a3 ⟨fun i v hi=>a3 i v (tless_get _ _ _ _ hi).1,fun o ho i v hi=>(tless_get _ _ _ _ hi).2 o ho⟩ a4 a5
 simpa using this
end
def RegP (C:Cx) (K:EL→PH→Prop) (X:EX) (all os:List Oper) (e:EL) (ds:List Nat) (h:PH):Prop :=
 ∀ t:T PV,t.get=lget e→preg C.A C.E C.P C.M C.sz all os t h (fun t h=>∃ e',t.get=lget e'∧K e' h) (X ds)
section
variable {C:Cx} {K:EL→PH→Prop} {X:EX} {e:EL} {ds:List Nat} {h:PH} {all os:List Oper}
theorem RegP.nil (hK:K e h):RegP C K X all [] e ds h:=fun t ht=>⟨e,ht,hK⟩
theorem RegP.op {d:Nat} {op:Op} {type:TypeId} {pos:String} {after:Array Edge} (hd:Nat.blt d C.sz=true)
  (ho:Ope C X { dst:=some d,op,type,pos,after,guard:=none } e ds h fun v h'=>RegP C K X all os ((d,v)::e) ds h'):RegP C K X all ({ dst:=some d,op,type,pos,after,guard:=none }::os) e ds h:=by
 intro t ht
 simp only [preg,dstIn,hd]
 unfold Ope at ho
 rw [ht]
 exact pop_mono ho (fun v h' hv=>hv _ (put_get ht d v)) fun _ _ hx=>hx
end
section
variable {C:Cx} {fn:Func} {n:Nat} {R X:PV→PH→Prop} {e:EL} {h:PH}
theorem Til.defer2 (hC:C.Ok) (hs:C.sz=fn.ntmps) (hr:C.rnd=none) (hf:C.A.funcs.get C.fi=some fn) {id id2:Nat} {mk df:Oper} {ops:Array Oper} (m:Nat) {c:Call} {f:Operand} {gd dm:Nat} {caps:List PV} (e0:EL)
  (hmd:mk.dst=some dm) (hml:Nat.blt dm fn.ntmps=true) (hmg:mk.guard=none) (hdg:df.guard=none) (hdd:df.dst=none) (hop:df.op=.defer c) (hcal:c.callee=.value f) (hargs:c.args=#[])
  (hmk:Ope C (fun _ _ _=>False) mk e [] h fun v h'=>h'=h∧v=.fn (.func gd) [] caps) (hfv:pev (lget ((dm,.fn (.func gd) [] caps)::e)) f=some (.fn (.func gd) [] caps))
  (he0:e0.all (fun p=>(ops.toList.take m).all (fun o=>match o.dst with | some d=>!Nat.beq d p.1 | none=>true))=true) (he1:Lsub e0 ((dm,.fn (.func gd) [] caps)::e))
  (hreg:RegP C (fun e' h'=>Reg C (fun q e ds h=>q=.normal∧Undo ds h∧PDefer C.A C.P gd caps (.lit .nilifc) (unds ds h) (ResE C fn n R e)) (fun _ _ _=>False) [] ops.toList (ops.toList.drop m) e' [] h') (fun ds v h=>Undo ds h∧PDefer C.A C.P gd caps v (unds ds h) (ResE C fn n R e0)) ops.toList (ops.toList.take m) ((dm,.fn (.func gd) [] caps)::e) [] h) :
  Til C fn n R X (.seq (.region id #[mk,df] false) (.seq (.region id2 ops false) .ret)) e h:=by
 have hget:(tput (TE e) mk.dst (.fn (.func gd) [] caps)).get=lget ((dm,.fn (.func gd) [] caps)::e):=by
  rw [hmd]
  exact put_get (TE_getf e) dm _
 refine PTail.defer (M:=C.M) (gd:=gd) (caps:=caps) (f:=f) hC.A hC.E hf (by rw [hmd];exact hml) hmg hdg hdd hop hcal hargs ?_ (by rw [hget];exact hfv) ?_
 ·unfold Ope at hmk
  rw [TE_getf]
  exact hmk
 ·refine PWP.seq (PWP.region2 (M:=C.M) hC.A hC.E m ?_)
  have h1:=hreg _ hget
  rw [hs] at h1
  refine preg_mono ?_ ?_ _ _ _ h1
  ·rintro t' h' ⟨e',hsub',h2⟩
   unfold Reg at h2
   have h3:=h2 _ hsub'
   rw [hs] at h3
   refine preg_mono ?_ ?_ _ _ _ h3
   ·rintro t' h' ⟨e',hsub,_,hu,hd⟩
    exact PWP.jump (j:=.ret) trivial ⟨hu,hd.mono fun _ hres=>hres.res hsub⟩
   ·intro v h' hx;exact hx.elim
  ·rintro v h' ⟨hu,hd⟩
   refine ⟨hu,hd.mono fun _ hres=>hres.res fun i u hi=>?_⟩
   have hmem:∃ p∈e0,p.1=i:=by
    clear he0 he1 hres hd hu hreg h1
    induction e0 with
    |nil=>cases hi
    |cons p l ih =>
     obtain ⟨j,w⟩:=p
     simp only [lget] at hi
     split at hi
     ·next hb=>exact ⟨(j,w),by simp,(Nat.eq_of_beq_eq_true hb).symm⟩
     ·obtain ⟨p,h1,h2⟩:=ih hi
      exact ⟨p,List.mem_cons_of_mem _ h1,h2⟩
   obtain ⟨p,hp,rfl⟩:=hmem
   rw [tless_keep _ _ (List.all_eq_true.1 he0 p hp),hget]
   exact he1.get hi
end
end Go.Pv
namespace Go.Pv
open Go.Am Go.RowKit
section
variable {C:Cx} {X:EX} {e:EL} {ds:List Nat} {h:PH} {K:PV→PH→Prop}
variable {d:Option Tmp} {type:TypeId} {pos:String} {after:Array Edge} {guard:Option (Nat×Bool)}
end
end Go.Pv
namespace Go.Pv
open Go.Am Go.RowKit
section
variable {C:Cx} {X:EX} {e:EL} {ds:List Nat} {h:PH} {K:PV→PH→Prop}
variable {d:Option Tmp} {type:TypeId} {pos:String} {after:Array Edge} {guard:Option (Nat×Bool)}
end
end Go.Pv
