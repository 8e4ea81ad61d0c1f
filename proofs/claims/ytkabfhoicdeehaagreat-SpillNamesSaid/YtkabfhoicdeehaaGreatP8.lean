/- Parts of the proof: Pv19, Pv20, Pv21, Pv22, Pv23, Pv24 -/
import Derived.Test.YtkabfhoicdeehaaGreatP7
import Derived.Orders
import Derived.Defers
set_option linter.unusedVariables false
set_option linter.unusedSimpArgs false
set_option linter.unusedSectionVars false
namespace Go.Pv
open Go.Am Go.RowKit
section
variable {A:AP} {P:Program} {E:Eqs} {w0:Base} {M:Nat→Bool} {sz:Nat} {an:T Nat} {all:List Oper} {ord:List Nat} {K:T PV→PH→Prop} {X:PV→PH→Prop}
structure DInv (A:AP) (E:Eqs) (P:Program) (M:Nat→Bool) (sz:Nat) (an:T Nat) (all:List Oper) (ord:List Nat) (K:T PV→PH→Prop) (X:PV→PH→Prop) (w0:Base) (s:St) (arr:Array Value) (Dn:Nat→Prop)
  (pre rest:List Nat) (rds:List (Nat×Oper×PV)) (t:T PV):Prop where
 pw:PW w0 s
 split:ord=pre++rest
 hd:rest=[]∨∃ i r o,rest=i::r∧all[i]?=some o∧loudP M o=true
 F:pdrawF A E P M sz an all rest rds t s.h K X
 dnIn:∀ i,Dn i→i∈pre
 loudDone:∀ i∈pre,loudAt M all i=true→Dn i
 down:∀ i,Dn i→∀ j,(anc an i).testBit j=true→Dn j
 facts:∀ i∈pre,¬ Dn i→∀ o,all[i]?=some o→Fact A E M sz all t s.h rds i o
 tm:∀ x v,t.get x=some v→(∀ (j:Nat) (o:Oper),all[j]?=some o→o.dst=some x→Dn j∨j ∉ pre)→∃ y,arr[x]?=some y∧RV s v y
 size:arr.size=sz
theorem known_ex (all:List Oper) (Dn:Nat→Prop) (pre:List Nat) (t:T PV):∃ f:Nat→Option PV,(∀ x v,f x=some v→t.get x=some v∧∀ (j:Nat) (o:Oper),all[j]?=some o→o.dst=some x→Dn j∨j ∉ pre) ∧
  ∀ x,(∀ (j:Nat) (o:Oper),all[j]?=some o→o.dst=some x→Dn j∨j ∉ pre)→t.get x=f x:=by
 classical
 refine ⟨fun x=>if ∀ (j:Nat) (o:Oper),all[j]?=some o→o.dst=some x→Dn j∨j ∉ pre then t.get x else none,fun x v h=>?_,fun x h=>?_⟩
 ·simp only at h
  split at h
  ·next hc=>exact ⟨h,hc⟩
  ·cases h
 ·simp only
  rw [if_pos h]
variable {s:St} {arr:Array Value} {Dn:Nat→Prop} {pre rest:List Nat} {rds:List (Nat×Oper×PV)} {t:T PV}
theorem DInv.seen (hS:PStat M all an) (I:DInv A E P M sz an all ord K X w0 s arr Dn pre rest rds t) {i:Nat} {o:Oper} (ho:all[i]?=some o) (hn:¬ Dn i) (hanc:∀ j,(anc an i).testBit j=true→Dn j) {x:Nat} (hx:x∈looks all o) :
  ∀ (j:Nat) (p:Oper),all[j]?=some p→p.dst=some x→Dn j∨j ∉ pre:=by
 intro j p hp hd
 rcases hS.look i j o p x ho hp hd hx with h | ⟨h1,h2⟩
 ·exact .inl (hanc j h)
 ·refine .inr fun hj=>hn (I.down j (I.loudDone j hj ?_) i h2)
  simp only [loudAt,hp,late_loud hd h1]
theorem gst_wanted (hS:PStat M all an) {ops:Array Oper} (hall:ops.toList=all) (I:DInv A E P M sz an all ord K X w0 s arr Dn pre rest rds t) {i:Nat} {o:Oper} (ho:all[i]?=some o) (hn:¬ Dn i) (hanc:∀ j,(anc an i).testBit j=true→Dn j)
  {g:Bool} (hg:gst all t o=some g):Region.wanted o (yielded ops arr)=g:=by
 subst hall
 unfold gst at hg
 split at hg
 ·next hgd=>cases hg;simp [Region.wanted,hgd]
 ·next j want hgd =>
  split at hg
  ·cases hg
  next p hp =>
  have hp':ops[j]?=some p:=by simpa using hp
  split at hg
  ·cases hg
  next d hd =>
  have hk:=fun v (hv:t.get d=some v)=>I.tm d v hv (I.seen hS ho hn hanc (mem_looks_guard hgd hp hd))
  split at hg
  ·next q hq =>
   obtain ⟨y,y1,y2⟩:=hk _ hq
   have y2:=(RV_lit.1 y2).2
   simp only [VR] at y2
   subst y2
   split at hg
   ·cases hg;simp [Region.wanted,hgd,yielded,hp',hd,y1]
   ·cases hg;simp [Region.wanted,hgd,yielded,hp',hd,y1]
  ·next hq =>
   cases hg
   obtain ⟨y,y1,y2⟩:=hk _ hq
   obtain ⟨z,rfl,_⟩:=RV_tup.1 y2
   simp [Region.wanted,hgd,yielded,hp',hd,y1]
  ·cases hg
theorem DInv.one (hA : A.Ok P) (hE : E.Ok P) (hO : Ord M an all ord) (hS : PStat M all an) {ops : Array Oper} (hall : ops.toList = all) {b : Frame} {k : List Item} {cs : List Frame} {dl : List Deferred} (hm : b.mode = .run)
  (I:DInv A E P M sz an all ord K X w0 s arr Dn pre rest rds t) {i:Nat} {o:Oper} (ho:ops[i]?=some o) (hn:¬ Dn i) (hanc:∀ j,(anc an i).testBit j=true→Dn j) (is:List Nat) :
  (∃ s' arr' pre' rest' rds' t', Ext s s' ∧ DInv A E P M sz an all ord K X w0 s' arr' (fun j => Dn j ∨ j = i) pre' rest' rds' t' ∧ (∀ x, o.dst ≠ some x → arr'[x]? = arr[x]?) ∧
   Steps P (lone (on b arr dl (.inRegion ops (i::is)::k)) cs s.w) (lone (on b arr' dl (.inRegion ops is::k)) cs s'.w)) ∨
  ∃ x v s' todo,PW w0 s'∧Ext s s'∧RV s' v x∧X v s'.h∧Steps P (lone (on b arr dl (.inRegion ops (i::is)::k)) cs s.w) (lone { on b arr dl todo with mode:=.panicking [{ v:=x,recovered:=false }] } cs s'.w):=by
 have ho':all[i]?=some o:=by rw [← hall];simpa using ho
 have hlt:i < all.length:=(List.getElem?_eq_some_iff.1 ho').1
 obtain ⟨kn,kn1,kn2⟩:=known_ex all Dn pre t
 have hkl:∀ x∈looks all o,t.get x=kn x:=fun x hx=>kn2 x (I.seen hS ho' hn hanc hx)
 have hρ:∀ x v,pev kn x=some v→RV s v ((on b arr dl (.inRegion ops (i::is)::k)).eval x):=fun x v hx=>by
  have:=pev_ok (a:={ tmps:=arr,defers:=dl }) (t:=kn) (fun x v h=>let ⟨h1,h2⟩:=kn1 x v h;I.tm x v h1 h2) x v hx
  cases x<;>exact this
 have hst:=stepG_run (P:=P) (fr:=on b arr dl (.inRegion ops (i::is)::k)) (cs:=cs) (w:=s.w) hm
 have hin:i∈pre∨i∈rest:=by
  have:=hO.mem i hlt
  rw [I.split] at this
  exact List.mem_append.1 this
 rcases hin with hin | hin
 ·-- it has been looked at already
  have hl:loudP M o=false:=by
   cases hlo:loudP M o with
   |false=>rfl
   |true=>exact absurd (I.loudDone i hin (by simp only [loudAt,ho',hlo])) hn
  obtain ⟨f1,f2⟩:=I.facts i hin hn o ho'
  have next : ∀ (s' : St) (v : PV) (x : Value), PW w0 s' → Ext s s' → s'.h = s.h → RV s' v x → (∀ d, o.dst = some d → t.get d = some v) →
    DInv A E P M sz an all ord K X w0 s' (putA arr o.dst x) (fun j=>Dn j∨j=i) pre rest rds t:=by
   intro s' v x h1 h2 h3 h4 h5
   refine ⟨h1,I.split,I.hd,by rw [h3];exact I.F,?_,fun j hj hlj=>.inl (I.loudDone j hj hlj),?_,fun j hj hnj p hp=>by rw [h3];exact I.facts j hj (fun hc=>hnj (.inl hc)) p hp,?_,by rw [putA_size];exact I.size⟩
   ·rintro j (hj | rfl)
    ·exact I.dnIn j hj
    ·exact hin
   ·rintro j (hj | rfl) l hl
    ·exact .inl (I.down j hj l hl)
    ·exact .inl (hanc l hl)
   ·intro x' u hu hw
    by_cases hd:o.dst=some x'
    ·have:=h5 x' hd
     rw [this] at hu
     cases hu
     have hlt':x' < arr.size:=by
      rw [hd] at f1
      rw [I.size]
      exact (T.blt_iff _ _).1 f1
     exact ⟨x,by simp [putA,hd,hlt'],h4⟩
    ·obtain ⟨y,y1,y2⟩:=I.tm x' u hu fun j p hp hdp=>by
      rcases hw j p hp hdp with (h6 | rfl) | h6
      ·exact .inl h6
      ·rw [ho'] at hp
       cases hp
       exact absurd hdp hd
      ·exact .inr h6
     refine ⟨y,?_,(R2.ext h2 u).1 _ y2⟩
     unfold putA
     split
     ·next d hdd=>rw [Array.getElem?_setIfInBounds_ne (fun e=>hd (by rw [hdd,e]))];exact y1
     ·exact y1
  rcases f2 with ⟨g1,g2⟩ | ⟨g1,v,g2,g3,_⟩
  ·exact .inl ⟨s,_,pre,rest,rds,t,Ext.refl s,next s (.tup []) undef I.pw (Ext.refl s) rfl (rv_undef s) g2,fun _ hx=>putA_ne hx,op_pass ho (gst_wanted hS hall I ho' hn hanc g1) hm⟩
  ·have hwt:=gst_wanted hS hall I ho' hn hanc g1
   rw [ppure_congr (pev_eq (all:=all) hkl)] at g2
   obtain ⟨x,s',r1,r2,r3,r4,r5⟩:=ppure_ok hA hE I.pw hρ g2
   refine .inl ⟨s',_,pre,rest,rds,t,r3,next s' v x r2 r3 r4 r5 g3,fun _ hx=>putA_ne hx,.one (step_lone_go ?_)⟩
   rw [hst,exec_op (P:=P) (fr:=on b arr dl (.inRegion ops (i::is)::k)) (k:=k) rfl ho hwt (.inr (ppure_nodefer g2)),← on_finish ho]
   exact apply_value r1
 ·-- it is the next one that turns the heap
  obtain ⟨i0,r,o0,e0,ho0,hl0⟩:∃ i0 r o0,rest=i0::r∧all[i0]?=some o0∧loudP M o0=true:=by
   rcases I.hd with h | h
   ·rw [h] at hin;cases hin
   ·exact h
  subst e0
  have hi0:i0 ∉ pre:=(hO.at_ pre i0 r I.split).2.1
  have hii:i=i0:=by
   rcases List.mem_cons.1 hin with h | h
   ·exact h
   ·obtain ⟨a,c,e⟩:=List.append_of_mem h
    have h1:=hO.at_ (pre++i0::a) i c (by rw [I.split,e];simp)
    have h2:=h1.2.2.2 i0 (by simp) (by simp only [loudAt,ho0,hl0])
    exact absurd (I.dnIn i0 (hanc i0 h2)) hi0
  subst hii
  rw [ho'] at ho0
  cases ho0
  have hF:=I.F
  simp only [pdrawF,ho'] at hF
  split at hF
  case h_2=>exact hF.elim
  next g hd hg =>
  have hwt:=gst_wanted hS hall I ho' hn hanc hg
  have esplit:ord=(pre++[i])++r:=by rw [I.split];simp
  have hdn:∀ j,(anc an i).testBit j=true→j∈pre:=fun j hj=>I.dnIn j (hanc j hj)
  have next : ∀ (s' : St) (v : PV) (x : Value) (rds2 : List (Nat × Oper × PV)), PW w0 s' → Ext s s' → RV s' v x → pdrawF A E P M sz an all r rds2 (tput t o.dst v) s'.h K X →
    (∀ j∈pre,¬ Dn j→∀ p,all[j]?=some p→Fact A E M sz all (tput t o.dst v) s'.h rds2 j p) →
    ∃ arr' pre' rest' rds' t',DInv A E P M sz an all ord K X w0 s' arr' (fun j=>Dn j∨j=i) pre' rest' rds' t'∧arr'=putA arr o.dst x:=by
   intro s' v x rds2 h1 h2 h3 h4 h5
   obtain ⟨pre',rest',rds',t',q1,q2,q3,q4,q5,q6,q7⟩:=absorb hO hS (fun j=>Dn j∨j=i) r (pre++[i]) rds2 (tput t o.dst v) esplit h4 (fun j hj hnj p hp=>by
    rcases List.mem_append.1 hj with hj | hj
    ·exact h5 j hj (fun hc=>hnj (.inl hc)) p hp
    ·exact absurd (.inr (List.mem_singleton.1 hj)) hnj)
   refine ⟨_,pre',rest',rds',t',⟨h1,q1,q3,q4,?_,?_,?_,q5,?_,by rw [putA_size];exact I.size⟩,rfl⟩
   ·rintro j (hj | rfl)
    ·exact q2 j (by simp [I.dnIn j hj])
    ·exact q2 j (by simp)
   ·intro j hj hlj
    rcases List.mem_append.1 (q6 j hj hlj) with h6 | h6
    ·exact .inl (I.loudDone j h6 hlj)
    ·exact .inr (List.mem_singleton.1 h6)
   ·rintro j (hj | rfl) l hl
    ·exact .inl (I.down j hj l hl)
    ·exact .inl (hanc l hl)
   ·intro x' u hu hw
    rw [q7 x' fun j hj hjn p hp hdp=>by
     rcases hw j p hp hdp with (h6 | rfl) | h6
     ·exact hjn (by simp [I.dnIn j h6])
     ·exact hjn (by simp)
     ·exact h6 hj] at hu
    by_cases hdx:o.dst=some x'
    ·rw [hdx,tput_self] at hu
     cases hu
     have hlt':x' < arr.size:=by
      rw [hdx] at hd
      rw [I.size]
      exact (T.blt_iff _ _).1 hd
     exact ⟨x,by simp [putA,hdx,hlt'],h3⟩
    ·rw [tput_ne hdx] at hu
     obtain ⟨y,y1,y2⟩:=I.tm x' u hu fun j p hp hdp=>by
      rcases hw j p hp hdp with (h6 | rfl) | h6
      ·exact .inl h6
      ·rw [ho'] at hp
       cases hp
       exact absurd hdp hdx
      ·exact .inr fun hc=>h6 (q2 j (by simp [hc]))
     refine ⟨y,?_,(R2.ext h2 u).1 _ y2⟩
     unfold putA
     split
     ·next d hdd=>rw [Array.getElem?_setIfInBounds_ne (fun e=>hdx (by rw [hdd,e]))];exact y1
     ·exact y1
  rcases PIf_iff.1 hF with ⟨hF1,hF2⟩
  cases g with
  |false =>
   obtain ⟨arr',pre',rest',rds',t',h1,rfl⟩:=next s (.tup []) undef rds I.pw (Ext.refl s) (rv_undef s) (hF2 rfl) (fun j hj hnj p hp=>by
    have ha:=hO.apart (v:=.tup []) (t:=t) hS I.split hj ho' hp (fun _=>by cases hbb:(anc an i).testBit j with | false=>rfl | true=>exact absurd (hanc j hbb) hnj)
    exact (I.facts j hj hnj p hp).same ha.1 ha.2 fun _ h=>h)
   exact .inl ⟨s,_,pre',rest',rds',t',Ext.refl s,h1,fun _ hx=>putA_ne hx,op_pass ho hwt hm⟩
  |true =>
   have hp:=hF1 rfl
   rw [pop_congr (pev_eq (all:=all) hkl)] at hp
   have hd2:=pop_ok hA hE I.pw hρ hp
   have hexec:=exec_op (P:=P) (fr:=on b arr dl (.inRegion ops (i::is)::k)) (cs:=cs) (w:=s.w) (k:=k) rfl ho hwt (.inr (pop_nodefer hp))
   have fin : ∀ (x : Value) (v : PV) (s' : St), PW w0 s' → Ext s s' → RV s' v x → (stillP A E M an i o t s'.h rds ∧ pdrawF A E P M sz an all r (addRd i o v rds) (tput t o.dst v) s'.h K X) →
     Steps P (lone (on b arr dl (.inRegion ops (i::is)::k)) cs s.w) (lone (on b (putA arr o.dst x) dl (.inRegion ops is::k)) cs s'.w) →
     ∃ s' arr' pre' rest' rds' t',Ext s s'∧DInv A E P M sz an all ord K X w0 s' arr' (fun j=>Dn j∨j=i) pre' rest' rds' t'∧(∀ x,o.dst≠some x→arr'[x]?=arr[x]?) ∧
      Steps P (lone (on b arr dl (.inRegion ops (i::is)::k)) cs s.w) (lone (on b arr' dl (.inRegion ops is::k)) cs s'.w):=by
    intro x v s' h1 h2 h3 h4 h5
    obtain ⟨hstill,hF'⟩:=h4
    simp only [stillP,hl0] at hstill
    have hsub:∀ r∈rds,r∈addRd i o v rds:=by
     intro r hr
     unfold addRd
     split
     ·exact List.mem_cons_of_mem _ hr
     ·exact hr
    obtain ⟨arr', pre', rest', rds', t', q1, rfl⟩ := next s' v x _ h1 h2 h3 hF' (fun j hj hnj p hp => by
     have ha:=hO.apart (v:=v) (t:=t) hS I.split hj ho' hp (fun _=>by cases hbb:(anc an i).testBit j with | false=>rfl | true=>exact absurd (hanc j hbb) hnj)
     refine Fact.same (t:=t) (rds:=rds) ?_ ha.1 ha.2 hsub
     obtain ⟨f1,f2⟩:=I.facts j hj hnj p hp
     refine ⟨f1,?_⟩
     rcases f2 with f2 | ⟨g1,u,g2,g3,g4⟩
     ·exact .inl f2
     ·refine .inr ⟨g1,u,?_,g3,g4⟩
      cases hr:readsP p.op with
      |false=>rw [← ppure_heap (h:=s.h) hr];exact g2
      |true =>
       have hst:∀ (l:List (Nat×Oper×PV)),still A E an i t s'.h l→(j,p,u)∈l→pquiet A E (pev t.get) s'.h p.op=some u:=by
        intro l
        induction l with
        |nil=>intro _ h;cases h
        |cons a l ih =>
         intro hs hmem
         obtain ⟨s1,s2⟩:=hs
         rcases List.mem_cons.1 hmem with rfl | hmem
         ·have hb:(anc an i).testBit j=false:=by
           cases hbb:(anc an i).testBit j with
           |false=>rfl
           |true=>exact absurd (hanc j hbb) hnj
          simp only [hb] at s1
          exact s1
         ·exact ih s2 hmem
       have h6:=hst rds hstill (g4 hr)
       unfold ppure at g2 ⊢
       split at g2
       ·exact h6
       ·exact g2
       ·exact g2
       ·cases g2)
    exact ⟨s',_,pre',rest',rds',t',h2,q1,fun _ hx=>putA_ne hx,h5⟩
   rcases hd2 with ⟨x,v,s',h1,h2,h3,h4,h5⟩ | hgo | ⟨x,v,h1,h2,h3⟩
   ·refine .inl (fin x v s' h2 h3 h4 h5 (.one (step_lone_go ?_)))
    rw [hst,hexec,← on_finish ho]
    rcases h1 with h1 | ⟨h1,rfl⟩
    ·exact apply_value h1
    ·exact apply_skip h1
   ·generalize hr:(execOp (on b arr dl (.inRegion ops (i::is)::k)).eval o).run P s.w=rr at hgo
    cases rr with
    |halt x w=>exact hgo.elim
    |ok nx w =>
     cases nx<;>try exact hgo.elim
     ·next gf xs =>
      obtain ⟨e,w',fr',he,hc,_,hlv⟩:=hgo (on b arr dl (.inRegion ops (i::is)::k)::cs)
      obtain ⟨s',e1,e2,e3,e4⟩:=he
      subst e1
      have henter:step P (lone (on b arr dl (.inRegion ops (i::is)::k)) cs s.w)=.next (lone (Frame.enter P gf xs .normal) (on b arr dl (.inRegion ops (i::is)::k)::cs) w):=by
       refine step_lone_go ?_
       rw [hst,hexec]
       exact apply_enter (fun d r sv k' hc=>by simp [on] at hc) hr
      cases e with
      |returned x =>
       obtain ⟨v,v1,v2⟩:=e4
       refine .inl (fin x v s' e2 e3 v1 v2 (.head henter (Steps.trans hc (.one ?_))))
       rw [← on_finish ho]
       exact step_leave_returned hlv
      |panicked ch =>
       obtain ⟨v,x,rfl,v1,v2⟩:=e4
       refine .inr ⟨x,v,s',.inRegion ops (i::is)::k,e2,e3,v1,v2,.head henter (Steps.trans hc (.one ?_))⟩
       rw [← on_raise hm]
       exact step_leave_panicked hlv
      |outgrown=>exact e4.elim
     ·next l f tmps asg body =>
      have henter:step P (lone (on b arr dl (.inRegion ops (i::is)::k)) cs s.w)=.next (lone (Frame.round l f tmps asg body .normal) (on b arr dl (.inRegion ops (i::is)::k)::cs) w):=by
       refine step_lone_go ?_
       rw [hst,hexec]
       exact apply_round hr
      rcases hgo (on b arr dl (.inRegion ops (i::is)::k)) cs with ⟨x,w',⟨s',e1,e2,e3,v,v1,v2⟩,hs⟩ | ⟨ch,w',⟨s',e1,e2,e3,v,x,rfl,v1,v2⟩,hs⟩
      ·subst e1
       refine .inl (fin x v s' e2 e3 v1 v2 (.head henter ?_))
       rw [← on_finish ho]
       exact hs
      ·subst e1
       refine .inr ⟨x,v,s',.inRegion ops (i::is)::k,e2,e3,v1,v2,.head henter ?_⟩
       rw [← on_raise hm]
       exact hs
   ·refine .inr ⟨x,v,s,.inRegion ops (i::is)::k,I.pw,Ext.refl s,h2,h3,.one (step_lone_go ?_)⟩
    rw [hst,hexec,← on_raise hm]
    exact apply_panic h1
end
end Go.Pv
namespace Go.Pv
open Go.Am Go.RowKit
theorem ready_spec' {ops:Array Oper} {listed:Array Bool} {i:Nat} (h:i∈Region.ready .any ops listed) :
  i < ops.size∧listed.getD i true=false∧∃ o,ops[i]?=some o∧∀ e∈o.after.toList,Region.binds .any e=true→listed.getD e.on false=true:=by
 unfold Region.ready at h
 simp only [List.mem_filter,List.mem_range,Bool.and_eq_true,Bool.not_eq_true'] at h
 obtain ⟨h1,h2,h3⟩:=h
 refine ⟨h1,h2,?_⟩
 rw [Array.getElem?_eq_getElem h1] at h3 ⊢
 refine ⟨_,rfl,fun e he hb=>?_⟩
 simp only [Option.map_some,Option.getD_some,Array.all_eq_true_iff_forall_mem] at h3
 have:=h3 e (by simpa using he)
 simpa [hb] using this
theorem ready_mem' {ops:Array Oper} {listed:Array Bool} {i:Nat} {o:Oper} (ho:ops[i]?=some o) (h1:listed.getD i true=false)
  (h2:∀ e∈o.after.toList,Region.binds .any e=true→listed.getD e.on false=true):i∈Region.ready .any ops listed:=by
 unfold Region.ready
 simp only [List.mem_filter,List.mem_range,Bool.and_eq_true,Bool.not_eq_true']
 refine ⟨(Array.getElem?_eq_some_iff.1 ho).1,h1,?_⟩
 rw [ho]
 simp only [Option.map_some,Option.getD_some,Array.all_eq_true_iff_forall_mem]
 intro e he
 cases hb:Region.binds .any e with
 |false=>rfl
 |true=>simpa using h2 e (by simpa using he) hb
theorem count_set' {l:List Bool} {i:Nat} (h:l[i]?=some false):(l.set i true).count false+1=l.count false:=by
 induction l generalizing i with
 |nil=>simp at h
 |cons x l ih =>
  cases i with
  |zero =>
   simp at h
   subst h
   simp
  |succ i =>
   have:=ih (i:=i) (by simpa using h)
   simp only [List.set_cons_succ,List.count_cons]
   omega
section
variable {A:AP} {P:Program} {E:Eqs} {w0:Base} {M:Nat→Bool} {sz:Nat} {an:T Nat} {ord:List Nat} {K:T PV→PH→Prop} {X:PV→PH→Prop}
theorem draw_go' (hA:A.Ok P) (hE:E.Ok P) {ops:Array Oper} (hO:Ord M an ops.toList ord) (hS:PStat M ops.toList an) (hG:PEdge ops.toList an) {b:Frame} {k:List Item} {cs:List Frame} {dl:List Deferred} (hm:b.mode=.run) :
  ∀ (fl tp : Nat) (listed : Array Bool) (s : St) (arr : Array Value) (Dn : Nat → Prop) (pre rest : List Nat) (rds : List (Nat × Oper × PV)) (t : T PV), DInv A E P M sz an ops.toList ord K X w0 s arr Dn pre rest rds t →
   listed.size=ops.size→(∀ j,listed[j]?=some true↔Dn j)→listed.toList.count false≤fl →
   (∃ s' arr' Dn' pre' rest' rds' t', Ext s s' ∧ DInv A E P M sz an ops.toList ord K X w0 s' arr' Dn' pre' rest' rds' t' ∧ (∀ j, j < ops.size → Dn' j) ∧
    Steps P (lone (on b arr dl (.inRegion ops (Region.linearise.go .any ops fl tp listed [])::k)) cs s.w) (lone (on b arr' dl (.inRegion ops []::k)) cs s'.w)) ∨
   ∃ x v s' arr' todo,PW w0 s'∧Ext s s'∧RV s' v x∧X v s'.h∧(arr'.size=sz∧∀ i,(∀ o∈ops.toList,o.dst≠some i)→arr'[i]?=arr[i]?) ∧
    Steps P (lone (on b arr dl (.inRegion ops (Region.linearise.go .any ops fl tp listed [])::k)) cs s.w) (lone { on b arr' dl todo with mode:=.panicking [{ v:=x,recovered:=false }] } cs s'.w):=by
 intro fl
 induction fl with
 |zero =>
  intro tp listed s arr Dn pre rest rds t I hsz hl hc
  refine .inl ⟨s,arr,Dn,pre,rest,rds,t,Ext.refl s,I,fun j hj=>(hl j).1 ?_,by simp only [Region.linearise.go,List.reverse_nil];exact .refl _ _⟩
  have h0:listed.toList.count false=0:=by omega
  have hj':j < listed.size:=by omega
  rw [Array.getElem?_eq_getElem hj']
  cases hv:listed[j] with
  |true=>rfl
  |false =>
   have:false∈listed.toList:=by rw [← hv];simp
   exact absurd this (List.count_eq_zero.1 h0)
 |succ fl ih =>
  intro tp listed s arr Dn pre rest rds t I hsz hl hc
  have getDf:∀ j,listed.getD j false=true→Dn j:=by
   intro j hj
   refine (hl j).1 ?_
   rw [Array.getD_eq_getD_getElem?] at hj
   cases hv:listed[j]? with
   |none=>rw [hv] at hj;cases hj
   |some b=>rw [hv] at hj;simp at hj;rw [hj]
  simp only [Region.linearise.go]
  cases hi:(Region.ready .any ops listed)[tp % (Region.ready .any ops listed).length]? with
  |none =>
   have hnil:Region.ready .any ops listed=[]:=by
    cases hr:Region.ready .any ops listed with
    |nil=>rfl
    |cons x xs =>
     rw [hr] at hi
     have hlt:tp % (x::xs).length < (x::xs).length:=Nat.mod_lt _ (by simp)
     simp at hi
     simp at hlt
     omega
   have hi2:=hi
   unfold Region.ready at hi2
   rw [hi2]
   refine .inl ⟨s,arr,Dn,pre,rest,rds,t,Ext.refl s,I,fun j=>?_,.refl _ _⟩
   induction j using Nat.strongRecOn with
   |_ j ihj =>
    intro hj
    refine Classical.byContradiction fun hn=>?_
    have ho:=Array.getElem?_eq_getElem hj
    have hj':j < listed.size:=by omega
    have hlj:listed[j]?=some false:=by
     rw [Array.getElem?_eq_getElem hj']
     cases hv:listed[j] with
     |false=>rfl
     |true=>exact absurd ((hl j).1 (by rw [Array.getElem?_eq_getElem hj',hv])) hn
    have:j∈Region.ready .any ops listed:=by
     refine ready_mem' ho (by rw [Array.getD_eq_getD_getElem?,hlj];rfl) fun e he hb=>?_
     have h1:=hG.edge j _ (by rw [Array.getElem?_toList];exact ho) e he hb
     have h2:=(hl e.on).2 (ihj e.on h1 (by omega))
     rw [Array.getD_eq_getD_getElem?,h2]
     rfl
    rw [hnil] at this
    cases this
  |some i =>
   obtain ⟨r1,r2,o,r3,r4⟩:=ready_spec' (List.mem_of_getElem? hi)
   have hi2:=hi
   unfold Region.ready at hi2
   rw [hi2]
   have ho:ops.toList[i]?=some o:=by rw [Array.getElem?_toList];exact r3
   have hi':i < listed.size:=by omega
   have hli:listed[i]?=some false:=by
    rw [Array.getD_eq_getD_getElem?,Array.getElem?_eq_getElem hi'] at r2
    rw [Array.getElem?_eq_getElem hi']
    simpa using r2
   have hn:¬ Dn i:=fun hc=>by rw [(hl i).2 hc] at hli;cases hli
   have hanc:∀ j,(anc an i).testBit j=true→Dn j:=by
    intro j hj
    obtain ⟨e,e1,e2,e3⟩:=hG.back i o ho j hj
    have e4:=getDf _ (r4 e e1 e2)
    rcases e3 with rfl | e3
    ·exact e4
    ·exact I.down _ e4 j e3
   simp only []
   rw [linearise_go_acc,List.reverse_singleton,List.singleton_append]
   have hl':∀ j,(listed.setIfInBounds i true)[j]?=some true↔(Dn j∨j=i):=by
    intro j
    by_cases hij:i=j
    ·subst hij
     simp [hi']
    ·rw [Array.getElem?_setIfInBounds_ne hij,hl j]
     constructor
     ·exact .inl
     ·rintro (hj | hj)
      ·exact hj
      ·exact absurd hj.symm hij
   have hc':(listed.setIfInBounds i true).toList.count false≤fl:=by
    have h1:=count_set' (l:=listed.toList) (i:=i) (by rw [Array.getElem?_toList];exact hli)
    rw [Array.toList_setIfInBounds]
    omega
   generalize hlen:((List.range ops.size).filter fun i=>!listed.getD i true && ((ops[i]?).map (·.after.all fun e=>!Region.binds .any e || listed.getD e.on false)).getD false).length=len
   rcases I.one hA hE hO hS rfl hm r3 hn hanc (k:=k) (cs:=cs) (dl:=dl) (Region.linearise.go .any ops fl (tp / len) (listed.setIfInBounds i true) []) with ⟨s1,arr1,pre1,rest1,rds1,t1,u1,u2,uk,u3⟩ | ⟨x,v,s1,todo,u1,u2,u3,u4,u5⟩
   ·rcases ih (tp / len) (listed.setIfInBounds i true) s1 arr1 _ pre1 rest1 rds1 t1 u2 (by simpa using hsz) hl' hc' with ⟨s2,arr2,Dn2,pre2,rest2,rds2,t2,v1,v2,v3,v4⟩ | ⟨x,v,s2,arr2,todo,v1,v2,v3,v4,v5,v6⟩
    ·exact .inl ⟨s2,arr2,Dn2,pre2,rest2,rds2,t2,u1.trans v1,v2,v3,u3.trans v4⟩
    ·exact .inr ⟨x,v,s2,arr2,todo,v1,u1.trans v2,v3,v4,⟨v5.1,fun y hy=>(v5.2 y hy).trans (uk y (hy o (List.mem_of_getElem? ho)))⟩,u3.trans v6⟩
   ·exact .inr ⟨x,v,s1,arr,todo,u1,u2,u3,u4,⟨I.size,fun _ _=>rfl⟩,u5⟩
theorem PWP.draw (hA:A.Ok P) (hE:E.Ok P) (hP:P.follows .mixedOrders=true) {id:Nat} {ops:Array Oper} {rnd:Option Nat} {fi:FuncId} {Q:PQ} {X:T PV→List Nat→PV→PH→Prop} {t:T PV} {ds:List Nat} {h:PH}
  (hp:pdraw A E P M sz ops.toList t h (fun t h=>Q .normal t ds h) (X (tless t ops.toList) ds)):PWP P fi sz rnd (.region id ops true) Q X t ds h:=by
 intro w0 s arr b k cs a1 a2 a3 a4 a5 a6 a7 a8 a9
 subst a2
 unfold pdraw at hp
 split at hp
 ·exact hp.elim
 next an hst =>
 have hS:=pstat_ok hst
 have hG:=pstat_edge hst
 split at hp
 case h_2=>exact hp.elim
 next hok =>
 have hO:=ord_of hok
 generalize hord:asap M an ops.toList ops.toList.length 0=ord at hp hO
 have hstep:Steps P (lone (on b arr (dls s ds) (.code (.region id ops true)::k)) cs s.w)
   (lone (on b arr (dls s ds) (.inRegion ops (Region.linearise.go .any ops ops.size (s.w.tape s.w.drawn (.order b.fn id)) (Array.replicate ops.size false) [])::k)) cs s.w.drew):=by
  refine .one (step_lone_go ?_)
  rw [stepG_run (fr:=on b arr (dls s ds) (.code (.region id ops true)::k)) a6]
  simp [stepG.exec,choose,Sem.run,Question.forced,Question.cut,Region.schedule,hP,Region.linearise,on]
 have hx0:=Ext.drew s
 obtain ⟨pre,rest,rds,t1,q1,q2,q3,q4,q5,q6,q7⟩:=absorb (E:=E) (sz:=sz) hO hS (fun _=>False) ord [] [] t rfl hp (fun i hi=>by cases hi)
 have I:DInv A E P M sz an ops.toList ord (fun t h=>Q .normal t ds h) (X (tless t ops.toList) ds) w0 (s.wat s.w.drew) arr (fun _=>False) pre rest rds t1:=by
  refine ⟨a1.drew,q1,q3,q4,fun _ hc=>hc.elim,fun i hi hl=>(by have:=q6 i hi hl;cases this),fun _ hc=>hc.elim,q5,fun x v hx hw=>?_,a4⟩
  rw [q7 x fun i hi _ o ho hd=>(hw i o ho hd).elim (fun h=>h) fun h=>h hi] at hx
  obtain ⟨y,y1,y2⟩:=a3 x v hx
  exact ⟨y,y1,(R2.ext hx0 v).1 _ y2⟩
 rcases draw_go' (k:=k) (cs:=cs) (dl:=dls s ds) hA hE hO hS hG a6 ops.size (s.w.tape s.w.drawn (.order b.fn id)) (Array.replicate ops.size false) _ arr _ pre rest rds t1 I (by simp) (fun j=>by simp [Array.getElem?_replicate]) (by simp [List.count_replicate]) with
  ⟨s',arr',Dn',pre',rest',rds',t',u1,u2,u3,u4⟩ | ⟨x,v,s',arr',todo,u1,u2,u3,u4,u5,u6⟩
 ·have hxs:=hx0.trans u1
  have hall:∀ (j:Nat) (o:Oper),ops.toList[j]?=some o→Dn' j:=fun j o ho=>u3 j (by simpa using (List.getElem?_eq_some_iff.1 ho).1)
  have hrest:rest'=[]:=by
   cases rest' with
   |nil=>rfl
   |cons i r =>
    have h1:=hO.at_ pre' i r u2.split
    exact absurd (u2.dnIn i (u3 i (by simpa using h1.1))) h1.2.1
  subst hrest
  have hF:=u2.F
  simp only [pdrawF] at hF
  refine ⟨s',arr',ds,u2.pw,hxs,u2.size,fun i hi=>Nat.lt_of_lt_of_le (a5 i hi) hxs.next,.inl ⟨t',hF,fun x v hx=>u2.tm x v hx fun j o ho _=>.inl (hall j o ho),?_⟩⟩
  rw [dls_ext hxs a5]
  exact (hstep.trans u4).trans (step_on a6 (by simp [stepG.exec,on]))
 ·have hxs:=hx0.trans u2
  refine ⟨s',arr',ds,u1,hxs,u5.1,fun i hi=>Nat.lt_of_lt_of_le (a5 i hi) hxs.next,.inr (.inr ⟨tless t ops.toList,v,x,todo,u4,u3,fun i u hi=>?_,?_⟩)⟩
  ·obtain ⟨g1,g2⟩:=tless_get _ _ _ _ hi
   obtain ⟨y,y1,y2⟩:=a3 i u g1
   exact ⟨y,(u5.2 i g2).trans y1,(R2.ext hxs u).1 _ y2⟩
  ·rw [dls_ext hxs a5]
   exact hstep.trans u6
end
end Go.Pv
namespace Go.Pv
open Go.Am Go.RowKit
def PH.nil:PH:=⟨fun _=>none,0⟩
def PH.over (h:PH) (n:Nat) (h':PH):PH:=⟨fun i=>if i < n then h'.get i else h.get i,h.next⟩
theorem PH.cut_zero (h:PH):h.cut 0=.nil:=by simp [PH.cut,PH.nil]
theorem PH.over_zero (h h':PH):h.over 0 h'=h:=by simp [PH.over]
theorem PH.nil_ok:PH.nil.Ok:=fun i b h=>by simp [PH.nil] at h
section
variable {s:St} {A:AP} {P:Program} {E:Eqs} {w0:Base}
def hid (s:St) (n k:Nat):Prop:=k < s.w.heap.size∧((s.σ k).cut n=.no∨∃ m,(s.σ k).cut n=.fz m none)
def Base.hide (s:St) (n:Nat):Base:=⟨s.w,hid s n,fun _ h=>h.1⟩
theorem PW.hide (h:PW w0 s) {n:Nat} (hok:(s.h.cut n).Ok):PW (Base.hide s n) (s.cut n):=by
 have h1:=h.cut hok
 refine ⟨rfl,rfl,rfl,Nat.le_refl _,fun _ _=>rfl,fun k hk=>hk.2,fun k o hk ho=>?_,h1.inb,h1.ob,h1.hp⟩
 have hlt:k < s.w.heap.size:=(Array.getElem?_eq_some_iff.1 ho).1
 refine h.cold k o (fun hp=>hk ⟨hlt,?_⟩) ho
 rcases h.prot k hp with e | ⟨m,e⟩
 ·exact .inl (by rw [e];rfl)
 ·exact .inr ⟨m,by rw [e];rfl⟩
theorem cut_fz {n m:Nat} {own:Option Nat} {b:BS} (h:b=.fz m own):∃ own',b.cut n=.fz m own':=by
 subst h
 cases own with
 |none=>exact ⟨none,rfl⟩
 |some i =>
  by_cases hi:i < n
  ·exact ⟨some i,by simp [BS.cut,hi]⟩
  ·exact ⟨none,by simp [BS.cut,hi]⟩
theorem fz_cut {n m:Nat} {own:Option Nat} {b:BS} (h:b.cut n=.fz m own):∃ own',b=.fz m own':=by
 cases b with
 |no=>cases h
 |fz m' own' =>
  obtain ⟨o2,h2⟩:=cut_fz (n:=n) (b:=.fz m' own') rfl
  rw [h] at h2
  cases h2
  exact ⟨own',rfl⟩
 |live j =>
  simp only [BS.cut] at h
  split at h<;>cases h
open Classical in
noncomputable def St.back (s s':St) (n:Nat):St :=
 { σ:=fun k=>if hid s n k then s.σ k else (s'.σ k).cut n,e:=fun i=>if i < n then s'.e i else s.e i,h:=s.h.over n s'.h,w:=s'.w }
section
variable {s':St} {n:Nat}
theorem back_hid (k:Nat) (h:hid s n k):(s.back s' n).σ k=s.σ k:=by simp [St.back,h]
theorem back_not (k:Nat) (h:¬ hid s n k):(s.back s' n).σ k=(s'.σ k).cut n:=by simp [St.back,h]
theorem back_e (hn:n≤s.h.next) (hx:Ext (s.cut n) s') (i:Nat):(s.back s' n).e i=s.e i:=by
 simp only [St.back]
 by_cases hi:i < n
 ·rw [if_pos hi]
  exact hx.e i hi
 ·rw [if_neg hi]
theorem back_ext (hw:PW w0 s) (hn:n≤s.h.next) (h1:PW (Base.hide s n) s') (hx:Ext (s.cut n) s'):Ext s (s.back s' n):=by
 refine Ext.mk' ⟨hx.old.1,fun k hk=>⟨fun e=>?_,fun m e=>?_⟩⟩ (Nat.le_refl _) (fun i _=>back_e hn hx i) (fun k o y hy=>?_) (fun i m hi hm=>?_) (fun k r hr=>?_)
 ·rw [back_hid k ⟨hk,.inl (by rw [e];rfl)⟩];exact e
 ·rw [back_hid k ⟨hk,.inr ⟨m,by rw [e];rfl⟩⟩];exact e
 ·have hy':=hx.cell k o y (by rw [fcell_cut];exact hy)
  obtain ⟨m,own,p1,p2,p3⟩:=fcell_some hy
  obtain ⟨m',own',q1,q2,q3⟩:=fcell_some hy'
  by_cases hh:hid s n k
  ·exact fcell_of (s:=s.back s' n) (by rw [back_hid k hh];exact p1) p2 q3
  ·obtain ⟨o2,e2⟩:=cut_fz (n:=n) q1
   exact fcell_of (s:=s.back s' n) (by rw [back_not k hh];exact e2) q2 q3
 ·by_cases hh:hid s n (s.e i)
  ·rw [back_hid _ hh] at hm
   exact ⟨hm,fun arr t ha=>⟨arr,(h1.old _ hh).trans ha,rfl⟩⟩
  ·rw [back_not _ hh] at hm
   obtain ⟨q1,q2⟩:=cut_own hm
   obtain ⟨r1,r2⟩:=hx.own i m q2 q1
   obtain ⟨r3,_⟩:=cut_own r1
   exact ⟨r3,r2⟩
 ·obtain ⟨⟨m,own,p1⟩,_⟩:=fmp_some.1 hr
  obtain ⟨⟨m',own',q1⟩,q3⟩:=fmp_some.1 (hx.fmp k r (fmp_cut hr))
  by_cases hh:hid s n k
  ·exact fmp_some.2 ⟨⟨m,own,by rw [back_hid k hh];exact p1⟩,q3⟩
  ·obtain ⟨o2,e2⟩:=cut_fz (n:=n) q1
   exact fmp_some.2 ⟨⟨m',o2,by rw [back_not k hh];exact e2⟩,q3⟩
theorem back_ext0 (hn:n≤s.h.next) (h1:PW (Base.hide s n) s') (hx:Ext (s.cut n) s') (hnext:s'.h.next=n):Ext0 s' (s.back s' n):=by
 refine ⟨by rw [hnext];exact hn,fun i hi=>?_,fun k o y hy=>?_,fun i m hi hm=>?_,fun k r hr=>?_⟩
 ·rw [hnext] at hi
  simp only [St.back,if_pos hi]
 ·obtain ⟨m,own,q1,q2,q3⟩:=fcell_some hy
  by_cases hh:hid s n k
  ·have ho:=hx.old.2 k hh.1
   rcases hh.2 with e | ⟨m',e⟩
   ·rw [ho.1 e] at q1;cases q1
   ·rw [ho.2 m' e] at q1
    cases q1
    obtain ⟨o2,e2⟩:=fz_cut e
    exact fcell_of (s:=s.back s' n) (by rw [back_hid k hh];exact e2) q2 q3
  ·obtain ⟨o2,e2⟩:=cut_fz (n:=n) q1
   exact fcell_of (s:=s.back s' n) (by rw [back_not k hh];exact e2) q2 q3
 ·rw [hnext] at hi
  by_cases hh:hid s n (s'.e i)
  ·rw [back_hid _ hh] at hm
   have e2:(s.σ (s'.e i)).cut n=.fz m (some i):=by rw [hm];simp [BS.cut,hi]
   rcases hh.2 with e | ⟨m',e⟩<;>rw [e] at e2<;>cases e2
  ·rw [back_not _ hh] at hm
   exact ⟨(cut_own hm).1,fun arr t ha=>⟨arr,ha,rfl⟩⟩
 ·obtain ⟨⟨m,own,q1⟩,q3⟩:=fmp_some.1 hr
  by_cases hh:hid s n k
  ·have ho:=hx.old.2 k hh.1
   rcases hh.2 with e | ⟨m',e⟩
   ·rw [ho.1 e] at q1;cases q1
   ·obtain ⟨o2,e2⟩:=fz_cut e
    exact fmp_some.2 ⟨⟨m',o2,by rw [back_hid k hh];exact e2⟩,q3⟩
  ·obtain ⟨o2,e2⟩:=cut_fz (n:=n) q1
   exact fmp_some.2 ⟨⟨m,o2,by rw [back_not k hh];exact e2⟩,q3⟩
theorem back_pw (hw:PW w0 s) (hn:n≤s.h.next) (h1:PW (Base.hide s n) s') (hx:Ext (s.cut n) s') (hnext:s'.h.next=n):PW w0 (s.back s' n):=by
 have hxb:=back_ext hw hn h1 hx
 have p0:∀ k,w0.pr k→hid s n k:=fun k hk=>by
  have:=w0.lt k hk
  have:=hw.size
  refine ⟨by omega,?_⟩
  rcases hw.prot k hk with e | ⟨m,e⟩
  ·exact .inl (by rw [e];rfl)
  ·exact .inr ⟨m,by rw [e];rfl⟩
 refine ⟨h1.os.trans hw.os,h1.tape.trans hw.tape,h1.output.trans hw.output,Nat.le_trans hw.size h1.size,fun k hk=>(h1.old k (p0 k hk)).trans (hw.old k hk),fun k hk=>?_,fun k o hk ho=>?_,fun k hk=>?_,fun k m i hk=>?_,fun i b hi=>?_⟩
 ·rw [back_hid k (p0 k hk)]
  exact hw.prot k hk
 ·by_cases hh:hid s n k
  ·exact hw.cold k o hk ((h1.old k hh).symm.trans ho)
  ·exact h1.cold k o hh ho
 ·have hk1:s'.w.heap.size≤k:=hk
  have hk2:=h1.size
  have hk3:s.w.heap.size≤s'.w.heap.size:=hk2
  rw [back_not k (fun hh=>by have:=hh.1;omega),h1.inb k hk]
  rfl
 ·by_cases hh:hid s n k
  ·rw [back_hid k hh] at hk
   obtain ⟨q1,q2,arr,t,q3,q4⟩:=hw.ob k m i hk
   refine ⟨q1,?_,arr,t,(h1.old k hh).trans q3,q4⟩
   rw [back_e hn hx]
   exact q2
  ·rw [back_not k hh] at hk
   obtain ⟨q0,q1⟩:=cut_own hk
   obtain ⟨r1,r2,r3⟩:=h1.ob k m i q0
   refine ⟨Nat.lt_of_lt_of_le q1 hn,?_,r3⟩
   simp only [St.back,if_pos q1]
   exact r2
 ·have hi':(if i < n then s'.h.get i else s.h.get i)=some b:=hi
  by_cases hin:i < n
  ·rw [if_pos hin] at hi'
   obtain ⟨q1,q2,q3⟩:=h1.hp i b hi'
   have e1:(s.back s' n).e i=s'.e i:=by simp only [St.back,if_pos hin]
   have hnh:¬ hid s n (s'.e i):=fun hh=>by
    rcases h1.prot _ hh with e | ⟨m,e⟩<;>cases b<;>simp only [BAt] at q2<;>first
     |(rw [e] at q2;cases q2;done)
     |(obtain ⟨m',q2⟩:=q2;rw [e] at q2;cases q2)
   have hb:BAt (s.back s' n) i b:=by
    cases b<;>simp only [BAt] at q2 ⊢<;>rw [e1,back_not _ hnh]<;>first
     |(rw [q2];simp only [BS.cut,hin,if_true];done)
     |(obtain ⟨m',q2⟩:=q2;exact ⟨m',by rw [q2];simp only [BS.cut,hin,if_true]⟩)
   refine ⟨Nat.lt_of_lt_of_le hin hn,hb,?_⟩
   rw [e1]
   exact q3.ext0 (back_ext0 hn h1 hx hnext) rfl
  ·rw [if_neg hin] at hi'
   obtain ⟨q1,q2,q3⟩:=hw.hp i b hi'
   have e1:(s.back s' n).e i=s.e i:=by simp only [St.back,if_neg hin]
   have hh:hid s n (s.e i):=⟨hw.lt q2.some,by
    cases b<;>simp only [BAt] at q2<;>first
     |(exact .inl (by rw [q2];simp only [BS.cut,hin,if_false]))
     |(obtain ⟨m,q2⟩:=q2;exact .inr ⟨m,by rw [q2];simp only [BS.cut,hin,if_false]⟩)⟩
   refine ⟨q1,BAt.congr e1 (back_hid _ hh) q2,?_⟩
   rw [e1]
   exact q3.ext hxb (h1.old _ hh)
end
theorem PCall.frame {g:FuncId} {args:List PV} {h:PH} {n:Nat} {R X:PV→PH→Prop} (hn:n≤h.next) (hb:PV.bds n args=true) (hok:h.Ok→(h.cut n).Ok) (hp:PCall P g args (h.cut n) R X)
  (hR:∀ v h',R v h'→h'.next=n) (hX:∀ v h',X v h'→h'.next=n):PCall P g args h (fun v h''=>∃ h',R v h'∧h''=h.over n h') (fun v h''=>∃ h',X v h'∧h''=h.over n h'):=by
 refine ⟨hp.1,fun w0 s xs hw hh hx=>?_⟩
 subst hh
 have h1:=hw.hide (hok hw.ok)
 refine (hp.2 _ (s.cut n) xs h1 rfl ((R2s.cut args hb).1 _ hx)).mono fun e w' he=>?_
 obtain ⟨s',e1,e2,e3,e4⟩:=he
 have fin:∀ hnext:s'.h.next=n,(s.back s' n).w=w'∧PW w0 (s.back s' n)∧Ext s (s.back s' n)∧Ext0 s' (s.back s' n):=fun hnext =>
  ⟨e1,back_pw hw hn e2 e3 hnext,back_ext hw hn e2 e3,back_ext0 hn e2 e3 hnext⟩
 cases e with
 |returned x =>
  obtain ⟨v,v1,v2⟩:=e4
  obtain ⟨f1,f2,f3,f4⟩:=fin (hR _ _ v2)
  exact ⟨s.back s' n,f1,f2,f3,v,(R2.ext0 f4 v).1 _ v1,_,v2,rfl⟩
 |panicked c =>
  obtain ⟨v,x,hc,v1,v2⟩:=e4
  obtain ⟨f1,f2,f3,f4⟩:=fin (hX _ _ v2)
  exact ⟨s.back s' n,f1,f2,f3,v,x,hc,(R2.ext0 f4 v).1 _ v1,_,v2,rfl⟩
 |outgrown=>exact e4.elim
def PFun (P:Program) (g:FuncId) (args:List PV) (R X:PV→Prop):Prop:=PCall P g args .nil (fun v h=>h=.nil∧R v) (fun v h=>h=.nil∧X v)
theorem PFun.call {g:FuncId} {args:List PV} {R X:PV→Prop} (hp:PFun P g args R X) (hb:PV.bds 0 args=true) {h:PH} {K Y:PV→PH→Prop} (hK:∀ v,R v→K v h) (hY:∀ v,X v→Y v h):PCall P g args h K Y:=by
 have h1:PCall P g args (h.cut 0) (fun v h=>h=.nil∧R v) (fun v h=>h=.nil∧X v):=by rw [PH.cut_zero];exact hp
 refine (PCall.frame (n:=0) (h:=h) (Nat.zero_le _) hb (fun _=>by rw [PH.cut_zero];exact PH.nil_ok) h1 (fun v h' e=>by rw [e.1];rfl) (fun v h' e=>by rw [e.1];rfl)).mono ?_ ?_
 ·rintro v h'' ⟨h',⟨_,r⟩,rfl⟩
  rw [PH.over_zero]
  exact hK v r
 ·rintro v h'' ⟨h',⟨_,r⟩,rfl⟩
  rw [PH.over_zero]
  exact hY v r
end
end Go.Pv
namespace Go.Pv
open Go.Am Go.RowKit
def tsets (t:T PV):List Tmp→List PV→T PV
 |p::ps,v::vs=>tsets (t.set p v) ps vs
 |_,_=>t
def QRound (l:Nat) (fn:FuncId) (sz:Nat) (ps:Array Tmp) (asg body:Code) (d:Nat) (R:PV→PH→Prop):PQ:=fun e _ ds h =>
 ds=[]∧∃ st pd t',h.get l=some (.loop st pd fn t' sz ps asg body d)∧match e with
  |.normal=>R (.lit (.bool true)) (h.put l (.loop .ready none fn t' sz ps asg body d))
  |.jump j=>Thru j []∧R (.lit (.bool false)) (h.put l (.loop .done (some j) fn t' sz ps asg body d))
section
variable {s:St} {A:AP} {P:Program} {E:Eqs} {w0:Base} {b:Frame} {k:List Item} {cs:List Frame}
theorem PW.loop (h:PW w0 s) {l:Nat} {st:LoopState} {pd:Option Code} {fn:FuncId} {t:T PV} {sz:Nat} {ps:Array Tmp} {asg body:Code} {d:Nat} (hl:s.h.get l=some (.loop st pd fn t sz ps asg body d)) :
  l < s.h.next∧s.σ (s.e l)=.live l∧d < s.h.next∧∃ a:Array Value,a.size=sz∧TV s t.get a∧s.w.heap[s.e l]?=some (.loop { state:=st,pending:=pd,fn,tmps:=a,params:=ps,assign:=asg,body,defers:=s.e d }):=by
 obtain ⟨h1,h2,a,h3,h4,h5,h6⟩:=h.hp l _ hl
 exact ⟨h1,(BAt_live (b:=.loop st pd fn t sz ps asg body d) rfl).1 h2,h3,a,h4,h5,h6⟩
theorem loopSet (hw:PW w0 s) {l:Nat} {st st':LoopState} {pd pd':Option Code} {fn:FuncId} {t:T PV} {sz:Nat} {ps:Array Tmp} {asg body:Code} {d:Nat} (hl:s.h.get l=some (.loop st pd fn t sz ps asg body d)) {a:Array Value}
  (ha:s.w.heap[s.e l]?=some (.loop { state:=st,pending:=pd,fn,tmps:=a,params:=ps,assign:=asg,body,defers:=s.e d })) :
  ∃ s':St,(setObj (s.e l) (.loop { state:=st',pending:=pd',fn,tmps:=a,params:=ps,assign:=asg,body,defers:=s.e d })).run P s.w=.ok () s'.w∧PW w0 s'∧Ext s s' ∧
   s'.h=s.h.put l (.loop st' pd' fn t sz ps asg body d):=by
 obtain ⟨h1,h2,h3,a',h4,h5,h6⟩:=hw.loop hl
 rw [ha] at h6
 cases h6
 refine setObj_ok hw h1 h2 (b:=.loop st' pd' fn t sz ps asg body d) rfl ha (fun _ _ _ e=>by cases e) (fun _ _ _ e=>by cases e) fun s' hx hs'=>?_
 exact ⟨a,Nat.lt_of_lt_of_le h3 hx.next,h4,h5.ext hx,by rw [hs',hx.e d h3]⟩
theorem tsets_ok {l:List Tmp}:∀ {vs:List PV} {xs:List Value} {t:T PV} {arr:Array Value},vs.length=l.length→(∀ p∈l,p < arr.size)→TV s t.get arr→RVs s vs xs →
  TV s (tsets t l vs).get ((l.zip xs).foldl (fun tmps (t,a)=>tmps.setIfInBounds t a) arr)∧((l.zip xs).foldl (fun tmps (t,a)=>tmps.setIfInBounds t a) arr).size=arr.size:=by
 induction l with
 |nil=>intro vs xs t arr _ _ ht _;exact ⟨by simpa [tsets] using ht,rfl⟩
 |cons p ps ih =>
  intro vs xs t arr hl hb ht hx
  match vs,hl with
  |v::vs,hl =>
   obtain ⟨y,ys,rfl,h1,h2⟩:=RVs_cons.1 hx
   have hp:=hb p (by simp)
   have ht':TV s (t.set p v).get (arr.setIfInBounds p y):=TV.put (d:=some p) ht (by simpa [dstIn] using (T.blt_iff _ _).2 hp) h1
   have:=ih (vs:=vs) (xs:=ys) (t:=t.set p v) (arr:=arr.setIfInBounds p y) (by simpa using hl) (fun q hq=>by simpa using hb q (by simp [hq])) ht' h2
   simpa [tsets] using this
theorem exec_begin {fr:Frame} {l:Nat} (hm:fr.mode=.run) (ht:fr.todo=.beginRound::k) (hr:fr.roundOf=some l) {w w':World} (h:(Instr.beginRound l).run P w=.ok () w') :
  step P (lone fr cs w)=.next (lone { fr with todo:=k } cs w'):=by
 refine step_lone_go ?_
 rw [stepG_run hm]
 have : (do fr.roundOf.elim (stuck "beginRound: no round") Instr.beginRound; pure .skip : Sem Next).run P w = .ok .skip w' := by
  rw [hr]
  simp [h]
 simp only [stepG.exec,ht]
 rw [apply_skip this]
 simp [Frame.finish,ht]
theorem round_leave {fr:Frame} (hm:fr.mode=.run) {jump:Option Code} {k:List Item}
  (ht : (fr.todo = [] ∧ jump = none) ∨ (fr.todo = .code .ret :: k ∧ jump = some .ret) ∨ (∃ id, fr.todo = .code (.exit id) :: k ∧ jump = some (.exit id) ∧ exitTo id k = none) ∨
   (∃ l,fr.todo=.code (.goto l)::k∧jump=some (.goto l)∧gotoIn l k=none)) {l:Nat} (hr:fr.roundOf=some l) (hk:fr.kind=.normal) {v:Value} {w w':World} (hrun:(Instr.endRound l jump).run P w=.ok v w') (c:Frame) :
  step P (lone fr (c::cs) w)=.next (lone (c.finish v) cs w'):=by
 refine step_lone_go ?_
 rw [exec_leave hm ht hr hrun]
 simp [doReturn,hk]
theorem PCallV.yld {l:Nat} {args:List PV} {h:PH} {R X:PV→PH→Prop} {fn:FuncId} {t:T PV} {sz:Nat} {ps:Array Tmp} {asg body:Code} {d:Nat} (hl:h.get l=some (.loop .ready none fn t sz ps asg body d))
  (hfn:∃ f,P.funcs[fn]?=some f) (hlen:args.length=ps.size) (hps:∀ p∈ps.toList,p < sz)
  (hc : PWP P fn sz (some l) asg (fun e t1 ds1 h1 => e = .normal ∧ ds1 = [] ∧ ∃ t', h1.get l = some (.loop .ready none fn t' sz ps asg body d) ∧
    PWP P fn sz (some l) body (QRound l fn sz ps asg body d R) (fun _ ds v h=>ds=[]∧X v h) t1 [] (h1.put l (.loop .busy none fn t' sz ps asg body d)))
   (fun _ ds v h=>ds=[]∧X v h) (tsets t ps.toList args) [] h):PCallV P (.yld l) args h R X:=by
 intro w0 s fn' xf xc xs hw hh hf hx
 subst hh
 obtain ⟨hl1,hfe⟩:=RV_yld.1 hf
 cases hfe
 obtain ⟨p1,p2,p3,a,p4,p5,p6⟩:=hw.loop hl
 have hxl:xs.size=ps.size:=by
  have:=hx.length
  simp only [Array.length_toList] at this
  omega
 have hrun:(invoke (.fn (.yield (s.e l)) #[]) (#[]++xs)).run P s.w=.ok (.round (s.e l) fn ((ps.zip xs).foldl (fun tmps (t,a)=>tmps.setIfInBounds t a) a) asg body) s.w:=by
  simp [invoke,Instr.yield,Instr.getLoop,getObj,Sem.run,p6,hxl]
 rw [hrun]
 intro c cs
 obtain ⟨q1,q2⟩:=tsets_ok (s:=s) (l:=ps.toList) (vs:=args) (xs:=xs.toList) (t:=t) (arr:=a) (by simpa using hlen) (fun p hp=>by rw [p4];exact hps p hp) p5 hx
 have hfold:(ps.zip xs).foldl (fun tmps (t,a)=>tmps.setIfInBounds t a) a=((ps.toList.zip xs.toList).foldl (fun tmps (t,a)=>tmps.setIfInBounds t a) a):=by
  rw [← Array.foldl_toList]
  simp
 rw [hfold]
 generalize ha1:((ps.toList.zip xs.toList).foldl (fun tmps (t,a)=>tmps.setIfInBounds t a) a)=a1 at q1 q2
 let b:Frame:=Frame.round (s.e l) fn a1 asg body .normal
 have hb:b=on b a1 (dls s []) [.code asg,.beginRound,.code body]:=by simp [b,on,Frame.round,dls]
 have hbm:b.mode=.run:=rfl
 have hbr:b.roundOf=some (s.e l):=rfl
 have hbk:b.kind=.normal:=rfl
 have hbd:b.defers=[]:=rfl
 have raise:∀ (s':St) (arr':Array Value) (v:PV) (x:Value) (todo:List Item),PW w0 s'→Ext s s'→X v s'.h→RV s' v x →
   Steps P (lone b (c::cs) s.w) (lone { on b arr' [] todo with mode:=.panicking [{ v:=x,recovered:=false }] } (c::cs) s'.w)→∃ chain w',Ends w0 s R X (.panicked chain) w'∧Steps P (lone b (c::cs) s.w) (lone (c.raise chain) cs w'):=by
  intro s' arr' v x todo h1 h2 h3 h4 h5
  refine ⟨_,s'.w,⟨s',rfl,h1,h2,v,x,rfl,h4,h3⟩,h5.trans (.one (step_leave_panicked ⟨rfl,rfl,?_⟩))⟩
  exact hfn
 have h1:=hc w0 s a1 b [.beginRound,.code body] (c::cs) hw rfl q1 (q2.trans p4) (fun i hi=>by cases hi) hbm (by rw [hbr];rfl) (fun i hi=>by cases hi;exact p1) rfl
 rw [← hb] at h1
 obtain ⟨s1,arr1,ds1,g1,g2,g3,g4,g5⟩:=h1
 rcases g5 with ⟨t1,u1,u2,u3⟩ | ⟨t1,j,pre,u1,_⟩ | ⟨tx,v,x,todo,u1,u2,_,u3⟩
 ·obtain ⟨_,rfl,t',v1,v2⟩:=u1
  obtain ⟨r1,r2,r3,a2,r4,r5,r6⟩:=g1.loop v1
  obtain ⟨s2,e1,e2,e3,e4⟩:=loopSet (P:=P) (st':=.busy) (pd':=none) g1 v1 r6
  have hbeg:(Instr.beginRound (s1.e l)).run P s1.w=.ok () s2.w:=by
   simp only [Instr.beginRound,Instr.getLoop,getObj,Sem.run_bind,Sem.run,r6,Result.andThen_ok]
   simp only [Sem.run_pure,Result.andThen_ok]
   have e1':=e1
   simp only [setObj,Sem.run,r6] at e1' ⊢
   simp only [r6,Result.andThen_ok,Sem.run_pure,Sem.run_bind] at e1' ⊢
   first
    |exact e1'
    |simpa using e1'
  have hx2:=g2.trans e3
  have hst2:=exec_begin (P:=P) (cs:=c::cs) (fr:=on b arr1 (dls s1 []) [.beginRound,.code body]) (k:=[.code body]) (l:=s1.e l) rfl rfl (by rw [g2.e l p1];exact hbr) hbeg
  have h2:=v2 w0 s2 arr1 b [] (c::cs) e2 e4 (u2.ext e3) g3 (fun i hi=>by cases hi) hbm (by rw [hbr];simp only [Option.map_some,hx2.e l p1]) (fun i hi=>by cases hi;exact Nat.lt_of_lt_of_le p1 hx2.next) rfl
  have hto2:Steps P (lone b (c::cs) s.w) (lone (on b arr1 (dls s2 []) [.code body]) (c::cs) s2.w):=u3.trans (.one hst2)
  obtain ⟨s3,arr3,ds3,w1,w2,w3,w4,w5⟩:=h2
  have hx3:=hx2.trans w2
  have fin:∀ (jump:Option Code) (todo k:List Item) (t3:T PV) (ds3:List Nat),TV s3 t3.get arr3→QRound l fn sz ps asg body d R (match jump with
     |none=>.normal
     |some j=>.jump j) t3 ds3 s3.h →
    ((todo=[]∧jump=none)∨(todo=.code .ret::k∧jump=some .ret)∨(∃ id,todo=.code (.exit id)::k∧jump=some (.exit id)∧exitTo id k=none)∨(∃ l,todo=.code (.goto l)::k∧jump=some (.goto l)∧gotoIn l k=none)) →
    Steps P (lone b (c::cs) s.w) (lone (on b arr3 [] todo) (c::cs) s3.w)→∃ v w',Ends w0 s R X (.returned v) w'∧Steps P (lone b (c::cs) s.w) (lone (c.finish v) cs w'):=by
   intro jump todo k t3 ds3 ht3 hq htodo hsteps
   obtain ⟨_,st,pd,t4,y1,y2⟩:=hq
   obtain ⟨z1,z2,z3,a4,z4,z5,z6⟩:=w1.loop y1
   obtain ⟨s4,f1,f2,f3,f4⟩:=loopSet (P:=P) (st':=if jump.isNone then .ready else .done) (pd':=jump) w1 y1 z6
   have hend:(Instr.endRound (s3.e l) jump).run P s3.w=.ok (.bool jump.isNone) s4.w:=by
    simp only [Instr.endRound,Instr.getLoop,getObj,Sem.run_bind,Sem.run,z6,Result.andThen_ok]
    simp only [Sem.run_pure,Result.andThen_ok]
    have f1':=f1
    simp only [setObj,Sem.run,z6] at f1' ⊢
    simp only [z6,Result.andThen_ok,Sem.run_pure,Sem.run_bind] at f1' ⊢
    first
     |(rw [f1'];rfl)
     |(simp at f1' ⊢;exact f1')
   have hlv:=round_leave (P:=P) (cs:=cs) (fr:=on b arr3 [] todo) (jump:=jump) (k:=k) rfl htodo (l:=s3.e l) (by rw [hx3.e l p1];exact hbr) rfl hend c
   refine ⟨_,_,⟨s4,rfl,f2,hx3.trans f3,.lit (.bool jump.isNone),RV_lit.2 ⟨rfl,by simp [VR]⟩,?_⟩,hsteps.trans (.one hlv)⟩
   rw [f4]
   cases jump with
   |none=>exact y2
   |some j=>exact y2.2
  rcases w5 with ⟨t3,n1,n2,n3⟩ | ⟨t3,j,pre,n1,n2,n2',n3⟩ | ⟨tx,v,x,todo,n1,n2,_,n3⟩
  ·refine .inl (fin none [] [] t3 _ n2 n1 (.inl ⟨rfl,rfl⟩) ?_)
   have:=hto2.trans n3
   rw [n1.1] at this
   exact this
  ·have hth:=n1
   obtain ⟨hd0,_,_,_,_,hthru,_⟩:=hth
   subst hd0
   refine .inl (fin (some j) _ (pre++[]) t3 _ n2 n1 ?_ (hto2.trans n3))
   cases j<;>simp only [Thru] at hthru n2'<;>first
    |exact .inr (.inl ⟨rfl,rfl⟩)
    |exact .inr (.inr (.inl ⟨_,rfl,rfl,(n2' []).trans rfl⟩))
    |exact .inr (.inr (.inr ⟨_,rfl,rfl,(n2' []).trans rfl⟩))
  ·obtain ⟨rfl,n1⟩:=n1
   exact .inr (raise s3 arr3 v x todo w1 hx3 n1 n2 (hto2.trans n3))
 ·cases u1.1
 ·obtain ⟨rfl,u1⟩:=u1
  exact .inr (raise s1 arr1 v x todo g1 g2 u1 u2 u3)
theorem invoke_go {fr0 fr1:Frame} {w w1:World} {sem:Sem Next} {R:Ending→World→Prop} (hstep:(stepG P true { frame:=fr0,callers:=cs,status:=.running,dying:=none } w).bare=(stepG.apply P true fr1 cs none sem w1).bare)
  (hn:∀ d r sv k,fr1.todo≠.call d true r sv::k) (hgo:VGo P (sem.run P w1) R) (hno:∀ w,¬ R .outgrown w) :
  (∃ v w',R (.returned v) w'∧Steps P (lone fr0 cs w) (lone (fr1.finish v) cs w'))∨∃ chain w',R (.panicked chain) w'∧Steps P (lone fr0 cs w) (lone (fr1.raise chain) cs w'):=by
 generalize hr:sem.run P w1=r at hgo
 cases r with
 |halt x w=>exact hgo.elim
 |ok nx w2 =>
  cases nx<;>try exact hgo.elim
  ·next g xs =>
   obtain ⟨e,w',fr',he,hc,_,hlv⟩:=hgo (fr1::cs)
   have henter:step P (lone fr0 cs w)=.next (lone (Frame.enter P g xs .normal) (fr1::cs) w2):=step_lone_go (by rw [hstep];exact apply_enter hn hr)
   cases e with
   |returned x=>exact .inl ⟨x,w',he,.head henter (Steps.trans hc (.one (step_leave_returned hlv)))⟩
   |panicked ch=>exact .inr ⟨ch,w',he,.head henter (Steps.trans hc (.one (step_leave_panicked hlv)))⟩
   |outgrown=>exact absurd he (hno _)
  ·next l f tmps asg body =>
   have henter:step P (lone fr0 cs w)=.next (lone (Frame.round l f tmps asg body .normal) (fr1::cs) w2):=step_lone_go (by rw [hstep];exact apply_round hr)
   rcases hgo fr1 cs with ⟨x,w',h1,h2⟩ | ⟨ch,w',h1,h2⟩
   ·exact .inl ⟨x,w',h1,.head henter h2⟩
   ·exact .inr ⟨ch,w',h1,.head henter h2⟩
theorem exec_end {fr:Frame} {l:Nat} (hm:fr.mode=.run) (ht:fr.todo=.endRangeFunc l::k) {w w':World} {pd:Option Code} (h:(Instr.endLoop l).run P w=.ok pd w') :
  step P (lone fr cs w)=.next (lone { fr with todo:=(pd.map Item.code).toList++k } cs w'):=by
 refine step_lone_go ?_
 rw [stepG_run hm]
 simp only [stepG.exec,ht,Sem.runT_eq,h,GStep.bare_after]
 rfl
def QLoop (l:Nat) (t:T PV) (ds:List Nat) (Q:PQ):PV→PH→Prop:=fun _ h2 =>
 ∃ st pd fn t' sz ps asg body d,(st == LoopState.busy)=false∧h2.get l=some (.loop st pd fn t' sz ps asg body d)∧match pd with
  |none=>Q .normal t ds (h2.del l)
  |some j=>Thru j []∧Q (.jump j) t ds (h2.del l)
theorem range_end {sz:Nat} {Q:PQ} {X:T PV→List Nat→PV→PH→Prop} {t:T PV} {ds:List Nat} {l:Nat} {arr:Array Value} (hm:b.mode=.run) (hw:PW w0 s) (ht:TV s t.get arr) (hsz:arr.size=sz) (hds:∀ i∈ds,i < s.h.next)
  {v:PV} (hq:QLoop l t ds Q v s.h):POut P w0 s sz b k cs Q X (lone (on b arr (dls s ds) (.endRangeFunc (s.e l)::k)) cs s.w):=by
 obtain ⟨st,pd,fn,t',sz',ps,asg,body,d,h1,h2,h3⟩:=hq
 obtain ⟨p1,p2,p3,a,p4,p5,p6⟩:=hw.loop h2
 obtain ⟨s1,e1,e2,e3,e4⟩:=dropObj_ok hw h2 rfl (o':=.loop { state:=.exhausted,pending:=pd,fn,tmps:=a,params:=ps,assign:=asg,body,defers:=s.e d }) (fun _ _ _ e=>by cases e)
 have hend:(Instr.endLoop (s.e l)).run P s.w=.ok pd s1.w:=by
  rw [e1]
  have hb:st≠.busy:=by intro e;subst e;exact absurd h1 (by decide)
  simp [Instr.endLoop,Instr.getLoop,getObj,setObj,Sem.run,p6,hb]
 have hst:=exec_end (P:=P) (cs:=cs) (fr:=on b arr (dls s ds) (.endRangeFunc (s.e l)::k)) (k:=k) hm rfl hend
 refine POut.of_steps (.one hst) (POut.ext e3 ?_)
 have hds':∀ i∈ds,i < s1.h.next:=fun i hi=>Nat.lt_of_lt_of_le (hds i hi) e3.next
 rw [← dls_ext e3 hds]
 rw [← e4] at h3
 cases pd with
 |none=>exact ⟨s1,arr,ds,e2,Ext.refl s1,hsz,hds',.inl ⟨t,h3,ht.ext e3,.refl _ _⟩⟩
 |some j=>exact ⟨s1,arr,ds,e2,Ext.refl s1,hsz,hds',.inr (.inl ⟨t,j,[],h3.2,ht.ext e3,h3.1,.refl _ _⟩)⟩
theorem Ends.notOut {R X:PV→PH→Prop} (w:World):¬ Ends w0 s R X .outgrown w:=fun ⟨_,_,_,_,h⟩=>h
theorem on_finish_range {arr:Array Value} {dl:List Deferred} {l:Nat} (x:Value):(on b arr dl (.inRangeFunc l::k)).finish x=on b arr dl (.endRangeFunc l::k):=by
 simp [Frame.finish,on]
theorem range_call (hA:A.Ok P) {sz:Nat} {Q:PQ} {X:T PV→List Nat→PV→PH→Prop} {t:T PV} {ds:List Nat} {l:Nat} {arr:Array Value} (hm:b.mode=.run) (hw:PW w0 s) (ht:TV s t.get arr) (hsz:arr.size=sz) (hds:∀ i∈ds,i < s.h.next)
  (hl:l < s.h.next) {f:Operand} {fv:PV} (hf:pev t.get f=some fv) (hc:pcallF A P fv [.yld l] s.h (QLoop l t ds Q) (fun v h=>X t ds v h)) {fr0:Frame} {w:World}
  (hstep : (stepG P true { frame := fr0, callers := cs, status := .running, dying := none } w).bare = (stepG.apply P true (on b arr (dls s ds) (.inRangeFunc (s.e l) :: k)) cs none
   (do let d ← resolve (on b arr (dls s ds) (.inRangeFunc (s.e l)::k)).eval { callee:=.value f,args:=#[.const (.func (.yield (s.e l)) #[] #[])],argTypes:=#[] } 0;invoke d.target d.args) s.w).bare) :
  POut P w0 s sz b k cs Q X (lone fr0 cs w):=by
 have hfv:=ev_on (b:=b) (dl:=dls s ds) (todo:=.inRangeFunc (s.e l)::k) ht f fv hf
 obtain ⟨fn,xf,xc,e1,hgo⟩:=pcallF_ok hA hc hw rfl hfv (xs:=#[.func (.yield (s.e l)) #[] #[]]) (RVs_cons.2 ⟨_,[],rfl,RV_yld.2 ⟨hl,rfl⟩,RVs_nil.2 rfl⟩)
 have hres:=resolve_yield (P:=P) (ρ:=(on b arr (dls s ds) (.inRangeFunc (s.e l)::k)).eval) (f:=f) e1 (.func (.yield (s.e l)) #[] #[]) s.w
 rw [show (on b arr (dls s ds) (.inRangeFunc (s.e l)::k)).eval (.const (.func (.yield (s.e l)) #[] #[]))=.func (.yield (s.e l)) #[] #[] from rfl] at hres
 rw [← hres] at hgo
 rcases invoke_go hstep (fun d r sv k' hc=>by simp [on] at hc) hgo (Ends.notOut) with ⟨x,w',⟨s',r1,r2,r3,v,r4,r5⟩,r6⟩ | ⟨ch,w',⟨s',r1,r2,r3,v,x,rfl,r4,r5⟩,r6⟩
 ·subst r1
  rw [on_finish_range,← r3.e l hl,← dls_ext r3 hds] at r6
  exact POut.of_steps r6 (POut.ext r3 (range_end hm r2 (ht.ext r3) hsz (fun i hi=>Nat.lt_of_lt_of_le (hds i hi) r3.next) r5))
 ·subst r1
  rw [on_raise hm,← dls_ext r3 hds] at r6
  exact ⟨s',arr,ds,r2,r3,hsz,fun i hi=>Nat.lt_of_lt_of_le (hds i hi) r3.next,.inr (.inr ⟨t,v,x,_,r5,r4,ht.ext r3,r6⟩)⟩
theorem PWP.rangeFunc (hA:A.Ok P) {fi:FuncId} {sz:Nat} {Q:PQ} {X:T PV→List Nat→PV→PH→Prop} {t:T PV} {ds:List Nat} {h:PH} {f:Operand} {ps:Array Tmp} {asg body:Code} {fv:PV} (hf:pev t.get f=some fv)
  (hc:pcallF A P fv [.yld (h.next+1)] ((h.add .dfr).add (.loop .ready none fi t sz ps asg body h.next)) (QLoop (h.next+1) t (h.next::ds) Q) (fun v h'=>X t (h.next::ds) v h')) :
  PWP P fi sz none (.rangeFunc f ps asg body) Q X t ds h:=by
 intro w0 s arr b k cs a1 a2 a3 a4 a5 a6 a7 a8 a9
 subst a2
 have hr0:b.roundOf=none:=a7
 let s1:=s.new .dfr (.deferred (some []))
 have hx1:Ext s s1:=Ext.new a1
 have hw1:PW w0 s1:=a1.new (fun _ _ _ e=>by cases e) rfl (heap_alloc_new _ _)
 let o2:Obj:=.loop { state:=.ready,pending:=none,fn:=fi,tmps:=arr,params:=ps,assign:=asg,body,defers:=s.w.heap.size }
 let s2:=s1.new (.loop .ready none fi t sz ps asg body s.h.next) o2
 have hx2:Ext s1 s2:=Ext.new hw1
 have hx:=hx1.trans hx2
 have he1:s1.e s.h.next=s.w.heap.size:=upd_self _ _ _
 have hw2:PW w0 s2:=by
  refine hw1.new (fun _ _ _ e=>by simp [o2] at e) rfl ⟨arr,?_,a4,a3.ext hx,?_⟩
  ·show s.h.next < s.h.next+1+1
   omega
  ·refine (heap_alloc_new s1.w o2).trans ?_
   have:s2.e s.h.next=s.w.heap.size:=(hx2.e _ (Nat.lt_succ_self _)).trans he1
   rw [show ((s1.new (.loop .ready none fi t sz ps asg body s.h.next) o2).e s.h.next)=s.w.heap.size from this]
 have hds2:∀ i∈s.h.next::ds,i < s2.h.next:=by
  intro i hi
  show i < s.h.next+1+1
  rcases List.mem_cons.1 hi with rfl | hi
  ·omega
  ·have:=a5 i hi
   omega
 have hl:s.h.next+1 < s2.h.next:=Nat.lt_succ_self _
 have he2:s2.e (s.h.next+1)=s.w.heap.size+1:=by
  have:s2.e s1.h.next=s1.w.heap.size:=upd_self _ _ _
  rw [show s.h.next+1=s1.h.next from rfl,this]
  simp [s1,St.new]
 have hd2:dls s2 (s.h.next::ds)={ target:=.collected s.w.heap.size,args:=#[] }::dls s ds:=by
  have:s2.e s.h.next=s.w.heap.size:=(hx2.e _ (Nat.lt_succ_self _)).trans he1
  have h3:=dls_ext hx a5
  simp only [dls,List.map_cons,this] at h3 ⊢
  rw [h3]
 refine POut.ext hx (range_call (s:=s2) (l:=s.h.next+1) hA a6 hw2 (a3.ext hx) a4 hds2 hl hf hc ?_)
 rw [stepG_run (fr:=on b arr (dls s ds) (.code (.rangeFunc f ps asg body)::k)) a6]
 have hent:(Instr.enterLoop b.fn arr ps asg body b.roundOf).run P s.w=.ok (s.w.heap.size+1,[{ target:=.collected s.w.heap.size,args:=#[] }]) s2.w:=by
  rw [hr0,a9]
  simp [Instr.enterLoop,s2,s1,o2,St.new]
 simp only [stepG.exec,on,Sem.runT_eq,hent,GStep.bare_after]
 rw [he2,hd2]
 simp
end
end Go.Pv
namespace Go.Pv
open Go.Am Go.RowKit
def PDefer (A:AP) (P:Program) (gd:FuncId) (caps:List PV) (rec:PV) (h:PH) (K:PH→Prop):Prop :=
 ∃ fd id o dr z, A.funcs.get gd = some fd ∧ fd.body = some (.seq (.region id #[o] false) z) ∧ o.dst = some dr ∧ o.guard = none ∧ (∃ c, o.op = .call c ∧ c.callee = .builtin .recover) ∧ fd.results = #[] ∧
  caps.length≤fd.ntmps∧dr < fd.ntmps ∧
  PWP P gd fd.ntmps none z (fun e _ ds h'=>match e with
   |.normal=>Undo ds h'∧K (unds ds h')
   |.jump .ret=>Undo ds h'∧K (unds ds h')
   |_=>False) (fun _ _ _ _=>False) ((T.ofList caps 0 .nil).set dr rec) [] h
section
variable {s:St} {A:AP} {P:Program} {E:Eqs} {w0:Base} {b:Frame} {k:List Item} {cs:List Frame}
inductive RecOf:FrameMode→Value→FrameMode→Prop where
 |ret:RecOf .returning .nilIface .returning
 |pan (v:Value):RecOf (.panicking [{ v:=v,recovered:=false }]) v (.panicking [{ v:=v,recovered:=true }])
theorem RecOf.settle {m m':FrameMode} {v:Value} (h:RecOf m v m'):settle m'=.returning:=by
 cases h<;>simp [Go.settle]
theorem RecOf.out {m m':FrameMode} {v:Value} (h:RecOf m v m'):m≠.run:=by
 cases h<;>simp
theorem apply_rec {fr c:Frame} {v:Value} {m':FrameMode} (hk:fr.kind=.deferred) (h0:fr.roundOf=none) (hr:RecOf c.mode v m') {sem:Sem Next} {w w':World} (h:sem.run P w=.ok .recover w') :
  (stepG.apply P true fr (c::cs) none sem w).bare=.go { frame:=fr.finish v,callers:={ c with mode:=m' }::cs,status:=.running,dying:=none } w':=by
 rw [apply_recover h0 h]
 obtain ⟨fn,tmps,todo,defers,mode,kind,roundOf⟩:=c
 simp only at hr
 cases hr with
 |ret=>simp [tryRecover,hk]
 |pan v=>simp [tryRecover,hk]
theorem deferred_go (hA:A.Ok P) {gd:FuncId} {caps:List PV} {rec:PV} {K:PH→Prop} (hd:PDefer A P gd caps rec s.h K) (hw:PW w0 s) {xs:Array Value} (hx:RVs s caps xs.toList) {c:Frame} {rv:Value} {m':FrameMode} (hrec:RecOf c.mode rv m') (hrv:RV s rec rv) :
  ∃ s',PW w0 s'∧Ext s s'∧K s'.h∧Steps P (lone (Frame.enter P gd xs .deferred) (c::cs) s.w) (lone { c with mode:=.returning } cs s'.w):=by
 obtain ⟨fd,id,o,dr,z,h1,h2,h3,h4,⟨cl,h5,h5'⟩,h6,h7,h8,h9⟩:=hd
 have hF:=hA.funcs gd fd h1
 have hl:xs.size=caps.length:=by simpa using hx.length
 let arr:Array Value:=xs++Array.replicate (fd.ntmps - xs.size) undef
 let b:Frame:=Frame.enter P gd xs .deferred
 have hb:b=on b arr [] [.code (.seq (.region id #[o] false) z)]:=by simp [b,on,Frame.enter,hF,h2,arr]
 have hbm:b.mode=.run:=by simp [b,Frame.enter]
 have hbk:b.kind=.deferred:=by simp [b,Frame.enter]
 have hbr:b.roundOf=none:=by simp [b,Frame.enter]
 have hbf:b.fn=gd:=by simp [b,Frame.enter]
 have hbd:b.defers=[]:=by simp [b,Frame.enter]
 have harr:arr.size=fd.ntmps:=by simp [arr];omega
 have htv:TV s (T.ofList caps 0 .nil).get arr:=by
  have:=TV.ofList hx (Array.replicate (fd.ntmps - xs.size) undef)
  simpa [arr] using this
 have ht2:TV s ((T.ofList caps 0 .nil).set dr rec).get (putA arr (some dr) rv):=TV.put (d:=some dr) htv (by rw [harr];exact (T.blt_iff _ _).2 h8) hrv
 have st1:Steps P (lone b (c::cs) s.w) (lone (on b arr [] [.inRegion #[o] [0],.code z]) (c::cs) s.w):=by
  rw [hb]
  exact (step_on (k':=[.code (.region id #[o] false),.code z]) hbm (by simp [stepG.exec,on])).trans (step_on (k':=[.inRegion #[o] [0],.code z]) hbm (by simp [stepG.exec,on]))
 have ho:(#[o]:Array Oper)[0]?=some o:=rfl
 have st2:Steps P (lone (on b arr [] [.inRegion #[o] [0],.code z]) (c::cs) s.w) (lone (on b (putA arr (some dr) rv) [] [.inRegion #[o] [],.code z]) ({ c with mode:=m' }::cs) s.w):=by
  refine .one (step_lone_go ?_)
  rw [stepG_run (fr:=on b arr [] [.inRegion #[o] [0],.code z]) hbm,exec_op (fr:=on b arr [] [.inRegion #[o] [0],.code z]) rfl ho (by simp [Region.wanted,h4]) (.inl hbr)]
  have hr:(execOp (on b arr [] [.inRegion #[o] [0],.code z]).eval o).run P s.w=.ok .recover s.w:=by
   simp [execOp,h5,resolve,h5',invoke,builtin]
  rw [apply_rec (fr:=on b arr [] [.inRegion #[o] [0],.code z]) hbk hbr hrec hr,on_finish ho,h3]
 have st3:Steps P (lone (on b (putA arr (some dr) rv) [] [.inRegion #[o] [],.code z]) ({ c with mode:=m' }::cs) s.w) (lone (on b (putA arr (some dr) rv) [] [.code z]) ({ c with mode:=m' }::cs) s.w) :=
  step_on hbm (by simp [stepG.exec,on])
 have hz:=h9 w0 s (putA arr (some dr) rv) b [] ({ c with mode:=m' }::cs) hw rfl ht2 (by rw [putA_size];exact harr) (fun i hi=>by cases hi) hbm (by rw [hbr];rfl) (fun i hi=>by cases hi) hbf
 obtain ⟨s1,arr1,ds1,p1,p2,p3,p4,p5⟩:=hz
 have fin:∀ todo,(todo=[]∨∃ k,todo=.code .ret::k)→(Undo ds1 s1.h∧K (unds ds1 s1.h))→Steps P (lone (on b (putA arr (some dr) rv) [] [.code z]) ({ c with mode:=m' }::cs) s.w) (lone (on b arr1 (dls s1 ds1) todo) ({ c with mode:=m' }::cs) s1.w) →
   ∃ s',PW w0 s'∧Ext s s'∧K s'.h∧Steps P (lone b (c::cs) s.w) (lone { c with mode:=.returning } cs s'.w):=by
  intro todo htodo hK hst
  have h0:step P (lone (on b arr1 (dls s1 ds1) todo) ({ c with mode:=m' }::cs) s1.w)=.next (lone { on b arr1 (dls s1 ds1) todo with mode:=.returning } ({ c with mode:=m' }::cs) s1.w):=by
   rcases htodo with rfl | ⟨k,rfl⟩
   ·exact exec_leave_none (k:=[]) (fr:=on b arr1 (dls s1 ds1) []) hbr hbm (.inl rfl)
   ·exact exec_leave_none (fr:=on b arr1 (dls s1 ds1) (.code .ret::k)) hbr hbm (.inr rfl)
  obtain ⟨s2,f1,f2,f3,f4⟩:=unds_go (P:=P) b todo ({ c with mode:=m' }::cs) .returning (by simp) arr1 ds1 s1 p1 hK.1
  have h5:=step_going_returned (P:=P) (fr:={ on b arr1 [] todo with mode:=.returning }) (c:={ c with mode:=m' }) (cs:=cs) (w:=s2.w) (v:=.tuple #[]) hbk ⟨rfl,by simp [on,hbd],fd,(by show P.funcs[b.fn]?=some fd;rw [hbf];exact hF),by simp [results,h6]⟩
  refine ⟨s2,f1,p2.trans f2,by rw [f3];exact hK.2,?_⟩
  rw [hrec.settle] at h5
  exact st1.trans (st2.trans (st3.trans (hst.trans (.head h0 (f4.trans (.one h5))))))
 rcases p5 with ⟨t1,q1,q2,q3⟩ | ⟨t1,j,pre,q1,q2,q2',q3⟩ | ⟨tx,v,x,todo,q1,q2,qx,q3⟩
 ·exact fin [] (.inl rfl) q1 q3
 ·cases j<;>simp only at q1
  exact fin _ (.inr ⟨_,rfl⟩) q1 q3
 ·exact q1.elim
end
end Go.Pv
namespace Go.Pv
open Go.Am Go.RowKit
def fr0 (g:FuncId):Frame:={ fn:=g,tmps:=#[],todo:=[],defers:=[],mode:=.run,kind:=.normal,roundOf:=none }
def PTail (A:AP) (P:Program) (g:FuncId) (fn:Func) (n:Nat) (R X:PV→PH→Prop) (c:Code) (t:T PV) (h:PH):Prop :=
 ∀ (w0:Base) (s0 s:St) (arr:Array Value) (cs:List Frame),s0.h.next=n→PW w0 s→Ext s0 s→s.h=h→TV s t.get arr→arr.size=fn.ntmps →
  ∃ e w' fr,Ends w0 s0 R X e w'∧Comes P (lone (on (fr0 g) arr [] [.code c]) cs s.w) (lone fr cs w') e∧fr.fn=g∧fr.leaving P w' e
def PRes (A:AP) (fn:Func) (n:Nat) (R:PV→PH→Prop) (t:T PV) (h:PH):Prop :=
 PDo (match presults A h t.get fn.results.toList with
  |some vs=>some (pone vs)
  |none=>none) fun v=>PCut n v h R
section
variable {s:St} {A:AP} {P:Program} {E:Eqs} {w0:Base} {cs:List Frame} {g:FuncId} {fn:Func} {R X:PV→PH→Prop} {M:Nat→Bool}
theorem PCall.introT (hA:A.Ok P) {c:Code} (hf:A.funcs.get g=some fn) (hc:fn.body=some c) {args:List PV} (hle:Nat.ble args.length fn.ntmps=true) {h:PH}
  (hp:h.Ok→PTail A P g fn h.next R X c (T.ofList args 0 .nil) h):PCall P g args h R X:=by
 have hF:=hA.funcs g fn hf
 refine ⟨⟨fn,c,hF,hc,by simpa using hA.names g fn hf⟩,fun w0 s xs hw hh hx cs=>?_⟩
 subst hh
 have hl:xs.size=args.length:=by simpa using hx.length
 rw [Nat.ble_eq] at hle
 let arr:Array Value:=xs++Array.replicate (fn.ntmps - xs.size) undef
 have htv:TV s (T.ofList args 0 .nil).get arr:=by
  have:=TV.ofList hx (Array.replicate (fn.ntmps - xs.size) undef)
  simpa [arr] using this
 have hb:Frame.enter P g xs .normal=on (fr0 g) arr [] [.code c]:=by simp [on,Frame.enter,hF,hc,arr,fr0]
 obtain ⟨e,w',fr,h1,h2,h3,h4⟩:=hp hw.ok w0 s s arr cs rfl hw (Ext.refl s) rfl htv (by simp [arr];omega)
 rw [← hb] at h2
 exact ⟨e,w',fr,h1,h2,h3,h4⟩
theorem PTail.seq {n:Nat} {x y:Code} {t:T PV} {h:PH} (hx:PWP P g fn.ntmps none x (fun e t ds h=>match e with
  |.normal=>ds=[]∧PTail A P g fn n R X y t h
  |.jump _=>False) (fun _ _ _ _=>False) t [] h):PTail A P g fn n R X (.seq x y) t h:=by
 intro w0 s0 s arr cs hn hw hxt hh ht hsz
 let b:Frame:=(fr0 g)
 have st:Steps P (lone (on b arr [] [.code (.seq x y)]) cs s.w) (lone (on b arr [] [.code x,.code y]) cs s.w):=step_on (k':=[.code x,.code y]) rfl (by simp [stepG.exec,on])
 obtain ⟨s1,arr1,ds1,p1,p2,p3,p4,p5⟩:=hx w0 s arr b [.code y] cs hw hh ht hsz (fun i hi=>by cases hi) rfl rfl (fun i hi=>by cases hi) rfl
 rcases p5 with ⟨t1,⟨q1,q1'⟩,q2,q3⟩ | ⟨t1,j,pre,q1,q2,q2',q3⟩ | ⟨tx,v,x,todo,q1,q2,qx,q3⟩
 ·subst q1
  obtain ⟨e,w',fr,h1,h2,h3,h4⟩:=q1' w0 s0 s1 arr1 cs hn p1 (hxt.trans p2) rfl q2 p3
  exact ⟨e,w',fr,h1,Comes.of_steps (st.trans q3) h2,h3,h4⟩
 ·exact q1.elim
 ·exact q1.elim
theorem cut_end {n:Nat} {s0:St} (hn:s0.h.next=n) (s2:St) (v:PV) (x:Value) (R:PV→PH→Prop) (q1:PW w0 s2) (q2:Ext s0 s2) (q3:RV s2 v x) (q4:PCut n v s2.h R):∃ s3 v',s3.w=s2.w∧PW w0 s3∧Ext s0 s3∧RV s3 v' x∧R v' s3.h:=by
 obtain ⟨h',v',r1,r2⟩:=q4
 obtain ⟨s3,g1,g2,g3,g4,g5⟩:=r1 w0 s0 s2 x hn q1 q2 rfl q3
 exact ⟨s3,v',g1,g2,g3,g5,by rw [g4];exact r2⟩
theorem PTail.defer (hA:A.Ok P) (hE:E.Ok P) {n:Nat} {id:Nat} {mk df:Oper} {y:Code} {t:T PV} {h:PH} {c:Call} {f:Operand} {fv:PV} {gd:FuncId} {caps:List PV} (hf:A.funcs.get g=some fn)
  (hmd:dstIn fn.ntmps mk.dst=true) (hmg:mk.guard=none) (hdg:df.guard=none) (hdd:df.dst=none) (hop:df.op=.defer c) (hcal:c.callee=.value f) (hargs:c.args=#[])
  (hpop:pop A E P M t.get h mk (fun v h'=>h'=h∧v=fv) (fun _ _=>False)) (hfv:pev (tput t mk.dst fv).get f=some (.fn (.func gd) [] caps))
  (hy : PWP P g fn.ntmps none y (fun e t ds h => match e with
   |.normal=>Undo ds h∧PDefer A P gd caps (.lit .nilifc) (unds ds h) (fun h2=>PRes A fn n R t h2)
   |.jump .ret=>Undo ds h∧PDefer A P gd caps (.lit .nilifc) (unds ds h) (fun h2=>PRes A fn n R t h2)
   |_=>False) (fun t ds v h=>Undo ds h∧PDefer A P gd caps v (unds ds h) (fun h2=>PRes A fn n R t h2)) (tput t mk.dst fv) [] h) :
  PTail A P g fn n R X (.seq (.region id #[mk,df] false) y) t h:=by
 intro w0 s0 s arr cs hn hw hxt hh ht hsz
 subst hh
 have hF:=hA.funcs g fn hf
 let b:Frame:=(fr0 g)
 let ops:Array Oper:=#[mk,df]
 have hbm:b.mode=.run:=rfl
 have st1:Steps P (lone (on b arr [] [.code (.seq (.region id ops false) y)]) cs s.w) (lone (on b arr [] [.inRegion ops [0,1],.code y]) cs s.w) :=
  (step_on (k':=[.code (.region id ops false),.code y]) hbm (by simp [stepG.exec,on])).trans (step_on (k':=[.inRegion ops [0,1],.code y]) hbm (by simp [stepG.exec,on,ops,List.range_succ]))
 have ho0:ops[0]?=some mk:=rfl
 have ho1:ops[1]?=some df:=rfl
 rcases op_go (b:=b) (k:=[.code y]) (cs:=cs) (dl:=[]) (ops:=ops) (i:=0) (rest:=[1]) hA hE hw ht hpop ho0 (by simp [Region.wanted,hmg]) hbm with ⟨x,v,s1,h1,h2,h3,⟨h4,h4'⟩,h5⟩ | ⟨x,v,s',todo,h1,h2,h3,h4,h5⟩
 case inr=>exact h4.elim
 subst h4'
 have ht1:TV s1 (tput t mk.dst v).get (putA arr mk.dst x):=(ht.ext h2).put (by rw [hsz];exact hmd) h3
 have hfx:=ev_on (b:=b) (dl:=[]) (todo:=[.inRegion ops [1],.code y]) ht1 f _ hfv
 obtain ⟨xf,xc,e1,e2,e3⟩:=RV_fn.1 hfx
 have hxf:xf=#[]:=by
  apply Array.ext'
  exact RVs_nil.1 e2
 subst hxf
 let d:Deferred:={ target:=.fn (.func gd) xc,args:=#[] }
 let b':Frame:={ b with defers:=[d] }
 have st2:Steps P (lone (on b (putA arr mk.dst x) [] [.inRegion ops [1],.code y]) cs s1.w) (lone (on b' (putA arr mk.dst x) [] [.code y]) cs s1.w):=by
  refine Steps.trans (.one (step_lone_go ?_)) (step_on (b:=b') (todo:=[.inRegion ops [],.code y]) (k':=[.code y]) rfl (by simp [stepG.exec,on]))
  rw [stepG_run (fr:=on b (putA arr mk.dst x) [] [.inRegion ops [1],.code y]) hbm,exec_op (fr:=on b (putA arr mk.dst x) [] [.inRegion ops [1],.code y]) rfl ho1 (by simp [Region.wanted,hdg]) (.inl rfl)]
  have hr:(execOp (on b (putA arr mk.dst x) [] [.inRegion ops [1],.code y]).eval df).run P s1.w=.ok (.defer d) s1.w:=by
   simp [execOp,hop,resolve,hcal,hargs,e1,Deferred.ofValue,d]
  rw [apply_defer hr]
  have hfin:({ on b (putA arr mk.dst x) [] [.inRegion ops [1],.code y] with defers:=d::(on b (putA arr mk.dst x) [] [.inRegion ops [1],.code y]).defers }:Frame).finish undef=on b' (putA arr mk.dst x) [] [.inRegion ops [],.code y]:=by
   have:=on_finish (b:=b') (arr:=putA arr mk.dst x) (dl:=[]) (ops:=ops) (i:=1) (rest:=[]) (k:=[.code y]) ho1 undef
   rw [hdd] at this
   simpa [on,b',b,fr0,putA] using this
  rw [hfin]
 obtain ⟨s2,arr2,ds2,p1,p2,p3,p4,p5⟩:=hy w0 s1 (putA arr mk.dst x) b' [] cs h1 h4 ht1 (by rw [putA_size];exact hsz) (fun i hi=>by cases hi) rfl rfl (fun i hi=>by cases hi) rfl
 have hx2:Ext s0 s2:=hxt.trans (h2.trans p2)
 have hcap:∀ s3,Ext s1 s3→RVs s3 caps xc.toList:=fun s3 h=>(R2s.ext h caps).1 _ e3
 have fin:∀ (todo:List Item) (md m':FrameMode) (rec:PV) (rv:Value) (t2:T PV),RecOf md rv m'→RV s2 rec rv→TV s2 t2.get arr2→(Undo ds2 s2.h∧PDefer A P gd caps rec (unds ds2 s2.h) (fun h2=>PRes A fn n R t2 h2)) →
   Steps P (lone (on b arr [] [.code (.seq (.region id ops false) y)]) cs s.w) (lone { on b' arr2 (dls s2 ds2) todo with mode:=md } cs s2.w) →
   ∃ e w' fr,Ends w0 s0 R X e w'∧Comes P (lone (on b arr [] [.code (.seq (.region id ops false) y)]) cs s.w) (lone fr cs w') e∧fr.fn=g∧fr.leaving P w' e:=by
  intro todo md m' rec rv t2 hrec hrv ht2 ⟨hu,hd⟩ hst
  obtain ⟨s3,f1,f2,f3,f4⟩:=unds_go (P:=P) b' todo cs md hrec.out arr2 ds2 s2 p1 hu
  rw [← f3] at hd
  let fr1:Frame:={ on b' arr2 [] todo with mode:=md }
  let c0:Frame:={ fr1 with defers:=[] }
  have hd2:=hd
  obtain ⟨fd,_,_,_,_,k1,k2,_⟩:=hd2
  have hinv:(invoke d.target d.args).run P s3.w=.ok (.enter gd xc) s3.w:=by
   have hne : fd.name ≠ "runtime.NumGoroutine" := by simpa using hA.names gd fd k1
   simp [invoke,d,callFunc,hA.funcs gd fd k1,k2,hne]
  have st3:=step_defer (P:=P) (fr:=fr1) (cs:=cs) (w:=s3.w) (d:=d) (ds:=[]) (fv:=.func gd) (cap:=xc) hrec.out rfl rfl hinv
  obtain ⟨s4,g1,g2,g3,g4⟩:=deferred_go (cs:=cs) hA hd f1 (hcap s3 (p2.trans f2)) (c:=c0) hrec ((R2.ext f2 rec).1 _ hrv)
  obtain ⟨v,v1,v2⟩:=PDo_iff.1 g3
  split at v1
  case h_2=>cases v1
  next vs hvs =>
  cases v1
  obtain ⟨x5,x6,x7⟩:=presults_run hA g1 ((ht2.ext f2).ext g2) hvs
  obtain ⟨s5,v',y1,y2,y3,y4,y5⟩:=cut_end hn s4 _ x5 R g1 (hx2.trans (f2.trans g2)) x7 v2
  refine ⟨.returned x5,s4.w,{ c0 with mode:=.returning },⟨s5,y1,y2,y3,v',y4,y5⟩,hst.trans (f4.trans (.head st3 g4)),rfl,rfl,rfl,rfl,fn,hF,x6⟩
 have pre:=st1.trans (Steps.trans h5 st2)
 have ret:∀ (t1:T PV) (todo:List Item),(todo=[]∨∃ k,todo=.code .ret::k)→TV s2 t1.get arr2→(Undo ds2 s2.h∧PDefer A P gd caps (.lit .nilifc) (unds ds2 s2.h) (fun h2=>PRes A fn n R t1 h2)) →
   Steps P (lone (on b' (putA arr mk.dst x) [] [.code y]) cs s1.w) (lone (on b' arr2 (dls s2 ds2) todo) cs s2.w) →
   ∃ e w' fr,Ends w0 s0 R X e w'∧Comes P (lone (on b arr [] [.code (.seq (.region id ops false) y)]) cs s.w) (lone fr cs w') e∧fr.fn=g∧fr.leaving P w' e:=by
  intro t1 todo htodo ht1' hd hst
  have h0:step P (lone (on b' arr2 (dls s2 ds2) todo) cs s2.w)=.next (lone { on b' arr2 (dls s2 ds2) todo with mode:=.returning } cs s2.w):=by
   rcases htodo with rfl | ⟨k,rfl⟩
   ·exact exec_leave_none (k:=[]) (fr:=on b' arr2 (dls s2 ds2) []) rfl rfl (.inl rfl)
   ·exact exec_leave_none (fr:=on b' arr2 (dls s2 ds2) (.code .ret::k)) rfl rfl (.inr rfl)
  exact fin todo .returning .returning (.lit .nilifc) .nilIface t1 .ret (RV_lit.2 ⟨rfl,by simp [VR]⟩) ht1' hd (pre.trans (hst.trans (.one h0)))
 rcases p5 with ⟨t1,q1,q2,q3⟩ | ⟨t1,j,pr,q1,q2,q2',q3⟩ | ⟨tx,v,x,todo,q1,q2,qx,q3⟩
 ·exact ret t1 [] (.inl rfl) q2 q1 q3
 ·cases j<;>simp only at q1
  exact ret t1 _ (.inr ⟨_,rfl⟩) q2 q1 q3
 ·exact fin todo _ _ v x tx (.pan x) q2 qx q1 (pre.trans q3)
end
end Go.Pv
