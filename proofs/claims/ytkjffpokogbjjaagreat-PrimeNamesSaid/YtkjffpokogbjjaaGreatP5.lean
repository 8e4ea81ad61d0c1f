/- Parts of the proof: Am25, Am26, Am27, Am28, Am29, Am30 -/
import Derived.Test.YtkjffpokogbjjaaGreatP4
import Derived.Orders
import Derived.RowKit3
set_option linter.unusedVariables false
set_option linter.unusedSimpArgs false
set_option linter.unusedSectionVars false
namespace Go.Am
open Go.RowKit
theorem dput_ok {sz:Nat} {t t':T AV} {d:Option Tmp} {v:AV} (h:dput sz t d v=some t') :
  (∀ x,d≠some x→t'.get x=t.get x)∧∀ x,d=some x→x < sz∧t'.get x=some v:=by
 unfold dput at h
 split at h
 ·next d =>
  split at h
  case h_2=>cases h
  next hlt =>
  cases h
  refine ⟨fun x hx=>by rw [T.get_set,if_neg (fun e=>hx (by rw [e]))],fun x hx=>?_⟩
  cases hx
  exact ⟨(by simpa [Nat.blt,Nat.ble_eq] using hlt:d+1≤sz),by rw [T.get_set,if_pos rfl]⟩
 ·cases h
  exact ⟨fun _ _=>rfl,fun x hx=>by cases hx⟩
section
variable {A:AP} {E:Eqs} {R:Runner} {fr:AFr} {all:List Oper} {an:T Nat}
structure DS (A:AP) (E:Eqs) (R:Runner) (fr:AFr) (all:List Oper) (an:T Nat) (i:Nat) (o:Oper) (S S':DSt) (v:AV):Prop where
 put:dput fr.sz S.t o.dst v=some S'.t
 is :
  (aguard all (restr S.t (looks all o)) o.guard=some false∧v=.tup []∧kin o.op≠.loud∧S'.vs=S.vs∧S'.H=S.H∧S'.wait=S.wait∧S'.next=S.next∧S'.Hs=S.Hs∧S'.lev=S.lev) ∨
  (aguard all (restr S.t (looks all o)) o.guard=some false∧v=.tup []∧kin o.op=.loud∧S'.vs=S.vs∧S'.H=S.H∧S'.wait=S.wait∧S'.next=S.next∧S'.Hs=S.Hs.set (S.lev+1) S.H∧S'.lev=S.lev+1) ∨
  (aguard all (restr S.t (looks all o)) o.guard = some true ∧ kin o.op = .quiet ∧ (∃ H1, aop A E S.H { fr with tmps := restr S.t (looks all o) }.ev o = some (.val v H1)) ∧
   S'.vs=S.vs.set i v∧S'.H=S.H∧S'.wait=S.wait∧S'.next=S.next∧S'.Hs=S.Hs∧S'.lev=S.lev) ∨
  (aguard all (restr S.t (looks all o)) o.guard = some true ∧ kin o.op = .new ∧ ∃ b, anew A { fr with tmps := restr S.t (looks all o) }.ev S.next o.op = some (v, b) ∧
   S'.vs=S.vs∧S'.H=S.H∧S'.wait=(i,S.next,b)::S.wait∧S'.next=S.next+1∧S'.Hs=S.Hs∧S'.lev=S.lev) ∨
  (aguard all (restr S.t (looks all o)) o.guard = some true ∧ kin o.op = .loud ∧
   R { fr:={ fr with tmps:=restr S.t (looks all o),todo:=[.one all o],defers:=[],mode:=.run },cs:=[],H:=layAll (parted (anc an i) S.wait).1 S.H }=some (v,S'.H) ∧
   S'.vs=S.vs∧S'.wait=(parted (anc an i) S.wait).2∧S'.next=S.next∧S'.Hs=S.Hs.set (S.lev+1) S'.H∧S'.lev=S.lev+1)
theorem dstep_ok {i:Nat} {o:Oper} {S S':DSt} (e:dstep A E R fr all an i o S=some S'):∃ v,DS A E R fr all an i o S S' v:=by
 unfold dstep at e
 split at e
 ·cases e
 ·next hg =>
  split at e
  case h_2=>cases e
  next t ht =>
  split at e
  ·next hk=>cases e;exact ⟨_,ht,.inr (.inl ⟨hg,rfl,hk,rfl,rfl,rfl,rfl,rfl,rfl⟩)⟩
  ·next hk=>cases e;exact ⟨_,ht,.inl ⟨hg,rfl,fun h=>hk h,rfl,rfl,rfl,rfl,rfl,rfl⟩⟩
 ·next hg =>
  split at e
  ·next hk =>
   split at e
   case h_2=>cases e
   next v H1 ho =>
   split at e
   case h_2=>cases e
   next t ht =>
   cases e
   exact ⟨_,ht,.inr (.inr (.inl ⟨hg,hk,⟨H1,ho⟩,rfl,rfl,rfl,rfl,rfl,rfl⟩))⟩
  ·next hk =>
   split at e
   case h_2=>cases e
   next v b ho =>
   split at e
   case h_2=>cases e
   next t ht =>
   cases e
   exact ⟨_,ht,.inr (.inr (.inr (.inl ⟨hg,hk,b,ho,rfl,rfl,rfl,rfl,rfl,rfl⟩)))⟩
  ·next hk =>
   split at e
   next now wait hp =>
   split at e
   case h_2=>cases e
   next v H' ho =>
   split at e
   case h_2=>cases e
   next t ht =>
   cases e
   have hp':parted (anc an i) S.wait=(now,wait):=hp
   refine ⟨_,ht,.inr (.inr (.inr (.inr ⟨hg,hk,?_,rfl,by rw [hp'],rfl,rfl,rfl⟩)))⟩
   rw [hp']
   exact ho
theorem dcanon_ok:∀ (os:List Oper) (i:Nat) (S S':DSt),dcanon A E R fr all an os i S=some S' →
  ∃ st:Nat→DSt,st i=S∧st (i+os.length)=S'∧∀ j o,os[j]?=some o→∃ v,DS A E R fr all an (i+j) o (st (i+j)) (st (i+j+1)) v
 |[],i,S,S',e=>by
  cases e
  exact ⟨fun _=>S,rfl,rfl,fun j o h=>by simp at h⟩
 |o :: os, i, S, S', e => by
  simp only [dcanon] at e
  split at e
  case h_2=>cases e
  next S1 h1 =>
  obtain ⟨st,s1,s2,s3⟩:=dcanon_ok os (i+1) S1 S' e
  refine ⟨fun k=>if k=i then S else st k,by simp,?_,fun j o' ho=>?_⟩
  ·have hne:¬ i+(o::os).length=i:=by simp
   simp only [hne,if_false]
   rw [← s2]
   congr 1
   simp only [List.length_cons]
   omega
  ·cases j with
   |zero =>
    simp at ho
    subst ho
    simp only [Nat.add_zero,if_true,if_neg (show ¬ i+1=i by omega),s1]
    exact dstep_ok h1
   |succ j =>
    have:=s3 j o' (by simpa using ho)
    simp only [if_neg (show ¬ i+(j+1)=i by omega),if_neg (show ¬ i+(j+1)+1=i by omega)]
    rw [show i+(j+1)=i+1+j from by omega]
    exact this
structure Tr (A:AP) (E:Eqs) (R:Runner) (fr:AFr) (all:List Oper) (an:T Nat) (st:Nat→DSt):Prop where
 stat:RStat all an
 step:∀ (i:Nat) (o:Oper),all[i]?=some o→∃ v,DS A E R fr all an i o (st i) (st (i+1)) v
 t0:(st 0).t=fr.tmps
 lev0:(st 0).lev=0
 Hs0:(st 0).Hs.get 0=some (st 0).H
 wait0:(st 0).wait=[]
variable {st:Nat→DSt}
theorem DS.lev {i:Nat} {o:Oper} {S S':DSt} {v:AV} (h:DS A E R fr all an i o S S' v):(kin o.op=.loud∧S'.lev=S.lev+1)∨(kin o.op≠.loud∧S'.lev=S.lev):=by
 rcases h.is with h | h | h | h | h
 ·exact .inr ⟨h.2.2.1,h.2.2.2.2.2.2.2.2⟩
 ·exact .inl ⟨h.2.2.1,h.2.2.2.2.2.2.2.2⟩
 ·exact .inr ⟨by rw [h.2.1];simp,h.2.2.2.2.2.2.2.2⟩
 ·obtain ⟨_,h1,b,h2⟩:=h
  exact .inr ⟨by rw [h1];simp,h2.2.2.2.2.2.2⟩
 ·exact .inl ⟨h.2.1,h.2.2.2.2.2.2.2⟩
theorem up (R:DSt→DSt→Prop) (hr:∀ S,R S S) (ht:∀ S S' S'',R S S'→R S' S''→R S S'') {n:Nat} (h:∀ i,i < n→R (st i) (st (i+1))) :
  ∀ i j,i≤j→j≤n→R (st i) (st j):=by
 intro i j
 induction j with
 |zero=>intro h1 _;rw [Nat.le_zero.1 h1];exact hr _
 |succ j ih =>
  intro h1 h2
  rcases Nat.lt_or_ge i (j+1) with h3 | h3
  ·exact ht _ _ _ (ih (by omega) (by omega)) (h j (by omega))
  ·rw [show i=j+1 from by omega]
   exact hr _
theorem Tr.op (h:Tr A E R fr all an st) {i:Nat} (hi:i < all.length):∃ o,all[i]?=some o∧∃ v,DS A E R fr all an i o (st i) (st (i+1)) v :=
 ⟨all[i],List.getElem?_eq_getElem hi,h.step i _ (List.getElem?_eq_getElem hi)⟩
theorem lt_of_get {i:Nat} {o:Oper} (h:all[i]?=some o):i < all.length:=(List.getElem?_eq_some_iff.1 h).1
theorem Tr.lev_le (h:Tr A E R fr all an st):∀ i j,i≤j→j≤all.length→(st i).lev≤(st j).lev :=
 up (fun S S'=>S.lev≤S'.lev) (fun _=>Nat.le_refl _) (fun _ _ _=>Nat.le_trans) fun i hi=>by
  obtain ⟨o,_,v,hd⟩:=h.op hi
  rcases hd.lev with h | h<;>omega
theorem Tr.lev_lt (h:Tr A E R fr all an st) {i j:Nat} {o:Oper} (ho:all[i]?=some o) (hl:kin o.op=.loud) (hij:i < j) (hj:j≤all.length):(st i).lev < (st j).lev:=by
 obtain ⟨v,hd⟩:=h.step i o ho
 have h1:=h.lev_le (i+1) j (by omega) hj
 rcases hd.lev with h2 | h2
 ·omega
 ·exact absurd hl h2.1
theorem Tr.lev_inj (h:Tr A E R fr all an st) {i j:Nat} {o o':Oper} (ho:all[i]?=some o) (hl:kin o.op=.loud) (ho':all[j]?=some o') (hl':kin o'.op=.loud)
  (he:(st i).lev=(st j).lev):i=j:=by
 rcases Nat.lt_trichotomy i j with h1 | h1 | h1
 ·have:=h.lev_lt ho hl h1 (Nat.le_of_lt (lt_of_get ho'))
  omega
 ·exact h1
 ·have:=h.lev_lt ho' hl' h1 (Nat.le_of_lt (lt_of_get ho))
  omega
theorem Tr.lev_at (h:Tr A E R fr all an st) {c:Nat}:∀ j,j≤all.length→c < (st j).lev→∃ i o,i < j∧all[i]?=some o∧kin o.op=.loud∧(st i).lev=c
 |0,_,hc=>by rw [h.lev0] at hc;omega
 |j+1,hj,hc=>by
  obtain ⟨o,ho,v,hd⟩:=h.op (i:=j) (by omega)
  by_cases h1:c < (st j).lev
  ·obtain ⟨i,o',h2,h3⟩:=h.lev_at j (by omega) h1
   exact ⟨i,o',by omega,h3⟩
  ·rcases hd.lev with h2 | h2
   ·exact ⟨j,o,by omega,ho,h2.1,by omega⟩
   ·omega
theorem Tr.t_eq (h:Tr A E R fr all an st) {x:Nat} {i:Nat} (hi:i≤all.length) (hx:∀ (j:Nat) (o:Oper),all[j]?=some o→o.dst=some x→j < i) :
  ∀ j,i≤j→j≤all.length→(st j).t.get x=(st i).t.get x:=by
 intro j
 induction j with
 |zero=>intro h1 _;rw [Nat.le_zero.1 h1]
 |succ j ih =>
  intro h1 h2
  rcases Nat.lt_or_ge i (j+1) with h3 | h3
  ·obtain ⟨o,ho,v,hd⟩:=h.op (i:=j) (by omega)
   rw [← ih (by omega) (by omega)]
   exact (dput_ok hd.put).1 x fun e=>by have:=hx j o ho e;omega
  ·rw [show i=j+1 from by omega]
theorem Tr.t_old (h:Tr A E R fr all an st) {x:Nat}:∀ i,i≤all.length→(∀ (j:Nat) (o:Oper),all[j]?=some o→o.dst=some x→i≤j)→(st i).t.get x=(st 0).t.get x
 |0,_,_=>rfl
 |i+1,hi,hx=>by
  obtain ⟨o,ho,v,hd⟩:=h.op (i:=i) (by omega)
  rw [← h.t_old i (by omega) fun j o' ho' hd'=>by have:=hx j o' ho' hd';omega]
  exact (dput_ok hd.put).1 x fun e=>by have:=hx i o ho e;omega
theorem Tr.looks_eq (h:Tr A E R fr all an st) {i:Nat} {o:Oper} (ho:all[i]?=some o) (hrd:readOp o.op=true):restr (st i).t (looks all o)=restr (st all.length).t (looks all o) :=
 restr_congr _ fun x hx=>(h.t_eq (Nat.le_of_lt (lt_of_get ho)) (fun j o' ho' hd=>h.stat.lt i (lt_of_get ho) j ((h.stat.look i j o o' x ho ho' hd hx).resolve_right fun hc=>by rw [hrd] at hc;cases hc.2)) _ (Nat.le_of_lt (lt_of_get ho)) (Nat.le_refl _)).symm
theorem Tr.dst_eq (h:Tr A E R fr all an st) {i:Nat} {o:Oper} {v:AV} (ho:all[i]?=some o) (hd:DS A E R fr all an i o (st i) (st (i+1)) v) {x:Nat} (hx:o.dst=some x) :
  x < fr.sz∧(st all.length).t.get x=some v:=by
 obtain ⟨h1,h2⟩:=(dput_ok hd.put).2 x hx
 refine ⟨h1,?_⟩
 rw [h.t_eq (i:=i+1) (lt_of_get ho) (fun j o' ho' hd'=>?_) _ (lt_of_get ho) (Nat.le_refl _)]
 ·exact h2
 ·have:=h.stat.dst i j o o' x ho ho' hx hd'
  omega
theorem Tr.free_eq (h:Tr A E R fr all an st) {x:Nat} (hx:∀ (j:Nat) (o:Oper),all[j]?=some o→o.dst≠some x):(st all.length).t.get x=fr.tmps.get x:=by
 rw [h.t_eq (i:=0) (Nat.zero_le _) (fun j o ho hd=>absurd hd (hx j o ho)) _ (Nat.zero_le _) (Nat.le_refl _),h.t0]
theorem Tr.Hs_top (h:Tr A E R fr all an st):∀ i,i≤all.length→(st i).Hs.get (st i).lev=some (st i).H
 |0,_=>by rw [h.lev0];exact h.Hs0
 |i+1,hi=>by
  obtain ⟨o,ho,v,hd⟩:=h.op (i:=i) (by omega)
  have ih:=h.Hs_top i (by omega)
  rcases hd.is with h | h | h | ⟨_,_,b,h⟩ | h
  ·obtain ⟨_,_,_,_,h1,_,_,h2,h3⟩:=h;rw [h1,h2,h3];exact ih
  ·obtain ⟨_,_,_,_,h1,_,_,h2,h3⟩:=h;rw [h1,h2,h3,T.get_set,if_pos rfl]
  ·obtain ⟨_,_,_,_,h1,_,_,h2,h3⟩:=h;rw [h1,h2,h3];exact ih
  ·obtain ⟨_,_,h1,_,_,h2,h3⟩:=h;rw [h1,h2,h3];exact ih
  ·obtain ⟨_,_,_,_,_,_,h2,h3⟩:=h;rw [h2,h3,T.get_set,if_pos rfl]
theorem Tr.Hs_eq (h:Tr A E R fr all an st) {i:Nat} {k:Nat} (hk:k≤(st i).lev):∀ j,i≤j→j≤all.length→(st j).Hs.get k=(st i).Hs.get k:=by
 intro j
 induction j with
 |zero=>intro h1 _;rw [Nat.le_zero.1 h1]
 |succ j ih =>
  intro h1 h2
  rcases Nat.lt_or_ge i (j+1) with h3 | h3
  ·obtain ⟨o,ho,v,hd⟩:=h.op (i:=j) (by omega)
   have hle:=h.lev_le i j (by omega) (by omega)
   rw [← ih (by omega) (by omega)]
   rcases hd.is with h | h | h | ⟨_,_,b,h⟩ | h
   ·obtain ⟨_,_,_,_,h1,_,_,h2,h3⟩:=h;rw [h2]
   ·obtain ⟨_,_,_,_,h1,_,_,h2,h3⟩:=h;rw [h2,T.get_set,if_neg (by omega)]
   ·obtain ⟨_,_,_,_,h1,_,_,h2,h3⟩:=h;rw [h2]
   ·obtain ⟨_,_,h1,_,_,h2,h3⟩:=h;rw [h2]
   ·obtain ⟨_,_,_,_,_,_,h2,h3⟩:=h;rw [h2,T.get_set,if_neg (by omega)]
  ·rw [show i=j+1 from by omega]
theorem Tr.heap (h:Tr A E R fr all an st) {i:Nat} (hi:i≤all.length):(st all.length).Hs.get (st i).lev=some (st i).H:=by
 rw [h.Hs_eq (i:=i) (Nat.le_refl _) _ hi (Nat.le_refl _)]
 exact h.Hs_top i hi
theorem Tr.vs_eq (h:Tr A E R fr all an st) {i:Nat}:∀ j,i≤j→j≤all.length→∀ k,k < i→(st j).vs.get k=(st i).vs.get k:=by
 intro j
 induction j with
 |zero=>intro h1 _ k hk;rw [Nat.le_zero.1 h1]
 |succ j ih =>
  intro h1 h2 k hk
  rcases Nat.lt_or_ge i (j+1) with h3 | h3
  ·obtain ⟨o,ho,v,hd⟩:=h.op (i:=j) (by omega)
   rw [← ih (by omega) (by omega) k hk]
   rcases hd.is with h | h | h | ⟨_,_,b,h⟩ | h
   ·rw [h.2.2.2.1]
   ·rw [h.2.2.2.1]
   ·rw [h.2.2.2.1,T.get_set,if_neg (by omega)]
   ·rw [h.2.1]
   ·rw [h.2.2.2.1]
  ·rw [show i=j+1 from by omega]
theorem DS.next {i:Nat} {o:Oper} {S S':DSt} {v:AV} (h:DS A E R fr all an i o S S' v):(kin o.op=.new∧S'.next=S.next+1)∨S'.next=S.next:=by
 rcases h.is with h | h | h | ⟨_,h1,b,h⟩ | h
 ·exact .inr h.2.2.2.2.2.2.1
 ·exact .inr h.2.2.2.2.2.2.1
 ·exact .inr h.2.2.2.2.2.2.1
 ·exact .inl ⟨h1,h.2.2.2.2.1⟩
 ·exact .inr h.2.2.2.2.2.1
theorem Tr.next_le (h:Tr A E R fr all an st):∀ i j,i≤j→j≤all.length→(st i).next≤(st j).next :=
 up (fun S S'=>S.next≤S'.next) (fun _=>Nat.le_refl _) (fun _ _ _=>Nat.le_trans) fun i hi=>by
  obtain ⟨o,_,v,hd⟩:=h.op hi
  rcases hd.next with h | h<;>omega
theorem Tr.next_top (h:Tr A E R fr all an st):∀ (os:List Oper) (i:Nat),all.drop i=os→i≤all.length→(st all.length).next≤(st i).next+countNew os
 |[],i,hos,hi=>by
  have:all.length≤i:=by simpa using hos
  rw [show i=all.length from by omega]
  simp [countNew]
 |o::os,i,hos,hi=>by
  have hlt:i < all.length:=by
   rcases Nat.lt_or_ge i all.length with h1 | h1
   ·exact h1
   ·rw [List.drop_eq_nil_of_le h1] at hos;cases hos
  have hd:=List.drop_eq_getElem_cons hlt
  rw [hos] at hd
  simp only [List.cons.injEq] at hd
  obtain ⟨o',ho',v,hds⟩:=h.op hlt
  rw [List.getElem?_eq_getElem hlt,← hd.1] at ho'
  cases ho'
  have ih:=h.next_top os (i+1) hd.2.symm hlt
  have hc:countNew os≤countNew (o::os):=by
   simp only [countNew]
   split<;>omega
  rcases hds.next with ⟨h1,h2⟩ | h1
  ·have:countNew (o::os)=countNew os+1:=by simp only [countNew,h1]
   omega
  ·omega
end
end Go.Am
namespace Go.Am
open Go.RowKit
mutual
theorem AV.beq_eq:∀ (a b:AV),AV.beq a b=true→a=b
 |.bool a,b,h=>by cases b<;>simp_all [AV.beq]
 |.int j a,b,h=>by cases b<;>simp_all [AV.beq]
 |.str a,b,h=>by cases b<;>simp_all [AV.beq]
 |.ptr a o,b,h=>by cases b<;>simp_all [AV.beq]
 |.nilptr,b,h=>by cases b<;>simp_all [AV.beq]
 |.zptr,b,h=>by cases b<;>simp_all [AV.beq]
 |.sl a o n c,b,h=>by
  cases b<;>try (cases c<;>simp [AV.beq] at h;done)
  next a' o' n' c'=>cases c<;>cases c'<;>simp_all [AV.beq]
 |.nilsl,b,h=>by cases b<;>simp_all [AV.beq]
 |.map a,b,h=>by cases b<;>simp_all [AV.beq]
 |.nilmap,b,h=>by cases b<;>simp_all [AV.beq]
 |.fn f a c,b,h=>by
  cases b<;>simp [AV.beq] at h
  next g d e =>
  obtain ⟨⟨h1,h2⟩,h3⟩:=h
  rw [h1,AV.beqs_eq a d h2,AV.beqs_eq c e h3]
 |.yld a,b,h=>by cases b<;>simp_all [AV.beq]
 |.nilfn,b,h=>by cases b<;>simp_all [AV.beq]
 |.ifc t a,b,h=>by
  cases b<;>simp [AV.beq] at h
  next u d =>
  rw [h.1,AV.beq_eq a d h.2]
 |.nilifc,b,h=>by cases b<;>simp_all [AV.beq]
 |.agg a,b,h=>by
  cases b<;>simp [AV.beq] at h
  next d=>rw [AV.beqs_eq a d h]
 |.tup a,b,h=>by
  cases b<;>simp [AV.beq] at h
  next d=>rw [AV.beqs_eq a d h]
theorem AV.beqs_eq:∀ (a b:List AV),AV.beqs a b=true→a=b
 |[],b,h=>by cases b<;>simp_all [AV.beqs]
 |x::a,b,h=>by
  cases b<;>simp [AV.beqs] at h
  next y b=>rw [AV.beq_eq x y h.1,AV.beqs_eq a b h.2]
end
section
variable {A:AP} {E:Eqs} {ρ:Operand→Option AV}
theorem pure_quiet {H H1:Heap} {x:Option AV} {v:AV} (e:(match x with | some v=>some (AOut.val v H) | none=>none)=some (.val v H1)):H1=H∧x=some v:=by
 cases x with
 |none=>cases e
 |some u=>cases e;exact ⟨rfl,rfl⟩
theorem quiet_heap {H H1:Heap} {o:Oper} {v:AV} (hq:quietOp o.op=true) (e:aop A E H ρ o=some (.val v H1)):H1=H:=by
 unfold aop at e
 simp only [] at e
 cases ho:o.op<;>simp only [ho] at e hq<;>simp only [quietOp,Bool.false_eq_true] at hq <;>
  first
   |exact (pure_quiet e).1
   |((repeat' split at e)<;>first | exact (pure_quiet e).1 | (cases e;rfl) | cases e)
   |skip
 case call c =>
  unfold acall at e
  split at e
  ·cases e
  split at hq<;>simp only [*] at e
  ·unfold abuiltin at e
   (repeat' split at e)<;>first | contradiction | (cases e;rfl) | cases e
  ·unfold abuiltin at e
   (repeat' split at e)<;>first | contradiction | (cases e;rfl) | cases e
  ·unfold abuiltin at e
   (repeat' split at e)<;>first | contradiction | (cases e;rfl) | cases e
  ·cases hq
theorem quiet_same {H H' H1:Heap} {o:Oper} {v:AV} (hq:quietOp o.op=true) (hr:readOp o.op=false) (e:aop A E H ρ o=some (.val v H1)):aop A E H' ρ o=some (.val v H'):=by
 have hH:=quiet_heap hq e
 subst hH
 unfold aop at e ⊢
 simp only [] at e ⊢
 cases ho:o.op<;>simp only [ho] at e hq hr ⊢<;>simp only [quietOp,Bool.false_eq_true] at hq<;>simp only [readOp,Bool.true_eq_false] at hr <;>
  first
   |(rw [(pure_quiet e).2];done)
   |((repeat' split at e)<;>simp_all<;>done)
   |skip
 case call c =>
  unfold acall at e ⊢
  cases hargs:aargs ρ c.args.toList with
  |none=>simp [hargs] at e
  |some args =>
  simp only [hargs] at e ⊢
  split at hq
  ·next hc=>simp [hc] at hr
  ·next hc =>
   simp only [hc] at e ⊢
   unfold abuiltin at e ⊢
   (repeat' split at e)<;>first | contradiction | (simp_all;done) | cases e
  ·next hc =>
   simp only [hc] at e ⊢
   unfold abuiltin at e ⊢
   (repeat' split at e)<;>first | contradiction | (simp_all;done) | cases e
  ·cases hq
theorem sameIn_ok {o:Oper} {v:AV} {Hs:T Heap}:∀ (n k:Nat),sameIn A E ρ o v Hs k n=true→∀ j,k≤j→j < k+n→∃ H H1,Hs.get j=some H∧aop A E H ρ o=some (.val v H1)
 |0,k,_,j,h1,h2=>by omega
 |n+1,k,h,j,h1,h2=>by
  simp only [sameIn] at h
  split at h
  case h_2=>cases h
  next H hH =>
  split at h
  case h_2=>cases h
  next u H1 ho =>
  split at h
  case h_2=>cases h
  next hb =>
  rcases Nat.lt_or_ge k j with h3 | h3
  ·exact sameIn_ok n (k+1) h j (by omega) (by omega)
  ·have:j=k:=by omega
   subst this
   rw [AV.beq_eq u v hb] at ho
   exact ⟨H,H1,hH,ho⟩
theorem readsOk_ok {fr:AFr} {an:T Nat} {all:List Oper} {S:DSt}:∀ (os:List Oper) (i:Nat),readsOk A E fr an all S os i=true→∀ j o v,os[j]?=some o→readOp o.op=true→S.vs.get (i+j)=some v →
  sameIn A E { fr with tmps:=restr S.t (looks all o) }.ev o v S.Hs (lowOf an (i+j) all 0 0) (highOf an (i+j) all 0 0+1 - lowOf an (i+j) all 0 0)=true
 |[],_,_,j,o,v,h=>by simp at h
 |x :: os, i, hk, j, o, v, h => by
  intro hr hv
  simp only [readsOk] at hk
  cases j with
  |zero =>
   simp at h
   subst h
   simp only [Nat.add_zero] at hv ⊢
   split at hk
   ·next u hr' hv' =>
    rw [hv] at hv'
    cases hv'
    split at hk
    ·next hs=>exact hs
    ·cases hk
   ·next hn=>exact absurd hv (hn v hr)
  |succ j =>
   rw [show i+(j+1)=i+1+j from by omega] at hv ⊢
   refine readsOk_ok os (i+1) ?_ j o v (by simpa using h) hr hv
   split at hk
   ·split at hk
    ·exact hk
    ·cases hk
   ·exact hk
end
section
variable {m:Env} {w:World} {A:AP} {P:Program} {E:Eqs} {B0 B1:Prot} {w0 w1:World} {H:Heap}
theorem HR.weaken (h:HR B0 w0 m H w) (h1:∀ q,B1 q→B0 q) (h2:∀ a,B1.ids a→B0.ids a):HR B1 w0 m H w :=
 ⟨⟨h.below.os,h.below.tape,h.below.output,h.below.size,fun k hk=>h.below.block k (h1 k hk),fun k hk=>h.below.there k (h1 k hk),h.below.froz⟩,fun a l e=>⟨(h.fresh a l e).1,fun hc=>(h.fresh a l e).2 (h2 a hc)⟩,h.inb,h.blk,h.sep,h.fam,fun a b l e1 e2 hc=>h.live a b l e1 e2 (h1 _ hc),fun a ha=>h.idsb a (h2 a ha)⟩
theorem HR.rebase (h:HR B0 w0 m H w) (hk:Keep B0 w1 w):HR B0 w1 m H w:=⟨hk,h.fresh,h.inb,h.blk,h.sep,h.fam,h.live,h.idsb⟩
theorem HR.here (h:HR B0 w0 m H w):HR B0 w m H w:=h.rebase (.refl fun _ hk=>h.below.lt hk)
theorem Keep.trans {w':World} (h:Keep B0 w0 w) (h':Keep B0 w w'):Keep B0 w0 w' :=
 ⟨h'.os.trans h.os,h'.tape.trans h.tape,h'.output.trans h.output,Nat.le_trans h.size h'.size,fun k hk=>(h'.block k hk).trans (h.block k hk),h.there,fun a=>(h'.froz a).trans (h.froz a)⟩
theorem Keep.weaken {w':World} (h:Keep B0 w w') (h1:∀ q,B1 q→B0 q):Keep B1 w w' :=
 ⟨h.os,h.tape,h.output,h.size,fun k hk=>h.block k (h1 k hk),fun k hk=>h.there k (h1 k hk),h.froz⟩
theorem HR.lay (h:HR B0 w0 m H w) {r:Nat} {b:ABlk} {l:Loc} (hl:m r=some l) (hB:B0 l.blk) (hb:BR m b l (w.heap[l.blk]?)) (hf:∀ t f n c,b=.cells t f n c→f=r)
  (h1:∀ q,B1 q→B0 q∧q≠l.blk) (h2:∀ a,B1.ids a→B0.ids a):HR B1 w0 m (H.lay r b) w:=by
 have hw:=h.weaken (fun q hq=>(h1 q hq).1) h2
 have hblks:(H.lay r b).blks=H.blks.set r b:=by unfold Heap.lay;split<;>rfl
 have hnext:(H.lay r b).next=H.next:=by unfold Heap.lay;split<;>rfl
 have hne:∀ a b' l',H.blks.get a=some b'→m a=some l'→l'.blk≠l.blk:=fun a b' l' e1 e2 hc=>h.live a b' l' e1 e2 (by rw [hc];exact hB)
 have hnr:H.blks.get r=none:=by
  cases hg:H.blks.get r with
  |none=>rfl
  |some b'=>exact absurd rfl (hne r b' l hg hl)
 refine ⟨hw.below,fun a k e=>by rw [hnext];exact hw.fresh a k e,hw.inb,?_,?_,?_,?_,fun a ha=>by rw [hnext];exact hw.idsb a ha⟩
 ·intro a b' hg
  rw [hblks,T.get_set] at hg
  split at hg
  ·next ha =>
   cases hg
   subst ha
   exact ⟨l,hl,hb⟩
  ·exact h.blk a b' hg
 ·intro a a' b1 b2 l1 l2 e1 e2 e3 e4 e5
  rw [hblks,T.get_set] at e1 e2
  by_cases ha:a=r
  ·by_cases ha':a'=r
   ·exact .inl (by rw [ha,ha'])
   ·rw [if_neg ha'] at e2
    subst ha
    rw [hl] at e3
    cases e3
    exact absurd e5.symm (hne a' b2 l2 e2 e4)
  ·rw [if_neg ha] at e1
   by_cases ha':a'=r
   ·subst ha'
    rw [hl] at e4
    cases e4
    exact absurd e5 (hne a b1 l1 e1 e3)
   ·rw [if_neg ha'] at e2
    exact h.sep a a' b1 b2 l1 l2 e1 e2 e3 e4 e5
 ·intro a t f n c hg
  rw [hblks,T.get_set] at hg
  rw [hnext]
  by_cases ha:a=r
  ·rw [if_pos ha] at hg
   cases hg
   have hfr:=hf _ _ _ _ rfl
   subst hfr
   subst ha
   refine ⟨(h.fresh _ l hl).1,?_⟩
   simp only [Heap.lay,T.get_set,if_true]
   exact ⟨_,rfl,by split<;>simp⟩
  ·rw [if_neg ha] at hg
   obtain ⟨q1,L,q2,q3⟩:=h.fam a t f n c hg
   refine ⟨q1,?_⟩
   unfold Heap.lay
   split
   ·simp only [T.get_set]
    by_cases hfr:f=r
    ·subst hfr
     rw [if_pos rfl,q2]
     exact ⟨_,rfl,by simp [q3]⟩
    ·rw [if_neg hfr]
     exact ⟨L,q2,q3⟩
   ·exact ⟨L,q2,q3⟩
 ·intro a b' k hg hk hc
  rw [hblks,T.get_set] at hg
  by_cases ha:a=r
  ·subst ha
   rw [hl] at hk
   cases hk
   exact (h1 _ hc).2 rfl
  ·rw [if_neg ha] at hg
   exact h.live a b' k hg hk (h1 _ hc).1
theorem layAll_ok:∀ (es:List (Nat×Nat×ABlk)) {H:Heap} {B0:Prot},HR B0 w0 m H w →
  (∀ e∈es,∃ l,m e.2.1=some l∧B0 l.blk∧BR m e.2.2 l (w.heap[l.blk]?)∧∀ t f n c,e.2.2=.cells t f n c→f=e.2.1) →
  es.Pairwise (fun e e'=>∀ l l',m e.2.1=some l→m e'.2.1=some l'→l.blk≠l'.blk) →
  ∀ (B1:Prot),(∀ q,B1 q→B0 q∧∀ e∈es,∀ l,m e.2.1=some l→q≠l.blk)→(∀ a,B1.ids a→B0.ids a)→HR B1 w0 m (layAll es H) w
 |[],H,B0,h,_,_,B1,h1,h2=>h.weaken (fun q hq=>(h1 q hq).1) h2
 |(i, r, b) :: es, H, B0, h, he, hp, B1, h1, h2 => by
  obtain ⟨l,l1,l2,l3,l4⟩:=he _ (List.mem_cons_self ..)
  obtain ⟨p1,p2⟩:=List.pairwise_cons.1 hp
  simp only [layAll]
  refine layAll_ok es (B0:={ blk:=fun q=>B0 q∧q≠l.blk,ids:=B0.ids }) (h.lay l1 l2 l3 l4 (fun q hq=>hq) fun a ha=>ha) (fun e hm=>?_) p2 B1 (fun q hq=>?_) h2
  ·obtain ⟨l',k1,k2,k3⟩:=he e (List.mem_cons_of_mem _ hm)
   exact ⟨l',k1,⟨k2,fun hc=>p1 e hm l l' l1 k1 hc.symm⟩,k3⟩
  ·obtain ⟨q1,q2⟩:=h1 q hq
   exact ⟨⟨q1,q2 _ (List.mem_cons_self ..) l l1⟩,fun e hm=>q2 e (List.mem_cons_of_mem _ hm)⟩
theorem HR.wait (h:HR B0 w m H w) {r:Nat} (hr:B0.ids r) (o:Obj) (l:Loc) (hl:l.blk=w.heap.size) (h1:∀ q,B1 q→B0 q∨q=l.blk) (h2:∀ a,B1.ids a→B0.ids a∧a≠r) :
  m.le (m.ext r l)∧HR B1 (w.alloc o) (m.ext r l) H (w.alloc o):=by
 have hnone:m r=none:=by
  cases hm:m r with
  |none=>rfl
  |some l'=>exact absurd hr (h.fresh r l' hm).2
 have hle:m.le (m.ext r l):=fun a k e=>by
  rw [Env.ext_ne _ _ (fun hc=>by subst hc;rw [hnone] at e;cases e)]
  exact e
 have hold:∀ a k,a≠r→m.ext r l a=some k→m a=some k:=fun a k ha e=>by rwa [Env.ext_ne _ _ ha] at e
 have hnb:∀ a b,H.blks.get a=some b→a≠r:=fun a b hg hc=>by
  subst hc
  obtain ⟨k,k1,_⟩:=h.blk a b hg
  rw [hnone] at k1
  cases k1
 refine ⟨hle,.refl fun q hq=>?_,?_,?_,?_,?_,h.fam,?_,fun a ha=>h.idsb a (h2 a ha).1⟩
 ·rcases h1 q hq with hq | hq
  ·have:=h.below.lt hq
   simp
   omega
  ·simp
   omega
 ·intro a k e
  by_cases ha:a=r
  ·subst ha
   exact ⟨h.idsb _ hr,fun hc=>(h2 _ hc).2 rfl⟩
  ·obtain ⟨q1,q2⟩:=h.fresh a k (hold a k ha e)
   exact ⟨q1,fun hc=>q2 (h2 a hc).1⟩
 ·intro a k e
  by_cases ha:a=r
  ·subst ha
   rw [Env.ext_self] at e
   cases e
   simp
   omega
  ·have:=h.inb a k (hold a k ha e)
   simp
   omega
 ·intro a b hg
  obtain ⟨k,k1,k2⟩:=h.blk a b hg
  refine ⟨k,hle _ _ k1,?_⟩
  rw [Below.heap_alloc _ _ _ (h.inb a k k1)]
  exact k2.mono hle
 ·intro a a' b1 b2 l1 l2 e1 e2 e3 e4 e5
  exact h.sep a a' b1 b2 l1 l2 e1 e2 (hold _ _ (hnb _ _ e1) e3) (hold _ _ (hnb _ _ e2) e4) e5
 ·intro a b k e1 e2 hc
  have e3:=hold _ _ (hnb _ _ e1) e2
  rcases h1 _ hc with hq | hq
  ·exact h.live a b k e1 e3 hq
  ·have:=h.inb a k e3
   omega
theorem BR.ofList {t:TypeId} {r:Nat} {vs:List AV} {xs:Array Value} (h:VRs m vs xs.toList):BR m (.cells t r vs.length (T.ofList vs 0 .nil)) ⟨w.heap.size,0,xs.size⟩ (some (.cells xs t)):=by
 have hlen:=h.length
 refine ⟨xs,rfl,rfl,by simp at hlen;simp;omega,fun i v hi=>?_⟩
 rw [T.get_ofList] at hi
 split at hi
 ·next hlt =>
  obtain ⟨x,x1,x2⟩:=h.get (i:=i) (by simpa using hi)
  exact ⟨by omega,x,by simpa using x1,x2⟩
 ·rw [T.get_nil] at hi
  cases hi
theorem anew_ok (hA:A.Ok P) {ρ:Operand→Option AV} {ρ':Operand→Value} (hρ:∀ x v,ρ x=some v→VR m v (ρ' x)) {o:Oper} {r:Nat} {v:AV} {b:ABlk} (e:anew A ρ r o.op=some (v,b)) (hle:∀ l,m.le (m.ext r l)) :
  ∃ x ob l,(execOp ρ' o).run P w=.ok (.value x) (w.alloc ob)∧l.blk=w.heap.size∧VR (m.ext r l) v x∧BR (m.ext r l) b l (some ob)∧∀ t f n c,b=.cells t f n c→f=r:=by
 have newVar:∀ (t:TypeId) (v:AV) (x:Value),VR m v x→(execOp ρ' o).run P w=.ok (.value (.pointer (some ⟨w.heap.size,0,none⟩))) (w.alloc (.cells x.cells t)) →
   ∃ y ob l,(execOp ρ' o).run P w=.ok (.value y) (w.alloc ob)∧l.blk=w.heap.size∧VR (m.ext r l) (.ptr r 0) y∧BR (m.ext r l) (.cells t r v.cells.length (T.ofList v.cells 0 .nil)) l (some ob) ∧
    ∀ t' f n c,ABlk.cells t r v.cells.length (T.ofList v.cells 0 .nil)=.cells t' f n c→f=r:=by
  intro t v x hv hrun
  refine ⟨_,_,⟨w.heap.size,0,x.cells.size⟩,hrun,rfl,?_,(BR.ofList (w:=w) hv.cells).mono (hle _),fun t' f n c hc=>by cases hc;rfl⟩
  simp only [VR]
  exact ⟨_,Env.ext_self _ _ _,rfl⟩
 unfold anew at e
 split at e
 ·next t ho =>
  split at e
  case h_2=>cases e
  next ti hti =>
  split at e
  case h_2=>cases e
  next z hz =>
  split at e
  case h_2=>cases e
  next u hu =>
  cases e
  exact newVar t u z (ofValue_ok hu) (by simp [execOp,ho,Instr.alloc,zeroValue,run_typeInfo' (hA.info _ _ hti),hz,Go.newVar,newRow])
 ·next t x ho =>
  split at e
  case h_2=>cases e
  next u hu =>
  cases e
  exact newVar t u _ (hρ _ _ hu) (by simp [execOp,ho,Instr.box,Go.newVar,newRow])
 ·next t len parts ho =>
  split at e
  case h_2=>cases e
  next ps hps =>
  split at e
  case h_2=>cases e
  next el cs hcs =>
  cases e
  have hpr:=aparts_ok hρ _ _ hps
  obtain ⟨xs,x1,x2⟩:=abuildSlice_ok (w:=w) hA hcs (ps:=parts.map fun (i,x)=>(i,ρ' x)) (by simpa using hpr)
  refine ⟨.slice (some ⟨w.heap.size,0,none⟩) len len,.cells xs el,⟨w.heap.size,0,xs.size⟩,by simp only [execOp,ho,Sem.run_bind,x2];rfl,rfl,?_,(BR.ofList (w:=w) x1).mono (hle _),fun t' f n c hc=>by cases hc;rfl⟩
  simp only [VR]
  exact ⟨_,_,len,Env.ext_self _ _ _,rfl,Nat.le_refl _,rfl,by simp⟩
 ·next t ho =>
  cases e
  refine ⟨.map (some w.heap.size),.map #[] 0,⟨w.heap.size,0,0⟩,by simp [execOp,ho,Instr.makeMap],rfl,?_,⟨#[],rfl,rfl⟩,fun t' f n c hc=>by cases hc⟩
  simp only [VR]
  exact ⟨_,Env.ext_self _ _ _,rfl⟩
 ·cases e
def ROk (P:Program) (R:Runner):Prop :=
 ∀ {B0:Prot} {w0:World} {Z:Lone} {base:List Frame} (S:ASt) (m:Env) (fr:Frame) (cs:List Frame) (w:World) (v:AV) (H':Heap),SR B0 w0 (some Z) m S fr cs w→R S=some (v,H') →
  ∃ m' w' x,Steps P (lone fr (cs++base) w) (lone (({ Z.f with todo:=.inRegion Z.ops (Z.i::Z.rest)::Z.k }:Frame).finish x) base w')∧m.le m'∧VR m' v x∧HR B0 w0 m' H' w'
end
end Go.Am
namespace Go.Am
open Go.RowKit
def Ran (all:List Oper) (st:Nat→DSt) (i:Nat) (o:Oper):Prop:=aguard all (restr (st i).t (looks all o)) o.guard=some true
def New (A:AP) (a:AFr) (all:List Oper) (st:Nat→DSt) (i r:Nat) (b:ABlk):Prop :=
 ∃ o v,all[i]?=some o∧Ran all st i o∧kin o.op=.new∧r=(st i).next∧anew A { a with tmps:=restr (st i).t (looks all o) }.ev (st i).next o.op=some (v,b)
def Laid (all:List Oper) (an:T Nat) (st:Nat→DSt) (k i:Nat):Prop :=
 ∃ l o,all[l]?=some o∧kin o.op=.loud∧Ran all st l o∧(st l).lev < k∧(anc an l).testBit i=true
theorem parted_ok (s:Nat):∀ (l:List (Nat×Nat×ABlk)),parted s l=(l.filter (fun e=>s.testBit e.1),l.filter (fun e=>!s.testBit e.1))
 |[]=>rfl
 |e::l=>by
  simp only [parted,parted_ok s l,List.filter_cons]
  cases s.testBit e.1<;>rfl
section
variable {A:AP} {E:Eqs} {R:Runner} {a:AFr} {all:List Oper} {an:T Nat} {st:Nat→DSt}
theorem New.uniq {i r r':Nat} {b b':ABlk} (h:New A a all st i r b) (h':New A a all st i r' b'):r=r'∧b=b':=by
 obtain ⟨o,v,h1,_,_,h2,h3⟩:=h
 obtain ⟨o',v',k1,_,_,k2,k3⟩:=h'
 rw [h1] at k1
 cases k1
 rw [h3] at k3
 cases k3
 exact ⟨h2.trans k2.symm,rfl⟩
theorem Tr.new_lt (h:Tr A E R a all an st) {i:Nat} {r:Nat} {b:ABlk} (hN:New A a all st i r b) {j:Nat} (hij:i < j) (hj:j≤all.length):r < (st j).next:=by
 obtain ⟨o,v,h1,h2,h3,h4,h5⟩:=hN
 obtain ⟨u,hd⟩:=h.step i o h1
 have h6:=h.next_le (i+1) j (by omega) hj
 rcases hd.is with k | k | k | ⟨_,_,_,k⟩ | k
 ·rw [h2] at k;cases k.1
 ·rw [h2] at k;cases k.1
 ·rw [h3] at k;cases k.2.1
 ·have:=k.2.2.2.2.1
  omega
 ·rw [h3] at k;cases k.2.1
theorem Tr.new_inj (h:Tr A E R a all an st) {i j:Nat} {r:Nat} {b b':ABlk} (hN:New A a all st i r b) (hN':New A a all st j r b'):i=j:=by
 have hj:j≤all.length:=by
  obtain ⟨o,_,h1,_⟩:=hN'
  exact Nat.le_of_lt (lt_of_get h1)
 have hi:i≤all.length:=by
  obtain ⟨o,_,h1,_⟩:=hN
  exact Nat.le_of_lt (lt_of_get h1)
 rcases Nat.lt_trichotomy i j with h1 | h1 | h1
 ·have:=h.new_lt hN h1 hj
  obtain ⟨_,_,_,_,_,h4,_⟩:=hN'
  omega
 ·exact h1
 ·have:=h.new_lt hN' h1 hi
  obtain ⟨_,_,_,_,_,h4,_⟩:=hN
  omega
theorem Laid.up {k i:Nat} (h:Laid all an st k i):Laid all an st (k+1) i :=
 let ⟨l,o,h1,h2,h3,h4,h5⟩:=h
 ⟨l,o,h1,h2,h3,Nat.lt_succ_of_lt h4,h5⟩
theorem Tr.laid (h:Tr A E R a all an st) {p:Nat} {o:Oper} (ho:all[p]?=some o) (hl:kin o.op=.loud) {i:Nat} :
  Laid all an st ((st p).lev+1) i↔Laid all an st (st p).lev i∨(Ran all st p o∧(anc an p).testBit i=true):=by
 constructor
 ·rintro ⟨l,o',h1,h2,h3,h4,h5⟩
  by_cases h6:(st l).lev < (st p).lev
  ·exact .inl ⟨l,o',h1,h2,h3,h6,h5⟩
  ·have:=h.lev_inj h1 h2 ho hl (by omega)
   subst this
   rw [ho] at h1
   cases h1
   exact .inr ⟨h3,h5⟩
 ·rintro (h1 | ⟨h1,h2⟩)
  ·exact h1.up
  ·exact ⟨p,o,ho,hl,h1,by omega,h2⟩
theorem Tr.wait (h:Tr A E R a all an st):∀ p,p≤all.length →
  (∀ e,e∈(st p).wait↔New A a all st e.1 e.2.1 e.2.2∧e.1 < p∧¬ Laid all an st (st p).lev e.1)∧(st p).wait.Pairwise (fun e e'=>e.1≠e'.1)
 |0,_=>by
  rw [h.wait0]
  exact ⟨fun e=>⟨fun hc=>(by cases hc),fun hc=>absurd hc.2.1 (Nat.not_lt_zero _)⟩,.nil⟩
 |p + 1, hp => by
  obtain ⟨ih1,ih2⟩:=h.wait p (by omega)
  obtain ⟨o,ho,v,hd⟩:=h.op (i:=p) (by omega)
  have notNew:(kin o.op≠.new∨¬ Ran all st p o)→∀ e:Nat×Nat×ABlk,New A a all st e.1 e.2.1 e.2.2→e.1 < p+1→e.1 < p:=by
   intro hn e hN he
   rcases Nat.lt_or_ge e.1 p with h1 | h1
   ·exact h1
   ·have hep:e.1=p:=by omega
    obtain ⟨o',_,k1,k2,k3,_⟩:=hN
    rw [hep,ho] at k1
    cases k1
    rw [hep] at k2
    rcases hn with hn | hn
    ·exact absurd k3 hn
    ·exact absurd k2 hn
  rcases hd.is with k | k | k | ⟨hR,hk,b,k⟩ | k
  ·obtain ⟨hg,_,hk,_,_,hw,_,_,hlv⟩:=k
   have hnr:¬ Ran all st p o:=fun hc=>by unfold Ran at hc;rw [hg] at hc;cases hc
   rw [hw,hlv]
   exact ⟨fun e=>(ih1 e).trans ⟨fun ⟨x,y,z⟩=>⟨x,by omega,z⟩,fun ⟨x,y,z⟩=>⟨x,notNew (.inr hnr) e x y,z⟩⟩,ih2⟩
  ·obtain ⟨hg,_,hk,_,_,hw,_,_,hlv⟩:=k
   have hnr:¬ Ran all st p o:=fun hc=>by unfold Ran at hc;rw [hg] at hc;cases hc
   rw [hw,hlv]
   refine ⟨fun e=>(ih1 e).trans ⟨fun ⟨x,y,z⟩=>⟨x,by omega,fun hc=>?_⟩,fun ⟨x,y,z⟩=>⟨x,notNew (.inr hnr) e x y,fun hc=>z hc.up⟩⟩,ih2⟩
   rcases (h.laid ho hk).1 hc with h1 | h1
   ·exact z h1
   ·exact hnr h1.1
  ·obtain ⟨hR,hk,_,_,_,hw,_,_,hlv⟩:=k
   rw [hw,hlv]
   exact ⟨fun e=>(ih1 e).trans ⟨fun ⟨x,y,z⟩=>⟨x,by omega,z⟩,fun ⟨x,y,z⟩=>⟨x,notNew (.inl (by rw [hk];simp)) e x y,z⟩⟩,ih2⟩
  ·obtain ⟨ha,_,_,hw,_,_,hlv⟩:=k
   have hN:New A a all st p (st p).next b:=⟨o,v,ho,hR,hk,rfl,ha⟩
   rw [hw,hlv]
   refine ⟨fun e=>?_,List.pairwise_cons.2 ⟨fun e he=>?_,ih2⟩⟩
   ·rw [List.mem_cons,ih1 e]
    constructor
    ·rintro (rfl | ⟨x,y,z⟩)
     ·refine ⟨hN,Nat.lt_succ_self _,?_⟩
      rintro ⟨l,o',h1,h2,_,h4,h5⟩
      have h6:=h.stat.lt l (lt_of_get h1) p h5
      have h7:=h.lev_le p l (by omega) (Nat.le_of_lt (lt_of_get h1))
      omega
     ·exact ⟨x,by omega,z⟩
    ·rintro ⟨x,y,z⟩
     rcases Nat.lt_or_ge e.1 p with h1 | h1
     ·exact .inr ⟨x,h1,z⟩
     ·have hep:e.1=p:=by omega
      obtain ⟨e1,e2,e3⟩:=e
      simp only at hep x
      subst hep
      obtain ⟨q1,q2⟩:=x.uniq hN
      left
      rw [q1,q2]
   ·have:=((ih1 e).1 he).2.1
    simp only
    omega
  ·obtain ⟨hR,hk,_,_,hw,_,_,hlv⟩:=k
   rw [hw,hlv,parted_ok]
   refine ⟨fun e=>?_,ih2.filter _⟩
   simp only [List.mem_filter,ih1 e,Bool.not_eq_true']
   constructor
   ·rintro ⟨⟨x,y,z⟩,u⟩
    refine ⟨x,by omega,fun hc=>?_⟩
    rcases (h.laid ho hk).1 hc with h1 | h1
    ·exact z h1
    ·rw [u] at h1;cases h1.2
   ·rintro ⟨x,y,z⟩
    refine ⟨⟨x,notNew (.inl (by rw [hk];simp)) e x y,fun hc=>z hc.up⟩,?_⟩
    cases hb:(anc an p).testBit e.1 with
    |false=>rfl
    |true=>exact absurd ((h.laid ho hk).2 (.inr ⟨hR,hb⟩)) z
def PB (A:AP) (a:AFr) (all:List Oper) (an:T Nat) (st:Nat→DSt) (B0:Prot) (Dn:Nat→Prop) (k:Nat) (m:Env):Prot where
 blk q:=B0 q∨∃ i r b l,New A a all st i r b∧Dn i∧¬ Laid all an st k i∧m r=some l∧l.blk=q
 ids x:=B0.ids x∨∃ i b,New A a all st i x b∧¬ Dn i
structure Inv (A:AP) (a:AFr) (all:List Oper) (an:T Nat) (st:Nat→DSt) (B0:Prot) (w0:World) (m:Env) (Dn:Nat→Prop) (k:Nat) (arr:Array Value) (w:World):Prop where
 down:∀ i,Dn i→i < all.length∧∀ j,(anc an i).testBit j=true→Dn j
 rank:∀ (i:Nat) (o:Oper),all[i]?=some o→kin o.op=.loud→(Dn i↔(st i).lev < k)
 kle:k≤(st all.length).lev
 size:arr.size=a.sz
 tm:∀ x v,(st all.length).t.get x=some v→(∀ (j:Nat) (o:Oper),all[j]?=some o→o.dst=some x→Dn j)→∃ y,arr[x]?=some y∧VR m v y
 tm0:∀ x v,(st 0).t.get x=some v→(∀ (j:Nat) (o:Oper),all[j]?=some o→o.dst=some x→¬ Dn j)→∃ y,arr[x]?=some y∧VR m v y
 keep:Keep B0 w0 w
 hr:∃ Hk,(st all.length).Hs.get k=some Hk∧HR (PB A a all an st B0 Dn k m) w m Hk w
 pend:∀ i r b,New A a all st i r b→Dn i→¬ Laid all an st k i→∃ l,m r=some l∧¬ B0 l.blk∧BR m b l (w.heap[l.blk]?)∧∀ t f n c,b=.cells t f n c→f=r
 dist:∀ i r b i' r' b' l l',New A a all st i r b→Dn i→¬ Laid all an st k i→New A a all st i' r' b'→Dn i'→¬ Laid all an st k i' →
  m r=some l→m r'=some l'→l.blk=l'.blk→i=i'
def putArr (arr:Array Value) (d:Option Tmp) (x:Value):Array Value :=
 match d with
 |some d=>arr.setIfInBounds d x
 |none=>arr
def atF (f:Frame) (arr:Array Value) (ops:Array Oper) (rest:List Nat) (k:List Item):Frame:={ f with tmps:=arr,todo:=.inRegion ops rest::k }
theorem finish_atF {f:Frame} {arr:Array Value} {ops:Array Oper} {i:Nat} {rest:List Nat} {k:List Item} {o:Oper} (ho:ops[i]?=some o) (x:Value) :
  (atF f arr ops (i::rest) k).finish x=atF f (putArr arr o.dst x) ops rest k:=by
 cases hd:o.dst<;>simp [Frame.finish,atF,ho,putArr,hd]
variable {B0:Prot} {w0:World} {m:Env} {Dn:Nat→Prop} {k:Nat} {arr:Array Value} {w:World}
theorem Inv.lev_eq (h:Tr A E R a all an st) (I:Inv A a all an st B0 w0 m Dn k arr w) {i:Nat} {o:Oper} (ho:all[i]?=some o) (hl:kin o.op=.loud) (hn:¬ Dn i)
  (hanc:∀ j,(anc an i).testBit j=true→Dn j):(st i).lev=k:=by
 have h1:¬ (st i).lev < k:=fun hc=>hn ((I.rank i o ho hl).2 hc)
 rcases Nat.lt_or_ge k (st i).lev with h2 | h2
 ·obtain ⟨l,o',k1,k2,k3,k4⟩:=h.lev_at i (Nat.le_of_lt (lt_of_get ho)) h2
  have h3:=h.stat.chain i l o o' ho k2 hl k3 k1
  have h4:=(I.rank l o' k2 k3).1 (hanc l h3)
  omega
 ·omega
theorem Inv.looked (h:Tr A E R a all an st) (I:Inv A a all an st B0 w0 m Dn k arr w) {i:Nat} {o:Oper} (ho:all[i]?=some o) (hn:¬ Dn i)
  (hanc:∀ j,(anc an i).testBit j=true→Dn j):TR m a.sz (restr (st i).t (looks all o)) arr:=by
 refine ⟨I.size,fun x v hx=>?_⟩
 rw [get_restr] at hx
 split at hx
 case isFalse=>cases hx
 next hm =>
 have hi:=Nat.le_of_lt (lt_of_get ho)
 by_cases hw:∃ (j:Nat) (o':Oper),all[j]?=some o'∧o'.dst=some x∧(anc an i).testBit j=false
 ·obtain ⟨j,o',ho',hd,hj⟩:=hw
  rcases h.stat.look i j o o' x ho ho' hd hm with h1 | h1
  ·rw [hj] at h1
   cases h1
  ·have hlt:=h.stat.lt j (lt_of_get ho') i h1.1
   have uniq:∀ (j':Nat) (o'':Oper),all[j']?=some o''→o''.dst=some x→j'=j:=fun j' o'' k1 k2=>h.stat.dst j' j o'' o' x k1 ho' k2 hd
   rw [h.t_old i hi fun j' o'' k1 k2=>by rw [uniq j' o'' k1 k2];omega] at hx
   exact I.tm0 x v hx fun j' o'' k1 k2 hc=>by
    rw [uniq j' o'' k1 k2] at hc
    exact hn ((I.down j hc).2 i h1.1)
 ·have hb:∀ (j:Nat) (o':Oper),all[j]?=some o'→o'.dst=some x→(anc an i).testBit j=true:=by
   intro j o' k1 k2
   cases hj:(anc an i).testBit j with
   |true=>rfl
   |false=>exact absurd ⟨j,o',k1,k2,hj⟩ hw
  rw [← h.t_eq hi (fun j o' k1 k2=>h.stat.lt i (lt_of_get ho) j (hb j o' k1 k2)) _ hi (Nat.le_refl _)] at hx
  exact I.tm x v hx fun j o' ho' hd=>hanc j (hb j o' ho' hd)
theorem Inv.go (h:Tr A E R a all an st) (I:Inv A a all an st B0 w0 m Dn k arr w) {i:Nat} {o:Oper} (ho:all[i]?=some o) (hn:¬ Dn i)
  (hanc:∀ j,(anc an i).testBit j=true→Dn j) {v:AV} (hd:DS A E R a all an i o (st i) (st (i+1)) v) {m':Env} {x:Value} {w':World} {k':Nat}
  (hle:m.le m') (hx:VR m' v x) (hk:(kin o.op=.loud∧k'=k+1)∨(kin o.op≠.loud∧k'=k)) (hkeep:Keep B0 w0 w')
  (hr:∃ Hk,(st all.length).Hs.get k'=some Hk∧HR (PB A a all an st B0 (fun j=>Dn j∨j=i) k' m') w' m' Hk w')
  (pend:∀ i' r b,New A a all st i' r b→(Dn i'∨i'=i)→¬ Laid all an st k' i'→∃ l,m' r=some l∧¬ B0 l.blk∧BR m' b l (w'.heap[l.blk]?)∧∀ t f n c,b=.cells t f n c→f=r)
  (dist : ∀ i1 r b i' r' b' l l', New A a all st i1 r b → (Dn i1 ∨ i1 = i) → ¬ Laid all an st k' i1 → New A a all st i' r' b' → (Dn i' ∨ i' = i) → ¬ Laid all an st k' i' →
   m' r=some l→m' r'=some l'→l.blk=l'.blk→i1=i') :
  Inv A a all an st B0 w0 m' (fun j=>Dn j∨j=i) k' (putArr arr o.dst x) w':=by
 refine ⟨?_,?_,?_,?_,?_,?_,hkeep,hr,pend,dist⟩
 ·rintro j (hj | rfl)
  ·exact ⟨(I.down j hj).1,fun l hl=>.inl ((I.down j hj).2 l hl)⟩
  ·exact ⟨lt_of_get ho,fun l hl=>.inl (hanc l hl)⟩
 ·intro j oj hoj hlj
  rcases hk with ⟨hk1,hk2⟩ | ⟨hk1,hk2⟩
  ·have hlev:=I.lev_eq h ho hk1 hn hanc
   subst hk2
   constructor
   ·rintro (hj | rfl)
    ·exact Nat.lt_succ_of_lt ((I.rank j oj hoj hlj).1 hj)
    ·omega
   ·intro hj
    by_cases h1:(st j).lev < k
    ·exact .inl ((I.rank j oj hoj hlj).2 h1)
    ·exact .inr (h.lev_inj hoj hlj ho hk1 (by omega))
  ·subst hk2
   constructor
   ·rintro (hj | rfl)
    ·exact (I.rank j oj hoj hlj).1 hj
    ·rw [ho] at hoj
     cases hoj
     exact absurd hlj hk1
   ·exact fun hj=>.inl ((I.rank j oj hoj hlj).2 hj)
 ·rcases hk with ⟨hk1,hk2⟩ | ⟨hk1,hk2⟩
  ·have hlev:=I.lev_eq h ho hk1 hn hanc
   have:=h.lev_lt ho hk1 (lt_of_get ho) (Nat.le_refl _)
   omega
  ·rw [hk2]
   exact I.kle
 ·unfold putArr
  split
  ·simp [I.size]
  ·exact I.size
 ·intro y u hu hw
  by_cases hy:o.dst=some y
  ·obtain ⟨h1,h2⟩:=h.dst_eq ho hd hy
   rw [h2] at hu
   cases hu
   refine ⟨x,?_,hx⟩
   have:y < arr.size:=by rw [I.size];exact h1
   simp [putArr,hy,this]
  ·obtain ⟨z,z1,z2⟩:=I.tm y u hu fun j o' ho' hd'=>by
    rcases hw j o' ho' hd' with h1 | h1
    ·exact h1
    ·subst h1
     rw [ho] at ho'
     cases ho'
     exact absurd hd' hy
   refine ⟨z,?_,VR.mono hle _ _ z2⟩
   unfold putArr
   split
   ·next d hd' =>
    rw [Array.getElem?_setIfInBounds_ne (fun e=>hy (by rw [hd',e]))]
    exact z1
   ·exact z1
 ·intro y u hu hw
  obtain ⟨z,z1,z2⟩:=I.tm0 y u hu fun j o' ho' hd' hc=>hw j o' ho' hd' (.inl hc)
  refine ⟨z,?_,VR.mono hle _ _ z2⟩
  have hy:o.dst≠some y:=fun hc=>hw i o ho hc (.inr rfl)
  unfold putArr
  split
  ·next d hd' =>
   rw [Array.getElem?_setIfInBounds_ne (fun e=>hy (by rw [hd',e]))]
   exact z1
  ·exact z1
end
end Go.Am
namespace Go.Am
open Go.RowKit
section
variable {A:AP} {E:Eqs} {R:Runner} {a:AFr} {all:List Oper} {an:T Nat} {st:Nat→DSt}
variable {B0:Prot} {w0:World} {m:Env} {Dn:Nat→Prop} {k:Nat} {arr:Array Value} {w:World}
theorem low_le (h:Tr A E R a all an st) (I:Inv A a all an st B0 w0 m Dn k arr w) {i:Nat} (hanc:∀ j,(anc an i).testBit j=true→Dn j) :
  ∀ (os:List Oper) (p c:Nat),all.drop p=os→c≤(st p).lev→c≤k→lowOf an i os p c≤k
 |[],p,c,_,_,hc=>hc
 |o :: os, p, c, hos, hc1, hc2 => by
  have hlt:p < all.length:=by
   rcases Nat.lt_or_ge p all.length with h1 | h1
   ·exact h1
   ·rw [List.drop_eq_nil_of_le h1] at hos;cases hos
  have hdr:=List.drop_eq_getElem_cons hlt
  rw [hos] at hdr
  simp only [List.cons.injEq] at hdr
  obtain ⟨hd1,hd2⟩:=hdr
  have ho:all[p]?=some o:=by rw [List.getElem?_eq_getElem hlt,hd1]
  have hmono:=h.lev_le p (p+1) (by omega) hlt
  simp only [lowOf]
  split
  ·exact low_le h I hanc os (p+1) c hd2.symm (by omega) hc2
  ·exact low_le h I hanc os (p+1) c hd2.symm (by omega) hc2
  ·next hk =>
   have hlt2:=h.lev_lt ho hk (show p < p+1 by omega) hlt
   split
   ·next hb =>
    have:=(I.rank p o ho hk).1 (hanc p hb)
    exact low_le h I hanc os (p+1) (c+1) hd2.symm (by omega) (by omega)
   ·exact low_le h I hanc os (p+1) c hd2.symm (by omega) hc2
theorem high_ge (h:Tr A E R a all an st) (I:Inv A a all an st B0 w0 m Dn k arr w) {i:Nat} (hn:¬ Dn i) :
  ∀ (os:List Oper) (p c:Nat),all.drop p=os→p≤all.length→(k≤c∨(st p).lev≤c)→k≤highOf an i os p c
 |[],p,c,hos,hp,hc=>by
  have hp2:all.length≤p:=by simpa using hos
  have hpe:p=all.length:=by omega
  subst hpe
  have:=I.kle
  simp only [highOf]
  omega
 |o :: os, p, c, hos, hp, hc => by
  have hlt:p < all.length:=by
   rcases Nat.lt_or_ge p all.length with h1 | h1
   ·exact h1
   ·rw [List.drop_eq_nil_of_le h1] at hos;cases hos
  have hdr:=List.drop_eq_getElem_cons hlt
  rw [hos] at hdr
  simp only [List.cons.injEq] at hdr
  obtain ⟨hd1,hd2⟩:=hdr
  have ho:all[p]?=some o:=by rw [List.getElem?_eq_getElem hlt,hd1]
  obtain ⟨v,hds⟩:=h.step p o ho
  simp only [highOf]
  split
  ·next hk =>
   have hl:(st (p+1)).lev=(st p).lev:=by
    rcases hds.lev with h1 | h1
    ·rw [hk] at h1;cases h1.1
    ·exact h1.2
   exact high_ge h I hn os (p+1) c hd2.symm hlt (by omega)
  ·next hk =>
   have hl:(st (p+1)).lev=(st p).lev:=by
    rcases hds.lev with h1 | h1
    ·rw [hk] at h1;cases h1.1
    ·exact h1.2
   exact high_ge h I hn os (p+1) c hd2.symm hlt (by omega)
  ·next hk =>
   have hl:(st (p+1)).lev=(st p).lev+1:=by
    rcases hds.lev with h1 | h1
    ·exact h1.2
    ·exact absurd hk h1.1
   split
   ·next hb =>
    have h1:¬ Dn p:=fun hc=>hn ((I.down p hc).2 i hb)
    have h2:¬ (st p).lev < k:=fun hc=>h1 ((I.rank p o ho hk).2 hc)
    exact high_ge h I hn os (p+1) c hd2.symm hlt (by omega)
   ·exact high_ge h I hn os (p+1) (c+1) hd2.symm hlt (by omega)
theorem Inv.same (h:Tr A E R a all an st) (I:Inv A a all an st B0 w0 m Dn k arr w) {i:Nat} {o:Oper} (ho:all[i]?=some o) (hn:¬ Dn i)
  (hanc:∀ j,(anc an i).testBit j=true→Dn j) {v:AV} (hd:DS A E R a all an i o (st i) (st (i+1)) v) {m':Env} {x:Value} {w':World} {k':Nat}
  (hle:m.le m') (hx:VR m' v x) (hk:(kin o.op=.loud∧k'=k+1)∨(kin o.op≠.loud∧k'=k)) (hN:∀ r b,¬ New A a all st i r b)
  (hL:∀ j,Laid all an st k j→Laid all an st k' j) {H':Heap} (hH:(st all.length).Hs.get k'=some H') (hr:HR (PB A a all an st B0 Dn k' m) w m' H' w') :
  Inv A a all an st B0 w0 m' (fun j=>Dn j∨j=i) k' (putArr arr o.dst x) w':=by
 have old:∀ i' r b,New A a all st i' r b→(Dn i'∨i'=i)→¬ Laid all an st k' i'→Dn i'∧¬ Laid all an st k i':=by
  intro i' r b h1 h2 h3
  rcases h2 with h2 | rfl
  ·exact ⟨h2,fun hc=>h3 (hL _ hc)⟩
  ·exact absurd h1 (hN _ _)
 have same:∀ i' r b l,New A a all st i' r b→(Dn i'∨i'=i)→¬ Laid all an st k' i'→m' r=some l→m r=some l:=by
  intro i' r b l h1 h2 h3 h4
  obtain ⟨q1,q2⟩:=old i' r b h1 h2 h3
  obtain ⟨l0,p1,_⟩:=I.pend i' r b h1 q1 q2
  have:=hle _ _ p1
  rw [h4] at this
  cases this
  exact p1
 refine I.go h ho hn hanc hd hle hx hk ?_ ⟨H',hH,?_⟩ ?_ ?_
 ·exact I.keep.trans (hr.below.weaken fun q hq=>.inl hq)
 ·refine hr.here.weaken ?_ ?_
  ·rintro q (hq | ⟨i',r,b,l,h1,h2,h3,h4,h5⟩)
   ·exact .inl hq
   ·exact .inr ⟨i',r,b,l,h1,(old i' r b h1 h2 h3).1,h3,same i' r b l h1 h2 h3 h4,h5⟩
  ·rintro y (hy | ⟨i',b,h1,h2⟩)
   ·exact .inl hy
   ·exact .inr ⟨i',b,h1,fun hc=>h2 (.inl hc)⟩
 ·intro i' r b h1 h2 h3
  obtain ⟨q1,q2⟩:=old i' r b h1 h2 h3
  obtain ⟨l,p1,p2,p3,p4⟩:=I.pend i' r b h1 q1 q2
  refine ⟨l,hle _ _ p1,p2,?_,p4⟩
  rw [hr.below.block l.blk (.inr ⟨i',r,b,l,h1,q1,h3,p1,rfl⟩)]
  exact p3.mono hle
 ·intro i1 r b i' r' b' l l' h1 h2 h3 h4 h5 h6 h7 h8 h9
  obtain ⟨q1,q2⟩:=old i1 r b h1 h2 h3
  obtain ⟨q3,q4⟩:=old i' r' b' h4 h5 h6
  exact I.dist i1 r b i' r' b' l l' h1 q1 q2 h4 q3 q4 (same _ _ _ _ h1 h2 h3 h7) (same _ _ _ _ h4 h5 h6 h8) h9
theorem kin_quiet {o:Op} (h:kin o=.quiet):quietOp o=true:=by
 unfold kin at h
 split at h
 ·assumption
 ·split at h<;>cases h
theorem kin_new {o:Op} (h:kin o=.new):newOp o=true:=by
 unfold kin at h
 split at h
 ·cases h
 ·split at h
  ·assumption
  ·cases h
variable {P:Program} {f:Frame} {ops:Array Oper} {kk:List Item} {cs:List Frame}
theorem Inv.one (hA:A.Ok P) (hE:E.Ok P) (hR:ROk P R) (h:Tr A E R a all an st) (hrd:readsOk A E a an all (st all.length) all 0=true)
  (hB:∀ i r b,New A a all st i r b→¬ B0.ids r) (I:Inv A a all an st B0 w0 m Dn k arr w) (hall:ops.toList=all) {i:Nat} {rest:List Nat} {o:Oper} (hops:ops[i]?=some o) (hn:¬ Dn i)
  (hanc:∀ j,(anc an i).testBit j=true→Dn j) (hfn:f.fn=a.fn) (hkind:f.kind=a.kind) (hrnd:RR m a.rnd f.roundOf) (hmode:f.mode=.run) :
  ∃ m' k' arr' w',Steps P (lone (atF f arr ops (i::rest) kk) cs w) (lone (atF f arr' ops rest kk) cs w')∧m.le m'∧Inv A a all an st B0 w0 m' (fun j=>Dn j∨j=i) k' arr' w':=by
 have ho:all[i]?=some o:=by rw [← hall,Array.getElem?_toList];exact hops
 obtain ⟨v,hd⟩:=h.step i o ho
 have hT:=I.looked h ho hn hanc
 have hmode':(atF f arr ops (i::rest) kk).mode=.run:=hmode
 obtain ⟨Hk,hHk,hHR⟩:=I.hr
 have skip:aguard all (restr (st i).t (looks all o)) o.guard=some false →
   Steps P (lone (atF f arr ops (i::rest) kk) cs w) (lone (atF f (putArr arr o.dst undef) ops rest kk) cs w)∧(∀ r b,¬ New A a all st i r b)∧¬ Ran all st i o:=by
  intro hg
  have hw:=aguard_ok hall hT hg
  refine ⟨.one ?_,?_,fun hc=>by unfold Ran at hc;rw [hg] at hc;cases hc⟩
  ·rw [← finish_atF hops]
   exact step_lone_go (by rw [stepG_run hmode',exec_unwanted (i:=i) (is:=rest) (k:=kk) rfl hops hw];rfl)
  ·rintro r b ⟨o',_,k1,k2,_⟩
   rw [ho] at k1
   cases k1
   unfold Ran at k2
   rw [hg] at k2
   cases k2
 have hundef:VR m (.tup []) undef:=by simp [VR,VRs,undef]
 rcases hd.is with c | c | c | c | c
 ·obtain ⟨hg,hv,hk,_⟩:=c
  subst hv
  obtain ⟨s1,s2,s3⟩:=skip hg
  exact ⟨m,k,_,w,s1,m.le_refl,I.same h ho hn hanc hd m.le_refl hundef (.inr ⟨hk,rfl⟩) s2 (fun _ hj=>hj) hHk hHR⟩
 ·obtain ⟨hg,hv,hk,_,hH,_,_,hHs,hlev⟩:=c
  subst hv
  obtain ⟨s1,s2,s3⟩:=skip hg
  have hl:=I.lev_eq h ho hk hn hanc
  have hHk':(st all.length).Hs.get (k+1)=some Hk:=by
   have h1:=h.heap (i:=i+1) (lt_of_get ho)
   rw [hlev,hl,hH] at h1
   have h2:=h.heap (i:=i) (Nat.le_of_lt (lt_of_get ho))
   rw [hl,hHk] at h2
   rw [h1,← h2]
  refine ⟨m,k+1,_,w,s1,m.le_refl,I.same h ho hn hanc hd m.le_refl hundef (.inl ⟨hk,rfl⟩) s2 (fun _ hj=>hj.up) hHk' (hHR.weaken ?_ ?_)⟩
  ·rintro q (hq | ⟨i',r,b,l,h1,h2,h3,h4,h5⟩)
   ·exact .inl hq
   ·exact .inr ⟨i',r,b,l,h1,h2,fun hc=>h3 hc.up,h4,h5⟩
  ·exact fun y hy=>hy
 ·obtain ⟨hg,hk,⟨H1,hop⟩,hvs,_⟩:=c
  have hq:=kin_quiet hk
  have hop':∃ H2,aop A E Hk { a with tmps:=restr (st i).t (looks all o) }.ev o=some (.val v H2):=by
   cases hr:readOp o.op with
   |false=>exact ⟨_,quiet_same hq hr hop⟩
   |true =>
    have h1:(st all.length).vs.get (0+i)=some v:=by
     rw [Nat.zero_add,h.vs_eq (i:=i+1) _ (lt_of_get ho) (Nat.le_refl _) i (Nat.lt_succ_self i),hvs,T.get_set,if_pos rfl]
    have h2:=readsOk_ok all 0 hrd i o v ho hr h1
    rw [Nat.zero_add] at h2
    have h3:=low_le h I hanc all 0 0 rfl (Nat.zero_le _) (Nat.zero_le _)
    have h4:=high_ge h I hn all 0 0 rfl (Nat.zero_le _) (.inr (by rw [h.lev0];exact Nat.le_refl _))
    obtain ⟨H2,H3,k1,k2⟩:=sameIn_ok _ _ h2 k h3 (by omega)
    rw [hHk] at k1
    cases k1
    rw [h.looks_eq ho hr]
    exact ⟨H3,k2⟩
  obtain ⟨H2,hop'⟩:=hop'
  have hH2:=quiet_heap hq hop'
  subst hH2
  have hw:=aguard_ok hall hT hg
  have hO:=aop_ok hA hE hHR (ev_ok (a:={ a with tmps:=restr (st i).t (looks all o) }) (f:=atF f arr ops (i::rest) kk) hT) hop'
  obtain ⟨x,m',w',r1,r2,r3,r4⟩:=hO
  have hndef:∀ c,o.op≠.defer c:=fun c hc=>by rw [hc] at hq;cases hq
  refine ⟨m',k,_,w',.one ?_,r2,I.same (k':=k) h ho hn hanc hd r2 r3 (.inr ⟨by rw [hk];simp,rfl⟩) ?_ (fun _ hj=>hj) hHk r4⟩
  ·rw [← finish_atF hops]
   exact step_lone_go (by rw [stepG_run hmode',exec_op (i:=i) (is:=rest) (k:=kk) rfl hops hw (.inr hndef)];exact apply_value r1)
  ·rintro r b ⟨o',_,k1,_,k3,_⟩
   rw [ho] at k1
   cases k1
   rw [hk] at k3
   cases k3
 ·obtain ⟨hg,hk,b,hnew,_⟩:=c
  have hw:=aguard_ok hall hT hg
  have hnq:=kin_new hk
  have hndef:∀ c,o.op≠.defer c:=fun c hc=>by rw [hc] at hnq;cases hnq
  have hN:New A a all st i (st i).next b:=⟨o,v,ho,hg,hk,rfl,hnew⟩
  have hid:(PB A a all an st B0 Dn k m).ids (st i).next:=.inr ⟨i,b,hN,hn⟩
  have hle:∀ l,m.le (m.ext (st i).next l):=fun l=>by
   have hnone:m (st i).next=none:=by
    cases hm:m (st i).next with
    |none=>rfl
    |some l'=>exact absurd hid (hHR.fresh _ l' hm).2
   intro y z e
   rw [Env.ext_ne _ _ (fun hc=>by subst hc;rw [hnone] at e;cases e)]
   exact e
  obtain ⟨x,ob,l,r1,r2,r3,r4,r5⟩:=anew_ok (w:=w) hA (ev_ok (a:={ a with tmps:=restr (st i).t (looks all o) }) (f:=atF f arr ops (i::rest) kk) hT) hnew hle
  have case:∀ i' r' b' l',New A a all st i' r' b'→(Dn i'∨i'=i)→(m.ext (st i).next l) r'=some l'→(i'=i∧r'=(st i).next∧l'=l)∨(Dn i'∧i'≠i∧m r'=some l'):=by
   intro i' r' b' l' h1 h2 h3
   by_cases h4:i'=i
   ·subst h4
    obtain ⟨q1,_⟩:=h1.uniq hN
    subst q1
    rw [Env.ext_self] at h3
    cases h3
    exact .inl ⟨rfl,rfl,rfl⟩
   ·have h5:r'≠(st i).next:=fun hc=>by subst hc;exact h4 (h.new_inj h1 hN)
    rw [Env.ext_ne _ _ h5] at h3
    exact .inr ⟨h2.resolve_right h4,h4,h3⟩
  obtain ⟨k1,k2⟩:=hHR.wait (B1:=PB A a all an st B0 (fun j=>Dn j∨j=i) k (m.ext (st i).next l)) hid ob l r2 (by
   rintro q (hq | ⟨i',r',b',l',h1,h2,h3,h4,h5⟩)
   ·exact .inl (.inl hq)
   ·rcases case i' r' b' l' h1 h2 h4 with ⟨_,_,c3⟩ | ⟨c1,_,c3⟩
    ·subst c3
     exact .inr h5.symm
    ·exact .inl (.inr ⟨i',r',b',l',h1,c1,h3,c3,h5⟩)) (by
   rintro y (hy | ⟨i',b',h1,h2⟩)
   ·exact ⟨.inl hy,fun hc=>hB i _ b hN (by rw [← hc];exact hy)⟩
   ·exact ⟨.inr ⟨i',b',h1,fun hc=>h2 (.inl hc)⟩,fun hc=>by subst hc;exact h2 (.inr (h.new_inj h1 hN))⟩)
  refine ⟨m.ext (st i).next l,k,_,w.alloc ob,.one ?_,k1,I.go h ho hn hanc hd k1 r3 (.inr ⟨by rw [hk];simp,rfl⟩) (I.keep.alloc ob r4.cold) ⟨Hk,hHk,k2⟩ ?_ ?_⟩
  ·rw [← finish_atF hops]
   exact step_lone_go (by rw [stepG_run hmode',exec_op (i:=i) (is:=rest) (k:=kk) rfl hops hw (.inr hndef)];exact apply_value r1)
  ·intro i' r' b' h1 h2 h3
   by_cases h4:i'=i
   ·subst h4
    obtain ⟨q1,q2⟩:=h1.uniq hN
    subst q1 q2
    refine ⟨l,Env.ext_self _ _ _,I.keep.new (by omega),?_,r5⟩
    rw [r2,heap_alloc_new]
    exact r4
   ·obtain ⟨l',p1,p2,p3,p4⟩:=I.pend i' r' b' h1 (h2.resolve_right h4) h3
    refine ⟨l',k1 _ _ p1,p2,?_,p4⟩
    rw [Below.heap_alloc _ _ _ (hHR.below.lt (.inr ⟨i',r',b',l',h1,h2.resolve_right h4,h3,p1,rfl⟩))]
    exact p3.mono k1
  ·intro i1 r1' b1 i' r' b' l1 l' h1 h2 h3 h4 h5 h6 h7 h8 h9
   have small:∀ i' r' b' l',New A a all st i' r' b'→Dn i'→¬ Laid all an st k i'→m r'=some l'→l'.blk < w.heap.size :=
    fun i' r' b' l' h1 h2 h3 h4=>hHR.below.lt (.inr ⟨i',r',b',l',h1,h2,h3,h4,rfl⟩)
   rcases case i1 r1' b1 l1 h1 h2 h7 with ⟨c1,_,c3⟩ | ⟨c1,c2,c3⟩
   ·rcases case i' r' b' l' h4 h5 h8 with ⟨e1,_,e3⟩ | ⟨e1,e2,e3⟩
    ·rw [c1,e1]
    ·have:=small i' r' b' l' h4 e1 h6 e3
     rw [c3] at h9
     omega
   ·rcases case i' r' b' l' h4 h5 h8 with ⟨e1,_,e3⟩ | ⟨e1,e2,e3⟩
    ·have:=small i1 r1' b1 l1 h1 c1 h3 c3
     rw [e3] at h9
     omega
    ·exact I.dist i1 r1' b1 i' r' b' l1 l' h1 c1 h3 h4 e1 h6 c3 e3 h9
 ·obtain ⟨hg,hk,hrun,_,_,_,_,hlev⟩:=c
  have hl:=I.lev_eq h ho hk hn hanc
  have hHi:Hk=(st i).H:=by
   have h2:=h.heap (i:=i) (Nat.le_of_lt (lt_of_get ho))
   rw [hl,hHk] at h2
   exact Option.some.inj h2
  subst hHi
  obtain ⟨wt1,wt2⟩:=h.wait i (Nat.le_of_lt (lt_of_get ho))
  rw [hl] at wt1
  rw [parted_ok] at hrun
  have hes:∀ e∈(st i).wait.filter (fun e=>(anc an i).testBit e.1),New A a all st e.1 e.2.1 e.2.2∧Dn e.1∧¬ Laid all an st k e.1∧(anc an i).testBit e.1=true:=by
   intro e he
   obtain ⟨h1,h2⟩:=List.mem_filter.1 he
   obtain ⟨h3,_,h4⟩:=(wt1 e).1 h1
   exact ⟨h3,hanc _ h2,h4,h2⟩
  have hlay:HR (PB A a all an st B0 Dn (k+1) m) w m (layAll ((st i).wait.filter (fun e=>(anc an i).testBit e.1)) (st i).H) w:=by
   refine layAll_ok _ hHR ?_ ?_ _ ?_ ?_
   ·intro e he
    obtain ⟨h1,h2,h3,_⟩:=hes e he
    obtain ⟨l,p1,p2,p3,p4⟩:=I.pend _ _ _ h1 h2 h3
    exact ⟨l,p1,.inr ⟨_,_,_,l,h1,h2,h3,p1,rfl⟩,p3,p4⟩
   ·refine List.Pairwise.imp_of_mem ?_ (wt2.filter _)
    intro e e' he he' hne l l' h1 h2 hc
    obtain ⟨q1,q2,q3,_⟩:=hes e he
    obtain ⟨q4,q5,q6,_⟩:=hes e' he'
    exact hne (I.dist _ _ _ _ _ _ l l' q1 q2 q3 q4 q5 q6 h1 h2 hc)
   ·rintro q (hq | ⟨i',r,b,l,h1,h2,h3,h4,h5⟩)
    ·refine ⟨.inl hq,fun e he l hl hc=>?_⟩
     obtain ⟨q1,q2,q3,_⟩:=hes e he
     obtain ⟨l0,p1,p2,_⟩:=I.pend _ _ _ q1 q2 q3
     rw [hl] at p1
     cases p1
     exact p2 (by rw [← hc];exact hq)
    ·have h3':¬ Laid all an st k i':=fun hc=>h3 hc.up
     refine ⟨.inr ⟨i',r,b,l,h1,h2,h3',h4,h5⟩,fun e he l' hl' hc=>?_⟩
     obtain ⟨q1,q2,q3,q4⟩:=hes e he
     have:=I.dist _ _ _ _ _ _ l l' h1 h2 h3' q1 q2 q3 h4 hl' (by rw [h5,hc])
     subst this
     refine h3 ?_
     rw [← hl]
     exact (h.laid ho hk).2 (.inr ⟨hg,q4⟩)
   ·exact fun y hy=>hy
  have hSR:SR (PB A a all an st B0 Dn (k+1) m) w (some { f:={ f with tmps:=arr },ops,i,rest,k:=kk,mode:=hmode }) m
    { fr:={ a with tmps:=restr (st i).t (looks all o),todo:=[.one all o],defers:=[],mode:=.run },cs:=[],H:=layAll ((st i).wait.filter (fun e=>(anc an i).testBit e.1)) (st i).H }
    (atF f arr ops (i::rest) kk) [] w :=
   ⟨.inr ⟨_,rfl,⟨.inl ⟨o,by rw [← hall],hops,rfl,hT⟩,rfl,hfn,hkind,hrnd⟩⟩,rfl,hlay⟩
  obtain ⟨m',w',x,s1,s2,s3,s4⟩:=hR (base:=cs) _ m (atF f arr ops (i::rest) kk) [] w v _ hSR hrun
  have hfin:({ ({ f with tmps:=arr }:Frame) with todo:=.inRegion ops (i::rest)::kk }:Frame).finish x=atF f (putArr arr o.dst x) ops rest kk:=finish_atF (f:=f) hops x
  simp only [hfin] at s1
  have hHk':(st all.length).Hs.get (k+1)=some (st (i+1)).H:=by
   have h1:=h.heap (i:=i+1) (lt_of_get ho)
   rw [hlev,hl] at h1
   exact h1
  refine ⟨m',k+1,_,w',s1,s2,I.same h ho hn hanc hd s2 s3 (.inl ⟨hk,rfl⟩) ?_ (fun _ hj=>hj.up) hHk' s4⟩
  rintro r b ⟨o',_,k1,_,k3,_⟩
  rw [ho] at k1
  cases k1
  rw [hk] at k3
  cases k3
end
end Go.Am
namespace Go.Am
open Go.RowKit
theorem ready_spec {ops:Array Oper} {listed:Array Bool} {i:Nat} (h:i∈Region.ready .any ops listed) :
  i < ops.size∧listed.getD i true=false∧∃ o,ops[i]?=some o∧∀ e∈o.after.toList,Region.binds .any e=true→listed.getD e.on false=true:=by
 unfold Region.ready at h
 simp only [List.mem_filter,List.mem_range,Bool.and_eq_true,Bool.not_eq_true'] at h
 obtain ⟨h1,h2,h3⟩:=h
 refine ⟨h1,h2,?_⟩
 rw [Array.getElem?_eq_getElem h1] at h3 ⊢
 refine ⟨_,rfl,fun e he hb=>?_⟩
 simp only [Option.map_some,Option.getD_some,Array.all_eq_true_iff_forall_mem] at h3
 have:=h3 e (by simpa using he)
 simpa [hb] using this
theorem ready_mem {ops:Array Oper} {listed:Array Bool} {i:Nat} {o:Oper} (ho:ops[i]?=some o) (h1:listed.getD i true=false)
  (h2:∀ e∈o.after.toList,Region.binds .any e=true→listed.getD e.on false=true):i∈Region.ready .any ops listed:=by
 unfold Region.ready
 simp only [List.mem_filter,List.mem_range,Bool.and_eq_true,Bool.not_eq_true']
 refine ⟨(Array.getElem?_eq_some_iff.1 ho).1,h1,?_⟩
 rw [ho]
 simp only [Option.map_some,Option.getD_some,Array.all_eq_true_iff_forall_mem]
 intro e he
 cases hb:Region.binds .any e with
 |false=>rfl
 |true=>simpa using h2 e (by simpa using he) hb
theorem count_set {l:List Bool} {i:Nat} (h:l[i]?=some false):(l.set i true).count false+1=l.count false:=by
 induction l generalizing i with
 |nil=>simp at h
 |cons x l ih =>
  cases i with
  |zero =>
   simp at h
   subst h
   simp
  |succ i =>
   have:=ih (i:=i) (by simpa using h)
   simp only [List.set_cons_succ,List.count_cons]
   omega
section
variable {A:AP} {E:Eqs} {R:Runner} {a:AFr} {an:T Nat} {st:Nat→DSt} {B0:Prot} {w0:World} {P:Program} {f:Frame} {ops:Array Oper} {kk:List Item} {cs:List Frame}
theorem draw_go (hA:A.Ok P) (hE:E.Ok P) (hR:ROk P R) (h:Tr A E R a ops.toList an st) (hrd:readsOk A E a an ops.toList (st ops.toList.length) ops.toList 0=true)
  (hB:∀ i r b,New A a ops.toList st i r b→¬ B0.ids r) (hfn:f.fn=a.fn) (hkind:f.kind=a.kind) (hmode:f.mode=.run) :
  ∀ (fl t : Nat) (listed : Array Bool) (m : Env) (Dn : Nat → Prop) (k : Nat) (arr : Array Value) (w : World), Inv A a ops.toList an st B0 w0 m Dn k arr w → RR m a.rnd f.roundOf →
   listed.size=ops.size→(∀ j,listed[j]?=some true↔Dn j)→listed.toList.count false≤fl →
   ∃ m' Dn' k' arr' w',Steps P (lone (atF f arr ops (Region.linearise.go .any ops fl t listed []) kk) cs w) (lone (atF f arr' ops [] kk) cs w')∧m.le m' ∧
    Inv A a ops.toList an st B0 w0 m' Dn' k' arr' w'∧∀ j,j < ops.size→Dn' j:=by
 intro fl
 induction fl with
 |zero =>
  intro t listed m Dn k arr w I hrnd hsz hl hc
  refine ⟨m,Dn,k,arr,w,by simp only [Region.linearise.go,List.reverse_nil];exact .refl _ _,m.le_refl,I,fun j hj=>(hl j).1 ?_⟩
  have h0:listed.toList.count false=0:=by omega
  have hj':j < listed.size:=by omega
  rw [Array.getElem?_eq_getElem hj']
  cases hv:listed[j] with
  |true=>rfl
  |false =>
   have:false∈listed.toList:=by rw [← hv];simp
   exact absurd this (List.count_eq_zero.1 h0)
 |succ fl ih =>
  intro t listed m Dn k arr w I hrnd hsz hl hc
  have getDf:∀ j,listed.getD j false=true→Dn j:=by
   intro j hj
   refine (hl j).1 ?_
   rw [Array.getD_eq_getD_getElem?] at hj
   cases hv:listed[j]? with
   |none=>rw [hv] at hj;cases hj
   |some b=>rw [hv] at hj;simp at hj;rw [hj]
  simp only [Region.linearise.go]
  change ∃ m' Dn' k' arr' w',Steps P (lone (atF f arr ops (match (Region.ready .any ops listed)[t % (Region.ready .any ops listed).length]? with
   |some i=>Region.linearise.go .any ops fl (t / (Region.ready .any ops listed).length) (listed.setIfInBounds i true) [i]
   |none=>[].reverse) kk) cs w) _∧_
  cases hi:(Region.ready .any ops listed)[t % (Region.ready .any ops listed).length]? with
  |none =>
   have hnil:Region.ready .any ops listed=[]:=by
    cases hr:Region.ready .any ops listed with
    |nil=>rfl
    |cons x xs =>
     rw [hr] at hi
     have hlt:t % (x::xs).length < (x::xs).length:=Nat.mod_lt _ (by simp)
     simp at hi
     simp at hlt
     omega
   refine ⟨m,Dn,k,arr,w,.refl _ _,m.le_refl,I,fun j=>?_⟩
   induction j using Nat.strongRecOn with
   |_ j ihj =>
    intro hj
    refine Classical.byContradiction fun hn=>?_
    have ho:=Array.getElem?_eq_getElem hj
    have hj':j < listed.size:=by omega
    have hlj:listed[j]?=some false:=by
     rw [Array.getElem?_eq_getElem hj']
     cases hv:listed[j] with
     |false=>rfl
     |true=>exact absurd ((hl j).1 (by rw [Array.getElem?_eq_getElem hj',hv])) hn
    have:j∈Region.ready .any ops listed:=by
     refine ready_mem ho (by rw [Array.getD_eq_getD_getElem?,hlj];rfl) fun e he hb=>?_
     have h1:=h.stat.edge j _ (by rw [Array.getElem?_toList];exact ho) e he hb
     have h2:=(hl e.on).2 (ihj e.on h1 (by omega))
     rw [Array.getD_eq_getD_getElem?,h2]
     rfl
    rw [hnil] at this
    cases this
  |some i =>
   obtain ⟨r1,r2,o,r3,r4⟩:=ready_spec (List.mem_of_getElem? hi)
   have ho:ops.toList[i]?=some o:=by rw [Array.getElem?_toList];exact r3
   have hi':i < listed.size:=by omega
   have hli:listed[i]?=some false:=by
    rw [Array.getD_eq_getD_getElem?,Array.getElem?_eq_getElem hi'] at r2
    rw [Array.getElem?_eq_getElem hi']
    simpa using r2
   have hn:¬ Dn i:=fun hc=>by rw [(hl i).2 hc] at hli;cases hli
   have hanc:∀ j,(anc an i).testBit j=true→Dn j:=by
    intro j hj
    obtain ⟨e,e1,e2,e3⟩:=h.stat.back i o ho j hj
    have e4:=getDf _ (r4 e e1 e2)
    rcases e3 with rfl | e3
    ·exact e4
    ·exact (I.down _ e4).2 j e3
   simp only []
   rw [linearise_go_acc,List.reverse_singleton,List.singleton_append]
   obtain ⟨m1,k1,arr1,w1,s1,s2,s3⟩:=I.one hA hE hR h hrd hB rfl r3 hn hanc hfn hkind hrnd hmode (kk:=kk) (cs:=cs)
    (rest:=Region.linearise.go .any ops fl (t / (Region.ready .any ops listed).length) (listed.setIfInBounds i true) [])
   have hl':∀ j,(listed.setIfInBounds i true)[j]?=some true↔(Dn j∨j=i):=by
    intro j
    by_cases hij:i=j
    ·subst hij
     simp [hi']
    ·rw [Array.getElem?_setIfInBounds_ne hij,hl j]
     constructor
     ·exact .inl
     ·rintro (hj | hj)
      ·exact hj
      ·exact absurd hj.symm hij
   have hc':(listed.setIfInBounds i true).toList.count false≤fl:=by
    have h1:=count_set (l:=listed.toList) (i:=i) (by rw [Array.getElem?_toList];exact hli)
    rw [Array.toList_setIfInBounds]
    omega
   obtain ⟨m2,Dn2,k2,arr2,w2,u1,u2,u3,u4⟩:=ih (t / (Region.ready .any ops listed).length) (listed.setIfInBounds i true) m1 _ k1 arr1 w1 s3 (hrnd.mono s2) (by simpa using hsz) hl' hc'
   exact ⟨m2,Dn2,k2,arr2,w2,s1.trans u1,Env.le_trans s2 u2,u3,u4⟩
theorem drawR_ok (hA:A.Ok P) (hE:E.Ok P) (hP:P.follows .mixedOrders=true) {R:Runner} (hR:ROk P R):DSound P (drawR A E R):=by
  intro B0 w0 m H H' w a f id ops t k cs e hHR hfn hkind hrnd hmode hT
  simp only [drawR] at e
  split at e
  ·cases e
  next an hst =>
  split at e
  ·cases e
  next S hcan =>
  split at e
  case h_2=>cases e
  next hrd =>
  cases e
  obtain ⟨st,q1,q2,q3⟩:=dcanon_ok _ _ _ _ hcan
  have hTr:Tr A E R a ops.toList an st:=by
   refine ⟨dstat_ok hst,fun i o ho=>?_,by rw [q1],by rw [q1],by rw [q1];simp [T.get_set],by rw [q1]⟩
   have:=q3 i o ho
   simpa using this
  rw [Nat.zero_add] at q2
  have hge:∀ i r b,New A a ops.toList st i r b→H.next≤r∧r < H.next+countNew ops.toList:=by
   intro i r b hN
   have h1:=hTr.new_lt hN (j:=ops.toList.length) (by obtain ⟨o,_,h1,_⟩:=hN;exact lt_of_get h1) (Nat.le_refl _)
   have h2:=hTr.next_top ops.toList 0 rfl (Nat.zero_le _)
   have h3:(st 0).next=H.next:=by rw [q1]
   obtain ⟨o,_,k1,_,_,k2,_⟩:=hN
   have h4:=hTr.next_le 0 i (Nat.zero_le _) (Nat.le_of_lt (lt_of_get k1))
   omega
  have hstep:Steps P (lone { f with todo:=.code (.region id ops true)::k } cs w)
    (lone (atF f f.tmps ops (Region.linearise.go .any ops ops.size (w.tape w.drawn (.order f.fn id)) (Array.replicate ops.size false) []) k) cs w.drew):=by
   refine .one (step_lone_go ?_)
   rw [stepG_run (fr:={ f with todo:=.code (.region id ops true)::k }) hmode]
   simp [stepG.exec,choose,Sem.run,Question.forced,Question.cut,Region.schedule,hP,Region.linearise,atF]
  have I:Inv A a ops.toList an st B0 w0 m (fun _=>False) 0 f.tmps w.drew:=by
   have hk0:Keep B0 w0 w.drew:=hHR.below.drew
   refine ⟨fun _ hc=>hc.elim,fun i o _ _=>⟨fun hc=>hc.elim,fun hc=>absurd hc (Nat.not_lt_zero _)⟩,Nat.zero_le _,hT.1,fun x v hx hw=>?_,fun x v hx _=>hT.2 x v (by rw [← hTr.t0];exact hx),hk0,⟨{ H with next:=H.next+countNew ops.toList },?_,?_⟩,fun _ _ _ _ hc=>hc.elim,fun _ _ _ _ _ _ _ _ _ hc=>hc.elim⟩
   ·rw [hTr.free_eq fun j o ho hd=>hw j o ho hd] at hx
    exact hT.2 x v hx
   ·rw [hTr.Hs_eq (i:=0) (Nat.zero_le _) _ (Nat.zero_le _) (Nat.le_refl _),q1]
    simp [T.get_set]
   ·have hd:=hHR.drew
    refine ⟨.refl ?_,?_,hd.inb,hd.blk,hd.sep,?_,?_,?_⟩
    ·rintro q (hq | ⟨_,_,_,_,_,hc,_⟩)
     ·exact hk0.lt hq
     ·exact hc.elim
    ·intro x l hx
     have h1:=hHR.fresh x l hx
     refine ⟨Nat.lt_of_lt_of_le h1.1 (Nat.le_add_right _ _),?_⟩
     rintro (hc | ⟨i,b,hN,_⟩)
     ·exact h1.2 hc
     ·have:=hge i x b hN
      omega
    ·intro x t' f' n' c' hx
     obtain ⟨p1,p2⟩:=hd.fam x t' f' n' c' hx
     exact ⟨Nat.lt_of_lt_of_le p1 (Nat.le_add_right _ _),p2⟩
    ·rintro x b l hx hl (hc | ⟨_,_,_,_,_,hc,_⟩)
     ·exact hd.live x b l hx hl hc
     ·exact hc.elim
    ·rintro x (hx | ⟨i,b,hN,_⟩)
     ·exact Nat.lt_of_lt_of_le (hHR.idsb x hx) (Nat.le_add_right _ _)
     ·exact (hge i x b hN).2
  obtain ⟨m',Dn',k',arr',w',s1,s2,s3,s4⟩:=draw_go (f:=f) (kk:=k) (cs:=cs) hA hE hR hTr (by rw [q2];exact hrd)
   (fun i r b hN hc=>by have:=hHR.idsb r hc;have:=hge i r b hN;omega) hfn hkind hmode ops.size (w.tape w.drawn (.order f.fn id)) (Array.replicate ops.size false) m _ 0 f.tmps w.drew I hrnd
   (by simp) (fun j=>by simp [Array.getElem?_replicate]) (by simp [List.count_replicate])
  have hall:∀ (j:Nat) (o:Oper),ops.toList[j]?=some o→Dn' j:=fun j o ho=>s4 j (by simpa using lt_of_get ho)
  have hk':k'=(st ops.toList.length).lev:=by
   have h1:=s3.kle
   rcases Nat.lt_or_ge k' (st ops.toList.length).lev with h2 | h2
   ·obtain ⟨i,o,k1,k2,k3,k4⟩:=hTr.lev_at _ (Nat.le_refl _) h2
    have:=(s3.rank i o k2 k3).1 (hall i o k2)
    omega
   ·omega
  subst hk'
  obtain ⟨Hk,hHk,hHR'⟩:=s3.hr
  rw [hTr.heap (Nat.le_refl _)] at hHk
  cases hHk
  obtain ⟨wt1,wt2⟩:=hTr.wait ops.toList.length (Nat.le_refl _)
  have hes:∀ e∈(st ops.toList.length).wait,New A a ops.toList st e.1 e.2.1 e.2.2∧Dn' e.1∧¬ Laid ops.toList an st (st ops.toList.length).lev e.1:=by
   intro e he
   obtain ⟨h1,h2,h3⟩:=(wt1 e).1 he
   exact ⟨h1,s4 _ (by simpa using h2),h3⟩
  have hfinal:HR B0 w' m' (layAll (st ops.toList.length).wait (st ops.toList.length).H) w':=by
   refine layAll_ok _ hHR' ?_ ?_ _ ?_ ?_
   ·intro e he
    obtain ⟨h1,h2,h3⟩:=hes e he
    obtain ⟨l,p1,p2,p3,p4⟩:=s3.pend _ _ _ h1 h2 h3
    exact ⟨l,p1,.inr ⟨_,_,_,l,h1,h2,h3,p1,rfl⟩,p3,p4⟩
   ·refine List.Pairwise.imp_of_mem ?_ wt2
    intro e e' he he' hne l l' h1 h2 hc
    obtain ⟨q1,q2,q3⟩:=hes e he
    obtain ⟨q4,q5,q6⟩:=hes e' he'
    exact hne (s3.dist _ _ _ _ _ _ l l' q1 q2 q3 q4 q5 q6 h1 h2 hc)
   ·intro q hq
    refine ⟨.inl hq,fun e he l hl hc=>?_⟩
    obtain ⟨q1,q2,q3⟩:=hes e he
    obtain ⟨l0,p1,p2,_⟩:=s3.pend _ _ _ q1 q2 q3
    rw [hl] at p1
    cases p1
    exact p2 (by rw [← hc];exact hq)
   ·exact fun y hy=>.inl hy
  rw [← q2]
  refine ⟨m',w',arr',(hstep.trans s1).trans (.one (step_lone_go ?_)),s2,⟨s3.size,fun x v hx=>s3.tm x v hx fun j o ho _=>hall j o ho⟩,hfinal.rebase s3.keep⟩
  rw [stepG_run (fr:=atF f arr' ops [] k) hmode]
  simp [stepG.exec,atF]
end
end Go.Am
namespace Go.Am
open Go.RowKit
section
variable {A:AP} {E:Eqs} {P:Program} {fuel n:Nat}
def Leads (P:Program) (S S':ASt):Prop :=
 ∀ (B0:Prot) (w0:World) (m:Env) (fr:Frame) (cs base:List Frame) (w:World),SR B0 w0 none m S fr cs w →
  ∃ m' fr' cs' w',Steps P (lone fr (cs++base) w) (lone fr' (cs'++base) w')∧m.le m'∧SR B0 w0 none m' S' fr' cs' w'
theorem Leads.refl (S:ASt):Leads P S S:=fun _ _ m fr cs _ w h=>⟨m,fr,cs,w,.refl _ _,m.le_refl,h⟩
theorem Leads.trans {S S' S'':ASt} (h:Leads P S S') (h':Leads P S' S''):Leads P S S'':=by
 intro B0 w0 m fr cs base w hS
 obtain ⟨m1,fr1,cs1,w1,s1,s2,s3⟩:=h B0 w0 m fr cs base w hS
 obtain ⟨m2,fr2,cs2,w2,u1,u2,u3⟩:=h' B0 w0 m1 fr1 cs1 base w1 s3
 exact ⟨m2,fr2,cs2,w2,s1.trans u1,Env.le_trans s2 u2,u3⟩
theorem afinal_ok (hA:A.Ok P) {B0:Prot} {w0:World} {m:Env} {S:ASt} {fr:Frame} {cs:List Frame} {w:World} (h:SR B0 w0 none m S fr cs w) (hk:S.fr.kind=.normal) {v:AV} {H:Heap} (e:afinal A S=some (v,H)) :
  cs=[]∧∃ x,fr.leaving P w (.returned x)∧VR m v x∧HR B0 w0 m H w:=by
 unfold afinal at e
 split at e
 case h_2=>cases e
 next hm hd hc =>
 split at e
 case h_2=>cases e
 next fn hfn =>
 split at e
 case h_2=>cases e
 next vs hvs =>
 cases e
 have hN:FrN m S.fr fr:=h.fr.out (by rw [hm];simp)
 have h1:=h.cs
 rw [hc] at h1
 have h2:=hN.mode
 rw [hm] at h2
 have h3:=hN.defers
 rw [hd] at h3
 have h4:=hA.funcs _ _ hfn
 rw [← hN.fn] at h4
 obtain ⟨x,x1,x2⟩:=results_ok hA h.H hN.tmps hvs
 exact ⟨h1,x,⟨h2,h3,by rw [hN.kind,hk],fn,h4,x1⟩,x2,h.H⟩
theorem Keep.grown {w w':World} (h:Keep { blk:=fun k=>k < w.heap.size,ids:=fun _=>False } w w'):Grown w w' :=
 ⟨Below.frame ⟨h.os,h.tape,h.output,h.size,h.block⟩ _,h.froz,h.size⟩
def emptyHeap:Heap:={ blks:=.nil,next:=0,fams:=.nil }
def Kept (w w':World):Prop:=Keep { blk:=fun k=>k < w.heap.size,ids:=fun _=>False } w w'
theorem calls_keep (hA:A.Ok P) {f:FuncId} {fr:AFr} (he:AFr.enter A f [] .normal=some fr) {S':ASt} (hL:Leads P { fr,cs:=[],H:=emptyHeap } S') (hk:S'.fr.fn=f) (hn:S'.fr.kind=.normal)
  {b:Bool} {H:Heap} (hf:afinal A S'=some (.bool b,H)) (w:World):Calls P f #[] w fun e w'=>e=.returned (.bool b)∧Kept w w':=by
 intro cs
 have h0:HR { blk:=fun k=>k < w.heap.size,ids:=fun _=>False } w (fun _=>none) emptyHeap w :=
  ⟨.refl fun _ h=>h,fun _ _ e=>(by cases e),fun _ _ e=>(by cases e),fun _ _ e=>(by simp [emptyHeap,T.get_nil] at e),fun _ _ _ _ _ _ e=>(by simp [emptyHeap,T.get_nil] at e),fun _ _ _ _ _ e=>(by simp [emptyHeap,T.get_nil] at e),fun _ _ _ e=>(by simp [emptyHeap,T.get_nil] at e),fun _ e=>e.elim⟩
 have hS:SR _ w none (fun _=>none) { fr,cs:=[],H:=emptyHeap } (Frame.enter P f #[] .normal) [] w:=⟨.inl (enter_ok hA he (by simp [VRs])),rfl,h0⟩
 obtain ⟨m',fr',cs',w',s1,_,s3⟩:=hL _ w _ _ [] cs w hS
 obtain ⟨rfl,x,x1,x2,x3⟩:=afinal_ok hA s3 hn hf
 simp only [VR] at x2
 subst x2
 refine ⟨_,w',fr',⟨rfl,x3.below⟩,s1,?_,x1⟩
 have hN:=s3.fr.own (a:=S'.fr) (by
  unfold AFr.lone
  rcases s3.fr with h | ⟨z,hz,_⟩
  ·have:=h.todo
   split
   ·next hto=>rw [hto] at this;obtain ⟨_,_,_,h2,_⟩:=this;exact h2.elim
   ·next hto=>rw [hto] at this;obtain ⟨_,_,_,h2,_⟩:=this;exact h2.elim
   ·rfl
  ·cases hz)
 rw [hN.fn,hk]
end
end Go.Am
