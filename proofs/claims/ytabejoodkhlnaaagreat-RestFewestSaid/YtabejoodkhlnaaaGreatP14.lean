/- Parts of the proof: Pv36, Pv37, Pv38, Pv39, Pv44, T2 -/
import Derived.Test.YtabejoodkhlnaaaGreatP13
set_option linter.unusedVariables false
set_option linter.unusedSimpArgs false
namespace Go.Pv
open Go.Am Go.RowKit
def PH.hide (h:PH) (O:Nat→Bool):PH:=⟨fun i=>if O i=true then none else h.get i,h.next⟩
def PH.give (h1 h:PH) (O:Nat→Bool):PH:=⟨fun i=>if O i=true then h.get i else h1.get i,h1.next⟩
section
variable {s s':St} {w0:Base} {O:Nat→Bool}
def isO (s:St) (O:Nat→Bool) (k:Nat):Prop:=∃ i,O i=true∧s.e i=k
open Classical in
noncomputable def St.hideO (s:St) (O:Nat→Bool):St:={ s with σ:=fun k=>if isO s O k then .no else s.σ k,h:=s.h.hide O }
def Base.hideO (w0:Base) (s:St) (O:Nat→Bool):Base:=⟨s.w,fun k=>k < s.w.heap.size∧(w0.pr k∨isO s O k),fun _ h=>h.1⟩
open Classical in
noncomputable def St.giveO (s s':St) (O:Nat→Bool):St:={ σ:=fun k=>if isO s O k then s.σ k else s'.σ k,e:=s'.e,h:=s'.h.give s.h O,w:=s'.w }
def Hid (s:St) (O:Nat→Bool):Prop:=∀ i,O i=true→∃ b,s.h.get i=some b∧b.isOwn=false
theorem Hid.live (hO:Hid s O) (hw:PW w0 s) {k:Nat} (h:isO s O k):∃ i,O i=true∧s.e i=k∧s.σ k=.live i∧i < s.h.next:=by
 obtain ⟨i,h1,h2⟩:=h
 obtain ⟨b,h3,h4⟩:=hO i h1
 obtain ⟨p1,p2,_⟩:=hw.hp i b h3
 have:=(BAt_live h4).1 p2
 rw [h2] at this
 exact ⟨i,h1,h2,this,p1⟩
theorem hideO_yes {k:Nat} (h:isO s O k):(s.hideO O).σ k=.no:=by simp [St.hideO,h]
theorem hideO_not {k:Nat} (h:¬ isO s O k):(s.hideO O).σ k=s.σ k:=by simp [St.hideO,h]
theorem giveO_yes {k:Nat} (h:isO s O k):(s.giveO s' O).σ k=s.σ k:=by simp [St.giveO,h]
theorem giveO_not {k:Nat} (h:¬ isO s O k):(s.giveO s' O).σ k=s'.σ k:=by simp [St.giveO,h]
theorem Ext.hideO (hO:Hid s O) (hw:PW w0 s):Ext s (s.hideO O):=by
 refine Ext.mk' ⟨Nat.le_refl _,fun k _=>⟨fun e=>?_,fun n e=>?_⟩⟩ (Nat.le_refl _) (fun _ _=>rfl) (fun k o y hy=>?_) (fun i n _ hn=>?_)
 ·by_cases h:isO s O k
  ·exact hideO_yes h
  ·rw [hideO_not h];exact e
 ·by_cases h:isO s O k
  ·obtain ⟨_,_,_,h3,_⟩:=hO.live hw h
   rw [e] at h3;cases h3
  ·rw [hideO_not h];exact e
 ·obtain ⟨n,own,h1,h2,h3⟩:=fcell_some hy
  by_cases h:isO s O k
  ·obtain ⟨_,_,_,h4,_⟩:=hO.live hw h
   rw [h1] at h4;cases h4
  ·exact fcell_of (s:=s.hideO O) (by rw [hideO_not h];exact h1) h2 h3
 ·by_cases h:isO s O (s.e i)
  ·rw [hideO_yes h] at hn;cases hn
  ·rw [hideO_not h] at hn
   exact ⟨hn,fun arr t ha=>⟨arr,ha,rfl⟩⟩
theorem PW.hideO (hw:PW w0 s) (hO:Hid s O):PW (w0.hideO s O) (s.hideO O):=by
 have hx:=Ext.hideO hO hw
 refine ⟨rfl,rfl,rfl,Nat.le_refl _,fun _ _=>rfl,fun k hk=>?_,fun k o hk ho=>?_,fun k hk=>?_,fun k n i hk=>?_,fun i b hi=>?_⟩
 ·by_cases h:isO s O k
  ·exact .inl (hideO_yes h)
  ·rw [hideO_not h]
   exact hw.prot k (hk.2.resolve_right h)
 ·have hlt:k < s.w.heap.size:=(Array.getElem?_eq_some_iff.1 ho).1
  exact hw.cold k o (fun hp=>hk ⟨hlt,.inl hp⟩) ho
 ·by_cases h:isO s O k
  ·exact hideO_yes h
  ·rw [hideO_not h];exact hw.inb k hk
 ·by_cases h:isO s O k
  ·rw [hideO_yes h] at hk;cases hk
  ·rw [hideO_not h] at hk
   exact hw.ob k n i hk
 ·have hi':(if O i=true then none else s.h.get i)=some b:=hi
  split at hi'
  ·cases hi'
  next hoi =>
  obtain ⟨p1,p2,p3⟩:=hw.hp i b hi'
  have hn:¬ isO s O (s.e i):=fun h=>by
   obtain ⟨j,h1,h2⟩:=h
   obtain ⟨b',h3,_⟩:=hO j h1
   obtain ⟨_,q2,_⟩:=hw.hp j b' h3
   exact hoi (by rw [p2.inj q2 h2.symm];exact h1)
  exact ⟨p1,BAt.congr (s':=s.hideO O) (s:=s) rfl (hideO_not hn) p2,p3.ext hx rfl⟩
theorem giveO_no (hO:Hid s O) (hw:PW w0 s) (hx:Ext (s.hideO O) s') {k:Nat} (h:isO s O k):s'.σ k=.no:=by
 obtain ⟨i,_,_,h3,_⟩:=hO.live hw h
 exact (hx.old.2 k (hw.lt (by rw [h3];simp))).1 (hideO_yes h)
theorem giveO_same (hO:Hid s O) (hw:PW w0 s) (h1:PW (w0.hideO s O) s') {k:Nat} (h:isO s O k):s'.w.heap[k]?=s.w.heap[k]?:=by
 obtain ⟨i,_,_,h3,_⟩:=hO.live hw h
 exact h1.old k ⟨hw.lt (by rw [h3];simp),.inr h⟩
theorem giveO_ext (hO:Hid s O) (hw:PW w0 s) (hx:Ext (s.hideO O) s'):Ext s (s.giveO s' O):=by
 refine Ext.mk' ⟨hx.old.1,fun k hk=>⟨fun e=>?_,fun n e=>?_⟩⟩ hx.next (fun i hi=>hx.e i hi) (fun k o y hy=>?_) (fun i n hi hn=>?_)
 ·by_cases h:isO s O k
  ·obtain ⟨_,_,_,h3,_⟩:=hO.live hw h
   rw [e] at h3;cases h3
  ·rw [giveO_not h]
   exact (hx.old.2 k hk).1 (by rw [hideO_not h];exact e)
 ·by_cases h:isO s O k
  ·obtain ⟨_,_,_,h3,_⟩:=hO.live hw h
   rw [e] at h3;cases h3
  ·rw [giveO_not h]
   exact (hx.old.2 k hk).2 n (by rw [hideO_not h];exact e)
 ·have h0:=(Ext.hideO hO hw).cell k o y hy
  obtain ⟨n,own,q1,q2,q3⟩:=fcell_some (hx.cell k o y h0)
  by_cases h:isO s O k
  ·rw [giveO_no hO hw hx h] at q1;cases q1
  ·exact fcell_of (s:=s.giveO s' O) (by rw [giveO_not h];exact q1) q2 q3
 ·by_cases h:isO s O (s.e i)
  ·obtain ⟨_,_,_,h3,_⟩:=hO.live hw h
   rw [giveO_yes h,h3] at hn;cases hn
  ·rw [giveO_not h] at hn
   obtain ⟨r1,r2⟩:=hx.own i n hi hn
   have r1':(s.hideO O).σ (s.e i)=.fz n (some i):=r1
   rw [hideO_not h] at r1'
   exact ⟨r1',r2⟩
theorem giveO_ext0 (hO:Hid s O) (hw:PW w0 s) (hx:Ext (s.hideO O) s'):Ext0 s' (s.giveO s' O):=by
 refine ⟨Nat.le_refl _,fun _ _=>rfl,fun k o y hy=>?_,fun i n hi hn=>?_⟩
 ·obtain ⟨n,own,q1,q2,q3⟩:=fcell_some hy
  by_cases h:isO s O k
  ·rw [giveO_no hO hw hx h] at q1;cases q1
  ·exact fcell_of (s:=s.giveO s' O) (by rw [giveO_not h];exact q1) q2 q3
 ·by_cases h:isO s O (s'.e i)
  ·obtain ⟨_,_,_,h3,_⟩:=hO.live hw h
   rw [giveO_yes h,h3] at hn;cases hn
  ·rw [giveO_not h] at hn
   exact ⟨hn,fun arr t ha=>⟨arr,ha,rfl⟩⟩
theorem giveO_pw (hO:Hid s O) (hw:PW w0 s) (h1:PW (w0.hideO s O) s') (hx:Ext (s.hideO O) s'):PW w0 (s.giveO s' O):=by
 have hxb:=giveO_ext hO hw hx
 have p0:∀ k,w0.pr k→(w0.hideO s O).pr k:=fun k hk=>⟨Nat.lt_of_lt_of_le (w0.lt k hk) hw.size,.inl hk⟩
 refine ⟨h1.os.trans hw.os,h1.tape.trans hw.tape,h1.output.trans hw.output,Nat.le_trans hw.size h1.size,fun k hk=>(h1.old k (p0 k hk)).trans (hw.old k hk),fun k hk=>?_,fun k o hk ho=>?_,fun k hk=>?_,fun k n i hk=>?_,fun i b hi=>?_⟩
 ·by_cases h:isO s O k
  ·rw [giveO_yes h];exact hw.prot k hk
  ·rw [giveO_not h];exact h1.prot k (p0 k hk)
 ·by_cases h:isO s O k
  ·exact hw.cold k o hk ((giveO_same hO hw h1 h).symm.trans ho)
  ·exact h1.cold k o (fun hp=>hp.2.elim hk h) ho
 ·by_cases h:isO s O k
  ·obtain ⟨_,_,_,h3,_⟩:=hO.live hw h
   have hk1:s'.w.heap.size≤k:=hk
   have:=hw.lt (k:=k) (by rw [h3];simp)
   have hk2:s.w.heap.size≤s'.w.heap.size:=h1.size
   omega
  ·rw [giveO_not h];exact h1.inb k hk
 ·by_cases h:isO s O k
  ·obtain ⟨_,_,_,h3,_⟩:=hO.live hw h
   rw [giveO_yes h,h3] at hk;cases hk
  ·rw [giveO_not h] at hk
   exact h1.ob k n i hk
 ·have hi':(if O i=true then s.h.get i else s'.h.get i)=some b:=hi
  split at hi'
  ·next hoi =>
   obtain ⟨p1,p2,p3⟩:=hw.hp i b hi'
   have he:s'.e i=s.e i:=hx.e i p1
   have hyes:isO s O (s.e i):=⟨i,hoi,rfl⟩
   refine ⟨Nat.lt_of_lt_of_le p1 hx.next,BAt.congr (s':=s.giveO s' O) (s:=s) he (giveO_yes hyes) p2,?_⟩
   show PB (s.giveO s' O) (s'.e i) b
   rw [he]
   exact p3.ext hxb (giveO_same hO hw h1 hyes)
  ·obtain ⟨p1,p2,p3⟩:=h1.hp i b hi'
   have hnot:¬ isO s O (s'.e i):=fun h=>by
    have:=p2.some
    exact this (giveO_no hO hw hx h)
   exact ⟨p1,BAt.congr (s':=s.giveO s' O) (s:=s') rfl (giveO_not hnot) p2,p3.ext0 (giveO_ext0 hO hw hx) rfl⟩
theorem Ends.give (hO:Hid s O) (hw:PW w0 s) {R X:PV→PH→Prop} {e:Ending} {w':World} (he:Ends (w0.hideO s O) (s.hideO O) R X e w') :
  Ends w0 s (fun v h=>∃ h1,R v h1∧(h1.Ok∧∀ i,O i=true→h1.get i=none)∧h=h1.give s.h O) (fun v h=>∃ h1,X v h1∧(h1.Ok∧∀ i,O i=true→h1.get i=none)∧h=h1.give s.h O) e w':=by
 obtain ⟨s',e1,e2,e3,e4⟩:=he
 have f4:=giveO_ext0 hO hw e3
 have f5:∀ i,O i=true→s'.h.get i=none:=fun i hi=>by
  cases hg:s'.h.get i with
  |none=>rfl
  |some b =>
   obtain ⟨b0,h3,_⟩:=hO i hi
   have hlt:=(hw.hp i b0 h3).1
   have h6:=(e2.hp i b hg).2.1.some
   have h7:s'.e i=s.e i:=e3.e i hlt
   rw [h7] at h6
   exact absurd (giveO_no hO hw e3 ⟨i,hi,rfl⟩) h6
 refine ⟨s.giveO s' O,e1,giveO_pw hO hw e2 e3,giveO_ext hO hw e3,?_⟩
 cases e with
 |returned x =>
  obtain ⟨v,v1,v2⟩:=e4
  exact ⟨v,(R2.ext0 f4 v).1 _ v1,_,v2,⟨e2.ok,f5⟩,rfl⟩
 |panicked c =>
  obtain ⟨v,x,hc,v1,v2⟩:=e4
  exact ⟨v,x,hc,(R2.ext0 f4 v).1 _ v1,_,v2,⟨e2.ok,f5⟩,rfl⟩
 |outgrown=>exact e4.elim
end
section
variable {P:Program} {O:Nat→Bool} {h:PH} {R X:PV→PH→Prop}
theorem PCall.frameO {g:FuncId} {args:List PV} (hO:∀ i,O i=true→∃ b,h.get i=some b∧b.isOwn=false) (hp:PCall P g args (h.hide O) R X) :
  PCall P g args h (fun v h'=>∃ h1,R v h1∧(h1.Ok∧∀ i,O i=true→h1.get i=none)∧h'=h1.give h O) (fun v h'=>∃ h1,X v h1∧(h1.Ok∧∀ i,O i=true→h1.get i=none)∧h'=h1.give h O):=by
 refine ⟨hp.1,fun w0 s xs hw hh hx=>?_⟩
 subst hh
 exact (hp.2 _ (s.hideO O) xs (hw.hideO hO) rfl ((R2s.ext (Ext.hideO hO hw) args).1 _ hx)).mono fun e w' he=>he.give hO hw
theorem PCallV.frameO {f:PV} {args:List PV} (hO:∀ i,O i=true→∃ b,h.get i=some b∧b.isOwn=false) (hp:PCallV P f args (h.hide O) R X) :
  PCallV P f args h (fun v h'=>∃ h1,R v h1∧(h1.Ok∧∀ i,O i=true→h1.get i=none)∧h'=h1.give h O) (fun v h'=>∃ h1,X v h1∧(h1.Ok∧∀ i,O i=true→h1.get i=none)∧h'=h1.give h O):=by
 intro w0 s fn xf xc xs hw hh hf hx
 subst hh
 have:=hp _ (s.hideO O) fn xf xc xs (hw.hideO hO) rfl ((R2.ext (Ext.hideO hO hw) f).1 _ hf) ((R2s.ext (Ext.hideO hO hw) args).1 _ hx)
 have hw':(s.hideO O).w=s.w:=rfl
 rw [hw'] at this
 revert this
 generalize (invoke (.fn fn xc) (xf++xs)).run P s.w=r
 intro this
 cases r with
 |halt x w=>exact this
 |ok nx w =>
  cases nx<;>try exact this
  ·exact Calls.mono this fun _ _ he=>he.give hO hw
  ·intro c cs
   rcases this c cs with ⟨v,w',h1,h2⟩ | ⟨ch,w',h1,h2⟩
   ·exact .inl ⟨v,w',h1.give hO hw,h2⟩
   ·exact .inr ⟨ch,w',h1.give hO hw,h2⟩
end
def keysB:HL→Nat→Bool
 |[],_=>false
 |(j,_)::l,i=>match Nat.beq i j with
  |true=>true
  |false=>keysB l i
theorem keysB_app {own l:HL}:∀ i,hget (own++l) i=if keysB own i=true then hget own i else hget l i:=by
 intro i
 induction own with
 |nil=>simp [keysB]
 |cons p own ih =>
  obtain ⟨j,b⟩:=p
  by_cases h:i=j
  ·subst h
   simp [hget,keysB]
  ·have hb:Nat.beq i j=false:=by
    cases hb:Nat.beq i j with
    |true=>exact absurd (Nat.eq_of_beq_eq_true hb) h
    |false=>rfl
   simp only [List.cons_append,hget,keysB,hb]
   exact ih
def Owns (own l:HL):Prop:=(∀ i,keysB own i=true→∃ cs,hget own i=some (.cells cs))∧∀ i,keysB own i=true→hget l i=none
theorem Owns.hide {own l:HL} {n:Nat} (ho:Owns own l):(HE n (own++l)).hide (keysB own)=HE n l:=by
 unfold PH.hide HE
 congr 1
 funext i
 simp only [keysB_app]
 split
 ·next h=>exact (ho.2 i h).symm
 ·rfl
theorem Owns.give {own l l':HL} {n m:Nat}:(HE m l').give (HE n (own++l)) (keysB own)=HE m (own++l'):=by
 unfold PH.give HE
 congr 1
 funext i
 simp only [keysB_app]
 split<;>rfl
theorem Owns.hid {own l:HL} {n:Nat} (ho:Owns own l):∀ i,keysB own i=true→∃ b,(HE n (own++l)).get i=some b∧b.isOwn=false:=by
 intro i hi
 obtain ⟨cs,hcs⟩:=ho.1 i hi
 refine ⟨.cells cs,?_,rfl⟩
 show hget (own++l) i=some (.cells cs)
 rw [keysB_app,if_pos hi,hcs]
section
variable {P:Program} {own l:HL} {n:Nat}
theorem PCallV.owned {f:PV} {args:List PV} {R:PV→PH→Prop} {X:PV→PH→Prop} (ho:Owns own l) (hp:PCallV P f args (HE n l) R fun _ _=>False) {K:PV→PH→Prop}
  (hK:∀ v m l',(HE m l').Ok→(∀ i,keysB own i=true→hget l' i=none)→R v (HE m l')→K v (HE m (own++l'))) (hR:∀ v h,R v h→∃ m l',h=HE m l'):PCallV P f args (HE n (own++l)) K X:=by
 rw [← ho.hide] at hp
 refine (PCallV.frameO ho.hid hp).mono ?_ ?_
 ·rintro v h' ⟨h1,r1,r2,rfl⟩
  obtain ⟨m,l',rfl⟩:=hR v h1 r1
  rw [Owns.give]
  exact hK v m l' r2.1 r2.2 r1
 ·rintro v h' ⟨h1,r1,_⟩
  exact r1.elim
end
section
variable {C:Cx} {F:EQ} {X:EX} {k:List KI} {e:EL} {ds:List Nat} {K:PV→PH→Prop} {n:Nat} {own l:HL}
variable {d:Option Tmp} {type:TypeId} {pos:String} {after:Array Edge} {guard:Option (Nat×Bool)}
theorem Ope.yld {f:Operand} {args:Array Operand} {tys:Array TypeId} {j:Nat} {v:PV} {vs:List PV} {R:PV→PH→Prop} (hf:pev (lget e) f=some (.yld j)) (ha:pargs (pev (lget e)) args.toList=some [v]) (ho:Owns own l)
  (hy:Feed C.P (.yld j) R (v::vs) n l) (hK1:∀ m l',n≤m→(HE m l').Ok→(∀ i,keysB own i=true→hget l' i=none)→Feed C.P (.yld j) R vs m l'→K (B true) (HE m (own++l'))) (hK2:∀ m l',n≤m→(HE m l').Ok→(∀ i,keysB own i=true→hget l' i=none)→(∀ m2,m≤m2→∀ u,R u (HE m2 l'))→K (B false) (HE m (own++l'))) :
  Ope C X { dst:=d,op:=.call { callee:=.value f,args,argTypes:=tys },type,pos,after,guard } e ds (HE n (own++l)) K:=by
 unfold Ope
 simp only [pop,pkind,pcallO,ha,hf,pcallF]
 refine ⟨rfl,PCallV.owned ho (hy n (Nat.le_refl _)) ?_ ?_⟩
 ·rintro b m l' hok hno ⟨m1,l1,e1,hm,hb⟩
  obtain ⟨rfl,e2⟩:m=m1∧hget l'=hget l1:=by
   have:=e1
   simp only [HE,PH.mk.injEq] at this
   exact ⟨this.2,this.1⟩
  have e3:∀ q,HE q l'=HE q l1:=fun q=>by simp only [HE,e2]
  have e4:HE m (own++l')=HE m (own++l1):=by
   simp only [HE,PH.mk.injEq,and_true]
   funext i
   rw [keysB_app,keysB_app,e2]
  rw [e4]
  rw [e3] at hok
  simp only [e2] at hno
  rcases hb with ⟨rfl,hf⟩ | ⟨rfl,hf⟩
  ·exact hK1 m l1 hm hok hno hf
  ·exact hK2 m l1 hm hok hno hf
 ·rintro b h ⟨m1,l1,e1,_⟩
  exact ⟨m1,l1,e1⟩
theorem Ope.loadH {t:TypeId} {a:Operand} {agg:Bool} {sz i o:Nat} {v:PV} {cs:List PV} [ht:Ty C.A t agg sz] (ha:pev (lget e) a=some (.ptr i o)) (hg:hget l i=some (.cells cs)) (hv:partK agg o sz cs=some v) (hK:K v (HE n l)) :
  Ope C X { dst:=d,op:=.load t a,type,pos,after,guard } e ds (HE n l) K :=
 Ope.load ha (by simp only [loadK,hg];exact hv) hK
end
theorem ok_none {m i:Nat} {l:HL} (h:(HE m l).Ok) (hi:m≤i):hget l i=none:=by
 cases hg:hget l i with
 |none=>rfl
 |some b =>
  have h1:i < m:=(h i b hg).1
  omega
theorem hs_own {own l:HL} (h:∀ i,keysB own i=true→hget l i=none):∀ i b,hget l i=some b→hget (own++l) i=some b:=by
 intro i b hi
 rw [keysB_app]
 split
 ·next hk=>rw [h i hk] at hi;cases hi
 ·exact hi
theorem Owns.of {own l:HL} (h1:∀ p∈own,∃ cs,p.2=some (.cells cs)) (h2:∀ p∈own,hget l p.1=none):Owns own l:=by
 induction own with
 |nil=>exact ⟨fun i hi=>(by cases hi),fun i hi=>(by cases hi)⟩
 |cons p own ih =>
  obtain ⟨j,b⟩:=p
  obtain ⟨i1,i2⟩:=ih (fun p hp=>h1 p (List.mem_cons_of_mem _ hp)) fun p hp=>h2 p (List.mem_cons_of_mem _ hp)
  refine ⟨fun i hi=>?_,fun i hi=>?_⟩
  ·by_cases h:i=j
   ·subst h
    obtain ⟨cs,hcs⟩:=h1 (i,b) (by simp)
    exact ⟨cs,by rw [hget_hd];exact hcs⟩
   ·simp only [keysB] at hi
    rw [hget_tl h]
    split at hi
    ·next hb=>exact absurd (Nat.eq_of_beq_eq_true hb) h
    ·exact i1 i hi
  ·by_cases h:i=j
   ·subst h
    exact h2 (i,b) (by simp)
   ·simp only [keysB] at hi
    split at hi
    ·next hb=>exact absurd (Nat.eq_of_beq_eq_true hb) h
    ·exact i2 i hi
theorem hs_keep {l l':HL} (h:∀ i b,hget l' i=some b→hget l i=some b) {n:Nat} {x:Option PBlk}:∀ i b,hget ((n,x)::l') i=some b→hget ((n,x)::l) i=some b:=by
 intro i b hi
 by_cases hn:i=n
 ·subst hn
  rw [hget_hd] at hi ⊢
  exact hi
 ·rw [hget_tl hn] at hi ⊢
  exact h i b hi
theorem Feed.mono {P:Program} {y:PV} {R:PV→PH→Prop} {n n':Nat} {l:HL} (hn:n≤n'):∀ {vs:List PV},Feed P y R vs n l→Feed P y R vs n' l
 |[],h=>fun m hm=>h m (Nat.le_trans hn hm)
 |_::_,h=>fun m hm=>h m (Nat.le_trans hn hm)
theorem keysB_mem {j:Nat} {b:Option PBlk}:∀ {own:HL},(j,b)∈own→keysB own j=true
 |[],h=>by cases h
 |(i, c) :: own, h => by
  simp only [keysB]
  split
  ·rfl
  ·next hb =>
   rcases List.mem_cons.1 h with h | h
   ·cases h
    simp at hb
   ·exact keysB_mem h
theorem hs_shadow {l:HL} {n:Nat} {x y:Option PBlk}:∀ i b,hget ((n,x)::l) i=some b→hget ((n,x)::(n,y)::l) i=some b:=by
 intro i b hi
 by_cases h:i=n
 ·subst h
  rw [hget_hd] at hi ⊢
  exact hi
 ·rw [hget_tl h] at hi ⊢
  rw [hget_tl h]
  exact hi
section
variable {C:Cx} {F:EQ} {X:EX} {k:List KI} {e:EL} {ds:List Nat} {n m:Nat} {l l':HL}
theorem Run.wideS {c:Code} (hn:n≤m) (hs:∀ i b,hget l' i=some b→hget l i=some b) (hr:Run C F X (.c c::k) e ds (HE m l')):Run C F X (.c c::k) e ds (HE n l) :=
 Run.ghost (fun t ht=>⟨t,ht,Ghost.wide (h:=HE n l) (h':=HE m l') hn fun i b hi=>hs i b hi⟩) hr
end
end Go.Pv
namespace Go.Pv
open Go.Am Go.RowKit
theorem PGh.wide {n:Nat} {h h':PH} {v:PV} (hn:h.next≤h'.next) (hs:∀ i b,h'.get i=some b→h.get i=some b):PGh n h v h' v:=by
 intro w0 s0 s x _ hw hx hh hv
 subst hh
 exact ⟨s.wide h',rfl,hw.wide hn hs,hx.trans (Ext.wide hn),rfl,(R2.ext (Ext.wide hn) v).1 _ hv⟩
def FinH (C:Cx) (fn:Func) (n:Nat) (R:PV→PH→Prop):EQ:=fun x e ds h =>
 match x with
 |.normal=>Undo ds h∧∃ vs,presults C.A (unds ds h) (lget e) fn.results.toList=some vs∧PCut n (pone vs) (unds ds h) R
 |.jump .ret=>Undo ds h∧∃ vs,presults C.A (unds ds h) (lget e) fn.results.toList=some vs∧PCut n (pone vs) (unds ds h) R
 |_=>False
def FinHX (n:Nat) (X:PV→PH→Prop):EX:=fun ds v h=>Undo ds h∧PCut n v (unds ds h) X
section
variable {C:Cx} {F:EQ} {X:EX} {k:List KI} {e:EL} {ds:List Nat} {h:PH} {n m:Nat} {l l':HL}
theorem PCall.ofH (hC:C.Ok) (hr:C.rnd=none) {fn:Func} (hf:C.A.funcs.get C.fi=some fn) {c:Code} (hc:fn.body=some c) (hs:C.sz=fn.ntmps) {args:List PV} (hle:Nat.ble args.length fn.ntmps=true) {R Y:PV→PH→Prop}
  (hrun:(HE n l).Ok→Run C (FinH C fn n R) (FinHX n Y) [.c c] (argE args 0) [] (HE n l)):PCall C.P C.fi args (HE n l) R Y:=by
 refine PCall.intro hC.A hf hc hle fun hok=>?_
 have h1:=(hrun hok).wp (t:=T.ofList args 0 .nil) fun i v hi=>by
  rw [argE_get] at hi
  rw [T.get_ofList]
  simp only [Nat.zero_le,if_true,Nat.sub_zero] at hi
  have:=(List.getElem?_eq_some_iff.1 hi).1
  rw [if_pos (by omega),Nat.sub_zero]
  exact hi
 rw [Cx.wp,hs,hr] at h1
 refine PWP.mono h1 ?_ ?_
 ·intro x t ds h ⟨e,he,hf⟩
  have key:(Undo ds h∧∃ vs,presults C.A (unds ds h) (lget e) fn.results.toList=some vs∧PCut n (pone vs) (unds ds h) R)→PRet C.A fn n R t ds h:=by
   rintro ⟨q1,vs,q2,q3⟩
   refine ⟨q1,?_⟩
   rw [presults_sub he q2]
   exact q3
  cases x with
  |normal=>exact key hf
  |jump j=>cases j<;>first | exact hf.elim | exact key hf
 ·intro t ds v h hx
  exact hx
theorem finH_ret {fn:Func} {R:PV→PH→Prop} {vs:List PV} (hv:Res C.A e l fn.results.toList vs) {m':Nat} (hn:m≤m') (hs:∀ i b,hget l' i=some b→hget l i=some b) (hR:R (pone vs) (HE m' l')):Jmp C (FinH C fn n R) X [] .ret e [] (HE m l) :=
 Jmp.done ⟨trivial,vs,hv.get,HE m' l',pone vs,PGh.wide hn hs,hR⟩
theorem finH_end {fn:Func} {R:PV→PH→Prop} {vs:List PV} (hv:Res C.A e l fn.results.toList vs) {m':Nat} (hn:m≤m') (hs:∀ i b,hget l' i=some b→hget l i=some b) (hR:R (pone vs) (HE m' l')):Run C (FinH C fn n R) X [] e [] (HE m l) :=
 Run.done ⟨trivial,vs,hv.get,HE m' l',pone vs,PGh.wide hn hs,hR⟩
theorem fin_retD {fn:Func} {R:PV→Prop} {vs:List PV} {i:Nat} (hd:hget l i=some .dfr) (hv:Res C.A e ((i,none)::l) fn.results.toList vs) (hb:(pone vs).bd 0=true) (hR:R (pone vs)):Jmp C (FinF C fn R) X [] .ret e [i] (HE m l):=by
 refine Jmp.done ⟨⟨hd,trivial⟩,vs,?_,?_⟩
 ·simp only [unds,HE_del]
  exact hv.get
 ·exact ⟨_,_,PGh.cut hb (by rw [PH.cut_zero];exact PH.nil_ok),by rw [PH.cut_zero],hR⟩
end
theorem Cx.Ok.rnd {C:Cx} (h:C.Ok) {r:Option Nat}:({ C with rnd:=r }:Cx).Ok:=⟨h.A,h.E,h.f⟩
theorem hs_skip {l l':HL} (h:∀ i b,hget l' i=some b→hget l i=some b) {n:Nat} {x:Option PBlk} (hn:hget l' n=none):∀ i b,hget l' i=some b→hget ((n,x)::l) i=some b:=by
 intro i b hi
 by_cases h1:i=n
 ·subst h1
  rw [hn] at hi
  cases hi
 ·rw [hget_tl h1]
  exact h i b hi
theorem hs_refl {l:HL}:∀ i b,hget l i=some b→hget l i=some b:=fun _ _ h=>h
theorem bds_map {α:Type} {f:α→PV} (hf:∀ a,(f a).bd 0=true):∀ xs:List α,PV.bds 0 (xs.map f)=true
 |[]=>rfl
 |x::xs=>by simp only [List.map_cons,PV.bds,hf,bds_map hf xs,Bool.and_self]
theorem bd_sl {α:Type} {f:α→PV} {tl:Tail} (htl:tl.isOwn=false) (hf:∀ a,(f a).bd 0=true) (xs:List α):(PV.sl tl (xs.map f)).bd 0=true:=by
 cases tl<;>simp only [Tail.isOwn,Bool.true_eq_false] at htl<;>simp [PV.bd,bds_map hf]
end Go.Pv
namespace Go.Pv
open Go.Am Go.RowKit
theorem PTail.less {A:AP} {P:Program} {g:FuncId} {fn:Func} {n:Nat} {R X:PV→PH→Prop} {c:Code} {t t':T PV} {h:PH} (hp:PTail A P g fn n R X c t' h) (ht:∀ i v,t'.get i=some v→t.get i=some v):PTail A P g fn n R X c t h :=
 fun w0 s0 s arr cs h1 h2 h3 h4 h5 h6=>hp w0 s0 s arr cs h1 h2 h3 h4 (fun i v hi=>h5 i v (ht i v hi)) h6
def Til (C:Cx) (fn:Func) (n:Nat) (R X:PV→PH→Prop) (c:Code) (e:EL) (h:PH):Prop:=PTail C.A C.P C.fi fn n R X c (TE e) h
section
variable {C:Cx} {fn:Func} {n:Nat} {R X:PV→PH→Prop} {e:EL} {h:PH}
theorem PCall.ofT (hC:C.Ok) (hf:C.A.funcs.get C.fi=some fn) {c:Code} (hc:fn.body=some c) {args:List PV} (hle:Nat.ble args.length fn.ntmps=true) (hp:Til C fn h.next R X c (argE args 0) h):PCall C.P C.fi args h R X:=by
 refine PCall.introT hC.A hf hc hle fun _=>PTail.less hp fun i v hi=>?_
 rw [TE_get,argE_get] at hi
 rw [T.get_ofList]
 simp only [Nat.zero_le,if_true,Nat.sub_zero] at hi
 have:=(List.getElem?_eq_some_iff.1 hi).1
 rw [if_pos (by omega),Nat.sub_zero]
 exact hi
theorem Til.seq (hs:C.sz=fn.ntmps) (hr:C.rnd=none) {x y:Code} (hx:Run C (fun q e ds h=>q=.normal∧ds=[]∧Til C fn n R X y e h) (fun _ _ _=>False) [.c x] e [] h):Til C fn n R X (.seq x y) e h:=by
 have h1:=hx.wp (t:=TE e) (Sub.refl e)
 rw [Cx.wp,hs,hr] at h1
 refine PTail.seq (PWP.mono h1 ?_ fun _ _ _ _ h=>h)
 rintro q t ds h' ⟨e',hsub,rfl,rfl,ht⟩
 exact ⟨rfl,PTail.less ht fun i v hi=>by rw [TE_get] at hi;exact hsub i v hi⟩
def ResE (C:Cx) (fn:Func) (n:Nat) (R:PV→PH→Prop) (e:EL) (h:PH):Prop:=∃ vs,presults C.A h (lget e) fn.results.toList=some vs∧PCut n (pone vs) h R
theorem ResE.res {t:T PV} (hs:Sub e t) (hr:ResE C fn n R e h):PRes C.A fn n R t h:=by
 obtain ⟨vs,h1,h2⟩:=hr
 unfold PRes
 rw [presults_sub hs h1]
 exact h2
theorem PDefer.mono {A:AP} {P:Program} {gd:FuncId} {caps:List PV} {rec:PV} {K K':PH→Prop} (hd:PDefer A P gd caps rec h K) (hK:∀ h,K h→K' h):PDefer A P gd caps rec h K':=by
 obtain ⟨fd,id,o,dr,z,h1,h2,h3,h4,h5,h6,h7,h8,h9⟩:=hd
 refine ⟨fd,id,o,dr,z,h1,h2,h3,h4,h5,h6,h7,h8,PWP.mono h9 ?_ fun _ _ _ _ h=>h⟩
 intro x t ds h' hx
 cases x with
 |normal=>exact ⟨hx.1,hK _ hx.2⟩
 |jump j=>cases j<;>first | exact hx.elim | exact ⟨hx.1,hK _ hx.2⟩
def FinD (K:PH→Prop):EQ:=fun x _ ds h=>(x=.normal∨x=.jump .ret)∧Undo ds h∧K (unds ds h)
theorem PDefer.of {fd:Func} {id:Nat} {o:Oper} {dr:Nat} {z:Code} {caps:List PV} {rec:PV} {K:PH→Prop} {cl:Call} (hf:C.A.funcs.get C.fi=some fd) (hb:fd.body=some (.seq (.region id #[o] false) z)) (hd:o.dst=some dr) (hg:o.guard=none) (ho:o.op=.call cl)
  (hcl:cl.callee=.builtin .recover) (hr:fd.results=#[]) (hle:Nat.ble caps.length fd.ntmps=true) (hlt:Nat.blt dr fd.ntmps=true) (hs:C.sz=fd.ntmps) (hrn:C.rnd=none)
  (hz:Run C (FinD K) (fun _ _ _=>False) [.c z] ((dr,rec)::argE caps 0) [] h):PDefer C.A C.P C.fi caps rec h K:=by
 refine ⟨fd,id,o,dr,z,hf,hb,hd,hg,⟨cl,ho,hcl⟩,hr,by rw [Nat.ble_eq] at hle;exact hle,(T.blt_iff _ _).1 hlt,?_⟩
 have h1:=hz.wp (t:=(T.ofList caps 0 .nil).set dr rec) fun i v hi=>by
  simp only [lget] at hi
  rw [T.get_set]
  split at hi
  ·next hb=>rw [if_pos (Nat.eq_of_beq_eq_true hb)];exact hi
  ·next hb =>
   rw [if_neg (fun c=>by subst c;simp at hb)]
   rw [argE_get] at hi
   rw [T.get_ofList]
   simp only [Nat.zero_le,if_true,Nat.sub_zero] at hi
   have:=(List.getElem?_eq_some_iff.1 hi).1
   rw [if_pos (by omega),Nat.sub_zero]
   exact hi
 rw [Cx.wp,hs,hrn] at h1
 refine PWP.mono h1 ?_ fun _ _ _ _ h=>h
 rintro x t ds h' ⟨e',_,hx,h2,h3⟩
 rcases hx with rfl | rfl
 ·exact ⟨h2,h3⟩
 ·exact ⟨h2,h3⟩
theorem preg_mono {A:AP} {P:Program} {E:Eqs} {M:Nat→Bool} {sz:Nat} {all:List Oper} {K K':T PV→PH→Prop} {X X':PV→PH→Prop} (hK:∀ t h,K t h→K' t h) (hX:∀ v h,X v h→X' v h):∀ (os:List Oper) (t:T PV) (h:PH),preg A E P M sz all os t h K X→preg A E P M sz all os t h K' X'
 |[],t,h,hp=>hK t h hp
 |o :: os, t, h, hp => by
  have op:pop A E P M t.get h o (fun v h'=>preg A E P M sz all os (tput t o.dst v) h' K X) X→pop A E P M t.get h o (fun v h'=>preg A E P M sz all os (tput t o.dst v) h' K' X') X' :=
   fun hq=>pop_mono hq (fun v h' hv=>preg_mono hK hX os _ _ hv) hX
  have sk:preg A E P M sz all os (tput t o.dst (.tup [])) h K X→preg A E P M sz all os (tput t o.dst (.tup [])) h K' X':=preg_mono hK hX os _ _
  simp only [preg] at hp ⊢
  split at hp
  ·exact hp
  ·split at hp
   ·exact op hp
   ·split at hp
    ·exact hp
    ·split at hp
     ·exact hp
     ·split at hp
      ·split at hp
       ·exact hp.mono op sk
       ·exact hp.mono sk op
      ·exact sk hp
      ·exact hp
theorem tless_keep {i:Nat}:∀ (os:List Oper) (t:T PV),os.all (fun o=>match o.dst with | some d=>!Nat.beq d i | none=>true)=true→(tless t os).get i=t.get i
 |[],_,_=>rfl
 |o::os,t,h=>by
  simp only [List.all_cons,Bool.and_eq_true] at h
  simp only [tless]
  cases hd:o.dst with
  |none=>exact tless_keep os t h.2
  |some d =>
   have h1:=h.1
   rw [hd] at h1
   simp only [Bool.not_eq_true'] at h1
   have hne:i≠d:=fun e=>by subst e;simp at h1
   simp only []
   rw [tless_keep os (t.del d) h.2,T.get_del,if_neg hne]
theorem Til.defer (hC:C.Ok) (hs:C.sz=fn.ntmps) (hr:C.rnd=none) (hf:C.A.funcs.get C.fi=some fn) {id id2:Nat} {mk df:Oper} {ops:Array Oper} {c:Call} {f:Operand} {gd dm:Nat} {caps:List PV} (e0:EL)
  (hmd:mk.dst=some dm) (hml:Nat.blt dm fn.ntmps=true) (hmg:mk.guard=none) (hdg:df.guard=none) (hdd:df.dst=none) (hop:df.op=.defer c) (hcal:c.callee=.value f) (hargs:c.args=#[])
  (hmk:Ope C (fun _ _ _=>False) mk e [] h fun v h'=>h'=h∧v=.fn (.func gd) [] caps) (hfv:pev (lget ((dm,.fn (.func gd) [] caps)::e)) f=some (.fn (.func gd) [] caps))
  (he0:e0.all (fun p=>ops.toList.all (fun o=>match o.dst with | some d=>!Nat.beq d p.1 | none=>true))=true) (he1:Lsub e0 ((dm,.fn (.func gd) [] caps)::e))
  (hreg:Reg C (fun q e ds h=>q=.normal∧Undo ds h∧PDefer C.A C.P gd caps (.lit .nilifc) (unds ds h) (ResE C fn n R e)) (fun ds v h=>Undo ds h∧PDefer C.A C.P gd caps v (unds ds h) (ResE C fn n R e0)) [] ops.toList ops.toList ((dm,.fn (.func gd) [] caps)::e) [] h) :
  Til C fn n R X (.seq (.region id #[mk,df] false) (.seq (.region id2 ops false) .ret)) e h:=by
 have hget:(tput (TE e) mk.dst (.fn (.func gd) [] caps)).get=lget ((dm,.fn (.func gd) [] caps)::e):=by
  rw [hmd]
  exact put_get (TE_getf e) dm _
 refine PTail.defer (M:=C.M) (gd:=gd) (caps:=caps) (f:=f) hC.A hC.E hf (by rw [hmd];exact hml) hmg hdg hdd hop hcal hargs ?_ (by rw [hget];exact hfv) ?_
 ·unfold Ope at hmk
  rw [TE_getf]
  exact hmk
 ·refine PWP.seq (PWP.region (M:=C.M) hC.A hC.E ?_)
  unfold Reg at hreg
  have h1:=hreg _ hget
  rw [hs] at h1
  refine preg_mono ?_ ?_ _ _ _ h1
  ·rintro t' h' ⟨e',hsub,_,hu,hd⟩
   exact PWP.jump (j:=.ret) trivial ⟨hu,hd.mono fun _ hres=>hres.res hsub⟩
  ·rintro v h' ⟨hu,hd⟩
   refine ⟨hu,hd.mono fun _ hres=>hres.res fun i u hi=>?_⟩
   have hmem:∃ p∈e0,p.1=i:=by
    clear he0 he1 hres hd hu hreg h1
    induction e0 with
    |nil=>cases hi
    |cons p l ih =>
     obtain ⟨j,w⟩:=p
     simp only [lget] at hi
     split at hi
     ·next hb=>exact ⟨(j,w),by simp,(Nat.eq_of_beq_eq_true hb).symm⟩
     ·obtain ⟨p,h1,h2⟩:=ih hi
      exact ⟨p,List.mem_cons_of_mem _ h1,h2⟩
   obtain ⟨p,hp,rfl⟩:=hmem
   rw [tless_keep _ _ (List.all_eq_true.1 he0 p hp),hget]
   exact he1.get hi
theorem ResE.ofF {R:PV→Prop} {vs:List PV} {m:Nat} {l:HL} (hv:Res C.A e l fn.results.toList vs) (hb:(pone vs).bd 0=true) (hR:R (pone vs)):ResE C fn 0 (fun v h=>h=.nil∧R v) e (HE m l) :=
 ⟨vs,hv.get,_,_,PGh.cut hb (by rw [PH.cut_zero];exact PH.nil_ok),by rw [PH.cut_zero],hR⟩
end
end Go.Pv
namespace Go.Pv
open Go.Am Go.RowKit
section
variable {C:Cx} {F:EQ} {X:EX} {k:List KI} {e:EL} {ds:List Nat} {h:PH} {K:PV→PH→Prop} {n:Nat} {l:HL}
variable {d:Option Tmp} {type:TypeId} {pos:String} {after:Array Edge} {guard:Option (Nat×Bool)}
end
end Go.Pv
namespace Go.Pv
open Go.Am Go.RowKit
class Cnd (q:Bool) (p1 p2:outParam Prop):Prop where
 t:q=true→p1
 f:q=false→p2
instance (priority:=100) {q:Bool}:Cnd q (q=true) (q=false):=⟨id,id⟩
instance (priority:=500) {q:Bool}:Cnd (!q) (q=false) (q=true):=⟨fun h=>by simpa using h,fun h=>by simpa using h⟩
instance (priority:=1000) {p:Prop} [Decidable p]:Cnd (decide p) p (¬p):=⟨of_decide_eq_true,of_decide_eq_false⟩
instance (priority:=1000) {p:Prop} [Decidable p]:Cnd (!decide p) (¬p) p:=⟨fun h=>by simpa using h,fun h=>by simpa using h⟩
section
variable {C:Cx} {F:EQ} {X:EX} {k:List KI} {e:EL} {ds:List Nat} {h:PH}
theorem Run.condX {c:Operand} {x y:Code} {q:Bool} {p1 p2:Prop} [hq:Cnd q p1 p2] (hc:pev (lget e) c=some (B q)) (hx:p1→Run C F X (.c x::k) e ds h) (hy:p2→Run C F X (.c y::k) e ds h):Run C F X (.c (.cond c x y)::k) e ds h :=
 Run.cond hc (fun h=>hx (hq.t h)) fun h=>hy (hq.f h)
theorem Reg.splitX {w q:Bool} {j dj:Nat} {d:Option Nat} {op:Op} {type:TypeId} {pos:String} {after:Array Edge} {all os:List Oper} {p1 p2:Prop} [hq:Cnd q p1 p2] (hj:gdst all j=some dj) (hv:lget e dj=some (B q))
  (h1:p1→Reg C F X k all ({ dst:=d,op,type,pos,after,guard:=some (j,w) }::os) ((dj,B true)::e) ds h)
  (h2:p2→Reg C F X k all ({ dst:=d,op,type,pos,after,guard:=some (j,w) }::os) ((dj,B false)::e) ds h):Reg C F X k all ({ dst:=d,op,type,pos,after,guard:=some (j,w) }::os) e ds h :=
 Reg.split hj hv (fun h=>h1 (hq.t h)) fun h=>h2 (hq.f h)
theorem Dra.splitX {w q:Bool} {i j dj:Nat} {b:Bool} {o:Oper} {all:List Oper} {od:List (Nat×Bool)} {p1 p2:Prop} [hq:Cnd q p1 p2] (hi:nthK all i=some o) (hg:o.guard=some (j,w)) (hj:gdst all j=some dj) (hv:lget e dj=some (B q))
  (h1:p1→Dra C F X k all ((i,b)::od) ((dj,B true)::e) ds h) (h2:p2→Dra C F X k all ((i,b)::od) ((dj,B false)::e) ds h):Dra C F X k all ((i,b)::od) e ds h :=
 Dra.split' hi hg hj hv (fun h=>h1 (hq.t h)) fun h=>h2 (hq.f h)
end
end Go.Pv
namespace Go.Pv
open Go.Proofs Go.Am
set_option maxRecDepth 10000
theorem f164 (a b c d:Int) (h0:-100≤c∧c≤100) (h1:-100≤d∧d≤100):Fn P0 164 [.agg [I a,I b,I c,I d]] (I (c+d)):=by
  refine PFun.of (C:=c164) (cx_ok _ _ _) rfl (fn:=Tryz.f164) (by kernel_rfl) (c:=_) rfl rfl rfl ?_
  refine Run.seq (Run.region (cx_ok _ _ _) (Reg.op rfl (Ope.boxF rfl rfl ?_)))
  refine Reg.op rfl (Ope.asg rfl ?_)
  refine Reg.nil (Run.seq (Run.region (cx_ok _ _ _) (Reg.op rfl (Ope.fld rfl rfl ?_))))
  refine Reg.op rfl (Ope.idxA rfl rfl rfl rfl ?_)
  refine Reg.op rfl (Ope.load rfl rfl ?_)
  refine Reg.op rfl (Ope.fld rfl rfl ?_)
  refine Reg.op rfl (Ope.idxA rfl rfl rfl rfl ?_)
  refine Reg.op rfl (Ope.load rfl rfl ?_)
  refine Reg.op rfl (Ope.add rfl rfl (by omega) ?_)
  refine Reg.op rfl (Ope.asg rfl ?_)
  exact Reg.nil (Run.ret (fin_ret (.tmp rfl .nil) rfl rfl))
theorem f71 (a:Int):Fn P0 71 [I a] (B (decide (a=0) || decide (a=1))):=by
  refine PFun.of (C:=c71) (cx_ok _ _ _) rfl (fn:=Tryz.f71) (by kernel_rfl) (c:=_) rfl rfl rfl ?_
  refine Run.seq (Run.region (cx_ok _ _ _) (Reg.op rfl (Ope.asg rfl ?_)))
  refine Reg.nil (Run.seq (Run.region (cx_ok _ _ _) (Reg.op rfl (Ope.mov rfl ?_))))
  refine Reg.op rfl (Ope.eq rfl rfl ?_)
  refine Reg.op rfl (Ope.mov rfl ?_)
  refine Reg.splitX rfl rfl (fun hg=>?_) fun hg=>?_
  ·refine Reg.off rfl rfl rfl (Reg.off rfl rfl rfl (Reg.op rfl (Ope.pickT rfl rfl ?_)))
   refine Reg.op rfl (Ope.asg rfl ?_)
   refine Reg.nil (Run.ret (fin_ret (.tmp rfl .nil) rfl ?_))
   simp [pone, *]
  ·refine Reg.on rfl rfl rfl (Ope.mov rfl ?_)
   refine Reg.on rfl rfl rfl (Ope.eq rfl rfl ?_)
   refine Reg.op rfl (Ope.pickF rfl rfl ?_)
   refine Reg.op rfl (Ope.asg rfl ?_)
   refine Reg.nil (Run.ret (fin_ret (.tmp rfl .nil) rfl ?_))
   simp [pone, *]
theorem f107 (a b c d a' b' c' d':Int) (h0:-100≤c'∧c'≤100) (h1:-100≤d'∧d'≤100):Fn P0 107 [.agg [I a,I b,I c,I d,I a',I b',I c',I d']] (I (c'+d')):=by
  refine PFun.of (C:=c107) (cx_ok _ _ _) rfl (fn:=Tryz.f107) (by kernel_rfl) (c:=_) rfl rfl rfl ?_
  refine Run.seq (Run.region (cx_ok _ _ _) (Reg.op rfl (Ope.boxF rfl rfl ?_)))
  refine Reg.op rfl (Ope.asg rfl ?_)
  refine Reg.nil (Run.seq (Run.region (cx_ok _ _ _) (Reg.op rfl (Ope.fld rfl rfl ?_))))
  refine Reg.op rfl (Ope.load rfl rfl ?_)
  refine Reg.op rfl (Ope.cf rfl rfl (f164 _ _ _ _ (by omega) (by omega)) rfl ?_)
  refine Reg.op rfl (Ope.asg rfl ?_)
  exact Reg.nil (Run.ret (fin_ret (.tmp rfl .nil) rfl rfl))
theorem f73 (a b c:Int):Fn P0 73 [I a,I b,I c] (B (decide (b≤a) && decide (a≤c))):=by
  refine PFun.of (C:=c73) (cx_ok _ _ _) rfl (fn:=Tryz.f73) (by kernel_rfl) (c:=_) rfl rfl rfl ?_
  refine Run.seq (Run.region (cx_ok _ _ _) (Reg.op rfl (Ope.asg rfl ?_)))
  refine Reg.nil (Run.seq (Run.region (cx_ok _ _ _) (Reg.op rfl (Ope.mov rfl ?_))))
  refine Reg.op rfl (Ope.mov rfl ?_)
  refine Reg.op rfl (Ope.le rfl rfl ?_)
  refine Reg.op rfl (Ope.mov rfl ?_)
  refine Reg.splitX rfl rfl (fun hg=>?_) fun hg=>?_
  ·refine Reg.on rfl rfl rfl (Ope.mov rfl ?_)
   refine Reg.on rfl rfl rfl (Ope.mov rfl ?_)
   refine Reg.on rfl rfl rfl (Ope.le rfl rfl ?_)
   refine Reg.op rfl (Ope.pickT rfl rfl ?_)
   refine Reg.op rfl (Ope.asg rfl ?_)
   refine Reg.nil (Run.ret (fin_ret (.tmp rfl .nil) rfl ?_))
   simp [pone, *]
  ·refine Reg.off rfl rfl rfl (Reg.off rfl rfl rfl (Reg.off rfl rfl rfl (Reg.op rfl (Ope.pickF rfl rfl ?_))))
   refine Reg.op rfl (Ope.asg rfl ?_)
   refine Reg.nil (Run.ret (fin_ret (.tmp rfl .nil) rfl ?_))
   simp [pone, *]
theorem f191 (r n t0 t1 x:Int) (hx:x=0∨x=1) (hr:0≤n∧n≤100) (h0:-100≤t0∧t0≤99) (h1:-100≤t1∧t1≤99) :
    Fn P0 191 [.agg [I r,I n,I t0,I t1],I x] (.agg [I x,I (if x=r then n+1 else 1),I (if x=0 then t0+1 else t0),I (if x=1 then t1+1 else t1)]):=by
  rcases hx with rfl | rfl
  all_goals
    refine PFun.of (C:=c191) (cx_ok _ _ _) rfl (fn:=Tryz.f191) (by kernel_rfl) (c:=_) rfl rfl rfl ?_
    refine Run.seq (Run.region (cx_ok _ _ _) (Reg.op rfl (Ope.boxL rfl rfl ?_)))
    refine Reg.op rfl (Ope.newL rfl ?_)
    refine Reg.nil (Run.seq (Run.seq (Run.region (cx_ok _ _ _) (Reg.op rfl (Ope.mov rfl ?_)))))
    refine Reg.op rfl (Ope.fld rfl rfl ?_)
    refine Reg.op rfl (Ope.fld rfl rfl ?_)
    refine Reg.op rfl (Ope.load rfl rfl ?_)
    refine Reg.op rfl (Ope.ne rfl rfl ?_)
    refine Reg.nil (Run.condX rfl (fun hc=>?_) fun hc=>?_)
    ·refine Run.region (cx_ok _ _ _) (Reg.op rfl (Ope.mov rfl ?_))
     refine Reg.op rfl (Ope.bld rfl rfl ?_)
     refine Reg.op rfl (Ope.fld rfl rfl ?_)
     refine Reg.op0 (Ope.store rfl rfl rfl rfl rfl rfl ?_)
     refine Reg.nil (Run.seq (Run.region (cx_ok _ _ _) (Reg.op rfl (Ope.fld rfl rfl ?_))))
     refine Reg.op rfl (Ope.fld rfl rfl ?_)
     refine Reg.op rfl (Ope.load rfl rfl ?_)
     refine Reg.op rfl (Ope.add rfl rfl (by omega) ?_)
     refine Reg.op rfl (Ope.fld rfl rfl ?_)
     refine Reg.op rfl (Ope.fld rfl rfl ?_)
     refine Reg.op0 (Ope.store rfl rfl rfl rfl rfl rfl ?_)
     refine Reg.nil (Run.seq (Run.region (cx_ok _ _ _) (Reg.op rfl (Ope.mov rfl ?_))))
     refine Reg.op rfl (Ope.fld rfl rfl ?_)
     refine Reg.op rfl (Ope.idxA rfl rfl rfl rfl ?_)
     refine Reg.op rfl (Ope.load rfl rfl ?_)
     refine Reg.op rfl (Ope.add rfl rfl (by omega) ?_)
     refine Reg.op rfl (Ope.fld rfl rfl ?_)
     refine Reg.op rfl (Ope.idxA rfl rfl rfl rfl ?_)
     refine Reg.op0 (Ope.store rfl rfl rfl rfl rfl rfl ?_)
     refine Reg.nil (Run.seq (Run.region (cx_ok _ _ _) (Reg.op rfl (Ope.load rfl rfl ?_))))
     refine Reg.op0 (Ope.store rfl rfl rfl rfl rfl rfl ?_)
     refine Reg.nil (Run.ret (fin_ret (.cell rfl rfl .nil) rfl ?_))
     simp [pone, *]<;>omega
    ·refine Run.skip (Run.seq (Run.region (cx_ok _ _ _) (Reg.op rfl (Ope.fld rfl rfl ?_))))
     refine Reg.op rfl (Ope.fld rfl rfl ?_)
     refine Reg.op rfl (Ope.load rfl rfl ?_)
     refine Reg.op rfl (Ope.add rfl rfl (by omega) ?_)
     refine Reg.op rfl (Ope.fld rfl rfl ?_)
     refine Reg.op rfl (Ope.fld rfl rfl ?_)
     refine Reg.op0 (Ope.store rfl rfl rfl rfl rfl rfl ?_)
     refine Reg.nil (Run.seq (Run.region (cx_ok _ _ _) (Reg.op rfl (Ope.mov rfl ?_))))
     refine Reg.op rfl (Ope.fld rfl rfl ?_)
     refine Reg.op rfl (Ope.idxA rfl rfl rfl rfl ?_)
     refine Reg.op rfl (Ope.load rfl rfl ?_)
     refine Reg.op rfl (Ope.add rfl rfl (by omega) ?_)
     refine Reg.op rfl (Ope.fld rfl rfl ?_)
     refine Reg.op rfl (Ope.idxA rfl rfl rfl rfl ?_)
     refine Reg.op0 (Ope.store rfl rfl rfl rfl rfl rfl ?_)
     refine Reg.nil (Run.seq (Run.region (cx_ok _ _ _) (Reg.op rfl (Ope.load rfl rfl ?_))))
     refine Reg.op0 (Ope.store rfl rfl rfl rfl rfl rfl ?_)
     refine Reg.nil (Run.ret (fin_ret (.cell rfl rfl .nil) rfl ?_))
     simp [pone, *]<;>omega
theorem f159 (r n t0 t1 x:Int) (hx:x=0∨x=1) (hr:0≤n∧n≤100) (h0:-100≤t0∧t0≤99) (h1:-100≤t1∧t1≤99) :
    Fn P0 159 [.agg [I r,I n,I t0,I t1],I x] (.agg [I x,I (if x=r then n+1 else 1),I (if x=0 then t0+1 else t0),I (if x=1 then t1+1 else t1),I r,I n,I t0,I t1]):=by
  refine PFun.of (C:=c159) (cx_ok _ _ _) rfl (fn:=Tryz.f159) (by kernel_rfl) (c:=_) rfl rfl rfl ?_
  refine Run.seq (Run.region (cx_ok _ _ _) (Reg.op rfl (Ope.boxF rfl rfl ?_)))
  refine Reg.op rfl (Ope.newL rfl ?_)
  refine Reg.nil (Run.seq (Run.draw (cx_ok _ _ _) [(0,true),(1,true),(3,false),(2,true),(4,true),(5,true)] (by kernel_rfl) (Dra.op' rfl rfl rfl .sure (Ope.load rfl rfl ?_))))
  refine Dra.op' rfl rfl rfl .sure (Ope.mov rfl ?_)
  refine Dra.op' rfl rfl rfl (.load rfl) (Ope.load rfl rfl ?_)
  refine Dra.op' rfl rfl rfl .sure (Ope.cf rfl rfl (f191 _ _ _ _ _ hx hr h0 h1) rfl ?_)
  refine Dra.op' rfl rfl rfl .sure (Ope.bld rfl rfl ?_)
  refine Dra.op' rfl rfl rfl .sure (Ope.store rfl rfl rfl rfl rfl rfl ?_)
  exact Dra.nil (Run.ret (fin_ret (.cell rfl rfl .nil) rfl rfl))
theorem f121 (a b c d a' b' c' d':Int) (h0:-100≤c'∧c'≤100) (h1:-100≤d'∧d'≤100):Fn P0 121 [.agg [I a,I b,I c,I d,I a',I b',I c',I d']] (B (decide (0 < c'+d') && !decide (a=a'))):=by
  refine PFun.of (C:=c121) (cx_ok _ _ _) rfl (fn:=Tryz.f121) (by kernel_rfl) (c:=_) rfl rfl rfl ?_
  refine Run.seq (Run.region (cx_ok _ _ _) (Reg.op rfl (Ope.boxF rfl rfl ?_)))
  refine Reg.op rfl (Ope.asg rfl ?_)
  refine Reg.nil (Run.seq (Run.region (cx_ok _ _ _) (Reg.op rfl (Ope.load rfl rfl ?_))))
  refine Reg.op rfl (Ope.cf rfl rfl (f107 _ _ _ _ _ _ _ _ h0 h1) rfl ?_)
  refine Reg.op rfl (Ope.gt rfl rfl ?_)
  refine Reg.op rfl (Ope.mov rfl ?_)
  refine Reg.splitX rfl rfl (fun hg=>?_) fun hg=>?_
  ·refine Reg.on rfl rfl rfl (Ope.fld rfl rfl ?_)
   refine Reg.on rfl rfl rfl (Ope.fld rfl rfl ?_)
   refine Reg.on rfl rfl rfl (Ope.fld rfl rfl ?_)
   refine Reg.on rfl rfl rfl (Ope.load rfl rfl ?_)
   refine Reg.on rfl rfl rfl (Ope.fld rfl rfl ?_)
   refine Reg.on rfl rfl rfl (Ope.fld rfl rfl ?_)
   refine Reg.on rfl rfl rfl (Ope.fld rfl rfl ?_)
   refine Reg.on rfl rfl rfl (Ope.load rfl rfl ?_)
   refine Reg.on rfl rfl rfl (Ope.ne rfl rfl ?_)
   refine Reg.op rfl (Ope.pickT rfl rfl ?_)
   refine Reg.op rfl (Ope.asg rfl ?_)
   refine Reg.nil (Run.ret (fin_ret (.tmp rfl .nil) rfl ?_))
   simp [pone, *]
  ·refine Reg.off rfl rfl rfl (Reg.off rfl rfl rfl (Reg.off rfl rfl rfl (Reg.off rfl rfl rfl (Reg.off rfl rfl rfl (Reg.off rfl rfl rfl (Reg.off rfl rfl rfl (Reg.off rfl rfl rfl (Reg.off rfl rfl rfl (Reg.op rfl (Ope.pickF rfl rfl ?_))))))))))
   refine Reg.op rfl (Ope.asg rfl ?_)
   refine Reg.nil (Run.ret (fin_ret (.tmp rfl .nil) rfl ?_))
   simp [pone, *]
theorem f163 (a b c d a' b' c' d':Int) (ha:a=0∨a=1) (h0:-100≤c'∧c'≤100) (h1:-100≤d'∧d'≤100) :
    Fn P0 163 [.agg [I a,I b,I c,I d,I a',I b',I c',I d']] (B ((decide (0 < c'+d') && !decide (a=a')) && decide (0 < if a=0 then c' else d'))):=by
  rcases ha with rfl | rfl
  all_goals
    refine PFun.of (C:=c163) (cx_ok _ _ _) rfl (fn:=Tryz.f163) (by kernel_rfl) (c:=_) rfl rfl rfl ?_
    refine Run.seq (Run.region (cx_ok _ _ _) (Reg.op rfl (Ope.boxF rfl rfl ?_)))
    refine Reg.op rfl (Ope.asg rfl ?_)
    refine Reg.nil (Run.seq (Run.region (cx_ok _ _ _) (Reg.op rfl (Ope.load rfl rfl ?_))))
    refine Reg.op rfl (Ope.cf rfl rfl (f121 _ _ _ _ _ _ _ _ h0 h1) rfl ?_)
    refine Reg.op rfl (Ope.mov rfl ?_)
    refine Reg.splitX rfl rfl (fun hg=>?_) fun hg=>?_
    ·refine Reg.on rfl rfl rfl (Ope.fld rfl rfl ?_)
     refine Reg.on rfl rfl rfl (Ope.fld rfl rfl ?_)
     refine Reg.on rfl rfl rfl (Ope.fld rfl rfl ?_)
     refine Reg.on rfl rfl rfl (Ope.load rfl rfl ?_)
     refine Reg.on rfl rfl rfl (Ope.fld rfl rfl ?_)
     refine Reg.on rfl rfl rfl (Ope.fld rfl rfl ?_)
     refine Reg.on rfl rfl rfl (Ope.idxA rfl rfl rfl rfl ?_)
     refine Reg.on rfl rfl rfl (Ope.load rfl rfl ?_)
     refine Reg.on rfl rfl rfl (Ope.gt rfl rfl ?_)
     refine Reg.op rfl (Ope.pickT rfl rfl ?_)
     refine Reg.op rfl (Ope.asg rfl ?_)
     refine Reg.nil (Run.ret (fin_ret (.tmp rfl .nil) rfl ?_))
     simp [pone, *]
    ·refine Reg.off rfl rfl rfl (Reg.off rfl rfl rfl (Reg.off rfl rfl rfl (Reg.off rfl rfl rfl (Reg.off rfl rfl rfl (Reg.off rfl rfl rfl (Reg.off rfl rfl rfl (Reg.off rfl rfl rfl (Reg.off rfl rfl rfl (Reg.op rfl (Ope.pickF rfl rfl ?_))))))))))
     refine Reg.op rfl (Ope.asg rfl ?_)
     refine Reg.nil (Run.ret (fin_ret (.tmp rfl .nil) rfl ?_))
     simp [pone, *]
theorem f160 (a b c d a' b' c' d' p q r s:Int) (ha:a=0∨a=1) (h0:-100≤c∧c≤100) (h1:-100≤d∧d≤100) (hq:-100≤q∧q≤100) :
    Fn P0 160 [.agg [I a,I b,I c,I d,I a',I b',I c',I d'],.agg [I p,I q,I r,I s]] (I ((if a=0 then c else d) - q)):=by
  rcases ha with rfl | rfl
  all_goals
    refine PFun.of (C:=c160) (cx_ok _ _ _) rfl (fn:=Tryz.f160) (by kernel_rfl) (c:=_) rfl rfl rfl ?_
    refine Run.seq (Run.region (cx_ok _ _ _) (Reg.op rfl (Ope.boxF rfl rfl ?_)))
    refine Reg.op rfl (Ope.boxF rfl rfl ?_)
    refine Reg.op rfl (Ope.asg rfl ?_)
    refine Reg.nil (Run.seq (Run.draw (cx_ok _ _ _) [(0,true),(1,true),(2,true),(3,true),(4,true),(5,true),(6,true),(7,true),(8,true),(9,true),(10,true),(11,true)] (by kernel_rfl) (Dra.op' rfl rfl rfl .sure (Ope.fld rfl rfl ?_))))
    refine Dra.op' rfl rfl rfl .sure (Ope.fld rfl rfl ?_)
    refine Dra.op' rfl rfl rfl .sure (Ope.fld rfl rfl ?_)
    refine Dra.op' rfl rfl rfl .sure (Ope.load rfl rfl ?_)
    refine Dra.op' rfl rfl rfl .sure (Ope.fld rfl rfl ?_)
    refine Dra.op' rfl rfl rfl .sure (Ope.fld rfl rfl ?_)
    refine Dra.op' rfl rfl rfl .sure (Ope.idxA rfl rfl rfl rfl ?_)
    refine Dra.op' rfl rfl rfl .sure (Ope.load rfl rfl ?_)
    refine Dra.op' rfl rfl rfl .sure (Ope.fld rfl rfl ?_)
    refine Dra.op' rfl rfl rfl .sure (Ope.load rfl rfl ?_)
    refine Dra.op' rfl rfl rfl .sure (Ope.sub rfl rfl (by omega) ?_)
    refine Dra.op' rfl rfl rfl .sure (Ope.asg rfl ?_)
    refine Dra.nil (Run.ret (fin_ret (.tmp rfl .nil) rfl ?_))
    simp [pone, *]
theorem f161 (a b c d a' b' c' d' p q r s:Int) (h0:-100≤b∧b≤100) (hr:-100≤r∧r≤100) :
    Fn P0 161 [.agg [I a,I b,I c,I d,I a',I b',I c',I d'],.agg [I p,I q,I r,I s]] (I (b - r)):=by
  refine PFun.of (C:=c161) (cx_ok _ _ _) rfl (fn:=Tryz.f161) (by kernel_rfl) (c:=_) rfl rfl rfl ?_
  refine Run.seq (Run.region (cx_ok _ _ _) (Reg.op rfl (Ope.boxF rfl rfl ?_)))
  refine Reg.op rfl (Ope.boxF rfl rfl ?_)
  refine Reg.op rfl (Ope.asg rfl ?_)
  refine Reg.nil (Run.seq (Run.region (cx_ok _ _ _) (Reg.op rfl (Ope.fld rfl rfl ?_))))
  refine Reg.op rfl (Ope.fld rfl rfl ?_)
  refine Reg.op rfl (Ope.fld rfl rfl ?_)
  refine Reg.op rfl (Ope.load rfl rfl ?_)
  refine Reg.op rfl (Ope.fld rfl rfl ?_)
  refine Reg.op rfl (Ope.load rfl rfl ?_)
  refine Reg.op rfl (Ope.sub rfl rfl (by omega) ?_)
  refine Reg.op rfl (Ope.asg rfl ?_)
  exact Reg.nil (Run.ret (fin_ret (.tmp rfl .nil) rfl rfl))
theorem f162 (a b c d a' b' c' d' p q r s:Int) (ha:a=0∨a=1) (h0:-100≤c'∧c'≤100) (h1:-100≤d'∧d'≤100) (hb:-100≤b'∧b'≤100) (hs:-100≤s∧s≤100) :
    Fn P0 162 [.agg [I a,I b,I c,I d,I a',I b',I c',I d'],.agg [I p,I q,I r,I s]] (I (if ((decide (0 < c'+d') && !decide (a=a')) && decide (0 < if a=0 then c' else d'))=true then s - b' else 0)):=by
  refine PFun.of (C:=c162) (cx_ok _ _ _) rfl (fn:=Tryz.f162) (by kernel_rfl) (c:=_) rfl rfl rfl ?_
  refine Run.seq (Run.region (cx_ok _ _ _) (Reg.op rfl (Ope.boxF rfl rfl ?_)))
  refine Reg.op rfl (Ope.boxF rfl rfl ?_)
  refine Reg.op rfl (Ope.asg rfl ?_)
  refine Reg.nil (Run.seq (Run.seq (Run.region (cx_ok _ _ _) (Reg.op rfl (Ope.load rfl rfl ?_)))))
  refine Reg.op rfl (Ope.cf rfl rfl (f163 _ _ _ _ _ _ _ _ ha h0 h1) rfl ?_)
  refine Reg.op rfl (Ope.not rfl ?_)
  refine Reg.nil (Run.condX rfl (fun hc=>?_) fun hc=>?_)
  ·refine Run.seq (Run.region (cx_ok _ _ _) (Reg.op rfl (Ope.asg rfl ?_)))
   refine Reg.nil (Run.ret (Jmp.code (fin_ret (.tmp rfl .nil) rfl ?_)))
   simp_all [pone]<;>(intro u1 u2 u3;exact absurd (hc u1 u2) (Int.not_le.2 u3))
  ·refine Run.skip (Run.seq (Run.region (cx_ok _ _ _) (Reg.op rfl (Ope.fld rfl rfl ?_))))
   refine Reg.op rfl (Ope.load rfl rfl ?_)
   refine Reg.op rfl (Ope.fld rfl rfl ?_)
   refine Reg.op rfl (Ope.fld rfl rfl ?_)
   refine Reg.op rfl (Ope.fld rfl rfl ?_)
   refine Reg.op rfl (Ope.load rfl rfl ?_)
   refine Reg.op rfl (Ope.sub rfl rfl (by omega) ?_)
   refine Reg.op rfl (Ope.asg rfl ?_)
   refine Reg.nil (Run.ret (fin_ret (.tmp rfl .nil) rfl ?_))
   simp_all [pone]<;>(intro u1 u2 u3;exact absurd (hc u1 u2) (Int.not_le.2 u3))
end Go.Pv
