/- Parts of the proof: Pv31, Pv32, Pv34, F1, Pv35, Pv36 -/
import Derived.Test.YtkabfhoicdeehaaGreatP9
import Derived.Test.YtkabfhoicdeehaaGreatChecked
set_option linter.unusedVariables false
set_option linter.unusedSimpArgs false
set_option linter.unusedSectionVars false
namespace Go.Pv
open Go.Am Go.RowKit
abbrev HL:=List (Nat×Option PBlk)
def Hsub:HL→HL→Prop
 |[],_=>True
 |(i,b)::l,l'=>hget l' i=b∧Hsub l l'
theorem Hsub.get {l l':HL} {i:Nat} {b:PBlk} (hs:Hsub l l') (h:hget l i=some b):hget l' i=some b:=by
 induction l with
 |nil=>simp [hget] at h
 |cons p l ih =>
  obtain ⟨j,c⟩:=p
  simp only [hget] at h
  split at h
  ·next hb=>rw [Nat.eq_of_beq_eq_true hb,hs.1];exact h
  ·exact ih hs.2 h
theorem hget_hd {i:Nat} {b:Option PBlk} {l:HL}:hget ((i,b)::l) i=b:=by simp [hget]
theorem hget_tl {i j:Nat} {b:Option PBlk} {l:HL} (h:i≠j):hget ((j,b)::l) i=hget l i:=by
 simp only [hget]
 split
 ·next hb=>exact absurd (Nat.eq_of_beq_eq_true hb) h
 ·rfl
theorem hget_at {i j:Nat} {b c:Option PBlk} {l:HL} (h:i≠j) (hb:hget l i=c):hget ((j,b)::l) i=c:=(hget_tl h).trans hb
def Ghost (h h':PH) (t t':T PV):Prop:=∀ (w0:Base) (s:St) (arr:Array Value),PW w0 s→s.h=h→TV s t.get arr→∃ s':St,s'.w=s.w∧PW w0 s'∧Ext s s'∧s'.h=h'∧TV s' t'.get arr
theorem PWP.ghost {P:Program} {fi:FuncId} {sz:Nat} {rnd:Option Nat} {c:Code} {Q:PQ} {X:PX} {t t':T PV} {ds:List Nat} {h h':PH} (hg:Ghost h h' t t') (hp:PWP P fi sz rnd c Q X t' ds h'):PWP P fi sz rnd c Q X t ds h:=by
 intro w0 s arr b k cs a1 a2 a3 a4 a5 a6 a7 a8 a9
 obtain ⟨s',e1,e2,e3,e4,e5⟩:=hg w0 s arr a1 a2 a3
 have:=hp w0 s' arr b k cs e2 e4 e5 a4 (fun i hi=>Nat.lt_of_lt_of_le (a5 i hi) e3.next) a6 (a7.trans (roundOf_ext e3 a8).symm) (fun i hi=>Nat.lt_of_lt_of_le (a8 i hi) e3.next) a9
 rw [dls_ext e3 a5,e1] at this
 exact POut.ext e3 this
section
variable {s:St} {w0:Base}
def St.wide (s:St) (h:PH):St:={ s with h:=h }
theorem Ext.wide {h:PH} (hn:s.h.next≤h.next):Ext s (s.wide h) :=
 Ext.mk' ⟨Nat.le_refl _,fun _ _=>⟨id,fun _ h=>h⟩⟩ hn (fun _ _=>rfl) (fun k o y hy=>hy) (fun _ _ _ h=>⟨h,fun arr _ h=>⟨arr,h,rfl⟩⟩) fun _ _ h=>h
theorem PW.wide (hw:PW w0 s) {h:PH} (hn:s.h.next≤h.next) (hs:∀ i b,h.get i=some b→s.h.get i=some b):PW w0 (s.wide h):=by
 have hx:=Ext.wide (s:=s) hn
 refine ⟨hw.os,hw.tape,hw.output,hw.size,hw.old,hw.prot,hw.cold,hw.inb,fun k n i hk=>?_,fun i b hi=>?_⟩
 ·obtain ⟨h1,h2⟩:=hw.ob k n i hk
  exact ⟨Nat.lt_of_lt_of_le h1 hn,h2⟩
 ·obtain ⟨h1,h2,h3⟩:=hw.hp i b (hs i b hi)
  exact ⟨Nat.lt_of_lt_of_le h1 hn,BAt.congr (s':=s.wide h) (s:=s) rfl rfl h2,h3.ext hx rfl⟩
theorem Ghost.wide {h h':PH} {t:T PV} (hn:h.next≤h'.next) (hs:∀ i b,h'.get i=some b→h.get i=some b):Ghost h h' t t:=by
 intro w0 s arr a1 a2 a3
 subst a2
 exact ⟨s.wide h',rfl,a1.wide hn hs,Ext.wide hn,rfl,a3.ext (Ext.wide hn)⟩
def frzK:List PV→Bool→Option PV
 |cs,true=>some (.agg cs)
 |[v],false=>match v.isAgg with
  |false=>some v
  |true=>none
 |_,false=>none
theorem freeze_rv (hw:PW w0 s) {i:Nat} {cs:List PV} (hi:s.h.get i=some (.cells cs)) {agg:Bool} {v:PV} (hv:frzK cs agg=some v) {x:Value} (hx:RV s (.ptr i 0) x):RV (s.freeze i cs.length) (.fp v) x:=by
 obtain ⟨_,hx⟩:=RV_ptr.1 hx
 obtain ⟨arr,t,h1,h2,h3,h4⟩:=hw.cells hi
 have hxe:=Ext.freeze (n:=cs.length) h4
 have hm:RMs (s.freeze i cs.length) cs (s.e i) 0:=RMs.of_get fun j a ha=>by
  obtain ⟨y,y1,y2⟩:=h2.get ha
  have hj:j < cs.length:=(List.getElem?_eq_some_iff.1 ha).1
  refine ⟨y,?_,(R2.ext hxe a).1 _ y2⟩
  refine fcell_of (s:=s.freeze i cs.length) (n:=cs.length) (own:=none) (upd_self _ _ _) (by omega) ?_
  have:s.w.cell? ⟨s.e i,j,none⟩=some y:=by simp [World.cell?,h1];simpa using y1
  simpa [St.freeze] using this
 refine RV_fp.2 ⟨s.e i,0,hx,?_⟩
 cases agg with
 |true =>
  have:v=.agg cs:=by
   cases cs<;>simpa [frzK] using hv.symm
  subst this
  exact RM_agg.2 hm
 |false =>
  cases cs with
  |nil=>cases hv
  |cons w ws =>
   cases ws with
   |cons _ _=>cases hv
   |nil =>
    simp only [frzK] at hv
    split at hv
    ·next ha =>
     cases hv
     obtain ⟨⟨y,y1,y2⟩,_⟩:=RMs_cons.1 hm
     exact (RM_one ha).2 ⟨y,y1,y2⟩
    ·cases hv
end
section
variable {C:Cx} {F:EQ} {X:EX} {k:List KI} {e:EL} {ds:List Nat} {h:PH} {n m:Nat} {l l':HL}
theorem Run.ghost {c:Code} {h':PH} {e':EL} (hg:∀ t,Sub e t→∃ t',Sub e' t'∧Ghost h h' t t') (hr:Run C F X (.c c::k) e' ds h'):Run C F X (.c c::k) e ds h:=by
 refine Run.intro ?_
 obtain ⟨t',h1,h2⟩:=hg (TE e) (Sub.refl e)
 exact PWP.ghost h2 (hr.wp h1)
theorem Run.wide {c:Code} (hn:n≤m) (hs:Hsub l' l) (hr:Run C F X (.c c::k) e ds (HE m l')):Run C F X (.c c::k) e ds (HE n l) :=
 Run.ghost (fun t ht=>⟨t,ht,Ghost.wide (h:=HE n l) (h':=HE m l') hn fun _ _ hi=>hs.get hi⟩) hr
theorem Run.frz {c:Code} {d i:Nat} {cs:List PV} (agg:Bool) {v:PV} (hd:lget e d=some (.ptr i 0)) (hg:hget l i=some (.cells cs)) (hv:frzK cs agg=some v) (hr:Run C F X (.c c::k) ((d,.fp v)::e) ds (HE n ((i,none)::l))):Run C F X (.c c::k) e ds (HE n l):=by
 refine Run.ghost (fun t ht=>⟨t.set d (.fp v),?_,?_⟩) hr
 ·intro j u hj
  simp only [lget] at hj
  simp only [T.get_set]
  split at hj
  ·next hb=>rw [if_pos (Nat.eq_of_beq_eq_true hb)];exact hj
  ·next hb =>
   rw [if_neg (fun c=>by subst c;simp at hb)]
   exact ht j u hj
 ·intro w0 s arr a1 a2 a3
  have hi:s.h.get i=some (.cells cs):=by rw [a2];exact hg
  obtain ⟨_,_,_,_,_,hlive⟩:=a1.cells hi
  have hx:=Ext.freeze (n:=cs.length) hlive
  refine ⟨s.freeze i cs.length,rfl,a1.freeze hi,hx,?_,?_⟩
  ·show s.h.del i=_
   rw [a2,HE_del]
  ·intro j u hj
   simp only [T.get_set] at hj
   split at hj
   ·next hjd =>
    cases hj
    subst hjd
    obtain ⟨x,x1,x2⟩:=a3 j _ (ht j _ hd)
    exact ⟨x,x1,freeze_rv a1 hi hv x2⟩
   ·exact (a3.ext hx) j u hj
theorem Hsub.cons {i:Nat} {b:Option PBlk} (h1:hget l' i=b) (h2:Hsub l l'):Hsub ((i,b)::l) l':=⟨h1,h2⟩
theorem Hsub.nil:Hsub [] l:=trivial
end
end Go.Pv
namespace Go.Pv
open Go.Am Go.RowKit
def Feed (P:Program) (y:PV) (R:PV→PH→Prop):List PV→Nat→HL→Prop
 |[],n,l=>∀ m,n≤m→∀ u,R u (HE m l)
 |v::vs,n,l=>∀ m,n≤m→PCallV P y [v] (HE m l) (fun b h'=>∃ m' l',h'=HE m' l'∧m≤m' ∧
   ((b=B true∧Feed P y R vs m' l')∨(b=B false∧∀ m2,m'≤m2→∀ u,R u (HE m2 l')))) fun _ _=>False
def Yields (P:Program) (g:Nat) (fs caps items:List PV):Prop :=
 ∀ (j n:Nat) (l:HL) (R:PV→PH→Prop),j < n→Feed P (.yld j) R items n l→PCall P g (fs++[.yld j]++caps) (HE n l) R fun _ _=>False
def tsE:EL→List Nat→List PV→EL
 |e,p::ps,v::vs=>tsE ((p,v)::e) ps vs
 |e,_,_=>e
theorem tsE_sub:∀ (ps:List Nat) (vs:List PV) (e:EL) (t:T PV),Sub e t→Sub (tsE e ps vs) (tsets t ps vs)
 |[],vs,e,t,h=>by cases vs<;>exact h
 |p::ps,[],e,t,h=>h
 |p::ps,v::vs,e,t,h=>by
  refine tsE_sub ps vs _ _ fun i u hi=>?_
  simp only [lget] at hi
  simp only [T.get_set]
  split at hi
  ·next hb=>rw [if_pos (Nat.eq_of_beq_eq_true hb)];exact hi
  ·next hb =>
   rw [if_neg (fun c=>by subst c;simp at hb)]
   exact h i u hi
section
variable {C:Cx} {F:EQ} {X:EX} {k:List KI} {e:EL} {ds:List Nat} {h:PH} {n:Nat} {l:HL}
def noX:EX:=fun _ _ _=>False
def FBody (d m0:Nat) (lb:PBlk) (N:Nat→HL→Prop) (J:Code→Nat→HL→Prop):EQ:=fun x _ ds h =>
 ds=[]∧∃ m l,h=HE m l∧m0≤m∧hget l (d+1)=some lb∧match x with
  |.normal=>N m l
  |.jump j=>Thru j []∧J j m l
def FAsg (C1:Cx) (d m0:Nat) (lb:PBlk) (body:Code) (N:Nat→HL→Prop) (J:Code→Nat→HL→Prop):EQ:=fun x e ds h =>
 x=.normal∧ds=[]∧∃ m l,h=HE m l∧hget l (d+1)=some lb∧∀ lb',Run C1 (FBody d m0 lb' N J) noX [.c body] e [] (HE m ((d+1,some lb')::l))
theorem PWP.ghostQ {P:Program} {fi:FuncId} {sz:Nat} {rnd:Option Nat} {c:Code} {Q:PQ} {Y:PX} {t:T PV} {ds:List Nat} {h:PH} (hp:PWP P fi sz rnd c (fun x t ds h=>∃ h' t',Ghost h h' t t'∧Q x t' ds h') Y t ds h):PWP P fi sz rnd c Q Y t ds h:=by
 intro w0 s arr b k cs a1 a2 a3 a4 a5 a6 a7 a8 a9
 obtain ⟨s1,arr1,ds1,p1,p2,p3,p4,p5⟩:=hp w0 s arr b k cs a1 a2 a3 a4 a5 a6 a7 a8 a9
 rcases p5 with ⟨t1,⟨h',t',q1,q1'⟩,q2,q3⟩ | ⟨t1,j,pre,⟨h',t',q1,q1'⟩,q2,q2',q3⟩ | ⟨tx,v,x,todo,q1,q2,qx,q3⟩
 ·obtain ⟨s2,e1,e2,e3,e4,e5⟩:=q1 w0 s1 arr1 p1 rfl q2
  refine ⟨s2,arr1,ds1,e2,p2.trans e3,p3,fun i hi=>Nat.lt_of_lt_of_le (p4 i hi) e3.next,.inl ⟨t',by rw [e4];exact q1',e5,?_⟩⟩
  rw [dls_ext e3 p4,e1]
  exact q3
 ·obtain ⟨s2,e1,e2,e3,e4,e5⟩:=q1 w0 s1 arr1 p1 rfl q2
  refine ⟨s2,arr1,ds1,e2,p2.trans e3,p3,fun i hi=>Nat.lt_of_lt_of_le (p4 i hi) e3.next,.inr (.inl ⟨t',j,pre,by rw [e4];exact q1',e5,q2',?_⟩)⟩
  rw [dls_ext e3 p4,e1]
  exact q3
 ·exact ⟨s1,arr1,ds1,p1,p2,p3,p4,.inr (.inr ⟨tx,v,x,todo,q1,q2,qx,q3⟩)⟩
theorem Hsub.over {l l':HL} {i:Nat} {b:Option PBlk} (hs:Hsub l l') (hk:∀ p∈l,p.1≠i):Hsub l ((i,b)::l'):=by
 induction l with
 |nil=>trivial
 |cons p l ih =>
  obtain ⟨j,c⟩:=p
  exact ⟨hget_at (hk (j,c) (by simp)) hs.1,ih hs.2 fun p hp=>hk p (List.mem_cons_of_mem _ hp)⟩
theorem Run.rangeF (hC:C.Ok) (hrnd:C.rnd=none) {f:Operand} {ps:Array Tmp} {asg body:Code} {fs cp items:List PV} {g:Nat} {α:Type} (hp:α→HL) (nx:α→Nat) (I:Nat→α→Prop)
  (hf:pev (lget e) f=some (.fn (.func g) fs cp)) (hy:Yields C.P g fs cp items) (hps:ps.size=1) (hpl:ps.toList.all (fun p=>Nat.blt p C.sz)=true) (hfi:∃ fn,C.P.funcs[C.fi]?=some fn)
  (a0:α) (h0:I 0 a0) (hl0:Hsub (hp a0) l) (hk:∀ a,∀ p∈hp a,p.1≠n+1) (hk0:∀ p∈hp a0,p.1≠n) (hn0:nx a0≤n+2)
  (round : ∀ i a v, items[i]? = some v → I i a → ∀ m, nx a ≤ m → n + 2 ≤ m → ∀ lb, Run { C with rnd := some (n + 1) }
   (FAsg { C with rnd := some (n + 1) } n m lb body (fun m l => ∃ a', nx a' ≤ m ∧ Hsub ((n, some .dfr) :: hp a') l ∧ I (i + 1) a')
    fun j m l=>∃ l3,Hsub l3 ((n+1,none)::l)∧∀ m4,m≤m4→Jmp C F X k j e (n::ds) (HE m4 l3)) noX [.c asg] (tsE e ps.toList [v]) [] (HE m ((n+1,some lb)::(n,some .dfr)::hp a)))
  (fin:∀ a,I items.length a→∀ m,nx a≤m→n+2≤m→Run C F X k e (n::ds) (HE m ((n,some .dfr)::hp a))):Run C F X (.c (.rangeFunc f ps asg body)::k) e ds (HE n l):=by
 refine Run.intro ?_
 let Qg:PQ:=fun x t ds h=>∃ h' t',Ghost h h' t t'∧Pv.toQ (Ks C F X k) x t' ds h'
 have hpw:=PWP.rangeFunc (P:=C.P) hC.A (fi:=C.fi) (sz:=C.sz) (Q:=Qg) (X:=toX X) (t:=TE e) (ds:=ds) (h:=HE n l) (f:=f) (ps:=ps) (asg:=asg) (body:=body) (fv:=.fn (.func g) fs cp) (by rw [TE_getf];exact hf) ?_
 ·rw [Cx.wp,hrnd]
  exact PWP.ghostQ hpw
 show pcallF C.A C.P (.fn (.func g) fs cp) [.yld (n+1)] _ _ _
 simp only [pcallF]
 have hnn:(HE n l).next=n:=rfl
 rw [HE_add,hnn,HE_add]
 let lbs (st:LoopState) (pd:Option Code):PBlk:=.loop st pd C.fi (TE e) C.sz ps asg body n
 refine PCall.mono (hy (n+1) (n+2) _ (QLoop (n+1) (TE e) (n::ds) Qg) (by omega) ?_) (fun _ _ h=>h) fun _ _ h=>h.elim
 have key:∀ (vs:List PV) (i:Nat) (a:α) (m:Nat) (l':HL),items.drop i=vs→i≤items.length→I i a→nx a≤m→n+2≤m→Hsub ((n+1,some (lbs .ready none))::(n,some .dfr)::hp a) l' →
   Feed C.P (.yld (n+1)) (QLoop (n+1) (TE e) (n::ds) Qg) vs m l':=by
  intro vs
  induction vs with
  |nil =>
   intro i a m l' hd hil hI hm hm2 hs m2 hm3 u
   have hi:i=items.length:=by have:=List.drop_eq_nil_iff.1 hd;omega
   subst hi
   refine ⟨.ready,none,C.fi,TE e,C.sz,ps,asg,body,n,rfl,hs.1,?_⟩
   refine ⟨HE m2 ((n,some .dfr)::hp a),TE e,Ghost.wide (h:=(HE m2 l').del (n+1)) (h':=HE m2 ((n,some .dfr)::hp a)) (Nat.le_refl _) fun i b hi=>?_,(fin a hI m2 (by omega) (by omega)).toQ (Sub.refl e)⟩
   rw [HE_del]
   exact Hsub.get (l':=(n+1,none)::l') (Hsub.over hs.2 (by
    intro p hpm
    rcases List.mem_cons.1 hpm with rfl | hpm
    ·simp
    ·exact hk a p hpm)) hi
  |cons v vs ih =>
   intro i a m l' hd hil hI hm hm2 hs m2 hm3
   have hv:items[i]?=some v:=by
    have:=congrArg List.head? hd
    simpa [List.head?_drop] using this
   have hlt:i < items.length:=(List.getElem?_eq_some_iff.1 hv).1
   have hd':items.drop (i+1)=vs:=by
    have:=congrArg List.tail hd
    simpa using this
   have hr:=round i a v hv hI m2 (by omega) (by omega) (lbs .ready none)
   refine PCallV.yld (t:=TE e) (fn:=C.fi) (sz:=C.sz) (ps:=ps) (asg:=asg) (body:=body) (d:=n) hs.1 hfi (by simp [hps]) (fun p hp=>blt_lt (List.all_eq_true.1 hpl p hp)) ?_
   have hra:=PWP.ghost (Ghost.wide (h:=HE m2 l') (h':=HE m2 ((n+1,some (lbs .ready none))::(n,some .dfr)::hp a)) (Nat.le_refl _) fun i b hi=>hs.get hi) (hr.wp (tsE_sub ps.toList [v] e (TE e) (Sub.refl e)))
   refine PWP.mono hra ?_ fun _ _ _ _ hx=>hx.elim
   rintro x t1 ds1 h1 ⟨e1,hsub1,rfl,rfl,m3,l3,rfl,hg3,hb⟩
   refine ⟨rfl,rfl,TE e,hg3,?_⟩
   have hb2:=(hb (lbs .busy none)).wp hsub1
   rw [HE_put]
   refine PWP.mono hb2 ?_ fun _ _ _ _ hx=>hx.elim
   rintro x t2 ds2 h2 ⟨e2,hsub2,rfl,m5,l5,rfl,hm5,hg5,hx⟩
   refine ⟨rfl,.busy,none,TE e,hg5,?_⟩
   cases x with
   |normal =>
    obtain ⟨a',q1,q2,q3⟩:=hx
    refine ⟨m5,(n+1,some (lbs .ready none))::l5,by simp only [HE_put];rfl,by omega,.inl ⟨rfl,?_⟩⟩
    refine ih (i+1) a' m5 _ hd' hlt q3 q1 (by omega) ⟨hget_hd,Hsub.over q2 ?_⟩
    intro p hpm
    rcases List.mem_cons.1 hpm with rfl | hpm
    ·simp
    ·exact hk a' p hpm
   |jump j =>
    obtain ⟨q0,l6,q1,q2⟩:=hx
    refine ⟨q0,m5,(n+1,some (lbs .done (some j)))::l5,by simp only [HE_put];rfl,by omega,.inr ⟨rfl,fun m6 hm6 u=>?_⟩⟩
    refine ⟨.done,some j,C.fi,TE e,C.sz,ps,asg,body,n,rfl,hget_hd,q0,?_⟩
    refine ⟨HE m6 l6,TE e,Ghost.wide (h:=(HE m6 _).del (n+1)) (h':=HE m6 l6) (Nat.le_refl _) fun i b hi=>?_,(q2 m6 hm6).toQ (Sub.refl e)⟩
    rw [HE_del]
    have:=q1.get hi
    show hget ((n+1,none)::(n+1,some (lbs .done (some j)))::l5) i=some b
    simp only [hget] at this ⊢
    split at this
    ·cases this
    ·next hb=>simp only [hb];exact this
 refine key items 0 a0 (n+2) _ (by simp) (Nat.zero_le _) h0 hn0 (Nat.le_refl _) ⟨hget_hd,hget_at (by omega) hget_hd,?_⟩
 exact Hsub.over (Hsub.over hl0 hk0) (hk a0)
end
end Go.Pv
namespace Go.Pv
open Go.Am Go.RowKit
def bslP (A : AP) (t : TypeId) : Option (List PV × Bool × Nat) :=
 match A.under t with
 |some (.slice e)=>match A.info e,A.under e with
  |some ie,some d=>match ie.zero with
   |some z=>match z.cells.size == ie.size && Nat.ble 1 ie.size && (isAggB d || Nat.beq ie.size 1),zcells z with
    |true,some cs=>match Nat.beq cs.length ie.size with
     |true=>some (cs,isAggB d,ie.size)
     |false=>none
    |_,_=>none
   |none=>none
  |_,_=>none
 |_=>none
class Bsl (A:AP) (t:Nat) (zs:outParam (List PV)) (agg:outParam Bool) (sz:outParam Nat):Prop where
 ok:bslP A t=some (zs,agg,sz)
def ordK {β:Type} (agg:Bool) (sz:Nat):Nat→Nat→List (Nat×PV)→(List PV→Option β)→Option β
 |_,0,[],k=>k []
 |i,n+1,(j,w)::ps,k=>match Nat.beq i j,Nat.beq w.nc sz,w.isAgg,agg with
  |true,true,true,true=>ordK agg sz (i+1) n ps fun l=>k (w::l)
  |true,true,false,false=>ordK agg sz (i+1) n ps fun l=>k (w::l)
  |_,_,_,_=>none
 |_,_,_,_=>none
def tagged:Nat→List PV→List (Nat×PV)
 |_,[]=>[]
 |i,w::ws=>(i,w)::tagged (i+1) ws
theorem ordK_eq {β:Type} {agg:Bool} {sz:Nat}:∀ (n i:Nat) (ps:List (Nat×PV)) (k:List PV→Option β) (v:β),ordK agg sz i n ps k=some v →
  ∃ ws,ps=tagged i ws∧ws.length=n∧k ws=some v∧∀ w∈ws,w.nc=sz∧w.isAgg=agg
 |0,i,[],k,v,h=>⟨[],rfl,rfl,h,fun _ h=>by cases h⟩
 |0,i,_::_,k,v,h=>by simp [ordK] at h
 |n+1,i,[],k,v,h=>by simp [ordK] at h
 |n + 1, i, (j, w) :: ps, k, v, h => by
  simp only [ordK] at h
  split at h
  ·next _ h1 h2 h3 =>
   obtain ⟨ws,q1,q2,q3,q4⟩:=ordK_eq n (i+1) ps _ v h
   refine ⟨w::ws,?_,by simp [q2],q3,fun x hx=>?_⟩
   ·rw [q1,← Nat.eq_of_beq_eq_true h1];rfl
   ·rcases List.mem_cons.1 hx with rfl | hx
    ·exact ⟨Nat.eq_of_beq_eq_true h2,h3⟩
    ·exact q4 x hx
  ·next _ h1 h2 h3 =>
   obtain ⟨ws,q1,q2,q3,q4⟩:=ordK_eq n (i+1) ps _ v h
   refine ⟨w::ws,?_,by simp [q2],q3,fun x hx=>?_⟩
   ·rw [q1,← Nat.eq_of_beq_eq_true h1];rfl
   ·rcases List.mem_cons.1 hx with rfl | hx
    ·exact ⟨Nat.eq_of_beq_eq_true h2,h3⟩
    ·exact q4 x hx
  ·cases h
theorem pcopies_length (l:List PV):∀ n,(pcopies l n).length=n * l.length
 |0=>by simp [pcopies]
 |n+1=>by simp only [pcopies,List.length_append,pcopies_length l n,Nat.add_mul];omega
theorem fillOrd {sz:Nat}:∀ (ws:List PV) (i:Nat) (pre rest:List PV),pre.length=i * sz→rest.length=ws.length * sz→(∀ w∈ws,w.nc=sz) →
  pfill (fun i=>some (i * sz,sz)) (pre++rest) (tagged i ws)=some (pre++flat ws)
 |[],i,pre,rest,h1,h2,_=>by
  have:rest=[]:=List.eq_nil_of_length_eq_zero (by simpa using h2)
  subst this
  simp [tagged,pfill,flat]
 |w::ws,i,pre,rest,h1,h2,h3=>by
  have hw:=h3 w (by simp)
  have hl:w.cells.length=sz:=by rw [PV.cells_length];exact hw
  simp only [List.length_cons,Nat.add_mul] at h2
  simp only [tagged,pfill]
  have hb:(w.cells.length == sz && Nat.ble (i * sz+sz) (pre++rest).length)=true:=by
   simp only [Bool.and_eq_true,beq_iff_eq]
   exact ⟨hl,by rw [Nat.ble_eq,List.length_append];omega⟩
  rw [hb]
  simp only
  rw [pputAt_eq _ _ _ (by rw [List.length_append];omega)]
  have e1:(pre++rest).take (i * sz)=pre:=by rw [← h1,List.take_left]
  have e2:(pre++rest).drop (i * sz+w.cells.length)=rest.drop sz:=by
   rw [List.drop_append,List.drop_eq_nil_of_le (by omega),List.nil_append]
   congr 1
   omega
  rw [e1,e2]
  rw [fillOrd ws (i+1) (pre++w.cells) (rest.drop sz) (by rw [List.length_append,Nat.add_mul];omega) (by rw [List.length_drop];omega) fun x hx=>h3 x (List.mem_cons_of_mem _ hx)]
  simp [flat]
theorem agg_cells {w:PV} (h:w.isAgg=true):.agg w.cells=w:=by cases w<;>simp only [PV.isAgg,Bool.false_eq_true] at h;rfl
theorem one_cells {w:PV} (h:w.isAgg=false):w.cells=[w]:=by cases w<;>first | rfl | simp only [PV.isAgg,Bool.true_eq_false] at h
theorem pchunk_flat {agg:Bool} {sz:Nat}:∀ ws:List PV,(∀ w∈ws,w.nc=sz∧w.isAgg=agg)→pchunk agg sz ws.length (flat ws)=some ws
 |[],_=>rfl
 |w::ws,h=>by
  obtain ⟨h1,h2⟩:=h w (by simp)
  have hl:w.cells.length=sz:=by rw [PV.cells_length];exact h1
  have ih:=pchunk_flat ws fun x hx=>h x (List.mem_cons_of_mem _ hx)
  cases agg with
  |true =>
   simp only [List.length_cons,pchunk,flat]
   have e1:(w.cells++flat ws).drop sz=flat ws:=by rw [← hl,List.drop_left]
   have e2:(w.cells++flat ws).take sz=w.cells:=by rw [← hl,List.take_left]
   have e3:Nat.ble sz (w.cells++flat ws).length=true:=by rw [Nat.ble_eq,List.length_append];omega
   rw [e1,e2,e3,ih]
   simp only [agg_cells h2]
  |false =>
   simp only [List.length_cons,pchunk,flat,one_cells h2,List.cons_append,List.nil_append,h2,ih]
section
variable {C:Cx} {F:EQ} {X:EX} {k:List KI} {e:EL} {ds:List Nat} {h:PH} {K:PV→PH→Prop} {n:Nat} {l:HL}
variable {d:Option Tmp} {type:TypeId} {pos:String} {after:Array Edge} {guard:Option (Nat×Bool)}
theorem Bsl.fresh {A:AP} {t sz len:Nat} {zs:List PV} {agg:Bool} (hb:Bsl A t zs agg sz) {ps:List (Nat×PV)} {ws:List PV} (hps:ps=tagged 0 ws) (hl:ws.length=len) (hall:∀ w∈ws,w.nc=sz∧w.isAgg=agg) (hlt:Nat.ble (len * sz) 16777216=true) :
  ∃ el cs,pbuildCells A t len ps=some (el,cs)∧∃ d ti,A.under el=some d∧A.info el=some ti∧(isAggB d || Nat.beq ti.size 1)=true∧pchunk (isAggB d) ti.size len cs=some ws:=by
 have:=hb.ok
 unfold bslP at this
 split at this
 case h_2=>cases this
 next el hu =>
 split at this
 case h_2=>cases this
 next ie dd hie hd =>
 split at this
 case h_2=>cases this
 next z hz =>
 split at this
 case h_2=>cases this
 next cs h1 hcs =>
 split at this
 case h_2=>cases this
 next hcl =>
 cases this
 have hcl:=Nat.eq_of_beq_eq_true hcl
 simp only [Bool.and_eq_true] at h1
 obtain ⟨⟨h1,h2⟩,h3⟩:=h1
 refine ⟨el,flat ws,?_,dd,ie,hd,hie,h3,by rw [← hl];exact pchunk_flat ws hall⟩
 unfold pbuildCells
 simp only [hu,hie]
 cases len with
 |zero =>
  have:ws=[]:=List.eq_nil_of_length_eq_zero hl
  subst this
  subst hps
  rfl
 |succ m =>
  simp only [hz,hcs]
  have hb2:(z.cells.size == ie.size && Nat.ble 1 ie.size && Nat.ble ((m+1) * ie.size) 16777216)=true:=by
   simp only [Bool.and_eq_true]
   exact ⟨⟨h1,h2⟩,hlt⟩
  rw [hb2]
  simp only
  have hf:=fillOrd (sz:=ie.size) ws 0 [] (pcopies zs (m+1)) (by simp) (by rw [pcopies_length,hcl,hl]) fun w hw=>(hall w hw).1
  simp only [List.nil_append] at hf
  rw [hps,hf]
theorem Ope.bsl {t len sz:Nat} {zs:List PV} {agg:Bool} {parts:Array (Nat×Operand)} {dd:Tmp} {ps:List (Nat×PV)} {ws:List PV} [hb:Bsl C.A t zs agg sz] (hM:C.M dd=true) (hp:pparts (pev (lget e)) parts.toList=some ps)
  (ho:ordK agg sz 0 len ps some=some ws) (hlt:Nat.ble (Nat.mul len sz) 16777216=true) (hK:K (.sl .ex ws) h):Ope C X { dst:=some dd,op:=.buildSlice t len parts,type,pos,after,guard } e ds h K:=by
 obtain ⟨ws',q1,q2,q3,q4⟩:=ordK_eq _ _ _ _ _ ho
 cases q3
 obtain ⟨el,cs,r1,dt,ti,r2,r3,r4,r5⟩:=hb.fresh q1 q2 q4 hlt
 unfold Ope
 simp only [pop,pkind,hM,pfresh,hp,r1,r2,r3,r4,r5,PDo]
 exact hK
def ifcP (A:AP) (t:TypeId):Bool :=
 match A.under t with
 |some (.interface _)=>true
 |_=>false
class Ifc (A:AP) (t:Nat):Prop where
 ok:ifcP A t=true
theorem Ifc.get {A:AP} {t:Nat} (h:Ifc A t):∃ ms,A.under t=some (.interface ms):=by
 have:=h.ok
 unfold ifcP at this
 split at this
 ·next ms hu=>exact ⟨ms,hu⟩
 ·cases this
theorem Con.noIfc {A:AP} {t:Nat} (h:Con A t):∃ d,A.under t=some d∧∀ ms,d≠.interface ms:=by
 have:=h.ok
 unfold plainTy at this
 split at this
 ·cases this
 ·next d hn hu=>exact ⟨d,hu,fun ms hc=>hn ms hc⟩
 ·cases this
theorem Ope.tasY {t u xt:Nat} {x:Operand} {v:PV} [hc:Con C.A t] (hx:pev (lget e) x=some (.ifc u v)) (he:Nat.beq u t=true) (hK:K (.tup [v,B true]) h):Ope C X { dst:=d,op:=.typeAssert x xt t true,type,pos,after,guard } e ds h K:=by
 refine Ope.quiet rfl ?_ hK
 obtain ⟨dd,h1,h2⟩:=hc.noIfc
 simp only [pquiet,hx,ptypeAssert,h1]
 cases dd<;>first | exact absurd rfl (h2 _) | simp only [he]
theorem Ope.tasN {t u xt:Nat} {x:Operand} {v z:PV} [hc:Con C.A t] [hz:Zer C.A t z] (hx:pev (lget e) x=some (.ifc u v)) (he:Nat.beq u t=false) (hK:K (.tup [z,B false]) h) :
  Ope C X { dst:=d,op:=.typeAssert x xt t true,type,pos,after,guard } e ds h K:=by
 refine Ope.quiet rfl ?_ hK
 obtain ⟨dd,h1,h2⟩:=hc.noIfc
 have hz':=hz.ok
 unfold pzero at hz'
 split at hz'
 case h_2=>cases hz'
 next ti hti =>
 split at hz'
 case h_2=>cases hz'
 next zv hzv =>
 simp only [pquiet,hx,ptypeAssert,h1]
 cases dd<;>first | exact absurd rfl (h2 _) | simp only [he,hti,hzv,hz']
theorem Ope.eqI {t u t':Nat} {x y:Operand} {v:PV} [hi:Ifc C.A t] (hx:pev (lget e) x=some (.ifc u v)) (hy:pev (lget e) y=some (.lit .nilifc)) (hK:K (B false) h) :
  Ope C X { dst:=d,op:=.binOp .eql t x y t',type,pos,after,guard } e ds h K:=by
 refine Ope.quiet rfl ?_ hK
 obtain ⟨ms,hms⟩:=hi.get
 simp only [pquiet,hx,hy,pbin]
 have hn:pnil C.A t (.ifc u v) (.lit .nilifc)=some false:=by simp only [pnil,hms]
 rw [hn]
 cases hv:PV.toAV (.ifc u v) with
 |none=>rfl
 |some a =>
  have:bothNil a .nilifc=false:=by
   simp only [PV.toAV] at hv
   split at hv
   ·cases hv;rfl
   ·cases hv
  simp only [PV.toAV,this]
  rfl
theorem Ope.eqN {t t':Nat} {x y:Operand} [hi:Ifc C.A t] (hx:pev (lget e) x=some (.lit .nilifc)) (hy:pev (lget e) y=some (.lit .nilifc)) (hc:isConstB y=true) (hK:K (B true) h) :
  Ope C X { dst:=d,op:=.binOp .eql t x y t',type,pos,after,guard } e ds h K:=by
 refine Ope.quiet rfl ?_ hK
 obtain ⟨ms,hms⟩:=hi.get
 simp only [pquiet,hx,hy,pbin,PV.toAV,bothNil,anils,hms,hc,Bool.or_true,plit,PV.ofAV]
theorem Ope.slT {t sz bytes m:Nat} {agg:Bool} {x y:Operand} {kk:IntKind} {a:Int} {tl:Tail} {vs:List PV} [hs:Slc C.A t agg sz bytes] (hx:pev (lget e) x=some (.sl tl vs)) (hy:pev (lget e) y=some (.lit (.int kk a))) (ha:a=(m:Int)) (hm:m≤vs.length)
  (hnc:∀ v∈vs,v.nc=sz) (hK:K (.sl (stail tl m vs.length) (vs.take m)) h):Ope C X { dst:=d,op:=.slice t x none (some y) none,type,pos,after,guard } e ds h K:=by
 refine Ope.quiet rfl ?_ hK
 subst ha
 obtain ⟨el,ti,h1,h2,h3,_,_⟩:=hs.get
 obtain ⟨d',ti',h4,h5,rfl,rfl⟩:=h2.get
 rw [h3] at h5
 cases h5
 have hai:aidx (m:Int) (vs.length+1)=some m:=by
  show aidx (Int.ofNat m) (vs.length+1)=some m
  simp [aidx,(T.blt_iff _ _).2 (show m < vs.length+1 by omega)]
 have hall:vs.all (fun v=>Nat.beq v.nc ti.size)=true:=List.all_eq_true.2 fun v hv=>by rw [hnc v hv];exact Nat.beq_refl _
 simp only [pquiet,hx,hy,popt,pslice,h1,h3,pbound,hai,hall,List.drop_zero]
theorem Ope.slD {t sz bytes m:Nat} {agg:Bool} {x y:Operand} {kk:IntKind} {a:Int} {tl:Tail} {vs:List PV} [hs:Slc C.A t agg sz bytes] (hx:pev (lget e) x=some (.sl tl vs)) (hy:pev (lget e) y=some (.lit (.int kk a))) (ha:a=(m:Int)) (hm:m≤vs.length)
  (hnc:∀ v∈vs,v.nc=sz) (hK:K (.sl (stail tl vs.length vs.length) (vs.drop m)) h):Ope C X { dst:=d,op:=.slice t x (some y) none none,type,pos,after,guard } e ds h K:=by
 refine Ope.quiet rfl ?_ hK
 subst ha
 obtain ⟨el,ti,h1,h2,h3,_,_⟩:=hs.get
 obtain ⟨d',ti',h4,h5,rfl,rfl⟩:=h2.get
 rw [h3] at h5
 cases h5
 have hai:aidx (m:Int) (vs.length+1)=some m:=by
  show aidx (Int.ofNat m) (vs.length+1)=some m
  simp [aidx,(T.blt_iff _ _).2 (show m < vs.length+1 by omega)]
 have hall:vs.all (fun v=>Nat.beq v.nc ti.size)=true:=List.all_eq_true.2 fun v hv=>by rw [hnc v hv];exact Nat.beq_refl _
 simp only [pquiet,hx,hy,popt,pslice,h1,h3,pbound,hai,hall,List.take_length]
theorem Ope.slTL {t sz bytes m:Nat} {agg:Bool} {x y:Operand} {kk:IntKind} {a:Int} {j o len cap:Nat} {ez:Option Nat} [hs:Slc C.A t agg sz bytes] (hx:pev (lget e) x=some (.ms j o len cap ez)) (hy:pev (lget e) y=some (.lit (.int kk a))) (ha:a=(m:Int)) (hm:m≤cap) (hlc:len≤cap)
  (hK:K (.ms j o m cap ez) h):Ope C X { dst:=d,op:=.slice t x none (some y) none,type,pos,after,guard } e ds h K:=by
 refine Ope.quiet rfl ?_ hK
 subst ha
 obtain ⟨el,ti,h1,h2,h3,_,_⟩:=hs.get
 have hai:aidx (m:Int) (cap+1)=some m:=by
  show aidx (Int.ofNat m) (cap+1)=some m
  simp [aidx,(T.blt_iff _ _).2 (show m < cap+1 by omega)]
 have hle:Nat.ble len cap=true:=by rw [Nat.ble_eq];exact hlc
 simp only [pquiet,hx,hy,popt,pslice,h1,h3,hle,pbound,hai]
 cases hc:Nat.beq cap 0 with
 |true =>
  have:=Nat.eq_of_beq_eq_true hc
  subst this
  rfl
 |false=>simp
theorem Each.of {p:PV→Prop}:∀ {vs:List PV},(∀ v∈vs,p v)→Each p vs
 |[],_=>trivial
 |v::vs,h=>⟨h v (by simp),Each.of fun x hx=>h x (List.mem_cons_of_mem _ hx)⟩
theorem Ope.ap0 {t tx sz bytes sz' bytes':Nat} {agg agg':Bool} {x y:Operand} {tl tl':Tail} {vs:List PV} [hs:Slc C.A t agg sz bytes] [hs':Slc C.A tx agg' sz' bytes'] (hx:pev (lget e) x=some (.sl tl vs)) (hy:pev (lget e) y=some (.sl tl' [])) (hK:K (.sl tl vs) h) :
  Ope C X { dst:=d,op:=.call { callee:=.builtin .append,args:=#[x,y],argTypes:=#[t,tx] },type,pos,after,guard } e ds h K:=by
 obtain ⟨el,ti,h1,h2,h3,_,_⟩:=hs.get
 obtain ⟨el',ti',h1',_⟩:=hs'.get
 unfold Ope
 simp only [pop,pkind,ploud,pargs,hx,hy,PAppend,h1,h1',h3]
 exact .inl ⟨by trivial,hK⟩
theorem Ope.apO {t tx sz bytes sz' bytes':Nat} {agg agg':Bool} {x y:Operand} {tl':Tail} {vs ws:List PV} [hs:Slc C.A t agg sz bytes] [hs':Slc C.A tx agg' sz' bytes'] (hx:pev (lget e) x=some (.sl .ex vs)) (hy:pev (lget e) y=some (.sl tl' ws)) (hne:ws≠[])
  (hb1:(vs.length+ws.length) * bytes≤140737488355328) (hb2:vs.length+ws.length≤1000000000) (h1:1≤sz) (hv:∀ v∈vs,v.nc=sz) (hw:∀ v∈ws,v.nc=sz∧PV.allOne v.cells=true) (hK:K (.sl (.own n) (vs++ws)) (HE (n+1) ((n,some .own)::l))) :
  Ope C X { dst:=d,op:=.call { callee:=.builtin .append,args:=#[x,y],argTypes:=#[t,tx] },type,pos,after,guard } e ds (HE n l) K:=by
 obtain ⟨el,ti,q1,q2,q3,q4,q5⟩:=hs.get
 obtain ⟨d',ti',h4,h5,rfl,rfl⟩:=q2.get
 rw [q3] at h5
 cases h5
 subst q4
 obtain ⟨el',ti',q1',_⟩:=hs'.get
 unfold Ope
 simp only [pop,pkind,ploud,pargs,hx,hy,PAppend,q1,q1',q3]
 exact .inr ⟨hne,hb1,hb2,h1,q5,Each.of hv,Each.of hw,.inl (by rw [HE_add];exact hK)⟩
theorem Ope.apP {t tx sz bytes sz' bytes' j:Nat} {agg agg':Bool} {x y:Operand} {tl':Tail} {vs ws:List PV} [hs:Slc C.A t agg sz bytes] [hs':Slc C.A tx agg' sz' bytes'] (hx:pev (lget e) x=some (.sl (.own j) vs)) (hy:pev (lget e) y=some (.sl tl' ws)) (hne:ws≠[]) (hne':vs≠[]) (hg:hget l j=some .own)
  (hb1:(vs.length+ws.length) * bytes≤140737488355328) (hb2:vs.length+ws.length≤1000000000) (h1:1≤sz) (hv:∀ v∈vs,v.nc=sz) (hw:∀ v∈ws,v.nc=sz∧PV.allOne v.cells=true) (hK:K (.sl (.own n) (vs++ws)) (HE (n+1) ((n,some .own)::(j,none)::l))) :
  Ope C X { dst:=d,op:=.call { callee:=.builtin .append,args:=#[x,y],argTypes:=#[t,tx] },type,pos,after,guard } e ds (HE n l) K:=by
 obtain ⟨el,ti,q1,q2,q3,q4,q5⟩:=hs.get
 obtain ⟨d',ti',h4,h5,rfl,rfl⟩:=q2.get
 rw [q3] at h5
 cases h5
 subst q4
 obtain ⟨el',ti',q1',_⟩:=hs'.get
 unfold Ope
 simp only [pop,pkind,ploud,pargs,hx,hy,PAppend,q1,q1',q3]
 exact .inr ⟨hne,hb1,hb2,h1,q5,Each.of hv,Each.of hw,hne',hg,by rw [HE_del,HE_add];exact hK⟩
def mksP (A : AP) (t : TypeId) : Option (AV × Nat) :=
 match A.under t with
 |some (.slice e)=>match A.info e with
  |some ie=>match ie.zero with
   |some z=>match z.cells.size == ie.size && Nat.ble 1 ie.size,ofCells z.cells.toList with
    |true,some [a]=>match PV.ofAV a with
     |some _=>some (a,ie.bytes)
     |none=>none
    |_,_=>none
   |none=>none
  |none=>none
 |_=>none
class Mks (A:AP) (t:Nat) (z:outParam PV) (bytes:outParam Nat):Prop where
 ok:∃ a,mksP A t=some (a,bytes)∧PV.ofAV a=some z
theorem acopies_one (a:AV):∀ n,acopies [a] n=List.replicate n a
 |0=>rfl
 |n+1=>by simp [acopies,acopies_one a n,List.replicate_succ]
theorem ofAVs_rep {a:AV} {z:PV} (h:PV.ofAV a=some z):∀ n,PV.ofAVs (List.replicate n a)=some (List.replicate n z)
 |0=>rfl
 |n+1=>by simp [List.replicate_succ,PV.ofAVs,h,ofAVs_rep h n]
theorem Mks.get {A:AP} {t bytes:Nat} {z:PV} (h:Mks A t z bytes):∃ e ie,A.under t=some (.slice e)∧A.info e=some ie∧ie.bytes=bytes∧∀ n,∃ zs,azeros A e n=some zs∧PV.ofAVs zs=some (List.replicate n z):=by
 obtain ⟨a,h1,h2⟩:=h.ok
 unfold mksP at h1
 split at h1
 case h_2=>cases h1
 next e hu =>
 split at h1
 case h_2=>cases h1
 next ie hie =>
 split at h1
 case h_2=>cases h1
 next zz hz =>
 split at h1
 case h_2=>cases h1
 next a' hb hcs =>
 split at h1
 case h_2=>cases h1
 next hpa =>
 cases h1
 refine ⟨e,ie,hu,hie,rfl,fun n=>⟨List.replicate n a,?_,ofAVs_rep h2 n⟩⟩
 unfold azeros
 simp only [hie,hz,hb,hcs,acopies_one]
theorem Ope.loadL {t i o:Nat} {a:Operand} {v:PV} {cs:List PV} [ht:Ty C.A t false 1] (ha:pev (lget e) a=some (.ptr i o)) (hg:hget l i=some (.cells cs)) (hv:cs[o]?=some v) (hK:K v (HE n l)) :
  Ope C X { dst:=d,op:=.load t a,type,pos,after,guard } e ds (HE n l) K :=
 Ope.load ha (by simp only [loadK,hg,partK,nthK_eq];exact hv) hK
theorem putK_one {β:Type} {v:PV}:∀ (o:Nat) (cs:List PV) (k:List PV→Option β),o < cs.length→putK o [v] cs k=k (cs.set o v)
 |0,c::cs,k,_=>by simp [putK,endK_eq]
 |o+1,c::cs,k,h=>by simp only [putK];rw [putK_one o cs _ (by simpa using h)];rfl
 |_,[],_,h=>by simp at h
theorem Ope.storeL {t i o:Nat} {a x:Operand} {v:PV} {cs:List PV} [ht:Ty C.A t false 1] (ha:pev (lget e) a=some (.ptr i o)) (hx:pev (lget e) x=some v) (hg:hget l i=some (.cells cs)) (hv:v.cells=[v]) (ho:PV.allOne [v]=true) (hlt:o < cs.length)
  (hK:K (.tup []) (HE n ((i,some (.cells (cs.set o v)))::l))):Ope C X { dst:=d,op:=.store t a x,type,pos,after,guard } e ds (HE n l) K :=
 Ope.store (sz:=1) ha hx hg (by rw [← PV.cells_length,hv];rfl) (by rw [hv];exact ho) (by rw [hv];exact putK_one o cs some hlt) hK
theorem Run.frzS {c:Code} {d i len cap:Nat} {ez:Option Nat} {vs post:List PV} {sz:Nat} (hd:lget e d=some (.ms i 0 len cap ez)) (hg:hget l i=some (.cells (flat vs++post))) (hl:len=vs.length) (hlc:len≤cap) (hnc:∀ v∈vs,v.nc=sz)
  (hr:Run C F X (.c c::k) ((d,.sl .no vs)::e) ds (HE n ((i,none)::l))):Run C F X (.c c::k) e ds (HE n l):=by
 refine Run.ghost (fun t ht=>⟨t.set d (.sl .no vs),?_,?_⟩) hr
 ·intro j u hj
  simp only [lget] at hj
  simp only [T.get_set]
  split at hj
  ·next hb=>rw [if_pos (Nat.eq_of_beq_eq_true hb)];exact hj
  ·next hb =>
   rw [if_neg (fun c=>by subst c;simp at hb)]
   exact ht j u hj
 ·intro w0 s arr hw hh htv
  have hgi:s.h.get i=some (.cells (flat vs++post)):=by rw [hh];exact hg
  obtain ⟨arr',tt,e2,e3,hin,e4⟩:=hw.cells hgi
  have hall:=Each.of hnc
  have hx:=Ext.freeze (s:=s) (n:=vs.length * sz) e4
  refine ⟨s.freeze i (vs.length * sz),rfl,hw.freeze hgi,hx,by simp only [St.freeze,hh,HE_del],fun j u hj=>?_⟩
  rw [T.get_set] at hj
  split at hj
  ·next hjd =>
   cases hj
   subst hjd
   obtain ⟨x,x1,x2⟩:=htv j _ (ht j _ hd)
   obtain ⟨_,rfl⟩:=RV_ms.1 x2
   refine ⟨_,x1,RV_sl.2 (.inr ⟨s.e i,0,cap,sz,by rw [hl],by omega,?_,trivial⟩)⟩
   refine REs.of_flat hall (RMs.of_get fun q v hq=>?_)
   have hqlt:q < (flat vs).length:=(List.getElem?_eq_some_iff.1 hq).1
   have hql:=hqlt
   rw [flat_len hall] at hqlt
   obtain ⟨y,u1,u2⟩:=e3.get (a:=v) (i:=q) (by rw [List.getElem?_append_left hql];exact hq)
   refine ⟨y,?_,(R2.ext hx v).1 _ u2⟩
   rw [Nat.zero_add]
   exact fcell_new (upd_self _ _ _) hqlt e2 (by simpa using u1)
  ·obtain ⟨x,x1,x2⟩:=htv j u hj
   exact ⟨x,x1,(R2.ext hx u).1 _ x2⟩
def Clo (P:Program) (g:Nat) (b:Bool):Prop:=∀ (hp:PH) (X:PV→PH→Prop),PCall P g [] hp (fun v h'=>v=.lit (.bool b)∧h'=hp) X
theorem Ope.clo {f:Operand} {args:Array Operand} {tys:Array TypeId} {g:Nat} {b:Bool} (hf:pev (lget e) f=some (.fn (.func g) [] [])) (ha:pargs (pev (lget e)) args.toList=some []) (hc:Clo C.P g b) (hK:K (B b) h) :
  Ope C X { dst:=d,op:=.call { callee:=.value f,args,argTypes:=tys },type,pos,after,guard } e ds h K :=
 Ope.call hf ha rfl ((hc h _).mono (fun v h' hv=>by obtain ⟨rfl,rfl⟩:=hv;exact hK) fun _ _ hx=>hx)
end
end Go.Pv
namespace Go.Pv
open Go.Proofs Go.Am
set_option maxRecDepth 100000
def memK : List Nat → Nat → Bool
  | [],_=>false
  | x :: l, i => match Nat.beq i x with
    | true=>true
    | false=>memK l i
def setAll:List Nat→T Unit→T Unit
  | [],t=>t
  | n::l,t=>setAll l (t.set n ())
theorem setAll_get:∀ (l:List Nat) (t:T Unit) (x:Nat),(setAll l t).get x=some ()→x∈l∨t.get x=some ()
  | [],_,_,h=>.inr h
  | n :: l, t, x, h => by
    rcases setAll_get l _ x h with h1 | h1
    · exact .inl (List.mem_cons_of_mem _ h1)
    · rw [T.get_set] at h1
      split at h1
      · next e=>subst e;exact .inl (List.mem_cons_self ..)
      · exact .inr h1
def eqTypes:List Nat:=[7,8,34,35,43,44,96,110,111,134,137,150,151,152,153,177]
noncomputable def A0:AP:=AP.of Tryz.prog
def E0:Eqs:={ eqs:=setAll eqTypes .nil }
theorem E0_ok:E0.Ok Tryz.prog:=by
  have h:eqTypes.all (fun t=>!(Tryz.prog.eqGuardType Tryz.prog.depth t) && !(Tryz.prog.stoodInHeld t))=true:=by kernel_rfl
  refine ⟨fun t ht=>?_⟩
  rcases setAll_get _ _ _ ht with h1 | h1
  · have := List.all_eq_true.1 h t h1
    simp only [Bool.and_eq_true,Bool.not_eq_true'] at this
    exact this
  · rw [T.get_nil] at h1;cases h1
theorem A0_ok:A0.Ok Tryz.prog:=AP.of_ok _ (by kernel_rfl)
noncomputable abbrev P0:Program:=Tryz.prog
noncomputable abbrev cx (M:Nat→Bool) (fi sz:Nat):Cx:=⟨A0,E0,P0,M,fi,sz,none⟩
theorem cx_ok (M:Nat→Bool) (fi sz:Nat):(cx M fi sz).Ok:=⟨A0_ok,E0_ok,by kernel_rfl⟩
noncomputable abbrev c2:Cx:=cx (memK []) 2 1
noncomputable abbrev c3:Cx:=cx (memK [15]) 3 63
noncomputable abbrev c5:Cx:=cx (memK [74]) 5 152
noncomputable abbrev c13:Cx:=cx (memK [71,81]) 13 113
noncomputable abbrev c14:Cx:=cx (memK [2,3]) 14 10
noncomputable abbrev c16:Cx:=cx (memK [2,3]) 16 10
noncomputable abbrev c18:Cx:=cx (memK []) 18 26
noncomputable abbrev c19:Cx:=cx (memK [1]) 19 8
noncomputable abbrev c21:Cx:=cx (memK [1]) 21 8
noncomputable abbrev c23:Cx:=cx (memK [2,3]) 23 10
noncomputable abbrev c25:Cx:=cx (memK [2,3]) 25 10
noncomputable abbrev c27:Cx:=cx (memK [2,3]) 27 10
noncomputable abbrev c29:Cx:=cx (memK []) 29 26
noncomputable abbrev c30:Cx:=cx (memK [5]) 30 6
noncomputable abbrev c31:Cx:=cx (memK [5]) 31 6
noncomputable abbrev c32:Cx:=cx (memK [2]) 32 3
noncomputable abbrev c33:Cx:=cx (memK []) 33 8
noncomputable abbrev c43:Cx:=cx (memK []) 43 15
noncomputable abbrev c47:Cx:=cx (memK []) 47 22
noncomputable abbrev c48:Cx:=cx (memK []) 48 7
noncomputable abbrev c49:Cx:=cx (memK [13]) 49 20
noncomputable abbrev c50:Cx:=cx (memK []) 50 8
noncomputable abbrev c51:Cx:=cx (memK [19]) 51 25
noncomputable abbrev c52:Cx:=cx (memK []) 52 42
noncomputable abbrev c53:Cx:=cx (memK []) 53 7
noncomputable abbrev c56:Cx:=cx (memK [14,17]) 56 25
noncomputable abbrev c57:Cx:=cx (memK []) 57 19
noncomputable abbrev c58:Cx:=cx (memK [5]) 58 21
noncomputable abbrev c59:Cx:=cx (memK []) 59 7
noncomputable abbrev c60:Cx:=cx (memK []) 60 6
noncomputable abbrev c61:Cx:=cx (memK [7]) 61 10
noncomputable abbrev c62:Cx:=cx (memK []) 62 10
noncomputable abbrev c63:Cx:=cx (memK []) 63 8
noncomputable abbrev c64:Cx:=cx (memK [16]) 64 42
noncomputable abbrev c66:Cx:=cx (memK []) 66 6
noncomputable abbrev c67:Cx:=cx (memK []) 67 8
noncomputable abbrev c68:Cx:=cx (memK []) 68 7
noncomputable abbrev c69:Cx:=cx (memK []) 69 22
noncomputable abbrev c70:Cx:=cx (memK [22]) 70 26
noncomputable abbrev c71:Cx:=cx (memK []) 71 19
noncomputable abbrev c72:Cx:=cx (memK []) 72 8
noncomputable abbrev c73:Cx:=cx (memK []) 73 16
noncomputable abbrev c75:Cx:=cx (memK []) 75 7
noncomputable abbrev c76:Cx:=cx (memK []) 76 8
noncomputable abbrev c77:Cx:=cx (memK []) 77 12
noncomputable abbrev c78:Cx:=cx (memK [3]) 78 11
noncomputable abbrev c80:Cx:=cx (memK []) 80 23
noncomputable abbrev c81:Cx:=cx (memK []) 81 14
noncomputable abbrev c82:Cx:=cx (memK [2,3]) 82 30
noncomputable abbrev c84:Cx:=cx (memK []) 84 17
noncomputable abbrev c90:Cx:=cx (memK []) 90 10
noncomputable abbrev c91:Cx:=cx (memK [1]) 91 28
noncomputable abbrev c92:Cx:=cx (memK [17]) 92 21
noncomputable abbrev c93:Cx:=cx (memK []) 93 36
noncomputable abbrev c94:Cx:=cx (memK [1]) 94 7
noncomputable abbrev c95:Cx:=cx (memK [2,3,53]) 95 55
noncomputable abbrev c96:Cx:=cx (memK []) 96 16
noncomputable abbrev c97:Cx:=cx (memK []) 97 5
noncomputable abbrev c98:Cx:=cx (memK [1]) 98 4
noncomputable abbrev c99:Cx:=cx (memK []) 99 4
noncomputable abbrev c100:Cx:=cx (memK []) 100 14
noncomputable abbrev c101:Cx:=cx (memK []) 101 10
noncomputable abbrev c102:Cx:=cx (memK []) 102 24
noncomputable abbrev c103:Cx:=cx (memK []) 103 5
noncomputable abbrev c104:Cx:=cx (memK [3]) 104 11
noncomputable abbrev c105:Cx:=cx (memK []) 105 9
noncomputable abbrev c106:Cx:=cx (memK []) 106 10
noncomputable abbrev c107:Cx:=cx (memK [3,14]) 107 18
noncomputable abbrev c109:Cx:=cx (memK []) 109 10
noncomputable abbrev c110:Cx:=cx (memK []) 110 15
noncomputable abbrev c111:Cx:=cx (memK []) 111 25
noncomputable abbrev c112:Cx:=cx (memK [2,3]) 112 16
noncomputable abbrev c113:Cx:=cx (memK [1]) 113 4
noncomputable abbrev c114:Cx:=cx (memK []) 114 8
noncomputable abbrev c116:Cx:=cx (memK [3]) 116 28
noncomputable abbrev c117:Cx:=cx (memK []) 117 27
noncomputable abbrev c118:Cx:=cx (memK []) 118 11
noncomputable abbrev c119:Cx:=cx (memK []) 119 21
noncomputable abbrev c120:Cx:=cx (memK [10]) 120 13
noncomputable abbrev c121:Cx:=cx (memK []) 121 15
noncomputable abbrev c122:Cx:=cx (memK []) 122 148
noncomputable abbrev c123:Cx:=cx (memK []) 123 8
noncomputable abbrev c124:Cx:=cx (memK [10]) 124 13
noncomputable abbrev c125:Cx:=cx (memK [5,6]) 125 42
noncomputable abbrev c126:Cx:=cx (memK [1]) 126 11
noncomputable abbrev c127:Cx:=cx (memK []) 127 10
noncomputable abbrev c128:Cx:=cx (memK []) 128 24
noncomputable abbrev c129:Cx:=cx (memK [2,3]) 129 16
noncomputable abbrev c130:Cx:=cx (memK []) 130 39
noncomputable abbrev c131:Cx:=cx (memK [1]) 131 6
noncomputable abbrev c132:Cx:=cx (memK []) 132 6
noncomputable abbrev c133:Cx:=cx (memK [1]) 133 6
noncomputable abbrev c134:Cx:=cx (memK []) 134 5
noncomputable abbrev c135:Cx:=cx (memK [1]) 135 3
noncomputable abbrev c136:Cx:=cx (memK [1]) 136 6
noncomputable abbrev c137:Cx:=cx (memK [1]) 137 7
noncomputable abbrev c138:Cx:=cx (memK []) 138 20
noncomputable abbrev c139:Cx:=cx (memK []) 139 53
noncomputable abbrev c148:Cx:=cx (memK []) 148 25
noncomputable abbrev c149:Cx:=cx (memK []) 149 6
noncomputable abbrev c171:Cx:=cx (memK [1]) 171 10
noncomputable abbrev c172:Cx:=cx (memK [1]) 172 6
noncomputable abbrev c173:Cx:=cx (memK [2]) 173 10
noncomputable abbrev c174:Cx:=cx (memK [2]) 174 24
noncomputable abbrev c175:Cx:=cx (memK [2]) 175 8
noncomputable abbrev c176:Cx:=cx (memK [2]) 176 17
noncomputable abbrev c177:Cx:=cx (memK [2]) 177 10
instance:Ty A0 3 false 1:=⟨by kernel_rfl⟩
instance:Ty A0 4 false 1:=⟨by kernel_rfl⟩
instance:Ty A0 22 false 1:=⟨by kernel_rfl⟩
instance:Ty A0 25 false 1:=⟨by kernel_rfl⟩
instance:Ty A0 35 true 2:=⟨by kernel_rfl⟩
instance:Ty A0 44 true 8:=⟨by kernel_rfl⟩
instance:Ty A0 47 false 1:=⟨by kernel_rfl⟩
instance:Ty A0 69 false 1:=⟨by kernel_rfl⟩
instance:Ty A0 71 false 1:=⟨by kernel_rfl⟩
instance:Ty A0 79 false 1:=⟨by kernel_rfl⟩
instance:Ty A0 87 false 1:=⟨by kernel_rfl⟩
instance:Ty A0 91 false 1:=⟨by kernel_rfl⟩
instance:Ty A0 96 true 2:=⟨by kernel_rfl⟩
instance:Ty A0 104 false 1:=⟨by kernel_rfl⟩
instance:Ty A0 111 true 3:=⟨by kernel_rfl⟩
instance:Ty A0 123 false 1:=⟨by kernel_rfl⟩
instance:Ty A0 127 false 1:=⟨by kernel_rfl⟩
instance:Ty A0 134 true 9:=⟨by kernel_rfl⟩
instance:Ty A0 137 true 2:=⟨by kernel_rfl⟩
instance:Ty A0 144 false 1:=⟨by kernel_rfl⟩
instance:Ty A0 145 false 1:=⟨by kernel_rfl⟩
instance:Ty A0 147 false 1:=⟨by kernel_rfl⟩
instance:Ty A0 151 true 8:=⟨by kernel_rfl⟩
instance:Ty A0 166 false 1:=⟨by kernel_rfl⟩
instance:Fld A0 153 0 0 true 8:=⟨by kernel_rfl⟩
instance:Fld A0 151 0 0 true 8:=⟨by kernel_rfl⟩
instance:Fld A0 111 0 0 false 1:=⟨by kernel_rfl⟩
instance:Fld A0 44 1 1 false 1:=⟨by kernel_rfl⟩
instance:Fld A0 96 1 1 false 1:=⟨by kernel_rfl⟩
instance:Fld A0 96 0 0 false 1:=⟨by kernel_rfl⟩
instance:Fld A0 111 2 2 false 1:=⟨by kernel_rfl⟩
instance:Fld A0 111 1 1 false 1:=⟨by kernel_rfl⟩
instance:Fld A0 44 5 7 false 1:=⟨by kernel_rfl⟩
instance:Fld A0 44 4 5 true 2:=⟨by kernel_rfl⟩
instance:Fld A0 44 3 3 true 2:=⟨by kernel_rfl⟩
instance:Fld A0 44 2 2 false 1:=⟨by kernel_rfl⟩
instance:Fld A0 44 0 0 false 1:=⟨by kernel_rfl⟩
instance:Fld A0 35 1 1 false 1:=⟨by kernel_rfl⟩
instance:Fld A0 35 0 0 false 1:=⟨by kernel_rfl⟩
instance:Arr A0 137 2 false 1:=⟨by kernel_rfl⟩
instance:Arr A0 134 3 true 3:=⟨by kernel_rfl⟩
instance:Slc A0 147 true 2 16:=⟨by kernel_rfl⟩
instance:Slc A0 154 true 2 16:=⟨by kernel_rfl⟩
instance:Slc A0 132 false 1 8:=⟨by kernel_rfl⟩
instance:Slc A0 87 false 1 16:=⟨by kernel_rfl⟩
instance:Slc A0 123 false 1 8:=⟨by kernel_rfl⟩
instance:Slc A0 69 true 8 64:=⟨by kernel_rfl⟩
instance:Slc A0 47 false 1 2:=⟨by kernel_rfl⟩
instance:Slc A0 29 true 2 16:=⟨by kernel_rfl⟩
instance:Slc A0 22 true 8 64:=⟨by kernel_rfl⟩
instance:Slc A0 55 false 1 24:=⟨by kernel_rfl⟩
instance:Zer A0 166 (.lit (.int .u64 (0))):=⟨by kernel_rfl⟩
instance:Zer A0 4 (.lit (.bool false)):=⟨by kernel_rfl⟩
instance:Zer A0 137 (.agg [.lit (.int .i64 (0)),.lit (.int .i64 (0))]):=⟨by kernel_rfl⟩
instance:Zer A0 134 (.agg [.lit (.nilfn),.lit (.nilfn),.lit (.nilfn),.lit (.nilfn),.lit (.nilfn),.lit (.nilfn),.lit (.nilfn),.lit (.nilfn),.lit (.nilfn)]):=⟨by kernel_rfl⟩
instance:Zer A0 147 (.sl .ex []):=⟨by kernel_rfl⟩
instance:Zer A0 145 (.lit (.nilfn)):=⟨by kernel_rfl⟩
instance:Zer A0 111 (.agg [.lit (.nilfn),.lit (.nilfn),.lit (.nilfn)]):=⟨by kernel_rfl⟩
instance:Zer A0 87 (.sl .ex []):=⟨by kernel_rfl⟩
instance:Zer A0 96 (.agg [.lit (.int .i64 (0)),.lit (.int .i64 (0))]):=⟨by kernel_rfl⟩
instance:Zer A0 25 (.lit (.int .i64 (0))):=⟨by kernel_rfl⟩
instance:Zer A0 22 (.sl .ex []):=⟨by kernel_rfl⟩
instance:Zer A0 3 (.lit (.int .i64 (0))):=⟨by kernel_rfl⟩
instance:Zer A0 44 (.agg [.lit (.int .i64 (0)),.lit (.int .i64 (0)),.lit (.int .i64 (0)),.lit (.int .i64 (0)),.lit (.int .i64 (0)),.lit (.int .i64 (0)),.lit (.int .i64 (0)),.lit (.int .i64 (0))]):=⟨by kernel_rfl⟩
instance:Zer A0 35 (.agg [.lit (.int .i64 (0)),.lit (.int .i64 (0))]):=⟨by kernel_rfl⟩
instance:Bld A0 153 [.lit (.int .i64 (0)),.lit (.int .i64 (0)),.lit (.int .i64 (0)),.lit (.int .i64 (0)),.lit (.int .i64 (0)),.lit (.int .i64 (0)),.lit (.int .i64 (0)),.lit (.int .i64 (0))] [(0,8)]:=⟨by kernel_rfl⟩
instance:Bld A0 151 [.lit (.int .i64 (0)),.lit (.int .i64 (0)),.lit (.int .i64 (0)),.lit (.int .i64 (0)),.lit (.int .i64 (0)),.lit (.int .i64 (0)),.lit (.int .i64 (0)),.lit (.int .i64 (0))] [(0,8)]:=⟨by kernel_rfl⟩
instance:Bld A0 134 [.lit (.nilfn),.lit (.nilfn),.lit (.nilfn),.lit (.nilfn),.lit (.nilfn),.lit (.nilfn),.lit (.nilfn),.lit (.nilfn),.lit (.nilfn)] [(0,3),(3,3),(6,3)]:=⟨by kernel_rfl⟩
instance:Bld A0 111 [.lit (.nilfn),.lit (.nilfn),.lit (.nilfn)] [(0,1),(1,1),(2,1)]:=⟨by kernel_rfl⟩
instance:Bld A0 137 [.lit (.int .i64 (0)),.lit (.int .i64 (0))] [(0,1),(1,1)]:=⟨by kernel_rfl⟩
instance:Bld A0 96 [.lit (.int .i64 (0)),.lit (.int .i64 (0))] [(0,1),(1,1)]:=⟨by kernel_rfl⟩
instance:Bld A0 44 [.lit (.int .i64 (0)),.lit (.int .i64 (0)),.lit (.int .i64 (0)),.lit (.int .i64 (0)),.lit (.int .i64 (0)),.lit (.int .i64 (0)),.lit (.int .i64 (0)),.lit (.int .i64 (0))] [(0,1),(1,1),(2,1),(3,2),(5,2),(7,1)]:=⟨by kernel_rfl⟩
instance:Bld A0 35 [.lit (.int .i64 (0)),.lit (.int .i64 (0))] [(0,1),(1,1)]:=⟨by kernel_rfl⟩
instance:Con A0 153:=⟨by kernel_rfl⟩
instance:Con A0 151:=⟨by kernel_rfl⟩
instance:Con A0 9:=⟨by kernel_rfl⟩
instance:Con A0 25:=⟨by kernel_rfl⟩
instance:Ink A0 78 .u64:=⟨by kernel_rfl⟩
instance:Ink A0 166 .u64:=⟨by kernel_rfl⟩
instance:Ink A0 164 .u32:=⟨by kernel_rfl⟩
instance:Ink A0 141 .u64:=⟨by kernel_rfl⟩
instance:Ink A0 104 .u16:=⟨by kernel_rfl⟩
instance:Ink A0 3 .i64:=⟨by kernel_rfl⟩
instance:Ink A0 5 .u8:=⟨by kernel_rfl⟩
instance:Bsl A0 123 [.lit (.int .u64 (0))] false 1:=⟨by kernel_rfl⟩
instance:Bsl A0 147 [.lit (.int .i64 (0)),.lit (.int .i64 (0))] true 2:=⟨by kernel_rfl⟩
instance:Bsl A0 154 [.lit (.int .i64 (0)),.lit (.int .i64 (0))] true 2:=⟨by kernel_rfl⟩
instance:Bsl A0 132 [.lit (.int .i64 (0))] false 1:=⟨by kernel_rfl⟩
instance:Bsl A0 87 [.lit (.nilifc)] false 1:=⟨by kernel_rfl⟩
instance:Bsl A0 22 [.lit (.int .i64 (0)),.lit (.int .i64 (0)),.lit (.int .i64 (0)),.lit (.int .i64 (0)),.lit (.int .i64 (0)),.lit (.int .i64 (0)),.lit (.int .i64 (0)),.lit (.int .i64 (0))] true 8:=⟨by kernel_rfl⟩
instance:Bsl A0 29 [.lit (.int .i64 (0)),.lit (.int .i64 (0))] true 2:=⟨by kernel_rfl⟩
instance:Bsl A0 55 [.sl .ex []] false 1:=⟨by kernel_rfl⟩
instance:Ifc A0 20:=⟨by kernel_rfl⟩
instance:Ifc A0 91:=⟨by kernel_rfl⟩
end Go.Pv
namespace Go.Pv
open Go.Am Go.RowKit
theorem wrap_nat {k:IntKind} {p:Nat} (h:p < 2 ^ (k.bits - 1)):k.wrap (p:Int)=(p:Int):=by
 have hb:1≤k.bits:=by cases k<;>decide
 have h2:2 ^ (k.bits - 1) * 2=2 ^ k.bits:=by rw [← Nat.pow_succ];congr 1;omega
 unfold IntKind.wrap
 have e1:(p:Int) % (2 ^ k.bits:Int)=(p:Int):=by
  refine Int.emod_eq_of_lt (by omega) ?_
  have:((2 ^ k.bits:Nat):Int)=(2:Int) ^ k.bits:=by simp
  rw [← this]
  omega
 have e2:¬ ((p:Int) ≥ (2 ^ (k.bits - 1):Int)):=by
  have:((2 ^ (k.bits - 1):Nat):Int)=(2:Int) ^ (k.bits - 1):=by simp
  rw [← this]
  omega
 simp only [e1,ge_iff_le]
 rw [if_neg]
 simp only [Bool.and_eq_true,decide_eq_true_eq,not_and]
 exact fun _=>e2
theorem ofInt_nat {n p:Nat} (h:p < 2 ^ n):(BitVec.ofInt n (p:Int)).toNat=p:=by
 simp [BitVec.toNat_ofInt]
 exact Nat.mod_eq_of_lt h
theorem lt_bits {k:IntKind} {p:Nat} (h:p < 2 ^ (k.bits - 1)):p < 2 ^ k.bits :=
 Nat.lt_of_lt_of_le h (Nat.pow_le_pow_right (by decide) (Nat.sub_le _ _))
section
variable {C:Cx} {F:EQ} {X:EX} {k:List KI} {e:EL} {ds:List Nat} {h:PH} {K:PV→PH→Prop} {n:Nat} {l:HL}
variable {d:Option Tmp} {type:TypeId} {pos:String} {after:Array Edge} {guard:Option (Nat×Bool)}
theorem Ope.shrN {t t':TypeId} {x y:Operand} {kk kk':IntKind} {a b:Int} {p m:Nat} (hx:pev (lget e) x=some (.lit (.int kk a))) (hy:pev (lget e) y=some (.lit (.int kk' b))) (ha:a=(p:Int)) (hb:b=(m:Int)) (hm:m≤kk.bits) (hK:K (.lit (.int kk ((p >>> m:Nat):Int))) h) :
  Ope C X { dst:=d,op:=.binOp .shr t x y t',type,pos,after,guard } e ds h K:=by
 subst ha hb
 refine Ope.bin hx hy (v:=.lit (.int kk ((p >>> m:Nat):Int))) ?_ hK
 have h0:decide ((m:Int) < 0)=false:=by simp
 have e1:(p:Int).fdiv (2 ^ m)=((p >>> m:Nat):Int):=by
  rw [Int.fdiv_eq_ediv_of_nonneg _ (by exact Int.pow_nonneg (by decide)),Nat.shiftRight_eq_div_pow]
  simp
 simp only [abin,ashift,h0,plit,Int.toNat_natCast,Nat.min_eq_left hm,e1]
 rfl
theorem Ope.andN {t t':TypeId} {x y:Operand} {kk:IntKind} {a b:Int} {p q:Nat} (hx:pev (lget e) x=some (.lit (.int kk a))) (hy:pev (lget e) y=some (.lit (.int kk b))) (ha:a=(p:Int)) (hb:b=(q:Int)) (hp:p < 2 ^ kk.bits) (hq:q < 2 ^ (kk.bits - 1)) (hK:K (.lit (.int kk ((p &&& q:Nat):Int))) h) :
  Ope C X { dst:=d,op:=.binOp .and t x y t',type,pos,after,guard } e ds h K:=by
 subst ha hb
 refine Ope.bin hx hy (v:=.lit (.int kk ((p &&& q:Nat):Int))) ?_ hK
 have hlt:p &&& q < 2 ^ (kk.bits - 1):=Nat.lt_of_le_of_lt Nat.and_le_right hq
 simp only [abin,aint,decide_true,plit,BitVec.toNat_and,ofInt_nat hp,ofInt_nat (lt_bits hq),wrap_nat hlt]
 rfl
theorem Ope.orN {t t':TypeId} {x y:Operand} {kk:IntKind} {a b:Int} {p q:Nat} (hx:pev (lget e) x=some (.lit (.int kk a))) (hy:pev (lget e) y=some (.lit (.int kk b))) (ha:a=(p:Int)) (hb:b=(q:Int)) (hp:p < 2 ^ (kk.bits - 1)) (hq:q < 2 ^ (kk.bits - 1)) (hK:K (.lit (.int kk ((p ||| q:Nat):Int))) h) :
  Ope C X { dst:=d,op:=.binOp .or t x y t',type,pos,after,guard } e ds h K:=by
 subst ha hb
 refine Ope.bin hx hy (v:=.lit (.int kk ((p ||| q:Nat):Int))) ?_ hK
 have hlt:p ||| q < 2 ^ (kk.bits - 1):=Nat.or_lt_two_pow hp hq
 simp only [abin,aint,decide_true,plit,BitVec.toNat_or,ofInt_nat (lt_bits hp),ofInt_nat (lt_bits hq),wrap_nat hlt]
 rfl
theorem Ope.convN {s t:Nat} {x:Operand} {kk kk' ks:IntKind} {a:Int} {p:Nat} [hs:Ink C.A s ks] [ht:Ink C.A t kk] (hx:pev (lget e) x=some (.lit (.int kk' a))) (ha:a=(p:Int)) (hp:p < 2 ^ (kk.bits - 1)) (hK:K (.lit (.int kk (p:Int))) h) :
  Ope C X { dst:=d,op:=.convert s t x,type,pos,after,guard } e ds h K:=by
 subst ha
 exact Ope.conv hx (wrap_nat hp) hK
end
end Go.Pv
namespace Go.Pv
open Go.Am Go.RowKit
def PH.hide (h:PH) (O:Nat→Bool):PH:=⟨fun i=>if O i=true then none else h.get i,h.next⟩
def PH.give (h1 h:PH) (O:Nat→Bool):PH:=⟨fun i=>if O i=true then h.get i else h1.get i,h1.next⟩
section
variable {s s':St} {w0:Base} {O:Nat→Bool}
def isO (s:St) (O:Nat→Bool) (k:Nat):Prop:=∃ i,O i=true∧s.e i=k
open Classical in
noncomputable def St.hideO (s:St) (O:Nat→Bool):St:={ s with σ:=fun k=>if isO s O k then .no else s.σ k,h:=s.h.hide O }
def Base.hideO (w0:Base) (s:St) (O:Nat→Bool):Base:=⟨s.w,fun k=>k < s.w.heap.size∧(w0.pr k∨isO s O k),fun _ h=>h.1⟩
open Classical in
noncomputable def St.giveO (s s':St) (O:Nat→Bool):St:={ σ:=fun k=>if isO s O k then s.σ k else s'.σ k,e:=s'.e,h:=s'.h.give s.h O,w:=s'.w }
def Hid (s:St) (O:Nat→Bool):Prop:=∀ i,O i=true→∃ b,s.h.get i=some b∧b.isOwn=false
theorem Hid.live (hO:Hid s O) (hw:PW w0 s) {k:Nat} (h:isO s O k):∃ i,O i=true∧s.e i=k∧s.σ k=.live i∧i < s.h.next:=by
 obtain ⟨i,h1,h2⟩:=h
 obtain ⟨b,h3,h4⟩:=hO i h1
 obtain ⟨p1,p2,_⟩:=hw.hp i b h3
 have:=(BAt_live h4).1 p2
 rw [h2] at this
 exact ⟨i,h1,h2,this,p1⟩
theorem hideO_yes {k:Nat} (h:isO s O k):(s.hideO O).σ k=.no:=by simp [St.hideO,h]
theorem hideO_not {k:Nat} (h:¬ isO s O k):(s.hideO O).σ k=s.σ k:=by simp [St.hideO,h]
theorem giveO_yes {k:Nat} (h:isO s O k):(s.giveO s' O).σ k=s.σ k:=by simp [St.giveO,h]
theorem giveO_not {k:Nat} (h:¬ isO s O k):(s.giveO s' O).σ k=s'.σ k:=by simp [St.giveO,h]
theorem Ext.hideO (hO:Hid s O) (hw:PW w0 s):Ext s (s.hideO O):=by
 refine Ext.mk' ⟨Nat.le_refl _,fun k _=>⟨fun e=>?_,fun n e=>?_⟩⟩ (Nat.le_refl _) (fun _ _=>rfl) (fun k o y hy=>?_) (fun i n _ hn=>?_) (fun k r hr=>fmp_keep hr (fun n own e=>?_) fun _=>rfl)
 ·by_cases h:isO s O k
  ·exact hideO_yes h
  ·rw [hideO_not h];exact e
 ·by_cases h:isO s O k
  ·obtain ⟨_,_,_,h3,_⟩:=hO.live hw h
   rw [e] at h3;cases h3
  ·rw [hideO_not h];exact e
 ·obtain ⟨n,own,h1,h2,h3⟩:=fcell_some hy
  by_cases h:isO s O k
  ·obtain ⟨_,_,_,h4,_⟩:=hO.live hw h
   rw [h1] at h4;cases h4
  ·exact fcell_of (s:=s.hideO O) (by rw [hideO_not h];exact h1) h2 h3
 ·by_cases h:isO s O (s.e i)
  ·rw [hideO_yes h] at hn;cases hn
  ·rw [hideO_not h] at hn
   exact ⟨hn,fun arr t ha=>⟨arr,ha,rfl⟩⟩
 ·by_cases h:isO s O k
  ·obtain ⟨_,_,_,h4,_⟩:=hO.live hw h
   rw [e] at h4;cases h4
  ·exact ⟨n,own,by rw [hideO_not h];exact e⟩
theorem PW.hideO (hw:PW w0 s) (hO:Hid s O):PW (w0.hideO s O) (s.hideO O):=by
 have hx:=Ext.hideO hO hw
 refine ⟨rfl,rfl,rfl,Nat.le_refl _,fun _ _=>rfl,fun k hk=>?_,fun k o hk ho=>?_,fun k hk=>?_,fun k n i hk=>?_,fun i b hi=>?_⟩
 ·by_cases h:isO s O k
  ·exact .inl (hideO_yes h)
  ·rw [hideO_not h]
   exact hw.prot k (hk.2.resolve_right h)
 ·have hlt:k < s.w.heap.size:=(Array.getElem?_eq_some_iff.1 ho).1
  exact hw.cold k o (fun hp=>hk ⟨hlt,.inl hp⟩) ho
 ·by_cases h:isO s O k
  ·exact hideO_yes h
  ·rw [hideO_not h];exact hw.inb k hk
 ·by_cases h:isO s O k
  ·rw [hideO_yes h] at hk;cases hk
  ·rw [hideO_not h] at hk
   exact hw.ob k n i hk
 ·have hi':(if O i=true then none else s.h.get i)=some b:=hi
  split at hi'
  ·cases hi'
  next hoi =>
  obtain ⟨p1,p2,p3⟩:=hw.hp i b hi'
  have hn:¬ isO s O (s.e i):=fun h=>by
   obtain ⟨j,h1,h2⟩:=h
   obtain ⟨b',h3,_⟩:=hO j h1
   obtain ⟨_,q2,_⟩:=hw.hp j b' h3
   exact hoi (by rw [p2.inj q2 h2.symm];exact h1)
  exact ⟨p1,BAt.congr (s':=s.hideO O) (s:=s) rfl (hideO_not hn) p2,p3.ext hx rfl⟩
theorem giveO_no (hO:Hid s O) (hw:PW w0 s) (hx:Ext (s.hideO O) s') {k:Nat} (h:isO s O k):s'.σ k=.no:=by
 obtain ⟨i,_,_,h3,_⟩:=hO.live hw h
 exact (hx.old.2 k (hw.lt (by rw [h3];simp))).1 (hideO_yes h)
theorem giveO_same (hO:Hid s O) (hw:PW w0 s) (h1:PW (w0.hideO s O) s') {k:Nat} (h:isO s O k):s'.w.heap[k]?=s.w.heap[k]?:=by
 obtain ⟨i,_,_,h3,_⟩:=hO.live hw h
 exact h1.old k ⟨hw.lt (by rw [h3];simp),.inr h⟩
theorem giveO_ext (hO:Hid s O) (hw:PW w0 s) (hx:Ext (s.hideO O) s'):Ext s (s.giveO s' O):=by
 refine Ext.mk' ⟨hx.old.1,fun k hk=>⟨fun e=>?_,fun n e=>?_⟩⟩ hx.next (fun i hi=>hx.e i hi) (fun k o y hy=>?_) (fun i n hi hn=>?_) (fun k r hr=>?_)
 ·by_cases h:isO s O k
  ·obtain ⟨_,_,_,h3,_⟩:=hO.live hw h
   rw [e] at h3;cases h3
  ·rw [giveO_not h]
   exact (hx.old.2 k hk).1 (by rw [hideO_not h];exact e)
 ·by_cases h:isO s O k
  ·obtain ⟨_,_,_,h3,_⟩:=hO.live hw h
   rw [e] at h3;cases h3
  ·rw [giveO_not h]
   exact (hx.old.2 k hk).2 n (by rw [hideO_not h];exact e)
 ·have h0:=(Ext.hideO hO hw).cell k o y hy
  obtain ⟨n,own,q1,q2,q3⟩:=fcell_some (hx.cell k o y h0)
  by_cases h:isO s O k
  ·rw [giveO_no hO hw hx h] at q1;cases q1
  ·exact fcell_of (s:=s.giveO s' O) (by rw [giveO_not h];exact q1) q2 q3
 ·by_cases h:isO s O (s.e i)
  ·obtain ⟨_,_,_,h3,_⟩:=hO.live hw h
   rw [giveO_yes h,h3] at hn;cases hn
  ·rw [giveO_not h] at hn
   obtain ⟨r1,r2⟩:=hx.own i n hi hn
   have r1':(s.hideO O).σ (s.e i)=.fz n (some i):=r1
   rw [hideO_not h] at r1'
   exact ⟨r1',r2⟩
 ·obtain ⟨⟨n,own,q1⟩,q3⟩:=fmp_some.1 (hx.fmp k r ((Ext.hideO hO hw).fmp k r hr))
  by_cases h:isO s O k
  ·rw [giveO_no hO hw hx h] at q1;cases q1
  ·exact fmp_some.2 ⟨⟨n,own,by rw [giveO_not h];exact q1⟩,q3⟩
theorem giveO_ext0 (hO:Hid s O) (hw:PW w0 s) (hx:Ext (s.hideO O) s'):Ext0 s' (s.giveO s' O):=by
 refine ⟨Nat.le_refl _,fun _ _=>rfl,fun k o y hy=>?_,fun i n hi hn=>?_,fun k r hr=>?_⟩
 ·obtain ⟨n,own,q1,q2,q3⟩:=fcell_some hy
  by_cases h:isO s O k
  ·rw [giveO_no hO hw hx h] at q1;cases q1
  ·exact fcell_of (s:=s.giveO s' O) (by rw [giveO_not h];exact q1) q2 q3
 ·by_cases h:isO s O (s'.e i)
  ·obtain ⟨_,_,_,h3,_⟩:=hO.live hw h
   rw [giveO_yes h,h3] at hn;cases hn
  ·rw [giveO_not h] at hn
   exact ⟨hn,fun arr t ha=>⟨arr,ha,rfl⟩⟩
 ·obtain ⟨⟨n,own,q1⟩,q3⟩:=fmp_some.1 hr
  by_cases h:isO s O k
  ·rw [giveO_no hO hw hx h] at q1;cases q1
  ·exact fmp_some.2 ⟨⟨n,own,by rw [giveO_not h];exact q1⟩,q3⟩
theorem giveO_pw (hO:Hid s O) (hw:PW w0 s) (h1:PW (w0.hideO s O) s') (hx:Ext (s.hideO O) s'):PW w0 (s.giveO s' O):=by
 have hxb:=giveO_ext hO hw hx
 have p0:∀ k,w0.pr k→(w0.hideO s O).pr k:=fun k hk=>⟨Nat.lt_of_lt_of_le (w0.lt k hk) hw.size,.inl hk⟩
 refine ⟨h1.os.trans hw.os,h1.tape.trans hw.tape,h1.output.trans hw.output,Nat.le_trans hw.size h1.size,fun k hk=>(h1.old k (p0 k hk)).trans (hw.old k hk),fun k hk=>?_,fun k o hk ho=>?_,fun k hk=>?_,fun k n i hk=>?_,fun i b hi=>?_⟩
 ·by_cases h:isO s O k
  ·rw [giveO_yes h];exact hw.prot k hk
  ·rw [giveO_not h];exact h1.prot k (p0 k hk)
 ·by_cases h:isO s O k
  ·exact hw.cold k o hk ((giveO_same hO hw h1 h).symm.trans ho)
  ·exact h1.cold k o (fun hp=>hp.2.elim hk h) ho
 ·by_cases h:isO s O k
  ·obtain ⟨_,_,_,h3,_⟩:=hO.live hw h
   have hk1:s'.w.heap.size≤k:=hk
   have:=hw.lt (k:=k) (by rw [h3];simp)
   have hk2:s.w.heap.size≤s'.w.heap.size:=h1.size
   omega
  ·rw [giveO_not h];exact h1.inb k hk
 ·by_cases h:isO s O k
  ·obtain ⟨_,_,_,h3,_⟩:=hO.live hw h
   rw [giveO_yes h,h3] at hk;cases hk
  ·rw [giveO_not h] at hk
   exact h1.ob k n i hk
 ·have hi':(if O i=true then s.h.get i else s'.h.get i)=some b:=hi
  split at hi'
  ·next hoi =>
   obtain ⟨p1,p2,p3⟩:=hw.hp i b hi'
   have he:s'.e i=s.e i:=hx.e i p1
   have hyes:isO s O (s.e i):=⟨i,hoi,rfl⟩
   refine ⟨Nat.lt_of_lt_of_le p1 hx.next,BAt.congr (s':=s.giveO s' O) (s:=s) he (giveO_yes hyes) p2,?_⟩
   show PB (s.giveO s' O) (s'.e i) b
   rw [he]
   exact p3.ext hxb (giveO_same hO hw h1 hyes)
  ·obtain ⟨p1,p2,p3⟩:=h1.hp i b hi'
   have hnot:¬ isO s O (s'.e i):=fun h=>by
    have:=p2.some
    exact this (giveO_no hO hw hx h)
   exact ⟨p1,BAt.congr (s':=s.giveO s' O) (s:=s') rfl (giveO_not hnot) p2,p3.ext0 (giveO_ext0 hO hw hx) rfl⟩
theorem Ends.give (hO:Hid s O) (hw:PW w0 s) {R X:PV→PH→Prop} {e:Ending} {w':World} (he:Ends (w0.hideO s O) (s.hideO O) R X e w') :
  Ends w0 s (fun v h=>∃ h1,R v h1∧(h1.Ok∧∀ i,O i=true→h1.get i=none)∧h=h1.give s.h O) (fun v h=>∃ h1,X v h1∧(h1.Ok∧∀ i,O i=true→h1.get i=none)∧h=h1.give s.h O) e w':=by
 obtain ⟨s',e1,e2,e3,e4⟩:=he
 have f4:=giveO_ext0 hO hw e3
 have f5:∀ i,O i=true→s'.h.get i=none:=fun i hi=>by
  cases hg:s'.h.get i with
  |none=>rfl
  |some b =>
   obtain ⟨b0,h3,_⟩:=hO i hi
   have hlt:=(hw.hp i b0 h3).1
   have h6:=(e2.hp i b hg).2.1.some
   have h7:s'.e i=s.e i:=e3.e i hlt
   rw [h7] at h6
   exact absurd (giveO_no hO hw e3 ⟨i,hi,rfl⟩) h6
 refine ⟨s.giveO s' O,e1,giveO_pw hO hw e2 e3,giveO_ext hO hw e3,?_⟩
 cases e with
 |returned x =>
  obtain ⟨v,v1,v2⟩:=e4
  exact ⟨v,(R2.ext0 f4 v).1 _ v1,_,v2,⟨e2.ok,f5⟩,rfl⟩
 |panicked c =>
  obtain ⟨v,x,hc,v1,v2⟩:=e4
  exact ⟨v,x,hc,(R2.ext0 f4 v).1 _ v1,_,v2,⟨e2.ok,f5⟩,rfl⟩
 |outgrown=>exact e4.elim
end
section
variable {P:Program} {O:Nat→Bool} {h:PH} {R X:PV→PH→Prop}
theorem PCall.frameO {g:FuncId} {args:List PV} (hO:∀ i,O i=true→∃ b,h.get i=some b∧b.isOwn=false) (hp:PCall P g args (h.hide O) R X) :
  PCall P g args h (fun v h'=>∃ h1,R v h1∧(h1.Ok∧∀ i,O i=true→h1.get i=none)∧h'=h1.give h O) (fun v h'=>∃ h1,X v h1∧(h1.Ok∧∀ i,O i=true→h1.get i=none)∧h'=h1.give h O):=by
 refine ⟨hp.1,fun w0 s xs hw hh hx=>?_⟩
 subst hh
 exact (hp.2 _ (s.hideO O) xs (hw.hideO hO) rfl ((R2s.ext (Ext.hideO hO hw) args).1 _ hx)).mono fun e w' he=>he.give hO hw
theorem PCallV.frameO {f:PV} {args:List PV} (hO:∀ i,O i=true→∃ b,h.get i=some b∧b.isOwn=false) (hp:PCallV P f args (h.hide O) R X) :
  PCallV P f args h (fun v h'=>∃ h1,R v h1∧(h1.Ok∧∀ i,O i=true→h1.get i=none)∧h'=h1.give h O) (fun v h'=>∃ h1,X v h1∧(h1.Ok∧∀ i,O i=true→h1.get i=none)∧h'=h1.give h O):=by
 intro w0 s fn xf xc xs hw hh hf hx
 subst hh
 have:=hp _ (s.hideO O) fn xf xc xs (hw.hideO hO) rfl ((R2.ext (Ext.hideO hO hw) f).1 _ hf) ((R2s.ext (Ext.hideO hO hw) args).1 _ hx)
 have hw':(s.hideO O).w=s.w:=rfl
 rw [hw'] at this
 revert this
 generalize (invoke (.fn fn xc) (xf++xs)).run P s.w=r
 intro this
 cases r with
 |halt x w=>exact this
 |ok nx w =>
  cases nx<;>try exact this
  ·exact Calls.mono this fun _ _ he=>he.give hO hw
  ·intro c cs
   rcases this c cs with ⟨v,w',h1,h2⟩ | ⟨ch,w',h1,h2⟩
   ·exact .inl ⟨v,w',h1.give hO hw,h2⟩
   ·exact .inr ⟨ch,w',h1.give hO hw,h2⟩
end
def keysB:HL→Nat→Bool
 |[],_=>false
 |(j,_)::l,i=>match Nat.beq i j with
  |true=>true
  |false=>keysB l i
theorem keysB_app {own l:HL}:∀ i,hget (own++l) i=if keysB own i=true then hget own i else hget l i:=by
 intro i
 induction own with
 |nil=>simp [keysB]
 |cons p own ih =>
  obtain ⟨j,b⟩:=p
  by_cases h:i=j
  ·subst h
   simp [hget,keysB]
  ·have hb:Nat.beq i j=false:=by
    cases hb:Nat.beq i j with
    |true=>exact absurd (Nat.eq_of_beq_eq_true hb) h
    |false=>rfl
   simp only [List.cons_append,hget,keysB,hb]
   exact ih
def Owns (own l:HL):Prop:=(∀ i,keysB own i=true→∃ cs,hget own i=some (.cells cs))∧∀ i,keysB own i=true→hget l i=none
theorem Owns.hide {own l:HL} {n:Nat} (ho:Owns own l):(HE n (own++l)).hide (keysB own)=HE n l:=by
 unfold PH.hide HE
 congr 1
 funext i
 simp only [keysB_app]
 split
 ·next h=>exact (ho.2 i h).symm
 ·rfl
theorem Owns.give {own l l':HL} {n m:Nat}:(HE m l').give (HE n (own++l)) (keysB own)=HE m (own++l'):=by
 unfold PH.give HE
 congr 1
 funext i
 simp only [keysB_app]
 split<;>rfl
theorem Owns.hid {own l:HL} {n:Nat} (ho:Owns own l):∀ i,keysB own i=true→∃ b,(HE n (own++l)).get i=some b∧b.isOwn=false:=by
 intro i hi
 obtain ⟨cs,hcs⟩:=ho.1 i hi
 refine ⟨.cells cs,?_,rfl⟩
 show hget (own++l) i=some (.cells cs)
 rw [keysB_app,if_pos hi,hcs]
section
variable {P:Program} {own l:HL} {n:Nat}
theorem PCallV.owned {f:PV} {args:List PV} {R:PV→PH→Prop} {X:PV→PH→Prop} (ho:Owns own l) (hp:PCallV P f args (HE n l) R fun _ _=>False) {K:PV→PH→Prop}
  (hK:∀ v m l',(HE m l').Ok→(∀ i,keysB own i=true→hget l' i=none)→R v (HE m l')→K v (HE m (own++l'))) (hR:∀ v h,R v h→∃ m l',h=HE m l'):PCallV P f args (HE n (own++l)) K X:=by
 rw [← ho.hide] at hp
 refine (PCallV.frameO ho.hid hp).mono ?_ ?_
 ·rintro v h' ⟨h1,r1,r2,rfl⟩
  obtain ⟨m,l',rfl⟩:=hR v h1 r1
  rw [Owns.give]
  exact hK v m l' r2.1 r2.2 r1
 ·rintro v h' ⟨h1,r1,_⟩
  exact r1.elim
end
section
variable {C:Cx} {F:EQ} {X:EX} {k:List KI} {e:EL} {ds:List Nat} {K:PV→PH→Prop} {n:Nat} {own l:HL}
variable {d:Option Tmp} {type:TypeId} {pos:String} {after:Array Edge} {guard:Option (Nat×Bool)}
theorem Ope.yld {f:Operand} {args:Array Operand} {tys:Array TypeId} {j:Nat} {v:PV} {vs:List PV} {R:PV→PH→Prop} (hf:pev (lget e) f=some (.yld j)) (ha:pargs (pev (lget e)) args.toList=some [v]) (ho:Owns own l)
  (hy:Feed C.P (.yld j) R (v::vs) n l) (hK1:∀ m l',n≤m→(HE m l').Ok→(∀ i,keysB own i=true→hget l' i=none)→Feed C.P (.yld j) R vs m l'→K (B true) (HE m (own++l'))) (hK2:∀ m l',n≤m→(HE m l').Ok→(∀ i,keysB own i=true→hget l' i=none)→(∀ m2,m≤m2→∀ u,R u (HE m2 l'))→K (B false) (HE m (own++l'))) :
  Ope C X { dst:=d,op:=.call { callee:=.value f,args,argTypes:=tys },type,pos,after,guard } e ds (HE n (own++l)) K:=by
 unfold Ope
 simp only [pop,pkind,pcallO,ha,hf,pcallF]
 refine ⟨rfl,PCallV.owned ho (hy n (Nat.le_refl _)) ?_ ?_⟩
 ·rintro b m l' hok hno ⟨m1,l1,e1,hm,hb⟩
  obtain ⟨rfl,e2⟩:m=m1∧hget l'=hget l1:=by
   have:=e1
   simp only [HE,PH.mk.injEq] at this
   exact ⟨this.2,this.1⟩
  have e3:∀ q,HE q l'=HE q l1:=fun q=>by simp only [HE,e2]
  have e4:HE m (own++l')=HE m (own++l1):=by
   simp only [HE,PH.mk.injEq,and_true]
   funext i
   rw [keysB_app,keysB_app,e2]
  rw [e4]
  rw [e3] at hok
  simp only [e2] at hno
  rcases hb with ⟨rfl,hf⟩ | ⟨rfl,hf⟩
  ·exact hK1 m l1 hm hok hno hf
  ·exact hK2 m l1 hm hok hno hf
 ·rintro b h ⟨m1,l1,e1,_⟩
  exact ⟨m1,l1,e1⟩
theorem Ope.loadH {t:TypeId} {a:Operand} {agg:Bool} {sz i o:Nat} {v:PV} {cs:List PV} [ht:Ty C.A t agg sz] (ha:pev (lget e) a=some (.ptr i o)) (hg:hget l i=some (.cells cs)) (hv:partK agg o sz cs=some v) (hK:K v (HE n l)) :
  Ope C X { dst:=d,op:=.load t a,type,pos,after,guard } e ds (HE n l) K :=
 Ope.load ha (by simp only [loadK,hg];exact hv) hK
end
theorem ok_none {m i:Nat} {l:HL} (h:(HE m l).Ok) (hi:m≤i):hget l i=none:=by
 cases hg:hget l i with
 |none=>rfl
 |some b =>
  have h1:i < m:=(h i b hg).1
  omega
theorem Owns.of {own l:HL} (h1:∀ p∈own,∃ cs,p.2=some (.cells cs)) (h2:∀ p∈own,hget l p.1=none):Owns own l:=by
 induction own with
 |nil=>exact ⟨fun i hi=>(by cases hi),fun i hi=>(by cases hi)⟩
 |cons p own ih =>
  obtain ⟨j,b⟩:=p
  obtain ⟨i1,i2⟩:=ih (fun p hp=>h1 p (List.mem_cons_of_mem _ hp)) fun p hp=>h2 p (List.mem_cons_of_mem _ hp)
  refine ⟨fun i hi=>?_,fun i hi=>?_⟩
  ·by_cases h:i=j
   ·subst h
    obtain ⟨cs,hcs⟩:=h1 (i,b) (by simp)
    exact ⟨cs,by rw [hget_hd];exact hcs⟩
   ·simp only [keysB] at hi
    rw [hget_tl h]
    split at hi
    ·next hb=>exact absurd (Nat.eq_of_beq_eq_true hb) h
    ·exact i1 i hi
  ·by_cases h:i=j
   ·subst h
    exact h2 (i,b) (by simp)
   ·simp only [keysB] at hi
    split at hi
    ·next hb=>exact absurd (Nat.eq_of_beq_eq_true hb) h
    ·exact i2 i hi
theorem Feed.mono {P:Program} {y:PV} {R:PV→PH→Prop} {n n':Nat} {l:HL} (hn:n≤n'):∀ {vs:List PV},Feed P y R vs n l→Feed P y R vs n' l
 |[],h=>fun m hm=>h m (Nat.le_trans hn hm)
 |_::_,h=>fun m hm=>h m (Nat.le_trans hn hm)
theorem keysB_mem {j:Nat} {b:Option PBlk}:∀ {own:HL},(j,b)∈own→keysB own j=true
 |[],h=>by cases h
 |(i, c) :: own, h => by
  simp only [keysB]
  split
  ·rfl
  ·next hb =>
   rcases List.mem_cons.1 h with h | h
   ·cases h
    simp at hb
   ·exact keysB_mem h
section
variable {C:Cx} {F:EQ} {X:EX} {k:List KI} {e:EL} {ds:List Nat} {n m:Nat} {l l':HL}
theorem Run.wideS {c:Code} (hn:n≤m) (hs:∀ i b,hget l' i=some b→hget l i=some b) (hr:Run C F X (.c c::k) e ds (HE m l')):Run C F X (.c c::k) e ds (HE n l) :=
 Run.ghost (fun t ht=>⟨t,ht,Ghost.wide (h:=HE n l) (h':=HE m l') hn fun i b hi=>hs i b hi⟩) hr
end
end Go.Pv
