/- Parts of the proof: Pv25, Pv26, Pv27, Pv28, Pv29, Pv30 -/
import Derived.Test.YtkabfhoicdeehaaGreatP8
set_option linter.unusedVariables false
set_option linter.unusedSimpArgs false
set_option linter.unusedSectionVars false
namespace Go.Pv
open Go.Am Go.RowKit
abbrev PX:=T PV→List Nat→PV→PH→Prop
structure Cx where
 A:AP
 E:Eqs
 P:Program
 M:Nat→Bool
 fi:FuncId
 sz:Nat
 rnd:Option Nat
structure Cx.Ok (C:Cx):Prop where
 A:C.A.Ok C.P
 E:C.E.Ok C.P
 f:C.P.follows .mixedOrders=true
abbrev Cx.wp (C:Cx) (c:Code) (Q:PQ) (X:PX) (t:T PV) (ds:List Nat) (h:PH):Prop:=PWP C.P C.fi C.sz C.rnd c Q X t ds h
def PAsk (v:Option PV) (p q:Prop):Prop :=
 match v with
 |some (.lit (.bool b))=>PIf b p q
 |_=>False
def Cx.cwp (C:Cx):Code→PQ→PX→T PV→List Nat→PH→Prop
 |.skip,Q,_,t,ds,h=>Q .normal t ds h
 |.label _,Q,_,t,ds,h=>Q .normal t ds h
 |.ret,Q,_,t,ds,h=>Q (.jump .ret) t ds h
 |.exit id,Q,_,t,ds,h=>Q (.jump (.exit id)) t ds h
 |.goto l,Q,_,t,ds,h=>Q (.jump (.goto l)) t ds h
 |.seq x y,Q,X,t,ds,h=>C.cwp x (PQ.then (fun t ds h=>C.cwp y Q X t ds h) Q) X t ds h
 |.cond c x y,Q,X,t,ds,h=>PAsk (pev t.get c) (C.cwp x Q X t ds h) (C.cwp y Q X t ds h)
 |.block id c,Q,X,t,ds,h=>C.cwp c (PQ.block id Q) X t ds h
 |.region _ ops false,Q,X,t,ds,h=>preg C.A C.E C.P C.M C.sz ops.toList ops.toList t h (fun t h=>Q .normal t ds h) (X (tless t ops.toList) ds)
 |.region _ ops true,Q,X,t,ds,h=>pdraw C.A C.E C.P C.M C.sz ops.toList t h (fun t h=>Q .normal t ds h) (X (tless t ops.toList) ds)
 |c,Q,X,t,ds,h=>C.wp c Q X t ds h
theorem PAsk_iff {v:Option PV} {p q:Prop}:PAsk v p q↔∃ b,v=some (.lit (.bool b))∧PIf b p q:=by
 constructor
 ·intro h
  unfold PAsk at h
  split at h
  ·exact ⟨_,rfl,h⟩
  ·exact h.elim
 ·rintro ⟨b,rfl,h⟩
  exact h
theorem Cx.cwp_ok {C:Cx} (hC:C.Ok):∀ (c:Code) (Q:PQ) (X:PX) (t:T PV) (ds:List Nat) (h:PH),C.cwp c Q X t ds h→C.wp c Q X t ds h:=by
 intro c
 induction c with
 |skip=>intro Q X t ds h hp;exact PWP.skip hp
 |label l=>intro Q X t ds h hp;exact PWP.label hp
 |ret=>intro Q X t ds h hp;exact PWP.jump (j:=.ret) trivial hp
 |exit id=>intro Q X t ds h hp;exact PWP.jump (j:=.exit id) (fun _=>rfl) hp
 |goto l=>intro Q X t ds h hp;exact PWP.jump (j:=.goto l) (fun _=>rfl) hp
 |seq x y ihx ihy =>
  intro Q X t ds h hp
  refine PWP.seq (PWP.mono (ihx _ _ _ _ _ hp) (fun e t ds h he=>?_) fun _ _ _ _ h=>h)
  cases e with
  |normal=>exact ihy _ _ _ _ _ he
  |jump j=>exact he
 |cond c x y ihx ihy =>
  intro Q X t ds h hp
  obtain ⟨b,hb,hxy⟩:=PAsk_iff.1 hp
  refine PWP.cond hb ?_
  cases b with
  |true=>exact ihx _ _ _ _ _ hxy
  |false=>exact ihy _ _ _ _ _ hxy
 |block id c ih=>intro Q X t ds h hp;exact PWP.block (ih _ _ _ _ _ hp)
 |region id ops draw =>
  intro Q X t ds h hp
  cases draw with
  |false=>exact PWP.region hC.A hC.E hp
  |true=>exact PWP.draw hC.A hC.E hC.f hp
 |loop c ih=>intro Q X t ds h hp;exact hp
 |scope c ih=>intro Q X t ds h hp;exact hp
 |rangeFunc f ps a b iha ihb=>intro Q X t ds h hp;exact hp
 |refuse w=>intro Q X t ds h hp;exact hp
theorem Cx.call {C:Cx} (hC:C.Ok) {fn:Func} {c:Code} (hf:C.A.funcs.get C.fi=some fn) (hc:fn.body=some c) (hs:C.sz=fn.ntmps) (hr:C.rnd=none) {args:List PV} (hle:Nat.ble args.length fn.ntmps=true) {h:PH} {R X:PV→PH→Prop}
  (hp:h.Ok→C.cwp c (PFin C.A fn h.next R) (PFinX h.next X) (T.ofList args 0 .nil) [] h):PCall C.P C.fi args h R X:=by
 refine PCall.intro hC.A hf hc hle fun hok=>?_
 have:=C.cwp_ok hC c _ _ _ _ _ (hp hok)
 rw [Cx.wp,hs,hr] at this
 exact this
end Go.Pv
namespace Go.Pv
open Go.Am Go.RowKit
abbrev EL:=List (Nat×PV)
def lget:EL→Nat→Option PV
 |[],_=>none
 |(d,v)::l,i=>match Nat.beq i d with
  |true=>some v
  |false=>lget l i
def TE:EL→T PV
 |[]=>.nil
 |p::l=>(TE l).set p.1 p.2
theorem TE_get:∀ (l:EL) (i:Nat),(TE l).get i=lget l i
 |[],i=>T.get_nil i
 |p::l,i=>by
  simp only [TE,T.get_set,lget]
  cases h:Nat.beq i p.1 with
  |true=>rw [if_pos (Nat.eq_of_beq_eq_true h)]
  |false =>
   have:¬ i=p.1:=fun e=>by subst e;simp at h
   rw [if_neg this,TE_get l i]
theorem TE_getf (l:EL):(TE l).get=lget l:=funext (TE_get l)
def Sub (e:EL) (t:T PV):Prop:=∀ i v,lget e i=some v→t.get i=some v
theorem Sub.refl (e:EL):Sub e (TE e):=fun i v h=>by rw [TE_get];exact h
def Lsub:EL→EL→Prop
 |[],_=>True
 |(d,v)::l,e=>lget e d=some v∧Lsub l e
theorem Lsub.get:∀ {l e:EL} {i:Nat} {v:PV},Lsub l e→lget l i=some v→lget e i=some v
 |(d,u)::l,e,i,v,⟨h1,h2⟩,h=>by
  simp only [lget] at h
  split at h
  ·next hb=>rw [Nat.eq_of_beq_eq_true hb];cases h;exact h1
  ·exact Lsub.get h2 h
abbrev EQ:=PExit→EL→List Nat→PH→Prop
abbrev EX:=List Nat→PV→PH→Prop
def toQ (Q:EQ):PQ:=fun x t ds h=>∃ e,Sub e t∧Q x e ds h
def toX (X:EX):PX:=fun _ ds v h=>X ds v h
inductive KI where
 |c (c:Code)
 |b (id:Nat)
 |l (J:EL→List Nat→PH→Prop)
 |s
def Ks (C:Cx) (F:EQ) (X:EX):List KI→EQ
 |[]=>F
 |.c c::k=>fun x e ds h=>match x with
  |.normal=>C.wp c (toQ (Ks C F X k)) (toX X) (TE e) ds h
  |.jump j=>Ks C F X k (.jump j) e ds h
 |.b id::k=>fun x e ds h=>match x with
  |.normal=>Ks C F X k .normal e ds h
  |.jump (.exit id')=>(match Nat.beq id' id with
   |true=>Ks C F X k .normal
   |false=>Ks C F X k (.jump (.exit id'))) e ds h
  |.jump j=>Ks C F X k (.jump j) e ds h
 |.l J::k=>fun x e ds h=>match x with
  |.normal=>J e ds h
  |.jump j=>Ks C F X k (.jump j) e ds h
 |.s::k=>fun x e ds h=>match x with
  |.jump (.goto _)=>False
  |x=>Ks C F X k x e ds h
@[irreducible] def Run (C:Cx) (F:EQ) (X:EX) (k:List KI) (e:EL) (ds:List Nat) (h:PH):Prop:=∀ t,Sub e t→toQ (Ks C F X k) .normal t ds h
@[irreducible] def Jmp (C:Cx) (F:EQ) (X:EX) (k:List KI) (j:Code) (e:EL) (ds:List Nat) (h:PH):Prop:=∀ t,Sub e t→toQ (Ks C F X k) (.jump j) t ds h
section
variable {C:Cx} {F:EQ} {X:EX} {k:List KI} {e:EL} {ds:List Nat} {h:PH} {j:Code}
theorem wp_less {c:Code} {Q:PQ} {Y:PX} {t t':T PV} (hc:C.wp c Q Y t' ds h) (ht:∀ i v,t'.get i=some v→t.get i=some v):C.wp c Q Y t ds h:=PWP.less hc ht
theorem Run.intro {c:Code} (hc:C.wp c (toQ (Ks C F X k)) (toX X) (TE e) ds h):Run C F X (.c c::k) e ds h:=by
 unfold Run
 exact fun t ht=>⟨e,ht,hc⟩
theorem Run.wp {c:Code} (hr:Run C F X (.c c::k) e ds h) {t:T PV} (ht:Sub e t):C.wp c (toQ (Ks C F X k)) (toX X) t ds h:=by
 unfold Run at hr
 obtain ⟨e',h1,h2⟩:=hr t ht
 exact wp_less h2 fun i v hi=>by
  rw [TE_get] at hi
  exact h1 i v hi
theorem Run.toQ (hr:Run C F X k e ds h) {t:T PV} (ht:Sub e t):Pv.toQ (Ks C F X k) .normal t ds h:=by
 unfold Run at hr
 exact hr t ht
theorem Jmp.toQ (hr:Jmp C F X k j e ds h) {t:T PV} (ht:Sub e t):Pv.toQ (Ks C F X k) (.jump j) t ds h:=by
 unfold Jmp at hr
 exact hr t ht
theorem Run.done (hf:F .normal e ds h):Run C F X [] e ds h:=by
 unfold Run
 exact fun t ht=>⟨e,ht,hf⟩
theorem Jmp.done (hf:F (.jump j) e ds h):Jmp C F X [] j e ds h:=by
 unfold Jmp
 exact fun t ht=>⟨e,ht,hf⟩
theorem Run.skip (hr:Run C F X k e ds h):Run C F X (.c .skip::k) e ds h:=Run.intro (PWP.skip (hr.toQ (Sub.refl e)))
theorem Run.label {l:Nat} (hr:Run C F X k e ds h):Run C F X (.c (.label l)::k) e ds h:=Run.intro (PWP.label (hr.toQ (Sub.refl e)))
theorem Run.ret (hr:Jmp C F X k .ret e ds h):Run C F X (.c .ret::k) e ds h:=Run.intro (PWP.jump (j:=.ret) trivial (hr.toQ (Sub.refl e)))
theorem Run.exit {id:Nat} (hr:Jmp C F X k (.exit id) e ds h):Run C F X (.c (.exit id)::k) e ds h:=Run.intro (PWP.jump (j:=.exit id) (fun _=>rfl) (hr.toQ (Sub.refl e)))
theorem Jmp.code {c:Code} (hr:Jmp C F X k j e ds h):Jmp C F X (.c c::k) j e ds h:=by
 unfold Jmp at hr ⊢
 exact fun t ht=>hr t ht
theorem Jmp.round {J:EL→List Nat→PH→Prop} (hr:Jmp C F X k j e ds h):Jmp C F X (.l J::k) j e ds h:=by
 unfold Jmp at hr ⊢
 exact fun t ht=>hr t ht
theorem Jmp.here {id:Nat} (hr:Run C F X k e ds h):Jmp C F X (.b id::k) (.exit id) e ds h:=by
 unfold Jmp
 intro t ht
 obtain ⟨e',h1,h2⟩:=hr.toQ ht
 exact ⟨e',h1,by simpa [Ks] using h2⟩
theorem Jmp.past {id id':Nat} (hne:Nat.beq id' id=false) (hr:Jmp C F X k (.exit id') e ds h):Jmp C F X (.b id::k) (.exit id') e ds h:=by
 unfold Jmp
 intro t ht
 obtain ⟨e',h1,h2⟩:=hr.toQ ht
 exact ⟨e',h1,by simpa [Ks,hne] using h2⟩
theorem Jmp.retB {id:Nat} (hr:Jmp C F X k .ret e ds h):Jmp C F X (.b id::k) .ret e ds h:=by
 unfold Jmp at hr ⊢
 exact fun t ht=>hr t ht
theorem Run.bend {id:Nat} (hr:Run C F X k e ds h):Run C F X (.b id::k) e ds h:=by
 unfold Run at hr ⊢
 exact fun t ht=>hr t ht
theorem Run.lend {J:EL→List Nat→PH→Prop} (hj:J e ds h):Run C F X (.l J::k) e ds h:=by
 unfold Run
 exact fun t ht=>⟨e,ht,hj⟩
theorem Run.seq {x y:Code} (hr:Run C F X (.c x::.c y::k) e ds h):Run C F X (.c (.seq x y)::k) e ds h:=by
 refine Run.intro (PWP.seq (PWP.mono (hr.wp (Sub.refl e)) ?_ fun _ _ _ _ h=>h))
 intro x t ds h ⟨e',h1,h2⟩
 cases x with
 |normal=>exact wp_less h2 fun i v hi=>by rw [TE_get] at hi;exact h1 i v hi
 |jump j=>exact ⟨e',h1,h2⟩
theorem Run.block {id:Nat} {c:Code} (hr:Run C F X (.c c::.b id::k) e ds h):Run C F X (.c (.block id c)::k) e ds h:=by
 refine Run.intro (PWP.block (PWP.mono (hr.wp (Sub.refl e)) ?_ fun _ _ _ _ h=>h))
 intro x t ds h ⟨e',h1,h2⟩
 cases x with
 |normal=>exact ⟨e',h1,h2⟩
 |jump j =>
  cases j<;>try exact ⟨e',h1,h2⟩
  next id' =>
   simp only [Ks] at h2
   simp only [PQ.block]
   cases hb:Nat.beq id' id<;>rw [hb] at h2<;>exact ⟨e',h1,h2⟩
theorem Jmp.retS (hr:Jmp C F X k .ret e ds h):Jmp C F X (.s::k) .ret e ds h:=by
 unfold Jmp at hr ⊢
 exact fun t ht=>hr t ht
theorem Run.scope {c:Code} (hr:Run C F X (.c c::.s::k) e ds h):Run C F X (.c (.scope c)::k) e ds h:=by
 refine Run.intro (PWP.scope (PWP.mono (hr.wp (Sub.refl e)) ?_ fun _ _ _ _ h=>h))
 intro x t ds h ⟨e',h1,h2⟩
 cases x with
 |normal=>exact ⟨e',h1,h2⟩
 |jump j=>cases j<;>first | exact ⟨e',h1,h2⟩ | exact h2.elim
theorem Run.cond {c:Operand} {x y:Code} {q:Bool} (hc:pev (lget e) c=some (.lit (.bool q))) (hx:q=true→Run C F X (.c x::k) e ds h) (hy:q=false→Run C F X (.c y::k) e ds h):Run C F X (.c (.cond c x y)::k) e ds h:=by
 refine Run.intro (PWP.cond (q:=q) (by rw [TE_getf];exact hc) ?_)
 rw [PIf_iff]
 exact ⟨fun hq=>(hx hq).wp (Sub.refl e),fun hq=>(hy hq).wp (Sub.refl e)⟩
theorem Run.loop {c:Code} {α:Type} (env:α→EL) (hp:α→PH) (I:α→Prop) (m:α→Nat) (a:α) (hs:Lsub (env a) e) (hh:h=hp a) (hI:I a)
  (round:∀ a,I a→Run C F X (.c c::.l (fun e' ds' h'=>∃ a',m a' < m a∧I a'∧Lsub (env a') e'∧h'=hp a'∧ds'=ds)::k) (env a) ds (hp a)):Run C F X (.c (.loop c)::k) e ds h:=by
 refine Run.intro (PWP.loop (fun n t ds' h'=>∃ a',m a'=n∧I a'∧Sub (env a') t∧h'=hp a'∧ds'=ds) (n:=m a) ⟨a,rfl,hI,fun i v hi=>by rw [TE_get];exact hs.get hi,hh,rfl⟩ ?_)
 rintro n t ds' h' ⟨a',rfl,h2,h3,rfl,rfl⟩
 refine PWP.mono ((round a' h2).wp h3) ?_ fun _ _ _ _ h=>h
 intro x t ds h ⟨e',g1,g2⟩
 cases x with
 |normal =>
  obtain ⟨a2,q1,q2,q3,q4,q5⟩:=g2
  exact ⟨m a2,q1,a2,rfl,q2,fun i v hi=>g1 i v (q3.get hi),q4,q5⟩
 |jump j=>exact ⟨e',g1,g2⟩
section
variable {A:AP} {P:Program} {E:Eqs} {M:Nat→Bool} {K K' X X':PV→PH→Prop}
theorem PDo.mono {o:Option PV} {p q:PV→Prop} (hp:PDo o p) (h:∀ v,p v→q v):PDo o q:=by
 obtain ⟨v,h1,h2⟩:=PDo_iff.1 hp
 exact PDo.of h1 (h _ h2)
theorem PIf.mono {b:Bool} {p q p' q':Prop} (hp:PIf b p q) (h1:p→p') (h2:q→q'):PIf b p' q':=by
 cases b
 ·exact h2 hp
 ·exact h1 hp
theorem PStore.mono {h:PH} {t:TypeId} {a v:PV} (hp:PStore A h t a v K) (hK:∀ v h,K v h→K' v h):PStore A h t a v K':=by
 unfold PStore at hp ⊢
 split at hp
 ·rcases hp with ⟨l,h1,h2,h3,h4,h5⟩ | ⟨l,h1,h2,h3,h4,h5,h6⟩
  ·exact .inl ⟨l,h1,h2,h3,h4,hK _ _ h5⟩
  ·exact .inr ⟨l,h1,h2,h3,h4,h5,hK _ _ h6⟩
 ·exact hp.elim
theorem PMake.mono {h:PH} {t:TypeId} {n m:Int} (hp:PMake A h t n m K) (hK:∀ v h,K v h→K' v h):PMake A h t n m K':=by
 unfold PMake at hp ⊢
 split at hp
 ·split at hp
  ·obtain ⟨l,c,zs,vs,h1,h2,h3,h4,h5,h6,h7,h8⟩:=hp
   exact ⟨l,c,zs,vs,h1,h2,h3,h4,h5,h6,h7,hK _ _ h8⟩
  ·exact hp.elim
 ·exact hp.elim
theorem PMapUpdate.mono {h:PH} {t:TypeId} {x k v:PV} (hp:PMapUpdate A E h t x k v K) (hK:∀ v h,K v h→K' v h):PMapUpdate A E h t x k v K':=by
 unfold PMapUpdate at hp ⊢
 split at hp
 ·obtain ⟨es,clock,ka,r,h1,h2,h3,h4,h5⟩:=hp
  refine ⟨es,clock,ka,r,h1,h2,h3,h4,?_⟩
  split at h5
  ·exact ⟨h5.1,hK _ _ h5.2⟩
  ·exact hK _ _ h5
 ·exact hp.elim
theorem PDelete.mono {h:PH} {t:TypeId} {x k:PV} (hp:PDelete A E h t x k K) (hK:∀ v h,K v h→K' v h):PDelete A E h t x k K':=by
 unfold PDelete at hp ⊢
 split at hp
 ·obtain ⟨es,clock,ka,r,h1,h2,h3,h4,h5⟩:=hp
  refine ⟨es,clock,ka,r,h1,h2,h3,h4,?_⟩
  split at h5
  ·exact hK _ _ h5
  ·exact hK _ _ h5
 ·exact hp.elim
theorem PRangeM.mono {h:PH} {t:TypeId} {x:PV} (hp:PRangeM A h t x K) (hK:∀ v h,K v h→K' v h):PRangeM A h t x K':=by
 unfold PRangeM at hp ⊢
 split at hp
 ·exact hK _ _ hp
 ·obtain ⟨es,clock,h1,h2⟩:=hp
  exact ⟨es,clock,h1,hK _ _ h2⟩
 ·exact hK _ _ hp
 ·exact hp.elim
theorem PNext.mono {h:PH} {x:PV} (hp:PNext h x K) (hK:∀ v h,K v h→K' v h):PNext h x K':=by
 unfold PNext at hp ⊢
 split at hp
 ·rcases hp with ⟨ks,vs,seen,h1,h2,h3⟩ | hp
  ·refine .inl ⟨ks,vs,seen,h1,fun hs=>hK _ _ (h2 hs),fun p p1 p2=>?_⟩
   obtain ⟨a,v,kv,q1,q2,q3,q4⟩:=h3 p p1 p2
   exact ⟨a,v,kv,q1,q2,q3,hK _ _ q4⟩
  obtain ⟨m,since,seen,last,h1,h2⟩:=hp
  refine .inr ⟨m,since,seen,last,h1,?_⟩
  split at h2
  ·exact hK _ _ h2
  ·obtain ⟨es,clock,q1,q2,q3,q4,q5⟩:=h2
   refine ⟨es,clock,q1,q2,q3,fun hs=>hK _ _ (q4 hs),fun e he hn=>?_⟩
   obtain ⟨kv,r1,r2⟩:=q5 e he hn
   exact ⟨kv,r1,hK _ _ r2⟩
 ·exact hp.elim
theorem PEntry.mono {h:PH} {x:PV} (hp:PEntry h x K) (hK:∀ v h,K v h→K' v h):PEntry h x K':=by
 unfold PEntry at hp ⊢
 split at hp
 ·rcases hp with ⟨ks,vs,seen,p,a,v,kv,h1,h2,h3,h4,h5⟩ | hp
  ·exact .inl ⟨ks,vs,seen,p,a,v,kv,h1,h2,h3,h4,hK _ _ h5⟩
  obtain ⟨j,since,seen,b,es,clock,h1,h2,e,kv,h3,h4,h5⟩:=hp
  exact .inr ⟨j,since,seen,b,es,clock,h1,h2,e,kv,h3,h4,hK _ _ h5⟩
 ·exact hp.elim
theorem PAppend.mono {h:PH} {t tx:TypeId} {x y:PV} (hp:PAppend A h t tx x y K) (hK:∀ v h,K v h→K' v h):PAppend A h t tx x y K':=by
 unfold PAppend at hp ⊢
 split at hp
 ·split at hp
  ·split at hp
   ·rcases hp with ⟨l,post,h1,h2,h3,h4,h5,h6,h7⟩ | ⟨l,post,h1,h2,h3,h4,h5,h6,h7,h8,h9,h10,h11⟩
    ·exact .inl ⟨l,post,h1,h2,h3,h4,h5,h6,hK _ _ h7⟩
    ·exact .inr ⟨l,post,h1,h2,h3,h4,h5,h6,h7,h8,h9,fun vs q1 q2=>hK _ _ (h10 vs q1 q2),fun c vs q1 q2=>hK _ _ (h11 c vs q1 q2)⟩
   ·rcases hp with ⟨h1,h2⟩ | ⟨h1,h2,h3,h4,h5,h6,h7,h8⟩
    ·exact .inl ⟨h1,hK _ _ h2⟩
    ·refine .inr ⟨h1,h2,h3,h4,h5,h6,h7,?_⟩
     split at h8
     ·exact h8
     ·rcases h8 with h8 | h8 | ⟨h8,h9⟩
      ·exact .inl (hK _ _ h8)
      ·exact .inr (.inl (hK _ _ h8))
      ·exact .inr (.inr ⟨h8,fun c vs q1 q2=>hK _ _ (h9 c vs q1 q2)⟩)
     ·exact ⟨h8.1,h8.2.1,hK _ _ h8.2.2⟩
   ·obtain ⟨n,news,h1,h2,h3,h4,h5,h6,h7,h8,h9,h10⟩:=hp
    exact ⟨n,news,h1,h2,h3,h4,h5,h6,h7,h8,h9,hK _ _ h10⟩
   ·obtain ⟨b,h1,h2,h3,h4,h5,h6,h7⟩:=hp
    exact ⟨b,h1,h2,h3,h4,h5,h6,hK _ _ h7⟩
   ·exact hp.elim
  ·exact hp.elim
 ·split at hp
  ·split at hp
   ·obtain ⟨m,h1,h2,h3,h4,h5,h6⟩:=hp
    exact ⟨m,h1,h2,h3,h4,h5,fun c vs q1 q2=>hK _ _ (h6 c vs q1 q2)⟩
   ·exact hp.elim
  ·exact hp.elim
 ·exact hp.elim
theorem PCopy.mono {h:PH} {t:TypeId} {x y:PV} (hp:PCopy A h t x y K) (hK:∀ v h,K v h→K' v h):PCopy A h t x y K':=by
 unfold PCopy at hp ⊢
 split at hp
 ·split at hp
  ·split at hp
   ·obtain ⟨b',h1,h2,h3,h4⟩:=hp
    exact ⟨b',h1,h2,h3,hK _ _ h4⟩
   ·exact hp.elim
  ·exact hp.elim
 ·exact hp.elim
theorem ploud_mono {ρ:Operand→Option PV} {h:PH} {o:Op} (hp:ploud A E ρ h o K) (hK:∀ v h,K v h→K' v h):ploud A E ρ h o K':=by
 unfold ploud at hp ⊢
 split at hp<;>(try split at hp)<;>first
  |exact hp.elim
  |exact PStore.mono hp hK
  |exact PMake.mono hp hK
  |exact PMapUpdate.mono hp hK
  |exact PDelete.mono hp hK
  |exact PRangeM.mono hp hK
  |exact PNext.mono hp hK
  |exact PEntry.mono hp hK
  |exact PAppend.mono hp hK
  |exact PCopy.mono hp hK
  |exact hK _ _ hp
theorem PCallV.mono {f:PV} {args:List PV} {h:PH} (hc:PCallV P f args h K X) (hK:∀ v h,K v h→K' v h) (hX:∀ v h,X v h→X' v h):PCallV P f args h K' X':=by
 intro w0 s fn xf xc xs a1 a2 a3 a4
 have:=hc w0 s fn xf xc xs a1 a2 a3 a4
 revert this
 generalize (invoke (.fn fn xc) (xf++xs)).run P s.w=r
 intro this
 cases r with
 |halt x w=>exact this
 |ok nx w =>
  cases nx<;>try exact this
  ·exact Calls.mono this fun _ _ he=>he.mono hK hX
  ·intro c cs
   rcases this c cs with ⟨v,w',h1,h2⟩ | ⟨ch,w',h1,h2⟩
   ·exact .inl ⟨v,w',h1.mono hK hX,h2⟩
   ·exact .inr ⟨ch,w',h1.mono hK hX,h2⟩
theorem pcallF_mono {f:PV} {args:List PV} {h:PH} (hc:pcallF A P f args h K X) (hK:∀ v h,K v h→K' v h) (hX:∀ v h,X v h→X' v h):pcallF A P f args h K' X':=by
 unfold pcallF at hc ⊢
 split at hc
 ·exact hc.mono hK hX
 ·next name t v first cap =>
  split at hc
  case h_2=>exact hc.elim
  next g u hm =>
  exact hc.mono hK hX
 ·next name cap =>
  split at hc
  case h_2=>exact hc.elim
  next t v rest =>
  split at hc
  case h_2=>exact hc.elim
  next g u hm =>
  exact hc.mono hK hX
 ·exact ⟨hc.1,hc.2.mono hK hX⟩
theorem pop_mono {t:Nat→Option PV} {h:PH} {o:Oper} (hp:pop A E P M t h o K X) (hK:∀ v h,K v h→K' v h) (hX:∀ v h,X v h→X' v h):pop A E P M t h o K' X':=by
 unfold pop at hp ⊢
 split at hp
 ·exact hp.mono fun v=>hK v h
 ·exact hp.mono fun v=>hK v h
 ·exact ploud_mono hp hK
 ·unfold ppick at hp ⊢
  split at hp
  case h_2=>exact hp.elim
  next c a b ho =>
  split at hp
  case h_2=>exact hp.elim
  next q hq =>
  exact hp.mono (fun h=>h.mono fun v=>hK v _) fun h=>h.mono fun v=>hK v _
 ·unfold pcallO at hp ⊢
  split at hp
  case h_2=>exact hp.elim
  next c ho =>
  split at hp
  case h_2=>exact hp.elim
  next args hargs =>
  split at hp
  ·next recv name hc =>
   split at hp
   case h_2=>exact hp.elim
   next t' v hr =>
   split at hp
   case h_2=>exact hp.elim
   next g u hm =>
   exact hp.mono hK hX
  ·next f hc =>
   split at hp
   case h_2=>exact hp.elim
   next fv hf =>
   exact pcallF_mono hp hK hX
  ·exact hp.elim
 ·unfold ppanic at hp ⊢
  split at hp
  ·next x ho =>
   split at hp
   case h_2=>exact hp.elim
   next t' v hx =>
   exact hX _ _ hp
  ·next c ho =>
   split at hp
   case h_2=>exact hp.elim
   next t' v l hc hargs =>
   exact hX _ _ hp
  ·exact hp.elim
end
@[irreducible] def Reg (C:Cx) (F:EQ) (X:EX) (k:List KI) (all os:List Oper) (e:EL) (ds:List Nat) (h:PH):Prop :=
 ∀ t:T PV,t.get=lget e→preg C.A C.E C.P C.M C.sz all os t h (fun t h=>toQ (Ks C F X k) .normal t ds h) (X ds)
theorem Run.region (hC:C.Ok) {id:Nat} {ops:Array Oper} (hr:Reg C F X k ops.toList ops.toList e ds h):Run C F X (.c (.region id ops false)::k) e ds h:=by
 unfold Reg at hr
 exact Run.intro (PWP.region hC.A hC.E (hr (TE e) (TE_getf e)))
variable {all os:List Oper}
theorem Reg.nil (hk:Run C F X k e ds h):Reg C F X k all [] e ds h:=by
 unfold Reg
 exact fun t ht=>hk.toQ fun i v hi=>by rw [ht];exact hi
theorem Reg.same {e':EL} (hs:∀ i,lget e' i=lget e i) (hr:Reg C F X k all os e' ds h):Reg C F X k all os e ds h:=by
 unfold Reg at hr ⊢
 exact fun t ht=>hr t (ht.trans (funext fun i=>(hs i).symm))
theorem put_get {t:T PV} (ht:t.get=lget e) (d:Nat) (v:PV):(tput t (some d) v).get=lget ((d,v)::e):=by
 funext i
 simp only [tput,T.get_set,lget,ht]
 cases h:Nat.beq i d with
 |true=>rw [if_pos (Nat.eq_of_beq_eq_true h)]
 |false=>rw [if_neg (fun e=>by subst e;simp at h)]
@[irreducible] def Ope (C:Cx) (X:EX) (o:Oper) (e:EL) (ds:List Nat) (h:PH) (K:PV→PH→Prop):Prop:=pop C.A C.E C.P C.M (lget e) h o K (X ds)
def Aft (C:Cx) (F:EQ) (X:EX) (k:List KI) (all os:List Oper) (d:Option Nat) (e:EL) (ds:List Nat) (v:PV) (h:PH):Prop :=
 match d with
 |some d=>Reg C F X k all os ((d,v)::e) ds h
 |none=>Reg C F X k all os e ds h
theorem Aft.go {d:Option Nat} {v:PV} (ha:Aft C F X k all os d e ds v h) {t:T PV} (ht:t.get=lget e):preg C.A C.E C.P C.M C.sz all os (tput t d v) h (fun t h=>toQ (Ks C F X k) .normal t ds h) (X ds):=by
 cases d with
 |none =>
  simp only [Aft] at ha
  unfold Reg at ha
  exact ha t ht
 |some d =>
  simp only [Aft] at ha
  unfold Reg at ha
  exact ha _ (put_get ht d v)
theorem Ope.go {o:Oper} (ho:Ope C X o e ds h fun v h'=>Aft C F X k all os o.dst e ds v h') {t:T PV} (ht:t.get=lget e) :
  pop C.A C.E C.P C.M t.get h o (fun v h'=>preg C.A C.E C.P C.M C.sz all os (tput t o.dst v) h' (fun t h=>toQ (Ks C F X k) .normal t ds h) (X ds)) (X ds):=by
 unfold Ope at ho
 rw [ht]
 exact pop_mono ho (fun v h' hv=>hv.go ht) fun _ _ hx=>hx
theorem Reg.op {d:Nat} {op:Op} {type:TypeId} {pos:String} {after:Array Edge} (hd:Nat.blt d C.sz=true)
  (ho:Ope C X { dst:=some d,op,type,pos,after,guard:=none } e ds h fun v h'=>Reg C F X k all os ((d,v)::e) ds h'):Reg C F X k all ({ dst:=some d,op,type,pos,after,guard:=none }::os) e ds h:=by
 unfold Reg
 intro t ht
 simp only [preg,dstIn,hd]
 exact Ope.go (o:={ dst:=some d,op,type,pos,after,guard:=none }) ho ht
theorem Reg.op0 {op:Op} {type:TypeId} {pos:String} {after:Array Edge}
  (ho:Ope C X { dst:=none,op,type,pos,after,guard:=none } e ds h fun _ h'=>Reg C F X k all os e ds h'):Reg C F X k all ({ dst:=none,op,type,pos,after,guard:=none }::os) e ds h:=by
 unfold Reg
 intro t ht
 simp only [preg,dstIn]
 exact Ope.go (o:={ dst:=none,op,type,pos,after,guard:=none }) ho ht
theorem Ope.quiet {o:Oper} {K:PV→PH→Prop} {v:PV} (hk:pkind C.M o=.quiet) (hv:pquiet C.A C.E (pev (lget e)) h o.op=some v) (hK:K v h):Ope C X o e ds h K:=by
 unfold Ope
 simp only [pop,hk,hv,PDo]
 exact hK
end
end Go.Pv
namespace Go.Pv
open Go.Am Go.RowKit
def cutK {α β:Type}:Nat→Nat→List α→(List α→Option β)→Option β
 |0,0,_,k=>k []
 |0,n+1,c::cs,k=>cutK 0 n cs fun l=>k (c::l)
 |o+1,n,_::cs,k=>cutK o n cs k
 |_,_,[],_=>none
def nthK {α:Type}:List α→Nat→Option α
 |[],_=>none
 |c::_,0=>some c
 |_::cs,n+1=>nthK cs n
def putK {α β:Type}:Nat→List α→List α→(List α→Option β)→Option β
 |0,[],cs,k=>endK cs k
 |0,v::vs,_::cs,k=>putK 0 vs cs fun l=>k (v::l)
 |o+1,vs,c::cs,k=>putK o vs cs fun l=>k (c::l)
 |_,_,[],_=>none
where endK:List α→(List α→Option β)→Option β
 |[],k=>k []
 |c::cs,k=>endK cs fun l=>k (c::l)
theorem nthK_eq {α:Type}:∀ (l:List α) (n:Nat),nthK l n=l[n]?
 |[],_=>by simp [nthK]
 |c::cs,0=>by simp [nthK]
 |c::cs,n+1=>by simp [nthK,nthK_eq cs n]
theorem cutK_eq {α β:Type}:∀ (o n:Nat) (l:List α) (k:List α→Option β) (v:β),cutK o n l k=some v→k ((l.drop o).take n)=some v∧o+n≤l.length
 |0,0,l,k,v,h=>by simpa [cutK] using h
 |0,n+1,[],k,v,h=>by simp [cutK] at h
 |0,n+1,c::cs,k,v,h=>by
  simp only [cutK] at h
  obtain ⟨h1,h2⟩:=cutK_eq 0 n cs _ v h
  simp at h1 h2 ⊢
  exact ⟨h1,by omega⟩
 |o+1,n,[],k,v,h=>by simp [cutK] at h
 |o+1,n,c::cs,k,v,h=>by
  simp only [cutK] at h
  obtain ⟨h1,h2⟩:=cutK_eq o n cs _ v h
  simp at h1 h2 ⊢
  exact ⟨h1,by omega⟩
theorem endK_eq {α β:Type}:∀ (l:List α) (k:List α→Option β),putK.endK l k=k l
 |[],_=>rfl
 |c::cs,k=>by simp only [putK.endK];rw [endK_eq cs]
theorem putK_eq {α β:Type}:∀ (o:Nat) (vs l:List α) (k:List α→Option β) (v:β),putK o vs l k=some v→k (l.take o++vs++l.drop (o+vs.length))=some v∧o+vs.length≤l.length
 |0,[],l,k,v,h=>by simp only [putK,endK_eq] at h;simpa using h
 |0,x::vs,[],k,v,h=>by simp [putK] at h
 |0,x::vs,c::cs,k,v,h=>by
  simp only [putK] at h
  obtain ⟨h1,h2⟩:=putK_eq 0 vs cs _ v h
  simp at h1 h2 ⊢
  exact ⟨h1,h2⟩
 |o+1,vs,[],k,v,h=>by cases vs<;>simp [putK] at h
 |o+1,vs,c::cs,k,v,h=>by
  have h:putK o vs cs (fun l=>k (c::l))=some v:=by cases vs<;>simpa [putK] using h
  obtain ⟨h1,h2⟩:=putK_eq o vs cs _ v h
  simp only [List.take_succ_cons,List.cons_append,List.length_cons]
  rw [show o+1+vs.length=o+vs.length+1 from by omega,List.drop_succ_cons]
  exact ⟨h1,by omega⟩
def partK (agg:Bool) (off sz:Nat) (cs:List PV):Option PV :=
 match agg with
 |true=>cutK off sz cs fun l=>some (.agg l)
 |false=>nthK cs off
def tyP (A:AP) (t:TypeId):Option (Bool×Nat) :=
 match A.under t,A.info t with
 |some d,some ti=>some (isAggB d,ti.size)
 |_,_=>none
class Ty (A:AP) (t:Nat) (agg:outParam Bool) (sz:outParam Nat):Prop where
 ok:tyP A t=some (agg,sz)
theorem Ty.get {A:AP} {t:Nat} {agg:Bool} {sz:Nat} (h:Ty A t agg sz):∃ d ti,A.under t=some d∧A.info t=some ti∧isAggB d=agg∧ti.size=sz:=by
 have:=h.ok
 unfold tyP at this
 split at this
 ·next d ti hd hi=>cases this;exact ⟨d,ti,hd,hi,rfl,rfl⟩
 ·cases this
theorem ppart_K {A:AP} {t:Nat} {agg:Bool} {sz off:Nat} {cs:List PV} {v:PV} (h:Ty A t agg sz) (hv:partK agg off sz cs=some v):ppart A t cs off=some v:=by
 obtain ⟨d,ti,h1,h2,rfl,rfl⟩:=h.get
 unfold ppart
 rw [h1,h2]
 unfold partK at hv
 split at hv
 ·next ha=>simp only [ha];exact (cutK_eq _ _ _ _ _ hv).1
 ·next ha=>simp only [ha];rw [← nthK_eq];exact hv
def fldP (A:AP) (s:TypeId) (f:Nat):Option (Nat×Bool×Nat) :=
 match A.under s with
 |some (.struct fields)=>match fields.toList[f]? with
  |some fd=>match tyP A fd.type with
   |some (agg,sz)=>some (fd.offset,agg,sz)
   |none=>none
  |none=>none
 |_=>none
class Fld (A:AP) (s f:Nat) (off:outParam Nat) (agg:outParam Bool) (sz:outParam Nat):Prop where
 ok:fldP A s f=some (off,agg,sz)
theorem Fld.get {A:AP} {s f off sz:Nat} {agg:Bool} (h:Fld A s f off agg sz):∃ fields fd,A.under s=some (.struct fields)∧fields.toList[f]?=some fd∧fd.offset=off∧Ty A fd.type agg sz:=by
 have:=h.ok
 unfold fldP at this
 split at this
 ·next fields hf =>
  split at this
  ·next fd hfd =>
   split at this
   ·next agg' sz' ht=>cases this;exact ⟨fields,fd,hf,hfd,rfl,⟨ht⟩⟩
   ·cases this
  ·cases this
 ·cases this
def arrP (A:AP) (t:TypeId):Option (Nat×Bool×Nat) :=
 match A.under t with
 |some (.array n e)=>match tyP A e with
  |some (agg,sz)=>some (n,agg,sz)
  |none=>none
 |_=>none
class Arr (A:AP) (t:Nat) (len:outParam Nat) (agg:outParam Bool) (sz:outParam Nat):Prop where
 ok:arrP A t=some (len,agg,sz)
theorem Arr.get {A:AP} {t len sz:Nat} {agg:Bool} (h:Arr A t len agg sz):∃ e,A.under t=some (.array len e)∧Ty A e agg sz:=by
 have:=h.ok
 unfold arrP at this
 split at this
 ·next n e hu =>
  split at this
  ·next ht=>cases this;exact ⟨e,hu,⟨ht⟩⟩
  ·cases this
 ·cases this
def slcP (A:AP) (t:TypeId):Option (Bool×Nat×Nat) :=
 match A.under t with
 |some (.slice e)=>match tyP A e,A.info e with
  |some (agg,sz),some ti=>match zeroOk ti with
   |true=>some (agg,sz,ti.bytes)
   |false=>none
  |_,_=>none
 |_=>none
class Slc (A:AP) (t:Nat) (agg:outParam Bool) (sz:outParam Nat) (bytes:outParam Nat):Prop where
 ok:slcP A t=some (agg,sz,bytes)
theorem Slc.get {A:AP} {t sz bytes:Nat} {agg:Bool} (h:Slc A t agg sz bytes):∃ e ti,A.under t=some (.slice e)∧Ty A e agg sz∧A.info e=some ti∧ti.bytes=bytes∧zeroOk ti=true:=by
 have:=h.ok
 unfold slcP at this
 split at this
 ·next e hu =>
  split at this
  ·next ti ht hi =>
   split at this
   ·next hz=>cases this;exact ⟨e,ti,hu,⟨ht⟩,hi,rfl,hz⟩
   ·cases this
  ·cases this
 ·cases this
class Zer (A:AP) (t:Nat) (z:outParam PV):Prop where
 ok:pzero A t=some z
def bldP (A:AP) (t:TypeId):Option (List PV×List (Nat×Nat)) :=
 match A.info t,A.under t with
 |some it,some (.struct fields)=>match it.zero with
  |some z=>match zcells z,aplaces A fields.toList with
   |some cs,some places=>some (cs,places)
   |_,_=>none
  |none=>none
 |some it,some (.array n e)=>match it.zero,A.info e with
  |some z,some ie=>match zcells z with
   |some cs=>some (cs,(List.range n).map fun i=>(i * ie.size,ie.size))
   |none=>none
  |_,_=>none
 |_,_=>none
class Bld (A:AP) (t:Nat) (zs:outParam (List PV)) (places:outParam (List (Nat×Nat))):Prop where
 ok:bldP A t=some (zs,places)
def fillK {β:Type} (places:List (Nat×Nat)):List (Nat×PV)→List PV→(List PV→Option β)→Option β
 |[],cs,k=>k cs
 |(i, w) :: ps, cs, k => match nthK places i with
  |none=>none
  |some (off,size)=>match Nat.beq w.nc size with
   |true=>putK off w.cells cs fun cs=>fillK places ps cs k
   |false=>none
theorem pputAt_eq:∀ (l:List PV) (o:Nat) (vs:List PV),o+vs.length≤l.length→pputAt l o vs=l.take o++vs++l.drop (o+vs.length)
 |[],o,vs,h=>by
  simp at h
  obtain ⟨rfl,rfl⟩:=h
  rfl
 |c::cs,0,[],h=>by simp [pputAt]
 |c::cs,0,v::vs,h=>by
  simp only [pputAt]
  rw [pputAt_eq cs 0 vs (by simp at h ⊢;omega)]
  simp
 |c::cs,n+1,vs,h=>by
  simp only [pputAt]
  rw [pputAt_eq cs n vs (by simp at h ⊢;omega)]
  simp only [List.take_succ_cons,List.cons_append]
  rw [show n+1+vs.length=n+vs.length+1 from by omega,List.drop_succ_cons]
theorem fillK_eq {β:Type} {places:List (Nat×Nat)} {pl:Nat→Option (Nat×Nat)} (hpl:∀ i x,places[i]?=some x→pl i=some x):∀ (ps:List (Nat×PV)) (cs:List PV) (k:List PV→Option β) (v:β),fillK places ps cs k=some v →
  ∃ out,pfill pl cs ps=some out∧k out=some v
 |[],cs,k,v,h=>⟨cs,rfl,h⟩
 |(i, w) :: ps, cs, k, v, h => by
  simp only [fillK] at h
  split at h
  ·cases h
  next off size hn =>
  split at h
  case h_2=>cases h
  next hsz =>
  have hsz:=Nat.eq_of_beq_eq_true hsz
  obtain ⟨h1,h2⟩:=putK_eq _ _ _ _ _ h
  rw [nthK_eq] at hn
  obtain ⟨out,h3,h4⟩:=fillK_eq hpl ps _ k v h1
  refine ⟨out,?_,h4⟩
  have hl:w.cells.length=size:=by rw [PV.cells_length];exact hsz
  simp only [pfill,hpl i _ hn]
  have hb:(w.cells.length == size && Nat.ble (off+size) cs.length)=true:=by
   simp only [Bool.and_eq_true,beq_iff_eq]
   exact ⟨hl,by rw [Nat.ble_eq];omega⟩
  rw [hb]
  simp only
  rw [pputAt_eq _ _ _ h2]
  exact h3
theorem Bld.build {A:AP} {t:Nat} {zs:List PV} {places:List (Nat×Nat)} (h:Bld A t zs places) {ps:List (Nat×PV)} {out:List PV} (hf:fillK places ps zs some=some out):pbuild A t ps=some (.agg out):=by
 have:=h.ok
 unfold bldP at this
 unfold pbuild
 split at this
 ·next it fields hi hu =>
  simp only [hi,hu]
  split at this
  case h_2=>cases this
  next z hz =>
  simp only [hz]
  split at this
  case h_2=>cases this
  next cs pl hcs hpl =>
  cases this
  obtain ⟨out',h1,h2⟩:=fillK_eq (pl:=fun i=>places[i]?) (fun i x hx=>hx) ps zs some out hf
  cases h2
  simp only [hcs,hpl,h1]
 ·next it n e hi hu =>
  simp only [hi,hu]
  split at this
  case h_2=>cases this
  next z ie hz hie =>
  simp only [hz,hie]
  split at this
  case h_2=>cases this
  next cs hcs =>
  cases this
  obtain ⟨out',h1,h2⟩:=fillK_eq (pl:=fun i=>some (i * ie.size,ie.size)) (fun i x hx=>by
   simp only [List.getElem?_map] at hx
   cases hr:(List.range n)[i]? with
   |none=>rw [hr] at hx;cases hx
   |some j =>
    rw [hr] at hx
    have:j=i:=by
     have h3:=List.getElem?_eq_some_iff.1 hr
     obtain ⟨h4,h5⟩:=h3
     simpa using h5.symm
    subst this
    simpa using hx) ps zs some out hf
  cases h2
  simp only [hcs,h1]
 ·cases this
def plainTy (A:AP) (t:TypeId):Bool :=
 match A.under t with
 |some (.interface _)=>false
 |some _=>true
 |none=>false
class Con (A:AP) (t:Nat):Prop where
 ok:plainTy A t=true
def intP (A:AP) (t:TypeId):Option IntKind :=
 match A.under t with
 |some (.int k)=>some k
 |_=>none
class Ink (A:AP) (t:Nat) (k:outParam IntKind):Prop where
 ok:intP A t=some k
theorem Ink.get {A:AP} {t:Nat} {k:IntKind} (h:Ink A t k):A.under t=some (.int k):=by
 have:=h.ok
 unfold intP at this
 split at this
 ·next hu=>cases this;exact hu
 ·cases this
def hget:List (Nat×Option PBlk)→Nat→Option PBlk
 |[],_=>none
 |(j,b)::l,i=>match Nat.beq i j with
  |true=>b
  |false=>hget l i
def HE (n:Nat) (l:List (Nat×Option PBlk)):PH:=⟨hget l,n⟩
theorem beq_if {α:Type} {i j:Nat} {a b:α}:(match Nat.beq i j with | true=>a | false=>b)=if i=j then a else b:=by
 cases h:Nat.beq i j with
 |true=>rw [if_pos (Nat.eq_of_beq_eq_true h)]
 |false=>rw [if_neg (fun e=>by subst e;simp at h)]
theorem HE_add {n:Nat} {l:List (Nat×Option PBlk)} {b:PBlk}:(HE n l).add b=HE (n+1) ((n,some b)::l):=by
 unfold HE PH.add
 congr 1
 funext i
 simp only [hget,beq_if]
theorem HE_put {n:Nat} {l:List (Nat×Option PBlk)} {i:Nat} {b:PBlk}:(HE n l).put i b=HE n ((i,some b)::l):=by
 unfold HE PH.put
 congr 1
 funext j
 simp only [hget,beq_if]
theorem HE_del {n:Nat} {l:List (Nat×Option PBlk)} {i:Nat}:(HE n l).del i=HE n ((i,none)::l):=by
 unfold HE PH.del
 congr 1
 funext j
 simp only [hget,beq_if]
def loadK (agg:Bool) (sz:Nat) (l:List (Nat×Option PBlk)) (v:PV):Option PV :=
 match v with
 |.fp u=>match agg,u with
  |true,.agg cs=>match Nat.beq cs.length sz with
   |true=>some (.agg cs)
   |false=>none
  |true,_=>none
  |false,.agg _=>none
  |false,u=>some u
 |.ptr i o=>match hget l i with
  |some (.cells cs)=>partK agg o sz cs
  |_=>none
 |_=>none
theorem pload_K {A:AP} {t:Nat} {agg:Bool} {sz n:Nat} {l:List (Nat×Option PBlk)} {v u:PV} (h:Ty A t agg sz) (hv:loadK agg sz l v=some u):pload A (HE n l) t v=some u:=by
 obtain ⟨d,ti,h1,h2,rfl,rfl⟩:=h.get
 unfold pload
 rw [h1,h2]
 simp only
 unfold loadK at hv
 split at hv
 ·exact hv
 ·next i o =>
  split at hv
  case h_2=>cases hv
  next cs hcs =>
  simp only [HE,hcs]
  unfold partK at hv
  split at hv
  ·next ha =>
   obtain ⟨h3,h4⟩:=cutK_eq _ _ _ _ _ hv
   simp only [ha]
   have:Nat.ble (o+ti.size) cs.length=true:=by rw [Nat.ble_eq];exact h4
   rw [this]
   exact h3
  ·next ha =>
   simp only [ha]
   rw [← nthK_eq]
   exact hv
 ·cases hv
def addrK (agg:Bool) (off sz:Nat) (v:PV):Option PV :=
 match v with
 |.fp (.agg cs)=>match Nat.ble 1 sz,partK agg off sz cs with
  |true,some u=>match agg,u.isAgg with
   |true,_=>some (.fp u)
   |false,false=>some (.fp u)
   |false,true=>none
  |_,_=>none
 |.ptr i o=>match Nat.ble 1 sz with
  |true=>some (.ptr i (Nat.add o off))
  |false=>none
 |_=>none
theorem pfieldAddr_K {A:AP} {s f off sz:Nat} {agg:Bool} {v u:PV} (h:Fld A s f off agg sz) (hv:addrK agg off sz v=some u):pfieldAddr A s v f=some u:=by
 obtain ⟨fields,fd,h1,h2,rfl,h3⟩:=h.get
 obtain ⟨d,ti,h4,h5,rfl,rfl⟩:=h3.get
 unfold pfieldAddr
 simp only [h1,h2]
 unfold addrK at hv
 split at hv
 ·next cs =>
  split at hv
  case h_2=>cases hv
  next u' hb hp =>
  simp only [h5,hb,ppart_K h3 hp,h4]
  exact hv
 ·next i o =>
  split at hv
  case h_2=>cases hv
  next hb =>
  cases hv
  rw [Nat.ble_eq] at hb
  simp only [h5]
  split
  ·omega
  ·rfl
 ·cases hv
def indexK (len : Nat) (agg : Bool) (sz : Nat) (n : Nat) (v : PV) : Option PV :=
 match Nat.blt n len with
 |false=>none
 |true=>match v with
  |.fp (.agg cs)=>match partK agg (Nat.mul n sz) sz cs with
   |some u=>match agg,u.isAgg with
    |true,_=>some (.fp u)
    |false,false=>some (.fp u)
    |false,true=>none
   |none=>none
  |.ptr i o=>some (.ptr i (Nat.add o (Nat.mul n sz)))
  |_=>none
theorem pindexAddr_K {A:AP} {t len sz n:Nat} {agg:Bool} {v u:PV} {k:IntKind} (h:Arr A t len agg sz) (hv:indexK len agg sz n v=some u):pindexAddr A t v (.lit (.int k (n:Int)))=some u:=by
 obtain ⟨e,h1,h2⟩:=h.get
 obtain ⟨d,ti,h4,h5,rfl,rfl⟩:=h2.get
 unfold indexK at hv
 split at hv
 ·cases hv
 next hlt =>
 have hai:aidx (n:Int) len=some n:=by
  show aidx (Int.ofNat n) len=some n
  simp [aidx,hlt]
 split at hv
 ·next cs =>
  split at hv
  case h_2=>cases hv
  next w hw =>
  simp only [pindexAddr,h1,hai,h5]
  have:=ppart_K h2 hw
  simp only [Nat.mul_eq] at this
  simp only [this,h4]
  exact hv
 ·cases hv
  simp only [pindexAddr,h1,hai,h5]
  rfl
 ·cases hv
end Go.Pv
namespace Go.Pv
open Go.Am Go.RowKit
abbrev I (n:Int):PV:=.lit (.int .i64 n)
abbrev B (b:Bool):PV:=.lit (.bool b)
def natK:Int→Option Nat
 |.ofNat n=>some n
 |.negSucc _=>none
theorem natK_eq {i:Int} {n:Nat} (h:natK i=some n):i=(n:Int):=by
 cases i with
 |ofNat m=>cases h;rfl
 |negSucc m=>cases h
section
variable {C:Cx} {F:EQ} {X:EX} {k:List KI} {e:EL} {ds:List Nat} {h:PH} {K:PV→PH→Prop} {n:Nat} {l:List (Nat×Option PBlk)}
variable {d:Option Tmp} {type:TypeId} {pos:String} {after:Array Edge} {guard:Option (Nat×Bool)}
theorem Ope.mov {x:Operand} {v:PV} (hx:pev (lget e) x=some v) (hK:K v h):Ope C X { dst:=d,op:=.move x,type,pos,after,guard } e ds h K :=
 Ope.quiet rfl hx hK
theorem Ope.asg {x:Operand} {v:PV} (hx:pev (lget e) x=some v) (hK:K v h):Ope C X { dst:=d,op:=.assign x,type,pos,after,guard } e ds h K :=
 Ope.quiet rfl hx hK
theorem Ope.load {t:TypeId} {a:Operand} {agg:Bool} {sz:Nat} {p v:PV} [ht:Ty C.A t agg sz] (ha:pev (lget e) a=some p) (hv:loadK agg sz l p=some v) (hK:K v (HE n l)) :
  Ope C X { dst:=d,op:=.load t a,type,pos,after,guard } e ds (HE n l) K :=
 Ope.quiet rfl (by simp only [pquiet,ha];exact pload_K ht hv) hK
theorem Ope.fld {s f off sz:Nat} {agg:Bool} {a:Operand} {p v:PV} [hf:Fld C.A s f off agg sz] (ha:pev (lget e) a=some p) (hv:addrK agg off sz p=some v) (hK:K v h) :
  Ope C X { dst:=d,op:=.fieldAddr s a f,type,pos,after,guard } e ds h K :=
 Ope.quiet rfl (by simp only [pquiet,ha];exact pfieldAddr_K hf hv) hK
theorem Ope.idxA {t len sz m:Nat} {agg:Bool} {x i:Operand} {kk:IntKind} {a:Int} {p v:PV} [hf:Arr C.A t len agg sz] (hx:pev (lget e) x=some p) (hi:pev (lget e) i=some (.lit (.int kk a))) (hn:natK a=some m)
  (hv:indexK len agg sz m p=some v) (hK:K v h):Ope C X { dst:=d,op:=.indexAddr t x i,type,pos,after,guard } e ds h K :=
 Ope.quiet rfl (by simp only [pquiet,hx,hi];rw [natK_eq hn];exact pindexAddr_K hf hv) hK
theorem Slc.idx {A:AP} {t sz bytes m:Nat} {agg:Bool} {kk:IntKind} {tl:Tail} {vs:List PV} {v:PV} (hs:Slc A t agg sz bytes) (hm:vs[m]?=some v) (hnc:v.nc=sz):pindexAddr A t (.sl tl vs) (.lit (.int kk (m:Int)))=some (.fp v):=by
 obtain ⟨el,ti,h1,h2,h3,_,_⟩:=hs.get
 obtain ⟨d',ti',h4,h5,rfl,rfl⟩:=h2.get
 rw [h3] at h5
 cases h5
 have hlt:m < vs.length:=(List.getElem?_eq_some_iff.1 hm).1
 have hai:aidx (m:Int) vs.length=some m:=by
  show aidx (Int.ofNat m) vs.length=some m
  simp [aidx,(T.blt_iff _ _).2 hlt]
 have hb:Nat.beq v.nc ti.size=true:=by rw [hnc];exact Nat.beq_refl _
 simp only [pindexAddr,h1,hai,h3,hm,hb]
theorem Ope.idxS {t sz bytes m:Nat} {agg:Bool} {x i:Operand} {kk:IntKind} {a:Int} {tl:Tail} {vs:List PV} {v:PV} [hs:Slc C.A t agg sz bytes] (hx:pev (lget e) x=some (.sl tl vs)) (hi:pev (lget e) i=some (.lit (.int kk a))) (hn:natK a=some m)
  (hm:vs[m]?=some v) (hnc:v.nc=sz) (hK:K (.fp v) h):Ope C X { dst:=d,op:=.indexAddr t x i,type,pos,after,guard } e ds h K :=
 Ope.quiet rfl (by simp only [pquiet,hx,hi];rw [natK_eq hn];exact hs.idx hm hnc) hK
theorem Ope.idxM {α:Type} {f:α→PV} {xs:List α} {t sz bytes m:Nat} {agg:Bool} {x i:Operand} {kk:IntKind} {a:Int} {tl:Tail} [hs:Slc C.A t agg sz bytes] (hx:pev (lget e) x=some (.sl tl (xs.map f))) (hi:pev (lget e) i=some (.lit (.int kk a))) (hn:natK a=some m)
  (hm:m < xs.length) (hnc:∀ x,(f x).nc=sz) (hK:K (.fp (f xs[m])) h):Ope C X { dst:=d,op:=.indexAddr t x i,type,pos,after,guard } e ds h K :=
 Ope.idxS hx hi hn (by simp [hm]) (hnc _) hK
theorem Ope.idxL {t sz bytes m:Nat} {agg:Bool} {x i:Operand} {kk:IntKind} {a:Int} {j o len cap:Nat} {ez:Option Nat} [hs:Slc C.A t agg sz bytes] (hx:pev (lget e) x=some (.ms j o len cap ez)) (hi:pev (lget e) i=some (.lit (.int kk a))) (hn:natK a=some m)
  (hm:m < len) (hK:K (.ptr j (o+m * sz)) h):Ope C X { dst:=d,op:=.indexAddr t x i,type,pos,after,guard } e ds h K:=by
 refine Ope.quiet rfl ?_ hK
 simp only [pquiet,hx,hi]
 rw [natK_eq hn]
 obtain ⟨el,ti,h1,h2,h3,_,_⟩:=hs.get
 obtain ⟨d',ti',h4,h5,rfl,rfl⟩:=h2.get
 rw [h3] at h5
 cases h5
 have hai:aidx (m:Int) len=some m:=by
  show aidx (Int.ofNat m) len=some m
  simp [aidx,(T.blt_iff _ _).2 hm]
 simp only [pindexAddr,h1,hai,h3]
theorem Ope.idx {t len sz m:Nat} {agg:Bool} {x i:Operand} {kk:IntKind} {a:Int} {cs:List PV} {v:PV} [hf:Arr C.A t len agg sz] (hx:pev (lget e) x=some (.agg cs)) (hi:pev (lget e) i=some (.lit (.int kk a))) (hn:natK a=some m)
  (hm:Nat.blt m len=true) (hv:partK agg (Nat.mul m sz) sz cs=some v) (hK:K v h):Ope C X { dst:=d,op:=.index t x i,type,pos,after,guard } e ds h K:=by
 refine Ope.quiet rfl ?_ hK
 simp only [pquiet,hx,hi]
 rw [natK_eq hn]
 obtain ⟨el,h1,h2⟩:=hf.get
 obtain ⟨d',ti,h4,h5,rfl,rfl⟩:=h2.get
 have hai:aidx (m:Int) len=some m:=by
  show aidx (Int.ofNat m) len=some m
  simp [aidx,hm]
 simp only [pindex,h1,hai,h5]
 exact ppart_K h2 hv
theorem Ope.field {s f off sz:Nat} {agg:Bool} {x:Operand} {cs:List PV} {v:PV} [hf:Fld C.A s f off agg sz] (hx:pev (lget e) x=some (.agg cs)) (hv:partK agg off sz cs=some v) (hK:K v h) :
  Ope C X { dst:=d,op:=.field s x f,type,pos,after,guard } e ds h K:=by
 refine Ope.quiet rfl ?_ hK
 obtain ⟨fields,fd,h1,h2,rfl,h3⟩:=hf.get
 simp only [pquiet,hx,pfield,h1,h2]
 exact ppart_K h3 hv
theorem pbin_int {A:AP} {E:Eqs} {op:BinOp} {t:TypeId} {xo yo:Operand} {kk:IntKind} {a b:Int} {r:AV} {v:PV} (h1:op≠.shl) (h2:op≠.shr) (hr:aint op kk a b=some r) (hv:PV.ofAV r=some v):pbin A E op t xo yo (.lit (.int kk a)) (.lit (.int kk b))=some v:=by
 have hn:pnil A t (.lit (.int kk a)) (.lit (.int kk b))=none:=by
  unfold pnil
  split<;>first | rfl | (next h=>cases h)
 have hab:abin A E op t (.int kk a) (.int kk b)=some r:=by
  unfold abin
  cases op<;>first | exact absurd rfl h1 | exact absurd rfl h2 | (simp only [decide_true];exact hr)
 simp only [pbin,PV.toAV,bothNil,hn,hab,plit,hv]
theorem Ope.add {t t':TypeId} {x y:Operand} {a b:Int} (hx:pev (lget e) x=some (I a)) (hy:pev (lget e) y=some (I b)) (hr:-9223372036854775808≤a+b∧a+b≤9223372036854775807) (hK:K (I (a+b)) h) :
  Ope C X { dst:=d,op:=.binOp .add t x y t',type,pos,after,guard } e ds h K:=by
 refine Ope.quiet rfl ?_ hK
 simp only [pquiet,hx,hy]
 refine pbin_int (by simp) (by simp) rfl ?_
 simp only [PV.ofAV,fwrap_eq,wrap_in _ hr.1 hr.2]
theorem Ope.sub {t t':TypeId} {x y:Operand} {a b:Int} (hx:pev (lget e) x=some (I a)) (hy:pev (lget e) y=some (I b)) (hr:-9223372036854775808≤a - b∧a - b≤9223372036854775807) (hK:K (I (a - b)) h) :
  Ope C X { dst:=d,op:=.binOp .sub t x y t',type,pos,after,guard } e ds h K:=by
 refine Ope.quiet rfl ?_ hK
 simp only [pquiet,hx,hy]
 refine pbin_int (by simp) (by simp) rfl ?_
 simp only [PV.ofAV,fwrap_eq,wrap_in _ hr.1 hr.2]
theorem Ope.mul {t t':TypeId} {x y:Operand} {a b:Int} (hx:pev (lget e) x=some (I a)) (hy:pev (lget e) y=some (I b)) (hr:-9223372036854775808≤a * b∧a * b≤9223372036854775807) (hK:K (I (a * b)) h) :
  Ope C X { dst:=d,op:=.binOp .mul t x y t',type,pos,after,guard } e ds h K:=by
 refine Ope.quiet rfl ?_ hK
 simp only [pquiet,hx,hy]
 refine pbin_int (by simp) (by simp) rfl ?_
 simp only [PV.ofAV,fwrap_eq,wrap_in _ hr.1 hr.2]
theorem Ope.eq {t t':TypeId} {x y:Operand} {kk:IntKind} {a b:Int} (hx:pev (lget e) x=some (.lit (.int kk a))) (hy:pev (lget e) y=some (.lit (.int kk b))) (hK:K (B (decide (a=b))) h) :
  Ope C X { dst:=d,op:=.binOp .eql t x y t',type,pos,after,guard } e ds h K:=by
 refine Ope.quiet rfl ?_ hK
 simp only [pquiet,hx,hy]
 refine pbin_int (by simp) (by simp) rfl ?_
 simp only [PV.ofAV]
 rfl
theorem Ope.ne {t t':TypeId} {x y:Operand} {kk:IntKind} {a b:Int} (hx:pev (lget e) x=some (.lit (.int kk a))) (hy:pev (lget e) y=some (.lit (.int kk b))) (hK:K (B (decide (a≠b))) h) :
  Ope C X { dst:=d,op:=.binOp .neq t x y t',type,pos,after,guard } e ds h K:=by
 refine Ope.quiet rfl ?_ hK
 simp only [pquiet,hx,hy]
 refine pbin_int (by simp) (by simp) rfl ?_
 simp only [PV.ofAV,Option.some.injEq,PV.lit.injEq,AV.bool.injEq]
 by_cases hab:a=b<;>simp [hab]
theorem Ope.lt {t t':TypeId} {x y:Operand} {kk:IntKind} {a b:Int} (hx:pev (lget e) x=some (.lit (.int kk a))) (hy:pev (lget e) y=some (.lit (.int kk b))) (hK:K (B (decide (a < b))) h) :
  Ope C X { dst:=d,op:=.binOp .lss t x y t',type,pos,after,guard } e ds h K:=by
 refine Ope.quiet rfl ?_ hK
 simp only [pquiet,hx,hy]
 exact pbin_int (by simp) (by simp) rfl rfl
theorem Ope.le {t t':TypeId} {x y:Operand} {kk:IntKind} {a b:Int} (hx:pev (lget e) x=some (.lit (.int kk a))) (hy:pev (lget e) y=some (.lit (.int kk b))) (hK:K (B (decide (a≤b))) h) :
  Ope C X { dst:=d,op:=.binOp .leq t x y t',type,pos,after,guard } e ds h K:=by
 refine Ope.quiet rfl ?_ hK
 simp only [pquiet,hx,hy]
 exact pbin_int (by simp) (by simp) rfl rfl
theorem Ope.gt {t t':TypeId} {x y:Operand} {kk:IntKind} {a b:Int} (hx:pev (lget e) x=some (.lit (.int kk a))) (hy:pev (lget e) y=some (.lit (.int kk b))) (hK:K (B (decide (b < a))) h) :
  Ope C X { dst:=d,op:=.binOp .gtr t x y t',type,pos,after,guard } e ds h K:=by
 refine Ope.quiet rfl ?_ hK
 simp only [pquiet,hx,hy]
 exact pbin_int (by simp) (by simp) rfl rfl
theorem Ope.ge {t t':TypeId} {x y:Operand} {kk:IntKind} {a b:Int} (hx:pev (lget e) x=some (.lit (.int kk a))) (hy:pev (lget e) y=some (.lit (.int kk b))) (hK:K (B (decide (b≤a))) h) :
  Ope C X { dst:=d,op:=.binOp .geq t x y t',type,pos,after,guard } e ds h K:=by
 refine Ope.quiet rfl ?_ hK
 simp only [pquiet,hx,hy]
 exact pbin_int (by simp) (by simp) rfl rfl
theorem Ope.bin {op:BinOp} {t t':TypeId} {x y:Operand} {kk kk':IntKind} {a b:Int} {v:PV} (hx:pev (lget e) x=some (.lit (.int kk a))) (hy:pev (lget e) y=some (.lit (.int kk' b))) (hv:plit (abin C.A C.E op t (.int kk a) (.int kk' b))=some v) (hK:K v h) :
  Ope C X { dst:=d,op:=.binOp op t x y t',type,pos,after,guard } e ds h K:=by
 refine Ope.quiet rfl ?_ hK
 simp only [pquiet,hx,hy]
 have hn:pnil C.A t (.lit (.int kk a)) (.lit (.int kk' b))=none:=by
  unfold pnil
  split<;>first | rfl | (next h=>cases h)
 simp only [pbin,PV.toAV,bothNil,hn]
 exact hv
theorem Ope.not {t:TypeId} {x:Operand} {b:Bool} (hx:pev (lget e) x=some (B b)) (hK:K (B (!b)) h):Ope C X { dst:=d,op:=.unOp .not t x,type,pos,after,guard } e ds h K :=
 Ope.quiet rfl (by simp only [pquiet,hx];rfl) hK
theorem Ope.neg {t:TypeId} {x:Operand} {a:Int} (hx:pev (lget e) x=some (I a)) (hr:-9223372036854775808≤-a∧-a≤9223372036854775807) (hK:K (I (-a)) h):Ope C X { dst:=d,op:=.unOp .neg t x,type,pos,after,guard } e ds h K:=by
 refine Ope.quiet rfl ?_ hK
 simp only [pquiet,hx,pun,aun,plit,PV.ofAV,fwrap_eq]
 rw [show 0 - a=-a from by omega,wrap_in _ hr.1 hr.2]
theorem Ope.conv {s t:Nat} {x:Operand} {kk kk' ks:IntKind} {a b:Int} [hs:Ink C.A s ks] [ht:Ink C.A t kk] (hx:pev (lget e) x=some (.lit (.int kk' a))) (hr:kk.wrap a=b) (hK:K (.lit (.int kk b)) h) :
  Ope C X { dst:=d,op:=.convert s t x,type,pos,after,guard } e ds h K:=by
 refine Ope.quiet rfl ?_ hK
 simp only [pquiet,hx,pconv,aconv,hs.get,ht.get,plit,PV.ofAV,fwrap_eq,hr]
theorem Ope.ifc {t:Nat} {x:Operand} {v:PV} [hc:Con C.A t] (hx:pev (lget e) x=some v) (hK:K (.ifc t v) h):Ope C X { dst:=d,op:=.makeInterface t x,type,pos,after,guard } e ds h K:=by
 refine Ope.quiet rfl ?_ hK
 have:=hc.ok
 unfold plainTy at this
 simp only [pquiet,hx,pmakeInterface]
 generalize C.A.under t=u at this ⊢
 cases u with
 |none=>cases this
 |some d'=>cases d'<;>first | rfl | cases this
theorem Ope.mkf {f:Fn} {first cap:Array Operand} {a b:List PV} (ha:pargs (pev (lget e)) first.toList=some a) (hb:pargs (pev (lget e)) cap.toList=some b) (hK:K (.fn f a b) h) :
  Ope C X { dst:=d,op:=.makeFunc f first cap,type,pos,after,guard } e ds h K :=
 Ope.quiet rfl (by simp only [pquiet,ha,hb]) hK
theorem Ope.ext {x:Operand} {i:Nat} {vs:List PV} {v:PV} (hx:pev (lget e) x=some (.tup vs)) (hv:nthK vs i=some v) (hK:K v h):Ope C X { dst:=d,op:=.extract x i,type,pos,after,guard } e ds h K :=
 Ope.quiet rfl (by simp only [pquiet,hx];rw [← nthK_eq];exact hv) hK
theorem Ope.len {t sz bytes:Nat} {agg:Bool} {x:Operand} {tl:Tail} {vs:List PV} {m:Nat} [hs:Slc C.A t agg sz bytes] (hx:pev (lget e) x=some (.sl tl vs)) (hm:vs.length=m) (hK:K (I m) h) :
  Ope C X { dst:=d,op:=.call { callee:=.builtin .len,args:=#[x],argTypes:=#[t] },type,pos,after,guard } e ds h K:=by
 refine Ope.quiet rfl ?_ hK
 obtain ⟨el,ti,h1,_⟩:=hs.get
 simp only [pquiet,pargs,hx,plen,h1,hm]
 rfl
theorem Ope.lenL {t sz bytes:Nat} {agg:Bool} {x:Operand} {j o len cap:Nat} {ez:Option Nat} [hs:Slc C.A t agg sz bytes] (hx:pev (lget e) x=some (.ms j o len cap ez)) (hK:K (I len) h) :
  Ope C X { dst:=d,op:=.call { callee:=.builtin .len,args:=#[x],argTypes:=#[t] },type,pos,after,guard } e ds h K:=by
 refine Ope.quiet rfl ?_ hK
 obtain ⟨el,ti,h1,_⟩:=hs.get
 simp only [pquiet,pargs,hx,plen,h1]
 rfl
def nilcK:PV→Bool
 |.fp _=>true
 |.ptr _ _=>true
 |.ifc _ _=>true
 |.fn (.func _) _ _=>true
 |_=>false
theorem Ope.nilc {x:Operand} {v:PV} (hx:pev (lget e) x=some v) (hv:nilcK v=true) (hK:K v h):Ope C X { dst:=d,op:=.nilCheck x,type,pos,after,guard } e ds h K:=by
 refine Ope.quiet rfl ?_ hK
 have:pnilCheck C.A v=true:=by
  cases v with
  |fn f a b =>
   cases f<;>simp only [nilcK,Bool.false_eq_true] at hv
   rfl
  |_=>first | rfl | simp only [nilcK,Bool.false_eq_true] at hv
 simp only [pquiet,hx,this]
class Mth (A:AP) (t:Nat) (name:String) (g:outParam Nat):Prop where
 ok:∀ v,pmethod A t v name=some (g,v)
theorem Ope.bld {t:Nat} {parts:Array (Nat×Operand)} {zs:List PV} {pl:List (Nat×Nat)} {ps:List (Nat×PV)} {out:List PV} [hb:Bld C.A t zs pl] (hp:pparts (pev (lget e)) parts.toList=some ps) (hf:fillK pl ps zs some=some out) (hK:K (.agg out) h) :
  Ope C X { dst:=d,op:=.build t parts,type,pos,after,guard } e ds h K :=
 Ope.quiet rfl (by simp only [pquiet,hp];exact hb.build hf) hK
theorem Ope.boxF {t:TypeId} {x:Operand} {dd:Tmp} {v:PV} (hM:C.M dd=true) (hx:pev (lget e) x=some v) (hK:K (.fp v) h):Ope C X { dst:=some dd,op:=.box t x,type,pos,after,guard } e ds h K:=by
 unfold Ope
 simp only [pop,pkind,hM,pfresh,hx,PDo]
 exact hK
theorem Ope.boxL {t:TypeId} {x:Operand} {dd:Tmp} {v:PV} (hM:C.M dd=false) (hx:pev (lget e) x=some v) (hK:K (.ptr n 0) (HE (n+1) ((n,some (.cells v.cells))::l))):Ope C X { dst:=some dd,op:=.box t x,type,pos,after,guard } e ds (HE n l) K:=by
 unfold Ope
 simp only [pop,pkind,hM,ploud,hx,HE_add]
 exact hK
theorem Ope.newL {t:Nat} {dd:Tmp} {z:PV} [hz:Zer C.A t z] (hM:C.M dd=false) (hK:K (.ptr n 0) (HE (n+1) ((n,some (.cells z.cells))::l))):Ope C X { dst:=some dd,op:=.alloc t,type,pos,after,guard } e ds (HE n l) K:=by
 unfold Ope
 simp only [pop,pkind,hM,ploud,hz.ok,HE_add]
 exact hK
theorem Ope.store {t:Nat} {a x:Operand} {agg:Bool} {sz i o:Nat} {v:PV} {cs cs':List PV} [ht:Ty C.A t agg sz] (ha:pev (lget e) a=some (.ptr i o)) (hx:pev (lget e) x=some v) (hg:hget l i=some (.cells cs)) (hsz:Nat.beq v.nc sz=true) (ho:PV.allOne v.cells=true)
  (hp:putK o v.cells cs some=some cs') (hK:K (.tup []) (HE n ((i,some (.cells cs'))::l))):Ope C X { dst:=d,op:=.store t a x,type,pos,after,guard } e ds (HE n l) K:=by
 obtain ⟨d',ti,h1,h2,rfl,rfl⟩:=ht.get
 obtain ⟨p1,p2⟩:=putK_eq _ _ _ _ _ hp
 cases p1
 unfold Ope
 simp only [pop,pkind,ploud,ha,hx,PStore,h2]
 refine .inl ⟨cs,hg,Nat.eq_of_beq_eq_true hsz,by rw [PV.cells_length] at p2;exact p2,ho,?_⟩
 rw [HE_put]
 exact hK
theorem Ope.call {f:Operand} {args:Array Operand} {tys:Array TypeId} {g:Nat} {fs as cp all':List PV} (hf:pev (lget e) f=some (.fn (.func g) fs cp)) (ha:pargs (pev (lget e)) args.toList=some as) (hl:fs++as++cp=all')
  (hc:PCall C.P g all' h K (X ds)):Ope C X { dst:=d,op:=.call { callee:=.value f,args,argTypes:=tys },type,pos,after,guard } e ds h K:=by
 subst hl
 unfold Ope
 simp only [pop,pkind,pcallO,ha,hf,pcallF]
 exact hc
theorem Ope.invoke {r:Operand} {name:String} {args:Array Operand} {tys:Array TypeId} {t g:Nat} {v:PV} {as:List PV} (hr:pev (lget e) r=some (.ifc t v)) (ha:pargs (pev (lget e)) args.toList=some as) (hm:Mth C.A t name g)
  (hc:PCall C.P g (v::as) h K (X ds)):Ope C X { dst:=d,op:=.call { callee:=.invoke r name,args,argTypes:=tys },type,pos,after,guard } e ds h K:=by
 unfold Ope
 simp only [pop,pkind,pcallO,ha,hr,hm.ok]
 exact hc
def Fn (P:Program) (g:Nat) (args:List PV) (v:PV):Prop:=PFun P g args (fun u=>u=v) fun _=>False
def Pan (P:Program) (g:Nat) (args:List PV) (v:PV):Prop:=PFun P g args (fun _=>False) fun u=>u=v
theorem Fn.call {P:Program} {g:Nat} {args:List PV} {v:PV} (hf:Fn P g args v) (hb:PV.bds 0 args=true) {Y:PV→PH→Prop} (hK:K v h):PCall P g args h K Y :=
 PFun.call hf hb (fun _ hu=>by subst hu;exact hK) fun _ hu=>hu.elim
theorem Pan.call {P:Program} {g:Nat} {args:List PV} {v:PV} (hf:Pan P g args v) (hb:PV.bds 0 args=true) {Y:PV→PH→Prop} (hY:Y v h):PCall P g args h K Y :=
 PFun.call hf hb (fun _ hu=>hu.elim) fun _ hu=>by subst hu;exact hY
def gdst (all:List Oper) (j:Nat):Option Nat :=
 match nthK all j with
 |some p=>p.dst
 |none=>none
variable {all os:List Oper} {op:Op} {dd j dj:Nat}
theorem gdst_get (hj:gdst all j=some dj):∃ p,all[j]?=some p∧p.dst=some dj:=by
 unfold gdst at hj
 rw [nthK_eq] at hj
 split at hj
 ·next p hp=>exact ⟨p,hp,hj⟩
 ·cases hj
theorem Reg.on {w:Bool} (hd:Nat.blt dd C.sz=true) (hj:gdst all j=some dj) (hv:lget e dj=some (B w)) (ho:Ope C X { dst:=some dd,op,type,pos,after,guard:=some (j,w) } e ds h fun v h'=>Reg C F X k all os ((dd,v)::e) ds h') :
  Reg C F X k all ({ dst:=some dd,op,type,pos,after,guard:=some (j,w) }::os) e ds h:=by
 obtain ⟨p,h1,h2⟩:=gdst_get hj
 unfold Reg
 intro t ht
 simp only [preg,dstIn,hd,h1,h2,ht,hv]
 have:=Ope.go (o:={ dst:=some dd,op,type,pos,after,guard:=some (j,w) }) ho ht
 rw [ht] at this
 cases w<;>exact this
theorem Reg.off {w:Bool} (hd:Nat.blt dd C.sz=true) (hj:gdst all j=some dj) (hv:lget e dj=some (B (!w))) (hr:Reg C F X k all os ((dd,.tup [])::e) ds h) :
  Reg C F X k all ({ dst:=some dd,op,type,pos,after,guard:=some (j,w) }::os) e ds h:=by
 obtain ⟨p,h1,h2⟩:=gdst_get hj
 unfold Reg at hr ⊢
 intro t ht
 simp only [preg,dstIn,hd,h1,h2,ht,hv]
 have:=hr _ (put_get ht dd (.tup []))
 cases w<;>exact this
theorem lget_set {d:Nat} {v:PV} (hv:lget e d=some v) (i:Nat):lget ((d,v)::e) i=lget e i:=by
 simp only [lget]
 split
 ·next hb=>rw [Nat.eq_of_beq_eq_true hb,hv]
 ·rfl
theorem Reg.split {w q:Bool} (hj:gdst all j=some dj) (hv:lget e dj=some (B q)) (h1:q=true→Reg C F X k all ({ dst:=d,op,type,pos,after,guard:=some (j,w) }::os) ((dj,B true)::e) ds h)
  (h2:q=false→Reg C F X k all ({ dst:=d,op,type,pos,after,guard:=some (j,w) }::os) ((dj,B false)::e) ds h):Reg C F X k all ({ dst:=d,op,type,pos,after,guard:=some (j,w) }::os) e ds h:=by
 cases q with
 |true=>exact Reg.same (lget_set hv) (h1 rfl)
 |false=>exact Reg.same (lget_set hv) (h2 rfl)
theorem Ope.pickT {c a b:Operand} {v:PV} (hc:pev (lget e) c=some (B true)) (ha:pev (lget e) a=some v) (hK:K v h):Ope C X { dst:=d,op:=.pick c a b,type,pos,after,guard } e ds h K:=by
 unfold Ope
 simp only [pop,pkind,ppick,hc,PIf,ha,PDo]
 exact hK
theorem Ope.pickF {c a b:Operand} {v:PV} (hc:pev (lget e) c=some (B false)) (hb:pev (lget e) b=some v) (hK:K v h):Ope C X { dst:=d,op:=.pick c a b,type,pos,after,guard } e ds h K:=by
 unfold Ope
 simp only [pop,pkind,ppick,hc,PIf,hb,PDo]
 exact hK
theorem Ope.panic {x:Operand} {t:TypeId} {v:PV} (hx:pev (lget e) x=some (.ifc t v)) (hX:X ds (.ifc t v) h):Ope C X { dst:=d,op:=.panic x,type,pos,after,guard } e ds h K:=by
 unfold Ope
 simp only [pop,pkind,ppanic,hx]
 exact hX
end
end Go.Pv
namespace Go.Pv
open Go.Am Go.RowKit
def loudI (M:Nat→Bool) (all:List Oper) (i:Nat):Bool :=
 match nthK all i with
 |some o=>loudP M o
 |none=>false
def readI (all:List Oper) (i:Nat):Bool :=
 match nthK all i with
 |some o=>readsP o.op
 |none=>false
def looksI (M:Nat→Bool) (all:List Oper) (i:Nat):Bool :=
 match nthK all i with
 |some o=>(looks all o).all fun x=>!M (x+1000000)
 |none=>false
def flagK (M : Nat → Bool) (an : T Nat) (all : List Oper) : List Nat → Option (List (Nat × Bool))
 |[]=>some []
 |i :: rest => match flagK M an all rest with
  |none=>none
  |some r=>match !(readI all i) || rest.all fun j=>!(loudI M all j) || (anc an j).testBit i with
   |true=>some ((i,true)::r)
   |false=>match looksI M all i with
    |true=>some ((i,false)::r)
    |false=>none
def drwP (M:Nat→Bool) (ops:List Oper):Option (List (Nat×Bool)) :=
 match pstat M ops with
 |none=>none
 |some an=>match ordOk M an ops 0 0 (asap M an ops ops.length 0) with
  |true=>flagK M an ops (asap M an ops ops.length 0)
  |false=>none
def Stab (A:AP) (E:Eqs) (t:Nat→Option PV) (o:Oper):Prop:=∀ h h',pquiet A E (pev t) h o.op=pquiet A E (pev t) h' o.op
def pdra (A:AP) (E:Eqs) (P:Program) (M:Nat→Bool) (sz:Nat) (all:List Oper):List (Nat×Bool)→T PV→PH→(T PV→PH→Prop)→(PV→PH→Prop)→Prop
 |[],t,h,K,_=>K t h
 |p::rest,t,h,K,X=>match nthK all p.1 with
  |none=>False
  |some o=>match dstIn sz o.dst,gst all t o with
   |true,some g=>PIf g ((p.2=false→Stab A E t.get o)∧pop A E P M t.get h o (fun v h'=>pdra A E P M sz all rest (tput t o.dst v) h' K X) X) (pdra A E P M sz all rest (tput t o.dst (.tup [])) h K X)
   |_,_=>False
section
variable {A:AP} {P:Program} {E:Eqs} {M:Nat→Bool}
theorem flagK_spec {an:T Nat} {all:List Oper}:∀ (ord:List Nat) (fl:List (Nat×Bool)),flagK M an all ord=some fl→fl.map (·.1)=ord ∧
  ∀ a i b c,fl=a++(i,b)::c→(b=true→readI all i=true→∀ j∈c.map (·.1),loudI M all j=true→(anc an j).testBit i=true)∧(b=false→looksI M all i=true)
 |[],fl,h=>by cases h;exact ⟨rfl,fun a i b c e=>by simp at e⟩
 |i :: rest, fl, h => by
  simp only [flagK] at h
  split at h
  ·cases h
  next r hr =>
  obtain ⟨h1,h2⟩:=flagK_spec rest r hr
  have tl:∀ (b:Bool),((b=true→readI all i=true→∀ j∈r.map (·.1),loudI M all j=true→(anc an j).testBit i=true)∧(b=false→looksI M all i=true)) →
    ((i,b)::r).map (·.1)=i::rest∧∀ a i' b' c,(i,b)::r=a++(i',b')::c→(b'=true→readI all i'=true→∀ j∈c.map (·.1),loudI M all j=true→(anc an j).testBit i'=true)∧(b'=false→looksI M all i'=true):=by
   intro b hb
   refine ⟨by simp [h1],fun a i' b' c e=>?_⟩
   cases a with
   |nil =>
    simp only [List.nil_append,List.cons.injEq,Prod.mk.injEq] at e
    obtain ⟨⟨rfl,rfl⟩,rfl⟩:=e
    exact hb
   |cons x a =>
    simp only [List.cons_append,List.cons.injEq] at e
    exact h2 a i' b' c e.2
  split at h
  ·next hx =>
   cases h
   refine tl true ⟨fun _ hrd j hj hl=>?_,fun hc=>by cases hc⟩
   rw [h1] at hj
   simp only [hrd,Bool.not_true,Bool.false_or] at hx
   have:=List.all_eq_true.1 hx j hj
   simpa [hl] using this
  ·split at h
   ·next hx=>cases h;exact tl false ⟨fun hc=>by (cases hc),fun _=>hx⟩
   ·cases h
theorem pop_of_pure {t:Nat→Option PV} {h:PH} {o:Oper} {K X:PV→PH→Prop} {v:PV} (hv:ppure A E M (pev t) h o=some v) (hK:K v h):pop A E P M t h o K X:=by
 unfold ppure at hv
 unfold pop
 cases hk:pkind M o<;>rw [hk] at hv<;>simp only at hv ⊢
 case quiet=>exact PDo.of (K:=fun v=>K v h) hv hK
 case fresh=>exact PDo.of (K:=fun v=>K v h) hv hK
 case pick =>
  unfold ppick
  cases ho:o.op<;>rw [ho] at hv<;>simp only at hv ⊢<;>try (cases hv;done)
  next c a b =>
  split at hv
  case h_2=>cases hv
  next q hq =>
  rw [hq]
  cases q with
  |true=>exact PDo.of (K:=fun v=>K v h) hv hK
  |false=>exact PDo.of (K:=fun v=>K v h) hv hK
 all_goals cases hv
theorem dra_drawF {sz : Nat} {an : T Nat} {all : List Oper} {ord0 : List Nat} (hO : Ord M an all ord0) (hS : PStat M all an) {fl0 : List (Nat × Bool)} (hfl : flagK M an all ord0 = some fl0) {K : T PV → PH → Prop} {X : PV → PH → Prop} :
  ∀ (fl pre:List (Nat×Bool)) (rds:List (Nat×Oper×PV)) (t:T PV) (h:PH),fl0=pre++fl →
  (∀ r∈rds,all[r.1]?=some r.2.1∧readsP r.2.1.op=true∧∃ b,(r.1,b)∈pre∧(loudP M r.2.1=false→b=false→∀ h',pquiet A E (pev t.get) h' r.2.1.op=some r.2.2)) →
  pdra A E P M sz all fl t h K X→pdrawF A E P M sz an all (fl.map (·.1)) rds t h K X
 |[],pre,rds,t,h,_,_,hp=>by simpa [pdra,pdrawF] using hp
 |(i, b) :: rest, pre, rds, t, h, hs, hr, hp => by
  obtain ⟨hm,hsp⟩:=flagK_spec ord0 fl0 hfl
  simp only [pdra] at hp
  simp only [List.map_cons,pdrawF]
  rw [nthK_eq] at hp
  split at hp
  ·exact hp.elim
  next o ho =>
  simp only [ho]
  split at hp
  case h_2=>exact hp.elim
  next g hd hg =>
  simp only [hd,hg]
  have hord:ord0=pre.map (·.1)++i::rest.map (·.1):=by rw [← hm,hs];simp
  have hs':fl0=(pre++[(i,b)])++rest:=by rw [hs];simp
  have keep:∀ v,∀ r∈rds,all[r.1]?=some r.2.1∧readsP r.2.1.op=true∧∃ b',(r.1,b')∈pre++[(i,b)]∧(loudP M r.2.1=false→b'=false→∀ h',pquiet A E (pev (tput t o.dst v).get) h' r.2.1.op=some r.2.2):=by
   intro v r hrr
   obtain ⟨q1,q0,b',q2,q3⟩:=hr r hrr
   refine ⟨q1,q0,b',by simp [q2],fun hlr hb h'=>?_⟩
   have hj:r.1∈pre.map (·.1):=List.mem_map.2 ⟨_,q2,rfl⟩
   have hlk:looksI M all r.1=true:=by
    obtain ⟨a,c,e⟩:=List.append_of_mem q2
    exact (hsp a r.1 b' (c++(i,b)::rest) (by rw [hs,e];simp)).2 hb
   have hlk2:∀ x∈looks all r.2.1,M (x+1000000)=false:=by
    unfold looksI at hlk
    rw [nthK_eq,q1] at hlk
    intro x hx
    have:=List.all_eq_true.1 hlk x hx
    simpa using this
   have hsame:∀ x∈looks all r.2.1,(tput t o.dst v).get x=t.get x:=fun x hx=>tput_ne fun hdx=>by
    rcases hS.look r.1 i r.2.1 o x q1 ho hdx hx with h1 | ⟨h1,_⟩
    ·rw [hO.before hS hord hj] at h1
     cases h1
    ·rw [hlk2 x hx] at h1
     cases h1
   rw [pquiet_congr (pev_eq (all:=all) hsame)]
   exact q3 hlr hb h'
  have skip:pdra A E P M sz all rest (tput t o.dst (.tup [])) h K X→pdrawF A E P M sz an all (rest.map (·.1)) rds (tput t o.dst (.tup [])) h K X:=fun hv =>
   dra_drawF hO hS hfl rest (pre++[(i,b)]) rds _ h hs' (keep _) hv
  have hlook:∀ x∈looks all o,o.dst≠some x:=fun x hx hdx=>by
   have hat:=hO.at_ _ i _ hord
   have:(anc an i).testBit i=true:=(hS.look i i o o x ho ho hdx hx).elim id fun h=>h.2
   exact absurd (hat.2.2.1 i this) hat.2.1
  have next : ∀ (v : PV) (h' : PH), (loudP M o = false → readsP o.op = true → b = false → ∀ h2, pquiet A E (pev t.get) h2 o.op = some v) → pdra A E P M sz all rest (tput t o.dst v) h' K X →
    stillP A E M an i o t h' rds∧pdrawF A E P M sz an all (rest.map (·.1)) (addRd i o v rds) (tput t o.dst v) h' K X:=by
   intro v h' hval hv
   refine ⟨?_,dra_drawF hO hS hfl rest (pre++[(i,b)]) _ _ h' hs' ?_ hv⟩
   ·unfold stillP
    split
    ·next hl =>
     have st : ∀ (q : List (Nat × Oper × PV)), (∀ r ∈ q, r ∈ rds) → still A E an i t h' q := by
      intro q
      induction q with
      |nil=>intro _;trivial
      |cons a q ih =>
       intro hq
       refine ⟨?_,ih fun r hrr=>hq r (List.mem_cons_of_mem _ hrr)⟩
       obtain ⟨q1,q0,b',q2,q3⟩:=hr a (hq a (by simp))
       have hpre:a.1∈pre.map (·.1):=List.mem_map.2 ⟨_,q2,rfl⟩
       cases hla:loudP M a.2.1 with
       |true =>
        have:=(hO.at_ _ i _ hord).2.2.2 a.1 hpre (by simp only [loudAt,q1,hla])
        simp only [this]
       |false =>
        cases b' with
        |false=>split<;>first | trivial | exact q3 hla rfl h'
        |true =>
         obtain ⟨a1,c1,e1⟩:=List.append_of_mem q2
         have:=(hsp a1 a.1 true (c1++(i,b)::rest) (by rw [hs,e1];simp)).1 rfl (by unfold readI;rw [nthK_eq,q1];exact q0) i (by simp) (by
          unfold loudI
          rw [nthK_eq,ho]
          exact hl)
         simp only [this]
     exact st rds fun _ h=>h
    ·trivial
   ·intro r hrr
    unfold addRd at hrr
    cases hrd:readsP o.op with
    |true =>
     rw [hrd] at hrr
     rcases List.mem_cons.1 hrr with rfl | hrr
     ·refine ⟨ho,hrd,b,by simp,fun hlo hb h2=>?_⟩
      rw [pquiet_congr (ρ':=pev t.get) (pev_eq (all:=all) fun x hx=>tput_ne (hlook x hx))]
      exact hval hlo hrd hb h2
     ·exact keep v r hrr
    |false =>
     rw [hrd] at hrr
     exact keep v r hrr
  refine hp.mono (fun ⟨hst,hq⟩=>?_) skip
  cases hlo:loudP M o with
  |true=>exact pop_mono hq (fun v h' hv=>next v h' (fun hc=>by rw [hlo] at hc;cases hc) hv) fun _ _ hx=>hx
  |false =>
   obtain ⟨v,v1,v2⟩:=pop_pure hlo hq
   refine pop_of_pure v1 (next v h (fun _ hrd hb h2=>?_) v2)
   rw [hst hb h2 h]
   rw [← ppure_reads hrd v1]
   exact v1
end
section
variable {C:Cx} {F:EQ} {X:EX} {k:List KI} {e:EL} {ds:List Nat} {h:PH} {n:Nat} {l:List (Nat×Option PBlk)}
@[irreducible] def Dra (C:Cx) (F:EQ) (X:EX) (k:List KI) (all:List Oper) (os:List (Nat×Bool)) (e:EL) (ds:List Nat) (h:PH):Prop :=
 ∀ t:T PV,t.get=lget e→pdra C.A C.E C.P C.M C.sz all os t h (fun t h=>toQ (Ks C F X k) .normal t ds h) (X ds)
theorem Run.draw (hC:C.Ok) {id:Nat} {ops:Array Oper} (ord:List (Nat×Bool)) (hd:drwP C.M ops.toList=some ord) (hr:Dra C F X k ops.toList ord e ds h):Run C F X (.c (.region id ops true)::k) e ds h:=by
 unfold Dra at hr
 refine Run.intro (PWP.draw (M:=C.M) hC.A hC.E hC.f ?_)
 unfold drwP at hd
 split at hd
 ·cases hd
 next an hst =>
 split at hd
 case h_2=>cases hd
 next hok =>
 unfold pdraw
 simp only [hst,hok]
 have:=dra_drawF (ord_of hok) (pstat_ok hst) hd ord [] [] (TE e) h rfl (fun r hr=>by cases hr) (hr (TE e) (TE_getf e))
 rwa [(flagK_spec _ _ hd).1] at this
variable {all:List Oper} {os:List (Nat×Bool)}
theorem Dra.nil (hk:Run C F X k e ds h):Dra C F X k all [] e ds h:=by
 unfold Dra
 exact fun t ht=>hk.toQ fun i v hi=>by rw [ht];exact hi
theorem Dra.same {e':EL} (hs:∀ i,lget e' i=lget e i) (hr:Dra C F X k all os e' ds h):Dra C F X k all os e ds h:=by
 unfold Dra at hr ⊢
 exact fun t ht=>hr t (ht.trans (funext fun i=>(hs i).symm))
def Stay (C:Cx) (e:EL) (b:Bool) (o:Oper):Prop:=b=true∨Stab C.A C.E (lget e) o
variable {i d:Nat} {b:Bool} {op:Op} {type:TypeId} {pos:String} {after:Array Edge}
theorem pdra_put {d:Option Nat} {v:PV} (hr:match d with
  |some d=>Dra C F X k all os ((d,v)::e) ds h
  |none=>Dra C F X k all os e ds h) {t:T PV} (ht:t.get=lget e):pdra C.A C.E C.P C.M C.sz all os (tput t d v) h (fun t h=>toQ (Ks C F X k) .normal t ds h) (X ds):=by
 cases d with
 |none =>
  simp only at hr
  unfold Dra at hr
  exact hr t ht
 |some d =>
  simp only at hr
  unfold Dra at hr
  exact hr _ (put_get ht d v)
theorem Dra.op' {o:Oper} (hi:nthK all i=some o) (hg:o.guard=none) (hd:dstIn C.sz o.dst=true) (hs:Stay C e b o)
  (ho : Ope C X o e ds h fun v h' => match o.dst with
   |some d=>Dra C F X k all os ((d,v)::e) ds h'
   |none=>Dra C F X k all os e ds h'):Dra C F X k all ((i,b)::os) e ds h:=by
 unfold Dra
 intro t ht
 simp only [pdra,hi,hd,gst,hg,PIf]
 refine ⟨fun hb=>?_,?_⟩
 ·rcases hs with hs | hs
  ·rw [hb] at hs;cases hs
  ·rw [ht];exact hs
 ·unfold Ope at ho
  rw [ht]
  exact pop_mono ho (fun v h' hv=>pdra_put hv ht) fun _ _ hx=>hx
theorem Dra.on' {o:Oper} {j dj:Nat} {w:Bool} (hi:nthK all i=some o) (hg:o.guard=some (j,w)) (hj:gdst all j=some dj) (hv:lget e dj=some (B w)) (hd:dstIn C.sz o.dst=true) (hs:Stay C e b o)
  (ho : Ope C X o e ds h fun v h' => match o.dst with
   |some d=>Dra C F X k all os ((d,v)::e) ds h'
   |none=>Dra C F X k all os e ds h'):Dra C F X k all ((i,b)::os) e ds h:=by
 obtain ⟨p,h1,h2⟩:=gdst_get hj
 unfold Dra
 intro t ht
 have hgs:gst all t o=some true:=by
  unfold gst
  simp only [hg,h1,h2,ht,hv]
  cases w<;>rfl
 simp only [pdra,hi,hd,hgs,PIf]
 refine ⟨fun hb=>?_,?_⟩
 ·rcases hs with hs | hs
  ·rw [hb] at hs;cases hs
  ·rw [ht];exact hs
 ·unfold Ope at ho
  rw [ht]
  exact pop_mono ho (fun v h' hv=>pdra_put hv ht) fun _ _ hx=>hx
theorem Dra.off' {o:Oper} {j dj:Nat} {w:Bool} (hi:nthK all i=some o) (hg:o.guard=some (j,w)) (hj:gdst all j=some dj) (hv:lget e dj=some (B (!w))∨lget e dj=some (.tup [])) (hd:dstIn C.sz o.dst=true)
  (hr : match o.dst with
   |some d=>Dra C F X k all os ((d,.tup [])::e) ds h
   |none=>Dra C F X k all os e ds h):Dra C F X k all ((i,b)::os) e ds h:=by
 obtain ⟨p,h1,h2⟩:=gdst_get hj
 unfold Dra
 intro t ht
 have hgs:gst all t o=some false:=by
  unfold gst
  rcases hv with hv | hv
  ·simp only [hg,h1,h2,ht,hv]
   cases w<;>rfl
  ·simp only [hg,h1,h2,ht,hv]
 simp only [pdra,hi,hd,hgs,PIf]
 exact pdra_put hr ht
theorem Dra.split' {o:Oper} {j dj:Nat} {w q:Bool} (hi:nthK all i=some o) (hg:o.guard=some (j,w)) (hj:gdst all j=some dj) (hv:lget e dj=some (B q)) (h1:q=true→Dra C F X k all ((i,b)::os) ((dj,B true)::e) ds h)
  (h2:q=false→Dra C F X k all ((i,b)::os) ((dj,B false)::e) ds h):Dra C F X k all ((i,b)::os) e ds h:=by
 cases q with
 |true=>exact Dra.same (lget_set hv) (h1 rfl)
 |false=>exact Dra.same (lget_set hv) (h2 rfl)
theorem Stay.sure {o:Oper}:Stay C e true o:=.inl rfl
theorem Stay.load {t:TypeId} {a:Operand} {u:PV} {dd:Option Nat} {guard:Option (Nat×Bool)} (ha:pev (lget e) a=some (.fp u)):Stay C e b { dst:=dd,op:=.load t a,type,pos,after,guard }:=by
 refine .inr fun h h'=>?_
 simp only [pquiet,ha]
 unfold pload
 rfl
inductive Res (A:AP) (e:EL) (l:List (Nat×Option PBlk)):List ResultVar→List PV→Prop where
 |nil:Res A e l [] []
 |tmp {x:Nat} {v:PV} {rs:List ResultVar} {vs:List PV} (hv:lget e x=some v) (hr:Res A e l rs vs):Res A e l (.tmp x::rs) (v::vs)
 |cell {a t:Nat} {agg:Bool} {sz:Nat} {p v:PV} {rs:List ResultVar} {vs:List PV} [ht:Ty A t agg sz] (ha:lget e a=some p) (hv:loadK agg sz l p=some v) (hr:Res A e l rs vs):Res A e l (.cell a t::rs) (v::vs)
theorem Res.get {A:AP} {rs:List ResultVar} {vs:List PV} (h:Res A e l rs vs):presults A (HE n l) (lget e) rs=some vs:=by
 induction h with
 |nil=>rfl
 |tmp hv _ ih=>simp only [presults,presult,hv,ih]
 |cell ha hv _ ih =>
  next ht _=>simp only [presults,presult,ha,pload_K ht hv,ih]
def FinF (C:Cx) (fn:Func) (R:PV→Prop):EQ:=fun x e ds h =>
 match x with
 |.normal=>Undo ds h∧∃ vs,presults C.A (unds ds h) (lget e) fn.results.toList=some vs∧PCut 0 (pone vs) (unds ds h) fun v h=>h=.nil∧R v
 |.jump .ret=>Undo ds h∧∃ vs,presults C.A (unds ds h) (lget e) fn.results.toList=some vs∧PCut 0 (pone vs) (unds ds h) fun v h=>h=.nil∧R v
 |_=>False
def FinX (R:PV→Prop):EX:=fun ds v h=>Undo ds h∧PCut 0 v (unds ds h) fun v h=>h=.nil∧R v
def argE:List PV→Nat→EL
 |[],_=>[]
 |v::vs,i=>(i,v)::argE vs (i+1)
theorem argE_get:∀ (args:List PV) (i j:Nat),lget (argE args i) j=if i≤j then args[j - i]? else none
 |[],i,j=>by simp [argE,lget]
 |v :: vs, i, j => by
  simp only [argE,lget]
  split
  ·next hb =>
   have:=Nat.eq_of_beq_eq_true hb
   subst this
   simp
  ·next hb =>
   rw [argE_get vs (i+1) j]
   have hne:j≠i:=fun e=>by subst e;simp at hb
   by_cases hlt:i≤j
   ·rw [if_pos (by omega),if_pos hlt,show j - i=(j - (i+1))+1 from by omega]
    rfl
   ·rw [if_neg (by omega),if_neg hlt]
theorem presults_sub {A:AP} {h:PH} {t t':Nat→Option PV} (ht:∀ i v,t i=some v→t' i=some v):∀ {rs:List ResultVar} {vs:List PV},presults A h t rs=some vs→presults A h t' rs=some vs
 |[],vs,hv=>hv
 |r :: rs, vs, hv => by
  simp only [presults] at hv ⊢
  split at hv
  case h_2=>cases hv
  next v hr =>
  split at hv
  case h_2=>cases hv
  next vs' hrs =>
  have h1:presult A h t' r=some v:=by
   cases r with
   |tmp x=>exact ht _ _ hr
   |cell a ty =>
    simp only [presult] at hr ⊢
    split at hr
    case h_2=>cases hr
    next u hu =>
    rw [ht _ _ hu]
    exact hr
  rw [h1,presults_sub ht hrs]
  exact hv
theorem PFun.of (hC:C.Ok) (hr:C.rnd=none) {fn:Func} (hf:C.A.funcs.get C.fi=some fn) {c:Code} (hc:fn.body=some c) (hs:C.sz=fn.ntmps) {args:List PV} (hle:Nat.ble args.length fn.ntmps=true) {R Y:PV→Prop}
  (hrun:Run C (FinF C fn R) (FinX Y) [.c c] (argE args 0) [] (HE 0 [])):PFun C.P C.fi args R Y:=by
 unfold PFun
 refine PCall.intro hC.A hf hc hle fun _=>?_
 have h1:=hrun.wp (t:=T.ofList args 0 .nil) fun i v hi=>by
  rw [argE_get] at hi
  rw [T.get_ofList]
  simp only [Nat.zero_le,if_true,Nat.sub_zero] at hi
  have:=(List.getElem?_eq_some_iff.1 hi).1
  rw [if_pos (by omega),Nat.sub_zero]
  exact hi
 rw [Cx.wp,hs,hr] at h1
 refine PWP.mono h1 ?_ ?_
 ·intro x t ds h ⟨e,he,hf⟩
  have key:(Undo ds h∧∃ vs,presults C.A (unds ds h) (lget e) fn.results.toList=some vs∧PCut 0 (pone vs) (unds ds h) fun v h=>h=.nil∧R v)→PRet C.A fn 0 (fun v h=>h=.nil∧R v) t ds h:=by
   rintro ⟨q1,vs,q2,q3⟩
   refine ⟨q1,?_⟩
   rw [presults_sub he q2]
   exact q3
  cases x with
  |normal=>exact key hf
  |jump j=>cases j<;>first | exact hf.elim | exact key hf
 ·intro t ds v h hx
  exact hx
theorem fin_ret {fn:Func} {R:PV→Prop} {vs:List PV} (hv:Res C.A e l fn.results.toList vs) (hb:(pone vs).bd 0=true) (hR:R (pone vs)):Jmp C (FinF C fn R) X [] .ret e [] (HE n l):=by
 refine Jmp.done ⟨trivial,vs,hv.get,?_⟩
 exact ⟨_,_,PGh.cut hb (by rw [PH.cut_zero];exact PH.nil_ok),by rw [unds,PH.cut_zero],hR⟩
theorem fin_end {fn:Func} {R:PV→Prop} {vs:List PV} (hv:Res C.A e l fn.results.toList vs) (hb:(pone vs).bd 0=true) (hR:R (pone vs)):Run C (FinF C fn R) X [] e [] (HE n l):=by
 refine Run.done ⟨trivial,vs,hv.get,?_⟩
 exact ⟨_,_,PGh.cut hb (by rw [PH.cut_zero];exact PH.nil_ok),by rw [unds,PH.cut_zero],hR⟩
theorem fin_panic {R:PV→Prop} {v:PV} (hb:v.bd 0=true) (hR:R v):FinX R [] v (HE n l) :=
 ⟨trivial,_,_,PGh.cut hb (by rw [PH.cut_zero];exact PH.nil_ok),by rw [unds,PH.cut_zero],hR⟩
end
end Go.Pv
namespace Go.Pv
open Go.Am Go.RowKit
section
variable {C:Cx} {F:EQ} {X:EX} {k:List KI} {e:EL} {ds:List Nat} {h:PH} {K:PV→PH→Prop} {n:Nat} {l:List (Nat×Option PBlk)}
variable {d:Option Tmp} {type:TypeId} {pos:String} {after:Array Edge} {guard:Option (Nat×Bool)}
variable {c:Operand} {x y:Code} {p:Prop} [Decidable p]
theorem Run.condT (hc:pev (lget e) c=some (B true)) (hx:Run C F X (.c x::k) e ds h):Run C F X (.c (.cond c x y)::k) e ds h :=
 Run.cond hc (fun _=>hx) fun hc=>by cases hc
theorem Run.condF (hc:pev (lget e) c=some (B false)) (hy:Run C F X (.c y::k) e ds h):Run C F X (.c (.cond c x y)::k) e ds h :=
 Run.cond hc (fun hc=>by cases hc) fun _=>hy
theorem Run.cut {c:Code} (J:EL→List Nat→PH→Prop) (h1:Run C F X (.c c::.l J::k) e ds h) (h2:∀ e ds h,J e ds h→Run C F X k e ds h):Run C F X (.c c::k) e ds h:=by
 refine Run.intro (PWP.mono (h1.wp (Sub.refl e)) ?_ fun _ _ _ _ h=>h)
 intro x t ds h ⟨e',g1,g2⟩
 cases x with
 |normal=>exact (h2 _ _ _ g2).toQ g1
 |jump j=>exact ⟨e',g1,g2⟩
variable {all os:List Oper} {op:Op} {j dj:Nat} {w:Bool}
variable {od:List (Nat×Bool)} {i:Nat} {b:Bool} {o:Oper}
theorem Ope.cf {f:Operand} {args:Array Operand} {tys:Array TypeId} {g:Nat} {fs as cp:List PV} {v:PV} (hf:pev (lget e) f=some (.fn (.func g) fs cp)) (ha:pargs (pev (lget e)) args.toList=some as)
  (hc:Fn C.P g (fs++as++cp) v) (hb:PV.bds 0 (fs++as++cp)=true) (hK:K v h):Ope C X { dst:=d,op:=.call { callee:=.value f,args,argTypes:=tys },type,pos,after,guard } e ds h K :=
 Ope.call hf ha rfl (hc.call hb hK)
theorem Ope.cp {f:Operand} {args:Array Operand} {tys:Array TypeId} {g:Nat} {fs as cp:List PV} {v:PV} (hf:pev (lget e) f=some (.fn (.func g) fs cp)) (ha:pargs (pev (lget e)) args.toList=some as)
  (hc:Pan C.P g (fs++as++cp) v) (hb:PV.bds 0 (fs++as++cp)=true) (hX:X ds v h):Ope C X { dst:=d,op:=.call { callee:=.value f,args,argTypes:=tys },type,pos,after,guard } e ds h K :=
 Ope.call hf ha rfl (hc.call hb hX)
theorem Ope.minI {t:Array TypeId} {a b:Operand} {m1 m2:Int} (ha:pev (lget e) a=some (I m1)) (hb:pev (lget e) b=some (I m2)) (hK:K (I (min m1 m2)) h) :
  Ope C X { dst:=d,op:=.call { callee:=.builtin .min,args:=#[a,b],argTypes:=t },type,pos,after,guard } e ds h K:=by
 refine Ope.quiet rfl ?_ hK
 have:(if m2 < m1 then m2 else m1)=min m1 m2:=by rw [Int.min_def];split<;>split<;>omega
 simp only [pquiet,pargs,ha,hb,pminmax,PV.toAV,PV.toAVs,aminmax,decide_true,this,plit,PV.ofAV]
theorem Ope.maxI {t:Array TypeId} {a b:Operand} {m1 m2:Int} (ha:pev (lget e) a=some (I m1)) (hb:pev (lget e) b=some (I m2)) (hK:K (I (max m1 m2)) h) :
  Ope C X { dst:=d,op:=.call { callee:=.builtin .max,args:=#[a,b],argTypes:=t },type,pos,after,guard } e ds h K:=by
 refine Ope.quiet rfl ?_ hK
 have:(if m2 > m1 then m2 else m1)=max m1 m2:=by rw [Int.max_def];split<;>split<;>omega
 simp only [pquiet,pargs,ha,hb,pminmax,PV.toAV,PV.toAVs,aminmax,decide_true,this,plit,PV.ofAV]
theorem Stay.len {a:Operand} {t:TypeId} {tl:Tail} {vs:List PV} (ha:pev (lget e) a=some (.sl tl vs)):Stay C e b { dst:=d,op:=.call { callee:=.builtin .len,args:=#[a],argTypes:=#[t] },type,pos,after,guard }:=by
 refine .inr fun h h'=>?_
 simp only [pquiet,pargs,ha,plen]
 cases C.A.under t with
 |none=>rfl
 |some d=>cases d<;>rfl
end
end Go.Pv
