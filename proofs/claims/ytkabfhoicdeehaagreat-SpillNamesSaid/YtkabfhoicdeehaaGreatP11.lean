/- Parts of the proof: Pv37, Pv38, Pv39, Pv44, S1, S2 -/
import Derived.Test.YtkabfhoicdeehaaGreatP10
set_option linter.unusedVariables false
set_option linter.unusedSimpArgs false
set_option linter.unusedSectionVars false
namespace Go.Pv
open Go.Am Go.RowKit
theorem PGh.wide {n:Nat} {h h':PH} {v:PV} (hn:h.next≤h'.next) (hs:∀ i b,h'.get i=some b→h.get i=some b):PGh n h v h' v:=by
 intro w0 s0 s x _ hw hx hh hv
 subst hh
 exact ⟨s.wide h',rfl,hw.wide hn hs,hx.trans (Ext.wide hn),rfl,(R2.ext (Ext.wide hn) v).1 _ hv⟩
def FinH (C:Cx) (fn:Func) (n:Nat) (R:PV→PH→Prop):EQ:=fun x e ds h =>
 match x with
 |.normal=>Undo ds h∧∃ vs,presults C.A (unds ds h) (lget e) fn.results.toList=some vs∧PCut n (pone vs) (unds ds h) R
 |.jump .ret=>Undo ds h∧∃ vs,presults C.A (unds ds h) (lget e) fn.results.toList=some vs∧PCut n (pone vs) (unds ds h) R
 |_=>False
def FinHX (n:Nat) (X:PV→PH→Prop):EX:=fun ds v h=>Undo ds h∧PCut n v (unds ds h) X
section
variable {C:Cx} {F:EQ} {X:EX} {k:List KI} {e:EL} {ds:List Nat} {h:PH} {n m:Nat} {l l':HL}
theorem PCall.ofH (hC:C.Ok) (hr:C.rnd=none) {fn:Func} (hf:C.A.funcs.get C.fi=some fn) {c:Code} (hc:fn.body=some c) (hs:C.sz=fn.ntmps) {args:List PV} (hle:Nat.ble args.length fn.ntmps=true) {R Y:PV→PH→Prop}
  (hrun:(HE n l).Ok→Run C (FinH C fn n R) (FinHX n Y) [.c c] (argE args 0) [] (HE n l)):PCall C.P C.fi args (HE n l) R Y:=by
 refine PCall.intro hC.A hf hc hle fun hok=>?_
 have h1:=(hrun hok).wp (t:=T.ofList args 0 .nil) fun i v hi=>by
  rw [argE_get] at hi
  rw [T.get_ofList]
  simp only [Nat.zero_le,if_true,Nat.sub_zero] at hi
  have:=(List.getElem?_eq_some_iff.1 hi).1
  rw [if_pos (by omega),Nat.sub_zero]
  exact hi
 rw [Cx.wp,hs,hr] at h1
 refine PWP.mono h1 ?_ ?_
 ·intro x t ds h ⟨e,he,hf⟩
  have key:(Undo ds h∧∃ vs,presults C.A (unds ds h) (lget e) fn.results.toList=some vs∧PCut n (pone vs) (unds ds h) R)→PRet C.A fn n R t ds h:=by
   rintro ⟨q1,vs,q2,q3⟩
   refine ⟨q1,?_⟩
   rw [presults_sub he q2]
   exact q3
  cases x with
  |normal=>exact key hf
  |jump j=>cases j<;>first | exact hf.elim | exact key hf
 ·intro t ds v h hx
  exact hx
theorem finH_ret {fn:Func} {R:PV→PH→Prop} {vs:List PV} (hv:Res C.A e l fn.results.toList vs) {m':Nat} (hn:m≤m') (hs:∀ i b,hget l' i=some b→hget l i=some b) (hR:R (pone vs) (HE m' l')):Jmp C (FinH C fn n R) X [] .ret e [] (HE m l) :=
 Jmp.done ⟨trivial,vs,hv.get,HE m' l',pone vs,PGh.wide hn hs,hR⟩
theorem finH_end {fn:Func} {R:PV→PH→Prop} {vs:List PV} (hv:Res C.A e l fn.results.toList vs) {m':Nat} (hn:m≤m') (hs:∀ i b,hget l' i=some b→hget l i=some b) (hR:R (pone vs) (HE m' l')):Run C (FinH C fn n R) X [] e [] (HE m l) :=
 Run.done ⟨trivial,vs,hv.get,HE m' l',pone vs,PGh.wide hn hs,hR⟩
theorem fin_retD {fn:Func} {R:PV→Prop} {vs:List PV} {i:Nat} (hd:hget l i=some .dfr) (hv:Res C.A e ((i,none)::l) fn.results.toList vs) (hb:(pone vs).bd 0=true) (hR:R (pone vs)):Jmp C (FinF C fn R) X [] .ret e [i] (HE m l):=by
 refine Jmp.done ⟨⟨hd,trivial⟩,vs,?_,?_⟩
 ·simp only [unds,HE_del]
  exact hv.get
 ·exact ⟨_,_,PGh.cut hb (by rw [PH.cut_zero];exact PH.nil_ok),by rw [PH.cut_zero],hR⟩
end
theorem Cx.Ok.rnd {C:Cx} (h:C.Ok) {r:Option Nat}:({ C with rnd:=r }:Cx).Ok:=⟨h.A,h.E,h.f⟩
theorem hs_skip {l l':HL} (h:∀ i b,hget l' i=some b→hget l i=some b) {n:Nat} {x:Option PBlk} (hn:hget l' n=none):∀ i b,hget l' i=some b→hget ((n,x)::l) i=some b:=by
 intro i b hi
 by_cases h1:i=n
 ·subst h1
  rw [hn] at hi
  cases hi
 ·rw [hget_tl h1]
  exact h i b hi
theorem hs_refl {l:HL}:∀ i b,hget l i=some b→hget l i=some b:=fun _ _ h=>h
theorem bds_map {α:Type} {f:α→PV} (hf:∀ a,(f a).bd 0=true):∀ xs:List α,PV.bds 0 (xs.map f)=true
 |[]=>rfl
 |x::xs=>by simp only [List.map_cons,PV.bds,hf,bds_map hf xs,Bool.and_self]
theorem bd_sl {α:Type} {f:α→PV} {tl:Tail} (htl:tl.isOwn=false) (hf:∀ a,(f a).bd 0=true) (xs:List α):(PV.sl tl (xs.map f)).bd 0=true:=by
 cases tl<;>simp only [Tail.isOwn,Bool.true_eq_false] at htl<;>simp [PV.bd,bds_map hf]
end Go.Pv
namespace Go.Pv
open Go.Am Go.RowKit
theorem PTail.less {A:AP} {P:Program} {g:FuncId} {fn:Func} {n:Nat} {R X:PV→PH→Prop} {c:Code} {t t':T PV} {h:PH} (hp:PTail A P g fn n R X c t' h) (ht:∀ i v,t'.get i=some v→t.get i=some v):PTail A P g fn n R X c t h :=
 fun w0 s0 s arr cs h1 h2 h3 h4 h5 h6=>hp w0 s0 s arr cs h1 h2 h3 h4 (fun i v hi=>h5 i v (ht i v hi)) h6
def Til (C:Cx) (fn:Func) (n:Nat) (R X:PV→PH→Prop) (c:Code) (e:EL) (h:PH):Prop:=PTail C.A C.P C.fi fn n R X c (TE e) h
section
variable {C:Cx} {fn:Func} {n:Nat} {R X:PV→PH→Prop} {e:EL} {h:PH}
theorem PCall.ofT (hC:C.Ok) (hf:C.A.funcs.get C.fi=some fn) {c:Code} (hc:fn.body=some c) {args:List PV} (hle:Nat.ble args.length fn.ntmps=true) (hp:Til C fn h.next R X c (argE args 0) h):PCall C.P C.fi args h R X:=by
 refine PCall.introT hC.A hf hc hle fun _=>PTail.less hp fun i v hi=>?_
 rw [TE_get,argE_get] at hi
 rw [T.get_ofList]
 simp only [Nat.zero_le,if_true,Nat.sub_zero] at hi
 have:=(List.getElem?_eq_some_iff.1 hi).1
 rw [if_pos (by omega),Nat.sub_zero]
 exact hi
theorem Til.seq (hs:C.sz=fn.ntmps) (hr:C.rnd=none) {x y:Code} (hx:Run C (fun q e ds h=>q=.normal∧ds=[]∧Til C fn n R X y e h) (fun _ _ _=>False) [.c x] e [] h):Til C fn n R X (.seq x y) e h:=by
 have h1:=hx.wp (t:=TE e) (Sub.refl e)
 rw [Cx.wp,hs,hr] at h1
 refine PTail.seq (PWP.mono h1 ?_ fun _ _ _ _ h=>h)
 rintro q t ds h' ⟨e',hsub,rfl,rfl,ht⟩
 exact ⟨rfl,PTail.less ht fun i v hi=>by rw [TE_get] at hi;exact hsub i v hi⟩
def ResE (C:Cx) (fn:Func) (n:Nat) (R:PV→PH→Prop) (e:EL) (h:PH):Prop:=∃ vs,presults C.A h (lget e) fn.results.toList=some vs∧PCut n (pone vs) h R
theorem ResE.res {t:T PV} (hs:Sub e t) (hr:ResE C fn n R e h):PRes C.A fn n R t h:=by
 obtain ⟨vs,h1,h2⟩:=hr
 unfold PRes
 rw [presults_sub hs h1]
 exact h2
theorem PDefer.mono {A:AP} {P:Program} {gd:FuncId} {caps:List PV} {rec:PV} {K K':PH→Prop} (hd:PDefer A P gd caps rec h K) (hK:∀ h,K h→K' h):PDefer A P gd caps rec h K':=by
 obtain ⟨fd,id,o,dr,z,h1,h2,h3,h4,h5,h6,h7,h8,h9⟩:=hd
 refine ⟨fd,id,o,dr,z,h1,h2,h3,h4,h5,h6,h7,h8,PWP.mono h9 ?_ fun _ _ _ _ h=>h⟩
 intro x t ds h' hx
 cases x with
 |normal=>exact ⟨hx.1,hK _ hx.2⟩
 |jump j=>cases j<;>first | exact hx.elim | exact ⟨hx.1,hK _ hx.2⟩
def FinD (K:PH→Prop):EQ:=fun x _ ds h=>(x=.normal∨x=.jump .ret)∧Undo ds h∧K (unds ds h)
theorem PDefer.of {fd:Func} {id:Nat} {o:Oper} {dr:Nat} {z:Code} {caps:List PV} {rec:PV} {K:PH→Prop} {cl:Call} (hf:C.A.funcs.get C.fi=some fd) (hb:fd.body=some (.seq (.region id #[o] false) z)) (hd:o.dst=some dr) (hg:o.guard=none) (ho:o.op=.call cl)
  (hcl:cl.callee=.builtin .recover) (hr:fd.results=#[]) (hle:Nat.ble caps.length fd.ntmps=true) (hlt:Nat.blt dr fd.ntmps=true) (hs:C.sz=fd.ntmps) (hrn:C.rnd=none)
  (hz:Run C (FinD K) (fun _ _ _=>False) [.c z] ((dr,rec)::argE caps 0) [] h):PDefer C.A C.P C.fi caps rec h K:=by
 refine ⟨fd,id,o,dr,z,hf,hb,hd,hg,⟨cl,ho,hcl⟩,hr,by rw [Nat.ble_eq] at hle;exact hle,(T.blt_iff _ _).1 hlt,?_⟩
 have h1:=hz.wp (t:=(T.ofList caps 0 .nil).set dr rec) fun i v hi=>by
  simp only [lget] at hi
  rw [T.get_set]
  split at hi
  ·next hb=>rw [if_pos (Nat.eq_of_beq_eq_true hb)];exact hi
  ·next hb =>
   rw [if_neg (fun c=>by subst c;simp at hb)]
   rw [argE_get] at hi
   rw [T.get_ofList]
   simp only [Nat.zero_le,if_true,Nat.sub_zero] at hi
   have:=(List.getElem?_eq_some_iff.1 hi).1
   rw [if_pos (by omega),Nat.sub_zero]
   exact hi
 rw [Cx.wp,hs,hrn] at h1
 refine PWP.mono h1 ?_ fun _ _ _ _ h=>h
 rintro x t ds h' ⟨e',_,hx,h2,h3⟩
 rcases hx with rfl | rfl
 ·exact ⟨h2,h3⟩
 ·exact ⟨h2,h3⟩
theorem preg_mono {A:AP} {P:Program} {E:Eqs} {M:Nat→Bool} {sz:Nat} {all:List Oper} {K K':T PV→PH→Prop} {X X':PV→PH→Prop} (hK:∀ t h,K t h→K' t h) (hX:∀ v h,X v h→X' v h):∀ (os:List Oper) (t:T PV) (h:PH),preg A E P M sz all os t h K X→preg A E P M sz all os t h K' X'
 |[],t,h,hp=>hK t h hp
 |o :: os, t, h, hp => by
  have op:pop A E P M t.get h o (fun v h'=>preg A E P M sz all os (tput t o.dst v) h' K X) X→pop A E P M t.get h o (fun v h'=>preg A E P M sz all os (tput t o.dst v) h' K' X') X' :=
   fun hq=>pop_mono hq (fun v h' hv=>preg_mono hK hX os _ _ hv) hX
  have sk:preg A E P M sz all os (tput t o.dst (.tup [])) h K X→preg A E P M sz all os (tput t o.dst (.tup [])) h K' X':=preg_mono hK hX os _ _
  simp only [preg] at hp ⊢
  split at hp
  ·exact hp
  ·split at hp
   ·exact op hp
   ·split at hp
    ·exact hp
    ·split at hp
     ·exact hp
     ·split at hp
      ·split at hp
       ·exact hp.mono op sk
       ·exact hp.mono sk op
      ·exact sk hp
      ·exact hp
theorem tless_keep {i:Nat}:∀ (os:List Oper) (t:T PV),os.all (fun o=>match o.dst with | some d=>!Nat.beq d i | none=>true)=true→(tless t os).get i=t.get i
 |[],_,_=>rfl
 |o::os,t,h=>by
  simp only [List.all_cons,Bool.and_eq_true] at h
  simp only [tless]
  cases hd:o.dst with
  |none=>exact tless_keep os t h.2
  |some d =>
   have h1:=h.1
   rw [hd] at h1
   simp only [Bool.not_eq_true'] at h1
   have hne:i≠d:=fun e=>by subst e;simp at h1
   simp only []
   rw [tless_keep os (t.del d) h.2,T.get_del,if_neg hne]
theorem Til.defer (hC:C.Ok) (hs:C.sz=fn.ntmps) (hr:C.rnd=none) (hf:C.A.funcs.get C.fi=some fn) {id id2:Nat} {mk df:Oper} {ops:Array Oper} {c:Call} {f:Operand} {gd dm:Nat} {caps:List PV} (e0:EL)
  (hmd:mk.dst=some dm) (hml:Nat.blt dm fn.ntmps=true) (hmg:mk.guard=none) (hdg:df.guard=none) (hdd:df.dst=none) (hop:df.op=.defer c) (hcal:c.callee=.value f) (hargs:c.args=#[])
  (hmk:Ope C (fun _ _ _=>False) mk e [] h fun v h'=>h'=h∧v=.fn (.func gd) [] caps) (hfv:pev (lget ((dm,.fn (.func gd) [] caps)::e)) f=some (.fn (.func gd) [] caps))
  (he0:e0.all (fun p=>ops.toList.all (fun o=>match o.dst with | some d=>!Nat.beq d p.1 | none=>true))=true) (he1:Lsub e0 ((dm,.fn (.func gd) [] caps)::e))
  (hreg:Reg C (fun q e ds h=>q=.normal∧Undo ds h∧PDefer C.A C.P gd caps (.lit .nilifc) (unds ds h) (ResE C fn n R e)) (fun ds v h=>Undo ds h∧PDefer C.A C.P gd caps v (unds ds h) (ResE C fn n R e0)) [] ops.toList ops.toList ((dm,.fn (.func gd) [] caps)::e) [] h) :
  Til C fn n R X (.seq (.region id #[mk,df] false) (.seq (.region id2 ops false) .ret)) e h:=by
 have hget:(tput (TE e) mk.dst (.fn (.func gd) [] caps)).get=lget ((dm,.fn (.func gd) [] caps)::e):=by
  rw [hmd]
  exact put_get (TE_getf e) dm _
 refine PTail.defer (M:=C.M) (gd:=gd) (caps:=caps) (f:=f) hC.A hC.E hf (by rw [hmd];exact hml) hmg hdg hdd hop hcal hargs ?_ (by rw [hget];exact hfv) ?_
 ·unfold Ope at hmk
  rw [TE_getf]
  exact hmk
 ·refine PWP.seq (PWP.region (M:=C.M) hC.A hC.E ?_)
  unfold Reg at hreg
  have h1:=hreg _ hget
  rw [hs] at h1
  refine preg_mono ?_ ?_ _ _ _ h1
  ·rintro t' h' ⟨e',hsub,_,hu,hd⟩
   exact PWP.jump (j:=.ret) trivial ⟨hu,hd.mono fun _ hres=>hres.res hsub⟩
  ·rintro v h' ⟨hu,hd⟩
   refine ⟨hu,hd.mono fun _ hres=>hres.res fun i u hi=>?_⟩
   have hmem:∃ p∈e0,p.1=i:=by
    clear he0 he1 hres hd hu hreg h1
    induction e0 with
    |nil=>cases hi
    |cons p l ih =>
     obtain ⟨j,w⟩:=p
     simp only [lget] at hi
     split at hi
     ·next hb=>exact ⟨(j,w),by simp,(Nat.eq_of_beq_eq_true hb).symm⟩
     ·obtain ⟨p,h1,h2⟩:=ih hi
      exact ⟨p,List.mem_cons_of_mem _ h1,h2⟩
   obtain ⟨p,hp,rfl⟩:=hmem
   rw [tless_keep _ _ (List.all_eq_true.1 he0 p hp),hget]
   exact he1.get hi
theorem ResE.ofF {R:PV→Prop} {vs:List PV} {m:Nat} {l:HL} (hv:Res C.A e l fn.results.toList vs) (hb:(pone vs).bd 0=true) (hR:R (pone vs)):ResE C fn 0 (fun v h=>h=.nil∧R v) e (HE m l) :=
 ⟨vs,hv.get,_,_,PGh.cut hb (by rw [PH.cut_zero];exact PH.nil_ok),by rw [PH.cut_zero],hR⟩
end
end Go.Pv
namespace Go.Pv
open Go.Am Go.RowKit
section
variable {C:Cx} {F:EQ} {X:EX} {k:List KI} {e:EL} {ds:List Nat} {h:PH} {K:PV→PH→Prop} {n:Nat} {l:HL}
variable {d:Option Tmp} {type:TypeId} {pos:String} {after:Array Edge} {guard:Option (Nat×Bool)}
end
end Go.Pv
namespace Go.Pv
open Go.Am Go.RowKit
class Cnd (q:Bool) (p1 p2:outParam Prop):Prop where
 t:q=true→p1
 f:q=false→p2
instance (priority:=100) {q:Bool}:Cnd q (q=true) (q=false):=⟨id,id⟩
instance (priority:=500) {q:Bool}:Cnd (!q) (q=false) (q=true):=⟨fun h=>by simpa using h,fun h=>by simpa using h⟩
instance (priority:=1000) {p:Prop} [Decidable p]:Cnd (decide p) p (¬p):=⟨of_decide_eq_true,of_decide_eq_false⟩
instance (priority:=1000) {p:Prop} [Decidable p]:Cnd (!decide p) (¬p) p:=⟨fun h=>by simpa using h,fun h=>by simpa using h⟩
section
variable {C:Cx} {F:EQ} {X:EX} {k:List KI} {e:EL} {ds:List Nat} {h:PH}
theorem Run.condX {c:Operand} {x y:Code} {q:Bool} {p1 p2:Prop} [hq:Cnd q p1 p2] (hc:pev (lget e) c=some (B q)) (hx:p1→Run C F X (.c x::k) e ds h) (hy:p2→Run C F X (.c y::k) e ds h):Run C F X (.c (.cond c x y)::k) e ds h :=
 Run.cond hc (fun h=>hx (hq.t h)) fun h=>hy (hq.f h)
theorem Reg.splitX {w q:Bool} {j dj:Nat} {d:Option Nat} {op:Op} {type:TypeId} {pos:String} {after:Array Edge} {all os:List Oper} {p1 p2:Prop} [hq:Cnd q p1 p2] (hj:gdst all j=some dj) (hv:lget e dj=some (B q))
  (h1:p1→Reg C F X k all ({ dst:=d,op,type,pos,after,guard:=some (j,w) }::os) ((dj,B true)::e) ds h)
  (h2:p2→Reg C F X k all ({ dst:=d,op,type,pos,after,guard:=some (j,w) }::os) ((dj,B false)::e) ds h):Reg C F X k all ({ dst:=d,op,type,pos,after,guard:=some (j,w) }::os) e ds h :=
 Reg.split hj hv (fun h=>h1 (hq.t h)) fun h=>h2 (hq.f h)
theorem Dra.splitX {w q:Bool} {i j dj:Nat} {b:Bool} {o:Oper} {all:List Oper} {od:List (Nat×Bool)} {p1 p2:Prop} [hq:Cnd q p1 p2] (hi:nthK all i=some o) (hg:o.guard=some (j,w)) (hj:gdst all j=some dj) (hv:lget e dj=some (B q))
  (h1:p1→Dra C F X k all ((i,b)::od) ((dj,B true)::e) ds h) (h2:p2→Dra C F X k all ((i,b)::od) ((dj,B false)::e) ds h):Dra C F X k all ((i,b)::od) e ds h :=
 Dra.split' hi hg hj hv (fun h=>h1 (hq.t h)) fun h=>h2 (hq.f h)
end
end Go.Pv
namespace Go.Pv
open Go.Proofs Go.Am
set_option maxRecDepth 10000
structure Rpt where
  id:Int
  ve:Int
  ki:Int
  a:Int
  b:Int
  c:Int
  d:Int
  pr:Int
deriving DecidableEq
def Rpt.v (r:Rpt):PV:=.agg [I r.id,I r.ve,I r.ki,I r.a,I r.b,I r.c,I r.d,I r.pr]
def spnB (x y lo hi:Int):Bool:=(decide (lo≤x) && decide (x≤y)) && (decide (y≤hi) && decide (y - x≤3))
def Rpt.ok (r:Rpt):Bool :=
  (decide (0≤r.id) && decide (r.id≤31)) && ((decide (0≤r.ve) && decide (r.ve≤9)) && (spnB r.a r.b 0 50 && ((decide (0≤r.ki) && decide (r.ki≤2)) && (if r.ki=0 then spnB r.c r.d 1 10 else decide (0≤r.pr) && decide (r.pr≤3)))))
def Rpt.own (r:Rpt):Rpt:=if r.ki=0 then { r with pr:=0 } else { r with c:=0,d:=0 }
theorem Rpt.own_id (r:Rpt):r.own.id=r.id:=by unfold Rpt.own;split<;>rfl
theorem Rpt.own_own (r:Rpt):r.own.own=r.own:=by
  unfold Rpt.own
  by_cases h:r.ki=0
  · rw [if_pos h,if_pos h]
  · rw [if_neg h,if_neg h]
def cmpL:List (Int×Int)→Int
  | []=>0
  | (x,y)::l=>if x < y then -1 else if y < x then 1 else cmpL l
def keysR (r s:Rpt):List (Int×Int):=[(r.id,s.id),(r.ve,s.ve),(r.ki,s.ki),(r.a,s.a),(r.b,s.b),(r.c,s.c),(r.d,s.d),(r.pr,s.pr)]
def cmpR (r s:Rpt):Int:=cmpL (keysR r s)
theorem cmpL_rng:∀ l,cmpL l=-1∨cmpL l=0∨cmpL l=1
  | []=>.inr (.inl rfl)
  | (x, y) :: l => by
    simp only [cmpL]
    split
    · exact .inl rfl
    · split
      · exact .inr (.inr rfl)
      · exact cmpL_rng l
theorem cmpL_swap:∀ l,cmpL (l.map fun p=>(p.2,p.1))=-cmpL l
  | []=>rfl
  | (x, y) :: l => by
    have ih:=cmpL_swap l
    simp only [List.map_cons,cmpL]
    by_cases h1:x < y
    · rw [if_neg (by omega),if_pos h1,if_pos h1];rfl
    · by_cases h2 : y < x
      · rw [if_pos h2,if_neg h1,if_pos h2]
      · rw [if_neg h2,if_neg h1,if_neg h1,if_neg h2,ih]
theorem cmpR_swap (r s:Rpt):cmpR s r=-cmpR r s:=cmpL_swap (keysR r s)
theorem cmpR_zero {r s : Rpt} : cmpR r s = 0 ↔ r = s := by
  constructor
  · intro h
    have key:∀ l,cmpL l=0→∀ p∈l,p.1=p.2:=by
      intro l
      induction l with
      | nil=>intro _ p hp;cases hp
      | cons q l ih =>
        obtain ⟨x,y⟩:=q
        intro h p hp
        simp only [cmpL] at h
        split at h
        · omega
        · split at h
          · omega
          · rcases List.mem_cons.1 hp with rfl | hp
            · show x=y;omega
            · exact ih h p hp
    have h1:=key _ h
    obtain ⟨r1,r2,r3,r4,r5,r6,r7,r8⟩:=r
    obtain ⟨s1,s2,s3,s4,s5,s6,s7,s8⟩:=s
    simp only [keysR,List.mem_cons,List.not_mem_nil,or_false,forall_eq_or_imp,forall_eq] at h1
    obtain ⟨e1,e2,e3,e4,e5,e6,e7,e8⟩:=h1
    subst e1 e2 e3 e4 e5 e6 e7 e8
    rfl
  · rintro rfl
    have key:∀ l:List (Int×Int),(∀ p∈l,p.1=p.2)→cmpL l=0:=by
      intro l
      induction l with
      | nil=>intro _;rfl
      | cons q l ih =>
        obtain ⟨x,y⟩:=q
        intro h
        have h1:x=y:=h (x,y) (by simp)
        simp only [cmpL]
        rw [if_neg (by omega),if_neg (by omega)]
        exact ih fun p hp=>h p (List.mem_cons_of_mem _ hp)
    exact key _ (by simp [keysR])
theorem cmpT : ∀ (l : List (Int × Int × Int)), cmpL (l.map fun t => (t.1, t.2.1)) ≤ 0 → cmpL (l.map fun t => (t.2.1, t.2.2)) ≤ 0 → cmpL (l.map fun t => (t.1, t.2.2)) ≤ 0 ∧ (cmpL (l.map fun t => (t.1, t.2.2)) = 0 → cmpL (l.map fun t => (t.1, t.2.1)) = 0)
  | [],_,_=>⟨Int.le_refl _,fun _=>rfl⟩
  | (x, y, z) :: l, h1, h2 => by
    simp only [List.map_cons,cmpL] at h1 h2 ⊢
    have hr1:=cmpL_rng (l.map fun t=>(t.1,t.2.1))
    have hr2:=cmpL_rng (l.map fun t=>(t.2.1,t.2.2))
    by_cases a1:x < y
    · by_cases b1 : y < z
      · rw [if_pos (by omega)];exact ⟨by decide,fun h=>by cases h⟩
      · by_cases b2 : z < y
        · rw [if_neg b1,if_pos b2] at h2;omega
        · rw [if_pos (by omega)];exact ⟨by decide,fun h=>by cases h⟩
    · by_cases a2 : y < x
      · rw [if_neg a1,if_pos a2] at h1;omega
      · rw [if_neg a1, if_neg a2] at h1
        by_cases b1:y < z
        · rw [if_pos (by omega)];exact ⟨by decide,fun h=>by cases h⟩
        · by_cases b2 : z < y
          · rw [if_neg b1,if_pos b2] at h2;omega
          · rw [if_neg b1, if_neg b2] at h2
            have ih:=cmpT l h1 h2
            rw [if_neg (by omega),if_neg (by omega),if_neg a1,if_neg a2]
            exact ih
theorem cmpR_trans {r s t:Rpt} (h1:cmpR r s≤0) (h2:cmpR s t≤0):cmpR r t≤0 :=
  (cmpT [(r.id,s.id,t.id),(r.ve,s.ve,t.ve),(r.ki,s.ki,t.ki),(r.a,s.a,t.a),(r.b,s.b,t.b),(r.c,s.c,t.c),(r.d,s.d,t.d),(r.pr,s.pr,t.pr)] h1 h2).1
def insR:Option Rpt→Rpt→Option Rpt
  | none,r=>some r
  | some o,r=>if 0 < cmpR r o then some r else some o
def bst (i:Int) (L:List Rpt):Option Rpt:=((L.map Rpt.own).filter fun r=>decide (r.id=i)).foldl insR none
theorem bst_snoc (i:Int) (L:List Rpt) (r:Rpt):bst i (L++[r])=if r.id=i then insR (bst i L) r.own else bst i L:=by
  unfold bst
  rw [List.map_append,List.filter_append,List.foldl_append]
  simp only [List.map_cons,List.map_nil,List.filter_cons,List.filter_nil,Rpt.own_id]
  by_cases h:r.id=i
  · rw [if_pos h,decide_eq_true h];rfl
  · rw [if_neg h,decide_eq_false h];rfl
theorem cmpR_le_anti {r s:Rpt} (h1:cmpR r s≤0) (h2:cmpR s r≤0):r=s:=by
  rw [cmpR_swap r s] at h2
  exact cmpR_zero.1 (by omega)
theorem fold_ins : ∀ (l : List Rpt) (o : Option Rpt) (x : Rpt), l.foldl insR o = some x ↔ x ∈ o.toList ++ l ∧ ∀ y ∈ o.toList ++ l, cmpR y x ≤ 0
  | [],none,x=>by simp
  | [], some q, x => by
    simp only [List.foldl_nil,Option.some.injEq,Option.toList_some,List.append_nil,List.mem_singleton,forall_eq]
    constructor
    · rintro rfl;exact ⟨rfl,by rw [cmpR_zero.2 rfl];decide⟩
    · rintro ⟨rfl,_⟩;rfl
  | r :: l, none, x => by
    rw [List.foldl_cons,fold_ins l (insR none r) x]
    simp [insR]
  | r :: l, some q, x => by
    rw [List.foldl_cons,fold_ins l (insR (some q) r) x]
    simp only [insR]
    split
    · next h =>
      have hqr:cmpR q r≤0:=by rw [cmpR_swap r q];omega
      simp only [Option.toList_some,List.singleton_append,List.mem_cons,forall_eq_or_imp]
      constructor
      · rintro ⟨h1, h2, h3⟩
        exact ⟨.inr h1,cmpR_trans hqr h2,h2,h3⟩
      · rintro ⟨h1, h2, h3, h4⟩
        refine ⟨?_,h3,h4⟩
        rcases h1 with rfl | h1
        · exfalso
          have:=cmpR_swap x r
          omega
        · exact h1
    · next h =>
      simp only [Option.toList_some,List.singleton_append,List.mem_cons,forall_eq_or_imp]
      constructor
      · rintro ⟨h1, h2, h3⟩
        refine ⟨?_,h2,cmpR_trans (by omega) h2,h3⟩
        rcases h1 with h1 | h1
        · exact .inl h1
        · exact .inr (.inr h1)
      · rintro ⟨h1, h2, h3, h4⟩
        refine ⟨?_,h2,h4⟩
        rcases h1 with h1 | rfl | h1
        · exact .inl h1
        · exact .inl (cmpR_le_anti (by omega) h2)
        · exact .inr h1
theorem bst_some {i:Int} {L:List Rpt} {x:Rpt}:bst i L=some x↔(∃ r∈L,r.id=i∧r.own=x)∧∀ r∈L,r.id=i→cmpR r.own x≤0:=by
  unfold bst
  rw [fold_ins]
  simp only [Option.toList_none,List.nil_append,List.mem_filter,List.mem_map,decide_eq_true_eq]
  constructor
  · rintro ⟨⟨⟨r, hr, rfl⟩, h1⟩, h2⟩
    rw [Rpt.own_id] at h1
    exact ⟨⟨r,hr,h1,rfl⟩,fun s hs h3=>h2 s.own ⟨⟨s,hs,rfl⟩,by rw [Rpt.own_id];exact h3⟩⟩
  · rintro ⟨⟨r, hr, h1, rfl⟩, h2⟩
    exact ⟨⟨⟨r,hr,rfl⟩,by rw [Rpt.own_id];exact h1⟩,fun y ⟨⟨s,hs,e⟩,h3⟩=>by subst e;exact h2 s hs (by rw [Rpt.own_id] at h3;exact h3)⟩
def std (L:List Rpt):List Rpt:=(List.range 32).filterMap fun (i:Nat)=>bst i L
theorem mem_std {L:List Rpt} {x:Rpt}:x∈std L↔∃ i:Nat,i < 32∧bst i L=some x:=by
  simp [std]
end Go.Pv
namespace Go.Pv
open Go.Proofs Go.Am
set_option maxRecDepth 10000
def Srt (D:List Rpt):Prop:=D.Pairwise fun a b=>a.id < b.id
theorem srt_uniq : ∀ {A B : List Rpt}, Srt A → Srt B → (∀ x, x ∈ A ↔ x ∈ B) → A = B
  | [],[],_,_,_=>rfl
  | [],b::B,_,_,h=>by have:=(h b).2 (by simp);cases this
  | a::A,[],_,_,h=>by have:=(h a).1 (by simp);cases this
  | a :: A, b :: B, ha, hb, h => by
    obtain ⟨a1,a2⟩:=List.pairwise_cons.1 ha
    obtain ⟨b1,b2⟩:=List.pairwise_cons.1 hb
    have hab:a=b:=by
      rcases List.mem_cons.1 ((h a).1 (by simp)) with e | e
      · exact e
      · rcases List.mem_cons.1 ((h b).2 (by simp)) with e' | e'
        · exact e'.symm
        · have:=a1 b e';have:=b1 a e;omega
    subst hab
    refine congrArg (a::·) (srt_uniq a2 b2 fun x=>⟨fun hx=>?_,fun hx=>?_⟩)
    · rcases List.mem_cons.1 ((h x).1 (List.mem_cons_of_mem _ hx)) with e | e
      · subst e;have:=a1 x hx;omega
      · exact e
    · rcases List.mem_cons.1 ((h x).2 (List.mem_cons_of_mem _ hx)) with e | e
      · subst e;have:=b1 x hx;omega
      · exact e
theorem fm_congr {α β:Type} {f g:α→Option β}:∀ {l:List α},(∀ x∈l,f x=g x)→l.filterMap f=l.filterMap g
  | [],_=>rfl
  | x :: l, h => by
    rw [List.filterMap_cons,List.filterMap_cons,h x (by simp),fm_congr fun y hy=>h y (List.mem_cons_of_mem _ hy)]
theorem pick_sorted (f : Nat → Option Rpt) (hf : ∀ i x, f i = some x → x.id = (i : Int)) : ∀ n, Srt ((List.range n).filterMap f) ∧ ∀ x ∈ (List.range n).filterMap f, x.id < (n : Int)
  | 0=>⟨List.Pairwise.nil,fun x hx=>by cases hx⟩
  | n + 1 => by
    obtain ⟨h1,h2⟩:=pick_sorted f hf n
    rw [List.range_succ,List.filterMap_append]
    cases hn:f n with
    | none =>
      have:List.filterMap f [n]=[]:=by simp [hn]
      rw [this,List.append_nil]
      exact ⟨h1,fun x hx=>by have:=h2 x hx;omega⟩
    | some y =>
      have:List.filterMap f [n]=[y]:=by simp [hn]
      rw [this]
      have hy:=hf n y hn
      refine ⟨List.pairwise_append.2 ⟨h1,List.pairwise_singleton _ _,fun a ha b hb=>?_⟩,fun x hx=>?_⟩
      · rw [List.mem_singleton.1 hb,hy];exact h2 a ha
      · rcases List.mem_append.1 hx with hx | hx
        · have:=h2 x hx;omega
        · rw [List.mem_singleton.1 hx,hy];omega
def IdsOk (D:List Rpt):Prop:=∀ r∈D,0≤r.id∧r.id≤31
def srtR (D:List Rpt):List Rpt:=(List.range 32).filterMap fun (i:Nat)=>D.find? fun r=>decide (r.id=(i:Int))
theorem srtR_sorted (D:List Rpt):Srt (srtR D):=(pick_sorted _ (fun i x h=>by simpa using List.find?_some h) 32).1
theorem find_nodup:∀ {D:List Rpt},(D.map Rpt.id).Nodup→∀ {x:Rpt},x∈D→D.find? (fun r=>decide (r.id=x.id))=some x
  | r :: D, hn, x, hx => by
    simp only [List.map_cons,List.nodup_cons] at hn
    simp only [List.find?_cons]
    rcases List.mem_cons.1 hx with rfl | hx
    · simp
    · have : ¬ r.id = x.id := fun e => hn.1 (by rw [e]; exact List.mem_map_of_mem hx)
      rw [decide_eq_false this]
      exact find_nodup hn.2 hx
theorem mem_srtR {D:List Rpt} (hn:(D.map Rpt.id).Nodup) (hi:IdsOk D) {x:Rpt}:x∈srtR D↔x∈D:=by
  unfold srtR
  rw [List.mem_filterMap]
  constructor
  · rintro ⟨i, _, h⟩
    exact List.mem_of_find?_eq_some h
  · intro hx
    have h1:=hi x hx
    refine ⟨x.id.toNat,List.mem_range.2 (by omega),?_⟩
    have:=find_nodup hn hx
    rw [show ((x.id.toNat:Nat):Int)=x.id from by omega]
    exact this
theorem srt_of {D L:List Rpt} (hn:(D.map Rpt.id).Nodup) (hi:IdsOk D) (hp:L.Perm D) (hs:Srt L):L=srtR D :=
  srt_uniq hs (srtR_sorted D) fun x=>(hp.mem_iff).trans (mem_srtR hn hi).symm
theorem srtR_std {D L:List Rpt} (h:∀ i:Nat,i < 32→(D.find? fun r=>decide (r.id=(i:Int)))=bst i L):srtR D=std L:=by
  unfold srtR std
  exact fm_congr fun i hi=>h i (List.mem_range.1 hi)
theorem std_own {L:List Rpt} {x:Rpt} (hx:x∈std L):x.own=x:=by
  obtain ⟨i,hi,h⟩:=mem_std.1 hx
  obtain ⟨⟨r,_,_,e⟩,_⟩:=bst_some.1 h
  rw [← e,Rpt.own_own]
theorem cmpR_id {r s:Rpt} (h:r.id≠s.id):cmpR r s < 0↔r.id < s.id:=by
  unfold cmpR keysR
  simp only [cmpL]
  by_cases h1:r.id < s.id
  · rw [if_pos h1];simp [h1]
  · rw [if_neg h1, if_pos (by omega)]
    constructor
    · intro h2;omega
    · intro h2;omega
theorem Rpt.own_ok {r:Rpt} (h:r.ok=true):r.own.ok=true:=by
  unfold Rpt.own
  split
  · next hk =>
    unfold Rpt.ok at h ⊢
    simp only [hk,if_pos] at h ⊢
    exact h
  · next hk =>
    unfold Rpt.ok at h ⊢
    simp only [hk,if_neg,if_false] at h ⊢
    exact h
theorem bst_ok {L:List Rpt} (h:∀ r∈L,r.ok=true) {i:Int} {x:Rpt} (hx:bst i L=some x):x.ok=true:=by
  obtain ⟨⟨r,hr,_,rfl⟩,_⟩:=bst_some.1 hx
  exact Rpt.own_ok (h r hr)
theorem std_ok {L:List Rpt} (h:∀ r∈L,r.ok=true):∀ x∈std L,x.ok=true:=fun x hx=>by
  obtain ⟨i,_,e⟩:=mem_std.1 hx
  exact bst_ok h e
theorem Rpt.ok_id {r:Rpt} (h:r.ok=true):0≤r.id∧r.id≤31:=by
  unfold Rpt.ok at h
  simp only [Bool.and_eq_true,decide_eq_true_eq] at h
  exact h.1
def jouB (L:List Rpt):Bool:=(decide (L.length≤12) && L.all Rpt.ok) && decide (((std L).filter fun r=>decide (r.ki=0)).length≤3)
end Go.Pv
