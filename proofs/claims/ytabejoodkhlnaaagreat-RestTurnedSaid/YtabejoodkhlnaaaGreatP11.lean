/- Parts of the proof: Pv37, Pv38, Pv39, Pv44, T2, T3 -/
import Derived.Test.YtabejoodkhlnaaaGreatP10
set_option linter.unusedVariables false
set_option linter.unusedSimpArgs false
namespace Go.Pv
open Go.Am Go.RowKit
theorem PGh.wide {n:Nat} {h h':PH} {v:PV} (hn:h.next≤h'.next) (hs:∀ i b,h'.get i=some b→h.get i=some b):PGh n h v h' v:=by
 intro w0 s0 s x _ hw hx hh hv
 subst hh
 exact ⟨s.wide h',rfl,hw.wide hn hs,hx.trans (Ext.wide hn),rfl,(R2.ext (Ext.wide hn) v).1 _ hv⟩
def FinH (C:Cx) (fn:Func) (n:Nat) (R:PV→PH→Prop):EQ:=fun x e ds h =>
 match x with
 |.normal=>Undo ds h∧∃ vs,presults C.A (unds ds h) (lget e) fn.results.toList=some vs∧PCut n (pone vs) (unds ds h) R
 |.jump .ret=>Undo ds h∧∃ vs,presults C.A (unds ds h) (lget e) fn.results.toList=some vs∧PCut n (pone vs) (unds ds h) R
 |_=>False
def FinHX (n:Nat) (X:PV→PH→Prop):EX:=fun ds v h=>Undo ds h∧PCut n v (unds ds h) X
section
variable {C:Cx} {F:EQ} {X:EX} {k:List KI} {e:EL} {ds:List Nat} {h:PH} {n m:Nat} {l l':HL}
theorem PCall.ofH (hC:C.Ok) (hr:C.rnd=none) {fn:Func} (hf:C.A.funcs.get C.fi=some fn) {c:Code} (hc:fn.body=some c) (hs:C.sz=fn.ntmps) {args:List PV} (hle:Nat.ble args.length fn.ntmps=true) {R Y:PV→PH→Prop}
  (hrun:(HE n l).Ok→Run C (FinH C fn n R) (FinHX n Y) [.c c] (argE args 0) [] (HE n l)):PCall C.P C.fi args (HE n l) R Y:=by
 refine PCall.intro hC.A hf hc hle fun hok=>?_
 have h1:=(hrun hok).wp (t:=T.ofList args 0 .nil) fun i v hi=>by
  rw [argE_get] at hi
  rw [T.get_ofList]
  simp only [Nat.zero_le,if_true,Nat.sub_zero] at hi
  have:=(List.getElem?_eq_some_iff.1 hi).1
  rw [if_pos (by omega),Nat.sub_zero]
  exact hi
 rw [Cx.wp,hs,hr] at h1
 refine PWP.mono h1 ?_ ?_
 ·intro x t ds h ⟨e,he,hf⟩
  have key:(Undo ds h∧∃ vs,presults C.A (unds ds h) (lget e) fn.results.toList=some vs∧PCut n (pone vs) (unds ds h) R)→PRet C.A fn n R t ds h:=by
   rintro ⟨q1,vs,q2,q3⟩
   refine ⟨q1,?_⟩
   rw [presults_sub he q2]
   exact q3
  cases x with
  |normal=>exact key hf
  |jump j=>cases j<;>first | exact hf.elim | exact key hf
 ·intro t ds v h hx
  exact hx
theorem finH_ret {fn:Func} {R:PV→PH→Prop} {vs:List PV} (hv:Res C.A e l fn.results.toList vs) {m':Nat} (hn:m≤m') (hs:∀ i b,hget l' i=some b→hget l i=some b) (hR:R (pone vs) (HE m' l')):Jmp C (FinH C fn n R) X [] .ret e [] (HE m l) :=
 Jmp.done ⟨trivial,vs,hv.get,HE m' l',pone vs,PGh.wide hn hs,hR⟩
theorem finH_end {fn:Func} {R:PV→PH→Prop} {vs:List PV} (hv:Res C.A e l fn.results.toList vs) {m':Nat} (hn:m≤m') (hs:∀ i b,hget l' i=some b→hget l i=some b) (hR:R (pone vs) (HE m' l')):Run C (FinH C fn n R) X [] e [] (HE m l) :=
 Run.done ⟨trivial,vs,hv.get,HE m' l',pone vs,PGh.wide hn hs,hR⟩
theorem fin_retD {fn:Func} {R:PV→Prop} {vs:List PV} {i:Nat} (hd:hget l i=some .dfr) (hv:Res C.A e ((i,none)::l) fn.results.toList vs) (hb:(pone vs).bd 0=true) (hR:R (pone vs)):Jmp C (FinF C fn R) X [] .ret e [i] (HE m l):=by
 refine Jmp.done ⟨⟨hd,trivial⟩,vs,?_,?_⟩
 ·simp only [unds,HE_del]
  exact hv.get
 ·exact ⟨_,_,PGh.cut hb (by rw [PH.cut_zero];exact PH.nil_ok),by rw [PH.cut_zero],hR⟩
end
theorem Cx.Ok.rnd {C:Cx} (h:C.Ok) {r:Option Nat}:({ C with rnd:=r }:Cx).Ok:=⟨h.A,h.E,h.f⟩
theorem hs_skip {l l':HL} (h:∀ i b,hget l' i=some b→hget l i=some b) {n:Nat} {x:Option PBlk} (hn:hget l' n=none):∀ i b,hget l' i=some b→hget ((n,x)::l) i=some b:=by
 intro i b hi
 by_cases h1:i=n
 ·subst h1
  rw [hn] at hi
  cases hi
 ·rw [hget_tl h1]
  exact h i b hi
theorem hs_refl {l:HL}:∀ i b,hget l i=some b→hget l i=some b:=fun _ _ h=>h
theorem bds_map {α:Type} {f:α→PV} (hf:∀ a,(f a).bd 0=true):∀ xs:List α,PV.bds 0 (xs.map f)=true
 |[]=>rfl
 |x::xs=>by simp only [List.map_cons,PV.bds,hf,bds_map hf xs,Bool.and_self]
theorem bd_sl {α:Type} {f:α→PV} {tl:Tail} (htl:tl.isOwn=false) (hf:∀ a,(f a).bd 0=true) (xs:List α):(PV.sl tl (xs.map f)).bd 0=true:=by
 cases tl<;>simp only [Tail.isOwn,Bool.true_eq_false] at htl<;>simp [PV.bd,bds_map hf]
end Go.Pv
namespace Go.Pv
open Go.Am Go.RowKit
theorem PTail.less {A:AP} {P:Program} {g:FuncId} {fn:Func} {n:Nat} {R X:PV→PH→Prop} {c:Code} {t t':T PV} {h:PH} (hp:PTail A P g fn n R X c t' h) (ht:∀ i v,t'.get i=some v→t.get i=some v):PTail A P g fn n R X c t h :=
 fun w0 s0 s arr cs h1 h2 h3 h4 h5 h6=>hp w0 s0 s arr cs h1 h2 h3 h4 (fun i v hi=>h5 i v (ht i v hi)) h6
def Til (C:Cx) (fn:Func) (n:Nat) (R X:PV→PH→Prop) (c:Code) (e:EL) (h:PH):Prop:=PTail C.A C.P C.fi fn n R X c (TE e) h
section
variable {C:Cx} {fn:Func} {n:Nat} {R X:PV→PH→Prop} {e:EL} {h:PH}
theorem PCall.ofT (hC:C.Ok) (hf:C.A.funcs.get C.fi=some fn) {c:Code} (hc:fn.body=some c) {args:List PV} (hle:Nat.ble args.length fn.ntmps=true) (hp:Til C fn h.next R X c (argE args 0) h):PCall C.P C.fi args h R X:=by
 refine PCall.introT hC.A hf hc hle fun _=>PTail.less hp fun i v hi=>?_
 rw [TE_get,argE_get] at hi
 rw [T.get_ofList]
 simp only [Nat.zero_le,if_true,Nat.sub_zero] at hi
 have:=(List.getElem?_eq_some_iff.1 hi).1
 rw [if_pos (by omega),Nat.sub_zero]
 exact hi
theorem Til.seq (hs:C.sz=fn.ntmps) (hr:C.rnd=none) {x y:Code} (hx:Run C (fun q e ds h=>q=.normal∧ds=[]∧Til C fn n R X y e h) (fun _ _ _=>False) [.c x] e [] h):Til C fn n R X (.seq x y) e h:=by
 have h1:=hx.wp (t:=TE e) (Sub.refl e)
 rw [Cx.wp,hs,hr] at h1
 refine PTail.seq (PWP.mono h1 ?_ fun _ _ _ _ h=>h)
 rintro q t ds h' ⟨e',hsub,rfl,rfl,ht⟩
 exact ⟨rfl,PTail.less ht fun i v hi=>by rw [TE_get] at hi;exact hsub i v hi⟩
def ResE (C:Cx) (fn:Func) (n:Nat) (R:PV→PH→Prop) (e:EL) (h:PH):Prop:=∃ vs,presults C.A h (lget e) fn.results.toList=some vs∧PCut n (pone vs) h R
theorem ResE.res {t:T PV} (hs:Sub e t) (hr:ResE C fn n R e h):PRes C.A fn n R t h:=by
 obtain ⟨vs,h1,h2⟩:=hr
 unfold PRes
 rw [presults_sub hs h1]
 exact h2
theorem PDefer.mono {A:AP} {P:Program} {gd:FuncId} {caps:List PV} {rec:PV} {K K':PH→Prop} (hd:PDefer A P gd caps rec h K) (hK:∀ h,K h→K' h):PDefer A P gd caps rec h K':=by
 obtain ⟨fd,id,o,dr,z,h1,h2,h3,h4,h5,h6,h7,h8,h9⟩:=hd
 refine ⟨fd,id,o,dr,z,h1,h2,h3,h4,h5,h6,h7,h8,PWP.mono h9 ?_ fun _ _ _ _ h=>h⟩
 intro x t ds h' hx
 cases x with
 |normal=>exact ⟨hx.1,hK _ hx.2⟩
 |jump j=>cases j<;>first | exact hx.elim | exact ⟨hx.1,hK _ hx.2⟩
def FinD (K:PH→Prop):EQ:=fun x _ ds h=>(x=.normal∨x=.jump .ret)∧Undo ds h∧K (unds ds h)
theorem PDefer.of {fd:Func} {id:Nat} {o:Oper} {dr:Nat} {z:Code} {caps:List PV} {rec:PV} {K:PH→Prop} {cl:Call} (hf:C.A.funcs.get C.fi=some fd) (hb:fd.body=some (.seq (.region id #[o] false) z)) (hd:o.dst=some dr) (hg:o.guard=none) (ho:o.op=.call cl)
  (hcl:cl.callee=.builtin .recover) (hr:fd.results=#[]) (hle:Nat.ble caps.length fd.ntmps=true) (hlt:Nat.blt dr fd.ntmps=true) (hs:C.sz=fd.ntmps) (hrn:C.rnd=none)
  (hz:Run C (FinD K) (fun _ _ _=>False) [.c z] ((dr,rec)::argE caps 0) [] h):PDefer C.A C.P C.fi caps rec h K:=by
 refine ⟨fd,id,o,dr,z,hf,hb,hd,hg,⟨cl,ho,hcl⟩,hr,by rw [Nat.ble_eq] at hle;exact hle,(T.blt_iff _ _).1 hlt,?_⟩
 have h1:=hz.wp (t:=(T.ofList caps 0 .nil).set dr rec) fun i v hi=>by
  simp only [lget] at hi
  rw [T.get_set]
  split at hi
  ·next hb=>rw [if_pos (Nat.eq_of_beq_eq_true hb)];exact hi
  ·next hb =>
   rw [if_neg (fun c=>by subst c;simp at hb)]
   rw [argE_get] at hi
   rw [T.get_ofList]
   simp only [Nat.zero_le,if_true,Nat.sub_zero] at hi
   have:=(List.getElem?_eq_some_iff.1 hi).1
   rw [if_pos (by omega),Nat.sub_zero]
   exact hi
 rw [Cx.wp,hs,hrn] at h1
 refine PWP.mono h1 ?_ fun _ _ _ _ h=>h
 rintro x t ds h' ⟨e',_,hx,h2,h3⟩
 rcases hx with rfl | rfl
 ·exact ⟨h2,h3⟩
 ·exact ⟨h2,h3⟩
theorem preg_mono {A:AP} {P:Program} {E:Eqs} {M:Nat→Bool} {sz:Nat} {all:List Oper} {K K':T PV→PH→Prop} {X X':PV→PH→Prop} (hK:∀ t h,K t h→K' t h) (hX:∀ v h,X v h→X' v h):∀ (os:List Oper) (t:T PV) (h:PH),preg A E P M sz all os t h K X→preg A E P M sz all os t h K' X'
 |[],t,h,hp=>hK t h hp
 |o :: os, t, h, hp => by
  have op:pop A E P M t.get h o (fun v h'=>preg A E P M sz all os (tput t o.dst v) h' K X) X→pop A E P M t.get h o (fun v h'=>preg A E P M sz all os (tput t o.dst v) h' K' X') X' :=
   fun hq=>pop_mono hq (fun v h' hv=>preg_mono hK hX os _ _ hv) hX
  have sk:preg A E P M sz all os (tput t o.dst (.tup [])) h K X→preg A E P M sz all os (tput t o.dst (.tup [])) h K' X':=preg_mono hK hX os _ _
  simp only [preg] at hp ⊢
  split at hp
  ·exact hp
  ·split at hp
   ·exact op hp
   ·split at hp
    ·exact hp
    ·split at hp
     ·exact hp
     ·split at hp
      ·split at hp
       ·exact hp.mono op sk
       ·exact hp.mono sk op
      ·exact sk hp
      ·exact hp
theorem tless_keep {i:Nat}:∀ (os:List Oper) (t:T PV),os.all (fun o=>match o.dst with | some d=>!Nat.beq d i | none=>true)=true→(tless t os).get i=t.get i
 |[],_,_=>rfl
 |o::os,t,h=>by
  simp only [List.all_cons,Bool.and_eq_true] at h
  simp only [tless]
  cases hd:o.dst with
  |none=>exact tless_keep os t h.2
  |some d =>
   have h1:=h.1
   rw [hd] at h1
   simp only [Bool.not_eq_true'] at h1
   have hne:i≠d:=fun e=>by subst e;simp at h1
   simp only []
   rw [tless_keep os (t.del d) h.2,T.get_del,if_neg hne]
theorem Til.defer (hC:C.Ok) (hs:C.sz=fn.ntmps) (hr:C.rnd=none) (hf:C.A.funcs.get C.fi=some fn) {id id2:Nat} {mk df:Oper} {ops:Array Oper} {c:Call} {f:Operand} {gd dm:Nat} {caps:List PV} (e0:EL)
  (hmd:mk.dst=some dm) (hml:Nat.blt dm fn.ntmps=true) (hmg:mk.guard=none) (hdg:df.guard=none) (hdd:df.dst=none) (hop:df.op=.defer c) (hcal:c.callee=.value f) (hargs:c.args=#[])
  (hmk:Ope C (fun _ _ _=>False) mk e [] h fun v h'=>h'=h∧v=.fn (.func gd) [] caps) (hfv:pev (lget ((dm,.fn (.func gd) [] caps)::e)) f=some (.fn (.func gd) [] caps))
  (he0:e0.all (fun p=>ops.toList.all (fun o=>match o.dst with | some d=>!Nat.beq d p.1 | none=>true))=true) (he1:Lsub e0 ((dm,.fn (.func gd) [] caps)::e))
  (hreg:Reg C (fun q e ds h=>q=.normal∧Undo ds h∧PDefer C.A C.P gd caps (.lit .nilifc) (unds ds h) (ResE C fn n R e)) (fun ds v h=>Undo ds h∧PDefer C.A C.P gd caps v (unds ds h) (ResE C fn n R e0)) [] ops.toList ops.toList ((dm,.fn (.func gd) [] caps)::e) [] h) :
  Til C fn n R X (.seq (.region id #[mk,df] false) (.seq (.region id2 ops false) .ret)) e h:=by
 have hget:(tput (TE e) mk.dst (.fn (.func gd) [] caps)).get=lget ((dm,.fn (.func gd) [] caps)::e):=by
  rw [hmd]
  exact put_get (TE_getf e) dm _
 refine PTail.defer (M:=C.M) (gd:=gd) (caps:=caps) (f:=f) hC.A hC.E hf (by rw [hmd];exact hml) hmg hdg hdd hop hcal hargs ?_ (by rw [hget];exact hfv) ?_
 ·unfold Ope at hmk
  rw [TE_getf]
  exact hmk
 ·refine PWP.seq (PWP.region (M:=C.M) hC.A hC.E ?_)
  unfold Reg at hreg
  have h1:=hreg _ hget
  rw [hs] at h1
  refine preg_mono ?_ ?_ _ _ _ h1
  ·rintro t' h' ⟨e',hsub,_,hu,hd⟩
   exact PWP.jump (j:=.ret) trivial ⟨hu,hd.mono fun _ hres=>hres.res hsub⟩
  ·rintro v h' ⟨hu,hd⟩
   refine ⟨hu,hd.mono fun _ hres=>hres.res fun i u hi=>?_⟩
   have hmem:∃ p∈e0,p.1=i:=by
    clear he0 he1 hres hd hu hreg h1
    induction e0 with
    |nil=>cases hi
    |cons p l ih =>
     obtain ⟨j,w⟩:=p
     simp only [lget] at hi
     split at hi
     ·next hb=>exact ⟨(j,w),by simp,(Nat.eq_of_beq_eq_true hb).symm⟩
     ·obtain ⟨p,h1,h2⟩:=ih hi
      exact ⟨p,List.mem_cons_of_mem _ h1,h2⟩
   obtain ⟨p,hp,rfl⟩:=hmem
   rw [tless_keep _ _ (List.all_eq_true.1 he0 p hp),hget]
   exact he1.get hi
theorem ResE.ofF {R:PV→Prop} {vs:List PV} {m:Nat} {l:HL} (hv:Res C.A e l fn.results.toList vs) (hb:(pone vs).bd 0=true) (hR:R (pone vs)):ResE C fn 0 (fun v h=>h=.nil∧R v) e (HE m l) :=
 ⟨vs,hv.get,_,_,PGh.cut hb (by rw [PH.cut_zero];exact PH.nil_ok),by rw [PH.cut_zero],hR⟩
end
end Go.Pv
namespace Go.Pv
open Go.Am Go.RowKit
section
variable {C:Cx} {F:EQ} {X:EX} {k:List KI} {e:EL} {ds:List Nat} {h:PH} {K:PV→PH→Prop} {n:Nat} {l:HL}
variable {d:Option Tmp} {type:TypeId} {pos:String} {after:Array Edge} {guard:Option (Nat×Bool)}
end
end Go.Pv
namespace Go.Pv
open Go.Am Go.RowKit
class Cnd (q:Bool) (p1 p2:outParam Prop):Prop where
 t:q=true→p1
 f:q=false→p2
instance (priority:=100) {q:Bool}:Cnd q (q=true) (q=false):=⟨id,id⟩
instance (priority:=500) {q:Bool}:Cnd (!q) (q=false) (q=true):=⟨fun h=>by simpa using h,fun h=>by simpa using h⟩
instance (priority:=1000) {p:Prop} [Decidable p]:Cnd (decide p) p (¬p):=⟨of_decide_eq_true,of_decide_eq_false⟩
instance (priority:=1000) {p:Prop} [Decidable p]:Cnd (!decide p) (¬p) p:=⟨fun h=>by simpa using h,fun h=>by simpa using h⟩
section
variable {C:Cx} {F:EQ} {X:EX} {k:List KI} {e:EL} {ds:List Nat} {h:PH}
theorem Run.condX {c:Operand} {x y:Code} {q:Bool} {p1 p2:Prop} [hq:Cnd q p1 p2] (hc:pev (lget e) c=some (B q)) (hx:p1→Run C F X (.c x::k) e ds h) (hy:p2→Run C F X (.c y::k) e ds h):Run C F X (.c (.cond c x y)::k) e ds h :=
 Run.cond hc (fun h=>hx (hq.t h)) fun h=>hy (hq.f h)
theorem Reg.splitX {w q:Bool} {j dj:Nat} {d:Option Nat} {op:Op} {type:TypeId} {pos:String} {after:Array Edge} {all os:List Oper} {p1 p2:Prop} [hq:Cnd q p1 p2] (hj:gdst all j=some dj) (hv:lget e dj=some (B q))
  (h1:p1→Reg C F X k all ({ dst:=d,op,type,pos,after,guard:=some (j,w) }::os) ((dj,B true)::e) ds h)
  (h2:p2→Reg C F X k all ({ dst:=d,op,type,pos,after,guard:=some (j,w) }::os) ((dj,B false)::e) ds h):Reg C F X k all ({ dst:=d,op,type,pos,after,guard:=some (j,w) }::os) e ds h :=
 Reg.split hj hv (fun h=>h1 (hq.t h)) fun h=>h2 (hq.f h)
theorem Dra.splitX {w q:Bool} {i j dj:Nat} {b:Bool} {o:Oper} {all:List Oper} {od:List (Nat×Bool)} {p1 p2:Prop} [hq:Cnd q p1 p2] (hi:nthK all i=some o) (hg:o.guard=some (j,w)) (hj:gdst all j=some dj) (hv:lget e dj=some (B q))
  (h1:p1→Dra C F X k all ((i,b)::od) ((dj,B true)::e) ds h) (h2:p2→Dra C F X k all ((i,b)::od) ((dj,B false)::e) ds h):Dra C F X k all ((i,b)::od) e ds h :=
 Dra.split' hi hg hj hv (fun h=>h1 (hq.t h)) fun h=>h2 (hq.f h)
end
end Go.Pv
namespace Go.Pv
open Go.Proofs Go.Am
set_option maxRecDepth 10000
theorem f164 (a b c d:Int) (h0:-100≤c∧c≤100) (h1:-100≤d∧d≤100):Fn P0 164 [.agg [I a,I b,I c,I d]] (I (c+d)):=by
  refine PFun.of (C:=c164) (cx_ok _ _ _) rfl (fn:=Tryz.f164) (by kernel_rfl) (c:=_) rfl rfl rfl ?_
  refine Run.seq (Run.region (cx_ok _ _ _) (Reg.op rfl (Ope.boxF rfl rfl ?_)))
  refine Reg.op rfl (Ope.asg rfl ?_)
  refine Reg.nil (Run.seq (Run.region (cx_ok _ _ _) (Reg.op rfl (Ope.fld rfl rfl ?_))))
  refine Reg.op rfl (Ope.idxA rfl rfl rfl rfl ?_)
  refine Reg.op rfl (Ope.load rfl rfl ?_)
  refine Reg.op rfl (Ope.fld rfl rfl ?_)
  refine Reg.op rfl (Ope.idxA rfl rfl rfl rfl ?_)
  refine Reg.op rfl (Ope.load rfl rfl ?_)
  refine Reg.op rfl (Ope.add rfl rfl (by omega) ?_)
  refine Reg.op rfl (Ope.asg rfl ?_)
  exact Reg.nil (Run.ret (fin_ret (.tmp rfl .nil) rfl rfl))
theorem f71 (a:Int):Fn P0 71 [I a] (B (decide (a=0) || decide (a=1))):=by
  refine PFun.of (C:=c71) (cx_ok _ _ _) rfl (fn:=Tryz.f71) (by kernel_rfl) (c:=_) rfl rfl rfl ?_
  refine Run.seq (Run.region (cx_ok _ _ _) (Reg.op rfl (Ope.asg rfl ?_)))
  refine Reg.nil (Run.seq (Run.region (cx_ok _ _ _) (Reg.op rfl (Ope.mov rfl ?_))))
  refine Reg.op rfl (Ope.eq rfl rfl ?_)
  refine Reg.op rfl (Ope.mov rfl ?_)
  refine Reg.splitX rfl rfl (fun hg=>?_) fun hg=>?_
  ·refine Reg.off rfl rfl rfl (Reg.off rfl rfl rfl (Reg.op rfl (Ope.pickT rfl rfl ?_)))
   refine Reg.op rfl (Ope.asg rfl ?_)
   refine Reg.nil (Run.ret (fin_ret (.tmp rfl .nil) rfl ?_))
   simp [pone, *]
  ·refine Reg.on rfl rfl rfl (Ope.mov rfl ?_)
   refine Reg.on rfl rfl rfl (Ope.eq rfl rfl ?_)
   refine Reg.op rfl (Ope.pickF rfl rfl ?_)
   refine Reg.op rfl (Ope.asg rfl ?_)
   refine Reg.nil (Run.ret (fin_ret (.tmp rfl .nil) rfl ?_))
   simp [pone, *]
theorem f107 (a b c d a' b' c' d':Int) (h0:-100≤c'∧c'≤100) (h1:-100≤d'∧d'≤100):Fn P0 107 [.agg [I a,I b,I c,I d,I a',I b',I c',I d']] (I (c'+d')):=by
  refine PFun.of (C:=c107) (cx_ok _ _ _) rfl (fn:=Tryz.f107) (by kernel_rfl) (c:=_) rfl rfl rfl ?_
  refine Run.seq (Run.region (cx_ok _ _ _) (Reg.op rfl (Ope.boxF rfl rfl ?_)))
  refine Reg.op rfl (Ope.asg rfl ?_)
  refine Reg.nil (Run.seq (Run.region (cx_ok _ _ _) (Reg.op rfl (Ope.fld rfl rfl ?_))))
  refine Reg.op rfl (Ope.load rfl rfl ?_)
  refine Reg.op rfl (Ope.cf rfl rfl (f164 _ _ _ _ (by omega) (by omega)) rfl ?_)
  refine Reg.op rfl (Ope.asg rfl ?_)
  exact Reg.nil (Run.ret (fin_ret (.tmp rfl .nil) rfl rfl))
theorem f73 (a b c:Int):Fn P0 73 [I a,I b,I c] (B (decide (b≤a) && decide (a≤c))):=by
  refine PFun.of (C:=c73) (cx_ok _ _ _) rfl (fn:=Tryz.f73) (by kernel_rfl) (c:=_) rfl rfl rfl ?_
  refine Run.seq (Run.region (cx_ok _ _ _) (Reg.op rfl (Ope.asg rfl ?_)))
  refine Reg.nil (Run.seq (Run.region (cx_ok _ _ _) (Reg.op rfl (Ope.mov rfl ?_))))
  refine Reg.op rfl (Ope.mov rfl ?_)
  refine Reg.op rfl (Ope.le rfl rfl ?_)
  refine Reg.op rfl (Ope.mov rfl ?_)
  refine Reg.splitX rfl rfl (fun hg=>?_) fun hg=>?_
  ·refine Reg.on rfl rfl rfl (Ope.mov rfl ?_)
   refine Reg.on rfl rfl rfl (Ope.mov rfl ?_)
   refine Reg.on rfl rfl rfl (Ope.le rfl rfl ?_)
   refine Reg.op rfl (Ope.pickT rfl rfl ?_)
   refine Reg.op rfl (Ope.asg rfl ?_)
   refine Reg.nil (Run.ret (fin_ret (.tmp rfl .nil) rfl ?_))
   simp [pone, *]
  ·refine Reg.off rfl rfl rfl (Reg.off rfl rfl rfl (Reg.off rfl rfl rfl (Reg.op rfl (Ope.pickF rfl rfl ?_))))
   refine Reg.op rfl (Ope.asg rfl ?_)
   refine Reg.nil (Run.ret (fin_ret (.tmp rfl .nil) rfl ?_))
   simp [pone, *]
theorem f191 (r n t0 t1 x:Int) (hx:x=0∨x=1) (hr:0≤n∧n≤100) (h0:-100≤t0∧t0≤99) (h1:-100≤t1∧t1≤99) :
    Fn P0 191 [.agg [I r,I n,I t0,I t1],I x] (.agg [I x,I (if x=r then n+1 else 1),I (if x=0 then t0+1 else t0),I (if x=1 then t1+1 else t1)]):=by
  rcases hx with rfl | rfl
  all_goals
    refine PFun.of (C:=c191) (cx_ok _ _ _) rfl (fn:=Tryz.f191) (by kernel_rfl) (c:=_) rfl rfl rfl ?_
    refine Run.seq (Run.region (cx_ok _ _ _) (Reg.op rfl (Ope.boxL rfl rfl ?_)))
    refine Reg.op rfl (Ope.newL rfl ?_)
    refine Reg.nil (Run.seq (Run.seq (Run.region (cx_ok _ _ _) (Reg.op rfl (Ope.mov rfl ?_)))))
    refine Reg.op rfl (Ope.fld rfl rfl ?_)
    refine Reg.op rfl (Ope.fld rfl rfl ?_)
    refine Reg.op rfl (Ope.load rfl rfl ?_)
    refine Reg.op rfl (Ope.ne rfl rfl ?_)
    refine Reg.nil (Run.condX rfl (fun hc=>?_) fun hc=>?_)
    ·refine Run.region (cx_ok _ _ _) (Reg.op rfl (Ope.mov rfl ?_))
     refine Reg.op rfl (Ope.bld rfl rfl ?_)
     refine Reg.op rfl (Ope.fld rfl rfl ?_)
     refine Reg.op0 (Ope.store rfl rfl rfl rfl rfl rfl ?_)
     refine Reg.nil (Run.seq (Run.region (cx_ok _ _ _) (Reg.op rfl (Ope.fld rfl rfl ?_))))
     refine Reg.op rfl (Ope.fld rfl rfl ?_)
     refine Reg.op rfl (Ope.load rfl rfl ?_)
     refine Reg.op rfl (Ope.add rfl rfl (by omega) ?_)
     refine Reg.op rfl (Ope.fld rfl rfl ?_)
     refine Reg.op rfl (Ope.fld rfl rfl ?_)
     refine Reg.op0 (Ope.store rfl rfl rfl rfl rfl rfl ?_)
     refine Reg.nil (Run.seq (Run.region (cx_ok _ _ _) (Reg.op rfl (Ope.mov rfl ?_))))
     refine Reg.op rfl (Ope.fld rfl rfl ?_)
     refine Reg.op rfl (Ope.idxA rfl rfl rfl rfl ?_)
     refine Reg.op rfl (Ope.load rfl rfl ?_)
     refine Reg.op rfl (Ope.add rfl rfl (by omega) ?_)
     refine Reg.op rfl (Ope.fld rfl rfl ?_)
     refine Reg.op rfl (Ope.idxA rfl rfl rfl rfl ?_)
     refine Reg.op0 (Ope.store rfl rfl rfl rfl rfl rfl ?_)
     refine Reg.nil (Run.seq (Run.region (cx_ok _ _ _) (Reg.op rfl (Ope.load rfl rfl ?_))))
     refine Reg.op0 (Ope.store rfl rfl rfl rfl rfl rfl ?_)
     refine Reg.nil (Run.ret (fin_ret (.cell rfl rfl .nil) rfl ?_))
     simp [pone, *]<;>omega
    ·refine Run.skip (Run.seq (Run.region (cx_ok _ _ _) (Reg.op rfl (Ope.fld rfl rfl ?_))))
     refine Reg.op rfl (Ope.fld rfl rfl ?_)
     refine Reg.op rfl (Ope.load rfl rfl ?_)
     refine Reg.op rfl (Ope.add rfl rfl (by omega) ?_)
     refine Reg.op rfl (Ope.fld rfl rfl ?_)
     refine Reg.op rfl (Ope.fld rfl rfl ?_)
     refine Reg.op0 (Ope.store rfl rfl rfl rfl rfl rfl ?_)
     refine Reg.nil (Run.seq (Run.region (cx_ok _ _ _) (Reg.op rfl (Ope.mov rfl ?_))))
     refine Reg.op rfl (Ope.fld rfl rfl ?_)
     refine Reg.op rfl (Ope.idxA rfl rfl rfl rfl ?_)
     refine Reg.op rfl (Ope.load rfl rfl ?_)
     refine Reg.op rfl (Ope.add rfl rfl (by omega) ?_)
     refine Reg.op rfl (Ope.fld rfl rfl ?_)
     refine Reg.op rfl (Ope.idxA rfl rfl rfl rfl ?_)
     refine Reg.op0 (Ope.store rfl rfl rfl rfl rfl rfl ?_)
     refine Reg.nil (Run.seq (Run.region (cx_ok _ _ _) (Reg.op rfl (Ope.load rfl rfl ?_))))
     refine Reg.op0 (Ope.store rfl rfl rfl rfl rfl rfl ?_)
     refine Reg.nil (Run.ret (fin_ret (.cell rfl rfl .nil) rfl ?_))
     simp [pone, *]<;>omega
theorem f159 (r n t0 t1 x:Int) (hx:x=0∨x=1) (hr:0≤n∧n≤100) (h0:-100≤t0∧t0≤99) (h1:-100≤t1∧t1≤99) :
    Fn P0 159 [.agg [I r,I n,I t0,I t1],I x] (.agg [I x,I (if x=r then n+1 else 1),I (if x=0 then t0+1 else t0),I (if x=1 then t1+1 else t1),I r,I n,I t0,I t1]):=by
  refine PFun.of (C:=c159) (cx_ok _ _ _) rfl (fn:=Tryz.f159) (by kernel_rfl) (c:=_) rfl rfl rfl ?_
  refine Run.seq (Run.region (cx_ok _ _ _) (Reg.op rfl (Ope.boxF rfl rfl ?_)))
  refine Reg.op rfl (Ope.newL rfl ?_)
  refine Reg.nil (Run.seq (Run.draw (cx_ok _ _ _) [(0,true),(1,true),(3,false),(2,true),(4,true),(5,true)] (by kernel_rfl) (Dra.op' rfl rfl rfl .sure (Ope.load rfl rfl ?_))))
  refine Dra.op' rfl rfl rfl .sure (Ope.mov rfl ?_)
  refine Dra.op' rfl rfl rfl (.load rfl) (Ope.load rfl rfl ?_)
  refine Dra.op' rfl rfl rfl .sure (Ope.cf rfl rfl (f191 _ _ _ _ _ hx hr h0 h1) rfl ?_)
  refine Dra.op' rfl rfl rfl .sure (Ope.bld rfl rfl ?_)
  refine Dra.op' rfl rfl rfl .sure (Ope.store rfl rfl rfl rfl rfl rfl ?_)
  exact Dra.nil (Run.ret (fin_ret (.cell rfl rfl .nil) rfl rfl))
theorem f121 (a b c d a' b' c' d':Int) (h0:-100≤c'∧c'≤100) (h1:-100≤d'∧d'≤100):Fn P0 121 [.agg [I a,I b,I c,I d,I a',I b',I c',I d']] (B (decide (0 < c'+d') && !decide (a=a'))):=by
  refine PFun.of (C:=c121) (cx_ok _ _ _) rfl (fn:=Tryz.f121) (by kernel_rfl) (c:=_) rfl rfl rfl ?_
  refine Run.seq (Run.region (cx_ok _ _ _) (Reg.op rfl (Ope.boxF rfl rfl ?_)))
  refine Reg.op rfl (Ope.asg rfl ?_)
  refine Reg.nil (Run.seq (Run.region (cx_ok _ _ _) (Reg.op rfl (Ope.load rfl rfl ?_))))
  refine Reg.op rfl (Ope.cf rfl rfl (f107 _ _ _ _ _ _ _ _ h0 h1) rfl ?_)
  refine Reg.op rfl (Ope.gt rfl rfl ?_)
  refine Reg.op rfl (Ope.mov rfl ?_)
  refine Reg.splitX rfl rfl (fun hg=>?_) fun hg=>?_
  ·refine Reg.on rfl rfl rfl (Ope.fld rfl rfl ?_)
   refine Reg.on rfl rfl rfl (Ope.fld rfl rfl ?_)
   refine Reg.on rfl rfl rfl (Ope.fld rfl rfl ?_)
   refine Reg.on rfl rfl rfl (Ope.load rfl rfl ?_)
   refine Reg.on rfl rfl rfl (Ope.fld rfl rfl ?_)
   refine Reg.on rfl rfl rfl (Ope.fld rfl rfl ?_)
   refine Reg.on rfl rfl rfl (Ope.fld rfl rfl ?_)
   refine Reg.on rfl rfl rfl (Ope.load rfl rfl ?_)
   refine Reg.on rfl rfl rfl (Ope.ne rfl rfl ?_)
   refine Reg.op rfl (Ope.pickT rfl rfl ?_)
   refine Reg.op rfl (Ope.asg rfl ?_)
   refine Reg.nil (Run.ret (fin_ret (.tmp rfl .nil) rfl ?_))
   simp [pone, *]
  ·refine Reg.off rfl rfl rfl (Reg.off rfl rfl rfl (Reg.off rfl rfl rfl (Reg.off rfl rfl rfl (Reg.off rfl rfl rfl (Reg.off rfl rfl rfl (Reg.off rfl rfl rfl (Reg.off rfl rfl rfl (Reg.off rfl rfl rfl (Reg.op rfl (Ope.pickF rfl rfl ?_))))))))))
   refine Reg.op rfl (Ope.asg rfl ?_)
   refine Reg.nil (Run.ret (fin_ret (.tmp rfl .nil) rfl ?_))
   simp [pone, *]
theorem f163 (a b c d a' b' c' d':Int) (ha:a=0∨a=1) (h0:-100≤c'∧c'≤100) (h1:-100≤d'∧d'≤100) :
    Fn P0 163 [.agg [I a,I b,I c,I d,I a',I b',I c',I d']] (B ((decide (0 < c'+d') && !decide (a=a')) && decide (0 < if a=0 then c' else d'))):=by
  rcases ha with rfl | rfl
  all_goals
    refine PFun.of (C:=c163) (cx_ok _ _ _) rfl (fn:=Tryz.f163) (by kernel_rfl) (c:=_) rfl rfl rfl ?_
    refine Run.seq (Run.region (cx_ok _ _ _) (Reg.op rfl (Ope.boxF rfl rfl ?_)))
    refine Reg.op rfl (Ope.asg rfl ?_)
    refine Reg.nil (Run.seq (Run.region (cx_ok _ _ _) (Reg.op rfl (Ope.load rfl rfl ?_))))
    refine Reg.op rfl (Ope.cf rfl rfl (f121 _ _ _ _ _ _ _ _ h0 h1) rfl ?_)
    refine Reg.op rfl (Ope.mov rfl ?_)
    refine Reg.splitX rfl rfl (fun hg=>?_) fun hg=>?_
    ·refine Reg.on rfl rfl rfl (Ope.fld rfl rfl ?_)
     refine Reg.on rfl rfl rfl (Ope.fld rfl rfl ?_)
     refine Reg.on rfl rfl rfl (Ope.fld rfl rfl ?_)
     refine Reg.on rfl rfl rfl (Ope.load rfl rfl ?_)
     refine Reg.on rfl rfl rfl (Ope.fld rfl rfl ?_)
     refine Reg.on rfl rfl rfl (Ope.fld rfl rfl ?_)
     refine Reg.on rfl rfl rfl (Ope.idxA rfl rfl rfl rfl ?_)
     refine Reg.on rfl rfl rfl (Ope.load rfl rfl ?_)
     refine Reg.on rfl rfl rfl (Ope.gt rfl rfl ?_)
     refine Reg.op rfl (Ope.pickT rfl rfl ?_)
     refine Reg.op rfl (Ope.asg rfl ?_)
     refine Reg.nil (Run.ret (fin_ret (.tmp rfl .nil) rfl ?_))
     simp [pone, *]
    ·refine Reg.off rfl rfl rfl (Reg.off rfl rfl rfl (Reg.off rfl rfl rfl (Reg.off rfl rfl rfl (Reg.off rfl rfl rfl (Reg.off rfl rfl rfl (Reg.off rfl rfl rfl (Reg.off rfl rfl rfl (Reg.off rfl rfl rfl (Reg.op rfl (Ope.pickF rfl rfl ?_))))))))))
     refine Reg.op rfl (Ope.asg rfl ?_)
     refine Reg.nil (Run.ret (fin_ret (.tmp rfl .nil) rfl ?_))
     simp [pone, *]
theorem f160 (a b c d a' b' c' d' p q r s:Int) (ha:a=0∨a=1) (h0:-100≤c∧c≤100) (h1:-100≤d∧d≤100) (hq:-100≤q∧q≤100) :
    Fn P0 160 [.agg [I a,I b,I c,I d,I a',I b',I c',I d'],.agg [I p,I q,I r,I s]] (I ((if a=0 then c else d) - q)):=by
  rcases ha with rfl | rfl
  all_goals
    refine PFun.of (C:=c160) (cx_ok _ _ _) rfl (fn:=Tryz.f160) (by kernel_rfl) (c:=_) rfl rfl rfl ?_
    refine Run.seq (Run.region (cx_ok _ _ _) (Reg.op rfl (Ope.boxF rfl rfl ?_)))
    refine Reg.op rfl (Ope.boxF rfl rfl ?_)
    refine Reg.op rfl (Ope.asg rfl ?_)
    refine Reg.nil (Run.seq (Run.draw (cx_ok _ _ _) [(0,true),(1,true),(2,true),(3,true),(4,true),(5,true),(6,true),(7,true),(8,true),(9,true),(10,true),(11,true)] (by kernel_rfl) (Dra.op' rfl rfl rfl .sure (Ope.fld rfl rfl ?_))))
    refine Dra.op' rfl rfl rfl .sure (Ope.fld rfl rfl ?_)
    refine Dra.op' rfl rfl rfl .sure (Ope.fld rfl rfl ?_)
    refine Dra.op' rfl rfl rfl .sure (Ope.load rfl rfl ?_)
    refine Dra.op' rfl rfl rfl .sure (Ope.fld rfl rfl ?_)
    refine Dra.op' rfl rfl rfl .sure (Ope.fld rfl rfl ?_)
    refine Dra.op' rfl rfl rfl .sure (Ope.idxA rfl rfl rfl rfl ?_)
    refine Dra.op' rfl rfl rfl .sure (Ope.load rfl rfl ?_)
    refine Dra.op' rfl rfl rfl .sure (Ope.fld rfl rfl ?_)
    refine Dra.op' rfl rfl rfl .sure (Ope.load rfl rfl ?_)
    refine Dra.op' rfl rfl rfl .sure (Ope.sub rfl rfl (by omega) ?_)
    refine Dra.op' rfl rfl rfl .sure (Ope.asg rfl ?_)
    refine Dra.nil (Run.ret (fin_ret (.tmp rfl .nil) rfl ?_))
    simp [pone, *]
theorem f161 (a b c d a' b' c' d' p q r s:Int) (h0:-100≤b∧b≤100) (hr:-100≤r∧r≤100) :
    Fn P0 161 [.agg [I a,I b,I c,I d,I a',I b',I c',I d'],.agg [I p,I q,I r,I s]] (I (b - r)):=by
  refine PFun.of (C:=c161) (cx_ok _ _ _) rfl (fn:=Tryz.f161) (by kernel_rfl) (c:=_) rfl rfl rfl ?_
  refine Run.seq (Run.region (cx_ok _ _ _) (Reg.op rfl (Ope.boxF rfl rfl ?_)))
  refine Reg.op rfl (Ope.boxF rfl rfl ?_)
  refine Reg.op rfl (Ope.asg rfl ?_)
  refine Reg.nil (Run.seq (Run.region (cx_ok _ _ _) (Reg.op rfl (Ope.fld rfl rfl ?_))))
  refine Reg.op rfl (Ope.fld rfl rfl ?_)
  refine Reg.op rfl (Ope.fld rfl rfl ?_)
  refine Reg.op rfl (Ope.load rfl rfl ?_)
  refine Reg.op rfl (Ope.fld rfl rfl ?_)
  refine Reg.op rfl (Ope.load rfl rfl ?_)
  refine Reg.op rfl (Ope.sub rfl rfl (by omega) ?_)
  refine Reg.op rfl (Ope.asg rfl ?_)
  exact Reg.nil (Run.ret (fin_ret (.tmp rfl .nil) rfl rfl))
theorem f162 (a b c d a' b' c' d' p q r s:Int) (ha:a=0∨a=1) (h0:-100≤c'∧c'≤100) (h1:-100≤d'∧d'≤100) (hb:-100≤b'∧b'≤100) (hs:-100≤s∧s≤100) :
    Fn P0 162 [.agg [I a,I b,I c,I d,I a',I b',I c',I d'],.agg [I p,I q,I r,I s]] (I (if ((decide (0 < c'+d') && !decide (a=a')) && decide (0 < if a=0 then c' else d'))=true then s - b' else 0)):=by
  refine PFun.of (C:=c162) (cx_ok _ _ _) rfl (fn:=Tryz.f162) (by kernel_rfl) (c:=_) rfl rfl rfl ?_
  refine Run.seq (Run.region (cx_ok _ _ _) (Reg.op rfl (Ope.boxF rfl rfl ?_)))
  refine Reg.op rfl (Ope.boxF rfl rfl ?_)
  refine Reg.op rfl (Ope.asg rfl ?_)
  refine Reg.nil (Run.seq (Run.seq (Run.region (cx_ok _ _ _) (Reg.op rfl (Ope.load rfl rfl ?_)))))
  refine Reg.op rfl (Ope.cf rfl rfl (f163 _ _ _ _ _ _ _ _ ha h0 h1) rfl ?_)
  refine Reg.op rfl (Ope.not rfl ?_)
  refine Reg.nil (Run.condX rfl (fun hc=>?_) fun hc=>?_)
  ·refine Run.seq (Run.region (cx_ok _ _ _) (Reg.op rfl (Ope.asg rfl ?_)))
   refine Reg.nil (Run.ret (Jmp.code (fin_ret (.tmp rfl .nil) rfl ?_)))
   simp_all [pone]<;>(intro u1 u2 u3;exact absurd (hc u1 u2) (Int.not_le.2 u3))
  ·refine Run.skip (Run.seq (Run.region (cx_ok _ _ _) (Reg.op rfl (Ope.fld rfl rfl ?_))))
   refine Reg.op rfl (Ope.load rfl rfl ?_)
   refine Reg.op rfl (Ope.fld rfl rfl ?_)
   refine Reg.op rfl (Ope.fld rfl rfl ?_)
   refine Reg.op rfl (Ope.fld rfl rfl ?_)
   refine Reg.op rfl (Ope.load rfl rfl ?_)
   refine Reg.op rfl (Ope.sub rfl rfl (by omega) ?_)
   refine Reg.op rfl (Ope.asg rfl ?_)
   refine Reg.nil (Run.ret (fin_ret (.tmp rfl .nil) rfl ?_))
   simp_all [pone]<;>(intro u1 u2 u3;exact absurd (hc u1 u2) (Int.not_le.2 u3))
end Go.Pv
namespace Go.Pv
open Go.Proofs Go.Am
set_option maxRecDepth 10000
def manyOk (n:Int):Bool:=decide (0≤n) && decide (n≤16)
theorem manyOk_iff {n:Int}:manyOk n=true↔0≤n∧n≤16:=by simp [manyOk]
def limOk (h a b c d:Int):Bool:=decide (0≤a) && decide (a < ((2 ^ h.toNat:Nat):Int)) && (manyOk b && (manyOk c && manyOk d))
def validR (h a0 b0 c0 d0 a1 b1 c1 d1:Int):Bool:=manyOk h && (limOk h a0 b0 c0 d0 && limOk h a1 b1 c1 d1)
theorem f157 (tl:Tail) (xs:List Int) (hl:xs.length≤1000000):Fn P0 157 [.sl tl (xs.map I)] (B (xs.all manyOk)):=by
  refine PFun.of (C:=c157) (cx_ok _ _ _) rfl (fn:=Tryz.f157) (by kernel_rfl) (c:=_) rfl rfl rfl ?_
  refine Run.seq (Run.region (cx_ok _ _ _) (Reg.op rfl (Ope.asg rfl ?_)))
  refine Reg.nil (Run.seq (Run.seq (Run.region (cx_ok _ _ _) (Reg.op rfl (Ope.mov rfl ?_)))))
  first | refine Reg.op rfl (Ope.len rfl (List.length_map _) ?_) | refine Reg.op rfl (Ope.len rfl rfl ?_) | refine Reg.op rfl (Ope.lenL rfl ?_)
  refine Reg.op rfl (Ope.mov rfl ?_)
  refine Reg.nil (Run.block (Run.loop (α:=Nat) (fun i=>[(5,.sl tl (xs.map I)),(6,I xs.length),(7,I i)]) (fun _=>HE 0 []) (fun i=>i≤xs.length∧∀ j (hj:j < xs.length),j < i→manyOk xs[j]=true) (fun i=>xs.length - i) 0 ⟨rfl,rfl,rfl,trivial⟩ rfl ⟨Nat.zero_le _,fun j _ h=>absurd h (Nat.not_lt_zero _)⟩ (fun i hi=>?_)))
  obtain ⟨hi1,hi2⟩:=hi
  refine Run.seq (Run.region (cx_ok _ _ _) (Reg.op rfl (Ope.lt rfl rfl ?_)))
  refine Reg.nil (Run.seq (Run.condX rfl (fun hc=>?_) fun hc=>?_))
  ·refine Run.skip (Run.seq (Run.block (Run.seq (Run.region (cx_ok _ _ _) ?_))))
   first | refine Reg.op rfl (Ope.idxM rfl rfl rfl (by first | assumption | omega) (fun _=>rfl) ?_) | refine Reg.op rfl (Ope.idxL rfl rfl rfl (by first | assumption | omega) ?_)
   refine Reg.op rfl (Ope.load rfl rfl ?_)
   refine Reg.op rfl (Ope.asg rfl ?_)
   refine Reg.nil (Run.seq (Run.region (cx_ok _ _ _) (Reg.op rfl (Ope.mov rfl ?_))))
   refine Reg.op rfl (Ope.lt rfl rfl ?_)
   refine Reg.op rfl (Ope.mov rfl ?_)
   refine Reg.splitX rfl rfl (fun hg=>?_) fun hg=>?_
   ·refine Reg.off rfl rfl rfl (Reg.off rfl rfl rfl (Reg.op rfl (Ope.pickT rfl rfl ?_)))
    refine Reg.nil (Run.condT rfl (Run.seq (Run.region (cx_ok _ _ _) (Reg.op rfl (Ope.asg rfl ?_)))))
    refine Reg.nil (Run.ret (Jmp.retB (Jmp.code (Jmp.round (Jmp.retB (Jmp.code (fin_ret (.tmp rfl .nil) rfl ?_)))))))
    refine congrArg B ?_
    first
      | exact (List.all_eq_false.2 ⟨xs[i],List.getElem_mem _,by simp [manyOk];omega⟩).symm
      | exact (List.all_eq_true.2 fun x hx=>by obtain ⟨j,hj,rfl⟩:=List.getElem_of_mem hx;exact hi2 j hj (by omega)).symm
   ·refine Reg.on rfl rfl rfl (Ope.mov rfl ?_)
    refine Reg.on rfl rfl rfl (Ope.gt rfl rfl ?_)
    refine Reg.op rfl (Ope.pickF rfl rfl ?_)
    refine Reg.nil (Run.condX rfl (fun hc=>?_) fun hc=>?_)
    ·refine Run.seq (Run.region (cx_ok _ _ _) (Reg.op rfl (Ope.asg rfl ?_)))
     refine Reg.nil (Run.ret (Jmp.retB (Jmp.code (Jmp.round (Jmp.retB (Jmp.code (fin_ret (.tmp rfl .nil) rfl ?_)))))))
     refine congrArg B ?_
     first
       | exact (List.all_eq_false.2 ⟨xs[i],List.getElem_mem _,by simp [manyOk];omega⟩).symm
       | exact (List.all_eq_true.2 fun x hx=>by obtain ⟨j,hj,rfl⟩:=List.getElem_of_mem hx;exact hi2 j hj (by omega)).symm
    ·refine Run.skip (Run.bend (Run.region (cx_ok _ _ _) (Reg.op rfl (Ope.add rfl rfl (by omega) ?_))))
     refine Reg.op rfl (Ope.mov rfl ?_)
     refine Reg.nil (Run.lend ⟨i+1,by omega,⟨by omega,fun j hj hlt=>?_⟩,⟨rfl,rfl,rfl,trivial⟩,rfl,rfl⟩)
     rcases Nat.lt_succ_iff_lt_or_eq.1 hlt with h1 | rfl
     · exact hi2 j hj h1
     · simp_all [manyOk]
  ·refine Run.exit (Jmp.code (Jmp.round (Jmp.here (Run.seq (Run.region (cx_ok _ _ _) (Reg.op rfl (Ope.asg rfl ?_)))))))
   refine Reg.nil (Run.ret (fin_ret (.tmp rfl .nil) rfl ?_))
   refine congrArg B ?_
   first
     | exact (List.all_eq_false.2 ⟨xs[i],List.getElem_mem _,by simp [manyOk];omega⟩).symm
     | exact (List.all_eq_true.2 fun x hx=>by obtain ⟨j,hj,rfl⟩:=List.getElem_of_mem hx;exact hi2 j hj (by omega)).symm
theorem f104 (h a0 b0 c0 d0 a1 b1 c1 d1 : Int) : Fn P0 104 [.agg [I h, I a0, I b0, I c0, I d0, I a1, I b1, I c1, I d1]] (B (validR h a0 b0 c0 d0 a1 b1 c1 d1)) := by
  refine PFun.of (C:=c104) (cx_ok _ _ _) rfl (fn:=Tryz.f104) (by kernel_rfl) (c:=_) rfl rfl rfl ?_
  refine Run.seq (Run.region (cx_ok _ _ _) (Reg.op rfl (Ope.boxF rfl rfl ?_)))
  refine Reg.op rfl (Ope.asg rfl ?_)
  refine Reg.nil (Run.seq (Run.seq (Run.region (cx_ok _ _ _) (Reg.op rfl (Ope.fld rfl rfl ?_)))))
  refine Reg.op rfl (Ope.load rfl rfl ?_)
  refine Reg.op rfl (Ope.bsl rfl rfl rfl rfl ?_)
  refine Reg.op rfl (Ope.cf rfl rfl (f157 _ [_] (by simp)) rfl ?_)
  refine Reg.op rfl (Ope.not rfl ?_)
  refine Reg.nil (Run.condX rfl (fun hc=>?_) fun hc=>?_)
  ·refine Run.seq (Run.region (cx_ok _ _ _) (Reg.op rfl (Ope.asg rfl ?_)))
   refine Reg.nil (Run.ret (Jmp.code (fin_ret (.tmp rfl .nil) rfl ?_)))
   refine congrArg B ?_
   first
     | exact (Bool.eq_false_iff.2 fun hv=>by simp only [validR,limOk,Bool.and_eq_true,decide_eq_true_eq,Int.toNat_natCast] at hv;omega).symm
     | exact (Bool.eq_false_iff.2 fun hv=>by simp_all [validR,limOk]).symm
     | exact (show validR m a0 b0 c0 d0 a1 b1 c1 d1=true by simp only [validR,hi2 (by decide),hi3 (by decide),manyOk,Bool.and_true,Bool.and_eq_true,decide_eq_true_eq];omega).symm
  ·refine Run.skip (Run.seq (Run.seq (Run.region (cx_ok _ _ _) (Reg.op rfl (Ope.fld rfl rfl ?_)))))
   refine Reg.op rfl (Ope.load rfl rfl ?_)
   refine Reg.op rfl (Ope.mov rfl ?_)
   refine Reg.nil (Run.block ?_)
   obtain ⟨hh1,hh2⟩:0≤h∧h≤16:=by simpa [manyOk] using hc
   obtain ⟨m,rfl⟩:∃ m:Nat,h=(m:Int):=⟨h.toNat,by omega⟩
   have hpw:2 ^ m≤65536:=Nat.le_trans (Nat.pow_le_pow_right (by decide) (by omega:m≤16)) (by decide)
   refine Run.loop (α:=Nat) (fun i=>[(1,.fp (.agg [I m,I a0,I b0,I c0,I d0,I a1,I b1,I c1,I d1])),(11,.agg [I a0,I b0,I c0,I d0,I a1,I b1,I c1,I d1]),(12,I i)]) (fun i=>HE i []) (fun i=>i≤2∧(1≤i→limOk m a0 b0 c0 d0=true)∧(2≤i→limOk m a1 b1 c1 d1=true)) (fun i=>2 - i) 0 ⟨rfl,rfl,rfl,trivial⟩ rfl ⟨by omega,fun h=>by omega,fun h=>by omega⟩ (fun i hi=>?_)
   obtain ⟨hi1,hi2,hi3⟩:=hi
   rcases (by omega:i=0∨i=1∨i=2) with rfl | rfl | rfl
   ·refine Run.seq (Run.region (cx_ok _ _ _) (Reg.op rfl (Ope.lt rfl rfl ?_)))
    refine Reg.nil (Run.seq (Run.condX rfl (fun hc=>?_) fun hc=>?_))
    ·refine Run.skip (Run.seq (Run.block (Run.seq (Run.region (cx_ok _ _ _) (Reg.op rfl (Ope.idx rfl rfl rfl rfl rfl ?_))))))
     refine Reg.op rfl (Ope.newL rfl ?_)
     refine Reg.op0 (Ope.store rfl rfl rfl rfl rfl rfl ?_)
     refine Reg.nil (Run.seq (Run.draw (cx_ok _ _ _) [(0,true),(1,true),(2,true),(3,true),(4,true),(5,true),(6,true),(7,true),(8,true),(9,true),(10,true),(11,true),(12,true),(13,true),(14,true),(15,true),(16,true),(17,true),(18,true),(19,true),(20,true),(21,true)] (by kernel_rfl) (Dra.op' rfl rfl rfl .sure (Ope.fld rfl rfl ?_))))
     refine Dra.op' rfl rfl rfl .sure (Ope.load rfl rfl ?_)
     refine Dra.op' rfl rfl rfl .sure (Ope.lt rfl rfl ?_)
     refine Dra.op' rfl rfl rfl .sure (Ope.mov rfl ?_)
     refine Dra.splitX rfl rfl rfl rfl (fun hg=>?_) fun hg=>?_
     ·refine Dra.off' rfl rfl rfl (.inl rfl) rfl (Dra.off' rfl rfl rfl (.inl rfl) rfl (Dra.off' rfl rfl rfl (.inl rfl) rfl (Dra.off' rfl rfl rfl (.inl rfl) rfl (Dra.off' rfl rfl rfl (.inl rfl) rfl (Dra.off' rfl rfl rfl (.inl rfl) rfl (Dra.op' rfl rfl rfl .sure (Ope.pickT rfl rfl ?_)))))))
      refine Dra.op' rfl rfl rfl .sure (Ope.mov rfl ?_)
      refine Dra.off' rfl rfl rfl (.inl rfl) rfl (Dra.off' rfl rfl rfl (.inl rfl) rfl (Dra.off' rfl rfl rfl (.inl rfl) rfl (Dra.off' rfl rfl rfl (.inl rfl) rfl (Dra.off' rfl rfl rfl (.inl rfl) rfl (Dra.off' rfl rfl rfl (.inl rfl) rfl (Dra.off' rfl rfl rfl (.inl rfl) rfl (Dra.off' rfl rfl rfl (.inl rfl) rfl (Dra.off' rfl rfl rfl (.inl rfl) rfl (Dra.op' rfl rfl rfl .sure (Ope.pickT rfl rfl ?_))))))))))
      refine Dra.nil (Run.condT rfl (Run.seq (Run.region (cx_ok _ _ _) (Reg.op rfl (Ope.asg rfl ?_)))))
      refine Reg.nil (Run.ret (Jmp.retB (Jmp.code (Jmp.round (Jmp.retB (Jmp.code (fin_ret (.tmp rfl .nil) rfl ?_)))))))
      refine congrArg B ?_
      first
        | exact (Bool.eq_false_iff.2 fun hv=>by simp only [validR,limOk,Bool.and_eq_true,decide_eq_true_eq,Int.toNat_natCast] at hv;omega).symm
        | exact (Bool.eq_false_iff.2 fun hv=>by simp_all [validR,limOk]).symm
        | exact (show validR m a0 b0 c0 d0 a1 b1 c1 d1=true by simp only [validR,hi2 (by decide),hi3 (by decide),manyOk,Bool.and_true,Bool.and_eq_true,decide_eq_true_eq];omega).symm
     ·refine Dra.on' rfl rfl rfl rfl rfl .sure (Ope.fld rfl rfl ?_)
      refine Dra.on' rfl rfl rfl rfl rfl .sure (Ope.load rfl rfl ?_)
      refine Dra.on' rfl rfl rfl rfl rfl .sure (Ope.fld rfl rfl ?_)
      refine Dra.on' rfl rfl rfl rfl rfl .sure (Ope.load rfl rfl ?_)
      refine Dra.on' rfl rfl rfl rfl rfl .sure (Ope.shlN (p:=1) (m:=m) rfl rfl rfl rfl (by omega) (by omega) ?_)
      refine Dra.on' rfl rfl rfl rfl rfl .sure (Ope.ge rfl rfl ?_)
      refine Dra.op' rfl rfl rfl .sure (Ope.pickF rfl rfl ?_)
      refine Dra.op' rfl rfl rfl .sure (Ope.mov rfl ?_)
      refine Dra.splitX rfl rfl rfl rfl (fun hg=>?_) fun hg=>?_
      ·refine Dra.off' rfl rfl rfl (.inl rfl) rfl (Dra.off' rfl rfl rfl (.inl rfl) rfl (Dra.off' rfl rfl rfl (.inl rfl) rfl (Dra.off' rfl rfl rfl (.inl rfl) rfl (Dra.off' rfl rfl rfl (.inl rfl) rfl (Dra.off' rfl rfl rfl (.inl rfl) rfl (Dra.off' rfl rfl rfl (.inl rfl) rfl (Dra.off' rfl rfl rfl (.inl rfl) rfl (Dra.off' rfl rfl rfl (.inl rfl) rfl (Dra.op' rfl rfl rfl .sure (Ope.pickT rfl rfl ?_))))))))))
       refine Dra.nil (Run.condT rfl (Run.seq (Run.region (cx_ok _ _ _) (Reg.op rfl (Ope.asg rfl ?_)))))
       refine Reg.nil (Run.ret (Jmp.retB (Jmp.code (Jmp.round (Jmp.retB (Jmp.code (fin_ret (.tmp rfl .nil) rfl ?_)))))))
       refine congrArg B ?_
       first
         | exact (Bool.eq_false_iff.2 fun hv=>by simp only [validR,limOk,Bool.and_eq_true,decide_eq_true_eq,Int.toNat_natCast] at hv;omega).symm
         | exact (Bool.eq_false_iff.2 fun hv=>by simp_all [validR,limOk]).symm
         | exact (show validR m a0 b0 c0 d0 a1 b1 c1 d1=true by simp only [validR,hi2 (by decide),hi3 (by decide),manyOk,Bool.and_true,Bool.and_eq_true,decide_eq_true_eq];omega).symm
      ·refine Dra.on' rfl rfl rfl rfl rfl .sure (Ope.fld rfl rfl ?_)
       refine Dra.on' rfl rfl rfl rfl rfl .sure (Ope.load rfl rfl ?_)
       refine Dra.on' rfl rfl rfl rfl rfl .sure (Ope.fld rfl rfl ?_)
       refine Dra.on' rfl rfl rfl rfl rfl .sure (Ope.load rfl rfl ?_)
       refine Dra.on' rfl rfl rfl rfl rfl .sure (Ope.fld rfl rfl ?_)
       refine Dra.on' rfl rfl rfl rfl rfl .sure (Ope.load rfl rfl ?_)
       refine Dra.on' rfl rfl rfl rfl rfl .sure (Ope.bsl rfl rfl rfl rfl ?_)
       refine Dra.on' rfl rfl rfl rfl rfl .sure (Ope.cf rfl rfl (f157 _ [_,_,_] (by simp)) rfl ?_)
       refine Dra.on' rfl rfl rfl rfl rfl .sure (Ope.not rfl ?_)
       refine Dra.op' rfl rfl rfl .sure (Ope.pickF rfl rfl ?_)
       refine Dra.nil (Run.condX rfl (fun hc=>?_) fun hc=>?_)
       ·refine Run.seq (Run.region (cx_ok _ _ _) (Reg.op rfl (Ope.asg rfl ?_)))
        refine Reg.nil (Run.ret (Jmp.retB (Jmp.code (Jmp.round (Jmp.retB (Jmp.code (fin_ret (.tmp rfl .nil) rfl ?_)))))))
        refine congrArg B ?_
        first
          | exact (Bool.eq_false_iff.2 fun hv=>by simp only [validR,limOk,Bool.and_eq_true,decide_eq_true_eq,Int.toNat_natCast] at hv;omega).symm
          | exact (Bool.eq_false_iff.2 fun hv=>by simp_all [validR,limOk]).symm
          | exact (show validR m a0 b0 c0 d0 a1 b1 c1 d1=true by simp only [validR,hi2 (by decide),hi3 (by decide),manyOk,Bool.and_true,Bool.and_eq_true,decide_eq_true_eq];omega).symm
       ·refine Run.skip (Run.bend (Run.wide (Nat.le_refl _) Hsub.nil ?_))
        refine Run.region (cx_ok _ _ _) (Reg.op rfl (Ope.add rfl rfl (by omega) ?_))
        refine Reg.op rfl (Ope.mov rfl ?_)
        refine Reg.nil ?_
        first
          | refine Run.lend ⟨1,by decide,⟨by decide,fun _=>?_,fun h=>absurd h (by decide)⟩,⟨rfl,rfl,rfl,trivial⟩,rfl,rfl⟩
          | refine Run.lend ⟨2,by decide,⟨by decide,fun _=>hi2 (by decide),fun _=>?_⟩,⟨rfl,rfl,rfl,trivial⟩,rfl,rfl⟩
        all_goals
          simp only [List.all_cons,List.all_nil,Bool.and_true] at hc
          simp only [limOk,hc,Bool.and_true,Bool.and_eq_true,decide_eq_true_eq,Int.toNat_natCast]
          omega
    ·exfalso;omega
   ·refine Run.seq (Run.region (cx_ok _ _ _) (Reg.op rfl (Ope.lt rfl rfl ?_)))
    refine Reg.nil (Run.seq (Run.condX rfl (fun hc=>?_) fun hc=>?_))
    ·refine Run.skip (Run.seq (Run.block (Run.seq (Run.region (cx_ok _ _ _) (Reg.op rfl (Ope.idx rfl rfl rfl rfl rfl ?_))))))
     refine Reg.op rfl (Ope.newL rfl ?_)
     refine Reg.op0 (Ope.store rfl rfl rfl rfl rfl rfl ?_)
     refine Reg.nil (Run.seq (Run.draw (cx_ok _ _ _) [(0,true),(1,true),(2,true),(3,true),(4,true),(5,true),(6,true),(7,true),(8,true),(9,true),(10,true),(11,true),(12,true),(13,true),(14,true),(15,true),(16,true),(17,true),(18,true),(19,true),(20,true),(21,true)] (by kernel_rfl) (Dra.op' rfl rfl rfl .sure (Ope.fld rfl rfl ?_))))
     refine Dra.op' rfl rfl rfl .sure (Ope.load rfl rfl ?_)
     refine Dra.op' rfl rfl rfl .sure (Ope.lt rfl rfl ?_)
     refine Dra.op' rfl rfl rfl .sure (Ope.mov rfl ?_)
     refine Dra.splitX rfl rfl rfl rfl (fun hg=>?_) fun hg=>?_
     ·refine Dra.off' rfl rfl rfl (.inl rfl) rfl (Dra.off' rfl rfl rfl (.inl rfl) rfl (Dra.off' rfl rfl rfl (.inl rfl) rfl (Dra.off' rfl rfl rfl (.inl rfl) rfl (Dra.off' rfl rfl rfl (.inl rfl) rfl (Dra.off' rfl rfl rfl (.inl rfl) rfl (Dra.op' rfl rfl rfl .sure (Ope.pickT rfl rfl ?_)))))))
      refine Dra.op' rfl rfl rfl .sure (Ope.mov rfl ?_)
      refine Dra.off' rfl rfl rfl (.inl rfl) rfl (Dra.off' rfl rfl rfl (.inl rfl) rfl (Dra.off' rfl rfl rfl (.inl rfl) rfl (Dra.off' rfl rfl rfl (.inl rfl) rfl (Dra.off' rfl rfl rfl (.inl rfl) rfl (Dra.off' rfl rfl rfl (.inl rfl) rfl (Dra.off' rfl rfl rfl (.inl rfl) rfl (Dra.off' rfl rfl rfl (.inl rfl) rfl (Dra.off' rfl rfl rfl (.inl rfl) rfl (Dra.op' rfl rfl rfl .sure (Ope.pickT rfl rfl ?_))))))))))
      refine Dra.nil (Run.condT rfl (Run.seq (Run.region (cx_ok _ _ _) (Reg.op rfl (Ope.asg rfl ?_)))))
      refine Reg.nil (Run.ret (Jmp.retB (Jmp.code (Jmp.round (Jmp.retB (Jmp.code (fin_ret (.tmp rfl .nil) rfl ?_)))))))
      refine congrArg B ?_
      first
        | exact (Bool.eq_false_iff.2 fun hv=>by simp only [validR,limOk,Bool.and_eq_true,decide_eq_true_eq,Int.toNat_natCast] at hv;omega).symm
        | exact (Bool.eq_false_iff.2 fun hv=>by simp_all [validR,limOk]).symm
        | exact (show validR m a0 b0 c0 d0 a1 b1 c1 d1=true by simp only [validR,hi2 (by decide),hi3 (by decide),manyOk,Bool.and_true,Bool.and_eq_true,decide_eq_true_eq];omega).symm
     ·refine Dra.on' rfl rfl rfl rfl rfl .sure (Ope.fld rfl rfl ?_)
      refine Dra.on' rfl rfl rfl rfl rfl .sure (Ope.load rfl rfl ?_)
      refine Dra.on' rfl rfl rfl rfl rfl .sure (Ope.fld rfl rfl ?_)
      refine Dra.on' rfl rfl rfl rfl rfl .sure (Ope.load rfl rfl ?_)
      refine Dra.on' rfl rfl rfl rfl rfl .sure (Ope.shlN (p:=1) (m:=m) rfl rfl rfl rfl (by omega) (by omega) ?_)
      refine Dra.on' rfl rfl rfl rfl rfl .sure (Ope.ge rfl rfl ?_)
      refine Dra.op' rfl rfl rfl .sure (Ope.pickF rfl rfl ?_)
      refine Dra.op' rfl rfl rfl .sure (Ope.mov rfl ?_)
      refine Dra.splitX rfl rfl rfl rfl (fun hg=>?_) fun hg=>?_
      ·refine Dra.off' rfl rfl rfl (.inl rfl) rfl (Dra.off' rfl rfl rfl (.inl rfl) rfl (Dra.off' rfl rfl rfl (.inl rfl) rfl (Dra.off' rfl rfl rfl (.inl rfl) rfl (Dra.off' rfl rfl rfl (.inl rfl) rfl (Dra.off' rfl rfl rfl (.inl rfl) rfl (Dra.off' rfl rfl rfl (.inl rfl) rfl (Dra.off' rfl rfl rfl (.inl rfl) rfl (Dra.off' rfl rfl rfl (.inl rfl) rfl (Dra.op' rfl rfl rfl .sure (Ope.pickT rfl rfl ?_))))))))))
       refine Dra.nil (Run.condT rfl (Run.seq (Run.region (cx_ok _ _ _) (Reg.op rfl (Ope.asg rfl ?_)))))
       refine Reg.nil (Run.ret (Jmp.retB (Jmp.code (Jmp.round (Jmp.retB (Jmp.code (fin_ret (.tmp rfl .nil) rfl ?_)))))))
       refine congrArg B ?_
       first
         | exact (Bool.eq_false_iff.2 fun hv=>by simp only [validR,limOk,Bool.and_eq_true,decide_eq_true_eq,Int.toNat_natCast] at hv;omega).symm
         | exact (Bool.eq_false_iff.2 fun hv=>by simp_all [validR,limOk]).symm
         | exact (show validR m a0 b0 c0 d0 a1 b1 c1 d1=true by simp only [validR,hi2 (by decide),hi3 (by decide),manyOk,Bool.and_true,Bool.and_eq_true,decide_eq_true_eq];omega).symm
      ·refine Dra.on' rfl rfl rfl rfl rfl .sure (Ope.fld rfl rfl ?_)
       refine Dra.on' rfl rfl rfl rfl rfl .sure (Ope.load rfl rfl ?_)
       refine Dra.on' rfl rfl rfl rfl rfl .sure (Ope.fld rfl rfl ?_)
       refine Dra.on' rfl rfl rfl rfl rfl .sure (Ope.load rfl rfl ?_)
       refine Dra.on' rfl rfl rfl rfl rfl .sure (Ope.fld rfl rfl ?_)
       refine Dra.on' rfl rfl rfl rfl rfl .sure (Ope.load rfl rfl ?_)
       refine Dra.on' rfl rfl rfl rfl rfl .sure (Ope.bsl rfl rfl rfl rfl ?_)
       refine Dra.on' rfl rfl rfl rfl rfl .sure (Ope.cf rfl rfl (f157 _ [_,_,_] (by simp)) rfl ?_)
       refine Dra.on' rfl rfl rfl rfl rfl .sure (Ope.not rfl ?_)
       refine Dra.op' rfl rfl rfl .sure (Ope.pickF rfl rfl ?_)
       refine Dra.nil (Run.condX rfl (fun hc=>?_) fun hc=>?_)
       ·refine Run.seq (Run.region (cx_ok _ _ _) (Reg.op rfl (Ope.asg rfl ?_)))
        refine Reg.nil (Run.ret (Jmp.retB (Jmp.code (Jmp.round (Jmp.retB (Jmp.code (fin_ret (.tmp rfl .nil) rfl ?_)))))))
        refine congrArg B ?_
        first
          | exact (Bool.eq_false_iff.2 fun hv=>by simp only [validR,limOk,Bool.and_eq_true,decide_eq_true_eq,Int.toNat_natCast] at hv;omega).symm
          | exact (Bool.eq_false_iff.2 fun hv=>by simp_all [validR,limOk]).symm
          | exact (show validR m a0 b0 c0 d0 a1 b1 c1 d1=true by simp only [validR,hi2 (by decide),hi3 (by decide),manyOk,Bool.and_true,Bool.and_eq_true,decide_eq_true_eq];omega).symm
       ·refine Run.skip (Run.bend (Run.wide (Nat.le_refl _) Hsub.nil ?_))
        refine Run.region (cx_ok _ _ _) (Reg.op rfl (Ope.add rfl rfl (by omega) ?_))
        refine Reg.op rfl (Ope.mov rfl ?_)
        refine Reg.nil ?_
        first
          | refine Run.lend ⟨1,by decide,⟨by decide,fun _=>?_,fun h=>absurd h (by decide)⟩,⟨rfl,rfl,rfl,trivial⟩,rfl,rfl⟩
          | refine Run.lend ⟨2,by decide,⟨by decide,fun _=>hi2 (by decide),fun _=>?_⟩,⟨rfl,rfl,rfl,trivial⟩,rfl,rfl⟩
        all_goals
          simp only [List.all_cons,List.all_nil,Bool.and_true] at hc
          simp only [limOk,hc,Bool.and_true,Bool.and_eq_true,decide_eq_true_eq,Int.toNat_natCast]
          omega
    ·exfalso;omega
   ·refine Run.seq (Run.region (cx_ok _ _ _) (Reg.op rfl (Ope.lt rfl rfl ?_)))
    refine Reg.nil (Run.seq (Run.condX rfl (fun hc=>?_) fun hc=>?_))
    ·exfalso;omega
    ·refine Run.exit (Jmp.code (Jmp.round (Jmp.here (Run.seq (Run.region (cx_ok _ _ _) (Reg.op rfl (Ope.asg rfl ?_)))))))
     refine Reg.nil (Run.ret (fin_ret (.tmp rfl .nil) rfl ?_))
     refine congrArg B ?_
     first
       | exact (Bool.eq_false_iff.2 fun hv=>by simp only [validR,limOk,Bool.and_eq_true,decide_eq_true_eq,Int.toNat_natCast] at hv;omega).symm
       | exact (Bool.eq_false_iff.2 fun hv=>by simp_all [validR,limOk]).symm
       | exact (show validR m a0 b0 c0 d0 a1 b1 c1 d1=true by simp only [validR,hi2 (by decide),hi3 (by decide),manyOk,Bool.and_true,Bool.and_eq_true,decide_eq_true_eq];omega).symm
end Go.Pv
