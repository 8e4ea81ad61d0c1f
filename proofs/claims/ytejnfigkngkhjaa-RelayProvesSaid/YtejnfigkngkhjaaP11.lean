/- Parts of the proof: Pv37, Pv38, Pv39, Pv40, Pv41, Pv48 -/
import Derived.Test.YtejnfigkngkhjaaP10
set_option linter.unusedVariables false
set_option linter.unusedSimpArgs false
set_option linter.unusedSectionVars false
namespace Go.Pv
open Go.Am Go.RowKit
theorem PGh.wide {n:Nat} {h h':PH} {v:PV} (hn:h.next≤h'.next) (hs:∀ i b,h'.get i=some b→h.get i=some b):PGh n h v h' v:=by
 intro w0 s0 s x _ hw hx hh hv
 subst hh
 exact ⟨s.wide h',rfl,hw.wide hn hs,hx.trans (Ext.wide hn),rfl,(R2.ext (Ext.wide hn) v).1 _ hv⟩
def FinH (C:Cx) (fn:Func) (n:Nat) (R:PV→PH→Prop):EQ:=fun x e ds h =>
 match x with
 |.normal=>Undo ds h∧∃ vs,presults C.A (unds ds h) (lget e) fn.results.toList=some vs∧PCut n (pone vs) (unds ds h) R
 |.jump .ret=>Undo ds h∧∃ vs,presults C.A (unds ds h) (lget e) fn.results.toList=some vs∧PCut n (pone vs) (unds ds h) R
 |_=>False
def FinHX (n:Nat) (X:PV→PH→Prop):EX:=fun ds v h=>Undo ds h∧PCut n v (unds ds h) X
section
variable {C:Cx} {F:EQ} {X:EX} {k:List KI} {e:EL} {ds:List Nat} {h:PH} {n m:Nat} {l l':HL}
theorem PCall.ofH (hC:C.Ok) (hr:C.rnd=none) {fn:Func} (hf:C.A.funcs.get C.fi=some fn) {c:Code} (hc:fn.body=some c) (hs:C.sz=fn.ntmps) {args:List PV} (hle:Nat.ble args.length fn.ntmps=true) {R Y:PV→PH→Prop}
  (hrun:(HE n l).Ok→Run C (FinH C fn n R) (FinHX n Y) [.c c] (argE args 0) [] (HE n l)):PCall C.P C.fi args (HE n l) R Y:=by
 refine PCall.intro hC.A hf hc hle fun hok=>?_
 have h1:=(hrun hok).wp (t:=T.ofList args 0 .nil) fun i v hi=>by
  rw [argE_get] at hi
  rw [T.get_ofList]
  simp only [Nat.zero_le,if_true,Nat.sub_zero] at hi
  have:=(List.getElem?_eq_some_iff.1 hi).1
  rw [if_pos (by omega),Nat.sub_zero]
  exact hi
 rw [Cx.wp,hs,hr] at h1
 refine PWP.mono h1 ?_ ?_
 ·intro x t ds h ⟨e,he,hf⟩
  have key:(Undo ds h∧∃ vs,presults C.A (unds ds h) (lget e) fn.results.toList=some vs∧PCut n (pone vs) (unds ds h) R)→PRet C.A fn n R t ds h:=by
   rintro ⟨q1,vs,q2,q3⟩
   refine ⟨q1,?_⟩
   rw [presults_sub he q2]
   exact q3
  cases x with
  |normal=>exact key hf
  |jump j=>cases j<;>first | exact hf.elim | exact key hf
 ·intro t ds v h hx
  exact hx
theorem finH_ret {fn:Func} {R:PV→PH→Prop} {vs:List PV} (hv:Res C.A e l fn.results.toList vs) {m':Nat} (hn:m≤m') (hs:∀ i b,hget l' i=some b→hget l i=some b) (hR:R (pone vs) (HE m' l')):Jmp C (FinH C fn n R) X [] .ret e [] (HE m l) :=
 Jmp.done ⟨trivial,vs,hv.get,HE m' l',pone vs,PGh.wide hn hs,hR⟩
theorem finH_end {fn:Func} {R:PV→PH→Prop} {vs:List PV} (hv:Res C.A e l fn.results.toList vs) {m':Nat} (hn:m≤m') (hs:∀ i b,hget l' i=some b→hget l i=some b) (hR:R (pone vs) (HE m' l')):Run C (FinH C fn n R) X [] e [] (HE m l) :=
 Run.done ⟨trivial,vs,hv.get,HE m' l',pone vs,PGh.wide hn hs,hR⟩
end
theorem Cx.Ok.rnd {C:Cx} (h:C.Ok) {r:Option Nat}:({ C with rnd:=r }:Cx).Ok:=⟨h.A,h.E,h.f⟩
theorem hs_skip {l l':HL} (h:∀ i b,hget l' i=some b→hget l i=some b) {n:Nat} {x:Option PBlk} (hn:hget l' n=none):∀ i b,hget l' i=some b→hget ((n,x)::l) i=some b:=by
 intro i b hi
 by_cases h1:i=n
 ·subst h1
  rw [hn] at hi
  cases hi
 ·rw [hget_tl h1]
  exact h i b hi
theorem hs_refl {l:HL}:∀ i b,hget l i=some b→hget l i=some b:=fun _ _ h=>h
theorem bds_map {α:Type} {f:α→PV} (hf:∀ a,(f a).bd 0=true):∀ xs:List α,PV.bds 0 (xs.map f)=true
 |[]=>rfl
 |x::xs=>by simp only [List.map_cons,PV.bds,hf,bds_map hf xs,Bool.and_self]
theorem bd_sl {α:Type} {f:α→PV} {tl:Tail} (htl:tl.isOwn=false) (hf:∀ a,(f a).bd 0=true) (xs:List α):(PV.sl tl (xs.map f)).bd 0=true:=by
 cases tl<;>simp only [Tail.isOwn,Bool.true_eq_false] at htl<;>simp [PV.bd,bds_map hf]
end Go.Pv
namespace Go.Pv
open Go.Am Go.RowKit
theorem PTail.less {A:AP} {P:Program} {g:FuncId} {fn:Func} {n:Nat} {R X:PV→PH→Prop} {c:Code} {t t':T PV} {h:PH} (hp:PTail A P g fn n R X c t' h) (ht:∀ i v,t'.get i=some v→t.get i=some v):PTail A P g fn n R X c t h :=
 fun w0 s0 s arr cs h1 h2 h3 h4 h5 h6=>hp w0 s0 s arr cs h1 h2 h3 h4 (fun i v hi=>h5 i v (ht i v hi)) h6
def Til (C:Cx) (fn:Func) (n:Nat) (R X:PV→PH→Prop) (c:Code) (e:EL) (h:PH):Prop:=PTail C.A C.P C.fi fn n R X c (TE e) h
section
variable {C:Cx} {fn:Func} {n:Nat} {R X:PV→PH→Prop} {e:EL} {h:PH}
theorem PCall.ofT (hC:C.Ok) (hf:C.A.funcs.get C.fi=some fn) {c:Code} (hc:fn.body=some c) {args:List PV} (hle:Nat.ble args.length fn.ntmps=true) (hp:Til C fn h.next R X c (argE args 0) h):PCall C.P C.fi args h R X:=by
 refine PCall.introT hC.A hf hc hle fun _=>PTail.less hp fun i v hi=>?_
 rw [TE_get,argE_get] at hi
 rw [T.get_ofList]
 simp only [Nat.zero_le,if_true,Nat.sub_zero] at hi
 have:=(List.getElem?_eq_some_iff.1 hi).1
 rw [if_pos (by omega),Nat.sub_zero]
 exact hi
theorem Til.seq (hs:C.sz=fn.ntmps) (hr:C.rnd=none) {x y:Code} (hx:Run C (fun q e ds h=>q=.normal∧ds=[]∧Til C fn n R X y e h) (fun _ _ _=>False) [.c x] e [] h):Til C fn n R X (.seq x y) e h:=by
 have h1:=hx.wp (t:=TE e) (Sub.refl e)
 rw [Cx.wp,hs,hr] at h1
 refine PTail.seq (PWP.mono h1 ?_ fun _ _ _ _ h=>h)
 rintro q t ds h' ⟨e',hsub,rfl,rfl,ht⟩
 exact ⟨rfl,PTail.less ht fun i v hi=>by rw [TE_get] at hi;exact hsub i v hi⟩
def ResE (C:Cx) (fn:Func) (n:Nat) (R:PV→PH→Prop) (e:EL) (h:PH):Prop:=∃ vs,presults C.A h (lget e) fn.results.toList=some vs∧PCut n (pone vs) h R
theorem ResE.res {t:T PV} (hs:Sub e t) (hr:ResE C fn n R e h):PRes C.A fn n R t h:=by
 obtain ⟨vs,h1,h2⟩:=hr
 unfold PRes
 rw [presults_sub hs h1]
 exact h2
theorem PDefer.mono {A:AP} {P:Program} {gd:FuncId} {caps:List PV} {rec:PV} {K K':PH→Prop} (hd:PDefer A P gd caps rec h K) (hK:∀ h,K h→K' h):PDefer A P gd caps rec h K':=by
 obtain ⟨fd,id,o,dr,z,h1,h2,h3,h4,h5,h6,h7,h8,h9⟩:=hd
 refine ⟨fd,id,o,dr,z,h1,h2,h3,h4,h5,h6,h7,h8,PWP.mono h9 ?_ fun _ _ _ _ h=>h⟩
 intro x t ds h' hx
 cases x with
 |normal=>exact ⟨hx.1,hK _ hx.2⟩
 |jump j=>cases j<;>first | exact hx.elim | exact ⟨hx.1,hK _ hx.2⟩
def FinD (K:PH→Prop):EQ:=fun x _ ds h=>(x=.normal∨x=.jump .ret)∧Undo ds h∧K (unds ds h)
theorem PDefer.of {fd:Func} {id:Nat} {o:Oper} {dr:Nat} {z:Code} {caps:List PV} {rec:PV} {K:PH→Prop} {cl:Call} (hf:C.A.funcs.get C.fi=some fd) (hb:fd.body=some (.seq (.region id #[o] false) z)) (hd:o.dst=some dr) (hg:o.guard=none) (ho:o.op=.call cl)
  (hcl:cl.callee=.builtin .recover) (hr:fd.results=#[]) (hle:Nat.ble caps.length fd.ntmps=true) (hlt:Nat.blt dr fd.ntmps=true) (hs:C.sz=fd.ntmps) (hrn:C.rnd=none)
  (hz:Run C (FinD K) (fun _ _ _=>False) [.c z] ((dr,rec)::argE caps 0) [] h):PDefer C.A C.P C.fi caps rec h K:=by
 refine ⟨fd,id,o,dr,z,hf,hb,hd,hg,⟨cl,ho,hcl⟩,hr,by rw [Nat.ble_eq] at hle;exact hle,(T.blt_iff _ _).1 hlt,?_⟩
 have h1:=hz.wp (t:=(T.ofList caps 0 .nil).set dr rec) fun i v hi=>by
  simp only [lget] at hi
  rw [T.get_set]
  split at hi
  ·next hb=>rw [if_pos (Nat.eq_of_beq_eq_true hb)];exact hi
  ·next hb =>
   rw [if_neg (fun c=>by subst c;simp at hb)]
   rw [argE_get] at hi
   rw [T.get_ofList]
   simp only [Nat.zero_le,if_true,Nat.sub_zero] at hi
   have:=(List.getElem?_eq_some_iff.1 hi).1
   rw [if_pos (by omega),Nat.sub_zero]
   exact hi
 rw [Cx.wp,hs,hrn] at h1
 refine PWP.mono h1 ?_ fun _ _ _ _ h=>h
 rintro x t ds h' ⟨e',_,hx,h2,h3⟩
 rcases hx with rfl | rfl
 ·exact ⟨h2,h3⟩
 ·exact ⟨h2,h3⟩
theorem preg_mono {A:AP} {P:Program} {E:Eqs} {M:Nat→Bool} {sz:Nat} {all:List Oper} {K K':T PV→PH→Prop} {X X':PV→PH→Prop} (hK:∀ t h,K t h→K' t h) (hX:∀ v h,X v h→X' v h):∀ (os:List Oper) (t:T PV) (h:PH),preg A E P M sz all os t h K X→preg A E P M sz all os t h K' X'
 |[],t,h,hp=>hK t h hp
 |o :: os, t, h, hp => by
  have op:pop A E P M t.get h o (fun v h'=>preg A E P M sz all os (tput t o.dst v) h' K X) X→pop A E P M t.get h o (fun v h'=>preg A E P M sz all os (tput t o.dst v) h' K' X') X' :=
   fun hq=>pop_mono hq (fun v h' hv=>preg_mono hK hX os _ _ hv) hX
  have sk:preg A E P M sz all os (tput t o.dst (.tup [])) h K X→preg A E P M sz all os (tput t o.dst (.tup [])) h K' X':=preg_mono hK hX os _ _
  simp only [preg] at hp ⊢
  split at hp
  ·exact hp
  ·split at hp
   ·exact op hp
   ·split at hp
    ·exact hp
    ·split at hp
     ·exact hp
     ·split at hp
      ·split at hp
       ·exact hp.mono op sk
       ·exact hp.mono sk op
      ·exact sk hp
      ·exact hp
theorem tless_keep {i:Nat}:∀ (os:List Oper) (t:T PV),os.all (fun o=>match o.dst with | some d=>!Nat.beq d i | none=>true)=true→(tless t os).get i=t.get i
 |[],_,_=>rfl
 |o::os,t,h=>by
  simp only [List.all_cons,Bool.and_eq_true] at h
  simp only [tless]
  cases hd:o.dst with
  |none=>exact tless_keep os t h.2
  |some d =>
   have h1:=h.1
   rw [hd] at h1
   simp only [Bool.not_eq_true'] at h1
   have hne:i≠d:=fun e=>by subst e;simp at h1
   simp only []
   rw [tless_keep os (t.del d) h.2,T.get_del,if_neg hne]
theorem Til.defer (hC:C.Ok) (hs:C.sz=fn.ntmps) (hr:C.rnd=none) (hf:C.A.funcs.get C.fi=some fn) {id id2:Nat} {mk df:Oper} {ops:Array Oper} {c:Call} {f:Operand} {gd dm:Nat} {caps:List PV} (e0:EL)
  (hmd:mk.dst=some dm) (hml:Nat.blt dm fn.ntmps=true) (hmg:mk.guard=none) (hdg:df.guard=none) (hdd:df.dst=none) (hop:df.op=.defer c) (hcal:c.callee=.value f) (hargs:c.args=#[])
  (hmk:Ope C (fun _ _ _=>False) mk e [] h fun v h'=>h'=h∧v=.fn (.func gd) [] caps) (hfv:pev (lget ((dm,.fn (.func gd) [] caps)::e)) f=some (.fn (.func gd) [] caps))
  (he0:e0.all (fun p=>ops.toList.all (fun o=>match o.dst with | some d=>!Nat.beq d p.1 | none=>true))=true) (he1:Lsub e0 ((dm,.fn (.func gd) [] caps)::e))
  (hreg:Reg C (fun q e ds h=>q=.normal∧Undo ds h∧PDefer C.A C.P gd caps (.lit .nilifc) (unds ds h) (ResE C fn n R e)) (fun ds v h=>Undo ds h∧PDefer C.A C.P gd caps v (unds ds h) (ResE C fn n R e0)) [] ops.toList ops.toList ((dm,.fn (.func gd) [] caps)::e) [] h) :
  Til C fn n R X (.seq (.region id #[mk,df] false) (.seq (.region id2 ops false) .ret)) e h:=by
 have hget:(tput (TE e) mk.dst (.fn (.func gd) [] caps)).get=lget ((dm,.fn (.func gd) [] caps)::e):=by
  rw [hmd]
  exact put_get (TE_getf e) dm _
 refine PTail.defer (M:=C.M) (gd:=gd) (caps:=caps) (f:=f) hC.A hC.E hf (by rw [hmd];exact hml) hmg hdg hdd hop hcal hargs ?_ (by rw [hget];exact hfv) ?_
 ·unfold Ope at hmk
  rw [TE_getf]
  exact hmk
 ·refine PWP.seq (PWP.region (M:=C.M) hC.A hC.E ?_)
  unfold Reg at hreg
  have h1:=hreg _ hget
  rw [hs] at h1
  refine preg_mono ?_ ?_ _ _ _ h1
  ·rintro t' h' ⟨e',hsub,_,hu,hd⟩
   exact PWP.jump (j:=.ret) trivial ⟨hu,hd.mono fun _ hres=>hres.res hsub⟩
  ·rintro v h' ⟨hu,hd⟩
   refine ⟨hu,hd.mono fun _ hres=>hres.res fun i u hi=>?_⟩
   have hmem:∃ p∈e0,p.1=i:=by
    clear he0 he1 hres hd hu hreg h1
    induction e0 with
    |nil=>cases hi
    |cons p l ih =>
     obtain ⟨j,w⟩:=p
     simp only [lget] at hi
     split at hi
     ·next hb=>exact ⟨(j,w),by simp,(Nat.eq_of_beq_eq_true hb).symm⟩
     ·obtain ⟨p,h1,h2⟩:=ih hi
      exact ⟨p,List.mem_cons_of_mem _ h1,h2⟩
   obtain ⟨p,hp,rfl⟩:=hmem
   rw [tless_keep _ _ (List.all_eq_true.1 he0 p hp),hget]
   exact he1.get hi
theorem ResE.ofF {R:PV→Prop} {vs:List PV} {m:Nat} {l:HL} (hv:Res C.A e l fn.results.toList vs) (hb:(pone vs).bd 0=true) (hR:R (pone vs)):ResE C fn 0 (fun v h=>h=.nil∧R v) e (HE m l) :=
 ⟨vs,hv.get,_,_,PGh.cut hb (by rw [PH.cut_zero];exact PH.nil_ok),by rw [PH.cut_zero],hR⟩
end
end Go.Pv
namespace Go.Pv
open Go.Am Go.RowKit
section
variable {C:Cx} {F:EQ} {X:EX} {k:List KI} {e:EL} {ds:List Nat} {h:PH} {K:PV→PH→Prop} {n:Nat} {l:HL}
variable {d:Option Tmp} {type:TypeId} {pos:String} {after:Array Edge} {guard:Option (Nat×Bool)}
end
end Go.Pv
namespace Go.Pv
open Go.Am Go.RowKit
def markK (M:Nat→Bool) (an:T Nat) (all:List Oper):List Nat→List (Nat×Bool)→List (Nat×Bool×Bool)
 |_,[]=>[]
 |fs,(i,b)::r=>(i,b,loudI M all i && !(fs.all fun j=>(anc an i).testBit j))::markK M an all (match b with
  |true=>fs
  |false=>i::fs) r
def drwS (M:Nat→Bool) (ops:List Oper):Option (List (Nat×Bool×Bool)) :=
 match pstat M ops with
 |none=>none
 |some an=>match ordOk M an ops 0 0 (asap M an ops ops.length 0) with
  |true=>match flagK M an ops (asap M an ops ops.length 0) with
   |some fl=>some (markK M an ops [] fl)
   |none=>none
  |false=>none
def StabS (A:AP) (E:Eqs) (S:PH→Prop) (t:Nat→Option PV) (o:Oper):Prop:=∀ h h',S h→S h'→pquiet A E (pev t) h o.op=pquiet A E (pev t) h' o.op
def pdraS (A:AP) (E:Eqs) (P:Program) (M:Nat→Bool) (sz:Nat) (S:PH→Prop) (all:List Oper):List (Nat×Bool×Bool)→T PV→PH→(T PV→PH→Prop)→(PV→PH→Prop)→Prop
 |[],t,h,K,_=>K t h
 |p::rest,t,h,K,X=>match nthK all p.1 with
  |none=>False
  |some o=>match dstIn sz o.dst,gst all t o with
   |true,some g=>PIf g ((p.2.1=false→S h∧StabS A E S t.get o)∧pop A E P M t.get h o (fun v h'=>(p.2.2=true→S h')∧pdraS A E P M sz S all rest (tput t o.dst v) h' K X) X) (pdraS A E P M sz S all rest (tput t o.dst (.tup [])) h K X)
   |_,_=>False
section
variable {A:AP} {P:Program} {E:Eqs} {M:Nat→Bool}
theorem draS_drawF {sz : Nat} {an : T Nat} {all : List Oper} {ord0 : List Nat} {S : PH → Prop} (hO : Ord M an all ord0) (hS : PStat M all an) {fl0 : List (Nat × Bool)} (hfl : flagK M an all ord0 = some fl0) {K : T PV → PH → Prop} {X : PV → PH → Prop} :
  ∀ (fl pre:List (Nat×Bool)) (fs:List Nat) (rds:List (Nat×Oper×PV)) (t:T PV) (h:PH),fl0=pre++fl→(∀ j,(j,false)∈pre→j∈fs) →
  (∀ r∈rds,all[r.1]?=some r.2.1∧readsP r.2.1.op=true∧∃ b,(r.1,b)∈pre∧(loudP M r.2.1=false→b=false→∀ h',S h'→pquiet A E (pev t.get) h' r.2.1.op=some r.2.2)) →
  pdraS A E P M sz S all (markK M an all fs fl) t h K X→pdrawF A E P M sz an all (fl.map (·.1)) rds t h K X
 |[],pre,fs,rds,t,h,_,_,_,hp=>by simpa [markK,pdraS,pdrawF] using hp
 |(i, b) :: rest, pre, fs, rds, t, h, hs, hfs, hr, hp => by
  obtain ⟨hm,hsp⟩:=flagK_spec ord0 fl0 hfl
  simp only [markK,pdraS] at hp
  simp only [List.map_cons,pdrawF]
  rw [nthK_eq] at hp
  split at hp
  ·exact hp.elim
  next o ho =>
  simp only [ho]
  split at hp
  case h_2=>exact hp.elim
  next g hd hg =>
  simp only [hd,hg]
  have hord:ord0=pre.map (·.1)++i::rest.map (·.1):=by rw [← hm,hs];simp
  have hs':fl0=(pre++[(i,b)])++rest:=by rw [hs];simp
  have hfs':∀ j,(j,false)∈pre++[(i,b)]→j∈(match b with
    |true=>fs
    |false=>i::fs):=by
   intro j hj
   rcases List.mem_append.1 hj with hj1 | hj
   ·cases b with
    |false=>exact List.mem_cons_of_mem _ (hfs j hj1)
    |true=>exact hfs j hj1
   ·simp only [List.mem_singleton,Prod.mk.injEq] at hj
    obtain ⟨rfl,rfl⟩:=hj
    exact List.mem_cons_self ..
  have keep:∀ v,∀ r∈rds,all[r.1]?=some r.2.1∧readsP r.2.1.op=true∧∃ b',(r.1,b')∈pre++[(i,b)]∧(loudP M r.2.1=false→b'=false→∀ h',S h'→pquiet A E (pev (tput t o.dst v).get) h' r.2.1.op=some r.2.2):=by
   intro v r hrr
   obtain ⟨q1,q0,b',q2,q3⟩:=hr r hrr
   refine ⟨q1,q0,b',by simp [q2],fun hlr hb h' hS'=>?_⟩
   have hj:r.1∈pre.map (·.1):=List.mem_map.2 ⟨_,q2,rfl⟩
   have hlk:looksI M all r.1=true:=by
    obtain ⟨a,c,e⟩:=List.append_of_mem q2
    exact (hsp a r.1 b' (c++(i,b)::rest) (by rw [hs,e];simp)).2 hb
   have hlk2:∀ x∈looks all r.2.1,M (x+1000000)=false:=by
    unfold looksI at hlk
    rw [nthK_eq,q1] at hlk
    intro x hx
    have:=List.all_eq_true.1 hlk x hx
    simpa using this
   have hsame:∀ x∈looks all r.2.1,(tput t o.dst v).get x=t.get x:=fun x hx=>tput_ne fun hdx=>by
    rcases hS.look r.1 i r.2.1 o x q1 ho hdx hx with h1 | ⟨h1,_⟩
    ·rw [hO.before hS hord hj] at h1
     cases h1
    ·rw [hlk2 x hx] at h1
     cases h1
   rw [pquiet_congr (pev_eq (all:=all) hsame)]
   exact q3 hlr hb h' hS'
  have skip:pdraS A E P M sz S all (markK M an all (match b with
    |true=>fs
    |false=>i::fs) rest) (tput t o.dst (.tup [])) h K X→pdrawF A E P M sz an all (rest.map (·.1)) rds (tput t o.dst (.tup [])) h K X:=fun hv =>
   draS_drawF hO hS hfl rest (pre++[(i,b)]) _ rds _ h hs' hfs' (keep _) hv
  have hlook:∀ x∈looks all o,o.dst≠some x:=fun x hx hdx=>by
   have hat:=hO.at_ _ i _ hord
   have:(anc an i).testBit i=true:=(hS.look i i o o x ho ho hdx hx).elim id fun h=>h.2
   exact absurd (hat.2.2.1 i this) hat.2.1
  have next : ∀ (v : PV) (h' : PH), (loudP M o = false → readsP o.op = true → b = false → ∀ h2, S h2 → pquiet A E (pev t.get) h2 o.op = some v) → ((loudI M all i && !(fs.all fun j => (anc an i).testBit j)) = true → S h') → pdraS A E P M sz S all (markK M an all (match b with
    |true=>fs
    |false=>i::fs) rest) (tput t o.dst v) h' K X →
    stillP A E M an i o t h' rds∧pdrawF A E P M sz an all (rest.map (·.1)) (addRd i o v rds) (tput t o.dst v) h' K X:=by
   intro v h' hval hSh hv
   refine ⟨?_,draS_drawF hO hS hfl rest (pre++[(i,b)]) _ _ _ h' hs' hfs' ?_ hv⟩
   ·unfold stillP
    split
    ·next hl =>
     have st : ∀ (q : List (Nat × Oper × PV)), (∀ r ∈ q, r ∈ rds) → still A E an i t h' q := by
      intro q
      induction q with
      |nil=>intro _;trivial
      |cons a q ih =>
       intro hq
       refine ⟨?_,ih fun r hrr=>hq r (List.mem_cons_of_mem _ hrr)⟩
       obtain ⟨q1,q0,b',q2,q3⟩:=hr a (hq a (by simp))
       have hpre:a.1∈pre.map (·.1):=List.mem_map.2 ⟨_,q2,rfl⟩
       cases hla:loudP M a.2.1 with
       |true =>
        have:=(hO.at_ _ i _ hord).2.2.2 a.1 hpre (by simp only [loudAt,q1,hla])
        simp only [this]
       |false =>
        cases b' with
        |false =>
         cases hab:(anc an i).testBit a.1 with
         |true=>trivial
         |false =>
          refine q3 hla rfl h' (hSh ?_)
          have h1:loudI M all i=true:=by
           unfold loudI
           rw [nthK_eq,ho]
           exact hl
          rw [h1,Bool.true_and,Bool.not_eq_true']
          refine Bool.eq_false_iff.2 fun hall=>?_
          have:=List.all_eq_true.1 hall a.1 (hfs a.1 q2)
          rw [hab] at this
          cases this
        |true =>
         obtain ⟨a1,c1,e1⟩:=List.append_of_mem q2
         have:=(hsp a1 a.1 true (c1++(i,b)::rest) (by rw [hs,e1];simp)).1 rfl (by unfold readI;rw [nthK_eq,q1];exact q0) i (by simp) (by
          unfold loudI
          rw [nthK_eq,ho]
          exact hl)
         simp only [this]
     exact st rds fun _ h=>h
    ·trivial
   ·intro r hrr
    unfold addRd at hrr
    cases hrd:readsP o.op with
    |true =>
     rw [hrd] at hrr
     rcases List.mem_cons.1 hrr with rfl | hrr
     ·refine ⟨ho,hrd,b,by simp,fun hlo hb h2 hS2=>?_⟩
      rw [pquiet_congr (ρ':=pev t.get) (pev_eq (all:=all) fun x hx=>tput_ne (hlook x hx))]
      exact hval hlo hrd hb h2 hS2
     ·exact keep v r hrr
    |false =>
     rw [hrd] at hrr
     exact keep v r hrr
  refine hp.mono (fun ⟨hst,hq⟩=>?_) skip
  cases hlo:loudP M o with
  |true=>exact pop_mono hq (fun v h' hv=>next v h' (fun hc=>by rw [hlo] at hc;cases hc) hv.1 hv.2) fun _ _ hx=>hx
  |false =>
   obtain ⟨v,v1,v2⟩:=pop_pure hlo hq
   refine pop_of_pure v1 (next v h (fun _ hrd hb h2 hS2=>?_) v2.1 v2.2)
   rw [(hst hb).2 h2 h hS2 (hst hb).1]
   rw [← ppure_reads hrd v1]
   exact v1
end
section
variable {C:Cx} {F:EQ} {X:EX} {k:List KI} {e:EL} {ds:List Nat} {h:PH} {n:Nat} {l:List (Nat×Option PBlk)} {S:PH→Prop}
@[irreducible] def DraS (C:Cx) (F:EQ) (X:EX) (k:List KI) (S:PH→Prop) (all:List Oper) (os:List (Nat×Bool×Bool)) (e:EL) (ds:List Nat) (h:PH):Prop :=
 ∀ t:T PV,t.get=lget e→pdraS C.A C.E C.P C.M C.sz S all os t h (fun t h=>toQ (Ks C F X k) .normal t ds h) (X ds)
theorem Run.drawS (hC:C.Ok) {id:Nat} {ops:Array Oper} (S:PH→Prop) (ord:List (Nat×Bool×Bool)) (hd:drwS C.M ops.toList=some ord) (hr:DraS C F X k S ops.toList ord e ds h):Run C F X (.c (.region id ops true)::k) e ds h:=by
 unfold DraS at hr
 refine Run.intro (PWP.draw (M:=C.M) hC.A hC.E hC.f ?_)
 unfold drwS at hd
 split at hd
 ·cases hd
 next an hst =>
 split at hd
 case h_2=>cases hd
 next hok =>
 split at hd
 case h_2=>cases hd
 next fl hfl =>
 cases hd
 unfold pdraw
 simp only [hst,hok]
 have:=draS_drawF (ord_of hok) (pstat_ok hst) hfl fl [] [] [] (TE e) h rfl (fun j hj=>by cases hj) (fun r hr=>by cases hr) (hr (TE e) (TE_getf e))
 rwa [(flagK_spec _ _ hfl).1] at this
variable {all:List Oper} {os:List (Nat×Bool×Bool)}
theorem DraS.nil (hk:Run C F X k e ds h):DraS C F X k S all [] e ds h:=by
 unfold DraS
 exact fun t ht=>hk.toQ fun i v hi=>by rw [ht];exact hi
variable {i d:Nat} {b:Bool} {op:Op} {type:TypeId} {pos:String} {after:Array Edge}
theorem pdraS_put {d:Option Nat} {v:PV} (hr:match d with
  |some d=>DraS C F X k S all os ((d,v)::e) ds h
  |none=>DraS C F X k S all os e ds h) {t:T PV} (ht:t.get=lget e):pdraS C.A C.E C.P C.M C.sz S all os (tput t d v) h (fun t h=>toQ (Ks C F X k) .normal t ds h) (X ds):=by
 cases d with
 |none =>
  simp only at hr
  unfold DraS at hr
  exact hr t ht
 |some d =>
  simp only at hr
  unfold DraS at hr
  exact hr _ (put_get ht d v)
theorem DraS.opQ {o:Oper} (hi:nthK all i=some o) (hg:o.guard=none) (hd:dstIn C.sz o.dst=true)
  (ho : Ope C X o e ds h fun v h' => match o.dst with
   |some d=>DraS C F X k S all os ((d,v)::e) ds h'
   |none=>DraS C F X k S all os e ds h'):DraS C F X k S all ((i,true,false)::os) e ds h:=by
 unfold DraS
 intro t ht
 simp only [pdraS,hi,hd,gst,hg,PIf]
 refine ⟨fun hb=>(by cases hb),?_⟩
 unfold Ope at ho
 rw [ht]
 exact pop_mono ho (fun v h' hv=>⟨fun hc=>(by cases hc),pdraS_put hv ht⟩) fun _ _ hx=>hx
theorem DraS.opS {o:Oper} (hi:nthK all i=some o) (hg:o.guard=none) (hd:dstIn C.sz o.dst=true)
  (ho : Ope C X o e ds h fun v h' => S h' ∧ match o.dst with
   |some d=>DraS C F X k S all os ((d,v)::e) ds h'
   |none=>DraS C F X k S all os e ds h'):DraS C F X k S all ((i,true,true)::os) e ds h:=by
 unfold DraS
 intro t ht
 simp only [pdraS,hi,hd,gst,hg,PIf]
 refine ⟨fun hb=>(by cases hb),?_⟩
 unfold Ope at ho
 rw [ht]
 exact pop_mono ho (fun v h' hv=>⟨fun _=>hv.1,pdraS_put hv.2 ht⟩) fun _ _ hx=>hx
theorem DraS.opR {o:Oper} (hi:nthK all i=some o) (hg:o.guard=none) (hd:dstIn C.sz o.dst=true) (hs:S h) (hst:StabS C.A C.E S (lget e) o)
  (ho : Ope C X o e ds h fun v h' => match o.dst with
   |some d=>DraS C F X k S all os ((d,v)::e) ds h'
   |none=>DraS C F X k S all os e ds h'):DraS C F X k S all ((i,false,false)::os) e ds h:=by
 unfold DraS
 intro t ht
 simp only [pdraS,hi,hd,gst,hg,PIf]
 refine ⟨fun _=>⟨hs,by rw [ht];exact hst⟩,?_⟩
 unfold Ope at ho
 rw [ht]
 exact pop_mono ho (fun v h' hv=>⟨fun hc=>(by cases hc),pdraS_put hv ht⟩) fun _ _ hx=>hx
end
end Go.Pv
namespace Go.Pv
open Go.Am Go.RowKit
def mptP (A:AP) (t:TypeId):Option (Nat×PV) :=
 match A.under t with
 |some (.map kt et)=>match pzero A et with
  |some z=>some (kt,z)
  |none=>none
 |_=>none
class Mpt (A:AP) (t:Nat) (kt:outParam Nat) (z:outParam PV):Prop where
 ok:mptP A t=some (kt,z)
theorem Mpt.get {A:AP} {t kt:Nat} {z:PV} (h:Mpt A t kt z):∃ et,A.under t=some (.map kt et)∧pzero A et=some z:=by
 have:=h.ok
 unfold mptP at this
 split at this
 ·next k' et hu =>
  split at this
  ·next z' hz =>
   simp only [Option.some.injEq,Prod.mk.injEq] at this
   obtain ⟨rfl,rfl⟩:=this
   exact ⟨et,hu,hz⟩
  ·cases this
 ·cases this
theorem RV_tl_no {s:St} {tl:Tail} {vs:List PV} {x:Value} (h:RV s (.sl tl vs) x):RV s (.sl .no vs) x:=by
 rcases RV_sl.1 h with ⟨h1,_,h3⟩ | ⟨k,o,c,sz,h1,h2,h3,_⟩
 ·exact RV_sl.2 (.inl ⟨h1,rfl,h3⟩)
 ·exact RV_sl.2 (.inr ⟨k,o,c,sz,h1,h2,h3,trivial⟩)
section
variable {C:Cx} {F:EQ} {X:EX} {k:List KI} {e:EL} {ds:List Nat} {h:PH} {n m:Nat} {l l':HL} {K:PV→PH→Prop}
variable {d:Option Nat} {type:TypeId} {pos:String} {after:Array Edge} {guard:Option (Nat×Bool)}
theorem Ope.mmap {t:Nat} (hK:K (.mp n) (HE (n+1) ((n,some (.map [] 0))::l))):Ope C X { dst:=d,op:=.makeMap t none,type,pos,after,guard } e ds (HE n l) K:=by
 unfold Ope
 simp only [pop,pkind,ploud]
 rw [HE_add]
 exact hK
theorem Ope.look {t kt i:Nat} {z kv:PV} {ka:AV} {x y:Operand} {es:List (AV×PV×Nat)} {clock:Nat} {ok:Bool} {r:Option (Nat×PV)} [hm:Mpt C.A t kt z] (hx:pev (lget e) x=some (.mp i)) (hk:pev (lget e) y=some kv) (hka:PV.toAV kv=some ka)
  (hg : hget l i = some (.map es clock)) (hc : acheck C.A 20 kt ka = true) (hf : pfind C.A C.E kt ka es 0 = some r) (hK : K (pok ok (match r with
   |some p=>p.2
   |none=>z) r.isSome) (HE n l)):Ope C X { dst:=d,op:=.lookup t x y ok,type,pos,after,guard } e ds (HE n l) K:=by
 refine Ope.quiet rfl ?_ hK
 obtain ⟨et,h1,h2⟩:=hm.get
 have hes:pentries (HE n l) (.mp i)=some es:=by
  unfold pentries
  show (match hget l i with
   |some (.map es _)=>some es
   |_=>none)=some es
  rw [hg]
 simp only [pquiet,hx,hk,plookup,h1,hka,hes,hc,hf]
 cases r with
 |none=>simp only [h2,Option.isSome_none]
 |some p=>rfl
theorem Ope.mset {t kt i:Nat} {z kv vv:PV} {ka:AV} {x y u:Operand} {es:List (AV×PV×Nat)} {clock:Nat} {r:Option (Nat×PV)} [hm:Mpt C.A t kt z] (hx:pev (lget e) x=some (.mp i)) (hk:pev (lget e) y=some kv) (hv:pev (lget e) u=some vv) (hka:PV.toAV kv=some ka)
  (hg:hget l i=some (.map es clock)) (hc:acheck C.A 20 kt ka=true) (hf:pfind C.A C.E kt ka es 0=some r) (hs:∀ j v,r=some (j,v)→∃ e,es[j]?=some e∧asame 20 e.1 ka=true)
  (hK1:∀ j v,r=some (j,v)→K (.tup []) (HE n ((i,some (.map (psetAt es j ka vv) clock))::l))) (hK2:r=none→K (.tup []) (HE n ((i,some (.map (es++[(ka,vv,clock)]) (clock+1)))::l))) :
  Ope C X { dst:=d,op:=.mapUpdate t x y u,type,pos,after,guard } e ds (HE n l) K:=by
 obtain ⟨et,h1,h2⟩:=hm.get
 unfold Ope
 simp only [pop,pkind,ploud,hx,hk,hv,PMapUpdate,h1]
 refine ⟨es,clock,ka,r,hg,hka,hc,hf,?_⟩
 cases r with
 |none =>
  simp only [HE_put]
  exact hK2 rfl
 |some p =>
  obtain ⟨j,v⟩:=p
  simp only [HE_put]
  exact ⟨hs j v rfl,hK1 j v rfl⟩
theorem finC_ret {fn:Func} {R:PV→PH→Prop} {vs:List PV} (hv:Res C.A e l fn.results.toList vs) (hb:(pone vs).bd n=true) (hok:((HE m l).cut n).Ok) (hR:R (pone vs) ((HE m l).cut n)):Jmp C (FinH C fn n R) X [] .ret e [] (HE m l) :=
 Jmp.done ⟨trivial,vs,hv.get,_,_,PGh.cut hb hok,hR⟩
theorem finC_retD {fn:Func} {R:PV→PH→Prop} {vs:List PV} {i:Nat} (hd:hget l i=some .dfr) (hv:Res C.A e ((i,none)::l) fn.results.toList vs) (hb:(pone vs).bd n=true) (hok:((HE m ((i,none)::l)).cut n).Ok) (hR:R (pone vs) ((HE m ((i,none)::l)).cut n)) :
  Jmp C (FinH C fn n R) X [] .ret e [i] (HE m l):=by
 refine Jmp.done ⟨⟨hd,trivial⟩,vs,?_,?_⟩
 ·simp only [unds,HE_del]
  exact hv.get
 ·refine ⟨_,_,PGh.cut hb (by simp only [unds,HE_del];exact hok),?_⟩
  simp only [unds,HE_del]
  exact hR
end
end Go.Pv
namespace Go.Pv
open Go.Am Go.RowKit
def loudsOf (M:Nat→Bool) (all:List Oper):List Nat:=(List.range all.length).filter (loudI M all)
def lexts (an:T Nat):Nat→List Nat→List (List Nat)
 |0,_=>[[]]
 |f+1,rem=>match rem with
  |[]=>[[]]
  |_=>rem.flatMap fun i=>match rem.all fun j=>Nat.beq i j || !((anc an i).testBit j) with
   |true=>(lexts an f (rem.filter fun j=>!(Nat.beq i j))).map (i::·)
   |false=>[]
def asapL (M:Nat→Bool) (an:T Nat) (all:List Oper):Nat→Nat→List Nat→List Nat
 |0,_,_=>[]
 |f+1,seen,lo=>match ready1 M an false seen all 0 with
  |some i=>i::asapL M an all f (Nat.lor seen (2 ^ i)) lo
  |none=>match lo with
   |[]=>[]
   |l::lo=>l::asapL M an all f (Nat.lor seen (2 ^ l)) lo
def ordLOk (M:Nat→Bool) (an:T Nat) (all:List Oper):Nat→Option Nat→List Nat→Bool
 |seen,_,[]=>Nat.beq seen (2 ^ all.length - 1)
 |seen,last,i::rest=>match Nat.blt i all.length && !seen.testBit i && Nat.beq (Nat.land (anc an i) seen) (anc an i) && (loudI M all i || (match last with
   |none=>true
   |some l=>(anc an i).testBit l)) with
  |true=>ordLOk M an all (Nat.lor seen (2 ^ i)) (match loudI M all i with
   |true=>some i
   |false=>last) rest
  |false=>false
def maskOf (M:Nat→Bool) (an:T Nat) (all:List Oper) (ord:List Nat) (i:Nat):Nat :=
 ((ord.takeWhile fun j=>!(Nat.beq i j)).filter (loudI M all)).foldl (fun m l=>Nat.lor (Nat.lor m (anc an l)) (2 ^ l)) (anc an i)
def anL (M:Nat→Bool) (an:T Nat) (all:List Oper) (ord:List Nat):T Nat:=T.ofList ((List.range all.length).map (maskOf M an all ord)) 0 .nil
def listEq:List Nat→List Nat→Bool
 |[],[]=>true
 |x::xs,y::ys=>Nat.beq x y && listEq xs ys
 |_,_=>false
theorem listEq_eq:∀ {xs ys:List Nat},listEq xs ys=true→xs=ys
 |[],[],_=>rfl
 |[],_::_,h=>by cases h
 |_::_,[],h=>by cases h
 |x::xs,y::ys,h=>by
  simp only [listEq,Bool.and_eq_true] at h
  rw [Nat.eq_of_beq_eq_true h.1,listEq_eq h.2]
def drw1 (M:Nat→Bool) (an:T Nat) (all:List Oper) (lo:List Nat):Option (List (Nat×Bool)) :=
 match ordLOk M an all 0 none (asapL M an all all.length 0 lo) && listEq ((asapL M an all all.length 0 lo).filter (loudI M all)) lo with
 |true=>flagK M (anL M an all (asapL M an all all.length 0 lo)) all (asapL M an all all.length 0 lo)
 |false=>none
def drwAll (M:Nat→Bool) (an:T Nat) (all:List Oper):List (List Nat)→Option (List (List (Nat×Bool)))
 |[]=>some []
 |lo::los=>match drw1 M an all lo with
  |some fl=>match drwAll M an all los with
   |some fls=>some (fl::fls)
   |none=>none
  |none=>none
def drwL (M:Nat→Bool) (ops:List Oper):Option (List (List (Nat×Bool))) :=
 match pstat M ops with
 |none=>none
 |some an=>drwAll M an ops (lexts an (loudsOf M ops).length (loudsOf M ops))
theorem drwAll_mem {M:Nat→Bool} {an:T Nat} {all:List Oper}:∀ {los:List (List Nat)} {fls:List (List (Nat×Bool))},drwAll M an all los=some fls→∀ lo∈los,∃ fl∈fls,drw1 M an all lo=some fl
 |[],_,_,lo,hl=>by cases hl
 |x::los,fls,h,lo,hl=>by
  simp only [drwAll] at h
  split at h
  case h_2=>cases h
  next fl hfl =>
  split at h
  case h_2=>cases h
  next fls' hfls =>
  cases h
  rcases List.mem_cons.1 hl with rfl | hl
  ·exact ⟨fl,List.mem_cons_self ..,hfl⟩
  ·obtain ⟨g,g1,g2⟩:=drwAll_mem hfls lo hl
   exact ⟨g,List.mem_cons_of_mem _ g1,g2⟩
theorem lexts_mem {an:T Nat}:∀ (f:Nat) (rem lo:List Nat),rem.length≤f→lo.Nodup→(∀ i,i∈lo↔i∈rem)→(∀ a i c,lo=a++i::c→∀ j∈lo,(anc an i).testBit j=true→j≠i→j∈a)→lo∈lexts an f rem
 |0,rem,lo,hf,hn,hm,ho=>by
  have:rem=[]:=List.eq_nil_of_length_eq_zero (by omega)
  subst this
  cases lo with
  |nil=>simp [lexts]
  |cons x xs=>exact absurd ((hm x).1 (by simp)) (by simp)
 |f + 1, rem, lo, hf, hn, hm, ho => by
  cases rem with
  |nil =>
   cases lo with
   |nil=>simp [lexts]
   |cons x xs=>exact absurd ((hm x).1 (by simp)) (by simp)
  |cons r rs =>
   cases lo with
   |nil=>exact absurd ((hm r).2 (by simp)) (by simp)
   |cons x xs =>
    have hx:x∈r::rs:=(hm x).1 (by simp)
    have hxn:x ∉ xs:=(List.nodup_cons.1 hn).1
    simp only [lexts]
    refine List.mem_flatMap.2 ⟨x,hx,?_⟩
    have hall:((r::rs).all fun j=>Nat.beq x j || !((anc an x).testBit j))=true:=by
     refine List.all_eq_true.2 fun j hj=>?_
     by_cases hxj:x=j
     ·subst hxj;simp
     ·cases hb:(anc an x).testBit j with
      |false=>simp
      |true =>
       have:=ho [] x xs rfl j ((hm j).2 hj) hb (fun e=>hxj e.symm)
       cases this
    rw [hall]
    refine List.mem_map.2 ⟨xs,?_,rfl⟩
    have hbeq:∀ j,(!(Nat.beq x j))=true↔j≠x:=fun j=>by
     rw [Bool.not_eq_true']
     constructor
     ·intro h e;subst e;simp at h
     ·intro h
      cases hb:Nat.beq x j with
      |false=>rfl
      |true=>exact absurd (Nat.eq_of_beq_eq_true hb).symm h
    refine lexts_mem f _ xs ?_ (List.nodup_cons.1 hn).2 (fun i=>?_) (fun a i c e j hj hb hji=>?_)
    ·have h1:((r::rs).filter fun j=>!(Nat.beq x j)).length < (r::rs).length:=by
      refine List.length_filter_lt_length_iff_exists.2 ⟨x,hx,?_⟩
      simp
     omega
    ·rw [List.mem_filter,hbeq,← hm i]
     constructor
     ·intro hi
      exact ⟨List.mem_cons_of_mem _ hi,fun e=>hxn (by rw [← e];exact hi)⟩
     ·rintro ⟨hi,hne⟩
      rcases List.mem_cons.1 hi with rfl | hi
      ·exact absurd rfl hne
      ·exact hi
    ·have:=ho (x::a) i c (by rw [e];rfl) j (List.mem_cons_of_mem _ hj) hb hji
     rcases List.mem_cons.1 this with rfl | h
     ·exact absurd hj hxn
     ·exact h
structure OrdL (M:Nat→Bool) (an:T Nat) (all:List Oper) (ord:List Nat):Prop where
 at_:∀ a i c,ord=a++i::c→i < all.length∧i ∉ a∧(∀ j,(anc an i).testBit j=true→j∈a)∧(loudI M all i=false→∀ a1 l a2,a=a1++l::a2→loudI M all l=true→(∀ x∈a2,loudI M all x=false)→(anc an i).testBit l=true)
 mem:∀ i,i < all.length→i∈ord
theorem ordLOk_spec {M:Nat→Bool} {an:T Nat} {all:List Oper}:∀ (rest a:List Nat) (seen:Nat) (last:Option Nat),ordLOk M an all seen last rest=true→(∀ j,seen.testBit j=true↔j∈a) →
  (∀ a1 l a2,a=a1++l::a2→loudI M all l=true→(∀ x∈a2,loudI M all x=false)→last=some l) →
  (∀ b i c,rest=b++i::c→i < all.length∧i ∉ a++b∧(∀ j,(anc an i).testBit j=true→j∈a++b)∧(loudI M all i=false→∀ a1 l a2,a++b=a1++l::a2→loudI M all l=true→(∀ x∈a2,loudI M all x=false)→(anc an i).testBit l=true))∧∀ i,i < all.length→i∈a++rest
 |[],a,seen,last,h,h1,h2=>by
  refine ⟨fun b i c e=>by simp at e,fun i hi=>?_⟩
  simp only [ordLOk] at h
  have h:=Nat.eq_of_beq_eq_true h
  rw [List.append_nil,← h1,h,Nat.testBit_two_pow_sub_one]
  simpa using hi
 |x :: rest, a, seen, last, h, h1, h2 => by
  simp only [ordLOk] at h
  split at h
  case h_2=>cases h
  next hx =>
  simp only [Bool.and_eq_true,Bool.not_eq_true',Bool.or_eq_true] at hx
  obtain ⟨⟨⟨x1,x2⟩,x3⟩,x4⟩:=hx
  have hxa:x ∉ a:=fun hc=>by rw [(h1 x).2 hc] at x2;cases x2
  have hlast:∀ a1 l a2,a++[x]=a1++l::a2→loudI M all l=true→(∀ y∈a2,loudI M all y=false)→(match loudI M all x with
    |true=>some x
    |false=>last)=some l:=by
   intro a1 l a2 e hl hq
   rcases List.eq_nil_or_concat a2 with rfl | ⟨a2',y,rfl⟩
   ·obtain ⟨rfl,e2⟩:=List.append_inj' e rfl
    cases e2
    rw [hl]
   ·rw [List.concat_eq_append,← List.cons_append,← List.append_assoc] at e
    obtain ⟨e1,e2⟩:=List.append_inj' e rfl
    cases e2
    have hxq:=hq x (by simp)
    rw [hxq]
    exact h2 a1 l a2' e1 hl fun y hy=>hq y (by simp [hy])
  obtain ⟨p1,p2⟩:=ordLOk_spec rest (a++[x]) _ _ h
   (fun j => by
    rw [bit_lor,Bool.or_eq_true,h1,decide_eq_true_eq,List.mem_append,List.mem_singleton]
    exact ⟨fun h=>h.imp id Eq.symm,fun h=>h.imp id Eq.symm⟩) hlast
  refine ⟨fun b i c e=>?_,fun i hi=>by have:=p2 i hi;rwa [List.append_assoc,List.singleton_append] at this⟩
  cases b with
  |nil =>
   simp only [List.nil_append,List.cons.injEq] at e
   obtain ⟨rfl,rfl⟩:=e
   rw [List.append_nil]
   refine ⟨(T.blt_iff _ _).1 x1,hxa,fun j hj=>(h1 j).1 (land_sub x3 hj),fun hq a1 l a2 e hl hq2=>?_⟩
   have:=h2 a1 l a2 e hl hq2
   rw [this,hq] at x4
   simpa using x4
  |cons y b =>
   simp only [List.cons_append,List.cons.injEq] at e
   obtain ⟨rfl,rfl⟩:=e
   have:=p1 b i c rfl
   rwa [List.append_assoc,List.singleton_append] at this
theorem ordL_of {M:Nat→Bool} {an:T Nat} {all:List Oper} {ord:List Nat} (h:ordLOk M an all 0 none ord=true):OrdL M an all ord:=by
 obtain ⟨p1,p2⟩:=ordLOk_spec ord [] 0 none h (fun j=>by simp) (fun a1 l a2 e=>by simp at e)
 exact ⟨fun a i c e=>by simpa using p1 a i c e,fun i hi=>by simpa using p2 i hi⟩
theorem takeWhile_before {i:Nat}:∀ {a c:List Nat},i ∉ a→(a++i::c).takeWhile (fun j=>!(Nat.beq i j))=a
 |[],c,_=>by simp
 |x::a,c,h=>by
  have hne:i≠x:=fun e=>h (by simp [e])
  have hb:Nat.beq i x=false:=by
   cases hb:Nat.beq i x with
   |false=>rfl
   |true=>exact absurd (Nat.eq_of_beq_eq_true hb) hne
  simp only [List.cons_append,List.takeWhile_cons,hb,Bool.not_false,if_true]
  rw [takeWhile_before fun h'=>h (List.mem_cons_of_mem _ h')]
theorem bit_fold (an:T Nat) (j:Nat):∀ (ls:List Nat) (m:Nat),(ls.foldl (fun m l=>Nat.lor (Nat.lor m (anc an l)) (2 ^ l)) m).testBit j=true↔m.testBit j=true∨∃ l∈ls,j=l∨(anc an l).testBit j=true
 |[],m=>by simp
 |l::ls,m=>by
  simp only [List.foldl_cons]
  rw [bit_fold an j ls,bit_lor]
  have e:(Nat.lor m (anc an l)).testBit j=(m.testBit j || (anc an l).testBit j):=Nat.testBit_or ..
  rw [e]
  simp only [Bool.or_eq_true,decide_eq_true_eq,List.mem_cons,exists_eq_or_imp]
  constructor
  ·rintro (((h | h) | h) | h)
   ·exact .inl h
   ·exact .inr (.inl (.inr h))
   ·exact .inr (.inl (.inl h.symm))
   ·exact .inr (.inr h)
  ·rintro (h | (h | h) | h)
   ·exact .inl (.inl (.inl h))
   ·exact .inl (.inr h.symm)
   ·exact .inl (.inl (.inr h))
   ·exact .inr h
theorem anL_bit {M:Nat→Bool} {an:T Nat} {all:List Oper} {ord a c:List Nat} {i j:Nat} (hi:i < all.length) (he:ord=a++i::c) (hia:i ∉ a) :
  (anc (anL M an all ord) i).testBit j=true↔(anc an i).testBit j=true∨∃ l∈a,loudI M all l=true∧(j=l∨(anc an l).testBit j=true):=by
 have hget:(anL M an all ord).get i=some (maskOf M an all ord i):=by
  unfold anL
  rw [T.get_ofList]
  simp [hi]
 have hm:anc (anL M an all ord) i=maskOf M an all ord i:=by unfold anc;rw [hget];rfl
 rw [hm]
 unfold maskOf
 rw [he,takeWhile_before hia,bit_fold]
 simp only [List.mem_filter]
 constructor
 ·rintro (h | ⟨l,⟨h1,h2⟩,h3⟩)
  ·exact .inl h
  ·exact .inr ⟨l,h1,h2,h3⟩
 ·rintro (h | ⟨l,h1,h2,h3⟩)
  ·exact .inl h
  ·exact .inr ⟨l,⟨h1,h2⟩,h3⟩
theorem OrdL.split {M:Nat→Bool} {an:T Nat} {all:List Oper} {ord:List Nat} (hO:OrdL M an all ord) {i:Nat} (hi:i < all.length):∃ a c,ord=a++i::c∧i ∉ a:=by
 obtain ⟨a,c,e⟩:=List.append_of_mem (hO.mem i hi)
 exact ⟨a,c,e,(hO.at_ a i c e).2.1⟩
theorem loudAt_I {M:Nat→Bool} {all:List Oper} {i:Nat}:loudAt M all i=loudI M all i:=by
 unfold loudAt loudI
 rw [nthK_eq]
 cases all[i]?<;>rfl
theorem OrdL.ord {M:Nat→Bool} {an:T Nat} {all:List Oper} {ord:List Nat} (hO:OrdL M an all ord):Ord M (anL M an all ord) all ord:=by
 refine ⟨fun a i c e=>?_,hO.mem⟩
 obtain ⟨h1,h2,h3,h4⟩:=hO.at_ a i c e
 refine ⟨h1,h2,fun j hj=>?_,fun l hl hll=>?_⟩
 ·rcases (anL_bit h1 e h2).1 hj with h | ⟨l,g1,g2,rfl | g3⟩
  ·exact h3 j h
  ·exact g1
  ·obtain ⟨a1,a2,rfl⟩:=List.append_of_mem g1
   have:=(hO.at_ a1 l (a2++i::c) (by rw [e];simp)).2.2.1 j g3
   exact List.mem_append_left _ this
 ·rw [loudAt_I] at hll
  exact (anL_bit h1 e h2).2 (.inr ⟨l,hl,hll,.inl rfl⟩)
theorem OrdL.stat {M:Nat→Bool} {an:T Nat} {all:List Oper} {ord:List Nat} (hO:OrdL M an all ord) (hS:PStat M all an):PStat M all (anL M an all ord):=by
 refine ⟨hS.dst,fun i j o o' d h1 h2 h3 h4=>?_⟩
 have hi:i < all.length:=(List.getElem?_eq_some_iff.1 h1).1
 have hj:j < all.length:=(List.getElem?_eq_some_iff.1 h2).1
 obtain ⟨a,c,e,hia⟩:=hO.split hi
 obtain ⟨a',c',e',hja⟩:=hO.split hj
 exact (hS.look i j o o' d h1 h2 h3 h4).imp (fun h=>(anL_bit hi e hia).2 (.inl h)) fun h=>⟨h.1,(anL_bit hj e' hja).2 (.inl h.2)⟩
end Go.Pv
