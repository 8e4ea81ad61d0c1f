/- Parts of the proof: Pv46, Pv47, Pv43, Pv54, R60, R61 -/
import Derived.Test.YtejnfigkngkhjaaP13
import Derived.Carry
import Derived.ChangeArms
import Derived.Test.YtejnfigkngkhjaaP10
set_option linter.unusedVariables false
set_option linter.unusedSimpArgs false
set_option linter.unusedSectionVars false
namespace Go.Pv
open Go.Am Go.RowKit
section
variable {s:St} {A:AP} {P:Program} {E:Eqs} {w0:Base} {M:Nat→Bool} {sz:Nat} {b:Frame} {k:List Item} {cs:List Frame}
theorem preg_go2 (hA:A.Ok P) (hE:E.Ok P) (hm:b.mode=.run) {ops:Array Oper} {Q:PQ} {X:T PV→List Nat→PV→PH→Prop} {ds:List Nat} {tl:T PV} (os2:List Oper):∀ (os:List Oper) (i:Nat) (s:St) (t:T PV) (arr:Array Value),ops.toList.drop i=os++os2 →
  preg A E P M sz ops.toList os t s.h (fun t h=>preg A E P M sz ops.toList os2 t h (fun t h=>Q .normal t ds h) (X (tless t os2) ds)) (X tl ds)→PW w0 s→TV s t.get arr→(TV s tl.get arr∧∀ o∈os,∀ i v,tl.get i=some v→o.dst≠some i)→arr.size=sz→(∀ i∈ds,i < s.h.next) →
  POut P w0 s sz b k cs Q X (lone (on b arr (dls s ds) (.inRegion ops ((List.range ops.size).drop i)::k)) cs s.w)
 |[],i,s,t,arr,hos,hp,hw,ht,htl,hsz,hds =>
  preg_go hA hE hm os2 i s t arr (by simpa using hos) hp hw ht ⟨fun i v hi=>ht i v (tless_get _ _ _ _ hi).1,fun o ho i v hi=>(tless_get _ _ _ _ hi).2 o ho⟩ hsz hds
 |o :: os, i, s, t, arr, hos, hp, hw, ht, htl, hsz, hds => by
  have hlt:i < ops.size:=by
   rcases Nat.lt_or_ge i ops.size with h1 | h1
   ·exact h1
   ·rw [List.drop_eq_nil_of_le (by simpa using h1)] at hos;cases hos
  have hdr:=List.drop_eq_getElem_cons (l:=ops.toList) (i:=i) (by simpa using hlt)
  rw [hos] at hdr
  simp only [List.cons_append,List.cons.injEq] at hdr
  obtain ⟨hd1,hd2⟩:=hdr
  have ho:ops[i]?=some o:=by rw [Array.getElem?_eq_getElem hlt,hd1];simp
  have er:(List.range ops.size).drop i=i::(List.range ops.size).drop (i+1):=by
   rw [List.drop_eq_getElem_cons (by simpa using hlt)]
   simp
  rw [er]
  simp only [preg] at hp
  split at hp
  ·exact hp.elim
  next hdst =>
  have hdst':dstIn arr.size o.dst=true:=by rw [hsz];exact hdst
  have run:pop A E P M t.get s.h o (fun v h'=>preg A E P M sz ops.toList os (tput t o.dst v) h' (fun t h=>preg A E P M sz ops.toList os2 t h (fun t h=>Q .normal t ds h) (X (tless t os2) ds)) (X tl ds)) (X tl ds)→Region.wanted o (yielded ops arr)=true →
    POut P w0 s sz b k cs Q X (lone (on b arr (dls s ds) (.inRegion ops (i::(List.range ops.size).drop (i+1))::k)) cs s.w):=by
   intro hp hwt
   rcases op_go (b:=b) (k:=k) (cs:=cs) (dl:=dls s ds) (rest:=(List.range ops.size).drop (i+1)) hA hE hw ht hp ho hwt hm with ⟨x,v,s',h1,h2,h3,h4,h5⟩ | ⟨x,v,s',todo,h1,h2,h3,h4,h5⟩
   ·refine POut.of_steps h5 (POut.ext h2 ?_)
    rw [← dls_ext h2 hds]
    exact preg_go2 hA hE hm os2 os (i+1) s' (tput t o.dst v) (putA arr o.dst x) hd2.symm h4 h1 ((ht.ext h2).put hdst' h3) ⟨(htl.1.ext h2).putNot (htl.2 o (by simp)),fun p hp=>htl.2 p (List.mem_cons_of_mem _ hp)⟩ (by rw [putA_size];exact hsz) fun j hj=>Nat.lt_of_lt_of_le (hds j hj) h2.next
   ·refine ⟨s',arr,ds,h1,h2,hsz,fun j hj=>Nat.lt_of_lt_of_le (hds j hj) h2.next,.inr (.inr ⟨tl,v,x,todo,h4,h3,htl.1.ext h2,?_⟩)⟩
    rw [dls_ext h2 hds]
    exact h5
  have pass:preg A E P M sz ops.toList os (tput t o.dst (.tup [])) s.h (fun t h=>preg A E P M sz ops.toList os2 t h (fun t h=>Q .normal t ds h) (X (tless t os2) ds)) (X tl ds)→Region.wanted o (yielded ops arr)=false →
    POut P w0 s sz b k cs Q X (lone (on b arr (dls s ds) (.inRegion ops (i::(List.range ops.size).drop (i+1))::k)) cs s.w):=by
   intro hp hwt
   exact POut.of_steps (op_pass ho hwt hm) (preg_go2 hA hE hm os2 os (i+1) s (tput t o.dst (.tup [])) (putA arr o.dst undef) hd2.symm hp hw (ht.put hdst' (rv_undef s)) ⟨htl.1.putNot (htl.2 o (by simp)),fun p hp=>htl.2 p (List.mem_cons_of_mem _ hp)⟩ (by rw [putA_size];exact hsz) hds)
  split at hp
  ·next hg=>exact run hp (by simp [Region.wanted,hg])
  ·next j want hg =>
   split at hp
   ·exact hp.elim
   next p hpj =>
   have hpj':ops[j]?=some p:=by simpa using hpj
   split at hp
   ·exact hp.elim
   next d hd =>
   split at hp
   ·next q hq =>
    have hwt:=wanted_of ht hg hpj' hd hq
    split at hp
    ·cases q with
     |true=>exact run hp (by simpa using hwt)
     |false=>exact pass hp (by simpa using hwt)
    ·cases q with
     |true=>exact pass hp (by simpa using hwt)
     |false=>exact run hp (by simpa using hwt)
   ·next hq=>exact pass hp (wanted_not ht hg hpj' hd hq)
   ·exact hp.elim
theorem PWP.region2 (hA:A.Ok P) (hE:E.Ok P) {id:Nat} {ops:Array Oper} (n:Nat) {rnd:Option Nat} {fi:FuncId} {Q:PQ} {X:T PV→List Nat→PV→PH→Prop} {t:T PV} {ds:List Nat} {h:PH}
  (hp:preg A E P M sz ops.toList (ops.toList.take n) t h (fun t h=>preg A E P M sz ops.toList (ops.toList.drop n) t h (fun t h=>Q .normal t ds h) (X (tless t (ops.toList.drop n)) ds)) (X (tless t (ops.toList.take n)) ds)) :
  PWP P fi sz rnd (.region id ops false) Q X t ds h:=by
 intro w0 s arr b k cs a1 a2 a3 a4 a5 a6 a7 a8 a9
 subst a2
 refine POut.of_steps (step_on (k':=.inRegion ops (List.range ops.size)::k) a6 (by simp [stepG.exec,on])) ?_
 have:=preg_go2 (k:=k) (cs:=cs) (M:=M) (b:=b) hA hE a6 (ops.toList.drop n) (ops.toList.take n) 0 s t arr (by simp) hp a1 a3 ⟨fun i v hi=>a3 i v (tless_get _ _ _ _ hi).1,fun o ho i v hi=>(tless_get _ _ _ _ hi).2 o ho⟩ a4 a5
 simpa using this
end
def RegP (C:Cx) (K:EL→PH→Prop) (X:EX) (all os:List Oper) (e:EL) (ds:List Nat) (h:PH):Prop :=
 ∀ t:T PV,t.get=lget e→preg C.A C.E C.P C.M C.sz all os t h (fun t h=>∃ e',t.get=lget e'∧K e' h) (X ds)
section
variable {C:Cx} {K:EL→PH→Prop} {X:EX} {e:EL} {ds:List Nat} {h:PH} {all os:List Oper}
theorem RegP.nil (hK:K e h):RegP C K X all [] e ds h:=fun t ht=>⟨e,ht,hK⟩
theorem RegP.op {d:Nat} {op:Op} {type:TypeId} {pos:String} {after:Array Edge} (hd:Nat.blt d C.sz=true)
  (ho:Ope C X { dst:=some d,op,type,pos,after,guard:=none } e ds h fun v h'=>RegP C K X all os ((d,v)::e) ds h'):RegP C K X all ({ dst:=some d,op,type,pos,after,guard:=none }::os) e ds h:=by
 intro t ht
 simp only [preg,dstIn,hd]
 unfold Ope at ho
 rw [ht]
 exact pop_mono ho (fun v h' hv=>hv _ (put_get ht d v)) fun _ _ hx=>hx
end
section
variable {C:Cx} {fn:Func} {n:Nat} {R X:PV→PH→Prop} {e:EL} {h:PH}
theorem Til.defer2 (hC:C.Ok) (hs:C.sz=fn.ntmps) (hr:C.rnd=none) (hf:C.A.funcs.get C.fi=some fn) {id id2:Nat} {mk df:Oper} {ops:Array Oper} (m:Nat) {c:Call} {f:Operand} {gd dm:Nat} {caps:List PV} (e0:EL)
  (hmd:mk.dst=some dm) (hml:Nat.blt dm fn.ntmps=true) (hmg:mk.guard=none) (hdg:df.guard=none) (hdd:df.dst=none) (hop:df.op=.defer c) (hcal:c.callee=.value f) (hargs:c.args=#[])
  (hmk:Ope C (fun _ _ _=>False) mk e [] h fun v h'=>h'=h∧v=.fn (.func gd) [] caps) (hfv:pev (lget ((dm,.fn (.func gd) [] caps)::e)) f=some (.fn (.func gd) [] caps))
  (he0:e0.all (fun p=>(ops.toList.take m).all (fun o=>match o.dst with | some d=>!Nat.beq d p.1 | none=>true))=true) (he1:Lsub e0 ((dm,.fn (.func gd) [] caps)::e))
  (hreg:RegP C (fun e' h'=>Reg C (fun q e ds h=>q=.normal∧Undo ds h∧PDefer C.A C.P gd caps (.lit .nilifc) (unds ds h) (ResE C fn n R e)) (fun _ _ _=>False) [] ops.toList (ops.toList.drop m) e' [] h') (fun ds v h=>Undo ds h∧PDefer C.A C.P gd caps v (unds ds h) (ResE C fn n R e0)) ops.toList (ops.toList.take m) ((dm,.fn (.func gd) [] caps)::e) [] h) :
  Til C fn n R X (.seq (.region id #[mk,df] false) (.seq (.region id2 ops false) .ret)) e h:=by
 have hget:(tput (TE e) mk.dst (.fn (.func gd) [] caps)).get=lget ((dm,.fn (.func gd) [] caps)::e):=by
  rw [hmd]
  exact put_get (TE_getf e) dm _
 refine PTail.defer (M:=C.M) (gd:=gd) (caps:=caps) (f:=f) hC.A hC.E hf (by rw [hmd];exact hml) hmg hdg hdd hop hcal hargs ?_ (by rw [hget];exact hfv) ?_
 ·unfold Ope at hmk
  rw [TE_getf]
  exact hmk
 ·refine PWP.seq (PWP.region2 (M:=C.M) hC.A hC.E m ?_)
  have h1:=hreg _ hget
  rw [hs] at h1
  refine preg_mono ?_ ?_ _ _ _ h1
  ·rintro t' h' ⟨e',hsub',h2⟩
   unfold Reg at h2
   have h3:=h2 _ hsub'
   rw [hs] at h3
   refine preg_mono ?_ ?_ _ _ _ h3
   ·rintro t' h' ⟨e',hsub,_,hu,hd⟩
    exact PWP.jump (j:=.ret) trivial ⟨hu,hd.mono fun _ hres=>hres.res hsub⟩
   ·intro v h' hx;exact hx.elim
  ·rintro v h' ⟨hu,hd⟩
   refine ⟨hu,hd.mono fun _ hres=>hres.res fun i u hi=>?_⟩
   have hmem:∃ p∈e0,p.1=i:=by
    clear he0 he1 hres hd hu hreg h1
    induction e0 with
    |nil=>cases hi
    |cons p l ih =>
     obtain ⟨j,w⟩:=p
     simp only [lget] at hi
     split at hi
     ·next hb=>exact ⟨(j,w),by simp,(Nat.eq_of_beq_eq_true hb).symm⟩
     ·obtain ⟨p,h1,h2⟩:=ih hi
      exact ⟨p,List.mem_cons_of_mem _ h1,h2⟩
   obtain ⟨p,hp,rfl⟩:=hmem
   rw [tless_keep _ _ (List.all_eq_true.1 he0 p hp),hget]
   exact he1.get hi
end
end Go.Pv
namespace Go.Pv
open Go.Am Go.RowKit
section
variable {C:Cx} {X:EX} {e:EL} {ds:List Nat} {h:PH} {K:PV→PH→Prop}
variable {d:Option Tmp} {type:TypeId} {pos:String} {after:Array Edge} {guard:Option (Nat×Bool)}
theorem Ope.andNotN {t t':TypeId} {x y:Operand} {kk:IntKind} {a b:Int} {p q:Nat} (hx:pev (lget e) x=some (.lit (.int kk a))) (hy:pev (lget e) y=some (.lit (.int kk b))) (ha:a=(p:Int)) (hb:b=(q:Int)) (hp:p < 2 ^ (kk.bits - 1)) (hq:q < 2 ^ (kk.bits - 1)) (hK:K (.lit (.int kk ((p &&& (2 ^ kk.bits - 1 - q):Nat):Int))) h) :
  Ope C X { dst:=d,op:=.binOp .andNot t x y t',type,pos,after,guard } e ds h K:=by
 subst ha hb
 refine Ope.bin hx hy (v:=.lit (.int kk ((p &&& (2 ^ kk.bits - 1 - q):Nat):Int))) ?_ hK
 have hlt:p &&& (2 ^ kk.bits - 1 - q) < 2 ^ (kk.bits - 1):=Nat.lt_of_le_of_lt Nat.and_le_left hp
 simp only [abin,aint,decide_true,plit,BitVec.toNat_and,BitVec.toNat_not,ofInt_nat (lt_bits hp),ofInt_nat (lt_bits hq),wrap_nat hlt]
 rfl
end
end Go.Pv
namespace Go.Pv
open Go.Am Go.RowKit Go.ChangeShapes Go.WideShapes
theorem trodAll_stays {H:Type} {enc:TypeId×Value→H} {P:Program} (hl:laidOutB P=true) {W W':World} (hb:Below W.heap.size W W') {sp:Nat→Bool} :
  ∀ {ts:List TypeId} {vs:List Value} {ds:List (DataW H)} {ps:List MemPlace},ts.all (fun t=>P.readableRec t && decide (t < P.types.size))=true→DataW.TrodAll enc P W 0 (fun _=>true) true ts vs ds ps →
   (∀ x∈ps,x.block < W.heap.size)→(∀ x∈ps,sp x.block=true)→DataW.TrodAll enc P W' 0 sp true ts vs ds ps
 |[],vs,ds,ps,_,h,_,_=>by
  obtain ⟨rfl,rfl,rfl⟩:=trodAll_nil h
  exact trodAll_mk0
 |t::ts,vs,ds,ps,hr,h,hlt,hs=>by
  obtain ⟨v,vs',d,ds',p,q,rfl,rfl,rfl,h1,h2⟩:=trodAll_cons h
  simp only [List.all_cons,Bool.and_eq_true,decide_eq_true_eq] at hr
  refine trodAll_cons_mk (WideElems.Trod_stays hl hr.1.1 hr.1.2 h1 (fun x hx=>hb.same (hlt x (List.mem_append_left _ hx))) fun x hx=>hs x (List.mem_append_left _ hx)) ?_
  exact trodAll_stays hl hb (by simpa using hr.2) h2 (fun x hx=>hlt x (List.mem_append_right _ hx)) fun x hx=>hs x (List.mem_append_right _ hx)
end Go.Pv
namespace Go.Pv
open Go.Am Go.RowKit Go.ChangeShapes Go.WideShapes
def frozσ (w:World) (k:Nat):BS:=match w.heap[k]? with
 |some (.cells arr _ _)=>.fz arr.size none
 |_=>.no
def St.froz (w:World):St:=⟨frozσ w,fun _=>0,.nil,w⟩
theorem PW.froz (w:World):PW (Base.of w) (St.froz w):=by
 refine ⟨rfl,rfl,rfl,Nat.le_refl _,fun _ _=>rfl,fun k _=>?_,fun k o hk ho=>?_,fun k hk=>?_,fun k n i h=>?_,fun i b h=>(by cases h)⟩
 ·show frozσ w k=.no∨∃ n,frozσ w k=.fz n none
  unfold frozσ
  split
  ·exact .inr ⟨_,rfl⟩
  ·exact .inl rfl
 ·exact absurd (Array.getElem?_eq_some_iff.1 ho).1 hk
 ·show frozσ w k=.no
  unfold frozσ
  rw [Array.getElem?_eq_none (show w.heap.size≤k from hk)]
 ·have h':frozσ w k=.fz n (some i):=h
  unfold frozσ at h'
  split at h'<;>cases h'
theorem froz_cell {w:World} {a:Addr} {v:Value} (h:w.cell? a=some v):a=⟨a.block,a.off,none⟩∧(St.froz w).fcell a.block a.off=some v:=by
 obtain ⟨k,o,sp⟩:=a
 unfold World.cell? at h
 simp only at h
 split at h
 ·next c t z hk =>
  split at h
  ·cases h
  ·next hs =>
   have hs':sp=none:=by simpa using hs
   subst hs'
   refine ⟨rfl,?_⟩
   have ho:=(Array.getElem?_eq_some_iff.1 h).1
   have hσ:(St.froz w).σ k=.fz c.size none:=by
    show frozσ w k=_
    unfold frozσ
    rw [hk]
   unfold St.fcell
   rw [hσ]
   simp only [ho,if_true]
   show w.cell? ⟨k,o,none⟩=some v
   unfold World.cell?
   simp only [hk]
   simpa using h
 ·cases h
theorem Fn.calls3 {P:Program} {g:Nat} {args:List PV} {xs:Array Value} (hp:Fn P g args (B true)) (w:World) (hx:RVs (St.froz w) args xs.toList):Calls P g xs w fun e w'=>e=.returned (.bool true)∧Below w.heap.size w w'∧Grown w w':=by
 refine (hp.2 (Base.of w) (St.froz w) xs (PW.froz w) rfl hx).mono fun e w' he=>?_
 obtain ⟨s',rfl,h2,_,h4⟩:=he
 cases e with
 |returned x =>
  obtain ⟨v,p,_,rfl⟩:=h4
  have:=(RV_lit.1 p).2
  simp only [VR] at this
  subst this
  exact ⟨rfl,⟨h2.os,h2.tape,h2.output,h2.size,h2.old⟩,h2.grown⟩
 |panicked c=>obtain ⟨_,_,_,_,_,hf⟩:=h4;exact hf.elim
 |outgrown=>exact h4.elim
section
variable {H:Type} {enc:TypeId×Value→H} {P:Program} {w:World} {base:Nat} {spare:Nat→Bool} {held:Bool}
theorem cells?_get {a:Addr} {n:Nat} {cs:List Value} (h:w.cells? base a n=some cs):cs.length=n∧∀ i,i < n→w.cell? (a.add i)=cs[i]?:=by
 unfold World.cells? at h
 split at h
 ·exact ⟨by simpa using mapM_some_length h,fun i hi=>mapM_some_get h i i (by simp [hi])⟩
 ·cases h
def Reads (enc:TypeId×Value→H) (P:Program) (w:World) (base:Nat) (spare:Nat→Bool) (held:Bool) (t:TypeId) (Q:List PV→Prop):Prop :=
 ∀ (fuel:Nat) (cs:List Value) (x:DataW H×List MemPlace),DataW.trod enc P w base spare held fuel t cs=some x→∃ ps,RVs (St.froz w) ps cs∧Q ps
theorem Reads.int {t:TypeId} {k:IntKind} (ht:P.underlying t=some (.int k)):Reads enc P w base spare held t fun ps=>∃ n:Int,ps=[.lit (.int k n)]∧k.min≤n∧n≤k.max:=by
 intro fuel cs x h
 cases fuel with
 |zero=>simp [DataW.trod] at h
 |succ n =>
  unfold DataW.trod at h
  rw [ht] at h
  split at h<;>first | (cases h;done) | skip
  all_goals try (rename_i heq _;cases heq;done)
  all_goals try (rename_i heq;cases heq;done)
  rename_i k0 k' m heq
  cases heq
  split at h
  ·next hk =>
   obtain ⟨rfl,hw⟩:=hk
   refine ⟨_,RVs_cons.2 ⟨_,_,rfl,RV_lit.2 ⟨rfl,by simp only [VR]⟩,RVs_nil.2 rfl⟩,m,rfl,?_⟩
   simpa [Lit.wf] using hw
  ·cases h
theorem Reads.mono {t:TypeId} {Q R:List PV→Prop} (hr:Reads enc P w base spare held t Q) (h:∀ ps,Q ps→R ps):Reads enc P w base spare held t R:=by
 intro fuel cs x ht
 obtain ⟨ps,h1,h2⟩:=hr _ _ _ ht
 exact ⟨ps,h1,h _ h2⟩
theorem exists_list {α:Type} {p:Nat→α→Prop}:∀ (n:Nat),(∀ i,i < n→∃ a,p i a)→∃ zs:List α,zs.length=n∧∀ i a,zs[i]?=some a→p i a
 |0,_=>⟨[],rfl,fun i a h=>by simp at h⟩
 |n + 1, h => by
  obtain ⟨zs,h1,h2⟩:=exists_list n fun i hi=>h i (by omega)
  obtain ⟨a,ha⟩:=h n (by omega)
  refine ⟨zs++[a],by simp [h1],fun i b hb=>?_⟩
  rcases Nat.lt_or_ge i zs.length with hi | hi
  ·rw [List.getElem?_append_left hi] at hb
   exact h2 i b hb
  ·rw [List.getElem?_append_right hi] at hb
   have hi':i - zs.length=0:=by
    rcases Nat.eq_zero_or_pos (i - zs.length) with e | e
    ·exact e
    ·rw [List.getElem?_eq_none (by show 1≤i - zs.length;omega)] at hb
     cases hb
   rw [hi'] at hb
   simp only [List.getElem?_cons_zero,Option.some.injEq] at hb
   subst hb
   rw [show i=n by omega]
   exact ha
theorem REs.froz {α:Type} {f:α→PV} {k sz:Nat} (hsz:0 < sz):∀ (xs:List α) (o:Nat),(∀ i x,xs[i]?=some x→∃ cs:List Value,RVs (St.froz w) (f x).cells cs∧(f x).nc=sz∧cs.length=sz∧∀ j,j < sz→w.cell? ⟨k,o+i * sz+j,none⟩=cs[j]?) →
  REs (St.froz w) (xs.map f) sz k o
 |[],_,_=>REs_nil
 |x::xs,o,h=>by
  obtain ⟨cs,h1,h2,h3,h4⟩:=h 0 x (by simp)
  simp only [List.map_cons]
  refine REs_cons.2 ⟨h2,RM_of_cells (RMs_of_row h1 fun j u hj=>?_),REs.froz hsz xs (o+sz) fun i y hy=>?_⟩
  ·have hj':j < sz:=by rw [← h3];exact (List.getElem?_eq_some_iff.1 hj).1
   have hc:=h4 j hj'
   rw [hj,Nat.zero_mul,Nat.add_zero] at hc
   exact (froz_cell hc).2
  ·obtain ⟨c,g1,g2,g3,g4⟩:=h (i+1) y (by simpa using hy)
   refine ⟨c,g1,g2,g3,fun j hj=>?_⟩
   rw [← g4 j hj]
   congr 2
   rw [Nat.add_mul]
   omega
theorem Reads.slice {α:Type} {f:α→PV} {Q:α→Prop} (hsp:∀ b,spare b=true) {t e:TypeId} (ht:P.underlying t=some (.slice e)) (he:0 < P.cellsOf e) (hr:Reads enc P w base spare held e fun ps=>∃ a,ps=(f a).cells∧(f a).nc=P.cellsOf e∧Q a) :
  Reads enc P w base spare held t fun ps=>∃ zs:List α,ps=[.sl .no (zs.map f)]∧zs.length≤maxLen∧∀ a∈zs,Q a:=by
 intro fuel cs x h
 rcases DataW.trod_slice ht h with ⟨rfl,rfl⟩ | ⟨a,len,cap,elems,rest,n,rfl,rfl,rfl,hb,hl,hc,hlen,hel,hrest,_⟩
 ·exact ⟨_,RVs_cons.2 ⟨_,_,rfl,RV_sl.2 (.inl ⟨rfl,rfl,none,rfl⟩),RVs_nil.2 rfl⟩,[],rfl,by simp,by simp⟩
 ·by_cases h0:cap=0
  ·subst h0
   obtain rfl:len=0:=by omega
   exact ⟨_,RVs_cons.2 ⟨_,_,rfl,RV_sl.2 (.inl ⟨rfl,rfl,some a,rfl⟩),RVs_nil.2 rfl⟩,[],rfl,by simp,by simp⟩
  ·have hcell:∃ y,w.cell? a=some y:=by
    have key:∀ y:DataW H×List MemPlace,(w.cells? base (a.add (0 * P.cellsOf e)) (P.cellsOf e)).bind (DataW.trod enc P w base spare held n e)=some y→∃ y,w.cell? a=some y:=by
     intro y hy
     obtain ⟨c,c1,_⟩:=Option.bind_eq_some_iff.1 hy
     obtain ⟨g1,g2⟩:=cells?_get c1
     have:=g2 0 he
     rw [Nat.zero_mul] at this
     have e0:(a.add 0).add 0=a:=by simp [Addr.add]
     rw [e0] at this
     exact ⟨_,this.trans (List.getElem?_eq_getElem (by omega))⟩
    by_cases hz:len=0
    ·obtain ⟨r1,r2⟩:=hrest (hsp _)
     have:=r2 0 (by omega)
     subst hz
     rw [Nat.zero_add] at this
     obtain ⟨y,hy⟩:∃ y,rest[0]?=some y:=⟨_,List.getElem?_eq_getElem (by omega)⟩
     exact key y (this.trans hy)
    ·have:=hel 0 (by omega)
     obtain ⟨y,hy⟩:∃ y,elems[0]?=some y:=⟨_,List.getElem?_eq_getElem (by omega)⟩
     exact key y (this.trans hy)
   obtain ⟨y,hy⟩:=hcell
   have hsn:=(froz_cell hy).1
   obtain ⟨k,o,sp⟩:=a
   have hsn:sp=none:=congrArg Addr.spot hsn
   subst hsn
   obtain ⟨zs,h1,h2⟩:=exists_list (p:=fun i (a':α)=>∃ cs:List Value,w.cells? base (Addr.add ⟨k,o,none⟩ (i * P.cellsOf e)) (P.cellsOf e)=some cs∧RVs (St.froz w) (f a').cells cs∧(f a').nc=P.cellsOf e∧Q a') len fun i hi=>by
    have h3:=hel i hi
    obtain ⟨y,hy⟩:∃ y,elems[i]?=some y:=⟨_,List.getElem?_eq_getElem (by omega)⟩
    rw [hy] at h3
    obtain ⟨c,c1,c2⟩:=Option.bind_eq_some_iff.1 h3
    obtain ⟨ps,q1,a',rfl,q2,q3⟩:=hr _ _ _ c2
    exact ⟨a',c,c1,q1,q2,q3⟩
   refine ⟨[.sl .no (zs.map f)],RVs_cons.2 ⟨_,_,rfl,RV_sl.2 (.inr ⟨k,o,cap,P.cellsOf e,by rw [List.length_map,h1],by simpa [h1] using hl,REs.froz he zs o fun i x hx=>?_,trivial⟩),RVs_nil.2 rfl⟩,zs,rfl,by omega,fun b hb=>?_⟩
   ·obtain ⟨c,c1,c2,c3,_⟩:=h2 i x hx
    obtain ⟨g1,g2⟩:=cells?_get c1
    refine ⟨c,c2,c3,g1,fun j hj=>?_⟩
    have:=g2 j hj
    rw [addr_add,addr_add] at this
    exact this
   ·obtain ⟨i,hi⟩:=List.getElem?_of_mem hb
    obtain ⟨_,_,_,_,q⟩:=h2 i b hi
    exact q
def layB (P:Program):List Field→Nat→Nat→Bool
 |[],off,n=>off == n
 |f::fs,off,n=>f.offset == off && layB P fs (off+P.cellsOf f.type) n
def Alls:List (List PV→Prop)→List PV→Prop
 |[],ps=>ps=[]
 |Q::Qs,ps=>∃ p q,ps=p++q∧Q p∧Alls Qs q
def ReadsAll (enc:TypeId×Value→H) (P:Program) (w:World) (base:Nat) (spare:Nat→Bool) (held:Bool):List Field→List (List PV→Prop)→Prop
 |[],[]=>True
 |f::fs,Q::Qs=>Reads enc P w base spare held f.type Q∧ReadsAll enc P w base spare held fs Qs
 |_,_=>False
theorem reads_fields {n:Nat} {cs:List Value}:∀ (fs:List Field) (Qs:List (List PV→Prop)) (off:Nat),layB P fs off cs.length=true→off≤cs.length→ReadsAll enc P w base spare held fs Qs →
  (∀ f∈fs,∃ x,DataW.trod enc P w base spare held n f.type ((cs.drop f.offset).take (P.cellsOf f.type))=some x)→∃ ps,RVs (St.froz w) ps (cs.drop off)∧Alls Qs ps
 |[],[],off,hl,_,_,_=>by
  simp only [layB,beq_iff_eq] at hl
  subst hl
  exact ⟨[],by rw [List.drop_length];exact RVs_nil.2 rfl,rfl⟩
 |f :: fs, Q :: Qs, off, hl, ho, hr, hx => by
  simp only [layB,Bool.and_eq_true,beq_iff_eq] at hl
  obtain ⟨rfl,hl⟩:=hl
  obtain ⟨x,hx0⟩:=hx f (by simp)
  obtain ⟨p,p1,p2⟩:=hr.1 _ _ _ hx0
  have hle:∀ (fs:List Field) (off:Nat),layB P fs off cs.length=true→off≤cs.length:=by
   intro fs
   induction fs with
   |nil=>intro off h;simp only [layB,beq_iff_eq] at h;omega
   |cons g gs ih =>
    intro off h
    simp only [layB,Bool.and_eq_true,beq_iff_eq] at h
    have:=ih _ h.2
    omega
  obtain ⟨q,q1,q2⟩:=reads_fields fs Qs (f.offset+P.cellsOf f.type) hl (hle _ _ hl) hr.2 fun g hg=>hx g (List.mem_cons_of_mem _ hg)
  refine ⟨p++q,?_,p,q,rfl,p2,q2⟩
  rw [← List.take_append_drop (P.cellsOf f.type) (cs.drop f.offset),List.drop_drop]
  exact RVs.append p1 q1
theorem Reads.struct {t:TypeId} {fs:Array Field} {Qs:List (List PV→Prop)} (ht:P.underlying t=some (.struct fs)) (hl:layB P fs.toList 0 (P.cellsOf t)=true) (hr:ReadsAll enc P w base spare held fs.toList Qs) :
  Reads enc P w base spare held t (Alls Qs):=by
 intro fuel cs x h
 obtain ⟨xs,n,rfl,rfl,h1,h2,h3⟩:=DataW.trod_struct ht h
 rw [← h1] at hl
 obtain ⟨ps,p1,p2⟩:=reads_fields (n:=n) fs.toList Qs 0 hl (Nat.zero_le _) hr fun f hf=>by
  obtain ⟨i,hi⟩:=List.getElem?_of_mem hf
  rw [Array.getElem?_toList] at hi
  have hlt:i < fs.size:=(Array.getElem?_eq_some_iff.1 hi).1
  exact ⟨_,(h3 i f hi).trans (List.getElem?_eq_getElem (by omega))⟩
 exact ⟨ps,by simpa using p1,p2⟩
end
end Go.Pv
namespace Go.Pv
open Go.Proofs Go.Am
set_option maxRecDepth 10000
theorem f48 (k:Int) (h:0≤k∧k≤1000):Fn P0 48 [I k] (I (2 * k)):=by
  refine PFun.of (C:=c48) (cx_ok _ _ _) rfl (fn:=Try.f48) (by kernel_rfl) (c:=_) rfl rfl rfl ?_
  refine Run.seq (Run.region (cx_ok _ _ _) (Reg.op rfl (Ope.asg rfl ?_)))
  refine Reg.nil (Run.seq (Run.region (cx_ok _ _ _) (Reg.op rfl (Ope.mov rfl ?_))))
  refine Reg.op rfl (Ope.mul rfl rfl (by omega) ?_)
  refine Reg.op rfl (Ope.asg rfl ?_)
  exact Reg.nil (Run.ret (fin_ret (.tmp rfl .nil) rfl rfl))
theorem f52 (k:Int) (h:0≤k∧k≤1000):Fn P0 52 [I k] (I (2 * k+1)):=by
  refine PFun.of (C:=c52) (cx_ok _ _ _) rfl (fn:=Try.f52) (by kernel_rfl) (c:=_) rfl rfl rfl ?_
  refine Run.seq (Run.region (cx_ok _ _ _) (Reg.op rfl (Ope.asg rfl ?_)))
  refine Reg.nil (Run.seq (Run.region (cx_ok _ _ _) (Reg.op rfl (Ope.mov rfl ?_))))
  refine Reg.op rfl (Ope.mul rfl rfl (by omega) ?_)
  refine Reg.op rfl (Ope.add rfl rfl (by omega) ?_)
  refine Reg.op rfl (Ope.asg rfl ?_)
  exact Reg.nil (Run.ret (fin_ret (.tmp rfl .nil) rfl rfl))
def minsOk (a b:Int):Bool:=decide (0≤a) && (decide (a≤b) && decide (b≤600))
theorem f58 (a b:Int):Fn P0 58 [I a,I b] (B (minsOk a b)):=by
  refine PFun.of (C:=c58) (cx_ok _ _ _) rfl (fn:=Try.f58) (by kernel_rfl) (c:=_) rfl rfl rfl ?_
  refine Run.seq (Run.region (cx_ok _ _ _) (Reg.op rfl (Ope.asg rfl ?_)))
  refine Reg.nil (Run.seq (Run.region (cx_ok _ _ _) (Reg.op rfl (Ope.mov rfl ?_))))
  refine Reg.op rfl (Ope.le rfl rfl ?_)
  refine Reg.op rfl (Ope.mov rfl ?_)
  refine Reg.splitX rfl rfl (fun hg=>?_) fun hg=>?_
  ·refine Reg.on rfl rfl rfl (Ope.mov rfl ?_)
   refine Reg.on rfl rfl rfl (Ope.mov rfl ?_)
   refine Reg.on rfl rfl rfl (Ope.le rfl rfl ?_)
   refine Reg.op rfl (Ope.pickT rfl rfl ?_)
   refine Reg.op rfl (Ope.mov rfl ?_)
   refine Reg.splitX rfl rfl (fun hg=>?_) fun hg=>?_
   ·refine Reg.on rfl rfl rfl (Ope.mov rfl ?_)
    refine Reg.on rfl rfl rfl (Ope.le rfl rfl ?_)
    refine Reg.op rfl (Ope.pickT rfl rfl ?_)
    refine Reg.op rfl (Ope.asg rfl ?_)
    refine Reg.nil (Run.ret (fin_ret (.tmp rfl .nil) rfl ?_))
    (simp only [minsOk];simp [*];first | done | rfl)
   ·refine Reg.off rfl rfl rfl (Reg.off rfl rfl rfl (Reg.op rfl (Ope.pickF rfl rfl ?_)))
    refine Reg.op rfl (Ope.asg rfl ?_)
    refine Reg.nil (Run.ret (fin_ret (.tmp rfl .nil) rfl ?_))
    (simp only [minsOk];simp [*];first | done | rfl)
  ·refine Reg.off rfl rfl rfl (Reg.off rfl rfl rfl (Reg.off rfl rfl rfl (Reg.op rfl (Ope.pickF rfl rfl ?_))))
   refine Reg.op rfl (Ope.mov rfl ?_)
   refine Reg.off rfl rfl rfl (Reg.off rfl rfl rfl (Reg.op rfl (Ope.pickF rfl rfl ?_)))
   refine Reg.op rfl (Ope.asg rfl ?_)
   refine Reg.nil (Run.ret (fin_ret (.tmp rfl .nil) rfl ?_))
   (simp only [minsOk];simp [*];first | done | rfl)
theorem f82t (e:Int):Fn P0 82 [B true,I e] (.tup []):=by
  refine PFun.of (C:=c82) (cx_ok _ _ _) rfl (fn:=Try.f82) (by kernel_rfl) (c:=_) rfl rfl rfl ?_
  refine Run.seq (Run.region (cx_ok _ _ _) (Reg.op rfl (Ope.mov rfl ?_)))
  refine Reg.op rfl (Ope.not rfl ?_)
  refine Reg.nil (Run.condX rfl (fun hc=>?_) fun hc=>?_)
  ·exact absurd hc (by decide)
  ·exact Run.skip (fin_end .nil rfl rfl)
theorem f118 (a b m:Int) (h:-1000≤m∧m≤1000):Fn P0 118 [I a,I b,I m] (.agg [I b,I a,I (-m)]):=by
  refine PFun.of (C:=c118) (cx_ok _ _ _) rfl (fn:=Try.f118) (by kernel_rfl) (c:=_) rfl rfl rfl ?_
  refine Run.seq (Run.region (cx_ok _ _ _) (Reg.op rfl (Ope.newL rfl ?_)))
  refine Reg.nil (Run.seq (Run.region (cx_ok _ _ _) (Reg.op rfl (Ope.mov rfl ?_))))
  refine Reg.op rfl (Ope.mov rfl ?_)
  refine Reg.op rfl (Ope.mov rfl ?_)
  refine Reg.op rfl (Ope.neg rfl (by omega) ?_)
  refine Reg.op rfl (Ope.bld rfl rfl ?_)
  refine Reg.op0 (Ope.store rfl rfl rfl rfl rfl rfl ?_)
  exact Reg.nil (Run.ret (fin_ret (.cell rfl rfl .nil) rfl rfl))
theorem f121 (a b m:Int):Fn P0 121 [I a,I b,I m] (.agg [I a,I b,I m]):=by
  refine PFun.of (C:=c121) (cx_ok _ _ _) rfl (fn:=Try.f121) (by kernel_rfl) (c:=_) rfl rfl rfl ?_
  refine Run.seq (Run.region (cx_ok _ _ _) (Reg.op rfl (Ope.newL rfl ?_)))
  refine Reg.nil (Run.seq (Run.region (cx_ok _ _ _) (Reg.op rfl (Ope.mov rfl ?_))))
  refine Reg.op rfl (Ope.mov rfl ?_)
  refine Reg.op rfl (Ope.mov rfl ?_)
  refine Reg.op rfl (Ope.bld rfl rfl ?_)
  refine Reg.op0 (Ope.store rfl rfl rfl rfl rfl rfl ?_)
  exact Reg.nil (Run.ret (fin_ret (.cell rfl rfl .nil) rfl rfl))
theorem f120 (m j:Int) (h:0≤m∧m≤1000) (hj:0≤j∧j≤1):Fn P0 120 [.agg [I m,I j]] (I (2 * m+j)):=by
  refine PFun.of (C:=c120) (cx_ok _ _ _) rfl (fn:=Try.f120) (by kernel_rfl) (c:=_) rfl rfl rfl ?_
  refine Run.seq (Run.region (cx_ok _ _ _) (Reg.op rfl (Ope.boxF rfl rfl ?_)))
  refine Reg.op rfl (Ope.asg rfl ?_)
  refine Reg.nil (Run.seq (Run.region (cx_ok _ _ _) (Reg.op rfl (Ope.fld rfl rfl ?_))))
  refine Reg.op rfl (Ope.load rfl rfl ?_)
  refine Reg.op rfl (Ope.mul rfl rfl (by omega) ?_)
  refine Reg.op rfl (Ope.fld rfl rfl ?_)
  refine Reg.op rfl (Ope.load rfl rfl ?_)
  refine Reg.op rfl (Ope.add rfl rfl (by omega) ?_)
  refine Reg.op rfl (Ope.asg rfl ?_)
  exact Reg.nil (Run.ret (fin_ret (.tmp rfl .nil) rfl rfl))
theorem f137 (a b m:Int):Fn P0 137 [.agg [I a,I b,I m]] (.tup [I a,I b]):=by
  refine PFun.of (C:=c137) (cx_ok _ _ _) rfl (fn:=Try.f137) (by kernel_rfl) (c:=_) rfl rfl rfl ?_
  refine Run.seq (Run.region (cx_ok _ _ _) (Reg.op rfl (Ope.boxF rfl rfl ?_)))
  refine Reg.op rfl (Ope.asg rfl ?_)
  refine Reg.op rfl (Ope.asg rfl ?_)
  refine Reg.nil (Run.seq (Run.draw (cx_ok _ _ _) [(0,true),(1,true),(2,true),(3,true),(4,true),(5,true)] (by kernel_rfl) (Dra.op' rfl rfl rfl .sure (Ope.fld rfl rfl ?_))))
  refine Dra.op' rfl rfl rfl .sure (Ope.load rfl rfl ?_)
  refine Dra.op' rfl rfl rfl .sure (Ope.fld rfl rfl ?_)
  refine Dra.op' rfl rfl rfl .sure (Ope.load rfl rfl ?_)
  refine Dra.op' rfl rfl rfl .sure (Ope.asg rfl ?_)
  refine Dra.op' rfl rfl rfl .sure (Ope.asg rfl ?_)
  exact Dra.nil (Run.ret (fin_ret (.tmp rfl (.tmp rfl .nil)) rfl rfl))
theorem f138 (a b m e:Int):Fn P0 138 [.agg [I a,I b,I m],I e] (I m):=by
  refine PFun.of (C:=c138) (cx_ok _ _ _) rfl (fn:=Try.f138) (by kernel_rfl) (c:=_) rfl rfl rfl ?_
  refine Run.seq (Run.region (cx_ok _ _ _) (Reg.op rfl (Ope.boxF rfl rfl ?_)))
  refine Reg.op rfl (Ope.asg rfl ?_)
  refine Reg.nil (Run.seq (Run.region (cx_ok _ _ _) (Reg.op rfl (Ope.fld rfl rfl ?_))))
  refine Reg.op rfl (Ope.load rfl rfl ?_)
  refine Reg.op rfl (Ope.asg rfl ?_)
  exact Reg.nil (Run.ret (fin_ret (.tmp rfl .nil) rfl rfl))
end Go.Pv
namespace Go.Pv
open Go.Proofs Go.Am
set_option maxRecDepth 10000
abbrev Tab:=Nat→Nat→Int
def rowC (t:Tab) (a:Nat):List PV:=[I (t a 0),I (t a 1),I (t a 2),I (t a 3),I (t a 4),I (t a 5),I (t a 6),I (t a 7),I (t a 8),I (t a 9),I (t a 10)]
def tabC (t:Tab):List PV:=rowC t 0++(rowC t 1++(rowC t 2++(rowC t 3++(rowC t 4++(rowC t 5++(rowC t 6++(rowC t 7++(rowC t 8++(rowC t 9++rowC t 10)))))))))
theorem tab_row (t:Tab):∀ m,m < 11→indexK 11 true 11 m (.fp (.agg (tabC t)))=some (.fp (.agg (rowC t m)))
  | 0,_=>rfl | 1,_=>rfl | 2,_=>rfl | 3,_=>rfl | 4,_=>rfl | 5,_=>rfl | 6,_=>rfl | 7,_=>rfl | 8,_=>rfl | 9,_=>rfl | 10,_=>rfl
  | _+11,h=>absurd h (by omega)
theorem row_at (t:Tab) (a:Nat):∀ m,m < 11→indexK 11 false 1 m (.fp (.agg (rowC t a)))=some (.fp (I (t a m)))
  | 0,_=>rfl | 1,_=>rfl | 2,_=>rfl | 3,_=>rfl | 4,_=>rfl | 5,_=>rfl | 6,_=>rfl | 7,_=>rfl | 8,_=>rfl | 9,_=>rfl | 10,_=>rfl
  | _+11,h=>absurd h (by omega)
def Tab.bnd (t:Tab):Prop:=∀ a b,a < 11→b < 11→-1000000≤t a b∧t a b≤1000000
def Tab.btw (t:Tab) (a b:Nat):Int×Int:=(-(t b a),t a b)
theorem f54 (t:Tab) (a b:Nat) (ha:a < 11) (hb:b < 11) (h1:-1000000≤t b a∧t b a≤1000000):Fn P0 54 [.fp (.agg (tabC t)),I a,I b] (.agg [I (t.btw a b).1,I (t.btw a b).2]):=by
  refine PFun.of (C:=c54) (cx_ok _ _ _) rfl (fn:=Try.f54) (by kernel_rfl) (c:=_) rfl rfl rfl ?_
  refine Run.seq (Run.region (cx_ok _ _ _) (Reg.op rfl (Ope.newL rfl ?_)))
  refine Reg.nil (Run.seq (Run.draw (cx_ok _ _ _) [(0,true),(1,true),(2,true),(3,true),(4,true),(5,true),(6,true),(7,true),(8,true),(9,true),(10,true),(11,true),(12,true),(13,true),(14,true),(15,true),(16,true)] (by kernel_rfl) (Dra.op' rfl rfl rfl .sure (Ope.mov rfl ?_))))
  refine Dra.op' rfl rfl rfl .sure (Ope.mov rfl ?_)
  refine Dra.op' rfl rfl rfl .sure (Ope.mov rfl ?_)
  refine Dra.op' rfl rfl rfl .sure (Ope.nilc rfl rfl ?_)
  refine Dra.op' rfl rfl rfl .sure (Ope.idxA (m:=b) rfl rfl rfl (tab_row t b hb) ?_)
  refine Dra.op' rfl rfl rfl .sure (Ope.idxA (m:=a) rfl rfl rfl (row_at t b a ha) ?_)
  refine Dra.op' rfl rfl rfl .sure (Ope.load rfl rfl ?_)
  refine Dra.op' rfl rfl rfl .sure (Ope.neg rfl (by omega) ?_)
  refine Dra.op' rfl rfl rfl .sure (Ope.mov rfl ?_)
  refine Dra.op' rfl rfl rfl .sure (Ope.mov rfl ?_)
  refine Dra.op' rfl rfl rfl .sure (Ope.mov rfl ?_)
  refine Dra.op' rfl rfl rfl .sure (Ope.nilc rfl rfl ?_)
  refine Dra.op' rfl rfl rfl .sure (Ope.idxA (m:=a) rfl rfl rfl (tab_row t a ha) ?_)
  refine Dra.op' rfl rfl rfl .sure (Ope.idxA (m:=b) rfl rfl rfl (row_at t a b hb) ?_)
  refine Dra.op' rfl rfl rfl .sure (Ope.load rfl rfl ?_)
  refine Dra.op' rfl rfl rfl .sure (Ope.bld rfl rfl ?_)
  refine Dra.op' rfl rfl rfl .sure (Ope.store rfl rfl rfl rfl rfl rfl ?_)
  exact Dra.nil (Run.ret (fin_ret (.cell rfl rfl .nil) rfl rfl))
theorem f48n (k:Nat) (h:k≤5):Fn P0 48 [I k] (I ((2 * k:Nat):Int)):=by
  rw [show ((2 * k:Nat):Int)=2 * (k:Int) from by omega]
  exact f48 k ⟨by omega,by omega⟩
theorem f52n (k:Nat) (h:k≤5):Fn P0 52 [I k] (I ((2 * k+1:Nat):Int)):=by
  rw [show ((2 * k+1:Nat):Int)=2 * (k:Int)+1 from by omega]
  exact f52 k ⟨by omega,by omega⟩
abbrev Tab.min (t:Tab) (m:Nat):Int×Int:=t.btw 10 m
theorem f47 (t:Tab) (ht:t.bnd) (m:Nat) (hm:m < 11):Fn P0 47 [.fp (.agg (tabC t)),I m] (.agg [I (t.min m).1,I (t.min m).2]):=by
  refine PFun.of (C:=c47) (cx_ok _ _ _) rfl (fn:=Try.f47) (by kernel_rfl) (c:=_) rfl rfl rfl ?_
  refine Run.seq (Run.region (cx_ok _ _ _) (Reg.op rfl (Ope.newL rfl ?_)))
  refine Reg.nil (Run.seq (Run.region (cx_ok _ _ _) (Reg.op rfl (Ope.mov rfl ?_))))
  refine Reg.op rfl (Ope.mov rfl ?_)
  refine Reg.op rfl (Ope.cf rfl rfl (f54 t 10 m (by decide) hm (ht _ _ hm (by decide))) rfl ?_)
  refine Reg.op0 (Ope.store rfl rfl rfl rfl rfl rfl ?_)
  exact Reg.nil (Run.ret (fin_ret (.cell rfl rfl .nil) rfl rfl))
def Tab.rides (t:Tab) (m:Int) (i:Nat):Bool:=decide ((t.min (2 * i)).1≤m) && decide (m < (t.min (2 * i+1)).2)
def Tab.empty (t:Tab) (n:Nat) (m:Int):Bool:=(List.range n).all fun i=>!t.rides m i
theorem empty_yes {t:Tab} {n:Nat} {m:Int} (h:∀ i,i < n→t.rides m i=false):t.empty n m=true:=by
  simp only [Tab.empty,List.all_eq_true,List.mem_range]
  intro i hi
  rw [h i hi];rfl
theorem empty_no {t:Tab} {n:Nat} {m:Int} {i:Nat} (hi:i < n) (h:t.rides m i=true):t.empty n m=false:=by
  cases he:t.empty n m with
  | false=>rfl
  | true =>
    simp only [Tab.empty,List.all_eq_true,List.mem_range] at he
    have:=he i hi
    rw [h] at this
    cases this
theorem f61 (t : Tab) (ht : t.bnd) (n : Nat) (hn : n ≤ 5) (m : Int) : Fn P0 61 [.fp (.agg (tabC t)), I n, I m] (B (t.empty n m)) := by
  refine PFun.of (C:=c61) (cx_ok _ _ _) rfl (fn:=Try.f61) (by kernel_rfl) (c:=_) rfl rfl rfl ?_
  refine Run.seq (Run.region (cx_ok _ _ _) (Reg.op rfl (Ope.asg rfl ?_)))
  refine Reg.nil (Run.seq (Run.seq (Run.region (cx_ok _ _ _) (Reg.op rfl (Ope.mov rfl ?_)))))
  refine Reg.op rfl (Ope.mov rfl ?_)
  refine Reg.nil (Run.block (Run.loop (α:=Nat) (fun i=>[(0,.fp (.agg (tabC t))),(1,I n),(2,I m),(8,I n),(9,I i)]) (fun _=>HE 0 []) (fun i=>i≤n∧∀ j,j < i→t.rides m j=false) (fun i=>n - i) 0 ⟨rfl,rfl,rfl,rfl,rfl,trivial⟩ rfl ⟨Nat.zero_le _,fun j hj=>by omega⟩ (fun i hi=>?_)))
  obtain ⟨hi1,hi2⟩:=hi
  refine Run.seq (Run.region (cx_ok _ _ _) (Reg.op rfl (Ope.lt rfl rfl ?_)))
  refine Reg.nil (Run.seq (Run.condX rfl (fun hc=>?_) fun hc=>?_))
  ·refine Run.skip (Run.seq (Run.block (Run.seq (Run.region (cx_ok _ _ _) (Reg.op rfl (Ope.mov rfl ?_))))))
   refine Reg.op rfl (Ope.asg rfl ?_)
   refine Reg.nil (Run.seq (Run.region (cx_ok _ _ _) (Reg.op rfl (Ope.mov rfl ?_))))
   refine Reg.op rfl (Ope.mov rfl ?_)
   refine Reg.op rfl (Ope.cf rfl rfl (f48n i (by omega)) rfl ?_)
   refine Reg.op rfl (Ope.cf rfl rfl (f47 t ht (2 * i) (by omega)) rfl ?_)
   refine Reg.op rfl (Ope.field rfl rfl ?_)
   refine Reg.op rfl (Ope.mov rfl ?_)
   refine Reg.op rfl (Ope.le rfl rfl ?_)
   refine Reg.op rfl (Ope.mov rfl ?_)
   refine Reg.splitX rfl rfl (fun hg=>?_) fun hg=>?_
   ·refine Reg.on rfl rfl rfl (Ope.mov rfl ?_)
    refine Reg.on rfl rfl rfl (Ope.mov rfl ?_)
    refine Reg.on rfl rfl rfl (Ope.mov rfl ?_)
    refine Reg.on rfl rfl rfl (Ope.cf rfl rfl (f52n i (by omega)) rfl ?_)
    refine Reg.on rfl rfl rfl (Ope.cf rfl rfl (f47 t ht (2 * i+1) (by omega)) rfl ?_)
    refine Reg.on rfl rfl rfl (Ope.field rfl rfl ?_)
    refine Reg.on rfl rfl rfl (Ope.lt rfl rfl ?_)
    refine Reg.op rfl (Ope.pickT rfl rfl ?_)
    refine Reg.nil (Run.condX rfl (fun hc=>?_) fun hc=>?_)
    ·refine Run.seq (Run.region (cx_ok _ _ _) (Reg.op rfl (Ope.asg rfl ?_)))
     refine Reg.nil (Run.ret (Jmp.retB (Jmp.code (Jmp.round (Jmp.retB (Jmp.code (fin_ret (.tmp rfl .nil) rfl ?_)))))))
     first
     | (rw [empty_yes (fun j hj=>hi2 j (by omega))];rfl)
     | (rw [empty_no (i:=i) (by omega) (by simp only [Tab.rides,Bool.and_eq_true,decide_eq_true_eq];omega)];rfl)
    ·refine Run.skip (Run.bend (Run.region (cx_ok _ _ _) (Reg.op rfl (Ope.add rfl rfl (by omega) ?_))))
     refine Reg.op rfl (Ope.mov rfl ?_)
     refine Reg.nil ?_
     exact Run.lend ⟨i+1,by omega,⟨by omega,fun j hj=>by
       by_cases hji:j < i
       · exact hi2 j hji
       · obtain rfl : j = i := by omega
         simp only [Tab.rides,Bool.and_eq_false_iff,decide_eq_false_iff_not]
         omega⟩,⟨rfl,rfl,rfl,rfl,rfl,trivial⟩,rfl,rfl⟩
   ·refine Reg.off rfl rfl rfl (Reg.off rfl rfl rfl (Reg.off rfl rfl rfl (Reg.off rfl rfl rfl (Reg.off rfl rfl rfl (Reg.off rfl rfl rfl (Reg.off rfl rfl rfl (Reg.op rfl (Ope.pickF rfl rfl ?_))))))))
    refine Reg.nil (Run.condF rfl (Run.skip (Run.bend (Run.region (cx_ok _ _ _) (Reg.op rfl (Ope.add rfl rfl (by omega) ?_))))))
    refine Reg.op rfl (Ope.mov rfl ?_)
    refine Reg.nil ?_
    exact Run.lend ⟨i+1,by omega,⟨by omega,fun j hj=>by
      by_cases hji:j < i
      · exact hi2 j hji
      · obtain rfl : j = i := by omega
        simp only [Tab.rides,Bool.and_eq_false_iff,decide_eq_false_iff_not]
        omega⟩,⟨rfl,rfl,rfl,rfl,rfl,trivial⟩,rfl,rfl⟩
  ·refine Run.exit (Jmp.code (Jmp.round (Jmp.here (Run.seq (Run.region (cx_ok _ _ _) (Reg.op rfl (Ope.asg rfl ?_)))))))
   refine Reg.nil (Run.ret (fin_ret (.tmp rfl .nil) rfl ?_))
   first
   | (rw [empty_yes (fun j hj=>hi2 j (by omega))];rfl)
   | (rw [empty_no (i:=i) (by omega) (by simp only [Tab.rides,Bool.and_eq_true,decide_eq_true_eq];omega)];rfl)
def Tab.gap (t:Tab) (m:Int):Nat→Nat→Bool
  | 0,_=>true
  | k+1,i=>if m < (t.min (2 * i)).2 then true else if m < (t.min (2 * i+1)).1 then false else t.gap m k (i+1)
theorem f67 (t:Tab) (ht:t.bnd) (n:Nat) (hn:n≤5) (m:Int):Fn P0 67 [.fp (.agg (tabC t)),I n,I m] (B (t.gap m n 0)):=by
  refine PFun.of (C:=c67) (cx_ok _ _ _) rfl (fn:=Try.f67) (by kernel_rfl) (c:=_) rfl rfl rfl ?_
  refine Run.seq (Run.region (cx_ok _ _ _) (Reg.op rfl (Ope.asg rfl ?_)))
  refine Reg.nil (Run.seq (Run.seq (Run.region (cx_ok _ _ _) (Reg.op rfl (Ope.mov rfl ?_)))))
  refine Reg.op rfl (Ope.mov rfl ?_)
  refine Reg.nil (Run.block (Run.loop (α:=Nat) (fun i=>[(0,.fp (.agg (tabC t))),(1,I n),(2,I m),(8,I n),(9,I i)]) (fun _=>HE 0 []) (fun i=>i≤n∧t.gap m n 0=t.gap m (n - i) i) (fun i=>n - i) 0 ⟨rfl,rfl,rfl,rfl,rfl,trivial⟩ rfl ⟨Nat.zero_le _,rfl⟩ (fun i hi=>?_)))
  obtain ⟨hi1,hi2⟩:=hi
  refine Run.seq (Run.region (cx_ok _ _ _) (Reg.op rfl (Ope.lt rfl rfl ?_)))
  refine Reg.nil (Run.seq (Run.condX rfl (fun hc=>?_) fun hc=>?_))
  ·refine Run.skip (Run.seq (Run.block (Run.seq ?_)))
   obtain ⟨k,hk⟩:∃ k,n - i=k+1:=⟨n - i - 1,by omega⟩
   rw [hk] at hi2
   simp only [Tab.gap] at hi2
   refine Run.region (cx_ok _ _ _) (Reg.op rfl (Ope.mov rfl ?_))
   refine Reg.op rfl (Ope.asg rfl ?_)
   refine Reg.nil (Run.seq (Run.seq (Run.region (cx_ok _ _ _) (Reg.op rfl (Ope.mov rfl ?_)))))
   refine Reg.op rfl (Ope.mov rfl ?_)
   refine Reg.op rfl (Ope.cf rfl rfl (f48n i (by omega)) rfl ?_)
   refine Reg.op rfl (Ope.cf rfl rfl (f47 t ht (2 * i) (by omega)) rfl ?_)
   refine Reg.op rfl (Ope.field rfl rfl ?_)
   refine Reg.op rfl (Ope.mov rfl ?_)
   refine Reg.op rfl (Ope.gt rfl rfl ?_)
   refine Reg.nil (Run.condX rfl (fun hc=>?_) fun hc=>?_)
   ·refine Run.seq (Run.region (cx_ok _ _ _) (Reg.op rfl (Ope.asg rfl ?_)))
    refine Reg.nil (Run.ret (Jmp.code (Jmp.retB (Jmp.code (Jmp.round (Jmp.retB (Jmp.code (fin_ret (.tmp rfl .nil) rfl ?_))))))))
    first
    | (rw [hi2,show n - i=0 from by omega];rfl)
    | (rw [hi2,if_pos (by omega)];rfl)
    | (rw [hi2,if_neg (by omega),if_pos (by omega)];rfl)
   ·refine Run.skip (Run.seq (Run.region (cx_ok _ _ _) (Reg.op rfl (Ope.mov rfl ?_))))
    refine Reg.op rfl (Ope.mov rfl ?_)
    refine Reg.op rfl (Ope.cf rfl rfl (f52n i (by omega)) rfl ?_)
    refine Reg.op rfl (Ope.cf rfl rfl (f47 t ht (2 * i+1) (by omega)) rfl ?_)
    refine Reg.op rfl (Ope.field rfl rfl ?_)
    refine Reg.op rfl (Ope.mov rfl ?_)
    refine Reg.op rfl (Ope.gt rfl rfl ?_)
    refine Reg.nil (Run.condX rfl (fun hc=>?_) fun hc=>?_)
    ·refine Run.seq (Run.region (cx_ok _ _ _) (Reg.op rfl (Ope.asg rfl ?_)))
     refine Reg.nil (Run.ret (Jmp.retB (Jmp.code (Jmp.round (Jmp.retB (Jmp.code (fin_ret (.tmp rfl .nil) rfl ?_)))))))
     first
     | (rw [hi2,show n - i=0 from by omega];rfl)
     | (rw [hi2,if_pos (by omega)];rfl)
     | (rw [hi2,if_neg (by omega),if_pos (by omega)];rfl)
    ·refine Run.skip (Run.bend (Run.region (cx_ok _ _ _) (Reg.op rfl (Ope.add rfl rfl (by omega) ?_))))
     refine Reg.op rfl (Ope.mov rfl ?_)
     exact Reg.nil (Run.lend ⟨i+1,by omega,⟨by omega,by rw [hi2,if_neg (by omega),if_neg (by omega),show n - (i+1)=k from by omega]⟩,⟨rfl,rfl,rfl,rfl,rfl,trivial⟩,rfl,rfl⟩)
  ·refine Run.exit (Jmp.code (Jmp.round (Jmp.here (Run.seq (Run.region (cx_ok _ _ _) (Reg.op rfl (Ope.asg rfl ?_)))))))
   refine Reg.nil (Run.ret (fin_ret (.tmp rfl .nil) rfl ?_))
   first
   | (rw [hi2,show n - i=0 from by omega];rfl)
   | (rw [hi2,if_pos (by omega)];rfl)
   | (rw [hi2,if_neg (by omega),if_pos (by omega)];rfl)
end Go.Pv
