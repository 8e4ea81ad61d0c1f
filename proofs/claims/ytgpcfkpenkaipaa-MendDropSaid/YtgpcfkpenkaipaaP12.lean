/- Parts of the proof: Pv43, Pv54, Pv62, M1, Pv63, Pv44 -/
import Derived.Test.YtgpcfkpenkaipaaP11
import Derived.Carry
import Derived.ChangeArms
import Derived.OpenShut
import Derived.Test.YtgpcfkpenkaipaaP10
set_option linter.unusedVariables false
set_option linter.unusedSimpArgs false
set_option linter.unusedSectionVars false
namespace Go.Pv
open Go.Am Go.RowKit Go.ChangeShapes Go.WideShapes
theorem trodAll_stays {H:Type} {enc:TypeId×Value→H} {P:Program} (hl:laidOutB P=true) {W W':World} (hb:Below W.heap.size W W') {sp:Nat→Bool} :
  ∀ {ts:List TypeId} {vs:List Value} {ds:List (DataW H)} {ps:List MemPlace},ts.all (fun t=>P.readableRec t && decide (t < P.types.size))=true→DataW.TrodAll enc P W 0 (fun _=>true) true ts vs ds ps →
   (∀ x∈ps,x.block < W.heap.size)→(∀ x∈ps,sp x.block=true)→DataW.TrodAll enc P W' 0 sp true ts vs ds ps
 |[],vs,ds,ps,_,h,_,_=>by
  obtain ⟨rfl,rfl,rfl⟩:=trodAll_nil h
  exact trodAll_mk0
 |t::ts,vs,ds,ps,hr,h,hlt,hs=>by
  obtain ⟨v,vs',d,ds',p,q,rfl,rfl,rfl,h1,h2⟩:=trodAll_cons h
  simp only [List.all_cons,Bool.and_eq_true,decide_eq_true_eq] at hr
  refine trodAll_cons_mk (WideElems.Trod_stays hl hr.1.1 hr.1.2 h1 (fun x hx=>hb.same (hlt x (List.mem_append_left _ hx))) fun x hx=>hs x (List.mem_append_left _ hx)) ?_
  exact trodAll_stays hl hb (by simpa using hr.2) h2 (fun x hx=>hlt x (List.mem_append_right _ hx)) fun x hx=>hs x (List.mem_append_right _ hx)
end Go.Pv
namespace Go.Pv
open Go.Am Go.RowKit Go.ChangeShapes Go.WideShapes
def frozσ (w:World) (k:Nat):BS:=match w.heap[k]? with
 |some (.cells arr _ _)=>.fz arr.size none
 |_=>.no
def St.froz (w:World):St:=⟨frozσ w,fun _=>0,.nil,w⟩
theorem PW.froz (w:World):PW (Base.of w) (St.froz w):=by
 refine ⟨rfl,rfl,rfl,Nat.le_refl _,fun _ _=>rfl,fun k _=>?_,fun k o hk ho=>?_,fun k hk=>?_,fun k n i h=>?_,fun i b h=>(by cases h)⟩
 ·show frozσ w k=.no∨∃ n,frozσ w k=.fz n none
  unfold frozσ
  split
  ·exact .inr ⟨_,rfl⟩
  ·exact .inl rfl
 ·exact absurd (Array.getElem?_eq_some_iff.1 ho).1 hk
 ·show frozσ w k=.no
  unfold frozσ
  rw [Array.getElem?_eq_none (show w.heap.size≤k from hk)]
 ·have h':frozσ w k=.fz n (some i):=h
  unfold frozσ at h'
  split at h'<;>cases h'
theorem froz_cell {w:World} {a:Addr} {v:Value} (h:w.cell? a=some v):a=⟨a.block,a.off,none⟩∧(St.froz w).fcell a.block a.off=some v:=by
 obtain ⟨k,o,sp⟩:=a
 unfold World.cell? at h
 simp only at h
 split at h
 ·next c t z hk =>
  split at h
  ·cases h
  ·next hs =>
   have hs':sp=none:=by simpa using hs
   subst hs'
   refine ⟨rfl,?_⟩
   have ho:=(Array.getElem?_eq_some_iff.1 h).1
   have hσ:(St.froz w).σ k=.fz c.size none:=by
    show frozσ w k=_
    unfold frozσ
    rw [hk]
   unfold St.fcell
   rw [hσ]
   simp only [ho,if_true]
   show w.cell? ⟨k,o,none⟩=some v
   unfold World.cell?
   simp only [hk]
   simpa using h
 ·cases h
theorem Fn.calls3 {P:Program} {g:Nat} {args:List PV} {xs:Array Value} (hp:Fn P g args (B true)) (w:World) (hx:RVs (St.froz w) args xs.toList):Calls P g xs w fun e w'=>e=.returned (.bool true)∧Below w.heap.size w w'∧Grown w w':=by
 refine (hp.2 (Base.of w) (St.froz w) xs (PW.froz w) rfl hx).mono fun e w' he=>?_
 obtain ⟨s',rfl,h2,_,h4⟩:=he
 cases e with
 |returned x =>
  obtain ⟨v,p,_,rfl⟩:=h4
  have:=(RV_lit.1 p).2
  simp only [VR] at this
  subst this
  exact ⟨rfl,⟨h2.os,h2.tape,h2.output,h2.size,h2.old⟩,h2.grown⟩
 |panicked c=>obtain ⟨_,_,_,_,_,hf⟩:=h4;exact hf.elim
 |outgrown=>exact h4.elim
section
variable {H:Type} {enc:TypeId×Value→H} {P:Program} {w:World} {base:Nat} {spare:Nat→Bool} {held:Bool}
theorem cells?_get {a:Addr} {n:Nat} {cs:List Value} (h:w.cells? base a n=some cs):cs.length=n∧∀ i,i < n→w.cell? (a.add i)=cs[i]?:=by
 unfold World.cells? at h
 split at h
 ·exact ⟨by simpa using mapM_some_length h,fun i hi=>mapM_some_get h i i (by simp [hi])⟩
 ·cases h
def Reads (enc:TypeId×Value→H) (P:Program) (w:World) (base:Nat) (spare:Nat→Bool) (held:Bool) (t:TypeId) (Q:List PV→Prop):Prop :=
 ∀ (fuel:Nat) (cs:List Value) (x:DataW H×List MemPlace),DataW.trod enc P w base spare held fuel t cs=some x→∃ ps,RVs (St.froz w) ps cs∧Q ps
theorem Reads.int {t:TypeId} {k:IntKind} (ht:P.underlying t=some (.int k)):Reads enc P w base spare held t fun ps=>∃ n:Int,ps=[.lit (.int k n)]∧k.min≤n∧n≤k.max:=by
 intro fuel cs x h
 cases fuel with
 |zero=>simp [DataW.trod] at h
 |succ n =>
  unfold DataW.trod at h
  rw [ht] at h
  split at h<;>first | (cases h;done) | skip
  all_goals try (rename_i heq _;cases heq;done)
  all_goals try (rename_i heq;cases heq;done)
  rename_i k0 k' m heq
  cases heq
  split at h
  ·next hk =>
   obtain ⟨rfl,hw⟩:=hk
   refine ⟨_,RVs_cons.2 ⟨_,_,rfl,RV_lit.2 ⟨rfl,by simp only [VR]⟩,RVs_nil.2 rfl⟩,m,rfl,?_⟩
   simpa [Lit.wf] using hw
  ·cases h
theorem Reads.mono {t:TypeId} {Q R:List PV→Prop} (hr:Reads enc P w base spare held t Q) (h:∀ ps,Q ps→R ps):Reads enc P w base spare held t R:=by
 intro fuel cs x ht
 obtain ⟨ps,h1,h2⟩:=hr _ _ _ ht
 exact ⟨ps,h1,h _ h2⟩
theorem exists_list {α:Type} {p:Nat→α→Prop}:∀ (n:Nat),(∀ i,i < n→∃ a,p i a)→∃ zs:List α,zs.length=n∧∀ i a,zs[i]?=some a→p i a
 |0,_=>⟨[],rfl,fun i a h=>by simp at h⟩
 |n + 1, h => by
  obtain ⟨zs,h1,h2⟩:=exists_list n fun i hi=>h i (by omega)
  obtain ⟨a,ha⟩:=h n (by omega)
  refine ⟨zs++[a],by simp [h1],fun i b hb=>?_⟩
  rcases Nat.lt_or_ge i zs.length with hi | hi
  ·rw [List.getElem?_append_left hi] at hb
   exact h2 i b hb
  ·rw [List.getElem?_append_right hi] at hb
   have hi':i - zs.length=0:=by
    rcases Nat.eq_zero_or_pos (i - zs.length) with e | e
    ·exact e
    ·rw [List.getElem?_eq_none (by show 1≤i - zs.length;omega)] at hb
     cases hb
   rw [hi'] at hb
   simp only [List.getElem?_cons_zero,Option.some.injEq] at hb
   subst hb
   rw [show i=n by omega]
   exact ha
theorem REs.froz {α:Type} {f:α→PV} {k sz:Nat} (hsz:0 < sz):∀ (xs:List α) (o:Nat),(∀ i x,xs[i]?=some x→∃ cs:List Value,RVs (St.froz w) (f x).cells cs∧(f x).nc=sz∧cs.length=sz∧∀ j,j < sz→w.cell? ⟨k,o+i * sz+j,none⟩=cs[j]?) →
  REs (St.froz w) (xs.map f) sz k o
 |[],_,_=>REs_nil
 |x::xs,o,h=>by
  obtain ⟨cs,h1,h2,h3,h4⟩:=h 0 x (by simp)
  simp only [List.map_cons]
  refine REs_cons.2 ⟨h2,RM_of_cells (RMs_of_row h1 fun j u hj=>?_),REs.froz hsz xs (o+sz) fun i y hy=>?_⟩
  ·have hj':j < sz:=by rw [← h3];exact (List.getElem?_eq_some_iff.1 hj).1
   have hc:=h4 j hj'
   rw [hj,Nat.zero_mul,Nat.add_zero] at hc
   exact (froz_cell hc).2
  ·obtain ⟨c,g1,g2,g3,g4⟩:=h (i+1) y (by simpa using hy)
   refine ⟨c,g1,g2,g3,fun j hj=>?_⟩
   rw [← g4 j hj]
   congr 2
   rw [Nat.add_mul]
   omega
theorem Reads.slice {α:Type} {f:α→PV} {Q:α→Prop} (hsp:∀ b,spare b=true) {t e:TypeId} (ht:P.underlying t=some (.slice e)) (he:0 < P.cellsOf e) (hr:Reads enc P w base spare held e fun ps=>∃ a,ps=(f a).cells∧(f a).nc=P.cellsOf e∧Q a) :
  Reads enc P w base spare held t fun ps=>∃ zs:List α,ps=[.sl .no (zs.map f)]∧zs.length≤maxLen∧∀ a∈zs,Q a:=by
 intro fuel cs x h
 rcases DataW.trod_slice ht h with ⟨rfl,rfl⟩ | ⟨a,len,cap,elems,rest,n,rfl,rfl,rfl,hb,hl,hc,hlen,hel,hrest,_⟩
 ·exact ⟨_,RVs_cons.2 ⟨_,_,rfl,RV_sl.2 (.inl ⟨rfl,rfl,none,rfl⟩),RVs_nil.2 rfl⟩,[],rfl,by simp,by simp⟩
 ·by_cases h0:cap=0
  ·subst h0
   obtain rfl:len=0:=by omega
   exact ⟨_,RVs_cons.2 ⟨_,_,rfl,RV_sl.2 (.inl ⟨rfl,rfl,some a,rfl⟩),RVs_nil.2 rfl⟩,[],rfl,by simp,by simp⟩
  ·have hcell:∃ y,w.cell? a=some y:=by
    have key:∀ y:DataW H×List MemPlace,(w.cells? base (a.add (0 * P.cellsOf e)) (P.cellsOf e)).bind (DataW.trod enc P w base spare held n e)=some y→∃ y,w.cell? a=some y:=by
     intro y hy
     obtain ⟨c,c1,_⟩:=Option.bind_eq_some_iff.1 hy
     obtain ⟨g1,g2⟩:=cells?_get c1
     have:=g2 0 he
     rw [Nat.zero_mul] at this
     have e0:(a.add 0).add 0=a:=by simp [Addr.add]
     rw [e0] at this
     exact ⟨_,this.trans (List.getElem?_eq_getElem (by omega))⟩
    by_cases hz:len=0
    ·obtain ⟨r1,r2⟩:=hrest (hsp _)
     have:=r2 0 (by omega)
     subst hz
     rw [Nat.zero_add] at this
     obtain ⟨y,hy⟩:∃ y,rest[0]?=some y:=⟨_,List.getElem?_eq_getElem (by omega)⟩
     exact key y (this.trans hy)
    ·have:=hel 0 (by omega)
     obtain ⟨y,hy⟩:∃ y,elems[0]?=some y:=⟨_,List.getElem?_eq_getElem (by omega)⟩
     exact key y (this.trans hy)
   obtain ⟨y,hy⟩:=hcell
   have hsn:=(froz_cell hy).1
   obtain ⟨k,o,sp⟩:=a
   have hsn:sp=none:=congrArg Addr.spot hsn
   subst hsn
   obtain ⟨zs,h1,h2⟩:=exists_list (p:=fun i (a':α)=>∃ cs:List Value,w.cells? base (Addr.add ⟨k,o,none⟩ (i * P.cellsOf e)) (P.cellsOf e)=some cs∧RVs (St.froz w) (f a').cells cs∧(f a').nc=P.cellsOf e∧Q a') len fun i hi=>by
    have h3:=hel i hi
    obtain ⟨y,hy⟩:∃ y,elems[i]?=some y:=⟨_,List.getElem?_eq_getElem (by omega)⟩
    rw [hy] at h3
    obtain ⟨c,c1,c2⟩:=Option.bind_eq_some_iff.1 h3
    obtain ⟨ps,q1,a',rfl,q2,q3⟩:=hr _ _ _ c2
    exact ⟨a',c,c1,q1,q2,q3⟩
   refine ⟨[.sl .no (zs.map f)],RVs_cons.2 ⟨_,_,rfl,RV_sl.2 (.inr ⟨k,o,cap,P.cellsOf e,by rw [List.length_map,h1],by simpa [h1] using hl,REs.froz he zs o fun i x hx=>?_,trivial⟩),RVs_nil.2 rfl⟩,zs,rfl,by omega,fun b hb=>?_⟩
   ·obtain ⟨c,c1,c2,c3,_⟩:=h2 i x hx
    obtain ⟨g1,g2⟩:=cells?_get c1
    refine ⟨c,c2,c3,g1,fun j hj=>?_⟩
    have:=g2 j hj
    rw [addr_add,addr_add] at this
    exact this
   ·obtain ⟨i,hi⟩:=List.getElem?_of_mem hb
    obtain ⟨_,_,_,_,q⟩:=h2 i b hi
    exact q
def layB (P:Program):List Field→Nat→Nat→Bool
 |[],off,n=>off == n
 |f::fs,off,n=>f.offset == off && layB P fs (off+P.cellsOf f.type) n
def Alls:List (List PV→Prop)→List PV→Prop
 |[],ps=>ps=[]
 |Q::Qs,ps=>∃ p q,ps=p++q∧Q p∧Alls Qs q
def ReadsAll (enc:TypeId×Value→H) (P:Program) (w:World) (base:Nat) (spare:Nat→Bool) (held:Bool):List Field→List (List PV→Prop)→Prop
 |[],[]=>True
 |f::fs,Q::Qs=>Reads enc P w base spare held f.type Q∧ReadsAll enc P w base spare held fs Qs
 |_,_=>False
theorem reads_fields {n:Nat} {cs:List Value}:∀ (fs:List Field) (Qs:List (List PV→Prop)) (off:Nat),layB P fs off cs.length=true→off≤cs.length→ReadsAll enc P w base spare held fs Qs →
  (∀ f∈fs,∃ x,DataW.trod enc P w base spare held n f.type ((cs.drop f.offset).take (P.cellsOf f.type))=some x)→∃ ps,RVs (St.froz w) ps (cs.drop off)∧Alls Qs ps
 |[],[],off,hl,_,_,_=>by
  simp only [layB,beq_iff_eq] at hl
  subst hl
  exact ⟨[],by rw [List.drop_length];exact RVs_nil.2 rfl,rfl⟩
 |f :: fs, Q :: Qs, off, hl, ho, hr, hx => by
  simp only [layB,Bool.and_eq_true,beq_iff_eq] at hl
  obtain ⟨rfl,hl⟩:=hl
  obtain ⟨x,hx0⟩:=hx f (by simp)
  obtain ⟨p,p1,p2⟩:=hr.1 _ _ _ hx0
  have hle:∀ (fs:List Field) (off:Nat),layB P fs off cs.length=true→off≤cs.length:=by
   intro fs
   induction fs with
   |nil=>intro off h;simp only [layB,beq_iff_eq] at h;omega
   |cons g gs ih =>
    intro off h
    simp only [layB,Bool.and_eq_true,beq_iff_eq] at h
    have:=ih _ h.2
    omega
  obtain ⟨q,q1,q2⟩:=reads_fields fs Qs (f.offset+P.cellsOf f.type) hl (hle _ _ hl) hr.2 fun g hg=>hx g (List.mem_cons_of_mem _ hg)
  refine ⟨p++q,?_,p,q,rfl,p2,q2⟩
  rw [← List.take_append_drop (P.cellsOf f.type) (cs.drop f.offset),List.drop_drop]
  exact RVs.append p1 q1
theorem Reads.struct {t:TypeId} {fs:Array Field} {Qs:List (List PV→Prop)} (ht:P.underlying t=some (.struct fs)) (hl:layB P fs.toList 0 (P.cellsOf t)=true) (hr:ReadsAll enc P w base spare held fs.toList Qs) :
  Reads enc P w base spare held t (Alls Qs):=by
 intro fuel cs x h
 obtain ⟨xs,n,rfl,rfl,h1,h2,h3⟩:=DataW.trod_struct ht h
 rw [← h1] at hl
 obtain ⟨ps,p1,p2⟩:=reads_fields (n:=n) fs.toList Qs 0 hl (Nat.zero_le _) hr fun f hf=>by
  obtain ⟨i,hi⟩:=List.getElem?_of_mem hf
  rw [Array.getElem?_toList] at hi
  have hlt:i < fs.size:=(Array.getElem?_eq_some_iff.1 hi).1
  exact ⟨_,(h3 i f hi).trans (List.getElem?_eq_getElem (by omega))⟩
 exact ⟨ps,by simpa using p1,p2⟩
end
end Go.Pv
namespace Go.Pv
open Go.Am Go.RowKit
section
variable {H:Type} {enc:TypeId×Value→H} {P:Program} {w:World} {base:Nat} {spare:Nat→Bool} {held:Bool}
theorem okWide_agg {P:Program} {w:World} {r:Reach} {base:Nat} {t:TypeId} {fs:Array Field} {v:Value} (ht:P.underlying t=some (.struct fs)) (h:Value.okWide P w r base t v):∃ cs,v=.agg cs:=by
 unfold Value.okWide at h
 rw [ht] at h
 obtain ⟨cs,rfl,_⟩:=h
 exact ⟨cs,rfl⟩
theorem trod_agg {t:TypeId} {fs:Array Field} {Q:List PV→Prop} {v:Value} {d:DataW H} {ps:List MemPlace} {r:Reach} {b:Nat} (ht:P.underlying t=some (.struct fs)) (hv:Value.okWide P w r b t v) (h:DataW.Trod enc P w base spare held t v d ps) (hr:Reads enc P w base spare held t Q) :
  ∃ l,RV (St.froz w) (.agg l) v∧Q l:=by
 obtain ⟨fuel,h⟩:=h
 obtain ⟨cs,rfl⟩:=okWide_agg ht hv
 obtain ⟨l,h1,h2⟩:=hr _ _ _ h
 exact ⟨l,RV_agg.2 ⟨cs,rfl,h1⟩,h2⟩
end
end Go.Pv
namespace Go.Pv
open Go.Proofs Go.Am
set_option maxRecDepth 10000
structure Job where
  kd:Int
  lo:Int
  hi:Int
  fr:Int
  so:Int
  bt:Int
  co:Int
  af:Int
def Job.v (j:Job):PV:=.agg [I j.kd,I j.lo,I j.hi,I j.fr,I j.so,I j.bt,I j.co,I j.af]
structure Shp where
  su:List Int
  jo:List Job
abbrev Shp.v (s:Shp) (t1 t2:Tail):PV:=.agg [.sl t1 (s.su.map I),.sl t2 (s.jo.map Job.v)]
abbrev Shp.n (s:Shp):Nat:=s.jo.length
structure Pst where
  J:Nat
  kd:Int
  f0:Int
  f1:Int
def Pst.c (p:Pst):List PV:=[I p.J,I p.kd,I p.f0,I p.f1]
structure Wrk where
  p:Pst
  j:Nat
  d0:Int
  d1:Int
def Wrk.c (w:Wrk):List PV:=[I w.p.J,I w.p.kd,I w.p.f0,I w.p.f1,I w.j,I w.d0,I w.d1]
abbrev Wrk.v (w:Wrk):PV:=.agg w.c
abbrev Pst.v (p:Pst):PV:=.agg p.c
instance:Inhabited Job:=⟨⟨0,0,0,0,0,0,0,0⟩⟩
def Shp.job (s:Shp) (i:Nat):Job:=s.jo.getD i default
def Shp.set (s:Shp) (k:Int):Int:=s.su.getD k.toNat 0
theorem Shp.job_at {s:Shp} {i:Nat} (h:i < s.jo.length):s.job i=s.jo[i]:=by simp [Shp.job,List.getD,h]
theorem Shp.set_at {s:Shp} {k:Nat} (h:k < s.su.length):s.set (k:Int)=s.su[k]:=by simp [Shp.set,List.getD,h]
def Shp.rdy (s:Shp) (p:Pst) (k:Int):Int×Int:=if k=p.kd then (p.f0,p.f1) else (p.f0+s.set k,p.f1+s.set k)
def Shp.wrk (s:Shp) (p:Pst) (i:Nat):Wrk:=⟨p,i,max (s.rdy p (s.job i).kd).1 (s.job i).fr+(s.job i).lo,max (s.rdy p (s.job i).kd).2 (s.job i).fr+(s.job i).hi⟩
def Shp.aft (s:Shp) (w:Wrk):Pst:=⟨w.p.J ||| 1 * 2 ^ w.j,(s.job w.j).kd,w.d0,w.d1⟩
def Shp.early (s:Shp) (w:Wrk):Bool:=!decide ((((s.job w.j).af.toNat &&& (2 ^ 64 - 1 - w.p.J):Nat):Int)=0)
def Shp.late (s:Shp) (w:Wrk):Bool:=decide ((s.job w.j).bt < w.d1)
def Shp.fin (s:Shp) (w:Wrk):Int:=(s.job w.j).co * max 0 (w.d1 - (s.job w.j).so)
def Shp.can (s:Shp) (p:Pst) (i:Nat):Bool:=!p.J.testBit i && (!s.early (s.wrk p i) && !s.late (s.wrk p i))
def Shp.nxt (s:Shp) (p:Pst):List Nat:=(List.range s.n).filter (s.can p)
structure Sq where
  o:List Nat
  c:Int
  t:Int
def Shp.sqs (s:Shp):Nat→Pst→List Sq
  | 0,p=>[⟨[],0,p.f1⟩]
  | k+1,p=>(s.nxt p).flatMap fun i=>(s.sqs k (s.aft (s.wrk p i))).map fun q=>⟨i::q.o,s.fin (s.wrk p i)+q.c,q.t⟩
def leastBy {α:Type} (f:α→Int):α→List α→α
  | a,[]=>a
  | a,b::l=>leastBy f (if f b < f a then b else a) l
theorem leastBy_cons {α:Type} (f:α→Int):∀ (l:List α) (a b:α),leastBy f a (b::l)=if f (leastBy f b l) < f a then leastBy f b l else a
  | [],a,b=>rfl
  | c :: l, a, b => by
    rw [leastBy]
    split
    · next h =>
      rw [leastBy_cons f l b c]
      by_cases h2:f (leastBy f c l) < f b
      · rw [if_pos h2,if_pos (by omega)]
      · rw [if_neg h2,if_pos h]
    · next h =>
      rw [leastBy_cons f l a c,leastBy_cons f l b c]
      by_cases h2:f (leastBy f c l) < f b
      · rw [if_pos h2]
      · rw [if_neg h2,if_neg h,if_neg (by omega)]
theorem leastBy_app {α:Type} (f:α→Int):∀ (l:List α) (a b:α) (m:List α),leastBy f a (l++b::m)=if f (leastBy f b m) < f (leastBy f a l) then leastBy f b m else leastBy f a l
  | [],a,b,m=>leastBy_cons f m a b
  | c :: l, a, b, m => by
    rw [List.cons_append,leastBy,leastBy_app f l _ b m,leastBy]
theorem leastBy_map {α β:Type} (f:α→Int) (g:β→α) (h:β→Int) (c:Int) (hg:∀ b,f (g b)=h b+c):∀ (l:List β) (a:β),leastBy f (g a) (l.map g)=g (leastBy h a l)
  | [],a=>rfl
  | b :: l, a => by
    rw [List.map_cons,leastBy,leastBy]
    by_cases h1:h b < h a
    · rw [if_pos (by rw [hg,hg];omega),if_pos h1,leastBy_map f g h c hg l b]
    · rw [if_neg (by rw [hg,hg];omega),if_neg h1,leastBy_map f g h c hg l a]
theorem leastBy_mem {α:Type} (f:α→Int):∀ (l:List α) (a:α),leastBy f a l∈a::l
  | [],a=>by simp [leastBy]
  | b :: l, a => by
    have:=leastBy_mem f l (if f b < f a then b else a)
    rw [leastBy]
    rcases List.mem_cons.1 this with h | h
    · rw [h];split<;>simp
    · exact List.mem_cons_of_mem _ (List.mem_cons_of_mem _ h)
theorem leastBy_le {α:Type} (f:α→Int):∀ (l:List α) (a:α),∀ x∈a::l,f (leastBy f a l)≤f x
  | [],a,x,hx=>by simp at hx;subst hx;exact Int.le_refl _
  | b :: l, a, x, hx => by
    rw [leastBy_cons]
    have ih:=leastBy_le f l b
    rcases List.mem_cons.1 hx with rfl | hx
    · split
      · omega
      · exact Int.le_refl _
    · have := ih x hx
      split
      · exact this
      · omega
structure Olk where
  n:Nat
  c:Int
  o:List Nat
  t:Int
def olk:List Sq→Olk
  | []=>⟨0,0,[],0⟩
  | a::l=>⟨l.length+1,(leastBy Sq.c a l).c,(leastBy Sq.c a l).o,(leastBy Sq.t a l).t⟩
def Olk.beh (i:Nat) (f:Int) (o:Olk):Olk:=⟨o.n,f+o.c,i::o.o,o.t⟩
def joinO:List Olk→Olk
  | []=>⟨0,0,[],0⟩
  | a::l=>⟨(l.map Olk.n).foldl (·+·) a.n,(leastBy Olk.c a l).c,(leastBy Olk.c a l).o,(leastBy Olk.t a l).t⟩
def behS (i:Nat) (f:Int) (q:Sq):Sq:=⟨i::q.o,f+q.c,q.t⟩
theorem olk_map (i:Nat) (f:Int) (a:Sq) (l:List Sq):olk ((a::l).map (behS i f))=(olk (a::l)).beh i f:=by
  simp only [List.map_cons,olk,List.length_map,Olk.beh]
  rw [leastBy_map Sq.c (behS i f) Sq.c f (fun b=>by show f+b.c=_;omega),leastBy_map Sq.t (behS i f) Sq.t 0 (fun b=>by show b.t=_;omega)]
  rfl
def Olk.two (x y:Olk):Olk:=⟨x.n+y.n,if y.c < x.c then y.c else x.c,if y.c < x.c then y.o else x.o,if y.t < x.t then y.t else x.t⟩
theorem olk_app (a:Sq) (l:List Sq) (b:Sq) (m:List Sq):olk ((a::l)++(b::m))=(olk (a::l)).two (olk (b::m)):=by
  simp only [List.cons_append,olk,Olk.two,leastBy_app,List.length_append,List.length_cons]
  have e:l.length+(m.length+1)+1=l.length+1+(m.length+1):=by omega
  rw [e]
  by_cases h1:(leastBy Sq.c b m).c < (leastBy Sq.c a l).c<;>by_cases h2:(leastBy Sq.t b m).t < (leastBy Sq.t a l).t<;>simp only [if_pos,if_neg,h1,h2,not_false_eq_true,if_true,if_false]
theorem foldl_add:∀ (l:List Nat) (a:Nat),l.foldl (·+·) a=a+l.foldl (·+·) 0
  | [],a=>by simp
  | b :: l, a => by
    simp only [List.foldl_cons]
    rw [foldl_add l (a+b),foldl_add l (0+b)]
    omega
theorem joinO_cons (a b:Olk) (l:List Olk):joinO (a::b::l)=a.two (joinO (b::l)):=by
  simp only [joinO,Olk.two,leastBy_cons,List.map_cons,List.foldl_cons]
  rw [foldl_add _ (a.n+b.n),foldl_add _ b.n,Nat.add_assoc]
  by_cases h1:(leastBy Olk.c b l).c < a.c<;>by_cases h2:(leastBy Olk.t b l).t < a.t<;>simp only [if_pos,if_neg,h1,h2,not_false_eq_true,if_true,if_false]
def outs (L:List (List Sq)):List Olk:=(L.filter fun l=>!l.isEmpty).map olk
theorem join_outs : ∀ (L : List (List Sq)), joinO (outs L) = olk L.flatten
  | []=>rfl
  | []::L=>join_outs L
  | (a :: l) :: L => by
    have ih:=join_outs L
    have e:outs ((a::l)::L)=olk (a::l)::outs L:=rfl
    rw [e,List.flatten_cons]
    cases hf:L.flatten with
    | nil =>
      have:outs L=[]:=by
        unfold outs
        rw [List.filter_eq_nil_iff.2,List.map_nil]
        intro x hx
        have:x=[]:=List.flatten_eq_nil_iff.1 hf x hx
        simp [this]
      rw [this,List.append_nil]
      rfl
    | cons b m =>
      rw [hf] at ih
      rw [olk_app,← ih]
      cases ho:outs L with
      | nil =>
        exfalso
        rw [ho] at ih
        have:=congrArg Olk.n ih
        simp [joinO,olk] at this
      | cons o os=>exact joinO_cons _ _ _
def Shp.out (s:Shp) (k:Nat) (p:Pst):Olk:=olk (s.sqs k p)
def Shp.out1 (s:Shp) (k:Nat) (w:Wrk):Olk:=(s.out k (s.aft w)).beh w.j (s.fin w)
theorem out_succ (s:Shp) (k:Nat) (p:Pst):s.out (k+1) p=joinO (((s.nxt p).map fun i=>s.out1 k (s.wrk p i)).filter fun o=>decide (0 < o.n)):=by
  unfold Shp.out
  rw [Shp.sqs,List.flatMap_def,← join_outs]
  congr 1
  unfold outs
  generalize s.nxt p=L
  induction L with
  | nil=>rfl
  | cons i L ih =>
    simp only [List.map_cons,List.filter_cons]
    have hj:(s.wrk p i).j=i:=rfl
    cases hq:s.sqs k (s.aft (s.wrk p i)) with
    | nil =>
      have h1:(s.out1 k (s.wrk p i)).n=0:=by simp [Shp.out1,Shp.out,hq,olk,Olk.beh]
      rw [h1]
      simpa using ih
    | cons a l =>
      have h1:s.out1 k (s.wrk p i)=olk ((a::l).map (behS i (s.fin (s.wrk p i)))):=by rw [olk_map,Shp.out1,Shp.out,hq,hj]
      have h2:0 < (s.out1 k (s.wrk p i)).n:=by rw [h1];simp [olk]
      rw [decide_eq_true h2,if_pos rfl]
      simp only [List.map_cons,List.isEmpty_cons,Bool.not_false,if_true,List.map_cons]
      rw [ih,h1]
      rfl
end Go.Pv
namespace Go.Pv
open Go.Am Go.RowKit
section
variable {C:Cx} {F:EQ} {X:EX} {k:List KI} {e:EL} {ds:List Nat} {h:PH} {K:PV→PH→Prop} {n:Nat} {l:HL}
variable {d:Option Tmp} {type:TypeId} {pos:String} {after:Array Edge} {guard:Option (Nat×Bool)}
theorem max_if (a b:Int):(if b > a then b else a)=max a b:=by rw [Int.max_def];split<;>split<;>omega
theorem Ope.max3 {t:Array TypeId} {a b c:Operand} {m1 m2 m3:Int} (ha:pev (lget e) a=some (I m1)) (hb:pev (lget e) b=some (I m2)) (hc:pev (lget e) c=some (I m3)) (hK:K (I (max (max m1 m2) m3)) h) :
  Ope C X { dst:=d,op:=.call { callee:=.builtin .max,args:=#[a,b,c],argTypes:=t },type,pos,after,guard } e ds h K:=by
 refine Ope.quiet rfl ?_ hK
 simp only [pquiet,pargs,ha,hb,hc,pminmax,PV.toAV,PV.toAVs,aminmax,decide_true,max_if,plit,PV.ofAV]
end
end Go.Pv
namespace Go.Pv
open Go.Am Go.RowKit
class Cnd (q:Bool) (p1 p2:outParam Prop):Prop where
 t:q=true→p1
 f:q=false→p2
instance (priority:=100) {q:Bool}:Cnd q (q=true) (q=false):=⟨id,id⟩
instance (priority:=500) {q:Bool}:Cnd (!q) (q=false) (q=true):=⟨fun h=>by simpa using h,fun h=>by simpa using h⟩
instance (priority:=1000) {p:Prop} [Decidable p]:Cnd (decide p) p (¬p):=⟨of_decide_eq_true,of_decide_eq_false⟩
instance (priority:=1000) {p:Prop} [Decidable p]:Cnd (!decide p) (¬p) p:=⟨fun h=>by simpa using h,fun h=>by simpa using h⟩
section
variable {C:Cx} {F:EQ} {X:EX} {k:List KI} {e:EL} {ds:List Nat} {h:PH}
theorem Run.condX {c:Operand} {x y:Code} {q:Bool} {p1 p2:Prop} [hq:Cnd q p1 p2] (hc:pev (lget e) c=some (B q)) (hx:p1→Run C F X (.c x::k) e ds h) (hy:p2→Run C F X (.c y::k) e ds h):Run C F X (.c (.cond c x y)::k) e ds h :=
 Run.cond hc (fun h=>hx (hq.t h)) fun h=>hy (hq.f h)
theorem Reg.splitX {w q:Bool} {j dj:Nat} {d:Option Nat} {op:Op} {type:TypeId} {pos:String} {after:Array Edge} {all os:List Oper} {p1 p2:Prop} [hq:Cnd q p1 p2] (hj:gdst all j=some dj) (hv:lget e dj=some (B q))
  (h1:p1→Reg C F X k all ({ dst:=d,op,type,pos,after,guard:=some (j,w) }::os) ((dj,B true)::e) ds h)
  (h2:p2→Reg C F X k all ({ dst:=d,op,type,pos,after,guard:=some (j,w) }::os) ((dj,B false)::e) ds h):Reg C F X k all ({ dst:=d,op,type,pos,after,guard:=some (j,w) }::os) e ds h :=
 Reg.split hj hv (fun h=>h1 (hq.t h)) fun h=>h2 (hq.f h)
theorem Dra.splitX {w q:Bool} {i j dj:Nat} {b:Bool} {o:Oper} {all:List Oper} {od:List (Nat×Bool)} {p1 p2:Prop} [hq:Cnd q p1 p2] (hi:nthK all i=some o) (hg:o.guard=some (j,w)) (hj:gdst all j=some dj) (hv:lget e dj=some (B q))
  (h1:p1→Dra C F X k all ((i,b)::od) ((dj,B true)::e) ds h) (h2:p2→Dra C F X k all ((i,b)::od) ((dj,B false)::e) ds h):Dra C F X k all ((i,b)::od) e ds h :=
 Dra.split' hi hg hj hv (fun h=>h1 (hq.t h)) fun h=>h2 (hq.f h)
end
end Go.Pv
