/- Parts of the proof: Pv43, Pv54, Pv62, Pv63, Pv64, Pv45 -/
import Derived.Test.YtfpihegkllffbaaGreatP11
import Derived.Carry
import Derived.ChangeArms
import Derived.OpenShut
set_option linter.unusedVariables false
set_option linter.unusedSimpArgs false
set_option linter.unusedSectionVars false
namespace Go.Pv
open Go.Am Go.RowKit Go.ChangeShapes Go.WideShapes
theorem trodAll_stays {H:Type} {enc:TypeId×Value→H} {P:Program} (hl:laidOutB P=true) {W W':World} (hb:Below W.heap.size W W') {sp:Nat→Bool} :
  ∀ {ts:List TypeId} {vs:List Value} {ds:List (DataW H)} {ps:List MemPlace},ts.all (fun t=>P.readableRec t && decide (t < P.types.size))=true→DataW.TrodAll enc P W 0 (fun _=>true) true ts vs ds ps →
   (∀ x∈ps,x.block < W.heap.size)→(∀ x∈ps,sp x.block=true)→DataW.TrodAll enc P W' 0 sp true ts vs ds ps
 |[],vs,ds,ps,_,h,_,_=>by
  obtain ⟨rfl,rfl,rfl⟩:=trodAll_nil h
  exact trodAll_mk0
 |t::ts,vs,ds,ps,hr,h,hlt,hs=>by
  obtain ⟨v,vs',d,ds',p,q,rfl,rfl,rfl,h1,h2⟩:=trodAll_cons h
  simp only [List.all_cons,Bool.and_eq_true,decide_eq_true_eq] at hr
  refine trodAll_cons_mk (WideElems.Trod_stays hl hr.1.1 hr.1.2 h1 (fun x hx=>hb.same (hlt x (List.mem_append_left _ hx))) fun x hx=>hs x (List.mem_append_left _ hx)) ?_
  exact trodAll_stays hl hb (by simpa using hr.2) h2 (fun x hx=>hlt x (List.mem_append_right _ hx)) fun x hx=>hs x (List.mem_append_right _ hx)
end Go.Pv
namespace Go.Pv
open Go.Am Go.RowKit Go.ChangeShapes Go.WideShapes
def frozσ (w:World) (k:Nat):BS:=match w.heap[k]? with
 |some (.cells arr _ _)=>.fz arr.size none
 |_=>.no
def St.froz (w:World):St:=⟨frozσ w,fun _=>0,.nil,w⟩
theorem PW.froz (w:World):PW (Base.of w) (St.froz w):=by
 refine ⟨rfl,rfl,rfl,Nat.le_refl _,fun _ _=>rfl,fun k _=>?_,fun k o hk ho=>?_,fun k hk=>?_,fun k n i h=>?_,fun i b h=>(by cases h)⟩
 ·show frozσ w k=.no∨∃ n,frozσ w k=.fz n none
  unfold frozσ
  split
  ·exact .inr ⟨_,rfl⟩
  ·exact .inl rfl
 ·exact absurd (Array.getElem?_eq_some_iff.1 ho).1 hk
 ·show frozσ w k=.no
  unfold frozσ
  rw [Array.getElem?_eq_none (show w.heap.size≤k from hk)]
 ·have h':frozσ w k=.fz n (some i):=h
  unfold frozσ at h'
  split at h'<;>cases h'
theorem froz_cell {w:World} {a:Addr} {v:Value} (h:w.cell? a=some v):a=⟨a.block,a.off,none⟩∧(St.froz w).fcell a.block a.off=some v:=by
 obtain ⟨k,o,sp⟩:=a
 unfold World.cell? at h
 simp only at h
 split at h
 ·next c t z hk =>
  split at h
  ·cases h
  ·next hs =>
   have hs':sp=none:=by simpa using hs
   subst hs'
   refine ⟨rfl,?_⟩
   have ho:=(Array.getElem?_eq_some_iff.1 h).1
   have hσ:(St.froz w).σ k=.fz c.size none:=by
    show frozσ w k=_
    unfold frozσ
    rw [hk]
   unfold St.fcell
   rw [hσ]
   simp only [ho,if_true]
   show w.cell? ⟨k,o,none⟩=some v
   unfold World.cell?
   simp only [hk]
   simpa using h
 ·cases h
theorem Fn.calls3 {P:Program} {g:Nat} {args:List PV} {xs:Array Value} (hp:Fn P g args (B true)) (w:World) (hx:RVs (St.froz w) args xs.toList):Calls P g xs w fun e w'=>e=.returned (.bool true)∧Below w.heap.size w w'∧Grown w w':=by
 refine (hp.2 (Base.of w) (St.froz w) xs (PW.froz w) rfl hx).mono fun e w' he=>?_
 obtain ⟨s',rfl,h2,_,h4⟩:=he
 cases e with
 |returned x =>
  obtain ⟨v,p,_,rfl⟩:=h4
  have:=(RV_lit.1 p).2
  simp only [VR] at this
  subst this
  exact ⟨rfl,⟨h2.os,h2.tape,h2.output,h2.size,h2.old⟩,h2.grown⟩
 |panicked c=>obtain ⟨_,_,_,_,_,hf⟩:=h4;exact hf.elim
 |outgrown=>exact h4.elim
section
variable {H:Type} {enc:TypeId×Value→H} {P:Program} {w:World} {base:Nat} {spare:Nat→Bool} {held:Bool}
theorem cells?_get {a:Addr} {n:Nat} {cs:List Value} (h:w.cells? base a n=some cs):cs.length=n∧∀ i,i < n→w.cell? (a.add i)=cs[i]?:=by
 unfold World.cells? at h
 split at h
 ·exact ⟨by simpa using mapM_some_length h,fun i hi=>mapM_some_get h i i (by simp [hi])⟩
 ·cases h
def Reads (enc:TypeId×Value→H) (P:Program) (w:World) (base:Nat) (spare:Nat→Bool) (held:Bool) (t:TypeId) (Q:List PV→Prop):Prop :=
 ∀ (fuel:Nat) (cs:List Value) (x:DataW H×List MemPlace),DataW.trod enc P w base spare held fuel t cs=some x→∃ ps,RVs (St.froz w) ps cs∧Q ps
theorem Reads.int {t:TypeId} {k:IntKind} (ht:P.underlying t=some (.int k)):Reads enc P w base spare held t fun ps=>∃ n:Int,ps=[.lit (.int k n)]∧k.min≤n∧n≤k.max:=by
 intro fuel cs x h
 cases fuel with
 |zero=>simp [DataW.trod] at h
 |succ n =>
  unfold DataW.trod at h
  rw [ht] at h
  split at h<;>first | (cases h;done) | skip
  all_goals try (rename_i heq _;cases heq;done)
  all_goals try (rename_i heq;cases heq;done)
  rename_i k0 k' m heq
  cases heq
  split at h
  ·next hk =>
   obtain ⟨rfl,hw⟩:=hk
   refine ⟨_,RVs_cons.2 ⟨_,_,rfl,RV_lit.2 ⟨rfl,by simp only [VR]⟩,RVs_nil.2 rfl⟩,m,rfl,?_⟩
   simpa [Lit.wf] using hw
  ·cases h
theorem Reads.mono {t:TypeId} {Q R:List PV→Prop} (hr:Reads enc P w base spare held t Q) (h:∀ ps,Q ps→R ps):Reads enc P w base spare held t R:=by
 intro fuel cs x ht
 obtain ⟨ps,h1,h2⟩:=hr _ _ _ ht
 exact ⟨ps,h1,h _ h2⟩
theorem exists_list {α:Type} {p:Nat→α→Prop}:∀ (n:Nat),(∀ i,i < n→∃ a,p i a)→∃ zs:List α,zs.length=n∧∀ i a,zs[i]?=some a→p i a
 |0,_=>⟨[],rfl,fun i a h=>by simp at h⟩
 |n + 1, h => by
  obtain ⟨zs,h1,h2⟩:=exists_list n fun i hi=>h i (by omega)
  obtain ⟨a,ha⟩:=h n (by omega)
  refine ⟨zs++[a],by simp [h1],fun i b hb=>?_⟩
  rcases Nat.lt_or_ge i zs.length with hi | hi
  ·rw [List.getElem?_append_left hi] at hb
   exact h2 i b hb
  ·rw [List.getElem?_append_right hi] at hb
   have hi':i - zs.length=0:=by
    rcases Nat.eq_zero_or_pos (i - zs.length) with e | e
    ·exact e
    ·rw [List.getElem?_eq_none (by show 1≤i - zs.length;omega)] at hb
     cases hb
   rw [hi'] at hb
   simp only [List.getElem?_cons_zero,Option.some.injEq] at hb
   subst hb
   rw [show i=n by omega]
   exact ha
theorem REs.froz {α:Type} {f:α→PV} {k sz:Nat} (hsz:0 < sz):∀ (xs:List α) (o:Nat),(∀ i x,xs[i]?=some x→∃ cs:List Value,RVs (St.froz w) (f x).cells cs∧(f x).nc=sz∧cs.length=sz∧∀ j,j < sz→w.cell? ⟨k,o+i * sz+j,none⟩=cs[j]?) →
  REs (St.froz w) (xs.map f) sz k o
 |[],_,_=>REs_nil
 |x::xs,o,h=>by
  obtain ⟨cs,h1,h2,h3,h4⟩:=h 0 x (by simp)
  simp only [List.map_cons]
  refine REs_cons.2 ⟨h2,RM_of_cells (RMs_of_row h1 fun j u hj=>?_),REs.froz hsz xs (o+sz) fun i y hy=>?_⟩
  ·have hj':j < sz:=by rw [← h3];exact (List.getElem?_eq_some_iff.1 hj).1
   have hc:=h4 j hj'
   rw [hj,Nat.zero_mul,Nat.add_zero] at hc
   exact (froz_cell hc).2
  ·obtain ⟨c,g1,g2,g3,g4⟩:=h (i+1) y (by simpa using hy)
   refine ⟨c,g1,g2,g3,fun j hj=>?_⟩
   rw [← g4 j hj]
   congr 2
   rw [Nat.add_mul]
   omega
theorem Reads.slice {α:Type} {f:α→PV} {Q:α→Prop} (hsp:∀ b,spare b=true) {t e:TypeId} (ht:P.underlying t=some (.slice e)) (he:0 < P.cellsOf e) (hr:Reads enc P w base spare held e fun ps=>∃ a,ps=(f a).cells∧(f a).nc=P.cellsOf e∧Q a) :
  Reads enc P w base spare held t fun ps=>∃ zs:List α,ps=[.sl .no (zs.map f)]∧zs.length≤maxLen∧∀ a∈zs,Q a:=by
 intro fuel cs x h
 rcases DataW.trod_slice ht h with ⟨rfl,rfl⟩ | ⟨a,len,cap,elems,rest,n,rfl,rfl,rfl,hb,hl,hc,hlen,hel,hrest,_⟩
 ·exact ⟨_,RVs_cons.2 ⟨_,_,rfl,RV_sl.2 (.inl ⟨rfl,rfl,none,rfl⟩),RVs_nil.2 rfl⟩,[],rfl,by simp,by simp⟩
 ·by_cases h0:cap=0
  ·subst h0
   obtain rfl:len=0:=by omega
   exact ⟨_,RVs_cons.2 ⟨_,_,rfl,RV_sl.2 (.inl ⟨rfl,rfl,some a,rfl⟩),RVs_nil.2 rfl⟩,[],rfl,by simp,by simp⟩
  ·have hcell:∃ y,w.cell? a=some y:=by
    have key:∀ y:DataW H×List MemPlace,(w.cells? base (a.add (0 * P.cellsOf e)) (P.cellsOf e)).bind (DataW.trod enc P w base spare held n e)=some y→∃ y,w.cell? a=some y:=by
     intro y hy
     obtain ⟨c,c1,_⟩:=Option.bind_eq_some_iff.1 hy
     obtain ⟨g1,g2⟩:=cells?_get c1
     have:=g2 0 he
     rw [Nat.zero_mul] at this
     have e0:(a.add 0).add 0=a:=by simp [Addr.add]
     rw [e0] at this
     exact ⟨_,this.trans (List.getElem?_eq_getElem (by omega))⟩
    by_cases hz:len=0
    ·obtain ⟨r1,r2⟩:=hrest (hsp _)
     have:=r2 0 (by omega)
     subst hz
     rw [Nat.zero_add] at this
     obtain ⟨y,hy⟩:∃ y,rest[0]?=some y:=⟨_,List.getElem?_eq_getElem (by omega)⟩
     exact key y (this.trans hy)
    ·have:=hel 0 (by omega)
     obtain ⟨y,hy⟩:∃ y,elems[0]?=some y:=⟨_,List.getElem?_eq_getElem (by omega)⟩
     exact key y (this.trans hy)
   obtain ⟨y,hy⟩:=hcell
   have hsn:=(froz_cell hy).1
   obtain ⟨k,o,sp⟩:=a
   have hsn:sp=none:=congrArg Addr.spot hsn
   subst hsn
   obtain ⟨zs,h1,h2⟩:=exists_list (p:=fun i (a':α)=>∃ cs:List Value,w.cells? base (Addr.add ⟨k,o,none⟩ (i * P.cellsOf e)) (P.cellsOf e)=some cs∧RVs (St.froz w) (f a').cells cs∧(f a').nc=P.cellsOf e∧Q a') len fun i hi=>by
    have h3:=hel i hi
    obtain ⟨y,hy⟩:∃ y,elems[i]?=some y:=⟨_,List.getElem?_eq_getElem (by omega)⟩
    rw [hy] at h3
    obtain ⟨c,c1,c2⟩:=Option.bind_eq_some_iff.1 h3
    obtain ⟨ps,q1,a',rfl,q2,q3⟩:=hr _ _ _ c2
    exact ⟨a',c,c1,q1,q2,q3⟩
   refine ⟨[.sl .no (zs.map f)],RVs_cons.2 ⟨_,_,rfl,RV_sl.2 (.inr ⟨k,o,cap,P.cellsOf e,by rw [List.length_map,h1],by simpa [h1] using hl,REs.froz he zs o fun i x hx=>?_,trivial⟩),RVs_nil.2 rfl⟩,zs,rfl,by omega,fun b hb=>?_⟩
   ·obtain ⟨c,c1,c2,c3,_⟩:=h2 i x hx
    obtain ⟨g1,g2⟩:=cells?_get c1
    refine ⟨c,c2,c3,g1,fun j hj=>?_⟩
    have:=g2 j hj
    rw [addr_add,addr_add] at this
    exact this
   ·obtain ⟨i,hi⟩:=List.getElem?_of_mem hb
    obtain ⟨_,_,_,_,q⟩:=h2 i b hi
    exact q
def layB (P:Program):List Field→Nat→Nat→Bool
 |[],off,n=>off == n
 |f::fs,off,n=>f.offset == off && layB P fs (off+P.cellsOf f.type) n
def Alls:List (List PV→Prop)→List PV→Prop
 |[],ps=>ps=[]
 |Q::Qs,ps=>∃ p q,ps=p++q∧Q p∧Alls Qs q
def ReadsAll (enc:TypeId×Value→H) (P:Program) (w:World) (base:Nat) (spare:Nat→Bool) (held:Bool):List Field→List (List PV→Prop)→Prop
 |[],[]=>True
 |f::fs,Q::Qs=>Reads enc P w base spare held f.type Q∧ReadsAll enc P w base spare held fs Qs
 |_,_=>False
theorem reads_fields {n:Nat} {cs:List Value}:∀ (fs:List Field) (Qs:List (List PV→Prop)) (off:Nat),layB P fs off cs.length=true→off≤cs.length→ReadsAll enc P w base spare held fs Qs →
  (∀ f∈fs,∃ x,DataW.trod enc P w base spare held n f.type ((cs.drop f.offset).take (P.cellsOf f.type))=some x)→∃ ps,RVs (St.froz w) ps (cs.drop off)∧Alls Qs ps
 |[],[],off,hl,_,_,_=>by
  simp only [layB,beq_iff_eq] at hl
  subst hl
  exact ⟨[],by rw [List.drop_length];exact RVs_nil.2 rfl,rfl⟩
 |f :: fs, Q :: Qs, off, hl, ho, hr, hx => by
  simp only [layB,Bool.and_eq_true,beq_iff_eq] at hl
  obtain ⟨rfl,hl⟩:=hl
  obtain ⟨x,hx0⟩:=hx f (by simp)
  obtain ⟨p,p1,p2⟩:=hr.1 _ _ _ hx0
  have hle:∀ (fs:List Field) (off:Nat),layB P fs off cs.length=true→off≤cs.length:=by
   intro fs
   induction fs with
   |nil=>intro off h;simp only [layB,beq_iff_eq] at h;omega
   |cons g gs ih =>
    intro off h
    simp only [layB,Bool.and_eq_true,beq_iff_eq] at h
    have:=ih _ h.2
    omega
  obtain ⟨q,q1,q2⟩:=reads_fields fs Qs (f.offset+P.cellsOf f.type) hl (hle _ _ hl) hr.2 fun g hg=>hx g (List.mem_cons_of_mem _ hg)
  refine ⟨p++q,?_,p,q,rfl,p2,q2⟩
  rw [← List.take_append_drop (P.cellsOf f.type) (cs.drop f.offset),List.drop_drop]
  exact RVs.append p1 q1
theorem Reads.struct {t:TypeId} {fs:Array Field} {Qs:List (List PV→Prop)} (ht:P.underlying t=some (.struct fs)) (hl:layB P fs.toList 0 (P.cellsOf t)=true) (hr:ReadsAll enc P w base spare held fs.toList Qs) :
  Reads enc P w base spare held t (Alls Qs):=by
 intro fuel cs x h
 obtain ⟨xs,n,rfl,rfl,h1,h2,h3⟩:=DataW.trod_struct ht h
 rw [← h1] at hl
 obtain ⟨ps,p1,p2⟩:=reads_fields (n:=n) fs.toList Qs 0 hl (Nat.zero_le _) hr fun f hf=>by
  obtain ⟨i,hi⟩:=List.getElem?_of_mem hf
  rw [Array.getElem?_toList] at hi
  have hlt:i < fs.size:=(Array.getElem?_eq_some_iff.1 hi).1
  exact ⟨_,(h3 i f hi).trans (List.getElem?_eq_getElem (by omega))⟩
 exact ⟨ps,by simpa using p1,p2⟩
theorem okWide_slice {r:Reach} {t e:TypeId} {v:Value} (ht:P.underlying t=some (.slice e)) (h:Value.okWide P w r base t v):∃ a l c,v=.slice a l c:=by
 unfold Value.okWide at h
 rw [ht] at h
 simp only at h
 unfold Cell.okWide at h
 rw [ht] at h
 cases v<;>first | exact ⟨_,_,_,rfl⟩ | (exfalso;simp [Cell.ok,ht] at h;done)
theorem RV_of_cells {s:St} {p:PV} {a:Option Addr} {l c:Nat} (h:RVs s [p] (Value.slice a l c).cells.toList):RV s p (.slice a l c):=by
 obtain ⟨y,ys,e,h1,_⟩:=RVs_cons.1 h
 have e':[Value.slice a l c]=y::ys:=e
 cases e'
 exact h1
theorem trod_ints {t e:TypeId} {k:IntKind} {v:Value} {d:DataW H} {ps:List MemPlace} {r:Reach} {b:Nat} (ht:P.underlying t=some (.slice e)) (he:P.underlying e=some (.int k)) (hs:P.cellsOf e=1) (hv:Value.okWide P w r b t v) (h:DataW.Trod enc P w base (fun _=>true) held t v d ps) :
  ∃ xs:List Int,RV (St.froz w) (.sl .no (xs.map fun n=>.lit (.int k n))) v∧xs.length≤maxLen∧∀ n∈xs,k.min≤n∧n≤k.max:=by
 obtain ⟨fuel,h⟩:=h
 obtain ⟨a,l,c,rfl⟩:=okWide_slice ht hv
 have hr:Reads enc P w base (fun _=>true) held t fun ps=>∃ zs:List Int,ps=[.sl .no (zs.map fun n=>.lit (.int k n))]∧zs.length≤maxLen∧∀ a∈zs,k.min≤a∧a≤k.max :=
  Reads.slice (fun _=>rfl) ht (by omega) ((Reads.int he).mono fun ps ⟨n,e1,e2⟩=>⟨n,e1,by rw [hs];rfl,e2⟩)
 obtain ⟨ps,h1,zs,rfl,h2,h3⟩:=hr _ _ _ h
 exact ⟨zs,RV_of_cells h1,h2,h3⟩
end
end Go.Pv
namespace Go.Pv
open Go.Am Go.RowKit
section
variable {H:Type} {enc:TypeId×Value→H} {P:Program} {w:World} {base:Nat} {spare:Nat→Bool} {held:Bool}
theorem okWide_agg {P:Program} {w:World} {r:Reach} {base:Nat} {t:TypeId} {fs:Array Field} {v:Value} (ht:P.underlying t=some (.struct fs)) (h:Value.okWide P w r base t v):∃ cs,v=.agg cs:=by
 unfold Value.okWide at h
 rw [ht] at h
 obtain ⟨cs,rfl,_⟩:=h
 exact ⟨cs,rfl⟩
theorem trod_agg {t:TypeId} {fs:Array Field} {Q:List PV→Prop} {v:Value} {d:DataW H} {ps:List MemPlace} {r:Reach} {b:Nat} (ht:P.underlying t=some (.struct fs)) (hv:Value.okWide P w r b t v) (h:DataW.Trod enc P w base spare held t v d ps) (hr:Reads enc P w base spare held t Q) :
  ∃ l,RV (St.froz w) (.agg l) v∧Q l:=by
 obtain ⟨fuel,h⟩:=h
 obtain ⟨cs,rfl⟩:=okWide_agg ht hv
 obtain ⟨l,h1,h2⟩:=hr _ _ _ h
 exact ⟨l,RV_agg.2 ⟨cs,rfl,h1⟩,h2⟩
end
end Go.Pv
namespace Go.Pv
open Go.Am Go.RowKit
section
variable {C:Cx} {F:EQ} {X:EX} {k:List KI} {e:EL} {ds:List Nat} {h:PH} {K:PV→PH→Prop} {n:Nat} {l:HL}
variable {d:Option Tmp} {type:TypeId} {pos:String} {after:Array Edge} {guard:Option (Nat×Bool)}
end
end Go.Pv
namespace Go.Pv
open Go.Am Go.RowKit
def isNilSl (x:Operand):Bool :=
 match x with
 |.const (.slice none _ _)=>true
 |_=>false
def nilc (A:AP) (t:Nat→Option PV) (h:PH) (o:Oper) (K:PV→PH→Prop):Prop :=
 match o.op with
 |.binOp .eql ty x y _=>isNilSl y=true∧(∃ e,A.under ty=some (.slice e))∧∃ tl vs,pev t x=some (.sl tl vs)∧∀ b:Bool,(vs≠[]→b=false)→K (.lit (.bool b)) h
 |_=>False
def popN (A:AP) (E:Eqs) (P:Program) (M:Nat→Bool) (t:Nat→Option PV) (h:PH) (o:Oper) (K X:PV→PH→Prop):Prop :=
 pop A E P M t h o K X∨nilc A t h o K
section
variable {s:St} {A:AP} {P:Program} {E:Eqs} {w0:Base} {M:Nat→Bool} {sz:Nat} {b:Frame} {k:List Item} {cs:List Frame}
theorem equal_nilsl {t e:TypeId} {w:World} (hu:P.underlying t=some (.slice e)) (a:Option Addr) (n c n' c':Nat):(Op.equal t (.slice a n c) (.slice none n' c')).run P w=.ok a.isNone w:=by
 have gen:∀ d,(Op.equalIn (d+1) t (.slice a n c) (.slice none n' c')).run P w=.ok a.isNone w:=fun d=>by
  cases a<;>simp only [Op.equalIn,Sem.run_bind,run_underlying hu,Result.andThen_ok]<;>rfl
 exact gen 9999
theorem nilc_ok (hA:A.Ok P) (hw:PW w0 s) {t:Nat→Option PV} {ρ':Operand→Value} (hρ:∀ x v,pev t x=some v→RV s v (ρ' x)) (hc:∀ v,ρ' (.const v)=v) {o:Oper} {K X:PV→PH→Prop} (h:nilc A t s.h o K) :
  Did P w0 s K X ((execOp ρ' o).run P s.w):=by
 unfold nilc at h
 split at h
 ·next ty x y yt ho =>
  obtain ⟨hy,⟨e,he⟩,tl,vs,hx,hK⟩:=h
  obtain ⟨n',c',rfl⟩:∃ n' c',y=.const (.slice none n' c'):=by
   unfold isNilSl at hy
   split at hy
   ·exact ⟨_,_,rfl⟩
   ·cases hy
  have hvx:=hρ _ _ hx
  obtain ⟨a,n,c,hax,hnn⟩:∃ a n c,ρ' x=.slice a n c∧(vs≠[]→a.isNone=false):=by
   rcases RV_sl.1 hvx with ⟨h1,_,a,h3⟩ | ⟨k,o,c,sz,h1,_⟩
   ·exact ⟨a,0,0,h3,fun hne=>absurd h1 hne⟩
   ·exact ⟨_,_,_,h1,fun _=>rfl⟩
  refine .inl ⟨.bool a.isNone,.lit (.bool a.isNone),s,.inl ?_,hw,Ext.refl s,RV_lit.2 ⟨rfl,by simp only [VR]⟩,hK _ hnn⟩
  simp [execOp,ho,hax,hc,eqGuard,binOp,equal_nilsl (hA.under_ok he)]
 ·exact h.elim
theorem op_goN (hw:PW w0 s) {t:T PV} {arr:Array Value} (ht:TV s t.get arr) {o:Oper} {K X:PV→PH→Prop}
  {ops:Array Oper} {i:Nat} {rest:List Nat} {dl:List Deferred} (hd:Did P w0 s K X ((execOp (on b arr dl (.inRegion ops (i::rest)::k)).eval o).run P s.w)) (hnd:∀ c,o.op≠.defer c) (ho:ops[i]?=some o) (hwt:Region.wanted o (yielded ops arr)=true) (hm:b.mode=.run) :
  (∃ x v s',PW w0 s'∧Ext s s'∧RV s' v x∧K v s'.h∧Steps P (lone (on b arr dl (.inRegion ops (i::rest)::k)) cs s.w) (lone (on b (putA arr o.dst x) dl (.inRegion ops rest::k)) cs s'.w)) ∨
  ∃ x v s' todo,PW w0 s'∧Ext s s'∧RV s' v x∧X v s'.h∧Steps P (lone (on b arr dl (.inRegion ops (i::rest)::k)) cs s.w) (lone { on b arr dl todo with mode:=.panicking [{ v:=x,recovered:=false }] } cs s'.w):=by
 have hexec:=exec_op (P:=P) (fr:=on b arr dl (.inRegion ops (i::rest)::k)) (cs:=cs) (w:=s.w) (k:=k) rfl ho hwt (.inr hnd)
 have hst:=stepG_run (P:=P) (fr:=on b arr dl (.inRegion ops (i::rest)::k)) (cs:=cs) (w:=s.w) hm
 rcases hd with ⟨x,v,s',h1,h2,h3,h4,h5⟩ | hgo | ⟨x,v,h1,h2,h3⟩
 ·refine .inl ⟨x,v,s',h2,h3,h4,h5,.one (step_lone_go ?_)⟩
  rw [hst,hexec,← on_finish ho]
  rcases h1 with h1 | ⟨h1,rfl⟩
  ·exact apply_value h1
  ·exact apply_skip h1
 ·generalize hr:(execOp (on b arr dl (.inRegion ops (i::rest)::k)).eval o).run P s.w=r at hgo
  cases r with
  |halt x w=>exact hgo.elim
  |ok nx w =>
   cases nx<;>try exact hgo.elim
   ·next g xs =>
    obtain ⟨e,w',fr',he,hc,_,hlv⟩:=hgo (on b arr dl (.inRegion ops (i::rest)::k)::cs)
    obtain ⟨s',e1,e2,e3,e4⟩:=he
    subst e1
    have henter:step P (lone (on b arr dl (.inRegion ops (i::rest)::k)) cs s.w)=.next (lone (Frame.enter P g xs .normal) (on b arr dl (.inRegion ops (i::rest)::k)::cs) w):=by
     refine step_lone_go ?_
     rw [hst,hexec]
     exact apply_enter (fun d r sv k' hc=>by simp [on] at hc) hr
    cases e with
    |returned x =>
     obtain ⟨v,v1,v2⟩:=e4
     refine .inl ⟨x,v,s',e2,e3,v1,v2,.head henter (Steps.trans hc (.one ?_))⟩
     rw [← on_finish ho]
     exact step_leave_returned hlv
    |panicked ch =>
     obtain ⟨v,x,rfl,v1,v2⟩:=e4
     refine .inr ⟨x,v,s',.inRegion ops (i::rest)::k,e2,e3,v1,v2,.head henter (Steps.trans hc (.one ?_))⟩
     rw [← on_raise hm]
     exact step_leave_panicked hlv
    |outgrown=>exact e4.elim
   ·next l f tmps asg body =>
    have henter:step P (lone (on b arr dl (.inRegion ops (i::rest)::k)) cs s.w)=.next (lone (Frame.round l f tmps asg body .normal) (on b arr dl (.inRegion ops (i::rest)::k)::cs) w):=by
     refine step_lone_go ?_
     rw [hst,hexec]
     exact apply_round hr
    rcases hgo (on b arr dl (.inRegion ops (i::rest)::k)) cs with ⟨x,w',⟨s',e1,e2,e3,v,v1,v2⟩,hs⟩ | ⟨ch,w',⟨s',e1,e2,e3,v,x,rfl,v1,v2⟩,hs⟩
    ·subst e1
     refine .inl ⟨x,v,s',e2,e3,v1,v2,.head henter ?_⟩
     rw [← on_finish ho]
     exact hs
    ·subst e1
     refine .inr ⟨x,v,s',.inRegion ops (i::rest)::k,e2,e3,v1,v2,.head henter ?_⟩
     rw [← on_raise hm]
     exact hs
 ·refine .inr ⟨x,v,s,.inRegion ops (i::rest)::k,hw,Ext.refl s,h2,h3,.one (step_lone_go ?_)⟩
  rw [hst,hexec,← on_raise hm]
  exact apply_panic h1
def pregN (A:AP) (E:Eqs) (P:Program) (M:Nat→Bool) (sz:Nat):List Oper→T PV→PH→(T PV→PH→Prop)→(PV→PH→Prop)→Prop
 |[],t,h,K,_=>K t h
 |o::os,t,h,K,X=>dstIn sz o.dst=true∧o.guard=none∧popN A E P M t.get h o (fun v h'=>pregN A E P M sz os (tput t o.dst v) h' K X) X
theorem preg_goN (hA:A.Ok P) (hE:E.Ok P) (hm:b.mode=.run) {ops:Array Oper} {Q:PQ} {X:T PV→List Nat→PV→PH→Prop} {ds:List Nat} {tl:T PV}:∀ (os:List Oper) (i:Nat) (s:St) (t:T PV) (arr:Array Value),ops.toList.drop i=os →
  pregN A E P M sz os t s.h (fun t h=>Q .normal t ds h) (X tl ds)→PW w0 s→TV s t.get arr→(TV s tl.get arr∧∀ o∈os,∀ i v,tl.get i=some v→o.dst≠some i)→arr.size=sz→(∀ i∈ds,i < s.h.next) →
  POut P w0 s sz b k cs Q X (lone (on b arr (dls s ds) (.inRegion ops ((List.range ops.size).drop i)::k)) cs s.w)
 |[],i,s,t,arr,hos,hp,hw,ht,htl,hsz,hds=>by
  have hle:ops.size≤i:=by simpa using hos
  have e0:(List.range ops.size).drop i=[]:=List.drop_eq_nil_of_le (by simpa using hle)
  rw [e0]
  exact ⟨s,arr,ds,hw,Ext.refl s,hsz,hds,.inl ⟨t,hp,ht,step_on hm (by simp [stepG.exec,on])⟩⟩
 |o :: os, i, s, t, arr, hos, hp, hw, ht, htl, hsz, hds => by
  have hlt:i < ops.size:=by
   rcases Nat.lt_or_ge i ops.size with h1 | h1
   ·exact h1
   ·rw [List.drop_eq_nil_of_le (by simpa using h1)] at hos;cases hos
  have hdr:=List.drop_eq_getElem_cons (l:=ops.toList) (i:=i) (by simpa using hlt)
  rw [hos] at hdr
  simp only [List.cons.injEq] at hdr
  obtain ⟨hd1,hd2⟩:=hdr
  have ho:ops[i]?=some o:=by rw [Array.getElem?_eq_getElem hlt,hd1];simp
  have er:(List.range ops.size).drop i=i::(List.range ops.size).drop (i+1):=by
   rw [List.drop_eq_getElem_cons (by simpa using hlt)]
   simp
  rw [er]
  obtain ⟨hdst,hg,hp⟩:=hp
  have hdst':dstIn arr.size o.dst=true:=by rw [hsz];exact hdst
  have hρ:∀ x v,pev t.get x=some v→RV s v ((on b arr (dls s ds) (.inRegion ops (i::(List.range ops.size).drop (i+1))::k)).eval x):=fun x v hx=>ev_on ht x v hx
  have hdid:Did P w0 s (fun v h'=>pregN A E P M sz os (tput t o.dst v) h' (fun t h=>Q .normal t ds h) (X tl ds)) (X tl ds) ((execOp (on b arr (dls s ds) (.inRegion ops (i::(List.range ops.size).drop (i+1))::k)).eval o).run P s.w)∧∀ c,o.op≠.defer c:=by
   rcases hp with hp | hp
   ·exact ⟨pop_ok hA hE hw hρ hp,pop_nodefer hp⟩
   ·refine ⟨nilc_ok hA hw hρ (fun v=>rfl) hp,fun c hc=>?_⟩
    unfold nilc at hp
    rw [hc] at hp
    exact hp
  rcases op_goN (b:=b) (k:=k) (cs:=cs) (dl:=dls s ds) (rest:=(List.range ops.size).drop (i+1)) hw ht hdid.1 hdid.2 ho (by simp [Region.wanted,hg]) hm with ⟨x,v,s',h1,h2,h3,h4,h5⟩ | ⟨x,v,s',todo,h1,h2,h3,h4,h5⟩
  ·refine POut.of_steps h5 (POut.ext h2 ?_)
   rw [← dls_ext h2 hds]
   exact preg_goN hA hE hm os (i+1) s' (tput t o.dst v) (putA arr o.dst x) hd2.symm h4 h1 ((ht.ext h2).put hdst' h3) ⟨(htl.1.ext h2).putNot (htl.2 o (by simp)),fun p hp=>htl.2 p (List.mem_cons_of_mem _ hp)⟩ (by rw [putA_size];exact hsz) fun j hj=>Nat.lt_of_lt_of_le (hds j hj) h2.next
  ·refine ⟨s',arr,ds,h1,h2,hsz,fun j hj=>Nat.lt_of_lt_of_le (hds j hj) h2.next,.inr (.inr ⟨tl,v,x,todo,h4,h3,htl.1.ext h2,?_⟩)⟩
   rw [dls_ext h2 hds]
   exact h5
theorem PWP.regionN (hA:A.Ok P) (hE:E.Ok P) {id:Nat} {ops:Array Oper} {rnd:Option Nat} {fi:FuncId} {Q:PQ} {X:T PV→List Nat→PV→PH→Prop} {t:T PV} {ds:List Nat} {h:PH} (hp:pregN A E P M sz ops.toList t h (fun t h=>Q .normal t ds h) (X (tless t ops.toList) ds)) :
  PWP P fi sz rnd (.region id ops false) Q X t ds h:=by
 intro w0 s arr b k cs a1 a2 a3 a4 a5 a6 a7 a8 a9
 subst a2
 refine POut.of_steps (step_on (k':=.inRegion ops (List.range ops.size)::k) a6 (by simp [stepG.exec,on])) ?_
 have:=preg_goN (k:=k) (cs:=cs) (M:=M) (b:=b) hA hE a6 ops.toList 0 s t arr rfl hp a1 a3 ⟨fun i v hi=>a3 i v (tless_get _ _ _ _ hi).1,fun o ho i v hi=>(tless_get _ _ _ _ hi).2 o ho⟩ a4 a5
 simpa using this
end
section
variable {C:Cx} {F:EQ} {X:EX} {k:List KI} {e:EL} {ds:List Nat} {h:PH}
theorem Run.nilS (hC:C.Ok) {id d1 d2 x ty:Nat} {y:Operand} {t0 ty1 ty2:TypeId} {p1 p2:String} {a1 a2:Array Edge} {tl:Tail} {vs:List PV} {el:TypeId}
  (hx:lget e x=some (.sl tl vs)) (hy:isNilSl y=true) (hs:C.A.under ty=some (.slice el)) (h1:Nat.blt d1 C.sz=true) (h2:Nat.blt d2 C.sz=true)
  (hr:∀ b:Bool,(vs≠[]→b=false)→Run C F X k ((d2,B b)::(d1,.sl tl vs)::e) ds h) :
  Run C F X (.c (.region id #[{ dst:=some d1,op:=.move (.tmp x),type:=ty1,pos:=p1,after:=a1,guard:=none },{ dst:=some d2,op:=.binOp .eql ty (.tmp d1) y t0,type:=ty2,pos:=p2,after:=a2,guard:=none }] false)::k) e ds h:=by
 refine Run.intro (PWP.regionN (M:=C.M) hC.A hC.E ?_)
 generalize toX X (tless (TE e) _) ds=Y
 refine ⟨h1,rfl,.inl ?_⟩
 have hm:pop C.A C.E C.P C.M (TE e).get h { dst:=some d1,op:=.move (.tmp x),type:=ty1,pos:=p1,after:=a1,guard:=none } (fun v h'=>pregN C.A C.E C.P C.M C.sz [{ dst:=some d2,op:=.binOp .eql ty (.tmp d1) y t0,type:=ty2,pos:=p2,after:=a2,guard:=none }] (tput (TE e) (some d1) v) h' (fun t h=>Pv.toQ (Ks C F X k) .normal t ds h) Y) Y:=by
  refine pop_of_pure (v:=.sl tl vs) (by simp only [ppure,pkind,pquiet,pev,TE_get,hx]) ?_
  refine ⟨h2,rfl,.inr ?_⟩
  refine ⟨hy,⟨el,hs⟩,tl,vs,by simp only [pev,tput,T.get_set,if_true],fun b hb=>?_⟩
  exact (hr b hb).toQ fun i v hi=>by
   have h3:=put_get (put_get (TE_getf e) d1 (.sl tl vs)) d2 (B b)
   have h4:=congrFun h3 i
   rw [hi] at h4
   exact h4
 exact hm
end
end Go.Pv
namespace Go.Pv
open Go.Am Go.RowKit
section
variable {C:Cx} {F:EQ} {X:EX} {k:List KI} {e:EL} {ds:List Nat} {h:PH}
theorem Run.drawB (hC:C.Ok) {id:Nat} {ops:Array Oper} (i:Nat) (ord:List (Nat×Bool×Bool)) (hd:drwS C.M ops.toList=some ord) (hr:DraS C F X k (fun h'=>h'.get i=h.get i) ops.toList ord e ds h):Run C F X (.c (.region id ops true)::k) e ds h :=
 Run.drawS hC _ ord hd hr
theorem StabS.at {t:TypeId} {a:Operand} {i o:Nat} {g:Option PBlk} {dd:Option Nat} {type:TypeId} {pos:String} {after:Array Edge} {guard:Option (Nat×Bool)} (ha:pev (lget e) a=some (.ptr i o)):StabS C.A C.E (fun h=>h.get i=g) (lget e) { dst:=dd,op:=.load t a,type,pos,after,guard }:=by
 intro h h' h1 h2
 simp only [pquiet,ha]
 unfold pload
 simp only [h1,h2]
end
end Go.Pv
