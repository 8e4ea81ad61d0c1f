/- Parts of the proof: Pv9, Pv10, Pv11, Am17, Am18, Am19 -/
import Derived.Test.YtkabfhoicdeehaaGreatP4
import Derived.Maps.RangeRun
import Derived.Test.YtkabfhoicdeehaaGreatP3
set_option linter.unusedVariables false
set_option linter.unusedSimpArgs false
set_option linter.unusedSectionVars false
namespace Go.Pv
open Go.Am Go.RowKit
def pcap (A:AP) (t:TypeId) (x:PV):Option PV :=
 match A.under t,x with
 |some (.slice _),.sl .ex l=>some (.lit (.int .i64 (.ofNat l.length)))
 |some (.slice _),.ms _ _ _ cap _=>some (.lit (.int .i64 (.ofNat cap)))
 |_,_=>none
def pquiet (A:AP) (E:Eqs) (ρ:Operand→Option PV) (h:PH) (o:Op):Option PV :=
 match o with
 |.move x=>ρ x
 |.assign x=>ρ x
 |.pick c a b=>match ρ c with
  |some (.lit (.bool true))=>ρ a
  |some (.lit (.bool false))=>ρ b
  |_=>none
 |.build t parts=>match pparts ρ parts.toList with
  |some ps=>pbuild A t ps
  |none=>none
 |.load t a=>match ρ a with
  |some v=>pload A h t v
  |none=>none
 |.nilCheck x=>match ρ x with
  |some v=>match pnilCheck A v with
   |true=>some v
   |false=>none
  |none=>none
 |.binOp op t x y _=>match ρ x,ρ y with
  |some a,some b=>pbin A E op t x y a b
  |_,_=>none
 |.unOp op _ x=>match ρ x with
  |some a=>pun op a
  |none=>none
 |.convert s d x=>match ρ x with
  |some a=>pconv A s d a
  |none=>none
 |.makeInterface t x=>match ρ x with
  |some a=>pmakeInterface A t a
  |none=>none
 |.makeFunc f first cap=>match pargs ρ first.toList,pargs ρ cap.toList with
  |some a,some b=>some (.fn f a b)
  |_,_=>none
 |.slice t x lo hi mx=>match mx,ρ x,popt ρ lo,popt ρ hi with
  |none,some v,some lo,some hi=>pslice A t v lo hi
  |some m,some v,some (some lo),some (some hi)=>match ρ m with
   |some m=>pslice3 A t v lo hi m
   |none=>none
  |_,_,_,_=>none
 |.fieldAddr t x f=>match ρ x with
  |some v=>pfieldAddr A t v f
  |none=>none
 |.field t x f=>match ρ x with
  |some v=>pfield A t v f
  |none=>none
 |.indexAddr t x i=>match ρ x,ρ i with
  |some v,some i=>pindexAddr A t v i
  |_,_=>none
 |.index t x i=>match ρ x,ρ i with
  |some v,some i=>pindex A t v i
  |_,_=>none
 |.lookup t x k ok=>match ρ x,ρ k with
  |some v,some k=>plookup A E h t v k ok
  |_,_=>none
 |.typeAssert x _ t ok=>match ρ x with
  |some v=>ptypeAssert A v t ok
  |none=>none
 |.extract x i=>match ρ x with
  |some (.tup l)=>l[i]?
  |_=>none
 |.call c=>match c.callee,c.argTypes.toList,pargs ρ c.args.toList with
  |.builtin .len,[t],some [x]=>plen A h t x
  |.builtin .min,_,some (x::xs)=>pminmax false x xs
  |.builtin .max,_,some (x::xs)=>pminmax true x xs
  |.builtin .cap,[t],some [x]=>pcap A t x
  |_,_,_=>none
 |_=>none
def pchunk (agg : Bool) (sz : Nat) : Nat → List PV → Option (List PV)
 |0,[]=>some []
 |0,_::_=>none
 |n + 1, cs => match agg with
  |true=>match Nat.ble sz cs.length,pchunk true sz n (cs.drop sz) with
   |true,some l=>some (.agg (cs.take sz)::l)
   |_,_=>none
  |false=>match cs with
   |v::cs'=>match v.isAgg,pchunk false sz n cs' with
    |false,some l=>some (v::l)
    |_,_=>none
   |[]=>none
def pfresh (A : AP) (ρ : Operand → Option PV) (o : Op) : Option PV :=
 match o with
 |.alloc t=>match pzero A t with
  |some v=>some (.fp v)
  |none=>none
 |.box _ x=>match ρ x with
  |some v=>some (.fp v)
  |none=>none
 |.buildSlice t len parts=>match pparts ρ parts.toList with
  |some ps=>match pbuildCells A t len ps with
   |some (e,cs)=>match A.under e,A.info e with
    |some d,some ti=>match isAggB d || Nat.beq ti.size 1 with
     |true=>match pchunk (isAggB d) ti.size len cs with
      |some l=>some (.sl .ex l)
      |none=>none
     |false=>none
    |_,_=>none
   |none=>none
  |none=>none
 |_=>none
section
variable {s:St} {A:AP} {P:Program} {E:Eqs} {w0:Base}
theorem pquiet_ok (hA:A.Ok P) (hE:E.Ok P) (hw:PW w0 s) {ρ:Operand→Option PV} {ρ':Operand→Value} (hρ:∀ x v,ρ x=some v→RV s v (ρ' x)) {o:Oper} {v:PV}
  (h:pquiet A E ρ s.h o.op=some v):∃ r,(execOp ρ' o).run P s.w=.ok (.value r) s.w∧RV s v r:=by
 have pure:∀ {m:Sem Value},(∃ r,m.run P s.w=.ok r s.w∧RV s v r)→∃ r,((do let x ← m;pure (.value x):Sem Next).run P s.w)=.ok (.value r) s.w∧RV s v r:=by
  rintro m ⟨r,r1,r2⟩
  exact ⟨r,by simp [r1],r2⟩
 unfold pquiet at h
 split at h
 ·next x ho=>exact ⟨ρ' x,by simp only [execOp,ho];rfl,hρ _ _ h⟩
 ·next x ho=>exact ⟨ρ' x,by simp only [execOp,ho];rfl,hρ _ _ h⟩
 ·next c a b ho =>
  split at h
  ·next hc =>
   have hcv:=(RV_lit.1 (hρ _ _ hc)).2
   simp only [VR] at hcv
   exact ⟨ρ' a,by simp [execOp,ho,hcv,asBool],hρ _ _ h⟩
  ·next hc =>
   have hcv:=(RV_lit.1 (hρ _ _ hc)).2
   simp only [VR] at hcv
   exact ⟨ρ' b,by simp [execOp,ho,hcv,asBool],hρ _ _ h⟩
  ·cases h
 ·next t parts ho =>
  split at h
  case h_2=>cases h
  next ps hps =>
  simp only [execOp,ho]
  refine pure (pbuild_ok hA h ?_)
  have:=pparts_ok hρ _ _ hps
  simpa using this
 ·next t a ho =>
  split at h
  case h_2=>cases h
  next u hu =>
  simp only [execOp,ho]
  exact pure (pload_ok hA hw h (hρ _ _ hu))
 ·next x ho =>
  split at h
  case h_2=>cases h
  next u hu =>
  split at h
  case h_2=>cases h
  next hn =>
  cases h
  exact ⟨ρ' x,pnilCheck_ok hA hn (hρ _ _ hu) o x ho ρ' rfl,hρ _ _ hu⟩
 ·next op t x y yt ho =>
  split at h
  case h_2=>cases h
  next a b ha hb =>
  simp only [execOp,ho]
  exact pure (pbin_ok hA hE h (hρ _ _ ha) (hρ _ _ hb) s.w)
 ·next op t x ho =>
  split at h
  case h_2=>cases h
  next a ha =>
  simp only [execOp,ho]
  exact pure (pun_ok h (hρ _ _ ha) s.w)
 ·next sr d x ho =>
  split at h
  case h_2=>cases h
  next a ha =>
  simp only [execOp,ho]
  exact pure (pconv_ok hA h (hρ _ _ ha) s.w)
 ·next t x ho =>
  split at h
  case h_2=>cases h
  next a ha =>
  simp only [execOp,ho]
  exact pure (pmakeInterface_ok hA h (hρ _ _ ha) s.w)
 ·next f first cap ho =>
  split at h
  case h_2=>cases h
  next a b ha hb =>
  cases h
  have h1:=pargs_ok hρ _ _ ha
  have h2:=pargs_ok hρ _ _ hb
  refine ⟨.func f (first.map ρ') (cap.map ρ'),?_,RV_fn.2 ⟨_,_,rfl,by simpa using h1,by simpa using h2⟩⟩
  simp [execOp,ho,Instr.makeFunc]
 ·next t x lo hi mx ho =>
  split at h
  case h_3=>cases h
  ·next u lo' hi' hu hlo hhi =>
   simp only [execOp,ho]
   exact pure (pslice_ok hA h (hρ _ _ hu) (popt_ok hρ hlo) (popt_ok hρ hhi) s.w)
  ·next m u lo' hi' hu hlo hhi =>
   split at h
   case h_2=>cases h
   next m' hm' =>
   simp only [execOp,ho]
   exact pure (pslice3_ok hA h (hρ _ _ hu) (popt_ok hρ hlo) (popt_ok hρ hhi) (hρ _ _ hm') s.w)
 ·next t x f ho =>
  split at h
  case h_2=>cases h
  next u hu =>
  simp only [execOp,ho]
  exact pure (pfieldAddr_ok hA h (hρ _ _ hu) s.w)
 ·next t x f ho =>
  split at h
  case h_2=>cases h
  next u hu =>
  simp only [execOp,ho]
  exact pure (pfield_ok hA h (hρ _ _ hu) s.w)
 ·next t x i ho =>
  split at h
  case h_2=>cases h
  next u j hu hj =>
  simp only [execOp,ho]
  exact pure (pindexAddr_ok hA h (hρ _ _ hu) (hρ _ _ hj) s.w)
 ·next t x i ho =>
  split at h
  case h_2=>cases h
  next u j hu hj =>
  simp only [execOp,ho]
  exact pure (pindex_ok hA h (hρ _ _ hu) (hρ _ _ hj) s.w)
 ·next t x k ok ho =>
  split at h
  case h_2=>cases h
  next u j hu hj =>
  simp only [execOp,ho]
  exact pure (plookup_ok hA hE hw h (hρ _ _ hu) (hρ _ _ hj))
 ·next x xt t ok ho =>
  split at h
  case h_2=>cases h
  next u hu =>
  simp only [execOp,ho]
  exact pure (ptypeAssert_ok hA h (hρ _ _ hu) s.w)
 ·next x i ho =>
  split at h
  case h_2=>cases h
  next l hl =>
  simp only [execOp,ho]
  exact pure (pextract_ok h (hρ _ _ hl) s.w)
 ·next c ho =>
  have two:∀ (b:Builtin),c.callee=.builtin b→∃ cs,(execOp ρ' o).run P s.w=(builtin b c.argTypes o.type cs (c.args.map ρ')).run P s.w:=by
   intro b hb
   simp only [execOp,ho,resolve,hb,pure_bind,invoke]
   exact ⟨_,rfl⟩
  split at h
  ·next t x hc hts hargs =>
   have hx:=pargs_ok hρ _ _ hargs
   obtain ⟨y,ys,e1,e2,e3⟩:=RVs_cons.1 hx
   rw [RVs_nil.1 e3] at e1
   have harr:c.args.map ρ'=#[y]:=by apply Array.ext';simpa using e1
   have htt:c.argTypes=#[t]:=by apply Array.ext';simpa using hts
   obtain ⟨r,r1,r2⟩:=plen_ok (ty:=o.type) hA hw h e2
   obtain ⟨cs,e0⟩:=two _ hc
   refine ⟨r,?_,r2⟩
   rw [e0,harr,htt]
   simp [builtin,r1]
  ·next xs0 x xs hc hargs =>
   unfold pminmax at h
   split at h
   case h_2=>cases h
   next a as ha has =>
   obtain ⟨u,hu,hv⟩:=plit_ok h
   have hx:=pargs_ok hρ _ _ hargs
   obtain ⟨y,ys,e1,e2,e3⟩:=RVs_cons.1 hx
   obtain ⟨r,r1,r2⟩:=aminmax_ok (w:=s.w) (P:=P) (mx:=false) as a u ys y hu (PV.toAV_ok _ _ _ ha e2) (PV.toAVs_ok _ _ _ has e3)
   obtain ⟨cs,e0⟩:=two _ hc
   refine ⟨r,?_,back_ok hv r2⟩
   have e1':(c.args.map ρ').toList=y::ys:=by simpa using e1
   rw [e0]
   simp only [builtin,Builtin.min_,e1',Sem.run_bind]
   rw [r1]
   rfl
  ·next xs0 x xs hc hargs =>
   unfold pminmax at h
   split at h
   case h_2=>cases h
   next a as ha has =>
   obtain ⟨u,hu,hv⟩:=plit_ok h
   have hx:=pargs_ok hρ _ _ hargs
   obtain ⟨y,ys,e1,e2,e3⟩:=RVs_cons.1 hx
   obtain ⟨r,r1,r2⟩:=aminmax_ok (w:=s.w) (P:=P) (mx:=true) as a u ys y hu (PV.toAV_ok _ _ _ ha e2) (PV.toAVs_ok _ _ _ has e3)
   obtain ⟨cs,e0⟩:=two _ hc
   refine ⟨r,?_,back_ok hv r2⟩
   have e1':(c.args.map ρ').toList=y::ys:=by simpa using e1
   rw [e0]
   simp only [builtin,Builtin.max_,e1',Sem.run_bind]
   rw [r1]
   rfl
  ·next t x hc hts hargs =>
   have hx:=pargs_ok hρ _ _ hargs
   obtain ⟨y,ys,e1,e2,e3⟩:=RVs_cons.1 hx
   rw [RVs_nil.1 e3] at e1
   have harr:c.args.map ρ'=#[y]:=by apply Array.ext';simpa using e1
   have htt:c.argTypes=#[t]:=by apply Array.ext';simpa using hts
   obtain ⟨cs,e0⟩:=two _ hc
   have nat:∀ n:Nat,RV s (.lit (.int .i64 (.ofNat n))) (goInt n):=fun n=>RV_lit.2 ⟨rfl,by simp only [VR,goInt];rfl⟩
   unfold pcap at h
   split at h
   ·next el l hu =>
    cases h
    refine ⟨goInt l.length,?_,nat _⟩
    rw [e0,harr,htt]
    rcases RV_sl.1 e2 with ⟨rfl,_,ad,rfl⟩ | ⟨k,o,c',sz,rfl,_,_,h3⟩
    ·simp [builtin,Builtin.cap_,run_underlying (hA.under_ok hu)]
    ·have h3:c'=l.length:=h3
     subst h3
     simp [builtin,Builtin.cap_,run_underlying (hA.under_ok hu)]
   ·next el i o len cap ez hu =>
    cases h
    obtain ⟨_,rfl⟩:=RV_ms.1 e2
    refine ⟨goInt cap,?_,nat _⟩
    rw [e0,harr,htt]
    simp [builtin,Builtin.cap_,run_underlying (hA.under_ok hu)]
   ·cases h
  ·cases h
 ·cases h
theorem RM_of_cells {v:PV} {k o:Nat} (h:RMs s v.cells k o):RM s v k o:=by
 cases hv:v.isAgg with
 |true =>
  cases v<;>simp only [PV.isAgg,Bool.false_eq_true] at hv
  exact RM_agg.2 h
 |false =>
  have:v.cells=[v]:=by cases v<;>first | rfl | (simp [PV.isAgg] at hv)
  rw [this] at h
  exact (RM_one hv).2 (RMs_cons.1 h).1
theorem RMs_of_row {l:List PV} {arr:List Value} (h:RVs s l arr) {k o:Nat} (hc:∀ j y,arr[j]?=some y→s.fcell k (o+j)=some y):RMs s l k o :=
 RMs.of_get fun _ _ ha=>let ⟨y,h1,h2⟩:=h.get ha;⟨y,hc _ _ h1,h2⟩
theorem fcell_new {s':St} {k n j:Nat} {own:Option Nat} {arr:Array Value} {t:TypeId} {z:Nat×Nat} {y:Value} (hk:s'.σ k=.fz n own) (hj:j < n) (hb:s'.w.heap[k]?=some (.cells arr t z)) (hy:arr[j]?=some y):s'.fcell k j=some y :=
 fcell_of hk hj (by simp [World.cell?,hb,hy])
theorem fresh_cells (hw:PW w0 s) (arr:Array Value) (t:TypeId) {l:List PV} (hl:RVs s l arr.toList) :
  ∃ s':St,s'.w=s.w.alloc (.cells arr t)∧PW w0 s'∧Ext s s'∧s'.h=s.h∧RMs s' l s.w.heap.size 0:=by
 have hx:=Ext.fresh (o:=.cells arr t) hw (bs:=.fz arr.size none) rfl
 refine ⟨s.fresh (.fz arr.size none) (.cells arr t),rfl,hw.fresh rfl (fun _ _ _ e=>by cases e;exact Nat.le_refl _),hx,rfl,RMs_of_row ((R2s.ext hx l).1 _ hl) fun j y hj=>?_⟩
 have hlt:j < arr.size:=by
  have:=(List.getElem?_eq_some_iff.1 hj).1
  simpa using this
 rw [Nat.zero_add]
 exact fcell_new (upd_self _ _ _) hlt (heap_alloc_new _ _) (by simpa using hj)
theorem REs_of_chunk {agg:Bool} {sz:Nat} (h1:agg=false→sz=1):∀ (n:Nat) (cs l:List PV) (k o:Nat),pchunk agg sz n cs=some l→RMs s cs k o→REs s l sz k o∧l.length=n
 |0,[],l,k,o,h,hm=>by cases h;exact ⟨REs_nil,rfl⟩
 |0,_::_,l,k,o,h,hm=>by cases h
 |n+1,cs,l,k,o,h,hm=>by
  simp only [pchunk] at h
  split at h
  ·split at h
   case h_2=>cases h
   next l' hle hl' =>
   cases h
   rw [Nat.ble_eq] at hle
   have hm':RMs s (cs.take sz++cs.drop sz) k o:=by rw [List.take_append_drop];exact hm
   obtain ⟨p1,p2⟩:=RMs.append.1 hm'
   have hlen:(cs.take sz).length=sz:=by simp;omega
   rw [hlen] at p2
   obtain ⟨q1,q2⟩:=REs_of_chunk h1 n _ l' k _ hl' p2
   exact ⟨REs_cons.2 ⟨hlen,RM_agg.2 p1,q1⟩,by simp [q2]⟩
  ·next =>
   have hs:=h1 rfl
   subst hs
   split at h
   case h_2=>cases h
   next v cs' =>
   split at h
   case h_2=>cases h
   next l' hv hl' =>
   cases h
   obtain ⟨p1,p2⟩:=RMs_cons.1 hm
   obtain ⟨q1,q2⟩:=REs_of_chunk h1 n _ l' k _ hl' p2
   refine ⟨REs_cons.2 ⟨?_,(RM_one hv).2 p1,q1⟩,by simp [q2]⟩
   cases v<;>first | rfl | (simp [PV.isAgg] at hv)
theorem pfresh_ok (hA:A.Ok P) (hw:PW w0 s) {ρ:Operand→Option PV} {ρ':Operand→Value} (hρ:∀ x v,ρ x=some v→RV s v (ρ' x)) {o:Oper} {v:PV}
  (h:pfresh A ρ o.op=some v):∃ r s',(execOp ρ' o).run P s.w=.ok (.value r) s'.w∧PW w0 s'∧Ext s s'∧s'.h=s.h∧RV s' v r:=by
 unfold pfresh at h
 split at h
 ·next t ho =>
  split at h
  case h_2=>cases h
  next u hu =>
  cases h
  obtain ⟨z,z1,z2⟩:=pzero_ok (s:=s) hA hu s.w
  obtain ⟨s',e1,e2,e3,e4,e5⟩:=fresh_cells hw z.cells t z2.cells
  refine ⟨.pointer (some ⟨s.w.heap.size,0,none⟩),s',?_,e2,e3,e4,RV_fp.2 ⟨_,_,rfl,RM_of_cells e5⟩⟩
  rw [e1]
  simp [execOp,ho,Instr.alloc,z1,Go.newVar,newRow]
 ·next t x ho =>
  split at h
  case h_2=>cases h
  next u hu =>
  cases h
  obtain ⟨s',e1,e2,e3,e4,e5⟩:=fresh_cells hw (ρ' x).cells t (hρ _ _ hu).cells
  refine ⟨.pointer (some ⟨s.w.heap.size,0,none⟩),s',?_,e2,e3,e4,RV_fp.2 ⟨_,_,rfl,RM_of_cells e5⟩⟩
  rw [e1]
  simp [execOp,ho,Instr.box,Go.newVar,newRow]
 ·next t len parts ho =>
  split at h
  case h_2=>cases h
  next ps hps =>
  split at h
  case h_2=>cases h
  next e cs hcs =>
  split at h
  case h_2=>cases h
  next d ti hu hi =>
  split at h
  case h_2=>cases h
  next hag =>
  split at h
  case h_2=>cases h
  next l hl =>
  cases h
  have hpr:=pparts_ok hρ _ _ hps
  obtain ⟨xs,x1,x2⟩:=pbuildCells_ok (w:=s.w) hA hcs (ps:=parts.map fun (i,x)=>(i,ρ' x)) (by simpa using hpr)
  obtain ⟨s',e1,e2,e3,e4,e5⟩:=fresh_cells hw xs e x1
  have h1:isAggB d=false→ti.size=1:=by
   intro hd
   rw [hd,Bool.false_or] at hag
   exact Nat.eq_of_beq_eq_true hag
  obtain ⟨q1,q2⟩:=REs_of_chunk h1 len cs l _ _ hl e5
  refine ⟨.slice (some ⟨s.w.heap.size,0,none⟩) len len,s',by rw [e1];simp only [execOp,ho,Sem.run_bind,x2];rfl,e2,e3,e4,RV_sl.2 (.inr ⟨_,_,len,ti.size,by rw [q2],by omega,q1,q2.symm⟩)⟩
 ·cases h
end
end Go.Pv
namespace Go.Pv
open Go.Am Go.RowKit
def PV.allOne:List PV→Bool
 |[]=>true
 |v::vs=>v.one && PV.allOne vs
def pputs (l:List PV) (o:Nat) (vs:List PV):List PV:=l.take o++vs++l.drop (o+vs.length)
def PStore (A:AP) (h:PH) (t:TypeId) (a v:PV) (K:PV→PH→Prop):Prop :=
 match A.info t,a with
 |some ti,.ptr i o=>(∃ l,h.get i=some (.cells l)∧v.nc=ti.size∧o+v.nc≤l.length∧PV.allOne v.cells=true∧K (.tup []) (h.put i (.cells (pputs l o v.cells)))) ∨
   ∃ n,h.get i=some (.raw n 0 [])∧v.nc=1∧ti.size=1∧o < n∧PV.allOne v.cells=true∧K (.tup []) h
 |_,_=>False
def ezOf (A:AP) (e:TypeId):Option Nat :=
 match A.under e,A.info e with
 |some d,some ti=>match isAggB d with
  |true=>some ti.size
  |false=>none
 |_,_=>none
def PMake (A:AP) (h:PH) (t:TypeId) (n m:Int) (K:PV→PH→Prop):Prop :=
 match A.under t with
 |some (.slice e)=>match A.info e with
  |some ie=>∃ (l c:Nat) (zs:List AV) (vs:List PV),n=l∧m=c∧l≤c∧c≤1000000000∧ie.bytes * c≤140737488355328∧azeros A e c=some zs∧PV.ofAVs zs=some vs∧K (.ms h.next 0 l c (ezOf A e)) (h.add (.cells vs))
  |none=>False
 |_=>False
def flat:List PV→List PV
 |[]=>[]
 |v::vs=>v.cells++flat vs
def Each (p:PV→Prop):List PV→Prop
 |[]=>True
 |v::vs=>p v∧Each p vs
def PAppend (A:AP) (h:PH) (t tx:TypeId) (s x:PV) (K:PV→PH→Prop):Prop :=
 match A.under t,A.under tx with
 |some (.slice e), some (.slice _) => match A.info e with
  |some ti => match s, x with
   |.ms i 0 len cap ez,.sl _ news=>(∃ l post,len=l.length∧h.get i=some (.cells (flat l++post))∧Each (fun v=>v.nc=ti.size) l∧Each (fun v=>v.nc=ti.size∧PV.allOne v.cells=true) news ∧
     news.length * ti.size≤post.length∧l.length+news.length≤cap∧K (.sl .no (l++news)) (h.del i)) ∨
     ∃ l post,len=l.length∧len≤cap∧h.get i=some (.cells (flat l++post))∧post.length=(cap - len) * ti.size∧Each (fun v=>v.nc=ti.size) l∧Each (fun v=>v.nc=ti.size∧PV.allOne v.cells=true) news ∧
      (l.length+news.length) * ti.bytes≤140737488355328∧l.length+news.length≤1000000000∧(∀ n,∃ zs vs,azeros A e n=some zs∧PV.ofAVs zs=some vs) ∧
      (∀ vs,l.length+news.length≤cap→vs.length=(cap - (l.length+news.length)) * ti.size→K (.ms i 0 (l.length+news.length) cap ez) (h.put i (.cells (flat (l++news)++vs)))) ∧
      ∀ c vs,l.length+news.length≤c→vs.length=(c - (l.length+news.length)) * ti.size→K (.ms h.next 0 (l.length+news.length) c (ezOf A e)) (h.add (.cells (flat (l++news)++vs)))
   |.sl tl l, .sl _ news => (news = [] ∧ K (.sl tl l) h) ∨
     (news ≠ [] ∧ (l.length + news.length) * ti.bytes ≤ 140737488355328 ∧ l.length + news.length ≤ 1000000000 ∧ 1 ≤ ti.size ∧ zeroOk ti = true ∧ Each (fun v => v.nc = ti.size) l ∧ Each (fun v => v.nc = ti.size ∧ PV.allOne v.cells = true) news ∧
      match tl with
      |.no=>False
      |.ex=>K (.sl (.own h.next) (l++news)) (h.add .own)∨K (.sl .no (l++news)) h.step ∨
        ((∀ n, ∃ zs vs, azeros A e n = some zs ∧ PV.ofAVs zs = some vs) ∧
         ∀ c vs,l.length+news.length≤c→vs.length=(c - (l.length+news.length)) * ti.size→K (.ms h.next 0 (l.length+news.length) c (ezOf A e)) (h.add (.cells (flat (l++news)++vs))))
      |.own i=>l≠[]∧h.get i=some .own∧K (.sl (.own h.next) (l++news)) ((h.del i).add .own))
   |.sl .ex l,.ms j o len _ _=>∃ n news,h.get j=some (.raw n o news)∧len=news.length∧news≠[]∧(l.length+news.length) * ti.bytes≤140737488355328∧l.length+news.length≤1000000000∧ti.size=1∧zeroOk ti=true ∧
     Each (fun v=>v.nc=ti.size) l∧(∀ v∈news,v.isAgg=false)∧K (.sl .no (l++news)) h.step
   |.ms i 0 len cap ez,.ms j o n _ _=>∃ b,j=i∧h.get i=some (.cells b)∧len+n≤cap∧len * ti.size+n * ti.size≤b.length∧o+n * ti.size≤b.length∧PV.allOne ((b.drop o).take (n * ti.size))=true ∧
     K (.ms i 0 (len+n) cap ez) (h.put i (.cells (pputs b (len * ti.size) ((b.drop o).take (n * ti.size)))))
   |_,_=>False
  |none=>False
 |some (.slice e),some (.int _)=>match A.info e with
  |some ti=>match s,x with
   |.sl .ex [],.lit (.int _ n)=>∃ m:Nat,n=(m:Int)∧1≤m∧m≤1000000000∧m * ti.bytes≤140737488355328∧(∀ n,∃ zs vs,azeros A e n=some zs∧PV.ofAVs zs=some vs) ∧
     ∀ c vs,m≤c→vs.length=c * ti.size→K (.ms h.next 0 m c (ezOf A e)) (h.add (.cells vs))
   |_,_=>False
  |none=>False
 |_,_=>False
section
variable {s:St} {A:AP} {P:Program} {E:Eqs} {w0:Base}
theorem allOne_ok':∀ {v:List PV} {x:List Value},PV.allOne v=true→RVs s v x→∀ y∈x,y.oneCell'=true
 |[],x,_,h=>by rw [RVs_nil] at h;subst h;simp
 |v::vs,x,e,h=>by
  obtain ⟨y,ys,rfl,h1,h2⟩:=RVs_cons.1 h
  simp only [PV.allOne,Bool.and_eq_true] at e
  intro z hz
  rcases List.mem_cons.1 hz with rfl | hz
  ·exact h1.one e.1
  ·exact allOne_ok' e.2 h2 z hz
theorem PW.hlt (h:PW w0 s) {i:Nat} {b:PBlk} (hi:s.h.get i=some b):i < s.h.next:=(h.hp i b hi).1
theorem put_raw {h:PH} {i n:Nat} (hi:h.get i=some (.raw n 0 [])):h.put i (.raw n 0 [])=h:=by
 obtain ⟨g,m⟩:=h
 simp only [PH.put,PH.mk.injEq,and_true]
 funext x
 by_cases hx:x=i
 ·subst hx
  simp only [if_true]
  exact hi.symm
 ·simp only [if_neg hx]
theorem praw_ok (hw:PW w0 s) {i o n:Nat} {y:Value} (hn:s.h.get i=some (.raw n 0 [])) (ho:o < n) (hy:y.oneCell'=true) :
  ∃ s',(storeCells ⟨s.e i,o,none⟩ [y]).run P s.w=.ok () s'.w∧PW w0 s'∧Ext s s'∧s'.h=s.h:=by
 obtain ⟨hi,hb,arr,t,z,g1,g2,g3,_⟩:=hw.hp i _ hn
 have hl:=(BAt_live (b:=.raw n 0 []) rfl).1 hb
 have hcold:Cold (.cells arr t z):=fun _ _ _ e=>by cases e;exact g2
 have hlt:o < arr.size:=by omega
 have hcell:s.w.cell? ⟨s.e i,o,none⟩=some arr[o]:=by simp [World.cell?,g1,hlt]
 have hfro:s.w.frozen? ⟨s.e i,o,none⟩=false:=hcold.frozen g1
 have hadd:(⟨s.e i,o,none⟩:Addr).add 0=⟨s.e i,o,none⟩:=by unfold Addr.add;split<;>simp_all
 have hst:(store ((⟨s.e i,o,none⟩:Addr).add 0) y).run P s.w=.ok () (s.w.setRow (s.e i) (arr.setIfInBounds o y)):=by
  rw [hadd,run_store P s.w _ y _ hy,hcell]
  simp [hfro,setCell_eq_setRow s.w (s.e i) o arr t z y g1]
 have hu:Upd s.w (s.w.setRow (s.e i) (arr.setIfInBounds o y)) (s.e i) (.cells (arr.setIfInBounds o y) t z) :=
  ⟨rfl,rfl,rfl,by simp [World.setRow],setRow_heap s.w (s.e i) arr _ t z g1,fun k hk=>setRow_other s.w (s.e i) k _ (by omega)⟩
 refine ⟨s.put i (.raw n 0 []) (s.w.setRow (s.e i) (arr.setIfInBounds o y)),?_,?_,Ext.put hl (Nat.le_of_eq hu.size.symm) fun k hk=>hu.old k hk,put_raw hn⟩
 ·simp only [storeCells,Sem.run_bind,hst,Result.andThen_ok]
  rfl
 ·exact hw.put hi hl rfl hu (fun _ _ _ e=>by cases e;exact g2) ⟨_,t,z,hu.new,g2,by simpa using g3,[],RVs_nil.2 rfl,fun j y hj=>by simp at hj⟩
theorem pstore_ok (hA:A.Ok P) (hw:PW w0 s) {t:TypeId} {a v:PV} {K:PV→PH→Prop} (h:PStore A s.h t a v K) {ax x:Value} (ha:RV s a ax) (hx:RV s v x) :
  ∃ s',(Instr.storeAt t ax x).run P s.w=.ok () s'.w∧PW w0 s'∧Ext s s'∧K (.tup []) s'.h:=by
 unfold PStore at h
 split at h
 case h_2=>exact h.elim
 next ti i o hti =>
 obtain ⟨hi,rfl⟩:=RV_ptr.1 ha
 rcases h with ⟨l,hl,h1,h2,h3,h4⟩ | ⟨n,hn,h1,h2,h3,h4,h5⟩
 case inr =>
  have hc:=hx.cells
  have hcl:=hc.length
  rw [PV.cells_length,h1] at hcl
  simp only [Array.length_toList] at hcl
  obtain ⟨y,hy⟩:∃ y,x.cells.toList=[y]:=by
   have:x.cells.toList.length=1:=by simp [hcl]
   match hq:x.cells.toList,this with
   |[y],_=>exact ⟨y,rfl⟩
  obtain ⟨s',q1,q2,q3,q4⟩:=praw_ok (P:=P) hw hn h3 (allOne_ok' h4 hc y (by rw [hy];simp))
  refine ⟨s',?_,q2,q3,by rw [q4];exact h5⟩
  simp only [Instr.storeAt,Instr.sureAddr,pure_bind,storeVar,sizeOf,Sem.run_bind,run_typeInfo' (hA.info _ _ hti),Result.andThen_ok]
  rw [hy]
  have:x.cells.size=ti.size:=by omega
  simp [this]
  exact q1
 obtain ⟨arr,t',e1,e2,_,e4⟩:=hw.cells hl
 have e4:=(BAt_live (b:=.cells l) rfl).1 e4
 have hc:=hx.cells
 have hcl:=hc.length
 have hlen:=e2.length
 rw [PV.cells_length] at hcl
 simp only [Array.length_toList] at hcl hlen
 have hrun:=run_storeCells_at P (s.e i) o t' x.cells.toList 0 arr s.w e1 (by simp;omega) (allOne_ok' h3 hc)
 simp only [Nat.add_zero,Array.length_toList] at hrun
 have hu:=upd_setRow s.w (s.e i) arr (arr.toList.take o++x.cells.toList++arr.toList.drop (o+x.cells.size)).toArray t' e1
 have hx':Ext s (s.put i (.cells (pputs l o v.cells)) (s.w.setRow (s.e i) (arr.toList.take o++x.cells.toList++arr.toList.drop (o+x.cells.size)).toArray)):=Ext.put e4 (Nat.le_of_eq hu.size.symm) fun k hk=>hu.old k hk
 refine ⟨s.put i (.cells (pputs l o v.cells)) (s.w.setRow (s.e i) (arr.toList.take o++x.cells.toList++arr.toList.drop (o+x.cells.size)).toArray),?_,?_,hx',h4⟩
 ·simp only [Instr.storeAt,Instr.sureAddr,pure_bind,storeVar,sizeOf,Sem.run_bind,run_typeInfo' (hA.info _ _ hti),Result.andThen_ok]
  have:x.cells.size=ti.size:=by omega
  simp [this] at hrun ⊢
  exact hrun
 ·refine hw.put hi e4 rfl hu (fun _ _ _ e=>by cases e;exact Nat.le_refl _) ⟨_,t',hu.new,?_⟩
  refine (R2s.ext hx' (pputs l o v.cells)).1 _ ?_
  unfold pputs
  rw [PV.cells_length,← hcl]
  exact ((e2.take o).append hc).append (e2.drop _)
theorem pmake_ok (hA:A.Ok P) (hw:PW w0 s) {t:TypeId} {n m:Int} {K:PV→PH→Prop} (h:PMake A s.h t n m K) (k1 k2:IntKind) :
  ∃ r v s',(Instr.makeSlice t (.int k1 n) (.int k2 m)).run P s.w=.ok r s'.w∧PW w0 s'∧Ext s s'∧RV s' v r∧K v s'.h:=by
 unfold PMake at h
 split at h
 case h_2=>exact h.elim
 next el hu =>
 split at h
 case h_2=>exact h.elim
 next ie hie =>
 obtain ⟨l,c,zs,vs,rfl,rfl,hb1,hb2,hb3,hzs,hvs,hK⟩:=h
 obtain ⟨ie',z,z0,z1,z2,z3,z4,z5,z6⟩:=azeros_ok (m:=noEnv) hA hzs
 rw [hie] at z0
 cases z0
 have wl:IntKind.i64.wrap (l:Int)=(l:Int):=wrap_in _ (by omega) (by omega)
 have wc:IntKind.i64.wrap (c:Int)=(c:Int):=wrap_in _ (by omega) (by omega)
 have hbig:¬ ((ie.bytes:Int) * (c:Int) > 2 ^ 48):=by
  have e1:((ie.bytes:Int) * (c:Int))=((ie.bytes * c:Nat):Int):=by simp
  rw [e1]
  have:(2:Int) ^ 48=281474976710656:=rfl
  omega
 have hbig':¬ ((2:Int) ^ 48 < (ie.bytes:Int) * (c:Int)):=hbig
 have hlc:¬ ((c:Int) < (l:Int)):=by omega
 have hne:¬ (c * ie.size=0∧False):=by simp
 have hrvs:∀ s':St,RVs s' vs _:=fun s'=>PV.ofAVs_ok zs vs _ hvs z6
 have fin:∀ arr:Array Value,RVs (s.new (.cells vs) (.cells arr el)) vs arr.toList→PW w0 (s.new (.cells vs) (.cells arr el)):=fun arr ha =>
  hw.new (fun _ _ _ e=>by cases e;exact Nat.le_refl _) rfl ⟨arr,el,heap_alloc_new _ _,ha⟩
 refine ⟨.slice (some ⟨s.w.heap.size,0,none⟩) l c,.ms s.h.next 0 l c (ezOf A el),s.new (.cells vs) (.cells _ el),?_,fin _ (hrvs _),Ext.new hw,RV_ms.2 ⟨Nat.lt_succ_self _,by simp [St.new,upd_self]⟩,hK⟩
 by_cases hc0:c=0
 ·subst hc0
  have e0:∀ (f:Nat→Value),Array.map f (Array.range 0)=#[]:=fun f=>by simp [Array.range]
  have hl0:l=0:=by omega
  subst hl0
  have w0':IntKind.i64.wrap 0=0:=by simpa using wl
  simp [Instr.makeSlice,run_underlying (hA.under_ok hu),asInt,asIntOf,run_typeInfo' z1,w0',sizeOf,newRow,e0,St.new]
 ·have hcs:¬ (c * ie.size=0):=by
   have:1 * 1≤c * ie.size:=Nat.mul_le_mul (by omega) z4
   omega
  have hcs':¬ (c=0∨ie.size=0):=by omega
  have hcond:¬ (((c:Int) < 0∨281474976710656 < (ie.bytes:Int) * (c:Int))∨(l:Int) < 0):=by
   have:(2:Int) ^ 48=281474976710656:=rfl
   omega
  simp [Instr.makeSlice,run_underlying (hA.under_ok hu),asInt,asIntOf,run_typeInfo' z1,wl,wc,hlc,sizeOf,hcs,zeroValue,z2,newRow,St.new]
  exact fun hcc=>absurd hcc hcond
theorem RM.cells {v:PV} {k o:Nat} (h:RM s v k o):RMs s v.cells k o:=by
 cases hv:v.isAgg with
 |true =>
  cases v<;>simp only [PV.isAgg,Bool.false_eq_true] at hv
  exact RM_agg.1 h
 |false =>
  have:v.cells=[v]:=by cases v<;>first | rfl | (simp [PV.isAgg] at hv)
  rw [this]
  exact RMs_cons.2 ⟨(RM_one hv).1 h,RMs_nil⟩
theorem REs.toFlat {l:List PV} {sz k o:Nat} (h:REs s l sz k o):RMs s (flat l) k o∧(flat l).length=l.length * sz:=by
 induction l generalizing o with
 |nil=>exact ⟨RMs_nil,by simp [Go.Pv.flat]⟩
 |cons v vs ih =>
  obtain ⟨h1,h2,h3⟩:=REs_cons.1 h
  obtain ⟨p1,p2⟩:=ih h3
  simp only [Go.Pv.flat]
  refine ⟨RMs.append.2 ⟨h2.cells,?_⟩,?_⟩
  ·rw [PV.cells_length,h1];exact p1
  ·rw [List.length_append,PV.cells_length,h1,p2,List.length_cons,Nat.add_mul];omega
theorem REs.of_flat {l:List PV} {sz k o:Nat} (hn:Each (fun v=>v.nc=sz) l) (h:RMs s (flat l) k o):REs s l sz k o:=by
 induction l generalizing o with
 |nil=>exact REs_nil
 |cons v vs ih =>
  simp only [Go.Pv.flat] at h
  obtain ⟨p1,p2⟩:=RMs.append.1 h
  rw [PV.cells_length,hn.1] at p2
  exact REs_cons.2 ⟨hn.1,RM_of_cells p1,ih hn.2 p2⟩
theorem flat_append (a b:List PV):flat (a++b)=flat a++flat b:=by
 induction a with
 |nil=>rfl
 |cons v vs ih=>simp only [List.cons_append,flat,ih,List.append_assoc]
theorem Each.append {p:PV→Prop} {a b:List PV}:Each p (a++b)↔Each p a∧Each p b:=by
 induction a with
 |nil=>simp [Each]
 |cons v vs ih=>simp only [List.cons_append,Each,ih,and_assoc]
theorem Each.imp {p q:PV→Prop} (h:∀ v,p v→q v):∀ {a:List PV},Each p a→Each q a
 |[],_=>trivial
 |_::_,⟨h1,h2⟩=>⟨h _ h1,h2.imp h⟩
theorem flat_one:∀ {l:List PV},Each (fun v=>PV.allOne v.cells=true) l→PV.allOne (flat l)=true
 |[],_=>rfl
 |v :: vs, ⟨h1, h2⟩ => by
  have app:∀ a b,PV.allOne a=true→PV.allOne b=true→PV.allOne (a++b)=true:=by
   intro a
   induction a with
   |nil=>exact fun b _ h=>h
   |cons x xs ih =>
    intro b h h'
    simp only [PV.allOne,Bool.and_eq_true,List.cons_append] at h ⊢
    exact ⟨h.1,ih b h.2 h'⟩
  exact app _ _ h1 (flat_one h2)
theorem flat_len {sz:Nat}:∀ {l:List PV},Each (fun v=>v.nc=sz) l→(flat l).length=l.length * sz
 |[],_=>by simp [flat]
 |v::vs,⟨h1,h2⟩=>by
  rw [flat,List.length_append,PV.cells_length,h1,flat_len h2,List.length_cons,Nat.add_mul];omega
theorem sl_first {tl:Tail} {l:List PV} {x:Value} (hx:RV s (.sl tl l) x) {sz:Nat} (hn:Each (fun v=>v.nc=sz) l):∃ b c ys,x=.slice b l.length c∧l.length≤c∧RVs s (flat l) ys ∧
  ∀ w':World,w'.heap=s.w.heap→(Builtin.firstCells sz l.length (.slice b l.length c)).run P w'=.ok ys.toArray w':=by
 rcases RV_sl.1 hx with ⟨rfl,_,ad,rfl⟩ | ⟨k,o,c,sz',rfl,h1,h2,_⟩
 ·refine ⟨ad,0,[],rfl,Nat.le_refl _,RVs_nil.2 rfl,fun w' _=>?_⟩
  cases ad with
  |none=>exact firstCells_none _ _ _ w'
  |some a=>exact run_firstCells_some w' sz 0 a 0 0 [] (by simp) fun j y hj=>by simp at hj
 ·obtain ⟨ys,y1,y2⟩:=RMs.vals h2.toFlat.1
  refine ⟨_,c,ys,rfl,h1,y1,fun w' hw'=>?_⟩
  have hlen:=y1.length
  rw [flat_len hn] at hlen
  refine run_firstCells_some w' sz l.length _ l.length c ys hlen fun j y hj=>?_
  rw [addr_add]
  have:=fcell_cell (y2 j y hj)
  rw [← this]
  exact cell_heap (by rw [hw'])
theorem Ext.dropO {i n:Nat} (hl:s.σ (s.e i)=.fz n (some i)):Ext s (s.freeze i n):=by
 refine Ext.mk' ⟨Nat.le_refl _,fun x _=>⟨fun e=>(upd_ne s.σ _ (fun c:x=s.e i=>by rw [c,hl] at e;cases e)).trans e,fun n' e=>(upd_ne s.σ _ (fun c:x=s.e i=>by rw [c,hl] at e;cases e)).trans e⟩⟩ (Nat.le_refl _) (fun _ _=>rfl) (fun k o y hy=>?_) (fun j m _ hm=>?_) (fun x r hr=>?_)
 ·obtain ⟨m,own,h1,h2,h3⟩:=fcell_some hy
  by_cases hk:k=s.e i
  ·rw [hk,hl] at h1
   cases h1
   exact fcell_of (s:=s.freeze i n) (by rw [hk];exact upd_self _ _ _) h2 h3
  ·exact fcell_of (s:=s.freeze i n) ((upd_ne _ _ hk).trans h1) h2 h3
 ·simp only [St.freeze] at hm ⊢
  by_cases hk:s.e j=s.e i
  ·rw [hk,upd_self] at hm
   cases hm
  ·rw [upd_ne _ _ hk] at hm
   exact ⟨hm,fun arr t ha=>⟨arr,ha,rfl⟩⟩
 ·refine fmp_keep hr (fun n' own e=>?_) fun _=>rfl
  by_cases hk:x=s.e i
  ·exact ⟨n,none,by rw [hk];exact upd_self _ _ _⟩
  ·exact ⟨n',own,(upd_ne _ _ hk).trans e⟩
theorem PW.dropO (h:PW w0 s) {i n:Nat} (hi:s.h.get i=some .own) (hσ:s.σ (s.e i)=.fz n (some i)):PW w0 (s.freeze i n):=by
 obtain ⟨p1,p2,p3⟩:=h.hp i _ hi
 have hx:=Ext.dropO hσ
 refine ⟨h.os,h.tape,h.output,h.size,h.old,fun k hk=>?_,h.cold,fun k hk=>?_,fun k m j hk=>?_,fun j b hj=>?_⟩
 ·by_cases hk':k=s.e i
  ·exact .inr ⟨n,by simp only [St.freeze,hk',upd_self]⟩
  ·simp only [St.freeze,upd_ne _ _ hk']
   exact h.prot k hk
 ·have:=h.lt (k:=s.e i) (by rw [hσ];simp)
  simp only [St.freeze,upd_ne s.σ (BS.fz n none) (show k≠s.e i from fun e=>by rw [e] at hk;exact absurd this (Nat.not_lt.2 hk))]
  exact h.inb k hk
 ·simp only [St.freeze] at hk
  by_cases hk':k=s.e i
  ·rw [hk',upd_self] at hk;cases hk
  ·rw [upd_ne _ _ hk'] at hk
   exact h.ob k m j hk
 ·simp only [St.freeze,PH.del] at hj
  split at hj
  ·cases hj
  ·next hji =>
   obtain ⟨q1,q2,q3⟩:=h.hp j b hj
   have hne:s.e j≠s.e i:=fun e=>hji (q2.inj (b':=.own) p2 e)
   exact ⟨q1,BAt.congr (s':=s.freeze i n) (s:=s) rfl (upd_ne _ _ hne) q2,q3.ext hx rfl⟩
theorem fresh_append (hA:A.Ok P) (hw:PW w0 s) {t tx ty el ex:TypeId} {ti:TypeInfo} (hu:A.under t=some (.slice el)) (hux:A.under tx=some (.slice ex)) (hti:A.info el=some ti) {l news:List PV}
  (hb1:(l.length+news.length) * ti.bytes≤140737488355328) (hb2:l.length+news.length≤1000000000) (hsz:1≤ti.size) (hz4:zeroOk ti=true) (hl:Each (fun v=>v.nc=ti.size) l) (hn1:Each (fun v=>v.nc=ti.size) news)
  {b:Option Addr} {c:Nat} {os ys:List Value} (ho1:RVs s (flat l) os) (ho2:∀ w':World,w'.heap=s.w.heap→(Builtin.firstCells ti.size l.length (.slice b l.length c)).run P w'=.ok os.toArray w') (hlt:c < l.length+news.length)
  {xb:Option Addr} {xc:Nat} (y1:RVs s (flat news) ys) (y2:∀ w':World,w'.heap=s.w.heap→(Builtin.firstCells ti.size news.length (.slice xb news.length xc)).run P w'=.ok ys.toArray w') :
  ∃ (r:Value) (s':St),(Builtin.append_ #[t,tx] ty #[.slice b l.length c,.slice xb news.length xc]).run P s.w=.ok r s'.w∧PW w0 s'∧Ext s s'∧RV s' (.sl (.own s.h.next) (l++news)) r∧s'.h=s.h.add .own:=by
 have ht:=hA.under_ok hu
 have htx:=hA.under_ok hux
 have hi:=hA.info _ _ hti
 have hyl:=y1.length
 rw [flat_len hn1] at hyl
 unfold zeroOk at hz4
 split at hz4
 case h_2=>cases hz4
 next z hz =>
 have hz4:=eq_of_beq hz4
 have hall:Each (fun v=>v.nc=ti.size) (l++news):=Each.append.2 ⟨hl,hn1⟩
 have hlenall:(l++news).length=l.length+news.length:=List.length_append
 obtain ⟨cap,rest,hc1,hc2,hrun⟩:=run_append_new (P:=P) (w:=s.w) t tx ty el ex ti z ht htx hi hz b l.length c os ho2 xb news.length xc ys y2 hlt hb2 hb1
 have hwd:=hw.drew
 have hol:=ho1.length
 rw [flat_len hl] at hol
 have hsize:(os.toArray++ys.toArray++rest).size=cap * ti.size:=by
  simp only [Array.size_append,List.size_toArray,hol,hyl,hc2,hz4]
  rw [← Nat.add_mul,← Nat.add_mul]
  congr 1
  omega
 have hle:(l.length+news.length) * ti.size≤(os.toArray++ys.toArray++rest).size:=by
  rw [hsize]
  exact Nat.mul_le_mul_right _ hc1
 have hx1:Ext (s.wat s.w.drew) ((s.wat s.w.drew).newO ((l.length+news.length) * ti.size) (.cells (os.toArray++ys.toArray++rest) el)):=Ext.newO hwd
 have hx2:=(Ext.drew s).trans hx1
 refine ⟨_,(s.wat s.w.drew).newO ((l.length+news.length) * ti.size) (.cells (os.toArray++ys.toArray++rest) el),hrun,hwd.newO hle,hx2,?_,rfl⟩
 refine RV_sl.2 (.inr ⟨s.w.heap.size,0,cap,ti.size,by rw [hlenall],by rw [hlenall];exact hc1,?_,?_⟩)
 ·refine REs.of_flat hall ?_
  rw [flat_append]
  refine RMs_of_row ((R2s.ext hx2 _).1 _ (ho1.append y1)) fun j u hj=>?_
  have hj':j < (l.length+news.length) * ti.size:=by
   have:=(List.getElem?_eq_some_iff.1 hj).1
   rw [List.length_append,hol,hyl,← Nat.add_mul] at this
   exact this
  rw [Nat.zero_add]
  refine fcell_new (upd_self _ _ _) hj' (heap_alloc_new _ _) ?_
  rw [Array.getElem?_append_left (by simp only [Array.size_append,List.size_toArray,hol,hyl];rw [← Nat.add_mul];exact hj')]
  rw [List.append_toArray]
  simpa using hj
 ·refine ⟨Nat.lt_succ_self _,upd_self _ _ _,hsz,fun n hn=>?_⟩
  have hn':BS.fz ((l.length+news.length) * ti.size) (some s.h.next)=.fz n (some s.h.next):=by
   rw [← hn]
   exact (upd_self _ _ _).symm
  injection hn' with e1 _
  rw [hlenall]
  exact ⟨by omega,_,el,heap_alloc_new _ _,by rw [hsize];omega⟩
theorem run_append_new2 {w:World} (t tx ty e ex:TypeId) (i:TypeInfo) (z:Value) (ht:P.underlying t=some (.slice e)) (htx:P.underlying tx=some (.slice ex)) (hi:P.info? e=some i) (hz:i.zero=some z)
  (b:Option Addr) (sLen sCap:Nat) (olds:List Value) (hold:∀ w':World,w'.heap=w.heap→(Builtin.firstCells i.size sLen (.slice b sLen sCap)).run P w'=.ok olds.toArray w')
  (xb:Option Addr) (n xc:Nat) (news:List Value) (hx:∀ w':World,w'.heap=w.heap→(Builtin.firstCells i.size n (.slice xb n xc)).run P w'=.ok news.toArray w')
  (hg:sCap < sLen+n) (h63:sLen+n≤1000000000) (hfit:(sLen+n) * i.bytes≤140737488355328) :
  ∃ cap,sLen+n≤cap ∧
  (Builtin.append_ #[t, tx] ty #[.slice b sLen sCap, .slice xb n xc]).run P w =
   .ok (.slice (some ⟨w.heap.size,0,none⟩) (sLen+n) cap) (w.drew.alloc (.cells (olds.toArray++news.toArray++Builtin.zeroCells z.cells (cap - (sLen+n))) e)):=by
 have hn:¬ (sLen+n≤sCap):=by omega
 have h63':¬ (9223372036854775807 < ((sLen:Int)+(n:Int))):=by omega
 have h48':¬ (281474976710656 < Builtin.nextslicecap (sLen+n) sCap * i.bytes):=by
  have:=growslice_fits hg hfit
  omega
 have hf:=hx w.drew rfl
 have hfo:=hold w.drew rfl
 refine ⟨grownCap w (sLen+n) sCap e,Nat.le_add_right _ _,?_⟩
 simp [Builtin.append_,run_underlying ht,run_underlying htx,sizeOf,typeInfo,zeroValue,hi,hz,Builtin.lenOf,hn,h63',h48',Question.forced,hf,hfo,newRow,grownCap]
 congr 2
 apply Array.ext'
 simp [List.append_assoc]
theorem live_append (hA:A.Ok P) (hw:PW w0 s) {t tx ty el ex:TypeId} {ti:TypeInfo} (hu:A.under t=some (.slice el)) (hux:A.under tx=some (.slice ex)) (hti:A.info el=some ti) {l news:List PV}
  (hb1:(l.length+news.length) * ti.bytes≤140737488355328) (hb2:l.length+news.length≤1000000000)
  {b:Option Addr} {c:Nat} {os ys:List Value} (ho1:RVs s (flat l) os) (ho2:∀ w':World,w'.heap=s.w.heap→(Builtin.firstCells ti.size l.length (.slice b l.length c)).run P w'=.ok os.toArray w') (hlt:c < l.length+news.length)
  {xb:Option Addr} {xc:Nat} (y1:RVs s (flat news) ys) (y2:∀ w':World,w'.heap=s.w.heap→(Builtin.firstCells ti.size news.length (.slice xb news.length xc)).run P w'=.ok ys.toArray w')
  (hzs:∀ n,∃ zs vs,azeros A el n=some zs∧PV.ofAVs zs=some vs) :
  ∃ (r:Value) (s':St) (cap:Nat) (vs:List PV),(Builtin.append_ #[t,tx] ty #[.slice b l.length c,.slice xb news.length xc]).run P s.w=.ok r s'.w∧PW w0 s'∧Ext s s'∧l.length+news.length≤cap ∧
   vs.length=(cap - (l.length+news.length)) * ti.size∧RV s' (.ms s.h.next 0 (l.length+news.length) cap (ezOf A el)) r∧s'.h=s.h.add (.cells (flat (l++news)++vs)):=by
 have ht:=hA.under_ok hu
 have htx:=hA.under_ok hux
 have hi:=hA.info _ _ hti
 obtain ⟨zs0,_,hzs0,_⟩:=hzs 0
 obtain ⟨ie0,z,q0,_,q2,_,_,_,_⟩:=azeros_ok (m:=noEnv) hA hzs0
 rw [hti] at q0
 cases q0
 obtain ⟨cap,hc1,hrun⟩:=run_append_new2 (P:=P) (w:=s.w) (ty:=ty) t tx el ex ti z ht htx hi q2 b l.length c os ho2 xb news.length xc ys y2 hlt hb2 hb1
 obtain ⟨zs,vs,hz1,hz2⟩:=hzs (cap - (l.length+news.length))
 obtain ⟨ie,z',p0,_,p2,p3,_,p5,p6⟩:=azeros_ok (m:=noEnv) hA hz1
 rw [hti] at p0
 cases p0
 rw [q2] at p2
 cases p2
 have hvs:∀ s':St,RVs s' vs (Builtin.zeroCells z.cells (cap - (l.length+news.length))).toList:=fun s'=>by
  refine PV.ofAVs_ok zs vs _ hz2 ?_
  unfold Builtin.zeroCells
  rw [← p3] at p6
  exact p6
 have hvl:vs.length=(cap - (l.length+news.length)) * ti.size:=by
  have:=(hvs s).length
  rw [← this]
  simp [Builtin.zeroCells,p3]
 have hwd:=hw.drew
 have hx1:Ext (s.wat s.w.drew) ((s.wat s.w.drew).new (.cells (flat (l++news)++vs)) (.cells (os.toArray++ys.toArray++Builtin.zeroCells z.cells (cap - (l.length+news.length))) el)):=Ext.new hwd
 have hx2:=(Ext.drew s).trans hx1
 refine ⟨_,(s.wat s.w.drew).new (.cells (flat (l++news)++vs)) (.cells (os.toArray++ys.toArray++Builtin.zeroCells z.cells (cap - (l.length+news.length))) el),cap,vs,hrun,?_,hx2,hc1,hvl,RV_ms.2 ⟨Nat.lt_succ_self _,by simp [St.new,upd_self,St.wat]⟩,rfl⟩
 refine hwd.new (fun _ _ _ e=>by cases e;exact Nat.le_refl _) rfl ⟨_,el,heap_alloc_new _ _,?_⟩
 have:=(((R2s.ext hx2 _).1 _ ho1).append ((R2s.ext hx2 _).1 _ y1)).append (hvs _)
 rw [← flat_append] at this
 simpa using this
theorem cells_one {v:PV} (h:v.isAgg=false):v.nc=1∧v.cells=[v]:=by
 cases v<;>first | exact ⟨rfl,rfl⟩ | simp [PV.isAgg] at h
theorem flat_self:∀ {l:List PV},(∀ v∈l,v.isAgg=false)→flat l=l
 |[],_=>rfl
 |v::l,h=>by
  simp only [flat,(cells_one (h v (by simp))).2,flat_self (l:=l) fun u hu=>h u (by simp [hu])]
  rfl
theorem each_one:∀ {l:List PV},(∀ v∈l,v.isAgg=false)→Each (fun v=>v.nc=1) l
 |[],_=>trivial
 |v::l,h=>⟨(cells_one (h v (by simp))).1,each_one fun u hu=>h u (by simp [hu])⟩
theorem ms_first (hw:PW w0 s) {j o n cap:Nat} {ez:Option Nat} {news:List PV} (hg:s.h.get j=some (.raw n o news)) {y:Value} (hy:RV s (.ms j o news.length cap ez) y) (hn:∀ v∈news,v.isAgg=false):∃ b ys,y=.slice b news.length cap∧RVs s (flat news) ys ∧
  ∀ w':World,w'.heap=s.w.heap→(Builtin.firstCells 1 news.length (.slice b news.length cap)).run P w'=.ok ys.toArray w':=by
 obtain ⟨hin,rfl⟩:=RV_ms.1 hy
 obtain ⟨_,_,arr,t,z,g1,_,_,ys,g4,g5⟩:=hw.hp j _ hg
 refine ⟨_,ys,rfl,by rw [flat_self hn];exact g4,fun w' hw'=>?_⟩
 have hlen:=g4.length
 refine run_firstCells_some w' 1 news.length _ news.length cap ys (by omega) fun i y hi=>?_
 rw [addr_add]
 simp only [World.cell?,hw',g1]
 exact g5 i y hi
theorem run_append_zeros {w:World} (t tx ty e:TypeId) (kk:IntKind) (i:TypeInfo) (z:Value) (ht:P.underlying t=some (.slice e)) (htx:P.underlying tx=some (.int kk)) (hi:P.info? e=some i) (hz:i.zero=some z) (hsz:1≤i.size)
  (b:Option Addr) (hold:∀ w':World,w'.heap=w.heap→(Builtin.firstCells i.size 0 (.slice b 0 0)).run P w'=.ok #[] w')
  (k:IntKind) (n:Nat) (h1:1≤n) (h63:n≤1000000000) (hfit:n * i.bytes≤140737488355328) :
  ∃ cap,n≤cap∧(Builtin.append_ #[t,tx] ty #[.slice b 0 0,.int k n]).run P w =
   .ok (.slice (some ⟨w.heap.size,0,none⟩) n cap) (w.drew.alloc (.cells (Builtin.zeroCells z.cells n++Builtin.zeroCells z.cells (cap - n)) e)):=by
 have hn0:¬ n=0:=by omega
 have h63':¬ (9223372036854775807 < (n:Int)):=by omega
 have hfit2:(0+n) * i.bytes≤140737488355328:=by rw [Nat.zero_add];exact hfit
 have h48':¬ (281474976710656 < Builtin.nextslicecap n 0 * i.bytes):=by
  have:=growslice_fits (need:=n) (old:=0) (by omega) hfit
  omega
 have hfo:=hold w.drew rfl
 have wn:IntKind.i64.wrap (n:Int)=(n:Int):=wrap_in _ (by omega) (by omega)
 have hneg:¬ ((n:Int) < 0):=by omega
 have hbig:¬ ((281474976710656:Int) < (n:Int) * (i.bytes:Int)):=by
  have e1:((n:Int) * (i.bytes:Int))=((n * i.bytes:Nat):Int):=by simp
  rw [e1]
  omega
 have hs0:¬ i.size=0:=by omega
 refine ⟨grownCap w n 0 e,Nat.le_add_right _ _,?_⟩
 simp [Builtin.append_,run_underlying ht,run_underlying htx,sizeOf,typeInfo,zeroValue,hi,hz,asInt,asIntOf,wn,hneg,hbig,hn0,hs0,h63',h48',Question.forced,hfo,newRow,grownCap]
 exact fun h0=>absurd h0 (Nat.mul_ne_zero hn0 hs0)
theorem pappend_ok (hA:A.Ok P) (hw:PW w0 s) {t tx ty:TypeId} {sv xv:PV} {K:PV→PH→Prop} (h:PAppend A s.h t tx sv xv K) {x y:Value} (hx:RV s sv x) (hy:RV s xv y) :
  ∃ r v s',(Builtin.append_ #[t,tx] ty #[x,y]).run P s.w=.ok r s'.w∧PW w0 s'∧Ext s s'∧RV s' v r∧K v s'.h:=by
 unfold PAppend at h
 split at h
 case h_3=>exact h.elim
 case h_2 =>
  next el kk hu hux =>
  have ht:=hA.under_ok hu
  have htx:=hA.under_ok hux
  split at h
  case h_2=>exact h.elim
  next ti hti =>
  have hi:=hA.info _ _ hti
  split at h
  case h_2=>exact h.elim
  next k n =>
  obtain ⟨m,rfl,h1,h63,hfit,hzs,hK⟩:=h
  obtain ⟨_,hv⟩:=RV_lit.1 hy
  obtain rfl:y=.int k m:=by simpa [VR] using hv
  obtain ⟨b,c,os,rfl,_,o1,o2⟩:=sl_first (P:=P) (sz:=ti.size) hx trivial
  have hc:c=0:=by
   rcases RV_sl.1 hx with ⟨_,_,ad,e⟩ | ⟨k,o,c',sz',e,_,_,h3⟩
   ·cases e;rfl
   ·cases e;exact h3
  subst hc
  have hos:os=[]:=by simpa [Go.Pv.flat] using o1.length
  subst hos
  obtain ⟨zs,vs,hz1,hz2⟩:=hzs m
  obtain ⟨ie,z,p0,_,p2,p3,p4,p5,p6⟩:=azeros_ok (m:=noEnv) hA hz1
  rw [hti] at p0
  cases p0
  obtain ⟨cap,hc1,hrun⟩:=run_append_zeros (P:=P) (w:=s.w) (ty:=ty) t tx el kk ti z ht htx hi p2 p4 b o2 k m h1 h63 hfit
  obtain ⟨zs',vs',hz3,hz4⟩:=hzs (cap - m)
  obtain ⟨ie',z',r0,_,r2,r3,_,r5,r6⟩:=azeros_ok (m:=noEnv) hA hz3
  rw [hti] at r0
  cases r0
  rw [p2] at r2
  cases r2
  have hv1:∀ s':St,RVs s' vs (Builtin.zeroCells z.cells m).toList:=fun s'=>by
   refine PV.ofAVs_ok zs vs _ hz2 ?_
   unfold Builtin.zeroCells
   rw [← p3] at p6
   exact p6
  have hv2:∀ s':St,RVs s' vs' (Builtin.zeroCells z.cells (cap - m)).toList:=fun s'=>by
   refine PV.ofAVs_ok zs' vs' _ hz4 ?_
   unfold Builtin.zeroCells
   rw [← r3] at r6
   exact r6
  have hl1:vs.length=m * ti.size:=by
   rw [← (hv1 s).length]
   simp [Builtin.zeroCells,p3]
  have hl2:vs'.length=(cap - m) * ti.size:=by
   rw [← (hv2 s).length]
   simp [Builtin.zeroCells,p3]
  have hwd:=hw.drew
  have hx1:Ext (s.wat s.w.drew) ((s.wat s.w.drew).new (.cells (vs++vs')) (.cells (Builtin.zeroCells z.cells m++Builtin.zeroCells z.cells (cap - m)) el)):=Ext.new hwd
  have hx2:=(Ext.drew s).trans hx1
  refine ⟨_,.ms s.h.next 0 m cap (ezOf A el),(s.wat s.w.drew).new (.cells (vs++vs')) (.cells (Builtin.zeroCells z.cells m++Builtin.zeroCells z.cells (cap - m)) el),hrun,?_,hx2,RV_ms.2 ⟨Nat.lt_succ_self _,by simp [St.new,upd_self,St.wat]⟩,?_⟩
  ·refine hwd.new (fun _ _ _ e=>by cases e;exact Nat.le_refl _) rfl ⟨_,el,heap_alloc_new _ _,?_⟩
   have:=(hv1 ((s.wat s.w.drew).new (.cells (vs++vs')) (.cells (Builtin.zeroCells z.cells m++Builtin.zeroCells z.cells (cap - m)) el))).append (hv2 _)
   simpa using this
  ·exact hK cap (vs++vs') hc1 (by rw [List.length_append,hl1,hl2,← Nat.add_mul];congr 1;omega)
 next el ex hu hux =>
 have ht:=hA.under_ok hu
 have htx:=hA.under_ok hux
 split at h
 case h_2=>exact h.elim
 next ti hti =>
 have hi:=hA.info _ _ hti
 split at h
 case h_5=>exact h.elim
 case h_4 =>
  next i len cap ez j o n _ _ =>
  obtain ⟨cs,rfl,hgi,hcap,hb1,hb2,hone,hK⟩:=h
  obtain ⟨hin,rfl⟩:=RV_ms.1 hx
  obtain ⟨_,rfl⟩:=RV_ms.1 hy
  obtain ⟨arr,tt,e2,e3,_,e4⟩:=hw.cells hgi
  have hal:=e3.length
  simp only [Array.length_toList] at hal
  have y1:=(e3.drop o).take (n * ti.size)
  have hyl:((arr.toList.drop o).take (n * ti.size)).length=n * ti.size:=by
   rw [List.length_take,List.length_drop,Array.length_toList]
   omega
  have hcl:((cs.drop o).take (n * ti.size)).length=n * ti.size:=by
   rw [List.length_take,List.length_drop]
   omega
  have hrun0:=run_storeCells_at P (s.e j) (0+len * ti.size) tt ((arr.toList.drop o).take (n * ti.size)) 0 arr s.w e2 (by rw [hyl];omega) (allOne_ok' hone y1)
  simp only [Nat.add_zero,Nat.zero_add] at hrun0
  let arr':Array Value:=(arr.toList.take (len * ti.size)++(arr.toList.drop o).take (n * ti.size)++arr.toList.drop (len * ti.size+((arr.toList.drop o).take (n * ti.size)).length)).toArray
  have hu':=upd_setRow s.w (s.e j) arr arr' tt e2
  let cs':List PV:=pputs cs (len * ti.size) ((cs.drop o).take (n * ti.size))
  have hx':Ext s (s.put j (.cells cs') (s.w.setRow (s.e j) arr')):=Ext.put e4 (Nat.le_of_eq hu'.size.symm) fun k hk=>hu'.old k hk
  have hcells:RVs (s.put j (.cells cs') (s.w.setRow (s.e j) arr')) cs' arr'.toList:=by
   refine (R2s.ext hx' cs').1 _ ?_
   have:=((e3.take (len * ti.size)).append y1).append (e3.drop (len * ti.size+n * ti.size))
   simp only [cs',pputs,arr',hyl,hcl]
   exact this
  have hw1:PW w0 (s.put j (.cells cs') (s.w.setRow (s.e j) arr')):=hw.put hin e4 rfl hu' (fun _ _ _ e=>by cases e;exact Nat.le_refl _) ⟨arr',tt,hu'.new,hcells⟩
  refine ⟨.slice (some ⟨s.e j,0,none⟩) (len+n) cap,.ms j 0 (len+n) cap ez,s.put j (.cells cs') (s.w.setRow (s.e j) arr'),?_,hw1,hx',RV_ms.2 ⟨hin,rfl⟩,hK⟩
  refine run_append_in (w:=s.w) t tx ty el ex ti ht htx hi _ len cap _ n _ ((arr.toList.drop o).take (n * ti.size)) (fun w' hw'=>?_) hcap ?_
  ·refine run_firstCells_some w' ti.size n _ n _ _ hyl fun q y hq=>?_
   rw [addr_add]
   rw [List.getElem?_take] at hq
   split at hq
   ·simp only [World.cell?,hw',e2]
    rw [← Array.getElem?_toList,← List.getElem?_drop]
    exact hq
   ·cases hq
  ·rw [addr_add,Nat.zero_add]
   exact hrun0
 case h_3 =>
  next l j o len cap ez =>
  obtain ⟨n,news,hg,rfl,hne,hb1,hb2,hsz,hz4,hl,hag,hK⟩:=h
  obtain ⟨xb,ys,rfl,y1,y2⟩:=ms_first (P:=P) hw hg hy hag
  have hn1:Each (fun v=>v.nc=ti.size) news:=by rw [hsz];exact each_one hag
  rw [← hsz] at y2
  have hnpos:1≤news.length:=by
   cases news with
   |nil=>exact absurd rfl hne
   |cons _ _=>simp
  obtain ⟨b,c,os,rfl,_,o1,o2⟩:=sl_first (P:=P) hx hl
  have hc:c=l.length:=by
   rcases RV_sl.1 hx with ⟨rfl,_,ad,e⟩ | ⟨k,o,c',sz',e,_,_,h3⟩
   ·cases e;rfl
   ·cases e;exact h3
  obtain ⟨r,s',r1,r2,r3,r4,r5⟩:=fresh_append (ty:=ty) hA hw hu hux hti hb1 hb2 (by omega) hz4 hl hn1 o1 o2 (by omega) y1 y2
  have hgi:s'.h.get s.h.next=some .own:=by rw [r5];simp [PH.add]
  obtain ⟨hin,⟨n',hσ⟩,_⟩:=r2.hp s.h.next _ hgi
  have hx1:=Ext.dropO hσ
  refine ⟨r,.sl .no (l++news),s'.freeze s.h.next n',r1,r2.dropO hgi hσ,r3.trans hx1,?_,?_⟩
  ·rcases RV_sl.1 r4 with ⟨_,e,_⟩ | ⟨k,o,c',sz',e1,e2,e3,_⟩
   ·cases e
   ·exact RV_sl.2 (.inr ⟨k,o,c',sz',e1,e2,(R2s.ext hx1 _).2.2 _ _ _ e3,trivial⟩)
  ·have:(s'.freeze s.h.next n').h=s.h.step:=by
    simp only [St.freeze,r5,PH.add,PH.del,PH.step]
    congr 1
    funext x
    split
    ·next hxe =>
     subst hxe
     cases hg:s.h.get s.h.next with
     |none=>rfl
     |some b=>exact absurd (hw.ok _ _ hg).1 (Nat.lt_irrefl _)
    ·rfl
   rw [this]
   exact hK
 ·next i len cap ez tl' news =>
  rcases h with ⟨l,post,rfl,hgi,hl,hnews,hpost,hcap,hK⟩ | ⟨l,post,rfl,hlc,hgi,hpl,hl,hnews,hb1,hb2,hzs,hK1,hK2⟩
  ·have hn1:Each (fun v=>v.nc=ti.size) news:=hnews.imp fun _ h=>h.1
   have hn2:=flat_one (hnews.imp fun _ h=>h.2)
   obtain ⟨xb,xc,ys,rfl,hxc,y1,y2⟩:=sl_first (P:=P) hy hn1
   have hyl:=y1.length
   rw [flat_len hn1] at hyl
   obtain ⟨hin,rfl⟩:=RV_ms.1 hx
   obtain ⟨arr,tt,e2,e3,_,e4⟩:=hw.cells hgi
   have hal:=e3.length
   simp only [Array.length_toList,List.length_append,flat_len hl] at hal
   have hrun0:=run_storeCells_at P (s.e i) (0+l.length * ti.size) tt ys 0 arr s.w e2 (by rw [hyl];omega) (allOne_ok' hn2 y1)
   simp only [Nat.add_zero] at hrun0
   let arr':Array Value:=(arr.toList.take (0+l.length * ti.size)++ys++arr.toList.drop (0+l.length * ti.size+ys.length)).toArray
   have hu':=upd_setRow s.w (s.e i) arr arr' tt e2
   let cs':List PV:=flat (l++news)++post.drop (news.length * ti.size)
   have hx':Ext s (s.put i (.cells cs') (s.w.setRow (s.e i) arr')):=Ext.put e4 (Nat.le_of_eq hu'.size.symm) fun k hk=>hu'.old k hk
   have hcells:RVs (s.put i (.cells cs') (s.w.setRow (s.e i) arr')) cs' arr'.toList:=by
    refine (R2s.ext hx' cs').1 _ ?_
    have g1:=e3.take (l.length * ti.size)
    have g2:=e3.drop (l.length * ti.size+news.length * ti.size)
    have k1:(flat l++post).take (l.length * ti.size)=flat l:=by
     rw [List.take_append_of_le_length (by rw [flat_len hl];exact Nat.le_refl _),List.take_of_length_le (by rw [flat_len hl];exact Nat.le_refl _)]
    have k2:(flat l++post).drop (l.length * ti.size+news.length * ti.size)=post.drop (news.length * ti.size):=by
     rw [List.drop_append,flat_len hl,List.drop_eq_nil_of_le (by rw [flat_len hl];omega),List.nil_append]
     congr 1
     omega
    rw [k1] at g1
    rw [k2] at g2
    have:=(g1.append y1).append g2
    simp only [cs',flat_append,arr',Nat.zero_add,hyl]
    exact this
   have hw1:PW w0 (s.put i (.cells cs') (s.w.setRow (s.e i) arr')):=hw.put hin e4 rfl hu' (fun _ _ _ e=>by cases e;exact Nat.le_refl _) ⟨arr',tt,hu'.new,hcells⟩
   have hgi':(s.put i (.cells cs') (s.w.setRow (s.e i) arr')).h.get i=some (.cells cs'):=by simp [St.put,PH.put]
   have hx2:=hx'.trans (Ext.freeze (i:=i) (n:=(l.length+news.length) * ti.size) (s:=s.put i (.cells cs') (s.w.setRow (s.e i) arr')) e4)
   refine ⟨.slice (some ⟨s.e i,0,none⟩) (l.length+news.length) cap,.sl .no (l++news),(s.put i (.cells cs') (s.w.setRow (s.e i) arr')).freeze i ((l.length+news.length) * ti.size),?_,hw1.freeze hgi',hx2,?_,?_⟩
   ·refine run_append_in (w:=s.w) t tx ty el ex ti ht htx hi _ l.length cap xb news.length xc ys y2 hcap ?_
    rw [addr_add]
    exact hrun0
   ·refine RV_sl.2 (.inr ⟨s.e i,0,cap,ti.size,by rw [List.length_append],by rw [List.length_append];exact hcap,?_,trivial⟩)
    refine REs.of_flat (Each.append.2 ⟨hl,hn1⟩) (RMs.of_get fun j v hj=>?_)
    have hj':j < (flat (l++news)).length:=(List.getElem?_eq_some_iff.1 hj).1
    have hjl:=hj'
    rw [flat_len (Each.append.2 ⟨hl,hn1⟩),List.length_append] at hj'
    obtain ⟨y,u1,u2⟩:=hcells.get (a:=v) (i:=j) (by simp only [cs'];rw [List.getElem?_append_left hjl];exact hj)
    refine ⟨y,?_,(R2.ext (Ext.freeze (i:=i) (n:=(l.length+news.length) * ti.size) (s:=s.put i (.cells cs') (s.w.setRow (s.e i) arr')) e4) v).1 _ u2⟩
    rw [Nat.zero_add]
    exact fcell_new (upd_self _ _ _) hj' hu'.new (by simpa using u1)
   ·have:((s.put i (.cells cs') (s.w.setRow (s.e i) arr')).freeze i ((l.length+news.length) * ti.size)).h=s.h.del i:=by
     simp only [St.freeze,St.put,PH.put,PH.del]
     congr 1
     funext x
     split<;>rfl
    rw [this]
    exact hK
  ·have hn1:Each (fun v=>v.nc=ti.size) news:=hnews.imp fun _ h=>h.1
   have hn2:=flat_one (hnews.imp fun _ h=>h.2)
   obtain ⟨xb,xc,ys,rfl,hxc,y1,y2⟩:=sl_first (P:=P) hy hn1
   have hyl:=y1.length
   rw [flat_len hn1] at hyl
   obtain ⟨hin,rfl⟩:=RV_ms.1 hx
   obtain ⟨arr,tt,e2,e3,_,e4⟩:=hw.cells hgi
   have hal:=e3.length
   simp only [Array.length_toList,List.length_append,flat_len hl] at hal
   rcases Nat.lt_or_ge cap (l.length+news.length) with hgrow | hcap
   ·-- a new block
    have g1:=e3.take (l.length * ti.size)
    have k1:(flat l++post).take (l.length * ti.size)=flat l:=by
     rw [List.take_append_of_le_length (by rw [flat_len hl];exact Nat.le_refl _),List.take_of_length_le (by rw [flat_len hl];exact Nat.le_refl _)]
    rw [k1] at g1
    obtain ⟨r,s',c,vs,r1,r2,r3,r4,r5,r6,r7⟩:=live_append (ty:=ty) hA hw hu hux hti hb1 hb2 (os:=arr.toList.take (l.length * ti.size)) g1 (b:=some ⟨s.e i,0,none⟩) (c:=cap) (fun w' hw'=>by
     refine run_firstCells_some w' ti.size l.length _ l.length cap _ (by have hsz:arr.toList.length=arr.size:=Array.length_toList;rw [List.length_take,hsz];omega) fun q y hq=>?_
     rw [addr_add]
     rw [List.getElem?_take] at hq
     split at hq
     ·simp only [World.cell?,hw',e2,Nat.zero_add]
      rw [← Array.getElem?_toList]
      exact hq
     ·cases hq) hgrow y1 y2 hzs
    exact ⟨r,_,s',r1,r2,r3,r6,by rw [r7];exact hK2 c vs r4 r5⟩
   ·-- in place
    have hpost:news.length * ti.size≤post.length:=by rw [hpl];exact Nat.mul_le_mul_right _ (by omega)
    have hrun0:=run_storeCells_at P (s.e i) (0+l.length * ti.size) tt ys 0 arr s.w e2 (by rw [hyl];omega) (allOne_ok' hn2 y1)
    simp only [Nat.add_zero] at hrun0
    let arr':Array Value:=(arr.toList.take (0+l.length * ti.size)++ys++arr.toList.drop (0+l.length * ti.size+ys.length)).toArray
    have hu':=upd_setRow s.w (s.e i) arr arr' tt e2
    let cs':List PV:=flat (l++news)++post.drop (news.length * ti.size)
    have hx':Ext s (s.put i (.cells cs') (s.w.setRow (s.e i) arr')):=Ext.put e4 (Nat.le_of_eq hu'.size.symm) fun k hk=>hu'.old k hk
    have hcells:RVs (s.put i (.cells cs') (s.w.setRow (s.e i) arr')) cs' arr'.toList:=by
     refine (R2s.ext hx' cs').1 _ ?_
     have g1:=e3.take (l.length * ti.size)
     have g2:=e3.drop (l.length * ti.size+news.length * ti.size)
     have k1:(flat l++post).take (l.length * ti.size)=flat l:=by
      rw [List.take_append_of_le_length (by rw [flat_len hl];exact Nat.le_refl _),List.take_of_length_le (by rw [flat_len hl];exact Nat.le_refl _)]
     have k2:(flat l++post).drop (l.length * ti.size+news.length * ti.size)=post.drop (news.length * ti.size):=by
      rw [List.drop_append,flat_len hl,List.drop_eq_nil_of_le (by rw [flat_len hl];omega),List.nil_append]
      congr 1
      omega
     rw [k1] at g1
     rw [k2] at g2
     have:=(g1.append y1).append g2
     simp only [cs',flat_append,arr',Nat.zero_add,hyl]
     exact this
    have hw1:PW w0 (s.put i (.cells cs') (s.w.setRow (s.e i) arr')):=hw.put hin e4 rfl hu' (fun _ _ _ e=>by cases e;exact Nat.le_refl _) ⟨arr',tt,hu'.new,hcells⟩
    refine ⟨.slice (some ⟨s.e i,0,none⟩) (l.length+news.length) cap,.ms i 0 (l.length+news.length) cap ez,s.put i (.cells cs') (s.w.setRow (s.e i) arr'),?_,hw1,hx',RV_ms.2 ⟨hin,rfl⟩,?_⟩
    ·refine run_append_in (w:=s.w) t tx ty el ex ti ht htx hi _ l.length cap xb news.length xc ys y2 hcap ?_
     rw [addr_add]
     exact hrun0
    ·exact hK1 _ hcap (by rw [List.length_drop,hpl,← Nat.sub_mul];congr 1;omega)
 next tl l tl' news =>
 rcases h with ⟨rfl,hK⟩ | ⟨hne,hb1,hb2,hsz,hz4,hl,hnews,hK⟩
 ·obtain ⟨xb,xc,ys,rfl,_,y1,y2⟩:=sl_first (P:=P) hy (sz:=ti.size) trivial
  have hys:ys=[]:=by simpa [Go.Pv.flat] using y1.length
  subst hys
  refine ⟨x,.sl tl l,s,?_,hw,Ext.refl s,hx,hK⟩
  rcases RV_sl.1 hx with ⟨rfl,_,ad,rfl⟩ | ⟨k,o,c,sz',rfl,h1,h2,_⟩
  ·cases ad with
   |none=>exact run_append_none t tx ty el ex ti ht htx hi xb xc y2
   |some a=>exact run_append_in (w:=s.w) t tx ty el ex ti ht htx hi a 0 0 xb 0 xc [] y2 (by simp) (by simp [storeCells])
  ·exact run_append_in (w:=s.w) t tx ty el ex ti ht htx hi _ l.length c xb 0 xc [] y2 (by simpa using h1) (by simp [storeCells])
 ·have hn1 : Each (fun v => v.nc = ti.size) news := hnews.imp fun _ h => h.1
  have hn2:=flat_one (hnews.imp fun _ h=>h.2)
  obtain ⟨xb,xc,ys,rfl,hxc,y1,y2⟩:=sl_first (P:=P) hy hn1
  have hyl:=y1.length
  rw [flat_len hn1] at hyl
  have hnpos:1≤news.length:=by
   cases news with
   |nil=>exact absurd rfl hne
   |cons _ _=>simp
  have hlenall:(l++news).length=l.length+news.length:=List.length_append
  cases tl with
  |no=>exact hK.elim
  |ex =>
   obtain ⟨b,c,os,rfl,_,o1,o2⟩:=sl_first (P:=P) hx hl
   have hc:c=l.length:=by
    rcases RV_sl.1 hx with ⟨rfl,_,ad,e⟩ | ⟨k,o,c',sz',e,_,_,h3⟩
    ·cases e;rfl
    ·cases e;exact h3
   rcases hK with hK | hK | ⟨hzs,hK⟩
   ·obtain ⟨r,s',r1,r2,r3,r4,r5⟩:=fresh_append (ty:=ty) hA hw hu hux hti hb1 hb2 hsz hz4 hl hn1 o1 o2 (by omega) y1 y2
    exact ⟨r,_,s',r1,r2,r3,r4,by rw [r5];exact hK⟩
   ·obtain ⟨r,s',r1,r2,r3,r4,r5⟩:=fresh_append (ty:=ty) hA hw hu hux hti hb1 hb2 hsz hz4 hl hn1 o1 o2 (by omega) y1 y2
    have hgi:s'.h.get s.h.next=some .own:=by rw [r5];simp [PH.add]
    obtain ⟨hin,⟨n,hσ⟩,_⟩:=r2.hp s.h.next _ hgi
    have hx1:=Ext.dropO hσ
    refine ⟨r,.sl .no (l++news),s'.freeze s.h.next n,r1,r2.dropO hgi hσ,r3.trans hx1,?_,?_⟩
    ·rcases RV_sl.1 r4 with ⟨_,e,_⟩ | ⟨k,o,c',sz',e1,e2,e3,_⟩
     ·cases e
     ·exact RV_sl.2 (.inr ⟨k,o,c',sz',e1,e2,(R2s.ext hx1 _).2.2 _ _ _ e3,trivial⟩)
    ·have:(s'.freeze s.h.next n).h=s.h.step:=by
      simp only [St.freeze,r5,PH.add,PH.del,PH.step]
      congr 1
      funext x
      split
      ·next hxe =>
       subst hxe
       cases hg:s.h.get s.h.next with
       |none=>rfl
       |some b=>exact absurd (hw.ok _ _ hg).1 (Nat.lt_irrefl _)
      ·rfl
     rw [this]
     exact hK
   ·obtain ⟨r,s',cap,vs,r1,r2,r3,r4,r5,r6,r7⟩:=live_append (ty:=ty) hA hw hu hux hti hb1 hb2 o1 o2 (by omega) y1 y2 hzs
    exact ⟨r,_,s',r1,r2,r3,r6,by rw [r7];exact hK cap vs r4 r5⟩
  |own i =>
   obtain ⟨hlne,hgi,hK⟩:=hK
   obtain ⟨hin,⟨n,hσ⟩,_⟩:=hw.hp i _ hgi
   rcases RV_sl.1 hx with ⟨_,e,_⟩ | ⟨k,o,c,sz,rfl,hlc,hre,q1,q2,q3,q4⟩
   ·cases e
   have hszeq:sz=ti.size:=by
    cases l with
    |nil=>exact absurd rfl hlne
    |cons u us=>have a1:=(REs_cons.1 hre).1;have a2:=hl.1;omega
   subst hszeq
   by_cases hroom:l.length+news.length≤c
   ·rw [q2] at hσ
    obtain ⟨e1,arr,tt,e2,e3⟩:=q4 n hσ
    have hcle:(l.length+news.length) * ti.size≤c * ti.size:=Nat.mul_le_mul_right _ hroom
    rw [Nat.add_mul] at hcle
    have hrun0:=run_storeCells_at P k (o+l.length * ti.size) tt ys 0 arr s.w e2 (by rw [hyl];omega) (allOne_ok' hn2 y1)
    simp only [Nat.add_zero] at hrun0
    let arr':Array Value:=(arr.toList.take (o+l.length * ti.size)++ys++arr.toList.drop (o+l.length * ti.size+ys.length)).toArray
    have hsz':arr'.size=arr.size:=by
     simp only [arr',List.size_toArray,List.length_append,List.length_take,List.length_drop,Array.length_toList,hyl]
     omega
    have hu:=upd_setRow s.w k arr arr' tt e2
    have hsame:∀ j,j < n→arr'[j]?=arr[j]?:=by
     intro j hj
     simp only [arr',List.getElem?_toArray]
     rw [List.append_assoc,List.getElem?_append_left (by simp;omega),List.getElem?_take_of_lt (by omega)]
     simp
    have hnn:n≤o+(l.length+news.length) * ti.size:=by rw [Nat.add_mul];omega
    have hx2:Ext s (s.grow i k (o+(l.length+news.length) * ti.size) (s.w.setRow k arr')):=Ext.grow hw hσ hnn e2 hu.new hsame (Nat.le_of_eq hu.size.symm) fun x hx=>hu.old x hx
    refine ⟨.slice (some ⟨k,o,none⟩) (l.length+news.length) c,.sl (.own s.h.next) (l++news),s.grow i k (o+(l.length+news.length) * ti.size) (s.w.setRow k arr'),?_,hw.grow hσ hnn e2 hu hsame (by rw [hsz',Nat.add_mul];omega),hx2,?_,hK⟩
    ·refine run_append_in (w:=s.w) t tx ty el ex ti ht htx hi _ l.length c xb news.length xc ys y2 hroom ?_
     rw [addr_add]
     exact hrun0
    ·refine RV_sl.2 (.inr ⟨k,o,c,ti.size,by rw [hlenall],by rw [hlenall];exact hroom,REs.append.2 ⟨(R2s.ext hx2 l).2.2 _ _ _ hre,?_⟩,?_⟩)
     ·refine REs.of_flat hn1 (RMs_of_row ((R2s.ext hx2 _).1 _ y1) fun j u hj=>?_)
      have hj':j < ys.length:=(List.getElem?_eq_some_iff.1 hj).1
      refine fcell_new (upd_self _ _ _) (by rw [Nat.add_mul];omega) hu.new ?_
      simp only [arr',List.getElem?_toArray]
      have e1':(arr.toList.take (o+l.length * ti.size)).length=o+l.length * ti.size:=by simp;omega
      rw [List.append_assoc,List.getElem?_append_right (by omega),List.getElem?_append_left (by omega),e1',← hj]
      congr 1
      omega
     ·refine ⟨Nat.lt_succ_self _,upd_self _ _ _,hsz,fun n' hn'=>?_⟩
      have h5:BS.fz (o+(l.length+news.length) * ti.size) (some s.h.next)=.fz n' (some s.h.next):=by
       rw [← hn']
       exact (upd_self _ _ _).symm
      injection h5 with h6 _
      rw [hlenall]
      exact ⟨by omega,arr',tt,hu.new,by rw [hsz'];exact e3⟩
   ·obtain ⟨b,c',os,hb',_,o1,o2⟩:=sl_first (P:=P) hx hl
    cases hb'
    have hx1:=Ext.dropO hσ
    have hw1:=hw.dropO hgi hσ
    obtain ⟨r,s',r1,r2,r3,r4,r5⟩:=fresh_append (ty:=ty) hA hw1 hu hux hti hb1 hb2 hsz hz4 hl hn1 ((R2s.ext hx1 _).1 _ o1) o2 (by omega) ((R2s.ext hx1 _).1 _ y1) y2
    exact ⟨r,_,s',r1,r2,hx1.trans r3,r4,by rw [r5];exact hK⟩
end
end Go.Pv
namespace Go.Pv
open Go.Am Go.RowKit
def PCopy (A:AP) (h:PH) (t:TypeId) (d x:PV) (K:PV→PH→Prop):Prop :=
 match A.under t with
 |some (.slice e)=>match A.info e with
  |some ti=>match d,x with
   |.ms i o dl _ _,.sl _ l=>∃ b,h.get i=some (.cells b)∧Each (fun v=>v.nc=ti.size∧PV.allOne v.cells=true) l∧o+dl * ti.size≤b.length ∧
     K (.lit (.int .i64 (.ofNat (Nat.min l.length dl)))) (h.put i (.cells (pputs b o (flat (l.take (Nat.min l.length dl))))))
   |_,_=>False
  |none=>False
 |_=>False
def psetAt:List (AV×PV×Nat)→Nat→AV→PV→List (AV×PV×Nat)
 |[],_,_,_=>[]
 |e::es,0,k,v=>(k,v,e.2.2)::es
 |e::es,i+1,k,v=>e::psetAt es i k v
def PMapUpdate (A:AP) (E:Eqs) (h:PH) (t:TypeId) (x k v:PV) (K:PV→PH→Prop):Prop :=
 match A.under t,x with
 |some (.map kt _),.mp i=>∃ es clock ka r,h.get i=some (.map es clock)∧PV.toAV k=some ka∧acheck A 20 kt ka=true∧pfind A E kt ka es 0=some r ∧
   match r with
   |some (j,_)=>(∃ e,es[j]?=some e∧asame 20 e.1 ka=true)∧K (.tup []) (h.put i (.map (psetAt es j ka v) clock))
   |none=>K (.tup []) (h.put i (.map (es++[(ka,v,clock)]) (clock+1)))
 |_,_=>False
def PDelete (A:AP) (E:Eqs) (h:PH) (t:TypeId) (x k:PV) (K:PV→PH→Prop):Prop :=
 match A.under t,x with
 |some (.map kt _),.mp i=>∃ es clock ka r,h.get i=some (.map es clock)∧PV.toAV k=some ka∧acheck A 20 kt ka=true∧pfind A E kt ka es 0=some r ∧
   match r with
   |some (j,_)=>K (.tup []) (h.put i (.map (es.eraseIdx j) clock))
   |none=>K (.tup []) (h.put i (.map es clock))
 |_,_=>False
def PRangeM (A:AP) (h:PH) (t:TypeId) (x:PV) (K:PV→PH→Prop):Prop :=
 match A.under t,x with
 |some (.map _ _),.lit .nilmap=>K (.ptr h.next 0) (h.add (.iter none 0 [] 0))
 |some (.map _ _),.mp j=>∃ es clock,h.get j=some (.map es clock)∧K (.ptr h.next 0) (h.add (.iter (some j) clock [] clock))
 |some (.map _ _),.fm ks vs=>K (.ptr h.next 0) (h.add (.fit ks vs []))
 |_,_=>False
def PNext (h : PH) (it : PV) (K : PV → PH → Prop) : Prop :=
 match it with
 |.ptr i 0=>(∃ ks vs seen,h.get i=some (.fit ks vs seen)∧((∀ p,p < ks.length→p∈seen)→K (.tup [.lit (.bool false)]) h) ∧
    ∀ p,p < ks.length→p ∉ seen→∃ a v kv,ks[p]?=some a∧vs[p]?=some v∧PV.ofAV a=some kv∧K (.tup [.lit (.bool true),kv,v]) (h.put i (.fit ks vs (seen++[p])))) ∨
   ∃ m since seen last,h.get i=some (.iter m since seen last) ∧
   match m with
   |none=>K (.tup [.lit (.bool false)]) h
   |some j=>∃ es clock,h.get j=some (.map es clock)∧since≤last∧(∀ e∈es,e.2.2 < since) ∧
     ((∀ e∈es,e.2.2∈seen)→K (.tup [.lit (.bool false)]) h) ∧
     ∀ e∈es,e.2.2 ∉ seen→∃ kv,PV.ofAV e.1=some kv∧K (.tup [.lit (.bool true),kv,e.2.1]) (h.put i (.iter (some j) since (seen++[e.2.2]) clock))
 |_=>False
def PEntry (h:PH) (it:PV) (K:PV→PH→Prop):Prop :=
 match it with
 |.ptr i 0=>(∃ ks vs seen p a v kv,h.get i=some (.fit ks vs (seen++[p]))∧ks[p]?=some a∧vs[p]?=some v∧PV.ofAV a=some kv∧K (.tup [kv,v]) h)∨∃ j since seen b es clock,h.get i=some (.iter (some j) since (seen++[b]) clock)∧h.get j=some (.map es clock) ∧
   ∃ e kv,es.find? (fun e=>e.2.2 == b)=some e∧PV.ofAV e.1=some kv∧K (.tup [kv,e.2.1]) h
 |_=>False
section
variable {s:St} {A:AP} {P:Program} {E:Eqs} {w0:Base}
theorem pcopy_ok (hA:A.Ok P) (hw:PW w0 s) {t ts ty:TypeId} {d x:PV} {K:PV→PH→Prop} (h:PCopy A s.h t d x K) {dv xv:Value} (hd:RV s d dv) (hx:RV s x xv) :
  ∃ r v s',(Builtin.copy_ #[t,ts] ty #[dv,xv]).run P s.w=.ok r s'.w∧PW w0 s'∧Ext s s'∧RV s' v r∧K v s'.h:=by
 unfold PCopy at h
 split at h
 case h_2=>exact h.elim
 next el hu =>
 split at h
 case h_2=>exact h.elim
 next ti hti =>
 split at h
 case h_2=>exact h.elim
 next i o dl c _ tl l =>
 obtain ⟨b,hb,hl,hle,hK⟩:=h
 have hu':=hA.under_ok hu
 have hi':=hA.info _ _ hti
 obtain ⟨hin,rfl⟩:=RV_ms.1 hd
 obtain ⟨arr,t',e1,e2,_,e4⟩:=hw.cells hb
 have e4:=(BAt_live (b:=.cells b) rfl).1 e4
 have hln:Each (fun v=>v.nc=ti.size) l:=hl.imp fun _ h=>h.1
 have each_take:∀ (p:PV→Prop) (l:List PV) (n:Nat),Each p l→Each p (l.take n):=by
  intro p l
  induction l with
  |nil=>intro n _;simp [Each]
  |cons v vs ih =>
   intro n hp
   cases n with
   |zero=>trivial
   |succ n=>exact ⟨hp.1,ih n hp.2⟩
 generalize hn:Nat.min l.length dl=n at hK
 have hmin:n≤l.length∧n≤dl:=by
  subst hn
  exact ⟨Nat.min_le_left _ _,Nat.min_le_right _ _⟩
 have htl:=each_take _ _ n hl
 have htn:Each (fun v=>v.nc=ti.size) (l.take n):=htl.imp fun _ h=>h.1
 have hto:=flat_one (htl.imp fun _ h=>h.2)
 have hlen:(l.take n).length=n:=by rw [List.length_take];omega
 obtain ⟨sb,sc,ys,hxv,y1,y2⟩:∃ sb sc,∃ ys:List Value,xv=.slice sb l.length sc∧RVs s (flat (l.take n)) ys∧(Builtin.firstCells ti.size n (.slice sb l.length sc)).run P s.w=.ok ys.toArray s.w:=by
  rcases RV_sl.1 hx with ⟨rfl,_,ad,rfl⟩ | ⟨k,o',c',sz',rfl,h1,h2,_⟩
  ·have h0:n=0:=by simpa using hmin.1
   subst h0
   refine ⟨ad,0,[],rfl,RVs_nil.2 rfl,?_⟩
   cases ad with
   |none=>exact firstCells_none _ _ _ _
   |some a=>exact run_firstCells_some s.w ti.size 0 a 0 0 [] (by simp) fun j y hj=>by simp at hj
  ·obtain ⟨ys,y1,y2⟩:=RMs.vals (h2.take n).toFlat.1
   refine ⟨_,c',ys,rfl,y1,?_⟩
   have hyl:=y1.length
   rw [flat_len htn,hlen] at hyl
   refine run_firstCells_some s.w ti.size n _ l.length c' ys hyl fun j y hj=>?_
   rw [addr_add]
   exact fcell_cell (y2 j y hj)
 subst hxv
 have hyl:=y1.length
 rw [flat_len htn,hlen] at hyl
 have hbl:=e2.length
 simp only [Array.length_toList] at hbl
 have hmul:n * ti.size≤dl * ti.size:=Nat.mul_le_mul_right _ hmin.2
 have hrun:=run_storeCells_at P (s.e i) o t' ys 0 arr s.w e1 (by omega) (allOne_ok' hto y1)
 simp only [Nat.add_zero] at hrun
 have hu2:=upd_setRow s.w (s.e i) arr (arr.toList.take o++ys++arr.toList.drop (o+ys.length)).toArray t' e1
 have hx':Ext s (s.put i (.cells (pputs b o (flat (l.take n)))) (s.w.setRow (s.e i) (arr.toList.take o++ys++arr.toList.drop (o+ys.length)).toArray)):=Ext.put e4 (Nat.le_of_eq hu2.size.symm) fun k hk=>hu2.old k hk
 refine ⟨goInt n,.lit (.int .i64 (.ofNat n)),s.put i (.cells (pputs b o (flat (l.take n)))) (s.w.setRow (s.e i) (arr.toList.take o++ys++arr.toList.drop (o+ys.length)).toArray),?_,?_,hx',RV_lit.2 ⟨rfl,by simp only [VR,goInt];rfl⟩,hK⟩
 ·simp [Builtin.copy_,run_underlying hu',Builtin.lenOf,sizeOf,run_typeInfo' hi',hn,y2]
  simp [hrun,St.put]
 ·refine hw.put hin e4 rfl hu2 (fun _ _ _ e=>by cases e;exact Nat.le_refl _) ⟨_,t',hu2.new,?_⟩
  refine (R2s.ext hx' (pputs b o (flat (l.take n)))).1 _ ?_
  unfold pputs
  rw [← y1.length]
  exact ((e2.take o).append y1).append (e2.drop _)
theorem RE3.get {es:List (AV×PV×Nat)} {xs:List MapEntry} (h:RE3 s es xs):∀ (i:Nat) e,es[i]?=some e→∃ y,xs[i]?=some y∧VR noEnv e.1 y.key∧RV s e.2.1 y.val∧e.2.2=y.born:=by
 induction es generalizing xs with
 |nil=>intro i e hi;simp at hi
 |cons a as ih =>
  intro i e hi
  obtain ⟨y,ys,rfl,h1,h2,h3,h4⟩:=h
  cases i with
  |zero=>simp at hi;subst hi;exact ⟨y,rfl,h1,h2,h3⟩
  |succ i=>simp at hi ⊢;exact ih h4 i e hi
theorem RE3.mem {es:List (AV×PV×Nat)} {xs:List MapEntry} (h:RE3 s es xs):∀ y∈xs,∃ e∈es,VR noEnv e.1 y.key∧RV s e.2.1 y.val∧e.2.2=y.born:=by
 induction es generalizing xs with
 |nil=>simp only [RE3] at h;subst h;intro y hy;cases hy
 |cons a as ih =>
  obtain ⟨y,ys,rfl,h1,h2,h3,h4⟩:=h
  intro z hz
  rcases List.mem_cons.1 hz with rfl | hz
  ·exact ⟨a,by simp,h1,h2,h3⟩
  ·obtain ⟨e,e1,e2⟩:=ih h4 z hz
   exact ⟨e,by simp [e1],e2⟩
theorem RE3.mem' {es:List (AV×PV×Nat)} {xs:List MapEntry} (h:RE3 s es xs):∀ e∈es,∃ y∈xs,e.2.2=y.born:=by
 induction es generalizing xs with
 |nil=>intro e he;cases he
 |cons a as ih =>
  obtain ⟨y,ys,rfl,h1,h2,h3,h4⟩:=h
  intro z hz
  rcases List.mem_cons.1 hz with rfl | hz
  ·exact ⟨y,by simp,h3⟩
  ·obtain ⟨u,u1,u2⟩:=ih h4 z hz
   exact ⟨u,by simp [u1],u2⟩
theorem RE3.setAt {es:List (AV×PV×Nat)} {xs:List MapEntry} (h:RE3 s es xs) {k:AV} {v:PV} {kv vv:Value} (hk:VR noEnv k kv) (hv:RV s v vv) :
  ∀ (i:Nat),RE3 s (psetAt es i k v) (xs.modify i fun e=>{ e with key:=kv,val:=vv }):=by
 induction es generalizing xs with
 |nil=>intro i;simp only [RE3] at h;subst h;simp [psetAt,RE3]
 |cons a as ih =>
  intro i
  obtain ⟨y,ys,rfl,h1,h2,h3,h4⟩:=h
  cases i with
  |zero =>
   simp only [psetAt,List.modify_zero_cons,RE3]
   exact ⟨_,_,rfl,hk,hv,h3,h4⟩
  |succ i =>
   simp only [psetAt,List.modify_succ_cons,RE3]
   exact ⟨_,_,rfl,h1,h2,h3,ih h4 i⟩
theorem RE3.snoc {es:List (AV×PV×Nat)} {xs:List MapEntry} (h:RE3 s es xs) {k:AV} {v:PV} {kv vv:Value} (hk:VR noEnv k kv) (hv:RV s v vv) (b:Nat) :
  RE3 s (es++[(k,v,b)]) (xs++[{ key:=kv,val:=vv,born:=b }]):=by
 induction es generalizing xs with
 |nil=>simp only [RE3] at h;subst h;simp only [List.nil_append,RE3];exact ⟨_,_,rfl,hk,hv,rfl,rfl⟩
 |cons a as ih =>
  obtain ⟨y,ys,rfl,h1,h2,h3,h4⟩:=h
  simp only [List.cons_append,RE3]
  exact ⟨_,_,rfl,h1,h2,h3,ih h4⟩
theorem RE3.erase {es:List (AV×PV×Nat)} {xs:List MapEntry} (h:RE3 s es xs):∀ (i:Nat),RE3 s (es.eraseIdx i) (xs.eraseIdx i):=by
 induction es generalizing xs with
 |nil=>intro i;simp only [RE3] at h;subst h;simp [RE3]
 |cons a as ih =>
  intro i
  obtain ⟨y,ys,rfl,h1,h2,h3,h4⟩:=h
  cases i with
  |zero=>simpa using h4
  |succ i=>simp only [List.eraseIdx_cons_succ,RE3];exact ⟨_,_,rfl,h1,h2,h3,ih h4 i⟩
theorem PW.map (h:PW w0 s) {i:Nat} {es:List (AV×PV×Nat)} {clock:Nat} (hi:s.h.get i=some (.map es clock)):∃ arr,s.w.heap[s.e i]?=some (.map arr clock)∧RE3 s es arr.toList∧i < s.h.next∧s.σ (s.e i)=.live i:=by
 obtain ⟨h1,h2,arr,h3,h4⟩:=h.hp i _ hi
 exact ⟨arr,h3,h4,h1,(BAt_live (b:=.map es clock) rfl).1 h2⟩
theorem setObj_ok (hw:PW w0 s) {i:Nat} (hi:i < s.h.next) (hl:s.σ (s.e i)=.live i) {b:PBlk} (hno:b.isOwn=false) {o o':Obj} (ho:s.w.heap[s.e i]?=some o) (hnc:∀ c t z,o≠.cells c t z) (hc:Cold o')
  (hb:∀ s':St,Ext s s'→s'.w.heap[s.e i]?=some o'→PB s' (s.e i) b) :
  ∃ s':St,(setObj (s.e i) o').run P s.w=.ok () s'.w∧PW w0 s'∧Ext s s'∧s'.h=s.h.put i b:=by
 have hlt:s.e i < s.w.heap.size:=(Array.getElem?_eq_some_iff.1 ho).1
 have u:=upd_setIf s.w (s.e i) o' hlt
 have hx:Ext s (s.put i b { s.w with heap:=s.w.heap.setIfInBounds (s.e i) o' }):=Ext.put hl (Nat.le_of_eq u.size.symm) fun k hk=>u.old k hk
 exact ⟨s.put i b { s.w with heap:=s.w.heap.setIfInBounds (s.e i) o' },by
  cases o<;>first | exact absurd rfl (hnc _ _ _) | simp only [setObj,Sem.run,ho,St.put],hw.put hi hl hno u hc (hb _ hx u.new),hx,rfl⟩
theorem cold_map (arr:Array MapEntry) (clock:Nat):Cold (.map arr clock):=fun _ _ _ e=>by cases e
theorem pmapUpdate_ok (hA:A.Ok P) (hE:E.Ok P) (hw:PW w0 s) {t:TypeId} {x k v:PV} {K:PV→PH→Prop} (h:PMapUpdate A E s.h t x k v K) {xv kv vv:Value} (hx:RV s x xv) (hk:RV s k kv) (hv:RV s v vv) :
  ∃ s',(Instr.mapUpdate t xv kv vv).run P s.w=.ok () s'.w∧PW w0 s'∧Ext s s'∧K (.tup []) s'.h:=by
 unfold PMapUpdate at h
 split at h
 case h_2=>exact h.elim
 next kt et i hu =>
 obtain ⟨es,clock,ka,r,hi,hka,hc,hf,hr⟩:=h
 obtain ⟨_,rfl⟩:=RV_mp.1 hx
 obtain ⟨arr,m1,m2,m3,m4⟩:=hw.map hi
 have hka:=PV.toAV_ok k ka _ hka hk
 have hck:=acheck_ok (w:=s.w) hA false 20 kt ka kv 10000 hc hka (by omega)
 obtain ⟨d,hd⟩:=acheck_under hc
 obtain ⟨r',r1,r2⟩:=pfindKey_ok (w:=s.w) hA hE hd hka hf m2
 have hget:(getObj (s.e i)).run P s.w=.ok (.map arr clock) s.w:=by simp [getObj,Sem.run,m1]
 split at hr
 ·next j u =>
  obtain ⟨⟨e,he,hs⟩,hK⟩:=hr
  obtain ⟨z,rfl,hz⟩:=r2
  obtain ⟨y,y1,y2,y3,_⟩:=m2.get j e he
  have hsb:=(asame_ok 20).1 _ _ _ _ 10000 hs y2 hka (by omega)
  have hy1:arr[j]?=some y:=by simpa using y1
  obtain ⟨s',s1,s2,s3,s4⟩:=setObj_ok (P:=P) hw m3 m4 (b:=.map (psetAt es j ka v) clock) rfl m1 (fun _ _ _=>by simp) (o':=.map (arr.modify j fun e=>{ e with key:=kv,val:=vv }) clock) (cold_map _ _)
   (fun s' hx' ho=>⟨_,ho,by have:=(m2.ext hx').setAt hka ((R2.ext hx' v).1 _ hv) j;simpa using this⟩)
  refine ⟨s',?_,s2,s3,by rw [s4];exact hK⟩
  simp [Instr.mapUpdate,run_underlying (hA.under_ok hu),hget,hck,r1,Instr.keyThatStays,hy1,hsb,s1]
 ·simp only [FR3] at r2
  subst r2
  obtain ⟨s',s1,s2,s3,s4⟩:=setObj_ok (P:=P) hw m3 m4 (b:=.map (es++[(ka,v,clock)]) (clock+1)) rfl m1 (fun _ _ _=>by simp) (o':=.map (arr.push { key:=kv,val:=vv,born:=clock }) (clock+1)) (cold_map _ _)
   (fun s' hx' ho=>⟨_,ho,by have:=(m2.ext hx').snoc hka ((R2.ext hx' v).1 _ hv) clock;simpa using this⟩)
  refine ⟨s',?_,s2,s3,by rw [s4];exact hr⟩
  simp [Instr.mapUpdate,run_underlying (hA.under_ok hu),hget,hck,r1,s1]
theorem pdelete_ok (hA:A.Ok P) (hE:E.Ok P) (hw:PW w0 s) {t tk ty:TypeId} {x k:PV} {K:PV→PH→Prop} (h:PDelete A E s.h t x k K) {xv kv:Value} (hx:RV s x xv) (hk:RV s k kv) :
  ∃ s',(Builtin.delete_ #[t,tk] ty #[xv,kv]).run P s.w=.ok (.tuple #[]) s'.w∧PW w0 s'∧Ext s s'∧K (.tup []) s'.h:=by
 unfold PDelete at h
 split at h
 case h_2=>exact h.elim
 next kt et i hu =>
 obtain ⟨es,clock,ka,r,hi,hka,hc,hf,hr⟩:=h
 obtain ⟨_,rfl⟩:=RV_mp.1 hx
 obtain ⟨arr,m1,m2,m3,m4⟩:=hw.map hi
 have hka:=PV.toAV_ok k ka _ hka hk
 have hck:=acheck_ok (w:=s.w) hA arr.isEmpty 20 kt ka kv 10000 hc hka (by omega)
 obtain ⟨d,hd⟩:=acheck_under hc
 obtain ⟨r',r1,r2⟩:=pfindKey_ok (w:=s.w) hA hE hd hka hf m2
 have hget:(getObj (s.e i)).run P s.w=.ok (.map arr clock) s.w:=by simp [getObj,Sem.run,m1]
 split at hr
 ·next j u =>
  obtain ⟨z,rfl,hz⟩:=r2
  obtain ⟨s',s1,s2,s3,s4⟩:=setObj_ok (P:=P) hw m3 m4 (b:=.map (es.eraseIdx j) clock) rfl m1 (fun _ _ _=>by simp) (o':=.map (arr.eraseIdxIfInBounds j) clock) (cold_map _ _)
   (fun s' hx' ho=>⟨_,ho,by have:=(m2.ext hx').erase j;simpa using this⟩)
  refine ⟨s',?_,s2,s3,by rw [s4];exact hr⟩
  simp [Builtin.delete_,run_underlying (hA.under_ok hu),hget,hck,r1,s1]
 ·simp only [FR3] at r2
  subst r2
  obtain ⟨s',s1,s2,s3,s4⟩:=setObj_ok (P:=P) hw m3 m4 (b:=.map es clock) rfl m1 (fun _ _ _=>by simp) (o':=.map arr clock) (cold_map _ _) (fun s' hx' ho=>⟨_,ho,m2.ext hx'⟩)
  refine ⟨s',?_,s2,s3,by rw [s4];exact hr⟩
  simp [Builtin.delete_,run_underlying (hA.under_ok hu),hget,hck,r1,s1]
theorem prange_ok (hA:A.Ok P) (hw:PW w0 s) {t:TypeId} {x:PV} {K:PV→PH→Prop} (h:PRangeM A s.h t x K) {xv:Value} (hx:RV s x xv) :
  ∃ r v s',(Instr.range t xv).run P s.w=.ok r s'.w∧PW w0 s'∧Ext s s'∧RV s' v r∧K v s'.h:=by
 have new:∀ (b:PBlk) (o:Obj),Cold o→b.isOwn=false→PB (s.new b o) s.w.heap.size b→K (.ptr s.h.next 0) (s.h.add b) →
   ∃ s',s'.w=s.w.alloc o∧PW w0 s'∧Ext s s'∧RV s' (.ptr s.h.next 0) (.pointer (some ⟨s.w.heap.size,0,none⟩))∧K (.ptr s.h.next 0) s'.h:=fun b o hc hno hb hK =>
  ⟨s.new b o,rfl,hw.new hc hno hb,Ext.new hw,RV_ptr.2 ⟨Nat.lt_succ_self _,by simp [St.new,upd_self]⟩,hK⟩
 unfold PRangeM at h
 split at h
 ·next kt et hu =>
  have hx:=(RV_lit.1 hx).2
  simp only [VR] at hx
  subst hx
  obtain ⟨s',s1,s2,s3,s4,s5⟩:=new (.iter none 0 [] 0) (.mapIter none 0 #[] 0) (fun _ _ _ e=>by cases e) rfl ⟨fun _ e=>(by cases e),heap_alloc_new _ _⟩ h
  exact ⟨_,_,s',by rw [s1];simp [Instr.range,run_underlying (hA.under_ok hu)],s2,s3,s4,s5⟩
 ·next kt et j hu =>
  obtain ⟨es,clock,hj,hK⟩:=h
  obtain ⟨_,rfl⟩:=RV_mp.1 hx
  obtain ⟨arr,m1,m2,m3,m4⟩:=hw.map hj
  have hget:(getObj (s.e j)).run P s.w=.ok (.map arr clock) s.w:=by simp [getObj,Sem.run,m1]
  obtain ⟨s',s1,s2,s3,s4,s5⟩:=new (.iter (some j) clock [] clock) (.mapIter (some (s.e j)) clock #[] clock) (fun _ _ _ e=>by cases e) rfl
   ⟨fun i e => (by cases e; exact Nat.lt_succ_of_lt m3), by
    rw [show (s.new (.iter (some j) clock [] clock) (.mapIter (some (s.e j)) clock #[] clock)).w.heap[s.w.heap.size]?=_ from heap_alloc_new _ _]
    simp only [Option.map_some,St.new,upd_ne s.e s.w.heap.size (show j≠s.h.next by omega)]⟩ hK
  exact ⟨_,_,s',by rw [s1];simp [Instr.range,run_underlying (hA.under_ok hu),hget],s2,s3,s4,s5⟩
 ·next kt et ks vs hu =>
  unfold RV R2 at hx
  obtain ⟨b,c,zs,rfl,hf,hv⟩:=hx
  obtain ⟨arr,f1,f2⟩:=id hf
  have hget:(getObj b).run P s.w=.ok (.map arr c) s.w:=by simp [getObj,Sem.run,(fmp_some.1 f1).2]
  have hxn:=Ext.new hw (b:=.fit ks vs []) (o:=.mapIter (some b) c #[] c)
  obtain ⟨s',s1,s2,s3,s4,s5⟩:=new (.fit ks vs []) (.mapIter (some b) c #[] c) (fun _ _ _ e=>by cases e) rfl
   ⟨b,c,zs,hf.ext hxn.toExt0,(R2s.ext hxn vs).1 _ hv,fun p hp=>(by cases hp),heap_alloc_new _ _⟩ h
  exact ⟨_,_,s',by rw [s1];simp [Instr.range,run_underlying (hA.under_ok hu),hget],s2,s3,s4,s5⟩
 ·exact h.elim
theorem PW.iter (h:PW w0 s) {i:Nat} {m:Option Nat} {since:Nat} {seen:List Nat} {last:Nat} (hi:s.h.get i=some (.iter m since seen last)) :
  s.w.heap[s.e i]?=some (.mapIter (m.map s.e) since seen.toArray last)∧i < s.h.next∧s.σ (s.e i)=.live i∧∀ j,m=some j→j < s.h.next:=by
 obtain ⟨h1,h2,h3,h4⟩:=h.hp i _ hi
 exact ⟨h4,h1,(BAt_live (b:=.iter m since seen last) rfl).1 h2,h3⟩
theorem PW.fit (h:PW w0 s) {i:Nat} {ks:List AV} {vs:List PV} {seen:List Nat} (hi:s.h.get i=some (.fit ks vs seen)) :
  i < s.h.next∧s.σ (s.e i)=.live i∧∃ b c zs,FM0 s b ks c zs∧RVs s vs (zs.map (·.val))∧(∀ p∈seen,p < zs.length)∧s.w.heap[s.e i]?=some (.mapIter (some b) c (seen.map fun p=>(zs.map (·.born)).getD p 0).toArray c):=by
 obtain ⟨h1,h2,h3⟩:=h.hp i _ hi
 exact ⟨h1,(BAt_live (b:=.fit ks vs seen) rfl).1 h2,h3⟩
theorem KL.get:∀ {ks:List AV} {xs:List Value} {p:Nat} {x:Value},KL ks xs→xs[p]?=some x→∃ a,ks[p]?=some a∧VR noEnv a x
 |[],_,p,x,h,hx=>by cases h;simp at hx
 |a::as,_,p,x,⟨y,ys,e,h1,h2⟩,hx=>by
  subst e
  cases p with
  |zero=>simp at hx;subst hx;exact ⟨a,rfl,h1⟩
  |succ p=>simpa using KL.get h2 (by simpa using hx)
theorem RVs_get {l:List PV}:∀ {xs:List Value} {p:Nat} {x:Value},RVs s l xs→xs[p]?=some x→∃ v,l[p]?=some v∧RV s v x:=by
 induction l with
 |nil=>intro xs p x h hx;have:=RVs_nil.1 h;subst this;simp at hx
 |cons v vs ih =>
  intro xs p x h hx
  obtain ⟨y,ys,rfl,h1,h2⟩:=RVs_cons.1 h
  cases p with
  |zero=>simp at hx;subst hx;exact ⟨v,rfl,h1⟩
  |succ p=>simpa using ih h2 (by simpa using hx)
theorem born_inj {zs:List MapEntry} (h:(zs.map (·.born)).Nodup) {p q:Nat} {y z:MapEntry} (hp:zs[p]?=some y) (hq:zs[q]?=some z) (e:y.born=z.born):p=q:=by
 have h1:(zs.map (·.born))[p]?=some y.born:=by simp [hp]
 have h2:(zs.map (·.born))[q]?=some z.born:=by simp [hq]
 rw [e] at h1
 have hlt:p < (zs.map (·.born)).length:=(List.getElem?_eq_some_iff.1 h1).1
 exact (List.getElem?_inj hlt h).1 (h1.trans h2.symm)
theorem born_getD {zs:List MapEntry} {p:Nat} {y:MapEntry} (hp:zs[p]?=some y):(zs.map (·.born)).getD p 0=y.born:=by
 simp [List.getD,hp]
theorem pnextF_ok (hw:PW w0 s) {ty:TypeId} {i:Nat} {K:PV→PH→Prop} (h:∃ ks vs seen,s.h.get i=some (.fit ks vs seen)∧((∀ p,p < ks.length→p∈seen)→K (.tup [.lit (.bool false)]) s.h) ∧
    ∀ p,p < ks.length→p ∉ seen→∃ a v kv,ks[p]?=some a∧vs[p]?=some v∧PV.ofAV a=some kv∧K (.tup [.lit (.bool true),kv,v]) (s.h.put i (.fit ks vs (seen++[p])))) :
  ∃ r v s',(Instr.next (.pointer (some ⟨s.e i,0,none⟩)) false ty).run P s.w=.ok r s'.w∧PW w0 s'∧Ext s s'∧RV s' v r∧K v s'.h:=by
 have hover:RV s (.tup [.lit (.bool false)]) (.tuple #[.bool false]):=RV_tup.2 ⟨_,rfl,RVs_cons.2 ⟨_,_,rfl,RV_lit.2 ⟨rfl,by simp only [VR]⟩,RVs_nil.2 rfl⟩⟩
 obtain ⟨ks,vs,seen,hi,hK1,hK2⟩:=h
 obtain ⟨h1,h2,b,c,zs,hf,hv,hseen,hheap⟩:=hw.fit hi
 obtain ⟨arr,f1,f2,f3,f4,f5⟩:=id hf
 have hlen:zs.length=ks.length:=by simpa using f3.length
 have hm:=(fmp_some.1 f1).2
 rcases run_next_at (P:=P) s.w ty (s.e i) b c c _ arr c hheap hm (fun y hy=>f4 y (f2.mem_iff.2 hy)) (Nat.le_refl _) with ⟨r1,r2⟩ | ⟨y,y1,w1,y2,y3⟩
 ·refine ⟨_,_,s,r2,hw,Ext.refl s,hover,hK1 fun p hp=>?_⟩
  have hpz:p < zs.length:=by omega
  have hz:zs[p]?=some zs[p]:=List.getElem?_eq_getElem hpz
  have hmem:zs[p]∈arr.toList:=f2.mem_iff.1 (List.getElem_mem hpz)
  have h0:leftOf arr _=#[]:=Array.eq_empty_of_size_eq_zero r1
  unfold leftOf at h0
  rw [Array.filter_eq_empty_iff] at h0
  have:=h0 zs[p] (by simpa using hmem)
  simp at this
  obtain ⟨q,q1,q2⟩:=this
  have hq:=hseen q q1
  have hzq:zs[q]?=some zs[q]:=List.getElem?_eq_getElem hq
  have:q=p:=born_inj f5 hzq hz (by rw [← q2];simp [hq])
  rw [← this]
  exact q1
 ·unfold leftOf at y1
  simp at y1
  obtain ⟨y1a,y1b⟩:=y1
  have ym:y∈zs:=f2.mem_iff.2 (by simpa using y1a)
  obtain ⟨p,hp,hpy⟩:=List.getElem_of_mem ym
  have hz:zs[p]?=some y:=by rw [List.getElem?_eq_getElem hp,hpy]
  have hps:p ∉ seen:=fun hin=>y1b p hin (by simp [hz])
  obtain ⟨a,v,kv,k1,k2,k3,k4⟩:=hK2 p (by omega) hps
  obtain ⟨a',ka1,ka2⟩:=f3.get (p:=p) (x:=y.key) (by simp [hz])
  rw [k1] at ka1
  cases ka1
  obtain ⟨v',kv1,kv2⟩:=RVs_get hv (p:=p) (x:=y.val) (by simp [hz])
  rw [k2] at kv1
  cases kv1
  have s1:∃ s1:St,s1.w=w1∧PW w0 s1∧Ext s s1∧s1.h=s.h∧s1.e=s.e∧s1.σ=s.σ:=by
   rcases y2 with rfl | rfl
   ·exact ⟨s,rfl,hw,Ext.refl s,rfl,rfl,rfl⟩
   ·exact ⟨s.wat s.w.drew,rfl,hw.drew,Ext.drew s,rfl,rfl,rfl⟩
  obtain ⟨s1,q1,q2,q3,q4,q5,q6⟩:=s1
  subst q1
  have h1':s1.w.heap[s1.e i]?=some (.mapIter (some b) c (seen.map fun p=>(zs.map (·.born)).getD p 0).toArray c):=by
   rw [q5]
   rcases y2 with e | e<;>rw [e]<;>exact hheap
  have hlt:s1.e i < s1.w.heap.size:=(Array.getElem?_eq_some_iff.1 h1').1
  have u:=upd_setIf s1.w (s1.e i) (.mapIter (some b) c ((seen.map fun p=>(zs.map (·.born)).getD p 0).toArray.push y.born) c) hlt
  have hl1:s1.σ (s1.e i)=.live i:=by rw [q5,q6];exact h2
  have hx1:Ext s1 (s1.put i (.fit ks vs (seen++[p])) { s1.w with heap:=s1.w.heap.setIfInBounds (s1.e i) (.mapIter (some b) c ((seen.map fun p=>(zs.map (·.born)).getD p 0).toArray.push y.born) c) }):=Ext.put hl1 (Nat.le_of_eq u.size.symm) fun k hk=>u.old k hk
  refine ⟨.tuple #[.bool true,y.key,y.val],.tup [.lit (.bool true),kv,v],_,?_,q2.put (by rw [q4];exact h1) hl1 (b:=.fit ks vs (seen++[p])) rfl u (fun _ _ _ e=>by cases e) ⟨b,c,zs,(hf.ext q3.toExt0).ext hx1.toExt0,(R2s.ext hx1 vs).1 _ ((R2s.ext q3 vs).1 _ hv),fun p' hp'=>?_,?_⟩,q3.trans hx1,?_,?_⟩
  ·have y3':=y3
   rw [← q5] at y3' ⊢
   exact y3'
  ·rcases List.mem_append.1 hp' with hp' | hp'
   ·exact hseen p' hp'
   ·rw [List.mem_singleton.1 hp'];exact hp
  ·refine u.new.trans ?_
   rw [List.map_append,List.map_singleton,born_getD hz,← List.push_toArray]
  ·refine (R2.ext hx1 _).1 _ ((R2.ext q3 _).1 _ (RV_tup.2 ⟨_,rfl,RVs_cons.2 ⟨_,_,rfl,RV_lit.2 ⟨rfl,by simp only [VR]⟩,RVs_cons.2 ⟨_,_,rfl,back_ok k3 ka2,RVs_cons.2 ⟨_,_,rfl,kv2,RVs_nil.2 rfl⟩⟩⟩⟩))
  ·simp only [St.put,q4]
   exact k4
theorem pnext_ok (hw:PW w0 s) {ty:TypeId} {it:PV} {K:PV→PH→Prop} (h:PNext s.h it K) {x:Value} (hx:RV s it x) :
  ∃ r v s',(Instr.next x false ty).run P s.w=.ok r s'.w∧PW w0 s'∧Ext s s'∧RV s' v r∧K v s'.h:=by
 have hover:RV s (.tup [.lit (.bool false)]) (.tuple #[.bool false]):=RV_tup.2 ⟨_,rfl,RVs_cons.2 ⟨_,_,rfl,RV_lit.2 ⟨rfl,by simp only [VR]⟩,RVs_nil.2 rfl⟩⟩
 unfold PNext at h
 split at h
 case h_2=>exact h.elim
 next i =>
 obtain ⟨_,rfl⟩:=RV_ptr.1 hx
 rcases h with h | h
 ·exact pnextF_ok hw h
 obtain ⟨m,since,seen,last,hi,hm⟩:=h
 obtain ⟨h1,h2,h3,h4⟩:=hw.iter hi
 split at hm
 ·refine ⟨_,_,s,?_,hw,Ext.refl s,hover,hm⟩
  simp [Instr.next,getObj,Sem.run,h1]
 ·next j =>
  obtain ⟨es,clock,hj,hsl,hold,hK1,hK2⟩:=hm
  obtain ⟨arr,m1,m2,m3,m4⟩:=hw.map hj
  have hold':∀ y∈arr.toList,y.born < since:=fun y hy=>by
   obtain ⟨e,e1,_,_,e4⟩:=m2.mem y hy
   rw [← e4]
   exact hold e e1
  rcases run_next_at (P:=P) s.w ty (s.e i) (s.e j) since last seen.toArray arr clock h1 m1 hold' hsl with ⟨r1,r2⟩ | ⟨y,y1,w1,y2,y3⟩
  ·refine ⟨_,_,s,r2,hw,Ext.refl s,hover,hK1 fun e he=>?_⟩
   obtain ⟨y,y1,y2⟩:=m2.mem' e he
   have h0:leftOf arr seen.toArray=#[]:=Array.eq_empty_of_size_eq_zero r1
   unfold leftOf at h0
   rw [Array.filter_eq_empty_iff] at h0
   have:=h0 y (by simpa using y1)
   simp at this
   rw [y2]
   exact this
  ·unfold leftOf at y1
   simp at y1
   obtain ⟨e,e1,e2,e3,e4⟩:=m2.mem y (by simpa using y1.1)
   obtain ⟨kv,k1,k2⟩:=hK2 e e1 (by rw [e4];exact y1.2)
   have s1:∃ s1:St,s1.w=w1∧PW w0 s1∧Ext s s1∧s1.h=s.h∧s1.e=s.e∧s1.σ=s.σ:=by
    rcases y2 with rfl | rfl
    ·exact ⟨s,rfl,hw,Ext.refl s,rfl,rfl,rfl⟩
    ·exact ⟨s.wat s.w.drew,rfl,hw.drew,Ext.drew s,rfl,rfl,rfl⟩
   obtain ⟨s1,q1,q2,q3,q4,q5,q6⟩:=s1
   subst q1
   have h1':s1.w.heap[s1.e i]?=some (.mapIter ((some j).map s.e) since seen.toArray last):=by
    rw [q5]
    rcases y2 with e | e<;>rw [e]<;>exact h1
   have hlt:s1.e i < s1.w.heap.size:=(Array.getElem?_eq_some_iff.1 h1').1
   have u:=upd_setIf s1.w (s1.e i) (.mapIter (some (s.e j)) since (seen.toArray.push y.born) clock) hlt
   have hl1:s1.σ (s1.e i)=.live i:=by rw [q5,q6];exact h3
   have hx1:Ext s1 (s1.put i (.iter (some j) since (seen++[e.2.2]) clock) { s1.w with heap:=s1.w.heap.setIfInBounds (s1.e i) (.mapIter (some (s.e j)) since (seen.toArray.push y.born) clock) }):=Ext.put hl1 (Nat.le_of_eq u.size.symm) fun k hk=>u.old k hk
   refine ⟨.tuple #[.bool true,y.key,y.val],.tup [.lit (.bool true),kv,e.2.1],_,?_,q2.put (by rw [q4];exact h2) hl1 (b:=.iter (some j) since (seen++[e.2.2]) clock) rfl u (fun _ _ _ e=>by cases e) ⟨fun j' ej=>?_,?_⟩,q3.trans hx1,?_,?_⟩
   ·have y3':=y3
    rw [← q5] at y3' ⊢
    exact y3'
   ·cases ej
    show j < s1.h.next
    rw [q4]
    exact m3
   ·refine u.new.trans ?_
    simp only [Option.map_some,St.put,q5,e4]
    simp
   ·refine (R2.ext hx1 _).1 _ ((R2.ext q3 _).1 _ (RV_tup.2 ⟨_,rfl,RVs_cons.2 ⟨_,_,rfl,RV_lit.2 ⟨rfl,by simp only [VR]⟩,RVs_cons.2 ⟨_,_,rfl,back_ok k1 e2,RVs_cons.2 ⟨_,_,rfl,e3,RVs_nil.2 rfl⟩⟩⟩⟩))
   ·simp only [St.put,q4]
    exact k2
theorem pentry_ok (hw:PW w0 s) {it:PV} {K:PV→PH→Prop} (h:PEntry s.h it K) {x:Value} (hx:RV s it x) :
  ∃ r v s',(Instr.entry x).run P s.w=.ok r s'.w∧PW w0 s'∧Ext s s'∧RV s' v r∧K v s'.h:=by
 unfold PEntry at h
 split at h
 case h_2=>exact h.elim
 next i =>
 rcases h with ⟨ks,vs,seen,p,a,v,kv,hi,k1,k2,k3,k4⟩ | h
 ·obtain ⟨h1,h2,b,c,zs,hf,hv,hseen,hheap⟩:=hw.fit hi
  obtain ⟨arr,f1,f2,f3,f4,f5⟩:=id hf
  have hm:=(fmp_some.1 f1).2
  obtain ⟨_,rfl⟩:=RV_ptr.1 hx
  have hp:=hseen p (by simp)
  have hz:zs[p]?=some zs[p]:=List.getElem?_eq_getElem hp
  obtain ⟨a',ka1,ka2⟩:=f3.get (p:=p) (x:=zs[p].key) (by simp [hz])
  rw [k1] at ka1
  cases ka1
  obtain ⟨v',kv1,kv2⟩:=RVs_get hv (p:=p) (x:=zs[p].val) (by simp [hz])
  rw [k2] at kv1
  cases kv1
  have hfind:arr.find? (·.born == zs[p].born)=some zs[p]:=by
   rw [← Array.find?_toList]
   cases hfd:arr.toList.find? (·.born == zs[p].born) with
   |none =>
    have:=List.find?_eq_none.1 hfd zs[p] (f2.mem_iff.1 (List.getElem_mem hp))
    simp at this
   |some y =>
    have hyb:y.born=zs[p].born:=by simpa using List.find?_some hfd
    have hym:y∈zs:=f2.mem_iff.2 (List.mem_of_find?_eq_some hfd)
    obtain ⟨q,hq,hqy⟩:=List.getElem_of_mem hym
    have hzq:zs[q]?=some y:=by rw [List.getElem?_eq_getElem hq,hqy]
    have:q=p:=born_inj f5 hzq hz hyb
    subst this
    rw [hqy]
  refine ⟨.tuple #[zs[p].key,zs[p].val],_,s,?_,hw,Ext.refl s,RV_tup.2 ⟨_,rfl,RVs_cons.2 ⟨_,_,rfl,back_ok k3 ka2,RVs_cons.2 ⟨_,_,rfl,kv2,RVs_nil.2 rfl⟩⟩⟩,k4⟩
  have hb:(((seen++[p]).map fun p=>(zs.map (·.born)).getD p 0).toArray).back?=some zs[p].born:=by
   rw [List.map_append,List.map_singleton,born_getD hz,← List.push_toArray]
   simp
  simp only [Instr.entry,getObj,Sem.run_bind,Sem.run,hheap,hm,Result.andThen,hb,bne_self_eq_false,Bool.false_eq_true,if_false,hfind]
  rfl
 obtain ⟨j,since,seen,b,es,clock,hi,hj,e,kv,he,hk,hK⟩:=h
 obtain ⟨h1,h2,h3,h4⟩:=hw.iter hi
 obtain ⟨arr,m1,m2,m3,m4⟩:=hw.map hj
 obtain ⟨_,rfl⟩:=RV_ptr.1 hx
 have find:∀ (es:List (AV×PV×Nat)) (xs:List MapEntry),RE3 s es xs→∀ e,es.find? (fun e=>e.2.2 == b)=some e→∃ y,xs.find? (·.born == b)=some y∧VR noEnv e.1 y.key∧RV s e.2.1 y.val:=by
  intro es
  induction es with
  |nil=>intro xs _ e h;simp at h
  |cons a as ih =>
   rintro xs ⟨y,ys,rfl,p1,p2,p3,p4⟩ e h
   simp only [List.find?_cons] at h ⊢
   rw [← p3]
   cases hab:a.2.2 == b with
   |true=>rw [hab] at h;cases h;exact ⟨y,rfl,p1,p2⟩
   |false=>rw [hab] at h;exact ih ys p4 e h
 obtain ⟨y,y1,y2,y3⟩:=find es arr.toList m2 e he
 refine ⟨.tuple #[y.key,y.val],_,s,?_,hw,Ext.refl s,RV_tup.2 ⟨_,rfl,RVs_cons.2 ⟨_,_,rfl,back_ok hk y2,RVs_cons.2 ⟨_,_,rfl,y3,RVs_nil.2 rfl⟩⟩⟩,hK⟩
 have hf:arr.find? (·.born == b)=some y:=by rw [← Array.find?_toList];exact y1
 simp only [Option.map_some] at h1
 have hb:(seen++[b]).toArray.back?=some b:=by simp
 simp only [Instr.entry,getObj,Sem.run_bind,Sem.run,h1,m1,Result.andThen,hb,bne_self_eq_false,Bool.false_eq_true,if_false,hf]
 rfl
end
end Go.Pv
namespace Go.Am
open Go.RowKit
inductive AItem where
 |code (c:Code)
 |inBlock (id:Nat)
 |inLoop (c:Code)
 |inScope (c:Code)
 |ops (all rest:List Oper)
 |inRF (l:Nat)
 |endRF (l:Nat)
 |beginRound
 |one (all:List Oper) (o:Oper)
 |don (v:AV)
inductive AMode where
 |run
 |returning
 |panicking (chain:List (AV×Bool))
structure AFr where
 fn:FuncId
 sz:Nat
 tmps:T AV
 todo:List AItem
 defers:List ADef
 mode:AMode
 kind:CallKind
 rnd:Option Nat
structure ASt where
 fr:AFr
 cs:List AFr
 H:Heap
def AFr.fin (fr:AFr) (v:AV):Option AFr :=
 match fr.todo with
 |.ops all (o::rest)::k=>match o.dst with
  |some d=>match Nat.blt d fr.sz with
   |true=>some { fr with tmps:=fr.tmps.set d v,todo:=.ops all rest::k }
   |false=>none
  |none=>some { fr with todo:=.ops all rest::k }
 |.inRF l::k=>some { fr with todo:=.endRF l::k }
 |.beginRound::k=>some { fr with todo:=k }
 |.one _ _::_=>some { fr with todo:=[.don v] }
 |_=>none
def AFr.lone (fr:AFr):Bool :=
 match fr.todo with
 |.one _ _::_=>true
 |.don _::_=>true
 |_=>false
def AFr.raise (fr:AFr) (vs:List (AV×Bool)):AFr :=
 match fr.mode with
 |.panicking chain=>{ fr with mode:=.panicking (vs++chain) }
 |_=>{ fr with mode:=.panicking vs }
def AFr.enter (A:AP) (f:FuncId) (args:List AV) (kind:CallKind):Option AFr :=
 match A.funcs.get f with
 |some fn=>match fn.body with
  |some c=>some { fn:=f,sz:=args.length+(fn.ntmps - args.length),tmps:=T.ofList args 0 .nil,todo:=[.code c],defers:=[],mode:=.run,kind,rnd:=none }
  |none=>none
 |none=>none
abbrev Drawer:=AFr→Array Oper→Heap→Option (T AV×Heap)
end Go.Am
namespace Go.Am
open Go.RowKit
def isTmp:Operand→Option Tmp
 |.tmp t=>some t
 |_=>none
def tmpsOf (l:List Operand):List Tmp:=l.filterMap isTmp
def looks (all:List Oper) (o:Oper):List Tmp :=
 match o.guard with
 |some (j,_)=>match all[j]? with
  |some p=>match p.dst with
   |some d=>d::tmpsOf o.op.operands.toList
   |none=>tmpsOf o.op.operands.toList
  |none=>tmpsOf o.op.operands.toList
 |none=>tmpsOf o.op.operands.toList
def quietOp:Op→Bool
 |.move _ | .assign _ | .pick _ _ _ | .build _ _ | .load _ _ | .nilCheck _ | .binOp _ _ _ _ _ | .unOp _ _ _ | .convert _ _ _ | .makeInterface _ _ | .makeFunc _ _ _ | .slice _ _ _ _ _
 |.fieldAddr _ _ _ | .field _ _ _ | .indexAddr _ _ _ | .index _ _ _ | .lookup _ _ _ _ | .typeAssert _ _ _ _ | .extract _ _=>true
 |.call c=>match c.callee with
  |.builtin .len=>true
  |.builtin .min=>true
  |.builtin .max=>true
  |_=>false
 |_=>false
def newOp:Op→Bool
 |.alloc _ | .box _ _ | .buildSlice _ _ _ | .makeMap _ none=>true
 |_=>false
inductive Kin where
 |quiet
 |new
 |loud
def kin (o:Op):Kin :=
 match quietOp o with
 |true=>.quiet
 |false=>match newOp o with
  |true=>.new
  |false=>.loud
def readOp:Op→Bool
 |.load _ _ | .lookup _ _ _ _ | .fieldAddr _ _ _=>true
 |.call c=>match c.callee with
  |.builtin .len=>true
  |_=>false
 |_=>false
def ancOf (look:T Nat):List Edge→Nat→Nat
 |[],s=>s
 |e::es,s=>match Region.binds .any e with
  |true=>ancOf look es (s ||| (1 <<< e.on) ||| (look.get e.on).getD 0)
  |false=>ancOf look es s
def ancs:List Oper→Nat→T Nat→T Nat
 |[],_,t=>t
 |o::os,i,t=>ancs os (i+1) (t.set i (ancOf t o.after.toList 0))
def edgesOk:List Oper→Nat→Bool
 |[],_=>true
 |o::os,i=>match o.after.toList.all (fun e=>!Region.binds .any e || Nat.blt e.on i) with
  |true=>edgesOk os (i+1)
  |false=>false
def writers:List Oper→Nat→T Nat→Option (T Nat)
 |[],_,t=>some t
 |o::os,i,t=>match o.dst with
  |some d=>match t.get d with
   |some _=>none
   |none=>writers os (i+1) (t.set d i)
  |none=>writers os (i+1) t
mutual
def AV.beq:AV→AV→Bool
 |.bool a,.bool b=>a == b
 |.int j a,.int k b=>decide (j=k) && decide (a=b)
 |.str a,.str b=>decide (a=b)
 |.ptr a o,.ptr b p=>Nat.beq a b && Nat.beq o p
 |.nilptr,.nilptr=>true
 |.zptr,.zptr=>true
 |.sl a o n (.ex c),.sl b p k (.ex d)=>Nat.beq a b && Nat.beq o p && Nat.beq n k && Nat.beq c d
 |.sl a o n (.un c x),.sl b p k (.un d y)=>Nat.beq a b && Nat.beq o p && Nat.beq n k && Nat.beq c d && Nat.beq x y
 |.nilsl,.nilsl=>true
 |.map a,.map b=>Nat.beq a b
 |.nilmap,.nilmap=>true
 |.fn f a b,.fn g c d=>decide (f=g) && AV.beqs a c && AV.beqs b d
 |.yld a,.yld b=>Nat.beq a b
 |.nilfn,.nilfn=>true
 |.ifc t a,.ifc u b=>Nat.beq t u && AV.beq a b
 |.nilifc,.nilifc=>true
 |.agg a,.agg b=>AV.beqs a b
 |.tup a,.tup b=>AV.beqs a b
 |_,_=>false
def AV.beqs:List AV→List AV→Bool
 |[],[]=>true
 |a::as,b::bs=>AV.beq a b && AV.beqs as bs
 |_,_=>false
end
structure DSt where
 t:T AV
 vs:T AV
 H:Heap
 Hs:T Heap
 lev:Nat
 wait:List (Nat×Nat×ABlk)
 next:Nat
end Go.Am
namespace Go.Am
open Go.RowKit
structure Lone where
 f:Frame
 ops:Array Oper
 i:Nat
 rest:List Nat
 k:List Item
 mode:f.mode=.run
def IR (m:Env):AItem→Item→Prop
 |.code c,i=>i=.code c
 |.inBlock id,i=>i=.inBlock id
 |.inLoop c,i=>i=.inLoop c
 |.inScope c,i=>i=.inScope c
 |.ops all rest,i=>∃ arr is,i=.inRegion arr is∧arr.toList=all∧is.map (fun j=>arr[j]?)=rest.map some
 |.inRF l,i=>∃ lc,m l=some lc∧i=.inRangeFunc lc.blk
 |.endRF l,i=>∃ lc,m l=some lc∧i=.endRangeFunc lc.blk
 |.beginRound,i=>i=.beginRound
 |.one _ _,_=>False
 |.don _,_=>False
def IRs (m:Env):List AItem→List Item→Prop
 |[],xs=>xs=[]
 |a::as,xs=>∃ y ys,xs=y::ys∧IR m a y∧IRs m as ys
def CR (m:Env):List (AV×Bool)→List PanicEntry→Prop
 |[],xs=>xs=[]
 |a::as,xs=>∃ y ys,xs=y::ys∧VR m a.1 y.v∧a.2=y.recovered∧y.goexit=false∧CR m as ys
def MR (m:Env):AMode→FrameMode→Prop
 |.run,x=>x=.run
 |.returning,x=>x=.returning
 |.panicking c,x=>∃ c',x=.panicking c'∧CR m c c'
def RR (m:Env):Option Nat→Option Nat→Prop
 |none,x=>x=none
 |some l,x=>∃ lc,m l=some lc∧x=some lc.blk
structure FrN (m:Env) (a:AFr) (f:Frame):Prop where
 fn:f.fn=a.fn
 tmps:TR m a.sz a.tmps f.tmps
 todo:IRs m a.todo f.todo
 defers:DRs m a.defers f.defers
 mode:MR m a.mode f.mode
 kind:f.kind=a.kind
 rnd:RR m a.rnd f.roundOf
structure FrL (Z:Lone) (m:Env) (a:AFr) (f:Frame):Prop where
 todo:(∃ o,a.todo=[.one Z.ops.toList o]∧Z.ops[Z.i]?=some o∧f={ Z.f with todo:=.inRegion Z.ops (Z.i::Z.rest)::Z.k }∧TR m a.sz a.tmps Z.f.tmps) ∨
  (∃ v x,a.todo=[.don v]∧VR m v x∧f=({ Z.f with todo:=.inRegion Z.ops (Z.i::Z.rest)::Z.k }:Frame).finish x)
 mode:a.mode=.run
 fn:Z.f.fn=a.fn
 kind:Z.f.kind=a.kind
 rnd:RR m a.rnd Z.f.roundOf
def FrR (Z:Option Lone) (m:Env) (a:AFr) (f:Frame):Prop :=
 FrN m a f∨∃ z,Z=some z∧FrL z m a f
def FrRs (Z:Option Lone) (m:Env):List AFr→List Frame→Prop
 |[],xs=>xs=[]
 |a::as,xs=>∃ y ys,xs=y::ys∧FrR Z m a y∧FrRs Z m as ys
section
variable {m m':Env} {Z:Option Lone}
theorem IR.mono (h:m.le m') {a:AItem} {i:Item} (e:IR m a i):IR m' a i:=by
 cases a<;>simp only [IR] at e ⊢<;>first
  |exact e
  |(obtain ⟨lc,h1,h2⟩:=e;exact ⟨lc,h _ _ h1,h2⟩)
theorem IRs.mono (h:m.le m'):∀ {a:List AItem} {i:List Item},IRs m a i→IRs m' a i
 |[],_,e=>e
 |_::_,_,⟨y,ys,h1,h2,h3⟩=>⟨y,ys,h1,h2.mono h,IRs.mono h h3⟩
theorem CR.mono (h:m.le m'):∀ {a:List (AV×Bool)} {i:List PanicEntry},CR m a i→CR m' a i
 |[],_,e=>e
 |_::_,_,⟨y,ys,h1,h2,h3,h4,h5⟩=>⟨y,ys,h1,VR.mono h _ _ h2,h3,h4,CR.mono h h5⟩
theorem MR.mono (h:m.le m') {a:AMode} {x:FrameMode} (e:MR m a x):MR m' a x:=by
 cases a with
 |run=>exact e
 |returning=>exact e
 |panicking c=>obtain ⟨c',h1,h2⟩:=e;exact ⟨c',h1,h2.mono h⟩
theorem RR.mono (h:m.le m') {a:Option Nat} {x:Option Nat} (e:RR m a x):RR m' a x:=by
 cases a with
 |none=>exact e
 |some l=>obtain ⟨lc,h1,h2⟩:=e;exact ⟨lc,h _ _ h1,h2⟩
theorem FrN.mono (h:m.le m') {a:AFr} {f:Frame} (e:FrN m a f):FrN m' a f :=
 ⟨e.fn,e.tmps.mono h,e.todo.mono h,e.defers.mono h,e.mode.mono h,e.kind,e.rnd.mono h⟩
theorem FrL.mono {z:Lone} (h:m.le m') {a:AFr} {f:Frame} (e:FrL z m a f):FrL z m' a f:=by
 refine ⟨?_,e.mode,e.fn,e.kind,e.rnd.mono h⟩
 rcases e.todo with ⟨o,h1,h2,h3,h4⟩ | ⟨v,x,h1,h2,h3⟩
 ·exact .inl ⟨o,h1,h2,h3,h4.mono h⟩
 ·exact .inr ⟨v,x,h1,VR.mono h _ _ h2,h3⟩
theorem FrR.mono (h:m.le m') {a:AFr} {f:Frame} (e:FrR Z m a f):FrR Z m' a f:=by
 rcases e with e | ⟨z,hz,e⟩
 ·exact .inl (e.mono h)
 ·exact .inr ⟨z,hz,e.mono h⟩
theorem FrRs.mono (h:m.le m'):∀ {a:List AFr} {f:List Frame},FrRs Z m a f→FrRs Z m' a f
 |[],_,e=>e
 |_::_,_,⟨y,ys,h1,h2,h3⟩=>⟨y,ys,h1,h2.mono h,FrRs.mono h h3⟩
end
end Go.Am
