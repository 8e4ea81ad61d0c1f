/- Parts of the proof: Am13, Am14, Am15, Am16, Pv1, Pv2 -/
import Derived.Test.YtkabfhoicdeehaaGreatP2
import Derived.Calls
set_option linter.unusedVariables false
set_option linter.unusedSimpArgs false
set_option linter.unusedSectionVars false
namespace Go.Am
open Go.RowKit
section
variable {m:Env} {w:World} {A:AP} {P:Program} {E:Eqs} {B0:Prot} {w0:World} {H:Heap}
theorem sameNow_ok {kind:TypeDesc} {x y:AV} {n:Nat} {kt:TypeId} {b b':Bool} {xv yv:Value} (hx:VR m x xv) (hy:VR m y yv)
  (h:aeqv A E (n+1) kt x y=some b) (hs:Instr.sameNow kind xv yv=some b'):b=b':=by
 cases x<;>cases y<;>simp only [aeqv,reduceCtorEq] at h
 case bool.bool p q =>
  simp only [VR] at hx hy
  subst hx hy
  split at h
  ·cases h
   unfold Instr.sameNow at hs
   split at hs<;>first
    |(cases hs;done)
    |(rename_i h1 h2;cases h1;cases h2;cases hs;rfl)
    |(rename_i h1 h2;cases h1)
  ·cases h
 case int.int k p k' q =>
  simp only [VR] at hx hy
  subst hx hy
  split at h
  ·split at h
   ·next hk =>
    simp only [decide_eq_true_eq] at hk
    subst hk
    cases h
    unfold Instr.sameNow at hs
    split at hs<;>first
     |(cases hs;done)
     |(rename_i h1 h2;cases h1;cases h2;simp at hs;subst hs;rfl)
     |(rename_i h1 h2;cases h1)
   ·cases h
  ·cases h
 case str.str p q =>
  simp only [VR] at hx hy
  subst hx hy
  split at h
  ·cases h
   unfold Instr.sameNow at hs
   split at hs<;>first
    |(cases hs;done)
    |(rename_i h1 h2;cases h1;cases h2;cases hs;exact (beq_toListBytes _ _).symm)
    |(rename_i h1 h2;cases h1)
  ·cases h
 case agg.agg xs ys =>
  simp only [VR] at hx hy
  obtain ⟨xs',rfl,_⟩:=hx
  obtain ⟨ys',rfl,_⟩:=hy
  simp [Instr.sameNow] at hs
theorem acheck_under {n:Nat} {t:TypeId} {v:AV} (h:acheck A n t v=true):∃ d,A.under t=some d:=by
 cases n with
 |zero=>simp [acheck] at h
 |succ n =>
  simp only [acheck] at h
  cases hu:A.under t with
  |none=>simp [hu] at h
  |some d=>exact ⟨d,rfl⟩
theorem ER.get {es:List AEnt} {xs:List MapEntry} (h:ER m es xs):∀ (i:Nat) e,es[i]?=some e→∃ y,xs[i]?=some y∧VR m e.1 y.key∧VR m e.2.1 y.val:=by
 induction es generalizing xs with
 |nil=>intro i e hi;simp at hi
 |cons a as ih =>
  intro i e hi
  simp only [ER] at h
  obtain ⟨y,ys,rfl,h1,h2,_,h4⟩:=h
  cases i with
  |zero=>simp at hi;subst hi;exact ⟨y,rfl,h1,h2⟩
  |succ i=>simp at hi ⊢;exact ih h4 i e hi
theorem ER.setAt {es:List AEnt} {xs:List MapEntry} (h:ER m es xs) {k v:AV} {kv vv:Value} (hk:VR m k kv) (hv:VR m v vv) :
  ∀ (i:Nat),ER m (asetAt es i k v) (xs.modify i fun e=>{ e with key:=kv,val:=vv }):=by
 induction es generalizing xs with
 |nil=>intro i;simp only [ER] at h;subst h;simp [asetAt,ER]
 |cons a as ih =>
  intro i
  simp only [ER] at h
  obtain ⟨y,ys,rfl,h1,h2,h3,h4⟩:=h
  cases i with
  |zero =>
   simp only [asetAt,List.modify_zero_cons,ER]
   exact ⟨_,_,rfl,hk,hv,h3,h4⟩
  |succ i =>
   simp only [asetAt,List.modify_succ_cons,ER]
   exact ⟨_,_,rfl,h1,h2,h3,ih h4 i⟩
theorem ER.snoc {es:List AEnt} {xs:List MapEntry} (h:ER m es xs) {k v:AV} {kv vv:Value} (hk:VR m k kv) (hv:VR m v vv) (b:Nat) :
  ER m (es++[(k,v,b)]) (xs++[{ key:=kv,val:=vv,born:=b }]):=by
 induction es generalizing xs with
 |nil=>simp only [ER] at h;subst h;simp only [List.nil_append,ER];exact ⟨_,_,rfl,hk,hv,rfl,rfl⟩
 |cons a as ih =>
  simp only [ER] at h
  obtain ⟨y,ys,rfl,h1,h2,h3,h4⟩:=h
  simp only [List.cons_append,ER]
  exact ⟨_,_,rfl,h1,h2,h3,ih h4⟩
theorem HR.setObj (h:HR B0 w0 m H w) {a:Nat} {b b':ABlk} (hb:H.blks.get a=some b) (hnb:∀ t f n c,b≠.cells t f n c) (hnb':∀ t f n c,b'≠.cells t f n c) {l:Loc} (hl:m a=some l) {o':Obj}
  (hbr:BR m b' l (some o')):HR B0 w0 m { H with blks:=H.blks.set a b' } { w with heap:=w.heap.setIfInBounds l.blk o' }:=by
 refine h.upd hb hl (h.live a b l hb hl) (upd_setIf w l.blk o' (h.inb a l hl)) hbr rfl (by rw [T.get_set];simp) ?_ ?_
 ·intro x bx hxa hx
  simp only [T.get_set,hxa,if_false] at hx
  refine ⟨hx,fun l' hl' e=>?_⟩
  rcases h.sep x a bx b l' l hx hb hl' hl e with e1 | ⟨t,f,n,c,t',n',c',e1,e2,_⟩
  ·exact hxa e1
  ·exact hnb _ _ _ _ e2
 ·intro x t f n c hx
  by_cases hxa:x=a
  ·subst hxa
   simp only [T.get_set,if_true,Option.some.injEq] at hx
   exact absurd hx (hnb' _ _ _ _)
  ·simp only [T.get_set,hxa,if_false] at hx
   exact h.fam x t f n c hx
theorem ER.born {es:List AEnt} {xs:List MapEntry} (h:ER m es xs):∀ (i:Nat) e,es[i]?=some e→∃ y,xs[i]?=some y∧VR m e.1 y.key∧e.2.2=y.born:=by
 induction es generalizing xs with
 |nil=>intro i e hi;simp at hi
 |cons a as ih =>
  intro i e hi
  simp only [ER] at h
  obtain ⟨y,ys,rfl,h1,_,h3,h4⟩:=h
  cases i with
  |zero=>simp at hi;subst hi;exact ⟨y,rfl,h1,h3⟩
  |succ i=>simp at hi ⊢;exact ih h4 i e hi
end
end Go.Am
namespace Go.Am
open Go.RowKit
def azeros (A:AP) (e:TypeId) (n:Nat):Option (List AV) :=
 match A.info e with
 |some ie=>match ie.zero with
  |some z=>match z.cells.size == ie.size && Nat.ble 1 ie.size,ofCells z.cells.toList with
   |true,some cs=>some (acopies cs n)
   |_,_=>none
  |none=>none
 |none=>none
def aminmax (mx:Bool):AV→List AV→Option AV
 |x,[]=>some x
 |.int k a,.int k' b::l=>match decide (k=k') with
  |true=>match mx with
   |false=>aminmax mx (.int k (if b < a then b else a)) l
   |true=>aminmax mx (.int k (if b > a then b else a)) l
  |false=>none
 |_,_=>none
section
variable {m:Env} {w:World} {A:AP} {P:Program} {E:Eqs} {B0:Prot} {w0:World} {H:Heap}
theorem azeros_ok (hA:A.Ok P) {e:TypeId} {n:Nat} {zs:List AV} (h:azeros A e n=some zs) :
  ∃ ie z,A.info e=some ie∧P.info? e=some ie∧ie.zero=some z∧z.cells.size=ie.size∧1≤ie.size∧zs.length=n * ie.size ∧
   VRs m zs ((Array.range (n * ie.size)).map (z.cells[· % z.cells.size]!)).toList:=by
 unfold azeros at h
 split at h
 case h_2=>cases h
 next ie hie =>
 split at h
 case h_2=>cases h
 next z hz =>
 split at h
 case h_2=>cases h
 next cs hb hcs =>
 cases h
 simp only [Bool.and_eq_true,beq_iff_eq,Nat.ble_eq] at hb
 obtain ⟨hb1,hb2⟩:=hb
 have hc0:=ofCells_ok (m:=m) hcs
 have hcl:z.cells.size=cs.length:=by simpa using hc0.length
 refine ⟨ie,z,hie,hA.info _ _ hie,hz,hb1,hb2,by rw [length_acopies,← hcl,hb1],?_⟩
 refine VRs.of_get (by rw [length_acopies];simp;rw [← hcl,hb1]) fun i a y ha hy=>?_
 have hlt:i < n * cs.length:=by
  have:=(List.getElem?_eq_some_iff.1 ha).1
  rwa [length_acopies] at this
 rw [get_acopies cs (by omega) _ _ hlt] at ha
 obtain ⟨u,u1,u2⟩:=hc0.get ha
 have hmod:i % cs.length < z.cells.size:=by rw [hcl];exact Nat.mod_lt _ (by omega)
 have hlt':i < n * ie.size:=by rw [← hb1,hcl];exact hlt
 simp [hlt'] at hy
 rw [hcl] at hy
 rw [Array.getElem?_toList] at u1
 rw [← hy,getElem!_pos z.cells _ hmod]
 rw [Array.getElem?_eq_getElem hmod] at u1
 cases u1
 exact u2
theorem ER.length {es:List AEnt} {xs:List MapEntry} (h:ER m es xs):xs.length=es.length:=by
 induction es generalizing xs with
 |nil=>simp only [ER] at h;subst h;rfl
 |cons a as ih =>
  simp only [ER] at h
  obtain ⟨y,ys,rfl,_,_,_,h4⟩:=h
  simp [ih h4]
theorem aminmax_ok {mx:Bool}:∀ (l:List AV) (x v:AV) (xs:List Value) (xv:Value),aminmax mx x l=some v→VR m x xv→VRs m l xs →
  ∃ r,(xs.foldlM (match mx with | true=>Builtin.max2 | false=>Builtin.min2) xv:Sem Value).run P w=.ok r w∧VR m v r
 |[],x,v,xs,xv,h,hx,hl=>by
  simp only [VRs] at hl
  subst hl
  have:x=v:=by cases x<;>simpa [aminmax] using h
  subst this
  exact ⟨xv,by simp,hx⟩
 |y :: l, x, v, xs, xv, h, hx, hl => by
  simp only [VRs] at hl
  obtain ⟨z,zs,rfl,h1,h2⟩:=hl
  cases x<;>cases y<;>simp only [aminmax,reduceCtorEq] at h
  case int.int k a k' b =>
   split at h
   case h_2=>cases h
   next hk =>
   simp only [decide_eq_true_eq] at hk
   subst hk
   simp only [VR] at hx h1
   subst hx h1
   cases mx with
   |false =>
    simp only [] at h
    obtain ⟨r,r1,r2⟩:=aminmax_ok l _ v zs (.int k (if b < a then b else a)) h (by simp only [VR]) h2
    refine ⟨r,?_,r2⟩
    simpa [Builtin.min2] using r1
   |true =>
    simp only [] at h
    obtain ⟨r,r1,r2⟩:=aminmax_ok l _ v zs (.int k (if b > a then b else a)) h (by simp only [VR]) h2
    refine ⟨r,?_,r2⟩
    simpa [Builtin.max2] using r1
end
end Go.Am
namespace Go.Am
open Go.RowKit
inductive AOut where
 |val (v:AV) (H:Heap)
 |skip (H:Heap)
 |enter (f:FuncId) (args:List AV)
 |round (l:Nat) (fn:FuncId) (sz:Nat) (tmps:T AV) (assign body:Code)
 |defer (d:ADef)
 |recover
 |panic (v:AV)
def isPtrB:TypeDesc→Bool
 |.pointer _=>true
 |_=>false
section
variable {m:Env} {w:World} {A:AP} {P:Program} {E:Eqs} {B0:Prot} {w0:World} {H:Heap}
end
end Go.Am
namespace Go.Am
open Go.RowKit
def bothNil:AV→AV→Bool
 |.nilifc,.nilifc=>true
 |_,_=>false
def isConstB:Operand→Bool
 |.const _=>true
 |_=>false
def anils (A:AP) (op:BinOp) (t:TypeId) (x y:Operand):Option AV :=
 match A.under t,isConstB x || isConstB y with
 |some (.interface _),true=>match op with
  |.eql=>some (.bool true)
  |.neq=>some (.bool false)
  |_=>none
 |_,_=>none
section
variable {m:Env} {w:World} {A:AP} {P:Program} {E:Eqs} {B0:Prot} {w0:World} {H:Heap}
theorem equal_nils {t:TypeId} {ms:Array (String×TypeId)} (hu:P.underlying t=some (.interface ms)):(Op.equal t .nilIface .nilIface).run P w=.ok true w:=by
 have gen:∀ d,(Op.equalIn (d+1) t .nilIface .nilIface).run P w=.ok true w:=fun d=>by
  simp only [Op.equalIn,Sem.run_bind,run_underlying hu,Result.andThen_ok]
  rfl
 exact gen 9999
theorem anils_ok (hA:A.Ok P) {op:BinOp} {t:TypeId} {x y:Operand} {u:AV} (hu:anils A op t x y=some u) :
  ∃ r,(do eqGuard op t x y .nilIface .nilIface;binOp op t .nilIface .nilIface:Sem Value).run P w=.ok r w∧VR m u r:=by
 unfold anils at hu
 split at hu
 case h_2=>cases hu
 next ms hun hc =>
 have hg:(eqGuard op t x y .nilIface .nilIface).run P w=.ok () w:=by
  cases x<;>cases y<;>simp only [isConstB,Bool.or_self,Bool.or_true,Bool.or_false,Bool.true_or,Bool.false_or,Bool.false_eq_true] at hc<;>cases op<;>rfl
 split at hu
 ·cases hu
  refine ⟨.bool true,?_,by simp only [VR]⟩
  simp only [Sem.run_bind,hg,Result.andThen_ok,binOp_eql (x:=.nilIface) rfl,equal_nils (hA.under_ok hun),Sem.run_pure]
 ·cases hu
  refine ⟨.bool false,?_,by simp only [VR]⟩
  simp only [Sem.run_bind,hg,Result.andThen_ok,binOp_neq (x:=.nilIface) rfl,equal_nils (hA.under_ok hun),Sem.run_pure,Bool.not_true]
 ·cases hu
end
end Go.Am
namespace Go.Pv
open Go.Am Go.RowKit
inductive Tail where
 |no
 |ex
 |own (i:Nat)
inductive PV where
 |lit (a:AV)
 |agg (l:List PV)
 |tup (l:List PV)
 |ifc (t:TypeId) (v:PV)
 |sl (tl:Tail) (l:List PV)
 |fp (v:PV)
 |ptr (i o:Nat)
 |ms (i o len cap:Nat) (ez:Option Nat)
 |mp (i:Nat)
 |fn (f:Fn) (first cap:List PV)
 |yld (i:Nat)
 |fm (ks:List AV) (vs:List PV)
inductive PBlk where
 |cells (l:List PV)
 |map (es:List (AV×PV×Nat)) (clock:Nat)
 |iter (m:Option Nat) (since:Nat) (seen:List Nat) (stepped:Nat)
 |loop (st:LoopState) (pend:Option Code) (fn:FuncId) (tmps:T PV) (sz:Nat) (params:Array Tmp) (asg body:Code) (d:Nat)
 |dfr
 |own
 |raw (n o:Nat) (l:List PV)
 |fit (ks:List AV) (vs:List PV) (seen:List Nat)
structure PH where
 get:Nat→Option PBlk
 next:Nat
def PH.put (h:PH) (i:Nat) (b:PBlk):PH:=⟨fun x=>if x=i then some b else h.get x,h.next⟩
def PH.del (h:PH) (i:Nat):PH:=⟨fun x=>if x=i then none else h.get x,h.next⟩
def PH.add (h:PH) (b:PBlk):PH:=⟨fun x=>if x=h.next then some b else h.get x,h.next+1⟩
def PH.step (h:PH):PH:=⟨h.get,h.next+1⟩
inductive BS where
 |no
 |fz (n:Nat) (own:Option Nat)
 |live (i:Nat)
structure St where
 σ:Nat→BS
 e:Nat→Nat
 h:PH
 w:World
def St.fcell (s:St) (k o:Nat):Option Value :=
 match s.σ k with
 |.fz n _=>if o < n then s.w.cell? ⟨k,o,none⟩ else none
 |_=>none
def St.fmp (s:St) (k:Nat):Option (Array MapEntry×Nat) :=
 match s.σ k with
 |.fz _ _=>match s.w.heap[k]? with
  |some (.map arr c)=>some (arr,c)
  |_=>none
 |_=>none
theorem fmp_some {s:St} {k:Nat} {r:Array MapEntry×Nat}:s.fmp k=some r↔(∃ n own,s.σ k=.fz n own)∧s.w.heap[k]?=some (.map r.1 r.2):=by
 unfold St.fmp
 constructor
 ·intro h
  split at h
  ·next n own hk =>
   split at h
   ·next arr c hm=>cases h;exact ⟨⟨n,own,hk⟩,hm⟩
   ·cases h
  ·cases h
 ·rintro ⟨⟨n,own,hk⟩,hm⟩
  simp only [hk,hm]
theorem fmp_keep {s s':St} {k:Nat} {r:Array MapEntry×Nat} (h:s.fmp k=some r) (hσ:∀ n own,s.σ k=.fz n own→∃ m own',s'.σ k=.fz m own') (hh:s.σ k≠.no→s'.w.heap[k]?=s.w.heap[k]?):s'.fmp k=some r:=by
 obtain ⟨⟨n,own,h1⟩,h2⟩:=fmp_some.1 h
 exact fmp_some.2 ⟨hσ n own h1,(hh (by rw [h1];simp)).trans h2⟩
def AV.plain:AV→Bool
 |.bool _ | .int _ _ | .str _ | .nilptr | .nilmap | .nilfn | .nilifc=>true
 |_=>false
def noEnv:Env:=fun _=>none
abbrev RR:=(Value→Prop)×(Nat→Nat→Prop)
abbrev RRs:=(List Value→Prop)×(Nat→Nat→Prop)×(Nat→Nat→Nat→Prop)
def St.one (s:St) (f:Value→Prop):RR:=(f,fun k o=>∃ y,s.fcell k o=some y∧f y)
def PV.nc:PV→Nat
 |.agg l=>l.length
 |_=>1
def TailOk (s:St) (tl:Tail) (k o len c sz:Nat):Prop :=
 match tl with
 |.no=>True
 |.ex=>c=len
 |.own i=>i < s.h.next∧s.e i=k∧0 < sz∧∀ n,s.σ k=.fz n (some i)→n=o+len * sz∧∃ arr t,s.w.heap[k]?=some (.cells arr t (0,0))∧o+c * sz≤arr.size
def KL:List AV→List Value→Prop
 |[],xs=>xs=[]
 |a::as,xs=>∃ y ys,xs=y::ys∧VR noEnv a y∧KL as ys
def FM0 (s:St) (k:Nat) (ks:List AV) (c:Nat) (zs:List MapEntry):Prop :=
 ∃ arr,s.fmp k=some (arr,c)∧zs.Perm arr.toList∧KL ks (zs.map (·.key))∧(∀ z∈zs,z.born < c)∧(zs.map (·.born)).Nodup
def Tail.isOwn:Tail→Bool
 |.own _=>true
 |_=>false
mutual
def R2 (s:St):PV→RR
 |.lit a=>s.one fun x=>AV.plain a=true∧VR noEnv a x
 |.agg l=>(fun x=>∃ y,x=.agg y∧(R2s s l).1 y.toList,fun k o=>(R2s s l).2.1 k o)
 |.tup l=>s.one fun x=>∃ y,x=.tuple y∧(R2s s l).1 y.toList
 |.ifc t v=>s.one fun x=>∃ y,x=.iface t y∧(R2 s v).1 y
 |.sl tl l=>s.one fun x=>(l=[]∧tl.isOwn=false∧∃ a,x=.slice a 0 0) ∨
   ∃ k o c sz,x=.slice (some ⟨k,o,none⟩) l.length c∧l.length≤c∧(R2s s l).2.2 sz k o∧TailOk s tl k o l.length c sz
 |.fp v=>s.one fun x=>∃ k o,x=.pointer (some ⟨k,o,none⟩)∧(R2 s v).2 k o
 |.ptr i o=>s.one fun x=>i < s.h.next∧x=.pointer (some ⟨s.e i,o,none⟩)
 |.ms i o len cap _=>s.one fun x=>i < s.h.next∧x=.slice (some ⟨s.e i,o,none⟩) len cap
 |.mp i=>s.one fun x=>i < s.h.next∧x=.map (some (s.e i))
 |.fn f a b=>s.one fun x=>∃ y z,x=.func f y z∧(R2s s a).1 y.toList∧(R2s s b).1 z.toList
 |.yld i=>s.one fun x=>i < s.h.next∧x=.func (.yield (s.e i)) #[] #[]
 |.fm ks vs=>s.one fun x=>∃ k c zs,x=.map (some k)∧FM0 s k ks c zs∧(R2s s vs).1 (zs.map (·.val))
def R2s (s:St):List PV→RRs
 |[]=>(fun xs=>xs=[],fun _ _=>True,fun _ _ _=>True)
 |v::vs=>(fun xs=>∃ y ys,xs=y::ys∧(R2 s v).1 y∧(R2s s vs).1 ys,fun k o=>(∃ y,s.fcell k o=some y∧(R2 s v).1 y)∧(R2s s vs).2.1 k (o+1),fun sz k o=>v.nc=sz∧(R2 s v).2 k o∧(R2s s vs).2.2 sz k (o+sz))
end
abbrev RV (s:St) (v:PV) (x:Value):Prop:=(R2 s v).1 x
abbrev RM (s:St) (v:PV) (k o:Nat):Prop:=(R2 s v).2 k o
abbrev RVs (s:St) (l:List PV) (xs:List Value):Prop:=(R2s s l).1 xs
abbrev RMs (s:St) (l:List PV) (k o:Nat):Prop:=(R2s s l).2.1 k o
abbrev REs (s:St) (l:List PV) (sz k o:Nat):Prop:=(R2s s l).2.2 sz k o
structure Ext0 (s s':St):Prop where
 next:s.h.next≤s'.h.next
 e:∀ i,i < s.h.next→s'.e i=s.e i
 cell:∀ k o y,s.fcell k o=some y→s'.fcell k o=some y
 own:∀ i n,i < s.h.next→s'.σ (s.e i)=.fz n (some i)→s.σ (s.e i)=.fz n (some i) ∧
  ∀ arr t,s.w.heap[s.e i]?=some (.cells arr t (0,0))→∃ arr',s'.w.heap[s.e i]?=some (.cells arr' t (0,0))∧arr'.size=arr.size
 fmp:∀ k r,s.fmp k=some r→s'.fmp k=some r
structure Ext (s s':St):Prop extends Ext0 s s' where
 old:s.w.heap.size≤s'.w.heap.size∧∀ k,k < s.w.heap.size→(s.σ k=.no→s'.σ k=.no)∧∀ n,s.σ k=.fz n none→s'.σ k=.fz n none
theorem Ext.mk' {s s':St} (old:s.w.heap.size≤s'.w.heap.size∧∀ k,k < s.w.heap.size→(s.σ k=.no→s'.σ k=.no)∧∀ n,s.σ k=.fz n none→s'.σ k=.fz n none) (next:s.h.next≤s'.h.next)
  (e:∀ i,i < s.h.next→s'.e i=s.e i) (cell:∀ k o y,s.fcell k o=some y→s'.fcell k o=some y)
  (own : ∀ i n, i < s.h.next → s'.σ (s.e i) = .fz n (some i) → s.σ (s.e i) = .fz n (some i) ∧
   ∀ arr t,s.w.heap[s.e i]?=some (.cells arr t (0,0))→∃ arr',s'.w.heap[s.e i]?=some (.cells arr' t (0,0))∧arr'.size=arr.size) (fmp:∀ k r,s.fmp k=some r→s'.fmp k=some r):Ext s s':=⟨⟨next,e,cell,own,fmp⟩,old⟩
theorem Ext.refl (s:St):Ext s s:=Ext.mk' ⟨Nat.le_refl _,fun _ _=>⟨id,fun _ h=>h⟩⟩ (Nat.le_refl _) ( fun _ _=>rfl) (fun _ _ _ h=>h) (fun _ _ _ h=>⟨h,fun arr _ h=>⟨arr,h,rfl⟩⟩) (fun _ _ h=>h)
theorem Ext.trans {a b c:St} (h:Ext a b) (k:Ext b c):Ext a c:=by
 refine Ext.mk' ⟨Nat.le_trans h.old.1 k.old.1,fun x hx=>⟨fun e=>(k.old.2 x (Nat.lt_of_lt_of_le hx h.old.1)).1 ((h.old.2 x hx).1 e),fun n e=>(k.old.2 x (Nat.lt_of_lt_of_le hx h.old.1)).2 n ((h.old.2 x hx).2 n e)⟩⟩ (Nat.le_trans h.next k.next) (fun i hi=>(k.e i (Nat.lt_of_lt_of_le hi h.next)).trans (h.e i hi)) (fun x o y hy=>k.cell _ _ _ (h.cell _ _ _ hy)) (fun i n hi hn=>?_) (fun x r hx=>k.fmp _ _ (h.fmp _ _ hx))
 have h1:=h.e i hi
 have h2:=k.own i n (Nat.lt_of_lt_of_le hi h.next) (by rw [h1];exact hn)
 rw [h1] at h2
 have h3:=h.own i n hi h2.1
 refine ⟨h3.1,fun arr t ha=>?_⟩
 obtain ⟨arr1,p1,p2⟩:=h3.2 arr t ha
 obtain ⟨arr2,q1,q2⟩:=h2.2 arr1 t p1
 exact ⟨arr2,q1,q2.trans p2⟩
theorem TailOk.ext {s s':St} (h:Ext0 s s') {tl:Tail} {k o len c sz:Nat} (ht:TailOk s tl k o len c sz):TailOk s' tl k o len c sz:=by
 cases tl with
 |no=>trivial
 |ex=>exact ht
 |own i =>
  obtain ⟨h1,h2,h3,h4⟩:=ht
  refine ⟨Nat.lt_of_lt_of_le h1 h.next,(h.e i h1).trans h2,h3,fun n hn=>?_⟩
  subst h2
  obtain ⟨k1,k2⟩:=h.own i n h1 hn
  obtain ⟨q1,arr,t,q2,q3⟩:=h4 n k1
  obtain ⟨arr',p1,p2⟩:=k2 arr t q2
  exact ⟨q1,arr',t,p1,by omega⟩
theorem FM0.ext {s s':St} (h:Ext0 s s') {k c:Nat} {ks:List AV} {zs:List MapEntry} (hf:FM0 s k ks c zs):FM0 s' k ks c zs :=
 let ⟨arr,h1,h2⟩:=hf
 ⟨arr,h.fmp _ _ h1,h2⟩
theorem one_ext {s s':St} (h:Ext0 s s') {f f':Value→Prop} (hf:∀ x,f x→f' x):(∀ x,(s.one f).1 x→(s'.one f').1 x)∧∀ k o,(s.one f).2 k o→(s'.one f').2 k o :=
 ⟨hf,fun k o ⟨y,h1,h2⟩=>⟨y,h.cell _ _ _ h1,hf _ h2⟩⟩
mutual
theorem R2.ext0 {s s':St} (h:Ext0 s s'):∀ v:PV,(∀ x,RV s v x→RV s' v x)∧∀ k o,RM s v k o→RM s' v k o
 |.lit a=>by unfold RV RM R2;exact one_ext h fun x hx=>hx
 |.agg l=>by
  have ih:=R2s.ext0 h l
  unfold RV RM R2
  exact ⟨fun x ⟨y,h1,h2⟩=>⟨y,h1,ih.1 _ h2⟩,fun k o h1=>ih.2.1 k o h1⟩
 |.tup l=>by
  have ih:=R2s.ext0 h l
  unfold RV RM R2
  exact one_ext h fun x ⟨y,h1,h2⟩=>⟨y,h1,ih.1 _ h2⟩
 |.ifc t v=>by
  have ih:=R2.ext0 h v
  unfold RV RM R2
  exact one_ext h fun x ⟨y,h1,h2⟩=>⟨y,h1,ih.1 _ h2⟩
 |.sl tl l=>by
  have ih:=R2s.ext0 h l
  unfold RV RM R2
  refine one_ext h fun x hx=>?_
  rcases hx with hx | ⟨k,o,c,sz,h1,h2,h3,h4⟩
  ·exact .inl hx
  ·exact .inr ⟨k,o,c,sz,h1,h2,ih.2.2 _ _ _ h3,h4.ext h⟩
 |.fp v=>by
  have ih:=R2.ext0 h v
  unfold RV RM R2
  exact one_ext h fun x ⟨k,o,h1,h2⟩=>⟨k,o,h1,ih.2 _ _ h2⟩
 |.ptr i o=>by
  unfold RV RM R2
  exact one_ext h fun x ⟨h1,h2⟩=>⟨Nat.lt_of_lt_of_le h1 h.next,by rw [h.e i h1];exact h2⟩
 |.ms i o len cap _=>by
  unfold RV RM R2
  exact one_ext h fun x ⟨h1,h2⟩=>⟨Nat.lt_of_lt_of_le h1 h.next,by rw [h.e i h1];exact h2⟩
 |.mp i=>by
  unfold RV RM R2
  exact one_ext h fun x ⟨h1,h2⟩=>⟨Nat.lt_of_lt_of_le h1 h.next,by rw [h.e i h1];exact h2⟩
 |.fn f a b=>by
  have iha:=R2s.ext0 h a
  have ihb:=R2s.ext0 h b
  unfold RV RM R2
  exact one_ext h fun x ⟨y,z,h1,h2,h3⟩=>⟨y,z,h1,iha.1 _ h2,ihb.1 _ h3⟩
 |.yld i=>by
  unfold RV RM R2
  exact one_ext h fun x ⟨h1,h2⟩=>⟨Nat.lt_of_lt_of_le h1 h.next,by rw [h.e i h1];exact h2⟩
 |.fm ks vs=>by
  have ih:=R2s.ext0 h vs
  unfold RV RM R2
  exact one_ext h fun x ⟨k,c,zs,h1,h2,h3⟩=>⟨k,c,zs,h1,h2.ext h,ih.1 _ h3⟩
theorem R2s.ext0 {s s':St} (h:Ext0 s s'):∀ l:List PV,(∀ xs,RVs s l xs→RVs s' l xs)∧(∀ k o,RMs s l k o→RMs s' l k o)∧∀ sz k o,REs s l sz k o→REs s' l sz k o
 |[]=>by unfold RVs RMs REs R2s;exact ⟨fun _ h=>h,fun _ _ h=>h,fun _ _ _ h=>h⟩
 |v::vs=>by
  have ih:=R2.ext0 h v
  have ihs:=R2s.ext0 h vs
  unfold RVs RMs REs R2s
  exact ⟨fun xs ⟨y,ys,h1,h2,h3⟩=>⟨y,ys,h1,ih.1 _ h2,ihs.1 _ h3⟩,fun k o ⟨⟨y,h1,h2⟩,h3⟩=>⟨⟨y,h.cell _ _ _ h1,ih.1 _ h2⟩,ihs.2.1 _ _ h3⟩,fun sz k o ⟨h0,h1,h2⟩=>⟨h0,ih.2 _ _ h1,ihs.2.2 _ _ _ h2⟩⟩
end
theorem R2.ext {s s':St} (h:Ext s s') (v:PV):(∀ x,RV s v x→RV s' v x)∧∀ k o,RM s v k o→RM s' v k o:=R2.ext0 h.toExt0 v
theorem R2s.ext {s s':St} (h:Ext s s') (l:List PV):(∀ xs,RVs s l xs→RVs s' l xs)∧(∀ k o,RMs s l k o→RMs s' l k o)∧∀ sz k o,REs s l sz k o→REs s' l sz k o:=R2s.ext0 h.toExt0 l
def RE3 (s:St):List (AV×PV×Nat)→List MapEntry→Prop
 |[],xs=>xs=[]
 |e::es,xs=>∃ y ys,xs=y::ys∧VR noEnv e.1 y.key∧RV s e.2.1 y.val∧e.2.2=y.born∧RE3 s es ys
def TV (s:St) (t:Nat→Option PV) (arr:Array Value):Prop:=∀ i v,t i=some v→∃ x,arr[i]?=some x∧RV s v x
def PB (s:St) (k:Nat):PBlk→Prop
 |.cells l=>∃ arr t,s.w.heap[k]?=some (.cells arr t (0,0))∧RVs s l arr.toList
 |.map es clock=>∃ arr,s.w.heap[k]?=some (.map arr clock)∧RE3 s es arr.toList
 |.iter m since seen stepped=>(∀ i,m=some i→i < s.h.next)∧s.w.heap[k]?=some (.mapIter (m.map s.e) since seen.toArray stepped)
 |.loop st pend fn tmps sz ps asg body d=>∃ a:Array Value,d < s.h.next∧a.size=sz∧TV s tmps.get a ∧
   s.w.heap[k]?=some (.loop { state:=st,pending:=pend,fn,tmps:=a,params:=ps,assign:=asg,body,defers:=s.e d })
 |.dfr=>s.w.heap[k]?=some (.deferred (some []))
 |.own=>True
 |.raw n o l=>∃ arr t z,s.w.heap[k]?=some (.cells arr t z)∧z.2≤z.1∧n≤arr.size∧∃ ys,RVs s l ys∧∀ (j:Nat) (y:Value),ys[j]?=some y→arr[o+j]?=some y
 |.fit ks vs seen=>∃ b c zs,FM0 s b ks c zs∧RVs s vs (zs.map (·.val))∧(∀ p∈seen,p < zs.length)∧s.w.heap[k]?=some (.mapIter (some b) c (seen.map fun p=>(zs.map (·.born)).getD p 0).toArray c)
def BAt (s:St) (i:Nat):PBlk→Prop
 |.own=>∃ n,s.σ (s.e i)=.fz n (some i)
 |_=>s.σ (s.e i)=.live i
theorem BAt.congr {s s':St} {i:Nat} {b:PBlk} (he:s'.e i=s.e i) (hσ:s'.σ (s.e i)=s.σ (s.e i)) (h:BAt s i b):BAt s' i b:=by
 cases b<;>simp only [BAt] at h ⊢<;>rw [he,hσ]<;>exact h
theorem BAt.some {s:St} {i:Nat} {b:PBlk} (h:BAt s i b):s.σ (s.e i)≠.no:=by
 cases b<;>simp only [BAt] at h<;>first
  |(rw [h];simp)
  |(obtain ⟨n,h⟩:=h;rw [h];simp)
theorem BAt.inj {s:St} {i j:Nat} {b b':PBlk} (h:BAt s i b) (h':BAt s j b') (e:s.e i=s.e j):i=j:=by
 cases b<;>cases b'<;>simp only [BAt] at h h'<;>rw [e] at h<;>first
  |(rw [h] at h';cases h';rfl)
  |(obtain ⟨n,h⟩:=h;rw [h] at h';first | (cases h';done) | (obtain ⟨m,h'⟩:=h';cases h';rfl))
  |(obtain ⟨n,h'⟩:=h';rw [h] at h';cases h')
theorem RE3.ext0 {s s':St} (h:Ext0 s s'):∀ {es:List (AV×PV×Nat)} {xs:List MapEntry},RE3 s es xs→RE3 s' es xs
 |[],_,e=>e
 |e::_,_,⟨y,ys,h1,h2,h3,h4,h5⟩=>⟨y,ys,h1,h2,(R2.ext0 h e.2.1).1 _ h3,h4,RE3.ext0 h h5⟩
theorem TV.ext0 {s s':St} (h:Ext0 s s') {t:Nat→Option PV} {arr:Array Value} (ht:TV s t arr):TV s' t arr :=
 fun i v hi=>let ⟨x,h1,h2⟩:=ht i v hi;⟨x,h1,(R2.ext0 h v).1 _ h2⟩
theorem PB.ext0 {s s':St} (h:Ext0 s s') {k:Nat} (hk:s'.w.heap[k]?=s.w.heap[k]?) {b:PBlk} (hb:PB s k b):PB s' k b:=by
 cases b with
 |cells l =>
  obtain ⟨arr,t,h1,h2⟩:=hb
  exact ⟨arr,t,by rw [hk];exact h1,(R2s.ext0 h l).1 _ h2⟩
 |map es clock =>
  obtain ⟨arr,h1,h2⟩:=hb
  exact ⟨arr,by rw [hk];exact h1,h2.ext0 h⟩
 |iter m since seen stepped =>
  obtain ⟨h1,h2⟩:=hb
  refine ⟨fun i hi=>Nat.lt_of_lt_of_le (h1 i hi) h.next,?_⟩
  rw [hk,h2]
  cases m with
  |none=>rfl
  |some i=>simp only [Option.map_some,h.e i (h1 i rfl)]
 |loop st pend fn tmps sz ps asg body d =>
  obtain ⟨a,h1,h2,h3,h4⟩:=hb
  exact ⟨a,Nat.lt_of_lt_of_le h1 h.next,h2,h3.ext0 h,by rw [hk,h4,h.e d h1]⟩
 |dfr=>exact hk.trans hb
 |own=>trivial
 |raw n o l =>
  obtain ⟨arr,t,z,h1,h2,h3,ys,h4,h5⟩:=hb
  exact ⟨arr,t,z,by rw [hk];exact h1,h2,h3,ys,(R2s.ext0 h l).1 _ h4,h5⟩
 |fit ks vs seen =>
  obtain ⟨b,c,zs,h1,h2,h3,h4⟩:=hb
  exact ⟨b,c,zs,h1.ext h,(R2s.ext0 h vs).1 _ h2,h3,by rw [hk];exact h4⟩
theorem RE3.ext {s s':St} (h:Ext s s') {es:List (AV×PV×Nat)} {xs:List MapEntry} (e:RE3 s es xs):RE3 s' es xs:=e.ext0 h.toExt0
theorem TV.ext {s s':St} (h:Ext s s') {t:Nat→Option PV} {arr:Array Value} (ht:TV s t arr):TV s' t arr:=ht.ext0 h.toExt0
theorem PB.ext {s s':St} (h:Ext s s') {k:Nat} (hk:s'.w.heap[k]?=s.w.heap[k]?) {b:PBlk} (hb:PB s k b):PB s' k b:=hb.ext0 h.toExt0 hk
structure Base where
 w:World
 pr:Nat→Prop
 lt:∀ k,pr k→k < w.heap.size
def Base.of (w:World):Base:=⟨w,fun k=>k < w.heap.size,fun _ h=>h⟩
structure PW (w0:Base) (s:St):Prop where
 os:s.w.os=w0.w.os
 tape:s.w.tape=w0.w.tape
 output:s.w.output=w0.w.output
 size:w0.w.heap.size≤s.w.heap.size
 old:∀ k,w0.pr k→s.w.heap[k]?=w0.w.heap[k]?
 prot:∀ k,w0.pr k→s.σ k=.no∨∃ n,s.σ k=.fz n none
 cold:∀ k o,¬ w0.pr k→s.w.heap[k]?=some o→Cold o
 inb:∀ k,s.w.heap.size≤k→s.σ k=.no
 ob:∀ k n i,s.σ k=.fz n (some i)→i < s.h.next∧s.e i=k∧∃ arr t,s.w.heap[k]?=some (.cells arr t (0,0))∧n≤arr.size
 hp:∀ i b,s.h.get i=some b→i < s.h.next∧BAt s i b∧PB s (s.e i) b
theorem PW.grown {w0:World} {s:St} (h:PW (Base.of w0) s):Grown w0 s.w:=by
 refine ⟨Below.frame ⟨h.os,h.tape,h.output,h.size,h.old⟩ _,fun a=>?_,h.size⟩
 rcases Nat.lt_or_ge a.block w0.heap.size with h1 | h1
 ·exact World.frozen?_of_block (h.old _ h1)
 ·have e1:w0.heap[a.block]?=none:=Array.getElem?_eq_none h1
  rw [frozen_none e1]
  cases h2:s.w.heap[a.block]? with
  |none=>exact frozen_none h2
  |some o=>exact (h.cold _ o (Nat.not_lt.2 h1) h2).frozen h2
end Go.Pv
namespace Go.Pv
open Go.Am Go.RowKit
def upd {α:Type} (f:Nat→α) (k:Nat) (a:α):Nat→α:=fun x=>if x=k then a else f x
theorem upd_self {α:Type} (f:Nat→α) (k:Nat) (a:α):upd f k a k=a:=by simp [upd]
theorem upd_ne {α:Type} (f:Nat→α) {k x:Nat} (a:α) (h:x≠k):upd f k a x=f x:=by simp [upd,h]
theorem fcell_some {s:St} {k o:Nat} {y:Value} (h:s.fcell k o=some y):∃ n own,s.σ k=.fz n own∧o < n∧s.w.cell? ⟨k,o,none⟩=some y:=by
 unfold St.fcell at h
 split at h
 ·next n own hk =>
  split at h
  ·next ho=>exact ⟨n,own,hk,ho,h⟩
  ·cases h
 ·cases h
theorem fcell_of {s:St} {k o n:Nat} {own:Option Nat} {y:Value} (hk:s.σ k=.fz n own) (ho:o < n) (hy:s.w.cell? ⟨k,o,none⟩=some y):s.fcell k o=some y:=by
 simp only [St.fcell,hk,ho,if_true,hy]
theorem cell_heap {w w':World} {k o:Nat} (h:w'.heap[k]?=w.heap[k]?):w'.cell? ⟨k,o,none⟩=w.cell? ⟨k,o,none⟩:=by
 simp only [World.cell?,h]
section
variable {w0:Base} {s:St}
theorem PW.lt (h:PW w0 s) {k:Nat} (hk:s.σ k≠.no):k < s.w.heap.size:=by
 rcases Nat.lt_or_ge k s.w.heap.size with h1 | h1
 ·exact h1
 ·exact absurd (h.inb k h1) hk
def St.wat (s:St) (w':World):St:={ s with w:=w' }
theorem Ext.wat (s:St) {w':World} (hw:w'.heap=s.w.heap):Ext s (s.wat w'):=by
 refine Ext.mk' ⟨by simp [St.wat,hw],fun _ _=>⟨id,fun _ h=>h⟩⟩ (Nat.le_refl _) (fun _ _=>rfl) (fun k o y h=>?_) (fun i n _ hn=>⟨hn,fun arr t ha=>⟨arr,by simpa [St.wat,hw] using ha,rfl⟩⟩) (fun k r hr=>fmp_keep hr (fun n own e=>⟨n,own,e⟩) fun _=>by simp [St.wat,hw])
 obtain ⟨n,own,h1,h2,h3⟩:=fcell_some h
 exact fcell_of (s:=s.wat w') h1 h2 (by rw [← h3];exact cell_heap (by simp [St.wat,hw]))
theorem PW.wat (h:PW w0 s) {w':World} (hw:w'.heap=s.w.heap) (h1:w'.os=s.w.os) (h2:w'.tape=s.w.tape) (h3:w'.output=s.w.output):PW w0 (s.wat w') :=
 ⟨h1.trans h.os,h2.trans h.tape,h3.trans h.output,by simpa [St.wat,hw] using h.size,by simpa [St.wat,hw] using h.old,h.prot,by simpa [St.wat,hw] using h.cold,by simpa [St.wat,hw] using h.inb,by simpa [St.wat,hw] using h.ob,fun i b hb=>let ⟨p,q,r⟩:=h.hp i b hb;⟨p,q,r.ext (Ext.wat s hw) (by simp [St.wat,hw])⟩⟩
theorem PW.drew (h:PW w0 s):PW w0 (s.wat s.w.drew):=h.wat rfl rfl rfl rfl
theorem Ext.drew (s:St):Ext s (s.wat s.w.drew):=Ext.wat s rfl
theorem alloc_heap_lt (w:World) (o:Obj) {k:Nat} (h:k < w.heap.size):(w.alloc o).heap[k]?=w.heap[k]?:=Below.heap_alloc w o k h
theorem alloc_size (w:World) (o:Obj):(w.alloc o).heap.size=w.heap.size+1:=by simp
def St.fresh (s:St) (bs:BS) (o:Obj):St:={ s with σ:=upd s.σ s.w.heap.size bs,w:=s.w.alloc o }
def BS.quiet:BS→Bool
 |.no=>true
 |.fz _ none=>true
 |_=>false
theorem PW.cell_alloc (h:PW w0 s) {s':St} {o:Obj} (hw:s'.w=s.w.alloc o) (hσ:∀ k,k≠s.w.heap.size→s'.σ k=s.σ k) {k j:Nat} {y:Value} (hy:s.fcell k j=some y):s'.fcell k j=some y:=by
 obtain ⟨n,own,h1,h2,h3⟩:=fcell_some hy
 have hk:=h.lt (k:=k) (by rw [h1];simp)
 refine fcell_of (n:=n) (own:=own) ((hσ k (by omega)).trans h1) h2 ?_
 rw [← h3]
 exact cell_heap (by rw [hw];exact alloc_heap_lt _ _ hk)
theorem PW.fmp_alloc (h:PW w0 s) {s':St} {o:Obj} (hw:s'.w=s.w.alloc o) (hσ:∀ k,k≠s.w.heap.size→s'.σ k=s.σ k) {k:Nat} {r:Array MapEntry×Nat} (hr:s.fmp k=some r):s'.fmp k=some r :=
 fmp_keep hr (fun n own e=>⟨n,own,by have:=h.lt (k:=k) (by rw [e];simp);exact (hσ k (by omega)).trans e⟩) fun hk=>by rw [hw];exact alloc_heap_lt _ _ (h.lt hk)
theorem Ext.fresh (h:PW w0 s) {bs:BS} {o:Obj} (hb:bs.quiet=true):Ext s (s.fresh bs o):=by
 refine Ext.mk' ⟨by simp [St.fresh],fun k hk=>⟨fun e=>(upd_ne s.σ bs (Nat.ne_of_lt hk)).trans e,fun n e=>(upd_ne s.σ bs (Nat.ne_of_lt hk)).trans e⟩⟩ (Nat.le_refl _) (fun _ _=>rfl) (fun k j y hy=>h.cell_alloc (s':=s.fresh bs o) rfl (fun k hk=>upd_ne _ _ hk) hy) (fun i n _ hn=>?_) (fun k r hr=>h.fmp_alloc (s':=s.fresh bs o) rfl (fun k hk=>upd_ne _ _ hk) hr)
 simp only [St.fresh] at hn ⊢
 by_cases hk:s.e i=s.w.heap.size
 ·rw [hk,upd_self] at hn
  subst hn
  cases hb
 ·rw [upd_ne _ _ hk] at hn
  refine ⟨hn,fun arr t ha=>⟨arr,?_,rfl⟩⟩
  rw [alloc_heap_lt _ _ (h.lt (by rw [hn];simp))]
  exact ha
theorem PW.fresh (h:PW w0 s) {bs:BS} {o:Obj} (hb:bs.quiet=true) (hc:Cold o):PW w0 (s.fresh bs o):=by
 have hx:=Ext.fresh h (o:=o) hb
 refine ⟨h.os,h.tape,h.output,?_,?_,?_,?_,?_,?_,?_⟩
 ·have:=h.size
  simp only [St.fresh,alloc_size]
  omega
 ·intro k hk
  have:=h.size
  have hk1:=w0.lt k hk
  exact (alloc_heap_lt s.w o (by omega)).trans (h.old k hk)
 ·intro k hk
  have:=h.size
  have hk1:=w0.lt k hk
  simp only [St.fresh,upd_ne s.σ bs (show k≠s.w.heap.size by omega)]
  exact h.prot k hk
 ·intro k o' hk ho
  simp only [St.fresh] at ho
  rcases Nat.lt_trichotomy k s.w.heap.size with h1 | h1 | h1
  ·rw [alloc_heap_lt _ _ h1] at ho
   exact h.cold k o' hk ho
  ·rw [h1,heap_alloc_new] at ho
   cases ho
   exact hc
  ·rw [Array.getElem?_eq_none (by simp;omega)] at ho
   cases ho
 ·intro k hk
  simp only [St.fresh,alloc_size] at hk ⊢
  rw [upd_ne _ _ (by omega)]
  exact h.inb k (by omega)
 ·intro k n i hk
  simp only [St.fresh] at hk ⊢
  by_cases hkk:k=s.w.heap.size
  ·rw [hkk,upd_self] at hk
   subst hk
   cases hb
  ·rw [upd_ne _ _ hkk] at hk
   obtain ⟨p1,p2,arr,t,p3,p4⟩:=h.ob k n i hk
   exact ⟨p1,p2,arr,t,(alloc_heap_lt _ _ (h.lt (by rw [hk];simp))).trans p3,p4⟩
 ·intro i b hi
  obtain ⟨p1,p2,p3⟩:=h.hp i b hi
  have hlt:=h.lt (k:=s.e i) p2.some
  exact ⟨p1,BAt.congr (s':=s.fresh bs o) (s:=s) rfl (upd_ne s.σ bs (show s.e i≠s.w.heap.size by omega)) p2,p3.ext hx (alloc_heap_lt _ _ hlt)⟩
def PBlk.isOwn:PBlk→Bool
 |.own=>true
 |_=>false
theorem BAt_live {s:St} {i:Nat} {b:PBlk} (hb:b.isOwn=false):BAt s i b↔s.σ (s.e i)=.live i:=by
 cases b<;>first | exact Iff.rfl | cases hb
def St.new (s:St) (b:PBlk) (o:Obj):St:={ σ:=upd s.σ s.w.heap.size (.live s.h.next),e:=upd s.e s.h.next s.w.heap.size,h:=s.h.add b,w:=s.w.alloc o }
theorem Ext.new (h:PW w0 s) {b:PBlk} {o:Obj}:Ext s (s.new b o):=by
 refine Ext.mk' ⟨by simp [St.new],fun k hk=>⟨fun e=>(upd_ne s.σ _ (Nat.ne_of_lt hk)).trans e,fun n e=>(upd_ne s.σ _ (Nat.ne_of_lt hk)).trans e⟩⟩ (Nat.le_succ _) (fun i hi=>upd_ne _ _ (by omega)) (fun k j y hy=>h.cell_alloc (s':=s.new b o) rfl (fun k hk=>upd_ne _ _ hk) hy) (fun i n _ hn=>?_) (fun k r hr=>h.fmp_alloc (s':=s.new b o) rfl (fun k hk=>upd_ne _ _ hk) hr)
 simp only [St.new] at hn ⊢
 by_cases hk:s.e i=s.w.heap.size
 ·rw [hk,upd_self] at hn
  cases hn
 ·rw [upd_ne _ _ hk] at hn
  refine ⟨hn,fun arr t ha=>⟨arr,?_,rfl⟩⟩
  rw [alloc_heap_lt _ _ (h.lt (by rw [hn];simp))]
  exact ha
theorem PW.new (h:PW w0 s) {b:PBlk} {o:Obj} (hc:Cold o) (hno:b.isOwn=false) (hb:PB (s.new b o) s.w.heap.size b):PW w0 (s.new b o):=by
 have hx:=Ext.new h (b:=b) (o:=o)
 refine ⟨h.os,h.tape,h.output,?_,?_,?_,?_,?_,?_,?_⟩
 ·have:=h.size
  simp only [St.new,alloc_size]
  omega
 ·intro k hk
  have:=h.size
  have hk1:=w0.lt k hk
  exact (alloc_heap_lt s.w o (by omega)).trans (h.old k hk)
 ·intro k hk
  have:=h.size
  have hk1:=w0.lt k hk
  simp only [St.new,upd_ne s.σ (BS.live s.h.next) (show k≠s.w.heap.size by omega)]
  exact h.prot k hk
 ·intro k o' hk ho
  simp only [St.new] at ho
  rcases Nat.lt_trichotomy k s.w.heap.size with h1 | h1 | h1
  ·rw [alloc_heap_lt _ _ h1] at ho
   exact h.cold k o' hk ho
  ·rw [h1,heap_alloc_new] at ho
   cases ho
   exact hc
  ·rw [Array.getElem?_eq_none (by simp;omega)] at ho
   cases ho
 ·intro k hk
  simp only [St.new,alloc_size] at hk ⊢
  rw [upd_ne _ _ (by omega)]
  exact h.inb k (by omega)
 ·intro k n i hk
  simp only [St.new] at hk ⊢
  by_cases hkk:k=s.w.heap.size
  ·rw [hkk,upd_self] at hk
   cases hk
  ·rw [upd_ne _ _ hkk] at hk
   obtain ⟨p1,p2,arr,t,p3,p4⟩:=h.ob k n i hk
   exact ⟨Nat.lt_succ_of_lt p1,(upd_ne _ _ (by omega)).trans p2,arr,t,(alloc_heap_lt _ _ (h.lt (by rw [hk];simp))).trans p3,p4⟩
 ·intro i b' hi
  simp only [St.new,PH.add] at hi
  split at hi
  ·next hin =>
   cases hi
   subst hin
   have e1:(s.new b o).e s.h.next=s.w.heap.size:=upd_self _ _ _
   exact ⟨Nat.lt_succ_self _,(BAt_live hno).2 (by rw [e1];exact upd_self _ _ _),by rw [e1];exact hb⟩
  ·next hin =>
   obtain ⟨p1,p2,p3⟩:=h.hp i b' hi
   have hlt:=h.lt (k:=s.e i) p2.some
   have e1:(s.new b o).e i=s.e i:=upd_ne _ _ hin
   exact ⟨Nat.lt_succ_of_lt p1,p2.congr e1 (upd_ne s.σ (BS.live s.h.next) (show s.e i≠s.w.heap.size by omega)),by rw [e1];exact p3.ext hx (alloc_heap_lt _ _ hlt)⟩
def St.newO (s:St) (n:Nat) (o:Obj):St:={ σ:=upd s.σ s.w.heap.size (.fz n (some s.h.next)),e:=upd s.e s.h.next s.w.heap.size,h:=s.h.add .own,w:=s.w.alloc o }
theorem Ext.newO (h:PW w0 s) {n:Nat} {o:Obj}:Ext s (s.newO n o):=by
 refine Ext.mk' ⟨by simp [St.newO],fun k hk=>⟨fun e=>(upd_ne s.σ _ (Nat.ne_of_lt hk)).trans e,fun n e=>(upd_ne s.σ _ (Nat.ne_of_lt hk)).trans e⟩⟩ (Nat.le_succ _) (fun i hi=>upd_ne _ _ (by omega)) (fun k j y hy=>h.cell_alloc (s':=s.newO n o) rfl (fun k hk=>upd_ne _ _ hk) hy) (fun i m hi hn=>?_) (fun k r hr=>h.fmp_alloc (s':=s.newO n o) rfl (fun k hk=>upd_ne _ _ hk) hr)
 simp only [St.newO] at hn ⊢
 by_cases hk:s.e i=s.w.heap.size
 ·rw [hk,upd_self] at hn
  injection hn with _ h2
  injection h2 with h3
  omega
 ·rw [upd_ne _ _ hk] at hn
  refine ⟨hn,fun arr t ha=>⟨arr,?_,rfl⟩⟩
  rw [alloc_heap_lt _ _ (h.lt (by rw [hn];simp))]
  exact ha
theorem PW.newO (h:PW w0 s) {n:Nat} {arr:Array Value} {t:TypeId} (hn:n≤arr.size):PW w0 (s.newO n (.cells arr t)):=by
 have hx:=Ext.newO h (n:=n) (o:=.cells arr t)
 refine ⟨h.os,h.tape,h.output,?_,?_,?_,?_,?_,?_,?_⟩
 ·have:=h.size
  simp only [St.newO,alloc_size]
  omega
 ·intro k hk
  have:=h.size
  have hk1:=w0.lt k hk
  exact (alloc_heap_lt s.w _ (by omega)).trans (h.old k hk)
 ·intro k hk
  have:=h.size
  have hk1:=w0.lt k hk
  simp only [St.newO,upd_ne s.σ (BS.fz n (some s.h.next)) (show k≠s.w.heap.size by omega)]
  exact h.prot k hk
 ·intro k o' hk ho
  simp only [St.newO] at ho
  rcases Nat.lt_trichotomy k s.w.heap.size with h1 | h1 | h1
  ·rw [alloc_heap_lt _ _ h1] at ho
   exact h.cold k o' hk ho
  ·rw [h1,heap_alloc_new] at ho
   cases ho
   intro arr' t' z e
   cases e
   exact Nat.le_refl _
  ·rw [Array.getElem?_eq_none (by simp;omega)] at ho
   cases ho
 ·intro k hk
  simp only [St.newO,alloc_size] at hk ⊢
  rw [upd_ne _ _ (by omega)]
  exact h.inb k (by omega)
 ·intro k m i hk
  simp only [St.newO] at hk ⊢
  by_cases hkk:k=s.w.heap.size
  ·rw [hkk,upd_self] at hk
   cases hk
   refine ⟨Nat.lt_succ_self _,by rw [upd_self,hkk],arr,t,by rw [hkk];exact heap_alloc_new _ _,hn⟩
  ·rw [upd_ne _ _ hkk] at hk
   obtain ⟨p1,p2,arr',t',p3,p4⟩:=h.ob k m i hk
   exact ⟨Nat.lt_succ_of_lt p1,(upd_ne _ _ (by omega)).trans p2,arr',t',(alloc_heap_lt _ _ (h.lt (by rw [hk];simp))).trans p3,p4⟩
 ·intro i b' hi
  simp only [St.newO,PH.add] at hi
  split at hi
  ·next hin =>
   cases hi
   subst hin
   have e1:(s.newO n (.cells arr t)).e s.h.next=s.w.heap.size:=upd_self _ _ _
   exact ⟨Nat.lt_succ_self _,⟨n,by rw [e1];exact upd_self _ _ _⟩,trivial⟩
  ·next hin =>
   obtain ⟨p1,p2,p3⟩:=h.hp i b' hi
   have hlt:=h.lt (k:=s.e i) p2.some
   have e1:(s.newO n (.cells arr t)).e i=s.e i:=upd_ne _ _ (by omega)
   exact ⟨Nat.lt_succ_of_lt p1,p2.congr e1 (upd_ne s.σ (BS.fz n (some s.h.next)) (show s.e i≠s.w.heap.size by omega)),by rw [e1];exact p3.ext hx (alloc_heap_lt _ _ hlt)⟩
def St.put (s:St) (i:Nat) (b:PBlk) (w':World):St:={ s with h:=s.h.put i b,w:=w' }
theorem Ext.put {i:Nat} (hl:s.σ (s.e i)=.live i) {b:PBlk} {w':World} (hs:s.w.heap.size≤w'.heap.size) (hw:∀ k,k≠s.e i→w'.heap[k]?=s.w.heap[k]?):Ext s (s.put i b w'):=by
 refine Ext.mk' ⟨hs,fun _ _=>⟨id,fun _ h=>h⟩⟩ (Nat.le_refl _) (fun _ _=>rfl) (fun k j y hy=>?_) (fun i' n _ hn=>⟨hn,fun arr t ha=>⟨arr,?_,rfl⟩⟩) (fun k r hr=>?_)
 ·obtain ⟨n,own,h1,h2,h3⟩:=fcell_some hy
  refine fcell_of (s:=s.put i b w') h1 h2 ?_
  rw [← h3]
  exact cell_heap (hw k (fun e=>by rw [e,hl] at h1;cases h1))
 ·refine (hw _ (fun e=>?_)).trans ha
  have:s.σ (s.e i')=.fz n (some i'):=hn
  rw [e,hl] at this
  cases this
 ·obtain ⟨⟨n,own,h1⟩,h2⟩:=fmp_some.1 hr
  exact fmp_some.2 ⟨⟨n,own,h1⟩,(hw k (fun e=>by rw [e,hl] at h1;cases h1)).trans h2⟩
theorem PW.put (h:PW w0 s) {i:Nat} (hi:i < s.h.next) (hl:s.σ (s.e i)=.live i) {b:PBlk} (hno:b.isOwn=false) {o:Obj} {w':World} (u:Upd s.w w' (s.e i) o) (hc:Cold o)
  (hb:PB (s.put i b w') (s.e i) b):PW w0 (s.put i b w'):=by
 have hx:Ext s (s.put i b w'):=Ext.put hl (Nat.le_of_eq u.size.symm) fun k hk=>u.old k hk
 have hnp:¬ w0.pr (s.e i):=fun hlt=>by
  rcases h.prot _ hlt with h1 | ⟨n,h1⟩<;>rw [hl] at h1<;>cases h1
 refine ⟨u.os.trans h.os,u.tape.trans h.tape,u.output.trans h.output,by have:=h.size;have:=u.size;simp only [St.put];omega,?_,h.prot,?_,fun k hk=>h.inb k (by have:=u.size;simp only [St.put] at hk;omega),?_,?_⟩
 ·intro k hk
  exact (u.old k (fun e=>hnp (e ▸ hk))).trans (h.old k hk)
 ·intro k o' hk ho
  by_cases hke:k=s.e i
  ·subst hke
   simp only [St.put] at ho
   rw [u.new] at ho
   cases ho
   exact hc
  ·exact h.cold k o' hk ((u.old k hke).symm.trans ho)
 ·intro k n i' hk
  obtain ⟨p1,p2,arr,t,p3,p4⟩:=h.ob k n i' hk
  refine ⟨p1,p2,arr,t,(u.old k (fun e=>?_)).trans p3,p4⟩
  have:s.σ k=.fz n (some i'):=hk
  rw [e,hl] at this
  cases this
 ·intro i' b' hi'
  simp only [St.put,PH.put] at hi'
  split at hi'
  ·next e =>
   cases hi'
   subst e
   exact ⟨hi,(BAt_live hno).2 hl,hb⟩
  ·next hne =>
   obtain ⟨p1,p2,p3⟩:=h.hp i' b' hi'
   refine ⟨p1,BAt.congr (s':=s.put i b w') (s:=s) rfl rfl p2,p3.ext hx (u.old _ fun e=>?_)⟩
   exact hne (p2.inj ((BAt_live (b:=.dfr) rfl).2 hl) e)
def St.grow (s:St) (i k n:Nat) (w':World):St:={ σ:=upd s.σ k (.fz n (some s.h.next)),e:=upd s.e s.h.next k,h:=(s.h.del i).add .own,w:=w' }
theorem Ext.grow (h:PW w0 s) {k m n i:Nat} (hk:s.σ k=.fz m (some i)) (hmn:m≤n) {w':World} {arr arr':Array Value} {t:TypeId} (ha:s.w.heap[k]?=some (.cells arr t (0,0)))
  (ha':w'.heap[k]?=some (.cells arr' t (0,0))) (hsame:∀ j,j < m→arr'[j]?=arr[j]?) (hs:s.w.heap.size≤w'.heap.size) (hw:∀ x,x≠k→w'.heap[x]?=s.w.heap[x]?):Ext s (s.grow i k n w'):=by
 refine Ext.mk' ⟨hs,fun x _=>⟨fun e=>(upd_ne s.σ _ (fun c:x=k=>by rw [c,hk] at e;cases e)).trans e,fun n' e=>(upd_ne s.σ _ (fun c:x=k=>by rw [c,hk] at e;cases e)).trans e⟩⟩ (Nat.le_succ _) (fun j hj=>upd_ne _ _ (by omega)) (fun x j y hy=>?_) (fun i' n' hi' hn=>?_) (fun x r hr=>?_)
 ·obtain ⟨n',own,h1,h2,h3⟩:=fcell_some hy
  by_cases hx:x=k
  ·subst hx
   rw [hk] at h1
   cases h1
   refine fcell_of (s:=s.grow i x n w') (n:=n) (own:=some s.h.next) (upd_self _ _ _) (by omega) ?_
   simp only [World.cell?,ha] at h3
   simp only [World.cell?,St.grow,ha']
   simpa [hsame j h2] using h3
  ·refine fcell_of (s:=s.grow i k n w') (n:=n') (own:=own) ((upd_ne _ _ hx).trans h1) h2 ?_
   rw [← h3]
   exact cell_heap (hw x hx)
 ·simp only [St.grow] at hn ⊢
  by_cases hx:s.e i'=k
  ·rw [hx,upd_self] at hn
   injection hn with _ h2
   injection h2 with h3
   omega
  ·rw [upd_ne _ _ hx] at hn
   exact ⟨hn,fun arr t ha=>⟨arr,(hw _ hx).trans ha,rfl⟩⟩
 ·obtain ⟨⟨n',own,h1⟩,h2⟩:=fmp_some.1 hr
  have hx:x≠k:=fun e=>by rw [e,ha] at h2;cases h2
  exact fmp_some.2 ⟨⟨n',own,(upd_ne _ _ hx).trans h1⟩,(hw x hx).trans h2⟩
theorem PW.grow (h:PW w0 s) {k m n i:Nat} (hk:s.σ k=.fz m (some i)) (hmn:m≤n) {w':World} {arr arr':Array Value} {t:TypeId} (ha:s.w.heap[k]?=some (.cells arr t (0,0)))
  (u:Upd s.w w' k (.cells arr' t (0,0))) (hsame:∀ j,j < m→arr'[j]?=arr[j]?) (hn:n≤arr'.size):PW w0 (s.grow i k n w'):=by
 have hx:Ext s (s.grow i k n w'):=Ext.grow h hk hmn ha u.new hsame (Nat.le_of_eq u.size.symm) fun x hx=>u.old x hx
 have hnp:¬ w0.pr k:=fun hlt=>by
  rcases h.prot _ hlt with h1 | ⟨n,h1⟩<;>rw [hk] at h1<;>cases h1
 refine ⟨u.os.trans h.os,u.tape.trans h.tape,u.output.trans h.output,by have:=h.size;have:=u.size;simp only [St.grow];omega,?_,?_,?_,?_,?_,?_⟩
 ·intro x hx
  exact (u.old x (fun e=>hnp (e ▸ hx))).trans (h.old x hx)
 ·intro x hx
  simp only [St.grow,upd_ne s.σ (BS.fz n (some s.h.next)) (fun e:x=k=>hnp (e ▸ hx))]
  exact h.prot x hx
 ·intro x o' hx ho
  by_cases hxk:x=k
  ·subst hxk
   simp only [St.grow] at ho
   rw [u.new] at ho
   cases ho
   intro _ _ _ e
   cases e
   exact Nat.le_refl _
  ·exact h.cold x o' hx ((u.old x hxk).symm.trans ho)
 ·intro x hx
  simp only [St.grow,u.size] at hx ⊢
  have:=h.lt (k:=k) (by rw [hk];simp)
  rw [upd_ne _ _ (by omega)]
  exact h.inb x hx
 ·intro x n' i' hx'
  simp only [St.grow] at hx' ⊢
  by_cases hxk:x=k
  ·rw [hxk,upd_self] at hx'
   cases hx'
   exact ⟨Nat.lt_succ_self _,by rw [upd_self,hxk],arr',t,by rw [hxk];exact u.new,hn⟩
  ·rw [upd_ne _ _ hxk] at hx'
   obtain ⟨p1,p2,arr1,t1,p3,p4⟩:=h.ob x n' i' hx'
   exact ⟨Nat.lt_succ_of_lt p1,(upd_ne _ _ (by omega)).trans p2,arr1,t1,(u.old x hxk).trans p3,p4⟩
 ·intro i' b hi'
  replace hi':(if i'=s.h.next then some PBlk.own else if i'=i then none else s.h.get i')=some b:=hi'
  by_cases hin:i'=s.h.next
  ·rw [if_pos hin] at hi'
   cases hi'
   subst hin
   have e1:(s.grow i k n w').e s.h.next=k:=upd_self _ _ _
   exact ⟨Nat.lt_succ_self _,⟨n,by rw [e1];exact upd_self _ _ _⟩,trivial⟩
  ·rw [if_neg hin] at hi'
   by_cases hii:i'=i
   ·rw [if_pos hii] at hi'
    cases hi'
   ·rw [if_neg hii] at hi'
    obtain ⟨p1,p2,p3⟩:=h.hp i' b hi'
    have e1:(s.grow i k n w').e i'=s.e i':=upd_ne _ _ (by omega)
    have hek:=(h.ob k m i hk).2.1
    have hne:s.e i'≠k:=fun e=>hii (p2.inj (b':=.own) ⟨m,by rw [hek];exact hk⟩ (e.trans hek.symm))
    exact ⟨Nat.lt_succ_of_lt p1,p2.congr e1 (upd_ne _ _ hne),by rw [e1];exact p3.ext hx (u.old _ hne)⟩
def PH.cut (h:PH) (n:Nat):PH:=⟨fun i=>if i < n then h.get i else none,n⟩
def BS.cut (n:Nat):BS→BS
 |.live i=>if i < n then .live i else .no
 |.fz m (some i)=>if i < n then .fz m (some i) else .fz m none
 |b=>b
def St.cut (s:St) (n:Nat):St:={ s with σ:=fun k=>(s.σ k).cut n,h:=s.h.cut n }
mutual
def PV.bd (n:Nat):PV→Bool
 |.lit _=>true
 |.agg l=>PV.bds n l
 |.tup l=>PV.bds n l
 |.ifc _ v=>PV.bd n v
 |.sl (.own i) l=>Nat.blt i n && PV.bds n l
 |.sl _ l=>PV.bds n l
 |.fp v=>PV.bd n v
 |.ptr i _=>Nat.blt i n
 |.ms i _ _ _ _=>Nat.blt i n
 |.mp i=>Nat.blt i n
 |.fn _ a b=>PV.bds n a && PV.bds n b
 |.yld i=>Nat.blt i n
 |.fm _ vs=>PV.bds n vs
def PV.bds (n:Nat):List PV→Bool
 |[]=>true
 |v::vs=>PV.bd n v && PV.bds n vs
end
theorem fcell_cut {n k o:Nat}:(s.cut n).fcell k o=s.fcell k o:=by
 simp only [St.fcell,St.cut,BS.cut]
 cases hk:s.σ k with
 |no=>rfl
 |fz m own =>
  cases own with
  |none=>rfl
  |some i =>
   by_cases hi:i < n
   ·simp only [hi,if_true]
   ·simp only [hi,if_false]
 |live i =>
  by_cases hi:i < n
  ·simp only [hi,if_true]
  ·simp only [hi,if_false]
theorem fmp_cut {n k:Nat} {r:Array MapEntry×Nat} (h:s.fmp k=some r):(s.cut n).fmp k=some r :=
 fmp_keep h (fun m own e=>by
  simp only [St.cut,e]
  cases own with
  |none=>exact ⟨_,_,rfl⟩
  |some i =>
   simp only [BS.cut]
   split<;>exact ⟨_,_,rfl⟩) fun _=>rfl
theorem FM0.cut {n k c:Nat} {ks:List AV} {zs:List MapEntry} (hf:FM0 s k ks c zs):FM0 (s.cut n) k ks c zs :=
 let ⟨arr,h1,h2⟩:=hf
 ⟨arr,fmp_cut h1,h2⟩
theorem one_cut {n:Nat} {f f':Value→Prop} (hf:∀ x,f x→f' x):(∀ x,(s.one f).1 x→((s.cut n).one f').1 x)∧∀ k o,(s.one f).2 k o→((s.cut n).one f').2 k o :=
 ⟨hf,fun k o ⟨y,h1,h2⟩=>⟨y,by rw [fcell_cut];exact h1,hf _ h2⟩⟩
theorem blt_lt {a b:Nat} (h:Nat.blt a b=true):a < b:=(T.blt_iff a b).1 h
mutual
theorem R2.cut {n:Nat}:∀ v:PV,v.bd n=true→(∀ x,RV s v x→RV (s.cut n) v x)∧∀ k o,RM s v k o→RM (s.cut n) v k o
 |.lit a,_=>by unfold RV RM R2;exact one_cut fun x hx=>hx
 |.agg l,hb=>by
  have ih:=R2s.cut (n:=n) l (by simpa [PV.bd] using hb)
  unfold RV RM R2
  exact ⟨fun x ⟨y,h1,h2⟩=>⟨y,h1,ih.1 _ h2⟩,fun k o h1=>ih.2.1 k o h1⟩
 |.tup l,hb=>by
  have ih:=R2s.cut (n:=n) l (by simpa [PV.bd] using hb)
  unfold RV RM R2
  exact one_cut fun x ⟨y,h1,h2⟩=>⟨y,h1,ih.1 _ h2⟩
 |.ifc t v,hb=>by
  have ih:=R2.cut (n:=n) v (by simpa [PV.bd] using hb)
  unfold RV RM R2
  exact one_cut fun x ⟨y,h1,h2⟩=>⟨y,h1,ih.1 _ h2⟩
 |.sl tl l, hb => by
  have ih:=R2s.cut (n:=n) l (by cases tl<;>simp [PV.bd] at hb<;>first | exact hb | exact hb.2)
  unfold RV RM R2
  refine one_cut fun x hx=>?_
  rcases hx with hx | ⟨k,o,c,sz,h1,h2,h3,h4⟩
  ·exact .inl hx
  ·refine .inr ⟨k,o,c,sz,h1,h2,ih.2.2 _ _ _ h3,?_⟩
   cases tl with
   |no=>trivial
   |ex=>exact h4
   |own i =>
    obtain ⟨q1,q2,q3,q4⟩:=h4
    have hin:i < n:=by
     simp only [PV.bd,Bool.and_eq_true] at hb
     exact blt_lt hb.1
    refine ⟨hin,q2,q3,fun m hm=>q4 m ?_⟩
    simp only [St.cut] at hm
    cases hk:s.σ k with
    |no=>rw [hk] at hm;cases hm
    |fz m' own =>
     rw [hk] at hm
     cases own with
     |none=>cases hm
     |some j =>
      simp only [BS.cut] at hm
      by_cases hj:j < n
      ·simp only [hj,if_true] at hm
       exact hm
      ·simp only [hj,if_false] at hm
       cases hm
    |live j =>
     rw [hk] at hm
     simp only [BS.cut] at hm
     by_cases hj:j < n
     ·simp only [hj,if_true] at hm;cases hm
     ·simp only [hj,if_false] at hm;cases hm
 |.fp v,hb=>by
  have ih:=R2.cut (n:=n) v (by simpa [PV.bd] using hb)
  unfold RV RM R2
  exact one_cut fun x ⟨k,o,h1,h2⟩=>⟨k,o,h1,ih.2 _ _ h2⟩
 |.ptr i o,hb=>by
  have hb:=blt_lt (a:=i) (b:=n) (by simpa [PV.bd] using hb)
  unfold RV RM R2
  exact one_cut fun x ⟨_,h2⟩=>⟨hb,h2⟩
 |.ms i o len cap _,hb=>by
  have hb:=blt_lt (a:=i) (b:=n) (by simpa [PV.bd] using hb)
  unfold RV RM R2
  exact one_cut fun x ⟨_,h2⟩=>⟨hb,h2⟩
 |.mp i,hb=>by
  have hb:=blt_lt (a:=i) (b:=n) (by simpa [PV.bd] using hb)
  unfold RV RM R2
  exact one_cut fun x ⟨_,h2⟩=>⟨hb,h2⟩
 |.fn f a b,hb=>by
  simp only [PV.bd,Bool.and_eq_true] at hb
  have iha:=R2s.cut (n:=n) a hb.1
  have ihb:=R2s.cut (n:=n) b hb.2
  unfold RV RM R2
  exact one_cut fun x ⟨y,z,h1,h2,h3⟩=>⟨y,z,h1,iha.1 _ h2,ihb.1 _ h3⟩
 |.yld i,hb=>by
  have hb:=blt_lt (a:=i) (b:=n) (by simpa [PV.bd] using hb)
  unfold RV RM R2
  exact one_cut fun x ⟨_,h2⟩=>⟨hb,h2⟩
 |.fm ks vs,hb=>by
  have ih:=R2s.cut (n:=n) vs (by simpa [PV.bd] using hb)
  unfold RV RM R2
  exact one_cut fun x ⟨k,c,zs,h1,h2,h3⟩=>⟨k,c,zs,h1,h2.cut,ih.1 _ h3⟩
theorem R2s.cut {n:Nat}:∀ l:List PV,PV.bds n l=true→(∀ xs,RVs s l xs→RVs (s.cut n) l xs)∧(∀ k o,RMs s l k o→RMs (s.cut n) l k o)∧∀ sz k o,REs s l sz k o→REs (s.cut n) l sz k o
 |[],_=>by unfold RVs RMs REs R2s;exact ⟨fun _ h=>h,fun _ _ h=>h,fun _ _ _ h=>h⟩
 |v::vs,hb=>by
  simp only [PV.bds,Bool.and_eq_true] at hb
  have ih:=R2.cut (n:=n) v hb.1
  have ihs:=R2s.cut (n:=n) vs hb.2
  unfold RVs RMs REs R2s
  exact ⟨fun xs ⟨y,ys,h1,h2,h3⟩=>⟨y,ys,h1,ih.1 _ h2,ihs.1 _ h3⟩,fun k o ⟨⟨y,h1,h2⟩,h3⟩=>⟨⟨y,by rw [fcell_cut];exact h1,ih.1 _ h2⟩,ihs.2.1 _ _ h3⟩,fun sz k o ⟨h0,h1,h2⟩=>⟨h0,ih.2 _ _ h1,ihs.2.2 _ _ _ h2⟩⟩
end
end
end Go.Pv
