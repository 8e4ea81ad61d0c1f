/- Parts of the proof: Am7, Am8, Am9, Am10, Am11, Am12 -/
import Derived.Test.YtkabfhoicdeehaaGreatP1
import Derived.Laws.StructEq
import Derived.WalkLawsBesides
import Derived.Great.BuildSlice
set_option linter.unusedVariables false
set_option linter.unusedSimpArgs false
set_option linter.unusedSectionVars false
namespace Go.Am
open Go.RowKit
def fwrap (k:IntKind) (n:Int):Int :=
 match k with
 |.i64=>match n with
  |.ofNat a=>match Nat.ble a 9223372036854775807 with
   |true=>.ofNat a
   |false=>IntKind.i64.wrap n
  |.negSucc a=>match Nat.ble a 9223372036854775807 with
   |true=>.negSucc a
   |false=>IntKind.i64.wrap n
 |k=>k.wrap n
theorem wrap_in (n:Int) (h1:-9223372036854775808≤n) (h2:n≤9223372036854775807):IntKind.i64.wrap n=n:=by
 have:=IntWalk.i64_in n ⟨h1,h2⟩
 exact this
theorem fwrap_eq (k:IntKind) (n:Int):fwrap k n=k.wrap n:=by
 cases k<;>try rfl
 cases n with
 |ofNat a =>
  simp only [fwrap]
  cases h:Nat.ble a 9223372036854775807 with
  |false=>rfl
  |true =>
   have:=Nat.le_of_ble_eq_true h
   exact (wrap_in (Int.ofNat a) (by simp only [Int.ofNat_eq_natCast];omega) (by simp only [Int.ofNat_eq_natCast];omega)).symm
 |negSucc a =>
  simp only [fwrap]
  cases h:Nat.ble a 9223372036854775807 with
  |false=>rfl
  |true =>
   have:=Nat.le_of_ble_eq_true h
   exact (wrap_in (Int.negSucc a) (by omega) (by omega)).symm
def aint (op:BinOp) (k:IntKind) (x y:Int):Option AV :=
 match op with
 |.add=>some (.int k (fwrap k (x+y)))
 |.sub=>some (.int k (fwrap k (x - y)))
 |.mul=>some (.int k (fwrap k (x * y)))
 |.quo=>match decide (y=0) with
  |true=>none
  |false=>some (.int k (fwrap k (x.tdiv y)))
 |.rem=>match decide (y=0) with
  |true=>none
  |false=>some (.int k (x.tmod y))
 |.and=>some (.int k (k.wrap (BitVec.ofInt k.bits x &&& BitVec.ofInt k.bits y).toNat))
 |.or=>some (.int k (k.wrap (BitVec.ofInt k.bits x ||| BitVec.ofInt k.bits y).toNat))
 |.xor=>some (.int k (k.wrap (BitVec.ofInt k.bits x ^^^ BitVec.ofInt k.bits y).toNat))
 |.andNot=>some (.int k (k.wrap (BitVec.ofInt k.bits x &&& ~~~BitVec.ofInt k.bits y).toNat))
 |.eql=>some (.bool (x == y))
 |.neq=>some (.bool (x != y))
 |.lss=>some (.bool (decide (x < y)))
 |.leq=>some (.bool (decide (x≤y)))
 |.gtr=>some (.bool (decide (x > y)))
 |.geq=>some (.bool (decide (x ≥ y)))
 |.shl | .shr=>none
def ashift (op:BinOp) (k:IntKind) (x y:Int):Option AV :=
 match decide (y < 0) with
 |true=>none
 |false=>match op with
  |.shl=>some (.int k (k.wrap (x * 2 ^ (min y.toNat k.bits))))
  |.shr=>some (.int k (x.fdiv (2 ^ (min y.toNat k.bits))))
  |_=>none
def isAggB:TypeDesc→Bool
 |.struct _=>true
 |.array _ _=>true
 |_=>false
def apart (A:AP) (t:TypeId) (cs:List AV) (off:Nat):Option AV :=
 match A.under t,A.info t with
 |some d,some ti=>match isAggB d with
  |true=>some (.agg ((cs.drop off).take ti.size))
  |false=>cs[off]?
 |_,_=>none
structure Eqs where
 eqs:T Unit
structure Eqs.Ok (E:Eqs) (P:Program):Prop where
 ok:∀ t,E.eqs.get t=some ()→P.eqGuardType P.depth t=false∧P.stoodInHeld t=false
mutual
def aeqv (A:AP) (E:Eqs):Nat→TypeId→AV→AV→Option Bool
 |0,_,_,_=>none
 |d+1,t,.int k a,.int k' b=>match A.under t with
  |some (.int _)=>match decide (k=k') with
   |true=>some (a == b)
   |false=>none
  |_=>none
 |d+1,t,.bool a,.bool b=>match A.under t with
  |some .bool=>some (a == b)
  |_=>none
 |d+1,t,.str a,.str b=>match A.under t with
  |some .string=>some (a.toList == b.toList)
  |_=>none
 |d+1,t,.agg xs,.agg ys=>match A.under t,E.eqs.get t with
  |some (.struct fs),some ()=>aeqFields A E d xs ys fs.toList
  |some (.array n e),some ()=>match A.info e with
   |some ti=>aeqElems A E d e ti.size xs ys n 0
   |none=>none
  |_,_=>none
 |_,_,_,_=>none
def aeqElems (A:AP) (E:Eqs):Nat→TypeId→Nat→List AV→List AV→Nat→Nat→Option Bool
 |_,_,_,_,_,0,_=>some true
 |0,_,_,_,_,_+1,_=>none
 |d+1,e,sz,xs,ys,n+1,i=>match apart A e xs (i * sz),apart A e ys (i * sz) with
  |some a,some b=>match aeqv A E d e a b with
   |some true=>aeqElems A E d e sz xs ys n (i+1)
   |some false=>some false
   |none=>none
  |_,_=>none
def aeqFields (A : AP) (E : Eqs) : Nat → List AV → List AV → List Field → Option Bool
 |_,_,_,[]=>some true
 |0,_,_,_=>none
 |d + 1, xs, ys, f :: fs => match f.name != "_" with
  |true=>match apart A f.type xs f.offset,apart A f.type ys f.offset with
   |some a,some b=>match aeqv A E d f.type a b with
    |some true=>aeqFields A E d xs ys fs
    |some false=>some false
    |none=>none
   |_,_=>none
  |false=>aeqFields A E d xs ys fs
end
def anil (A:AP) (t:TypeId) (x y:AV):Option Bool :=
 match A.under t,x,y with
 |some (.interface _),.nilifc,.ifc _ _=>some false
 |some (.interface _),.ifc _ _,.nilifc=>some false
 |some (.pointer _),.nilptr,.nilptr=>some true
 |some (.pointer _),.nilptr,.ptr _ _=>some false
 |some (.pointer _),.ptr _ _,.nilptr=>some false
 |some (.pointer _),.nilptr,.zptr=>some false
 |some (.pointer _),.zptr,.nilptr=>some false
 |some (.slice _),.nilsl,.nilsl=>some true
 |some (.slice _),.nilsl,.sl _ _ _ _=>some false
 |some (.slice _),.sl _ _ _ _,.nilsl=>some false
 |some (.map _ _),.nilmap,.nilmap=>some true
 |some (.map _ _),.nilmap,.map _=>some false
 |some (.map _ _),.map _,.nilmap=>some false
 |some (.func _ _ _),.nilfn,.nilfn=>some true
 |some (.func _ _ _),.fn _ _ _,.nilfn=>some false
 |_,_,_=>none
def aequal (A:AP) (E:Eqs) (t:TypeId) (x y:AV):Option Bool :=
 match x,y with
 |.bool _,.bool _=>aeqv A E 20 t x y
 |.agg _,.agg _=>match E.eqs.get t with
  |some ()=>aeqv A E 20 t x y
  |none=>none
 |_,_=>anil A t x y
def abin (A:AP) (E:Eqs) (op:BinOp) (t:TypeId) (x y:AV):Option AV :=
 match x,y with
 |.int k a,.int k' b=>match op with
  |.shl=>ashift .shl k a b
  |.shr=>ashift .shr k a b
  |_=>match decide (k=k') with
   |true=>aint op k a b
   |false=>none
 |.str a,.str b=>match op with
  |.eql=>some (.bool (a.toList == b.toList))
  |.neq=>some (.bool (!(a.toList == b.toList)))
  |_=>none
 |_,_=>match op with
  |.eql=>match aequal A E t x y with
   |some b=>some (.bool b)
   |none=>none
  |.neq=>match aequal A E t x y with
   |some b=>some (.bool (!b))
   |none=>none
  |_=>none
def aun (op:UnOp) (x:AV):Option AV :=
 match op,x with
 |.neg,.int k n=>some (.int k (fwrap k (0 - n)))
 |.not,.bool b=>some (.bool (!b))
 |.xor,.int k n=>aint .xor k (if k.signed then -1 else k.max) n
 |_,_=>none
def aconv (A:AP) (src dst:TypeId) (x:AV):Option AV :=
 match A.under src,A.under dst,x with
 |some _,some (.int k),.int _ n=>some (.int k (fwrap k n))
 |some _,some .string,.str s=>some (.str s)
 |_,_,_=>none
section
variable {m:Env} {w:World} {A:AP} {P:Program} {E:Eqs}
theorem aint_ok {op:BinOp} {k:IntKind} {x y:Int} {v:AV} (h:aint op k x y=some v) (t:TypeId) :
  ∃ r,(binOp op t (.int k x) (.int k y)).run P w=.ok r w∧VR m v r:=by
 cases op<;>simp only [aint] at h
 case quo =>
  split at h
  ·cases h
  next hy =>
  simp only [decide_eq_false_iff_not] at hy
  cases h
  exact ⟨_,by simp [binOp,Op.intDiv,hy];rfl,by simp only [VR,fwrap_eq]⟩
 case rem =>
  split at h
  ·cases h
  next hy =>
  simp only [decide_eq_false_iff_not] at hy
  cases h
  exact ⟨_,by simp [binOp,Op.intDiv,hy];rfl,by simp only [VR]⟩
 case shl=>cases h
 case shr=>cases h
 all_goals
  cases h
  first
   |exact ⟨_,by simp only [binOp,ne_eq,not_true_eq_false,if_false,Op.intArith,Sem.run_pure];rfl,by simp only [VR,fwrap_eq]⟩
   |exact ⟨_,by simp only [binOp,ne_eq,not_true_eq_false,if_false,Op.intBits,Sem.run_pure];rfl,by simp only [VR]⟩
   |exact ⟨_,by simp only [binOp,ne_eq,not_true_eq_false,if_false,Op.intCmp,Sem.run_pure];rfl,by simp only [VR]⟩
theorem ashift_ok {op:BinOp} {k k':IntKind} {x y:Int} {v:AV} (h:ashift op k x y=some v) (t:TypeId) :
  ∃ r,(binOp op t (.int k x) (.int k' y)).run P w=.ok r w∧VR m v r:=by
 unfold ashift at h
 split at h
 ·cases h
 next hy =>
 simp only [decide_eq_false_iff_not] at hy
 split at h
 ·cases h
  exact ⟨_,by simp [binOp,Op.shift,hy];rfl,by simp only [VR]⟩
 ·cases h
  exact ⟨_,by simp [binOp,Op.shift,hy];rfl,by simp only [VR]⟩
 ·cases h
theorem VRs.drop {v:List AV} {x:List Value} (h:VRs m v x) (n:Nat):VRs m (v.drop n) (x.drop n) :=
 VRs.of_get (by simp [h.length]) fun i a y h1 h2=>by
  rw [List.getElem?_drop] at h1 h2
  obtain ⟨z,z1,z2⟩:=h.get h1
  rw [h2] at z1
  cases z1
  exact z2
theorem VRs.take {v:List AV} {x:List Value} (h:VRs m v x) (n:Nat):VRs m (v.take n) (x.take n) :=
 VRs.of_get (by simp [h.length]) fun i a y h1 h2=>by
  rcases Nat.lt_or_ge i n with hi | hi
  ·rw [List.getElem?_take_of_lt hi] at h1 h2
   obtain ⟨z,z1,z2⟩:=h.get h1
   rw [h2] at z1
   cases z1
   exact z2
  ·rw [List.getElem?_take_eq_none hi] at h1
   cases h1
theorem run_isAgg {t:TypeId} {d:TypeDesc} (h:P.underlying t=some d):(isAgg t).run P w=.ok (isAggB d) w:=by
 simp only [isAgg,Sem.run_bind,run_underlying h,Result.andThen_ok]
 cases d<;>rfl
theorem apart_ok (hA:A.Ok P) {t:TypeId} {cs:List AV} {off:Nat} {v:AV} (h:apart A t cs off=some v) {xs:Array Value} (hx:VRs m cs xs.toList) :
  ∃ r,(part t xs off).run P w=.ok r w∧VR m v r:=by
 unfold apart at h
 split at h
 case h_2=>cases h
 next d ti hd hti =>
 have hu:=hA.under_ok hd
 split at h
 ·next hagg =>
  cases h
  refine ⟨.agg (xs.extract off (off+ti.size)),?_,?_⟩
  ·simp [part,run_isAgg hu,hagg,sizeOf,run_typeInfo' (hA.info _ _ hti)]
  ·simp only [VR]
   refine ⟨_,rfl,?_⟩
   have:=(hx.drop off).take ti.size
   rw [Array.toList_extract,List.extract_eq_take_drop]
   rw [show off+ti.size - off=ti.size from by omega]
   exact this
 ·next hagg =>
  obtain ⟨y,y1,y2⟩:=hx.get h
  refine ⟨y,?_,y2⟩
  have:xs[off]?=some y:=by simpa using y1
  simp [part,run_isAgg hu,hagg,this]
end
end Go.Am
namespace Go.Am
open Go.RowKit
section
variable {m:Env} {w:World} {A:AP} {P:Program} {E:Eqs}
theorem fieldsOf_eq {t:TypeId} {fs:Array Field} (h:P.underlying t=some (.struct fs)):P.fieldsOf t=fs:=by simp [Program.fieldsOf,h]
def elemsEq (d:Nat) (e:TypeId) (sz:Nat) (xs ys:Array Value):Nat→Nat→Sem Bool
 |0,_=>pure true
 |n+1,i=>do
  if !(← Op.equalIn d e (← part e xs (i * sz)) (← part e ys (i * sz))) then return false
  elemsEq d e sz xs ys n (i+1)
theorem run_equalIn_arr {t e:TypeId} {n d:Nat} {xs ys:Array Value} {ti:TypeInfo} (hu:P.underlying t=some (.array n e)) (hti:P.info? e=some ti) :
  (Op.equalIn (d+1) t (.agg xs) (.agg ys)).run P w=(elemsEq d e ti.size xs ys n 0).run P w:=by
 simp only [Op.equalIn,Sem.run_bind,run_underlying hu,Result.andThen_ok,sizeOf,run_typeInfo' hti,Sem.run_pure]
 simp only [Std.Legacy.Range.forIn_eq_forIn_range',Std.Legacy.Range.size,Nat.sub_zero,Nat.add_one_sub_one,Nat.div_one]
 generalize 0=i
 clear hu
 induction n generalizing i w with
 |zero=>simp [elemsEq]
 |succ n ih =>
  simp only [List.range'_succ,List.forIn_cons,elemsEq,Sem.run_bind,Sem.run_ite]
  generalize (part e xs (i * ti.size)).run P w=r1
  cases r1 with
  |ok a w1 =>
   simp only [Result.andThen_ok]
   generalize (part e ys (i * ti.size)).run P w1=r2
   cases r2 with
   |ok b w2 =>
    simp only [Result.andThen_ok]
    generalize (Op.equalIn d e a b).run P w2=r3
    cases r3 with
    |ok r w3 =>
     cases r
     ·simp only [Result.andThen_ok,Bool.not_false,if_true,Sem.run_pure]
     ·simp only [Result.andThen_ok,Bool.not_true,Bool.false_eq_true,if_false,Sem.run_pure]
      exact ih (i+1)
    |halt x w3=>simp [Result.andThen]
   |halt x w2=>simp [Result.andThen]
  |halt x w1=>simp [Result.andThen]
theorem aeq_ok (hA:A.Ok P) (hE:E.Ok P):∀ n:Nat,(∀ t x y b xv yv d,aeqv A E n t x y=some b→VR m x xv→VR m y yv→n≤d→(Op.equalIn d t xv yv).run P w=.ok b w) ∧
  (∀ xs ys fs b xv yv d,aeqFields A E n xs ys fs=some b→VRs m xs xv.toList→VRs m ys yv.toList→n≤d→(Op.eqFields d xv yv fs).run P w=.ok b w) ∧
  ∀ e sz xs ys k i b (xv yv:Array Value) d,aeqElems A E n e sz xs ys k i=some b→VRs m xs xv.toList→VRs m ys yv.toList→n≤d→(∃ ti,A.info e=some ti∧ti.size=sz)→(elemsEq d e sz xv yv k i).run P w=.ok b w:=by
 intro n
 induction n with
 |zero =>
  refine ⟨fun t x y b xv yv d h=>by simp [aeqv] at h,fun xs ys fs b xv yv d h _ _ _=>?_,fun e sz xs ys k i b xv yv d h _ _ _ _=>?_⟩
  ·cases fs with
   |nil=>simp only [aeqFields,Option.some.injEq] at h;subst h;simp [Op.eqFields]
   |cons f fs=>simp [aeqFields] at h
  ·cases k with
   |zero=>simp only [aeqElems,Option.some.injEq] at h;subst h;simp [elemsEq]
   |succ k=>simp [aeqElems] at h
 |succ n ih =>
  refine ⟨?_,?_,?_⟩
  ·intro t x y b xv yv d h hx hy hd
   obtain ⟨d,rfl⟩:∃ k,d=k+1:=⟨d - 1,by omega⟩
   cases x<;>cases y<;>simp only [aeqv,reduceCtorEq] at h
   case bool.bool p q =>
    simp only [VR] at hx hy
    subst hx hy
    split at h
    ·next hu=>cases h;exact run_equalIn_bool' w d t _ _ (hA.under_ok hu)
    ·cases h
   case int.int k p k' q =>
    simp only [VR] at hx hy
    subst hx hy
    split at h
    ·next hu =>
     split at h
     ·next hk =>
      simp only [decide_eq_true_eq] at hk
      subst hk
      cases h
      exact run_equalIn_int w d t _ _ _ _ (hA.under_ok hu)
     ·cases h
    ·cases h
   case str.str p q =>
    simp only [VR] at hx hy
    subst hx hy
    split at h
    ·next hu=>cases h;exact run_equalIn_string w d t _ _ (hA.under_ok hu)
    ·cases h
   case agg.agg xs ys =>
    simp only [VR] at hx hy
    obtain ⟨xs',rfl,hx⟩:=hx
    obtain ⟨ys',rfl,hy⟩:=hy
    split at h
    ·next fs hu he =>
     have hu':=hA.under_ok hu
     rw [run_equalIn_agg w d t xs' ys' (by rw [fieldsOf_eq hu'];exact hu') (hE.ok t he).2,fieldsOf_eq hu']
     exact ih.2.1 _ _ _ b xs' ys' d h hx hy (by omega)
    ·next k e hu he =>
     split at h
     case h_2=>cases h
     next ti hti =>
     rw [run_equalIn_arr (hA.under_ok hu) (hA.info _ _ hti)]
     exact ih.2.2 _ _ _ _ k 0 b xs' ys' d h hx hy (by omega) ⟨ti,hti,rfl⟩
    ·cases h
  ·intro xs ys fs b xv yv d h hx hy hd
   cases fs with
   |nil =>
    simp only [aeqFields,Option.some.injEq] at h
    subst h
    simp [Op.eqFields]
   |cons f fs =>
    simp only [aeqFields] at h
    split at h
    ·next hf =>
     have hf' : f.name ≠ "_" := by simpa using hf
     split at h
     ·next a b' ha hb =>
      obtain ⟨ra,ha1,ha2⟩:=apart_ok (w:=w) hA ha hx
      obtain ⟨rb,hb1,hb2⟩:=apart_ok (w:=w) hA hb hy
      split at h
      ·next he =>
       have:=ih.1 _ _ _ _ ra rb d he ha2 hb2 (by omega)
       simp only [Op.eqFields,hf',ne_eq,not_false_eq_true,if_true,Sem.run_bind,ha1,hb1,this,Result.andThen_ok,Bool.not_true,Bool.false_eq_true,if_false]
       exact ih.2.1 _ _ _ b xv yv d h hx hy (by omega)
      ·next he =>
       cases h
       have:=ih.1 _ _ _ _ ra rb d he ha2 hb2 (by omega)
       simp [Op.eqFields,hf',ha1,hb1,this]
      ·cases h
     ·cases h
    ·next hf =>
     have hf' : f.name = "_" := by simpa using hf
     simp only [Op.eqFields,hf',ne_eq,not_true_eq_false,if_false]
     exact ih.2.1 _ _ _ b xv yv d h hx hy (by omega)
  ·intro e sz xs ys k i b xv yv d h hx hy hd hti
   cases k with
   |zero =>
    simp only [aeqElems,Option.some.injEq] at h
    subst h
    simp [elemsEq]
   |succ k =>
    simp only [aeqElems] at h
    split at h
    ·next a b' ha hb =>
     obtain ⟨ra,ha1,ha2⟩:=apart_ok (w:=w) hA ha hx
     obtain ⟨rb,hb1,hb2⟩:=apart_ok (w:=w) hA hb hy
     split at h
     ·next he =>
      have:=ih.1 _ _ _ _ ra rb d he ha2 hb2 (by omega)
      simp only [elemsEq,Sem.run_bind,ha1,hb1,this,Result.andThen_ok,Bool.not_true,Bool.false_eq_true,if_false]
      exact ih.2.2 _ _ _ _ k _ b xv yv d h hx hy (by omega) hti
     ·next he =>
      cases h
      have:=ih.1 _ _ _ _ ra rb d he ha2 hb2 (by omega)
      simp [elemsEq,ha1,hb1,this]
     ·cases h
    ·cases h
theorem anil_ok (hA:A.Ok P) {t:TypeId} {x y:AV} {b:Bool} (h:anil A t x y=some b) {xv yv:Value} (hx:VR m x xv) (hy:VR m y yv) (d:Nat) :
  (Op.equalIn (d+1) t xv yv).run P w=.ok b w:=by
 unfold anil at h
 split at h<;>first
  |(cases h;done)
  |(next hu =>
    have hu':=hA.under_ok hu
    cases h
    simp only [VR] at hx hy
    first
     |(subst hx hy;simp [Op.equalIn,run_underlying hu'];done)
     |(subst hx;obtain ⟨z,rfl,_⟩:=hy;simp [Op.equalIn,run_underlying hu'];done)
     |(subst hy;obtain ⟨z,rfl,_⟩:=hx;simp [Op.equalIn,run_underlying hu'];done)
     |(subst hx;obtain ⟨l,_,rfl⟩:=hy;simp [Op.equalIn,run_underlying hu'];done)
     |(subst hx;obtain ⟨l,rfl⟩:=hy;simp [Op.equalIn,run_underlying hu'];done)
     |(subst hy;obtain ⟨l,rfl⟩:=hx;simp [Op.equalIn,run_underlying hu'];done)
     |(subst hy;obtain ⟨l,_,rfl⟩:=hx;simp [Op.equalIn,run_underlying hu'];done)
     |(subst hx;obtain ⟨l,p,c,_,rfl,_⟩:=hy;simp [Op.equalIn,run_underlying hu'];done)
     |(subst hy;obtain ⟨l,p,c,_,rfl,_⟩:=hx;simp [Op.equalIn,run_underlying hu'];done)
     |(subst hy;obtain ⟨l,c,rfl,_⟩:=hx;simp [Op.equalIn,run_underlying hu'];done))
theorem aequal_ok (hA:A.Ok P) (hE:E.Ok P) {t:TypeId} {x y:AV} {b:Bool} (h:aequal A E t x y=some b) {xv yv:Value} (hx:VR m x xv) (hy:VR m y yv) :
  (Op.equal t xv yv).run P w=.ok b w:=by
 unfold aequal at h
 unfold Op.equal Op.maxDepth
 split at h
 ·exact (aeq_ok hA hE 20).1 _ _ _ _ _ _ 10000 h hx hy (by omega)
 ·split at h
  ·exact (aeq_ok hA hE 20).1 _ _ _ _ _ _ 10000 h hx hy (by omega)
  ·cases h
 ·exact anil_ok hA h hx hy 9999
end
end Go.Am
namespace Go.Am
open Go.RowKit
def plainV:Value→Bool
 |.int _ _=>false
 |.float _ _=>false
 |.complex _ _ _=>false
 |.string _=>false
 |_=>true
theorem binOp_eql {t:TypeId} {x y:Value} (h:plainV x=true):binOp .eql t x y=(do pure (.bool (← Op.equal t x y))):=by
 cases x<;>simp only [plainV,Bool.false_eq_true] at h<;>cases y<;>rfl
theorem binOp_neq {t:TypeId} {x y:Value} (h:plainV x=true):binOp .neq t x y=(do pure (.bool (!(← Op.equal t x y)))):=by
 cases x<;>simp only [plainV,Bool.false_eq_true] at h<;>cases y<;>rfl
section
variable {m:Env} {w:World} {A:AP} {P:Program} {E:Eqs}
theorem eqGuard_ok (op:BinOp) (t:TypeId) (xo yo:Operand) (x y:Value) (h1:¬ (x=.nilIface∧y=.nilIface))
  (h2:∀ a b,x=.agg a→y=.agg b→P.eqGuardType P.depth t=false):(eqGuard op t xo yo x y).run P w=.ok () w:=by
 cases x<;>cases y<;>first
  |exact absurd ⟨rfl,rfl⟩ h1
  |exact run_eqGuard_agg w op t xo yo _ _ (h2 _ _ rfl rfl)
  |(cases op<;>rfl)
theorem aequal_plain {t:TypeId} {x y:AV} {b:Bool} (h:aequal A E t x y=some b) {xv yv:Value} (hx:VR m x xv) (hy:VR m y yv) (hE:E.Ok P) :
  plainV xv=true∧¬ (xv=.nilIface∧yv=.nilIface)∧(∀ p q,xv=.agg p→yv=.agg q→P.eqGuardType P.depth t=false):=by
 unfold aequal at h
 split at h
 ·simp only [VR] at hx hy
  subst hx hy
  exact ⟨rfl,by simp,fun _ _ e=>by cases e⟩
 ·split at h
  ·next he =>
   simp only [VR] at hx hy
   obtain ⟨xs,rfl,_⟩:=hx
   obtain ⟨ys,rfl,_⟩:=hy
   exact ⟨rfl,by simp,fun _ _ _ _=>(hE.ok t he).1⟩
  ·cases h
 ·unfold anil at h
  split at h<;>first
   |(cases h;done)
   |(simp only [VR] at hx hy
     first
     |(subst hx hy;exact ⟨rfl,by simp,fun _ _ e=>by cases e⟩)
     |(subst hx;obtain ⟨z,rfl,_⟩:=hy;exact ⟨rfl,by simp,fun _ _ e=>by cases e⟩)
     |(subst hy;obtain ⟨z,rfl,_⟩:=hx;exact ⟨rfl,by simp,fun _ _ e=>by cases e⟩)
     |(subst hx;obtain ⟨l,_,rfl⟩:=hy;exact ⟨rfl,by simp,fun _ _ e=>by cases e⟩)
     |(subst hx;obtain ⟨l,rfl⟩:=hy;exact ⟨rfl,by simp,fun _ _ e=>by cases e⟩)
     |(subst hy;obtain ⟨l,rfl⟩:=hx;exact ⟨rfl,by simp,fun _ _ e=>by cases e⟩)
     |(subst hy;obtain ⟨l,_,rfl⟩:=hx;exact ⟨rfl,by simp,fun _ _ e=>by cases e⟩)
     |(subst hx;obtain ⟨l,p,c,_,rfl,_⟩:=hy;exact ⟨rfl,by simp,fun _ _ e=>by cases e⟩)
     |(subst hy;obtain ⟨l,p,c,_,rfl,_⟩:=hx;exact ⟨rfl,by simp,fun _ _ e=>by cases e⟩)
     |(subst hy;obtain ⟨l,c,rfl,_⟩:=hx;exact ⟨rfl,by simp,fun _ _ e=>by cases e⟩))
theorem abin_ok (hA:A.Ok P) (hE:E.Ok P) {op:BinOp} {t:TypeId} {x y v:AV} (h:abin A E op t x y=some v) {xv yv:Value} (hx:VR m x xv) (hy:VR m y yv) (xo yo:Operand) :
  ∃ r,(do eqGuard op t xo yo xv yv;binOp op t xv yv:Sem Value).run P w=.ok r w∧VR m v r:=by
 unfold abin at h
 split at h
 ·simp only [VR] at hx hy
  subst hx hy
  have hg:∀ op k k' a b,(eqGuard op t xo yo (.int k a) (.int k' b)).run P w=.ok () w:=fun op _ _ _ _=>eqGuard_ok op t xo yo _ _ (by simp) (fun _ _ e=>by cases e)
  split at h
  ·obtain ⟨r,r1,r2⟩:=ashift_ok (w:=w) (P:=P) (m:=m) h t
   exact ⟨r,by simp only [Sem.run_bind,hg,Result.andThen_ok];exact r1,r2⟩
  ·obtain ⟨r,r1,r2⟩:=ashift_ok (w:=w) (P:=P) (m:=m) h t
   exact ⟨r,by simp only [Sem.run_bind,hg,Result.andThen_ok];exact r1,r2⟩
  ·split at h
   ·next hk =>
    simp only [decide_eq_true_eq] at hk
    subst hk
    obtain ⟨r,r1,r2⟩:=aint_ok (w:=w) (P:=P) (m:=m) h t
    exact ⟨r,by simp only [Sem.run_bind,hg,Result.andThen_ok];exact r1,r2⟩
   ·cases h
 ·simp only [VR] at hx hy
  subst hx hy
  have hg:∀ op a b,(eqGuard op t xo yo (.string a) (.string b)).run P w=.ok () w:=fun op _ _=>eqGuard_ok op t xo yo _ _ (by simp) (fun _ _ e=>by cases e)
  split at h
  ·cases h
   exact ⟨_,by simp only [Sem.run_bind,hg,Result.andThen_ok];rfl,by simp only [VR]⟩
  ·cases h
   exact ⟨_,by simp only [Sem.run_bind,hg,Result.andThen_ok];rfl,by simp only [VR]⟩
  ·cases h
 ·split at h
  ·split at h
   ·next b hb =>
    cases h
    obtain ⟨h1,h2,h3⟩:=aequal_plain hb hx hy hE
    refine ⟨.bool b,?_,by simp only [VR]⟩
    simp only [Sem.run_bind,eqGuard_ok _ _ _ _ _ _ h2 h3,Result.andThen_ok,binOp_eql h1,aequal_ok hA hE hb hx hy,Sem.run_pure]
   ·cases h
  ·split at h
   ·next b hb =>
    cases h
    obtain ⟨h1,h2,h3⟩:=aequal_plain hb hx hy hE
    refine ⟨.bool (!b),?_,by simp only [VR]⟩
    simp only [Sem.run_bind,eqGuard_ok _ _ _ _ _ _ h2 h3,Result.andThen_ok,binOp_neq h1,aequal_ok hA hE hb hx hy,Sem.run_pure]
   ·cases h
  ·cases h
theorem aun_ok {op:UnOp} {x v:AV} (h:aun op x=some v) {xv:Value} (hx:VR m x xv):∃ r,(Op.unary op xv).run P w=.ok r w∧VR m v r:=by
 unfold aun at h
 split at h
 ·simp only [VR] at hx
  subst hx
  cases h
  exact ⟨_,by simp only [Op.unary,Op.intArith,Sem.run_pure];rfl,by simp only [VR,fwrap_eq]⟩
 ·simp only [VR] at hx
  subst hx
  cases h
  exact ⟨_,rfl,by simp only [VR]⟩
 ·simp only [VR] at hx
  subst hx
  simp only [aint,Option.some.injEq] at h
  subst h
  exact ⟨_,by simp only [Op.unary,Op.intBits,Sem.run_pure];rfl,by simp only [VR]⟩
 ·cases h
theorem aconv_ok (hA:A.Ok P) {src dst:TypeId} {x v:AV} (h:aconv A src dst x=some v) {xv:Value} (hx:VR m x xv):∃ r,(convert src dst xv).run P w=.ok r w∧VR m v r:=by
 unfold aconv at h
 split at h
 ·next d k k' n hs hd =>
  simp only [VR] at hx
  subst hx
  cases h
  refine ⟨.int k (k.wrap n),?_,by simp only [VR,fwrap_eq]⟩
  simp only [convert,Sem.run_bind,run_underlying (hA.under_ok hs),run_underlying (hA.under_ok hd),Result.andThen_ok]
  cases d<;>rfl
 ·next d s hs hd =>
  simp only [VR] at hx
  subst hx
  cases h
  refine ⟨.string s,?_,by simp only [VR]⟩
  simp only [convert,Sem.run_bind,run_underlying (hA.under_ok hs),run_underlying (hA.under_ok hd),Result.andThen_ok]
  cases d<;>rfl
 ·cases h
end
end Go.Am
namespace Go.Am
open Go.RowKit
theorem foldl_put (off:Nat):∀ (l:List Value) (k:Nat) (cs:Array Value),off+k+l.length≤cs.size →
  ((l.zipIdx k).foldl (fun cs (c,j)=>cs.setIfInBounds (off+j) c) cs).size=cs.size ∧
  ∀ i,((l.zipIdx k).foldl (fun cs (c,j)=>cs.setIfInBounds (off+j) c) cs)[i]?=if off+k≤i∧i < off+k+l.length then l[i - (off+k)]? else cs[i]?
 |[],k,cs,_=>⟨rfl,fun i=>by rw [if_neg (by simp)];rfl⟩
 |c :: l, k, cs, h => by
  simp only [List.length_cons] at h
  have ih:=foldl_put off l (k+1) (cs.setIfInBounds (off+k) c) (by simp;omega)
  simp only [List.zipIdx_cons,List.foldl_cons]
  refine ⟨by rw [ih.1];simp,fun i=>?_⟩
  rw [ih.2]
  by_cases h1:i=off+k
  ·subst h1
   rw [if_neg (by omega),if_pos ⟨by omega,by simp⟩]
   have hlt:off+k < cs.size:=by omega
   simp [hlt]
  ·by_cases h2:off+k≤i∧i < off+k+(l.length+1)
   ·rw [if_pos (by omega),if_pos (by simpa using h2),show i - (off+k)=(i - (off+(k+1)))+1 from by omega]
    simp
   ·rw [if_neg (by omega),if_neg (by simpa using h2),Array.getElem?_setIfInBounds_ne (by omega)]
def aplaces (A:AP):List Field→Option (List (Nat×Nat))
 |[]=>some []
 |f::fs=>match A.info f.type,aplaces A fs with
  |some i,some ps=>some ((f.offset,i.size)::ps)
  |_,_=>none
def acopies (l:List AV):Nat→List AV
 |0=>[]
 |n+1=>l++acopies l n
section
variable {m:Env} {w:World} {A:AP} {P:Program}
theorem aplaces_ok (hA:A.Ok P):∀ (fs:List Field) (ps:List (Nat×Nat)),aplaces A fs=some ps→fs.mapM (fun f=>(P.info? f.type).map fun i=>(f.offset,i.size))=some ps
 |[],ps,h=>by simp only [aplaces,Option.some.injEq] at h;subst h;rfl
 |f::fs,ps,h=>by
  simp only [aplaces] at h
  split at h
  ·next i ps' h1 h2 =>
   cases h
   simp [hA.info _ _ h1,aplaces_ok hA fs ps' h2]
  ·cases h
theorem length_acopies (l:List AV):∀ n,(acopies l n).length=n * l.length
 |0=>by simp [acopies]
 |n+1=>by simp [acopies,length_acopies l n,Nat.add_mul,Nat.add_comm]
theorem get_acopies (l:List AV) (hl:0 < l.length):∀ (n i:Nat),i < n * l.length→(acopies l n)[i]?=l[i % l.length]?
 |0,i,h=>by simp at h
 |n+1,i,h=>by
  simp only [acopies]
  rcases Nat.lt_or_ge i l.length with h1 | h1
  ·rw [List.getElem?_append_left h1,Nat.mod_eq_of_lt h1]
  ·rw [Nat.add_mul] at h
   rw [List.getElem?_append_right h1,get_acopies l hl n _ (by omega),← Nat.mod_eq_sub_mod h1]
end
end Go.Am
namespace Go.Am
open Go.RowKit
def aidx (i:Int) (len:Nat):Option Nat :=
 match i with
 |.ofNat n=>match Nat.blt n len with
  |true=>some n
  |false=>none
 |.negSucc _=>none
theorem aidx_ok {i:Int} {len n:Nat} (h:aidx i len=some n):i=(n:Int)∧n < len:=by
 cases i with
 |negSucc k=>simp [aidx] at h
 |ofNat k =>
  simp only [aidx] at h
  cases hb:Nat.blt k len with
  |false=>simp [hb] at h
  |true =>
   simp only [hb,Option.some.injEq] at h
   subst h
   have hlt:k+1≤len:=by simpa [Nat.blt,Nat.ble_eq] using hb
   exact ⟨rfl,hlt⟩
def abound (x:Option AV) (dflt y:Nat):Option Nat :=
 match x with
 |none=>some dflt
 |some (.int _ i)=>aidx i (y+1)
 |some _=>none
def OVR (m:Env):Option AV→Option Value→Prop
 |none,v=>v=none
 |some a,v=>∃ x,v=some x∧VR m a x
section
variable {m:Env} {w:World} {A:AP} {P:Program}
theorem run_asIntOf (k:IntKind) (n:Int):(asIntOf (.int k n)).run P w=.ok (k,n) w:=rfl
theorem abound_ok {x:Option AV} {dflt y n:Nat} (h:abound x dflt y=some n) {v:Option Value} (hv:OVR m x v) :
  (v=none∧n=dflt)∨∃ u,v=some u∧n≤y∧∀ (z:Nat) code,n≤z→(Instr.sliceBound u z code).run P w=.ok n w:=by
 unfold abound at h
 split at h
 ·cases h
  exact .inl ⟨hv,rfl⟩
 ·next k i =>
  obtain ⟨hi,hlt⟩:=aidx_ok h
  simp only [OVR,VR] at hv
  obtain ⟨u,rfl,rfl⟩:=hv
  refine .inr ⟨_,rfl,by omega,fun z code hz=>?_⟩
  subst hi
  have hz':(n:Int)≤(z:Int):=by omega
  simp [Instr.sliceBound,run_asIntOf,hz']
 ·cases h
theorem run_sliceBounds {lo hi:Option AV} {lov hiv:Option Value} (isSl:Bool) {len cap y h l:Nat} (hh:abound hi len y=some h) (hl:abound lo 0 h=some l)
  (hlen:len≤cap) (hy:y≤cap) (hhv:OVR m hi hiv) (hlv:OVR m lo lov) :
  (Instr.sliceBounds isSl len cap lov hiv none).run P w=.ok (l,h,cap) w∧l≤h∧h≤cap:=by
 have h1:=abound_ok (P:=P) (w:=w) hh hhv
 have h2:=abound_ok (P:=P) (w:=w) hl hlv
 rcases h1 with ⟨rfl,rfl⟩ | ⟨u,rfl,hu1,hu2⟩
 ·rcases h2 with ⟨rfl,rfl⟩ | ⟨z,rfl,hz1,hz2⟩
  ·exact ⟨by simp [Instr.sliceBounds],by omega,hlen⟩
  ·exact ⟨by simp [Instr.sliceBounds,hz2 _ _ hz1],hz1,hlen⟩
 ·rcases h2 with ⟨rfl,rfl⟩ | ⟨z,rfl,hz1,hz2⟩
  ·exact ⟨by simp [Instr.sliceBounds,hu2 cap _ (by omega)],by omega,by omega⟩
  ·exact ⟨by simp [Instr.sliceBounds,hu2 cap _ (by omega),hz2 _ _ hz1],hz1,by omega⟩
end
end Go.Am
namespace Go.Am
open Go.RowKit
abbrev AEnt:=AV×AV×Nat
def acheckFs (A : AP) (chk : TypeId → AV → Bool) (cs : List AV) : List Field → Bool
 |[]=>true
 |f :: fs => match f.name != "_" with
  |true=>match apart A f.type cs f.offset with
   |some v=>match chk f.type v with
    |true=>acheckFs A chk cs fs
    |false=>false
   |none=>false
  |false=>acheckFs A chk cs fs
def acheckEs (A:AP) (chk:TypeId→AV→Bool) (cs:List AV) (e:TypeId) (sz:Nat):Nat→Nat→Bool
 |0,_=>true
 |k+1,i=>match apart A e cs (i * sz) with
  |some v=>match chk e v with
   |true=>acheckEs A chk cs e sz k (i+1)
   |false=>false
  |none=>false
def acheck (A:AP):Nat→TypeId→AV→Bool
 |0,_,_=>false
 |n+1,t,v=>match A.under t with
  |some (.int _)=>true
  |some .string=>true
  |some .bool=>true
  |some (.struct fs)=>match v with
   |.agg cs=>acheckFs A (acheck A n) cs fs.toList
   |_=>false
  |some (.array k e)=>match v,A.info e with
   |.agg cs,some ti=>acheckEs A (acheck A n) cs e ti.size k 0
   |_,_=>false
  |_=>false
mutual
def asame:Nat→AV→AV→Bool
 |_,.bool a,.bool b=>a == b
 |_,.int j a,.int k b=>decide (j=k) && a == b
 |_,.str a,.str b=>a == b
 |n+1,.agg a,.agg b=>asames n a b
 |_,_,_=>false
def asames:Nat→List AV→List AV→Bool
 |_,[],[]=>true
 |n+1,x::xs,y::ys=>asame n x y && asames n xs ys
 |_,_,_=>false
end
def asetAt:List AEnt→Nat→AV→AV→List AEnt
 |[],_,_,_=>[]
 |e::es,0,k,v=>(k,v,e.2.2)::es
 |e::es,i+1,k,v=>e::asetAt es i k v
section
variable {m:Env} {w:World} {A:AP} {P:Program} {E:Eqs} {B0:Prot} {w0:World} {H:Heap}
theorem acheck_ok (hA : A.Ok P) (em : Bool) : ∀ (n : Nat) t v x d, acheck A n t v = true → VR m v x → n ≤ d → (Instr.checkKey em d t x).run P w = .ok () w := by
 intro n
 induction n with
 |zero=>intro t v x d h;simp [acheck] at h
 |succ n ih =>
  intro t v x d h hv hd
  obtain ⟨d,rfl⟩:∃ k,d=k+1:=⟨d - 1,by omega⟩
  simp only [acheck] at h
  split at h
  ·next hu=>simp [Instr.checkKey,run_underlying (hA.under_ok hu)]
  ·next hu=>simp [Instr.checkKey,run_underlying (hA.under_ok hu)]
  ·next hu=>simp [Instr.checkKey,run_underlying (hA.under_ok hu)]
  ·next fs hu =>
   split at h
   ·next cs =>
    simp only [VR] at hv
    obtain ⟨xs,rfl,hv⟩:=hv
    simp only [Instr.checkKey,Sem.run_bind,run_underlying (hA.under_ok hu),Result.andThen_ok]
    rw [← Array.forIn_toList]
    generalize fs.toList=l at h
    clear hu
    induction l with
    |nil=>simp
    |cons f l ihl =>
     simp only [acheckFs] at h
     split at h
     ·next hf =>
      have hf' : f.name ≠ "_" := by simpa using hf
      split at h
      ·next v' hv' =>
       split at h
       ·next hcv =>
        obtain ⟨r,r1,r2⟩:=apart_ok (w:=w) hA hv' hv
        have h1:=ih f.type v' r d hcv r2 (by omega)
        have h2:=ihl h
        simp only [List.forIn_cons,Sem.run_bind,hf',ne_eq,not_false_eq_true,if_true,r1,h1,Result.andThen_ok,Sem.run_pure] at h2 ⊢
        exact h2
       ·cases h
      ·cases h
     ·next hf =>
      have hf' : f.name = "_" := by simpa using hf
      have h2:=ihl h
      simp only [List.forIn_cons,Sem.run_bind,hf',ne_eq,not_true_eq_false,if_false,Result.andThen_ok,Sem.run_pure] at h2 ⊢
      exact h2
   ·cases h
  ·next k e hu =>
   split at h
   case h_2=>cases h
   next cs ti hti =>
   simp only [VR] at hv
   obtain ⟨xs,rfl,hv⟩:=hv
   simp only [Instr.checkKey,Sem.run_bind,run_underlying (hA.under_ok hu),Result.andThen_ok]
   simp only [Std.Legacy.Range.forIn_eq_forIn_range',Std.Legacy.Range.size,Nat.sub_zero,Nat.add_one_sub_one,Nat.div_one]
   clear hu
   generalize 0=i at h ⊢
   induction k generalizing i with
   |zero=>simp
   |succ k ihk =>
    simp only [acheckEs] at h
    split at h
    case h_2=>cases h
    next v' hv' =>
    split at h
    case h_2=>cases h
    next hcv =>
    obtain ⟨r,r1,r2⟩:=apart_ok (w:=w) hA hv' hv
    have h1:=ih e v' r d hcv r2 (by omega)
    have h2:=ihk (i+1) h
    simp only [List.range'_succ,List.forIn_cons,Sem.run_bind,sizeOf,run_typeInfo' (hA.info _ _ hti),Sem.run_pure,r1,h1,Result.andThen_ok] at h2 ⊢
    exact h2
  ·cases h
theorem asame_ok:∀ n:Nat,(∀ x y xv yv d,asame n x y=true→VR m x xv→VR m y yv→n≤d→Instr.sameBits d xv yv=true) ∧
  (∀ xs ys (xl yl:List Value) d,asames n xs ys=true→VRs m xs xl→VRs m ys yl→n≤d→xl.length=yl.length∧(xl.zip yl).all (fun (x,y)=>Instr.sameBits d x y)=true):=by
 intro n
 induction n with
 |zero =>
  refine ⟨fun x y xv yv d h hx hy _=>?_,fun xs ys xl yl d h hx hy _=>?_⟩
  ·cases x<;>cases y<;>simp only [asame,Bool.false_eq_true] at h<;>simp only [VR] at hx hy<;>subst hx hy
   ·simpa [Instr.sameBits] using h
   ·simp only [Bool.and_eq_true,decide_eq_true_eq,beq_iff_eq] at h
    obtain ⟨rfl,rfl⟩:=h
    cases d<;>simp [Instr.sameBits]
   ·cases d<;>simpa [Instr.sameBits] using h
  ·cases xs<;>cases ys<;>simp only [asames,Bool.false_eq_true] at h
   simp only [VRs] at hx hy
   subst hx hy
   simp
 |succ n ih =>
  refine ⟨fun x y xv yv d h hx hy hd=>?_,fun xs ys xl yl d h hx hy hd=>?_⟩
  ·cases x<;>cases y<;>simp only [asame,Bool.false_eq_true] at h<;>simp only [VR] at hx hy
   ·subst hx hy
    simpa [Instr.sameBits] using h
   ·subst hx hy
    simp only [Bool.and_eq_true,decide_eq_true_eq,beq_iff_eq] at h
    obtain ⟨rfl,rfl⟩:=h
    cases d<;>simp [Instr.sameBits]
   ·subst hx hy
    cases d<;>simpa [Instr.sameBits] using h
   ·obtain ⟨xs,rfl,hx⟩:=hx
    obtain ⟨ys,rfl,hy⟩:=hy
    obtain ⟨d,rfl⟩:∃ k,d=k+1:=⟨d - 1,by omega⟩
    obtain ⟨h1,h2⟩:=ih.2 _ _ xs.toList ys.toList d h hx hy (by omega)
    simp only [Instr.sameBits,Bool.and_eq_true,beq_iff_eq]
    exact ⟨by simpa using h1,h2⟩
  ·cases xs<;>cases ys<;>simp only [asames,Bool.false_eq_true] at h
   ·simp only [VRs] at hx hy
    subst hx hy
    simp
   ·simp only [Bool.and_eq_true] at h
    simp only [VRs] at hx hy
    obtain ⟨x,xl',rfl,hx1,hx2⟩:=hx
    obtain ⟨y,yl',rfl,hy1,hy2⟩:=hy
    obtain ⟨h1,h2⟩:=ih.2 _ _ xl' yl' d h.2 hx2 hy2 (by omega)
    have h3:=ih.1 _ _ x y d h.1 hx1 hy1 (by omega)
    refine ⟨by simp [h1],?_⟩
    simp only [List.zip_cons_cons,List.all_cons,h3,h2,Bool.and_self]
end
end Go.Am
