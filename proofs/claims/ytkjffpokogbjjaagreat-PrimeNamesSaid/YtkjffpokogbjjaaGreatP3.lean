/- Parts of the proof: Am13, Am14, Am15, Am16, Am17, Am18 -/
import Derived.Test.YtkjffpokogbjjaaGreatP2
set_option linter.unusedVariables false
set_option linter.unusedSimpArgs false
set_option linter.unusedSectionVars false
namespace Go.Am
open Go.RowKit
section
variable {m:Env} {w:World} {A:AP} {P:Program} {E:Eqs} {B0:Prot} {w0:World} {H:Heap}
def FR (m:Env):Option (Nat×AV)→Option (Nat×Value)→Prop
 |none,r=>r=none
 |some (i,v),r=>∃ x,r=some (i,x)∧VR m v x
theorem findAsking_ok (hA:A.Ok P) (hE:E.Ok P) {kt:TypeId} {k:AV} {kv:Value} (hk:VR m k kv):∀ (es:List AEnt) (xs:List MapEntry) (i:Nat) (r:Option (Nat×AV)),afind A E kt k es i=some r→ER m es xs→∃ r',(Instr.findAsking kt kv xs i).run P w=.ok r' w∧FR m r r'
 |[],xs,i,r,h,he=>by
  simp only [afind,Option.some.injEq] at h
  simp only [ER] at he
  subst h he
  exact ⟨none,by simp [Instr.findAsking],rfl⟩
 |e::es,xs,i,r,h,he=>by
  simp only [ER] at he
  obtain ⟨y,ys,rfl,e1,e2,_,e4⟩:=he
  simp only [afind] at h
  split at h
  ·next hq =>
   cases h
   have:=(aeq_ok (w:=w) hA hE 20).1 _ _ _ _ _ _ 10000 hq hk e1 (by omega)
   exact ⟨some (i,y.val),by simp [Instr.findAsking,Op.equal,Op.maxDepth,this],y.val,rfl,e2⟩
  ·next hq =>
   have:=(aeq_ok (w:=w) hA hE 20).1 _ _ _ _ _ _ 10000 hq hk e1 (by omega)
   obtain ⟨r',r1,r2⟩:=findAsking_ok hA hE hk es ys (i+1) r h e4
   exact ⟨r',by simp [Instr.findAsking,Op.equal,Op.maxDepth,this,r1],r2⟩
  ·cases h
theorem sameNow_ok {kind:TypeDesc} {x y:AV} {n:Nat} {kt:TypeId} {b b':Bool} {xv yv:Value} (hx:VR m x xv) (hy:VR m y yv)
  (h:aeqv A E (n+1) kt x y=some b) (hs:Instr.sameNow kind xv yv=some b'):b=b':=by
 cases x<;>cases y<;>simp only [aeqv,reduceCtorEq] at h
 case bool.bool p q =>
  simp only [VR] at hx hy
  subst hx hy
  split at h
  ·cases h
   unfold Instr.sameNow at hs
   split at hs<;>first
    |(cases hs;done)
    |(rename_i h1 h2;cases h1;cases h2;cases hs;rfl)
    |(rename_i h1 h2;cases h1)
  ·cases h
 case int.int k p k' q =>
  simp only [VR] at hx hy
  subst hx hy
  split at h
  ·split at h
   ·next hk =>
    simp only [decide_eq_true_eq] at hk
    subst hk
    cases h
    unfold Instr.sameNow at hs
    split at hs<;>first
     |(cases hs;done)
     |(rename_i h1 h2;cases h1;cases h2;simp at hs;subst hs;rfl)
     |(rename_i h1 h2;cases h1)
   ·cases h
  ·cases h
 case str.str p q =>
  simp only [VR] at hx hy
  subst hx hy
  split at h
  ·cases h
   unfold Instr.sameNow at hs
   split at hs<;>first
    |(cases hs;done)
    |(rename_i h1 h2;cases h1;cases h2;cases hs;exact (beq_toListBytes _ _).symm)
    |(rename_i h1 h2;cases h1)
  ·cases h
 case agg.agg xs ys =>
  simp only [VR] at hx hy
  obtain ⟨xs',rfl,_⟩:=hx
  obtain ⟨ys',rfl,_⟩:=hy
  simp [Instr.sameNow] at hs
theorem findNow_ok {kind:TypeDesc} {kt:TypeId} {k:AV} {kv:Value} (hk:VR m k kv):∀ (es:List AEnt) (xs:List MapEntry) (i:Nat) (r:Option (Nat×AV)) (r':Option (Nat×Value)),afind A E kt k es i=some r→ER m es xs→Instr.findNow kind kv xs i=some r'→FR m r r'
 |[],xs,i,r,r',h,he,hn=>by
  simp only [afind,Option.some.injEq] at h
  simp only [ER] at he
  subst h he
  simp only [Instr.findNow,Option.some.injEq] at hn
  exact hn.symm
 |e :: es, xs, i, r, r', h, he, hn => by
  simp only [ER] at he
  obtain ⟨y,ys,rfl,e1,e2,_,e4⟩:=he
  simp only [Instr.findNow] at hn
  simp only [afind] at h
  split at h
  ·next hq =>
   cases h
   split at hn
   ·cases hn
    exact ⟨y.val,rfl,e2⟩
   ·next hs=>exact absurd (sameNow_ok hk e1 hq hs) (by simp)
   ·cases hn
  ·next hq =>
   split at hn
   ·next hs=>exact absurd (sameNow_ok hk e1 hq hs) (by simp)
   ·exact findNow_ok hk es ys (i+1) r r' h e4 hn
   ·cases hn
  ·cases h
theorem findKey_ok (hA:A.Ok P) (hE:E.Ok P) {kt:TypeId} {d:TypeDesc} (hu:A.under kt=some d) {k:AV} {kv:Value} (hk:VR m k kv) {es:List AEnt} {xs:List MapEntry} {r:Option (Nat×AV)}
  (h:afind A E kt k es 0=some r) (he:ER m es xs):∃ r',(Instr.findKey kt kv xs).run P w=.ok r' w∧FR m r r':=by
 simp only [Instr.findKey,Sem.run_bind,run_underlying (hA.under_ok hu),Result.andThen_ok]
 cases hn:Instr.findNow d kv xs 0 with
 |some r'=>exact ⟨r',rfl,findNow_ok hk es xs 0 r r' h he hn⟩
 |none=>exact findAsking_ok hA hE hk es xs 0 r h he
theorem acheck_under {n:Nat} {t:TypeId} {v:AV} (h:acheck A n t v=true):∃ d,A.under t=some d:=by
 cases n with
 |zero=>simp [acheck] at h
 |succ n =>
  simp only [acheck] at h
  cases hu:A.under t with
  |none=>simp [hu] at h
  |some d=>exact ⟨d,rfl⟩
theorem alookup_ok (hA:A.Ok P) (hE:E.Ok P) (h:HR B0 w0 m H w) {t:TypeId} {x k v:AV} {ok:Bool} (hl:alookup A E H t x k ok=some v) {xv kv:Value} (hx:VR m x xv) (hk:VR m k kv) :
  ∃ r,(Instr.lookup t xv kv ok).run P w=.ok r w∧VR m v r:=by
 unfold alookup at hl
 split at hl
 case h_2=>cases hl
 next kt et hu =>
 simp only [] at hl
 split at hl
 case h_2=>cases hl
 next es hes =>
 obtain ⟨arr,harr,hER⟩:∃ arr:Array MapEntry,((xv=.map none∧arr=#[])∨∃ l clock,xv=.map (some l)∧(getObj l).run P w=.ok (.map arr clock) w)∧ER m es arr.toList:=by
  split at hes
  ·cases hes
   simp only [VR] at hx
   subst hx
   exact ⟨#[],.inl ⟨rfl,rfl⟩,rfl⟩
  ·next a =>
   split at hes
   ·next es' clock hb =>
    cases hes
    simp only [VR] at hx
    obtain ⟨l,hl,rfl⟩:=hx
    obtain ⟨l',h1,arr,h2,h3⟩:=h.blk a _ hb
    rw [hl] at h1
    cases h1
    exact ⟨arr,.inr ⟨l.blk,clock,rfl,by simp [getObj,Sem.run,h2]⟩,h3⟩
   ·cases hes
  ·cases hes
 split at hl
 case h_2=>cases hl
 next hc =>
 split at hl
 case h_2=>cases hl
 next r hr =>
 split at hl
 case h_2=>cases hl
 next v' b hv =>
 obtain ⟨d,hd⟩:=acheck_under hc
 obtain ⟨r',r1,r2⟩:=findKey_ok (w:=w) hA hE hd hk hr hER
 have hck:=acheck_ok (w:=w) hA arr.isEmpty 20 kt k kv 10000 hc hk (by omega)
 have fin:∀ y,VR m v' y→VR m v (if ok then .tuple #[y,.bool b] else y):=by
  intro y hy
  cases hl
  cases ok
  ·exact hy
  ·simp only [if_true,VR]
   refine ⟨_,rfl,?_⟩
   simp only [VRs,VR]
   exact ⟨_,_,rfl,hy,_,_,rfl,rfl,rfl⟩
 have hu':=hA.under_ok hu
 split at hv
 ·next i u =>
  cases hv
  obtain ⟨z,rfl,hz⟩:=r2
  refine ⟨_,?_,fin z hz⟩
  rcases harr with ⟨rfl,rfl⟩ | ⟨l,clock,rfl,hg⟩
  ·simp only [Array.isEmpty_empty] at hck
   simp [Instr.lookup,run_underlying hu',hck]
   simp at r1
   simp [r1]
  ·simp [Instr.lookup,run_underlying hu',hg,hck,r1]
 ·simp only [FR] at r2
  subst r2
  split at hv
  case h_2=>cases hv
  next ti hti =>
  split at hv
  case h_2=>cases hv
  next z hz =>
  split at hv
  case h_2=>cases hv
  next z' hz' =>
  cases hv
  refine ⟨_,?_,fin z (ofValue_ok hz')⟩
  rcases harr with ⟨rfl,rfl⟩ | ⟨l,clock,rfl,hg⟩
  ·simp only [Array.isEmpty_empty] at hck
   simp [Instr.lookup,run_underlying hu',hck]
   simp at r1
   simp [r1,zeroValue,run_typeInfo' (hA.info _ _ hti),hz]
  ·simp [Instr.lookup,run_underlying hu',hg,hck,r1,zeroValue,run_typeInfo' (hA.info _ _ hti),hz]
theorem ER.get {es:List AEnt} {xs:List MapEntry} (h:ER m es xs):∀ (i:Nat) e,es[i]?=some e→∃ y,xs[i]?=some y∧VR m e.1 y.key∧VR m e.2.1 y.val:=by
 induction es generalizing xs with
 |nil=>intro i e hi;simp at hi
 |cons a as ih =>
  intro i e hi
  simp only [ER] at h
  obtain ⟨y,ys,rfl,h1,h2,_,h4⟩:=h
  cases i with
  |zero=>simp at hi;subst hi;exact ⟨y,rfl,h1,h2⟩
  |succ i=>simp at hi ⊢;exact ih h4 i e hi
theorem ER.setAt {es:List AEnt} {xs:List MapEntry} (h:ER m es xs) {k v:AV} {kv vv:Value} (hk:VR m k kv) (hv:VR m v vv) :
  ∀ (i:Nat),ER m (asetAt es i k v) (xs.modify i fun e=>{ e with key:=kv,val:=vv }):=by
 induction es generalizing xs with
 |nil=>intro i;simp only [ER] at h;subst h;simp [asetAt,ER]
 |cons a as ih =>
  intro i
  simp only [ER] at h
  obtain ⟨y,ys,rfl,h1,h2,h3,h4⟩:=h
  cases i with
  |zero =>
   simp only [asetAt,List.modify_zero_cons,ER]
   exact ⟨_,_,rfl,hk,hv,h3,h4⟩
  |succ i =>
   simp only [asetAt,List.modify_succ_cons,ER]
   exact ⟨_,_,rfl,h1,h2,h3,ih h4 i⟩
theorem ER.snoc {es:List AEnt} {xs:List MapEntry} (h:ER m es xs) {k v:AV} {kv vv:Value} (hk:VR m k kv) (hv:VR m v vv) (b:Nat) :
  ER m (es++[(k,v,b)]) (xs++[{ key:=kv,val:=vv,born:=b }]):=by
 induction es generalizing xs with
 |nil=>simp only [ER] at h;subst h;simp only [List.nil_append,ER];exact ⟨_,_,rfl,hk,hv,rfl,rfl⟩
 |cons a as ih =>
  simp only [ER] at h
  obtain ⟨y,ys,rfl,h1,h2,h3,h4⟩:=h
  simp only [List.cons_append,ER]
  exact ⟨_,_,rfl,h1,h2,h3,ih h4⟩
theorem HR.setObj (h:HR B0 w0 m H w) {a:Nat} {b b':ABlk} (hb:H.blks.get a=some b) (hnb:∀ t f n c,b≠.cells t f n c) (hnb':∀ t f n c,b'≠.cells t f n c) {l:Loc} (hl:m a=some l) {o':Obj}
  (hbr:BR m b' l (some o')):HR B0 w0 m { H with blks:=H.blks.set a b' } { w with heap:=w.heap.setIfInBounds l.blk o' }:=by
 refine h.upd hb hl (h.live a b l hb hl) (upd_setIf w l.blk o' (h.inb a l hl)) hbr rfl (by rw [T.get_set];simp) ?_ ?_
 ·intro x bx hxa hx
  simp only [T.get_set,hxa,if_false] at hx
  refine ⟨hx,fun l' hl' e=>?_⟩
  rcases h.sep x a bx b l' l hx hb hl' hl e with e1 | ⟨t,f,n,c,t',n',c',e1,e2,_⟩
  ·exact hxa e1
  ·exact hnb _ _ _ _ e2
 ·intro x t f n c hx
  by_cases hxa:x=a
  ·subst hxa
   simp only [T.get_set,if_true,Option.some.injEq] at hx
   exact absurd hx (hnb' _ _ _ _)
  ·simp only [T.get_set,hxa,if_false] at hx
   exact h.fam x t f n c hx
theorem amapUpdate_ok (hA:A.Ok P) (hE:E.Ok P) (h:HR B0 w0 m H w) {t:TypeId} {x k v:AV} {H':Heap} (hl:amapUpdate A E H t x k v=some H') {xv kv vv:Value} (hx:VR m x xv) (hk:VR m k kv) (hv:VR m v vv) :
  ∃ w',(Instr.mapUpdate t xv kv vv).run P w=.ok () w'∧HR B0 w0 m H' w':=by
 unfold amapUpdate at hl
 split at hl
 case h_2=>cases hl
 next kt et a hu =>
 split at hl
 case h_2=>cases hl
 next es clock hb =>
 split at hl
 case h_2=>cases hl
 next hc =>
 simp only [VR] at hx
 obtain ⟨l,hm,rfl⟩:=hx
 obtain ⟨l',h1,arr,h2,h3⟩:=h.blk a _ hb
 rw [hm] at h1
 cases h1
 have hck:=acheck_ok (w:=w) hA false 20 kt k kv 10000 hc hk (by omega)
 obtain ⟨d,hd⟩:=acheck_under hc
 have hget:(getObj l.blk).run P w=.ok (.map arr clock) w:=by simp [getObj,Sem.run,h2]
 have hset:∀ o',(setObj l.blk o').run P w=.ok () { w with heap:=w.heap.setIfInBounds l.blk o' }:=fun o'=>by simp [setObj,Sem.run,h2]
 split at hl
 ·next i u hf =>
  split at hl
  case h_2=>cases hl
  next e he =>
  split at hl
  case h_2=>cases hl
  next hs =>
  cases hl
  obtain ⟨r',r1,r2⟩:=findKey_ok (w:=w) hA hE hd hk hf h3
  obtain ⟨z,rfl,hz⟩:=r2
  obtain ⟨y,y1,y2,y3⟩:=h3.get i e he
  have hsb:=(asame_ok 20).1 _ _ _ _ 10000 hs y2 hk (by omega)
  have hy1:arr[i]?=some y:=by simpa using y1
  refine ⟨_,?_,h.setObj (b':=.map (asetAt es i k v) clock) hb (by simp) (by simp) hm (o':=.map (arr.modify i fun e=>{ e with key:=kv,val:=vv }) clock) ⟨_,rfl,?_⟩⟩
  ·simp [Instr.mapUpdate,run_underlying (hA.under_ok hu),hget,hck,r1,Instr.keyThatStays,hy1,hsb,hset]
  ·have:=h3.setAt hk hv i
   simpa using this
 ·next hf =>
  cases hl
  obtain ⟨r',r1,r2⟩:=findKey_ok (w:=w) hA hE hd hk hf h3
  simp only [FR] at r2
  subst r2
  refine ⟨_,?_,h.setObj (b':=.map (es++[(k,v,clock)]) (clock+1)) hb (by simp) (by simp) hm (o':=.map (arr.push { key:=kv,val:=vv,born:=clock }) (clock+1)) ⟨_,rfl,?_⟩⟩
  ·simp [Instr.mapUpdate,run_underlying (hA.under_ok hu),hget,hck,r1,hset]
  ·have:=h3.snoc hk hv clock
   simpa using this
 ·cases hl
theorem ER.setKey {es:List AEnt} {xs:List MapEntry} (h:ER m es xs) {k:AV} {kv:Value} (hk:VR m k kv) :
  ∀ (i:Nat),ER m (asetKey es i k) (xs.modify i fun e=>{ e with key:=kv }):=by
 induction es generalizing xs with
 |nil=>intro i;simp only [ER] at h;subst h;simp [asetKey,ER]
 |cons a as ih =>
  intro i
  simp only [ER] at h
  obtain ⟨y,ys,rfl,h1,h2,h3,h4⟩:=h
  cases i with
  |zero =>
   simp only [asetKey,List.modify_zero_cons,ER]
   exact ⟨_,_,rfl,hk,h2,h3,h4⟩
  |succ i =>
   simp only [asetKey,List.modify_succ_cons,ER]
   exact ⟨_,_,rfl,h1,h2,h3,ih h4 i⟩
theorem ER.setVal {es:List AEnt} {xs:List MapEntry} (h:ER m es xs) {v:AV} {vv:Value} (hv:VR m v vv) :
  ∀ (i:Nat),ER m (asetVal es i v) (xs.modify i fun e=>{ e with val:=vv }):=by
 induction es generalizing xs with
 |nil=>intro i;simp only [ER] at h;subst h;simp [asetVal,ER]
 |cons a as ih =>
  intro i
  simp only [ER] at h
  obtain ⟨y,ys,rfl,h1,h2,h3,h4⟩:=h
  cases i with
  |zero =>
   simp only [asetVal,List.modify_zero_cons,ER]
   exact ⟨_,_,rfl,h1,hv,h3,h4⟩
  |succ i =>
   simp only [asetVal,List.modify_succ_cons,ER]
   exact ⟨_,_,rfl,h1,h2,h3,ih h4 i⟩
theorem ER.born {es:List AEnt} {xs:List MapEntry} (h:ER m es xs):∀ (i:Nat) e,es[i]?=some e→∃ y,xs[i]?=some y∧VR m e.1 y.key∧e.2.2=y.born:=by
 induction es generalizing xs with
 |nil=>intro i e hi;simp at hi
 |cons a as ih =>
  intro i e hi
  simp only [ER] at h
  obtain ⟨y,ys,rfl,h1,_,h3,h4⟩:=h
  cases i with
  |zero=>simp at hi;subst hi;exact ⟨y,rfl,h1,h3⟩
  |succ i=>simp at hi ⊢;exact ih h4 i e hi
theorem ER.bornAt {es:List AEnt} {xs:List MapEntry} (h:ER m es xs) {n:Int}:∀ {i j:Nat},abornAt es n j=some i→∃ k,i=j+k∧xs.findIdx? (fun e=>(e.born:Int) == n)=some k:=by
 induction es generalizing xs with
 |nil=>intro i j hi;simp [abornAt] at hi
 |cons a as ih =>
  intro i j hi
  simp only [ER] at h
  obtain ⟨y,ys,rfl,h1,_,h3,h4⟩:=h
  simp only [abornAt] at hi
  split at hi
  ·next hd =>
   cases hi
   have hd:=of_decide_eq_true hd
   refine ⟨0,rfl,?_⟩
   rw [h3] at hd
   simp [List.findIdx?_cons,hd]
  ·next hd =>
   have hd:=of_decide_eq_false hd
   obtain ⟨k,k1,k2⟩:=ih h4 hi
   refine ⟨k+1,by omega,?_⟩
   rw [h3] at hd
   simp [List.findIdx?_cons,hd,k2]
theorem amapEntry_ok (hA:A.Ok P) (hE:E.Ok P) (h:HR B0 w0 m H w) {t:TypeId} {x k v:AV} {H':Heap} (hl:amapEntry A E H t x k=some (v,H')) {xv kv:Value} (hx:VR m x xv) (hk:VR m k kv) :
  ∃ r w',(Instr.mapEntry t xv kv).run P w=.ok r w'∧VR m v r∧HR B0 w0 m H' w':=by
 unfold amapEntry at hl
 split at hl
 case h_2=>cases hl
 next kt et a hu =>
 split at hl
 case h_2=>cases hl
 next es clock hb =>
 split at hl
 case h_2=>cases hl
 next hc =>
 simp only [VR] at hx
 obtain ⟨l,hm,rfl⟩:=hx
 obtain ⟨l',h1,arr,h2,h3⟩:=h.blk a _ hb
 rw [hm] at h1
 cases h1
 have hck:=acheck_ok (w:=w) hA false 20 kt k kv 10000 hc hk (by omega)
 obtain ⟨d,hd⟩:=acheck_under hc
 have hget:(getObj l.blk).run P w=.ok (.map arr clock) w:=by simp [getObj,Sem.run,h2]
 have hset:∀ o',(setObj l.blk o').run P w=.ok () { w with heap:=w.heap.setIfInBounds l.blk o' }:=fun o'=>by simp [setObj,Sem.run,h2]
 have two:∀ (u:AV) (z:Value) (n:Nat),VR m u z→VR m (.tup [u,.int .i64 (.ofNat n)]) (.tuple #[z,goInt n]):=by
  intro u z n hz
  simp only [VR]
  refine ⟨_,rfl,?_⟩
  simp only [VRs,VR]
  exact ⟨_,_,rfl,hz,_,_,rfl,rfl,rfl⟩
 split at hl
 ·next i u hf =>
  split at hl
  case h_2=>cases hl
  next e he =>
  split at hl
  case h_2=>cases hl
  next hs =>
  cases hl
  obtain ⟨r',r1,r2⟩:=findKey_ok (w:=w) hA hE hd hk hf h3
  obtain ⟨z,rfl,hz⟩:=r2
  obtain ⟨y,y1,y2,y3⟩:=h3.born i e he
  have hsb:=(asame_ok 20).1 _ _ _ _ 10000 hs y2 hk (by omega)
  have hy1:arr[i]?=some y:=by simpa using y1
  refine ⟨.tuple #[z,goInt y.born],_,?_,by rw [y3];exact two u z y.born hz,h.setObj (b':=.map (asetKey es i k) clock) hb (by simp) (by simp) hm (o':=.map (arr.modify i fun e=>{ e with key:=kv }) clock) ⟨_,rfl,?_⟩⟩
  ·simp [Instr.mapEntry,run_underlying (hA.under_ok hu),hget,hck,r1,Instr.keyThatStays,hy1,hsb,hset]
  ·have:=h3.setKey hk i
   simpa using this
 ·next hf =>
  split at hl
  case h_2=>cases hl
  next z hz =>
  cases hl
  obtain ⟨r',r1,r2⟩:=findKey_ok (w:=w) hA hE hd hk hf h3
  simp only [FR] at r2
  subst r2
  unfold azeroOf at hz
  split at hz
  case h_2=>cases hz
  next ti hti =>
  split at hz
  case h_2=>cases hz
  next zv hzv =>
  refine ⟨.tuple #[zv,goInt clock],_,?_,two z zv clock (ofValue_ok hz),h.setObj (b':=.map (es++[(k,z,clock)]) (clock+1)) hb (by simp) (by simp) hm (o':=.map (arr.push { key:=kv,val:=zv,born:=clock }) (clock+1)) ⟨_,rfl,?_⟩⟩
  ·simp [Instr.mapEntry,run_underlying (hA.under_ok hu),hget,hck,r1,hset,zeroValue,run_typeInfo' (hA.info _ _ hti),hzv]
  ·have:=h3.snoc hk (ofValue_ok (m:=m) hz) clock
   simpa using this
 ·cases hl
theorem aentryStore_ok (h:HR B0 w0 m H w) {t:TypeId} {x s v:AV} {H':Heap} (hl:aentryStore H x s v=some H') {xv sv vv:Value} (hx:VR m x xv) (hs:VR m s sv) (hv:VR m v vv) :
  ∃ w',(Instr.entryStore t xv sv vv).run P w=.ok () w'∧HR B0 w0 m H' w':=by
 unfold aentryStore at hl
 split at hl
 case h_2=>cases hl
 next a kk n =>
 split at hl
 case h_2=>cases hl
 next es clock hb =>
 split at hl
 case h_2=>cases hl
 next i hi =>
 cases hl
 simp only [VR] at hx hs
 obtain ⟨l,hm,rfl⟩:=hx
 subst hs
 obtain ⟨l',h1,arr,h2,h3⟩:=h.blk a _ hb
 rw [hm] at h1
 cases h1
 obtain ⟨k,rfl,hk⟩:=h3.bornAt hi
 have hget:(getObj l.blk).run P w=.ok (.map arr clock) w:=by simp [getObj,Sem.run,h2]
 have hset:∀ o',(setObj l.blk o').run P w=.ok () { w with heap:=w.heap.setIfInBounds l.blk o' }:=fun o'=>by simp [setObj,Sem.run,h2]
 have hk':arr.findIdx? (fun e=>(e.born:Int) == n)=some k:=by
  obtain ⟨ls⟩:=arr
  rw [List.findIdx?_toArray]
  exact hk
 refine ⟨_,?_,h.setObj (b':=.map (asetVal es (0+k) v) clock) hb (by simp) (by simp) hm (o':=.map (arr.modify k fun e=>{ e with val:=vv }) clock) ⟨_,rfl,?_⟩⟩
 ·simp [Instr.entryStore,hget,run_asIntOf,asInt,hk',hset]
 ·have:=h3.setVal hv k
  rw [Nat.zero_add]
  simpa using this
end
end Go.Am
namespace Go.Am
open Go.RowKit
def anat:AV→Option Nat
 |.int _ (.ofNat n)=>some n
 |_=>none
def azeros (A:AP) (e:TypeId) (n:Nat):Option (List AV) :=
 match A.info e with
 |some ie=>match ie.zero with
  |some z=>match z.cells.size == ie.size && Nat.ble 1 ie.size,ofCells z.cells.toList with
   |true,some cs=>some (acopies cs n)
   |_,_=>none
  |none=>none
 |none=>none
def amakeSlice (A:AP) (H:Heap) (t:TypeId) (len cap:AV):Option (AV×Heap) :=
 match A.under t,anat len,anat cap with
 |some (.slice e),some l,some c=>match A.info e,azeros A e c with
  |some ie,some zs=>match Nat.ble l c && Nat.ble c 1000000000 && Nat.ble (ie.bytes * c) 140737488355328 with
   |true=>some (.sl H.next 0 l (.ex c),H.newB e zs)
   |false=>none
  |_,_=>none
 |_,_,_=>none
def alen (A:AP) (H:Heap) (t:TypeId) (x:AV):Option AV :=
 match A.under t,x with
 |some .string,.str s=>some (.int .i64 s.size)
 |some (.slice _),.sl _ _ n _=>some (.int .i64 n)
 |some (.slice _),.nilsl=>some (.int .i64 0)
 |some (.array n _),_=>some (.int .i64 n)
 |some (.map _ _),.nilmap=>some (.int .i64 0)
 |some (.map _ _),.map a=>match H.blks.get a with
  |some (.map es _)=>some (.int .i64 es.length)
  |_=>none
 |_,_=>none
def acopy (A : AP) (H : Heap) (t : TypeId) (d s : AV) : Option (AV × Heap) :=
 match A.under t with
 |some (.slice e)=>match A.info e with
  |some ie=>match d,s with
   |.nilsl,.nilsl=>some (.int .i64 0,H)
   |.nilsl,.sl _ _ _ _=>some (.int .i64 0,H)
   |.sl _ _ _ _,.nilsl=>some (.int .i64 0,H)
   |.sl a o dl _,.sl b p sl _=>match Nat.min sl dl with
    |0=>some (.int .i64 0,H)
    |n+1=>match H.cellsAt b p ((n+1) * ie.size) with
     |some vs=>match H.puts a o vs with
      |some H'=>some (.int .i64 (n+1:Nat),H')
      |none=>none
     |none=>none
   |_,_=>none
  |none=>none
 |_=>none
def aclear (A : AP) (H : Heap) (t : TypeId) (x : AV) : Option (AV × Heap) :=
 match A.under t,x with
 |some (.slice _),.nilsl=>some (.tup [],H)
 |some (.slice e),.sl a o n _=>match n with
  |0=>some (.tup [],H)
  |_+1=>match azeros A e n with
   |some zs=>match H.puts a o zs with
    |some H'=>some (.tup [],H')
    |none=>none
   |none=>none
 |_,_=>none
def aminmax (mx:Bool):AV→List AV→Option AV
 |x,[]=>some x
 |.int k a,.int k' b::l=>match decide (k=k') with
  |true=>match mx with
   |false=>aminmax mx (.int k (if b < a then b else a)) l
   |true=>aminmax mx (.int k (if b > a then b else a)) l
  |false=>none
 |_,_=>none
def amakeInterface (A:AP) (t:TypeId) (x:AV):Option AV :=
 match A.under t with
 |some (.interface _)=>none
 |some _=>some (.ifc t x)
 |none=>none
def atypeAssert (A : AP) (x : AV) (asserted : TypeId) (ok : Bool) : Option AV :=
 match A.under asserted with
 |some (.interface _)=>none
 |none=>none
 |some _=>match x with
  |.ifc t v=>match Nat.beq t asserted with
   |true=>some (match ok with
    |true=>.tup [v,.bool true]
    |false=>v)
   |false=>match ok,A.info asserted with
    |true,some ti=>match ti.zero with
     |some z=>match ofValue z with
      |some z=>some (.tup [z,.bool false])
      |none=>none
     |none=>none
    |_,_=>none
  |.nilifc=>match ok,A.info asserted with
   |true,some ti=>match ti.zero with
    |some z=>match ofValue z with
     |some z=>some (.tup [z,.bool false])
     |none=>none
    |none=>none
   |_,_=>none
  |_=>none
section
variable {m:Env} {w:World} {A:AP} {P:Program} {E:Eqs} {B0:Prot} {w0:World} {H:Heap}
theorem anat_ok {v:AV} {n:Nat} (h:anat v=some n) {x:Value} (hx:VR m v x):∃ k,x=.int k (n:Int):=by
 unfold anat at h
 split at h
 ·cases h
  simp only [VR] at hx
  exact ⟨_,hx⟩
 ·cases h
theorem azeros_ok (hA:A.Ok P) {e:TypeId} {n:Nat} {zs:List AV} (h:azeros A e n=some zs) :
  ∃ ie z,A.info e=some ie∧P.info? e=some ie∧ie.zero=some z∧z.cells.size=ie.size∧1≤ie.size∧zs.length=n * ie.size ∧
   VRs m zs ((Array.range (n * ie.size)).map (z.cells[· % z.cells.size]!)).toList:=by
 unfold azeros at h
 split at h
 case h_2=>cases h
 next ie hie =>
 split at h
 case h_2=>cases h
 next z hz =>
 split at h
 case h_2=>cases h
 next cs hb hcs =>
 cases h
 simp only [Bool.and_eq_true,beq_iff_eq,Nat.ble_eq] at hb
 obtain ⟨hb1,hb2⟩:=hb
 have hc0:=ofCells_ok (m:=m) hcs
 have hcl:z.cells.size=cs.length:=by simpa using hc0.length
 refine ⟨ie,z,hie,hA.info _ _ hie,hz,hb1,hb2,by rw [length_acopies,← hcl,hb1],?_⟩
 refine VRs.of_get (by rw [length_acopies];simp;rw [← hcl,hb1]) fun i a y ha hy=>?_
 have hlt:i < n * cs.length:=by
  have:=(List.getElem?_eq_some_iff.1 ha).1
  rwa [length_acopies] at this
 rw [get_acopies cs (by omega) _ _ hlt] at ha
 obtain ⟨u,u1,u2⟩:=hc0.get ha
 have hmod:i % cs.length < z.cells.size:=by rw [hcl];exact Nat.mod_lt _ (by omega)
 have hlt':i < n * ie.size:=by rw [← hb1,hcl];exact hlt
 simp [hlt'] at hy
 rw [hcl] at hy
 rw [Array.getElem?_toList] at u1
 rw [← hy,getElem!_pos z.cells _ hmod]
 rw [Array.getElem?_eq_getElem hmod] at u1
 cases u1
 exact u2
theorem amakeSlice_ok (hA:A.Ok P) (h:HR B0 w0 m H w) {t:TypeId} {len cap v:AV} {H':Heap} (e:amakeSlice A H t len cap=some (v,H')) {lv cv:Value} (hl:VR m len lv) (hc:VR m cap cv) :
  ∃ r m' w',(Instr.makeSlice t lv cv).run P w=.ok r w'∧m.le m'∧VR m' v r∧HR B0 w0 m' H' w':=by
 unfold amakeSlice at e
 split at e
 case h_2=>cases e
 next el l c hu hln hcn =>
 split at e
 case h_2=>cases e
 next ie zs hie hzs =>
 split at e
 case h_2=>cases e
 next hb =>
 cases e
 simp only [Bool.and_eq_true,Nat.ble_eq] at hb
 obtain ⟨⟨hb1,hb2⟩,hb3⟩:=hb
 obtain ⟨k1,rfl⟩:=anat_ok hln hl
 obtain ⟨k2,rfl⟩:=anat_ok hcn hc
 obtain ⟨ie',z,z0,z1,z2,z3,z4,z5,z6⟩:=azeros_ok (m:=m) hA hzs
 rw [hie] at z0
 cases z0
 have hn:=h.newB_of el (rest:=[]) z6
 have wl:IntKind.i64.wrap (l:Int)=(l:Int):=wrap_in _ (by omega) (by omega)
 have wc:IntKind.i64.wrap (c:Int)=(c:Int):=wrap_in _ (by omega) (by omega)
 have hbig:¬ ((ie.bytes:Int) * (c:Int) > 2 ^ 48):=by
  have e1:((ie.bytes:Int) * (c:Int))=((ie.bytes * c:Nat):Int):=by simp
  rw [e1]
  have:(2:Int) ^ 48=281474976710656:=rfl
  omega
 have hbig':¬ ((2:Int) ^ 48 < (ie.bytes:Int) * (c:Int)):=hbig
 have hlc:¬ ((c:Int) < (l:Int)):=by omega
 have hne:¬ (c * ie.size=0∧False):=by simp
 refine ⟨.slice (some ⟨w.heap.size,0,none⟩) l c,_,_,?_,h.le_ext _,?_,hn⟩
 ·by_cases hc0:c=0
  ·subst hc0
   have e0:∀ (f:Nat→Value),Array.map f (Array.range 0)=#[]:=fun f=>by simp [Array.range]
   have hl0:l=0:=by omega
   subst hl0
   have w0':IntKind.i64.wrap 0=0:=by simpa using wl
   simp [Instr.makeSlice,run_underlying (hA.under_ok hu),asInt,asIntOf,run_typeInfo' z1,w0',sizeOf,newRow,e0]
  ·have hcs:¬ (c * ie.size=0):=by
    have:1 * 1≤c * ie.size:=Nat.mul_le_mul (by omega) z4
    omega
   have hcs':¬ (c=0∨ie.size=0):=by omega
   have hcond:¬ (((c:Int) < 0∨281474976710656 < (ie.bytes:Int) * (c:Int))∨(l:Int) < 0):=by
    have:(2:Int) ^ 48=281474976710656:=rfl
    omega
   simp [Instr.makeSlice,run_underlying (hA.under_ok hu),asInt,asIntOf,run_typeInfo' z1,wl,wc,hlc,sizeOf,hcs,zeroValue,z2,newRow]
   rw [if_neg hcond]
   have hsz:¬ ie.size=0:=by omega
   simp [hc0,hsz]
   congr 2
   apply Array.ext'
   simp
 ·simp only [VR]
  exact ⟨_,_,c,Env.ext_self _ _ _,rfl,hb1,rfl,by simp⟩
theorem ER.length {es:List AEnt} {xs:List MapEntry} (h:ER m es xs):xs.length=es.length:=by
 induction es generalizing xs with
 |nil=>simp only [ER] at h;subst h;rfl
 |cons a as ih =>
  simp only [ER] at h
  obtain ⟨y,ys,rfl,_,_,_,h4⟩:=h
  simp [ih h4]
theorem alen_ok (hA:A.Ok P) (h:HR B0 w0 m H w) {t ty:TypeId} {x v:AV} (e:alen A H t x=some v) {xv:Value} (hx:VR m x xv) :
  ∃ r,(Builtin.len_ #[t] ty #[xv]).run P w=.ok r w∧VR m v r:=by
 unfold alen at e
 split at e
 ·next s hu =>
  cases e
  simp only [VR] at hx
  subst hx
  exact ⟨_,by simp [Builtin.len_,run_underlying (hA.under_ok hu)];rfl,by simp only [VR,goInt]⟩
 ·next el a o n cap hu =>
  cases e
  simp only [VR] at hx
  obtain ⟨l,p,c,_,rfl,_⟩:=hx
  exact ⟨_,by simp [Builtin.len_,run_underlying (hA.under_ok hu)];rfl,by simp only [VR,goInt]⟩
 ·next el hu =>
  cases e
  simp only [VR] at hx
  subst hx
  exact ⟨_,by simp [Builtin.len_,run_underlying (hA.under_ok hu)];rfl,by simp only [VR,goInt]⟩
 ·next n el hu =>
  cases e
  exact ⟨_,by simp [Builtin.len_,run_underlying (hA.under_ok hu)];rfl,by simp only [VR,goInt]⟩
 ·next k el hu =>
  cases e
  simp only [VR] at hx
  subst hx
  exact ⟨_,by simp [Builtin.len_,run_underlying (hA.under_ok hu)];rfl,by simp only [VR,goInt]⟩
 ·next k el a hu =>
  split at e
  ·next es clock hb =>
   cases e
   simp only [VR] at hx
   obtain ⟨l,hl,rfl⟩:=hx
   obtain ⟨l',h1,arr,h2,h3⟩:=h.blk a _ hb
   rw [hl] at h1
   cases h1
   have hlen:=h3.length
   have hsz:arr.size=es.length:=by simpa using hlen
   have hget:(getObj l.blk).run P w=.ok (.map arr clock) w:=by simp [getObj,Sem.run,h2]
   exact ⟨goInt arr.size,by simp [Builtin.len_,run_underlying (hA.under_ok hu),hget],by simp only [VR,goInt,hsz]⟩
  ·cases e
 ·cases e
theorem acopy_ok (hA:A.Ok P) (h:HR B0 w0 m H w) {t ts ty:TypeId} {d s v:AV} {H':Heap} (e:acopy A H t d s=some (v,H')) {dv sv:Value} (hd:VR m d dv) (hs:VR m s sv) :
  ∃ r w',(Builtin.copy_ #[t,ts] ty #[dv,sv]).run P w=.ok r w'∧VR m v r∧HR B0 w0 m H' w':=by
 unfold acopy at e
 split at e
 case h_2=>cases e
 next el hu =>
 split at e
 case h_2=>cases e
 next ie hie =>
 have hu':=hA.under_ok hu
 have hi':=hA.info _ _ hie
 have zero:∀ (b b':Option Addr) (n n' c c':Nat),Nat.min n' n=0→(Builtin.copy_ #[t,ts] ty #[.slice b n c,.slice b' n' c']).run P w=.ok (goInt 0) w:=by
  intro b b' n n' c c' hn
  have hf:=firstCells_zero (P:=P) ie.size b' n' c' w
  cases b<;>simp [Builtin.copy_,run_underlying hu',Builtin.lenOf,sizeOf,run_typeInfo' hi',hn,hf,storeCells]
 split at e
 ·cases e
  simp only [VR] at hd hs
  subst hd hs
  exact ⟨_,w,zero _ _ _ _ _ _ rfl,by simp only [VR,goInt],h⟩
 ·cases e
  simp only [VR] at hd hs
  subst hd
  obtain ⟨l,p,c,_,rfl,_⟩:=hs
  exact ⟨_,w,zero _ _ _ _ _ _ (Nat.min_zero _),by simp only [VR,goInt],h⟩
 ·cases e
  simp only [VR] at hd hs
  subst hs
  obtain ⟨l,p,c,_,rfl,_⟩:=hd
  exact ⟨_,w,zero _ _ _ _ _ _ (Nat.zero_min _),by simp only [VR,goInt],h⟩
 ·next a o dl c1 b p sl c2 =>
  simp only [VR] at hd hs
  obtain ⟨l,q,c,hl,rfl,hlc,hcap⟩:=hd
  obtain ⟨l2,q2,c2',hl2,rfl,hlc2,hcap2⟩:=hs
  split at e
  ·next hn =>
   cases e
   exact ⟨_,w,zero _ _ _ _ _ _ hn,by simp only [VR,goInt],h⟩
  ·next n hn =>
   have hmin:n+1≤sl∧n+1≤dl:=by
    have h1:Nat.min sl dl≤sl:=Nat.min_le_left _ _
    have h2:Nat.min sl dl≤dl:=Nat.min_le_right _ _
    omega
   have hq:q=⟨l.blk,o+l.sh,none⟩:=by
    rcases ACap.ptr hcap with e | e
    ·exact e
    ·omega
   have hq2:q2=⟨l2.blk,p+l2.sh,none⟩:=by
    rcases ACap.ptr hcap2 with e | e
    ·exact e
    ·omega
   subst hq hq2
   split at e
   case h_2=>cases e
   next vs hvs =>
   split at e
   case h_2=>cases e
   next H1 hp =>
   cases e
   obtain ⟨xs,x1,x2,x3⟩:=h.cellsAt hl2 _ _ hvs
   have hload:=run_loadCells_list (P:=P) w ⟨l2.blk,p+l2.sh,none⟩ xs fun j x hj=>by rw [addr_add];exact x3 j x hj
   rw [x2] at hload
   obtain ⟨w',r1,r2⟩:=HR.puts P hl vs o o 0 H _ w xs h hp x1 rfl
   refine ⟨goInt (n+1:Nat),w',?_,by simp only [VR,goInt],r2⟩
   simp [Builtin.copy_,run_underlying hu',Builtin.lenOf,Builtin.firstCells,sizeOf,run_typeInfo' hi',hn,hload,r1]
 ·cases e
theorem aclear_ok (hA:A.Ok P) (h:HR B0 w0 m H w) {t ty:TypeId} {x v:AV} {H':Heap} (e:aclear A H t x=some (v,H')) {xv:Value} (hx:VR m x xv) :
  ∃ r w',(Builtin.clear_ #[t] ty #[xv]).run P w=.ok r w'∧VR m v r∧HR B0 w0 m H' w':=by
 unfold aclear at e
 split at e
 ·next el hu =>
  cases e
  simp only [VR] at hx
  subst hx
  exact ⟨.tuple #[],w,by simp [Builtin.clear_,run_underlying (hA.under_ok hu)],by simp [VR,VRs],h⟩
 ·next el a o n cap hu =>
  simp only [VR] at hx
  obtain ⟨l,q,c,hl,rfl,hlc,hcap⟩:=hx
  split at e
  ·cases e
   exact ⟨.tuple #[],w,by simp [Builtin.clear_,run_underlying (hA.under_ok hu)],by simp [VR,VRs],h⟩
  ·next k =>
   split at e
   case h_2=>cases e
   next zs hzs =>
   split at e
   case h_2=>cases e
   next H1 hp =>
   cases e
   obtain ⟨ie,z,z0,z1,z2,z3,z4,z5,z6⟩:=azeros_ok (m:=m) hA hzs
   have hq:q=⟨l.blk,o+l.sh,none⟩:=by
    rcases ACap.ptr hcap with e | e
    ·exact e
    ·omega
   subst hq
   obtain ⟨w',r1,r2⟩:=HR.puts P hl zs o o 0 H _ w _ h hp z6 rfl
   rw [← z3] at r1
   refine ⟨.tuple #[],w',?_,by simp [VR,VRs],r2⟩
   simp [Builtin.clear_,run_underlying (hA.under_ok hu),zeroValue,run_typeInfo' z1,z2,Builtin.zeroCells]
   simp at r1
   rw [r1]
   rfl
 ·cases e
theorem aminmax_ok {mx:Bool}:∀ (l:List AV) (x v:AV) (xs:List Value) (xv:Value),aminmax mx x l=some v→VR m x xv→VRs m l xs →
  ∃ r,(xs.foldlM (match mx with | true=>Builtin.max2 | false=>Builtin.min2) xv:Sem Value).run P w=.ok r w∧VR m v r
 |[],x,v,xs,xv,h,hx,hl=>by
  simp only [VRs] at hl
  subst hl
  have:x=v:=by cases x<;>simpa [aminmax] using h
  subst this
  exact ⟨xv,by simp,hx⟩
 |y :: l, x, v, xs, xv, h, hx, hl => by
  simp only [VRs] at hl
  obtain ⟨z,zs,rfl,h1,h2⟩:=hl
  cases x<;>cases y<;>simp only [aminmax,reduceCtorEq] at h
  case int.int k a k' b =>
   split at h
   case h_2=>cases h
   next hk =>
   simp only [decide_eq_true_eq] at hk
   subst hk
   simp only [VR] at hx h1
   subst hx h1
   cases mx with
   |false =>
    simp only [] at h
    obtain ⟨r,r1,r2⟩:=aminmax_ok l _ v zs (.int k (if b < a then b else a)) h (by simp only [VR]) h2
    refine ⟨r,?_,r2⟩
    simpa [Builtin.min2] using r1
   |true =>
    simp only [] at h
    obtain ⟨r,r1,r2⟩:=aminmax_ok l _ v zs (.int k (if b > a then b else a)) h (by simp only [VR]) h2
    refine ⟨r,?_,r2⟩
    simpa [Builtin.max2] using r1
theorem amakeInterface_ok (hA:A.Ok P) {t:TypeId} {x v:AV} (h:amakeInterface A t x=some v) {xv:Value} (hx:VR m x xv) :
  ∃ r,(Instr.makeInterface t xv).run P w=.ok r w∧VR m v r:=by
 unfold amakeInterface at h
 split at h
 ·cases h
 ·next d hn hu =>
  cases h
  refine ⟨.iface t xv,run_makeInterface w t xv ?_,by simp only [VR];exact ⟨_,rfl,hx⟩⟩
  unfold Program.concrete
  rw [hA.under_ok hu]
  cases d<;>first
   |rfl
   |exact absurd rfl (hn _)
 ·cases h
theorem atypeAssert_ok (hA:A.Ok P) {x v:AV} {asserted xt:TypeId} {ok:Bool} (h:atypeAssert A x asserted ok=some v) {xv:Value} (hx:VR m x xv) :
  ∃ r,(Instr.typeAssert xv xt asserted ok).run P w=.ok r w∧VR m v r:=by
 unfold atypeAssert at h
 split at h
 ·cases h
 ·cases h
 ·next d hn hu =>
  have hu':=hA.under_ok hu
  split at h
  ·next t y =>
   simp only [VR] at hx
   obtain ⟨yv,rfl,hy⟩:=hx
   split at h
   ·next ht =>
    have ht:=Nat.eq_of_beq_eq_true ht
    subst ht
    cases h
    cases ok
    ·refine ⟨yv,?_,hy⟩
     cases d<;>first
      |exact absurd rfl (hn _)
      |simp [Instr.typeAssert,run_underlying hu']
    ·refine ⟨.tuple #[yv,.bool true],?_,by simp only [VR,VRs];exact ⟨_,rfl,_,_,rfl,hy,_,_,rfl,rfl,rfl⟩⟩
     cases d<;>first
      |exact absurd rfl (hn _)
      |simp [Instr.typeAssert,run_underlying hu']
   ·next ht =>
    have ht:¬ t=asserted:=fun e=>by subst e;simp at ht
    split at h
    case h_2=>cases h
    next ti hti =>
    split at h
    case h_2=>cases h
    next z hz =>
    split at h
    case h_2=>cases h
    next z' hz' =>
    cases h
    refine ⟨.tuple #[z,.bool false],?_,by simp only [VR,VRs];exact ⟨_,rfl,_,_,rfl,ofValue_ok hz',_,_,rfl,rfl,rfl⟩⟩
    cases d<;>first
     |exact absurd rfl (hn _)
     |simp [Instr.typeAssert,run_underlying hu',ht,zeroValue,run_typeInfo' (hA.info _ _ hti),hz]
  ·simp only [VR] at hx
   subst hx
   split at h
   case h_2=>cases h
   next ti hti =>
   split at h
   case h_2=>cases h
   next z hz =>
   split at h
   case h_2=>cases h
   next z' hz' =>
   cases h
   refine ⟨.tuple #[z,.bool false],?_,by simp only [VR,VRs];exact ⟨_,rfl,_,_,rfl,ofValue_ok hz',_,_,rfl,rfl,rfl⟩⟩
   cases d<;>first
    |exact absurd rfl (hn _)
    |simp [Instr.typeAssert,run_underlying hu',zeroValue,run_typeInfo' (hA.info _ _ hti),hz]
  ·cases h
end
end Go.Am
namespace Go.Am
open Go.RowKit
inductive AOut where
 |val (v:AV) (H:Heap)
 |skip (H:Heap)
 |enter (f:FuncId) (args:List AV)
 |round (l:Nat) (fn:FuncId) (sz:Nat) (tmps:T AV) (assign body:Code)
 |defer (d:ADef)
 |recover
 |panic (v:AV)
def OutR (B0:Prot) (w0:World) (m:Env) (H:Heap) (w:World):AOut→Result Next→Prop
 |.val v H',r=>∃ x m' w',r=.ok (.value x) w'∧m.le m'∧VR m' v x∧HR B0 w0 m' H' w'
 |.skip H',r=>∃ m' w',r=.ok .skip w'∧m.le m'∧HR B0 w0 m' H' w'
 |.enter f args,r=>∃ xs,r=.ok (.enter f xs) w∧VRs m args xs.toList
 |.round l fn sz tmps asg body,r=>∃ lc arr,m l=some lc∧r=.ok (.round lc.blk fn arr asg body) w∧TR m sz tmps arr
 |.defer d,r=>∃ x,r=.ok (.defer x) w∧DR m d x
 |.recover,r=>r=.ok .recover w
 |.panic v,r=>∃ x,r=.halt (.panic x) w∧VR m v x
def afollow (A : AP) : List FieldStep → TypeId → AV → Option (TypeId × AV)
 |[],t,v=>some (t,v)
 |s :: rest, _, v => match s.deref, A.under s.struct, v with
  |false,some (.struct fields),.agg cs=>match fields.toList[s.index]? with
   |some f=>match apart A f.type cs f.offset with
    |some u=>afollow A rest f.type u
    |none=>none
   |none=>none
  |_,_,_=>none
def isPtrB:TypeDesc→Bool
 |.pointer _=>true
 |_=>false
def amethod (A : AP) (t : TypeId) (v : AV) (name : String) : Option (FuncId × AV) :=
 match A.info t with
 |some ti=>match ti.methods.toList.find? (·.name == name) with
  |some mt=>match afollow A mt.path.toList t v with
   |some (xt,u)=>match mt.func,A.under xt with
    |some (f,ptr),some d=>match ptr == isPtrB d with
     |true=>some (f,u)
     |false=>none
    |_,_=>none
   |none=>none
  |none=>none
 |none=>none
def acallFunc (A:AP) (f:FuncId) (args:List AV):Option AOut :=
 match A.funcs.get f with
 |some fn=>match fn.body with
  |some _=>some (.enter f args)
  |none=>none
 |none=>none
def asets:List Tmp→List AV→Nat→T AV→Option (T AV)
 |[],[],_,t=>some t
 |p::ps,v::vs,sz,t=>match Nat.blt p sz with
  |true=>asets ps vs sz (t.set p v)
  |false=>none
 |_,_,_,_=>none
def acallFn (A:AP) (H:Heap) (f:Fn) (cap args:List AV):Option AOut :=
 match f with
 |.func f=>acallFunc A f (args++cap)
 |.method name=>match args with
  |.ifc t v::rest=>match amethod A t v name with
   |some (f,u)=>acallFunc A f (u::rest)
   |none=>none
  |_=>none
 |_=>none
def ayield (H:Heap) (l:Nat) (args:List AV):Option AOut :=
 match H.blks.get l with
 |some (.loop _ _ fn sz tmps ps asg body _)=>match asets ps.toList args sz tmps with
  |some tmps'=>some (.round l fn sz tmps' asg body)
  |none=>none
 |_=>none
def abuiltin (A:AP) (H:Heap) (b:Builtin) (ts:Array TypeId) (args:List AV):Option AOut :=
 match b,ts.toList,args with
 |.append,[t,tx],[s,x]=>match H.append A t tx s x with
  |some (v,H')=>some (.val v H')
  |none=>none
 |.len,[t],[x]=>match alen A H t x with
  |some v=>some (.val v H)
  |none=>none
 |.copy,[t,_],[d,s]=>match acopy A H t d s with
  |some (v,H')=>some (.val v H')
  |none=>none
 |.clear,[t],[x]=>match aclear A H t x with
  |some (v,H')=>some (.val v H')
  |none=>none
 |.min,_,x::xs=>match aminmax false x xs with
  |some v=>some (.val v H)
  |none=>none
 |.max,_,x::xs=>match aminmax true x xs with
  |some v=>some (.val v H)
  |none=>none
 |.recover,_,_=>some .recover
 |.panic,_,x::_=>match x with
  |.ifc _ _=>some (.panic x)
  |_=>none
 |_,_,_=>none
def aargs (ρ:Operand→Option AV):List Operand→Option (List AV)
 |[]=>some []
 |x::xs=>match ρ x with
  |some v=>match aargs ρ xs with
   |some vs=>some (v::vs)
   |none=>none
  |none=>none
def aparts (ρ:Operand→Option AV):List (Nat×Operand)→Option (List (Nat×AV))
 |[]=>some []
 |x::xs=>match ρ x.2 with
  |some v=>match aparts ρ xs with
   |some vs=>some ((x.1,v)::vs)
   |none=>none
  |none=>none
def acall (A : AP) (H : Heap) (ρ : Operand → Option AV) (c : Call) : Option AOut :=
 match aargs ρ c.args.toList with
 |none=>none
 |some args=>match c.callee with
  |.builtin b=>abuiltin A H b c.argTypes args
  |.invoke recv name=>match ρ recv with
   |some (.ifc t v)=>match amethod A t v name with
    |some (f,u)=>acallFunc A f (u::args)
    |none=>none
   |_=>none
  |.value f=>match ρ f with
   |some (.fn fn first cap)=>acallFn A H fn cap (first++args)
   |some (.yld l)=>ayield H l args
   |_=>none
def aopt (ρ:Operand→Option AV):Option Operand→Option (Option AV)
 |none=>some none
 |some x=>match ρ x with
  |some v=>some (some v)
  |none=>none
section
variable {m:Env} {w:World} {A:AP} {P:Program} {E:Eqs} {B0:Prot} {w0:World} {H:Heap}
theorem asets_ok:∀ (ps:List Tmp) (vs:List AV) (sz:Nat) (t t':T AV) (xs:List Value) (arr:Array Value),asets ps vs sz t=some t'→VRs m vs xs→TR m sz t arr →
  ps.length=xs.length∧TR m sz t' ((ps.zip xs).foldl (fun tmps (t,a)=>tmps.setIfInBounds t a) arr)
 |[],[],sz,t,t',xs,arr,h,hv,ht=>by
  simp only [asets,Option.some.injEq] at h
  simp only [VRs] at hv
  subst h hv
  exact ⟨rfl,ht⟩
 |p :: ps, v :: vs, sz, t, t', xs, arr, h, hv, ht => by
  simp only [asets] at h
  split at h
  ·next hlt =>
   simp only [VRs] at hv
   obtain ⟨x,xs',rfl,h1,h2⟩:=hv
   have hp:p < sz:=by
    have:p+1≤sz:=by simpa [Nat.blt,Nat.ble_eq] using hlt
    exact this
   have ih:=asets_ok ps vs sz _ t' xs' _ h h2 (ht.set hp h1)
   exact ⟨by simp [ih.1],by simpa using ih.2⟩
  ·cases h
 |[],_::_,_,_,_,_,_,h,_,_=>by simp [asets] at h
 |_::_,[],_,_,_,_,_,h,_,_=>by simp [asets] at h
theorem afollow_ok (hA:A.Ok P):∀ (path:List FieldStep) (t xt:TypeId) (v u:AV) (x:Value),afollow A path t v=some (xt,u)→VR m v x →
  ∃ y,(follow path t (.val x)).run P w=.ok (xt,.val y) w∧(followBlind path t (some x)).run P w=.ok (.ok (xt,some y)) w∧VR m u y
 |[],t,xt,v,u,x,h,hv=>by
  simp only [afollow,Option.some.injEq,Prod.mk.injEq] at h
  obtain ⟨rfl,rfl⟩:=h
  exact ⟨x,rfl,rfl,hv⟩
 |s :: rest, t, xt, v, u, x, h, hv => by
  simp only [afollow] at h
  split at h
  ·next fields cs hd hu =>
   split at h
   ·next f hf =>
    split at h
    ·next z hz =>
     simp only [VR] at hv
     obtain ⟨xs,rfl,hv⟩:=hv
     obtain ⟨r,r1,r2⟩:=apart_ok (w:=w) hA hz hv
     obtain ⟨y,y1,y2,y3⟩:=afollow_ok hA rest f.type xt z u r h r2
     have hf':fields[s.index]?=some f:=by simpa using hf
     refine ⟨y,?_,?_,y3⟩
     ·simp [follow,run_underlying (hA.under_ok hu),hf',hd,r1,y1]
     ·simp [followBlind,run_underlying (hA.under_ok hu),hf',hd,r1,y2]
    ·cases h
   ·cases h
  ·cases h
theorem amethod_ok (hA:A.Ok P) {t:TypeId} {v u:AV} {name:String} {f:FuncId} (h:amethod A t v name=some (f,u)) {x:Value} (hx:VR m v x) (fuel:Nat) :
  ∃ y,(method (fuel+1) t x name).run P w=.ok (f,y) w∧(nilAhead (fuel+1) t x name).run P w=.ok (some false) w∧VR m u y:=by
 unfold amethod at h
 split at h
 case h_2=>cases h
 next ti hti =>
 split at h
 case h_2=>cases h
 next mt hmt =>
 split at h
 case h_2=>cases h
 next xt u' hfol =>
 split at h
 case h_2=>cases h
 next g ptr d hfn hd =>
 split at h
 case h_2=>cases h
 next hp =>
 cases h
 have hp:=eq_of_beq hp
 obtain ⟨y,y1,y2,y3⟩:=afollow_ok (w:=w) hA _ _ _ _ _ x hfol hx
 have hfind:ti.methods.find? (·.name == name)=some mt:=by
  rw [← Array.find?_toList]
  exact hmt
 refine ⟨y,?_,?_,y3⟩
 ·simp only [method,Sem.run_bind,run_typeInfo' (hA.info _ _ hti),Result.andThen_ok,hfind,y1,hfn]
  subst hp
  cases d<;>simp [receiverAt,run_underlying (hA.under_ok hd),isPtrB,Place.get]
 ·simp only [nilAhead,Sem.run_bind,run_typeInfo' (hA.info _ _ hti),Result.andThen_ok,hfind,y2,hfn]
  subst hp
  cases d<;>simp [run_underlying (hA.under_ok hd),isPtrB]
theorem acallFunc_ok (hA:A.Ok P) {f:FuncId} {args:List AV} {out:AOut} (h:acallFunc A f args=some out) {xs:Array Value} (hx:VRs m args xs.toList) :
  OutR B0 w0 m H w out ((callFunc f xs).run P w):=by
 unfold acallFunc at h
 split at h
 case h_2=>cases h
 next fn hfn =>
 split at h
 case h_2=>cases h
 next c hc =>
 cases h
 refine ⟨xs,?_,hx⟩
 have hn : ¬ fn.name = "runtime.NumGoroutine" := by simpa using hA.names f fn hfn
 simp [callFunc,hA.funcs f fn hfn,hn,hc]
theorem aargs_ok {ρ:Operand→Option AV} {ρ':Operand→Value} (hρ:∀ x v,ρ x=some v→VR m v (ρ' x)):∀ (l:List Operand) (vs:List AV),aargs ρ l=some vs→VRs m vs (l.map ρ')
 |[],vs,h=>by simp only [aargs,Option.some.injEq] at h;subst h;simp only [List.map_nil,VRs]
 |x :: xs, vs, h => by
  simp only [aargs] at h
  split at h
  ·next v hv =>
   split at h
   ·next vs' hvs =>
    cases h
    simp only [List.map_cons,VRs]
    exact ⟨_,_,rfl,hρ x v hv,aargs_ok hρ xs vs' hvs⟩
   ·cases h
  ·cases h
theorem aparts_ok {ρ:Operand→Option AV} {ρ':Operand→Value} (hρ:∀ x v,ρ x=some v→VR m v (ρ' x)):∀ (l:List (Nat×Operand)) (vs:List (Nat×AV)),aparts ρ l=some vs →
  PR m vs (l.map fun (i,x)=>(i,ρ' x))
 |[],vs,h=>by simp only [aparts,Option.some.injEq] at h;subst h;simp only [List.map_nil,PR]
 |x :: xs, vs, h => by
  simp only [aparts] at h
  split at h
  ·next v hv =>
   split at h
   ·next vs' hvs =>
    cases h
    simp only [List.map_cons,PR]
    exact ⟨_,_,rfl,rfl,hρ x.2 v hv,aparts_ok hρ xs vs' hvs⟩
   ·cases h
  ·cases h
theorem aopt_ok {ρ:Operand→Option AV} {ρ':Operand→Value} (hρ:∀ x v,ρ x=some v→VR m v (ρ' x)) {x:Option Operand} {v:Option AV} (h:aopt ρ x=some v):OVR m v (x.map ρ'):=by
 unfold aopt at h
 split at h
 ·cases h;rfl
 ·next x =>
  split at h
  ·next u hu=>cases h;exact ⟨_,rfl,hρ _ _ hu⟩
  ·cases h
theorem abuiltin_ok (hA:A.Ok P) (h:HR B0 w0 m H w) {b:Builtin} {ts:Array TypeId} {ty:TypeId} {args:List AV} {out:AOut} (e:abuiltin A H b ts args=some out) {xs:Array Value} (hx:VRs m args xs.toList)
  (cs:Array Bool):OutR B0 w0 m H w out ((builtin b ts ty cs xs).run P w):=by
 have two:∀ a b,VRs m [a,b] xs.toList→∃ x y,xs=#[x,y]∧VR m a x∧VR m b y:=by
  intro a b hv
  simp only [VRs] at hv
  obtain ⟨x,l,e1,h1,y,l2,e2,h2,e3⟩:=hv
  subst e3
  subst e2
  exact ⟨x,y,by apply Array.ext';simpa using e1,h1,h2⟩
 have one:∀ a,VRs m [a] xs.toList→∃ x,xs=#[x]∧VR m a x:=by
  intro a hv
  simp only [VRs] at hv
  obtain ⟨x,l,e1,h1,e3⟩:=hv
  subst e3
  exact ⟨x,by apply Array.ext';simpa using e1,h1⟩
 unfold abuiltin at e
 split at e
 ·next t tx s x ht =>
  split at e
  ·next v H' ha =>
   cases e
   obtain ⟨sv,xv,rfl,h1,h2⟩:=two _ _ hx
   have hts:ts=#[t,tx]:=by apply Array.ext';simpa using ht
   subst hts
   obtain ⟨rv,m',w',r1,r2,r3,r4⟩:=h.append (ty:=ty) hA ha h1 h2
   exact ⟨rv,m',w',by simp [builtin,r1],r2,r3,r4⟩
  ·cases e
 ·next t x ht =>
  split at e
  ·next v ha =>
   cases e
   obtain ⟨xv,rfl,h1⟩:=one _ hx
   have hts:ts=#[t]:=by apply Array.ext';simpa using ht
   subst hts
   obtain ⟨rv,r1,r2⟩:=alen_ok (ty:=ty) hA h ha h1
   exact ⟨rv,m,w,by simp [builtin,r1],m.le_refl,r2,h⟩
  ·cases e
 ·next t tx s x ht =>
  split at e
  ·next v H' ha =>
   cases e
   obtain ⟨sv,xv,rfl,h1,h2⟩:=two _ _ hx
   have hts:ts=#[t,tx]:=by apply Array.ext';simpa using ht
   subst hts
   obtain ⟨rv,w',r1,r2,r3⟩:=acopy_ok (ty:=ty) (ts:=tx) hA h ha h1 h2
   exact ⟨rv,m,w',by simp [builtin,r1],m.le_refl,r2,r3⟩
  ·cases e
 ·next t x ht =>
  split at e
  ·next v H' ha =>
   cases e
   obtain ⟨xv,rfl,h1⟩:=one _ hx
   have hts:ts=#[t]:=by apply Array.ext';simpa using ht
   subst hts
   obtain ⟨rv,w',r1,r2,r3⟩:=aclear_ok (ty:=ty) hA h ha h1
   exact ⟨rv,m,w',by simp [builtin,r1],m.le_refl,r2,r3⟩
  ·cases e
 ·next x l =>
  split at e
  ·next v ha =>
   cases e
   simp only [VRs] at hx
   obtain ⟨y,ys,hy,h1,h2⟩:=hx
   obtain ⟨rv,r1,r2⟩:=aminmax_ok (w:=w) (P:=P) l x v ys y ha h1 h2
   refine ⟨rv,m,w,?_,m.le_refl,r2,h⟩
   simp only [builtin,Builtin.min_,hy,Sem.run_bind]
   rw [r1]
   rfl
  ·cases e
 ·next x l =>
  split at e
  ·next v ha =>
   cases e
   simp only [VRs] at hx
   obtain ⟨y,ys,hy,h1,h2⟩:=hx
   obtain ⟨rv,r1,r2⟩:=aminmax_ok (w:=w) (P:=P) l x v ys y ha h1 h2
   refine ⟨rv,m,w,?_,m.le_refl,r2,h⟩
   simp only [builtin,Builtin.max_,hy,Sem.run_bind]
   rw [r1]
   rfl
  ·cases e
 ·cases e
  rfl
 ·next x l =>
  split at e
  ·next t u =>
   cases e
   simp only [VRs] at hx
   obtain ⟨y,ys,hy,h1,h2⟩:=hx
   have h1':=h1
   simp only [VR] at h1
   obtain ⟨z,rfl,hz⟩:=h1
   have h0:xs[0]?=some (.iface t z):=by
    have:xs.toList[0]?=some (.iface t z):=by rw [hy];rfl
    simpa using this
   have hg:xs.getD 0 .nilIface=.iface t z:=by rw [Array.getD_eq_getD_getElem?,h0];rfl
   exact ⟨_,by simp only [builtin,hg,Sem.run_bind];simp [Instr.panic],h1'⟩
  ·cases e
 ·cases e
theorem acall_ok (hA:A.Ok P) (h:HR B0 w0 m H w) {ρ:Operand→Option AV} {ρ':Operand→Value} (hρ:∀ x v,ρ x=some v→VR m v (ρ' x)) {c:Call} {ty:TypeId} {out:AOut}
  (e:acall A H ρ c=some out):OutR B0 w0 m H w out ((do let d ← resolve ρ' c ty;invoke d.target d.args:Sem Next).run P w):=by
 unfold acall at e
 split at e
 ·cases e
 next args hargs =>
 have hv:=aargs_ok hρ _ _ hargs
 have hv':VRs m args (c.args.map ρ').toList:=by simpa using hv
 split at e
 ·next b hc =>
  simp only [resolve,hc,pure_bind,invoke]
  exact abuiltin_ok hA h e hv' _
 ·next recv name hc =>
  split at e
  case h_2=>cases e
  next t v hr =>
  split at e
  case h_2=>cases e
  next f u hm =>
  have hrv:=hρ _ _ hr
  simp only [VR] at hrv
  obtain ⟨x,hx,hx2⟩:=hrv
  obtain ⟨y,y1,_,y3⟩:=amethod_ok (w:=w) hA hm hx2 (P.types.size+99)
  have hcall:=acallFunc_ok (B0:=B0) (w0:=w0) (H:=H) (w:=w) hA e (xs:=#[y]++c.args.map ρ') (by simp only [Array.toList_append,List.cons_append,List.nil_append,VRs];exact ⟨y,_,rfl,y3,by simpa using hv⟩)
  have hex:((#[ρ' recv]++c.args.map ρ').extract 1 (#[ρ' recv]++c.args.map ρ').size)=c.args.map ρ':=by
   apply Array.ext'
   simp
   exact List.take_of_length_le (by simp)
  have h0:(#[ρ' recv]++c.args.map ρ')[0]?=some (.iface t x):=by
   rw [← Array.getElem?_toList]
   simp [hx]
  simp only [resolve,hc,pure_bind,invoke,h0,hex,callMethod,Sem.run_bind,run_program,Result.andThen_ok]
  rw [show P.types.size+Made.depth=P.types.size+99+1 from rfl,y1]
  exact hcall
 ·next f hc =>
  split at e
  ·next fn first cap hf =>
   have hfv:=hρ _ _ hf
   simp only [VR] at hfv
   obtain ⟨xf,xc,hx,h1,h2⟩:=hfv
   simp only [resolve,hc,Deferred.ofValue,hx,pure_bind]
   unfold acallFn at e
   split at e
   ·next g =>
    simp only [invoke]
    refine acallFunc_ok hA e ?_
    simp only [Array.toList_append]
    exact (h1.append hv').append h2
   ·next name =>
    split at e
    case h_2=>cases e
    next t v rest hargs' =>
    split at e
    case h_2=>cases e
    next g u hm =>
    have hall:VRs m (first++args) (xf++c.args.map ρ').toList:=by
     simp only [Array.toList_append]
     exact h1.append hv'
    rw [hargs'] at hall
    simp only [VRs,VR] at hall
    obtain ⟨y0,ys,hy,⟨x,rfl,hx2⟩,hrest⟩:=hall
    obtain ⟨y,y1,_,y3⟩:=amethod_ok (w:=w) hA hm hx2 (P.types.size+99)
    have hex:((xf++c.args.map ρ').extract 1 (xf++c.args.map ρ').size).toList=ys:=by
     rw [Array.toList_extract,List.extract_eq_take_drop,hy]
     have hsz:(xf++c.args.map ρ').size=ys.length+1:=by
      rw [← Array.length_toList,hy]
      rfl
     rw [hsz]
     simp
    have h0:(xf++c.args.map ρ')[0]?=some (.iface t x):=by
     rw [← Array.getElem?_toList,hy]
     rfl
    have hcall:=acallFunc_ok (B0:=B0) (w0:=w0) (H:=H) (w:=w) hA e (xs:=#[y]++(xf++c.args.map ρ').extract 1 (xf++c.args.map ρ').size)
     (by rw [Array.toList_append,hex];simp only [List.cons_append,List.nil_append,VRs];exact ⟨y,_,rfl,y3,hrest⟩)
    simp only [invoke,h0,callMethod,Sem.run_bind,run_program,Result.andThen_ok]
    rw [show P.types.size+Made.depth=P.types.size+99+1 from rfl,y1]
    exact hcall
   ·cases e
  ·next l hf =>
   have hfv:=hρ _ _ hf
   simp only [VR] at hfv
   obtain ⟨lc,hl,hx⟩:=hfv
   simp only [resolve,hc,Deferred.ofValue,hx,pure_bind,invoke]
   unfold ayield at e
   split at e
   case h_2=>cases e
   next st pend fn sz tmps ps asg body d hb =>
   split at e
   case h_2=>cases e
   next tmps' hs =>
   cases e
   obtain ⟨l1,k1,arr,ld,k2,k3,k4⟩:=h.blk l _ hb
   rw [hl] at k1
   cases k1
   obtain ⟨q1,q2⟩:=asets_ok ps.toList args sz tmps tmps' _ arr hs hv' k4
   have hget:(getObj lc.blk).run P w=.ok (.loop { state:=st,pending:=pend,fn,tmps:=arr,params:=ps,assign:=asg,body,defers:=ld.blk }) w:=by simp [getObj,Sem.run,k3]
   have hsz:c.args.size=ps.size:=by
    have:=q1
    simp at this
    omega
   have hfold:(ps.zip (c.args.map ρ')).foldl (fun tmps (t,a)=>tmps.setIfInBounds t a) arr=(ps.toList.zip (c.args.map ρ').toList).foldl (fun tmps (t,a)=>tmps.setIfInBounds t a) arr:=by
    rw [← Array.foldl_toList,Array.toList_zip]
   refine ⟨lc,(ps.zip (c.args.map ρ')).foldl (fun tmps (t,a)=>tmps.setIfInBounds t a) arr,hl,?_,by rw [hfold];exact q2⟩
   simp [Instr.yield,Instr.getLoop,hget,hsz]
  ·cases e
end
end Go.Am
namespace Go.Am
open Go.RowKit
def anilCheck (A:AP) (v:AV):Bool :=
 match v with
 |.ptr _ _=>true
 |.zptr=>true
 |.ifc _ _=>true
 |.fn f first _=>match f,first with
  |.func _,_=>true
  |.method name,.ifc t u::_=>match amethod A t u name with
   |some _=>true
   |none=>false
  |_,_=>false
 |_=>false
def bothNil:AV→AV→Bool
 |.nilifc,.nilifc=>true
 |_,_=>false
def isConstB:Operand→Bool
 |.const _=>true
 |_=>false
def anils (A:AP) (op:BinOp) (t:TypeId) (x y:Operand):Option AV :=
 match A.under t,isConstB x || isConstB y with
 |some (.interface _),true=>match op with
  |.eql=>some (.bool true)
  |.neq=>some (.bool false)
  |_=>none
 |_,_=>none
def aop (A : AP) (E : Eqs) (H : Heap) (ρ : Operand → Option AV) (o : Oper) : Option AOut :=
 let pure (v:Option AV):Option AOut:=match v with
  |some v=>some (.val v H)
  |none=>none
 match o.op with
 |.move x=>pure (ρ x)
 |.assign x=>pure (ρ x)
 |.pick c a b=>match ρ c with
  |some (.bool true)=>pure (ρ a)
  |some (.bool false)=>pure (ρ b)
  |_=>none
 |.alloc t=>match A.info t with
  |some ti=>match ti.zero with
   |some z=>match ofValue z with
    |some v=>some (.val (.ptr H.next 0) (H.newB t v.cells))
    |none=>none
   |none=>none
  |none=>none
 |.box t x=>match ρ x with
  |some v=>some (.val (.ptr H.next 0) (H.newB t v.cells))
  |none=>none
 |.build t parts=>match aparts ρ parts.toList with
  |some ps=>pure (abuild A t ps)
  |none=>none
 |.buildSlice t len parts=>match aparts ρ parts.toList with
  |some ps=>match abuildSlice A t len ps with
   |some (e,cs)=>some (.val (.sl H.next 0 len (.ex len)) (H.newB e cs))
   |none=>none
  |none=>none
 |.load t a=>match ρ a with
  |some (.ptr a o)=>pure (H.load A t a o)
  |some .zptr=>match A.info t,A.under t with
   |some ti,some (.struct _)=>match ti.size with
    |0=>some (.val (.agg []) H)
    |_+1=>none
   |_,_=>none
  |_=>none
 |.store t a x=>match ρ a,ρ x with
  |some (.ptr a o),some v=>match H.store A t a o v with
   |some H'=>some (.skip H')
   |none=>none
  |_,_=>none
 |.nilCheck x=>match ρ x with
  |some v=>match anilCheck A v with
   |true=>some (.val v H)
   |false=>none
  |none=>none
 |.binOp op t x y _=>match ρ x,ρ y with
  |some a,some b=>match bothNil a b with
   |true=>pure (anils A op t x y)
   |false=>pure (abin A E op t a b)
  |_,_=>none
 |.unOp op _ x=>match ρ x with
  |some a=>pure (aun op a)
  |none=>none
 |.convert s d x=>match ρ x with
  |some a=>pure (aconv A s d a)
  |none=>none
 |.makeInterface t x=>match ρ x with
  |some a=>pure (amakeInterface A t a)
  |none=>none
 |.makeFunc f first cap=>match aargs ρ first.toList,aargs ρ cap.toList with
  |some a,some b=>some (.val (.fn f a b) H)
  |_,_=>none
 |.makeMap _ r=>match r with
  |none=>some (.val (.map H.next) { blks:=H.blks.set H.next (.map [] 0),next:=H.next+1,fams:=H.fams })
  |some _=>none
 |.makeSlice t l c=>match ρ l,ρ c with
  |some l,some c=>match amakeSlice A H t l c with
   |some (v,H')=>some (.val v H')
   |none=>none
  |_,_=>none
 |.slice t x lo hi mx=>match mx,ρ x,aopt ρ lo,aopt ρ hi with
  |none,some v,some lo,some hi=>pure (aslice A t v lo hi)
  |some mx,some v,some lo,some (some hi)=>match ρ mx with
   |some mx=>pure (aslice3 A t v lo hi mx)
   |none=>none
  |_,_,_,_=>none
 |.fieldAddr t x f=>match ρ x with
  |some v=>pure (afieldAddr A H t v f)
  |none=>none
 |.field t x f=>match ρ x with
  |some v=>pure (afield A t v f)
  |none=>none
 |.indexAddr t x i=>match ρ x,ρ i with
  |some v,some i=>pure (aindexAddr A t v i)
  |_,_=>none
 |.index t x i=>match ρ x,ρ i with
  |some v,some i=>pure (aindex A t v i)
  |_,_=>none
 |.lookup t x k ok=>match ρ x,ρ k with
  |some v,some k=>pure (alookup A E H t v k ok)
  |_,_=>none
 |.mapUpdate t x k v=>match ρ x,ρ k,ρ v with
  |some x,some k,some v=>match amapUpdate A E H t x k v with
   |some H'=>some (.skip H')
   |none=>none
  |_,_,_=>none
 |.insert t x k v=>match ρ x,ρ k,ρ v with
  |some x,some k,some v=>match amapUpdate A E H t x k v with
   |some H'=>some (.skip H')
   |none=>none
  |_,_,_=>none
 |.mapEntry t x k=>match ρ x,ρ k with
  |some x,some k=>match amapEntry A E H t x k with
   |some (v,H')=>some (.val v H')
   |none=>none
  |_,_=>none
 |.entryStore _ x s v=>match ρ x,ρ s,ρ v with
  |some x,some s,some v=>match aentryStore H x s v with
   |some H'=>some (.skip H')
   |none=>none
  |_,_,_=>none
 |.typeAssert x _ t ok=>match ρ x with
  |some v=>pure (atypeAssert A v t ok)
  |none=>none
 |.extract x i=>match ρ x with
  |some v=>pure (aextract v i)
  |none=>none
 |.call c=>acall A H ρ c
 |.defer c=>match c.callee,aargs ρ c.args.toList with
  |.value f,some args=>match ρ f with
   |some (.fn fn first cap)=>some (.defer (.call fn cap (first++args)))
   |_=>none
  |_,_=>none
 |.panic x=>match ρ x with
  |some (.ifc t v)=>some (.panic (.ifc t v))
  |_=>none
 |_=>none
section
variable {m:Env} {w:World} {A:AP} {P:Program} {E:Eqs} {B0:Prot} {w0:World} {H:Heap}
theorem outR_pure (h:HR B0 w0 m H w) {v:Option AV} {out:AOut} (e:(match v with | some v=>some (AOut.val v H) | none=>none)=some out) {s:Sem Value}
  (hs:∀ u,v=some u→∃ r,s.run P w=.ok r w∧VR m u r):OutR B0 w0 m H w out ((do let x ← s;pure (.value x):Sem Next).run P w):=by
 cases v with
 |none=>cases e
 |some u =>
  cases e
  obtain ⟨r,r1,r2⟩:=hs u rfl
  exact ⟨r,m,w,by simp [r1],m.le_refl,r2,h⟩
theorem anilCheck_ok (hA:A.Ok P) {v:AV} (h:anilCheck A v=true) {x:Value} (hx:VR m v x) (o:Oper) (y:Operand) (ho:o.op=.nilCheck y) (ρ':Operand→Value) (hy:ρ' y=x) :
  (execOp ρ' o).run P w=.ok (.value x) w:=by
 unfold anilCheck at h
 split at h
 ·simp only [VR] at hx
  obtain ⟨l,_,rfl⟩:=hx
  simp [execOp,ho,hy]
 ·simp only [VR] at hx
  obtain ⟨l,rfl⟩:=hx
  simp [execOp,ho,hy]
 ·simp only [VR] at hx
  obtain ⟨z,rfl,_⟩:=hx
  simp [execOp,ho,hy]
 ·next f first cap =>
  simp only [VR] at hx
  obtain ⟨xf,xc,rfl,h1,h2⟩:=hx
  split at h
  ·simp [execOp,ho,hy]
  ·next name t u rest =>
   split at h
   case h_2=>cases h
   next r hm =>
   obtain ⟨g,u'⟩:=r
   simp only [VRs,VR] at h1
   obtain ⟨y0,ys,hys,⟨z,rfl,hz⟩,_⟩:=h1
   obtain ⟨y1,_,n2,_⟩:=amethod_ok (w:=w) hA hm hz (P.types.size+99)
   have h0:xf[0]?=some (.iface t z):=by
    rw [← Array.getElem?_toList,hys]
    rfl
   simp only [execOp,ho,hy,h0,Sem.run_bind,run_program,Result.andThen_ok]
   rw [show P.types.size+Made.depth=P.types.size+99+1 from rfl,n2]
   simp
  ·cases h
 ·cases h
theorem equal_nils {t:TypeId} {ms:Array (String×TypeId)} (hu:P.underlying t=some (.interface ms)):(Op.equal t .nilIface .nilIface).run P w=.ok true w:=by
 have gen:∀ d,(Op.equalIn (d+1) t .nilIface .nilIface).run P w=.ok true w:=fun d=>by
  simp only [Op.equalIn,Sem.run_bind,run_underlying hu,Result.andThen_ok]
  rfl
 exact gen 9999
theorem anils_ok (hA:A.Ok P) {op:BinOp} {t:TypeId} {x y:Operand} {u:AV} (hu:anils A op t x y=some u) :
  ∃ r,(do eqGuard op t x y .nilIface .nilIface;binOp op t .nilIface .nilIface:Sem Value).run P w=.ok r w∧VR m u r:=by
 unfold anils at hu
 split at hu
 case h_2=>cases hu
 next ms hun hc =>
 have hg:(eqGuard op t x y .nilIface .nilIface).run P w=.ok () w:=by
  cases x<;>cases y<;>simp only [isConstB,Bool.or_self,Bool.or_true,Bool.or_false,Bool.true_or,Bool.false_or,Bool.false_eq_true] at hc<;>cases op<;>rfl
 split at hu
 ·cases hu
  refine ⟨.bool true,?_,by simp only [VR]⟩
  simp only [Sem.run_bind,hg,Result.andThen_ok,binOp_eql (x:=.nilIface) rfl,equal_nils (hA.under_ok hun),Sem.run_pure]
 ·cases hu
  refine ⟨.bool false,?_,by simp only [VR]⟩
  simp only [Sem.run_bind,hg,Result.andThen_ok,binOp_neq (x:=.nilIface) rfl,equal_nils (hA.under_ok hun),Sem.run_pure,Bool.not_true]
 ·cases hu
theorem aop_ok (hA:A.Ok P) (hE:E.Ok P) (h:HR B0 w0 m H w) {ρ:Operand→Option AV} {ρ':Operand→Value} (hρ:∀ x v,ρ x=some v→VR m v (ρ' x)) {o:Oper} {out:AOut}
  (e:aop A E H ρ o=some out):OutR B0 w0 m H w out ((execOp ρ' o).run P w):=by
 unfold aop at e
 simp only [] at e
 have newVar:∀ (t:TypeId) (v:AV) (x:Value),VR m v x→OutR B0 w0 m H w (.val (.ptr H.next 0) (H.newB t v.cells)) (.ok (.value (.pointer (some ⟨w.heap.size,0,none⟩))) (w.alloc (.cells x.cells t))):=by
  intro t v x hv
  have hn:=h.newB_of t (rest:=[]) hv.cells
  refine ⟨_,_,_,rfl,h.le_ext _,?_,by simpa using hn⟩
  simp only [VR]
  exact ⟨_,Env.ext_self _ _ _,rfl⟩
 split at e
 ·next x ho =>
  simp only [execOp,ho]
  cases hx:ρ x with
  |none=>simp [hx] at e
  |some v=>simp only [hx,Option.some.injEq] at e;subst e;exact ⟨_,m,w,rfl,m.le_refl,hρ x v hx,h⟩
 ·next x ho =>
  simp only [execOp,ho]
  cases hx:ρ x with
  |none=>simp [hx] at e
  |some v=>simp only [hx,Option.some.injEq] at e;subst e;exact ⟨_,m,w,rfl,m.le_refl,hρ x v hx,h⟩
 ·next c a b ho =>
  split at e
  ·next hc =>
   have hcv:=hρ _ _ hc
   simp only [VR] at hcv
   cases hx:ρ a with
   |none=>simp [hx] at e
   |some v =>
    simp only [hx,Option.some.injEq] at e
    subst e
    exact ⟨_,m,w,by simp [execOp,ho,hcv,asBool],m.le_refl,hρ a v hx,h⟩
  ·next hc =>
   have hcv:=hρ _ _ hc
   simp only [VR] at hcv
   cases hx:ρ b with
   |none=>simp [hx] at e
   |some v =>
    simp only [hx,Option.some.injEq] at e
    subst e
    exact ⟨_,m,w,by simp [execOp,ho,hcv,asBool],m.le_refl,hρ b v hx,h⟩
  ·cases e
 ·next t ho =>
  split at e
  case h_2=>cases e
  next ti hti =>
  split at e
  case h_2=>cases e
  next z hz =>
  split at e
  case h_2=>cases e
  next v hv =>
  cases e
  have:=newVar t v z (ofValue_ok hv)
  have hrun:(execOp ρ' o).run P w=.ok (.value (.pointer (some ⟨w.heap.size,0,none⟩))) (w.alloc (.cells z.cells t)):=by
   simp [execOp,ho,Instr.alloc,zeroValue,run_typeInfo' (hA.info _ _ hti),hz,Go.newVar,newRow]
  rw [hrun]
  exact this
 ·next t x ho =>
  split at e
  case h_2=>cases e
  next v hv =>
  cases e
  have:=newVar t v _ (hρ _ _ hv)
  have hrun:(execOp ρ' o).run P w=.ok (.value (.pointer (some ⟨w.heap.size,0,none⟩))) (w.alloc (.cells (ρ' x).cells t)):=by
   simp [execOp,ho,Instr.box,Go.newVar,newRow]
  rw [hrun]
  exact this
 ·next t parts ho =>
  split at e
  case h_2=>cases e
  next ps hps =>
  simp only [execOp,ho]
  refine outR_pure h e fun u hu=>abuild_ok hA hu ?_
  have:=aparts_ok hρ _ _ hps
  simpa using this
 ·next t len parts ho =>
  split at e
  case h_2=>cases e
  next ps hps =>
  split at e
  case h_2=>cases e
  next el cs hcs =>
  cases e
  have hpr:=aparts_ok hρ _ _ hps
  obtain ⟨xs,x1,x2⟩:=abuildSlice_ok (w:=w) hA hcs (ps:=parts.map fun (i,x)=>(i,ρ' x)) (by simpa using hpr)
  have hn:=h.newB_of el (rest:=[]) x1
  refine ⟨.slice (some ⟨w.heap.size,0,none⟩) len len,_,w.alloc (.cells xs el),by simp only [execOp,ho,Sem.run_bind,x2];rfl,h.le_ext _,?_,by simpa using hn⟩
  simp only [VR]
  exact ⟨_,_,len,Env.ext_self _ _ _,rfl,Nat.le_refl _,rfl,by simp⟩
 ·next t a ho =>
  split at e
  case h_3=>cases e
  ·next a' o' ha =>
   have hav:=hρ _ _ ha
   simp only [VR] at hav
   obtain ⟨l,hl,hp⟩:=hav
   simp only [execOp,ho]
   refine outR_pure h e fun u hu=>?_
   obtain ⟨x,x1,x2⟩:=h.load hA hu hl
   exact ⟨x,by simp [Instr.loadAt,hp,Instr.sureAddr,x1],x2⟩
  ·next ha =>
   have hav:=hρ _ _ ha
   simp only [VR] at hav
   obtain ⟨p,hp⟩:=hav
   split at e
   case h_2=>cases e
   next ti fs hti hu =>
   split at e
   case h_2=>cases e
   next hz =>
   cases e
   refine ⟨.agg #[],m,w,?_,m.le_refl,by simp [VR,VRs],h⟩
   simp [execOp,ho,Instr.loadAt,hp,Instr.sureAddr,loadVar,isAgg,run_underlying (hA.under_ok hu),sizeOf,run_typeInfo' (hA.info _ _ hti),hz,loadCells,loadCellsFrom]
 ·next t a x ho =>
  split at e
  case h_2=>cases e
  next a' o' v ha hv =>
  split at e
  case h_2=>cases e
  next H' hs =>
  cases e
  have hav:=hρ _ _ ha
  simp only [VR] at hav
  obtain ⟨l,hl,hp⟩:=hav
  obtain ⟨w',r1,r2⟩:=h.store hA hs (hρ _ _ hv) hl
  exact ⟨m,w',by simp [execOp,ho,Instr.storeAt,hp,Instr.sureAddr,r1],m.le_refl,r2⟩
 ·next x ho =>
  split at e
  case h_2=>cases e
  next v hv =>
  split at e
  case h_2=>cases e
  next hn =>
  cases e
  exact ⟨ρ' x,m,w,anilCheck_ok hA hn (hρ _ _ hv) o x ho ρ' rfl,m.le_refl,hρ _ _ hv,h⟩
 ·next op t x y yt ho =>
  split at e
  case h_2=>cases e
  next a b ha hb =>
  simp only [execOp,ho]
  split at e
  ·next hbn =>
   have hnn:ρ' x=.nilIface∧ρ' y=.nilIface:=by
    have h1:=hρ _ _ ha
    have h2:=hρ _ _ hb
    cases a<;>cases b<;>simp only [bothNil,Bool.false_eq_true] at hbn
    simp only [VR] at h1 h2
    exact ⟨h1,h2⟩
   obtain ⟨hx,hy⟩:=hnn
   rw [hx,hy]
   exact outR_pure h e fun u hu=>anils_ok hA hu
  ·exact outR_pure h e fun u hu=>abin_ok hA hE hu (hρ _ _ ha) (hρ _ _ hb) x y
 ·next op t x ho =>
  split at e
  case h_2=>cases e
  next a ha =>
  simp only [execOp,ho]
  exact outR_pure h e fun u hu=>aun_ok hu (hρ _ _ ha)
 ·next s d x ho =>
  split at e
  case h_2=>cases e
  next a ha =>
  simp only [execOp,ho]
  exact outR_pure h e fun u hu=>aconv_ok hA hu (hρ _ _ ha)
 ·next t x ho =>
  split at e
  case h_2=>cases e
  next a ha =>
  simp only [execOp,ho]
  exact outR_pure h e fun u hu=>amakeInterface_ok hA hu (hρ _ _ ha)
 ·next f first cap ho =>
  split at e
  case h_2=>cases e
  next a b ha hb =>
  cases e
  refine ⟨.func f (first.map ρ') (cap.map ρ'),m,w,by simp [execOp,ho,Instr.makeFunc],m.le_refl,?_,h⟩
  simp only [VR]
  exact ⟨_,_,rfl,by simpa using aargs_ok hρ _ _ ha,by simpa using aargs_ok hρ _ _ hb⟩
 ·next t r ho =>
  split at e
  case h_2=>cases e
  cases e
  have hal:=h.alloc ⟨w.heap.size,0,0⟩ rfl (.map [] 0) (.map #[] 0) ⟨#[],rfl,rfl⟩ H.fams (.inr ⟨by simp,rfl⟩)
  refine ⟨.map (some w.heap.size),_,w.alloc (.map #[] 0),by simp [execOp,ho,Instr.makeMap],h.le_ext _,?_,hal⟩
  simp only [VR]
  exact ⟨_,Env.ext_self _ _ _,rfl⟩
 ·next t l c ho =>
  split at e
  case h_2=>cases e
  next lv cv hl hc =>
  split at e
  case h_2=>cases e
  next v H' hm =>
  cases e
  obtain ⟨r,m',w',r1,r2,r3,r4⟩:=amakeSlice_ok hA h hm (hρ _ _ hl) (hρ _ _ hc)
  exact ⟨r,m',w',by simp [execOp,ho,r1],r2,r3,r4⟩
 ·next t x lo hi mx ho =>
  split at e
  ·next v lo' hi' hx hlo hhi =>
   simp only [execOp,ho,Option.map_none]
   exact outR_pure h e fun u hu=>aslice_ok hA hu (hρ _ _ hx) (aopt_ok hρ hlo) (aopt_ok hρ hhi)
  ·next mx v lo' hi' hx hlo hhi =>
   split at e
   case h_2=>cases e
   next mx' hmx =>
   obtain ⟨hiv,h1,h2⟩:=aopt_ok hρ hhi
   simp only [execOp,ho,Option.map_some,h1]
   exact outR_pure h e fun u hu=>aslice3_ok hA hu (hρ _ _ hx) (aopt_ok hρ hlo) h2 (hρ _ _ hmx)
  ·cases e
 ·next t x f ho =>
  split at e
  case h_2=>cases e
  next v hv =>
  simp only [execOp,ho]
  exact outR_pure h e fun u hu=>afieldAddr_ok hA h hu (hρ _ _ hv)
 ·next t x f ho =>
  split at e
  case h_2=>cases e
  next v hv =>
  simp only [execOp,ho]
  exact outR_pure h e fun u hu=>afield_ok hA hu (hρ _ _ hv)
 ·next t x i ho =>
  split at e
  case h_2=>cases e
  next v iv hv hi =>
  simp only [execOp,ho]
  exact outR_pure h e fun u hu=>aindexAddr_ok hA hu (hρ _ _ hv) (hρ _ _ hi)
 ·next t x i ho =>
  split at e
  case h_2=>cases e
  next v iv hv hi =>
  simp only [execOp,ho]
  exact outR_pure h e fun u hu=>aindex_ok hA hu (hρ _ _ hv) (hρ _ _ hi)
 ·next t x k ok ho =>
  split at e
  case h_2=>cases e
  next v kv hv hk =>
  simp only [execOp,ho]
  exact outR_pure h e fun u hu=>alookup_ok hA hE h hu (hρ _ _ hv) (hρ _ _ hk)
 ·next t x k v ho =>
  split at e
  case h_2=>cases e
  next xv kv vv hx hk hv =>
  split at e
  case h_2=>cases e
  next H' hm =>
  cases e
  obtain ⟨w',r1,r2⟩:=amapUpdate_ok hA hE h hm (hρ _ _ hx) (hρ _ _ hk) (hρ _ _ hv)
  exact ⟨m,w',by simp [execOp,ho,r1],m.le_refl,r2⟩
 ·next t x k v ho =>
  split at e
  case h_2=>cases e
  next xv kv vv hx hk hv =>
  split at e
  case h_2=>cases e
  next H' hm =>
  cases e
  obtain ⟨w',r1,r2⟩:=amapUpdate_ok hA hE h hm (hρ _ _ hx) (hρ _ _ hk) (hρ _ _ hv)
  exact ⟨m,w',by simp [execOp,ho,r1],m.le_refl,r2⟩
 ·next t x k ho =>
  split at e
  case h_2=>cases e
  next xv kv hx hk =>
  split at e
  case h_2=>cases e
  next v H' hm =>
  cases e
  obtain ⟨r,w',r1,r2,r3⟩:=amapEntry_ok hA hE h hm (hρ _ _ hx) (hρ _ _ hk)
  exact ⟨r,m,w',by simp [execOp,ho,r1],m.le_refl,r2,r3⟩
 ·next t x s v ho =>
  split at e
  case h_2=>cases e
  next xv sv vv hx hs hv =>
  split at e
  case h_2=>cases e
  next H' hm =>
  cases e
  obtain ⟨w',r1,r2⟩:=aentryStore_ok (P:=P) (t:=t) h hm (hρ _ _ hx) (hρ _ _ hs) (hρ _ _ hv)
  exact ⟨m,w',by simp [execOp,ho,r1],m.le_refl,r2⟩
 ·next x xt t ok ho =>
  split at e
  case h_2=>cases e
  next v hv =>
  simp only [execOp,ho]
  exact outR_pure h e fun u hu=>atypeAssert_ok hA hu (hρ _ _ hv)
 ·next x i ho =>
  split at e
  case h_2=>cases e
  next v hv =>
  simp only [execOp,ho]
  exact outR_pure h e fun u hu=>aextract_ok hu (hρ _ _ hv)
 ·next c ho =>
  simp only [execOp,ho]
  exact acall_ok hA h hρ e
 ·next c ho =>
  split at e
  case h_2=>cases e
  next f args hc hargs =>
  split at e
  case h_2=>cases e
  next fn first cap hf =>
  cases e
  have hfv:=hρ _ _ hf
  simp only [VR] at hfv
  obtain ⟨xf,xc,hx,h1,h2⟩:=hfv
  have ha:=aargs_ok hρ _ _ hargs
  refine ⟨{ target:=.fn fn xc,args:=xf++c.args.map ρ' },by simp [execOp,ho,resolve,hc,Deferred.ofValue,hx],_,_,rfl,h2,?_⟩
  simp only [Array.toList_append]
  exact h1.append (by simpa using ha)
 ·next x ho =>
  split at e
  case h_2=>cases e
  next t v hv =>
  cases e
  have hxv:=hρ _ _ hv
  have hxv':=hxv
  simp only [VR] at hxv
  obtain ⟨z,hz,_⟩:=hxv
  exact ⟨ρ' x,by simp [execOp,ho,hz,Instr.panic],hxv'⟩
 ·cases e
end
end Go.Am
namespace Go.Am
open Go.RowKit
inductive AItem where
 |code (c:Code)
 |inBlock (id:Nat)
 |inLoop (c:Code)
 |inScope (c:Code)
 |ops (all rest:List Oper)
 |inRF (l:Nat)
 |endRF (l:Nat)
 |beginRound
 |one (all:List Oper) (o:Oper)
 |don (v:AV)
inductive AMode where
 |run
 |returning
 |panicking (chain:List (AV×Bool))
structure AFr where
 fn:FuncId
 sz:Nat
 tmps:T AV
 todo:List AItem
 defers:List ADef
 mode:AMode
 kind:CallKind
 rnd:Option Nat
structure ASt where
 fr:AFr
 cs:List AFr
 H:Heap
def AFr.ev (fr:AFr):Operand→Option AV
 |.tmp t=>fr.tmps.get t
 |.const v=>ofValue v
 |.global _=>none
 |.func f=>some (.fn (.func f) [] [])
def AFr.fin (fr:AFr) (v:AV):Option AFr :=
 match fr.todo with
 |.ops all (o::rest)::k=>match o.dst with
  |some d=>match Nat.blt d fr.sz with
   |true=>some { fr with tmps:=fr.tmps.set d v,todo:=.ops all rest::k }
   |false=>none
  |none=>some { fr with todo:=.ops all rest::k }
 |.inRF l::k=>some { fr with todo:=.endRF l::k }
 |.beginRound::k=>some { fr with todo:=k }
 |.one _ _::_=>some { fr with todo:=[.don v] }
 |_=>none
def AFr.lone (fr:AFr):Bool :=
 match fr.todo with
 |.one _ _::_=>true
 |.don _::_=>true
 |_=>false
def AFr.raise (fr:AFr) (vs:List (AV×Bool)):AFr :=
 match fr.mode with
 |.panicking chain=>{ fr with mode:=.panicking (vs++chain) }
 |_=>{ fr with mode:=.panicking vs }
def AFr.enter (A:AP) (f:FuncId) (args:List AV) (kind:CallKind):Option AFr :=
 match A.funcs.get f with
 |some fn=>match fn.body with
  |some c=>some { fn:=f,sz:=args.length+(fn.ntmps - args.length),tmps:=T.ofList args 0 .nil,todo:=[.code c],defers:=[],mode:=.run,kind,rnd:=none }
  |none=>none
 |none=>none
def aexitTo (id:Nat):List AItem→Option (List AItem)
 |.inBlock id'::k=>match Nat.beq id' id with
  |true=>some k
  |false=>aexitTo id k
 |_::k=>aexitTo id k
 |[]=>none
def agotoIn (l:Nat):List AItem→Option (List AItem)
 |.inScope body::k=>match findLabel body l with
  |some rest=>some (.code rest::.inScope body::k)
  |none=>agotoIn l k
 |_::k=>agotoIn l k
 |[]=>none
def aguard (all : List Oper) (t : T AV) : Option (Nat × Bool) → Option Bool
 |none=>some true
 |some (j,want)=>match all[j]? with
  |some o=>match o.dst with
   |some d=>match t.get d with
    |some (.bool b)=>some (b == want)
    |some _=>some false
    |none=>none
   |none=>some false
  |none=>some false
def aresult (A:AP) (H:Heap) (t:T AV):ResultVar→Option AV
 |.tmp x=>t.get x
 |.cell a ty=>match t.get a with
  |some (.ptr b o)=>H.load A ty b o
  |_=>none
def aresults (A:AP) (H:Heap) (t:T AV):List ResultVar→Option (List AV)
 |[]=>some []
 |r::rs=>match aresult A H t r with
  |some v=>match aresults A H t rs with
   |some vs=>some (v::vs)
   |none=>none
  |none=>none
def aone:List AV→AV
 |[v]=>v
 |l=>.tup l
def adoReturn (S:ASt) (v:AV):Option ASt :=
 match S.cs with
 |[]=>none
 |c::cs=>match S.fr.kind with
  |.normal=>match c.fin v with
   |some c'=>some { fr:=c',cs,H:=S.H }
   |none=>none
  |.deferred=>match c.mode with
   |.run=>none
   |.panicking ((_,true)::_)=>some { fr:={ c with mode:=.returning },cs,H:=S.H }
   |_=>some { fr:=c,cs,H:=S.H }
  |_=>none
def aleave (S:ASt) (jump:Option Code):Option ASt :=
 match S.fr.rnd with
 |none=>match jump with
  |none=>some { S with fr:={ S.fr with mode:=.returning } }
  |some .ret=>some { S with fr:={ S.fr with mode:=.returning } }
  |some _=>none
 |some l=>match S.H.blks.get l with
  |some (.loop _ _ fn sz tmps ps asg body d) =>
   adoReturn { S with H:={ S.H with blks:=S.H.blks.set l (.loop (if jump.isNone then .ready else .done) jump fn sz tmps ps asg body d) } } (.bool jump.isNone)
  |_=>none
def aout (A : AP) (S : ASt) : AOut → Option ASt
 |.val v H=>match S.fr.fin v with
  |some fr=>some { S with fr,H }
  |none=>none
 |.skip H=>match S.fr.fin (.tup []) with
  |some fr=>some { S with fr,H }
  |none=>none
 |.enter f args=>match AFr.enter A f args .normal with
  |some fr=>some { S with fr,cs:=S.fr::S.cs }
  |none=>none
 |.round l fn sz tmps asg body =>
  some { S with fr:={ fn,sz,tmps,todo:=[.code asg,.beginRound,.code body],defers:=[],mode:=.run,kind:=.normal,rnd:=some l },cs:=S.fr::S.cs }
 |.defer d=>match S.fr.rnd,S.fr.lone with
  |none,false=>match ({ S.fr with defers:=d::S.fr.defers }:AFr).fin (.tup []) with
   |some fr=>some { S with fr }
   |none=>none
  |_,_=>none
 |.recover=>match S.fr.rnd with
  |none=>match S.fr.kind with
   |.normal=>match S.fr.fin .nilifc with
    |some fr=>some { S with fr }
    |none=>none
   |.deferred=>match S.cs with
    |[]=>none
    |c::cs=>match c.mode with
     |.run=>none
     |.panicking ((v,false)::older)=>match S.fr.fin v with
      |some fr=>some { S with fr,cs:={ c with mode:=.panicking ((v,true)::older) }::cs }
      |none=>none
     |_=>match S.fr.fin .nilifc with
      |some fr=>some { S with fr }
      |none=>none
   |_=>none
  |some _=>none
 |.panic v=>match S.fr.lone with
  |false=>some { S with fr:=S.fr.raise [(v,false)] }
  |true=>none
abbrev Drawer:=AFr→Array Oper→Heap→Option (T AV×Heap)
def arange (A : AP) (S : ASt) (f : Operand) (ps : Array Tmp) (asg body : Code) (k : List AItem) : Option ASt :=
 match S.fr.ev f with
 |some (.fn fn first cap) =>
  let go (H:Heap) (fr:AFr) (l:Nat):Option ASt:=match acallFn A H fn cap (first++[.yld l]) with
   |some (.enter g args)=>match AFr.enter A g args .normal with
    |some fr'=>some { fr:=fr',cs:=fr::S.cs,H }
    |none=>none
   |_=>none
  match S.fr.rnd with
  |none =>
   let d:=S.H.next
   let l:=d+1
   let H:Heap:={ blks:=(S.H.blks.set d (.dfr (some []))).set l (.loop .ready none S.fr.fn S.fr.sz S.fr.tmps ps asg body d),next:=l+1,fams:=S.H.fams }
   go H { S.fr with todo:=.inRF l::k,defers:=.collected d::S.fr.defers } l
  |some l0=>match S.H.blks.get l0 with
   |some (.loop _ _ _ _ _ _ _ _ d) =>
    let l:=S.H.next
    let H:Heap:={ blks:=S.H.blks.set l (.loop .ready none S.fr.fn S.fr.sz S.fr.tmps ps asg body d),next:=l+1,fams:=S.H.fams }
    go H { S.fr with todo:=.inRF l::k } l
   |_=>none
 |_=>none
def acode (A:AP) (D:Drawer) (S:ASt) (k:List AItem):Code→Option ASt
 |.skip=>some { S with fr:={ S.fr with todo:=k } }
 |.label _=>some { S with fr:={ S.fr with todo:=k } }
 |.ret=>aleave S (some .ret)
 |.seq a b=>some { S with fr:={ S.fr with todo:=.code a::.code b::k } }
 |.cond c a b=>match S.fr.ev c with
  |some (.bool true)=>some { S with fr:={ S.fr with todo:=.code a::k } }
  |some (.bool false)=>some { S with fr:={ S.fr with todo:=.code b::k } }
  |_=>none
 |.block id body=>some { S with fr:={ S.fr with todo:=.code body::.inBlock id::k } }
 |.loop body=>some { S with fr:={ S.fr with todo:=.code body::.inLoop body::k } }
 |.scope body=>some { S with fr:={ S.fr with todo:=.code body::.inScope body::k } }
 |.exit id=>match aexitTo id k with
  |some k'=>some { S with fr:={ S.fr with todo:=k' } }
  |none=>aleave S (some (.exit id))
 |.goto l=>match agotoIn l k with
  |some k'=>some { S with fr:={ S.fr with todo:=k' } }
  |none=>aleave S (some (.goto l))
 |.region _ ops false=>some { S with fr:={ S.fr with todo:=.ops ops.toList ops.toList::k } }
 |.region _ ops true=>match D S.fr ops S.H with
  |some (t,H)=>some { S with fr:={ S.fr with tmps:=t,todo:=k },H }
  |none=>none
 |.rangeFunc f ps asg body=>arange A S f ps asg body k
 |.refuse _=>none
def arun1 (A : AP) (E : Eqs) (D : Drawer) (S : ASt) : Option ASt :=
 match S.fr.todo with
 |[]=>aleave S none
 |.code c::k=>acode A D S k c
 |.inBlock _::k=>some { S with fr:={ S.fr with todo:=k } }
 |.inScope _::k=>some { S with fr:={ S.fr with todo:=k } }
 |.inLoop c::k=>some { S with fr:={ S.fr with todo:=.code c::.inLoop c::k } }
 |.ops _ []::k=>some { S with fr:={ S.fr with todo:=k } }
 |.ops all (o::_)::_=>match aguard all S.fr.tmps o.guard with
  |some true=>match aop A E S.H S.fr.ev o with
   |some out=>aout A S out
   |none=>none
  |some false=>match S.fr.fin (.tup []) with
   |some fr=>some { S with fr }
   |none=>none
  |none=>none
 |.one all o::_=>match aguard all S.fr.tmps o.guard with
  |some true=>match aop A E S.H S.fr.ev o with
   |some out=>aout A S out
   |none=>none
  |some false=>match S.fr.fin (.tup []) with
   |some fr=>some { S with fr }
   |none=>none
  |none=>none
 |.don _::_=>none
 |.inRF _::_=>none
 |.endRF l::k=>match S.H.blks.get l with
  |some (.loop st pend fn sz tmps ps asg body d)=>match st with
   |.busy=>none
   |_=>match pend with
    |some c=>some { S with fr:={ S.fr with todo:=.code c::k },H:={ S.H with blks:=S.H.blks.set l (.loop .exhausted pend fn sz tmps ps asg body d) } }
    |none=>some { S with fr:={ S.fr with todo:=k },H:={ S.H with blks:=S.H.blks.set l (.loop .exhausted pend fn sz tmps ps asg body d) } }
  |_=>none
 |.beginRound::k=>match S.fr.rnd with
  |some l=>match S.H.blks.get l with
   |some (.loop .ready pend fn sz tmps ps asg body d) =>
    some { S with fr:={ S.fr with todo:=k },H:={ S.H with blks:=S.H.blks.set l (.loop .busy pend fn sz tmps ps asg body d) } }
   |_=>none
  |none=>none
def aunwind (A : AP) (S : ASt) : Option ASt :=
 match S.fr.defers with
 |.collected b::ds=>match S.H.blks.get b with
  |some (.dfr (some calls))=>some { S with fr:={ S.fr with defers:=calls++ds },H:={ S.H with blks:=S.H.blks.set b (.dfr none) } }
  |_=>none
 |.call f cap args::ds=>match acallFn A S.H f cap args with
  |some (.enter g xs)=>match AFr.enter A g xs .deferred with
   |some fr=>some { S with fr,cs:={ S.fr with defers:=ds }::S.cs }
   |none=>none
  |_=>none
 |[]=>match S.fr.mode with
  |.run=>none
  |.panicking chain=>match S.cs,A.funcs.get S.fr.fn with
   |c::cs,some _=>match c.lone with
    |false=>some { fr:=c.raise chain,cs,H:=S.H }
    |true=>none
   |_,_=>none
  |.returning=>match A.funcs.get S.fr.fn with
   |some fn=>match aresults A S.H S.fr.tmps fn.results.toList with
    |some vs=>adoReturn S (aone vs)
    |none=>none
   |none=>none
def astep (A:AP) (E:Eqs) (D:Drawer) (S:ASt):Option ASt :=
 match S.fr.mode with
 |.run=>arun1 A E D S
 |.returning=>aunwind A S
 |.panicking _=>aunwind A S
end Go.Am
namespace Go.Am
open Go.RowKit
def fNat {β:Type} (n:Nat) (k:Nat→β):β :=
 match n with
 |0=>k 0
 |m+1=>k (m+1)
def fMode {β:Type} (m:AMode) (k:AMode→β):β :=
 match m with
 |.run=>k .run
 |.returning=>k .returning
 |.panicking c=>k (.panicking c)
def fKind {β:Type} (m:CallKind) (k:CallKind→β):β :=
 match m with
 |.normal=>k .normal
 |.deferred=>k .deferred
 |.wrapped=>k .wrapped
 |.report=>k .report
 |.early=>k .early
def fOpt {β:Type} (o:Option Nat) (k:Option Nat→β):β :=
 match o with
 |none=>k none
 |some n=>fNat n fun n=>k (some n)
def fList {α β:Type} (l:List α) (k:List α→β):β :=
 match l with
 |[]=>k []
 |x::xs=>k (x::xs)
def ASt.force {β : Type} (S : ASt) (k : ASt → β) : β :=
 match S with
 |⟨⟨fn, sz, tmps, todo, defers, mode, kind, rnd⟩, cs, ⟨blks, next, fams⟩⟩ =>
  fNat fn fun fn=>fNat sz fun sz=>fList todo fun todo=>fList defers fun defers=>fMode mode fun mode=>fKind kind fun kind=>fOpt rnd fun rnd =>
   fList cs fun cs=>fNat next fun next =>
    k ⟨⟨fn,sz,tmps,todo,defers,mode,kind,rnd⟩,cs,⟨blks,next,fams⟩⟩
theorem fNat_eq {β:Type} (n:Nat) (k:Nat→β):fNat n k=k n:=by cases n<;>rfl
theorem fMode_eq {β:Type} (n:AMode) (k:AMode→β):fMode n k=k n:=by cases n<;>rfl
theorem fKind_eq {β:Type} (n:CallKind) (k:CallKind→β):fKind n k=k n:=by cases n<;>rfl
theorem fOpt_eq {β:Type} (n:Option Nat) (k:Option Nat→β):fOpt n k=k n:=by
 cases n
 ·rfl
 ·simp only [fOpt,fNat_eq]
theorem fList_eq {α β:Type} (n:List α) (k:List α→β):fList n k=k n:=by cases n<;>rfl
theorem ASt.force_eq {β:Type} (S:ASt) (k:ASt→β):S.force k=k S:=by
 obtain ⟨⟨fn,sz,tmps,todo,defers,mode,kind,rnd⟩,cs,⟨blks,next,fams⟩⟩:=S
 simp only [ASt.force,fNat_eq,fMode_eq,fKind_eq,fOpt_eq,fList_eq]
def isTmp:Operand→Option Tmp
 |.tmp t=>some t
 |_=>none
def tmpsOf (l:List Operand):List Tmp:=l.filterMap isTmp
def looks (all:List Oper) (o:Oper):List Tmp :=
 match o.guard with
 |some (j,_)=>match all[j]? with
  |some p=>match p.dst with
   |some d=>d::tmpsOf o.op.operands.toList
   |none=>tmpsOf o.op.operands.toList
  |none=>tmpsOf o.op.operands.toList
 |none=>tmpsOf o.op.operands.toList
def restr (t:T AV):List Tmp→T AV
 |[]=>.nil
 |x::xs=>match t.get x with
  |some v=>(restr t xs).set x v
  |none=>restr t xs
def quietOp:Op→Bool
 |.move _ | .assign _ | .pick _ _ _ | .build _ _ | .load _ _ | .nilCheck _ | .binOp _ _ _ _ _ | .unOp _ _ _ | .convert _ _ _ | .makeInterface _ _ | .makeFunc _ _ _ | .slice _ _ _ _ _
 |.fieldAddr _ _ _ | .field _ _ _ | .indexAddr _ _ _ | .index _ _ _ | .lookup _ _ _ _ | .typeAssert _ _ _ _ | .extract _ _=>true
 |.call c=>match c.callee with
  |.builtin .len=>true
  |.builtin .min=>true
  |.builtin .max=>true
  |_=>false
 |_=>false
def newOp:Op→Bool
 |.alloc _ | .box _ _ | .buildSlice _ _ _ | .makeMap _ none=>true
 |_=>false
def anew (A : AP) (ρ : Operand → Option AV) (r : Nat) : Op → Option (AV × ABlk)
 |.alloc t=>match A.info t with
  |some ti=>match ti.zero with
   |some z=>match ofValue z with
    |some v=>some (.ptr r 0,.cells t r v.cells.length (T.ofList v.cells 0 .nil))
    |none=>none
   |none=>none
  |none=>none
 |.box t x=>match ρ x with
  |some v=>some (.ptr r 0,.cells t r v.cells.length (T.ofList v.cells 0 .nil))
  |none=>none
 |.buildSlice t len parts=>match aparts ρ parts.toList with
  |some ps=>match abuildSlice A t len ps with
   |some (e,cs)=>some (.sl r 0 len (.ex len),.cells e r cs.length (T.ofList cs 0 .nil))
   |none=>none
  |none=>none
 |.makeMap _ none=>some (.map r,.map [] 0)
 |_=>none
inductive Kin where
 |quiet
 |new
 |loud
def kin (o:Op):Kin :=
 match quietOp o with
 |true=>.quiet
 |false=>match newOp o with
  |true=>.new
  |false=>.loud
def readOp:Op→Bool
 |.load _ _ | .lookup _ _ _ _ | .fieldAddr _ _ _=>true
 |.call c=>match c.callee with
  |.builtin .len=>true
  |_=>false
 |_=>false
def ancOf (look:T Nat):List Edge→Nat→Nat
 |[],s=>s
 |e::es,s=>match Region.binds .any e with
  |true=>ancOf look es (s ||| (1 <<< e.on) ||| (look.get e.on).getD 0)
  |false=>ancOf look es s
def ancs:List Oper→Nat→T Nat→T Nat
 |[],_,t=>t
 |o::os,i,t=>ancs os (i+1) (t.set i (ancOf t o.after.toList 0))
def edgesOk:List Oper→Nat→Bool
 |[],_=>true
 |o::os,i=>match o.after.toList.all (fun e=>!Region.binds .any e || Nat.blt e.on i) with
  |true=>edgesOk os (i+1)
  |false=>false
def writers:List Oper→Nat→T Nat→Option (T Nat)
 |[],_,t=>some t
 |o::os,i,t=>match o.dst with
  |some d=>match t.get d with
   |some _=>none
   |none=>writers os (i+1) (t.set d i)
  |none=>writers os (i+1) t
def looksOk (all:List Oper) (an wr:T Nat):List Oper→Nat→Bool
 |[],_=>true
 |o::os,i=>match (looks all o).all (fun t=>match wr.get t with
   |some j=>((an.get i).getD 0).testBit j || (((an.get j).getD 0).testBit i && !readOp o.op)
   |none=>true) with
  |true=>looksOk all an wr os (i+1)
  |false=>false
def chainOk (an:T Nat):List Oper→Nat→List Nat→Bool
 |[],_,_=>true
 |o::os,i,es=>match kin o.op with
  |.quiet=>chainOk an os (i+1) es
  |.new=>chainOk an os (i+1) es
  |.loud=>match es.all (fun j=>((an.get i).getD 0).testBit j) with
   |true=>chainOk an os (i+1) (i::es)
   |false=>false
def guardsOk (an:T Nat) (all:List Oper):List Oper→Nat→Bool
 |[],_=>true
 |o::os,i=>match o.guard with
  |none=>guardsOk an all os (i+1)
  |some (j,_)=>match ((an.get i).getD 0).testBit j with
   |true=>guardsOk an all os (i+1)
   |false=>false
def dstat (ops:List Oper):Option (T Nat) :=
 match edgesOk ops 0 with
 |false=>none
 |true=>match writers ops 0 .nil with
  |none=>none
  |some wr=>match looksOk ops (ancs ops 0 .nil) wr ops 0 && chainOk (ancs ops 0 .nil) ops 0 [] && guardsOk (ancs ops 0 .nil) ops ops 0 with
   |true=>some (ancs ops 0 .nil)
   |false=>none
mutual
def AV.beq:AV→AV→Bool
 |.bool a,.bool b=>a == b
 |.int j a,.int k b=>decide (j=k) && decide (a=b)
 |.str a,.str b=>decide (a=b)
 |.ptr a o,.ptr b p=>Nat.beq a b && Nat.beq o p
 |.nilptr,.nilptr=>true
 |.zptr,.zptr=>true
 |.sl a o n (.ex c),.sl b p k (.ex d)=>Nat.beq a b && Nat.beq o p && Nat.beq n k && Nat.beq c d
 |.sl a o n (.un c x),.sl b p k (.un d y)=>Nat.beq a b && Nat.beq o p && Nat.beq n k && Nat.beq c d && Nat.beq x y
 |.nilsl,.nilsl=>true
 |.map a,.map b=>Nat.beq a b
 |.nilmap,.nilmap=>true
 |.fn f a b,.fn g c d=>decide (f=g) && AV.beqs a c && AV.beqs b d
 |.yld a,.yld b=>Nat.beq a b
 |.nilfn,.nilfn=>true
 |.ifc t a,.ifc u b=>Nat.beq t u && AV.beq a b
 |.nilifc,.nilifc=>true
 |.agg a,.agg b=>AV.beqs a b
 |.tup a,.tup b=>AV.beqs a b
 |_,_=>false
def AV.beqs:List AV→List AV→Bool
 |[],[]=>true
 |a::as,b::bs=>AV.beq a b && AV.beqs as bs
 |_,_=>false
end
def dput (sz:Nat) (t:T AV) (d:Option Tmp) (v:AV):Option (T AV) :=
 match d with
 |some d=>match Nat.blt d sz with
  |true=>some (t.set d v)
  |false=>none
 |none=>some t
def Heap.lay (H:Heap) (r:Nat) (b:ABlk):Heap :=
 match b with
 |.cells _ _ _ _=>{ H with blks:=H.blks.set r b,fams:=H.fams.set r (match H.fams.get r with
  |some L=>r::L
  |none=>[r]) }
 |_=>{ H with blks:=H.blks.set r b }
def layAll:List (Nat×Nat×ABlk)→Heap→Heap
 |[],H=>H
 |(_,r,b)::l,H=>layAll l (H.lay r b)
def parted (an:Nat):List (Nat×Nat×ABlk)→List (Nat×Nat×ABlk)×List (Nat×Nat×ABlk)
 |[]=>([],[])
 |e::l=>match an.testBit e.1,parted an l with
  |true,(x,y)=>(e::x,y)
  |false,(x,y)=>(x,e::y)
structure DSt where
 t:T AV
 vs:T AV
 H:Heap
 Hs:T Heap
 lev:Nat
 wait:List (Nat×Nat×ABlk)
 next:Nat
abbrev Runner:=ASt→Option (AV×Heap)
def dstep (A : AP) (E : Eqs) (R : Runner) (fr : AFr) (all : List Oper) (an : T Nat) (i : Nat) (o : Oper) (S : DSt) : Option DSt :=
 match aguard all (restr S.t (looks all o)) o.guard with
 |none=>none
 |some false=>match dput fr.sz S.t o.dst (.tup []) with
  |some t=>match kin o.op with
   |.loud=>some { S with t,Hs:=S.Hs.set (S.lev+1) S.H,lev:=S.lev+1 }
   |_=>some { S with t }
  |none=>none
 |some true=>match kin o.op with
  |.quiet=>match aop A E S.H { fr with tmps:=restr S.t (looks all o) }.ev o with
   |some (.val v _)=>match dput fr.sz S.t o.dst v with
    |some t=>some { S with t,vs:=S.vs.set i v }
    |none=>none
   |_=>none
  |.new=>match anew A { fr with tmps:=restr S.t (looks all o) }.ev S.next o.op with
   |some (v,b)=>match dput fr.sz S.t o.dst v with
    |some t=>some { S with t,wait:=(i,S.next,b)::S.wait,next:=S.next+1 }
    |none=>none
   |none=>none
  |.loud=>match parted ((an.get i).getD 0) S.wait with
   |(now, wait) => match R { fr := { fr with tmps := restr S.t (looks all o), todo := [.one all o], defers := [], mode := .run }, cs := [], H := layAll now S.H } with
    |some (v,H')=>match dput fr.sz S.t o.dst v with
     |some t=>some { S with t,H:=H',Hs:=S.Hs.set (S.lev+1) H',lev:=S.lev+1,wait }
     |none=>none
    |none=>none
def dcanon (A:AP) (E:Eqs) (R:Runner) (fr:AFr) (all:List Oper) (an:T Nat):List Oper→Nat→DSt→Option DSt
 |[],_,S=>some S
 |o::rest,i,S=>match dstep A E R fr all an i o S with
  |some S'=>dcanon A E R fr all an rest (i+1) S'
  |none=>none
def countNew:List Oper→Nat
 |[]=>0
 |o::os=>match kin o.op with
  |.new=>countNew os+1
  |_=>countNew os
def lowOf (an:T Nat) (i:Nat):List Oper→Nat→Nat→Nat
 |[],_,c=>c
 |o::os,j,c=>match kin o.op with
  |.quiet=>lowOf an i os (j+1) c
  |.new=>lowOf an i os (j+1) c
  |.loud=>match ((an.get i).getD 0).testBit j with
   |true=>lowOf an i os (j+1) (c+1)
   |false=>lowOf an i os (j+1) c
def highOf (an:T Nat) (i:Nat):List Oper→Nat→Nat→Nat
 |[],_,c=>c
 |o::os,j,c=>match kin o.op with
  |.quiet=>highOf an i os (j+1) c
  |.new=>highOf an i os (j+1) c
  |.loud=>match ((an.get j).getD 0).testBit i with
   |true=>highOf an i os (j+1) c
   |false=>highOf an i os (j+1) (c+1)
def sameIn (A : AP) (E : Eqs) (ρ : Operand → Option AV) (o : Oper) (v : AV) (Hs : T Heap) : Nat → Nat → Bool
 |_,0=>true
 |k,n+1=>match Hs.get k with
  |some H=>match aop A E H ρ o with
   |some (.val u _)=>match AV.beq u v with
    |true=>sameIn A E ρ o v Hs (k+1) n
    |false=>false
   |_=>false
  |none=>false
def readsOk (A:AP) (E:Eqs) (fr:AFr) (an:T Nat) (all:List Oper) (S:DSt):List Oper→Nat→Bool
 |[],_=>true
 |o::os,i=>match readOp o.op,S.vs.get i with
  |true,some v=>match sameIn A E { fr with tmps:=restr S.t (looks all o) }.ev o v S.Hs (lowOf an i all 0 0) (highOf an i all 0 0+1 - lowOf an i all 0 0) with
   |true=>readsOk A E fr an all S os (i+1)
   |false=>false
  |_,_=>readsOk A E fr an all S os (i+1)
def drawR (A : AP) (E : Eqs) (R : Runner) : Drawer :=
 fun fr ops H=>match dstat ops.toList with
  |none=>none
  |some an=>match dcanon A E R fr ops.toList an ops.toList 0 { t:=fr.tmps,vs:=.nil,H:={ H with next:=H.next+countNew ops.toList },Hs:=T.nil.set 0 { H with next:=H.next+countNew ops.toList },lev:=0,wait:=[],next:=H.next } with
   |none=>none
   |some S=>match readsOk A E fr an ops.toList S ops.toList 0 with
    |true=>some (S.t,layAll S.wait S.H)
    |false=>none
def afinal (A:AP) (S:ASt):Option (AV×Heap) :=
 match S.fr.mode,S.fr.defers,S.cs with
 |.returning,[],[]=>match A.funcs.get S.fr.fn with
  |some fn=>match aresults A S.H S.fr.tmps fn.results.toList with
   |some vs=>some (aone vs,S.H)
   |none=>none
  |none=>none
 |_,_,_=>none
end Go.Am
