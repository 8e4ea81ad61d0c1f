/- Parts of the proof: Am13, Am14, Am15, Am16, Pv1, Pv2 -/
import Derived.Test.YtabejoodkhlnaaaGreatP2
import Derived.Calls
set_option linter.unusedVariables false
set_option linter.unusedSimpArgs false
namespace Go.Am
open Go.RowKit
section
variable {m:Env} {w:World} {A:AP} {P:Program} {E:Eqs} {B0:Prot} {w0:World} {H:Heap}
def FR (m:Env):Option (Nat×AV)→Option (Nat×Value)→Prop
 |none,r=>r=none
 |some (i,v),r=>∃ x,r=some (i,x)∧VR m v x
theorem findAsking_ok (hA:A.Ok P) (hE:E.Ok P) {kt:TypeId} {k:AV} {kv:Value} (hk:VR m k kv):∀ (es:List AEnt) (xs:List MapEntry) (i:Nat) (r:Option (Nat×AV)),afind A E kt k es i=some r→ER m es xs→∃ r',(Instr.findAsking kt kv xs i).run P w=.ok r' w∧FR m r r'
 |[],xs,i,r,h,he=>by
  simp only [afind,Option.some.injEq] at h
  simp only [ER] at he
  subst h he
  exact ⟨none,by simp [Instr.findAsking],rfl⟩
 |e::es,xs,i,r,h,he=>by
  simp only [ER] at he
  obtain ⟨y,ys,rfl,e1,e2,_,e4⟩:=he
  simp only [afind] at h
  split at h
  ·next hq =>
   cases h
   have:=(aeq_ok (w:=w) hA hE 20).1 _ _ _ _ _ _ 10000 hq hk e1 (by omega)
   exact ⟨some (i,y.val),by simp [Instr.findAsking,Op.equal,Op.maxDepth,this],y.val,rfl,e2⟩
  ·next hq =>
   have:=(aeq_ok (w:=w) hA hE 20).1 _ _ _ _ _ _ 10000 hq hk e1 (by omega)
   obtain ⟨r',r1,r2⟩:=findAsking_ok hA hE hk es ys (i+1) r h e4
   exact ⟨r',by simp [Instr.findAsking,Op.equal,Op.maxDepth,this,r1],r2⟩
  ·cases h
theorem sameNow_ok {kind:TypeDesc} {x y:AV} {n:Nat} {kt:TypeId} {b b':Bool} {xv yv:Value} (hx:VR m x xv) (hy:VR m y yv)
  (h:aeqv A E (n+1) kt x y=some b) (hs:Instr.sameNow kind xv yv=some b'):b=b':=by
 cases x<;>cases y<;>simp only [aeqv,reduceCtorEq] at h
 case bool.bool p q =>
  simp only [VR] at hx hy
  subst hx hy
  split at h
  ·cases h
   unfold Instr.sameNow at hs
   split at hs<;>first
    |(cases hs;done)
    |(rename_i h1 h2;cases h1;cases h2;cases hs;rfl)
    |(rename_i h1 h2;cases h1)
  ·cases h
 case int.int k p k' q =>
  simp only [VR] at hx hy
  subst hx hy
  split at h
  ·split at h
   ·next hk =>
    simp only [decide_eq_true_eq] at hk
    subst hk
    cases h
    unfold Instr.sameNow at hs
    split at hs<;>first
     |(cases hs;done)
     |(rename_i h1 h2;cases h1;cases h2;simp at hs;subst hs;rfl)
     |(rename_i h1 h2;cases h1)
   ·cases h
  ·cases h
 case str.str p q =>
  simp only [VR] at hx hy
  subst hx hy
  split at h
  ·cases h
   unfold Instr.sameNow at hs
   split at hs<;>first
    |(cases hs;done)
    |(rename_i h1 h2;cases h1;cases h2;cases hs;exact (beq_toListBytes _ _).symm)
    |(rename_i h1 h2;cases h1)
  ·cases h
 case agg.agg xs ys =>
  simp only [VR] at hx hy
  obtain ⟨xs',rfl,_⟩:=hx
  obtain ⟨ys',rfl,_⟩:=hy
  simp [Instr.sameNow] at hs
theorem findNow_ok {kind:TypeDesc} {kt:TypeId} {k:AV} {kv:Value} (hk:VR m k kv):∀ (es:List AEnt) (xs:List MapEntry) (i:Nat) (r:Option (Nat×AV)) (r':Option (Nat×Value)),afind A E kt k es i=some r→ER m es xs→Instr.findNow kind kv xs i=some r'→FR m r r'
 |[],xs,i,r,r',h,he,hn=>by
  simp only [afind,Option.some.injEq] at h
  simp only [ER] at he
  subst h he
  simp only [Instr.findNow,Option.some.injEq] at hn
  exact hn.symm
 |e :: es, xs, i, r, r', h, he, hn => by
  simp only [ER] at he
  obtain ⟨y,ys,rfl,e1,e2,_,e4⟩:=he
  simp only [Instr.findNow] at hn
  simp only [afind] at h
  split at h
  ·next hq =>
   cases h
   split at hn
   ·cases hn
    exact ⟨y.val,rfl,e2⟩
   ·next hs=>exact absurd (sameNow_ok hk e1 hq hs) (by simp)
   ·cases hn
  ·next hq =>
   split at hn
   ·next hs=>exact absurd (sameNow_ok hk e1 hq hs) (by simp)
   ·exact findNow_ok hk es ys (i+1) r r' h e4 hn
   ·cases hn
  ·cases h
theorem findKey_ok (hA:A.Ok P) (hE:E.Ok P) {kt:TypeId} {d:TypeDesc} (hu:A.under kt=some d) {k:AV} {kv:Value} (hk:VR m k kv) {es:List AEnt} {xs:List MapEntry} {r:Option (Nat×AV)}
  (h:afind A E kt k es 0=some r) (he:ER m es xs):∃ r',(Instr.findKey kt kv xs).run P w=.ok r' w∧FR m r r':=by
 simp only [Instr.findKey,Sem.run_bind,run_underlying (hA.under_ok hu),Result.andThen_ok]
 cases hn:Instr.findNow d kv xs 0 with
 |some r'=>exact ⟨r',rfl,findNow_ok hk es xs 0 r r' h he hn⟩
 |none=>exact findAsking_ok hA hE hk es xs 0 r h he
theorem acheck_under {n:Nat} {t:TypeId} {v:AV} (h:acheck A n t v=true):∃ d,A.under t=some d:=by
 cases n with
 |zero=>simp [acheck] at h
 |succ n =>
  simp only [acheck] at h
  cases hu:A.under t with
  |none=>simp [hu] at h
  |some d=>exact ⟨d,rfl⟩
theorem alookup_ok (hA:A.Ok P) (hE:E.Ok P) (h:HR B0 w0 m H w) {t:TypeId} {x k v:AV} {ok:Bool} (hl:alookup A E H t x k ok=some v) {xv kv:Value} (hx:VR m x xv) (hk:VR m k kv) :
  ∃ r,(Instr.lookup t xv kv ok).run P w=.ok r w∧VR m v r:=by
 unfold alookup at hl
 split at hl
 case h_2=>cases hl
 next kt et hu =>
 simp only [] at hl
 split at hl
 case h_2=>cases hl
 next es hes =>
 obtain ⟨arr,harr,hER⟩:∃ arr:Array MapEntry,((xv=.map none∧arr=#[])∨∃ l clock,xv=.map (some l)∧(getObj l).run P w=.ok (.map arr clock) w)∧ER m es arr.toList:=by
  split at hes
  ·cases hes
   simp only [VR] at hx
   subst hx
   exact ⟨#[],.inl ⟨rfl,rfl⟩,rfl⟩
  ·next a =>
   split at hes
   ·next es' clock hb =>
    cases hes
    simp only [VR] at hx
    obtain ⟨l,hl,rfl⟩:=hx
    obtain ⟨l',h1,arr,h2,h3⟩:=h.blk a _ hb
    rw [hl] at h1
    cases h1
    exact ⟨arr,.inr ⟨l.blk,clock,rfl,by simp [getObj,Sem.run,h2]⟩,h3⟩
   ·cases hes
  ·cases hes
 split at hl
 case h_2=>cases hl
 next hc =>
 split at hl
 case h_2=>cases hl
 next r hr =>
 split at hl
 case h_2=>cases hl
 next v' b hv =>
 obtain ⟨d,hd⟩:=acheck_under hc
 obtain ⟨r',r1,r2⟩:=findKey_ok (w:=w) hA hE hd hk hr hER
 have hck:=acheck_ok (w:=w) hA arr.isEmpty 20 kt k kv 10000 hc hk (by omega)
 have fin:∀ y,VR m v' y→VR m v (if ok then .tuple #[y,.bool b] else y):=by
  intro y hy
  cases hl
  cases ok
  ·exact hy
  ·simp only [if_true,VR]
   refine ⟨_,rfl,?_⟩
   simp only [VRs,VR]
   exact ⟨_,_,rfl,hy,_,_,rfl,rfl,rfl⟩
 have hu':=hA.under_ok hu
 split at hv
 ·next i u =>
  cases hv
  obtain ⟨z,rfl,hz⟩:=r2
  refine ⟨_,?_,fin z hz⟩
  rcases harr with ⟨rfl,rfl⟩ | ⟨l,clock,rfl,hg⟩
  ·simp only [Array.isEmpty_empty] at hck
   simp [Instr.lookup,run_underlying hu',hck]
   simp at r1
   simp [r1]
  ·simp [Instr.lookup,run_underlying hu',hg,hck,r1]
 ·simp only [FR] at r2
  subst r2
  split at hv
  case h_2=>cases hv
  next ti hti =>
  split at hv
  case h_2=>cases hv
  next z hz =>
  split at hv
  case h_2=>cases hv
  next z' hz' =>
  cases hv
  refine ⟨_,?_,fin z (ofValue_ok hz')⟩
  rcases harr with ⟨rfl,rfl⟩ | ⟨l,clock,rfl,hg⟩
  ·simp only [Array.isEmpty_empty] at hck
   simp [Instr.lookup,run_underlying hu',hck]
   simp at r1
   simp [r1,zeroValue,run_typeInfo' (hA.info _ _ hti),hz]
  ·simp [Instr.lookup,run_underlying hu',hg,hck,r1,zeroValue,run_typeInfo' (hA.info _ _ hti),hz]
theorem ER.get {es:List AEnt} {xs:List MapEntry} (h:ER m es xs):∀ (i:Nat) e,es[i]?=some e→∃ y,xs[i]?=some y∧VR m e.1 y.key∧VR m e.2.1 y.val:=by
 induction es generalizing xs with
 |nil=>intro i e hi;simp at hi
 |cons a as ih =>
  intro i e hi
  simp only [ER] at h
  obtain ⟨y,ys,rfl,h1,h2,_,h4⟩:=h
  cases i with
  |zero=>simp at hi;subst hi;exact ⟨y,rfl,h1,h2⟩
  |succ i=>simp at hi ⊢;exact ih h4 i e hi
theorem ER.setAt {es:List AEnt} {xs:List MapEntry} (h:ER m es xs) {k v:AV} {kv vv:Value} (hk:VR m k kv) (hv:VR m v vv) :
  ∀ (i:Nat),ER m (asetAt es i k v) (xs.modify i fun e=>{ e with key:=kv,val:=vv }):=by
 induction es generalizing xs with
 |nil=>intro i;simp only [ER] at h;subst h;simp [asetAt,ER]
 |cons a as ih =>
  intro i
  simp only [ER] at h
  obtain ⟨y,ys,rfl,h1,h2,h3,h4⟩:=h
  cases i with
  |zero =>
   simp only [asetAt,List.modify_zero_cons,ER]
   exact ⟨_,_,rfl,hk,hv,h3,h4⟩
  |succ i =>
   simp only [asetAt,List.modify_succ_cons,ER]
   exact ⟨_,_,rfl,h1,h2,h3,ih h4 i⟩
theorem ER.snoc {es:List AEnt} {xs:List MapEntry} (h:ER m es xs) {k v:AV} {kv vv:Value} (hk:VR m k kv) (hv:VR m v vv) (b:Nat) :
  ER m (es++[(k,v,b)]) (xs++[{ key:=kv,val:=vv,born:=b }]):=by
 induction es generalizing xs with
 |nil=>simp only [ER] at h;subst h;simp only [List.nil_append,ER];exact ⟨_,_,rfl,hk,hv,rfl,rfl⟩
 |cons a as ih =>
  simp only [ER] at h
  obtain ⟨y,ys,rfl,h1,h2,h3,h4⟩:=h
  simp only [List.cons_append,ER]
  exact ⟨_,_,rfl,h1,h2,h3,ih h4⟩
theorem HR.setObj (h:HR B0 w0 m H w) {a:Nat} {b b':ABlk} (hb:H.blks.get a=some b) (hnb:∀ t f n c,b≠.cells t f n c) (hnb':∀ t f n c,b'≠.cells t f n c) {l:Loc} (hl:m a=some l) {o':Obj}
  (hbr:BR m b' l (some o')):HR B0 w0 m { H with blks:=H.blks.set a b' } { w with heap:=w.heap.setIfInBounds l.blk o' }:=by
 refine h.upd hb hl (h.live a b l hb hl) (upd_setIf w l.blk o' (h.inb a l hl)) hbr rfl (by rw [T.get_set];simp) ?_ ?_
 ·intro x bx hxa hx
  simp only [T.get_set,hxa,if_false] at hx
  refine ⟨hx,fun l' hl' e=>?_⟩
  rcases h.sep x a bx b l' l hx hb hl' hl e with e1 | ⟨t,f,n,c,t',n',c',e1,e2,_⟩
  ·exact hxa e1
  ·exact hnb _ _ _ _ e2
 ·intro x t f n c hx
  by_cases hxa:x=a
  ·subst hxa
   simp only [T.get_set,if_true,Option.some.injEq] at hx
   exact absurd hx (hnb' _ _ _ _)
  ·simp only [T.get_set,hxa,if_false] at hx
   exact h.fam x t f n c hx
theorem amapUpdate_ok (hA:A.Ok P) (hE:E.Ok P) (h:HR B0 w0 m H w) {t:TypeId} {x k v:AV} {H':Heap} (hl:amapUpdate A E H t x k v=some H') {xv kv vv:Value} (hx:VR m x xv) (hk:VR m k kv) (hv:VR m v vv) :
  ∃ w',(Instr.mapUpdate t xv kv vv).run P w=.ok () w'∧HR B0 w0 m H' w':=by
 unfold amapUpdate at hl
 split at hl
 case h_2=>cases hl
 next kt et a hu =>
 split at hl
 case h_2=>cases hl
 next es clock hb =>
 split at hl
 case h_2=>cases hl
 next hc =>
 simp only [VR] at hx
 obtain ⟨l,hm,rfl⟩:=hx
 obtain ⟨l',h1,arr,h2,h3⟩:=h.blk a _ hb
 rw [hm] at h1
 cases h1
 have hck:=acheck_ok (w:=w) hA false 20 kt k kv 10000 hc hk (by omega)
 obtain ⟨d,hd⟩:=acheck_under hc
 have hget:(getObj l.blk).run P w=.ok (.map arr clock) w:=by simp [getObj,Sem.run,h2]
 have hset:∀ o',(setObj l.blk o').run P w=.ok () { w with heap:=w.heap.setIfInBounds l.blk o' }:=fun o'=>by simp [setObj,Sem.run,h2]
 split at hl
 ·next i u hf =>
  split at hl
  case h_2=>cases hl
  next e he =>
  split at hl
  case h_2=>cases hl
  next hs =>
  cases hl
  obtain ⟨r',r1,r2⟩:=findKey_ok (w:=w) hA hE hd hk hf h3
  obtain ⟨z,rfl,hz⟩:=r2
  obtain ⟨y,y1,y2,y3⟩:=h3.get i e he
  have hsb:=(asame_ok 20).1 _ _ _ _ 10000 hs y2 hk (by omega)
  have hy1:arr[i]?=some y:=by simpa using y1
  refine ⟨_,?_,h.setObj (b':=.map (asetAt es i k v) clock) hb (by simp) (by simp) hm (o':=.map (arr.modify i fun e=>{ e with key:=kv,val:=vv }) clock) ⟨_,rfl,?_⟩⟩
  ·simp [Instr.mapUpdate,run_underlying (hA.under_ok hu),hget,hck,r1,Instr.keyThatStays,hy1,hsb,hset]
  ·have:=h3.setAt hk hv i
   simpa using this
 ·next hf =>
  cases hl
  obtain ⟨r',r1,r2⟩:=findKey_ok (w:=w) hA hE hd hk hf h3
  simp only [FR] at r2
  subst r2
  refine ⟨_,?_,h.setObj (b':=.map (es++[(k,v,clock)]) (clock+1)) hb (by simp) (by simp) hm (o':=.map (arr.push { key:=kv,val:=vv,born:=clock }) (clock+1)) ⟨_,rfl,?_⟩⟩
  ·simp [Instr.mapUpdate,run_underlying (hA.under_ok hu),hget,hck,r1,hset]
  ·have:=h3.snoc hk hv clock
   simpa using this
 ·cases hl
theorem ER.setKey {es:List AEnt} {xs:List MapEntry} (h:ER m es xs) {k:AV} {kv:Value} (hk:VR m k kv) :
  ∀ (i:Nat),ER m (asetKey es i k) (xs.modify i fun e=>{ e with key:=kv }):=by
 induction es generalizing xs with
 |nil=>intro i;simp only [ER] at h;subst h;simp [asetKey,ER]
 |cons a as ih =>
  intro i
  simp only [ER] at h
  obtain ⟨y,ys,rfl,h1,h2,h3,h4⟩:=h
  cases i with
  |zero =>
   simp only [asetKey,List.modify_zero_cons,ER]
   exact ⟨_,_,rfl,hk,h2,h3,h4⟩
  |succ i =>
   simp only [asetKey,List.modify_succ_cons,ER]
   exact ⟨_,_,rfl,h1,h2,h3,ih h4 i⟩
theorem ER.setVal {es:List AEnt} {xs:List MapEntry} (h:ER m es xs) {v:AV} {vv:Value} (hv:VR m v vv) :
  ∀ (i:Nat),ER m (asetVal es i v) (xs.modify i fun e=>{ e with val:=vv }):=by
 induction es generalizing xs with
 |nil=>intro i;simp only [ER] at h;subst h;simp [asetVal,ER]
 |cons a as ih =>
  intro i
  simp only [ER] at h
  obtain ⟨y,ys,rfl,h1,h2,h3,h4⟩:=h
  cases i with
  |zero =>
   simp only [asetVal,List.modify_zero_cons,ER]
   exact ⟨_,_,rfl,h1,hv,h3,h4⟩
  |succ i =>
   simp only [asetVal,List.modify_succ_cons,ER]
   exact ⟨_,_,rfl,h1,h2,h3,ih h4 i⟩
theorem ER.born {es:List AEnt} {xs:List MapEntry} (h:ER m es xs):∀ (i:Nat) e,es[i]?=some e→∃ y,xs[i]?=some y∧VR m e.1 y.key∧e.2.2=y.born:=by
 induction es generalizing xs with
 |nil=>intro i e hi;simp at hi
 |cons a as ih =>
  intro i e hi
  simp only [ER] at h
  obtain ⟨y,ys,rfl,h1,_,h3,h4⟩:=h
  cases i with
  |zero=>simp at hi;subst hi;exact ⟨y,rfl,h1,h3⟩
  |succ i=>simp at hi ⊢;exact ih h4 i e hi
theorem ER.bornAt {es:List AEnt} {xs:List MapEntry} (h:ER m es xs) {n:Int}:∀ {i j:Nat},abornAt es n j=some i→∃ k,i=j+k∧xs.findIdx? (fun e=>(e.born:Int) == n)=some k:=by
 induction es generalizing xs with
 |nil=>intro i j hi;simp [abornAt] at hi
 |cons a as ih =>
  intro i j hi
  simp only [ER] at h
  obtain ⟨y,ys,rfl,h1,_,h3,h4⟩:=h
  simp only [abornAt] at hi
  split at hi
  ·next hd =>
   cases hi
   have hd:=of_decide_eq_true hd
   refine ⟨0,rfl,?_⟩
   rw [h3] at hd
   simp [List.findIdx?_cons,hd]
  ·next hd =>
   have hd:=of_decide_eq_false hd
   obtain ⟨k,k1,k2⟩:=ih h4 hi
   refine ⟨k+1,by omega,?_⟩
   rw [h3] at hd
   simp [List.findIdx?_cons,hd,k2]
theorem amapEntry_ok (hA:A.Ok P) (hE:E.Ok P) (h:HR B0 w0 m H w) {t:TypeId} {x k v:AV} {H':Heap} (hl:amapEntry A E H t x k=some (v,H')) {xv kv:Value} (hx:VR m x xv) (hk:VR m k kv) :
  ∃ r w',(Instr.mapEntry t xv kv).run P w=.ok r w'∧VR m v r∧HR B0 w0 m H' w':=by
 unfold amapEntry at hl
 split at hl
 case h_2=>cases hl
 next kt et a hu =>
 split at hl
 case h_2=>cases hl
 next es clock hb =>
 split at hl
 case h_2=>cases hl
 next hc =>
 simp only [VR] at hx
 obtain ⟨l,hm,rfl⟩:=hx
 obtain ⟨l',h1,arr,h2,h3⟩:=h.blk a _ hb
 rw [hm] at h1
 cases h1
 have hck:=acheck_ok (w:=w) hA false 20 kt k kv 10000 hc hk (by omega)
 obtain ⟨d,hd⟩:=acheck_under hc
 have hget:(getObj l.blk).run P w=.ok (.map arr clock) w:=by simp [getObj,Sem.run,h2]
 have hset:∀ o',(setObj l.blk o').run P w=.ok () { w with heap:=w.heap.setIfInBounds l.blk o' }:=fun o'=>by simp [setObj,Sem.run,h2]
 have two:∀ (u:AV) (z:Value) (n:Nat),VR m u z→VR m (.tup [u,.int .i64 (.ofNat n)]) (.tuple #[z,goInt n]):=by
  intro u z n hz
  simp only [VR]
  refine ⟨_,rfl,?_⟩
  simp only [VRs,VR]
  exact ⟨_,_,rfl,hz,_,_,rfl,rfl,rfl⟩
 split at hl
 ·next i u hf =>
  split at hl
  case h_2=>cases hl
  next e he =>
  split at hl
  case h_2=>cases hl
  next hs =>
  cases hl
  obtain ⟨r',r1,r2⟩:=findKey_ok (w:=w) hA hE hd hk hf h3
  obtain ⟨z,rfl,hz⟩:=r2
  obtain ⟨y,y1,y2,y3⟩:=h3.born i e he
  have hsb:=(asame_ok 20).1 _ _ _ _ 10000 hs y2 hk (by omega)
  have hy1:arr[i]?=some y:=by simpa using y1
  refine ⟨.tuple #[z,goInt y.born],_,?_,by rw [y3];exact two u z y.born hz,h.setObj (b':=.map (asetKey es i k) clock) hb (by simp) (by simp) hm (o':=.map (arr.modify i fun e=>{ e with key:=kv }) clock) ⟨_,rfl,?_⟩⟩
  ·simp [Instr.mapEntry,run_underlying (hA.under_ok hu),hget,hck,r1,Instr.keyThatStays,hy1,hsb,hset]
  ·have:=h3.setKey hk i
   simpa using this
 ·next hf =>
  split at hl
  case h_2=>cases hl
  next z hz =>
  cases hl
  obtain ⟨r',r1,r2⟩:=findKey_ok (w:=w) hA hE hd hk hf h3
  simp only [FR] at r2
  subst r2
  unfold azeroOf at hz
  split at hz
  case h_2=>cases hz
  next ti hti =>
  split at hz
  case h_2=>cases hz
  next zv hzv =>
  refine ⟨.tuple #[zv,goInt clock],_,?_,two z zv clock (ofValue_ok hz),h.setObj (b':=.map (es++[(k,z,clock)]) (clock+1)) hb (by simp) (by simp) hm (o':=.map (arr.push { key:=kv,val:=zv,born:=clock }) (clock+1)) ⟨_,rfl,?_⟩⟩
  ·simp [Instr.mapEntry,run_underlying (hA.under_ok hu),hget,hck,r1,hset,zeroValue,run_typeInfo' (hA.info _ _ hti),hzv]
  ·have:=h3.snoc hk (ofValue_ok (m:=m) hz) clock
   simpa using this
 ·cases hl
theorem aentryStore_ok (h:HR B0 w0 m H w) {t:TypeId} {x s v:AV} {H':Heap} (hl:aentryStore H x s v=some H') {xv sv vv:Value} (hx:VR m x xv) (hs:VR m s sv) (hv:VR m v vv) :
  ∃ w',(Instr.entryStore t xv sv vv).run P w=.ok () w'∧HR B0 w0 m H' w':=by
 unfold aentryStore at hl
 split at hl
 case h_2=>cases hl
 next a kk n =>
 split at hl
 case h_2=>cases hl
 next es clock hb =>
 split at hl
 case h_2=>cases hl
 next i hi =>
 cases hl
 simp only [VR] at hx hs
 obtain ⟨l,hm,rfl⟩:=hx
 subst hs
 obtain ⟨l',h1,arr,h2,h3⟩:=h.blk a _ hb
 rw [hm] at h1
 cases h1
 obtain ⟨k,rfl,hk⟩:=h3.bornAt hi
 have hget:(getObj l.blk).run P w=.ok (.map arr clock) w:=by simp [getObj,Sem.run,h2]
 have hset:∀ o',(setObj l.blk o').run P w=.ok () { w with heap:=w.heap.setIfInBounds l.blk o' }:=fun o'=>by simp [setObj,Sem.run,h2]
 have hk':arr.findIdx? (fun e=>(e.born:Int) == n)=some k:=by
  obtain ⟨ls⟩:=arr
  rw [List.findIdx?_toArray]
  exact hk
 refine ⟨_,?_,h.setObj (b':=.map (asetVal es (0+k) v) clock) hb (by simp) (by simp) hm (o':=.map (arr.modify k fun e=>{ e with val:=vv }) clock) ⟨_,rfl,?_⟩⟩
 ·simp [Instr.entryStore,hget,run_asIntOf,asInt,hk',hset]
 ·have:=h3.setVal hv k
  rw [Nat.zero_add]
  simpa using this
end
end Go.Am
namespace Go.Am
open Go.RowKit
def anat:AV→Option Nat
 |.int _ (.ofNat n)=>some n
 |_=>none
def azeros (A:AP) (e:TypeId) (n:Nat):Option (List AV) :=
 match A.info e with
 |some ie=>match ie.zero with
  |some z=>match z.cells.size == ie.size && Nat.ble 1 ie.size,ofCells z.cells.toList with
   |true,some cs=>some (acopies cs n)
   |_,_=>none
  |none=>none
 |none=>none
def amakeSlice (A:AP) (H:Heap) (t:TypeId) (len cap:AV):Option (AV×Heap) :=
 match A.under t,anat len,anat cap with
 |some (.slice e),some l,some c=>match A.info e,azeros A e c with
  |some ie,some zs=>match Nat.ble l c && Nat.ble c 1000000000 && Nat.ble (ie.bytes * c) 140737488355328 with
   |true=>some (.sl H.next 0 l (.ex c),H.newB e zs)
   |false=>none
  |_,_=>none
 |_,_,_=>none
def alen (A:AP) (H:Heap) (t:TypeId) (x:AV):Option AV :=
 match A.under t,x with
 |some .string,.str s=>some (.int .i64 s.size)
 |some (.slice _),.sl _ _ n _=>some (.int .i64 n)
 |some (.slice _),.nilsl=>some (.int .i64 0)
 |some (.array n _),_=>some (.int .i64 n)
 |some (.map _ _),.nilmap=>some (.int .i64 0)
 |some (.map _ _),.map a=>match H.blks.get a with
  |some (.map es _)=>some (.int .i64 es.length)
  |_=>none
 |_,_=>none
def acopy (A : AP) (H : Heap) (t : TypeId) (d s : AV) : Option (AV × Heap) :=
 match A.under t with
 |some (.slice e)=>match A.info e with
  |some ie=>match d,s with
   |.nilsl,.nilsl=>some (.int .i64 0,H)
   |.nilsl,.sl _ _ _ _=>some (.int .i64 0,H)
   |.sl _ _ _ _,.nilsl=>some (.int .i64 0,H)
   |.sl a o dl _,.sl b p sl _=>match Nat.min sl dl with
    |0=>some (.int .i64 0,H)
    |n+1=>match H.cellsAt b p ((n+1) * ie.size) with
     |some vs=>match H.puts a o vs with
      |some H'=>some (.int .i64 (n+1:Nat),H')
      |none=>none
     |none=>none
   |_,_=>none
  |none=>none
 |_=>none
def aclear (A : AP) (H : Heap) (t : TypeId) (x : AV) : Option (AV × Heap) :=
 match A.under t,x with
 |some (.slice _),.nilsl=>some (.tup [],H)
 |some (.slice e),.sl a o n _=>match n with
  |0=>some (.tup [],H)
  |_+1=>match azeros A e n with
   |some zs=>match H.puts a o zs with
    |some H'=>some (.tup [],H')
    |none=>none
   |none=>none
 |_,_=>none
def aminmax (mx:Bool):AV→List AV→Option AV
 |x,[]=>some x
 |.int k a,.int k' b::l=>match decide (k=k') with
  |true=>match mx with
   |false=>aminmax mx (.int k (if b < a then b else a)) l
   |true=>aminmax mx (.int k (if b > a then b else a)) l
  |false=>none
 |_,_=>none
def amakeInterface (A:AP) (t:TypeId) (x:AV):Option AV :=
 match A.under t with
 |some (.interface _)=>none
 |some _=>some (.ifc t x)
 |none=>none
def atypeAssert (A : AP) (x : AV) (asserted : TypeId) (ok : Bool) : Option AV :=
 match A.under asserted with
 |some (.interface _)=>none
 |none=>none
 |some _=>match x with
  |.ifc t v=>match Nat.beq t asserted with
   |true=>some (match ok with
    |true=>.tup [v,.bool true]
    |false=>v)
   |false=>match ok,A.info asserted with
    |true,some ti=>match ti.zero with
     |some z=>match ofValue z with
      |some z=>some (.tup [z,.bool false])
      |none=>none
     |none=>none
    |_,_=>none
  |.nilifc=>match ok,A.info asserted with
   |true,some ti=>match ti.zero with
    |some z=>match ofValue z with
     |some z=>some (.tup [z,.bool false])
     |none=>none
    |none=>none
   |_,_=>none
  |_=>none
section
variable {m:Env} {w:World} {A:AP} {P:Program} {E:Eqs} {B0:Prot} {w0:World} {H:Heap}
theorem anat_ok {v:AV} {n:Nat} (h:anat v=some n) {x:Value} (hx:VR m v x):∃ k,x=.int k (n:Int):=by
 unfold anat at h
 split at h
 ·cases h
  simp only [VR] at hx
  exact ⟨_,hx⟩
 ·cases h
theorem azeros_ok (hA:A.Ok P) {e:TypeId} {n:Nat} {zs:List AV} (h:azeros A e n=some zs) :
  ∃ ie z,A.info e=some ie∧P.info? e=some ie∧ie.zero=some z∧z.cells.size=ie.size∧1≤ie.size∧zs.length=n * ie.size ∧
   VRs m zs ((Array.range (n * ie.size)).map (z.cells[· % z.cells.size]!)).toList:=by
 unfold azeros at h
 split at h
 case h_2=>cases h
 next ie hie =>
 split at h
 case h_2=>cases h
 next z hz =>
 split at h
 case h_2=>cases h
 next cs hb hcs =>
 cases h
 simp only [Bool.and_eq_true,beq_iff_eq,Nat.ble_eq] at hb
 obtain ⟨hb1,hb2⟩:=hb
 have hc0:=ofCells_ok (m:=m) hcs
 have hcl:z.cells.size=cs.length:=by simpa using hc0.length
 refine ⟨ie,z,hie,hA.info _ _ hie,hz,hb1,hb2,by rw [length_acopies,← hcl,hb1],?_⟩
 refine VRs.of_get (by rw [length_acopies];simp;rw [← hcl,hb1]) fun i a y ha hy=>?_
 have hlt:i < n * cs.length:=by
  have:=(List.getElem?_eq_some_iff.1 ha).1
  rwa [length_acopies] at this
 rw [get_acopies cs (by omega) _ _ hlt] at ha
 obtain ⟨u,u1,u2⟩:=hc0.get ha
 have hmod:i % cs.length < z.cells.size:=by rw [hcl];exact Nat.mod_lt _ (by omega)
 have hlt':i < n * ie.size:=by rw [← hb1,hcl];exact hlt
 simp [hlt'] at hy
 rw [hcl] at hy
 rw [Array.getElem?_toList] at u1
 rw [← hy,getElem!_pos z.cells _ hmod]
 rw [Array.getElem?_eq_getElem hmod] at u1
 cases u1
 exact u2
theorem amakeSlice_ok (hA:A.Ok P) (h:HR B0 w0 m H w) {t:TypeId} {len cap v:AV} {H':Heap} (e:amakeSlice A H t len cap=some (v,H')) {lv cv:Value} (hl:VR m len lv) (hc:VR m cap cv) :
  ∃ r m' w',(Instr.makeSlice t lv cv).run P w=.ok r w'∧m.le m'∧VR m' v r∧HR B0 w0 m' H' w':=by
 unfold amakeSlice at e
 split at e
 case h_2=>cases e
 next el l c hu hln hcn =>
 split at e
 case h_2=>cases e
 next ie zs hie hzs =>
 split at e
 case h_2=>cases e
 next hb =>
 cases e
 simp only [Bool.and_eq_true,Nat.ble_eq] at hb
 obtain ⟨⟨hb1,hb2⟩,hb3⟩:=hb
 obtain ⟨k1,rfl⟩:=anat_ok hln hl
 obtain ⟨k2,rfl⟩:=anat_ok hcn hc
 obtain ⟨ie',z,z0,z1,z2,z3,z4,z5,z6⟩:=azeros_ok (m:=m) hA hzs
 rw [hie] at z0
 cases z0
 have hn:=h.newB_of el (rest:=[]) z6
 have wl:IntKind.i64.wrap (l:Int)=(l:Int):=wrap_in _ (by omega) (by omega)
 have wc:IntKind.i64.wrap (c:Int)=(c:Int):=wrap_in _ (by omega) (by omega)
 have hbig:¬ ((ie.bytes:Int) * (c:Int) > 2 ^ 48):=by
  have e1:((ie.bytes:Int) * (c:Int))=((ie.bytes * c:Nat):Int):=by simp
  rw [e1]
  have:(2:Int) ^ 48=281474976710656:=rfl
  omega
 have hbig':¬ ((2:Int) ^ 48 < (ie.bytes:Int) * (c:Int)):=hbig
 have hlc:¬ ((c:Int) < (l:Int)):=by omega
 have hne:¬ (c * ie.size=0∧False):=by simp
 refine ⟨.slice (some ⟨w.heap.size,0,none⟩) l c,_,_,?_,h.le_ext _,?_,hn⟩
 ·by_cases hc0:c=0
  ·subst hc0
   have e0:∀ (f:Nat→Value),Array.map f (Array.range 0)=#[]:=fun f=>by simp [Array.range]
   have hl0:l=0:=by omega
   subst hl0
   have w0':IntKind.i64.wrap 0=0:=by simpa using wl
   simp [Instr.makeSlice,run_underlying (hA.under_ok hu),asInt,asIntOf,run_typeInfo' z1,w0',sizeOf,newRow,e0]
  ·have hcs:¬ (c * ie.size=0):=by
    have:1 * 1≤c * ie.size:=Nat.mul_le_mul (by omega) z4
    omega
   have hcs':¬ (c=0∨ie.size=0):=by omega
   have hcond:¬ (((c:Int) < 0∨281474976710656 < (ie.bytes:Int) * (c:Int))∨(l:Int) < 0):=by
    have:(2:Int) ^ 48=281474976710656:=rfl
    omega
   simp [Instr.makeSlice,run_underlying (hA.under_ok hu),asInt,asIntOf,run_typeInfo' z1,wl,wc,hlc,sizeOf,hcs,zeroValue,z2,newRow]
   rw [if_neg hcond]
   have hsz:¬ ie.size=0:=by omega
   simp [hc0,hsz]
   congr 2
   apply Array.ext'
   simp
 ·simp only [VR]
  exact ⟨_,_,c,Env.ext_self _ _ _,rfl,hb1,rfl,by simp⟩
theorem ER.length {es:List AEnt} {xs:List MapEntry} (h:ER m es xs):xs.length=es.length:=by
 induction es generalizing xs with
 |nil=>simp only [ER] at h;subst h;rfl
 |cons a as ih =>
  simp only [ER] at h
  obtain ⟨y,ys,rfl,_,_,_,h4⟩:=h
  simp [ih h4]
theorem alen_ok (hA:A.Ok P) (h:HR B0 w0 m H w) {t ty:TypeId} {x v:AV} (e:alen A H t x=some v) {xv:Value} (hx:VR m x xv) :
  ∃ r,(Builtin.len_ #[t] ty #[xv]).run P w=.ok r w∧VR m v r:=by
 unfold alen at e
 split at e
 ·next s hu =>
  cases e
  simp only [VR] at hx
  subst hx
  exact ⟨_,by simp [Builtin.len_,run_underlying (hA.under_ok hu)];rfl,by simp only [VR,goInt]⟩
 ·next el a o n cap hu =>
  cases e
  simp only [VR] at hx
  obtain ⟨l,p,c,_,rfl,_⟩:=hx
  exact ⟨_,by simp [Builtin.len_,run_underlying (hA.under_ok hu)];rfl,by simp only [VR,goInt]⟩
 ·next el hu =>
  cases e
  simp only [VR] at hx
  subst hx
  exact ⟨_,by simp [Builtin.len_,run_underlying (hA.under_ok hu)];rfl,by simp only [VR,goInt]⟩
 ·next n el hu =>
  cases e
  exact ⟨_,by simp [Builtin.len_,run_underlying (hA.under_ok hu)];rfl,by simp only [VR,goInt]⟩
 ·next k el hu =>
  cases e
  simp only [VR] at hx
  subst hx
  exact ⟨_,by simp [Builtin.len_,run_underlying (hA.under_ok hu)];rfl,by simp only [VR,goInt]⟩
 ·next k el a hu =>
  split at e
  ·next es clock hb =>
   cases e
   simp only [VR] at hx
   obtain ⟨l,hl,rfl⟩:=hx
   obtain ⟨l',h1,arr,h2,h3⟩:=h.blk a _ hb
   rw [hl] at h1
   cases h1
   have hlen:=h3.length
   have hsz:arr.size=es.length:=by simpa using hlen
   have hget:(getObj l.blk).run P w=.ok (.map arr clock) w:=by simp [getObj,Sem.run,h2]
   exact ⟨goInt arr.size,by simp [Builtin.len_,run_underlying (hA.under_ok hu),hget],by simp only [VR,goInt,hsz]⟩
  ·cases e
 ·cases e
theorem acopy_ok (hA:A.Ok P) (h:HR B0 w0 m H w) {t ts ty:TypeId} {d s v:AV} {H':Heap} (e:acopy A H t d s=some (v,H')) {dv sv:Value} (hd:VR m d dv) (hs:VR m s sv) :
  ∃ r w',(Builtin.copy_ #[t,ts] ty #[dv,sv]).run P w=.ok r w'∧VR m v r∧HR B0 w0 m H' w':=by
 unfold acopy at e
 split at e
 case h_2=>cases e
 next el hu =>
 split at e
 case h_2=>cases e
 next ie hie =>
 have hu':=hA.under_ok hu
 have hi':=hA.info _ _ hie
 have zero:∀ (b b':Option Addr) (n n' c c':Nat),Nat.min n' n=0→(Builtin.copy_ #[t,ts] ty #[.slice b n c,.slice b' n' c']).run P w=.ok (goInt 0) w:=by
  intro b b' n n' c c' hn
  have hf:=firstCells_zero (P:=P) ie.size b' n' c' w
  cases b<;>simp [Builtin.copy_,run_underlying hu',Builtin.lenOf,sizeOf,run_typeInfo' hi',hn,hf,storeCells]
 split at e
 ·cases e
  simp only [VR] at hd hs
  subst hd hs
  exact ⟨_,w,zero _ _ _ _ _ _ rfl,by simp only [VR,goInt],h⟩
 ·cases e
  simp only [VR] at hd hs
  subst hd
  obtain ⟨l,p,c,_,rfl,_⟩:=hs
  exact ⟨_,w,zero _ _ _ _ _ _ (Nat.min_zero _),by simp only [VR,goInt],h⟩
 ·cases e
  simp only [VR] at hd hs
  subst hs
  obtain ⟨l,p,c,_,rfl,_⟩:=hd
  exact ⟨_,w,zero _ _ _ _ _ _ (Nat.zero_min _),by simp only [VR,goInt],h⟩
 ·next a o dl c1 b p sl c2 =>
  simp only [VR] at hd hs
  obtain ⟨l,q,c,hl,rfl,hlc,hcap⟩:=hd
  obtain ⟨l2,q2,c2',hl2,rfl,hlc2,hcap2⟩:=hs
  split at e
  ·next hn =>
   cases e
   exact ⟨_,w,zero _ _ _ _ _ _ hn,by simp only [VR,goInt],h⟩
  ·next n hn =>
   have hmin:n+1≤sl∧n+1≤dl:=by
    have h1:Nat.min sl dl≤sl:=Nat.min_le_left _ _
    have h2:Nat.min sl dl≤dl:=Nat.min_le_right _ _
    omega
   have hq:q=⟨l.blk,o+l.sh,none⟩:=by
    rcases ACap.ptr hcap with e | e
    ·exact e
    ·omega
   have hq2:q2=⟨l2.blk,p+l2.sh,none⟩:=by
    rcases ACap.ptr hcap2 with e | e
    ·exact e
    ·omega
   subst hq hq2
   split at e
   case h_2=>cases e
   next vs hvs =>
   split at e
   case h_2=>cases e
   next H1 hp =>
   cases e
   obtain ⟨xs,x1,x2,x3⟩:=h.cellsAt hl2 _ _ hvs
   have hload:=run_loadCells_list (P:=P) w ⟨l2.blk,p+l2.sh,none⟩ xs fun j x hj=>by rw [addr_add];exact x3 j x hj
   rw [x2] at hload
   obtain ⟨w',r1,r2⟩:=HR.puts P hl vs o o 0 H _ w xs h hp x1 rfl
   refine ⟨goInt (n+1:Nat),w',?_,by simp only [VR,goInt],r2⟩
   simp [Builtin.copy_,run_underlying hu',Builtin.lenOf,Builtin.firstCells,sizeOf,run_typeInfo' hi',hn,hload,r1]
 ·cases e
theorem aclear_ok (hA:A.Ok P) (h:HR B0 w0 m H w) {t ty:TypeId} {x v:AV} {H':Heap} (e:aclear A H t x=some (v,H')) {xv:Value} (hx:VR m x xv) :
  ∃ r w',(Builtin.clear_ #[t] ty #[xv]).run P w=.ok r w'∧VR m v r∧HR B0 w0 m H' w':=by
 unfold aclear at e
 split at e
 ·next el hu =>
  cases e
  simp only [VR] at hx
  subst hx
  exact ⟨.tuple #[],w,by simp [Builtin.clear_,run_underlying (hA.under_ok hu)],by simp [VR,VRs],h⟩
 ·next el a o n cap hu =>
  simp only [VR] at hx
  obtain ⟨l,q,c,hl,rfl,hlc,hcap⟩:=hx
  split at e
  ·cases e
   exact ⟨.tuple #[],w,by simp [Builtin.clear_,run_underlying (hA.under_ok hu)],by simp [VR,VRs],h⟩
  ·next k =>
   split at e
   case h_2=>cases e
   next zs hzs =>
   split at e
   case h_2=>cases e
   next H1 hp =>
   cases e
   obtain ⟨ie,z,z0,z1,z2,z3,z4,z5,z6⟩:=azeros_ok (m:=m) hA hzs
   have hq:q=⟨l.blk,o+l.sh,none⟩:=by
    rcases ACap.ptr hcap with e | e
    ·exact e
    ·omega
   subst hq
   obtain ⟨w',r1,r2⟩:=HR.puts P hl zs o o 0 H _ w _ h hp z6 rfl
   rw [← z3] at r1
   refine ⟨.tuple #[],w',?_,by simp [VR,VRs],r2⟩
   simp [Builtin.clear_,run_underlying (hA.under_ok hu),zeroValue,run_typeInfo' z1,z2,Builtin.zeroCells]
   simp at r1
   rw [r1]
   rfl
 ·cases e
theorem aminmax_ok {mx:Bool}:∀ (l:List AV) (x v:AV) (xs:List Value) (xv:Value),aminmax mx x l=some v→VR m x xv→VRs m l xs →
  ∃ r,(xs.foldlM (match mx with | true=>Builtin.max2 | false=>Builtin.min2) xv:Sem Value).run P w=.ok r w∧VR m v r
 |[],x,v,xs,xv,h,hx,hl=>by
  simp only [VRs] at hl
  subst hl
  have:x=v:=by cases x<;>simpa [aminmax] using h
  subst this
  exact ⟨xv,by simp,hx⟩
 |y :: l, x, v, xs, xv, h, hx, hl => by
  simp only [VRs] at hl
  obtain ⟨z,zs,rfl,h1,h2⟩:=hl
  cases x<;>cases y<;>simp only [aminmax,reduceCtorEq] at h
  case int.int k a k' b =>
   split at h
   case h_2=>cases h
   next hk =>
   simp only [decide_eq_true_eq] at hk
   subst hk
   simp only [VR] at hx h1
   subst hx h1
   cases mx with
   |false =>
    simp only [] at h
    obtain ⟨r,r1,r2⟩:=aminmax_ok l _ v zs (.int k (if b < a then b else a)) h (by simp only [VR]) h2
    refine ⟨r,?_,r2⟩
    simpa [Builtin.min2] using r1
   |true =>
    simp only [] at h
    obtain ⟨r,r1,r2⟩:=aminmax_ok l _ v zs (.int k (if b > a then b else a)) h (by simp only [VR]) h2
    refine ⟨r,?_,r2⟩
    simpa [Builtin.max2] using r1
theorem amakeInterface_ok (hA:A.Ok P) {t:TypeId} {x v:AV} (h:amakeInterface A t x=some v) {xv:Value} (hx:VR m x xv) :
  ∃ r,(Instr.makeInterface t xv).run P w=.ok r w∧VR m v r:=by
 unfold amakeInterface at h
 split at h
 ·cases h
 ·next d hn hu =>
  cases h
  refine ⟨.iface t xv,run_makeInterface w t xv ?_,by simp only [VR];exact ⟨_,rfl,hx⟩⟩
  unfold Program.concrete
  rw [hA.under_ok hu]
  cases d<;>first
   |rfl
   |exact absurd rfl (hn _)
 ·cases h
theorem atypeAssert_ok (hA:A.Ok P) {x v:AV} {asserted xt:TypeId} {ok:Bool} (h:atypeAssert A x asserted ok=some v) {xv:Value} (hx:VR m x xv) :
  ∃ r,(Instr.typeAssert xv xt asserted ok).run P w=.ok r w∧VR m v r:=by
 unfold atypeAssert at h
 split at h
 ·cases h
 ·cases h
 ·next d hn hu =>
  have hu':=hA.under_ok hu
  split at h
  ·next t y =>
   simp only [VR] at hx
   obtain ⟨yv,rfl,hy⟩:=hx
   split at h
   ·next ht =>
    have ht:=Nat.eq_of_beq_eq_true ht
    subst ht
    cases h
    cases ok
    ·refine ⟨yv,?_,hy⟩
     cases d<;>first
      |exact absurd rfl (hn _)
      |simp [Instr.typeAssert,run_underlying hu']
    ·refine ⟨.tuple #[yv,.bool true],?_,by simp only [VR,VRs];exact ⟨_,rfl,_,_,rfl,hy,_,_,rfl,rfl,rfl⟩⟩
     cases d<;>first
      |exact absurd rfl (hn _)
      |simp [Instr.typeAssert,run_underlying hu']
   ·next ht =>
    have ht:¬ t=asserted:=fun e=>by subst e;simp at ht
    split at h
    case h_2=>cases h
    next ti hti =>
    split at h
    case h_2=>cases h
    next z hz =>
    split at h
    case h_2=>cases h
    next z' hz' =>
    cases h
    refine ⟨.tuple #[z,.bool false],?_,by simp only [VR,VRs];exact ⟨_,rfl,_,_,rfl,ofValue_ok hz',_,_,rfl,rfl,rfl⟩⟩
    cases d<;>first
     |exact absurd rfl (hn _)
     |simp [Instr.typeAssert,run_underlying hu',ht,zeroValue,run_typeInfo' (hA.info _ _ hti),hz]
  ·simp only [VR] at hx
   subst hx
   split at h
   case h_2=>cases h
   next ti hti =>
   split at h
   case h_2=>cases h
   next z hz =>
   split at h
   case h_2=>cases h
   next z' hz' =>
   cases h
   refine ⟨.tuple #[z,.bool false],?_,by simp only [VR,VRs];exact ⟨_,rfl,_,_,rfl,ofValue_ok hz',_,_,rfl,rfl,rfl⟩⟩
   cases d<;>first
    |exact absurd rfl (hn _)
    |simp [Instr.typeAssert,run_underlying hu',zeroValue,run_typeInfo' (hA.info _ _ hti),hz]
  ·cases h
end
end Go.Am
namespace Go.Am
open Go.RowKit
inductive AOut where
 |val (v:AV) (H:Heap)
 |skip (H:Heap)
 |enter (f:FuncId) (args:List AV)
 |round (l:Nat) (fn:FuncId) (sz:Nat) (tmps:T AV) (assign body:Code)
 |defer (d:ADef)
 |recover
 |panic (v:AV)
def OutR (B0:Prot) (w0:World) (m:Env) (H:Heap) (w:World):AOut→Result Next→Prop
 |.val v H',r=>∃ x m' w',r=.ok (.value x) w'∧m.le m'∧VR m' v x∧HR B0 w0 m' H' w'
 |.skip H',r=>∃ m' w',r=.ok .skip w'∧m.le m'∧HR B0 w0 m' H' w'
 |.enter f args,r=>∃ xs,r=.ok (.enter f xs) w∧VRs m args xs.toList
 |.round l fn sz tmps asg body,r=>∃ lc arr,m l=some lc∧r=.ok (.round lc.blk fn arr asg body) w∧TR m sz tmps arr
 |.defer d,r=>∃ x,r=.ok (.defer x) w∧DR m d x
 |.recover,r=>r=.ok .recover w
 |.panic v,r=>∃ x,r=.halt (.panic x) w∧VR m v x
def afollow (A : AP) : List FieldStep → TypeId → AV → Option (TypeId × AV)
 |[],t,v=>some (t,v)
 |s :: rest, _, v => match s.deref, A.under s.struct, v with
  |false,some (.struct fields),.agg cs=>match fields.toList[s.index]? with
   |some f=>match apart A f.type cs f.offset with
    |some u=>afollow A rest f.type u
    |none=>none
   |none=>none
  |_,_,_=>none
def isPtrB:TypeDesc→Bool
 |.pointer _=>true
 |_=>false
def amethod (A : AP) (t : TypeId) (v : AV) (name : String) : Option (FuncId × AV) :=
 match A.info t with
 |some ti=>match ti.methods.toList.find? (·.name == name) with
  |some mt=>match afollow A mt.path.toList t v with
   |some (xt,u)=>match mt.func,A.under xt with
    |some (f,ptr),some d=>match ptr == isPtrB d with
     |true=>some (f,u)
     |false=>none
    |_,_=>none
   |none=>none
  |none=>none
 |none=>none
def acallFunc (A:AP) (f:FuncId) (args:List AV):Option AOut :=
 match A.funcs.get f with
 |some fn=>match fn.body with
  |some _=>some (.enter f args)
  |none=>none
 |none=>none
def asets:List Tmp→List AV→Nat→T AV→Option (T AV)
 |[],[],_,t=>some t
 |p::ps,v::vs,sz,t=>match Nat.blt p sz with
  |true=>asets ps vs sz (t.set p v)
  |false=>none
 |_,_,_,_=>none
def acallFn (A:AP) (H:Heap) (f:Fn) (cap args:List AV):Option AOut :=
 match f with
 |.func f=>acallFunc A f (args++cap)
 |.method name=>match args with
  |.ifc t v::rest=>match amethod A t v name with
   |some (f,u)=>acallFunc A f (u::rest)
   |none=>none
  |_=>none
 |_=>none
def ayield (H:Heap) (l:Nat) (args:List AV):Option AOut :=
 match H.blks.get l with
 |some (.loop _ _ fn sz tmps ps asg body _)=>match asets ps.toList args sz tmps with
  |some tmps'=>some (.round l fn sz tmps' asg body)
  |none=>none
 |_=>none
def abuiltin (A:AP) (H:Heap) (b:Builtin) (ts:Array TypeId) (args:List AV):Option AOut :=
 match b,ts.toList,args with
 |.append,[t,tx],[s,x]=>match H.append A t tx s x with
  |some (v,H')=>some (.val v H')
  |none=>none
 |.len,[t],[x]=>match alen A H t x with
  |some v=>some (.val v H)
  |none=>none
 |.copy,[t,_],[d,s]=>match acopy A H t d s with
  |some (v,H')=>some (.val v H')
  |none=>none
 |.clear,[t],[x]=>match aclear A H t x with
  |some (v,H')=>some (.val v H')
  |none=>none
 |.min,_,x::xs=>match aminmax false x xs with
  |some v=>some (.val v H)
  |none=>none
 |.max,_,x::xs=>match aminmax true x xs with
  |some v=>some (.val v H)
  |none=>none
 |.recover,_,_=>some .recover
 |.panic,_,x::_=>match x with
  |.ifc _ _=>some (.panic x)
  |_=>none
 |_,_,_=>none
def aargs (ρ:Operand→Option AV):List Operand→Option (List AV)
 |[]=>some []
 |x::xs=>match ρ x with
  |some v=>match aargs ρ xs with
   |some vs=>some (v::vs)
   |none=>none
  |none=>none
def aparts (ρ:Operand→Option AV):List (Nat×Operand)→Option (List (Nat×AV))
 |[]=>some []
 |x::xs=>match ρ x.2 with
  |some v=>match aparts ρ xs with
   |some vs=>some ((x.1,v)::vs)
   |none=>none
  |none=>none
def acall (A : AP) (H : Heap) (ρ : Operand → Option AV) (c : Call) : Option AOut :=
 match aargs ρ c.args.toList with
 |none=>none
 |some args=>match c.callee with
  |.builtin b=>abuiltin A H b c.argTypes args
  |.invoke recv name=>match ρ recv with
   |some (.ifc t v)=>match amethod A t v name with
    |some (f,u)=>acallFunc A f (u::args)
    |none=>none
   |_=>none
  |.value f=>match ρ f with
   |some (.fn fn first cap)=>acallFn A H fn cap (first++args)
   |some (.yld l)=>ayield H l args
   |_=>none
def aopt (ρ:Operand→Option AV):Option Operand→Option (Option AV)
 |none=>some none
 |some x=>match ρ x with
  |some v=>some (some v)
  |none=>none
section
variable {m:Env} {w:World} {A:AP} {P:Program} {E:Eqs} {B0:Prot} {w0:World} {H:Heap}
theorem asets_ok:∀ (ps:List Tmp) (vs:List AV) (sz:Nat) (t t':T AV) (xs:List Value) (arr:Array Value),asets ps vs sz t=some t'→VRs m vs xs→TR m sz t arr →
  ps.length=xs.length∧TR m sz t' ((ps.zip xs).foldl (fun tmps (t,a)=>tmps.setIfInBounds t a) arr)
 |[],[],sz,t,t',xs,arr,h,hv,ht=>by
  simp only [asets,Option.some.injEq] at h
  simp only [VRs] at hv
  subst h hv
  exact ⟨rfl,ht⟩
 |p :: ps, v :: vs, sz, t, t', xs, arr, h, hv, ht => by
  simp only [asets] at h
  split at h
  ·next hlt =>
   simp only [VRs] at hv
   obtain ⟨x,xs',rfl,h1,h2⟩:=hv
   have hp:p < sz:=by
    have:p+1≤sz:=by simpa [Nat.blt,Nat.ble_eq] using hlt
    exact this
   have ih:=asets_ok ps vs sz _ t' xs' _ h h2 (ht.set hp h1)
   exact ⟨by simp [ih.1],by simpa using ih.2⟩
  ·cases h
 |[],_::_,_,_,_,_,_,h,_,_=>by simp [asets] at h
 |_::_,[],_,_,_,_,_,h,_,_=>by simp [asets] at h
theorem afollow_ok (hA:A.Ok P):∀ (path:List FieldStep) (t xt:TypeId) (v u:AV) (x:Value),afollow A path t v=some (xt,u)→VR m v x →
  ∃ y,(follow path t (.val x)).run P w=.ok (xt,.val y) w∧(followBlind path t (some x)).run P w=.ok (.ok (xt,some y)) w∧VR m u y
 |[],t,xt,v,u,x,h,hv=>by
  simp only [afollow,Option.some.injEq,Prod.mk.injEq] at h
  obtain ⟨rfl,rfl⟩:=h
  exact ⟨x,rfl,rfl,hv⟩
 |s :: rest, t, xt, v, u, x, h, hv => by
  simp only [afollow] at h
  split at h
  ·next fields cs hd hu =>
   split at h
   ·next f hf =>
    split at h
    ·next z hz =>
     simp only [VR] at hv
     obtain ⟨xs,rfl,hv⟩:=hv
     obtain ⟨r,r1,r2⟩:=apart_ok (w:=w) hA hz hv
     obtain ⟨y,y1,y2,y3⟩:=afollow_ok hA rest f.type xt z u r h r2
     have hf':fields[s.index]?=some f:=by simpa using hf
     refine ⟨y,?_,?_,y3⟩
     ·simp [follow,run_underlying (hA.under_ok hu),hf',hd,r1,y1]
     ·simp [followBlind,run_underlying (hA.under_ok hu),hf',hd,r1,y2]
    ·cases h
   ·cases h
  ·cases h
theorem amethod_ok (hA:A.Ok P) {t:TypeId} {v u:AV} {name:String} {f:FuncId} (h:amethod A t v name=some (f,u)) {x:Value} (hx:VR m v x) (fuel:Nat) :
  ∃ y,(method (fuel+1) t x name).run P w=.ok (f,y) w∧(nilAhead (fuel+1) t x name).run P w=.ok (some false) w∧VR m u y:=by
 unfold amethod at h
 split at h
 case h_2=>cases h
 next ti hti =>
 split at h
 case h_2=>cases h
 next mt hmt =>
 split at h
 case h_2=>cases h
 next xt u' hfol =>
 split at h
 case h_2=>cases h
 next g ptr d hfn hd =>
 split at h
 case h_2=>cases h
 next hp =>
 cases h
 have hp:=eq_of_beq hp
 obtain ⟨y,y1,y2,y3⟩:=afollow_ok (w:=w) hA _ _ _ _ _ x hfol hx
 have hfind:ti.methods.find? (·.name == name)=some mt:=by
  rw [← Array.find?_toList]
  exact hmt
 refine ⟨y,?_,?_,y3⟩
 ·simp only [method,Sem.run_bind,run_typeInfo' (hA.info _ _ hti),Result.andThen_ok,hfind,y1,hfn]
  subst hp
  cases d<;>simp [receiverAt,run_underlying (hA.under_ok hd),isPtrB,Place.get]
 ·simp only [nilAhead,Sem.run_bind,run_typeInfo' (hA.info _ _ hti),Result.andThen_ok,hfind,y2,hfn]
  subst hp
  cases d<;>simp [run_underlying (hA.under_ok hd),isPtrB]
theorem acallFunc_ok (hA:A.Ok P) {f:FuncId} {args:List AV} {out:AOut} (h:acallFunc A f args=some out) {xs:Array Value} (hx:VRs m args xs.toList) :
  OutR B0 w0 m H w out ((callFunc f xs).run P w):=by
 unfold acallFunc at h
 split at h
 case h_2=>cases h
 next fn hfn =>
 split at h
 case h_2=>cases h
 next c hc =>
 cases h
 refine ⟨xs,?_,hx⟩
 have hn : ¬ fn.name = "runtime.NumGoroutine" := by simpa using hA.names f fn hfn
 simp [callFunc,hA.funcs f fn hfn,hn,hc]
theorem aargs_ok {ρ:Operand→Option AV} {ρ':Operand→Value} (hρ:∀ x v,ρ x=some v→VR m v (ρ' x)):∀ (l:List Operand) (vs:List AV),aargs ρ l=some vs→VRs m vs (l.map ρ')
 |[],vs,h=>by simp only [aargs,Option.some.injEq] at h;subst h;simp only [List.map_nil,VRs]
 |x :: xs, vs, h => by
  simp only [aargs] at h
  split at h
  ·next v hv =>
   split at h
   ·next vs' hvs =>
    cases h
    simp only [List.map_cons,VRs]
    exact ⟨_,_,rfl,hρ x v hv,aargs_ok hρ xs vs' hvs⟩
   ·cases h
  ·cases h
theorem aparts_ok {ρ:Operand→Option AV} {ρ':Operand→Value} (hρ:∀ x v,ρ x=some v→VR m v (ρ' x)):∀ (l:List (Nat×Operand)) (vs:List (Nat×AV)),aparts ρ l=some vs →
  PR m vs (l.map fun (i,x)=>(i,ρ' x))
 |[],vs,h=>by simp only [aparts,Option.some.injEq] at h;subst h;simp only [List.map_nil,PR]
 |x :: xs, vs, h => by
  simp only [aparts] at h
  split at h
  ·next v hv =>
   split at h
   ·next vs' hvs =>
    cases h
    simp only [List.map_cons,PR]
    exact ⟨_,_,rfl,rfl,hρ x.2 v hv,aparts_ok hρ xs vs' hvs⟩
   ·cases h
  ·cases h
theorem aopt_ok {ρ:Operand→Option AV} {ρ':Operand→Value} (hρ:∀ x v,ρ x=some v→VR m v (ρ' x)) {x:Option Operand} {v:Option AV} (h:aopt ρ x=some v):OVR m v (x.map ρ'):=by
 unfold aopt at h
 split at h
 ·cases h;rfl
 ·next x =>
  split at h
  ·next u hu=>cases h;exact ⟨_,rfl,hρ _ _ hu⟩
  ·cases h
theorem abuiltin_ok (hA:A.Ok P) (h:HR B0 w0 m H w) {b:Builtin} {ts:Array TypeId} {ty:TypeId} {args:List AV} {out:AOut} (e:abuiltin A H b ts args=some out) {xs:Array Value} (hx:VRs m args xs.toList)
  (cs:Array Bool):OutR B0 w0 m H w out ((builtin b ts ty cs xs).run P w):=by
 have two:∀ a b,VRs m [a,b] xs.toList→∃ x y,xs=#[x,y]∧VR m a x∧VR m b y:=by
  intro a b hv
  simp only [VRs] at hv
  obtain ⟨x,l,e1,h1,y,l2,e2,h2,e3⟩:=hv
  subst e3
  subst e2
  exact ⟨x,y,by apply Array.ext';simpa using e1,h1,h2⟩
 have one:∀ a,VRs m [a] xs.toList→∃ x,xs=#[x]∧VR m a x:=by
  intro a hv
  simp only [VRs] at hv
  obtain ⟨x,l,e1,h1,e3⟩:=hv
  subst e3
  exact ⟨x,by apply Array.ext';simpa using e1,h1⟩
 unfold abuiltin at e
 split at e
 ·next t tx s x ht =>
  split at e
  ·next v H' ha =>
   cases e
   obtain ⟨sv,xv,rfl,h1,h2⟩:=two _ _ hx
   have hts:ts=#[t,tx]:=by apply Array.ext';simpa using ht
   subst hts
   obtain ⟨rv,m',w',r1,r2,r3,r4⟩:=h.append (ty:=ty) hA ha h1 h2
   exact ⟨rv,m',w',by simp [builtin,r1],r2,r3,r4⟩
  ·cases e
 ·next t x ht =>
  split at e
  ·next v ha =>
   cases e
   obtain ⟨xv,rfl,h1⟩:=one _ hx
   have hts:ts=#[t]:=by apply Array.ext';simpa using ht
   subst hts
   obtain ⟨rv,r1,r2⟩:=alen_ok (ty:=ty) hA h ha h1
   exact ⟨rv,m,w,by simp [builtin,r1],m.le_refl,r2,h⟩
  ·cases e
 ·next t tx s x ht =>
  split at e
  ·next v H' ha =>
   cases e
   obtain ⟨sv,xv,rfl,h1,h2⟩:=two _ _ hx
   have hts:ts=#[t,tx]:=by apply Array.ext';simpa using ht
   subst hts
   obtain ⟨rv,w',r1,r2,r3⟩:=acopy_ok (ty:=ty) (ts:=tx) hA h ha h1 h2
   exact ⟨rv,m,w',by simp [builtin,r1],m.le_refl,r2,r3⟩
  ·cases e
 ·next t x ht =>
  split at e
  ·next v H' ha =>
   cases e
   obtain ⟨xv,rfl,h1⟩:=one _ hx
   have hts:ts=#[t]:=by apply Array.ext';simpa using ht
   subst hts
   obtain ⟨rv,w',r1,r2,r3⟩:=aclear_ok (ty:=ty) hA h ha h1
   exact ⟨rv,m,w',by simp [builtin,r1],m.le_refl,r2,r3⟩
  ·cases e
 ·next x l =>
  split at e
  ·next v ha =>
   cases e
   simp only [VRs] at hx
   obtain ⟨y,ys,hy,h1,h2⟩:=hx
   obtain ⟨rv,r1,r2⟩:=aminmax_ok (w:=w) (P:=P) l x v ys y ha h1 h2
   refine ⟨rv,m,w,?_,m.le_refl,r2,h⟩
   simp only [builtin,Builtin.min_,hy,Sem.run_bind]
   rw [r1]
   rfl
  ·cases e
 ·next x l =>
  split at e
  ·next v ha =>
   cases e
   simp only [VRs] at hx
   obtain ⟨y,ys,hy,h1,h2⟩:=hx
   obtain ⟨rv,r1,r2⟩:=aminmax_ok (w:=w) (P:=P) l x v ys y ha h1 h2
   refine ⟨rv,m,w,?_,m.le_refl,r2,h⟩
   simp only [builtin,Builtin.max_,hy,Sem.run_bind]
   rw [r1]
   rfl
  ·cases e
 ·cases e
  rfl
 ·next x l =>
  split at e
  ·next t u =>
   cases e
   simp only [VRs] at hx
   obtain ⟨y,ys,hy,h1,h2⟩:=hx
   have h1':=h1
   simp only [VR] at h1
   obtain ⟨z,rfl,hz⟩:=h1
   have h0:xs[0]?=some (.iface t z):=by
    have:xs.toList[0]?=some (.iface t z):=by rw [hy];rfl
    simpa using this
   have hg:xs.getD 0 .nilIface=.iface t z:=by rw [Array.getD_eq_getD_getElem?,h0];rfl
   exact ⟨_,by simp only [builtin,hg,Sem.run_bind];simp [Instr.panic],h1'⟩
  ·cases e
 ·cases e
theorem acall_ok (hA:A.Ok P) (h:HR B0 w0 m H w) {ρ:Operand→Option AV} {ρ':Operand→Value} (hρ:∀ x v,ρ x=some v→VR m v (ρ' x)) {c:Call} {ty:TypeId} {out:AOut}
  (e:acall A H ρ c=some out):OutR B0 w0 m H w out ((do let d ← resolve ρ' c ty;invoke d.target d.args:Sem Next).run P w):=by
 unfold acall at e
 split at e
 ·cases e
 next args hargs =>
 have hv:=aargs_ok hρ _ _ hargs
 have hv':VRs m args (c.args.map ρ').toList:=by simpa using hv
 split at e
 ·next b hc =>
  simp only [resolve,hc,pure_bind,invoke]
  exact abuiltin_ok hA h e hv' _
 ·next recv name hc =>
  split at e
  case h_2=>cases e
  next t v hr =>
  split at e
  case h_2=>cases e
  next f u hm =>
  have hrv:=hρ _ _ hr
  simp only [VR] at hrv
  obtain ⟨x,hx,hx2⟩:=hrv
  obtain ⟨y,y1,_,y3⟩:=amethod_ok (w:=w) hA hm hx2 (P.types.size+99)
  have hcall:=acallFunc_ok (B0:=B0) (w0:=w0) (H:=H) (w:=w) hA e (xs:=#[y]++c.args.map ρ') (by simp only [Array.toList_append,List.cons_append,List.nil_append,VRs];exact ⟨y,_,rfl,y3,by simpa using hv⟩)
  have hex:((#[ρ' recv]++c.args.map ρ').extract 1 (#[ρ' recv]++c.args.map ρ').size)=c.args.map ρ':=by
   apply Array.ext'
   simp
   exact List.take_of_length_le (by simp)
  have h0:(#[ρ' recv]++c.args.map ρ')[0]?=some (.iface t x):=by
   rw [← Array.getElem?_toList]
   simp [hx]
  simp only [resolve,hc,pure_bind,invoke,h0,hex,callMethod,Sem.run_bind,run_program,Result.andThen_ok]
  rw [show P.types.size+Made.depth=P.types.size+99+1 from rfl,y1]
  exact hcall
 ·next f hc =>
  split at e
  ·next fn first cap hf =>
   have hfv:=hρ _ _ hf
   simp only [VR] at hfv
   obtain ⟨xf,xc,hx,h1,h2⟩:=hfv
   simp only [resolve,hc,Deferred.ofValue,hx,pure_bind]
   unfold acallFn at e
   split at e
   ·next g =>
    simp only [invoke]
    refine acallFunc_ok hA e ?_
    simp only [Array.toList_append]
    exact (h1.append hv').append h2
   ·next name =>
    split at e
    case h_2=>cases e
    next t v rest hargs' =>
    split at e
    case h_2=>cases e
    next g u hm =>
    have hall:VRs m (first++args) (xf++c.args.map ρ').toList:=by
     simp only [Array.toList_append]
     exact h1.append hv'
    rw [hargs'] at hall
    simp only [VRs,VR] at hall
    obtain ⟨y0,ys,hy,⟨x,rfl,hx2⟩,hrest⟩:=hall
    obtain ⟨y,y1,_,y3⟩:=amethod_ok (w:=w) hA hm hx2 (P.types.size+99)
    have hex:((xf++c.args.map ρ').extract 1 (xf++c.args.map ρ').size).toList=ys:=by
     rw [Array.toList_extract,List.extract_eq_take_drop,hy]
     have hsz:(xf++c.args.map ρ').size=ys.length+1:=by
      rw [← Array.length_toList,hy]
      rfl
     rw [hsz]
     simp
    have h0:(xf++c.args.map ρ')[0]?=some (.iface t x):=by
     rw [← Array.getElem?_toList,hy]
     rfl
    have hcall:=acallFunc_ok (B0:=B0) (w0:=w0) (H:=H) (w:=w) hA e (xs:=#[y]++(xf++c.args.map ρ').extract 1 (xf++c.args.map ρ').size)
     (by rw [Array.toList_append,hex];simp only [List.cons_append,List.nil_append,VRs];exact ⟨y,_,rfl,y3,hrest⟩)
    simp only [invoke,h0,callMethod,Sem.run_bind,run_program,Result.andThen_ok]
    rw [show P.types.size+Made.depth=P.types.size+99+1 from rfl,y1]
    exact hcall
   ·cases e
  ·next l hf =>
   have hfv:=hρ _ _ hf
   simp only [VR] at hfv
   obtain ⟨lc,hl,hx⟩:=hfv
   simp only [resolve,hc,Deferred.ofValue,hx,pure_bind,invoke]
   unfold ayield at e
   split at e
   case h_2=>cases e
   next st pend fn sz tmps ps asg body d hb =>
   split at e
   case h_2=>cases e
   next tmps' hs =>
   cases e
   obtain ⟨l1,k1,arr,ld,k2,k3,k4⟩:=h.blk l _ hb
   rw [hl] at k1
   cases k1
   obtain ⟨q1,q2⟩:=asets_ok ps.toList args sz tmps tmps' _ arr hs hv' k4
   have hget:(getObj lc.blk).run P w=.ok (.loop { state:=st,pending:=pend,fn,tmps:=arr,params:=ps,assign:=asg,body,defers:=ld.blk }) w:=by simp [getObj,Sem.run,k3]
   have hsz:c.args.size=ps.size:=by
    have:=q1
    simp at this
    omega
   have hfold:(ps.zip (c.args.map ρ')).foldl (fun tmps (t,a)=>tmps.setIfInBounds t a) arr=(ps.toList.zip (c.args.map ρ').toList).foldl (fun tmps (t,a)=>tmps.setIfInBounds t a) arr:=by
    rw [← Array.foldl_toList,Array.toList_zip]
   refine ⟨lc,(ps.zip (c.args.map ρ')).foldl (fun tmps (t,a)=>tmps.setIfInBounds t a) arr,hl,?_,by rw [hfold];exact q2⟩
   simp [Instr.yield,Instr.getLoop,hget,hsz]
  ·cases e
end
end Go.Am
namespace Go.Am
open Go.RowKit
def anilCheck (A:AP) (v:AV):Bool :=
 match v with
 |.ptr _ _=>true
 |.zptr=>true
 |.ifc _ _=>true
 |.fn f first _=>match f,first with
  |.func _,_=>true
  |.method name,.ifc t u::_=>match amethod A t u name with
   |some _=>true
   |none=>false
  |_,_=>false
 |_=>false
def bothNil:AV→AV→Bool
 |.nilifc,.nilifc=>true
 |_,_=>false
def isConstB:Operand→Bool
 |.const _=>true
 |_=>false
def anils (A:AP) (op:BinOp) (t:TypeId) (x y:Operand):Option AV :=
 match A.under t,isConstB x || isConstB y with
 |some (.interface _),true=>match op with
  |.eql=>some (.bool true)
  |.neq=>some (.bool false)
  |_=>none
 |_,_=>none
def aop (A : AP) (E : Eqs) (H : Heap) (ρ : Operand → Option AV) (o : Oper) : Option AOut :=
 let pure (v:Option AV):Option AOut:=match v with
  |some v=>some (.val v H)
  |none=>none
 match o.op with
 |.move x=>pure (ρ x)
 |.assign x=>pure (ρ x)
 |.pick c a b=>match ρ c with
  |some (.bool true)=>pure (ρ a)
  |some (.bool false)=>pure (ρ b)
  |_=>none
 |.alloc t=>match A.info t with
  |some ti=>match ti.zero with
   |some z=>match ofValue z with
    |some v=>some (.val (.ptr H.next 0) (H.newB t v.cells))
    |none=>none
   |none=>none
  |none=>none
 |.box t x=>match ρ x with
  |some v=>some (.val (.ptr H.next 0) (H.newB t v.cells))
  |none=>none
 |.build t parts=>match aparts ρ parts.toList with
  |some ps=>pure (abuild A t ps)
  |none=>none
 |.buildSlice t len parts=>match aparts ρ parts.toList with
  |some ps=>match abuildSlice A t len ps with
   |some (e,cs)=>some (.val (.sl H.next 0 len (.ex len)) (H.newB e cs))
   |none=>none
  |none=>none
 |.load t a=>match ρ a with
  |some (.ptr a o)=>pure (H.load A t a o)
  |some .zptr=>match A.info t,A.under t with
   |some ti,some (.struct _)=>match ti.size with
    |0=>some (.val (.agg []) H)
    |_+1=>none
   |_,_=>none
  |_=>none
 |.store t a x=>match ρ a,ρ x with
  |some (.ptr a o),some v=>match H.store A t a o v with
   |some H'=>some (.skip H')
   |none=>none
  |_,_=>none
 |.nilCheck x=>match ρ x with
  |some v=>match anilCheck A v with
   |true=>some (.val v H)
   |false=>none
  |none=>none
 |.binOp op t x y _=>match ρ x,ρ y with
  |some a,some b=>match bothNil a b with
   |true=>pure (anils A op t x y)
   |false=>pure (abin A E op t a b)
  |_,_=>none
 |.unOp op _ x=>match ρ x with
  |some a=>pure (aun op a)
  |none=>none
 |.convert s d x=>match ρ x with
  |some a=>pure (aconv A s d a)
  |none=>none
 |.makeInterface t x=>match ρ x with
  |some a=>pure (amakeInterface A t a)
  |none=>none
 |.makeFunc f first cap=>match aargs ρ first.toList,aargs ρ cap.toList with
  |some a,some b=>some (.val (.fn f a b) H)
  |_,_=>none
 |.makeMap _ r=>match r with
  |none=>some (.val (.map H.next) { blks:=H.blks.set H.next (.map [] 0),next:=H.next+1,fams:=H.fams })
  |some _=>none
 |.makeSlice t l c=>match ρ l,ρ c with
  |some l,some c=>match amakeSlice A H t l c with
   |some (v,H')=>some (.val v H')
   |none=>none
  |_,_=>none
 |.slice t x lo hi mx=>match mx,ρ x,aopt ρ lo,aopt ρ hi with
  |none,some v,some lo,some hi=>pure (aslice A t v lo hi)
  |some mx,some v,some lo,some (some hi)=>match ρ mx with
   |some mx=>pure (aslice3 A t v lo hi mx)
   |none=>none
  |_,_,_,_=>none
 |.fieldAddr t x f=>match ρ x with
  |some v=>pure (afieldAddr A H t v f)
  |none=>none
 |.field t x f=>match ρ x with
  |some v=>pure (afield A t v f)
  |none=>none
 |.indexAddr t x i=>match ρ x,ρ i with
  |some v,some i=>pure (aindexAddr A t v i)
  |_,_=>none
 |.index t x i=>match ρ x,ρ i with
  |some v,some i=>pure (aindex A t v i)
  |_,_=>none
 |.lookup t x k ok=>match ρ x,ρ k with
  |some v,some k=>pure (alookup A E H t v k ok)
  |_,_=>none
 |.mapUpdate t x k v=>match ρ x,ρ k,ρ v with
  |some x,some k,some v=>match amapUpdate A E H t x k v with
   |some H'=>some (.skip H')
   |none=>none
  |_,_,_=>none
 |.insert t x k v=>match ρ x,ρ k,ρ v with
  |some x,some k,some v=>match amapUpdate A E H t x k v with
   |some H'=>some (.skip H')
   |none=>none
  |_,_,_=>none
 |.mapEntry t x k=>match ρ x,ρ k with
  |some x,some k=>match amapEntry A E H t x k with
   |some (v,H')=>some (.val v H')
   |none=>none
  |_,_=>none
 |.entryStore _ x s v=>match ρ x,ρ s,ρ v with
  |some x,some s,some v=>match aentryStore H x s v with
   |some H'=>some (.skip H')
   |none=>none
  |_,_,_=>none
 |.typeAssert x _ t ok=>match ρ x with
  |some v=>pure (atypeAssert A v t ok)
  |none=>none
 |.extract x i=>match ρ x with
  |some v=>pure (aextract v i)
  |none=>none
 |.call c=>acall A H ρ c
 |.defer c=>match c.callee,aargs ρ c.args.toList with
  |.value f,some args=>match ρ f with
   |some (.fn fn first cap)=>some (.defer (.call fn cap (first++args)))
   |_=>none
  |_,_=>none
 |.panic x=>match ρ x with
  |some (.ifc t v)=>some (.panic (.ifc t v))
  |_=>none
 |_=>none
section
variable {m:Env} {w:World} {A:AP} {P:Program} {E:Eqs} {B0:Prot} {w0:World} {H:Heap}
theorem outR_pure (h:HR B0 w0 m H w) {v:Option AV} {out:AOut} (e:(match v with | some v=>some (AOut.val v H) | none=>none)=some out) {s:Sem Value}
  (hs:∀ u,v=some u→∃ r,s.run P w=.ok r w∧VR m u r):OutR B0 w0 m H w out ((do let x ← s;pure (.value x):Sem Next).run P w):=by
 cases v with
 |none=>cases e
 |some u =>
  cases e
  obtain ⟨r,r1,r2⟩:=hs u rfl
  exact ⟨r,m,w,by simp [r1],m.le_refl,r2,h⟩
theorem anilCheck_ok (hA:A.Ok P) {v:AV} (h:anilCheck A v=true) {x:Value} (hx:VR m v x) (o:Oper) (y:Operand) (ho:o.op=.nilCheck y) (ρ':Operand→Value) (hy:ρ' y=x) :
  (execOp ρ' o).run P w=.ok (.value x) w:=by
 unfold anilCheck at h
 split at h
 ·simp only [VR] at hx
  obtain ⟨l,_,rfl⟩:=hx
  simp [execOp,ho,hy]
 ·simp only [VR] at hx
  obtain ⟨l,rfl⟩:=hx
  simp [execOp,ho,hy]
 ·simp only [VR] at hx
  obtain ⟨z,rfl,_⟩:=hx
  simp [execOp,ho,hy]
 ·next f first cap =>
  simp only [VR] at hx
  obtain ⟨xf,xc,rfl,h1,h2⟩:=hx
  split at h
  ·simp [execOp,ho,hy]
  ·next name t u rest =>
   split at h
   case h_2=>cases h
   next r hm =>
   obtain ⟨g,u'⟩:=r
   simp only [VRs,VR] at h1
   obtain ⟨y0,ys,hys,⟨z,rfl,hz⟩,_⟩:=h1
   obtain ⟨y1,_,n2,_⟩:=amethod_ok (w:=w) hA hm hz (P.types.size+99)
   have h0:xf[0]?=some (.iface t z):=by
    rw [← Array.getElem?_toList,hys]
    rfl
   simp only [execOp,ho,hy,h0,Sem.run_bind,run_program,Result.andThen_ok]
   rw [show P.types.size+Made.depth=P.types.size+99+1 from rfl,n2]
   simp
  ·cases h
 ·cases h
theorem equal_nils {t:TypeId} {ms:Array (String×TypeId)} (hu:P.underlying t=some (.interface ms)):(Op.equal t .nilIface .nilIface).run P w=.ok true w:=by
 have gen:∀ d,(Op.equalIn (d+1) t .nilIface .nilIface).run P w=.ok true w:=fun d=>by
  simp only [Op.equalIn,Sem.run_bind,run_underlying hu,Result.andThen_ok]
  rfl
 exact gen 9999
theorem anils_ok (hA:A.Ok P) {op:BinOp} {t:TypeId} {x y:Operand} {u:AV} (hu:anils A op t x y=some u) :
  ∃ r,(do eqGuard op t x y .nilIface .nilIface;binOp op t .nilIface .nilIface:Sem Value).run P w=.ok r w∧VR m u r:=by
 unfold anils at hu
 split at hu
 case h_2=>cases hu
 next ms hun hc =>
 have hg:(eqGuard op t x y .nilIface .nilIface).run P w=.ok () w:=by
  cases x<;>cases y<;>simp only [isConstB,Bool.or_self,Bool.or_true,Bool.or_false,Bool.true_or,Bool.false_or,Bool.false_eq_true] at hc<;>cases op<;>rfl
 split at hu
 ·cases hu
  refine ⟨.bool true,?_,by simp only [VR]⟩
  simp only [Sem.run_bind,hg,Result.andThen_ok,binOp_eql (x:=.nilIface) rfl,equal_nils (hA.under_ok hun),Sem.run_pure]
 ·cases hu
  refine ⟨.bool false,?_,by simp only [VR]⟩
  simp only [Sem.run_bind,hg,Result.andThen_ok,binOp_neq (x:=.nilIface) rfl,equal_nils (hA.under_ok hun),Sem.run_pure,Bool.not_true]
 ·cases hu
theorem aop_ok (hA:A.Ok P) (hE:E.Ok P) (h:HR B0 w0 m H w) {ρ:Operand→Option AV} {ρ':Operand→Value} (hρ:∀ x v,ρ x=some v→VR m v (ρ' x)) {o:Oper} {out:AOut}
  (e:aop A E H ρ o=some out):OutR B0 w0 m H w out ((execOp ρ' o).run P w):=by
 unfold aop at e
 simp only [] at e
 have newVar:∀ (t:TypeId) (v:AV) (x:Value),VR m v x→OutR B0 w0 m H w (.val (.ptr H.next 0) (H.newB t v.cells)) (.ok (.value (.pointer (some ⟨w.heap.size,0,none⟩))) (w.alloc (.cells x.cells t))):=by
  intro t v x hv
  have hn:=h.newB_of t (rest:=[]) hv.cells
  refine ⟨_,_,_,rfl,h.le_ext _,?_,by simpa using hn⟩
  simp only [VR]
  exact ⟨_,Env.ext_self _ _ _,rfl⟩
 split at e
 ·next x ho =>
  simp only [execOp,ho]
  cases hx:ρ x with
  |none=>simp [hx] at e
  |some v=>simp only [hx,Option.some.injEq] at e;subst e;exact ⟨_,m,w,rfl,m.le_refl,hρ x v hx,h⟩
 ·next x ho =>
  simp only [execOp,ho]
  cases hx:ρ x with
  |none=>simp [hx] at e
  |some v=>simp only [hx,Option.some.injEq] at e;subst e;exact ⟨_,m,w,rfl,m.le_refl,hρ x v hx,h⟩
 ·next c a b ho =>
  split at e
  ·next hc =>
   have hcv:=hρ _ _ hc
   simp only [VR] at hcv
   cases hx:ρ a with
   |none=>simp [hx] at e
   |some v =>
    simp only [hx,Option.some.injEq] at e
    subst e
    exact ⟨_,m,w,by simp [execOp,ho,hcv,asBool],m.le_refl,hρ a v hx,h⟩
  ·next hc =>
   have hcv:=hρ _ _ hc
   simp only [VR] at hcv
   cases hx:ρ b with
   |none=>simp [hx] at e
   |some v =>
    simp only [hx,Option.some.injEq] at e
    subst e
    exact ⟨_,m,w,by simp [execOp,ho,hcv,asBool],m.le_refl,hρ b v hx,h⟩
  ·cases e
 ·next t ho =>
  split at e
  case h_2=>cases e
  next ti hti =>
  split at e
  case h_2=>cases e
  next z hz =>
  split at e
  case h_2=>cases e
  next v hv =>
  cases e
  have:=newVar t v z (ofValue_ok hv)
  have hrun:(execOp ρ' o).run P w=.ok (.value (.pointer (some ⟨w.heap.size,0,none⟩))) (w.alloc (.cells z.cells t)):=by
   simp [execOp,ho,Instr.alloc,zeroValue,run_typeInfo' (hA.info _ _ hti),hz,Go.newVar,newRow]
  rw [hrun]
  exact this
 ·next t x ho =>
  split at e
  case h_2=>cases e
  next v hv =>
  cases e
  have:=newVar t v _ (hρ _ _ hv)
  have hrun:(execOp ρ' o).run P w=.ok (.value (.pointer (some ⟨w.heap.size,0,none⟩))) (w.alloc (.cells (ρ' x).cells t)):=by
   simp [execOp,ho,Instr.box,Go.newVar,newRow]
  rw [hrun]
  exact this
 ·next t parts ho =>
  split at e
  case h_2=>cases e
  next ps hps =>
  simp only [execOp,ho]
  refine outR_pure h e fun u hu=>abuild_ok hA hu ?_
  have:=aparts_ok hρ _ _ hps
  simpa using this
 ·next t len parts ho =>
  split at e
  case h_2=>cases e
  next ps hps =>
  split at e
  case h_2=>cases e
  next el cs hcs =>
  cases e
  have hpr:=aparts_ok hρ _ _ hps
  obtain ⟨xs,x1,x2⟩:=abuildSlice_ok (w:=w) hA hcs (ps:=parts.map fun (i,x)=>(i,ρ' x)) (by simpa using hpr)
  have hn:=h.newB_of el (rest:=[]) x1
  refine ⟨.slice (some ⟨w.heap.size,0,none⟩) len len,_,w.alloc (.cells xs el),by simp only [execOp,ho,Sem.run_bind,x2];rfl,h.le_ext _,?_,by simpa using hn⟩
  simp only [VR]
  exact ⟨_,_,len,Env.ext_self _ _ _,rfl,Nat.le_refl _,rfl,by simp⟩
 ·next t a ho =>
  split at e
  case h_3=>cases e
  ·next a' o' ha =>
   have hav:=hρ _ _ ha
   simp only [VR] at hav
   obtain ⟨l,hl,hp⟩:=hav
   simp only [execOp,ho]
   refine outR_pure h e fun u hu=>?_
   obtain ⟨x,x1,x2⟩:=h.load hA hu hl
   exact ⟨x,by simp [Instr.loadAt,hp,Instr.sureAddr,x1],x2⟩
  ·next ha =>
   have hav:=hρ _ _ ha
   simp only [VR] at hav
   obtain ⟨p,hp⟩:=hav
   split at e
   case h_2=>cases e
   next ti fs hti hu =>
   split at e
   case h_2=>cases e
   next hz =>
   cases e
   refine ⟨.agg #[],m,w,?_,m.le_refl,by simp [VR,VRs],h⟩
   simp [execOp,ho,Instr.loadAt,hp,Instr.sureAddr,loadVar,isAgg,run_underlying (hA.under_ok hu),sizeOf,run_typeInfo' (hA.info _ _ hti),hz,loadCells,loadCellsFrom]
 ·next t a x ho =>
  split at e
  case h_2=>cases e
  next a' o' v ha hv =>
  split at e
  case h_2=>cases e
  next H' hs =>
  cases e
  have hav:=hρ _ _ ha
  simp only [VR] at hav
  obtain ⟨l,hl,hp⟩:=hav
  obtain ⟨w',r1,r2⟩:=h.store hA hs (hρ _ _ hv) hl
  exact ⟨m,w',by simp [execOp,ho,Instr.storeAt,hp,Instr.sureAddr,r1],m.le_refl,r2⟩
 ·next x ho =>
  split at e
  case h_2=>cases e
  next v hv =>
  split at e
  case h_2=>cases e
  next hn =>
  cases e
  exact ⟨ρ' x,m,w,anilCheck_ok hA hn (hρ _ _ hv) o x ho ρ' rfl,m.le_refl,hρ _ _ hv,h⟩
 ·next op t x y yt ho =>
  split at e
  case h_2=>cases e
  next a b ha hb =>
  simp only [execOp,ho]
  split at e
  ·next hbn =>
   have hnn:ρ' x=.nilIface∧ρ' y=.nilIface:=by
    have h1:=hρ _ _ ha
    have h2:=hρ _ _ hb
    cases a<;>cases b<;>simp only [bothNil,Bool.false_eq_true] at hbn
    simp only [VR] at h1 h2
    exact ⟨h1,h2⟩
   obtain ⟨hx,hy⟩:=hnn
   rw [hx,hy]
   exact outR_pure h e fun u hu=>anils_ok hA hu
  ·exact outR_pure h e fun u hu=>abin_ok hA hE hu (hρ _ _ ha) (hρ _ _ hb) x y
 ·next op t x ho =>
  split at e
  case h_2=>cases e
  next a ha =>
  simp only [execOp,ho]
  exact outR_pure h e fun u hu=>aun_ok hu (hρ _ _ ha)
 ·next s d x ho =>
  split at e
  case h_2=>cases e
  next a ha =>
  simp only [execOp,ho]
  exact outR_pure h e fun u hu=>aconv_ok hA hu (hρ _ _ ha)
 ·next t x ho =>
  split at e
  case h_2=>cases e
  next a ha =>
  simp only [execOp,ho]
  exact outR_pure h e fun u hu=>amakeInterface_ok hA hu (hρ _ _ ha)
 ·next f first cap ho =>
  split at e
  case h_2=>cases e
  next a b ha hb =>
  cases e
  refine ⟨.func f (first.map ρ') (cap.map ρ'),m,w,by simp [execOp,ho,Instr.makeFunc],m.le_refl,?_,h⟩
  simp only [VR]
  exact ⟨_,_,rfl,by simpa using aargs_ok hρ _ _ ha,by simpa using aargs_ok hρ _ _ hb⟩
 ·next t r ho =>
  split at e
  case h_2=>cases e
  cases e
  have hal:=h.alloc ⟨w.heap.size,0,0⟩ rfl (.map [] 0) (.map #[] 0) ⟨#[],rfl,rfl⟩ H.fams (.inr ⟨by simp,rfl⟩)
  refine ⟨.map (some w.heap.size),_,w.alloc (.map #[] 0),by simp [execOp,ho,Instr.makeMap],h.le_ext _,?_,hal⟩
  simp only [VR]
  exact ⟨_,Env.ext_self _ _ _,rfl⟩
 ·next t l c ho =>
  split at e
  case h_2=>cases e
  next lv cv hl hc =>
  split at e
  case h_2=>cases e
  next v H' hm =>
  cases e
  obtain ⟨r,m',w',r1,r2,r3,r4⟩:=amakeSlice_ok hA h hm (hρ _ _ hl) (hρ _ _ hc)
  exact ⟨r,m',w',by simp [execOp,ho,r1],r2,r3,r4⟩
 ·next t x lo hi mx ho =>
  split at e
  ·next v lo' hi' hx hlo hhi =>
   simp only [execOp,ho,Option.map_none]
   exact outR_pure h e fun u hu=>aslice_ok hA hu (hρ _ _ hx) (aopt_ok hρ hlo) (aopt_ok hρ hhi)
  ·next mx v lo' hi' hx hlo hhi =>
   split at e
   case h_2=>cases e
   next mx' hmx =>
   obtain ⟨hiv,h1,h2⟩:=aopt_ok hρ hhi
   simp only [execOp,ho,Option.map_some,h1]
   exact outR_pure h e fun u hu=>aslice3_ok hA hu (hρ _ _ hx) (aopt_ok hρ hlo) h2 (hρ _ _ hmx)
  ·cases e
 ·next t x f ho =>
  split at e
  case h_2=>cases e
  next v hv =>
  simp only [execOp,ho]
  exact outR_pure h e fun u hu=>afieldAddr_ok hA h hu (hρ _ _ hv)
 ·next t x f ho =>
  split at e
  case h_2=>cases e
  next v hv =>
  simp only [execOp,ho]
  exact outR_pure h e fun u hu=>afield_ok hA hu (hρ _ _ hv)
 ·next t x i ho =>
  split at e
  case h_2=>cases e
  next v iv hv hi =>
  simp only [execOp,ho]
  exact outR_pure h e fun u hu=>aindexAddr_ok hA hu (hρ _ _ hv) (hρ _ _ hi)
 ·next t x i ho =>
  split at e
  case h_2=>cases e
  next v iv hv hi =>
  simp only [execOp,ho]
  exact outR_pure h e fun u hu=>aindex_ok hA hu (hρ _ _ hv) (hρ _ _ hi)
 ·next t x k ok ho =>
  split at e
  case h_2=>cases e
  next v kv hv hk =>
  simp only [execOp,ho]
  exact outR_pure h e fun u hu=>alookup_ok hA hE h hu (hρ _ _ hv) (hρ _ _ hk)
 ·next t x k v ho =>
  split at e
  case h_2=>cases e
  next xv kv vv hx hk hv =>
  split at e
  case h_2=>cases e
  next H' hm =>
  cases e
  obtain ⟨w',r1,r2⟩:=amapUpdate_ok hA hE h hm (hρ _ _ hx) (hρ _ _ hk) (hρ _ _ hv)
  exact ⟨m,w',by simp [execOp,ho,r1],m.le_refl,r2⟩
 ·next t x k v ho =>
  split at e
  case h_2=>cases e
  next xv kv vv hx hk hv =>
  split at e
  case h_2=>cases e
  next H' hm =>
  cases e
  obtain ⟨w',r1,r2⟩:=amapUpdate_ok hA hE h hm (hρ _ _ hx) (hρ _ _ hk) (hρ _ _ hv)
  exact ⟨m,w',by simp [execOp,ho,r1],m.le_refl,r2⟩
 ·next t x k ho =>
  split at e
  case h_2=>cases e
  next xv kv hx hk =>
  split at e
  case h_2=>cases e
  next v H' hm =>
  cases e
  obtain ⟨r,w',r1,r2,r3⟩:=amapEntry_ok hA hE h hm (hρ _ _ hx) (hρ _ _ hk)
  exact ⟨r,m,w',by simp [execOp,ho,r1],m.le_refl,r2,r3⟩
 ·next t x s v ho =>
  split at e
  case h_2=>cases e
  next xv sv vv hx hs hv =>
  split at e
  case h_2=>cases e
  next H' hm =>
  cases e
  obtain ⟨w',r1,r2⟩:=aentryStore_ok (P:=P) (t:=t) h hm (hρ _ _ hx) (hρ _ _ hs) (hρ _ _ hv)
  exact ⟨m,w',by simp [execOp,ho,r1],m.le_refl,r2⟩
 ·next x xt t ok ho =>
  split at e
  case h_2=>cases e
  next v hv =>
  simp only [execOp,ho]
  exact outR_pure h e fun u hu=>atypeAssert_ok hA hu (hρ _ _ hv)
 ·next x i ho =>
  split at e
  case h_2=>cases e
  next v hv =>
  simp only [execOp,ho]
  exact outR_pure h e fun u hu=>aextract_ok hu (hρ _ _ hv)
 ·next c ho =>
  simp only [execOp,ho]
  exact acall_ok hA h hρ e
 ·next c ho =>
  split at e
  case h_2=>cases e
  next f args hc hargs =>
  split at e
  case h_2=>cases e
  next fn first cap hf =>
  cases e
  have hfv:=hρ _ _ hf
  simp only [VR] at hfv
  obtain ⟨xf,xc,hx,h1,h2⟩:=hfv
  have ha:=aargs_ok hρ _ _ hargs
  refine ⟨{ target:=.fn fn xc,args:=xf++c.args.map ρ' },by simp [execOp,ho,resolve,hc,Deferred.ofValue,hx],_,_,rfl,h2,?_⟩
  simp only [Array.toList_append]
  exact h1.append (by simpa using ha)
 ·next x ho =>
  split at e
  case h_2=>cases e
  next t v hv =>
  cases e
  have hxv:=hρ _ _ hv
  have hxv':=hxv
  simp only [VR] at hxv
  obtain ⟨z,hz,_⟩:=hxv
  exact ⟨ρ' x,by simp [execOp,ho,hz,Instr.panic],hxv'⟩
 ·cases e
end
end Go.Am
namespace Go.Pv
open Go.Am Go.RowKit
inductive Tail where
 |no
 |ex
 |own (i:Nat)
inductive PV where
 |lit (a:AV)
 |agg (l:List PV)
 |tup (l:List PV)
 |ifc (t:TypeId) (v:PV)
 |sl (tl:Tail) (l:List PV)
 |fp (v:PV)
 |ptr (i o:Nat)
 |ms (i o len cap:Nat) (ez:Option Nat)
 |mp (i:Nat)
 |fn (f:Fn) (first cap:List PV)
 |yld (i:Nat)
inductive PBlk where
 |cells (l:List PV)
 |map (es:List (AV×PV×Nat)) (clock:Nat)
 |iter (m:Option Nat) (since:Nat) (seen:List Nat) (stepped:Nat)
 |loop (st:LoopState) (pend:Option Code) (fn:FuncId) (tmps:T PV) (sz:Nat) (params:Array Tmp) (asg body:Code) (d:Nat)
 |dfr
 |own
structure PH where
 get:Nat→Option PBlk
 next:Nat
def PH.put (h:PH) (i:Nat) (b:PBlk):PH:=⟨fun x=>if x=i then some b else h.get x,h.next⟩
def PH.del (h:PH) (i:Nat):PH:=⟨fun x=>if x=i then none else h.get x,h.next⟩
def PH.add (h:PH) (b:PBlk):PH:=⟨fun x=>if x=h.next then some b else h.get x,h.next+1⟩
def PH.step (h:PH):PH:=⟨h.get,h.next+1⟩
inductive BS where
 |no
 |fz (n:Nat) (own:Option Nat)
 |live (i:Nat)
structure St where
 σ:Nat→BS
 e:Nat→Nat
 h:PH
 w:World
def St.fcell (s:St) (k o:Nat):Option Value :=
 match s.σ k with
 |.fz n _=>if o < n then s.w.cell? ⟨k,o,none⟩ else none
 |_=>none
def AV.plain:AV→Bool
 |.bool _ | .int _ _ | .str _ | .nilptr | .nilmap | .nilfn | .nilifc=>true
 |_=>false
def noEnv:Env:=fun _=>none
abbrev RR:=(Value→Prop)×(Nat→Nat→Prop)
abbrev RRs:=(List Value→Prop)×(Nat→Nat→Prop)×(Nat→Nat→Nat→Prop)
def St.one (s:St) (f:Value→Prop):RR:=(f,fun k o=>∃ y,s.fcell k o=some y∧f y)
def PV.nc:PV→Nat
 |.agg l=>l.length
 |_=>1
def TailOk (s:St) (tl:Tail) (k o len c sz:Nat):Prop :=
 match tl with
 |.no=>True
 |.ex=>c=len
 |.own i=>i < s.h.next∧s.e i=k∧0 < sz∧∀ n,s.σ k=.fz n (some i)→n=o+len * sz∧∃ arr t,s.w.heap[k]?=some (.cells arr t (0,0))∧o+c * sz≤arr.size
def Tail.isOwn:Tail→Bool
 |.own _=>true
 |_=>false
mutual
def R2 (s:St):PV→RR
 |.lit a=>s.one fun x=>AV.plain a=true∧VR noEnv a x
 |.agg l=>(fun x=>∃ y,x=.agg y∧(R2s s l).1 y.toList,fun k o=>(R2s s l).2.1 k o)
 |.tup l=>s.one fun x=>∃ y,x=.tuple y∧(R2s s l).1 y.toList
 |.ifc t v=>s.one fun x=>∃ y,x=.iface t y∧(R2 s v).1 y
 |.sl tl l=>s.one fun x=>(l=[]∧tl.isOwn=false∧x=.slice none 0 0) ∨
   ∃ k o c sz,x=.slice (some ⟨k,o,none⟩) l.length c∧l.length≤c∧(R2s s l).2.2 sz k o∧TailOk s tl k o l.length c sz
 |.fp v=>s.one fun x=>∃ k o,x=.pointer (some ⟨k,o,none⟩)∧(R2 s v).2 k o
 |.ptr i o=>s.one fun x=>i < s.h.next∧x=.pointer (some ⟨s.e i,o,none⟩)
 |.ms i o len cap _=>s.one fun x=>i < s.h.next∧x=.slice (some ⟨s.e i,o,none⟩) len cap
 |.mp i=>s.one fun x=>i < s.h.next∧x=.map (some (s.e i))
 |.fn f a b=>s.one fun x=>∃ y z,x=.func f y z∧(R2s s a).1 y.toList∧(R2s s b).1 z.toList
 |.yld i=>s.one fun x=>i < s.h.next∧x=.func (.yield (s.e i)) #[] #[]
def R2s (s:St):List PV→RRs
 |[]=>(fun xs=>xs=[],fun _ _=>True,fun _ _ _=>True)
 |v::vs=>(fun xs=>∃ y ys,xs=y::ys∧(R2 s v).1 y∧(R2s s vs).1 ys,fun k o=>(∃ y,s.fcell k o=some y∧(R2 s v).1 y)∧(R2s s vs).2.1 k (o+1),fun sz k o=>v.nc=sz∧(R2 s v).2 k o∧(R2s s vs).2.2 sz k (o+sz))
end
abbrev RV (s:St) (v:PV) (x:Value):Prop:=(R2 s v).1 x
abbrev RM (s:St) (v:PV) (k o:Nat):Prop:=(R2 s v).2 k o
abbrev RVs (s:St) (l:List PV) (xs:List Value):Prop:=(R2s s l).1 xs
abbrev RMs (s:St) (l:List PV) (k o:Nat):Prop:=(R2s s l).2.1 k o
abbrev REs (s:St) (l:List PV) (sz k o:Nat):Prop:=(R2s s l).2.2 sz k o
structure Ext0 (s s':St):Prop where
 next:s.h.next≤s'.h.next
 e:∀ i,i < s.h.next→s'.e i=s.e i
 cell:∀ k o y,s.fcell k o=some y→s'.fcell k o=some y
 own:∀ i n,i < s.h.next→s'.σ (s.e i)=.fz n (some i)→s.σ (s.e i)=.fz n (some i) ∧
  ∀ arr t,s.w.heap[s.e i]?=some (.cells arr t (0,0))→∃ arr',s'.w.heap[s.e i]?=some (.cells arr' t (0,0))∧arr'.size=arr.size
structure Ext (s s':St):Prop extends Ext0 s s' where
 old:s.w.heap.size≤s'.w.heap.size∧∀ k,k < s.w.heap.size→(s.σ k=.no→s'.σ k=.no)∧∀ n,s.σ k=.fz n none→s'.σ k=.fz n none
theorem Ext.mk' {s s':St} (old:s.w.heap.size≤s'.w.heap.size∧∀ k,k < s.w.heap.size→(s.σ k=.no→s'.σ k=.no)∧∀ n,s.σ k=.fz n none→s'.σ k=.fz n none) (next:s.h.next≤s'.h.next)
  (e:∀ i,i < s.h.next→s'.e i=s.e i) (cell:∀ k o y,s.fcell k o=some y→s'.fcell k o=some y)
  (own : ∀ i n, i < s.h.next → s'.σ (s.e i) = .fz n (some i) → s.σ (s.e i) = .fz n (some i) ∧
   ∀ arr t,s.w.heap[s.e i]?=some (.cells arr t (0,0))→∃ arr',s'.w.heap[s.e i]?=some (.cells arr' t (0,0))∧arr'.size=arr.size):Ext s s':=⟨⟨next,e,cell,own⟩,old⟩
theorem Ext.refl (s:St):Ext s s:=Ext.mk' ⟨Nat.le_refl _,fun _ _=>⟨id,fun _ h=>h⟩⟩ (Nat.le_refl _) ( fun _ _=>rfl) (fun _ _ _ h=>h) (fun _ _ _ h=>⟨h,fun arr _ h=>⟨arr,h,rfl⟩⟩)
theorem Ext.trans {a b c:St} (h:Ext a b) (k:Ext b c):Ext a c:=by
 refine Ext.mk' ⟨Nat.le_trans h.old.1 k.old.1,fun x hx=>⟨fun e=>(k.old.2 x (Nat.lt_of_lt_of_le hx h.old.1)).1 ((h.old.2 x hx).1 e),fun n e=>(k.old.2 x (Nat.lt_of_lt_of_le hx h.old.1)).2 n ((h.old.2 x hx).2 n e)⟩⟩ (Nat.le_trans h.next k.next) (fun i hi=>(k.e i (Nat.lt_of_lt_of_le hi h.next)).trans (h.e i hi)) (fun x o y hy=>k.cell _ _ _ (h.cell _ _ _ hy)) (fun i n hi hn=>?_)
 have h1:=h.e i hi
 have h2:=k.own i n (Nat.lt_of_lt_of_le hi h.next) (by rw [h1];exact hn)
 rw [h1] at h2
 have h3:=h.own i n hi h2.1
 refine ⟨h3.1,fun arr t ha=>?_⟩
 obtain ⟨arr1,p1,p2⟩:=h3.2 arr t ha
 obtain ⟨arr2,q1,q2⟩:=h2.2 arr1 t p1
 exact ⟨arr2,q1,q2.trans p2⟩
theorem TailOk.ext {s s':St} (h:Ext0 s s') {tl:Tail} {k o len c sz:Nat} (ht:TailOk s tl k o len c sz):TailOk s' tl k o len c sz:=by
 cases tl with
 |no=>trivial
 |ex=>exact ht
 |own i =>
  obtain ⟨h1,h2,h3,h4⟩:=ht
  refine ⟨Nat.lt_of_lt_of_le h1 h.next,(h.e i h1).trans h2,h3,fun n hn=>?_⟩
  subst h2
  obtain ⟨k1,k2⟩:=h.own i n h1 hn
  obtain ⟨q1,arr,t,q2,q3⟩:=h4 n k1
  obtain ⟨arr',p1,p2⟩:=k2 arr t q2
  exact ⟨q1,arr',t,p1,by omega⟩
theorem one_ext {s s':St} (h:Ext0 s s') {f f':Value→Prop} (hf:∀ x,f x→f' x):(∀ x,(s.one f).1 x→(s'.one f').1 x)∧∀ k o,(s.one f).2 k o→(s'.one f').2 k o :=
 ⟨hf,fun k o ⟨y,h1,h2⟩=>⟨y,h.cell _ _ _ h1,hf _ h2⟩⟩
mutual
theorem R2.ext0 {s s':St} (h:Ext0 s s'):∀ v:PV,(∀ x,RV s v x→RV s' v x)∧∀ k o,RM s v k o→RM s' v k o
 |.lit a=>by unfold RV RM R2;exact one_ext h fun x hx=>hx
 |.agg l=>by
  have ih:=R2s.ext0 h l
  unfold RV RM R2
  exact ⟨fun x ⟨y,h1,h2⟩=>⟨y,h1,ih.1 _ h2⟩,fun k o h1=>ih.2.1 k o h1⟩
 |.tup l=>by
  have ih:=R2s.ext0 h l
  unfold RV RM R2
  exact one_ext h fun x ⟨y,h1,h2⟩=>⟨y,h1,ih.1 _ h2⟩
 |.ifc t v=>by
  have ih:=R2.ext0 h v
  unfold RV RM R2
  exact one_ext h fun x ⟨y,h1,h2⟩=>⟨y,h1,ih.1 _ h2⟩
 |.sl tl l=>by
  have ih:=R2s.ext0 h l
  unfold RV RM R2
  refine one_ext h fun x hx=>?_
  rcases hx with hx | ⟨k,o,c,sz,h1,h2,h3,h4⟩
  ·exact .inl hx
  ·exact .inr ⟨k,o,c,sz,h1,h2,ih.2.2 _ _ _ h3,h4.ext h⟩
 |.fp v=>by
  have ih:=R2.ext0 h v
  unfold RV RM R2
  exact one_ext h fun x ⟨k,o,h1,h2⟩=>⟨k,o,h1,ih.2 _ _ h2⟩
 |.ptr i o=>by
  unfold RV RM R2
  exact one_ext h fun x ⟨h1,h2⟩=>⟨Nat.lt_of_lt_of_le h1 h.next,by rw [h.e i h1];exact h2⟩
 |.ms i o len cap _=>by
  unfold RV RM R2
  exact one_ext h fun x ⟨h1,h2⟩=>⟨Nat.lt_of_lt_of_le h1 h.next,by rw [h.e i h1];exact h2⟩
 |.mp i=>by
  unfold RV RM R2
  exact one_ext h fun x ⟨h1,h2⟩=>⟨Nat.lt_of_lt_of_le h1 h.next,by rw [h.e i h1];exact h2⟩
 |.fn f a b=>by
  have iha:=R2s.ext0 h a
  have ihb:=R2s.ext0 h b
  unfold RV RM R2
  exact one_ext h fun x ⟨y,z,h1,h2,h3⟩=>⟨y,z,h1,iha.1 _ h2,ihb.1 _ h3⟩
 |.yld i=>by
  unfold RV RM R2
  exact one_ext h fun x ⟨h1,h2⟩=>⟨Nat.lt_of_lt_of_le h1 h.next,by rw [h.e i h1];exact h2⟩
theorem R2s.ext0 {s s':St} (h:Ext0 s s'):∀ l:List PV,(∀ xs,RVs s l xs→RVs s' l xs)∧(∀ k o,RMs s l k o→RMs s' l k o)∧∀ sz k o,REs s l sz k o→REs s' l sz k o
 |[]=>by unfold RVs RMs REs R2s;exact ⟨fun _ h=>h,fun _ _ h=>h,fun _ _ _ h=>h⟩
 |v::vs=>by
  have ih:=R2.ext0 h v
  have ihs:=R2s.ext0 h vs
  unfold RVs RMs REs R2s
  exact ⟨fun xs ⟨y,ys,h1,h2,h3⟩=>⟨y,ys,h1,ih.1 _ h2,ihs.1 _ h3⟩,fun k o ⟨⟨y,h1,h2⟩,h3⟩=>⟨⟨y,h.cell _ _ _ h1,ih.1 _ h2⟩,ihs.2.1 _ _ h3⟩,fun sz k o ⟨h0,h1,h2⟩=>⟨h0,ih.2 _ _ h1,ihs.2.2 _ _ _ h2⟩⟩
end
theorem R2.ext {s s':St} (h:Ext s s') (v:PV):(∀ x,RV s v x→RV s' v x)∧∀ k o,RM s v k o→RM s' v k o:=R2.ext0 h.toExt0 v
theorem R2s.ext {s s':St} (h:Ext s s') (l:List PV):(∀ xs,RVs s l xs→RVs s' l xs)∧(∀ k o,RMs s l k o→RMs s' l k o)∧∀ sz k o,REs s l sz k o→REs s' l sz k o:=R2s.ext0 h.toExt0 l
def RE3 (s:St):List (AV×PV×Nat)→List MapEntry→Prop
 |[],xs=>xs=[]
 |e::es,xs=>∃ y ys,xs=y::ys∧VR noEnv e.1 y.key∧RV s e.2.1 y.val∧e.2.2=y.born∧RE3 s es ys
def TV (s:St) (t:Nat→Option PV) (arr:Array Value):Prop:=∀ i v,t i=some v→∃ x,arr[i]?=some x∧RV s v x
def PB (s:St) (k:Nat):PBlk→Prop
 |.cells l=>∃ arr t,s.w.heap[k]?=some (.cells arr t (0,0))∧RVs s l arr.toList
 |.map es clock=>∃ arr,s.w.heap[k]?=some (.map arr clock)∧RE3 s es arr.toList
 |.iter m since seen stepped=>(∀ i,m=some i→i < s.h.next)∧s.w.heap[k]?=some (.mapIter (m.map s.e) since seen.toArray stepped)
 |.loop st pend fn tmps sz ps asg body d=>∃ a:Array Value,d < s.h.next∧a.size=sz∧TV s tmps.get a ∧
   s.w.heap[k]?=some (.loop { state:=st,pending:=pend,fn,tmps:=a,params:=ps,assign:=asg,body,defers:=s.e d })
 |.dfr=>s.w.heap[k]?=some (.deferred (some []))
 |.own=>True
def BAt (s:St) (i:Nat):PBlk→Prop
 |.own=>∃ n,s.σ (s.e i)=.fz n (some i)
 |_=>s.σ (s.e i)=.live i
theorem BAt.congr {s s':St} {i:Nat} {b:PBlk} (he:s'.e i=s.e i) (hσ:s'.σ (s.e i)=s.σ (s.e i)) (h:BAt s i b):BAt s' i b:=by
 cases b<;>simp only [BAt] at h ⊢<;>rw [he,hσ]<;>exact h
theorem BAt.some {s:St} {i:Nat} {b:PBlk} (h:BAt s i b):s.σ (s.e i)≠.no:=by
 cases b<;>simp only [BAt] at h<;>first
  |(rw [h];simp)
  |(obtain ⟨n,h⟩:=h;rw [h];simp)
theorem BAt.inj {s:St} {i j:Nat} {b b':PBlk} (h:BAt s i b) (h':BAt s j b') (e:s.e i=s.e j):i=j:=by
 cases b<;>cases b'<;>simp only [BAt] at h h'<;>rw [e] at h<;>first
  |(rw [h] at h';cases h';rfl)
  |(obtain ⟨n,h⟩:=h;rw [h] at h';first | (cases h';done) | (obtain ⟨m,h'⟩:=h';cases h';rfl))
  |(obtain ⟨n,h'⟩:=h';rw [h] at h';cases h')
theorem RE3.ext0 {s s':St} (h:Ext0 s s'):∀ {es:List (AV×PV×Nat)} {xs:List MapEntry},RE3 s es xs→RE3 s' es xs
 |[],_,e=>e
 |e::_,_,⟨y,ys,h1,h2,h3,h4,h5⟩=>⟨y,ys,h1,h2,(R2.ext0 h e.2.1).1 _ h3,h4,RE3.ext0 h h5⟩
theorem TV.ext0 {s s':St} (h:Ext0 s s') {t:Nat→Option PV} {arr:Array Value} (ht:TV s t arr):TV s' t arr :=
 fun i v hi=>let ⟨x,h1,h2⟩:=ht i v hi;⟨x,h1,(R2.ext0 h v).1 _ h2⟩
theorem PB.ext0 {s s':St} (h:Ext0 s s') {k:Nat} (hk:s'.w.heap[k]?=s.w.heap[k]?) {b:PBlk} (hb:PB s k b):PB s' k b:=by
 cases b with
 |cells l =>
  obtain ⟨arr,t,h1,h2⟩:=hb
  exact ⟨arr,t,by rw [hk];exact h1,(R2s.ext0 h l).1 _ h2⟩
 |map es clock =>
  obtain ⟨arr,h1,h2⟩:=hb
  exact ⟨arr,by rw [hk];exact h1,h2.ext0 h⟩
 |iter m since seen stepped =>
  obtain ⟨h1,h2⟩:=hb
  refine ⟨fun i hi=>Nat.lt_of_lt_of_le (h1 i hi) h.next,?_⟩
  rw [hk,h2]
  cases m with
  |none=>rfl
  |some i=>simp only [Option.map_some,h.e i (h1 i rfl)]
 |loop st pend fn tmps sz ps asg body d =>
  obtain ⟨a,h1,h2,h3,h4⟩:=hb
  exact ⟨a,Nat.lt_of_lt_of_le h1 h.next,h2,h3.ext0 h,by rw [hk,h4,h.e d h1]⟩
 |dfr=>exact hk.trans hb
 |own=>trivial
theorem RE3.ext {s s':St} (h:Ext s s') {es:List (AV×PV×Nat)} {xs:List MapEntry} (e:RE3 s es xs):RE3 s' es xs:=e.ext0 h.toExt0
theorem TV.ext {s s':St} (h:Ext s s') {t:Nat→Option PV} {arr:Array Value} (ht:TV s t arr):TV s' t arr:=ht.ext0 h.toExt0
theorem PB.ext {s s':St} (h:Ext s s') {k:Nat} (hk:s'.w.heap[k]?=s.w.heap[k]?) {b:PBlk} (hb:PB s k b):PB s' k b:=hb.ext0 h.toExt0 hk
structure Base where
 w:World
 pr:Nat→Prop
 lt:∀ k,pr k→k < w.heap.size
def Base.of (w:World):Base:=⟨w,fun k=>k < w.heap.size,fun _ h=>h⟩
structure PW (w0:Base) (s:St):Prop where
 os:s.w.os=w0.w.os
 tape:s.w.tape=w0.w.tape
 output:s.w.output=w0.w.output
 size:w0.w.heap.size≤s.w.heap.size
 old:∀ k,w0.pr k→s.w.heap[k]?=w0.w.heap[k]?
 prot:∀ k,w0.pr k→s.σ k=.no∨∃ n,s.σ k=.fz n none
 cold:∀ k o,¬ w0.pr k→s.w.heap[k]?=some o→Cold o
 inb:∀ k,s.w.heap.size≤k→s.σ k=.no
 ob:∀ k n i,s.σ k=.fz n (some i)→i < s.h.next∧s.e i=k∧∃ arr t,s.w.heap[k]?=some (.cells arr t (0,0))∧n≤arr.size
 hp:∀ i b,s.h.get i=some b→i < s.h.next∧BAt s i b∧PB s (s.e i) b
theorem PW.grown {w0:World} {s:St} (h:PW (Base.of w0) s):Grown w0 s.w:=by
 refine ⟨Below.frame ⟨h.os,h.tape,h.output,h.size,h.old⟩ _,fun a=>?_,h.size⟩
 rcases Nat.lt_or_ge a.block w0.heap.size with h1 | h1
 ·exact World.frozen?_of_block (h.old _ h1)
 ·have e1:w0.heap[a.block]?=none:=Array.getElem?_eq_none h1
  rw [frozen_none e1]
  cases h2:s.w.heap[a.block]? with
  |none=>exact frozen_none h2
  |some o=>exact (h.cold _ o (Nat.not_lt.2 h1) h2).frozen h2
end Go.Pv
namespace Go.Pv
open Go.Am Go.RowKit
def upd {α:Type} (f:Nat→α) (k:Nat) (a:α):Nat→α:=fun x=>if x=k then a else f x
theorem upd_self {α:Type} (f:Nat→α) (k:Nat) (a:α):upd f k a k=a:=by simp [upd]
theorem upd_ne {α:Type} (f:Nat→α) {k x:Nat} (a:α) (h:x≠k):upd f k a x=f x:=by simp [upd,h]
theorem fcell_some {s:St} {k o:Nat} {y:Value} (h:s.fcell k o=some y):∃ n own,s.σ k=.fz n own∧o < n∧s.w.cell? ⟨k,o,none⟩=some y:=by
 unfold St.fcell at h
 split at h
 ·next n own hk =>
  split at h
  ·next ho=>exact ⟨n,own,hk,ho,h⟩
  ·cases h
 ·cases h
theorem fcell_of {s:St} {k o n:Nat} {own:Option Nat} {y:Value} (hk:s.σ k=.fz n own) (ho:o < n) (hy:s.w.cell? ⟨k,o,none⟩=some y):s.fcell k o=some y:=by
 simp only [St.fcell,hk,ho,if_true,hy]
theorem cell_heap {w w':World} {k o:Nat} (h:w'.heap[k]?=w.heap[k]?):w'.cell? ⟨k,o,none⟩=w.cell? ⟨k,o,none⟩:=by
 simp only [World.cell?,h]
section
variable {w0:Base} {s:St}
theorem PW.lt (h:PW w0 s) {k:Nat} (hk:s.σ k≠.no):k < s.w.heap.size:=by
 rcases Nat.lt_or_ge k s.w.heap.size with h1 | h1
 ·exact h1
 ·exact absurd (h.inb k h1) hk
def St.wat (s:St) (w':World):St:={ s with w:=w' }
theorem Ext.wat (s:St) {w':World} (hw:w'.heap=s.w.heap):Ext s (s.wat w'):=by
 refine Ext.mk' ⟨by simp [St.wat,hw],fun _ _=>⟨id,fun _ h=>h⟩⟩ (Nat.le_refl _) (fun _ _=>rfl) (fun k o y h=>?_) (fun i n _ hn=>⟨hn,fun arr t ha=>⟨arr,by simpa [St.wat,hw] using ha,rfl⟩⟩)
 obtain ⟨n,own,h1,h2,h3⟩:=fcell_some h
 exact fcell_of (s:=s.wat w') h1 h2 (by rw [← h3];exact cell_heap (by simp [St.wat,hw]))
theorem PW.wat (h:PW w0 s) {w':World} (hw:w'.heap=s.w.heap) (h1:w'.os=s.w.os) (h2:w'.tape=s.w.tape) (h3:w'.output=s.w.output):PW w0 (s.wat w') :=
 ⟨h1.trans h.os,h2.trans h.tape,h3.trans h.output,by simpa [St.wat,hw] using h.size,by simpa [St.wat,hw] using h.old,h.prot,by simpa [St.wat,hw] using h.cold,by simpa [St.wat,hw] using h.inb,by simpa [St.wat,hw] using h.ob,fun i b hb=>let ⟨p,q,r⟩:=h.hp i b hb;⟨p,q,r.ext (Ext.wat s hw) (by simp [St.wat,hw])⟩⟩
theorem PW.drew (h:PW w0 s):PW w0 (s.wat s.w.drew):=h.wat rfl rfl rfl rfl
theorem Ext.drew (s:St):Ext s (s.wat s.w.drew):=Ext.wat s rfl
theorem alloc_heap_lt (w:World) (o:Obj) {k:Nat} (h:k < w.heap.size):(w.alloc o).heap[k]?=w.heap[k]?:=Below.heap_alloc w o k h
theorem alloc_size (w:World) (o:Obj):(w.alloc o).heap.size=w.heap.size+1:=by simp
def St.fresh (s:St) (bs:BS) (o:Obj):St:={ s with σ:=upd s.σ s.w.heap.size bs,w:=s.w.alloc o }
def BS.quiet:BS→Bool
 |.no=>true
 |.fz _ none=>true
 |_=>false
theorem PW.cell_alloc (h:PW w0 s) {s':St} {o:Obj} (hw:s'.w=s.w.alloc o) (hσ:∀ k,k≠s.w.heap.size→s'.σ k=s.σ k) {k j:Nat} {y:Value} (hy:s.fcell k j=some y):s'.fcell k j=some y:=by
 obtain ⟨n,own,h1,h2,h3⟩:=fcell_some hy
 have hk:=h.lt (k:=k) (by rw [h1];simp)
 refine fcell_of (n:=n) (own:=own) ((hσ k (by omega)).trans h1) h2 ?_
 rw [← h3]
 exact cell_heap (by rw [hw];exact alloc_heap_lt _ _ hk)
theorem Ext.fresh (h:PW w0 s) {bs:BS} {o:Obj} (hb:bs.quiet=true):Ext s (s.fresh bs o):=by
 refine Ext.mk' ⟨by simp [St.fresh],fun k hk=>⟨fun e=>(upd_ne s.σ bs (Nat.ne_of_lt hk)).trans e,fun n e=>(upd_ne s.σ bs (Nat.ne_of_lt hk)).trans e⟩⟩ (Nat.le_refl _) (fun _ _=>rfl) (fun k j y hy=>h.cell_alloc (s':=s.fresh bs o) rfl (fun k hk=>upd_ne _ _ hk) hy) (fun i n _ hn=>?_)
 simp only [St.fresh] at hn ⊢
 by_cases hk:s.e i=s.w.heap.size
 ·rw [hk,upd_self] at hn
  subst hn
  cases hb
 ·rw [upd_ne _ _ hk] at hn
  refine ⟨hn,fun arr t ha=>⟨arr,?_,rfl⟩⟩
  rw [alloc_heap_lt _ _ (h.lt (by rw [hn];simp))]
  exact ha
theorem PW.fresh (h:PW w0 s) {bs:BS} {o:Obj} (hb:bs.quiet=true) (hc:Cold o):PW w0 (s.fresh bs o):=by
 have hx:=Ext.fresh h (o:=o) hb
 refine ⟨h.os,h.tape,h.output,?_,?_,?_,?_,?_,?_,?_⟩
 ·have:=h.size
  simp only [St.fresh,alloc_size]
  omega
 ·intro k hk
  have:=h.size
  have hk1:=w0.lt k hk
  exact (alloc_heap_lt s.w o (by omega)).trans (h.old k hk)
 ·intro k hk
  have:=h.size
  have hk1:=w0.lt k hk
  simp only [St.fresh,upd_ne s.σ bs (show k≠s.w.heap.size by omega)]
  exact h.prot k hk
 ·intro k o' hk ho
  simp only [St.fresh] at ho
  rcases Nat.lt_trichotomy k s.w.heap.size with h1 | h1 | h1
  ·rw [alloc_heap_lt _ _ h1] at ho
   exact h.cold k o' hk ho
  ·rw [h1,heap_alloc_new] at ho
   cases ho
   exact hc
  ·rw [Array.getElem?_eq_none (by simp;omega)] at ho
   cases ho
 ·intro k hk
  simp only [St.fresh,alloc_size] at hk ⊢
  rw [upd_ne _ _ (by omega)]
  exact h.inb k (by omega)
 ·intro k n i hk
  simp only [St.fresh] at hk ⊢
  by_cases hkk:k=s.w.heap.size
  ·rw [hkk,upd_self] at hk
   subst hk
   cases hb
  ·rw [upd_ne _ _ hkk] at hk
   obtain ⟨p1,p2,arr,t,p3,p4⟩:=h.ob k n i hk
   exact ⟨p1,p2,arr,t,(alloc_heap_lt _ _ (h.lt (by rw [hk];simp))).trans p3,p4⟩
 ·intro i b hi
  obtain ⟨p1,p2,p3⟩:=h.hp i b hi
  have hlt:=h.lt (k:=s.e i) p2.some
  exact ⟨p1,BAt.congr (s':=s.fresh bs o) (s:=s) rfl (upd_ne s.σ bs (show s.e i≠s.w.heap.size by omega)) p2,p3.ext hx (alloc_heap_lt _ _ hlt)⟩
def PBlk.isOwn:PBlk→Bool
 |.own=>true
 |_=>false
theorem BAt_live {s:St} {i:Nat} {b:PBlk} (hb:b.isOwn=false):BAt s i b↔s.σ (s.e i)=.live i:=by
 cases b<;>first | exact Iff.rfl | cases hb
def St.new (s:St) (b:PBlk) (o:Obj):St:={ σ:=upd s.σ s.w.heap.size (.live s.h.next),e:=upd s.e s.h.next s.w.heap.size,h:=s.h.add b,w:=s.w.alloc o }
theorem Ext.new (h:PW w0 s) {b:PBlk} {o:Obj}:Ext s (s.new b o):=by
 refine Ext.mk' ⟨by simp [St.new],fun k hk=>⟨fun e=>(upd_ne s.σ _ (Nat.ne_of_lt hk)).trans e,fun n e=>(upd_ne s.σ _ (Nat.ne_of_lt hk)).trans e⟩⟩ (Nat.le_succ _) (fun i hi=>upd_ne _ _ (by omega)) (fun k j y hy=>h.cell_alloc (s':=s.new b o) rfl (fun k hk=>upd_ne _ _ hk) hy) (fun i n _ hn=>?_)
 simp only [St.new] at hn ⊢
 by_cases hk:s.e i=s.w.heap.size
 ·rw [hk,upd_self] at hn
  cases hn
 ·rw [upd_ne _ _ hk] at hn
  refine ⟨hn,fun arr t ha=>⟨arr,?_,rfl⟩⟩
  rw [alloc_heap_lt _ _ (h.lt (by rw [hn];simp))]
  exact ha
theorem PW.new (h:PW w0 s) {b:PBlk} {o:Obj} (hc:Cold o) (hno:b.isOwn=false) (hb:PB (s.new b o) s.w.heap.size b):PW w0 (s.new b o):=by
 have hx:=Ext.new h (b:=b) (o:=o)
 refine ⟨h.os,h.tape,h.output,?_,?_,?_,?_,?_,?_,?_⟩
 ·have:=h.size
  simp only [St.new,alloc_size]
  omega
 ·intro k hk
  have:=h.size
  have hk1:=w0.lt k hk
  exact (alloc_heap_lt s.w o (by omega)).trans (h.old k hk)
 ·intro k hk
  have:=h.size
  have hk1:=w0.lt k hk
  simp only [St.new,upd_ne s.σ (BS.live s.h.next) (show k≠s.w.heap.size by omega)]
  exact h.prot k hk
 ·intro k o' hk ho
  simp only [St.new] at ho
  rcases Nat.lt_trichotomy k s.w.heap.size with h1 | h1 | h1
  ·rw [alloc_heap_lt _ _ h1] at ho
   exact h.cold k o' hk ho
  ·rw [h1,heap_alloc_new] at ho
   cases ho
   exact hc
  ·rw [Array.getElem?_eq_none (by simp;omega)] at ho
   cases ho
 ·intro k hk
  simp only [St.new,alloc_size] at hk ⊢
  rw [upd_ne _ _ (by omega)]
  exact h.inb k (by omega)
 ·intro k n i hk
  simp only [St.new] at hk ⊢
  by_cases hkk:k=s.w.heap.size
  ·rw [hkk,upd_self] at hk
   cases hk
  ·rw [upd_ne _ _ hkk] at hk
   obtain ⟨p1,p2,arr,t,p3,p4⟩:=h.ob k n i hk
   exact ⟨Nat.lt_succ_of_lt p1,(upd_ne _ _ (by omega)).trans p2,arr,t,(alloc_heap_lt _ _ (h.lt (by rw [hk];simp))).trans p3,p4⟩
 ·intro i b' hi
  simp only [St.new,PH.add] at hi
  split at hi
  ·next hin =>
   cases hi
   subst hin
   have e1:(s.new b o).e s.h.next=s.w.heap.size:=upd_self _ _ _
   exact ⟨Nat.lt_succ_self _,(BAt_live hno).2 (by rw [e1];exact upd_self _ _ _),by rw [e1];exact hb⟩
  ·next hin =>
   obtain ⟨p1,p2,p3⟩:=h.hp i b' hi
   have hlt:=h.lt (k:=s.e i) p2.some
   have e1:(s.new b o).e i=s.e i:=upd_ne _ _ hin
   exact ⟨Nat.lt_succ_of_lt p1,p2.congr e1 (upd_ne s.σ (BS.live s.h.next) (show s.e i≠s.w.heap.size by omega)),by rw [e1];exact p3.ext hx (alloc_heap_lt _ _ hlt)⟩
def St.newO (s:St) (n:Nat) (o:Obj):St:={ σ:=upd s.σ s.w.heap.size (.fz n (some s.h.next)),e:=upd s.e s.h.next s.w.heap.size,h:=s.h.add .own,w:=s.w.alloc o }
theorem Ext.newO (h:PW w0 s) {n:Nat} {o:Obj}:Ext s (s.newO n o):=by
 refine Ext.mk' ⟨by simp [St.newO],fun k hk=>⟨fun e=>(upd_ne s.σ _ (Nat.ne_of_lt hk)).trans e,fun n e=>(upd_ne s.σ _ (Nat.ne_of_lt hk)).trans e⟩⟩ (Nat.le_succ _) (fun i hi=>upd_ne _ _ (by omega)) (fun k j y hy=>h.cell_alloc (s':=s.newO n o) rfl (fun k hk=>upd_ne _ _ hk) hy) (fun i m hi hn=>?_)
 simp only [St.newO] at hn ⊢
 by_cases hk:s.e i=s.w.heap.size
 ·rw [hk,upd_self] at hn
  injection hn with _ h2
  injection h2 with h3
  omega
 ·rw [upd_ne _ _ hk] at hn
  refine ⟨hn,fun arr t ha=>⟨arr,?_,rfl⟩⟩
  rw [alloc_heap_lt _ _ (h.lt (by rw [hn];simp))]
  exact ha
theorem PW.newO (h:PW w0 s) {n:Nat} {arr:Array Value} {t:TypeId} (hn:n≤arr.size):PW w0 (s.newO n (.cells arr t)):=by
 have hx:=Ext.newO h (n:=n) (o:=.cells arr t)
 refine ⟨h.os,h.tape,h.output,?_,?_,?_,?_,?_,?_,?_⟩
 ·have:=h.size
  simp only [St.newO,alloc_size]
  omega
 ·intro k hk
  have:=h.size
  have hk1:=w0.lt k hk
  exact (alloc_heap_lt s.w _ (by omega)).trans (h.old k hk)
 ·intro k hk
  have:=h.size
  have hk1:=w0.lt k hk
  simp only [St.newO,upd_ne s.σ (BS.fz n (some s.h.next)) (show k≠s.w.heap.size by omega)]
  exact h.prot k hk
 ·intro k o' hk ho
  simp only [St.newO] at ho
  rcases Nat.lt_trichotomy k s.w.heap.size with h1 | h1 | h1
  ·rw [alloc_heap_lt _ _ h1] at ho
   exact h.cold k o' hk ho
  ·rw [h1,heap_alloc_new] at ho
   cases ho
   intro arr' t' z e
   cases e
   exact Nat.le_refl _
  ·rw [Array.getElem?_eq_none (by simp;omega)] at ho
   cases ho
 ·intro k hk
  simp only [St.newO,alloc_size] at hk ⊢
  rw [upd_ne _ _ (by omega)]
  exact h.inb k (by omega)
 ·intro k m i hk
  simp only [St.newO] at hk ⊢
  by_cases hkk:k=s.w.heap.size
  ·rw [hkk,upd_self] at hk
   cases hk
   refine ⟨Nat.lt_succ_self _,by rw [upd_self,hkk],arr,t,by rw [hkk];exact heap_alloc_new _ _,hn⟩
  ·rw [upd_ne _ _ hkk] at hk
   obtain ⟨p1,p2,arr',t',p3,p4⟩:=h.ob k m i hk
   exact ⟨Nat.lt_succ_of_lt p1,(upd_ne _ _ (by omega)).trans p2,arr',t',(alloc_heap_lt _ _ (h.lt (by rw [hk];simp))).trans p3,p4⟩
 ·intro i b' hi
  simp only [St.newO,PH.add] at hi
  split at hi
  ·next hin =>
   cases hi
   subst hin
   have e1:(s.newO n (.cells arr t)).e s.h.next=s.w.heap.size:=upd_self _ _ _
   exact ⟨Nat.lt_succ_self _,⟨n,by rw [e1];exact upd_self _ _ _⟩,trivial⟩
  ·next hin =>
   obtain ⟨p1,p2,p3⟩:=h.hp i b' hi
   have hlt:=h.lt (k:=s.e i) p2.some
   have e1:(s.newO n (.cells arr t)).e i=s.e i:=upd_ne _ _ (by omega)
   exact ⟨Nat.lt_succ_of_lt p1,p2.congr e1 (upd_ne s.σ (BS.fz n (some s.h.next)) (show s.e i≠s.w.heap.size by omega)),by rw [e1];exact p3.ext hx (alloc_heap_lt _ _ hlt)⟩
def St.put (s:St) (i:Nat) (b:PBlk) (w':World):St:={ s with h:=s.h.put i b,w:=w' }
theorem Ext.put {i:Nat} (hl:s.σ (s.e i)=.live i) {b:PBlk} {w':World} (hs:s.w.heap.size≤w'.heap.size) (hw:∀ k,k≠s.e i→w'.heap[k]?=s.w.heap[k]?):Ext s (s.put i b w'):=by
 refine Ext.mk' ⟨hs,fun _ _=>⟨id,fun _ h=>h⟩⟩ (Nat.le_refl _) (fun _ _=>rfl) (fun k j y hy=>?_) (fun i' n _ hn=>⟨hn,fun arr t ha=>⟨arr,?_,rfl⟩⟩)
 ·obtain ⟨n,own,h1,h2,h3⟩:=fcell_some hy
  refine fcell_of (s:=s.put i b w') h1 h2 ?_
  rw [← h3]
  exact cell_heap (hw k (fun e=>by rw [e,hl] at h1;cases h1))
 ·refine (hw _ (fun e=>?_)).trans ha
  have:s.σ (s.e i')=.fz n (some i'):=hn
  rw [e,hl] at this
  cases this
theorem PW.put (h:PW w0 s) {i:Nat} (hi:i < s.h.next) (hl:s.σ (s.e i)=.live i) {b:PBlk} (hno:b.isOwn=false) {o:Obj} {w':World} (u:Upd s.w w' (s.e i) o) (hc:Cold o)
  (hb:PB (s.put i b w') (s.e i) b):PW w0 (s.put i b w'):=by
 have hx:Ext s (s.put i b w'):=Ext.put hl (Nat.le_of_eq u.size.symm) fun k hk=>u.old k hk
 have hnp:¬ w0.pr (s.e i):=fun hlt=>by
  rcases h.prot _ hlt with h1 | ⟨n,h1⟩<;>rw [hl] at h1<;>cases h1
 refine ⟨u.os.trans h.os,u.tape.trans h.tape,u.output.trans h.output,by have:=h.size;have:=u.size;simp only [St.put];omega,?_,h.prot,?_,fun k hk=>h.inb k (by have:=u.size;simp only [St.put] at hk;omega),?_,?_⟩
 ·intro k hk
  exact (u.old k (fun e=>hnp (e ▸ hk))).trans (h.old k hk)
 ·intro k o' hk ho
  by_cases hke:k=s.e i
  ·subst hke
   simp only [St.put] at ho
   rw [u.new] at ho
   cases ho
   exact hc
  ·exact h.cold k o' hk ((u.old k hke).symm.trans ho)
 ·intro k n i' hk
  obtain ⟨p1,p2,arr,t,p3,p4⟩:=h.ob k n i' hk
  refine ⟨p1,p2,arr,t,(u.old k (fun e=>?_)).trans p3,p4⟩
  have:s.σ k=.fz n (some i'):=hk
  rw [e,hl] at this
  cases this
 ·intro i' b' hi'
  simp only [St.put,PH.put] at hi'
  split at hi'
  ·next e =>
   cases hi'
   subst e
   exact ⟨hi,(BAt_live hno).2 hl,hb⟩
  ·next hne =>
   obtain ⟨p1,p2,p3⟩:=h.hp i' b' hi'
   refine ⟨p1,BAt.congr (s':=s.put i b w') (s:=s) rfl rfl p2,p3.ext hx (u.old _ fun e=>?_)⟩
   exact hne (p2.inj ((BAt_live (b:=.dfr) rfl).2 hl) e)
def St.grow (s:St) (i k n:Nat) (w':World):St:={ σ:=upd s.σ k (.fz n (some s.h.next)),e:=upd s.e s.h.next k,h:=(s.h.del i).add .own,w:=w' }
theorem Ext.grow (h:PW w0 s) {k m n i:Nat} (hk:s.σ k=.fz m (some i)) (hmn:m≤n) {w':World} {arr arr':Array Value} {t:TypeId} (ha:s.w.heap[k]?=some (.cells arr t (0,0)))
  (ha':w'.heap[k]?=some (.cells arr' t (0,0))) (hsame:∀ j,j < m→arr'[j]?=arr[j]?) (hs:s.w.heap.size≤w'.heap.size) (hw:∀ x,x≠k→w'.heap[x]?=s.w.heap[x]?):Ext s (s.grow i k n w'):=by
 refine Ext.mk' ⟨hs,fun x _=>⟨fun e=>(upd_ne s.σ _ (fun c:x=k=>by rw [c,hk] at e;cases e)).trans e,fun n' e=>(upd_ne s.σ _ (fun c:x=k=>by rw [c,hk] at e;cases e)).trans e⟩⟩ (Nat.le_succ _) (fun j hj=>upd_ne _ _ (by omega)) (fun x j y hy=>?_) (fun i' n' hi' hn=>?_)
 ·obtain ⟨n',own,h1,h2,h3⟩:=fcell_some hy
  by_cases hx:x=k
  ·subst hx
   rw [hk] at h1
   cases h1
   refine fcell_of (s:=s.grow i x n w') (n:=n) (own:=some s.h.next) (upd_self _ _ _) (by omega) ?_
   simp only [World.cell?,ha] at h3
   simp only [World.cell?,St.grow,ha']
   simpa [hsame j h2] using h3
  ·refine fcell_of (s:=s.grow i k n w') (n:=n') (own:=own) ((upd_ne _ _ hx).trans h1) h2 ?_
   rw [← h3]
   exact cell_heap (hw x hx)
 ·simp only [St.grow] at hn ⊢
  by_cases hx:s.e i'=k
  ·rw [hx,upd_self] at hn
   injection hn with _ h2
   injection h2 with h3
   omega
  ·rw [upd_ne _ _ hx] at hn
   exact ⟨hn,fun arr t ha=>⟨arr,(hw _ hx).trans ha,rfl⟩⟩
theorem PW.grow (h:PW w0 s) {k m n i:Nat} (hk:s.σ k=.fz m (some i)) (hmn:m≤n) {w':World} {arr arr':Array Value} {t:TypeId} (ha:s.w.heap[k]?=some (.cells arr t (0,0)))
  (u:Upd s.w w' k (.cells arr' t (0,0))) (hsame:∀ j,j < m→arr'[j]?=arr[j]?) (hn:n≤arr'.size):PW w0 (s.grow i k n w'):=by
 have hx:Ext s (s.grow i k n w'):=Ext.grow h hk hmn ha u.new hsame (Nat.le_of_eq u.size.symm) fun x hx=>u.old x hx
 have hnp:¬ w0.pr k:=fun hlt=>by
  rcases h.prot _ hlt with h1 | ⟨n,h1⟩<;>rw [hk] at h1<;>cases h1
 refine ⟨u.os.trans h.os,u.tape.trans h.tape,u.output.trans h.output,by have:=h.size;have:=u.size;simp only [St.grow];omega,?_,?_,?_,?_,?_,?_⟩
 ·intro x hx
  exact (u.old x (fun e=>hnp (e ▸ hx))).trans (h.old x hx)
 ·intro x hx
  simp only [St.grow,upd_ne s.σ (BS.fz n (some s.h.next)) (fun e:x=k=>hnp (e ▸ hx))]
  exact h.prot x hx
 ·intro x o' hx ho
  by_cases hxk:x=k
  ·subst hxk
   simp only [St.grow] at ho
   rw [u.new] at ho
   cases ho
   intro _ _ _ e
   cases e
   exact Nat.le_refl _
  ·exact h.cold x o' hx ((u.old x hxk).symm.trans ho)
 ·intro x hx
  simp only [St.grow,u.size] at hx ⊢
  have:=h.lt (k:=k) (by rw [hk];simp)
  rw [upd_ne _ _ (by omega)]
  exact h.inb x hx
 ·intro x n' i' hx'
  simp only [St.grow] at hx' ⊢
  by_cases hxk:x=k
  ·rw [hxk,upd_self] at hx'
   cases hx'
   exact ⟨Nat.lt_succ_self _,by rw [upd_self,hxk],arr',t,by rw [hxk];exact u.new,hn⟩
  ·rw [upd_ne _ _ hxk] at hx'
   obtain ⟨p1,p2,arr1,t1,p3,p4⟩:=h.ob x n' i' hx'
   exact ⟨Nat.lt_succ_of_lt p1,(upd_ne _ _ (by omega)).trans p2,arr1,t1,(u.old x hxk).trans p3,p4⟩
 ·intro i' b hi'
  replace hi':(if i'=s.h.next then some PBlk.own else if i'=i then none else s.h.get i')=some b:=hi'
  by_cases hin:i'=s.h.next
  ·rw [if_pos hin] at hi'
   cases hi'
   subst hin
   have e1:(s.grow i k n w').e s.h.next=k:=upd_self _ _ _
   exact ⟨Nat.lt_succ_self _,⟨n,by rw [e1];exact upd_self _ _ _⟩,trivial⟩
  ·rw [if_neg hin] at hi'
   by_cases hii:i'=i
   ·rw [if_pos hii] at hi'
    cases hi'
   ·rw [if_neg hii] at hi'
    obtain ⟨p1,p2,p3⟩:=h.hp i' b hi'
    have e1:(s.grow i k n w').e i'=s.e i':=upd_ne _ _ (by omega)
    have hek:=(h.ob k m i hk).2.1
    have hne:s.e i'≠k:=fun e=>hii (p2.inj (b':=.own) ⟨m,by rw [hek];exact hk⟩ (e.trans hek.symm))
    exact ⟨Nat.lt_succ_of_lt p1,p2.congr e1 (upd_ne _ _ hne),by rw [e1];exact p3.ext hx (u.old _ hne)⟩
def PH.cut (h:PH) (n:Nat):PH:=⟨fun i=>if i < n then h.get i else none,n⟩
def BS.cut (n:Nat):BS→BS
 |.live i=>if i < n then .live i else .no
 |.fz m (some i)=>if i < n then .fz m (some i) else .fz m none
 |b=>b
def St.cut (s:St) (n:Nat):St:={ s with σ:=fun k=>(s.σ k).cut n,h:=s.h.cut n }
mutual
def PV.bd (n:Nat):PV→Bool
 |.lit _=>true
 |.agg l=>PV.bds n l
 |.tup l=>PV.bds n l
 |.ifc _ v=>PV.bd n v
 |.sl (.own i) l=>Nat.blt i n && PV.bds n l
 |.sl _ l=>PV.bds n l
 |.fp v=>PV.bd n v
 |.ptr i _=>Nat.blt i n
 |.ms i _ _ _ _=>Nat.blt i n
 |.mp i=>Nat.blt i n
 |.fn _ a b=>PV.bds n a && PV.bds n b
 |.yld i=>Nat.blt i n
def PV.bds (n:Nat):List PV→Bool
 |[]=>true
 |v::vs=>PV.bd n v && PV.bds n vs
end
theorem fcell_cut {n k o:Nat}:(s.cut n).fcell k o=s.fcell k o:=by
 simp only [St.fcell,St.cut,BS.cut]
 cases hk:s.σ k with
 |no=>rfl
 |fz m own =>
  cases own with
  |none=>rfl
  |some i =>
   by_cases hi:i < n
   ·simp only [hi,if_true]
   ·simp only [hi,if_false]
 |live i =>
  by_cases hi:i < n
  ·simp only [hi,if_true]
  ·simp only [hi,if_false]
theorem one_cut {n:Nat} {f f':Value→Prop} (hf:∀ x,f x→f' x):(∀ x,(s.one f).1 x→((s.cut n).one f').1 x)∧∀ k o,(s.one f).2 k o→((s.cut n).one f').2 k o :=
 ⟨hf,fun k o ⟨y,h1,h2⟩=>⟨y,by rw [fcell_cut];exact h1,hf _ h2⟩⟩
theorem blt_lt {a b:Nat} (h:Nat.blt a b=true):a < b:=(T.blt_iff a b).1 h
mutual
theorem R2.cut {n:Nat}:∀ v:PV,v.bd n=true→(∀ x,RV s v x→RV (s.cut n) v x)∧∀ k o,RM s v k o→RM (s.cut n) v k o
 |.lit a,_=>by unfold RV RM R2;exact one_cut fun x hx=>hx
 |.agg l,hb=>by
  have ih:=R2s.cut (n:=n) l (by simpa [PV.bd] using hb)
  unfold RV RM R2
  exact ⟨fun x ⟨y,h1,h2⟩=>⟨y,h1,ih.1 _ h2⟩,fun k o h1=>ih.2.1 k o h1⟩
 |.tup l,hb=>by
  have ih:=R2s.cut (n:=n) l (by simpa [PV.bd] using hb)
  unfold RV RM R2
  exact one_cut fun x ⟨y,h1,h2⟩=>⟨y,h1,ih.1 _ h2⟩
 |.ifc t v,hb=>by
  have ih:=R2.cut (n:=n) v (by simpa [PV.bd] using hb)
  unfold RV RM R2
  exact one_cut fun x ⟨y,h1,h2⟩=>⟨y,h1,ih.1 _ h2⟩
 |.sl tl l, hb => by
  have ih:=R2s.cut (n:=n) l (by cases tl<;>simp [PV.bd] at hb<;>first | exact hb | exact hb.2)
  unfold RV RM R2
  refine one_cut fun x hx=>?_
  rcases hx with hx | ⟨k,o,c,sz,h1,h2,h3,h4⟩
  ·exact .inl hx
  ·refine .inr ⟨k,o,c,sz,h1,h2,ih.2.2 _ _ _ h3,?_⟩
   cases tl with
   |no=>trivial
   |ex=>exact h4
   |own i =>
    obtain ⟨q1,q2,q3,q4⟩:=h4
    have hin:i < n:=by
     simp only [PV.bd,Bool.and_eq_true] at hb
     exact blt_lt hb.1
    refine ⟨hin,q2,q3,fun m hm=>q4 m ?_⟩
    simp only [St.cut] at hm
    cases hk:s.σ k with
    |no=>rw [hk] at hm;cases hm
    |fz m' own =>
     rw [hk] at hm
     cases own with
     |none=>cases hm
     |some j =>
      simp only [BS.cut] at hm
      by_cases hj:j < n
      ·simp only [hj,if_true] at hm
       exact hm
      ·simp only [hj,if_false] at hm
       cases hm
    |live j =>
     rw [hk] at hm
     simp only [BS.cut] at hm
     by_cases hj:j < n
     ·simp only [hj,if_true] at hm;cases hm
     ·simp only [hj,if_false] at hm;cases hm
 |.fp v,hb=>by
  have ih:=R2.cut (n:=n) v (by simpa [PV.bd] using hb)
  unfold RV RM R2
  exact one_cut fun x ⟨k,o,h1,h2⟩=>⟨k,o,h1,ih.2 _ _ h2⟩
 |.ptr i o,hb=>by
  have hb:=blt_lt (a:=i) (b:=n) (by simpa [PV.bd] using hb)
  unfold RV RM R2
  exact one_cut fun x ⟨_,h2⟩=>⟨hb,h2⟩
 |.ms i o len cap _,hb=>by
  have hb:=blt_lt (a:=i) (b:=n) (by simpa [PV.bd] using hb)
  unfold RV RM R2
  exact one_cut fun x ⟨_,h2⟩=>⟨hb,h2⟩
 |.mp i,hb=>by
  have hb:=blt_lt (a:=i) (b:=n) (by simpa [PV.bd] using hb)
  unfold RV RM R2
  exact one_cut fun x ⟨_,h2⟩=>⟨hb,h2⟩
 |.fn f a b,hb=>by
  simp only [PV.bd,Bool.and_eq_true] at hb
  have iha:=R2s.cut (n:=n) a hb.1
  have ihb:=R2s.cut (n:=n) b hb.2
  unfold RV RM R2
  exact one_cut fun x ⟨y,z,h1,h2,h3⟩=>⟨y,z,h1,iha.1 _ h2,ihb.1 _ h3⟩
 |.yld i,hb=>by
  have hb:=blt_lt (a:=i) (b:=n) (by simpa [PV.bd] using hb)
  unfold RV RM R2
  exact one_cut fun x ⟨_,h2⟩=>⟨hb,h2⟩
theorem R2s.cut {n:Nat}:∀ l:List PV,PV.bds n l=true→(∀ xs,RVs s l xs→RVs (s.cut n) l xs)∧(∀ k o,RMs s l k o→RMs (s.cut n) l k o)∧∀ sz k o,REs s l sz k o→REs (s.cut n) l sz k o
 |[],_=>by unfold RVs RMs REs R2s;exact ⟨fun _ h=>h,fun _ _ h=>h,fun _ _ _ h=>h⟩
 |v::vs,hb=>by
  simp only [PV.bds,Bool.and_eq_true] at hb
  have ih:=R2.cut (n:=n) v hb.1
  have ihs:=R2s.cut (n:=n) vs hb.2
  unfold RVs RMs REs R2s
  exact ⟨fun xs ⟨y,ys,h1,h2,h3⟩=>⟨y,ys,h1,ih.1 _ h2,ihs.1 _ h3⟩,fun k o ⟨⟨y,h1,h2⟩,h3⟩=>⟨⟨y,by rw [fcell_cut];exact h1,ih.1 _ h2⟩,ihs.2.1 _ _ h3⟩,fun sz k o ⟨h0,h1,h2⟩=>⟨h0,ih.2 _ _ h1,ihs.2.2 _ _ _ h2⟩⟩
end
end
end Go.Pv
