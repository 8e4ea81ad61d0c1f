/- Parts of the proof: Am41, Am42, Pv33, Pv34, F1, Pv35 -/
import Derived.Test.YtabejoodkhlnaaaGreatP12
import Derived.Test.YtabejoodkhlnaaaGreatP10
import Derived.Test.YtabejoodkhlnaaaGreatChecked
set_option linter.unusedVariables false
set_option linter.unusedSimpArgs false
namespace Go.Am
open Go.RowKit
structure Ent where
 f:FuncId
 args:List AV
 bs:List Lit
 v:AV
 next:Nat
 new:List (Nat×Lit)
def lits:List Lit→Nat→List ABlk
 |[],_=>[]
 |b::bs,i=>b.blk i::lits bs (i+1)
def ones:List Lit→Nat→List (List Nat)
 |[],_=>[]
 |_::bs,i=>[i]::ones bs (i+1)
def heapOf (bs:List Lit):Heap:={ blks:=T.ofList (lits bs 0) 0 .nil,next:=bs.length,fams:=T.ofList (ones bs 0) 0 .nil }
def Same:ABlk→Lit→Prop
 |.cells t _ n c,.cells t' cs=>t=t'∧n=cs.length∧∀ i u,cs[i]?=some u→c.get i=some u
 |.map es k,.map es' k'=>es=es'∧k=k'
 |_,_=>False
def addB (τ:Nat→Nat):List (Nat×Lit)→T ABlk→T ABlk
 |[],t=>t
 |(j,b)::l,t=>addB τ l (t.set (τ j) ((b.ren τ).blk (τ j)))
def addF (τ:Nat→Nat):List (Nat×Lit)→T (List Nat)→T (List Nat)
 |[],t=>t
 |(j,_)::l,t=>addF τ l (t.set (τ j) [τ j])
def Ent.heap (e:Ent) (τ:Nat→Nat) (H:Heap):Heap:={ blks:=addB τ e.new H.blks,next:=H.next+(e.next - e.bs.length),fams:=addF τ e.new H.fams }
structure EntOk (A:AP) (P:Program) (e:Ent):Prop where
 run:∃ fr fr' H1,AFr.enter A e.f e.args .normal=some fr∧RetV A fr' H1 e.v∧Lz P ⟨fr,[],heapOf e.bs⟩ ⟨fr',[],H1⟩∧H1.next=e.next ∧
  (∀ a b,e.bs[a]?=some b→∃ b1,H1.blks.get a=some b1∧Same b1 b) ∧
  ∀ j b,(j,b)∈e.new→e.bs.length≤j∧∃ b1,H1.blks.get j=some b1∧Same b1 b∧∀ t f n c,b1=.cells t f n c→H1.fams.get f=some [j]
structure UseOk (e:Ent) (τ:Nat→Nat) (args:List AV) (H:Heap):Prop where
 args:rens τ e.args=args
 inj:∀ a a',a < e.bs.length→a' < e.bs.length→τ a=τ a'→a=a'
 blk:∀ a b,e.bs[a]?=some b→∃ b1,H.blks.get (τ a)=some b1∧Same b1 (b.ren τ)∧∀ t f n c,b1=.cells t f n c→H.fams.get f=some [τ a]
 big:∀ a,e.bs.length≤a→τ a=H.next+(a - e.bs.length)
section
variable {m:Env} {A:AP} {E:Eqs} {P:Program}
theorem lits_get:∀ (bs:List Lit) (i k:Nat),(lits bs i)[k]?=bs[k]?.map (Lit.blk (i+k))
 |[],_,_=>rfl
 |b::bs,i,0=>rfl
 |b::bs,i,k+1=>by
  simp only [lits,List.getElem?_cons_succ,lits_get bs (i+1) k]
  rw [show i+1+k=i+(k+1) from by omega]
theorem ones_get:∀ (bs:List Lit) (i k:Nat),(ones bs i)[k]?=bs[k]?.map fun _=>[i+k]
 |[],_,_=>rfl
 |b::bs,i,0=>rfl
 |b::bs,i,k+1=>by
  simp only [ones,List.getElem?_cons_succ,ones_get bs (i+1) k]
  rw [show i+1+k=i+(k+1) from by omega]
theorem get_ofList1 {α:Type} (l:List α) (i:Nat):(T.ofList l 0 .nil).get i=l[i]?:=by
 rw [T.get_ofList]
 split
 ·rw [Nat.sub_zero]
 ·next h =>
  rw [T.get_nil,List.getElem?_eq_none]
  omega
theorem heapOf_blk (bs:List Lit) (a:Nat):(heapOf bs).blks.get a=bs[a]?.map (Lit.blk a):=by
 simp only [heapOf,get_ofList1,lits_get,Nat.zero_add]
theorem heapOf_fam (bs:List Lit) (a:Nat):(heapOf bs).fams.get a=bs[a]?.map fun _=>[a]:=by
 simp only [heapOf,get_ofList1,ones_get,Nat.zero_add]
theorem Same.to {b1:ABlk} {b:Lit} (h:Same b1 b) {a:Nat} {l:Loc} {o:Option Obj} (e:BR m b1 l o):BR m (b.blk a) l o:=by
 cases b1<;>cases b<;>first
  |exact h.elim
  |skip
 ·obtain ⟨rfl,rfl,h⟩:=h
  obtain ⟨arr,h1,h2,h3,h4⟩:=e
  refine ⟨arr,h1,h2,h3,fun i v hi=>?_⟩
  rw [get_ofList1] at hi
  exact h4 i v (h i v hi)
 ·obtain ⟨rfl,rfl⟩:=h
  exact e
theorem Same.from {b1:ABlk} {b:Lit} (h:Same b1 b) {m0:Env} {l0:Loc} {o0:Option Obj} (e0:BR m0 b1 l0 o0) {a:Nat} {l:Loc} {o:Option Obj} (e:BR m (b.blk a) l o):BR m b1 l o:=by
 cases b1 with
 |cells t f n c =>
  cases b with
  |cells t' cs =>
   obtain ⟨rfl,rfl,h⟩:=h
   obtain ⟨arr,h1,h2,h3,h4⟩:=e
   obtain ⟨_,_,_,_,k4⟩:=e0
   refine ⟨arr,h1,h2,h3,fun i v hi=>?_⟩
   obtain ⟨hlt,_⟩:=k4 i v hi
   have hc:cs[i]?=some (cs[i]'hlt):=List.getElem?_eq_getElem hlt
   have hg:=h i _ hc
   rw [hi] at hg
   rw [← Option.some.inj hg] at hc
   exact h4 i v (by rw [get_ofList1];exact hc)
  |map=>exact h.elim
 |map es k =>
  cases b with
  |cells=>exact h.elim
  |map es' k' =>
   obtain ⟨rfl,rfl⟩:=h
   exact e
 |loop=>exact h.elim
 |dfr=>exact h.elim
theorem addB_get (τ:Nat→Nat):∀ (l:List (Nat×Lit)) (t:T ABlk) (x:Nat) (b:ABlk),(addB τ l t).get x=some b →
  (∃ j lit,(j,lit)∈l∧x=τ j∧b=(lit.ren τ).blk x)∨t.get x=some b
 |[],_,_,_,h=>.inr h
 |(j, lit) :: l, t, x, b, h => by
  rcases addB_get τ l _ x b h with ⟨j',lit',h1,h2,h3⟩ | h1
  ·exact .inl ⟨j',lit',List.mem_cons_of_mem _ h1,h2,h3⟩
  ·rw [T.get_set] at h1
   by_cases hx:x=τ j
   ·rw [if_pos hx] at h1
    cases h1
    exact .inl ⟨j,lit,List.mem_cons_self ..,hx,by rw [hx]⟩
   ·rw [if_neg hx] at h1
    exact .inr h1
theorem addF_old (τ:Nat→Nat):∀ (l:List (Nat×Lit)) (t:T (List Nat)) (x:Nat),(∀ j lit,(j,lit)∈l→x≠τ j)→(addF τ l t).get x=t.get x
 |[],_,_,_=>rfl
 |(j,lit)::l,t,x,h=>by
  simp only [addF]
  rw [addF_old τ l _ x fun j' lit' hm=>h j' lit' (List.mem_cons_of_mem _ hm),T.get_set,if_neg (h j lit (List.mem_cons_self ..))]
theorem addF_new (τ:Nat→Nat):∀ (l:List (Nat×Lit)) (t:T (List Nat)) (j:Nat) (lit:Lit),(j,lit)∈l∨t.get (τ j)=some [τ j]→(addF τ l t).get (τ j)=some [τ j]
 |[],_,_,_,h=>by
  rcases h with h | h
  ·cases h
  ·exact h
 |(i, b) :: l, t, j, lit, h => by
  simp only [addF]
  refine addF_new τ l _ j lit ?_
  by_cases hij:τ j=τ i
  ·right
   rw [T.get_set,if_pos hij,hij]
  ·rcases h with h | h
   ·rcases List.mem_cons.1 h with h | h
    ·cases h
     exact absurd rfl hij
    ·exact .inl h
   ·right
    rw [T.get_set,if_neg hij]
    exact h
theorem use_ok (hA:A.Ok P) {e:Ent} (he:EntOk A P e) {τ:Nat→Nat} {args:List AV} {H:Heap} (hu:UseOk e τ args H) {fr:AFr} (hfr:AFr.enter A e.f args .normal=some fr) :
  Back P fr H (ren τ e.v) (e.heap τ H):=by
 obtain ⟨f0,f1,H1,r1,r2,r3,r4,r5,r6⟩:=he.run
 intro c cs c' hc B0 w0 Z m f fs base w hS
 obtain ⟨hSf,hScs,h⟩:=hS
 replace h:HR B0 w0 m H w:=h
 replace hSf:FrR Z m fr f:=hSf
 obtain ⟨y,ys,rfl,hy,hys⟩:=hScs
 have hn:(heapOf e.bs).next=e.bs.length:=rfl
 have bsome:∀ a,a < e.bs.length→∃ b,e.bs[a]?=some b:=fun a ha=>⟨_,List.getElem?_eq_getElem ha⟩
 have hlt:∀ a,a < e.bs.length→τ a < H.next:=by
  intro a ha
  obtain ⟨b,hb⟩:=bsome a ha
  obtain ⟨b1,h1,_⟩:=hu.blk a b hb
  obtain ⟨l,h2,_⟩:=h.blk _ _ h1
  exact (h.fresh _ _ h2).1
 have hm0:∀ a l,m (τ a)=some l→a < e.bs.length:=by
  intro a l hl
  rcases Nat.lt_or_ge a e.bs.length with h1 | h1
  ·exact h1
  ·have:=(h.fresh _ _ hl).1
   rw [hu.big a h1] at this
   omega
 let B1:Prot:={ blk:=fun k=>k < w.heap.size∧∀ a l,m (τ a)=some l→l.blk≠k,ids:=fun _=>False }
 have hB:∀ k,B0 k→B1 k:=by
  intro k hk
  refine ⟨h.below.lt hk,fun a l hl hkl=>?_⟩
  obtain ⟨b,hb⟩:=bsome a (hm0 a l hl)
  obtain ⟨b1,h1,_⟩:=hu.blk a b hb
  exact h.live _ _ _ h1 hl (by rw [hkl];exact hk)
 have hin:∀ x b l,H.blks.get x=some b→m x=some l→¬ B1 l.blk→∃ a,a < e.bs.length∧x=τ a:=by
  intro x b l hx hl hnb
  have:∃ a l',m (τ a)=some l'∧l'.blk=l.blk:=by
   refine Classical.byContradiction fun hno=>hnb ⟨h.inb _ _ hl,fun a l' hl' hc=>hno ⟨a,l',hl',hc⟩⟩
  obtain ⟨a,l',h1,h2⟩:=this
  have ha:=hm0 a l' h1
  refine ⟨a,ha,?_⟩
  obtain ⟨b0,hb0⟩:=bsome a ha
  obtain ⟨b1,k1,_,k3⟩:=hu.blk a b0 hb0
  rcases h.sep _ _ _ _ _ _ hx k1 hl h1 h2.symm with h3 | ⟨t,f',n',c0,t',n'',c0',e1,e2,_⟩
  ·exact h3
  ·obtain ⟨_,L,h5,h6⟩:=h.fam x t f' n' c0 (by rw [hx,e1])
   rw [k3 _ _ _ _ e2] at h5
   cases h5
   simpa using h6
 have hR0:HR B1 w (fun a=>m (τ a)) (heapOf e.bs) w:=by
  refine ⟨.refl fun k hk=>hk.1,fun a l hl=>⟨hm0 a l hl,fun hc=>hc⟩,fun a l hl=>h.inb _ _ hl,?_,?_,?_,?_,fun _ hc=>hc.elim⟩
  ·intro a b hb
   rw [heapOf_blk] at hb
   obtain ⟨b0,hb0,rfl⟩:=Option.map_eq_some_iff.1 hb
   obtain ⟨b1,k1,k2,_⟩:=hu.blk a b0 hb0
   obtain ⟨l,h1,h2⟩:=h.blk _ _ k1
   exact ⟨l,h1,BR.lit_unren (k2.to (a:=a) h2)⟩
  ·intro a a' b b' l l' hb hb' hl hl' hll
   rw [heapOf_blk] at hb hb'
   obtain ⟨b0,hb0,rfl⟩:=Option.map_eq_some_iff.1 hb
   obtain ⟨b0',hb0',rfl⟩:=Option.map_eq_some_iff.1 hb'
   obtain ⟨b1,k1,_,k3⟩:=hu.blk a b0 hb0
   obtain ⟨b1',k1',_,k3'⟩:=hu.blk a' b0' hb0'
   left
   refine hu.inj a a' (hm0 _ _ hl) (hm0 _ _ hl') ?_
   rcases h.sep _ _ _ _ _ _ k1 k1' hl hl' hll with h3 | ⟨t,f',n',c0,t',n'',c0',e1,e2,_⟩
   ·exact h3
   ·have q1:=k3 _ _ _ _ e1
    have q2:=k3' _ _ _ _ e2
    rw [q1] at q2
    simpa using q2
  ·intro a t f' n' c0 hb
   rw [heapOf_blk] at hb
   obtain ⟨b0,hb0,hb1⟩:=Option.map_eq_some_iff.1 hb
   cases b0 with
   |cells t' cs =>
    simp only [Lit.blk,ABlk.cells.injEq] at hb1
    obtain ⟨_,rfl,_,_⟩:=hb1
    refine ⟨?_,[a],by rw [heapOf_fam,hb0];rfl,by simp⟩
    rcases Nat.lt_or_ge a e.bs.length with h1 | h1
    ·exact h1
    ·rw [List.getElem?_eq_none h1] at hb0;cases hb0
   |map es k=>simp only [Lit.blk] at hb1;cases hb1
  ·intro a b l hb hl hc
   exact hc.2 a l hl rfl
 have hfe:∃ fn,A.funcs.get e.f=some fn∧∃ cd,fn.body=some cd∧fr={ fn:=e.f,sz:=args.length+(fn.ntmps - args.length),tmps:=T.ofList args 0 .nil,todo:=[.code cd],defers:=[],mode:=.run,kind:=.normal,rnd:=none } ∧
   f0={ fn:=e.f,sz:=e.args.length+(fn.ntmps - e.args.length),tmps:=T.ofList e.args 0 .nil,todo:=[.code cd],defers:=[],mode:=.run,kind:=.normal,rnd:=none }:=by
  unfold AFr.enter at hfr r1
  split at hfr
  ·next fn hfn =>
   rw [hfn] at r1
   simp only [] at r1
   split at hfr
   ·next cd hcd =>
    rw [hcd] at r1
    cases hfr
    cases r1
    exact ⟨fn,hfn,cd,hcd,rfl,rfl⟩
   ·cases hfr
  ·cases hfr
 obtain ⟨fn,hfn,cd,hcd,hfr',hf0⟩:=hfe
 have hlen:args.length=e.args.length:=by rw [← hu.args,rens_length]
 have hN:FrN m fr f:=hSf.own (by rw [hfr'];rfl)
 have hN0:FrN (fun a=>m (τ a)) f0 f:=by
  obtain ⟨n1,n2,n3,n4,n5,n6,n7⟩:=hN
  rw [hfr'] at n1 n2 n3 n4 n5 n6 n7
  rw [hf0]
  refine ⟨n1,⟨by rw [n2.1];show args.length+(fn.ntmps - args.length)=_;rw [hlen],fun i v hi=>?_⟩,?_,n4,n5,n6,n7⟩
  ·simp only [get_ofList1] at hi
   obtain ⟨x,q1,q2⟩:=n2.2 i (ren τ v) (by simp only [get_ofList1];rw [← hu.args,rens_get,hi];rfl)
   exact ⟨x,q1,VR.unren _ _ q2⟩
  ·exact n3
 obtain ⟨m1,g1,gs,w1,s1,s2,s3⟩:=r3 B1 w none (fun a=>m (τ a)) f [] (y::ys++base) w ⟨.inl hN0,rfl,hR0⟩
 obtain ⟨hgs,x,x1,x2,h1⟩:=afinal_ok hA s3 r2.kind r2.final
 subst hgs
 have hm1:∀ a,a < e.bs.length→m1 a=m (τ a):=by
  intro a ha
  obtain ⟨b,hb⟩:=bsome a ha
  obtain ⟨b1,k1,_⟩:=hu.blk a b hb
  obtain ⟨l,h2,_⟩:=h.blk _ _ k1
  rw [h2]
  exact s2 a l h2
 let m':Env:=fun x=>if x < H.next then m x else m1 (x - H.next+e.bs.length)
 have hm':∀ a l,m1 a=some l→m' (τ a)=some l:=by
  intro a l hl
  rcases Nat.lt_or_ge a e.bs.length with ha | ha
  ·show (if τ a < H.next then m (τ a) else _)=some l
   rw [if_pos (hlt a ha),← hm1 a ha]
   exact hl
  ·show (if τ a < H.next then _ else m1 (τ a - H.next+e.bs.length))=some l
   rw [hu.big a ha,if_neg (by omega),show H.next+(a - e.bs.length) - H.next+e.bs.length=a from by omega]
   exact hl
 have hle:m.le m':=by
  intro x l hl
  show (if x < H.next then m x else _)=some l
  rw [if_pos (h.fresh _ _ hl).1]
  exact hl
 have hnew:∀ j b,(j,b)∈e.new→H.next≤τ j∧m' (τ j)=m1 j:=by
  intro j b hj
  have:=(r6 j b hj).1
  refine ⟨by rw [hu.big j this];omega,?_⟩
  show (if τ j < H.next then _ else m1 (τ j - H.next+e.bs.length))=m1 j
  rw [hu.big j this,if_neg (by omega),show H.next+(j - e.bs.length) - H.next+e.bs.length=j from by omega]
 have hold:∀ x,x < H.next→m' x=m x:=fun x hx=>if_pos hx
 have hget:∀ x b,(e.heap τ H).blks.get x=some b→(x < H.next∧H.blks.get x=some b)∨(∃ j lit,(j,lit)∈e.new∧x=τ j∧b=(lit.ren τ).blk x):=by
  intro x b hb
  rcases addB_get τ _ _ _ _ hb with hb | hb
  ·exact .inr hb
  ·obtain ⟨l,hl,_⟩:=h.blk _ _ hb
   exact .inl ⟨(h.fresh _ _ hl).1,hb⟩
 have hkeep1:Keep B1 w w1:=h1.below
 have hkeep:Keep B0 w0 w1 :=
  ⟨hkeep1.os.trans h.below.os,hkeep1.tape.trans h.below.tape,hkeep1.output.trans h.below.output,Nat.le_trans h.below.size hkeep1.size,fun k hk=>(hkeep1.block k (hB k hk)).trans (h.below.block k hk),h.below.there,fun a=>(hkeep1.froz a).trans (h.below.froz a)⟩
 have hnext:(e.heap τ H).next=H.next+(e.next - e.bs.length):=rfl
 have hR : HR B0 w0 m' (e.heap τ H) w1 := by
  refine ⟨hkeep,?_,?_,?_,?_,?_,?_,?_⟩
  ·intro a l hl
   by_cases ha:a < H.next
   ·rw [hold a ha] at hl
    have:=h.fresh _ _ hl
    exact ⟨by rw [hnext];omega,this.2⟩
   ·have hl':m1 (a - H.next+e.bs.length)=some l:=by
     have:m' a=m1 (a - H.next+e.bs.length):=if_neg ha
     rw [← this];exact hl
    have:=(h1.fresh _ _ hl').1
    rw [r4] at this
    exact ⟨by rw [hnext];omega,fun hc=>ha (h.idsb a hc)⟩
  ·intro a l hl
   by_cases ha:a < H.next
   ·rw [hold a ha] at hl
    have:=h.inb _ _ hl
    have:=hkeep1.size
    omega
   ·have hl':m1 (a - H.next+e.bs.length)=some l:=by
     have:m' a=m1 (a - H.next+e.bs.length):=if_neg ha
     rw [← this];exact hl
    exact h1.inb _ _ hl'
  ·intro x b hb
   rcases hget x b hb with ⟨hx,hb⟩ | ⟨j,lit,hj,rfl,rfl⟩
   ·obtain ⟨l,hl,hbr⟩:=h.blk x b hb
    refine ⟨l,by rw [hold x hx];exact hl,?_⟩
    by_cases hp:B1 l.blk
    ·rw [hkeep1.block _ hp]
     exact hbr.mono hle
    ·obtain ⟨a,ha,rfl⟩:=hin x b l hb hl hp
     obtain ⟨b0,hb0⟩:=bsome a ha
     obtain ⟨b1,k1,k2,_⟩:=hu.blk a b0 hb0
     rw [hb] at k1
     cases k1
     obtain ⟨b2,q1,q2⟩:=r5 a b0 hb0
     obtain ⟨l2,q3,q4⟩:=h1.blk a b2 q1
     rw [hm1 a ha,hl] at q3
     cases q3
     exact k2.from hbr (a:=τ a) (BR.lit_ren (a':=τ a) hm' (q2.to (a:=a) q4))
   ·obtain ⟨_,b1,q1,q2,_⟩:=r6 j lit hj
    obtain ⟨l,q3,q4⟩:=h1.blk j b1 q1
    exact ⟨l,by rw [(hnew j lit hj).2];exact q3,BR.lit_ren hm' (q2.to (a:=j) q4)⟩
  ·-- an old block and a new one lie apart
   have mixed:∀ x b l j lit l',x < H.next→H.blks.get x=some b→m x=some l→(j,lit)∈e.new→m1 j=some l'→l.blk=l'.blk→False:=by
    intro x b l j lit l' hx hb hl hj hl' hll
    obtain ⟨hjn,b1,q1,q2,q3⟩:=r6 j lit hj
    have hnp:¬ B1 l.blk:=by rw [hll];exact h1.live _ _ _ q1 hl'
    obtain ⟨a,ha,rfl⟩:=hin x b l hb hl hnp
    obtain ⟨b0,hb0⟩:=bsome a ha
    obtain ⟨b2,p1,p2⟩:=r5 a b0 hb0
    rcases h1.sep _ _ _ _ _ _ p1 q1 (by rw [hm1 a ha];exact hl) hl' hll with h3 | ⟨t,f',n',c0,t',n'',c0',e1,e2,_⟩
    ·omega
    ·obtain ⟨_,L,h5,h6⟩:=h1.fam a t f' n' c0 (by rw [p1,e1])
     rw [q3 _ _ _ _ e2] at h5
     cases h5
     have:a=j:=by simpa using h6
     omega
   intro x x' b b' l l' hb hb' hl hl' hll
   rcases hget x b hb with ⟨hx,hb0⟩ | ⟨j,lit,hj,rfl,rfl⟩
   ·rcases hget x' b' hb' with ⟨hx',hb0'⟩ | ⟨j',lit',hj',rfl,rfl⟩
    ·rw [hold x hx] at hl
     rw [hold x' hx'] at hl'
     exact h.sep _ _ _ _ _ _ hb0 hb0' hl hl' hll
    ·rw [hold x hx] at hl
     rw [(hnew j' lit' hj').2] at hl'
     exact (mixed _ _ _ _ _ _ hx hb0 hl hj' hl' hll).elim
   ·rcases hget x' b' hb' with ⟨hx',hb0'⟩ | ⟨j',lit',hj',rfl,rfl⟩
    ·rw [hold x' hx'] at hl'
     rw [(hnew j lit hj).2] at hl
     exact (mixed _ _ _ _ _ _ hx' hb0' hl' hj hl hll.symm).elim
    ·rw [(hnew j lit hj).2] at hl
     rw [(hnew j' lit' hj').2] at hl'
     obtain ⟨_,b1,q1,q2,q3⟩:=r6 j lit hj
     obtain ⟨_,b1',q1',q2',q3'⟩:=r6 j' lit' hj'
     left
     rcases h1.sep _ _ _ _ _ _ q1 q1' hl hl' hll with h3 | ⟨t,f',n',c0,t',n'',c0',e1,e2,_⟩
     ·rw [h3]
     ·have p1:=q3 _ _ _ _ e1
      have p2:=q3' _ _ _ _ e2
      rw [p1] at p2
      have:j=j':=by simpa using p2
      rw [this]
  ·intro a t f' n' c0 hb
   rcases hget a _ hb with ⟨hx,hb0⟩ | ⟨j,lit,hj,rfl,hb1⟩
   ·obtain ⟨q1,L,q2,q3⟩:=h.fam a t f' n' c0 hb0
    refine ⟨by rw [hnext];omega,L,?_,q3⟩
    show (addF τ e.new H.fams).get f'=some L
    rw [addF_old τ _ _ _ fun j lit hj hc=>?_]
    ·exact q2
    ·have:=(hnew j lit hj).1
     omega
   ·cases lit with
    |cells t' cs' =>
     simp only [Lit.ren,Lit.blk,ABlk.cells.injEq] at hb1
     obtain ⟨_,rfl,_,_⟩:=hb1
     obtain ⟨hjn,b1,q1,q2,q3⟩:=r6 j _ hj
     obtain ⟨l,q4,_⟩:=h1.blk j b1 q1
     have:=(h1.fresh _ _ q4).1
     rw [r4] at this
     refine ⟨by rw [hnext,hu.big j hjn];omega,[τ j],addF_new τ _ _ j _ (.inl hj),by simp⟩
    |map es k=>simp only [Lit.ren,Lit.blk] at hb1;cases hb1
  ·intro a b l hb hl hc
   rcases hget a b hb with ⟨hx,hb0⟩ | ⟨j,lit,hj,rfl,rfl⟩
   ·rw [hold a hx] at hl
    exact h.live _ _ _ hb0 hl hc
   ·rw [(hnew j lit hj).2] at hl
    obtain ⟨_,b1,q1,_,_⟩:=r6 j lit hj
    exact h1.live _ _ _ q1 hl (hB _ hc)
  ·intro a ha
   have:=h.idsb a ha
   rw [hnext]
   omega
 have hv:VR m' (ren τ e.v) x:=VR.ren hm' _ _ x2
 refine ⟨m',y.finish x,ys,w1,?_,hle,fin_ok (hy.mono hle) hc hv,hys.mono hle,hR⟩
 refine Steps.trans s1 (.one ?_)
 exact step_leave_returned x1
end
end Go.Am
namespace Go.Am
open Go.RowKit
mutual
def names:AV→List Nat→List Nat
 |.ptr a _,l=>a::l
 |.sl a _ _ _,l=>a::l
 |.map a,l=>a::l
 |.fn _ a b,l=>namess a (namess b l)
 |.yld a,l=>a::l
 |.ifc _ v,l=>names v l
 |.agg vs,l=>namess vs l
 |.tup vs,l=>namess vs l
 |.bool _,l=>l
 |.int _ _,l=>l
 |.str _,l=>l
 |.nilptr,l=>l
 |.zptr,l=>l
 |.nilsl,l=>l
 |.nilmap,l=>l
 |.nilfn,l=>l
 |.nilifc,l=>l
def namess:List AV→List Nat→List Nat
 |[],l=>l
 |v::vs,l=>names v (namess vs l)
end
def namesE:List (AV×AV×Nat)→List Nat→List Nat
 |[],l=>l
 |(k,v,_)::es,l=>names k (names v (namesE es l))
def cellsUp (c:T AV):Nat→List AV→List AV
 |0,l=>l
 |n+1,l=>match c.get n with
  |some v=>cellsUp c n (v::l)
  |none=>cellsUp c n l
def namesB:ABlk→List Nat
 |.cells _ _ n c=>namess (cellsUp c n []) []
 |.map es _=>namesE es []
 |_=>[]
def reach (H : Heap) : Nat → List Nat → T Nat → T Nat → Nat → T Nat × T Nat × Nat
 |0,_,inv,s,n=>(inv,s,n)
 |f + 1, todo, inv, s, n => match todo with
  |[]=>(inv,s,n)
  |a::l=>match inv.get a with
   |some _=>reach H f l inv s n
   |none=>match H.blks.get a with
    |some b=>reach H f (l++namesB b) (inv.set a n) (s.set n a) (n+1)
    |none=>(inv,s,n)
def tau (s:T Nat) (n0 next a:Nat):Nat :=
 match Nat.blt a n0 with
 |true=>(s.get a).getD 0
 |false=>next+(a - n0)
def cellsSame (c:T AV):List AV→Nat→Bool
 |[],_=>true
 |u::us,i=>match c.get i with
  |some v=>match AV.beq v u with
   |true=>cellsSame c us (i+1)
   |false=>false
  |none=>false
def entsSame:List (AV×AV×Nat)→List (AV×AV×Nat)→Bool
 |[],[]=>true
 |(k,v,n)::es,(k',v',n')::es'=>AV.beq k k' && AV.beq v v' && Nat.beq n n' && entsSame es es'
 |_,_=>false
def same:ABlk→Lit→Bool
 |.cells t _ n c,.cells t' cs=>Nat.beq t t' && Nat.beq n cs.length && cellsSame c cs 0
 |.map es k,.map es' k'=>entsSame es es' && Nat.beq k k'
 |_,_=>false
def aloneB (H:Heap) (a:Nat):ABlk→Bool
 |.cells _ f _ _=>match H.fams.get f with
  |some [x]=>Nat.beq x a
  |_=>false
 |_=>true
def injOk (inv:T Nat) (τ:Nat→Nat):Nat→Bool
 |0=>true
 |a+1=>match inv.get (τ a) with
  |some x=>Nat.beq x a && injOk inv τ a
  |none=>false
def blksOk (H:Heap) (τ:Nat→Nat):List Lit→Nat→Bool
 |[],_=>true
 |b::bs,a=>match H.blks.get (τ a) with
  |some b1=>same b1 (b.ren τ) && aloneB H (τ a) b1 && blksOk H τ bs (a+1)
  |none=>false
def useOk (e:Ent) (inv:T Nat) (τ:Nat→Nat) (args:List AV) (H:Heap):Bool :=
 AV.beqs (rens τ e.args) args && injOk inv τ e.bs.length && blksOk H τ e.bs 0
def kuse (es:List Ent) (inv s:T Nat) (n:Nat) (args:List AV) (H:Heap) (k:AV→Heap→KR) (els:Unit→KR):KR :=
 match es with
 |[]=>els ()
 |e::es=>match Nat.beq n e.bs.length with
  |true=>match useOk e inv (tau s n H.next) args H with
   |true=>fAV (ren (tau s n H.next) e.v) fun v=>fHeap (e.heap (tau s n H.next) H) fun H=>k v H
   |false=>kuse es inv s n args H k els
  |false=>kuse es inv s n args H k els
def ktab (tb:T (List Ent)) (B:KB):KB :=
 { B with fn := fun f => match tb.get f with
  |none=>B.fn f
  |some es=>⟨fun args H k=>match reach H 200 (namess args []) .nil .nil 0 with
   |(inv,s,n)=>kuse es inv s n args H k fun _=>(B.fn f).run args H k⟩ }
def klevT (A:AP) (E:Eqs) (L:Nat) (slow:T Unit) (tb:T (List Ent)):Nat→KB
 |0=>⟨fun _=>⟨fun _ _ _=>none⟩,fun _ _ _ _=>⟨fun _ _ _ _=>none⟩,fun _ _ _=>none⟩
 |n+1=>ktab tb ⟨kfn A E L slow (klevT A E L slow tb n),kround A E (klevT A E L slow tb n),drawR A E (mone A E (klevT A E L slow tb n).dr slow (klevT A E L slow tb n).fn L)⟩
def kmainT (A:AP) (E:Eqs) (L:Nat) (slow:T Unit) (tb:T (List Ent)) (n:Nat) (f:FuncId):KR :=
 (kfn A E L slow (klevT A E L slow tb n) f).run [] emptyHeap fun v H=>some (v,H)
def oldsOk (H:Heap):List Lit→Nat→Bool
 |[],_=>true
 |b::bs,a=>match H.blks.get a with
  |some b1=>same b1 b && oldsOk H bs (a+1)
  |none=>false
def newsOk (H:Heap) (n0:Nat):List (Nat×Lit)→Bool
 |[]=>true
 |(j,b)::l=>match H.blks.get j with
  |some b1=>Nat.ble n0 j && same b1 b && aloneB H j b1 && newsOk H n0 l
  |none=>false
def entOk (e:Ent) (v:AV) (H:Heap):Bool:=AV.beq v e.v && Nat.beq H.next e.next && oldsOk H e.bs 0 && newsOk H e.bs.length e.new
def kent (A:AP) (E:Eqs) (L:Nat) (slow:T Unit) (tb:T (List Ent)) (n:Nat) (e:Ent):KR :=
 fHeap (heapOf e.bs) fun H=>(kfn A E L slow (klevT A E L slow tb n) e.f).run e.args H fun v H=>match entOk e v H with
  |true=>some (.bool true,emptyHeap)
  |false=>none
section
variable {A:AP} {E:Eqs} {P:Program} {B:KB} {slow:T Unit}
theorem cellsSame_ok (c:T AV):∀ (us:List AV) (i:Nat),cellsSame c us i=true→∀ k u,us[k]?=some u→c.get (i+k)=some u
 |[],_,_,_,_,hu=>by simp at hu
 |u::us,i,h,k,u',hu=>by
  simp only [cellsSame] at h
  split at h
  case h_2=>cases h
  next v hv =>
  split at h
  case h_2=>cases h
  next hb =>
  cases k with
  |zero =>
   simp only [List.getElem?_cons_zero,Option.some.injEq] at hu
   subst hu
   rw [Nat.add_zero,hv,AV.beq_eq _ _ hb]
  |succ k =>
   rw [List.getElem?_cons_succ] at hu
   have:=cellsSame_ok c us (i+1) h k u' hu
   rw [show i+(k+1)=i+1+k from by omega]
   exact this
theorem entsSame_ok:∀ (a b:List (AV×AV×Nat)),entsSame a b=true→a=b
 |[],[],_=>rfl
 |[],_::_,h=>by cases h
 |_::_,[],h=>by cases h
 |(k,v,n)::es,(k',v',n')::es',h=>by
  simp only [entsSame,Bool.and_eq_true] at h
  obtain ⟨⟨⟨h1,h2⟩,h3⟩,h4⟩:=h
  rw [AV.beq_eq _ _ h1,AV.beq_eq _ _ h2,Nat.eq_of_beq_eq_true h3,entsSame_ok es es' h4]
theorem same_ok {b1:ABlk} {b:Lit} (h:same b1 b=true):Same b1 b:=by
 cases b1<;>cases b<;>simp only [same,Bool.false_eq_true,Bool.and_eq_true] at h
 ·obtain ⟨⟨h1,h2⟩,h3⟩:=h
  exact ⟨Nat.eq_of_beq_eq_true h1,Nat.eq_of_beq_eq_true h2,fun i u hu=>by
   have:=cellsSame_ok _ _ 0 h3 i u hu
   rwa [Nat.zero_add] at this⟩
 ·obtain ⟨h1,h2⟩:=h
  exact ⟨entsSame_ok _ _ h1,Nat.eq_of_beq_eq_true h2⟩
theorem aloneB_ok {H:Heap} {a:Nat} {b:ABlk} (h:aloneB H a b=true):∀ t f n c,b=.cells t f n c→H.fams.get f=some [a]:=by
 intro t f n c e
 subst e
 simp only [aloneB] at h
 split at h
 ·next x hx=>rw [hx,Nat.eq_of_beq_eq_true h]
 ·cases h
theorem injOk_ok {inv:T Nat} {τ:Nat→Nat}:∀ (n:Nat),injOk inv τ n=true→∀ a,a < n→inv.get (τ a)=some a
 |0,_,a,ha=>absurd ha (by omega)
 |n+1,h,a,ha=>by
  simp only [injOk] at h
  split at h
  case h_2=>cases h
  next x hx =>
  simp only [Bool.and_eq_true] at h
  rcases Nat.lt_or_ge a n with h1 | h1
  ·exact injOk_ok n h.2 a h1
  ·have:a=n:=by omega
   subst this
   rw [hx,Nat.eq_of_beq_eq_true h.1]
theorem blksOk_ok {H:Heap} {τ:Nat→Nat}:∀ (bs:List Lit) (i:Nat),blksOk H τ bs i=true→∀ k b,bs[k]?=some b →
  ∃ b1,H.blks.get (τ (i+k))=some b1∧Same b1 (b.ren τ)∧∀ t f n c,b1=.cells t f n c→H.fams.get f=some [τ (i+k)]
 |[],_,_,_,_,hb=>by simp at hb
 |b::bs,i,h,k,b',hb=>by
  simp only [blksOk] at h
  split at h
  case h_2=>cases h
  next b1 hb1 =>
  simp only [Bool.and_eq_true] at h
  obtain ⟨⟨h1,h2⟩,h3⟩:=h
  cases k with
  |zero =>
   simp only [List.getElem?_cons_zero,Option.some.injEq] at hb
   subst hb
   exact ⟨b1,hb1,same_ok h1,aloneB_ok h2⟩
  |succ k =>
   rw [List.getElem?_cons_succ] at hb
   have:=blksOk_ok bs (i+1) h3 k b' hb
   rw [show i+(k+1)=i+1+k from by omega]
   exact this
theorem useOk_ok {e:Ent} {inv s:T Nat} {args:List AV} {H:Heap} (h:useOk e inv (tau s e.bs.length H.next) args H=true):UseOk e (tau s e.bs.length H.next) args H:=by
 simp only [useOk,Bool.and_eq_true] at h
 obtain ⟨⟨h1,h2⟩,h3⟩:=h
 refine ⟨AV.beqs_eq _ _ h1,fun a a' ha ha' he=>?_,fun a b hb=>?_,fun a ha=>?_⟩
 ·have k1:=injOk_ok _ h2 a ha
  have k2:=injOk_ok _ h2 a' ha'
  rw [he,k2] at k1
  exact (Option.some.inj k1).symm
 ·have:=blksOk_ok _ 0 h3 a b hb
  rwa [Nat.zero_add] at this
 ·unfold tau
  rw [T.blt_false a _ (by omega)]
theorem kuse_ok (hA:A.Ok P) {f:FuncId} {inv s:T Nat} {n:Nat} {args:List AV} {H:Heap} {k:AV→Heap→KR} {els:Unit→KR} {r:AV×Heap} {fn:Func} {c:Code} (hfn:A.funcs.get f=some fn) (hc:fn.body=some c) :
  ∀ (es:List Ent),(∀ e,e∈es→e.f=f∧EntOk A P e)→kuse es inv s n args H k els=some r →
  els ()=some r∨∃ v H' fr,k v H'=some r∧AFr.enter A f args .normal=some fr∧Back P fr H v H'
 |[],_,h=>.inl h
 |e::es,he,h=>by
  simp only [kuse] at h
  have ih:=kuse_ok hA (inv:=inv) (s:=s) (n:=n) (args:=args) (H:=H) (k:=k) (els:=els) (r:=r) hfn hc es fun e' h'=>he e' (List.mem_cons_of_mem _ h')
  split at h
  case h_2=>exact ih h
  next hn =>
  split at h
  case h_2=>exact ih h
  next hu =>
  have hn':=Nat.eq_of_beq_eq_true hn
  subst hn'
  simp only [fAV_eq,fHeap_eq] at h
  obtain ⟨hf,hE⟩:=he e (List.mem_cons_self ..)
  subst hf
  refine .inr ⟨_,_,_,h,by simp only [AFr.enter,hfn,hc];rfl,use_ok hA hE (useOk_ok hu) (by simp only [AFr.enter,hfn,hc])⟩
def TabOk (A:AP) (P:Program) (tb:T (List Ent)):Prop :=
 ∀ f es,tb.get f=some es→(∃ fn c,A.funcs.get f=some fn∧fn.body=some c)∧∀ e,e∈es→e.f=f∧EntOk A P e
theorem ktab_ok (hA:A.Ok P) {tb:T (List Ent)} (ht:TabOk A P tb) (hB:BOk A P B):BOk A P (ktab tb B):=by
 refine ⟨fun f args H k r h=>?_,hB.rd,hB.dr⟩
 simp only [ktab] at h
 split at h
 ·exact hB.fn f args H k r h
 ·next es hes =>
  obtain ⟨⟨fn,c,hfn,hc⟩,he⟩:=ht f es hes
  rcases kuse_ok hA hfn hc es he h with h1 | h1
  ·exact hB.fn f args H k r h1
  ·exact h1
theorem klevT_ok (hA:A.Ok P) (hE:E.Ok P) (hP:P.follows .mixedOrders=true) {tb:T (List Ent)} (ht:TabOk A P tb) {L:Nat}:∀ n,BOk A P (klevT A E L slow tb n)
 |0=>⟨fun _ _ _ _ _ h=>(by cases h),fun _ _ _ _ _ _ _ _ _ h=>(by cases h),noD_ok⟩
 |n+1=>by
  have ih:=klevT_ok hA hE hP ht (L:=L) n
  refine ktab_ok hA ht ⟨fun f args H k r h=>?_,fun f sz asg body l t H k r h=>kround_ok hA hE hP ih h,drawR_ok hA hE hP (mone_rok hA hE ih ih.dr L)⟩
  obtain ⟨v,H',fr,fr',h1,h2,h3,_,h4⟩:=kfn_ok hA hE hP ih h
  exact ⟨v,H',fr,h1,h2,h3.back hA hE h4⟩
theorem kmainT_keep (hA:A.Ok P) (hE:E.Ok P) (hP:P.follows .mixedOrders=true) {tb:T (List Ent)} (ht:TabOk A P tb) {L n:Nat} {f:FuncId} {b:Bool} {H:Heap}
  (h:kmainT A E L slow tb n f=some (.bool b,H)) (w:World):Calls P f #[] w fun e w'=>e=.returned (.bool b)∧Kept w w':=by
 obtain ⟨v,H',fr,fr',h1,h2,h3,h4,h5⟩:=kfn_ok hA hE hP (klevT_ok hA hE hP ht n) h
 cases h1
 exact calls_keep hA h2 h5.leads h4 h3.kind h3.final w
theorem oldsOk_ok {H:Heap}:∀ (bs:List Lit) (i:Nat),oldsOk H bs i=true→∀ k b,bs[k]?=some b→∃ b1,H.blks.get (i+k)=some b1∧Same b1 b
 |[],_,_,_,_,hb=>by simp at hb
 |b::bs,i,h,k,b',hb=>by
  simp only [oldsOk] at h
  split at h
  case h_2=>cases h
  next b1 hb1 =>
  simp only [Bool.and_eq_true] at h
  cases k with
  |zero =>
   simp only [List.getElem?_cons_zero,Option.some.injEq] at hb
   subst hb
   exact ⟨b1,hb1,same_ok h.1⟩
  |succ k =>
   rw [List.getElem?_cons_succ] at hb
   have:=oldsOk_ok bs (i+1) h.2 k b' hb
   rw [show i+(k+1)=i+1+k from by omega]
   exact this
theorem newsOk_ok {H:Heap} {n0:Nat}:∀ (l:List (Nat×Lit)),newsOk H n0 l=true→∀ j b,(j,b)∈l→n0≤j∧∃ b1,H.blks.get j=some b1∧Same b1 b∧∀ t f n c,b1=.cells t f n c→H.fams.get f=some [j]
 |[],_,_,_,hm=>by cases hm
 |(j, b) :: l, h, j', b', hm => by
  simp only [newsOk] at h
  split at h
  case h_2=>cases h
  next b1 hb1 =>
  simp only [Bool.and_eq_true] at h
  obtain ⟨⟨⟨h1,h2⟩,h3⟩,h4⟩:=h
  rcases List.mem_cons.1 hm with hm | hm
  ·cases hm
   exact ⟨Nat.le_of_ble_eq_true h1,b1,hb1,same_ok h2,aloneB_ok h3⟩
  ·exact newsOk_ok l h4 j' b' hm
theorem kent_ok (hA:A.Ok P) (hE:E.Ok P) (hP:P.follows .mixedOrders=true) {tb:T (List Ent)} (ht:TabOk A P tb) {L n:Nat} {e:Ent} (h:(kent A E L slow tb n e).isSome=true):EntOk A P e:=by
 obtain ⟨r,hr⟩:=Option.isSome_iff_exists.1 h
 simp only [kent,fHeap_eq] at hr
 obtain ⟨v,H',fr,fr',h1,h2,h3,h4,h5⟩:=kfn_ok hA hE hP (klevT_ok hA hE hP ht n) hr
 simp only [] at h1
 split at h1
 case h_2=>cases h1
 next hk =>
 simp only [entOk,Bool.and_eq_true] at hk
 obtain ⟨⟨⟨k1,k2⟩,k3⟩,k4⟩:=hk
 have hv:=AV.beq_eq _ _ k1
 subst hv
 exact ⟨fr,fr',H',h2,h3,h5,Nat.eq_of_beq_eq_true k2,fun a b hb=>by
  have:=oldsOk_ok _ 0 k3 a b hb
  rwa [Nat.zero_add] at this,newsOk_ok _ k4⟩
theorem TabOk.nil:TabOk A P .nil:=fun f es h=>by rw [T.get_nil] at h;cases h
theorem TabOk.set {tb:T (List Ent)} (ht:TabOk A P tb) {f:FuncId} {es:List Ent} {fn:Func} {c:Code} (hfn:A.funcs.get f=some fn) (hc:fn.body=some c) (he:∀ e,e∈es→e.f=f∧EntOk A P e):TabOk A P (tb.set f es):=by
 intro g es' h
 rw [T.get_set] at h
 split at h
 ·next hg =>
  cases h
  subst hg
  exact ⟨⟨fn,c,hfn,hc⟩,he⟩
 ·exact ht g es' h
end
end Go.Am
namespace Go.Pv
open Go.Am Go.RowKit
section
variable {w0:Base} {s:St}
theorem Ext.kept (h:PW w0 s) {w':World} (hk:Kept s.w w'):Ext s (s.wat w'):=by
 refine Ext.mk' ⟨hk.size,fun _ _=>⟨id,fun _ h=>h⟩⟩ (Nat.le_refl _) (fun _ _=>rfl) (fun k o y hy=>?_) (fun i n _ hn=>⟨hn,fun arr t ha=>⟨arr,?_,rfl⟩⟩)
 ·obtain ⟨n,own,h1,h2,h3⟩:=fcell_some hy
  refine fcell_of (s:=s.wat w') h1 h2 ?_
  rw [← h3]
  exact cell_heap (hk.block k (h.lt (by rw [h1];simp)))
 ·have hn':s.σ (s.e i)=.fz n (some i):=hn
  exact (hk.block _ (h.lt (by rw [hn'];simp))).trans ha
theorem PW.kept (h:PW w0 s) {w':World} (hk:Kept s.w w'):PW w0 (s.wat w'):=by
 have hx:=Ext.kept h hk
 refine ⟨hk.os.trans h.os,hk.tape.trans h.tape,hk.output.trans h.output,Nat.le_trans h.size hk.size,fun k hp=>?_,h.prot,fun k o hp ho=>?_,fun k hs=>h.inb k (Nat.le_trans hk.size hs),fun k n i hs=>?_,fun i b hb=>?_⟩
 ·exact (hk.block k (Nat.lt_of_lt_of_le (w0.lt k hp) h.size)).trans (h.old k hp)
 ·rcases Nat.lt_or_ge k s.w.heap.size with h1 | h1
  ·exact h.cold k o hp ((hk.block k h1).symm.trans ho)
  ·intro arr t z e
   subst e
   refine Nat.le_of_not_lt fun hlt=>?_
   have h2:=hk.froz ⟨k,z.1,none⟩
   rw [frozen_none (w:=s.w) (Array.getElem?_eq_none h1)] at h2
   have ho':w'.heap[k]?=some (.cells arr t (z.1,z.2)):=ho
   simp [World.frozen?,ho',hlt] at h2
 ·have hs':s.σ k=.fz n (some i):=hs
  obtain ⟨p1,p2,arr,t,p3,p4⟩:=h.ob k n i hs'
  exact ⟨p1,p2,arr,t,(hk.block k (h.lt (by rw [hs'];simp))).trans p3,p4⟩
 ·obtain ⟨p1,p2,p3⟩:=h.hp i b hb
  exact ⟨p1,BAt.congr (s':=s.wat w') (s:=s) rfl rfl p2,p3.ext hx (hk.block _ (h.lt p2.some))⟩
end
theorem PCall.closed {P : Program} {f : FuncId} {b : Bool} (hf : ∃ fn c, P.funcs[f]? = some fn ∧ fn.body = some c ∧ fn.name ≠ "runtime.NumGoroutine")
  (h:∀ w,Calls P f #[] w fun e w'=>e=.returned (.bool b)∧Kept w w') (hp:PH) {X:PV→PH→Prop}:PCall P f [] hp (fun v h'=>v=.lit (.bool b)∧h'=hp) X:=by
 refine ⟨hf,fun w0 s xs hw hh hx=>?_⟩
 have hx':xs=#[]:=by
  have:=RVs_nil.1 hx
  exact Array.toList_eq_nil_iff.1 this
 subst hx'
 refine (h s.w).mono fun e w' ⟨he,hk⟩=>?_
 subst he
 exact ⟨s.wat w',rfl,hw.kept hk,Ext.kept hw hk,.lit (.bool b),RV_lit.2 ⟨rfl,by simp [VR]⟩,rfl,hh⟩
end Go.Pv
namespace Go.Pv
open Go.Am Go.RowKit
def bslP (A : AP) (t : TypeId) : Option (List PV × Bool × Nat) :=
 match A.under t with
 |some (.slice e)=>match A.info e,A.under e with
  |some ie,some d=>match ie.zero with
   |some z=>match z.cells.size == ie.size && Nat.ble 1 ie.size && (isAggB d || Nat.beq ie.size 1),zcells z with
    |true,some cs=>match Nat.beq cs.length ie.size with
     |true=>some (cs,isAggB d,ie.size)
     |false=>none
    |_,_=>none
   |none=>none
  |_,_=>none
 |_=>none
class Bsl (A:AP) (t:Nat) (zs:outParam (List PV)) (agg:outParam Bool) (sz:outParam Nat):Prop where
 ok:bslP A t=some (zs,agg,sz)
def ordK {β:Type} (agg:Bool) (sz:Nat):Nat→Nat→List (Nat×PV)→(List PV→Option β)→Option β
 |_,0,[],k=>k []
 |i,n+1,(j,w)::ps,k=>match Nat.beq i j,Nat.beq w.nc sz,w.isAgg,agg with
  |true,true,true,true=>ordK agg sz (i+1) n ps fun l=>k (w::l)
  |true,true,false,false=>ordK agg sz (i+1) n ps fun l=>k (w::l)
  |_,_,_,_=>none
 |_,_,_,_=>none
def tagged:Nat→List PV→List (Nat×PV)
 |_,[]=>[]
 |i,w::ws=>(i,w)::tagged (i+1) ws
theorem ordK_eq {β:Type} {agg:Bool} {sz:Nat}:∀ (n i:Nat) (ps:List (Nat×PV)) (k:List PV→Option β) (v:β),ordK agg sz i n ps k=some v →
  ∃ ws,ps=tagged i ws∧ws.length=n∧k ws=some v∧∀ w∈ws,w.nc=sz∧w.isAgg=agg
 |0,i,[],k,v,h=>⟨[],rfl,rfl,h,fun _ h=>by cases h⟩
 |0,i,_::_,k,v,h=>by simp [ordK] at h
 |n+1,i,[],k,v,h=>by simp [ordK] at h
 |n + 1, i, (j, w) :: ps, k, v, h => by
  simp only [ordK] at h
  split at h
  ·next _ h1 h2 h3 =>
   obtain ⟨ws,q1,q2,q3,q4⟩:=ordK_eq n (i+1) ps _ v h
   refine ⟨w::ws,?_,by simp [q2],q3,fun x hx=>?_⟩
   ·rw [q1,← Nat.eq_of_beq_eq_true h1];rfl
   ·rcases List.mem_cons.1 hx with rfl | hx
    ·exact ⟨Nat.eq_of_beq_eq_true h2,h3⟩
    ·exact q4 x hx
  ·next _ h1 h2 h3 =>
   obtain ⟨ws,q1,q2,q3,q4⟩:=ordK_eq n (i+1) ps _ v h
   refine ⟨w::ws,?_,by simp [q2],q3,fun x hx=>?_⟩
   ·rw [q1,← Nat.eq_of_beq_eq_true h1];rfl
   ·rcases List.mem_cons.1 hx with rfl | hx
    ·exact ⟨Nat.eq_of_beq_eq_true h2,h3⟩
    ·exact q4 x hx
  ·cases h
theorem pcopies_length (l:List PV):∀ n,(pcopies l n).length=n * l.length
 |0=>by simp [pcopies]
 |n+1=>by simp only [pcopies,List.length_append,pcopies_length l n,Nat.add_mul];omega
theorem fillOrd {sz:Nat}:∀ (ws:List PV) (i:Nat) (pre rest:List PV),pre.length=i * sz→rest.length=ws.length * sz→(∀ w∈ws,w.nc=sz) →
  pfill (fun i=>some (i * sz,sz)) (pre++rest) (tagged i ws)=some (pre++flat ws)
 |[],i,pre,rest,h1,h2,_=>by
  have:rest=[]:=List.eq_nil_of_length_eq_zero (by simpa using h2)
  subst this
  simp [tagged,pfill,flat]
 |w::ws,i,pre,rest,h1,h2,h3=>by
  have hw:=h3 w (by simp)
  have hl:w.cells.length=sz:=by rw [PV.cells_length];exact hw
  simp only [List.length_cons,Nat.add_mul] at h2
  simp only [tagged,pfill]
  have hb:(w.cells.length == sz && Nat.ble (i * sz+sz) (pre++rest).length)=true:=by
   simp only [Bool.and_eq_true,beq_iff_eq]
   exact ⟨hl,by rw [Nat.ble_eq,List.length_append];omega⟩
  rw [hb]
  simp only
  rw [pputAt_eq _ _ _ (by rw [List.length_append];omega)]
  have e1:(pre++rest).take (i * sz)=pre:=by rw [← h1,List.take_left]
  have e2:(pre++rest).drop (i * sz+w.cells.length)=rest.drop sz:=by
   rw [List.drop_append,List.drop_eq_nil_of_le (by omega),List.nil_append]
   congr 1
   omega
  rw [e1,e2]
  rw [fillOrd ws (i+1) (pre++w.cells) (rest.drop sz) (by rw [List.length_append,Nat.add_mul];omega) (by rw [List.length_drop];omega) fun x hx=>h3 x (List.mem_cons_of_mem _ hx)]
  simp [flat]
theorem agg_cells {w:PV} (h:w.isAgg=true):.agg w.cells=w:=by cases w<;>simp only [PV.isAgg,Bool.false_eq_true] at h;rfl
theorem one_cells {w:PV} (h:w.isAgg=false):w.cells=[w]:=by cases w<;>first | rfl | simp only [PV.isAgg,Bool.true_eq_false] at h
theorem pchunk_flat {agg:Bool} {sz:Nat}:∀ ws:List PV,(∀ w∈ws,w.nc=sz∧w.isAgg=agg)→pchunk agg sz ws.length (flat ws)=some ws
 |[],_=>rfl
 |w::ws,h=>by
  obtain ⟨h1,h2⟩:=h w (by simp)
  have hl:w.cells.length=sz:=by rw [PV.cells_length];exact h1
  have ih:=pchunk_flat ws fun x hx=>h x (List.mem_cons_of_mem _ hx)
  cases agg with
  |true =>
   simp only [List.length_cons,pchunk,flat]
   have e1:(w.cells++flat ws).drop sz=flat ws:=by rw [← hl,List.drop_left]
   have e2:(w.cells++flat ws).take sz=w.cells:=by rw [← hl,List.take_left]
   have e3:Nat.ble sz (w.cells++flat ws).length=true:=by rw [Nat.ble_eq,List.length_append];omega
   rw [e1,e2,e3,ih]
   simp only [agg_cells h2]
  |false =>
   simp only [List.length_cons,pchunk,flat,one_cells h2,List.cons_append,List.nil_append,h2,ih]
section
variable {C:Cx} {F:EQ} {X:EX} {k:List KI} {e:EL} {ds:List Nat} {h:PH} {K:PV→PH→Prop} {n:Nat} {l:HL}
variable {d:Option Tmp} {type:TypeId} {pos:String} {after:Array Edge} {guard:Option (Nat×Bool)}
theorem Bsl.fresh {A:AP} {t sz len:Nat} {zs:List PV} {agg:Bool} (hb:Bsl A t zs agg sz) {ps:List (Nat×PV)} {ws:List PV} (hps:ps=tagged 0 ws) (hl:ws.length=len) (hall:∀ w∈ws,w.nc=sz∧w.isAgg=agg) (hlt:Nat.ble (len * sz) 16777216=true) :
  ∃ el cs,pbuildCells A t len ps=some (el,cs)∧∃ d ti,A.under el=some d∧A.info el=some ti∧(isAggB d || Nat.beq ti.size 1)=true∧pchunk (isAggB d) ti.size len cs=some ws:=by
 have:=hb.ok
 unfold bslP at this
 split at this
 case h_2=>cases this
 next el hu =>
 split at this
 case h_2=>cases this
 next ie dd hie hd =>
 split at this
 case h_2=>cases this
 next z hz =>
 split at this
 case h_2=>cases this
 next cs h1 hcs =>
 split at this
 case h_2=>cases this
 next hcl =>
 cases this
 have hcl:=Nat.eq_of_beq_eq_true hcl
 simp only [Bool.and_eq_true] at h1
 obtain ⟨⟨h1,h2⟩,h3⟩:=h1
 refine ⟨el,flat ws,?_,dd,ie,hd,hie,h3,by rw [← hl];exact pchunk_flat ws hall⟩
 unfold pbuildCells
 simp only [hu,hie]
 cases len with
 |zero =>
  have:ws=[]:=List.eq_nil_of_length_eq_zero hl
  subst this
  subst hps
  rfl
 |succ m =>
  simp only [hz,hcs]
  have hb2:(z.cells.size == ie.size && Nat.ble 1 ie.size && Nat.ble ((m+1) * ie.size) 16777216)=true:=by
   simp only [Bool.and_eq_true]
   exact ⟨⟨h1,h2⟩,hlt⟩
  rw [hb2]
  simp only
  have hf:=fillOrd (sz:=ie.size) ws 0 [] (pcopies zs (m+1)) (by simp) (by rw [pcopies_length,hcl,hl]) fun w hw=>(hall w hw).1
  simp only [List.nil_append] at hf
  rw [hps,hf]
theorem Ope.bsl {t len sz:Nat} {zs:List PV} {agg:Bool} {parts:Array (Nat×Operand)} {dd:Tmp} {ps:List (Nat×PV)} {ws:List PV} [hb:Bsl C.A t zs agg sz] (hM:C.M dd=true) (hp:pparts (pev (lget e)) parts.toList=some ps)
  (ho:ordK agg sz 0 len ps some=some ws) (hlt:Nat.ble (Nat.mul len sz) 16777216=true) (hK:K (.sl .ex ws) h):Ope C X { dst:=some dd,op:=.buildSlice t len parts,type,pos,after,guard } e ds h K:=by
 obtain ⟨ws',q1,q2,q3,q4⟩:=ordK_eq _ _ _ _ _ ho
 cases q3
 obtain ⟨el,cs,r1,dt,ti,r2,r3,r4,r5⟩:=hb.fresh q1 q2 q4 hlt
 unfold Ope
 simp only [pop,pkind,hM,pfresh,hp,r1,r2,r3,r4,r5,PDo]
 exact hK
def ifcP (A:AP) (t:TypeId):Bool :=
 match A.under t with
 |some (.interface _)=>true
 |_=>false
class Ifc (A:AP) (t:Nat):Prop where
 ok:ifcP A t=true
theorem Ifc.get {A:AP} {t:Nat} (h:Ifc A t):∃ ms,A.under t=some (.interface ms):=by
 have:=h.ok
 unfold ifcP at this
 split at this
 ·next ms hu=>exact ⟨ms,hu⟩
 ·cases this
theorem Con.noIfc {A:AP} {t:Nat} (h:Con A t):∃ d,A.under t=some d∧∀ ms,d≠.interface ms:=by
 have:=h.ok
 unfold plainTy at this
 split at this
 ·cases this
 ·next d hn hu=>exact ⟨d,hu,fun ms hc=>hn ms hc⟩
 ·cases this
theorem Ope.tasY {t u xt:Nat} {x:Operand} {v:PV} [hc:Con C.A t] (hx:pev (lget e) x=some (.ifc u v)) (he:Nat.beq u t=true) (hK:K (.tup [v,B true]) h):Ope C X { dst:=d,op:=.typeAssert x xt t true,type,pos,after,guard } e ds h K:=by
 refine Ope.quiet rfl ?_ hK
 obtain ⟨dd,h1,h2⟩:=hc.noIfc
 simp only [pquiet,hx,ptypeAssert,h1]
 cases dd<;>first | exact absurd rfl (h2 _) | simp only [he]
theorem Ope.tasN {t u xt:Nat} {x:Operand} {v z:PV} [hc:Con C.A t] [hz:Zer C.A t z] (hx:pev (lget e) x=some (.ifc u v)) (he:Nat.beq u t=false) (hK:K (.tup [z,B false]) h) :
  Ope C X { dst:=d,op:=.typeAssert x xt t true,type,pos,after,guard } e ds h K:=by
 refine Ope.quiet rfl ?_ hK
 obtain ⟨dd,h1,h2⟩:=hc.noIfc
 have hz':=hz.ok
 unfold pzero at hz'
 split at hz'
 case h_2=>cases hz'
 next ti hti =>
 split at hz'
 case h_2=>cases hz'
 next zv hzv =>
 simp only [pquiet,hx,ptypeAssert,h1]
 cases dd<;>first | exact absurd rfl (h2 _) | simp only [he,hti,hzv,hz']
theorem Ope.eqI {t u t':Nat} {x y:Operand} {v:PV} [hi:Ifc C.A t] (hx:pev (lget e) x=some (.ifc u v)) (hy:pev (lget e) y=some (.lit .nilifc)) (hK:K (B false) h) :
  Ope C X { dst:=d,op:=.binOp .eql t x y t',type,pos,after,guard } e ds h K:=by
 refine Ope.quiet rfl ?_ hK
 obtain ⟨ms,hms⟩:=hi.get
 simp only [pquiet,hx,hy,pbin]
 have hn:pnil C.A t (.ifc u v) (.lit .nilifc)=some false:=by simp only [pnil,hms]
 rw [hn]
 cases hv:PV.toAV (.ifc u v) with
 |none=>rfl
 |some a =>
  have:bothNil a .nilifc=false:=by
   simp only [PV.toAV] at hv
   split at hv
   ·cases hv;rfl
   ·cases hv
  simp only [PV.toAV,this]
  rfl
theorem Ope.eqN {t t':Nat} {x y:Operand} [hi:Ifc C.A t] (hx:pev (lget e) x=some (.lit .nilifc)) (hy:pev (lget e) y=some (.lit .nilifc)) (hc:isConstB y=true) (hK:K (B true) h) :
  Ope C X { dst:=d,op:=.binOp .eql t x y t',type,pos,after,guard } e ds h K:=by
 refine Ope.quiet rfl ?_ hK
 obtain ⟨ms,hms⟩:=hi.get
 simp only [pquiet,hx,hy,pbin,PV.toAV,bothNil,anils,hms,hc,Bool.or_true,plit,PV.ofAV]
theorem Ope.slD {t sz bytes m:Nat} {agg:Bool} {x y:Operand} {kk:IntKind} {a:Int} {tl:Tail} {vs:List PV} [hs:Slc C.A t agg sz bytes] (hx:pev (lget e) x=some (.sl tl vs)) (hy:pev (lget e) y=some (.lit (.int kk a))) (ha:a=(m:Int)) (hm:m≤vs.length)
  (hnc:∀ v∈vs,v.nc=sz) (hK:K (.sl (stail tl vs.length vs.length) (vs.drop m)) h):Ope C X { dst:=d,op:=.slice t x (some y) none none,type,pos,after,guard } e ds h K:=by
 refine Ope.quiet rfl ?_ hK
 subst ha
 obtain ⟨el,ti,h1,h2,h3,_,_⟩:=hs.get
 obtain ⟨d',ti',h4,h5,rfl,rfl⟩:=h2.get
 rw [h3] at h5
 cases h5
 have hai:aidx (m:Int) (vs.length+1)=some m:=by
  show aidx (Int.ofNat m) (vs.length+1)=some m
  simp [aidx,(T.blt_iff _ _).2 (show m < vs.length+1 by omega)]
 have hall:vs.all (fun v=>Nat.beq v.nc ti.size)=true:=List.all_eq_true.2 fun v hv=>by rw [hnc v hv];exact Nat.beq_refl _
 simp only [pquiet,hx,hy,popt,pslice,h1,h3,pbound,hai,hall,List.take_length]
theorem Ope.slDL {t sz bytes m:Nat} {agg:Bool} {x y:Operand} {kk:IntKind} {a:Int} {j o len cap:Nat} {ez:Option Nat} [hs:Slc C.A t agg sz bytes] (hx:pev (lget e) x=some (.ms j o len cap ez)) (hy:pev (lget e) y=some (.lit (.int kk a))) (ha:a=(m:Int)) (hm:m≤len) (hmc:m < cap) (hlc:len≤cap)
  (hK:K (.ms j (o+m * sz) (len - m) (cap - m) ez) h):Ope C X { dst:=d,op:=.slice t x (some y) none none,type,pos,after,guard } e ds h K:=by
 refine Ope.quiet rfl ?_ hK
 subst ha
 obtain ⟨el,ti,h1,h2,h3,_,_⟩:=hs.get
 obtain ⟨d',ti',h4,h5,rfl,rfl⟩:=h2.get
 rw [h3] at h5
 cases h5
 have hai:aidx (m:Int) (len+1)=some m:=by
  show aidx (Int.ofNat m) (len+1)=some m
  simp [aidx,(T.blt_iff _ _).2 (show m < len+1 by omega)]
 have hle:Nat.ble len cap=true:=by rw [Nat.ble_eq];exact hlc
 have hc:Nat.beq cap m=false:=by
  cases hc:Nat.beq cap m with
  |true=>have:=Nat.eq_of_beq_eq_true hc;omega
  |false=>rfl
 simp only [pquiet,hx,hy,popt,pslice,h1,h3,hle,pbound,hai,hc]
theorem Each.of {p:PV→Prop}:∀ {vs:List PV},(∀ v∈vs,p v)→Each p vs
 |[],_=>trivial
 |v::vs,h=>⟨h v (by simp),Each.of fun x hx=>h x (List.mem_cons_of_mem _ hx)⟩
theorem Ope.apO {t tx sz bytes sz' bytes':Nat} {agg agg':Bool} {x y:Operand} {tl':Tail} {vs ws:List PV} [hs:Slc C.A t agg sz bytes] [hs':Slc C.A tx agg' sz' bytes'] (hx:pev (lget e) x=some (.sl .ex vs)) (hy:pev (lget e) y=some (.sl tl' ws)) (hne:ws≠[])
  (hb1:(vs.length+ws.length) * bytes≤140737488355328) (hb2:vs.length+ws.length≤1000000000) (h1:1≤sz) (hv:∀ v∈vs,v.nc=sz) (hw:∀ v∈ws,v.nc=sz∧PV.allOne v.cells=true) (hK:K (.sl (.own n) (vs++ws)) (HE (n+1) ((n,some .own)::l))) :
  Ope C X { dst:=d,op:=.call { callee:=.builtin .append,args:=#[x,y],argTypes:=#[t,tx] },type,pos,after,guard } e ds (HE n l) K:=by
 obtain ⟨el,ti,q1,q2,q3,q4,q5⟩:=hs.get
 obtain ⟨d',ti',h4,h5,rfl,rfl⟩:=q2.get
 rw [q3] at h5
 cases h5
 subst q4
 obtain ⟨el',ti',q1',_⟩:=hs'.get
 unfold Ope
 simp only [pop,pkind,ploud,pargs,hx,hy,PAppend,q1,q1',q3]
 exact .inr ⟨hne,hb1,hb2,h1,q5,Each.of hv,Each.of hw,.inl (by rw [HE_add];exact hK)⟩
theorem Ope.apP {t tx sz bytes sz' bytes' j:Nat} {agg agg':Bool} {x y:Operand} {tl':Tail} {vs ws:List PV} [hs:Slc C.A t agg sz bytes] [hs':Slc C.A tx agg' sz' bytes'] (hx:pev (lget e) x=some (.sl (.own j) vs)) (hy:pev (lget e) y=some (.sl tl' ws)) (hne:ws≠[]) (hne':vs≠[]) (hg:hget l j=some .own)
  (hb1:(vs.length+ws.length) * bytes≤140737488355328) (hb2:vs.length+ws.length≤1000000000) (h1:1≤sz) (hv:∀ v∈vs,v.nc=sz) (hw:∀ v∈ws,v.nc=sz∧PV.allOne v.cells=true) (hK:K (.sl (.own n) (vs++ws)) (HE (n+1) ((n,some .own)::(j,none)::l))) :
  Ope C X { dst:=d,op:=.call { callee:=.builtin .append,args:=#[x,y],argTypes:=#[t,tx] },type,pos,after,guard } e ds (HE n l) K:=by
 obtain ⟨el,ti,q1,q2,q3,q4,q5⟩:=hs.get
 obtain ⟨d',ti',h4,h5,rfl,rfl⟩:=q2.get
 rw [q3] at h5
 cases h5
 subst q4
 obtain ⟨el',ti',q1',_⟩:=hs'.get
 unfold Ope
 simp only [pop,pkind,ploud,pargs,hx,hy,PAppend,q1,q1',q3]
 exact .inr ⟨hne,hb1,hb2,h1,q5,Each.of hv,Each.of hw,hne',hg,by rw [HE_del,HE_add];exact hK⟩
def mksP (A : AP) (t : TypeId) : Option (AV × Nat) :=
 match A.under t with
 |some (.slice e)=>match A.info e with
  |some ie=>match ie.zero with
   |some z=>match z.cells.size == ie.size && Nat.ble 1 ie.size,ofCells z.cells.toList with
    |true,some [a]=>match PV.ofAV a with
     |some _=>some (a,ie.bytes)
     |none=>none
    |_,_=>none
   |none=>none
  |none=>none
 |_=>none
class Mks (A:AP) (t:Nat) (z:outParam PV) (bytes:outParam Nat):Prop where
 ok:∃ a,mksP A t=some (a,bytes)∧PV.ofAV a=some z
theorem acopies_one (a:AV):∀ n,acopies [a] n=List.replicate n a
 |0=>rfl
 |n+1=>by simp [acopies,acopies_one a n,List.replicate_succ]
theorem ofAVs_rep {a:AV} {z:PV} (h:PV.ofAV a=some z):∀ n,PV.ofAVs (List.replicate n a)=some (List.replicate n z)
 |0=>rfl
 |n+1=>by simp [List.replicate_succ,PV.ofAVs,h,ofAVs_rep h n]
theorem Mks.get {A:AP} {t bytes:Nat} {z:PV} (h:Mks A t z bytes):∃ e ie,A.under t=some (.slice e)∧A.info e=some ie∧ie.bytes=bytes∧∀ n,∃ zs,azeros A e n=some zs∧PV.ofAVs zs=some (List.replicate n z):=by
 obtain ⟨a,h1,h2⟩:=h.ok
 unfold mksP at h1
 split at h1
 case h_2=>cases h1
 next e hu =>
 split at h1
 case h_2=>cases h1
 next ie hie =>
 split at h1
 case h_2=>cases h1
 next zz hz =>
 split at h1
 case h_2=>cases h1
 next a' hb hcs =>
 split at h1
 case h_2=>cases h1
 next hpa =>
 cases h1
 refine ⟨e,ie,hu,hie,rfl,fun n=>⟨List.replicate n a,?_,ofAVs_rep h2 n⟩⟩
 unfold azeros
 simp only [hie,hz,hb,hcs,acopies_one]
theorem Ope.mks {t bytes:Nat} {x y:Operand} {kk kk':IntKind} {z:PV} {a b:Int} {m c:Nat} [hs:Mks C.A t z bytes] (hx:pev (lget e) x=some (.lit (.int kk a))) (hy:pev (lget e) y=some (.lit (.int kk' b))) (ha:a=(m:Int)) (hb:b=(c:Int)) (hmc:m≤c) (hc:c≤1000000000) (hbc:bytes * c≤140737488355328)
  (hK:∀ ez,K (.ms n 0 m c ez) (HE (n+1) ((n,some (.cells (List.replicate c z)))::l))):Ope C X { dst:=d,op:=.makeSlice t x y,type,pos,after,guard } e ds (HE n l) K:=by
 subst ha hb
 obtain ⟨el,ie,q1,q2,rfl,q4⟩:=hs.get
 obtain ⟨zs,q5,q6⟩:=q4 c
 unfold Ope
 simp only [pop,pkind,ploud,hx,hy,PMake,q1,q2]
 exact ⟨m,c,zs,_,rfl,rfl,hmc,hc,hbc,q5,q6,by rw [HE_add];exact hK _⟩
theorem putK_one {β:Type} {v:PV}:∀ (o:Nat) (cs:List PV) (k:List PV→Option β),o < cs.length→putK o [v] cs k=k (cs.set o v)
 |0,c::cs,k,_=>by simp [putK,endK_eq]
 |o+1,c::cs,k,h=>by simp only [putK];rw [putK_one o cs _ (by simpa using h)];rfl
 |_,[],_,h=>by simp at h
theorem Ope.storeL {t i o:Nat} {a x:Operand} {v:PV} {cs:List PV} [ht:Ty C.A t false 1] (ha:pev (lget e) a=some (.ptr i o)) (hx:pev (lget e) x=some v) (hg:hget l i=some (.cells cs)) (hv:v.cells=[v]) (ho:PV.allOne [v]=true) (hlt:o < cs.length)
  (hK:K (.tup []) (HE n ((i,some (.cells (cs.set o v)))::l))):Ope C X { dst:=d,op:=.store t a x,type,pos,after,guard } e ds (HE n l) K :=
 Ope.store (sz:=1) ha hx hg (by rw [← PV.cells_length,hv];rfl) (by rw [hv];exact ho) (by rw [hv];exact putK_one o cs some hlt) hK
theorem Run.frzS {c:Code} {d i len cap:Nat} {ez:Option Nat} {vs post:List PV} {sz:Nat} (hd:lget e d=some (.ms i 0 len cap ez)) (hg:hget l i=some (.cells (flat vs++post))) (hl:len=vs.length) (hlc:len≤cap) (hnc:∀ v∈vs,v.nc=sz)
  (hr:Run C F X (.c c::k) ((d,.sl .no vs)::e) ds (HE n ((i,none)::l))):Run C F X (.c c::k) e ds (HE n l):=by
 refine Run.ghost (fun t ht=>⟨t.set d (.sl .no vs),?_,?_⟩) hr
 ·intro j u hj
  simp only [lget] at hj
  simp only [T.get_set]
  split at hj
  ·next hb=>rw [if_pos (Nat.eq_of_beq_eq_true hb)];exact hj
  ·next hb =>
   rw [if_neg (fun c=>by subst c;simp at hb)]
   exact ht j u hj
 ·intro w0 s arr hw hh htv
  have hgi:s.h.get i=some (.cells (flat vs++post)):=by rw [hh];exact hg
  obtain ⟨arr',tt,e2,e3,hin,e4⟩:=hw.cells hgi
  have hall:=Each.of hnc
  have hx:=Ext.freeze (s:=s) (n:=vs.length * sz) e4
  refine ⟨s.freeze i (vs.length * sz),rfl,hw.freeze hgi,hx,by simp only [St.freeze,hh,HE_del],fun j u hj=>?_⟩
  rw [T.get_set] at hj
  split at hj
  ·next hjd =>
   cases hj
   subst hjd
   obtain ⟨x,x1,x2⟩:=htv j _ (ht j _ hd)
   obtain ⟨_,rfl⟩:=RV_ms.1 x2
   refine ⟨_,x1,RV_sl.2 (.inr ⟨s.e i,0,cap,sz,by rw [hl],by omega,?_,trivial⟩)⟩
   refine REs.of_flat hall (RMs.of_get fun q v hq=>?_)
   have hqlt:q < (flat vs).length:=(List.getElem?_eq_some_iff.1 hq).1
   have hql:=hqlt
   rw [flat_len hall] at hqlt
   obtain ⟨y,u1,u2⟩:=e3.get (a:=v) (i:=q) (by rw [List.getElem?_append_left hql];exact hq)
   refine ⟨y,?_,(R2.ext hx v).1 _ u2⟩
   rw [Nat.zero_add]
   exact fcell_new (upd_self _ _ _) hqlt e2 (by simpa using u1)
  ·obtain ⟨x,x1,x2⟩:=htv j u hj
   exact ⟨x,x1,(R2.ext hx u).1 _ x2⟩
def Clo (P:Program) (g:Nat) (b:Bool):Prop:=∀ (hp:PH) (X:PV→PH→Prop),PCall P g [] hp (fun v h'=>v=.lit (.bool b)∧h'=hp) X
theorem Ope.clo {f:Operand} {args:Array Operand} {tys:Array TypeId} {g:Nat} {b:Bool} (hf:pev (lget e) f=some (.fn (.func g) [] [])) (ha:pargs (pev (lget e)) args.toList=some []) (hc:Clo C.P g b) (hK:K (B b) h) :
  Ope C X { dst:=d,op:=.call { callee:=.value f,args,argTypes:=tys },type,pos,after,guard } e ds h K :=
 Ope.call hf ha rfl ((hc h _).mono (fun v h' hv=>by obtain ⟨rfl,rfl⟩:=hv;exact hK) fun _ _ hx=>hx)
end
end Go.Pv
namespace Go.Pv
open Go.Proofs Go.Am
set_option maxRecDepth 100000
def memK : List Nat → Nat → Bool
  | [],_=>false
  | x :: l, i => match Nat.beq i x with
    | true=>true
    | false=>memK l i
def setAll:List Nat→T Unit→T Unit
  | [],t=>t
  | n::l,t=>setAll l (t.set n ())
theorem setAll_get:∀ (l:List Nat) (t:T Unit) (x:Nat),(setAll l t).get x=some ()→x∈l∨t.get x=some ()
  | [],_,_,h=>.inr h
  | n :: l, t, x, h => by
    rcases setAll_get l _ x h with h1 | h1
    · exact .inl (List.mem_cons_of_mem _ h1)
    · rw [T.get_set] at h1
      split at h1
      · next e=>subst e;exact .inl (List.mem_cons_self ..)
      · exact .inr h1
def eqTypes:List Nat:=[7,8,22,23,24,25,26,40,41,59,60,64,65,66,67,73,74,77,78,89,90,96,97,105,106,114,115,118,119,132,133,145,146,147,148,149,150,160,161,184,185,188,189,191,195,196,220,221,228,229,245,246,249,250,251,255]
noncomputable def A0:AP:=AP.of Tryz.prog
def E0:Eqs:={ eqs:=setAll eqTypes .nil }
theorem E0_ok:E0.Ok Tryz.prog:=by
  have h:eqTypes.all (fun t=>!(Tryz.prog.eqGuardType Tryz.prog.depth t) && !(Tryz.prog.stoodInHeld t))=true:=by kernel_rfl
  refine ⟨fun t ht=>?_⟩
  rcases setAll_get _ _ _ ht with h1 | h1
  · have := List.all_eq_true.1 h t h1
    simp only [Bool.and_eq_true,Bool.not_eq_true'] at this
    exact this
  · rw [T.get_nil] at h1;cases h1
theorem A0_ok:A0.Ok Tryz.prog:=AP.of_ok _ (by kernel_rfl)
noncomputable abbrev P0:Program:=Tryz.prog
noncomputable abbrev cx (M:Nat→Bool) (fi sz:Nat):Cx:=⟨A0,E0,P0,M,fi,sz,none⟩
theorem cx_ok (M:Nat→Bool) (fi sz:Nat):(cx M fi sz).Ok:=⟨A0_ok,E0_ok,by kernel_rfl⟩
noncomputable abbrev c7:Cx:=cx (memK [2]) 7 196
noncomputable abbrev c16:Cx:=cx (memK [1000006,2,3]) 16 18
noncomputable abbrev c18:Cx:=cx (memK [1]) 18 8
noncomputable abbrev c22:Cx:=cx (memK [1000004,1]) 22 17
noncomputable abbrev c33:Cx:=cx (memK [1]) 33 43
noncomputable abbrev c34:Cx:=cx (memK []) 34 24
noncomputable abbrev c36:Cx:=cx (memK [2]) 36 17
noncomputable abbrev c37:Cx:=cx (memK [2]) 37 23
noncomputable abbrev c38:Cx:=cx (memK []) 38 24
noncomputable abbrev c52:Cx:=cx (memK []) 52 7
noncomputable abbrev c53:Cx:=cx (memK []) 53 19
noncomputable abbrev c54:Cx:=cx (memK [1]) 54 8
noncomputable abbrev c55:Cx:=cx (memK []) 55 8
noncomputable abbrev c56:Cx:=cx (memK [2]) 56 23
noncomputable abbrev c57:Cx:=cx (memK [2]) 57 38
noncomputable abbrev c59:Cx:=cx (memK []) 59 7
noncomputable abbrev c60:Cx:=cx (memK []) 60 5
noncomputable abbrev c61:Cx:=cx (memK [1]) 61 12
noncomputable abbrev c66:Cx:=cx (memK [3,4,5]) 66 12
noncomputable abbrev c67:Cx:=cx (memK []) 67 2
noncomputable abbrev c71:Cx:=cx (memK []) 71 9
noncomputable abbrev c73:Cx:=cx (memK []) 73 15
noncomputable abbrev c76:Cx:=cx (memK []) 76 13
noncomputable abbrev c103:Cx:=cx (memK []) 103 10
noncomputable abbrev c104:Cx:=cx (memK [1,7,33]) 104 38
noncomputable abbrev c105:Cx:=cx (memK [1]) 105 4
noncomputable abbrev c106:Cx:=cx (memK []) 106 7
noncomputable abbrev c107:Cx:=cx (memK [1]) 107 6
noncomputable abbrev c111:Cx:=cx (memK []) 111 10
noncomputable abbrev c112:Cx:=cx (memK [2,3]) 112 23
noncomputable abbrev c113:Cx:=cx (memK []) 113 2
noncomputable abbrev c115:Cx:=cx (memK []) 115 7
noncomputable abbrev c116:Cx:=cx (memK []) 116 20
noncomputable abbrev c117:Cx:=cx (memK [2,3]) 117 23
noncomputable abbrev c118:Cx:=cx (memK [1]) 118 4
noncomputable abbrev c119:Cx:=cx (memK [2,3]) 119 16
noncomputable abbrev c120:Cx:=cx (memK [3]) 120 25
noncomputable abbrev c121:Cx:=cx (memK [1]) 121 17
noncomputable abbrev c122:Cx:=cx (memK [2,3]) 122 12
noncomputable abbrev c157:Cx:=cx (memK []) 157 18
noncomputable abbrev c158:Cx:=cx (memK []) 158 24
noncomputable abbrev c159:Cx:=cx (memK [2]) 159 10
noncomputable abbrev c160:Cx:=cx (memK [2,3]) 160 16
noncomputable abbrev c161:Cx:=cx (memK [2,3]) 161 12
noncomputable abbrev c162:Cx:=cx (memK [2,3]) 162 15
noncomputable abbrev c163:Cx:=cx (memK [1]) 163 16
noncomputable abbrev c164:Cx:=cx (memK [1]) 164 10
noncomputable abbrev c165:Cx:=cx (memK [5,23,51]) 165 63
noncomputable abbrev c166:Cx:=cx (memK [2,3]) 166 6
noncomputable abbrev c167:Cx:=cx (memK [28]) 167 29
noncomputable abbrev c168:Cx:=cx (memK [1]) 168 3
noncomputable abbrev c169:Cx:=cx (memK [2]) 169 6
noncomputable abbrev c170:Cx:=cx (memK []) 170 8
noncomputable abbrev c171:Cx:=cx (memK []) 171 10
noncomputable abbrev c172:Cx:=cx (memK [5,23,51]) 172 63
noncomputable abbrev c173:Cx:=cx (memK [28]) 173 29
noncomputable abbrev c191:Cx:=cx (memK []) 191 27
noncomputable abbrev c192:Cx:=cx (memK []) 192 33
noncomputable abbrev c221:Cx:=cx (memK [3,4,5]) 221 14
noncomputable abbrev c222:Cx:=cx (memK [4,5]) 222 12
instance:Ty A0 3 false 1:=⟨by kernel_rfl⟩
instance:Ty A0 4 false 1:=⟨by kernel_rfl⟩
instance:Ty A0 23 true 4:=⟨by kernel_rfl⟩
instance:Ty A0 24 true 8:=⟨by kernel_rfl⟩
instance:Ty A0 26 true 9:=⟨by kernel_rfl⟩
instance:Ty A0 27 false 1:=⟨by kernel_rfl⟩
instance:Ty A0 30 false 1:=⟨by kernel_rfl⟩
instance:Ty A0 41 true 2:=⟨by kernel_rfl⟩
instance:Ty A0 58 false 1:=⟨by kernel_rfl⟩
instance:Ty A0 60 true 2:=⟨by kernel_rfl⟩
instance:Ty A0 64 true 2:=⟨by kernel_rfl⟩
instance:Ty A0 65 true 4:=⟨by kernel_rfl⟩
instance:Ty A0 67 true 9:=⟨by kernel_rfl⟩
instance:Ty A0 74 true 2:=⟨by kernel_rfl⟩
instance:Ty A0 78 true 9:=⟨by kernel_rfl⟩
instance:Ty A0 88 false 1:=⟨by kernel_rfl⟩
instance:Ty A0 90 true 2:=⟨by kernel_rfl⟩
instance:Ty A0 93 false 1:=⟨by kernel_rfl⟩
instance:Ty A0 94 false 1:=⟨by kernel_rfl⟩
instance:Ty A0 95 false 1:=⟨by kernel_rfl⟩
instance:Ty A0 97 true 3:=⟨by kernel_rfl⟩
instance:Ty A0 102 false 1:=⟨by kernel_rfl⟩
instance:Ty A0 103 false 1:=⟨by kernel_rfl⟩
instance:Ty A0 104 false 1:=⟨by kernel_rfl⟩
instance:Ty A0 106 true 3:=⟨by kernel_rfl⟩
instance:Ty A0 111 false 1:=⟨by kernel_rfl⟩
instance:Ty A0 112 false 1:=⟨by kernel_rfl⟩
instance:Ty A0 113 false 1:=⟨by kernel_rfl⟩
instance:Ty A0 115 true 3:=⟨by kernel_rfl⟩
instance:Ty A0 119 true 2:=⟨by kernel_rfl⟩
instance:Ty A0 128 false 1:=⟨by kernel_rfl⟩
instance:Ty A0 129 false 1:=⟨by kernel_rfl⟩
instance:Ty A0 131 false 1:=⟨by kernel_rfl⟩
instance:Ty A0 133 true 1:=⟨by kernel_rfl⟩
instance:Ty A0 134 false 1:=⟨by kernel_rfl⟩
instance:Ty A0 135 false 1:=⟨by kernel_rfl⟩
instance:Ty A0 139 false 1:=⟨by kernel_rfl⟩
instance:Ty A0 141 false 1:=⟨by kernel_rfl⟩
instance:Ty A0 146 true 2:=⟨by kernel_rfl⟩
instance:Ty A0 148 true 4:=⟨by kernel_rfl⟩
instance:Ty A0 150 true 8:=⟨by kernel_rfl⟩
instance:Ty A0 153 true 4:=⟨by kernel_rfl⟩
instance:Ty A0 158 false 1:=⟨by kernel_rfl⟩
instance:Ty A0 159 false 1:=⟨by kernel_rfl⟩
instance:Ty A0 161 true 3:=⟨by kernel_rfl⟩
instance:Ty A0 183 false 1:=⟨by kernel_rfl⟩
instance:Ty A0 185 true 3:=⟨by kernel_rfl⟩
instance:Ty A0 189 true 2:=⟨by kernel_rfl⟩
instance:Ty A0 199 false 1:=⟨by kernel_rfl⟩
instance:Ty A0 200 false 1:=⟨by kernel_rfl⟩
instance:Ty A0 204 false 1:=⟨by kernel_rfl⟩
instance:Ty A0 205 false 1:=⟨by kernel_rfl⟩
instance:Ty A0 206 false 1:=⟨by kernel_rfl⟩
instance:Ty A0 209 false 1:=⟨by kernel_rfl⟩
instance:Ty A0 210 false 1:=⟨by kernel_rfl⟩
instance:Ty A0 211 false 1:=⟨by kernel_rfl⟩
instance:Ty A0 214 false 1:=⟨by kernel_rfl⟩
instance:Ty A0 215 false 1:=⟨by kernel_rfl⟩
instance:Ty A0 216 false 1:=⟨by kernel_rfl⟩
instance:Ty A0 221 true 2:=⟨by kernel_rfl⟩
instance:Ty A0 229 true 121:=⟨by kernel_rfl⟩
instance:Ty A0 233 false 1:=⟨by kernel_rfl⟩
instance:Ty A0 236 false 1:=⟨by kernel_rfl⟩
instance:Ty A0 246 true 3:=⟨by kernel_rfl⟩
instance:Fld A0 251 0 0 true 3:=⟨by kernel_rfl⟩
instance:Fld A0 251 1 3 false 1:=⟨by kernel_rfl⟩
instance:Fld A0 246 2 2 false 1:=⟨by kernel_rfl⟩
instance:Fld A0 246 1 1 false 1:=⟨by kernel_rfl⟩
instance:Fld A0 246 0 0 false 1:=⟨by kernel_rfl⟩
instance:Fld A0 221 1 1 false 1:=⟨by kernel_rfl⟩
instance:Fld A0 221 0 0 false 1:=⟨by kernel_rfl⟩
instance:Fld A0 185 0 0 true 2:=⟨by kernel_rfl⟩
instance:Fld A0 115 2 2 false 1:=⟨by kernel_rfl⟩
instance:Fld A0 115 1 1 false 1:=⟨by kernel_rfl⟩
instance:Fld A0 115 0 0 false 1:=⟨by kernel_rfl⟩
instance:Fld A0 106 2 2 false 1:=⟨by kernel_rfl⟩
instance:Fld A0 106 1 1 false 1:=⟨by kernel_rfl⟩
instance:Fld A0 106 0 0 false 1:=⟨by kernel_rfl⟩
instance:Fld A0 97 2 2 false 1:=⟨by kernel_rfl⟩
instance:Fld A0 97 1 1 false 1:=⟨by kernel_rfl⟩
instance:Fld A0 97 0 0 false 1:=⟨by kernel_rfl⟩
instance:Fld A0 161 2 2 false 1:=⟨by kernel_rfl⟩
instance:Fld A0 161 1 1 false 1:=⟨by kernel_rfl⟩
instance:Fld A0 161 0 0 false 1:=⟨by kernel_rfl⟩
instance:Fld A0 146 1 1 false 1:=⟨by kernel_rfl⟩
instance:Fld A0 189 1 1 false 1:=⟨by kernel_rfl⟩
instance:Fld A0 189 0 0 false 1:=⟨by kernel_rfl⟩
instance:Fld A0 185 1 2 false 1:=⟨by kernel_rfl⟩
instance:Fld A0 148 1 2 true 2:=⟨by kernel_rfl⟩
instance:Fld A0 150 1 4 true 4:=⟨by kernel_rfl⟩
instance:Fld A0 133 0 0 false 1:=⟨by kernel_rfl⟩
instance:Fld A0 146 0 0 false 1:=⟨by kernel_rfl⟩
instance:Fld A0 148 0 0 true 2:=⟨by kernel_rfl⟩
instance:Fld A0 150 0 0 true 4:=⟨by kernel_rfl⟩
instance:Fld A0 78 0 0 true 9:=⟨by kernel_rfl⟩
instance:Fld A0 67 2 5 true 4:=⟨by kernel_rfl⟩
instance:Fld A0 67 1 1 true 4:=⟨by kernel_rfl⟩
instance:Fld A0 119 1 1 false 1:=⟨by kernel_rfl⟩
instance:Fld A0 119 0 0 false 1:=⟨by kernel_rfl⟩
instance:Fld A0 90 1 1 false 1:=⟨by kernel_rfl⟩
instance:Fld A0 90 0 0 false 1:=⟨by kernel_rfl⟩
instance:Fld A0 74 1 1 false 1:=⟨by kernel_rfl⟩
instance:Fld A0 74 0 0 false 1:=⟨by kernel_rfl⟩
instance:Fld A0 67 0 0 false 1:=⟨by kernel_rfl⟩
instance:Fld A0 60 1 1 false 1:=⟨by kernel_rfl⟩
instance:Fld A0 60 0 0 false 1:=⟨by kernel_rfl⟩
instance:Fld A0 23 3 3 false 1:=⟨by kernel_rfl⟩
instance:Fld A0 23 2 2 false 1:=⟨by kernel_rfl⟩
instance:Fld A0 23 1 1 false 1:=⟨by kernel_rfl⟩
instance:Fld A0 41 1 1 false 1:=⟨by kernel_rfl⟩
instance:Fld A0 41 0 0 false 1:=⟨by kernel_rfl⟩
instance:Fld A0 23 0 0 false 1:=⟨by kernel_rfl⟩
instance:Fld A0 26 1 1 true 8:=⟨by kernel_rfl⟩
instance:Fld A0 26 0 0 false 1:=⟨by kernel_rfl⟩
instance:Arr A0 249 2 false 1:=⟨by kernel_rfl⟩
instance:Arr A0 65 2 true 2:=⟨by kernel_rfl⟩
instance:Arr A0 191 11 false 1:=⟨by kernel_rfl⟩
instance:Arr A0 229 11 true 11:=⟨by kernel_rfl⟩
instance:Arr A0 153 4 false 1:=⟨by kernel_rfl⟩
instance:Arr A0 64 2 false 1:=⟨by kernel_rfl⟩
instance:Arr A0 24 2 true 4:=⟨by kernel_rfl⟩
instance:Slc A0 242 false 1 8:=⟨by kernel_rfl⟩
instance:Slc A0 240 false 1 16:=⟨by kernel_rfl⟩
instance:Slc A0 216 true 2 16:=⟨by kernel_rfl⟩
instance:Slc A0 211 true 2 16:=⟨by kernel_rfl⟩
instance:Slc A0 206 true 2 32:=⟨by kernel_rfl⟩
instance:Slc A0 128 false 1 8:=⟨by kernel_rfl⟩
instance:Slc A0 58 true 9 72:=⟨by kernel_rfl⟩
instance:Slc A0 48 false 1 24:=⟨by kernel_rfl⟩
instance:Slc A0 27 false 1 8:=⟨by kernel_rfl⟩
instance:Zer A0 246 (.agg [.lit (.int .i64 (0)),.lit (.int .i64 (0)),.lit (.int .i64 (0))]):=⟨by kernel_rfl⟩
instance:Zer A0 221 (.agg [.lit (.int .i64 (0)),.lit (.int .i64 (0))]):=⟨by kernel_rfl⟩
instance:Zer A0 216 (.sl .ex []):=⟨by kernel_rfl⟩
instance:Zer A0 211 (.sl .ex []):=⟨by kernel_rfl⟩
instance:Zer A0 206 (.sl .ex []):=⟨by kernel_rfl⟩
instance:Zer A0 27 (.sl .ex []):=⟨by kernel_rfl⟩
instance:Zer A0 148 (.agg [.lit (.int .i64 (0)),.lit (.int .i64 (0)),.lit (.int .i64 (0)),.lit (.int .i64 (0))]):=⟨by kernel_rfl⟩
instance:Zer A0 229 (.agg [.lit (.int .i64 (0)),.lit (.int .i64 (0)),.lit (.int .i64 (0)),.lit (.int .i64 (0)),.lit (.int .i64 (0)),.lit (.int .i64 (0)),.lit (.int .i64 (0)),.lit (.int .i64 (0)),.lit (.int .i64 (0)),.lit (.int .i64 (0)),.lit (.int .i64 (0)),.lit (.int .i64 (0)),.lit (.int .i64 (0)),.lit (.int .i64 (0)),.lit (.int .i64 (0)),.lit (.int .i64 (0)),.lit (.int .i64 (0)),.lit (.int .i64 (0)),.lit (.int .i64 (0)),.lit (.int .i64 (0)),.lit (.int .i64 (0)),.lit (.int .i64 (0)),.lit (.int .i64 (0)),.lit (.int .i64 (0)),.lit (.int .i64 (0)),.lit (.int .i64 (0)),.lit (.int .i64 (0)),.lit (.int .i64 (0)),.lit (.int .i64 (0)),.lit (.int .i64 (0)),.lit (.int .i64 (0)),.lit (.int .i64 (0)),.lit (.int .i64 (0)),.lit (.int .i64 (0)),.lit (.int .i64 (0)),.lit (.int .i64 (0)),.lit (.int .i64 (0)),.lit (.int .i64 (0)),.lit (.int .i64 (0)),.lit (.int .i64 (0)),.lit (.int .i64 (0)),.lit (.int .i64 (0)),.lit (.int .i64 (0)),.lit (.int .i64 (0)),.lit (.int .i64 (0)),.lit (.int .i64 (0)),.lit (.int .i64 (0)),.lit (.int .i64 (0)),.lit (.int .i64 (0)),.lit (.int .i64 (0)),.lit (.int .i64 (0)),.lit (.int .i64 (0)),.lit (.int .i64 (0)),.lit (.int .i64 (0)),.lit (.int .i64 (0)),.lit (.int .i64 (0)),.lit (.int .i64 (0)),.lit (.int .i64 (0)),.lit (.int .i64 (0)),.lit (.int .i64 (0)),.lit (.int .i64 (0)),.lit (.int .i64 (0)),.lit (.int .i64 (0)),.lit (.int .i64 (0)),.lit (.int .i64 (0)),.lit (.int .i64 (0)),.lit (.int .i64 (0)),.lit (.int .i64 (0)),.lit (.int .i64 (0)),.lit (.int .i64 (0)),.lit (.int .i64 (0)),.lit (.int .i64 (0)),.lit (.int .i64 (0)),.lit (.int .i64 (0)),.lit (.int .i64 (0)),.lit (.int .i64 (0)),.lit (.int .i64 (0)),.lit (.int .i64 (0)),.lit (.int .i64 (0)),.lit (.int .i64 (0)),.lit (.int .i64 (0)),.lit (.int .i64 (0)),.lit (.int .i64 (0)),.lit (.int .i64 (0)),.lit (.int .i64 (0)),.lit (.int .i64 (0)),.lit (.int .i64 (0)),.lit (.int .i64 (0)),.lit (.int .i64 (0)),.lit (.int .i64 (0)),.lit (.int .i64 (0)),.lit (.int .i64 (0)),.lit (.int .i64 (0)),.lit (.int .i64 (0)),.lit (.int .i64 (0)),.lit (.int .i64 (0)),.lit (.int .i64 (0)),.lit (.int .i64 (0)),.lit (.int .i64 (0)),.lit (.int .i64 (0)),.lit (.int .i64 (0)),.lit (.int .i64 (0)),.lit (.int .i64 (0)),.lit (.int .i64 (0)),.lit (.int .i64 (0)),.lit (.int .i64 (0)),.lit (.int .i64 (0)),.lit (.int .i64 (0)),.lit (.int .i64 (0)),.lit (.int .i64 (0)),.lit (.int .i64 (0)),.lit (.int .i64 (0)),.lit (.int .i64 (0)),.lit (.int .i64 (0)),.lit (.int .i64 (0)),.lit (.int .i64 (0)),.lit (.int .i64 (0)),.lit (.int .i64 (0)),.lit (.int .i64 (0)),.lit (.int .i64 (0)),.lit (.int .i64 (0))]):=⟨by kernel_rfl⟩
instance:Zer A0 3 (.lit (.int .i64 (0))):=⟨by kernel_rfl⟩
instance:Zer A0 189 (.agg [.lit (.int .i64 (0)),.lit (.nilfn)]):=⟨by kernel_rfl⟩
instance:Zer A0 128 (.sl .ex []):=⟨by kernel_rfl⟩
instance:Zer A0 185 (.agg [.lit (.int .i64 (0)),.sl .ex [],.lit (.nilmap)]):=⟨by kernel_rfl⟩
instance:Zer A0 215 (.lit (.nilfn)):=⟨by kernel_rfl⟩
instance:Zer A0 214 (.lit (.nilmap)):=⟨by kernel_rfl⟩
instance:Zer A0 210 (.lit (.nilfn)):=⟨by kernel_rfl⟩
instance:Zer A0 209 (.lit (.nilmap)):=⟨by kernel_rfl⟩
instance:Zer A0 205 (.lit (.nilfn)):=⟨by kernel_rfl⟩
instance:Zer A0 204 (.lit (.nilmap)):=⟨by kernel_rfl⟩
instance:Zer A0 161 (.agg [.lit (.nilfn),.lit (.nilfn),.lit (.nilfn)]):=⟨by kernel_rfl⟩
instance:Zer A0 200 (.lit (.nilfn)):=⟨by kernel_rfl⟩
instance:Zer A0 199 (.lit (.nilmap)):=⟨by kernel_rfl⟩
instance:Zer A0 153 (.agg [.lit (.nilifc),.lit (.nilifc),.lit (.nilifc),.lit (.nilifc)]):=⟨by kernel_rfl⟩
instance:Zer A0 133 (.agg [.lit (.nilfn)]):=⟨by kernel_rfl⟩
instance:Zer A0 4 (.lit (.bool false)):=⟨by kernel_rfl⟩
instance:Zer A0 115 (.agg [.lit (.nilfn),.lit (.nilfn),.lit (.nilfn)]):=⟨by kernel_rfl⟩
instance:Zer A0 106 (.agg [.lit (.nilfn),.lit (.nilfn),.lit (.nilfn)]):=⟨by kernel_rfl⟩
instance:Zer A0 97 (.agg [.lit (.nilfn),.lit (.nilfn),.lit (.nilfn)]):=⟨by kernel_rfl⟩
instance:Zer A0 150 (.agg [.lit (.int .i64 (0)),.lit (.int .i64 (0)),.lit (.int .i64 (0)),.lit (.int .i64 (0)),.lit (.int .i64 (0)),.lit (.int .i64 (0)),.lit (.int .i64 (0)),.lit (.int .i64 (0))]):=⟨by kernel_rfl⟩
instance:Zer A0 78 (.agg [.lit (.int .i64 (0)),.lit (.int .i64 (0)),.lit (.int .i64 (0)),.lit (.int .i64 (0)),.lit (.int .i64 (0)),.lit (.int .i64 (0)),.lit (.int .i64 (0)),.lit (.int .i64 (0)),.lit (.int .i64 (0))]):=⟨by kernel_rfl⟩
instance:Zer A0 30 (.lit (.int .i64 (0))):=⟨by kernel_rfl⟩
instance:Zer A0 23 (.agg [.lit (.int .i64 (0)),.lit (.int .i64 (0)),.lit (.int .i64 (0)),.lit (.int .i64 (0))]):=⟨by kernel_rfl⟩
instance:Zer A0 119 (.agg [.lit (.int .i64 (0)),.lit (.int .i64 (0))]):=⟨by kernel_rfl⟩
instance:Zer A0 90 (.agg [.lit (.int .i64 (0)),.sl .ex []]):=⟨by kernel_rfl⟩
instance:Zer A0 74 (.agg [.lit (.int .i64 (0)),.lit (.int .i64 (0))]):=⟨by kernel_rfl⟩
instance:Zer A0 67 (.agg [.lit (.int .i64 (0)),.lit (.int .i64 (0)),.lit (.int .i64 (0)),.lit (.int .i64 (0)),.lit (.int .i64 (0)),.lit (.int .i64 (0)),.lit (.int .i64 (0)),.lit (.int .i64 (0)),.lit (.int .i64 (0))]):=⟨by kernel_rfl⟩
instance:Zer A0 64 (.agg [.lit (.int .i64 (0)),.lit (.int .i64 (0))]):=⟨by kernel_rfl⟩
instance:Zer A0 60 (.agg [.lit (.int .i64 (0)),.sl .ex []]):=⟨by kernel_rfl⟩
instance:Zer A0 26 (.agg [.lit (.int .i64 (0)),.lit (.int .i64 (0)),.lit (.int .i64 (0)),.lit (.int .i64 (0)),.lit (.int .i64 (0)),.lit (.int .i64 (0)),.lit (.int .i64 (0)),.lit (.int .i64 (0)),.lit (.int .i64 (0))]):=⟨by kernel_rfl⟩
instance:Zer A0 41 (.agg [.lit (.int .i64 (0)),.lit (.int .i64 (0))]):=⟨by kernel_rfl⟩
instance:Bld A0 246 [.lit (.int .i64 (0)),.lit (.int .i64 (0)),.lit (.int .i64 (0))] [(0,1),(1,1),(2,1)]:=⟨by kernel_rfl⟩
instance:Bld A0 251 [.lit (.int .i64 (0)),.lit (.int .i64 (0)),.lit (.int .i64 (0)),.lit (.int .i64 (0))] [(0,3),(3,1)]:=⟨by kernel_rfl⟩
instance:Bld A0 249 [.lit (.int .i64 (0)),.lit (.int .i64 (0))] [(0,1),(1,1)]:=⟨by kernel_rfl⟩
instance:Bld A0 146 [.lit (.int .i64 (0)),.lit (.int .i64 (0))] [(0,1),(1,1)]:=⟨by kernel_rfl⟩
instance:Bld A0 150 [.lit (.int .i64 (0)),.lit (.int .i64 (0)),.lit (.int .i64 (0)),.lit (.int .i64 (0)),.lit (.int .i64 (0)),.lit (.int .i64 (0)),.lit (.int .i64 (0)),.lit (.int .i64 (0))] [(0,4),(4,4)]:=⟨by kernel_rfl⟩
instance:Bld A0 185 [.lit (.int .i64 (0)),.sl .ex [],.lit (.nilmap)] [(0,2),(2,1)]:=⟨by kernel_rfl⟩
instance:Bld A0 221 [.lit (.int .i64 (0)),.lit (.int .i64 (0))] [(0,1),(1,1)]:=⟨by kernel_rfl⟩
instance:Bld A0 189 [.lit (.int .i64 (0)),.lit (.nilfn)] [(0,1),(1,1)]:=⟨by kernel_rfl⟩
instance:Bld A0 90 [.lit (.int .i64 (0)),.sl .ex []] [(0,1),(1,1)]:=⟨by kernel_rfl⟩
instance:Bld A0 161 [.lit (.nilfn),.lit (.nilfn),.lit (.nilfn)] [(0,1),(1,1),(2,1)]:=⟨by kernel_rfl⟩
instance:Bld A0 148 [.lit (.int .i64 (0)),.lit (.int .i64 (0)),.lit (.int .i64 (0)),.lit (.int .i64 (0))] [(0,2),(2,2)]:=⟨by kernel_rfl⟩
instance:Bld A0 153 [.lit (.nilifc),.lit (.nilifc),.lit (.nilifc),.lit (.nilifc)] [(0,1),(1,1),(2,1),(3,1)]:=⟨by kernel_rfl⟩
instance:Bld A0 196 [] []:=⟨by kernel_rfl⟩
instance:Bld A0 133 [.lit (.nilfn)] [(0,1)]:=⟨by kernel_rfl⟩
instance:Bld A0 119 [.lit (.int .i64 (0)),.lit (.int .i64 (0))] [(0,1),(1,1)]:=⟨by kernel_rfl⟩
instance:Bld A0 115 [.lit (.nilfn),.lit (.nilfn),.lit (.nilfn)] [(0,1),(1,1),(2,1)]:=⟨by kernel_rfl⟩
instance:Bld A0 106 [.lit (.nilfn),.lit (.nilfn),.lit (.nilfn)] [(0,1),(1,1),(2,1)]:=⟨by kernel_rfl⟩
instance:Bld A0 97 [.lit (.nilfn),.lit (.nilfn),.lit (.nilfn)] [(0,1),(1,1),(2,1)]:=⟨by kernel_rfl⟩
instance:Bld A0 74 [.lit (.int .i64 (0)),.lit (.int .i64 (0))] [(0,1),(1,1)]:=⟨by kernel_rfl⟩
instance:Bld A0 78 [.lit (.int .i64 (0)),.lit (.int .i64 (0)),.lit (.int .i64 (0)),.lit (.int .i64 (0)),.lit (.int .i64 (0)),.lit (.int .i64 (0)),.lit (.int .i64 (0)),.lit (.int .i64 (0)),.lit (.int .i64 (0))] [(0,9)]:=⟨by kernel_rfl⟩
instance:Bld A0 26 [.lit (.int .i64 (0)),.lit (.int .i64 (0)),.lit (.int .i64 (0)),.lit (.int .i64 (0)),.lit (.int .i64 (0)),.lit (.int .i64 (0)),.lit (.int .i64 (0)),.lit (.int .i64 (0)),.lit (.int .i64 (0))] [(0,1),(1,8)]:=⟨by kernel_rfl⟩
instance:Bld A0 24 [.lit (.int .i64 (0)),.lit (.int .i64 (0)),.lit (.int .i64 (0)),.lit (.int .i64 (0)),.lit (.int .i64 (0)),.lit (.int .i64 (0)),.lit (.int .i64 (0)),.lit (.int .i64 (0))] [(0,4),(4,4)]:=⟨by kernel_rfl⟩
instance:Bld A0 23 [.lit (.int .i64 (0)),.lit (.int .i64 (0)),.lit (.int .i64 (0)),.lit (.int .i64 (0))] [(0,1),(1,1),(2,1),(3,1)]:=⟨by kernel_rfl⟩
instance:Bld A0 65 [.lit (.int .i64 (0)),.lit (.int .i64 (0)),.lit (.int .i64 (0)),.lit (.int .i64 (0))] [(0,2),(2,2)]:=⟨by kernel_rfl⟩
instance:Bld A0 67 [.lit (.int .i64 (0)),.lit (.int .i64 (0)),.lit (.int .i64 (0)),.lit (.int .i64 (0)),.lit (.int .i64 (0)),.lit (.int .i64 (0)),.lit (.int .i64 (0)),.lit (.int .i64 (0)),.lit (.int .i64 (0))] [(0,1),(1,4),(5,4)]:=⟨by kernel_rfl⟩
instance:Bld A0 60 [.lit (.int .i64 (0)),.sl .ex []] [(0,1),(1,1)]:=⟨by kernel_rfl⟩
instance:Bld A0 64 [.lit (.int .i64 (0)),.lit (.int .i64 (0))] [(0,1),(1,1)]:=⟨by kernel_rfl⟩
instance:Bld A0 41 [.lit (.int .i64 (0)),.lit (.int .i64 (0))] [(0,1),(1,1)]:=⟨by kernel_rfl⟩
instance:Con A0 251:=⟨by kernel_rfl⟩
instance:Con A0 246:=⟨by kernel_rfl⟩
instance:Con A0 9:=⟨by kernel_rfl⟩
instance:Con A0 198:=⟨by kernel_rfl⟩
instance:Con A0 196:=⟨by kernel_rfl⟩
instance:Con A0 30:=⟨by kernel_rfl⟩
instance:Ink A0 163 .u64:=⟨by kernel_rfl⟩
instance:Ink A0 45 .u16:=⟨by kernel_rfl⟩
instance:Ink A0 3 .i64:=⟨by kernel_rfl⟩
instance:Ink A0 5 .u8:=⟨by kernel_rfl⟩
instance:Bsl A0 240 [.lit (.nilifc)] false 1:=⟨by kernel_rfl⟩
instance:Bsl A0 242 [.lit (.nilfn)] false 1:=⟨by kernel_rfl⟩
instance:Bsl A0 216 [.lit (.int .i64 (0)),.lit (.int .i64 (0))] true 2:=⟨by kernel_rfl⟩
instance:Bsl A0 211 [.lit (.int .i64 (0)),.lit (.int .i64 (0))] true 2:=⟨by kernel_rfl⟩
instance:Bsl A0 206 [.lit (.int .i64 (0)),.sl .ex []] true 2:=⟨by kernel_rfl⟩
instance:Bsl A0 58 [.lit (.int .i64 (0)),.lit (.int .i64 (0)),.lit (.int .i64 (0)),.lit (.int .i64 (0)),.lit (.int .i64 (0)),.lit (.int .i64 (0)),.lit (.int .i64 (0)),.lit (.int .i64 (0)),.lit (.int .i64 (0))] true 9:=⟨by kernel_rfl⟩
instance:Bsl A0 48 [.sl .ex []] false 1:=⟨by kernel_rfl⟩
instance:Bsl A0 27 [.lit (.int .i64 (0))] false 1:=⟨by kernel_rfl⟩
instance:Mks A0 128 (.lit (.int .i64 (0))) 8:=⟨.int .i64 (0),by kernel_rfl,by kernel_rfl⟩
instance:Mks A0 27 (.lit (.int .i64 (0))) 8:=⟨.int .i64 (0),by kernel_rfl,by kernel_rfl⟩
instance:Ifc A0 20:=⟨by kernel_rfl⟩
end Go.Pv
namespace Go.Pv
open Go.Am Go.RowKit
theorem wrap_nat {k:IntKind} {p:Nat} (h:p < 2 ^ (k.bits - 1)):k.wrap (p:Int)=(p:Int):=by
 have hb:1≤k.bits:=by cases k<;>decide
 have h2:2 ^ (k.bits - 1) * 2=2 ^ k.bits:=by rw [← Nat.pow_succ];congr 1;omega
 unfold IntKind.wrap
 have e1:(p:Int) % (2 ^ k.bits:Int)=(p:Int):=by
  refine Int.emod_eq_of_lt (by omega) ?_
  have:((2 ^ k.bits:Nat):Int)=(2:Int) ^ k.bits:=by simp
  rw [← this]
  omega
 have e2:¬ ((p:Int) ≥ (2 ^ (k.bits - 1):Int)):=by
  have:((2 ^ (k.bits - 1):Nat):Int)=(2:Int) ^ (k.bits - 1):=by simp
  rw [← this]
  omega
 simp only [e1,ge_iff_le]
 rw [if_neg]
 simp only [Bool.and_eq_true,decide_eq_true_eq,not_and]
 exact fun _=>e2
theorem ofInt_nat {n p:Nat} (h:p < 2 ^ n):(BitVec.ofInt n (p:Int)).toNat=p:=by
 simp [BitVec.toNat_ofInt]
 exact Nat.mod_eq_of_lt h
theorem lt_bits {k:IntKind} {p:Nat} (h:p < 2 ^ (k.bits - 1)):p < 2 ^ k.bits :=
 Nat.lt_of_lt_of_le h (Nat.pow_le_pow_right (by decide) (Nat.sub_le _ _))
section
variable {C:Cx} {F:EQ} {X:EX} {k:List KI} {e:EL} {ds:List Nat} {h:PH} {K:PV→PH→Prop} {n:Nat} {l:HL}
variable {d:Option Tmp} {type:TypeId} {pos:String} {after:Array Edge} {guard:Option (Nat×Bool)}
theorem Ope.shrN {t t':TypeId} {x y:Operand} {kk kk':IntKind} {a b:Int} {p m:Nat} (hx:pev (lget e) x=some (.lit (.int kk a))) (hy:pev (lget e) y=some (.lit (.int kk' b))) (ha:a=(p:Int)) (hb:b=(m:Int)) (hm:m≤kk.bits) (hK:K (.lit (.int kk ((p >>> m:Nat):Int))) h) :
  Ope C X { dst:=d,op:=.binOp .shr t x y t',type,pos,after,guard } e ds h K:=by
 subst ha hb
 refine Ope.bin hx hy (v:=.lit (.int kk ((p >>> m:Nat):Int))) ?_ hK
 have h0:decide ((m:Int) < 0)=false:=by simp
 have e1:(p:Int).fdiv (2 ^ m)=((p >>> m:Nat):Int):=by
  rw [Int.fdiv_eq_ediv_of_nonneg _ (by exact Int.pow_nonneg (by decide)),Nat.shiftRight_eq_div_pow]
  simp
 simp only [abin,ashift,h0,plit,Int.toNat_natCast,Nat.min_eq_left hm,e1]
 rfl
theorem Ope.shlN {t t':TypeId} {x y:Operand} {kk':IntKind} {a b:Int} {p m:Nat} (hx:pev (lget e) x=some (I a)) (hy:pev (lget e) y=some (.lit (.int kk' b))) (ha:a=(p:Int)) (hb:b=(m:Int)) (hm:m≤64) (hp:p * 2 ^ m < 9223372036854775808) (hK:K (I ((p * 2 ^ m:Nat):Int)) h) :
  Ope C X { dst:=d,op:=.binOp .shl t x y t',type,pos,after,guard } e ds h K:=by
 subst ha hb
 refine Ope.bin hx hy (v:=I ((p * 2 ^ m:Nat):Int)) ?_ hK
 have h0:decide ((m:Int) < 0)=false:=by simp
 have e1:IntKind.i64.wrap ((p:Int) * 2 ^ m)=((p * 2 ^ m:Nat):Int):=by
  have:((p * 2 ^ m:Nat):Int)=(p:Int) * 2 ^ m:=by simp
  rw [← this]
  exact wrap_in _ (by omega) (by omega)
 have e2:Nat.min m IntKind.i64.bits=m:=Nat.min_eq_left hm
 simp only [abin,ashift,h0,plit,Int.toNat_natCast]
 rw [show min m IntKind.i64.bits=m from e2,e1]
 rfl
theorem Ope.andN {t t':TypeId} {x y:Operand} {kk:IntKind} {a b:Int} {p q:Nat} (hx:pev (lget e) x=some (.lit (.int kk a))) (hy:pev (lget e) y=some (.lit (.int kk b))) (ha:a=(p:Int)) (hb:b=(q:Int)) (hp:p < 2 ^ kk.bits) (hq:q < 2 ^ (kk.bits - 1)) (hK:K (.lit (.int kk ((p &&& q:Nat):Int))) h) :
  Ope C X { dst:=d,op:=.binOp .and t x y t',type,pos,after,guard } e ds h K:=by
 subst ha hb
 refine Ope.bin hx hy (v:=.lit (.int kk ((p &&& q:Nat):Int))) ?_ hK
 have hlt:p &&& q < 2 ^ (kk.bits - 1):=Nat.lt_of_le_of_lt Nat.and_le_right hq
 simp only [abin,aint,decide_true,plit,BitVec.toNat_and,ofInt_nat hp,ofInt_nat (lt_bits hq),wrap_nat hlt]
 rfl
theorem Ope.convN {s t:Nat} {x:Operand} {kk kk' ks:IntKind} {a:Int} {p:Nat} [hs:Ink C.A s ks] [ht:Ink C.A t kk] (hx:pev (lget e) x=some (.lit (.int kk' a))) (ha:a=(p:Int)) (hp:p < 2 ^ (kk.bits - 1)) (hK:K (.lit (.int kk (p:Int))) h) :
  Ope C X { dst:=d,op:=.convert s t x,type,pos,after,guard } e ds h K:=by
 subst ha
 exact Ope.conv hx (wrap_nat hp) hK
end
theorem and_one (p:Nat):p &&& 1=p % 2:=Nat.and_one_is_mod p
theorem and_one_lt (p:Nat):p &&& 1 < 2:=by rw [and_one];omega
end Go.Pv
