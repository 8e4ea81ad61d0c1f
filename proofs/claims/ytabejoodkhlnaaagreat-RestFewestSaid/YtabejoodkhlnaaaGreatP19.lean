/- Parts of the proof: T18, Pv47, T19, T20, T21, Pv48 -/
import Derived.Test.YtabejoodkhlnaaaGreatP18
import Derived.Test.YtabejoodkhlnaaaGreatP17
set_option linter.unusedVariables false
set_option linter.unusedSimpArgs false
namespace Go.Pv
open Go.Proofs Go.Am
set_option maxRecDepth 10000
def bs (p:Nat→Bool):Nat→Nat→Nat→Nat
  | 0,i,_=>i
  | f+1,i,j=>if i < j then (if p ((i+j) >>> 1)=true then bs p f i ((i+j) >>> 1) else bs p f ((i+j) >>> 1+1) j) else i
end Go.Pv
namespace Go.Pv
open Go.Am Go.RowKit
section
variable {C:Cx} {X:EX} {e:EL} {ds:List Nat} {h:PH} {K:PV→PH→Prop}
variable {d:Option Tmp} {type:TypeId} {pos:String} {after:Array Edge} {guard:Option (Nat×Bool)}
theorem Ope.neB {t t':TypeId} {x y:Operand} {a b:Bool} (hb:C.A.under t=some .bool) (hx:pev (lget e) x=some (B a)) (hy:pev (lget e) y=some (B b)) (hK:K (B (!(a == b))) h) :
  Ope C X { dst:=d,op:=.binOp .neq t x y t',type,pos,after,guard } e ds h K:=by
 refine Ope.quiet rfl ?_ hK
 have hn:pnil C.A t (B a) (B b)=none:=by simp only [pnil,hb]
 simp only [pquiet,hx,hy,pbin,PV.toAV,abin,aequal,aeqv,hb,bothNil,plit,PV.ofAV,hn]
end
end Go.Pv
namespace Go.Pv
open Go.Proofs Go.Am
set_option maxRecDepth 10000
end Go.Pv
namespace Go.Pv
open Go.Proofs Go.Am
set_option maxRecDepth 10000
end Go.Pv
namespace Go.Pv
open Go.Proofs Go.Am
set_option maxRecDepth 10000
theorem valid_iff {R:Rst}:validR R.m R.o0 R.t0 R.r0 R.f0 R.o1 R.t1 R.r1 R.f1=true↔R.m≤16∧R.o0 < 2 ^ R.m∧R.o1 < 2 ^ R.m∧(manyOk R.t0 && (manyOk R.r0 && manyOk R.f0))=true∧(manyOk R.t1 && (manyOk R.r1 && manyOk R.f1))=true:=by
  simp only [validR,limOk,Bool.and_eq_true,decide_eq_true_eq,Int.toNat_natCast,manyOk_iff]
  constructor
  · rintro ⟨⟨_, h1⟩, ⟨⟨_, h2⟩, h3⟩, ⟨_, h4⟩, h5⟩
    exact ⟨by omega,Int.ofNat_lt.1 h2,Int.ofNat_lt.1 h4,h3,h5⟩
  · rintro ⟨h1, h2, h3, h4, h5⟩
    exact ⟨⟨by omega,by omega⟩,⟨⟨by omega,Int.ofNat_lt.2 h2⟩,h4⟩,⟨by omega,Int.ofNat_lt.2 h3⟩,h5⟩
end Go.Pv
namespace Go.Pv
open Go.Am Go.RowKit
def loudsOf (M:Nat→Bool) (all:List Oper):List Nat:=(List.range all.length).filter (loudI M all)
def lexts (an:T Nat):Nat→List Nat→List (List Nat)
 |0,_=>[[]]
 |f+1,rem=>match rem with
  |[]=>[[]]
  |_=>rem.flatMap fun i=>match rem.all fun j=>Nat.beq i j || !((anc an i).testBit j) with
   |true=>(lexts an f (rem.filter fun j=>!(Nat.beq i j))).map (i::·)
   |false=>[]
def asapL (M:Nat→Bool) (an:T Nat) (all:List Oper):Nat→Nat→List Nat→List Nat
 |0,_,_=>[]
 |f+1,seen,lo=>match ready1 M an false seen all 0 with
  |some i=>i::asapL M an all f (Nat.lor seen (2 ^ i)) lo
  |none=>match lo with
   |[]=>[]
   |l::lo=>l::asapL M an all f (Nat.lor seen (2 ^ l)) lo
def ordLOk (M:Nat→Bool) (an:T Nat) (all:List Oper):Nat→Option Nat→List Nat→Bool
 |seen,_,[]=>Nat.beq seen (2 ^ all.length - 1)
 |seen,last,i::rest=>match Nat.blt i all.length && !seen.testBit i && Nat.beq (Nat.land (anc an i) seen) (anc an i) && (loudI M all i || (match last with
   |none=>true
   |some l=>(anc an i).testBit l)) with
  |true=>ordLOk M an all (Nat.lor seen (2 ^ i)) (match loudI M all i with
   |true=>some i
   |false=>last) rest
  |false=>false
def maskOf (M:Nat→Bool) (an:T Nat) (all:List Oper) (ord:List Nat) (i:Nat):Nat :=
 ((ord.takeWhile fun j=>!(Nat.beq i j)).filter (loudI M all)).foldl (fun m l=>Nat.lor (Nat.lor m (anc an l)) (2 ^ l)) (anc an i)
def anL (M:Nat→Bool) (an:T Nat) (all:List Oper) (ord:List Nat):T Nat:=T.ofList ((List.range all.length).map (maskOf M an all ord)) 0 .nil
def listEq:List Nat→List Nat→Bool
 |[],[]=>true
 |x::xs,y::ys=>Nat.beq x y && listEq xs ys
 |_,_=>false
theorem listEq_eq:∀ {xs ys:List Nat},listEq xs ys=true→xs=ys
 |[],[],_=>rfl
 |[],_::_,h=>by cases h
 |_::_,[],h=>by cases h
 |x::xs,y::ys,h=>by
  simp only [listEq,Bool.and_eq_true] at h
  rw [Nat.eq_of_beq_eq_true h.1,listEq_eq h.2]
def drw1 (M:Nat→Bool) (an:T Nat) (all:List Oper) (lo:List Nat):Option (List (Nat×Bool)) :=
 match ordLOk M an all 0 none (asapL M an all all.length 0 lo) && listEq ((asapL M an all all.length 0 lo).filter (loudI M all)) lo with
 |true=>flagK M (anL M an all (asapL M an all all.length 0 lo)) all (asapL M an all all.length 0 lo)
 |false=>none
def drwAll (M:Nat→Bool) (an:T Nat) (all:List Oper):List (List Nat)→Option (List (List (Nat×Bool)))
 |[]=>some []
 |lo::los=>match drw1 M an all lo with
  |some fl=>match drwAll M an all los with
   |some fls=>some (fl::fls)
   |none=>none
  |none=>none
def drwL (M:Nat→Bool) (ops:List Oper):Option (List (List (Nat×Bool))) :=
 match pstat M ops with
 |none=>none
 |some an=>drwAll M an ops (lexts an (loudsOf M ops).length (loudsOf M ops))
theorem drwAll_mem {M:Nat→Bool} {an:T Nat} {all:List Oper}:∀ {los:List (List Nat)} {fls:List (List (Nat×Bool))},drwAll M an all los=some fls→∀ lo∈los,∃ fl∈fls,drw1 M an all lo=some fl
 |[],_,_,lo,hl=>by cases hl
 |x::los,fls,h,lo,hl=>by
  simp only [drwAll] at h
  split at h
  case h_2=>cases h
  next fl hfl =>
  split at h
  case h_2=>cases h
  next fls' hfls =>
  cases h
  rcases List.mem_cons.1 hl with rfl | hl
  ·exact ⟨fl,List.mem_cons_self ..,hfl⟩
  ·obtain ⟨g,g1,g2⟩:=drwAll_mem hfls lo hl
   exact ⟨g,List.mem_cons_of_mem _ g1,g2⟩
theorem lexts_mem {an:T Nat}:∀ (f:Nat) (rem lo:List Nat),rem.length≤f→lo.Nodup→(∀ i,i∈lo↔i∈rem)→(∀ a i c,lo=a++i::c→∀ j∈lo,(anc an i).testBit j=true→j≠i→j∈a)→lo∈lexts an f rem
 |0,rem,lo,hf,hn,hm,ho=>by
  have:rem=[]:=List.eq_nil_of_length_eq_zero (by omega)
  subst this
  cases lo with
  |nil=>simp [lexts]
  |cons x xs=>exact absurd ((hm x).1 (by simp)) (by simp)
 |f + 1, rem, lo, hf, hn, hm, ho => by
  cases rem with
  |nil =>
   cases lo with
   |nil=>simp [lexts]
   |cons x xs=>exact absurd ((hm x).1 (by simp)) (by simp)
  |cons r rs =>
   cases lo with
   |nil=>exact absurd ((hm r).2 (by simp)) (by simp)
   |cons x xs =>
    have hx:x∈r::rs:=(hm x).1 (by simp)
    have hxn:x ∉ xs:=(List.nodup_cons.1 hn).1
    simp only [lexts]
    refine List.mem_flatMap.2 ⟨x,hx,?_⟩
    have hall:((r::rs).all fun j=>Nat.beq x j || !((anc an x).testBit j))=true:=by
     refine List.all_eq_true.2 fun j hj=>?_
     by_cases hxj:x=j
     ·subst hxj;simp
     ·cases hb:(anc an x).testBit j with
      |false=>simp
      |true =>
       have:=ho [] x xs rfl j ((hm j).2 hj) hb (fun e=>hxj e.symm)
       cases this
    rw [hall]
    refine List.mem_map.2 ⟨xs,?_,rfl⟩
    have hbeq:∀ j,(!(Nat.beq x j))=true↔j≠x:=fun j=>by
     rw [Bool.not_eq_true']
     constructor
     ·intro h e;subst e;simp at h
     ·intro h
      cases hb:Nat.beq x j with
      |false=>rfl
      |true=>exact absurd (Nat.eq_of_beq_eq_true hb).symm h
    refine lexts_mem f _ xs ?_ (List.nodup_cons.1 hn).2 (fun i=>?_) (fun a i c e j hj hb hji=>?_)
    ·have h1:((r::rs).filter fun j=>!(Nat.beq x j)).length < (r::rs).length:=by
      refine List.length_filter_lt_length_iff_exists.2 ⟨x,hx,?_⟩
      simp
     omega
    ·rw [List.mem_filter,hbeq,← hm i]
     constructor
     ·intro hi
      exact ⟨List.mem_cons_of_mem _ hi,fun e=>hxn (by rw [← e];exact hi)⟩
     ·rintro ⟨hi,hne⟩
      rcases List.mem_cons.1 hi with rfl | hi
      ·exact absurd rfl hne
      ·exact hi
    ·have:=ho (x::a) i c (by rw [e];rfl) j (List.mem_cons_of_mem _ hj) hb hji
     rcases List.mem_cons.1 this with rfl | h
     ·exact absurd hj hxn
     ·exact h
structure OrdL (M:Nat→Bool) (an:T Nat) (all:List Oper) (ord:List Nat):Prop where
 at_:∀ a i c,ord=a++i::c→i < all.length∧i ∉ a∧(∀ j,(anc an i).testBit j=true→j∈a)∧(loudI M all i=false→∀ a1 l a2,a=a1++l::a2→loudI M all l=true→(∀ x∈a2,loudI M all x=false)→(anc an i).testBit l=true)
 mem:∀ i,i < all.length→i∈ord
theorem ordLOk_spec {M:Nat→Bool} {an:T Nat} {all:List Oper}:∀ (rest a:List Nat) (seen:Nat) (last:Option Nat),ordLOk M an all seen last rest=true→(∀ j,seen.testBit j=true↔j∈a) →
  (∀ a1 l a2,a=a1++l::a2→loudI M all l=true→(∀ x∈a2,loudI M all x=false)→last=some l) →
  (∀ b i c,rest=b++i::c→i < all.length∧i ∉ a++b∧(∀ j,(anc an i).testBit j=true→j∈a++b)∧(loudI M all i=false→∀ a1 l a2,a++b=a1++l::a2→loudI M all l=true→(∀ x∈a2,loudI M all x=false)→(anc an i).testBit l=true))∧∀ i,i < all.length→i∈a++rest
 |[],a,seen,last,h,h1,h2=>by
  refine ⟨fun b i c e=>by simp at e,fun i hi=>?_⟩
  simp only [ordLOk] at h
  have h:=Nat.eq_of_beq_eq_true h
  rw [List.append_nil,← h1,h,Nat.testBit_two_pow_sub_one]
  simpa using hi
 |x :: rest, a, seen, last, h, h1, h2 => by
  simp only [ordLOk] at h
  split at h
  case h_2=>cases h
  next hx =>
  simp only [Bool.and_eq_true,Bool.not_eq_true',Bool.or_eq_true] at hx
  obtain ⟨⟨⟨x1,x2⟩,x3⟩,x4⟩:=hx
  have hxa:x ∉ a:=fun hc=>by rw [(h1 x).2 hc] at x2;cases x2
  have hlast:∀ a1 l a2,a++[x]=a1++l::a2→loudI M all l=true→(∀ y∈a2,loudI M all y=false)→(match loudI M all x with
    |true=>some x
    |false=>last)=some l:=by
   intro a1 l a2 e hl hq
   rcases List.eq_nil_or_concat a2 with rfl | ⟨a2',y,rfl⟩
   ·obtain ⟨rfl,e2⟩:=List.append_inj' e rfl
    cases e2
    rw [hl]
   ·rw [List.concat_eq_append,← List.cons_append,← List.append_assoc] at e
    obtain ⟨e1,e2⟩:=List.append_inj' e rfl
    cases e2
    have hxq:=hq x (by simp)
    rw [hxq]
    exact h2 a1 l a2' e1 hl fun y hy=>hq y (by simp [hy])
  obtain ⟨p1,p2⟩:=ordLOk_spec rest (a++[x]) _ _ h
   (fun j => by
    rw [bit_lor,Bool.or_eq_true,h1,decide_eq_true_eq,List.mem_append,List.mem_singleton]
    exact ⟨fun h=>h.imp id Eq.symm,fun h=>h.imp id Eq.symm⟩) hlast
  refine ⟨fun b i c e=>?_,fun i hi=>by have:=p2 i hi;rwa [List.append_assoc,List.singleton_append] at this⟩
  cases b with
  |nil =>
   simp only [List.nil_append,List.cons.injEq] at e
   obtain ⟨rfl,rfl⟩:=e
   rw [List.append_nil]
   refine ⟨(T.blt_iff _ _).1 x1,hxa,fun j hj=>(h1 j).1 (land_sub x3 hj),fun hq a1 l a2 e hl hq2=>?_⟩
   have:=h2 a1 l a2 e hl hq2
   rw [this,hq] at x4
   simpa using x4
  |cons y b =>
   simp only [List.cons_append,List.cons.injEq] at e
   obtain ⟨rfl,rfl⟩:=e
   have:=p1 b i c rfl
   rwa [List.append_assoc,List.singleton_append] at this
theorem ordL_of {M:Nat→Bool} {an:T Nat} {all:List Oper} {ord:List Nat} (h:ordLOk M an all 0 none ord=true):OrdL M an all ord:=by
 obtain ⟨p1,p2⟩:=ordLOk_spec ord [] 0 none h (fun j=>by simp) (fun a1 l a2 e=>by simp at e)
 exact ⟨fun a i c e=>by simpa using p1 a i c e,fun i hi=>by simpa using p2 i hi⟩
theorem takeWhile_before {i:Nat}:∀ {a c:List Nat},i ∉ a→(a++i::c).takeWhile (fun j=>!(Nat.beq i j))=a
 |[],c,_=>by simp
 |x::a,c,h=>by
  have hne:i≠x:=fun e=>h (by simp [e])
  have hb:Nat.beq i x=false:=by
   cases hb:Nat.beq i x with
   |false=>rfl
   |true=>exact absurd (Nat.eq_of_beq_eq_true hb) hne
  simp only [List.cons_append,List.takeWhile_cons,hb,Bool.not_false,if_true]
  rw [takeWhile_before fun h'=>h (List.mem_cons_of_mem _ h')]
theorem bit_fold (an:T Nat) (j:Nat):∀ (ls:List Nat) (m:Nat),(ls.foldl (fun m l=>Nat.lor (Nat.lor m (anc an l)) (2 ^ l)) m).testBit j=true↔m.testBit j=true∨∃ l∈ls,j=l∨(anc an l).testBit j=true
 |[],m=>by simp
 |l::ls,m=>by
  simp only [List.foldl_cons]
  rw [bit_fold an j ls,bit_lor]
  have e:(Nat.lor m (anc an l)).testBit j=(m.testBit j || (anc an l).testBit j):=Nat.testBit_or ..
  rw [e]
  simp only [Bool.or_eq_true,decide_eq_true_eq,List.mem_cons,exists_eq_or_imp]
  constructor
  ·rintro (((h | h) | h) | h)
   ·exact .inl h
   ·exact .inr (.inl (.inr h))
   ·exact .inr (.inl (.inl h.symm))
   ·exact .inr (.inr h)
  ·rintro (h | (h | h) | h)
   ·exact .inl (.inl (.inl h))
   ·exact .inl (.inr h.symm)
   ·exact .inl (.inl (.inr h))
   ·exact .inr h
theorem anL_bit {M:Nat→Bool} {an:T Nat} {all:List Oper} {ord a c:List Nat} {i j:Nat} (hi:i < all.length) (he:ord=a++i::c) (hia:i ∉ a) :
  (anc (anL M an all ord) i).testBit j=true↔(anc an i).testBit j=true∨∃ l∈a,loudI M all l=true∧(j=l∨(anc an l).testBit j=true):=by
 have hget:(anL M an all ord).get i=some (maskOf M an all ord i):=by
  unfold anL
  rw [T.get_ofList]
  simp [hi]
 have hm:anc (anL M an all ord) i=maskOf M an all ord i:=by unfold anc;rw [hget];rfl
 rw [hm]
 unfold maskOf
 rw [he,takeWhile_before hia,bit_fold]
 simp only [List.mem_filter]
 constructor
 ·rintro (h | ⟨l,⟨h1,h2⟩,h3⟩)
  ·exact .inl h
  ·exact .inr ⟨l,h1,h2,h3⟩
 ·rintro (h | ⟨l,h1,h2,h3⟩)
  ·exact .inl h
  ·exact .inr ⟨l,⟨h1,h2⟩,h3⟩
theorem OrdL.split {M:Nat→Bool} {an:T Nat} {all:List Oper} {ord:List Nat} (hO:OrdL M an all ord) {i:Nat} (hi:i < all.length):∃ a c,ord=a++i::c∧i ∉ a:=by
 obtain ⟨a,c,e⟩:=List.append_of_mem (hO.mem i hi)
 exact ⟨a,c,e,(hO.at_ a i c e).2.1⟩
theorem loudAt_I {M:Nat→Bool} {all:List Oper} {i:Nat}:loudAt M all i=loudI M all i:=by
 unfold loudAt loudI
 rw [nthK_eq]
 cases all[i]?<;>rfl
theorem OrdL.ord {M:Nat→Bool} {an:T Nat} {all:List Oper} {ord:List Nat} (hO:OrdL M an all ord):Ord M (anL M an all ord) all ord:=by
 refine ⟨fun a i c e=>?_,hO.mem⟩
 obtain ⟨h1,h2,h3,h4⟩:=hO.at_ a i c e
 refine ⟨h1,h2,fun j hj=>?_,fun l hl hll=>?_⟩
 ·rcases (anL_bit h1 e h2).1 hj with h | ⟨l,g1,g2,rfl | g3⟩
  ·exact h3 j h
  ·exact g1
  ·obtain ⟨a1,a2,rfl⟩:=List.append_of_mem g1
   have:=(hO.at_ a1 l (a2++i::c) (by rw [e];simp)).2.2.1 j g3
   exact List.mem_append_left _ this
 ·rw [loudAt_I] at hll
  exact (anL_bit h1 e h2).2 (.inr ⟨l,hl,hll,.inl rfl⟩)
theorem OrdL.stat {M:Nat→Bool} {an:T Nat} {all:List Oper} {ord:List Nat} (hO:OrdL M an all ord) (hS:PStat M all an):PStat M all (anL M an all ord):=by
 refine ⟨hS.dst,fun i j o o' d h1 h2 h3 h4=>?_⟩
 have hi:i < all.length:=(List.getElem?_eq_some_iff.1 h1).1
 have hj:j < all.length:=(List.getElem?_eq_some_iff.1 h2).1
 obtain ⟨a,c,e,hia⟩:=hO.split hi
 obtain ⟨a',c',e',hja⟩:=hO.split hj
 exact (hS.look i j o o' d h1 h2 h3 h4).imp (fun h=>(anL_bit hi e hia).2 (.inl h)) fun h=>⟨h.1,(anL_bit hj e' hja).2 (.inl h.2)⟩
end Go.Pv
