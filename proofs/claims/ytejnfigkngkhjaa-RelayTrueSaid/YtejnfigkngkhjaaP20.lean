/- Parts of the proof: R90, R91, R92 -/
import Derived.Test.YtejnfigkngkhjaaP19
set_option linter.unusedVariables false
set_option linter.unusedSimpArgs false
namespace Go.Pv
open Go.Proofs Go.Am
set_option maxRecDepth 10000
structure Tru (rest:Int) (ons offs:List Int) (S:List Sti):Prop where
  l1:ons.length=S.length
  l2:offs.length=S.length
  each:∀ k s,S[k]?=some s→(s.r=0∨s.r=1)∧(0≤ons.getD k 0∧ons.getD k 0+1≤offs.getD k 0∧offs.getD k 0≤600)∧Arnd (ons.getD k 0) s.a s.b∧Arnd (ons.getD k 0) s.c s.d∧Arnd (offs.getD k 0) s.e s.f∧Arnd (offs.getD k 0) s.g s.h
  next:∀ k,k+1 < S.length→ons.getD k 0+1≤ons.getD (k+1) 0
  rst:∀ k s f,S[k]?=some s→frm S s.r k=some f→offs.getD f 0+rest≤ons.getD k 0
theorem frm_app (S:List Sti) (s:Sti) (r:Int):∀ k,k≤S.length→frm (S++[s]) r k=frm S r k
  | 0,_=>rfl
  | k + 1, h => by
    have e:((S++[s]).map Sti.r)[k]?=(S.map Sti.r)[k]?:=by
      rw [List.map_append,List.getElem?_append_left (by rw [List.length_map];omega)]
    simp only [frm,e,frm_app S s r k (by omega)]
theorem getD_app {l:List Int} {x d:Int} {k:Nat} (h:k < l.length):(l++[x]).getD k d=l.getD k d:=by
  simp [List.getD,List.getElem?_append_left h]
theorem getD_end {l:List Int} {x d:Int}:(l++[x]).getD l.length d=x:=by simp [List.getD]
def lastI (S:List Sti) (r:Int):Int :=
  match frm S r S.length with
  | some f=>(f:Int)
  | none=>-1
theorem lastI_app (S:List Sti) (s:Sti) (r:Int):lastI (S++[s]) r=if s.r=r then (S.length:Int) else lastI S r:=by
  have e:((S++[s]).map Sti.r)[S.length]?=some s.r:=by
    rw [List.map_append,List.getElem?_append_right (by rw [List.length_map];exact Nat.le_refl _),List.length_map,Nat.sub_self];rfl
  unfold lastI
  simp only [List.length_append,List.length_cons,List.length_nil,Nat.zero_add,frm,e,Option.some.injEq]
  by_cases h:s.r=r
  · simp only [if_pos h]
  · simp only [if_neg h]
    rw [frm_app S s r S.length (Nat.le_refl _)]
theorem Tru.nil (rest:Int):Tru rest [] [] []:=⟨rfl,rfl,fun k s h=>by simp at h,fun k h=>absurd h (Nat.not_lt_zero _),fun k s f h=>by simp at h⟩
theorem Tru.step {rest : Int} {ons offs : List Int} {S : List Sti} (h : Tru rest ons offs S) {now off : Int} {s : Sti} (hr : s.r = 0 ∨ s.r = 1) (h0 : 0 ≤ now) (h1 : now + 1 ≤ off) (h2 : off ≤ 600) (ha : Arnd now s.a s.b) (hb : Arnd now s.c s.d) (hc : Arnd off s.e s.f) (hd : Arnd off s.g s.h)
    (hn:∀ q,q+1=S.length→ons.getD q 0+1≤now) (hf:∀ f,frm S s.r S.length=some f→offs.getD f 0+rest≤now):Tru rest (ons++[now]) (offs++[off]) (S++[s]):=by
  have e1:=h.l1
  have e2:=h.l2
  have at_end:∀ k t,(S++[s])[k]?=some t→k < S.length∧S[k]?=some t∨k=S.length∧t=s:=by
    intro k t ht
    by_cases hk:k < S.length
    · rw [List.getElem?_append_left hk] at ht;exact .inl ⟨hk,ht⟩
    · rw [List.getElem?_append_right (by omega)] at ht
      by_cases hks:k=S.length
      · subst hks
        rw [Nat.sub_self] at ht
        exact .inr ⟨rfl,by simpa using ht.symm⟩
      · rw [List.getElem?_eq_none (by simp;omega)] at ht;cases ht
  refine ⟨by simp [e1],by simp [e2],fun k t ht=>?_,fun k hk=>?_,fun k t f ht htf=>?_⟩
  · rcases at_end k t ht with ⟨hk, ht⟩ | ⟨rfl, rfl⟩
    · rw [getD_app (by omega),getD_app (by omega)];exact h.each k t ht
    · rw [← e1, getD_end, show ons.length = offs.length by omega, getD_end]
      exact ⟨hr,⟨h0,h1,h2⟩,ha,hb,hc,hd⟩
  · simp only [List.length_append, List.length_cons, List.length_nil] at hk
    rw [getD_app (by omega)]
    by_cases hk1:k+1 < S.length
    · rw [getD_app (by omega)];exact h.next k hk1
    · have hke : k + 1 = S.length := by omega
      rw [hke,← e1,getD_end]
      exact hn k hke
  · rcases at_end k t ht with ⟨hk, ht⟩ | ⟨rfl, rfl⟩
    · rw [frm_app _ _ _ _ (by omega)] at htf
      have:=frm_lt _ _ _ _ htf
      rw [getD_app (by omega),getD_app (by omega)]
      exact h.rst k t f ht htf
    · rw [frm_app _ _ _ _ (Nat.le_refl _)] at htf
      have:=frm_lt _ _ _ _ htf
      rw [getD_app (by omega),← e1,getD_end]
      exact hf f htf
structure MS where
  i:Nat
  m:Nat
  o1:Option Nat
  o2:Option Nat
  o3:Option Nat
  ons:List Int
  offs:List Int
  S:List Sti
  now:Int
  l0:Int
  l1:Int
  l:HL
def ownOk (o:Option Nat) (i m:Nat) (l:HL):Prop:=(i=0→o=none)∧∀ j,o=some j→3 < j∧j < m∧hget l j=some .own∧i≠0
structure MI (rest:Int) (c:Nat) (s:MS):Prop where
  hi:s.i≤c
  len:s.S.length=s.i
  tru:Tru rest s.ons s.offs s.S
  now0:0≤s.now∧s.now≤9+51 * s.i
  nowN:∀ q,q+1=s.S.length→s.ons.getD q 0+1≤s.now
  offB:∀ x∈s.offs,x≤9+51 * s.i
  last0:s.l0=lastI s.S 0
  last1:s.l1=lastI s.S 1
  h0:hget s.l 0=some (.cells [I rest,.sl (tlU s.o3) (s.S.map Sti.v)])
  h1:hget s.l 1=some (.cells [I ((3+11 * s.i:Nat):Int)])
  h3:hget s.l 3=some (.cells [I s.l0,I s.l1])
  m3:3 < s.m
  w1:ownOk s.o1 s.i s.m s.l
  w2:ownOk s.o2 s.i s.m s.l
  w3:ownOk s.o3 s.i s.m s.l
  d12:∀ j,s.o1=some j→s.o2≠some j
  d13:∀ j,s.o1=some j→s.o3≠some j
  d23:∀ j,s.o2=some j→s.o3≠some j
theorem two_ptr (i o:Nat):∀ m,m < 2→indexK 2 false 1 m (.ptr i o)=some (.ptr i (o+m))
  | 0,_=>rfl | 1,_=>rfl
  | _+2,h=>absurd h (by omega)
def two (x y:Int) (d:Nat):Int:=if d=0 then x else y
theorem two_load {l:HL} {x y:Int} (h:hget l 3=some (.cells [I x,I y])):∀ d,d < 2→loadK false 1 l (.ptr 3 (0+d))=some (I (two x y d))
  | 0,_=>by simp only [loadK,h];rfl
  | 1,_=>by simp only [loadK,h];rfl
  | _+2,h=>absurd h (by omega)
theorem two_put (x y v:Int):∀ d,d < 2→putK (0+d) [I v] [I x,I y] some=some [I (if d=0 then v else x),I (if d=0 then y else v)]
  | 0,_=>rfl | 1,_=>rfl
  | _+2,h=>absurd h (by omega)
theorem hsub_ownU {o:Option Nat} {l:HL} (h:∀ j,o=some j→hget l j=some .own):Hsub (ownU o) l:=by
  cases o with
  | none=>trivial
  | some j=>exact ⟨h j rfl,trivial⟩
theorem bdsI0:∀ xs:List Int,PV.bds 0 (xs.map I)=true
  | []=>rfl
  | x :: xs => by
    simp only [List.map_cons,PV.bds,bdsI0 xs,Bool.and_true]
    rfl
theorem bdsS0 (S:List Sti):PV.bds 0 (S.map Sti.v)=true:=bds_map (f:=Sti.v) (fun _=>rfl) S
theorem f30 (xs : List Nat) (hx : Dwn xs) : PFun P0 30 [.sl .no (xs.map U16)] (fun v => ∃ rest S ons offs, (0 ≤ rest ∧ rest ≤ 11) ∧ S.length ≤ 5 ∧ Tru rest ons offs S ∧ v = .tup [relV rest .no S, .sl .no (ons.map I), .sl .no (offs.map I)]) fun _ => False := by
  have hdr:=fun (n:Nat) hn (k':Nat) (hk':k'≤100000) (m':Nat) (l':HL) hl'=>f75 xs hx n hn k' hk' m' l' hl'
  have har:=fun (n:Int) hn (k':Nat) (hk':k'≤90000) (m':Nat) (hm':1 < m') (l':HL) hl'=>f76 xs hx n hn k' hk' m' hm' l' hl'
  refine PFun.of (C:=c30) (cx_ok _ _ _) rfl (fn:=Try.f30) (by kernel_rfl) (c:=_) rfl rfl rfl ?_
  refine Run.seq (Run.region (cx_ok _ _ _) (Reg.op rfl (Ope.boxF rfl rfl ?_)))
  refine Reg.op rfl (Ope.newL rfl ?_)
  refine Reg.op rfl (Ope.asg rfl ?_)
  refine Reg.op rfl (Ope.asg rfl ?_)
  refine Reg.nil (Run.seq (Run.region (cx_ok _ _ _) (Reg.op rfl (Ope.newL rfl ?_))))
  refine Reg.op0 (Ope.store rfl rfl rfl rfl rfl rfl ?_)
  refine Reg.nil (Run.seq (Run.region (cx_ok _ _ _) (Reg.op rfl (Ope.mkf rfl rfl ?_))))
  refine Reg.op rfl (Ope.newL rfl ?_)
  refine Reg.op0 (Ope.store rfl rfl rfl rfl rfl rfl ?_)
  refine Reg.nil (Run.seq (Run.frz (d:=6) false rfl hget_hd rfl ?_))
  refine Run.region (cx_ok _ _ _) (Reg.op rfl (Ope.mkf rfl rfl ?_))
  refine Reg.op rfl (Ope.asg rfl ?_)
  refine Reg.nil (Run.seq (Run.region (cx_ok _ _ _) (Reg.op rfl (Ope.load rfl rfl ?_))))
  refine Reg.op rfl (Ope.call rfl rfl rfl ((hdr 12 (by decide) 0 (by decide) _ _ rfl).mono (fun v h' q=>?_) fun _ _ q=>q.elim))
  obtain ⟨rs,hrs,rfl,rfl⟩:=q
  refine Reg.op rfl (Ope.fld rfl rfl ?_)
  refine Reg.op0 (Ope.store rfl rfl rfl rfl rfl rfl ?_)
  refine Reg.nil (Run.seq (Run.region (cx_ok _ _ _) (Reg.op rfl (Ope.bld rfl rfl ?_))))
  refine Reg.op rfl (Ope.newL rfl ?_)
  refine Reg.op0 (Ope.store rfl rfl rfl rfl rfl rfl ?_)
  refine Reg.nil (Run.seq (Run.region (cx_ok _ _ _) (Reg.op rfl (Ope.load rfl rfl ?_))))
  refine Reg.op rfl (Ope.call rfl rfl rfl ((hdr 10 (by decide) 1 (by decide) _ _ rfl).mono (fun v h' q=>?_) fun _ _ q=>q.elim))
  obtain ⟨nw,hnw,rfl,rfl⟩:=q
  refine Reg.op rfl (Ope.asg rfl ?_)
  refine Reg.nil (Run.seq (Run.seq (Run.region (cx_ok _ _ _) (Reg.op rfl (Ope.load rfl rfl ?_)))))
  refine Reg.op rfl (Ope.call rfl rfl rfl ((hdr 6 (by decide) 2 (by decide) _ _ rfl).mono (fun v h' q=>?_) fun _ _ q=>q.elim))
  obtain ⟨c,hc6,rfl,rfl⟩:=q
  refine Reg.op rfl (Ope.mov rfl ?_)
  refine Reg.nil (Run.block (Run.wide (m:=4) (l':=[(0,some (.cells [I rs,.sl .ex []])),(1,some (.cells [I 3])),(3,some (.cells [I (-1),I (-1)]))]) (Nat.le_refl _) ⟨rfl,rfl,rfl,trivial⟩ ?_))
  refine Run.loop (α:=MS) (fun s=>[(2,.ptr 0 0),(3,.sl (tlU s.o1) (s.ons.map I)),(4,.sl (tlU s.o2) (s.offs.map I)),(6,.fp (drwV xs)),(7,.fn (.func 76) [] [.fp (drwV xs)]),(8,.ptr 3 0),(9,I s.now),(21,I c),(22,I s.i)]) (fun s=>HE s.m s.l) (MI rs c) (fun s=>c - s.i) ⟨0,4,none,none,none,[],[],[],nw,-1,-1,[(0,some (.cells [I rs,.sl .ex []])),(1,some (.cells [I 3])),(3,some (.cells [I (-1),I (-1)]))]⟩ ⟨rfl,rfl,rfl,rfl,rfl,rfl,rfl,rfl,rfl,trivial⟩ rfl
    ⟨Nat.zero_le _,rfl,Tru.nil _,⟨by show (0:Int)≤nw;omega,by show (nw:Int)≤9+51 * ((0:Nat):Int);omega⟩,(fun q hq=>by cases hq),(fun x hx=>by cases hx),rfl,rfl,rfl,rfl,rfl,by show 3 < 4;decide,⟨fun _=>rfl,(fun j hj=>by cases hj)⟩,⟨fun _=>rfl,(fun j hj=>by cases hj)⟩,⟨fun _=>rfl,(fun j hj=>by cases hj)⟩,(fun j hj=>by cases hj),(fun j hj=>by cases hj),(fun j hj=>by cases hj)⟩ (fun s hs=>?_)
  obtain ⟨i,m,o1,o2,o3,ons,offs,S,now,l0,l1,l⟩:=s
  obtain ⟨hi,len,tru,⟨now0,now1⟩,nowN,offB,last0,last1,h0,h1,h3,m3,w1,w2,w3,d12,d13,d23⟩:=hs
  simp only at hi len tru now0 now1 nowN offB last0 last1 h0 h1 h3 m3 w1 w2 w3 d12 d13 d23
  show Run _ _ _ _ [(2,.ptr 0 0),(3,.sl (tlU o1) (ons.map I)),(4,.sl (tlU o2) (offs.map I)),(6,.fp (drwV xs)),(7,.fn (.func 76) [] [.fp (drwV xs)]),(8,.ptr 3 0),(9,I now),(21,I c),(22,I i)] [] (HE m l)
  refine Run.seq (Run.region (cx_ok _ _ _) (Reg.op rfl (Ope.lt rfl rfl ?_)))
  refine Reg.nil (Run.seq (Run.condX rfl (fun hc=>?_) fun hc=>?_))
  ·refine Run.skip (Run.seq (Run.block (Run.seq ?_)))
   have hlt:i < c:=by omega
   have wB1:∀ j,o1=some j→3 < j∧j < m:=fun j hj=>⟨(w1.2 j hj).1,(w1.2 j hj).2.1⟩
   have wB2:∀ j,o2=some j→3 < j∧j < m:=fun j hj=>⟨(w2.2 j hj).1,(w2.2 j hj).2.1⟩
   have wB3:∀ j,o3=some j→3 < j∧j < m:=fun j hj=>⟨(w3.2 j hj).1,(w3.2 j hj).2.1⟩
   have e1:=tru.l1
   have e2:=tru.l2
   refine Run.region (cx_ok _ _ _) (Reg.op rfl (Ope.load rfl rfl ?_))
   refine Reg.op rfl (Ope.call rfl rfl rfl ((hdr 2 (by decide) _ (by omega) _ _ h1).mono (fun v h' q=>?_) fun _ _ q=>q.elim))
   obtain ⟨d,hd,rfl,rfl⟩:=q
   refine Reg.op rfl (Ope.bld rfl rfl ?_)
   refine Reg.op rfl (Ope.newL rfl ?_)
   refine Reg.op0 (Ope.store rfl rfl hget_hd rfl rfl rfl ?_)
   refine Reg.nil (Run.seq (Run.seq (Run.wideS (m:=m+1) (l':=(m,some (.cells [I d,I 0,I 0,I 0,I 0,I 0,I 0,I 0,I 0]))::(1,some (.cells [I ((3+11 * i+1:Nat):Int)]))::l) (Nat.le_refl _) hs_shadow ?_)))
   have hlst:two l0 l1 d=lastI S (d:Int):=by
     rcases (by omega:d=0∨d=1) with rfl | rfl
     · exact last0
     · exact last1
   refine Run.region (cx_ok _ _ _) (Reg.op rfl (Ope.fld rfl rfl ?_))
   refine Reg.op rfl (Ope.loadH rfl hget_hd rfl ?_)
   refine Reg.op rfl (Ope.idxA (m:=d) rfl rfl rfl (two_ptr 3 0 d hd) ?_)
   refine Reg.op rfl (Ope.load rfl (two_load (by repeat (first | exact h3 | refine (hget_tl (by omega)).trans ?_ | refine (killU_at (o:=o1) (fun j hj=>by have:=wB1 j hj;omega)).trans ?_ | refine (killU_at (o:=o2) (fun j hj=>by have:=wB2 j hj;omega)).trans ?_ | refine (killU_at (o:=o3) (fun j hj=>by have:=wB3 j hj;omega)).trans ?_)) d hd) ?_)
   refine Reg.op rfl (Ope.asg rfl ?_)
   refine Reg.nil (Run.seq (Run.region (cx_ok _ _ _) (Reg.op rfl (Ope.mov rfl ?_))))
   refine Reg.op rfl (Ope.ge rfl rfl ?_)
   refine Reg.nil (Run.condX rfl (fun hc=>?_) fun hc=>?_)
   ·obtain ⟨f, hf, hfe⟩ : ∃ f, frm S (d : Int) S.length = some f ∧ two l0 l1 d = (f : Int) := by
      cases hfm:frm S (d:Int) S.length with
      | none =>
        rw [hlst] at hc
        unfold lastI at hc
        rw [hfm] at hc
        exact absurd hc (by decide)
      | some f =>
        refine ⟨f,rfl,?_⟩
        rw [hlst];unfold lastI;rw [hfm]
    have hfS:=frm_lt _ _ _ _ hf
    have hfo:f < offs.length:=by omega
    have hob:=offB _ (List.getElem_mem hfo)
    have hog:offs.getD f 0=offs[f]:=by simp [List.getD,hfo]
    have ho0:0≤offs[f]:=by
      have h:=tru.each f S[f] (List.getElem?_eq_getElem hfS)
      rw [hog] at h
      omega
    rw [hfe]
    refine Run.draw (cx_ok _ _ _) [(0,true),(1,true),(2,true),(3,true),(4,true),(5,true),(6,true),(7,true),(8,true),(9,true)] (by kernel_rfl) (Dra.op' rfl rfl rfl .sure (Ope.mov rfl ?_))
    refine Dra.op' rfl rfl rfl .sure (Ope.mov rfl ?_)
    refine Dra.op' rfl rfl rfl .sure (Ope.mov rfl ?_)
    refine Dra.op' rfl rfl rfl .sure (Ope.idxM (m:=f) (f:=I) rfl rfl rfl hfo (fun _=>rfl) ?_)
    refine Dra.op' rfl rfl rfl .sure (Ope.load rfl rfl ?_)
    refine Dra.op' rfl rfl rfl .sure (Ope.fld rfl rfl ?_)
    refine Dra.op' rfl rfl rfl .sure (Ope.loadH rfl (by repeat (first | exact h0 | refine (hget_tl (by omega)).trans ?_ | refine (killU_at (o:=o1) (fun j hj=>by have:=wB1 j hj;omega)).trans ?_ | refine (killU_at (o:=o2) (fun j hj=>by have:=wB2 j hj;omega)).trans ?_ | refine (killU_at (o:=o3) (fun j hj=>by have:=wB3 j hj;omega)).trans ?_)) rfl ?_)
    refine Dra.op' rfl rfl rfl .sure (Ope.add rfl rfl (by omega) ?_)
    refine Dra.op' rfl rfl rfl .sure (Ope.maxI rfl rfl ?_)
    refine Dra.op' rfl rfl rfl .sure (Ope.asg rfl ?_)
    refine Dra.nil (Run.seq ?_)
    first
      | (have hN1 : now ≤ max now (offs[f] + (rs : Int)) := by omega
         have hN2:max now (offs[f]+(rs:Int))≤20+51 * i:=by omega
         have hN3:∀ g,frm S (d:Int) S.length=some g→offs.getD g 0+(rs:Int)≤max now (offs[f]+(rs:Int)):=fun g hg=>by
           rw [hf] at hg;cases hg
           rw [hog];omega
         generalize max now (offs[f]+(rs:Int))=nw2 at *)
      | (have hN3 : ∀ g, frm S (d : Int) S.length = some g → offs.getD g 0 + (rs : Int) ≤ now := fun g hg => by
           rw [hlst] at hc
           unfold lastI at hc
           rw [hg] at hc
           exact absurd (Int.natCast_nonneg g) hc
         have hN1:now≤now:=Int.le_refl _
         have hN2:now≤20+51 * i:=by omega
         generalize now=nw2 at *)
    have hi1:(((i+1:Nat):Int) - 1)=(i:Int):=by omega
    have own1:∀ j,o1=some j→∀ x y,hget ((m,x)::(1,y)::l) j=some .own:=fun j hj x y=>(hget_tl (by have:=wB1 j hj;omega)).trans ((hget_tl (by have:=wB1 j hj;omega)).trans (w1.2 j hj).2.2.1)
    have own2:∀ j,o2=some j→∀ x y z w,hget ((1,z)::(m+1,w)::killU o1 ((m,x)::(1,y)::l)) j=some .own:=fun j hj x y z w=>(hget_tl (by have:=wB2 j hj;omega)).trans ((hget_tl (by have:=wB2 j hj;omega)).trans ((killU_at (fun q hq e=>d12 q hq (by rw [e];exact hj))).trans ((hget_tl (by have:=wB2 j hj;omega)).trans ((hget_tl (by have:=wB2 j hj;omega)).trans (w2.2 j hj).2.2.1))))
    have own3:∀ j,o3=some j→∀ x y z w u,hget ((m+2,u)::killU o2 ((1,z)::(m+1,w)::killU o1 ((m,x)::(1,y)::l))) j=some .own:=fun j hj x y z w u=>(hget_tl (by have:=wB3 j hj;omega)).trans ((killU_at (fun q hq e=>d23 q hq (by rw [e];exact hj))).trans ((hget_tl (by have:=wB3 j hj;omega)).trans ((hget_tl (by have:=wB3 j hj;omega)).trans ((killU_at (fun q hq e=>d13 q hq (by rw [e];exact hj))).trans ((hget_tl (by have:=wB3 j hj;omega)).trans ((hget_tl (by have:=wB3 j hj;omega)).trans (w3.2 j hj).2.2.1))))))
    have hne:∀ (L:List Int),L.length=S.length→i≠0→L.map I≠[]:=fun L hL h0 e0=>by
      have:=congrArg List.length e0
      simp only [List.length_map,List.length_nil] at this
      omega
    refine Run.draw (cx_ok _ _ _) [(0,true),(1,true),(2,true),(4,true),(5,true),(6,true),(7,false),(3,true),(8,true),(9,true),(10,true),(11,true),(12,true),(13,true)] (by kernel_rfl) (Dra.op' rfl rfl rfl .sure (Ope.mov rfl ?_))
    refine Dra.op' rfl rfl rfl .sure (Ope.mov rfl ?_)
    refine Dra.op' rfl rfl rfl .sure (Ope.bsl rfl rfl rfl rfl ?_)
    refine Dra.op' rfl rfl rfl .sure (Ope.mov rfl ?_)
    refine Dra.op' rfl rfl rfl .sure (Ope.mov rfl ?_)
    refine Dra.op' rfl rfl rfl .sure (Ope.add rfl rfl (by omega) ?_)
    refine Dra.op' rfl rfl rfl (.load rfl) (Ope.load rfl rfl ?_)
    refine Dra.op' rfl rfl rfl .sure (Ope.apV (o':=o1) (vs:=ons.map I) (ws:=[I nw2]) rfl rfl (by simp) (fun j hj=>⟨hne ons e1 (w1.2 j hj).2.2.2,own1 j hj _ _⟩) (by simp only [List.length_map,List.length_singleton];omega) (by simp only [List.length_map,List.length_singleton];omega) (by decide) (by intro v hv;obtain ⟨_,_,rfl⟩:=List.mem_map.1 hv;rfl) (by intro v hv;simp only [List.mem_singleton] at hv;subst hv;exact ⟨rfl,rfl⟩) ?_)
    refine Dra.op' rfl rfl rfl .sure (Ope.call rfl rfl rfl ((hdr 40 (by decide) (3+11 * i+1) (by omega) _ _ (by repeat (first | exact hget_hd | refine (hget_tl (by omega)).trans ?_ | refine (killU_at (o:=o1) (fun j hj=>by have:=wB1 j hj;omega)).trans ?_ | refine (killU_at (o:=o2) (fun j hj=>by have:=wB2 j hj;omega)).trans ?_ | refine (killU_at (o:=o3) (fun j hj=>by have:=wB3 j hj;omega)).trans ?_))).mono (fun v h' q=>?_) fun _ _ q=>q.elim))
    obtain ⟨d2,hd2,rfl,rfl⟩:=q
    refine Dra.op' rfl rfl rfl .sure (Ope.add rfl rfl (by omega) ?_)
    refine Dra.op' rfl rfl rfl .sure (Ope.bsl rfl rfl rfl rfl ?_)
    refine Dra.op' rfl rfl rfl .sure (Ope.apV (o':=o2) (vs:=offs.map I) (ws:=[I (nw2+1+d2)]) rfl rfl (by simp) (fun j hj=>⟨hne offs e2 (w2.2 j hj).2.2.2,own2 j hj _ _ _ _⟩) (by simp only [List.length_map,List.length_singleton];omega) (by simp only [List.length_map,List.length_singleton];omega) (by decide) (by intro v hv;obtain ⟨_,_,rfl⟩:=List.mem_map.1 hv;rfl) (by intro v hv;simp only [List.mem_singleton] at hv;subst hv;exact ⟨rfl,rfl⟩) ?_)
    refine Dra.op' rfl rfl rfl .sure (Ope.asg rfl ?_)
    refine Dra.op' rfl rfl rfl .sure (Ope.asg rfl ?_)
    refine Dra.nil (Run.seq ?_)
    refine Run.wide (m:=m+3) (l':=(m+1,some .own)::(m+2,some .own)::(m,some (.cells [I d,I 0,I 0,I 0,I 0,I 0,I 0,I 0,I 0]))::(1,some (.cells [I ((3+11 * i+1+1:Nat):Int)]))::(0,some (.cells [I rs,.sl (tlU o3) (S.map Sti.v)]))::(3,some (.cells [I l0,I l1]))::ownU o3) (Nat.le_refl _) ⟨(by repeat (first | exact hget_hd | refine (hget_tl (by omega)).trans ?_ | refine (killU_at (o:=o1) (fun j hj=>by have:=wB1 j hj;omega)).trans ?_ | refine (killU_at (o:=o2) (fun j hj=>by have:=wB2 j hj;omega)).trans ?_ | refine (killU_at (o:=o3) (fun j hj=>by have:=wB3 j hj;omega)).trans ?_)),hget_hd,(by repeat (first | exact hget_hd | refine (hget_tl (by omega)).trans ?_ | refine (killU_at (o:=o1) (fun j hj=>by have:=wB1 j hj;omega)).trans ?_ | refine (killU_at (o:=o2) (fun j hj=>by have:=wB2 j hj;omega)).trans ?_ | refine (killU_at (o:=o3) (fun j hj=>by have:=wB3 j hj;omega)).trans ?_)),(by repeat (first | exact hget_hd | refine (hget_tl (by omega)).trans ?_ | refine (killU_at (o:=o1) (fun j hj=>by have:=wB1 j hj;omega)).trans ?_ | refine (killU_at (o:=o2) (fun j hj=>by have:=wB2 j hj;omega)).trans ?_ | refine (killU_at (o:=o3) (fun j hj=>by have:=wB3 j hj;omega)).trans ?_)),(by repeat (first | exact h0 | refine (hget_tl (by omega)).trans ?_ | refine (killU_at (o:=o1) (fun j hj=>by have:=wB1 j hj;omega)).trans ?_ | refine (killU_at (o:=o2) (fun j hj=>by have:=wB2 j hj;omega)).trans ?_ | refine (killU_at (o:=o3) (fun j hj=>by have:=wB3 j hj;omega)).trans ?_)),(by repeat (first | exact h3 | refine (hget_tl (by omega)).trans ?_ | refine (killU_at (o:=o1) (fun j hj=>by have:=wB1 j hj;omega)).trans ?_ | refine (killU_at (o:=o2) (fun j hj=>by have:=wB2 j hj;omega)).trans ?_ | refine (killU_at (o:=o3) (fun j hj=>by have:=wB3 j hj;omega)).trans ?_)),hsub_ownU (fun j hj=>own3 j hj _ _ _ _ _)⟩ ?_
    obtain ⟨off,hoff⟩:∃ z,z=nw2+1+(d2:Int):=⟨_,rfl⟩
    rw [← hoff]
    rw [show ons.map I++[I nw2]=(ons++[nw2]).map I by simp,show offs.map I++[I off]=(offs++[off]).map I by simp]
    have hio:i < (offs++[off]).length:=by simp only [List.length_append,List.length_singleton];omega
    have hgi:(offs++[off])[i]=off:=by
      have hi':i=offs.length:=by omega
      subst hi'
      simp
    refine Run.region (cx_ok _ _ _) (Reg.op rfl (Ope.fld rfl rfl ?_))
    refine Reg.op rfl (Ope.loadH rfl (by repeat (first | exact hget_hd | refine (hget_tl (by omega)).trans ?_ | refine (killU_at (o:=o1) (fun j hj=>by have:=wB1 j hj;omega)).trans ?_ | refine (killU_at (o:=o2) (fun j hj=>by have:=wB2 j hj;omega)).trans ?_ | refine (killU_at (o:=o3) (fun j hj=>by have:=wB3 j hj;omega)).trans ?_)) rfl ?_)
    refine Reg.op rfl (Ope.mov rfl ?_)
    refine Reg.op rfl (Ope.len (m:=i+1) rfl (by simp only [List.length_map,List.length_append,List.length_singleton];omega) ?_)
    refine Reg.op rfl (Ope.sub rfl rfl (by omega) ?_)
    rw [hi1]
    refine Reg.op rfl (Ope.idxA (m:=d) rfl rfl rfl (two_ptr 3 0 d hd) ?_)
    refine Reg.op0 (Ope.store rfl rfl (by repeat (first | exact hget_hd | refine (hget_tl (by omega)).trans ?_ | refine (killU_at (o:=o1) (fun j hj=>by have:=wB1 j hj;omega)).trans ?_ | refine (killU_at (o:=o2) (fun j hj=>by have:=wB2 j hj;omega)).trans ?_ | refine (killU_at (o:=o3) (fun j hj=>by have:=wB3 j hj;omega)).trans ?_)) rfl rfl (two_put l0 l1 (i:Int) d hd) ?_)
    refine Reg.nil (Run.seq (Run.draw (cx_ok _ _ _) [(0,true),(1,true),(3,true),(4,true),(5,true),(6,false),(7,true),(8,true),(9,false),(2,true),(11,true),(10,true),(12,true),(13,true),(14,true)] (by kernel_rfl) (Dra.op' rfl rfl rfl .sure (Ope.mov rfl ?_))))
    refine Dra.op' rfl rfl rfl .sure (Ope.mov rfl ?_)
    refine Dra.op' rfl rfl rfl .sure (Ope.mov rfl ?_)
    refine Dra.op' rfl rfl rfl .sure (Ope.mov rfl ?_)
    refine Dra.op' rfl rfl rfl .sure (Ope.mov rfl ?_)
    refine Dra.op' rfl rfl rfl (.len rfl) (Ope.len (m:=i+1) rfl (by simp only [List.length_map,List.length_append,List.length_singleton];omega) ?_)
    refine Dra.op' rfl rfl rfl .sure (Ope.sub rfl rfl (by omega) ?_)
    rw [hi1]
    refine Dra.op' rfl rfl rfl .sure (Ope.idxM (m:=i) (f:=I) rfl rfl rfl hio (fun _=>rfl) ?_)
    rw [hgi]
    refine Dra.op' rfl rfl rfl (.load rfl) (Ope.load rfl rfl ?_)
    refine Dra.op' rfl rfl rfl .sure (Ope.call rfl rfl rfl ((har nw2 (by omega) (3+11 * i+1+1) (by omega) _ (by omega) _ (by repeat (first | exact hget_hd | refine (hget_tl (by omega)).trans ?_ | refine (killU_at (o:=o1) (fun j hj=>by have:=wB1 j hj;omega)).trans ?_ | refine (killU_at (o:=o2) (fun j hj=>by have:=wB2 j hj;omega)).trans ?_ | refine (killU_at (o:=o3) (fun j hj=>by have:=wB3 j hj;omega)).trans ?_))).mono (fun v h' q=>?_) fun _ _ q=>q.elim))
    obtain ⟨a1,b1,c1,f1,m1,hA,hB,rfl,hm1,rfl⟩:=q
    refine Dra.op' rfl rfl rfl .sure (Ope.fld rfl rfl ?_)
    refine Dra.op' rfl rfl rfl .sure (Ope.call rfl rfl rfl ((har off (by omega) (3+11 * i+1+1+4) (by omega) _ (by omega) _ hget_hd).mono (fun v h' q=>?_) fun _ _ q=>q.elim))
    obtain ⟨a2,b2,c2,f2,m2,hC,hD,rfl,hm2,rfl⟩:=q
    refine Dra.op' rfl rfl rfl .sure (Ope.store rfl rfl (by repeat (first | exact hget_hd | refine (hget_tl (by omega)).trans ?_ | refine (killU_at (o:=o1) (fun j hj=>by have:=wB1 j hj;omega)).trans ?_ | refine (killU_at (o:=o2) (fun j hj=>by have:=wB2 j hj;omega)).trans ?_ | refine (killU_at (o:=o3) (fun j hj=>by have:=wB3 j hj;omega)).trans ?_)) rfl rfl rfl ?_)
    refine Dra.op' rfl rfl rfl .sure (Ope.fld rfl rfl ?_)
    refine Dra.op' rfl rfl rfl .sure (Ope.store rfl rfl hget_hd rfl rfl rfl ?_)
    refine Dra.nil (Run.seq (Run.region (cx_ok _ _ _) (Reg.op rfl (Ope.fld rfl rfl ?_))))
    refine Reg.op rfl (Ope.loadH rfl (by repeat (first | exact hget_hd | refine (hget_tl (by omega)).trans ?_ | refine (killU_at (o:=o1) (fun j hj=>by have:=wB1 j hj;omega)).trans ?_ | refine (killU_at (o:=o2) (fun j hj=>by have:=wB2 j hj;omega)).trans ?_ | refine (killU_at (o:=o3) (fun j hj=>by have:=wB3 j hj;omega)).trans ?_)) rfl ?_)
    refine Reg.op rfl (Ope.loadH rfl hget_hd rfl ?_)
    refine Reg.op rfl (Ope.bsl rfl rfl rfl rfl ?_)
    refine Reg.op rfl (Ope.apV (o':=o3) (vs:=S.map Sti.v) (ws:=[Sti.v ⟨d,a1,b1,c1,f1,a2,b2,c2,f2⟩]) rfl rfl (by simp) (fun j hj=>⟨fun e0=>(by have h0:=congrArg List.length e0;simp only [List.length_map,List.length_nil] at h0;have:=(w3.2 j hj).2.2.2;omega),(by have hB:=wB3 j hj;rw [hj];repeat (first | exact hget_hd | refine (hget_tl (by omega)).trans ?_))⟩) (by simp only [List.length_map,List.length_singleton];omega) (by simp only [List.length_map,List.length_singleton];omega) (by decide) (by intro v hv;obtain ⟨_,_,rfl⟩:=List.mem_map.1 hv;rfl) (by intro v hv;simp only [List.mem_singleton] at hv;subst hv;exact ⟨rfl,rfl⟩) ?_)
    refine Reg.op rfl (Ope.fld rfl rfl ?_)
    refine Reg.op0 (Ope.store rfl rfl (by repeat (first | exact hget_hd | refine (hget_tl (by omega)).trans ?_ | refine (killU_at (o:=o1) (fun j hj=>by have:=wB1 j hj;omega)).trans ?_ | refine (killU_at (o:=o2) (fun j hj=>by have:=wB2 j hj;omega)).trans ?_ | refine (killU_at (o:=o3) (fun j hj=>by have:=wB3 j hj;omega)).trans ?_)) rfl rfl rfl ?_)
    refine Reg.nil ?_
    rw [show S.map Sti.v++[Sti.v ⟨d,a1,b1,c1,f1,a2,b2,c2,f2⟩]=(S++[(⟨d,a1,b1,c1,f1,a2,b2,c2,f2⟩:Sti)]).map Sti.v by simp]
    refine Run.region (cx_ok _ _ _) (Reg.op rfl (Ope.mov rfl ?_))
    refine Reg.op rfl (Ope.load rfl rfl ?_)
    refine Reg.op rfl (Ope.call rfl rfl rfl ((hdr 40 (by decide) (3+11 * i+1+1+4+4) (by omega) _ _ (by repeat (first | exact hget_hd | refine (hget_tl (by omega)).trans ?_ | refine (killU_at (o:=o1) (fun j hj=>by have:=wB1 j hj;omega)).trans ?_ | refine (killU_at (o:=o2) (fun j hj=>by have:=wB2 j hj;omega)).trans ?_ | refine (killU_at (o:=o3) (fun j hj=>by have:=wB3 j hj;omega)).trans ?_))).mono (fun v h' q=>?_) fun _ _ q=>q.elim))
    obtain ⟨d3,hd3,rfl,rfl⟩:=q
    refine Reg.op rfl (Ope.add rfl rfl (by omega) ?_)
    refine Reg.op rfl (Ope.add rfl rfl (by omega) ?_)
    refine Reg.op rfl (Ope.asg rfl ?_)
    refine Reg.nil (Run.bend (Run.region (cx_ok _ _ _) (Reg.op rfl (Ope.add rfl rfl (by omega) ?_))))
    refine Reg.op rfl (Ope.mov rfl ?_)
    refine Reg.nil (Run.lend ⟨⟨i+1,_,some (m+1),some (m+2),some m2,ons++[nw2],offs++[off],S++[⟨d,a1,b1,c1,f1,a2,b2,c2,f2⟩],nw2+(1+d3),(if d=0 then (i:Int) else l0),(if d=0 then l1 else (i:Int)),_⟩,?_,?_,⟨rfl,rfl,rfl,rfl,rfl,rfl,rfl,rfl,rfl,trivial⟩,rfl,rfl⟩)
    · show c - (i+1) < c - i;omega
    · have hr01 : (d : Int) = 0 ∨ (d : Int) = 1 := by omega
      have hne1:i+1≠0:=Nat.succ_ne_zero _
      exact {
        hi:=by show i+1≤c;omega
        len:=by show (S++[_]).length=i+1;simp only [List.length_append,List.length_singleton];omega
        tru:=tru.step (s:=⟨d,a1,b1,c1,f1,a2,b2,c2,f2⟩) hr01 (by omega) (by omega) (by omega) hA hB hC hD (fun q hq=>Int.le_trans (nowN q hq) hN1) hN3
        now0:=⟨by show 0≤nw2+(1+(d3:Int));omega,by show nw2+(1+(d3:Int))≤9+51 * ((i+1:Nat):Int);omega⟩
        nowN:=fun q hq=>by
          have hq':q=ons.length:=by simp only [List.length_append,List.length_singleton] at hq;omega
          subst hq'
          show (ons++[nw2]).getD ons.length 0+1≤nw2+(1+(d3:Int))
          rw [getD_end];omega
        offB:=fun x hx=>by
          show x≤9+51 * ((i+1:Nat):Int)
          rcases List.mem_append.1 hx with hx | hx
          · have:=offB x hx;omega
          · simp only [List.mem_singleton] at hx;omega
        last0:=by
          show (if d=0 then (i:Int) else l0)=lastI (S++[_]) 0
          rw [lastI_app,len,← last0]
          show _=if (d:Int)=0 then (i:Int) else l0
          by_cases h:d=0
          · rw [if_pos h,if_pos (by omega)]
          · rw [if_neg h,if_neg (by omega)]
        last1:=by
          show (if d=0 then l1 else (i:Int))=lastI (S++[_]) 1
          rw [lastI_app,len,← last1]
          show _=if (d:Int)=1 then (i:Int) else l1
          by_cases h:d=0
          · rw [if_pos h,if_neg (by omega)]
          · rw [if_neg h,if_pos (by omega)]
        h0:=(by repeat (first | exact hget_hd | refine (hget_tl (by omega)).trans ?_ | refine (killU_at (o:=o1) (fun j hj=>by have:=wB1 j hj;omega)).trans ?_ | refine (killU_at (o:=o2) (fun j hj=>by have:=wB2 j hj;omega)).trans ?_ | refine (killU_at (o:=o3) (fun j hj=>by have:=wB3 j hj;omega)).trans ?_))
        h1:=hget_hd.trans (by show _=some (PBlk.cells [I ((3+11 * (i+1):Nat):Int)]);rw [show 3+11 * (i+1)=3+11 * i+1+1+4+4+1 from by omega])
        h3:=(by repeat (first | exact hget_hd | refine (hget_tl (by omega)).trans ?_ | refine (killU_at (o:=o1) (fun j hj=>by have:=wB1 j hj;omega)).trans ?_ | refine (killU_at (o:=o2) (fun j hj=>by have:=wB2 j hj;omega)).trans ?_ | refine (killU_at (o:=o3) (fun j hj=>by have:=wB3 j hj;omega)).trans ?_))
        m3:=by show 3 < m2+1;omega
        w1:=⟨fun h=>absurd h hne1,fun j hj=>by cases hj;exact ⟨by omega,by show m+1 < m2+1;omega,(by repeat (first | exact hget_hd | refine (hget_tl (by omega)).trans ?_ | refine (killU_at (o:=o1) (fun j hj=>by have:=wB1 j hj;omega)).trans ?_ | refine (killU_at (o:=o2) (fun j hj=>by have:=wB2 j hj;omega)).trans ?_ | refine (killU_at (o:=o3) (fun j hj=>by have:=wB3 j hj;omega)).trans ?_)),hne1⟩⟩
        w2:=⟨fun h=>absurd h hne1,fun j hj=>by cases hj;exact ⟨by omega,by show m+2 < m2+1;omega,(by repeat (first | exact hget_hd | refine (hget_tl (by omega)).trans ?_ | refine (killU_at (o:=o1) (fun j hj=>by have:=wB1 j hj;omega)).trans ?_ | refine (killU_at (o:=o2) (fun j hj=>by have:=wB2 j hj;omega)).trans ?_ | refine (killU_at (o:=o3) (fun j hj=>by have:=wB3 j hj;omega)).trans ?_)),hne1⟩⟩
        w3:=⟨fun h=>absurd h hne1,fun j hj=>by cases hj;exact ⟨by omega,Nat.lt_succ_self _,(by repeat (first | exact hget_hd | refine (hget_tl (by omega)).trans ?_ | refine (killU_at (o:=o1) (fun j hj=>by have:=wB1 j hj;omega)).trans ?_ | refine (killU_at (o:=o2) (fun j hj=>by have:=wB2 j hj;omega)).trans ?_ | refine (killU_at (o:=o3) (fun j hj=>by have:=wB3 j hj;omega)).trans ?_)),hne1⟩⟩
        d12:=fun j hj h=>by cases hj;have h':=Option.some.inj h;omega
        d13:=fun j hj h=>by cases hj;have h':=Option.some.inj h;omega
        d23:=fun j hj h=>by cases hj;have h':=Option.some.inj h;omega }
   ·refine Run.skip (Run.seq ?_)
    first
      | (have hN1 : now ≤ max now (offs[f] + (rs : Int)) := by omega
         have hN2:max now (offs[f]+(rs:Int))≤20+51 * i:=by omega
         have hN3:∀ g,frm S (d:Int) S.length=some g→offs.getD g 0+(rs:Int)≤max now (offs[f]+(rs:Int)):=fun g hg=>by
           rw [hf] at hg;cases hg
           rw [hog];omega
         generalize max now (offs[f]+(rs:Int))=nw2 at *)
      | (have hN3 : ∀ g, frm S (d : Int) S.length = some g → offs.getD g 0 + (rs : Int) ≤ now := fun g hg => by
           rw [hlst] at hc
           unfold lastI at hc
           rw [hg] at hc
           exact absurd (Int.natCast_nonneg g) hc
         have hN1:now≤now:=Int.le_refl _
         have hN2:now≤20+51 * i:=by omega
         generalize now=nw2 at *)
    have hi1:(((i+1:Nat):Int) - 1)=(i:Int):=by omega
    have own1:∀ j,o1=some j→∀ x y,hget ((m,x)::(1,y)::l) j=some .own:=fun j hj x y=>(hget_tl (by have:=wB1 j hj;omega)).trans ((hget_tl (by have:=wB1 j hj;omega)).trans (w1.2 j hj).2.2.1)
    have own2:∀ j,o2=some j→∀ x y z w,hget ((1,z)::(m+1,w)::killU o1 ((m,x)::(1,y)::l)) j=some .own:=fun j hj x y z w=>(hget_tl (by have:=wB2 j hj;omega)).trans ((hget_tl (by have:=wB2 j hj;omega)).trans ((killU_at (fun q hq e=>d12 q hq (by rw [e];exact hj))).trans ((hget_tl (by have:=wB2 j hj;omega)).trans ((hget_tl (by have:=wB2 j hj;omega)).trans (w2.2 j hj).2.2.1))))
    have own3:∀ j,o3=some j→∀ x y z w u,hget ((m+2,u)::killU o2 ((1,z)::(m+1,w)::killU o1 ((m,x)::(1,y)::l))) j=some .own:=fun j hj x y z w u=>(hget_tl (by have:=wB3 j hj;omega)).trans ((killU_at (fun q hq e=>d23 q hq (by rw [e];exact hj))).trans ((hget_tl (by have:=wB3 j hj;omega)).trans ((hget_tl (by have:=wB3 j hj;omega)).trans ((killU_at (fun q hq e=>d13 q hq (by rw [e];exact hj))).trans ((hget_tl (by have:=wB3 j hj;omega)).trans ((hget_tl (by have:=wB3 j hj;omega)).trans (w3.2 j hj).2.2.1))))))
    have hne:∀ (L:List Int),L.length=S.length→i≠0→L.map I≠[]:=fun L hL h0 e0=>by
      have:=congrArg List.length e0
      simp only [List.length_map,List.length_nil] at this
      omega
    refine Run.draw (cx_ok _ _ _) [(0,true),(1,true),(2,true),(4,true),(5,true),(6,true),(7,false),(3,true),(8,true),(9,true),(10,true),(11,true),(12,true),(13,true)] (by kernel_rfl) (Dra.op' rfl rfl rfl .sure (Ope.mov rfl ?_))
    refine Dra.op' rfl rfl rfl .sure (Ope.mov rfl ?_)
    refine Dra.op' rfl rfl rfl .sure (Ope.bsl rfl rfl rfl rfl ?_)
    refine Dra.op' rfl rfl rfl .sure (Ope.mov rfl ?_)
    refine Dra.op' rfl rfl rfl .sure (Ope.mov rfl ?_)
    refine Dra.op' rfl rfl rfl .sure (Ope.add rfl rfl (by omega) ?_)
    refine Dra.op' rfl rfl rfl (.load rfl) (Ope.load rfl rfl ?_)
    refine Dra.op' rfl rfl rfl .sure (Ope.apV (o':=o1) (vs:=ons.map I) (ws:=[I nw2]) rfl rfl (by simp) (fun j hj=>⟨hne ons e1 (w1.2 j hj).2.2.2,own1 j hj _ _⟩) (by simp only [List.length_map,List.length_singleton];omega) (by simp only [List.length_map,List.length_singleton];omega) (by decide) (by intro v hv;obtain ⟨_,_,rfl⟩:=List.mem_map.1 hv;rfl) (by intro v hv;simp only [List.mem_singleton] at hv;subst hv;exact ⟨rfl,rfl⟩) ?_)
    refine Dra.op' rfl rfl rfl .sure (Ope.call rfl rfl rfl ((hdr 40 (by decide) (3+11 * i+1) (by omega) _ _ (by repeat (first | exact hget_hd | refine (hget_tl (by omega)).trans ?_ | refine (killU_at (o:=o1) (fun j hj=>by have:=wB1 j hj;omega)).trans ?_ | refine (killU_at (o:=o2) (fun j hj=>by have:=wB2 j hj;omega)).trans ?_ | refine (killU_at (o:=o3) (fun j hj=>by have:=wB3 j hj;omega)).trans ?_))).mono (fun v h' q=>?_) fun _ _ q=>q.elim))
    obtain ⟨d2,hd2,rfl,rfl⟩:=q
    refine Dra.op' rfl rfl rfl .sure (Ope.add rfl rfl (by omega) ?_)
    refine Dra.op' rfl rfl rfl .sure (Ope.bsl rfl rfl rfl rfl ?_)
    refine Dra.op' rfl rfl rfl .sure (Ope.apV (o':=o2) (vs:=offs.map I) (ws:=[I (nw2+1+d2)]) rfl rfl (by simp) (fun j hj=>⟨hne offs e2 (w2.2 j hj).2.2.2,own2 j hj _ _ _ _⟩) (by simp only [List.length_map,List.length_singleton];omega) (by simp only [List.length_map,List.length_singleton];omega) (by decide) (by intro v hv;obtain ⟨_,_,rfl⟩:=List.mem_map.1 hv;rfl) (by intro v hv;simp only [List.mem_singleton] at hv;subst hv;exact ⟨rfl,rfl⟩) ?_)
    refine Dra.op' rfl rfl rfl .sure (Ope.asg rfl ?_)
    refine Dra.op' rfl rfl rfl .sure (Ope.asg rfl ?_)
    refine Dra.nil (Run.seq ?_)
    refine Run.wide (m:=m+3) (l':=(m+1,some .own)::(m+2,some .own)::(m,some (.cells [I d,I 0,I 0,I 0,I 0,I 0,I 0,I 0,I 0]))::(1,some (.cells [I ((3+11 * i+1+1:Nat):Int)]))::(0,some (.cells [I rs,.sl (tlU o3) (S.map Sti.v)]))::(3,some (.cells [I l0,I l1]))::ownU o3) (Nat.le_refl _) ⟨(by repeat (first | exact hget_hd | refine (hget_tl (by omega)).trans ?_ | refine (killU_at (o:=o1) (fun j hj=>by have:=wB1 j hj;omega)).trans ?_ | refine (killU_at (o:=o2) (fun j hj=>by have:=wB2 j hj;omega)).trans ?_ | refine (killU_at (o:=o3) (fun j hj=>by have:=wB3 j hj;omega)).trans ?_)),hget_hd,(by repeat (first | exact hget_hd | refine (hget_tl (by omega)).trans ?_ | refine (killU_at (o:=o1) (fun j hj=>by have:=wB1 j hj;omega)).trans ?_ | refine (killU_at (o:=o2) (fun j hj=>by have:=wB2 j hj;omega)).trans ?_ | refine (killU_at (o:=o3) (fun j hj=>by have:=wB3 j hj;omega)).trans ?_)),(by repeat (first | exact hget_hd | refine (hget_tl (by omega)).trans ?_ | refine (killU_at (o:=o1) (fun j hj=>by have:=wB1 j hj;omega)).trans ?_ | refine (killU_at (o:=o2) (fun j hj=>by have:=wB2 j hj;omega)).trans ?_ | refine (killU_at (o:=o3) (fun j hj=>by have:=wB3 j hj;omega)).trans ?_)),(by repeat (first | exact h0 | refine (hget_tl (by omega)).trans ?_ | refine (killU_at (o:=o1) (fun j hj=>by have:=wB1 j hj;omega)).trans ?_ | refine (killU_at (o:=o2) (fun j hj=>by have:=wB2 j hj;omega)).trans ?_ | refine (killU_at (o:=o3) (fun j hj=>by have:=wB3 j hj;omega)).trans ?_)),(by repeat (first | exact h3 | refine (hget_tl (by omega)).trans ?_ | refine (killU_at (o:=o1) (fun j hj=>by have:=wB1 j hj;omega)).trans ?_ | refine (killU_at (o:=o2) (fun j hj=>by have:=wB2 j hj;omega)).trans ?_ | refine (killU_at (o:=o3) (fun j hj=>by have:=wB3 j hj;omega)).trans ?_)),hsub_ownU (fun j hj=>own3 j hj _ _ _ _ _)⟩ ?_
    obtain ⟨off,hoff⟩:∃ z,z=nw2+1+(d2:Int):=⟨_,rfl⟩
    rw [← hoff]
    rw [show ons.map I++[I nw2]=(ons++[nw2]).map I by simp,show offs.map I++[I off]=(offs++[off]).map I by simp]
    have hio:i < (offs++[off]).length:=by simp only [List.length_append,List.length_singleton];omega
    have hgi:(offs++[off])[i]=off:=by
      have hi':i=offs.length:=by omega
      subst hi'
      simp
    refine Run.region (cx_ok _ _ _) (Reg.op rfl (Ope.fld rfl rfl ?_))
    refine Reg.op rfl (Ope.loadH rfl (by repeat (first | exact hget_hd | refine (hget_tl (by omega)).trans ?_ | refine (killU_at (o:=o1) (fun j hj=>by have:=wB1 j hj;omega)).trans ?_ | refine (killU_at (o:=o2) (fun j hj=>by have:=wB2 j hj;omega)).trans ?_ | refine (killU_at (o:=o3) (fun j hj=>by have:=wB3 j hj;omega)).trans ?_)) rfl ?_)
    refine Reg.op rfl (Ope.mov rfl ?_)
    refine Reg.op rfl (Ope.len (m:=i+1) rfl (by simp only [List.length_map,List.length_append,List.length_singleton];omega) ?_)
    refine Reg.op rfl (Ope.sub rfl rfl (by omega) ?_)
    rw [hi1]
    refine Reg.op rfl (Ope.idxA (m:=d) rfl rfl rfl (two_ptr 3 0 d hd) ?_)
    refine Reg.op0 (Ope.store rfl rfl (by repeat (first | exact hget_hd | refine (hget_tl (by omega)).trans ?_ | refine (killU_at (o:=o1) (fun j hj=>by have:=wB1 j hj;omega)).trans ?_ | refine (killU_at (o:=o2) (fun j hj=>by have:=wB2 j hj;omega)).trans ?_ | refine (killU_at (o:=o3) (fun j hj=>by have:=wB3 j hj;omega)).trans ?_)) rfl rfl (two_put l0 l1 (i:Int) d hd) ?_)
    refine Reg.nil (Run.seq (Run.draw (cx_ok _ _ _) [(0,true),(1,true),(3,true),(4,true),(5,true),(6,false),(7,true),(8,true),(9,false),(2,true),(11,true),(10,true),(12,true),(13,true),(14,true)] (by kernel_rfl) (Dra.op' rfl rfl rfl .sure (Ope.mov rfl ?_))))
    refine Dra.op' rfl rfl rfl .sure (Ope.mov rfl ?_)
    refine Dra.op' rfl rfl rfl .sure (Ope.mov rfl ?_)
    refine Dra.op' rfl rfl rfl .sure (Ope.mov rfl ?_)
    refine Dra.op' rfl rfl rfl .sure (Ope.mov rfl ?_)
    refine Dra.op' rfl rfl rfl (.len rfl) (Ope.len (m:=i+1) rfl (by simp only [List.length_map,List.length_append,List.length_singleton];omega) ?_)
    refine Dra.op' rfl rfl rfl .sure (Ope.sub rfl rfl (by omega) ?_)
    rw [hi1]
    refine Dra.op' rfl rfl rfl .sure (Ope.idxM (m:=i) (f:=I) rfl rfl rfl hio (fun _=>rfl) ?_)
    rw [hgi]
    refine Dra.op' rfl rfl rfl (.load rfl) (Ope.load rfl rfl ?_)
    refine Dra.op' rfl rfl rfl .sure (Ope.call rfl rfl rfl ((har nw2 (by omega) (3+11 * i+1+1) (by omega) _ (by omega) _ (by repeat (first | exact hget_hd | refine (hget_tl (by omega)).trans ?_ | refine (killU_at (o:=o1) (fun j hj=>by have:=wB1 j hj;omega)).trans ?_ | refine (killU_at (o:=o2) (fun j hj=>by have:=wB2 j hj;omega)).trans ?_ | refine (killU_at (o:=o3) (fun j hj=>by have:=wB3 j hj;omega)).trans ?_))).mono (fun v h' q=>?_) fun _ _ q=>q.elim))
    obtain ⟨a1,b1,c1,f1,m1,hA,hB,rfl,hm1,rfl⟩:=q
    refine Dra.op' rfl rfl rfl .sure (Ope.fld rfl rfl ?_)
    refine Dra.op' rfl rfl rfl .sure (Ope.call rfl rfl rfl ((har off (by omega) (3+11 * i+1+1+4) (by omega) _ (by omega) _ hget_hd).mono (fun v h' q=>?_) fun _ _ q=>q.elim))
    obtain ⟨a2,b2,c2,f2,m2,hC,hD,rfl,hm2,rfl⟩:=q
    refine Dra.op' rfl rfl rfl .sure (Ope.store rfl rfl (by repeat (first | exact hget_hd | refine (hget_tl (by omega)).trans ?_ | refine (killU_at (o:=o1) (fun j hj=>by have:=wB1 j hj;omega)).trans ?_ | refine (killU_at (o:=o2) (fun j hj=>by have:=wB2 j hj;omega)).trans ?_ | refine (killU_at (o:=o3) (fun j hj=>by have:=wB3 j hj;omega)).trans ?_)) rfl rfl rfl ?_)
    refine Dra.op' rfl rfl rfl .sure (Ope.fld rfl rfl ?_)
    refine Dra.op' rfl rfl rfl .sure (Ope.store rfl rfl hget_hd rfl rfl rfl ?_)
    refine Dra.nil (Run.seq (Run.region (cx_ok _ _ _) (Reg.op rfl (Ope.fld rfl rfl ?_))))
    refine Reg.op rfl (Ope.loadH rfl (by repeat (first | exact hget_hd | refine (hget_tl (by omega)).trans ?_ | refine (killU_at (o:=o1) (fun j hj=>by have:=wB1 j hj;omega)).trans ?_ | refine (killU_at (o:=o2) (fun j hj=>by have:=wB2 j hj;omega)).trans ?_ | refine (killU_at (o:=o3) (fun j hj=>by have:=wB3 j hj;omega)).trans ?_)) rfl ?_)
    refine Reg.op rfl (Ope.loadH rfl hget_hd rfl ?_)
    refine Reg.op rfl (Ope.bsl rfl rfl rfl rfl ?_)
    refine Reg.op rfl (Ope.apV (o':=o3) (vs:=S.map Sti.v) (ws:=[Sti.v ⟨d,a1,b1,c1,f1,a2,b2,c2,f2⟩]) rfl rfl (by simp) (fun j hj=>⟨fun e0=>(by have h0:=congrArg List.length e0;simp only [List.length_map,List.length_nil] at h0;have:=(w3.2 j hj).2.2.2;omega),(by have hB:=wB3 j hj;rw [hj];repeat (first | exact hget_hd | refine (hget_tl (by omega)).trans ?_))⟩) (by simp only [List.length_map,List.length_singleton];omega) (by simp only [List.length_map,List.length_singleton];omega) (by decide) (by intro v hv;obtain ⟨_,_,rfl⟩:=List.mem_map.1 hv;rfl) (by intro v hv;simp only [List.mem_singleton] at hv;subst hv;exact ⟨rfl,rfl⟩) ?_)
    refine Reg.op rfl (Ope.fld rfl rfl ?_)
    refine Reg.op0 (Ope.store rfl rfl (by repeat (first | exact hget_hd | refine (hget_tl (by omega)).trans ?_ | refine (killU_at (o:=o1) (fun j hj=>by have:=wB1 j hj;omega)).trans ?_ | refine (killU_at (o:=o2) (fun j hj=>by have:=wB2 j hj;omega)).trans ?_ | refine (killU_at (o:=o3) (fun j hj=>by have:=wB3 j hj;omega)).trans ?_)) rfl rfl rfl ?_)
    refine Reg.nil ?_
    rw [show S.map Sti.v++[Sti.v ⟨d,a1,b1,c1,f1,a2,b2,c2,f2⟩]=(S++[(⟨d,a1,b1,c1,f1,a2,b2,c2,f2⟩:Sti)]).map Sti.v by simp]
    refine Run.region (cx_ok _ _ _) (Reg.op rfl (Ope.mov rfl ?_))
    refine Reg.op rfl (Ope.load rfl rfl ?_)
    refine Reg.op rfl (Ope.call rfl rfl rfl ((hdr 40 (by decide) (3+11 * i+1+1+4+4) (by omega) _ _ (by repeat (first | exact hget_hd | refine (hget_tl (by omega)).trans ?_ | refine (killU_at (o:=o1) (fun j hj=>by have:=wB1 j hj;omega)).trans ?_ | refine (killU_at (o:=o2) (fun j hj=>by have:=wB2 j hj;omega)).trans ?_ | refine (killU_at (o:=o3) (fun j hj=>by have:=wB3 j hj;omega)).trans ?_))).mono (fun v h' q=>?_) fun _ _ q=>q.elim))
    obtain ⟨d3,hd3,rfl,rfl⟩:=q
    refine Reg.op rfl (Ope.add rfl rfl (by omega) ?_)
    refine Reg.op rfl (Ope.add rfl rfl (by omega) ?_)
    refine Reg.op rfl (Ope.asg rfl ?_)
    refine Reg.nil (Run.bend (Run.region (cx_ok _ _ _) (Reg.op rfl (Ope.add rfl rfl (by omega) ?_))))
    refine Reg.op rfl (Ope.mov rfl ?_)
    refine Reg.nil (Run.lend ⟨⟨i+1,_,some (m+1),some (m+2),some m2,ons++[nw2],offs++[off],S++[⟨d,a1,b1,c1,f1,a2,b2,c2,f2⟩],nw2+(1+d3),(if d=0 then (i:Int) else l0),(if d=0 then l1 else (i:Int)),_⟩,?_,?_,⟨rfl,rfl,rfl,rfl,rfl,rfl,rfl,rfl,rfl,trivial⟩,rfl,rfl⟩)
    · show c - (i+1) < c - i;omega
    · have hr01 : (d : Int) = 0 ∨ (d : Int) = 1 := by omega
      have hne1:i+1≠0:=Nat.succ_ne_zero _
      exact {
        hi:=by show i+1≤c;omega
        len:=by show (S++[_]).length=i+1;simp only [List.length_append,List.length_singleton];omega
        tru:=tru.step (s:=⟨d,a1,b1,c1,f1,a2,b2,c2,f2⟩) hr01 (by omega) (by omega) (by omega) hA hB hC hD (fun q hq=>Int.le_trans (nowN q hq) hN1) hN3
        now0:=⟨by show 0≤nw2+(1+(d3:Int));omega,by show nw2+(1+(d3:Int))≤9+51 * ((i+1:Nat):Int);omega⟩
        nowN:=fun q hq=>by
          have hq':q=ons.length:=by simp only [List.length_append,List.length_singleton] at hq;omega
          subst hq'
          show (ons++[nw2]).getD ons.length 0+1≤nw2+(1+(d3:Int))
          rw [getD_end];omega
        offB:=fun x hx=>by
          show x≤9+51 * ((i+1:Nat):Int)
          rcases List.mem_append.1 hx with hx | hx
          · have:=offB x hx;omega
          · simp only [List.mem_singleton] at hx;omega
        last0:=by
          show (if d=0 then (i:Int) else l0)=lastI (S++[_]) 0
          rw [lastI_app,len,← last0]
          show _=if (d:Int)=0 then (i:Int) else l0
          by_cases h:d=0
          · rw [if_pos h,if_pos (by omega)]
          · rw [if_neg h,if_neg (by omega)]
        last1:=by
          show (if d=0 then l1 else (i:Int))=lastI (S++[_]) 1
          rw [lastI_app,len,← last1]
          show _=if (d:Int)=1 then (i:Int) else l1
          by_cases h:d=0
          · rw [if_pos h,if_neg (by omega)]
          · rw [if_neg h,if_pos (by omega)]
        h0:=(by repeat (first | exact hget_hd | refine (hget_tl (by omega)).trans ?_ | refine (killU_at (o:=o1) (fun j hj=>by have:=wB1 j hj;omega)).trans ?_ | refine (killU_at (o:=o2) (fun j hj=>by have:=wB2 j hj;omega)).trans ?_ | refine (killU_at (o:=o3) (fun j hj=>by have:=wB3 j hj;omega)).trans ?_))
        h1:=hget_hd.trans (by show _=some (PBlk.cells [I ((3+11 * (i+1):Nat):Int)]);rw [show 3+11 * (i+1)=3+11 * i+1+1+4+4+1 from by omega])
        h3:=(by repeat (first | exact hget_hd | refine (hget_tl (by omega)).trans ?_ | refine (killU_at (o:=o1) (fun j hj=>by have:=wB1 j hj;omega)).trans ?_ | refine (killU_at (o:=o2) (fun j hj=>by have:=wB2 j hj;omega)).trans ?_ | refine (killU_at (o:=o3) (fun j hj=>by have:=wB3 j hj;omega)).trans ?_))
        m3:=by show 3 < m2+1;omega
        w1:=⟨fun h=>absurd h hne1,fun j hj=>by cases hj;exact ⟨by omega,by show m+1 < m2+1;omega,(by repeat (first | exact hget_hd | refine (hget_tl (by omega)).trans ?_ | refine (killU_at (o:=o1) (fun j hj=>by have:=wB1 j hj;omega)).trans ?_ | refine (killU_at (o:=o2) (fun j hj=>by have:=wB2 j hj;omega)).trans ?_ | refine (killU_at (o:=o3) (fun j hj=>by have:=wB3 j hj;omega)).trans ?_)),hne1⟩⟩
        w2:=⟨fun h=>absurd h hne1,fun j hj=>by cases hj;exact ⟨by omega,by show m+2 < m2+1;omega,(by repeat (first | exact hget_hd | refine (hget_tl (by omega)).trans ?_ | refine (killU_at (o:=o1) (fun j hj=>by have:=wB1 j hj;omega)).trans ?_ | refine (killU_at (o:=o2) (fun j hj=>by have:=wB2 j hj;omega)).trans ?_ | refine (killU_at (o:=o3) (fun j hj=>by have:=wB3 j hj;omega)).trans ?_)),hne1⟩⟩
        w3:=⟨fun h=>absurd h hne1,fun j hj=>by cases hj;exact ⟨by omega,Nat.lt_succ_self _,(by repeat (first | exact hget_hd | refine (hget_tl (by omega)).trans ?_ | refine (killU_at (o:=o1) (fun j hj=>by have:=wB1 j hj;omega)).trans ?_ | refine (killU_at (o:=o2) (fun j hj=>by have:=wB2 j hj;omega)).trans ?_ | refine (killU_at (o:=o3) (fun j hj=>by have:=wB3 j hj;omega)).trans ?_)),hne1⟩⟩
        d12:=fun j hj h=>by cases hj;have h':=Option.some.inj h;omega
        d13:=fun j hj h=>by cases hj;have h':=Option.some.inj h;omega
        d23:=fun j hj h=>by cases hj;have h':=Option.some.inj h;omega }
  ·refine Run.exit (Jmp.code (Jmp.round (Jmp.here (Run.seq (Run.weakT (d:=3) rfl ?_)))))
   refine Run.weakT (d:=4) rfl ?_
   refine Run.weakC (i:=0) (cs':=[I rs,.sl .no (S.map Sti.v)]) h0 (fun t xs h=>by
     obtain ⟨y1,r1,rfl,g1,h⟩:=RVs_cons.1 h
     obtain ⟨y2,r2,rfl,g2,h⟩:=RVs_cons.1 h
     exact RVs_cons.2 ⟨_,_,rfl,g1,RVs_cons.2 ⟨_,_,rfl,RV_tl_no g2,h⟩⟩) ?_
   refine Run.region (cx_ok _ _ _) (Reg.op rfl (Ope.load rfl rfl ?_))
   refine Reg.op rfl (Ope.mov rfl ?_)
   refine Reg.op rfl (Ope.mov rfl ?_)
   refine Reg.op0 (Ope.store rfl rfl rfl rfl rfl rfl ?_)
   refine Reg.op rfl (Ope.asg rfl ?_)
   refine Reg.op rfl (Ope.asg rfl ?_)
   refine Reg.nil (Run.ret (fin_ret (.cell rfl rfl (.tmp rfl (.tmp rfl .nil))) (by simp only [pone,PV.bds,PV.bd,bdsS0,bdsI0];rfl) ?_))
   exact ⟨rs,S,ons,offs,⟨by omega,by omega⟩,by omega,tru,rfl⟩
end Go.Pv
namespace Go.Pv
open Go.Proofs Go.Am
set_option maxRecDepth 10000
set_option linter.unusedSectionVars false
def vTru (ons offs:List Int) (n:Nat) (x:Nat):Int:=if x < 2 * n then (if x % 2=0 then ons.getD (x / 2) 0 else offs.getD (x / 2) 0) else 0
theorem vTru_on {ons offs:List Int} {n k:Nat} (h:k < n):vTru ons offs n (2 * k)=ons.getD k 0:=by
  unfold vTru
  rw [if_pos (by omega),if_pos (by omega),show 2 * k / 2=k from by omega]
theorem vTru_off {ons offs:List Int} {n k:Nat} (h:k < n):vTru ons offs n (2 * k+1)=offs.getD k 0:=by
  unfold vTru
  rw [if_pos (by omega),if_neg (by omega),show (2 * k+1) / 2=k from by omega]
section
variable {rest:Int} {ons offs:List Int} {S:List Sti}
theorem Tru.valid (h:Tru rest ons offs S) (hr:0≤rest∧rest≤60) (hS:S.length≤5):relOk rest S=true:=by
  refine relOk_yes hr.1 hr.2 hS fun i hi=>?_
  obtain ⟨hr,⟨h1,h2,h3⟩,ha,hb,hc,hd⟩:=h.each i S[i] (List.getElem?_eq_getElem hi)
  have mo:∀ {n a b:Int},Arnd n a b→minsOk a b=true:=fun {n a b} ⟨g1,g2,g3,g4⟩=>by
    simp only [minsOk,Bool.and_eq_true,decide_eq_true_eq];omega
  simp only [Sti.ok,Sti.j0,Sti.j1,mo ha,mo hb,mo hc,mo hd]
  rcases hr with h | h<;>simp [h]
theorem Tru.bnds (h:Tru rest ons offs S) (hS:S.length≤5) (x:Nat):0≤vTru ons offs S.length x∧vTru ons offs S.length x≤600:=by
  unfold vTru
  split
  · next hx =>
    have hk:x / 2 < S.length:=by omega
    obtain ⟨hr,⟨h1,h2,h3⟩,_⟩:=h.each (x / 2) S[x / 2] (List.getElem?_eq_getElem hk)
    split<;>omega
  · omega
theorem Tru.keeps (h : Tru rest ons offs S) (hS : S.length ≤ 5) (E : Nat) : Keeps S rest E (vTru ons offs S.length) where
  wide a b _ _:=by
    have h1:=h.bnds hS a
    have h2:=h.bnds hS b
    omega
  bound x hx := by
    obtain ⟨k,hk,hx⟩:=allB_mem.1 hx
    have v10:vTru ons offs S.length 10=0:=by unfold vTru;rw [if_neg (by omega)]
    have hs:=h.each k S[k] (List.getElem?_eq_getElem hk)
    obtain ⟨hr,⟨h1,h2,h3⟩,ha,hb,hc,hd⟩:=hs
    have von:=vTru_on (ons:=ons) (offs:=offs) hk
    have vof:=vTru_off (ons:=ons) (offs:=offs) hk
    rcases List.mem_append.1 hx with hx | hx
    · obtain ⟨p, hp, rfl⟩ := List.mem_map.1 hx
      simp only [rules,List.mem_append] at hp
      show vTru ons offs S.length p.2.1 - vTru ons offs S.length p.1≤p.2.2
      rcases hp with hp | hp | hp
      · simp only [rul1, List.mem_cons, List.not_mem_nil, or_false] at hp
        rcases hp with rfl | rfl
        · show vTru ons offs S.length 10 - vTru ons offs S.length (2 * k) ≤ 0
          omega
        · show vTru ons offs S.length (2 * k) - vTru ons offs S.length (2 * k + 1) ≤ -1
          omega
      · unfold rul2 at hp
        split at hp
        · next hk0 =>
          simp only [List.mem_singleton] at hp
          subst hp
          show vTru ons offs S.length (2 * (k - 1)) - vTru ons offs S.length (2 * k)≤-1
          rw [von,vTru_on (by omega)]
          have:=h.next (k - 1) (by omega)
          rw [show k - 1+1=k from by omega] at this
          omega
        · cases hp
      · have hgd : (S.map Sti.r).getD k 0 = S[k].r := by simp [List.getD, hk]
        rw [hgd] at hp
        cases hf:frm S S[k].r k with
        | none=>rw [hf] at hp;cases hp
        | some f =>
          have:=frm_lt _ _ _ _ hf
          rw [hf] at hp
          simp only [rul3,List.mem_singleton] at hp
          subst hp
          show vTru ons offs S.length (2 * f+1) - vTru ons offs S.length (2 * k)≤-rest
          rw [von,vTru_off (by omega)]
          have:=h.rst k S[k] f (List.getElem?_eq_getElem hk) hf
          omega
    · rw [List.getElem?_eq_getElem hk] at hx
      obtain ⟨w,hw,rfl⟩:=List.mem_map.1 hx
      obtain ⟨o,j,ho,hj,hw⟩:=entO_mem.1 hw
      have hent:(S[k].ent o j).1≤vTru ons offs S.length (2 * k+o)∧vTru ons offs S.length (2 * k+o)≤(S[k].ent o j).2:=by
        rcases (by omega:o=0∨o=1) with rfl | rfl<;>rcases (by omega:j=0∨j=1) with rfl | rfl
        · show S[k].a ≤ vTru ons offs S.length (2 * k) ∧ vTru ons offs S.length (2 * k) ≤ S[k].b
          rw [von];exact ⟨ha.2.1,ha.2.2.1⟩
        · show S[k].c ≤ vTru ons offs S.length (2 * k) ∧ vTru ons offs S.length (2 * k) ≤ S[k].d
          rw [von];exact ⟨hb.2.1,hb.2.2.1⟩
        · show S[k].e ≤ _ ∧ _ ≤ S[k].f
          rw [vof];exact ⟨hc.2.1,hc.2.2.1⟩
        · show S[k].g ≤ _ ∧ _ ≤ S[k].h
          rw [vof];exact ⟨hd.2.1,hd.2.2.1⟩
      have hB:=h.bnds hS (2 * k+o)
      simp only [entW,List.mem_cons,List.not_mem_nil,or_false] at hw
      rcases hw with rfl | rfl
      · show vTru ons offs S.length 10 - vTru ons offs S.length (2 * k + o) ≤ (if _ then (600 : Int) else -(S[k].ent o j).1)
        have he:=hent.1
        generalize (S[k].ent o j).1=lo at *
        have hz:=Int.add_left_neg lo
        generalize -lo=nlo at *
        split<;>omega
      · show vTru ons offs S.length (2 * k + o) - vTru ons offs S.length 10 ≤ (if _ then (600 : Int) else (S[k].ent o j).2)
        split<;>omega
variable (h:Tru rest ons offs S) (hr:0≤rest∧rest≤60) (hS:S.length≤5)
include h hr hS
theorem Tru.err {c:Bool} {e:Int} (hc:c=true):errT rest S c e=e:=err_at rest S (h.valid hr hS) hc (h.keeps hS _).ok
theorem Tru.clash:Fn P0 26 [relV rest .no S] (.tup [I 0,I 4])∧Fn P0 28 [relV rest .no S] (.tup [I 0,I 4]):=by
  have he:errC rest S=4:=by
    unfold errC
    rw [if_neg (by rw [h.valid hr hS];decide),if_pos (h.keeps hS _).ok]
  have hf:∀ p,fewE rest S p=0:=fun p=>by rw [fewE,if_neg (by rw [he];decide)]
  have h1:=f26 rest .no rfl S (by omega)
  have h2:=f28 rest .no rfl S (by omega)
  rw [hf,he] at h1 h2
  exact ⟨h1,h2⟩
theorem Tru.at {a b:Nat} (ha:a < 11) (hb:b < 11):vTru ons offs S.length b - vTru ons offs S.length a≤tabA S rest a b:=(h.keeps hS _).pot a b ha hb
theorem Tru.on {i:Nat} (hi:i < S.length):∃ a b,Fn P0 14 [relV rest .no S,I i] (.tup [.agg [I a,I b],I 0])∧a≤ons.getD i 0∧ons.getD i 0≤b:=by
  have h1:=f14 rest .no rfl S (by omega) i
  have he:=h.err hr hS (c:=isSt S i) (e:=0) (by simp [isSt,hi])
  rw [onE,he,spI,if_pos rfl] at h1
  refine ⟨_,_,h1,?_,?_⟩
  · have := h.at hr hS (a := 2 * i) (b := 10) (by omega) (by decide)
    rw [vTru_on hi,show vTru ons offs S.length 10=0 by unfold vTru;rw [if_neg (by omega)]] at this
    show -(tabA S rest (2 * i) 10)≤_
    omega
  · have := h.at hr hS (a := 10) (b := 2 * i) (by decide) (by omega)
    rw [vTru_on hi,show vTru ons offs S.length 10=0 by unfold vTru;rw [if_neg (by omega)]] at this
    show _≤tabA S rest 10 (2 * i)
    omega
theorem Tru.off {i:Nat} (hi:i < S.length):∃ a b,Fn P0 16 [relV rest .no S,I i] (.tup [.agg [I a,I b],I 0])∧a≤offs.getD i 0∧offs.getD i 0≤b:=by
  have h1:=f16t rest .no rfl S (by omega) i
  have he:=h.err hr hS (c:=isSt S i) (e:=0) (by simp [isSt,hi])
  rw [offE,he,spI,if_pos rfl] at h1
  refine ⟨_,_,h1,?_,?_⟩
  · have := h.at hr hS (a := 2 * i + 1) (b := 10) (by omega) (by decide)
    rw [vTru_off hi,show vTru ons offs S.length 10=0 by unfold vTru;rw [if_neg (by omega)]] at this
    show -(tabA S rest (2 * i+1) 10)≤_
    omega
  · have := h.at hr hS (a := 10) (b := 2 * i + 1) (by decide) (by omega)
    rw [vTru_off hi,show vTru ons offs S.length 10=0 by unfold vTru;rw [if_neg (by omega)]] at this
    show _≤tabA S rest 10 (2 * i+1)
    omega
theorem Tru.len {i:Nat} (hi:i < S.length):∃ a b,Fn P0 18 [relV rest .no S,I i] (.tup [.agg [I a,I b],I 0])∧a≤offs.getD i 0 - ons.getD i 0∧offs.getD i 0 - ons.getD i 0≤b:=by
  have h1:=f18t rest .no rfl S (by omega) i
  have he:=h.err hr hS (c:=isSt S i) (e:=0) (by simp [isSt,hi])
  rw [lenE,he,spI,if_pos rfl] at h1
  refine ⟨_,_,h1,?_,?_⟩
  · have := h.at hr hS (a := 2 * i + 1) (b := 2 * i) (by omega) (by omega)
    rw [vTru_off hi,vTru_on hi] at this
    show -(tabA S rest (2 * i+1) (2 * i))≤_
    omega
  · have := h.at hr hS (a := 2 * i) (b := 2 * i + 1) (by omega) (by omega)
    rw [vTru_off hi,vTru_on hi] at this
    show _≤tabA S rest (2 * i) (2 * i+1)
    omega
theorem Tru.hand {i : Nat} (hi : i < S.length) : ∃ n e : Int, Fn P0 20 [relV rest .no S, I i] (.tup [I n, I e]) ∧ (i + 1 = S.length → e = 2) ∧ (i + 1 < S.length → e = 0 ∧ (n = 2 → ons.getD (i + 1) 0 ≤ offs.getD i 0) ∧ (n = 0 → ¬ ons.getD (i + 1) 0 ≤ offs.getD i 0)) := by
  have h1:=f20 rest .no rfl S (by omega) i
  refine ⟨_,_,h1,fun hl=>?_,fun hl=>?_⟩
  · unfold errT
    rw [if_neg (by rw [h.valid hr hS];decide),if_pos]
    simp only [hanC,isSt]
    rw [decide_eq_false (show ¬ ((i:Int)+1 < (S.length:Int)) by omega),Bool.and_false,Bool.and_false]
  · have he := h.err hr hS (c := hanC S i) (e := 0) (by
      simp only [hanC,isSt,Bool.and_eq_true,decide_eq_true_eq];omega)
    refine ⟨he,?_⟩
    rw [hanE,he,if_pos rfl]
    have g1:=h.at hr hS (a:=2 * i+1) (b:=2 * (i+1)) (by omega) (by omega)
    have g2:=h.at hr hS (a:=2 * (i+1)) (b:=2 * i+1) (by omega) (by omega)
    rw [vTru_off hi,vTru_on hl] at g1 g2
    rw [show ((i:Int)).toNat=i from by omega]
    unfold Tab.hand Tab.btw
    simp only
    constructor
    · intro hn
      split at hn
      · omega
      · split at hn<;>cases hn
    · intro hn
      split at hn
      · cases hn
      · split at hn
        · omega
        · cases hn
theorem Tru.gap {f m : Nat} (hfm : f ≤ m) (hm : m ≤ 600) (hno : ∀ k, k < S.length → ¬ (ons.getD k 0 ≤ m ∧ (m : Int) < offs.getD k 0)) : ∃ n : Int, Fn P0 24 [relV rest .no S, I f, I m] (.tup [I n, I 0]) ∧ (f : Int) ≤ n ∧ n ≤ m := by
  have v10:vTru ons offs S.length 10=0:=by unfold vTru;rw [if_neg (by omega)]
  have hg:∀ d k,k+d=S.length→(tabA S rest).gap m d k=true:=by
    intro d
    induction d with
    | zero=>intro k _;rfl
    | succ d ih =>
      intro k hk
      simp only [Tab.gap]
      have hkl:k < S.length:=by omega
      have g1:=h.at hr hS (a:=10) (b:=2 * k) (by decide) (by omega)
      have g2:=h.at hr hS (a:=2 * k+1) (b:=10) (by omega) (by decide)
      rw [vTru_on hkl,v10] at g1
      rw [vTru_off hkl,v10] at g2
      have g3:=hno k hkl
      by_cases c1:(m:Int) < ((tabA S rest).min (2 * k)).2
      · rw [if_pos c1]
      · rw [if_neg c1, if_neg, ih (k + 1) (by omega)]
        intro c2
        have c1':¬ (m:Int) < tabA S rest 10 (2 * k):=c1
        have c2':(m:Int) < -(tabA S rest (2 * k+1) 10):=c2
        omega
  have h1:=f24t rest .no rfl S (by omega) f m
  cases hq:gapM rest S f m with
  | none =>
    have hn:(tabA S rest).gap m S.length 0=false:=firstM_none hq m (by omega) (Int.le_refl _)
    have hy:=hg S.length 0 (by omega)
    rw [hy] at hn;cases hn
  | some n =>
    obtain ⟨q1,q2,_⟩:=firstM_some hq
    have he:=h.err hr hS (c:=minsOk f m) (e:=0) (by simp only [minsOk,Bool.and_eq_true,decide_eq_true_eq];omega)
    rw [hq] at h1
    rw [minE,show noE (some n)=0 from rfl,he,if_pos rfl] at h1
    exact ⟨n,h1,q1,q2⟩
theorem Tru.nob:∃ n e:Int,Fn P0 22 [relV rest .no S,I 0,I 600] (.tup [I n,I e])∧((e=4∧n=0)∨(e=0∧∀ k,k < S.length→¬ (ons.getD k 0≤n∧n < offs.getD k 0))):=by
  have v10:vTru ons offs S.length 10=0:=by unfold vTru;rw [if_neg (by omega)]
  have h1:=f22t rest .no rfl S (by omega) 0 600
  have hmo:minsOk 0 600=true:=by decide
  cases hq:nobM rest S 0 600 with
  | none =>
    have he:=h.err hr hS (c:=minsOk 0 600) (e:=4) hmo
    rw [hq,minE,show noE none=4 from rfl,he,if_neg (by decide)] at h1
    exact ⟨0,4,h1,.inl ⟨rfl,rfl⟩⟩
  | some n =>
    obtain ⟨q1,q2,q3,_⟩:=firstM_some hq
    have he:=h.err hr hS (c:=minsOk 0 600) (e:=0) hmo
    rw [hq,minE,show noE (some n)=0 from rfl,he,if_pos rfl] at h1
    refine ⟨n,0,h1,.inr ⟨rfl,fun k hk hc=>?_⟩⟩
    have g1:=h.at hr hS (a:=2 * k) (b:=10) (by omega) (by decide)
    have g2:=h.at hr hS (a:=10) (b:=2 * k+1) (by decide) (by omega)
    rw [vTru_on hk,v10] at g1
    rw [vTru_off hk,v10] at g2
    have hr':(tabA S rest).rides n k=true:=by
      simp only [Tab.rides,Bool.and_eq_true,decide_eq_true_eq]
      exact ⟨by show -(tabA S rest (2 * k) 10)≤n;omega,by show n < tabA S rest 10 (2 * k+1);omega⟩
    have g3:(tabA S rest).empty S.length n=true:=q3
    rw [empty_no hk hr'] at g3;cases g3
end
end Go.Pv
namespace Go.Pv
open Go.Proofs Go.Am
set_option maxRecDepth 10000
theorem f31 (a b n:Int) (h:a≤n∧n≤b):Fn P0 31 [.agg [I a,I b],I n] (B true):=by
  refine PFun.of (C:=c31) (cx_ok _ _ _) rfl (fn:=Try.f31) (by kernel_rfl) (c:=_) rfl rfl rfl ?_
  refine Run.seq (Run.region (cx_ok _ _ _) (Reg.op rfl (Ope.boxF rfl rfl ?_)))
  refine Reg.op rfl (Ope.asg rfl ?_)
  refine Reg.nil (Run.seq (Run.region (cx_ok _ _ _) (Reg.op rfl (Ope.fld rfl rfl ?_))))
  refine Reg.op rfl (Ope.load rfl rfl ?_)
  refine Reg.op rfl (Ope.mov rfl ?_)
  refine Reg.op rfl (Ope.le rfl rfl ?_)
  refine Reg.op rfl (Ope.mov rfl ?_)
  refine Reg.splitX rfl rfl (fun hg=>?_) fun hg=>?_
  ·refine Reg.on rfl rfl rfl (Ope.mov rfl ?_)
   refine Reg.on rfl rfl rfl (Ope.fld rfl rfl ?_)
   refine Reg.on rfl rfl rfl (Ope.load rfl rfl ?_)
   refine Reg.on rfl rfl rfl (Ope.le rfl rfl ?_)
   refine Reg.op rfl (Ope.pickT rfl rfl ?_)
   refine Reg.op rfl (Ope.asg rfl ?_)
   refine Reg.nil (Run.ret (fin_ret (.tmp rfl .nil) rfl ?_))
   (rw [decide_eq_true h.2];rfl)
  ·(first | (exfalso;omega))
theorem f6e:Fn P0 6 [.sl .no (([]:List Nat).map U16)] (B true):=by
  refine PFun.of (C:=c6) (cx_ok _ _ _) rfl (fn:=Try.f6) (by kernel_rfl) (c:=_) rfl rfl rfl ?_
  refine Run.seq (Run.region (cx_ok _ _ _) (Reg.op rfl (Ope.asg rfl ?_)))
  refine Reg.nil (Run.seq (Run.seq (Run.region (cx_ok _ _ _) (Reg.op rfl (Ope.mov rfl ?_)))))
  refine Reg.op rfl (Ope.len (m:=0) rfl rfl ?_)
  refine Reg.op rfl (Ope.eq rfl rfl ?_)
  refine Reg.nil (Run.condX rfl (fun hc=>?_) fun hc=>?_)
  ·refine Run.seq (Run.region (cx_ok _ _ _) (Reg.op rfl (Ope.cf rfl rfl awakeF rfl ?_)))
   refine Reg.op rfl (Ope.asg rfl ?_)
   exact Reg.nil (Run.ret (Jmp.code (fin_ret (.tmp rfl .nil) rfl rfl)))
  ·exact absurd rfl hc
def thr (ons offs:List Int) (m:Int) (n:Nat):Bool:=(List.range n).any fun k=>decide (ons.getD k 0≤m) && decide (m < offs.getD k 0)
theorem thr_succ (ons offs:List Int) (m:Int) (n:Nat):thr ons offs m (n+1)=(thr ons offs m n || (decide (ons.getD n 0≤m) && decide (m < offs.getD n 0))):=by
  simp [thr,List.range_succ,List.any_append]
theorem thr_no {ons offs:List Int} {m:Int} {n:Nat} (h:thr ons offs m n=false):∀ k,k < n→¬ (ons.getD k 0≤m∧m < offs.getD k 0):=by
  intro k hk hc
  have:thr ons offs m n=true:=List.any_eq_true.2 ⟨k,List.mem_range.2 hk,by simp only [Bool.and_eq_true,decide_eq_true_eq];exact hc⟩
  rw [h] at this;cases this
theorem f6n (xs : List Nat) (hx : Dwn xs) : Fn P0 6 [.sl .no (xs.map U16)] (B true) := by
  have hmade:=f30 xs hx
  have hbx:PV.bds 0 [.sl .no (xs.map U16)]=true:=by
    have:=bd_sl (f:=U16) (tl:=.no) rfl (fun _=>rfl) xs
    simp only [PV.bds,this,Bool.and_true]
  have hne:xs.length≠0:=fun h=>hx.ne (List.length_eq_zero_iff.1 h)
  refine PFun.of (C:=c6) (cx_ok _ _ _) rfl (fn:=Try.f6) (by kernel_rfl) (c:=_) rfl rfl rfl ?_
  refine Run.seq (Run.region (cx_ok _ _ _) (Reg.op rfl (Ope.asg rfl ?_)))
  refine Reg.nil (Run.seq (Run.seq (Run.region (cx_ok _ _ _) (Reg.op rfl (Ope.mov rfl ?_)))))
  refine Reg.op rfl (Ope.len (m:=xs.length) rfl (by simp) ?_)
  refine Reg.op rfl (Ope.eq rfl rfl ?_)
  refine Reg.nil (Run.condX rfl (fun hc=>?_) fun hc=>?_)
  ·(exfalso;omega)
  ·refine Run.skip (Run.seq (Run.region (cx_ok _ _ _) (Reg.op rfl (Ope.mov rfl ?_))))
   refine Reg.op rfl (Ope.call rfl rfl rfl (PFun.call hmade hbx (fun v q=>?_) (fun v q=>q.elim)))
   obtain ⟨rest,S,ons,offs,hr11,hS,tru,rfl⟩:=q
   have hr:0≤rest∧rest≤60:=by omega
   have hb1:=bd_relF rest .no rfl S
   have bi:=bd_is rest .no rfl S
   have bi2:∀ a b,PV.bds 0 [relV rest .no S,I a,I b]=true:=fun a b=>by
     have:=bi a
     simp only [PV.bds,PV.bd] at this ⊢
     simpa using this
   have e1:=tru.l1
   have e2:=tru.l2
   refine Reg.op rfl (Ope.mov rfl ?_)
   refine Reg.op rfl (Ope.ext rfl rfl ?_)
   refine Reg.op rfl (Ope.ext rfl rfl ?_)
   refine Reg.op rfl (Ope.ext rfl rfl ?_)
   refine Reg.op rfl (Ope.newL rfl ?_)
   refine Reg.op0 (Ope.store rfl rfl rfl rfl rfl rfl ?_)
   refine Reg.op rfl (Ope.asg rfl ?_)
   refine Reg.op rfl (Ope.asg rfl ?_)
   refine Reg.nil (Run.seq (Run.frz (d:=3) true rfl rfl rfl ?_))
   refine Run.wide (m:=1) (l':=[]) (Nat.le_refl _) trivial ?_
   refine Run.region (cx_ok _ _ _) (Reg.op rfl (Ope.load rfl rfl ?_))
   refine Reg.op rfl (Ope.cf rfl rfl (tru.clash hr hS).1 hb1 ?_)
   refine Reg.op rfl (Ope.mov rfl ?_)
   refine Reg.op rfl (Ope.ext rfl rfl ?_)
   refine Reg.op rfl (Ope.ext rfl rfl ?_)
   refine Reg.op rfl (Ope.asg rfl ?_)
   refine Reg.op rfl (Ope.asg rfl ?_)
   refine Reg.nil (Run.seq (Run.region (cx_ok _ _ _) (Reg.op rfl (Ope.load rfl rfl ?_))))
   refine Reg.op rfl (Ope.cf rfl rfl (tru.clash hr hS).2 hb1 ?_)
   refine Reg.op rfl (Ope.mov rfl ?_)
   refine Reg.op rfl (Ope.ext rfl rfl ?_)
   refine Reg.op rfl (Ope.ext rfl rfl ?_)
   refine Reg.op rfl (Ope.asg rfl ?_)
   refine Reg.op rfl (Ope.asg rfl ?_)
   refine Reg.nil (Run.seq (Run.seq (Run.region (cx_ok _ _ _) (Reg.op rfl (Ope.mov rfl ?_)))))
   refine Reg.op rfl (Ope.ne rfl rfl ?_)
   refine Reg.op rfl (Ope.mov rfl ?_)
   refine Reg.on rfl rfl rfl (Ope.mov rfl ?_)
   refine Reg.on rfl rfl rfl (Ope.ne rfl rfl ?_)
   refine Reg.op rfl (Ope.pickF rfl rfl ?_)
   refine Reg.nil (Run.condF rfl (Run.skip (Run.seq (Run.seq (Run.region (cx_ok _ _ _) (Reg.op rfl (Ope.mov rfl ?_)))))))
   refine Reg.op rfl (Ope.len (m:=S.length) rfl (by rw [List.length_map];exact e1) ?_)
   refine Reg.op rfl (Ope.mov rfl ?_)
   refine Reg.nil (Run.block (Run.loop (α:=Nat×Nat) (fun s=>[(3,.fp (relV rest .no S)),(4,.sl .no (ons.map I)),(5,.sl .no (offs.map I)),(56,I S.length),(57,I s.1)]) (fun s=>HE s.2 []) (fun s=>s.1≤S.length) (fun s=>S.length - s.1) (0,1) ⟨rfl,rfl,rfl,rfl,rfl,trivial⟩ rfl (Nat.zero_le _) (fun s hs=>?_)))
   obtain ⟨i,m⟩:=s
   have hi:i≤S.length:=hs
   refine Run.seq (Run.region (cx_ok _ _ _) (Reg.op rfl (Ope.lt rfl rfl ?_)))
   refine Reg.nil (Run.seq (Run.condX rfl (fun hc=>?_) fun hc=>?_))
   ·refine Run.skip (Run.seq (Run.block (Run.seq ?_)))
    have hlt:i < S.length:=by omega
    obtain ⟨a1,b1,hOn,ha1,hb1'⟩:=tru.on hr hS hlt
    obtain ⟨a2,b2,hOff,ha2,hb2⟩:=tru.off hr hS hlt
    obtain ⟨a3,b3,hLen,ha3,hb3⟩:=tru.len hr hS hlt
    obtain ⟨hn,he,hHan,hlast,hnext⟩:=tru.hand hr hS hlt
    have hio:i < ons.length:=by omega
    have hif:i < offs.length:=by omega
    have go:ons.getD i 0=ons[i]:=by simp [List.getD,hio]
    have gf:offs.getD i 0=offs[i]:=by simp [List.getD,hif]
    have heach:=tru.each i S[i] (List.getElem?_eq_getElem hlt)
    rw [go,gf] at heach
    rw [go] at ha1 hb1' ha3 hb3
    rw [gf] at ha2 hb2 ha3 hb3 hnext
    refine Run.region (cx_ok _ _ _) (Reg.op rfl (Ope.mov rfl ?_))
    refine Reg.op rfl (Ope.asg rfl ?_)
    refine Reg.nil (Run.seq (Run.region (cx_ok _ _ _) (Reg.op rfl (Ope.load rfl rfl ?_))))
    refine Reg.op rfl (Ope.mov rfl ?_)
    refine Reg.op rfl (Ope.cf rfl rfl hOn (bi i) ?_)
    refine Reg.op rfl (Ope.mov rfl ?_)
    refine Reg.op rfl (Ope.ext rfl rfl ?_)
    refine Reg.op rfl (Ope.ext rfl rfl ?_)
    refine Reg.op rfl (Ope.newL rfl ?_)
    refine Reg.op0 (Ope.store rfl rfl hget_hd rfl rfl rfl ?_)
    refine Reg.op rfl (Ope.asg rfl ?_)
    refine Reg.nil (Run.seq (Run.frz (d:=11) true rfl hget_hd rfl ?_))
    refine Run.wide (m:=m+1) (l':=[]) (Nat.le_refl _) trivial ?_
    refine Run.region (cx_ok _ _ _) (Reg.op rfl (Ope.load rfl rfl ?_))
    refine Reg.op rfl (Ope.mov rfl ?_)
    refine Reg.op rfl (Ope.cf rfl rfl hOff (bi i) ?_)
    refine Reg.op rfl (Ope.mov rfl ?_)
    refine Reg.op rfl (Ope.ext rfl rfl ?_)
    refine Reg.op rfl (Ope.ext rfl rfl ?_)
    refine Reg.op rfl (Ope.newL rfl ?_)
    refine Reg.op0 (Ope.store rfl rfl hget_hd rfl rfl rfl ?_)
    refine Reg.op rfl (Ope.asg rfl ?_)
    refine Reg.nil (Run.seq (Run.frz (d:=13) true rfl hget_hd rfl ?_))
    refine Run.wide (m:=m+1+1) (l':=[]) (Nat.le_refl _) trivial ?_
    refine Run.region (cx_ok _ _ _) (Reg.op rfl (Ope.load rfl rfl ?_))
    refine Reg.op rfl (Ope.mov rfl ?_)
    refine Reg.op rfl (Ope.cf rfl rfl hLen (bi i) ?_)
    refine Reg.op rfl (Ope.mov rfl ?_)
    refine Reg.op rfl (Ope.ext rfl rfl ?_)
    refine Reg.op rfl (Ope.ext rfl rfl ?_)
    refine Reg.op rfl (Ope.newL rfl ?_)
    refine Reg.op0 (Ope.store rfl rfl hget_hd rfl rfl rfl ?_)
    refine Reg.op rfl (Ope.asg rfl ?_)
    refine Reg.nil (Run.seq (Run.seq (Run.frz (d:=15) true rfl hget_hd rfl ?_)))
    refine Run.wide (m:=m+1+1+1) (l':=[]) (Nat.le_refl _) trivial ?_
    refine Run.draw (cx_ok _ _ _) [(0,true),(1,true),(2,true),(3,true),(4,true),(5,true),(6,true),(7,true),(8,true),(9,true),(10,true),(11,true),(12,true),(13,true),(14,true),(15,true),(16,true),(17,true),(18,true),(19,true),(20,true),(21,true),(22,true),(23,true),(24,true),(25,true),(26,true),(27,true),(28,true),(29,true),(30,true),(31,true),(32,true),(33,true),(34,true),(35,true),(36,true),(37,true),(38,true),(39,true),(40,true),(41,true)] (by kernel_rfl) (Dra.op' rfl rfl rfl .sure (Ope.mov rfl ?_))
    refine Dra.op' rfl rfl rfl .sure (Ope.ne rfl rfl ?_)
    refine Dra.op' rfl rfl rfl .sure (Ope.mov rfl ?_)
    refine Dra.on' rfl rfl rfl rfl rfl .sure (Ope.load rfl rfl ?_)
    refine Dra.on' rfl rfl rfl rfl rfl .sure (Ope.mov rfl ?_)
    refine Dra.on' rfl rfl rfl rfl rfl .sure (Ope.mov rfl ?_)
    refine Dra.on' rfl rfl rfl rfl rfl .sure (Ope.idxM (m:=i) (f:=I) rfl rfl rfl hio (fun _=>rfl) ?_)
    refine Dra.on' rfl rfl rfl rfl rfl .sure (Ope.load rfl rfl ?_)
    refine Dra.on' rfl rfl rfl rfl rfl .sure (Ope.cf rfl rfl (f31 a1 b1 ons[i] ⟨ha1,hb1'⟩) rfl ?_)
    refine Dra.on' rfl rfl rfl rfl rfl .sure (Ope.not rfl ?_)
    refine Dra.op' rfl rfl rfl .sure (Ope.pickF rfl rfl ?_)
    refine Dra.op' rfl rfl rfl .sure (Ope.mov rfl ?_)
    refine Dra.on' rfl rfl rfl rfl rfl .sure (Ope.mov rfl ?_)
    refine Dra.on' rfl rfl rfl rfl rfl .sure (Ope.ne rfl rfl ?_)
    refine Dra.op' rfl rfl rfl .sure (Ope.pickF rfl rfl ?_)
    refine Dra.op' rfl rfl rfl .sure (Ope.mov rfl ?_)
    refine Dra.on' rfl rfl rfl rfl rfl .sure (Ope.load rfl rfl ?_)
    refine Dra.on' rfl rfl rfl rfl rfl .sure (Ope.mov rfl ?_)
    refine Dra.on' rfl rfl rfl rfl rfl .sure (Ope.mov rfl ?_)
    refine Dra.on' rfl rfl rfl rfl rfl .sure (Ope.idxM (m:=i) (f:=I) rfl rfl rfl hif (fun _=>rfl) ?_)
    refine Dra.on' rfl rfl rfl rfl rfl .sure (Ope.load rfl rfl ?_)
    refine Dra.on' rfl rfl rfl rfl rfl .sure (Ope.cf rfl rfl (f31 a2 b2 offs[i] ⟨ha2,hb2⟩) rfl ?_)
    refine Dra.on' rfl rfl rfl rfl rfl .sure (Ope.not rfl ?_)
    refine Dra.op' rfl rfl rfl .sure (Ope.pickF rfl rfl ?_)
    refine Dra.op' rfl rfl rfl .sure (Ope.mov rfl ?_)
    refine Dra.on' rfl rfl rfl rfl rfl .sure (Ope.mov rfl ?_)
    refine Dra.on' rfl rfl rfl rfl rfl .sure (Ope.ne rfl rfl ?_)
    refine Dra.op' rfl rfl rfl .sure (Ope.pickF rfl rfl ?_)
    refine Dra.op' rfl rfl rfl .sure (Ope.mov rfl ?_)
    refine Dra.on' rfl rfl rfl rfl rfl .sure (Ope.load rfl rfl ?_)
    refine Dra.on' rfl rfl rfl rfl rfl .sure (Ope.mov rfl ?_)
    refine Dra.on' rfl rfl rfl rfl rfl .sure (Ope.mov rfl ?_)
    refine Dra.on' rfl rfl rfl rfl rfl .sure (Ope.idxM (m:=i) (f:=I) rfl rfl rfl hif (fun _=>rfl) ?_)
    refine Dra.on' rfl rfl rfl rfl rfl .sure (Ope.load rfl rfl ?_)
    refine Dra.on' rfl rfl rfl rfl rfl .sure (Ope.mov rfl ?_)
    refine Dra.on' rfl rfl rfl rfl rfl .sure (Ope.mov rfl ?_)
    refine Dra.on' rfl rfl rfl rfl rfl .sure (Ope.idxM (m:=i) (f:=I) rfl rfl rfl hio (fun _=>rfl) ?_)
    refine Dra.on' rfl rfl rfl rfl rfl .sure (Ope.load rfl rfl ?_)
    refine Dra.on' rfl rfl rfl rfl rfl .sure (Ope.sub rfl rfl (by omega) ?_)
    refine Dra.on' rfl rfl rfl rfl rfl .sure (Ope.cf rfl rfl (f31 a3 b3 (offs[i] - ons[i]) ⟨ha3,hb3⟩) rfl ?_)
    refine Dra.on' rfl rfl rfl rfl rfl .sure (Ope.not rfl ?_)
    refine Dra.op' rfl rfl rfl .sure (Ope.pickF rfl rfl ?_)
    refine Dra.nil (Run.condF rfl (Run.skip (Run.seq (Run.region (cx_ok _ _ _) (Reg.op rfl (Ope.load rfl rfl ?_))))))
    refine Reg.op rfl (Ope.mov rfl ?_)
    refine Reg.op rfl (Ope.cf rfl rfl hHan (bi i) ?_)
    refine Reg.op rfl (Ope.mov rfl ?_)
    refine Reg.op rfl (Ope.ext rfl rfl ?_)
    refine Reg.op rfl (Ope.ext rfl rfl ?_)
    refine Reg.op rfl (Ope.asg rfl ?_)
    refine Reg.op rfl (Ope.asg rfl ?_)
    refine Reg.nil (Run.seq (Run.seq (Run.region (cx_ok _ _ _) (Reg.op rfl (Ope.mov rfl ?_)))))
    refine Reg.op rfl (Ope.add rfl rfl (by omega) ?_)
    refine Reg.op rfl (Ope.mov rfl ?_)
    refine Reg.op rfl (Ope.len (m:=S.length) rfl (by rw [List.length_map];exact e1) ?_)
    refine Reg.op rfl (Ope.eq rfl rfl ?_)
    refine Reg.nil (Run.condX rfl (fun hc=>?_) fun hc=>?_)
    ·refine Run.seq (Run.seq ?_)
     obtain rfl:he=2:=hlast (by omega)
     refine Run.region (cx_ok _ _ _) (Reg.op rfl (Ope.mov rfl ?_))
     refine Reg.op rfl (Ope.ne rfl rfl ?_)
     refine Reg.nil (Run.condF rfl (Run.skip (Run.exit (Jmp.code (Jmp.here (Run.region (cx_ok _ _ _) (Reg.op rfl (Ope.add rfl rfl (by omega) ?_))))))))
     refine Reg.op rfl (Ope.mov rfl ?_)
     exact Reg.nil (Run.lend ⟨(i+1,m+1+1+1),by show S.length - (i+1) < S.length - i;omega,by show i+1≤S.length;omega,⟨rfl,rfl,rfl,rfl,rfl,trivial⟩,rfl,rfl⟩)
    ·refine Run.skip (Run.seq ?_)
     have hlt1:i+1 < S.length:=by
       rcases Nat.lt_or_ge (i+1) S.length with h | h
       · exact h
       · exact absurd (by omega) hc
     obtain ⟨rfl,hn2,hn0⟩:=hnext hlt1
     have hio1:i+1 < ons.length:=by omega
     have go1:ons.getD (i+1) 0=ons[i+1]:=by simp [List.getD,hio1]
     rw [go1] at hn2 hn0
     have hi1:((i:Int)+1)=((i+1:Nat):Int):=by omega
     refine Run.draw (cx_ok _ _ _) [(0,true),(1,true),(2,true),(3,true),(4,true),(5,true),(6,true),(7,true),(8,true),(9,true),(10,true)] (by kernel_rfl) (Dra.op' rfl rfl rfl .sure (Ope.mov rfl ?_))
     refine Dra.op' rfl rfl rfl .sure (Ope.mov rfl ?_)
     refine Dra.op' rfl rfl rfl .sure (Ope.add rfl rfl (by omega) ?_)
     rw [hi1]
     refine Dra.op' rfl rfl rfl .sure (Ope.idxM (m:=i+1) (f:=I) rfl rfl rfl hio1 (fun _=>rfl) ?_)
     refine Dra.op' rfl rfl rfl .sure (Ope.load rfl rfl ?_)
     refine Dra.op' rfl rfl rfl .sure (Ope.mov rfl ?_)
     refine Dra.op' rfl rfl rfl .sure (Ope.mov rfl ?_)
     refine Dra.op' rfl rfl rfl .sure (Ope.idxM (m:=i) (f:=I) rfl rfl rfl hif (fun _=>rfl) ?_)
     refine Dra.op' rfl rfl rfl .sure (Ope.load rfl rfl ?_)
     refine Dra.op' rfl rfl rfl .sure (Ope.le rfl rfl ?_)
     refine Dra.op' rfl rfl rfl .sure (Ope.asg rfl ?_)
     refine Dra.nil (Run.seq (Run.region (cx_ok _ _ _) (Reg.op rfl (Ope.mov rfl ?_))))
     refine Reg.op rfl (Ope.ne rfl rfl ?_)
     refine Reg.op rfl (Ope.mov rfl ?_)
     refine Reg.on rfl rfl rfl (Ope.mov rfl ?_)
     refine Reg.on rfl rfl rfl (Ope.eq rfl rfl ?_)
     refine Reg.on rfl rfl rfl (Ope.mov rfl ?_)
     refine Reg.splitX rfl rfl (fun hg=>?_) fun hg=>?_
     ·refine Reg.on rfl rfl rfl (Ope.mov rfl ?_)
      refine Reg.on rfl rfl rfl (Ope.not rfl ?_)
      refine Reg.on rfl rfl rfl (Ope.pickT rfl rfl ?_)
      refine Reg.op rfl (Ope.pickF rfl rfl ?_)
      refine Reg.op rfl (Ope.mov rfl ?_)
      refine Reg.splitX rfl rfl (fun hg=>?_) fun hg=>?_
      ·(first | (exfalso;omega))
      ·refine Reg.on rfl rfl rfl (Ope.mov rfl ?_)
       refine Reg.on rfl rfl rfl (Ope.eq rfl rfl ?_)
       refine Reg.on rfl rfl rfl (Ope.mov rfl ?_)
       refine Reg.splitX rfl rfl (fun hg=>?_) fun hg=>?_
       ·(first | (exfalso;omega))
       ·refine Reg.off rfl rfl rfl (Reg.on rfl rfl rfl (Ope.pickF rfl rfl ?_))
        refine Reg.op rfl (Ope.pickF rfl rfl ?_)
        refine Reg.nil (Run.condF rfl (Run.skip (Run.bend (Run.region (cx_ok _ _ _) (Reg.op rfl (Ope.add rfl rfl (by omega) ?_))))))
        refine Reg.op rfl (Ope.mov rfl ?_)
        exact Reg.nil (Run.lend ⟨(i+1,m+1+1+1),by show S.length - (i+1) < S.length - i;omega,by show i+1≤S.length;omega,⟨rfl,rfl,rfl,rfl,rfl,trivial⟩,rfl,rfl⟩)
     ·refine Reg.off rfl rfl rfl (Reg.off rfl rfl rfl (Reg.on rfl rfl rfl (Ope.pickF rfl rfl ?_)))
      refine Reg.op rfl (Ope.pickF rfl rfl ?_)
      refine Reg.op rfl (Ope.mov rfl ?_)
      refine Reg.on rfl rfl rfl (Ope.mov rfl ?_)
      refine Reg.on rfl rfl rfl (Ope.eq rfl rfl ?_)
      refine Reg.on rfl rfl rfl (Ope.mov rfl ?_)
      refine Reg.splitX rfl rfl (fun hg=>?_) fun hg=>?_
      ·refine Reg.on rfl rfl rfl (Ope.mov rfl ?_)
       refine Reg.on rfl rfl rfl (Ope.pickT rfl rfl ?_)
       refine Reg.op rfl (Ope.pickF rfl rfl ?_)
       refine Reg.nil (Run.condX rfl (fun hc=>?_) fun hc=>?_)
       ·(first | (exfalso;omega))
       ·refine Run.skip (Run.bend (Run.region (cx_ok _ _ _) (Reg.op rfl (Ope.add rfl rfl (by omega) ?_))))
        refine Reg.op rfl (Ope.mov rfl ?_)
        exact Reg.nil (Run.lend ⟨(i+1,m+1+1+1),by show S.length - (i+1) < S.length - i;omega,by show i+1≤S.length;omega,⟨rfl,rfl,rfl,rfl,rfl,trivial⟩,rfl,rfl⟩)
      ·refine Reg.off rfl rfl rfl (Reg.on rfl rfl rfl (Ope.pickF rfl rfl ?_))
       refine Reg.op rfl (Ope.pickF rfl rfl ?_)
       refine Reg.nil (Run.condF rfl (Run.skip (Run.bend (Run.region (cx_ok _ _ _) (Reg.op rfl (Ope.add rfl rfl (by omega) ?_))))))
       refine Reg.op rfl (Ope.mov rfl ?_)
       exact Reg.nil (Run.lend ⟨(i+1,m+1+1+1),by show S.length - (i+1) < S.length - i;omega,by show i+1≤S.length;omega,⟨rfl,rfl,rfl,rfl,rfl,trivial⟩,rfl,rfl⟩)
   ·refine Run.exit (Jmp.code (Jmp.round (Jmp.here (Run.seq (Run.region (cx_ok _ _ _) (Reg.op rfl (Ope.asg rfl ?_)))))))
    refine Reg.nil (Run.seq (Run.seq (Run.region (cx_ok _ _ _) (Reg.op rfl (Ope.mov rfl ?_)))))
    refine Reg.nil (Run.block (Run.loop (α:=Nat×Nat×Nat) (fun s=>[(3,.fp (relV rest .no S)),(4,.sl .no (ons.map I)),(5,.sl .no (offs.map I)),(20,I s.2.1),(161,I s.1)]) (fun s=>HE s.2.2 []) (fun s=>s.1≤601∧s.2.1≤1000) (fun s=>601 - s.1) (0,0,m) ⟨rfl,rfl,rfl,rfl,rfl,trivial⟩ rfl ⟨by show 0≤601;decide,by show 0≤1000;decide⟩ (fun s hs=>?_)))
    obtain ⟨t,f,m'⟩:=s
    obtain ⟨ht,hf⟩:=hs
    simp only at ht hf
    show Run _ _ _ _ [(3,.fp (relV rest .no S)),(4,.sl .no (ons.map I)),(5,.sl .no (offs.map I)),(20,I f),(161,I t)] [] (HE m' [])
    refine Run.seq (Run.region (cx_ok _ _ _) (Reg.op rfl (Ope.lt rfl rfl ?_)))
    refine Reg.nil (Run.seq (Run.condX rfl (fun hc=>?_) fun hc=>?_))
    ·refine Run.skip (Run.seq (Run.block (Run.seq (Run.region (cx_ok _ _ _) (Reg.op rfl (Ope.mov rfl ?_))))))
     refine Reg.op rfl (Ope.asg rfl ?_)
     refine Reg.nil (Run.seq (Run.region (cx_ok _ _ _) (Reg.op rfl (Ope.asg rfl ?_))))
     refine Reg.nil (Run.seq (Run.seq (Run.region (cx_ok _ _ _) (Reg.op rfl (Ope.mov rfl ?_)))))
     refine Reg.op rfl (Ope.len (m:=S.length) rfl (by rw [List.length_map];exact e1) ?_)
     refine Reg.op rfl (Ope.mov rfl ?_)
     refine Reg.nil (Run.block (Run.loop (α:=Nat) (fun i=>[(3,.fp (relV rest .no S)),(4,.sl .no (ons.map I)),(5,.sl .no (offs.map I)),(20,I f),(161,I t),(21,I t),(22,B (thr ons offs t i)),(165,I S.length),(166,I i)]) (fun i=>HE m' []) (fun i=>i≤S.length) (fun i=>S.length - i) 0 ⟨rfl,rfl,rfl,rfl,rfl,rfl,rfl,rfl,rfl,trivial⟩ rfl (Nat.zero_le _) (fun i hi=>?_)))
     refine Run.seq (Run.region (cx_ok _ _ _) (Reg.op rfl (Ope.lt rfl rfl ?_)))
     refine Reg.nil (Run.seq (Run.condX rfl (fun hc=>?_) fun hc=>?_))
     ·refine Run.skip (Run.seq (Run.block (Run.seq ?_)))
      have hlt:i < S.length:=by omega
      have hio:i < ons.length:=by omega
      have hif:i < offs.length:=by omega
      have go:ons.getD i 0=ons[i]:=by simp [List.getD,hio]
      have gf:offs.getD i 0=offs[i]:=by simp [List.getD,hif]
      have hth:=thr_succ ons offs t i
      rw [go,gf] at hth
      have hthT:∀ b,thr ons offs t i=b→b=true→thr ons offs t (i+1)=true:=fun b h1 h2=>by rw [hth,h1,h2];rfl
      refine Run.region (cx_ok _ _ _) (Reg.op rfl (Ope.mov rfl ?_))
      refine Reg.op rfl (Ope.asg rfl ?_)
      refine Reg.nil (Run.region (cx_ok _ _ _) (Reg.op rfl (Ope.mov rfl ?_)))
      refine Reg.op rfl (Ope.mov rfl ?_)
      refine Reg.splitX rfl rfl (fun hg=>?_) fun hg=>?_
      ·refine Reg.off rfl rfl rfl (Reg.off rfl rfl rfl (Reg.off rfl rfl rfl (Reg.off rfl rfl rfl (Reg.off rfl rfl rfl (Reg.off rfl rfl rfl (Reg.off rfl rfl rfl (Reg.past rfl rfl rfl (Reg.past rfl rfl rfl (Reg.past rfl rfl rfl (Reg.past rfl rfl rfl (Reg.past rfl rfl rfl (Reg.past rfl rfl rfl (Reg.off rfl rfl rfl (Reg.op rfl (Ope.pickT rfl rfl ?_)))))))))))))))
       refine Reg.op rfl (Ope.asg rfl ?_)
       refine Reg.nil (Run.bend (Run.region (cx_ok _ _ _) (Reg.op rfl (Ope.add rfl rfl (by omega) ?_))))
       refine Reg.op rfl (Ope.mov rfl ?_)
       refine Reg.nil ?_
       first
         | exact Run.lend ⟨i+1,by omega,by omega,⟨rfl,rfl,rfl,rfl,rfl,rfl,congrArg (fun x=>some (B x)) (show true=thr ons offs t (i+1) by rw [hth,hg];rfl),rfl,rfl,trivial⟩,rfl,rfl⟩
         | exact Run.lend ⟨i+1,by omega,by omega,⟨rfl,rfl,rfl,rfl,rfl,rfl,congrArg (fun x=>some (B x)) (show _=thr ons offs t (i+1) by rw [hth];simp [*]),rfl,rfl,trivial⟩,rfl,rfl⟩
      ·refine Reg.on rfl rfl rfl (Ope.mov rfl ?_)
       refine Reg.on rfl rfl rfl (Ope.mov rfl ?_)
       refine Reg.on rfl rfl rfl (Ope.idxM (m:=i) (f:=I) rfl rfl rfl hio (fun _=>rfl) ?_)
       refine Reg.on rfl rfl rfl (Ope.load rfl rfl ?_)
       refine Reg.on rfl rfl rfl (Ope.mov rfl ?_)
       refine Reg.on rfl rfl rfl (Ope.le rfl rfl ?_)
       refine Reg.on rfl rfl rfl (Ope.mov rfl ?_)
       refine Reg.splitX rfl rfl (fun hg=>?_) fun hg=>?_
       ·refine Reg.on rfl rfl rfl (Ope.mov rfl ?_)
        refine Reg.on rfl rfl rfl (Ope.mov rfl ?_)
        refine Reg.on rfl rfl rfl (Ope.mov rfl ?_)
        refine Reg.on rfl rfl rfl (Ope.idxM (m:=i) (f:=I) rfl rfl rfl hif (fun _=>rfl) ?_)
        refine Reg.on rfl rfl rfl (Ope.load rfl rfl ?_)
        refine Reg.on rfl rfl rfl (Ope.lt rfl rfl ?_)
        refine Reg.on rfl rfl rfl (Ope.pickT rfl rfl ?_)
        refine Reg.op rfl (Ope.pickF rfl rfl ?_)
        refine Reg.op rfl (Ope.asg rfl ?_)
        refine Reg.nil (Run.bend (Run.region (cx_ok _ _ _) (Reg.op rfl (Ope.add rfl rfl (by omega) ?_))))
        refine Reg.op rfl (Ope.mov rfl ?_)
        refine Reg.nil ?_
        first
          | exact Run.lend ⟨i+1,by omega,by omega,⟨rfl,rfl,rfl,rfl,rfl,rfl,congrArg (fun x=>some (B x)) (show true=thr ons offs t (i+1) by rw [hth,hg];rfl),rfl,rfl,trivial⟩,rfl,rfl⟩
          | exact Run.lend ⟨i+1,by omega,by omega,⟨rfl,rfl,rfl,rfl,rfl,rfl,congrArg (fun x=>some (B x)) (show _=thr ons offs t (i+1) by rw [hth];simp [*]),rfl,rfl,trivial⟩,rfl,rfl⟩
       ·refine Reg.off rfl rfl rfl (Reg.off rfl rfl rfl (Reg.off rfl rfl rfl (Reg.off rfl rfl rfl (Reg.off rfl rfl rfl (Reg.off rfl rfl rfl (Reg.on rfl rfl rfl (Ope.pickF rfl rfl ?_)))))))
        refine Reg.op rfl (Ope.pickF rfl rfl ?_)
        refine Reg.op rfl (Ope.asg rfl ?_)
        refine Reg.nil (Run.bend (Run.region (cx_ok _ _ _) (Reg.op rfl (Ope.add rfl rfl (by omega) ?_))))
        refine Reg.op rfl (Ope.mov rfl ?_)
        refine Reg.nil ?_
        first
          | exact Run.lend ⟨i+1,by omega,by omega,⟨rfl,rfl,rfl,rfl,rfl,rfl,congrArg (fun x=>some (B x)) (show true=thr ons offs t (i+1) by rw [hth,hg];rfl),rfl,rfl,trivial⟩,rfl,rfl⟩
          | exact Run.lend ⟨i+1,by omega,by omega,⟨rfl,rfl,rfl,rfl,rfl,rfl,congrArg (fun x=>some (B x)) (show _=thr ons offs t (i+1) by rw [hth];simp [*]),rfl,rfl,trivial⟩,rfl,rfl⟩
     ·refine Run.exit (Jmp.code (Jmp.round (Jmp.here (Run.seq (Run.seq ?_)))))
      obtain rfl:i=S.length:=by omega
      refine Run.region (cx_ok _ _ _) (Reg.op rfl (Ope.mov rfl ?_))
      refine Reg.op rfl (Ope.mov rfl ?_)
      refine Reg.splitX rfl rfl (fun hg=>?_) fun hg=>?_
      ·refine Reg.off rfl rfl rfl (Reg.off rfl rfl rfl (Reg.off rfl rfl rfl (Reg.op rfl (Ope.pickT rfl rfl ?_))))
       refine Reg.nil (Run.condT rfl (Run.exit (Jmp.code (Jmp.here (Run.region (cx_ok _ _ _) (Reg.op rfl (Ope.add rfl rfl (by omega) ?_)))))))
       refine Reg.op rfl (Ope.mov rfl ?_)
       refine Reg.nil ?_
       first
         | exact Run.lend ⟨(t+1,f,m'),by show 601 - (t+1) < 601 - t;omega,⟨by show t+1≤601;omega,hf⟩,⟨rfl,rfl,rfl,rfl,rfl,trivial⟩,rfl,rfl⟩
         | exact Run.lend ⟨(t+1,t+1+t / 7,m'),by show 601 - (t+1) < 601 - t;omega,⟨by show t+1≤601;omega,by show t+1+t / 7≤1000;omega⟩,⟨rfl,rfl,rfl,rfl,rfl,trivial⟩,rfl,rfl⟩
      ·refine Reg.on rfl rfl rfl (Ope.mov rfl ?_)
       refine Reg.on rfl rfl rfl (Ope.mov rfl ?_)
       refine Reg.on rfl rfl rfl (Ope.lt rfl rfl ?_)
       refine Reg.op rfl (Ope.pickF rfl rfl ?_)
       refine Reg.nil (Run.condX rfl (fun hc=>?_) fun hc=>?_)
       ·refine Run.exit (Jmp.code (Jmp.here (Run.region (cx_ok _ _ _) (Reg.op rfl (Ope.add rfl rfl (by omega) ?_)))))
        refine Reg.op rfl (Ope.mov rfl ?_)
        refine Reg.nil ?_
        first
          | exact Run.lend ⟨(t+1,f,m'),by show 601 - (t+1) < 601 - t;omega,⟨by show t+1≤601;omega,hf⟩,⟨rfl,rfl,rfl,rfl,rfl,trivial⟩,rfl,rfl⟩
          | exact Run.lend ⟨(t+1,t+1+t / 7,m'),by show 601 - (t+1) < 601 - t;omega,⟨by show t+1≤601;omega,by show t+1+t / 7≤1000;omega⟩,⟨rfl,rfl,rfl,rfl,rfl,trivial⟩,rfl,rfl⟩
       ·refine Run.skip (Run.seq ?_)
        have hft:f≤t:=by omega
        obtain ⟨n,hGap,hn1,hn2⟩:=tru.gap hr hS hft (by omega) (thr_no hg)
        refine Run.region (cx_ok _ _ _) (Reg.op rfl (Ope.load rfl rfl ?_))
        refine Reg.op rfl (Ope.mov rfl ?_)
        refine Reg.op rfl (Ope.mov rfl ?_)
        refine Reg.op rfl (Ope.cf rfl rfl hGap (bi2 f t) ?_)
        refine Reg.op rfl (Ope.mov rfl ?_)
        refine Reg.op rfl (Ope.ext rfl rfl ?_)
        refine Reg.op rfl (Ope.ext rfl rfl ?_)
        refine Reg.op rfl (Ope.asg rfl ?_)
        refine Reg.op rfl (Ope.asg rfl ?_)
        refine Reg.nil (Run.seq (Run.seq (Run.region (cx_ok _ _ _) (Reg.op rfl (Ope.mov rfl ?_)))))
        refine Reg.op rfl (Ope.ne rfl rfl ?_)
        refine Reg.op rfl (Ope.mov rfl ?_)
        refine Reg.on rfl rfl rfl (Ope.mov rfl ?_)
        refine Reg.on rfl rfl rfl (Ope.mov rfl ?_)
        refine Reg.on rfl rfl rfl (Ope.lt rfl rfl ?_)
        refine Reg.op rfl (Ope.pickF rfl rfl ?_)
        refine Reg.op rfl (Ope.mov rfl ?_)
        refine Reg.splitX rfl rfl (fun hg=>?_) fun hg=>?_
        ·(first | (exfalso;omega))
        ·refine Reg.on rfl rfl rfl (Ope.mov rfl ?_)
         refine Reg.on rfl rfl rfl (Ope.mov rfl ?_)
         refine Reg.on rfl rfl rfl (Ope.gt rfl rfl ?_)
         refine Reg.op rfl (Ope.pickF rfl rfl ?_)
         refine Reg.nil (Run.condX rfl (fun hc=>?_) fun hc=>?_)
         ·(first | (exfalso;omega))
         ·refine Run.skip (Run.region (cx_ok _ _ _) (Reg.op rfl (Ope.mov rfl ?_)))
          refine Reg.op rfl (Ope.add rfl rfl (by omega) ?_)
          refine Reg.op rfl (Ope.mov rfl ?_)
          refine Reg.op rfl (Ope.quoN (p:=t) (q:=7) rfl rfl rfl rfl (by decide) (by show _ < 2 ^ 63;omega) ?_)
          refine Reg.op rfl (Ope.add rfl rfl (by omega) ?_)
          refine Reg.op rfl (Ope.asg rfl ?_)
          refine Reg.nil (Run.bend (Run.region (cx_ok _ _ _) (Reg.op rfl (Ope.add rfl rfl (by omega) ?_))))
          refine Reg.op rfl (Ope.mov rfl ?_)
          refine Reg.nil ?_
          first
            | exact Run.lend ⟨(t+1,f,m'),by show 601 - (t+1) < 601 - t;omega,⟨by show t+1≤601;omega,hf⟩,⟨rfl,rfl,rfl,rfl,rfl,trivial⟩,rfl,rfl⟩
            | exact Run.lend ⟨(t+1,t+1+t / 7,m'),by show 601 - (t+1) < 601 - t;omega,⟨by show t+1≤601;omega,by show t+1+t / 7≤1000;omega⟩,⟨rfl,rfl,rfl,rfl,rfl,trivial⟩,rfl,rfl⟩
    ·refine Run.exit (Jmp.code (Jmp.round (Jmp.here (Run.seq ?_))))
     obtain ⟨n,e,hNob,hcase⟩:=tru.nob hr hS
     refine Run.region (cx_ok _ _ _) (Reg.op rfl (Ope.load rfl rfl ?_))
     refine Reg.op rfl (Ope.cf rfl rfl hNob (bi2 0 600) ?_)
     refine Reg.op rfl (Ope.mov rfl ?_)
     refine Reg.op rfl (Ope.ext rfl rfl ?_)
     refine Reg.op rfl (Ope.ext rfl rfl ?_)
     refine Reg.op rfl (Ope.asg rfl ?_)
     refine Reg.op rfl (Ope.asg rfl ?_)
     refine Reg.nil (Run.seq (Run.seq (Run.region (cx_ok _ _ _) (Reg.op rfl (Ope.mov rfl ?_)))))
     refine Reg.op rfl (Ope.ne rfl rfl ?_)
     refine Reg.nil (Run.condX rfl (fun hc=>?_) fun hc=>?_)
     ·refine Run.seq ?_
      obtain ⟨rfl,rfl⟩:e=4∧n=0:=by
        rcases hcase with h | h
        · exact h
        · exact absurd h.1 hc
      refine Run.region (cx_ok _ _ _) (Reg.op rfl (Ope.mov rfl ?_))
      refine Reg.op rfl (Ope.eq rfl rfl ?_)
      refine Reg.op rfl (Ope.mov rfl ?_)
      refine Reg.on rfl rfl rfl (Ope.mov rfl ?_)
      refine Reg.on rfl rfl rfl (Ope.eq rfl rfl ?_)
      refine Reg.op rfl (Ope.pickT rfl rfl ?_)
      refine Reg.op rfl (Ope.mov rfl ?_)
      refine Reg.on rfl rfl rfl (Ope.cf rfl rfl awakeF rfl ?_)
      refine Reg.op rfl (Ope.pickT rfl rfl ?_)
      refine Reg.op rfl (Ope.asg rfl ?_)
      exact Reg.nil (Run.ret (Jmp.code (fin_ret (.tmp rfl .nil) rfl rfl)))
     ·refine Run.skip (Run.seq (Run.seq ?_))
      have hno:∀ k,k < S.length→¬ (ons.getD k 0≤n∧n < offs.getD k 0):=by
        rcases hcase with h | h
        · omega
        · exact h.2
      clear hcase
      refine Run.region (cx_ok _ _ _) (Reg.op rfl (Ope.mov rfl ?_))
      refine Reg.op rfl (Ope.len (m:=S.length) rfl (by rw [List.length_map];exact e1) ?_)
      refine Reg.op rfl (Ope.mov rfl ?_)
      refine Reg.nil (Run.block (Run.loop (α:=Nat) (fun i=>[(4,.sl .no (ons.map I)),(5,.sl .no (offs.map I)),(26,I n),(235,I S.length),(236,I i)]) (fun i=>HE m' []) (fun i=>i≤S.length) (fun i=>S.length - i) 0 ⟨rfl,rfl,rfl,rfl,rfl,trivial⟩ rfl (Nat.zero_le _) (fun i hi=>?_)))
      refine Run.seq (Run.region (cx_ok _ _ _) (Reg.op rfl (Ope.lt rfl rfl ?_)))
      refine Reg.nil (Run.seq (Run.condX rfl (fun hc=>?_) fun hc=>?_))
      ·refine Run.skip (Run.seq (Run.block (Run.seq ?_)))
       have hlt:i < S.length:=by omega
       have hio:i < ons.length:=by omega
       have hif:i < offs.length:=by omega
       have go:ons.getD i 0=ons[i]:=by simp [List.getD,hio]
       have gf:offs.getD i 0=offs[i]:=by simp [List.getD,hif]
       have hni:=hno i hlt
       rw [go,gf] at hni
       clear hno
       refine Run.region (cx_ok _ _ _) (Reg.op rfl (Ope.mov rfl ?_))
       refine Reg.op rfl (Ope.asg rfl ?_)
       refine Reg.nil (Run.seq (Run.region (cx_ok _ _ _) (Reg.op rfl (Ope.mov rfl ?_))))
       refine Reg.op rfl (Ope.mov rfl ?_)
       refine Reg.op rfl (Ope.idxM (m:=i) (f:=I) rfl rfl rfl hio (fun _=>rfl) ?_)
       refine Reg.op rfl (Ope.load rfl rfl ?_)
       refine Reg.op rfl (Ope.mov rfl ?_)
       refine Reg.op rfl (Ope.le rfl rfl ?_)
       refine Reg.op rfl (Ope.mov rfl ?_)
       refine Reg.splitX rfl rfl (fun hg=>?_) fun hg=>?_
       ·refine Reg.on rfl rfl rfl (Ope.mov rfl ?_)
        refine Reg.on rfl rfl rfl (Ope.mov rfl ?_)
        refine Reg.on rfl rfl rfl (Ope.mov rfl ?_)
        refine Reg.on rfl rfl rfl (Ope.idxM (m:=i) (f:=I) rfl rfl rfl hif (fun _=>rfl) ?_)
        refine Reg.on rfl rfl rfl (Ope.load rfl rfl ?_)
        refine Reg.on rfl rfl rfl (Ope.lt rfl rfl ?_)
        refine Reg.op rfl (Ope.pickT rfl rfl ?_)
        refine Reg.nil (Run.condX rfl (fun hc=>?_) fun hc=>?_)
        ·(first | (exfalso;omega))
        ·refine Run.skip (Run.bend (Run.region (cx_ok _ _ _) (Reg.op rfl (Ope.add rfl rfl (by omega) ?_))))
         refine Reg.op rfl (Ope.mov rfl ?_)
         exact Reg.nil (Run.lend ⟨i+1,by omega,by omega,⟨rfl,rfl,rfl,rfl,rfl,trivial⟩,rfl,rfl⟩)
       ·refine Reg.off rfl rfl rfl (Reg.off rfl rfl rfl (Reg.off rfl rfl rfl (Reg.off rfl rfl rfl (Reg.off rfl rfl rfl (Reg.off rfl rfl rfl (Reg.op rfl (Ope.pickF rfl rfl ?_)))))))
        refine Reg.nil (Run.condF rfl (Run.skip (Run.bend (Run.region (cx_ok _ _ _) (Reg.op rfl (Ope.add rfl rfl (by omega) ?_))))))
        refine Reg.op rfl (Ope.mov rfl ?_)
        exact Reg.nil (Run.lend ⟨i+1,by omega,by omega,⟨rfl,rfl,rfl,rfl,rfl,trivial⟩,rfl,rfl⟩)
      ·refine Run.exit (Jmp.code (Jmp.round (Jmp.here (Run.seq (Run.region (cx_ok _ _ _) (Reg.op rfl (Ope.cf rfl rfl awakeF rfl ?_)))))))
       refine Reg.op rfl (Ope.asg rfl ?_)
       exact Reg.nil (Run.ret (fin_ret (.tmp rfl .nil) rfl rfl))
theorem f6 (xs:List Nat) (hx:∀ x∈xs,x < 65536):Fn P0 6 [.sl .no (xs.map U16)] (B true):=by
  by_cases h:xs=[]
  · subst h;exact f6e
  · exact f6n xs ⟨h,hx⟩
end Go.Pv
