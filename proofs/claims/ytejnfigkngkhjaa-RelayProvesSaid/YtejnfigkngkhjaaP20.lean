/- Parts of the proof: R90, R91, R92, R93, Pv61, R94 -/
import Derived.Test.YtejnfigkngkhjaaP19
set_option linter.unusedVariables false
set_option linter.unusedSimpArgs false
set_option linter.unusedSectionVars false
namespace Go.Pv
open Go.Proofs Go.Am
set_option maxRecDepth 10000
structure Tru (rest:Int) (ons offs:List Int) (S:List Sti):Prop where
  l1:ons.length=S.length
  l2:offs.length=S.length
  each:∀ k s,S[k]?=some s→(s.r=0∨s.r=1)∧(0≤ons.getD k 0∧ons.getD k 0+1≤offs.getD k 0∧offs.getD k 0≤600)∧Arnd (ons.getD k 0) s.a s.b∧Arnd (ons.getD k 0) s.c s.d∧Arnd (offs.getD k 0) s.e s.f∧Arnd (offs.getD k 0) s.g s.h
  next:∀ k,k+1 < S.length→ons.getD k 0+1≤ons.getD (k+1) 0
  rst:∀ k s f,S[k]?=some s→frm S s.r k=some f→offs.getD f 0+rest≤ons.getD k 0
def lastI (S:List Sti) (r:Int):Int :=
  match frm S r S.length with
  | some f=>(f:Int)
  | none=>-1
theorem Tru.nil (rest:Int):Tru rest [] [] []:=⟨rfl,rfl,fun k s h=>by simp at h,fun k h=>absurd h (Nat.not_lt_zero _),fun k s f h=>by simp at h⟩
structure MS where
  i:Nat
  m:Nat
  o1:Option Nat
  o2:Option Nat
  o3:Option Nat
  ons:List Int
  offs:List Int
  S:List Sti
  now:Int
  l0:Int
  l1:Int
  l:HL
def ownOk (o:Option Nat) (i m:Nat) (l:HL):Prop:=(i=0→o=none)∧∀ j,o=some j→3 < j∧j < m∧hget l j=some .own∧i≠0
structure MI (rest:Int) (c:Nat) (s:MS):Prop where
  hi:s.i≤c
  len:s.S.length=s.i
  tru:Tru rest s.ons s.offs s.S
  now0:0≤s.now∧s.now≤9+51 * s.i
  nowN:∀ q,q+1=s.S.length→s.ons.getD q 0+1≤s.now
  offB:∀ x∈s.offs,x≤9+51 * s.i
  last0:s.l0=lastI s.S 0
  last1:s.l1=lastI s.S 1
  h0:hget s.l 0=some (.cells [I rest,.sl (tlU s.o3) (s.S.map Sti.v)])
  h1:hget s.l 1=some (.cells [I ((3+11 * s.i:Nat):Int)])
  h3:hget s.l 3=some (.cells [I s.l0,I s.l1])
  m3:3 < s.m
  w1:ownOk s.o1 s.i s.m s.l
  w2:ownOk s.o2 s.i s.m s.l
  w3:ownOk s.o3 s.i s.m s.l
  d12:∀ j,s.o1=some j→s.o2≠some j
  d13:∀ j,s.o1=some j→s.o3≠some j
  d23:∀ j,s.o2=some j→s.o3≠some j
end Go.Pv
namespace Go.Pv
open Go.Proofs Go.Am
set_option maxRecDepth 10000
def vTru (ons offs:List Int) (n:Nat) (x:Nat):Int:=if x < 2 * n then (if x % 2=0 then ons.getD (x / 2) 0 else offs.getD (x / 2) 0) else 0
theorem vTru_on {ons offs:List Int} {n k:Nat} (h:k < n):vTru ons offs n (2 * k)=ons.getD k 0:=by
  unfold vTru
  rw [if_pos (by omega),if_pos (by omega),show 2 * k / 2=k from by omega]
theorem vTru_off {ons offs:List Int} {n k:Nat} (h:k < n):vTru ons offs n (2 * k+1)=offs.getD k 0:=by
  unfold vTru
  rw [if_pos (by omega),if_neg (by omega),show (2 * k+1) / 2=k from by omega]
section
variable {rest:Int} {ons offs:List Int} {S:List Sti}
theorem Tru.valid (h:Tru rest ons offs S) (hr:0≤rest∧rest≤60) (hS:S.length≤5):relOk rest S=true:=by
  refine relOk_yes hr.1 hr.2 hS fun i hi=>?_
  obtain ⟨hr,⟨h1,h2,h3⟩,ha,hb,hc,hd⟩:=h.each i S[i] (List.getElem?_eq_getElem hi)
  have mo:∀ {n a b:Int},Arnd n a b→minsOk a b=true:=fun {n a b} ⟨g1,g2,g3,g4⟩=>by
    simp only [minsOk,Bool.and_eq_true,decide_eq_true_eq];omega
  simp only [Sti.ok,Sti.j0,Sti.j1,mo ha,mo hb,mo hc,mo hd]
  rcases hr with h | h<;>simp [h]
theorem Tru.bnds (h:Tru rest ons offs S) (hS:S.length≤5) (x:Nat):0≤vTru ons offs S.length x∧vTru ons offs S.length x≤600:=by
  unfold vTru
  split
  · next hx =>
    have hk:x / 2 < S.length:=by omega
    obtain ⟨hr,⟨h1,h2,h3⟩,_⟩:=h.each (x / 2) S[x / 2] (List.getElem?_eq_getElem hk)
    split<;>omega
  · omega
theorem Tru.keeps (h : Tru rest ons offs S) (hS : S.length ≤ 5) (E : Nat) : Keeps S rest E (vTru ons offs S.length) where
  wide a b _ _:=by
    have h1:=h.bnds hS a
    have h2:=h.bnds hS b
    omega
  bound x hx := by
    obtain ⟨k,hk,hx⟩:=allB_mem.1 hx
    have v10:vTru ons offs S.length 10=0:=by unfold vTru;rw [if_neg (by omega)]
    have hs:=h.each k S[k] (List.getElem?_eq_getElem hk)
    obtain ⟨hr,⟨h1,h2,h3⟩,ha,hb,hc,hd⟩:=hs
    have von:=vTru_on (ons:=ons) (offs:=offs) hk
    have vof:=vTru_off (ons:=ons) (offs:=offs) hk
    rcases List.mem_append.1 hx with hx | hx
    · obtain ⟨p, hp, rfl⟩ := List.mem_map.1 hx
      simp only [rules,List.mem_append] at hp
      show vTru ons offs S.length p.2.1 - vTru ons offs S.length p.1≤p.2.2
      rcases hp with hp | hp | hp
      · simp only [rul1, List.mem_cons, List.not_mem_nil, or_false] at hp
        rcases hp with rfl | rfl
        · show vTru ons offs S.length 10 - vTru ons offs S.length (2 * k) ≤ 0
          omega
        · show vTru ons offs S.length (2 * k) - vTru ons offs S.length (2 * k + 1) ≤ -1
          omega
      · unfold rul2 at hp
        split at hp
        · next hk0 =>
          simp only [List.mem_singleton] at hp
          subst hp
          show vTru ons offs S.length (2 * (k - 1)) - vTru ons offs S.length (2 * k)≤-1
          rw [von,vTru_on (by omega)]
          have:=h.next (k - 1) (by omega)
          rw [show k - 1+1=k from by omega] at this
          omega
        · cases hp
      · have hgd : (S.map Sti.r).getD k 0 = S[k].r := by simp [List.getD, hk]
        rw [hgd] at hp
        cases hf:frm S S[k].r k with
        | none=>rw [hf] at hp;cases hp
        | some f =>
          have:=frm_lt _ _ _ _ hf
          rw [hf] at hp
          simp only [rul3,List.mem_singleton] at hp
          subst hp
          show vTru ons offs S.length (2 * f+1) - vTru ons offs S.length (2 * k)≤-rest
          rw [von,vTru_off (by omega)]
          have:=h.rst k S[k] f (List.getElem?_eq_getElem hk) hf
          omega
    · rw [List.getElem?_eq_getElem hk] at hx
      obtain ⟨w,hw,rfl⟩:=List.mem_map.1 hx
      obtain ⟨o,j,ho,hj,hw⟩:=entO_mem.1 hw
      have hent:(S[k].ent o j).1≤vTru ons offs S.length (2 * k+o)∧vTru ons offs S.length (2 * k+o)≤(S[k].ent o j).2:=by
        rcases (by omega:o=0∨o=1) with rfl | rfl<;>rcases (by omega:j=0∨j=1) with rfl | rfl
        · show S[k].a ≤ vTru ons offs S.length (2 * k) ∧ vTru ons offs S.length (2 * k) ≤ S[k].b
          rw [von];exact ⟨ha.2.1,ha.2.2.1⟩
        · show S[k].c ≤ vTru ons offs S.length (2 * k) ∧ vTru ons offs S.length (2 * k) ≤ S[k].d
          rw [von];exact ⟨hb.2.1,hb.2.2.1⟩
        · show S[k].e ≤ _ ∧ _ ≤ S[k].f
          rw [vof];exact ⟨hc.2.1,hc.2.2.1⟩
        · show S[k].g ≤ _ ∧ _ ≤ S[k].h
          rw [vof];exact ⟨hd.2.1,hd.2.2.1⟩
      have hB:=h.bnds hS (2 * k+o)
      simp only [entW,List.mem_cons,List.not_mem_nil,or_false] at hw
      rcases hw with rfl | rfl
      · show vTru ons offs S.length 10 - vTru ons offs S.length (2 * k + o) ≤ (if _ then (600 : Int) else -(S[k].ent o j).1)
        have he:=hent.1
        generalize (S[k].ent o j).1=lo at *
        have hz:=Int.add_left_neg lo
        generalize -lo=nlo at *
        split<;>omega
      · show vTru ons offs S.length (2 * k + o) - vTru ons offs S.length 10 ≤ (if _ then (600 : Int) else (S[k].ent o j).2)
        split<;>omega
variable (h:Tru rest ons offs S) (hr:0≤rest∧rest≤60) (hS:S.length≤5)
include h hr hS
theorem Tru.err {c:Bool} {e:Int} (hc:c=true):errT rest S c e=e:=err_at rest S (h.valid hr hS) hc (h.keeps hS _).ok
theorem Tru.at {a b:Nat} (ha:a < 11) (hb:b < 11):vTru ons offs S.length b - vTru ons offs S.length a≤tabA S rest a b:=(h.keeps hS _).pot a b ha hb
theorem Tru.on {i:Nat} (hi:i < S.length):∃ a b,Fn P0 14 [relV rest .no S,I i] (.tup [.agg [I a,I b],I 0])∧a≤ons.getD i 0∧ons.getD i 0≤b:=by
  have h1:=f14 rest .no rfl S (by omega) i
  have he:=h.err hr hS (c:=isSt S i) (e:=0) (by simp [isSt,hi])
  rw [onE,he,spI,if_pos rfl] at h1
  refine ⟨_,_,h1,?_,?_⟩
  · have := h.at hr hS (a := 2 * i) (b := 10) (by omega) (by decide)
    rw [vTru_on hi,show vTru ons offs S.length 10=0 by unfold vTru;rw [if_neg (by omega)]] at this
    show -(tabA S rest (2 * i) 10)≤_
    omega
  · have := h.at hr hS (a := 10) (b := 2 * i) (by decide) (by omega)
    rw [vTru_on hi,show vTru ons offs S.length 10=0 by unfold vTru;rw [if_neg (by omega)]] at this
    show _≤tabA S rest 10 (2 * i)
    omega
theorem Tru.len {i:Nat} (hi:i < S.length):∃ a b,Fn P0 18 [relV rest .no S,I i] (.tup [.agg [I a,I b],I 0])∧a≤offs.getD i 0 - ons.getD i 0∧offs.getD i 0 - ons.getD i 0≤b:=by
  have h1:=f18t rest .no rfl S (by omega) i
  have he:=h.err hr hS (c:=isSt S i) (e:=0) (by simp [isSt,hi])
  rw [lenE,he,spI,if_pos rfl] at h1
  refine ⟨_,_,h1,?_,?_⟩
  · have := h.at hr hS (a := 2 * i + 1) (b := 2 * i) (by omega) (by omega)
    rw [vTru_off hi,vTru_on hi] at this
    show -(tabA S rest (2 * i+1) (2 * i))≤_
    omega
  · have := h.at hr hS (a := 2 * i) (b := 2 * i + 1) (by omega) (by omega)
    rw [vTru_off hi,vTru_on hi] at this
    show _≤tabA S rest (2 * i) (2 * i+1)
    omega
theorem Tru.gap {f m : Nat} (hfm : f ≤ m) (hm : m ≤ 600) (hno : ∀ k, k < S.length → ¬ (ons.getD k 0 ≤ m ∧ (m : Int) < offs.getD k 0)) : ∃ n : Int, Fn P0 24 [relV rest .no S, I f, I m] (.tup [I n, I 0]) ∧ (f : Int) ≤ n ∧ n ≤ m := by
  have v10:vTru ons offs S.length 10=0:=by unfold vTru;rw [if_neg (by omega)]
  have hg:∀ d k,k+d=S.length→(tabA S rest).gap m d k=true:=by
    intro d
    induction d with
    | zero=>intro k _;rfl
    | succ d ih =>
      intro k hk
      simp only [Tab.gap]
      have hkl:k < S.length:=by omega
      have g1:=h.at hr hS (a:=10) (b:=2 * k) (by decide) (by omega)
      have g2:=h.at hr hS (a:=2 * k+1) (b:=10) (by omega) (by decide)
      rw [vTru_on hkl,v10] at g1
      rw [vTru_off hkl,v10] at g2
      have g3:=hno k hkl
      by_cases c1:(m:Int) < ((tabA S rest).min (2 * k)).2
      · rw [if_pos c1]
      · rw [if_neg c1, if_neg, ih (k + 1) (by omega)]
        intro c2
        have c1':¬ (m:Int) < tabA S rest 10 (2 * k):=c1
        have c2':(m:Int) < -(tabA S rest (2 * k+1) 10):=c2
        omega
  have h1:=f24t rest .no rfl S (by omega) f m
  cases hq:gapM rest S f m with
  | none =>
    have hn:(tabA S rest).gap m S.length 0=false:=firstM_none hq m (by omega) (Int.le_refl _)
    have hy:=hg S.length 0 (by omega)
    rw [hy] at hn;cases hn
  | some n =>
    obtain ⟨q1,q2,_⟩:=firstM_some hq
    have he:=h.err hr hS (c:=minsOk f m) (e:=0) (by simp only [minsOk,Bool.and_eq_true,decide_eq_true_eq];omega)
    rw [hq] at h1
    rw [minE,show noE (some n)=0 from rfl,he,if_pos rfl] at h1
    exact ⟨n,h1,q1,q2⟩
theorem Tru.nob:∃ n e:Int,Fn P0 22 [relV rest .no S,I 0,I 600] (.tup [I n,I e])∧((e=4∧n=0)∨(e=0∧∀ k,k < S.length→¬ (ons.getD k 0≤n∧n < offs.getD k 0))):=by
  have v10:vTru ons offs S.length 10=0:=by unfold vTru;rw [if_neg (by omega)]
  have h1:=f22t rest .no rfl S (by omega) 0 600
  have hmo:minsOk 0 600=true:=by decide
  cases hq:nobM rest S 0 600 with
  | none =>
    have he:=h.err hr hS (c:=minsOk 0 600) (e:=4) hmo
    rw [hq,minE,show noE none=4 from rfl,he,if_neg (by decide)] at h1
    exact ⟨0,4,h1,.inl ⟨rfl,rfl⟩⟩
  | some n =>
    obtain ⟨q1,q2,q3,_⟩:=firstM_some hq
    have he:=h.err hr hS (c:=minsOk 0 600) (e:=0) hmo
    rw [hq,minE,show noE (some n)=0 from rfl,he,if_pos rfl] at h1
    refine ⟨n,0,h1,.inr ⟨rfl,fun k hk hc=>?_⟩⟩
    have g1:=h.at hr hS (a:=2 * k) (b:=10) (by omega) (by decide)
    have g2:=h.at hr hS (a:=10) (b:=2 * k+1) (by decide) (by omega)
    rw [vTru_on hk,v10] at g1
    rw [vTru_off hk,v10] at g2
    have hr':(tabA S rest).rides n k=true:=by
      simp only [Tab.rides,Bool.and_eq_true,decide_eq_true_eq]
      exact ⟨by show -(tabA S rest (2 * k) 10)≤n;omega,by show n < tabA S rest 10 (2 * k+1);omega⟩
    have g3:(tabA S rest).empty S.length n=true:=q3
    rw [empty_no hk hr'] at g3;cases g3
end
end Go.Pv
namespace Go.Pv
open Go.Proofs Go.Am
set_option maxRecDepth 10000
end Go.Pv
namespace Go.Pv
open Go.Proofs Go.Am
set_option maxRecDepth 10000
theorem f77 (x a b:Int):Fn P0 77 [I x,I a,I b] (B (decide (a≤x) && decide (x≤b))):=by
  refine PFun.of (C:=c77) (cx_ok _ _ _) rfl (fn:=Try.f77) (by kernel_rfl) (c:=_) rfl rfl rfl ?_
  refine Run.seq (Run.region (cx_ok _ _ _) (Reg.op rfl (Ope.asg rfl ?_)))
  refine Reg.nil (Run.seq (Run.region (cx_ok _ _ _) (Reg.op rfl (Ope.mov rfl ?_))))
  refine Reg.op rfl (Ope.mov rfl ?_)
  refine Reg.op rfl (Ope.le rfl rfl ?_)
  refine Reg.op rfl (Ope.mov rfl ?_)
  refine Reg.splitX rfl rfl (fun hg=>?_) fun hg=>?_
  ·refine Reg.on rfl rfl rfl (Ope.mov rfl ?_)
   refine Reg.on rfl rfl rfl (Ope.mov rfl ?_)
   refine Reg.on rfl rfl rfl (Ope.le rfl rfl ?_)
   refine Reg.op rfl (Ope.pickT rfl rfl ?_)
   refine Reg.op rfl (Ope.asg rfl ?_)
   refine Reg.nil (Run.ret (fin_ret (.tmp rfl .nil) rfl ?_))
   (simp [*];first | done | rfl)
  ·refine Reg.off rfl rfl rfl (Reg.off rfl rfl rfl (Reg.off rfl rfl rfl (Reg.op rfl (Ope.pickF rfl rfl ?_))))
   refine Reg.op rfl (Ope.asg rfl ?_)
   refine Reg.nil (Run.ret (fin_ret (.tmp rfl .nil) rfl ?_))
   (simp [*];first | done | rfl)
theorem f78 (a b:Int):Fn P0 78 [.agg [I a,I b]] (B (minsOk a b)):=by
  refine PFun.of (C:=c78) (cx_ok _ _ _) rfl (fn:=Try.f78) (by kernel_rfl) (c:=_) rfl rfl rfl ?_
  refine Run.seq (Run.region (cx_ok _ _ _) (Reg.op rfl (Ope.boxF rfl rfl ?_)))
  refine Reg.op rfl (Ope.asg rfl ?_)
  refine Reg.nil (Run.seq (Run.region (cx_ok _ _ _) (Reg.op rfl (Ope.fld rfl rfl ?_))))
  refine Reg.op rfl (Ope.load rfl rfl ?_)
  refine Reg.op rfl (Ope.le rfl rfl ?_)
  refine Reg.op rfl (Ope.mov rfl ?_)
  refine Reg.splitX rfl rfl (fun hg=>?_) fun hg=>?_
  ·refine Reg.on rfl rfl rfl (Ope.fld rfl rfl ?_)
   refine Reg.on rfl rfl rfl (Ope.load rfl rfl ?_)
   refine Reg.on rfl rfl rfl (Ope.fld rfl rfl ?_)
   refine Reg.on rfl rfl rfl (Ope.load rfl rfl ?_)
   refine Reg.on rfl rfl rfl (Ope.le rfl rfl ?_)
   refine Reg.op rfl (Ope.pickT rfl rfl ?_)
   refine Reg.op rfl (Ope.mov rfl ?_)
   refine Reg.splitX rfl rfl (fun hg=>?_) fun hg=>?_
   ·refine Reg.on rfl rfl rfl (Ope.fld rfl rfl ?_)
    refine Reg.on rfl rfl rfl (Ope.load rfl rfl ?_)
    refine Reg.on rfl rfl rfl (Ope.le rfl rfl ?_)
    refine Reg.op rfl (Ope.pickT rfl rfl ?_)
    refine Reg.op rfl (Ope.asg rfl ?_)
    refine Reg.nil (Run.ret (fin_ret (.tmp rfl .nil) rfl ?_))
    (simp only [minsOk];simp [*];first | done | rfl)
   ·refine Reg.off rfl rfl rfl (Reg.off rfl rfl rfl (Reg.off rfl rfl rfl (Reg.op rfl (Ope.pickF rfl rfl ?_))))
    refine Reg.op rfl (Ope.asg rfl ?_)
    refine Reg.nil (Run.ret (fin_ret (.tmp rfl .nil) rfl ?_))
    (simp only [minsOk];simp [*];first | done | rfl)
  ·refine Reg.off rfl rfl rfl (Reg.off rfl rfl rfl (Reg.off rfl rfl rfl (Reg.off rfl rfl rfl (Reg.off rfl rfl rfl (Reg.op rfl (Ope.pickF rfl rfl ?_))))))
   refine Reg.op rfl (Ope.mov rfl ?_)
   refine Reg.off rfl rfl rfl (Reg.off rfl rfl rfl (Reg.off rfl rfl rfl (Reg.op rfl (Ope.pickF rfl rfl ?_))))
   refine Reg.op rfl (Ope.asg rfl ?_)
   refine Reg.nil (Run.ret (fin_ret (.tmp rfl .nil) rfl ?_))
   (simp only [minsOk];simp [*];first | done | rfl)
theorem f32 (rest : Int) (tl : Tail) (S : List Sti) (hS : S.length ≤ 1000000) : Fn P0 32 [relV rest tl S] (B (relOk rest S)) := by
  refine PFun.of (C:=c32) (cx_ok _ _ _) rfl (fn:=Try.f32) (by kernel_rfl) (c:=_) rfl rfl rfl ?_
  refine Run.seq (Run.region (cx_ok _ _ _) (Reg.op rfl (Ope.boxF rfl rfl ?_)))
  refine Reg.op rfl (Ope.asg rfl ?_)
  refine Reg.nil (Run.seq (Run.seq (Run.region (cx_ok _ _ _) (Reg.op rfl (Ope.fld rfl rfl ?_)))))
  refine Reg.op rfl (Ope.load rfl rfl ?_)
  refine Reg.op rfl (Ope.cf rfl rfl (f77 rest 0 60) rfl ?_)
  refine Reg.op rfl (Ope.not rfl ?_)
  refine Reg.op rfl (Ope.mov rfl ?_)
  refine Reg.splitX rfl rfl (fun hg=>?_) fun hg=>?_
  ·first
   |(first | (exfalso;omega))
   |refine Reg.off rfl rfl rfl (Reg.off rfl rfl rfl (Reg.off rfl rfl rfl (Reg.off rfl rfl rfl (Reg.op rfl (Ope.pickT rfl rfl ?_)))))
    refine Reg.nil (Run.condT rfl (Run.seq (Run.region (cx_ok _ _ _) (Reg.op rfl (Ope.asg rfl ?_)))))
    refine Reg.nil (Run.ret (Jmp.code (fin_ret (.tmp rfl .nil) rfl ?_)))
    first
    | (rw [relOk_no (by simp_all;omega)];rfl)
    | (rw [relOk_yes (by simp_all) (by simp_all) (by omega) (fun k hk=>hall k hk (by omega))];rfl)
    | (rw [relOk_bad hlt (by simp only [Sti.ok,Sti.j0,Sti.j1];simp_all;first | done | omega)];rfl)
  ·first
   |(first | (exfalso;omega))
   |refine Reg.on rfl rfl rfl (Ope.fld rfl rfl ?_)
    refine Reg.on rfl rfl rfl (Ope.load rfl rfl ?_)
    refine Reg.on rfl rfl rfl (Ope.len (m:=S.length) rfl (by simp) ?_)
    refine Reg.on rfl rfl rfl (Ope.gt rfl rfl ?_)
    refine Reg.op rfl (Ope.pickF rfl rfl ?_)
    refine Reg.nil (Run.condX rfl (fun hc=>?_) fun hc=>?_)
    ·first
     |(first | (exfalso;omega))
     |refine Run.seq (Run.region (cx_ok _ _ _) (Reg.op rfl (Ope.asg rfl ?_)))
      refine Reg.nil (Run.ret (Jmp.code (fin_ret (.tmp rfl .nil) rfl ?_)))
      first
      | (rw [relOk_no (by simp_all;omega)];rfl)
      | (rw [relOk_yes (by simp_all) (by simp_all) (by omega) (fun k hk=>hall k hk (by omega))];rfl)
      | (rw [relOk_bad hlt (by simp only [Sti.ok,Sti.j0,Sti.j1];simp_all;first | done | omega)];rfl)
    ·first
     |(first | (exfalso;omega))
     |refine Run.skip (Run.seq (Run.seq (Run.region (cx_ok _ _ _) (Reg.op rfl (Ope.asg rfl ?_)))))
      refine Reg.nil (Run.block (Run.loop (α:=Nat×Nat) (fun s=>[(1,.fp (relV rest tl S)),(3,I s.1)]) (fun s=>HE s.2 []) (fun s=>s.1≤S.length∧∀ k (hk:k < S.length),k < s.1→S[k].ok=true) (fun s=>S.length - s.1) (0,0) ⟨rfl,rfl,trivial⟩ rfl ⟨Nat.zero_le _,fun k hk hk0=>absurd hk0 (Nat.not_lt_zero _)⟩ (fun s hs=>?_)))
      obtain ⟨i,m⟩:=s
      obtain ⟨hi,hall⟩:=hs
      simp only at hi hall
      refine Run.seq (Run.seq (Run.region (cx_ok _ _ _) (Reg.op rfl (Ope.mov rfl ?_))))
      refine Reg.op rfl (Ope.fld rfl rfl ?_)
      refine Reg.op rfl (Ope.load rfl rfl ?_)
      refine Reg.op rfl (Ope.len (m:=S.length) rfl (by simp) ?_)
      refine Reg.op rfl (Ope.lt rfl rfl ?_)
      refine Reg.nil (Run.condX rfl (fun hc=>?_) fun hc=>?_)
      ·first
       |(first | (exfalso;omega))
       |refine Run.skip (Run.seq (Run.block (Run.seq ?_)))
        have hlt:i < S.length:=by omega
        refine Run.region (cx_ok _ _ _) (Reg.op rfl (Ope.fld rfl rfl ?_))
        refine Reg.op rfl (Ope.load rfl rfl ?_)
        refine Reg.op rfl (Ope.mov rfl ?_)
        refine Reg.op rfl (Ope.idxM (m:=i) (f:=Sti.v) rfl rfl rfl hlt (fun _=>rfl) ?_)
        refine Reg.op rfl (Ope.load rfl rfl ?_)
        refine Reg.op rfl (Ope.newL rfl ?_)
        refine Reg.op0 (Ope.store rfl rfl hget_hd rfl rfl rfl ?_)
        refine Reg.nil (Run.seq (Run.frz (d:=4) true rfl hget_hd rfl ?_))
        refine Run.wide (m:=m+1) (l':=[]) (Nat.le_refl _) trivial ?_
        refine Run.region (cx_ok _ _ _) (Reg.op rfl (Ope.fld rfl rfl ?_))
        refine Reg.op rfl (Ope.load rfl rfl ?_)
        refine Reg.op rfl (Ope.cf rfl rfl (f77 S[i].r 0 1) rfl ?_)
        refine Reg.op rfl (Ope.not rfl ?_)
        refine Reg.op rfl (Ope.mov rfl ?_)
        refine Reg.splitX rfl rfl (fun hg=>?_) fun hg=>?_
        ·first
         |(first | (exfalso;omega))
         |refine Reg.off rfl rfl rfl (Reg.off rfl rfl rfl (Reg.off rfl rfl rfl (Reg.off rfl rfl rfl (Reg.off rfl rfl rfl (Reg.op rfl (Ope.pickT rfl rfl ?_))))))
          refine Reg.op rfl (Ope.mov rfl ?_)
          refine Reg.off rfl rfl rfl (Reg.off rfl rfl rfl (Reg.off rfl rfl rfl (Reg.off rfl rfl rfl (Reg.off rfl rfl rfl (Reg.op rfl (Ope.pickT rfl rfl ?_))))))
          refine Reg.op rfl (Ope.mov rfl ?_)
          refine Reg.off rfl rfl rfl (Reg.off rfl rfl rfl (Reg.off rfl rfl rfl (Reg.off rfl rfl rfl (Reg.off rfl rfl rfl (Reg.op rfl (Ope.pickT rfl rfl ?_))))))
          refine Reg.op rfl (Ope.mov rfl ?_)
          refine Reg.off rfl rfl rfl (Reg.off rfl rfl rfl (Reg.off rfl rfl rfl (Reg.off rfl rfl rfl (Reg.off rfl rfl rfl (Reg.op rfl (Ope.pickT rfl rfl ?_))))))
          refine Reg.nil (Run.condT rfl (Run.seq (Run.region (cx_ok _ _ _) (Reg.op rfl (Ope.asg rfl ?_)))))
          refine Reg.nil (Run.ret (Jmp.retB (Jmp.code (Jmp.round (Jmp.retB (Jmp.code (fin_ret (.tmp rfl .nil) rfl ?_)))))))
          first
          | (rw [relOk_no (by simp_all;omega)];rfl)
          | (rw [relOk_yes (by simp_all) (by simp_all) (by omega) (fun k hk=>hall k hk (by omega))];rfl)
          | (rw [relOk_bad hlt (by simp only [Sti.ok,Sti.j0,Sti.j1];simp_all;first | done | omega)];rfl)
        ·first
         |(first | (exfalso;omega))
         |refine Reg.on rfl rfl rfl (Ope.fld rfl rfl ?_)
          refine Reg.on rfl rfl rfl (Ope.idxA rfl rfl rfl rfl ?_)
          refine Reg.on rfl rfl rfl (Ope.load rfl rfl ?_)
          refine Reg.on rfl rfl rfl (Ope.cf rfl rfl (f78 S[i].a S[i].b) rfl ?_)
          refine Reg.on rfl rfl rfl (Ope.not rfl ?_)
          refine Reg.op rfl (Ope.pickF rfl rfl ?_)
          refine Reg.op rfl (Ope.mov rfl ?_)
          refine Reg.splitX rfl rfl (fun hg=>?_) fun hg=>?_
          ·first
           |(first | (exfalso;omega))
           |refine Reg.off rfl rfl rfl (Reg.off rfl rfl rfl (Reg.off rfl rfl rfl (Reg.off rfl rfl rfl (Reg.off rfl rfl rfl (Reg.op rfl (Ope.pickT rfl rfl ?_))))))
            refine Reg.op rfl (Ope.mov rfl ?_)
            refine Reg.off rfl rfl rfl (Reg.off rfl rfl rfl (Reg.off rfl rfl rfl (Reg.off rfl rfl rfl (Reg.off rfl rfl rfl (Reg.op rfl (Ope.pickT rfl rfl ?_))))))
            refine Reg.op rfl (Ope.mov rfl ?_)
            refine Reg.off rfl rfl rfl (Reg.off rfl rfl rfl (Reg.off rfl rfl rfl (Reg.off rfl rfl rfl (Reg.off rfl rfl rfl (Reg.op rfl (Ope.pickT rfl rfl ?_))))))
            refine Reg.nil (Run.condT rfl (Run.seq (Run.region (cx_ok _ _ _) (Reg.op rfl (Ope.asg rfl ?_)))))
            refine Reg.nil (Run.ret (Jmp.retB (Jmp.code (Jmp.round (Jmp.retB (Jmp.code (fin_ret (.tmp rfl .nil) rfl ?_)))))))
            first
            | (rw [relOk_no (by simp_all;omega)];rfl)
            | (rw [relOk_yes (by simp_all) (by simp_all) (by omega) (fun k hk=>hall k hk (by omega))];rfl)
            | (rw [relOk_bad hlt (by simp only [Sti.ok,Sti.j0,Sti.j1];simp_all;first | done | omega)];rfl)
          ·first
           |(first | (exfalso;omega))
           |refine Reg.on rfl rfl rfl (Ope.fld rfl rfl ?_)
            refine Reg.on rfl rfl rfl (Ope.idxA rfl rfl rfl rfl ?_)
            refine Reg.on rfl rfl rfl (Ope.load rfl rfl ?_)
            refine Reg.on rfl rfl rfl (Ope.cf rfl rfl (f78 S[i].c S[i].d) rfl ?_)
            refine Reg.on rfl rfl rfl (Ope.not rfl ?_)
            refine Reg.op rfl (Ope.pickF rfl rfl ?_)
            refine Reg.op rfl (Ope.mov rfl ?_)
            refine Reg.splitX rfl rfl (fun hg=>?_) fun hg=>?_
            ·first
             |(first | (exfalso;omega))
             |refine Reg.off rfl rfl rfl (Reg.off rfl rfl rfl (Reg.off rfl rfl rfl (Reg.off rfl rfl rfl (Reg.off rfl rfl rfl (Reg.op rfl (Ope.pickT rfl rfl ?_))))))
              refine Reg.op rfl (Ope.mov rfl ?_)
              refine Reg.off rfl rfl rfl (Reg.off rfl rfl rfl (Reg.off rfl rfl rfl (Reg.off rfl rfl rfl (Reg.off rfl rfl rfl (Reg.op rfl (Ope.pickT rfl rfl ?_))))))
              refine Reg.nil (Run.condT rfl (Run.seq (Run.region (cx_ok _ _ _) (Reg.op rfl (Ope.asg rfl ?_)))))
              refine Reg.nil (Run.ret (Jmp.retB (Jmp.code (Jmp.round (Jmp.retB (Jmp.code (fin_ret (.tmp rfl .nil) rfl ?_)))))))
              first
              | (rw [relOk_no (by simp_all;omega)];rfl)
              | (rw [relOk_yes (by simp_all) (by simp_all) (by omega) (fun k hk=>hall k hk (by omega))];rfl)
              | (rw [relOk_bad hlt (by simp only [Sti.ok,Sti.j0,Sti.j1];simp_all;first | done | omega)];rfl)
            ·first
             |(first | (exfalso;omega))
             |refine Reg.on rfl rfl rfl (Ope.fld rfl rfl ?_)
              refine Reg.on rfl rfl rfl (Ope.idxA rfl rfl rfl rfl ?_)
              refine Reg.on rfl rfl rfl (Ope.load rfl rfl ?_)
              refine Reg.on rfl rfl rfl (Ope.cf rfl rfl (f78 S[i].e S[i].f) rfl ?_)
              refine Reg.on rfl rfl rfl (Ope.not rfl ?_)
              refine Reg.op rfl (Ope.pickF rfl rfl ?_)
              refine Reg.op rfl (Ope.mov rfl ?_)
              refine Reg.splitX rfl rfl (fun hg=>?_) fun hg=>?_
              ·first
               |(first | (exfalso;omega))
               |refine Reg.off rfl rfl rfl (Reg.off rfl rfl rfl (Reg.off rfl rfl rfl (Reg.off rfl rfl rfl (Reg.off rfl rfl rfl (Reg.op rfl (Ope.pickT rfl rfl ?_))))))
                refine Reg.nil (Run.condT rfl (Run.seq (Run.region (cx_ok _ _ _) (Reg.op rfl (Ope.asg rfl ?_)))))
                refine Reg.nil (Run.ret (Jmp.retB (Jmp.code (Jmp.round (Jmp.retB (Jmp.code (fin_ret (.tmp rfl .nil) rfl ?_)))))))
                first
                | (rw [relOk_no (by simp_all;omega)];rfl)
                | (rw [relOk_yes (by simp_all) (by simp_all) (by omega) (fun k hk=>hall k hk (by omega))];rfl)
                | (rw [relOk_bad hlt (by simp only [Sti.ok,Sti.j0,Sti.j1];simp_all;first | done | omega)];rfl)
              ·first
               |(first | (exfalso;omega))
               |refine Reg.on rfl rfl rfl (Ope.fld rfl rfl ?_)
                refine Reg.on rfl rfl rfl (Ope.idxA rfl rfl rfl rfl ?_)
                refine Reg.on rfl rfl rfl (Ope.load rfl rfl ?_)
                refine Reg.on rfl rfl rfl (Ope.cf rfl rfl (f78 S[i].g S[i].h) rfl ?_)
                refine Reg.on rfl rfl rfl (Ope.not rfl ?_)
                refine Reg.op rfl (Ope.pickF rfl rfl ?_)
                refine Reg.nil (Run.condX rfl (fun hc=>?_) fun hc=>?_)
                ·first
                 |(first | (exfalso;omega))
                 |refine Run.seq (Run.region (cx_ok _ _ _) (Reg.op rfl (Ope.asg rfl ?_)))
                  refine Reg.nil (Run.ret (Jmp.retB (Jmp.code (Jmp.round (Jmp.retB (Jmp.code (fin_ret (.tmp rfl .nil) rfl ?_)))))))
                  first
                  | (rw [relOk_no (by simp_all;omega)];rfl)
                  | (rw [relOk_yes (by simp_all) (by simp_all) (by omega) (fun k hk=>hall k hk (by omega))];rfl)
                  | (rw [relOk_bad hlt (by simp only [Sti.ok,Sti.j0,Sti.j1];simp_all;first | done | omega)];rfl)
                ·first
                 |(first | (exfalso;omega))
                 |refine Run.skip (Run.bend (Run.region (cx_ok _ _ _) (Reg.op rfl (Ope.mov rfl ?_))))
                  refine Reg.op rfl (Ope.add rfl rfl (by omega) ?_)
                  refine Reg.op rfl (Ope.asg rfl ?_)
                  refine Reg.nil ?_
                  exact Run.lend ⟨(i+1,m+1),by show S.length - (i+1) < S.length - i;omega,⟨by show i+1≤S.length;omega,fun k hk hk1=>by
                    by_cases hki:k < i
                    · exact hall k hk hki
                    · obtain rfl : k = i := by simp only at hk1; omega
                      simp only [Sti.ok,Sti.j0,Sti.j1,Bool.and_eq_true,Bool.or_eq_true,decide_eq_true_eq]
                      simp_all
                      omega⟩,⟨rfl,rfl,trivial⟩,rfl,rfl⟩
      ·first
       |(first | (exfalso;omega))
       |refine Run.exit (Jmp.code (Jmp.round (Jmp.here (Run.seq (Run.region (cx_ok _ _ _) (Reg.op rfl (Ope.asg rfl ?_)))))))
        refine Reg.nil (Run.ret (fin_ret (.tmp rfl .nil) rfl ?_))
        first
        | (rw [relOk_no (by simp_all;omega)];rfl)
        | (rw [relOk_yes (by simp_all) (by simp_all) (by omega) (fun k hk=>hall k hk (by omega))];rfl)
        | (rw [relOk_bad hlt (by simp only [Sti.ok,Sti.j0,Sti.j1];simp_all;first | done | omega)];rfl)
theorem bd_rels (rest:Int) (tl:Tail) (htl:tl.isOwn=false) (S:List Sti):PV.bds 0 [relV rest tl S]=true:=by
  simp only [PV.bds,bd_rel rest tl htl S,Bool.and_self]
def farB (rest:Int) (S:List Sti) (n:Nat):Bool:=decide (40 < S.length) || (decide (n < S.length) && relOk rest S)
theorem f12 (rest:Int) (tl:Tail) (htl:tl.isOwn=false) (S:List Sti) (hS:S.length≤1000000) (n:Nat) (hn:n < 1000):Fn P0 12 [relV rest tl S,I n] (B (farB rest S n)):=by
  refine PFun.of (C:=c12) (cx_ok _ _ _) rfl (fn:=Try.f12) (by kernel_rfl) (c:=_) rfl rfl rfl ?_
  refine Run.seq (Run.region (cx_ok _ _ _) (Reg.op rfl (Ope.boxF rfl rfl ?_)))
  refine Reg.op rfl (Ope.asg rfl ?_)
  refine Reg.nil (Run.seq (Run.region (cx_ok _ _ _) (Reg.op rfl (Ope.fld rfl rfl ?_))))
  refine Reg.op rfl (Ope.load rfl rfl ?_)
  refine Reg.op rfl (Ope.len (m:=S.length) rfl (by simp) ?_)
  refine Reg.op rfl (Ope.gt rfl rfl ?_)
  refine Reg.op rfl (Ope.mov rfl ?_)
  refine Reg.splitX rfl rfl (fun hg=>?_) fun hg=>?_
  ·refine Reg.off rfl rfl rfl (Reg.off rfl rfl rfl (Reg.off rfl rfl rfl (Reg.off rfl rfl rfl (Reg.off rfl rfl rfl (Reg.off rfl rfl rfl (Reg.past rfl rfl rfl (Reg.past rfl rfl rfl (Reg.off rfl rfl rfl (Reg.op rfl (Ope.pickT rfl rfl ?_))))))))))
   refine Reg.op rfl (Ope.asg rfl ?_)
   refine Reg.nil (Run.ret (fin_ret (.tmp rfl .nil) rfl ?_))
   first
   | (unfold farB;rw [decide_eq_true (by omega:40 < S.length)];rfl)
   | (unfold farB;rw [decide_eq_false (by omega:¬ 40 < S.length),decide_eq_true (by omega:n < S.length)];rfl)
   | (unfold farB;rw [decide_eq_false (by omega:¬ 40 < S.length),decide_eq_false (by omega:¬ n < S.length)];rfl)
  ·refine Reg.on rfl rfl rfl (Ope.fld rfl rfl ?_)
   refine Reg.on rfl rfl rfl (Ope.load rfl rfl ?_)
   refine Reg.on rfl rfl rfl (Ope.len (m:=S.length) rfl (by simp) ?_)
   refine Reg.on rfl rfl rfl (Ope.mov rfl ?_)
   refine Reg.on rfl rfl rfl (Ope.gt rfl rfl ?_)
   refine Reg.on rfl rfl rfl (Ope.mov rfl ?_)
   refine Reg.splitX rfl rfl (fun hg=>?_) fun hg=>?_
   ·refine Reg.on rfl rfl rfl (Ope.load rfl rfl ?_)
    refine Reg.on rfl rfl rfl (Ope.cf rfl rfl (f32 rest tl S hS) (bd_rels rest tl htl S) ?_)
    refine Reg.on rfl rfl rfl (Ope.pickT rfl rfl ?_)
    refine Reg.op rfl (Ope.pickF rfl rfl ?_)
    refine Reg.op rfl (Ope.asg rfl ?_)
    refine Reg.nil (Run.ret (fin_ret (.tmp rfl .nil) rfl ?_))
    first
    | (unfold farB;rw [decide_eq_true (by omega:40 < S.length)];rfl)
    | (unfold farB;rw [decide_eq_false (by omega:¬ 40 < S.length),decide_eq_true (by omega:n < S.length)];rfl)
    | (unfold farB;rw [decide_eq_false (by omega:¬ 40 < S.length),decide_eq_false (by omega:¬ n < S.length)];rfl)
   ·refine Reg.off rfl rfl rfl (Reg.off rfl rfl rfl (Reg.on rfl rfl rfl (Ope.pickF rfl rfl ?_)))
    refine Reg.op rfl (Ope.pickF rfl rfl ?_)
    refine Reg.op rfl (Ope.asg rfl ?_)
    refine Reg.nil (Run.ret (fin_ret (.tmp rfl .nil) rfl ?_))
    first
    | (unfold farB;rw [decide_eq_true (by omega:40 < S.length)];rfl)
    | (unfold farB;rw [decide_eq_false (by omega:¬ 40 < S.length),decide_eq_true (by omega:n < S.length)];rfl)
    | (unfold farB;rw [decide_eq_false (by omega:¬ 40 < S.length),decide_eq_false (by omega:¬ n < S.length)];rfl)
end Go.Pv
namespace Go.Pv
open Go.Am Go.RowKit
section
variable {C:Cx} {F:EQ} {X:EX} {k:List KI} {e:EL} {ds:List Nat} {K:PV→PH→Prop} {n:Nat} {l:HL}
variable {d:Option Tmp} {type:TypeId} {pos:String} {after:Array Edge} {guard:Option (Nat×Bool)}
end
def mkaP (A : AP) (t : TypeId) : Bool :=
 match A.under t with
 |some (.slice e)=>match A.info e with
  |some ie=>match ie.zero with
   |some z=>match z.cells.size == ie.size && Nat.ble 1 ie.size,ofCells z.cells.toList with
    |true,some cs=>(PV.ofAVs cs).isSome
    |_,_=>false
   |none=>false
  |none=>false
 |_=>false
class Mka (A:AP) (t:Nat):Prop where
 ok:mkaP A t=true
theorem ofAVs_app:∀ {a b:List AV} {x y:List PV},PV.ofAVs a=some x→PV.ofAVs b=some y→PV.ofAVs (a++b)=some (x++y)
 |[],b,x,y,h,k=>by
  cases h
  exact k
 |v :: a, b, x, y, h, k => by
  simp only [PV.ofAVs] at h
  simp only [List.cons_append,PV.ofAVs]
  cases hv:PV.ofAV v with
  |none=>simp [hv] at h
  |some v' =>
   cases ha:PV.ofAVs a with
   |none=>simp [hv,ha] at h
   |some a' =>
    simp [hv,ha] at h
    subst h
    rw [ofAVs_app ha k]
    rfl
theorem ofAVs_copies {cs:List AV} {ps:List PV} (h:PV.ofAVs cs=some ps):∀ n,∃ vs,PV.ofAVs (acopies cs n)=some vs
 |0=>⟨[],rfl⟩
 |n+1=>let ⟨vs,hv⟩:=ofAVs_copies h n;⟨ps++vs,ofAVs_app h hv⟩
theorem Mka.get {A:AP} {t:Nat} (h:Mka A t):∃ e,A.under t=some (.slice e)∧∀ n,∃ zs vs,azeros A e n=some zs∧PV.ofAVs zs=some vs:=by
 have h1:=h.ok
 unfold mkaP at h1
 split at h1
 case h_2=>cases h1
 next e hu =>
 split at h1
 case h_2=>cases h1
 next ie hie =>
 split at h1
 case h_2=>cases h1
 next zz hz =>
 split at h1
 case h_2=>cases h1
 next cs hb hcs =>
 obtain ⟨ps,hps⟩:=Option.isSome_iff_exists.1 h1
 refine ⟨e,hu,fun n=>?_⟩
 obtain ⟨vs,hv⟩:=ofAVs_copies hps n
 refine ⟨acopies cs n,vs,?_,hv⟩
 unfold azeros
 simp only [hie,hz,hb,hcs]
section
variable {C:Cx} {F:EQ} {X:EX} {k:List KI} {e:EL} {ds:List Nat} {K:PV→PH→Prop} {n:Nat} {l:HL}
variable {d:Option Tmp} {type:TypeId} {pos:String} {after:Array Edge} {guard:Option (Nat×Bool)}
theorem Ope.apLa {t tx sz bytes sz' bytes':Nat} {agg agg':Bool} {x y:Operand} {tl':Tail} {vs ws:List PV} [hs:Slc C.A t agg sz bytes] [hm:Mka C.A t] [hs':Slc C.A tx agg' sz' bytes'] (hx:pev (lget e) x=some (.sl .ex vs)) (hy:pev (lget e) y=some (.sl tl' ws)) (hne:ws≠[])
  (hb1:(vs.length+ws.length) * bytes≤140737488355328) (hb2:vs.length+ws.length≤1000000000) (h1:1≤sz) (hv:∀ v∈vs,v.nc=sz) (hw:∀ v∈ws,v.nc=sz∧PV.allOne v.cells=true)
  (hK:∀ c post ez,vs.length+ws.length≤c→K (.ms n 0 (vs.length+ws.length) c ez) (HE (n+1) ((n,some (.cells (flat (vs++ws)++post)))::l))) :
  Ope C X { dst:=d,op:=.call { callee:=.builtin .append,args:=#[x,y],argTypes:=#[t,tx] },type,pos,after,guard } e ds (HE n l) K:=by
 obtain ⟨el,ti,q1,q2,q3,q4,q5⟩:=hs.get
 obtain ⟨d',ti',h4,h5,rfl,rfl⟩:=q2.get
 rw [q3] at h5
 cases h5
 subst q4
 obtain ⟨el',ti',q1',_⟩:=hs'.get
 obtain ⟨el2,r1,r4⟩:=hm.get
 rw [q1] at r1
 cases r1
 unfold Ope
 simp only [pop,pkind,ploud,pargs,hx,hy,PAppend,q1,q1',q3]
 refine .inr ⟨hne,hb1,hb2,h1,q5,Each.of hv,Each.of hw,.inr (.inr ⟨r4,fun c vs' p1 p2=>?_⟩)⟩
 rw [HE_add]
 exact hK c vs' _ p1
end
end Go.Pv
namespace Go.Pv
open Go.Proofs Go.Am
set_option maxRecDepth 10000
instance:Mka A0 22:=⟨by kernel_rfl⟩
def Sti.set (s:Sti) (q:Nat) (x y:Int):Sti :=
  if q=0 then { s with a:=x,b:=y } else if q=1 then { s with c:=x,d:=y } else if q=2 then { s with e:=x,f:=y } else { s with g:=x,h:=y }
def entS (S:List Sti) (en:Nat) (x y:Int):List Sti:=S.modify (en / 4) fun s=>s.set (en % 4) x y
end Go.Pv
