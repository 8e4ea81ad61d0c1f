/- Parts of the proof: R95, R103, R104, R105, R106, R96 -/
import Derived.Test.YtejnfigkngkhjaaP20
import Derived.Test.YtejnfigkngkhjaaP19
import Derived.Test.YtejnfigkngkhjaaP18
set_option linter.unusedVariables false
set_option linter.unusedSimpArgs false
set_option linter.unusedSectionVars false
namespace Go.Pv
open Go.Proofs Go.Am
set_option maxRecDepth 10000
def inE (E q:Nat):Bool:=!decide (((E >>> q &&& 1:Nat):Int)=0)
structure Kept (S:List Sti) (rest:Int) (E:Nat) (v:Nat→Int):Prop where
  wide:∀ a b,a < 11→b < 11→v b - v a≤600
  rule:∀ k,k < S.length→∀ p∈rules S rest k,v p.2.1 - v p.1≤p.2.2
  entry:∀ k (hk:k < S.length) o j,o < 2→j < 2→inE E (2 * (2 * k+o)+j)=true→(S[k].ent o j).1≤v (2 * k+o) - v 10∧v (2 * k+o) - v 10≤(S[k].ent o j).2
theorem kept_iff {S : List Sti} {rest : Int} {E : Nat} {v : Nat → Int} (hS : S.length ≤ 5) : Keeps S rest E v ↔ Kept S rest E v := by
  constructor
  · intro h
    refine ⟨h.wide,fun k hk p hp=>?_,fun k hk o j ho hj hin=>?_⟩
    · exact h.bound (rulB p) (allB_mem.2 ⟨k,hk,List.mem_append.2 (.inl (List.mem_map.2 ⟨p,hp,rfl⟩))⟩)
    · have hm : ∀ w ∈ entW k S[k] o j, v w.2.1 - v w.1 ≤ w.2.2.1 := fun w hw => by
        have h1:=h.bound (wriB w) (allB_mem.2 ⟨k,hk,List.mem_append.2 (.inr (by
          rw [List.getElem?_eq_getElem hk]
          exact List.mem_map.2 ⟨w,entO_mem.2 ⟨o,j,ho,hj,hw⟩,rfl⟩))⟩)
        have hq:w.2.2.2=2 * (2 * k+o)+j:=by
          simp only [entW,List.mem_cons,List.not_mem_nil,or_false] at hw
          rcases hw with rfl | rfl<;>rfl
        have h2:(wriB w).most E=w.2.2.1:=by
          show (if _ then (600:Int) else w.2.2.1)=_
          rw [if_neg]
          show ¬ ((E >>> w.2.2.2 &&& 1:Nat):Int)=0
          rw [hq]
          simpa [inE] using hin
        rw [h2] at h1
        exact h1
      have h1:=hm (2 * k+o,10,-(S[k].ent o j).1,2 * (2 * k+o)+j) (by simp [entW])
      have h2:=hm (10,2 * k+o,(S[k].ent o j).2,2 * (2 * k+o)+j) (by simp [entW])
      simp only at h1 h2
      generalize (S[k].ent o j).1=lo at *
      exact ⟨by omega,h2⟩
  · intro h
    refine ⟨h.wide,fun x hx=>?_⟩
    obtain ⟨k,hk,hx⟩:=allB_mem.1 hx
    rcases List.mem_append.1 hx with hx | hx
    · obtain ⟨p, hp, rfl⟩ := List.mem_map.1 hx
      exact h.rule k hk p hp
    · rw [List.getElem?_eq_getElem hk] at hx
      obtain ⟨w,hw,rfl⟩:=List.mem_map.1 hx
      obtain ⟨o,j,ho,hj,hw⟩:=entO_mem.1 hw
      have he:=h.entry k hk o j ho hj
      have hw1:=h.wide 10 (2 * k+o) (by decide) (by omega)
      have hw2:=h.wide (2 * k+o) 10 (by omega) (by decide)
      simp only [entW,List.mem_cons,List.not_mem_nil,or_false] at hw
      rcases hw with rfl | rfl
      · show v 10 - v (2 * k + o) ≤ (if ((E >>> (2 * (2 * k + o) + j) &&& 1 : Nat) : Int) = 0 then (600 : Int) else -(S[k].ent o j).1)
        split
        · exact hw2
        · next hn =>
          have:=(he (by simpa [inE] using hn)).1
          generalize (S[k].ent o j).1=lo at *
          omega
      · show v (2 * k + o) - v 10 ≤ (if ((E >>> (2 * (2 * k + o) + j) &&& 1 : Nat) : Int) = 0 then (600 : Int) else (S[k].ent o j).2)
        split
        · exact hw1
        · next hn=>exact (he (by simpa [inE] using hn)).2
section
variable {S:List Sti} {rest:Int} {en:Nat} {x y:Int}
abbrev mom (en:Nat):Nat:=en / 2
variable (hS:S.length≤5) (hen:en < 4 * S.length)
include hS hen
def wrt (S:List Sti) (en:Nat):Int×Int :=
  match S[en / 4]? with
  | some s=>s.ent (en / 2 % 2) (en % 2)
  | none=>(0,0)
omit hS in
theorem wrt_at:wrt S en=(S[en / 4]'(by omega)).ent (en / 2 % 2) (en % 2):=by
  unfold wrt
  rw [List.getElem?_eq_getElem (by omega)]
end
theorem tab_mono {S S':List Sti} {rest:Int} {E E':Nat} (hA:∀ x∈allB S' rest,x.ok) (ho:okT (tabS S' rest E')=true) (h:∀ v,Keeps S' rest E' v→Keeps S rest E v) {a b:Nat} (ha:a < 11) (hb:b < 11):tabS S' rest E' a b≤tabS S rest E a b:=by
  have h1:=(h _ (late_keeps hA ho ha)).pot a b ha hb
  have h2:=tabS_self ho ha
  have h3:tabS S' rest E' a b - tabS S' rest E' a a≤tabS S rest E a b:=h1
  omega
end Go.Pv
namespace Go.Pv
open Go.Proofs Go.Am
set_option maxRecDepth 10000
theorem inE_bit (E q:Nat):inE E q=E.testBit q:=by
  unfold inE
  rw [Nat.and_one_is_mod,Nat.testBit,Nat.and_comm,Nat.and_one_is_mod]
  rcases Nat.mod_two_eq_zero_or_one (E >>> q) with h | h<;>rw [h]<;>rfl
theorem Kept.mono {S:List Sti} {rest:Int} {E E':Nat} {v:Nat→Int} (h:Kept S rest E v) (hE:∀ q,q < 4 * S.length→E'.testBit q=true→E.testBit q=true):Kept S rest E' v :=
  ⟨h.wide,h.rule,fun k hk o j ho hj hin=>h.entry k hk o j ho hj (by rw [inE_bit] at hin ⊢;exact hE _ (by omega) hin)⟩
def mins (f:Nat→Int) (z:Int):List Nat→Int
  | []=>z
  | q::qs=>min (f q) (mins f z qs)
theorem mins_z (f:Nat→Int) (z:Int):∀ qs,mins f z qs≤z
  | []=>Int.le_refl _
  | q :: qs => by
    have:=mins_z f z qs
    simp only [mins]
    omega
theorem mins_le (f:Nat→Int) (z:Int):∀ (qs:List Nat) {q:Nat},q∈qs→mins f z qs≤f q
  | p :: qs, q, h => by
    simp only [mins]
    rcases List.mem_cons.1 h with rfl | h
    · omega
    · have := mins_le f z qs h
      omega
theorem mins_is (f:Nat→Int) (z:Int):∀ qs:List Nat,mins f z qs=z∨∃ q∈qs,mins f z qs=f q
  | []=>.inl rfl
  | q :: qs => by
    simp only [mins]
    by_cases h:f q≤mins f z qs
    · exact .inr ⟨q,by simp,by omega⟩
    · rcases mins_is f z qs with h1 | ⟨p, hp, h1⟩
      · exact .inl (by omega)
      · exact .inr ⟨p,List.mem_cons_of_mem _ hp,by omega⟩
def rv (n x:Nat):Int:=if x < 2 * n then 61 * ((x / 2:Nat):Int)+((x % 2:Nat):Int) else 0
theorem rv_on {n k:Nat} (h:k < n):rv n (2 * k)=61 * (k:Int):=by
  unfold rv;rw [if_pos (by omega)];omega
theorem rv_off {n k:Nat} (h:k < n):rv n (2 * k+1)=61 * (k:Int)+1:=by
  unfold rv;rw [if_pos (by omega)];omega
section
variable {S:List Sti} {rest:Int} (hr:relOk rest S=true)
include hr
theorem rel_ok:∀ x∈allB S rest,x.ok:=by
  obtain ⟨h1,h2,h3⟩:=relOk_of hr
  exact allB_ok h1 h2 h3
theorem rules_truth : okT (tabS S rest 0) = true := by
  obtain ⟨h1,h2,h3⟩:=relOk_of hr
  have v10:rv S.length 10=0:=by unfold rv;rw [if_neg (by omega)]
  have hk : Kept S rest 0 (rv S.length) := by
    refine ⟨fun a b ha hb=>?_,fun k hk p hp=>?_,fun k hk o j ho hj hin=>?_⟩
    · unfold rv
      split<;>split<;>omega
    · have von := rv_on hk
      have vof:=rv_off hk
      simp only [rules,List.mem_append] at hp
      rcases hp with hp | hp | hp
      · simp only [rul1, List.mem_cons, List.not_mem_nil, or_false] at hp
        rcases hp with rfl | rfl
        · show rv S.length 10 - rv S.length (2 * k) ≤ 0
          omega
        · show rv S.length (2 * k) - rv S.length (2 * k + 1) ≤ -1
          omega
      · unfold rul2 at hp
        split at hp
        · next hk0 =>
          simp only [List.mem_singleton] at hp
          subst hp
          show rv S.length (2 * (k - 1)) - rv S.length (2 * k)≤-1
          rw [von,rv_on (by omega)]
          omega
        · cases hp
      · cases hf : frm S ((S.map Sti.r).getD k 0) k with
        | none=>rw [hf] at hp;cases hp
        | some f =>
          have:=frm_lt _ _ _ _ hf
          rw [hf] at hp
          simp only [rul3,List.mem_singleton] at hp
          subst hp
          show rv S.length (2 * f+1) - rv S.length (2 * k)≤-rest
          rw [von,rv_off (by omega)]
          omega
    · rw [inE_bit] at hin
      simp at hin
  exact ((kept_iff h2).2 hk).ok
theorem pair_ok {a b:Nat} (ha:a < 4 * S.length) (hb:b < 4 * S.length) (ho:okT (tabS S rest (1 * 2 ^ a ||| 1 * 2 ^ b))=true) :
    (wrt S b).1≤(wrt S a).2+tabS S rest 0 (mom a) (mom b)∧(wrt S b).1≤tabS S rest 0 10 (mom b)∧0≤(wrt S a).2+tabS S rest 0 (mom a) 10:=by
  obtain ⟨h1,h2,h3⟩:=relOk_of hr
  have hA:=rel_ok hr
  have hma:mom a < 11:=by show a / 2 < 11;omega
  have hmb:mom b < 11:=by show b / 2 < 11;omega
  have bita:inE (1 * 2 ^ a ||| 1 * 2 ^ b) a=true:=by
    rw [inE_bit,Nat.testBit_or,Nat.one_mul,Nat.testBit_two_pow_self,Bool.true_or]
  have bitb:inE (1 * 2 ^ a ||| 1 * 2 ^ b) b=true:=by
    rw [inE_bit,Nat.testBit_or,Nat.one_mul,Nat.one_mul,Nat.testBit_two_pow_self,Bool.or_true]
  have ma:2 * (a / 4)+a / 2 % 2=mom a:=by show _=a / 2;omega
  have mb:2 * (b / 4)+b / 2 % 2=mom b:=by show _=b / 2;omega
  have e1:=((kept_iff h2).1 (late_keeps hA ho (a:=10) (by decide))).entry (a / 4) (by omega) (a / 2 % 2) (a % 2) (by omega) (by omega) (by rw [show 2 * (2 * (a / 4)+a / 2 % 2)+a % 2=a from by omega];exact bita)
  have e2:=((kept_iff h2).1 (early_keeps hA ho (b:=10) (by decide))).entry (b / 4) (by omega) (b / 2 % 2) (b % 2) (by omega) (by omega) (by rw [show 2 * (2 * (b / 4)+b / 2 % 2)+b % 2=b from by omega];exact bitb)
  rw [ma,← wrt_at ha] at e1
  rw [mb,← wrt_at hb] at e2
  have z:=tabS_self ho (show 10 < 11 by decide)
  have e1':tabS S rest (1 * 2 ^ a ||| 1 * 2 ^ b) 10 (mom a) - tabS S rest (1 * 2 ^ a ||| 1 * 2 ^ b) 10 10≤(wrt S a).2:=e1.2
  have e2':(wrt S b).1≤-(tabS S rest (1 * 2 ^ a ||| 1 * 2 ^ b) (mom b) 10) - -(tabS S rest (1 * 2 ^ a ||| 1 * 2 ^ b) 10 10):=e2.1
  have hle:∀ x y,x < 11→y < 11→tabS S rest (1 * 2 ^ a ||| 1 * 2 ^ b) x y≤tabS S rest 0 x y:=fun x y hx hy=>tab_mono hA ho (fun v hv=>(kept_iff h2).2 (((kept_iff h2).1 hv).mono fun q _ hq=>by simp at hq)) hx hy
  have tri:∀ {x y c:Nat},x < 11→y < 11→c < 11→tabS S rest (1 * 2 ^ a ||| 1 * 2 ^ b) x y≤tabS S rest (1 * 2 ^ a ||| 1 * 2 ^ b) x c+tabS S rest (1 * 2 ^ a ||| 1 * 2 ^ b) c y:=fun hx hy hc=>short_tri ho hx hy hc
  have t1:=tri (show 10 < 11 by decide) (show 10 < 11 by decide) hmb
  have t2:=tri (show 10 < 11 by decide) hmb hma
  have t3:=tri (show 10 < 11 by decide) (show 10 < 11 by decide) hma
  have l1:=hle (mom a) (mom b) hma hmb
  have l2:=hle 10 (mom b) (by decide) hmb
  have l3:=hle (mom a) 10 hma (by decide)
  rw [z] at e1' e2' t1 t3
  generalize (wrt S b).1=lo at *
  generalize (wrt S a).2=hi at *
  exact ⟨by omega,by omega,by omega⟩
theorem two_ok {E : Nat} (hp : ∀ a b, a < 4 * S.length → b < 4 * S.length → E.testBit a = true → E.testBit b = true → okT (tabS S rest (1 * 2 ^ a ||| 1 * 2 ^ b)) = true) : okT (tabS S rest E) = true := by
  obtain ⟨h1,h2,h3⟩:=relOk_of hr
  have hA:=rel_ok hr
  have ho:=rules_truth hr
  have tri:∀ {x y c:Nat},x < 11→y < 11→c < 11→tabS S rest 0 x y≤tabS S rest 0 x c+tabS S rest 0 c y:=fun hx hy hc=>short_tri ho hx hy hc
  have hz:∀ {x:Nat},x < 11→tabS S rest 0 x x=0:=fun hx=>tabS_self ho hx
  generalize hqs:(List.range (4 * S.length)).filter (fun q=>E.testBit q)=qs
  have hmem:∀ q,q∈qs↔q < 4 * S.length∧E.testBit q=true:=fun q=>by rw [← hqs,List.mem_filter,List.mem_range]
  have hm11:∀ q,q∈qs→mom q < 11:=fun q hq=>by
    have:=((hmem q).1 hq).1
    show q / 2 < 11
    omega
  have hpq:=fun a (ha:a∈qs) b (hb:b∈qs)=>pair_ok hr ((hmem a).1 ha).1 ((hmem b).1 hb).1 (hp a b ((hmem a).1 ha).1 ((hmem b).1 hb).1 ((hmem a).1 ha).2 ((hmem b).1 hb).2)
  have hstep:∀ a b,a < 11→b < 11→mins (fun q=>(wrt S q).2+tabS S rest 0 (mom q) b) (tabS S rest 0 10 b) qs - mins (fun q=>(wrt S q).2+tabS S rest 0 (mom q) a) (tabS S rest 0 10 a) qs≤tabS S rest 0 a b:=fun a b ha hb=>by
    rcases mins_is (fun q=>(wrt S q).2+tabS S rest 0 (mom q) a) (tabS S rest 0 10 a) qs with h | ⟨q,hq,h⟩
    · rw [h]
      have g1:=mins_z (fun q=>(wrt S q).2+tabS S rest 0 (mom q) b) (tabS S rest 0 10 b) qs
      have g2:=tri (show 10 < 11 by decide) hb ha
      omega
    · rw [h]
      have g1:=mins_le (fun q=>(wrt S q).2+tabS S rest 0 (mom q) b) (tabS S rest 0 10 b) qs hq
      have g2:=tri (hm11 q hq) hb ha
      omega
  have hten:mins (fun q=>(wrt S q).2+tabS S rest 0 (mom q) 10) (tabS S rest 0 10 10) qs=0:=by
    have g0:=hz (show 10 < 11 by decide)
    have g1:=mins_z (fun q=>(wrt S q).2+tabS S rest 0 (mom q) 10) (tabS S rest 0 10 10) qs
    rcases mins_is (fun q=>(wrt S q).2+tabS S rest 0 (mom q) 10) (tabS S rest 0 10 10) qs with h | ⟨q,hq,h⟩
    · omega
    · have := (hpq q hq q hq).2.2
      omega
  have key:∀ Q∈qs,(wrt S Q).1≤mins (fun q=>(wrt S q).2+tabS S rest 0 (mom q) (mom Q)) (tabS S rest 0 10 (mom Q)) qs∧mins (fun q=>(wrt S q).2+tabS S rest 0 (mom q) (mom Q)) (tabS S rest 0 10 (mom Q)) qs≤(wrt S Q).2:=fun Q hq=>by
    constructor
    · rcases mins_is (fun q => (wrt S q).2 + tabS S rest 0 (mom q) (mom Q)) (tabS S rest 0 10 (mom Q)) qs with h | ⟨q, hq', h⟩
      · have := (hpq Q hq Q hq).2.1
        rw [h]
        omega
      · have := (hpq q hq' Q hq).1
        rw [h]
        omega
    · have g1 := mins_le (fun q => (wrt S q).2 + tabS S rest 0 (mom q) (mom Q)) (tabS S rest 0 10 (mom Q)) qs hq
      have g2:=hz (hm11 Q hq)
      omega
  have hk:Kept S rest E (fun x=>mins (fun q=>(wrt S q).2+tabS S rest 0 (mom q) x) (tabS S rest 0 10 x) qs):=by
    refine ⟨fun a b ha hb=>?_,fun k hk p hp'=>?_,fun k hk o j ho2 hj2 hin=>?_⟩
    · have g1 := hstep a b ha hb
      have g2:=tabS_wide (S:=S) (rest:=rest) (E:=0) ha hb
      omega
    · have hx : rulB p ∈ allB S rest := allB_mem.2 ⟨k, hk, List.mem_append.2 (.inl (List.mem_map.2 ⟨p, hp', rfl⟩))⟩
      have hox:=hA _ hx
      have g1:=hstep p.1 p.2.1 hox.1 hox.2.1
      have g2:tabS S rest 0 p.1 p.2.1≤p.2.2:=tabS_bd (E:=0) hx hox
      omega
    · rw [inE_bit] at hin
      have hq:2 * (2 * k+o)+j∈qs:=(hmem _).2 ⟨by omega,hin⟩
      have hmq:mom (2 * (2 * k+o)+j)=2 * k+o:=by show (2 * (2 * k+o)+j) / 2=_;omega
      have hwq:wrt S (2 * (2 * k+o)+j)=S[k].ent o j:=by
        rw [wrt_at (by omega)]
        have f1:(2 * (2 * k+o)+j) / 4=k:=by omega
        have f2:(2 * (2 * k+o)+j) / 2 % 2=o:=by omega
        have f3:(2 * (2 * k+o)+j) % 2=j:=by omega
        simp only [f1,f2,f3]
      have hkey:=key _ hq
      rw [hwq,hmq] at hkey
      rw [hten]
      exact ⟨by omega,by omega⟩
  exact ((kept_iff h2).2 hk).ok
end
end Go.Pv
namespace Go.Pv
open Go.Proofs Go.Am
set_option maxRecDepth 10000
def cnt:Nat→Nat→Nat
  | 0,_=>0
  | n+1,Y=>cnt n Y+(if Y.testBit n=true then 1 else 0)
def Sub2 (X Y:Nat):Prop:=∀ q,X.testBit q=true→Y.testBit q=true
theorem cnt_le:∀ (n Y:Nat),cnt n Y≤n
  | 0,_=>Nat.le_refl _
  | n + 1, Y => by
    have:=cnt_le n Y
    simp only [cnt]
    split<;>omega
theorem cnt_zero {Y:Nat}:∀ (n:Nat),(∀ q,q < n→Y.testBit q=false)→cnt n Y=0
  | 0,_=>rfl
  | n + 1, h => by
    simp only [cnt,h n (Nat.lt_succ_self _),cnt_zero n fun q hq=>h q (by omega)]
    rfl
theorem zero_cnt {Y:Nat}:∀ (n:Nat),cnt n Y=0→∀ q,q < n→Y.testBit q=false
  | 0,_,q,hq=>absurd hq (Nat.not_lt_zero _)
  | n + 1, h, q, hq => by
    simp only [cnt] at h
    by_cases hb:Y.testBit n=true
    · rw [if_pos hb] at h;omega
    · by_cases hqn : q = n
      · subst hqn;simpa using hb
      · exact zero_cnt n (by omega) q (by omega)
theorem cnt_top {Y k:Nat}:∀ (n:Nat),cnt n Y=k+1→∃ e,e < n∧Y.testBit e=true∧(∀ q,e < q→q < n→Y.testBit q=false)∧cnt e Y=k
  | 0,h=>by cases h
  | n + 1, h => by
    simp only [cnt] at h
    by_cases hb:Y.testBit n=true
    · rw [if_pos hb] at h
      exact ⟨n,Nat.lt_succ_self _,hb,fun q h1 h2=>by omega,by omega⟩
    · rw [if_neg hb] at h
      obtain ⟨e,h1,h2,h3,h4⟩:=cnt_top n (by omega)
      refine ⟨e,by omega,h2,fun q g1 g2=>?_,h4⟩
      by_cases hqn:q=n
      · subst hqn;simpa using hb
      · exact h3 q g1 (by omega)
theorem cnt_split {Y e:Nat} (he:Y.testBit e=true):∀ (n:Nat),e < n→(∀ q,e < q→q < n→Y.testBit q=false)→cnt n Y=cnt e Y+1
  | 0,h,_=>absurd h (Nat.not_lt_zero _)
  | n + 1, h, hq => by
    simp only [cnt]
    by_cases hen:e=n
    · subst hen;rw [if_pos he]
    · have h1 := hq n (by omega) (Nat.lt_succ_self _)
      rw [h1,if_neg (by decide),cnt_split he n (by omega) fun q g1 g2=>hq q g1 (by omega)]
theorem bit_larger (set e q:Nat):(set ||| 1 * 2 ^ e).testBit q=(set.testBit q || decide (e=q)):=by
  rw [Nat.testBit_or,Nat.one_mul,Nat.testBit_two_pow]
theorem lt_of_bit {x y:Nat} (i:Nat) (hx:x.testBit i=false) (hy:y.testBit i=true) (h:∀ j,i < j→x.testBit j=y.testBit j):x < y:=by
  have e:x / 2 ^ (i+1)=y / 2 ^ (i+1):=Nat.eq_of_testBit_eq fun j=>by
    rw [Nat.testBit_div_two_pow,Nat.testBit_div_two_pow]
    exact h _ (by omega)
  rw [Nat.pow_succ,← Nat.div_div_eq_div_mul,← Nat.div_div_eq_div_mul] at e
  rw [Nat.testBit_eq_decide_div_mod_eq] at hx hy
  simp only [decide_eq_false_iff_not,decide_eq_true_eq] at hx hy
  rcases Nat.lt_or_ge x y with g | g
  · exact g
  · have := Nat.div_le_div_right (c := 2 ^ i) g
    omega
section
variable {p:Nat→Bool}
theorem grow_has (mono : ∀ X Y, Y < 2 ^ 20 → Sub2 X Y → p X = true → p Y = true) : ∀ (k set n Y : Nat), set < 2 ^ 20 → n ≤ 20 → (∀ q, n ≤ q → Y.testBit q = set.testBit q) → (∀ q, q < n → set.testBit q = false) → cnt n Y = k → p Y = true → Y ∈ growL p k set n
  | 0, set, n, Y, _, _, h1, h2, h3, _ => by
    have:Y=set:=Nat.eq_of_testBit_eq fun q=>by
      rcases Nat.lt_or_ge q n with hq | hq
      · rw [zero_cnt n h3 q hq,h2 q hq]
      · exact h1 q hq
    subst this
    simp [growL]
  | k + 1, set, n, Y, hs, hn, h1, h2, h3, hp => by
    obtain ⟨e,g1,g2,g3,g4⟩:=cnt_top n h3
    have hlar:=or20 (e:=e) hs (by omega)
    have hun:((set ||| 1 * 2 ^ e) ||| (1 * 2 ^ e - 1)) < 2 ^ 20:=by
      refine Nat.or_lt_two_pow hlar ?_
      have:=Nat.pow_lt_pow_right (a:=2) (by decide) (show e < 20 by omega)
      omega
    have hsub:Sub2 Y ((set ||| 1 * 2 ^ e) ||| (1 * 2 ^ e - 1)):=fun q hq=>by
      rw [Nat.testBit_or,bit_larger,Nat.one_mul,Nat.testBit_two_pow_sub_one]
      rcases Nat.lt_or_ge q n with hqn | hqn
      · rcases Nat.lt_trichotomy q e with h | h | h
        · simp [h]
        · simp [h]
        · rw [g3 q h hqn] at hq;cases hq
      · rw [h1 q hqn] at hq
        simp [hq]
    simp only [growL,List.mem_flatMap,List.mem_range]
    refine ⟨e,g1,?_⟩
    rw [if_pos (mono _ _ hun hsub hp)]
    refine grow_has mono k _ e Y hlar (by omega) (fun q hq=>?_) (fun q hq=>?_) g4 hp
    · rw [bit_larger]
      by_cases hqe:e=q
      · subst hqe;rw [g2];simp
      · rw [decide_eq_false hqe, Bool.or_false]
        rcases Nat.lt_or_ge q n with hqn | hqn
        · rw [g3 q (by omega) hqn,h2 q hqn]
        · exact h1 q hqn
    · rw [bit_larger, h2 q (by omega), decide_eq_false (by omega)]
      rfl
theorem grow_is:∀ (k set n:Nat),(∀ q,q < n→set.testBit q=false)→∀ x∈growL p k set n,(∀ q,n≤q→x.testBit q=set.testBit q)∧cnt n x=k
  | 0, set, n, h, x, hx => by
    simp only [growL,List.mem_singleton] at hx
    subst hx
    exact ⟨fun q _=>rfl,cnt_zero n h⟩
  | k + 1, set, n, h, x, hx => by
    simp only [growL,List.mem_flatMap,List.mem_range] at hx
    obtain ⟨e,he,hx⟩:=hx
    split at hx
    · obtain ⟨g1, g2⟩ := grow_is k _ e (fun q hq => by rw [bit_larger, h q (by omega), decide_eq_false (by omega)]; rfl) x hx
      have hxe:x.testBit e=true:=by rw [g1 e (Nat.le_refl _),bit_larger];simp
      refine ⟨fun q hq=>?_,?_⟩
      · rw [g1 q (by omega),bit_larger,decide_eq_false (by omega),Bool.or_false]
      · rw [cnt_split hxe n he fun q a b=>by rw [g1 q (by omega),bit_larger,h q b,decide_eq_false (by omega)];rfl,g2]
    · cases hx
theorem grow_sorted : ∀ (k set n : Nat), (∀ q, q < n → set.testBit q = false) → (growL p k set n).Pairwise (· ≤ ·)
  | 0,set,n,h=>by simp [growL]
  | k + 1, set, n, h => by
    have hz:∀ e,e < n→∀ q,q < e→(set ||| 1 * 2 ^ e).testBit q=false:=fun e he q hq=>by
      rw [bit_larger,h q (by omega),decide_eq_false (by omega)]
      rfl
    rw [growL,List.pairwise_flatMap]
    refine ⟨fun e he=>?_,?_⟩
    · have he := List.mem_range.1 he
      split
      · exact grow_sorted k _ e (hz e he)
      · exact List.Pairwise.nil
    · refine List.Pairwise.imp_of_mem ?_ List.pairwise_lt_range
      intro e e' he he' hlt x hx y hy
      have he:=List.mem_range.1 he
      have he':=List.mem_range.1 he'
      split at hx
      · split at hy
        · obtain ⟨g1, _⟩ := grow_is k _ e (hz e he) x hx
          obtain ⟨f1,_⟩:=grow_is k _ e' (hz e' he') y hy
          refine Nat.le_of_lt (lt_of_bit e' ?_ ?_ fun q hq=>?_)
          · rw [g1 e' (by omega),bit_larger,h e' he',decide_eq_false (by omega)];rfl
          · rw [f1 e' (Nat.le_refl _),bit_larger];simp
          · rw [g1 q (by omega),f1 q (by omega),bit_larger,bit_larger,decide_eq_false (by omega),decide_eq_false (by omega)]
        · cases hy
      · cases hx
theorem find_sorted:∀ {l:List Nat} {s:Nat},l.Pairwise (·≤·)→l.find? p=some s→∀ y∈l,p y=true→s≤y
  | [],s,_,h,_,_,_=>by cases h
  | x :: l, s, hp, h, y, hy, hpy => by
    obtain ⟨h1,h2⟩:=List.pairwise_cons.1 hp
    simp only [List.find?_cons] at h
    split at h
    · cases h
      rcases List.mem_cons.1 hy with rfl | hy
      · exact Nat.le_refl _
      · exact h1 y hy
    · next hx =>
      rcases List.mem_cons.1 hy with rfl | hy
      · rw [hx] at hpy;cases hpy
      · exact find_sorted h2 h y hy hpy
theorem lt_of_bits {s n:Nat} (h:∀ q,n≤q→s.testBit q=false):s < 2 ^ n:=Nat.lt_pow_two_of_testBit _ h
theorem few_min {nE : Nat} (hn : nE ≤ 20) (mono : ∀ X Y, Y < 2 ^ 20 → Sub2 X Y → p X = true → p Y = true) : ∀ (d k : Nat), d + k = nE + 1 → (∀ Y, Y < 2 ^ nE → p Y = true → k ≤ cnt nE Y) → (∃ Y, Y < 2 ^ nE ∧ p Y = true) →
    ∃ s,fewO p nE d k=some s∧p s=true∧s < 2 ^ nE∧∀ Y,Y < 2 ^ nE→p Y=true→cnt nE s < cnt nE Y∨(cnt nE s=cnt nE Y∧s≤Y)
  | 0, k, hd, hk, ⟨Y, h1, h2⟩ => by
    have:=hk Y h1 h2
    have:=cnt_le nE Y
    omega
  | d + 1, k, hd, hk, hY => by
    have hhas:∀ Y,Y < 2 ^ nE→p Y=true→cnt nE Y=k→Y∈growL p k 0 nE:=fun Y h1 h2 h3 =>
      grow_has mono k 0 nE Y (by decide) hn (fun q hq=>by rw [Nat.zero_testBit];exact Nat.testBit_lt_two_pow (Nat.lt_of_lt_of_le h1 (Nat.pow_le_pow_right (by decide) hq))) (fun q _=>Nat.zero_testBit q) h3 h2
    simp only [fewO]
    cases hf:(growL p k 0 nE).find? p with
    | some s =>
      obtain ⟨g1,g2⟩:=grow_is k 0 nE (fun q _=>Nat.zero_testBit q) s (List.mem_of_find?_eq_some hf)
      refine ⟨s,rfl,List.find?_some hf,lt_of_bits fun q hq=>by rw [g1 q hq,Nat.zero_testBit],fun Y h1 h2=>?_⟩
      have h3:=hk Y h1 h2
      by_cases h4:cnt nE Y=k
      · exact .inr ⟨by omega,find_sorted (grow_sorted k 0 nE fun q _=>Nat.zero_testBit q) hf Y (hhas Y h1 h2 h4) h2⟩
      · exact .inl (by omega)
    | none =>
      refine few_min hn mono d (k+1) (by omega) (fun Y h1 h2=>?_) hY
      have h3:=hk Y h1 h2
      by_cases h4:cnt nE Y=k
      · have := List.find?_eq_none.1 hf Y (hhas Y h1 h2 h4)
        exact absurd h2 this
      · omega
theorem fewS_min {nE:Nat} (hn:nE≤20) (mono:∀ X Y,Y < 2 ^ 20→Sub2 X Y→p X=true→p Y=true) (h:∃ Y,Y < 2 ^ nE∧p Y=true) :
    p (fewS p nE)=true∧fewS p nE < 2 ^ nE∧∀ Y,Y < 2 ^ nE→p Y=true→cnt nE (fewS p nE) < cnt nE Y∨(cnt nE (fewS p nE)=cnt nE Y∧fewS p nE≤Y):=by
  obtain ⟨s,h1,h2,h3,h4⟩:=few_min hn mono (nE+1) 0 rfl (fun Y _ _=>Nat.zero_le _) h
  unfold fewS
  rw [h1]
  exact ⟨h2,h3,h4⟩
end
end Go.Pv
namespace Go.Pv
open Go.Proofs Go.Am
set_option maxRecDepth 10000
theorem f79 (n:Nat) (hn:n≤60):Fn P0 79 [I n] (N (2 ^ n)):=by
  have hp:∀ i,i≤n→2 ^ i≤2 ^ 60:=fun i hi=>Nat.pow_le_pow_right (by decide) (by omega)
  refine PFun.of (C:=c79) (cx_ok _ _ _) rfl (fn:=Try.f79) (by kernel_rfl) (c:=_) rfl rfl rfl ?_
  refine Run.seq (Run.region (cx_ok _ _ _) (Reg.op rfl (Ope.asg rfl ?_)))
  refine Reg.nil (Run.seq (Run.region (cx_ok _ _ _) (Reg.op rfl (Ope.asg rfl ?_))))
  refine Reg.nil (Run.seq (Run.seq (Run.region (cx_ok _ _ _) (Reg.op rfl (Ope.asg rfl ?_)))))
  refine Reg.nil (Run.block (Run.loop (α:=Nat) (fun i=>[(0,I n),(3,N (2 ^ i)),(4,I i)]) (fun _=>HE 0 []) (fun i=>i≤n) (fun i=>n - i) 0 ⟨rfl,rfl,rfl,trivial⟩ rfl (Nat.zero_le _) (fun i hi=>?_)))
  refine Run.seq (Run.seq (Run.region (cx_ok _ _ _) (Reg.op rfl (Ope.mov rfl ?_))))
  refine Reg.op rfl (Ope.mov rfl ?_)
  refine Reg.op rfl (Ope.lt rfl rfl ?_)
  refine Reg.nil (Run.condX rfl (fun hc=>?_) fun hc=>?_)
  ·refine Run.skip (Run.seq (Run.block ?_))
   have hpi:=hp i hi
   have hpi0:0 < 2 ^ i:=Nat.pow_pos (by decide)
   have hpi2:(0:Int)≤((2 ^ i:Nat):Int):=Int.natCast_nonneg _
   have hpi3:((2 ^ i:Nat):Int)≤((2 ^ 60:Nat):Int):=Int.ofNat_le.2 hpi
   have hpe:((2 ^ (i+1):Nat):Int)=2 * ((2 ^ i:Nat):Int):=by rw [Nat.pow_succ];omega
   refine Run.region (cx_ok _ _ _) (Reg.op rfl (Ope.mov rfl ?_))
   refine Reg.op rfl (Ope.mul rfl rfl (by omega) ?_)
   refine Reg.op rfl (Ope.asg rfl ?_)
   refine Reg.nil (Run.bend (Run.region (cx_ok _ _ _) (Reg.op rfl (Ope.mov rfl ?_))))
   refine Reg.op rfl (Ope.add rfl rfl (by omega) ?_)
   refine Reg.op rfl (Ope.asg rfl ?_)
   exact Reg.nil (Run.lend ⟨i+1,by omega,by omega,⟨rfl,(by show some _=some (PV.lit (.int .i64 ((2 ^ (i+1):Nat):Int)));rw [hpe]),rfl,trivial⟩,rfl,rfl⟩)
  ·refine Run.exit (Jmp.code (Jmp.round (Jmp.here (Run.seq ?_))))
   obtain rfl:i=n:=by omega
   refine Run.region (cx_ok _ _ _) (Reg.op rfl (Ope.mov rfl ?_))
   refine Reg.op rfl (Ope.asg rfl ?_)
   exact Reg.nil (Run.ret (fin_ret (.tmp rfl .nil) rfl rfl))
theorem f36 (rest:Int) (tl:Tail) (S:List Sti) (hS:S.length≤5):Fn P0 36 [relV rest tl S] (N (2 ^ (4 * S.length) - 1)):=by
  have hp0:0 < 2 ^ (4 * S.length):=Nat.pow_pos (by decide)
  have hp:2 ^ (4 * S.length)≤2 ^ 20:=Nat.pow_le_pow_right (by decide) (by omega)
  have e:((2 ^ (4 * S.length):Nat):Int) - 1=((2 ^ (4 * S.length) - 1:Nat):Int):=by omega
  refine PFun.of (C:=c36) (cx_ok _ _ _) rfl (fn:=Try.f36) (by kernel_rfl) (c:=_) rfl rfl rfl ?_
  refine Run.seq (Run.region (cx_ok _ _ _) (Reg.op rfl (Ope.boxF rfl rfl ?_)))
  refine Reg.op rfl (Ope.asg rfl ?_)
  refine Reg.nil (Run.seq (Run.region (cx_ok _ _ _) (Reg.op rfl (Ope.fld rfl rfl ?_))))
  refine Reg.op rfl (Ope.load rfl rfl ?_)
  refine Reg.op rfl (Ope.len (m:=S.length) rfl (by simp) ?_)
  refine Reg.op rfl (Ope.mul rfl rfl (by omega) ?_)
  refine Reg.op rfl (Ope.cf rfl rfl (f79 (4 * S.length) (by omega)) rfl ?_)
  refine Reg.op rfl (Ope.sub rfl rfl (by omega) ?_)
  refine Reg.op rfl (Ope.asg rfl ?_)
  refine Reg.nil (Run.ret (fin_ret (.tmp rfl .nil) rfl ?_))
  (show PV.lit (.int .i64 (((2 ^ (4 * S.length):Nat):Int) - 1))=_;rw [e])
def siz:Nat→Nat→Nat
  | 0,_=>0
  | d+1,x=>x % 2+siz d (x / 2)
theorem f39 (x:Nat) (hx:x < 2 ^ 40):Fn P0 39 [N x] (N (siz 40 x)):=by
  generalize hz40:siz 40 x=z
  refine PFun.of (C:=c39) (cx_ok _ _ _) rfl (fn:=Try.f39) (by kernel_rfl) (c:=_) rfl rfl rfl ?_
  refine Run.seq (Run.region (cx_ok _ _ _) (Reg.op rfl (Ope.asg rfl ?_)))
  refine Reg.nil (Run.seq (Run.region (cx_ok _ _ _) (Reg.op rfl (Ope.asg rfl ?_))))
  refine Reg.nil (Run.seq (Run.block (Run.loop (α:=Nat×Nat×Nat) (fun s=>[(0,N s.2.1),(3,N s.2.2)]) (fun _=>HE 0 []) (fun s=>s.2.1 < 2 ^ s.1∧s.1≤40∧s.2.2+siz s.1 s.2.1=z∧s.2.2+s.1≤40) (fun s=>s.1) (40,x,0) ⟨rfl,rfl,trivial⟩ rfl ⟨hx,Nat.le_refl _,(Nat.zero_add _).trans hz40,(show 0+40≤40 by decide)⟩ (fun s hs=>?_))))
  obtain ⟨d,y,c⟩:=s
  obtain ⟨hy,hd,hsz,hc⟩:=hs
  simp only at hy hd hsz hc
  have hy40:y < 2 ^ 40:=Nat.lt_of_lt_of_le hy (Nat.pow_le_pow_right (by decide) hd)
  show Run _ _ _ _ [(0,N y),(3,N c)] [] (HE 0 [])
  refine Run.seq (Run.seq (Run.region (cx_ok _ _ _) (Reg.op rfl (Ope.mov rfl ?_))))
  refine Reg.op rfl (Ope.gt rfl rfl ?_)
  refine Reg.nil (Run.condX rfl (fun hc=>?_) fun hc=>?_)
  ·refine Run.skip (Run.block (Run.seq ?_))
   obtain ⟨d,rfl⟩:∃ d',d=d'+1:=by
     cases d with
     | zero=>exfalso;simp at hy;omega
     | succ d=>exact ⟨d,rfl⟩
   refine Run.region (cx_ok _ _ _) (Reg.op rfl (Ope.mov rfl ?_))
   refine Reg.op rfl (Ope.mov rfl ?_)
   refine Reg.op rfl (Ope.remN (p:=y) (q:=2) rfl rfl rfl rfl (by decide) ?_)
   refine Reg.op rfl (Ope.add rfl rfl (by omega) ?_)
   refine Reg.op rfl (Ope.asg rfl ?_)
   refine Reg.nil (Run.region (cx_ok _ _ _) (Reg.op rfl (Ope.mov rfl ?_)))
   refine Reg.op rfl (Ope.quoN (p:=y) (q:=2) rfl rfl rfl rfl (by decide) (by show y < 2 ^ 63;omega) ?_)
   refine Reg.op rfl (Ope.asg rfl ?_)
   exact Reg.nil (Run.bend (Run.lend ⟨(d,y / 2,c+y % 2),Nat.lt_succ_self _,⟨by rw [Nat.pow_succ] at hy;show y / 2 < 2 ^ d;omega,by show d≤40;omega,by show c+y % 2+siz d (y / 2)=_;rw [← hsz];show _=c+(y % 2+siz d (y / 2));omega,by show c+y % 2+d≤40;omega⟩,⟨rfl,rfl,trivial⟩,rfl,rfl⟩))
  ·refine Run.exit (Jmp.code (Jmp.round (Jmp.here (Run.seq ?_))))
   obtain rfl:y=0:=by omega
   have hz:∀ d,siz d 0=0:=fun d=>by induction d with
     | zero=>rfl
     | succ d ih=>simp [siz,ih]
   rw [hz] at hsz
   obtain rfl:c=z:=by omega
   refine Run.region (cx_ok _ _ _) (Reg.op rfl (Ope.mov rfl ?_))
   refine Reg.op rfl (Ope.asg rfl ?_)
   exact Reg.nil (Run.ret (fin_ret (.tmp rfl .nil) rfl rfl))
end Go.Pv
namespace Go.Pv
open Go.Proofs Go.Am
set_option maxRecDepth 10000
theorem bit_shr (x i:Nat):((x >>> i &&& 1:Nat):Int)=0↔x.testBit i=false:=by
  rw [Nat.and_one_is_mod,Nat.testBit,Nat.and_comm,Nat.and_one_is_mod]
  rcases Nat.mod_two_eq_zero_or_one (x >>> i) with h | h<;>rw [h]<;>simp
end Go.Pv
namespace Go.Pv
open Go.Proofs Go.Am
set_option maxRecDepth 10000
section
variable {rest:Int} {tl:Tail} (htl:tl.isOwn=false) {S:List Sti} (hS:S.length≤1000000) (hr:relOk rest S=true) (ho:okT (tabA S rest)=true)
end
end Go.Pv
