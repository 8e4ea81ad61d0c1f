/- Parts of the proof: R97, R98, R107, R99, R101, R108 -/
import Derived.Test.YtejnfigkngkhjaaP21
set_option linter.unusedVariables false
set_option linter.unusedSimpArgs false
set_option linter.unusedSectionVars false
namespace Go.Pv
open Go.Proofs Go.Am
set_option maxRecDepth 10000
structure MinH (rest:Int) (tl:Tail) (S:List Sti) (fr tt e n f g h:Int):Prop where
  nob:Fn P0 22 [relV rest tl S,I fr,I tt] (.tup [I n,I e])
  gap:Fn P0 24 [relV rest tl S,I fr,I tt] (.tup [I g,I f])
  cl:∃ c,Fn P0 26 [relV rest tl S] (.tup [I c,I h])
  is:(e=10∧f=10∧n=0∧g=0∧h=0)∨(e=4∧n=0∧f=4∧g=0)∨(e=4∧n=0∧f=0∧fr≤g∧g≤tt)∨(e=0∧f=0∧fr≤n∧n≤tt∧fr≤g∧g≤n)
  al:e≠10→∃ G C:Int→Bool,(∀ m,Fn P0 35 [I m,.fp (relV rest tl S)] (.tup [B (G m),B (C m)]))∧(e=0→C n=false)∧∀ m,fr≤m→(f=0→m < g)→(f≠0→m < tt+1)→G m=false
  on:e≠10→∀ k:Nat,k < S.length→∃ a b,Fn P0 14 [relV rest tl S,I k] (.tup [.agg [I a,I b],I 0]) ∧
    (e=0→a≤n→∃ c d,Fn P0 16 [relV rest .no (entS S (4 * k) a a),I k] (.tup [.agg [I c,I d],I 0])∧d≤n)
  gp:e≠10→∀ m,fr≤m→(f=0→m < g)→(f≠0→m < tt+1)→Fn P0 24 [relV rest tl S,I fr,I m] (.tup [I 0,I 4])
  nb:e≠10→∀ m,fr≤m→(e=0→m < n)→(e≠0→m < tt+1)→Fn P0 22 [relV rest tl S,I fr,I m] (.tup [I 0,I 4])
  bd:∀ x y,minsOk x y=false→Fn P0 24 [relV rest tl S,I x,I y] (.tup [I 0,I 2])
section
variable {T:Tab} (hlh:∀ m,m < 11→(T.min m).1≤(T.min m).2)
include hlh
end
end Go.Pv
namespace Go.Pv
open Go.Proofs Go.Am
set_option maxRecDepth 10000
section
variable {rest:Int} {tl:Tail} (htl:tl.isOwn=false) {S:List Sti} (hS:S.length≤1000000) (hr:relOk rest S=true)
include htl hS hr
theorem clashF:Fn P0 26 [relV rest tl S] (.tup [I (fewE rest S amongC),I (if okT (tabA S rest)=true then 4 else 0)]):=by
  have h:=f26 rest tl htl S hS
  unfold errC at h
  rw [if_neg (by rw [hr];decide)] at h
  exact h
theorem gapNo (hn:okT (tabA S rest)=false) {x y:Int} (h:minsOk x y=true):Fn P0 24 [relV rest tl S,I x,I y] (.tup [I 0,I 10])∧Fn P0 22 [relV rest tl S,I x,I y] (.tup [I 0,I 10]):=by
  have h1:=f24t rest tl htl S hS x y
  have h2:=f22t rest tl htl S hS x y
  have he:∀ e,errT rest S (minsOk x y) e=10:=fun e=>by
    unfold errT
    rw [if_neg (by rw [hr];decide),if_neg (by rw [h];decide),if_pos hn]
  unfold minE at h1 h2
  rw [he,if_neg (by decide)] at h1 h2
  exact ⟨h1,h2⟩
theorem gapIs (ho:okT (tabA S rest)=true) {x y:Int} (h:minsOk x y=true) :
    Fn P0 24 [relV rest tl S,I x,I y] (.tup [I (if noE (gapM rest S x y)=0 then (gapM rest S x y).getD 0 else 0),I (noE (gapM rest S x y))]) ∧
    Fn P0 22 [relV rest tl S,I x,I y] (.tup [I (if noE (nobM rest S x y)=0 then (nobM rest S x y).getD 0 else 0),I (noE (nobM rest S x y))]):=by
  have h1:=f24t rest tl htl S hS x y
  have h2:=f22t rest tl htl S hS x y
  unfold minE at h1 h2
  rw [err_at rest S hr h ho] at h1 h2
  exact ⟨h1,h2⟩
end
end Go.Pv
namespace Go.Pv
open Go.Proofs Go.Am
set_option maxRecDepth 10000
theorem freeN_r (S:List Sti) (out:Nat):∀ n,S.map Sti.r=(freeN S out n).map Sti.r
  | 0=>rfl
  | n + 1 => by
    simp only [freeN]
    split
    · exact (freeN_r S out n).trans entS_r
    · exact freeN_r S out n
theorem freeN_at {S : List Sti} {out k : Nat} {s0 : Sti} (hk : S[k]? = some s0) : ∀ n, ∃ s, (freeN S out n)[k]? = some s ∧ ∀ o j, o < 2 → j < 2 → s.ent o j = if 2 * (2 * k + o) + j < n ∧ out.testBit (2 * (2 * k + o) + j) = true then (0, 600) else s0.ent o j
  | 0=>⟨s0,hk,fun o j _ _=>by rw [if_neg (by omega)]⟩
  | n + 1 => by
    obtain ⟨s,h1,h2⟩:=freeN_at hk n
    simp only [freeN]
    by_cases hb:out.testBit n=true
    · rw [if_pos hb]
      obtain ⟨hl,hs⟩:=List.getElem?_eq_some_iff.1 h1
      have hl':k < (entS (freeN S out n) n 0 600).length:=by rw [entS_len];exact hl
      refine ⟨_,List.getElem?_eq_getElem hl',fun o j ho hj=>?_⟩
      rw [entS_at hl hl' ho hj,hs,h2 o j ho hj]
      by_cases hq:2 * (2 * k+o)+j=n
      · rw [if_pos hq,if_pos ⟨by omega,by rw [hq];exact hb⟩]
      · rw [if_neg hq]
        by_cases h3:2 * (2 * k+o)+j < n∧out.testBit (2 * (2 * k+o)+j)=true
        · rw [if_pos h3,if_pos ⟨by omega,h3.2⟩]
        · rw [if_neg h3,if_neg fun h4=>h3 ⟨by omega,h4.2⟩]
    · rw [if_neg hb]
      refine ⟨s,h1,fun o j ho hj=>?_⟩
      rw [h2 o j ho hj]
      by_cases h3:2 * (2 * k+o)+j < n∧out.testBit (2 * (2 * k+o)+j)=true
      · rw [if_pos h3,if_pos ⟨by omega,h3.2⟩]
      · rw [if_neg h3,if_neg fun h4=>h3 ⟨by
          rcases Nat.lt_or_ge (2 * (2 * k+o)+j) n with h | h
          · exact h
          · have : 2 * (2 * k + o) + j = n := by omega
            rw [this] at h4
            exact absurd h4.2 hb,h4.2⟩]
theorem freeN_ok {S:List Sti} {rest:Int} (hr:relOk rest S=true) (out:Nat):∀ n,n≤4 * S.length→relOk rest (freeN S out n)=true
  | 0,_=>hr
  | n + 1, hn => by
    have ih:=freeN_ok hr out n (by omega)
    simp only [freeN]
    split
    · exact entS_ok (q:=0) ih (by rw [freeN_len];omega) ⟨Int.le_refl _,by decide,Int.le_refl _⟩
    · exact ih
section
variable {S:List Sti} {rest:Int} (hr:relOk rest S=true)
include hr
theorem free_rel (out:Nat):relOk rest (freeS S out)=true:=freeN_ok hr out _ (Nat.le_refl _)
theorem ok_mono {X Y:Nat} (h:∀ q,q < 4 * S.length→X.testBit q=true→Y.testBit q=true) (hY:okT (tabS S rest Y)=true):okT (tabS S rest X)=true:=by
  obtain ⟨h1,h2,h3⟩:=relOk_of hr
  obtain ⟨v,hv⟩:=(ok_iff (rel_ok hr)).1 hY
  exact (ok_iff (rel_ok hr)).2 ⟨v,(kept_iff h2).2 (((kept_iff h2).1 hv).mono h)⟩
theorem clRow_bit (a b : Nat) : ∀ n, (clRow S rest a n).testBit b = (decide (b < n) && !okT (tabS S rest (1 * 2 ^ a ||| 1 * 2 ^ b)))
  | 0=>by simp [clRow]
  | n + 1 => by
    simp only [clRow]
    by_cases hbn:b=n
    · subst hbn
      split
      · next h =>
        rw [clRow_bit a b b,h,decide_eq_false (Nat.lt_irrefl _)]
        simp
      · next h =>
        rw [bit_larger,clRow_bit a b b]
        simp only [Bool.not_eq_true] at h
        rw [h]
        simp
    · have e : decide (b < n + 1) = decide (b < n) := decide_eq_decide.2 (by omega)
      rw [e]
      split
      · exact clRow_bit a b n
      · rw [bit_larger,clRow_bit a b n,show decide (n=b)=false from decide_eq_false (by omega),Bool.or_false]
theorem hit_iff {set i : Nat} (hi : i < 4 * S.length) : hitC (clsL S rest) set i = true ↔ set.testBit i = true ∧ ∃ b, b ≤ i ∧ set.testBit b = true ∧ okT (tabS S rest (1 * 2 ^ i ||| 1 * 2 ^ b)) = false := by
  have hg:(clsL S rest).getD i 0=clRow S rest i (i+1):=by
    have:i < (clsL S rest).length:=by rw [clsL_len];exact hi
    simp [List.getD,clsL,hi]
  have hb0:(((set >>> i &&& 1:Nat):Int)=1)↔set.testBit i=true:=by
    have h1:=bit_shr set i
    have h2:=Nat.and_one_is_mod (set >>> i)
    have h3:=Nat.mod_two_eq_zero_or_one (set >>> i)
    rw [← Bool.not_eq_false,← h1]
    omega
  have hb1:(((set &&& clRow S rest i (i+1):Nat):Int)=0)↔¬ ∃ b,b≤i∧set.testBit b=true∧okT (tabS S rest (1 * 2 ^ i ||| 1 * 2 ^ b))=false:=by
    constructor
    · rintro h ⟨b, c1, c2, c3⟩
      have h0:set &&& clRow S rest i (i+1)=0:=by omega
      have h2:=congrArg (fun n=>n.testBit b) h0
      simp only [Nat.testBit_and,clRow_bit hr,c2,c3,Nat.zero_testBit] at h2
      rw [decide_eq_true (by omega)] at h2
      simp at h2
    · intro h
      have h0:set &&& clRow S rest i (i+1)=0:=Nat.eq_of_testBit_eq fun b=>by
        rw [Nat.testBit_and,clRow_bit hr,Nat.zero_testBit]
        cases h4:set.testBit b with
        | false=>rfl
        | true =>
          by_cases h5:b < i+1
          · cases h6 : okT (tabS S rest (1 * 2 ^ i ||| 1 * 2 ^ b)) with
            | false=>exact absurd ⟨b,by omega,h4,h6⟩ h
            | true=>simp
          · simp [h5]
      rw [h0]
      rfl
  unfold hitC
  rw [hg,Bool.and_eq_true,decide_eq_true_eq,hb0,Bool.not_eq_true',decide_eq_false_iff_not,hb1,Classical.not_not]
theorem among_iff {set : Nat} : amongC (clsL S rest) set = !okT (tabS S rest set) := by
  rw [Bool.eq_iff_iff,Bool.not_eq_true']
  constructor
  · intro h
    obtain ⟨i,hi,hh⟩:=List.any_eq_true.1 h
    have hi:=List.mem_range.1 hi
    rw [clsL_len] at hi
    obtain ⟨h1,b,h2,h3,h4⟩:=(hit_iff hr hi).1 hh
    cases ho:okT (tabS S rest set) with
    | false=>rfl
    | true =>
      rw [ok_mono hr (X:=1 * 2 ^ i ||| 1 * 2 ^ b) (fun q _ hq=>?_) ho] at h4
      · cases h4
      · rw [bit_larger, Nat.one_mul, Nat.testBit_two_pow] at hq
        simp only [Bool.or_eq_true,decide_eq_true_eq] at hq
        rcases hq with rfl | rfl
        · exact h1
        · exact h3
  · intro h
    cases ha:amongC (clsL S rest) set with
    | true=>rfl
    | false =>
      have:okT (tabS S rest set)=true:=two_ok hr fun a b ha' hb' h1 h2=>by
        have key:∀ a b,a < 4 * S.length→b≤a→set.testBit a=true→set.testBit b=true→okT (tabS S rest (1 * 2 ^ a ||| 1 * 2 ^ b))=true:=fun a b ha' hab h1 h2=>by
          cases ho:okT (tabS S rest (1 * 2 ^ a ||| 1 * 2 ^ b)) with
          | true=>rfl
          | false =>
            have:=among_yes (by rw [clsL_len];exact ha') ((hit_iff hr ha').2 ⟨h1,b,hab,h2,ho⟩)
            rw [ha] at this
            cases this
        rcases Nat.le_total b a with hab | hab
        · exact key a b ha' hab h1 h2
        · rw [Nat.or_comm]
          exact key b a hb' hab h2 h1
      rw [h] at this
      cases this
end
end Go.Pv
namespace Go.Pv
open Go.Proofs Go.Am
set_option maxRecDepth 10000
abbrev U8 (x:Nat):PV:=.lit (.int .u8 ((x:Nat):Int))
theorem f12l (rest:Int) (tl:Tail) (S:List Sti) (hl:40 < S.length) (n:Nat):Fn P0 12 [relV rest tl S,I n] (B true):=by
  refine PFun.of (C:=c12) (cx_ok _ _ _) rfl (fn:=Try.f12) (by kernel_rfl) (c:=_) rfl rfl rfl ?_
  refine Run.seq (Run.region (cx_ok _ _ _) (Reg.op rfl (Ope.boxF rfl rfl ?_)))
  refine Reg.op rfl (Ope.asg rfl ?_)
  refine Reg.nil (Run.seq (Run.region (cx_ok _ _ _) (Reg.op rfl (Ope.fld rfl rfl ?_))))
  refine Reg.op rfl (Ope.load rfl rfl ?_)
  refine Reg.op rfl (Ope.len (m:=S.length) rfl (by simp) ?_)
  refine Reg.op rfl (Ope.gt rfl rfl ?_)
  refine Reg.op rfl (Ope.mov rfl ?_)
  refine Reg.splitX rfl rfl (fun hg=>?_) fun hg=>?_
  ·refine Reg.off rfl rfl rfl (Reg.off rfl rfl rfl (Reg.off rfl rfl rfl (Reg.off rfl rfl rfl (Reg.off rfl rfl rfl (Reg.off rfl rfl rfl (Reg.past rfl rfl rfl (Reg.past rfl rfl rfl (Reg.off rfl rfl rfl (Reg.op rfl (Ope.pickT rfl rfl ?_))))))))))
   refine Reg.op rfl (Ope.asg rfl ?_)
   exact Reg.nil (Run.ret (fin_ret (.tmp rfl .nil) rfl rfl))
  ·(first | (exfalso;omega))
end Go.Pv
namespace Go.Pv
open Go.Proofs Go.Am
set_option maxRecDepth 10000
def atF (o:Nat):Nat:=if o=1 then 16 else 14
structure EndH (rest:Int) (tl:Tail) (S:List Sti) (en:Nat) (sl sh cl ch e g:Int):Prop where
  at':Fn P0 (atF (en / 2 % 2)) [relV rest tl S,I ((en / 4:Nat):Int)] (.tup [.agg [I sl,I sh],I e])
  ln:Fn P0 18 [relV rest tl S,I ((en / 4:Nat):Int)] (.tup [.agg [I cl,I ch],I e])
  clF:∃ c,Fn P0 26 [relV rest tl S] (.tup [I c,I g])
  isF:(e=10∧g=0∧sl=0∧sh=0∧cl=0∧ch=0)∨(e=0∧g=4∧0≤sl∧sl≤sh∧sh≤600∧1≤cl∧cl≤ch∧ch≤600)
  ex:e=0→∀ n,0≤n→n≤600→∃ t u h,Fn P0 (atF (en / 2 % 2)) [relV rest .no (entS S en n n),I ((en / 4:Nat):Int)] (.tup [.agg [I t,I u],I h]) ∧
    ((h=0∧t=n∧u=n)∨(h=10∧¬ (sl≤n∧n≤sh)))∧(h=0→(wrt S en).1≤n→n≤(wrt S en).2→sl≤n∧n≤sh)
  onf : e = 0 → ∃ al ah bl bh, Fn P0 14 [relV rest tl S, I ((en / 4 : Nat) : Int)] (.tup [.agg [I al, I ah], I 0]) ∧ Fn P0 16 [relV rest tl S, I ((en / 4 : Nat) : Int)] (.tup [.agg [I bl, I bh], I 0]) ∧
    (bl - ah≤cl∧ch≤bh - al∧(0≤al∧al≤ah∧ah≤600)∧0≤bl∧bl≤bh∧bh≤600)∧∀ n,n=al∨n=ah→∃ ul uh,Fn P0 16 [relV rest .no (entS S (4 * (en / 4)) n n),I ((en / 4:Nat):Int)] (.tup [.agg [I ul,I uh],I 0]) ∧
      Fn P0 18 [relV rest .no (entS S (4 * (en / 4)) n n),I ((en / 4:Nat):Int)] (.tup [.agg [I (ul - n),I (uh - n)],I 0])∧cl≤ul - n∧uh - n≤ch∧(0≤ul∧ul≤600)∧0≤uh∧uh≤600
section
variable {rest:Int} {tl:Tail} (htl:tl.isOwn=false) {S:List Sti} (hS:S.length≤1000000) (hr:relOk rest S=true)
include hr in
end
end Go.Pv
namespace Go.Pv
open Go.Proofs Go.Am
set_option maxRecDepth 10000
theorem cnt_succ (x:Nat):∀ d,cnt (d+1) x=x % 2+cnt d (x / 2)
  | 0 => by
    simp only [cnt,Nat.zero_add,Nat.add_zero]
    rw [Nat.testBit_zero]
    rcases Nat.mod_two_eq_zero_or_one x with h | h<;>simp [h]
  | d + 1 => by
    have ih:=cnt_succ x d
    have e:x.testBit (d+1)=(x / 2).testBit d:=by rw [Nat.testBit_succ]
    rw [cnt,ih,cnt,e]
    omega
theorem siz_cnt:∀ (d x:Nat),siz d x=cnt d x
  | 0,_=>rfl
  | d+1,x=>by rw [siz,siz_cnt d (x / 2),cnt_succ]
theorem cnt_more {Y n:Nat} (h:∀ q,n≤q→Y.testBit q=false):∀ d,cnt (n+d) Y=cnt n Y
  | 0=>rfl
  | d + 1 => by
    show cnt (n+d+1) Y=_
    rw [cnt,cnt_more h d,h (n+d) (by omega)]
    rfl
section
variable {rest:Int} {tl:Tail} (htl:tl.isOwn=false) {S:List Sti} (hS:S.length≤1000000)
theorem n4_lt (h:S.length≤5):2 ^ (4 * S.length)≤2 ^ 20:=Nat.pow_le_pow_right (by decide) (by omega)
end
end Go.Pv
