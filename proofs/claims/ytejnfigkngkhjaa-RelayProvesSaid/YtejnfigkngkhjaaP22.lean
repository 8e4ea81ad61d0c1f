/- Parts of the proof: R97, R98, R107, R115, Pv62, Pv63 -/
import Derived.Test.YtejnfigkngkhjaaP21
import Derived.Test.YtejnfigkngkhjaaP14
import Derived.OpenShut
set_option linter.unusedVariables false
set_option linter.unusedSimpArgs false
set_option linter.unusedSectionVars false
namespace Go.Pv
open Go.Proofs Go.Am
set_option maxRecDepth 10000
structure MinH (rest:Int) (tl:Tail) (S:List Sti) (fr tt e n f g h:Int):Prop where
  nob:Fn P0 22 [relV rest tl S,I fr,I tt] (.tup [I n,I e])
  gap:Fn P0 24 [relV rest tl S,I fr,I tt] (.tup [I g,I f])
  cl:∃ c,Fn P0 26 [relV rest tl S] (.tup [I c,I h])
  is:(e=10∧f=10∧n=0∧g=0∧h=0)∨(e=4∧n=0∧f=4∧g=0)∨(e=4∧n=0∧f=0∧fr≤g∧g≤tt)∨(e=0∧f=0∧fr≤n∧n≤tt∧fr≤g∧g≤n)
  al:e≠10→∃ G C:Int→Bool,(∀ m,Fn P0 35 [I m,.fp (relV rest tl S)] (.tup [B (G m),B (C m)]))∧(e=0→C n=false)∧∀ m,fr≤m→(f=0→m < g)→(f≠0→m < tt+1)→G m=false
  on:e≠10→∀ k:Nat,k < S.length→∃ a b,Fn P0 14 [relV rest tl S,I k] (.tup [.agg [I a,I b],I 0]) ∧
    (e=0→a≤n→∃ c d,Fn P0 16 [relV rest .no (entS S (4 * k) a a),I k] (.tup [.agg [I c,I d],I 0])∧d≤n)
  gp:e≠10→∀ m,fr≤m→(f=0→m < g)→(f≠0→m < tt+1)→Fn P0 24 [relV rest tl S,I fr,I m] (.tup [I 0,I 4])
  nb:e≠10→∀ m,fr≤m→(e=0→m < n)→(e≠0→m < tt+1)→Fn P0 22 [relV rest tl S,I fr,I m] (.tup [I 0,I 4])
  bd:∀ x y,minsOk x y=false→Fn P0 24 [relV rest tl S,I x,I y] (.tup [I 0,I 2])
section
variable {T:Tab} (hlh:∀ m,m < 11→(T.min m).1≤(T.min m).2)
include hlh
end
end Go.Pv
namespace Go.Pv
open Go.Proofs Go.Am
set_option maxRecDepth 10000
section
variable {rest:Int} {tl:Tail} (htl:tl.isOwn=false) {S:List Sti} (hS:S.length≤1000000) (hr:relOk rest S=true)
include htl hS hr
end
end Go.Pv
namespace Go.Pv
open Go.Proofs Go.Am
set_option maxRecDepth 10000
section
variable {S:List Sti} {rest:Int} (hr:relOk rest S=true)
include hr
theorem ok_mono {X Y:Nat} (h:∀ q,q < 4 * S.length→X.testBit q=true→Y.testBit q=true) (hY:okT (tabS S rest Y)=true):okT (tabS S rest X)=true:=by
  obtain ⟨h1,h2,h3⟩:=relOk_of hr
  obtain ⟨v,hv⟩:=(ok_iff (rel_ok hr)).1 hY
  exact (ok_iff (rel_ok hr)).2 ⟨v,(kept_iff h2).2 (((kept_iff h2).1 hv).mono h)⟩
theorem clRow_bit (a b : Nat) : ∀ n, (clRow S rest a n).testBit b = (decide (b < n) && !okT (tabS S rest (1 * 2 ^ a ||| 1 * 2 ^ b)))
  | 0=>by simp [clRow]
  | n + 1 => by
    simp only [clRow]
    by_cases hbn:b=n
    · subst hbn
      split
      · next h =>
        rw [clRow_bit a b b,h,decide_eq_false (Nat.lt_irrefl _)]
        simp
      · next h =>
        rw [bit_larger,clRow_bit a b b]
        simp only [Bool.not_eq_true] at h
        rw [h]
        simp
    · have e : decide (b < n + 1) = decide (b < n) := decide_eq_decide.2 (by omega)
      rw [e]
      split
      · exact clRow_bit a b n
      · rw [bit_larger,clRow_bit a b n,show decide (n=b)=false from decide_eq_false (by omega),Bool.or_false]
theorem hit_iff {set i : Nat} (hi : i < 4 * S.length) : hitC (clsL S rest) set i = true ↔ set.testBit i = true ∧ ∃ b, b ≤ i ∧ set.testBit b = true ∧ okT (tabS S rest (1 * 2 ^ i ||| 1 * 2 ^ b)) = false := by
  have hg:(clsL S rest).getD i 0=clRow S rest i (i+1):=by
    have:i < (clsL S rest).length:=by rw [clsL_len];exact hi
    simp [List.getD,clsL,hi]
  have hb0:(((set >>> i &&& 1:Nat):Int)=1)↔set.testBit i=true:=by
    have h1:=bit_shr set i
    have h2:=Nat.and_one_is_mod (set >>> i)
    have h3:=Nat.mod_two_eq_zero_or_one (set >>> i)
    rw [← Bool.not_eq_false,← h1]
    omega
  have hb1:(((set &&& clRow S rest i (i+1):Nat):Int)=0)↔¬ ∃ b,b≤i∧set.testBit b=true∧okT (tabS S rest (1 * 2 ^ i ||| 1 * 2 ^ b))=false:=by
    constructor
    · rintro h ⟨b, c1, c2, c3⟩
      have h0:set &&& clRow S rest i (i+1)=0:=by omega
      have h2:=congrArg (fun n=>n.testBit b) h0
      simp only [Nat.testBit_and,clRow_bit hr,c2,c3,Nat.zero_testBit] at h2
      rw [decide_eq_true (by omega)] at h2
      simp at h2
    · intro h
      have h0:set &&& clRow S rest i (i+1)=0:=Nat.eq_of_testBit_eq fun b=>by
        rw [Nat.testBit_and,clRow_bit hr,Nat.zero_testBit]
        cases h4:set.testBit b with
        | false=>rfl
        | true =>
          by_cases h5:b < i+1
          · cases h6 : okT (tabS S rest (1 * 2 ^ i ||| 1 * 2 ^ b)) with
            | false=>exact absurd ⟨b,by omega,h4,h6⟩ h
            | true=>simp
          · simp [h5]
      rw [h0]
      rfl
  unfold hitC
  rw [hg,Bool.and_eq_true,decide_eq_true_eq,hb0,Bool.not_eq_true',decide_eq_false_iff_not,hb1,Classical.not_not]
theorem among_iff {set : Nat} : amongC (clsL S rest) set = !okT (tabS S rest set) := by
  rw [Bool.eq_iff_iff,Bool.not_eq_true']
  constructor
  · intro h
    obtain ⟨i,hi,hh⟩:=List.any_eq_true.1 h
    have hi:=List.mem_range.1 hi
    rw [clsL_len] at hi
    obtain ⟨h1,b,h2,h3,h4⟩:=(hit_iff hr hi).1 hh
    cases ho:okT (tabS S rest set) with
    | false=>rfl
    | true =>
      rw [ok_mono hr (X:=1 * 2 ^ i ||| 1 * 2 ^ b) (fun q _ hq=>?_) ho] at h4
      · cases h4
      · rw [bit_larger, Nat.one_mul, Nat.testBit_two_pow] at hq
        simp only [Bool.or_eq_true,decide_eq_true_eq] at hq
        rcases hq with rfl | rfl
        · exact h1
        · exact h3
  · intro h
    cases ha:amongC (clsL S rest) set with
    | true=>rfl
    | false =>
      have:okT (tabS S rest set)=true:=two_ok hr fun a b ha' hb' h1 h2=>by
        have key:∀ a b,a < 4 * S.length→b≤a→set.testBit a=true→set.testBit b=true→okT (tabS S rest (1 * 2 ^ a ||| 1 * 2 ^ b))=true:=fun a b ha' hab h1 h2=>by
          cases ho:okT (tabS S rest (1 * 2 ^ a ||| 1 * 2 ^ b)) with
          | true=>rfl
          | false =>
            have:=among_yes (by rw [clsL_len];exact ha') ((hit_iff hr ha').2 ⟨h1,b,hab,h2,ho⟩)
            rw [ha] at this
            cases this
        rcases Nat.le_total b a with hab | hab
        · exact key a b ha' hab h1 h2
        · rw [Nat.or_comm]
          exact key b a hb' hab h2 h1
      rw [h] at this
      cases this
end
end Go.Pv
namespace Go.Pv
open Go.Proofs Go.Am
set_option maxRecDepth 10000
abbrev Rul:=Nat×Nat×Int
structure Sat (n:Nat) (lo hi:Nat→Int) (R:List Rul) (v:Nat→Int):Prop where
  sp:∀ m,m < n→lo m≤v m∧v m≤hi m
  ru:∀ x∈R,v x.1+x.2.2≤v x.2.1
def NarQ (n:Nat) (lo hi:Nat→Int) (R:List Rul):Option ((Nat→Int)×(Nat→Int))→Prop
  | none=>∀ v,¬ Sat n lo hi R v
  | some (a,b)=>Sat n lo hi R a∧Sat n lo hi R b∧∀ v,Sat n lo hi R v→∀ m,m < n→a m≤v m∧v m≤b m
theorem NarQ.some_iff {n:Nat} {lo hi:Nat→Int} {R:List Rul} {q:Option ((Nat→Int)×(Nat→Int))} (h:NarQ n lo hi R q):q.isSome=true↔∃ v,Sat n lo hi R v:=by
  cases q with
  | none=>exact ⟨fun h=>(by cases h),fun ⟨v,hv⟩=>(h v hv).elim⟩
  | some p=>exact ⟨fun _=>⟨_,h.1⟩,fun _=>rfl⟩
def upI (f:Nat→Int) (a:Nat) (x:Int):Nat→Int:=fun i=>if i=a then x else f i
def stLo (x:Rul) (lo:Nat→Int):Nat→Int:=if lo x.2.1 < lo x.1+x.2.2 then upI lo x.2.1 (lo x.1+x.2.2) else lo
def stHi (x:Rul) (hi:Nat→Int):Nat→Int:=if hi x.2.1 - x.2.2 < hi x.1 then upI hi x.1 (hi x.2.1 - x.2.2) else hi
def wid (lo hi:Nat→Int):Nat→Int
  | 0=>0
  | n+1=>wid lo hi n+(hi n - lo n)
theorem wid_congr {lo hi lo' hi':Nat→Int}:∀ n,(∀ m,m < n→lo m=lo' m∧hi m=hi' m)→wid lo hi n=wid lo' hi' n
  | 0,_=>rfl
  | n + 1, h => by
    have h1:=h n (Nat.lt_succ_self _)
    simp only [wid,wid_congr n fun m hm=>h m (by omega),h1.1,h1.2]
theorem wid_lo {lo hi:Nat→Int} {b:Nat} {x:Int}:∀ n,b < n→wid (upI lo b x) hi n=wid lo hi n - (x - lo b)
  | 0,h=>absurd h (Nat.not_lt_zero _)
  | n + 1, h => by
    simp only [wid]
    by_cases hb:b=n
    · subst hb
      rw [wid_congr (lo':=lo) (hi':=hi) b fun m hm=>⟨by simp [upI,show m≠b by omega],rfl⟩]
      simp only [upI,if_pos]
      omega
    · rw [wid_lo n (by omega)]
      simp only [upI,if_neg (show ¬ n=b by omega)]
      omega
theorem wid_hi {lo hi:Nat→Int} {b:Nat} {x:Int}:∀ n,b < n→wid lo (upI hi b x) n=wid lo hi n - (hi b - x)
  | 0,h=>absurd h (Nat.not_lt_zero _)
  | n + 1, h => by
    simp only [wid]
    by_cases hb:b=n
    · subst hb
      rw [wid_congr (lo':=lo) (hi':=hi) b fun m hm=>⟨rfl,by simp [upI,show m≠b by omega]⟩]
      simp only [upI,if_pos]
      omega
    · rw [wid_hi n (by omega)]
      simp only [upI,if_neg (show ¬ n=b by omega)]
      omega
theorem wid_nonneg {lo hi:Nat→Int}:∀ n,(∀ m,m < n→lo m≤hi m)→0≤wid lo hi n
  | 0,_=>Int.le_refl _
  | n + 1, h => by
    have h1:=wid_nonneg n fun m hm=>h m (by omega)
    have h2:=h n (Nat.lt_succ_self _)
    simp only [wid]
    omega
structure NarJ (n:Nat) (lo0 hi0:Nat→Int) (R:List Rul) (lo hi:Nat→Int):Prop where
  l:∀ m,m < n→lo0 m≤lo m
  h:∀ m,m < n→hi m≤hi0 m
  s:∀ v,Sat n lo0 hi0 R v→∀ m,m < n→lo m≤v m∧v m≤hi m
theorem NarJ.init {n:Nat} {lo hi:Nat→Int} {R:List Rul}:NarJ n lo hi R lo hi:=⟨fun _ _=>Int.le_refl _,fun _ _=>Int.le_refl _,fun v hv m hm=>hv.sp m hm⟩
theorem NarJ.lo {n : Nat} {lo0 hi0 lo hi : Nat → Int} {R : List Rul} {x : Rul} (hx : x ∈ R) (h1 : x.1 < n) (h2 : x.2.1 < n) (J : NarJ n lo0 hi0 R lo hi) : NarJ n lo0 hi0 R (stLo x lo) hi := by
  unfold stLo
  split
  · next hc =>
    refine ⟨fun m hm=>?_,J.h,fun v hv m hm=>?_⟩
    · have := J.l m hm
      simp only [upI];split
      · next e=>subst e;omega
      · exact this
    · have h3 := J.s v hv m hm
      simp only [upI];split
      · next e =>
        subst e
        have h4:=(J.s v hv x.1 h1).1
        have h5:=hv.ru x hx
        exact ⟨by omega,h3.2⟩
      · exact h3
  · exact J
theorem NarJ.hi {n : Nat} {lo0 hi0 lo hi : Nat → Int} {R : List Rul} {x : Rul} (hx : x ∈ R) (h1 : x.1 < n) (h2 : x.2.1 < n) (J : NarJ n lo0 hi0 R lo hi) : NarJ n lo0 hi0 R lo (stHi x hi) := by
  unfold stHi
  split
  · next hc =>
    refine ⟨J.l,fun m hm=>?_,fun v hv m hm=>?_⟩
    · have := J.h m hm
      simp only [upI];split
      · next e=>subst e;omega
      · exact this
    · have h3 := J.s v hv m hm
      simp only [upI];split
      · next e =>
        subst e
        have h4:=(J.s v hv x.2.1 h2).2
        have h5:=hv.ru x hx
        exact ⟨h3.1,by omega⟩
      · exact h3
  · exact J
theorem NarJ.done {n:Nat} {lo0 hi0 lo hi:Nat→Int} {R:List Rul} (J:NarJ n lo0 hi0 R lo hi) (hle:∀ m,m < n→lo m≤hi m) (hr:∀ x∈R,lo x.1+x.2.2≤lo x.2.1∧hi x.1≤hi x.2.1 - x.2.2):NarQ n lo0 hi0 R (some (lo,hi)):=by
  refine ⟨⟨fun m hm=>⟨J.l m hm,?_⟩,fun x hx=>(hr x hx).1⟩,⟨fun m hm=>⟨?_,J.h m hm⟩,fun x hx=>?_⟩,J.s⟩
  · have:=hle m hm;have:=J.h m hm;omega
  · have:=hle m hm;have:=J.l m hm;omega
  · have:=(hr x hx).2;omega
theorem NarJ.none {n:Nat} {lo0 hi0 lo hi:Nat→Int} {R:List Rul} (J:NarJ n lo0 hi0 R lo hi) {m:Nat} (hm:m < n) (h:hi m < lo m):NarQ n lo0 hi0 R none:=fun v hv=>by
  have:=J.s v hv m hm
  omega
def nmeas (n:Nat) (lo hi:Nat→Int) (c:Bool):Nat :=
  2 * (if (List.range n).all (fun m=>decide (lo m≤hi m))=true then (wid lo hi n).toNat+1 else 0)+(if c=true then 1 else 0)
theorem all_le {n:Nat} {lo hi:Nat→Int}:(List.range n).all (fun m=>decide (lo m≤hi m))=true↔∀ m,m < n→lo m≤hi m:=by
  simp [List.all_eq_true]
theorem nmeas_lt {n:Nat} {lo hi lo' hi':Nat→Int} (h:∀ m,m < n→lo m≤hi m) (hw:wid lo' hi' n < wid lo hi n) (c:Bool):nmeas n lo' hi' c < nmeas n lo hi true:=by
  have h0:=wid_nonneg n h
  unfold nmeas
  rw [if_pos (all_le.2 h),if_pos rfl]
  by_cases h1:(List.range n).all (fun m=>decide (lo' m≤hi' m))=true
  · have h2 := wid_nonneg n (all_le.1 h1)
    rw [if_pos h1]
    cases c<;>simp<;>omega
  · rw [if_neg h1]
    cases c<;>simp
theorem nmeas_same {n:Nat} {lo hi:Nat→Int}:nmeas n lo hi false < nmeas n lo hi true:=by
  unfold nmeas;simp
/-! The rules of the reference, and what it begins with. -/
def rulF (S : List Sti) (rest : Int) (i : Nat) : List Rul :=
  (2 * i,2 * i+1,1)::((if 0 < i then [(2 * (i - 1),2 * i,1)] else [])++(match frm S ((S.map Sti.r).getD i 0) i with
    | some f=>[(2 * f+1,2 * i,rest)]
    | none=>[]))
def rulsR (S:List Sti) (rest:Int):Nat→List Rul
  | 0=>[]
  | n+1=>rulsR S rest n++rulF S rest n
theorem rulsR_mem {S:List Sti} {rest:Int} {x:Rul}:∀ n,x∈rulsR S rest n↔∃ i,i < n∧x∈rulF S rest i
  | 0=>by simp [rulsR]
  | n + 1 => by
    simp only [rulsR,List.mem_append,rulsR_mem n]
    constructor
    · rintro (⟨i, h1, h2⟩ | h)
      · exact ⟨i,by omega,h2⟩
      · exact ⟨n,by omega,h⟩
    · rintro ⟨i, h1, h2⟩
      by_cases hi:i=n
      · subst hi;exact .inr h2
      · exact .inl ⟨i,by omega,h2⟩
theorem rulF_ok {S:List Sti} {rest:Int} (hr:0≤rest∧rest≤60) {i:Nat} {x:Rul} (hx:x∈rulF S rest i):x.1 < x.2.1∧x.2.1 < 2 * i+2∧0≤x.2.2∧x.2.2≤60:=by
  simp only [rulF,List.mem_cons,List.mem_append] at hx
  rcases hx with rfl | hx | hx
  · exact ⟨by show 2 * i < 2 * i+1;omega,by show 2 * i+1 < _;omega,by show (0:Int)≤1;decide,by show (1:Int)≤60;decide⟩
  · split at hx
    · simp only [List.mem_singleton] at hx
      subst hx
      exact ⟨by show 2 * (i - 1) < 2 * i;omega,by show 2 * i < _;omega,by show (0:Int)≤1;decide,by show (1:Int)≤60;decide⟩
    · cases hx
  · cases hf : frm S ((S.map Sti.r).getD i 0) i with
    | none=>rw [hf] at hx;cases hx
    | some f =>
      have:=frm_lt _ _ _ _ hf
      rw [hf] at hx
      simp only [List.mem_singleton] at hx
      subst hx
      exact ⟨by show 2 * f+1 < 2 * i;omega,by show 2 * i < _;omega,hr.1,hr.2⟩
theorem rulsR_ok {S:List Sti} {rest:Int} (hr:0≤rest∧rest≤60) {n:Nat} {x:Rul} (hx:x∈rulsR S rest n):x.1 < x.2.1∧x.2.1 < 2 * n∧0≤x.2.2∧x.2.2≤60:=by
  obtain ⟨i,h1,h2⟩:=(rulsR_mem n).1 hx
  have:=rulF_ok hr h2
  omega
theorem rulsR_len {S:List Sti} {rest:Int}:∀ n,(rulsR S rest n).length≤3 * n
  | 0=>Nat.le_refl _
  | n + 1 => by
    have h1:=rulsR_len (S:=S) (rest:=rest) n
    have h2:(rulF S rest n).length≤3:=by
      simp only [rulF,List.length_cons,List.length_append]
      split<;>split<;>simp
    simp only [rulsR,List.length_append]
    omega
def mt (b:Bool) (p q:Int×Int):Int×Int:=if b=true then (max q.1 p.1,min q.2 p.2) else q
def fsO (s:Sti) (E k o:Nat):Int×Int:=mt (inE E (2 * (2 * k+o)+1)) (s.ent o 1) (mt (inE E (2 * (2 * k+o)+0)) (s.ent o 0) (0,600))
def fsP (S:List Sti) (E m:Nat):Int×Int :=
  match S[m / 2]? with
  | some s=>fsO s E (m / 2) (m % 2)
  | none=>(0,600)
abbrev fLo (S:List Sti) (E m:Nat):Int:=(fsP S E m).1
abbrev fHi (S:List Sti) (E m:Nat):Int:=(fsP S E m).2
theorem fsP_at {S:List Sti} {E k o:Nat} (hk:k < S.length) (ho:o < 2):fsP S E (2 * k+o)=fsO S[k] E k o:=by
  unfold fsP
  rw [show (2 * k+o) / 2=k from by omega,show (2 * k+o) % 2=o from by omega,List.getElem?_eq_getElem hk]
theorem mt_in {b:Bool} {p q:Int×Int} {x:Int}:((mt b p q).1≤x∧x≤(mt b p q).2)↔(q.1≤x∧x≤q.2)∧(b=true→p.1≤x∧x≤p.2):=by
  unfold mt
  cases b with
  | false=>simp
  | true=>simp;omega
theorem fsO_in {s:Sti} {E k o:Nat} {x:Int}:((fsO s E k o).1≤x∧x≤(fsO s E k o).2)↔(0≤x∧x≤600)∧∀ j,j < 2→inE E (2 * (2 * k+o)+j)=true→(s.ent o j).1≤x∧x≤(s.ent o j).2:=by
  unfold fsO
  rw [mt_in,mt_in]
  constructor
  · rintro ⟨⟨h1, h2⟩, h3⟩
    refine ⟨h1,fun j hj=>?_⟩
    rcases (by omega:j=0∨j=1) with rfl | rfl
    · exact h2
    · exact h3
  · rintro ⟨h1, h2⟩
    exact ⟨⟨h1,h2 0 (by decide)⟩,h2 1 (by decide)⟩
theorem mt_bnd {b:Bool} {p q:Int×Int} (hp:0≤p.1∧p.1≤p.2∧p.2≤600) (hq:0≤q.1∧q.1≤600∧0≤q.2∧q.2≤600):0≤(mt b p q).1∧(mt b p q).1≤600∧0≤(mt b p q).2∧(mt b p q).2≤600:=by
  unfold mt
  split
  · simp only;omega
  · exact hq
theorem fsO_bnd {s:Sti} (hs:s.ok=true) (E k o:Nat) (ho:o < 2):0≤(fsO s E k o).1∧(fsO s E k o).1≤600∧0≤(fsO s E k o).2∧(fsO s E k o).2≤600 :=
  mt_bnd (ent_bnd hs ho (by decide)) (mt_bnd (ent_bnd hs ho (by decide)) ⟨by decide,by decide,by decide,by decide⟩)
theorem fsP_bnd {S:List Sti} (hs:∀ s∈S,s.ok=true) (E m:Nat):0≤fLo S E m∧fLo S E m≤600∧0≤fHi S E m∧fHi S E m≤600:=by
  unfold fLo fHi fsP
  split
  · next s h=>exact fsO_bnd (hs s (List.mem_of_getElem? h)) E _ _ (Nat.mod_lt _ (by decide))
  · exact ⟨by decide,by decide,by decide,by decide⟩
section
variable {S:List Sti} {rest:Int} (hr:relOk rest S=true) {E:Nat}
include hr
theorem kept_sat {v : Nat → Int} (h : Kept S rest E v) : Sat (2 * S.length) (fLo S E) (fHi S E) (rulsR S rest S.length) (fun m => v m - v 10) := by
  obtain ⟨h1,h2,h3⟩:=relOk_of hr
  have hon:∀ k,k < S.length→0≤v (2 * k) - v 10∧v (2 * k)+1≤v (2 * k+1):=fun k hk=>by
    have r1:=h.rule k hk (2 * k,10,0) (by simp [rules,rul1])
    have r2:=h.rule k hk (2 * k+1,2 * k,-1) (by simp [rules,rul1])
    have r1':v 10 - v (2 * k)≤0:=r1
    have r2':v (2 * k) - v (2 * k+1)≤-1:=r2
    omega
  refine ⟨fun m hm=>?_,fun x hx=>?_⟩
  · have hk : m / 2 < S.length := by omega
    have ho:m % 2 < 2:=Nat.mod_lt _ (by decide)
    have e:m=2 * (m / 2)+m % 2:=by omega
    have hf:=fsP_at (E:=E) hk ho
    rw [← e] at hf
    show (fsP S E m).1≤_∧_≤(fsP S E m).2
    rw [hf,fsO_in,← e]
    have hw:=h.wide 10 m (by decide) (by omega)
    have h4:=hon (m / 2) hk
    refine ⟨⟨?_,hw⟩,fun j hj hin=>?_⟩
    · rcases (by omega : m % 2 = 0 ∨ m % 2 = 1) with h5 | h5
      · rw [show m=2 * (m / 2) from by omega];omega
      · rw [show m=2 * (m / 2)+1 from by omega];omega
    · have h6 := h.entry (m / 2) hk (m % 2) j ho hj (by rw [← e]; exact hin)
      rw [← e] at h6
      exact h6
  · obtain ⟨i, hi, hx⟩ := (rulsR_mem _).1 hx
    simp only [rulF,List.mem_cons,List.mem_append] at hx
    show v x.1 - v 10+x.2.2≤v x.2.1 - v 10
    rcases hx with rfl | hx | hx
    · have := (hon i hi).2
      show v (2 * i) - v 10+1≤v (2 * i+1) - v 10
      omega
    · split at hx
      · next h0 =>
        simp only [List.mem_singleton] at hx
        subst hx
        have h5:v (2 * (i - 1)) - v (2 * i)≤-1:=h.rule i hi (2 * i,2 * (i - 1),-1) (by simp [rules,rul2,h0])
        show v (2 * (i - 1)) - v 10+1≤v (2 * i) - v 10
        omega
      · cases hx
    · cases hf : frm S ((S.map Sti.r).getD i 0) i with
      | none=>rw [hf] at hx;cases hx
      | some f =>
        rw [hf] at hx
        simp only [List.mem_singleton] at hx
        subst hx
        have h5:v (2 * f+1) - v (2 * i)≤-rest:=h.rule i hi (2 * i,2 * f+1,-rest) (by simp only [rules,hf,rul3,List.mem_append,List.mem_singleton,or_true])
        show v (2 * f+1) - v 10+rest≤v (2 * i) - v 10
        omega
theorem sat_kept {v : Nat → Int} (h : Sat (2 * S.length) (fLo S E) (fHi S E) (rulsR S rest S.length) v) : Kept S rest E (fun m => if m < 2 * S.length then v m else 0) := by
  obtain ⟨h1,h2,h3⟩:=relOk_of hr
  have hin:∀ k (hk:k < S.length) o,o < 2→(0≤v (2 * k+o)∧v (2 * k+o)≤600)∧∀ j,j < 2→inE E (2 * (2 * k+o)+j)=true→(S[k].ent o j).1≤v (2 * k+o)∧v (2 * k+o)≤(S[k].ent o j).2:=fun k hk o ho=>by
    have h4:=h.sp (2 * k+o) (by omega)
    have h5:(fsP S E (2 * k+o)).1≤v (2 * k+o)∧v (2 * k+o)≤(fsP S E (2 * k+o)).2:=h4
    rw [fsP_at hk ho] at h5
    exact fsO_in.1 h5
  have hb:∀ m,m < 2 * S.length→0≤v m∧v m≤600:=fun m hm=>by
    have:=(hin (m / 2) (by omega) (m % 2) (Nat.mod_lt _ (by decide))).1
    rw [show 2 * (m / 2)+m % 2=m from by omega] at this
    exact this
  have hru:∀ i,i < S.length→∀ x∈rulF S rest i,v x.1+x.2.2≤v x.2.1:=fun i hi x hx=>h.ru x ((rulsR_mem _).2 ⟨i,hi,hx⟩)
  refine ⟨fun a b ha hb'=>?_,fun k hk p hp=>?_,fun k hk o j ho hj hq=>?_⟩
  · show (if b < 2 * S.length then v b else 0) - (if a < 2 * S.length then v a else 0) ≤ 600
    split<;>split
    · next p q=>have:=hb _ p;have:=hb _ q;omega
    · next p q=>have:=hb _ p;omega
    · next p q=>have:=hb _ q;omega
    · decide
  · have n10 : ¬ 10 < 2 * S.length := by omega
    simp only [rules,List.mem_append] at hp
    rcases hp with hp | hp | hp
    · simp only [rul1, List.mem_cons, List.not_mem_nil, or_false] at hp
      rcases hp with rfl | rfl
      · have := hb (2 * k) (by omega)
        show (if 10 < 2 * S.length then v 10 else 0) - (if 2 * k < 2 * S.length then v (2 * k) else 0)≤0
        rw [if_neg n10,if_pos (by omega)]
        omega
      · have h4 := hru k hk (2 * k, 2 * k + 1, 1) (by simp [rulF])
        show (if 2 * k < 2 * S.length then v (2 * k) else 0) - (if 2 * k+1 < 2 * S.length then v (2 * k+1) else 0)≤-1
        rw [if_pos (by omega),if_pos (by omega)]
        simp only at h4
        omega
    · unfold rul2 at hp
      split at hp
      · next h0 =>
        simp only [List.mem_singleton] at hp
        subst hp
        have h4:=hru k hk (2 * (k - 1),2 * k,1) (by simp [rulF,h0])
        show (if 2 * (k - 1) < 2 * S.length then v (2 * (k - 1)) else 0) - (if 2 * k < 2 * S.length then v (2 * k) else 0)≤-1
        rw [if_pos (by omega),if_pos (by omega)]
        simp only at h4
        omega
      · cases hp
    · cases hf : frm S ((S.map Sti.r).getD k 0) k with
      | none=>rw [hf] at hp;cases hp
      | some f =>
        have hfk:=frm_lt _ _ _ _ hf
        rw [hf] at hp
        simp only [rul3,List.mem_singleton] at hp
        subst hp
        have h4:=hru k hk (2 * f+1,2 * k,rest) (by simp only [rulF,hf,List.mem_cons,List.mem_append,List.mem_singleton,List.not_mem_nil,or_false,true_or,or_true])
        show (if 2 * f+1 < 2 * S.length then v (2 * f+1) else 0) - (if 2 * k < 2 * S.length then v (2 * k) else 0)≤-rest
        rw [if_pos (by omega),if_pos (by omega)]
        simp only at h4
        omega
  · have h4 := (hin k hk o ho).2 j hj hq
    show _≤(if 2 * k+o < 2 * S.length then v (2 * k+o) else 0) - (if 10 < 2 * S.length then v 10 else 0)∧(if 2 * k+o < 2 * S.length then v (2 * k+o) else 0) - (if 10 < 2 * S.length then v 10 else 0)≤_
    rw [if_pos (by omega),if_neg (by omega)]
    omega
abbrev Sat0 (S:List Sti) (rest:Int) (E:Nat) (v:Nat→Int):Prop:=Sat (2 * S.length) (fLo S E) (fHi S E) (rulsR S rest S.length) v
theorem sat_ok:(∃ v,Sat0 S rest E v)↔okT (tabS S rest E)=true:=by
  obtain ⟨h1,h2,h3⟩:=relOk_of hr
  rw [ok_iff (rel_ok hr)]
  exact ⟨fun ⟨v,hv⟩=>⟨_,(kept_iff h2).2 (sat_kept hr hv)⟩,fun ⟨v,hv⟩=>⟨_,kept_sat hr ((kept_iff h2).1 hv)⟩⟩
end
end Go.Pv
namespace Go.Pv
open Go.Am Go.RowKit
section
variable {H:Type} {enc:TypeId×Value→H} {P:Program} {w:World} {base:Nat} {spare:Nat→Bool} {held:Bool}
theorem Reads.array2 {t e:TypeId} {Q:List PV→Prop} (ht:P.underlying t=some (.array 2 e)) (hc:P.cellsOf t=P.cellsOf e+P.cellsOf e) (hr:Reads enc P w base spare held e Q):Reads enc P w base spare held t (Alls [Q,Q]):=by
 intro fuel cs x h
 obtain ⟨xs,m,rfl,rfl,h1,h2,h3⟩:=DataW.trod_array ht h
 obtain ⟨p0,q0,r0⟩:=hr _ _ _ ((h3 0 (by decide)).trans (List.getElem?_eq_getElem (by omega)))
 obtain ⟨p1,q1,r1⟩:=hr _ _ _ ((h3 1 (by decide)).trans (List.getElem?_eq_getElem (by omega)))
 rw [Nat.zero_mul,List.drop_zero] at q0
 rw [Nat.one_mul] at q1
 refine ⟨p0++(p1++[]),?_,p0,p1++[],rfl,r0,p1,[],rfl,r1,rfl⟩
 rw [List.append_nil]
 have e1:(cs.drop (P.cellsOf e)).take (P.cellsOf e)=cs.drop (P.cellsOf e):=List.take_of_length_le (by rw [List.length_drop];omega)
 rw [e1] at q1
 have:=RVs.append q0 q1
 rwa [List.take_append_drop] at this
theorem okWide_agg {P:Program} {w:World} {r:Reach} {base:Nat} {t:TypeId} {fs:Array Field} {v:Value} (ht:P.underlying t=some (.struct fs)) (h:Value.okWide P w r base t v):∃ cs,v=.agg cs:=by
 unfold Value.okWide at h
 rw [ht] at h
 obtain ⟨cs,rfl,_⟩:=h
 exact ⟨cs,rfl⟩
theorem trod_agg {t:TypeId} {fs:Array Field} {Q:List PV→Prop} {v:Value} {d:DataW H} {ps:List MemPlace} {r:Reach} {b:Nat} (ht:P.underlying t=some (.struct fs)) (hv:Value.okWide P w r b t v) (h:DataW.Trod enc P w base spare held t v d ps) (hr:Reads enc P w base spare held t Q) :
  ∃ l,RV (St.froz w) (.agg l) v∧Q l:=by
 obtain ⟨fuel,h⟩:=h
 obtain ⟨cs,rfl⟩:=okWide_agg ht hv
 obtain ⟨l,h1,h2⟩:=hr _ _ _ h
 exact ⟨l,RV_agg.2 ⟨cs,rfl,h1⟩,h2⟩
end
end Go.Pv
namespace Go.Pv
open Go.Am Go.RowKit
section
variable {C:Cx} {F:EQ} {X:EX} {k:List KI} {e:EL} {ds:List Nat} {h:PH} {K:PV→PH→Prop} {n:Nat} {l:HL}
variable {d:Option Tmp} {type:TypeId} {pos:String} {after:Array Edge} {guard:Option (Nat×Bool)}
end
end Go.Pv
