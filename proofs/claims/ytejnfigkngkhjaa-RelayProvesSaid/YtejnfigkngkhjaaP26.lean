/- Parts of the proof: R109, R110, R128, R129, R100 -/
import Derived.Test.YtejnfigkngkhjaaP25
import Derived.Test.YtejnfigkngkhjaaP16
import Derived.Test.YtejnfigkngkhjaaP22
set_option linter.unusedVariables false
set_option linter.unusedSimpArgs false
set_option linter.unusedSectionVars false
namespace Go.Pv
open Go.Proofs Go.Am
set_option maxRecDepth 10000
section
variable {rest:Int} {tl:Tail} (htl:tl.isOwn=false) {S:List Sti} (hS:S.length≤1000000)
include htl hS in
theorem clashBad (hr:relOk rest S=false):Fn P0 26 [relV rest tl S] (.tup [I 0,I 1]):=by
  have h:=f26 rest tl htl S hS
  have he:errC rest S=1:=by unfold errC;rw [if_pos hr]
  unfold fewE at h
  rw [he,if_neg (by decide)] at h
  exact h
theorem sizeF {n x:Nat} (hn:n≤40) (hx:x < 2 ^ n):Fn P0 39 [N x] (N (cnt n x)):=by
  have h:=f39 x (Nat.lt_of_lt_of_le hx (Nat.pow_le_pow_right (by decide) hn))
  have e:siz 40 x=cnt n x:=by
    rw [siz_cnt,show 40=n+(40 - n) from by omega,cnt_more]
    exact fun q hq=>Nat.testBit_lt_two_pow (Nat.lt_of_lt_of_le hx (Nat.pow_le_pow_right (by decide) hq))
  rw [e] at h
  exact h
include htl hS in
theorem clH (hr : relOk rest S = true) : ∃ SI e : Int, Fn P0 26 [relV rest tl S] (.tup [I SI, I e]) ∧ ((e = 4 ∧ SI = 0 ∧ ∀ Y, Y < 2 ^ (4 * S.length) → clB S rest Y = false) ∨
    (e=0∧∃ s:Nat,SI=s∧(1≤s∧s < 2 ^ (4 * S.length))∧clB S rest s=true∧clB S rest (2 ^ (4 * S.length) - 1)=true∧cnt (4 * S.length) s≤2 ∧
      (∀ i,i < 4 * S.length→s.testBit i=true→clB S rest (s &&& (2 ^ 64 - 1 - 1 * 2 ^ i))=false) ∧
      ∀ Y,Y < 2 ^ (4 * S.length)→clB S rest Y=true→cnt (4 * S.length) s < cnt (4 * S.length) Y∨(cnt (4 * S.length) s=cnt (4 * S.length) Y∧s≤Y))):=by
  obtain ⟨hrr,hS5,hv⟩:=relOk_of hr
  have hn4:=n4_lt hS5
  have hp4:0 < 2 ^ (4 * S.length):=Nat.pow_pos (by decide)
  have hcl:=f26 rest tl htl S hS
  have hev:∀ q,q < 4 * S.length→(2 ^ (4 * S.length) - 1).testBit q=true:=fun q hq=>by rw [Nat.testBit_two_pow_sub_one];exact decide_eq_true hq
  cases ho:okT (tabA S rest) with
  | true =>
    have he:errC rest S=4:=by unfold errC;rw [if_neg (by rw [hr];decide),if_pos ho]
    unfold fewE at hcl
    rw [he,if_neg (by decide)] at hcl
    refine ⟨_,_,hcl,.inl ⟨rfl,rfl,fun Y hY=>?_⟩⟩
    rw [clB,ok_mono hr (Y:=allE S) (fun q hq _=>hev q hq) ho]
    rfl
  | false =>
    have he:errC rest S=0:=by unfold errC;rw [if_neg (by rw [hr];decide),if_neg (by rw [ho];decide)]
    unfold fewE at hcl
    rw [he,if_pos rfl] at hcl
    have hp:∀ Y,amongC (clsL S rest) Y=clB S rest Y:=fun Y=>among_iff hr
    have mono:∀ X Y,Y < 2 ^ 20→Sub2 X Y→amongC (clsL S rest) X=true→amongC (clsL S rest) Y=true:=fun X Y _ hXY hX=>by
      rw [hp,clB] at hX ⊢
      cases hY:okT (tabS S rest Y) with
      | false=>rfl
      | true=>rw [ok_mono hr (fun q _ hq=>hXY q hq) hY] at hX;cases hX
    have hevc:clB S rest (2 ^ (4 * S.length) - 1)=true:=by rw [clB];show (!okT (tabA S rest))=true;rw [ho];rfl
    obtain ⟨m1,m2,m3⟩:=fewS_min (nE:=4 * S.length) (by omega) mono ⟨2 ^ (4 * S.length) - 1,by omega,by rw [hp];exact hevc⟩
    generalize fewS (amongC (clsL S rest)) (4 * S.length)=s at *
    have hs62:s < 2 ^ 62:=by omega
    refine ⟨_,_,hcl,.inr ⟨rfl,s,rfl,⟨?_,m2⟩,by rw [← hp];exact m1,hevc,?_,fun i hi hb=>?_,fun Y hY hc=>m3 Y hY (by rw [hp];exact hc)⟩⟩
    · rcases Nat.eq_zero_or_pos s with h0 | h0
      · subst h0
        rw [hp,clB,rules_truth hr] at m1
        cases m1
      · exact h0
    · obtain ⟨i, hi, hh⟩ := List.any_eq_true.1 m1
      have hi:=List.mem_range.1 hi
      rw [clsL_len] at hi
      obtain ⟨h1,b,h2,h3,h4⟩:=(hit_iff hr hi).1 hh
      have hlt:(1 * 2 ^ i ||| 1 * 2 ^ b) < 2 ^ (4 * S.length):=by
        rw [Nat.one_mul,Nat.one_mul]
        exact Nat.or_lt_two_pow (Nat.pow_lt_pow_right (by decide) hi) (Nat.pow_lt_pow_right (by decide) (by omega))
      have g1:=m3 _ hlt (by rw [hp,clB,h4];rfl)
      have g2:=cnt_or (1 * 2 ^ i) (1 * 2 ^ b) (4 * S.length)
      have g3:=(cnt_pow i (4 * S.length)).1
      have g4:=(cnt_pow b (4 * S.length)).1
      omega
    · have hd := cnt_del hs62 (by omega) hb (4 * S.length) hi
      cases hc:clB S rest (s &&& (2 ^ 64 - 1 - 1 * 2 ^ i)) with
      | false=>rfl
      | true =>
        have:=m3 _ (Nat.lt_of_le_of_lt Nat.and_le_left m2) (by rw [hp];exact hc)
        omega
end
end Go.Pv
namespace Go.Pv
open Go.Proofs Go.Am
set_option maxRecDepth 10000
theorem out_bit {n set q:Nat} (hn:n≤20) (hs:set < 2 ^ 62):(outN n set).testBit q=(decide (q < n) && !set.testBit q):=by
  unfold outN allN
  rw [Nat.testBit_and,Nat.one_mul,Nat.testBit_two_pow_sub_one,show 2 ^ 64 - 1 - set=2 ^ 64 - (set+1) from by omega,Nat.testBit_two_pow_sub_succ (by omega)]
  by_cases hq:q < n
  · rw [decide_eq_true hq,decide_eq_true (show q < 64 by omega),Bool.true_and]
  · rw [decide_eq_false hq,Bool.false_and,Bool.false_and]
def caB (S:List Sti) (rest:Int) (out:Nat):Bool:=okT (tabS S rest (outN (4 * S.length) out))
section
variable {rest:Int} {tl:Tail} (htl:tl.isOwn=false) {S:List Sti} (hS:S.length≤1000000)
include htl hS in
theorem wrongBad (hr:relOk rest S=false):Fn P0 28 [relV rest tl S] (.tup [I 0,I 1]):=by
  have h:=f28 rest tl htl S hS
  have he:errC rest S=1:=by unfold errC;rw [if_pos hr]
  unfold fewE at h
  rw [he,if_neg (by decide)] at h
  exact h
structure WrH (S:List Sti) (rest:Int) (s c:Nat):Prop where
  lo:1≤s
  hi:s < 2 ^ (4 * S.length)
  can:caB S rest s=true
  one:s &&& c≠0
  cl:c < 2 ^ (4 * S.length)
  del:∀ i,i < 4 * S.length→s.testBit i=true→caB S rest (s &&& (2 ^ 64 - 1 - 1 * 2 ^ i))=false
  min:∀ Y,Y < 2 ^ (4 * S.length)→caB S rest Y=true→cnt (4 * S.length) s < cnt (4 * S.length) Y∨(cnt (4 * S.length) s=cnt (4 * S.length) Y∧s≤Y)
end
end Go.Pv
namespace Go.Pv
open Go.Proofs Go.Am
set_option maxRecDepth 10000
set_option maxHeartbeats 4000000
def lstS (n:Nat) (p:Nat→Bool) (b:Nat):Nat→Nat
  | 0=>b
  | s+1=>if cnt n s < cnt n (lstS n p b s)∧p s=true then s else lstS n p b s
structure LstP (n:Nat) (p:Nat→Bool) (b s x:Nat):Prop where
  a:p x=true
  m:x=b∨x < s
  l:∀ y,y < s→p y=true→cnt n x < cnt n y∨(cnt n x=cnt n y∧x≤y)∨x=b∧cnt n x=cnt n y
  b:cnt n x≤cnt n b
theorem lst_p {n : Nat} {p : Nat → Bool} {b : Nat} (hb : p b = true) : ∀ s, LstP n p b s (lstS n p b s)
  | 0=>⟨hb,.inl rfl,fun y hy=>absurd hy (Nat.not_lt_zero _),Nat.le_refl _⟩
  | s + 1 => by
    have ih:=lst_p (n:=n) hb s
    simp only [lstS]
    split
    · next h =>
      have hib:=ih.b
      refine ⟨h.2,.inr (Nat.lt_succ_self _),fun y hy hp=>?_,by omega⟩
      by_cases hys:y=s
      · subst hys;exact .inr (.inl ⟨rfl,Nat.le_refl _⟩)
      · have := ih.l y (by omega) hp
        omega
    · next h =>
      have hm:=ih.m
      refine ⟨ih.a,by omega,fun y hy hp=>?_,ih.b⟩
      by_cases hys:y=s
      · subst hys
        have h1:¬ cnt n y < cnt n (lstS n p b y):=fun h2=>h ⟨h2,hp⟩
        rcases hm with hm | hm<;>omega
      · exact ih.l y (by omega) hp
theorem cnt_all {n : Nat} : ∀ {y : Nat}, y < 2 ^ n → cnt n y = n → y = 2 ^ n - 1 := by
  intro y hy hc
  refine Nat.eq_of_testBit_eq fun q=>?_
  rw [Nat.testBit_two_pow_sub_one]
  by_cases hq:q < n
  · rw [decide_eq_true hq]
    cases hb:y.testBit q with
    | true=>rfl
    | false =>
      exfalso
      have key:∀ m,q < m→m≤n→cnt m y < m:=by
        intro m
        induction m with
        | zero=>intro h;omega
        | succ m ih =>
          intro h1 h2
          have h3:=cnt_le m y
          simp only [cnt]
          by_cases hqm:q=m
          · subst hqm;rw [hb];simp;omega
          · have := ih (by omega) (by omega)
            split<;>omega
      have:=key n hq (Nat.le_refl _)
      omega
  · rw [decide_eq_false hq]
    exact Nat.testBit_lt_two_pow (Nat.lt_of_lt_of_le hy (Nat.pow_le_pow_right (by decide) (by omega)))
theorem cnt_full (n:Nat):cnt n (2 ^ n - 1)=n:=by
  have key:∀ m,m≤n→cnt m (2 ^ n - 1)=m:=by
    intro m
    induction m with
    | zero=>intro _;rfl
    | succ m ih =>
      intro h
      have hb:(2 ^ n - 1).testBit m=true:=by rw [Nat.testBit_two_pow_sub_one];exact decide_eq_true (by omega)
      simp only [cnt,hb,if_true,ih (by omega)]
  exact key n (Nat.le_refl _)
theorem lst_is {n:Nat} {p:Nat→Bool} {x:Nat} (hall:p (2 ^ n - 1)=true) (hx:p x=true) (hx2:x < 2 ^ n) (hm:∀ Y,Y < 2 ^ n→p Y=true→cnt n x < cnt n Y∨(cnt n x=cnt n Y∧x≤Y)):lstS n p (2 ^ n - 1) (2 ^ n)=x:=by
  have hp:0 < 2 ^ n:=Nat.pow_pos (by decide)
  have h:=lst_p (n:=n) hall (2 ^ n)
  generalize lstS n p (2 ^ n - 1) (2 ^ n)=z at h
  have hz2:z < 2 ^ n:=by have:=h.m;omega
  have h1:=hm z hz2 h.a
  have h2:=h.l x hx2 hx
  have hf:=cnt_full n
  rcases h2 with h2 | h2 | ⟨h2,h3⟩
  · omega
  · omega
  · subst h2
    exact (cnt_all hx2 (by omega)).symm
section
variable {rest:Int} {tl:Tail} (htl:tl.isOwn=false) {S:List Sti}
include htl
theorem f27t (hr : relOk rest S = true) (hS2 : S.length ≤ 2) : Fn P0 27 [relV rest tl S] (if okT (tabA S rest) = true then .tup [I 0, I 4] else .tup [N (lstS (4 * S.length) (fun s => !okT (tabS S rest s)) (2 ^ (4 * S.length) - 1) (2 ^ (4 * S.length))), I 0]) := by
  obtain ⟨h1,h2,h3⟩:=relOk_of hr
  have hp:2 ^ (4 * S.length)≤2 ^ 8:=Nat.pow_le_pow_right (by decide) (by omega)
  have hp0:0 < 2 ^ (4 * S.length):=Nat.pow_pos (by decide)
  have hre:=f32 rest tl S (by omega)
  rw [hr] at hre
  have hev:=f36 rest tl S h2
  have hca:=fun E (hE:E < 2 ^ 60)=>f72 htl hr E hE
  have hsz:=fun x (hx:x < 2 ^ (4 * S.length))=>sizeF (n:=4 * S.length) (by omega) hx
  have hb1:=fun x:Nat=>bd_is rest tl htl S (x:Int)
  have hb2:=bd_rels rest tl htl S
  have hlz:lstS (4 * S.length) (fun s=>!okT (tabS S rest s)) (2 ^ (4 * S.length) - 1) 0=2 ^ (4 * S.length) - 1:=rfl
  have hls:∀ s,lstS (4 * S.length) (fun s=>!okT (tabS S rest s)) (2 ^ (4 * S.length) - 1) (s+1)=if cnt (4 * S.length) s < cnt (4 * S.length) (lstS (4 * S.length) (fun s=>!okT (tabS S rest s)) (2 ^ (4 * S.length) - 1) s)∧(!okT (tabS S rest s))=true then s else lstS (4 * S.length) (fun s=>!okT (tabS S rest s)) (2 ^ (4 * S.length) - 1) s:=fun s=>rfl
  have hlb:∀ s,s≤2 ^ (4 * S.length)→lstS (4 * S.length) (fun s=>!okT (tabS S rest s)) (2 ^ (4 * S.length) - 1) s < 2 ^ (4 * S.length):=by
    intro s
    induction s with
    | zero=>intro _;rw [hlz];omega
    | succ s ih =>
      intro hs
      rw [hls]
      split
      · omega
      · exact ih (by omega)
  have hA:∀ E,tabS S rest E=tabS S rest E:=fun _=>rfl
  generalize lstS (4 * S.length) (fun s=>!okT (tabS S rest s)) (2 ^ (4 * S.length) - 1)=Z at *
  have hca0:=hca (2 ^ (4 * S.length) - 1) (by omega)
  rw [show tabS S rest (2 ^ (4 * S.length) - 1)=tabA S rest from rfl] at hca0
  generalize hE4:2 ^ (4 * S.length)=E4 at *
  generalize okT (tabA S rest)=ka at *
  have hE1:((E4 - 1:Nat):Int)=(E4:Int) - 1:=by omega
  refine PFun.of (C:=c27) (cx_ok _ _ _) rfl (fn:=Try.f27) (by kernel_rfl) (c:=_) rfl rfl rfl ?_
  refine Run.seq (Run.region (cx_ok _ _ _) (Reg.op rfl (Ope.boxF rfl rfl ?_)))
  refine Reg.op rfl (Ope.asg rfl ?_)
  refine Reg.op rfl (Ope.asg rfl ?_)
  refine Reg.nil (Run.seq (Run.seq (Run.region (cx_ok _ _ _) (Reg.op rfl (Ope.load rfl rfl ?_)))))
  refine Reg.op rfl (Ope.cf rfl rfl hre hb2 ?_)
  refine Reg.op rfl (Ope.not rfl ?_)
  refine Reg.nil (Run.condF rfl (Run.skip (Run.seq (Run.region (cx_ok _ _ _) (Reg.op rfl (Ope.load rfl rfl ?_))))))
  refine Reg.op rfl (Ope.cf rfl rfl hev hb2 ?_)
  refine Reg.op rfl (Ope.asg rfl ?_)
  refine Reg.nil (Run.seq (Run.seq (Run.region (cx_ok _ _ _) (Reg.op rfl (Ope.load rfl rfl ?_)))))
  refine Reg.op rfl (Ope.mov rfl ?_)
  refine Reg.op rfl (Ope.cf rfl rfl hca0 (hb1 _) ?_)
  refine Reg.nil (Run.condX rfl (fun hc=>?_) fun hc=>?_)
  ·refine Run.seq (Run.region (cx_ok _ _ _) (Reg.op rfl (Ope.asg rfl ?_)))
   refine Reg.op rfl (Ope.asg rfl ?_)
   refine Reg.nil (Run.ret (Jmp.code (fin_ret (.tmp rfl (.tmp rfl .nil)) (by first | rfl | (split<;>rfl)) ?_)))
   first
   | (rw [if_pos (show ka=true from hc)];rfl)
   | (obtain rfl : s = E4 := by omega
      rw [if_neg (by rw [hka];decide)];rfl)
  ·refine Run.skip (Run.seq (Run.seq (Run.region (cx_ok _ _ _) (Reg.op rfl (Ope.asg rfl ?_)))))
   refine Reg.nil (Run.block ?_)
   have hka:ka=false:=hc
   refine Run.loop (α:=Nat) (fun s=>[(1,.fp (relV rest tl S)),(4,N (Z s)),(5,N s)]) (fun _=>HE 0 []) (fun s=>s≤E4) (fun s=>E4 - s) 0 ⟨rfl,by rw [hlz];rfl,rfl,trivial⟩ rfl (Nat.zero_le _) (fun s hs=>?_)
   refine Run.seq (Run.seq (Run.region (cx_ok _ _ _) (Reg.op rfl (Ope.mov rfl ?_))))
   refine Reg.op rfl (Ope.load rfl rfl ?_)
   refine Reg.op rfl (Ope.cf rfl rfl hev hb2 ?_)
   refine Reg.op rfl (Ope.le rfl rfl ?_)
   refine Reg.nil (Run.condX rfl (fun hc=>?_) fun hc=>?_)
   ·refine Run.skip (Run.seq (Run.block (Run.seq ?_)))
    have hlt:s < E4:=by omega
    have hzb:=hlb s (by omega)
    refine Run.region (cx_ok _ _ _) (Reg.op rfl (Ope.mov rfl ?_))
    refine Reg.op rfl (Ope.cf rfl rfl (hsz s hlt) rfl ?_)
    refine Reg.op rfl (Ope.mov rfl ?_)
    refine Reg.op rfl (Ope.cf rfl rfl (hsz (Z s) hzb) rfl ?_)
    refine Reg.op rfl (Ope.lt rfl rfl ?_)
    refine Reg.op rfl (Ope.mov rfl ?_)
    refine Reg.splitX rfl rfl (fun hg=>?_) fun hg=>?_
    ·refine Reg.on rfl rfl rfl (Ope.load rfl rfl ?_)
     refine Reg.on rfl rfl rfl (Ope.mov rfl ?_)
     refine Reg.on rfl rfl rfl (Ope.cf rfl rfl (hca s (by omega)) (hb1 s) ?_)
     refine Reg.on rfl rfl rfl (Ope.not rfl ?_)
     refine Reg.op rfl (Ope.pickT rfl rfl ?_)
     refine Reg.nil (Run.condX rfl (fun hc=>?_) fun hc=>?_)
     ·refine Run.region (cx_ok _ _ _) (Reg.op rfl (Ope.mov rfl ?_))
      refine Reg.op rfl (Ope.asg rfl ?_)
      refine Reg.nil (Run.bend (Run.region (cx_ok _ _ _) (Reg.op rfl (Ope.mov rfl ?_))))
      refine Reg.op rfl (Ope.add rfl rfl (by omega) ?_)
      refine Reg.op rfl (Ope.asg rfl ?_)
      refine Reg.nil ?_
      first
      | (have e : Z (s + 1) = s := by rw [hls, if_pos ⟨by omega, by rw [hc]; rfl⟩]
         exact Run.lend ⟨s+1,by omega,by omega,⟨rfl,by rw [e];rfl,rfl,trivial⟩,rfl,rfl⟩)
      | (have e : Z (s + 1) = Z s := by
           rw [hls,if_neg (fun h=>by
             have g1:=h.1
             have g2:=h.2
             first
               | omega
               | (rw [hc] at g2;cases g2))]
         exact Run.lend ⟨s+1,by omega,by omega,⟨rfl,by rw [e];rfl,rfl,trivial⟩,rfl,rfl⟩)
     ·refine Run.skip (Run.bend (Run.region (cx_ok _ _ _) (Reg.op rfl (Ope.mov rfl ?_))))
      refine Reg.op rfl (Ope.add rfl rfl (by omega) ?_)
      refine Reg.op rfl (Ope.asg rfl ?_)
      refine Reg.nil ?_
      first
      | (have e : Z (s + 1) = s := by rw [hls, if_pos ⟨by omega, by rw [hc]; rfl⟩]
         exact Run.lend ⟨s+1,by omega,by omega,⟨rfl,by rw [e];rfl,rfl,trivial⟩,rfl,rfl⟩)
      | (have e : Z (s + 1) = Z s := by
           rw [hls,if_neg (fun h=>by
             have g1:=h.1
             have g2:=h.2
             first
               | omega
               | (rw [hc] at g2;cases g2))]
         exact Run.lend ⟨s+1,by omega,by omega,⟨rfl,by rw [e];rfl,rfl,trivial⟩,rfl,rfl⟩)
    ·refine Reg.off rfl rfl rfl (Reg.off rfl rfl rfl (Reg.off rfl rfl rfl (Reg.off rfl rfl rfl (Reg.op rfl (Ope.pickF rfl rfl ?_)))))
     refine Reg.nil (Run.condF rfl (Run.skip (Run.bend (Run.region (cx_ok _ _ _) (Reg.op rfl (Ope.mov rfl ?_))))))
     refine Reg.op rfl (Ope.add rfl rfl (by omega) ?_)
     refine Reg.op rfl (Ope.asg rfl ?_)
     refine Reg.nil ?_
     first
     | (have e : Z (s + 1) = s := by rw [hls, if_pos ⟨by omega, by rw [hc]; rfl⟩]
        exact Run.lend ⟨s+1,by omega,by omega,⟨rfl,by rw [e];rfl,rfl,trivial⟩,rfl,rfl⟩)
     | (have e : Z (s + 1) = Z s := by
          rw [hls,if_neg (fun h=>by
            have g1:=h.1
            have g2:=h.2
            first
              | omega
              | (rw [hc] at g2;cases g2))]
        exact Run.lend ⟨s+1,by omega,by omega,⟨rfl,by rw [e];rfl,rfl,trivial⟩,rfl,rfl⟩)
   ·refine Run.exit (Jmp.code (Jmp.round (Jmp.here (Run.seq (Run.region (cx_ok _ _ _) (Reg.op rfl (Ope.mov rfl ?_)))))))
    refine Reg.op rfl (Ope.asg rfl ?_)
    refine Reg.op rfl (Ope.asg rfl ?_)
    refine Reg.nil (Run.ret (fin_ret (.tmp rfl (.tmp rfl .nil)) (by first | rfl | (split<;>rfl)) ?_))
    first
    | (rw [if_pos (show ka=true from hc)];rfl)
    | (obtain rfl : s = E4 := by omega
       rw [if_neg (by rw [hka];decide)];rfl)
theorem f29t (hr : relOk rest S = true) (hS2 : S.length ≤ 2) : Fn P0 29 [relV rest tl S] (if okT (tabA S rest) = true then .tup [I 0, I 4] else .tup [N (lstS (4 * S.length) (fun s => okT (tabS S rest (2 ^ (4 * S.length) - 1 - s))) (2 ^ (4 * S.length) - 1) (2 ^ (4 * S.length))), I 0]) := by
  obtain ⟨h1,h2,h3⟩:=relOk_of hr
  have hp:2 ^ (4 * S.length)≤2 ^ 8:=Nat.pow_le_pow_right (by decide) (by omega)
  have hp0:0 < 2 ^ (4 * S.length):=Nat.pow_pos (by decide)
  have hre:=f32 rest tl S (by omega)
  rw [hr] at hre
  have hev:=f36 rest tl S h2
  have hca:=fun E (hE:E < 2 ^ 60)=>f72 htl hr E hE
  have hsz:=fun x (hx:x < 2 ^ (4 * S.length))=>sizeF (n:=4 * S.length) (by omega) hx
  have hb1:=fun x:Nat=>bd_is rest tl htl S (x:Int)
  have hb2:=bd_rels rest tl htl S
  have hlz:lstS (4 * S.length) (fun s=>okT (tabS S rest (2 ^ (4 * S.length) - 1 - s))) (2 ^ (4 * S.length) - 1) 0=2 ^ (4 * S.length) - 1:=rfl
  have hls:∀ s,lstS (4 * S.length) (fun s=>okT (tabS S rest (2 ^ (4 * S.length) - 1 - s))) (2 ^ (4 * S.length) - 1) (s+1)=if cnt (4 * S.length) s < cnt (4 * S.length) (lstS (4 * S.length) (fun s=>okT (tabS S rest (2 ^ (4 * S.length) - 1 - s))) (2 ^ (4 * S.length) - 1) s)∧okT (tabS S rest (2 ^ (4 * S.length) - 1 - s))=true then s else lstS (4 * S.length) (fun s=>okT (tabS S rest (2 ^ (4 * S.length) - 1 - s))) (2 ^ (4 * S.length) - 1) s:=fun s=>rfl
  have hlb:∀ s,s≤2 ^ (4 * S.length)→lstS (4 * S.length) (fun s=>okT (tabS S rest (2 ^ (4 * S.length) - 1 - s))) (2 ^ (4 * S.length) - 1) s < 2 ^ (4 * S.length):=by
    intro s
    induction s with
    | zero=>intro _;rw [hlz];omega
    | succ s ih =>
      intro hs
      rw [hls]
      split
      · omega
      · exact ih (by omega)
  have hA:∀ E,tabS S rest E=tabS S rest E:=fun _=>rfl
  generalize lstS (4 * S.length) (fun s=>okT (tabS S rest (2 ^ (4 * S.length) - 1 - s))) (2 ^ (4 * S.length) - 1)=Z at *
  have hca0:=hca (2 ^ (4 * S.length) - 1) (by omega)
  rw [show tabS S rest (2 ^ (4 * S.length) - 1)=tabA S rest from rfl] at hca0
  generalize hE4:2 ^ (4 * S.length)=E4 at *
  generalize okT (tabA S rest)=ka at *
  have hE1:((E4 - 1:Nat):Int)=(E4:Int) - 1:=by omega
  refine PFun.of (C:=c29) (cx_ok _ _ _) rfl (fn:=Try.f29) (by kernel_rfl) (c:=_) rfl rfl rfl ?_
  refine Run.seq (Run.region (cx_ok _ _ _) (Reg.op rfl (Ope.boxF rfl rfl ?_)))
  refine Reg.op rfl (Ope.asg rfl ?_)
  refine Reg.op rfl (Ope.asg rfl ?_)
  refine Reg.nil (Run.seq (Run.seq (Run.region (cx_ok _ _ _) (Reg.op rfl (Ope.load rfl rfl ?_)))))
  refine Reg.op rfl (Ope.cf rfl rfl hre hb2 ?_)
  refine Reg.op rfl (Ope.not rfl ?_)
  refine Reg.nil (Run.condF rfl (Run.skip (Run.seq (Run.region (cx_ok _ _ _) (Reg.op rfl (Ope.load rfl rfl ?_))))))
  refine Reg.op rfl (Ope.cf rfl rfl hev hb2 ?_)
  refine Reg.op rfl (Ope.asg rfl ?_)
  refine Reg.nil (Run.seq (Run.seq (Run.region (cx_ok _ _ _) (Reg.op rfl (Ope.load rfl rfl ?_)))))
  refine Reg.op rfl (Ope.mov rfl ?_)
  refine Reg.op rfl (Ope.cf rfl rfl hca0 (hb1 _) ?_)
  refine Reg.nil (Run.condX rfl (fun hc=>?_) fun hc=>?_)
  ·refine Run.seq (Run.region (cx_ok _ _ _) (Reg.op rfl (Ope.asg rfl ?_)))
   refine Reg.op rfl (Ope.asg rfl ?_)
   refine Reg.nil (Run.ret (Jmp.code (fin_ret (.tmp rfl (.tmp rfl .nil)) (by first | rfl | (split<;>rfl)) ?_)))
   first
   | (rw [if_pos (show ka=true from hc)];rfl)
   | (obtain rfl : s = E4 := by omega
      rw [if_neg (by rw [hka];decide)];rfl)
  ·refine Run.skip (Run.seq (Run.seq (Run.region (cx_ok _ _ _) (Reg.op rfl (Ope.asg rfl ?_)))))
   refine Reg.nil (Run.block ?_)
   have hka:ka=false:=hc
   refine Run.loop (α:=Nat) (fun s=>[(1,.fp (relV rest tl S)),(4,N (Z s)),(5,N s)]) (fun _=>HE 0 []) (fun s=>s≤E4) (fun s=>E4 - s) 0 ⟨rfl,by rw [hlz];rfl,rfl,trivial⟩ rfl (Nat.zero_le _) (fun s hs=>?_)
   refine Run.seq (Run.seq (Run.region (cx_ok _ _ _) (Reg.op rfl (Ope.mov rfl ?_))))
   refine Reg.op rfl (Ope.load rfl rfl ?_)
   refine Reg.op rfl (Ope.cf rfl rfl hev hb2 ?_)
   refine Reg.op rfl (Ope.le rfl rfl ?_)
   refine Reg.nil (Run.condX rfl (fun hc=>?_) fun hc=>?_)
   ·refine Run.skip (Run.seq (Run.block (Run.seq ?_)))
    have hlt:s < E4:=by omega
    have hzb:=hlb s (by omega)
    refine Run.draw (cx_ok _ _ _) [(0,true),(2,true),(1,true),(3,true),(4,true),(5,true),(6,false),(7,true),(9,true),(8,true),(10,true),(11,true),(12,true)] (by kernel_rfl) (Dra.op' rfl rfl rfl .sure (Ope.mov rfl ?_))
    refine Dra.op' rfl rfl rfl .sure (Ope.mov rfl ?_)
    refine Dra.op' rfl rfl rfl .sure (Ope.cf rfl rfl (hsz s hlt) rfl ?_)
    refine Dra.op' rfl rfl rfl .sure (Ope.cf rfl rfl (hsz (Z s) hzb) rfl ?_)
    refine Dra.op' rfl rfl rfl .sure (Ope.lt rfl rfl ?_)
    refine Dra.op' rfl rfl rfl .sure (Ope.mov rfl ?_)
    refine Dra.splitX rfl rfl rfl rfl (fun hg=>?_) fun hg=>?_
    ·refine Dra.on' rfl rfl rfl rfl rfl (.load rfl) (Ope.load rfl rfl ?_)
     refine Dra.on' rfl rfl rfl rfl rfl .sure (Ope.load rfl rfl ?_)
     refine Dra.on' rfl rfl rfl rfl rfl .sure (Ope.mov rfl ?_)
     refine Dra.on' rfl rfl rfl rfl rfl .sure (Ope.cf rfl rfl hev hb2 ?_)
     refine Dra.on' rfl rfl rfl rfl rfl .sure (Ope.sub rfl rfl (by omega) ?_)
     rw [show (((E4 - 1:Nat):Int) - (s:Int))=((E4 - 1 - s:Nat):Int) from by omega]
     refine Dra.on' rfl rfl rfl rfl rfl .sure (Ope.cf rfl rfl (hca (E4 - 1 - s) (by omega)) (hb1 _) ?_)
     refine Dra.op' rfl rfl rfl .sure (Ope.pickT rfl rfl ?_)
     refine Dra.nil (Run.condX rfl (fun hc=>?_) fun hc=>?_)
     ·refine Run.region (cx_ok _ _ _) (Reg.op rfl (Ope.mov rfl ?_))
      refine Reg.op rfl (Ope.asg rfl ?_)
      refine Reg.nil (Run.bend (Run.region (cx_ok _ _ _) (Reg.op rfl (Ope.mov rfl ?_))))
      refine Reg.op rfl (Ope.add rfl rfl (by omega) ?_)
      refine Reg.op rfl (Ope.asg rfl ?_)
      refine Reg.nil ?_
      first
      | (have e : Z (s + 1) = s := by rw [hls, if_pos ⟨by omega, by exact hc⟩]
         exact Run.lend ⟨s+1,by omega,by omega,⟨rfl,by rw [e];rfl,rfl,trivial⟩,rfl,rfl⟩)
      | (have e : Z (s + 1) = Z s := by
           rw [hls,if_neg (fun h=>by
             have g1:=h.1
             have g2:=h.2
             first
               | omega
               | (rw [hc] at g2;cases g2))]
         exact Run.lend ⟨s+1,by omega,by omega,⟨rfl,by rw [e];rfl,rfl,trivial⟩,rfl,rfl⟩)
     ·refine Run.skip (Run.bend (Run.region (cx_ok _ _ _) (Reg.op rfl (Ope.mov rfl ?_))))
      refine Reg.op rfl (Ope.add rfl rfl (by omega) ?_)
      refine Reg.op rfl (Ope.asg rfl ?_)
      refine Reg.nil ?_
      first
      | (have e : Z (s + 1) = s := by rw [hls, if_pos ⟨by omega, by exact hc⟩]
         exact Run.lend ⟨s+1,by omega,by omega,⟨rfl,by rw [e];rfl,rfl,trivial⟩,rfl,rfl⟩)
      | (have e : Z (s + 1) = Z s := by
           rw [hls,if_neg (fun h=>by
             have g1:=h.1
             have g2:=h.2
             first
               | omega
               | (rw [hc] at g2;cases g2))]
         exact Run.lend ⟨s+1,by omega,by omega,⟨rfl,by rw [e];rfl,rfl,trivial⟩,rfl,rfl⟩)
    ·refine Dra.off' rfl rfl rfl (.inl rfl) rfl (Dra.off' rfl rfl rfl (.inl rfl) rfl (Dra.off' rfl rfl rfl (.inl rfl) rfl (Dra.off' rfl rfl rfl (.inl rfl) rfl (Dra.off' rfl rfl rfl (.inl rfl) rfl (Dra.off' rfl rfl rfl (.inl rfl) rfl (Dra.op' rfl rfl rfl .sure (Ope.pickF rfl rfl ?_)))))))
     refine Dra.nil (Run.condF rfl (Run.skip (Run.bend (Run.region (cx_ok _ _ _) (Reg.op rfl (Ope.mov rfl ?_))))))
     refine Reg.op rfl (Ope.add rfl rfl (by omega) ?_)
     refine Reg.op rfl (Ope.asg rfl ?_)
     refine Reg.nil ?_
     first
     | (have e : Z (s + 1) = s := by rw [hls, if_pos ⟨by omega, by exact hc⟩]
        exact Run.lend ⟨s+1,by omega,by omega,⟨rfl,by rw [e];rfl,rfl,trivial⟩,rfl,rfl⟩)
     | (have e : Z (s + 1) = Z s := by
          rw [hls,if_neg (fun h=>by
            have g1:=h.1
            have g2:=h.2
            first
              | omega
              | (rw [hc] at g2;cases g2))]
        exact Run.lend ⟨s+1,by omega,by omega,⟨rfl,by rw [e];rfl,rfl,trivial⟩,rfl,rfl⟩)
   ·refine Run.exit (Jmp.code (Jmp.round (Jmp.here (Run.seq (Run.region (cx_ok _ _ _) (Reg.op rfl (Ope.mov rfl ?_)))))))
    refine Reg.op rfl (Ope.asg rfl ?_)
    refine Reg.op rfl (Ope.asg rfl ?_)
    refine Reg.nil (Run.ret (fin_ret (.tmp rfl (.tmp rfl .nil)) (by first | rfl | (split<;>rfl)) ?_))
    first
    | (rw [if_pos (show ka=true from hc)];rfl)
    | (obtain rfl : s = E4 := by omega
       rw [if_neg (by rw [hka];decide)];rfl)
end
end Go.Pv
namespace Go.Pv
open Go.Proofs Go.Am
set_option maxRecDepth 10000
set_option maxHeartbeats 4000000
theorem out_is {n s:Nat} (hn:n≤20) (hs:s < 2 ^ n):outN n s=2 ^ n - 1 - s:=by
  have hp:=Nat.pow_le_pow_right (n:=2) (by decide) hn
  refine Nat.eq_of_testBit_eq fun q=>?_
  rw [out_bit hn (by omega),show 2 ^ n - 1 - s=2 ^ n - (s+1) from by omega,Nat.testBit_two_pow_sub_succ hs]
theorem wro_min {S:List Sti} {rest:Int} (hr:relOk rest S=true):caB S rest (fewS (wroP (clsL S rest)) (4 * S.length))=true∧fewS (wroP (clsL S rest)) (4 * S.length) < 2 ^ (4 * S.length)∧∀ Y,Y < 2 ^ (4 * S.length)→caB S rest Y=true→cnt (4 * S.length) (fewS (wroP (clsL S rest)) (4 * S.length)) < cnt (4 * S.length) Y∨(cnt (4 * S.length) (fewS (wroP (clsL S rest)) (4 * S.length))=cnt (4 * S.length) Y∧fewS (wroP (clsL S rest)) (4 * S.length)≤Y):=by
  obtain ⟨hrr,hS5,hv⟩:=relOk_of hr
  have hn4:=n4_lt hS5
  have hp4:0 < 2 ^ (4 * S.length):=Nat.pow_pos (by decide)
  have hev:∀ q,q < 4 * S.length→(2 ^ (4 * S.length) - 1).testBit q=true:=fun q hq=>by rw [Nat.testBit_two_pow_sub_one];exact decide_eq_true hq
  have hpa:∀ Y,amongC (clsL S rest) Y=clB S rest Y:=fun Y=>among_iff hr
  have hp:∀ Y,wroP (clsL S rest) Y=caB S rest Y:=fun Y=>by
    unfold wroP caB
    rw [clsL_len,hpa,clB,Bool.not_not]
  have hsubX:∀ X Y,Sub2 X Y→Y < 2 ^ 62→X < 2 ^ 62:=fun X Y h hY=>Nat.lt_pow_two_of_testBit _ fun q hq=>by
    cases hx:X.testBit q with
    | false=>rfl
    | true =>
      have h1:=h q hx
      rw [Nat.testBit_lt_two_pow (Nat.lt_of_lt_of_le hY (Nat.pow_le_pow_right (by decide) hq))] at h1
      cases h1
  have mono:∀ X Y,Y < 2 ^ 20→Sub2 X Y→wroP (clsL S rest) X=true→wroP (clsL S rest) Y=true:=fun X Y hY20 hXY hX=>by
    rw [hp,caB] at hX ⊢
    refine ok_mono hr (fun q _ hq=>?_) hX
    rw [out_bit (by omega) (by omega)] at hq
    rw [out_bit (by omega) (hsubX X Y hXY (by omega))]
    simp only [Bool.and_eq_true,Bool.not_eq_true'] at hq ⊢
    refine ⟨hq.1,?_⟩
    cases hx:X.testBit q with
    | false=>rfl
    | true=>rw [hXY q hx] at hq;cases hq.2
  have hevw:caB S rest (2 ^ (4 * S.length) - 1)=true:=by
    refine ok_mono hr (fun q hq hb=>?_) (rules_truth hr)
    rw [out_bit (by omega) (by omega),hev q hq] at hb
    simp at hb
  obtain ⟨m1,m2,m3⟩:=fewS_min (nE:=4 * S.length) (by omega) mono ⟨2 ^ (4 * S.length) - 1,by omega,by rw [hp];exact hevw⟩
  exact ⟨by rw [← hp];exact m1,m2,fun Y hY hc=>m3 Y hY (by rw [hp];exact hc)⟩
section
variable {rest:Int} {tl:Tail} (htl:tl.isOwn=false) {S:List Sti} (hS:S.length≤1000000)
include htl hS
theorem f27f (hr:relOk rest S=false):Fn P0 27 [relV rest tl S] (.tup [I 0,I 1]):=by
  have hre:=f32 rest tl S hS
  rw [hr] at hre
  have hb2:=bd_rels rest tl htl S
  refine PFun.of (C:=c27) (cx_ok _ _ _) rfl (fn:=Try.f27) (by kernel_rfl) (c:=_) rfl rfl rfl ?_
  refine Run.seq (Run.region (cx_ok _ _ _) (Reg.op rfl (Ope.boxF rfl rfl ?_)))
  refine Reg.op rfl (Ope.asg rfl ?_)
  refine Reg.op rfl (Ope.asg rfl ?_)
  refine Reg.nil (Run.seq (Run.seq (Run.region (cx_ok _ _ _) (Reg.op rfl (Ope.load rfl rfl ?_)))))
  refine Reg.op rfl (Ope.cf rfl rfl hre hb2 ?_)
  refine Reg.op rfl (Ope.not rfl ?_)
  refine Reg.nil (Run.condT rfl (Run.seq (Run.region (cx_ok _ _ _) (Reg.op rfl (Ope.asg rfl ?_)))))
  refine Reg.op rfl (Ope.asg rfl ?_)
  exact Reg.nil (Run.ret (Jmp.code (fin_ret (.tmp rfl (.tmp rfl .nil)) rfl rfl)))
theorem f29f (hr:relOk rest S=false):Fn P0 29 [relV rest tl S] (.tup [I 0,I 1]):=by
  have hre:=f32 rest tl S hS
  rw [hr] at hre
  have hb2:=bd_rels rest tl htl S
  refine PFun.of (C:=c29) (cx_ok _ _ _) rfl (fn:=Try.f29) (by kernel_rfl) (c:=_) rfl rfl rfl ?_
  refine Run.seq (Run.region (cx_ok _ _ _) (Reg.op rfl (Ope.boxF rfl rfl ?_)))
  refine Reg.op rfl (Ope.asg rfl ?_)
  refine Reg.op rfl (Ope.asg rfl ?_)
  refine Reg.nil (Run.seq (Run.seq (Run.region (cx_ok _ _ _) (Reg.op rfl (Ope.load rfl rfl ?_)))))
  refine Reg.op rfl (Ope.cf rfl rfl hre hb2 ?_)
  refine Reg.op rfl (Ope.not rfl ?_)
  refine Reg.nil (Run.condT rfl (Run.seq (Run.region (cx_ok _ _ _) (Reg.op rfl (Ope.asg rfl ?_)))))
  refine Reg.op rfl (Ope.asg rfl ?_)
  exact Reg.nil (Run.ret (Jmp.code (fin_ret (.tmp rfl (.tmp rfl .nil)) rfl rfl)))
theorem both_clash (h2 : relOk rest S = true → S.length ≤ 2) : ∃ x e : Int, Fn P0 26 [relV rest tl S] (.tup [I x, I e]) ∧ Fn P0 27 [relV rest tl S] (.tup [I x, I e]) := by
  cases hr:relOk rest S with
  | false=>exact ⟨0,1,clashBad htl hS hr,f27f htl hS hr⟩
  | true =>
    obtain ⟨SI,e,h1,h⟩:=clH htl hS hr
    have hq:=f27t htl hr (h2 hr)
    have ha:clB S rest (2 ^ (4 * S.length) - 1)=!okT (tabA S rest):=rfl
    have hp0:0 < 2 ^ (4 * S.length):=Nat.pow_pos (by decide)
    rcases h with ⟨rfl,rfl,h3⟩ | ⟨rfl,s,rfl,⟨_,hs⟩,h3,h4,_,_,h5⟩
    · have ho : okT (tabA S rest) = true := by
        have:=h3 (2 ^ (4 * S.length) - 1) (by omega)
        rw [ha] at this
        simpa using this
      rw [if_pos ho] at hq
      exact ⟨0,4,h1,hq⟩
    · have ho : ¬ okT (tabA S rest) = true := by
        rw [ha] at h4
        simpa using h4
      rw [if_neg ho,lst_is (p:=fun s=>!okT (tabS S rest s)) h4 h3 hs h5] at hq
      exact ⟨_,0,h1,hq⟩
theorem both_wrong (h2 : relOk rest S = true → S.length ≤ 2) : ∃ x e : Int, Fn P0 28 [relV rest tl S] (.tup [I x, I e]) ∧ Fn P0 29 [relV rest tl S] (.tup [I x, I e]) := by
  cases hr:relOk rest S with
  | false=>exact ⟨0,1,wrongBad htl hS hr,f29f htl hS hr⟩
  | true =>
    have hq:=f29t htl hr (h2 hr)
    have hw:=f28 rest tl htl S hS
    have ha:clB S rest (2 ^ (4 * S.length) - 1)=!okT (tabA S rest):=rfl
    have hp0:0 < 2 ^ (4 * S.length):=Nat.pow_pos (by decide)
    have h22:=h2 hr
    cases ho:okT (tabA S rest) with
    | true =>
      have he:errC rest S=4:=by unfold errC;rw [if_neg (by rw [hr];decide),if_pos ho]
      unfold fewE at hw
      rw [he,if_neg (by decide)] at hw
      rw [if_pos ho] at hq
      exact ⟨0,4,hw,hq⟩
    | false =>
      have he:errC rest S=0:=by unfold errC;rw [if_neg (by rw [hr];decide),if_neg (by rw [ho];decide)]
      unfold fewE at hw
      rw [he,if_pos rfl] at hw
      rw [if_neg (by rw [ho];decide)] at hq
      obtain ⟨g1,g2,g3⟩:=wro_min hr
      rw [lst_is (p:=fun s=>okT (tabS S rest (2 ^ (4 * S.length) - 1 - s))) ?_ ?_ g2 ?_] at hq
      · exact ⟨_,0,hw,hq⟩
      · show okT (tabS S rest (2 ^ (4 * S.length) - 1 - (2 ^ (4 * S.length) - 1))) = true
        rw [Nat.sub_self]
        exact rules_truth hr
      · show okT (tabS S rest (2 ^ (4 * S.length) - 1 - _)) = true
        rw [← out_is (by omega) g2]
        exact g1
      · intro Y hY hc
        exact g3 Y hY (by
          show okT (tabS S rest (outN (4 * S.length) Y))=true
          rw [out_is (by omega) hY]
          exact hc)
end
theorem f5 (rest:Int) (tl:Tail) (htl:tl.isOwn=false) (S:List Sti) (hS:S.length≤1000000) (hf:farB rest S 2=false):Fn P0 5 [relV rest tl S] (B true):=by
  have hbd:=fun k=>bd_is rest tl htl S k
  have hb0:=bd_rels rest tl htl S
  have hfar:=f12 rest tl htl S hS 2 (by decide)
  rw [hf] at hfar
  have h2:relOk rest S=true→S.length≤2:=fun hr=>by
    unfold farB at hf
    rw [hr] at hf
    simp at hf
    omega
  obtain ⟨x,e,p1,q1⟩:=both_clash htl hS h2
  obtain ⟨y,f,p2,q2⟩:=both_wrong htl hS h2
  refine PFun.of (C:=c5) (cx_ok _ _ _) rfl (fn:=Try.f5) (by kernel_rfl) (c:=_) rfl rfl rfl ?_
  refine Run.seq (Run.region (cx_ok _ _ _) (Reg.op rfl (Ope.boxF rfl rfl ?_)))
  refine Reg.op rfl (Ope.asg rfl ?_)
  refine Reg.nil (Run.seq (Run.seq (Run.region (cx_ok _ _ _) (Reg.op rfl (Ope.load rfl rfl ?_)))))
  refine Reg.op rfl (Ope.cf rfl rfl hfar (hbd 2) ?_)
  refine Reg.nil (Run.condF rfl (Run.skip (Run.seq (Run.region (cx_ok _ _ _) (Reg.op rfl (Ope.load rfl rfl ?_))))))
  refine Reg.op rfl (Ope.cf rfl rfl p1 hb0 ?_)
  refine Reg.op rfl (Ope.mov rfl ?_)
  refine Reg.op rfl (Ope.ext rfl rfl ?_)
  refine Reg.op rfl (Ope.ext rfl rfl ?_)
  refine Reg.op rfl (Ope.asg rfl ?_)
  refine Reg.op rfl (Ope.asg rfl ?_)
  refine Reg.nil (Run.seq (Run.region (cx_ok _ _ _) (Reg.op rfl (Ope.load rfl rfl ?_))))
  refine Reg.op rfl (Ope.cf rfl rfl q1 hb0 ?_)
  refine Reg.op rfl (Ope.mov rfl ?_)
  refine Reg.op rfl (Ope.ext rfl rfl ?_)
  refine Reg.op rfl (Ope.ext rfl rfl ?_)
  refine Reg.op rfl (Ope.asg rfl ?_)
  refine Reg.op rfl (Ope.asg rfl ?_)
  refine Reg.nil (Run.seq (Run.region (cx_ok _ _ _) (Reg.op rfl (Ope.load rfl rfl ?_))))
  refine Reg.op rfl (Ope.cf rfl rfl p2 hb0 ?_)
  refine Reg.op rfl (Ope.mov rfl ?_)
  refine Reg.op rfl (Ope.ext rfl rfl ?_)
  refine Reg.op rfl (Ope.ext rfl rfl ?_)
  refine Reg.op rfl (Ope.asg rfl ?_)
  refine Reg.op rfl (Ope.asg rfl ?_)
  refine Reg.nil (Run.seq (Run.region (cx_ok _ _ _) (Reg.op rfl (Ope.load rfl rfl ?_))))
  refine Reg.op rfl (Ope.cf rfl rfl q2 hb0 ?_)
  refine Reg.op rfl (Ope.mov rfl ?_)
  refine Reg.op rfl (Ope.ext rfl rfl ?_)
  refine Reg.op rfl (Ope.ext rfl rfl ?_)
  refine Reg.op rfl (Ope.asg rfl ?_)
  refine Reg.op rfl (Ope.asg rfl ?_)
  refine Reg.nil (Run.seq (Run.region (cx_ok _ _ _) (Reg.op rfl (Ope.mov rfl ?_))))
  refine Reg.op rfl (Ope.mov rfl ?_)
  refine Reg.op rfl (Ope.eqR rfl rfl ?_)
  refine Reg.op rfl (Ope.mov rfl ?_)
  refine Reg.on rfl rfl rfl (Ope.mov rfl ?_)
  refine Reg.on rfl rfl rfl (Ope.mov rfl ?_)
  refine Reg.on rfl rfl rfl (Ope.eqR rfl rfl ?_)
  refine Reg.op rfl (Ope.pickT rfl rfl ?_)
  refine Reg.op rfl (Ope.mov rfl ?_)
  refine Reg.on rfl rfl rfl (Ope.mov rfl ?_)
  refine Reg.on rfl rfl rfl (Ope.mov rfl ?_)
  refine Reg.on rfl rfl rfl (Ope.eqR rfl rfl ?_)
  refine Reg.op rfl (Ope.pickT rfl rfl ?_)
  refine Reg.op rfl (Ope.mov rfl ?_)
  refine Reg.on rfl rfl rfl (Ope.mov rfl ?_)
  refine Reg.on rfl rfl rfl (Ope.mov rfl ?_)
  refine Reg.on rfl rfl rfl (Ope.eqR rfl rfl ?_)
  refine Reg.op rfl (Ope.pickT rfl rfl ?_)
  refine Reg.op rfl (Ope.mov rfl ?_)
  refine Reg.on rfl rfl rfl (Ope.cf rfl rfl awakeF rfl ?_)
  refine Reg.op rfl (Ope.pickT rfl rfl ?_)
  refine Reg.op rfl (Ope.asg rfl ?_)
  exact Reg.nil (Run.ret (fin_ret (.tmp rfl .nil) rfl rfl))
theorem f5t (rest:Int) (tl:Tail) (htl:tl.isOwn=false) (S:List Sti) (hF:Fn P0 12 [relV rest tl S,I 2] (B true)):Fn P0 5 [relV rest tl S] (B true):=by
  have hbd:=fun k=>bd_is rest tl htl S k
  refine PFun.of (C:=c5) (cx_ok _ _ _) rfl (fn:=Try.f5) (by kernel_rfl) (c:=_) rfl rfl rfl ?_
  refine Run.seq (Run.region (cx_ok _ _ _) (Reg.op rfl (Ope.boxF rfl rfl ?_)))
  refine Reg.op rfl (Ope.asg rfl ?_)
  refine Reg.nil (Run.seq (Run.seq (Run.region (cx_ok _ _ _) (Reg.op rfl (Ope.load rfl rfl ?_)))))
  refine Reg.op rfl (Ope.cf rfl rfl hF (hbd 2) ?_)
  refine Reg.nil (Run.condT rfl (Run.seq (Run.region (cx_ok _ _ _) (Reg.op rfl (Ope.cf rfl rfl awakeF rfl ?_)))))
  refine Reg.op rfl (Ope.asg rfl ?_)
  exact Reg.nil (Run.ret (Jmp.code (fin_ret (.tmp rfl .nil) rfl rfl)))
theorem f5a (rest:Int) (tl:Tail) (htl:tl.isOwn=false) (S:List Sti):Fn P0 5 [relV rest tl S] (B true):=by
  rcases Nat.lt_or_ge 40 S.length with h | h
  · exact f5t rest tl htl S (f12l rest tl S h 2)
  · cases hf : farB rest S 2 with
    | false=>exact f5 rest tl htl S (by omega) hf
    | true =>
      have hfar:=f12 rest tl htl S (by omega) 2 (by decide)
      rw [hf] at hfar
      exact f5t rest tl htl S hfar
end Go.Pv
namespace Go.Pv
open Go.Proofs Go.Am
set_option maxRecDepth 10000
section
variable {H:Type} {enc:TypeId×Value→H} {w:World} {base:Nat} {held:Bool}
theorem reads_int:Reads enc Try.prog w base (fun _=>true) held 3 fun ps=>∃ n:Int,ps=[I n] :=
  (Reads.int Try.underlying3).mono fun ps ⟨n,h,_⟩=>⟨n,h⟩
theorem reads_span:Reads enc Try.prog w base (fun _=>true) held 28 fun ps=>∃ a b:Int,ps=[I a,I b] :=
  (Reads.struct (Qs:=[fun ps=>∃ n:Int,ps=[I n],fun ps=>∃ n:Int,ps=[I n]]) Try.underlying28 (by kernel_rfl) ⟨reads_int,reads_int,trivial⟩).mono fun ps h=>by
    obtain ⟨_,_,rfl,⟨a,rfl⟩,_,_,rfl,⟨b,rfl⟩,rfl⟩:=h
    exact ⟨a,b,rfl⟩
theorem reads_spans:Reads enc Try.prog w base (fun _=>true) held 44 fun ps=>∃ a b c d:Int,ps=[I a,I b,I c,I d] :=
  (Reads.array2 Try.underlying44 (by kernel_rfl) reads_span).mono fun ps h=>by
    obtain ⟨_,_,rfl,⟨a,b,rfl⟩,_,_,rfl,⟨c,d,rfl⟩,rfl⟩:=h
    exact ⟨a,b,c,d,rfl⟩
theorem reads_stint:Reads enc Try.prog w base (fun _=>true) held 46 fun ps=>∃ s:Sti,ps=s.v.cells :=
  (Reads.struct (Qs:=[fun ps=>∃ n:Int,ps=[I n],fun ps=>∃ a b c d:Int,ps=[I a,I b,I c,I d],fun ps=>∃ a b c d:Int,ps=[I a,I b,I c,I d]]) Try.underlying46 (by kernel_rfl) ⟨reads_int,reads_spans,reads_spans,trivial⟩).mono fun ps h=>by
    obtain ⟨_,_,rfl,⟨r,rfl⟩,_,_,rfl,⟨a,b,c,d,rfl⟩,_,_,rfl,⟨e,f,g,h,rfl⟩,rfl⟩:=h
    exact ⟨⟨r,a,b,c,d,e,f,g,h⟩,rfl⟩
theorem cells_stint:Try.prog.cellsOf 46=9:=by kernel_rfl
theorem reads_stints:Reads enc Try.prog w base (fun _=>true) held 22 fun ps=>∃ S:List Sti,ps=[.sl .no (S.map Sti.v)] :=
  (Reads.slice (Q:=fun _=>True) (f:=Sti.v) (fun _=>rfl) Try.underlying22 (by rw [cells_stint];decide) (reads_stint.mono fun ps ⟨s,h⟩=>⟨s,h,by rw [cells_stint];rfl,trivial⟩)).mono fun ps ⟨S,h,_⟩=>⟨S,h⟩
theorem reads_relays:Reads enc Try.prog w base (fun _=>true) held 24 fun ps=>∃ (rest:Int) (S:List Sti),ps=[I rest,.sl .no (S.map Sti.v)] :=
  (Reads.struct (Qs:=[fun ps=>∃ n:Int,ps=[I n],fun ps=>∃ S:List Sti,ps=[.sl .no (S.map Sti.v)]]) Try.underlying24 (by kernel_rfl) ⟨reads_int,reads_stints,trivial⟩).mono fun ps h=>by
    obtain ⟨_,_,rfl,⟨r,rfl⟩,_,_,rfl,⟨S,rfl⟩,rfl⟩:=h
    exact ⟨r,S,rfl⟩
theorem trod_relays {v:Value} {d:DataW H} {ps:List MemPlace} {r:Reach} {b:Nat} (hv:Value.okWide Try.prog w r b 24 v) (h:DataW.Trod enc Try.prog w base (fun _=>true) held 24 v d ps):∃ rest S,RV (St.froz w) (relV rest .no S) v:=by
  obtain ⟨l,h1,rest,S,rfl⟩:=trod_agg Try.underlying24 hv h reads_relays
  exact ⟨rest,S,h1⟩
end
end Go.Pv
