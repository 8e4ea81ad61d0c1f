/- Parts of the proof: R102, R109, Pv62, R100 -/
import Derived.Test.YtejnfigkngkhjaaP22
import Derived.Test.YtejnfigkngkhjaaP14
import Derived.OpenShut
import Derived.Test.YtejnfigkngkhjaaP16
set_option linter.unusedVariables false
set_option linter.unusedSimpArgs false
set_option linter.unusedSectionVars false
namespace Go.Pv
open Go.Proofs Go.Am
set_option maxRecDepth 10000
structure Hide (p:Prop):Prop where
  get:p
end Go.Pv
namespace Go.Pv
open Go.Proofs Go.Am
set_option maxRecDepth 10000
section
variable {rest:Int} {tl:Tail} (htl:tl.isOwn=false) {S:List Sti} (hS:S.length≤1000000)
include htl hS in
theorem clashBad (hr:relOk rest S=false):Fn P0 26 [relV rest tl S] (.tup [I 0,I 1]):=by
  have h:=f26 rest tl htl S hS
  have he:errC rest S=1:=by unfold errC;rw [if_pos hr]
  unfold fewE at h
  rw [he,if_neg (by decide)] at h
  exact h
theorem sizeF {n x:Nat} (hn:n≤40) (hx:x < 2 ^ n):Fn P0 39 [N x] (N (cnt n x)):=by
  have h:=f39 x (Nat.lt_of_lt_of_le hx (Nat.pow_le_pow_right (by decide) hn))
  have e:siz 40 x=cnt n x:=by
    rw [siz_cnt,show 40=n+(40 - n) from by omega,cnt_more]
    exact fun q hq=>Nat.testBit_lt_two_pow (Nat.lt_of_lt_of_le hx (Nat.pow_le_pow_right (by decide) hq))
  rw [e] at h
  exact h
include htl hS in
theorem clH (hr : relOk rest S = true) : ∃ SI e : Int, Fn P0 26 [relV rest tl S] (.tup [I SI, I e]) ∧ ((e = 4 ∧ SI = 0 ∧ ∀ Y, Y < 2 ^ (4 * S.length) → clB S rest Y = false) ∨
    (e=0∧∃ s:Nat,SI=s∧(1≤s∧s < 2 ^ (4 * S.length))∧clB S rest s=true∧clB S rest (2 ^ (4 * S.length) - 1)=true∧cnt (4 * S.length) s≤2 ∧
      (∀ i,i < 4 * S.length→s.testBit i=true→clB S rest (s &&& (2 ^ 64 - 1 - 1 * 2 ^ i))=false) ∧
      ∀ Y,Y < 2 ^ (4 * S.length)→clB S rest Y=true→cnt (4 * S.length) s < cnt (4 * S.length) Y∨(cnt (4 * S.length) s=cnt (4 * S.length) Y∧s≤Y))):=by
  obtain ⟨hrr,hS5,hv⟩:=relOk_of hr
  have hn4:=n4_lt hS5
  have hp4:0 < 2 ^ (4 * S.length):=Nat.pow_pos (by decide)
  have hcl:=f26 rest tl htl S hS
  have hev:∀ q,q < 4 * S.length→(2 ^ (4 * S.length) - 1).testBit q=true:=fun q hq=>by rw [Nat.testBit_two_pow_sub_one];exact decide_eq_true hq
  cases ho:okT (tabA S rest) with
  | true =>
    have he:errC rest S=4:=by unfold errC;rw [if_neg (by rw [hr];decide),if_pos ho]
    unfold fewE at hcl
    rw [he,if_neg (by decide)] at hcl
    refine ⟨_,_,hcl,.inl ⟨rfl,rfl,fun Y hY=>?_⟩⟩
    rw [clB,ok_mono hr (Y:=allE S) (fun q hq _=>hev q hq) ho]
    rfl
  | false =>
    have he:errC rest S=0:=by unfold errC;rw [if_neg (by rw [hr];decide),if_neg (by rw [ho];decide)]
    unfold fewE at hcl
    rw [he,if_pos rfl] at hcl
    have hp:∀ Y,amongC (clsL S rest) Y=clB S rest Y:=fun Y=>among_iff hr
    have mono:∀ X Y,Y < 2 ^ 20→Sub2 X Y→amongC (clsL S rest) X=true→amongC (clsL S rest) Y=true:=fun X Y _ hXY hX=>by
      rw [hp,clB] at hX ⊢
      cases hY:okT (tabS S rest Y) with
      | false=>rfl
      | true=>rw [ok_mono hr (fun q _ hq=>hXY q hq) hY] at hX;cases hX
    have hevc:clB S rest (2 ^ (4 * S.length) - 1)=true:=by rw [clB];show (!okT (tabA S rest))=true;rw [ho];rfl
    obtain ⟨m1,m2,m3⟩:=fewS_min (nE:=4 * S.length) (by omega) mono ⟨2 ^ (4 * S.length) - 1,by omega,by rw [hp];exact hevc⟩
    generalize fewS (amongC (clsL S rest)) (4 * S.length)=s at *
    have hs62:s < 2 ^ 62:=by omega
    refine ⟨_,_,hcl,.inr ⟨rfl,s,rfl,⟨?_,m2⟩,by rw [← hp];exact m1,hevc,?_,fun i hi hb=>?_,fun Y hY hc=>m3 Y hY (by rw [hp];exact hc)⟩⟩
    · rcases Nat.eq_zero_or_pos s with h0 | h0
      · subst h0
        rw [hp,clB,rules_truth hr] at m1
        cases m1
      · exact h0
    · obtain ⟨i, hi, hh⟩ := List.any_eq_true.1 m1
      have hi:=List.mem_range.1 hi
      rw [clsL_len] at hi
      obtain ⟨h1,b,h2,h3,h4⟩:=(hit_iff hr hi).1 hh
      have hlt:(1 * 2 ^ i ||| 1 * 2 ^ b) < 2 ^ (4 * S.length):=by
        rw [Nat.one_mul,Nat.one_mul]
        exact Nat.or_lt_two_pow (Nat.pow_lt_pow_right (by decide) hi) (Nat.pow_lt_pow_right (by decide) (by omega))
      have g1:=m3 _ hlt (by rw [hp,clB,h4];rfl)
      have g2:=cnt_or (1 * 2 ^ i) (1 * 2 ^ b) (4 * S.length)
      have g3:=(cnt_pow i (4 * S.length)).1
      have g4:=(cnt_pow b (4 * S.length)).1
      omega
    · have hd := cnt_del hs62 (by omega) hb (4 * S.length) hi
      cases hc:clB S rest (s &&& (2 ^ 64 - 1 - 1 * 2 ^ i)) with
      | false=>rfl
      | true =>
        have:=m3 _ (Nat.lt_of_le_of_lt Nat.and_le_left m2) (by rw [hp];exact hc)
        omega
end
theorem f9 (rest : Int) (tl : Tail) (htl : tl.isOwn = false) (S : List Sti) (hS : S.length ≤ 1000000) (bits : Nat) (hbits : bits < 2 ^ 32) : Fn P0 9 [relV rest tl S, .lit (.int .u32 (bits : Int))] (B true) := by
  have hbr:=bd_rels rest tl htl S
  have hbd:=fun k=>bd_is rest tl htl S k
  obtain ⟨SI,e,Hcl,Hbad,Hok⟩:∃ SI e:Int,Fn P0 26 [relV rest tl S] (.tup [I SI,I e])∧(relOk rest S=false→e=1∧SI=0)∧(relOk rest S=true→((e=4∧SI=0∧∀ Y,Y < 2 ^ (4 * S.length)→clB S rest Y=false) ∨
    (e=0∧∃ s:Nat,SI=s∧(1≤s∧s < 2 ^ (4 * S.length))∧clB S rest s=true∧clB S rest (2 ^ (4 * S.length) - 1)=true∧cnt (4 * S.length) s≤2 ∧
      (∀ i,i < 4 * S.length→s.testBit i=true→clB S rest (s &&& (2 ^ 64 - 1 - 1 * 2 ^ i))=false) ∧
      ∀ Y,Y < 2 ^ (4 * S.length)→clB S rest Y=true→cnt (4 * S.length) s < cnt (4 * S.length) Y∨(cnt (4 * S.length) s=cnt (4 * S.length) Y∧s≤Y)))):=by
    cases hr:relOk rest S with
    | false=>exact ⟨0,1,clashBad htl hS hr,fun _=>⟨rfl,rfl⟩,fun h=>by cases h⟩
    | true =>
      obtain ⟨SI,e,h1,h2⟩:=clH htl hS hr
      exact ⟨SI,e,h1,fun h=>(by cases h),fun _=>h2⟩
  replace Hok:=Hide.mk Hok
  refine PFun.of (C:=c9) (cx_ok _ _ _) rfl (fn:=Try.f9) (by kernel_rfl) (c:=_) rfl rfl rfl ?_
  refine Run.seq (Run.region (cx_ok _ _ _) (Reg.op rfl (Ope.boxF rfl rfl ?_)))
  refine Reg.op rfl (Ope.asg rfl ?_)
  refine Reg.nil (Run.seq (Run.seq (Run.region (cx_ok _ _ _) (Reg.op rfl (Ope.load rfl rfl ?_)))))
  refine Reg.op rfl (Ope.cf rfl rfl (f12 rest tl htl S hS 5 (by decide)) (hbd 5) ?_)
  refine Reg.nil (Run.condX rfl (fun hc=>?_) fun hc=>?_)
  ·refine Run.seq (Run.region (cx_ok _ _ _) (Reg.op rfl (Ope.cf rfl rfl awakeF rfl ?_)))
   refine Reg.op rfl (Ope.asg rfl ?_)
   exact Reg.nil (Run.ret (Jmp.code (fin_ret (.tmp rfl .nil) rfl rfl)))
  ·refine Run.skip (Run.seq (Run.region (cx_ok _ _ _) (Reg.op rfl (Ope.load rfl rfl ?_))))
   refine Reg.op rfl (Ope.cf rfl rfl Hcl hbr ?_)
   refine Reg.op rfl (Ope.mov rfl ?_)
   refine Reg.op rfl (Ope.ext rfl rfl ?_)
   refine Reg.op rfl (Ope.ext rfl rfl ?_)
   refine Reg.op rfl (Ope.asg rfl ?_)
   refine Reg.op rfl (Ope.asg rfl ?_)
   refine Reg.nil (Run.seq (Run.seq (Run.region (cx_ok _ _ _) (Reg.op rfl (Ope.load rfl rfl ?_)))))
   refine Reg.op rfl (Ope.cf rfl rfl (f32 rest tl S hS) hbr ?_)
   refine Reg.op rfl (Ope.not rfl ?_)
   refine Reg.nil (Run.condX rfl (fun hc=>?_) fun hc=>?_)
   ·refine Run.seq ?_
    obtain ⟨rfl,rfl⟩:=Hbad (by simp_all)
    refine Run.region (cx_ok _ _ _) (Reg.op rfl (Ope.mov rfl ?_))
    refine Reg.op rfl (Ope.eq rfl rfl ?_)
    refine Reg.op rfl (Ope.mov rfl ?_)
    refine Reg.on rfl rfl rfl (Ope.mov rfl ?_)
    refine Reg.on rfl rfl rfl (Ope.eq rfl rfl ?_)
    refine Reg.op rfl (Ope.pickT rfl rfl ?_)
    refine Reg.op rfl (Ope.mov rfl ?_)
    refine Reg.on rfl rfl rfl (Ope.cf rfl rfl awakeF rfl ?_)
    refine Reg.op rfl (Ope.pickT rfl rfl ?_)
    refine Reg.op rfl (Ope.asg rfl ?_)
    exact Reg.nil (Run.ret (Jmp.code (fin_ret (.tmp rfl .nil) rfl rfl)))
   ·refine Run.skip (Run.seq ?_)
    have hr:relOk rest S=true:=by simp_all
    obtain ⟨hrr,hS5,hv⟩:=relOk_of hr
    have Hok:=Hok.get hr
    have hn4:=n4_lt hS5
    have hp4:0 < 2 ^ (4 * S.length):=Nat.pow_pos (by decide)
    have hC:=fun Y hY=>f37 htl hr Y hY
    have hbc:∀ Y:Nat,PV.bds 0 [N Y,.fp (relV rest tl S),.fp (N (2 ^ (4 * S.length) - 1))]=true:=fun Y=>by
      have:=hbr
      simp only [PV.bds,PV.bd,Bool.and_eq_true] at this ⊢
      simp [this]
    have hown:bits &&& (2 ^ (4 * S.length) - 1) < 2 ^ (4 * S.length):=Nat.lt_of_le_of_lt Nat.and_le_right (by omega)
    have hevlt:2 ^ (4 * S.length) - 1 < 2 ^ (4 * S.length):=by omega
    replace Hok:=Hide.mk Hok
    refine Run.region (cx_ok _ _ _) (Reg.op rfl (Ope.load rfl rfl ?_))
    refine Reg.op rfl (Ope.cf rfl rfl (f36 rest tl S hS5) hbr ?_)
    refine Reg.op rfl (Ope.newL rfl ?_)
    refine Reg.op0 (Ope.store rfl rfl hget_hd rfl rfl rfl ?_)
    refine Reg.nil (Run.seq (Run.frz (d:=7) false rfl hget_hd rfl ?_))
    refine Run.wide (m:=1) (l':=[]) (Nat.le_refl _) trivial ?_
    refine Run.region (cx_ok _ _ _) (Reg.op rfl (Ope.mkf rfl rfl ?_))
    refine Reg.op rfl (Ope.asg rfl ?_)
    refine Reg.nil (Run.seq (Run.region (cx_ok _ _ _) (Reg.op rfl (Ope.mov rfl ?_))))
    refine Reg.op rfl (Ope.convN (p:=bits) rfl rfl (by show _ < 2 ^ 63;omega) ?_)
    refine Reg.op rfl (Ope.load rfl rfl ?_)
    refine Reg.op rfl (Ope.andN (p:=bits) (q:=2 ^ (4 * S.length) - 1) rfl rfl rfl rfl (by show _ < 2 ^ 64;omega) (by show _ < 2 ^ 63;omega) ?_)
    refine Reg.op rfl (Ope.asg rfl ?_)
    refine Reg.nil (Run.seq (Run.seq (Run.region (cx_ok _ _ _) (Reg.op rfl (Ope.mov rfl ?_)))))
    refine Reg.op rfl (Ope.ne rfl rfl ?_)
    refine Reg.nil (Run.condX rfl (fun hc=>?_) fun hc=>?_)
    ·refine Run.seq ?_
     obtain ⟨rfl,rfl,hno⟩:e=4∧SI=0∧∀ Y,Y < 2 ^ (4 * S.length)→clB S rest Y=false:=by
       rcases Hok.get with h | h
       · exact h
       · exact absurd h.1 hc
     have c1:=hC _ hevlt
     rw [hno _ hevlt] at c1
     have c2:=hC _ hown
     rw [hno _ hown] at c2
     refine Run.region (cx_ok _ _ _) (Reg.op rfl (Ope.mov rfl ?_))
     refine Reg.op rfl (Ope.eq rfl rfl ?_)
     refine Reg.op rfl (Ope.mov rfl ?_)
     refine Reg.on rfl rfl rfl (Ope.mov rfl ?_)
     refine Reg.on rfl rfl rfl (Ope.eq rfl rfl ?_)
     refine Reg.op rfl (Ope.pickT rfl rfl ?_)
     refine Reg.op rfl (Ope.mov rfl ?_)
     refine Reg.on rfl rfl rfl (Ope.mov rfl ?_)
     refine Reg.on rfl rfl rfl (Ope.load rfl rfl ?_)
     refine Reg.on rfl rfl rfl (Ope.cf rfl rfl c1 (hbc _) ?_)
     refine Reg.on rfl rfl rfl (Ope.not rfl ?_)
     refine Reg.op rfl (Ope.pickT rfl rfl ?_)
     refine Reg.op rfl (Ope.mov rfl ?_)
     refine Reg.on rfl rfl rfl (Ope.mov rfl ?_)
     refine Reg.on rfl rfl rfl (Ope.mov rfl ?_)
     refine Reg.on rfl rfl rfl (Ope.cf rfl rfl c2 (hbc _) ?_)
     refine Reg.on rfl rfl rfl (Ope.not rfl ?_)
     refine Reg.op rfl (Ope.pickT rfl rfl ?_)
     refine Reg.op rfl (Ope.mov rfl ?_)
     refine Reg.on rfl rfl rfl (Ope.cf rfl rfl awakeF rfl ?_)
     refine Reg.op rfl (Ope.pickT rfl rfl ?_)
     refine Reg.op rfl (Ope.asg rfl ?_)
     exact Reg.nil (Run.ret (Jmp.code (fin_ret (.tmp rfl .nil) rfl rfl)))
    ·refine Run.skip (Run.seq ?_)
     obtain ⟨s,hsI,⟨hs1,hs2⟩,hcs,hcev,hsz,hdel,hmin⟩:∃ s:Nat,SI=s∧(1≤s∧s < 2 ^ (4 * S.length))∧clB S rest s=true∧clB S rest (2 ^ (4 * S.length) - 1)=true∧cnt (4 * S.length) s≤2 ∧
         (∀ i,i < 4 * S.length→s.testBit i=true→clB S rest (s &&& (2 ^ 64 - 1 - 1 * 2 ^ i))=false) ∧
         ∀ Y,Y < 2 ^ (4 * S.length)→clB S rest Y=true→cnt (4 * S.length) s < cnt (4 * S.length) Y∨(cnt (4 * S.length) s=cnt (4 * S.length) Y∧s≤Y):=by
       rcases Hok.get with h | h
       · exfalso;omega
       · exact h.2
     subst hsI
     have c1:=hC _ hs2
     rw [hcs] at c1
     have c2:=hC _ hevlt
     rw [hcev] at c2
     have c3:∀ i,i < 4 * S.length→((s >>> i &&& 1:Nat):Int)=1→Fn P0 37 [N (s &&& (2 ^ 64 - 1 - 1 * 2 ^ i)),.fp (relV rest tl S),.fp (N (2 ^ (4 * S.length) - 1))] (B false):=fun i hi hb=>by
       have h:=hC (s &&& (2 ^ 64 - 1 - 1 * 2 ^ i)) (Nat.lt_of_le_of_lt Nat.and_le_left hs2)
       rw [hdel i hi (by rw [← Bool.not_eq_false,← bit_shr];omega)] at h
       exact h
     have z1:=sizeF (n:=4 * S.length) (by omega) hs2
     have z2:=sizeF (n:=4 * S.length) (by omega) hown
     obtain ⟨z,c4,hmz⟩:∃ z:Nat,Fn P0 37 [N (bits &&& (2 ^ (4 * S.length) - 1)),.fp (relV rest tl S),.fp (N (2 ^ (4 * S.length) - 1))] (B (decide (z=1)))∧(z=1→cnt (4 * S.length) s < cnt (4 * S.length) (bits &&& (2 ^ (4 * S.length) - 1))∨(cnt (4 * S.length) s=cnt (4 * S.length) (bits &&& (2 ^ (4 * S.length) - 1))∧s≤(bits &&& (2 ^ (4 * S.length) - 1)))):=by
       have h:=hC _ hown
       cases hc:clB S rest (bits &&& (2 ^ (4 * S.length) - 1)) with
       | false=>rw [hc] at h;exact ⟨0,h,fun h0=>by cases h0⟩
       | true=>rw [hc] at h;exact ⟨1,h,fun _=>hmin _ hown hc⟩
     clear hmin hdel hcs hcev hC Hok
     have hsev:s≤2 ^ (4 * S.length) - 1:=by omega
     have hev20:2 ^ (4 * S.length) - 1 < 2 ^ 20:=by omega
     generalize cnt (4 * S.length) s=cs at *
     generalize cnt (4 * S.length) (bits &&& (2 ^ (4 * S.length) - 1))=co at *
     generalize bits &&& (2 ^ (4 * S.length) - 1)=own at *
     generalize 2 ^ (4 * S.length) - 1=ev at *
     clear hn4 hp4 hs2 hown hevlt
     refine Run.region (cx_ok _ _ _) (Reg.op rfl (Ope.asg rfl ?_))
     refine Reg.nil (Run.seq (Run.seq (Run.region (cx_ok _ _ _) (Reg.op rfl (Ope.mov rfl ?_)))))
     refine Reg.op rfl (Ope.lt rfl rfl ?_)
     refine Reg.op rfl (Ope.mov rfl ?_)
     refine Reg.splitX rfl rfl (fun hg=>?_) fun hg=>?_
     ·(first | (exfalso;omega) | (exfalso;simp only [Bool.not_eq_true',Bool.not_eq_false',decide_eq_false_iff_not,decide_eq_true_eq] at *;omega))
     ·refine Reg.on rfl rfl rfl (Ope.mov rfl ?_)
      refine Reg.on rfl rfl rfl (Ope.load rfl rfl ?_)
      refine Reg.on rfl rfl rfl (Ope.gt rfl rfl ?_)
      refine Reg.op rfl (Ope.pickF rfl rfl ?_)
      refine Reg.op rfl (Ope.mov rfl ?_)
      refine Reg.splitX rfl rfl (fun hg=>?_) fun hg=>?_
      ·(first | (exfalso;omega) | (exfalso;simp only [Bool.not_eq_true',Bool.not_eq_false',decide_eq_false_iff_not,decide_eq_true_eq] at *;omega))
      ·refine Reg.on rfl rfl rfl (Ope.mov rfl ?_)
       refine Reg.on rfl rfl rfl (Ope.mov rfl ?_)
       refine Reg.on rfl rfl rfl (Ope.cf rfl rfl z1 rfl ?_)
       refine Reg.on rfl rfl rfl (Ope.gt rfl rfl ?_)
       refine Reg.op rfl (Ope.pickF rfl rfl ?_)
       refine Reg.op rfl (Ope.mov rfl ?_)
       refine Reg.splitX rfl rfl (fun hg=>?_) fun hg=>?_
       ·(first | (exfalso;omega) | (exfalso;simp only [Bool.not_eq_true',Bool.not_eq_false',decide_eq_false_iff_not,decide_eq_true_eq] at *;omega))
       ·refine Reg.on rfl rfl rfl (Ope.mov rfl ?_)
        refine Reg.on rfl rfl rfl (Ope.mov rfl ?_)
        refine Reg.on rfl rfl rfl (Ope.cf rfl rfl c1 (hbc _) ?_)
        refine Reg.on rfl rfl rfl (Ope.not rfl ?_)
        refine Reg.op rfl (Ope.pickF rfl rfl ?_)
        refine Reg.op rfl (Ope.mov rfl ?_)
        refine Reg.on rfl rfl rfl (Ope.mov rfl ?_)
        refine Reg.on rfl rfl rfl (Ope.load rfl rfl ?_)
        refine Reg.on rfl rfl rfl (Ope.cf rfl rfl c2 (hbc _) ?_)
        refine Reg.on rfl rfl rfl (Ope.not rfl ?_)
        refine Reg.op rfl (Ope.pickF rfl rfl ?_)
        refine Reg.nil (Run.condF rfl (Run.skip (Run.seq (Run.seq (Run.region (cx_ok _ _ _) (Reg.op rfl (Ope.fld rfl rfl ?_)))))))
        refine Reg.op rfl (Ope.load rfl rfl ?_)
        refine Reg.op rfl (Ope.len (m:=S.length) rfl (by simp) ?_)
        refine Reg.op rfl (Ope.mul rfl rfl (by omega) ?_)
        refine Reg.op rfl (Ope.mov rfl ?_)
        refine Reg.nil (Run.block (Run.loop (α:=Nat) (fun i=>[(5,N s),(8,.fn (.func 37) [] [.fp (relV rest tl S),.fp (N ev)]),(9,N own),(10,.fn (.func 39) [] []),(90,I (4 * (S.length:Int))),(91,I i)]) (fun _=>HE 1 []) (fun i=>i≤4 * S.length) (fun i=>4 * S.length - i) 0 ⟨rfl,rfl,rfl,rfl,rfl,rfl,trivial⟩ rfl (Nat.zero_le _) (fun i hi=>?_)))
        refine Run.seq (Run.region (cx_ok _ _ _) (Reg.op rfl (Ope.lt rfl rfl ?_)))
        refine Reg.nil (Run.seq (Run.condX rfl (fun hc=>?_) fun hc=>?_))
        ·refine Run.skip (Run.seq (Run.block (Run.seq (Run.region (cx_ok _ _ _) (Reg.op rfl (Ope.mov rfl ?_))))))
         refine Reg.op rfl (Ope.asg rfl ?_)
         refine Reg.nil (Run.seq ?_)
         have hi4:i < 4 * S.length:=by omega
         have hsh:s >>> i≤s:=Nat.shiftRight_le _ _
         have hpi:2 ^ i≤1048576:=pow20 (by omega)
         refine Run.region (cx_ok _ _ _) (Reg.op rfl (Ope.mov rfl ?_))
         refine Reg.op rfl (Ope.mov rfl ?_)
         refine Reg.op rfl (Ope.shrN (p:=s) (m:=i) rfl rfl rfl rfl (by show i≤64;omega) ?_)
         refine Reg.op rfl (Ope.andN (p:=s >>> i) (q:=1) rfl rfl rfl rfl (by show _ < 2 ^ 64;omega) (by decide) ?_)
         refine Reg.op rfl (Ope.eq rfl rfl ?_)
         refine Reg.op rfl (Ope.mov rfl ?_)
         refine Reg.splitX rfl rfl (fun hg=>?_) fun hg=>?_
         ·refine Reg.on rfl rfl rfl (Ope.mov rfl ?_)
          refine Reg.on rfl rfl rfl (Ope.mov rfl ?_)
          refine Reg.on rfl rfl rfl (Ope.mov rfl ?_)
          refine Reg.on rfl rfl rfl (Ope.shlN (p:=1) (m:=i) rfl rfl rfl rfl (by omega) (by omega) ?_)
          refine Reg.on rfl rfl rfl (Ope.andNotN (p:=s) (q:=1 * 2 ^ i) rfl rfl rfl rfl (by show _ < 2 ^ 63;omega) (by show _ < 2 ^ 63;omega) ?_)
          refine Reg.on rfl rfl rfl (Ope.cf rfl rfl (c3 i hi4 hg) (hbc _) ?_)
          refine Reg.op rfl (Ope.pickT rfl rfl ?_)
          refine Reg.nil (Run.condF rfl (Run.skip (Run.bend (Run.region (cx_ok _ _ _) (Reg.op rfl (Ope.add rfl rfl (by omega) ?_))))))
          refine Reg.op rfl (Ope.mov rfl ?_)
          exact Reg.nil (Run.lend ⟨i+1,by omega,by omega,⟨rfl,rfl,rfl,rfl,rfl,rfl,trivial⟩,rfl,rfl⟩)
         ·refine Reg.off rfl rfl rfl (Reg.off rfl rfl rfl (Reg.off rfl rfl rfl (Reg.off rfl rfl rfl (Reg.off rfl rfl rfl (Reg.off rfl rfl rfl (Reg.op rfl (Ope.pickF rfl rfl ?_)))))))
          refine Reg.nil (Run.condF rfl (Run.skip (Run.bend (Run.region (cx_ok _ _ _) (Reg.op rfl (Ope.add rfl rfl (by omega) ?_))))))
          refine Reg.op rfl (Ope.mov rfl ?_)
          exact Reg.nil (Run.lend ⟨i+1,by omega,by omega,⟨rfl,rfl,rfl,rfl,rfl,rfl,trivial⟩,rfl,rfl⟩)
        ·refine Run.exit (Jmp.code (Jmp.round (Jmp.here (Run.seq (Run.region (cx_ok _ _ _) (Reg.op rfl (Ope.mov rfl ?_)))))))
         refine Reg.op rfl (Ope.mov rfl ?_)
         refine Reg.op rfl (Ope.cf rfl rfl c4 (hbc _) ?_)
         refine Reg.op rfl (Ope.not rfl ?_)
         refine Reg.op rfl (Ope.mov rfl ?_)
         refine Reg.splitX rfl rfl (fun hg=>?_) fun hg=>?_
         ·refine Reg.off rfl rfl rfl (Reg.off rfl rfl rfl (Reg.off rfl rfl rfl (Reg.off rfl rfl rfl (Reg.off rfl rfl rfl (Reg.off rfl rfl rfl (Reg.off rfl rfl rfl (Reg.op rfl (Ope.pickT rfl rfl ?_))))))))
          refine Reg.op rfl (Ope.mov rfl ?_)
          refine Reg.off rfl rfl rfl (Reg.off rfl rfl rfl (Reg.off rfl rfl rfl (Reg.off rfl rfl rfl (Reg.off rfl rfl rfl (Reg.off rfl rfl rfl (Reg.off rfl rfl rfl (Reg.off rfl rfl rfl (Reg.past rfl rfl rfl (Reg.past rfl rfl rfl (Reg.past rfl rfl rfl (Reg.off rfl rfl rfl (Reg.op rfl (Ope.pickT rfl rfl ?_)))))))))))))
          refine Reg.op rfl (Ope.mov rfl ?_)
          refine Reg.on rfl rfl rfl (Ope.cf rfl rfl awakeF rfl ?_)
          refine Reg.op rfl (Ope.pickT rfl rfl ?_)
          refine Reg.op rfl (Ope.asg rfl ?_)
          exact Reg.nil (Run.ret (fin_ret (.tmp rfl .nil) rfl rfl))
         ·refine Reg.on rfl rfl rfl (Ope.mov rfl ?_)
          refine Reg.on rfl rfl rfl (Ope.mov rfl ?_)
          refine Reg.on rfl rfl rfl (Ope.cf rfl rfl z2 rfl ?_)
          refine Reg.on rfl rfl rfl (Ope.mov rfl ?_)
          refine Reg.on rfl rfl rfl (Ope.mov rfl ?_)
          refine Reg.on rfl rfl rfl (Ope.cf rfl rfl z1 rfl ?_)
          refine Reg.on rfl rfl rfl (Ope.gt rfl rfl ?_)
          refine Reg.op rfl (Ope.pickF rfl rfl ?_)
          refine Reg.op rfl (Ope.mov rfl ?_)
          refine Reg.splitX rfl rfl (fun hg=>?_) fun hg=>?_
          ·refine Reg.off rfl rfl rfl (Reg.off rfl rfl rfl (Reg.off rfl rfl rfl (Reg.off rfl rfl rfl (Reg.off rfl rfl rfl (Reg.off rfl rfl rfl (Reg.off rfl rfl rfl (Reg.off rfl rfl rfl (Reg.past rfl rfl rfl (Reg.past rfl rfl rfl (Reg.past rfl rfl rfl (Reg.off rfl rfl rfl (Reg.op rfl (Ope.pickT rfl rfl ?_)))))))))))))
           refine Reg.op rfl (Ope.mov rfl ?_)
           refine Reg.on rfl rfl rfl (Ope.cf rfl rfl awakeF rfl ?_)
           refine Reg.op rfl (Ope.pickT rfl rfl ?_)
           refine Reg.op rfl (Ope.asg rfl ?_)
           exact Reg.nil (Run.ret (fin_ret (.tmp rfl .nil) rfl rfl))
          ·refine Reg.on rfl rfl rfl (Ope.mov rfl ?_)
           refine Reg.on rfl rfl rfl (Ope.mov rfl ?_)
           refine Reg.on rfl rfl rfl (Ope.cf rfl rfl z2 rfl ?_)
           refine Reg.on rfl rfl rfl (Ope.mov rfl ?_)
           refine Reg.on rfl rfl rfl (Ope.mov rfl ?_)
           refine Reg.on rfl rfl rfl (Ope.cf rfl rfl z1 rfl ?_)
           refine Reg.on rfl rfl rfl (Ope.eq rfl rfl ?_)
           refine Reg.on rfl rfl rfl (Ope.mov rfl ?_)
           refine Reg.splitX rfl rfl (fun hg=>?_) fun hg=>?_
           ·refine Reg.on rfl rfl rfl (Ope.mov rfl ?_)
            refine Reg.on rfl rfl rfl (Ope.mov rfl ?_)
            refine Reg.on rfl rfl rfl (Ope.ge rfl rfl ?_)
            refine Reg.on rfl rfl rfl (Ope.pickT rfl rfl ?_)
            refine Reg.op rfl (Ope.pickF rfl rfl ?_)
            refine Reg.op rfl (Ope.mov rfl ?_)
            refine Reg.splitX rfl rfl (fun hg=>?_) fun hg=>?_
            ·refine Reg.on rfl rfl rfl (Ope.cf rfl rfl awakeF rfl ?_)
             refine Reg.op rfl (Ope.pickT rfl rfl ?_)
             refine Reg.op rfl (Ope.asg rfl ?_)
             exact Reg.nil (Run.ret (fin_ret (.tmp rfl .nil) rfl rfl))
            ·(first | (exfalso;omega) | (exfalso;simp only [Bool.not_eq_true',Bool.not_eq_false',decide_eq_false_iff_not,decide_eq_true_eq] at *;omega))
           ·(first | (exfalso;omega) | (exfalso;simp only [Bool.not_eq_true',Bool.not_eq_false',decide_eq_false_iff_not,decide_eq_true_eq] at *;omega))
theorem f9l (rest:Int) (tl:Tail) (htl:tl.isOwn=false) (S:List Sti) (hl:40 < S.length) (bits:Nat):Fn P0 9 [relV rest tl S,.lit (.int .u32 (bits:Int))] (B true):=by
  have hbd:=fun k=>bd_is rest tl htl S k
  refine PFun.of (C:=c9) (cx_ok _ _ _) rfl (fn:=Try.f9) (by kernel_rfl) (c:=_) rfl rfl rfl ?_
  refine Run.seq (Run.region (cx_ok _ _ _) (Reg.op rfl (Ope.boxF rfl rfl ?_)))
  refine Reg.op rfl (Ope.asg rfl ?_)
  refine Reg.nil (Run.seq (Run.seq (Run.region (cx_ok _ _ _) (Reg.op rfl (Ope.load rfl rfl ?_)))))
  refine Reg.op rfl (Ope.cf rfl rfl (f12l rest tl S hl 5) (hbd 5) ?_)
  refine Reg.nil (Run.condT rfl (Run.seq (Run.region (cx_ok _ _ _) (Reg.op rfl (Ope.cf rfl rfl awakeF rfl ?_)))))
  refine Reg.op rfl (Ope.asg rfl ?_)
  exact Reg.nil (Run.ret (Jmp.code (fin_ret (.tmp rfl .nil) rfl rfl)))
theorem f9a (rest:Int) (tl:Tail) (htl:tl.isOwn=false) (S:List Sti) (bits:Nat) (hbits:bits < 2 ^ 32):Fn P0 9 [relV rest tl S,.lit (.int .u32 (bits:Int))] (B true):=by
  rcases Nat.lt_or_ge 40 S.length with h | h
  · exact f9l rest tl htl S h bits
  · exact f9 rest tl htl S (by omega) bits hbits
end Go.Pv
namespace Go.Pv
open Go.Am Go.RowKit
section
variable {H:Type} {enc:TypeId×Value→H} {P:Program} {w:World} {base:Nat} {spare:Nat→Bool} {held:Bool}
theorem Reads.array2 {t e:TypeId} {Q:List PV→Prop} (ht:P.underlying t=some (.array 2 e)) (hc:P.cellsOf t=P.cellsOf e+P.cellsOf e) (hr:Reads enc P w base spare held e Q):Reads enc P w base spare held t (Alls [Q,Q]):=by
 intro fuel cs x h
 obtain ⟨xs,m,rfl,rfl,h1,h2,h3⟩:=DataW.trod_array ht h
 obtain ⟨p0,q0,r0⟩:=hr _ _ _ ((h3 0 (by decide)).trans (List.getElem?_eq_getElem (by omega)))
 obtain ⟨p1,q1,r1⟩:=hr _ _ _ ((h3 1 (by decide)).trans (List.getElem?_eq_getElem (by omega)))
 rw [Nat.zero_mul,List.drop_zero] at q0
 rw [Nat.one_mul] at q1
 refine ⟨p0++(p1++[]),?_,p0,p1++[],rfl,r0,p1,[],rfl,r1,rfl⟩
 rw [List.append_nil]
 have e1:(cs.drop (P.cellsOf e)).take (P.cellsOf e)=cs.drop (P.cellsOf e):=List.take_of_length_le (by rw [List.length_drop];omega)
 rw [e1] at q1
 have:=RVs.append q0 q1
 rwa [List.take_append_drop] at this
theorem okWide_agg {P:Program} {w:World} {r:Reach} {base:Nat} {t:TypeId} {fs:Array Field} {v:Value} (ht:P.underlying t=some (.struct fs)) (h:Value.okWide P w r base t v):∃ cs,v=.agg cs:=by
 unfold Value.okWide at h
 rw [ht] at h
 obtain ⟨cs,rfl,_⟩:=h
 exact ⟨cs,rfl⟩
theorem trod_agg {t:TypeId} {fs:Array Field} {Q:List PV→Prop} {v:Value} {d:DataW H} {ps:List MemPlace} {r:Reach} {b:Nat} (ht:P.underlying t=some (.struct fs)) (hv:Value.okWide P w r b t v) (h:DataW.Trod enc P w base spare held t v d ps) (hr:Reads enc P w base spare held t Q) :
  ∃ l,RV (St.froz w) (.agg l) v∧Q l:=by
 obtain ⟨fuel,h⟩:=h
 obtain ⟨cs,rfl⟩:=okWide_agg ht hv
 obtain ⟨l,h1,h2⟩:=hr _ _ _ h
 exact ⟨l,RV_agg.2 ⟨cs,rfl,h1⟩,h2⟩
end
end Go.Pv
namespace Go.Pv
open Go.Proofs Go.Am
set_option maxRecDepth 10000
section
variable {H:Type} {enc:TypeId×Value→H} {w:World} {base:Nat} {held:Bool}
theorem reads_int:Reads enc Try.prog w base (fun _=>true) held 3 fun ps=>∃ n:Int,ps=[I n] :=
  (Reads.int Try.underlying3).mono fun ps ⟨n,h,_⟩=>⟨n,h⟩
theorem reads_span:Reads enc Try.prog w base (fun _=>true) held 28 fun ps=>∃ a b:Int,ps=[I a,I b] :=
  (Reads.struct (Qs:=[fun ps=>∃ n:Int,ps=[I n],fun ps=>∃ n:Int,ps=[I n]]) Try.underlying28 (by kernel_rfl) ⟨reads_int,reads_int,trivial⟩).mono fun ps h=>by
    obtain ⟨_,_,rfl,⟨a,rfl⟩,_,_,rfl,⟨b,rfl⟩,rfl⟩:=h
    exact ⟨a,b,rfl⟩
theorem reads_spans:Reads enc Try.prog w base (fun _=>true) held 44 fun ps=>∃ a b c d:Int,ps=[I a,I b,I c,I d] :=
  (Reads.array2 Try.underlying44 (by kernel_rfl) reads_span).mono fun ps h=>by
    obtain ⟨_,_,rfl,⟨a,b,rfl⟩,_,_,rfl,⟨c,d,rfl⟩,rfl⟩:=h
    exact ⟨a,b,c,d,rfl⟩
theorem reads_stint:Reads enc Try.prog w base (fun _=>true) held 46 fun ps=>∃ s:Sti,ps=s.v.cells :=
  (Reads.struct (Qs:=[fun ps=>∃ n:Int,ps=[I n],fun ps=>∃ a b c d:Int,ps=[I a,I b,I c,I d],fun ps=>∃ a b c d:Int,ps=[I a,I b,I c,I d]]) Try.underlying46 (by kernel_rfl) ⟨reads_int,reads_spans,reads_spans,trivial⟩).mono fun ps h=>by
    obtain ⟨_,_,rfl,⟨r,rfl⟩,_,_,rfl,⟨a,b,c,d,rfl⟩,_,_,rfl,⟨e,f,g,h,rfl⟩,rfl⟩:=h
    exact ⟨⟨r,a,b,c,d,e,f,g,h⟩,rfl⟩
theorem cells_stint:Try.prog.cellsOf 46=9:=by kernel_rfl
theorem reads_stints:Reads enc Try.prog w base (fun _=>true) held 22 fun ps=>∃ S:List Sti,ps=[.sl .no (S.map Sti.v)] :=
  (Reads.slice (Q:=fun _=>True) (f:=Sti.v) (fun _=>rfl) Try.underlying22 (by rw [cells_stint];decide) (reads_stint.mono fun ps ⟨s,h⟩=>⟨s,h,by rw [cells_stint];rfl,trivial⟩)).mono fun ps ⟨S,h,_⟩=>⟨S,h⟩
theorem reads_relays:Reads enc Try.prog w base (fun _=>true) held 24 fun ps=>∃ (rest:Int) (S:List Sti),ps=[I rest,.sl .no (S.map Sti.v)] :=
  (Reads.struct (Qs:=[fun ps=>∃ n:Int,ps=[I n],fun ps=>∃ S:List Sti,ps=[.sl .no (S.map Sti.v)]]) Try.underlying24 (by kernel_rfl) ⟨reads_int,reads_stints,trivial⟩).mono fun ps h=>by
    obtain ⟨_,_,rfl,⟨r,rfl⟩,_,_,rfl,⟨S,rfl⟩,rfl⟩:=h
    exact ⟨r,S,rfl⟩
theorem trod_relays {v:Value} {d:DataW H} {ps:List MemPlace} {r:Reach} {b:Nat} (hv:Value.okWide Try.prog w r b 24 v) (h:DataW.Trod enc Try.prog w base (fun _=>true) held 24 v d ps):∃ rest S,RV (St.froz w) (relV rest .no S) v:=by
  obtain ⟨l,h1,rest,S,rfl⟩:=trod_agg Try.underlying24 hv h reads_relays
  exact ⟨rest,S,h1⟩
end
end Go.Pv
