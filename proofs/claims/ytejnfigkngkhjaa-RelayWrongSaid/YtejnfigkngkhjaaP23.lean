/- Parts of the proof: R102, R109, R110, Pv62, R100 -/
import Derived.Test.YtejnfigkngkhjaaP22
import Derived.Test.YtejnfigkngkhjaaP14
import Derived.OpenShut
import Derived.Test.YtejnfigkngkhjaaP16
set_option linter.unusedVariables false
set_option linter.unusedSimpArgs false
set_option linter.unusedSectionVars false
namespace Go.Pv
open Go.Proofs Go.Am
set_option maxRecDepth 10000
structure Hide (p:Prop):Prop where
  get:p
end Go.Pv
namespace Go.Pv
open Go.Proofs Go.Am
set_option maxRecDepth 10000
section
variable {rest:Int} {tl:Tail} (htl:tl.isOwn=false) {S:List Sti} (hS:S.length≤1000000)
include htl hS in
theorem clashBad (hr:relOk rest S=false):Fn P0 26 [relV rest tl S] (.tup [I 0,I 1]):=by
  have h:=f26 rest tl htl S hS
  have he:errC rest S=1:=by unfold errC;rw [if_pos hr]
  unfold fewE at h
  rw [he,if_neg (by decide)] at h
  exact h
theorem sizeF {n x:Nat} (hn:n≤40) (hx:x < 2 ^ n):Fn P0 39 [N x] (N (cnt n x)):=by
  have h:=f39 x (Nat.lt_of_lt_of_le hx (Nat.pow_le_pow_right (by decide) hn))
  have e:siz 40 x=cnt n x:=by
    rw [siz_cnt,show 40=n+(40 - n) from by omega,cnt_more]
    exact fun q hq=>Nat.testBit_lt_two_pow (Nat.lt_of_lt_of_le hx (Nat.pow_le_pow_right (by decide) hq))
  rw [e] at h
  exact h
end
end Go.Pv
namespace Go.Pv
open Go.Proofs Go.Am
set_option maxRecDepth 10000
theorem out_bit {n set q:Nat} (hn:n≤20) (hs:set < 2 ^ 62):(outN n set).testBit q=(decide (q < n) && !set.testBit q):=by
  unfold outN allN
  rw [Nat.testBit_and,Nat.one_mul,Nat.testBit_two_pow_sub_one,show 2 ^ 64 - 1 - set=2 ^ 64 - (set+1) from by omega,Nat.testBit_two_pow_sub_succ (by omega)]
  by_cases hq:q < n
  · rw [decide_eq_true hq,decide_eq_true (show q < 64 by omega),Bool.true_and]
  · rw [decide_eq_false hq,Bool.false_and,Bool.false_and]
def caB (S:List Sti) (rest:Int) (out:Nat):Bool:=okT (tabS S rest (outN (4 * S.length) out))
section
variable {rest:Int} {tl:Tail} (htl:tl.isOwn=false) {S:List Sti} (hS:S.length≤1000000)
include htl in
theorem f40 (hr:relOk rest S=true) (hpos:0 < S.length) (out:Nat) (hout:out < 2 ^ (4 * S.length)):Fn P0 40 [N out,.fp (relV rest tl S)] (B (caB S rest out)):=by
  obtain ⟨hrr,hS5,hv⟩:=relOk_of hr
  have hn4:=n4_lt hS5
  have hbr:=bd_rels rest tl htl S
  have hb2:∀ x:Nat,PV.bds 0 [relV rest tl S,N x]=true:=fun x=>bd_is rest tl htl S x
  have hfr:=free_rel hr out
  have hfl:(freeS S out).length=S.length:=freeN_len S _ _
  have hfree:=f38 rest tl htl S hS5 hpos out (by omega)
  have hok:=free_ok hr (out:=out) (E:=outN (4 * S.length) out) fun q hq=>by rw [out_bit (by omega) (by omega),decide_eq_true hq,Bool.true_and]
  obtain ⟨t,e,hon,hone⟩:∃ t e,Fn P0 26 [relV rest .no (freeS S out)] (.tup [I t,I e])∧caB S rest out=decide (e=4):=by
    have h:=clashF (tl:=.no) rfl (by omega) hfr
    rw [hok] at h
    cases hc:okT (tabS S rest (outN (4 * S.length) out)) with
    | true=>rw [hc] at h;exact ⟨_,4,h,by rw [caB,hc];rfl⟩
    | false=>rw [hc] at h;exact ⟨_,0,h,by rw [caB,hc];rfl⟩
  have hbf:=bd_rels rest .no rfl (freeS S out)
  generalize freeS S out=S' at *
  rw [hone]
  refine PFun.of (C:=c40) (cx_ok _ _ _) rfl (fn:=Try.f40) (by kernel_rfl) (c:=_) rfl rfl rfl ?_
  refine Run.seq (Run.region (cx_ok _ _ _) (Reg.op rfl (Ope.asg rfl ?_)))
  refine Reg.nil (Run.seq (Run.region (cx_ok _ _ _) (Reg.op rfl (Ope.load rfl rfl ?_))))
  refine Reg.op rfl (Ope.mov rfl ?_)
  refine Reg.op rfl (Ope.cf rfl rfl hfree (hb2 _) ?_)
  refine Reg.op rfl (Ope.cf rfl rfl hon hbf ?_)
  refine Reg.op rfl (Ope.mov rfl ?_)
  refine Reg.op rfl (Ope.ext rfl rfl ?_)
  refine Reg.op rfl (Ope.ext rfl rfl ?_)
  refine Reg.op rfl (Ope.asg rfl ?_)
  refine Reg.op rfl (Ope.asg rfl ?_)
  refine Reg.nil (Run.seq (Run.region (cx_ok _ _ _) (Reg.op rfl (Ope.mov rfl ?_))))
  refine Reg.op rfl (Ope.eq rfl rfl ?_)
  refine Reg.op rfl (Ope.asg rfl ?_)
  exact Reg.nil (Run.ret (fin_ret (.tmp rfl .nil) rfl rfl))
include htl hS in
theorem wrongBad (hr:relOk rest S=false):Fn P0 28 [relV rest tl S] (.tup [I 0,I 1]):=by
  have h:=f28 rest tl htl S hS
  have he:errC rest S=1:=by unfold errC;rw [if_pos hr]
  unfold fewE at h
  rw [he,if_neg (by decide)] at h
  exact h
structure WrH (S:List Sti) (rest:Int) (s c:Nat):Prop where
  lo:1≤s
  hi:s < 2 ^ (4 * S.length)
  can:caB S rest s=true
  one:s &&& c≠0
  cl:c < 2 ^ (4 * S.length)
  del:∀ i,i < 4 * S.length→s.testBit i=true→caB S rest (s &&& (2 ^ 64 - 1 - 1 * 2 ^ i))=false
  min:∀ Y,Y < 2 ^ (4 * S.length)→caB S rest Y=true→cnt (4 * S.length) s < cnt (4 * S.length) Y∨(cnt (4 * S.length) s=cnt (4 * S.length) Y∧s≤Y)
include htl hS in
theorem wrH (hr : relOk rest S = true) : ∃ SI CI e : Int, Fn P0 28 [relV rest tl S] (.tup [I SI, I e]) ∧ Fn P0 26 [relV rest tl S] (.tup [I CI, I e]) ∧ ((e = 4 ∧ SI = 0 ∧ CI = 0) ∨
    (e=0∧0 < S.length∧∃ s c:Nat,SI=s∧CI=c∧WrH S rest s c)):=by
  obtain ⟨hrr,hS5,hv⟩:=relOk_of hr
  have hn4:=n4_lt hS5
  have hp4:0 < 2 ^ (4 * S.length):=Nat.pow_pos (by decide)
  have hwr:=f28 rest tl htl S hS
  have hcl:=f26 rest tl htl S hS
  have hev:∀ q,q < 4 * S.length→(2 ^ (4 * S.length) - 1).testBit q=true:=fun q hq=>by rw [Nat.testBit_two_pow_sub_one];exact decide_eq_true hq
  cases ho:okT (tabA S rest) with
  | true =>
    have he:errC rest S=4:=by unfold errC;rw [if_neg (by rw [hr];decide),if_pos ho]
    unfold fewE at hcl hwr
    rw [he,if_neg (by decide)] at hcl hwr
    exact ⟨_,_,_,hwr,hcl,.inl ⟨rfl,rfl,rfl⟩⟩
  | false =>
    have he:errC rest S=0:=by unfold errC;rw [if_neg (by rw [hr];decide),if_neg (by rw [ho];decide)]
    unfold fewE at hcl hwr
    rw [he,if_pos rfl] at hcl hwr
    have hpa:∀ Y,amongC (clsL S rest) Y=clB S rest Y:=fun Y=>among_iff hr
    have hp:∀ Y,wroP (clsL S rest) Y=caB S rest Y:=fun Y=>by
      unfold wroP caB
      rw [clsL_len,hpa,clB,Bool.not_not]
    have monoA:∀ X Y,Y < 2 ^ 20→Sub2 X Y→amongC (clsL S rest) X=true→amongC (clsL S rest) Y=true:=fun X Y _ hXY hX=>by
      rw [hpa,clB] at hX ⊢
      cases hY:okT (tabS S rest Y) with
      | false=>rfl
      | true=>rw [ok_mono hr (fun q _ hq=>hXY q hq) hY] at hX;cases hX
    have hsubX:∀ X Y,Sub2 X Y→Y < 2 ^ 62→X < 2 ^ 62:=fun X Y h hY=>Nat.lt_pow_two_of_testBit _ fun q hq=>by
      cases hx:X.testBit q with
      | false=>rfl
      | true =>
        have h1:=h q hx
        rw [Nat.testBit_lt_two_pow (Nat.lt_of_lt_of_le hY (Nat.pow_le_pow_right (by decide) hq))] at h1
        cases h1
    have mono:∀ X Y,Y < 2 ^ 20→Sub2 X Y→wroP (clsL S rest) X=true→wroP (clsL S rest) Y=true:=fun X Y hY20 hXY hX=>by
      rw [hp,caB] at hX ⊢
      refine ok_mono hr (fun q _ hq=>?_) hX
      rw [out_bit (by omega) (by omega)] at hq
      rw [out_bit (by omega) (hsubX X Y hXY (by omega))]
      simp only [Bool.and_eq_true,Bool.not_eq_true'] at hq ⊢
      refine ⟨hq.1,?_⟩
      cases hx:X.testBit q with
      | false=>rfl
      | true=>rw [hXY q hx] at hq;cases hq.2
    have hevc:clB S rest (2 ^ (4 * S.length) - 1)=true:=by rw [clB];show (!okT (tabA S rest))=true;rw [ho];rfl
    have hevw:caB S rest (2 ^ (4 * S.length) - 1)=true:=by
      refine ok_mono hr (fun q hq hb=>?_) (rules_truth hr)
      rw [out_bit (by omega) (by omega),hev q hq] at hb
      simp at hb
    obtain ⟨c1,c2,c3⟩:=fewS_min (nE:=4 * S.length) (by omega) monoA ⟨2 ^ (4 * S.length) - 1,by omega,by rw [hpa];exact hevc⟩
    obtain ⟨m1,m2,m3⟩:=fewS_min (nE:=4 * S.length) (by omega) mono ⟨2 ^ (4 * S.length) - 1,by omega,by rw [hp];exact hevw⟩
    generalize fewS (amongC (clsL S rest)) (4 * S.length)=c at *
    generalize fewS (wroP (clsL S rest)) (4 * S.length)=s at *
    have hs62:s < 2 ^ 62:=by omega
    have hpos:0 < S.length:=by
      rcases Nat.eq_zero_or_pos S.length with h0 | h0
      · have := rules_truth hr
        have h1:tabA S rest=tabS S rest 0:=by show tabS S rest (2 ^ (4 * S.length) - 1)=_;rw [h0]
        rw [h1,this] at ho
        cases ho
      · exact h0
    refine ⟨_,_,_,hwr,hcl,.inr ⟨rfl,hpos,s,c,rfl,rfl,?_,m2,by rw [← hp];exact m1,fun h0=>?_,c2,fun i hi hb=>?_,fun Y hY hc=>m3 Y hY (by rw [hp];exact hc)⟩⟩
    · rcases Nat.eq_zero_or_pos s with h0 | h0
      · subst h0
        rw [hp,caB] at m1
        have:okT (tabA S rest)=true:=ok_mono hr (fun q hq _=>by rw [out_bit (by omega) (by decide),decide_eq_true hq,Nat.zero_testBit];rfl) m1
        rw [ho] at this
        cases this
      · exact h0
    · rw [hp, caB] at m1
      rw [hpa,clB] at c1
      have:okT (tabS S rest c)=true:=ok_mono hr (fun q hq hb=>by
        rw [out_bit (by omega) hs62,decide_eq_true hq,Bool.true_and,Bool.not_eq_true']
        have h2:=congrArg (fun n=>n.testBit q) h0
        simp only [Nat.testBit_and,hb,Nat.zero_testBit,Bool.and_true] at h2
        exact h2) m1
      rw [this] at c1
      cases c1
    · have hd := cnt_del hs62 (by omega) hb (4 * S.length) hi
      cases hc:caB S rest (s &&& (2 ^ 64 - 1 - 1 * 2 ^ i)) with
      | false=>rfl
      | true =>
        have:=m3 _ (Nat.lt_of_le_of_lt Nat.and_le_left m2) (by rw [hp];exact hc)
        omega
end
theorem f10 (rest : Int) (tl : Tail) (htl : tl.isOwn = false) (S : List Sti) (hS : S.length ≤ 1000000) (bits : Nat) (hbits : bits < 2 ^ 32) : Fn P0 10 [relV rest tl S, .lit (.int .u32 (bits : Int))] (B true) := by
  have hbr:=bd_rels rest tl htl S
  have hbd:=fun k=>bd_is rest tl htl S k
  obtain ⟨SI,CI,e,Hwr,Hcl,Hr1,Hok⟩:∃ SI CI e:Int,Fn P0 28 [relV rest tl S] (.tup [I SI,I e])∧Fn P0 26 [relV rest tl S] (.tup [I CI,I e])∧(!relOk rest S)=decide (e=1)∧(((e=1∨e=4)∧SI=0∧CI=0) ∨
    (e=0∧relOk rest S=true∧0 < S.length∧∃ s c:Nat,SI=s∧CI=c∧WrH S rest s c)):=by
    cases hr:relOk rest S with
    | false=>exact ⟨0,0,1,wrongBad htl hS hr,clashBad htl hS hr,rfl,.inl ⟨.inl rfl,rfl,rfl⟩⟩
    | true =>
      obtain ⟨SI,CI,e,h1,h2,h3 | h3⟩:=wrH htl hS hr
      · exact ⟨SI,CI,e,h1,h2,by rw [h3.1];rfl,.inl ⟨.inr h3.1,h3.2⟩⟩
      · exact ⟨SI,CI,e,h1,h2,by rw [h3.1];rfl,.inr ⟨h3.1,rfl,h3.2⟩⟩
  replace Hok:=Hide.mk Hok
  replace Hr1:=Hide.mk Hr1
  refine PFun.of (C:=c10) (cx_ok _ _ _) rfl (fn:=Try.f10) (by kernel_rfl) (c:=_) rfl rfl rfl ?_
  refine Run.seq (Run.region (cx_ok _ _ _) (Reg.op rfl (Ope.boxF rfl rfl ?_)))
  refine Reg.op rfl (Ope.asg rfl ?_)
  refine Reg.nil (Run.seq (Run.seq (Run.region (cx_ok _ _ _) (Reg.op rfl (Ope.load rfl rfl ?_)))))
  refine Reg.op rfl (Ope.cf rfl rfl (f12 rest tl htl S hS 4 (by decide)) (hbd 4) ?_)
  refine Reg.nil (Run.condX rfl (fun hc=>?_) fun hc=>?_)
  ·refine Run.seq (Run.region (cx_ok _ _ _) (Reg.op rfl (Ope.cf rfl rfl awakeF rfl ?_)))
   refine Reg.op rfl (Ope.asg rfl ?_)
   exact Reg.nil (Run.ret (Jmp.code (fin_ret (.tmp rfl .nil) rfl rfl)))
  ·refine Run.skip (Run.seq (Run.region (cx_ok _ _ _) (Reg.op rfl (Ope.load rfl rfl ?_))))
   refine Reg.op rfl (Ope.cf rfl rfl Hwr hbr ?_)
   refine Reg.op rfl (Ope.mov rfl ?_)
   refine Reg.op rfl (Ope.ext rfl rfl ?_)
   refine Reg.op rfl (Ope.ext rfl rfl ?_)
   refine Reg.op rfl (Ope.asg rfl ?_)
   refine Reg.op rfl (Ope.asg rfl ?_)
   refine Reg.nil (Run.seq (Run.region (cx_ok _ _ _) (Reg.op rfl (Ope.load rfl rfl ?_))))
   refine Reg.op rfl (Ope.cf rfl rfl Hcl hbr ?_)
   refine Reg.op rfl (Ope.mov rfl ?_)
   refine Reg.op rfl (Ope.ext rfl rfl ?_)
   refine Reg.op rfl (Ope.ext rfl rfl ?_)
   refine Reg.op rfl (Ope.asg rfl ?_)
   refine Reg.op rfl (Ope.asg rfl ?_)
   refine Reg.nil (Run.seq (Run.seq (Run.region (cx_ok _ _ _) (Reg.op rfl (Ope.mov rfl ?_)))))
   refine Reg.op rfl (Ope.mov rfl ?_)
   refine Reg.op rfl (Ope.neS rfl rfl ?_)
   refine Reg.nil (Run.condF rfl (Run.skip (Run.seq (Run.seq (Run.region (cx_ok _ _ _) (Reg.op rfl (Ope.mov rfl ?_)))))))
   refine Reg.op rfl (Ope.ne rfl rfl ?_)
   refine Reg.nil (Run.condX rfl (fun hc=>?_) fun hc=>?_)
   ·refine Run.seq ?_
    obtain ⟨he14,rfl,rfl⟩:(e=1∨e=4)∧SI=0∧CI=0:=by
      rcases Hok.get with h | h
      · exact h
      · exact absurd h.1 hc
    refine Run.region (cx_ok _ _ _) (Reg.op rfl (Ope.mov rfl ?_))
    refine Reg.op rfl (Ope.eq rfl rfl ?_)
    refine Reg.op rfl (Ope.mov rfl ?_)
    refine Reg.on rfl rfl rfl (Ope.mov rfl ?_)
    refine Reg.on rfl rfl rfl (Ope.eq rfl rfl ?_)
    refine Reg.op rfl (Ope.pickT rfl rfl ?_)
    refine Reg.op rfl (Ope.mov rfl ?_)
    refine Reg.on rfl rfl rfl (Ope.mov rfl ?_)
    refine Reg.on rfl rfl rfl (Ope.eq rfl rfl ?_)
    refine Reg.on rfl rfl rfl (Ope.load rfl rfl ?_)
    refine Reg.on rfl rfl rfl (Ope.cf rfl rfl (f32 rest tl S hS) hbr ?_)
    refine Reg.on rfl rfl rfl (Ope.not rfl ?_)
    refine Reg.on rfl rfl rfl (Ope.eqV (b:=true) rfl rfl (by rw [Hr1.get];cases decide (e=1)<;>rfl) ?_)
    refine Reg.op rfl (Ope.pickT rfl rfl ?_)
    refine Reg.op rfl (Ope.mov rfl ?_)
    refine Reg.on rfl rfl rfl (Ope.mov rfl ?_)
    refine Reg.on rfl rfl rfl (Ope.eq rfl rfl ?_)
    refine Reg.on rfl rfl rfl (Ope.mov rfl ?_)
    refine Reg.splitX rfl rfl (fun hg=>?_) fun hg=>?_
    ·refine Reg.off rfl rfl rfl (Reg.off rfl rfl rfl (Reg.on rfl rfl rfl (Ope.pickT rfl rfl ?_)))
     refine Reg.op rfl (Ope.pickT rfl rfl ?_)
     refine Reg.op rfl (Ope.mov rfl ?_)
     refine Reg.on rfl rfl rfl (Ope.cf rfl rfl awakeF rfl ?_)
     refine Reg.op rfl (Ope.pickT rfl rfl ?_)
     refine Reg.op rfl (Ope.asg rfl ?_)
     exact Reg.nil (Run.ret (Jmp.code (fin_ret (.tmp rfl .nil) rfl rfl)))
    ·refine Reg.on rfl rfl rfl (Ope.mov rfl ?_)
     refine Reg.on rfl rfl rfl (Ope.eq rfl rfl ?_)
     refine Reg.on rfl rfl rfl (Ope.pickF rfl rfl ?_)
     refine Reg.op rfl (Ope.pickT rfl rfl ?_)
     refine Reg.op rfl (Ope.mov rfl ?_)
     refine Reg.splitX rfl rfl (fun hg=>?_) fun hg=>?_
     ·refine Reg.on rfl rfl rfl (Ope.cf rfl rfl awakeF rfl ?_)
      refine Reg.op rfl (Ope.pickT rfl rfl ?_)
      refine Reg.op rfl (Ope.asg rfl ?_)
      exact Reg.nil (Run.ret (Jmp.code (fin_ret (.tmp rfl .nil) rfl rfl)))
     ·(first | (exfalso;omega) | (exfalso;simp only [Bool.not_eq_true',Bool.not_eq_false',decide_eq_false_iff_not,decide_eq_true_eq] at *;omega))
   ·refine Run.skip (Run.seq ?_)
    obtain ⟨he0,hr,hpos,s,c,rfl,rfl,⟨hs1,hs2,hcan,hone,hc2,hdel,hmin⟩⟩:e=0∧relOk rest S=true∧0 < S.length∧∃ s c:Nat,SI=s∧CI=c∧WrH S rest s c:=by
      rcases Hok.get with h | h
      · exfalso;omega
      · exact h
    clear Hok
    obtain ⟨hrr,hS5,hv⟩:=relOk_of hr
    have hn4:=n4_lt hS5
    have hp4:0 < 2 ^ (4 * S.length):=Nat.pow_pos (by decide)
    have hC:=fun Y hY=>f40 htl hr hpos Y hY
    have hbc:∀ Y:Nat,PV.bds 0 [N Y,.fp (relV rest tl S)]=true:=fun Y=>by
      have:=hbr
      simp only [PV.bds,PV.bd,Bool.and_eq_true] at this ⊢
      simp [this]
    have hown:bits &&& (2 ^ (4 * S.length) - 1) < 2 ^ (4 * S.length):=Nat.lt_of_le_of_lt Nat.and_le_right (by omega)
    have c1:=hC _ hs2
    rw [hcan] at c1
    have c3:∀ i,i < 4 * S.length→((s >>> i &&& 1:Nat):Int)=1→Fn P0 40 [N (s &&& (2 ^ 64 - 1 - 1 * 2 ^ i)),.fp (relV rest tl S)] (B false):=fun i hi hb=>by
      have h:=hC (s &&& (2 ^ 64 - 1 - 1 * 2 ^ i)) (Nat.lt_of_le_of_lt Nat.and_le_left hs2)
      rw [hdel i hi (by rw [← Bool.not_eq_false,← bit_shr];omega)] at h
      exact h
    have z1:=sizeF (n:=4 * S.length) (by omega) hs2
    have z2:=sizeF (n:=4 * S.length) (by omega) hown
    obtain ⟨z,c4,hmz⟩:∃ z:Nat,Fn P0 40 [N (bits &&& (2 ^ (4 * S.length) - 1)),.fp (relV rest tl S)] (B (decide (z=1)))∧(z=1→cnt (4 * S.length) s < cnt (4 * S.length) (bits &&& (2 ^ (4 * S.length) - 1))∨(cnt (4 * S.length) s=cnt (4 * S.length) (bits &&& (2 ^ (4 * S.length) - 1))∧s≤(bits &&& (2 ^ (4 * S.length) - 1)))):=by
      have h:=hC _ hown
      cases hc:caB S rest (bits &&& (2 ^ (4 * S.length) - 1)) with
      | false=>rw [hc] at h;exact ⟨0,h,fun h0=>by cases h0⟩
      | true=>rw [hc] at h;exact ⟨1,h,fun _=>hmin _ hown hc⟩
    clear hmin hdel hcan hC
    have hsev:s≤2 ^ (4 * S.length) - 1:=by omega
    have hev20:2 ^ (4 * S.length) - 1 < 2 ^ 20:=by omega
    have hs20:s < 2 ^ 20:=by omega
    have hc20:c < 2 ^ 20:=by omega
    have hevy:=f36 rest tl S hS5
    have hsc:¬ ((s &&& c:Nat):Int)=0:=fun h=>hone (by omega)
    generalize cnt (4 * S.length) s=cs at *
    generalize cnt (4 * S.length) (bits &&& (2 ^ (4 * S.length) - 1))=co at *
    generalize hown':bits &&& (2 ^ (4 * S.length) - 1)=own at *
    generalize 2 ^ (4 * S.length) - 1=ev at *
    clear hn4 hp4 hs2 hc2 hone hown
    refine Run.region (cx_ok _ _ _) (Reg.op rfl (Ope.load rfl rfl ?_))
    refine Reg.op rfl (Ope.cf rfl rfl hevy hbr ?_)
    refine Reg.op rfl (Ope.asg rfl ?_)
    refine Reg.nil (Run.seq (Run.region (cx_ok _ _ _) (Reg.op rfl (Ope.mkf rfl rfl ?_))))
    refine Reg.op rfl (Ope.asg rfl ?_)
    refine Reg.nil (Run.seq (Run.seq (Run.region (cx_ok _ _ _) (Reg.op rfl (Ope.mov rfl ?_)))))
    refine Reg.op rfl (Ope.lt rfl rfl ?_)
    refine Reg.op rfl (Ope.mov rfl ?_)
    refine Reg.splitX rfl rfl (fun hg=>?_) fun hg=>?_
    ·(first | (exfalso;omega) | (exfalso;simp only [Bool.not_eq_true',Bool.not_eq_false',decide_eq_false_iff_not,decide_eq_true_eq] at *;omega))
    ·refine Reg.on rfl rfl rfl (Ope.mov rfl ?_)
     refine Reg.on rfl rfl rfl (Ope.mov rfl ?_)
     refine Reg.on rfl rfl rfl (Ope.gt rfl rfl ?_)
     refine Reg.op rfl (Ope.pickF rfl rfl ?_)
     refine Reg.op rfl (Ope.mov rfl ?_)
     refine Reg.splitX rfl rfl (fun hg=>?_) fun hg=>?_
     ·(first | (exfalso;omega) | (exfalso;simp only [Bool.not_eq_true',Bool.not_eq_false',decide_eq_false_iff_not,decide_eq_true_eq] at *;omega))
     ·refine Reg.on rfl rfl rfl (Ope.mov rfl ?_)
      refine Reg.on rfl rfl rfl (Ope.mov rfl ?_)
      refine Reg.on rfl rfl rfl (Ope.cf rfl rfl c1 (hbc _) ?_)
      refine Reg.on rfl rfl rfl (Ope.not rfl ?_)
      refine Reg.op rfl (Ope.pickF rfl rfl ?_)
      refine Reg.op rfl (Ope.mov rfl ?_)
      refine Reg.on rfl rfl rfl (Ope.mov rfl ?_)
      refine Reg.on rfl rfl rfl (Ope.mov rfl ?_)
      refine Reg.on rfl rfl rfl (Ope.andN (p:=s) (q:=c) rfl rfl rfl rfl (by show _ < 2 ^ 64;omega) (by show _ < 2 ^ 63;omega) ?_)
      refine Reg.on rfl rfl rfl (Ope.eq rfl rfl ?_)
      refine Reg.op rfl (Ope.pickF rfl rfl ?_)
      refine Reg.nil (Run.condX rfl (fun hc=>?_) fun hc=>?_)
      ·(first | (exfalso;omega))
      ·refine Run.skip (Run.seq (Run.seq (Run.region (cx_ok _ _ _) (Reg.op rfl (Ope.fld rfl rfl ?_)))))
       refine Reg.op rfl (Ope.load rfl rfl ?_)
       refine Reg.op rfl (Ope.len (m:=S.length) rfl (by simp) ?_)
       refine Reg.op rfl (Ope.mul rfl rfl (by omega) ?_)
       refine Reg.op rfl (Ope.mov rfl ?_)
       refine Reg.nil (Run.block (Run.loop (α:=Nat) (fun i=>[(1,.lit (.int .u32 (bits:Int))),(5,N s),(9,N ev),(10,.fn (.func 40) [] [.fp (relV rest tl S)]),(82,I (4 * (S.length:Int))),(83,I i)]) (fun _=>HE 0 []) (fun i=>i≤4 * S.length) (fun i=>4 * S.length - i) 0 ⟨rfl,rfl,rfl,rfl,rfl,rfl,trivial⟩ rfl (Nat.zero_le _) (fun i hi=>?_)))
       refine Run.seq (Run.region (cx_ok _ _ _) (Reg.op rfl (Ope.lt rfl rfl ?_)))
       refine Reg.nil (Run.seq (Run.condX rfl (fun hc=>?_) fun hc=>?_))
       ·refine Run.skip (Run.seq (Run.block (Run.seq (Run.region (cx_ok _ _ _) (Reg.op rfl (Ope.mov rfl ?_))))))
        refine Reg.op rfl (Ope.asg rfl ?_)
        refine Reg.nil (Run.seq ?_)
        have hi4:i < 4 * S.length:=by omega
        have hsh:s >>> i≤s:=Nat.shiftRight_le _ _
        have hpi:2 ^ i≤1048576:=pow20 (by omega)
        refine Run.region (cx_ok _ _ _) (Reg.op rfl (Ope.mov rfl ?_))
        refine Reg.op rfl (Ope.mov rfl ?_)
        refine Reg.op rfl (Ope.shrN (p:=s) (m:=i) rfl rfl rfl rfl (by show i≤64;omega) ?_)
        refine Reg.op rfl (Ope.andN (p:=s >>> i) (q:=1) rfl rfl rfl rfl (by show _ < 2 ^ 64;omega) (by decide) ?_)
        refine Reg.op rfl (Ope.eq rfl rfl ?_)
        refine Reg.op rfl (Ope.mov rfl ?_)
        refine Reg.splitX rfl rfl (fun hg=>?_) fun hg=>?_
        ·refine Reg.on rfl rfl rfl (Ope.mov rfl ?_)
         refine Reg.on rfl rfl rfl (Ope.mov rfl ?_)
         refine Reg.on rfl rfl rfl (Ope.mov rfl ?_)
         refine Reg.on rfl rfl rfl (Ope.shlN (p:=1) (m:=i) rfl rfl rfl rfl (by omega) (by omega) ?_)
         refine Reg.on rfl rfl rfl (Ope.andNotN (p:=s) (q:=1 * 2 ^ i) rfl rfl rfl rfl (by show _ < 2 ^ 63;omega) (by show _ < 2 ^ 63;omega) ?_)
         refine Reg.on rfl rfl rfl (Ope.cf rfl rfl (c3 i hi4 hg) (hbc _) ?_)
         refine Reg.op rfl (Ope.pickT rfl rfl ?_)
         refine Reg.nil (Run.condF rfl (Run.skip (Run.bend (Run.region (cx_ok _ _ _) (Reg.op rfl (Ope.add rfl rfl (by omega) ?_))))))
         refine Reg.op rfl (Ope.mov rfl ?_)
         exact Reg.nil (Run.lend ⟨i+1,by omega,by omega,⟨rfl,rfl,rfl,rfl,rfl,rfl,trivial⟩,rfl,rfl⟩)
        ·refine Reg.off rfl rfl rfl (Reg.off rfl rfl rfl (Reg.off rfl rfl rfl (Reg.off rfl rfl rfl (Reg.off rfl rfl rfl (Reg.off rfl rfl rfl (Reg.op rfl (Ope.pickF rfl rfl ?_)))))))
         refine Reg.nil (Run.condF rfl (Run.skip (Run.bend (Run.region (cx_ok _ _ _) (Reg.op rfl (Ope.add rfl rfl (by omega) ?_))))))
         refine Reg.op rfl (Ope.mov rfl ?_)
         exact Reg.nil (Run.lend ⟨i+1,by omega,by omega,⟨rfl,rfl,rfl,rfl,rfl,rfl,trivial⟩,rfl,rfl⟩)
       ·refine Run.exit (Jmp.code (Jmp.round (Jmp.here (Run.seq (Run.region (cx_ok _ _ _) (Reg.op rfl (Ope.mov rfl ?_)))))))
        refine Reg.op rfl (Ope.convN (p:=bits) rfl rfl (by show _ < 2 ^ 63;omega) ?_)
        refine Reg.op rfl (Ope.mov rfl ?_)
        refine Reg.op rfl (Ope.andN (p:=bits) (q:=ev) rfl rfl rfl rfl (by show _ < 2 ^ 64;omega) (by show _ < 2 ^ 63;omega) ?_)
        refine Reg.op rfl (Ope.asg rfl ?_)
        refine Reg.nil (Run.seq ?_)
        rw [hown']
        refine Run.region (cx_ok _ _ _) (Reg.op rfl (Ope.asg rfl ?_))
        refine Reg.nil (Run.seq (Run.region (cx_ok _ _ _) (Reg.op rfl (Ope.mov rfl ?_))))
        refine Reg.op rfl (Ope.mov rfl ?_)
        refine Reg.op rfl (Ope.cf rfl rfl c4 (hbc _) ?_)
        refine Reg.op rfl (Ope.not rfl ?_)
        refine Reg.op rfl (Ope.mov rfl ?_)
        refine Reg.splitX rfl rfl (fun hg=>?_) fun hg=>?_
        ·refine Reg.off rfl rfl rfl (Reg.off rfl rfl rfl (Reg.off rfl rfl rfl (Reg.off rfl rfl rfl (Reg.off rfl rfl rfl (Reg.off rfl rfl rfl (Reg.off rfl rfl rfl (Reg.op rfl (Ope.pickT rfl rfl ?_))))))))
         refine Reg.op rfl (Ope.mov rfl ?_)
         refine Reg.off rfl rfl rfl (Reg.off rfl rfl rfl (Reg.off rfl rfl rfl (Reg.off rfl rfl rfl (Reg.off rfl rfl rfl (Reg.off rfl rfl rfl (Reg.off rfl rfl rfl (Reg.off rfl rfl rfl (Reg.past rfl rfl rfl (Reg.past rfl rfl rfl (Reg.past rfl rfl rfl (Reg.off rfl rfl rfl (Reg.op rfl (Ope.pickT rfl rfl ?_)))))))))))))
         refine Reg.op rfl (Ope.mov rfl ?_)
         refine Reg.on rfl rfl rfl (Ope.cf rfl rfl awakeF rfl ?_)
         refine Reg.op rfl (Ope.pickT rfl rfl ?_)
         refine Reg.op rfl (Ope.asg rfl ?_)
         exact Reg.nil (Run.ret (fin_ret (.tmp rfl .nil) rfl rfl))
        ·refine Reg.on rfl rfl rfl (Ope.mov rfl ?_)
         refine Reg.on rfl rfl rfl (Ope.mov rfl ?_)
         refine Reg.on rfl rfl rfl (Ope.cf rfl rfl z2 rfl ?_)
         refine Reg.on rfl rfl rfl (Ope.mov rfl ?_)
         refine Reg.on rfl rfl rfl (Ope.mov rfl ?_)
         refine Reg.on rfl rfl rfl (Ope.cf rfl rfl z1 rfl ?_)
         refine Reg.on rfl rfl rfl (Ope.gt rfl rfl ?_)
         refine Reg.op rfl (Ope.pickF rfl rfl ?_)
         refine Reg.op rfl (Ope.mov rfl ?_)
         refine Reg.splitX rfl rfl (fun hg=>?_) fun hg=>?_
         ·refine Reg.off rfl rfl rfl (Reg.off rfl rfl rfl (Reg.off rfl rfl rfl (Reg.off rfl rfl rfl (Reg.off rfl rfl rfl (Reg.off rfl rfl rfl (Reg.off rfl rfl rfl (Reg.off rfl rfl rfl (Reg.past rfl rfl rfl (Reg.past rfl rfl rfl (Reg.past rfl rfl rfl (Reg.off rfl rfl rfl (Reg.op rfl (Ope.pickT rfl rfl ?_)))))))))))))
          refine Reg.op rfl (Ope.mov rfl ?_)
          refine Reg.on rfl rfl rfl (Ope.cf rfl rfl awakeF rfl ?_)
          refine Reg.op rfl (Ope.pickT rfl rfl ?_)
          refine Reg.op rfl (Ope.asg rfl ?_)
          exact Reg.nil (Run.ret (fin_ret (.tmp rfl .nil) rfl rfl))
         ·refine Reg.on rfl rfl rfl (Ope.mov rfl ?_)
          refine Reg.on rfl rfl rfl (Ope.mov rfl ?_)
          refine Reg.on rfl rfl rfl (Ope.cf rfl rfl z2 rfl ?_)
          refine Reg.on rfl rfl rfl (Ope.mov rfl ?_)
          refine Reg.on rfl rfl rfl (Ope.mov rfl ?_)
          refine Reg.on rfl rfl rfl (Ope.cf rfl rfl z1 rfl ?_)
          refine Reg.on rfl rfl rfl (Ope.eq rfl rfl ?_)
          refine Reg.on rfl rfl rfl (Ope.mov rfl ?_)
          refine Reg.splitX rfl rfl (fun hg=>?_) fun hg=>?_
          ·refine Reg.on rfl rfl rfl (Ope.mov rfl ?_)
           refine Reg.on rfl rfl rfl (Ope.mov rfl ?_)
           refine Reg.on rfl rfl rfl (Ope.ge rfl rfl ?_)
           refine Reg.on rfl rfl rfl (Ope.pickT rfl rfl ?_)
           refine Reg.op rfl (Ope.pickF rfl rfl ?_)
           refine Reg.op rfl (Ope.mov rfl ?_)
           refine Reg.splitX rfl rfl (fun hg=>?_) fun hg=>?_
           ·refine Reg.on rfl rfl rfl (Ope.cf rfl rfl awakeF rfl ?_)
            refine Reg.op rfl (Ope.pickT rfl rfl ?_)
            refine Reg.op rfl (Ope.asg rfl ?_)
            exact Reg.nil (Run.ret (fin_ret (.tmp rfl .nil) rfl rfl))
           ·(first | (exfalso;omega) | (exfalso;simp only [Bool.not_eq_true',Bool.not_eq_false',decide_eq_false_iff_not,decide_eq_true_eq] at *;omega))
          ·(first | (exfalso;omega) | (exfalso;simp only [Bool.not_eq_true',Bool.not_eq_false',decide_eq_false_iff_not,decide_eq_true_eq] at *;omega))
theorem f10l (rest:Int) (tl:Tail) (htl:tl.isOwn=false) (S:List Sti) (hl:40 < S.length) (bits:Nat):Fn P0 10 [relV rest tl S,.lit (.int .u32 (bits:Int))] (B true):=by
  have hbd:=fun k=>bd_is rest tl htl S k
  refine PFun.of (C:=c10) (cx_ok _ _ _) rfl (fn:=Try.f10) (by kernel_rfl) (c:=_) rfl rfl rfl ?_
  refine Run.seq (Run.region (cx_ok _ _ _) (Reg.op rfl (Ope.boxF rfl rfl ?_)))
  refine Reg.op rfl (Ope.asg rfl ?_)
  refine Reg.nil (Run.seq (Run.seq (Run.region (cx_ok _ _ _) (Reg.op rfl (Ope.load rfl rfl ?_)))))
  refine Reg.op rfl (Ope.cf rfl rfl (f12l rest tl S hl 4) (hbd 4) ?_)
  refine Reg.nil (Run.condT rfl (Run.seq (Run.region (cx_ok _ _ _) (Reg.op rfl (Ope.cf rfl rfl awakeF rfl ?_)))))
  refine Reg.op rfl (Ope.asg rfl ?_)
  exact Reg.nil (Run.ret (Jmp.code (fin_ret (.tmp rfl .nil) rfl rfl)))
theorem f10a (rest:Int) (tl:Tail) (htl:tl.isOwn=false) (S:List Sti) (bits:Nat) (hbits:bits < 2 ^ 32):Fn P0 10 [relV rest tl S,.lit (.int .u32 (bits:Int))] (B true):=by
  rcases Nat.lt_or_ge 40 S.length with h | h
  · exact f10l rest tl htl S h bits
  · exact f10 rest tl htl S (by omega) bits hbits
end Go.Pv
namespace Go.Pv
open Go.Am Go.RowKit
section
variable {H:Type} {enc:TypeId×Value→H} {P:Program} {w:World} {base:Nat} {spare:Nat→Bool} {held:Bool}
theorem Reads.array2 {t e:TypeId} {Q:List PV→Prop} (ht:P.underlying t=some (.array 2 e)) (hc:P.cellsOf t=P.cellsOf e+P.cellsOf e) (hr:Reads enc P w base spare held e Q):Reads enc P w base spare held t (Alls [Q,Q]):=by
 intro fuel cs x h
 obtain ⟨xs,m,rfl,rfl,h1,h2,h3⟩:=DataW.trod_array ht h
 obtain ⟨p0,q0,r0⟩:=hr _ _ _ ((h3 0 (by decide)).trans (List.getElem?_eq_getElem (by omega)))
 obtain ⟨p1,q1,r1⟩:=hr _ _ _ ((h3 1 (by decide)).trans (List.getElem?_eq_getElem (by omega)))
 rw [Nat.zero_mul,List.drop_zero] at q0
 rw [Nat.one_mul] at q1
 refine ⟨p0++(p1++[]),?_,p0,p1++[],rfl,r0,p1,[],rfl,r1,rfl⟩
 rw [List.append_nil]
 have e1:(cs.drop (P.cellsOf e)).take (P.cellsOf e)=cs.drop (P.cellsOf e):=List.take_of_length_le (by rw [List.length_drop];omega)
 rw [e1] at q1
 have:=RVs.append q0 q1
 rwa [List.take_append_drop] at this
theorem okWide_agg {P:Program} {w:World} {r:Reach} {base:Nat} {t:TypeId} {fs:Array Field} {v:Value} (ht:P.underlying t=some (.struct fs)) (h:Value.okWide P w r base t v):∃ cs,v=.agg cs:=by
 unfold Value.okWide at h
 rw [ht] at h
 obtain ⟨cs,rfl,_⟩:=h
 exact ⟨cs,rfl⟩
theorem trod_agg {t:TypeId} {fs:Array Field} {Q:List PV→Prop} {v:Value} {d:DataW H} {ps:List MemPlace} {r:Reach} {b:Nat} (ht:P.underlying t=some (.struct fs)) (hv:Value.okWide P w r b t v) (h:DataW.Trod enc P w base spare held t v d ps) (hr:Reads enc P w base spare held t Q) :
  ∃ l,RV (St.froz w) (.agg l) v∧Q l:=by
 obtain ⟨fuel,h⟩:=h
 obtain ⟨cs,rfl⟩:=okWide_agg ht hv
 obtain ⟨l,h1,h2⟩:=hr _ _ _ h
 exact ⟨l,RV_agg.2 ⟨cs,rfl,h1⟩,h2⟩
end
end Go.Pv
namespace Go.Pv
open Go.Proofs Go.Am
set_option maxRecDepth 10000
section
variable {H:Type} {enc:TypeId×Value→H} {w:World} {base:Nat} {held:Bool}
theorem reads_int:Reads enc Try.prog w base (fun _=>true) held 3 fun ps=>∃ n:Int,ps=[I n] :=
  (Reads.int Try.underlying3).mono fun ps ⟨n,h,_⟩=>⟨n,h⟩
theorem reads_span:Reads enc Try.prog w base (fun _=>true) held 28 fun ps=>∃ a b:Int,ps=[I a,I b] :=
  (Reads.struct (Qs:=[fun ps=>∃ n:Int,ps=[I n],fun ps=>∃ n:Int,ps=[I n]]) Try.underlying28 (by kernel_rfl) ⟨reads_int,reads_int,trivial⟩).mono fun ps h=>by
    obtain ⟨_,_,rfl,⟨a,rfl⟩,_,_,rfl,⟨b,rfl⟩,rfl⟩:=h
    exact ⟨a,b,rfl⟩
theorem reads_spans:Reads enc Try.prog w base (fun _=>true) held 44 fun ps=>∃ a b c d:Int,ps=[I a,I b,I c,I d] :=
  (Reads.array2 Try.underlying44 (by kernel_rfl) reads_span).mono fun ps h=>by
    obtain ⟨_,_,rfl,⟨a,b,rfl⟩,_,_,rfl,⟨c,d,rfl⟩,rfl⟩:=h
    exact ⟨a,b,c,d,rfl⟩
theorem reads_stint:Reads enc Try.prog w base (fun _=>true) held 46 fun ps=>∃ s:Sti,ps=s.v.cells :=
  (Reads.struct (Qs:=[fun ps=>∃ n:Int,ps=[I n],fun ps=>∃ a b c d:Int,ps=[I a,I b,I c,I d],fun ps=>∃ a b c d:Int,ps=[I a,I b,I c,I d]]) Try.underlying46 (by kernel_rfl) ⟨reads_int,reads_spans,reads_spans,trivial⟩).mono fun ps h=>by
    obtain ⟨_,_,rfl,⟨r,rfl⟩,_,_,rfl,⟨a,b,c,d,rfl⟩,_,_,rfl,⟨e,f,g,h,rfl⟩,rfl⟩:=h
    exact ⟨⟨r,a,b,c,d,e,f,g,h⟩,rfl⟩
theorem cells_stint:Try.prog.cellsOf 46=9:=by kernel_rfl
theorem reads_stints:Reads enc Try.prog w base (fun _=>true) held 22 fun ps=>∃ S:List Sti,ps=[.sl .no (S.map Sti.v)] :=
  (Reads.slice (Q:=fun _=>True) (f:=Sti.v) (fun _=>rfl) Try.underlying22 (by rw [cells_stint];decide) (reads_stint.mono fun ps ⟨s,h⟩=>⟨s,h,by rw [cells_stint];rfl,trivial⟩)).mono fun ps ⟨S,h,_⟩=>⟨S,h⟩
theorem reads_relays:Reads enc Try.prog w base (fun _=>true) held 24 fun ps=>∃ (rest:Int) (S:List Sti),ps=[I rest,.sl .no (S.map Sti.v)] :=
  (Reads.struct (Qs:=[fun ps=>∃ n:Int,ps=[I n],fun ps=>∃ S:List Sti,ps=[.sl .no (S.map Sti.v)]]) Try.underlying24 (by kernel_rfl) ⟨reads_int,reads_stints,trivial⟩).mono fun ps h=>by
    obtain ⟨_,_,rfl,⟨r,rfl⟩,_,_,rfl,⟨S,rfl⟩,rfl⟩:=h
    exact ⟨r,S,rfl⟩
theorem trod_relays {v:Value} {d:DataW H} {ps:List MemPlace} {r:Reach} {b:Nat} (hv:Value.okWide Try.prog w r b 24 v) (h:DataW.Trod enc Try.prog w base (fun _=>true) held 24 v d ps):∃ rest S,RV (St.froz w) (relV rest .no S) v:=by
  obtain ⟨l,h1,rest,S,rfl⟩:=trod_agg Try.underlying24 hv h reads_relays
  exact ⟨rest,S,h1⟩
end
end Go.Pv
