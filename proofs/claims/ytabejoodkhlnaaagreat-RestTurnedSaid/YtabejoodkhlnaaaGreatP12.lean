/- Parts of the proof: T4, T5, T6, T7, T8, T9 -/
import Derived.Test.YtabejoodkhlnaaaGreatP11
set_option linter.unusedVariables false
set_option linter.unusedSimpArgs false
namespace Go.Pv
open Go.Proofs Go.Am
set_option maxRecDepth 10000
theorem pow16 {m:Nat} (h:m≤16):2 ^ m≤65536:=Nat.le_trans (Nat.pow_le_pow_right (by decide) h) (by decide)
theorem f76 (m:Nat) (hm:m≤16):Fn P0 76 [I m] (I ((2 ^ m:Nat):Int)):=by
  refine PFun.of (C:=c76) (cx_ok _ _ _) rfl (fn:=Tryz.f76) (by kernel_rfl) (c:=_) rfl rfl rfl ?_
  refine Run.seq (Run.region (cx_ok _ _ _) (Reg.op rfl (Ope.asg rfl ?_)))
  refine Reg.nil (Run.seq (Run.region (cx_ok _ _ _) (Reg.op rfl (Ope.asg rfl ?_))))
  refine Reg.nil (Run.seq (Run.seq (Run.region (cx_ok _ _ _) (Reg.op rfl (Ope.asg rfl ?_)))))
  refine Reg.nil (Run.block (Run.loop (α:=Nat) (fun i=>[(0,I m),(3,I ((2 ^ i:Nat):Int)),(4,I i)]) (fun _=>HE 0 []) (fun i=>i≤m) (fun i=>m - i) 0 ⟨rfl,rfl,rfl,trivial⟩ rfl (Nat.zero_le _) (fun i hi=>?_)))
  have hpw:=pow16 (Nat.le_trans hi hm)
  have hp1:((2 ^ i:Nat):Int)≤65536∧0≤((2 ^ i:Nat):Int):=⟨Int.ofNat_le.2 hpw,Int.natCast_nonneg _⟩
  refine Run.seq (Run.seq (Run.region (cx_ok _ _ _) (Reg.op rfl (Ope.mov rfl ?_))))
  refine Reg.op rfl (Ope.mov rfl ?_)
  refine Reg.op rfl (Ope.lt rfl rfl ?_)
  refine Reg.nil (Run.condX rfl (fun hc=>?_) fun hc=>?_)
  ·refine Run.skip (Run.seq (Run.block (Run.region (cx_ok _ _ _) (Reg.op rfl (Ope.mov rfl ?_)))))
   refine Reg.op rfl (Ope.mul rfl rfl (by omega) ?_)
   refine Reg.op rfl (Ope.asg rfl ?_)
   refine Reg.nil (Run.bend (Run.region (cx_ok _ _ _) (Reg.op rfl (Ope.mov rfl ?_))))
   refine Reg.op rfl (Ope.add rfl rfl (by omega) ?_)
   refine Reg.op rfl (Ope.asg rfl ?_)
   refine Reg.nil (Run.lend ⟨i+1,by omega,by omega,⟨rfl,?_,rfl,trivial⟩,rfl,rfl⟩)
   show some (I (2 * ((2 ^ i:Nat):Int)))=some (I ((2 ^ (i+1):Nat):Int))
   congr 3
   rw [Nat.pow_succ]
   omega
  ·refine Run.exit (Jmp.code (Jmp.round (Jmp.here (Run.seq (Run.region (cx_ok _ _ _) (Reg.op rfl (Ope.mov rfl ?_)))))))
   refine Reg.op rfl (Ope.asg rfl ?_)
   refine Reg.nil (Run.ret (fin_ret (.tmp rfl .nil) rfl ?_))
   have:i=m:=by omega
   subst this
   rfl
theorem f33 (h a0 b0 c0 d0 a1 b1 c1 d1 : Int) : Fn P0 33 [.agg [I h, I a0, I b0, I c0, I d0, I a1, I b1, I c1, I d1]] (B (validR h a0 b0 c0 d0 a1 b1 c1 d1)) := by
  refine PFun.of (C:=c33) (cx_ok _ _ _) rfl (fn:=Tryz.f33) (by kernel_rfl) (c:=_) rfl rfl rfl ?_
  refine Run.seq (Run.region (cx_ok _ _ _) (Reg.op rfl (Ope.boxF rfl rfl ?_)))
  refine Reg.op rfl (Ope.asg rfl ?_)
  refine Reg.nil (Run.seq (Run.seq (Run.region (cx_ok _ _ _) (Reg.op rfl (Ope.fld rfl rfl ?_)))))
  refine Reg.op rfl (Ope.load rfl rfl ?_)
  refine Reg.op rfl (Ope.cf rfl rfl (f73 _ _ _) rfl ?_)
  refine Reg.op rfl (Ope.not rfl ?_)
  refine Reg.nil (Run.condX rfl (fun hc=>?_) fun hc=>?_)
  ·refine Run.seq (Run.region (cx_ok _ _ _) (Reg.op rfl (Ope.asg rfl ?_)))
   refine Reg.nil (Run.ret (Jmp.code (fin_ret (.tmp rfl .nil) rfl ?_)))
   refine congrArg B ?_
   first
     | refine (Bool.eq_false_iff.2 fun hv => ?_).symm
       simp only [validR,limOk,manyOk,Bool.and_eq_true,decide_eq_true_eq,Int.toNat_natCast] at hv
       simp only [Bool.not_eq_true',Bool.and_eq_false_iff,decide_eq_false_iff_not,Bool.not_eq_false',Bool.and_eq_true,decide_eq_true_eq] at *
       omega
     | exact (show validR m a0 b0 c0 d0 a1 b1 c1 d1=true by simp only [validR,hi2 (by decide),hi3 (by decide),manyOk,Bool.and_true,Bool.and_eq_true,decide_eq_true_eq];omega).symm
  ·refine Run.skip (Run.seq (Run.seq (Run.region (cx_ok _ _ _) (Reg.op rfl (Ope.asg rfl ?_)))))
   refine Reg.nil (Run.block ?_)
   obtain ⟨hh1,hh2⟩:0≤h∧h≤16:=by simpa using hc
   obtain ⟨m,rfl⟩:∃ m:Nat,h=(m:Int):=⟨h.toNat,by omega⟩
   have hpw:2 ^ m≤65536:=pow16 (by omega)
   have hp1:((2 ^ m:Nat):Int)≤65536∧0≤((2 ^ m:Nat):Int):=⟨Int.ofNat_le.2 hpw,Int.natCast_nonneg _⟩
   refine Run.loop (α:=Nat) (fun i=>[(1,.fp (.agg [I m,I a0,I b0,I c0,I d0,I a1,I b1,I c1,I d1])),(3,I i)]) (fun i=>HE i []) (fun i=>i≤2∧(1≤i→limOk m a0 b0 c0 d0=true)∧(2≤i→limOk m a1 b1 c1 d1=true)) (fun i=>2 - i) 0 ⟨rfl,rfl,trivial⟩ rfl ⟨by omega,fun h=>by omega,fun h=>by omega⟩ (fun i hi=>?_)
   obtain ⟨hi1,hi2,hi3⟩:=hi
   rcases (by omega:i=0∨i=1∨i=2) with rfl | rfl | rfl
   ·refine Run.seq (Run.seq (Run.region (cx_ok _ _ _) (Reg.op rfl (Ope.mov rfl ?_))))
    refine Reg.op rfl (Ope.lt rfl rfl ?_)
    refine Reg.nil (Run.condX rfl (fun hc=>?_) fun hc=>?_)
    ·refine Run.skip (Run.seq (Run.block (Run.seq (Run.region (cx_ok _ _ _) (Reg.op rfl (Ope.mov rfl ?_))))))
     refine Reg.op rfl (Ope.fld rfl rfl ?_)
     refine Reg.op rfl (Ope.idxA rfl rfl rfl rfl ?_)
     refine Reg.op rfl (Ope.load rfl rfl ?_)
     refine Reg.op rfl (Ope.newL rfl ?_)
     refine Reg.op0 (Ope.store rfl rfl rfl rfl rfl rfl ?_)
     refine Reg.nil (Run.seq (Run.frz (d:=4) true rfl rfl rfl ?_))
     refine Run.draw (cx_ok _ _ _) [(0,true),(1,false),(2,true),(3,true),(4,true),(5,true),(6,true),(7,true),(8,true),(9,true),(10,true),(11,true),(12,true),(13,true),(14,true),(15,true),(16,true),(17,true),(18,true),(19,true),(20,true),(21,true),(22,true),(23,true),(24,true),(25,true)] (by kernel_rfl) (Dra.op' rfl rfl rfl .sure (Ope.fld rfl rfl ?_))
     refine Dra.op' rfl rfl rfl (.load rfl) (Ope.load rfl rfl ?_)
     refine Dra.op' rfl rfl rfl .sure (Ope.fld rfl rfl ?_)
     refine Dra.op' rfl rfl rfl .sure (Ope.load rfl rfl ?_)
     refine Dra.op' rfl rfl rfl .sure (Ope.cf rfl rfl (f76 m (by omega)) rfl ?_)
     refine Dra.op' rfl rfl rfl .sure (Ope.sub rfl rfl (by omega) ?_)
     refine Dra.op' rfl rfl rfl .sure (Ope.cf rfl rfl (f73 _ _ _) rfl ?_)
     refine Dra.op' rfl rfl rfl .sure (Ope.not rfl ?_)
     refine Dra.op' rfl rfl rfl .sure (Ope.mov rfl ?_)
     refine Dra.splitX rfl rfl rfl rfl (fun hg=>?_) fun hg=>?_
     ·refine Dra.off' rfl rfl rfl (.inl rfl) rfl (Dra.off' rfl rfl rfl (.inl rfl) rfl (Dra.off' rfl rfl rfl (.inl rfl) rfl (Dra.off' rfl rfl rfl (.inl rfl) rfl (Dra.op' rfl rfl rfl .sure (Ope.pickT rfl rfl ?_)))))
      refine Dra.op' rfl rfl rfl .sure (Ope.mov rfl ?_)
      refine Dra.off' rfl rfl rfl (.inl rfl) rfl (Dra.off' rfl rfl rfl (.inl rfl) rfl (Dra.off' rfl rfl rfl (.inl rfl) rfl (Dra.off' rfl rfl rfl (.inl rfl) rfl (Dra.op' rfl rfl rfl .sure (Ope.pickT rfl rfl ?_)))))
      refine Dra.op' rfl rfl rfl .sure (Ope.mov rfl ?_)
      refine Dra.off' rfl rfl rfl (.inl rfl) rfl (Dra.off' rfl rfl rfl (.inl rfl) rfl (Dra.off' rfl rfl rfl (.inl rfl) rfl (Dra.off' rfl rfl rfl (.inl rfl) rfl (Dra.op' rfl rfl rfl .sure (Ope.pickT rfl rfl ?_)))))
      refine Dra.nil (Run.condT rfl (Run.seq (Run.region (cx_ok _ _ _) (Reg.op rfl (Ope.asg rfl ?_)))))
      refine Reg.nil (Run.ret (Jmp.retB (Jmp.code (Jmp.round (Jmp.retB (Jmp.code (fin_ret (.tmp rfl .nil) rfl ?_)))))))
      refine congrArg B ?_
      first
        | refine (Bool.eq_false_iff.2 fun hv => ?_).symm
          simp only [validR,limOk,manyOk,Bool.and_eq_true,decide_eq_true_eq,Int.toNat_natCast] at hv
          simp only [Bool.not_eq_true',Bool.and_eq_false_iff,decide_eq_false_iff_not,Bool.not_eq_false',Bool.and_eq_true,decide_eq_true_eq] at *
          omega
        | exact (show validR m a0 b0 c0 d0 a1 b1 c1 d1=true by simp only [validR,hi2 (by decide),hi3 (by decide),manyOk,Bool.and_true,Bool.and_eq_true,decide_eq_true_eq];omega).symm
     ·refine Dra.on' rfl rfl rfl rfl rfl .sure (Ope.fld rfl rfl ?_)
      refine Dra.on' rfl rfl rfl rfl rfl .sure (Ope.load rfl rfl ?_)
      refine Dra.on' rfl rfl rfl rfl rfl .sure (Ope.cf rfl rfl (f73 _ _ _) rfl ?_)
      refine Dra.on' rfl rfl rfl rfl rfl .sure (Ope.not rfl ?_)
      refine Dra.op' rfl rfl rfl .sure (Ope.pickF rfl rfl ?_)
      refine Dra.op' rfl rfl rfl .sure (Ope.mov rfl ?_)
      refine Dra.splitX rfl rfl rfl rfl (fun hg=>?_) fun hg=>?_
      ·refine Dra.off' rfl rfl rfl (.inl rfl) rfl (Dra.off' rfl rfl rfl (.inl rfl) rfl (Dra.off' rfl rfl rfl (.inl rfl) rfl (Dra.off' rfl rfl rfl (.inl rfl) rfl (Dra.op' rfl rfl rfl .sure (Ope.pickT rfl rfl ?_)))))
       refine Dra.op' rfl rfl rfl .sure (Ope.mov rfl ?_)
       refine Dra.off' rfl rfl rfl (.inl rfl) rfl (Dra.off' rfl rfl rfl (.inl rfl) rfl (Dra.off' rfl rfl rfl (.inl rfl) rfl (Dra.off' rfl rfl rfl (.inl rfl) rfl (Dra.op' rfl rfl rfl .sure (Ope.pickT rfl rfl ?_)))))
       refine Dra.nil (Run.condT rfl (Run.seq (Run.region (cx_ok _ _ _) (Reg.op rfl (Ope.asg rfl ?_)))))
       refine Reg.nil (Run.ret (Jmp.retB (Jmp.code (Jmp.round (Jmp.retB (Jmp.code (fin_ret (.tmp rfl .nil) rfl ?_)))))))
       refine congrArg B ?_
       first
         | refine (Bool.eq_false_iff.2 fun hv => ?_).symm
           simp only [validR,limOk,manyOk,Bool.and_eq_true,decide_eq_true_eq,Int.toNat_natCast] at hv
           simp only [Bool.not_eq_true',Bool.and_eq_false_iff,decide_eq_false_iff_not,Bool.not_eq_false',Bool.and_eq_true,decide_eq_true_eq] at *
           omega
         | exact (show validR m a0 b0 c0 d0 a1 b1 c1 d1=true by simp only [validR,hi2 (by decide),hi3 (by decide),manyOk,Bool.and_true,Bool.and_eq_true,decide_eq_true_eq];omega).symm
      ·refine Dra.on' rfl rfl rfl rfl rfl .sure (Ope.fld rfl rfl ?_)
       refine Dra.on' rfl rfl rfl rfl rfl .sure (Ope.load rfl rfl ?_)
       refine Dra.on' rfl rfl rfl rfl rfl .sure (Ope.cf rfl rfl (f73 _ _ _) rfl ?_)
       refine Dra.on' rfl rfl rfl rfl rfl .sure (Ope.not rfl ?_)
       refine Dra.op' rfl rfl rfl .sure (Ope.pickF rfl rfl ?_)
       refine Dra.op' rfl rfl rfl .sure (Ope.mov rfl ?_)
       refine Dra.splitX rfl rfl rfl rfl (fun hg=>?_) fun hg=>?_
       ·refine Dra.off' rfl rfl rfl (.inl rfl) rfl (Dra.off' rfl rfl rfl (.inl rfl) rfl (Dra.off' rfl rfl rfl (.inl rfl) rfl (Dra.off' rfl rfl rfl (.inl rfl) rfl (Dra.op' rfl rfl rfl .sure (Ope.pickT rfl rfl ?_)))))
        refine Dra.nil (Run.condT rfl (Run.seq (Run.region (cx_ok _ _ _) (Reg.op rfl (Ope.asg rfl ?_)))))
        refine Reg.nil (Run.ret (Jmp.retB (Jmp.code (Jmp.round (Jmp.retB (Jmp.code (fin_ret (.tmp rfl .nil) rfl ?_)))))))
        refine congrArg B ?_
        first
          | refine (Bool.eq_false_iff.2 fun hv => ?_).symm
            simp only [validR,limOk,manyOk,Bool.and_eq_true,decide_eq_true_eq,Int.toNat_natCast] at hv
            simp only [Bool.not_eq_true',Bool.and_eq_false_iff,decide_eq_false_iff_not,Bool.not_eq_false',Bool.and_eq_true,decide_eq_true_eq] at *
            omega
          | exact (show validR m a0 b0 c0 d0 a1 b1 c1 d1=true by simp only [validR,hi2 (by decide),hi3 (by decide),manyOk,Bool.and_true,Bool.and_eq_true,decide_eq_true_eq];omega).symm
       ·refine Dra.on' rfl rfl rfl rfl rfl .sure (Ope.fld rfl rfl ?_)
        refine Dra.on' rfl rfl rfl rfl rfl .sure (Ope.load rfl rfl ?_)
        refine Dra.on' rfl rfl rfl rfl rfl .sure (Ope.cf rfl rfl (f73 _ _ _) rfl ?_)
        refine Dra.on' rfl rfl rfl rfl rfl .sure (Ope.not rfl ?_)
        refine Dra.op' rfl rfl rfl .sure (Ope.pickF rfl rfl ?_)
        refine Dra.nil (Run.condX rfl (fun hc=>?_) fun hc=>?_)
        ·refine Run.seq (Run.region (cx_ok _ _ _) (Reg.op rfl (Ope.asg rfl ?_)))
         refine Reg.nil (Run.ret (Jmp.retB (Jmp.code (Jmp.round (Jmp.retB (Jmp.code (fin_ret (.tmp rfl .nil) rfl ?_)))))))
         refine congrArg B ?_
         first
           | refine (Bool.eq_false_iff.2 fun hv => ?_).symm
             simp only [validR,limOk,manyOk,Bool.and_eq_true,decide_eq_true_eq,Int.toNat_natCast] at hv
             simp only [Bool.not_eq_true',Bool.and_eq_false_iff,decide_eq_false_iff_not,Bool.not_eq_false',Bool.and_eq_true,decide_eq_true_eq] at *
             omega
           | exact (show validR m a0 b0 c0 d0 a1 b1 c1 d1=true by simp only [validR,hi2 (by decide),hi3 (by decide),manyOk,Bool.and_true,Bool.and_eq_true,decide_eq_true_eq];omega).symm
        ·refine Run.skip (Run.bend (Run.wide (Nat.le_refl _) Hsub.nil ?_))
         refine Run.region (cx_ok _ _ _) (Reg.op rfl (Ope.mov rfl ?_))
         refine Reg.op rfl (Ope.add rfl rfl (by omega) ?_)
         refine Reg.op rfl (Ope.asg rfl ?_)
         refine Reg.nil ?_
         first
           | refine Run.lend ⟨1,by decide,⟨by decide,fun _=>?_,fun h=>absurd h (by decide)⟩,⟨rfl,rfl,trivial⟩,rfl,rfl⟩
           | refine Run.lend ⟨2,by decide,⟨by decide,fun _=>hi2 (by decide),fun _=>?_⟩,⟨rfl,rfl,trivial⟩,rfl,rfl⟩
         all_goals
           simp only [Bool.not_eq_true',Bool.and_eq_false_iff,decide_eq_false_iff_not,Bool.not_eq_false',Bool.and_eq_true,decide_eq_true_eq] at *
           simp only [limOk,manyOk,Bool.and_eq_true,decide_eq_true_eq,Int.toNat_natCast]
           omega
    ·exfalso;omega
   ·refine Run.seq (Run.seq (Run.region (cx_ok _ _ _) (Reg.op rfl (Ope.mov rfl ?_))))
    refine Reg.op rfl (Ope.lt rfl rfl ?_)
    refine Reg.nil (Run.condX rfl (fun hc=>?_) fun hc=>?_)
    ·refine Run.skip (Run.seq (Run.block (Run.seq (Run.region (cx_ok _ _ _) (Reg.op rfl (Ope.mov rfl ?_))))))
     refine Reg.op rfl (Ope.fld rfl rfl ?_)
     refine Reg.op rfl (Ope.idxA rfl rfl rfl rfl ?_)
     refine Reg.op rfl (Ope.load rfl rfl ?_)
     refine Reg.op rfl (Ope.newL rfl ?_)
     refine Reg.op0 (Ope.store rfl rfl rfl rfl rfl rfl ?_)
     refine Reg.nil (Run.seq (Run.frz (d:=4) true rfl rfl rfl ?_))
     refine Run.draw (cx_ok _ _ _) [(0,true),(1,false),(2,true),(3,true),(4,true),(5,true),(6,true),(7,true),(8,true),(9,true),(10,true),(11,true),(12,true),(13,true),(14,true),(15,true),(16,true),(17,true),(18,true),(19,true),(20,true),(21,true),(22,true),(23,true),(24,true),(25,true)] (by kernel_rfl) (Dra.op' rfl rfl rfl .sure (Ope.fld rfl rfl ?_))
     refine Dra.op' rfl rfl rfl (.load rfl) (Ope.load rfl rfl ?_)
     refine Dra.op' rfl rfl rfl .sure (Ope.fld rfl rfl ?_)
     refine Dra.op' rfl rfl rfl .sure (Ope.load rfl rfl ?_)
     refine Dra.op' rfl rfl rfl .sure (Ope.cf rfl rfl (f76 m (by omega)) rfl ?_)
     refine Dra.op' rfl rfl rfl .sure (Ope.sub rfl rfl (by omega) ?_)
     refine Dra.op' rfl rfl rfl .sure (Ope.cf rfl rfl (f73 _ _ _) rfl ?_)
     refine Dra.op' rfl rfl rfl .sure (Ope.not rfl ?_)
     refine Dra.op' rfl rfl rfl .sure (Ope.mov rfl ?_)
     refine Dra.splitX rfl rfl rfl rfl (fun hg=>?_) fun hg=>?_
     ·refine Dra.off' rfl rfl rfl (.inl rfl) rfl (Dra.off' rfl rfl rfl (.inl rfl) rfl (Dra.off' rfl rfl rfl (.inl rfl) rfl (Dra.off' rfl rfl rfl (.inl rfl) rfl (Dra.op' rfl rfl rfl .sure (Ope.pickT rfl rfl ?_)))))
      refine Dra.op' rfl rfl rfl .sure (Ope.mov rfl ?_)
      refine Dra.off' rfl rfl rfl (.inl rfl) rfl (Dra.off' rfl rfl rfl (.inl rfl) rfl (Dra.off' rfl rfl rfl (.inl rfl) rfl (Dra.off' rfl rfl rfl (.inl rfl) rfl (Dra.op' rfl rfl rfl .sure (Ope.pickT rfl rfl ?_)))))
      refine Dra.op' rfl rfl rfl .sure (Ope.mov rfl ?_)
      refine Dra.off' rfl rfl rfl (.inl rfl) rfl (Dra.off' rfl rfl rfl (.inl rfl) rfl (Dra.off' rfl rfl rfl (.inl rfl) rfl (Dra.off' rfl rfl rfl (.inl rfl) rfl (Dra.op' rfl rfl rfl .sure (Ope.pickT rfl rfl ?_)))))
      refine Dra.nil (Run.condT rfl (Run.seq (Run.region (cx_ok _ _ _) (Reg.op rfl (Ope.asg rfl ?_)))))
      refine Reg.nil (Run.ret (Jmp.retB (Jmp.code (Jmp.round (Jmp.retB (Jmp.code (fin_ret (.tmp rfl .nil) rfl ?_)))))))
      refine congrArg B ?_
      first
        | refine (Bool.eq_false_iff.2 fun hv => ?_).symm
          simp only [validR,limOk,manyOk,Bool.and_eq_true,decide_eq_true_eq,Int.toNat_natCast] at hv
          simp only [Bool.not_eq_true',Bool.and_eq_false_iff,decide_eq_false_iff_not,Bool.not_eq_false',Bool.and_eq_true,decide_eq_true_eq] at *
          omega
        | exact (show validR m a0 b0 c0 d0 a1 b1 c1 d1=true by simp only [validR,hi2 (by decide),hi3 (by decide),manyOk,Bool.and_true,Bool.and_eq_true,decide_eq_true_eq];omega).symm
     ·refine Dra.on' rfl rfl rfl rfl rfl .sure (Ope.fld rfl rfl ?_)
      refine Dra.on' rfl rfl rfl rfl rfl .sure (Ope.load rfl rfl ?_)
      refine Dra.on' rfl rfl rfl rfl rfl .sure (Ope.cf rfl rfl (f73 _ _ _) rfl ?_)
      refine Dra.on' rfl rfl rfl rfl rfl .sure (Ope.not rfl ?_)
      refine Dra.op' rfl rfl rfl .sure (Ope.pickF rfl rfl ?_)
      refine Dra.op' rfl rfl rfl .sure (Ope.mov rfl ?_)
      refine Dra.splitX rfl rfl rfl rfl (fun hg=>?_) fun hg=>?_
      ·refine Dra.off' rfl rfl rfl (.inl rfl) rfl (Dra.off' rfl rfl rfl (.inl rfl) rfl (Dra.off' rfl rfl rfl (.inl rfl) rfl (Dra.off' rfl rfl rfl (.inl rfl) rfl (Dra.op' rfl rfl rfl .sure (Ope.pickT rfl rfl ?_)))))
       refine Dra.op' rfl rfl rfl .sure (Ope.mov rfl ?_)
       refine Dra.off' rfl rfl rfl (.inl rfl) rfl (Dra.off' rfl rfl rfl (.inl rfl) rfl (Dra.off' rfl rfl rfl (.inl rfl) rfl (Dra.off' rfl rfl rfl (.inl rfl) rfl (Dra.op' rfl rfl rfl .sure (Ope.pickT rfl rfl ?_)))))
       refine Dra.nil (Run.condT rfl (Run.seq (Run.region (cx_ok _ _ _) (Reg.op rfl (Ope.asg rfl ?_)))))
       refine Reg.nil (Run.ret (Jmp.retB (Jmp.code (Jmp.round (Jmp.retB (Jmp.code (fin_ret (.tmp rfl .nil) rfl ?_)))))))
       refine congrArg B ?_
       first
         | refine (Bool.eq_false_iff.2 fun hv => ?_).symm
           simp only [validR,limOk,manyOk,Bool.and_eq_true,decide_eq_true_eq,Int.toNat_natCast] at hv
           simp only [Bool.not_eq_true',Bool.and_eq_false_iff,decide_eq_false_iff_not,Bool.not_eq_false',Bool.and_eq_true,decide_eq_true_eq] at *
           omega
         | exact (show validR m a0 b0 c0 d0 a1 b1 c1 d1=true by simp only [validR,hi2 (by decide),hi3 (by decide),manyOk,Bool.and_true,Bool.and_eq_true,decide_eq_true_eq];omega).symm
      ·refine Dra.on' rfl rfl rfl rfl rfl .sure (Ope.fld rfl rfl ?_)
       refine Dra.on' rfl rfl rfl rfl rfl .sure (Ope.load rfl rfl ?_)
       refine Dra.on' rfl rfl rfl rfl rfl .sure (Ope.cf rfl rfl (f73 _ _ _) rfl ?_)
       refine Dra.on' rfl rfl rfl rfl rfl .sure (Ope.not rfl ?_)
       refine Dra.op' rfl rfl rfl .sure (Ope.pickF rfl rfl ?_)
       refine Dra.op' rfl rfl rfl .sure (Ope.mov rfl ?_)
       refine Dra.splitX rfl rfl rfl rfl (fun hg=>?_) fun hg=>?_
       ·refine Dra.off' rfl rfl rfl (.inl rfl) rfl (Dra.off' rfl rfl rfl (.inl rfl) rfl (Dra.off' rfl rfl rfl (.inl rfl) rfl (Dra.off' rfl rfl rfl (.inl rfl) rfl (Dra.op' rfl rfl rfl .sure (Ope.pickT rfl rfl ?_)))))
        refine Dra.nil (Run.condT rfl (Run.seq (Run.region (cx_ok _ _ _) (Reg.op rfl (Ope.asg rfl ?_)))))
        refine Reg.nil (Run.ret (Jmp.retB (Jmp.code (Jmp.round (Jmp.retB (Jmp.code (fin_ret (.tmp rfl .nil) rfl ?_)))))))
        refine congrArg B ?_
        first
          | refine (Bool.eq_false_iff.2 fun hv => ?_).symm
            simp only [validR,limOk,manyOk,Bool.and_eq_true,decide_eq_true_eq,Int.toNat_natCast] at hv
            simp only [Bool.not_eq_true',Bool.and_eq_false_iff,decide_eq_false_iff_not,Bool.not_eq_false',Bool.and_eq_true,decide_eq_true_eq] at *
            omega
          | exact (show validR m a0 b0 c0 d0 a1 b1 c1 d1=true by simp only [validR,hi2 (by decide),hi3 (by decide),manyOk,Bool.and_true,Bool.and_eq_true,decide_eq_true_eq];omega).symm
       ·refine Dra.on' rfl rfl rfl rfl rfl .sure (Ope.fld rfl rfl ?_)
        refine Dra.on' rfl rfl rfl rfl rfl .sure (Ope.load rfl rfl ?_)
        refine Dra.on' rfl rfl rfl rfl rfl .sure (Ope.cf rfl rfl (f73 _ _ _) rfl ?_)
        refine Dra.on' rfl rfl rfl rfl rfl .sure (Ope.not rfl ?_)
        refine Dra.op' rfl rfl rfl .sure (Ope.pickF rfl rfl ?_)
        refine Dra.nil (Run.condX rfl (fun hc=>?_) fun hc=>?_)
        ·refine Run.seq (Run.region (cx_ok _ _ _) (Reg.op rfl (Ope.asg rfl ?_)))
         refine Reg.nil (Run.ret (Jmp.retB (Jmp.code (Jmp.round (Jmp.retB (Jmp.code (fin_ret (.tmp rfl .nil) rfl ?_)))))))
         refine congrArg B ?_
         first
           | refine (Bool.eq_false_iff.2 fun hv => ?_).symm
             simp only [validR,limOk,manyOk,Bool.and_eq_true,decide_eq_true_eq,Int.toNat_natCast] at hv
             simp only [Bool.not_eq_true',Bool.and_eq_false_iff,decide_eq_false_iff_not,Bool.not_eq_false',Bool.and_eq_true,decide_eq_true_eq] at *
             omega
           | exact (show validR m a0 b0 c0 d0 a1 b1 c1 d1=true by simp only [validR,hi2 (by decide),hi3 (by decide),manyOk,Bool.and_true,Bool.and_eq_true,decide_eq_true_eq];omega).symm
        ·refine Run.skip (Run.bend (Run.wide (Nat.le_refl _) Hsub.nil ?_))
         refine Run.region (cx_ok _ _ _) (Reg.op rfl (Ope.mov rfl ?_))
         refine Reg.op rfl (Ope.add rfl rfl (by omega) ?_)
         refine Reg.op rfl (Ope.asg rfl ?_)
         refine Reg.nil ?_
         first
           | refine Run.lend ⟨1,by decide,⟨by decide,fun _=>?_,fun h=>absurd h (by decide)⟩,⟨rfl,rfl,trivial⟩,rfl,rfl⟩
           | refine Run.lend ⟨2,by decide,⟨by decide,fun _=>hi2 (by decide),fun _=>?_⟩,⟨rfl,rfl,trivial⟩,rfl,rfl⟩
         all_goals
           simp only [Bool.not_eq_true',Bool.and_eq_false_iff,decide_eq_false_iff_not,Bool.not_eq_false',Bool.and_eq_true,decide_eq_true_eq] at *
           simp only [limOk,manyOk,Bool.and_eq_true,decide_eq_true_eq,Int.toNat_natCast]
           omega
    ·exfalso;omega
   ·refine Run.seq (Run.seq (Run.region (cx_ok _ _ _) (Reg.op rfl (Ope.mov rfl ?_))))
    refine Reg.op rfl (Ope.lt rfl rfl ?_)
    refine Reg.nil (Run.condX rfl (fun hc=>?_) fun hc=>?_)
    ·exfalso;omega
    ·refine Run.exit (Jmp.code (Jmp.round (Jmp.here (Run.seq (Run.region (cx_ok _ _ _) (Reg.op rfl (Ope.asg rfl ?_)))))))
     refine Reg.nil (Run.ret (fin_ret (.tmp rfl .nil) rfl ?_))
     refine congrArg B ?_
     first
       | refine (Bool.eq_false_iff.2 fun hv => ?_).symm
         simp only [validR,limOk,manyOk,Bool.and_eq_true,decide_eq_true_eq,Int.toNat_natCast] at hv
         simp only [Bool.not_eq_true',Bool.and_eq_false_iff,decide_eq_false_iff_not,Bool.not_eq_false',Bool.and_eq_true,decide_eq_true_eq] at *
         omega
       | exact (show validR m a0 b0 c0 d0 a1 b1 c1 d1=true by simp only [validR,hi2 (by decide),hi3 (by decide),manyOk,Bool.and_true,Bool.and_eq_true,decide_eq_true_eq];omega).symm
theorem f55t (e:Int):Fn P0 55 [B true,I e] (.tup []):=by
  refine PFun.of (C:=c55) (cx_ok _ _ _) rfl (fn:=Tryz.f55) (by kernel_rfl) (c:=_) rfl rfl rfl ?_
  refine Run.seq (Run.region (cx_ok _ _ _) (Reg.op rfl (Ope.mov rfl ?_)))
  refine Reg.op rfl (Ope.not rfl ?_)
  refine Reg.nil (Run.condX rfl (fun hc=>?_) fun hc=>?_)
  ·cases hc
  ·exact Run.skip (fin_end .nil rfl rfl)
theorem f55f (e:Int):Pan P0 55 [B false,I e] (.ifc 30 (I e)):=by
  refine PFun.of (C:=c55) (cx_ok _ _ _) rfl (fn:=Tryz.f55) (by kernel_rfl) (c:=_) rfl rfl rfl ?_
  refine Run.seq (Run.region (cx_ok _ _ _) (Reg.op rfl (Ope.mov rfl ?_)))
  refine Reg.op rfl (Ope.not rfl ?_)
  refine Reg.nil (Run.condX rfl (fun hc=>?_) fun hc=>?_)
  ·refine Run.region (cx_ok _ _ _) (Reg.op rfl (Ope.mov rfl ?_))
   refine Reg.op rfl (Ope.ifc rfl ?_)
   refine Reg.op0 (Ope.panic rfl ?_)
   exact fin_panic rfl rfl
  ·cases hc
theorem f54t (h a0 b0 c0 d0 a1 b1 c1 d1:Int) (hv:validR h a0 b0 c0 d0 a1 b1 c1 d1=true):Fn P0 54 [.agg [I h,I a0,I b0,I c0,I d0,I a1,I b1,I c1,I d1]] (.agg [I h,I a0,I b0,I c0,I d0,I a1,I b1,I c1,I d1]):=by
  refine PFun.of (C:=c54) (cx_ok _ _ _) rfl (fn:=Tryz.f54) (by kernel_rfl) (c:=_) rfl rfl rfl ?_
  refine Run.seq (Run.region (cx_ok _ _ _) (Reg.op rfl (Ope.boxF rfl rfl ?_)))
  refine Reg.op rfl (Ope.newL rfl ?_)
  refine Reg.nil (Run.seq (Run.region (cx_ok _ _ _) (Reg.op rfl (Ope.load rfl rfl ?_))))
  refine Reg.op rfl (Ope.cf rfl rfl (by have:=f104 h a0 b0 c0 d0 a1 b1 c1 d1;rw [hv] at this;exact this) rfl ?_)
  refine Reg.op rfl (Ope.cf rfl rfl (f55t _) rfl ?_)
  refine Reg.nil (Run.seq (Run.region (cx_ok _ _ _) (Reg.op rfl (Ope.load rfl rfl ?_))))
  refine Reg.op rfl (Ope.bld rfl rfl ?_)
  refine Reg.op0 (Ope.store rfl rfl rfl rfl rfl rfl ?_)
  exact Reg.nil (Run.ret (fin_ret (.cell rfl rfl .nil) rfl rfl))
theorem f54f (h a0 b0 c0 d0 a1 b1 c1 d1:Int) (hv:validR h a0 b0 c0 d0 a1 b1 c1 d1=false):Pan P0 54 [.agg [I h,I a0,I b0,I c0,I d0,I a1,I b1,I c1,I d1]] (.ifc 30 (I 1)):=by
  refine PFun.of (C:=c54) (cx_ok _ _ _) rfl (fn:=Tryz.f54) (by kernel_rfl) (c:=_) rfl rfl rfl ?_
  refine Run.seq (Run.region (cx_ok _ _ _) (Reg.op rfl (Ope.boxF rfl rfl ?_)))
  refine Reg.op rfl (Ope.newL rfl ?_)
  refine Reg.nil (Run.seq (Run.region (cx_ok _ _ _) (Reg.op rfl (Ope.load rfl rfl ?_))))
  refine Reg.op rfl (Ope.cf rfl rfl (by have:=f104 h a0 b0 c0 d0 a1 b1 c1 d1;rw [hv] at this;exact this) rfl ?_)
  refine Reg.op rfl (Ope.cp rfl rfl (f55f _) rfl (fin_panic rfl rfl))
def planOk (h:Int) (xs:List Int):Bool:=xs.all (fun x=>decide (x=0) || decide (x=1)) && decide ((xs.length:Int)=h)
theorem f56 (h a0 b0 c0 d0 a1 b1 c1 d1 : Int) (tl : Tail) (xs : List Int) (hl : xs.length ≤ 1000000) : Fn P0 56 [.agg [I h, I a0, I b0, I c0, I d0, I a1, I b1, I c1, I d1], .sl tl (xs.map I)] (B (planOk h xs)) := by
  refine PFun.of (C:=c56) (cx_ok _ _ _) rfl (fn:=Tryz.f56) (by kernel_rfl) (c:=_) rfl rfl rfl ?_
  refine Run.seq (Run.region (cx_ok _ _ _) (Reg.op rfl (Ope.boxF rfl rfl ?_)))
  refine Reg.op rfl (Ope.asg rfl ?_)
  refine Reg.nil (Run.seq (Run.seq (Run.region (cx_ok _ _ _) (Reg.op rfl (Ope.mov rfl ?_)))))
  first | refine Reg.op rfl (Ope.len rfl (List.length_map _) ?_) | refine Reg.op rfl (Ope.len rfl rfl ?_) | refine Reg.op rfl (Ope.lenL rfl ?_)
  refine Reg.op rfl (Ope.mov rfl ?_)
  refine Reg.nil (Run.block (Run.loop (α:=Nat) (fun i=>[(1,.sl tl (xs.map I)),(2,.fp (.agg [I h,I a0,I b0,I c0,I d0,I a1,I b1,I c1,I d1])),(7,.sl tl (xs.map I)),(8,I xs.length),(9,I i)]) (fun _=>HE 0 []) (fun i=>i≤xs.length∧∀ j (hj:j < xs.length),j < i→(decide (xs[j]=0) || decide (xs[j]=1))=true) (fun i=>xs.length - i) 0 ⟨rfl,rfl,rfl,rfl,rfl,trivial⟩ rfl ⟨Nat.zero_le _,fun j _ h=>absurd h (Nat.not_lt_zero _)⟩ (fun i hi=>?_)))
  obtain ⟨hi1,hi2⟩:=hi
  refine Run.seq (Run.region (cx_ok _ _ _) (Reg.op rfl (Ope.lt rfl rfl ?_)))
  refine Reg.nil (Run.seq (Run.condX rfl (fun hc=>?_) fun hc=>?_))
  ·refine Run.skip (Run.seq (Run.block (Run.seq (Run.region (cx_ok _ _ _) ?_))))
   first | refine Reg.op rfl (Ope.idxM rfl rfl rfl (by first | assumption | omega) (fun _=>rfl) ?_) | refine Reg.op rfl (Ope.idxL rfl rfl rfl (by first | assumption | omega) ?_)
   refine Reg.op rfl (Ope.load rfl rfl ?_)
   refine Reg.op rfl (Ope.asg rfl ?_)
   refine Reg.nil (Run.seq (Run.region (cx_ok _ _ _) (Reg.op rfl (Ope.mov rfl ?_))))
   refine Reg.op rfl (Ope.cf rfl rfl (f71 _) rfl ?_)
   refine Reg.op rfl (Ope.not rfl ?_)
   refine Reg.nil (Run.condX rfl (fun hc=>?_) fun hc=>?_)
   ·refine Run.seq (Run.region (cx_ok _ _ _) (Reg.op rfl (Ope.asg rfl ?_)))
    refine Reg.nil (Run.ret (Jmp.retB (Jmp.code (Jmp.round (Jmp.retB (Jmp.code (fin_ret (.tmp rfl .nil) rfl ?_)))))))
    refine congrArg B ?_
    first
      | refine (Bool.eq_false_iff.2 fun hv => ?_).symm
        simp only [planOk,Bool.and_eq_true,List.all_eq_true] at hv
        have:=hv.1 xs[i] (List.getElem_mem _)
        simp_all
        done
      | have : xs.all (fun x => decide (x = 0) || decide (x = 1)) = true := List.all_eq_true.2 fun x hx => by obtain ⟨j, hj, rfl⟩ := List.getElem_of_mem hx; exact hi2 j hj (by omega)
        simp only [planOk,this,Bool.true_and]
   ·refine Run.skip (Run.bend (Run.region (cx_ok _ _ _) (Reg.op rfl (Ope.add rfl rfl (by omega) ?_))))
    refine Reg.op rfl (Ope.mov rfl ?_)
    refine Reg.nil (Run.lend ⟨i+1,by omega,⟨by omega,fun j hj hlt=>?_⟩,⟨rfl,rfl,rfl,rfl,rfl,trivial⟩,rfl,rfl⟩)
    rcases Nat.lt_succ_iff_lt_or_eq.1 hlt with h1 | rfl
    · exact hi2 j hj h1
    · simp_all
  ·refine Run.exit (Jmp.code (Jmp.round (Jmp.here (Run.seq (Run.region (cx_ok _ _ _) (Reg.op rfl (Ope.mov rfl ?_)))))))
   first | refine Reg.op rfl (Ope.len rfl (List.length_map _) ?_) | refine Reg.op rfl (Ope.len rfl rfl ?_) | refine Reg.op rfl (Ope.lenL rfl ?_)
   refine Reg.op rfl (Ope.fld rfl rfl ?_)
   refine Reg.op rfl (Ope.fld rfl rfl ?_)
   refine Reg.op rfl (Ope.load rfl rfl ?_)
   refine Reg.op rfl (Ope.eq rfl rfl ?_)
   refine Reg.op rfl (Ope.asg rfl ?_)
   refine Reg.nil (Run.ret (fin_ret (.tmp rfl .nil) rfl ?_))
   refine congrArg B ?_
   first
     | refine (Bool.eq_false_iff.2 fun hv => ?_).symm
       simp only [planOk,Bool.and_eq_true,List.all_eq_true] at hv
       have:=hv.1 xs[i] (List.getElem_mem _)
       simp_all
       done
     | have : xs.all (fun x => decide (x = 0) || decide (x = 1)) = true := List.all_eq_true.2 fun x hx => by obtain ⟨j, hj, rfl⟩ := List.getElem_of_mem hx; exact hi2 j hj (by omega)
       simp only [planOk,this,Bool.true_and]
end Go.Pv
namespace Go.Pv
open Go.Proofs Go.Am
set_option maxRecDepth 10000
structure Rid where
  r:Int
  n:Int
  a:Int
  b:Int
def Rid.then (d:Rid) (x:Int):Rid:=⟨x,if x=d.r then d.n+1 else 1,if x=0 then d.a+1 else d.a,if x=1 then d.b+1 else d.b⟩
def Rid.cells (d:Rid):List PV:=[I d.r,I d.n,I d.a,I d.b]
def rideV (d:Rid) (x:Int):PV:=.agg [I (d.then x).r,I (d.then x).n,I (d.then x).a,I (d.then x).b,I d.r,I d.n,I d.a,I d.b]
def ridesV:Rid→List Int→List PV
  | _,[]=>[]
  | d,x::xs=>rideV d x::ridesV (d.then x) xs
def Rid.ok (d:Rid) (i:Nat):Prop:=(0≤d.n∧d.n≤i)∧(0≤d.a∧d.a≤i)∧(0≤d.b∧d.b≤i)
theorem Rid.ok_then {d:Rid} {i:Nat} {x:Int} (h:d.ok i):(d.then x).ok (i+1):=by
  obtain ⟨h1,h2,h3⟩:=h
  refine ⟨?_,?_,?_⟩<;>simp only [Rid.then]<;>split<;>omega
def zeroRid:Rid:=⟨0,0,0,0⟩
theorem f105 (tl:Tail) (htl:tl.isOwn=false) (xs:List Int):Fn P0 105 [.sl tl (xs.map I)] (.fn (.func 158) [] [.fp (.sl tl (xs.map I))]):=by
  refine PFun.of (C:=c105) (cx_ok _ _ _) rfl (fn:=Tryz.f105) (by kernel_rfl) (c:=_) rfl rfl rfl ?_
  refine Run.seq (Run.region (cx_ok _ _ _) (Reg.op rfl (Ope.boxF rfl rfl ?_)))
  refine Reg.op rfl (Ope.asg rfl ?_)
  refine Reg.nil (Run.seq (Run.region (cx_ok _ _ _) (Reg.op rfl (Ope.mkf rfl rfl ?_))))
  refine Reg.op rfl (Ope.asg rfl ?_)
  refine Reg.nil (Run.ret (fin_ret (.tmp rfl .nil) (by simp only [pone,PV.bd,PV.bds,bd_sl (f:=I) htl (fun _=>rfl) xs,Bool.and_self]) ?_))
  rfl
theorem f158 (tl:Tail) (xs:List Int) (hx:∀ x∈xs,x=0∨x=1) (hl:xs.length≤90):Yields P0 158 [] [.fp (.sl tl (xs.map I))] (ridesV zeroRid xs):=by
  intro j n l R hj hfeed
  refine PCall.ofH (C:=c158) (cx_ok _ _ _) rfl (fn:=Tryz.f158) (by kernel_rfl) (c:=_) rfl rfl rfl (fun hok=>?_)
  have hn0:hget l n=none:=ok_none hok (Nat.le_refl _)
  refine Run.seq (Run.region (cx_ok _ _ _) (Reg.op rfl (Ope.bld rfl rfl ?_)))
  refine Reg.op rfl (Ope.newL rfl ?_)
  refine Reg.op0 (Ope.store rfl rfl hget_hd rfl rfl rfl ?_)
  refine Reg.nil (Run.seq (Run.wideS (m:=n+1) (l':=[(n,some (.cells zeroRid.cells))]++l) (Nat.le_refl _) hs_shadow ?_))
  refine Run.region (cx_ok _ _ _) (Reg.op rfl (Ope.load rfl rfl ?_))
  first | refine Reg.op rfl (Ope.len rfl (List.length_map _) ?_) | refine Reg.op rfl (Ope.len rfl rfl ?_) | refine Reg.op rfl (Ope.lenL rfl ?_)
  refine Reg.op rfl (Ope.mov rfl ?_)
  refine Reg.nil (Run.block (Run.loop (α:=Nat×Rid×Nat×HL) (fun s=>[(0,.yld j),(3,.ptr n 0),(8,.sl tl (xs.map I)),(9,I xs.length),(10,I s.1)]) (fun s=>HE s.2.2.1 ([(n,some (.cells s.2.1.cells))]++s.2.2.2)) (fun s=>s.1≤xs.length∧s.2.1.ok s.1∧n+1≤s.2.2.1∧(∀ q,s.2.2.1≤q→hget s.2.2.2 q=none)∧hget s.2.2.2 n=none∧Feed P0 (.yld j) R (ridesV s.2.1 (xs.drop s.1)) s.2.2.1 s.2.2.2) (fun s=>xs.length - s.1) (0,zeroRid,n+1,l) ⟨rfl,rfl,rfl,rfl,rfl,trivial⟩ rfl ⟨Nat.zero_le _,by simp [Rid.ok,zeroRid],Nat.le_refl _,fun q hq=>ok_none hok (Nat.le_of_succ_le hq),hn0,Feed.mono (Nat.le_succ _) hfeed⟩ (fun s hs=>?_)))
  obtain ⟨i,d,m,l'⟩:=s
  obtain ⟨hi,hd,hm,hok',hno,hf⟩:=hs
  simp only at hi hd hm hok' hno hf
  show Run _ _ _ _ [(0,.yld j),(3,.ptr n 0),(8,.sl tl (xs.map I)),(9,I xs.length),(10,I i)] [] (HE m ([(n,some (.cells d.cells))]++l'))
  refine Run.seq (Run.region (cx_ok _ _ _) (Reg.op rfl (Ope.lt rfl rfl ?_)))
  refine Reg.nil (Run.seq (Run.condX rfl (fun hc=>?_) fun hc=>?_))
  ·refine Run.skip (Run.seq (Run.block (Run.seq (Run.region (cx_ok _ _ _) ?_))))
   first | refine Reg.op rfl (Ope.idxM rfl rfl rfl (by first | assumption | omega) (fun _=>rfl) ?_) | refine Reg.op rfl (Ope.idxL rfl rfl rfl (by first | assumption | omega) ?_)
   refine Reg.op rfl (Ope.load rfl rfl ?_)
   refine Reg.op rfl (Ope.asg rfl ?_)
   refine Reg.nil (Run.seq ?_)
   have hlt:i < xs.length:=by omega
   obtain ⟨⟨hd1,hd2⟩,⟨hd3,hd4⟩,hd5,hd6⟩:=hd
   have hm0:hget l' m=none:=hok' m (Nat.le_refl _)
   have hf':Feed P0 (.yld j) R (rideV d xs[i]::ridesV (d.then xs[i]) (xs.drop (i+1))) (m+1) l':=by
     rw [List.drop_eq_getElem_cons hlt] at hf
     exact Feed.mono (Nat.le_succ _) hf
   refine Run.region (cx_ok _ _ _) (Reg.op rfl (Ope.loadH rfl hget_hd rfl ?_))
   refine Reg.op rfl (Ope.mov rfl ?_)
   refine Reg.op rfl (Ope.cf rfl rfl (f159 d.r d.n d.a d.b xs[i] (hx _ (List.getElem_mem _)) (by omega) (by omega) (by omega)) rfl ?_)
   refine Reg.op rfl (Ope.newL rfl ?_)
   refine Reg.op0 (Ope.store rfl rfl hget_hd rfl rfl rfl ?_)
   refine Reg.nil (Run.seq (Run.seq (Run.region (cx_ok _ _ _) (Reg.op rfl (Ope.mov rfl ?_)))))
   refine Reg.op rfl (Ope.loadH rfl hget_hd rfl ?_)
   refine Reg.op rfl (Ope.yld (own:=[(m,_),(m,_),(n,_)]) (v:=rideV d xs[i]) rfl rfl (Owns.of (by simp) (by simp [hm0,hno])) hf' (fun m2 l2 hm2 hok2 hno2 hf2=>?_) (fun m2 l2 hm2 hok2 hno2 hr2=>?_))
   ·refine Reg.op rfl (Ope.not rfl ?_)
    refine Reg.nil (Run.condX rfl (fun hc=>?_) fun hc=>?_)
    ·exact absurd hc (by decide)
    ·refine Run.skip (Run.region (cx_ok _ _ _) (Reg.op rfl (Ope.fld rfl rfl ?_)))
     refine Reg.op rfl (Ope.loadH rfl hget_hd rfl ?_)
     refine Reg.op0 (Ope.store rfl rfl ((hget_tl (by omega)).trans ((hget_tl (by omega)).trans hget_hd)) rfl rfl rfl ?_)
     refine Reg.nil (Run.bend (Run.wideS (m:=m2) (l':=[(n,some (.cells (d.then xs[i]).cells))]++l2) (Nat.le_refl _) (hs_keep (hs_own hno2)) ?_))
     refine Run.region (cx_ok _ _ _) (Reg.op rfl (Ope.add rfl rfl (by omega) ?_))
     refine Reg.op rfl (Ope.mov rfl ?_)
     refine Reg.nil (Run.lend ⟨(i+1,d.then xs[i],m2,l2),by simp only;omega,⟨by simp only;omega,Rid.ok_then ⟨⟨hd1,hd2⟩,⟨hd3,hd4⟩,hd5,hd6⟩,by simp only;omega,fun q hq=>ok_none hok2 hq,hno2 n (keysB_mem (b:=some (.cells d.cells)) (by simp)),hf2⟩,⟨rfl,rfl,rfl,rfl,rfl,trivial⟩,rfl,rfl⟩)
   ·refine Reg.op rfl (Ope.not rfl ?_)
    refine Reg.nil (Run.condX rfl (fun hc=>?_) fun hc=>?_)
    ·refine Run.ret (Jmp.code (Jmp.retB (Jmp.code (Jmp.round (Jmp.retB ?_)))))
     first
       | exact finH_ret .nil (Nat.le_refl _) (hs_own hno2) (hr2 _ (Nat.le_refl _) _)
       | exact finH_end .nil (Nat.le_refl _) (hs_own (Owns.of (own:=[(n,some (.cells d.cells))]) (by simp) (by simp [hno])).2) (by have:=hf;rw [List.drop_eq_nil_of_le (by omega)] at this;exact this _ (Nat.le_refl _) _)
    ·exact absurd hc (by decide)
  ·refine Run.exit (Jmp.code (Jmp.round (Jmp.here ?_)))
   first
     | exact finH_ret .nil (Nat.le_refl _) (hs_own hno2) (hr2 _ (Nat.le_refl _) _)
     | exact finH_end .nil (Nat.le_refl _) (hs_own (Owns.of (own:=[(n,some (.cells d.cells))]) (by simp) (by simp [hno])).2) (by have:=hf;rw [List.drop_eq_nil_of_le (by omega)] at this;exact this _ (Nat.le_refl _) _)
end Go.Pv
namespace Go.Pv
open Go.Proofs Go.Am
set_option maxRecDepth 10000
theorem f106:Fn P0 106 [] (.agg [.ifc 196 (.agg []),.ifc 198 (.fn (.func 160) [] []),.ifc 198 (.fn (.func 161) [] []),.ifc 198 (.fn (.func 162) [] [])]):=by
  refine PFun.of (C:=c106) (cx_ok _ _ _) rfl (fn:=Tryz.f106) (by kernel_rfl) (c:=_) rfl rfl rfl ?_
  refine Run.seq (Run.region (cx_ok _ _ _) (Reg.op rfl (Ope.newL rfl ?_)))
  refine Reg.nil (Run.seq (Run.region (cx_ok _ _ _) (Reg.op rfl (Ope.bld rfl rfl ?_))))
  refine Reg.op rfl (Ope.ifc rfl ?_)
  refine Reg.op rfl (Ope.ifc rfl ?_)
  refine Reg.op rfl (Ope.ifc rfl ?_)
  refine Reg.op rfl (Ope.ifc rfl ?_)
  refine Reg.op rfl (Ope.bld rfl rfl ?_)
  refine Reg.op0 (Ope.store rfl rfl rfl rfl rfl rfl ?_)
  exact Reg.nil (Run.ret (fin_ret (.cell rfl rfl .nil) rfl rfl))
theorem f221 (a b c d a' b' c' d':Int) (o h:Nat) (q r s:Int) (hh:c'+d'=(h:Int)) (h16:h≤64) (ho:o < 2 ^ 62) (h0:-100≤c'∧c'≤100) (h1:-100≤d'∧d'≤100) :
    Fn P0 221 [.agg [],.agg [I a,I b,I c,I d,I a',I b',I c',I d'],.agg [I o,I q,I r,I s]] (B (decide (((o >>> h &&& 1:Nat):Int)=1))):=by
  have hob:o >>> h < 2 ^ 62:=Nat.lt_of_le_of_lt (Nat.shiftRight_le _ _) ho
  refine PFun.of (C:=c221) (cx_ok _ _ _) rfl (fn:=Tryz.f221) (by kernel_rfl) (c:=_) rfl rfl rfl ?_
  refine Run.seq (Run.region (cx_ok _ _ _) (Reg.op rfl (Ope.boxF rfl rfl ?_)))
  refine Reg.op rfl (Ope.boxF rfl rfl ?_)
  refine Reg.op rfl (Ope.boxF rfl rfl ?_)
  refine Reg.op rfl (Ope.asg rfl ?_)
  refine Reg.nil (Run.seq (Run.draw (cx_ok _ _ _) [(0,true),(1,false),(2,true),(3,true),(4,true),(5,true),(6,true),(7,true)] (by kernel_rfl) (Dra.op' rfl rfl rfl .sure (Ope.fld rfl rfl ?_))))
  refine Dra.op' rfl rfl rfl (.load rfl) (Ope.load rfl rfl ?_)
  refine Dra.op' rfl rfl rfl .sure (Ope.load rfl rfl ?_)
  refine Dra.op' rfl rfl rfl .sure (Ope.cf rfl rfl (f107 _ _ _ _ _ _ _ _ h0 h1) rfl ?_)
  refine Dra.op' rfl rfl rfl .sure (Ope.shrN (p:=o) (m:=h) rfl rfl rfl hh (by show h≤64;omega) ?_)
  refine Dra.op' rfl rfl rfl .sure (Ope.andN (p:=o >>> h) (q:=1) rfl rfl rfl rfl (by show _ < 2 ^ 64;omega) (by decide) ?_)
  refine Dra.op' rfl rfl rfl .sure (Ope.eq rfl rfl ?_)
  refine Dra.op' rfl rfl rfl .sure (Ope.asg rfl ?_)
  exact Dra.nil (Run.ret (fin_ret (.tmp rfl .nil) rfl rfl))
theorem f222a (a b c d a' b' c' d' p q r s:Int) (ha:a=0∨a=1) (h0:-100≤c∧c≤100) (h1:-100≤d∧d≤100) (hq:-100≤q∧q≤100) :
    Fn P0 222 [.fn (.func 160) [] [],.agg [I a,I b,I c,I d,I a',I b',I c',I d'],.agg [I p,I q,I r,I s]] (B (decide (0 < (if a=0 then c else d) - q))):=by
  refine PFun.of (C:=c222) (cx_ok _ _ _) rfl (fn:=Tryz.f222) (by kernel_rfl) (c:=_) rfl rfl rfl ?_
  refine Run.seq (Run.region (cx_ok _ _ _) (Reg.op rfl (Ope.boxF rfl rfl ?_)))
  refine Reg.op rfl (Ope.boxF rfl rfl ?_)
  refine Reg.op rfl (Ope.asg rfl ?_)
  refine Reg.nil (Run.seq (Run.region (cx_ok _ _ _) (Reg.op rfl (Ope.mov rfl ?_))))
  refine Reg.op rfl (Ope.load rfl rfl ?_)
  refine Reg.op rfl (Ope.load rfl rfl ?_)
  refine Reg.op rfl (Ope.cf rfl rfl (f160 _ _ _ _ _ _ _ _ _ _ _ _ ha h0 h1 hq) rfl ?_)
  refine Reg.op rfl (Ope.gt rfl rfl ?_)
  refine Reg.op rfl (Ope.asg rfl ?_)
  exact Reg.nil (Run.ret (fin_ret (.tmp rfl .nil) rfl rfl))
theorem f222b (a b c d a' b' c' d' p q r s:Int) (h0:-100≤b∧b≤100) (hr:-100≤r∧r≤100) :
    Fn P0 222 [.fn (.func 161) [] [],.agg [I a,I b,I c,I d,I a',I b',I c',I d'],.agg [I p,I q,I r,I s]] (B (decide (0 < b - r))):=by
  refine PFun.of (C:=c222) (cx_ok _ _ _) rfl (fn:=Tryz.f222) (by kernel_rfl) (c:=_) rfl rfl rfl ?_
  refine Run.seq (Run.region (cx_ok _ _ _) (Reg.op rfl (Ope.boxF rfl rfl ?_)))
  refine Reg.op rfl (Ope.boxF rfl rfl ?_)
  refine Reg.op rfl (Ope.asg rfl ?_)
  refine Reg.nil (Run.seq (Run.region (cx_ok _ _ _) (Reg.op rfl (Ope.mov rfl ?_))))
  refine Reg.op rfl (Ope.load rfl rfl ?_)
  refine Reg.op rfl (Ope.load rfl rfl ?_)
  refine Reg.op rfl (Ope.cf rfl rfl (f161 _ _ _ _ _ _ _ _ _ _ _ _ h0 hr) rfl ?_)
  refine Reg.op rfl (Ope.gt rfl rfl ?_)
  refine Reg.op rfl (Ope.asg rfl ?_)
  exact Reg.nil (Run.ret (fin_ret (.tmp rfl .nil) rfl rfl))
theorem f222c (a b c d a' b' c' d' p q r s:Int) (ha:a=0∨a=1) (h0:-100≤c'∧c'≤100) (h1:-100≤d'∧d'≤100) (hb:-100≤b'∧b'≤100) (hs:-100≤s∧s≤100) :
    Fn P0 222 [.fn (.func 162) [] [],.agg [I a,I b,I c,I d,I a',I b',I c',I d'],.agg [I p,I q,I r,I s]] (B (decide (0 < if ((decide (0 < c'+d') && !decide (a=a')) && decide (0 < if a=0 then c' else d'))=true then s - b' else 0))):=by
  refine PFun.of (C:=c222) (cx_ok _ _ _) rfl (fn:=Tryz.f222) (by kernel_rfl) (c:=_) rfl rfl rfl ?_
  refine Run.seq (Run.region (cx_ok _ _ _) (Reg.op rfl (Ope.boxF rfl rfl ?_)))
  refine Reg.op rfl (Ope.boxF rfl rfl ?_)
  refine Reg.op rfl (Ope.asg rfl ?_)
  refine Reg.nil (Run.seq (Run.region (cx_ok _ _ _) (Reg.op rfl (Ope.mov rfl ?_))))
  refine Reg.op rfl (Ope.load rfl rfl ?_)
  refine Reg.op rfl (Ope.load rfl rfl ?_)
  refine Reg.op rfl (Ope.cf rfl rfl (f162 _ _ _ _ _ _ _ _ _ _ _ _ ha h0 h1 hb hs) rfl ?_)
  refine Reg.op rfl (Ope.gt rfl rfl ?_)
  refine Reg.op rfl (Ope.asg rfl ?_)
  exact Reg.nil (Run.ret (fin_ret (.tmp rfl .nil) rfl rfl))
end Go.Pv
namespace Go.Pv
open Go.Proofs Go.Am
set_option maxRecDepth 10000
structure Rst where
  m:Nat
  o0:Nat
  t0:Int
  r0:Int
  f0:Int
  o1:Nat
  t1:Int
  r1:Int
  f1:Int
abbrev Rst.cells (R:Rst):List PV:=[I R.m,I R.o0,I R.t0,I R.r0,I R.f0,I R.o1,I R.t1,I R.r1,I R.f1]
def Rst.ok (R:Rst):Prop:=R.m≤16∧R.o0 < 2 ^ 62∧R.o1 < 2 ^ 62∧(0≤R.t0∧R.t0≤16)∧(0≤R.r0∧R.r0≤16)∧(0≤R.f0∧R.f0≤16)∧(0≤R.t1∧R.t1≤16)∧(0≤R.r1∧R.r1≤16)∧(0≤R.f1∧R.f1≤16)
def viol (o:Nat) (t r f:Int) (d:Rid) (x:Int):Nat→Bool
  | 0=>decide (((o >>> (d.a+d.b).toNat &&& 1:Nat):Int)=1)
  | 1=>decide (0 < (if x=0 then (d.then x).a else (d.then x).b) - t)
  | 2=>decide (0 < (d.then x).n - r)
  | _=>decide (0 < if ((decide (0 < d.a+d.b) && !decide (x=d.r)) && decide (0 < if x=0 then d.a else d.b))=true then f - d.n else 0)
def Rst.viol (R:Rst) (d:Rid) (x:Int) (k:Nat):Bool:=if x=0 then Go.Pv.viol R.o0 R.t0 R.r0 R.f0 d x k else Go.Pv.viol R.o1 R.t1 R.r1 R.f1 d x k
def Rst.brk (R:Rst) (d:Rid) (x:Int):Int:=if R.viol d x 0 then 1 else if R.viol d x 1 then 2 else if R.viol d x 2 then 3 else if R.viol d x 3 then 4 else 0
def faultV (R:Rst):Rid→List Int→Int×Int
  | _,[]=>(0,0)
  | d,x::xs=>if R.brk d x=0 then faultV R (d.then x) xs else (d.a+d.b,R.brk d x)
theorem ridesV_length:∀ (d:Rid) (xs:List Int),(ridesV d xs).length=xs.length
  | _,[]=>rfl
  | d,x::xs=>by simp [ridesV,ridesV_length (d.then x) xs]
theorem fault_at {R:Rst} {d:Rid} {x:Int} {rest:List Int} {k:Nat} (hk:∀ j,j < k→R.viol d x j=false) (hv:R.viol d x k=true) (h4:k < 4):faultV R d (x::rest)=(d.a+d.b,(k:Int)+1):=by
  rcases (by omega:k=0∨k=1∨k=2∨k=3) with rfl | rfl | rfl | rfl
  · simp [faultV,Rst.brk,hv]
  · simp [faultV,Rst.brk,hv,hk 0 (by decide)]
  · simp [faultV,Rst.brk,hv,hk 0 (by decide),hk 1 (by decide)]
  · simp [faultV,Rst.brk,hv,hk 0 (by decide),hk 1 (by decide),hk 2 (by decide)]
theorem fault_no {R:Rst} {d:Rid} {x:Int} {rest:List Int} (hk:∀ j,j < 4→R.viol d x j=false):faultV R d (x::rest)=faultV R (d.then x) rest:=by
  simp [faultV,Rst.brk,hk 0 (by decide),hk 1 (by decide),hk 2 (by decide),hk 3 (by decide)]
theorem f57 (R : Rst) (hR : R.ok) (tl : Tail) (htl : tl.isOwn = false) (xs : List Int) (hx : ∀ x ∈ xs, x = 0 ∨ x = 1) (hl : xs.length ≤ 16) : Fn P0 57 [.agg R.cells, .sl tl (xs.map I)] (.agg [I (faultV R zeroRid xs).1, I (faultV R zeroRid xs).2]) := by
  obtain ⟨hm16,ho0,ho1,⟨ht0,ht0'⟩,⟨hr0,hr0'⟩,⟨hf0,hf0'⟩,⟨ht1,ht1'⟩,⟨hr1,hr1'⟩,⟨hf1,hf1'⟩⟩:=hR
  refine PFun.of (C:=c57) (cx_ok _ _ _) rfl (fn:=Tryz.f57) (by kernel_rfl) (c:=_) rfl rfl rfl ?_
  refine Run.seq (Run.region (cx_ok _ _ _) (Reg.op rfl (Ope.boxF rfl rfl ?_)))
  refine Reg.op rfl (Ope.newL rfl ?_)
  refine Reg.nil (Run.scope (Run.seq (Run.region (cx_ok _ _ _) (Reg.op rfl (Ope.newL rfl ?_)))))
  refine Reg.nil (Run.seq (Run.label (Run.seq (Run.seq (Run.region (cx_ok _ _ _) (Reg.op rfl (Ope.mov rfl ?_)))))))
  refine Reg.op rfl (Ope.cf rfl rfl (f105 tl htl xs) (by simp only [List.nil_append,List.append_nil,PV.bds,bd_sl (f:=I) htl (fun _=>rfl) xs,Bool.and_self]) ?_)
  refine Reg.nil (Run.block (Run.rangeF (cx_ok _ _ _) rfl (α:=Rid) (fun _=>[(0,some (.cells [I 0,I 0])),(1,some (.cells [I 0,I 0]))]) (fun _=>4) (fun i d=>i≤xs.length∧d.ok i∧(ridesV zeroRid xs).drop i=ridesV d (xs.drop i)∧faultV R zeroRid xs=faultV R d (xs.drop i)) rfl (f158 tl xs hx (by omega)) rfl rfl ⟨Tryz.f57,by kernel_rfl⟩ zeroRid ⟨Nat.zero_le _,by simp [Rid.ok,zeroRid],rfl,rfl⟩ ⟨rfl,rfl,trivial⟩ (by simp) (by simp) (by omega) (fun i d v hv hI m hm1 hm2 lb=>?_) (fun d hI m hm1 hm2=>?_)))
  ·obtain ⟨hi, ⟨⟨hd1, hd2⟩, ⟨hd3, hd4⟩, hd5, hd6⟩, hI1, hI2⟩ := hI
   obtain ⟨x,rest,hxr,rfl⟩:∃ x rest,xs.drop i=x::rest∧v=rideV d x:=by
     have h1:((ridesV zeroRid xs).drop i)[0]?=some v:=by rw [List.getElem?_drop];exact hv
     rw [hI1] at h1
     cases hq:xs.drop i with
     | nil=>rw [hq] at h1;simp [ridesV] at h1
     | cons x rest=>rw [hq] at h1;simp [ridesV] at h1;exact ⟨x,rest,rfl,h1.symm⟩
   have hlt:i < xs.length:=by
     rcases Nat.lt_or_ge i xs.length with h | h
     · exact h
     · rw [List.drop_eq_nil_of_le h] at hxr;cases hxr
   have hx01:x=0∨x=1:=hx x (List.mem_of_mem_drop (i:=i) (by rw [hxr];simp))
   have hdr:xs.drop (i+1)=rest:=by
     have:=congrArg List.tail hxr
     simpa using this
   obtain ⟨hh,hhe⟩:∃ hh:Nat,d.a+d.b=(hh:Int):=⟨(d.a+d.b).toNat,by omega⟩
   have htn:(d.a+d.b).toNat=hh:=by omega
   have hdo:d.ok i:=⟨⟨hd1,hd2⟩,⟨hd3,hd4⟩,hd5,hd6⟩
   obtain ⟨⟨he1,he2⟩,⟨he3,he4⟩,he5,he6⟩:=Rid.ok_then (x:=x) hdo
   rcases id hx01 with hxx | hxx
   ·refine Run.region (Cx.Ok.rnd (cx_ok _ _ _)) (Reg.op rfl (Ope.newL rfl ?_))
    refine Reg.op0 (Ope.store rfl rfl hget_hd rfl rfl rfl ?_)
    refine Reg.nil (Run.done ⟨rfl,rfl,_,_,rfl,(hget_tl (by omega)).trans ((hget_tl (by omega)).trans hget_hd),fun lb2=>?_⟩)
    refine Run.block (Run.seq (Run.frz (d:=6) true rfl ((hget_tl (by omega)).trans hget_hd) rfl ?_))
    refine Run.wideS (m:=m+1) (l':=[(3,some lb2),(2,some .dfr),(0,some (.cells [I 0,I 0])),(1,some (.cells [I 0,I 0]))]) (Nat.le_refl _) (hs_skip (hs_keep (hs_skip (hs_skip (hs_skip hs_refl rfl) (by repeat (first | rfl | refine (hget_tl (by omega)).trans ?_))) (by repeat (first | rfl | refine (hget_tl (by omega)).trans ?_)))) (by repeat (first | rfl | refine (hget_tl (by omega)).trans ?_))) ?_
    refine Run.region (Cx.Ok.rnd (cx_ok _ _ _)) (Reg.op rfl (Ope.cf rfl rfl (f106) rfl ?_))
    refine Reg.op rfl (Ope.mov rfl ?_)
    refine Reg.nil (Run.block (Run.loop (α:=Nat) (fun k=>[(2,.fp (.agg R.cells)),(5,.ptr 1 0),(6,.fp (rideV d x)),(12,.agg [.ifc 196 (.agg []),.ifc 198 (.fn (.func 160) [] []),.ifc 198 (.fn (.func 161) [] []),.ifc 198 (.fn (.func 162) [] [])]),(13,I k)]) (fun _=>HE (m+1) [(3,some lb2),(2,some .dfr),(0,some (.cells [I 0,I 0])),(1,some (.cells [I 0,I 0]))]) (fun k=>k≤4∧∀ j,j < k→R.viol d x j=false) (fun k=>4 - k) 0 ⟨rfl,rfl,rfl,rfl,rfl,trivial⟩ rfl ⟨Nat.zero_le _,fun j hj=>absurd hj (Nat.not_lt_zero _)⟩ (fun k hk=>?_)))
    obtain ⟨hk1,hk2⟩:=hk
    rcases (by omega:k=0∨k=1∨k=2∨k=3∨k=4) with rfl | rfl | rfl | rfl | rfl
    ·refine Run.seq (Run.region (Cx.Ok.rnd (cx_ok _ _ _)) (Reg.op rfl (Ope.lt rfl rfl ?_)))
     refine Reg.nil (Run.seq (Run.condX rfl (fun hc=>?_) fun hc=>?_))
     ·refine Run.skip (Run.seq (Run.block (Run.seq (Run.region (Cx.Ok.rnd (cx_ok _ _ _)) (Reg.op rfl (Ope.mov rfl ?_))))))
      refine Reg.op rfl (Ope.idx rfl rfl rfl rfl rfl ?_)
      refine Reg.op rfl (Ope.asg rfl ?_)
      refine Reg.op rfl (Ope.asg rfl ?_)
      refine Reg.nil (Run.seq (Run.draw (Cx.Ok.rnd (cx_ok _ _ _)) [(0,true),(1,true),(2,true),(3,true),(4,true),(5,true),(6,true),(7,true),(8,true),(9,true),(10,true),(11,true),(12,true),(13,true)] (by kernel_rfl) (Dra.op' rfl rfl rfl .sure (Ope.mov rfl ?_))))
      refine Dra.op' rfl rfl rfl .sure (Ope.load rfl rfl ?_)
      refine Dra.op' rfl rfl rfl .sure (Ope.fld rfl rfl ?_)
      refine Dra.op' rfl rfl rfl .sure (Ope.fld rfl rfl ?_)
      refine Dra.op' rfl rfl rfl .sure (Ope.fld rfl rfl ?_)
      refine Dra.op' rfl rfl rfl .sure (Ope.load rfl rfl ?_)
      refine Dra.op' rfl rfl rfl .sure (Ope.fld rfl rfl ?_)
      refine Dra.op' rfl rfl rfl .sure (Ope.fld rfl rfl ?_)
      first
        | refine Dra.op' rfl rfl rfl .sure (Ope.idxA (m:=0) rfl rfl (by show natK x=_;rw [hxx];rfl) rfl ?_)
        | refine Dra.op' rfl rfl rfl .sure (Ope.idxA (m:=1) rfl rfl (by show natK x=_;rw [hxx];rfl) rfl ?_)
      refine Dra.op' rfl rfl rfl .sure (Ope.load rfl rfl ?_)
      refine Dra.op' rfl rfl rfl .sure (Ope.mkf rfl rfl ?_)
      first
        | refine Dra.op' rfl rfl rfl .sure (Ope.nilm (t:=196) (g:=221) rfl ⟨fun _=>by kernel_rfl⟩ ?_)
        | refine Dra.op' rfl rfl rfl .sure (Ope.nilm (t:=198) (g:=222) rfl ⟨fun _=>by kernel_rfl⟩ ?_)
      refine Dra.op' rfl rfl rfl .sure (Ope.mov rfl ?_)
      first
        | refine Dra.op' rfl rfl rfl .sure (Ope.im (t:=196) (g:=221) rfl rfl ⟨fun _=>by kernel_rfl⟩ (f221 _ _ _ _ _ _ _ _ R.o0 hh _ _ _ hhe (by omega) ho0 (by omega) (by omega)) rfl ?_)
        | refine Dra.op' rfl rfl rfl .sure (Ope.im (t:=196) (g:=221) rfl rfl ⟨fun _=>by kernel_rfl⟩ (f221 _ _ _ _ _ _ _ _ R.o1 hh _ _ _ hhe (by omega) ho1 (by omega) (by omega)) rfl ?_)
        | refine Dra.op' rfl rfl rfl .sure (Ope.im (t:=198) (g:=222) rfl rfl ⟨fun _=>by kernel_rfl⟩ (f222a _ _ _ _ _ _ _ _ _ _ _ _ hx01 (by omega) (by omega) (by omega)) rfl ?_)
        | refine Dra.op' rfl rfl rfl .sure (Ope.im (t:=198) (g:=222) rfl rfl ⟨fun _=>by kernel_rfl⟩ (f222b _ _ _ _ _ _ _ _ _ _ _ _ (by omega) (by omega)) rfl ?_)
        | refine Dra.op' rfl rfl rfl .sure (Ope.im (t:=198) (g:=222) rfl rfl ⟨fun _=>by kernel_rfl⟩ (f222c _ _ _ _ _ _ _ _ _ _ _ _ hx01 (by omega) (by omega) (by omega) (by omega)) rfl ?_)
      refine Dra.nil (Run.condX rfl (fun hc=>?_) fun hc=>?_)
      ·refine Run.seq (Run.region (Cx.Ok.rnd (cx_ok _ _ _)) (Reg.op rfl (Ope.load rfl rfl ?_)))
       refine Reg.op rfl (Ope.cf rfl rfl (f107 _ _ _ _ _ _ _ _ (by omega) (by omega)) rfl ?_)
       refine Reg.op rfl (Ope.mov rfl ?_)
       refine Reg.op rfl (Ope.add rfl rfl (by omega) ?_)
       refine Reg.op rfl (Ope.bld rfl rfl ?_)
       refine Reg.op0 (Ope.store rfl rfl rfl rfl rfl rfl ?_)
       refine Reg.nil (Run.exit (Jmp.past rfl (Jmp.code (Jmp.round (Jmp.past rfl (Jmp.past rfl (Jmp.done ⟨rfl,_,_,rfl,by omega,rfl,fun _=>rfl,[(2,some .dfr),(0,some (.cells [I 0,I 0])),(1,some (.cells [I (d.a+d.b),_]))],⟨rfl,rfl,rfl,trivial⟩,fun m4 hm4=>?_⟩)))))))
       refine Jmp.here (Run.seq (Run.region (cx_ok _ _ _) (Reg.op rfl (Ope.load rfl rfl ?_))))
       refine Reg.op0 (Ope.store rfl rfl rfl rfl rfl rfl ?_)
       refine Reg.nil (Run.ret (Jmp.retS (fin_retD rfl (.cell rfl rfl .nil) rfl ?_)))
       first
         | have hfa := fault_at (rest := rest) hk2 (by first | (rw [Rst.viol, if_pos hxx]; first | exact decide_eq_true hc | (simp only [viol, htn]; exact decide_eq_true hc)) | (rw [Rst.viol, if_neg (by rw [hxx]; decide)]; first | exact decide_eq_true hc | (simp only [viol, htn]; exact decide_eq_true hc))) (by decide)
           rw [← hxr,← hI2] at hfa
           rw [hfa]
           rfl
         | obtain ⟨_, _, _, hI2⟩ := hI
           rw [ridesV_length,List.drop_length] at hI2
           rw [hI2]
           rfl
      ·refine Run.skip (Run.bend (Run.region (Cx.Ok.rnd (cx_ok _ _ _)) (Reg.op rfl (Ope.add rfl rfl (by omega) ?_))))
       refine Reg.op rfl (Ope.mov rfl ?_)
       refine Reg.nil ?_
       first
         | refine Run.lend ⟨1,by decide,⟨by decide,fun j hj=>?_⟩,⟨rfl,rfl,rfl,rfl,rfl,trivial⟩,rfl,rfl⟩
         | refine Run.lend ⟨2,by decide,⟨by decide,fun j hj=>?_⟩,⟨rfl,rfl,rfl,rfl,rfl,trivial⟩,rfl,rfl⟩
         | refine Run.lend ⟨3,by decide,⟨by decide,fun j hj=>?_⟩,⟨rfl,rfl,rfl,rfl,rfl,trivial⟩,rfl,rfl⟩
         | refine Run.lend ⟨4,by decide,⟨by decide,fun j hj=>?_⟩,⟨rfl,rfl,rfl,rfl,rfl,trivial⟩,rfl,rfl⟩
       rcases Nat.lt_succ_iff_lt_or_eq.1 hj with h | h
       · exact hk2 j h
       · subst h
         exact (by first | (rw [Rst.viol,if_pos hxx];first | exact decide_eq_false hc | (simp only [viol,htn];exact decide_eq_false hc)) | (rw [Rst.viol,if_neg (by rw [hxx];decide)];first | exact decide_eq_false hc | (simp only [viol,htn];exact decide_eq_false hc)))
     ·exfalso;omega
    ·refine Run.seq (Run.region (Cx.Ok.rnd (cx_ok _ _ _)) (Reg.op rfl (Ope.lt rfl rfl ?_)))
     refine Reg.nil (Run.seq (Run.condX rfl (fun hc=>?_) fun hc=>?_))
     ·refine Run.skip (Run.seq (Run.block (Run.seq (Run.region (Cx.Ok.rnd (cx_ok _ _ _)) (Reg.op rfl (Ope.mov rfl ?_))))))
      refine Reg.op rfl (Ope.idx rfl rfl rfl rfl rfl ?_)
      refine Reg.op rfl (Ope.asg rfl ?_)
      refine Reg.op rfl (Ope.asg rfl ?_)
      refine Reg.nil (Run.seq (Run.draw (Cx.Ok.rnd (cx_ok _ _ _)) [(0,true),(1,true),(2,true),(3,true),(4,true),(5,true),(6,true),(7,true),(8,true),(9,true),(10,true),(11,true),(12,true),(13,true)] (by kernel_rfl) (Dra.op' rfl rfl rfl .sure (Ope.mov rfl ?_))))
      refine Dra.op' rfl rfl rfl .sure (Ope.load rfl rfl ?_)
      refine Dra.op' rfl rfl rfl .sure (Ope.fld rfl rfl ?_)
      refine Dra.op' rfl rfl rfl .sure (Ope.fld rfl rfl ?_)
      refine Dra.op' rfl rfl rfl .sure (Ope.fld rfl rfl ?_)
      refine Dra.op' rfl rfl rfl .sure (Ope.load rfl rfl ?_)
      refine Dra.op' rfl rfl rfl .sure (Ope.fld rfl rfl ?_)
      refine Dra.op' rfl rfl rfl .sure (Ope.fld rfl rfl ?_)
      first
        | refine Dra.op' rfl rfl rfl .sure (Ope.idxA (m:=0) rfl rfl (by show natK x=_;rw [hxx];rfl) rfl ?_)
        | refine Dra.op' rfl rfl rfl .sure (Ope.idxA (m:=1) rfl rfl (by show natK x=_;rw [hxx];rfl) rfl ?_)
      refine Dra.op' rfl rfl rfl .sure (Ope.load rfl rfl ?_)
      refine Dra.op' rfl rfl rfl .sure (Ope.mkf rfl rfl ?_)
      first
        | refine Dra.op' rfl rfl rfl .sure (Ope.nilm (t:=196) (g:=221) rfl ⟨fun _=>by kernel_rfl⟩ ?_)
        | refine Dra.op' rfl rfl rfl .sure (Ope.nilm (t:=198) (g:=222) rfl ⟨fun _=>by kernel_rfl⟩ ?_)
      refine Dra.op' rfl rfl rfl .sure (Ope.mov rfl ?_)
      first
        | refine Dra.op' rfl rfl rfl .sure (Ope.im (t:=196) (g:=221) rfl rfl ⟨fun _=>by kernel_rfl⟩ (f221 _ _ _ _ _ _ _ _ R.o0 hh _ _ _ hhe (by omega) ho0 (by omega) (by omega)) rfl ?_)
        | refine Dra.op' rfl rfl rfl .sure (Ope.im (t:=196) (g:=221) rfl rfl ⟨fun _=>by kernel_rfl⟩ (f221 _ _ _ _ _ _ _ _ R.o1 hh _ _ _ hhe (by omega) ho1 (by omega) (by omega)) rfl ?_)
        | refine Dra.op' rfl rfl rfl .sure (Ope.im (t:=198) (g:=222) rfl rfl ⟨fun _=>by kernel_rfl⟩ (f222a _ _ _ _ _ _ _ _ _ _ _ _ hx01 (by omega) (by omega) (by omega)) rfl ?_)
        | refine Dra.op' rfl rfl rfl .sure (Ope.im (t:=198) (g:=222) rfl rfl ⟨fun _=>by kernel_rfl⟩ (f222b _ _ _ _ _ _ _ _ _ _ _ _ (by omega) (by omega)) rfl ?_)
        | refine Dra.op' rfl rfl rfl .sure (Ope.im (t:=198) (g:=222) rfl rfl ⟨fun _=>by kernel_rfl⟩ (f222c _ _ _ _ _ _ _ _ _ _ _ _ hx01 (by omega) (by omega) (by omega) (by omega)) rfl ?_)
      refine Dra.nil (Run.condX rfl (fun hc=>?_) fun hc=>?_)
      ·refine Run.seq (Run.region (Cx.Ok.rnd (cx_ok _ _ _)) (Reg.op rfl (Ope.load rfl rfl ?_)))
       refine Reg.op rfl (Ope.cf rfl rfl (f107 _ _ _ _ _ _ _ _ (by omega) (by omega)) rfl ?_)
       refine Reg.op rfl (Ope.mov rfl ?_)
       refine Reg.op rfl (Ope.add rfl rfl (by omega) ?_)
       refine Reg.op rfl (Ope.bld rfl rfl ?_)
       refine Reg.op0 (Ope.store rfl rfl rfl rfl rfl rfl ?_)
       refine Reg.nil (Run.exit (Jmp.past rfl (Jmp.code (Jmp.round (Jmp.past rfl (Jmp.past rfl (Jmp.done ⟨rfl,_,_,rfl,by omega,rfl,fun _=>rfl,[(2,some .dfr),(0,some (.cells [I 0,I 0])),(1,some (.cells [I (d.a+d.b),_]))],⟨rfl,rfl,rfl,trivial⟩,fun m4 hm4=>?_⟩)))))))
       refine Jmp.here (Run.seq (Run.region (cx_ok _ _ _) (Reg.op rfl (Ope.load rfl rfl ?_))))
       refine Reg.op0 (Ope.store rfl rfl rfl rfl rfl rfl ?_)
       refine Reg.nil (Run.ret (Jmp.retS (fin_retD rfl (.cell rfl rfl .nil) rfl ?_)))
       first
         | have hfa := fault_at (rest := rest) hk2 (by first | (rw [Rst.viol, if_pos hxx]; first | exact decide_eq_true hc | (simp only [viol, htn]; exact decide_eq_true hc)) | (rw [Rst.viol, if_neg (by rw [hxx]; decide)]; first | exact decide_eq_true hc | (simp only [viol, htn]; exact decide_eq_true hc))) (by decide)
           rw [← hxr,← hI2] at hfa
           rw [hfa]
           rfl
         | obtain ⟨_, _, _, hI2⟩ := hI
           rw [ridesV_length,List.drop_length] at hI2
           rw [hI2]
           rfl
      ·refine Run.skip (Run.bend (Run.region (Cx.Ok.rnd (cx_ok _ _ _)) (Reg.op rfl (Ope.add rfl rfl (by omega) ?_))))
       refine Reg.op rfl (Ope.mov rfl ?_)
       refine Reg.nil ?_
       first
         | refine Run.lend ⟨1,by decide,⟨by decide,fun j hj=>?_⟩,⟨rfl,rfl,rfl,rfl,rfl,trivial⟩,rfl,rfl⟩
         | refine Run.lend ⟨2,by decide,⟨by decide,fun j hj=>?_⟩,⟨rfl,rfl,rfl,rfl,rfl,trivial⟩,rfl,rfl⟩
         | refine Run.lend ⟨3,by decide,⟨by decide,fun j hj=>?_⟩,⟨rfl,rfl,rfl,rfl,rfl,trivial⟩,rfl,rfl⟩
         | refine Run.lend ⟨4,by decide,⟨by decide,fun j hj=>?_⟩,⟨rfl,rfl,rfl,rfl,rfl,trivial⟩,rfl,rfl⟩
       rcases Nat.lt_succ_iff_lt_or_eq.1 hj with h | h
       · exact hk2 j h
       · subst h
         exact (by first | (rw [Rst.viol,if_pos hxx];first | exact decide_eq_false hc | (simp only [viol,htn];exact decide_eq_false hc)) | (rw [Rst.viol,if_neg (by rw [hxx];decide)];first | exact decide_eq_false hc | (simp only [viol,htn];exact decide_eq_false hc)))
     ·exfalso;omega
    ·refine Run.seq (Run.region (Cx.Ok.rnd (cx_ok _ _ _)) (Reg.op rfl (Ope.lt rfl rfl ?_)))
     refine Reg.nil (Run.seq (Run.condX rfl (fun hc=>?_) fun hc=>?_))
     ·refine Run.skip (Run.seq (Run.block (Run.seq (Run.region (Cx.Ok.rnd (cx_ok _ _ _)) (Reg.op rfl (Ope.mov rfl ?_))))))
      refine Reg.op rfl (Ope.idx rfl rfl rfl rfl rfl ?_)
      refine Reg.op rfl (Ope.asg rfl ?_)
      refine Reg.op rfl (Ope.asg rfl ?_)
      refine Reg.nil (Run.seq (Run.draw (Cx.Ok.rnd (cx_ok _ _ _)) [(0,true),(1,true),(2,true),(3,true),(4,true),(5,true),(6,true),(7,true),(8,true),(9,true),(10,true),(11,true),(12,true),(13,true)] (by kernel_rfl) (Dra.op' rfl rfl rfl .sure (Ope.mov rfl ?_))))
      refine Dra.op' rfl rfl rfl .sure (Ope.load rfl rfl ?_)
      refine Dra.op' rfl rfl rfl .sure (Ope.fld rfl rfl ?_)
      refine Dra.op' rfl rfl rfl .sure (Ope.fld rfl rfl ?_)
      refine Dra.op' rfl rfl rfl .sure (Ope.fld rfl rfl ?_)
      refine Dra.op' rfl rfl rfl .sure (Ope.load rfl rfl ?_)
      refine Dra.op' rfl rfl rfl .sure (Ope.fld rfl rfl ?_)
      refine Dra.op' rfl rfl rfl .sure (Ope.fld rfl rfl ?_)
      first
        | refine Dra.op' rfl rfl rfl .sure (Ope.idxA (m:=0) rfl rfl (by show natK x=_;rw [hxx];rfl) rfl ?_)
        | refine Dra.op' rfl rfl rfl .sure (Ope.idxA (m:=1) rfl rfl (by show natK x=_;rw [hxx];rfl) rfl ?_)
      refine Dra.op' rfl rfl rfl .sure (Ope.load rfl rfl ?_)
      refine Dra.op' rfl rfl rfl .sure (Ope.mkf rfl rfl ?_)
      first
        | refine Dra.op' rfl rfl rfl .sure (Ope.nilm (t:=196) (g:=221) rfl ⟨fun _=>by kernel_rfl⟩ ?_)
        | refine Dra.op' rfl rfl rfl .sure (Ope.nilm (t:=198) (g:=222) rfl ⟨fun _=>by kernel_rfl⟩ ?_)
      refine Dra.op' rfl rfl rfl .sure (Ope.mov rfl ?_)
      first
        | refine Dra.op' rfl rfl rfl .sure (Ope.im (t:=196) (g:=221) rfl rfl ⟨fun _=>by kernel_rfl⟩ (f221 _ _ _ _ _ _ _ _ R.o0 hh _ _ _ hhe (by omega) ho0 (by omega) (by omega)) rfl ?_)
        | refine Dra.op' rfl rfl rfl .sure (Ope.im (t:=196) (g:=221) rfl rfl ⟨fun _=>by kernel_rfl⟩ (f221 _ _ _ _ _ _ _ _ R.o1 hh _ _ _ hhe (by omega) ho1 (by omega) (by omega)) rfl ?_)
        | refine Dra.op' rfl rfl rfl .sure (Ope.im (t:=198) (g:=222) rfl rfl ⟨fun _=>by kernel_rfl⟩ (f222a _ _ _ _ _ _ _ _ _ _ _ _ hx01 (by omega) (by omega) (by omega)) rfl ?_)
        | refine Dra.op' rfl rfl rfl .sure (Ope.im (t:=198) (g:=222) rfl rfl ⟨fun _=>by kernel_rfl⟩ (f222b _ _ _ _ _ _ _ _ _ _ _ _ (by omega) (by omega)) rfl ?_)
        | refine Dra.op' rfl rfl rfl .sure (Ope.im (t:=198) (g:=222) rfl rfl ⟨fun _=>by kernel_rfl⟩ (f222c _ _ _ _ _ _ _ _ _ _ _ _ hx01 (by omega) (by omega) (by omega) (by omega)) rfl ?_)
      refine Dra.nil (Run.condX rfl (fun hc=>?_) fun hc=>?_)
      ·refine Run.seq (Run.region (Cx.Ok.rnd (cx_ok _ _ _)) (Reg.op rfl (Ope.load rfl rfl ?_)))
       refine Reg.op rfl (Ope.cf rfl rfl (f107 _ _ _ _ _ _ _ _ (by omega) (by omega)) rfl ?_)
       refine Reg.op rfl (Ope.mov rfl ?_)
       refine Reg.op rfl (Ope.add rfl rfl (by omega) ?_)
       refine Reg.op rfl (Ope.bld rfl rfl ?_)
       refine Reg.op0 (Ope.store rfl rfl rfl rfl rfl rfl ?_)
       refine Reg.nil (Run.exit (Jmp.past rfl (Jmp.code (Jmp.round (Jmp.past rfl (Jmp.past rfl (Jmp.done ⟨rfl,_,_,rfl,by omega,rfl,fun _=>rfl,[(2,some .dfr),(0,some (.cells [I 0,I 0])),(1,some (.cells [I (d.a+d.b),_]))],⟨rfl,rfl,rfl,trivial⟩,fun m4 hm4=>?_⟩)))))))
       refine Jmp.here (Run.seq (Run.region (cx_ok _ _ _) (Reg.op rfl (Ope.load rfl rfl ?_))))
       refine Reg.op0 (Ope.store rfl rfl rfl rfl rfl rfl ?_)
       refine Reg.nil (Run.ret (Jmp.retS (fin_retD rfl (.cell rfl rfl .nil) rfl ?_)))
       first
         | have hfa := fault_at (rest := rest) hk2 (by first | (rw [Rst.viol, if_pos hxx]; first | exact decide_eq_true hc | (simp only [viol, htn]; exact decide_eq_true hc)) | (rw [Rst.viol, if_neg (by rw [hxx]; decide)]; first | exact decide_eq_true hc | (simp only [viol, htn]; exact decide_eq_true hc))) (by decide)
           rw [← hxr,← hI2] at hfa
           rw [hfa]
           rfl
         | obtain ⟨_, _, _, hI2⟩ := hI
           rw [ridesV_length,List.drop_length] at hI2
           rw [hI2]
           rfl
      ·refine Run.skip (Run.bend (Run.region (Cx.Ok.rnd (cx_ok _ _ _)) (Reg.op rfl (Ope.add rfl rfl (by omega) ?_))))
       refine Reg.op rfl (Ope.mov rfl ?_)
       refine Reg.nil ?_
       first
         | refine Run.lend ⟨1,by decide,⟨by decide,fun j hj=>?_⟩,⟨rfl,rfl,rfl,rfl,rfl,trivial⟩,rfl,rfl⟩
         | refine Run.lend ⟨2,by decide,⟨by decide,fun j hj=>?_⟩,⟨rfl,rfl,rfl,rfl,rfl,trivial⟩,rfl,rfl⟩
         | refine Run.lend ⟨3,by decide,⟨by decide,fun j hj=>?_⟩,⟨rfl,rfl,rfl,rfl,rfl,trivial⟩,rfl,rfl⟩
         | refine Run.lend ⟨4,by decide,⟨by decide,fun j hj=>?_⟩,⟨rfl,rfl,rfl,rfl,rfl,trivial⟩,rfl,rfl⟩
       rcases Nat.lt_succ_iff_lt_or_eq.1 hj with h | h
       · exact hk2 j h
       · subst h
         exact (by first | (rw [Rst.viol,if_pos hxx];first | exact decide_eq_false hc | (simp only [viol,htn];exact decide_eq_false hc)) | (rw [Rst.viol,if_neg (by rw [hxx];decide)];first | exact decide_eq_false hc | (simp only [viol,htn];exact decide_eq_false hc)))
     ·exfalso;omega
    ·refine Run.seq (Run.region (Cx.Ok.rnd (cx_ok _ _ _)) (Reg.op rfl (Ope.lt rfl rfl ?_)))
     refine Reg.nil (Run.seq (Run.condX rfl (fun hc=>?_) fun hc=>?_))
     ·refine Run.skip (Run.seq (Run.block (Run.seq (Run.region (Cx.Ok.rnd (cx_ok _ _ _)) (Reg.op rfl (Ope.mov rfl ?_))))))
      refine Reg.op rfl (Ope.idx rfl rfl rfl rfl rfl ?_)
      refine Reg.op rfl (Ope.asg rfl ?_)
      refine Reg.op rfl (Ope.asg rfl ?_)
      refine Reg.nil (Run.seq (Run.draw (Cx.Ok.rnd (cx_ok _ _ _)) [(0,true),(1,true),(2,true),(3,true),(4,true),(5,true),(6,true),(7,true),(8,true),(9,true),(10,true),(11,true),(12,true),(13,true)] (by kernel_rfl) (Dra.op' rfl rfl rfl .sure (Ope.mov rfl ?_))))
      refine Dra.op' rfl rfl rfl .sure (Ope.load rfl rfl ?_)
      refine Dra.op' rfl rfl rfl .sure (Ope.fld rfl rfl ?_)
      refine Dra.op' rfl rfl rfl .sure (Ope.fld rfl rfl ?_)
      refine Dra.op' rfl rfl rfl .sure (Ope.fld rfl rfl ?_)
      refine Dra.op' rfl rfl rfl .sure (Ope.load rfl rfl ?_)
      refine Dra.op' rfl rfl rfl .sure (Ope.fld rfl rfl ?_)
      refine Dra.op' rfl rfl rfl .sure (Ope.fld rfl rfl ?_)
      first
        | refine Dra.op' rfl rfl rfl .sure (Ope.idxA (m:=0) rfl rfl (by show natK x=_;rw [hxx];rfl) rfl ?_)
        | refine Dra.op' rfl rfl rfl .sure (Ope.idxA (m:=1) rfl rfl (by show natK x=_;rw [hxx];rfl) rfl ?_)
      refine Dra.op' rfl rfl rfl .sure (Ope.load rfl rfl ?_)
      refine Dra.op' rfl rfl rfl .sure (Ope.mkf rfl rfl ?_)
      first
        | refine Dra.op' rfl rfl rfl .sure (Ope.nilm (t:=196) (g:=221) rfl ⟨fun _=>by kernel_rfl⟩ ?_)
        | refine Dra.op' rfl rfl rfl .sure (Ope.nilm (t:=198) (g:=222) rfl ⟨fun _=>by kernel_rfl⟩ ?_)
      refine Dra.op' rfl rfl rfl .sure (Ope.mov rfl ?_)
      first
        | refine Dra.op' rfl rfl rfl .sure (Ope.im (t:=196) (g:=221) rfl rfl ⟨fun _=>by kernel_rfl⟩ (f221 _ _ _ _ _ _ _ _ R.o0 hh _ _ _ hhe (by omega) ho0 (by omega) (by omega)) rfl ?_)
        | refine Dra.op' rfl rfl rfl .sure (Ope.im (t:=196) (g:=221) rfl rfl ⟨fun _=>by kernel_rfl⟩ (f221 _ _ _ _ _ _ _ _ R.o1 hh _ _ _ hhe (by omega) ho1 (by omega) (by omega)) rfl ?_)
        | refine Dra.op' rfl rfl rfl .sure (Ope.im (t:=198) (g:=222) rfl rfl ⟨fun _=>by kernel_rfl⟩ (f222a _ _ _ _ _ _ _ _ _ _ _ _ hx01 (by omega) (by omega) (by omega)) rfl ?_)
        | refine Dra.op' rfl rfl rfl .sure (Ope.im (t:=198) (g:=222) rfl rfl ⟨fun _=>by kernel_rfl⟩ (f222b _ _ _ _ _ _ _ _ _ _ _ _ (by omega) (by omega)) rfl ?_)
        | refine Dra.op' rfl rfl rfl .sure (Ope.im (t:=198) (g:=222) rfl rfl ⟨fun _=>by kernel_rfl⟩ (f222c _ _ _ _ _ _ _ _ _ _ _ _ hx01 (by omega) (by omega) (by omega) (by omega)) rfl ?_)
      refine Dra.nil (Run.condX rfl (fun hc=>?_) fun hc=>?_)
      ·refine Run.seq (Run.region (Cx.Ok.rnd (cx_ok _ _ _)) (Reg.op rfl (Ope.load rfl rfl ?_)))
       refine Reg.op rfl (Ope.cf rfl rfl (f107 _ _ _ _ _ _ _ _ (by omega) (by omega)) rfl ?_)
       refine Reg.op rfl (Ope.mov rfl ?_)
       refine Reg.op rfl (Ope.add rfl rfl (by omega) ?_)
       refine Reg.op rfl (Ope.bld rfl rfl ?_)
       refine Reg.op0 (Ope.store rfl rfl rfl rfl rfl rfl ?_)
       refine Reg.nil (Run.exit (Jmp.past rfl (Jmp.code (Jmp.round (Jmp.past rfl (Jmp.past rfl (Jmp.done ⟨rfl,_,_,rfl,by omega,rfl,fun _=>rfl,[(2,some .dfr),(0,some (.cells [I 0,I 0])),(1,some (.cells [I (d.a+d.b),_]))],⟨rfl,rfl,rfl,trivial⟩,fun m4 hm4=>?_⟩)))))))
       refine Jmp.here (Run.seq (Run.region (cx_ok _ _ _) (Reg.op rfl (Ope.load rfl rfl ?_))))
       refine Reg.op0 (Ope.store rfl rfl rfl rfl rfl rfl ?_)
       refine Reg.nil (Run.ret (Jmp.retS (fin_retD rfl (.cell rfl rfl .nil) rfl ?_)))
       first
         | have hfa := fault_at (rest := rest) hk2 (by first | (rw [Rst.viol, if_pos hxx]; first | exact decide_eq_true hc | (simp only [viol, htn]; exact decide_eq_true hc)) | (rw [Rst.viol, if_neg (by rw [hxx]; decide)]; first | exact decide_eq_true hc | (simp only [viol, htn]; exact decide_eq_true hc))) (by decide)
           rw [← hxr,← hI2] at hfa
           rw [hfa]
           rfl
         | obtain ⟨_, _, _, hI2⟩ := hI
           rw [ridesV_length,List.drop_length] at hI2
           rw [hI2]
           rfl
      ·refine Run.skip (Run.bend (Run.region (Cx.Ok.rnd (cx_ok _ _ _)) (Reg.op rfl (Ope.add rfl rfl (by omega) ?_))))
       refine Reg.op rfl (Ope.mov rfl ?_)
       refine Reg.nil ?_
       first
         | refine Run.lend ⟨1,by decide,⟨by decide,fun j hj=>?_⟩,⟨rfl,rfl,rfl,rfl,rfl,trivial⟩,rfl,rfl⟩
         | refine Run.lend ⟨2,by decide,⟨by decide,fun j hj=>?_⟩,⟨rfl,rfl,rfl,rfl,rfl,trivial⟩,rfl,rfl⟩
         | refine Run.lend ⟨3,by decide,⟨by decide,fun j hj=>?_⟩,⟨rfl,rfl,rfl,rfl,rfl,trivial⟩,rfl,rfl⟩
         | refine Run.lend ⟨4,by decide,⟨by decide,fun j hj=>?_⟩,⟨rfl,rfl,rfl,rfl,rfl,trivial⟩,rfl,rfl⟩
       rcases Nat.lt_succ_iff_lt_or_eq.1 hj with h | h
       · exact hk2 j h
       · subst h
         exact (by first | (rw [Rst.viol,if_pos hxx];first | exact decide_eq_false hc | (simp only [viol,htn];exact decide_eq_false hc)) | (rw [Rst.viol,if_neg (by rw [hxx];decide)];first | exact decide_eq_false hc | (simp only [viol,htn];exact decide_eq_false hc)))
     ·exfalso;omega
    ·refine Run.seq (Run.region (Cx.Ok.rnd (cx_ok _ _ _)) (Reg.op rfl (Ope.lt rfl rfl ?_)))
     refine Reg.nil (Run.seq (Run.condX rfl (fun hc=>?_) fun hc=>?_))
     ·exfalso;omega
     ·refine Run.exit (Jmp.code (Jmp.round (Jmp.here (Run.bend (Run.done ⟨rfl,_,_,rfl,by omega,rfl,d.then x,by omega,⟨rfl,rfl,rfl,trivial⟩,?_⟩)))))
      refine ⟨hlt,Rid.ok_then hdo,?_,by rw [hI2,hxr,fault_no hk2,hdr]⟩
      have:=congrArg List.tail hI1
      rw [hxr] at this
      simpa [ridesV,hdr] using this
   ·refine Run.region (Cx.Ok.rnd (cx_ok _ _ _)) (Reg.op rfl (Ope.newL rfl ?_))
    refine Reg.op0 (Ope.store rfl rfl hget_hd rfl rfl rfl ?_)
    refine Reg.nil (Run.done ⟨rfl,rfl,_,_,rfl,(hget_tl (by omega)).trans ((hget_tl (by omega)).trans hget_hd),fun lb2=>?_⟩)
    refine Run.block (Run.seq (Run.frz (d:=6) true rfl ((hget_tl (by omega)).trans hget_hd) rfl ?_))
    refine Run.wideS (m:=m+1) (l':=[(3,some lb2),(2,some .dfr),(0,some (.cells [I 0,I 0])),(1,some (.cells [I 0,I 0]))]) (Nat.le_refl _) (hs_skip (hs_keep (hs_skip (hs_skip (hs_skip hs_refl rfl) (by repeat (first | rfl | refine (hget_tl (by omega)).trans ?_))) (by repeat (first | rfl | refine (hget_tl (by omega)).trans ?_)))) (by repeat (first | rfl | refine (hget_tl (by omega)).trans ?_))) ?_
    refine Run.region (Cx.Ok.rnd (cx_ok _ _ _)) (Reg.op rfl (Ope.cf rfl rfl (f106) rfl ?_))
    refine Reg.op rfl (Ope.mov rfl ?_)
    refine Reg.nil (Run.block (Run.loop (α:=Nat) (fun k=>[(2,.fp (.agg R.cells)),(5,.ptr 1 0),(6,.fp (rideV d x)),(12,.agg [.ifc 196 (.agg []),.ifc 198 (.fn (.func 160) [] []),.ifc 198 (.fn (.func 161) [] []),.ifc 198 (.fn (.func 162) [] [])]),(13,I k)]) (fun _=>HE (m+1) [(3,some lb2),(2,some .dfr),(0,some (.cells [I 0,I 0])),(1,some (.cells [I 0,I 0]))]) (fun k=>k≤4∧∀ j,j < k→R.viol d x j=false) (fun k=>4 - k) 0 ⟨rfl,rfl,rfl,rfl,rfl,trivial⟩ rfl ⟨Nat.zero_le _,fun j hj=>absurd hj (Nat.not_lt_zero _)⟩ (fun k hk=>?_)))
    obtain ⟨hk1,hk2⟩:=hk
    rcases (by omega:k=0∨k=1∨k=2∨k=3∨k=4) with rfl | rfl | rfl | rfl | rfl
    ·refine Run.seq (Run.region (Cx.Ok.rnd (cx_ok _ _ _)) (Reg.op rfl (Ope.lt rfl rfl ?_)))
     refine Reg.nil (Run.seq (Run.condX rfl (fun hc=>?_) fun hc=>?_))
     ·refine Run.skip (Run.seq (Run.block (Run.seq (Run.region (Cx.Ok.rnd (cx_ok _ _ _)) (Reg.op rfl (Ope.mov rfl ?_))))))
      refine Reg.op rfl (Ope.idx rfl rfl rfl rfl rfl ?_)
      refine Reg.op rfl (Ope.asg rfl ?_)
      refine Reg.op rfl (Ope.asg rfl ?_)
      refine Reg.nil (Run.seq (Run.draw (Cx.Ok.rnd (cx_ok _ _ _)) [(0,true),(1,true),(2,true),(3,true),(4,true),(5,true),(6,true),(7,true),(8,true),(9,true),(10,true),(11,true),(12,true),(13,true)] (by kernel_rfl) (Dra.op' rfl rfl rfl .sure (Ope.mov rfl ?_))))
      refine Dra.op' rfl rfl rfl .sure (Ope.load rfl rfl ?_)
      refine Dra.op' rfl rfl rfl .sure (Ope.fld rfl rfl ?_)
      refine Dra.op' rfl rfl rfl .sure (Ope.fld rfl rfl ?_)
      refine Dra.op' rfl rfl rfl .sure (Ope.fld rfl rfl ?_)
      refine Dra.op' rfl rfl rfl .sure (Ope.load rfl rfl ?_)
      refine Dra.op' rfl rfl rfl .sure (Ope.fld rfl rfl ?_)
      refine Dra.op' rfl rfl rfl .sure (Ope.fld rfl rfl ?_)
      first
        | refine Dra.op' rfl rfl rfl .sure (Ope.idxA (m:=0) rfl rfl (by show natK x=_;rw [hxx];rfl) rfl ?_)
        | refine Dra.op' rfl rfl rfl .sure (Ope.idxA (m:=1) rfl rfl (by show natK x=_;rw [hxx];rfl) rfl ?_)
      refine Dra.op' rfl rfl rfl .sure (Ope.load rfl rfl ?_)
      refine Dra.op' rfl rfl rfl .sure (Ope.mkf rfl rfl ?_)
      first
        | refine Dra.op' rfl rfl rfl .sure (Ope.nilm (t:=196) (g:=221) rfl ⟨fun _=>by kernel_rfl⟩ ?_)
        | refine Dra.op' rfl rfl rfl .sure (Ope.nilm (t:=198) (g:=222) rfl ⟨fun _=>by kernel_rfl⟩ ?_)
      refine Dra.op' rfl rfl rfl .sure (Ope.mov rfl ?_)
      first
        | refine Dra.op' rfl rfl rfl .sure (Ope.im (t:=196) (g:=221) rfl rfl ⟨fun _=>by kernel_rfl⟩ (f221 _ _ _ _ _ _ _ _ R.o0 hh _ _ _ hhe (by omega) ho0 (by omega) (by omega)) rfl ?_)
        | refine Dra.op' rfl rfl rfl .sure (Ope.im (t:=196) (g:=221) rfl rfl ⟨fun _=>by kernel_rfl⟩ (f221 _ _ _ _ _ _ _ _ R.o1 hh _ _ _ hhe (by omega) ho1 (by omega) (by omega)) rfl ?_)
        | refine Dra.op' rfl rfl rfl .sure (Ope.im (t:=198) (g:=222) rfl rfl ⟨fun _=>by kernel_rfl⟩ (f222a _ _ _ _ _ _ _ _ _ _ _ _ hx01 (by omega) (by omega) (by omega)) rfl ?_)
        | refine Dra.op' rfl rfl rfl .sure (Ope.im (t:=198) (g:=222) rfl rfl ⟨fun _=>by kernel_rfl⟩ (f222b _ _ _ _ _ _ _ _ _ _ _ _ (by omega) (by omega)) rfl ?_)
        | refine Dra.op' rfl rfl rfl .sure (Ope.im (t:=198) (g:=222) rfl rfl ⟨fun _=>by kernel_rfl⟩ (f222c _ _ _ _ _ _ _ _ _ _ _ _ hx01 (by omega) (by omega) (by omega) (by omega)) rfl ?_)
      refine Dra.nil (Run.condX rfl (fun hc=>?_) fun hc=>?_)
      ·refine Run.seq (Run.region (Cx.Ok.rnd (cx_ok _ _ _)) (Reg.op rfl (Ope.load rfl rfl ?_)))
       refine Reg.op rfl (Ope.cf rfl rfl (f107 _ _ _ _ _ _ _ _ (by omega) (by omega)) rfl ?_)
       refine Reg.op rfl (Ope.mov rfl ?_)
       refine Reg.op rfl (Ope.add rfl rfl (by omega) ?_)
       refine Reg.op rfl (Ope.bld rfl rfl ?_)
       refine Reg.op0 (Ope.store rfl rfl rfl rfl rfl rfl ?_)
       refine Reg.nil (Run.exit (Jmp.past rfl (Jmp.code (Jmp.round (Jmp.past rfl (Jmp.past rfl (Jmp.done ⟨rfl,_,_,rfl,by omega,rfl,fun _=>rfl,[(2,some .dfr),(0,some (.cells [I 0,I 0])),(1,some (.cells [I (d.a+d.b),_]))],⟨rfl,rfl,rfl,trivial⟩,fun m4 hm4=>?_⟩)))))))
       refine Jmp.here (Run.seq (Run.region (cx_ok _ _ _) (Reg.op rfl (Ope.load rfl rfl ?_))))
       refine Reg.op0 (Ope.store rfl rfl rfl rfl rfl rfl ?_)
       refine Reg.nil (Run.ret (Jmp.retS (fin_retD rfl (.cell rfl rfl .nil) rfl ?_)))
       first
         | have hfa := fault_at (rest := rest) hk2 (by first | (rw [Rst.viol, if_pos hxx]; first | exact decide_eq_true hc | (simp only [viol, htn]; exact decide_eq_true hc)) | (rw [Rst.viol, if_neg (by rw [hxx]; decide)]; first | exact decide_eq_true hc | (simp only [viol, htn]; exact decide_eq_true hc))) (by decide)
           rw [← hxr,← hI2] at hfa
           rw [hfa]
           rfl
         | obtain ⟨_, _, _, hI2⟩ := hI
           rw [ridesV_length,List.drop_length] at hI2
           rw [hI2]
           rfl
      ·refine Run.skip (Run.bend (Run.region (Cx.Ok.rnd (cx_ok _ _ _)) (Reg.op rfl (Ope.add rfl rfl (by omega) ?_))))
       refine Reg.op rfl (Ope.mov rfl ?_)
       refine Reg.nil ?_
       first
         | refine Run.lend ⟨1,by decide,⟨by decide,fun j hj=>?_⟩,⟨rfl,rfl,rfl,rfl,rfl,trivial⟩,rfl,rfl⟩
         | refine Run.lend ⟨2,by decide,⟨by decide,fun j hj=>?_⟩,⟨rfl,rfl,rfl,rfl,rfl,trivial⟩,rfl,rfl⟩
         | refine Run.lend ⟨3,by decide,⟨by decide,fun j hj=>?_⟩,⟨rfl,rfl,rfl,rfl,rfl,trivial⟩,rfl,rfl⟩
         | refine Run.lend ⟨4,by decide,⟨by decide,fun j hj=>?_⟩,⟨rfl,rfl,rfl,rfl,rfl,trivial⟩,rfl,rfl⟩
       rcases Nat.lt_succ_iff_lt_or_eq.1 hj with h | h
       · exact hk2 j h
       · subst h
         exact (by first | (rw [Rst.viol,if_pos hxx];first | exact decide_eq_false hc | (simp only [viol,htn];exact decide_eq_false hc)) | (rw [Rst.viol,if_neg (by rw [hxx];decide)];first | exact decide_eq_false hc | (simp only [viol,htn];exact decide_eq_false hc)))
     ·exfalso;omega
    ·refine Run.seq (Run.region (Cx.Ok.rnd (cx_ok _ _ _)) (Reg.op rfl (Ope.lt rfl rfl ?_)))
     refine Reg.nil (Run.seq (Run.condX rfl (fun hc=>?_) fun hc=>?_))
     ·refine Run.skip (Run.seq (Run.block (Run.seq (Run.region (Cx.Ok.rnd (cx_ok _ _ _)) (Reg.op rfl (Ope.mov rfl ?_))))))
      refine Reg.op rfl (Ope.idx rfl rfl rfl rfl rfl ?_)
      refine Reg.op rfl (Ope.asg rfl ?_)
      refine Reg.op rfl (Ope.asg rfl ?_)
      refine Reg.nil (Run.seq (Run.draw (Cx.Ok.rnd (cx_ok _ _ _)) [(0,true),(1,true),(2,true),(3,true),(4,true),(5,true),(6,true),(7,true),(8,true),(9,true),(10,true),(11,true),(12,true),(13,true)] (by kernel_rfl) (Dra.op' rfl rfl rfl .sure (Ope.mov rfl ?_))))
      refine Dra.op' rfl rfl rfl .sure (Ope.load rfl rfl ?_)
      refine Dra.op' rfl rfl rfl .sure (Ope.fld rfl rfl ?_)
      refine Dra.op' rfl rfl rfl .sure (Ope.fld rfl rfl ?_)
      refine Dra.op' rfl rfl rfl .sure (Ope.fld rfl rfl ?_)
      refine Dra.op' rfl rfl rfl .sure (Ope.load rfl rfl ?_)
      refine Dra.op' rfl rfl rfl .sure (Ope.fld rfl rfl ?_)
      refine Dra.op' rfl rfl rfl .sure (Ope.fld rfl rfl ?_)
      first
        | refine Dra.op' rfl rfl rfl .sure (Ope.idxA (m:=0) rfl rfl (by show natK x=_;rw [hxx];rfl) rfl ?_)
        | refine Dra.op' rfl rfl rfl .sure (Ope.idxA (m:=1) rfl rfl (by show natK x=_;rw [hxx];rfl) rfl ?_)
      refine Dra.op' rfl rfl rfl .sure (Ope.load rfl rfl ?_)
      refine Dra.op' rfl rfl rfl .sure (Ope.mkf rfl rfl ?_)
      first
        | refine Dra.op' rfl rfl rfl .sure (Ope.nilm (t:=196) (g:=221) rfl ⟨fun _=>by kernel_rfl⟩ ?_)
        | refine Dra.op' rfl rfl rfl .sure (Ope.nilm (t:=198) (g:=222) rfl ⟨fun _=>by kernel_rfl⟩ ?_)
      refine Dra.op' rfl rfl rfl .sure (Ope.mov rfl ?_)
      first
        | refine Dra.op' rfl rfl rfl .sure (Ope.im (t:=196) (g:=221) rfl rfl ⟨fun _=>by kernel_rfl⟩ (f221 _ _ _ _ _ _ _ _ R.o0 hh _ _ _ hhe (by omega) ho0 (by omega) (by omega)) rfl ?_)
        | refine Dra.op' rfl rfl rfl .sure (Ope.im (t:=196) (g:=221) rfl rfl ⟨fun _=>by kernel_rfl⟩ (f221 _ _ _ _ _ _ _ _ R.o1 hh _ _ _ hhe (by omega) ho1 (by omega) (by omega)) rfl ?_)
        | refine Dra.op' rfl rfl rfl .sure (Ope.im (t:=198) (g:=222) rfl rfl ⟨fun _=>by kernel_rfl⟩ (f222a _ _ _ _ _ _ _ _ _ _ _ _ hx01 (by omega) (by omega) (by omega)) rfl ?_)
        | refine Dra.op' rfl rfl rfl .sure (Ope.im (t:=198) (g:=222) rfl rfl ⟨fun _=>by kernel_rfl⟩ (f222b _ _ _ _ _ _ _ _ _ _ _ _ (by omega) (by omega)) rfl ?_)
        | refine Dra.op' rfl rfl rfl .sure (Ope.im (t:=198) (g:=222) rfl rfl ⟨fun _=>by kernel_rfl⟩ (f222c _ _ _ _ _ _ _ _ _ _ _ _ hx01 (by omega) (by omega) (by omega) (by omega)) rfl ?_)
      refine Dra.nil (Run.condX rfl (fun hc=>?_) fun hc=>?_)
      ·refine Run.seq (Run.region (Cx.Ok.rnd (cx_ok _ _ _)) (Reg.op rfl (Ope.load rfl rfl ?_)))
       refine Reg.op rfl (Ope.cf rfl rfl (f107 _ _ _ _ _ _ _ _ (by omega) (by omega)) rfl ?_)
       refine Reg.op rfl (Ope.mov rfl ?_)
       refine Reg.op rfl (Ope.add rfl rfl (by omega) ?_)
       refine Reg.op rfl (Ope.bld rfl rfl ?_)
       refine Reg.op0 (Ope.store rfl rfl rfl rfl rfl rfl ?_)
       refine Reg.nil (Run.exit (Jmp.past rfl (Jmp.code (Jmp.round (Jmp.past rfl (Jmp.past rfl (Jmp.done ⟨rfl,_,_,rfl,by omega,rfl,fun _=>rfl,[(2,some .dfr),(0,some (.cells [I 0,I 0])),(1,some (.cells [I (d.a+d.b),_]))],⟨rfl,rfl,rfl,trivial⟩,fun m4 hm4=>?_⟩)))))))
       refine Jmp.here (Run.seq (Run.region (cx_ok _ _ _) (Reg.op rfl (Ope.load rfl rfl ?_))))
       refine Reg.op0 (Ope.store rfl rfl rfl rfl rfl rfl ?_)
       refine Reg.nil (Run.ret (Jmp.retS (fin_retD rfl (.cell rfl rfl .nil) rfl ?_)))
       first
         | have hfa := fault_at (rest := rest) hk2 (by first | (rw [Rst.viol, if_pos hxx]; first | exact decide_eq_true hc | (simp only [viol, htn]; exact decide_eq_true hc)) | (rw [Rst.viol, if_neg (by rw [hxx]; decide)]; first | exact decide_eq_true hc | (simp only [viol, htn]; exact decide_eq_true hc))) (by decide)
           rw [← hxr,← hI2] at hfa
           rw [hfa]
           rfl
         | obtain ⟨_, _, _, hI2⟩ := hI
           rw [ridesV_length,List.drop_length] at hI2
           rw [hI2]
           rfl
      ·refine Run.skip (Run.bend (Run.region (Cx.Ok.rnd (cx_ok _ _ _)) (Reg.op rfl (Ope.add rfl rfl (by omega) ?_))))
       refine Reg.op rfl (Ope.mov rfl ?_)
       refine Reg.nil ?_
       first
         | refine Run.lend ⟨1,by decide,⟨by decide,fun j hj=>?_⟩,⟨rfl,rfl,rfl,rfl,rfl,trivial⟩,rfl,rfl⟩
         | refine Run.lend ⟨2,by decide,⟨by decide,fun j hj=>?_⟩,⟨rfl,rfl,rfl,rfl,rfl,trivial⟩,rfl,rfl⟩
         | refine Run.lend ⟨3,by decide,⟨by decide,fun j hj=>?_⟩,⟨rfl,rfl,rfl,rfl,rfl,trivial⟩,rfl,rfl⟩
         | refine Run.lend ⟨4,by decide,⟨by decide,fun j hj=>?_⟩,⟨rfl,rfl,rfl,rfl,rfl,trivial⟩,rfl,rfl⟩
       rcases Nat.lt_succ_iff_lt_or_eq.1 hj with h | h
       · exact hk2 j h
       · subst h
         exact (by first | (rw [Rst.viol,if_pos hxx];first | exact decide_eq_false hc | (simp only [viol,htn];exact decide_eq_false hc)) | (rw [Rst.viol,if_neg (by rw [hxx];decide)];first | exact decide_eq_false hc | (simp only [viol,htn];exact decide_eq_false hc)))
     ·exfalso;omega
    ·refine Run.seq (Run.region (Cx.Ok.rnd (cx_ok _ _ _)) (Reg.op rfl (Ope.lt rfl rfl ?_)))
     refine Reg.nil (Run.seq (Run.condX rfl (fun hc=>?_) fun hc=>?_))
     ·refine Run.skip (Run.seq (Run.block (Run.seq (Run.region (Cx.Ok.rnd (cx_ok _ _ _)) (Reg.op rfl (Ope.mov rfl ?_))))))
      refine Reg.op rfl (Ope.idx rfl rfl rfl rfl rfl ?_)
      refine Reg.op rfl (Ope.asg rfl ?_)
      refine Reg.op rfl (Ope.asg rfl ?_)
      refine Reg.nil (Run.seq (Run.draw (Cx.Ok.rnd (cx_ok _ _ _)) [(0,true),(1,true),(2,true),(3,true),(4,true),(5,true),(6,true),(7,true),(8,true),(9,true),(10,true),(11,true),(12,true),(13,true)] (by kernel_rfl) (Dra.op' rfl rfl rfl .sure (Ope.mov rfl ?_))))
      refine Dra.op' rfl rfl rfl .sure (Ope.load rfl rfl ?_)
      refine Dra.op' rfl rfl rfl .sure (Ope.fld rfl rfl ?_)
      refine Dra.op' rfl rfl rfl .sure (Ope.fld rfl rfl ?_)
      refine Dra.op' rfl rfl rfl .sure (Ope.fld rfl rfl ?_)
      refine Dra.op' rfl rfl rfl .sure (Ope.load rfl rfl ?_)
      refine Dra.op' rfl rfl rfl .sure (Ope.fld rfl rfl ?_)
      refine Dra.op' rfl rfl rfl .sure (Ope.fld rfl rfl ?_)
      first
        | refine Dra.op' rfl rfl rfl .sure (Ope.idxA (m:=0) rfl rfl (by show natK x=_;rw [hxx];rfl) rfl ?_)
        | refine Dra.op' rfl rfl rfl .sure (Ope.idxA (m:=1) rfl rfl (by show natK x=_;rw [hxx];rfl) rfl ?_)
      refine Dra.op' rfl rfl rfl .sure (Ope.load rfl rfl ?_)
      refine Dra.op' rfl rfl rfl .sure (Ope.mkf rfl rfl ?_)
      first
        | refine Dra.op' rfl rfl rfl .sure (Ope.nilm (t:=196) (g:=221) rfl ⟨fun _=>by kernel_rfl⟩ ?_)
        | refine Dra.op' rfl rfl rfl .sure (Ope.nilm (t:=198) (g:=222) rfl ⟨fun _=>by kernel_rfl⟩ ?_)
      refine Dra.op' rfl rfl rfl .sure (Ope.mov rfl ?_)
      first
        | refine Dra.op' rfl rfl rfl .sure (Ope.im (t:=196) (g:=221) rfl rfl ⟨fun _=>by kernel_rfl⟩ (f221 _ _ _ _ _ _ _ _ R.o0 hh _ _ _ hhe (by omega) ho0 (by omega) (by omega)) rfl ?_)
        | refine Dra.op' rfl rfl rfl .sure (Ope.im (t:=196) (g:=221) rfl rfl ⟨fun _=>by kernel_rfl⟩ (f221 _ _ _ _ _ _ _ _ R.o1 hh _ _ _ hhe (by omega) ho1 (by omega) (by omega)) rfl ?_)
        | refine Dra.op' rfl rfl rfl .sure (Ope.im (t:=198) (g:=222) rfl rfl ⟨fun _=>by kernel_rfl⟩ (f222a _ _ _ _ _ _ _ _ _ _ _ _ hx01 (by omega) (by omega) (by omega)) rfl ?_)
        | refine Dra.op' rfl rfl rfl .sure (Ope.im (t:=198) (g:=222) rfl rfl ⟨fun _=>by kernel_rfl⟩ (f222b _ _ _ _ _ _ _ _ _ _ _ _ (by omega) (by omega)) rfl ?_)
        | refine Dra.op' rfl rfl rfl .sure (Ope.im (t:=198) (g:=222) rfl rfl ⟨fun _=>by kernel_rfl⟩ (f222c _ _ _ _ _ _ _ _ _ _ _ _ hx01 (by omega) (by omega) (by omega) (by omega)) rfl ?_)
      refine Dra.nil (Run.condX rfl (fun hc=>?_) fun hc=>?_)
      ·refine Run.seq (Run.region (Cx.Ok.rnd (cx_ok _ _ _)) (Reg.op rfl (Ope.load rfl rfl ?_)))
       refine Reg.op rfl (Ope.cf rfl rfl (f107 _ _ _ _ _ _ _ _ (by omega) (by omega)) rfl ?_)
       refine Reg.op rfl (Ope.mov rfl ?_)
       refine Reg.op rfl (Ope.add rfl rfl (by omega) ?_)
       refine Reg.op rfl (Ope.bld rfl rfl ?_)
       refine Reg.op0 (Ope.store rfl rfl rfl rfl rfl rfl ?_)
       refine Reg.nil (Run.exit (Jmp.past rfl (Jmp.code (Jmp.round (Jmp.past rfl (Jmp.past rfl (Jmp.done ⟨rfl,_,_,rfl,by omega,rfl,fun _=>rfl,[(2,some .dfr),(0,some (.cells [I 0,I 0])),(1,some (.cells [I (d.a+d.b),_]))],⟨rfl,rfl,rfl,trivial⟩,fun m4 hm4=>?_⟩)))))))
       refine Jmp.here (Run.seq (Run.region (cx_ok _ _ _) (Reg.op rfl (Ope.load rfl rfl ?_))))
       refine Reg.op0 (Ope.store rfl rfl rfl rfl rfl rfl ?_)
       refine Reg.nil (Run.ret (Jmp.retS (fin_retD rfl (.cell rfl rfl .nil) rfl ?_)))
       first
         | have hfa := fault_at (rest := rest) hk2 (by first | (rw [Rst.viol, if_pos hxx]; first | exact decide_eq_true hc | (simp only [viol, htn]; exact decide_eq_true hc)) | (rw [Rst.viol, if_neg (by rw [hxx]; decide)]; first | exact decide_eq_true hc | (simp only [viol, htn]; exact decide_eq_true hc))) (by decide)
           rw [← hxr,← hI2] at hfa
           rw [hfa]
           rfl
         | obtain ⟨_, _, _, hI2⟩ := hI
           rw [ridesV_length,List.drop_length] at hI2
           rw [hI2]
           rfl
      ·refine Run.skip (Run.bend (Run.region (Cx.Ok.rnd (cx_ok _ _ _)) (Reg.op rfl (Ope.add rfl rfl (by omega) ?_))))
       refine Reg.op rfl (Ope.mov rfl ?_)
       refine Reg.nil ?_
       first
         | refine Run.lend ⟨1,by decide,⟨by decide,fun j hj=>?_⟩,⟨rfl,rfl,rfl,rfl,rfl,trivial⟩,rfl,rfl⟩
         | refine Run.lend ⟨2,by decide,⟨by decide,fun j hj=>?_⟩,⟨rfl,rfl,rfl,rfl,rfl,trivial⟩,rfl,rfl⟩
         | refine Run.lend ⟨3,by decide,⟨by decide,fun j hj=>?_⟩,⟨rfl,rfl,rfl,rfl,rfl,trivial⟩,rfl,rfl⟩
         | refine Run.lend ⟨4,by decide,⟨by decide,fun j hj=>?_⟩,⟨rfl,rfl,rfl,rfl,rfl,trivial⟩,rfl,rfl⟩
       rcases Nat.lt_succ_iff_lt_or_eq.1 hj with h | h
       · exact hk2 j h
       · subst h
         exact (by first | (rw [Rst.viol,if_pos hxx];first | exact decide_eq_false hc | (simp only [viol,htn];exact decide_eq_false hc)) | (rw [Rst.viol,if_neg (by rw [hxx];decide)];first | exact decide_eq_false hc | (simp only [viol,htn];exact decide_eq_false hc)))
     ·exfalso;omega
    ·refine Run.seq (Run.region (Cx.Ok.rnd (cx_ok _ _ _)) (Reg.op rfl (Ope.lt rfl rfl ?_)))
     refine Reg.nil (Run.seq (Run.condX rfl (fun hc=>?_) fun hc=>?_))
     ·refine Run.skip (Run.seq (Run.block (Run.seq (Run.region (Cx.Ok.rnd (cx_ok _ _ _)) (Reg.op rfl (Ope.mov rfl ?_))))))
      refine Reg.op rfl (Ope.idx rfl rfl rfl rfl rfl ?_)
      refine Reg.op rfl (Ope.asg rfl ?_)
      refine Reg.op rfl (Ope.asg rfl ?_)
      refine Reg.nil (Run.seq (Run.draw (Cx.Ok.rnd (cx_ok _ _ _)) [(0,true),(1,true),(2,true),(3,true),(4,true),(5,true),(6,true),(7,true),(8,true),(9,true),(10,true),(11,true),(12,true),(13,true)] (by kernel_rfl) (Dra.op' rfl rfl rfl .sure (Ope.mov rfl ?_))))
      refine Dra.op' rfl rfl rfl .sure (Ope.load rfl rfl ?_)
      refine Dra.op' rfl rfl rfl .sure (Ope.fld rfl rfl ?_)
      refine Dra.op' rfl rfl rfl .sure (Ope.fld rfl rfl ?_)
      refine Dra.op' rfl rfl rfl .sure (Ope.fld rfl rfl ?_)
      refine Dra.op' rfl rfl rfl .sure (Ope.load rfl rfl ?_)
      refine Dra.op' rfl rfl rfl .sure (Ope.fld rfl rfl ?_)
      refine Dra.op' rfl rfl rfl .sure (Ope.fld rfl rfl ?_)
      first
        | refine Dra.op' rfl rfl rfl .sure (Ope.idxA (m:=0) rfl rfl (by show natK x=_;rw [hxx];rfl) rfl ?_)
        | refine Dra.op' rfl rfl rfl .sure (Ope.idxA (m:=1) rfl rfl (by show natK x=_;rw [hxx];rfl) rfl ?_)
      refine Dra.op' rfl rfl rfl .sure (Ope.load rfl rfl ?_)
      refine Dra.op' rfl rfl rfl .sure (Ope.mkf rfl rfl ?_)
      first
        | refine Dra.op' rfl rfl rfl .sure (Ope.nilm (t:=196) (g:=221) rfl ⟨fun _=>by kernel_rfl⟩ ?_)
        | refine Dra.op' rfl rfl rfl .sure (Ope.nilm (t:=198) (g:=222) rfl ⟨fun _=>by kernel_rfl⟩ ?_)
      refine Dra.op' rfl rfl rfl .sure (Ope.mov rfl ?_)
      first
        | refine Dra.op' rfl rfl rfl .sure (Ope.im (t:=196) (g:=221) rfl rfl ⟨fun _=>by kernel_rfl⟩ (f221 _ _ _ _ _ _ _ _ R.o0 hh _ _ _ hhe (by omega) ho0 (by omega) (by omega)) rfl ?_)
        | refine Dra.op' rfl rfl rfl .sure (Ope.im (t:=196) (g:=221) rfl rfl ⟨fun _=>by kernel_rfl⟩ (f221 _ _ _ _ _ _ _ _ R.o1 hh _ _ _ hhe (by omega) ho1 (by omega) (by omega)) rfl ?_)
        | refine Dra.op' rfl rfl rfl .sure (Ope.im (t:=198) (g:=222) rfl rfl ⟨fun _=>by kernel_rfl⟩ (f222a _ _ _ _ _ _ _ _ _ _ _ _ hx01 (by omega) (by omega) (by omega)) rfl ?_)
        | refine Dra.op' rfl rfl rfl .sure (Ope.im (t:=198) (g:=222) rfl rfl ⟨fun _=>by kernel_rfl⟩ (f222b _ _ _ _ _ _ _ _ _ _ _ _ (by omega) (by omega)) rfl ?_)
        | refine Dra.op' rfl rfl rfl .sure (Ope.im (t:=198) (g:=222) rfl rfl ⟨fun _=>by kernel_rfl⟩ (f222c _ _ _ _ _ _ _ _ _ _ _ _ hx01 (by omega) (by omega) (by omega) (by omega)) rfl ?_)
      refine Dra.nil (Run.condX rfl (fun hc=>?_) fun hc=>?_)
      ·refine Run.seq (Run.region (Cx.Ok.rnd (cx_ok _ _ _)) (Reg.op rfl (Ope.load rfl rfl ?_)))
       refine Reg.op rfl (Ope.cf rfl rfl (f107 _ _ _ _ _ _ _ _ (by omega) (by omega)) rfl ?_)
       refine Reg.op rfl (Ope.mov rfl ?_)
       refine Reg.op rfl (Ope.add rfl rfl (by omega) ?_)
       refine Reg.op rfl (Ope.bld rfl rfl ?_)
       refine Reg.op0 (Ope.store rfl rfl rfl rfl rfl rfl ?_)
       refine Reg.nil (Run.exit (Jmp.past rfl (Jmp.code (Jmp.round (Jmp.past rfl (Jmp.past rfl (Jmp.done ⟨rfl,_,_,rfl,by omega,rfl,fun _=>rfl,[(2,some .dfr),(0,some (.cells [I 0,I 0])),(1,some (.cells [I (d.a+d.b),_]))],⟨rfl,rfl,rfl,trivial⟩,fun m4 hm4=>?_⟩)))))))
       refine Jmp.here (Run.seq (Run.region (cx_ok _ _ _) (Reg.op rfl (Ope.load rfl rfl ?_))))
       refine Reg.op0 (Ope.store rfl rfl rfl rfl rfl rfl ?_)
       refine Reg.nil (Run.ret (Jmp.retS (fin_retD rfl (.cell rfl rfl .nil) rfl ?_)))
       first
         | have hfa := fault_at (rest := rest) hk2 (by first | (rw [Rst.viol, if_pos hxx]; first | exact decide_eq_true hc | (simp only [viol, htn]; exact decide_eq_true hc)) | (rw [Rst.viol, if_neg (by rw [hxx]; decide)]; first | exact decide_eq_true hc | (simp only [viol, htn]; exact decide_eq_true hc))) (by decide)
           rw [← hxr,← hI2] at hfa
           rw [hfa]
           rfl
         | obtain ⟨_, _, _, hI2⟩ := hI
           rw [ridesV_length,List.drop_length] at hI2
           rw [hI2]
           rfl
      ·refine Run.skip (Run.bend (Run.region (Cx.Ok.rnd (cx_ok _ _ _)) (Reg.op rfl (Ope.add rfl rfl (by omega) ?_))))
       refine Reg.op rfl (Ope.mov rfl ?_)
       refine Reg.nil ?_
       first
         | refine Run.lend ⟨1,by decide,⟨by decide,fun j hj=>?_⟩,⟨rfl,rfl,rfl,rfl,rfl,trivial⟩,rfl,rfl⟩
         | refine Run.lend ⟨2,by decide,⟨by decide,fun j hj=>?_⟩,⟨rfl,rfl,rfl,rfl,rfl,trivial⟩,rfl,rfl⟩
         | refine Run.lend ⟨3,by decide,⟨by decide,fun j hj=>?_⟩,⟨rfl,rfl,rfl,rfl,rfl,trivial⟩,rfl,rfl⟩
         | refine Run.lend ⟨4,by decide,⟨by decide,fun j hj=>?_⟩,⟨rfl,rfl,rfl,rfl,rfl,trivial⟩,rfl,rfl⟩
       rcases Nat.lt_succ_iff_lt_or_eq.1 hj with h | h
       · exact hk2 j h
       · subst h
         exact (by first | (rw [Rst.viol,if_pos hxx];first | exact decide_eq_false hc | (simp only [viol,htn];exact decide_eq_false hc)) | (rw [Rst.viol,if_neg (by rw [hxx];decide)];first | exact decide_eq_false hc | (simp only [viol,htn];exact decide_eq_false hc)))
     ·exfalso;omega
    ·refine Run.seq (Run.region (Cx.Ok.rnd (cx_ok _ _ _)) (Reg.op rfl (Ope.lt rfl rfl ?_)))
     refine Reg.nil (Run.seq (Run.condX rfl (fun hc=>?_) fun hc=>?_))
     ·exfalso;omega
     ·refine Run.exit (Jmp.code (Jmp.round (Jmp.here (Run.bend (Run.done ⟨rfl,_,_,rfl,by omega,rfl,d.then x,by omega,⟨rfl,rfl,rfl,trivial⟩,?_⟩)))))
      refine ⟨hlt,Rid.ok_then hdo,?_,by rw [hI2,hxr,fault_no hk2,hdr]⟩
      have:=congrArg List.tail hI1
      rw [hxr] at this
      simpa [ridesV,hdr] using this
  ·refine Run.bend (Run.seq (Run.region (cx_ok _ _ _) (Reg.op rfl (Ope.load rfl rfl ?_))))
   refine Reg.op0 (Ope.store rfl rfl rfl rfl rfl rfl ?_)
   refine Reg.nil (Run.ret (Jmp.retS (fin_retD rfl (.cell rfl rfl .nil) rfl ?_)))
   first
     | have hfa := fault_at (rest := rest) hk2 (by first | (rw [Rst.viol, if_pos hxx]; first | exact decide_eq_true hc | (simp only [viol, htn]; exact decide_eq_true hc)) | (rw [Rst.viol, if_neg (by rw [hxx]; decide)]; first | exact decide_eq_true hc | (simp only [viol, htn]; exact decide_eq_true hc))) (by decide)
       rw [← hxr,← hI2] at hfa
       rw [hfa]
       rfl
     | obtain ⟨_, _, _, hI2⟩ := hI
       rw [ridesV_length,List.drop_length] at hI2
       rw [hI2]
       rfl
end Go.Pv
namespace Go.Pv
open Go.Proofs Go.Am
set_option maxRecDepth 10000
theorem d103n {n:Nat} {l:HL} {K:PH→Prop} (hK:K (HE n l)):PDefer A0 P0 103 [.ptr 1 0] (.lit .nilifc) (HE n l) K:=by
  refine PDefer.of (C:=c103) (fd:=Tryz.f103) (by kernel_rfl) rfl rfl rfl rfl rfl rfl rfl rfl rfl rfl ?_
  refine Run.block (Run.seq (Run.region (cx_ok _ _ _) ?_))
  first | refine Reg.op rfl (Ope.eq rfl rfl ?_) | refine Reg.op rfl (Ope.eqI rfl rfl ?_) | refine Reg.op rfl (Ope.eqN rfl rfl rfl ?_)
  refine Reg.nil (Run.condX rfl (fun hc=>?_) fun hc=>?_)
  ·refine Run.region (cx_ok _ _ _) (Reg.op rfl (Ope.asg rfl ?_))
   exact Reg.nil (Run.bend (Run.done ⟨.inl rfl,trivial,hK⟩))
  ·exact absurd hc (by decide)
theorem d103e {n:Nat} {l:HL} {K:PH→Prop} {k z:Int} (hz:hget l 1=some (.cells [I z])) (hK:K (HE n ((1,some (.cells [I k]))::l))):PDefer A0 P0 103 [.ptr 1 0] (.ifc 30 (I k)) (HE n l) K:=by
  refine PDefer.of (C:=c103) (fd:=Tryz.f103) (by kernel_rfl) rfl rfl rfl rfl rfl rfl rfl rfl rfl rfl ?_
  refine Run.block (Run.seq (Run.region (cx_ok _ _ _) ?_))
  first | refine Reg.op rfl (Ope.eq rfl rfl ?_) | refine Reg.op rfl (Ope.eqI rfl rfl ?_) | refine Reg.op rfl (Ope.eqN rfl rfl rfl ?_)
  refine Reg.nil (Run.condX rfl (fun hc=>?_) fun hc=>?_)
  ·exact absurd hc (by decide)
  ·refine Run.seq (Run.region (cx_ok _ _ _) ?_)
   first | refine Reg.op rfl (Ope.tasY rfl rfl ?_) | refine Reg.op rfl (Ope.tasN rfl rfl ?_)
   refine Reg.op rfl (Ope.ext rfl rfl ?_)
   refine Reg.op rfl (Ope.ext rfl rfl ?_)
   refine Reg.nil (Run.condX rfl (fun hc=>?_) fun hc=>?_)
   ·refine Run.seq (Run.region (cx_ok _ _ _) (Reg.op rfl (Ope.asg rfl ?_)))
    refine Reg.nil (Run.region (cx_ok _ _ _) (Reg.op rfl (Ope.mov rfl ?_)))
    refine Reg.op0 (Ope.store rfl rfl hz rfl rfl rfl ?_)
    exact Reg.nil (Run.bend (Run.done ⟨.inl rfl,trivial,hK⟩))
   ·exact absurd hc (by decide)
theorem f52ok {fa:Nat} {caps:List PV} {a b:Int} (hf:Fn P0 fa caps (.agg [I a,I b])) (hb:PV.bds 0 caps=true):Fn P0 52 [.fn (.func fa) [] caps] (.tup [.agg [I a,I b],I 0]):=by
  unfold Fn PFun
  show PCall P0 52 _ (HE 0 []) _ _
  refine PCall.ofT (C:=c52) (cx_ok _ _ _) (fn:=Tryz.f52) (by kernel_rfl) (c:=_) rfl rfl ?_
  refine Til.seq rfl rfl ?_
  refine Run.region (cx_ok _ _ _) ?_
  refine Reg.op rfl (Ope.newL rfl ?_)
  refine Reg.op rfl (Ope.newL rfl ?_)
  refine Reg.nil ?_
  refine Run.done ⟨rfl,rfl,?_⟩
  refine Til.defer (cx_ok _ _ _) rfl rfl (by kernel_rfl) [(2,.ptr 0 0),(3,.ptr 1 0)] rfl rfl rfl rfl rfl rfl rfl rfl (Ope.mkf rfl rfl ⟨rfl,rfl⟩) rfl rfl ⟨rfl,rfl,trivial⟩ ?_
  refine Reg.op rfl (Ope.mov rfl ?_)
  refine Reg.op rfl (Ope.cf rfl rfl (by simpa using hf) (by simpa using hb) ?_)
  refine Reg.op0 (Ope.store rfl rfl rfl rfl rfl rfl ?_)
  refine Reg.op0 (Ope.store rfl rfl rfl rfl rfl rfl ?_)
  refine Reg.nil ?_
  refine Run.done ⟨rfl,trivial,d103n ?_⟩
  exact ResE.ofF (.cell rfl rfl (.cell rfl rfl .nil)) rfl rfl
theorem f52er {fa:Nat} {caps:List PV} {k:Int} (hf:Pan P0 fa caps (.ifc 30 (I k))) (hb:PV.bds 0 caps=true):Fn P0 52 [.fn (.func fa) [] caps] (.tup [.agg [I 0,I 0],I k]):=by
  unfold Fn PFun
  show PCall P0 52 _ (HE 0 []) _ _
  refine PCall.ofT (C:=c52) (cx_ok _ _ _) (fn:=Tryz.f52) (by kernel_rfl) (c:=_) rfl rfl ?_
  refine Til.seq rfl rfl ?_
  refine Run.region (cx_ok _ _ _) ?_
  refine Reg.op rfl (Ope.newL rfl ?_)
  refine Reg.op rfl (Ope.newL rfl ?_)
  refine Reg.nil ?_
  refine Run.done ⟨rfl,rfl,?_⟩
  refine Til.defer (cx_ok _ _ _) rfl rfl (by kernel_rfl) [(2,.ptr 0 0),(3,.ptr 1 0)] rfl rfl rfl rfl rfl rfl rfl rfl (Ope.mkf rfl rfl ⟨rfl,rfl⟩) rfl rfl ⟨rfl,rfl,trivial⟩ ?_
  refine Reg.op rfl (Ope.mov rfl ?_)
  refine Reg.op rfl (Ope.cp rfl rfl (by simpa using hf) (by simpa using hb) ⟨trivial,d103e rfl ?_⟩)
  exact ResE.ofF (.cell rfl rfl (.cell rfl rfl .nil)) rfl rfl
theorem f55t' {b:Bool} (e:Int) (hb:b=true):Fn P0 55 [B b,I e] (.tup []):=by subst hb;exact f55t e
theorem f55f' {b:Bool} (e:Int) (hb:b=false):Pan P0 55 [B b,I e] (.ifc 30 (I e)):=by subst hb;exact f55f e
theorem f53a (h a0 b0 c0 d0 a1 b1 c1 d1:Int) (tl:Tail) (htl:tl.isOwn=false) (xs:List Int) (hv:validR h a0 b0 c0 d0 a1 b1 c1 d1=false) :
    Pan P0 53 [.fp (.agg [I h,I a0,I b0,I c0,I d0,I a1,I b1,I c1,I d1]),.fp (.sl tl (xs.map I))] (.ifc 30 (I 1)):=by
  refine PFun.of (C:=c53) (cx_ok _ _ _) rfl (fn:=Tryz.f53) (by kernel_rfl) (c:=_) rfl rfl rfl ?_
  refine Run.seq (Run.region (cx_ok _ _ _) (Reg.op rfl (Ope.newL rfl ?_)))
  refine Reg.nil (Run.seq (Run.region (cx_ok _ _ _) (Reg.op rfl (Ope.load rfl rfl ?_))))
  refine Reg.op rfl (Ope.cp rfl rfl (f54f _ _ _ _ _ _ _ _ _ hv) rfl (fin_panic rfl rfl))
theorem f53b (h a0 b0 c0 d0 a1 b1 c1 d1:Int) (tl:Tail) (htl:tl.isOwn=false) (xs:List Int) (hl:xs.length≤1000000) (hv:validR h a0 b0 c0 d0 a1 b1 c1 d1=true) (hp:planOk h xs=false) :
    Pan P0 53 [.fp (.agg [I h,I a0,I b0,I c0,I d0,I a1,I b1,I c1,I d1]),.fp (.sl tl (xs.map I))] (.ifc 30 (I 2)):=by
  refine PFun.of (C:=c53) (cx_ok _ _ _) rfl (fn:=Tryz.f53) (by kernel_rfl) (c:=_) rfl rfl rfl ?_
  refine Run.seq (Run.region (cx_ok _ _ _) (Reg.op rfl (Ope.newL rfl ?_)))
  refine Reg.nil (Run.seq (Run.region (cx_ok _ _ _) (Reg.op rfl (Ope.load rfl rfl ?_))))
  refine Reg.op rfl (Ope.cf rfl rfl (f54t _ _ _ _ _ _ _ _ _ hv) rfl ?_)
  refine Reg.op rfl (Ope.newL rfl ?_)
  refine Reg.op0 (Ope.store rfl rfl rfl rfl rfl rfl ?_)
  refine Reg.nil (Run.seq (Run.region (cx_ok _ _ _) (Reg.op rfl (Ope.load rfl rfl ?_))))
  refine Reg.op rfl (Ope.load rfl rfl ?_)
  refine Reg.op rfl (Ope.cf rfl rfl (f56 _ _ _ _ _ _ _ _ _ tl xs hl) (by simp only [List.nil_append,List.append_nil,PV.bds,bd_sl (f:=I) htl (fun _=>rfl) xs,Bool.and_true];rfl) ?_)
  refine Reg.op rfl (Ope.cp rfl rfl (f55f' _ hp) rfl (fin_panic rfl rfl))
theorem f53c (R:Rst) (hR:R.ok) (tl:Tail) (htl:tl.isOwn=false) (xs:List Int) (hx:∀ x∈xs,x=0∨x=1) (hl:xs.length≤16) (hv:validR R.m R.o0 R.t0 R.r0 R.f0 R.o1 R.t1 R.r1 R.f1=true) (hp:planOk R.m xs=true) (hf:0 < (faultV R zeroRid xs).2) :
    Fn P0 53 [.fp (.agg R.cells),.fp (.sl tl (xs.map I))] (.agg [I (faultV R zeroRid xs).1,I (faultV R zeroRid xs).2]):=by
  refine PFun.of (C:=c53) (cx_ok _ _ _) rfl (fn:=Tryz.f53) (by kernel_rfl) (c:=_) rfl rfl rfl ?_
  refine Run.seq (Run.region (cx_ok _ _ _) (Reg.op rfl (Ope.newL rfl ?_)))
  refine Reg.nil (Run.seq (Run.region (cx_ok _ _ _) (Reg.op rfl (Ope.load rfl rfl ?_))))
  refine Reg.op rfl (Ope.cf rfl rfl (f54t _ _ _ _ _ _ _ _ _ hv) rfl ?_)
  refine Reg.op rfl (Ope.newL rfl ?_)
  refine Reg.op0 (Ope.store rfl rfl rfl rfl rfl rfl ?_)
  refine Reg.nil (Run.seq (Run.region (cx_ok _ _ _) (Reg.op rfl (Ope.load rfl rfl ?_))))
  refine Reg.op rfl (Ope.load rfl rfl ?_)
  refine Reg.op rfl (Ope.cf rfl rfl (f56 _ _ _ _ _ _ _ _ _ tl xs (by omega)) (by simp only [List.nil_append,List.append_nil,PV.bds,bd_sl (f:=I) htl (fun _=>rfl) xs,Bool.and_true];rfl) ?_)
  refine Reg.op rfl (Ope.cf rfl rfl (f55t' _ hp) rfl ?_)
  refine Reg.nil (Run.seq (Run.region (cx_ok _ _ _) (Reg.op rfl (Ope.load rfl rfl ?_))))
  refine Reg.op rfl (Ope.load rfl rfl ?_)
  refine Reg.op rfl (Ope.cf rfl rfl (f57 R hR tl htl xs hx hl) (by simp only [List.nil_append,List.append_nil,PV.bds,bd_sl (f:=I) htl (fun _=>rfl) xs,Bool.and_true];rfl) ?_)
  refine Reg.op rfl (Ope.newL rfl ?_)
  refine Reg.op0 (Ope.store rfl rfl rfl rfl rfl rfl ?_)
  refine Reg.nil (Run.seq (Run.region (cx_ok _ _ _) (Reg.op rfl (Ope.fld rfl rfl ?_))))
  refine Reg.op rfl (Ope.load rfl rfl ?_)
  refine Reg.op rfl (Ope.gt rfl rfl ?_)
  refine Reg.op rfl (Ope.cf rfl rfl (f55t' _ (decide_eq_true hf)) rfl ?_)
  refine Reg.nil (Run.seq (Run.region (cx_ok _ _ _) (Reg.op rfl (Ope.load rfl rfl ?_))))
  refine Reg.op0 (Ope.store rfl rfl rfl rfl rfl rfl ?_)
  exact Reg.nil (Run.ret (fin_ret (.cell rfl rfl .nil) rfl rfl))
theorem f53d (R:Rst) (hR:R.ok) (tl:Tail) (htl:tl.isOwn=false) (xs:List Int) (hx:∀ x∈xs,x=0∨x=1) (hl:xs.length≤16) (hv:validR R.m R.o0 R.t0 R.r0 R.f0 R.o1 R.t1 R.r1 R.f1=true) (hp:planOk R.m xs=true) (hf:¬ 0 < (faultV R zeroRid xs).2) :
    Pan P0 53 [.fp (.agg R.cells),.fp (.sl tl (xs.map I))] (.ifc 30 (I 4)):=by
  refine PFun.of (C:=c53) (cx_ok _ _ _) rfl (fn:=Tryz.f53) (by kernel_rfl) (c:=_) rfl rfl rfl ?_
  refine Run.seq (Run.region (cx_ok _ _ _) (Reg.op rfl (Ope.newL rfl ?_)))
  refine Reg.nil (Run.seq (Run.region (cx_ok _ _ _) (Reg.op rfl (Ope.load rfl rfl ?_))))
  refine Reg.op rfl (Ope.cf rfl rfl (f54t _ _ _ _ _ _ _ _ _ hv) rfl ?_)
  refine Reg.op rfl (Ope.newL rfl ?_)
  refine Reg.op0 (Ope.store rfl rfl rfl rfl rfl rfl ?_)
  refine Reg.nil (Run.seq (Run.region (cx_ok _ _ _) (Reg.op rfl (Ope.load rfl rfl ?_))))
  refine Reg.op rfl (Ope.load rfl rfl ?_)
  refine Reg.op rfl (Ope.cf rfl rfl (f56 _ _ _ _ _ _ _ _ _ tl xs (by omega)) (by simp only [List.nil_append,List.append_nil,PV.bds,bd_sl (f:=I) htl (fun _=>rfl) xs,Bool.and_true];rfl) ?_)
  refine Reg.op rfl (Ope.cf rfl rfl (f55t' _ hp) rfl ?_)
  refine Reg.nil (Run.seq (Run.region (cx_ok _ _ _) (Reg.op rfl (Ope.load rfl rfl ?_))))
  refine Reg.op rfl (Ope.load rfl rfl ?_)
  refine Reg.op rfl (Ope.cf rfl rfl (f57 R hR tl htl xs hx hl) (by simp only [List.nil_append,List.append_nil,PV.bds,bd_sl (f:=I) htl (fun _=>rfl) xs,Bool.and_true];rfl) ?_)
  refine Reg.op rfl (Ope.newL rfl ?_)
  refine Reg.op0 (Ope.store rfl rfl rfl rfl rfl rfl ?_)
  refine Reg.nil (Run.seq (Run.region (cx_ok _ _ _) (Reg.op rfl (Ope.fld rfl rfl ?_))))
  refine Reg.op rfl (Ope.load rfl rfl ?_)
  refine Reg.op rfl (Ope.gt rfl rfl ?_)
  refine Reg.op rfl (Ope.cp rfl rfl (f55f' _ (decide_eq_false hf)) rfl (fin_panic rfl rfl))
end Go.Pv
namespace Go.Pv
open Go.Proofs Go.Am
set_option maxRecDepth 10000
theorem f16 (h a0 b0 c0 d0 a1 b1 c1 d1:Int) (tl:Tail) (htl:tl.isOwn=false) (xs:List Int) (a b e:Int)
    (H:Fn P0 52 [.fn (.func 53) [] [.fp (.agg [I h,I a0,I b0,I c0,I d0,I a1,I b1,I c1,I d1]),.fp (.sl tl (xs.map I))]] (.tup [.agg [I a,I b],I e])) :
    Fn P0 16 [.agg [I h,I a0,I b0,I c0,I d0,I a1,I b1,I c1,I d1],.sl tl (xs.map I)] (.tup [I a,I b,I e]):=by
  refine PFun.of (C:=c16) (cx_ok _ _ _) rfl (fn:=Tryz.f16) (by kernel_rfl) (c:=_) rfl rfl rfl ?_
  refine Run.seq (Run.region (cx_ok _ _ _) (Reg.op rfl (Ope.boxF rfl rfl ?_)))
  refine Reg.op rfl (Ope.boxF rfl rfl ?_)
  refine Reg.op rfl (Ope.asg rfl ?_)
  refine Reg.op rfl (Ope.asg rfl ?_)
  refine Reg.op rfl (Ope.asg rfl ?_)
  refine Reg.nil (Run.seq (Run.region (cx_ok _ _ _) (Reg.op rfl (Ope.mkf rfl rfl ?_))))
  refine Reg.op rfl (Ope.cf rfl rfl H (by simp only [List.nil_append,List.append_nil,PV.bds,PV.bd,bd_sl (f:=I) htl (fun _=>rfl) xs,Bool.and_true]) ?_)
  refine Reg.op rfl (Ope.mov rfl ?_)
  refine Reg.op rfl (Ope.ext rfl rfl ?_)
  refine Reg.op rfl (Ope.ext rfl rfl ?_)
  refine Reg.op rfl (Ope.newL rfl ?_)
  refine Reg.op0 (Ope.store rfl rfl rfl rfl rfl rfl ?_)
  refine Reg.op rfl (Ope.asg rfl ?_)
  refine Reg.nil (Run.seq (Run.draw (cx_ok _ _ _) [(0,true),(1,true),(2,true),(3,true),(4,true),(5,true),(6,true),(7,true)] (by kernel_rfl) (Dra.op' rfl rfl rfl .sure (Ope.fld rfl rfl ?_))))
  refine Dra.op' rfl rfl rfl .sure (Ope.load rfl rfl ?_)
  refine Dra.op' rfl rfl rfl .sure (Ope.fld rfl rfl ?_)
  refine Dra.op' rfl rfl rfl .sure (Ope.load rfl rfl ?_)
  refine Dra.op' rfl rfl rfl .sure (Ope.mov rfl ?_)
  refine Dra.op' rfl rfl rfl .sure (Ope.asg rfl ?_)
  refine Dra.op' rfl rfl rfl .sure (Ope.asg rfl ?_)
  refine Dra.op' rfl rfl rfl .sure (Ope.asg rfl ?_)
  refine Dra.nil (Run.ret (fin_ret (.tmp rfl (.tmp rfl (.tmp rfl .nil))) rfl ?_))
  rfl
def rstOf (h a0 b0 c0 d0 a1 b1 c1 d1:Int):Rst:=⟨h.toNat,a0.toNat,b0,c0,d0,a1.toNat,b1,c1,d1⟩
theorem rstOf_ok {h a0 b0 c0 d0 a1 b1 c1 d1:Int} (hv:validR h a0 b0 c0 d0 a1 b1 c1 d1=true):(rstOf h a0 b0 c0 d0 a1 b1 c1 d1).ok∧(h=(h.toNat:Int)∧a0=(a0.toNat:Int)∧a1=(a1.toNat:Int))∧h.toNat≤16:=by
  simp only [validR,limOk,manyOk,Bool.and_eq_true,decide_eq_true_eq] at hv
  obtain ⟨⟨h1,h2⟩,⟨⟨p1,p2⟩,⟨p3,p4⟩,⟨p5,p6⟩,p7,p8⟩,⟨q1,q2⟩,⟨q3,q4⟩,⟨q5,q6⟩,q7,q8⟩:=hv
  have hp:2 ^ h.toNat≤65536:=pow16 (by omega)
  have hp2:((2 ^ h.toNat:Nat):Int)≤65536:=Int.ofNat_le.2 hp
  refine ⟨⟨by show h.toNat≤16;omega,by show a0.toNat < 2 ^ 62;omega,by show a1.toNat < 2 ^ 62;omega,⟨p3,p4⟩,⟨p5,p6⟩,⟨p7,p8⟩,⟨q3,q4⟩,⟨q5,q6⟩,q7,q8⟩,by omega,by omega⟩
def checkV (h a0 b0 c0 d0 a1 b1 c1 d1 : Int) (xs : List Int) : Int × Int × Int :=
  if validR h a0 b0 c0 d0 a1 b1 c1 d1=true then
    if planOk h xs=true then
      if 0 < (faultV (rstOf h a0 b0 c0 d0 a1 b1 c1 d1) zeroRid xs).2 then ((faultV (rstOf h a0 b0 c0 d0 a1 b1 c1 d1) zeroRid xs).1,(faultV (rstOf h a0 b0 c0 d0 a1 b1 c1 d1) zeroRid xs).2,0)
      else (0,0,4)
    else (0,0,2)
  else (0,0,1)
theorem planOk_iff {h:Int} {xs:List Int}:planOk h xs=true↔(∀ x∈xs,x=0∨x=1)∧(xs.length:Int)=h:=by
  simp [planOk]
theorem check (h a0 b0 c0 d0 a1 b1 c1 d1 : Int) (tl : Tail) (htl : tl.isOwn = false) (xs : List Int) (hl : xs.length ≤ 1000000) :
    Fn P0 16 [.agg [I h,I a0,I b0,I c0,I d0,I a1,I b1,I c1,I d1],.sl tl (xs.map I)] (.tup [I (checkV h a0 b0 c0 d0 a1 b1 c1 d1 xs).1,I (checkV h a0 b0 c0 d0 a1 b1 c1 d1 xs).2.1,I (checkV h a0 b0 c0 d0 a1 b1 c1 d1 xs).2.2]):=by
  have hb:PV.bds 0 [.fp (.agg [I h,I a0,I b0,I c0,I d0,I a1,I b1,I c1,I d1]),.fp (.sl tl (xs.map I))]=true:=by
    simp only [PV.bds,PV.bd,bd_sl (f:=I) htl (fun _=>rfl) xs,Bool.and_true]
  refine f16 _ _ _ _ _ _ _ _ _ tl htl xs _ _ _ ?_
  unfold checkV
  by_cases hv:validR h a0 b0 c0 d0 a1 b1 c1 d1=true
  · rw [if_pos hv]
    obtain ⟨hok,⟨e1,e2,e3⟩,h16⟩:=rstOf_ok hv
    by_cases hp:planOk h xs=true
    · rw [if_pos hp]
      obtain ⟨hx,hlen⟩:=planOk_iff.1 hp
      have hv':validR (rstOf h a0 b0 c0 d0 a1 b1 c1 d1).m (rstOf h a0 b0 c0 d0 a1 b1 c1 d1).o0 b0 c0 d0 (rstOf h a0 b0 c0 d0 a1 b1 c1 d1).o1 b1 c1 d1=true:=by
        show validR (h.toNat:Int) (a0.toNat:Int) b0 c0 d0 (a1.toNat:Int) b1 c1 d1=true
        rw [← e1,← e2,← e3]
        exact hv
      have hp':planOk (rstOf h a0 b0 c0 d0 a1 b1 c1 d1).m xs=true:=by
        show planOk (h.toNat:Int) xs=true
        rw [← e1]
        exact hp
      have hcells:(rstOf h a0 b0 c0 d0 a1 b1 c1 d1).cells=[I h,I a0,I b0,I c0,I d0,I a1,I b1,I c1,I d1]:=by
        show [I (h.toNat:Int),I (a0.toNat:Int),I b0,I c0,I d0,I (a1.toNat:Int),I b1,I c1,I d1]=_
        rw [← e1,← e2,← e3]
      by_cases hf:0 < (faultV (rstOf h a0 b0 c0 d0 a1 b1 c1 d1) zeroRid xs).2
      · rw [if_pos hf]
        have:=f53c _ hok tl htl xs hx (by omega) hv' hp' hf
        rw [hcells] at this
        exact f52ok this hb
      · rw [if_neg hf]
        have:=f53d _ hok tl htl xs hx (by omega) hv' hp' hf
        rw [hcells] at this
        exact f52er this hb
    · rw [if_neg hp]
      exact f52er (f53b _ _ _ _ _ _ _ _ _ tl htl xs hl hv (by simpa using hp)) hb
  · rw [if_neg hv]
    exact f52er (f53a _ _ _ _ _ _ _ _ _ tl htl xs (by simpa using hv)) hb
end Go.Pv
