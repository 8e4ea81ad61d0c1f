/- Parts of the proof: R79, R80, R81, R82, R83, R84 -/
import Derived.Test.YtejnfigkngkhjaaP17
set_option linter.unusedVariables false
set_option linter.unusedSimpArgs false
set_option linter.unusedSectionVars false
namespace Go.Pv
open Go.Proofs Go.Am
set_option maxRecDepth 10000
def relOk (rest:Int) (S:List Sti):Bool:=(decide (0≤rest) && decide (rest≤60)) && (decide (S.length≤5) && S.all Sti.ok)
theorem relOk_no {rest:Int} {S:List Sti} (h:rest < 0∨60 < rest∨5 < S.length):relOk rest S=false:=by
  unfold relOk
  rcases h with h | h | h
  · rw [decide_eq_false (show ¬ 0≤rest by omega)];rfl
  · rw [decide_eq_false (show ¬ rest≤60 by omega),Bool.and_false];rfl
  · rw [decide_eq_false (show ¬ S.length≤5 by omega),Bool.false_and,Bool.and_false]
theorem relOk_bad {rest:Int} {S:List Sti} {i:Nat} (hi:i < S.length) (h:S[i].ok=false):relOk rest S=false:=by
  have:S.all Sti.ok=false:=by
    cases ha:S.all Sti.ok with
    | false=>rfl
    | true =>
      have:=List.all_eq_true.1 ha _ (List.getElem_mem hi)
      rw [h] at this;cases this
  unfold relOk
  rw [this,Bool.and_false,Bool.and_false]
theorem relOk_yes {rest:Int} {S:List Sti} (h0:0≤rest) (h1:rest≤60) (h2:S.length≤5) (h:∀ i (hi:i < S.length),S[i].ok=true):relOk rest S=true:=by
  have:S.all Sti.ok=true:=List.all_eq_true.2 fun s hs=>by
    obtain ⟨i,hi,rfl⟩:=List.getElem_of_mem hs
    exact h i hi
  unfold relOk
  rw [this,decide_eq_true h0,decide_eq_true h1,decide_eq_true h2];rfl
theorem relOk_of {rest:Int} {S:List Sti} (h:relOk rest S=true):(0≤rest∧rest≤60)∧S.length≤5∧∀ s∈S,s.ok=true:=by
  unfold relOk at h
  simp only [Bool.and_eq_true,decide_eq_true_eq,List.all_eq_true] at h
  exact ⟨h.1,h.2.1,h.2.2⟩
theorem sti_bad0 {s:Sti} (h1:¬ s.r=0) (h2:¬ s.r=1):s.ok=false:=by simp [Sti.ok,h1,h2]
theorem sti_bad1 {s:Sti} (h:s.j0=false∨s.j1=false):s.ok=false:=by rcases h with h | h<;>simp [Sti.ok,h]
theorem f83 (rest : Int) (tl : Tail) (S : List Sti) (hS : S.length ≤ 1000000) : Fn P0 83 [relV rest tl S] (B (relOk rest S)) := by
  refine PFun.of (C:=c83) (cx_ok _ _ _) rfl (fn:=Try.f83) (by kernel_rfl) (c:=_) rfl rfl rfl ?_
  refine Run.seq (Run.region (cx_ok _ _ _) (Reg.op rfl (Ope.boxF rfl rfl ?_)))
  refine Reg.op rfl (Ope.asg rfl ?_)
  refine Reg.nil (Run.seq (Run.seq (Run.region (cx_ok _ _ _) (Reg.op rfl (Ope.fld rfl rfl ?_)))))
  refine Reg.op rfl (Ope.load rfl rfl ?_)
  refine Reg.op rfl (Ope.lt rfl rfl ?_)
  refine Reg.op rfl (Ope.mov rfl ?_)
  refine Reg.splitX rfl rfl (fun hg=>?_) fun hg=>?_
  ·first
   |(first | (exfalso;omega))
   |refine Reg.off rfl rfl rfl (Reg.off rfl rfl rfl (Reg.off rfl rfl rfl (Reg.op rfl (Ope.pickT rfl rfl ?_))))
    refine Reg.op rfl (Ope.mov rfl ?_)
    refine Reg.off rfl rfl rfl (Reg.off rfl rfl rfl (Reg.off rfl rfl rfl (Reg.off rfl rfl rfl (Reg.op rfl (Ope.pickT rfl rfl ?_)))))
    refine Reg.nil (Run.condT rfl (Run.seq (Run.region (cx_ok _ _ _) (Reg.op rfl (Ope.asg rfl ?_)))))
    refine Reg.nil (Run.ret (Jmp.code (fin_ret (.tmp rfl .nil) rfl ?_)))
    first
    | (rw [relOk_no (by omega)];rfl)
    | (rw [relOk_bad hlt (sti_bad0 (by omega) (by omega))];rfl)
    | (rw [relOk_bad hlt (sti_bad1 (by simp only [Sti.j0,Sti.j1];simp [*]))];rfl)
    | (rw [relOk_yes (by omega) (by omega) (by omega) (fun k hk=>hall k hk (by omega))];rfl)
  ·first
   |(first | (exfalso;omega))
   |refine Reg.on rfl rfl rfl (Ope.fld rfl rfl ?_)
    refine Reg.on rfl rfl rfl (Ope.load rfl rfl ?_)
    refine Reg.on rfl rfl rfl (Ope.gt rfl rfl ?_)
    refine Reg.op rfl (Ope.pickF rfl rfl ?_)
    refine Reg.op rfl (Ope.mov rfl ?_)
    refine Reg.splitX rfl rfl (fun hg=>?_) fun hg=>?_
    ·first
     |(first | (exfalso;omega))
     |refine Reg.off rfl rfl rfl (Reg.off rfl rfl rfl (Reg.off rfl rfl rfl (Reg.off rfl rfl rfl (Reg.op rfl (Ope.pickT rfl rfl ?_)))))
      refine Reg.nil (Run.condT rfl (Run.seq (Run.region (cx_ok _ _ _) (Reg.op rfl (Ope.asg rfl ?_)))))
      refine Reg.nil (Run.ret (Jmp.code (fin_ret (.tmp rfl .nil) rfl ?_)))
      first
      | (rw [relOk_no (by omega)];rfl)
      | (rw [relOk_bad hlt (sti_bad0 (by omega) (by omega))];rfl)
      | (rw [relOk_bad hlt (sti_bad1 (by simp only [Sti.j0,Sti.j1];simp [*]))];rfl)
      | (rw [relOk_yes (by omega) (by omega) (by omega) (fun k hk=>hall k hk (by omega))];rfl)
    ·first
     |(first | (exfalso;omega))
     |refine Reg.on rfl rfl rfl (Ope.fld rfl rfl ?_)
      refine Reg.on rfl rfl rfl (Ope.load rfl rfl ?_)
      first | refine Reg.on rfl rfl rfl (Ope.len rfl (List.length_map _) ?_) | refine Reg.on rfl rfl rfl (Ope.len rfl rfl ?_) | refine Reg.on rfl rfl rfl (Ope.lenL rfl ?_)
      refine Reg.on rfl rfl rfl (Ope.gt rfl rfl ?_)
      refine Reg.op rfl (Ope.pickF rfl rfl ?_)
      refine Reg.nil (Run.condX rfl (fun hc=>?_) fun hc=>?_)
      ·first
       |(first | (exfalso;omega))
       |refine Run.seq (Run.region (cx_ok _ _ _) (Reg.op rfl (Ope.asg rfl ?_)))
        refine Reg.nil (Run.ret (Jmp.code (fin_ret (.tmp rfl .nil) rfl ?_)))
        first
        | (rw [relOk_no (by omega)];rfl)
        | (rw [relOk_bad hlt (sti_bad0 (by omega) (by omega))];rfl)
        | (rw [relOk_bad hlt (sti_bad1 (by simp only [Sti.j0,Sti.j1];simp [*]))];rfl)
        | (rw [relOk_yes (by omega) (by omega) (by omega) (fun k hk=>hall k hk (by omega))];rfl)
      ·first
       |(first | (exfalso;omega))
       |refine Run.skip (Run.seq (Run.seq (Run.region (cx_ok _ _ _) (Reg.op rfl (Ope.fld rfl rfl ?_)))))
        refine Reg.op rfl (Ope.load rfl rfl ?_)
        refine Reg.op rfl (Ope.len (m:=S.length) rfl (by simp) ?_)
        refine Reg.op rfl (Ope.mov rfl ?_)
        refine Reg.nil (Run.block (Run.loop (α:=Nat×Nat) (fun s=>[(21,.sl tl (S.map Sti.v)),(22,I S.length),(23,I s.1)]) (fun s=>HE s.2 []) (fun s=>s.1≤S.length∧∀ k (hk:k < S.length),k < s.1→S[k].ok=true) (fun s=>S.length - s.1) (0,0) ⟨rfl,rfl,rfl,trivial⟩ rfl ⟨Nat.zero_le _,fun k hk hk0=>absurd hk0 (Nat.not_lt_zero _)⟩ (fun s hs=>?_)))
        obtain ⟨i,m⟩:=s
        obtain ⟨hi,hall⟩:=hs
        simp only at hi hall
        refine Run.seq (Run.region (cx_ok _ _ _) (Reg.op rfl (Ope.lt rfl rfl ?_)))
        refine Reg.nil (Run.seq (Run.condX rfl (fun hc=>?_) fun hc=>?_))
        ·first
         |(first | (exfalso;omega))
         |refine Run.skip (Run.seq (Run.block (Run.seq ?_)))
          have hlt:i < S.length:=by omega
          have g00:=f58 S[i].a S[i].b
          have g01:=f58 S[i].e S[i].f
          have g10:=f58 S[i].c S[i].d
          have g11:=f58 S[i].g S[i].h
          refine Run.region (cx_ok _ _ _) (Reg.op rfl (Ope.idxM (m:=i) (f:=Sti.v) rfl rfl rfl hlt (fun _=>rfl) ?_))
          refine Reg.op rfl (Ope.load rfl rfl ?_)
          refine Reg.op rfl (Ope.newL rfl ?_)
          refine Reg.op0 (Ope.store rfl rfl hget_hd rfl rfl rfl ?_)
          refine Reg.nil (Run.seq (Run.seq (Run.frz (d:=4) true rfl hget_hd rfl ?_)))
          refine Run.wide (m:=m+1) (l':=[]) (Nat.le_refl _) trivial ?_
          refine Run.region (cx_ok _ _ _) (Reg.op rfl (Ope.fld rfl rfl ?_))
          refine Reg.op rfl (Ope.load rfl rfl ?_)
          refine Reg.op rfl (Ope.ne rfl rfl ?_)
          refine Reg.op rfl (Ope.mov rfl ?_)
          refine Reg.splitX rfl rfl (fun hg=>?_) fun hg=>?_
          ·first
           |(first | (exfalso;omega))
           |refine Reg.on rfl rfl rfl (Ope.fld rfl rfl ?_)
            refine Reg.on rfl rfl rfl (Ope.load rfl rfl ?_)
            refine Reg.on rfl rfl rfl (Ope.ne rfl rfl ?_)
            refine Reg.op rfl (Ope.pickT rfl rfl ?_)
            refine Reg.nil (Run.condX rfl (fun hc=>?_) fun hc=>?_)
            ·first
             |(first | (exfalso;omega))
             |refine Run.seq (Run.region (cx_ok _ _ _) (Reg.op rfl (Ope.asg rfl ?_)))
              refine Reg.nil (Run.ret (Jmp.code (Jmp.retB (Jmp.code (Jmp.round (Jmp.retB (Jmp.code (fin_ret (.tmp rfl .nil) rfl ?_))))))))
              first
              | (rw [relOk_no (by omega)];rfl)
              | (rw [relOk_bad hlt (sti_bad0 (by omega) (by omega))];rfl)
              | (rw [relOk_bad hlt (sti_bad1 (by simp only [Sti.j0,Sti.j1];simp [*]))];rfl)
              | (rw [relOk_yes (by omega) (by omega) (by omega) (fun k hk=>hall k hk (by omega))];rfl)
            ·first
             |(first | (exfalso;omega))
             |refine Run.skip (Run.seq (Run.region (cx_ok _ _ _) (Reg.op rfl (Ope.mov rfl ?_))))
              refine Reg.nil (Run.block ?_)
              have hr01:S[i].r=0∨S[i].r=1:=by omega
              refine Run.loop (α:=Nat) (fun j=>[(21,.sl tl (S.map Sti.v)),(22,I S.length),(23,I i),(4,.fp S[i].v),(35,I j)]) (fun _=>HE (m+1) []) (fun j=>j≤2∧(1≤j→S[i].j0=true)∧(2≤j→S[i].j1=true)) (fun j=>2 - j) 0 ⟨rfl,rfl,rfl,rfl,rfl,trivial⟩ rfl ⟨Nat.zero_le _,fun h=>absurd h (by decide),fun h=>absurd h (by decide)⟩ (fun j hj=>?_)
              obtain ⟨hj,hj0,hj1⟩:=hj
              rcases (by omega:j=0∨j=1∨j=2) with rfl | rfl | rfl
              ·refine Run.seq (Run.region (cx_ok _ _ _) (Reg.op rfl (Ope.lt rfl rfl ?_)))
               refine Reg.nil (Run.seq (Run.condX rfl (fun hc=>?_) fun hc=>?_))
               ·first
                |(first | (exfalso;omega))
                |refine Run.skip (Run.seq (Run.block (Run.seq (Run.region (cx_ok _ _ _) (Reg.op rfl (Ope.mov rfl ?_))))))
                 refine Reg.op rfl (Ope.asg rfl ?_)
                 refine Reg.nil (Run.seq (Run.draw (cx_ok _ _ _) [(0,true),(1,true),(2,true),(3,true),(4,true),(5,true),(6,true),(7,true),(8,true),(9,true),(10,true),(11,true),(12,true),(13,true),(14,true),(15,true),(16,true),(17,true),(18,true),(19,true),(20,true),(21,true),(22,true),(23,true),(24,true),(25,true)] (by kernel_rfl) (Dra.op' rfl rfl rfl .sure (Ope.mov rfl ?_))))
                 refine Dra.op' rfl rfl rfl .sure (Ope.fld rfl rfl ?_)
                 refine Dra.op' rfl rfl rfl .sure (Ope.idxA rfl rfl rfl rfl ?_)
                 refine Dra.op' rfl rfl rfl .sure (Ope.fld rfl rfl ?_)
                 refine Dra.op' rfl rfl rfl .sure (Ope.load rfl rfl ?_)
                 refine Dra.op' rfl rfl rfl .sure (Ope.mov rfl ?_)
                 refine Dra.op' rfl rfl rfl .sure (Ope.fld rfl rfl ?_)
                 refine Dra.op' rfl rfl rfl .sure (Ope.idxA rfl rfl rfl rfl ?_)
                 refine Dra.op' rfl rfl rfl .sure (Ope.fld rfl rfl ?_)
                 refine Dra.op' rfl rfl rfl .sure (Ope.load rfl rfl ?_)
                 first | refine Dra.op' rfl rfl rfl .sure (Ope.cf rfl rfl (g00) rfl ?_) | refine Dra.op' rfl rfl rfl .sure (Ope.cf rfl rfl (g10) rfl ?_)
                 refine Dra.op' rfl rfl rfl .sure (Ope.not rfl ?_)
                 refine Dra.op' rfl rfl rfl .sure (Ope.mov rfl ?_)
                 refine Dra.splitX rfl rfl rfl rfl (fun hg=>?_) fun hg=>?_
                 ·first
                  |(first | (exfalso;omega))
                  |refine Dra.off' rfl rfl rfl (.inl rfl) rfl (Dra.off' rfl rfl rfl (.inl rfl) rfl (Dra.off' rfl rfl rfl (.inl rfl) rfl (Dra.off' rfl rfl rfl (.inl rfl) rfl (Dra.off' rfl rfl rfl (.inl rfl) rfl (Dra.off' rfl rfl rfl (.inl rfl) rfl (Dra.off' rfl rfl rfl (.inl rfl) rfl (Dra.off' rfl rfl rfl (.inl rfl) rfl (Dra.off' rfl rfl rfl (.inl rfl) rfl (Dra.off' rfl rfl rfl (.inl rfl) rfl (Dra.off' rfl rfl rfl (.inl rfl) rfl (Dra.off' rfl rfl rfl (.inl rfl) rfl (Dra.op' rfl rfl rfl .sure (Ope.pickT rfl rfl ?_)))))))))))))
                   refine Dra.nil (Run.condT rfl (Run.seq (Run.region (cx_ok _ _ _) (Reg.op rfl (Ope.asg rfl ?_)))))
                   refine Reg.nil (Run.ret (Jmp.retB (Jmp.code (Jmp.round (Jmp.retB (Jmp.retB (Jmp.code (Jmp.round (Jmp.retB (Jmp.code (fin_ret (.tmp rfl .nil) rfl ?_)))))))))))
                   first
                   | (rw [relOk_no (by omega)];rfl)
                   | (rw [relOk_bad hlt (sti_bad0 (by omega) (by omega))];rfl)
                   | (rw [relOk_bad hlt (sti_bad1 (by simp only [Sti.j0,Sti.j1];simp [*]))];rfl)
                   | (rw [relOk_yes (by omega) (by omega) (by omega) (fun k hk=>hall k hk (by omega))];rfl)
                 ·first
                  |(first | (exfalso;omega))
                  |refine Dra.on' rfl rfl rfl rfl rfl .sure (Ope.mov rfl ?_)
                   refine Dra.on' rfl rfl rfl rfl rfl .sure (Ope.fld rfl rfl ?_)
                   refine Dra.on' rfl rfl rfl rfl rfl .sure (Ope.idxA rfl rfl rfl rfl ?_)
                   refine Dra.on' rfl rfl rfl rfl rfl .sure (Ope.fld rfl rfl ?_)
                   refine Dra.on' rfl rfl rfl rfl rfl .sure (Ope.load rfl rfl ?_)
                   refine Dra.on' rfl rfl rfl rfl rfl .sure (Ope.mov rfl ?_)
                   refine Dra.on' rfl rfl rfl rfl rfl .sure (Ope.fld rfl rfl ?_)
                   refine Dra.on' rfl rfl rfl rfl rfl .sure (Ope.idxA rfl rfl rfl rfl ?_)
                   refine Dra.on' rfl rfl rfl rfl rfl .sure (Ope.fld rfl rfl ?_)
                   refine Dra.on' rfl rfl rfl rfl rfl .sure (Ope.load rfl rfl ?_)
                   first | refine Dra.on' rfl rfl rfl rfl rfl .sure (Ope.cf rfl rfl (g01) rfl ?_) | refine Dra.on' rfl rfl rfl rfl rfl .sure (Ope.cf rfl rfl (g11) rfl ?_)
                   refine Dra.on' rfl rfl rfl rfl rfl .sure (Ope.not rfl ?_)
                   refine Dra.op' rfl rfl rfl .sure (Ope.pickF rfl rfl ?_)
                   refine Dra.nil (Run.condX rfl (fun hc=>?_) fun hc=>?_)
                   ·first
                    |(first | (exfalso;omega))
                    |refine Run.seq (Run.region (cx_ok _ _ _) (Reg.op rfl (Ope.asg rfl ?_)))
                     refine Reg.nil (Run.ret (Jmp.retB (Jmp.code (Jmp.round (Jmp.retB (Jmp.retB (Jmp.code (Jmp.round (Jmp.retB (Jmp.code (fin_ret (.tmp rfl .nil) rfl ?_)))))))))))
                     first
                     | (rw [relOk_no (by omega)];rfl)
                     | (rw [relOk_bad hlt (sti_bad0 (by omega) (by omega))];rfl)
                     | (rw [relOk_bad hlt (sti_bad1 (by simp only [Sti.j0,Sti.j1];simp [*]))];rfl)
                     | (rw [relOk_yes (by omega) (by omega) (by omega) (fun k hk=>hall k hk (by omega))];rfl)
                   ·first
                    |(first | (exfalso;omega))
                    |refine Run.skip (Run.bend (Run.region (cx_ok _ _ _) (Reg.op rfl (Ope.add rfl rfl (by omega) ?_))))
                     refine Reg.op rfl (Ope.mov rfl ?_)
                     refine Reg.nil ?_
                     first
                       | exact Run.lend ⟨1,by decide,⟨by decide,fun _=>(by simp only [Sti.j0,Bool.and_eq_true];exact ⟨hg,hc⟩),fun h=>absurd h (by decide)⟩,⟨rfl,rfl,rfl,rfl,rfl,trivial⟩,rfl,rfl⟩
                       | exact Run.lend ⟨2,by decide,⟨by decide,fun _=>hj0 (by decide),fun _=>(by simp only [Sti.j1,Bool.and_eq_true];exact ⟨hg,hc⟩)⟩,⟨rfl,rfl,rfl,rfl,rfl,trivial⟩,rfl,rfl⟩
               ·first
                |(first | (exfalso;omega))
                |refine Run.exit (Jmp.code (Jmp.round (Jmp.here (Run.bend (Run.region (cx_ok _ _ _) (Reg.op rfl (Ope.add rfl rfl (by omega) ?_)))))))
                 refine Reg.op rfl (Ope.mov rfl ?_)
                 refine Reg.nil ?_
                 exact Run.lend ⟨(i+1,m+1),by show S.length - (i+1) < S.length - i;omega,⟨by show i+1≤S.length;omega,fun k hk hk1=>by
                   by_cases hki:k < i
                   · exact hall k hk hki
                   · obtain rfl : k = i := by simp only at hk1; omega
                     have h0:=hj0 (by decide)
                     have h1:=hj1 (by decide)
                     rcases hr01 with h | h<;>simp [Sti.ok,h,h0,h1]⟩,⟨rfl,rfl,rfl,trivial⟩,rfl,rfl⟩
              ·refine Run.seq (Run.region (cx_ok _ _ _) (Reg.op rfl (Ope.lt rfl rfl ?_)))
               refine Reg.nil (Run.seq (Run.condX rfl (fun hc=>?_) fun hc=>?_))
               ·first
                |(first | (exfalso;omega))
                |refine Run.skip (Run.seq (Run.block (Run.seq (Run.region (cx_ok _ _ _) (Reg.op rfl (Ope.mov rfl ?_))))))
                 refine Reg.op rfl (Ope.asg rfl ?_)
                 refine Reg.nil (Run.seq (Run.draw (cx_ok _ _ _) [(0,true),(1,true),(2,true),(3,true),(4,true),(5,true),(6,true),(7,true),(8,true),(9,true),(10,true),(11,true),(12,true),(13,true),(14,true),(15,true),(16,true),(17,true),(18,true),(19,true),(20,true),(21,true),(22,true),(23,true),(24,true),(25,true)] (by kernel_rfl) (Dra.op' rfl rfl rfl .sure (Ope.mov rfl ?_))))
                 refine Dra.op' rfl rfl rfl .sure (Ope.fld rfl rfl ?_)
                 refine Dra.op' rfl rfl rfl .sure (Ope.idxA rfl rfl rfl rfl ?_)
                 refine Dra.op' rfl rfl rfl .sure (Ope.fld rfl rfl ?_)
                 refine Dra.op' rfl rfl rfl .sure (Ope.load rfl rfl ?_)
                 refine Dra.op' rfl rfl rfl .sure (Ope.mov rfl ?_)
                 refine Dra.op' rfl rfl rfl .sure (Ope.fld rfl rfl ?_)
                 refine Dra.op' rfl rfl rfl .sure (Ope.idxA rfl rfl rfl rfl ?_)
                 refine Dra.op' rfl rfl rfl .sure (Ope.fld rfl rfl ?_)
                 refine Dra.op' rfl rfl rfl .sure (Ope.load rfl rfl ?_)
                 first | refine Dra.op' rfl rfl rfl .sure (Ope.cf rfl rfl (g00) rfl ?_) | refine Dra.op' rfl rfl rfl .sure (Ope.cf rfl rfl (g10) rfl ?_)
                 refine Dra.op' rfl rfl rfl .sure (Ope.not rfl ?_)
                 refine Dra.op' rfl rfl rfl .sure (Ope.mov rfl ?_)
                 refine Dra.splitX rfl rfl rfl rfl (fun hg=>?_) fun hg=>?_
                 ·first
                  |(first | (exfalso;omega))
                  |refine Dra.off' rfl rfl rfl (.inl rfl) rfl (Dra.off' rfl rfl rfl (.inl rfl) rfl (Dra.off' rfl rfl rfl (.inl rfl) rfl (Dra.off' rfl rfl rfl (.inl rfl) rfl (Dra.off' rfl rfl rfl (.inl rfl) rfl (Dra.off' rfl rfl rfl (.inl rfl) rfl (Dra.off' rfl rfl rfl (.inl rfl) rfl (Dra.off' rfl rfl rfl (.inl rfl) rfl (Dra.off' rfl rfl rfl (.inl rfl) rfl (Dra.off' rfl rfl rfl (.inl rfl) rfl (Dra.off' rfl rfl rfl (.inl rfl) rfl (Dra.off' rfl rfl rfl (.inl rfl) rfl (Dra.op' rfl rfl rfl .sure (Ope.pickT rfl rfl ?_)))))))))))))
                   refine Dra.nil (Run.condT rfl (Run.seq (Run.region (cx_ok _ _ _) (Reg.op rfl (Ope.asg rfl ?_)))))
                   refine Reg.nil (Run.ret (Jmp.retB (Jmp.code (Jmp.round (Jmp.retB (Jmp.retB (Jmp.code (Jmp.round (Jmp.retB (Jmp.code (fin_ret (.tmp rfl .nil) rfl ?_)))))))))))
                   first
                   | (rw [relOk_no (by omega)];rfl)
                   | (rw [relOk_bad hlt (sti_bad0 (by omega) (by omega))];rfl)
                   | (rw [relOk_bad hlt (sti_bad1 (by simp only [Sti.j0,Sti.j1];simp [*]))];rfl)
                   | (rw [relOk_yes (by omega) (by omega) (by omega) (fun k hk=>hall k hk (by omega))];rfl)
                 ·first
                  |(first | (exfalso;omega))
                  |refine Dra.on' rfl rfl rfl rfl rfl .sure (Ope.mov rfl ?_)
                   refine Dra.on' rfl rfl rfl rfl rfl .sure (Ope.fld rfl rfl ?_)
                   refine Dra.on' rfl rfl rfl rfl rfl .sure (Ope.idxA rfl rfl rfl rfl ?_)
                   refine Dra.on' rfl rfl rfl rfl rfl .sure (Ope.fld rfl rfl ?_)
                   refine Dra.on' rfl rfl rfl rfl rfl .sure (Ope.load rfl rfl ?_)
                   refine Dra.on' rfl rfl rfl rfl rfl .sure (Ope.mov rfl ?_)
                   refine Dra.on' rfl rfl rfl rfl rfl .sure (Ope.fld rfl rfl ?_)
                   refine Dra.on' rfl rfl rfl rfl rfl .sure (Ope.idxA rfl rfl rfl rfl ?_)
                   refine Dra.on' rfl rfl rfl rfl rfl .sure (Ope.fld rfl rfl ?_)
                   refine Dra.on' rfl rfl rfl rfl rfl .sure (Ope.load rfl rfl ?_)
                   first | refine Dra.on' rfl rfl rfl rfl rfl .sure (Ope.cf rfl rfl (g01) rfl ?_) | refine Dra.on' rfl rfl rfl rfl rfl .sure (Ope.cf rfl rfl (g11) rfl ?_)
                   refine Dra.on' rfl rfl rfl rfl rfl .sure (Ope.not rfl ?_)
                   refine Dra.op' rfl rfl rfl .sure (Ope.pickF rfl rfl ?_)
                   refine Dra.nil (Run.condX rfl (fun hc=>?_) fun hc=>?_)
                   ·first
                    |(first | (exfalso;omega))
                    |refine Run.seq (Run.region (cx_ok _ _ _) (Reg.op rfl (Ope.asg rfl ?_)))
                     refine Reg.nil (Run.ret (Jmp.retB (Jmp.code (Jmp.round (Jmp.retB (Jmp.retB (Jmp.code (Jmp.round (Jmp.retB (Jmp.code (fin_ret (.tmp rfl .nil) rfl ?_)))))))))))
                     first
                     | (rw [relOk_no (by omega)];rfl)
                     | (rw [relOk_bad hlt (sti_bad0 (by omega) (by omega))];rfl)
                     | (rw [relOk_bad hlt (sti_bad1 (by simp only [Sti.j0,Sti.j1];simp [*]))];rfl)
                     | (rw [relOk_yes (by omega) (by omega) (by omega) (fun k hk=>hall k hk (by omega))];rfl)
                   ·first
                    |(first | (exfalso;omega))
                    |refine Run.skip (Run.bend (Run.region (cx_ok _ _ _) (Reg.op rfl (Ope.add rfl rfl (by omega) ?_))))
                     refine Reg.op rfl (Ope.mov rfl ?_)
                     refine Reg.nil ?_
                     first
                       | exact Run.lend ⟨1,by decide,⟨by decide,fun _=>(by simp only [Sti.j0,Bool.and_eq_true];exact ⟨hg,hc⟩),fun h=>absurd h (by decide)⟩,⟨rfl,rfl,rfl,rfl,rfl,trivial⟩,rfl,rfl⟩
                       | exact Run.lend ⟨2,by decide,⟨by decide,fun _=>hj0 (by decide),fun _=>(by simp only [Sti.j1,Bool.and_eq_true];exact ⟨hg,hc⟩)⟩,⟨rfl,rfl,rfl,rfl,rfl,trivial⟩,rfl,rfl⟩
               ·first
                |(first | (exfalso;omega))
                |refine Run.exit (Jmp.code (Jmp.round (Jmp.here (Run.bend (Run.region (cx_ok _ _ _) (Reg.op rfl (Ope.add rfl rfl (by omega) ?_)))))))
                 refine Reg.op rfl (Ope.mov rfl ?_)
                 refine Reg.nil ?_
                 exact Run.lend ⟨(i+1,m+1),by show S.length - (i+1) < S.length - i;omega,⟨by show i+1≤S.length;omega,fun k hk hk1=>by
                   by_cases hki:k < i
                   · exact hall k hk hki
                   · obtain rfl : k = i := by simp only at hk1; omega
                     have h0:=hj0 (by decide)
                     have h1:=hj1 (by decide)
                     rcases hr01 with h | h<;>simp [Sti.ok,h,h0,h1]⟩,⟨rfl,rfl,rfl,trivial⟩,rfl,rfl⟩
              ·refine Run.seq (Run.region (cx_ok _ _ _) (Reg.op rfl (Ope.lt rfl rfl ?_)))
               refine Reg.nil (Run.seq (Run.condX rfl (fun hc=>?_) fun hc=>?_))
               ·first
                |(first | (exfalso;omega))
                |refine Run.skip (Run.seq (Run.block (Run.seq (Run.region (cx_ok _ _ _) (Reg.op rfl (Ope.mov rfl ?_))))))
                 refine Reg.op rfl (Ope.asg rfl ?_)
                 refine Reg.nil (Run.seq (Run.draw (cx_ok _ _ _) [(0,true),(1,true),(2,true),(3,true),(4,true),(5,true),(6,true),(7,true),(8,true),(9,true),(10,true),(11,true),(12,true),(13,true),(14,true),(15,true),(16,true),(17,true),(18,true),(19,true),(20,true),(21,true),(22,true),(23,true),(24,true),(25,true)] (by kernel_rfl) (Dra.op' rfl rfl rfl .sure (Ope.mov rfl ?_))))
                 refine Dra.op' rfl rfl rfl .sure (Ope.fld rfl rfl ?_)
                 refine Dra.op' rfl rfl rfl .sure (Ope.idxA rfl rfl rfl rfl ?_)
                 refine Dra.op' rfl rfl rfl .sure (Ope.fld rfl rfl ?_)
                 refine Dra.op' rfl rfl rfl .sure (Ope.load rfl rfl ?_)
                 refine Dra.op' rfl rfl rfl .sure (Ope.mov rfl ?_)
                 refine Dra.op' rfl rfl rfl .sure (Ope.fld rfl rfl ?_)
                 refine Dra.op' rfl rfl rfl .sure (Ope.idxA rfl rfl rfl rfl ?_)
                 refine Dra.op' rfl rfl rfl .sure (Ope.fld rfl rfl ?_)
                 refine Dra.op' rfl rfl rfl .sure (Ope.load rfl rfl ?_)
                 first | refine Dra.op' rfl rfl rfl .sure (Ope.cf rfl rfl (g00) rfl ?_) | refine Dra.op' rfl rfl rfl .sure (Ope.cf rfl rfl (g10) rfl ?_)
                 refine Dra.op' rfl rfl rfl .sure (Ope.not rfl ?_)
                 refine Dra.op' rfl rfl rfl .sure (Ope.mov rfl ?_)
                 refine Dra.splitX rfl rfl rfl rfl (fun hg=>?_) fun hg=>?_
                 ·first
                  |(first | (exfalso;omega))
                  |refine Dra.off' rfl rfl rfl (.inl rfl) rfl (Dra.off' rfl rfl rfl (.inl rfl) rfl (Dra.off' rfl rfl rfl (.inl rfl) rfl (Dra.off' rfl rfl rfl (.inl rfl) rfl (Dra.off' rfl rfl rfl (.inl rfl) rfl (Dra.off' rfl rfl rfl (.inl rfl) rfl (Dra.off' rfl rfl rfl (.inl rfl) rfl (Dra.off' rfl rfl rfl (.inl rfl) rfl (Dra.off' rfl rfl rfl (.inl rfl) rfl (Dra.off' rfl rfl rfl (.inl rfl) rfl (Dra.off' rfl rfl rfl (.inl rfl) rfl (Dra.off' rfl rfl rfl (.inl rfl) rfl (Dra.op' rfl rfl rfl .sure (Ope.pickT rfl rfl ?_)))))))))))))
                   refine Dra.nil (Run.condT rfl (Run.seq (Run.region (cx_ok _ _ _) (Reg.op rfl (Ope.asg rfl ?_)))))
                   refine Reg.nil (Run.ret (Jmp.retB (Jmp.code (Jmp.round (Jmp.retB (Jmp.retB (Jmp.code (Jmp.round (Jmp.retB (Jmp.code (fin_ret (.tmp rfl .nil) rfl ?_)))))))))))
                   first
                   | (rw [relOk_no (by omega)];rfl)
                   | (rw [relOk_bad hlt (sti_bad0 (by omega) (by omega))];rfl)
                   | (rw [relOk_bad hlt (sti_bad1 (by simp only [Sti.j0,Sti.j1];simp [*]))];rfl)
                   | (rw [relOk_yes (by omega) (by omega) (by omega) (fun k hk=>hall k hk (by omega))];rfl)
                 ·first
                  |(first | (exfalso;omega))
                  |refine Dra.on' rfl rfl rfl rfl rfl .sure (Ope.mov rfl ?_)
                   refine Dra.on' rfl rfl rfl rfl rfl .sure (Ope.fld rfl rfl ?_)
                   refine Dra.on' rfl rfl rfl rfl rfl .sure (Ope.idxA rfl rfl rfl rfl ?_)
                   refine Dra.on' rfl rfl rfl rfl rfl .sure (Ope.fld rfl rfl ?_)
                   refine Dra.on' rfl rfl rfl rfl rfl .sure (Ope.load rfl rfl ?_)
                   refine Dra.on' rfl rfl rfl rfl rfl .sure (Ope.mov rfl ?_)
                   refine Dra.on' rfl rfl rfl rfl rfl .sure (Ope.fld rfl rfl ?_)
                   refine Dra.on' rfl rfl rfl rfl rfl .sure (Ope.idxA rfl rfl rfl rfl ?_)
                   refine Dra.on' rfl rfl rfl rfl rfl .sure (Ope.fld rfl rfl ?_)
                   refine Dra.on' rfl rfl rfl rfl rfl .sure (Ope.load rfl rfl ?_)
                   first | refine Dra.on' rfl rfl rfl rfl rfl .sure (Ope.cf rfl rfl (g01) rfl ?_) | refine Dra.on' rfl rfl rfl rfl rfl .sure (Ope.cf rfl rfl (g11) rfl ?_)
                   refine Dra.on' rfl rfl rfl rfl rfl .sure (Ope.not rfl ?_)
                   refine Dra.op' rfl rfl rfl .sure (Ope.pickF rfl rfl ?_)
                   refine Dra.nil (Run.condX rfl (fun hc=>?_) fun hc=>?_)
                   ·first
                    |(first | (exfalso;omega))
                    |refine Run.seq (Run.region (cx_ok _ _ _) (Reg.op rfl (Ope.asg rfl ?_)))
                     refine Reg.nil (Run.ret (Jmp.retB (Jmp.code (Jmp.round (Jmp.retB (Jmp.retB (Jmp.code (Jmp.round (Jmp.retB (Jmp.code (fin_ret (.tmp rfl .nil) rfl ?_)))))))))))
                     first
                     | (rw [relOk_no (by omega)];rfl)
                     | (rw [relOk_bad hlt (sti_bad0 (by omega) (by omega))];rfl)
                     | (rw [relOk_bad hlt (sti_bad1 (by simp only [Sti.j0,Sti.j1];simp [*]))];rfl)
                     | (rw [relOk_yes (by omega) (by omega) (by omega) (fun k hk=>hall k hk (by omega))];rfl)
                   ·first
                    |(first | (exfalso;omega))
                    |refine Run.skip (Run.bend (Run.region (cx_ok _ _ _) (Reg.op rfl (Ope.add rfl rfl (by omega) ?_))))
                     refine Reg.op rfl (Ope.mov rfl ?_)
                     refine Reg.nil ?_
                     first
                       | exact Run.lend ⟨1,by decide,⟨by decide,fun _=>(by simp only [Sti.j0,Bool.and_eq_true];exact ⟨hg,hc⟩),fun h=>absurd h (by decide)⟩,⟨rfl,rfl,rfl,rfl,rfl,trivial⟩,rfl,rfl⟩
                       | exact Run.lend ⟨2,by decide,⟨by decide,fun _=>hj0 (by decide),fun _=>(by simp only [Sti.j1,Bool.and_eq_true];exact ⟨hg,hc⟩)⟩,⟨rfl,rfl,rfl,rfl,rfl,trivial⟩,rfl,rfl⟩
               ·first
                |(first | (exfalso;omega))
                |refine Run.exit (Jmp.code (Jmp.round (Jmp.here (Run.bend (Run.region (cx_ok _ _ _) (Reg.op rfl (Ope.add rfl rfl (by omega) ?_)))))))
                 refine Reg.op rfl (Ope.mov rfl ?_)
                 refine Reg.nil ?_
                 exact Run.lend ⟨(i+1,m+1),by show S.length - (i+1) < S.length - i;omega,⟨by show i+1≤S.length;omega,fun k hk hk1=>by
                   by_cases hki:k < i
                   · exact hall k hk hki
                   · obtain rfl : k = i := by simp only at hk1; omega
                     have h0:=hj0 (by decide)
                     have h1:=hj1 (by decide)
                     rcases hr01 with h | h<;>simp [Sti.ok,h,h0,h1]⟩,⟨rfl,rfl,rfl,trivial⟩,rfl,rfl⟩
          ·first
           |(first | (exfalso;omega))
           |refine Reg.off rfl rfl rfl (Reg.off rfl rfl rfl (Reg.off rfl rfl rfl (Reg.op rfl (Ope.pickF rfl rfl ?_))))
            refine Reg.nil (Run.condF rfl (Run.skip (Run.seq (Run.region (cx_ok _ _ _) (Reg.op rfl (Ope.mov rfl ?_))))))
            refine Reg.nil (Run.block ?_)
            have hr01:S[i].r=0∨S[i].r=1:=by omega
            refine Run.loop (α:=Nat) (fun j=>[(21,.sl tl (S.map Sti.v)),(22,I S.length),(23,I i),(4,.fp S[i].v),(35,I j)]) (fun _=>HE (m+1) []) (fun j=>j≤2∧(1≤j→S[i].j0=true)∧(2≤j→S[i].j1=true)) (fun j=>2 - j) 0 ⟨rfl,rfl,rfl,rfl,rfl,trivial⟩ rfl ⟨Nat.zero_le _,fun h=>absurd h (by decide),fun h=>absurd h (by decide)⟩ (fun j hj=>?_)
            obtain ⟨hj,hj0,hj1⟩:=hj
            rcases (by omega:j=0∨j=1∨j=2) with rfl | rfl | rfl
            ·refine Run.seq (Run.region (cx_ok _ _ _) (Reg.op rfl (Ope.lt rfl rfl ?_)))
             refine Reg.nil (Run.seq (Run.condX rfl (fun hc=>?_) fun hc=>?_))
             ·first
              |(first | (exfalso;omega))
              |refine Run.skip (Run.seq (Run.block (Run.seq (Run.region (cx_ok _ _ _) (Reg.op rfl (Ope.mov rfl ?_))))))
               refine Reg.op rfl (Ope.asg rfl ?_)
               refine Reg.nil (Run.seq (Run.draw (cx_ok _ _ _) [(0,true),(1,true),(2,true),(3,true),(4,true),(5,true),(6,true),(7,true),(8,true),(9,true),(10,true),(11,true),(12,true),(13,true),(14,true),(15,true),(16,true),(17,true),(18,true),(19,true),(20,true),(21,true),(22,true),(23,true),(24,true),(25,true)] (by kernel_rfl) (Dra.op' rfl rfl rfl .sure (Ope.mov rfl ?_))))
               refine Dra.op' rfl rfl rfl .sure (Ope.fld rfl rfl ?_)
               refine Dra.op' rfl rfl rfl .sure (Ope.idxA rfl rfl rfl rfl ?_)
               refine Dra.op' rfl rfl rfl .sure (Ope.fld rfl rfl ?_)
               refine Dra.op' rfl rfl rfl .sure (Ope.load rfl rfl ?_)
               refine Dra.op' rfl rfl rfl .sure (Ope.mov rfl ?_)
               refine Dra.op' rfl rfl rfl .sure (Ope.fld rfl rfl ?_)
               refine Dra.op' rfl rfl rfl .sure (Ope.idxA rfl rfl rfl rfl ?_)
               refine Dra.op' rfl rfl rfl .sure (Ope.fld rfl rfl ?_)
               refine Dra.op' rfl rfl rfl .sure (Ope.load rfl rfl ?_)
               first | refine Dra.op' rfl rfl rfl .sure (Ope.cf rfl rfl (g00) rfl ?_) | refine Dra.op' rfl rfl rfl .sure (Ope.cf rfl rfl (g10) rfl ?_)
               refine Dra.op' rfl rfl rfl .sure (Ope.not rfl ?_)
               refine Dra.op' rfl rfl rfl .sure (Ope.mov rfl ?_)
               refine Dra.splitX rfl rfl rfl rfl (fun hg=>?_) fun hg=>?_
               ·first
                |(first | (exfalso;omega))
                |refine Dra.off' rfl rfl rfl (.inl rfl) rfl (Dra.off' rfl rfl rfl (.inl rfl) rfl (Dra.off' rfl rfl rfl (.inl rfl) rfl (Dra.off' rfl rfl rfl (.inl rfl) rfl (Dra.off' rfl rfl rfl (.inl rfl) rfl (Dra.off' rfl rfl rfl (.inl rfl) rfl (Dra.off' rfl rfl rfl (.inl rfl) rfl (Dra.off' rfl rfl rfl (.inl rfl) rfl (Dra.off' rfl rfl rfl (.inl rfl) rfl (Dra.off' rfl rfl rfl (.inl rfl) rfl (Dra.off' rfl rfl rfl (.inl rfl) rfl (Dra.off' rfl rfl rfl (.inl rfl) rfl (Dra.op' rfl rfl rfl .sure (Ope.pickT rfl rfl ?_)))))))))))))
                 refine Dra.nil (Run.condT rfl (Run.seq (Run.region (cx_ok _ _ _) (Reg.op rfl (Ope.asg rfl ?_)))))
                 refine Reg.nil (Run.ret (Jmp.retB (Jmp.code (Jmp.round (Jmp.retB (Jmp.retB (Jmp.code (Jmp.round (Jmp.retB (Jmp.code (fin_ret (.tmp rfl .nil) rfl ?_)))))))))))
                 first
                 | (rw [relOk_no (by omega)];rfl)
                 | (rw [relOk_bad hlt (sti_bad0 (by omega) (by omega))];rfl)
                 | (rw [relOk_bad hlt (sti_bad1 (by simp only [Sti.j0,Sti.j1];simp [*]))];rfl)
                 | (rw [relOk_yes (by omega) (by omega) (by omega) (fun k hk=>hall k hk (by omega))];rfl)
               ·first
                |(first | (exfalso;omega))
                |refine Dra.on' rfl rfl rfl rfl rfl .sure (Ope.mov rfl ?_)
                 refine Dra.on' rfl rfl rfl rfl rfl .sure (Ope.fld rfl rfl ?_)
                 refine Dra.on' rfl rfl rfl rfl rfl .sure (Ope.idxA rfl rfl rfl rfl ?_)
                 refine Dra.on' rfl rfl rfl rfl rfl .sure (Ope.fld rfl rfl ?_)
                 refine Dra.on' rfl rfl rfl rfl rfl .sure (Ope.load rfl rfl ?_)
                 refine Dra.on' rfl rfl rfl rfl rfl .sure (Ope.mov rfl ?_)
                 refine Dra.on' rfl rfl rfl rfl rfl .sure (Ope.fld rfl rfl ?_)
                 refine Dra.on' rfl rfl rfl rfl rfl .sure (Ope.idxA rfl rfl rfl rfl ?_)
                 refine Dra.on' rfl rfl rfl rfl rfl .sure (Ope.fld rfl rfl ?_)
                 refine Dra.on' rfl rfl rfl rfl rfl .sure (Ope.load rfl rfl ?_)
                 first | refine Dra.on' rfl rfl rfl rfl rfl .sure (Ope.cf rfl rfl (g01) rfl ?_) | refine Dra.on' rfl rfl rfl rfl rfl .sure (Ope.cf rfl rfl (g11) rfl ?_)
                 refine Dra.on' rfl rfl rfl rfl rfl .sure (Ope.not rfl ?_)
                 refine Dra.op' rfl rfl rfl .sure (Ope.pickF rfl rfl ?_)
                 refine Dra.nil (Run.condX rfl (fun hc=>?_) fun hc=>?_)
                 ·first
                  |(first | (exfalso;omega))
                  |refine Run.seq (Run.region (cx_ok _ _ _) (Reg.op rfl (Ope.asg rfl ?_)))
                   refine Reg.nil (Run.ret (Jmp.retB (Jmp.code (Jmp.round (Jmp.retB (Jmp.retB (Jmp.code (Jmp.round (Jmp.retB (Jmp.code (fin_ret (.tmp rfl .nil) rfl ?_)))))))))))
                   first
                   | (rw [relOk_no (by omega)];rfl)
                   | (rw [relOk_bad hlt (sti_bad0 (by omega) (by omega))];rfl)
                   | (rw [relOk_bad hlt (sti_bad1 (by simp only [Sti.j0,Sti.j1];simp [*]))];rfl)
                   | (rw [relOk_yes (by omega) (by omega) (by omega) (fun k hk=>hall k hk (by omega))];rfl)
                 ·first
                  |(first | (exfalso;omega))
                  |refine Run.skip (Run.bend (Run.region (cx_ok _ _ _) (Reg.op rfl (Ope.add rfl rfl (by omega) ?_))))
                   refine Reg.op rfl (Ope.mov rfl ?_)
                   refine Reg.nil ?_
                   first
                     | exact Run.lend ⟨1,by decide,⟨by decide,fun _=>(by simp only [Sti.j0,Bool.and_eq_true];exact ⟨hg,hc⟩),fun h=>absurd h (by decide)⟩,⟨rfl,rfl,rfl,rfl,rfl,trivial⟩,rfl,rfl⟩
                     | exact Run.lend ⟨2,by decide,⟨by decide,fun _=>hj0 (by decide),fun _=>(by simp only [Sti.j1,Bool.and_eq_true];exact ⟨hg,hc⟩)⟩,⟨rfl,rfl,rfl,rfl,rfl,trivial⟩,rfl,rfl⟩
             ·first
              |(first | (exfalso;omega))
              |refine Run.exit (Jmp.code (Jmp.round (Jmp.here (Run.bend (Run.region (cx_ok _ _ _) (Reg.op rfl (Ope.add rfl rfl (by omega) ?_)))))))
               refine Reg.op rfl (Ope.mov rfl ?_)
               refine Reg.nil ?_
               exact Run.lend ⟨(i+1,m+1),by show S.length - (i+1) < S.length - i;omega,⟨by show i+1≤S.length;omega,fun k hk hk1=>by
                 by_cases hki:k < i
                 · exact hall k hk hki
                 · obtain rfl : k = i := by simp only at hk1; omega
                   have h0:=hj0 (by decide)
                   have h1:=hj1 (by decide)
                   rcases hr01 with h | h<;>simp [Sti.ok,h,h0,h1]⟩,⟨rfl,rfl,rfl,trivial⟩,rfl,rfl⟩
            ·refine Run.seq (Run.region (cx_ok _ _ _) (Reg.op rfl (Ope.lt rfl rfl ?_)))
             refine Reg.nil (Run.seq (Run.condX rfl (fun hc=>?_) fun hc=>?_))
             ·first
              |(first | (exfalso;omega))
              |refine Run.skip (Run.seq (Run.block (Run.seq (Run.region (cx_ok _ _ _) (Reg.op rfl (Ope.mov rfl ?_))))))
               refine Reg.op rfl (Ope.asg rfl ?_)
               refine Reg.nil (Run.seq (Run.draw (cx_ok _ _ _) [(0,true),(1,true),(2,true),(3,true),(4,true),(5,true),(6,true),(7,true),(8,true),(9,true),(10,true),(11,true),(12,true),(13,true),(14,true),(15,true),(16,true),(17,true),(18,true),(19,true),(20,true),(21,true),(22,true),(23,true),(24,true),(25,true)] (by kernel_rfl) (Dra.op' rfl rfl rfl .sure (Ope.mov rfl ?_))))
               refine Dra.op' rfl rfl rfl .sure (Ope.fld rfl rfl ?_)
               refine Dra.op' rfl rfl rfl .sure (Ope.idxA rfl rfl rfl rfl ?_)
               refine Dra.op' rfl rfl rfl .sure (Ope.fld rfl rfl ?_)
               refine Dra.op' rfl rfl rfl .sure (Ope.load rfl rfl ?_)
               refine Dra.op' rfl rfl rfl .sure (Ope.mov rfl ?_)
               refine Dra.op' rfl rfl rfl .sure (Ope.fld rfl rfl ?_)
               refine Dra.op' rfl rfl rfl .sure (Ope.idxA rfl rfl rfl rfl ?_)
               refine Dra.op' rfl rfl rfl .sure (Ope.fld rfl rfl ?_)
               refine Dra.op' rfl rfl rfl .sure (Ope.load rfl rfl ?_)
               first | refine Dra.op' rfl rfl rfl .sure (Ope.cf rfl rfl (g00) rfl ?_) | refine Dra.op' rfl rfl rfl .sure (Ope.cf rfl rfl (g10) rfl ?_)
               refine Dra.op' rfl rfl rfl .sure (Ope.not rfl ?_)
               refine Dra.op' rfl rfl rfl .sure (Ope.mov rfl ?_)
               refine Dra.splitX rfl rfl rfl rfl (fun hg=>?_) fun hg=>?_
               ·first
                |(first | (exfalso;omega))
                |refine Dra.off' rfl rfl rfl (.inl rfl) rfl (Dra.off' rfl rfl rfl (.inl rfl) rfl (Dra.off' rfl rfl rfl (.inl rfl) rfl (Dra.off' rfl rfl rfl (.inl rfl) rfl (Dra.off' rfl rfl rfl (.inl rfl) rfl (Dra.off' rfl rfl rfl (.inl rfl) rfl (Dra.off' rfl rfl rfl (.inl rfl) rfl (Dra.off' rfl rfl rfl (.inl rfl) rfl (Dra.off' rfl rfl rfl (.inl rfl) rfl (Dra.off' rfl rfl rfl (.inl rfl) rfl (Dra.off' rfl rfl rfl (.inl rfl) rfl (Dra.off' rfl rfl rfl (.inl rfl) rfl (Dra.op' rfl rfl rfl .sure (Ope.pickT rfl rfl ?_)))))))))))))
                 refine Dra.nil (Run.condT rfl (Run.seq (Run.region (cx_ok _ _ _) (Reg.op rfl (Ope.asg rfl ?_)))))
                 refine Reg.nil (Run.ret (Jmp.retB (Jmp.code (Jmp.round (Jmp.retB (Jmp.retB (Jmp.code (Jmp.round (Jmp.retB (Jmp.code (fin_ret (.tmp rfl .nil) rfl ?_)))))))))))
                 first
                 | (rw [relOk_no (by omega)];rfl)
                 | (rw [relOk_bad hlt (sti_bad0 (by omega) (by omega))];rfl)
                 | (rw [relOk_bad hlt (sti_bad1 (by simp only [Sti.j0,Sti.j1];simp [*]))];rfl)
                 | (rw [relOk_yes (by omega) (by omega) (by omega) (fun k hk=>hall k hk (by omega))];rfl)
               ·first
                |(first | (exfalso;omega))
                |refine Dra.on' rfl rfl rfl rfl rfl .sure (Ope.mov rfl ?_)
                 refine Dra.on' rfl rfl rfl rfl rfl .sure (Ope.fld rfl rfl ?_)
                 refine Dra.on' rfl rfl rfl rfl rfl .sure (Ope.idxA rfl rfl rfl rfl ?_)
                 refine Dra.on' rfl rfl rfl rfl rfl .sure (Ope.fld rfl rfl ?_)
                 refine Dra.on' rfl rfl rfl rfl rfl .sure (Ope.load rfl rfl ?_)
                 refine Dra.on' rfl rfl rfl rfl rfl .sure (Ope.mov rfl ?_)
                 refine Dra.on' rfl rfl rfl rfl rfl .sure (Ope.fld rfl rfl ?_)
                 refine Dra.on' rfl rfl rfl rfl rfl .sure (Ope.idxA rfl rfl rfl rfl ?_)
                 refine Dra.on' rfl rfl rfl rfl rfl .sure (Ope.fld rfl rfl ?_)
                 refine Dra.on' rfl rfl rfl rfl rfl .sure (Ope.load rfl rfl ?_)
                 first | refine Dra.on' rfl rfl rfl rfl rfl .sure (Ope.cf rfl rfl (g01) rfl ?_) | refine Dra.on' rfl rfl rfl rfl rfl .sure (Ope.cf rfl rfl (g11) rfl ?_)
                 refine Dra.on' rfl rfl rfl rfl rfl .sure (Ope.not rfl ?_)
                 refine Dra.op' rfl rfl rfl .sure (Ope.pickF rfl rfl ?_)
                 refine Dra.nil (Run.condX rfl (fun hc=>?_) fun hc=>?_)
                 ·first
                  |(first | (exfalso;omega))
                  |refine Run.seq (Run.region (cx_ok _ _ _) (Reg.op rfl (Ope.asg rfl ?_)))
                   refine Reg.nil (Run.ret (Jmp.retB (Jmp.code (Jmp.round (Jmp.retB (Jmp.retB (Jmp.code (Jmp.round (Jmp.retB (Jmp.code (fin_ret (.tmp rfl .nil) rfl ?_)))))))))))
                   first
                   | (rw [relOk_no (by omega)];rfl)
                   | (rw [relOk_bad hlt (sti_bad0 (by omega) (by omega))];rfl)
                   | (rw [relOk_bad hlt (sti_bad1 (by simp only [Sti.j0,Sti.j1];simp [*]))];rfl)
                   | (rw [relOk_yes (by omega) (by omega) (by omega) (fun k hk=>hall k hk (by omega))];rfl)
                 ·first
                  |(first | (exfalso;omega))
                  |refine Run.skip (Run.bend (Run.region (cx_ok _ _ _) (Reg.op rfl (Ope.add rfl rfl (by omega) ?_))))
                   refine Reg.op rfl (Ope.mov rfl ?_)
                   refine Reg.nil ?_
                   first
                     | exact Run.lend ⟨1,by decide,⟨by decide,fun _=>(by simp only [Sti.j0,Bool.and_eq_true];exact ⟨hg,hc⟩),fun h=>absurd h (by decide)⟩,⟨rfl,rfl,rfl,rfl,rfl,trivial⟩,rfl,rfl⟩
                     | exact Run.lend ⟨2,by decide,⟨by decide,fun _=>hj0 (by decide),fun _=>(by simp only [Sti.j1,Bool.and_eq_true];exact ⟨hg,hc⟩)⟩,⟨rfl,rfl,rfl,rfl,rfl,trivial⟩,rfl,rfl⟩
             ·first
              |(first | (exfalso;omega))
              |refine Run.exit (Jmp.code (Jmp.round (Jmp.here (Run.bend (Run.region (cx_ok _ _ _) (Reg.op rfl (Ope.add rfl rfl (by omega) ?_)))))))
               refine Reg.op rfl (Ope.mov rfl ?_)
               refine Reg.nil ?_
               exact Run.lend ⟨(i+1,m+1),by show S.length - (i+1) < S.length - i;omega,⟨by show i+1≤S.length;omega,fun k hk hk1=>by
                 by_cases hki:k < i
                 · exact hall k hk hki
                 · obtain rfl : k = i := by simp only at hk1; omega
                   have h0:=hj0 (by decide)
                   have h1:=hj1 (by decide)
                   rcases hr01 with h | h<;>simp [Sti.ok,h,h0,h1]⟩,⟨rfl,rfl,rfl,trivial⟩,rfl,rfl⟩
            ·refine Run.seq (Run.region (cx_ok _ _ _) (Reg.op rfl (Ope.lt rfl rfl ?_)))
             refine Reg.nil (Run.seq (Run.condX rfl (fun hc=>?_) fun hc=>?_))
             ·first
              |(first | (exfalso;omega))
              |refine Run.skip (Run.seq (Run.block (Run.seq (Run.region (cx_ok _ _ _) (Reg.op rfl (Ope.mov rfl ?_))))))
               refine Reg.op rfl (Ope.asg rfl ?_)
               refine Reg.nil (Run.seq (Run.draw (cx_ok _ _ _) [(0,true),(1,true),(2,true),(3,true),(4,true),(5,true),(6,true),(7,true),(8,true),(9,true),(10,true),(11,true),(12,true),(13,true),(14,true),(15,true),(16,true),(17,true),(18,true),(19,true),(20,true),(21,true),(22,true),(23,true),(24,true),(25,true)] (by kernel_rfl) (Dra.op' rfl rfl rfl .sure (Ope.mov rfl ?_))))
               refine Dra.op' rfl rfl rfl .sure (Ope.fld rfl rfl ?_)
               refine Dra.op' rfl rfl rfl .sure (Ope.idxA rfl rfl rfl rfl ?_)
               refine Dra.op' rfl rfl rfl .sure (Ope.fld rfl rfl ?_)
               refine Dra.op' rfl rfl rfl .sure (Ope.load rfl rfl ?_)
               refine Dra.op' rfl rfl rfl .sure (Ope.mov rfl ?_)
               refine Dra.op' rfl rfl rfl .sure (Ope.fld rfl rfl ?_)
               refine Dra.op' rfl rfl rfl .sure (Ope.idxA rfl rfl rfl rfl ?_)
               refine Dra.op' rfl rfl rfl .sure (Ope.fld rfl rfl ?_)
               refine Dra.op' rfl rfl rfl .sure (Ope.load rfl rfl ?_)
               first | refine Dra.op' rfl rfl rfl .sure (Ope.cf rfl rfl (g00) rfl ?_) | refine Dra.op' rfl rfl rfl .sure (Ope.cf rfl rfl (g10) rfl ?_)
               refine Dra.op' rfl rfl rfl .sure (Ope.not rfl ?_)
               refine Dra.op' rfl rfl rfl .sure (Ope.mov rfl ?_)
               refine Dra.splitX rfl rfl rfl rfl (fun hg=>?_) fun hg=>?_
               ·first
                |(first | (exfalso;omega))
                |refine Dra.off' rfl rfl rfl (.inl rfl) rfl (Dra.off' rfl rfl rfl (.inl rfl) rfl (Dra.off' rfl rfl rfl (.inl rfl) rfl (Dra.off' rfl rfl rfl (.inl rfl) rfl (Dra.off' rfl rfl rfl (.inl rfl) rfl (Dra.off' rfl rfl rfl (.inl rfl) rfl (Dra.off' rfl rfl rfl (.inl rfl) rfl (Dra.off' rfl rfl rfl (.inl rfl) rfl (Dra.off' rfl rfl rfl (.inl rfl) rfl (Dra.off' rfl rfl rfl (.inl rfl) rfl (Dra.off' rfl rfl rfl (.inl rfl) rfl (Dra.off' rfl rfl rfl (.inl rfl) rfl (Dra.op' rfl rfl rfl .sure (Ope.pickT rfl rfl ?_)))))))))))))
                 refine Dra.nil (Run.condT rfl (Run.seq (Run.region (cx_ok _ _ _) (Reg.op rfl (Ope.asg rfl ?_)))))
                 refine Reg.nil (Run.ret (Jmp.retB (Jmp.code (Jmp.round (Jmp.retB (Jmp.retB (Jmp.code (Jmp.round (Jmp.retB (Jmp.code (fin_ret (.tmp rfl .nil) rfl ?_)))))))))))
                 first
                 | (rw [relOk_no (by omega)];rfl)
                 | (rw [relOk_bad hlt (sti_bad0 (by omega) (by omega))];rfl)
                 | (rw [relOk_bad hlt (sti_bad1 (by simp only [Sti.j0,Sti.j1];simp [*]))];rfl)
                 | (rw [relOk_yes (by omega) (by omega) (by omega) (fun k hk=>hall k hk (by omega))];rfl)
               ·first
                |(first | (exfalso;omega))
                |refine Dra.on' rfl rfl rfl rfl rfl .sure (Ope.mov rfl ?_)
                 refine Dra.on' rfl rfl rfl rfl rfl .sure (Ope.fld rfl rfl ?_)
                 refine Dra.on' rfl rfl rfl rfl rfl .sure (Ope.idxA rfl rfl rfl rfl ?_)
                 refine Dra.on' rfl rfl rfl rfl rfl .sure (Ope.fld rfl rfl ?_)
                 refine Dra.on' rfl rfl rfl rfl rfl .sure (Ope.load rfl rfl ?_)
                 refine Dra.on' rfl rfl rfl rfl rfl .sure (Ope.mov rfl ?_)
                 refine Dra.on' rfl rfl rfl rfl rfl .sure (Ope.fld rfl rfl ?_)
                 refine Dra.on' rfl rfl rfl rfl rfl .sure (Ope.idxA rfl rfl rfl rfl ?_)
                 refine Dra.on' rfl rfl rfl rfl rfl .sure (Ope.fld rfl rfl ?_)
                 refine Dra.on' rfl rfl rfl rfl rfl .sure (Ope.load rfl rfl ?_)
                 first | refine Dra.on' rfl rfl rfl rfl rfl .sure (Ope.cf rfl rfl (g01) rfl ?_) | refine Dra.on' rfl rfl rfl rfl rfl .sure (Ope.cf rfl rfl (g11) rfl ?_)
                 refine Dra.on' rfl rfl rfl rfl rfl .sure (Ope.not rfl ?_)
                 refine Dra.op' rfl rfl rfl .sure (Ope.pickF rfl rfl ?_)
                 refine Dra.nil (Run.condX rfl (fun hc=>?_) fun hc=>?_)
                 ·first
                  |(first | (exfalso;omega))
                  |refine Run.seq (Run.region (cx_ok _ _ _) (Reg.op rfl (Ope.asg rfl ?_)))
                   refine Reg.nil (Run.ret (Jmp.retB (Jmp.code (Jmp.round (Jmp.retB (Jmp.retB (Jmp.code (Jmp.round (Jmp.retB (Jmp.code (fin_ret (.tmp rfl .nil) rfl ?_)))))))))))
                   first
                   | (rw [relOk_no (by omega)];rfl)
                   | (rw [relOk_bad hlt (sti_bad0 (by omega) (by omega))];rfl)
                   | (rw [relOk_bad hlt (sti_bad1 (by simp only [Sti.j0,Sti.j1];simp [*]))];rfl)
                   | (rw [relOk_yes (by omega) (by omega) (by omega) (fun k hk=>hall k hk (by omega))];rfl)
                 ·first
                  |(first | (exfalso;omega))
                  |refine Run.skip (Run.bend (Run.region (cx_ok _ _ _) (Reg.op rfl (Ope.add rfl rfl (by omega) ?_))))
                   refine Reg.op rfl (Ope.mov rfl ?_)
                   refine Reg.nil ?_
                   first
                     | exact Run.lend ⟨1,by decide,⟨by decide,fun _=>(by simp only [Sti.j0,Bool.and_eq_true];exact ⟨hg,hc⟩),fun h=>absurd h (by decide)⟩,⟨rfl,rfl,rfl,rfl,rfl,trivial⟩,rfl,rfl⟩
                     | exact Run.lend ⟨2,by decide,⟨by decide,fun _=>hj0 (by decide),fun _=>(by simp only [Sti.j1,Bool.and_eq_true];exact ⟨hg,hc⟩)⟩,⟨rfl,rfl,rfl,rfl,rfl,trivial⟩,rfl,rfl⟩
             ·first
              |(first | (exfalso;omega))
              |refine Run.exit (Jmp.code (Jmp.round (Jmp.here (Run.bend (Run.region (cx_ok _ _ _) (Reg.op rfl (Ope.add rfl rfl (by omega) ?_)))))))
               refine Reg.op rfl (Ope.mov rfl ?_)
               refine Reg.nil ?_
               exact Run.lend ⟨(i+1,m+1),by show S.length - (i+1) < S.length - i;omega,⟨by show i+1≤S.length;omega,fun k hk hk1=>by
                 by_cases hki:k < i
                 · exact hall k hk hki
                 · obtain rfl : k = i := by simp only at hk1; omega
                   have h0:=hj0 (by decide)
                   have h1:=hj1 (by decide)
                   rcases hr01 with h | h<;>simp [Sti.ok,h,h0,h1]⟩,⟨rfl,rfl,rfl,trivial⟩,rfl,rfl⟩
        ·first
         |(first | (exfalso;omega))
         |refine Run.exit (Jmp.code (Jmp.round (Jmp.here (Run.seq (Run.region (cx_ok _ _ _) (Reg.op rfl (Ope.asg rfl ?_)))))))
          refine Reg.nil (Run.ret (fin_ret (.tmp rfl .nil) rfl ?_))
          first
          | (rw [relOk_no (by omega)];rfl)
          | (rw [relOk_bad hlt (sti_bad0 (by omega) (by omega))];rfl)
          | (rw [relOk_bad hlt (sti_bad1 (by simp only [Sti.j0,Sti.j1];simp [*]))];rfl)
          | (rw [relOk_yes (by omega) (by omega) (by omega) (fun k hk=>hall k hk (by omega))];rfl)
end Go.Pv
namespace Go.Pv
open Go.Proofs Go.Am
set_option maxRecDepth 10000
def allE (S:List Sti):Nat:=2 ^ (4 * S.length) - 1
theorem pow20 {m:Nat} (h:m≤20):2 ^ m≤1048576:=Nat.pow_le_pow_right (by decide:0 < 2) h
theorem allE_lt {S:List Sti} (hS:S.length≤5):allE S < 2 ^ 62:=by
  have:=pow20 (show 4 * S.length≤20 by omega)
  unfold allE
  omega
theorem f86 (rest:Int) (tl:Tail) (S:List Sti) (hS:S.length≤5) (j:Nat):KX P0 86 [notV rest tl S j] j (mapB S) (fun v=>v=I ((allE S:Nat):Int)) fun _=>False:=by
  unfold KX
  have hlen:=mapE_len S 0
  have hp:=pow20 (show 4 * S.length≤20 by omega)
  have hp1:0 < 2 ^ (4 * S.length):=Nat.pow_pos (by decide)
  have hres:(((1 * 2 ^ (mapE 0 S).length:Nat):Int) - 1)=((allE S:Nat):Int):=by
    rw [hlen,allE];omega
  refine PCall.ofH (C:=c86) (cx_ok _ _ _) rfl (fn:=Try.f86) (by kernel_rfl) (c:=_) rfl rfl rfl (fun hok=>?_)
  refine Run.seq (Run.region (cx_ok _ _ _) (Reg.op rfl (Ope.boxF rfl rfl ?_)))
  refine Reg.op rfl (Ope.asg rfl ?_)
  refine Reg.nil (Run.seq (Run.region (cx_ok _ _ _) (Reg.op rfl (Ope.fld rfl rfl ?_))))
  refine Reg.op rfl (Ope.load rfl rfl ?_)
  refine Reg.op rfl (Ope.lenM rfl hget_hd rfl ?_)
  refine Reg.op rfl (Ope.shlN (p:=1) (m:=(mapE 0 S).length) rfl rfl rfl rfl (by omega) (by rw [hlen];omega) ?_)
  refine Reg.op rfl (Ope.sub rfl rfl (by rw [hlen];omega) ?_)
  rw [hres]
  refine Reg.op rfl (Ope.asg rfl ?_)
  exact Reg.nil (Run.ret (finK_ret (.tmp rfl .nil) rfl (mapB_bd S _) (fun i hi=>one_get (by omega)) hget_hd ⟨rfl,rfl⟩))
def Outs (P:Program) (g:Nat) (args:List PV) (u:PV) (e:Int):Prop:=PFun P g args (fun v=>e=0∧v=u) fun v=>e≠0∧v=.ifc 29 (I e)
theorem Outs.fn {P:Program} {g:Nat} {args:List PV} {u:PV} {e:Int} (h:Outs P g args u e) (he:e=0):Fn P g args u :=
  PCall.mono h (fun v h' q=>⟨q.1,q.2.2⟩) fun v h' q=>(q.2.1 he).elim
theorem Outs.pan {P:Program} {g:Nat} {args:List PV} {u:PV} {e:Int} (h:Outs P g args u e) (he:e≠0):Pan P g args (.ifc 29 (I e)) :=
  PCall.mono h (fun v h' q=>(he q.2.1).elim) fun v h' q=>⟨q.1,q.2.2⟩
theorem Outs.of {P:Program} {g:Nat} {args:List PV} {u:PV} (h:Fn P g args u):Outs P g args u 0 :=
  PCall.mono h (fun v h' q=>⟨q.1,rfl,q.2⟩) fun v h' q=>q.2.elim
theorem Outs.er {P:Program} {g:Nat} {args:List PV} {u:PV} {e:Int} (h:Pan P g args (.ifc 29 (I e))) (he:e≠0):Outs P g args u e :=
  PCall.mono h (fun v h' q=>q.2.elim) fun v h' q=>⟨q.1,he,q.2⟩
abbrev tabA (S:List Sti) (rest:Int):Tab:=tabS S rest (allE S)
def errT (rest:Int) (S:List Sti) (c:Bool) (e:Int):Int :=
  if relOk rest S=false then 1 else if c=false then 2 else if okT (tabA S rest)=false then 10 else e
section
variable (rest:Int) (tl:Tail) (htl:tl.isOwn=false) (S:List Sti)
include htl in
theorem bd_relF:PV.bds 0 [relV rest tl S]=true:=by
  simp only [PV.bds,PV.bd,bd_sl (f:=Sti.v) htl (fun _=>rfl) S,Bool.and_true]
theorem bd_slN {n:Nat} {tl:Tail} (htl:tl.isOwn=false) (S:List Sti):(PV.sl tl (S.map Sti.v)).bd n=true:=by
  have hb:∀ S:List Sti,PV.bds n (S.map Sti.v)=true:=by
    intro S
    induction S with
    | nil=>rfl
    | cons s S ih=>simp only [List.map_cons,PV.bds,ih,Bool.and_true];rfl
  cases tl<;>simp only [Tail.isOwn,Bool.true_eq_false] at htl<;>simp [PV.bd,hb]
include htl in
theorem bd_not (n j:Nat) (hj:j < n) (E:Nat):PV.bds n [notV rest tl S j,I E]=true:=by
  have:Nat.blt j n=true:=by simp [Nat.blt,Nat.ble_eq];omega
  simp only [PV.bds,PV.bd,bd_slN htl S,this,Bool.and_true]
include htl in
theorem bd_not1 (n j:Nat) (hj:j < n):PV.bds n [notV rest tl S j]=true:=by
  have:Nat.blt j n=true:=by simp [Nat.blt,Nat.ble_eq];omega
  simp only [PV.bds,PV.bd,bd_slN htl S,this,Bool.and_true]
include htl in
theorem f92 (hS:S.length≤1000000) (c:Bool) (g:Nat) (cap:List PV) (hcb:PV.bds 0 cap=true) (a e:Int)
    (hask:relOk rest S=true→c=true→okT (tabA S rest)=true→Outs P0 g (.fp (.agg (tabC (tabA S rest)))::cap) (I a) e) :
    Outs P0 92 (capT rest tl S c g cap) (I a) (errT rest S c e):=by
  have hb1:=bd_relF rest tl htl S
  have hbT:PV.bds 0 (.fp (.agg (tabC (tabA S rest)))::cap)=true:=by
    have:PV.bd 0 (.fp (.agg (tabC (tabA S rest))))=true:=rfl
    simp only [PV.bds,this,hcb,Bool.and_self]
  unfold Outs
  refine PFun.of (C:=c92) (cx_ok _ _ _) rfl (fn:=Try.f92) (by kernel_rfl) (c:=_) rfl rfl rfl ?_
  refine Run.seq (Run.region (cx_ok _ _ _) (Reg.op rfl (Ope.asg rfl ?_)))
  refine Reg.nil (Run.seq (Run.region (cx_ok _ _ _) (Reg.op rfl (Ope.load rfl rfl ?_))))
  refine Reg.op rfl (Ope.cf rfl rfl (f83 rest tl S hS) hb1 ?_)
  refine Reg.op rfl (Ope.call rfl rfl rfl ((f82 _ _ _).mono (fun v h' q=>?_) fun v h' q=>by obtain ⟨q1,rfl,rfl⟩:=q;exact fin_panic rfl (by unfold errT;rw [if_pos q1];exact ⟨by decide,rfl⟩)))
  obtain ⟨hV,rfl,rfl⟩:=q
  refine Reg.nil (Run.seq (Run.region (cx_ok _ _ _) (Reg.op rfl (Ope.load rfl rfl ?_))))
  refine Reg.op rfl (Ope.call rfl rfl rfl ((f82 _ _ _).mono (fun v h' q=>?_) fun v h' q=>by obtain ⟨q1,rfl,rfl⟩:=q;exact fin_panic rfl (by unfold errT;rw [if_neg (by rw [hV];decide),if_pos q1];exact ⟨by decide,rfl⟩)))
  obtain ⟨hC,rfl,rfl⟩:=q
  obtain ⟨hr,hS5,hok⟩:=relOk_of hV
  refine Reg.nil (Run.seq (Run.region (cx_ok _ _ _) (Reg.op rfl (Ope.load rfl rfl ?_))))
  refine Reg.op rfl (Ope.call rfl rfl rfl ((f84j1 [] rest tl htl S hS5).mono (fun v h' q=>?_) fun _ _ q=>q.elim))
  obtain ⟨m,hm,rfl,rfl⟩:=q
  refine Reg.op rfl (Ope.newL rfl ?_)
  refine Reg.op0 (Ope.store rfl rfl hget_hd rfl rfl rfl ?_)
  refine Reg.nil (Run.seq (Run.frz (d:=4) true rfl hget_hd rfl ?_))
  refine Run.wide (m:=m+1) (l':=[(1,some (mapB S))]) (Nat.le_refl _) ⟨(hget_tl (by omega)).trans ((hget_tl (by omega)).trans ((hget_tl (by omega)).trans rfl)),trivial⟩ ?_
  refine Run.draw (cx_ok _ _ _) [(0,false),(1,false),(2,true),(3,true),(4,true),(5,true),(6,true)] (by kernel_rfl) (Dra.op' rfl rfl rfl (.load rfl) (Ope.load rfl rfl ?_))
  refine Dra.op' rfl rfl rfl (.load rfl) (Ope.load rfl rfl ?_)
  refine Dra.op' rfl rfl rfl .sure (Ope.load rfl rfl ?_)
  refine Dra.op' rfl rfl rfl .sure (Ope.callX2 (j:=1) rfl rfl rfl (f86 rest tl S hS5 1) (bd_not1 rest tl htl S _ _ (by decide)) (mapB_bd S _) rfl (below1 (fun b h=>by cases h)) (by omega) (fun v q=>?_) (fun v q=>q.elim))
  obtain rfl:=q
  refine Dra.op' rfl rfl rfl .sure (Ope.callX2 (j:=1) rfl rfl rfl (f85j1 rest hr tl htl S hS5 hok (allE S) (allE_lt hS5)) (bd_not rest tl htl S _ _ (by decide) _) (mapB_bd S _) rfl (below1 (fun b h=>by cases h)) (by omega) (fun v q=>?_) (fun v q=>by obtain ⟨q1,rfl⟩:=q;exact fin_panic rfl (by unfold errT;rw [if_neg (by rw [hV];decide),if_neg (by rw [hC];decide),if_pos q1];exact ⟨by decide,rfl⟩)))
  obtain ⟨hT,rfl⟩:=q
  have herr:errT rest S c e=e:=by
    unfold errT
    rw [if_neg (by rw [hV];decide),if_neg (by rw [hC];decide),if_neg (by rw [hT];decide)]
  refine Dra.op' rfl rfl rfl .sure (Ope.call rfl rfl rfl (PFun.call (hask hV hC hT) hbT (fun v q=>?_) (fun v q=>by obtain ⟨q1,rfl⟩:=q;exact fin_panic rfl (by rw [herr];exact ⟨q1,rfl⟩))))
  obtain ⟨he,rfl⟩:=q
  refine Dra.op' rfl rfl rfl .sure (Ope.asg rfl ?_)
  refine Dra.nil (Run.ret (fin_ret (.tmp rfl .nil) rfl ?_))
  exact ⟨herr.trans he,rfl⟩
include htl in
theorem f81 (hS:S.length≤1000000) (c:Bool) (g:Nat) (cap:List PV) (hcb:PV.bds 0 cap=true) (a b e:Int)
    (hask:relOk rest S=true→c=true→okT (tabA S rest)=true→Outs P0 g (.fp (.agg (tabC (tabA S rest)))::cap) (.agg [I a,I b]) e) :
    Outs P0 81 (capT rest tl S c g cap) (.agg [I a,I b]) (errT rest S c e):=by
  have hb1:=bd_relF rest tl htl S
  have hbT:PV.bds 0 (.fp (.agg (tabC (tabA S rest)))::cap)=true:=by
    have:PV.bd 0 (.fp (.agg (tabC (tabA S rest))))=true:=rfl
    simp only [PV.bds,this,hcb,Bool.and_self]
  unfold Outs
  refine PFun.of (C:=c81) (cx_ok _ _ _) rfl (fn:=Try.f81) (by kernel_rfl) (c:=_) rfl rfl rfl ?_
  refine Run.seq (Run.region (cx_ok _ _ _) (Reg.op rfl (Ope.newL rfl ?_)))
  refine Reg.nil (Run.seq (Run.region (cx_ok _ _ _) (Reg.op rfl (Ope.load rfl rfl ?_))))
  refine Reg.op rfl (Ope.cf rfl rfl (f83 rest tl S hS) hb1 ?_)
  refine Reg.op rfl (Ope.call rfl rfl rfl ((f82 _ _ _).mono (fun v h' q=>?_) fun v h' q=>by obtain ⟨q1,rfl,rfl⟩:=q;exact fin_panic rfl (by unfold errT;rw [if_pos q1];exact ⟨by decide,rfl⟩)))
  obtain ⟨hV,rfl,rfl⟩:=q
  refine Reg.nil (Run.seq (Run.region (cx_ok _ _ _) (Reg.op rfl (Ope.load rfl rfl ?_))))
  refine Reg.op rfl (Ope.call rfl rfl rfl ((f82 _ _ _).mono (fun v h' q=>?_) fun v h' q=>by obtain ⟨q1,rfl,rfl⟩:=q;exact fin_panic rfl (by unfold errT;rw [if_neg (by rw [hV];decide),if_pos q1];exact ⟨by decide,rfl⟩)))
  obtain ⟨hC,rfl,rfl⟩:=q
  obtain ⟨hr,hS5,hok⟩:=relOk_of hV
  refine Reg.nil (Run.seq (Run.region (cx_ok _ _ _) (Reg.op rfl (Ope.load rfl rfl ?_))))
  refine Reg.op rfl (Ope.call rfl rfl rfl ((f84j2 [I 0,I 0] rest tl htl S hS5).mono (fun v h' q=>?_) fun _ _ q=>q.elim))
  obtain ⟨m,hm,rfl,rfl⟩:=q
  refine Reg.op rfl (Ope.newL rfl ?_)
  refine Reg.op0 (Ope.store rfl rfl hget_hd rfl rfl rfl ?_)
  refine Reg.nil (Run.seq (Run.frz (d:=4) true rfl hget_hd rfl ?_))
  refine Run.wide (m:=m+1) (l':=[(2,some (mapB S)),(0,some (.cells [I 0,I 0]))]) (Nat.le_refl _) ⟨(hget_tl (by omega)).trans ((hget_tl (by omega)).trans ((hget_tl (by omega)).trans rfl)),(hget_tl (by omega)).trans ((hget_tl (by omega)).trans ((hget_tl (by omega)).trans rfl)),trivial⟩ ?_
  refine Run.draw (cx_ok _ _ _) [(0,false),(1,false),(2,true),(3,true),(4,true),(5,true),(6,true)] (by kernel_rfl) (Dra.op' rfl rfl rfl (.load rfl) (Ope.load rfl rfl ?_))
  refine Dra.op' rfl rfl rfl (.load rfl) (Ope.load rfl rfl ?_)
  refine Dra.op' rfl rfl rfl .sure (Ope.load rfl rfl ?_)
  refine Dra.op' rfl rfl rfl .sure (Ope.callX2 (j:=2) rfl rfl rfl (f86 rest tl S hS5 2) (bd_not1 rest tl htl S _ _ (by decide)) (mapB_bd S _) rfl (below2 (fun b h=>by cases h;rfl) (fun b h=>by cases h)) (by omega) (fun v q=>?_) (fun v q=>q.elim))
  obtain rfl:=q
  refine Dra.op' rfl rfl rfl .sure (Ope.callX2 (j:=2) rfl rfl rfl (f85j2 rest hr tl htl S hS5 hok (allE S) (allE_lt hS5)) (bd_not rest tl htl S _ _ (by decide) _) (mapB_bd S _) rfl (below2 (fun b h=>by cases h;rfl) (fun b h=>by cases h)) (by omega) (fun v q=>?_) (fun v q=>by obtain ⟨q1,rfl⟩:=q;exact fin_panic rfl (by unfold errT;rw [if_neg (by rw [hV];decide),if_neg (by rw [hC];decide),if_pos q1];exact ⟨by decide,rfl⟩)))
  obtain ⟨hT,rfl⟩:=q
  have herr:errT rest S c e=e:=by
    unfold errT
    rw [if_neg (by rw [hV];decide),if_neg (by rw [hC];decide),if_neg (by rw [hT];decide)]
  refine Dra.op' rfl rfl rfl .sure (Ope.call rfl rfl rfl (PFun.call (hask hV hC hT) hbT (fun v q=>?_) (fun v q=>by obtain ⟨q1,rfl⟩:=q;exact fin_panic rfl (by rw [herr];exact ⟨q1,rfl⟩))))
  obtain ⟨he,rfl⟩:=q
  refine Dra.op' rfl rfl rfl .sure (Ope.store rfl rfl rfl rfl rfl rfl ?_)
  refine Dra.nil (Run.ret (fin_ret (.cell rfl rfl .nil) rfl ?_))
  exact ⟨herr.trans he,rfl⟩
end
end Go.Pv
namespace Go.Pv
open Go.Proofs Go.Am
set_option maxRecDepth 10000
theorem ansI {fa:Nat} {caps:List PV} {a e:Int} (h:Outs P0 fa caps (I a) e) (hb:PV.bds 0 caps=true):Fn P0 91 [.fn (.func fa) [] caps] (.tup [I (if e=0 then a else 0),I e]):=by
  by_cases he:e=0
  · rw [if_pos he]
    have:=f91ok (h.fn he) hb
    rw [he];exact this
  · rw [if_neg he]
    exact f91er (h.pan he) hb
def spI (e:Int) (p:Int×Int):Int×Int:=if e=0 then p else (0,0)
theorem ansS {fa:Nat} {caps:List PV} {p:Int×Int} {e:Int} (h:Outs P0 fa caps (.agg [I p.1,I p.2]) e) (hb:PV.bds 0 caps=true):Fn P0 80 [.fn (.func fa) [] caps] (.tup [.agg [I (spI e p).1,I (spI e p).2],I e]):=by
  by_cases he:e=0
  · unfold spI
    rw [if_pos he]
    have:=f80ok (h.fn he) hb
    rw [he];exact this
  · unfold spI
    rw [if_neg he]
    exact f80er (h.pan he) hb
theorem f46 (t:Tab) (ht:t.bnd) (k:Nat) (hk:k < 5):Fn P0 46 [.fp (.agg (tabC t)),.fp (I k)] (.agg [I (t.min (2 * k)).1,I (t.min (2 * k)).2]):=by
  refine PFun.of (C:=c46) (cx_ok _ _ _) rfl (fn:=Try.f46) (by kernel_rfl) (c:=_) rfl rfl rfl ?_
  refine Run.seq (Run.region (cx_ok _ _ _) (Reg.op rfl (Ope.newL rfl ?_)))
  refine Reg.nil (Run.seq (Run.region (cx_ok _ _ _) (Reg.op rfl (Ope.mov rfl ?_))))
  refine Reg.op rfl (Ope.load rfl rfl ?_)
  refine Reg.op rfl (Ope.cf rfl rfl (f48n k (by omega)) rfl ?_)
  refine Reg.op rfl (Ope.cf rfl rfl (f47 t ht (2 * k) (by omega)) rfl ?_)
  refine Reg.op0 (Ope.store rfl rfl rfl rfl rfl rfl ?_)
  exact Reg.nil (Run.ret (fin_ret (.cell rfl rfl .nil) rfl rfl))
def isSt (S:List Sti) (k:Int):Bool:=decide (0≤k) && decide (k < S.length)
theorem isSt_nat {S:List Sti} {k:Int} (h:isSt S k=true):∃ q:Nat,k=q∧q < S.length:=by
  simp only [isSt,Bool.and_eq_true,decide_eq_true_eq] at h
  exact ⟨k.toNat,by omega,by omega⟩
section
variable (rest:Int) (tl:Tail) (htl:tl.isOwn=false) (S:List Sti)
def onE (k:Int):Int×Int:=spI (errT rest S (isSt S k) 0) ((tabA S rest).min (2 * k.toNat))
def offE (k:Int):Int×Int:=spI (errT rest S (isSt S k) 0) ((tabA S rest).min (2 * k.toNat+1))
def lenE (k:Int):Int×Int:=spI (errT rest S (isSt S k) 0) ((tabA S rest).btw (2 * k.toNat) (2 * k.toNat+1))
theorem err_at {c:Bool} {e:Int} (h1:relOk rest S=true) (h2:c=true) (h3:okT (tabA S rest)=true):errT rest S c e=e:=by
  unfold errT
  rw [if_neg (by rw [h1];decide),if_neg (by rw [h2];decide),if_neg (by rw [h3];decide)]
include htl in
theorem bds_cap (c:Bool) (g:Nat) (cap:List PV) (hc:PV.bds 0 cap=true):PV.bds 0 (capT rest tl S c g cap)=true:=by
  simp only [PV.bds,PV.bd,bd_sl (f:=Sti.v) htl (fun _=>rfl) S,hc,Bool.and_true]
include htl in
theorem f14 (hS:S.length≤1000000) (k:Int):Fn P0 14 [relV rest tl S,I k] (.tup [spV (onE rest S k),I (errT rest S (isSt S k) 0)]):=by
  have hb:=bd_told rest tl htl S 46 (isSt S k) [.fp (I k)] rfl
  have hask:relOk rest S=true→isSt S k=true→okT (tabA S rest)=true→Outs P0 46 (.fp (.agg (tabC (tabA S rest)))::[.fp (I k)]) (.agg [I ((tabA S rest).min (2 * k.toNat)).1,I ((tabA S rest).min (2 * k.toNat)).2]) 0:=fun h1 h2 h3=>by
    obtain ⟨q,rfl,hq⟩:=isSt_nat h2
    exact .of (f46 _ (tabS_bnd h3) q (by have:=(relOk_of h1).2.1;omega))
  have hf:=ansS (f81 rest tl htl S hS (isSt S k) 46 [.fp (I k)] rfl _ _ 0 hask) (bds_cap rest tl htl S (isSt S k) _ _ rfl)
  refine PFun.of (C:=c14) (cx_ok _ _ _) rfl (fn:=Try.f14) (by kernel_rfl) (c:=_) rfl rfl rfl ?_
  refine Run.seq (Run.region (cx_ok _ _ _) (Reg.op rfl (Ope.boxF rfl rfl ?_)))
  refine Reg.op rfl (Ope.boxF rfl rfl ?_)
  refine Reg.op rfl (Ope.newL rfl ?_)
  refine Reg.op rfl (Ope.asg rfl ?_)
  refine Reg.nil (Run.seq (Run.draw (cx_ok _ _ _) [(0,false),(1,true),(2,true),(4,true),(3,true),(5,true),(6,true),(7,true),(8,true),(9,true)] (by kernel_rfl) (Dra.op' rfl rfl rfl (.load rfl) (Ope.load rfl rfl ?_))))
  refine Dra.op' rfl rfl rfl .sure (Ope.load rfl rfl ?_)
  refine Dra.op' rfl rfl rfl .sure (Ope.load rfl rfl ?_)
  refine Dra.op' rfl rfl rfl .sure (Ope.mkf rfl rfl ?_)
  refine Dra.op' rfl rfl rfl .sure (Ope.cf rfl rfl (f45 rest tl S hS k) (bd_is rest tl htl S k) ?_)
  refine Dra.op' rfl rfl rfl .sure (Ope.cf rfl rfl (f44 rest tl htl S (isSt S k) 46 [.fp (I k)] rfl _ _ _ hf) hb ?_)
  refine Dra.op' rfl rfl rfl .sure (Ope.ext rfl rfl ?_)
  refine Dra.op' rfl rfl rfl .sure (Ope.ext rfl rfl ?_)
  refine Dra.op' rfl rfl rfl .sure (Ope.store rfl rfl rfl rfl rfl rfl ?_)
  refine Dra.op' rfl rfl rfl .sure (Ope.asg rfl ?_)
  exact Dra.nil (Run.ret (fin_ret (.cell rfl rfl (.tmp rfl .nil)) rfl rfl))
include htl in
theorem f16t (hS:S.length≤1000000) (k:Int):Fn P0 16 [relV rest tl S,I k] (.tup [spV (offE rest S k),I (errT rest S (isSt S k) 0)]):=by
  have hask:relOk rest S=true→isSt S k=true→okT (tabA S rest)=true→Outs P0 51 (.fp (.agg (tabC (tabA S rest)))::[.fp (I k)]) (.agg [I ((tabA S rest).min (2 * k.toNat+1)).1,I ((tabA S rest).min (2 * k.toNat+1)).2]) 0:=fun h1 h2 h3=>by
    obtain ⟨q,rfl,hq⟩:=isSt_nat h2
    exact .of (f51 _ (tabS_bnd h3) q (by have:=(relOk_of h1).2.1;omega))
  exact f16 rest tl htl S hS k _ _ _ (ansS (f81 rest tl htl S hS (isSt S k) 51 [.fp (I k)] rfl _ _ 0 hask) (bds_cap rest tl htl S (isSt S k) _ _ rfl))
include htl in
theorem f18t (hS:S.length≤1000000) (k:Int):Fn P0 18 [relV rest tl S,I k] (.tup [spV (lenE rest S k),I (errT rest S (isSt S k) 0)]):=by
  have hask:relOk rest S=true→isSt S k=true→okT (tabA S rest)=true→Outs P0 53 (.fp (.agg (tabC (tabA S rest)))::[.fp (I k)]) (.agg [I ((tabA S rest).btw (2 * k.toNat) (2 * k.toNat+1)).1,I ((tabA S rest).btw (2 * k.toNat) (2 * k.toNat+1)).2]) 0:=fun h1 h2 h3=>by
    obtain ⟨q,rfl,hq⟩:=isSt_nat h2
    exact .of (f53 _ (tabS_bnd h3) q (by have:=(relOk_of h1).2.1;omega))
  exact f18 rest tl htl S hS k _ _ _ (ansS (f81 rest tl htl S hS (isSt S k) 53 [.fp (I k)] rfl _ _ 0 hask) (bds_cap rest tl htl S (isSt S k) _ _ rfl))
def hanC (S:List Sti) (k:Int):Bool:=isSt S k && isSt S (k+1)
def hanE (k:Int):Int:=if errT rest S (hanC S k) 0=0 then (tabA S rest).hand k.toNat else 0
include htl in
theorem hanF (hS:S.length≤1000000) (k:Int):Fn P0 91 [.fn (.func 92) [] (capT rest tl S (hanC S k) 57 [.fp (I k)])] (.tup [I (hanE rest S k),I (errT rest S (hanC S k) 0)]):=by
  have hask:relOk rest S=true→hanC S k=true→okT (tabA S rest)=true→Outs P0 57 (.fp (.agg (tabC (tabA S rest)))::[.fp (I k)]) (I ((tabA S rest).hand k.toNat)) 0:=fun h1 h2 h3=>by
    simp only [hanC,Bool.and_eq_true] at h2
    obtain ⟨q,rfl,hq⟩:=isSt_nat h2.1
    obtain ⟨q1,hq1,hq2⟩:=isSt_nat h2.2
    exact .of (f57 _ (tabS_bnd h3) q (by have:=(relOk_of h1).2.1;omega))
  exact ansI (f92 rest tl htl S hS (hanC S k) 57 [.fp (I k)] rfl _ 0 hask) (bds_cap rest tl htl S (hanC S k) _ _ rfl)
include htl in
theorem f20 (hS:S.length≤1000000) (k:Int):Fn P0 20 [relV rest tl S,I k] (.tup [I (hanE rest S k),I (errT rest S (hanC S k) 0)]):=by
  have hf:=hanF rest tl htl S hS k
  cases hk:isSt S k with
  | true =>
    have hb:=bd_told rest tl htl S 57 (isSt S (k+1)) [.fp (I k)] rfl
    have hc:hanC S k=isSt S (k+1):=by unfold hanC;rw [hk,Bool.true_and]
    rw [hc] at hf ⊢
    have hkn:=isSt_nat hk
    have hst:=f45 rest tl S hS k
    rw [show (decide (0≤k) && decide (k < S.length))=true from hk] at hst
    obtain ⟨q,hkq,hq⟩:=hkn
    refine PFun.of (C:=c20) (cx_ok _ _ _) rfl (fn:=Try.f20) (by kernel_rfl) (c:=_) rfl rfl rfl ?_
    refine Run.seq (Run.region (cx_ok _ _ _) (Reg.op rfl (Ope.boxF rfl rfl ?_)))
    refine Reg.op rfl (Ope.boxF rfl rfl ?_)
    refine Reg.op rfl (Ope.asg rfl ?_)
    refine Reg.op rfl (Ope.asg rfl ?_)
    refine Reg.nil (Run.seq (Run.draw (cx_ok _ _ _) [(0,false),(1,true),(2,true),(10,true),(3,true),(4,true),(5,true),(6,true),(7,true),(8,true),(9,true),(11,true),(12,true),(13,true),(14,true),(15,true)] (by kernel_rfl) (Dra.op' rfl rfl rfl (.load rfl) (Ope.load rfl rfl ?_))))
    refine Dra.op' rfl rfl rfl .sure (Ope.load rfl rfl ?_)
    refine Dra.op' rfl rfl rfl .sure (Ope.load rfl rfl ?_)
    refine Dra.op' rfl rfl rfl .sure (Ope.mkf rfl rfl ?_)
    refine Dra.op' rfl rfl rfl .sure (Ope.cf rfl rfl hst (bd_is rest tl htl S k) ?_)
    refine Dra.op' rfl rfl rfl .sure (Ope.mov rfl ?_)
    refine Dra.on' rfl rfl rfl rfl rfl .sure (Ope.load rfl rfl ?_)
    refine Dra.on' rfl rfl rfl rfl rfl .sure (Ope.load rfl rfl ?_)
    refine Dra.on' rfl rfl rfl rfl rfl .sure (Ope.add rfl rfl (by omega) ?_)
    refine Dra.on' rfl rfl rfl rfl rfl .sure (Ope.cf rfl rfl (f45 rest tl S hS (k+1)) (bd_is rest tl htl S (k+1)) ?_)
    refine Dra.op' rfl rfl rfl .sure (Ope.pickT rfl rfl ?_)
    refine Dra.op' rfl rfl rfl .sure (Ope.cf rfl rfl (f56 rest tl htl S (isSt S (k+1)) 57 [.fp (I k)] rfl _ _ hf) hb ?_)
    refine Dra.op' rfl rfl rfl .sure (Ope.ext rfl rfl ?_)
    refine Dra.op' rfl rfl rfl .sure (Ope.ext rfl rfl ?_)
    refine Dra.op' rfl rfl rfl .sure (Ope.asg rfl ?_)
    refine Dra.op' rfl rfl rfl .sure (Ope.asg rfl ?_)
    exact Dra.nil (Run.ret (fin_ret (.tmp rfl (.tmp rfl .nil)) rfl rfl))
  | false =>
    have hb:=bd_told rest tl htl S 57 false [.fp (I k)] rfl
    have hc:hanC S k=false:=by unfold hanC;rw [hk,Bool.false_and]
    rw [hc] at hf ⊢
    have hst:=f45 rest tl S hS k
    rw [show (decide (0≤k) && decide (k < S.length))=false from hk] at hst
    refine PFun.of (C:=c20) (cx_ok _ _ _) rfl (fn:=Try.f20) (by kernel_rfl) (c:=_) rfl rfl rfl ?_
    refine Run.seq (Run.region (cx_ok _ _ _) (Reg.op rfl (Ope.boxF rfl rfl ?_)))
    refine Reg.op rfl (Ope.boxF rfl rfl ?_)
    refine Reg.op rfl (Ope.asg rfl ?_)
    refine Reg.op rfl (Ope.asg rfl ?_)
    refine Reg.nil (Run.seq (Run.draw (cx_ok _ _ _) [(0,false),(1,true),(2,true),(10,true),(3,true),(4,true),(5,true),(6,true),(7,true),(8,true),(9,true),(11,true),(12,true),(13,true),(14,true),(15,true)] (by kernel_rfl) (Dra.op' rfl rfl rfl (.load rfl) (Ope.load rfl rfl ?_))))
    refine Dra.op' rfl rfl rfl .sure (Ope.load rfl rfl ?_)
    refine Dra.op' rfl rfl rfl .sure (Ope.load rfl rfl ?_)
    refine Dra.op' rfl rfl rfl .sure (Ope.mkf rfl rfl ?_)
    refine Dra.op' rfl rfl rfl .sure (Ope.cf rfl rfl hst (bd_is rest tl htl S k) ?_)
    refine Dra.op' rfl rfl rfl .sure (Ope.mov rfl ?_)
    refine Dra.off' rfl rfl rfl (.inl rfl) rfl (Dra.off' rfl rfl rfl (.inl rfl) rfl (Dra.off' rfl rfl rfl (.inl rfl) rfl (Dra.off' rfl rfl rfl (.inl rfl) rfl (Dra.op' rfl rfl rfl .sure (Ope.pickF rfl rfl ?_)))))
    refine Dra.op' rfl rfl rfl .sure (Ope.cf rfl rfl (f56 rest tl htl S false 57 [.fp (I k)] rfl _ _ hf) hb ?_)
    refine Dra.op' rfl rfl rfl .sure (Ope.ext rfl rfl ?_)
    refine Dra.op' rfl rfl rfl .sure (Ope.ext rfl rfl ?_)
    refine Dra.op' rfl rfl rfl .sure (Ope.asg rfl ?_)
    refine Dra.op' rfl rfl rfl .sure (Ope.asg rfl ?_)
    exact Dra.nil (Run.ret (fin_ret (.tmp rfl (.tmp rfl .nil)) rfl rfl))
end
def firstN (p:Int→Bool):Nat→Int→Option Int
  | 0,_=>none
  | d+1,a=>if p a=true then some a else firstN p d (a+1)
def firstM (p:Int→Bool) (a b:Int):Option Int:=firstN p (b+1 - a).toNat a
theorem firstN_some {p:Int→Bool}:∀ (d:Nat) (a m:Int),firstN p d a=some m→a≤m∧m < a+d∧p m=true∧∀ x,a≤x→x < m→p x=false
  | 0,a,m,h=>by cases h
  | d + 1, a, m, h => by
    simp only [firstN] at h
    split at h
    · next hp=>cases h;exact ⟨Int.le_refl _,by omega,hp,fun x h1 h2=>by omega⟩
    · next hp =>
      obtain ⟨h1,h2,h3,h4⟩:=firstN_some d (a+1) m h
      refine ⟨by omega,by omega,h3,fun x hx1 hx2=>?_⟩
      by_cases hxa:x=a
      · subst hxa;simpa using hp
      · exact h4 x (by omega) hx2
theorem firstN_none {p:Int→Bool}:∀ (d:Nat) (a:Int),firstN p d a=none→∀ x,a≤x→x < a+d→p x=false
  | 0,a,_,x,h1,h2=>by omega
  | d + 1, a, h, x, h1, h2 => by
    simp only [firstN] at h
    split at h
    · cases h
    · next hp =>
      by_cases hxa:x=a
      · subst hxa;simpa using hp
      · exact firstN_none d (a+1) h x (by omega) (by omega)
theorem firstM_some {p:Int→Bool} {a b m:Int} (h:firstM p a b=some m):a≤m∧m≤b∧p m=true∧∀ x,a≤x→x < m→p x=false:=by
  obtain ⟨h1,h2,h3⟩:=firstN_some _ _ _ h
  exact ⟨h1,by omega,h3⟩
theorem firstM_none {p:Int→Bool} {a b:Int} (h:firstM p a b=none):∀ x,a≤x→x≤b→p x=false :=
  fun x h1 h2=>firstN_none _ _ h x h1 (by omega)
theorem firstM_of {p:Int→Bool} {a b m:Int} (h1:a≤m) (h2:m≤b) (h3:p m=true) (h4:∀ x,a≤x→x < m→p x=false):firstM p a b=some m:=by
  cases h:firstM p a b with
  | none=>rw [firstM_none h m h1 h2] at h3;cases h3
  | some q =>
    obtain ⟨g1,g2,g3,g4⟩:=firstM_some h
    rcases Int.lt_trichotomy m q with hlt | rfl | hlt
    · rw [g4 m h1 hlt] at h3;cases h3
    · rfl
    · rw [h4 q g1 hlt] at g3;cases g3
theorem f62p (g:Nat) (cap:List PV) (p:Int→Bool) (hb:∀ m,PV.bds 0 (I m::cap)=true) (hq:∀ m,Fn P0 g (I m::cap) (B (p m))) (a b:Int) (ha:0≤a) (hb6:b≤600) (hab:a≤b) (hn:∀ x,a≤x→x≤b→p x=false) :
    Pan P0 62 [.agg [.fn (.func g) [] cap],I a,I b] (.ifc 29 (I 4)):=by
  have hbd:PV.bd 0 (.agg [.fn (.func g) [] cap])=true:=by
    have:=hb 0
    simp only [PV.bds,Bool.and_eq_true] at this
    simp only [PV.bd,PV.bds,this.2,Bool.and_self]
  refine PFun.of (C:=c62) (cx_ok _ _ _) rfl (fn:=Try.f62) (by kernel_rfl) (c:=_) rfl rfl rfl ?_
  refine Run.seq (Run.region (cx_ok _ _ _) (Reg.op rfl (Ope.boxF rfl rfl ?_)))
  refine Reg.op rfl (Ope.asg rfl ?_)
  refine Reg.nil (Run.seq (Run.seq (Run.region (cx_ok _ _ _) (Reg.op rfl (Ope.mov rfl ?_)))))
  refine Reg.op rfl (Ope.asg rfl ?_)
  refine Reg.nil (Run.block (Run.loop (α:=Nat) (fun i=>[(2,I b),(3,.fp (.agg [.fn (.func g) [] cap])),(7,I (a+i))]) (fun _=>HE 0 []) (fun i=>a+i≤b+1) (fun i=>(b+1 - a).toNat - i) 0 ⟨rfl,rfl,congrArg (fun x=>some (I x)) (Int.add_zero a).symm,trivial⟩ rfl (by show a+(0:Nat)≤b+1;omega) (fun i hi=>?_)))
  refine Run.seq (Run.seq (Run.region (cx_ok _ _ _) (Reg.op rfl (Ope.mov rfl ?_))))
  refine Reg.op rfl (Ope.mov rfl ?_)
  refine Reg.op rfl (Ope.le rfl rfl ?_)
  refine Reg.nil (Run.condX rfl (fun hc=>?_) fun hc=>?_)
  ·refine Run.skip (Run.seq (Run.block (Run.seq ?_)))
   have hpf:p (a+i)=false:=hn _ (by omega) hc
   refine Run.region (cx_ok _ _ _) (Reg.op rfl (Ope.fld rfl rfl ?_))
   refine Reg.op rfl (Ope.load rfl rfl ?_)
   refine Reg.op rfl (Ope.mov rfl ?_)
   refine Reg.op rfl (Ope.cf rfl rfl (hq (a+i)) (hb _) ?_)
   refine Reg.nil (Run.condX rfl (fun hc=>?_) fun hc=>?_)
   ·(exfalso;rw [hpf] at hc;cases hc)
   ·refine Run.skip (Run.bend (Run.region (cx_ok _ _ _) (Reg.op rfl (Ope.mov rfl ?_))))
    refine Reg.op rfl (Ope.add rfl rfl (by omega) ?_)
    refine Reg.op rfl (Ope.asg rfl ?_)
    exact Reg.nil (Run.lend ⟨i+1,by omega,by show a+((i+1:Nat):Int)≤b+1;omega,⟨rfl,rfl,congrArg (fun x=>some (I x)) (by omega),trivial⟩,rfl,rfl⟩)
  ·refine Run.exit (Jmp.code (Jmp.round (Jmp.here (Run.region (cx_ok _ _ _) (Reg.op rfl (Ope.ifc rfl ?_))))))
   refine Reg.op0 (Ope.panic rfl ?_)
   exact fin_panic rfl rfl
section
variable (rest:Int) (tl:Tail) (htl:tl.isOwn=false) (S:List Sti)
def gapM (a b:Int):Option Int:=firstM (fun x=>(tabA S rest).gap x S.length 0) a b
def nobM (a b:Int):Option Int:=firstM (fun x=>(tabA S rest).empty S.length x) a b
def noE:Option Int→Int
  | some _=>0
  | none=>4
def minE (o:Option Int) (a b:Int):Int:=if errT rest S (minsOk a b) (noE o)=0 then o.getD 0 else 0
theorem bdc (t:Tab) (tl:Tail) (htl:tl.isOwn=false) (S:List Sti) (rest m:Int):PV.bds 0 (I m::[.fp (.fp (.agg (tabC t))),.fp (relV rest tl S)])=true:=by
  have h1:=bd_rel rest tl htl S
  have h2:=bd_tab t
  simp only [PV.bds,PV.bd] at h1 h2 ⊢
  simp only [h2,bd_sl (f:=Sti.v) htl (fun _=>rfl) S,Bool.and_true]
theorem f65p (t:Tab) (ht:t.bnd) (rest:Int) (tl:Tail) (htl:tl.isOwn=false) (S:List Sti) (hS:S.length≤5) (a b:Int) (ha:0≤a) (hb6:b≤600) (hab:a≤b) (hn:∀ x,a≤x→x≤b→t.gap x S.length 0=false) :
    Pan P0 65 [.fp (.agg (tabC t)),.fp (relV rest tl S),.fp (I a),.fp (I b)] (.ifc 29 (I 4)):=by
  have hbc:=bdc t tl htl S rest
  have h92:=f62p 66 _ (fun x=>t.gap x S.length 0) hbc (fun m=>f66 t ht rest tl S hS m) a b ha hb6 hab hn
  have hb92:PV.bds 0 [.agg [.fn (.func 66) [] [.fp (.fp (.agg (tabC t))),.fp (relV rest tl S)]],I a,I b]=true:=by
    have h3:=hbc 0
    simp only [PV.bds,Bool.and_eq_true] at h3
    simp only [PV.bds,PV.bd,Bool.and_eq_true] at h3 ⊢
    simp [h3]
  refine PFun.of (C:=c65) (cx_ok _ _ _) rfl (fn:=Try.f65) (by kernel_rfl) (c:=_) rfl rfl rfl ?_
  refine Run.seq (Run.region (cx_ok _ _ _) (Reg.op rfl (Ope.boxF rfl rfl ?_)))
  refine Reg.op rfl (Ope.asg rfl ?_)
  refine Reg.nil (Run.seq (Run.region (cx_ok _ _ _) (Reg.op rfl (Ope.mkf rfl rfl ?_))))
  refine Reg.op rfl (Ope.bld rfl rfl ?_)
  refine Reg.op rfl (Ope.newL rfl ?_)
  refine Reg.op0 (Ope.store rfl rfl rfl rfl rfl rfl ?_)
  refine Reg.nil (Run.seq (Run.region (cx_ok _ _ _) (Reg.op rfl (Ope.load rfl rfl ?_))))
  refine Reg.op rfl (Ope.load rfl rfl ?_)
  refine Reg.op rfl (Ope.load rfl rfl ?_)
  refine Reg.op rfl (Ope.cp rfl rfl h92 hb92 (fin_panic rfl rfl))
theorem f59p (t:Tab) (ht:t.bnd) (rest:Int) (tl:Tail) (htl:tl.isOwn=false) (S:List Sti) (hS:S.length≤5) (a b:Int) (ha:0≤a) (hb6:b≤600) (hab:a≤b) (hn:∀ x,a≤x→x≤b→t.empty S.length x=false) :
    Pan P0 59 [.fp (.agg (tabC t)),.fp (relV rest tl S),.fp (I a),.fp (I b)] (.ifc 29 (I 4)):=by
  have hbc:=bdc t tl htl S rest
  have h92:=f62p 60 _ (fun x=>t.empty S.length x) hbc (fun m=>f60 t ht rest tl S hS m) a b ha hb6 hab hn
  have hb92:PV.bds 0 [.agg [.fn (.func 60) [] [.fp (.fp (.agg (tabC t))),.fp (relV rest tl S)]],I a,I b]=true:=by
    have h3:=hbc 0
    simp only [PV.bds,Bool.and_eq_true] at h3
    simp only [PV.bds,PV.bd,Bool.and_eq_true] at h3 ⊢
    simp [h3]
  refine PFun.of (C:=c59) (cx_ok _ _ _) rfl (fn:=Try.f59) (by kernel_rfl) (c:=_) rfl rfl rfl ?_
  refine Run.seq (Run.region (cx_ok _ _ _) (Reg.op rfl (Ope.boxF rfl rfl ?_)))
  refine Reg.op rfl (Ope.asg rfl ?_)
  refine Reg.nil (Run.seq (Run.region (cx_ok _ _ _) (Reg.op rfl (Ope.mkf rfl rfl ?_))))
  refine Reg.op rfl (Ope.bld rfl rfl ?_)
  refine Reg.op rfl (Ope.newL rfl ?_)
  refine Reg.op0 (Ope.store rfl rfl rfl rfl rfl rfl ?_)
  refine Reg.nil (Run.seq (Run.region (cx_ok _ _ _) (Reg.op rfl (Ope.load rfl rfl ?_))))
  refine Reg.op rfl (Ope.load rfl rfl ?_)
  refine Reg.op rfl (Ope.load rfl rfl ?_)
  refine Reg.op rfl (Ope.cp rfl rfl h92 hb92 (fin_panic rfl rfl))
include htl in
theorem f24t (hS:S.length≤1000000) (a b:Int):Fn P0 24 [relV rest tl S,I a,I b] (.tup [I (minE rest S (gapM rest S a b) a b),I (errT rest S (minsOk a b) (noE (gapM rest S a b)))]):=by
  have hask:relOk rest S=true→minsOk a b=true→okT (tabA S rest)=true→Outs P0 65 (.fp (.agg (tabC (tabA S rest)))::[.fp (relV rest tl S),.fp (I a),.fp (I b)]) (I ((gapM rest S a b).getD 0)) (noE (gapM rest S a b)):=fun h1 h2 h3=>by
    obtain ⟨hr,hS5,hv⟩:=relOk_of h1
    simp only [minsOk,Bool.and_eq_true,decide_eq_true_eq] at h2
    have ht:=tabS_bnd h3
    cases hg:gapM rest S a b with
    | none=>exact .er (f65p _ ht rest tl htl S hS5 a b h2.1 h2.2.2 h2.2.1 (firstM_none hg)) (by decide)
    | some m =>
      obtain ⟨g1,g2,g3,g4⟩:=firstM_some hg
      exact .of (f65f _ ht rest tl htl S hS5 a b m h2.1 h2.2.2 g1 g2 g3 g4)
  exact f24 rest tl htl S a b _ _ (ansI (f92 rest tl htl S hS (minsOk a b) 65 _ (bd_cap rest tl htl S a b) _ _ hask) (bds_cap rest tl htl S (minsOk a b) _ _ (bd_cap rest tl htl S a b)))
include htl in
theorem f22t (hS:S.length≤1000000) (a b:Int):Fn P0 22 [relV rest tl S,I a,I b] (.tup [I (minE rest S (nobM rest S a b) a b),I (errT rest S (minsOk a b) (noE (nobM rest S a b)))]):=by
  have hask:relOk rest S=true→minsOk a b=true→okT (tabA S rest)=true→Outs P0 59 (.fp (.agg (tabC (tabA S rest)))::[.fp (relV rest tl S),.fp (I a),.fp (I b)]) (I ((nobM rest S a b).getD 0)) (noE (nobM rest S a b)):=fun h1 h2 h3=>by
    obtain ⟨hr,hS5,hv⟩:=relOk_of h1
    simp only [minsOk,Bool.and_eq_true,decide_eq_true_eq] at h2
    have ht:=tabS_bnd h3
    cases hg:nobM rest S a b with
    | none=>exact .er (f59p _ ht rest tl htl S hS5 a b h2.1 h2.2.2 h2.2.1 (firstM_none hg)) (by decide)
    | some m =>
      obtain ⟨g1,g2,g3,g4⟩:=firstM_some hg
      exact .of (f59f _ ht rest tl htl S hS5 a b m h2.1 h2.2.2 g1 g2 g3 g4)
  exact f22 rest tl htl S a b _ _ (ansI (f92 rest tl htl S hS (minsOk a b) 59 _ (bd_cap rest tl htl S a b) _ _ hask) (bds_cap rest tl htl S (minsOk a b) _ _ (bd_cap rest tl htl S a b)))
end
end Go.Pv
namespace Go.Pv
open Go.Proofs Go.Am
set_option maxRecDepth 10000
section
variable {C:Cx} {e:EL} {m j:Nat} {l:HL} {M:PBlk}
theorem ResE.ofK {fn:Func} {R:PV→PH→Prop} {vs:List PV} (hv:Res C.A e l fn.results.toList vs) (hb:(pone vs).bd (j+1)=true) (hM:M.bd (j+1)) (h0:∀ i,i < j→hget l i=none) (h1:hget l j=some M) (hR:R (pone vs) (HE (j+1) [(j,some M)])):ResE C fn (j+1) R e (HE m l) :=
  ⟨vs,hv.get,_,_,PGh.cut hb (by rw [HE_cutJ h0 h1];exact okJ hM),by rw [HE_cutJ h0 h1];exact hR⟩
end
theorem f107 (rest:Int) (hr:0≤rest∧rest≤60) (tl:Tail) (htl:tl.isOwn=false) (S:List Sti) (hS:S.length≤5) (hv:∀ s∈S,s.ok=true) (E:Nat) (hE:E < 2 ^ 62) :
    KX P0 107 [.fp (notV rest tl S 1),.fp (I E)] 1 (mapB S) (fun v=>okT (tabS S rest E)=true∧v=.fp (.agg (tabC (tabS S rest E)))) fun v=>okT (tabS S rest E)=false∧v=.ifc 29 (I 10):=by
  unfold KX
  refine PCall.ofH (C:=c107) (cx_ok _ _ _) rfl (fn:=Try.f107) (by kernel_rfl) (c:=_) rfl rfl rfl (fun hok=>?_)
  refine Run.seq (Run.region (cx_ok _ _ _) (Reg.op rfl (Ope.asg rfl ?_)))
  refine Reg.nil (Run.seq (Run.region (cx_ok _ _ _) (Reg.op rfl (Ope.load rfl rfl ?_))))
  refine Reg.op rfl (Ope.load rfl rfl ?_)
  refine Reg.op rfl (Ope.callX2 (j:=1) rfl rfl rfl (f85j1 rest hr tl htl S hS hv E hE) (bd_not rest tl htl S _ _ (by decide) _) (mapB_bd S _) rfl (below1 (fun b h=>by cases h)) (by omega) (fun v q=>?_) (fun v q=>by obtain ⟨q1,rfl⟩:=q;exact finK_panic (j:=1) rfl (mapB_bd S _) (below1 rfl) rfl ⟨rfl,q1,rfl⟩))
  obtain ⟨q1,rfl⟩:=q
  refine Reg.op rfl (Ope.asg rfl ?_)
  exact Reg.nil (Run.ret (finK_ret (j:=1) (.tmp rfl .nil) rfl (mapB_bd S _) (below1 rfl) rfl ⟨rfl,q1,rfl⟩))
theorem d115n {q n:Nat} {l:HL} {K:PH→Prop} (hK:K (HE n l)):PDefer A0 P0 115 [.ptr q 0] (.lit .nilifc) (HE n l) K:=by
  refine PDefer.of (C:=c115) (fd:=Try.f115) (by kernel_rfl) rfl rfl rfl rfl rfl rfl rfl rfl rfl rfl ?_
  refine Run.block (Run.seq (Run.region (cx_ok _ _ _) ?_))
  first | refine Reg.op rfl (Ope.eq rfl rfl ?_) | refine Reg.op rfl (Ope.eqI rfl rfl ?_) | refine Reg.op rfl (Ope.eqN rfl rfl rfl ?_)
  refine Reg.nil (Run.condX rfl (fun hc=>?_) fun hc=>?_)
  ·first
   |exact absurd hc (by decide)
   |refine Run.region (cx_ok _ _ _) (Reg.op rfl (Ope.asg rfl ?_))
    exact Reg.nil (Run.bend (Run.done ⟨.inl rfl,trivial,hK⟩))
  ·first
   |exact absurd hc (by decide)
   |refine Run.seq (Run.region (cx_ok _ _ _) ?_)
    first | refine Reg.op rfl (Ope.tasY rfl rfl ?_) | refine Reg.op rfl (Ope.tasN rfl rfl ?_)
    refine Reg.op rfl (Ope.ext rfl rfl ?_)
    refine Reg.op rfl (Ope.ext rfl rfl ?_)
    refine Reg.nil (Run.condX rfl (fun hc=>?_) fun hc=>?_)
    ·first
     |exact absurd hc (by decide)
     |refine Run.seq (Run.region (cx_ok _ _ _) (Reg.op rfl (Ope.asg rfl ?_)))
      refine Reg.nil (Run.region (cx_ok _ _ _) (Reg.op rfl (Ope.mov rfl ?_)))
      refine Reg.op0 (Ope.store rfl rfl rfl rfl rfl rfl ?_)
      exact Reg.nil (Run.bend (Run.done ⟨.inl rfl,trivial,hK⟩))
    ·first
     |exact absurd hc (by decide)
     |refine Run.seq (Run.region (cx_ok _ _ _) (Reg.op rfl (Ope.asg rfl ?_)))
      refine Reg.nil (Run.region (cx_ok _ _ _) (Reg.op0 (Ope.store rfl rfl rfl rfl rfl rfl ?_)))
      exact Reg.nil (Run.bend (Run.done ⟨.inl rfl,trivial,hK⟩))
theorem d115e {q n:Nat} {l:HL} {K:PH→Prop} {k z:Int} (hz:hget l q=some (.cells [I z])) (hK:K (HE n ((q,some (.cells [I k]))::l))):PDefer A0 P0 115 [.ptr q 0] (.ifc 29 (I k)) (HE n l) K:=by
  refine PDefer.of (C:=c115) (fd:=Try.f115) (by kernel_rfl) rfl rfl rfl rfl rfl rfl rfl rfl rfl rfl ?_
  refine Run.block (Run.seq (Run.region (cx_ok _ _ _) ?_))
  first | refine Reg.op rfl (Ope.eq rfl rfl ?_) | refine Reg.op rfl (Ope.eqI rfl rfl ?_) | refine Reg.op rfl (Ope.eqN rfl rfl rfl ?_)
  refine Reg.nil (Run.condX rfl (fun hc=>?_) fun hc=>?_)
  ·first
   |exact absurd hc (by decide)
   |refine Run.region (cx_ok _ _ _) (Reg.op rfl (Ope.asg rfl ?_))
    exact Reg.nil (Run.bend (Run.done ⟨.inl rfl,trivial,hK⟩))
  ·first
   |exact absurd hc (by decide)
   |refine Run.seq (Run.region (cx_ok _ _ _) ?_)
    first | refine Reg.op rfl (Ope.tasY rfl rfl ?_) | refine Reg.op rfl (Ope.tasN rfl rfl ?_)
    refine Reg.op rfl (Ope.ext rfl rfl ?_)
    refine Reg.op rfl (Ope.ext rfl rfl ?_)
    refine Reg.nil (Run.condX rfl (fun hc=>?_) fun hc=>?_)
    ·first
     |exact absurd hc (by decide)
     |refine Run.seq (Run.region (cx_ok _ _ _) (Reg.op rfl (Ope.asg rfl ?_)))
      refine Reg.nil (Run.region (cx_ok _ _ _) (Reg.op rfl (Ope.mov rfl ?_)))
      refine Reg.op0 (Ope.store rfl rfl hz rfl rfl rfl ?_)
      exact Reg.nil (Run.bend (Run.done ⟨.inl rfl,trivial,hK⟩))
    ·first
     |exact absurd hc (by decide)
     |refine Run.seq (Run.region (cx_ok _ _ _) (Reg.op rfl (Ope.asg rfl ?_)))
      refine Reg.nil (Run.region (cx_ok _ _ _) (Reg.op0 (Ope.store rfl rfl rfl rfl rfl rfl ?_)))
      exact Reg.nil (Run.bend (Run.done ⟨.inl rfl,trivial,hK⟩))
theorem f106 {fa:Nat} {caps:List PV} {M:PBlk} (hM:M.bd 2) {c:Bool} {w:PV} {k:Int} (hw:w.bd 2=true) (hf:KX P0 fa caps 1 M (fun v=>c=true∧v=.fp w) fun v=>c=false∧v=.ifc 29 (I k)) (hb:PV.bds 2 caps=true) :
    KX P0 106 [.fn (.func fa) [] caps] 1 M (fun v=>v=.tup [if c=true then .fp w else .lit .nilptr,I (if c=true then 0 else k)]) fun _=>False:=by
  unfold KX
  refine PCall.ofT (C:=c106) (cx_ok _ _ _) (fn:=Try.f106) (by kernel_rfl) (c:=_) rfl rfl ?_
  refine Til.seq rfl rfl ?_
  refine Run.region (cx_ok _ _ _) ?_
  refine Reg.op rfl (Ope.asg rfl ?_)
  refine Reg.op rfl (Ope.newL rfl ?_)
  refine Reg.nil ?_
  refine Run.done ⟨rfl,rfl,?_⟩
  refine Til.defer2 (cx_ok _ _ _) rfl rfl (by kernel_rfl) 2 [(2,.lit .nilptr),(3,.ptr 2 0)] rfl rfl rfl rfl rfl rfl rfl rfl (Ope.mkf rfl rfl ⟨rfl,rfl⟩) rfl rfl ⟨rfl,rfl,trivial⟩ ?_
  refine RegP.op rfl (Ope.mov rfl ?_)
  refine RegP.op rfl (Ope.callX2 (j:=1) rfl rfl (by simp) hf hb hM rfl (below1 (fun b h=>by cases h)) (by omega) (fun v q=>?_) (fun v q=>?_))
  · obtain ⟨rfl, rfl⟩ := q
    refine RegP.nil ?_
    refine Reg.op rfl (Ope.asg rfl ?_)
    refine Reg.op0 (Ope.store rfl rfl rfl rfl rfl rfl ?_)
    refine Reg.nil ?_
    refine Run.done ⟨rfl,trivial,d115n ?_⟩
    exact ResE.ofK (j:=1) (.tmp rfl (.cell rfl rfl .nil)) (by simp only [pone,PV.bd,PV.bds,hw,Bool.and_self]) hM (below1 rfl) rfl ⟨rfl,rfl⟩
  · obtain ⟨rfl, rfl⟩ := q
    refine ⟨trivial,d115e rfl ?_⟩
    exact ResE.ofK (j:=1) (.tmp rfl (.cell rfl rfl .nil)) rfl hM (below1 rfl) rfl ⟨rfl,rfl⟩
theorem f95 (rest:Int) (hr:0≤rest∧rest≤60) (tl:Tail) (htl:tl.isOwn=false) (S:List Sti) (hS:S.length≤5) (hv:∀ s∈S,s.ok=true) (E:Nat) (hE:E < 2 ^ 62) :
    KX P0 95 [notV rest tl S 1,I E] 1 (mapB S) (fun v=>v=B (okT (tabS S rest E))) fun _=>False:=by
  have hbc:PV.bds 2 [.fp (notV rest tl S 1),.fp (I E)]=true:=by
    have:=bd_not rest tl htl S 2 1 (by decide) E
    simp only [PV.bds,PV.bd] at this ⊢
    exact this
  have hf:=f106 (mapB_bd S 2) (w:=.agg (tabC (tabS S rest E))) rfl (f107 rest hr tl htl S hS hv E hE) hbc
  have hbf:PV.bds 2 [.fn (.func 107) [] [.fp (notV rest tl S 1),.fp (I E)]]=true:=by
    simp only [PV.bds,PV.bd,bd_slN htl S];rfl
  unfold KX
  generalize hc:okT (tabS S rest E)=c at *
  cases c
  all_goals
    refine PCall.ofH (C:=c95) (cx_ok _ _ _) rfl (fn:=Try.f95) (by kernel_rfl) (c:=_) rfl rfl rfl (fun hok=>?_)
    refine Run.seq (Run.region (cx_ok _ _ _) (Reg.op rfl (Ope.boxF rfl rfl ?_)))
    refine Reg.op rfl (Ope.boxF rfl rfl ?_)
    refine Reg.op rfl (Ope.asg rfl ?_)
    refine Reg.nil (Run.seq (Run.region (cx_ok _ _ _) (Reg.op rfl (Ope.mkf rfl rfl ?_))))
    refine Reg.op rfl (Ope.callX2 (j:=1) rfl rfl rfl hf hbf (mapB_bd S _) rfl (below1 (fun b h=>by cases h)) (by omega) (fun v q=>?_) (fun v q=>q.elim))
    obtain rfl:=q
    refine Reg.op rfl (Ope.mov rfl ?_)
    refine Reg.op rfl (Ope.ext rfl rfl ?_)
    refine Reg.op rfl (Ope.ext rfl rfl ?_)
    refine Reg.op rfl (Ope.asg rfl ?_)
    refine Reg.op rfl (Ope.asg rfl ?_)
    refine Reg.nil (Run.seq (Run.region (cx_ok _ _ _) (Reg.op rfl (Ope.mov rfl ?_))))
    refine Reg.op rfl (Ope.ne rfl rfl ?_)
    refine Reg.op rfl (Ope.asg rfl ?_)
    exact Reg.nil (Run.ret (finK_ret (j:=1) (.tmp rfl .nil) rfl (mapB_bd S _) (below1 rfl) rfl ⟨rfl,rfl⟩))
end Go.Pv
namespace Go.Pv
open Go.Proofs Go.Am
set_option maxRecDepth 10000
abbrev N (n:Nat):PV:=I ((n:Nat):Int)
def orL (xs:List Nat):Nat:=xs.foldl (· ||| ·) 0
theorem orL_lt {k:Nat}:∀ (xs:List Nat) (a:Nat),a < 2 ^ k→(∀ x∈xs,x < 2 ^ k)→xs.foldl (· ||| ·) a < 2 ^ k
  | [],a,h,_=>h
  | x::xs,a,h,hx=>orL_lt xs _ (Nat.or_lt_two_pow h (hx x (by simp))) fun y hy=>hx y (List.mem_cons_of_mem _ hy)
theorem f108 (tl:Tail) (xs:List Nat) (hl:xs.length≤1000) (hx:∀ x∈xs,x < 2 ^ 62):Fn P0 108 [.sl tl (xs.map N)] (N (orL xs)):=by
  refine PFun.of (C:=c108) (cx_ok _ _ _) rfl (fn:=Try.f108) (by kernel_rfl) (c:=_) rfl rfl rfl ?_
  refine Run.seq (Run.region (cx_ok _ _ _) (Reg.op rfl (Ope.asg rfl ?_)))
  refine Reg.nil (Run.seq (Run.region (cx_ok _ _ _) (Reg.op rfl (Ope.asg rfl ?_))))
  refine Reg.nil (Run.seq (Run.seq (Run.region (cx_ok _ _ _) (Reg.op rfl (Ope.mov rfl ?_)))))
  refine Reg.op rfl (Ope.len (m:=xs.length) rfl (by simp) ?_)
  refine Reg.op rfl (Ope.mov rfl ?_)
  refine Reg.nil (Run.block (Run.loop (α:=Nat) (fun i=>[(3,N (orL (xs.take i))),(6,.sl tl (xs.map N)),(7,I xs.length),(8,I i)]) (fun _=>HE 0 []) (fun i=>i≤xs.length) (fun i=>xs.length - i) 0 ⟨rfl,rfl,rfl,rfl,trivial⟩ rfl (Nat.zero_le _) (fun i hi=>?_)))
  refine Run.seq (Run.region (cx_ok _ _ _) (Reg.op rfl (Ope.lt rfl rfl ?_)))
  refine Reg.nil (Run.seq (Run.condX rfl (fun hc=>?_) fun hc=>?_))
  ·refine Run.skip (Run.seq (Run.block (Run.seq ?_)))
   have hlt:i < xs.length:=by omega
   have h1:orL (xs.take i) < 2 ^ 62:=orL_lt _ _ (by decide) fun x h=>hx x (List.mem_of_mem_take h)
   have h2:=hx _ (List.getElem_mem hlt)
   have h3:orL (xs.take (i+1))=orL (xs.take i) ||| xs[i]:=by rw [List.take_succ_eq_append_getElem hlt,orL,List.foldl_append];rfl
   refine Run.region (cx_ok _ _ _) (Reg.op rfl (Ope.idxM (m:=i) (f:=N) rfl rfl rfl hlt (fun _=>rfl) ?_))
   refine Reg.op rfl (Ope.load rfl rfl ?_)
   refine Reg.op rfl (Ope.asg rfl ?_)
   refine Reg.nil (Run.region (cx_ok _ _ _) (Reg.op rfl (Ope.mov rfl ?_)))
   refine Reg.op rfl (Ope.mov rfl ?_)
   refine Reg.op rfl (Ope.orN (p:=orL (xs.take i)) (q:=xs[i]) rfl rfl rfl rfl (by show _ < 2 ^ 63;omega) (by show _ < 2 ^ 63;omega) ?_)
   refine Reg.op rfl (Ope.asg rfl ?_)
   refine Reg.nil (Run.bend (Run.region (cx_ok _ _ _) (Reg.op rfl (Ope.add rfl rfl (by omega) ?_))))
   refine Reg.op rfl (Ope.mov rfl ?_)
   exact Reg.nil (Run.lend ⟨i+1,by omega,by omega,⟨by rw [h3];rfl,rfl,rfl,rfl,trivial⟩,rfl,rfl⟩)
  ·refine Run.exit (Jmp.code (Jmp.round (Jmp.here (Run.seq ?_))))
   obtain rfl:i=xs.length:=by omega
   refine Run.region (cx_ok _ _ _) (Reg.op rfl (Ope.mov rfl ?_))
   refine Reg.op rfl (Ope.asg rfl ?_)
   refine Reg.nil (Run.ret (fin_ret (.tmp rfl .nil) rfl ?_))
   (show N (orL (xs.take xs.length))=_;rw [List.take_length])
theorem f1082 (a b:Nat) (ha:a < 2 ^ 62) (hb:b < 2 ^ 62):Fn P0 108 [.sl .ex [N a,N b]] (N (a ||| b)):=by
  have h:=f108 .ex [a,b] (by simp) (by intro x hx;simp only [List.mem_cons,List.not_mem_nil,or_false] at hx;rcases hx with rfl | rfl<;>assumption)
  have e:orL [a,b]=a ||| b:=by simp [orL]
  rw [e] at h
  exact h
def clRow (S:List Sti) (rest:Int) (a:Nat):Nat→Nat
  | 0=>0
  | b+1=>if okT (tabS S rest (1 * 2 ^ a ||| 1 * 2 ^ b))=true then clRow S rest a b else clRow S rest a b ||| 1 * 2 ^ b
def clsL (S:List Sti) (rest:Int):List Nat:=(List.range (4 * S.length)).map fun a=>clRow S rest a (a+1)
theorem clRow_lt (S:List Sti) (rest:Int) (a:Nat):∀ b,b≤20→clRow S rest a b < 2 ^ 20
  | 0,_=>by show 0 < 2 ^ 20;decide
  | b + 1, hb => by
    have ih:=clRow_lt S rest a b (by omega)
    simp only [clRow]
    split
    · exact ih
    · refine Nat.or_lt_two_pow ih ?_
      rw [Nat.one_mul]
      exact Nat.pow_lt_pow_right (by decide) (by omega)
def celF (n:Nat) (f:Nat→Nat):List PV:=(List.range n).map fun i=>N (f i)
def updF (f:Nat→Nat) (a v:Nat):Nat→Nat:=fun i=>if i=a then v else f i
theorem celF_len {n:Nat} {f:Nat→Nat}:(celF n f).length=n:=by simp [celF]
theorem celF_at {n:Nat} {f:Nat→Nat} {i:Nat} (h:i < n):(celF n f)[i]?=some (N (f i)):=by simp [celF,h]
theorem celF_set {n:Nat} {f:Nat→Nat} {a v:Nat} (h:a < n):(celF n f).set a (N v)=celF n (updF f a v):=by
  apply List.ext_getElem?
  intro i
  by_cases hi:i < n
  · rw [List.getElem?_set, celF_at hi]
    by_cases ha:a=i
    · subst ha
      rw [if_pos rfl,if_pos (by rw [celF_len];exact h),celF_at hi]
      simp [updF]
    · rw [if_neg ha, celF_at hi]
      have:¬ i=a:=fun e=>ha e.symm
      simp [updF,this]
  · rw [List.getElem?_eq_none (by rw [List.length_set,celF_len];omega),List.getElem?_eq_none (by rw [celF_len];omega)]
theorem celF_zero (n:Nat):List.replicate n (I 0)=celF n fun _=>0:=by
  have h:(List.range n).map (fun _=>N 0)=List.replicate (List.range n).length (N 0):=List.map_const' ..
  rw [List.length_range] at h
  exact h.symm
theorem celF_congr {n:Nat} {f g:Nat→Nat} (h:∀ i,i < n→f i=g i):celF n f=celF n g:=by
  unfold celF
  refine List.map_congr_left fun i hi=>?_
  rw [h i (List.mem_range.1 hi)]
def clF (S:List Sti) (rest:Int) (a b:Nat) (i:Nat):Nat:=if i < a then clRow S rest i (i+1) else if i=a then clRow S rest a b else 0
theorem clF_next {S:List Sti} {rest:Int} {a:Nat} (n:Nat):celF n (clF S rest a (a+1))=celF n (clF S rest (a+1) 0):=by
  refine celF_congr fun i _=>?_
  simp only [clF]
  by_cases h1:i < a
  · rw [if_pos h1,if_pos (by omega)]
  · by_cases h2 : i = a
    · subst h2;rw [if_neg h1,if_pos rfl,if_pos (by omega)]
    · rw [if_neg h1, if_neg h2, if_neg (by omega)]
      split<;>rfl
theorem clF_all {S:List Sti} {rest:Int}:celF (4 * S.length) (clF S rest (4 * S.length) 0)=(clsL S rest).map N:=by
  simp only [celF,clsL,List.map_map]
  refine List.map_congr_left fun i hi=>?_
  have hi':=List.mem_range.1 hi
  simp only [clF,if_pos hi',Function.comp]
theorem bdsN (n:Nat):∀ xs:List Nat,PV.bds n (xs.map N)=true
  | []=>rfl
  | x :: xs => by
    simp only [List.map_cons,PV.bds,bdsN n xs,Bool.and_true]
    rfl
theorem flatN:∀ xs:List Nat,flat (xs.map N)=xs.map N
  | []=>rfl
  | x :: xs => by
    have:=flatN xs
    simp only [List.map_cons,flat,this]
    rfl
theorem f96 (rest : Int) (hr : 0 ≤ rest ∧ rest ≤ 60) (tl : Tail) (htl : tl.isOwn = false) (S : List Sti) (hS : S.length ≤ 5) (hv : ∀ s ∈ S, s.ok = true) :
    KX P0 96 [notV rest tl S 1] 1 (mapB S) (fun v=>v=.sl .no ((clsL S rest).map N)) fun _=>False:=by
  have hlen:=mapE_len S 0
  have hcb:=fun E hE=>f95 rest hr tl htl S hS hv E hE
  generalize hn:4 * S.length=q at *
  have hq:q≤20:=by omega
  have hall:celF q (clF S rest q 0)=(clsL S rest).map N:=by rw [← hn];exact clF_all
  unfold KX
  refine PCall.ofH (C:=c96) (cx_ok _ _ _) rfl (fn:=Try.f96) (by kernel_rfl) (c:=_) rfl rfl rfl (fun hok=>?_)
  refine Run.seq (Run.region (cx_ok _ _ _) (Reg.op rfl (Ope.boxF rfl rfl ?_)))
  refine Reg.op rfl (Ope.asg rfl ?_)
  refine Reg.nil (Run.seq (Run.region (cx_ok _ _ _) (Reg.op rfl (Ope.fld rfl rfl ?_))))
  refine Reg.op rfl (Ope.load rfl rfl ?_)
  refine Reg.op rfl (Ope.lenM (q:=(q:Int)) rfl rfl (by rw [hlen]) ?_)
  refine Reg.op rfl (Ope.mks (m:=q) (c:=q) rfl rfl rfl rfl (Nat.le_refl _) (by omega) (by omega) (fun ez=>?_))
  refine Reg.op rfl (Ope.asg rfl ?_)
  refine Reg.nil (Run.seq (Run.seq (Run.region (cx_ok _ _ _) (Reg.op rfl (Ope.mov rfl ?_)))))
  first | refine Reg.op rfl (Ope.len rfl (List.length_map _) ?_) | refine Reg.op rfl (Ope.len rfl rfl ?_) | refine Reg.op rfl (Ope.lenL rfl ?_)
  refine Reg.op rfl (Ope.mov rfl ?_)
  refine Reg.nil (Run.block (Run.wide (m:=3) (l':=[(2,some (.cells (celF q (clF S rest 0 0)))),(1,some (mapB S))]) (Nat.le_refl _) ⟨congrArg (fun l=>some (PBlk.cells l)) ((celF_zero q).trans (celF_congr fun i _=>by simp only [clF,Nat.not_lt_zero,if_false];split<;>rfl)),rfl,trivial⟩ ?_))
  refine Run.loop (α:=Nat×Nat) (fun s=>[(1,.fp (notV rest tl S 1)),(3,.ms 2 0 q q ez),(11,I q),(12,I s.1)]) (fun s=>HE s.2 [(2,some (.cells (celF q (clF S rest s.1 0)))),(1,some (mapB S))]) (fun s=>s.1≤q∧3≤s.2) (fun s=>q - s.1) (0,3) ⟨rfl,rfl,rfl,rfl,trivial⟩ rfl ⟨Nat.zero_le _,Nat.le_refl _⟩ (fun s hs=>?_)
  obtain ⟨a,m⟩:=s
  obtain ⟨ha,hm⟩:=hs
  simp only at ha hm
  refine Run.seq (Run.region (cx_ok _ _ _) (Reg.op rfl (Ope.lt rfl rfl ?_)))
  refine Reg.nil (Run.seq (Run.condX rfl (fun hc=>?_) fun hc=>?_))
  ·refine Run.skip (Run.seq (Run.block (Run.seq ?_)))
   have haq:a < q:=by omega
   have hpa:2 ^ a≤1048576:=pow20 (by omega)
   refine Run.region (cx_ok _ _ _) (Reg.op rfl (Ope.mov rfl ?_))
   refine Reg.op rfl (Ope.asg rfl ?_)
   refine Reg.nil (Run.seq (Run.region (cx_ok _ _ _) (Reg.op rfl (Ope.mov rfl ?_))))
   refine Reg.op rfl (Ope.add rfl rfl (by omega) ?_)
   refine Reg.op rfl (Ope.mov rfl ?_)
   refine Reg.nil (Run.block (Run.loop (α:=Nat×Nat) (fun s=>[(1,.fp (notV rest tl S 1)),(3,.ms 2 0 q q ez),(11,I q),(12,I a),(4,I a),(16,I ((a:Int)+1)),(17,I s.1)]) (fun s=>HE s.2 [(2,some (.cells (celF q (clF S rest a s.1)))),(1,some (mapB S))]) (fun s=>s.1≤a+1∧3≤s.2) (fun s=>a+1 - s.1) (0,m) ⟨rfl,rfl,rfl,rfl,rfl,rfl,rfl,trivial⟩ rfl ⟨Nat.zero_le _,hm⟩ (fun s hs=>?_)))
   obtain ⟨b,m'⟩:=s
   obtain ⟨hb,hm'⟩:=hs
   simp only at hb hm'
   show Run _ _ _ _ [(1,.fp (notV rest tl S 1)),(3,.ms 2 0 q q ez),(11,I q),(12,I a),(4,I a),(16,I ((a:Int)+1)),(17,I b)] [] (HE m' [(2,some (.cells (celF q (clF S rest a b)))),(1,some (mapB S))])
   refine Run.seq (Run.region (cx_ok _ _ _) (Reg.op rfl (Ope.lt rfl rfl ?_)))
   refine Reg.nil (Run.seq (Run.condX rfl (fun hc=>?_) fun hc=>?_))
   ·refine Run.skip (Run.seq (Run.block (Run.seq ?_)))
    have hba:b≤a:=by omega
    have hpb:2 ^ b≤1048576:=pow20 (by omega)
    have hlt:1 * 2 ^ a ||| 1 * 2 ^ b < 2 ^ 62:=Nat.or_lt_two_pow (by omega) (by omega)
    have hrow:celF q (clF S rest a (b+1))=celF q (if okT (tabS S rest (1 * 2 ^ a ||| 1 * 2 ^ b))=true then clF S rest a b else updF (clF S rest a b) a (clRow S rest a b ||| 1 * 2 ^ b)):=by
      refine celF_congr fun i _=>?_
      by_cases h1:okT (tabS S rest (1 * 2 ^ a ||| 1 * 2 ^ b))=true
      · rw [if_pos h1]
        simp only [clF,clRow,if_pos h1]
      · rw [if_neg h1]
        simp only [clF,clRow,if_neg h1,updF]
        by_cases h2:i=a
        · subst h2;rw [if_neg (Nat.lt_irrefl _),if_pos rfl,if_pos rfl]
        · rw [if_neg h2,if_neg h2,if_neg h2]
    have hcl:=clRow_lt S rest a b (by omega)
    have hcat:clF S rest a b a=clRow S rest a b:=by simp only [clF,Nat.lt_irrefl,if_false,if_true]
    refine Run.region (cx_ok _ _ _) (Reg.op rfl (Ope.mov rfl ?_))
    refine Reg.op rfl (Ope.asg rfl ?_)
    refine Reg.nil (Run.seq (Run.draw (cx_ok _ _ _) [(0,false),(1,true),(2,true),(3,true),(4,true),(5,true),(6,true),(7,true),(8,true)] (by kernel_rfl) (Dra.op' rfl rfl rfl (.load rfl) (Ope.load rfl rfl ?_))))
    refine Dra.op' rfl rfl rfl .sure (Ope.mov rfl ?_)
    refine Dra.op' rfl rfl rfl .sure (Ope.shlN (p:=1) (m:=a) rfl rfl rfl rfl (by omega) (by omega) ?_)
    refine Dra.op' rfl rfl rfl .sure (Ope.mov rfl ?_)
    refine Dra.op' rfl rfl rfl .sure (Ope.shlN (p:=1) (m:=b) rfl rfl rfl rfl (by omega) (by omega) ?_)
    refine Dra.op' rfl rfl rfl .sure (Ope.bsl rfl rfl rfl rfl ?_)
    refine Dra.op' rfl rfl rfl .sure (Ope.cf rfl rfl (f1082 (1 * 2 ^ a) (1 * 2 ^ b) (by omega) (by omega)) rfl ?_)
    refine Dra.op' rfl rfl rfl .sure (Ope.callX2 (j:=1) rfl rfl rfl (hcb (1 * 2 ^ a ||| 1 * 2 ^ b) hlt) (bd_not rest tl htl S _ _ (by decide) _) (mapB_bd S _) rfl (below1 (fun b h=>by cases h)) (by omega) (fun v qv=>?_) (fun v qv=>qv.elim))
    obtain rfl:=qv
    refine Dra.op' rfl rfl rfl .sure (Ope.not rfl ?_)
    refine Dra.nil (Run.condX rfl (fun hc=>?_) fun hc=>?_)
    ·refine Run.draw (cx_ok _ _ _) [(0,true),(1,true),(2,true),(3,true),(4,true),(5,true),(6,true),(7,true),(8,true),(9,true),(10,true),(11,true)] (by kernel_rfl) (Dra.op' rfl rfl rfl .sure (Ope.mov rfl ?_))
     refine Dra.op' rfl rfl rfl .sure (Ope.mov rfl ?_)
     refine Dra.op' rfl rfl rfl .sure (Ope.mov rfl ?_)
     refine Dra.op' rfl rfl rfl .sure (Ope.mov rfl ?_)
     refine Dra.op' rfl rfl rfl .sure (Ope.idxL (m:=a) rfl rfl rfl haq ?_)
     refine Dra.op' rfl rfl rfl .sure (Ope.loadL (v:=N (clRow S rest a b)) rfl rfl (by rw [Nat.zero_add,Nat.mul_one,celF_at haq,hcat]) ?_)
     refine Dra.op' rfl rfl rfl .sure (Ope.mov rfl ?_)
     refine Dra.op' rfl rfl rfl .sure (Ope.shlN (p:=1) (m:=b) rfl rfl rfl rfl (by omega) (by omega) ?_)
     refine Dra.op' rfl rfl rfl .sure (Ope.bsl rfl rfl rfl rfl ?_)
     refine Dra.op' rfl rfl rfl .sure (Ope.cf rfl rfl (f1082 (clRow S rest a b) (1 * 2 ^ b) (by omega) (by omega)) rfl ?_)
     refine Dra.op' rfl rfl rfl .sure (Ope.idxL (m:=a) rfl rfl rfl haq ?_)
     refine Dra.op' rfl rfl rfl .sure (Ope.storeL (v:=N (clRow S rest a b ||| 1 * 2 ^ b)) rfl rfl rfl rfl rfl (by rw [celF_len];omega) ?_)
     refine Dra.nil (Run.bend ?_)
     first
       | (refine Run.wide (m:=m') (l':=[(2,some (.cells (celF q (clF S rest a (b+1))))),(1,some (mapB S))]) (Nat.le_refl _) ⟨congrArg (fun l=>some (PBlk.cells l)) (by rw [hrow,if_neg (by simpa using hc),Nat.zero_add,Nat.mul_one,celF_set haq]),rfl,trivial⟩ ?_)
       | (refine Run.wide (m:=m') (l':=[(2,some (.cells (celF q (clF S rest a (b+1))))),(1,some (mapB S))]) (Nat.le_refl _) ⟨congrArg (fun l=>some (PBlk.cells l)) (by rw [hrow,if_pos (by simpa using hc)]),rfl,trivial⟩ ?_)
     refine Run.region (cx_ok _ _ _) (Reg.op rfl (Ope.add rfl rfl (by omega) ?_))
     refine Reg.op rfl (Ope.mov rfl ?_)
     exact Reg.nil (Run.lend ⟨(b+1,m'),by simp only;omega,⟨by simp only;omega,hm'⟩,⟨rfl,rfl,rfl,rfl,rfl,rfl,rfl,trivial⟩,rfl,rfl⟩)
    ·refine Run.skip (Run.bend ?_)
     first
       | (refine Run.wide (m:=m') (l':=[(2,some (.cells (celF q (clF S rest a (b+1))))),(1,some (mapB S))]) (Nat.le_refl _) ⟨congrArg (fun l=>some (PBlk.cells l)) (by rw [hrow,if_neg (by simpa using hc),Nat.zero_add,Nat.mul_one,celF_set haq]),rfl,trivial⟩ ?_)
       | (refine Run.wide (m:=m') (l':=[(2,some (.cells (celF q (clF S rest a (b+1))))),(1,some (mapB S))]) (Nat.le_refl _) ⟨congrArg (fun l=>some (PBlk.cells l)) (by rw [hrow,if_pos (by simpa using hc)]),rfl,trivial⟩ ?_)
     refine Run.region (cx_ok _ _ _) (Reg.op rfl (Ope.add rfl rfl (by omega) ?_))
     refine Reg.op rfl (Ope.mov rfl ?_)
     exact Reg.nil (Run.lend ⟨(b+1,m'),by simp only;omega,⟨by simp only;omega,hm'⟩,⟨rfl,rfl,rfl,rfl,rfl,rfl,rfl,trivial⟩,rfl,rfl⟩)
   ·refine Run.exit (Jmp.code (Jmp.round (Jmp.here (Run.bend ?_))))
    obtain rfl:b=a+1:=by omega
    refine Run.wide (m:=m') (l':=[(2,some (.cells (celF q (clF S rest (a+1) 0)))),(1,some (mapB S))]) (Nat.le_refl _) ⟨congrArg (fun l=>some (PBlk.cells l)) (clF_next q),rfl,trivial⟩ ?_
    refine Run.region (cx_ok _ _ _) (Reg.op rfl (Ope.add rfl rfl (by omega) ?_))
    refine Reg.op rfl (Ope.mov rfl ?_)
    exact Reg.nil (Run.lend ⟨(a+1,m'),by simp only;omega,⟨by simp only;omega,hm'⟩,⟨rfl,rfl,rfl,rfl,trivial⟩,rfl,rfl⟩)
  ·refine Run.exit (Jmp.code (Jmp.round (Jmp.here (Run.seq ?_))))
   obtain rfl:a=q:=by omega
   refine Run.frzS (d:=3) (vs:=(clsL S rest).map N) (post:=[]) (sz:=1) rfl (show some _=_ from congrArg (fun l=>some (PBlk.cells l)) (by rw [hall,List.append_nil,flatN])) (by rw [← hall,celF_len]) (Nat.le_refl _) (by intro v hv;obtain ⟨_,_,rfl⟩:=List.mem_map.1 hv;rfl) ?_
   refine Run.region (cx_ok _ _ _) (Reg.op rfl (Ope.mov rfl ?_))
   refine Reg.op rfl (Ope.asg rfl ?_)
   exact Reg.nil (Run.ret (finK_ret (j:=1) (.tmp rfl .nil) (bdsN 2 _) (mapB_bd S _) (below1 rfl) rfl ⟨rfl,rfl⟩))
end Go.Pv
namespace Go.Pv
open Go.Proofs Go.Am
set_option maxRecDepth 10000
def hitC (cs:List Nat) (set i:Nat):Bool:=decide (((set >>> i &&& 1:Nat):Int)=1) && !decide (((set &&& cs.getD i 0:Nat):Int)=0)
def amongC (cs:List Nat) (set:Nat):Bool:=(List.range cs.length).any (hitC cs set)
theorem among_yes {cs:List Nat} {set i:Nat} (hi:i < cs.length) (h:hitC cs set i=true):amongC cs set=true :=
  List.any_eq_true.2 ⟨i,List.mem_range.2 hi,h⟩
theorem among_no {cs:List Nat} {set:Nat} (h:∀ i,i < cs.length→hitC cs set i=false):amongC cs set=false:=by
  cases ha:amongC cs set with
  | false=>rfl
  | true =>
    obtain ⟨i,hi,h1⟩:=List.any_eq_true.1 ha
    rw [h i (List.mem_range.1 hi)] at h1
    cases h1
theorem f71 (tl : Tail) (cs : List Nat) (hl : cs.length ≤ 20) (hc0 : ∀ x ∈ cs, x < 2 ^ 62) (set : Nat) (hset : set < 2 ^ 62) : Fn P0 71 [.sl tl (cs.map N), N set] (B (amongC cs set)) := by
  refine PFun.of (C:=c71) (cx_ok _ _ _) rfl (fn:=Try.f71) (by kernel_rfl) (c:=_) rfl rfl rfl ?_
  refine Run.seq (Run.region (cx_ok _ _ _) (Reg.op rfl (Ope.asg rfl ?_)))
  refine Reg.nil (Run.seq (Run.seq (Run.region (cx_ok _ _ _) (Reg.op rfl (Ope.mov rfl ?_)))))
  refine Reg.op rfl (Ope.len (m:=cs.length) rfl (by simp) ?_)
  refine Reg.op rfl (Ope.mov rfl ?_)
  refine Reg.nil (Run.block (Run.loop (α:=Nat) (fun i=>[(1,N set),(7,.sl tl (cs.map N)),(8,I cs.length),(9,I i)]) (fun _=>HE 0 []) (fun i=>i≤cs.length∧∀ k,k < i→hitC cs set k=false) (fun i=>cs.length - i) 0 ⟨rfl,rfl,rfl,rfl,trivial⟩ rfl ⟨Nat.zero_le _,fun k hk=>absurd hk (Nat.not_lt_zero _)⟩ (fun i hi=>?_)))
  obtain ⟨hi1,hi2⟩:=hi
  refine Run.seq (Run.region (cx_ok _ _ _) (Reg.op rfl (Ope.lt rfl rfl ?_)))
  refine Reg.nil (Run.seq (Run.condX rfl (fun hc=>?_) fun hc=>?_))
  ·refine Run.skip (Run.seq (Run.block (Run.seq ?_)))
   have hlt:i < cs.length:=by omega
   have h2:=hc0 _ (List.getElem_mem hlt)
   have hgd:cs.getD i 0=cs[i]:=by simp [List.getD,hlt]
   have hsh:set >>> i < 2 ^ 62:=Nat.lt_of_le_of_lt (Nat.shiftRight_le _ _) hset
   have hhit:hitC cs set i=(decide (((set >>> i &&& 1:Nat):Int)=1) && !decide (((set &&& cs[i]:Nat):Int)=0)):=by rw [hitC,hgd]
   refine Run.region (cx_ok _ _ _) (Reg.op rfl (Ope.mov rfl ?_))
   refine Reg.op rfl (Ope.idxM (m:=i) (f:=N) rfl rfl rfl hlt (fun _=>rfl) ?_)
   refine Reg.op rfl (Ope.load rfl rfl ?_)
   refine Reg.op rfl (Ope.asg rfl ?_)
   refine Reg.op rfl (Ope.asg rfl ?_)
   refine Reg.nil (Run.seq (Run.region (cx_ok _ _ _) (Reg.op rfl (Ope.mov rfl ?_))))
   refine Reg.op rfl (Ope.mov rfl ?_)
   refine Reg.op rfl (Ope.shrN (p:=set) (m:=i) rfl rfl rfl rfl (by show i≤64;omega) ?_)
   refine Reg.op rfl (Ope.andN (p:=set >>> i) (q:=1) rfl rfl rfl rfl (by show _ < 2 ^ 64;omega) (by decide) ?_)
   refine Reg.op rfl (Ope.eq rfl rfl ?_)
   refine Reg.op rfl (Ope.mov rfl ?_)
   refine Reg.splitX rfl rfl (fun hg=>?_) fun hg=>?_
   ·refine Reg.on rfl rfl rfl (Ope.mov rfl ?_)
    refine Reg.on rfl rfl rfl (Ope.mov rfl ?_)
    refine Reg.on rfl rfl rfl (Ope.andN (p:=set) (q:=cs[i]) rfl rfl rfl rfl (by show _ < 2 ^ 64;omega) (by show _ < 2 ^ 63;omega) ?_)
    refine Reg.on rfl rfl rfl (Ope.ne rfl rfl ?_)
    refine Reg.op rfl (Ope.pickT rfl rfl ?_)
    refine Reg.nil (Run.condX rfl (fun hc=>?_) fun hc=>?_)
    ·refine Run.seq (Run.region (cx_ok _ _ _) (Reg.op rfl (Ope.asg rfl ?_)))
     refine Reg.nil (Run.ret (Jmp.retB (Jmp.code (Jmp.round (Jmp.retB (Jmp.code (fin_ret (.tmp rfl .nil) rfl ?_)))))))
     first
     | (rw [among_yes hlt (by rw [hhit,decide_eq_true hg];simpa using hc)];rfl)
     | (rw [among_no (fun k hk=>hi2 k (by omega))];rfl)
    ·refine Run.skip (Run.bend (Run.region (cx_ok _ _ _) (Reg.op rfl (Ope.add rfl rfl (by omega) ?_))))
     refine Reg.op rfl (Ope.mov rfl ?_)
     refine Reg.nil ?_
     exact Run.lend ⟨i + 1, by omega, ⟨by omega, fun k hk => by
       by_cases hki:k < i
       · exact hi2 k hki
       · obtain rfl : k = i := by omega
         rw [hhit]
         first
           | (rw [decide_eq_false hg,Bool.false_and])
           | (have hc' : ((set &&& cs[k] : Nat) : Int) = 0 := by simpa using hc
              rw [decide_eq_true hc',Bool.not_true,Bool.and_false])⟩,⟨rfl,rfl,rfl,rfl,trivial⟩,rfl,rfl⟩
   ·refine Reg.off rfl rfl rfl (Reg.off rfl rfl rfl (Reg.off rfl rfl rfl (Reg.off rfl rfl rfl (Reg.op rfl (Ope.pickF rfl rfl ?_)))))
    refine Reg.nil (Run.condF rfl (Run.skip (Run.bend (Run.region (cx_ok _ _ _) (Reg.op rfl (Ope.add rfl rfl (by omega) ?_))))))
    refine Reg.op rfl (Ope.mov rfl ?_)
    refine Reg.nil ?_
    exact Run.lend ⟨i + 1, by omega, ⟨by omega, fun k hk => by
      by_cases hki:k < i
      · exact hi2 k hki
      · obtain rfl : k = i := by omega
        rw [hhit]
        first
          | (rw [decide_eq_false hg,Bool.false_and])
          | (have hc' : ((set &&& cs[k] : Nat) : Int) = 0 := by simpa using hc
             rw [decide_eq_true hc',Bool.not_true,Bool.and_false])⟩,⟨rfl,rfl,rfl,rfl,trivial⟩,rfl,rfl⟩
  ·refine Run.exit (Jmp.code (Jmp.round (Jmp.here (Run.seq (Run.region (cx_ok _ _ _) (Reg.op rfl (Ope.asg rfl ?_)))))))
   refine Reg.nil (Run.ret (fin_ret (.tmp rfl .nil) rfl ?_))
   first
   | (rw [among_yes hlt (by rw [hhit,decide_eq_true hg];simpa using hc)];rfl)
   | (rw [among_no (fun k hk=>hi2 k (by omega))];rfl)
def allN (n:Nat):Nat:=1 * 2 ^ n - 1
theorem f74 (tl:Tail) (cs:List Nat) (hl:cs.length≤20):Fn P0 74 [.sl tl (cs.map N)] (N (allN cs.length)):=by
  have hp:=pow20 hl
  have hp1:0 < 2 ^ cs.length:=Nat.pow_pos (by decide)
  have hres:((1 * 2 ^ cs.length:Nat):Int) - 1=((allN cs.length:Nat):Int):=by unfold allN;omega
  refine PFun.of (C:=c74) (cx_ok _ _ _) rfl (fn:=Try.f74) (by kernel_rfl) (c:=_) rfl rfl rfl ?_
  refine Run.seq (Run.region (cx_ok _ _ _) (Reg.op rfl (Ope.asg rfl ?_)))
  refine Reg.nil (Run.seq (Run.region (cx_ok _ _ _) (Reg.op rfl (Ope.mov rfl ?_))))
  refine Reg.op rfl (Ope.len (m:=cs.length) rfl (by simp) ?_)
  refine Reg.op rfl (Ope.shlN (p:=1) (m:=cs.length) rfl rfl rfl rfl (by omega) (by omega) ?_)
  refine Reg.op rfl (Ope.sub rfl rfl (by omega) ?_)
  rw [hres]
  refine Reg.op rfl (Ope.asg rfl ?_)
  exact Reg.nil (Run.ret (fin_ret (.tmp rfl .nil) rfl rfl))
theorem allN_lt {n:Nat} (h:n≤20):allN n < 2 ^ 62:=by
  have:=pow20 h
  unfold allN;omega
theorem f70 (tl:Tail) (htl:tl.isOwn=false) (cs:List Nat) (hl:cs.length≤20) (hc0:∀ x∈cs,x < 2 ^ 62) (set:Nat) (hset:set < 2 ^ 62):Fn P0 70 [.sl tl (cs.map N),N set] (B (amongC cs set)):=by
  have hb:PV.bds 0 [.sl tl (cs.map N),N set]=true:=by
    have:=bd_sl (f:=N) htl (fun _=>rfl) cs
    simp only [PV.bds,this,Bool.and_true];rfl
  refine PFun.of (C:=c70) (cx_ok _ _ _) rfl (fn:=Try.f70) (by kernel_rfl) (c:=_) rfl rfl rfl ?_
  refine Run.seq (Run.region (cx_ok _ _ _) (Reg.op rfl (Ope.asg rfl ?_)))
  refine Reg.nil (Run.seq (Run.region (cx_ok _ _ _) (Reg.op rfl (Ope.mov rfl ?_))))
  refine Reg.op rfl (Ope.mov rfl ?_)
  refine Reg.op rfl (Ope.cf rfl rfl (f71 tl cs hl hc0 set hset) hb ?_)
  refine Reg.op rfl (Ope.asg rfl ?_)
  exact Reg.nil (Run.ret (fin_ret (.tmp rfl .nil) rfl rfl))
def outN (n set:Nat):Nat:=allN n &&& (2 ^ 64 - 1 - set)
theorem outN_lt {n set:Nat} (h:n≤20):outN n set < 2 ^ 62:=Nat.lt_of_le_of_lt Nat.and_le_left (allN_lt h)
theorem f73 (tl:Tail) (htl:tl.isOwn=false) (cs:List Nat) (hl:cs.length≤20) (hc0:∀ x∈cs,x < 2 ^ 62) (set:Nat) (hset:set < 2 ^ 62):Fn P0 73 [.sl tl (cs.map N),N set] (B (!amongC cs (outN cs.length set))):=by
  have hbs:=bd_sl (f:=N) htl (fun _=>rfl) cs
  have hb1:PV.bds 0 [.sl tl (cs.map N)]=true:=by simp only [PV.bds,hbs,Bool.and_true]
  have hb:PV.bds 0 [.sl tl (cs.map N),N (outN cs.length set)]=true:=by
    simp only [PV.bds,hbs,Bool.and_true];rfl
  have hal:=allN_lt hl
  refine PFun.of (C:=c73) (cx_ok _ _ _) rfl (fn:=Try.f73) (by kernel_rfl) (c:=_) rfl rfl rfl ?_
  refine Run.seq (Run.region (cx_ok _ _ _) (Reg.op rfl (Ope.asg rfl ?_)))
  refine Reg.nil (Run.seq (Run.region (cx_ok _ _ _) (Reg.op rfl (Ope.mov rfl ?_))))
  refine Reg.op rfl (Ope.mov rfl ?_)
  refine Reg.op rfl (Ope.cf rfl rfl (f74 tl cs hl) hb1 ?_)
  refine Reg.op rfl (Ope.mov rfl ?_)
  refine Reg.op rfl (Ope.andNotN (p:=allN cs.length) (q:=set) rfl rfl rfl rfl (by show _ < 2 ^ 63;omega) (by show _ < 2 ^ 63;omega) ?_)
  refine Reg.op rfl (Ope.cf rfl rfl (f71 tl cs hl hc0 (outN cs.length set) (outN_lt hl)) hb ?_)
  refine Reg.op rfl (Ope.not rfl ?_)
  refine Reg.op rfl (Ope.asg rfl ?_)
  exact Reg.nil (Run.ret (fin_ret (.tmp rfl .nil) rfl rfl))
structure Enq where
  v:PV
  p:Nat→Bool
def Enq.ok (Q:Enq):Prop:=Q.v.bd 0=true∧∃ g cap,Q.v=.fn (.func g) [] cap∧∀ set,set < 2 ^ 62→Fn P0 g ([N set]++cap) (B (Q.p set))
abbrev srV (n:Nat) (Q:Enq):PV:=.agg [I n,Q.v]
theorem f97 (g:Nat) (tl:Tail) (cs:List Nat) (p:Nat→Bool) (htl:tl.isOwn=false) (hg:∀ set,set < 2 ^ 62→Fn P0 g [.sl tl (cs.map N),N set] (B (p set))) (set:Nat) (hset:set < 2 ^ 62) :
    Fn P0 97 [N set,.fp (.fn (.func g) [] []),.fp (.sl tl (cs.map N))] (B (p set)):=by
  have hb:PV.bds 0 [.sl tl (cs.map N),N set]=true:=by
    have:=bd_sl (f:=N) htl (fun _=>rfl) cs
    simp only [PV.bds,this,Bool.and_true];rfl
  refine PFun.of (C:=c97) (cx_ok _ _ _) rfl (fn:=Try.f97) (by kernel_rfl) (c:=_) rfl rfl rfl ?_
  refine Run.seq (Run.region (cx_ok _ _ _) (Reg.op rfl (Ope.asg rfl ?_)))
  refine Reg.nil (Run.seq (Run.region (cx_ok _ _ _) (Reg.op rfl (Ope.load rfl rfl ?_))))
  refine Reg.op rfl (Ope.load rfl rfl ?_)
  refine Reg.op rfl (Ope.mov rfl ?_)
  refine Reg.op rfl (Ope.cf rfl rfl (hg set hset) hb ?_)
  refine Reg.op rfl (Ope.asg rfl ?_)
  exact Reg.nil (Run.ret (fin_ret (.tmp rfl .nil) rfl rfl))
def growL (p:Nat→Bool):Nat→Nat→Nat→List Nat
  | 0,set,_=>[set]
  | k+1,set,n=>(List.range n).flatMap fun e=>if p ((set ||| 1 * 2 ^ e) ||| (1 * 2 ^ e - 1))=true then growL p k (set ||| 1 * 2 ^ e) e else []
def growF (p:Nat→Bool) (k set:Nat):Nat→Nat→List Nat
  | 0,_=>[]
  | d+1,e=>(if p ((set ||| 1 * 2 ^ e) ||| (1 * 2 ^ e - 1))=true then growL p k (set ||| 1 * 2 ^ e) e else [])++growF p k set d (e+1)
theorem growF_eq (p:Nat→Bool) (k set:Nat):∀ (d e:Nat),growF p k set d e=(List.range' e d).flatMap fun e=>if p ((set ||| 1 * 2 ^ e) ||| (1 * 2 ^ e - 1))=true then growL p k (set ||| 1 * 2 ^ e) e else []
  | 0,e=>rfl
  | d + 1, e => by
    simp only [growF,growF_eq p k set d (e+1),List.range'_succ,List.flatMap_cons]
theorem growL_succ (p:Nat→Bool) (k set n:Nat):growL p (k+1) set n=growF p k set n 0:=by
  rw [growF_eq,growL,List.range_eq_range']
end Go.Pv
