/- Parts of the proof: T34, T35 -/
import Derived.Test.YtabejoodkhlnaaaGreatP21
set_option linter.unusedVariables false
set_option linter.unusedSimpArgs false
namespace Go.Pv
open Go.Proofs Go.Am
set_option maxRecDepth 10000
theorem rstOf_self (R:Rst):rstOf R.m R.o0 R.t0 R.r0 R.f0 R.o1 R.t1 R.r1 R.f1=R:=rfl
theorem f36 (R:Rst) (hv:validR R.m R.o0 R.t0 R.r0 R.f0 R.o1 R.t1 R.r1 R.f1=true) (tl:Tail) (htl:tl.isOwn=false) (xs:List Int) (hx:∀ x∈xs,x=0∨x=1) (hl:xs.length=R.m) :
    Fn P0 36 [.agg R.cells,.sl tl (xs.map I)] (B (rt R zeroRid xs)):=by
  have hm16:R.m≤16:=(valid_iff.1 hv).1
  have hc:=check R.m R.o0 R.t0 R.r0 R.f0 R.o1 R.t1 R.r1 R.f1 tl htl xs (by omega)
  have hp:planOk R.m xs=true:=planOk_iff.2 ⟨hx,by omega⟩
  unfold checkV at hc
  rw [if_pos hv,if_pos hp,rstOf_self] at hc
  have hr:=rt_fault R xs zeroRid
  have hb:PV.bds 0 [.agg R.cells,.sl tl (xs.map I)]=true:=by
    simp only [PV.bds,bd_sl (f:=I) htl (fun _=>rfl) xs,Bool.and_true]
    rfl
  cases hrt:rt R zeroRid xs with
  | true =>
    rw [hrt] at hr
    rw [if_neg (hr.1 rfl)] at hc
    refine PFun.of (C:=c36) (cx_ok _ _ _) rfl (fn:=Tryz.f36) (by kernel_rfl) (c:=_) rfl rfl rfl ?_
    refine Run.seq (Run.region (cx_ok _ _ _) (Reg.op rfl (Ope.boxF rfl rfl ?_)))
    refine Reg.op rfl (Ope.asg rfl ?_)
    refine Reg.nil (Run.seq (Run.region (cx_ok _ _ _) (Reg.op rfl (Ope.load rfl rfl ?_))))
    refine Reg.op rfl (Ope.mov rfl ?_)
    refine Reg.op rfl (Ope.cf rfl rfl hc hb ?_)
    refine Reg.op rfl (Ope.mov rfl ?_)
    refine Reg.op rfl (Ope.ext rfl rfl ?_)
    refine Reg.op rfl (Ope.ext rfl rfl ?_)
    refine Reg.op rfl (Ope.ext rfl rfl ?_)
    refine Reg.op rfl (Ope.asg rfl ?_)
    refine Reg.op rfl (Ope.asg rfl ?_)
    refine Reg.op rfl (Ope.asg rfl ?_)
    refine Reg.nil (Run.seq (Run.region (cx_ok _ _ _) (Reg.op rfl (Ope.mov rfl ?_))))
    refine Reg.op rfl (Ope.eq rfl rfl ?_)
    refine Reg.op rfl (Ope.asg rfl ?_)
    refine Reg.nil (Run.ret (fin_ret (.tmp rfl .nil) rfl ?_))
    rfl
  | false =>
    rw [hrt] at hr
    have hpos:0 < (faultV R zeroRid xs).2:=by
      have:¬ ¬ 0 < (faultV R zeroRid xs).2:=fun h=>by cases hr.2 h
      omega
    rw [if_pos hpos] at hc
    refine PFun.of (C:=c36) (cx_ok _ _ _) rfl (fn:=Tryz.f36) (by kernel_rfl) (c:=_) rfl rfl rfl ?_
    refine Run.seq (Run.region (cx_ok _ _ _) (Reg.op rfl (Ope.boxF rfl rfl ?_)))
    refine Reg.op rfl (Ope.asg rfl ?_)
    refine Reg.nil (Run.seq (Run.region (cx_ok _ _ _) (Reg.op rfl (Ope.load rfl rfl ?_))))
    refine Reg.op rfl (Ope.mov rfl ?_)
    refine Reg.op rfl (Ope.cf rfl rfl hc hb ?_)
    refine Reg.op rfl (Ope.mov rfl ?_)
    refine Reg.op rfl (Ope.ext rfl rfl ?_)
    refine Reg.op rfl (Ope.ext rfl rfl ?_)
    refine Reg.op rfl (Ope.ext rfl rfl ?_)
    refine Reg.op rfl (Ope.asg rfl ?_)
    refine Reg.op rfl (Ope.asg rfl ?_)
    refine Reg.op rfl (Ope.asg rfl ?_)
    refine Reg.nil (Run.seq (Run.region (cx_ok _ _ _) (Reg.op rfl (Ope.mov rfl ?_))))
    refine Reg.op rfl (Ope.eq rfl rfl ?_)
    refine Reg.op rfl (Ope.asg rfl ?_)
    refine Reg.nil (Run.ret (fin_ret (.tmp rfl .nil) rfl ?_))
    rfl
theorem f37 (R:Rst) (tl:Tail) (xs:List Int) (hx:∀ x∈xs,x=0∨x=1) (hl:xs.length=R.m) (hm16:R.m≤16):Fn P0 37 [.agg R.cells,.sl tl (xs.map I)] (B true):=by
  refine PFun.of (C:=c37) (cx_ok _ _ _) rfl (fn:=Tryz.f37) (by kernel_rfl) (c:=_) rfl rfl rfl ?_
  refine Run.seq (Run.region (cx_ok _ _ _) (Reg.op rfl (Ope.boxF rfl rfl ?_)))
  refine Reg.op rfl (Ope.asg rfl ?_)
  refine Reg.nil (Run.seq (Run.seq (Run.region (cx_ok _ _ _) (Reg.op rfl (Ope.asg rfl ?_)))))
  refine Reg.nil (Run.block (Run.loop (α:=Nat) (fun i=>[(1,.sl tl (xs.map I)),(2,.fp (.agg R.cells)),(5,I i)]) (fun _=>HE 0 []) (fun i=>i≤xs.length) (fun i=>xs.length - i) 0 ⟨rfl,rfl,rfl,trivial⟩ rfl (Nat.zero_le _) (fun i hi=>?_)))
  refine Run.seq (Run.seq (Run.region (cx_ok _ _ _) (Reg.op rfl (Ope.mov rfl ?_))))
  refine Reg.op rfl (Ope.mov rfl ?_)
  refine Reg.op rfl (Ope.len (m:=xs.length) rfl (by simp) ?_)
  refine Reg.op rfl (Ope.lt rfl rfl ?_)
  refine Reg.nil (Run.condX rfl (fun hc=>?_) fun hc=>?_)
  ·refine Run.skip (Run.seq (Run.block (Run.seq ?_)))
   have hlt:i < xs.length:=by omega
   have hx01:=hx _ (List.getElem_mem hlt)
   refine Run.region (cx_ok _ _ _) (Reg.op rfl (Ope.mov rfl ?_))
   refine Reg.op rfl (Ope.mov rfl ?_)
   refine Reg.op rfl (Ope.idxM rfl rfl rfl hlt (fun _=>rfl) ?_)
   refine Reg.op rfl (Ope.load rfl rfl ?_)
   refine Reg.op rfl (Ope.cf rfl rfl (f73 _ _ _) rfl ?_)
   refine Reg.op rfl (Ope.not rfl ?_)
   refine Reg.nil (Run.condX rfl (fun hc=>?_) fun hc=>?_)
   ·first
    |(exfalso;simp at hc;omega)
    |refine Run.seq (Run.region (cx_ok _ _ _) (Reg.op rfl (Ope.asg rfl ?_)))
     refine Reg.nil (Run.ret (Jmp.retB (Jmp.code (Jmp.round (Jmp.retB (Jmp.code (fin_ret (.tmp rfl .nil) rfl ?_)))))))
     exact congrArg B (decide_eq_true (by omega))
   ·first
    |(exfalso;simp at hc;omega)
    |refine Run.skip (Run.bend (Run.region (cx_ok _ _ _) (Reg.op rfl (Ope.mov rfl ?_))))
     refine Reg.op rfl (Ope.add rfl rfl (by omega) ?_)
     refine Reg.op rfl (Ope.asg rfl ?_)
     exact Reg.nil (Run.lend ⟨i+1,by omega,by omega,⟨rfl,rfl,rfl,trivial⟩,rfl,rfl⟩)
  ·refine Run.exit (Jmp.code (Jmp.round (Jmp.here (Run.seq (Run.region (cx_ok _ _ _) (Reg.op rfl (Ope.mov rfl ?_)))))))
   refine Reg.op rfl (Ope.len (m:=xs.length) rfl (by simp) ?_)
   refine Reg.op rfl (Ope.fld rfl rfl ?_)
   refine Reg.op rfl (Ope.load rfl rfl ?_)
   refine Reg.op rfl (Ope.eq rfl rfl ?_)
   refine Reg.op rfl (Ope.asg rfl ?_)
   refine Reg.nil (Run.ret (fin_ret (.tmp rfl .nil) rfl ?_))
   exact congrArg B (decide_eq_true (by omega))
theorem f38 (tl:Tail) (xs:List Int) (hl:xs.length≤16):Fn P0 38 [.sl tl (xs.map I)] (I (cst none xs)):=by
  refine PFun.of (C:=c38) (cx_ok _ _ _) rfl (fn:=Tryz.f38) (by kernel_rfl) (c:=_) rfl rfl rfl ?_
  refine Run.seq (Run.region (cx_ok _ _ _) (Reg.op rfl (Ope.asg rfl ?_)))
  refine Reg.nil (Run.seq (Run.region (cx_ok _ _ _) (Reg.op rfl (Ope.asg rfl ?_))))
  refine Reg.nil (Run.seq (Run.seq (Run.region (cx_ok _ _ _) (Reg.op rfl (Ope.asg rfl ?_)))))
  refine Reg.nil (Run.block (Run.loop (α:=Nat×Int) (fun s=>[(0,.sl tl (xs.map I)),(3,I s.2),(4,I s.1)]) (fun _=>HE 0 []) (fun s=>1≤s.1∧(s.1≤xs.length∨s.1=1)∧s.2=cst none (xs.take s.1)) (fun s=>xs.length - s.1) (1,0) ⟨rfl,rfl,rfl,trivial⟩ rfl ⟨Nat.le_refl _,.inr rfl,(cst_one xs).symm⟩ (fun s hs=>?_)))
  obtain ⟨i,v⟩:=s
  obtain ⟨hi1,hi2,hv⟩:=hs
  simp only at hi1 hi2 hv
  have hv0:=cst_nonneg (xs.take i) none
  have hv1:=cst_le (xs.take i) none
  rw [List.length_take] at hv1
  show Run _ _ _ _ [(0,.sl tl (xs.map I)),(3,I v),(4,I i)] [] (HE 0 [])
  refine Run.seq (Run.seq (Run.region (cx_ok _ _ _) (Reg.op rfl (Ope.mov rfl ?_))))
  refine Reg.op rfl (Ope.mov rfl ?_)
  refine Reg.op rfl (Ope.len (m:=xs.length) rfl (by simp) ?_)
  refine Reg.op rfl (Ope.lt rfl rfl ?_)
  refine Reg.nil (Run.condX rfl (fun hc=>?_) fun hc=>?_)
  ·refine Run.skip (Run.seq (Run.block (Run.seq ?_)))
   have hlt:i < xs.length:=by omega
   obtain ⟨i',rfl⟩:∃ i',i=i'+1:=⟨i - 1,by omega⟩
   have hstep:=cst_take (xs:=xs) (i:=i') (List.getElem?_eq_getElem (by omega)) (List.getElem?_eq_getElem hlt)
   refine Run.draw (cx_ok _ _ _) [(0,true),(1,true),(2,true),(3,true),(4,true),(5,true),(6,true),(7,true),(8,true),(9,true)] (by kernel_rfl) (Dra.op' rfl rfl rfl .sure (Ope.mov rfl ?_))
   refine Dra.op' rfl rfl rfl .sure (Ope.mov rfl ?_)
   refine Dra.op' rfl rfl rfl .sure (Ope.idxM (m:=i'+1) rfl rfl rfl hlt (fun _=>rfl) ?_)
   refine Dra.op' rfl rfl rfl .sure (Ope.load rfl rfl ?_)
   refine Dra.op' rfl rfl rfl .sure (Ope.mov rfl ?_)
   refine Dra.op' rfl rfl rfl .sure (Ope.mov rfl ?_)
   refine Dra.op' rfl rfl rfl .sure (Ope.sub rfl rfl (by omega) ?_)
   refine Dra.op' rfl rfl rfl .sure (Ope.idxM (m:=i') rfl rfl (by first | rfl | (simp [natK];done) | exact natK_sub) (by omega) (fun _=>rfl) ?_)
   refine Dra.op' rfl rfl rfl .sure (Ope.load rfl rfl ?_)
   refine Dra.op' rfl rfl rfl .sure (Ope.ne rfl rfl ?_)
   refine Dra.nil (Run.condX rfl (fun hc=>?_) fun hc=>?_)
   ·refine Run.region (cx_ok _ _ _) (Reg.op rfl (Ope.mov rfl ?_))
    refine Reg.op rfl (Ope.add rfl rfl (by omega) ?_)
    refine Reg.op rfl (Ope.asg rfl ?_)
    refine Reg.nil (Run.bend (Run.region (cx_ok _ _ _) (Reg.op rfl (Ope.mov rfl ?_))))
    refine Reg.op rfl (Ope.add rfl rfl (by omega) ?_)
    refine Reg.op rfl (Ope.asg rfl ?_)
    refine Reg.nil ?_
    first
      | (refine Run.lend ⟨(i' + 1 + 1, v + 1), by simp only; omega, ⟨by simp only; omega, .inl (by simp only; omega), ?_⟩, ⟨rfl, rfl, rfl, trivial⟩, rfl, rfl⟩
         show v+1=cst none (xs.take (i'+2))
         rw [hstep,hv,c1,if_neg (by simpa using hc)])
      | (refine Run.lend ⟨(i' + 1 + 1, v), by simp only; omega, ⟨by simp only; omega, .inl (by simp only; omega), ?_⟩, ⟨rfl, rfl, rfl, trivial⟩, rfl, rfl⟩
         show v=cst none (xs.take (i'+2))
         rw [hstep,hv,c1,if_pos (by simpa using hc),Int.add_zero])
   ·refine Run.skip (Run.bend (Run.region (cx_ok _ _ _) (Reg.op rfl (Ope.mov rfl ?_))))
    refine Reg.op rfl (Ope.add rfl rfl (by omega) ?_)
    refine Reg.op rfl (Ope.asg rfl ?_)
    refine Reg.nil ?_
    first
      | (refine Run.lend ⟨(i' + 1 + 1, v + 1), by simp only; omega, ⟨by simp only; omega, .inl (by simp only; omega), ?_⟩, ⟨rfl, rfl, rfl, trivial⟩, rfl, rfl⟩
         show v+1=cst none (xs.take (i'+2))
         rw [hstep,hv,c1,if_neg (by simpa using hc)])
      | (refine Run.lend ⟨(i' + 1 + 1, v), by simp only; omega, ⟨by simp only; omega, .inl (by simp only; omega), ?_⟩, ⟨rfl, rfl, rfl, trivial⟩, rfl, rfl⟩
         show v=cst none (xs.take (i'+2))
         rw [hstep,hv,c1,if_pos (by simpa using hc),Int.add_zero])
  ·refine Run.exit (Jmp.code (Jmp.round (Jmp.here (Run.seq (Run.region (cx_ok _ _ _) (Reg.op rfl (Ope.mov rfl ?_)))))))
   refine Reg.op rfl (Ope.asg rfl ?_)
   refine Reg.nil (Run.ret (fin_ret (.tmp rfl .nil) rfl ?_))
   rw [hv,List.take_of_length_le (by omega)];rfl
end Go.Pv
namespace Go.Pv
open Go.Proofs Go.Am
set_option maxRecDepth 10000
def LInv (xs:List Int) (i:Nat) (last least:Int):Prop :=
  0≤least∧least≤i∧((last=-1∧least=0)∨(0≤last∧∃ j,j < i∧xs[j]?=some last∧least≤cst none (xs.take (j+1))))
theorem LInv.skip {xs:List Int} {i:Nat} {a b:Int} (h:LInv xs i a b):LInv xs (i+1) a b:=by
  obtain ⟨h0,h1,h2⟩:=h
  refine ⟨h0,by omega,?_⟩
  rcases h2 with h2 | ⟨ha,j,hj,h3⟩
  · exact .inl h2
  · exact .inr ⟨ha,j,by omega,h3⟩
theorem LInv.same {xs:List Int} {i:Nat} {a b m:Int} (h:LInv xs i a b) (hx:xs[i]?=some m) (hm:0≤m) (hc:¬ 0≤a∨m=a):LInv xs (i+1) m b:=by
  obtain ⟨h0,h1,h2⟩:=h
  refine ⟨h0,by omega,.inr ⟨hm,i,by omega,hx,?_⟩⟩
  rcases h2 with ⟨_,rfl⟩ | ⟨ha,j,hj,h3,h4⟩
  · exact cst_nonneg _ _
  · have := cst_tri i (by omega) a m h3 hx
    have:=c1_bnd (some a) m
    omega
theorem LInv.more {xs:List Int} {i:Nat} {a b m:Int} (h:LInv xs i a b) (hx:xs[i]?=some m) (hm:0≤m) (ha:0≤a) (hne:m≠a):LInv xs (i+1) m (b+1):=by
  obtain ⟨h0,h1,h2⟩:=h
  refine ⟨by omega,by omega,.inr ⟨hm,i,by omega,hx,?_⟩⟩
  rcases h2 with ⟨h2,_⟩ | ⟨ha,j,hj,h3,h4⟩
  · omega
  · have := cst_tri i (by omega) a m h3 hx
    have:c1 (some a) m=1:=if_neg hne
    omega
theorem LInv.bnd {xs:List Int} {i:Nat} {a b:Int} (h:LInv xs i a b):b≤cst none xs:=by
  obtain ⟨h0,h1,h2⟩:=h
  rcases h2 with ⟨_,rfl⟩ | ⟨ha,j,hj,h3,h4⟩
  · exact cst_nonneg _ _
  · have := cst_mono (List.getElem?_eq_some_iff.1 h3).1
    omega
theorem f7a (h a0 b0 c0 d0 a1 b1 c1 d1 : Int) (p : Nat) (hv : validR h a0 b0 c0 d0 a1 b1 c1 d1 = false) : Fn P0 7 [.agg [I h, I a0, I b0, I c0, I d0, I a1, I b1, I c1, I d1], .lit (.int .u16 (p : Int))] (B true) := by
  have h33:=f33 h a0 b0 c0 d0 a1 b1 c1 d1
  rw [hv] at h33
  refine PFun.of (C:=c7) (cx_ok _ _ _) rfl (fn:=Tryz.f7) (by kernel_rfl) (c:=_) rfl rfl rfl ?_
  refine Run.seq (Run.region (cx_ok _ _ _) (Reg.op rfl (Ope.boxF rfl rfl ?_)))
  refine Reg.op rfl (Ope.asg rfl ?_)
  refine Reg.nil (Run.seq (Run.region (cx_ok _ _ _) (Reg.op rfl (Ope.load rfl rfl ?_))))
  refine Reg.op rfl (Ope.cf rfl rfl (f22a _ _ _ _ _ _ _ _ _ hv) rfl ?_)
  refine Reg.op rfl (Ope.mov rfl ?_)
  refine Reg.op rfl (Ope.ext rfl rfl ?_)
  refine Reg.op rfl (Ope.ext rfl rfl ?_)
  refine Reg.op rfl (Ope.ext rfl rfl ?_)
  refine Reg.op rfl (Ope.asg rfl ?_)
  refine Reg.op rfl (Ope.asg rfl ?_)
  refine Reg.op rfl (Ope.asg rfl ?_)
  refine Reg.nil (Run.seq (Run.region (cx_ok _ _ _) (Reg.op rfl (Ope.load rfl rfl ?_))))
  refine Reg.op rfl (Ope.cf rfl rfl (f18a _ _ _ _ _ _ _ _ _ hv) rfl ?_)
  refine Reg.op rfl (Ope.mov rfl ?_)
  refine Reg.op rfl (Ope.ext rfl rfl ?_)
  refine Reg.op rfl (Ope.ext rfl rfl ?_)
  refine Reg.op rfl (Ope.asg rfl ?_)
  refine Reg.op rfl (Ope.asg rfl ?_)
  refine Reg.nil (Run.seq (Run.seq (Run.region (cx_ok _ _ _) (Reg.op rfl (Ope.load rfl rfl ?_)))))
  refine Reg.op rfl (Ope.cf rfl rfl (h33) rfl ?_)
  refine Reg.op rfl (Ope.not rfl ?_)
  refine Reg.nil (Run.condX rfl (fun hc=>?_) fun hc=>?_)
  ·refine Run.seq (Run.region (cx_ok _ _ _) (Reg.op rfl (Ope.mov rfl ?_)))
   refine Reg.op rfl (Ope.eq rfl rfl ?_)
   refine Reg.op rfl (Ope.mov rfl ?_)
   refine Reg.splitX rfl rfl (fun hg=>?_) fun hg=>?_
   ·refine Reg.on rfl rfl rfl (Ope.mov rfl ?_)
    refine Reg.on rfl rfl rfl (Ope.mov rfl ?_)
    refine Reg.on rfl rfl rfl (Ope.eq rfl rfl ?_)
    refine Reg.op rfl (Ope.pickT rfl rfl ?_)
    refine Reg.op rfl (Ope.mov rfl ?_)
    refine Reg.splitX rfl rfl (fun hg=>?_) fun hg=>?_
    ·refine Reg.on rfl rfl rfl (Ope.mov rfl ?_)
     refine Reg.on rfl rfl rfl (Ope.eq rfl rfl ?_)
     refine Reg.op rfl (Ope.pickT rfl rfl ?_)
     refine Reg.op rfl (Ope.mov rfl ?_)
     refine Reg.splitX rfl rfl (fun hg=>?_) fun hg=>?_
     ·refine Reg.on rfl rfl rfl (Ope.mov rfl ?_)
      refine Reg.on rfl rfl rfl (Ope.len (m:=0) rfl rfl ?_)
      refine Reg.on rfl rfl rfl (Ope.eq rfl rfl ?_)
      refine Reg.op rfl (Ope.pickT rfl rfl ?_)
      refine Reg.op rfl (Ope.mov rfl ?_)
      refine Reg.splitX rfl rfl (fun hg=>?_) fun hg=>?_
      ·refine Reg.on rfl rfl rfl (Ope.mov rfl ?_)
       refine Reg.on rfl rfl rfl (Ope.eq rfl rfl ?_)
       refine Reg.op rfl (Ope.pickT rfl rfl ?_)
       refine Reg.op rfl (Ope.mov rfl ?_)
       refine Reg.splitX rfl rfl (fun hg=>?_) fun hg=>?_
       ·refine Reg.on rfl rfl rfl (Ope.clo rfl rfl awakeC ?_)
        refine Reg.op rfl (Ope.pickT rfl rfl ?_)
        refine Reg.op rfl (Ope.asg rfl ?_)
        refine Reg.nil (Run.ret (Jmp.code (fin_ret (.tmp rfl .nil) rfl ?_)))
        rfl
       ·(first | (exfalso;first | omega | (exact absurd hg (by decide))))
      ·(first | (exfalso;first | omega | (exact absurd hg (by decide))))
     ·(first | (exfalso;first | omega | (exact absurd hg (by decide))))
    ·(first | (exfalso;first | omega | (exact absurd hg (by decide))))
   ·(first | (exfalso;first | omega | (exact absurd hg (by decide))))
  ·(first | (exfalso;first | omega | (exact absurd hc (by decide))))
theorem f7n (R : Rst) (hR : R.ok) (p : Nat) (hp : p < 65536) (hv : validR R.m R.o0 R.t0 R.r0 R.f0 R.o1 R.t1 R.r1 R.f1 = true) (hn : R.best askF = none) (L : List Int) (hLe : L = byL R.m p) (hx : ∀ x ∈ L, x = 0 ∨ x = 1) (hlen : L.length = R.m) : Fn P0 7 [.agg R.cells, .lit (.int .u16 (p : Int))] (B true) := by
  have h33:=f33 R.m R.o0 R.t0 R.r0 R.f0 R.o1 R.t1 R.r1 R.f1
  rw [hv] at h33
  have hm16:=hR.1
  have h18:=f18b R hR hv
  have hz:R.many=0:=(few_none R R.m zeroRid).1 hn
  rw [hz] at h18
  have h34:=f34 R.m p hm16 hp
  rw [← hLe] at h34
  have hrt:rt R zeroRid L=false:=by
    cases hrt:rt R zeroRid L with
    | false=>rfl
    | true =>
      have:=rt_cnt R L zeroRid hx hrt
      rw [hlen] at this
      have:0 < R.many:=this
      omega
  have h36:=f36 R hv .no rfl L hx hlen
  rw [hrt] at h36
  have hbL:PV.bds 0 [.agg R.cells,.sl .no (L.map I)]=true:=by
    simp only [PV.bds,bd_sl (f:=I) (tl:=.no) rfl (fun _=>rfl) L,Bool.and_true]
    rfl
  refine PFun.of (C:=c7) (cx_ok _ _ _) rfl (fn:=Tryz.f7) (by kernel_rfl) (c:=_) rfl rfl rfl ?_
  refine Run.seq (Run.region (cx_ok _ _ _) (Reg.op rfl (Ope.boxF rfl rfl ?_)))
  refine Reg.op rfl (Ope.asg rfl ?_)
  refine Reg.nil (Run.seq (Run.region (cx_ok _ _ _) (Reg.op rfl (Ope.load rfl rfl ?_))))
  refine Reg.op rfl (Ope.cf rfl rfl (f22b R hR hv hn) rfl ?_)
  refine Reg.op rfl (Ope.mov rfl ?_)
  refine Reg.op rfl (Ope.ext rfl rfl ?_)
  refine Reg.op rfl (Ope.ext rfl rfl ?_)
  refine Reg.op rfl (Ope.ext rfl rfl ?_)
  refine Reg.op rfl (Ope.asg rfl ?_)
  refine Reg.op rfl (Ope.asg rfl ?_)
  refine Reg.op rfl (Ope.asg rfl ?_)
  refine Reg.nil (Run.seq (Run.region (cx_ok _ _ _) (Reg.op rfl (Ope.load rfl rfl ?_))))
  refine Reg.op rfl (Ope.cf rfl rfl (h18) rfl ?_)
  refine Reg.op rfl (Ope.mov rfl ?_)
  refine Reg.op rfl (Ope.ext rfl rfl ?_)
  refine Reg.op rfl (Ope.ext rfl rfl ?_)
  refine Reg.op rfl (Ope.asg rfl ?_)
  refine Reg.op rfl (Ope.asg rfl ?_)
  refine Reg.nil (Run.seq (Run.seq (Run.region (cx_ok _ _ _) (Reg.op rfl (Ope.load rfl rfl ?_)))))
  refine Reg.op rfl (Ope.cf rfl rfl (h33) rfl ?_)
  refine Reg.op rfl (Ope.not rfl ?_)
  refine Reg.nil (Run.condX rfl (fun hc=>?_) fun hc=>?_)
  ·(first | (exfalso;first | omega | (exact absurd hc (by decide))))
  ·refine Run.skip (Run.seq (Run.region (cx_ok _ _ _) (Reg.op rfl (Ope.fld rfl rfl ?_))))
   refine Reg.op rfl (Ope.load rfl rfl ?_)
   refine Reg.op rfl (Ope.mov rfl ?_)
   refine Reg.op rfl (Ope.cf rfl rfl (h34) rfl ?_)
   refine Reg.op rfl (Ope.asg rfl ?_)
   refine Reg.nil (Run.seq (Run.seq (Run.region (cx_ok _ _ _) (Reg.op rfl (Ope.mov rfl ?_)))))
   refine Reg.op rfl (Ope.ne rfl rfl ?_)
   refine Reg.op rfl (Ope.mov rfl ?_)
   refine Reg.splitX rfl rfl (fun hg=>?_) fun hg=>?_
   ·(first | (exfalso;first | omega | (exact absurd hg (by decide))))
   ·refine Reg.on rfl rfl rfl (Ope.mov rfl ?_)
    refine Reg.on rfl rfl rfl (Ope.lt rfl rfl ?_)
    refine Reg.op rfl (Ope.pickF rfl rfl ?_)
    refine Reg.op rfl (Ope.mov rfl ?_)
    refine Reg.splitX rfl rfl (fun hg=>?_) fun hg=>?_
    ·(first | (exfalso;first | omega | (exact absurd hg (by decide))))
    ·refine Reg.on rfl rfl rfl (Ope.mov rfl ?_)
     refine Reg.on rfl rfl rfl (Ope.eq rfl rfl ?_)
     refine Reg.on rfl rfl rfl (Ope.mov rfl ?_)
     refine Reg.on rfl rfl rfl (Ope.gt rfl rfl ?_)
     refine Reg.on rfl rfl rfl (Ope.neB (by kernel_rfl) rfl rfl ?_)
     refine Reg.op rfl (Ope.pickF rfl rfl ?_)
     refine Reg.op rfl (Ope.mov rfl ?_)
     refine Reg.splitX rfl rfl (fun hg=>?_) fun hg=>?_
     ·(first | (exfalso;first | omega | (exact absurd hg (by decide))))
     ·refine Reg.on rfl rfl rfl (Ope.load rfl rfl ?_)
      refine Reg.on rfl rfl rfl (Ope.mov rfl ?_)
      refine Reg.on rfl rfl rfl (Ope.cf rfl rfl h36 hbL ?_)
      refine Reg.on rfl rfl rfl (Ope.mov rfl ?_)
      refine Reg.splitX rfl rfl (fun hg=>?_) fun hg=>?_
      ·(first | (exfalso;first | omega | (exact absurd hg (by decide))))
      ·refine Reg.off rfl rfl rfl (Reg.off rfl rfl rfl (Reg.on rfl rfl rfl (Ope.pickF rfl rfl ?_)))
       refine Reg.op rfl (Ope.pickF rfl rfl ?_)
       refine Reg.nil (Run.condF rfl (Run.skip (Run.seq (Run.seq (Run.region (cx_ok _ _ _) (Reg.op rfl (Ope.mov rfl ?_)))))))
       refine Reg.op rfl (Ope.ne rfl rfl ?_)
       refine Reg.nil (Run.condX rfl (fun hc=>?_) fun hc=>?_)
       ·refine Run.seq (Run.region (cx_ok _ _ _) (Reg.op rfl (Ope.mov rfl ?_)))
        refine Reg.op rfl (Ope.eq rfl rfl ?_)
        refine Reg.op rfl (Ope.mov rfl ?_)
        refine Reg.splitX rfl rfl (fun hg=>?_) fun hg=>?_
        ·refine Reg.on rfl rfl rfl (Ope.mov rfl ?_)
         refine Reg.on rfl rfl rfl (Ope.eq rfl rfl ?_)
         refine Reg.op rfl (Ope.pickT rfl rfl ?_)
         refine Reg.op rfl (Ope.mov rfl ?_)
         refine Reg.splitX rfl rfl (fun hg=>?_) fun hg=>?_
         ·refine Reg.on rfl rfl rfl (Ope.mov rfl ?_)
          refine Reg.on rfl rfl rfl (Ope.len (m:=0) rfl rfl ?_)
          refine Reg.on rfl rfl rfl (Ope.eq rfl rfl ?_)
          refine Reg.op rfl (Ope.pickT rfl rfl ?_)
          refine Reg.op rfl (Ope.mov rfl ?_)
          refine Reg.splitX rfl rfl (fun hg=>?_) fun hg=>?_
          ·refine Reg.on rfl rfl rfl (Ope.clo rfl rfl awakeC ?_)
           refine Reg.op rfl (Ope.pickT rfl rfl ?_)
           refine Reg.op rfl (Ope.asg rfl ?_)
           refine Reg.nil (Run.ret (Jmp.code (fin_ret (.tmp rfl .nil) rfl ?_)))
           rfl
          ·(first | (exfalso;first | omega | (exact absurd hg (by decide))))
         ·(first | (exfalso;first | omega | (exact absurd hg (by decide))))
        ·(first | (exfalso;first | omega | (exact absurd hg (by decide))))
       ·(first | (exfalso;first | omega | (exact absurd hc (by decide))))
theorem f7s (R : Rst) (hR : R.ok) (p : Nat) (hp : p < 65536) (hv : validR R.m R.o0 R.t0 R.r0 R.f0 R.o1 R.t1 R.r1 R.f1 = true) (n : Int) (xs : List Int) (hn : R.best askF = some (n, xs)) (L : List Int) (hLe : L = byL R.m p) (hx : ∀ x ∈ L, x = 0 ∨ x = 1) (hlen : L.length = R.m) : Fn P0 7 [.agg R.cells, .lit (.int .u16 (p : Int))] (B true) := by
  have h33:=f33 R.m R.o0 R.t0 R.r0 R.f0 R.o1 R.t1 R.r1 R.f1
  rw [hv] at h33
  obtain ⟨g1,g2,g3,g4,g5⟩:=few_best R R.m zeroRid (n,xs) (by decide) hn
  change xs.length=R.m at g1
  change ∀ x∈xs,x=0∨x=1 at g2
  change rt R zeroRid xs=true at g3
  change n=cst none xs at g4
  have hnn:0≤n:=by rw [g4];exact cst_nonneg _ _
  have hm16:=hR.1
  have h18:=f18b R hR hv
  have hmany:0 < R.many:=by
    have:=rt_cnt R xs zeroRid g2 g3
    rw [g1] at this
    exact this
  have hmany':R.many≠0:=by omega
  have h34:=f34 R.m p hm16 hp
  rw [← hLe] at h34
  have h36L:=f36 R hv .no rfl L hx hlen
  have h36x:=f36 R hv (wt xs) (wt_own xs) xs g2 g1
  rw [g3] at h36x
  have h38x:=f38 (wt xs) xs (by omega)
  rw [← g4] at h38x
  have hbL:PV.bds 0 [.agg R.cells,.sl .no (L.map I)]=true:=by
    simp only [PV.bds,bd_sl (f:=I) (tl:=.no) rfl (fun _=>rfl) L,Bool.and_true]
    rfl
  have hbx:PV.bds 0 [.agg R.cells,.sl (wt xs) (xs.map I)]=true:=by
    simp only [PV.bds,bd_sl (f:=I) (wt_own xs) (fun _=>rfl) xs,Bool.and_true]
    rfl
  have hbL1:PV.bds 0 [.sl .no (L.map I)]=true:=by
    simp only [PV.bds,bd_sl (f:=I) (tl:=.no) rfl (fun _=>rfl) L,Bool.and_true]
  have hbx1:PV.bds 0 [.sl (wt xs) (xs.map I)]=true:=by
    simp only [PV.bds,bd_sl (f:=I) (wt_own xs) (fun _=>rfl) xs,Bool.and_true]
  have h38L:=f38 .no L (by omega)
  have hmin:=g5 L hlen hx
  change rt R zeroRid L=true→n≤cst none L∧(n=cst none L→lexle xs L) at hmin
  have ho0:=hR.2.1
  have ho1:=hR.2.2.1
  cases hrt:rt R zeroRid L
  all_goals
    rw [hrt] at h36L hmin
    refine PFun.of (C:=c7) (cx_ok _ _ _) rfl (fn:=Tryz.f7) (by kernel_rfl) (c:=_) rfl rfl rfl ?_
    refine Run.seq (Run.region (cx_ok _ _ _) (Reg.op rfl (Ope.boxF rfl rfl ?_)))
    refine Reg.op rfl (Ope.asg rfl ?_)
    refine Reg.nil (Run.seq (Run.region (cx_ok _ _ _) (Reg.op rfl (Ope.load rfl rfl ?_))))
    refine Reg.op rfl (Ope.cf rfl rfl (f22c R hR hv (n,xs) hn) rfl ?_)
    refine Reg.op rfl (Ope.mov rfl ?_)
    refine Reg.op rfl (Ope.ext rfl rfl ?_)
    refine Reg.op rfl (Ope.ext rfl rfl ?_)
    refine Reg.op rfl (Ope.ext rfl rfl ?_)
    refine Reg.op rfl (Ope.asg rfl ?_)
    refine Reg.op rfl (Ope.asg rfl ?_)
    refine Reg.op rfl (Ope.asg rfl ?_)
    refine Reg.nil (Run.seq (Run.region (cx_ok _ _ _) (Reg.op rfl (Ope.load rfl rfl ?_))))
    refine Reg.op rfl (Ope.cf rfl rfl (h18) rfl ?_)
    refine Reg.op rfl (Ope.mov rfl ?_)
    refine Reg.op rfl (Ope.ext rfl rfl ?_)
    refine Reg.op rfl (Ope.ext rfl rfl ?_)
    refine Reg.op rfl (Ope.asg rfl ?_)
    refine Reg.op rfl (Ope.asg rfl ?_)
    refine Reg.nil (Run.seq (Run.seq (Run.region (cx_ok _ _ _) (Reg.op rfl (Ope.load rfl rfl ?_)))))
    refine Reg.op rfl (Ope.cf rfl rfl (h33) rfl ?_)
    refine Reg.op rfl (Ope.not rfl ?_)
    refine Reg.nil (Run.condX rfl (fun hc=>?_) fun hc=>?_)
    ·(first | (exfalso;first | omega | (exact absurd hc (by decide)) | (have:=(hmin rfl).1;omega) | (have:=hI.bnd;omega) | (have:=lexle_at xs L i ((hmin rfl).2 (by omega)) (hi2 (by omega)) _ _ (List.getElem?_eq_getElem hlt) (List.getElem?_eq_getElem hltL) (by omega);omega) | (simp [hmany,hmany'] at hc;done)))
    ·refine Run.skip (Run.seq (Run.region (cx_ok _ _ _) (Reg.op rfl (Ope.fld rfl rfl ?_))))
     refine Reg.op rfl (Ope.load rfl rfl ?_)
     refine Reg.op rfl (Ope.mov rfl ?_)
     refine Reg.op rfl (Ope.cf rfl rfl (h34) rfl ?_)
     refine Reg.op rfl (Ope.asg rfl ?_)
     refine Reg.nil (Run.seq (Run.seq (Run.region (cx_ok _ _ _) (Reg.op rfl (Ope.mov rfl ?_)))))
     refine Reg.op rfl (Ope.ne rfl rfl ?_)
     refine Reg.op rfl (Ope.mov rfl ?_)
     refine Reg.splitX rfl rfl (fun hg=>?_) fun hg=>?_
     ·(first | (exfalso;first | omega | (exact absurd hg (by decide)) | (have:=(hmin rfl).1;omega) | (have:=hI.bnd;omega) | (have:=lexle_at xs L i ((hmin rfl).2 (by omega)) (hi2 (by omega)) _ _ (List.getElem?_eq_getElem hlt) (List.getElem?_eq_getElem hltL) (by omega);omega) | (simp [hmany,hmany'] at hg;done)))
     ·refine Reg.on rfl rfl rfl (Ope.mov rfl ?_)
      refine Reg.on rfl rfl rfl (Ope.lt rfl rfl ?_)
      refine Reg.op rfl (Ope.pickF rfl rfl ?_)
      refine Reg.op rfl (Ope.mov rfl ?_)
      refine Reg.splitX rfl rfl (fun hg=>?_) fun hg=>?_
      ·(first | (exfalso;first | omega | (exact absurd hg (by decide)) | (have:=(hmin rfl).1;omega) | (have:=hI.bnd;omega) | (have:=lexle_at xs L i ((hmin rfl).2 (by omega)) (hi2 (by omega)) _ _ (List.getElem?_eq_getElem hlt) (List.getElem?_eq_getElem hltL) (by omega);omega) | (simp [hmany,hmany'] at hg;done)))
      ·refine Reg.on rfl rfl rfl (Ope.mov rfl ?_)
       refine Reg.on rfl rfl rfl (Ope.eq rfl rfl ?_)
       refine Reg.on rfl rfl rfl (Ope.mov rfl ?_)
       refine Reg.on rfl rfl rfl (Ope.gt rfl rfl ?_)
       refine Reg.on rfl rfl rfl (Ope.neB (by kernel_rfl) rfl rfl ?_)
       refine Reg.op rfl (Ope.pickF rfl rfl ?_)
       refine Reg.op rfl (Ope.mov rfl ?_)
       refine Reg.splitX rfl rfl (fun hg=>?_) fun hg=>?_
       ·(first | (exfalso;first | omega | (exact absurd hg (by decide)) | (have:=(hmin rfl).1;omega) | (have:=hI.bnd;omega) | (have:=lexle_at xs L i ((hmin rfl).2 (by omega)) (hi2 (by omega)) _ _ (List.getElem?_eq_getElem hlt) (List.getElem?_eq_getElem hltL) (by omega);omega) | (simp [hmany,hmany'] at hg;done)))
       ·refine Reg.on rfl rfl rfl (Ope.load rfl rfl ?_)
        refine Reg.on rfl rfl rfl (Ope.mov rfl ?_)
        refine Reg.on rfl rfl rfl (Ope.cf rfl rfl h36L hbL ?_)
        refine Reg.on rfl rfl rfl (Ope.mov rfl ?_)
        refine Reg.splitX rfl rfl (fun hg=>?_) fun hg=>?_
        ·first
         |(first | (exfalso;first | omega | (exact absurd hg (by decide)) | (have:=(hmin rfl).1;omega) | (have:=hI.bnd;omega) | (have:=lexle_at xs L i ((hmin rfl).2 (by omega)) (hi2 (by omega)) _ _ (List.getElem?_eq_getElem hlt) (List.getElem?_eq_getElem hltL) (by omega);omega) | (simp [hmany,hmany'] at hg;done)))
         |refine Reg.on rfl rfl rfl (Ope.mov rfl ?_)
          refine Reg.on rfl rfl rfl (Ope.eq rfl rfl ?_)
          refine Reg.on rfl rfl rfl (Ope.pickT rfl rfl ?_)
          refine Reg.op rfl (Ope.pickF rfl rfl ?_)
          refine Reg.nil (Run.condX rfl (fun hc=>?_) fun hc=>?_)
          ·(first | (exfalso;first | omega | (exact absurd hc (by decide)) | (have:=(hmin rfl).1;omega) | (have:=hI.bnd;omega) | (have:=lexle_at xs L i ((hmin rfl).2 (by omega)) (hi2 (by omega)) _ _ (List.getElem?_eq_getElem hlt) (List.getElem?_eq_getElem hltL) (by omega);omega) | (simp [hmany,hmany'] at hc;done)))
          ·refine Run.skip (Run.seq (Run.seq (Run.region (cx_ok _ _ _) (Reg.op rfl (Ope.mov rfl ?_)))))
           refine Reg.op rfl (Ope.ne rfl rfl ?_)
           refine Reg.nil (Run.condX rfl (fun hc=>?_) fun hc=>?_)
           ·(first | (exfalso;first | omega | (exact absurd hc (by decide)) | (have:=(hmin rfl).1;omega) | (have:=hI.bnd;omega) | (have:=lexle_at xs L i ((hmin rfl).2 (by omega)) (hi2 (by omega)) _ _ (List.getElem?_eq_getElem hlt) (List.getElem?_eq_getElem hltL) (by omega);omega) | (simp [hmany,hmany'] at hc;done)))
           ·refine Run.skip (Run.seq (Run.seq (Run.region (cx_ok _ _ _) (Reg.op rfl (Ope.load rfl rfl ?_)))))
            refine Reg.op rfl (Ope.mov rfl ?_)
            refine Reg.op rfl (Ope.cf rfl rfl (f37 R (wt xs) xs g2 g1 hm16) hbx ?_)
            refine Reg.op rfl (Ope.not rfl ?_)
            refine Reg.op rfl (Ope.mov rfl ?_)
            refine Reg.splitX rfl rfl (fun hg=>?_) fun hg=>?_
            ·(first | (exfalso;first | omega | (exact absurd hg (by decide)) | (have:=(hmin rfl).1;omega) | (have:=hI.bnd;omega) | (have:=lexle_at xs L i ((hmin rfl).2 (by omega)) (hi2 (by omega)) _ _ (List.getElem?_eq_getElem hlt) (List.getElem?_eq_getElem hltL) (by omega);omega) | (simp [hmany,hmany'] at hg;done)))
            ·refine Reg.on rfl rfl rfl (Ope.load rfl rfl ?_)
             refine Reg.on rfl rfl rfl (Ope.mov rfl ?_)
             refine Reg.on rfl rfl rfl (Ope.cf rfl rfl h36x hbx ?_)
             refine Reg.on rfl rfl rfl (Ope.not rfl ?_)
             refine Reg.op rfl (Ope.pickF rfl rfl ?_)
             refine Reg.op rfl (Ope.mov rfl ?_)
             refine Reg.splitX rfl rfl (fun hg=>?_) fun hg=>?_
             ·(first | (exfalso;first | omega | (exact absurd hg (by decide)) | (have:=(hmin rfl).1;omega) | (have:=hI.bnd;omega) | (have:=lexle_at xs L i ((hmin rfl).2 (by omega)) (hi2 (by omega)) _ _ (List.getElem?_eq_getElem hlt) (List.getElem?_eq_getElem hltL) (by omega);omega) | (simp [hmany,hmany'] at hg;done)))
             ·refine Reg.on rfl rfl rfl (Ope.mov rfl ?_)
              refine Reg.on rfl rfl rfl (Ope.cf rfl rfl h38x hbx1 ?_)
              refine Reg.on rfl rfl rfl (Ope.mov rfl ?_)
              refine Reg.on rfl rfl rfl (Ope.ne rfl rfl ?_)
              refine Reg.op rfl (Ope.pickF rfl rfl ?_)
              refine Reg.nil (Run.condX rfl (fun hc=>?_) fun hc=>?_)
              ·(first | (exfalso;first | omega | (exact absurd hc (by decide)) | (have:=(hmin rfl).1;omega) | (have:=hI.bnd;omega) | (have:=lexle_at xs L i ((hmin rfl).2 (by omega)) (hi2 (by omega)) _ _ (List.getElem?_eq_getElem hlt) (List.getElem?_eq_getElem hltL) (by omega);omega) | (simp [hmany,hmany'] at hc;done)))
              ·refine Run.skip (Run.seq (Run.region (cx_ok _ _ _) (Reg.op rfl (Ope.asg rfl ?_))))
               refine Reg.op rfl (Ope.asg rfl ?_)
               refine Reg.nil (Run.seq (Run.seq (Run.region (cx_ok _ _ _) (Reg.op rfl (Ope.fld rfl rfl ?_)))))
               refine Reg.op rfl (Ope.load rfl rfl ?_)
               refine Reg.op rfl (Ope.mov rfl ?_)
               refine Reg.nil (Run.block (Run.loop (α:=Nat×Int×Int) (fun s=>[(2,.fp (.agg R.cells)),(5,I n),(6,.sl (wt xs) (xs.map I)),(10,.sl .no (L.map I)),(11,I s.2.1),(12,I s.2.2),(115,I R.m),(116,I s.1)]) (fun _=>HE 0 []) (fun s=>s.1≤R.m∧LInv xs s.1 s.2.1 s.2.2) (fun s=>R.m - s.1) (0,-1,0) ⟨rfl,rfl,rfl,rfl,rfl,rfl,rfl,rfl,trivial⟩ rfl ⟨Nat.zero_le _,Int.le_refl _,Int.le_refl _,.inl ⟨rfl,rfl⟩⟩ (fun s hs=>?_)))
               obtain ⟨i,last,least⟩:=s
               obtain ⟨hi,hI⟩:=hs
               simp only at hi hI
               have hI0:=hI.1
               have hI1:=hI.2.1
               show Run _ _ _ _ [(2,.fp (.agg R.cells)),(5,I n),(6,.sl (wt xs) (xs.map I)),(10,.sl .no (L.map I)),(11,I last),(12,I least),(115,I R.m),(116,I i)] [] (HE 0 [])
               refine Run.seq (Run.region (cx_ok _ _ _) (Reg.op rfl (Ope.lt rfl rfl ?_)))
               refine Reg.nil (Run.seq (Run.condX rfl (fun hc=>?_) fun hc=>?_))
               ·refine Run.skip (Run.seq (Run.block (Run.seq ?_)))
                have hlt:i < xs.length:=by omega
                have hgx:xs[i]?=some xs[i]:=List.getElem?_eq_getElem hlt
                have hx01:=g2 _ (List.getElem_mem hlt)
                obtain ⟨hr0,hr1⟩:=rt_out g2 g3 hgx
                have hr0':=Decidable.imp_iff_not_or.1 hr0
                have hr1':=Decidable.imp_iff_not_or.1 hr1
                have hs0:R.o0 >>> i < 2 ^ 62:=Nat.lt_of_le_of_lt (Nat.shiftRight_le _ _) ho0
                have hs1:R.o1 >>> i < 2 ^ 62:=Nat.lt_of_le_of_lt (Nat.shiftRight_le _ _) ho1
                refine Run.region (cx_ok _ _ _) (Reg.op rfl (Ope.mov rfl ?_))
                refine Reg.op rfl (Ope.asg rfl ?_)
                refine Reg.nil (Run.seq (Run.draw (cx_ok _ _ _) [(0,true),(1,true),(2,true),(3,true),(4,true),(5,true),(6,true),(7,true),(8,true),(9,true),(10,true),(11,true),(12,true),(13,true),(14,true),(15,true),(16,true),(17,true)] (by kernel_rfl) (Dra.op' rfl rfl rfl .sure (Ope.fld rfl rfl ?_))))
                refine Dra.op' rfl rfl rfl .sure (Ope.idxA rfl rfl rfl rfl ?_)
                refine Dra.op' rfl rfl rfl .sure (Ope.fld rfl rfl ?_)
                refine Dra.op' rfl rfl rfl .sure (Ope.load rfl rfl ?_)
                refine Dra.op' rfl rfl rfl .sure (Ope.mov rfl ?_)
                refine Dra.op' rfl rfl rfl .sure (Ope.shrN (m:=i) rfl rfl rfl rfl (by show i≤64;omega) ?_)
                refine Dra.op' rfl rfl rfl .sure (Ope.andN (q:=1) rfl rfl rfl rfl (by show _ < 2 ^ 64;omega) (by decide) ?_)
                refine Dra.op' rfl rfl rfl .sure (Ope.eq rfl rfl ?_)
                refine Dra.op' rfl rfl rfl .sure (Ope.fld rfl rfl ?_)
                refine Dra.op' rfl rfl rfl .sure (Ope.idxA rfl rfl rfl rfl ?_)
                refine Dra.op' rfl rfl rfl .sure (Ope.fld rfl rfl ?_)
                refine Dra.op' rfl rfl rfl .sure (Ope.load rfl rfl ?_)
                refine Dra.op' rfl rfl rfl .sure (Ope.mov rfl ?_)
                refine Dra.op' rfl rfl rfl .sure (Ope.shrN (m:=i) rfl rfl rfl rfl (by show i≤64;omega) ?_)
                refine Dra.op' rfl rfl rfl .sure (Ope.andN (q:=1) rfl rfl rfl rfl (by show _ < 2 ^ 64;omega) (by decide) ?_)
                refine Dra.op' rfl rfl rfl .sure (Ope.eq rfl rfl ?_)
                refine Dra.op' rfl rfl rfl .sure (Ope.asg rfl ?_)
                refine Dra.op' rfl rfl rfl .sure (Ope.asg rfl ?_)
                refine Dra.nil (Run.seq (Run.seq (Run.region (cx_ok _ _ _) (Reg.op rfl (Ope.mov rfl ?_)))))
                refine Reg.op rfl (Ope.mov rfl ?_)
                refine Reg.op rfl (Ope.eqB (by kernel_rfl) rfl rfl ?_)
                refine Reg.nil (Run.condX rfl (fun hc=>?_) fun hc=>?_)
                ·refine Run.exit (Jmp.code (Jmp.here (Run.region (cx_ok _ _ _) (Reg.op rfl (Ope.add rfl rfl (by omega) ?_)))))
                 refine Reg.op rfl (Ope.mov rfl ?_)
                 refine Reg.nil ?_
                 first
                   | exact Run.lend ⟨(i+1,last,least),by simp only;omega,⟨by simp only;omega,hI.skip⟩,⟨rfl,rfl,rfl,rfl,rfl,rfl,rfl,rfl,trivial⟩,rfl,rfl⟩
                   | exact Run.lend ⟨(i+1,1,least+1),by simp only;omega,⟨by simp only;omega,hI.more (m:=1) (by rw [hgx];exact congrArg some (by omega)) (by decide) (by omega) (by omega)⟩,⟨rfl,rfl,rfl,rfl,rfl,rfl,rfl,rfl,trivial⟩,rfl,rfl⟩
                   | exact Run.lend ⟨(i+1,1,least),by simp only;omega,⟨by simp only;omega,hI.same (m:=1) (by rw [hgx];exact congrArg some (by omega)) (by decide) (by omega)⟩,⟨rfl,rfl,rfl,rfl,rfl,rfl,rfl,rfl,trivial⟩,rfl,rfl⟩
                   | exact Run.lend ⟨(i+1,0,least+1),by simp only;omega,⟨by simp only;omega,hI.more (m:=0) (by rw [hgx];exact congrArg some (by omega)) (by decide) (by omega) (by omega)⟩,⟨rfl,rfl,rfl,rfl,rfl,rfl,rfl,rfl,trivial⟩,rfl,rfl⟩
                   | exact Run.lend ⟨(i+1,0,least),by simp only;omega,⟨by simp only;omega,hI.same (m:=0) (by rw [hgx];exact congrArg some (by omega)) (by decide) (by omega)⟩,⟨rfl,rfl,rfl,rfl,rfl,rfl,rfl,rfl,trivial⟩,rfl,rfl⟩
                ·refine Run.skip (Run.seq ?_)
                 have hdiff:¬ (((R.o0 >>> i &&& 1:Nat):Int)=1↔((R.o1 >>> i &&& 1:Nat):Int)=1):=by
                   simpa only [beq_eq_false_iff_ne,ne_eq,decide_eq_decide] using hc
                 refine Run.region (cx_ok _ _ _) (Reg.op rfl (Ope.asg rfl ?_))
                 refine Reg.nil (Run.seq (Run.seq (Run.region (cx_ok _ _ _) (Reg.op rfl (Ope.mov rfl ?_)))))
                 refine Reg.nil (Run.condX rfl (fun hc=>?_) fun hc=>?_)
                 ·refine Run.region (cx_ok _ _ _) (Reg.op rfl (Ope.asg rfl ?_))
                  refine Reg.nil (Run.seq (Run.seq (Run.region (cx_ok _ _ _) (Reg.op rfl (Ope.mov rfl ?_)))))
                  refine Reg.op rfl (Ope.ge rfl rfl ?_)
                  refine Reg.op rfl (Ope.mov rfl ?_)
                  refine Reg.splitX rfl rfl (fun hg=>?_) fun hg=>?_
                  ·refine Reg.on rfl rfl rfl (Ope.mov rfl ?_)
                   refine Reg.on rfl rfl rfl (Ope.mov rfl ?_)
                   refine Reg.on rfl rfl rfl (Ope.ne rfl rfl ?_)
                   refine Reg.op rfl (Ope.pickT rfl rfl ?_)
                   refine Reg.nil (Run.condX rfl (fun hc=>?_) fun hc=>?_)
                   ·refine Run.region (cx_ok _ _ _) (Reg.op rfl (Ope.mov rfl ?_))
                    refine Reg.op rfl (Ope.add rfl rfl (by omega) ?_)
                    refine Reg.op rfl (Ope.asg rfl ?_)
                    refine Reg.nil (Run.region (cx_ok _ _ _) (Reg.op rfl (Ope.mov rfl ?_)))
                    refine Reg.op rfl (Ope.asg rfl ?_)
                    refine Reg.nil (Run.bend (Run.region (cx_ok _ _ _) (Reg.op rfl (Ope.add rfl rfl (by omega) ?_))))
                    refine Reg.op rfl (Ope.mov rfl ?_)
                    refine Reg.nil ?_
                    first
                      | exact Run.lend ⟨(i+1,last,least),by simp only;omega,⟨by simp only;omega,hI.skip⟩,⟨rfl,rfl,rfl,rfl,rfl,rfl,rfl,rfl,trivial⟩,rfl,rfl⟩
                      | exact Run.lend ⟨(i+1,1,least+1),by simp only;omega,⟨by simp only;omega,hI.more (m:=1) (by rw [hgx];exact congrArg some (by omega)) (by decide) (by omega) (by omega)⟩,⟨rfl,rfl,rfl,rfl,rfl,rfl,rfl,rfl,trivial⟩,rfl,rfl⟩
                      | exact Run.lend ⟨(i+1,1,least),by simp only;omega,⟨by simp only;omega,hI.same (m:=1) (by rw [hgx];exact congrArg some (by omega)) (by decide) (by omega)⟩,⟨rfl,rfl,rfl,rfl,rfl,rfl,rfl,rfl,trivial⟩,rfl,rfl⟩
                      | exact Run.lend ⟨(i+1,0,least+1),by simp only;omega,⟨by simp only;omega,hI.more (m:=0) (by rw [hgx];exact congrArg some (by omega)) (by decide) (by omega) (by omega)⟩,⟨rfl,rfl,rfl,rfl,rfl,rfl,rfl,rfl,trivial⟩,rfl,rfl⟩
                      | exact Run.lend ⟨(i+1,0,least),by simp only;omega,⟨by simp only;omega,hI.same (m:=0) (by rw [hgx];exact congrArg some (by omega)) (by decide) (by omega)⟩,⟨rfl,rfl,rfl,rfl,rfl,rfl,rfl,rfl,trivial⟩,rfl,rfl⟩
                   ·refine Run.skip (Run.region (cx_ok _ _ _) (Reg.op rfl (Ope.mov rfl ?_)))
                    refine Reg.op rfl (Ope.asg rfl ?_)
                    refine Reg.nil (Run.bend (Run.region (cx_ok _ _ _) (Reg.op rfl (Ope.add rfl rfl (by omega) ?_))))
                    refine Reg.op rfl (Ope.mov rfl ?_)
                    refine Reg.nil ?_
                    first
                      | exact Run.lend ⟨(i+1,last,least),by simp only;omega,⟨by simp only;omega,hI.skip⟩,⟨rfl,rfl,rfl,rfl,rfl,rfl,rfl,rfl,trivial⟩,rfl,rfl⟩
                      | exact Run.lend ⟨(i+1,1,least+1),by simp only;omega,⟨by simp only;omega,hI.more (m:=1) (by rw [hgx];exact congrArg some (by omega)) (by decide) (by omega) (by omega)⟩,⟨rfl,rfl,rfl,rfl,rfl,rfl,rfl,rfl,trivial⟩,rfl,rfl⟩
                      | exact Run.lend ⟨(i+1,1,least),by simp only;omega,⟨by simp only;omega,hI.same (m:=1) (by rw [hgx];exact congrArg some (by omega)) (by decide) (by omega)⟩,⟨rfl,rfl,rfl,rfl,rfl,rfl,rfl,rfl,trivial⟩,rfl,rfl⟩
                      | exact Run.lend ⟨(i+1,0,least+1),by simp only;omega,⟨by simp only;omega,hI.more (m:=0) (by rw [hgx];exact congrArg some (by omega)) (by decide) (by omega) (by omega)⟩,⟨rfl,rfl,rfl,rfl,rfl,rfl,rfl,rfl,trivial⟩,rfl,rfl⟩
                      | exact Run.lend ⟨(i+1,0,least),by simp only;omega,⟨by simp only;omega,hI.same (m:=0) (by rw [hgx];exact congrArg some (by omega)) (by decide) (by omega)⟩,⟨rfl,rfl,rfl,rfl,rfl,rfl,rfl,rfl,trivial⟩,rfl,rfl⟩
                  ·refine Reg.off rfl rfl rfl (Reg.off rfl rfl rfl (Reg.off rfl rfl rfl (Reg.op rfl (Ope.pickF rfl rfl ?_))))
                   refine Reg.nil (Run.condF rfl (Run.skip (Run.region (cx_ok _ _ _) (Reg.op rfl (Ope.mov rfl ?_)))))
                   refine Reg.op rfl (Ope.asg rfl ?_)
                   refine Reg.nil (Run.bend (Run.region (cx_ok _ _ _) (Reg.op rfl (Ope.add rfl rfl (by omega) ?_))))
                   refine Reg.op rfl (Ope.mov rfl ?_)
                   refine Reg.nil ?_
                   first
                     | exact Run.lend ⟨(i+1,last,least),by simp only;omega,⟨by simp only;omega,hI.skip⟩,⟨rfl,rfl,rfl,rfl,rfl,rfl,rfl,rfl,trivial⟩,rfl,rfl⟩
                     | exact Run.lend ⟨(i+1,1,least+1),by simp only;omega,⟨by simp only;omega,hI.more (m:=1) (by rw [hgx];exact congrArg some (by omega)) (by decide) (by omega) (by omega)⟩,⟨rfl,rfl,rfl,rfl,rfl,rfl,rfl,rfl,trivial⟩,rfl,rfl⟩
                     | exact Run.lend ⟨(i+1,1,least),by simp only;omega,⟨by simp only;omega,hI.same (m:=1) (by rw [hgx];exact congrArg some (by omega)) (by decide) (by omega)⟩,⟨rfl,rfl,rfl,rfl,rfl,rfl,rfl,rfl,trivial⟩,rfl,rfl⟩
                     | exact Run.lend ⟨(i+1,0,least+1),by simp only;omega,⟨by simp only;omega,hI.more (m:=0) (by rw [hgx];exact congrArg some (by omega)) (by decide) (by omega) (by omega)⟩,⟨rfl,rfl,rfl,rfl,rfl,rfl,rfl,rfl,trivial⟩,rfl,rfl⟩
                     | exact Run.lend ⟨(i+1,0,least),by simp only;omega,⟨by simp only;omega,hI.same (m:=0) (by rw [hgx];exact congrArg some (by omega)) (by decide) (by omega)⟩,⟨rfl,rfl,rfl,rfl,rfl,rfl,rfl,rfl,trivial⟩,rfl,rfl⟩
                 ·refine Run.skip (Run.seq (Run.seq (Run.region (cx_ok _ _ _) (Reg.op rfl (Ope.mov rfl ?_)))))
                  refine Reg.op rfl (Ope.ge rfl rfl ?_)
                  refine Reg.op rfl (Ope.mov rfl ?_)
                  refine Reg.splitX rfl rfl (fun hg=>?_) fun hg=>?_
                  ·refine Reg.on rfl rfl rfl (Ope.mov rfl ?_)
                   refine Reg.on rfl rfl rfl (Ope.mov rfl ?_)
                   refine Reg.on rfl rfl rfl (Ope.ne rfl rfl ?_)
                   refine Reg.op rfl (Ope.pickT rfl rfl ?_)
                   refine Reg.nil (Run.condX rfl (fun hc=>?_) fun hc=>?_)
                   ·refine Run.region (cx_ok _ _ _) (Reg.op rfl (Ope.mov rfl ?_))
                    refine Reg.op rfl (Ope.add rfl rfl (by omega) ?_)
                    refine Reg.op rfl (Ope.asg rfl ?_)
                    refine Reg.nil (Run.region (cx_ok _ _ _) (Reg.op rfl (Ope.mov rfl ?_)))
                    refine Reg.op rfl (Ope.asg rfl ?_)
                    refine Reg.nil (Run.bend (Run.region (cx_ok _ _ _) (Reg.op rfl (Ope.add rfl rfl (by omega) ?_))))
                    refine Reg.op rfl (Ope.mov rfl ?_)
                    refine Reg.nil ?_
                    first
                      | exact Run.lend ⟨(i+1,last,least),by simp only;omega,⟨by simp only;omega,hI.skip⟩,⟨rfl,rfl,rfl,rfl,rfl,rfl,rfl,rfl,trivial⟩,rfl,rfl⟩
                      | exact Run.lend ⟨(i+1,1,least+1),by simp only;omega,⟨by simp only;omega,hI.more (m:=1) (by rw [hgx];exact congrArg some (by omega)) (by decide) (by omega) (by omega)⟩,⟨rfl,rfl,rfl,rfl,rfl,rfl,rfl,rfl,trivial⟩,rfl,rfl⟩
                      | exact Run.lend ⟨(i+1,1,least),by simp only;omega,⟨by simp only;omega,hI.same (m:=1) (by rw [hgx];exact congrArg some (by omega)) (by decide) (by omega)⟩,⟨rfl,rfl,rfl,rfl,rfl,rfl,rfl,rfl,trivial⟩,rfl,rfl⟩
                      | exact Run.lend ⟨(i+1,0,least+1),by simp only;omega,⟨by simp only;omega,hI.more (m:=0) (by rw [hgx];exact congrArg some (by omega)) (by decide) (by omega) (by omega)⟩,⟨rfl,rfl,rfl,rfl,rfl,rfl,rfl,rfl,trivial⟩,rfl,rfl⟩
                      | exact Run.lend ⟨(i+1,0,least),by simp only;omega,⟨by simp only;omega,hI.same (m:=0) (by rw [hgx];exact congrArg some (by omega)) (by decide) (by omega)⟩,⟨rfl,rfl,rfl,rfl,rfl,rfl,rfl,rfl,trivial⟩,rfl,rfl⟩
                   ·refine Run.skip (Run.region (cx_ok _ _ _) (Reg.op rfl (Ope.mov rfl ?_)))
                    refine Reg.op rfl (Ope.asg rfl ?_)
                    refine Reg.nil (Run.bend (Run.region (cx_ok _ _ _) (Reg.op rfl (Ope.add rfl rfl (by omega) ?_))))
                    refine Reg.op rfl (Ope.mov rfl ?_)
                    refine Reg.nil ?_
                    first
                      | exact Run.lend ⟨(i+1,last,least),by simp only;omega,⟨by simp only;omega,hI.skip⟩,⟨rfl,rfl,rfl,rfl,rfl,rfl,rfl,rfl,trivial⟩,rfl,rfl⟩
                      | exact Run.lend ⟨(i+1,1,least+1),by simp only;omega,⟨by simp only;omega,hI.more (m:=1) (by rw [hgx];exact congrArg some (by omega)) (by decide) (by omega) (by omega)⟩,⟨rfl,rfl,rfl,rfl,rfl,rfl,rfl,rfl,trivial⟩,rfl,rfl⟩
                      | exact Run.lend ⟨(i+1,1,least),by simp only;omega,⟨by simp only;omega,hI.same (m:=1) (by rw [hgx];exact congrArg some (by omega)) (by decide) (by omega)⟩,⟨rfl,rfl,rfl,rfl,rfl,rfl,rfl,rfl,trivial⟩,rfl,rfl⟩
                      | exact Run.lend ⟨(i+1,0,least+1),by simp only;omega,⟨by simp only;omega,hI.more (m:=0) (by rw [hgx];exact congrArg some (by omega)) (by decide) (by omega) (by omega)⟩,⟨rfl,rfl,rfl,rfl,rfl,rfl,rfl,rfl,trivial⟩,rfl,rfl⟩
                      | exact Run.lend ⟨(i+1,0,least),by simp only;omega,⟨by simp only;omega,hI.same (m:=0) (by rw [hgx];exact congrArg some (by omega)) (by decide) (by omega)⟩,⟨rfl,rfl,rfl,rfl,rfl,rfl,rfl,rfl,trivial⟩,rfl,rfl⟩
                  ·refine Reg.off rfl rfl rfl (Reg.off rfl rfl rfl (Reg.off rfl rfl rfl (Reg.op rfl (Ope.pickF rfl rfl ?_))))
                   refine Reg.nil (Run.condF rfl (Run.skip (Run.region (cx_ok _ _ _) (Reg.op rfl (Ope.mov rfl ?_)))))
                   refine Reg.op rfl (Ope.asg rfl ?_)
                   refine Reg.nil (Run.bend (Run.region (cx_ok _ _ _) (Reg.op rfl (Ope.add rfl rfl (by omega) ?_))))
                   refine Reg.op rfl (Ope.mov rfl ?_)
                   refine Reg.nil ?_
                   first
                     | exact Run.lend ⟨(i+1,last,least),by simp only;omega,⟨by simp only;omega,hI.skip⟩,⟨rfl,rfl,rfl,rfl,rfl,rfl,rfl,rfl,trivial⟩,rfl,rfl⟩
                     | exact Run.lend ⟨(i+1,1,least+1),by simp only;omega,⟨by simp only;omega,hI.more (m:=1) (by rw [hgx];exact congrArg some (by omega)) (by decide) (by omega) (by omega)⟩,⟨rfl,rfl,rfl,rfl,rfl,rfl,rfl,rfl,trivial⟩,rfl,rfl⟩
                     | exact Run.lend ⟨(i+1,1,least),by simp only;omega,⟨by simp only;omega,hI.same (m:=1) (by rw [hgx];exact congrArg some (by omega)) (by decide) (by omega)⟩,⟨rfl,rfl,rfl,rfl,rfl,rfl,rfl,rfl,trivial⟩,rfl,rfl⟩
                     | exact Run.lend ⟨(i+1,0,least+1),by simp only;omega,⟨by simp only;omega,hI.more (m:=0) (by rw [hgx];exact congrArg some (by omega)) (by decide) (by omega) (by omega)⟩,⟨rfl,rfl,rfl,rfl,rfl,rfl,rfl,rfl,trivial⟩,rfl,rfl⟩
                     | exact Run.lend ⟨(i+1,0,least),by simp only;omega,⟨by simp only;omega,hI.same (m:=0) (by rw [hgx];exact congrArg some (by omega)) (by decide) (by omega)⟩,⟨rfl,rfl,rfl,rfl,rfl,rfl,rfl,rfl,trivial⟩,rfl,rfl⟩
               ·refine Run.exit (Jmp.code (Jmp.round (Jmp.here (Run.seq (Run.seq (Run.region (cx_ok _ _ _) (Reg.op rfl (Ope.mov rfl ?_))))))))
                refine Reg.op rfl (Ope.mov rfl ?_)
                refine Reg.op rfl (Ope.gt rfl rfl ?_)
                refine Reg.nil (Run.condX rfl (fun hc=>?_) fun hc=>?_)
                ·(first | (exfalso;first | omega | (exact absurd hc (by decide)) | (have:=(hmin rfl).1;omega) | (have:=hI.bnd;omega) | (have:=lexle_at xs L i ((hmin rfl).2 (by omega)) (hi2 (by omega)) _ _ (List.getElem?_eq_getElem hlt) (List.getElem?_eq_getElem hltL) (by omega);omega) | (simp [hmany,hmany'] at hc;done)))
                ·refine Run.skip (Run.seq (Run.seq (Run.region (cx_ok _ _ _) (Reg.op rfl (Ope.load rfl rfl ?_)))))
                 refine Reg.op rfl (Ope.mov rfl ?_)
                 refine Reg.op rfl (Ope.cf rfl rfl h36L hbL ?_)
                 refine Reg.op rfl (Ope.not rfl ?_)
                 refine Reg.nil (Run.condX rfl (fun hc=>?_) fun hc=>?_)
                 ·(first | (exfalso;first | omega | (exact absurd hc (by decide)) | (have:=(hmin rfl).1;omega) | (have:=hI.bnd;omega) | (have:=lexle_at xs L i ((hmin rfl).2 (by omega)) (hi2 (by omega)) _ _ (List.getElem?_eq_getElem hlt) (List.getElem?_eq_getElem hltL) (by omega);omega) | (simp [hmany,hmany'] at hc;done)))
                 ·refine Run.skip (Run.seq (Run.region (cx_ok _ _ _) (Reg.op rfl (Ope.mov rfl ?_))))
                  refine Reg.op rfl (Ope.cf rfl rfl h38L hbL1 ?_)
                  refine Reg.op rfl (Ope.asg rfl ?_)
                  refine Reg.nil (Run.seq (Run.seq (Run.region (cx_ok _ _ _) (Reg.op rfl (Ope.mov rfl ?_)))))
                  refine Reg.op rfl (Ope.mov rfl ?_)
                  refine Reg.op rfl (Ope.lt rfl rfl ?_)
                  refine Reg.nil (Run.condX rfl (fun hc=>?_) fun hc=>?_)
                  ·(first | (exfalso;first | omega | (exact absurd hc (by decide)) | (have:=(hmin rfl).1;omega) | (have:=hI.bnd;omega) | (have:=lexle_at xs L i ((hmin rfl).2 (by omega)) (hi2 (by omega)) _ _ (List.getElem?_eq_getElem hlt) (List.getElem?_eq_getElem hltL) (by omega);omega) | (simp [hmany,hmany'] at hc;done)))
                  ·refine Run.skip (Run.seq (Run.seq (Run.region (cx_ok _ _ _) (Reg.op rfl (Ope.mov rfl ?_)))))
                   refine Reg.op rfl (Ope.len (m:=xs.length) rfl (by simp) ?_)
                   refine Reg.op rfl (Ope.mov rfl ?_)
                   refine Reg.nil (Run.block (Run.loop (α:=Nat) (fun i=>[(5,I n),(6,.sl (wt xs) (xs.map I)),(10,.sl .no (L.map I)),(17,I (cst none L)),(164,I xs.length),(165,I i)]) (fun _=>HE 0 []) (fun i=>i≤xs.length∧(cst none L=n→∀ j,j < i→xs[j]?=L[j]?)) (fun i=>xs.length - i) 0 ⟨rfl,rfl,rfl,rfl,rfl,rfl,trivial⟩ rfl ⟨Nat.zero_le _,fun _ j hj=>by omega⟩ (fun i hi=>?_)))
                   obtain ⟨hi1,hi2⟩:=hi
                   refine Run.seq (Run.region (cx_ok _ _ _) (Reg.op rfl (Ope.lt rfl rfl ?_)))
                   refine Reg.nil (Run.seq (Run.condX rfl (fun hc=>?_) fun hc=>?_))
                   ·refine Run.skip (Run.seq (Run.block (Run.seq ?_)))
                    have hlt:i < xs.length:=by omega
                    have hltL:i < L.length:=by omega
                    refine Run.region (cx_ok _ _ _) (Reg.op rfl (Ope.mov rfl ?_))
                    refine Reg.op rfl (Ope.asg rfl ?_)
                    refine Reg.nil (Run.seq (Run.draw (cx_ok _ _ _) [(0,true),(1,true),(2,true),(3,true),(4,true),(5,true),(6,true),(7,true),(8,true),(9,true),(10,true),(11,true),(12,true),(13,true)] (by kernel_rfl) (Dra.op' rfl rfl rfl .sure (Ope.mov rfl ?_))))
                    refine Dra.op' rfl rfl rfl .sure (Ope.mov rfl ?_)
                    refine Dra.op' rfl rfl rfl .sure (Ope.eq rfl rfl ?_)
                    refine Dra.op' rfl rfl rfl .sure (Ope.mov rfl ?_)
                    refine Dra.splitX rfl rfl rfl rfl (fun hg=>?_) fun hg=>?_
                    ·refine Dra.on' rfl rfl rfl rfl rfl .sure (Ope.mov rfl ?_)
                     refine Dra.on' rfl rfl rfl rfl rfl .sure (Ope.mov rfl ?_)
                     refine Dra.on' rfl rfl rfl rfl rfl .sure (Ope.idxM (m:=i) rfl rfl rfl hlt (fun _=>rfl) ?_)
                     refine Dra.on' rfl rfl rfl rfl rfl .sure (Ope.load rfl rfl ?_)
                     refine Dra.on' rfl rfl rfl rfl rfl .sure (Ope.mov rfl ?_)
                     refine Dra.on' rfl rfl rfl rfl rfl .sure (Ope.mov rfl ?_)
                     refine Dra.on' rfl rfl rfl rfl rfl .sure (Ope.idxM (m:=i) rfl rfl rfl hltL (fun _=>rfl) ?_)
                     refine Dra.on' rfl rfl rfl rfl rfl .sure (Ope.load rfl rfl ?_)
                     refine Dra.on' rfl rfl rfl rfl rfl .sure (Ope.ne rfl rfl ?_)
                     refine Dra.op' rfl rfl rfl .sure (Ope.pickT rfl rfl ?_)
                     refine Dra.nil (Run.condX rfl (fun hc=>?_) fun hc=>?_)
                     ·refine Run.seq (Run.draw (cx_ok _ _ _) [(0,true),(1,true),(2,true),(3,true),(4,true),(5,true),(6,true),(7,true),(8,true),(9,true),(10,true),(11,true),(12,true)] (by kernel_rfl) (Dra.op' rfl rfl rfl .sure (Ope.mov rfl ?_)))
                      refine Dra.op' rfl rfl rfl .sure (Ope.mov rfl ?_)
                      refine Dra.op' rfl rfl rfl .sure (Ope.idxM (m:=i) rfl rfl rfl hlt (fun _=>rfl) ?_)
                      refine Dra.op' rfl rfl rfl .sure (Ope.load rfl rfl ?_)
                      refine Dra.op' rfl rfl rfl .sure (Ope.mov rfl ?_)
                      refine Dra.op' rfl rfl rfl .sure (Ope.mov rfl ?_)
                      refine Dra.op' rfl rfl rfl .sure (Ope.idxM (m:=i) rfl rfl rfl hltL (fun _=>rfl) ?_)
                      refine Dra.op' rfl rfl rfl .sure (Ope.load rfl rfl ?_)
                      refine Dra.op' rfl rfl rfl .sure (Ope.lt rfl rfl ?_)
                      refine Dra.op' rfl rfl rfl .sure (Ope.mov rfl ?_)
                      refine Dra.splitX rfl rfl rfl rfl (fun hg=>?_) fun hg=>?_
                      ·refine Dra.on' rfl rfl rfl rfl rfl .sure (Ope.clo rfl rfl awakeC ?_)
                       refine Dra.op' rfl rfl rfl .sure (Ope.pickT rfl rfl ?_)
                       refine Dra.op' rfl rfl rfl .sure (Ope.asg rfl ?_)
                       refine Dra.nil (Run.ret (Jmp.retB (Jmp.code (Jmp.round (Jmp.retB (Jmp.code (fin_ret (.tmp rfl .nil) rfl ?_)))))))
                       rfl
                      ·(first | (exfalso;first | omega | (exact absurd hg (by decide)) | (have:=(hmin rfl).1;omega) | (have:=hI.bnd;omega) | (have:=lexle_at xs L i ((hmin rfl).2 (by omega)) (hi2 (by omega)) _ _ (List.getElem?_eq_getElem hlt) (List.getElem?_eq_getElem hltL) (by omega);omega) | (simp [hmany,hmany'] at hg;done)))
                     ·refine Run.skip (Run.bend (Run.region (cx_ok _ _ _) (Reg.op rfl (Ope.add rfl rfl (by omega) ?_))))
                      refine Reg.op rfl (Ope.mov rfl ?_)
                      refine Reg.nil ?_
                      first
                        | exact Run.lend ⟨i+1,by omega,⟨by omega,fun e=>absurd e (by omega)⟩,⟨rfl,rfl,rfl,rfl,rfl,rfl,trivial⟩,rfl,rfl⟩
                        | exact Run.lend ⟨i+1,by omega,⟨by omega,fun e j hj=>by
                            by_cases hji:j < i
                            · exact hi2 e j hji
                            · have : j = i := by omega
                              subst this
                              rw [List.getElem?_eq_getElem hlt,List.getElem?_eq_getElem hltL]
                              exact congrArg some (by omega)⟩,⟨rfl,rfl,rfl,rfl,rfl,rfl,trivial⟩,rfl,rfl⟩
                    ·refine Dra.off' rfl rfl rfl (.inl rfl) rfl (Dra.off' rfl rfl rfl (.inl rfl) rfl (Dra.off' rfl rfl rfl (.inl rfl) rfl (Dra.off' rfl rfl rfl (.inl rfl) rfl (Dra.off' rfl rfl rfl (.inl rfl) rfl (Dra.off' rfl rfl rfl (.inl rfl) rfl (Dra.off' rfl rfl rfl (.inl rfl) rfl (Dra.off' rfl rfl rfl (.inl rfl) rfl (Dra.off' rfl rfl rfl (.inl rfl) rfl (Dra.op' rfl rfl rfl .sure (Ope.pickF rfl rfl ?_))))))))))
                     refine Dra.nil (Run.condF rfl (Run.skip (Run.bend (Run.region (cx_ok _ _ _) (Reg.op rfl (Ope.add rfl rfl (by omega) ?_))))))
                     refine Reg.op rfl (Ope.mov rfl ?_)
                     refine Reg.nil ?_
                     first
                       | exact Run.lend ⟨i+1,by omega,⟨by omega,fun e=>absurd e (by omega)⟩,⟨rfl,rfl,rfl,rfl,rfl,rfl,trivial⟩,rfl,rfl⟩
                       | exact Run.lend ⟨i+1,by omega,⟨by omega,fun e j hj=>by
                           by_cases hji:j < i
                           · exact hi2 e j hji
                           · have : j = i := by omega
                             subst this
                             rw [List.getElem?_eq_getElem hlt,List.getElem?_eq_getElem hltL]
                             exact congrArg some (by omega)⟩,⟨rfl,rfl,rfl,rfl,rfl,rfl,trivial⟩,rfl,rfl⟩
                   ·refine Run.exit (Jmp.code (Jmp.round (Jmp.here (Run.seq (Run.region (cx_ok _ _ _) (Reg.op rfl (Ope.clo rfl rfl awakeC ?_)))))))
                    refine Reg.op rfl (Ope.asg rfl ?_)
                    refine Reg.nil (Run.ret (fin_ret (.tmp rfl .nil) rfl ?_))
                    rfl
        ·first
         |(first | (exfalso;first | omega | (exact absurd hg (by decide)) | (have:=(hmin rfl).1;omega) | (have:=hI.bnd;omega) | (have:=lexle_at xs L i ((hmin rfl).2 (by omega)) (hi2 (by omega)) _ _ (List.getElem?_eq_getElem hlt) (List.getElem?_eq_getElem hltL) (by omega);omega) | (simp [hmany,hmany'] at hg;done)))
         |refine Reg.off rfl rfl rfl (Reg.off rfl rfl rfl (Reg.on rfl rfl rfl (Ope.pickF rfl rfl ?_)))
          refine Reg.op rfl (Ope.pickF rfl rfl ?_)
          refine Reg.nil (Run.condF rfl (Run.skip (Run.seq (Run.seq (Run.region (cx_ok _ _ _) (Reg.op rfl (Ope.mov rfl ?_)))))))
          refine Reg.op rfl (Ope.ne rfl rfl ?_)
          refine Reg.nil (Run.condX rfl (fun hc=>?_) fun hc=>?_)
          ·(first | (exfalso;first | omega | (exact absurd hc (by decide)) | (have:=(hmin rfl).1;omega) | (have:=hI.bnd;omega) | (have:=lexle_at xs L i ((hmin rfl).2 (by omega)) (hi2 (by omega)) _ _ (List.getElem?_eq_getElem hlt) (List.getElem?_eq_getElem hltL) (by omega);omega) | (simp [hmany,hmany'] at hc;done)))
          ·refine Run.skip (Run.seq (Run.seq (Run.region (cx_ok _ _ _) (Reg.op rfl (Ope.load rfl rfl ?_)))))
           refine Reg.op rfl (Ope.mov rfl ?_)
           refine Reg.op rfl (Ope.cf rfl rfl (f37 R (wt xs) xs g2 g1 hm16) hbx ?_)
           refine Reg.op rfl (Ope.not rfl ?_)
           refine Reg.op rfl (Ope.mov rfl ?_)
           refine Reg.splitX rfl rfl (fun hg=>?_) fun hg=>?_
           ·(first | (exfalso;first | omega | (exact absurd hg (by decide)) | (have:=(hmin rfl).1;omega) | (have:=hI.bnd;omega) | (have:=lexle_at xs L i ((hmin rfl).2 (by omega)) (hi2 (by omega)) _ _ (List.getElem?_eq_getElem hlt) (List.getElem?_eq_getElem hltL) (by omega);omega) | (simp [hmany,hmany'] at hg;done)))
           ·refine Reg.on rfl rfl rfl (Ope.load rfl rfl ?_)
            refine Reg.on rfl rfl rfl (Ope.mov rfl ?_)
            refine Reg.on rfl rfl rfl (Ope.cf rfl rfl h36x hbx ?_)
            refine Reg.on rfl rfl rfl (Ope.not rfl ?_)
            refine Reg.op rfl (Ope.pickF rfl rfl ?_)
            refine Reg.op rfl (Ope.mov rfl ?_)
            refine Reg.splitX rfl rfl (fun hg=>?_) fun hg=>?_
            ·(first | (exfalso;first | omega | (exact absurd hg (by decide)) | (have:=(hmin rfl).1;omega) | (have:=hI.bnd;omega) | (have:=lexle_at xs L i ((hmin rfl).2 (by omega)) (hi2 (by omega)) _ _ (List.getElem?_eq_getElem hlt) (List.getElem?_eq_getElem hltL) (by omega);omega) | (simp [hmany,hmany'] at hg;done)))
            ·refine Reg.on rfl rfl rfl (Ope.mov rfl ?_)
             refine Reg.on rfl rfl rfl (Ope.cf rfl rfl h38x hbx1 ?_)
             refine Reg.on rfl rfl rfl (Ope.mov rfl ?_)
             refine Reg.on rfl rfl rfl (Ope.ne rfl rfl ?_)
             refine Reg.op rfl (Ope.pickF rfl rfl ?_)
             refine Reg.nil (Run.condX rfl (fun hc=>?_) fun hc=>?_)
             ·(first | (exfalso;first | omega | (exact absurd hc (by decide)) | (have:=(hmin rfl).1;omega) | (have:=hI.bnd;omega) | (have:=lexle_at xs L i ((hmin rfl).2 (by omega)) (hi2 (by omega)) _ _ (List.getElem?_eq_getElem hlt) (List.getElem?_eq_getElem hltL) (by omega);omega) | (simp [hmany,hmany'] at hc;done)))
             ·refine Run.skip (Run.seq (Run.region (cx_ok _ _ _) (Reg.op rfl (Ope.asg rfl ?_))))
              refine Reg.op rfl (Ope.asg rfl ?_)
              refine Reg.nil (Run.seq (Run.seq (Run.region (cx_ok _ _ _) (Reg.op rfl (Ope.fld rfl rfl ?_)))))
              refine Reg.op rfl (Ope.load rfl rfl ?_)
              refine Reg.op rfl (Ope.mov rfl ?_)
              refine Reg.nil (Run.block (Run.loop (α:=Nat×Int×Int) (fun s=>[(2,.fp (.agg R.cells)),(5,I n),(6,.sl (wt xs) (xs.map I)),(10,.sl .no (L.map I)),(11,I s.2.1),(12,I s.2.2),(115,I R.m),(116,I s.1)]) (fun _=>HE 0 []) (fun s=>s.1≤R.m∧LInv xs s.1 s.2.1 s.2.2) (fun s=>R.m - s.1) (0,-1,0) ⟨rfl,rfl,rfl,rfl,rfl,rfl,rfl,rfl,trivial⟩ rfl ⟨Nat.zero_le _,Int.le_refl _,Int.le_refl _,.inl ⟨rfl,rfl⟩⟩ (fun s hs=>?_)))
              obtain ⟨i,last,least⟩:=s
              obtain ⟨hi,hI⟩:=hs
              simp only at hi hI
              have hI0:=hI.1
              have hI1:=hI.2.1
              show Run _ _ _ _ [(2,.fp (.agg R.cells)),(5,I n),(6,.sl (wt xs) (xs.map I)),(10,.sl .no (L.map I)),(11,I last),(12,I least),(115,I R.m),(116,I i)] [] (HE 0 [])
              refine Run.seq (Run.region (cx_ok _ _ _) (Reg.op rfl (Ope.lt rfl rfl ?_)))
              refine Reg.nil (Run.seq (Run.condX rfl (fun hc=>?_) fun hc=>?_))
              ·refine Run.skip (Run.seq (Run.block (Run.seq ?_)))
               have hlt:i < xs.length:=by omega
               have hgx:xs[i]?=some xs[i]:=List.getElem?_eq_getElem hlt
               have hx01:=g2 _ (List.getElem_mem hlt)
               obtain ⟨hr0,hr1⟩:=rt_out g2 g3 hgx
               have hr0':=Decidable.imp_iff_not_or.1 hr0
               have hr1':=Decidable.imp_iff_not_or.1 hr1
               have hs0:R.o0 >>> i < 2 ^ 62:=Nat.lt_of_le_of_lt (Nat.shiftRight_le _ _) ho0
               have hs1:R.o1 >>> i < 2 ^ 62:=Nat.lt_of_le_of_lt (Nat.shiftRight_le _ _) ho1
               refine Run.region (cx_ok _ _ _) (Reg.op rfl (Ope.mov rfl ?_))
               refine Reg.op rfl (Ope.asg rfl ?_)
               refine Reg.nil (Run.seq (Run.draw (cx_ok _ _ _) [(0,true),(1,true),(2,true),(3,true),(4,true),(5,true),(6,true),(7,true),(8,true),(9,true),(10,true),(11,true),(12,true),(13,true),(14,true),(15,true),(16,true),(17,true)] (by kernel_rfl) (Dra.op' rfl rfl rfl .sure (Ope.fld rfl rfl ?_))))
               refine Dra.op' rfl rfl rfl .sure (Ope.idxA rfl rfl rfl rfl ?_)
               refine Dra.op' rfl rfl rfl .sure (Ope.fld rfl rfl ?_)
               refine Dra.op' rfl rfl rfl .sure (Ope.load rfl rfl ?_)
               refine Dra.op' rfl rfl rfl .sure (Ope.mov rfl ?_)
               refine Dra.op' rfl rfl rfl .sure (Ope.shrN (m:=i) rfl rfl rfl rfl (by show i≤64;omega) ?_)
               refine Dra.op' rfl rfl rfl .sure (Ope.andN (q:=1) rfl rfl rfl rfl (by show _ < 2 ^ 64;omega) (by decide) ?_)
               refine Dra.op' rfl rfl rfl .sure (Ope.eq rfl rfl ?_)
               refine Dra.op' rfl rfl rfl .sure (Ope.fld rfl rfl ?_)
               refine Dra.op' rfl rfl rfl .sure (Ope.idxA rfl rfl rfl rfl ?_)
               refine Dra.op' rfl rfl rfl .sure (Ope.fld rfl rfl ?_)
               refine Dra.op' rfl rfl rfl .sure (Ope.load rfl rfl ?_)
               refine Dra.op' rfl rfl rfl .sure (Ope.mov rfl ?_)
               refine Dra.op' rfl rfl rfl .sure (Ope.shrN (m:=i) rfl rfl rfl rfl (by show i≤64;omega) ?_)
               refine Dra.op' rfl rfl rfl .sure (Ope.andN (q:=1) rfl rfl rfl rfl (by show _ < 2 ^ 64;omega) (by decide) ?_)
               refine Dra.op' rfl rfl rfl .sure (Ope.eq rfl rfl ?_)
               refine Dra.op' rfl rfl rfl .sure (Ope.asg rfl ?_)
               refine Dra.op' rfl rfl rfl .sure (Ope.asg rfl ?_)
               refine Dra.nil (Run.seq (Run.seq (Run.region (cx_ok _ _ _) (Reg.op rfl (Ope.mov rfl ?_)))))
               refine Reg.op rfl (Ope.mov rfl ?_)
               refine Reg.op rfl (Ope.eqB (by kernel_rfl) rfl rfl ?_)
               refine Reg.nil (Run.condX rfl (fun hc=>?_) fun hc=>?_)
               ·refine Run.exit (Jmp.code (Jmp.here (Run.region (cx_ok _ _ _) (Reg.op rfl (Ope.add rfl rfl (by omega) ?_)))))
                refine Reg.op rfl (Ope.mov rfl ?_)
                refine Reg.nil ?_
                first
                  | exact Run.lend ⟨(i+1,last,least),by simp only;omega,⟨by simp only;omega,hI.skip⟩,⟨rfl,rfl,rfl,rfl,rfl,rfl,rfl,rfl,trivial⟩,rfl,rfl⟩
                  | exact Run.lend ⟨(i+1,1,least+1),by simp only;omega,⟨by simp only;omega,hI.more (m:=1) (by rw [hgx];exact congrArg some (by omega)) (by decide) (by omega) (by omega)⟩,⟨rfl,rfl,rfl,rfl,rfl,rfl,rfl,rfl,trivial⟩,rfl,rfl⟩
                  | exact Run.lend ⟨(i+1,1,least),by simp only;omega,⟨by simp only;omega,hI.same (m:=1) (by rw [hgx];exact congrArg some (by omega)) (by decide) (by omega)⟩,⟨rfl,rfl,rfl,rfl,rfl,rfl,rfl,rfl,trivial⟩,rfl,rfl⟩
                  | exact Run.lend ⟨(i+1,0,least+1),by simp only;omega,⟨by simp only;omega,hI.more (m:=0) (by rw [hgx];exact congrArg some (by omega)) (by decide) (by omega) (by omega)⟩,⟨rfl,rfl,rfl,rfl,rfl,rfl,rfl,rfl,trivial⟩,rfl,rfl⟩
                  | exact Run.lend ⟨(i+1,0,least),by simp only;omega,⟨by simp only;omega,hI.same (m:=0) (by rw [hgx];exact congrArg some (by omega)) (by decide) (by omega)⟩,⟨rfl,rfl,rfl,rfl,rfl,rfl,rfl,rfl,trivial⟩,rfl,rfl⟩
               ·refine Run.skip (Run.seq ?_)
                have hdiff:¬ (((R.o0 >>> i &&& 1:Nat):Int)=1↔((R.o1 >>> i &&& 1:Nat):Int)=1):=by
                  simpa only [beq_eq_false_iff_ne,ne_eq,decide_eq_decide] using hc
                refine Run.region (cx_ok _ _ _) (Reg.op rfl (Ope.asg rfl ?_))
                refine Reg.nil (Run.seq (Run.seq (Run.region (cx_ok _ _ _) (Reg.op rfl (Ope.mov rfl ?_)))))
                refine Reg.nil (Run.condX rfl (fun hc=>?_) fun hc=>?_)
                ·refine Run.region (cx_ok _ _ _) (Reg.op rfl (Ope.asg rfl ?_))
                 refine Reg.nil (Run.seq (Run.seq (Run.region (cx_ok _ _ _) (Reg.op rfl (Ope.mov rfl ?_)))))
                 refine Reg.op rfl (Ope.ge rfl rfl ?_)
                 refine Reg.op rfl (Ope.mov rfl ?_)
                 refine Reg.splitX rfl rfl (fun hg=>?_) fun hg=>?_
                 ·refine Reg.on rfl rfl rfl (Ope.mov rfl ?_)
                  refine Reg.on rfl rfl rfl (Ope.mov rfl ?_)
                  refine Reg.on rfl rfl rfl (Ope.ne rfl rfl ?_)
                  refine Reg.op rfl (Ope.pickT rfl rfl ?_)
                  refine Reg.nil (Run.condX rfl (fun hc=>?_) fun hc=>?_)
                  ·refine Run.region (cx_ok _ _ _) (Reg.op rfl (Ope.mov rfl ?_))
                   refine Reg.op rfl (Ope.add rfl rfl (by omega) ?_)
                   refine Reg.op rfl (Ope.asg rfl ?_)
                   refine Reg.nil (Run.region (cx_ok _ _ _) (Reg.op rfl (Ope.mov rfl ?_)))
                   refine Reg.op rfl (Ope.asg rfl ?_)
                   refine Reg.nil (Run.bend (Run.region (cx_ok _ _ _) (Reg.op rfl (Ope.add rfl rfl (by omega) ?_))))
                   refine Reg.op rfl (Ope.mov rfl ?_)
                   refine Reg.nil ?_
                   first
                     | exact Run.lend ⟨(i+1,last,least),by simp only;omega,⟨by simp only;omega,hI.skip⟩,⟨rfl,rfl,rfl,rfl,rfl,rfl,rfl,rfl,trivial⟩,rfl,rfl⟩
                     | exact Run.lend ⟨(i+1,1,least+1),by simp only;omega,⟨by simp only;omega,hI.more (m:=1) (by rw [hgx];exact congrArg some (by omega)) (by decide) (by omega) (by omega)⟩,⟨rfl,rfl,rfl,rfl,rfl,rfl,rfl,rfl,trivial⟩,rfl,rfl⟩
                     | exact Run.lend ⟨(i+1,1,least),by simp only;omega,⟨by simp only;omega,hI.same (m:=1) (by rw [hgx];exact congrArg some (by omega)) (by decide) (by omega)⟩,⟨rfl,rfl,rfl,rfl,rfl,rfl,rfl,rfl,trivial⟩,rfl,rfl⟩
                     | exact Run.lend ⟨(i+1,0,least+1),by simp only;omega,⟨by simp only;omega,hI.more (m:=0) (by rw [hgx];exact congrArg some (by omega)) (by decide) (by omega) (by omega)⟩,⟨rfl,rfl,rfl,rfl,rfl,rfl,rfl,rfl,trivial⟩,rfl,rfl⟩
                     | exact Run.lend ⟨(i+1,0,least),by simp only;omega,⟨by simp only;omega,hI.same (m:=0) (by rw [hgx];exact congrArg some (by omega)) (by decide) (by omega)⟩,⟨rfl,rfl,rfl,rfl,rfl,rfl,rfl,rfl,trivial⟩,rfl,rfl⟩
                  ·refine Run.skip (Run.region (cx_ok _ _ _) (Reg.op rfl (Ope.mov rfl ?_)))
                   refine Reg.op rfl (Ope.asg rfl ?_)
                   refine Reg.nil (Run.bend (Run.region (cx_ok _ _ _) (Reg.op rfl (Ope.add rfl rfl (by omega) ?_))))
                   refine Reg.op rfl (Ope.mov rfl ?_)
                   refine Reg.nil ?_
                   first
                     | exact Run.lend ⟨(i+1,last,least),by simp only;omega,⟨by simp only;omega,hI.skip⟩,⟨rfl,rfl,rfl,rfl,rfl,rfl,rfl,rfl,trivial⟩,rfl,rfl⟩
                     | exact Run.lend ⟨(i+1,1,least+1),by simp only;omega,⟨by simp only;omega,hI.more (m:=1) (by rw [hgx];exact congrArg some (by omega)) (by decide) (by omega) (by omega)⟩,⟨rfl,rfl,rfl,rfl,rfl,rfl,rfl,rfl,trivial⟩,rfl,rfl⟩
                     | exact Run.lend ⟨(i+1,1,least),by simp only;omega,⟨by simp only;omega,hI.same (m:=1) (by rw [hgx];exact congrArg some (by omega)) (by decide) (by omega)⟩,⟨rfl,rfl,rfl,rfl,rfl,rfl,rfl,rfl,trivial⟩,rfl,rfl⟩
                     | exact Run.lend ⟨(i+1,0,least+1),by simp only;omega,⟨by simp only;omega,hI.more (m:=0) (by rw [hgx];exact congrArg some (by omega)) (by decide) (by omega) (by omega)⟩,⟨rfl,rfl,rfl,rfl,rfl,rfl,rfl,rfl,trivial⟩,rfl,rfl⟩
                     | exact Run.lend ⟨(i+1,0,least),by simp only;omega,⟨by simp only;omega,hI.same (m:=0) (by rw [hgx];exact congrArg some (by omega)) (by decide) (by omega)⟩,⟨rfl,rfl,rfl,rfl,rfl,rfl,rfl,rfl,trivial⟩,rfl,rfl⟩
                 ·refine Reg.off rfl rfl rfl (Reg.off rfl rfl rfl (Reg.off rfl rfl rfl (Reg.op rfl (Ope.pickF rfl rfl ?_))))
                  refine Reg.nil (Run.condF rfl (Run.skip (Run.region (cx_ok _ _ _) (Reg.op rfl (Ope.mov rfl ?_)))))
                  refine Reg.op rfl (Ope.asg rfl ?_)
                  refine Reg.nil (Run.bend (Run.region (cx_ok _ _ _) (Reg.op rfl (Ope.add rfl rfl (by omega) ?_))))
                  refine Reg.op rfl (Ope.mov rfl ?_)
                  refine Reg.nil ?_
                  first
                    | exact Run.lend ⟨(i+1,last,least),by simp only;omega,⟨by simp only;omega,hI.skip⟩,⟨rfl,rfl,rfl,rfl,rfl,rfl,rfl,rfl,trivial⟩,rfl,rfl⟩
                    | exact Run.lend ⟨(i+1,1,least+1),by simp only;omega,⟨by simp only;omega,hI.more (m:=1) (by rw [hgx];exact congrArg some (by omega)) (by decide) (by omega) (by omega)⟩,⟨rfl,rfl,rfl,rfl,rfl,rfl,rfl,rfl,trivial⟩,rfl,rfl⟩
                    | exact Run.lend ⟨(i+1,1,least),by simp only;omega,⟨by simp only;omega,hI.same (m:=1) (by rw [hgx];exact congrArg some (by omega)) (by decide) (by omega)⟩,⟨rfl,rfl,rfl,rfl,rfl,rfl,rfl,rfl,trivial⟩,rfl,rfl⟩
                    | exact Run.lend ⟨(i+1,0,least+1),by simp only;omega,⟨by simp only;omega,hI.more (m:=0) (by rw [hgx];exact congrArg some (by omega)) (by decide) (by omega) (by omega)⟩,⟨rfl,rfl,rfl,rfl,rfl,rfl,rfl,rfl,trivial⟩,rfl,rfl⟩
                    | exact Run.lend ⟨(i+1,0,least),by simp only;omega,⟨by simp only;omega,hI.same (m:=0) (by rw [hgx];exact congrArg some (by omega)) (by decide) (by omega)⟩,⟨rfl,rfl,rfl,rfl,rfl,rfl,rfl,rfl,trivial⟩,rfl,rfl⟩
                ·refine Run.skip (Run.seq (Run.seq (Run.region (cx_ok _ _ _) (Reg.op rfl (Ope.mov rfl ?_)))))
                 refine Reg.op rfl (Ope.ge rfl rfl ?_)
                 refine Reg.op rfl (Ope.mov rfl ?_)
                 refine Reg.splitX rfl rfl (fun hg=>?_) fun hg=>?_
                 ·refine Reg.on rfl rfl rfl (Ope.mov rfl ?_)
                  refine Reg.on rfl rfl rfl (Ope.mov rfl ?_)
                  refine Reg.on rfl rfl rfl (Ope.ne rfl rfl ?_)
                  refine Reg.op rfl (Ope.pickT rfl rfl ?_)
                  refine Reg.nil (Run.condX rfl (fun hc=>?_) fun hc=>?_)
                  ·refine Run.region (cx_ok _ _ _) (Reg.op rfl (Ope.mov rfl ?_))
                   refine Reg.op rfl (Ope.add rfl rfl (by omega) ?_)
                   refine Reg.op rfl (Ope.asg rfl ?_)
                   refine Reg.nil (Run.region (cx_ok _ _ _) (Reg.op rfl (Ope.mov rfl ?_)))
                   refine Reg.op rfl (Ope.asg rfl ?_)
                   refine Reg.nil (Run.bend (Run.region (cx_ok _ _ _) (Reg.op rfl (Ope.add rfl rfl (by omega) ?_))))
                   refine Reg.op rfl (Ope.mov rfl ?_)
                   refine Reg.nil ?_
                   first
                     | exact Run.lend ⟨(i+1,last,least),by simp only;omega,⟨by simp only;omega,hI.skip⟩,⟨rfl,rfl,rfl,rfl,rfl,rfl,rfl,rfl,trivial⟩,rfl,rfl⟩
                     | exact Run.lend ⟨(i+1,1,least+1),by simp only;omega,⟨by simp only;omega,hI.more (m:=1) (by rw [hgx];exact congrArg some (by omega)) (by decide) (by omega) (by omega)⟩,⟨rfl,rfl,rfl,rfl,rfl,rfl,rfl,rfl,trivial⟩,rfl,rfl⟩
                     | exact Run.lend ⟨(i+1,1,least),by simp only;omega,⟨by simp only;omega,hI.same (m:=1) (by rw [hgx];exact congrArg some (by omega)) (by decide) (by omega)⟩,⟨rfl,rfl,rfl,rfl,rfl,rfl,rfl,rfl,trivial⟩,rfl,rfl⟩
                     | exact Run.lend ⟨(i+1,0,least+1),by simp only;omega,⟨by simp only;omega,hI.more (m:=0) (by rw [hgx];exact congrArg some (by omega)) (by decide) (by omega) (by omega)⟩,⟨rfl,rfl,rfl,rfl,rfl,rfl,rfl,rfl,trivial⟩,rfl,rfl⟩
                     | exact Run.lend ⟨(i+1,0,least),by simp only;omega,⟨by simp only;omega,hI.same (m:=0) (by rw [hgx];exact congrArg some (by omega)) (by decide) (by omega)⟩,⟨rfl,rfl,rfl,rfl,rfl,rfl,rfl,rfl,trivial⟩,rfl,rfl⟩
                  ·refine Run.skip (Run.region (cx_ok _ _ _) (Reg.op rfl (Ope.mov rfl ?_)))
                   refine Reg.op rfl (Ope.asg rfl ?_)
                   refine Reg.nil (Run.bend (Run.region (cx_ok _ _ _) (Reg.op rfl (Ope.add rfl rfl (by omega) ?_))))
                   refine Reg.op rfl (Ope.mov rfl ?_)
                   refine Reg.nil ?_
                   first
                     | exact Run.lend ⟨(i+1,last,least),by simp only;omega,⟨by simp only;omega,hI.skip⟩,⟨rfl,rfl,rfl,rfl,rfl,rfl,rfl,rfl,trivial⟩,rfl,rfl⟩
                     | exact Run.lend ⟨(i+1,1,least+1),by simp only;omega,⟨by simp only;omega,hI.more (m:=1) (by rw [hgx];exact congrArg some (by omega)) (by decide) (by omega) (by omega)⟩,⟨rfl,rfl,rfl,rfl,rfl,rfl,rfl,rfl,trivial⟩,rfl,rfl⟩
                     | exact Run.lend ⟨(i+1,1,least),by simp only;omega,⟨by simp only;omega,hI.same (m:=1) (by rw [hgx];exact congrArg some (by omega)) (by decide) (by omega)⟩,⟨rfl,rfl,rfl,rfl,rfl,rfl,rfl,rfl,trivial⟩,rfl,rfl⟩
                     | exact Run.lend ⟨(i+1,0,least+1),by simp only;omega,⟨by simp only;omega,hI.more (m:=0) (by rw [hgx];exact congrArg some (by omega)) (by decide) (by omega) (by omega)⟩,⟨rfl,rfl,rfl,rfl,rfl,rfl,rfl,rfl,trivial⟩,rfl,rfl⟩
                     | exact Run.lend ⟨(i+1,0,least),by simp only;omega,⟨by simp only;omega,hI.same (m:=0) (by rw [hgx];exact congrArg some (by omega)) (by decide) (by omega)⟩,⟨rfl,rfl,rfl,rfl,rfl,rfl,rfl,rfl,trivial⟩,rfl,rfl⟩
                 ·refine Reg.off rfl rfl rfl (Reg.off rfl rfl rfl (Reg.off rfl rfl rfl (Reg.op rfl (Ope.pickF rfl rfl ?_))))
                  refine Reg.nil (Run.condF rfl (Run.skip (Run.region (cx_ok _ _ _) (Reg.op rfl (Ope.mov rfl ?_)))))
                  refine Reg.op rfl (Ope.asg rfl ?_)
                  refine Reg.nil (Run.bend (Run.region (cx_ok _ _ _) (Reg.op rfl (Ope.add rfl rfl (by omega) ?_))))
                  refine Reg.op rfl (Ope.mov rfl ?_)
                  refine Reg.nil ?_
                  first
                    | exact Run.lend ⟨(i+1,last,least),by simp only;omega,⟨by simp only;omega,hI.skip⟩,⟨rfl,rfl,rfl,rfl,rfl,rfl,rfl,rfl,trivial⟩,rfl,rfl⟩
                    | exact Run.lend ⟨(i+1,1,least+1),by simp only;omega,⟨by simp only;omega,hI.more (m:=1) (by rw [hgx];exact congrArg some (by omega)) (by decide) (by omega) (by omega)⟩,⟨rfl,rfl,rfl,rfl,rfl,rfl,rfl,rfl,trivial⟩,rfl,rfl⟩
                    | exact Run.lend ⟨(i+1,1,least),by simp only;omega,⟨by simp only;omega,hI.same (m:=1) (by rw [hgx];exact congrArg some (by omega)) (by decide) (by omega)⟩,⟨rfl,rfl,rfl,rfl,rfl,rfl,rfl,rfl,trivial⟩,rfl,rfl⟩
                    | exact Run.lend ⟨(i+1,0,least+1),by simp only;omega,⟨by simp only;omega,hI.more (m:=0) (by rw [hgx];exact congrArg some (by omega)) (by decide) (by omega) (by omega)⟩,⟨rfl,rfl,rfl,rfl,rfl,rfl,rfl,rfl,trivial⟩,rfl,rfl⟩
                    | exact Run.lend ⟨(i+1,0,least),by simp only;omega,⟨by simp only;omega,hI.same (m:=0) (by rw [hgx];exact congrArg some (by omega)) (by decide) (by omega)⟩,⟨rfl,rfl,rfl,rfl,rfl,rfl,rfl,rfl,trivial⟩,rfl,rfl⟩
              ·refine Run.exit (Jmp.code (Jmp.round (Jmp.here (Run.seq (Run.seq (Run.region (cx_ok _ _ _) (Reg.op rfl (Ope.mov rfl ?_))))))))
               refine Reg.op rfl (Ope.mov rfl ?_)
               refine Reg.op rfl (Ope.gt rfl rfl ?_)
               refine Reg.nil (Run.condX rfl (fun hc=>?_) fun hc=>?_)
               ·(first | (exfalso;first | omega | (exact absurd hc (by decide)) | (have:=(hmin rfl).1;omega) | (have:=hI.bnd;omega) | (have:=lexle_at xs L i ((hmin rfl).2 (by omega)) (hi2 (by omega)) _ _ (List.getElem?_eq_getElem hlt) (List.getElem?_eq_getElem hltL) (by omega);omega) | (simp [hmany,hmany'] at hc;done)))
               ·refine Run.skip (Run.seq (Run.seq (Run.region (cx_ok _ _ _) (Reg.op rfl (Ope.load rfl rfl ?_)))))
                refine Reg.op rfl (Ope.mov rfl ?_)
                refine Reg.op rfl (Ope.cf rfl rfl h36L hbL ?_)
                refine Reg.op rfl (Ope.not rfl ?_)
                refine Reg.nil (Run.condX rfl (fun hc=>?_) fun hc=>?_)
                ·refine Run.seq (Run.region (cx_ok _ _ _) (Reg.op rfl (Ope.clo rfl rfl awakeC ?_)))
                 refine Reg.op rfl (Ope.asg rfl ?_)
                 refine Reg.nil (Run.ret (Jmp.code (fin_ret (.tmp rfl .nil) rfl ?_)))
                 rfl
                ·(first | (exfalso;first | omega | (exact absurd hc (by decide)) | (have:=(hmin rfl).1;omega) | (have:=hI.bnd;omega) | (have:=lexle_at xs L i ((hmin rfl).2 (by omega)) (hi2 (by omega)) _ _ (List.getElem?_eq_getElem hlt) (List.getElem?_eq_getElem hltL) (by omega);omega) | (simp [hmany,hmany'] at hc;done)))
theorem f7 (h a0 b0 c0 d0 a1 b1 c1 d1:Int) (p:Nat) (hp:p < 65536):Fn P0 7 [.agg [I h,I a0,I b0,I c0,I d0,I a1,I b1,I c1,I d1],.lit (.int .u16 (p:Int))] (B true):=by
  by_cases hv:validR h a0 b0 c0 d0 a1 b1 c1 d1=true
  · obtain ⟨hok, ⟨e1, e2, e3⟩, h16⟩ := rstOf_ok hv
    have hcells:(rstOf h a0 b0 c0 d0 a1 b1 c1 d1).cells=[I h,I a0,I b0,I c0,I d0,I a1,I b1,I c1,I d1]:=by
      show [I (h.toNat:Int),I (a0.toNat:Int),I b0,I c0,I d0,I (a1.toNat:Int),I b1,I c1,I d1]=_
      rw [← e1,← e2,← e3]
    rw [← hcells]
    generalize hR:rstOf h a0 b0 c0 d0 a1 b1 c1 d1=R at *
    have hv':validR R.m R.o0 R.t0 R.r0 R.f0 R.o1 R.t1 R.r1 R.f1=true:=by
      rw [← hR]
      show validR (h.toNat:Int) (a0.toNat:Int) b0 c0 d0 (a1.toNat:Int) b1 c1 d1=true
      rw [← e1,← e2,← e3]
      exact hv
    cases hn:R.best askF with
    | none=>exact f7n R hok p hp hv' hn (byL R.m p) rfl (byL_01 R.m p) (byL_length R.m p)
    | some w =>
      obtain ⟨n,xs⟩:=w
      exact f7s R hok p hp hv' n xs hn (byL R.m p) rfl (byL_01 R.m p) (byL_length R.m p)
  · exact f7a _ _ _ _ _ _ _ _ _ p (by simpa using hv)
end Go.Pv
