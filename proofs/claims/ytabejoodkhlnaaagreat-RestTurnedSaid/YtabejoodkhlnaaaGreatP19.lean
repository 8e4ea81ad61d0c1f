/- Parts of the proof: T40, T41, T57, Pv55, Pv56, Pv57 -/
import Derived.Test.YtabejoodkhlnaaaGreatP18
import Derived.Test.YtabejoodkhlnaaaGreatP13
set_option linter.unusedVariables false
set_option linter.unusedSimpArgs false
namespace Go.Pv
open Go.Proofs Go.Am
set_option maxRecDepth 10000
structure Cst (A:Ask) (e:Rid→Int) (c:Rid→Int→Int):Prop where
  hE:∀ d,A.E d=(e d,[])
  hS:∀ d x w,A.S d x w=(c d x+w.1,x::w.2)
def Right (R:Rst) (k:Nat) (d:Rid) (xs:List Int):Prop:=xs.length=k∧(∀ x∈xs,x=0∨x=1)∧rt R d xs=true
theorem Right.cons {R:Rst} {k:Nat} {d:Rid} {x:Int} {xs:List Int} (h:Right R k (d.then x) xs) (hx:x=0∨x=1) (hb:R.brk d x=0):Right R (k+1) d (x::xs):=by
  refine ⟨by simp [h.1],?_,by simp [rt,hb,h.2.2]⟩
  intro y hy
  rcases List.mem_cons.1 hy with rfl | hy
  · exact hx
  · exact h.2.1 y hy
end Go.Pv
namespace Go.Pv
open Go.Proofs Go.Am
set_option maxRecDepth 10000
theorem f26 (tl tl':Tail) (xs:List Int) (hl:xs.length≤1000):Fn P0 26 [.sl tl (xs.map I),.sl tl' (xs.map I)] (B true):=by
  refine PFun.of (C:=c26) (cx_ok _ _ _) rfl (fn:=Tryz.f26) (by kernel_rfl) (c:=_) rfl rfl rfl ?_
  refine Run.seq (Run.region (cx_ok _ _ _) (Reg.op rfl (Ope.asg rfl ?_)))
  refine Reg.nil (Run.seq (Run.seq (Run.region (cx_ok _ _ _) (Reg.op rfl (Ope.mov rfl ?_)))))
  refine Reg.op rfl (Ope.len (m:=xs.length) rfl (by simp) ?_)
  refine Reg.op rfl (Ope.mov rfl ?_)
  refine Reg.op rfl (Ope.len (m:=xs.length) rfl (by simp) ?_)
  refine Reg.op rfl (Ope.ne rfl rfl ?_)
  refine Reg.nil (Run.condX rfl (fun hc=>?_) fun hc=>?_)
  ·exact absurd hc (by simp)
  ·refine Run.skip (Run.seq (Run.seq (Run.region (cx_ok _ _ _) (Reg.op rfl (Ope.asg rfl ?_)))))
   refine Reg.nil (Run.block (Run.loop (α:=Nat) (fun i=>[(0,.sl tl (xs.map I)),(1,.sl tl' (xs.map I)),(5,I i)]) (fun _=>HE 0 []) (fun i=>i≤xs.length) (fun i=>xs.length - i) 0 ⟨rfl,rfl,rfl,trivial⟩ rfl (Nat.zero_le _) (fun i hi=>?_)))
   refine Run.seq (Run.seq (Run.region (cx_ok _ _ _) (Reg.op rfl (Ope.mov rfl ?_))))
   refine Reg.op rfl (Ope.mov rfl ?_)
   refine Reg.op rfl (Ope.len (m:=xs.length) rfl (by simp) ?_)
   refine Reg.op rfl (Ope.lt rfl rfl ?_)
   refine Reg.nil (Run.condX rfl (fun hc=>?_) fun hc=>?_)
   ·refine Run.skip (Run.seq (Run.block (Run.seq ?_)))
    have hlt:i < xs.length:=by omega
    refine Run.draw (cx_ok _ _ _) [(0,true),(1,true),(2,true),(3,true),(4,true),(5,true),(6,true),(7,true),(8,true)] (by kernel_rfl) (Dra.op' rfl rfl rfl .sure (Ope.mov rfl ?_))
    refine Dra.op' rfl rfl rfl .sure (Ope.mov rfl ?_)
    refine Dra.op' rfl rfl rfl .sure (Ope.idxM (m:=i) rfl rfl rfl hlt (fun _=>rfl) ?_)
    refine Dra.op' rfl rfl rfl .sure (Ope.load rfl rfl ?_)
    refine Dra.op' rfl rfl rfl .sure (Ope.mov rfl ?_)
    refine Dra.op' rfl rfl rfl .sure (Ope.mov rfl ?_)
    refine Dra.op' rfl rfl rfl .sure (Ope.idxM (m:=i) rfl rfl rfl hlt (fun _=>rfl) ?_)
    refine Dra.op' rfl rfl rfl .sure (Ope.load rfl rfl ?_)
    refine Dra.op' rfl rfl rfl .sure (Ope.ne rfl rfl ?_)
    refine Dra.nil (Run.condX rfl (fun hc=>?_) fun hc=>?_)
    ·exact absurd hc (by simp)
    ·refine Run.skip (Run.bend (Run.region (cx_ok _ _ _) (Reg.op rfl (Ope.mov rfl ?_))))
     refine Reg.op rfl (Ope.add rfl rfl (by omega) ?_)
     refine Reg.op rfl (Ope.asg rfl ?_)
     exact Reg.nil (Run.lend ⟨i+1,by omega,by omega,⟨rfl,rfl,rfl,trivial⟩,rfl,rfl⟩)
   ·refine Run.exit (Jmp.code (Jmp.round (Jmp.here (Run.seq (Run.region (cx_ok _ _ _) (Reg.op rfl (Ope.asg rfl ?_)))))))
    refine Reg.nil (Run.ret (fin_ret (.tmp rfl .nil) rfl ?_))
    rfl
theorem byL_b (n p:Nat):∀ x∈byL n p,x=0∨x=1:=by
  intro x hx
  obtain ⟨i,_,rfl⟩:=List.mem_map.1 hx
  have:=and_one_lt (p >>> i)
  omega
theorem f29b' (R:Rst) (hR:R.ok) (hv:validR R.m R.o0 R.t0 R.r0 R.f0 R.o1 R.t1 R.r1 R.f1=true) (hn:R.must=none):Fn P0 29 [.agg R.cells] (.tup [I 0,I 0,I 4]) :=
  f29 _ _ _ _ _ _ _ _ _ _ _ _ (f132er (f133b R hR hv hn) rfl)
theorem f29c' (R:Rst) (hR:R.ok) (hv:validR R.m R.o0 R.t0 R.r0 R.f0 R.o1 R.t1 R.r1 R.f1=true) (p:Nat×Nat) (hn:R.must=some p):Fn P0 29 [.agg R.cells] (.tup [I p.1,I p.2,I 0]) :=
  f29 _ _ _ _ _ _ _ _ _ _ _ _ (f132ok (f133c R hR hv p hn) rfl)
def R6:Rst:=⟨6,4,4,2,1,32,3,2,1⟩
def N6:Rst:=⟨6,4,4,2,1,36,3,2,1⟩
theorem R6_ok:R6.ok:=by unfold Rst.ok R6;decide
theorem N6_ok:N6.ok:=by unfold Rst.ok N6;decide
theorem R6_valid:validR R6.m R6.o0 R6.t0 R6.r0 R6.f0 R6.o1 R6.t1 R6.r1 R6.f1=true:=by decide
theorem N6_valid:validR N6.m N6.o0 N6.t0 N6.r0 N6.f0 N6.o1 N6.t1 N6.r1 N6.f1=true:=by decide
theorem f50f:Fn P0 50 [B false] (.agg R6.cells):=by
  refine PFun.of (C:=c50) (cx_ok _ _ _) rfl (fn:=Tryz.f50) (by kernel_rfl) (c:=_) rfl rfl rfl ?_
  refine Run.seq (Run.region (cx_ok _ _ _) (Reg.op rfl (Ope.newL rfl ?_)))
  refine Reg.nil (Run.seq (Run.region (cx_ok _ _ _) (Reg.op rfl (Ope.bld rfl rfl ?_))))
  refine Reg.op rfl (Ope.bld rfl rfl ?_)
  refine Reg.op rfl (Ope.bld rfl rfl ?_)
  refine Reg.op rfl (Ope.bld rfl rfl ?_)
  refine Reg.op rfl (Ope.newL rfl ?_)
  refine Reg.op0 (Ope.store rfl rfl rfl rfl rfl rfl ?_)
  refine Reg.nil (Run.seq (Run.seq (Run.region (cx_ok _ _ _) (Reg.op rfl (Ope.mov rfl ?_)))))
  refine Reg.nil (Run.condX rfl (fun hc=>?_) fun hc=>?_)
  ·exact absurd hc (by decide)
  ·refine Run.skip (Run.seq (Run.region (cx_ok _ _ _) (Reg.op rfl (Ope.load rfl rfl ?_))))
   refine Reg.op0 (Ope.store rfl rfl rfl rfl rfl rfl ?_)
   exact Reg.nil (Run.ret (fin_ret (.cell rfl rfl .nil) rfl rfl))
theorem f50t:Fn P0 50 [B true] (.agg N6.cells):=by
  refine PFun.of (C:=c50) (cx_ok _ _ _) rfl (fn:=Tryz.f50) (by kernel_rfl) (c:=_) rfl rfl rfl ?_
  refine Run.seq (Run.region (cx_ok _ _ _) (Reg.op rfl (Ope.newL rfl ?_)))
  refine Reg.nil (Run.seq (Run.region (cx_ok _ _ _) (Reg.op rfl (Ope.bld rfl rfl ?_))))
  refine Reg.op rfl (Ope.bld rfl rfl ?_)
  refine Reg.op rfl (Ope.bld rfl rfl ?_)
  refine Reg.op rfl (Ope.bld rfl rfl ?_)
  refine Reg.op rfl (Ope.newL rfl ?_)
  refine Reg.op0 (Ope.store rfl rfl rfl rfl rfl rfl ?_)
  refine Reg.nil (Run.seq (Run.seq (Run.region (cx_ok _ _ _) (Reg.op rfl (Ope.mov rfl ?_)))))
  refine Reg.nil (Run.condX rfl (fun hc=>?_) fun hc=>?_)
  ·refine Run.region (cx_ok _ _ _) (Reg.op rfl (Ope.fld rfl rfl ?_))
   refine Reg.op rfl (Ope.idxA rfl rfl rfl rfl ?_)
   refine Reg.op rfl (Ope.fld rfl rfl ?_)
   refine Reg.op0 (Ope.store rfl rfl rfl rfl rfl rfl ?_)
   refine Reg.nil (Run.seq (Run.region (cx_ok _ _ _) (Reg.op rfl (Ope.load rfl rfl ?_))))
   refine Reg.op0 (Ope.store rfl rfl rfl rfl rfl rfl ?_)
   exact Reg.nil (Run.ret (fin_ret (.cell rfl rfl .nil) rfl rfl))
  ·exact absurd hc (by decide)
theorem f51 (a b:Int):Fn P0 51 [I a,I b] (.agg [I a,I b]):=by
  refine PFun.of (C:=c51) (cx_ok _ _ _) rfl (fn:=Tryz.f51) (by kernel_rfl) (c:=_) rfl rfl rfl ?_
  refine Run.seq (Run.region (cx_ok _ _ _) (Reg.op rfl (Ope.newL rfl ?_)))
  refine Reg.nil (Run.seq (Run.region (cx_ok _ _ _) (Reg.op rfl (Ope.mov rfl ?_))))
  refine Reg.op rfl (Ope.mov rfl ?_)
  refine Reg.op rfl (Ope.bld rfl rfl ?_)
  refine Reg.op0 (Ope.store rfl rfl rfl rfl rfl rfl ?_)
  exact Reg.nil (Run.ret (fin_ret (.cell rfl rfl .nil) rfl rfl))
theorem e16:Fn P0 16 [.agg R6.cells,.sl .ex [I 0,I 1,I 1,I 1,I 0,I 0]] (.tup [I 3,I 3,I 0]):=by
  have h:=check 6 4 4 2 1 32 3 2 1 .ex rfl [0,1,1,1,0,0] (by decide)
  rw [show checkV 6 4 4 2 1 32 3 2 1 [0,1,1,1,0,0]=(3,3,0) by decide +kernel] at h
  exact h
theorem e18:Fn P0 18 [.agg R6.cells] (.tup [I 5,I 0]):=by
  have h:=f18b R6 R6_ok R6_valid
  rw [show R6.many=5 by decide +kernel] at h
  exact h
theorem e22:Fn P0 22 [.agg R6.cells] (.tup [I 2,.sl .no ([0,0,1,1,0,0].map I),I 0]):=f22c R6 R6_ok R6_valid (2,[0,0,1,1,0,0]) (by decide +kernel)
theorem e24:Fn P0 24 [.agg R6.cells] (.tup [I 0,.sl .no ([0,1,1,0,1,0].map I),I 0]):=f24c R6 R6_ok R6_valid (0,[0,1,1,0,1,0]) (by decide +kernel)
theorem e27:Fn P0 27 [.agg R6.cells,I 0] (.tup [.agg [I 3,I 4],I 0]):=f27c 0 (.inl rfl) R6 R6_ok R6_valid (3,4) (by decide +kernel)
theorem e29:Fn P0 29 [.agg R6.cells] (.tup [I 32,I 4,I 0]):=f29c' R6 R6_ok R6_valid (32,4) (by decide +kernel)
theorem e20:Fn P0 20 [.agg N6.cells] (.tup [I 2,I 0]):=by
  have h:=f20b N6 N6_ok N6_valid
  rw [show N6.until=2 by decide +kernel] at h
  exact h
theorem e31:Fn P0 31 [.agg N6.cells] (.tup [I 0,I 2,I 0]):=by
  have h:=f31b N6 N6_ok N6_valid
  rw [show N6.freeV=(0,2,0) by decide +kernel] at h
  exact h
theorem f15 : Fn P0 15 [] (B true) := by
  refine PFun.of (C:=c15) (cx_ok _ _ _) rfl (fn:=Tryz.f15) (by kernel_rfl) (c:=_) rfl rfl rfl ?_
  refine Run.seq (Run.region (cx_ok _ _ _) (Reg.op rfl (Ope.asg rfl ?_)))
  refine Reg.nil (Run.seq (Run.region (cx_ok _ _ _) (Reg.op rfl (Ope.cf rfl rfl (f50f) rfl ?_))))
  refine Reg.op rfl (Ope.bsl rfl rfl rfl rfl ?_)
  refine Reg.op rfl (Ope.cf rfl rfl (e16) rfl ?_)
  refine Reg.op rfl (Ope.mov rfl ?_)
  refine Reg.op rfl (Ope.ext rfl rfl ?_)
  refine Reg.op rfl (Ope.ext rfl rfl ?_)
  refine Reg.op rfl (Ope.ext rfl rfl ?_)
  refine Reg.op rfl (Ope.asg rfl ?_)
  refine Reg.op rfl (Ope.asg rfl ?_)
  refine Reg.op rfl (Ope.asg rfl ?_)
  refine Reg.nil (Run.seq (Run.region (cx_ok _ _ _) (Reg.op rfl (Ope.cf rfl rfl (f50f) rfl ?_))))
  refine Reg.op rfl (Ope.cf rfl rfl (e18) rfl ?_)
  refine Reg.op rfl (Ope.mov rfl ?_)
  refine Reg.op rfl (Ope.ext rfl rfl ?_)
  refine Reg.op rfl (Ope.ext rfl rfl ?_)
  refine Reg.op rfl (Ope.asg rfl ?_)
  refine Reg.op rfl (Ope.asg rfl ?_)
  refine Reg.nil (Run.seq (Run.region (cx_ok _ _ _) (Reg.op rfl (Ope.cf rfl rfl (f50f) rfl ?_))))
  refine Reg.op rfl (Ope.cf rfl rfl (e22) rfl ?_)
  refine Reg.op rfl (Ope.mov rfl ?_)
  refine Reg.op rfl (Ope.ext rfl rfl ?_)
  refine Reg.op rfl (Ope.ext rfl rfl ?_)
  refine Reg.op rfl (Ope.ext rfl rfl ?_)
  refine Reg.op rfl (Ope.asg rfl ?_)
  refine Reg.op rfl (Ope.asg rfl ?_)
  refine Reg.op rfl (Ope.asg rfl ?_)
  refine Reg.nil (Run.seq (Run.region (cx_ok _ _ _) (Reg.op rfl (Ope.cf rfl rfl (f50f) rfl ?_))))
  refine Reg.op rfl (Ope.cf rfl rfl (e24) rfl ?_)
  refine Reg.op rfl (Ope.mov rfl ?_)
  refine Reg.op rfl (Ope.ext rfl rfl ?_)
  refine Reg.op rfl (Ope.ext rfl rfl ?_)
  refine Reg.op rfl (Ope.ext rfl rfl ?_)
  refine Reg.op rfl (Ope.asg rfl ?_)
  refine Reg.op rfl (Ope.asg rfl ?_)
  refine Reg.op rfl (Ope.asg rfl ?_)
  refine Reg.nil (Run.seq (Run.region (cx_ok _ _ _) (Reg.op rfl (Ope.cf rfl rfl (f50f) rfl ?_))))
  refine Reg.op rfl (Ope.cf rfl rfl (e27) rfl ?_)
  refine Reg.op rfl (Ope.mov rfl ?_)
  refine Reg.op rfl (Ope.ext rfl rfl ?_)
  refine Reg.op rfl (Ope.ext rfl rfl ?_)
  refine Reg.op rfl (Ope.newL rfl ?_)
  refine Reg.op0 (Ope.store rfl rfl hget_hd rfl rfl rfl ?_)
  refine Reg.op rfl (Ope.asg rfl ?_)
  refine Reg.nil (Run.seq (Run.region (cx_ok _ _ _) (Reg.op rfl (Ope.cf rfl rfl (f50f) rfl ?_))))
  refine Reg.op rfl (Ope.cf rfl rfl (e29) rfl ?_)
  refine Reg.op rfl (Ope.mov rfl ?_)
  refine Reg.op rfl (Ope.ext rfl rfl ?_)
  refine Reg.op rfl (Ope.ext rfl rfl ?_)
  refine Reg.op rfl (Ope.ext rfl rfl ?_)
  refine Reg.op rfl (Ope.asg rfl ?_)
  refine Reg.op rfl (Ope.asg rfl ?_)
  refine Reg.op rfl (Ope.asg rfl ?_)
  refine Reg.nil (Run.seq (Run.region (cx_ok _ _ _) (Reg.op rfl (Ope.cf rfl rfl (f50t) rfl ?_))))
  refine Reg.op rfl (Ope.cf rfl rfl (e20) rfl ?_)
  refine Reg.op rfl (Ope.mov rfl ?_)
  refine Reg.op rfl (Ope.ext rfl rfl ?_)
  refine Reg.op rfl (Ope.ext rfl rfl ?_)
  refine Reg.op rfl (Ope.asg rfl ?_)
  refine Reg.op rfl (Ope.asg rfl ?_)
  refine Reg.nil (Run.seq (Run.region (cx_ok _ _ _) (Reg.op rfl (Ope.cf rfl rfl (f50t) rfl ?_))))
  refine Reg.op rfl (Ope.cf rfl rfl (e31) rfl ?_)
  refine Reg.op rfl (Ope.mov rfl ?_)
  refine Reg.op rfl (Ope.ext rfl rfl ?_)
  refine Reg.op rfl (Ope.ext rfl rfl ?_)
  refine Reg.op rfl (Ope.ext rfl rfl ?_)
  refine Reg.op rfl (Ope.asg rfl ?_)
  refine Reg.op rfl (Ope.asg rfl ?_)
  refine Reg.op rfl (Ope.asg rfl ?_)
  refine Reg.nil (Run.seq (Run.seq (Run.region (cx_ok _ _ _) (Reg.op rfl (Ope.mov rfl ?_)))))
  refine Reg.op rfl (Ope.ne rfl rfl ?_)
  refine Reg.op rfl (Ope.mov rfl ?_)
  refine Reg.splitX rfl rfl (fun hg=>?_) fun hg=>?_
  ·(exact absurd hg (by decide))
  ·refine Reg.on rfl rfl rfl (Ope.mov rfl ?_)
   refine Reg.on rfl rfl rfl (Ope.ne rfl rfl ?_)
   refine Reg.op rfl (Ope.pickF rfl rfl ?_)
   refine Reg.op rfl (Ope.mov rfl ?_)
   refine Reg.splitX rfl rfl (fun hg=>?_) fun hg=>?_
   ·(exact absurd hg (by decide))
   ·refine Reg.on rfl rfl rfl (Ope.mov rfl ?_)
    refine Reg.on rfl rfl rfl (Ope.ne rfl rfl ?_)
    refine Reg.op rfl (Ope.pickF rfl rfl ?_)
    refine Reg.op rfl (Ope.mov rfl ?_)
    refine Reg.splitX rfl rfl (fun hg=>?_) fun hg=>?_
    ·(exact absurd hg (by decide))
    ·refine Reg.on rfl rfl rfl (Ope.mov rfl ?_)
     refine Reg.on rfl rfl rfl (Ope.ne rfl rfl ?_)
     refine Reg.op rfl (Ope.pickF rfl rfl ?_)
     refine Reg.op rfl (Ope.mov rfl ?_)
     refine Reg.splitX rfl rfl (fun hg=>?_) fun hg=>?_
     ·(exact absurd hg (by decide))
     ·refine Reg.on rfl rfl rfl (Ope.mov rfl ?_)
      refine Reg.on rfl rfl rfl (Ope.ne rfl rfl ?_)
      refine Reg.op rfl (Ope.pickF rfl rfl ?_)
      refine Reg.op rfl (Ope.mov rfl ?_)
      refine Reg.splitX rfl rfl (fun hg=>?_) fun hg=>?_
      ·(exact absurd hg (by decide))
      ·refine Reg.on rfl rfl rfl (Ope.mov rfl ?_)
       refine Reg.on rfl rfl rfl (Ope.ne rfl rfl ?_)
       refine Reg.op rfl (Ope.pickF rfl rfl ?_)
       refine Reg.op rfl (Ope.mov rfl ?_)
       refine Reg.splitX rfl rfl (fun hg=>?_) fun hg=>?_
       ·(exact absurd hg (by decide))
       ·refine Reg.on rfl rfl rfl (Ope.mov rfl ?_)
        refine Reg.on rfl rfl rfl (Ope.bsl rfl rfl rfl rfl ?_)
        refine Reg.on rfl rfl rfl (Ope.cf rfl rfl (f26 .no .ex [0,0,1,1,0,0] (by decide)) rfl ?_)
        refine Reg.on rfl rfl rfl (Ope.not rfl ?_)
        refine Reg.op rfl (Ope.pickF rfl rfl ?_)
        refine Reg.op rfl (Ope.mov rfl ?_)
        refine Reg.splitX rfl rfl (fun hg=>?_) fun hg=>?_
        ·(exact absurd hg (by decide))
        ·refine Reg.on rfl rfl rfl (Ope.mov rfl ?_)
         refine Reg.on rfl rfl rfl (Ope.ne rfl rfl ?_)
         refine Reg.op rfl (Ope.pickF rfl rfl ?_)
         refine Reg.op rfl (Ope.mov rfl ?_)
         refine Reg.splitX rfl rfl (fun hg=>?_) fun hg=>?_
         ·(exact absurd hg (by decide))
         ·refine Reg.on rfl rfl rfl (Ope.mov rfl ?_)
          refine Reg.on rfl rfl rfl (Ope.ne rfl rfl ?_)
          refine Reg.op rfl (Ope.pickF rfl rfl ?_)
          refine Reg.op rfl (Ope.mov rfl ?_)
          refine Reg.splitX rfl rfl (fun hg=>?_) fun hg=>?_
          ·(exact absurd hg (by decide))
          ·refine Reg.on rfl rfl rfl (Ope.mov rfl ?_)
           refine Reg.on rfl rfl rfl (Ope.bsl rfl rfl rfl rfl ?_)
           refine Reg.on rfl rfl rfl (Ope.cf rfl rfl (f26 .no .ex [0,1,1,0,1,0] (by decide)) rfl ?_)
           refine Reg.on rfl rfl rfl (Ope.not rfl ?_)
           refine Reg.op rfl (Ope.pickF rfl rfl ?_)
           refine Reg.op rfl (Ope.mov rfl ?_)
           refine Reg.splitX rfl rfl (fun hg=>?_) fun hg=>?_
           ·(exact absurd hg (by decide))
           ·refine Reg.on rfl rfl rfl (Ope.mov rfl ?_)
            refine Reg.on rfl rfl rfl (Ope.ne rfl rfl ?_)
            refine Reg.op rfl (Ope.pickF rfl rfl ?_)
            refine Reg.nil (Run.condX rfl (fun hc=>?_) fun hc=>?_)
            ·(exact absurd hc (by decide))
            ·refine Run.skip (Run.seq (Run.frz (d := 12) true rfl rfl rfl ?_))
             refine Run.draw (cx_ok _ _ _) [(0,false),(1,true),(2,true),(3,true),(4,true),(5,true),(6,true),(7,true),(8,true),(9,true),(10,true),(11,true),(12,true),(13,true),(14,true),(15,true),(16,true),(17,true),(18,true),(19,true),(20,true),(21,true),(22,true),(23,true),(24,true),(25,true),(26,true),(27,true),(28,true),(29,true),(30,true),(31,true),(32,true),(33,true),(34,true),(35,true),(36,true),(37,true),(38,true),(39,true)] (by kernel_rfl) (Dra.op' rfl rfl rfl (.load rfl) (Ope.load rfl rfl ?_))
             refine Dra.op' rfl rfl rfl .sure (Ope.cf rfl rfl (f51 3 4) rfl ?_)
             refine Dra.op' rfl rfl rfl .sure (Ope.eqV (b:=true) rfl rfl (by kernel_rfl) ?_)
             refine Dra.op' rfl rfl rfl .sure (Ope.mov rfl ?_)
             refine Dra.splitX rfl rfl rfl rfl (fun hg=>?_) fun hg=>?_
             ·refine Dra.on' rfl rfl rfl rfl rfl .sure (Ope.mov rfl ?_)
              refine Dra.on' rfl rfl rfl rfl rfl .sure (Ope.eq rfl rfl ?_)
              refine Dra.op' rfl rfl rfl .sure (Ope.pickT rfl rfl ?_)
              refine Dra.op' rfl rfl rfl .sure (Ope.mov rfl ?_)
              refine Dra.splitX rfl rfl rfl rfl (fun hg=>?_) fun hg=>?_
              ·refine Dra.on' rfl rfl rfl rfl rfl .sure (Ope.mov rfl ?_)
               refine Dra.on' rfl rfl rfl rfl rfl .sure (Ope.eq rfl rfl ?_)
               refine Dra.op' rfl rfl rfl .sure (Ope.pickT rfl rfl ?_)
               refine Dra.op' rfl rfl rfl .sure (Ope.mov rfl ?_)
               refine Dra.splitX rfl rfl rfl rfl (fun hg=>?_) fun hg=>?_
               ·refine Dra.on' rfl rfl rfl rfl rfl .sure (Ope.mov rfl ?_)
                refine Dra.on' rfl rfl rfl rfl rfl .sure (Ope.eq rfl rfl ?_)
                refine Dra.op' rfl rfl rfl .sure (Ope.pickT rfl rfl ?_)
                refine Dra.op' rfl rfl rfl .sure (Ope.mov rfl ?_)
                refine Dra.splitX rfl rfl rfl rfl (fun hg=>?_) fun hg=>?_
                ·refine Dra.on' rfl rfl rfl rfl rfl .sure (Ope.mov rfl ?_)
                 refine Dra.on' rfl rfl rfl rfl rfl .sure (Ope.eq rfl rfl ?_)
                 refine Dra.op' rfl rfl rfl .sure (Ope.pickT rfl rfl ?_)
                 refine Dra.op' rfl rfl rfl .sure (Ope.mov rfl ?_)
                 refine Dra.splitX rfl rfl rfl rfl (fun hg=>?_) fun hg=>?_
                 ·refine Dra.on' rfl rfl rfl rfl rfl .sure (Ope.mov rfl ?_)
                  refine Dra.on' rfl rfl rfl rfl rfl .sure (Ope.eq rfl rfl ?_)
                  refine Dra.op' rfl rfl rfl .sure (Ope.pickT rfl rfl ?_)
                  refine Dra.op' rfl rfl rfl .sure (Ope.mov rfl ?_)
                  refine Dra.splitX rfl rfl rfl rfl (fun hg=>?_) fun hg=>?_
                  ·refine Dra.on' rfl rfl rfl rfl rfl .sure (Ope.mov rfl ?_)
                   refine Dra.on' rfl rfl rfl rfl rfl .sure (Ope.eq rfl rfl ?_)
                   refine Dra.op' rfl rfl rfl .sure (Ope.pickT rfl rfl ?_)
                   refine Dra.op' rfl rfl rfl .sure (Ope.mov rfl ?_)
                   refine Dra.splitX rfl rfl rfl rfl (fun hg=>?_) fun hg=>?_
                   ·refine Dra.on' rfl rfl rfl rfl rfl .sure (Ope.mov rfl ?_)
                    refine Dra.on' rfl rfl rfl rfl rfl .sure (Ope.eq rfl rfl ?_)
                    refine Dra.op' rfl rfl rfl .sure (Ope.pickT rfl rfl ?_)
                    refine Dra.op' rfl rfl rfl .sure (Ope.mov rfl ?_)
                    refine Dra.splitX rfl rfl rfl rfl (fun hg=>?_) fun hg=>?_
                    ·refine Dra.on' rfl rfl rfl rfl rfl .sure (Ope.mov rfl ?_)
                     refine Dra.on' rfl rfl rfl rfl rfl .sure (Ope.eq rfl rfl ?_)
                     refine Dra.op' rfl rfl rfl .sure (Ope.pickT rfl rfl ?_)
                     refine Dra.op' rfl rfl rfl .sure (Ope.mov rfl ?_)
                     refine Dra.splitX rfl rfl rfl rfl (fun hg=>?_) fun hg=>?_
                     ·refine Dra.on' rfl rfl rfl rfl rfl .sure (Ope.mov rfl ?_)
                      refine Dra.on' rfl rfl rfl rfl rfl .sure (Ope.eq rfl rfl ?_)
                      refine Dra.op' rfl rfl rfl .sure (Ope.pickT rfl rfl ?_)
                      refine Dra.op' rfl rfl rfl .sure (Ope.asg rfl ?_)
                      refine Dra.nil (Run.ret (fin_ret (.tmp rfl .nil) rfl ?_))
                      rfl
                     ·(exact absurd hg (by decide))
                    ·(exact absurd hg (by decide))
                   ·(exact absurd hg (by decide))
                  ·(exact absurd hg (by decide))
                 ·(exact absurd hg (by decide))
                ·(exact absurd hg (by decide))
               ·(exact absurd hg (by decide))
              ·(exact absurd hg (by decide))
             ·(exact absurd hg (by decide))
theorem awakeF:Clo P0 15 true:=fun hp X=>PFun.call f15 rfl (fun v e=>⟨e,rfl⟩) (fun _ h=>h.elim)
end Go.Pv
namespace Go.Pv
open Go.Proofs Go.Am
set_option maxRecDepth 10000
def Rst.sw (R:Rst):Rst:=⟨R.m,R.o1,R.t1,R.r1,R.f1,R.o0,R.t0,R.r0,R.f0⟩
theorem sw_ok {R:Rst} (h:R.ok):R.sw.ok:=by
  obtain ⟨h1,h2,h3,h4,h5,h6,h7,h8,h9⟩:=h
  exact ⟨h1,h3,h2,h7,h8,h9,h4,h5,h6⟩
theorem sw_valid {R:Rst} (hv:validR R.m R.o0 R.t0 R.r0 R.f0 R.o1 R.t1 R.r1 R.f1=true):validR R.sw.m R.sw.o0 R.sw.t0 R.sw.r0 R.sw.f0 R.sw.o1 R.sw.t1 R.sw.r1 R.sw.f1=true:=by
  simp only [validR,Bool.and_eq_true] at hv ⊢
  exact ⟨hv.1,hv.2.2,hv.2.1⟩
structure Sw (d d':Rid):Prop where
  a:d'.a=d.b
  b:d'.b=d.a
  n:d'.n=d.n
  r:0 < d.a+d.b→d'.r=1 - d.r
  pa:0≤d.a
  pb:0≤d.b
  z:d.a+d.b=0→d.n=0
theorem sw_zero:Sw zeroRid zeroRid:=⟨rfl,rfl,rfl,fun h=>absurd h (by decide),by decide,by decide,fun _=>rfl⟩
theorem Sw.then {d d':Rid} (h:Sw d d') {x y:Int} (hx:(x=0∧y=1)∨(x=1∧y=0)):Sw (d.then x) (d'.then y):=by
  obtain ⟨ha,hb,hn,hr,pa,pb,hz⟩:=h
  have hn':(if y=d'.r then d'.n+1 else 1)=(if x=d.r then d.n+1 else 1):=by
    by_cases h0:0 < d.a+d.b
    · have := hr h0
      rw [hn,this]
      rcases hx with ⟨rfl,rfl⟩ | ⟨rfl,rfl⟩<;>split<;>split<;>omega
    · have : d.n = 0 := hz (by omega)
      rw [hn,this]
      split<;>split<;>rfl
  rcases hx with ⟨rfl,rfl⟩ | ⟨rfl,rfl⟩
  · refine ⟨?_,?_,hn',fun _=>rfl,?_,?_,?_⟩<;>simp [Rid.then]<;>omega
  · refine ⟨?_,?_,hn',fun _=>rfl,?_,?_,?_⟩<;>simp [Rid.then]<;>omega
theorem sw_viol {d d' : Rid} (h : Sw d d') {x y : Int} (hx : (x = 0 ∧ y = 1) ∨ (x = 1 ∧ y = 0)) (o : Nat) (t r f : Int) (k : Nat) : viol o t r f d' y k = viol o t r f d x k := by
  have ht:=h.then hx
  have hs:d'.a+d'.b=d.a+d.b:=by rw [h.a,h.b];omega
  rcases (by omega:k=0∨k=1∨k=2∨3≤k) with rfl | rfl | rfl | hk
  · simp only [viol,hs]
  · simp only [viol, ht.a, ht.b]
    rcases hx with ⟨rfl,rfl⟩ | ⟨rfl,rfl⟩<;>simp
  · simp only [viol,ht.n]
  · obtain ⟨k, rfl⟩ : ∃ j, k = j + 3 := ⟨k - 3, by omega⟩
    have hs2:d.b+d.a=d.a+d.b:=Int.add_comm _ _
    simp only [viol,h.a,h.b,h.n,hs2]
    by_cases h0:0 < d.a+d.b
    · have := h.r h0
      rw [this]
      have e:decide (y=1 - d.r)=decide (x=d.r):=by
        rcases hx with ⟨rfl,rfl⟩ | ⟨rfl,rfl⟩<;>simp only [decide_eq_decide]<;>omega
      rw [e]
      rcases hx with ⟨rfl,rfl⟩ | ⟨rfl,rfl⟩<;>simp
    · rw [decide_eq_false h0]
      simp
theorem sw_brk {R:Rst} {d d':Rid} (h:Sw d d') {x y:Int} (hx:(x=0∧y=1)∨(x=1∧y=0)):R.sw.brk d' y=R.brk d x:=by
  have hv:∀ k,R.sw.viol d' y k=R.viol d x k:=fun k=>by
    rcases hx with ⟨rfl,rfl⟩ | ⟨rfl,rfl⟩
    · exact sw_viol h (.inl ⟨rfl,rfl⟩) _ _ _ _ k
    · exact sw_viol h (.inr ⟨rfl,rfl⟩) _ _ _ _ k
  simp only [Rst.brk,hv]
theorem sw01:((0:Int)=0∧(1:Int)=1)∨((0:Int)=1∧(1:Int)=0):=.inl ⟨rfl,rfl⟩
theorem sw10:((1:Int)=0∧(0:Int)=1)∨((1:Int)=1∧(0:Int)=0):=.inr ⟨rfl,rfl⟩
theorem sw_cnt (R:Rst):∀ (k:Nat) (d d':Rid),Sw d d'→cnt R.sw k d'=cnt R k d
  | 0,_,_,_=>rfl
  | k + 1, d, d', h => by
    simp only [cnt,sw_brk h sw01,sw_brk h sw10,sw_cnt R k _ _ (h.then sw01),sw_cnt R k _ _ (h.then sw10)]
    exact Nat.add_comm _ _
theorem joinS_comm (p q:Option (Int×Int)):joinS p q=joinS q p:=by
  cases p<;>cases q<;>simp only [joinS,hull,Option.some.injEq,Prod.mk.injEq]
  omega
theorem sw_spn (R:Rst):∀ (k:Nat) (d d':Rid),Sw d d'→spn 1 R.sw k d'=spn 0 R k d
  | 0,d,d',h=>by simp [spn,Rid.tot,h.b]
  | k + 1, d, d', h => by
    simp only [spn,sw_brk h sw01,sw_brk h sw10,sw_spn R k _ _ (h.then sw01),sw_spn R k _ _ (h.then sw10)]
    exact joinS_comm _ _
def swp (p:Nat×Nat):Nat×Nat:=(p.2,p.1)
theorem join2_swp (p q:Option (Nat×Nat)):join2 (p.map swp) (q.map swp)=(join2 q p).map swp:=by
  cases p<;>cases q<;>simp only [join2,and2,swp,Option.map,Option.some.injEq,Prod.mk.injEq]
  exact ⟨Nat.and_comm _ _,Nat.and_comm _ _⟩
theorem sw_mst (R:Rst):∀ (k:Nat) (d d':Rid),Sw d d'→mst R.sw k d'=(mst R k d).map swp
  | 0,d,d',h=>rfl
  | k + 1, d, d', h => by
    have hs:d'.a+d'.b=d.a+d.b:=by rw [h.a,h.b];omega
    simp only [mst,sw_brk h sw01,sw_brk h sw10,sw_mst R k _ _ (h.then sw01),sw_mst R k _ _ (h.then sw10),hs]
    rw [← join2_swp]
    congr 1
    · split
      · cases mst R k (d.then 1)<;>simp [set2,swp]
      · rfl
    · split
      · cases mst R k (d.then 0)<;>simp [set2,swp]
      · rfl
def cof (p:Option (Int×List Int)):Option Int:=p.map (·.1)
def joinC (p q:Option Int):Option Int :=
  match p,q with
  | some a,some b=>some (min a b)
  | some a,none=>some a
  | none,q=>q
theorem joinC_comm (p q:Option Int):joinC p q=joinC q p:=by
  cases p<;>cases q<;>simp only [joinC,Option.some.injEq]
  omega
theorem cof_join (p q:Option (Int×List Int)):cof (joinW p q)=joinC (cof p) (cof q):=by
  cases p<;>cases q<;>simp only [joinW,joinC,cof,bestW,Option.map,Option.some.injEq]
  split<;>omega
theorem sw_few {A:Ask} (g:Rid→Int→Int→Int) (hA:∀ d x w,(A.S d x w).1=g d x w.1) (hE:∀ d d',Sw d d'→(A.E d').1=(A.E d).1)
    (hg:∀ d d',Sw d d'→∀ x y,(x=0∧y=1)∨(x=1∧y=0)→∀ c,g d' y c=g d x c) (R:Rst):∀ (k:Nat) (d d':Rid),Sw d d'→cof (few A R.sw k d')=cof (few A R k d)
  | 0,d,d',h=>by simp [few,cof,hE d d' h]
  | k + 1, d, d', h => by
    have ih:=sw_few g hA hE hg R k
    have i0:=ih _ _ (h.then sw01)
    have i1:=ih _ _ (h.then sw10)
    have hm:∀ (p:Option (Int×List Int)) (d:Rid) (x:Int),cof (p.map (A.S d x))=(cof p).map (g d x):=fun p d x=>by
      cases p<;>simp [cof,hA]
    have hi:∀ (c:Prop) [Decidable c] (p:Option (Int×List Int)),cof (if c then p else none)=if c then cof p else none:=fun c _ p=>by split<;>rfl
    simp only [few,cof_join,hi,hm,sw_brk h sw01,sw_brk h sw10,i0,i1]
    rw [joinC_comm]
    have e0:g d' 1=g d 0:=funext fun c=>hg d d' h 0 1 sw01 c
    have e1:g d' 0=g d 1:=funext fun c=>hg d d' h 1 0 sw10 c
    rw [e0,e1]
theorem sw_best (R:Rst):cof (R.sw.best askF)=cof (R.best askF):=by
  refine sw_few (A:=askF) (fun d x c=>if (decide (0 < d.a+d.b) && !decide (x=d.r))=true then c+1 else c) (fun d x w=>rfl) (fun _ _ _=>rfl) (fun d d' h x y hx c=>?_) R R.m _ _ sw_zero
  have hs:d'.a+d'.b=d.a+d.b:=by rw [h.a,h.b];omega
  rw [hs]
  by_cases h0:0 < d.a+d.b
  · have e : decide (y = d'.r) = decide (x = d.r) := by
      rw [h.r h0]
      rcases hx with ⟨rfl,rfl⟩ | ⟨rfl,rfl⟩<;>simp only [decide_eq_decide]<;>omega
    rw [e]
  · simp [h0]
theorem sw_even (R:Rst):cof (R.sw.best askE)=cof (R.best askE):=by
  refine sw_few (A:=askE) (fun d x c=>c) (fun d x w=>rfl) (fun d d' h=>?_) (fun d d' h x y hx c=>rfl) R R.m _ _ sw_zero
  show dif d'=dif d
  unfold dif
  rw [h.a,h.b]
  omega
def flp (xs:List Int):List Int:=xs.map (1 - ·)
theorem sw_fault (R:Rst):∀ (xs:List Int) (d d':Rid),(∀ x∈xs,x=0∨x=1)→Sw d d'→faultV R.sw d' (flp xs)=faultV R d xs
  | [],_,_,_,_=>rfl
  | x :: xs, d, d', hx, h => by
    have hs:d'.a+d'.b=d.a+d.b:=by rw [h.a,h.b];omega
    have h1:(x=0∧1 - x=1)∨(x=1∧1 - x=0):=by rcases hx x (by simp) with rfl | rfl<;>simp
    have e:flp (x::xs)=(1 - x)::flp xs:=rfl
    rw [e]
    simp only [faultV,sw_brk h h1,sw_fault R xs _ _ (fun y hy=>hx y (List.mem_cons_of_mem _ hy)) (h.then h1),hs]
theorem flp_mem {xs:List Int} (hx:∀ x∈xs,x=0∨x=1):∀ x∈flp xs,x=0∨x=1:=by
  intro x h
  obtain ⟨y,hy,rfl⟩:=List.mem_map.1 h
  rcases hx y hy with rfl | rfl<;>simp
theorem sw_check (R:Rst) (hv:validR R.m R.o0 R.t0 R.r0 R.f0 R.o1 R.t1 R.r1 R.f1=true) (xs:List Int) (hx:∀ x∈xs,x=0∨x=1) (hl:xs.length=R.m) :
    checkV R.m R.o1 R.t1 R.r1 R.f1 R.o0 R.t0 R.r0 R.f0 (flp xs)=checkV R.m R.o0 R.t0 R.r0 R.f0 R.o1 R.t1 R.r1 R.f1 xs:=by
  have hv':=sw_valid hv
  have hp:planOk R.m xs=true:=planOk_iff.2 ⟨hx,by omega⟩
  have hp':planOk R.m (flp xs)=true:=planOk_iff.2 ⟨flp_mem hx,by simp only [flp,List.length_map];omega⟩
  have e:rstOf R.m R.o0 R.t0 R.r0 R.f0 R.o1 R.t1 R.r1 R.f1=R:=by simp [rstOf]
  have e':rstOf R.m R.o1 R.t1 R.r1 R.f1 R.o0 R.t0 R.r0 R.f0=R.sw:=by simp [rstOf,Rst.sw]
  unfold checkV
  rw [if_pos hv,if_pos (show validR R.m R.o1 R.t1 R.r1 R.f1 R.o0 R.t0 R.r0 R.f0=true from hv'),if_pos hp,if_pos hp',e,e',sw_fault R xs _ _ hx sw_zero]
theorem rt_take (R:Rst):∀ (xs:List Int) (n:Nat) (d:Rid),rt R d xs=true→rt R d (xs.take n)=true
  | [],n,d,_=>by simp [rt]
  | x::xs,0,d,_=>rfl
  | x :: xs, n + 1, d, h => by
    simp only [rt,Bool.and_eq_true] at h
    simp only [List.take_succ_cons,rt,Bool.and_eq_true]
    exact ⟨h.1,rt_take R xs n _ h.2⟩
theorem rt_first (R:Rst) (n:Nat):∀ (xs:List Int) (d:Rid),(∀ x∈xs,x=0∨x=1)→0≤d.a+d.b→(d.a+d.b).toNat+xs.length≤n→rt (R.first n) d xs=rt R d xs
  | [],_,_,_,_=>rfl
  | x :: xs, d, hx, h0, hk => by
    have hd:(d.a+d.b).toNat < n:=by simp only [List.length_cons] at hk;omega
    have h1:0≤(d.then x).a+(d.then x).b∧((d.then x).a+(d.then x).b).toNat+xs.length≤n:=by
      simp only [List.length_cons] at hk
      rcases hx x (by simp) with rfl | rfl<;>simp [Rid.then]<;>omega
    simp only [rt,brk_first hd,rt_first R n xs (d.then x) (fun y hy=>hx y (List.mem_cons_of_mem _ hy)) h1.1 h1.2]
theorem first_right (R:Rst) (hv:validR R.m R.o0 R.t0 R.r0 R.f0 R.o1 R.t1 R.r1 R.f1=true) (xs:List Int) (hx:∀ x∈xs,x=0∨x=1) (hl:xs.length=R.m) (h4:(checkV R.m R.o0 R.t0 R.r0 R.f0 R.o1 R.t1 R.r1 R.f1 xs).2.2=4) (n:Nat) (hn:n≤R.m) :
    rt (R.first n) zeroRid (xs.take n)=true:=by
  have hp:planOk R.m xs=true:=planOk_iff.2 ⟨hx,by omega⟩
  have e:rstOf R.m R.o0 R.t0 R.r0 R.f0 R.o1 R.t1 R.r1 R.f1=R:=by simp [rstOf]
  unfold checkV at h4
  rw [if_pos hv,if_pos hp,e] at h4
  have hr:rt R zeroRid xs=true:=by
    refine (rt_fault R xs zeroRid).2 fun h=>?_
    rw [if_pos h] at h4
    exact absurd (show (0:Int)=4 from h4) (by decide)
  rw [rt_first R n (xs.take n) zeroRid (fun x h=>hx x (List.mem_of_mem_take h)) (by decide) (by simp [zeroRid];omega)]
  exact rt_take R xs n zeroRid hr
end Go.Pv
namespace Go.Pv
open Go.Am Go.RowKit
section
variable {C:Cx} {F:EQ} {X:EX} {e:EL} {ds:List Nat} {n m m':Nat} {l l':HL} {K:PV→PH→Prop}
variable {d:Option Tmp} {type:TypeId} {pos:String} {after:Array Edge} {guard:Option (Nat×Bool)}
end
end Go.Pv
namespace Go.Pv
open Go.Am Go.RowKit
section
variable {C:Cx} {F:EQ} {X:EX} {k:List KI} {e:EL} {ds:List Nat} {h:PH}
theorem Run.weakT {c:Code} {d:Nat} {tl:Tail} {vs:List PV} (hd:lget e d=some (.sl tl vs)) (hr:Run C F X (.c c::k) ((d,.sl .no vs)::e) ds h):Run C F X (.c c::k) e ds h:=by
 refine Run.ghost (fun t ht=>⟨t.set d (.sl .no vs),?_,?_⟩) hr
 ·intro j u hj
  simp only [lget] at hj
  simp only [T.get_set]
  split at hj
  ·next hb=>rw [if_pos (Nat.eq_of_beq_eq_true hb)];exact hj
  ·next hb =>
   rw [if_neg (fun c=>by subst c;simp at hb)]
   exact ht j u hj
 ·intro w0 s arr a1 a2 a3
  refine ⟨s,rfl,a1,Ext.refl s,a2,?_⟩
  intro j u hj
  simp only [T.get_set] at hj
  split at hj
  ·next hjd =>
   cases hj
   subst hjd
   obtain ⟨x,x1,x2⟩:=a3 j _ (ht j _ hd)
   exact ⟨x,x1,RV_tl_no x2⟩
  ·exact a3 j u hj
end
end Go.Pv
namespace Go.Pv
open Go.Am Go.RowKit
mutual
def PV.lone:PV→Bool
 |.lit _=>true
 |.agg l=>PV.lones l
 |.tup l=>PV.lones l
 |.ifc _ v=>PV.lone v
 |_=>false
def PV.lones:List PV→Bool
 |[]=>true
 |v::vs=>PV.lone v && PV.lones vs
end
mutual
theorem lone_rv {s s':St}:∀ (v:PV),v.lone=true→∀ x,RV s v x→RV s' v x
 |.lit a,_,x,h=>RV_lit.2 (RV_lit.1 h)
 |.agg l,hv,x,h=>by
  obtain ⟨y,rfl,h2⟩:=RV_agg.1 h
  exact RV_agg.2 ⟨y,rfl,lones_rv l (by simpa [PV.lone] using hv) _ h2⟩
 |.tup l,hv,x,h=>by
  obtain ⟨y,rfl,h2⟩:=RV_tup.1 h
  exact RV_tup.2 ⟨y,rfl,lones_rv l (by simpa [PV.lone] using hv) _ h2⟩
 |.ifc t v,hv,x,h=>by
  obtain ⟨y,rfl,h2⟩:=RV_ifc.1 h
  exact RV_ifc.2 ⟨y,rfl,lone_rv v (by simpa [PV.lone] using hv) _ h2⟩
 |.sl tl l,hv,_,_=>by simp [PV.lone] at hv
 |.fp v,hv,_,_=>by simp [PV.lone] at hv
 |.ptr i o,hv,_,_=>by simp [PV.lone] at hv
 |.ms i o a b c,hv,_,_=>by simp [PV.lone] at hv
 |.mp i,hv,_,_=>by simp [PV.lone] at hv
 |.fn f a b,hv,_,_=>by simp [PV.lone] at hv
 |.yld i,hv,_,_=>by simp [PV.lone] at hv
theorem lones_rv {s s':St}:∀ (l:List PV),PV.lones l=true→∀ xs,RVs s l xs→RVs s' l xs
 |[],_,xs,h=>RVs_nil.2 (RVs_nil.1 h)
 |v::vs,hv,xs,h=>by
  simp only [PV.lones,Bool.and_eq_true] at hv
  obtain ⟨y,ys,rfl,h1,h2⟩:=RVs_cons.1 h
  exact RVs_cons.2 ⟨y,ys,rfl,lone_rv v hv.1 _ h1,lones_rv vs hv.2 _ h2⟩
end
theorem RVs.split {s:St}:∀ {a b:List PV} {xs:List Value},RVs s (a++b) xs→∃ x y,xs=x++y∧RVs s a x∧RVs s b y
 |[],b,xs,h=>⟨[],xs,rfl,RVs_nil.2 rfl,h⟩
 |v::a,b,xs,h=>by
  rw [List.cons_append] at h
  obtain ⟨y,ys,rfl,h1,h2⟩:=RVs_cons.1 h
  obtain ⟨p,q,rfl,h3,h4⟩:=RVs.split h2
  exact ⟨y::p,q,rfl,RVs_cons.2 ⟨y,p,rfl,h1,h3⟩,h4⟩
theorem nc_one {v:PV} (h:v.isAgg=false):v.nc=1:=by
 cases v<;>first | rfl | simp [PV.isAgg] at h
theorem REs.cellsAt {s:St} {sz k:Nat}:∀ {l:List PV} {o:Nat},(∀ v∈l,v.isAgg=false)→REs s l sz k o→∀ j,j < l.length→∃ y,s.fcell k (o+j)=some y
 |[],_,_,_,j,hj=>by simp at hj
 |v::l,o,hl,h,j,hj=>by
  obtain ⟨h1,h2,h3⟩:=REs_cons.1 h
  have hv:=hl v (by simp)
  rw [nc_one hv] at h1
  subst h1
  cases j with
  |zero =>
   obtain ⟨y,hy,_⟩:=(RM_one hv).1 h2
   exact ⟨y,hy⟩
  |succ j =>
   obtain ⟨y,hy⟩:=REs.cellsAt (fun u hu=>hl u (by simp [hu])) h3 j (by simpa using hj)
   exact ⟨y,by rw [← hy];congr 1;omega⟩
def St.thaw (s:St) (k:Nat) (b:PBlk) (w':World):St :=
 { σ:=fun x=>if x < s.w.heap.size then s.σ x else if x=k then .live s.h.next else .no,e:=upd s.e s.h.next k,h:=s.h.add b,w:=w' }
section
variable {w0:Base} {s:St} {k n o:Nat} {l:List PV} {b:PBlk} {w':World}
theorem thaw_old {x:Nat} (hx:x < s.w.heap.size):(s.thaw k b w').σ x=s.σ x:=by simp [St.thaw,hx]
theorem thaw_new (hk:s.w.heap.size≤k):(s.thaw k b w').σ k=.live s.h.next:=by
 have:¬ k < s.w.heap.size:=by omega
 simp [St.thaw,this]
theorem thaw_no {x:Nat} (hx:s.w.heap.size≤x) (hk:x≠k):(s.thaw k b w').σ x=.no:=by
 have:¬ x < s.w.heap.size:=by omega
 simp [St.thaw,this,hk]
theorem Ext.thaw (hw:PW w0 s) (hk:s.w.heap.size≤k) (hs:s.w.heap.size≤w'.heap.size) (ho:∀ x,x < s.w.heap.size→w'.heap[x]?=s.w.heap[x]?):Ext s (s.thaw k b w'):=by
 refine Ext.mk' ⟨hs,fun x hx=>⟨fun e=>(thaw_old hx).trans e,fun m e=>(thaw_old hx).trans e⟩⟩ (Nat.le_succ _) (fun i hi=>upd_ne _ _ (by omega)) (fun x j y hy=>?_) (fun i m hi hm=>?_)
 ·obtain ⟨m,own,h1,h2,h3⟩:=fcell_some hy
  have hx:=hw.lt (k:=x) (by rw [h1];simp)
  refine fcell_of (s:=s.thaw k b w') ((thaw_old hx).trans h1) h2 ?_
  rw [← h3]
  exact cell_heap (ho x hx)
 ·rcases Nat.lt_or_ge (s.e i) s.w.heap.size with hx | hx
  ·rw [thaw_old hx] at hm
   exact ⟨hm,fun arr t ha=>⟨arr,(ho _ hx).trans ha,rfl⟩⟩
  ·by_cases hke:s.e i=k
   ·rw [hke,thaw_new hk] at hm
    cases hm
   ·rw [thaw_no hx hke] at hm
    cases hm
theorem PW.thaw (hw:PW w0 s) {s':St} (h':PW (Base.of s.w) s') (hk:s.w.heap.size≤k) {arr:Array Value} {t:TypeId} {z:Nat×Nat} (ha:s'.w.heap[k]?=some (.cells arr t z)) (hn:n≤arr.size)
  {ys:List Value} (hl:∀ s2:St,RVs s2 l ys) (hy:∀ (j:Nat) (y:Value),ys[j]?=some y→arr[o+j]?=some y):PW w0 (s.thaw k (.raw n o l) s'.w):=by
 have ho:∀ x,x < s.w.heap.size→s'.w.heap[x]?=s.w.heap[x]?:=fun x hx=>h'.old x hx
 have hs:s.w.heap.size≤s'.w.heap.size:=h'.size
 have hx:=Ext.thaw (b:=.raw n o l) hw hk hs ho
 have hkl:k < s'.w.heap.size:=(Array.getElem?_eq_some_iff.1 ha).1
 refine ⟨h'.os.trans hw.os,h'.tape.trans hw.tape,h'.output.trans hw.output,Nat.le_trans hw.size hs,fun x hp=>?_,fun x hp=>?_,fun x ob hp hxo=>?_,fun x hxs=>?_,fun x m i hxi=>?_,fun i b' hi=>?_⟩
 ·have:=w0.lt x hp
  have:=hw.size
  exact (ho x (by omega)).trans (hw.old x hp)
 ·have:=w0.lt x hp
  have:=hw.size
  rw [thaw_old (by omega)]
  exact hw.prot x hp
 ·rcases Nat.lt_or_ge x s.w.heap.size with hl | hl
  ·exact hw.cold x ob hp ((ho x hl).symm.trans hxo)
  ·exact h'.cold x ob (Nat.not_lt.2 hl) hxo
 ·have hxs':s'.w.heap.size≤x:=hxs
  exact thaw_no (by omega) (by omega)
 ·rcases Nat.lt_or_ge x s.w.heap.size with hl | hl
  ·rw [thaw_old hl] at hxi
   obtain ⟨p1,p2,arr',t',p3,p4⟩:=hw.ob x m i hxi
   exact ⟨Nat.lt_succ_of_lt p1,(upd_ne _ _ (by omega)).trans p2,arr',t',(ho x hl).trans p3,p4⟩
  ·by_cases hke:x=k
   ·rw [hke,thaw_new hk] at hxi
    cases hxi
   ·rw [thaw_no hl hke] at hxi
    cases hxi
 ·simp only [St.thaw,PH.add] at hi
  split at hi
  ·next hin =>
   cases hi
   subst hin
   have e1:(s.thaw k (.raw n o l) s'.w).e s.h.next=k:=upd_self _ _ _
   have hz:z.2≤z.1:=h'.cold k _ (Nat.not_lt.2 hk) ha arr t z rfl
   exact ⟨Nat.lt_succ_self _,(BAt_live (b:=.raw n o l) rfl).2 (by rw [e1];exact thaw_new hk),by rw [e1];exact ⟨arr,t,z,ha,hz,hn,ys,hl _,hy⟩⟩
  ·next hin =>
   obtain ⟨p1,p2,p3⟩:=hw.hp i b' hi
   have hlt:=hw.lt (k:=s.e i) p2.some
   have e1:(s.thaw k (.raw n o l) s'.w).e i=s.e i:=upd_ne _ _ hin
   exact ⟨Nat.lt_succ_of_lt p1,p2.congr e1 (thaw_old hlt),by rw [e1];exact p3.ext hx (ho _ hlt)⟩
end
theorem Fn.thaw {P:Program} {g:Nat} {args pre post l:List PV} {tl:Tail} (hf:Fn P g args (.tup (pre++.sl tl l::post))) (ha:PV.lones args=true) (hl:∀ v∈l,v.isAgg=false) (hll:PV.lones l=true) (hne:l≠[]) (hp:PV.lones pre=true)
  (hq:PV.lones post=true) {h:PH} {K Y:PV→PH→Prop} (hK:∀ o c,l.length≤c→K (.tup (pre++.ms h.next o l.length c none::post)) (h.add (.raw (o+l.length) o l))):PCall P g args h K Y:=by
 refine ⟨hf.1,fun w0 s xs hw hh hx=>?_⟩
 subst hh
 refine (hf.2 (Base.of s.w) (St.start s.w) xs (PW.start s.w) rfl (lones_rv args ha _ hx)).mono fun e w' he=>?_
 obtain ⟨s',rfl,h2,h3,h4⟩:=he
 cases e with
 |panicked c=>obtain ⟨v,x,_,_,_,h5⟩:=h4;exact h5.elim
 |outgrown=>exact h4.elim
 |returned x =>
  obtain ⟨v,p,_,rfl⟩:=h4
  obtain ⟨y,rfl,p1⟩:=RV_tup.1 p
  obtain ⟨y1,y2,p2,p3,p4⟩:=RVs.split p1
  obtain ⟨z,y3,rfl,p5,p6⟩:=RVs_cons.1 p4
  rcases RV_sl.1 p5 with ⟨e1,_⟩ | ⟨k,o,c,sz,rfl,q1,q2,_⟩
  ·exact absurd e1 hne
  have hlen:0 < l.length:=by cases l with
   |nil=>exact absurd rfl hne
   |cons _ _=>simp
  have hsz:sz=1:=by
   cases l with
   |nil=>exact absurd rfl hne
   |cons v vs=>rw [← (REs_cons.1 q2).1,nc_one (hl v (by simp))]
  subst hsz
  obtain ⟨u,hu⟩:=REs.cellsAt hl q2 (l.length - 1) (by omega)
  obtain ⟨m,own,r1,r2,r3⟩:=fcell_some hu
  have hk:s.w.heap.size≤k:=by
   rcases Nat.lt_or_ge k s.w.heap.size with hlt | hge
   ·have:=(h3.old.2 k hlt).1 rfl
    rw [this] at r1
    cases r1
   ·exact hge
  obtain ⟨arr,t,zz,g1,g2⟩:∃ arr t zz,s'.w.heap[k]?=some (.cells arr t zz)∧o+l.length≤arr.size:=by
   simp only [World.cell?] at r3
   split at r3
   ·next arr t zz hh =>
    simp at r3
    obtain ⟨r4,_⟩:=Array.getElem?_eq_some_iff.1 r3
    exact ⟨arr,t,zz,hh,by omega⟩
   ·cases r3
  obtain ⟨ys,v1,v2⟩:=RMs.vals q2.toFlat.1
  rw [flat_self hl] at v1
  have v3:∀ (j:Nat) (y:Value),ys[j]?=some y→arr[o+j]?=some y:=fun j y hj=>by
   have:=fcell_cell (v2 j y hj)
   simpa [World.cell?,g1] using this
  refine ⟨s.thaw k (.raw (o+l.length) o l) s'.w,rfl,hw.thaw h2 hk g1 g2 (fun s2=>lones_rv l hll _ v1) v3,Ext.thaw hw hk h2.size fun x hx=>h2.old x hx,_,RV_tup.2 ⟨y,rfl,?_⟩,hK o c q1⟩
  rw [p2]
  refine (lones_rv pre hp _ p3).append (RVs_cons.2 ⟨_,y3,rfl,RV_ms.2 ⟨Nat.lt_succ_self _,?_⟩,lones_rv post hq _ p6⟩)
  have e1:(s.thaw k (.raw (o+l.length) o l) s'.w).e s.h.next=k:=upd_self _ _ _
  rw [e1]
section
variable {C:Cx} {F:EQ} {X:EX} {k:List KI} {e:EL} {ds:List Nat} {K:PV→PH→Prop} {n:Nat} {hl:HL}
variable {d:Option Tmp} {type:TypeId} {pos:String} {after:Array Edge} {guard:Option (Nat×Bool)}
theorem Ope.thaw {f:Operand} {args:Array Operand} {tys:Array TypeId} {g:Nat} {fs as' cp all' pre post l:List PV} {tl:Tail} (hf:pev (lget e) f=some (.fn (.func g) fs cp)) (ha:pargs (pev (lget e)) args.toList=some as') (hall:fs++as'++cp=all')
  (hc:Fn C.P g all' (.tup (pre++.sl tl l::post))) (hlo:PV.lones all'=true) (hag:∀ v∈l,v.isAgg=false) (hll:PV.lones l=true) (hne:l≠[]) (hp:PV.lones pre=true) (hq:PV.lones post=true) {ln:Nat} (hln:l.length=ln)
  (hK:∀ o c,ln≤c→K (.tup (pre++.ms n o ln c none::post)) (HE (n+1) ((n,some (.raw (o+ln) o l))::hl))):Ope C X { dst:=d,op:=.call { callee:=.value f,args,argTypes:=tys },type,pos,after,guard } e ds (HE n hl) K :=
 Ope.call hf ha hall (Fn.thaw hc hlo hag hll hne hp hq fun o c h=>by rw [HE_add];subst hln;exact hK o c h)
theorem Ope.storeR {t:Nat} {a x:Operand} {agg:Bool} {i o m:Nat} {v:PV} [ht:Ty C.A t agg 1] (ha:pev (lget e) a=some (.ptr i o)) (hx:pev (lget e) x=some v) (hg:hget hl i=some (.raw m 0 [])) (hnc:v.nc=1) (hom:o < m) (ho:PV.allOne v.cells=true)
  (hK:K (.tup []) (HE n hl)):Ope C X { dst:=d,op:=.store t a x,type,pos,after,guard } e ds (HE n hl) K:=by
 obtain ⟨d',ti,h1,h2,_,h3⟩:=ht.get
 unfold Ope
 simp only [pop,pkind,ploud,ha,hx,PStore,h2]
 exact .inr ⟨m,hg,hnc,h3,hom,ho,hK⟩
theorem Ope.apR {t tx bytes sz' bytes' j o len cap m:Nat} {ez:Option Nat} {agg agg':Bool} {x y:Operand} {vs ws:List PV} [hs:Slc C.A t agg 1 bytes] [hs':Slc C.A tx agg' sz' bytes'] (hx:pev (lget e) x=some (.sl .ex vs)) (hy:pev (lget e) y=some (.ms j o len cap ez)) (hg:hget hl j=some (.raw m o ws)) (hlen:len=ws.length) (hne:ws≠[])
  (hb1:(vs.length+ws.length) * bytes≤140737488355328) (hb2:vs.length+ws.length≤1000000000) (hv:∀ v∈vs,v.nc=1) (hw:∀ v∈ws,v.isAgg=false) (hK:K (.sl .no (vs++ws)) (HE (n+1) hl)) :
  Ope C X { dst:=d,op:=.call { callee:=.builtin .append,args:=#[x,y],argTypes:=#[t,tx] },type,pos,after,guard } e ds (HE n hl) K:=by
 obtain ⟨el,ti,q1,q2,q3,q4,q5⟩:=hs.get
 obtain ⟨d',ti',h4,h5,_,h6⟩:=q2.get
 rw [q3] at h5
 cases h5
 subst q4
 obtain ⟨el',ti',q1',_⟩:=hs'.get
 unfold Ope
 simp only [pop,pkind,ploud,pargs,hx,hy,PAppend,q1,q1',q3]
 exact ⟨m,ws,hg,hlen,hne,hb1,hb2,h6,q5,Each.of fun v hv'=>by rw [h6];exact hv v hv',hw,hK⟩
theorem Run.forget {c:Code} {i m o:Nat} {ws:List PV} (hg:hget hl i=some (.raw m o ws)) (hr:Run C F X (.c c::k) e ds (HE n ((i,some (.raw m 0 []))::hl))):Run C F X (.c c::k) e ds (HE n hl):=by
 refine Run.ghost (fun t ht=>⟨t,ht,fun w0 s arr hw hh hT=>?_⟩) hr
 have hi:s.h.get i=some (.raw m o ws):=by rw [hh];exact hg
 obtain ⟨p1,p2,arr',t',z,g1,g2,g3,_⟩:=hw.hp i _ hi
 have hput:HE n ((i,some (.raw m 0 []))::hl)=s.h.put i (.raw m 0 []):=by rw [hh,HE_put]
 have hlv:=(BAt_live (b:=.raw m o ws) rfl).1 p2
 have hx:Ext s (s.put i (.raw m 0 []) s.w):=Ext.put hlv (Nat.le_refl _) fun _ _=>rfl
 refine ⟨s.put i (.raw m 0 []) s.w,rfl,?_,hx,hput.symm,hT.ext hx⟩
 refine ⟨hw.os,hw.tape,hw.output,hw.size,hw.old,hw.prot,hw.cold,hw.inb,hw.ob,fun j b hj=>?_⟩
 simp only [St.put,PH.put] at hj
 split at hj
 ·next e =>
  cases hj
  subst e
  exact ⟨p1,(BAt_live (b:=.raw m 0 []) rfl).2 hlv,arr',t',z,g1,g2,g3,[],RVs_nil.2 rfl,fun j y hj=>by simp at hj⟩
 ·obtain ⟨q1,q2,q3⟩:=hw.hp j b hj
  exact ⟨q1,BAt.congr (s':=s.put i (.raw m 0 []) s.w) (s:=s) rfl rfl q2,q3.ext hx rfl⟩
end
end Go.Pv
