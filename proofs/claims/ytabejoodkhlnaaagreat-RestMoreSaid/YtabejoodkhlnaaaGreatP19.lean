/- Parts of the proof: T40, T41, T43, T44 -/
import Derived.Test.YtabejoodkhlnaaaGreatP18
set_option linter.unusedVariables false
set_option linter.unusedSimpArgs false
namespace Go.Pv
open Go.Proofs Go.Am
set_option maxRecDepth 10000
theorem fewA_none (A:Ask) (R:Rst):∀ (k:Nat) (d:Rid),few A R k d=none↔cnt R k d=0
  | 0,d=>by simp [few,cnt]
  | k + 1, d => by
    have i0:=fewA_none A R k (d.then 0)
    have i1:=fewA_none A R k (d.then 1)
    simp only [few,cnt]
    by_cases c0:R.brk d 0=0<;>by_cases c1:R.brk d 1=0<;>simp only [c0,c1,if_true,if_false]<;>cases m0:few A R k (d.then 0)<;>cases m1:few A R k (d.then 1)<;>rw [m0] at i0<;>rw [m1] at i1<;>simp only [reduceCtorEq,true_iff,false_iff] at i0 i1<;>simp only [Option.map_none,Option.map_some,joinW,reduceCtorEq,true_iff,false_iff]<;>omega
def gco (e:Rid→Int) (c:Rid→Int→Int):Rid→List Int→Int
  | d,[]=>e d
  | d,x::xs=>c d x+gco e c (d.then x) xs
structure Cst (A:Ask) (e:Rid→Int) (c:Rid→Int→Int):Prop where
  hE:∀ d,A.E d=(e d,[])
  hS:∀ d x w,A.S d x w=(c d x+w.1,x::w.2)
def BestA (e:Rid→Int) (c:Rid→Int→Int) (R:Rst) (k:Nat) (d:Rid) (w:Int×List Int):Prop :=
  w.2.length=k∧(∀ x∈w.2,x=0∨x=1)∧rt R d w.2=true∧w.1=gco e c d w.2∧∀ ys:List Int,ys.length=k→(∀ y∈ys,y=0∨y=1)→rt R d ys=true→w.1≤gco e c d ys∧(w.1=gco e c d ys→lexle w.2 ys)
theorem fewA_best {A : Ask} {e : Rid → Int} {c : Rid → Int → Int} (hA : Cst A e c) (R : Rst) : ∀ (k : Nat) (d : Rid) (w : Int × List Int), few A R k d = some w → BestA e c R k d w
  | 0, d, w, h => by
    have h':w=(e d,[]):=by
      simp only [few,Option.some.injEq] at h
      rw [← h,hA.hE]
    subst h'
    refine ⟨rfl,by simp,rfl,rfl,fun ys hl _ _=>?_⟩
    have:ys=[]:=List.length_eq_zero_iff.1 hl
    subst this
    exact ⟨Int.le_refl _,fun _=>trivial⟩
  | k + 1, d, w, h => by
    -- what is so of one ride
    have key:∀ x:Int,x=0∨x=1→∀ v,(if R.brk d x=0 then (few A R k (d.then x)).map (A.S d x) else none)=some v →
        v.2.length=k+1∧(∀ z∈v.2,z=0∨z=1)∧rt R d v.2=true∧v.1=gco e c d v.2∧(∃ t,v.2=x::t) ∧
        ∀ ys:List Int,ys.length=k→(∀ y∈ys,y=0∨y=1)→rt R d (x::ys)=true→v.1≤gco e c d (x::ys)∧(v.1=gco e c d (x::ys)→lexle v.2 (x::ys)):=by
      intro x hx v hv
      split at hv
      · next hb =>
        obtain ⟨u,hu,rfl⟩:=Option.map_eq_some_iff.1 hv
        obtain ⟨g1,g2,g3,g4,g5⟩:=fewA_best hA R k (d.then x) u hu
        rw [hA.hS]
        refine ⟨by simp [g1],?_,?_,?_,⟨u.2,rfl⟩,?_⟩
        · intro z hz
          rcases List.mem_cons.1 hz with rfl | hz
          · exact hx
          · exact g2 z hz
        · simp [rt,hb,g3]
        · simp only [gco];rw [g4]
        · intro ys hl hy hr
          simp only [rt,Bool.and_eq_true,decide_eq_true_eq] at hr
          obtain ⟨q1,q2⟩:=g5 ys hl hy hr.2
          simp only [gco]
          exact ⟨by omega,fun e=>.inr ⟨rfl,q2 (by omega)⟩⟩
      · cases hv
    have nkey:∀ x:Int,(if R.brk d x=0 then (few A R k (d.then x)).map (A.S d x) else none)=none→∀ ys:List Int,ys.length=k→(∀ y∈ys,y=0∨y=1)→rt R d (x::ys)=true→False:=by
      intro x hv ys hl hy hr
      simp only [rt,Bool.and_eq_true,decide_eq_true_eq] at hr
      rw [if_pos hr.1] at hv
      have:=rt_cnt R ys (d.then x) hy hr.2
      rw [hl] at this
      have hn:=(fewA_none A R k (d.then x)).1 (Option.map_eq_none_iff.1 hv)
      omega
    rw [few] at h
    have fin:∀ (x x':Int),(x=0∧x'=1)∨(x=1∧x'=0)→∀ v,(if R.brk d x=0 then (few A R k (d.then x)).map (A.S d x) else none)=some v →
        (∀ ys:List Int,ys.length=k→(∀ y∈ys,y=0∨y=1)→rt R d (x'::ys)=true→v.1≤gco e c d (x'::ys)∧(v.1=gco e c d (x'::ys)→x < x'))→BestA e c R (k+1) d v:=by
      intro x x' hxx v hv hoth
      obtain ⟨g1,g2,g3,g4,⟨t,g5⟩,g6⟩:=key x (by omega) v hv
      refine ⟨g1,g2,g3,g4,fun ys hl hy hr=>?_⟩
      cases ys with
      | nil=>simp at hl
      | cons y ys =>
        simp only [List.length_cons,Nat.add_right_cancel_iff] at hl
        have hy':=fun z hz=>hy z (List.mem_cons_of_mem _ hz)
        rcases (by have:=hy y (by simp);omega:y=x∨y=x') with rfl | rfl
        · exact g6 ys hl hy' hr
        · obtain ⟨q1, q2⟩ := hoth ys hl hy' hr
          refine ⟨q1,fun e=>?_⟩
          rw [g5]
          exact .inl (q2 e)
    cases ha:(if R.brk d 0=0 then (few A R k (d.then 0)).map (A.S d 0) else none) with
    | none =>
      rw [ha] at h
      exact fin 1 0 (.inr ⟨rfl,rfl⟩) w h fun ys hl hy hr=>(nkey 0 ha ys hl hy hr).elim
    | some a =>
      cases hb:(if R.brk d 1=0 then (few A R k (d.then 1)).map (A.S d 1) else none) with
      | none =>
        rw [ha,hb] at h
        simp only [joinW,Option.some.injEq] at h
        subst h
        exact fin 0 1 (.inl ⟨rfl,rfl⟩) a ha fun ys hl hy hr=>(nkey 1 hb ys hl hy hr).elim
      | some b =>
        rw [ha,hb] at h
        obtain ⟨_,_,_,_,_,ga⟩:=key 0 (.inl rfl) a ha
        obtain ⟨_,_,_,_,_,gb⟩:=key 1 (.inr rfl) b hb
        simp only [joinW,bestW,Option.some.injEq] at h
        split at h
        · next hlt =>
          subst h
          refine fin 1 0 (.inr ⟨rfl,rfl⟩) b hb fun ys hl hy hr=>?_
          have:=(ga ys hl hy hr).1
          exact ⟨by omega,fun e=>by omega⟩
        · next hlt =>
          subst h
          refine fin 0 1 (.inl ⟨rfl,rfl⟩) a ha fun ys hl hy hr=>?_
          have:=(gb ys hl hy hr).1
          exact ⟨by omega,fun _=>by decide⟩
theorem cstE:Cst askE dif (fun _ _=>0):=⟨fun _=>rfl,fun d x w=>by show (w.1,x::w.2)=(0+w.1,x::w.2);rw [Int.zero_add]⟩
theorem cstF:Cst askF (fun _=>0) (fun d x=>c1 (pv d) x):=⟨fun _=>rfl,fun d x w=>stepW_eq d x w⟩
end Go.Pv
namespace Go.Pv
open Go.Proofs Go.Am
set_option maxRecDepth 10000
theorem f26 (tl tl':Tail) (xs:List Int) (hl:xs.length≤1000):Fn P0 26 [.sl tl (xs.map I),.sl tl' (xs.map I)] (B true):=by
  refine PFun.of (C:=c26) (cx_ok _ _ _) rfl (fn:=Tryz.f26) (by kernel_rfl) (c:=_) rfl rfl rfl ?_
  refine Run.seq (Run.region (cx_ok _ _ _) (Reg.op rfl (Ope.asg rfl ?_)))
  refine Reg.nil (Run.seq (Run.seq (Run.region (cx_ok _ _ _) (Reg.op rfl (Ope.mov rfl ?_)))))
  refine Reg.op rfl (Ope.len (m:=xs.length) rfl (by simp) ?_)
  refine Reg.op rfl (Ope.mov rfl ?_)
  refine Reg.op rfl (Ope.len (m:=xs.length) rfl (by simp) ?_)
  refine Reg.op rfl (Ope.ne rfl rfl ?_)
  refine Reg.nil (Run.condX rfl (fun hc=>?_) fun hc=>?_)
  ·exact absurd hc (by simp)
  ·refine Run.skip (Run.seq (Run.seq (Run.region (cx_ok _ _ _) (Reg.op rfl (Ope.asg rfl ?_)))))
   refine Reg.nil (Run.block (Run.loop (α:=Nat) (fun i=>[(0,.sl tl (xs.map I)),(1,.sl tl' (xs.map I)),(5,I i)]) (fun _=>HE 0 []) (fun i=>i≤xs.length) (fun i=>xs.length - i) 0 ⟨rfl,rfl,rfl,trivial⟩ rfl (Nat.zero_le _) (fun i hi=>?_)))
   refine Run.seq (Run.seq (Run.region (cx_ok _ _ _) (Reg.op rfl (Ope.mov rfl ?_))))
   refine Reg.op rfl (Ope.mov rfl ?_)
   refine Reg.op rfl (Ope.len (m:=xs.length) rfl (by simp) ?_)
   refine Reg.op rfl (Ope.lt rfl rfl ?_)
   refine Reg.nil (Run.condX rfl (fun hc=>?_) fun hc=>?_)
   ·refine Run.skip (Run.seq (Run.block (Run.seq ?_)))
    have hlt:i < xs.length:=by omega
    refine Run.draw (cx_ok _ _ _) [(0,true),(1,true),(2,true),(3,true),(4,true),(5,true),(6,true),(7,true),(8,true)] (by kernel_rfl) (Dra.op' rfl rfl rfl .sure (Ope.mov rfl ?_))
    refine Dra.op' rfl rfl rfl .sure (Ope.mov rfl ?_)
    refine Dra.op' rfl rfl rfl .sure (Ope.idxM (m:=i) rfl rfl rfl hlt (fun _=>rfl) ?_)
    refine Dra.op' rfl rfl rfl .sure (Ope.load rfl rfl ?_)
    refine Dra.op' rfl rfl rfl .sure (Ope.mov rfl ?_)
    refine Dra.op' rfl rfl rfl .sure (Ope.mov rfl ?_)
    refine Dra.op' rfl rfl rfl .sure (Ope.idxM (m:=i) rfl rfl rfl hlt (fun _=>rfl) ?_)
    refine Dra.op' rfl rfl rfl .sure (Ope.load rfl rfl ?_)
    refine Dra.op' rfl rfl rfl .sure (Ope.ne rfl rfl ?_)
    refine Dra.nil (Run.condX rfl (fun hc=>?_) fun hc=>?_)
    ·exact absurd hc (by simp)
    ·refine Run.skip (Run.bend (Run.region (cx_ok _ _ _) (Reg.op rfl (Ope.mov rfl ?_))))
     refine Reg.op rfl (Ope.add rfl rfl (by omega) ?_)
     refine Reg.op rfl (Ope.asg rfl ?_)
     exact Reg.nil (Run.lend ⟨i+1,by omega,by omega,⟨rfl,rfl,rfl,trivial⟩,rfl,rfl⟩)
   ·refine Run.exit (Jmp.code (Jmp.round (Jmp.here (Run.seq (Run.region (cx_ok _ _ _) (Reg.op rfl (Ope.asg rfl ?_)))))))
    refine Reg.nil (Run.ret (fin_ret (.tmp rfl .nil) rfl ?_))
    rfl
theorem byL_b (n p:Nat):∀ x∈byL n p,x=0∨x=1:=by
  intro x hx
  obtain ⟨i,_,rfl⟩:=List.mem_map.1 hx
  have:=and_one_lt (p >>> i)
  omega
theorem f29b' (R:Rst) (hR:R.ok) (hv:validR R.m R.o0 R.t0 R.r0 R.f0 R.o1 R.t1 R.r1 R.f1=true) (hn:R.must=none):Fn P0 29 [.agg R.cells] (.tup [I 0,I 0,I 4]) :=
  f29 _ _ _ _ _ _ _ _ _ _ _ _ (f132er (f133b R hR hv hn) rfl)
theorem f29c' (R:Rst) (hR:R.ok) (hv:validR R.m R.o0 R.t0 R.r0 R.f0 R.o1 R.t1 R.r1 R.f1=true) (p:Nat×Nat) (hn:R.must=some p):Fn P0 29 [.agg R.cells] (.tup [I p.1,I p.2,I 0]) :=
  f29 _ _ _ _ _ _ _ _ _ _ _ _ (f132ok (f133c R hR hv p hn) rfl)
def R6:Rst:=⟨6,4,4,2,1,32,3,2,1⟩
def N6:Rst:=⟨6,4,4,2,1,36,3,2,1⟩
theorem R6_ok:R6.ok:=by unfold Rst.ok R6;decide
theorem N6_ok:N6.ok:=by unfold Rst.ok N6;decide
theorem R6_valid:validR R6.m R6.o0 R6.t0 R6.r0 R6.f0 R6.o1 R6.t1 R6.r1 R6.f1=true:=by decide
theorem N6_valid:validR N6.m N6.o0 N6.t0 N6.r0 N6.f0 N6.o1 N6.t1 N6.r1 N6.f1=true:=by decide
theorem f50f:Fn P0 50 [B false] (.agg R6.cells):=by
  refine PFun.of (C:=c50) (cx_ok _ _ _) rfl (fn:=Tryz.f50) (by kernel_rfl) (c:=_) rfl rfl rfl ?_
  refine Run.seq (Run.region (cx_ok _ _ _) (Reg.op rfl (Ope.newL rfl ?_)))
  refine Reg.nil (Run.seq (Run.region (cx_ok _ _ _) (Reg.op rfl (Ope.bld rfl rfl ?_))))
  refine Reg.op rfl (Ope.bld rfl rfl ?_)
  refine Reg.op rfl (Ope.bld rfl rfl ?_)
  refine Reg.op rfl (Ope.bld rfl rfl ?_)
  refine Reg.op rfl (Ope.newL rfl ?_)
  refine Reg.op0 (Ope.store rfl rfl rfl rfl rfl rfl ?_)
  refine Reg.nil (Run.seq (Run.seq (Run.region (cx_ok _ _ _) (Reg.op rfl (Ope.mov rfl ?_)))))
  refine Reg.nil (Run.condX rfl (fun hc=>?_) fun hc=>?_)
  ·exact absurd hc (by decide)
  ·refine Run.skip (Run.seq (Run.region (cx_ok _ _ _) (Reg.op rfl (Ope.load rfl rfl ?_))))
   refine Reg.op0 (Ope.store rfl rfl rfl rfl rfl rfl ?_)
   exact Reg.nil (Run.ret (fin_ret (.cell rfl rfl .nil) rfl rfl))
theorem f50t:Fn P0 50 [B true] (.agg N6.cells):=by
  refine PFun.of (C:=c50) (cx_ok _ _ _) rfl (fn:=Tryz.f50) (by kernel_rfl) (c:=_) rfl rfl rfl ?_
  refine Run.seq (Run.region (cx_ok _ _ _) (Reg.op rfl (Ope.newL rfl ?_)))
  refine Reg.nil (Run.seq (Run.region (cx_ok _ _ _) (Reg.op rfl (Ope.bld rfl rfl ?_))))
  refine Reg.op rfl (Ope.bld rfl rfl ?_)
  refine Reg.op rfl (Ope.bld rfl rfl ?_)
  refine Reg.op rfl (Ope.bld rfl rfl ?_)
  refine Reg.op rfl (Ope.newL rfl ?_)
  refine Reg.op0 (Ope.store rfl rfl rfl rfl rfl rfl ?_)
  refine Reg.nil (Run.seq (Run.seq (Run.region (cx_ok _ _ _) (Reg.op rfl (Ope.mov rfl ?_)))))
  refine Reg.nil (Run.condX rfl (fun hc=>?_) fun hc=>?_)
  ·refine Run.region (cx_ok _ _ _) (Reg.op rfl (Ope.fld rfl rfl ?_))
   refine Reg.op rfl (Ope.idxA rfl rfl rfl rfl ?_)
   refine Reg.op rfl (Ope.fld rfl rfl ?_)
   refine Reg.op0 (Ope.store rfl rfl rfl rfl rfl rfl ?_)
   refine Reg.nil (Run.seq (Run.region (cx_ok _ _ _) (Reg.op rfl (Ope.load rfl rfl ?_))))
   refine Reg.op0 (Ope.store rfl rfl rfl rfl rfl rfl ?_)
   exact Reg.nil (Run.ret (fin_ret (.cell rfl rfl .nil) rfl rfl))
  ·exact absurd hc (by decide)
theorem f51 (a b:Int):Fn P0 51 [I a,I b] (.agg [I a,I b]):=by
  refine PFun.of (C:=c51) (cx_ok _ _ _) rfl (fn:=Tryz.f51) (by kernel_rfl) (c:=_) rfl rfl rfl ?_
  refine Run.seq (Run.region (cx_ok _ _ _) (Reg.op rfl (Ope.newL rfl ?_)))
  refine Reg.nil (Run.seq (Run.region (cx_ok _ _ _) (Reg.op rfl (Ope.mov rfl ?_))))
  refine Reg.op rfl (Ope.mov rfl ?_)
  refine Reg.op rfl (Ope.bld rfl rfl ?_)
  refine Reg.op0 (Ope.store rfl rfl rfl rfl rfl rfl ?_)
  exact Reg.nil (Run.ret (fin_ret (.cell rfl rfl .nil) rfl rfl))
theorem e16:Fn P0 16 [.agg R6.cells,.sl .ex [I 0,I 1,I 1,I 1,I 0,I 0]] (.tup [I 3,I 3,I 0]):=by
  have h:=check 6 4 4 2 1 32 3 2 1 .ex rfl [0,1,1,1,0,0] (by decide)
  rw [show checkV 6 4 4 2 1 32 3 2 1 [0,1,1,1,0,0]=(3,3,0) by decide +kernel] at h
  exact h
theorem e18:Fn P0 18 [.agg R6.cells] (.tup [I 5,I 0]):=by
  have h:=f18b R6 R6_ok R6_valid
  rw [show R6.many=5 by decide +kernel] at h
  exact h
theorem e22:Fn P0 22 [.agg R6.cells] (.tup [I 2,.sl .no ([0,0,1,1,0,0].map I),I 0]):=f22c R6 R6_ok R6_valid (2,[0,0,1,1,0,0]) (by decide +kernel)
theorem e24:Fn P0 24 [.agg R6.cells] (.tup [I 0,.sl .no ([0,1,1,0,1,0].map I),I 0]):=f24c R6 R6_ok R6_valid (0,[0,1,1,0,1,0]) (by decide +kernel)
theorem e27:Fn P0 27 [.agg R6.cells,I 0] (.tup [.agg [I 3,I 4],I 0]):=f27c 0 (.inl rfl) R6 R6_ok R6_valid (3,4) (by decide +kernel)
theorem e29:Fn P0 29 [.agg R6.cells] (.tup [I 32,I 4,I 0]):=f29c' R6 R6_ok R6_valid (32,4) (by decide +kernel)
theorem e20:Fn P0 20 [.agg N6.cells] (.tup [I 2,I 0]):=by
  have h:=f20b N6 N6_ok N6_valid
  rw [show N6.until=2 by decide +kernel] at h
  exact h
theorem e31:Fn P0 31 [.agg N6.cells] (.tup [I 0,I 2,I 0]):=by
  have h:=f31b N6 N6_ok N6_valid
  rw [show N6.freeV=(0,2,0) by decide +kernel] at h
  exact h
theorem f15 : Fn P0 15 [] (B true) := by
  refine PFun.of (C:=c15) (cx_ok _ _ _) rfl (fn:=Tryz.f15) (by kernel_rfl) (c:=_) rfl rfl rfl ?_
  refine Run.seq (Run.region (cx_ok _ _ _) (Reg.op rfl (Ope.asg rfl ?_)))
  refine Reg.nil (Run.seq (Run.region (cx_ok _ _ _) (Reg.op rfl (Ope.cf rfl rfl (f50f) rfl ?_))))
  refine Reg.op rfl (Ope.bsl rfl rfl rfl rfl ?_)
  refine Reg.op rfl (Ope.cf rfl rfl (e16) rfl ?_)
  refine Reg.op rfl (Ope.mov rfl ?_)
  refine Reg.op rfl (Ope.ext rfl rfl ?_)
  refine Reg.op rfl (Ope.ext rfl rfl ?_)
  refine Reg.op rfl (Ope.ext rfl rfl ?_)
  refine Reg.op rfl (Ope.asg rfl ?_)
  refine Reg.op rfl (Ope.asg rfl ?_)
  refine Reg.op rfl (Ope.asg rfl ?_)
  refine Reg.nil (Run.seq (Run.region (cx_ok _ _ _) (Reg.op rfl (Ope.cf rfl rfl (f50f) rfl ?_))))
  refine Reg.op rfl (Ope.cf rfl rfl (e18) rfl ?_)
  refine Reg.op rfl (Ope.mov rfl ?_)
  refine Reg.op rfl (Ope.ext rfl rfl ?_)
  refine Reg.op rfl (Ope.ext rfl rfl ?_)
  refine Reg.op rfl (Ope.asg rfl ?_)
  refine Reg.op rfl (Ope.asg rfl ?_)
  refine Reg.nil (Run.seq (Run.region (cx_ok _ _ _) (Reg.op rfl (Ope.cf rfl rfl (f50f) rfl ?_))))
  refine Reg.op rfl (Ope.cf rfl rfl (e22) rfl ?_)
  refine Reg.op rfl (Ope.mov rfl ?_)
  refine Reg.op rfl (Ope.ext rfl rfl ?_)
  refine Reg.op rfl (Ope.ext rfl rfl ?_)
  refine Reg.op rfl (Ope.ext rfl rfl ?_)
  refine Reg.op rfl (Ope.asg rfl ?_)
  refine Reg.op rfl (Ope.asg rfl ?_)
  refine Reg.op rfl (Ope.asg rfl ?_)
  refine Reg.nil (Run.seq (Run.region (cx_ok _ _ _) (Reg.op rfl (Ope.cf rfl rfl (f50f) rfl ?_))))
  refine Reg.op rfl (Ope.cf rfl rfl (e24) rfl ?_)
  refine Reg.op rfl (Ope.mov rfl ?_)
  refine Reg.op rfl (Ope.ext rfl rfl ?_)
  refine Reg.op rfl (Ope.ext rfl rfl ?_)
  refine Reg.op rfl (Ope.ext rfl rfl ?_)
  refine Reg.op rfl (Ope.asg rfl ?_)
  refine Reg.op rfl (Ope.asg rfl ?_)
  refine Reg.op rfl (Ope.asg rfl ?_)
  refine Reg.nil (Run.seq (Run.region (cx_ok _ _ _) (Reg.op rfl (Ope.cf rfl rfl (f50f) rfl ?_))))
  refine Reg.op rfl (Ope.cf rfl rfl (e27) rfl ?_)
  refine Reg.op rfl (Ope.mov rfl ?_)
  refine Reg.op rfl (Ope.ext rfl rfl ?_)
  refine Reg.op rfl (Ope.ext rfl rfl ?_)
  refine Reg.op rfl (Ope.newL rfl ?_)
  refine Reg.op0 (Ope.store rfl rfl hget_hd rfl rfl rfl ?_)
  refine Reg.op rfl (Ope.asg rfl ?_)
  refine Reg.nil (Run.seq (Run.region (cx_ok _ _ _) (Reg.op rfl (Ope.cf rfl rfl (f50f) rfl ?_))))
  refine Reg.op rfl (Ope.cf rfl rfl (e29) rfl ?_)
  refine Reg.op rfl (Ope.mov rfl ?_)
  refine Reg.op rfl (Ope.ext rfl rfl ?_)
  refine Reg.op rfl (Ope.ext rfl rfl ?_)
  refine Reg.op rfl (Ope.ext rfl rfl ?_)
  refine Reg.op rfl (Ope.asg rfl ?_)
  refine Reg.op rfl (Ope.asg rfl ?_)
  refine Reg.op rfl (Ope.asg rfl ?_)
  refine Reg.nil (Run.seq (Run.region (cx_ok _ _ _) (Reg.op rfl (Ope.cf rfl rfl (f50t) rfl ?_))))
  refine Reg.op rfl (Ope.cf rfl rfl (e20) rfl ?_)
  refine Reg.op rfl (Ope.mov rfl ?_)
  refine Reg.op rfl (Ope.ext rfl rfl ?_)
  refine Reg.op rfl (Ope.ext rfl rfl ?_)
  refine Reg.op rfl (Ope.asg rfl ?_)
  refine Reg.op rfl (Ope.asg rfl ?_)
  refine Reg.nil (Run.seq (Run.region (cx_ok _ _ _) (Reg.op rfl (Ope.cf rfl rfl (f50t) rfl ?_))))
  refine Reg.op rfl (Ope.cf rfl rfl (e31) rfl ?_)
  refine Reg.op rfl (Ope.mov rfl ?_)
  refine Reg.op rfl (Ope.ext rfl rfl ?_)
  refine Reg.op rfl (Ope.ext rfl rfl ?_)
  refine Reg.op rfl (Ope.ext rfl rfl ?_)
  refine Reg.op rfl (Ope.asg rfl ?_)
  refine Reg.op rfl (Ope.asg rfl ?_)
  refine Reg.op rfl (Ope.asg rfl ?_)
  refine Reg.nil (Run.seq (Run.seq (Run.region (cx_ok _ _ _) (Reg.op rfl (Ope.mov rfl ?_)))))
  refine Reg.op rfl (Ope.ne rfl rfl ?_)
  refine Reg.op rfl (Ope.mov rfl ?_)
  refine Reg.splitX rfl rfl (fun hg=>?_) fun hg=>?_
  ·(exact absurd hg (by decide))
  ·refine Reg.on rfl rfl rfl (Ope.mov rfl ?_)
   refine Reg.on rfl rfl rfl (Ope.ne rfl rfl ?_)
   refine Reg.op rfl (Ope.pickF rfl rfl ?_)
   refine Reg.op rfl (Ope.mov rfl ?_)
   refine Reg.splitX rfl rfl (fun hg=>?_) fun hg=>?_
   ·(exact absurd hg (by decide))
   ·refine Reg.on rfl rfl rfl (Ope.mov rfl ?_)
    refine Reg.on rfl rfl rfl (Ope.ne rfl rfl ?_)
    refine Reg.op rfl (Ope.pickF rfl rfl ?_)
    refine Reg.op rfl (Ope.mov rfl ?_)
    refine Reg.splitX rfl rfl (fun hg=>?_) fun hg=>?_
    ·(exact absurd hg (by decide))
    ·refine Reg.on rfl rfl rfl (Ope.mov rfl ?_)
     refine Reg.on rfl rfl rfl (Ope.ne rfl rfl ?_)
     refine Reg.op rfl (Ope.pickF rfl rfl ?_)
     refine Reg.op rfl (Ope.mov rfl ?_)
     refine Reg.splitX rfl rfl (fun hg=>?_) fun hg=>?_
     ·(exact absurd hg (by decide))
     ·refine Reg.on rfl rfl rfl (Ope.mov rfl ?_)
      refine Reg.on rfl rfl rfl (Ope.ne rfl rfl ?_)
      refine Reg.op rfl (Ope.pickF rfl rfl ?_)
      refine Reg.op rfl (Ope.mov rfl ?_)
      refine Reg.splitX rfl rfl (fun hg=>?_) fun hg=>?_
      ·(exact absurd hg (by decide))
      ·refine Reg.on rfl rfl rfl (Ope.mov rfl ?_)
       refine Reg.on rfl rfl rfl (Ope.ne rfl rfl ?_)
       refine Reg.op rfl (Ope.pickF rfl rfl ?_)
       refine Reg.op rfl (Ope.mov rfl ?_)
       refine Reg.splitX rfl rfl (fun hg=>?_) fun hg=>?_
       ·(exact absurd hg (by decide))
       ·refine Reg.on rfl rfl rfl (Ope.mov rfl ?_)
        refine Reg.on rfl rfl rfl (Ope.bsl rfl rfl rfl rfl ?_)
        refine Reg.on rfl rfl rfl (Ope.cf rfl rfl (f26 .no .ex [0,0,1,1,0,0] (by decide)) rfl ?_)
        refine Reg.on rfl rfl rfl (Ope.not rfl ?_)
        refine Reg.op rfl (Ope.pickF rfl rfl ?_)
        refine Reg.op rfl (Ope.mov rfl ?_)
        refine Reg.splitX rfl rfl (fun hg=>?_) fun hg=>?_
        ·(exact absurd hg (by decide))
        ·refine Reg.on rfl rfl rfl (Ope.mov rfl ?_)
         refine Reg.on rfl rfl rfl (Ope.ne rfl rfl ?_)
         refine Reg.op rfl (Ope.pickF rfl rfl ?_)
         refine Reg.op rfl (Ope.mov rfl ?_)
         refine Reg.splitX rfl rfl (fun hg=>?_) fun hg=>?_
         ·(exact absurd hg (by decide))
         ·refine Reg.on rfl rfl rfl (Ope.mov rfl ?_)
          refine Reg.on rfl rfl rfl (Ope.ne rfl rfl ?_)
          refine Reg.op rfl (Ope.pickF rfl rfl ?_)
          refine Reg.op rfl (Ope.mov rfl ?_)
          refine Reg.splitX rfl rfl (fun hg=>?_) fun hg=>?_
          ·(exact absurd hg (by decide))
          ·refine Reg.on rfl rfl rfl (Ope.mov rfl ?_)
           refine Reg.on rfl rfl rfl (Ope.bsl rfl rfl rfl rfl ?_)
           refine Reg.on rfl rfl rfl (Ope.cf rfl rfl (f26 .no .ex [0,1,1,0,1,0] (by decide)) rfl ?_)
           refine Reg.on rfl rfl rfl (Ope.not rfl ?_)
           refine Reg.op rfl (Ope.pickF rfl rfl ?_)
           refine Reg.op rfl (Ope.mov rfl ?_)
           refine Reg.splitX rfl rfl (fun hg=>?_) fun hg=>?_
           ·(exact absurd hg (by decide))
           ·refine Reg.on rfl rfl rfl (Ope.mov rfl ?_)
            refine Reg.on rfl rfl rfl (Ope.ne rfl rfl ?_)
            refine Reg.op rfl (Ope.pickF rfl rfl ?_)
            refine Reg.nil (Run.condX rfl (fun hc=>?_) fun hc=>?_)
            ·(exact absurd hc (by decide))
            ·refine Run.skip (Run.seq (Run.frz (d := 12) true rfl rfl rfl ?_))
             refine Run.draw (cx_ok _ _ _) [(0,false),(1,true),(2,true),(3,true),(4,true),(5,true),(6,true),(7,true),(8,true),(9,true),(10,true),(11,true),(12,true),(13,true),(14,true),(15,true),(16,true),(17,true),(18,true),(19,true),(20,true),(21,true),(22,true),(23,true),(24,true),(25,true),(26,true),(27,true),(28,true),(29,true),(30,true),(31,true),(32,true),(33,true),(34,true),(35,true),(36,true),(37,true),(38,true),(39,true)] (by kernel_rfl) (Dra.op' rfl rfl rfl (.load rfl) (Ope.load rfl rfl ?_))
             refine Dra.op' rfl rfl rfl .sure (Ope.cf rfl rfl (f51 3 4) rfl ?_)
             refine Dra.op' rfl rfl rfl .sure (Ope.eqV (b:=true) rfl rfl (by kernel_rfl) ?_)
             refine Dra.op' rfl rfl rfl .sure (Ope.mov rfl ?_)
             refine Dra.splitX rfl rfl rfl rfl (fun hg=>?_) fun hg=>?_
             ·refine Dra.on' rfl rfl rfl rfl rfl .sure (Ope.mov rfl ?_)
              refine Dra.on' rfl rfl rfl rfl rfl .sure (Ope.eq rfl rfl ?_)
              refine Dra.op' rfl rfl rfl .sure (Ope.pickT rfl rfl ?_)
              refine Dra.op' rfl rfl rfl .sure (Ope.mov rfl ?_)
              refine Dra.splitX rfl rfl rfl rfl (fun hg=>?_) fun hg=>?_
              ·refine Dra.on' rfl rfl rfl rfl rfl .sure (Ope.mov rfl ?_)
               refine Dra.on' rfl rfl rfl rfl rfl .sure (Ope.eq rfl rfl ?_)
               refine Dra.op' rfl rfl rfl .sure (Ope.pickT rfl rfl ?_)
               refine Dra.op' rfl rfl rfl .sure (Ope.mov rfl ?_)
               refine Dra.splitX rfl rfl rfl rfl (fun hg=>?_) fun hg=>?_
               ·refine Dra.on' rfl rfl rfl rfl rfl .sure (Ope.mov rfl ?_)
                refine Dra.on' rfl rfl rfl rfl rfl .sure (Ope.eq rfl rfl ?_)
                refine Dra.op' rfl rfl rfl .sure (Ope.pickT rfl rfl ?_)
                refine Dra.op' rfl rfl rfl .sure (Ope.mov rfl ?_)
                refine Dra.splitX rfl rfl rfl rfl (fun hg=>?_) fun hg=>?_
                ·refine Dra.on' rfl rfl rfl rfl rfl .sure (Ope.mov rfl ?_)
                 refine Dra.on' rfl rfl rfl rfl rfl .sure (Ope.eq rfl rfl ?_)
                 refine Dra.op' rfl rfl rfl .sure (Ope.pickT rfl rfl ?_)
                 refine Dra.op' rfl rfl rfl .sure (Ope.mov rfl ?_)
                 refine Dra.splitX rfl rfl rfl rfl (fun hg=>?_) fun hg=>?_
                 ·refine Dra.on' rfl rfl rfl rfl rfl .sure (Ope.mov rfl ?_)
                  refine Dra.on' rfl rfl rfl rfl rfl .sure (Ope.eq rfl rfl ?_)
                  refine Dra.op' rfl rfl rfl .sure (Ope.pickT rfl rfl ?_)
                  refine Dra.op' rfl rfl rfl .sure (Ope.mov rfl ?_)
                  refine Dra.splitX rfl rfl rfl rfl (fun hg=>?_) fun hg=>?_
                  ·refine Dra.on' rfl rfl rfl rfl rfl .sure (Ope.mov rfl ?_)
                   refine Dra.on' rfl rfl rfl rfl rfl .sure (Ope.eq rfl rfl ?_)
                   refine Dra.op' rfl rfl rfl .sure (Ope.pickT rfl rfl ?_)
                   refine Dra.op' rfl rfl rfl .sure (Ope.mov rfl ?_)
                   refine Dra.splitX rfl rfl rfl rfl (fun hg=>?_) fun hg=>?_
                   ·refine Dra.on' rfl rfl rfl rfl rfl .sure (Ope.mov rfl ?_)
                    refine Dra.on' rfl rfl rfl rfl rfl .sure (Ope.eq rfl rfl ?_)
                    refine Dra.op' rfl rfl rfl .sure (Ope.pickT rfl rfl ?_)
                    refine Dra.op' rfl rfl rfl .sure (Ope.mov rfl ?_)
                    refine Dra.splitX rfl rfl rfl rfl (fun hg=>?_) fun hg=>?_
                    ·refine Dra.on' rfl rfl rfl rfl rfl .sure (Ope.mov rfl ?_)
                     refine Dra.on' rfl rfl rfl rfl rfl .sure (Ope.eq rfl rfl ?_)
                     refine Dra.op' rfl rfl rfl .sure (Ope.pickT rfl rfl ?_)
                     refine Dra.op' rfl rfl rfl .sure (Ope.mov rfl ?_)
                     refine Dra.splitX rfl rfl rfl rfl (fun hg=>?_) fun hg=>?_
                     ·refine Dra.on' rfl rfl rfl rfl rfl .sure (Ope.mov rfl ?_)
                      refine Dra.on' rfl rfl rfl rfl rfl .sure (Ope.eq rfl rfl ?_)
                      refine Dra.op' rfl rfl rfl .sure (Ope.pickT rfl rfl ?_)
                      refine Dra.op' rfl rfl rfl .sure (Ope.asg rfl ?_)
                      refine Dra.nil (Run.ret (fin_ret (.tmp rfl .nil) rfl ?_))
                      rfl
                     ·(exact absurd hg (by decide))
                    ·(exact absurd hg (by decide))
                   ·(exact absurd hg (by decide))
                  ·(exact absurd hg (by decide))
                 ·(exact absurd hg (by decide))
                ·(exact absurd hg (by decide))
               ·(exact absurd hg (by decide))
              ·(exact absurd hg (by decide))
             ·(exact absurd hg (by decide))
theorem awakeF:Clo P0 15 true:=fun hp X=>PFun.call f15 rfl (fun v e=>⟨e,rfl⟩) (fun _ h=>h.elim)
end Go.Pv
namespace Go.Pv
open Go.Proofs Go.Am
set_option maxRecDepth 10000
theorem brk_zero {R:Rst} {d:Rid} {x:Int}:R.brk d x=0↔R.viol d x 0=false∧R.viol d x 1=false∧R.viol d x 2=false∧R.viol d x 3=false:=by
  unfold Rst.brk
  cases R.viol d x 0<;>cases R.viol d x 1<;>cases R.viol d x 2<;>cases R.viol d x 3<;>simp
structure Lax (R X:Rst):Prop where
  m:X.m=R.m
  b:∀ (d:Rid) (x:Int),x=0∨x=1→R.brk d x=0→X.brk d x=0
theorem viol_lax {o o':Nat} {t t' r r' f f':Int} (ho:∀ i,o'.testBit i=true→o.testBit i=true) (ht:t≤t') (hr:r≤r') (hf:f'≤f) {d:Rid} {x:Int} :
    (viol o t r f d x 0=false→viol o' t' r' f' d x 0=false)∧(viol o t r f d x 1=false→viol o' t' r' f' d x 1=false)∧(viol o t r f d x 2=false→viol o' t' r' f' d x 2=false)∧(viol o t r f d x 3=false→viol o' t' r' f' d x 3=false):=by
  simp only [viol,decide_eq_false_iff_not]
  refine ⟨fun h h'=>h ?_,fun h h'=>h ?_,fun h h'=>h ?_,fun h h'=>h ?_⟩
  · exact (bit_iff _ _).2 (ho _ ((bit_iff _ _).1 h'))
  · split at h' <;> rename_i hx
    · rw [if_pos hx];omega
    · rw [if_neg hx];omega
  · omega
  · generalize ((decide (0 < d.a + d.b) && !decide (x = d.r)) && decide (0 < if x = 0 then d.a else d.b)) = b at h' ⊢
    cases b
    · simp at h'
    · simp only [if_true] at h' ⊢;omega
theorem Lax.of {R X:Rst} (hm:X.m=R.m) (o0:∀ i,X.o0.testBit i=true→R.o0.testBit i=true) (t0:R.t0≤X.t0) (r0:R.r0≤X.r0) (f0:X.f0≤R.f0)
    (o1:∀ i,X.o1.testBit i=true→R.o1.testBit i=true) (t1:R.t1≤X.t1) (r1:R.r1≤X.r1) (f1:X.f1≤R.f1):Lax R X:=by
  refine ⟨hm,fun d x hx h=>?_⟩
  rw [brk_zero] at h ⊢
  unfold Rst.viol at h ⊢
  rcases hx with rfl | rfl
  · simp only [if_true] at h ⊢
    obtain ⟨g1,g2,g3,g4⟩:=viol_lax (d:=d) (x:=0) o0 t0 r0 f0
    exact ⟨g1 h.1,g2 h.2.1,g3 h.2.2.1,g4 h.2.2.2⟩
  · simp only [if_neg (show ¬ (1 : Int) = 0 by decide)] at h ⊢
    obtain ⟨g1,g2,g3,g4⟩:=viol_lax (d:=d) (x:=1) o1 t1 r1 f1
    exact ⟨g1 h.1,g2 h.2.1,g3 h.2.2.1,g4 h.2.2.2⟩
theorem Lax.cnt {R X:Rst} (h:Lax R X):∀ (k:Nat) (d:Rid),Go.Pv.cnt R k d≤Go.Pv.cnt X k d
  | 0,d=>Nat.le_refl _
  | k + 1, d => by
    have i0:=h.cnt k (d.then 0)
    have i1:=h.cnt k (d.then 1)
    have h0:=h.b d 0 (.inl rfl)
    have h1:=h.b d 1 (.inr rfl)
    simp only [Go.Pv.cnt]
    by_cases c0:R.brk d 0=0<;>by_cases c1:R.brk d 1=0<;>simp only [c0,c1,if_true,if_false,h0,h1]<;>(try rw [if_pos (h0 c0)])<;>(try rw [if_pos (h1 c1)])<;>omega
theorem Lax.rt {R X:Rst} (h:Lax R X):∀ (xs:List Int) (d:Rid),(∀ x∈xs,x=0∨x=1)→Go.Pv.rt R d xs=true→Go.Pv.rt X d xs=true
  | [],_,_,_=>rfl
  | x :: xs, d, hx, hr => by
    simp only [Go.Pv.rt,Bool.and_eq_true,decide_eq_true_eq] at hr ⊢
    exact ⟨h.b d x (hx x (by simp)) hr.1,h.rt xs (d.then x) (fun y hy=>hx y (List.mem_cons_of_mem _ hy)) hr.2⟩
theorem Lax.out {R X : Rst} (h : Lax R X) {x : Nat} (hx : x = 0 ∨ x = 1) (i : Nat) : Lax (R.out x i) (X.out x i) := by
  refine ⟨?_,fun d y hy hb=>?_⟩
  · rcases hx with rfl | rfl<;>exact h.m
  · by_cases hc : (d.a + d.b).toNat ≠ i ∨ y ≠ x
    · rw [out_brk hx hy hc] at hb ⊢
      exact h.b d y hy hb
    · have e1 : (d.a + d.b).toNat = i := by
        by_cases e:(d.a+d.b).toNat=i
        · exact e
        · exact absurd (.inl e) hc
      have e2:y=x:=by
        by_cases e:y=x
        · exact e
        · exact absurd (.inr e) hc
      subst e2
      exact absurd hb (out_same hx e1)
theorem Lax.until {R X:Rst} (h:Lax R X):R.until≤X.until:=by
  by_cases hlt:R.until≤X.until
  · exact hlt
  · have hX := (until_spec X).1
    have hR:=(until_spec R).1
    have hne:X.until≠X.m:=by have:=h.m;omega
    have h1:=cnt_zero_le X (show X.until+1≤R.until by omega) zeroRid (until_next hne)
    have h2:=h.cnt R.until zeroRid
    have h3:=until_pos R
    omega
theorem Lax.best {R X:Rst} (h:Lax R X) {A:Ask} {e:Rid→Int} {c:Rid→Int→Int} (hA:Cst A e c) {w:Int×List Int} (hw:R.best A=some w):∃ v,X.best A=some v∧v.1≤w.1:=by
  obtain ⟨g1,g2,g3,g4,_⟩:=fewA_best hA R R.m zeroRid w hw
  have hr:=h.rt w.2 zeroRid g2 g3
  cases hv:X.best A with
  | none =>
    have h0:=(fewA_none A X X.m zeroRid).1 hv
    have:=rt_cnt X w.2 zeroRid g2 hr
    rw [g1,← h.m] at this
    omega
  | some v =>
    obtain ⟨_,_,_,_,q5⟩:=fewA_best hA X X.m zeroRid v hv
    have:=(q5 w.2 (by rw [g1,h.m]) g2 hr).1
    exact ⟨v,rfl,by rw [g4];exact this⟩
theorem sub_zero {p q : Nat} (hp : p < 2 ^ 63) (hpq : ∀ i, p.testBit i = true → q.testBit i = true) : p &&& (2 ^ 64 - 1 - q) = 0 := by
  apply Nat.eq_of_testBit_eq
  intro i
  rw [Nat.zero_testBit,Nat.testBit_and]
  cases hb:p.testBit i with
  | false=>rfl
  | true =>
    have hq:=hpq i hb
    have hi:i < 64:=by
      by_cases hi:i < 64
      · exact hi
      · have := Nat.testBit_lt_two_pow (x := p) (i := i) (Nat.lt_of_lt_of_le hp (Nat.pow_le_pow_right (by decide) (by omega)))
        rw [this] at hb
        cases hb
    rw [show 2 ^ 64 - 1 - q=2 ^ 64 - (q+1) from by omega]
    by_cases hq64:q < 2 ^ 64
    · rw [Nat.testBit_two_pow_sub_succ hq64]
      simp [hq]
    · rw [show 2 ^ 64 - (q + 1) = 0 from by omega, Nat.zero_testBit]
      rfl
theorem Lax.must {R X:Rst} (h:Lax R X) (hm16:R.m≤16) {p:Nat×Nat} (hp:R.must=some p):∃ q,X.must=some q∧q.1 &&& (2 ^ 64 - 1 - p.1)=0∧q.2 &&& (2 ^ 64 - 1 - p.2)=0:=by
  cases hq:X.must with
  | none =>
    have h0:=must_none.1 hq
    have h1:R.many≠0:=by rw [Ne,← must_none,hp];simp
    have h2:=h.cnt R.m zeroRid
    unfold Rst.many at h0 h1
    rw [h.m] at h0
    omega
  | some q =>
    have hl:=must_lt hq
    rw [h.m] at hl
    have hpw:=pow16 hm16
    have hcn:∀ x i:Nat,x=0∨x=1→(X.out x i).many=0→(R.out x i).many=0:=by
      intro x i hx h0
      rw [out_many] at h0 ⊢
      have:=(h.out hx i).cnt R.m zeroRid
      rw [h.m] at h0
      omega
    refine ⟨q,rfl,sub_zero (by omega) fun i hi=>?_,sub_zero (by omega) fun i hi=>?_⟩
    · exact (must_bit hp i).1.2 ⟨by have:=((must_bit hq i).1.1 hi).1;rw [h.m] at this;exact this,hcn 0 i (.inl rfl) ((must_bit hq i).1.1 hi).2⟩
    · exact (must_bit hp i).2.2 ⟨by have:=((must_bit hq i).2.1 hi).1;rw [h.m] at this;exact this,hcn 1 i (.inr rfl) ((must_bit hq i).2.1 hi).2⟩
end Go.Pv
namespace Go.Pv
open Go.Proofs Go.Am
set_option maxRecDepth 10000
theorem f11a (h a0 b0 c0 d0 a1 b1 c1 d1:Int) (x p:Nat) (hv:validR h a0 b0 c0 d0 a1 b1 c1 d1=false):Fn P0 11 [.agg [I h,I a0,I b0,I c0,I d0,I a1,I b1,I c1,I d1],.lit (.int .u8 (x:Int)),.lit (.int .u16 (p:Int))] (B true):=by
  have h33:=f33 h a0 b0 c0 d0 a1 b1 c1 d1
  rw [hv] at h33
  refine PFun.of (C:=c11) (cx_ok _ _ _) rfl (fn:=Tryz.f11) (by kernel_rfl) (c:=_) rfl rfl rfl ?_
  refine Run.seq (Run.region (cx_ok _ _ _) (Reg.op rfl (Ope.boxF rfl rfl ?_)))
  refine Reg.op rfl (Ope.asg rfl ?_)
  refine Reg.nil (Run.seq (Run.seq (Run.region (cx_ok _ _ _) (Reg.op rfl (Ope.load rfl rfl ?_)))))
  refine Reg.op rfl (Ope.cf rfl rfl (h33) rfl ?_)
  refine Reg.op rfl (Ope.not rfl ?_)
  refine Reg.nil (Run.condX rfl (fun hc=>?_) fun hc=>?_)
  ·refine Run.seq (Run.region (cx_ok _ _ _) (Reg.op rfl (Ope.clo rfl rfl awakeF ?_)))
   refine Reg.op rfl (Ope.asg rfl ?_)
   refine Reg.nil (Run.ret (Jmp.code (fin_ret (.tmp rfl .nil) rfl ?_)))
   rfl
  ·exact absurd hc (by decide)
structure MoreV (R X:Rst):Prop where
  ok:X.ok
  v:validR X.m X.o0 X.t0 X.r0 X.f0 X.o1 X.t1 X.r1 X.f1=true
  lax:Lax R X
theorem MoreV.of {R X:Rst} (hR:R.ok) (hv:validR R.m R.o0 R.t0 R.r0 R.f0 R.o1 R.t1 R.r1 R.f1=true) (hm:X.m=R.m) (h0:X.o0≤R.o0) (b0:∀ i,X.o0.testBit i=true→R.o0.testBit i=true) (h1:X.o1≤R.o1) (b1:∀ i,X.o1.testBit i=true→R.o1.testBit i=true)
    (hi:(R.t0≤X.t0∧X.t0≤16)∧(R.r0≤X.r0∧X.r0≤16)∧(0≤X.f0∧X.f0≤R.f0)∧(R.t1≤X.t1∧X.t1≤16)∧(R.r1≤X.r1∧X.r1≤16)∧(0≤X.f1∧X.f1≤R.f1)):MoreV R X:=by
  obtain ⟨i1,i2,i3,i4,i5,i6⟩:=hi
  obtain ⟨k0,k1,k2,k3,k4,k5,k6,k7,k8⟩:=hR
  obtain ⟨v1,v2,v3,_,_⟩:=valid_iff.1 hv
  refine ⟨⟨by omega,by omega,by omega,by omega,by omega,by omega,by omega,by omega,by omega⟩,valid_iff.2 ⟨by omega,by rw [hm];omega,by rw [hm];omega,?_,?_⟩,Lax.of hm b0 i1.1 i2.1 i3.2 b1 i4.1 i5.1 i6.2⟩
  · simp only [Bool.and_eq_true,manyOk_iff];omega
  · simp only [Bool.and_eq_true,manyOk_iff];omega
theorem and_bits {p q:Nat}:∀ i,(p &&& q).testBit i=true→p.testBit i=true:=by
  intro i h
  rw [Nat.testBit_and,Bool.and_eq_true] at h
  exact h.1
structure MoreT (R X:Rst):Prop where
  count:∃ n k:Nat,Fn P0 18 [.agg R.cells] (.tup [I n,I 0])∧Fn P0 18 [.agg X.cells] (.tup [I k,I 0])∧n≤k
  unt:∃ n k:Nat,Fn P0 20 [.agg R.cells] (.tup [I n,I 0])∧Fn P0 20 [.agg X.cells] (.tup [I k,I 0])∧n≤k
  rest:∃ (k l m n:Int) (a b c d:PV) (i j o p:Int),Fn P0 22 [.agg R.cells] (.tup [I k,a,I i])∧Fn P0 22 [.agg X.cells] (.tup [I l,b,I j])∧Fn P0 24 [.agg R.cells] (.tup [I m,c,I o])∧Fn P0 24 [.agg X.cells] (.tup [I n,d,I p])∧(i=0→j=0∧l≤k∧o=0∧p=0∧n≤m)
  must:∃ (s t u v:Nat) (q w:Int),Fn P0 29 [.agg R.cells] (.tup [I s,I t,I q])∧Fn P0 29 [.agg X.cells] (.tup [I u,I v,I w])∧(s < 65536∧t < 65536∧u < 65536∧v < 65536)∧(q=0→w=0∧u &&& (2 ^ 64 - 1 - s)=0∧v &&& (2 ^ 64 - 1 - t)=0)
theorem told22 (R:Rst) (hR:R.ok) (hv:validR R.m R.o0 R.t0 R.r0 R.f0 R.o1 R.t1 R.r1 R.f1=true):∃ (k:Int) (a:PV) (i:Int),Fn P0 22 [.agg R.cells] (.tup [I k,a,I i]):=by
  cases h:R.best askF with
  | none=>exact ⟨_,_,_,f22b R hR hv h⟩
  | some w=>exact ⟨_,_,_,f22c R hR hv w h⟩
theorem told24 (R:Rst) (hR:R.ok) (hv:validR R.m R.o0 R.t0 R.r0 R.f0 R.o1 R.t1 R.r1 R.f1=true):∃ (k:Int) (a:PV) (i:Int),Fn P0 24 [.agg R.cells] (.tup [I k,a,I i]):=by
  cases h:R.best askE with
  | none=>exact ⟨_,_,_,f24b R hR hv h⟩
  | some w=>exact ⟨_,_,_,f24c R hR hv w h⟩
theorem told29 (R:Rst) (hR:R.ok) (hv:validR R.m R.o0 R.t0 R.r0 R.f0 R.o1 R.t1 R.r1 R.f1=true):∃ (s t:Nat) (q:Int),Fn P0 29 [.agg R.cells] (.tup [I s,I t,I q])∧s < 65536∧t < 65536:=by
  have hpw:=pow16 hR.1
  cases h:R.must with
  | none=>exact ⟨0,0,4,f29b' R hR hv h,by decide,by decide⟩
  | some w =>
    have:=must_lt h
    exact ⟨w.1,w.2,0,f29c' R hR hv w h,by omega,by omega⟩
theorem MoreT.of {R X : Rst} (hR : R.ok) (hv : validR R.m R.o0 R.t0 R.r0 R.f0 R.o1 R.t1 R.r1 R.f1 = true) (hX : MoreV R X) : MoreT R X := by
  refine ⟨⟨_,_,f18b R hR hv,f18b X hX.ok hX.v,?_⟩,⟨_,_,f20b R hR hv,f20b X hX.ok hX.v,hX.lax.until⟩,?_,?_⟩
  · have := hX.lax.cnt R.m zeroRid
    unfold Rst.many
    rw [hX.lax.m]
    exact this
  · obtain ⟨l, b, j, hXF⟩ := told22 X hX.ok hX.v
    obtain ⟨n,d,p,hXE⟩:=told24 X hX.ok hX.v
    cases hF:R.best askF with
    | none =>
      obtain ⟨m,c,o,hRE⟩:=told24 R hR hv
      exact ⟨_,_,_,_,_,_,_,_,_,_,_,_,f22b R hR hv hF,hXF,hRE,hXE,fun e=>absurd e (by decide)⟩
    | some w =>
      have hz:cnt R R.m zeroRid≠0:=fun h0=>by
        have:=(fewA_none askF R R.m zeroRid).2 h0
        have hF':few askF R R.m zeroRid=some w:=hF
        rw [this] at hF'
        cases hF'
      cases hE:R.best askE with
      | none=>exact absurd ((fewA_none askE R R.m zeroRid).1 hE) hz
      | some w' =>
        obtain ⟨v,hv1,hv2⟩:=hX.lax.best cstF hF
        obtain ⟨v',hv1',hv2'⟩:=hX.lax.best cstE hE
        exact ⟨_,_,_,_,_,_,_,_,_,_,_,_,f22c R hR hv w hF,f22c X hX.ok hX.v v hv1,f24c R hR hv w' hE,f24c X hX.ok hX.v v' hv1',fun _=>⟨rfl,hv2,rfl,rfl,hv2'⟩⟩
  · cases hM : R.must with
    | none =>
      obtain ⟨u,v,w,h1,h2,h3⟩:=told29 X hX.ok hX.v
      exact ⟨0,0,u,v,4,w,f29b' R hR hv hM,h1,⟨by decide,by decide,h2,h3⟩,fun e=>absurd e (by decide)⟩
    | some p =>
      obtain ⟨q,hq,h1,h2⟩:=hX.lax.must hR.1 hM
      have hpw:=pow16 hR.1
      have hl:=must_lt hM
      have hl':=must_lt hq
      rw [hX.lax.m] at hl'
      exact ⟨p.1,p.2,q.1,q.2,0,0,f29c' R hR hv p hM,f29c' X hX.ok hX.v q hq,⟨by omega,by omega,by omega,by omega⟩,fun _=>⟨rfl,h1,h2⟩⟩
set_option maxHeartbeats 4000000 in
theorem f11v (R : Rst) (hR : R.ok) (hv : validR R.m R.o0 R.t0 R.r0 R.f0 R.o1 R.t1 R.r1 R.f1 = true) (x p : Nat) (hx256 : x < 256) (hp : p < 65536) (L : List Int) (hLe : L = byL R.m p) (hx : ∀ x ∈ L, x = 0 ∨ x = 1) (hlen : L.length = R.m) :
    Fn P0 11 [.agg R.cells,.lit (.int .u8 (x:Int)),.lit (.int .u16 (p:Int))] (B true):=by
  have h33:=f33 R.m R.o0 R.t0 R.r0 R.f0 R.o1 R.t1 R.r1 R.f1
  rw [hv] at h33
  have hm16:=hR.1
  have h34:=f34 R.m p hm16 hp
  rw [← hLe] at h34
  have h36R:=f36 R hv .no rfl L hx hlen
  have hbR:PV.bds 0 [.agg R.cells,.sl .no (L.map I)]=true:=by
    simp only [PV.bds,bd_sl (f:=I) (tl:=.no) rfl (fun _=>rfl) L,Bool.and_true]
    rfl
  have hh:x / 2 / 4 % (R.m+1)≤16:=by
    have:x / 2 / 4 % (R.m+1) < R.m+1:=Nat.mod_lt _ (by omega)
    omega
  have hpw:1 * 2 ^ (x / 2 / 4 % (R.m+1)) < 2 ^ 62:=by rw [Nat.one_mul];exact Nat.pow_lt_pow_right (by decide) (by omega)
  obtain ⟨-,ho0,ho1,ht0,hr0,hf0,ht1,hr1,hf1⟩:=hR
  have hR:R.ok:=⟨hm16,ho0,ho1,ht0,hr0,hf0,ht1,hr1,hf1⟩
  rcases (by rw [Nat.and_one_is_mod];omega:x &&& 1=0∨x &&& 1=1) with hu | hu
  all_goals
    refine PFun.of (C:=c11) (cx_ok _ _ _) rfl (fn:=Tryz.f11) (by kernel_rfl) (c:=_) rfl rfl rfl ?_
    refine Run.seq (Run.region (cx_ok _ _ _) (Reg.op rfl (Ope.boxF rfl rfl ?_)))
    refine Reg.op rfl (Ope.asg rfl ?_)
    refine Reg.nil (Run.seq (Run.seq (Run.region (cx_ok _ _ _) (Reg.op rfl (Ope.load rfl rfl ?_)))))
    refine Reg.op rfl (Ope.cf rfl rfl (h33) rfl ?_)
    refine Reg.op rfl (Ope.not rfl ?_)
    refine Reg.nil (Run.condX rfl (fun hc=>?_) fun hc=>?_)
    ·exact absurd hc (by decide)
    ·refine Run.skip (Run.seq (Run.region (cx_ok _ _ _) (Reg.op rfl (Ope.load rfl rfl ?_))))
     refine Reg.op rfl (Ope.newL rfl ?_)
     refine Reg.op0 (Ope.store rfl rfl hget_hd rfl rfl rfl ?_)
     refine Reg.nil (Run.seq (Run.region (cx_ok _ _ _) (Reg.op rfl (Ope.mov rfl ?_))))
     refine Reg.op rfl (Ope.andN (p:=x) (q:=1) rfl rfl rfl rfl (by show _ < 2 ^ 8;omega) (by decide) ?_)
     rw [hu]
     refine Reg.op rfl (Ope.fld rfl rfl ?_)
     refine Reg.op rfl (Ope.idxA rfl rfl rfl rfl ?_)
     refine Reg.op rfl (Ope.asg rfl ?_)
     refine Reg.nil (Run.seq (Run.seq (Run.region (cx_ok _ _ _) (Reg.op rfl (Ope.mov rfl ?_)))))
     refine Reg.op rfl (Ope.convN (p:=x) rfl rfl (by show _ < 2 ^ 63;omega) ?_)
     refine Reg.op rfl (Ope.quoN (p:=x) (q:=2) rfl rfl rfl rfl (by decide) (by show _ < 2 ^ 63;omega) ?_)
     refine Reg.op rfl (Ope.asg rfl ?_)
     refine Reg.nil (Run.seq (Run.region (cx_ok _ _ _) (Reg.op rfl (Ope.mov rfl ?_))))
     refine Reg.op rfl (Ope.remN (p:=x / 2) (q:=4) rfl rfl rfl rfl (by decide) ?_)
     refine Reg.nil (Run.cut (fun e ds h=>ds=[]∧Lsub [(2,.lit (.int .u16 (p:Int))),(3,.fp (.agg R.cells)),(6,B false),(7,.ptr 0 0)] e∧∃ X l,MoreV R X∧h=HE 1 l∧hget l 0=some (.cells X.cells)) ?_ ?_)
     ·refine Run.block (Run.seq (Run.region (cx_ok _ _ _) (Reg.op rfl (Ope.eq rfl rfl ?_))))
      refine Reg.op rfl (Ope.asg rfl ?_)
      refine Reg.nil (Run.condX rfl (fun hc=>?_) fun hc=>?_)
      ·refine Run.draw (cx_ok _ _ _) [(0,true),(1,true),(2,true),(3,true),(4,true),(5,true),(6,true),(7,true),(8,true),(9,true),(10,true),(11,true),(12,true),(13,true),(14,true)] (by kernel_rfl) (Dra.op' rfl rfl rfl .sure (Ope.mov rfl ?_))
       refine Dra.op' rfl rfl rfl .sure (Ope.nilc rfl rfl ?_)
       refine Dra.op' rfl rfl rfl .sure (Ope.fld rfl rfl ?_)
       refine Dra.op' rfl rfl rfl .sure (Ope.load rfl rfl ?_)
       refine Dra.op' rfl rfl rfl .sure (Ope.mov rfl ?_)
       refine Dra.op' rfl rfl rfl .sure (Ope.quoN (p:=x / 2) (q:=4) rfl rfl rfl rfl (by decide) (by show _ < 2 ^ 63;omega) ?_)
       refine Dra.op' rfl rfl rfl .sure (Ope.fld rfl rfl ?_)
       refine Dra.op' rfl rfl rfl .sure (Ope.load rfl rfl ?_)
       refine Dra.op' rfl rfl rfl .sure (Ope.add rfl rfl (by omega) ?_)
       refine Dra.op' rfl rfl rfl .sure (Ope.remN (p:=x / 2 / 4) (q:=R.m+1) rfl rfl rfl rfl (by omega) ?_)
       refine Dra.op' rfl rfl rfl .sure (Ope.shlN (p:=1) (m:=x / 2 / 4 % (R.m+1)) rfl rfl rfl rfl (by omega) (by omega) ?_)
       refine Dra.op' rfl rfl rfl .sure (Ope.andNotN (q:=1 * 2 ^ (x / 2 / 4 % (R.m+1))) rfl rfl rfl rfl (by show _ < 2 ^ 63;omega) (by show _ < 2 ^ 63;omega) ?_)
       refine Dra.op' rfl rfl rfl .sure (Ope.nilc rfl rfl ?_)
       refine Dra.op' rfl rfl rfl .sure (Ope.fld rfl rfl ?_)
       refine Dra.op' rfl rfl rfl .sure (Ope.store rfl rfl rfl rfl rfl rfl ?_)
       refine Dra.nil (Run.bend ?_)
       first
         | exact Run.lend ⟨rfl,⟨rfl,rfl,rfl,rfl,trivial⟩,{ R with o0:=R.o0 &&& (2 ^ 64 - 1 - 1 * 2 ^ (x / 2 / 4 % (R.m+1))) },_,MoreV.of hR hv rfl Nat.and_le_left and_bits (Nat.le_refl _) (fun _ h=>h) (by dsimp only;omega),rfl,rfl⟩
         | exact Run.lend ⟨rfl,⟨rfl,rfl,rfl,rfl,trivial⟩,{ R with o1:=R.o1 &&& (2 ^ 64 - 1 - 1 * 2 ^ (x / 2 / 4 % (R.m+1))) },_,MoreV.of hR hv rfl (Nat.le_refl _) (fun _ h=>h) Nat.and_le_left and_bits (by dsimp only;omega),rfl,rfl⟩
      ·refine Run.seq (Run.region (cx_ok _ _ _) (Reg.op rfl (Ope.eq rfl rfl ?_)))
       refine Reg.op rfl (Ope.asg rfl ?_)
       refine Reg.nil (Run.condX rfl (fun hc=>?_) fun hc=>?_)
       ·refine Run.region (cx_ok _ _ _) (Reg.op rfl (Ope.mov rfl ?_))
        refine Reg.op rfl (Ope.mov rfl ?_)
        refine Reg.op rfl (Ope.nilc rfl rfl ?_)
        refine Reg.op rfl (Ope.fld rfl rfl ?_)
        refine Reg.op rfl (Ope.load rfl rfl ?_)
        refine Reg.op rfl (Ope.add rfl rfl (by omega) ?_)
        refine Reg.op rfl (Ope.minI rfl rfl ?_)
        refine Reg.op rfl (Ope.nilc rfl rfl ?_)
        refine Reg.op rfl (Ope.fld rfl rfl ?_)
        refine Reg.op0 (Ope.store rfl rfl rfl rfl rfl rfl ?_)
        refine Reg.nil (Run.bend ?_)
        first
          | exact Run.lend ⟨rfl,⟨rfl,rfl,rfl,rfl,trivial⟩,{ R with t0:=min 16 (R.t0+1) },_,MoreV.of hR hv rfl (Nat.le_refl _) (fun _ h=>h) (Nat.le_refl _) (fun _ h=>h) (by dsimp only;omega),rfl,rfl⟩
          | exact Run.lend ⟨rfl,⟨rfl,rfl,rfl,rfl,trivial⟩,{ R with t1:=min 16 (R.t1+1) },_,MoreV.of hR hv rfl (Nat.le_refl _) (fun _ h=>h) (Nat.le_refl _) (fun _ h=>h) (by dsimp only;omega),rfl,rfl⟩
       ·refine Run.seq (Run.region (cx_ok _ _ _) (Reg.op rfl (Ope.eq rfl rfl ?_)))
        refine Reg.op rfl (Ope.asg rfl ?_)
        refine Reg.nil (Run.condX rfl (fun hc=>?_) fun hc=>?_)
        ·refine Run.region (cx_ok _ _ _) (Reg.op rfl (Ope.mov rfl ?_))
         refine Reg.op rfl (Ope.mov rfl ?_)
         refine Reg.op rfl (Ope.nilc rfl rfl ?_)
         refine Reg.op rfl (Ope.fld rfl rfl ?_)
         refine Reg.op rfl (Ope.load rfl rfl ?_)
         refine Reg.op rfl (Ope.add rfl rfl (by omega) ?_)
         refine Reg.op rfl (Ope.minI rfl rfl ?_)
         refine Reg.op rfl (Ope.nilc rfl rfl ?_)
         refine Reg.op rfl (Ope.fld rfl rfl ?_)
         refine Reg.op0 (Ope.store rfl rfl rfl rfl rfl rfl ?_)
         refine Reg.nil (Run.bend ?_)
         first
           | exact Run.lend ⟨rfl,⟨rfl,rfl,rfl,rfl,trivial⟩,{ R with r0:=min 16 (R.r0+1) },_,MoreV.of hR hv rfl (Nat.le_refl _) (fun _ h=>h) (Nat.le_refl _) (fun _ h=>h) (by dsimp only;omega),rfl,rfl⟩
           | exact Run.lend ⟨rfl,⟨rfl,rfl,rfl,rfl,trivial⟩,{ R with r1:=min 16 (R.r1+1) },_,MoreV.of hR hv rfl (Nat.le_refl _) (fun _ h=>h) (Nat.le_refl _) (fun _ h=>h) (by dsimp only;omega),rfl,rfl⟩
        ·refine Run.region (cx_ok _ _ _) (Reg.op rfl (Ope.mov rfl ?_))
         refine Reg.op rfl (Ope.mov rfl ?_)
         refine Reg.op rfl (Ope.nilc rfl rfl ?_)
         refine Reg.op rfl (Ope.fld rfl rfl ?_)
         refine Reg.op rfl (Ope.load rfl rfl ?_)
         refine Reg.op rfl (Ope.sub rfl rfl (by omega) ?_)
         refine Reg.op rfl (Ope.maxI rfl rfl ?_)
         refine Reg.op rfl (Ope.nilc rfl rfl ?_)
         refine Reg.op rfl (Ope.fld rfl rfl ?_)
         refine Reg.op0 (Ope.store rfl rfl rfl rfl rfl rfl ?_)
         refine Reg.nil (Run.bend ?_)
         first
           | exact Run.lend ⟨rfl,⟨rfl,rfl,rfl,rfl,trivial⟩,{ R with f0:=max 0 (R.f0 - 1) },_,MoreV.of hR hv rfl (Nat.le_refl _) (fun _ h=>h) (Nat.le_refl _) (fun _ h=>h) (by dsimp only;omega),rfl,rfl⟩
           | exact Run.lend ⟨rfl,⟨rfl,rfl,rfl,rfl,trivial⟩,{ R with f1:=max 0 (R.f1 - 1) },_,MoreV.of hR hv rfl (Nat.le_refl _) (fun _ h=>h) (Nat.le_refl _) (fun _ h=>h) (by dsimp only;omega),rfl,rfl⟩
     ·rintro e ds h ⟨rfl, hs, X, l, hX, rfl, hg0⟩
      refine Run.less hs ?_
      refine Run.seq (Run.seq (Run.wide (l':=[(0,some (.cells X.cells))]) (Nat.le_refl _) ⟨hg0,trivial⟩ ?_))
      have h36X:=f36 X hX.v .no rfl L hx (hlen.trans hX.lax.m.symm)
      have hbX:PV.bds 0 [.agg X.cells,.sl .no (L.map I)]=true:=by
        simp only [PV.bds,bd_sl (f:=I) (tl:=.no) rfl (fun _=>rfl) L,Bool.and_true]
        rfl
      have hlax:=hX.lax.rt L zeroRid hx
      obtain ⟨⟨n1,k1,c1,c2,c3⟩,⟨n2,k2,u1,u2,u3⟩,⟨k,l,m,n,va,vb,vc,vd,i,j,o,pp,r1,r2,r3,r4,r5⟩,s,t,u,v,q,w,m1,m2,⟨m3,m4,m5,m6⟩,m7⟩:=MoreT.of hR hv hX
      have m7:q=0→w=0∧(u &&& (2 ^ 64 - 1 - s)=0∧v &&& (2 ^ 64 - 1 - t)=0):=m7
      refine Run.region (cx_ok _ _ _) (Reg.op rfl (Ope.fld rfl rfl ?_))
      refine Reg.op rfl (Ope.load rfl rfl ?_)
      refine Reg.op rfl (Ope.mov rfl ?_)
      refine Reg.op rfl (Ope.cf rfl rfl (h34) rfl ?_)
      refine Reg.op rfl (Ope.asg rfl ?_)
      refine Reg.nil (Run.seq (Run.region (cx_ok _ _ _) (Reg.op rfl (Ope.load rfl rfl ?_))))
      refine Reg.op rfl (Ope.mov rfl ?_)
      refine Reg.op rfl (Ope.cf rfl rfl h36R hbR ?_)
      refine Reg.op rfl (Ope.mov rfl ?_)
      refine Reg.splitX rfl rfl (fun hg=>?_) fun hg=>?_
      ·refine Reg.on rfl rfl rfl (Ope.load rfl rfl ?_)
       refine Reg.on rfl rfl rfl (Ope.mov rfl ?_)
       refine Reg.on rfl rfl rfl (Ope.cf rfl rfl h36X hbX ?_)
       refine Reg.on rfl rfl rfl (Ope.not rfl ?_)
       refine Reg.op rfl (Ope.pickT rfl rfl ?_)
       refine Reg.nil (Run.condX rfl (fun hc=>?_) fun hc=>?_)
       ·((exfalso;(exact absurd (hlax hg) (by rw [hc];decide))))
       ·refine Run.skip (Run.seq (Run.region (cx_ok _ _ _) (Reg.op rfl (Ope.load rfl rfl ?_))))
        refine Reg.op rfl (Ope.cf rfl rfl (c1) rfl ?_)
        refine Reg.op rfl (Ope.mov rfl ?_)
        refine Reg.op rfl (Ope.ext rfl rfl ?_)
        refine Reg.op rfl (Ope.ext rfl rfl ?_)
        refine Reg.op rfl (Ope.asg rfl ?_)
        refine Reg.op rfl (Ope.asg rfl ?_)
        refine Reg.nil (Run.seq (Run.region (cx_ok _ _ _) (Reg.op rfl (Ope.load rfl rfl ?_))))
        refine Reg.op rfl (Ope.cf rfl rfl (c2) rfl ?_)
        refine Reg.op rfl (Ope.mov rfl ?_)
        refine Reg.op rfl (Ope.ext rfl rfl ?_)
        refine Reg.op rfl (Ope.ext rfl rfl ?_)
        refine Reg.op rfl (Ope.asg rfl ?_)
        refine Reg.op rfl (Ope.asg rfl ?_)
        refine Reg.nil (Run.seq (Run.region (cx_ok _ _ _) (Reg.op rfl (Ope.load rfl rfl ?_))))
        refine Reg.op rfl (Ope.cf rfl rfl (u1) rfl ?_)
        refine Reg.op rfl (Ope.mov rfl ?_)
        refine Reg.op rfl (Ope.ext rfl rfl ?_)
        refine Reg.op rfl (Ope.ext rfl rfl ?_)
        refine Reg.op rfl (Ope.asg rfl ?_)
        refine Reg.op rfl (Ope.asg rfl ?_)
        refine Reg.nil (Run.seq (Run.region (cx_ok _ _ _) (Reg.op rfl (Ope.load rfl rfl ?_))))
        refine Reg.op rfl (Ope.cf rfl rfl (u2) rfl ?_)
        refine Reg.op rfl (Ope.mov rfl ?_)
        refine Reg.op rfl (Ope.ext rfl rfl ?_)
        refine Reg.op rfl (Ope.ext rfl rfl ?_)
        refine Reg.op rfl (Ope.asg rfl ?_)
        refine Reg.op rfl (Ope.asg rfl ?_)
        refine Reg.nil (Run.seq (Run.seq (Run.region (cx_ok _ _ _) (Reg.op rfl (Ope.mov rfl ?_)))))
        refine Reg.op rfl (Ope.ne rfl rfl ?_)
        refine Reg.op rfl (Ope.mov rfl ?_)
        refine Reg.splitX rfl rfl (fun hg=>?_) fun hg=>?_
        ·((exfalso;omega))
        ·refine Reg.on rfl rfl rfl (Ope.mov rfl ?_)
         refine Reg.on rfl rfl rfl (Ope.ne rfl rfl ?_)
         refine Reg.op rfl (Ope.pickF rfl rfl ?_)
         refine Reg.op rfl (Ope.mov rfl ?_)
         refine Reg.splitX rfl rfl (fun hg=>?_) fun hg=>?_
         ·((exfalso;omega))
         ·refine Reg.on rfl rfl rfl (Ope.mov rfl ?_)
          refine Reg.on rfl rfl rfl (Ope.mov rfl ?_)
          refine Reg.on rfl rfl rfl (Ope.lt rfl rfl ?_)
          refine Reg.op rfl (Ope.pickF rfl rfl ?_)
          refine Reg.op rfl (Ope.mov rfl ?_)
          refine Reg.splitX rfl rfl (fun hg=>?_) fun hg=>?_
          ·((exfalso;omega))
          ·refine Reg.on rfl rfl rfl (Ope.mov rfl ?_)
           refine Reg.on rfl rfl rfl (Ope.ne rfl rfl ?_)
           refine Reg.op rfl (Ope.pickF rfl rfl ?_)
           refine Reg.op rfl (Ope.mov rfl ?_)
           refine Reg.splitX rfl rfl (fun hg=>?_) fun hg=>?_
           ·((exfalso;omega))
           ·refine Reg.on rfl rfl rfl (Ope.mov rfl ?_)
            refine Reg.on rfl rfl rfl (Ope.ne rfl rfl ?_)
            refine Reg.op rfl (Ope.pickF rfl rfl ?_)
            refine Reg.op rfl (Ope.mov rfl ?_)
            refine Reg.splitX rfl rfl (fun hg=>?_) fun hg=>?_
            ·((exfalso;omega))
            ·refine Reg.on rfl rfl rfl (Ope.mov rfl ?_)
             refine Reg.on rfl rfl rfl (Ope.mov rfl ?_)
             refine Reg.on rfl rfl rfl (Ope.lt rfl rfl ?_)
             refine Reg.op rfl (Ope.pickF rfl rfl ?_)
             refine Reg.nil (Run.condX rfl (fun hc=>?_) fun hc=>?_)
             ·((exfalso;omega))
             ·refine Run.skip (Run.seq (Run.region (cx_ok _ _ _) (Reg.op rfl (Ope.load rfl rfl ?_))))
              refine Reg.op rfl (Ope.cf rfl rfl (r1) rfl ?_)
              refine Reg.op rfl (Ope.mov rfl ?_)
              refine Reg.op rfl (Ope.ext rfl rfl ?_)
              refine Reg.op rfl (Ope.ext rfl rfl ?_)
              refine Reg.op rfl (Ope.ext rfl rfl ?_)
              refine Reg.op rfl (Ope.asg rfl ?_)
              refine Reg.op rfl (Ope.asg rfl ?_)
              refine Reg.op rfl (Ope.asg rfl ?_)
              refine Reg.nil (Run.seq (Run.region (cx_ok _ _ _) (Reg.op rfl (Ope.load rfl rfl ?_))))
              refine Reg.op rfl (Ope.cf rfl rfl (r2) rfl ?_)
              refine Reg.op rfl (Ope.mov rfl ?_)
              refine Reg.op rfl (Ope.ext rfl rfl ?_)
              refine Reg.op rfl (Ope.ext rfl rfl ?_)
              refine Reg.op rfl (Ope.ext rfl rfl ?_)
              refine Reg.op rfl (Ope.asg rfl ?_)
              refine Reg.op rfl (Ope.asg rfl ?_)
              refine Reg.op rfl (Ope.asg rfl ?_)
              refine Reg.nil (Run.seq (Run.region (cx_ok _ _ _) (Reg.op rfl (Ope.load rfl rfl ?_))))
              refine Reg.op rfl (Ope.cf rfl rfl (r3) rfl ?_)
              refine Reg.op rfl (Ope.mov rfl ?_)
              refine Reg.op rfl (Ope.ext rfl rfl ?_)
              refine Reg.op rfl (Ope.ext rfl rfl ?_)
              refine Reg.op rfl (Ope.ext rfl rfl ?_)
              refine Reg.op rfl (Ope.asg rfl ?_)
              refine Reg.op rfl (Ope.asg rfl ?_)
              refine Reg.op rfl (Ope.asg rfl ?_)
              refine Reg.nil (Run.seq (Run.region (cx_ok _ _ _) (Reg.op rfl (Ope.load rfl rfl ?_))))
              refine Reg.op rfl (Ope.cf rfl rfl (r4) rfl ?_)
              refine Reg.op rfl (Ope.mov rfl ?_)
              refine Reg.op rfl (Ope.ext rfl rfl ?_)
              refine Reg.op rfl (Ope.ext rfl rfl ?_)
              refine Reg.op rfl (Ope.ext rfl rfl ?_)
              refine Reg.op rfl (Ope.asg rfl ?_)
              refine Reg.op rfl (Ope.asg rfl ?_)
              refine Reg.op rfl (Ope.asg rfl ?_)
              refine Reg.nil (Run.seq (Run.seq (Run.region (cx_ok _ _ _) (Reg.op rfl (Ope.mov rfl ?_)))))
              refine Reg.op rfl (Ope.eq rfl rfl ?_)
              refine Reg.op rfl (Ope.mov rfl ?_)
              refine Reg.splitX rfl rfl (fun hg=>?_) fun hg=>?_
              ·refine Reg.on rfl rfl rfl (Ope.mov rfl ?_)
               refine Reg.on rfl rfl rfl (Ope.ne rfl rfl ?_)
               refine Reg.on rfl rfl rfl (Ope.mov rfl ?_)
               refine Reg.splitX rfl rfl (fun hg=>?_) fun hg=>?_
               ·((exfalso;omega))
               ·refine Reg.on rfl rfl rfl (Ope.mov rfl ?_)
                refine Reg.on rfl rfl rfl (Ope.mov rfl ?_)
                refine Reg.on rfl rfl rfl (Ope.gt rfl rfl ?_)
                refine Reg.on rfl rfl rfl (Ope.pickF rfl rfl ?_)
                refine Reg.on rfl rfl rfl (Ope.mov rfl ?_)
                refine Reg.splitX rfl rfl (fun hg=>?_) fun hg=>?_
                ·((exfalso;omega))
                ·refine Reg.on rfl rfl rfl (Ope.mov rfl ?_)
                 refine Reg.on rfl rfl rfl (Ope.ne rfl rfl ?_)
                 refine Reg.on rfl rfl rfl (Ope.pickF rfl rfl ?_)
                 refine Reg.on rfl rfl rfl (Ope.mov rfl ?_)
                 refine Reg.splitX rfl rfl (fun hg=>?_) fun hg=>?_
                 ·((exfalso;omega))
                 ·refine Reg.on rfl rfl rfl (Ope.mov rfl ?_)
                  refine Reg.on rfl rfl rfl (Ope.ne rfl rfl ?_)
                  refine Reg.on rfl rfl rfl (Ope.pickF rfl rfl ?_)
                  refine Reg.on rfl rfl rfl (Ope.mov rfl ?_)
                  refine Reg.splitX rfl rfl (fun hg=>?_) fun hg=>?_
                  ·((exfalso;omega))
                  ·refine Reg.on rfl rfl rfl (Ope.mov rfl ?_)
                   refine Reg.on rfl rfl rfl (Ope.mov rfl ?_)
                   refine Reg.on rfl rfl rfl (Ope.gt rfl rfl ?_)
                   refine Reg.on rfl rfl rfl (Ope.pickF rfl rfl ?_)
                   refine Reg.op rfl (Ope.pickT rfl rfl ?_)
                   refine Reg.nil (Run.condX rfl (fun hc=>?_) fun hc=>?_)
                   ·((exfalso;omega))
                   ·refine Run.skip (Run.seq (Run.region (cx_ok _ _ _) (Reg.op rfl (Ope.load rfl rfl ?_))))
                    refine Reg.op rfl (Ope.cf rfl rfl (m1) rfl ?_)
                    refine Reg.op rfl (Ope.mov rfl ?_)
                    refine Reg.op rfl (Ope.ext rfl rfl ?_)
                    refine Reg.op rfl (Ope.ext rfl rfl ?_)
                    refine Reg.op rfl (Ope.ext rfl rfl ?_)
                    refine Reg.op rfl (Ope.asg rfl ?_)
                    refine Reg.op rfl (Ope.asg rfl ?_)
                    refine Reg.op rfl (Ope.asg rfl ?_)
                    refine Reg.nil (Run.seq (Run.region (cx_ok _ _ _) (Reg.op rfl (Ope.load rfl rfl ?_))))
                    refine Reg.op rfl (Ope.cf rfl rfl (m2) rfl ?_)
                    refine Reg.op rfl (Ope.mov rfl ?_)
                    refine Reg.op rfl (Ope.ext rfl rfl ?_)
                    refine Reg.op rfl (Ope.ext rfl rfl ?_)
                    refine Reg.op rfl (Ope.ext rfl rfl ?_)
                    refine Reg.op rfl (Ope.asg rfl ?_)
                    refine Reg.op rfl (Ope.asg rfl ?_)
                    refine Reg.op rfl (Ope.asg rfl ?_)
                    refine Reg.nil (Run.seq (Run.region (cx_ok _ _ _) (Reg.op rfl (Ope.mov rfl ?_))))
                    refine Reg.op rfl (Ope.ne rfl rfl ?_)
                    refine Reg.op rfl (Ope.mov rfl ?_)
                    refine Reg.splitX rfl rfl (fun hg=>?_) fun hg=>?_
                    ·refine Reg.off rfl rfl rfl (Reg.off rfl rfl rfl (Reg.off rfl rfl rfl (Reg.past rfl rfl rfl (Reg.past rfl rfl rfl (Reg.past rfl rfl rfl (Reg.past rfl rfl rfl (Reg.off rfl rfl rfl (Reg.off rfl rfl rfl (Reg.past rfl rfl rfl (Reg.past rfl rfl rfl (Reg.past rfl rfl rfl (Reg.past rfl rfl rfl (Reg.off rfl rfl rfl (Reg.op rfl (Ope.pickT rfl rfl ?_)))))))))))))))
                     refine Reg.op rfl (Ope.mov rfl ?_)
                     refine Reg.on rfl rfl rfl (Ope.clo rfl rfl awakeF ?_)
                     refine Reg.op rfl (Ope.pickT rfl rfl ?_)
                     refine Reg.op rfl (Ope.asg rfl ?_)
                     refine Reg.nil (Run.ret (fin_ret (.tmp rfl .nil) rfl ?_))
                     rfl
                    ·refine Reg.on rfl rfl rfl (Ope.mov rfl ?_)
                     refine Reg.on rfl rfl rfl (Ope.eq rfl rfl ?_)
                     refine Reg.on rfl rfl rfl (Ope.mov rfl ?_)
                     refine Reg.splitX rfl rfl (fun hg=>?_) fun hg=>?_
                     ·refine Reg.on rfl rfl rfl (Ope.mov rfl ?_)
                      refine Reg.on rfl rfl rfl (Ope.mov rfl ?_)
                      refine Reg.on rfl rfl rfl (Ope.andNotN (q:=s) rfl rfl rfl rfl (by show _ < 2 ^ 63;omega) (by show _ < 2 ^ 63;omega) ?_)
                      refine Reg.on rfl rfl rfl (Ope.eq rfl rfl ?_)
                      refine Reg.on rfl rfl rfl (Ope.pickT rfl rfl ?_)
                      refine Reg.on rfl rfl rfl (Ope.mov rfl ?_)
                      refine Reg.splitX rfl rfl (fun hg=>?_) fun hg=>?_
                      ·refine Reg.on rfl rfl rfl (Ope.mov rfl ?_)
                       refine Reg.on rfl rfl rfl (Ope.mov rfl ?_)
                       refine Reg.on rfl rfl rfl (Ope.andNotN (q:=t) rfl rfl rfl rfl (by show _ < 2 ^ 63;omega) (by show _ < 2 ^ 63;omega) ?_)
                       refine Reg.on rfl rfl rfl (Ope.eq rfl rfl ?_)
                       refine Reg.on rfl rfl rfl (Ope.pickT rfl rfl ?_)
                       refine Reg.op rfl (Ope.pickF rfl rfl ?_)
                       refine Reg.op rfl (Ope.mov rfl ?_)
                       refine Reg.splitX rfl rfl (fun hg=>?_) fun hg=>?_
                       ·refine Reg.on rfl rfl rfl (Ope.clo rfl rfl awakeF ?_)
                        refine Reg.op rfl (Ope.pickT rfl rfl ?_)
                        refine Reg.op rfl (Ope.asg rfl ?_)
                        refine Reg.nil (Run.ret (fin_ret (.tmp rfl .nil) rfl ?_))
                        rfl
                       ·((exfalso;(exact hg (congrArg Int.ofNat (m7 (by omega)).2.2))))
                      ·((exfalso;(exact hg (congrArg Int.ofNat (m7 (by omega)).2.1))))
                     ·((exfalso;omega))
              ·refine Reg.off rfl rfl rfl (Reg.off rfl rfl rfl (Reg.off rfl rfl rfl (Reg.past rfl rfl rfl (Reg.past rfl rfl rfl (Reg.past rfl rfl rfl (Reg.off rfl rfl rfl (Reg.off rfl rfl rfl (Reg.past rfl rfl rfl (Reg.past rfl rfl rfl (Reg.off rfl rfl rfl (Reg.off rfl rfl rfl (Reg.past rfl rfl rfl (Reg.past rfl rfl rfl (Reg.off rfl rfl rfl (Reg.off rfl rfl rfl (Reg.past rfl rfl rfl (Reg.past rfl rfl rfl (Reg.past rfl rfl rfl (Reg.off rfl rfl rfl (Reg.op rfl (Ope.pickF rfl rfl ?_)))))))))))))))))))))
               refine Reg.nil (Run.condF rfl (Run.skip (Run.seq (Run.region (cx_ok _ _ _) (Reg.op rfl (Ope.load rfl rfl ?_))))))
               refine Reg.op rfl (Ope.cf rfl rfl (m1) rfl ?_)
               refine Reg.op rfl (Ope.mov rfl ?_)
               refine Reg.op rfl (Ope.ext rfl rfl ?_)
               refine Reg.op rfl (Ope.ext rfl rfl ?_)
               refine Reg.op rfl (Ope.ext rfl rfl ?_)
               refine Reg.op rfl (Ope.asg rfl ?_)
               refine Reg.op rfl (Ope.asg rfl ?_)
               refine Reg.op rfl (Ope.asg rfl ?_)
               refine Reg.nil (Run.seq (Run.region (cx_ok _ _ _) (Reg.op rfl (Ope.load rfl rfl ?_))))
               refine Reg.op rfl (Ope.cf rfl rfl (m2) rfl ?_)
               refine Reg.op rfl (Ope.mov rfl ?_)
               refine Reg.op rfl (Ope.ext rfl rfl ?_)
               refine Reg.op rfl (Ope.ext rfl rfl ?_)
               refine Reg.op rfl (Ope.ext rfl rfl ?_)
               refine Reg.op rfl (Ope.asg rfl ?_)
               refine Reg.op rfl (Ope.asg rfl ?_)
               refine Reg.op rfl (Ope.asg rfl ?_)
               refine Reg.nil (Run.seq (Run.region (cx_ok _ _ _) (Reg.op rfl (Ope.mov rfl ?_))))
               refine Reg.op rfl (Ope.ne rfl rfl ?_)
               refine Reg.op rfl (Ope.mov rfl ?_)
               refine Reg.splitX rfl rfl (fun hg=>?_) fun hg=>?_
               ·refine Reg.off rfl rfl rfl (Reg.off rfl rfl rfl (Reg.off rfl rfl rfl (Reg.past rfl rfl rfl (Reg.past rfl rfl rfl (Reg.past rfl rfl rfl (Reg.past rfl rfl rfl (Reg.off rfl rfl rfl (Reg.off rfl rfl rfl (Reg.past rfl rfl rfl (Reg.past rfl rfl rfl (Reg.past rfl rfl rfl (Reg.past rfl rfl rfl (Reg.off rfl rfl rfl (Reg.op rfl (Ope.pickT rfl rfl ?_)))))))))))))))
                refine Reg.op rfl (Ope.mov rfl ?_)
                refine Reg.on rfl rfl rfl (Ope.clo rfl rfl awakeF ?_)
                refine Reg.op rfl (Ope.pickT rfl rfl ?_)
                refine Reg.op rfl (Ope.asg rfl ?_)
                refine Reg.nil (Run.ret (fin_ret (.tmp rfl .nil) rfl ?_))
                rfl
               ·refine Reg.on rfl rfl rfl (Ope.mov rfl ?_)
                refine Reg.on rfl rfl rfl (Ope.eq rfl rfl ?_)
                refine Reg.on rfl rfl rfl (Ope.mov rfl ?_)
                refine Reg.splitX rfl rfl (fun hg=>?_) fun hg=>?_
                ·refine Reg.on rfl rfl rfl (Ope.mov rfl ?_)
                 refine Reg.on rfl rfl rfl (Ope.mov rfl ?_)
                 refine Reg.on rfl rfl rfl (Ope.andNotN (q:=s) rfl rfl rfl rfl (by show _ < 2 ^ 63;omega) (by show _ < 2 ^ 63;omega) ?_)
                 refine Reg.on rfl rfl rfl (Ope.eq rfl rfl ?_)
                 refine Reg.on rfl rfl rfl (Ope.pickT rfl rfl ?_)
                 refine Reg.on rfl rfl rfl (Ope.mov rfl ?_)
                 refine Reg.splitX rfl rfl (fun hg=>?_) fun hg=>?_
                 ·refine Reg.on rfl rfl rfl (Ope.mov rfl ?_)
                  refine Reg.on rfl rfl rfl (Ope.mov rfl ?_)
                  refine Reg.on rfl rfl rfl (Ope.andNotN (q:=t) rfl rfl rfl rfl (by show _ < 2 ^ 63;omega) (by show _ < 2 ^ 63;omega) ?_)
                  refine Reg.on rfl rfl rfl (Ope.eq rfl rfl ?_)
                  refine Reg.on rfl rfl rfl (Ope.pickT rfl rfl ?_)
                  refine Reg.op rfl (Ope.pickF rfl rfl ?_)
                  refine Reg.op rfl (Ope.mov rfl ?_)
                  refine Reg.splitX rfl rfl (fun hg=>?_) fun hg=>?_
                  ·refine Reg.on rfl rfl rfl (Ope.clo rfl rfl awakeF ?_)
                   refine Reg.op rfl (Ope.pickT rfl rfl ?_)
                   refine Reg.op rfl (Ope.asg rfl ?_)
                   refine Reg.nil (Run.ret (fin_ret (.tmp rfl .nil) rfl ?_))
                   rfl
                  ·((exfalso;(exact hg (congrArg Int.ofNat (m7 (by omega)).2.2))))
                 ·((exfalso;(exact hg (congrArg Int.ofNat (m7 (by omega)).2.1))))
                ·((exfalso;omega))
      ·refine Reg.off rfl rfl rfl (Reg.off rfl rfl rfl (Reg.off rfl rfl rfl (Reg.off rfl rfl rfl (Reg.op rfl (Ope.pickF rfl rfl ?_)))))
       refine Reg.nil (Run.condF rfl (Run.skip (Run.seq (Run.region (cx_ok _ _ _) (Reg.op rfl (Ope.load rfl rfl ?_))))))
       refine Reg.op rfl (Ope.cf rfl rfl (c1) rfl ?_)
       refine Reg.op rfl (Ope.mov rfl ?_)
       refine Reg.op rfl (Ope.ext rfl rfl ?_)
       refine Reg.op rfl (Ope.ext rfl rfl ?_)
       refine Reg.op rfl (Ope.asg rfl ?_)
       refine Reg.op rfl (Ope.asg rfl ?_)
       refine Reg.nil (Run.seq (Run.region (cx_ok _ _ _) (Reg.op rfl (Ope.load rfl rfl ?_))))
       refine Reg.op rfl (Ope.cf rfl rfl (c2) rfl ?_)
       refine Reg.op rfl (Ope.mov rfl ?_)
       refine Reg.op rfl (Ope.ext rfl rfl ?_)
       refine Reg.op rfl (Ope.ext rfl rfl ?_)
       refine Reg.op rfl (Ope.asg rfl ?_)
       refine Reg.op rfl (Ope.asg rfl ?_)
       refine Reg.nil (Run.seq (Run.region (cx_ok _ _ _) (Reg.op rfl (Ope.load rfl rfl ?_))))
       refine Reg.op rfl (Ope.cf rfl rfl (u1) rfl ?_)
       refine Reg.op rfl (Ope.mov rfl ?_)
       refine Reg.op rfl (Ope.ext rfl rfl ?_)
       refine Reg.op rfl (Ope.ext rfl rfl ?_)
       refine Reg.op rfl (Ope.asg rfl ?_)
       refine Reg.op rfl (Ope.asg rfl ?_)
       refine Reg.nil (Run.seq (Run.region (cx_ok _ _ _) (Reg.op rfl (Ope.load rfl rfl ?_))))
       refine Reg.op rfl (Ope.cf rfl rfl (u2) rfl ?_)
       refine Reg.op rfl (Ope.mov rfl ?_)
       refine Reg.op rfl (Ope.ext rfl rfl ?_)
       refine Reg.op rfl (Ope.ext rfl rfl ?_)
       refine Reg.op rfl (Ope.asg rfl ?_)
       refine Reg.op rfl (Ope.asg rfl ?_)
       refine Reg.nil (Run.seq (Run.seq (Run.region (cx_ok _ _ _) (Reg.op rfl (Ope.mov rfl ?_)))))
       refine Reg.op rfl (Ope.ne rfl rfl ?_)
       refine Reg.op rfl (Ope.mov rfl ?_)
       refine Reg.splitX rfl rfl (fun hg=>?_) fun hg=>?_
       ·((exfalso;omega))
       ·refine Reg.on rfl rfl rfl (Ope.mov rfl ?_)
        refine Reg.on rfl rfl rfl (Ope.ne rfl rfl ?_)
        refine Reg.op rfl (Ope.pickF rfl rfl ?_)
        refine Reg.op rfl (Ope.mov rfl ?_)
        refine Reg.splitX rfl rfl (fun hg=>?_) fun hg=>?_
        ·((exfalso;omega))
        ·refine Reg.on rfl rfl rfl (Ope.mov rfl ?_)
         refine Reg.on rfl rfl rfl (Ope.mov rfl ?_)
         refine Reg.on rfl rfl rfl (Ope.lt rfl rfl ?_)
         refine Reg.op rfl (Ope.pickF rfl rfl ?_)
         refine Reg.op rfl (Ope.mov rfl ?_)
         refine Reg.splitX rfl rfl (fun hg=>?_) fun hg=>?_
         ·((exfalso;omega))
         ·refine Reg.on rfl rfl rfl (Ope.mov rfl ?_)
          refine Reg.on rfl rfl rfl (Ope.ne rfl rfl ?_)
          refine Reg.op rfl (Ope.pickF rfl rfl ?_)
          refine Reg.op rfl (Ope.mov rfl ?_)
          refine Reg.splitX rfl rfl (fun hg=>?_) fun hg=>?_
          ·((exfalso;omega))
          ·refine Reg.on rfl rfl rfl (Ope.mov rfl ?_)
           refine Reg.on rfl rfl rfl (Ope.ne rfl rfl ?_)
           refine Reg.op rfl (Ope.pickF rfl rfl ?_)
           refine Reg.op rfl (Ope.mov rfl ?_)
           refine Reg.splitX rfl rfl (fun hg=>?_) fun hg=>?_
           ·((exfalso;omega))
           ·refine Reg.on rfl rfl rfl (Ope.mov rfl ?_)
            refine Reg.on rfl rfl rfl (Ope.mov rfl ?_)
            refine Reg.on rfl rfl rfl (Ope.lt rfl rfl ?_)
            refine Reg.op rfl (Ope.pickF rfl rfl ?_)
            refine Reg.nil (Run.condX rfl (fun hc=>?_) fun hc=>?_)
            ·((exfalso;omega))
            ·refine Run.skip (Run.seq (Run.region (cx_ok _ _ _) (Reg.op rfl (Ope.load rfl rfl ?_))))
             refine Reg.op rfl (Ope.cf rfl rfl (r1) rfl ?_)
             refine Reg.op rfl (Ope.mov rfl ?_)
             refine Reg.op rfl (Ope.ext rfl rfl ?_)
             refine Reg.op rfl (Ope.ext rfl rfl ?_)
             refine Reg.op rfl (Ope.ext rfl rfl ?_)
             refine Reg.op rfl (Ope.asg rfl ?_)
             refine Reg.op rfl (Ope.asg rfl ?_)
             refine Reg.op rfl (Ope.asg rfl ?_)
             refine Reg.nil (Run.seq (Run.region (cx_ok _ _ _) (Reg.op rfl (Ope.load rfl rfl ?_))))
             refine Reg.op rfl (Ope.cf rfl rfl (r2) rfl ?_)
             refine Reg.op rfl (Ope.mov rfl ?_)
             refine Reg.op rfl (Ope.ext rfl rfl ?_)
             refine Reg.op rfl (Ope.ext rfl rfl ?_)
             refine Reg.op rfl (Ope.ext rfl rfl ?_)
             refine Reg.op rfl (Ope.asg rfl ?_)
             refine Reg.op rfl (Ope.asg rfl ?_)
             refine Reg.op rfl (Ope.asg rfl ?_)
             refine Reg.nil (Run.seq (Run.region (cx_ok _ _ _) (Reg.op rfl (Ope.load rfl rfl ?_))))
             refine Reg.op rfl (Ope.cf rfl rfl (r3) rfl ?_)
             refine Reg.op rfl (Ope.mov rfl ?_)
             refine Reg.op rfl (Ope.ext rfl rfl ?_)
             refine Reg.op rfl (Ope.ext rfl rfl ?_)
             refine Reg.op rfl (Ope.ext rfl rfl ?_)
             refine Reg.op rfl (Ope.asg rfl ?_)
             refine Reg.op rfl (Ope.asg rfl ?_)
             refine Reg.op rfl (Ope.asg rfl ?_)
             refine Reg.nil (Run.seq (Run.region (cx_ok _ _ _) (Reg.op rfl (Ope.load rfl rfl ?_))))
             refine Reg.op rfl (Ope.cf rfl rfl (r4) rfl ?_)
             refine Reg.op rfl (Ope.mov rfl ?_)
             refine Reg.op rfl (Ope.ext rfl rfl ?_)
             refine Reg.op rfl (Ope.ext rfl rfl ?_)
             refine Reg.op rfl (Ope.ext rfl rfl ?_)
             refine Reg.op rfl (Ope.asg rfl ?_)
             refine Reg.op rfl (Ope.asg rfl ?_)
             refine Reg.op rfl (Ope.asg rfl ?_)
             refine Reg.nil (Run.seq (Run.seq (Run.region (cx_ok _ _ _) (Reg.op rfl (Ope.mov rfl ?_)))))
             refine Reg.op rfl (Ope.eq rfl rfl ?_)
             refine Reg.op rfl (Ope.mov rfl ?_)
             refine Reg.splitX rfl rfl (fun hg=>?_) fun hg=>?_
             ·refine Reg.on rfl rfl rfl (Ope.mov rfl ?_)
              refine Reg.on rfl rfl rfl (Ope.ne rfl rfl ?_)
              refine Reg.on rfl rfl rfl (Ope.mov rfl ?_)
              refine Reg.splitX rfl rfl (fun hg=>?_) fun hg=>?_
              ·((exfalso;omega))
              ·refine Reg.on rfl rfl rfl (Ope.mov rfl ?_)
               refine Reg.on rfl rfl rfl (Ope.mov rfl ?_)
               refine Reg.on rfl rfl rfl (Ope.gt rfl rfl ?_)
               refine Reg.on rfl rfl rfl (Ope.pickF rfl rfl ?_)
               refine Reg.on rfl rfl rfl (Ope.mov rfl ?_)
               refine Reg.splitX rfl rfl (fun hg=>?_) fun hg=>?_
               ·((exfalso;omega))
               ·refine Reg.on rfl rfl rfl (Ope.mov rfl ?_)
                refine Reg.on rfl rfl rfl (Ope.ne rfl rfl ?_)
                refine Reg.on rfl rfl rfl (Ope.pickF rfl rfl ?_)
                refine Reg.on rfl rfl rfl (Ope.mov rfl ?_)
                refine Reg.splitX rfl rfl (fun hg=>?_) fun hg=>?_
                ·((exfalso;omega))
                ·refine Reg.on rfl rfl rfl (Ope.mov rfl ?_)
                 refine Reg.on rfl rfl rfl (Ope.ne rfl rfl ?_)
                 refine Reg.on rfl rfl rfl (Ope.pickF rfl rfl ?_)
                 refine Reg.on rfl rfl rfl (Ope.mov rfl ?_)
                 refine Reg.splitX rfl rfl (fun hg=>?_) fun hg=>?_
                 ·((exfalso;omega))
                 ·refine Reg.on rfl rfl rfl (Ope.mov rfl ?_)
                  refine Reg.on rfl rfl rfl (Ope.mov rfl ?_)
                  refine Reg.on rfl rfl rfl (Ope.gt rfl rfl ?_)
                  refine Reg.on rfl rfl rfl (Ope.pickF rfl rfl ?_)
                  refine Reg.op rfl (Ope.pickT rfl rfl ?_)
                  refine Reg.nil (Run.condX rfl (fun hc=>?_) fun hc=>?_)
                  ·((exfalso;omega))
                  ·refine Run.skip (Run.seq (Run.region (cx_ok _ _ _) (Reg.op rfl (Ope.load rfl rfl ?_))))
                   refine Reg.op rfl (Ope.cf rfl rfl (m1) rfl ?_)
                   refine Reg.op rfl (Ope.mov rfl ?_)
                   refine Reg.op rfl (Ope.ext rfl rfl ?_)
                   refine Reg.op rfl (Ope.ext rfl rfl ?_)
                   refine Reg.op rfl (Ope.ext rfl rfl ?_)
                   refine Reg.op rfl (Ope.asg rfl ?_)
                   refine Reg.op rfl (Ope.asg rfl ?_)
                   refine Reg.op rfl (Ope.asg rfl ?_)
                   refine Reg.nil (Run.seq (Run.region (cx_ok _ _ _) (Reg.op rfl (Ope.load rfl rfl ?_))))
                   refine Reg.op rfl (Ope.cf rfl rfl (m2) rfl ?_)
                   refine Reg.op rfl (Ope.mov rfl ?_)
                   refine Reg.op rfl (Ope.ext rfl rfl ?_)
                   refine Reg.op rfl (Ope.ext rfl rfl ?_)
                   refine Reg.op rfl (Ope.ext rfl rfl ?_)
                   refine Reg.op rfl (Ope.asg rfl ?_)
                   refine Reg.op rfl (Ope.asg rfl ?_)
                   refine Reg.op rfl (Ope.asg rfl ?_)
                   refine Reg.nil (Run.seq (Run.region (cx_ok _ _ _) (Reg.op rfl (Ope.mov rfl ?_))))
                   refine Reg.op rfl (Ope.ne rfl rfl ?_)
                   refine Reg.op rfl (Ope.mov rfl ?_)
                   refine Reg.splitX rfl rfl (fun hg=>?_) fun hg=>?_
                   ·refine Reg.off rfl rfl rfl (Reg.off rfl rfl rfl (Reg.off rfl rfl rfl (Reg.past rfl rfl rfl (Reg.past rfl rfl rfl (Reg.past rfl rfl rfl (Reg.past rfl rfl rfl (Reg.off rfl rfl rfl (Reg.off rfl rfl rfl (Reg.past rfl rfl rfl (Reg.past rfl rfl rfl (Reg.past rfl rfl rfl (Reg.past rfl rfl rfl (Reg.off rfl rfl rfl (Reg.op rfl (Ope.pickT rfl rfl ?_)))))))))))))))
                    refine Reg.op rfl (Ope.mov rfl ?_)
                    refine Reg.on rfl rfl rfl (Ope.clo rfl rfl awakeF ?_)
                    refine Reg.op rfl (Ope.pickT rfl rfl ?_)
                    refine Reg.op rfl (Ope.asg rfl ?_)
                    refine Reg.nil (Run.ret (fin_ret (.tmp rfl .nil) rfl ?_))
                    rfl
                   ·refine Reg.on rfl rfl rfl (Ope.mov rfl ?_)
                    refine Reg.on rfl rfl rfl (Ope.eq rfl rfl ?_)
                    refine Reg.on rfl rfl rfl (Ope.mov rfl ?_)
                    refine Reg.splitX rfl rfl (fun hg=>?_) fun hg=>?_
                    ·refine Reg.on rfl rfl rfl (Ope.mov rfl ?_)
                     refine Reg.on rfl rfl rfl (Ope.mov rfl ?_)
                     refine Reg.on rfl rfl rfl (Ope.andNotN (q:=s) rfl rfl rfl rfl (by show _ < 2 ^ 63;omega) (by show _ < 2 ^ 63;omega) ?_)
                     refine Reg.on rfl rfl rfl (Ope.eq rfl rfl ?_)
                     refine Reg.on rfl rfl rfl (Ope.pickT rfl rfl ?_)
                     refine Reg.on rfl rfl rfl (Ope.mov rfl ?_)
                     refine Reg.splitX rfl rfl (fun hg=>?_) fun hg=>?_
                     ·refine Reg.on rfl rfl rfl (Ope.mov rfl ?_)
                      refine Reg.on rfl rfl rfl (Ope.mov rfl ?_)
                      refine Reg.on rfl rfl rfl (Ope.andNotN (q:=t) rfl rfl rfl rfl (by show _ < 2 ^ 63;omega) (by show _ < 2 ^ 63;omega) ?_)
                      refine Reg.on rfl rfl rfl (Ope.eq rfl rfl ?_)
                      refine Reg.on rfl rfl rfl (Ope.pickT rfl rfl ?_)
                      refine Reg.op rfl (Ope.pickF rfl rfl ?_)
                      refine Reg.op rfl (Ope.mov rfl ?_)
                      refine Reg.splitX rfl rfl (fun hg=>?_) fun hg=>?_
                      ·refine Reg.on rfl rfl rfl (Ope.clo rfl rfl awakeF ?_)
                       refine Reg.op rfl (Ope.pickT rfl rfl ?_)
                       refine Reg.op rfl (Ope.asg rfl ?_)
                       refine Reg.nil (Run.ret (fin_ret (.tmp rfl .nil) rfl ?_))
                       rfl
                      ·((exfalso;(exact hg (congrArg Int.ofNat (m7 (by omega)).2.2))))
                     ·((exfalso;(exact hg (congrArg Int.ofNat (m7 (by omega)).2.1))))
                    ·((exfalso;omega))
             ·refine Reg.off rfl rfl rfl (Reg.off rfl rfl rfl (Reg.off rfl rfl rfl (Reg.past rfl rfl rfl (Reg.past rfl rfl rfl (Reg.past rfl rfl rfl (Reg.off rfl rfl rfl (Reg.off rfl rfl rfl (Reg.past rfl rfl rfl (Reg.past rfl rfl rfl (Reg.off rfl rfl rfl (Reg.off rfl rfl rfl (Reg.past rfl rfl rfl (Reg.past rfl rfl rfl (Reg.off rfl rfl rfl (Reg.off rfl rfl rfl (Reg.past rfl rfl rfl (Reg.past rfl rfl rfl (Reg.past rfl rfl rfl (Reg.off rfl rfl rfl (Reg.op rfl (Ope.pickF rfl rfl ?_)))))))))))))))))))))
              refine Reg.nil (Run.condF rfl (Run.skip (Run.seq (Run.region (cx_ok _ _ _) (Reg.op rfl (Ope.load rfl rfl ?_))))))
              refine Reg.op rfl (Ope.cf rfl rfl (m1) rfl ?_)
              refine Reg.op rfl (Ope.mov rfl ?_)
              refine Reg.op rfl (Ope.ext rfl rfl ?_)
              refine Reg.op rfl (Ope.ext rfl rfl ?_)
              refine Reg.op rfl (Ope.ext rfl rfl ?_)
              refine Reg.op rfl (Ope.asg rfl ?_)
              refine Reg.op rfl (Ope.asg rfl ?_)
              refine Reg.op rfl (Ope.asg rfl ?_)
              refine Reg.nil (Run.seq (Run.region (cx_ok _ _ _) (Reg.op rfl (Ope.load rfl rfl ?_))))
              refine Reg.op rfl (Ope.cf rfl rfl (m2) rfl ?_)
              refine Reg.op rfl (Ope.mov rfl ?_)
              refine Reg.op rfl (Ope.ext rfl rfl ?_)
              refine Reg.op rfl (Ope.ext rfl rfl ?_)
              refine Reg.op rfl (Ope.ext rfl rfl ?_)
              refine Reg.op rfl (Ope.asg rfl ?_)
              refine Reg.op rfl (Ope.asg rfl ?_)
              refine Reg.op rfl (Ope.asg rfl ?_)
              refine Reg.nil (Run.seq (Run.region (cx_ok _ _ _) (Reg.op rfl (Ope.mov rfl ?_))))
              refine Reg.op rfl (Ope.ne rfl rfl ?_)
              refine Reg.op rfl (Ope.mov rfl ?_)
              refine Reg.splitX rfl rfl (fun hg=>?_) fun hg=>?_
              ·refine Reg.off rfl rfl rfl (Reg.off rfl rfl rfl (Reg.off rfl rfl rfl (Reg.past rfl rfl rfl (Reg.past rfl rfl rfl (Reg.past rfl rfl rfl (Reg.past rfl rfl rfl (Reg.off rfl rfl rfl (Reg.off rfl rfl rfl (Reg.past rfl rfl rfl (Reg.past rfl rfl rfl (Reg.past rfl rfl rfl (Reg.past rfl rfl rfl (Reg.off rfl rfl rfl (Reg.op rfl (Ope.pickT rfl rfl ?_)))))))))))))))
               refine Reg.op rfl (Ope.mov rfl ?_)
               refine Reg.on rfl rfl rfl (Ope.clo rfl rfl awakeF ?_)
               refine Reg.op rfl (Ope.pickT rfl rfl ?_)
               refine Reg.op rfl (Ope.asg rfl ?_)
               refine Reg.nil (Run.ret (fin_ret (.tmp rfl .nil) rfl ?_))
               rfl
              ·refine Reg.on rfl rfl rfl (Ope.mov rfl ?_)
               refine Reg.on rfl rfl rfl (Ope.eq rfl rfl ?_)
               refine Reg.on rfl rfl rfl (Ope.mov rfl ?_)
               refine Reg.splitX rfl rfl (fun hg=>?_) fun hg=>?_
               ·refine Reg.on rfl rfl rfl (Ope.mov rfl ?_)
                refine Reg.on rfl rfl rfl (Ope.mov rfl ?_)
                refine Reg.on rfl rfl rfl (Ope.andNotN (q:=s) rfl rfl rfl rfl (by show _ < 2 ^ 63;omega) (by show _ < 2 ^ 63;omega) ?_)
                refine Reg.on rfl rfl rfl (Ope.eq rfl rfl ?_)
                refine Reg.on rfl rfl rfl (Ope.pickT rfl rfl ?_)
                refine Reg.on rfl rfl rfl (Ope.mov rfl ?_)
                refine Reg.splitX rfl rfl (fun hg=>?_) fun hg=>?_
                ·refine Reg.on rfl rfl rfl (Ope.mov rfl ?_)
                 refine Reg.on rfl rfl rfl (Ope.mov rfl ?_)
                 refine Reg.on rfl rfl rfl (Ope.andNotN (q:=t) rfl rfl rfl rfl (by show _ < 2 ^ 63;omega) (by show _ < 2 ^ 63;omega) ?_)
                 refine Reg.on rfl rfl rfl (Ope.eq rfl rfl ?_)
                 refine Reg.on rfl rfl rfl (Ope.pickT rfl rfl ?_)
                 refine Reg.op rfl (Ope.pickF rfl rfl ?_)
                 refine Reg.op rfl (Ope.mov rfl ?_)
                 refine Reg.splitX rfl rfl (fun hg=>?_) fun hg=>?_
                 ·refine Reg.on rfl rfl rfl (Ope.clo rfl rfl awakeF ?_)
                  refine Reg.op rfl (Ope.pickT rfl rfl ?_)
                  refine Reg.op rfl (Ope.asg rfl ?_)
                  refine Reg.nil (Run.ret (fin_ret (.tmp rfl .nil) rfl ?_))
                  rfl
                 ·((exfalso;(exact hg (congrArg Int.ofNat (m7 (by omega)).2.2))))
                ·((exfalso;(exact hg (congrArg Int.ofNat (m7 (by omega)).2.1))))
               ·((exfalso;omega))
theorem f11 (h a0 b0 c0 d0 a1 b1 c1 d1:Int) (x p:Nat) (hx:x < 256) (hp:p < 65536):Fn P0 11 [.agg [I h,I a0,I b0,I c0,I d0,I a1,I b1,I c1,I d1],.lit (.int .u8 (x:Int)),.lit (.int .u16 (p:Int))] (B true):=by
  by_cases hv:validR h a0 b0 c0 d0 a1 b1 c1 d1=true
  · obtain ⟨hok, ⟨e1, e2, e3⟩, h16⟩ := rstOf_ok hv
    have hcells:(rstOf h a0 b0 c0 d0 a1 b1 c1 d1).cells=[I h,I a0,I b0,I c0,I d0,I a1,I b1,I c1,I d1]:=by
      show [I (h.toNat:Int),I (a0.toNat:Int),I b0,I c0,I d0,I (a1.toNat:Int),I b1,I c1,I d1]=_
      rw [← e1,← e2,← e3]
    rw [← hcells]
    generalize hR:rstOf h a0 b0 c0 d0 a1 b1 c1 d1=R at *
    have hv':validR R.m R.o0 R.t0 R.r0 R.f0 R.o1 R.t1 R.r1 R.f1=true:=by
      rw [← hR]
      show validR (h.toNat:Int) (a0.toNat:Int) b0 c0 d0 (a1.toNat:Int) b1 c1 d1=true
      rw [← e1,← e2,← e3]
      exact hv
    exact f11v R hok hv' x p hx hp (byL R.m p) rfl (byL_b R.m p) (byL_length R.m p)
  · exact f11a _ _ _ _ _ _ _ _ _ x p (by simpa using hv)
end Go.Pv
