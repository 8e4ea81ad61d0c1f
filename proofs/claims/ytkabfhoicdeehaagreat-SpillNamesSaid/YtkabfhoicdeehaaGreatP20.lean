/- Parts of the proof: S15, Pv78, S16, S17, S18, S19 -/
import Derived.Test.YtkabfhoicdeehaaGreatP19
import Derived.Test.YtkabfhoicdeehaaGreatP11
import Derived.Test.YtkabfhoicdeehaaGreatP14
import Derived.Test.YtkabfhoicdeehaaGreatP10
import Derived.Test.YtkabfhoicdeehaaGreatP17
set_option linter.unusedVariables false
set_option linter.unusedSimpArgs false
set_option linter.unusedSectionVars false
namespace Go.Pv
open Go.Proofs Go.Am
set_option maxRecDepth 10000
def Outs (P:Program) (g:Nat) (args:List PV) (u:PV) (e:Int):Prop:=PFun P g args (fun v=>e=0∧v=u) fun v=>e≠0∧v=.ifc 25 (I e)
theorem Outs.fn {P:Program} {g:Nat} {args:List PV} {u:PV} {e:Int} (h:Outs P g args u e) (he:e=0):Fn P g args u :=
  PCall.mono h (fun v h' q=>⟨q.1,q.2.2⟩) fun v h' q=>(q.2.1 he).elim
theorem d106n {n:Nat} {l:HL} {K:PH→Prop} (hK:K (HE n l)):PDefer A0 P0 106 [.ptr 0 0] (.lit .nilifc) (HE n l) K:=by
  refine PDefer.of (C:=c106) (fd:=Tryz.f106) (by kernel_rfl) rfl rfl rfl rfl rfl rfl rfl rfl rfl rfl ?_
  refine Run.block (Run.seq (Run.region (cx_ok _ _ _) ?_))
  first | refine Reg.op rfl (Ope.eq rfl rfl ?_) | refine Reg.op rfl (Ope.eqI rfl rfl ?_) | refine Reg.op rfl (Ope.eqN rfl rfl rfl ?_)
  refine Reg.nil (Run.condX rfl (fun hc=>?_) fun hc=>?_)
  ·first
   |exact absurd hc (by decide)
   |refine Run.region (cx_ok _ _ _) (Reg.op rfl (Ope.asg rfl ?_))
    exact Reg.nil (Run.bend (Run.done ⟨.inl rfl,trivial,hK⟩))
  ·first
   |exact absurd hc (by decide)
   |refine Run.seq (Run.region (cx_ok _ _ _) ?_)
    first | refine Reg.op rfl (Ope.tasY rfl rfl ?_) | refine Reg.op rfl (Ope.tasN rfl rfl ?_)
    refine Reg.op rfl (Ope.ext rfl rfl ?_)
    refine Reg.op rfl (Ope.ext rfl rfl ?_)
    refine Reg.nil (Run.condX rfl (fun hc=>?_) fun hc=>?_)
    ·first
     |exact absurd hc (by decide)
     |refine Run.seq (Run.region (cx_ok _ _ _) (Reg.op rfl (Ope.asg rfl ?_)))
      refine Reg.nil (Run.region (cx_ok _ _ _) (Reg.op rfl (Ope.mov rfl ?_)))
      refine Reg.op0 (Ope.store rfl rfl rfl rfl rfl rfl ?_)
      exact Reg.nil (Run.bend (Run.done ⟨.inl rfl,trivial,hK⟩))
    ·first
     |exact absurd hc (by decide)
     |refine Run.seq (Run.region (cx_ok _ _ _) (Reg.op rfl (Ope.asg rfl ?_)))
      refine Reg.nil (Run.region (cx_ok _ _ _) (Reg.op0 (Ope.store rfl rfl rfl rfl rfl rfl ?_)))
      exact Reg.nil (Run.bend (Run.done ⟨.inl rfl,trivial,hK⟩))
theorem d106e {n:Nat} {l:HL} {K:PH→Prop} {k z:Int} (hz:hget l 0=some (.cells [I z])) (hK:K (HE n ((0,some (.cells [I k]))::l))):PDefer A0 P0 106 [.ptr 0 0] (.ifc 25 (I k)) (HE n l) K:=by
  refine PDefer.of (C:=c106) (fd:=Tryz.f106) (by kernel_rfl) rfl rfl rfl rfl rfl rfl rfl rfl rfl rfl ?_
  refine Run.block (Run.seq (Run.region (cx_ok _ _ _) ?_))
  first | refine Reg.op rfl (Ope.eq rfl rfl ?_) | refine Reg.op rfl (Ope.eqI rfl rfl ?_) | refine Reg.op rfl (Ope.eqN rfl rfl rfl ?_)
  refine Reg.nil (Run.condX rfl (fun hc=>?_) fun hc=>?_)
  ·first
   |exact absurd hc (by decide)
   |refine Run.region (cx_ok _ _ _) (Reg.op rfl (Ope.asg rfl ?_))
    exact Reg.nil (Run.bend (Run.done ⟨.inl rfl,trivial,hK⟩))
  ·first
   |exact absurd hc (by decide)
   |refine Run.seq (Run.region (cx_ok _ _ _) ?_)
    first | refine Reg.op rfl (Ope.tasY rfl rfl ?_) | refine Reg.op rfl (Ope.tasN rfl rfl ?_)
    refine Reg.op rfl (Ope.ext rfl rfl ?_)
    refine Reg.op rfl (Ope.ext rfl rfl ?_)
    refine Reg.nil (Run.condX rfl (fun hc=>?_) fun hc=>?_)
    ·first
     |exact absurd hc (by decide)
     |refine Run.seq (Run.region (cx_ok _ _ _) (Reg.op rfl (Ope.asg rfl ?_)))
      refine Reg.nil (Run.region (cx_ok _ _ _) (Reg.op rfl (Ope.mov rfl ?_)))
      refine Reg.op0 (Ope.store rfl rfl hz rfl rfl rfl ?_)
      exact Reg.nil (Run.bend (Run.done ⟨.inl rfl,trivial,hK⟩))
    ·first
     |exact absurd hc (by decide)
     |refine Run.seq (Run.region (cx_ok _ _ _) (Reg.op rfl (Ope.asg rfl ?_)))
      refine Reg.nil (Run.region (cx_ok _ _ _) (Reg.op0 (Ope.store rfl rfl rfl rfl rfl rfl ?_)))
      exact Reg.nil (Run.bend (Run.done ⟨.inl rfl,trivial,hK⟩))
theorem f68ok {fa:Nat} {caps:List PV} {a:Int} (hf:Fn P0 fa caps (I a)) (hb:PV.bds 0 caps=true):Fn P0 68 [.fn (.func fa) [] caps] (.tup [I a,I 0]):=by
  unfold Fn PFun
  show PCall P0 68 _ (HE 0 []) _ _
  refine PCall.ofT (C:=c68) (cx_ok _ _ _) (fn:=Tryz.f68) (by kernel_rfl) (c:=_) rfl rfl ?_
  refine Til.seq rfl rfl ?_
  refine Run.region (cx_ok _ _ _) ?_
  refine Reg.op rfl (Ope.asg rfl ?_)
  refine Reg.op rfl (Ope.newL rfl ?_)
  refine Reg.nil ?_
  refine Run.done ⟨rfl,rfl,?_⟩
  refine Til.defer2 (cx_ok _ _ _) rfl rfl (by kernel_rfl) 2 [(2,I 0),(3,.ptr 0 0)] rfl rfl rfl rfl rfl rfl rfl rfl (Ope.mkf rfl rfl ⟨rfl,rfl⟩) rfl rfl ⟨rfl,rfl,trivial⟩ ?_
  refine RegP.op rfl (Ope.mov rfl ?_)
  refine RegP.op rfl (Ope.cf rfl rfl (by simpa using hf) (by simpa using hb) ?_)
  refine RegP.nil ?_
  refine Reg.op rfl (Ope.asg rfl ?_)
  refine Reg.op0 (Ope.store rfl rfl rfl rfl rfl rfl ?_)
  refine Reg.nil ?_
  refine Run.done ⟨rfl,trivial,d106n ?_⟩
  exact ResE.ofF (.tmp rfl (.cell rfl rfl .nil)) rfl rfl
theorem f68er {fa:Nat} {caps:List PV} {k:Int} (hf:Pan P0 fa caps (.ifc 25 (I k))) (hb:PV.bds 0 caps=true):Fn P0 68 [.fn (.func fa) [] caps] (.tup [I 0,I k]):=by
  unfold Fn PFun
  show PCall P0 68 _ (HE 0 []) _ _
  refine PCall.ofT (C:=c68) (cx_ok _ _ _) (fn:=Tryz.f68) (by kernel_rfl) (c:=_) rfl rfl ?_
  refine Til.seq rfl rfl ?_
  refine Run.region (cx_ok _ _ _) ?_
  refine Reg.op rfl (Ope.asg rfl ?_)
  refine Reg.op rfl (Ope.newL rfl ?_)
  refine Reg.nil ?_
  refine Run.done ⟨rfl,rfl,?_⟩
  refine Til.defer2 (cx_ok _ _ _) rfl rfl (by kernel_rfl) 2 [(2,I 0),(3,.ptr 0 0)] rfl rfl rfl rfl rfl rfl rfl rfl (Ope.mkf rfl rfl ⟨rfl,rfl⟩) rfl rfl ⟨rfl,rfl,trivial⟩ ?_
  refine RegP.op rfl (Ope.mov rfl ?_)
  refine RegP.op rfl (Ope.cp rfl rfl (by simpa using hf) (by simpa using hb) ⟨trivial,d106e rfl ?_⟩)
  exact ResE.ofF (.tmp rfl (.cell rfl rfl .nil)) rfl rfl
theorem d109n {n:Nat} {l:HL} {K:PH→Prop} (hK:K (HE n l)):PDefer A0 P0 109 [.ptr 1 0] (.lit .nilifc) (HE n l) K:=by
  refine PDefer.of (C:=c109) (fd:=Tryz.f109) (by kernel_rfl) rfl rfl rfl rfl rfl rfl rfl rfl rfl rfl ?_
  refine Run.block (Run.seq (Run.region (cx_ok _ _ _) ?_))
  first | refine Reg.op rfl (Ope.eq rfl rfl ?_) | refine Reg.op rfl (Ope.eqI rfl rfl ?_) | refine Reg.op rfl (Ope.eqN rfl rfl rfl ?_)
  refine Reg.nil (Run.condX rfl (fun hc=>?_) fun hc=>?_)
  ·first
   |exact absurd hc (by decide)
   |refine Run.region (cx_ok _ _ _) (Reg.op rfl (Ope.asg rfl ?_))
    exact Reg.nil (Run.bend (Run.done ⟨.inl rfl,trivial,hK⟩))
  ·first
   |exact absurd hc (by decide)
   |refine Run.seq (Run.region (cx_ok _ _ _) ?_)
    first | refine Reg.op rfl (Ope.tasY rfl rfl ?_) | refine Reg.op rfl (Ope.tasN rfl rfl ?_)
    refine Reg.op rfl (Ope.ext rfl rfl ?_)
    refine Reg.op rfl (Ope.ext rfl rfl ?_)
    refine Reg.nil (Run.condX rfl (fun hc=>?_) fun hc=>?_)
    ·first
     |exact absurd hc (by decide)
     |refine Run.seq (Run.region (cx_ok _ _ _) (Reg.op rfl (Ope.asg rfl ?_)))
      refine Reg.nil (Run.region (cx_ok _ _ _) (Reg.op rfl (Ope.mov rfl ?_)))
      refine Reg.op0 (Ope.store rfl rfl rfl rfl rfl rfl ?_)
      exact Reg.nil (Run.bend (Run.done ⟨.inl rfl,trivial,hK⟩))
    ·first
     |exact absurd hc (by decide)
     |refine Run.seq (Run.region (cx_ok _ _ _) (Reg.op rfl (Ope.asg rfl ?_)))
      refine Reg.nil (Run.region (cx_ok _ _ _) (Reg.op0 (Ope.store rfl rfl rfl rfl rfl rfl ?_)))
      exact Reg.nil (Run.bend (Run.done ⟨.inl rfl,trivial,hK⟩))
theorem d109e {n:Nat} {l:HL} {K:PH→Prop} {k z:Int} (hz:hget l 1=some (.cells [I z])) (hK:K (HE n ((1,some (.cells [I k]))::l))):PDefer A0 P0 109 [.ptr 1 0] (.ifc 25 (I k)) (HE n l) K:=by
  refine PDefer.of (C:=c109) (fd:=Tryz.f109) (by kernel_rfl) rfl rfl rfl rfl rfl rfl rfl rfl rfl rfl ?_
  refine Run.block (Run.seq (Run.region (cx_ok _ _ _) ?_))
  first | refine Reg.op rfl (Ope.eq rfl rfl ?_) | refine Reg.op rfl (Ope.eqI rfl rfl ?_) | refine Reg.op rfl (Ope.eqN rfl rfl rfl ?_)
  refine Reg.nil (Run.condX rfl (fun hc=>?_) fun hc=>?_)
  ·first
   |exact absurd hc (by decide)
   |refine Run.region (cx_ok _ _ _) (Reg.op rfl (Ope.asg rfl ?_))
    exact Reg.nil (Run.bend (Run.done ⟨.inl rfl,trivial,hK⟩))
  ·first
   |exact absurd hc (by decide)
   |refine Run.seq (Run.region (cx_ok _ _ _) ?_)
    first | refine Reg.op rfl (Ope.tasY rfl rfl ?_) | refine Reg.op rfl (Ope.tasN rfl rfl ?_)
    refine Reg.op rfl (Ope.ext rfl rfl ?_)
    refine Reg.op rfl (Ope.ext rfl rfl ?_)
    refine Reg.nil (Run.condX rfl (fun hc=>?_) fun hc=>?_)
    ·first
     |exact absurd hc (by decide)
     |refine Run.seq (Run.region (cx_ok _ _ _) (Reg.op rfl (Ope.asg rfl ?_)))
      refine Reg.nil (Run.region (cx_ok _ _ _) (Reg.op rfl (Ope.mov rfl ?_)))
      refine Reg.op0 (Ope.store rfl rfl hz rfl rfl rfl ?_)
      exact Reg.nil (Run.bend (Run.done ⟨.inl rfl,trivial,hK⟩))
    ·first
     |exact absurd hc (by decide)
     |refine Run.seq (Run.region (cx_ok _ _ _) (Reg.op rfl (Ope.asg rfl ?_)))
      refine Reg.nil (Run.region (cx_ok _ _ _) (Reg.op0 (Ope.store rfl rfl rfl rfl rfl rfl ?_)))
      exact Reg.nil (Run.bend (Run.done ⟨.inl rfl,trivial,hK⟩))
theorem f75ok {fa:Nat} {caps:List PV} {a b:Int} (hf:Fn P0 fa caps (.agg [I a,I b])) (hb:PV.bds 0 caps=true):Fn P0 75 [.fn (.func fa) [] caps] (.tup [.agg [I a,I b],I 0]):=by
  unfold Fn PFun
  show PCall P0 75 _ (HE 0 []) _ _
  refine PCall.ofT (C:=c75) (cx_ok _ _ _) (fn:=Tryz.f75) (by kernel_rfl) (c:=_) rfl rfl ?_
  refine Til.seq rfl rfl ?_
  refine Run.region (cx_ok _ _ _) ?_
  refine Reg.op rfl (Ope.newL rfl ?_)
  refine Reg.op rfl (Ope.newL rfl ?_)
  refine Reg.nil ?_
  refine Run.done ⟨rfl,rfl,?_⟩
  refine Til.defer (cx_ok _ _ _) rfl rfl (by kernel_rfl) [(2,.ptr 0 0),(3,.ptr 1 0)] rfl rfl rfl rfl rfl rfl rfl rfl (Ope.mkf rfl rfl ⟨rfl,rfl⟩) rfl rfl ⟨rfl,rfl,trivial⟩ ?_
  refine Reg.op rfl (Ope.mov rfl ?_)
  refine Reg.op rfl (Ope.cf rfl rfl (by simpa using hf) (by simpa using hb) ?_)
  refine Reg.op0 (Ope.store rfl rfl rfl rfl rfl rfl ?_)
  refine Reg.op0 (Ope.store rfl rfl rfl rfl rfl rfl ?_)
  refine Reg.nil ?_
  refine Run.done ⟨rfl,trivial,d109n ?_⟩
  exact ResE.ofF (.cell rfl rfl (.cell rfl rfl .nil)) rfl rfl
theorem f75er {fa:Nat} {caps:List PV} {k:Int} (hf:Pan P0 fa caps (.ifc 25 (I k))) (hb:PV.bds 0 caps=true):Fn P0 75 [.fn (.func fa) [] caps] (.tup [.agg [I 0,I 0],I k]):=by
  unfold Fn PFun
  show PCall P0 75 _ (HE 0 []) _ _
  refine PCall.ofT (C:=c75) (cx_ok _ _ _) (fn:=Tryz.f75) (by kernel_rfl) (c:=_) rfl rfl ?_
  refine Til.seq rfl rfl ?_
  refine Run.region (cx_ok _ _ _) ?_
  refine Reg.op rfl (Ope.newL rfl ?_)
  refine Reg.op rfl (Ope.newL rfl ?_)
  refine Reg.nil ?_
  refine Run.done ⟨rfl,rfl,?_⟩
  refine Til.defer (cx_ok _ _ _) rfl rfl (by kernel_rfl) [(2,.ptr 0 0),(3,.ptr 1 0)] rfl rfl rfl rfl rfl rfl rfl rfl (Ope.mkf rfl rfl ⟨rfl,rfl⟩) rfl rfl ⟨rfl,rfl,trivial⟩ ?_
  refine Reg.op rfl (Ope.mov rfl ?_)
  refine Reg.op rfl (Ope.cp rfl rfl (by simpa using hf) (by simpa using hb) ⟨trivial,d109e rfl ?_⟩)
  exact ResE.ofF (.cell rfl rfl (.cell rfl rfl .nil)) rfl rfl
theorem d101n {n:Nat} {l:HL} {K:PH→Prop} (hK:K (HE n l)):PDefer A0 P0 101 [.ptr 0 0] (.lit .nilifc) (HE n l) K:=by
  refine PDefer.of (C:=c101) (fd:=Tryz.f101) (by kernel_rfl) rfl rfl rfl rfl rfl rfl rfl rfl rfl rfl ?_
  refine Run.block (Run.seq (Run.region (cx_ok _ _ _) ?_))
  first | refine Reg.op rfl (Ope.eq rfl rfl ?_) | refine Reg.op rfl (Ope.eqI rfl rfl ?_) | refine Reg.op rfl (Ope.eqN rfl rfl rfl ?_)
  refine Reg.nil (Run.condX rfl (fun hc=>?_) fun hc=>?_)
  ·first
   |exact absurd hc (by decide)
   |refine Run.region (cx_ok _ _ _) (Reg.op rfl (Ope.asg rfl ?_))
    exact Reg.nil (Run.bend (Run.done ⟨.inl rfl,trivial,hK⟩))
  ·first
   |exact absurd hc (by decide)
   |refine Run.seq (Run.region (cx_ok _ _ _) ?_)
    first | refine Reg.op rfl (Ope.tasY rfl rfl ?_) | refine Reg.op rfl (Ope.tasN rfl rfl ?_)
    refine Reg.op rfl (Ope.ext rfl rfl ?_)
    refine Reg.op rfl (Ope.ext rfl rfl ?_)
    refine Reg.nil (Run.condX rfl (fun hc=>?_) fun hc=>?_)
    ·first
     |exact absurd hc (by decide)
     |refine Run.seq (Run.region (cx_ok _ _ _) (Reg.op rfl (Ope.asg rfl ?_)))
      refine Reg.nil (Run.region (cx_ok _ _ _) (Reg.op rfl (Ope.mov rfl ?_)))
      refine Reg.op0 (Ope.store rfl rfl rfl rfl rfl rfl ?_)
      exact Reg.nil (Run.bend (Run.done ⟨.inl rfl,trivial,hK⟩))
    ·first
     |exact absurd hc (by decide)
     |refine Run.seq (Run.region (cx_ok _ _ _) (Reg.op rfl (Ope.asg rfl ?_)))
      refine Reg.nil (Run.region (cx_ok _ _ _) (Reg.op0 (Ope.store rfl rfl rfl rfl rfl rfl ?_)))
      exact Reg.nil (Run.bend (Run.done ⟨.inl rfl,trivial,hK⟩))
theorem d101e {n:Nat} {l:HL} {K:PH→Prop} {k z:Int} (hz:hget l 0=some (.cells [I z])) (hK:K (HE n ((0,some (.cells [I k]))::l))):PDefer A0 P0 101 [.ptr 0 0] (.ifc 25 (I k)) (HE n l) K:=by
  refine PDefer.of (C:=c101) (fd:=Tryz.f101) (by kernel_rfl) rfl rfl rfl rfl rfl rfl rfl rfl rfl rfl ?_
  refine Run.block (Run.seq (Run.region (cx_ok _ _ _) ?_))
  first | refine Reg.op rfl (Ope.eq rfl rfl ?_) | refine Reg.op rfl (Ope.eqI rfl rfl ?_) | refine Reg.op rfl (Ope.eqN rfl rfl rfl ?_)
  refine Reg.nil (Run.condX rfl (fun hc=>?_) fun hc=>?_)
  ·first
   |exact absurd hc (by decide)
   |refine Run.region (cx_ok _ _ _) (Reg.op rfl (Ope.asg rfl ?_))
    exact Reg.nil (Run.bend (Run.done ⟨.inl rfl,trivial,hK⟩))
  ·first
   |exact absurd hc (by decide)
   |refine Run.seq (Run.region (cx_ok _ _ _) ?_)
    first | refine Reg.op rfl (Ope.tasY rfl rfl ?_) | refine Reg.op rfl (Ope.tasN rfl rfl ?_)
    refine Reg.op rfl (Ope.ext rfl rfl ?_)
    refine Reg.op rfl (Ope.ext rfl rfl ?_)
    refine Reg.nil (Run.condX rfl (fun hc=>?_) fun hc=>?_)
    ·first
     |exact absurd hc (by decide)
     |refine Run.seq (Run.region (cx_ok _ _ _) (Reg.op rfl (Ope.asg rfl ?_)))
      refine Reg.nil (Run.region (cx_ok _ _ _) (Reg.op rfl (Ope.mov rfl ?_)))
      refine Reg.op0 (Ope.store rfl rfl hz rfl rfl rfl ?_)
      exact Reg.nil (Run.bend (Run.done ⟨.inl rfl,trivial,hK⟩))
    ·first
     |exact absurd hc (by decide)
     |refine Run.seq (Run.region (cx_ok _ _ _) (Reg.op rfl (Ope.asg rfl ?_)))
      refine Reg.nil (Run.region (cx_ok _ _ _) (Reg.op0 (Ope.store rfl rfl rfl rfl rfl rfl ?_)))
      exact Reg.nil (Run.bend (Run.done ⟨.inl rfl,trivial,hK⟩))
theorem f59ok {fa:Nat} {caps:List PV} {w:PV} (hw:PV.bd 0 w=true) (hf:Fn P0 fa caps w) (hb:PV.bds 0 caps=true):Fn P0 59 [.fn (.func fa) [] caps] (.tup [w,I 0]):=by
  unfold Fn PFun
  show PCall P0 59 _ (HE 0 []) _ _
  refine PCall.ofT (C:=c59) (cx_ok _ _ _) (fn:=Tryz.f59) (by kernel_rfl) (c:=_) rfl rfl ?_
  refine Til.seq rfl rfl ?_
  refine Run.region (cx_ok _ _ _) ?_
  refine Reg.op rfl (Ope.asg rfl ?_)
  refine Reg.op rfl (Ope.newL rfl ?_)
  refine Reg.nil ?_
  refine Run.done ⟨rfl,rfl,?_⟩
  refine Til.defer2 (cx_ok _ _ _) rfl rfl (by kernel_rfl) 2 [(2,.sl .ex []),(3,.ptr 0 0)] rfl rfl rfl rfl rfl rfl rfl rfl (Ope.mkf rfl rfl ⟨rfl,rfl⟩) rfl rfl ⟨rfl,rfl,trivial⟩ ?_
  refine RegP.op rfl (Ope.mov rfl ?_)
  refine RegP.op rfl (Ope.cf rfl rfl (by simpa using hf) (by simpa using hb) ?_)
  refine RegP.nil ?_
  refine Reg.op rfl (Ope.asg rfl ?_)
  refine Reg.op0 (Ope.store rfl rfl rfl rfl rfl rfl ?_)
  refine Reg.nil ?_
  refine Run.done ⟨rfl,trivial,d101n ?_⟩
  exact ResE.ofF (.tmp rfl (.cell rfl rfl .nil)) (by simp only [pone,PV.bd,PV.bds,hw,Bool.and_self]) rfl
theorem f59er {fa:Nat} {caps:List PV} {k:Int} (hf:Pan P0 fa caps (.ifc 25 (I k))) (hb:PV.bds 0 caps=true):Fn P0 59 [.fn (.func fa) [] caps] (.tup [.sl .ex [],I k]):=by
  unfold Fn PFun
  show PCall P0 59 _ (HE 0 []) _ _
  refine PCall.ofT (C:=c59) (cx_ok _ _ _) (fn:=Tryz.f59) (by kernel_rfl) (c:=_) rfl rfl ?_
  refine Til.seq rfl rfl ?_
  refine Run.region (cx_ok _ _ _) ?_
  refine Reg.op rfl (Ope.asg rfl ?_)
  refine Reg.op rfl (Ope.newL rfl ?_)
  refine Reg.nil ?_
  refine Run.done ⟨rfl,rfl,?_⟩
  refine Til.defer2 (cx_ok _ _ _) rfl rfl (by kernel_rfl) 2 [(2,.sl .ex []),(3,.ptr 0 0)] rfl rfl rfl rfl rfl rfl rfl rfl (Ope.mkf rfl rfl ⟨rfl,rfl⟩) rfl rfl ⟨rfl,rfl,trivial⟩ ?_
  refine RegP.op rfl (Ope.mov rfl ?_)
  refine RegP.op rfl (Ope.cp rfl rfl (by simpa using hf) (by simpa using hb) ⟨trivial,d101e rfl ?_⟩)
  exact ResE.ofF (.tmp rfl (.cell rfl rfl .nil)) rfl rfl
theorem d90n {n:Nat} {l:HL} {K:PH→Prop} (hK:K (HE n l)):PDefer A0 P0 90 [.ptr 0 0] (.lit .nilifc) (HE n l) K:=by
  refine PDefer.of (C:=c90) (fd:=Tryz.f90) (by kernel_rfl) rfl rfl rfl rfl rfl rfl rfl rfl rfl rfl ?_
  refine Run.block (Run.seq (Run.region (cx_ok _ _ _) ?_))
  first | refine Reg.op rfl (Ope.eq rfl rfl ?_) | refine Reg.op rfl (Ope.eqI rfl rfl ?_) | refine Reg.op rfl (Ope.eqN rfl rfl rfl ?_)
  refine Reg.nil (Run.condX rfl (fun hc=>?_) fun hc=>?_)
  ·first
   |exact absurd hc (by decide)
   |refine Run.region (cx_ok _ _ _) (Reg.op rfl (Ope.asg rfl ?_))
    exact Reg.nil (Run.bend (Run.done ⟨.inl rfl,trivial,hK⟩))
  ·first
   |exact absurd hc (by decide)
   |refine Run.seq (Run.region (cx_ok _ _ _) ?_)
    first | refine Reg.op rfl (Ope.tasY rfl rfl ?_) | refine Reg.op rfl (Ope.tasN rfl rfl ?_)
    refine Reg.op rfl (Ope.ext rfl rfl ?_)
    refine Reg.op rfl (Ope.ext rfl rfl ?_)
    refine Reg.nil (Run.condX rfl (fun hc=>?_) fun hc=>?_)
    ·first
     |exact absurd hc (by decide)
     |refine Run.seq (Run.region (cx_ok _ _ _) (Reg.op rfl (Ope.asg rfl ?_)))
      refine Reg.nil (Run.region (cx_ok _ _ _) (Reg.op rfl (Ope.mov rfl ?_)))
      refine Reg.op0 (Ope.store rfl rfl rfl rfl rfl rfl ?_)
      exact Reg.nil (Run.bend (Run.done ⟨.inl rfl,trivial,hK⟩))
    ·first
     |exact absurd hc (by decide)
     |refine Run.seq (Run.region (cx_ok _ _ _) (Reg.op rfl (Ope.asg rfl ?_)))
      refine Reg.nil (Run.region (cx_ok _ _ _) (Reg.op0 (Ope.store rfl rfl rfl rfl rfl rfl ?_)))
      exact Reg.nil (Run.bend (Run.done ⟨.inl rfl,trivial,hK⟩))
theorem d90e {n:Nat} {l:HL} {K:PH→Prop} {k z:Int} (hz:hget l 0=some (.cells [I z])) (hK:K (HE n ((0,some (.cells [I k]))::l))):PDefer A0 P0 90 [.ptr 0 0] (.ifc 25 (I k)) (HE n l) K:=by
  refine PDefer.of (C:=c90) (fd:=Tryz.f90) (by kernel_rfl) rfl rfl rfl rfl rfl rfl rfl rfl rfl rfl ?_
  refine Run.block (Run.seq (Run.region (cx_ok _ _ _) ?_))
  first | refine Reg.op rfl (Ope.eq rfl rfl ?_) | refine Reg.op rfl (Ope.eqI rfl rfl ?_) | refine Reg.op rfl (Ope.eqN rfl rfl rfl ?_)
  refine Reg.nil (Run.condX rfl (fun hc=>?_) fun hc=>?_)
  ·first
   |exact absurd hc (by decide)
   |refine Run.region (cx_ok _ _ _) (Reg.op rfl (Ope.asg rfl ?_))
    exact Reg.nil (Run.bend (Run.done ⟨.inl rfl,trivial,hK⟩))
  ·first
   |exact absurd hc (by decide)
   |refine Run.seq (Run.region (cx_ok _ _ _) ?_)
    first | refine Reg.op rfl (Ope.tasY rfl rfl ?_) | refine Reg.op rfl (Ope.tasN rfl rfl ?_)
    refine Reg.op rfl (Ope.ext rfl rfl ?_)
    refine Reg.op rfl (Ope.ext rfl rfl ?_)
    refine Reg.nil (Run.condX rfl (fun hc=>?_) fun hc=>?_)
    ·first
     |exact absurd hc (by decide)
     |refine Run.seq (Run.region (cx_ok _ _ _) (Reg.op rfl (Ope.asg rfl ?_)))
      refine Reg.nil (Run.region (cx_ok _ _ _) (Reg.op rfl (Ope.mov rfl ?_)))
      refine Reg.op0 (Ope.store rfl rfl hz rfl rfl rfl ?_)
      exact Reg.nil (Run.bend (Run.done ⟨.inl rfl,trivial,hK⟩))
    ·first
     |exact absurd hc (by decide)
     |refine Run.seq (Run.region (cx_ok _ _ _) (Reg.op rfl (Ope.asg rfl ?_)))
      refine Reg.nil (Run.region (cx_ok _ _ _) (Reg.op0 (Ope.store rfl rfl rfl rfl rfl rfl ?_)))
      exact Reg.nil (Run.bend (Run.done ⟨.inl rfl,trivial,hK⟩))
theorem f48ok {fa:Nat} {caps:List PV} {w:PV} (hw:PV.bd 0 w=true) (hf:Fn P0 fa caps w) (hb:PV.bds 0 caps=true):Fn P0 48 [.fn (.func fa) [] caps] (.tup [w,I 0]):=by
  unfold Fn PFun
  show PCall P0 48 _ (HE 0 []) _ _
  refine PCall.ofT (C:=c48) (cx_ok _ _ _) (fn:=Tryz.f48) (by kernel_rfl) (c:=_) rfl rfl ?_
  refine Til.seq rfl rfl ?_
  refine Run.region (cx_ok _ _ _) ?_
  refine Reg.op rfl (Ope.asg rfl ?_)
  refine Reg.op rfl (Ope.newL rfl ?_)
  refine Reg.nil ?_
  refine Run.done ⟨rfl,rfl,?_⟩
  refine Til.defer2 (cx_ok _ _ _) rfl rfl (by kernel_rfl) 2 [(2,.sl .ex []),(3,.ptr 0 0)] rfl rfl rfl rfl rfl rfl rfl rfl (Ope.mkf rfl rfl ⟨rfl,rfl⟩) rfl rfl ⟨rfl,rfl,trivial⟩ ?_
  refine RegP.op rfl (Ope.mov rfl ?_)
  refine RegP.op rfl (Ope.cf rfl rfl (by simpa using hf) (by simpa using hb) ?_)
  refine RegP.nil ?_
  refine Reg.op rfl (Ope.asg rfl ?_)
  refine Reg.op0 (Ope.store rfl rfl rfl rfl rfl rfl ?_)
  refine Reg.nil ?_
  refine Run.done ⟨rfl,trivial,d90n ?_⟩
  exact ResE.ofF (.tmp rfl (.cell rfl rfl .nil)) (by simp only [pone,PV.bd,PV.bds,hw,Bool.and_self]) rfl
theorem f48er {fa:Nat} {caps:List PV} {k:Int} (hf:Pan P0 fa caps (.ifc 25 (I k))) (hb:PV.bds 0 caps=true):Fn P0 48 [.fn (.func fa) [] caps] (.tup [.sl .ex [],I k]):=by
  unfold Fn PFun
  show PCall P0 48 _ (HE 0 []) _ _
  refine PCall.ofT (C:=c48) (cx_ok _ _ _) (fn:=Tryz.f48) (by kernel_rfl) (c:=_) rfl rfl ?_
  refine Til.seq rfl rfl ?_
  refine Run.region (cx_ok _ _ _) ?_
  refine Reg.op rfl (Ope.asg rfl ?_)
  refine Reg.op rfl (Ope.newL rfl ?_)
  refine Reg.nil ?_
  refine Run.done ⟨rfl,rfl,?_⟩
  refine Til.defer2 (cx_ok _ _ _) rfl rfl (by kernel_rfl) 2 [(2,.sl .ex []),(3,.ptr 0 0)] rfl rfl rfl rfl rfl rfl rfl rfl (Ope.mkf rfl rfl ⟨rfl,rfl⟩) rfl rfl ⟨rfl,rfl,trivial⟩ ?_
  refine RegP.op rfl (Ope.mov rfl ?_)
  refine RegP.op rfl (Ope.cp rfl rfl (by simpa using hf) (by simpa using hb) ⟨trivial,d90e rfl ?_⟩)
  exact ResE.ofF (.tmp rfl (.cell rfl rfl .nil)) rfl rfl
theorem f61t (tl:Tail) (htl:tl.isOwn=false) (L:List Rpt) (hL:L.length≤100) (hv:jouB L=true):Fn P0 61 [.sl tl (L.map Rpt.v)] (.sl .no ((std L).map Rpt.v)):=by
  have hva:=f51 tl htl L hL
  rw [hv] at hva
  have hv':=hv
  unfold jouB at hv'
  simp only [Bool.and_eq_true,decide_eq_true_eq] at hv'
  have hok:∀ r∈L,r.ok=true:=List.all_eq_true.1 hv'.1.2
  have hst:=f52 .ex rfl [(tl,L)] (fun p hp=>by rw [List.mem_singleton.1 hp];exact htl) (by simp) (by rw [cat_one];omega) (by rw [cat_one];exact hok)
  rw [cat_one] at hst
  have hb0:=bd_sl (f:=Rpt.v) htl (fun _=>rfl) L
  have hb1:PV.bds 0 [.sl tl (L.map Rpt.v)]=true:=bds_cons hb0 rfl
  have hbs:PV.bds 0 [.sl .ex [.sl tl (L.map Rpt.v)]]=true:=by
    simp only [PV.bds,PV.bd,hb0,Bool.and_self]
  have hjo:=f53 (stdM L) (Nat.le_trans (stdM_le L) hv'.1.1) (stdM_nodup L) (stdM_ids hok)
  rw [srtR_stdM] at hjo
  have hbfm:PV.bds 0 [fmR (stdM L)]=true:=by simp only [PV.bds,bd_fmR,Bool.and_self]
  refine PFun.of (C:=c61) (cx_ok _ _ _) rfl (fn:=Tryz.f61) (by kernel_rfl) (c:=_) rfl rfl rfl ?_
  refine Run.seq (Run.region (cx_ok _ _ _) (Reg.op rfl (Ope.asg rfl ?_)))
  refine Reg.nil (Run.seq (Run.region (cx_ok _ _ _) (Reg.op rfl (Ope.mov rfl ?_))))
  refine Reg.op rfl (Ope.cf rfl rfl hva hb1 ?_)
  refine Reg.op rfl (Ope.cf rfl rfl (f50t 1) rfl ?_)
  refine Reg.nil (Run.seq (Run.region (cx_ok _ _ _) (Reg.op rfl (Ope.mov rfl ?_))))
  refine Reg.op rfl (Ope.bsl rfl rfl rfl rfl ?_)
  refine Reg.op rfl (Ope.cf rfl rfl hst hbs ?_)
  refine Reg.op rfl (Ope.cf rfl rfl hjo hbfm ?_)
  refine Reg.op rfl (Ope.asg rfl ?_)
  exact Reg.nil (Run.ret (fin_ret (.tmp rfl .nil) (bd_sl (f:=Rpt.v) (tl:=.no) rfl (fun _=>rfl) _) rfl))
theorem f61f (tl:Tail) (htl:tl.isOwn=false) (L:List Rpt) (hL:L.length≤100) (hv:jouB L=false):Pan P0 61 [.sl tl (L.map Rpt.v)] (.ifc 25 (I 1)):=by
  have hva:=f51 tl htl L hL
  rw [hv] at hva
  have hb1:PV.bds 0 [.sl tl (L.map Rpt.v)]=true:=bds_cons (bd_sl (f:=Rpt.v) htl (fun _=>rfl) L) rfl
  refine PFun.of (C:=c61) (cx_ok _ _ _) rfl (fn:=Tryz.f61) (by kernel_rfl) (c:=_) rfl rfl rfl ?_
  refine Run.seq (Run.region (cx_ok _ _ _) (Reg.op rfl (Ope.asg rfl ?_)))
  refine Reg.nil (Run.seq (Run.region (cx_ok _ _ _) (Reg.op rfl (Ope.mov rfl ?_))))
  refine Reg.op rfl (Ope.cf rfl rfl hva hb1 ?_)
  refine Reg.op rfl (Ope.cp rfl rfl (f50f 1) rfl (fin_panic rfl rfl))
end Go.Pv
namespace Go.Pv
open Go.Am Go.RowKit
section
variable {C:Cx} {X:EX} {e:EL} {ds:List Nat} {K:PV→PH→Prop} {h:PH}
variable {d:Option Tmp} {type:TypeId} {pos:String} {after:Array Edge} {guard:Option (Nat×Bool)}
theorem Ope.subU {t t':TypeId} {x y:Operand} {kk:IntKind} {a b:Int} {p q:Nat} (hx:pev (lget e) x=some (.lit (.int kk a))) (hy:pev (lget e) y=some (.lit (.int kk b))) (ha:a=(p:Int)) (hb:b=(q:Int)) (hq:q≤p) (hp:p < 2 ^ (kk.bits - 1)) (hK:K (.lit (.int kk ((p - q:Nat):Int))) h) :
  Ope C X { dst:=d,op:=.binOp .sub t x y t',type,pos,after,guard } e ds h K:=by
 subst ha hb
 refine Ope.bin hx hy (v:=.lit (.int kk ((p - q:Nat):Int))) ?_ hK
 simp only [abin,aint,decide_true,plit]
 rw [← Int.natCast_sub hq,fwrap_eq,wrap_nat (by omega)]
 rfl
theorem Ope.shlU {t t':TypeId} {x y:Operand} {kk kk':IntKind} {a b:Int} {p m:Nat} (hx:pev (lget e) x=some (.lit (.int kk a))) (hy:pev (lget e) y=some (.lit (.int kk' b))) (ha:a=(p:Int)) (hb:b=(m:Int)) (hm:m≤kk.bits) (hp:p * 2 ^ m < 2 ^ (kk.bits - 1)) (hK:K (.lit (.int kk ((p * 2 ^ m:Nat):Int))) h) :
  Ope C X { dst:=d,op:=.binOp .shl t x y t',type,pos,after,guard } e ds h K:=by
 subst ha hb
 refine Ope.bin hx hy (v:=.lit (.int kk ((p * 2 ^ m:Nat):Int))) ?_ hK
 have h0:decide ((m:Int) < 0)=false:=by simp
 have e1:kk.wrap ((p:Int) * 2 ^ m)=((p * 2 ^ m:Nat):Int):=by
  have:((p:Int) * 2 ^ m)=((p * 2 ^ m:Nat):Int):=by simp
  rw [this,wrap_nat hp]
 have e2:Nat.min m kk.bits=m:=Nat.min_eq_left hm
 simp only [abin,ashift,h0,plit,Int.toNat_natCast]
 rw [show min m kk.bits=m from e2,e1]
 rfl
theorem Ope.neI {t u t':Nat} {x y:Operand} {v:PV} [hi:Ifc C.A t] (hx:pev (lget e) x=some (.ifc u v)) (hy:pev (lget e) y=some (.lit .nilifc)) (hK:K (B true) h) :
  Ope C X { dst:=d,op:=.binOp .neq t x y t',type,pos,after,guard } e ds h K:=by
 refine Ope.quiet rfl ?_ hK
 obtain ⟨ms,hms⟩:=hi.get
 simp only [pquiet,hx,hy,pbin]
 have hn:pnil C.A t (.ifc u v) (.lit .nilifc)=some false:=by simp only [pnil,hms]
 rw [hn]
 cases hv:PV.toAV (.ifc u v) with
 |none=>rfl
 |some a =>
  have:bothNil a .nilifc=false:=by
   simp only [PV.toAV] at hv
   split at hv
   ·cases hv;rfl
   ·cases hv
  simp only [PV.toAV,this]
  rfl
theorem Ope.neN {t t':Nat} {x y:Operand} [hi:Ifc C.A t] (hx:pev (lget e) x=some (.lit .nilifc)) (hy:pev (lget e) y=some (.lit .nilifc)) (hc:isConstB y=true) (hK:K (B false) h) :
  Ope C X { dst:=d,op:=.binOp .neq t x y t',type,pos,after,guard } e ds h K:=by
 refine Ope.quiet rfl ?_ hK
 obtain ⟨ms,hms⟩:=hi.get
 simp only [pquiet,hx,hy,pbin,PV.toAV,bothNil,anils,hms,hc,Bool.or_true,plit,PV.ofAV]
end
end Go.Pv
namespace Go.Pv
open Go.Proofs Go.Am
set_option maxRecDepth 10000
abbrev N (n:Nat):PV:=I (n:Int)
def U (n:Nat):PV:=.lit (.int .u64 n)
def lpS (lo hi:Nat):Nat:=1 * 2 ^ (hi+1) - 1 * 2 ^ lo
theorem lpS_lt {lo hi:Nat} (h:hi≤60):lpS lo hi < 2 ^ 62:=by
  have:=Nat.pow_le_pow_right (n:=2) (by decide) (show hi+1≤61 by omega)
  unfold lpS
  omega
theorem f126 (lo hi:Nat) (h:lo≤hi+1) (h2:hi≤60):Fn P0 126 [.agg [N lo,N hi]] (U (lpS lo hi)):=by
  have hp1:=Nat.pow_le_pow_right (n:=2) (by decide) (show hi+1≤61 by omega)
  have hp2:=Nat.pow_le_pow_right (n:=2) (by decide) h
  have hb:(2:Nat) ^ (IntKind.u64.bits - 1)=9223372036854775808:=rfl
  refine PFun.of (C:=c126) (cx_ok _ _ _) rfl (fn:=Tryz.f126) (by kernel_rfl) (c:=_) rfl rfl rfl ?_
  refine Run.seq (Run.region (cx_ok _ _ _) (Reg.op rfl (Ope.boxF rfl rfl ?_)))
  refine Reg.op rfl (Ope.asg rfl ?_)
  refine Reg.nil (Run.seq (Run.draw (cx_ok _ _ _) [(0,true),(1,true),(2,true),(3,true),(4,true),(5,true),(6,true),(7,true),(8,true)] (by kernel_rfl) (Dra.op' rfl rfl rfl .sure (Ope.fld rfl rfl ?_))))
  refine Dra.op' rfl rfl rfl .sure (Ope.load rfl rfl ?_)
  refine Dra.op' rfl rfl rfl .sure (Ope.add rfl rfl (by omega) ?_)
  refine Dra.op' rfl rfl rfl .sure (Ope.shlU (p:=1) (m:=hi+1) rfl rfl rfl (by omega) (by show hi+1≤64;omega) (by rw [hb];omega) ?_)
  refine Dra.op' rfl rfl rfl .sure (Ope.fld rfl rfl ?_)
  refine Dra.op' rfl rfl rfl .sure (Ope.load rfl rfl ?_)
  refine Dra.op' rfl rfl rfl .sure (Ope.shlU (p:=1) (m:=lo) rfl rfl rfl rfl (by show lo≤64;omega) (by rw [hb];omega) ?_)
  refine Dra.op' rfl rfl rfl .sure (Ope.subU (p:=1 * 2 ^ (hi+1)) (q:=1 * 2 ^ lo) rfl rfl rfl rfl (by omega) (by rw [hb];omega) ?_)
  refine Dra.op' rfl rfl rfl .sure (Ope.asg rfl ?_)
  exact Dra.nil (Run.ret (fin_ret (.tmp rfl .nil) rfl rfl))
theorem f63 (p q:Nat) (hp:p < 2 ^ 62) (hq:q < 2 ^ 62):Fn P0 63 [U p,U q] (U (p &&& q)):=by
  refine PFun.of (C:=c63) (cx_ok _ _ _) rfl (fn:=Tryz.f63) (by kernel_rfl) (c:=_) rfl rfl rfl ?_
  refine Run.seq (Run.region (cx_ok _ _ _) (Reg.op rfl (Ope.asg rfl ?_)))
  refine Reg.nil (Run.seq (Run.region (cx_ok _ _ _) (Reg.op rfl (Ope.mov rfl ?_))))
  refine Reg.op rfl (Ope.mov rfl ?_)
  refine Reg.op rfl (Ope.andN (p:=p) (q:=q) rfl rfl rfl rfl (by show p < 2 ^ 64;omega) (by show q < 2 ^ 63;omega) ?_)
  refine Reg.op rfl (Ope.asg rfl ?_)
  exact Reg.nil (Run.ret (fin_ret (.tmp rfl .nil) rfl rfl))
theorem f67 (p q:Nat) (hp:p < 2 ^ 62) (hq:q < 2 ^ 62):Fn P0 67 [U p,U q] (U (p ||| q)):=by
  refine PFun.of (C:=c67) (cx_ok _ _ _) rfl (fn:=Tryz.f67) (by kernel_rfl) (c:=_) rfl rfl rfl ?_
  refine Run.seq (Run.region (cx_ok _ _ _) (Reg.op rfl (Ope.asg rfl ?_)))
  refine Reg.nil (Run.seq (Run.region (cx_ok _ _ _) (Reg.op rfl (Ope.mov rfl ?_))))
  refine Reg.op rfl (Ope.mov rfl ?_)
  refine Reg.op rfl (Ope.orN (p:=p) (q:=q) rfl rfl rfl rfl (by show p < 2 ^ 63;omega) (by show q < 2 ^ 63;omega) ?_)
  refine Reg.op rfl (Ope.asg rfl ?_)
  exact Reg.nil (Run.ret (fin_ret (.tmp rfl .nil) rfl rfl))
theorem bit_dec (n k:Nat):decide ((((n >>> k) &&& 1:Nat):Int)=1)=n.testBit k:=by
  rw [Nat.testBit_eq_decide_div_mod_eq,Nat.and_one_is_mod,Nat.shiftRight_eq_div_pow]
  exact decide_eq_decide.2 (by omega)
theorem f127 (n k:Nat) (hn:n < 2 ^ 62) (hk:k≤64):Fn P0 127 [U n,N k] (B (n.testBit k)):=by
  have h1:n >>> k≤n:=Nat.shiftRight_le n k
  have hb:=bit_dec n k
  refine PFun.of (C:=c127) (cx_ok _ _ _) rfl (fn:=Tryz.f127) (by kernel_rfl) (c:=_) rfl rfl rfl ?_
  refine Run.seq (Run.region (cx_ok _ _ _) (Reg.op rfl (Ope.asg rfl ?_)))
  refine Reg.nil (Run.seq (Run.region (cx_ok _ _ _) (Reg.op rfl (Ope.mov rfl ?_))))
  refine Reg.op rfl (Ope.mov rfl ?_)
  refine Reg.op rfl (Ope.shrN (p:=n) (m:=k) rfl rfl rfl rfl hk ?_)
  refine Reg.op rfl (Ope.andN (p:=n >>> k) (q:=1) rfl rfl rfl rfl (by show n >>> k < 2 ^ 64;omega) (by decide) ?_)
  refine Reg.op rfl (Ope.eq rfl rfl ?_)
  refine Reg.op rfl (Ope.asg rfl ?_)
  refine Reg.nil (Run.ret (fin_ret (.tmp rfl .nil) rfl ?_))
  exact congrArg B hb
theorem f105 (n k:Nat) (hn:n < 2 ^ 62) (hk:k≤64):Fn P0 105 [U n,N k] (B (!n.testBit k)):=by
  refine PFun.of (C:=c105) (cx_ok _ _ _) rfl (fn:=Tryz.f105) (by kernel_rfl) (c:=_) rfl rfl rfl ?_
  refine Run.seq (Run.region (cx_ok _ _ _) (Reg.op rfl (Ope.asg rfl ?_)))
  refine Reg.nil (Run.seq (Run.region (cx_ok _ _ _) (Reg.op rfl (Ope.mov rfl ?_))))
  refine Reg.op rfl (Ope.mov rfl ?_)
  refine Reg.op rfl (Ope.cf rfl rfl (f127 n k hn hk) rfl ?_)
  refine Reg.op rfl (Ope.not rfl ?_)
  refine Reg.op rfl (Ope.asg rfl ?_)
  exact Reg.nil (Run.ret (fin_ret (.tmp rfl .nil) rfl rfl))
def someN (lo hi:Nat) (p:Nat→Bool):Bool:=(List.range (hi+1 - lo)).any fun j=>p (lo+j)
theorem someN_iff {lo hi:Nat} {p:Nat→Bool}:someN lo hi p=true↔∃ k,lo≤k∧k≤hi∧p k=true:=by
  unfold someN
  rw [List.any_eq_true]
  constructor
  · rintro ⟨j, hj, h⟩
    have:=List.mem_range.1 hj
    exact ⟨lo+j,by omega,by omega,h⟩
  · rintro ⟨k, h1, h2, h⟩
    exact ⟨k - lo,List.mem_range.2 (by omega),by rw [show lo+(k - lo)=k from by omega];exact h⟩
theorem f176 (lo hi:Nat) (hh:hi≤60) (g:Nat) (fs:List PV) (p:Nat→Bool) (hg:∀ k,k≤60→Fn P0 g (fs++[N k]++[]) (B (p k))) (hb:∀ k,PV.bds 0 (fs++[N k]++[])=true):Fn P0 176 [.agg [N lo,N hi],.fn (.func g) fs []] (B (someN lo hi p)):=by
  refine PFun.of (C:=c176) (cx_ok _ _ _) rfl (fn:=Tryz.f176) (by kernel_rfl) (c:=_) rfl rfl rfl ?_
  refine Run.seq (Run.region (cx_ok _ _ _) (Reg.op rfl (Ope.boxF rfl rfl ?_)))
  refine Reg.op rfl (Ope.asg rfl ?_)
  refine Reg.nil (Run.seq (Run.seq (Run.region (cx_ok _ _ _) (Reg.op rfl (Ope.fld rfl rfl ?_)))))
  refine Reg.op rfl (Ope.load rfl rfl ?_)
  refine Reg.op rfl (Ope.asg rfl ?_)
  refine Reg.nil (Run.block (Run.loop (α:=Nat) (fun k=>[(1,.fn (.func g) fs []),(2,.fp (.agg [N lo,N hi])),(5,N k)]) (fun _=>HE 0 []) (fun k=>lo≤k∧k≤max lo (hi+1)∧∀ j,lo≤j→j < k→p j=false) (fun k=>max lo (hi+1) - k) lo ⟨rfl,rfl,rfl,trivial⟩ rfl ⟨Nat.le_refl _,Nat.le_max_left _ _,fun j h1 h2=>by omega⟩ (fun k ht=>?_)))
  obtain ⟨h1,h2,hall⟩:=ht
  refine Run.seq (Run.seq (Run.region (cx_ok _ _ _) (Reg.op rfl (Ope.mov rfl ?_))))
  refine Reg.op rfl (Ope.fld rfl rfl ?_)
  refine Reg.op rfl (Ope.load rfl rfl ?_)
  refine Reg.op rfl (Ope.le rfl rfl ?_)
  refine Reg.nil (Run.condX rfl (fun hc=>?_) fun hc=>?_)
  ·refine Run.skip (Run.seq (Run.block (Run.seq ?_)))
   have hk:k≤60:=by omega
   refine Run.region (cx_ok _ _ _) (Reg.op rfl (Ope.mov rfl ?_))
   refine Reg.op rfl (Ope.mov rfl ?_)
   refine Reg.op rfl (Ope.cf rfl rfl (hg k hk) (hb k) ?_)
   refine Reg.nil (Run.condX rfl (fun hc=>?_) fun hc=>?_)
   ·refine Run.seq (Run.region (cx_ok _ _ _) (Reg.op rfl (Ope.asg rfl ?_)))
    refine Reg.nil (Run.ret (Jmp.retB (Jmp.code (Jmp.round (Jmp.retB (Jmp.code (fin_ret (.tmp rfl .nil) rfl ?_)))))))
    first
    | (refine congrArg B (Eq.symm (someN_iff.2 ⟨k,h1,by omega,by simpa using hc⟩)))
    | (refine congrArg B (Eq.symm ?_)
       rw [Bool.eq_false_iff]
       intro h
       obtain ⟨j,j1,j2,j3⟩:=someN_iff.1 h
       rw [hall j j1 (by omega)] at j3
       cases j3)
   ·refine Run.skip (Run.bend (Run.region (cx_ok _ _ _) (Reg.op rfl (Ope.mov rfl ?_))))
    refine Reg.op rfl (Ope.add rfl rfl (by omega) ?_)
    refine Reg.op rfl (Ope.asg rfl ?_)
    refine Reg.nil ?_
    exact Run.lend ⟨k+1,by show max lo (hi+1) - (k+1) < max lo (hi+1) - k;omega,⟨by show lo≤k+1;omega,by show k+1≤max lo (hi+1);omega,fun j j1 j2=>by
      by_cases hj:j=k
      · subst hj;simpa using hc
      · exact hall j j1 (by have:j < k+1:=j2;omega)⟩,⟨rfl,rfl,rfl,trivial⟩,rfl,rfl⟩
  ·refine Run.exit (Jmp.code (Jmp.round (Jmp.here (Run.seq (Run.region (cx_ok _ _ _) (Reg.op rfl (Ope.asg rfl ?_)))))))
   refine Reg.nil (Run.ret (fin_ret (.tmp rfl .nil) rfl ?_))
   first
   | (refine congrArg B (Eq.symm (someN_iff.2 ⟨k,h1,by omega,by simpa using hc⟩)))
   | (refine congrArg B (Eq.symm ?_)
      rw [Bool.eq_false_iff]
      intro h
      obtain ⟨j,j1,j2,j3⟩:=someN_iff.1 h
      rw [hall j j1 (by omega)] at j3
      cases j3)
end Go.Pv
namespace Go.Pv
open Go.Proofs Go.Am
set_option maxRecDepth 10000
def eV (p:Int×Int):PV:=.agg [I p.1,I p.2]
def tim (r:Rpt) (n:Nat):Int×Int:=(if someN r.a.toNat r.b.toNat n.testBit=true then 0 else 1,if someN r.a.toNat r.b.toNat (fun k=>!n.testBit k)=true then 1 else 0)
def wor (r:Rpt) (n:Nat):Int×Int:=if r.ki=2 then (-(tim r n).2,-(tim r n).1) else tim r n
theorem tim_rng (r:Rpt) (n:Nat):0≤(tim r n).1∧(tim r n).1≤1∧0≤(tim r n).2∧(tim r n).2≤1:=by
  unfold tim
  refine ⟨?_,?_,?_,?_⟩<;>(dsimp only;split<;>decide)
theorem wor_rng (r:Rpt) (n:Nat):-1≤(wor r n).1∧(wor r n).1≤1∧-1≤(wor r n).2∧(wor r n).2≤1:=by
  have:=tim_rng r n
  unfold wor
  split
  · show -1 ≤ -(tim r n).2 ∧ -(tim r n).2 ≤ 1 ∧ -1 ≤ -(tim r n).1 ∧ -(tim r n).1 ≤ 1
    omega
  · omega
theorem f172 (r:Rpt):Fn P0 172 [r.v] (I r.id):=by
  refine PFun.of (C:=c172) (cx_ok _ _ _) rfl (fn:=Tryz.f172) (by kernel_rfl) (c:=_) rfl rfl rfl ?_
  refine Run.seq (Run.region (cx_ok _ _ _) (Reg.op rfl (Ope.boxF rfl rfl ?_)))
  refine Reg.op rfl (Ope.asg rfl ?_)
  refine Reg.nil (Run.seq (Run.region (cx_ok _ _ _) (Reg.op rfl (Ope.fld rfl rfl ?_))))
  refine Reg.op rfl (Ope.fld rfl rfl ?_)
  refine Reg.op rfl (Ope.load rfl rfl ?_)
  refine Reg.op rfl (Ope.asg rfl ?_)
  exact Reg.nil (Run.ret (fin_ret (.tmp rfl .nil) rfl rfl))
theorem f173 (r:Rpt) (p:Int):Fn P0 173 [r.v,I p] (B (decide (r.pr=p))):=by
  refine PFun.of (C:=c173) (cx_ok _ _ _) rfl (fn:=Tryz.f173) (by kernel_rfl) (c:=_) rfl rfl rfl ?_
  refine Run.seq (Run.region (cx_ok _ _ _) (Reg.op rfl (Ope.boxF rfl rfl ?_)))
  refine Reg.op rfl (Ope.asg rfl ?_)
  refine Reg.nil (Run.seq (Run.region (cx_ok _ _ _) (Reg.op rfl (Ope.fld rfl rfl ?_))))
  refine Reg.op rfl (Ope.fld rfl rfl ?_)
  refine Reg.op rfl (Ope.load rfl rfl ?_)
  refine Reg.op rfl (Ope.mov rfl ?_)
  refine Reg.op rfl (Ope.eq rfl rfl ?_)
  refine Reg.op rfl (Ope.asg rfl ?_)
  exact Reg.nil (Run.ret (fin_ret (.tmp rfl .nil) rfl rfl))
theorem f174 (r : Rpt) (h1 : 0 ≤ r.a) (h2 : 0 ≤ r.b) (h3 : r.b ≤ 50) (n : Nat) (hn : n < 2 ^ 62) : Fn P0 174 [r.v, U n] (eV (tim r n)) := by
  have ea:((r.a.toNat:Nat):Int)=r.a:=by omega
  have eb:((r.b.toNat:Nat):Int)=r.b:=by omega
  have hs1:=f176 r.a.toNat r.b.toNat (by omega) 127 [U n] n.testBit (fun k hk=>f127 n k hn (by omega)) (fun k=>rfl)
  have hs2:=f176 r.a.toNat r.b.toNat (by omega) 105 [U n] (fun k=>!n.testBit k) (fun k hk=>f105 n k hn (by omega)) (fun k=>rfl)
  unfold N at hs1 hs2
  rw [ea,eb] at hs1 hs2
  have ht:eV (tim r n)=.agg [I (if someN r.a.toNat r.b.toNat n.testBit=true then 0 else 1),I (if someN r.a.toNat r.b.toNat (fun k=>!n.testBit k)=true then 1 else 0)]:=rfl
  rw [ht]
  generalize someN r.a.toNat r.b.toNat n.testBit=x1 at *
  generalize someN r.a.toNat r.b.toNat (fun k=>!n.testBit k)=x2 at *
  cases x1<;>cases x2
  · skip
    refine PFun.of (C:=c174) (cx_ok _ _ _) rfl (fn:=Tryz.f174) (by kernel_rfl) (c:=_) rfl rfl rfl ?_
    refine Run.seq (Run.region (cx_ok _ _ _) (Reg.op rfl (Ope.boxF rfl rfl ?_)))
    refine Reg.op rfl (Ope.newL rfl ?_)
    refine Reg.nil (Run.seq (Run.region (cx_ok _ _ _) (Reg.op rfl (Ope.bld rfl rfl ?_))))
    refine Reg.op rfl (Ope.newL rfl ?_)
    refine Reg.op0 (Ope.store rfl rfl hget_hd rfl rfl rfl ?_)
    refine Reg.nil (Run.seq (Run.seq (Run.region (cx_ok _ _ _) (Reg.op rfl (Ope.fld rfl rfl ?_)))))
    refine Reg.op rfl (Ope.fld rfl rfl ?_)
    refine Reg.op rfl (Ope.load rfl rfl ?_)
    refine Reg.op rfl (Ope.mov rfl ?_)
    refine Reg.op rfl (Ope.mkf rfl rfl ?_)
    refine Reg.op rfl (Ope.cf rfl rfl (hs1) rfl ?_)
    refine Reg.op rfl (Ope.not rfl ?_)
    refine Reg.nil (Run.condX rfl (fun hc=>?_) fun hc=>?_)
    ·first
     |(cases hc;done)
     |refine Run.region (cx_ok _ _ _) (Reg.op rfl (Ope.fld rfl rfl ?_))
      refine Reg.op0 (Ope.store rfl rfl hget_hd rfl rfl rfl ?_)
      refine Reg.nil (Run.seq (Run.seq (Run.region (cx_ok _ _ _) (Reg.op rfl (Ope.fld rfl rfl ?_)))))
      refine Reg.op rfl (Ope.fld rfl rfl ?_)
      refine Reg.op rfl (Ope.load rfl rfl ?_)
      refine Reg.op rfl (Ope.mov rfl ?_)
      refine Reg.op rfl (Ope.mkf rfl rfl ?_)
      refine Reg.op rfl (Ope.cf rfl rfl (hs2) rfl ?_)
      refine Reg.op rfl (Ope.not rfl ?_)
      refine Reg.nil (Run.condX rfl (fun hc=>?_) fun hc=>?_)
      ·first
       |(cases hc;done)
       |refine Run.region (cx_ok _ _ _) (Reg.op rfl (Ope.fld rfl rfl ?_))
        refine Reg.op0 (Ope.store rfl rfl hget_hd rfl rfl rfl ?_)
        refine Reg.nil (Run.seq (Run.region (cx_ok _ _ _) (Reg.op rfl (Ope.loadH rfl hget_hd rfl ?_))))
        refine Reg.op0 (Ope.store rfl rfl rfl rfl rfl rfl ?_)
        exact Reg.nil (Run.ret (fin_ret (.cell rfl rfl .nil) rfl rfl))
      ·first
       |(cases hc;done)
       |refine Run.skip (Run.seq (Run.region (cx_ok _ _ _) (Reg.op rfl (Ope.loadH rfl hget_hd rfl ?_))))
        refine Reg.op0 (Ope.store rfl rfl rfl rfl rfl rfl ?_)
        exact Reg.nil (Run.ret (fin_ret (.cell rfl rfl .nil) rfl rfl))
    ·first
     |(cases hc;done)
     |refine Run.skip (Run.seq (Run.seq (Run.region (cx_ok _ _ _) (Reg.op rfl (Ope.fld rfl rfl ?_)))))
      refine Reg.op rfl (Ope.fld rfl rfl ?_)
      refine Reg.op rfl (Ope.load rfl rfl ?_)
      refine Reg.op rfl (Ope.mov rfl ?_)
      refine Reg.op rfl (Ope.mkf rfl rfl ?_)
      refine Reg.op rfl (Ope.cf rfl rfl (hs2) rfl ?_)
      refine Reg.op rfl (Ope.not rfl ?_)
      refine Reg.nil (Run.condX rfl (fun hc=>?_) fun hc=>?_)
      ·first
       |(cases hc;done)
       |refine Run.region (cx_ok _ _ _) (Reg.op rfl (Ope.fld rfl rfl ?_))
        refine Reg.op0 (Ope.store rfl rfl hget_hd rfl rfl rfl ?_)
        refine Reg.nil (Run.seq (Run.region (cx_ok _ _ _) (Reg.op rfl (Ope.loadH rfl hget_hd rfl ?_))))
        refine Reg.op0 (Ope.store rfl rfl rfl rfl rfl rfl ?_)
        exact Reg.nil (Run.ret (fin_ret (.cell rfl rfl .nil) rfl rfl))
      ·first
       |(cases hc;done)
       |refine Run.skip (Run.seq (Run.region (cx_ok _ _ _) (Reg.op rfl (Ope.loadH rfl hget_hd rfl ?_))))
        refine Reg.op0 (Ope.store rfl rfl rfl rfl rfl rfl ?_)
        exact Reg.nil (Run.ret (fin_ret (.cell rfl rfl .nil) rfl rfl))
  · skip
    refine PFun.of (C:=c174) (cx_ok _ _ _) rfl (fn:=Tryz.f174) (by kernel_rfl) (c:=_) rfl rfl rfl ?_
    refine Run.seq (Run.region (cx_ok _ _ _) (Reg.op rfl (Ope.boxF rfl rfl ?_)))
    refine Reg.op rfl (Ope.newL rfl ?_)
    refine Reg.nil (Run.seq (Run.region (cx_ok _ _ _) (Reg.op rfl (Ope.bld rfl rfl ?_))))
    refine Reg.op rfl (Ope.newL rfl ?_)
    refine Reg.op0 (Ope.store rfl rfl hget_hd rfl rfl rfl ?_)
    refine Reg.nil (Run.seq (Run.seq (Run.region (cx_ok _ _ _) (Reg.op rfl (Ope.fld rfl rfl ?_)))))
    refine Reg.op rfl (Ope.fld rfl rfl ?_)
    refine Reg.op rfl (Ope.load rfl rfl ?_)
    refine Reg.op rfl (Ope.mov rfl ?_)
    refine Reg.op rfl (Ope.mkf rfl rfl ?_)
    refine Reg.op rfl (Ope.cf rfl rfl (hs1) rfl ?_)
    refine Reg.op rfl (Ope.not rfl ?_)
    refine Reg.nil (Run.condX rfl (fun hc=>?_) fun hc=>?_)
    ·first
     |(cases hc;done)
     |refine Run.region (cx_ok _ _ _) (Reg.op rfl (Ope.fld rfl rfl ?_))
      refine Reg.op0 (Ope.store rfl rfl hget_hd rfl rfl rfl ?_)
      refine Reg.nil (Run.seq (Run.seq (Run.region (cx_ok _ _ _) (Reg.op rfl (Ope.fld rfl rfl ?_)))))
      refine Reg.op rfl (Ope.fld rfl rfl ?_)
      refine Reg.op rfl (Ope.load rfl rfl ?_)
      refine Reg.op rfl (Ope.mov rfl ?_)
      refine Reg.op rfl (Ope.mkf rfl rfl ?_)
      refine Reg.op rfl (Ope.cf rfl rfl (hs2) rfl ?_)
      refine Reg.op rfl (Ope.not rfl ?_)
      refine Reg.nil (Run.condX rfl (fun hc=>?_) fun hc=>?_)
      ·first
       |(cases hc;done)
       |refine Run.region (cx_ok _ _ _) (Reg.op rfl (Ope.fld rfl rfl ?_))
        refine Reg.op0 (Ope.store rfl rfl hget_hd rfl rfl rfl ?_)
        refine Reg.nil (Run.seq (Run.region (cx_ok _ _ _) (Reg.op rfl (Ope.loadH rfl hget_hd rfl ?_))))
        refine Reg.op0 (Ope.store rfl rfl rfl rfl rfl rfl ?_)
        exact Reg.nil (Run.ret (fin_ret (.cell rfl rfl .nil) rfl rfl))
      ·first
       |(cases hc;done)
       |refine Run.skip (Run.seq (Run.region (cx_ok _ _ _) (Reg.op rfl (Ope.loadH rfl hget_hd rfl ?_))))
        refine Reg.op0 (Ope.store rfl rfl rfl rfl rfl rfl ?_)
        exact Reg.nil (Run.ret (fin_ret (.cell rfl rfl .nil) rfl rfl))
    ·first
     |(cases hc;done)
     |refine Run.skip (Run.seq (Run.seq (Run.region (cx_ok _ _ _) (Reg.op rfl (Ope.fld rfl rfl ?_)))))
      refine Reg.op rfl (Ope.fld rfl rfl ?_)
      refine Reg.op rfl (Ope.load rfl rfl ?_)
      refine Reg.op rfl (Ope.mov rfl ?_)
      refine Reg.op rfl (Ope.mkf rfl rfl ?_)
      refine Reg.op rfl (Ope.cf rfl rfl (hs2) rfl ?_)
      refine Reg.op rfl (Ope.not rfl ?_)
      refine Reg.nil (Run.condX rfl (fun hc=>?_) fun hc=>?_)
      ·first
       |(cases hc;done)
       |refine Run.region (cx_ok _ _ _) (Reg.op rfl (Ope.fld rfl rfl ?_))
        refine Reg.op0 (Ope.store rfl rfl hget_hd rfl rfl rfl ?_)
        refine Reg.nil (Run.seq (Run.region (cx_ok _ _ _) (Reg.op rfl (Ope.loadH rfl hget_hd rfl ?_))))
        refine Reg.op0 (Ope.store rfl rfl rfl rfl rfl rfl ?_)
        exact Reg.nil (Run.ret (fin_ret (.cell rfl rfl .nil) rfl rfl))
      ·first
       |(cases hc;done)
       |refine Run.skip (Run.seq (Run.region (cx_ok _ _ _) (Reg.op rfl (Ope.loadH rfl hget_hd rfl ?_))))
        refine Reg.op0 (Ope.store rfl rfl rfl rfl rfl rfl ?_)
        exact Reg.nil (Run.ret (fin_ret (.cell rfl rfl .nil) rfl rfl))
  · skip
    refine PFun.of (C:=c174) (cx_ok _ _ _) rfl (fn:=Tryz.f174) (by kernel_rfl) (c:=_) rfl rfl rfl ?_
    refine Run.seq (Run.region (cx_ok _ _ _) (Reg.op rfl (Ope.boxF rfl rfl ?_)))
    refine Reg.op rfl (Ope.newL rfl ?_)
    refine Reg.nil (Run.seq (Run.region (cx_ok _ _ _) (Reg.op rfl (Ope.bld rfl rfl ?_))))
    refine Reg.op rfl (Ope.newL rfl ?_)
    refine Reg.op0 (Ope.store rfl rfl hget_hd rfl rfl rfl ?_)
    refine Reg.nil (Run.seq (Run.seq (Run.region (cx_ok _ _ _) (Reg.op rfl (Ope.fld rfl rfl ?_)))))
    refine Reg.op rfl (Ope.fld rfl rfl ?_)
    refine Reg.op rfl (Ope.load rfl rfl ?_)
    refine Reg.op rfl (Ope.mov rfl ?_)
    refine Reg.op rfl (Ope.mkf rfl rfl ?_)
    refine Reg.op rfl (Ope.cf rfl rfl (hs1) rfl ?_)
    refine Reg.op rfl (Ope.not rfl ?_)
    refine Reg.nil (Run.condX rfl (fun hc=>?_) fun hc=>?_)
    ·first
     |(cases hc;done)
     |refine Run.region (cx_ok _ _ _) (Reg.op rfl (Ope.fld rfl rfl ?_))
      refine Reg.op0 (Ope.store rfl rfl hget_hd rfl rfl rfl ?_)
      refine Reg.nil (Run.seq (Run.seq (Run.region (cx_ok _ _ _) (Reg.op rfl (Ope.fld rfl rfl ?_)))))
      refine Reg.op rfl (Ope.fld rfl rfl ?_)
      refine Reg.op rfl (Ope.load rfl rfl ?_)
      refine Reg.op rfl (Ope.mov rfl ?_)
      refine Reg.op rfl (Ope.mkf rfl rfl ?_)
      refine Reg.op rfl (Ope.cf rfl rfl (hs2) rfl ?_)
      refine Reg.op rfl (Ope.not rfl ?_)
      refine Reg.nil (Run.condX rfl (fun hc=>?_) fun hc=>?_)
      ·first
       |(cases hc;done)
       |refine Run.region (cx_ok _ _ _) (Reg.op rfl (Ope.fld rfl rfl ?_))
        refine Reg.op0 (Ope.store rfl rfl hget_hd rfl rfl rfl ?_)
        refine Reg.nil (Run.seq (Run.region (cx_ok _ _ _) (Reg.op rfl (Ope.loadH rfl hget_hd rfl ?_))))
        refine Reg.op0 (Ope.store rfl rfl rfl rfl rfl rfl ?_)
        exact Reg.nil (Run.ret (fin_ret (.cell rfl rfl .nil) rfl rfl))
      ·first
       |(cases hc;done)
       |refine Run.skip (Run.seq (Run.region (cx_ok _ _ _) (Reg.op rfl (Ope.loadH rfl hget_hd rfl ?_))))
        refine Reg.op0 (Ope.store rfl rfl rfl rfl rfl rfl ?_)
        exact Reg.nil (Run.ret (fin_ret (.cell rfl rfl .nil) rfl rfl))
    ·first
     |(cases hc;done)
     |refine Run.skip (Run.seq (Run.seq (Run.region (cx_ok _ _ _) (Reg.op rfl (Ope.fld rfl rfl ?_)))))
      refine Reg.op rfl (Ope.fld rfl rfl ?_)
      refine Reg.op rfl (Ope.load rfl rfl ?_)
      refine Reg.op rfl (Ope.mov rfl ?_)
      refine Reg.op rfl (Ope.mkf rfl rfl ?_)
      refine Reg.op rfl (Ope.cf rfl rfl (hs2) rfl ?_)
      refine Reg.op rfl (Ope.not rfl ?_)
      refine Reg.nil (Run.condX rfl (fun hc=>?_) fun hc=>?_)
      ·first
       |(cases hc;done)
       |refine Run.region (cx_ok _ _ _) (Reg.op rfl (Ope.fld rfl rfl ?_))
        refine Reg.op0 (Ope.store rfl rfl hget_hd rfl rfl rfl ?_)
        refine Reg.nil (Run.seq (Run.region (cx_ok _ _ _) (Reg.op rfl (Ope.loadH rfl hget_hd rfl ?_))))
        refine Reg.op0 (Ope.store rfl rfl rfl rfl rfl rfl ?_)
        exact Reg.nil (Run.ret (fin_ret (.cell rfl rfl .nil) rfl rfl))
      ·first
       |(cases hc;done)
       |refine Run.skip (Run.seq (Run.region (cx_ok _ _ _) (Reg.op rfl (Ope.loadH rfl hget_hd rfl ?_))))
        refine Reg.op0 (Ope.store rfl rfl rfl rfl rfl rfl ?_)
        exact Reg.nil (Run.ret (fin_ret (.cell rfl rfl .nil) rfl rfl))
  · skip
    refine PFun.of (C:=c174) (cx_ok _ _ _) rfl (fn:=Tryz.f174) (by kernel_rfl) (c:=_) rfl rfl rfl ?_
    refine Run.seq (Run.region (cx_ok _ _ _) (Reg.op rfl (Ope.boxF rfl rfl ?_)))
    refine Reg.op rfl (Ope.newL rfl ?_)
    refine Reg.nil (Run.seq (Run.region (cx_ok _ _ _) (Reg.op rfl (Ope.bld rfl rfl ?_))))
    refine Reg.op rfl (Ope.newL rfl ?_)
    refine Reg.op0 (Ope.store rfl rfl hget_hd rfl rfl rfl ?_)
    refine Reg.nil (Run.seq (Run.seq (Run.region (cx_ok _ _ _) (Reg.op rfl (Ope.fld rfl rfl ?_)))))
    refine Reg.op rfl (Ope.fld rfl rfl ?_)
    refine Reg.op rfl (Ope.load rfl rfl ?_)
    refine Reg.op rfl (Ope.mov rfl ?_)
    refine Reg.op rfl (Ope.mkf rfl rfl ?_)
    refine Reg.op rfl (Ope.cf rfl rfl (hs1) rfl ?_)
    refine Reg.op rfl (Ope.not rfl ?_)
    refine Reg.nil (Run.condX rfl (fun hc=>?_) fun hc=>?_)
    ·first
     |(cases hc;done)
     |refine Run.region (cx_ok _ _ _) (Reg.op rfl (Ope.fld rfl rfl ?_))
      refine Reg.op0 (Ope.store rfl rfl hget_hd rfl rfl rfl ?_)
      refine Reg.nil (Run.seq (Run.seq (Run.region (cx_ok _ _ _) (Reg.op rfl (Ope.fld rfl rfl ?_)))))
      refine Reg.op rfl (Ope.fld rfl rfl ?_)
      refine Reg.op rfl (Ope.load rfl rfl ?_)
      refine Reg.op rfl (Ope.mov rfl ?_)
      refine Reg.op rfl (Ope.mkf rfl rfl ?_)
      refine Reg.op rfl (Ope.cf rfl rfl (hs2) rfl ?_)
      refine Reg.op rfl (Ope.not rfl ?_)
      refine Reg.nil (Run.condX rfl (fun hc=>?_) fun hc=>?_)
      ·first
       |(cases hc;done)
       |refine Run.region (cx_ok _ _ _) (Reg.op rfl (Ope.fld rfl rfl ?_))
        refine Reg.op0 (Ope.store rfl rfl hget_hd rfl rfl rfl ?_)
        refine Reg.nil (Run.seq (Run.region (cx_ok _ _ _) (Reg.op rfl (Ope.loadH rfl hget_hd rfl ?_))))
        refine Reg.op0 (Ope.store rfl rfl rfl rfl rfl rfl ?_)
        exact Reg.nil (Run.ret (fin_ret (.cell rfl rfl .nil) rfl rfl))
      ·first
       |(cases hc;done)
       |refine Run.skip (Run.seq (Run.region (cx_ok _ _ _) (Reg.op rfl (Ope.loadH rfl hget_hd rfl ?_))))
        refine Reg.op0 (Ope.store rfl rfl rfl rfl rfl rfl ?_)
        exact Reg.nil (Run.ret (fin_ret (.cell rfl rfl .nil) rfl rfl))
    ·first
     |(cases hc;done)
     |refine Run.skip (Run.seq (Run.seq (Run.region (cx_ok _ _ _) (Reg.op rfl (Ope.fld rfl rfl ?_)))))
      refine Reg.op rfl (Ope.fld rfl rfl ?_)
      refine Reg.op rfl (Ope.load rfl rfl ?_)
      refine Reg.op rfl (Ope.mov rfl ?_)
      refine Reg.op rfl (Ope.mkf rfl rfl ?_)
      refine Reg.op rfl (Ope.cf rfl rfl (hs2) rfl ?_)
      refine Reg.op rfl (Ope.not rfl ?_)
      refine Reg.nil (Run.condX rfl (fun hc=>?_) fun hc=>?_)
      ·first
       |(cases hc;done)
       |refine Run.region (cx_ok _ _ _) (Reg.op rfl (Ope.fld rfl rfl ?_))
        refine Reg.op0 (Ope.store rfl rfl hget_hd rfl rfl rfl ?_)
        refine Reg.nil (Run.seq (Run.region (cx_ok _ _ _) (Reg.op rfl (Ope.loadH rfl hget_hd rfl ?_))))
        refine Reg.op0 (Ope.store rfl rfl rfl rfl rfl rfl ?_)
        exact Reg.nil (Run.ret (fin_ret (.cell rfl rfl .nil) rfl rfl))
      ·first
       |(cases hc;done)
       |refine Run.skip (Run.seq (Run.region (cx_ok _ _ _) (Reg.op rfl (Ope.loadH rfl hget_hd rfl ?_))))
        refine Reg.op0 (Ope.store rfl rfl rfl rfl rfl rfl ?_)
        exact Reg.nil (Run.ret (fin_ret (.cell rfl rfl .nil) rfl rfl))
theorem f175 (r:Rpt) (h1:0≤r.a) (h2:0≤r.b) (h3:r.b≤50) (n:Nat) (hn:n < 2 ^ 62):Fn P0 175 [r.v,U n] (eV (tim r n)):=by
  refine PFun.of (C:=c175) (cx_ok _ _ _) rfl (fn:=Tryz.f175) (by kernel_rfl) (c:=_) rfl rfl rfl ?_
  refine Run.seq (Run.region (cx_ok _ _ _) (Reg.op rfl (Ope.boxF rfl rfl ?_)))
  refine Reg.op rfl (Ope.newL rfl ?_)
  refine Reg.nil (Run.seq (Run.region (cx_ok _ _ _) (Reg.op rfl (Ope.load rfl rfl ?_))))
  refine Reg.op rfl (Ope.mov rfl ?_)
  refine Reg.op rfl (Ope.cf rfl rfl (f174 r h1 h2 h3 n hn) rfl ?_)
  refine Reg.op0 (Ope.store rfl rfl rfl rfl rfl rfl ?_)
  exact Reg.nil (Run.ret (fin_ret (.cell rfl rfl .nil) rfl rfl))
theorem f171 (p:Int×Int) (h:-1000≤p.1∧p.1≤1000∧-1000≤p.2∧p.2≤1000):Fn P0 171 [eV p] (eV (-p.2,-p.1)):=by
  refine PFun.of (C:=c171) (cx_ok _ _ _) rfl (fn:=Tryz.f171) (by kernel_rfl) (c:=_) rfl rfl rfl ?_
  refine Run.seq (Run.region (cx_ok _ _ _) (Reg.op rfl (Ope.boxF rfl rfl ?_)))
  refine Reg.op rfl (Ope.newL rfl ?_)
  refine Reg.nil (Run.seq (Run.region (cx_ok _ _ _) (Reg.op rfl (Ope.fld rfl rfl ?_))))
  refine Reg.op rfl (Ope.load rfl rfl ?_)
  refine Reg.op rfl (Ope.neg rfl (by omega) ?_)
  refine Reg.op rfl (Ope.fld rfl rfl ?_)
  refine Reg.op rfl (Ope.load rfl rfl ?_)
  refine Reg.op rfl (Ope.neg rfl (by omega) ?_)
  refine Reg.op rfl (Ope.bld rfl rfl ?_)
  refine Reg.op0 (Ope.store rfl rfl rfl rfl rfl rfl ?_)
  exact Reg.nil (Run.ret (fin_ret (.cell rfl rfl .nil) rfl rfl))
theorem f177 (r:Rpt) (h1:0≤r.a) (h2:0≤r.b) (h3:r.b≤50) (n:Nat) (hn:n < 2 ^ 62):Fn P0 177 [r.v,U n] (eV (-(tim r n).2,-(tim r n).1)):=by
  have hr:=tim_rng r n
  refine PFun.of (C:=c177) (cx_ok _ _ _) rfl (fn:=Tryz.f177) (by kernel_rfl) (c:=_) rfl rfl rfl ?_
  refine Run.seq (Run.region (cx_ok _ _ _) (Reg.op rfl (Ope.boxF rfl rfl ?_)))
  refine Reg.op rfl (Ope.newL rfl ?_)
  refine Reg.nil (Run.seq (Run.region (cx_ok _ _ _) (Reg.op rfl (Ope.fld rfl rfl ?_))))
  refine Reg.op rfl (Ope.load rfl rfl ?_)
  refine Reg.op rfl (Ope.mov rfl ?_)
  refine Reg.op rfl (Ope.cf rfl rfl (f174 r h1 h2 h3 n hn) rfl ?_)
  refine Reg.op rfl (Ope.cf rfl rfl (f171 (tim r n) (by omega)) rfl ?_)
  refine Reg.op0 (Ope.store rfl rfl rfl rfl rfl rfl ?_)
  exact Reg.nil (Run.ret (fin_ret (.cell rfl rfl .nil) rfl rfl))
theorem f112 (p q:Int×Int) (h:-1000≤p.1∧p.1≤1000∧-1000≤p.2∧p.2≤1000) (h':-1000≤q.1∧q.1≤1000∧-1000≤q.2∧q.2≤1000):Fn P0 112 [eV p,eV q] (eV (p.1+q.1,p.2+q.2)):=by
  refine PFun.of (C:=c112) (cx_ok _ _ _) rfl (fn:=Tryz.f112) (by kernel_rfl) (c:=_) rfl rfl rfl ?_
  refine Run.seq (Run.region (cx_ok _ _ _) (Reg.op rfl (Ope.boxF rfl rfl ?_)))
  refine Reg.op rfl (Ope.boxF rfl rfl ?_)
  refine Reg.op rfl (Ope.newL rfl ?_)
  refine Reg.nil (Run.seq (Run.region (cx_ok _ _ _) (Reg.op rfl (Ope.fld rfl rfl ?_))))
  refine Reg.op rfl (Ope.load rfl rfl ?_)
  refine Reg.op rfl (Ope.fld rfl rfl ?_)
  refine Reg.op rfl (Ope.load rfl rfl ?_)
  refine Reg.op rfl (Ope.add rfl rfl (by omega) ?_)
  refine Reg.op rfl (Ope.fld rfl rfl ?_)
  refine Reg.op rfl (Ope.load rfl rfl ?_)
  refine Reg.op rfl (Ope.fld rfl rfl ?_)
  refine Reg.op rfl (Ope.load rfl rfl ?_)
  refine Reg.op rfl (Ope.add rfl rfl (by omega) ?_)
  refine Reg.op rfl (Ope.bld rfl rfl ?_)
  refine Reg.op0 (Ope.store rfl rfl rfl rfl rfl rfl ?_)
  exact Reg.nil (Run.ret (fin_ret (.cell rfl rfl .nil) rfl rfl))
theorem f129 (p q:Int×Int):Fn P0 129 [eV p,eV q] (eV (min p.1 q.1,max p.2 q.2)):=by
  refine PFun.of (C:=c129) (cx_ok _ _ _) rfl (fn:=Tryz.f129) (by kernel_rfl) (c:=_) rfl rfl rfl ?_
  refine Run.seq (Run.region (cx_ok _ _ _) (Reg.op rfl (Ope.boxF rfl rfl ?_)))
  refine Reg.op rfl (Ope.boxF rfl rfl ?_)
  refine Reg.op rfl (Ope.newL rfl ?_)
  refine Reg.nil (Run.seq (Run.region (cx_ok _ _ _) (Reg.op rfl (Ope.fld rfl rfl ?_))))
  refine Reg.op rfl (Ope.load rfl rfl ?_)
  refine Reg.op rfl (Ope.fld rfl rfl ?_)
  refine Reg.op rfl (Ope.load rfl rfl ?_)
  refine Reg.op rfl (Ope.minI rfl rfl ?_)
  refine Reg.op rfl (Ope.fld rfl rfl ?_)
  refine Reg.op rfl (Ope.load rfl rfl ?_)
  refine Reg.op rfl (Ope.fld rfl rfl ?_)
  refine Reg.op rfl (Ope.load rfl rfl ?_)
  refine Reg.op rfl (Ope.maxI rfl rfl ?_)
  refine Reg.op rfl (Ope.bld rfl rfl ?_)
  refine Reg.op0 (Ope.store rfl rfl rfl rfl rfl rfl ?_)
  exact Reg.nil (Run.ret (fin_ret (.cell rfl rfl .nil) rfl rfl))
end Go.Pv
namespace Go.Pv
open Go.Proofs Go.Am
set_option maxRecDepth 10000
def scR (L:List Rpt):List Rpt:=L.filter fun r=>decide (r.ki≠0)
def scT (r:Rpt):Nat:=if r.ki=1 then gainT else lossT
def sV (r:Rpt):PV:=.ifc (scT r) r.v
theorem scoV_ne {r:Rpt} (h:r.ki≠0):scoV r=sV r:=by
  unfold scoV sV scT
  rw [if_neg h]
  split<;>rfl
theorem scR_take {L:List Rpt} {i:Nat} (h:i < L.length):scR (L.take (i+1))=if L[i].ki=0 then scR (L.take i) else scR (L.take i)++[L[i]]:=by
  unfold scR
  rw [List.take_succ_eq_append_getElem h,List.filter_append]
  by_cases hk:L[i].ki=0
  · rw [if_pos hk,List.filter_cons,decide_eq_false (by simp [hk])];simp
  · rw [if_neg hk,List.filter_cons,decide_eq_true hk];rfl
theorem scR_len (L:List Rpt):(scR L).length≤L.length:=List.length_filter_le _ _
theorem f70 (tl:Tail) (J:List Rpt) (hJ:J.length≤100) (hok:∀ r∈J,r.ok=true):Fn P0 70 [.sl tl (J.map Rpt.v)] (.sl .no ((scR J).map sV)):=by
  have hft:=fun i (h:i < J.length)=>scR_take h
  have hfl:∀ i,i≤J.length→(scR (J.take i)).length≤100:=fun i h=>by
    have:=scR_len (J.take i)
    rw [List.length_take] at this
    omega
  have hat:∀ i (h:i < J.length),J[i]=atR J i:=fun i h=>(atR_get h).symm
  have hoki:∀ i,i < J.length→0≤(atR J i).ki∧(atR J i).ki≤2:=fun i h=>by
    rw [atR_get h];exact Rpt.ok_ki (hok _ (List.getElem_mem h))
  refine PFun.of (C:=c70) (cx_ok _ _ _) rfl (fn:=Tryz.f70) (by kernel_rfl) (c:=_) rfl rfl rfl ?_
  refine Run.seq (Run.region (cx_ok _ _ _) (Reg.op rfl (Ope.asg rfl ?_)))
  refine Reg.nil (Run.seq (Run.region (cx_ok _ _ _) (Reg.op rfl (Ope.asg rfl ?_))))
  refine Reg.nil (Run.seq (Run.seq (Run.region (cx_ok _ _ _) (Reg.op rfl (Ope.mov rfl ?_)))))
  refine Reg.op rfl (Ope.len (m:=J.length) rfl (by simp) ?_)
  refine Reg.op rfl (Ope.mov rfl ?_)
  refine Reg.nil (Run.block (Run.loop (α:=Nat×Option Nat×Nat) (fun t=>[(3,.sl (tlU t.2.1) ((scR (J.take t.1)).map sV)),(7,.sl tl (J.map Rpt.v)),(8,I J.length),(9,I t.1)]) (fun t=>HE t.2.2 (ownU t.2.1++[])) (fun t=>t.1≤J.length∧∀ j,t.2.1=some j→j < t.2.2∧scR (J.take t.1)≠[]) (fun t=>J.length - t.1) (0,none,0) ⟨rfl,rfl,rfl,rfl,trivial⟩ rfl ⟨Nat.zero_le _,fun j hj=>by cases hj⟩ (fun t ht=>?_)))
  obtain ⟨i,o',m⟩:=t
  obtain ⟨hi,hO⟩:=ht
  simp only at hi hO
  have hfi:=hfl i hi
  show Run _ _ _ _ [(3,.sl (tlU o') ((scR (J.take i)).map sV)),(7,.sl tl (J.map Rpt.v)),(8,I J.length),(9,I i)] [] (HE m (ownU o'++[]))
  by_cases hkq:(atR J i).ki=0
  ·refine Run.seq (Run.region (cx_ok _ _ _) (Reg.op rfl (Ope.lt rfl rfl ?_)))
   refine Reg.nil (Run.seq (Run.condX rfl (fun hc=>?_) fun hc=>?_))
   ·refine Run.skip (Run.seq (Run.block (Run.seq ?_)))
    have hlt:i < J.length:=by omega
    have hno:∀ j,o'=some j→j < m:=fun j hj=>(hO j hj).1
    have hfti:=hft i hlt
    have hai:=hat i hlt
    obtain ⟨hk0,hk2⟩:=hoki i hlt
    rw [hai] at hfti
    refine Run.region (cx_ok _ _ _) (Reg.op rfl (Ope.idxM (m:=i) (f:=Rpt.v) rfl rfl rfl hlt (fun _=>rfl) ?_))
    rw [hai]
    generalize atR J i=r at *
    refine Reg.op rfl (Ope.load rfl rfl ?_)
    refine Reg.op rfl (Ope.newL rfl ?_)
    refine Reg.op0 (Ope.store rfl rfl hget_hd rfl rfl rfl ?_)
    refine Reg.nil (Run.seq (Run.frz (d:=5) true rfl hget_hd rfl ?_))
    refine Run.wideS (m:=m+1) (l':=ownU o'++[]) (Nat.le_refl _) (hs_skip (hs_skip (hs_skip hs_refl (ownU_none hno rfl)) (ownU_none hno rfl)) (ownU_none hno rfl)) ?_
    have hks:=fKSco r
    first
    | (rw [show scoV r=.lit .nilifc from if_pos hkq] at hks)
    | (rw [scoV_ne hkq] at hks)
    refine Run.draw (cx_ok _ _ _) [(0,true),(3,false),(1,true),(2,true),(4,true),(5,true)] (by kernel_rfl) (Dra.op' rfl rfl rfl .sure (Ope.load rfl rfl ?_))
    refine Dra.op' rfl rfl rfl (.load rfl) (Ope.load rfl rfl ?_)
    refine Dra.op' rfl rfl rfl .sure (Ope.cf rfl rfl (f94 r hk0 hk2) rfl ?_)
    refine Dra.op' rfl rfl rfl .sure (Ope.field rfl rfl ?_)
    refine Dra.op' rfl rfl rfl .sure (Ope.cf rfl rfl (hks) rfl ?_)
    refine Dra.op' rfl rfl rfl .sure (Ope.asg rfl ?_)
    refine Dra.nil (Run.seq (Run.region (cx_ok _ _ _) (Reg.op rfl (Ope.mov rfl ?_))))
    first
    | refine Reg.op rfl (Ope.neN rfl rfl rfl ?_)
    | refine Reg.op rfl (Ope.neI rfl rfl ?_)
    refine Reg.nil (Run.condX rfl (fun hc=>?_) fun hc=>?_)
    ·first
     |(cases hc;done)
     |refine Run.region (cx_ok _ _ _) (Reg.op rfl (Ope.mov rfl ?_))
      refine Reg.op rfl (Ope.mov rfl ?_)
      refine Reg.op rfl (Ope.bsl rfl rfl rfl rfl ?_)
      refine Reg.op rfl (Ope.apU (o':=o') (vs:=(scR (J.take i)).map sV) (ws:=[sV r]) rfl rfl (by simp) (fun j hj=>⟨by have:=(hO j hj).2;simpa using this,rfl⟩) (by simp only [List.length_map,List.length_singleton];omega) (by simp only [List.length_map,List.length_singleton];omega) (by decide) (by intro v hv;obtain ⟨_,_,rfl⟩:=List.mem_map.1 hv;rfl) (by intro v hv;simp only [List.mem_singleton] at hv;subst hv;exact ⟨rfl,rfl⟩) ?_)
      refine Reg.op rfl (Ope.asg rfl ?_)
      refine Reg.nil (Run.bend (Run.region (cx_ok _ _ _) (Reg.op rfl (Ope.add rfl rfl (by omega) ?_))))
      refine Reg.op rfl (Ope.mov rfl ?_)
      refine Reg.nil ?_
      first
      | (rw [if_neg hkq] at hfti
         exact Run.lend ⟨(i+1,some (m+1),m+2),by show J.length - (i+1) < J.length - i;omega,⟨by show i+1≤J.length;omega,fun j hj=>by cases hj;exact ⟨Nat.lt_succ_self _,by rw [hfti];simp⟩⟩,⟨congrArg (fun l=>some (PV.sl (.own (m+1)) l)) (by rw [hfti,List.map_append];rfl),rfl,rfl,rfl,trivial⟩,rfl,rfl⟩)
      | (rw [if_pos hkq] at hfti
         exact Run.lend ⟨(i+1,o',m+1),by show J.length - (i+1) < J.length - i;omega,⟨by show i+1≤J.length;omega,fun j hj=>⟨by have:=hno j hj;show j < m+1;omega,by rw [hfti];exact (hO j hj).2⟩⟩,⟨congrArg (fun l=>some (PV.sl (tlU o') l)) (by rw [hfti]),rfl,rfl,rfl,trivial⟩,rfl,rfl⟩)
    ·first
     |(cases hc;done)
     |refine Run.skip (Run.bend (Run.region (cx_ok _ _ _) (Reg.op rfl (Ope.add rfl rfl (by omega) ?_))))
      refine Reg.op rfl (Ope.mov rfl ?_)
      refine Reg.nil ?_
      first
      | (rw [if_neg hkq] at hfti
         exact Run.lend ⟨(i+1,some (m+1),m+2),by show J.length - (i+1) < J.length - i;omega,⟨by show i+1≤J.length;omega,fun j hj=>by cases hj;exact ⟨Nat.lt_succ_self _,by rw [hfti];simp⟩⟩,⟨congrArg (fun l=>some (PV.sl (.own (m+1)) l)) (by rw [hfti,List.map_append];rfl),rfl,rfl,rfl,trivial⟩,rfl,rfl⟩)
      | (rw [if_pos hkq] at hfti
         exact Run.lend ⟨(i+1,o',m+1),by show J.length - (i+1) < J.length - i;omega,⟨by show i+1≤J.length;omega,fun j hj=>⟨by have:=hno j hj;show j < m+1;omega,by rw [hfti];exact (hO j hj).2⟩⟩,⟨congrArg (fun l=>some (PV.sl (tlU o') l)) (by rw [hfti]),rfl,rfl,rfl,trivial⟩,rfl,rfl⟩)
   ·refine Run.exit (Jmp.code (Jmp.round (Jmp.here (Run.seq ?_))))
    obtain rfl:i=J.length:=by omega
    rw [List.take_length]
    refine Run.weakT (d:=3) rfl ?_
    refine Run.region (cx_ok _ _ _) (Reg.op rfl (Ope.mov rfl ?_))
    refine Reg.op rfl (Ope.asg rfl ?_)
    exact Reg.nil (Run.ret (fin_ret (.tmp rfl .nil) (bd_sl (f:=sV) (tl:=.no) rfl (fun _=>rfl) _) rfl))
  ·refine Run.seq (Run.region (cx_ok _ _ _) (Reg.op rfl (Ope.lt rfl rfl ?_)))
   refine Reg.nil (Run.seq (Run.condX rfl (fun hc=>?_) fun hc=>?_))
   ·refine Run.skip (Run.seq (Run.block (Run.seq ?_)))
    have hlt:i < J.length:=by omega
    have hno:∀ j,o'=some j→j < m:=fun j hj=>(hO j hj).1
    have hfti:=hft i hlt
    have hai:=hat i hlt
    obtain ⟨hk0,hk2⟩:=hoki i hlt
    rw [hai] at hfti
    refine Run.region (cx_ok _ _ _) (Reg.op rfl (Ope.idxM (m:=i) (f:=Rpt.v) rfl rfl rfl hlt (fun _=>rfl) ?_))
    rw [hai]
    generalize atR J i=r at *
    refine Reg.op rfl (Ope.load rfl rfl ?_)
    refine Reg.op rfl (Ope.newL rfl ?_)
    refine Reg.op0 (Ope.store rfl rfl hget_hd rfl rfl rfl ?_)
    refine Reg.nil (Run.seq (Run.frz (d:=5) true rfl hget_hd rfl ?_))
    refine Run.wideS (m:=m+1) (l':=ownU o'++[]) (Nat.le_refl _) (hs_skip (hs_skip (hs_skip hs_refl (ownU_none hno rfl)) (ownU_none hno rfl)) (ownU_none hno rfl)) ?_
    have hks:=fKSco r
    first
    | (rw [show scoV r=.lit .nilifc from if_pos hkq] at hks)
    | (rw [scoV_ne hkq] at hks)
    refine Run.draw (cx_ok _ _ _) [(0,true),(3,false),(1,true),(2,true),(4,true),(5,true)] (by kernel_rfl) (Dra.op' rfl rfl rfl .sure (Ope.load rfl rfl ?_))
    refine Dra.op' rfl rfl rfl (.load rfl) (Ope.load rfl rfl ?_)
    refine Dra.op' rfl rfl rfl .sure (Ope.cf rfl rfl (f94 r hk0 hk2) rfl ?_)
    refine Dra.op' rfl rfl rfl .sure (Ope.field rfl rfl ?_)
    refine Dra.op' rfl rfl rfl .sure (Ope.cf rfl rfl (hks) rfl ?_)
    refine Dra.op' rfl rfl rfl .sure (Ope.asg rfl ?_)
    refine Dra.nil (Run.seq (Run.region (cx_ok _ _ _) (Reg.op rfl (Ope.mov rfl ?_))))
    first
    | refine Reg.op rfl (Ope.neN rfl rfl rfl ?_)
    | refine Reg.op rfl (Ope.neI rfl rfl ?_)
    refine Reg.nil (Run.condX rfl (fun hc=>?_) fun hc=>?_)
    ·first
     |(cases hc;done)
     |refine Run.region (cx_ok _ _ _) (Reg.op rfl (Ope.mov rfl ?_))
      refine Reg.op rfl (Ope.mov rfl ?_)
      refine Reg.op rfl (Ope.bsl rfl rfl rfl rfl ?_)
      refine Reg.op rfl (Ope.apU (o':=o') (vs:=(scR (J.take i)).map sV) (ws:=[sV r]) rfl rfl (by simp) (fun j hj=>⟨by have:=(hO j hj).2;simpa using this,rfl⟩) (by simp only [List.length_map,List.length_singleton];omega) (by simp only [List.length_map,List.length_singleton];omega) (by decide) (by intro v hv;obtain ⟨_,_,rfl⟩:=List.mem_map.1 hv;rfl) (by intro v hv;simp only [List.mem_singleton] at hv;subst hv;exact ⟨rfl,rfl⟩) ?_)
      refine Reg.op rfl (Ope.asg rfl ?_)
      refine Reg.nil (Run.bend (Run.region (cx_ok _ _ _) (Reg.op rfl (Ope.add rfl rfl (by omega) ?_))))
      refine Reg.op rfl (Ope.mov rfl ?_)
      refine Reg.nil ?_
      first
      | (rw [if_neg hkq] at hfti
         exact Run.lend ⟨(i+1,some (m+1),m+2),by show J.length - (i+1) < J.length - i;omega,⟨by show i+1≤J.length;omega,fun j hj=>by cases hj;exact ⟨Nat.lt_succ_self _,by rw [hfti];simp⟩⟩,⟨congrArg (fun l=>some (PV.sl (.own (m+1)) l)) (by rw [hfti,List.map_append];rfl),rfl,rfl,rfl,trivial⟩,rfl,rfl⟩)
      | (rw [if_pos hkq] at hfti
         exact Run.lend ⟨(i+1,o',m+1),by show J.length - (i+1) < J.length - i;omega,⟨by show i+1≤J.length;omega,fun j hj=>⟨by have:=hno j hj;show j < m+1;omega,by rw [hfti];exact (hO j hj).2⟩⟩,⟨congrArg (fun l=>some (PV.sl (tlU o') l)) (by rw [hfti]),rfl,rfl,rfl,trivial⟩,rfl,rfl⟩)
    ·first
     |(cases hc;done)
     |refine Run.skip (Run.bend (Run.region (cx_ok _ _ _) (Reg.op rfl (Ope.add rfl rfl (by omega) ?_))))
      refine Reg.op rfl (Ope.mov rfl ?_)
      refine Reg.nil ?_
      first
      | (rw [if_neg hkq] at hfti
         exact Run.lend ⟨(i+1,some (m+1),m+2),by show J.length - (i+1) < J.length - i;omega,⟨by show i+1≤J.length;omega,fun j hj=>by cases hj;exact ⟨Nat.lt_succ_self _,by rw [hfti];simp⟩⟩,⟨congrArg (fun l=>some (PV.sl (.own (m+1)) l)) (by rw [hfti,List.map_append];rfl),rfl,rfl,rfl,trivial⟩,rfl,rfl⟩)
      | (rw [if_pos hkq] at hfti
         exact Run.lend ⟨(i+1,o',m+1),by show J.length - (i+1) < J.length - i;omega,⟨by show i+1≤J.length;omega,fun j hj=>⟨by have:=hno j hj;show j < m+1;omega,by rw [hfti];exact (hO j hj).2⟩⟩,⟨congrArg (fun l=>some (PV.sl (tlU o') l)) (by rw [hfti]),rfl,rfl,rfl,trivial⟩,rfl,rfl⟩)
   ·refine Run.exit (Jmp.code (Jmp.round (Jmp.here (Run.seq ?_))))
    obtain rfl:i=J.length:=by omega
    rw [List.take_length]
    refine Run.weakT (d:=3) rfl ?_
    refine Run.region (cx_ok _ _ _) (Reg.op rfl (Ope.mov rfl ?_))
    refine Reg.op rfl (Ope.asg rfl ?_)
    exact Reg.nil (Run.ret (fin_ret (.tmp rfl .nil) (bd_sl (f:=sV) (tl:=.no) rfl (fun _=>rfl) _) rfl))
end Go.Pv
namespace Go.Pv
open Go.Proofs Go.Am
set_option maxRecDepth 10000
def Rpt.at (r:Rpt) (i k:Nat):Rpt:={ r with a:=r.a+i,b:=r.a+i,c:=r.c+k,d:=r.c+k }
def exK (r:Rpt) (i:Nat):Nat→Nat→List Rpt
  | _,0=>[]
  | k,n+1=>r.at i k::exK r i (k+1) n
def Rpt.nl (r:Rpt):Nat:=(r.b+1 - r.a).toNat
def Rpt.nm (r:Rpt):Nat:=(r.d+1 - r.c).toNat
def exI (r:Rpt):Nat→Nat→List Rpt
  | _,0=>[]
  | i,n+1=>exK r i 0 r.nm++exI r (i+1) n
def exR (r:Rpt):List Rpt:=exI r 0 r.nl
theorem f113 (r:Rpt):Fn P0 113 [r.v] (.fn (.func 130) [] [.fp r.v]):=by
  refine PFun.of (C:=c113) (cx_ok _ _ _) rfl (fn:=Tryz.f113) (by kernel_rfl) (c:=_) rfl rfl rfl ?_
  refine Run.seq (Run.region (cx_ok _ _ _) (Reg.op rfl (Ope.boxF rfl rfl ?_)))
  refine Reg.op rfl (Ope.asg rfl ?_)
  refine Reg.nil (Run.seq (Run.region (cx_ok _ _ _) (Reg.op rfl (Ope.mkf rfl rfl ?_))))
  refine Reg.op rfl (Ope.asg rfl ?_)
  exact Reg.nil (Run.ret (fin_ret (.tmp rfl .nil) rfl rfl))
theorem OwnsC {z:Nat} {cs:List PV} {l:HL} (h:hget l z=none):Owns [(z,some (.cells cs))] l :=
  Owns.of (fun p hp=>by rw [List.mem_singleton.1 hp];exact ⟨_,rfl⟩) (fun p hp=>by rw [List.mem_singleton.1 hp];exact h)
theorem f130 (r:Rpt) (hr:-1000≤r.a∧r.b≤1000∧-1000≤r.c∧r.d≤1000):Yields P0 130 [] [.fp r.v] ((exR r).map Rpt.v):=by
  intro j n l R hjn hfe0
  show PCall P0 130 [.yld j,.fp r.v] (HE n l) R _
  have hnl:r.nl=(r.b+1 - r.a).toNat:=rfl
  have hnm:r.nm=(r.d+1 - r.c).toNat:=rfl
  obtain ⟨hr1,hr2,hr3,hr4⟩:=hr
  have hfe1:Feed P0 (.yld j) R ((exI r 0 (r.nl - 0)).map Rpt.v) n l:=hfe0
  refine PCall.ofH (C:=c130) (cx_ok _ _ _) rfl (fn:=Tryz.f130) (by kernel_rfl) (c:=_) rfl rfl rfl (fun hok=>?_)
  refine Run.seq (Run.region (cx_ok _ _ _) (Reg.op rfl (Ope.load rfl rfl ?_)))
  refine Reg.op rfl (Ope.newL rfl ?_)
  refine Reg.op0 (Ope.store rfl rfl hget_hd rfl rfl rfl ?_)
  refine Reg.nil (Run.seq (Run.region (cx_ok _ _ _) (Reg.op rfl (Ope.fld rfl rfl ?_))))
  refine Reg.op rfl (Ope.fld rfl rfl ?_)
  refine Reg.op rfl (Ope.load rfl rfl ?_)
  refine Reg.op rfl (Ope.asg rfl ?_)
  refine Reg.nil (Run.block ?_)
  have hln:hget l n=none:=ok_none hok (Nat.le_refl _)
  refine Run.wideS (m:=n+1) (l':=(n,some (.cells [I r.id,I r.ve,I r.ki,I r.a,I r.b,I r.c,I r.d,I r.pr]))::l) (Nat.le_refl _) (fun i b h=>?_) ?_
  · by_cases h1 : i = n
    · subst h1;rw [hget_hd] at h ⊢;exact h
    · rw [hget_tl h1] at h ⊢;rw [hget_tl h1];exact h
  refine Run.loop (α:=Nat×HL×Nat×Int×Int×Int×Int) (fun t=>[(0,.yld j),(1,.fp r.v),(3,.ptr n 0),(4,I (r.a+t.1))]) (fun t=>HE t.2.2.1 ((n,some (.cells [I r.id,I r.ve,I r.ki,I t.2.2.2.1,I t.2.2.2.2.1,I t.2.2.2.2.2.1,I t.2.2.2.2.2.2,I r.pr]))::t.2.1)) (fun t=>t.1≤r.nl∧n < t.2.2.1∧hget t.2.1 n=none∧(∀ i,t.2.2.1≤i→hget t.2.1 i=none)∧Feed P0 (.yld j) R ((exI r t.1 (r.nl - t.1)).map Rpt.v) t.2.2.1 t.2.1) (fun t=>r.nl - t.1) (0,l,n+1,r.a,r.b,r.c,r.d) ⟨rfl,rfl,rfl,congrArg (fun x=>some (I x)) (by simp),trivial⟩ rfl ⟨Nat.zero_le _,Nat.lt_succ_self _,hln,fun i hi=>ok_none hok (by simp only at hi;omega),hfe1.mono (Nat.le_succ _)⟩ (fun t ht=>?_)
  obtain ⟨i,l2,m,x1,x2,x3,x4⟩:=t
  obtain ⟨hi,hnm0,hl2,hlm,hfe⟩:=ht
  simp only at hi hnm0 hl2 hlm hfe
  show Run _ _ _ _ [(0,.yld j),(1,.fp r.v),(3,.ptr n 0),(4,I (r.a+i))] [] (HE m ((n,some (.cells [I r.id,I r.ve,I r.ki,I x1,I x2,I x3,I x4,I r.pr]))::l2))
  refine Run.seq (Run.seq (Run.region (cx_ok _ _ _) (Reg.op rfl (Ope.mov rfl ?_))))
  refine Reg.op rfl (Ope.fld rfl rfl ?_)
  refine Reg.op rfl (Ope.fld rfl rfl ?_)
  refine Reg.op rfl (Ope.load rfl rfl ?_)
  refine Reg.op rfl (Ope.le rfl rfl ?_)
  refine Reg.nil (Run.condX rfl (fun hc=>?_) fun hc=>?_)
  ·refine Run.skip (Run.seq (Run.block (Run.seq ?_)))
   have hlt:i < r.nl:=by omega
   have e1:r.nl - i=(r.nl - (i+1))+1:=by omega
   rw [e1] at hfe
   have hfe2:Feed P0 (.yld j) R ((exK r i 0 (r.nm - 0)).map Rpt.v++(exI r (i+1) (r.nl - (i+1))).map Rpt.v) m l2:=by
     have:exI r i ((r.nl - (i+1))+1)=exK r i 0 r.nm++exI r (i+1) (r.nl - (i+1)):=rfl
     rw [this,List.map_append] at hfe
     exact hfe
   refine Run.region (cx_ok _ _ _) (Reg.op rfl (Ope.fld rfl rfl ?_))
   refine Reg.op rfl (Ope.fld rfl rfl ?_)
   refine Reg.op rfl (Ope.load rfl rfl ?_)
   refine Reg.op rfl (Ope.asg rfl ?_)
   refine Reg.nil (Run.block (Run.loop (α:=Nat×HL×Nat×Int×Int×Int×Int) (fun t=>[(0,.yld j),(1,.fp r.v),(3,.ptr n 0),(4,I (r.a+i)),(5,I (r.c+t.1))]) (fun t=>HE t.2.2.1 ((n,some (.cells [I r.id,I r.ve,I r.ki,I t.2.2.2.1,I t.2.2.2.2.1,I t.2.2.2.2.2.1,I t.2.2.2.2.2.2,I r.pr]))::t.2.1)) (fun t=>t.1≤r.nm∧n < t.2.2.1∧hget t.2.1 n=none∧(∀ i,t.2.2.1≤i→hget t.2.1 i=none)∧Feed P0 (.yld j) R ((exK r i t.1 (r.nm - t.1)).map Rpt.v++(exI r (i+1) (r.nl - (i+1))).map Rpt.v) t.2.2.1 t.2.1) (fun t=>r.nm - t.1) (0,l2,m,x1,x2,x3,x4) ⟨rfl,rfl,rfl,rfl,congrArg (fun x=>some (I x)) (by simp),trivial⟩ rfl ⟨Nat.zero_le _,hnm0,hl2,hlm,hfe2⟩ (fun t ht=>?_)))
   obtain ⟨k,l3,m3,y1,y2,y3,y4⟩:=t
   obtain ⟨hk,hnm3,hl3,hlm3,hfe3⟩:=ht
   simp only at hk hnm3 hl3 hlm3 hfe3
   show Run _ _ _ _ [(0,.yld j),(1,.fp r.v),(3,.ptr n 0),(4,I (r.a+i)),(5,I (r.c+k))] [] (HE m3 ((n,some (.cells [I r.id,I r.ve,I r.ki,I y1,I y2,I y3,I y4,I r.pr]))::l3))
   refine Run.seq (Run.seq (Run.region (cx_ok _ _ _) (Reg.op rfl (Ope.mov rfl ?_))))
   refine Reg.op rfl (Ope.fld rfl rfl ?_)
   refine Reg.op rfl (Ope.fld rfl rfl ?_)
   refine Reg.op rfl (Ope.load rfl rfl ?_)
   refine Reg.op rfl (Ope.le rfl rfl ?_)
   refine Reg.nil (Run.condX rfl (fun hc=>?_) fun hc=>?_)
   ·refine Run.skip (Run.seq (Run.block (Run.seq ?_)))
    have hlt2:k < r.nm:=by omega
    have e2:r.nm - k=(r.nm - (k+1))+1:=by omega
    rw [e2] at hfe3
    have hfe4:Feed P0 (.yld j) R ((r.at i k).v::((exK r i (k+1) (r.nm - (k+1))).map Rpt.v++(exI r (i+1) (r.nl - (i+1))).map Rpt.v)) m3 l3:=hfe3
    refine Run.region (cx_ok _ _ _) (Reg.op rfl (Ope.mov rfl ?_))
    refine Reg.op rfl (Ope.mov rfl ?_)
    refine Reg.op rfl (Ope.bld rfl rfl ?_)
    refine Reg.op rfl (Ope.mov rfl ?_)
    refine Reg.op rfl (Ope.mov rfl ?_)
    refine Reg.op rfl (Ope.bld rfl rfl ?_)
    refine Reg.op rfl (Ope.fld rfl rfl ?_)
    refine Reg.op0 (Ope.store rfl rfl hget_hd rfl rfl rfl ?_)
    refine Reg.op rfl (Ope.fld rfl rfl ?_)
    refine Reg.op0 (Ope.store rfl rfl hget_hd rfl rfl rfl ?_)
    refine Reg.nil (Run.seq (Run.wideS (m:=m3) (l':=[(n,some (.cells [I r.id,I r.ve,I r.ki,I (r.a+i),I (r.a+i),I (r.c+k),I (r.c+k),I r.pr]))]++l3) (Nat.le_refl _) (fun q9 b h=>?_) ?_))
    · have h : hget ((n, some (PBlk.cells [I r.id, I r.ve, I r.ki, I (r.a + ((i : Nat) : Int)), I (r.a + ((i : Nat) : Int)), I (r.c + k), I (r.c + k), I r.pr])) :: l3) q9 = some b := h
      by_cases h1:q9=n
      · subst h1;rw [hget_hd] at h ⊢;exact h
      · rw [hget_tl h1] at h ⊢;rw [hget_tl h1,hget_tl h1];exact h
    refine Run.region (cx_ok _ _ _) (Reg.op rfl (Ope.mov rfl ?_))
    refine Reg.op rfl (Ope.loadH rfl hget_hd rfl ?_)
    refine Reg.op rfl (Ope.yld (own:=[(n,some (.cells [I r.id,I r.ve,I r.ki,I (r.a+i),I (r.a+i),I (r.c+k),I (r.c+k),I r.pr]))]) (l:=l3) (j:=j) (v:=(r.at i k).v) rfl rfl (OwnsC hl3) hfe4 (fun m5 l5 hm5 hok5 hno5 hfe5=>?_) (fun m5 l5 hm5 hok5 hno5 hR=>?_))
    ·refine Reg.op rfl (Ope.not rfl ?_)
     refine Reg.nil (Run.condX rfl (fun hc=>?_) fun hc=>?_)
     ·first
      |(cases hc;done)
      |refine Run.ret (Jmp.retB (Jmp.code (Jmp.round (Jmp.retB (Jmp.retB (Jmp.code (Jmp.round (Jmp.retB ?_))))))))
       first
       | exact finH_ret .nil (Nat.le_refl _) (fun q x h=>by
           show hget ((n,some (.cells _))::l5) q=some x
           rw [hget_tl (fun e=>by rw [e,hno5 n keysB_one] at h;cases h)];exact h) (hR m5 (Nat.le_refl _) _)
       | (have e3 : r.nl - i = 0 := by omega
          rw [e3] at hfe
          exact finH_end .nil (Nat.le_refl _) (fun q x h=>by
           show hget ((n,some (.cells _))::l2) q=some x
           rw [hget_tl (fun e=>by rw [e,hl2] at h;cases h)];exact h) (hfe m (Nat.le_refl _) _))
     ·first
      |(cases hc;done)
      |refine Run.skip (Run.bend (Run.region (cx_ok _ _ _) (Reg.op rfl (Ope.mov rfl ?_))))
       refine Reg.op rfl (Ope.add rfl rfl (by omega) ?_)
       refine Reg.op rfl (Ope.asg rfl ?_)
       exact Reg.nil (Run.lend ⟨(k+1,l5,m5,r.a+i,r.a+i,r.c+k,r.c+k),by show r.nm - (k+1) < r.nm - k;omega,⟨by show k+1≤r.nm;omega,by show n < m5;omega,hno5 n keysB_one,fun i hi=>ok_none hok5 hi,hfe5⟩,⟨rfl,rfl,rfl,rfl,congrArg (fun x=>some (I x)) (by show r.c+k+1=r.c+((k+1:Nat):Int);omega),trivial⟩,rfl,rfl⟩)
    ·refine Reg.op rfl (Ope.not rfl ?_)
     refine Reg.nil (Run.condX rfl (fun hc=>?_) fun hc=>?_)
     ·first
      |(cases hc;done)
      |refine Run.ret (Jmp.retB (Jmp.code (Jmp.round (Jmp.retB (Jmp.retB (Jmp.code (Jmp.round (Jmp.retB ?_))))))))
       first
       | exact finH_ret .nil (Nat.le_refl _) (fun q x h=>by
           show hget ((n,some (.cells _))::l5) q=some x
           rw [hget_tl (fun e=>by rw [e,hno5 n keysB_one] at h;cases h)];exact h) (hR m5 (Nat.le_refl _) _)
       | (have e3 : r.nl - i = 0 := by omega
          rw [e3] at hfe
          exact finH_end .nil (Nat.le_refl _) (fun q x h=>by
           show hget ((n,some (.cells _))::l2) q=some x
           rw [hget_tl (fun e=>by rw [e,hl2] at h;cases h)];exact h) (hfe m (Nat.le_refl _) _))
     ·first
      |(cases hc;done)
      |refine Run.skip (Run.bend (Run.region (cx_ok _ _ _) (Reg.op rfl (Ope.mov rfl ?_))))
       refine Reg.op rfl (Ope.add rfl rfl (by omega) ?_)
       refine Reg.op rfl (Ope.asg rfl ?_)
       exact Reg.nil (Run.lend ⟨(k+1,l5,m5,r.a+i,r.a+i,r.c+k,r.c+k),by show r.nm - (k+1) < r.nm - k;omega,⟨by show k+1≤r.nm;omega,by show n < m5;omega,hno5 n keysB_one,fun i hi=>ok_none hok5 hi,hfe5⟩,⟨rfl,rfl,rfl,rfl,congrArg (fun x=>some (I x)) (by show r.c+k+1=r.c+((k+1:Nat):Int);omega),trivial⟩,rfl,rfl⟩)
   ·refine Run.exit (Jmp.code (Jmp.round (Jmp.here (Run.bend (Run.region (cx_ok _ _ _) (Reg.op rfl (Ope.mov rfl ?_)))))))
    refine Reg.op rfl (Ope.add rfl rfl (by omega) ?_)
    refine Reg.op rfl (Ope.asg rfl ?_)
    refine Reg.nil ?_
    have e3:r.nm - k=0:=by omega
    rw [e3] at hfe3
    exact Run.lend ⟨(i+1,l3,m3,y1,y2,y3,y4),by show r.nl - (i+1) < r.nl - i;omega,⟨by show i+1≤r.nl;omega,hnm3,hl3,hlm3,hfe3⟩,⟨rfl,rfl,rfl,congrArg (fun x=>some (I x)) (by show r.a+i+1=r.a+((i+1:Nat):Int);omega),trivial⟩,rfl,rfl⟩
  ·refine Run.exit (Jmp.code (Jmp.round (Jmp.here ?_)))
   first
   | exact finH_ret .nil (Nat.le_refl _) (fun q x h=>by
       show hget ((n,some (.cells _))::l5) q=some x
       rw [hget_tl (fun e=>by rw [e,hno5 n keysB_one] at h;cases h)];exact h) (hR m5 (Nat.le_refl _) _)
   | (have e3 : r.nl - i = 0 := by omega
      rw [e3] at hfe
      exact finH_end .nil (Nat.le_refl _) (fun q x h=>by
       show hget ((n,some (.cells _))::l2) q=some x
       rw [hget_tl (fun e=>by rw [e,hl2] at h;cases h)];exact h) (hfe m (Nat.le_refl _) _))
end Go.Pv
