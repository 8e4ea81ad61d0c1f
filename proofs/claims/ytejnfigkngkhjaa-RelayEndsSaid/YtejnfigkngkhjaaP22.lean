/- Parts of the proof: R102, Pv62, R100 -/
import Derived.Test.YtejnfigkngkhjaaP21
import Derived.Test.YtejnfigkngkhjaaP14
import Derived.OpenShut
import Derived.Test.YtejnfigkngkhjaaP16
set_option linter.unusedVariables false
set_option linter.unusedSimpArgs false
namespace Go.Pv
open Go.Proofs Go.Am
set_option maxRecDepth 10000
set_option linter.unusedSectionVars false
structure Hide (p:Prop):Prop where
  get:p
theorem neSp (xo yo:Operand) (x y x' y':Int):pbin A0 E0 .neq 28 xo yo (.agg [I x,I y]) (.agg [I x',I y'])=some (B (decide (¬(x=x'∧y=y')))):=by
  have hn:pnil A0 28 (.agg [I x,I y]) (.agg [I x',I y'])=none:=by
    have h:=eqSu
    unfold pnil
    cases hu:A0.under 28 with
    | none=>rfl
    | some d =>
      rw [hu] at h
      cases d<;>first | rfl | (exact absurd h (by decide))
  have hv:=eqSv x y x' y'
  have hd:decide (¬(x=x'∧y=y'))=!(x == x' && y == y'):=by
    by_cases h1:x=x'<;>by_cases h2:y=y'<;>simp [h1,h2]
  rw [hd]
  simp only [pbin,PV.toAV,PV.toAVs,bothNil,hn,abin,aequal,eqSe,hv]
  cases (x == x')<;>cases (y == y')<;>rfl
theorem f31g (a b n:Int):Fn P0 31 [.agg [I a,I b],I n] (B (decide (a≤n∧n≤b))):=by
  refine PFun.of (C:=c31) (cx_ok _ _ _) rfl (fn:=Try.f31) (by kernel_rfl) (c:=_) rfl rfl rfl ?_
  refine Run.seq (Run.region (cx_ok _ _ _) (Reg.op rfl (Ope.boxF rfl rfl ?_)))
  refine Reg.op rfl (Ope.asg rfl ?_)
  refine Reg.nil (Run.seq (Run.region (cx_ok _ _ _) (Reg.op rfl (Ope.fld rfl rfl ?_))))
  refine Reg.op rfl (Ope.load rfl rfl ?_)
  refine Reg.op rfl (Ope.mov rfl ?_)
  refine Reg.op rfl (Ope.le rfl rfl ?_)
  refine Reg.op rfl (Ope.mov rfl ?_)
  refine Reg.splitX rfl rfl (fun hg=>?_) fun hg=>?_
  ·refine Reg.on rfl rfl rfl (Ope.mov rfl ?_)
   refine Reg.on rfl rfl rfl (Ope.fld rfl rfl ?_)
   refine Reg.on rfl rfl rfl (Ope.load rfl rfl ?_)
   refine Reg.on rfl rfl rfl (Ope.le rfl rfl ?_)
   refine Reg.op rfl (Ope.pickT rfl rfl ?_)
   refine Reg.op rfl (Ope.asg rfl ?_)
   refine Reg.nil (Run.ret (fin_ret (.tmp rfl .nil) rfl ?_))
   (simp [*];first | done | rfl | omega)
  ·refine Reg.off rfl rfl rfl (Reg.off rfl rfl rfl (Reg.off rfl rfl rfl (Reg.off rfl rfl rfl (Reg.op rfl (Ope.pickF rfl rfl ?_)))))
   refine Reg.op rfl (Ope.asg rfl ?_)
   refine Reg.nil (Run.ret (fin_ret (.tmp rfl .nil) rfl ?_))
   (simp [*];first | done | rfl | omega)
theorem spn_fp0 (s:Sti):∀ m,m < 2→indexK 2 true 2 m (.fp (.agg [I s.a,I s.b,I s.c,I s.d]))=some (.fp (.agg [I (s.ent 0 m).1,I (s.ent 0 m).2]))
  | 0,_=>rfl
  | 1,_=>rfl
theorem spn_fp1 (s:Sti):∀ m,m < 2→indexK 2 true 2 m (.fp (.agg [I s.e,I s.f,I s.g,I s.h]))=some (.fp (.agg [I (s.ent 1 m).1,I (s.ent 1 m).2]))
  | 0,_=>rfl
  | 1,_=>rfl
theorem f7 (rest : Int) (tl : Tail) (htl : tl.isOwn = false) (S : List Sti) (hS : S.length ≤ 1000000) (which between : Nat) (hw : which < 256) (hbt : between < 256) : Fn P0 7 [relV rest tl S, U8 which, U8 between] (B true) := by
  have hbr:=bd_rels rest tl htl S
  have hbd:=fun k=>bd_is rest tl htl S k
  have hb2:∀ x y:Int,PV.bds 0 [relV rest tl S,I x,I y]=true:=fun x y=>by
    have:=hbr
    simp only [PV.bds,PV.bd,Bool.and_eq_true] at this ⊢
    simp [this]
  refine PFun.of (C:=c7) (cx_ok _ _ _) rfl (fn:=Try.f7) (by kernel_rfl) (c:=_) rfl rfl rfl ?_
  refine Run.seq (Run.region (cx_ok _ _ _) (Reg.op rfl (Ope.boxF rfl rfl ?_)))
  refine Reg.op rfl (Ope.asg rfl ?_)
  refine Reg.nil (Run.seq (Run.seq (Run.region (cx_ok _ _ _) (Reg.op rfl (Ope.load rfl rfl ?_)))))
  refine Reg.op rfl (Ope.cf rfl rfl (f12 rest tl htl S hS 5 (by decide)) (hbd 5) ?_)
  refine Reg.op rfl (Ope.mov rfl ?_)
  refine Reg.splitX rfl rfl (fun hg=>?_) fun hg=>?_
  ·refine Reg.off rfl rfl rfl (Reg.off rfl rfl rfl (Reg.off rfl rfl rfl (Reg.op rfl (Ope.pickT rfl rfl ?_))))
   refine Reg.op rfl (Ope.mov rfl ?_)
   refine Reg.off rfl rfl rfl (Reg.off rfl rfl rfl (Reg.off rfl rfl rfl (Reg.off rfl rfl rfl (Reg.op rfl (Ope.pickT rfl rfl ?_)))))
   refine Reg.nil (Run.condT rfl (Run.seq (Run.region (cx_ok _ _ _) (Reg.op rfl (Ope.cf rfl rfl awakeF rfl ?_)))))
   refine Reg.op rfl (Ope.asg rfl ?_)
   exact Reg.nil (Run.ret (Jmp.code (fin_ret (.tmp rfl .nil) rfl rfl)))
  ·refine Reg.on rfl rfl rfl (Ope.load rfl rfl ?_)
   refine Reg.on rfl rfl rfl (Ope.cf rfl rfl (f32 rest tl S hS) hbr ?_)
   refine Reg.on rfl rfl rfl (Ope.not rfl ?_)
   refine Reg.op rfl (Ope.pickF rfl rfl ?_)
   refine Reg.op rfl (Ope.mov rfl ?_)
   refine Reg.splitX rfl rfl (fun hg=>?_) fun hg=>?_
   ·refine Reg.off rfl rfl rfl (Reg.off rfl rfl rfl (Reg.off rfl rfl rfl (Reg.off rfl rfl rfl (Reg.op rfl (Ope.pickT rfl rfl ?_)))))
    refine Reg.nil (Run.condT rfl (Run.seq (Run.region (cx_ok _ _ _) (Reg.op rfl (Ope.cf rfl rfl awakeF rfl ?_)))))
    refine Reg.op rfl (Ope.asg rfl ?_)
    exact Reg.nil (Run.ret (Jmp.code (fin_ret (.tmp rfl .nil) rfl rfl)))
   ·refine Reg.on rfl rfl rfl (Ope.fld rfl rfl ?_)
    refine Reg.on rfl rfl rfl (Ope.load rfl rfl ?_)
    refine Reg.on rfl rfl rfl (Ope.len (m:=S.length) rfl (by simp) ?_)
    refine Reg.on rfl rfl rfl (Ope.eq rfl rfl ?_)
    refine Reg.op rfl (Ope.pickF rfl rfl ?_)
    refine Reg.nil (Run.condX rfl (fun hc=>?_) fun hc=>?_)
    ·refine Run.seq (Run.region (cx_ok _ _ _) (Reg.op rfl (Ope.cf rfl rfl awakeF rfl ?_)))
     refine Reg.op rfl (Ope.asg rfl ?_)
     exact Reg.nil (Run.ret (Jmp.code (fin_ret (.tmp rfl .nil) rfl rfl)))
    ·refine Run.skip (Run.seq ?_)
     have hr:relOk rest S=true:=by simp_all
     obtain ⟨hrr,hS5,hv⟩:=relOk_of hr
     have hpos:0 < S.length:=by omega
     have hen0:which % (4 * S.length) < 4 * S.length:=Nat.mod_lt _ (by omega)
     refine Run.region (cx_ok _ _ _) (Reg.op rfl (Ope.mov rfl ?_))
     refine Reg.op rfl (Ope.convN (p:=which) rfl rfl (by show _ < 2 ^ 63;omega) ?_)
     refine Reg.op rfl (Ope.fld rfl rfl ?_)
     refine Reg.op rfl (Ope.load rfl rfl ?_)
     refine Reg.op rfl (Ope.len (m:=S.length) rfl (by simp) ?_)
     refine Reg.op rfl (Ope.mul rfl rfl (by omega) ?_)
     refine Reg.op rfl (Ope.remN (p:=which) (q:=4 * S.length) rfl rfl rfl (by omega) (by omega) ?_)
     refine Reg.op rfl (Ope.asg rfl ?_)
     refine Reg.nil (Run.seq ?_)
     generalize which % (4 * S.length)=en at *
     have hen:en < 4 * S.length:=hen0
     have ho2:en / 2 % 2 < 2:=Nat.mod_lt _ (by decide)
     have hm2:en % 2 < 2:=Nat.mod_lt _ (by decide)
     have hi:en / 4 < S.length:=by omega
     refine Run.region (cx_ok _ _ _) (Reg.op rfl (Ope.mov rfl ?_))
     refine Reg.op rfl (Ope.quoN (p:=en) (q:=4) rfl rfl rfl rfl (by decide) (by show en < 2 ^ 63;omega) ?_)
     refine Reg.op rfl (Ope.mov rfl ?_)
     refine Reg.op rfl (Ope.quoN (p:=en) (q:=2) rfl rfl rfl rfl (by decide) (by show en < 2 ^ 63;omega) ?_)
     refine Reg.op rfl (Ope.remN (p:=en / 2) (q:=2) rfl rfl rfl rfl (by decide) ?_)
     refine Reg.op rfl (Ope.asg rfl ?_)
     refine Reg.op rfl (Ope.asg rfl ?_)
     refine Reg.nil (Run.seq (Run.region (cx_ok _ _ _) (Reg.op rfl (Ope.asg rfl ?_))))
     refine Reg.nil (Run.seq (Run.seq (Run.region (cx_ok _ _ _) (Reg.op rfl (Ope.mov rfl ?_)))))
     refine Reg.op rfl (Ope.eq rfl rfl ?_)
     refine Reg.nil (Run.cut (fun e' d' h'=>Lsub [(2,U8 between),(3,.fp (relV rest tl S)),(7,I en),(8,I ((en / 4:Nat):Int)),(9,I ((en / 2 % 2:Nat):Int)),(10,.fn (.func (atF (en / 2 % 2))) [] [])] e'∧d'=[]∧h'=HE 0 []) ?_ ?_)
     ·refine Run.condX rfl (fun hc=>?_) fun hc=>?_
      ·refine Run.region (cx_ok _ _ _) (Reg.op rfl (Ope.asg rfl ?_))
       refine Reg.nil ?_
       first
       | exact Run.lend ⟨⟨rfl,rfl,rfl,rfl,rfl,congrArg (fun n=>some (PV.fn (.func n) [] [])) (by unfold atF;rw [if_pos (by omega)]),trivial⟩,rfl,rfl⟩
       | exact Run.lend ⟨⟨rfl,rfl,rfl,rfl,rfl,congrArg (fun n=>some (PV.fn (.func n) [] [])) (by unfold atF;rw [if_neg (by omega)]),trivial⟩,rfl,rfl⟩
      ·refine Run.skip ?_
       first
       | exact Run.lend ⟨⟨rfl,rfl,rfl,rfl,rfl,congrArg (fun n=>some (PV.fn (.func n) [] [])) (by unfold atF;rw [if_pos (by omega)]),trivial⟩,rfl,rfl⟩
       | exact Run.lend ⟨⟨rfl,rfl,rfl,rfl,rfl,congrArg (fun n=>some (PV.fn (.func n) [] [])) (by unfold atF;rw [if_neg (by omega)]),trivial⟩,rfl,rfl⟩
     ·rintro e' d' h' ⟨hs, rfl, rfl⟩; refine Run.less hs ?_
      refine Run.seq ?_
      obtain ⟨sl,sh,cl,ch,e,g,⟨Hat,Hln,⟨cs,Hcl⟩,His,Hex,Honf⟩⟩:=endH htl hS hr hen
      replace Hex:=Hide.mk Hex
      replace Honf:=Hide.mk Honf
      refine Run.region (cx_ok _ _ _) (Reg.op rfl (Ope.mov rfl ?_))
      refine Reg.op rfl (Ope.load rfl rfl ?_)
      refine Reg.op rfl (Ope.mov rfl ?_)
      refine Reg.op rfl (Ope.cf rfl rfl Hat (hbd _) ?_)
      refine Reg.op rfl (Ope.mov rfl ?_)
      refine Reg.op rfl (Ope.ext rfl rfl ?_)
      refine Reg.op rfl (Ope.ext rfl rfl ?_)
      refine Reg.op rfl (Ope.newL rfl ?_)
      refine Reg.op0 (Ope.store rfl rfl hget_hd rfl rfl rfl ?_)
      refine Reg.op rfl (Ope.asg rfl ?_)
      refine Reg.nil (Run.seq (Run.frz (d:=11) true rfl hget_hd rfl ?_))
      refine Run.wide (m:=1) (l':=[]) (Nat.le_refl _) trivial ?_
      refine Run.region (cx_ok _ _ _) (Reg.op rfl (Ope.load rfl rfl ?_))
      refine Reg.op rfl (Ope.mov rfl ?_)
      refine Reg.op rfl (Ope.cf rfl rfl Hln (hbd _) ?_)
      refine Reg.op rfl (Ope.mov rfl ?_)
      refine Reg.op rfl (Ope.ext rfl rfl ?_)
      refine Reg.op rfl (Ope.ext rfl rfl ?_)
      refine Reg.op rfl (Ope.newL rfl ?_)
      refine Reg.op0 (Ope.store rfl rfl hget_hd rfl rfl rfl ?_)
      refine Reg.op rfl (Ope.asg rfl ?_)
      refine Reg.nil (Run.seq (Run.frz (d:=13) true rfl hget_hd rfl ?_))
      refine Run.wide (m:=2) (l':=[]) (Nat.le_refl _) trivial ?_
      refine Run.region (cx_ok _ _ _) (Reg.op rfl (Ope.load rfl rfl ?_))
      refine Reg.op rfl (Ope.cf rfl rfl Hcl hbr ?_)
      refine Reg.op rfl (Ope.mov rfl ?_)
      refine Reg.op rfl (Ope.ext rfl rfl ?_)
      refine Reg.op rfl (Ope.ext rfl rfl ?_)
      refine Reg.op rfl (Ope.asg rfl ?_)
      refine Reg.op rfl (Ope.asg rfl ?_)
      refine Reg.nil (Run.seq (Run.seq (Run.region (cx_ok _ _ _) (Reg.op rfl (Ope.mov rfl ?_)))))
      refine Reg.op rfl (Ope.mov rfl ?_)
      refine Reg.op rfl (Ope.neS rfl rfl ?_)
      refine Reg.op rfl (Ope.mov rfl ?_)
      refine Reg.on rfl rfl rfl (Ope.mov rfl ?_)
      refine Reg.on rfl rfl rfl (Ope.eq rfl rfl ?_)
      refine Reg.on rfl rfl rfl (Ope.mov rfl ?_)
      refine Reg.on rfl rfl rfl (Ope.eq rfl rfl ?_)
      refine Reg.on rfl rfl rfl (Ope.neV (b:=false) rfl rfl (by rw [show decide (e=0)=decide (g=4) from decide_eq_decide.2 (by omega)];cases decide (g=4)<;>rfl) ?_)
      refine Reg.op rfl (Ope.pickF rfl rfl ?_)
      refine Reg.nil (Run.condF rfl (Run.skip (Run.seq (Run.seq (Run.region (cx_ok _ _ _) (Reg.op rfl (Ope.mov rfl ?_)))))))
      refine Reg.op rfl (Ope.ne rfl rfl ?_)
      refine Reg.nil (Run.condX rfl (fun hc=>?_) fun hc=>?_)
      ·refine Run.seq ?_
       obtain ⟨rfl,rfl,rfl,rfl,rfl,rfl⟩:e=10∧g=0∧sl=0∧sh=0∧cl=0∧ch=0:=by omega
       refine Run.region (cx_ok _ _ _) (Reg.op rfl (Ope.mov rfl ?_))
       refine Reg.op rfl (Ope.eq rfl rfl ?_)
       refine Reg.op rfl (Ope.mov rfl ?_)
       refine Reg.on rfl rfl rfl (Ope.mov rfl ?_)
       refine Reg.on rfl rfl rfl (Ope.eq rfl rfl ?_)
       refine Reg.op rfl (Ope.pickT rfl rfl ?_)
       refine Reg.op rfl (Ope.mov rfl ?_)
       refine Reg.on rfl rfl rfl (Ope.load rfl rfl ?_)
       refine Reg.on rfl rfl rfl (Ope.bld rfl rfl ?_)
       refine Reg.on rfl rfl rfl (Ope.eqV rfl rfl (eqSp _ _ 0 0 0 0) ?_)
       refine Reg.op rfl (Ope.pickT rfl rfl ?_)
       refine Reg.op rfl (Ope.mov rfl ?_)
       refine Reg.on rfl rfl rfl (Ope.load rfl rfl ?_)
       refine Reg.on rfl rfl rfl (Ope.bld rfl rfl ?_)
       refine Reg.on rfl rfl rfl (Ope.eqV rfl rfl (eqSp _ _ 0 0 0 0) ?_)
       refine Reg.op rfl (Ope.pickT rfl rfl ?_)
       refine Reg.op rfl (Ope.mov rfl ?_)
       refine Reg.on rfl rfl rfl (Ope.cf rfl rfl awakeF rfl ?_)
       refine Reg.op rfl (Ope.pickT rfl rfl ?_)
       refine Reg.op rfl (Ope.asg rfl ?_)
       exact Reg.nil (Run.ret (Jmp.code (fin_ret (.tmp rfl .nil) rfl rfl)))
      ·refine Run.skip (Run.seq (Run.seq ?_))
       obtain ⟨h0,hsl,hslh,hsh,hcl1,hclh,hch⟩:e=0∧0≤sl∧sl≤sh∧sh≤600∧1≤cl∧cl≤ch∧ch≤600:=by omega
       refine Run.cut (fun e' d' h'=>Lsub [(2,U8 between),(3,.fp (relV rest tl S)),(7,I en),(8,I ((en / 4:Nat):Int)),(9,I ((en / 2 % 2:Nat):Int)),(10,.fn (.func (atF (en / 2 % 2))) [] []),(11,.fp (.agg [I sl,I sh])),(12,I e),(13,.fp (.agg [I cl,I ch])),(137,B false)] e'∧d'=[]∧h'=HE 2 []) ?_ ?_
       ·refine Run.region (cx_ok _ _ _) (Reg.op rfl (Ope.fld rfl rfl ?_))
        refine Reg.op rfl (Ope.load rfl rfl ?_)
        refine Reg.op rfl (Ope.lt rfl rfl ?_)
        refine Reg.op rfl (Ope.mov rfl ?_)
        refine Reg.splitX rfl rfl (fun hg=>?_) fun hg=>?_
        ·(first | (exfalso;omega) | (exfalso;simp only [Bool.not_eq_true',Bool.not_eq_false',decide_eq_false_iff_not,decide_eq_true_eq] at *;omega))
        ·refine Reg.on rfl rfl rfl (Ope.fld rfl rfl ?_)
         refine Reg.on rfl rfl rfl (Ope.load rfl rfl ?_)
         refine Reg.on rfl rfl rfl (Ope.fld rfl rfl ?_)
         refine Reg.on rfl rfl rfl (Ope.load rfl rfl ?_)
         refine Reg.on rfl rfl rfl (Ope.gt rfl rfl ?_)
         refine Reg.op rfl (Ope.pickF rfl rfl ?_)
         refine Reg.op rfl (Ope.mov rfl ?_)
         refine Reg.splitX rfl rfl (fun hg=>?_) fun hg=>?_
         ·(first | (exfalso;omega) | (exfalso;simp only [Bool.not_eq_true',Bool.not_eq_false',decide_eq_false_iff_not,decide_eq_true_eq] at *;omega))
         ·refine Reg.on rfl rfl rfl (Ope.fld rfl rfl ?_)
          refine Reg.on rfl rfl rfl (Ope.load rfl rfl ?_)
          refine Reg.on rfl rfl rfl (Ope.gt rfl rfl ?_)
          refine Reg.op rfl (Ope.pickF rfl rfl ?_)
          refine Reg.op rfl (Ope.mov rfl ?_)
          refine Reg.splitX rfl rfl (fun hg=>?_) fun hg=>?_
          ·(first | (exfalso;omega) | (exfalso;simp only [Bool.not_eq_true',Bool.not_eq_false',decide_eq_false_iff_not,decide_eq_true_eq] at *;omega))
          ·refine Reg.on rfl rfl rfl (Ope.fld rfl rfl ?_)
           refine Reg.on rfl rfl rfl (Ope.load rfl rfl ?_)
           refine Reg.on rfl rfl rfl (Ope.lt rfl rfl ?_)
           refine Reg.op rfl (Ope.pickF rfl rfl ?_)
           refine Reg.op rfl (Ope.mov rfl ?_)
           refine Reg.splitX rfl rfl (fun hg=>?_) fun hg=>?_
           ·(first | (exfalso;omega) | (exfalso;simp only [Bool.not_eq_true',Bool.not_eq_false',decide_eq_false_iff_not,decide_eq_true_eq] at *;omega))
           ·refine Reg.on rfl rfl rfl (Ope.fld rfl rfl ?_)
            refine Reg.on rfl rfl rfl (Ope.load rfl rfl ?_)
            refine Reg.on rfl rfl rfl (Ope.fld rfl rfl ?_)
            refine Reg.on rfl rfl rfl (Ope.load rfl rfl ?_)
            refine Reg.on rfl rfl rfl (Ope.gt rfl rfl ?_)
            refine Reg.op rfl (Ope.pickF rfl rfl ?_)
            refine Reg.nil ?_
            first
            | exact Run.lend ⟨⟨rfl,rfl,rfl,rfl,rfl,rfl,rfl,rfl,rfl,rfl,trivial⟩,rfl,rfl⟩
            | exact Run.lend ⟨⟨rfl,rfl,rfl,rfl,rfl,rfl,rfl,rfl,rfl,congrArg (fun b=>some (B b)) (decide_eq_false (by omega)),trivial⟩,rfl,rfl⟩
       ·rintro e' d' h' ⟨hs, rfl, rfl⟩; refine Run.less hs ?_
        refine Run.condX rfl (fun hc=>?_) fun hc=>?_
        ·(exfalso;exact absurd hc (by decide))
        ·refine Run.skip (Run.seq ?_)
         have hq:between % (sh - sl+1).toNat < (sh - sl+1).toNat:=Nat.mod_lt _ (by omega)
         refine Run.draw (cx_ok _ _ _) [(0,true),(1,true),(2,true),(3,true),(4,true),(5,true),(6,true),(7,true),(8,true),(9,true),(10,true),(11,true),(12,true)] (by kernel_rfl) (Dra.op' rfl rfl rfl .sure (Ope.fld rfl rfl ?_))
         refine Dra.op' rfl rfl rfl .sure (Ope.load rfl rfl ?_)
         refine Dra.op' rfl rfl rfl .sure (Ope.mov rfl ?_)
         refine Dra.op' rfl rfl rfl .sure (Ope.convN (p:=between) rfl rfl (by show _ < 2 ^ 63;omega) ?_)
         refine Dra.op' rfl rfl rfl .sure (Ope.fld rfl rfl ?_)
         refine Dra.op' rfl rfl rfl .sure (Ope.load rfl rfl ?_)
         refine Dra.op' rfl rfl rfl .sure (Ope.fld rfl rfl ?_)
         refine Dra.op' rfl rfl rfl .sure (Ope.load rfl rfl ?_)
         refine Dra.op' rfl rfl rfl .sure (Ope.sub rfl rfl (by omega) ?_)
         refine Dra.op' rfl rfl rfl .sure (Ope.add rfl rfl (by omega) ?_)
         refine Dra.op' rfl rfl rfl .sure (Ope.remN (p:=between) rfl rfl rfl (Int.toNat_of_nonneg (by omega)).symm (by omega) ?_)
         refine Dra.op' rfl rfl rfl .sure (Ope.add rfl rfl (by omega) ?_)
         refine Dra.op' rfl rfl rfl .sure (Ope.asg rfl ?_)
         refine Dra.nil (Run.seq (Run.region (cx_ok _ _ _) (Reg.op rfl (Ope.fld rfl rfl ?_))))
         refine Reg.op rfl (Ope.load rfl rfl ?_)
         refine Reg.op rfl (Ope.mov rfl ?_)
         refine Reg.op rfl (Ope.mov rfl ?_)
         refine Reg.op rfl (Ope.remN (p:=en) (q:=2) rfl rfl rfl rfl (by decide) ?_)
         refine Reg.op rfl (Ope.idxM (m:=en / 4) (f:=Sti.v) rfl rfl rfl hi (fun _=>rfl) ?_)
         refine Reg.op rfl (Ope.fld rfl rfl ?_)
         refine Reg.op rfl (Ope.idxA (m:=en % 2) rfl rfl rfl (spn_fp0 _ _ hm2) ?_)
         refine Reg.op rfl (Ope.load rfl rfl ?_)
         refine Reg.op rfl (Ope.newL rfl ?_)
         refine Reg.op0 (Ope.store rfl rfl hget_hd rfl rfl rfl ?_)
         refine Reg.nil (Run.seq (Run.seq (Run.region (cx_ok _ _ _) (Reg.op rfl (Ope.mov rfl ?_)))))
         refine Reg.op rfl (Ope.eq rfl rfl ?_)
         refine Reg.nil (Run.cut (fun e' d' h'=>Lsub [(2,U8 between),(3,.fp (relV rest tl S)),(7,I en),(8,I ((en / 4:Nat):Int)),(9,I ((en / 2 % 2:Nat):Int)),(10,.fn (.func (atF (en / 2 % 2))) [] []),(11,.fp (.agg [I sl,I sh])),(12,I e),(13,.fp (.agg [I cl,I ch])),(17,I (sl+((between % (sh - sl+1).toNat:Nat):Int))),(18,.ptr 2 0)] e'∧d'=[]∧∃ l',h'=HE 3 l'∧hget l' 2=some (.cells [I (wrt S en).1,I (wrt S en).2])) ?_ ?_)
         ·refine Run.condX rfl (fun hc=>?_) fun hc=>?_
          ·refine Run.region (cx_ok _ _ _) (Reg.op rfl (Ope.fld rfl rfl ?_))
           refine Reg.op rfl (Ope.load rfl rfl ?_)
           refine Reg.op rfl (Ope.mov rfl ?_)
           refine Reg.op rfl (Ope.mov rfl ?_)
           refine Reg.op rfl (Ope.remN (p:=en) (q:=2) rfl rfl rfl rfl (by decide) ?_)
           refine Reg.op rfl (Ope.idxM (m:=en / 4) (f:=Sti.v) rfl rfl rfl hi (fun _=>rfl) ?_)
           refine Reg.op rfl (Ope.fld rfl rfl ?_)
           refine Reg.op rfl (Ope.idxA (m:=en % 2) rfl rfl rfl (spn_fp1 _ _ hm2) ?_)
           refine Reg.op rfl (Ope.load rfl rfl ?_)
           refine Reg.op0 (Ope.store rfl rfl hget_hd rfl rfl rfl ?_)
           refine Reg.nil ?_
           first
           | exact Run.lend ⟨⟨rfl,rfl,rfl,rfl,rfl,rfl,rfl,rfl,rfl,rfl,rfl,trivial⟩,rfl,_,rfl,(by rw [wrt_at hen,show en / 2 % 2=1 from by omega];exact hget_hd)⟩
           | exact Run.lend ⟨⟨rfl,rfl,rfl,rfl,rfl,rfl,rfl,rfl,rfl,rfl,rfl,trivial⟩,rfl,_,rfl,(by rw [wrt_at hen,show en / 2 % 2=0 from by omega];exact hget_hd)⟩
          ·refine Run.skip ?_
           first
           | exact Run.lend ⟨⟨rfl,rfl,rfl,rfl,rfl,rfl,rfl,rfl,rfl,rfl,rfl,trivial⟩,rfl,_,rfl,(by rw [wrt_at hen,show en / 2 % 2=1 from by omega];exact hget_hd)⟩
           | exact Run.lend ⟨⟨rfl,rfl,rfl,rfl,rfl,rfl,rfl,rfl,rfl,rfl,rfl,trivial⟩,rfl,_,rfl,(by rw [wrt_at hen,show en / 2 % 2=0 from by omega];exact hget_hd)⟩
         ·rintro e' d' h' ⟨hs, rfl, l', rfl, hl2⟩; refine Run.less hs ?_; refine Run.frz (d := 18) true rfl hl2 rfl ?_; refine Run.wide (m := 3) (l' := []) (Nat.le_refl _) trivial ?_
          refine Run.seq (Run.seq (Run.region (cx_ok _ _ _) (Reg.op rfl (Ope.fld rfl rfl ?_))))
          refine Reg.op rfl (Ope.load rfl rfl ?_)
          refine Reg.op rfl (Ope.sub rfl rfl (by omega) ?_)
          refine Reg.op rfl (Ope.fld rfl rfl ?_)
          refine Reg.op rfl (Ope.load rfl rfl ?_)
          refine Reg.op rfl (Ope.mov rfl ?_)
          refine Reg.op rfl (Ope.fld rfl rfl ?_)
          refine Reg.op rfl (Ope.load rfl rfl ?_)
          refine Reg.op rfl (Ope.fld rfl rfl ?_)
          refine Reg.op rfl (Ope.load rfl rfl ?_)
          refine Reg.op rfl (Ope.add rfl rfl (by omega) ?_)
          refine Reg.op rfl (Ope.bsl rfl rfl rfl rfl ?_)
          refine Reg.op rfl (Ope.len (m:=5) rfl rfl ?_)
          refine Reg.op rfl (Ope.mov rfl ?_)
          refine Reg.nil (Run.block ?_)
          obtain ⟨xs,hxs⟩:∃ xs:List Int,xs=[sl - 1,sl,sl+((between % (sh - sl+1).toNat:Nat):Int),sh,sh+1]:=⟨_,rfl⟩
          have hx5:xs.length=5:=by rw [hxs];rfl
          refine Run.loop (α:=Nat×Nat) (fun s=>[(3,.fp (relV rest tl S)),(7,I en),(8,I ((en / 4:Nat):Int)),(10,.fn (.func (atF (en / 2 % 2))) [] []),(11,.fp (.agg [I sl,I sh])),(13,.fp (.agg [I cl,I ch])),(18,.fp (.agg [I (wrt S en).1,I (wrt S en).2])),(181,.sl .ex (xs.map I)),(182,I 5),(183,I s.1)]) (fun s=>HE s.2 []) (fun s=>s.1≤5) (fun s=>5 - s.1) (0,3) ⟨rfl,rfl,rfl,rfl,rfl,rfl,rfl,(by rw [hxs];rfl),rfl,rfl,trivial⟩ rfl (Nat.zero_le _) (fun s hs=>?_)
          obtain ⟨k,q⟩:=s
          have hk5:k≤5:=hs
          show Run _ _ _ _ [(3,.fp (relV rest tl S)),(7,I en),(8,I ((en / 4:Nat):Int)),(10,.fn (.func (atF (en / 2 % 2))) [] []),(11,.fp (.agg [I sl,I sh])),(13,.fp (.agg [I cl,I ch])),(18,.fp (.agg [I (wrt S en).1,I (wrt S en).2])),(181,.sl .ex (xs.map I)),(182,I 5),(183,I k)] [] (HE q [])
          refine Run.seq (Run.region (cx_ok _ _ _) (Reg.op rfl (Ope.lt rfl rfl ?_)))
          refine Reg.nil (Run.seq (Run.condX rfl (fun hc=>?_) fun hc=>?_))
          ·refine Run.skip (Run.seq (Run.block (Run.seq ?_)))
           have hk:k < xs.length:=by omega
           refine Run.region (cx_ok _ _ _) (Reg.op rfl (Ope.idxM (m:=k) (f:=I) rfl rfl rfl hk (fun _=>rfl) ?_))
           refine Reg.op rfl (Ope.load rfl rfl ?_)
           refine Reg.op rfl (Ope.asg rfl ?_)
           refine Reg.nil (Run.seq (Run.seq ?_))
           generalize xs[k]=nn at *
           refine Run.region (cx_ok _ _ _) (Reg.op rfl (Ope.mov rfl ?_))
           refine Reg.op rfl (Ope.lt rfl rfl ?_)
           refine Reg.op rfl (Ope.mov rfl ?_)
           refine Reg.splitX rfl rfl (fun hg=>?_) fun hg=>?_
           ·refine Reg.off rfl rfl rfl (Reg.off rfl rfl rfl (Reg.op rfl (Ope.pickT rfl rfl ?_)))
            refine Reg.nil (Run.condT rfl (Run.exit (Jmp.code (Jmp.here (Run.region (cx_ok _ _ _) (Reg.op rfl (Ope.add rfl rfl (by omega) ?_)))))))
            refine Reg.op rfl (Ope.mov rfl ?_)
            refine Reg.nil ?_
            first
            | exact Run.lend ⟨(k+1,q),by show 5 - (k+1) < 5 - k;omega,by show k+1≤5;omega,⟨rfl,rfl,rfl,rfl,rfl,rfl,rfl,rfl,rfl,rfl,trivial⟩,rfl,rfl⟩
            | exact Run.lend ⟨(k+1,q+1),by show 5 - (k+1) < 5 - k;omega,by show k+1≤5;omega,⟨rfl,rfl,rfl,rfl,rfl,rfl,rfl,rfl,rfl,rfl,trivial⟩,rfl,rfl⟩
           ·refine Reg.on rfl rfl rfl (Ope.mov rfl ?_)
            refine Reg.on rfl rfl rfl (Ope.gt rfl rfl ?_)
            refine Reg.op rfl (Ope.pickF rfl rfl ?_)
            refine Reg.nil (Run.condX rfl (fun hc=>?_) fun hc=>?_)
            ·refine Run.exit (Jmp.code (Jmp.here (Run.region (cx_ok _ _ _) (Reg.op rfl (Ope.add rfl rfl (by omega) ?_)))))
             refine Reg.op rfl (Ope.mov rfl ?_)
             refine Reg.nil ?_
             first
             | exact Run.lend ⟨(k+1,q),by show 5 - (k+1) < 5 - k;omega,by show k+1≤5;omega,⟨rfl,rfl,rfl,rfl,rfl,rfl,rfl,rfl,rfl,rfl,trivial⟩,rfl,rfl⟩
             | exact Run.lend ⟨(k+1,q+1),by show 5 - (k+1) < 5 - k;omega,by show k+1≤5;omega,⟨rfl,rfl,rfl,rfl,rfl,rfl,rfl,rfl,rfl,rfl,trivial⟩,rfl,rfl⟩
            ·refine Run.skip (Run.seq ?_)
             obtain ⟨tt,uu,hh,p1,p2,p3⟩:=Hex.get h0 nn (by omega) (by omega)
             refine Run.region (cx_ok _ _ _) (Reg.op rfl (Ope.mov rfl ?_))
             refine Reg.op rfl (Ope.load rfl rfl ?_)
             refine Reg.op rfl (Ope.mov rfl ?_)
             refine Reg.op rfl (Ope.mov rfl ?_)
             refine Reg.op rfl (Ope.cf rfl rfl (f33 rest tl htl S (by omega) en hen nn) (hb2 _ _) ?_)
             refine Reg.op rfl (Ope.mov rfl ?_)
             refine Reg.op rfl (Ope.cf rfl rfl p1 (bd_is rest .no rfl _ _) ?_)
             refine Reg.op rfl (Ope.mov rfl ?_)
             refine Reg.op rfl (Ope.ext rfl rfl ?_)
             refine Reg.op rfl (Ope.ext rfl rfl ?_)
             refine Reg.op rfl (Ope.newL rfl ?_)
             refine Reg.op0 (Ope.store rfl rfl hget_hd rfl rfl rfl ?_)
             refine Reg.op rfl (Ope.asg rfl ?_)
             refine Reg.nil (Run.seq (Run.frz (d:=21) true rfl hget_hd rfl ?_))
             refine Run.wide (m:=q+1) (l':=[]) (Nat.le_refl _) trivial ?_
             generalize (wrt S en).1=w1 at *
             generalize (wrt S en).2=w2 at *
             refine Run.cut (fun e' d' h'=>Lsub [(3,.fp (relV rest tl S)),(7,I en),(8,I ((en / 4:Nat):Int)),(10,.fn (.func (atF (en / 2 % 2))) [] []),(11,.fp (.agg [I sl,I sh])),(13,.fp (.agg [I cl,I ch])),(18,.fp (.agg [I w1,I w2])),(181,.sl .ex (xs.map I)),(182,I 5),(183,I k),(243,B false)] e'∧d'=[]∧h'=HE (q+1) []) ?_ ?_
             ·refine Run.draw (cx_ok _ _ _) [(0,true),(1,true),(2,true),(3,true),(4,true),(5,true),(6,true),(7,true),(8,true),(9,true),(10,true),(11,true),(12,true),(13,true),(14,true),(15,true),(16,true),(17,true),(18,true),(19,false),(20,true),(21,true),(22,true),(23,true),(24,true),(25,true),(26,true),(27,true),(28,true),(29,true),(30,true),(31,true),(32,true),(33,true),(34,true),(35,true),(36,true),(37,true),(38,true),(39,true),(40,true)] (by kernel_rfl) (Dra.op' rfl rfl rfl .sure (Ope.mov rfl ?_))
              refine Dra.op' rfl rfl rfl .sure (Ope.ne rfl rfl ?_)
              refine Dra.op' rfl rfl rfl .sure (Ope.mov rfl ?_)
              refine Dra.splitX rfl rfl rfl rfl (fun hg=>?_) fun hg=>?_
              ·refine Dra.on' rfl rfl rfl rfl rfl .sure (Ope.mov rfl ?_)
               refine Dra.on' rfl rfl rfl rfl rfl .sure (Ope.ne rfl rfl ?_)
               refine Dra.op' rfl rfl rfl .sure (Ope.pickT rfl rfl ?_)
               refine Dra.op' rfl rfl rfl .sure (Ope.mov rfl ?_)
               refine Dra.splitX rfl rfl rfl rfl (fun hg=>?_) fun hg=>?_
               ·(first | (exfalso;omega) | (exfalso;simp only [Bool.not_eq_true',Bool.not_eq_false',decide_eq_false_iff_not,decide_eq_true_eq] at *;omega))
               ·refine Dra.on' rfl rfl rfl rfl rfl .sure (Ope.load rfl rfl ?_)
                refine Dra.on' rfl rfl rfl rfl rfl .sure (Ope.mov rfl ?_)
                refine Dra.on' rfl rfl rfl rfl rfl .sure (Ope.cf rfl rfl (f31g sl sh nn) rfl ?_)
                refine Dra.on' rfl rfl rfl rfl rfl .sure (Ope.mov rfl ?_)
                refine Dra.splitX rfl rfl rfl rfl (fun hg=>?_) fun hg=>?_
                ·(first | (exfalso;omega) | (exfalso;simp only [Bool.not_eq_true',Bool.not_eq_false',decide_eq_false_iff_not,decide_eq_true_eq] at *;omega))
                ·refine Dra.off' rfl rfl rfl (.inl rfl) rfl (Dra.off' rfl rfl rfl (.inl rfl) rfl (Dra.on' rfl rfl rfl rfl rfl .sure (Ope.pickF rfl rfl ?_)))
                 refine Dra.op' rfl rfl rfl .sure (Ope.pickF rfl rfl ?_)
                 refine Dra.op' rfl rfl rfl .sure (Ope.mov rfl ?_)
                 refine Dra.on' rfl rfl rfl rfl rfl .sure (Ope.mov rfl ?_)
                 refine Dra.on' rfl rfl rfl rfl rfl .sure (Ope.eq rfl rfl ?_)
                 refine Dra.on' rfl rfl rfl rfl rfl .sure (Ope.mov rfl ?_)
                 refine Dra.splitX rfl rfl rfl rfl (fun hg=>?_) fun hg=>?_
                 ·(first | (exfalso;omega) | (exfalso;simp only [Bool.not_eq_true',Bool.not_eq_false',decide_eq_false_iff_not,decide_eq_true_eq] at *;omega))
                 ·refine Dra.off' rfl rfl rfl (.inl rfl) rfl (Dra.off' rfl rfl rfl (.inl rfl) rfl (Dra.off' rfl rfl rfl (.inl rfl) rfl (Dra.off' rfl rfl rfl (.inl rfl) rfl (Dra.off' rfl rfl rfl (.inl rfl) rfl (Dra.on' rfl rfl rfl rfl rfl .sure (Ope.pickF rfl rfl ?_))))))
                  refine Dra.op' rfl rfl rfl .sure (Ope.pickF rfl rfl ?_)
                  refine Dra.op' rfl rfl rfl .sure (Ope.mov rfl ?_)
                  refine Dra.on' rfl rfl rfl rfl rfl .sure (Ope.load rfl rfl ?_)
                  refine Dra.on' rfl rfl rfl rfl rfl .sure (Ope.mov rfl ?_)
                  refine Dra.on' rfl rfl rfl rfl rfl .sure (Ope.cf rfl rfl (f31g sl sh nn) rfl ?_)
                  refine Dra.on' rfl rfl rfl rfl rfl .sure (Ope.not rfl ?_)
                  refine Dra.on' rfl rfl rfl rfl rfl .sure (Ope.mov rfl ?_)
                  refine Dra.splitX rfl rfl rfl rfl (fun hg=>?_) fun hg=>?_
                  ·refine Dra.on' rfl rfl rfl rfl rfl .sure (Ope.load rfl rfl ?_)
                   refine Dra.on' rfl rfl rfl rfl rfl .sure (Ope.mov rfl ?_)
                   refine Dra.on' rfl rfl rfl rfl rfl .sure (Ope.cf rfl rfl (f31g w1 w2 nn) rfl ?_)
                   refine Dra.on' rfl rfl rfl rfl rfl .sure (Ope.pickT rfl rfl ?_)
                   refine Dra.on' rfl rfl rfl rfl rfl .sure (Ope.mov rfl ?_)
                   refine Dra.splitX rfl rfl rfl rfl (fun hg=>?_) fun hg=>?_
                   ·refine Dra.on' rfl rfl rfl rfl rfl .sure (Ope.mov rfl ?_)
                    refine Dra.on' rfl rfl rfl rfl rfl .sure (Ope.eq rfl rfl ?_)
                    refine Dra.on' rfl rfl rfl rfl rfl .sure (Ope.pickT rfl rfl ?_)
                    refine Dra.op' rfl rfl rfl .sure (Ope.pickF rfl rfl ?_)
                    refine Dra.nil ?_
                    first
                    | exact Run.lend ⟨⟨rfl,rfl,rfl,rfl,rfl,rfl,rfl,rfl,rfl,rfl,rfl,trivial⟩,rfl,rfl⟩
                    | exact Run.lend ⟨⟨rfl,rfl,rfl,rfl,rfl,rfl,rfl,rfl,rfl,rfl,congrArg (fun b=>some (B b)) (decide_eq_false (by omega)),trivial⟩,rfl,rfl⟩
                    | exact Run.lend ⟨⟨rfl,rfl,rfl,rfl,rfl,rfl,rfl,rfl,rfl,rfl,congrArg (fun b=>some (B b)) (decide_eq_false (by simp only [Bool.not_eq_true',Bool.not_eq_false',decide_eq_false_iff_not,decide_eq_true_eq] at *;omega)),trivial⟩,rfl,rfl⟩
                   ·refine Dra.off' rfl rfl rfl (.inl rfl) rfl (Dra.off' rfl rfl rfl (.inl rfl) rfl (Dra.on' rfl rfl rfl rfl rfl .sure (Ope.pickF rfl rfl ?_)))
                    refine Dra.op' rfl rfl rfl .sure (Ope.pickF rfl rfl ?_)
                    refine Dra.nil ?_
                    first
                    | exact Run.lend ⟨⟨rfl,rfl,rfl,rfl,rfl,rfl,rfl,rfl,rfl,rfl,rfl,trivial⟩,rfl,rfl⟩
                    | exact Run.lend ⟨⟨rfl,rfl,rfl,rfl,rfl,rfl,rfl,rfl,rfl,rfl,congrArg (fun b=>some (B b)) (decide_eq_false (by omega)),trivial⟩,rfl,rfl⟩
                    | exact Run.lend ⟨⟨rfl,rfl,rfl,rfl,rfl,rfl,rfl,rfl,rfl,rfl,congrArg (fun b=>some (B b)) (decide_eq_false (by simp only [Bool.not_eq_true',Bool.not_eq_false',decide_eq_false_iff_not,decide_eq_true_eq] at *;omega)),trivial⟩,rfl,rfl⟩
                  ·(first | (exfalso;omega) | (exfalso;simp only [Bool.not_eq_true',Bool.not_eq_false',decide_eq_false_iff_not,decide_eq_true_eq] at *;omega))
              ·refine Dra.off' rfl rfl rfl (.inl rfl) rfl (Dra.off' rfl rfl rfl (.inl rfl) rfl (Dra.op' rfl rfl rfl .sure (Ope.pickF rfl rfl ?_)))
               refine Dra.op' rfl rfl rfl .sure (Ope.mov rfl ?_)
               refine Dra.on' rfl rfl rfl rfl rfl .sure (Ope.load rfl rfl ?_)
               refine Dra.on' rfl rfl rfl rfl rfl .sure (Ope.mov rfl ?_)
               refine Dra.on' rfl rfl rfl rfl rfl .sure (Ope.cf rfl rfl (f31g sl sh nn) rfl ?_)
               refine Dra.on' rfl rfl rfl rfl rfl .sure (Ope.mov rfl ?_)
               refine Dra.splitX rfl rfl rfl rfl (fun hg=>?_) fun hg=>?_
               ·refine Dra.on' rfl rfl rfl rfl rfl .sure (Ope.mov rfl ?_)
                refine Dra.on' rfl rfl rfl rfl rfl .sure (Ope.ne rfl rfl ?_)
                refine Dra.on' rfl rfl rfl rfl rfl .sure (Ope.pickT rfl rfl ?_)
                refine Dra.op' rfl rfl rfl .sure (Ope.pickF rfl rfl ?_)
                refine Dra.op' rfl rfl rfl .sure (Ope.mov rfl ?_)
                refine Dra.splitX rfl rfl rfl rfl (fun hg=>?_) fun hg=>?_
                ·(first | (exfalso;omega) | (exfalso;simp only [Bool.not_eq_true',Bool.not_eq_false',decide_eq_false_iff_not,decide_eq_true_eq] at *;omega))
                ·refine Dra.on' rfl rfl rfl rfl rfl .sure (Ope.mov rfl ?_)
                 refine Dra.on' rfl rfl rfl rfl rfl .sure (Ope.eq rfl rfl ?_)
                 refine Dra.on' rfl rfl rfl rfl rfl .sure (Ope.mov rfl ?_)
                 refine Dra.splitX rfl rfl rfl rfl (fun hg=>?_) fun hg=>?_
                 ·refine Dra.on' rfl rfl rfl rfl rfl (.load rfl) (Ope.load rfl rfl ?_)
                  refine Dra.on' rfl rfl rfl rfl rfl .sure (Ope.mov rfl ?_)
                  refine Dra.on' rfl rfl rfl rfl rfl .sure (Ope.mov rfl ?_)
                  refine Dra.on' rfl rfl rfl rfl rfl .sure (Ope.cf rfl rfl (f34 nn nn) rfl ?_)
                  refine Dra.on' rfl rfl rfl rfl rfl .sure (Ope.neV rfl rfl (neSp _ _ tt uu nn nn) ?_)
                  refine Dra.on' rfl rfl rfl rfl rfl .sure (Ope.pickT rfl rfl ?_)
                  refine Dra.op' rfl rfl rfl .sure (Ope.pickF rfl rfl ?_)
                  refine Dra.op' rfl rfl rfl .sure (Ope.mov rfl ?_)
                  refine Dra.splitX rfl rfl rfl rfl (fun hg=>?_) fun hg=>?_
                  ·(first | (exfalso;omega) | (exfalso;simp only [Bool.not_eq_true',Bool.not_eq_false',decide_eq_false_iff_not,decide_eq_true_eq] at *;omega))
                  ·refine Dra.on' rfl rfl rfl rfl rfl .sure (Ope.load rfl rfl ?_)
                   refine Dra.on' rfl rfl rfl rfl rfl .sure (Ope.mov rfl ?_)
                   refine Dra.on' rfl rfl rfl rfl rfl .sure (Ope.cf rfl rfl (f31g sl sh nn) rfl ?_)
                   refine Dra.on' rfl rfl rfl rfl rfl .sure (Ope.not rfl ?_)
                   refine Dra.on' rfl rfl rfl rfl rfl .sure (Ope.mov rfl ?_)
                   refine Dra.splitX rfl rfl rfl rfl (fun hg=>?_) fun hg=>?_
                   ·(first | (exfalso;omega) | (exfalso;simp only [Bool.not_eq_true',Bool.not_eq_false',decide_eq_false_iff_not,decide_eq_true_eq] at *;omega))
                   ·refine Dra.off' rfl rfl rfl (.inl rfl) rfl (Dra.off' rfl rfl rfl (.inl rfl) rfl (Dra.off' rfl rfl rfl (.inl rfl) rfl (Dra.on' rfl rfl rfl rfl rfl .sure (Ope.pickF rfl rfl ?_))))
                    refine Dra.on' rfl rfl rfl rfl rfl .sure (Ope.mov rfl ?_)
                    refine Dra.off' rfl rfl rfl (.inl rfl) rfl (Dra.off' rfl rfl rfl (.inl rfl) rfl (Dra.on' rfl rfl rfl rfl rfl .sure (Ope.pickF rfl rfl ?_)))
                    refine Dra.op' rfl rfl rfl .sure (Ope.pickF rfl rfl ?_)
                    refine Dra.nil ?_
                    first
                    | exact Run.lend ⟨⟨rfl,rfl,rfl,rfl,rfl,rfl,rfl,rfl,rfl,rfl,rfl,trivial⟩,rfl,rfl⟩
                    | exact Run.lend ⟨⟨rfl,rfl,rfl,rfl,rfl,rfl,rfl,rfl,rfl,rfl,congrArg (fun b=>some (B b)) (decide_eq_false (by omega)),trivial⟩,rfl,rfl⟩
                    | exact Run.lend ⟨⟨rfl,rfl,rfl,rfl,rfl,rfl,rfl,rfl,rfl,rfl,congrArg (fun b=>some (B b)) (decide_eq_false (by simp only [Bool.not_eq_true',Bool.not_eq_false',decide_eq_false_iff_not,decide_eq_true_eq] at *;omega)),trivial⟩,rfl,rfl⟩
                 ·(first | (exfalso;omega) | (exfalso;simp only [Bool.not_eq_true',Bool.not_eq_false',decide_eq_false_iff_not,decide_eq_true_eq] at *;omega))
               ·refine Dra.off' rfl rfl rfl (.inl rfl) rfl (Dra.off' rfl rfl rfl (.inl rfl) rfl (Dra.on' rfl rfl rfl rfl rfl .sure (Ope.pickF rfl rfl ?_)))
                refine Dra.op' rfl rfl rfl .sure (Ope.pickF rfl rfl ?_)
                refine Dra.op' rfl rfl rfl .sure (Ope.mov rfl ?_)
                refine Dra.on' rfl rfl rfl rfl rfl .sure (Ope.mov rfl ?_)
                refine Dra.on' rfl rfl rfl rfl rfl .sure (Ope.eq rfl rfl ?_)
                refine Dra.on' rfl rfl rfl rfl rfl .sure (Ope.mov rfl ?_)
                refine Dra.splitX rfl rfl rfl rfl (fun hg=>?_) fun hg=>?_
                ·refine Dra.on' rfl rfl rfl rfl rfl (.load rfl) (Ope.load rfl rfl ?_)
                 refine Dra.on' rfl rfl rfl rfl rfl .sure (Ope.mov rfl ?_)
                 refine Dra.on' rfl rfl rfl rfl rfl .sure (Ope.mov rfl ?_)
                 refine Dra.on' rfl rfl rfl rfl rfl .sure (Ope.cf rfl rfl (f34 nn nn) rfl ?_)
                 refine Dra.on' rfl rfl rfl rfl rfl .sure (Ope.neV rfl rfl (neSp _ _ tt uu nn nn) ?_)
                 refine Dra.on' rfl rfl rfl rfl rfl .sure (Ope.pickT rfl rfl ?_)
                 refine Dra.op' rfl rfl rfl .sure (Ope.pickF rfl rfl ?_)
                 refine Dra.op' rfl rfl rfl .sure (Ope.mov rfl ?_)
                 refine Dra.splitX rfl rfl rfl rfl (fun hg=>?_) fun hg=>?_
                 ·(first | (exfalso;omega) | (exfalso;simp only [Bool.not_eq_true',Bool.not_eq_false',decide_eq_false_iff_not,decide_eq_true_eq] at *;omega))
                 ·refine Dra.on' rfl rfl rfl rfl rfl .sure (Ope.load rfl rfl ?_)
                  refine Dra.on' rfl rfl rfl rfl rfl .sure (Ope.mov rfl ?_)
                  refine Dra.on' rfl rfl rfl rfl rfl .sure (Ope.cf rfl rfl (f31g sl sh nn) rfl ?_)
                  refine Dra.on' rfl rfl rfl rfl rfl .sure (Ope.not rfl ?_)
                  refine Dra.on' rfl rfl rfl rfl rfl .sure (Ope.mov rfl ?_)
                  refine Dra.splitX rfl rfl rfl rfl (fun hg=>?_) fun hg=>?_
                  ·refine Dra.on' rfl rfl rfl rfl rfl .sure (Ope.load rfl rfl ?_)
                   refine Dra.on' rfl rfl rfl rfl rfl .sure (Ope.mov rfl ?_)
                   refine Dra.on' rfl rfl rfl rfl rfl .sure (Ope.cf rfl rfl (f31g w1 w2 nn) rfl ?_)
                   refine Dra.on' rfl rfl rfl rfl rfl .sure (Ope.pickT rfl rfl ?_)
                   refine Dra.on' rfl rfl rfl rfl rfl .sure (Ope.mov rfl ?_)
                   refine Dra.splitX rfl rfl rfl rfl (fun hg=>?_) fun hg=>?_
                   ·(first | (exfalso;omega) | (exfalso;simp only [Bool.not_eq_true',Bool.not_eq_false',decide_eq_false_iff_not,decide_eq_true_eq] at *;omega))
                   ·refine Dra.off' rfl rfl rfl (.inl rfl) rfl (Dra.off' rfl rfl rfl (.inl rfl) rfl (Dra.on' rfl rfl rfl rfl rfl .sure (Ope.pickF rfl rfl ?_)))
                    refine Dra.op' rfl rfl rfl .sure (Ope.pickF rfl rfl ?_)
                    refine Dra.nil ?_
                    first
                    | exact Run.lend ⟨⟨rfl,rfl,rfl,rfl,rfl,rfl,rfl,rfl,rfl,rfl,rfl,trivial⟩,rfl,rfl⟩
                    | exact Run.lend ⟨⟨rfl,rfl,rfl,rfl,rfl,rfl,rfl,rfl,rfl,rfl,congrArg (fun b=>some (B b)) (decide_eq_false (by omega)),trivial⟩,rfl,rfl⟩
                    | exact Run.lend ⟨⟨rfl,rfl,rfl,rfl,rfl,rfl,rfl,rfl,rfl,rfl,congrArg (fun b=>some (B b)) (decide_eq_false (by simp only [Bool.not_eq_true',Bool.not_eq_false',decide_eq_false_iff_not,decide_eq_true_eq] at *;omega)),trivial⟩,rfl,rfl⟩
                  ·(first | (exfalso;omega) | (exfalso;simp only [Bool.not_eq_true',Bool.not_eq_false',decide_eq_false_iff_not,decide_eq_true_eq] at *;omega))
                ·(first | (exfalso;omega) | (exfalso;simp only [Bool.not_eq_true',Bool.not_eq_false',decide_eq_false_iff_not,decide_eq_true_eq] at *;omega))
             ·rintro e' d' h' ⟨hs,rfl,rfl⟩;refine Run.less hs ?_
              refine Run.condX rfl (fun hc=>?_) fun hc=>?_
              ·(exfalso;exact absurd hc (by decide))
              ·refine Run.skip (Run.bend (Run.region (cx_ok _ _ _) (Reg.op rfl (Ope.add rfl rfl (by omega) ?_))))
               refine Reg.op rfl (Ope.mov rfl ?_)
               refine Reg.nil ?_
               first
               | exact Run.lend ⟨(k+1,q),by show 5 - (k+1) < 5 - k;omega,by show k+1≤5;omega,⟨rfl,rfl,rfl,rfl,rfl,rfl,rfl,rfl,rfl,rfl,trivial⟩,rfl,rfl⟩
               | exact Run.lend ⟨(k+1,q+1),by show 5 - (k+1) < 5 - k;omega,by show k+1≤5;omega,⟨rfl,rfl,rfl,rfl,rfl,rfl,rfl,rfl,rfl,rfl,trivial⟩,rfl,rfl⟩
          ·refine Run.exit (Jmp.code (Jmp.round (Jmp.here (Run.seq ?_))))
           obtain ⟨al,ah,bl,bh,o1,o2,⟨b1,b2,⟨b3,b4,b5⟩,b6,b7,b8⟩,Hl⟩:=Honf.get h0
           refine Run.region (cx_ok _ _ _) (Reg.op rfl (Ope.load rfl rfl ?_))
           refine Reg.op rfl (Ope.mov rfl ?_)
           refine Reg.op rfl (Ope.cf rfl rfl o1 (hbd _) ?_)
           refine Reg.op rfl (Ope.mov rfl ?_)
           refine Reg.op rfl (Ope.ext rfl rfl ?_)
           refine Reg.op rfl (Ope.ext rfl rfl ?_)
           refine Reg.op rfl (Ope.newL rfl ?_)
           refine Reg.op0 (Ope.store rfl rfl hget_hd rfl rfl rfl ?_)
           refine Reg.op rfl (Ope.asg rfl ?_)
           refine Reg.nil (Run.seq (Run.frz (d:=23) true rfl hget_hd rfl ?_))
           refine Run.wide (m:=q+1) (l':=[]) (Nat.le_refl _) trivial ?_
           refine Run.region (cx_ok _ _ _) (Reg.op rfl (Ope.load rfl rfl ?_))
           refine Reg.op rfl (Ope.mov rfl ?_)
           refine Reg.op rfl (Ope.cf rfl rfl o2 (hbd _) ?_)
           refine Reg.op rfl (Ope.mov rfl ?_)
           refine Reg.op rfl (Ope.ext rfl rfl ?_)
           refine Reg.op rfl (Ope.ext rfl rfl ?_)
           refine Reg.op rfl (Ope.newL rfl ?_)
           refine Reg.op0 (Ope.store rfl rfl hget_hd rfl rfl rfl ?_)
           refine Reg.op rfl (Ope.asg rfl ?_)
           refine Reg.nil (Run.seq (Run.seq (Run.frz (d:=25) true rfl hget_hd rfl ?_)))
           refine Run.wide (m:=q+2) (l':=[]) (Nat.le_refl _) trivial ?_
           refine Run.cut (fun e' d' h'=>Lsub [(3,.fp (relV rest tl S)),(8,I ((en / 4:Nat):Int)),(13,.fp (.agg [I cl,I ch])),(23,.fp (.agg [I al,I ah])),(282,B false)] e'∧d'=[]∧h'=HE (q+2) []) ?_ ?_
           ·refine Run.region (cx_ok _ _ _) (Reg.op rfl (Ope.mov rfl ?_))
            refine Reg.op rfl (Ope.ne rfl rfl ?_)
            refine Reg.op rfl (Ope.mov rfl ?_)
            refine Reg.splitX rfl rfl (fun hg=>?_) fun hg=>?_
            ·(first | (exfalso;omega) | (exfalso;simp only [Bool.not_eq_true',Bool.not_eq_false',decide_eq_false_iff_not,decide_eq_true_eq] at *;omega))
            ·refine Reg.on rfl rfl rfl (Ope.mov rfl ?_)
             refine Reg.on rfl rfl rfl (Ope.ne rfl rfl ?_)
             refine Reg.op rfl (Ope.pickF rfl rfl ?_)
             refine Reg.op rfl (Ope.mov rfl ?_)
             refine Reg.splitX rfl rfl (fun hg=>?_) fun hg=>?_
             ·(first | (exfalso;omega) | (exfalso;simp only [Bool.not_eq_true',Bool.not_eq_false',decide_eq_false_iff_not,decide_eq_true_eq] at *;omega))
             ·refine Reg.on rfl rfl rfl (Ope.fld rfl rfl ?_)
              refine Reg.on rfl rfl rfl (Ope.load rfl rfl ?_)
              refine Reg.on rfl rfl rfl (Ope.fld rfl rfl ?_)
              refine Reg.on rfl rfl rfl (Ope.load rfl rfl ?_)
              refine Reg.on rfl rfl rfl (Ope.fld rfl rfl ?_)
              refine Reg.on rfl rfl rfl (Ope.load rfl rfl ?_)
              refine Reg.on rfl rfl rfl (Ope.sub rfl rfl (by omega) ?_)
              refine Reg.on rfl rfl rfl (Ope.lt rfl rfl ?_)
              refine Reg.op rfl (Ope.pickF rfl rfl ?_)
              refine Reg.op rfl (Ope.mov rfl ?_)
              refine Reg.splitX rfl rfl (fun hg=>?_) fun hg=>?_
              ·(first | (exfalso;omega) | (exfalso;simp only [Bool.not_eq_true',Bool.not_eq_false',decide_eq_false_iff_not,decide_eq_true_eq] at *;omega))
              ·refine Reg.on rfl rfl rfl (Ope.fld rfl rfl ?_)
               refine Reg.on rfl rfl rfl (Ope.load rfl rfl ?_)
               refine Reg.on rfl rfl rfl (Ope.fld rfl rfl ?_)
               refine Reg.on rfl rfl rfl (Ope.load rfl rfl ?_)
               refine Reg.on rfl rfl rfl (Ope.fld rfl rfl ?_)
               refine Reg.on rfl rfl rfl (Ope.load rfl rfl ?_)
               refine Reg.on rfl rfl rfl (Ope.sub rfl rfl (by omega) ?_)
               refine Reg.on rfl rfl rfl (Ope.gt rfl rfl ?_)
               refine Reg.op rfl (Ope.pickF rfl rfl ?_)
               refine Reg.nil ?_
               first
               | exact Run.lend ⟨⟨rfl,rfl,rfl,rfl,rfl,trivial⟩,rfl,rfl⟩
               | exact Run.lend ⟨⟨rfl,rfl,rfl,rfl,congrArg (fun b=>some (B b)) (decide_eq_false (by omega)),trivial⟩,rfl,rfl⟩
           ·rintro e' d' h' ⟨hs, rfl, rfl⟩; refine Run.less hs ?_
            refine Run.condX rfl (fun hc=>?_) fun hc=>?_
            ·(exfalso;exact absurd hc (by decide))
            ·refine Run.skip (Run.seq (Run.seq (Run.region (cx_ok _ _ _) (Reg.op rfl (Ope.fld rfl rfl ?_)))))
             refine Reg.op rfl (Ope.load rfl rfl ?_)
             refine Reg.op rfl (Ope.fld rfl rfl ?_)
             refine Reg.op rfl (Ope.load rfl rfl ?_)
             refine Reg.op rfl (Ope.bsl rfl rfl rfl rfl ?_)
             refine Reg.op rfl (Ope.len (m:=2) rfl rfl ?_)
             refine Reg.op rfl (Ope.mov rfl ?_)
             refine Reg.nil (Run.block ?_)
             obtain ⟨ys,hys⟩:∃ ys:List Int,ys=[al,ah]:=⟨_,rfl⟩
             have hy2:ys.length=2:=by rw [hys];rfl
             have hym:∀ n∈ys,n=al∨n=ah:=by intro n hn;rw [hys] at hn;simpa using hn
             refine Run.loop (α:=Nat×Nat) (fun s=>[(3,.fp (relV rest tl S)),(8,I ((en / 4:Nat):Int)),(13,.fp (.agg [I cl,I ch])),(287,.sl .ex (ys.map I)),(288,I 2),(289,I s.1)]) (fun s=>HE s.2 []) (fun s=>s.1≤2) (fun s=>2 - s.1) (0,q+2) ⟨rfl,rfl,rfl,(by rw [hys];rfl),rfl,rfl,trivial⟩ rfl (Nat.zero_le _) (fun s hs=>?_)
             obtain ⟨j,r⟩:=s
             have hj2:j≤2:=hs
             show Run _ _ _ _ [(3,.fp (relV rest tl S)),(8,I ((en / 4:Nat):Int)),(13,.fp (.agg [I cl,I ch])),(287,.sl .ex (ys.map I)),(288,I 2),(289,I j)] [] (HE r [])
             refine Run.seq (Run.region (cx_ok _ _ _) (Reg.op rfl (Ope.lt rfl rfl ?_)))
             refine Reg.nil (Run.seq (Run.condX rfl (fun hc=>?_) fun hc=>?_))
             ·refine Run.skip (Run.seq (Run.block (Run.seq ?_)))
              have hj:j < ys.length:=by omega
              have hjm:=hym _ (List.getElem_mem hj)
              refine Run.region (cx_ok _ _ _) (Reg.op rfl (Ope.idxM (m:=j) (f:=I) rfl rfl rfl hj (fun _=>rfl) ?_))
              refine Reg.op rfl (Ope.load rfl rfl ?_)
              refine Reg.op rfl (Ope.asg rfl ?_)
              refine Reg.nil (Run.seq ?_)
              generalize ys[j]=nn at *
              obtain ⟨ul,uh,l1,l2,l3,l4,⟨l5,l6⟩,l7,l8⟩:=Hl nn hjm
              refine Run.region (cx_ok _ _ _) (Reg.op rfl (Ope.load rfl rfl ?_))
              refine Reg.op rfl (Ope.mov rfl ?_)
              refine Reg.op rfl (Ope.mul rfl rfl (by omega) ?_)
              refine Reg.op rfl (Ope.mov rfl ?_)
              refine Reg.op rfl (Ope.cf rfl rfl (f33 rest tl htl S (by omega) (4 * (en / 4)) (by omega) nn) (hb2 _ _) ?_)
              refine Reg.op rfl (Ope.newL rfl ?_)
              refine Reg.op0 (Ope.store rfl rfl hget_hd rfl rfl rfl ?_)
              refine Reg.nil (Run.seq (Run.frz (d:=29) true rfl hget_hd rfl ?_))
              refine Run.wide (m:=r+1) (l':=[]) (Nat.le_refl _) trivial ?_
              refine Run.region (cx_ok _ _ _) (Reg.op rfl (Ope.load rfl rfl ?_))
              refine Reg.op rfl (Ope.mov rfl ?_)
              refine Reg.op rfl (Ope.cf rfl rfl l1 (bd_is rest .no rfl _ _) ?_)
              refine Reg.op rfl (Ope.mov rfl ?_)
              refine Reg.op rfl (Ope.ext rfl rfl ?_)
              refine Reg.op rfl (Ope.ext rfl rfl ?_)
              refine Reg.op rfl (Ope.newL rfl ?_)
              refine Reg.op0 (Ope.store rfl rfl hget_hd rfl rfl rfl ?_)
              refine Reg.op rfl (Ope.asg rfl ?_)
              refine Reg.nil (Run.seq (Run.frz (d:=30) true rfl hget_hd rfl ?_))
              refine Run.wide (m:=r+2) (l':=[]) (Nat.le_refl _) trivial ?_
              refine Run.region (cx_ok _ _ _) (Reg.op rfl (Ope.load rfl rfl ?_))
              refine Reg.op rfl (Ope.mov rfl ?_)
              refine Reg.op rfl (Ope.cf rfl rfl l2 (bd_is rest .no rfl _ _) ?_)
              refine Reg.op rfl (Ope.mov rfl ?_)
              refine Reg.op rfl (Ope.ext rfl rfl ?_)
              refine Reg.op rfl (Ope.ext rfl rfl ?_)
              refine Reg.op rfl (Ope.newL rfl ?_)
              refine Reg.op0 (Ope.store rfl rfl hget_hd rfl rfl rfl ?_)
              refine Reg.op rfl (Ope.asg rfl ?_)
              refine Reg.nil (Run.seq (Run.frz (d:=32) true rfl hget_hd rfl ?_))
              refine Run.wide (m:=r+3) (l':=[]) (Nat.le_refl _) trivial ?_
              refine Run.cut (fun e' d' h'=>Lsub [(3,.fp (relV rest tl S)),(8,I ((en / 4:Nat):Int)),(13,.fp (.agg [I cl,I ch])),(287,.sl .ex (ys.map I)),(288,I 2),(289,I j),(342,B false)] e'∧d'=[]∧h'=HE (r+3) []) ?_ ?_
              ·refine Run.draw (cx_ok _ _ _) [(0,true),(1,true),(2,true),(3,true),(4,true),(5,true),(6,true),(7,false),(8,true),(9,true),(10,true),(11,true),(12,true),(13,true),(14,true),(15,true),(16,true),(17,true),(18,true),(19,true),(20,true),(21,true),(22,true),(23,true),(24,true),(25,true),(26,true),(27,true),(28,true),(29,true),(30,true),(31,true),(32,true)] (by kernel_rfl) (Dra.op' rfl rfl rfl .sure (Ope.mov rfl ?_))
               refine Dra.op' rfl rfl rfl .sure (Ope.ne rfl rfl ?_)
               refine Dra.op' rfl rfl rfl .sure (Ope.mov rfl ?_)
               refine Dra.splitX rfl rfl rfl rfl (fun hg=>?_) fun hg=>?_
               ·(first | (exfalso;omega) | (exfalso;simp only [Bool.not_eq_true',Bool.not_eq_false',decide_eq_false_iff_not,decide_eq_true_eq] at *;omega))
               ·refine Dra.on' rfl rfl rfl rfl rfl .sure (Ope.mov rfl ?_)
                refine Dra.on' rfl rfl rfl rfl rfl .sure (Ope.ne rfl rfl ?_)
                refine Dra.op' rfl rfl rfl .sure (Ope.pickF rfl rfl ?_)
                refine Dra.op' rfl rfl rfl .sure (Ope.mov rfl ?_)
                refine Dra.splitX rfl rfl rfl rfl (fun hg=>?_) fun hg=>?_
                ·(first | (exfalso;omega) | (exfalso;simp only [Bool.not_eq_true',Bool.not_eq_false',decide_eq_false_iff_not,decide_eq_true_eq] at *;omega))
                ·refine Dra.on' rfl rfl rfl rfl rfl (.load rfl) (Ope.load rfl rfl ?_)
                 refine Dra.on' rfl rfl rfl rfl rfl .sure (Ope.fld rfl rfl ?_)
                 refine Dra.on' rfl rfl rfl rfl rfl .sure (Ope.load rfl rfl ?_)
                 refine Dra.on' rfl rfl rfl rfl rfl .sure (Ope.mov rfl ?_)
                 refine Dra.on' rfl rfl rfl rfl rfl .sure (Ope.sub rfl rfl (by omega) ?_)
                 refine Dra.on' rfl rfl rfl rfl rfl .sure (Ope.fld rfl rfl ?_)
                 refine Dra.on' rfl rfl rfl rfl rfl .sure (Ope.load rfl rfl ?_)
                 refine Dra.on' rfl rfl rfl rfl rfl .sure (Ope.mov rfl ?_)
                 refine Dra.on' rfl rfl rfl rfl rfl .sure (Ope.sub rfl rfl (by omega) ?_)
                 refine Dra.on' rfl rfl rfl rfl rfl .sure (Ope.cf rfl rfl (f34 (ul - nn) (uh - nn)) rfl ?_)
                 refine Dra.on' rfl rfl rfl rfl rfl .sure (Ope.neV rfl rfl (neSp _ _ (ul - nn) (uh - nn) (ul - nn) (uh - nn)) ?_)
                 refine Dra.op' rfl rfl rfl .sure (Ope.pickF rfl rfl ?_)
                 refine Dra.op' rfl rfl rfl .sure (Ope.mov rfl ?_)
                 refine Dra.splitX rfl rfl rfl rfl (fun hg=>?_) fun hg=>?_
                 ·(first | (exfalso;omega) | (exfalso;simp only [Bool.not_eq_true',Bool.not_eq_false',decide_eq_false_iff_not,decide_eq_true_eq] at *;omega))
                 ·refine Dra.on' rfl rfl rfl rfl rfl .sure (Ope.fld rfl rfl ?_)
                  refine Dra.on' rfl rfl rfl rfl rfl .sure (Ope.load rfl rfl ?_)
                  refine Dra.on' rfl rfl rfl rfl rfl .sure (Ope.fld rfl rfl ?_)
                  refine Dra.on' rfl rfl rfl rfl rfl .sure (Ope.load rfl rfl ?_)
                  refine Dra.on' rfl rfl rfl rfl rfl .sure (Ope.lt rfl rfl ?_)
                  refine Dra.op' rfl rfl rfl .sure (Ope.pickF rfl rfl ?_)
                  refine Dra.op' rfl rfl rfl .sure (Ope.mov rfl ?_)
                  refine Dra.splitX rfl rfl rfl rfl (fun hg=>?_) fun hg=>?_
                  ·(first | (exfalso;omega) | (exfalso;simp only [Bool.not_eq_true',Bool.not_eq_false',decide_eq_false_iff_not,decide_eq_true_eq] at *;omega))
                  ·refine Dra.on' rfl rfl rfl rfl rfl .sure (Ope.fld rfl rfl ?_)
                   refine Dra.on' rfl rfl rfl rfl rfl .sure (Ope.load rfl rfl ?_)
                   refine Dra.on' rfl rfl rfl rfl rfl .sure (Ope.fld rfl rfl ?_)
                   refine Dra.on' rfl rfl rfl rfl rfl .sure (Ope.load rfl rfl ?_)
                   refine Dra.on' rfl rfl rfl rfl rfl .sure (Ope.gt rfl rfl ?_)
                   refine Dra.op' rfl rfl rfl .sure (Ope.pickF rfl rfl ?_)
                   refine Dra.nil ?_
                   first
                   | exact Run.lend ⟨⟨rfl,rfl,rfl,rfl,rfl,rfl,rfl,trivial⟩,rfl,rfl⟩
                   | exact Run.lend ⟨⟨rfl,rfl,rfl,rfl,rfl,rfl,congrArg (fun b=>some (B b)) (decide_eq_false (by omega)),trivial⟩,rfl,rfl⟩
              ·rintro e' d' h' ⟨hs,rfl,rfl⟩;refine Run.less hs ?_
               refine Run.condX rfl (fun hc=>?_) fun hc=>?_
               ·(exfalso;exact absurd hc (by decide))
               ·refine Run.skip (Run.bend (Run.region (cx_ok _ _ _) (Reg.op rfl (Ope.add rfl rfl (by omega) ?_))))
                refine Reg.op rfl (Ope.mov rfl ?_)
                exact Reg.nil (Run.lend ⟨(j+1,r+3),by show 2 - (j+1) < 2 - j;omega,by show j+1≤2;omega,⟨rfl,rfl,rfl,rfl,rfl,rfl,trivial⟩,rfl,rfl⟩)
             ·refine Run.exit (Jmp.code (Jmp.round (Jmp.here (Run.seq (Run.region (cx_ok _ _ _) (Reg.op rfl (Ope.cf rfl rfl awakeF rfl ?_)))))))
              refine Reg.op rfl (Ope.asg rfl ?_)
              exact Reg.nil (Run.ret (fin_ret (.tmp rfl .nil) rfl rfl))
theorem f7l (rest:Int) (tl:Tail) (htl:tl.isOwn=false) (S:List Sti) (hl:40 < S.length) (a b:Nat):Fn P0 7 [relV rest tl S,U8 a,U8 b] (B true):=by
  have hbd:=fun k=>bd_is rest tl htl S k
  refine PFun.of (C:=c7) (cx_ok _ _ _) rfl (fn:=Try.f7) (by kernel_rfl) (c:=_) rfl rfl rfl ?_
  refine Run.seq (Run.region (cx_ok _ _ _) (Reg.op rfl (Ope.boxF rfl rfl ?_)))
  refine Reg.op rfl (Ope.asg rfl ?_)
  refine Reg.nil (Run.seq (Run.seq (Run.region (cx_ok _ _ _) (Reg.op rfl (Ope.load rfl rfl ?_)))))
  refine Reg.op rfl (Ope.cf rfl rfl (f12l rest tl S hl 5) (hbd 5) ?_)
  refine Reg.op rfl (Ope.mov rfl ?_)
  refine Reg.off rfl rfl rfl (Reg.off rfl rfl rfl (Reg.off rfl rfl rfl (Reg.op rfl (Ope.pickT rfl rfl ?_))))
  refine Reg.op rfl (Ope.mov rfl ?_)
  refine Reg.off rfl rfl rfl (Reg.off rfl rfl rfl (Reg.off rfl rfl rfl (Reg.off rfl rfl rfl (Reg.op rfl (Ope.pickT rfl rfl ?_)))))
  refine Reg.nil (Run.condT rfl (Run.seq (Run.region (cx_ok _ _ _) (Reg.op rfl (Ope.cf rfl rfl awakeF rfl ?_)))))
  refine Reg.op rfl (Ope.asg rfl ?_)
  exact Reg.nil (Run.ret (Jmp.code (fin_ret (.tmp rfl .nil) rfl rfl)))
theorem f7a (rest:Int) (tl:Tail) (htl:tl.isOwn=false) (S:List Sti) (a b:Nat) (ha:a < 256) (hb:b < 256):Fn P0 7 [relV rest tl S,U8 a,U8 b] (B true):=by
  rcases Nat.lt_or_ge 40 S.length with h | h
  · exact f7l rest tl htl S h a b
  · exact f7 rest tl htl S (by omega) a b ha hb
end Go.Pv
namespace Go.Pv
open Go.Am Go.RowKit
section
variable {H:Type} {enc:TypeId×Value→H} {P:Program} {w:World} {base:Nat} {spare:Nat→Bool} {held:Bool}
theorem Reads.array2 {t e:TypeId} {Q:List PV→Prop} (ht:P.underlying t=some (.array 2 e)) (hc:P.cellsOf t=P.cellsOf e+P.cellsOf e) (hr:Reads enc P w base spare held e Q):Reads enc P w base spare held t (Alls [Q,Q]):=by
 intro fuel cs x h
 obtain ⟨xs,m,rfl,rfl,h1,h2,h3⟩:=DataW.trod_array ht h
 obtain ⟨p0,q0,r0⟩:=hr _ _ _ ((h3 0 (by decide)).trans (List.getElem?_eq_getElem (by omega)))
 obtain ⟨p1,q1,r1⟩:=hr _ _ _ ((h3 1 (by decide)).trans (List.getElem?_eq_getElem (by omega)))
 rw [Nat.zero_mul,List.drop_zero] at q0
 rw [Nat.one_mul] at q1
 refine ⟨p0++(p1++[]),?_,p0,p1++[],rfl,r0,p1,[],rfl,r1,rfl⟩
 rw [List.append_nil]
 have e1:(cs.drop (P.cellsOf e)).take (P.cellsOf e)=cs.drop (P.cellsOf e):=List.take_of_length_le (by rw [List.length_drop];omega)
 rw [e1] at q1
 have:=RVs.append q0 q1
 rwa [List.take_append_drop] at this
theorem okWide_agg {P:Program} {w:World} {r:Reach} {base:Nat} {t:TypeId} {fs:Array Field} {v:Value} (ht:P.underlying t=some (.struct fs)) (h:Value.okWide P w r base t v):∃ cs,v=.agg cs:=by
 unfold Value.okWide at h
 rw [ht] at h
 obtain ⟨cs,rfl,_⟩:=h
 exact ⟨cs,rfl⟩
theorem trod_agg {t:TypeId} {fs:Array Field} {Q:List PV→Prop} {v:Value} {d:DataW H} {ps:List MemPlace} {r:Reach} {b:Nat} (ht:P.underlying t=some (.struct fs)) (hv:Value.okWide P w r b t v) (h:DataW.Trod enc P w base spare held t v d ps) (hr:Reads enc P w base spare held t Q) :
  ∃ l,RV (St.froz w) (.agg l) v∧Q l:=by
 obtain ⟨fuel,h⟩:=h
 obtain ⟨cs,rfl⟩:=okWide_agg ht hv
 obtain ⟨l,h1,h2⟩:=hr _ _ _ h
 exact ⟨l,RV_agg.2 ⟨cs,rfl,h1⟩,h2⟩
end
end Go.Pv
namespace Go.Pv
open Go.Proofs Go.Am
set_option maxRecDepth 10000
section
variable {H:Type} {enc:TypeId×Value→H} {w:World} {base:Nat} {held:Bool}
theorem reads_int:Reads enc Try.prog w base (fun _=>true) held 3 fun ps=>∃ n:Int,ps=[I n] :=
  (Reads.int Try.underlying3).mono fun ps ⟨n,h,_⟩=>⟨n,h⟩
theorem reads_span:Reads enc Try.prog w base (fun _=>true) held 28 fun ps=>∃ a b:Int,ps=[I a,I b] :=
  (Reads.struct (Qs:=[fun ps=>∃ n:Int,ps=[I n],fun ps=>∃ n:Int,ps=[I n]]) Try.underlying28 (by kernel_rfl) ⟨reads_int,reads_int,trivial⟩).mono fun ps h=>by
    obtain ⟨_,_,rfl,⟨a,rfl⟩,_,_,rfl,⟨b,rfl⟩,rfl⟩:=h
    exact ⟨a,b,rfl⟩
theorem reads_spans:Reads enc Try.prog w base (fun _=>true) held 44 fun ps=>∃ a b c d:Int,ps=[I a,I b,I c,I d] :=
  (Reads.array2 Try.underlying44 (by kernel_rfl) reads_span).mono fun ps h=>by
    obtain ⟨_,_,rfl,⟨a,b,rfl⟩,_,_,rfl,⟨c,d,rfl⟩,rfl⟩:=h
    exact ⟨a,b,c,d,rfl⟩
theorem reads_stint:Reads enc Try.prog w base (fun _=>true) held 46 fun ps=>∃ s:Sti,ps=s.v.cells :=
  (Reads.struct (Qs:=[fun ps=>∃ n:Int,ps=[I n],fun ps=>∃ a b c d:Int,ps=[I a,I b,I c,I d],fun ps=>∃ a b c d:Int,ps=[I a,I b,I c,I d]]) Try.underlying46 (by kernel_rfl) ⟨reads_int,reads_spans,reads_spans,trivial⟩).mono fun ps h=>by
    obtain ⟨_,_,rfl,⟨r,rfl⟩,_,_,rfl,⟨a,b,c,d,rfl⟩,_,_,rfl,⟨e,f,g,h,rfl⟩,rfl⟩:=h
    exact ⟨⟨r,a,b,c,d,e,f,g,h⟩,rfl⟩
theorem cells_stint:Try.prog.cellsOf 46=9:=by kernel_rfl
theorem reads_stints:Reads enc Try.prog w base (fun _=>true) held 22 fun ps=>∃ S:List Sti,ps=[.sl .no (S.map Sti.v)] :=
  (Reads.slice (Q:=fun _=>True) (f:=Sti.v) (fun _=>rfl) Try.underlying22 (by rw [cells_stint];decide) (reads_stint.mono fun ps ⟨s,h⟩=>⟨s,h,by rw [cells_stint];rfl,trivial⟩)).mono fun ps ⟨S,h,_⟩=>⟨S,h⟩
theorem reads_relays:Reads enc Try.prog w base (fun _=>true) held 24 fun ps=>∃ (rest:Int) (S:List Sti),ps=[I rest,.sl .no (S.map Sti.v)] :=
  (Reads.struct (Qs:=[fun ps=>∃ n:Int,ps=[I n],fun ps=>∃ S:List Sti,ps=[.sl .no (S.map Sti.v)]]) Try.underlying24 (by kernel_rfl) ⟨reads_int,reads_stints,trivial⟩).mono fun ps h=>by
    obtain ⟨_,_,rfl,⟨r,rfl⟩,_,_,rfl,⟨S,rfl⟩,rfl⟩:=h
    exact ⟨r,S,rfl⟩
theorem trod_relays {v:Value} {d:DataW H} {ps:List MemPlace} {r:Reach} {b:Nat} (hv:Value.okWide Try.prog w r b 24 v) (h:DataW.Trod enc Try.prog w base (fun _=>true) held 24 v d ps):∃ rest S,RV (St.froz w) (relV rest .no S) v:=by
  obtain ⟨l,h1,rest,S,rfl⟩:=trod_agg Try.underlying24 hv h reads_relays
  exact ⟨rest,S,h1⟩
end
end Go.Pv
