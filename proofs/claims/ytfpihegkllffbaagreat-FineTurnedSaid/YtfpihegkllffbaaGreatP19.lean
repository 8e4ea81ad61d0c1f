/- Parts of the proof: E17, Pv59, Pv60, Pv61, Pv72, E18 -/
import Derived.Test.YtfpihegkllffbaaGreatP18
import Derived.Test.YtfpihegkllffbaaGreatP17
import Derived.Test.YtfpihegkllffbaaGreatP13
set_option linter.unusedVariables false
set_option linter.unusedSimpArgs false
set_option linter.unusedSectionVars false
namespace Go.Pv
open Go.Proofs Go.Am
set_option maxRecDepth 10000
theorem exists_hul {A : Int → Prop} {m : Int} (hb : ∀ x, A x → 0 ≤ x ∧ x ≤ m) (he : ∃ x, A x) : ∃ e, Hul A e := by
  have lo : ∀ n : Nat, ∀ x, A x → x.toNat ≤ n → ∃ y, A y ∧ ∀ z, A z → y ≤ z := by
    intro n
    induction n with
    | zero=>intro x hx h;exact ⟨x,hx,fun z hz=>by have:=hb x hx;have:=hb z hz;omega⟩
    | succ n ih =>
      intro x hx h
      by_cases hc:∃ z,A z∧z < x
      · obtain ⟨z, hz, hzx⟩ := hc
        exact ih z hz (by have:=hb z hz;omega)
      · exact ⟨x,hx,fun z hz=>by
          rcases (by omega:z < x∨x≤z) with h | h
          · exact absurd ⟨z,hz,h⟩ hc
          · exact h⟩
  have hi : ∀ n : Nat, ∀ x, A x → (m - x).toNat ≤ n → ∃ y, A y ∧ ∀ z, A z → z ≤ y := by
    intro n
    induction n with
    | zero=>intro x hx h;exact ⟨x,hx,fun z hz=>by have:=hb x hx;have:=hb z hz;omega⟩
    | succ n ih =>
      intro x hx h
      by_cases hc:∃ z,A z∧x < z
      · obtain ⟨z, hz, hzx⟩ := hc
        exact ih z hz (by have:=hb z hz;omega)
      · exact ⟨x,hx,fun z hz=>by
          rcases (by omega:x < z∨z≤x) with h | h
          · exact absurd ⟨z,hz,h⟩ hc
          · exact h⟩
  obtain ⟨x,hx⟩:=he
  obtain ⟨a,a1,a2⟩:=lo _ x hx (Nat.le_refl _)
  obtain ⟨b,b1,b2⟩:=hi _ x hx (Nat.le_refl _)
  exact ⟨⟨a,b⟩,a1,b1,fun z hz=>⟨a2 z hz,b2 z hz⟩⟩
open Classical in
noncomputable def Fns.spn (f:Fns) (g:Deed→Int→Int):Spn:=if h:∃ e,f.THul g e then h.choose else ⟨0,0⟩
theorem tru_some {f:Fns} (hf:f.ok):∃ T,f.Tru T:=by
  obtain ⟨D,hD⟩:=sel_some hf (fun _=>true) f.li.length (Nat.le_refl _)
  obtain ⟨T,hT,_⟩:=sel_tru hD
  exact ⟨T,hT⟩
theorem spn_hul {f:Fns} (hf:f.ok) {g:Deed→Int→Int} (hg:Gok g):f.THul g (f.spn g):=by
  have h:∃ e,f.THul g e:=exists_hul (m:=5005) (fun x ⟨T,hT,e⟩=>by rw [← e];exact val_bd hf hg (tru_sel hT)) (by obtain ⟨T,hT⟩:=tru_some hf;exact ⟨_,T,hT,rfl⟩)
  unfold Fns.spn
  rw [dif_pos h]
  exact h.choose_spec
def gC (S:Nat) (d:Deed) (c:Int):Int:=if S.testBit d.nu=true then c else 0
def gF (r:Int) (d:Deed) (c:Int):Int:=if d.ri=r then c else 0
def gP (r:Int) (d:Deed) (c:Int):Int:=((if d.ri=r then c else 0)+1) / 2+(if d.ri=part r then c else 0) / 2
theorem gC_ok (S:Nat):Gok (gC S):=fun d c h1 h2=>by unfold gC;split<;>omega
theorem gF_ok (r:Int):Gok (gF r):=fun d c h1 h2=>by unfold gF;split<;>omega
theorem gP_ok (r:Int):Gok (gP r):=fun d c h1 h2=>by
  unfold gP
  have:part r≠r:=by unfold part;split<;>omega
  split<;>split<;>omega
def ctC (S:Nat):Ctr:=⟨79,.agg [N S],151,gC S⟩
def ctF (r:Int):Ctr:=⟨87,.agg [I r],152,gF r⟩
def ctP (r:Int):Ctr:=⟨89,.agg [I r],154,gP r⟩
theorem ctC_ok (S:Nat) (hS:S < 64):(ctC S).ok:=⟨⟨fun _=>by kernel_rfl⟩,rfl,fun d x h1 h2 h3=>f151 S hS d h1 x ⟨h2,h3⟩,gC_ok S⟩
theorem ctF_ok (r:Int):(ctF r).ok:=⟨⟨fun _=>by kernel_rfl⟩,rfl,fun d x h1 h2 h3=>f152 r d x,gF_ok r⟩
theorem ctP_ok (r:Int) (h:0≤r∧r < 6):(ctP r).ok:=⟨⟨fun _=>by kernel_rfl⟩,rfl,fun d x h1 h2 h3=>f154 r h d x ⟨h2,h3⟩,gP_ok r⟩
section
variable (f:Fns) {t1 t2:Tail} (h1:t1.isOwn=false) (h2:t2.isOwn=false)
include h1 h2
theorem f42f (hf:f.ok) (c:Ctr) (hc:c.ok):Fn P0 42 [f.v t1 t2,c.v] (f.spn c.g).v :=
  PCall.mono (f42 f h1 h2 hf c hc) (fun v h q=>⟨q.1,by obtain ⟨e,rfl,he⟩:=q.2;rw [he.uniq (spn_hul hf hc.g)]⟩) fun v h q=>⟨q.1,q.2⟩
theorem f41 (hf:f.ok) (n:Nat) (hn:n < 5):Fn P0 41 [f.v t1 t2,.fp (N n)] (f.spn (gC (1 * 2 ^ n))).v:=by
  have hp:2 ^ n≤2 ^ 4:=Nat.pow_le_pow_right (by decide) (by omega)
  have hs:=f42f f h1 h2 hf (ctC (1 * 2 ^ n)) (ctC_ok _ (by omega))
  have hb:PV.bds 0 [f.v t1 t2,(ctC (1 * 2 ^ n)).v]=true:=bd_fnsV f h1 h2 rfl
  have hg:(ctC (1 * 2 ^ n)).g=gC (1 * 2 ^ n):=rfl
  rw [hg] at hs
  generalize f.spn (gC (1 * 2 ^ n))=e at *
  refine PFun.of (C:=c41) (cx_ok _ _ _) rfl (fn:=Tryz.f41) (by kernel_rfl) (c:=_) rfl rfl rfl ?_
  refine rS (rN (cx_ok _ _ _) (rO rfl (Ope.boxF rfl rfl ?_)))
  refine rO rfl (Ope.newL rfl ?_)
  refine rI (rS (Run.draw (cx_ok _ _ _) [(0,true),(1,true),(2,true),(3,true),(4,true),(5,true),(6,true)] (by kernel_rfl) (dO rfl rfl rfl .sure (oL rfl rfl ?_))))
  refine dO rfl rfl rfl .sure (oL rfl rfl ?_)
  refine dO rfl rfl rfl .sure (Ope.shlN (p:=1) (m:=n) rfl rfl rfl rfl (by omega) (by omega) ?_)
  refine dO rfl rfl rfl .sure (Ope.bld rfl rfl ?_)
  refine dO rfl rfl rfl .sure (Ope.ifc rfl ?_)
  refine dO rfl rfl rfl .sure (Ope.cf rfl rfl hs hb ?_)
  refine dO rfl rfl rfl .sure (Ope.store rfl rfl rfl rfl rfl rfl ?_)
  exact Dra.nil (Run.ret (fin_ret (.cell rfl rfl .nil) rfl rfl))
theorem f48 (hf:f.ok) (r:Int):Fn P0 48 [f.v t1 t2,.fp (I r)] (f.spn (gF r)).v:=by
  have hs:=f42f f h1 h2 hf (ctF r) (ctF_ok r)
  have hb:PV.bds 0 [f.v t1 t2,(ctF r).v]=true:=bd_fnsV f h1 h2 rfl
  have hg:(ctF r).g=gF r:=rfl
  rw [hg] at hs
  generalize f.spn (gF r)=e at *
  refine PFun.of (C:=c48) (cx_ok _ _ _) rfl (fn:=Tryz.f48) (by kernel_rfl) (c:=_) rfl rfl rfl ?_
  refine rS (rN (cx_ok _ _ _) (rO rfl (Ope.boxF rfl rfl ?_)))
  refine rO rfl (Ope.newL rfl ?_)
  refine rI (rS (rN (cx_ok _ _ _) (rO rfl (oL rfl rfl ?_))))
  refine rO rfl (oL rfl rfl ?_)
  refine rO rfl (Ope.bld rfl rfl ?_)
  refine rO rfl (Ope.ifc rfl ?_)
  refine rO rfl (Ope.cf rfl rfl hs hb ?_)
  refine Reg.op0 (Ope.store rfl rfl rfl rfl rfl rfl ?_)
  exact rI (Run.ret (fin_ret (.cell rfl rfl .nil) rfl rfl))
theorem f51 (hf:f.ok) (r:Int) (hr:0≤r∧r < 6):Fn P0 51 [f.v t1 t2,.fp (I r)] (f.spn (gP r)).v:=by
  have hs:=f42f f h1 h2 hf (ctP r) (ctP_ok r hr)
  have hb:PV.bds 0 [f.v t1 t2,(ctP r).v]=true:=bd_fnsV f h1 h2 rfl
  have hg:(ctP r).g=gP r:=rfl
  rw [hg] at hs
  generalize f.spn (gP r)=e at *
  refine PFun.of (C:=c51) (cx_ok _ _ _) rfl (fn:=Tryz.f51) (by kernel_rfl) (c:=_) rfl rfl rfl ?_
  refine rS (rN (cx_ok _ _ _) (rO rfl (Ope.boxF rfl rfl ?_)))
  refine rO rfl (Ope.newL rfl ?_)
  refine rI (rS (rN (cx_ok _ _ _) (rO rfl (oL rfl rfl ?_))))
  refine rO rfl (oL rfl rfl ?_)
  refine rO rfl (Ope.bld rfl rfl ?_)
  refine rO rfl (Ope.bld rfl rfl ?_)
  refine rO rfl (Ope.ifc rfl ?_)
  refine rO rfl (Ope.cf rfl rfl hs hb ?_)
  refine Reg.op0 (Ope.store rfl rfl rfl rfl rfl rfl ?_)
  exact rI (Run.ret (fin_ret (.cell rfl rfl .nil) rfl rfl))
theorem f53 (hf:f.ok):Fn P0 53 [f.v t1 t2] (f.spn (gC (2 ^ f.li.length - 1))).v:=by
  have hl:=hf.li
  have hp:2 ^ f.li.length≤2 ^ 5:=Nat.pow_le_pow_right (by decide) hl
  have hall:=f54 f h1 h2 hl
  have hs:=f42f f h1 h2 hf (ctC (2 ^ f.li.length - 1)) (ctC_ok _ (by omega))
  have hb:PV.bds 0 [f.v t1 t2,(ctC (2 ^ f.li.length - 1)).v]=true:=bd_fnsV f h1 h2 rfl
  have hb1:PV.bds 0 [f.v t1 t2]=true:=bd_fnsV f h1 h2 rfl
  have hg:(ctC (2 ^ f.li.length - 1)).g=gC (2 ^ f.li.length - 1):=rfl
  rw [hg] at hs
  generalize f.spn (gC (2 ^ f.li.length - 1))=e at *
  refine PFun.of (C:=c53) (cx_ok _ _ _) rfl (fn:=Tryz.f53) (by kernel_rfl) (c:=_) rfl rfl rfl ?_
  refine rS (rN (cx_ok _ _ _) (rO rfl (Ope.boxF rfl rfl ?_)))
  refine rO rfl (Ope.newL rfl ?_)
  refine rI (rS (Run.draw (cx_ok _ _ _) [(0,false),(1,true),(2,true),(3,true),(4,true),(5,true),(6,true)] (by kernel_rfl) (dO rfl rfl rfl (.load rfl) (oL rfl rfl ?_))))
  refine dO rfl rfl rfl .sure (oL rfl rfl ?_)
  refine dO rfl rfl rfl .sure (Ope.cf rfl rfl hall hb1 ?_)
  refine dO rfl rfl rfl .sure (Ope.bld rfl rfl ?_)
  refine dO rfl rfl rfl .sure (Ope.ifc rfl ?_)
  refine dO rfl rfl rfl .sure (Ope.cf rfl rfl hs hb ?_)
  refine dO rfl rfl rfl .sure (Ope.store rfl rfl rfl rfl rfl rfl ?_)
  exact Dra.nil (Run.ret (fin_ret (.cell rfl rfl .nil) rfl rfl))
omit h1 h2 in
noncomputable def tolS (f:Fns) (rg:Bool) (e:Spn):PV:=if f.B=true then (if rg=true then .tup [e.v,I 0] else .tup [.agg [I 0,I 0],I 2]) else .tup [.agg [I 0,I 0],I 1]
variable (hS:f.ru.length≤9223372036854775807) (hJ:f.li.length≤9223372036854775807)
include hS hJ
theorem f13 (n : Int) : Fn P0 13 [f.v t1 t2, I n] (tolS f (numB f.li.length n) (f.spn (gC (1 * 2 ^ n.toNat)))) := by
  have hnu:=f40 f.li.length n
  have hbt:∀ b:Bool,PV.bds 0 [f.v t1 t2,B b,.fn (.func 41) [] [.fp (I n)]]=true:=fun b=>bd_fnsV f h1 h2 rfl
  have hto:Fn P0 39 [f.v t1 t2,B (numB f.li.length n),.fn (.func 41) [] [.fp (I n)]] (tolS f (numB f.li.length n) (f.spn (gC (1 * 2 ^ n.toNat)))):=by
    unfold tolS
    by_cases hv:f.B=true
    · rw [if_pos hv]
      cases hr:numB f.li.length n with
      | true =>
        have hf:=fns_ok f hv
        have hl:=hf.li
        have hr':=hr
        simp only [numB,Bool.and_eq_true,decide_eq_true_eq] at hr'
        obtain ⟨m,rfl⟩:∃ m:Nat,n=(m:Int):=⟨n.toNat,by omega⟩
        exact f39ok f h1 h2 hS hJ 41 [.fp (I m)] _ hv (bd_fnsV f h1 h2 rfl) rfl (f41 f h1 h2 hf m (by omega))
      | false=>exact f39rg f h1 h2 hS hJ 41 [.fp (I n)] hv
    · rw [if_neg hv]
      exact f39ba f h1 h2 hS hJ 41 [.fp (I n)] _ (by simpa using hv)
  obtain ⟨u,z,hu⟩:∃ (u:Spn) (z:Int),tolS f (numB f.li.length n) (f.spn (gC (1 * 2 ^ n.toNat)))=.tup [u.v,I z]:=by
    unfold tolS
    split
    · split
      · exact ⟨_,_,rfl⟩
      · exact ⟨⟨0,0⟩,2,rfl⟩
    · exact ⟨⟨0,0⟩,1,rfl⟩
  rw [hu] at hto ⊢
  refine PFun.of (C:=c13) (cx_ok _ _ _) rfl (fn:=Tryz.f13) (by kernel_rfl) (c:=_) rfl rfl rfl ?_
  refine rS (rN (cx_ok _ _ _) (rO rfl (Ope.boxF rfl rfl ?_)))
  refine rO rfl (Ope.boxF rfl rfl ?_)
  refine rO rfl (Ope.newL rfl ?_)
  refine rO rfl (oA rfl ?_)
  refine rI (rS (Run.draw (cx_ok _ _ _) [(0,false),(1,true),(2,true),(3,true),(4,true),(6,true),(5,true),(7,true),(8,true),(9,true),(10,true),(11,true)] (by kernel_rfl) (dO rfl rfl rfl (.load rfl) (oL rfl rfl ?_))))
  refine dO rfl rfl rfl .sure (Ope.fld rfl rfl ?_)
  refine dO rfl rfl rfl .sure (oL rfl rfl ?_)
  refine dO rfl rfl rfl .sure (Ope.len (m:=f.li.length) rfl (by simp) ?_)
  refine dO rfl rfl rfl .sure (oL rfl rfl ?_)
  refine dO rfl rfl rfl .sure (Ope.mkf rfl rfl ?_)
  refine dO rfl rfl rfl .sure (Ope.cf rfl rfl (hnu) rfl ?_)
  refine dO rfl rfl rfl .sure (Ope.cf rfl rfl hto (hbt _) ?_)
  refine dO rfl rfl rfl .sure (Ope.ext rfl rfl ?_)
  refine dO rfl rfl rfl .sure (Ope.ext rfl rfl ?_)
  refine dO rfl rfl rfl .sure (Ope.store rfl rfl rfl rfl rfl rfl ?_)
  refine dO rfl rfl rfl .sure (oA rfl ?_)
  exact Dra.nil (Run.ret (fin_ret (.cell rfl rfl (.tmp rfl .nil)) rfl rfl))
theorem f15 (r : Int) : Fn P0 15 [f.v t1 t2, I r] (tolS f (numB f.n r) (f.spn (gF r))) := by
  have hnu:=f47 f h1 h2 r
  have hb2:PV.bds 0 [f.v t1 t2,I r]=true:=bd_fnsV f h1 h2 rfl
  have hbt:∀ b:Bool,PV.bds 0 [f.v t1 t2,B b,.fn (.func 48) [] [.fp (I r)]]=true:=fun b=>bd_fnsV f h1 h2 rfl
  have hto:Fn P0 39 [f.v t1 t2,B (numB f.n r),.fn (.func 48) [] [.fp (I r)]] (tolS f (numB f.n r) (f.spn (gF r))):=by
    unfold tolS
    by_cases hv:f.B=true
    · rw [if_pos hv]
      cases hr:numB f.n r with
      | true =>
        have hf:=fns_ok f hv
        have hn:=hf.n
        have hr':=hr
        simp only [numB,Bool.and_eq_true,decide_eq_true_eq] at hr'
        exact f39ok f h1 h2 hS hJ 48 [.fp (I r)] _ hv (bd_fnsV f h1 h2 rfl) rfl (f48 f h1 h2 hf r)
      | false=>exact f39rg f h1 h2 hS hJ 48 [.fp (I r)] hv
    · rw [if_neg hv]
      exact f39ba f h1 h2 hS hJ 48 [.fp (I r)] _ (by simpa using hv)
  obtain ⟨u,z,hu⟩:∃ (u:Spn) (z:Int),tolS f (numB f.n r) (f.spn (gF r))=.tup [u.v,I z]:=by
    unfold tolS
    split
    · split
      · exact ⟨_,_,rfl⟩
      · exact ⟨⟨0,0⟩,2,rfl⟩
    · exact ⟨⟨0,0⟩,1,rfl⟩
  rw [hu] at hto ⊢
  refine PFun.of (C:=c15) (cx_ok _ _ _) rfl (fn:=Tryz.f15) (by kernel_rfl) (c:=_) rfl rfl rfl ?_
  refine rS (rN (cx_ok _ _ _) (rO rfl (Ope.boxF rfl rfl ?_)))
  refine rO rfl (Ope.boxF rfl rfl ?_)
  refine rO rfl (Ope.newL rfl ?_)
  refine rO rfl (oA rfl ?_)
  refine rI (rS (Run.draw (cx_ok _ _ _) [(0,false),(1,true),(2,true),(4,true),(3,true),(5,true),(6,true),(7,true),(8,true),(9,true)] (by kernel_rfl) (dO rfl rfl rfl (.load rfl) (oL rfl rfl ?_))))
  refine dO rfl rfl rfl .sure (oL rfl rfl ?_)
  refine dO rfl rfl rfl .sure (oL rfl rfl ?_)
  refine dO rfl rfl rfl .sure (Ope.mkf rfl rfl ?_)
  refine dO rfl rfl rfl .sure (Ope.cf rfl rfl hnu hb2 ?_)
  refine dO rfl rfl rfl .sure (Ope.cf rfl rfl hto (hbt _) ?_)
  refine dO rfl rfl rfl .sure (Ope.ext rfl rfl ?_)
  refine dO rfl rfl rfl .sure (Ope.ext rfl rfl ?_)
  refine dO rfl rfl rfl .sure (Ope.store rfl rfl rfl rfl rfl rfl ?_)
  refine dO rfl rfl rfl .sure (oA rfl ?_)
  exact Dra.nil (Run.ret (fin_ret (.cell rfl rfl (.tmp rfl .nil)) rfl rfl))
theorem f17 (r : Int) : Fn P0 17 [f.v t1 t2, I r] (tolS f (numB f.n r) (f.spn (gP r))) := by
  have hnu:=f47 f h1 h2 r
  have hb2:PV.bds 0 [f.v t1 t2,I r]=true:=bd_fnsV f h1 h2 rfl
  have hbt:∀ b:Bool,PV.bds 0 [f.v t1 t2,B b,.fn (.func 51) [] [.fp (I r)]]=true:=fun b=>bd_fnsV f h1 h2 rfl
  have hto:Fn P0 39 [f.v t1 t2,B (numB f.n r),.fn (.func 51) [] [.fp (I r)]] (tolS f (numB f.n r) (f.spn (gP r))):=by
    unfold tolS
    by_cases hv:f.B=true
    · rw [if_pos hv]
      cases hr:numB f.n r with
      | true =>
        have hf:=fns_ok f hv
        have hn:=hf.n
        have hr':=hr
        simp only [numB,Bool.and_eq_true,decide_eq_true_eq] at hr'
        exact f39ok f h1 h2 hS hJ 51 [.fp (I r)] _ hv (bd_fnsV f h1 h2 rfl) rfl (f51 f h1 h2 hf r (by omega))
      | false=>exact f39rg f h1 h2 hS hJ 51 [.fp (I r)] hv
    · rw [if_neg hv]
      exact f39ba f h1 h2 hS hJ 51 [.fp (I r)] _ (by simpa using hv)
  obtain ⟨u,z,hu⟩:∃ (u:Spn) (z:Int),tolS f (numB f.n r) (f.spn (gP r))=.tup [u.v,I z]:=by
    unfold tolS
    split
    · split
      · exact ⟨_,_,rfl⟩
      · exact ⟨⟨0,0⟩,2,rfl⟩
    · exact ⟨⟨0,0⟩,1,rfl⟩
  rw [hu] at hto ⊢
  refine PFun.of (C:=c17) (cx_ok _ _ _) rfl (fn:=Tryz.f17) (by kernel_rfl) (c:=_) rfl rfl rfl ?_
  refine rS (rN (cx_ok _ _ _) (rO rfl (Ope.boxF rfl rfl ?_)))
  refine rO rfl (Ope.boxF rfl rfl ?_)
  refine rO rfl (Ope.newL rfl ?_)
  refine rO rfl (oA rfl ?_)
  refine rI (rS (Run.draw (cx_ok _ _ _) [(0,false),(1,true),(2,true),(4,true),(3,true),(5,true),(6,true),(7,true),(8,true),(9,true)] (by kernel_rfl) (dO rfl rfl rfl (.load rfl) (oL rfl rfl ?_))))
  refine dO rfl rfl rfl .sure (oL rfl rfl ?_)
  refine dO rfl rfl rfl .sure (oL rfl rfl ?_)
  refine dO rfl rfl rfl .sure (Ope.mkf rfl rfl ?_)
  refine dO rfl rfl rfl .sure (Ope.cf rfl rfl hnu hb2 ?_)
  refine dO rfl rfl rfl .sure (Ope.cf rfl rfl hto (hbt _) ?_)
  refine dO rfl rfl rfl .sure (Ope.ext rfl rfl ?_)
  refine dO rfl rfl rfl .sure (Ope.ext rfl rfl ?_)
  refine dO rfl rfl rfl .sure (Ope.store rfl rfl rfl rfl rfl rfl ?_)
  refine dO rfl rfl rfl .sure (oA rfl ?_)
  exact Dra.nil (Run.ret (fin_ret (.cell rfl rfl (.tmp rfl .nil)) rfl rfl))
theorem f19:Fn P0 19 [f.v t1 t2] (tolS f true (f.spn (gC (2 ^ f.li.length - 1)))):=by
  have hbt:PV.bds 0 [f.v t1 t2,B true,.fn (.func 53) [] []]=true:=bd_fnsV f h1 h2 rfl
  have hto:Fn P0 39 [f.v t1 t2,B true,.fn (.func 53) [] []] (tolS f true (f.spn (gC (2 ^ f.li.length - 1)))):=by
    unfold tolS
    by_cases hv:f.B=true
    · rw [if_pos hv]
      have hf:=fns_ok f hv
      exact f39ok f h1 h2 hS hJ 53 [] _ hv (bd_fnsV f h1 h2 rfl) rfl (f53 f h1 h2 hf)
    · rw [if_neg hv]
      exact f39ba f h1 h2 hS hJ 53 [] _ (by simpa using hv)
  obtain ⟨u,z,hu⟩:∃ (u:Spn) (z:Int),tolS f true (f.spn (gC (2 ^ f.li.length - 1)))=.tup [u.v,I z]:=by
    unfold tolS
    split
    · split
      · exact ⟨_,_,rfl⟩
      · exact ⟨⟨0,0⟩,2,rfl⟩
    · exact ⟨⟨0,0⟩,1,rfl⟩
  rw [hu] at hto ⊢
  refine PFun.of (C:=c19) (cx_ok _ _ _) rfl (fn:=Tryz.f19) (by kernel_rfl) (c:=_) rfl rfl rfl ?_
  refine rS (rN (cx_ok _ _ _) (rO rfl (Ope.boxF rfl rfl ?_)))
  refine rO rfl (Ope.newL rfl ?_)
  refine rO rfl (oA rfl ?_)
  refine rI (rS (rN (cx_ok _ _ _) (rO rfl (oL rfl rfl ?_))))
  refine rO rfl (Ope.cf rfl rfl hto hbt ?_)
  refine rO rfl (Ope.ext rfl rfl ?_)
  refine rO rfl (Ope.ext rfl rfl ?_)
  refine Reg.op0 (Ope.store rfl rfl rfl rfl rfl rfl ?_)
  refine rO rfl (oA rfl ?_)
  exact rI (Run.ret (fin_ret (.cell rfl rfl (.tmp rfl .nil)) rfl rfl))
end
end Go.Pv
namespace Go.Pv
open Go.Am Go.RowKit
def KX (P:Program) (g:Nat) (args:List PV) (j:Nat) (M:PBlk) (R X:PV→Prop):Prop:=PCall P g args (HE (j+1) [(j,some M)]) (fun v h'=>h'=HE (j+1) [(j,some M)]∧R v) fun v h'=>h'=HE (j+1) [(j,some M)]∧X v
section
variable {n m j:Nat} {l:HL} {M:PBlk} {P:Program} {g:Nat} {args:List PV} {R X:PV→Prop}
theorem KX.mono {R' X':PV→Prop} (hc:KX P g args j M R X) (hR:∀ v,R v→R' v) (hX:∀ v,X v→X' v):KX P g args j M R' X' :=
 PCall.mono hc (fun _ _ q=>⟨q.1,hR _ q.2⟩) fun _ _ q=>⟨q.1,hX _ q.2⟩
theorem one_get {a:Option PBlk} {i:Nat} (h:i≠j):hget [(j,a)] i=none:=(hget_tl h).trans rfl
theorem okJ (hM:M.bd (j+1)):(HE (j+1) [(j,some M)]).Ok:=by
 intro i b hb
 by_cases hj:i=j
 ·subst hj
  have h2:some M=some b:=hget_hd.symm.trans hb
  cases h2
  exact ⟨by show i < i+1;omega,hM⟩
 ·have h2:(none:Option PBlk)=some b:=(one_get hj).symm.trans hb
  cases h2
theorem KX.call (hc:KX P g args j M R X) (hb:PV.bds (j+1) args=true) (hM:M.bd (j+1)) (h1:hget l j=some M) (ho:∀ i,i < j→∀ b,hget l i=some b→b.isOwn=false) (hn:j+1≤n) :
  PCall P g args (HE n l) (fun v h'=>h'=HE n l∧R v) fun v h'=>h'=HE n l∧X v:=by
 let O:Nat→Bool:=fun i=>decide (i < j) && (hget l i).isSome
 have hO:∀ i,O i=true→∃ b,(HE n l).get i=some b∧b.isOwn=false:=by
  intro i hi
  simp only [O,Bool.and_eq_true,decide_eq_true_eq] at hi
  obtain ⟨b,hb⟩:=Option.isSome_iff_exists.1 hi.2
  exact ⟨b,hb,ho i hi.1 b hb⟩
 have hget0:∀ i,i < j→((HE n l).hide O).get i=none:=by
  intro i hi
  show (if O i=true then none else hget l i)=none
  by_cases hs:(hget l i).isSome=true
  ·rw [if_pos (by simp only [O,hs,decide_eq_true hi];rfl)]
  ·rw [if_neg (by simp only [O,hs];simp)]
   cases hq:hget l i with
   |none=>rfl
   |some b=>rw [hq] at hs;exact absurd rfl hs
 have hgetJ:∀ i,¬ i < j→((HE n l).hide O).get i=hget l i:=by
  intro i hi
  show (if O i=true then none else hget l i)=hget l i
  rw [if_neg (by simp only [O,decide_eq_false hi];simp)]
 have hcut:((HE n l).hide O).cut (j+1)=HE (j+1) [(j,some M)]:=by
  unfold PH.cut
  show PH.mk _ _=PH.mk _ _
  congr 1
  funext i
  by_cases hi:i < j
  ·rw [if_pos (by omega),one_get (by omega)];exact hget0 i hi
  ·by_cases hj:i=j
   ·subst hj;rw [if_pos (by omega),hget_hd,hgetJ i hi];exact h1
   ·rw [if_neg (by omega),one_get hj]
 have hback:((((HE n l).hide O).over (j+1) (HE (j+1) [(j,some M)])).give (HE n l) O)=HE n l:=by
  unfold PH.give PH.over
  show PH.mk _ _=PH.mk _ _
  congr 1
  funext i
  by_cases hi:O i=true
  ·rw [if_pos hi];rfl
  ·rw [if_neg hi]
   show (if i < j+1 then (HE (j+1) [(j,some M)]).get i else ((HE n l).hide O).get i)=hget l i
   by_cases hij:i < j+1
   ·rw [if_pos hij]
    by_cases hj:i=j
    ·subst hj;exact hget_hd.trans h1.symm
    ·rw [show (HE (j+1) [(j,some M)]).get i=none from one_get hj]
     simp only [O,decide_eq_true (show i < j by omega),Bool.true_and] at hi
     cases hq:hget l i with
     |none=>rfl
     |some b=>rw [hq] at hi;exact absurd rfl hi
   ·rw [if_neg hij]
    exact hgetJ i (by omega)
 unfold KX at hc
 refine (PCall.frameO hO (PCall.frame (n:=j+1) (h:=(HE n l).hide O) hn hb (fun _=>by rw [hcut];exact okJ hM) (by rw [hcut];exact hc) ?_ ?_)).mono ?_ ?_
 ·rintro v h' ⟨rfl,_⟩;rfl
 ·rintro v h' ⟨rfl,_⟩;rfl
 ·rintro v h'' ⟨h1',⟨h',⟨rfl,hr⟩,rfl⟩,_,rfl⟩
  exact ⟨hback,hr⟩
 ·rintro v h'' ⟨h1',⟨h',⟨rfl,hr⟩,rfl⟩,_,rfl⟩
  exact ⟨hback,hr⟩
end
section
variable {C:Cx} {F:EQ} {X:EX} {k:List KI} {e:EL} {ds:List Nat} {K:PV→PH→Prop} {n m j:Nat} {l:HL} {M:PBlk} {u:PV} {Rv Xv:PV→Prop}
variable {d:Option Tmp} {type:TypeId} {pos:String} {after:Array Edge} {guard:Option (Nat×Bool)}
end
end Go.Pv
namespace Go.Pv
open Go.Am Go.RowKit
section
variable {C:Cx} {F:EQ} {X:EX} {k:List KI} {e:EL} {ds:List Nat} {h:PH} {n m:Nat} {l:HL}
end
end Go.Pv
namespace Go.Pv
open Go.Am Go.RowKit
section
variable {C:Cx} {F:EQ} {X:EX} {k:List KI} {e:EL} {ds:List Nat} {K:PV→PH→Prop} {n:Nat} {l:HL}
variable {d:Option Tmp} {type:TypeId} {pos:String} {after:Array Edge} {guard:Option (Nat×Bool)}
theorem Ope.storeP {t:Nat} {a x:Operand} {agg:Bool} {sz i o:Nat} {v:PV} {cs:List PV} [ht:Ty C.A t agg sz] (ha:pev (lget e) a=some (.ptr i o)) (hx:pev (lget e) x=some v) (hg:hget l i=some (.cells cs)) (hsz:v.nc=sz) (ho:PV.allOne v.cells=true)
  (hle:o+v.nc≤cs.length) (hK:K (.tup []) (HE n ((i,some (.cells (pputs cs o v.cells)))::l))):Ope C X { dst:=d,op:=.store t a x,type,pos,after,guard } e ds (HE n l) K:=by
 obtain ⟨d',ti,h1,h2,rfl,rfl⟩:=ht.get
 unfold Ope
 simp only [pop,pkind,ploud,ha,hx,PStore,h2]
 refine .inl ⟨cs,hg,hsz,hle,ho,?_⟩
 rw [HE_put]
 exact hK
theorem Run.frzB {c:Code} {x i len cap:Nat} {ez:Option Nat} {vs post pre suf:List PV} {sz:Nat} (hgx:hget l x=some (.cells (pre++.ms i 0 len cap ez::suf))) (hg:hget l i=some (.cells (flat vs++post))) (hxi:x≠i) (hl:len=vs.length) (hlc:len≤cap) (hnc:∀ v∈vs,v.nc=sz)
  (hr:Run C F X (.c c::k) e ds (HE n ((x,some (.cells (pre++.sl .no vs::suf)))::(i,none)::l))):Run C F X (.c c::k) e ds (HE n l):=by
 refine Run.ghost (fun t ht=>⟨t,ht,fun w0 s arr hw hh htv=>?_⟩) hr
 have hgi:s.h.get i=some (.cells (flat vs++post)):=by rw [hh];exact hg
 have hgx':s.h.get x=some (.cells (pre++.ms i 0 len cap ez::suf)):=by rw [hh];exact hgx
 obtain ⟨arr',tt,e2,e3,hin,e4⟩:=hw.cells hgi
 have hall:=Each.of hnc
 have hx1:=Ext.freeze (s:=s) (n:=vs.length * sz) e4
 have hw1:=hw.freeze (n:=vs.length * sz) hgi
 have hh1:(s.freeze i (vs.length * sz)).h=HE n ((i,none)::l):=by simp only [St.freeze,hh,HE_del]
 have hg1:(s.freeze i (vs.length * sz)).h.get x=some (.cells (pre++.ms i 0 len cap ez::suf)):=by
  rw [hh1];exact (hget_tl hxi).trans hgx
 have hslice:∀ y,RV s (.ms i 0 len cap ez) y→RV (s.freeze i (vs.length * sz)) (.sl .no vs) y:=fun y hy=>by
  obtain ⟨_,rfl⟩:=RV_ms.1 hy
  refine RV_sl.2 (.inr ⟨s.e i,0,cap,sz,by rw [hl],by omega,?_,trivial⟩)
  refine REs.of_flat hall (RMs.of_get fun q v hq=>?_)
  have hqlt:q < (flat vs).length:=(List.getElem?_eq_some_iff.1 hq).1
  have hql:=hqlt
  rw [flat_len hall] at hqlt
  obtain ⟨y,u1,u2⟩:=e3.get (a:=v) (i:=q) (by rw [List.getElem?_append_left hql];exact hq)
  refine ⟨y,?_,(R2.ext hx1 v).1 _ u2⟩
  rw [Nat.zero_add]
  exact fcell_new (upd_self _ _ _) hqlt e2 (by simpa using u1)
 obtain ⟨arrx,tx,f2,f3,fin,f4⟩:=hw.cells hgx'
 obtain ⟨p1,p2,p3⟩:=hw1.hp x _ hg1
 have hlv:=(BAt_live (b:=.cells (pre++.ms i 0 len cap ez::suf)) rfl).1 p2
 have hx2:Ext (s.freeze i (vs.length * sz)) ((s.freeze i (vs.length * sz)).put x (.cells (pre++.sl .no vs::suf)) (s.freeze i (vs.length * sz)).w):=Ext.put hlv (Nat.le_refl _) fun _ _=>rfl
 refine ⟨(s.freeze i (vs.length * sz)).put x (.cells (pre++.sl .no vs::suf)) (s.freeze i (vs.length * sz)).w,rfl,?_,hx1.trans hx2,?_,htv.ext (hx1.trans hx2)⟩
 ·refine ⟨hw1.os,hw1.tape,hw1.output,hw1.size,hw1.old,hw1.prot,hw1.cold,hw1.inb,hw1.ob,fun j b hj=>?_⟩
  simp only [St.put,PH.put] at hj
  split at hj
  ·next ej =>
   cases hj
   subst ej
   refine ⟨p1,(BAt_live (b:=.cells (pre++.sl .no vs::suf)) rfl).2 hlv,?_⟩
   obtain ⟨xs1,xs2,q1,q2,q3⟩:=RVs.split f3
   obtain ⟨y,ys,rfl,r1,r2⟩:=RVs_cons.1 q3
   refine ⟨arrx,tx,f2,?_⟩
   rw [q1]
   exact ((R2s.ext (hx1.trans hx2) _).1 _ q2).append (RVs_cons.2 ⟨y,ys,rfl,(R2.ext hx2 _).1 _ (hslice y r1),(R2s.ext (hx1.trans hx2) _).1 _ r2⟩)
  ·obtain ⟨q1,q2,q3⟩:=hw1.hp j b hj
   exact ⟨q1,BAt.congr (s':=(s.freeze i (vs.length * sz)).put x (.cells (pre++.sl .no vs::suf)) (s.freeze i (vs.length * sz)).w) (s:=s.freeze i (vs.length * sz)) rfl rfl q2,q3.ext hx2 rfl⟩
 ·simp only [St.put,hh1,HE_put]
end
def mkaP (A : AP) (t : TypeId) : Bool :=
 match A.under t with
 |some (.slice e)=>match A.info e with
  |some ie=>match ie.zero with
   |some z=>match z.cells.size == ie.size && Nat.ble 1 ie.size,ofCells z.cells.toList with
    |true,some cs=>(PV.ofAVs cs).isSome
    |_,_=>false
   |none=>false
  |none=>false
 |_=>false
class Mka (A:AP) (t:Nat):Prop where
 ok:mkaP A t=true
theorem ofAVs_app:∀ {a b:List AV} {x y:List PV},PV.ofAVs a=some x→PV.ofAVs b=some y→PV.ofAVs (a++b)=some (x++y)
 |[],b,x,y,h,k=>by
  cases h
  exact k
 |v :: a, b, x, y, h, k => by
  simp only [PV.ofAVs] at h
  simp only [List.cons_append,PV.ofAVs]
  cases hv:PV.ofAV v with
  |none=>simp [hv] at h
  |some v' =>
   cases ha:PV.ofAVs a with
   |none=>simp [hv,ha] at h
   |some a' =>
    simp [hv,ha] at h
    subst h
    rw [ofAVs_app ha k]
    rfl
theorem ofAVs_copies {cs:List AV} {ps:List PV} (h:PV.ofAVs cs=some ps):∀ n,∃ vs,PV.ofAVs (acopies cs n)=some vs
 |0=>⟨[],rfl⟩
 |n+1=>let ⟨vs,hv⟩:=ofAVs_copies h n;⟨ps++vs,ofAVs_app h hv⟩
theorem Mka.get {A:AP} {t:Nat} (h:Mka A t):∃ e,A.under t=some (.slice e)∧∀ n,∃ zs vs,azeros A e n=some zs∧PV.ofAVs zs=some vs:=by
 have h1:=h.ok
 unfold mkaP at h1
 split at h1
 case h_2=>cases h1
 next e hu =>
 split at h1
 case h_2=>cases h1
 next ie hie =>
 split at h1
 case h_2=>cases h1
 next zz hz =>
 split at h1
 case h_2=>cases h1
 next cs hb hcs =>
 obtain ⟨ps,hps⟩:=Option.isSome_iff_exists.1 h1
 refine ⟨e,hu,fun n=>?_⟩
 obtain ⟨vs,hv⟩:=ofAVs_copies hps n
 refine ⟨acopies cs n,vs,?_,hv⟩
 unfold azeros
 simp only [hie,hz,hb,hcs]
section
variable {C:Cx} {F:EQ} {X:EX} {k:List KI} {e:EL} {ds:List Nat} {K:PV→PH→Prop} {n:Nat} {l:HL}
variable {d:Option Tmp} {type:TypeId} {pos:String} {after:Array Edge} {guard:Option (Nat×Bool)}
theorem Ope.apLa {t tx sz bytes sz' bytes':Nat} {agg agg':Bool} {x y:Operand} {tl':Tail} {vs ws:List PV} [hs:Slc C.A t agg sz bytes] [hm:Mka C.A t] [hs':Slc C.A tx agg' sz' bytes'] (hx:pev (lget e) x=some (.sl .ex vs)) (hy:pev (lget e) y=some (.sl tl' ws)) (hne:ws≠[])
  (hb1:(vs.length+ws.length) * bytes≤140737488355328) (hb2:vs.length+ws.length≤1000000000) (h1:1≤sz) (hv:∀ v∈vs,v.nc=sz) (hw:∀ v∈ws,v.nc=sz∧PV.allOne v.cells=true)
  (hK:∀ c post ez,vs.length+ws.length≤c→K (.ms n 0 (vs.length+ws.length) c ez) (HE (n+1) ((n,some (.cells (flat (vs++ws)++post)))::l))) :
  Ope C X { dst:=d,op:=.call { callee:=.builtin .append,args:=#[x,y],argTypes:=#[t,tx] },type,pos,after,guard } e ds (HE n l) K:=by
 obtain ⟨el,ti,q1,q2,q3,q4,q5⟩:=hs.get
 obtain ⟨d',ti',h4,h5,rfl,rfl⟩:=q2.get
 rw [q3] at h5
 cases h5
 subst q4
 obtain ⟨el',ti',q1',_⟩:=hs'.get
 obtain ⟨el2,r1,r4⟩:=hm.get
 rw [q1] at r1
 cases r1
 unfold Ope
 simp only [pop,pkind,ploud,pargs,hx,hy,PAppend,q1,q1',q3]
 refine .inr ⟨hne,hb1,hb2,h1,q5,Each.of hv,Each.of hw,.inr (.inr ⟨r4,fun c vs' p1 p2=>?_⟩)⟩
 rw [HE_add]
 exact hK c vs' _ p1
end
end Go.Pv
namespace Go.Pv
open Go.Am Go.RowKit
section
variable {C:Cx} {F:EQ} {X:EX} {k:List KI} {e:EL} {ds:List Nat} {h:PH} {K:PV→PH→Prop} {n:Nat} {l:HL} {os:List Oper}
variable {d:Option Tmp} {type:TypeId} {pos:String} {after:Array Edge} {guard:Option (Nat×Bool)}
theorem Ope.idxStr {t:TypeId} {x i:Operand} {kk:IntKind} {s:ByteArray} {m z:Nat} (hu:C.A.under t=some .string) (hx:pev (lget e) x=some (.lit (.str s))) (hi:pev (lget e) i=some (.lit (.int kk (m:Int)))) (hz:s.size=z) (hm:m < z)
  (hK:∀ b:Nat,b < 256→K (.lit (.int .u8 (b:Int))) h):Ope C X { dst:=d,op:=.index t x i,type,pos,after,guard } e ds h K:=by
 have hms:m < s.size:=by omega
 refine Ope.quiet rfl ?_ (hK s[m].toNat s[m].toNat_lt)
 have ha:aidx (m:Int) s.size=some m:=by
  show (match Nat.blt m s.size with | true=>some m | false=>none)=some m
  rw [lt_blt hms]
 simp only [pquiet,hx,hi,pindex,hu,ha,getElem?_pos s m hms]
theorem Ope.apLb {t tx sz bytes sz' bytes':Nat} {agg agg':Bool} {x y:Operand} {tl':Tail} {vs ws:List PV} [hs:Slc C.A t agg sz bytes] [hm:Mka C.A t] [hs':Slc C.A tx agg' sz' bytes'] (hx:pev (lget e) x=some (.sl .ex vs)) (hy:pev (lget e) y=some (.sl tl' ws)) (hne:ws≠[])
  (hb1:(vs.length+ws.length) * bytes≤140737488355328) (hb2:vs.length+ws.length≤1000000000) (h1:1≤sz) (hv:∀ v∈vs,v.nc=sz) (hw:∀ v∈ws,v.nc=sz∧PV.allOne v.cells=true)
  (hK:∀ c post ez,vs.length+ws.length≤c→post.length=(c - (vs.length+ws.length)) * sz→K (.ms n 0 (vs.length+ws.length) c ez) (HE (n+1) ((n,some (.cells (flat (vs++ws)++post)))::l))) :
  Ope C X { dst:=d,op:=.call { callee:=.builtin .append,args:=#[x,y],argTypes:=#[t,tx] },type,pos,after,guard } e ds (HE n l) K:=by
 obtain ⟨el,ti,q1,q2,q3,q4,q5⟩:=hs.get
 obtain ⟨d',ti',h4,h5,rfl,rfl⟩:=q2.get
 rw [q3] at h5
 cases h5
 subst q4
 obtain ⟨el',ti',q1',_⟩:=hs'.get
 obtain ⟨el2,r1,r4⟩:=hm.get
 rw [q1] at r1
 cases r1
 unfold Ope
 simp only [pop,pkind,ploud,pargs,hx,hy,PAppend,q1,q1',q3]
 refine .inr ⟨hne,hb1,hb2,h1,q5,Each.of hv,Each.of hw,.inr (.inr ⟨r4,fun c vs' p1 p2=>?_⟩)⟩
 rw [HE_add]
 exact hK c vs' _ p1 p2
theorem RegL.apB {d t tx sz bytes sz' bytes' j len cap:Nat} {agg agg':Bool} {ez:Option Nat} {x y:Operand} {tl':Tail} {vs ws post:List PV} {type:TypeId} {pos:String} {after:Array Edge}
  [hs:Slc C.A t agg sz bytes] [hm:Mka C.A t] [hs':Slc C.A tx agg' sz' bytes'] (hd:Nat.blt d C.sz=true) (hx:pev (lget e) x=some (.ms j 0 len cap ez)) (hy:pev (lget e) y=some (.sl tl' ws))
  (hg:hget l j=some (.cells (flat vs++post))) (hlen:len=vs.length) (hlc:len≤cap) (hp:post.length=(cap - len) * sz)
  (hb1:(vs.length+ws.length) * bytes≤140737488355328) (hb2:vs.length+ws.length≤1000000000) (hv:∀ v∈vs,v.nc=sz) (hw:∀ v∈ws,v.nc=sz∧PV.allOne v.cells=true)
  (hK:∀ j' n' c post' ez',(j'=j∧n'=n)∨(j'=n∧n'=n+1)→vs.length+ws.length≤c→post'.length=(c - (vs.length+ws.length)) * sz→RegL C F X k os ((d,.ms j' 0 (vs.length+ws.length) c ez')::e) ds (HE n' ((j',some (.cells (flat (vs++ws)++post')))::l))) :
  RegL C F X k ({ dst:=some d,op:=.call { callee:=.builtin .append,args:=#[x,y],argTypes:=#[t,tx] },type,pos,after,guard:=none }::os) e ds (HE n l):=by
 obtain ⟨el,ti,q1,q2,q3,q4,q5⟩:=hs.get
 obtain ⟨d',ti',h4,h5,rfl,rfl⟩:=q2.get
 rw [q3] at h5
 cases h5
 subst q4
 obtain ⟨el',ti',q1',_⟩:=hs'.get
 obtain ⟨el2,r1,r4⟩:=hm.get
 rw [q1] at r1
 cases r1
 unfold RegL
 intro t ht
 refine ⟨hd,rfl,.inr (.inl ⟨_,_,_,_,_,rfl,rfl,rfl,?_,el,el',ti,q1,q1',q3,j,len,cap,ez,tl',ws,vs,post,rfl,rfl,hlen,hlc,hg,hp,Each.of hv,Each.of hw,hb1,hb2,r4,fun vs' p1 p2=>?_,fun c vs' p1 p2=>?_⟩)⟩
 ·rw [ht]
  show pargs (pev (lget e)) [x,y]=_
  simp only [pargs,hx,hy]
 ·have h:=hK j n cap vs' ez (.inl ⟨rfl,rfl⟩) p1 p2
  unfold RegL at h
  rw [HE_put]
  exact h _ (put_get ht d _)
 ·have h:=hK n (n+1) c vs' (ezOf C.A el) (.inr ⟨rfl,rfl⟩) p1 p2
  unfold RegL at h
  rw [HE_add]
  exact h _ (put_get ht d _)
theorem finH_retD {fn:Func} {R:PV→PH→Prop} {vs:List PV} {i n0 m m':Nat} {l':HL} (hd:hget l i=some .dfr) (hv:Res C.A e ((i,none)::l) fn.results.toList vs) (hn:m≤m') (hs:∀ j b,hget l' j=some b→hget ((i,none)::l) j=some b) (hR:R (pone vs) (HE m' l')) :
  Jmp C (FinH C fn n0 R) X [] .ret e [i] (HE m l):=by
 refine Jmp.done ⟨⟨hd,trivial⟩,vs,?_,?_⟩
 ·simp only [unds,HE_del]
  exact hv.get
 ·simp only [unds,HE_del]
  exact ⟨HE m' l',pone vs,PGh.wide hn hs,hR⟩
end
end Go.Pv
namespace Go.Pv
open Go.Proofs Go.Am
set_option maxRecDepth 10000
theorem pputs_app (A B:List PV) (a o:Nat) (vs:List PV) (h:A.length=a):pputs (A++B) (a+o) vs=A++pputs B o vs:=by
  subst h
  unfold pputs
  rw [List.take_append,List.drop_append]
  have e1:A.length+o - A.length=o:=by omega
  have e2:A.length+o+vs.length - A.length=o+vs.length:=by omega
  rw [e1,e2,List.take_of_length_le (by omega),List.drop_eq_nil_of_le (by omega)]
  simp [List.append_assoc]
theorem part_deed (post:List PV):∀ (L:List Deed) (p:Nat) (h:p < L.length) (q:Nat),q=4 * p→partK true q 4 (flat (L.map Deed.v)++post)=some L[p].v
  | ⟨_,_,_,_⟩::L,0,_,q,hq=>by subst hq;simp [partK,cutK,flat,Deed.v,PV.cells]
  | d :: L, p + 1, h, q, hq => by
    subst hq
    have ih:=part_deed post L p (by simpa using h) _ rfl
    rw [show 4 * (p+1)=4 * p+1+1+1+1 from by omega]
    simp only [partK,List.map_cons,flat,Deed.v,PV.cells,List.cons_append,List.nil_append,List.append_assoc,cutK,List.getElem_cons_succ] at ih ⊢
    exact ih
theorem put_deed (post:List PV) (x:Deed):∀ (L:List Deed) (p:Nat) (h:p < L.length) (q:Nat),q=4 * p→pputs (flat (L.map Deed.v)++post) q x.v.cells=flat ((L.set p x).map Deed.v)++post
  | d::L,0,_,q,hq=>by subst hq;simp [pputs,flat,Deed.v,PV.cells]
  | d :: L, p + 1, h, q, hq => by
    subst hq
    simp only [List.map_cons,flat,List.set_cons_succ,List.append_assoc]
    rw [show 4 * (p+1)=4+4 * p from by omega,pputs_app _ _ 4 _ _ rfl,put_deed post x L p (by simpa using h) _ rfl]
theorem deeds_len (L:List Deed) (post:List PV):(flat (L.map Deed.v)++post).length=4 * L.length+post.length:=by
  have:(flat (L.map Deed.v)).length=4 * L.length:=by
    induction L with
    | nil=>rfl
    | cons d L ih =>
      simp only [List.map_cons,flat,List.length_append,ih,List.length_cons]
      show 4+_=_
      omega
  rw [List.length_append,this]
def cmpD (a b:Deed):Int:=if bef a b=true then -1 else if bef b a=true then 1 else 0
theorem f91 (a b:Deed):Fn P0 91 [a.v,b.v,.fp (.fn (.func 76) [] [])] (I (cmpD a b)):=by
  have h1:=f76 a b
  have h2:=f76 b a
  unfold cmpD
  refine PFun.of (C:=c91) (cx_ok _ _ _) rfl (fn:=Tryz.f91) (by kernel_rfl) (c:=_) rfl rfl rfl ?_
  refine rS (rN (cx_ok _ _ _) (rO rfl (Ope.boxF rfl rfl ?_)))
  refine rO rfl (Ope.boxF rfl rfl ?_)
  refine rO rfl (oA rfl ?_)
  refine rI (Run.block (rS (rN (cx_ok _ _ _) (rO rfl (oL rfl rfl ?_)))))
  refine rO rfl (oL rfl rfl ?_)
  refine rO rfl (oL rfl rfl ?_)
  refine rO rfl (Ope.cf rfl rfl (h1) rfl ?_)
  refine rO rfl (oA rfl ?_)
  refine rI (rC rfl (fun hc=>?_) fun hc=>?_)
  ·refine rS (rN (cx_ok _ _ _) (rO rfl (oA rfl ?_)))
   refine rI (Run.ret (Jmp.retB (fin_ret (.tmp rfl .nil) rfl ?_)))
   first
   | (rw [if_pos (by assumption)];rfl)
   | (rw [if_neg (by simp [*]),if_pos (by assumption)];rfl)
   | (rw [if_neg (by simp [*]),if_neg (by simp [*])];rfl)
  ·refine rS (rN (cx_ok _ _ _) (rO rfl (oL rfl rfl ?_)))
   refine rO rfl (oL rfl rfl ?_)
   refine rO rfl (oL rfl rfl ?_)
   refine rO rfl (Ope.cf rfl rfl (h2) rfl ?_)
   refine rO rfl (oA rfl ?_)
   refine rI (rC rfl (fun hc=>?_) fun hc=>?_)
   ·refine rS (rN (cx_ok _ _ _) (rO rfl (oA rfl ?_)))
    refine rI (Run.ret (Jmp.retB (fin_ret (.tmp rfl .nil) rfl ?_)))
    first
    | (rw [if_pos (by assumption)];rfl)
    | (rw [if_neg (by simp [*]),if_pos (by assumption)];rfl)
    | (rw [if_neg (by simp [*]),if_neg (by simp [*])];rfl)
   ·refine rS (rN (cx_ok _ _ _) (rO rfl (oA rfl ?_)))
    refine rI (Run.ret (Jmp.retB (fin_ret (.tmp rfl .nil) rfl ?_)))
    first
    | (rw [if_pos (by assumption)];rfl)
    | (rw [if_neg (by simp [*]),if_pos (by assumption)];rfl)
    | (rw [if_neg (by simp [*]),if_neg (by simp [*])];rfl)
theorem cmpD_neg {a b:Deed}:cmpD a b < 0↔bef a b=true:=by
  unfold cmpD
  split
  · next h=>simp [h]
  · next h=>split<;>simp [h]
theorem str_t:A0.under 9=some .string:=by kernel_rfl
theorem f129 (n:Nat) (h:n≤100):PFun P0 129 [.lit (.int .u64 n)] (fun v=>∃ k:Int,v=I k) fun _=>False:=by
  refine PFun.of (C:=c129) (cx_ok _ _ _) rfl (fn:=Tryz.f129) (by kernel_rfl) (c:=_) rfl rfl rfl ?_
  refine rS (rN (cx_ok _ _ _) (rO rfl (oA rfl ?_)))
  refine rI (rS (rS (rN (cx_ok _ _ _) (rO rfl (oM rfl ?_)))))
  refine rO rfl (Ope.ge rfl rfl ?_)
  refine rI (rC rfl (fun hc=>?_) fun hc=>?_)
  ·(exfalso;omega)
  ·refine Run.skip (rS (rS (rN (cx_ok _ _ _) (rO rfl (oM rfl ?_)))))
   refine rO rfl (Ope.ge rfl rfl ?_)
   refine rI (rC rfl (fun hc=>?_) fun hc=>?_)
   ·(exfalso;omega)
   ·refine Run.skip (rS (rS (rN (cx_ok _ _ _) (rO rfl (oM rfl ?_)))))
    refine rO rfl (Ope.ge rfl rfl ?_)
    refine rI (rC rfl (fun hc=>?_) fun hc=>?_)
    ·(exfalso;omega)
    ·refine Run.skip (rS (rN (cx_ok _ _ _) (rO rfl (oM rfl ?_))))
     refine rO rfl (oM rfl ?_)
     refine rO rfl (Ope.convN (p:=n) rfl rfl (by show n < 128;omega) ?_)
     refine rO rfl (Ope.idxStr (m:=n) str_t rfl rfl (by kernel_rfl:_=256) (by omega) (fun b hb=>?_))
     first | refine rO rfl (Ope.conv rfl (wrap_in _ (by omega) (by omega)) ?_) | refine rO rfl (Ope.conv rfl rfl ?_)
     refine rO rfl (Ope.add rfl rfl (by omega) ?_)
     refine rO rfl (oA rfl ?_)
     refine rI (Run.ret (fin_ret (.tmp rfl .nil) rfl ?_))
     exact ⟨_,rfl⟩
theorem f119 (n:Nat) (h:n≤100):PFun P0 119 [.lit (.int .u64 n)] (fun v=>∃ k:Int,v=I k) fun _=>False:=by
  have hl:=f129 n h
  refine PFun.of (C:=c119) (cx_ok _ _ _) rfl (fn:=Tryz.f119) (by kernel_rfl) (c:=_) rfl rfl rfl ?_
  refine rS (rN (cx_ok _ _ _) (rO rfl (oA rfl ?_)))
  refine rI (rS (Run.condF rfl (Run.skip (rS (rN (cx_ok _ _ _) (rO rfl (oM rfl ?_)))))))
  refine rO rfl (Ope.call rfl rfl rfl (hl.call rfl (fun v hv=>?_) fun v hv=>hv.elim))
  obtain ⟨k,rfl⟩:=hv
  refine rO rfl (oA rfl ?_)
  refine rI (Run.ret (fin_ret (.tmp rfl .nil) rfl ?_))
  exact ⟨k,rfl⟩
def d00:Deed:=⟨0,0,0,0⟩
def atD (L:List Deed) (p:Nat):Deed:=L.getD p d00
theorem atD_get {L:List Deed} {p:Nat} (h:p < L.length):atD L p=L[p]:=by simp [atD,List.getD,h]
theorem atD_set {L:List Deed} {i:Nat} {a:Deed} (h:i < L.length) (p:Nat):atD (L.set i a) p=if p=i then a else atD L p:=by
  unfold atD List.getD
  by_cases hp:p=i
  · subst hp
    rw [if_pos rfl,List.getElem?_set_self h];rfl
  · rw [if_neg hp,List.getElem?_set_ne (fun e=>hp e.symm)]
def swpD (L:List Deed) (j:Nat):List Deed:=(L.set (j+1) (atD L j)).set j (atD L (j+1))
theorem swpD_len (L:List Deed) (j:Nat):(swpD L j).length=L.length:=by simp [swpD]
theorem swpD_perm:∀ (L:List Deed) (j:Nat),j+1 < L.length→(swpD L j).Perm L
  | [],j,h=>by simp at h
  | [a],j,h=>by simp at h
  | a::b::L,0,h=>List.Perm.swap _ _ _
  | a :: b :: L, j + 1, h => by
    have ih:=swpD_perm (b::L) j (by simpa using h)
    exact ih.cons a
theorem atD_swp {L:List Deed} {j:Nat} (h:j+1 < L.length) (p:Nat):atD (swpD L j) p=if p=j then atD L (j+1) else if p=j+1 then atD L j else atD L p:=by
  unfold swpD
  rw [atD_set (by simp;omega),atD_set h]
def Ins (L:List Deed) (i j:Nat):Prop:=∀ p q,p < q→q≤i→q < L.length→q≠j→bef (atD L p) (atD L q)=true
theorem ins_swp {L : List Deed} {i j : Nat} (h : j + 1 < L.length) (hi : j + 1 ≤ i) (hI : Ins L i (j + 1)) (hb : bef (atD L (j + 1)) (atD L j) = true) : Ins (swpD L j) i j := by
  intro p q hpq hqi hql hqj
  rw [swpD_len] at hql
  rw [atD_swp h,atD_swp h]
  rw [if_neg hqj]
  by_cases hq1:q=j+1
  · subst hq1
    rw [if_pos rfl]
    by_cases hpj:p=j
    · rw [if_pos hpj];exact hb
    · rw [if_neg hpj, if_neg (by omega)]
      exact hI p j (by omega) (by omega) (by omega) (by omega)
  · rw [if_neg hq1]
    by_cases hpj:p=j
    · rw [if_pos hpj]
      exact hI (j+1) q (by omega) hqi hql hq1
    · rw [if_neg hpj]
      by_cases hp1:p=j+1
      · rw [if_pos hp1]
        exact hI j q (by omega) hqi hql hq1
      · rw [if_neg hp1]
        exact hI p q hpq hqi hql hq1
theorem ins_end {L : List Deed} {i j : Nat} (hn : (L.map Deed.nu).Nodup) (hj : j < L.length) (hI : Ins L i j) (hb : j = 0 ∨ ∃ k, j = k + 1 ∧ bef (atD L j) (atD L k) = false) : ∀ p q, p < q → q ≤ i → q < L.length → bef (atD L p) (atD L q) = true := by
  intro p q hpq hqi hql
  by_cases hqj:q=j
  · subst hqj
    rcases hb with h0 | ⟨k,rfl,hb⟩
    · omega
    · have hne : (atD L (k + 1)).nu ≠ (atD L k).nu := by
        rw [atD_get hql,atD_get (by omega:k < L.length)]
        intro e
        have h1:(L.map Deed.nu)[k+1]?=(L.map Deed.nu)[k]?:=by
          rw [List.getElem?_map,List.getElem?_map,List.getElem?_eq_getElem hql,List.getElem?_eq_getElem (by omega:k < L.length),Option.map_some,Option.map_some,e]
        have:=(List.getElem?_inj (by simpa using hql) hn).1 h1
        omega
      have hk:bef (atD L k) (atD L (k+1))=true:=bef_total hne hb
      by_cases hpk:p=k
      · rw [hpk];exact hk
      · exact bef_trans (hI p k (by omega) (by omega) (by omega) (by omega)) hk
  · exact hI p q hpq hqi hql hqj
theorem pairwise_of {L:List Deed} (h:∀ p q,p < q→q < L.length→bef (atD L p) (atD L q)=true):L.Pairwise fun a b=>bef a b=true:=by
  rw [List.pairwise_iff_getElem]
  intro p q hp hq hpq
  have:=h p q hpq hq
  rw [atD_get hp,atD_get hq] at this
  exact this
theorem srt_of {L D:List Deed} (hn:(D.map Deed.nu).Nodup) (hp:L.Perm D) (h:∀ p q,p < q→q < L.length→bef (atD L p) (atD L q)=true):L=srtD D :=
  sorted_uniq (pairwise_of h) (srtD_sorted hn) (hp.trans (srtD_perm D).symm)
theorem natK_pred (q:Nat):natK (((q+1:Nat):Int) - 1)=some q:=by
  have:(((q+1:Nat):Int) - 1)=(q:Int):=by omega
  rw [this];rfl
abbrev cmpV:PV:=.fn (.func 91) [] [.fp (.fn (.func 76) [] [])]
theorem f120 (D : List Deed) (hD : D.length ≤ 100) (hn : (D.map Deed.nu).Nodup) (j c m : Nat) (ez : Option Nat) (post : List PV) :
    PCall P0 120 [.ms j 0 D.length c ez,I 0,I D.length,cmpV] (HE m [(j,some (.cells (flat (D.map Deed.v)++post)))]) (fun v h'=>∃ m',m≤m'∧v=.tup []∧h'=HE m' [(j,some (.cells (flat ((srtD D).map Deed.v)++post)))]) fun _ _=>False:=by
  have hcmp:=fun a b=>f91 a b
  refine PCall.ofH (C:=c120) (cx_ok _ _ _) rfl (fn:=Tryz.f120) (by kernel_rfl) (c:=_) rfl rfl rfl (fun hok=>?_)
  refine rS (rN (cx_ok _ _ _) (rO rfl (oM rfl ?_)))
  refine rO rfl (Ope.add rfl rfl (by omega) ?_)
  refine rO rfl (oA rfl ?_)
  refine rI (Run.block (Run.loop (α:=Nat×List Deed) (fun t=>[(0,.ms j 0 D.length c ez),(1,I 0),(2,I D.length),(3,cmpV),(8,I t.1)]) (fun t=>HE m [(j,some (.cells (flat (t.2.map Deed.v)++post)))]) (fun t=>1≤t.1∧t.2.Perm D∧∀ p q,p < q→q < t.1→q < t.2.length→bef (atD t.2 p) (atD t.2 q)=true) (fun t=>D.length - t.1) (1,D) ⟨rfl,rfl,rfl,rfl,rfl,trivial⟩ rfl ⟨Nat.le_refl _,List.Perm.refl _,fun p q h1 h2=>by omega⟩ (fun t ht=>?_)))
  obtain ⟨i,L⟩:=t
  obtain ⟨hi,hL,hs⟩:=ht
  simp only at hi hL hs
  have hLl:=hL.length_eq
  show Run _ _ _ _ [(0,.ms j 0 D.length c ez),(1,I 0),(2,I D.length),(3,cmpV),(8,I i)] [] (HE m [(j,some (.cells (flat (L.map Deed.v)++post)))])
  refine rS (rS (rN (cx_ok _ _ _) (rO rfl (oM rfl ?_))))
  refine rO rfl (oM rfl ?_)
  refine rO rfl (Ope.lt rfl rfl ?_)
  refine rI (rC rfl (fun hc=>?_) fun hc=>?_)
  ·refine Run.skip (rS (Run.block (rS ?_)))
   have hiD:i < D.length:=by omega
   refine rN (cx_ok _ _ _) (rO rfl (oM rfl ?_))
   refine rO rfl (oA rfl ?_)
   refine rI (Run.block (Run.loop (α:=Nat×List Deed) (fun t=>[(0,.ms j 0 D.length c ez),(1,I 0),(2,I D.length),(3,cmpV),(8,I i),(9,I t.1)]) (fun t=>HE m [(j,some (.cells (flat (t.2.map Deed.v)++post)))]) (fun t=>t.1≤i∧t.2.Perm D∧Ins t.2 i t.1) (fun t=>t.1) (i,L) ⟨rfl,rfl,rfl,rfl,rfl,rfl,trivial⟩ rfl ⟨Nat.le_refl _,hL,fun p q h1 h2 h3 h4=>hs p q h1 (by simp only at h2 h4;omega) h3⟩ (fun t ht=>?_)))
   obtain ⟨k,L2⟩:=t
   obtain ⟨hk,hL2,hI⟩:=ht
   simp only at hk hL2 hI
   have hL2l:=hL2.length_eq
   have hn2:(L2.map Deed.nu).Nodup:=((hL2.map Deed.nu).nodup_iff).2 hn
   rcases k with _ | q
   ·refine rS (rS ?_)
    first
    | have hq1:q+1 < L2.length:=by omega
    | skip
    refine Run.draw (cx_ok _ _ _) [(0,true),(1,true),(2,true),(3,true),(4,true),(5,true),(6,true),(7,true),(8,true),(9,true),(10,true),(11,true),(12,true),(13,true),(14,true),(15,true),(16,true)] (by kernel_rfl) (dO rfl rfl rfl .sure (oM rfl ?_))
    refine dO rfl rfl rfl .sure (oM rfl ?_)
    refine dO rfl rfl rfl .sure (Ope.gt rfl rfl ?_)
    refine dO rfl rfl rfl .sure (oM rfl ?_)
    refine Dra.splitX rfl rfl rfl rfl (fun hg=>?_) fun hg=>?_
    ·(exfalso;omega)
    ·refine dF rfl rfl rfl (.inl rfl) rfl (dF rfl rfl rfl (.inl rfl) rfl (dF rfl rfl rfl (.inl rfl) rfl (dF rfl rfl rfl (.inl rfl) rfl (dF rfl rfl rfl (.inl rfl) rfl (dF rfl rfl rfl (.inl rfl) rfl (dF rfl rfl rfl (.inl rfl) rfl (dF rfl rfl rfl (.inl rfl) rfl (dF rfl rfl rfl (.inl rfl) rfl (dF rfl rfl rfl (.inl rfl) rfl (dF rfl rfl rfl (.inl rfl) rfl (dF rfl rfl rfl (.inl rfl) rfl (dO rfl rfl rfl .sure (Ope.pickF rfl rfl ?_)))))))))))))
     refine Dra.nil (Run.condF rfl (Run.exit (Jmp.code (Jmp.round (Jmp.here (Run.bend (rN (cx_ok _ _ _) (rO rfl (oM rfl ?_)))))))))
     refine rO rfl (Ope.add rfl rfl (by omega) ?_)
     refine rO rfl (oA rfl ?_)
     refine rI ?_
     first
     | exact Run.lend ⟨(i+1,L2),by show D.length - (i+1) < D.length - i;omega,⟨by show 1≤i+1;omega,hL2,fun p r h1 h2 h3=>ins_end hn2 (by omega) hI (.inl rfl) p r h1 (by simp only at h2;omega) h3⟩,⟨rfl,rfl,rfl,rfl,rfl,trivial⟩,rfl,rfl⟩
     | exact Run.lend ⟨(i+1,L2),by show D.length - (i+1) < D.length - i;omega,⟨by show 1≤i+1;omega,hL2,fun p r h1 h2 h3=>ins_end hn2 (by omega) hI (.inr ⟨q,rfl,by
         rw [atD_get hq1,atD_get (by omega:q < L2.length)]
         cases hb:bef L2[q+1] L2[q] with
         | false=>rfl
         | true=>exact absurd (cmpD_neg.2 hb) (by simpa using hc)⟩) p r h1 (by simp only at h2;omega) h3⟩,⟨rfl,rfl,rfl,rfl,rfl,trivial⟩,rfl,rfl⟩
   ·refine rS (rS ?_)
    first
    | have hq1:q+1 < L2.length:=by omega
    | skip
    refine Run.draw (cx_ok _ _ _) [(0,true),(1,true),(2,true),(3,true),(4,true),(5,true),(6,true),(7,true),(8,true),(9,true),(10,true),(11,true),(12,true),(13,true),(14,true),(15,true),(16,true)] (by kernel_rfl) (dO rfl rfl rfl .sure (oM rfl ?_))
    refine dO rfl rfl rfl .sure (oM rfl ?_)
    refine dO rfl rfl rfl .sure (Ope.gt rfl rfl ?_)
    refine dO rfl rfl rfl .sure (oM rfl ?_)
    refine Dra.splitX rfl rfl rfl rfl (fun hg=>?_) fun hg=>?_
    ·refine Dra.on' rfl rfl rfl rfl rfl .sure (oM rfl ?_)
     refine Dra.on' rfl rfl rfl rfl rfl .sure (oM rfl ?_)
     refine Dra.on' rfl rfl rfl rfl rfl .sure (oM rfl ?_)
     refine Dra.on' rfl rfl rfl rfl rfl .sure (Ope.idxL (m:=q+1) rfl rfl rfl (by omega) ?_)
     refine Dra.on' rfl rfl rfl rfl rfl .sure (Ope.loadH rfl hget_hd (part_deed post L2 (q+1) hq1 _ (by show 0+(q+1) * 4=_;omega)) ?_)
     refine Dra.on' rfl rfl rfl rfl rfl .sure (oM rfl ?_)
     refine Dra.on' rfl rfl rfl rfl rfl .sure (oM rfl ?_)
     refine Dra.on' rfl rfl rfl rfl rfl .sure (Ope.sub rfl rfl (by omega) ?_)
     refine Dra.on' rfl rfl rfl rfl rfl .sure (Ope.idxL (m:=q) rfl rfl (natK_pred q) (by omega) ?_)
     refine Dra.on' rfl rfl rfl rfl rfl .sure (Ope.loadH rfl hget_hd (part_deed post L2 q (by omega) _ (by show 0+q * 4=_;omega)) ?_)
     refine Dra.on' rfl rfl rfl rfl rfl .sure (Ope.cf rfl rfl (hcmp _ _) rfl ?_)
     refine Dra.on' rfl rfl rfl rfl rfl .sure (Ope.lt rfl rfl ?_)
     refine dO rfl rfl rfl .sure (Ope.pickT rfl rfl ?_)
     refine Dra.nil (rC rfl (fun hc=>?_) fun hc=>?_)
     ·refine Run.skip (rS (Run.block (Run.draw (cx_ok _ _ _) [(0,true),(1,true),(2,true),(3,true),(4,true),(5,true),(6,true),(7,true),(8,true),(9,true),(10,true),(11,true),(12,true),(13,true),(14,true),(15,true),(16,true),(17,true)] (by kernel_rfl) (dO rfl rfl rfl .sure (oM rfl ?_)))))
      refine dO rfl rfl rfl .sure (oM rfl ?_)
      refine dO rfl rfl rfl .sure (oM rfl ?_)
      refine dO rfl rfl rfl .sure (oM rfl ?_)
      refine dO rfl rfl rfl .sure (Ope.sub rfl rfl (by omega) ?_)
      refine dO rfl rfl rfl .sure (oM rfl ?_)
      refine dO rfl rfl rfl .sure (oM rfl ?_)
      refine dO rfl rfl rfl .sure (Ope.sub rfl rfl (by omega) ?_)
      refine dO rfl rfl rfl .sure (Ope.idxL (m:=q) rfl rfl (natK_pred q) (by omega) ?_)
      refine dO rfl rfl rfl .sure (Ope.loadH rfl hget_hd (part_deed post L2 q (by omega) _ (by show 0+q * 4=_;omega)) ?_)
      refine dO rfl rfl rfl .sure (oM rfl ?_)
      refine dO rfl rfl rfl .sure (oM rfl ?_)
      refine dO rfl rfl rfl .sure (Ope.idxL (m:=q+1) rfl rfl rfl (by omega) ?_)
      refine dO rfl rfl rfl .sure (Ope.loadH rfl hget_hd (part_deed post L2 (q+1) hq1 _ (by show 0+(q+1) * 4=_;omega)) ?_)
      refine dO rfl rfl rfl .sure (Ope.idxL (m:=q+1) rfl rfl rfl (by omega) ?_)
      refine dO rfl rfl rfl .sure (Ope.storeP rfl rfl hget_hd rfl rfl (by rw [deeds_len];show 0+(q+1) * 4+4≤4 * L2.length+post.length;omega) ?_)
      rw [put_deed post L2[q] L2 (q+1) hq1 _ (by show 0+(q+1) * 4=_;omega)]
      refine dO rfl rfl rfl .sure (Ope.idxL (m:=q) rfl rfl (natK_pred q) (by omega) ?_)
      refine dO rfl rfl rfl .sure (Ope.storeP rfl rfl hget_hd rfl rfl (by rw [deeds_len];show 0+q * 4+4≤_;simp only [List.length_set];omega) ?_)
      rw [put_deed post L2[q+1] (L2.set (q+1) L2[q]) q (by simp;omega) _ (by show 0+q * 4=_;omega)]
      refine Dra.nil (Run.bend ?_)
      have hsw:(L2.set (q+1) L2[q]).set q L2[q+1]=swpD L2 q:=by
        unfold swpD;rw [atD_get hq1,atD_get (by omega:q < L2.length)]
      rw [hsw]
      refine Run.wide (m:=m) (l':=[(j,some (.cells (flat ((swpD L2 q).map Deed.v)++post)))]) (Nat.le_refl _) ⟨hget_hd,trivial⟩ ?_
      refine rN (cx_ok _ _ _) (rO rfl (oM rfl ?_))
      refine rO rfl (Ope.sub rfl rfl (by omega) ?_)
      refine rO rfl (oA rfl ?_)
      refine rI ?_
      exact Run.lend ⟨(q,swpD L2 q),by show q < q+1;omega,⟨by show q≤i;omega,(swpD_perm L2 q hq1).trans hL2,ins_swp hq1 (by omega) hI (by
        rw [atD_get hq1,atD_get (by omega:q < L2.length)]
        exact cmpD_neg.1 (by simpa using hc))⟩,⟨rfl,rfl,rfl,rfl,rfl,by rw [show ((q+1:Nat):Int) - 1=(q:Int) by omega];rfl,trivial⟩,rfl,rfl⟩
     ·refine Run.exit (Jmp.code (Jmp.round (Jmp.here (Run.bend (rN (cx_ok _ _ _) (rO rfl (oM rfl ?_)))))))
      refine rO rfl (Ope.add rfl rfl (by omega) ?_)
      refine rO rfl (oA rfl ?_)
      refine rI ?_
      first
      | exact Run.lend ⟨(i+1,L2),by show D.length - (i+1) < D.length - i;omega,⟨by show 1≤i+1;omega,hL2,fun p r h1 h2 h3=>ins_end hn2 (by omega) hI (.inl rfl) p r h1 (by simp only at h2;omega) h3⟩,⟨rfl,rfl,rfl,rfl,rfl,trivial⟩,rfl,rfl⟩
      | exact Run.lend ⟨(i+1,L2),by show D.length - (i+1) < D.length - i;omega,⟨by show 1≤i+1;omega,hL2,fun p r h1 h2 h3=>ins_end hn2 (by omega) hI (.inr ⟨q,rfl,by
          rw [atD_get hq1,atD_get (by omega:q < L2.length)]
          cases hb:bef L2[q+1] L2[q] with
          | false=>rfl
          | true=>exact absurd (cmpD_neg.2 hb) (by simpa using hc)⟩) p r h1 (by simp only at h2;omega) h3⟩,⟨rfl,rfl,rfl,rfl,rfl,trivial⟩,rfl,rfl⟩
    ·(exfalso;omega)
  ·exact Run.exit (Jmp.code (Jmp.round (Jmp.here (finH_end .nil (Nat.le_refl _) (fun _ _ h=>h) ⟨m,Nat.le_refl _,rfl,by rw [srt_of hn hL fun p q h1 h2=>hs p q h1 (by omega) h2]⟩))))
end Go.Pv
