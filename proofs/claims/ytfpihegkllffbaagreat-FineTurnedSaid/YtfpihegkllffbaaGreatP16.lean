/- Parts of the proof: E4, E5, E6, Pv55, Pv56, Pv57 -/
import Derived.Test.YtfpihegkllffbaaGreatP14
import Derived.Test.YtfpihegkllffbaaGreatP13
import Derived.Test.YtfpihegkllffbaaGreatP12
import Derived.Test.YtfpihegkllffbaaGreatP15
import Derived.Test.YtfpihegkllffbaaGreatP11
set_option linter.unusedVariables false
set_option linter.unusedSimpArgs false
set_option linter.unusedSectionVars false
namespace Go.Pv
open Go.Proofs Go.Am
set_option maxRecDepth 10000
abbrev N (x:Nat):PV:=I ((x:Nat):Int)
theorem f67t (e:Int):Fn P0 67 [B true,I e] (.tup []):=by
  refine PFun.of (C:=c67) (cx_ok _ _ _) rfl (fn:=Tryz.f67) (by kernel_rfl) (c:=_) rfl rfl rfl ?_
  refine rS (rN (cx_ok _ _ _) (rO rfl (oM rfl ?_)))
  refine rO rfl (Ope.not rfl ?_)
  refine rI (rC rfl (fun hc=>?_) fun hc=>?_)
  ·exact absurd hc (by decide)
  ·exact Run.skip (fin_end .nil rfl rfl)
theorem f67f (e:Int):Pan P0 67 [B false,I e] (.ifc 31 (I e)):=by
  refine PFun.of (C:=c67) (cx_ok _ _ _) rfl (fn:=Tryz.f67) (by kernel_rfl) (c:=_) rfl rfl rfl ?_
  refine rS (rN (cx_ok _ _ _) (rO rfl (oM rfl ?_)))
  refine rO rfl (Ope.not rfl ?_)
  refine rI (rC rfl (fun hc=>?_) fun hc=>?_)
  ·refine rN (cx_ok _ _ _) (rO rfl (oM rfl ?_))
   refine rO rfl (Ope.ifc rfl ?_)
   refine Reg.op0 (Ope.panic rfl ?_)
   exact fin_panic rfl rfl
  ·exact absurd hc (by decide)
def upB (m x:Int):Bool:=decide (0≤x) && decide (x≤m)
def numB (m x:Int):Bool:=decide (0≤x) && decide (x < m)
theorem f74 (m n:Int):Fn P0 74 [I m,I n] (B (upB m n)):=by
  unfold upB
  refine PFun.of (C:=c74) (cx_ok _ _ _) rfl (fn:=Tryz.f74) (by kernel_rfl) (c:=_) rfl rfl rfl ?_
  refine rS (rN (cx_ok _ _ _) (rO rfl (oA rfl ?_)))
  refine rI (rS (rN (cx_ok _ _ _) (rO rfl (oM rfl ?_))))
  refine rO rfl (Ope.ge rfl rfl ?_)
  refine rO rfl (oM rfl ?_)
  refine Reg.splitX rfl rfl (fun hg=>?_) fun hg=>?_
  ·refine Reg.on rfl rfl rfl (oM rfl ?_)
   refine Reg.on rfl rfl rfl (oM rfl ?_)
   refine Reg.on rfl rfl rfl (Ope.le rfl rfl ?_)
   refine rO rfl (Ope.pickT rfl rfl ?_)
   refine rO rfl (oA rfl ?_)
   refine rI (Run.ret (fin_ret (.tmp rfl .nil) rfl ?_))
   (simp [*];first | done | rfl | omega)
  ·refine Reg.off rfl rfl rfl (Reg.off rfl rfl rfl (Reg.off rfl rfl rfl (rO rfl (Ope.pickF rfl rfl ?_))))
   refine rO rfl (oA rfl ?_)
   refine rI (Run.ret (fin_ret (.tmp rfl .nil) rfl ?_))
   (simp [*];first | done | rfl | omega)
theorem f40 (m n:Int):Fn P0 40 [I m,I n] (B (numB m n)):=by
  unfold numB
  refine PFun.of (C:=c40) (cx_ok _ _ _) rfl (fn:=Tryz.f40) (by kernel_rfl) (c:=_) rfl rfl rfl ?_
  refine rS (rN (cx_ok _ _ _) (rO rfl (oA rfl ?_)))
  refine rI (rS (rN (cx_ok _ _ _) (rO rfl (oM rfl ?_))))
  refine rO rfl (Ope.ge rfl rfl ?_)
  refine rO rfl (oM rfl ?_)
  refine Reg.splitX rfl rfl (fun hg=>?_) fun hg=>?_
  ·refine Reg.on rfl rfl rfl (oM rfl ?_)
   refine Reg.on rfl rfl rfl (oM rfl ?_)
   refine Reg.on rfl rfl rfl (Ope.lt rfl rfl ?_)
   refine rO rfl (Ope.pickT rfl rfl ?_)
   refine rO rfl (oA rfl ?_)
   refine rI (Run.ret (fin_ret (.tmp rfl .nil) rfl ?_))
   (simp [*];first | done | rfl | omega)
  ·refine Reg.off rfl rfl rfl (Reg.off rfl rfl rfl (Reg.off rfl rfl rfl (rO rfl (Ope.pickF rfl rfl ?_))))
   refine rO rfl (oA rfl ?_)
   refine rI (Run.ret (fin_ret (.tmp rfl .nil) rfl ?_))
   (simp [*];first | done | rfl | omega)
def Spn.v (e:Spn):PV:=.agg [I e.lo,I e.hi]
theorem f70 (e:Spn):Fn P0 70 [e.v] e.v:=by
  refine PFun.of (C:=c70) (cx_ok _ _ _) rfl (fn:=Tryz.f70) (by kernel_rfl) (c:=_) rfl rfl rfl ?_
  refine rS (rN (cx_ok _ _ _) (rO rfl (Ope.boxF rfl rfl ?_)))
  refine rO rfl (Ope.newL rfl ?_)
  refine rI (rS (rN (cx_ok _ _ _) (rO rfl (Ope.fld rfl rfl ?_))))
  refine rO rfl (oL rfl rfl ?_)
  refine rO rfl (Ope.fld rfl rfl ?_)
  refine rO rfl (oL rfl rfl ?_)
  refine rO rfl (Ope.bld rfl rfl ?_)
  refine Reg.op0 (Ope.store rfl rfl rfl rfl rfl rfl ?_)
  exact rI (Run.ret (fin_ret (.cell rfl rfl .nil) rfl rfl))
theorem isum_snoc (l:List Int) (x:Int):isum (l++[x])=isum l+x:=by rw [isum_app];simp [isum]
theorem f98 (tl:Tail) (l:List Int) (hl:l.length≤1000) (hb:∀ x∈l,0≤x∧x≤1000000):Fn P0 98 [.sl tl (l.map I)] (I (isum l)):=by
  refine PFun.of (C:=c98) (cx_ok _ _ _) rfl (fn:=Tryz.f98) (by kernel_rfl) (c:=_) rfl rfl rfl ?_
  refine rS (rN (cx_ok _ _ _) (rO rfl (oA rfl ?_)))
  refine rI (rS (rN (cx_ok _ _ _) (rO rfl (oA rfl ?_))))
  refine rI (rS (rS (rN (cx_ok _ _ _) (rO rfl (oM rfl ?_)))))
  refine rO rfl (Ope.len (m:=l.length) rfl (by simp) ?_)
  refine rO rfl (oM rfl ?_)
  refine rI (Run.block (Run.loop (α:=Nat) (fun i=>[(3,I (isum (l.take i))),(6,.sl tl (l.map I)),(7,I l.length),(8,I i)]) (fun _=>HE 0 []) (fun i=>i≤l.length) (fun i=>l.length - i) 0 ⟨rfl,rfl,rfl,rfl,trivial⟩ rfl (Nat.zero_le _) (fun i hi=>?_)))
  refine rS (rN (cx_ok _ _ _) (rO rfl (Ope.lt rfl rfl ?_)))
  refine rI (rS (rC rfl (fun hc=>?_) fun hc=>?_))
  ·refine Run.skip (rS (Run.block (rS ?_)))
   have hlt:i < l.length:=by omega
   have h1:=isum_bd (m:=1000000) (by decide) (l:=l.take i) fun x hx=>hb x (List.mem_of_mem_take hx)
   rw [List.length_take] at h1
   have h2:=hb l[i] (List.getElem_mem hlt)
   have es:isum (l.take (i+1))=isum (l.take i)+l[i]:=by rw [List.take_succ_eq_append_getElem hlt,isum_snoc]
   refine rN (cx_ok _ _ _) (rO rfl (Ope.idxM (m:=i) (f:=I) rfl rfl rfl hlt (fun _=>rfl) ?_))
   refine rO rfl (oL rfl rfl ?_)
   refine rO rfl (oA rfl ?_)
   refine rI (rN (cx_ok _ _ _) (rO rfl (oM rfl ?_)))
   refine rO rfl (oM rfl ?_)
   refine rO rfl (Ope.add rfl rfl (by omega) ?_)
   refine rO rfl (oA rfl ?_)
   refine rI (Run.bend (rN (cx_ok _ _ _) (rO rfl (Ope.add rfl rfl (by omega) ?_))))
   refine rO rfl (oM rfl ?_)
   exact rI (Run.lend ⟨i+1,by omega,by show i+1≤l.length;omega,⟨by rw [es];rfl,rfl,rfl,rfl,trivial⟩,rfl,rfl⟩)
  ·refine Run.exit (Jmp.code (Jmp.round (Jmp.here (rS ?_))))
   obtain rfl:i=l.length:=by omega
   rw [List.take_length]
   refine rN (cx_ok _ _ _) (rO rfl (oM rfl ?_))
   refine rO rfl (oA rfl ?_)
   exact rI (Run.ret (fin_ret (.tmp rfl .nil) rfl rfl))
theorem f87 (a b:Spn) (ha:(0≤a.lo∧a.lo≤1000000)∧(0≤a.hi∧a.hi≤1000000)) (hb:(0≤b.lo∧b.lo≤1000000)∧(0≤b.hi∧b.hi≤1000000)):Fn P0 87 [a.v,b.v] (a.add b).v:=by
  have h1:=f98 .ex [a.lo,b.lo] (by simp) (by simp;omega)
  have h2:=f98 .ex [a.hi,b.hi] (by simp) (by simp;omega)
  have e1:isum [a.lo,b.lo]=a.lo+b.lo:=by simp [isum]
  have e2:isum [a.hi,b.hi]=a.hi+b.hi:=by simp [isum]
  rw [e1] at h1
  rw [e2] at h2
  refine PFun.of (C:=c87) (cx_ok _ _ _) rfl (fn:=Tryz.f87) (by kernel_rfl) (c:=_) rfl rfl rfl ?_
  refine rS (rN (cx_ok _ _ _) (rO rfl (Ope.boxF rfl rfl ?_)))
  refine rO rfl (Ope.boxF rfl rfl ?_)
  refine rO rfl (Ope.newL rfl ?_)
  refine rI (rS (Run.draw (cx_ok _ _ _) [(0,true),(1,true),(2,true),(3,true),(4,true),(6,true),(7,false),(8,true),(9,false),(10,true),(5,true),(11,true),(12,true),(13,true)] (by kernel_rfl) (dO rfl rfl rfl .sure (Ope.fld rfl rfl ?_))))
  refine dO rfl rfl rfl .sure (oL rfl rfl ?_)
  refine dO rfl rfl rfl .sure (Ope.fld rfl rfl ?_)
  refine dO rfl rfl rfl .sure (oL rfl rfl ?_)
  refine dO rfl rfl rfl .sure (Ope.bsl rfl rfl rfl rfl ?_)
  refine dO rfl rfl rfl .sure (Ope.fld rfl rfl ?_)
  refine dO rfl rfl rfl (.load rfl) (oL rfl rfl ?_)
  refine dO rfl rfl rfl .sure (Ope.fld rfl rfl ?_)
  refine dO rfl rfl rfl (.load rfl) (oL rfl rfl ?_)
  refine dO rfl rfl rfl .sure (Ope.bsl rfl rfl rfl rfl ?_)
  refine dO rfl rfl rfl .sure (Ope.cf rfl rfl (h1) rfl ?_)
  refine dO rfl rfl rfl .sure (Ope.cf rfl rfl (h2) rfl ?_)
  refine dO rfl rfl rfl .sure (Ope.bld rfl rfl ?_)
  refine dO rfl rfl rfl .sure (Ope.store rfl rfl rfl rfl rfl rfl ?_)
  exact Dra.nil (Run.ret (fin_ret (.cell rfl rfl .nil) rfl rfl))
theorem f111 (a b:Spn):Fn P0 111 [a.v,b.v] (a.hull b).v:=by
  refine PFun.of (C:=c111) (cx_ok _ _ _) rfl (fn:=Tryz.f111) (by kernel_rfl) (c:=_) rfl rfl rfl ?_
  refine rS (rN (cx_ok _ _ _) (rO rfl (Ope.boxF rfl rfl ?_)))
  refine rO rfl (Ope.boxF rfl rfl ?_)
  refine rO rfl (Ope.newL rfl ?_)
  refine rI (rS (rN (cx_ok _ _ _) (rO rfl (Ope.fld rfl rfl ?_))))
  refine rO rfl (oL rfl rfl ?_)
  refine rO rfl (Ope.fld rfl rfl ?_)
  refine rO rfl (oL rfl rfl ?_)
  refine rO rfl (Ope.minI rfl rfl ?_)
  refine rO rfl (Ope.fld rfl rfl ?_)
  refine rO rfl (oL rfl rfl ?_)
  refine rO rfl (Ope.fld rfl rfl ?_)
  refine rO rfl (oL rfl rfl ?_)
  refine rO rfl (Ope.maxI rfl rfl ?_)
  refine rO rfl (Ope.bld rfl rfl ?_)
  refine Reg.op0 (Ope.store rfl rfl rfl rfl rfl rfl ?_)
  exact rI (Run.ret (fin_ret (.cell rfl rfl .nil) rfl rfl))
theorem f76 (a b:Deed):Fn P0 76 [a.v,b.v] (B (bef a b)):=by
  refine PFun.of (C:=c76) (cx_ok _ _ _) rfl (fn:=Tryz.f76) (by kernel_rfl) (c:=_) rfl rfl rfl ?_
  refine rS (rN (cx_ok _ _ _) (rO rfl (Ope.boxF rfl rfl ?_)))
  refine rO rfl (Ope.boxF rfl rfl ?_)
  refine rO rfl (oA rfl ?_)
  refine rI (rS (rS (rN (cx_ok _ _ _) (rO rfl (Ope.fld rfl rfl ?_)))))
  refine rO rfl (oL rfl rfl ?_)
  refine rO rfl (Ope.fld rfl rfl ?_)
  refine rO rfl (oL rfl rfl ?_)
  refine rO rfl (Ope.ne rfl rfl ?_)
  refine rI (rC rfl (fun hc=>?_) fun hc=>?_)
  ·refine rS (rN (cx_ok _ _ _) (rO rfl (Ope.fld rfl rfl ?_)))
   refine rO rfl (oL rfl rfl ?_)
   refine rO rfl (Ope.fld rfl rfl ?_)
   refine rO rfl (oL rfl rfl ?_)
   refine rO rfl (Ope.lt rfl rfl ?_)
   refine rO rfl (oA rfl ?_)
   refine rI (Run.ret (Jmp.code (fin_ret (.tmp rfl .nil) rfl ?_)))
   (unfold bef;first | (rw [if_neg (by assumption)];rfl) | (rw [if_pos (by omega)];exact congrArg (fun x=>B x) (by simp)))
  ·refine Run.skip (rS (rN (cx_ok _ _ _) (rO rfl (Ope.fld rfl rfl ?_))))
   refine rO rfl (oL rfl rfl ?_)
   refine rO rfl (Ope.fld rfl rfl ?_)
   refine rO rfl (oL rfl rfl ?_)
   refine rO rfl (Ope.lt rfl rfl ?_)
   refine rO rfl (oA rfl ?_)
   refine rI (Run.ret (fin_ret (.tmp rfl .nil) rfl ?_))
   (unfold bef;first | (rw [if_neg (by assumption)];rfl) | (rw [if_pos (by omega)];exact congrArg (fun x=>B x) (by simp)))
theorem f152 (r:Int) (d:Deed) (c:Int):Fn P0 152 [.agg [I r],d.v,I c] (I (if d.ri=r then c else 0)):=by
  refine PFun.of (C:=c152) (cx_ok _ _ _) rfl (fn:=Tryz.f152) (by kernel_rfl) (c:=_) rfl rfl rfl ?_
  refine rS (rN (cx_ok _ _ _) (rO rfl (Ope.boxF rfl rfl ?_)))
  refine rO rfl (Ope.boxF rfl rfl ?_)
  refine rO rfl (oA rfl ?_)
  refine rI (rS (rS (rN (cx_ok _ _ _) (rO rfl (Ope.fld rfl rfl ?_)))))
  refine rO rfl (oL rfl rfl ?_)
  refine rO rfl (Ope.fld rfl rfl ?_)
  refine rO rfl (oL rfl rfl ?_)
  refine rO rfl (Ope.ne rfl rfl ?_)
  refine rI (rC rfl (fun hc=>?_) fun hc=>?_)
  ·refine rS (rN (cx_ok _ _ _) (rO rfl (oA rfl ?_)))
   refine rI (Run.ret (Jmp.code (fin_ret (.tmp rfl .nil) rfl ?_)))
   (first | (rw [if_neg (by assumption)];rfl) | (rw [if_pos (by omega)];rfl))
  ·refine Run.skip (rS (rN (cx_ok _ _ _) (rO rfl (oM rfl ?_))))
   refine rO rfl (oA rfl ?_)
   refine rI (Run.ret (fin_ret (.tmp rfl .nil) rfl ?_))
   (first | (rw [if_neg (by assumption)];rfl) | (rw [if_pos (by omega)];rfl))
def part (r:Int):Int:=if r % 2=0 then r+1 else r - 1
theorem f153 (r:Int) (h:0≤r∧r < 6):Fn P0 153 [.agg [I r]] (I (part r)):=by
  rcases (by omega:r=0∨r=1∨r=2∨r=3∨r=4∨r=5) with rfl | rfl | rfl | rfl | rfl | rfl
  all_goals
    refine PFun.of (C:=c153) (cx_ok _ _ _) rfl (fn:=Tryz.f153) (by kernel_rfl) (c:=_) rfl rfl rfl ?_
    refine rS (rN (cx_ok _ _ _) (rO rfl (Ope.boxF rfl rfl ?_)))
    refine rO rfl (oA rfl ?_)
    refine rI (rS (rN (cx_ok _ _ _) (rO rfl (Ope.fld rfl rfl ?_))))
    refine rO rfl (oL rfl rfl ?_)
    refine rO rfl (Ope.bin rfl rfl rfl ?_)
    refine rO rfl (oA rfl ?_)
    exact rI (Run.ret (fin_ret (.tmp rfl .nil) rfl rfl))
theorem f151 (S:Nat) (hS:S < 64) (d:Deed) (hd:d.nu < 5) (c:Int) (hc:0≤c∧c≤1000):Fn P0 151 [.agg [N S],d.v,I c] (I (if S.testBit d.nu=true then c else 0)):=by
  have h1:S >>> d.nu≤S:=Nat.shiftRight_le _ _
  have h2:S >>> d.nu &&& 1=if S.testBit d.nu=true then 1 else 0:=by
    rw [Nat.testBit,Nat.and_comm 1 (S >>> d.nu),Nat.and_one_is_mod]
    rcases Nat.mod_two_eq_zero_or_one (S >>> d.nu) with h | h<;>simp [h]
  obtain ⟨kd,nu,ri,ho⟩:=d
  simp only at hd h1 h2 ⊢
  generalize S.testBit nu=b at *
  refine PFun.of (C:=c151) (cx_ok _ _ _) rfl (fn:=Tryz.f151) (by kernel_rfl) (c:=_) rfl rfl rfl ?_
  refine rS (rN (cx_ok _ _ _) (rO rfl (Ope.boxF rfl rfl ?_)))
  refine rO rfl (Ope.boxF rfl rfl ?_)
  refine rO rfl (oA rfl ?_)
  refine rI (rS (rN (cx_ok _ _ _) (rO rfl (oM rfl ?_))))
  refine rO rfl (Ope.fld rfl rfl ?_)
  refine rO rfl (oL rfl rfl ?_)
  refine rO rfl (Ope.fld rfl rfl ?_)
  refine rO rfl (oL rfl rfl ?_)
  refine rO rfl (Ope.shrN (p:=S) (m:=nu) rfl rfl rfl rfl (by show nu≤64;omega) ?_)
  refine rO rfl (Ope.andN (p:=S >>> nu) (q:=1) rfl rfl rfl rfl (by show S >>> nu < 2 ^ 64;omega) (by decide) ?_)
  refine rO rfl (Ope.mul rfl rfl (by rw [h2];cases b<;>simp<;>omega) ?_)
  refine rO rfl (oA rfl ?_)
  refine rI (Run.ret (fin_ret (.tmp rfl .nil) rfl ?_))
  (rw [h2];cases b<;>simp [pone])
theorem f154 (r:Int) (h:0≤r∧r < 6) (d:Deed) (c:Int) (hc:0≤c∧c≤1000):Fn P0 154 [.agg [I r],d.v,I c] (I (((if d.ri=r then c else 0)+1) / 2+(if d.ri=part r then c else 0) / 2)):=by
  have h1:=f152 r d c
  have h2:=f152 (part r) d c
  have h3:=f153 r h
  have ha:0≤(if d.ri=r then c else 0)∧(if d.ri=r then c else 0)≤1000:=by split<;>omega
  have hb:0≤(if d.ri=part r then c else 0)∧(if d.ri=part r then c else 0)≤1000:=by split<;>omega
  generalize (if d.ri=r then c else 0)=a at *
  generalize (if d.ri=part r then c else 0)=b at *
  generalize part r=r' at *
  obtain ⟨p,rfl⟩:∃ p:Nat,a=(p:Int):=⟨a.toNat,by omega⟩
  obtain ⟨q,rfl⟩:∃ q:Nat,b=(q:Int):=⟨b.toNat,by omega⟩
  have e3:((((p+1) / 2:Nat):Int)+((q / 2:Nat):Int))=((p:Int)+1) / 2+(q:Int) / 2:=by omega
  rw [← e3]
  refine PFun.of (C:=c154) (cx_ok _ _ _) rfl (fn:=Tryz.f154) (by kernel_rfl) (c:=_) rfl rfl rfl ?_
  refine rS (rN (cx_ok _ _ _) (rO rfl (Ope.boxF rfl rfl ?_)))
  refine rO rfl (Ope.boxF rfl rfl ?_)
  refine rO rfl (oA rfl ?_)
  refine rI (rS (Run.draw (cx_ok _ _ _) [(0,true),(1,true),(2,true),(3,true),(5,true),(6,false),(9,false),(10,true),(4,true),(7,true),(8,true),(11,true),(12,true),(13,true)] (by kernel_rfl) (dO rfl rfl rfl .sure (Ope.fld rfl rfl ?_))))
  refine dO rfl rfl rfl .sure (oL rfl rfl ?_)
  refine dO rfl rfl rfl .sure (oL rfl rfl ?_)
  refine dO rfl rfl rfl .sure (oM rfl ?_)
  refine dO rfl rfl rfl .sure (Ope.fld rfl rfl ?_)
  refine dO rfl rfl rfl (.load rfl) (oL rfl rfl ?_)
  refine dO rfl rfl rfl (.load rfl) (oL rfl rfl ?_)
  refine dO rfl rfl rfl .sure (oM rfl ?_)
  refine dO rfl rfl rfl .sure (Ope.cf rfl rfl (h1) rfl ?_)
  refine dO rfl rfl rfl .sure (Ope.cf rfl rfl (h3) rfl ?_)
  refine dO rfl rfl rfl .sure (Ope.bld rfl rfl ?_)
  refine dO rfl rfl rfl .sure (Ope.cf rfl rfl (h2) rfl ?_)
  refine dO rfl rfl rfl .sure (oA rfl ?_)
  refine dO rfl rfl rfl .sure (oA rfl ?_)
  refine Dra.nil (rS (rN (cx_ok _ _ _) (rO rfl (oM rfl ?_))))
  refine rO rfl (Ope.add rfl rfl (by omega) ?_)
  refine rO rfl (Ope.quoN (p:=p+1) (q:=2) rfl rfl rfl rfl (by decide) (by show p+1 < 2 ^ 63;omega) ?_)
  refine rO rfl (oM rfl ?_)
  refine rO rfl (Ope.quoN (p:=q) (q:=2) rfl rfl rfl rfl (by decide) (by show q < 2 ^ 63;omega) ?_)
  refine rO rfl (Ope.add rfl rfl (by omega) ?_)
  refine rO rfl (oA rfl ?_)
  exact rI (Run.ret (fin_ret (.tmp rfl .nil) rfl rfl))
end Go.Pv
namespace Go.Pv
open Go.Proofs Go.Am
set_option maxRecDepth 10000
theorem bds_cons {v:PV} {vs:List PV} (h:PV.bd 0 v=true) (h':PV.bds 0 vs=true):PV.bds 0 (v::vs)=true:=by
  simp only [PV.bds,h,h',Bool.and_self]
theorem bd_fns (f:Fns) {t1 t2:Tail} (h1:t1.isOwn=false) (h2:t2.isOwn=false):PV.bd 0 (f.v t1 t2)=true:=by
  have a:=bd_sl (f:=Rul.v) h1 (fun _=>rfl) f.ru
  have b:=bd_sl (f:=Ofc.v) h2 (fun _=>rfl) f.li
  simp only [PV.bd,PV.bds] at a b ⊢
  rw [a,b];rfl
theorem bd_fnsV (f:Fns) {t1 t2:Tail} (h1:t1.isOwn=false) (h2:t2.isOwn=false) {vs:List PV} (h:PV.bds 0 vs=true):PV.bds 0 (f.v t1 t2::vs)=true:=bds_cons (bd_fns f h1 h2) h
def Rul.B (r:Rul):Bool:=upB 1000 r.ba && (upB 1000 r.st && (upB 1000 r.mo && upB 144 r.wi))
theorem f85 (r:Rul):Fn P0 85 [r.v] (B r.B):=by
  obtain ⟨ba,st,mo,wi⟩:=r
  unfold Rul.B
  simp only
  refine PFun.of (C:=c85) (cx_ok _ _ _) rfl (fn:=Tryz.f85) (by kernel_rfl) (c:=_) rfl rfl rfl ?_
  refine rS (rN (cx_ok _ _ _) (rO rfl (Ope.boxF rfl rfl ?_)))
  refine rO rfl (oA rfl ?_)
  refine rI (rS (rN (cx_ok _ _ _) (rO rfl (Ope.fld rfl rfl ?_))))
  refine rO rfl (oL rfl rfl ?_)
  refine rO rfl (Ope.cf rfl rfl (f74 1000 ba) rfl ?_)
  refine rO rfl (oM rfl ?_)
  refine Reg.splitX rfl rfl (fun hg=>?_) fun hg=>?_
  ·refine Reg.on rfl rfl rfl (Ope.fld rfl rfl ?_)
   refine Reg.on rfl rfl rfl (oL rfl rfl ?_)
   refine Reg.on rfl rfl rfl (Ope.cf rfl rfl (f74 1000 st) rfl ?_)
   refine rO rfl (Ope.pickT rfl rfl ?_)
   refine rO rfl (oM rfl ?_)
   refine Reg.splitX rfl rfl (fun hg=>?_) fun hg=>?_
   ·refine Reg.on rfl rfl rfl (Ope.fld rfl rfl ?_)
    refine Reg.on rfl rfl rfl (oL rfl rfl ?_)
    refine Reg.on rfl rfl rfl (Ope.cf rfl rfl (f74 1000 mo) rfl ?_)
    refine rO rfl (Ope.pickT rfl rfl ?_)
    refine rO rfl (oM rfl ?_)
    refine Reg.splitX rfl rfl (fun hg=>?_) fun hg=>?_
    ·refine Reg.on rfl rfl rfl (Ope.fld rfl rfl ?_)
     refine Reg.on rfl rfl rfl (oL rfl rfl ?_)
     refine Reg.on rfl rfl rfl (Ope.cf rfl rfl (f74 144 wi) rfl ?_)
     refine rO rfl (Ope.pickT rfl rfl ?_)
     refine rO rfl (oA rfl ?_)
     refine rI (Run.ret (fin_ret (.tmp rfl .nil) rfl ?_))
     (simp [*];first | done | rfl)
    ·refine Reg.off rfl rfl rfl (Reg.off rfl rfl rfl (Reg.off rfl rfl rfl (rO rfl (Ope.pickF rfl rfl ?_))))
     refine rO rfl (oA rfl ?_)
     refine rI (Run.ret (fin_ret (.tmp rfl .nil) rfl ?_))
     (simp [*];first | done | rfl)
   ·refine Reg.off rfl rfl rfl (Reg.off rfl rfl rfl (Reg.off rfl rfl rfl (rO rfl (Ope.pickF rfl rfl ?_))))
    refine rO rfl (oM rfl ?_)
    refine Reg.off rfl rfl rfl (Reg.off rfl rfl rfl (Reg.off rfl rfl rfl (rO rfl (Ope.pickF rfl rfl ?_))))
    refine rO rfl (oA rfl ?_)
    refine rI (Run.ret (fin_ret (.tmp rfl .nil) rfl ?_))
    (simp [*];first | done | rfl)
  ·refine Reg.off rfl rfl rfl (Reg.off rfl rfl rfl (Reg.off rfl rfl rfl (rO rfl (Ope.pickF rfl rfl ?_))))
   refine rO rfl (oM rfl ?_)
   refine Reg.off rfl rfl rfl (Reg.off rfl rfl rfl (Reg.off rfl rfl rfl (rO rfl (Ope.pickF rfl rfl ?_))))
   refine rO rfl (oM rfl ?_)
   refine Reg.off rfl rfl rfl (Reg.off rfl rfl rfl (Reg.off rfl rfl rfl (rO rfl (Ope.pickF rfl rfl ?_))))
   refine rO rfl (oA rfl ?_)
   refine rI (Run.ret (fin_ret (.tmp rfl .nil) rfl ?_))
   (simp [*];first | done | rfl)
def Ofc.B (m:Int) (n:Int) (o:Ofc):Bool :=
  numB m o.kd && (decide (0 < o.ri) && (numB (2 ^ n.toNat) o.ri && (decide (0≤o.lo) && (decide (o.lo≤o.hi) && (decide (o.hi≤144) && decide (o.hi - o.lo≤2))))))
section
variable (f:Fns) {t1 t2:Tail} (h1:t1.isOwn=false) (h2:t2.isOwn=false)
include h1 h2
theorem f47 (r:Int):Fn P0 47 [f.v t1 t2,I r] (B (numB f.n r)):=by
  have h:=f40 f.n r
  refine PFun.of (C:=c47) (cx_ok _ _ _) rfl (fn:=Tryz.f47) (by kernel_rfl) (c:=_) rfl rfl rfl ?_
  refine rS (rN (cx_ok _ _ _) (rO rfl (Ope.boxF rfl rfl ?_)))
  refine rO rfl (oA rfl ?_)
  refine rI (rS (rN (cx_ok _ _ _) (rO rfl (Ope.fld rfl rfl ?_))))
  refine rO rfl (oL rfl rfl ?_)
  refine rO rfl (oM rfl ?_)
  refine rO rfl (Ope.cf rfl rfl (h) rfl ?_)
  refine rO rfl (oA rfl ?_)
  exact rI (Run.ret (fin_ret (.tmp rfl .nil) rfl rfl))
theorem f86 (hm : f.ru.length ≤ 4) (hn : f.n = 2 ∨ f.n = 4 ∨ f.n = 6) (o : Ofc) : Fn P0 86 [f.v t1 t2, o.v] (B (o.B f.ru.length f.n)) := by
  obtain ⟨kd,ri,lo,hi⟩:=o
  obtain ⟨ru,n,li⟩:=f
  unfold Ofc.B
  simp only at hm hn ⊢
  obtain ⟨k,hk,hk6⟩:∃ k:Nat,n=(k:Int)∧k≤6:=⟨n.toNat,by omega,by omega⟩
  subst hk
  have hp:2 ^ k≤2 ^ 6:=Nat.pow_le_pow_right (by decide) hk6
  have e2:(2:Int) ^ (k:Int).toNat=((1 * 2 ^ k:Nat):Int):=by rw [Int.toNat_natCast];push_cast;omega
  rw [e2]
  have hc1:=f40 ru.length kd
  have hc2:=f40 ((1 * 2 ^ k:Nat):Int) ri
  have hlt:1 * 2 ^ k < 9223372036854775808:=by omega
  generalize numB ((1 * 2 ^ k:Nat):Int) ri=bq at *
  refine PFun.of (C:=c86) (cx_ok _ _ _) rfl (fn:=Tryz.f86) (by kernel_rfl) (c:=_) rfl rfl rfl ?_
  refine rS (rN (cx_ok _ _ _) (rO rfl (Ope.boxF rfl rfl ?_)))
  refine rO rfl (Ope.boxF rfl rfl ?_)
  refine rO rfl (oA rfl ?_)
  refine rI (rS (Run.draw (cx_ok _ _ _) [(0,true),(1,true),(2,true),(3,true),(4,true),(5,true),(6,true),(7,true),(8,true),(9,true),(10,true),(11,true),(12,true),(13,true),(14,true),(15,true),(16,true),(17,true),(18,true),(19,true),(20,true),(21,true),(22,true),(23,true),(24,true),(25,true),(26,true),(27,true),(28,true),(29,true),(30,true),(31,true),(32,true),(33,true),(34,true),(35,true),(36,true),(37,true),(38,true),(39,true),(40,true),(41,true),(42,true),(43,true),(44,true),(45,true),(46,true),(47,true),(48,true),(49,true),(50,true)] (by kernel_rfl) (dO rfl rfl rfl .sure (Ope.fld rfl rfl ?_))))
  refine dO rfl rfl rfl .sure (oL rfl rfl ?_)
  refine dO rfl rfl rfl .sure (Ope.len (m:=ru.length) rfl (by simp) ?_)
  refine dO rfl rfl rfl .sure (Ope.fld rfl rfl ?_)
  refine dO rfl rfl rfl .sure (oL rfl rfl ?_)
  refine dO rfl rfl rfl .sure (Ope.cf rfl rfl (hc1) rfl ?_)
  refine dO rfl rfl rfl .sure (oM rfl ?_)
  refine Dra.splitX rfl rfl rfl rfl (fun hg=>?_) fun hg=>?_
  ·refine Dra.on' rfl rfl rfl rfl rfl .sure (Ope.fld rfl rfl ?_)
   refine Dra.on' rfl rfl rfl rfl rfl .sure (oL rfl rfl ?_)
   refine Dra.on' rfl rfl rfl rfl rfl .sure (Ope.gt rfl rfl ?_)
   refine dO rfl rfl rfl .sure (Ope.pickT rfl rfl ?_)
   refine dO rfl rfl rfl .sure (oM rfl ?_)
   refine Dra.splitX rfl rfl rfl rfl (fun hg=>?_) fun hg=>?_
   ·refine Dra.on' rfl rfl rfl rfl rfl .sure (Ope.fld rfl rfl ?_)
    refine Dra.on' rfl rfl rfl rfl rfl .sure (oL rfl rfl ?_)
    refine Dra.on' rfl rfl rfl rfl rfl .sure (Ope.shlN (p:=1) (m:=k) rfl rfl rfl rfl (by omega) (by omega) ?_)
    refine Dra.on' rfl rfl rfl rfl rfl .sure (Ope.fld rfl rfl ?_)
    refine Dra.on' rfl rfl rfl rfl rfl .sure (oL rfl rfl ?_)
    refine Dra.on' rfl rfl rfl rfl rfl .sure (Ope.cf rfl rfl (hc2) rfl ?_)
    refine dO rfl rfl rfl .sure (Ope.pickT rfl rfl ?_)
    refine dO rfl rfl rfl .sure (oM rfl ?_)
    refine Dra.splitX rfl rfl rfl rfl (fun hg=>?_) fun hg=>?_
    ·refine Dra.on' rfl rfl rfl rfl rfl .sure (Ope.fld rfl rfl ?_)
     refine Dra.on' rfl rfl rfl rfl rfl .sure (Ope.fld rfl rfl ?_)
     refine Dra.on' rfl rfl rfl rfl rfl .sure (oL rfl rfl ?_)
     refine Dra.on' rfl rfl rfl rfl rfl .sure (Ope.ge rfl rfl ?_)
     refine dO rfl rfl rfl .sure (Ope.pickT rfl rfl ?_)
     refine dO rfl rfl rfl .sure (oM rfl ?_)
     refine Dra.splitX rfl rfl rfl rfl (fun hg=>?_) fun hg=>?_
     ·refine Dra.on' rfl rfl rfl rfl rfl .sure (Ope.fld rfl rfl ?_)
      refine Dra.on' rfl rfl rfl rfl rfl .sure (Ope.fld rfl rfl ?_)
      refine Dra.on' rfl rfl rfl rfl rfl .sure (oL rfl rfl ?_)
      refine Dra.on' rfl rfl rfl rfl rfl .sure (Ope.fld rfl rfl ?_)
      refine Dra.on' rfl rfl rfl rfl rfl .sure (Ope.fld rfl rfl ?_)
      refine Dra.on' rfl rfl rfl rfl rfl .sure (oL rfl rfl ?_)
      refine Dra.on' rfl rfl rfl rfl rfl .sure (Ope.le rfl rfl ?_)
      refine dO rfl rfl rfl .sure (Ope.pickT rfl rfl ?_)
      refine dO rfl rfl rfl .sure (oM rfl ?_)
      refine Dra.splitX rfl rfl rfl rfl (fun hg=>?_) fun hg=>?_
      ·refine Dra.on' rfl rfl rfl rfl rfl .sure (Ope.fld rfl rfl ?_)
       refine Dra.on' rfl rfl rfl rfl rfl .sure (Ope.fld rfl rfl ?_)
       refine Dra.on' rfl rfl rfl rfl rfl .sure (oL rfl rfl ?_)
       refine Dra.on' rfl rfl rfl rfl rfl .sure (Ope.le rfl rfl ?_)
       refine dO rfl rfl rfl .sure (Ope.pickT rfl rfl ?_)
       refine dO rfl rfl rfl .sure (oM rfl ?_)
       refine Dra.splitX rfl rfl rfl rfl (fun hg=>?_) fun hg=>?_
       ·refine Dra.on' rfl rfl rfl rfl rfl .sure (Ope.fld rfl rfl ?_)
        refine Dra.on' rfl rfl rfl rfl rfl .sure (Ope.fld rfl rfl ?_)
        refine Dra.on' rfl rfl rfl rfl rfl .sure (oL rfl rfl ?_)
        refine Dra.on' rfl rfl rfl rfl rfl .sure (Ope.fld rfl rfl ?_)
        refine Dra.on' rfl rfl rfl rfl rfl .sure (Ope.fld rfl rfl ?_)
        refine Dra.on' rfl rfl rfl rfl rfl .sure (oL rfl rfl ?_)
        refine Dra.on' rfl rfl rfl rfl rfl .sure (Ope.sub rfl rfl (by omega) ?_)
        refine Dra.on' rfl rfl rfl rfl rfl .sure (Ope.le rfl rfl ?_)
        refine dO rfl rfl rfl .sure (Ope.pickT rfl rfl ?_)
        refine dO rfl rfl rfl .sure (oA rfl ?_)
        refine Dra.nil (Run.ret (fin_ret (.tmp rfl .nil) rfl ?_))
        (simp [*];first | done | rfl)
       ·refine dF rfl rfl rfl (.inl rfl) rfl (dF rfl rfl rfl (.inl rfl) rfl (dF rfl rfl rfl (.inl rfl) rfl (dF rfl rfl rfl (.inl rfl) rfl (dF rfl rfl rfl (.inl rfl) rfl (dF rfl rfl rfl (.inl rfl) rfl (dF rfl rfl rfl (.inl rfl) rfl (dF rfl rfl rfl (.inl rfl) rfl (dO rfl rfl rfl .sure (Ope.pickF rfl rfl ?_)))))))))
        refine dO rfl rfl rfl .sure (oA rfl ?_)
        refine Dra.nil (Run.ret (fin_ret (.tmp rfl .nil) rfl ?_))
        (simp [*];first | done | rfl)
      ·refine dF rfl rfl rfl (.inl rfl) rfl (dF rfl rfl rfl (.inl rfl) rfl (dF rfl rfl rfl (.inl rfl) rfl (dF rfl rfl rfl (.inl rfl) rfl (dO rfl rfl rfl .sure (Ope.pickF rfl rfl ?_)))))
       refine dO rfl rfl rfl .sure (oM rfl ?_)
       refine dF rfl rfl rfl (.inl rfl) rfl (dF rfl rfl rfl (.inl rfl) rfl (dF rfl rfl rfl (.inl rfl) rfl (dF rfl rfl rfl (.inl rfl) rfl (dF rfl rfl rfl (.inl rfl) rfl (dF rfl rfl rfl (.inl rfl) rfl (dF rfl rfl rfl (.inl rfl) rfl (dF rfl rfl rfl (.inl rfl) rfl (dO rfl rfl rfl .sure (Ope.pickF rfl rfl ?_)))))))))
       refine dO rfl rfl rfl .sure (oA rfl ?_)
       refine Dra.nil (Run.ret (fin_ret (.tmp rfl .nil) rfl ?_))
       (simp [*];first | done | rfl)
     ·refine dF rfl rfl rfl (.inl rfl) rfl (dF rfl rfl rfl (.inl rfl) rfl (dF rfl rfl rfl (.inl rfl) rfl (dF rfl rfl rfl (.inl rfl) rfl (dF rfl rfl rfl (.inl rfl) rfl (dF rfl rfl rfl (.inl rfl) rfl (dF rfl rfl rfl (.inl rfl) rfl (dO rfl rfl rfl .sure (Ope.pickF rfl rfl ?_))))))))
      refine dO rfl rfl rfl .sure (oM rfl ?_)
      refine dF rfl rfl rfl (.inl rfl) rfl (dF rfl rfl rfl (.inl rfl) rfl (dF rfl rfl rfl (.inl rfl) rfl (dF rfl rfl rfl (.inl rfl) rfl (dO rfl rfl rfl .sure (Ope.pickF rfl rfl ?_)))))
      refine dO rfl rfl rfl .sure (oM rfl ?_)
      refine dF rfl rfl rfl (.inl rfl) rfl (dF rfl rfl rfl (.inl rfl) rfl (dF rfl rfl rfl (.inl rfl) rfl (dF rfl rfl rfl (.inl rfl) rfl (dF rfl rfl rfl (.inl rfl) rfl (dF rfl rfl rfl (.inl rfl) rfl (dF rfl rfl rfl (.inl rfl) rfl (dF rfl rfl rfl (.inl rfl) rfl (dO rfl rfl rfl .sure (Ope.pickF rfl rfl ?_)))))))))
      refine dO rfl rfl rfl .sure (oA rfl ?_)
      refine Dra.nil (Run.ret (fin_ret (.tmp rfl .nil) rfl ?_))
      (simp [*];first | done | rfl)
    ·refine dF rfl rfl rfl (.inl rfl) rfl (dF rfl rfl rfl (.inl rfl) rfl (dF rfl rfl rfl (.inl rfl) rfl (dF rfl rfl rfl (.inl rfl) rfl (dO rfl rfl rfl .sure (Ope.pickF rfl rfl ?_)))))
     refine dO rfl rfl rfl .sure (oM rfl ?_)
     refine dF rfl rfl rfl (.inl rfl) rfl (dF rfl rfl rfl (.inl rfl) rfl (dF rfl rfl rfl (.inl rfl) rfl (dF rfl rfl rfl (.inl rfl) rfl (dF rfl rfl rfl (.inl rfl) rfl (dF rfl rfl rfl (.inl rfl) rfl (dF rfl rfl rfl (.inl rfl) rfl (dO rfl rfl rfl .sure (Ope.pickF rfl rfl ?_))))))))
     refine dO rfl rfl rfl .sure (oM rfl ?_)
     refine dF rfl rfl rfl (.inl rfl) rfl (dF rfl rfl rfl (.inl rfl) rfl (dF rfl rfl rfl (.inl rfl) rfl (dF rfl rfl rfl (.inl rfl) rfl (dO rfl rfl rfl .sure (Ope.pickF rfl rfl ?_)))))
     refine dO rfl rfl rfl .sure (oM rfl ?_)
     refine dF rfl rfl rfl (.inl rfl) rfl (dF rfl rfl rfl (.inl rfl) rfl (dF rfl rfl rfl (.inl rfl) rfl (dF rfl rfl rfl (.inl rfl) rfl (dF rfl rfl rfl (.inl rfl) rfl (dF rfl rfl rfl (.inl rfl) rfl (dF rfl rfl rfl (.inl rfl) rfl (dF rfl rfl rfl (.inl rfl) rfl (dO rfl rfl rfl .sure (Ope.pickF rfl rfl ?_)))))))))
     refine dO rfl rfl rfl .sure (oA rfl ?_)
     refine Dra.nil (Run.ret (fin_ret (.tmp rfl .nil) rfl ?_))
     (simp [*];first | done | rfl)
   ·refine dF rfl rfl rfl (.inl rfl) rfl (dF rfl rfl rfl (.inl rfl) rfl (dF rfl rfl rfl (.inl rfl) rfl (dF rfl rfl rfl (.inl rfl) rfl (dF rfl rfl rfl (.inl rfl) rfl (dF rfl rfl rfl (.inl rfl) rfl (dO rfl rfl rfl .sure (Ope.pickF rfl rfl ?_)))))))
    refine dO rfl rfl rfl .sure (oM rfl ?_)
    refine dF rfl rfl rfl (.inl rfl) rfl (dF rfl rfl rfl (.inl rfl) rfl (dF rfl rfl rfl (.inl rfl) rfl (dF rfl rfl rfl (.inl rfl) rfl (dO rfl rfl rfl .sure (Ope.pickF rfl rfl ?_)))))
    refine dO rfl rfl rfl .sure (oM rfl ?_)
    refine dF rfl rfl rfl (.inl rfl) rfl (dF rfl rfl rfl (.inl rfl) rfl (dF rfl rfl rfl (.inl rfl) rfl (dF rfl rfl rfl (.inl rfl) rfl (dF rfl rfl rfl (.inl rfl) rfl (dF rfl rfl rfl (.inl rfl) rfl (dF rfl rfl rfl (.inl rfl) rfl (dO rfl rfl rfl .sure (Ope.pickF rfl rfl ?_))))))))
    refine dO rfl rfl rfl .sure (oM rfl ?_)
    refine dF rfl rfl rfl (.inl rfl) rfl (dF rfl rfl rfl (.inl rfl) rfl (dF rfl rfl rfl (.inl rfl) rfl (dF rfl rfl rfl (.inl rfl) rfl (dO rfl rfl rfl .sure (Ope.pickF rfl rfl ?_)))))
    refine dO rfl rfl rfl .sure (oM rfl ?_)
    refine dF rfl rfl rfl (.inl rfl) rfl (dF rfl rfl rfl (.inl rfl) rfl (dF rfl rfl rfl (.inl rfl) rfl (dF rfl rfl rfl (.inl rfl) rfl (dF rfl rfl rfl (.inl rfl) rfl (dF rfl rfl rfl (.inl rfl) rfl (dF rfl rfl rfl (.inl rfl) rfl (dF rfl rfl rfl (.inl rfl) rfl (dO rfl rfl rfl .sure (Ope.pickF rfl rfl ?_)))))))))
    refine dO rfl rfl rfl .sure (oA rfl ?_)
    refine Dra.nil (Run.ret (fin_ret (.tmp rfl .nil) rfl ?_))
    (simp [*];first | done | rfl)
  ·refine dF rfl rfl rfl (.inl rfl) rfl (dF rfl rfl rfl (.inl rfl) rfl (dF rfl rfl rfl (.inl rfl) rfl (dO rfl rfl rfl .sure (Ope.pickF rfl rfl ?_))))
   refine dO rfl rfl rfl .sure (oM rfl ?_)
   refine dF rfl rfl rfl (.inl rfl) rfl (dF rfl rfl rfl (.inl rfl) rfl (dF rfl rfl rfl (.inl rfl) rfl (dF rfl rfl rfl (.inl rfl) rfl (dF rfl rfl rfl (.inl rfl) rfl (dF rfl rfl rfl (.inl rfl) rfl (dO rfl rfl rfl .sure (Ope.pickF rfl rfl ?_)))))))
   refine dO rfl rfl rfl .sure (oM rfl ?_)
   refine dF rfl rfl rfl (.inl rfl) rfl (dF rfl rfl rfl (.inl rfl) rfl (dF rfl rfl rfl (.inl rfl) rfl (dF rfl rfl rfl (.inl rfl) rfl (dO rfl rfl rfl .sure (Ope.pickF rfl rfl ?_)))))
   refine dO rfl rfl rfl .sure (oM rfl ?_)
   refine dF rfl rfl rfl (.inl rfl) rfl (dF rfl rfl rfl (.inl rfl) rfl (dF rfl rfl rfl (.inl rfl) rfl (dF rfl rfl rfl (.inl rfl) rfl (dF rfl rfl rfl (.inl rfl) rfl (dF rfl rfl rfl (.inl rfl) rfl (dF rfl rfl rfl (.inl rfl) rfl (dO rfl rfl rfl .sure (Ope.pickF rfl rfl ?_))))))))
   refine dO rfl rfl rfl .sure (oM rfl ?_)
   refine dF rfl rfl rfl (.inl rfl) rfl (dF rfl rfl rfl (.inl rfl) rfl (dF rfl rfl rfl (.inl rfl) rfl (dF rfl rfl rfl (.inl rfl) rfl (dO rfl rfl rfl .sure (Ope.pickF rfl rfl ?_)))))
   refine dO rfl rfl rfl .sure (oM rfl ?_)
   refine dF rfl rfl rfl (.inl rfl) rfl (dF rfl rfl rfl (.inl rfl) rfl (dF rfl rfl rfl (.inl rfl) rfl (dF rfl rfl rfl (.inl rfl) rfl (dF rfl rfl rfl (.inl rfl) rfl (dF rfl rfl rfl (.inl rfl) rfl (dF rfl rfl rfl (.inl rfl) rfl (dF rfl rfl rfl (.inl rfl) rfl (dO rfl rfl rfl .sure (Ope.pickF rfl rfl ?_)))))))))
   refine dO rfl rfl rfl .sure (oA rfl ?_)
   refine Dra.nil (Run.ret (fin_ret (.tmp rfl .nil) rfl ?_))
   (simp [*];first | done | rfl)
def Fns.B (f:Fns):Bool:=(decide (f.ru.length≤4) && decide (f.li.length≤5)) && (decide (f.n=2∨f.n=4∨f.n=6) && (f.ru.all Rul.B && f.li.all (Ofc.B f.ru.length f.n)))
omit h1 h2 in
theorem fns_ok (h:f.B=true):f.ok:=by
  unfold Fns.B at h
  simp only [Bool.and_eq_true,decide_eq_true_eq,List.all_eq_true] at h
  obtain ⟨⟨a1,a2⟩,a3,a4,a5⟩:=h
  refine ⟨a1,a3,a2,fun r hr=>?_,fun o ho=>?_⟩
  · have := a4 r hr
    simp only [Rul.B,upB,Bool.and_eq_true,decide_eq_true_eq] at this
    omega
  · have := a5 o ho
    simp only [Ofc.B,numB,Bool.and_eq_true,decide_eq_true_eq] at this
    obtain ⟨c1,c2,c3,c4,c5,c6,c7⟩:=this
    exact ⟨c1,⟨c2,c3.2⟩,c4,c5,c6,c7⟩
omit h1 h2 in
theorem fns_B (h:f.ok):f.B=true:=by
  unfold Fns.B
  simp only [Bool.and_eq_true,decide_eq_true_eq,List.all_eq_true]
  refine ⟨⟨h.ru,h.li⟩,h.n,fun r hr=>?_,fun o ho=>?_⟩
  · have := h.rv r hr
    simp only [Rul.B,upB,Bool.and_eq_true,decide_eq_true_eq]
    omega
  · obtain ⟨c1, c2, c3⟩ := h.lv o ho
    simp only [Ofc.B,numB,Bool.and_eq_true,decide_eq_true_eq]
    exact ⟨c1,c2.1,⟨by omega,c2.2⟩,c3.1,c3.2.1,c3.2.2.1,c3.2.2.2⟩
omit h1 h2 in
theorem B_big (h:4 < f.ru.length∨5 < f.li.length):f.B=false:=by
  cases hb:f.B with
  | false=>rfl
  | true=>have:=fns_ok f hb;have h1:=this.ru;have h2:=this.li;omega
omit h1 h2 in
theorem B_n (h:¬ (f.n=2∨f.n=4∨f.n=6)):f.B=false:=by
  cases hb:f.B with
  | false=>rfl
  | true=>exact absurd (fns_ok f hb).n h
omit h1 h2 in
theorem B_ru {i:Nat} (hi:i < f.ru.length) (h:(f.ru[i]).B=false):f.B=false:=by
  cases hb:f.B with
  | false=>rfl
  | true =>
    unfold Fns.B at hb
    simp only [Bool.and_eq_true,List.all_eq_true] at hb
    rw [hb.2.2.1 _ (List.getElem_mem hi)] at h;cases h
omit h1 h2 in
theorem B_li {i:Nat} (hi:i < f.li.length) (h:(f.li[i]).B f.ru.length f.n=false):f.B=false:=by
  cases hb:f.B with
  | false=>rfl
  | true =>
    unfold Fns.B at hb
    simp only [Bool.and_eq_true,List.all_eq_true] at hb
    rw [hb.2.2.2 _ (List.getElem_mem hi)] at h;cases h
omit h1 h2 in
theorem B_yes (a1:f.ru.length≤4) (a2:f.li.length≤5) (a3:f.n=2∨f.n=4∨f.n=6) (ha:∀ i (h:i < f.ru.length),(f.ru[i]).B=true) (hb:∀ i (h:i < f.li.length),(f.li[i]).B f.ru.length f.n=true):f.B=true:=by
  unfold Fns.B
  simp only [Bool.and_eq_true,decide_eq_true_eq,List.all_eq_true]
  refine ⟨⟨a1,a2⟩,a3,fun r hr=>?_,fun o ho=>?_⟩
  · obtain ⟨i, hi, rfl⟩ := List.getElem_of_mem hr
    exact ha i hi
  · obtain ⟨i, hi, rfl⟩ := List.getElem_of_mem ho
    exact hb i hi
theorem f68 (hS : f.ru.length ≤ 9223372036854775807) (hJ : f.li.length ≤ 9223372036854775807) : Fn P0 68 [f.v t1 t2] (B f.B) := by
  have hbj:∀ o:Ofc,PV.bds 0 [f.v t1 t2,o.v]=true:=fun o=>bd_fnsV f h1 h2 rfl
  have hbig:=B_big f
  have hbn:=B_n f
  have hsu:=fun {i:Nat} hi=>B_ru f (i:=i) hi
  have hjo:=fun {i:Nat} hi=>B_li f (i:=i) hi
  have hyes:=B_yes f
  have hij:=f86 f h1 h2
  obtain ⟨ru,n,li⟩:=f
  simp only at hbig hbn hsu hjo hyes hij hS hJ
  show Fn P0 68 [.agg [.sl t1 (ru.map Rul.v),I n,.sl t2 (li.map Ofc.v)]] (B (Fns.B ⟨ru,n,li⟩))
  refine PFun.of (C:=c68) (cx_ok _ _ _) rfl (fn:=Tryz.f68) (by kernel_rfl) (c:=_) rfl rfl rfl ?_
  refine rS (rN (cx_ok _ _ _) (rO rfl (Ope.boxF rfl rfl ?_)))
  refine rO rfl (oA rfl ?_)
  refine rI (rS (rS (rN (cx_ok _ _ _) (rO rfl (Ope.fld rfl rfl ?_)))))
  refine rO rfl (oL rfl rfl ?_)
  refine rO rfl (Ope.len (m:=ru.length) rfl (by simp) ?_)
  refine rO rfl (Ope.gt rfl rfl ?_)
  refine rO rfl (oM rfl ?_)
  refine Reg.splitX rfl rfl (fun hg=>?_) fun hg=>?_
  ·refine Reg.off rfl rfl rfl (Reg.off rfl rfl rfl (Reg.off rfl rfl rfl (Reg.off rfl rfl rfl (rO rfl (Ope.pickT rfl rfl ?_)))))
   refine rI (Run.condT rfl (rS (rN (cx_ok _ _ _) (rO rfl (oA rfl ?_)))))
   refine rI (Run.ret (Jmp.code (fin_ret (.tmp rfl .nil) rfl ?_)))
   first
   | (rw [hbig (by omega)];rfl)
   | (rw [hbn (by omega)];rfl)
   | (rw [hsu hlt (by simpa using hc)];rfl)
   | (rw [hjo hlt (by simpa using hc)];rfl)
   | (rw [hyes (by omega) (by omega) (by omega) (fun k hk=>hall k hk hk) (fun k hk=>hallj k hk (by omega))];rfl)
  ·refine Reg.on rfl rfl rfl (Ope.fld rfl rfl ?_)
   refine Reg.on rfl rfl rfl (oL rfl rfl ?_)
   refine Reg.on rfl rfl rfl (Ope.len (m:=li.length) rfl (by simp) ?_)
   refine Reg.on rfl rfl rfl (Ope.gt rfl rfl ?_)
   refine rO rfl (Ope.pickF rfl rfl ?_)
   refine rI (rC rfl (fun hc=>?_) fun hc=>?_)
   ·refine rS (rN (cx_ok _ _ _) (rO rfl (oA rfl ?_)))
    refine rI (Run.ret (Jmp.code (fin_ret (.tmp rfl .nil) rfl ?_)))
    first
    | (rw [hbig (by omega)];rfl)
    | (rw [hbn (by omega)];rfl)
    | (rw [hsu hlt (by simpa using hc)];rfl)
    | (rw [hjo hlt (by simpa using hc)];rfl)
    | (rw [hyes (by omega) (by omega) (by omega) (fun k hk=>hall k hk hk) (fun k hk=>hallj k hk (by omega))];rfl)
   ·refine Run.skip (rS (rS (rN (cx_ok _ _ _) (rO rfl (Ope.fld rfl rfl ?_)))))
    refine rO rfl (oL rfl rfl ?_)
    refine rO rfl (Ope.ne rfl rfl ?_)
    refine rO rfl (oM rfl ?_)
    refine Reg.splitX rfl rfl (fun hg=>?_) fun hg=>?_
    ·refine Reg.on rfl rfl rfl (Ope.fld rfl rfl ?_)
     refine Reg.on rfl rfl rfl (oL rfl rfl ?_)
     refine Reg.on rfl rfl rfl (Ope.ne rfl rfl ?_)
     refine rO rfl (Ope.pickT rfl rfl ?_)
     refine rO rfl (oM rfl ?_)
     refine Reg.splitX rfl rfl (fun hg=>?_) fun hg=>?_
     ·refine Reg.on rfl rfl rfl (Ope.fld rfl rfl ?_)
      refine Reg.on rfl rfl rfl (oL rfl rfl ?_)
      refine Reg.on rfl rfl rfl (Ope.ne rfl rfl ?_)
      refine rO rfl (Ope.pickT rfl rfl ?_)
      refine rI (rC rfl (fun hc=>?_) fun hc=>?_)
      ·refine rS (rN (cx_ok _ _ _) (rO rfl (oA rfl ?_)))
       refine rI (Run.ret (Jmp.code (fin_ret (.tmp rfl .nil) rfl ?_)))
       first
       | (rw [hbig (by omega)];rfl)
       | (rw [hbn (by omega)];rfl)
       | (rw [hsu hlt (by simpa using hc)];rfl)
       | (rw [hjo hlt (by simpa using hc)];rfl)
       | (rw [hyes (by omega) (by omega) (by omega) (fun k hk=>hall k hk hk) (fun k hk=>hallj k hk (by omega))];rfl)
      ·refine Run.skip (rS (rS (rN (cx_ok _ _ _) (rO rfl (Ope.fld rfl rfl ?_)))))
       refine rO rfl (oL rfl rfl ?_)
       refine rO rfl (Ope.len (m:=ru.length) rfl (by simp) ?_)
       refine rO rfl (oM rfl ?_)
       refine rI (Run.block (Run.loop (α:=Nat×Nat) (fun t=>[(1,.fp (.agg [.sl t1 (ru.map Rul.v),I n,.sl t2 (li.map Ofc.v)])),(31,.sl t1 (ru.map Rul.v)),(32,I ru.length),(33,I t.1)]) (fun t=>HE t.2 []) (fun t=>t.1≤ru.length∧∀ k (hk:k < ru.length),k < t.1→(ru[k]).B=true) (fun t=>ru.length - t.1) (0,0) ⟨rfl,rfl,rfl,rfl,trivial⟩ rfl ⟨Nat.zero_le _,fun k _ hk=>absurd hk (Nat.not_lt_zero _)⟩ (fun t ht=>?_)))
       obtain ⟨i,m⟩:=t
       obtain ⟨hi,hall⟩:=ht
       simp only at hi hall
       refine rS (rN (cx_ok _ _ _) (rO rfl (Ope.lt rfl rfl ?_)))
       refine rI (rS (rC rfl (fun hc=>?_) fun hc=>?_))
       ·refine Run.skip (rS (Run.block (rS ?_)))
        have hlt:i < ru.length:=by omega
        refine rN (cx_ok _ _ _) (rO rfl (Ope.idxM (m:=i) (f:=Rul.v) rfl rfl rfl hlt (fun _=>rfl) ?_))
        refine rO rfl (oL rfl rfl ?_)
        refine rO rfl (Ope.newL rfl ?_)
        refine Reg.op0 (Ope.store rfl rfl hget_hd rfl rfl rfl ?_)
        refine rI (rS (Run.frz (d:=4) true rfl hget_hd rfl ?_))
        refine Run.wide (m:=m+1) (l':=[]) (Nat.le_refl _) trivial ?_
        refine rN (cx_ok _ _ _) (rO rfl (oL rfl rfl ?_))
        refine rO rfl (Ope.cf rfl rfl (f85 ru[i]) rfl ?_)
        refine rO rfl (Ope.not rfl ?_)
        refine rI (rC rfl (fun hc=>?_) fun hc=>?_)
        ·refine rS (rN (cx_ok _ _ _) (rO rfl (oA rfl ?_)))
         refine rI (Run.ret (Jmp.retB (Jmp.code (Jmp.round (Jmp.retB (Jmp.code (fin_ret (.tmp rfl .nil) rfl ?_)))))))
         first
         | (rw [hbig (by omega)];rfl)
         | (rw [hbn (by omega)];rfl)
         | (rw [hsu hlt (by simpa using hc)];rfl)
         | (rw [hjo hlt (by simpa using hc)];rfl)
         | (rw [hyes (by omega) (by omega) (by omega) (fun k hk=>hall k hk hk) (fun k hk=>hallj k hk (by omega))];rfl)
        ·refine Run.skip (Run.bend (rN (cx_ok _ _ _) (rO rfl (Ope.add rfl rfl (by omega) ?_))))
         refine rO rfl (oM rfl ?_)
         refine rI ?_
         exact Run.lend ⟨(i+1,m+1),by show ru.length - (i+1) < ru.length - i;omega,⟨by show i+1≤ru.length;omega,fun k hk hki=>by
           by_cases hkk:k=i
           · subst hkk;simpa using hc
           · exact hall k hk (by simp only at hki;omega)⟩,⟨rfl,rfl,rfl,rfl,trivial⟩,rfl,rfl⟩
       ·refine Run.exit (Jmp.code (Jmp.round (Jmp.here (rS (rS ?_)))))
        obtain rfl:i=ru.length:=by omega
        refine rN (cx_ok _ _ _) (rO rfl (Ope.fld rfl rfl ?_))
        refine rO rfl (oL rfl rfl ?_)
        refine rO rfl (Ope.len (m:=li.length) rfl (by simp) ?_)
        refine rO rfl (oM rfl ?_)
        refine rI (Run.block (Run.loop (α:=Nat×Nat) (fun t=>[(1,.fp (.agg [.sl t1 (ru.map Rul.v),I n,.sl t2 (li.map Ofc.v)])),(42,.sl t2 (li.map Ofc.v)),(43,I li.length),(44,I t.1)]) (fun t=>HE t.2 []) (fun t=>t.1≤li.length∧∀ k (hk:k < li.length),k < t.1→(li[k]).B ru.length n=true) (fun t=>li.length - t.1) (0,m) ⟨rfl,rfl,rfl,rfl,trivial⟩ rfl ⟨Nat.zero_le _,fun k _ hk=>absurd hk (Nat.not_lt_zero _)⟩ (fun t ht=>?_)))
        obtain ⟨i,m⟩:=t
        obtain ⟨hi,hallj⟩:=ht
        simp only at hi hallj
        refine rS (rN (cx_ok _ _ _) (rO rfl (Ope.lt rfl rfl ?_)))
        refine rI (rS (rC rfl (fun hc=>?_) fun hc=>?_))
        ·refine Run.skip (rS (Run.block (rS ?_)))
         have hlt:i < li.length:=by omega
         have hji:=hij (by omega) (by omega) li[i]
         refine rN (cx_ok _ _ _) (rO rfl (Ope.idxM (m:=i) (f:=Ofc.v) rfl rfl rfl hlt (fun _=>rfl) ?_))
         refine rO rfl (oL rfl rfl ?_)
         refine rO rfl (Ope.newL rfl ?_)
         refine Reg.op0 (Ope.store rfl rfl hget_hd rfl rfl rfl ?_)
         refine rI (rS (Run.frz (d:=6) true rfl hget_hd rfl ?_))
         refine Run.wide (m:=m+1) (l':=[]) (Nat.le_refl _) trivial ?_
         refine rN (cx_ok _ _ _) (rO rfl (oL rfl rfl ?_))
         refine rO rfl (oL rfl rfl ?_)
         refine rO rfl (Ope.cf rfl rfl hji (hbj _) ?_)
         refine rO rfl (Ope.not rfl ?_)
         refine rI (rC rfl (fun hc=>?_) fun hc=>?_)
         ·refine rS (rN (cx_ok _ _ _) (rO rfl (oA rfl ?_)))
          refine rI (Run.ret (Jmp.retB (Jmp.code (Jmp.round (Jmp.retB (Jmp.code (fin_ret (.tmp rfl .nil) rfl ?_)))))))
          first
          | (rw [hbig (by omega)];rfl)
          | (rw [hbn (by omega)];rfl)
          | (rw [hsu hlt (by simpa using hc)];rfl)
          | (rw [hjo hlt (by simpa using hc)];rfl)
          | (rw [hyes (by omega) (by omega) (by omega) (fun k hk=>hall k hk hk) (fun k hk=>hallj k hk (by omega))];rfl)
         ·refine Run.skip (Run.bend (rN (cx_ok _ _ _) (rO rfl (Ope.add rfl rfl (by omega) ?_))))
          refine rO rfl (oM rfl ?_)
          refine rI ?_
          exact Run.lend ⟨(i+1,m+1),by show li.length - (i+1) < li.length - i;omega,⟨by show i+1≤li.length;omega,fun k hk hki=>by
            by_cases hkk:k=i
            · subst hkk;simpa using hc
            · exact hallj k hk (by simp only at hki;omega)⟩,⟨rfl,rfl,rfl,rfl,trivial⟩,rfl,rfl⟩
        ·refine Run.exit (Jmp.code (Jmp.round (Jmp.here (rS (rN (cx_ok _ _ _) (rO rfl (oA rfl ?_)))))))
         refine rI (Run.ret (fin_ret (.tmp rfl .nil) rfl ?_))
         first
         | (rw [hbig (by omega)];rfl)
         | (rw [hbn (by omega)];rfl)
         | (rw [hsu hlt (by simpa using hc)];rfl)
         | (rw [hjo hlt (by simpa using hc)];rfl)
         | (rw [hyes (by omega) (by omega) (by omega) (fun k hk=>hall k hk hk) (fun k hk=>hallj k hk (by omega))];rfl)
     ·refine Reg.off rfl rfl rfl (Reg.off rfl rfl rfl (Reg.off rfl rfl rfl (rO rfl (Ope.pickF rfl rfl ?_))))
      refine rI (Run.condF rfl (Run.skip (rS (rS (rN (cx_ok _ _ _) (rO rfl (Ope.fld rfl rfl ?_)))))))
      refine rO rfl (oL rfl rfl ?_)
      refine rO rfl (Ope.len (m:=ru.length) rfl (by simp) ?_)
      refine rO rfl (oM rfl ?_)
      refine rI (Run.block (Run.loop (α:=Nat×Nat) (fun t=>[(1,.fp (.agg [.sl t1 (ru.map Rul.v),I n,.sl t2 (li.map Ofc.v)])),(31,.sl t1 (ru.map Rul.v)),(32,I ru.length),(33,I t.1)]) (fun t=>HE t.2 []) (fun t=>t.1≤ru.length∧∀ k (hk:k < ru.length),k < t.1→(ru[k]).B=true) (fun t=>ru.length - t.1) (0,0) ⟨rfl,rfl,rfl,rfl,trivial⟩ rfl ⟨Nat.zero_le _,fun k _ hk=>absurd hk (Nat.not_lt_zero _)⟩ (fun t ht=>?_)))
      obtain ⟨i,m⟩:=t
      obtain ⟨hi,hall⟩:=ht
      simp only at hi hall
      refine rS (rN (cx_ok _ _ _) (rO rfl (Ope.lt rfl rfl ?_)))
      refine rI (rS (rC rfl (fun hc=>?_) fun hc=>?_))
      ·refine Run.skip (rS (Run.block (rS ?_)))
       have hlt:i < ru.length:=by omega
       refine rN (cx_ok _ _ _) (rO rfl (Ope.idxM (m:=i) (f:=Rul.v) rfl rfl rfl hlt (fun _=>rfl) ?_))
       refine rO rfl (oL rfl rfl ?_)
       refine rO rfl (Ope.newL rfl ?_)
       refine Reg.op0 (Ope.store rfl rfl hget_hd rfl rfl rfl ?_)
       refine rI (rS (Run.frz (d:=4) true rfl hget_hd rfl ?_))
       refine Run.wide (m:=m+1) (l':=[]) (Nat.le_refl _) trivial ?_
       refine rN (cx_ok _ _ _) (rO rfl (oL rfl rfl ?_))
       refine rO rfl (Ope.cf rfl rfl (f85 ru[i]) rfl ?_)
       refine rO rfl (Ope.not rfl ?_)
       refine rI (rC rfl (fun hc=>?_) fun hc=>?_)
       ·refine rS (rN (cx_ok _ _ _) (rO rfl (oA rfl ?_)))
        refine rI (Run.ret (Jmp.retB (Jmp.code (Jmp.round (Jmp.retB (Jmp.code (fin_ret (.tmp rfl .nil) rfl ?_)))))))
        first
        | (rw [hbig (by omega)];rfl)
        | (rw [hbn (by omega)];rfl)
        | (rw [hsu hlt (by simpa using hc)];rfl)
        | (rw [hjo hlt (by simpa using hc)];rfl)
        | (rw [hyes (by omega) (by omega) (by omega) (fun k hk=>hall k hk hk) (fun k hk=>hallj k hk (by omega))];rfl)
       ·refine Run.skip (Run.bend (rN (cx_ok _ _ _) (rO rfl (Ope.add rfl rfl (by omega) ?_))))
        refine rO rfl (oM rfl ?_)
        refine rI ?_
        exact Run.lend ⟨(i+1,m+1),by show ru.length - (i+1) < ru.length - i;omega,⟨by show i+1≤ru.length;omega,fun k hk hki=>by
          by_cases hkk:k=i
          · subst hkk;simpa using hc
          · exact hall k hk (by simp only at hki;omega)⟩,⟨rfl,rfl,rfl,rfl,trivial⟩,rfl,rfl⟩
      ·refine Run.exit (Jmp.code (Jmp.round (Jmp.here (rS (rS ?_)))))
       obtain rfl:i=ru.length:=by omega
       refine rN (cx_ok _ _ _) (rO rfl (Ope.fld rfl rfl ?_))
       refine rO rfl (oL rfl rfl ?_)
       refine rO rfl (Ope.len (m:=li.length) rfl (by simp) ?_)
       refine rO rfl (oM rfl ?_)
       refine rI (Run.block (Run.loop (α:=Nat×Nat) (fun t=>[(1,.fp (.agg [.sl t1 (ru.map Rul.v),I n,.sl t2 (li.map Ofc.v)])),(42,.sl t2 (li.map Ofc.v)),(43,I li.length),(44,I t.1)]) (fun t=>HE t.2 []) (fun t=>t.1≤li.length∧∀ k (hk:k < li.length),k < t.1→(li[k]).B ru.length n=true) (fun t=>li.length - t.1) (0,m) ⟨rfl,rfl,rfl,rfl,trivial⟩ rfl ⟨Nat.zero_le _,fun k _ hk=>absurd hk (Nat.not_lt_zero _)⟩ (fun t ht=>?_)))
       obtain ⟨i,m⟩:=t
       obtain ⟨hi,hallj⟩:=ht
       simp only at hi hallj
       refine rS (rN (cx_ok _ _ _) (rO rfl (Ope.lt rfl rfl ?_)))
       refine rI (rS (rC rfl (fun hc=>?_) fun hc=>?_))
       ·refine Run.skip (rS (Run.block (rS ?_)))
        have hlt:i < li.length:=by omega
        have hji:=hij (by omega) (by omega) li[i]
        refine rN (cx_ok _ _ _) (rO rfl (Ope.idxM (m:=i) (f:=Ofc.v) rfl rfl rfl hlt (fun _=>rfl) ?_))
        refine rO rfl (oL rfl rfl ?_)
        refine rO rfl (Ope.newL rfl ?_)
        refine Reg.op0 (Ope.store rfl rfl hget_hd rfl rfl rfl ?_)
        refine rI (rS (Run.frz (d:=6) true rfl hget_hd rfl ?_))
        refine Run.wide (m:=m+1) (l':=[]) (Nat.le_refl _) trivial ?_
        refine rN (cx_ok _ _ _) (rO rfl (oL rfl rfl ?_))
        refine rO rfl (oL rfl rfl ?_)
        refine rO rfl (Ope.cf rfl rfl hji (hbj _) ?_)
        refine rO rfl (Ope.not rfl ?_)
        refine rI (rC rfl (fun hc=>?_) fun hc=>?_)
        ·refine rS (rN (cx_ok _ _ _) (rO rfl (oA rfl ?_)))
         refine rI (Run.ret (Jmp.retB (Jmp.code (Jmp.round (Jmp.retB (Jmp.code (fin_ret (.tmp rfl .nil) rfl ?_)))))))
         first
         | (rw [hbig (by omega)];rfl)
         | (rw [hbn (by omega)];rfl)
         | (rw [hsu hlt (by simpa using hc)];rfl)
         | (rw [hjo hlt (by simpa using hc)];rfl)
         | (rw [hyes (by omega) (by omega) (by omega) (fun k hk=>hall k hk hk) (fun k hk=>hallj k hk (by omega))];rfl)
        ·refine Run.skip (Run.bend (rN (cx_ok _ _ _) (rO rfl (Ope.add rfl rfl (by omega) ?_))))
         refine rO rfl (oM rfl ?_)
         refine rI ?_
         exact Run.lend ⟨(i+1,m+1),by show li.length - (i+1) < li.length - i;omega,⟨by show i+1≤li.length;omega,fun k hk hki=>by
           by_cases hkk:k=i
           · subst hkk;simpa using hc
           · exact hallj k hk (by simp only at hki;omega)⟩,⟨rfl,rfl,rfl,rfl,trivial⟩,rfl,rfl⟩
       ·refine Run.exit (Jmp.code (Jmp.round (Jmp.here (rS (rN (cx_ok _ _ _) (rO rfl (oA rfl ?_)))))))
        refine rI (Run.ret (fin_ret (.tmp rfl .nil) rfl ?_))
        first
        | (rw [hbig (by omega)];rfl)
        | (rw [hbn (by omega)];rfl)
        | (rw [hsu hlt (by simpa using hc)];rfl)
        | (rw [hjo hlt (by simpa using hc)];rfl)
        | (rw [hyes (by omega) (by omega) (by omega) (fun k hk=>hall k hk hk) (fun k hk=>hallj k hk (by omega))];rfl)
    ·refine Reg.off rfl rfl rfl (Reg.off rfl rfl rfl (Reg.off rfl rfl rfl (rO rfl (Ope.pickF rfl rfl ?_))))
     refine rO rfl (oM rfl ?_)
     refine Reg.off rfl rfl rfl (Reg.off rfl rfl rfl (Reg.off rfl rfl rfl (rO rfl (Ope.pickF rfl rfl ?_))))
     refine rI (Run.condF rfl (Run.skip (rS (rS (rN (cx_ok _ _ _) (rO rfl (Ope.fld rfl rfl ?_)))))))
     refine rO rfl (oL rfl rfl ?_)
     refine rO rfl (Ope.len (m:=ru.length) rfl (by simp) ?_)
     refine rO rfl (oM rfl ?_)
     refine rI (Run.block (Run.loop (α:=Nat×Nat) (fun t=>[(1,.fp (.agg [.sl t1 (ru.map Rul.v),I n,.sl t2 (li.map Ofc.v)])),(31,.sl t1 (ru.map Rul.v)),(32,I ru.length),(33,I t.1)]) (fun t=>HE t.2 []) (fun t=>t.1≤ru.length∧∀ k (hk:k < ru.length),k < t.1→(ru[k]).B=true) (fun t=>ru.length - t.1) (0,0) ⟨rfl,rfl,rfl,rfl,trivial⟩ rfl ⟨Nat.zero_le _,fun k _ hk=>absurd hk (Nat.not_lt_zero _)⟩ (fun t ht=>?_)))
     obtain ⟨i,m⟩:=t
     obtain ⟨hi,hall⟩:=ht
     simp only at hi hall
     refine rS (rN (cx_ok _ _ _) (rO rfl (Ope.lt rfl rfl ?_)))
     refine rI (rS (rC rfl (fun hc=>?_) fun hc=>?_))
     ·refine Run.skip (rS (Run.block (rS ?_)))
      have hlt:i < ru.length:=by omega
      refine rN (cx_ok _ _ _) (rO rfl (Ope.idxM (m:=i) (f:=Rul.v) rfl rfl rfl hlt (fun _=>rfl) ?_))
      refine rO rfl (oL rfl rfl ?_)
      refine rO rfl (Ope.newL rfl ?_)
      refine Reg.op0 (Ope.store rfl rfl hget_hd rfl rfl rfl ?_)
      refine rI (rS (Run.frz (d:=4) true rfl hget_hd rfl ?_))
      refine Run.wide (m:=m+1) (l':=[]) (Nat.le_refl _) trivial ?_
      refine rN (cx_ok _ _ _) (rO rfl (oL rfl rfl ?_))
      refine rO rfl (Ope.cf rfl rfl (f85 ru[i]) rfl ?_)
      refine rO rfl (Ope.not rfl ?_)
      refine rI (rC rfl (fun hc=>?_) fun hc=>?_)
      ·refine rS (rN (cx_ok _ _ _) (rO rfl (oA rfl ?_)))
       refine rI (Run.ret (Jmp.retB (Jmp.code (Jmp.round (Jmp.retB (Jmp.code (fin_ret (.tmp rfl .nil) rfl ?_)))))))
       first
       | (rw [hbig (by omega)];rfl)
       | (rw [hbn (by omega)];rfl)
       | (rw [hsu hlt (by simpa using hc)];rfl)
       | (rw [hjo hlt (by simpa using hc)];rfl)
       | (rw [hyes (by omega) (by omega) (by omega) (fun k hk=>hall k hk hk) (fun k hk=>hallj k hk (by omega))];rfl)
      ·refine Run.skip (Run.bend (rN (cx_ok _ _ _) (rO rfl (Ope.add rfl rfl (by omega) ?_))))
       refine rO rfl (oM rfl ?_)
       refine rI ?_
       exact Run.lend ⟨(i+1,m+1),by show ru.length - (i+1) < ru.length - i;omega,⟨by show i+1≤ru.length;omega,fun k hk hki=>by
         by_cases hkk:k=i
         · subst hkk;simpa using hc
         · exact hall k hk (by simp only at hki;omega)⟩,⟨rfl,rfl,rfl,rfl,trivial⟩,rfl,rfl⟩
     ·refine Run.exit (Jmp.code (Jmp.round (Jmp.here (rS (rS ?_)))))
      obtain rfl:i=ru.length:=by omega
      refine rN (cx_ok _ _ _) (rO rfl (Ope.fld rfl rfl ?_))
      refine rO rfl (oL rfl rfl ?_)
      refine rO rfl (Ope.len (m:=li.length) rfl (by simp) ?_)
      refine rO rfl (oM rfl ?_)
      refine rI (Run.block (Run.loop (α:=Nat×Nat) (fun t=>[(1,.fp (.agg [.sl t1 (ru.map Rul.v),I n,.sl t2 (li.map Ofc.v)])),(42,.sl t2 (li.map Ofc.v)),(43,I li.length),(44,I t.1)]) (fun t=>HE t.2 []) (fun t=>t.1≤li.length∧∀ k (hk:k < li.length),k < t.1→(li[k]).B ru.length n=true) (fun t=>li.length - t.1) (0,m) ⟨rfl,rfl,rfl,rfl,trivial⟩ rfl ⟨Nat.zero_le _,fun k _ hk=>absurd hk (Nat.not_lt_zero _)⟩ (fun t ht=>?_)))
      obtain ⟨i,m⟩:=t
      obtain ⟨hi,hallj⟩:=ht
      simp only at hi hallj
      refine rS (rN (cx_ok _ _ _) (rO rfl (Ope.lt rfl rfl ?_)))
      refine rI (rS (rC rfl (fun hc=>?_) fun hc=>?_))
      ·refine Run.skip (rS (Run.block (rS ?_)))
       have hlt:i < li.length:=by omega
       have hji:=hij (by omega) (by omega) li[i]
       refine rN (cx_ok _ _ _) (rO rfl (Ope.idxM (m:=i) (f:=Ofc.v) rfl rfl rfl hlt (fun _=>rfl) ?_))
       refine rO rfl (oL rfl rfl ?_)
       refine rO rfl (Ope.newL rfl ?_)
       refine Reg.op0 (Ope.store rfl rfl hget_hd rfl rfl rfl ?_)
       refine rI (rS (Run.frz (d:=6) true rfl hget_hd rfl ?_))
       refine Run.wide (m:=m+1) (l':=[]) (Nat.le_refl _) trivial ?_
       refine rN (cx_ok _ _ _) (rO rfl (oL rfl rfl ?_))
       refine rO rfl (oL rfl rfl ?_)
       refine rO rfl (Ope.cf rfl rfl hji (hbj _) ?_)
       refine rO rfl (Ope.not rfl ?_)
       refine rI (rC rfl (fun hc=>?_) fun hc=>?_)
       ·refine rS (rN (cx_ok _ _ _) (rO rfl (oA rfl ?_)))
        refine rI (Run.ret (Jmp.retB (Jmp.code (Jmp.round (Jmp.retB (Jmp.code (fin_ret (.tmp rfl .nil) rfl ?_)))))))
        first
        | (rw [hbig (by omega)];rfl)
        | (rw [hbn (by omega)];rfl)
        | (rw [hsu hlt (by simpa using hc)];rfl)
        | (rw [hjo hlt (by simpa using hc)];rfl)
        | (rw [hyes (by omega) (by omega) (by omega) (fun k hk=>hall k hk hk) (fun k hk=>hallj k hk (by omega))];rfl)
       ·refine Run.skip (Run.bend (rN (cx_ok _ _ _) (rO rfl (Ope.add rfl rfl (by omega) ?_))))
        refine rO rfl (oM rfl ?_)
        refine rI ?_
        exact Run.lend ⟨(i+1,m+1),by show li.length - (i+1) < li.length - i;omega,⟨by show i+1≤li.length;omega,fun k hk hki=>by
          by_cases hkk:k=i
          · subst hkk;simpa using hc
          · exact hallj k hk (by simp only at hki;omega)⟩,⟨rfl,rfl,rfl,rfl,trivial⟩,rfl,rfl⟩
      ·refine Run.exit (Jmp.code (Jmp.round (Jmp.here (rS (rN (cx_ok _ _ _) (rO rfl (oA rfl ?_)))))))
       refine rI (Run.ret (fin_ret (.tmp rfl .nil) rfl ?_))
       first
       | (rw [hbig (by omega)];rfl)
       | (rw [hbn (by omega)];rfl)
       | (rw [hsu hlt (by simpa using hc)];rfl)
       | (rw [hjo hlt (by simpa using hc)];rfl)
       | (rw [hyes (by omega) (by omega) (by omega) (fun k hk=>hall k hk hk) (fun k hk=>hallj k hk (by omega))];rfl)
end
end Go.Pv
namespace Go.Pv
open Go.Proofs Go.Am
set_option maxRecDepth 10000
theorem d66n {n:Nat} {l:HL} {K:PH→Prop} (hK:K (HE n l)):PDefer A0 P0 66 [.ptr 1 0] (.lit .nilifc) (HE n l) K:=by
  refine PDefer.of (C:=c66) (fd:=Tryz.f66) (by kernel_rfl) rfl rfl rfl rfl rfl rfl rfl rfl rfl rfl ?_
  refine Run.block (rS (rN (cx_ok _ _ _) ?_))
  first | refine rO rfl (Ope.eq rfl rfl ?_) | refine rO rfl (Ope.eqI rfl rfl ?_) | refine rO rfl (Ope.eqN rfl rfl rfl ?_)
  refine rI (rC rfl (fun hc=>?_) fun hc=>?_)
  ·first
   |exact absurd hc (by decide)
   |refine rN (cx_ok _ _ _) (rO rfl (oA rfl ?_))
    exact rI (Run.bend (Run.done ⟨.inl rfl,trivial,hK⟩))
  ·first
   |exact absurd hc (by decide)
   |refine rS (rN (cx_ok _ _ _) ?_)
    first | refine rO rfl (Ope.tasY rfl rfl ?_) | refine rO rfl (Ope.tasN rfl rfl ?_)
    refine rO rfl (Ope.ext rfl rfl ?_)
    refine rO rfl (Ope.ext rfl rfl ?_)
    refine rI (rC rfl (fun hc=>?_) fun hc=>?_)
    ·first
     |exact absurd hc (by decide)
     |refine rS (rN (cx_ok _ _ _) (rO rfl (oA rfl ?_)))
      refine rI (rN (cx_ok _ _ _) (rO rfl (oM rfl ?_)))
      refine Reg.op0 (Ope.store rfl rfl rfl rfl rfl rfl ?_)
      exact rI (Run.bend (Run.done ⟨.inl rfl,trivial,hK⟩))
    ·first
     |exact absurd hc (by decide)
     |refine rS (rN (cx_ok _ _ _) (rO rfl (oA rfl ?_)))
      refine rI (rN (cx_ok _ _ _) (Reg.op0 (Ope.store rfl rfl rfl rfl rfl rfl ?_)))
      exact rI (Run.bend (Run.done ⟨.inl rfl,trivial,hK⟩))
theorem d66e {n:Nat} {l:HL} {K:PH→Prop} {k z:Int} (hz:hget l 1=some (.cells [I z])) (hK:K (HE n ((1,some (.cells [I k]))::l))):PDefer A0 P0 66 [.ptr 1 0] (.ifc 31 (I k)) (HE n l) K:=by
  refine PDefer.of (C:=c66) (fd:=Tryz.f66) (by kernel_rfl) rfl rfl rfl rfl rfl rfl rfl rfl rfl rfl ?_
  refine Run.block (rS (rN (cx_ok _ _ _) ?_))
  first | refine rO rfl (Ope.eq rfl rfl ?_) | refine rO rfl (Ope.eqI rfl rfl ?_) | refine rO rfl (Ope.eqN rfl rfl rfl ?_)
  refine rI (rC rfl (fun hc=>?_) fun hc=>?_)
  ·first
   |exact absurd hc (by decide)
   |refine rN (cx_ok _ _ _) (rO rfl (oA rfl ?_))
    exact rI (Run.bend (Run.done ⟨.inl rfl,trivial,hK⟩))
  ·first
   |exact absurd hc (by decide)
   |refine rS (rN (cx_ok _ _ _) ?_)
    first | refine rO rfl (Ope.tasY rfl rfl ?_) | refine rO rfl (Ope.tasN rfl rfl ?_)
    refine rO rfl (Ope.ext rfl rfl ?_)
    refine rO rfl (Ope.ext rfl rfl ?_)
    refine rI (rC rfl (fun hc=>?_) fun hc=>?_)
    ·first
     |exact absurd hc (by decide)
     |refine rS (rN (cx_ok _ _ _) (rO rfl (oA rfl ?_)))
      refine rI (rN (cx_ok _ _ _) (rO rfl (oM rfl ?_)))
      refine Reg.op0 (Ope.store rfl rfl hz rfl rfl rfl ?_)
      exact rI (Run.bend (Run.done ⟨.inl rfl,trivial,hK⟩))
    ·first
     |exact absurd hc (by decide)
     |refine rS (rN (cx_ok _ _ _) (rO rfl (oA rfl ?_)))
      refine rI (rN (cx_ok _ _ _) (Reg.op0 (Ope.store rfl rfl rfl rfl rfl rfl ?_)))
      exact rI (Run.bend (Run.done ⟨.inl rfl,trivial,hK⟩))
theorem f39ok (f:Fns) {t1 t2:Tail} (h1:t1.isOwn=false) (h2:t2.isOwn=false) (hS:f.ru.length≤9223372036854775807) (hJ:f.li.length≤9223372036854775807) (g:Nat) (cap:List PV) (e:Spn) (hv:f.B=true) (hb:PV.bds 0 (f.v t1 t2::cap)=true) (hu:PV.bd 0 e.v=true) (hf:Fn P0 g (f.v t1 t2::cap) e.v):Fn P0 39 [f.v t1 t2,B true,.fn (.func g) [] cap] (.tup [e.v,I 0]):=by
  have hva:=f68 f h1 h2 hS hJ
  rw [hv] at hva
  have hbs:PV.bds 0 [f.v t1 t2]=true:=bd_fnsV f h1 h2 rfl
  unfold Fn PFun
  show PCall P0 39 _ (HE 0 []) _ _
  refine PCall.ofT (C:=c39) (cx_ok _ _ _) (fn:=Tryz.f39) (by kernel_rfl) (c:=_) rfl rfl ?_
  refine Til.seq rfl rfl ?_
  refine rN (cx_ok _ _ _) ?_
  refine rO rfl (Ope.boxF rfl rfl ?_)
  refine rO rfl (Ope.newL rfl ?_)
  refine rO rfl (Ope.newL rfl ?_)
  refine rI ?_
  refine Run.done ⟨rfl,rfl,?_⟩
  refine Til.deferY (cx_ok _ _ _) (by kernel_rfl) rfl rfl rfl rfl rfl rfl rfl rfl (Ope.mkf rfl rfl ⟨rfl,rfl⟩) rfl ?_
  refine TilY.reg (cx_ok _ _ _) rfl 3 [(6,.ptr 0 0),(7,.ptr 1 0)] rfl ⟨rfl,rfl,trivial⟩ ?_
  refine RegP.op rfl (oL rfl rfl ?_)
  refine RegP.op rfl (Ope.cf rfl rfl hva hbs ?_)
  refine RegP.op rfl (Ope.cf rfl rfl (f67t 1) rfl ?_)
  refine RegP.nil ?_
  refine rI ?_
  refine Run.done ⟨rfl,rfl,?_⟩
  refine TilY.reg (cx_ok _ _ _) rfl 2 [(6,.ptr 0 0),(7,.ptr 1 0)] rfl ⟨rfl,rfl,trivial⟩ ?_
  refine RegP.op rfl (oM rfl ?_)
  refine RegP.op rfl (Ope.cf rfl rfl (f67t 2) rfl ?_)
  refine RegP.nil ?_
  refine rI ?_
  refine Run.done ⟨rfl,rfl,?_⟩
  refine TilY.reg (cx_ok _ _ _) rfl 4 [(6,.ptr 0 0),(7,.ptr 1 0)] rfl ⟨rfl,rfl,trivial⟩ ?_
  refine RegP.op rfl (oM rfl ?_)
  refine RegP.op rfl (oL rfl rfl ?_)
  refine RegP.op rfl (Ope.bld rfl rfl ?_)
  refine RegP.op rfl (Ope.cf rfl rfl hf hb ?_)
  refine RegP.nil ?_
  refine Reg.op0 (Ope.store rfl rfl rfl rfl rfl rfl ?_)
  refine Reg.op0 (Ope.store rfl rfl rfl rfl rfl rfl ?_)
  refine rI ?_
  refine Run.done ⟨rfl,rfl,?_⟩
  refine TilY.ret (d66n ?_)
  exact ResE.ofF (.cell rfl rfl (.cell rfl rfl .nil)) (bds_cons hu rfl) rfl
theorem f39rg (f:Fns) {t1 t2:Tail} (h1:t1.isOwn=false) (h2:t2.isOwn=false) (hS:f.ru.length≤9223372036854775807) (hJ:f.li.length≤9223372036854775807) (g:Nat) (cap:List PV) (hv:f.B=true):Fn P0 39 [f.v t1 t2,B false,.fn (.func g) [] cap] (.tup [.agg [I 0,I 0],I 2]):=by
  have hva:=f68 f h1 h2 hS hJ
  rw [hv] at hva
  have hbs:PV.bds 0 [f.v t1 t2]=true:=bd_fnsV f h1 h2 rfl
  unfold Fn PFun
  show PCall P0 39 _ (HE 0 []) _ _
  refine PCall.ofT (C:=c39) (cx_ok _ _ _) (fn:=Tryz.f39) (by kernel_rfl) (c:=_) rfl rfl ?_
  refine Til.seq rfl rfl ?_
  refine rN (cx_ok _ _ _) ?_
  refine rO rfl (Ope.boxF rfl rfl ?_)
  refine rO rfl (Ope.newL rfl ?_)
  refine rO rfl (Ope.newL rfl ?_)
  refine rI ?_
  refine Run.done ⟨rfl,rfl,?_⟩
  refine Til.deferY (cx_ok _ _ _) (by kernel_rfl) rfl rfl rfl rfl rfl rfl rfl rfl (Ope.mkf rfl rfl ⟨rfl,rfl⟩) rfl ?_
  refine TilY.reg (cx_ok _ _ _) rfl 3 [(6,.ptr 0 0),(7,.ptr 1 0)] rfl ⟨rfl,rfl,trivial⟩ ?_
  refine RegP.op rfl (oL rfl rfl ?_)
  refine RegP.op rfl (Ope.cf rfl rfl hva hbs ?_)
  refine RegP.op rfl (Ope.cf rfl rfl (f67t 1) rfl ?_)
  refine RegP.nil ?_
  refine rI ?_
  refine Run.done ⟨rfl,rfl,?_⟩
  refine TilY.reg (cx_ok _ _ _) rfl 2 [(6,.ptr 0 0),(7,.ptr 1 0)] rfl ⟨rfl,rfl,trivial⟩ ?_
  refine RegP.op rfl (oM rfl ?_)
  refine RegP.op rfl (Ope.cp rfl rfl (f67f 2) rfl ⟨trivial,d66e rfl ?_⟩)
  exact ResE.ofF (.cell rfl rfl (.cell rfl rfl .nil)) rfl rfl
theorem f39ba (f:Fns) {t1 t2:Tail} (h1:t1.isOwn=false) (h2:t2.isOwn=false) (hS:f.ru.length≤9223372036854775807) (hJ:f.li.length≤9223372036854775807) (g:Nat) (cap:List PV) (r:Bool) (hv:f.B=false):Fn P0 39 [f.v t1 t2,B r,.fn (.func g) [] cap] (.tup [.agg [I 0,I 0],I 1]):=by
  have hva:=f68 f h1 h2 hS hJ
  rw [hv] at hva
  have hbs:PV.bds 0 [f.v t1 t2]=true:=bd_fnsV f h1 h2 rfl
  unfold Fn PFun
  show PCall P0 39 _ (HE 0 []) _ _
  refine PCall.ofT (C:=c39) (cx_ok _ _ _) (fn:=Tryz.f39) (by kernel_rfl) (c:=_) rfl rfl ?_
  refine Til.seq rfl rfl ?_
  refine rN (cx_ok _ _ _) ?_
  refine rO rfl (Ope.boxF rfl rfl ?_)
  refine rO rfl (Ope.newL rfl ?_)
  refine rO rfl (Ope.newL rfl ?_)
  refine rI ?_
  refine Run.done ⟨rfl,rfl,?_⟩
  refine Til.deferY (cx_ok _ _ _) (by kernel_rfl) rfl rfl rfl rfl rfl rfl rfl rfl (Ope.mkf rfl rfl ⟨rfl,rfl⟩) rfl ?_
  refine TilY.reg (cx_ok _ _ _) rfl 3 [(6,.ptr 0 0),(7,.ptr 1 0)] rfl ⟨rfl,rfl,trivial⟩ ?_
  refine RegP.op rfl (oL rfl rfl ?_)
  refine RegP.op rfl (Ope.cf rfl rfl hva hbs ?_)
  refine RegP.op rfl (Ope.cp rfl rfl (f67f 1) rfl ⟨trivial,d66e rfl ?_⟩)
  exact ResE.ofF (.cell rfl rfl (.cell rfl rfl .nil)) rfl rfl
theorem d73n {n:Nat} {l:HL} {K:PH→Prop} (hK:K (HE n l)):PDefer A0 P0 73 [.ptr 0 0] (.lit .nilifc) (HE n l) K:=by
  refine PDefer.of (C:=c73) (fd:=Tryz.f73) (by kernel_rfl) rfl rfl rfl rfl rfl rfl rfl rfl rfl rfl ?_
  refine Run.block (rS (rN (cx_ok _ _ _) ?_))
  first | refine rO rfl (Ope.eq rfl rfl ?_) | refine rO rfl (Ope.eqI rfl rfl ?_) | refine rO rfl (Ope.eqN rfl rfl rfl ?_)
  refine rI (rC rfl (fun hc=>?_) fun hc=>?_)
  ·first
   |exact absurd hc (by decide)
   |refine rN (cx_ok _ _ _) (rO rfl (oA rfl ?_))
    exact rI (Run.bend (Run.done ⟨.inl rfl,trivial,hK⟩))
  ·first
   |exact absurd hc (by decide)
   |refine rS (rN (cx_ok _ _ _) ?_)
    first | refine rO rfl (Ope.tasY rfl rfl ?_) | refine rO rfl (Ope.tasN rfl rfl ?_)
    refine rO rfl (Ope.ext rfl rfl ?_)
    refine rO rfl (Ope.ext rfl rfl ?_)
    refine rI (rC rfl (fun hc=>?_) fun hc=>?_)
    ·first
     |exact absurd hc (by decide)
     |refine rS (rN (cx_ok _ _ _) (rO rfl (oA rfl ?_)))
      refine rI (rN (cx_ok _ _ _) (rO rfl (oM rfl ?_)))
      refine Reg.op0 (Ope.store rfl rfl rfl rfl rfl rfl ?_)
      exact rI (Run.bend (Run.done ⟨.inl rfl,trivial,hK⟩))
    ·first
     |exact absurd hc (by decide)
     |refine rS (rN (cx_ok _ _ _) (rO rfl (oA rfl ?_)))
      refine rI (rN (cx_ok _ _ _) (Reg.op0 (Ope.store rfl rfl rfl rfl rfl rfl ?_)))
      exact rI (Run.bend (Run.done ⟨.inl rfl,trivial,hK⟩))
theorem d73e {n:Nat} {l:HL} {K:PH→Prop} {k z:Int} (hz:hget l 0=some (.cells [I z])) (hK:K (HE n ((0,some (.cells [I k]))::l))):PDefer A0 P0 73 [.ptr 0 0] (.ifc 31 (I k)) (HE n l) K:=by
  refine PDefer.of (C:=c73) (fd:=Tryz.f73) (by kernel_rfl) rfl rfl rfl rfl rfl rfl rfl rfl rfl rfl ?_
  refine Run.block (rS (rN (cx_ok _ _ _) ?_))
  first | refine rO rfl (Ope.eq rfl rfl ?_) | refine rO rfl (Ope.eqI rfl rfl ?_) | refine rO rfl (Ope.eqN rfl rfl rfl ?_)
  refine rI (rC rfl (fun hc=>?_) fun hc=>?_)
  ·first
   |exact absurd hc (by decide)
   |refine rN (cx_ok _ _ _) (rO rfl (oA rfl ?_))
    exact rI (Run.bend (Run.done ⟨.inl rfl,trivial,hK⟩))
  ·first
   |exact absurd hc (by decide)
   |refine rS (rN (cx_ok _ _ _) ?_)
    first | refine rO rfl (Ope.tasY rfl rfl ?_) | refine rO rfl (Ope.tasN rfl rfl ?_)
    refine rO rfl (Ope.ext rfl rfl ?_)
    refine rO rfl (Ope.ext rfl rfl ?_)
    refine rI (rC rfl (fun hc=>?_) fun hc=>?_)
    ·first
     |exact absurd hc (by decide)
     |refine rS (rN (cx_ok _ _ _) (rO rfl (oA rfl ?_)))
      refine rI (rN (cx_ok _ _ _) (rO rfl (oM rfl ?_)))
      refine Reg.op0 (Ope.store rfl rfl hz rfl rfl rfl ?_)
      exact rI (Run.bend (Run.done ⟨.inl rfl,trivial,hK⟩))
    ·first
     |exact absurd hc (by decide)
     |refine rS (rN (cx_ok _ _ _) (rO rfl (oA rfl ?_)))
      refine rI (rN (cx_ok _ _ _) (Reg.op0 (Ope.store rfl rfl rfl rfl rfl rfl ?_)))
      exact rI (Run.bend (Run.done ⟨.inl rfl,trivial,hK⟩))
theorem f55ok (f:Fns) {t1 t2:Tail} (h1:t1.isOwn=false) (h2:t2.isOwn=false) (hS:f.ru.length≤9223372036854775807) (hJ:f.li.length≤9223372036854775807) (g:Nat) (cap:List PV) (tl:Tail) (us:List PV) (hv:f.B=true) (hb:PV.bds 0 (f.v t1 t2::cap)=true) (hu:PV.bd 0 (.sl tl us)=true) (hf:Fn P0 g (f.v t1 t2::cap) (.sl tl us)):Fn P0 55 [f.v t1 t2,B true,.fn (.func g) [] cap] (.tup [(.sl tl us),I 0]):=by
  have hva:=f68 f h1 h2 hS hJ
  rw [hv] at hva
  have hbs:PV.bds 0 [f.v t1 t2]=true:=bd_fnsV f h1 h2 rfl
  unfold Fn PFun
  show PCall P0 55 _ (HE 0 []) _ _
  refine PCall.ofT (C:=c55) (cx_ok _ _ _) (fn:=Tryz.f55) (by kernel_rfl) (c:=_) rfl rfl ?_
  refine Til.seq rfl rfl ?_
  refine rN (cx_ok _ _ _) ?_
  refine rO rfl (Ope.boxF rfl rfl ?_)
  refine rO rfl (oA rfl ?_)
  refine rO rfl (Ope.newL rfl ?_)
  refine rI ?_
  refine Run.done ⟨rfl,rfl,?_⟩
  refine Til.deferY (cx_ok _ _ _) (by kernel_rfl) rfl rfl rfl rfl rfl rfl rfl rfl (Ope.mkf rfl rfl ⟨rfl,rfl⟩) rfl ?_
  refine TilY.reg (cx_ok _ _ _) rfl 3 [(6,.sl .ex []),(7,.ptr 0 0)] rfl ⟨rfl,rfl,trivial⟩ ?_
  refine RegP.op rfl (oL rfl rfl ?_)
  refine RegP.op rfl (Ope.cf rfl rfl hva hbs ?_)
  refine RegP.op rfl (Ope.cf rfl rfl (f67t 1) rfl ?_)
  refine RegP.nil ?_
  refine rI ?_
  refine Run.done ⟨rfl,rfl,?_⟩
  refine TilY.reg (cx_ok _ _ _) rfl 2 [(6,.sl .ex []),(7,.ptr 0 0)] rfl ⟨rfl,rfl,trivial⟩ ?_
  refine RegP.op rfl (oM rfl ?_)
  refine RegP.op rfl (Ope.cf rfl rfl (f67t 2) rfl ?_)
  refine RegP.nil ?_
  refine rI ?_
  refine Run.done ⟨rfl,rfl,?_⟩
  refine TilY.reg (cx_ok _ _ _) rfl 4 [(6,.sl .ex []),(7,.ptr 0 0)] rfl ⟨rfl,rfl,trivial⟩ ?_
  refine RegP.op rfl (oM rfl ?_)
  refine RegP.op rfl (oL rfl rfl ?_)
  refine RegP.op rfl (Ope.bld rfl rfl ?_)
  refine RegP.op rfl (Ope.cf rfl rfl hf hb ?_)
  refine RegP.nil ?_
  refine rO rfl (oA rfl ?_)
  refine Reg.op0 (Ope.store rfl rfl rfl rfl rfl rfl ?_)
  refine rI ?_
  refine Run.done ⟨rfl,rfl,?_⟩
  refine TilY.ret (d73n ?_)
  exact ResE.ofF (.tmp rfl (.cell rfl rfl .nil)) (bds_cons hu rfl) rfl
theorem f55rg (f:Fns) {t1 t2:Tail} (h1:t1.isOwn=false) (h2:t2.isOwn=false) (hS:f.ru.length≤9223372036854775807) (hJ:f.li.length≤9223372036854775807) (g:Nat) (cap:List PV) (hv:f.B=true):Fn P0 55 [f.v t1 t2,B false,.fn (.func g) [] cap] (.tup [.sl .ex [],I 2]):=by
  have hva:=f68 f h1 h2 hS hJ
  rw [hv] at hva
  have hbs:PV.bds 0 [f.v t1 t2]=true:=bd_fnsV f h1 h2 rfl
  unfold Fn PFun
  show PCall P0 55 _ (HE 0 []) _ _
  refine PCall.ofT (C:=c55) (cx_ok _ _ _) (fn:=Tryz.f55) (by kernel_rfl) (c:=_) rfl rfl ?_
  refine Til.seq rfl rfl ?_
  refine rN (cx_ok _ _ _) ?_
  refine rO rfl (Ope.boxF rfl rfl ?_)
  refine rO rfl (oA rfl ?_)
  refine rO rfl (Ope.newL rfl ?_)
  refine rI ?_
  refine Run.done ⟨rfl,rfl,?_⟩
  refine Til.deferY (cx_ok _ _ _) (by kernel_rfl) rfl rfl rfl rfl rfl rfl rfl rfl (Ope.mkf rfl rfl ⟨rfl,rfl⟩) rfl ?_
  refine TilY.reg (cx_ok _ _ _) rfl 3 [(6,.sl .ex []),(7,.ptr 0 0)] rfl ⟨rfl,rfl,trivial⟩ ?_
  refine RegP.op rfl (oL rfl rfl ?_)
  refine RegP.op rfl (Ope.cf rfl rfl hva hbs ?_)
  refine RegP.op rfl (Ope.cf rfl rfl (f67t 1) rfl ?_)
  refine RegP.nil ?_
  refine rI ?_
  refine Run.done ⟨rfl,rfl,?_⟩
  refine TilY.reg (cx_ok _ _ _) rfl 2 [(6,.sl .ex []),(7,.ptr 0 0)] rfl ⟨rfl,rfl,trivial⟩ ?_
  refine RegP.op rfl (oM rfl ?_)
  refine RegP.op rfl (Ope.cp rfl rfl (f67f 2) rfl ⟨trivial,d73e rfl ?_⟩)
  exact ResE.ofF (.tmp rfl (.cell rfl rfl .nil)) rfl rfl
theorem f55ba (f:Fns) {t1 t2:Tail} (h1:t1.isOwn=false) (h2:t2.isOwn=false) (hS:f.ru.length≤9223372036854775807) (hJ:f.li.length≤9223372036854775807) (g:Nat) (cap:List PV) (r:Bool) (hv:f.B=false):Fn P0 55 [f.v t1 t2,B r,.fn (.func g) [] cap] (.tup [.sl .ex [],I 1]):=by
  have hva:=f68 f h1 h2 hS hJ
  rw [hv] at hva
  have hbs:PV.bds 0 [f.v t1 t2]=true:=bd_fnsV f h1 h2 rfl
  unfold Fn PFun
  show PCall P0 55 _ (HE 0 []) _ _
  refine PCall.ofT (C:=c55) (cx_ok _ _ _) (fn:=Tryz.f55) (by kernel_rfl) (c:=_) rfl rfl ?_
  refine Til.seq rfl rfl ?_
  refine rN (cx_ok _ _ _) ?_
  refine rO rfl (Ope.boxF rfl rfl ?_)
  refine rO rfl (oA rfl ?_)
  refine rO rfl (Ope.newL rfl ?_)
  refine rI ?_
  refine Run.done ⟨rfl,rfl,?_⟩
  refine Til.deferY (cx_ok _ _ _) (by kernel_rfl) rfl rfl rfl rfl rfl rfl rfl rfl (Ope.mkf rfl rfl ⟨rfl,rfl⟩) rfl ?_
  refine TilY.reg (cx_ok _ _ _) rfl 3 [(6,.sl .ex []),(7,.ptr 0 0)] rfl ⟨rfl,rfl,trivial⟩ ?_
  refine RegP.op rfl (oL rfl rfl ?_)
  refine RegP.op rfl (Ope.cf rfl rfl hva hbs ?_)
  refine RegP.op rfl (Ope.cp rfl rfl (f67f 1) rfl ⟨trivial,d73e rfl ?_⟩)
  exact ResE.ofF (.tmp rfl (.cell rfl rfl .nil)) rfl rfl
theorem d79n {n:Nat} {l:HL} {K:PH→Prop} (hK:K (HE n l)):PDefer A0 P0 79 [.ptr 0 0] (.lit .nilifc) (HE n l) K:=by
  refine PDefer.of (C:=c79) (fd:=Tryz.f79) (by kernel_rfl) rfl rfl rfl rfl rfl rfl rfl rfl rfl rfl ?_
  refine Run.block (rS (rN (cx_ok _ _ _) ?_))
  first | refine rO rfl (Ope.eq rfl rfl ?_) | refine rO rfl (Ope.eqI rfl rfl ?_) | refine rO rfl (Ope.eqN rfl rfl rfl ?_)
  refine rI (rC rfl (fun hc=>?_) fun hc=>?_)
  ·first
   |exact absurd hc (by decide)
   |refine rN (cx_ok _ _ _) (rO rfl (oA rfl ?_))
    exact rI (Run.bend (Run.done ⟨.inl rfl,trivial,hK⟩))
  ·first
   |exact absurd hc (by decide)
   |refine rS (rN (cx_ok _ _ _) ?_)
    first | refine rO rfl (Ope.tasY rfl rfl ?_) | refine rO rfl (Ope.tasN rfl rfl ?_)
    refine rO rfl (Ope.ext rfl rfl ?_)
    refine rO rfl (Ope.ext rfl rfl ?_)
    refine rI (rC rfl (fun hc=>?_) fun hc=>?_)
    ·first
     |exact absurd hc (by decide)
     |refine rS (rN (cx_ok _ _ _) (rO rfl (oA rfl ?_)))
      refine rI (rN (cx_ok _ _ _) (rO rfl (oM rfl ?_)))
      refine Reg.op0 (Ope.store rfl rfl rfl rfl rfl rfl ?_)
      exact rI (Run.bend (Run.done ⟨.inl rfl,trivial,hK⟩))
    ·first
     |exact absurd hc (by decide)
     |refine rS (rN (cx_ok _ _ _) (rO rfl (oA rfl ?_)))
      refine rI (rN (cx_ok _ _ _) (Reg.op0 (Ope.store rfl rfl rfl rfl rfl rfl ?_)))
      exact rI (Run.bend (Run.done ⟨.inl rfl,trivial,hK⟩))
theorem d79e {n:Nat} {l:HL} {K:PH→Prop} {k z:Int} (hz:hget l 0=some (.cells [I z])) (hK:K (HE n ((0,some (.cells [I k]))::l))):PDefer A0 P0 79 [.ptr 0 0] (.ifc 31 (I k)) (HE n l) K:=by
  refine PDefer.of (C:=c79) (fd:=Tryz.f79) (by kernel_rfl) rfl rfl rfl rfl rfl rfl rfl rfl rfl rfl ?_
  refine Run.block (rS (rN (cx_ok _ _ _) ?_))
  first | refine rO rfl (Ope.eq rfl rfl ?_) | refine rO rfl (Ope.eqI rfl rfl ?_) | refine rO rfl (Ope.eqN rfl rfl rfl ?_)
  refine rI (rC rfl (fun hc=>?_) fun hc=>?_)
  ·first
   |exact absurd hc (by decide)
   |refine rN (cx_ok _ _ _) (rO rfl (oA rfl ?_))
    exact rI (Run.bend (Run.done ⟨.inl rfl,trivial,hK⟩))
  ·first
   |exact absurd hc (by decide)
   |refine rS (rN (cx_ok _ _ _) ?_)
    first | refine rO rfl (Ope.tasY rfl rfl ?_) | refine rO rfl (Ope.tasN rfl rfl ?_)
    refine rO rfl (Ope.ext rfl rfl ?_)
    refine rO rfl (Ope.ext rfl rfl ?_)
    refine rI (rC rfl (fun hc=>?_) fun hc=>?_)
    ·first
     |exact absurd hc (by decide)
     |refine rS (rN (cx_ok _ _ _) (rO rfl (oA rfl ?_)))
      refine rI (rN (cx_ok _ _ _) (rO rfl (oM rfl ?_)))
      refine Reg.op0 (Ope.store rfl rfl hz rfl rfl rfl ?_)
      exact rI (Run.bend (Run.done ⟨.inl rfl,trivial,hK⟩))
    ·first
     |exact absurd hc (by decide)
     |refine rS (rN (cx_ok _ _ _) (rO rfl (oA rfl ?_)))
      refine rI (rN (cx_ok _ _ _) (Reg.op0 (Ope.store rfl rfl rfl rfl rfl rfl ?_)))
      exact rI (Run.bend (Run.done ⟨.inl rfl,trivial,hK⟩))
theorem f59ok (f:Fns) {t1 t2:Tail} (h1:t1.isOwn=false) (h2:t2.isOwn=false) (hS:f.ru.length≤9223372036854775807) (hJ:f.li.length≤9223372036854775807) (g:Nat) (cap:List PV) (a:Int) (hv:f.B=true) (hb:PV.bds 0 (f.v t1 t2::cap)=true) (hu:PV.bd 0 (I a)=true) (hf:Fn P0 g (f.v t1 t2::cap) (I a)):Fn P0 59 [f.v t1 t2,B true,.fn (.func g) [] cap] (.tup [(I a),I 0]):=by
  have hva:=f68 f h1 h2 hS hJ
  rw [hv] at hva
  have hbs:PV.bds 0 [f.v t1 t2]=true:=bd_fnsV f h1 h2 rfl
  unfold Fn PFun
  show PCall P0 59 _ (HE 0 []) _ _
  refine PCall.ofT (C:=c59) (cx_ok _ _ _) (fn:=Tryz.f59) (by kernel_rfl) (c:=_) rfl rfl ?_
  refine Til.seq rfl rfl ?_
  refine rN (cx_ok _ _ _) ?_
  refine rO rfl (Ope.boxF rfl rfl ?_)
  refine rO rfl (oA rfl ?_)
  refine rO rfl (Ope.newL rfl ?_)
  refine rI ?_
  refine Run.done ⟨rfl,rfl,?_⟩
  refine Til.deferY (cx_ok _ _ _) (by kernel_rfl) rfl rfl rfl rfl rfl rfl rfl rfl (Ope.mkf rfl rfl ⟨rfl,rfl⟩) rfl ?_
  refine TilY.reg (cx_ok _ _ _) rfl 3 [(6,I 0),(7,.ptr 0 0)] rfl ⟨rfl,rfl,trivial⟩ ?_
  refine RegP.op rfl (oL rfl rfl ?_)
  refine RegP.op rfl (Ope.cf rfl rfl hva hbs ?_)
  refine RegP.op rfl (Ope.cf rfl rfl (f67t 1) rfl ?_)
  refine RegP.nil ?_
  refine rI ?_
  refine Run.done ⟨rfl,rfl,?_⟩
  refine TilY.reg (cx_ok _ _ _) rfl 2 [(6,I 0),(7,.ptr 0 0)] rfl ⟨rfl,rfl,trivial⟩ ?_
  refine RegP.op rfl (oM rfl ?_)
  refine RegP.op rfl (Ope.cf rfl rfl (f67t 2) rfl ?_)
  refine RegP.nil ?_
  refine rI ?_
  refine Run.done ⟨rfl,rfl,?_⟩
  refine TilY.reg (cx_ok _ _ _) rfl 4 [(6,I 0),(7,.ptr 0 0)] rfl ⟨rfl,rfl,trivial⟩ ?_
  refine RegP.op rfl (oM rfl ?_)
  refine RegP.op rfl (oL rfl rfl ?_)
  refine RegP.op rfl (Ope.bld rfl rfl ?_)
  refine RegP.op rfl (Ope.cf rfl rfl hf hb ?_)
  refine RegP.nil ?_
  refine rO rfl (oA rfl ?_)
  refine Reg.op0 (Ope.store rfl rfl rfl rfl rfl rfl ?_)
  refine rI ?_
  refine Run.done ⟨rfl,rfl,?_⟩
  refine TilY.ret (d79n ?_)
  exact ResE.ofF (.tmp rfl (.cell rfl rfl .nil)) (bds_cons hu rfl) rfl
theorem f59rg (f:Fns) {t1 t2:Tail} (h1:t1.isOwn=false) (h2:t2.isOwn=false) (hS:f.ru.length≤9223372036854775807) (hJ:f.li.length≤9223372036854775807) (g:Nat) (cap:List PV) (hv:f.B=true):Fn P0 59 [f.v t1 t2,B false,.fn (.func g) [] cap] (.tup [I 0,I 2]):=by
  have hva:=f68 f h1 h2 hS hJ
  rw [hv] at hva
  have hbs:PV.bds 0 [f.v t1 t2]=true:=bd_fnsV f h1 h2 rfl
  unfold Fn PFun
  show PCall P0 59 _ (HE 0 []) _ _
  refine PCall.ofT (C:=c59) (cx_ok _ _ _) (fn:=Tryz.f59) (by kernel_rfl) (c:=_) rfl rfl ?_
  refine Til.seq rfl rfl ?_
  refine rN (cx_ok _ _ _) ?_
  refine rO rfl (Ope.boxF rfl rfl ?_)
  refine rO rfl (oA rfl ?_)
  refine rO rfl (Ope.newL rfl ?_)
  refine rI ?_
  refine Run.done ⟨rfl,rfl,?_⟩
  refine Til.deferY (cx_ok _ _ _) (by kernel_rfl) rfl rfl rfl rfl rfl rfl rfl rfl (Ope.mkf rfl rfl ⟨rfl,rfl⟩) rfl ?_
  refine TilY.reg (cx_ok _ _ _) rfl 3 [(6,I 0),(7,.ptr 0 0)] rfl ⟨rfl,rfl,trivial⟩ ?_
  refine RegP.op rfl (oL rfl rfl ?_)
  refine RegP.op rfl (Ope.cf rfl rfl hva hbs ?_)
  refine RegP.op rfl (Ope.cf rfl rfl (f67t 1) rfl ?_)
  refine RegP.nil ?_
  refine rI ?_
  refine Run.done ⟨rfl,rfl,?_⟩
  refine TilY.reg (cx_ok _ _ _) rfl 2 [(6,I 0),(7,.ptr 0 0)] rfl ⟨rfl,rfl,trivial⟩ ?_
  refine RegP.op rfl (oM rfl ?_)
  refine RegP.op rfl (Ope.cp rfl rfl (f67f 2) rfl ⟨trivial,d79e rfl ?_⟩)
  exact ResE.ofF (.tmp rfl (.cell rfl rfl .nil)) rfl rfl
theorem f59ba (f:Fns) {t1 t2:Tail} (h1:t1.isOwn=false) (h2:t2.isOwn=false) (hS:f.ru.length≤9223372036854775807) (hJ:f.li.length≤9223372036854775807) (g:Nat) (cap:List PV) (r:Bool) (hv:f.B=false):Fn P0 59 [f.v t1 t2,B r,.fn (.func g) [] cap] (.tup [I 0,I 1]):=by
  have hva:=f68 f h1 h2 hS hJ
  rw [hv] at hva
  have hbs:PV.bds 0 [f.v t1 t2]=true:=bd_fnsV f h1 h2 rfl
  unfold Fn PFun
  show PCall P0 59 _ (HE 0 []) _ _
  refine PCall.ofT (C:=c59) (cx_ok _ _ _) (fn:=Tryz.f59) (by kernel_rfl) (c:=_) rfl rfl ?_
  refine Til.seq rfl rfl ?_
  refine rN (cx_ok _ _ _) ?_
  refine rO rfl (Ope.boxF rfl rfl ?_)
  refine rO rfl (oA rfl ?_)
  refine rO rfl (Ope.newL rfl ?_)
  refine rI ?_
  refine Run.done ⟨rfl,rfl,?_⟩
  refine Til.deferY (cx_ok _ _ _) (by kernel_rfl) rfl rfl rfl rfl rfl rfl rfl rfl (Ope.mkf rfl rfl ⟨rfl,rfl⟩) rfl ?_
  refine TilY.reg (cx_ok _ _ _) rfl 3 [(6,I 0),(7,.ptr 0 0)] rfl ⟨rfl,rfl,trivial⟩ ?_
  refine RegP.op rfl (oL rfl rfl ?_)
  refine RegP.op rfl (Ope.cf rfl rfl hva hbs ?_)
  refine RegP.op rfl (Ope.cp rfl rfl (f67f 1) rfl ⟨trivial,d79e rfl ?_⟩)
  exact ResE.ofF (.tmp rfl (.cell rfl rfl .nil)) rfl rfl
end Go.Pv
namespace Go.Pv
open Go.Am Go.RowKit
theorem PCall.wide {P:Program} {g:FuncId} {args args':List PV} {h h':PH} {R X:PV→PH→Prop} (hn:h.next≤h'.next) (hs:∀ i b,h'.get i=some b→h.get i=some b) (ha:∀ (s:St) (xs:List Value),RVs s args xs→RVs s args' xs) (hp:PCall P g args' h' R X):PCall P g args h R X:=by
 refine ⟨hp.1,fun w0 s xs hw hh hx=>?_⟩
 subst hh
 have hx2:=Ext.wide (s:=s) hn
 refine (hp.2 w0 (s.wide h') xs (hw.wide hn hs) rfl ((R2s.ext hx2 _).1 _ (ha s _ hx))).mono fun e w' he=>?_
 obtain ⟨s',e1,e2,e3,e4⟩:=he
 exact ⟨s',e1,e2,hx2.trans e3,e4⟩
section
variable {C:Cx} {F:EQ} {X:EX} {e:EL} {ds:List Nat} {n m m':Nat} {l l':HL} {K:PV→PH→Prop}
variable {d:Option Tmp} {type:TypeId} {pos:String} {after:Array Edge} {guard:Option (Nat×Bool)}
theorem Ope.callW {f:Operand} {args:Array Operand} {tys:Array TypeId} {g:Nat} {fs ar cp args':List PV} {R:PV→PH→Prop} (hf:pev (lget e) f=some (.fn (.func g) fs cp)) (ha:pargs (pev (lget e)) args.toList=some ar)
  (hw:∀ (s:St) (xs:List Value),RVs s (fs++ar++cp) xs→RVs s args' xs) (hn:n≤m) (hs:∀ i b,hget l' i=some b→hget l i=some b) (hc:PCall C.P g args' (HE m l') R fun _ _=>False) (hK:∀ v h',R v h'→K v h') :
  Ope C X { dst:=d,op:=.call { callee:=.value f,args,argTypes:=tys },type,pos,after,guard } e ds (HE n l) K:=by
 refine Ope.call hf ha rfl ?_
 refine (PCall.wide (h:=HE n l) (h':=HE m l') hn hs hw hc).mono hK ?_
 intro v h' hx
 exact hx.elim
end
end Go.Pv
namespace Go.Pv
open Go.Am Go.RowKit
section
variable {C:Cx} {F:EQ} {X:EX} {k:List KI} {e:EL} {ds:List Nat} {h:PH}
theorem Run.weakT {c:Code} {d:Nat} {tl:Tail} {vs:List PV} (hd:lget e d=some (.sl tl vs)) (hr:Run C F X (.c c::k) ((d,.sl .no vs)::e) ds h):Run C F X (.c c::k) e ds h:=by
 refine Run.ghost (fun t ht=>⟨t.set d (.sl .no vs),?_,?_⟩) hr
 ·intro j u hj
  simp only [lget] at hj
  simp only [T.get_set]
  split at hj
  ·next hb=>rw [if_pos (Nat.eq_of_beq_eq_true hb)];exact hj
  ·next hb =>
   rw [if_neg (fun c=>by subst c;simp at hb)]
   exact ht j u hj
 ·intro w0 s arr a1 a2 a3
  refine ⟨s,rfl,a1,Ext.refl s,a2,?_⟩
  intro j u hj
  simp only [T.get_set] at hj
  split at hj
  ·next hjd =>
   cases hj
   subst hjd
   obtain ⟨x,x1,x2⟩:=a3 j _ (ht j _ hd)
   exact ⟨x,x1,RV_tl_no x2⟩
  ·exact a3 j u hj
end
end Go.Pv
namespace Go.Pv
open Go.Am Go.RowKit
mutual
def PV.lone:PV→Bool
 |.lit _=>true
 |.agg l=>PV.lones l
 |.tup l=>PV.lones l
 |.ifc _ v=>PV.lone v
 |_=>false
def PV.lones:List PV→Bool
 |[]=>true
 |v::vs=>PV.lone v && PV.lones vs
end
mutual
theorem lone_rv {s s':St}:∀ (v:PV),v.lone=true→∀ x,RV s v x→RV s' v x
 |.lit a,_,x,h=>RV_lit.2 (RV_lit.1 h)
 |.agg l,hv,x,h=>by
  obtain ⟨y,rfl,h2⟩:=RV_agg.1 h
  exact RV_agg.2 ⟨y,rfl,lones_rv l (by simpa [PV.lone] using hv) _ h2⟩
 |.tup l,hv,x,h=>by
  obtain ⟨y,rfl,h2⟩:=RV_tup.1 h
  exact RV_tup.2 ⟨y,rfl,lones_rv l (by simpa [PV.lone] using hv) _ h2⟩
 |.ifc t v,hv,x,h=>by
  obtain ⟨y,rfl,h2⟩:=RV_ifc.1 h
  exact RV_ifc.2 ⟨y,rfl,lone_rv v (by simpa [PV.lone] using hv) _ h2⟩
 |.sl tl l,hv,_,_=>by simp [PV.lone] at hv
 |.fp v,hv,_,_=>by simp [PV.lone] at hv
 |.ptr i o,hv,_,_=>by simp [PV.lone] at hv
 |.ms i o a b c,hv,_,_=>by simp [PV.lone] at hv
 |.mp i,hv,_,_=>by simp [PV.lone] at hv
 |.fn f a b,hv,_,_=>by simp [PV.lone] at hv
 |.yld i,hv,_,_=>by simp [PV.lone] at hv
 |.fm ks vs,hv,_,_=>by simp [PV.lone] at hv
theorem lones_rv {s s':St}:∀ (l:List PV),PV.lones l=true→∀ xs,RVs s l xs→RVs s' l xs
 |[],_,xs,h=>RVs_nil.2 (RVs_nil.1 h)
 |v::vs,hv,xs,h=>by
  simp only [PV.lones,Bool.and_eq_true] at hv
  obtain ⟨y,ys,rfl,h1,h2⟩:=RVs_cons.1 h
  exact RVs_cons.2 ⟨y,ys,rfl,lone_rv v hv.1 _ h1,lones_rv vs hv.2 _ h2⟩
end
theorem RVs.split {s:St}:∀ {a b:List PV} {xs:List Value},RVs s (a++b) xs→∃ x y,xs=x++y∧RVs s a x∧RVs s b y
 |[],b,xs,h=>⟨[],xs,rfl,RVs_nil.2 rfl,h⟩
 |v::a,b,xs,h=>by
  rw [List.cons_append] at h
  obtain ⟨y,ys,rfl,h1,h2⟩:=RVs_cons.1 h
  obtain ⟨p,q,rfl,h3,h4⟩:=RVs.split h2
  exact ⟨y::p,q,rfl,RVs_cons.2 ⟨y,p,rfl,h1,h3⟩,h4⟩
section
variable {w0:Base} {s:St} {k n o:Nat} {l:List PV} {b:PBlk} {w':World}
end
section
variable {C:Cx} {F:EQ} {X:EX} {k:List KI} {e:EL} {ds:List Nat} {K:PV→PH→Prop} {n:Nat} {hl:HL}
variable {d:Option Tmp} {type:TypeId} {pos:String} {after:Array Edge} {guard:Option (Nat×Bool)}
theorem Ope.storeR {t:Nat} {a x:Operand} {agg:Bool} {i o m:Nat} {v:PV} [ht:Ty C.A t agg 1] (ha:pev (lget e) a=some (.ptr i o)) (hx:pev (lget e) x=some v) (hg:hget hl i=some (.raw m 0 [])) (hnc:v.nc=1) (hom:o < m) (ho:PV.allOne v.cells=true)
  (hK:K (.tup []) (HE n hl)):Ope C X { dst:=d,op:=.store t a x,type,pos,after,guard } e ds (HE n hl) K:=by
 obtain ⟨d',ti,h1,h2,_,h3⟩:=ht.get
 unfold Ope
 simp only [pop,pkind,ploud,ha,hx,PStore,h2]
 exact .inr ⟨m,hg,hnc,h3,hom,ho,hK⟩
theorem Ope.apR {t tx bytes sz' bytes' j o len cap m:Nat} {ez:Option Nat} {agg agg':Bool} {x y:Operand} {vs ws:List PV} [hs:Slc C.A t agg 1 bytes] [hs':Slc C.A tx agg' sz' bytes'] (hx:pev (lget e) x=some (.sl .ex vs)) (hy:pev (lget e) y=some (.ms j o len cap ez)) (hg:hget hl j=some (.raw m o ws)) (hlen:len=ws.length) (hne:ws≠[])
  (hb1:(vs.length+ws.length) * bytes≤140737488355328) (hb2:vs.length+ws.length≤1000000000) (hv:∀ v∈vs,v.nc=1) (hw:∀ v∈ws,v.isAgg=false) (hK:K (.sl .no (vs++ws)) (HE (n+1) hl)) :
  Ope C X { dst:=d,op:=.call { callee:=.builtin .append,args:=#[x,y],argTypes:=#[t,tx] },type,pos,after,guard } e ds (HE n hl) K:=by
 obtain ⟨el,ti,q1,q2,q3,q4,q5⟩:=hs.get
 obtain ⟨d',ti',h4,h5,_,h6⟩:=q2.get
 rw [q3] at h5
 cases h5
 subst q4
 obtain ⟨el',ti',q1',_⟩:=hs'.get
 unfold Ope
 simp only [pop,pkind,ploud,pargs,hx,hy,PAppend,q1,q1',q3]
 exact ⟨m,ws,hg,hlen,hne,hb1,hb2,h6,q5,Each.of fun v hv'=>by rw [h6];exact hv v hv',hw,hK⟩
theorem Run.forget {c:Code} {i m o:Nat} {ws:List PV} (hg:hget hl i=some (.raw m o ws)) (hr:Run C F X (.c c::k) e ds (HE n ((i,some (.raw m 0 []))::hl))):Run C F X (.c c::k) e ds (HE n hl):=by
 refine Run.ghost (fun t ht=>⟨t,ht,fun w0 s arr hw hh hT=>?_⟩) hr
 have hi:s.h.get i=some (.raw m o ws):=by rw [hh];exact hg
 obtain ⟨p1,p2,arr',t',z,g1,g2,g3,_⟩:=hw.hp i _ hi
 have hput:HE n ((i,some (.raw m 0 []))::hl)=s.h.put i (.raw m 0 []):=by rw [hh,HE_put]
 have hlv:=(BAt_live (b:=.raw m o ws) rfl).1 p2
 have hx:Ext s (s.put i (.raw m 0 []) s.w):=Ext.put hlv (Nat.le_refl _) fun _ _=>rfl
 refine ⟨s.put i (.raw m 0 []) s.w,rfl,?_,hx,hput.symm,hT.ext hx⟩
 refine ⟨hw.os,hw.tape,hw.output,hw.size,hw.old,hw.prot,hw.cold,hw.inb,hw.ob,fun j b hj=>?_⟩
 simp only [St.put,PH.put] at hj
 split at hj
 ·next e =>
  cases hj
  subst e
  exact ⟨p1,(BAt_live (b:=.raw m 0 []) rfl).2 hlv,arr',t',z,g1,g2,g3,[],RVs_nil.2 rfl,fun j y hj=>by simp at hj⟩
 ·obtain ⟨q1,q2,q3⟩:=hw.hp j b hj
  exact ⟨q1,BAt.congr (s':=s.put i (.raw m 0 []) s.w) (s:=s) rfl rfl q2,q3.ext hx rfl⟩
end
end Go.Pv
