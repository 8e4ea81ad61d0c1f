/- Parts of the proof: E36, E37 -/
import Derived.Test.YtfpihegkllffbaaGreatP22
set_option linter.unusedVariables false
set_option linter.unusedSimpArgs false
set_option linter.unusedSectionVars false
namespace Go.Pv
open Go.Proofs Go.Am
set_option maxRecDepth 10000
set_option maxHeartbeats 2000000
theorem tolI_no {f:Fns} (h:f.B=true) (z:Int):tolI f false z=.tup [I 0,I 2]:=by unfold tolI;rw [if_pos h,if_neg (by decide)]
section
variable (f:Fns) {t1 t2:Tail} (h1:t1.isOwn=false) (h2:t2.isOwn=false)
include h1 h2
theorem f32 (hf:f.ok) (r most:Int) (hr:0≤r∧r < f.n) (x:Nat) (hx:x < 64):Fn P0 32 [N x,.fp (f.v t1 t2),.fp (I r),.fp (I most)] (B (decide (most < ((f.wo x).spn (gF r)).hi))):=by
  have hl5:=hf.li
  have hr4:=hf.ru
  have hfw:=hf.wo x
  have hwo:=f33 f h1 h2 hl5 x hx
  have hfi:=f15 (f.wo x) (t1:=t1) (t2:=.no) h1 rfl (Nat.le_trans hfw.ru (by decide)) (Nat.le_trans hfw.li (by decide)) r
  rw [show numB (f.wo x).n r=true from by show (decide (0≤r) && decide (r < f.n))=true;rw [decide_eq_true hr.1,decide_eq_true hr.2];rfl,tolS_ok (fns_B (f.wo x) hfw)] at hfi
  have hb1:PV.bds 0 [f.v t1 t2,N x]=true:=bd_fnsV f h1 h2 rfl
  have hb2:PV.bds 0 [(f.wo x).v t1 .no,I r]=true:=bd_fnsV (f.wo x) h1 rfl rfl
  generalize (f.wo x).spn (gF r)=e at *
  generalize f.wo x=w at *
  obtain ⟨a,b⟩:=e
  refine PFun.of (C:=c32) (cx_ok _ _ _) rfl (fn:=Tryz.f32) (by kernel_rfl) (c:=_) rfl rfl rfl ?_
  refine Run.seq (Run.region (cx_ok _ _ _) (Reg.op rfl (Ope.asg rfl ?_)))
  refine Reg.nil (Run.seq (Run.drawL (cx_ok _ _ _) [[(0,true),(1,true),(3,false),(2,true),(4,true),(5,true),(6,true),(7,true),(8,true),(9,true),(10,true)],[(0,true),(1,true),(3,false),(2,true),(8,true),(4,true),(5,true),(6,true),(7,true),(9,true),(10,true)],[(0,false),(1,true),(3,false),(8,true),(2,true),(4,true),(5,true),(6,true),(7,true),(9,true),(10,true)]] (by kernel_rfl) ⟨?_,?_,?_,trivial⟩))
  ·refine Dra.op' rfl rfl rfl .sure (Ope.load rfl rfl ?_)
   refine Dra.op' rfl rfl rfl .sure (Ope.mov rfl ?_)
   refine Dra.op' rfl rfl rfl (.load rfl) (Ope.load rfl rfl ?_)
   refine Dra.op' rfl rfl rfl .sure (Ope.cf rfl rfl hwo hb1 ?_)
   refine Dra.op' rfl rfl rfl .sure (Ope.cf rfl rfl hfi hb2 ?_)
   refine Dra.op' rfl rfl rfl .sure (Ope.mov rfl ?_)
   refine Dra.op' rfl rfl rfl .sure (Ope.ext rfl rfl ?_)
   refine Dra.op' rfl rfl rfl .sure (Ope.ext rfl rfl ?_)
   refine Dra.op' rfl rfl rfl .sure (Ope.newL rfl ?_)
   refine Dra.op' rfl rfl rfl .sure (Ope.store rfl rfl rfl rfl rfl rfl ?_)
   refine Dra.op' rfl rfl rfl .sure (Ope.asg rfl ?_)
   refine Dra.nil (Run.seq (Run.region (cx_ok _ _ _) (Reg.op rfl (Ope.mov rfl ?_))))
   refine Reg.op rfl (Ope.ne rfl rfl ?_)
   refine Reg.op rfl (Ope.mov rfl ?_)
   refine Reg.splitX rfl rfl (fun hg=>?_) fun hg=>?_
   ·(first | exact absurd rfl hg | (exact absurd hg (by decide)))
   ·refine Reg.on rfl rfl rfl (Ope.fld rfl rfl ?_)
    refine Reg.on rfl rfl rfl (Ope.load rfl rfl ?_)
    refine Reg.on rfl rfl rfl (Ope.load rfl rfl ?_)
    refine Reg.on rfl rfl rfl (Ope.gt rfl rfl ?_)
    refine Reg.op rfl (Ope.pickF rfl rfl ?_)
    refine Reg.op rfl (Ope.asg rfl ?_)
    exact Reg.nil (Run.ret (fin_ret (.tmp rfl .nil) rfl rfl))
  ·refine Dra.op' rfl rfl rfl .sure (Ope.load rfl rfl ?_)
   refine Dra.op' rfl rfl rfl .sure (Ope.mov rfl ?_)
   refine Dra.op' rfl rfl rfl (.load rfl) (Ope.load rfl rfl ?_)
   refine Dra.op' rfl rfl rfl .sure (Ope.cf rfl rfl hwo hb1 ?_)
   refine Dra.op' rfl rfl rfl .sure (Ope.newL rfl ?_)
   refine Dra.op' rfl rfl rfl .sure (Ope.cf rfl rfl hfi hb2 ?_)
   refine Dra.op' rfl rfl rfl .sure (Ope.mov rfl ?_)
   refine Dra.op' rfl rfl rfl .sure (Ope.ext rfl rfl ?_)
   refine Dra.op' rfl rfl rfl .sure (Ope.ext rfl rfl ?_)
   refine Dra.op' rfl rfl rfl .sure (Ope.store rfl rfl rfl rfl rfl rfl ?_)
   refine Dra.op' rfl rfl rfl .sure (Ope.asg rfl ?_)
   refine Dra.nil (Run.seq (Run.region (cx_ok _ _ _) (Reg.op rfl (Ope.mov rfl ?_))))
   refine Reg.op rfl (Ope.ne rfl rfl ?_)
   refine Reg.op rfl (Ope.mov rfl ?_)
   refine Reg.splitX rfl rfl (fun hg=>?_) fun hg=>?_
   ·(first | exact absurd rfl hg | (exact absurd hg (by decide)))
   ·refine Reg.on rfl rfl rfl (Ope.fld rfl rfl ?_)
    refine Reg.on rfl rfl rfl (Ope.load rfl rfl ?_)
    refine Reg.on rfl rfl rfl (Ope.load rfl rfl ?_)
    refine Reg.on rfl rfl rfl (Ope.gt rfl rfl ?_)
    refine Reg.op rfl (Ope.pickF rfl rfl ?_)
    refine Reg.op rfl (Ope.asg rfl ?_)
    exact Reg.nil (Run.ret (fin_ret (.tmp rfl .nil) rfl rfl))
  ·refine Dra.op' rfl rfl rfl (.load rfl) (Ope.load rfl rfl ?_)
   refine Dra.op' rfl rfl rfl .sure (Ope.mov rfl ?_)
   refine Dra.op' rfl rfl rfl (.load rfl) (Ope.load rfl rfl ?_)
   refine Dra.op' rfl rfl rfl .sure (Ope.newL rfl ?_)
   refine Dra.op' rfl rfl rfl .sure (Ope.cf rfl rfl hwo hb1 ?_)
   refine Dra.op' rfl rfl rfl .sure (Ope.cf rfl rfl hfi hb2 ?_)
   refine Dra.op' rfl rfl rfl .sure (Ope.mov rfl ?_)
   refine Dra.op' rfl rfl rfl .sure (Ope.ext rfl rfl ?_)
   refine Dra.op' rfl rfl rfl .sure (Ope.ext rfl rfl ?_)
   refine Dra.op' rfl rfl rfl .sure (Ope.store rfl rfl rfl rfl rfl rfl ?_)
   refine Dra.op' rfl rfl rfl .sure (Ope.asg rfl ?_)
   refine Dra.nil (Run.seq (Run.region (cx_ok _ _ _) (Reg.op rfl (Ope.mov rfl ?_))))
   refine Reg.op rfl (Ope.ne rfl rfl ?_)
   refine Reg.op rfl (Ope.mov rfl ?_)
   refine Reg.splitX rfl rfl (fun hg=>?_) fun hg=>?_
   ·(first | exact absurd rfl hg | (exact absurd hg (by decide)))
   ·refine Reg.on rfl rfl rfl (Ope.fld rfl rfl ?_)
    refine Reg.on rfl rfl rfl (Ope.load rfl rfl ?_)
    refine Reg.on rfl rfl rfl (Ope.load rfl rfl ?_)
    refine Reg.on rfl rfl rfl (Ope.gt rfl rfl ?_)
    refine Reg.op rfl (Ope.pickF rfl rfl ?_)
    refine Reg.op rfl (Ope.asg rfl ?_)
    exact Reg.nil (Run.ret (fin_ret (.tmp rfl .nil) rfl rfl))
theorem f8a (hS:f.ru.length≤9223372036854775807) (hJ:f.li.length≤9223372036854775807) (p q c:PV) (bh:Bool) (hh:Fn P0 11 [f.v t1 t2,I 4000,.sl .ex []] (B bh)) (hv:bh=true∨f.B=false):Fn P0 8 [f.v t1 t2,p,q,c] (B true):=by
  have hfi:=f26 f h1 h2 hS hJ
  have hb:PV.bds 0 [f.v t1 t2,I 4000,.sl .ex []]=true:=bd_fnsV f h1 h2 rfl
  have hb0:PV.bds 0 [f.v t1 t2]=true:=bd_fnsV f h1 h2 rfl
  generalize f.B=y at *
  refine PFun.of (C:=c8) (cx_ok _ _ _) rfl (fn:=Tryz.f8) (by kernel_rfl) (c:=_) rfl rfl rfl ?_
  refine Run.seq (Run.region (cx_ok _ _ _) (Reg.op rfl (Ope.boxF rfl rfl ?_)))
  refine Reg.op rfl (Ope.asg rfl ?_)
  refine Reg.nil (Run.seq (Run.seq (Run.region (cx_ok _ _ _) (Reg.op rfl (Ope.load rfl rfl ?_)))))
  refine Reg.op rfl (Ope.cf rfl rfl hh hb ?_)
  refine Reg.op rfl (Ope.mov rfl ?_)
  refine Reg.splitX rfl rfl (fun hg=>?_) fun hg=>?_
  ·refine Reg.off rfl rfl rfl (Reg.off rfl rfl rfl (Reg.off rfl rfl rfl (Reg.op rfl (Ope.pickT rfl rfl ?_))))
   refine Reg.nil (Run.condT rfl (Run.seq (Run.region (cx_ok _ _ _) (Reg.op rfl (Ope.cf rfl rfl (aliveF) rfl ?_)))))
   refine Reg.op rfl (Ope.asg rfl ?_)
   exact Reg.nil (Run.ret (Jmp.code (fin_ret (.tmp rfl .nil) rfl rfl)))
  ·refine Reg.on rfl rfl rfl (Ope.load rfl rfl ?_)
   refine Reg.on rfl rfl rfl (Ope.cf rfl rfl hfi hb0 ?_)
   refine Reg.on rfl rfl rfl (Ope.not rfl ?_)
   refine Reg.op rfl (Ope.pickF rfl rfl ?_)
   refine Reg.nil (Run.condX rfl (fun hc=>?_) fun hc=>?_)
   ·refine Run.seq (Run.region (cx_ok _ _ _) (Reg.op rfl (Ope.cf rfl rfl (aliveF) rfl ?_)))
    refine Reg.op rfl (Ope.asg rfl ?_)
    exact Reg.nil (Run.ret (Jmp.code (fin_ret (.tmp rfl .nil) rfl rfl)))
   ·(exfalso;simp_all;done)
theorem f8v (hf : f.ok) (hh : Fn P0 11 [f.v t1 t2, I 4000, .sl .ex []] (B false)) (p q c : Nat) (hp : p < 256) (hq : q < 256) (hc16 : c < 65536) : Fn P0 8 [f.v t1 t2, .lit (.int .u8 (p : Int)), .lit (.int .u8 (q : Int)), .lit (.int .u16 (c : Int))] (B true) := by
  have hl5:=hf.li
  have hr4:=hf.ru
  have hS:f.ru.length≤9223372036854775807:=by omega
  have hJ:f.li.length≤9223372036854775807:=by omega
  have hv:=fns_B f hf
  have hfi:=f26 f h1 h2 hS hJ
  rw [hv] at hfi
  have hb:PV.bds 0 [f.v t1 t2,I 4000,.sl .ex []]=true:=bd_fnsV f h1 h2 rfl
  have hb0:PV.bds 0 [f.v t1 t2]=true:=bd_fnsV f h1 h2 rfl
  obtain ⟨kn,hkn,hk6⟩:∃ k:Nat,f.n=(k:Int)∧(0 < k∧k≤6):=⟨f.n.toNat,by have:=hf.n;omega,by have:=hf.n;omega⟩
  have hrlt:p % kn < kn:=Nat.mod_lt _ hk6.1
  generalize hr:p % kn=r at *
  generalize hm:c % 2500=most at *
  have hrn:(0:Int)≤(r:Int)∧(r:Int) < f.n:=by omega
  have hqu:=fun x hx=>f32 f h1 h2 hf (r:Int) (most:Int) hrn x hx
  have hw1:=f24 f h1 h2 hS hJ (r:Int) (most:Int)
  rw [show (numB f.n (r:Int) && decide ((0:Int)≤(most:Int)))=true from by unfold numB;rw [decide_eq_true hrn.1,decide_eq_true hrn.2,decide_eq_true (by omega)];rfl,tolI_ok hv] at hw1
  have hw2:=f24 f h1 h2 hS hJ (r:Int) (-1)
  rw [show (numB f.n (r:Int) && decide ((0:Int)≤-1))=false from by rw [decide_eq_false (by decide),Bool.and_false],tolI_no hv] at hw2
  have hw3:=f24 f h1 h2 hS hJ f.n (most:Int)
  rw [show (numB f.n f.n && decide ((0:Int)≤(most:Int)))=false from by unfold numB;rw [decide_eq_false (Int.lt_irrefl _),Bool.and_false,Bool.false_and],tolI_no hv] at hw3
  have hbw:∀ a b:Int,PV.bds 0 [f.v t1 t2,I a,I b]=true:=fun a b=>bd_fnsV f h1 h2 rfl
  have hbq:∀ x:Nat,PV.bds 0 [N x,.fp (f.v t1 t2),.fp (I (r:Int)),.fp (I (most:Int))]=true:=fun x=>bds_cons rfl (bd_fnsV f h1 h2 rfl)
  have hp2:2 ^ f.li.length≤2 ^ 5:=Nat.pow_le_pow_right (by decide) hl5
  have hp0:0 < 2 ^ f.li.length:=Nat.pow_pos (by decide)
  have hmem:∀ x,x∈f.wd (r:Int) (most:Int) (2 ^ f.li.length)↔x < 2 ^ f.li.length∧((f.wo x).spn (gF (r:Int))).hi≤(most:Int):=fun x=>wd_mem
  have hin:=fstL_mem (wd_ne hf (r:=(r:Int)) (most:=(most:Int)) (by omega))
  have hmin:=fun {x} (hx:x∈f.wd (r:Int) (most:Int) (2 ^ f.li.length))=>fstL_min (wd_sorted f (r:Int) (most:Int) (2 ^ f.li.length)) hx
  have hsz:=fun x hx=>f34 x hx
  generalize hSS:fstL (f.wd (r:Int) (most:Int) (2 ^ f.li.length))=S at *
  generalize f.wd (r:Int) (most:Int) (2 ^ f.li.length)=W at *
  generalize hE:(fun x=>((f.wo x).spn (gF (r:Int))).hi)=E at *
  have hE':∀ x,((f.wo x).spn (gF (r:Int))).hi=E x:=fun x=>by rw [← hE]
  simp only [hE'] at hmem hqu
  have hS1:=(hmem S).1 hin
  have hS64:S < 64:=by omega
  have hshr:∀ m,S >>> m≤S:=fun m=>Nat.shiftRight_le _ _
  have hS2:∀ m,S >>> m &&& 1=if S.testBit m=true then 1 else 0:=fun m=>by
    rw [Nat.testBit,Nat.and_comm 1 (S >>> m),Nat.and_one_is_mod]
    rcases Nat.mod_two_eq_zero_or_one (S >>> m) with h | h<;>simp [h]
  have hless:=fun i hi hb=>cn_less S hS64 i hi hb
  have hown:q &&& (2 ^ f.li.length - 1) < 2 ^ f.li.length:=by have:=@Nat.and_le_right q (2 ^ f.li.length - 1);omega
  have hq1:=hqu S hS64
  rw [show decide ((most:Int) < E S)=false from decide_eq_false (by omega)] at hq1
  have hq2:=hqu (q &&& (2 ^ f.li.length - 1)) (by omega)
  have hz1:=hsz (q &&& (2 ^ f.li.length - 1)) (by show _ < 64;omega)
  have hz2:=hsz S hS64
  have ho1:¬ (most:Int) < E (q &&& (2 ^ f.li.length - 1))→cn S≤cn (q &&& (2 ^ f.li.length - 1))∧(cn (q &&& (2 ^ f.li.length - 1))=cn S→S≤q &&& (2 ^ f.li.length - 1)):=fun h=>hmin ((hmem _).2 ⟨hown,by omega⟩)
  have hbO:=hbq (q &&& (2 ^ f.li.length - 1))
  have hbS:=hbq S
  have hnl:∀ i (hi:i < 6),S.testBit i=true→Fn P0 32 [N (S &&& (2 ^ 64 - 1 - 1 * 2 ^ i)),.fp (f.v t1 t2),.fp (I (r:Int)),.fp (I (most:Int))] (B true):=fun i hi hb=>by
    obtain ⟨a1,a2,a3⟩:=hless i hi hb
    have h:=hqu _ a1
    rw [decide_eq_true (show (most:Int) < E (S &&& (2 ^ 64 - 1 - 1 * 2 ^ i)) from by
      rcases Int.lt_or_le (most:Int) (E (S &&& (2 ^ 64 - 1 - 1 * 2 ^ i))) with h | h
      · exact h
      · have := (hmin ((hmem _).2 ⟨by omega, h⟩)).1
        omega)] at h
    exact h
  have e1:((1 * 2 ^ f.li.length:Nat):Int) - 1=((2 ^ f.li.length - 1:Nat):Int):=by omega
  generalize hO:q &&& (2 ^ f.li.length - 1)=O at *
  generalize cn O=cO at *
  generalize cn S=cS at *
  generalize hEO:E O=eO at *
  have hpw:∀ i,i < 6→2 ^ i≤2 ^ 6:=fun i hi=>Nat.pow_le_pow_right (by decide) (by omega)
  obtain ⟨ru,n,li⟩:=f
  simp only at hkn
  subst hkn
  simp only at hl5 hr4 hp2 hp0 hown hO e1 hS1
  have hr':p % kn=r:=hr
  refine PFun.of (C:=c8) (cx_ok _ _ _) rfl (fn:=Tryz.f8) (by kernel_rfl) (c:=_) rfl rfl rfl ?_
  refine Run.seq (Run.region (cx_ok _ _ _) (Reg.op rfl (Ope.boxF rfl rfl ?_)))
  refine Reg.op rfl (Ope.asg rfl ?_)
  refine Reg.nil (Run.seq (Run.seq (Run.region (cx_ok _ _ _) (Reg.op rfl (Ope.load rfl rfl ?_)))))
  refine Reg.op rfl (Ope.cf rfl rfl hh hb ?_)
  refine Reg.op rfl (Ope.mov rfl ?_)
  refine Reg.on rfl rfl rfl (Ope.load rfl rfl ?_)
  refine Reg.on rfl rfl rfl (Ope.cf rfl rfl hfi hb0 ?_)
  refine Reg.on rfl rfl rfl (Ope.not rfl ?_)
  refine Reg.op rfl (Ope.pickF rfl rfl ?_)
  refine Reg.nil (Run.condF rfl (Run.skip (Run.seq (Run.region (cx_ok _ _ _) (Reg.op rfl (Ope.mov rfl ?_))))))
  refine Reg.op rfl (Ope.conv (b:=((p:Nat):Int)) rfl (wrap_nat (by show p < 2 ^ 63;omega)) ?_)
  refine Reg.op rfl (Ope.fld rfl rfl ?_)
  refine Reg.op rfl (Ope.load rfl rfl ?_)
  refine Reg.op rfl (Ope.remN (p:=p) (q:=kn) rfl rfl rfl rfl hk6.1 ?_)
  rw [hr']
  refine Reg.op rfl (Ope.mov rfl ?_)
  refine Reg.op rfl (Ope.conv (b:=((c:Nat):Int)) rfl (wrap_nat (by show c < 2 ^ 63;omega)) ?_)
  refine Reg.op rfl (Ope.remN (p:=c) (q:=2500) rfl rfl rfl rfl (by decide) ?_)
  rw [hm]
  refine Reg.op rfl (Ope.newL rfl ?_)
  refine Reg.op rfl (Ope.newL rfl ?_)
  refine Reg.op0 (Ope.store rfl rfl rfl rfl rfl rfl ?_)
  refine Reg.op0 (Ope.store rfl rfl rfl rfl rfl rfl ?_)
  refine Reg.nil (Run.seq (Run.frz (d:=9) false rfl rfl rfl ?_))
  refine Run.frz (d:=10) false rfl rfl rfl ?_
  refine Run.wide (m:=2) (l':=[]) (Nat.le_refl _) trivial ?_
  refine Run.region (cx_ok _ _ _) (Reg.op rfl (Ope.load rfl rfl ?_))
  refine Reg.op rfl (Ope.load rfl rfl ?_)
  refine Reg.op rfl (Ope.load rfl rfl ?_)
  refine Reg.op rfl (Ope.cf rfl rfl hw1 (hbw _ _) ?_)
  refine Reg.op rfl (Ope.mov rfl ?_)
  refine Reg.op rfl (Ope.ext rfl rfl ?_)
  refine Reg.op rfl (Ope.ext rfl rfl ?_)
  refine Reg.op rfl (Ope.asg rfl ?_)
  refine Reg.op rfl (Ope.asg rfl ?_)
  refine Reg.nil (Run.seq (Run.region (cx_ok _ _ _) (Reg.op rfl (Ope.mkf rfl rfl ?_))))
  refine Reg.op rfl (Ope.asg rfl ?_)
  refine Reg.nil (Run.seq (Run.region (cx_ok _ _ _) (Reg.op rfl (Ope.fld rfl rfl ?_))))
  refine Reg.op rfl (Ope.load rfl rfl ?_)
  refine Reg.op rfl (Ope.len (m:=li.length) rfl (by simp) ?_)
  refine Reg.op rfl (Ope.shlN (p:=1) (m:=li.length) rfl rfl rfl rfl (by omega) (by omega) ?_)
  refine Reg.op rfl (Ope.sub rfl rfl (by omega) ?_)
  rw [e1]
  refine Reg.op rfl (Ope.asg rfl ?_)
  refine Reg.nil (Run.seq (Run.seq (Run.region (cx_ok _ _ _) (Reg.op rfl (Ope.mov rfl ?_)))))
  refine Reg.op rfl (Ope.ne rfl rfl ?_)
  refine Reg.op rfl (Ope.mov rfl ?_)
  refine Reg.splitX rfl rfl (fun hg=>?_) fun hg=>?_
  ·(first | (exfalso;omega) | exact absurd rfl hg | (exact absurd hg (by decide)))
  ·refine Reg.on rfl rfl rfl (Ope.mov rfl ?_)
   refine Reg.on rfl rfl rfl (Ope.lt rfl rfl ?_)
   refine Reg.op rfl (Ope.pickF rfl rfl ?_)
   refine Reg.op rfl (Ope.mov rfl ?_)
   refine Reg.splitX rfl rfl (fun hg=>?_) fun hg=>?_
   ·(first | (exfalso;omega) | exact absurd rfl hg | (exact absurd hg (by decide)))
   ·refine Reg.on rfl rfl rfl (Ope.mov rfl ?_)
    refine Reg.on rfl rfl rfl (Ope.mov rfl ?_)
    refine Reg.on rfl rfl rfl (Ope.gt rfl rfl ?_)
    refine Reg.op rfl (Ope.pickF rfl rfl ?_)
    refine Reg.op rfl (Ope.mov rfl ?_)
    refine Reg.splitX rfl rfl (fun hg=>?_) fun hg=>?_
    ·(first | (exfalso;omega) | exact absurd rfl hg | (exact absurd hg (by decide)))
    ·refine Reg.on rfl rfl rfl (Ope.mov rfl ?_)
     refine Reg.on rfl rfl rfl (Ope.mov rfl ?_)
     refine Reg.on rfl rfl rfl (Ope.cf rfl rfl hq1 hbS ?_)
     refine Reg.op rfl (Ope.pickF rfl rfl ?_)
     refine Reg.nil (Run.condX rfl (fun hc=>?_) fun hc=>?_)
     ·(first | (exfalso;omega) | exact absurd rfl hc | (exact absurd hc (by decide)))
     ·refine Run.skip (Run.seq (Run.seq (Run.region (cx_ok _ _ _) (Reg.op rfl (Ope.fld rfl rfl ?_)))))
      refine Reg.op rfl (Ope.load rfl rfl ?_)
      refine Reg.op rfl (Ope.len (m:=li.length) rfl (by simp) ?_)
      refine Reg.op rfl (Ope.mov rfl ?_)
      refine Reg.nil (Run.block (Run.loop (α:=Nat) (fun i=>[(2,.lit (.int .u8 (q:Int))),(4,.fp ((⟨ru,(kn:Int),li⟩:Fns).v t1 t2)),(9,.fp (I (r:Int))),(10,.fp (I (most:Int))),(11,N S),(13,.fn (.func 32) [] [.fp ((⟨ru,(kn:Int),li⟩:Fns).v t1 t2),.fp (I (r:Int)),.fp (I (most:Int))]),(14,N (2 ^ li.length - 1)),(69,I li.length),(70,I i)]) (fun i=>HE 2 []) (fun i=>i≤li.length) (fun i=>li.length - i) 0 ⟨rfl,rfl,rfl,rfl,rfl,rfl,rfl,rfl,rfl,trivial⟩ rfl (Nat.zero_le _) (fun i hi=>?_)))
      refine Run.seq (Run.region (cx_ok _ _ _) (Reg.op rfl (Ope.lt rfl rfl ?_)))
      refine Reg.nil (Run.seq (Run.condX rfl (fun hc=>?_) fun hc=>?_))
      ·refine Run.skip (Run.seq (Run.block (Run.seq ?_)))
       have hlt:i < li.length:=by omega
       have hi6:i < 6:=by omega
       have hpi:=hpw i hi6
       have hshi:=hshr i
       have hnli:=hnl i hi6
       have hbi:=hbq (S &&& (2 ^ 64 - 1 - 1 * 2 ^ i))
       refine Run.region (cx_ok _ _ _) (Reg.op rfl (Ope.mov rfl ?_))
       refine Reg.op rfl (Ope.asg rfl ?_)
       refine Reg.nil (Run.seq (Run.region (cx_ok _ _ _) (Reg.op rfl (Ope.mov rfl ?_))))
       refine Reg.op rfl (Ope.mov rfl ?_)
       refine Reg.op rfl (Ope.shrN (p:=S) (m:=i) rfl rfl rfl rfl (by show i≤64;omega) ?_)
       refine Reg.op rfl (Ope.andN (p:=S >>> i) (q:=1) rfl rfl rfl rfl (by show S >>> i < 2 ^ 64;omega) (by decide) ?_)
       rw [hS2 i]
       refine Reg.op rfl (Ope.eq rfl rfl ?_)
       refine Reg.op rfl (Ope.mov rfl ?_)
       refine Reg.splitX rfl rfl (fun hg=>?_) fun hg=>?_
       ·refine Reg.on rfl rfl rfl (Ope.mov rfl ?_)
        refine Reg.on rfl rfl rfl (Ope.mov rfl ?_)
        refine Reg.on rfl rfl rfl (Ope.mov rfl ?_)
        refine Reg.on rfl rfl rfl (Ope.shlN (p:=1) (m:=i) rfl rfl rfl rfl (by omega) (by omega) ?_)
        refine Reg.on rfl rfl rfl (Ope.andNotN (p:=S) (q:=1 * 2 ^ i) rfl rfl rfl rfl (by show S < 2 ^ 63;omega) (by show 1 * 2 ^ i < 2 ^ 63;omega) ?_)
        refine Reg.on rfl rfl rfl (Ope.cf rfl rfl (hnli (by revert hg;cases S.testBit i<;>simp)) hbi ?_)
        refine Reg.on rfl rfl rfl (Ope.not rfl ?_)
        refine Reg.op rfl (Ope.pickT rfl rfl ?_)
        refine Reg.nil (Run.condX rfl (fun hc=>?_) fun hc=>?_)
        ·(first | (exfalso;omega) | exact absurd rfl hc | (exact absurd hc (by decide)))
        ·refine Run.skip (Run.bend (Run.region (cx_ok _ _ _) (Reg.op rfl (Ope.add rfl rfl (by omega) ?_))))
         refine Reg.op rfl (Ope.mov rfl ?_)
         exact Reg.nil (Run.lend ⟨i+1,by omega,by omega,⟨rfl,rfl,rfl,rfl,rfl,rfl,rfl,rfl,rfl,trivial⟩,rfl,rfl⟩)
       ·refine Reg.off rfl rfl rfl (Reg.off rfl rfl rfl (Reg.off rfl rfl rfl (Reg.off rfl rfl rfl (Reg.off rfl rfl rfl (Reg.off rfl rfl rfl (Reg.off rfl rfl rfl (Reg.op rfl (Ope.pickF rfl rfl ?_))))))))
        refine Reg.nil (Run.condF rfl (Run.skip (Run.bend (Run.region (cx_ok _ _ _) (Reg.op rfl (Ope.add rfl rfl (by omega) ?_))))))
        refine Reg.op rfl (Ope.mov rfl ?_)
        exact Reg.nil (Run.lend ⟨i+1,by omega,by omega,⟨rfl,rfl,rfl,rfl,rfl,rfl,rfl,rfl,rfl,trivial⟩,rfl,rfl⟩)
      ·refine Run.exit (Jmp.code (Jmp.round (Jmp.here (Run.seq (Run.region (cx_ok _ _ _) (Reg.op rfl (Ope.mov rfl ?_)))))))
       refine Reg.op rfl (Ope.conv (b:=((q:Nat):Int)) rfl (wrap_nat (by show q < 2 ^ 63;omega)) ?_)
       refine Reg.op rfl (Ope.mov rfl ?_)
       refine Reg.op rfl (Ope.andN (p:=q) (q:=2 ^ li.length - 1) rfl rfl rfl rfl (by show q < 2 ^ 64;omega) (by show 2 ^ li.length - 1 < 2 ^ 63;omega) ?_)
       rw [hO]
       refine Reg.op rfl (Ope.asg rfl ?_)
       refine Reg.op rfl (Ope.asg rfl ?_)
       refine Reg.nil (Run.seq (Run.seq (Run.region (cx_ok _ _ _) (Reg.op rfl (Ope.mov rfl ?_)))))
       refine Reg.op rfl (Ope.mov rfl ?_)
       refine Reg.op rfl (Ope.cf rfl rfl hq2 hbO ?_)
       refine Reg.op rfl (Ope.not rfl ?_)
       refine Reg.op rfl (Ope.mov rfl ?_)
       refine Reg.splitX rfl rfl (fun hg=>?_) fun hg=>?_
       ·refine Reg.on rfl rfl rfl (Ope.mov rfl ?_)
        refine Reg.on rfl rfl rfl (Ope.mov rfl ?_)
        refine Reg.on rfl rfl rfl (Ope.cf rfl rfl (hz1) rfl ?_)
        refine Reg.on rfl rfl rfl (Ope.mov rfl ?_)
        refine Reg.on rfl rfl rfl (Ope.mov rfl ?_)
        refine Reg.on rfl rfl rfl (Ope.cf rfl rfl (hz2) rfl ?_)
        refine Reg.on rfl rfl rfl (Ope.lt rfl rfl ?_)
        refine Reg.on rfl rfl rfl (Ope.mov rfl ?_)
        refine Reg.splitX rfl rfl (fun hg=>?_) fun hg=>?_
        ·(first | (exfalso;omega) | exact absurd rfl hg | (exact absurd hg (by decide)))
        ·refine Reg.on rfl rfl rfl (Ope.mov rfl ?_)
         refine Reg.on rfl rfl rfl (Ope.mov rfl ?_)
         refine Reg.on rfl rfl rfl (Ope.cf rfl rfl (hz1) rfl ?_)
         refine Reg.on rfl rfl rfl (Ope.mov rfl ?_)
         refine Reg.on rfl rfl rfl (Ope.mov rfl ?_)
         refine Reg.on rfl rfl rfl (Ope.cf rfl rfl (hz2) rfl ?_)
         refine Reg.on rfl rfl rfl (Ope.eq rfl rfl ?_)
         refine Reg.on rfl rfl rfl (Ope.mov rfl ?_)
         refine Reg.splitX rfl rfl (fun hg=>?_) fun hg=>?_
         ·refine Reg.on rfl rfl rfl (Ope.mov rfl ?_)
          refine Reg.on rfl rfl rfl (Ope.mov rfl ?_)
          refine Reg.on rfl rfl rfl (Ope.lt rfl rfl ?_)
          refine Reg.on rfl rfl rfl (Ope.pickT rfl rfl ?_)
          refine Reg.on rfl rfl rfl (Ope.pickF rfl rfl ?_)
          refine Reg.op rfl (Ope.pickT rfl rfl ?_)
          refine Reg.nil (Run.condX rfl (fun hc=>?_) fun hc=>?_)
          ·(first | (exfalso;omega) | exact absurd rfl hc | (exact absurd hc (by decide)))
          ·refine Run.skip (Run.seq (Run.region (cx_ok _ _ _) (Reg.op rfl (Ope.load rfl rfl ?_))))
           refine Reg.op rfl (Ope.load rfl rfl ?_)
           refine Reg.op rfl (Ope.cf rfl rfl hw2 (hbw _ _) ?_)
           refine Reg.op rfl (Ope.mov rfl ?_)
           refine Reg.op rfl (Ope.ext rfl rfl ?_)
           refine Reg.op rfl (Ope.ext rfl rfl ?_)
           refine Reg.op rfl (Ope.asg rfl ?_)
           refine Reg.op rfl (Ope.asg rfl ?_)
           refine Reg.nil (Run.seq (Run.region (cx_ok _ _ _) (Reg.op rfl (Ope.load rfl rfl ?_))))
           refine Reg.op rfl (Ope.fld rfl rfl ?_)
           refine Reg.op rfl (Ope.load rfl rfl ?_)
           refine Reg.op rfl (Ope.load rfl rfl ?_)
           refine Reg.op rfl (Ope.cf rfl rfl hw3 (hbw _ _) ?_)
           refine Reg.op rfl (Ope.mov rfl ?_)
           refine Reg.op rfl (Ope.ext rfl rfl ?_)
           refine Reg.op rfl (Ope.ext rfl rfl ?_)
           refine Reg.op rfl (Ope.asg rfl ?_)
           refine Reg.op rfl (Ope.asg rfl ?_)
           refine Reg.nil (Run.seq (Run.region (cx_ok _ _ _) (Reg.op rfl (Ope.mov rfl ?_))))
           refine Reg.op rfl (Ope.eq rfl rfl ?_)
           refine Reg.op rfl (Ope.mov rfl ?_)
           refine Reg.splitX rfl rfl (fun hg=>?_) fun hg=>?_
           ·refine Reg.on rfl rfl rfl (Ope.mov rfl ?_)
            refine Reg.on rfl rfl rfl (Ope.eq rfl rfl ?_)
            refine Reg.op rfl (Ope.pickT rfl rfl ?_)
            refine Reg.op rfl (Ope.mov rfl ?_)
            refine Reg.splitX rfl rfl (fun hg=>?_) fun hg=>?_
            ·refine Reg.on rfl rfl rfl (Ope.cf rfl rfl (aliveF) rfl ?_)
             refine Reg.op rfl (Ope.pickT rfl rfl ?_)
             refine Reg.op rfl (Ope.asg rfl ?_)
             exact Reg.nil (Run.ret (fin_ret (.tmp rfl .nil) rfl rfl))
            ·(first | (exfalso;omega) | exact absurd rfl hg | (exact absurd hg (by decide)))
           ·(first | (exfalso;omega) | exact absurd rfl hg | (exact absurd hg (by decide)))
         ·refine Reg.off rfl rfl rfl (Reg.off rfl rfl rfl (Reg.off rfl rfl rfl (Reg.on rfl rfl rfl (Ope.pickF rfl rfl ?_))))
          refine Reg.on rfl rfl rfl (Ope.pickF rfl rfl ?_)
          refine Reg.op rfl (Ope.pickT rfl rfl ?_)
          refine Reg.nil (Run.condF rfl (Run.skip (Run.seq (Run.region (cx_ok _ _ _) (Reg.op rfl (Ope.load rfl rfl ?_))))))
          refine Reg.op rfl (Ope.load rfl rfl ?_)
          refine Reg.op rfl (Ope.cf rfl rfl hw2 (hbw _ _) ?_)
          refine Reg.op rfl (Ope.mov rfl ?_)
          refine Reg.op rfl (Ope.ext rfl rfl ?_)
          refine Reg.op rfl (Ope.ext rfl rfl ?_)
          refine Reg.op rfl (Ope.asg rfl ?_)
          refine Reg.op rfl (Ope.asg rfl ?_)
          refine Reg.nil (Run.seq (Run.region (cx_ok _ _ _) (Reg.op rfl (Ope.load rfl rfl ?_))))
          refine Reg.op rfl (Ope.fld rfl rfl ?_)
          refine Reg.op rfl (Ope.load rfl rfl ?_)
          refine Reg.op rfl (Ope.load rfl rfl ?_)
          refine Reg.op rfl (Ope.cf rfl rfl hw3 (hbw _ _) ?_)
          refine Reg.op rfl (Ope.mov rfl ?_)
          refine Reg.op rfl (Ope.ext rfl rfl ?_)
          refine Reg.op rfl (Ope.ext rfl rfl ?_)
          refine Reg.op rfl (Ope.asg rfl ?_)
          refine Reg.op rfl (Ope.asg rfl ?_)
          refine Reg.nil (Run.seq (Run.region (cx_ok _ _ _) (Reg.op rfl (Ope.mov rfl ?_))))
          refine Reg.op rfl (Ope.eq rfl rfl ?_)
          refine Reg.op rfl (Ope.mov rfl ?_)
          refine Reg.splitX rfl rfl (fun hg=>?_) fun hg=>?_
          ·refine Reg.on rfl rfl rfl (Ope.mov rfl ?_)
           refine Reg.on rfl rfl rfl (Ope.eq rfl rfl ?_)
           refine Reg.op rfl (Ope.pickT rfl rfl ?_)
           refine Reg.op rfl (Ope.mov rfl ?_)
           refine Reg.splitX rfl rfl (fun hg=>?_) fun hg=>?_
           ·refine Reg.on rfl rfl rfl (Ope.cf rfl rfl (aliveF) rfl ?_)
            refine Reg.op rfl (Ope.pickT rfl rfl ?_)
            refine Reg.op rfl (Ope.asg rfl ?_)
            exact Reg.nil (Run.ret (fin_ret (.tmp rfl .nil) rfl rfl))
           ·(first | (exfalso;omega) | exact absurd rfl hg | (exact absurd hg (by decide)))
          ·(first | (exfalso;omega) | exact absurd rfl hg | (exact absurd hg (by decide)))
       ·refine Reg.off rfl rfl rfl (Reg.off rfl rfl rfl (Reg.off rfl rfl rfl (Reg.off rfl rfl rfl (Reg.off rfl rfl rfl (Reg.off rfl rfl rfl (Reg.off rfl rfl rfl (Reg.off rfl rfl rfl (Reg.past rfl rfl rfl (Reg.past rfl rfl rfl (Reg.past rfl rfl rfl (Reg.past rfl rfl rfl (Reg.past rfl rfl rfl (Reg.past rfl rfl rfl (Reg.past rfl rfl rfl (Reg.past rfl rfl rfl (Reg.past rfl rfl rfl (Reg.past rfl rfl rfl (Reg.past rfl rfl rfl (Reg.past rfl rfl rfl (Reg.off rfl rfl rfl (Reg.op rfl (Ope.pickF rfl rfl ?_))))))))))))))))))))))
        refine Reg.nil (Run.condF rfl (Run.skip (Run.seq (Run.region (cx_ok _ _ _) (Reg.op rfl (Ope.load rfl rfl ?_))))))
        refine Reg.op rfl (Ope.load rfl rfl ?_)
        refine Reg.op rfl (Ope.cf rfl rfl hw2 (hbw _ _) ?_)
        refine Reg.op rfl (Ope.mov rfl ?_)
        refine Reg.op rfl (Ope.ext rfl rfl ?_)
        refine Reg.op rfl (Ope.ext rfl rfl ?_)
        refine Reg.op rfl (Ope.asg rfl ?_)
        refine Reg.op rfl (Ope.asg rfl ?_)
        refine Reg.nil (Run.seq (Run.region (cx_ok _ _ _) (Reg.op rfl (Ope.load rfl rfl ?_))))
        refine Reg.op rfl (Ope.fld rfl rfl ?_)
        refine Reg.op rfl (Ope.load rfl rfl ?_)
        refine Reg.op rfl (Ope.load rfl rfl ?_)
        refine Reg.op rfl (Ope.cf rfl rfl hw3 (hbw _ _) ?_)
        refine Reg.op rfl (Ope.mov rfl ?_)
        refine Reg.op rfl (Ope.ext rfl rfl ?_)
        refine Reg.op rfl (Ope.ext rfl rfl ?_)
        refine Reg.op rfl (Ope.asg rfl ?_)
        refine Reg.op rfl (Ope.asg rfl ?_)
        refine Reg.nil (Run.seq (Run.region (cx_ok _ _ _) (Reg.op rfl (Ope.mov rfl ?_))))
        refine Reg.op rfl (Ope.eq rfl rfl ?_)
        refine Reg.op rfl (Ope.mov rfl ?_)
        refine Reg.splitX rfl rfl (fun hg=>?_) fun hg=>?_
        ·refine Reg.on rfl rfl rfl (Ope.mov rfl ?_)
         refine Reg.on rfl rfl rfl (Ope.eq rfl rfl ?_)
         refine Reg.op rfl (Ope.pickT rfl rfl ?_)
         refine Reg.op rfl (Ope.mov rfl ?_)
         refine Reg.splitX rfl rfl (fun hg=>?_) fun hg=>?_
         ·refine Reg.on rfl rfl rfl (Ope.cf rfl rfl (aliveF) rfl ?_)
          refine Reg.op rfl (Ope.pickT rfl rfl ?_)
          refine Reg.op rfl (Ope.asg rfl ?_)
          exact Reg.nil (Run.ret (fin_ret (.tmp rfl .nil) rfl rfl))
         ·(first | (exfalso;omega) | exact absurd rfl hg | (exact absurd hg (by decide)))
        ·(first | (exfalso;omega) | exact absurd rfl hg | (exact absurd hg (by decide)))
end
end Go.Pv
namespace Go.Pv
open Go.Proofs Go.Am
set_option maxRecDepth 10000
theorem f8 (s:Fns) (hi:s.hnd) (p q c:Nat) (hp:p < 256) (hq:q < 256) (hc:c < 65536):Fn P0 8 [s.v .no .no,.lit (.int .u8 (p:Int)),.lit (.int .u8 (q:Int)),.lit (.int .u16 (c:Int))] (B true):=by
  by_cases hv:s.lng=true∨s.B=false
  · have hh := f11n s (t1 := .no) (t2 := .no) rfl rfl hi.ru hi.li 4000 hv
    exact f8a s rfl rfl hi.ru hi.li _ _ _ s.lng hh hv
  · have hB : s.B = true := by
      cases hb:s.B with
      | true=>rfl
      | false=>exact absurd (.inr hb) hv
    have hf:=fns_ok s hB
    have hh:=f11v s (t1:=.no) (t2:=.no) rfl rfl hf 4000
    cases hd:decide ((4000:Int) < (prdN s s.li.length:Nat)) with
    | true =>
      rw [hd] at hh
      exact f8a s rfl rfl hi.ru hi.li _ _ _ true hh (.inl rfl)
    | false =>
      rw [hd] at hh
      exact f8v s rfl rfl hf hh p q c hp hq hc
end Go.Pv
