/- Parts of the proof: R116, R117, R118, R119, R120, R121 -/
import Derived.Test.YtejnfigkngkhjaaP22
import Derived.Test.YtejnfigkngkhjaaP23
set_option linter.unusedVariables false
set_option linter.unusedSimpArgs false
set_option linter.unusedSectionVars false
namespace Go.Pv
open Go.Proofs Go.Am
set_option maxRecDepth 10000
instance:Mka A0 72:=⟨by kernel_rfl⟩
theorem f104 (a b c d:Int):Fn P0 104 [.agg [I a,I b],.agg [I c,I d]] (.agg [I (max a c),I (min b d)]):=by
  refine PFun.of (C:=c104) (cx_ok _ _ _) rfl (fn:=Try.f104) (by kernel_rfl) (c:=_) rfl rfl rfl ?_
  refine Run.seq (Run.region (cx_ok _ _ _) (Reg.op rfl (Ope.boxF rfl rfl ?_)))
  refine Reg.op rfl (Ope.boxF rfl rfl ?_)
  refine Reg.op rfl (Ope.newL rfl ?_)
  refine Reg.nil (Run.seq (Run.region (cx_ok _ _ _) (Reg.op rfl (Ope.fld rfl rfl ?_))))
  refine Reg.op rfl (Ope.load rfl rfl ?_)
  refine Reg.op rfl (Ope.fld rfl rfl ?_)
  refine Reg.op rfl (Ope.load rfl rfl ?_)
  refine Reg.op rfl (Ope.maxI rfl rfl ?_)
  refine Reg.op rfl (Ope.fld rfl rfl ?_)
  refine Reg.op rfl (Ope.load rfl rfl ?_)
  refine Reg.op rfl (Ope.fld rfl rfl ?_)
  refine Reg.op rfl (Ope.load rfl rfl ?_)
  refine Reg.op rfl (Ope.minI rfl rfl ?_)
  refine Reg.op rfl (Ope.bld rfl rfl ?_)
  refine Reg.op0 (Ope.store rfl rfl rfl rfl rfl rfl ?_)
  exact Reg.nil (Run.ret (fin_ret (.cell rfl rfl .nil) rfl rfl))
theorem f103 (E n:Nat) (hE:E < 2 ^ 60) (hn:n≤60):Fn P0 103 [N E,N n] (B (inE E n)):=by
  have hp0:0 < 2 ^ n:=Nat.pow_pos (by decide)
  have hp:=Nat.pow_le_pow_right (n:=2) (by decide) hn
  have hbit:decide (((E / 2 ^ n % 2:Nat):Int)=1)=inE E n:=by
    unfold inE
    rw [Nat.and_one_is_mod,Nat.shiftRight_eq_div_pow]
    rcases Nat.mod_two_eq_zero_or_one (E / 2 ^ n) with h | h<;>rw [h]<;>rfl
  refine PFun.of (C:=c103) (cx_ok _ _ _) rfl (fn:=Try.f103) (by kernel_rfl) (c:=_) rfl rfl rfl ?_
  refine Run.seq (Run.region (cx_ok _ _ _) (Reg.op rfl (Ope.asg rfl ?_)))
  refine Reg.nil (Run.seq (Run.region (cx_ok _ _ _) (Reg.op rfl (Ope.mov rfl ?_))))
  refine Reg.op rfl (Ope.mov rfl ?_)
  refine Reg.op rfl (Ope.cf rfl rfl (f79 n hn) rfl ?_)
  refine Reg.op rfl (Ope.quoN (p:=E) (q:=2 ^ n) rfl rfl rfl rfl hp0 (by show E < 2 ^ 63;omega) ?_)
  refine Reg.op rfl (Ope.remN (p:=E / 2 ^ n) (q:=2) rfl rfl rfl rfl (by decide) ?_)
  refine Reg.op rfl (Ope.eq rfl rfl ?_)
  refine Reg.op rfl (Ope.asg rfl ?_)
  refine Reg.nil (Run.ret (fin_ret (.tmp rfl .nil) rfl ?_))
  exact congrArg B hbit
def sps (n:Nat) (lo hi:Nat→Int):List (Int×Int):=(List.range n).map fun m=>(lo m,hi m)
theorem sps_len (n:Nat) (lo hi:Nat→Int):(sps n lo hi).length=n:=by simp [sps]
theorem sps_succ (n:Nat) (lo hi:Nat→Int):sps (n+1) lo hi=sps n lo hi++[(lo n,hi n)]:=by
  simp [sps,List.range_succ]
theorem flat_sps (lo hi:Nat→Int):∀ n,flat ((sps n lo hi).map spV)=(List.range (2 * n)).map fun q=>I (if q % 2=0 then lo (q / 2) else hi (q / 2))
  | 0=>rfl
  | n + 1 => by
    rw [sps_succ,List.map_append,flat_append,flat_sps lo hi n,show 2 * (n+1)=2 * n+1+1 from by omega,List.range_succ,List.range_succ,List.map_append,List.map_append,List.append_assoc]
    congr 1
    have e1:(2 * n) % 2=0:=by omega
    have e2:¬ (2 * n+1) % 2=0:=by omega
    have e3:(2 * n) / 2=n:=by omega
    have e4:(2 * n+1) / 2=n:=by omega
    simp only [List.map_cons,List.map_nil,e1,e2,e3,e4,if_true,if_false]
    rfl
theorem flat_sps_len (n:Nat) (lo hi:Nat→Int):(flat ((sps n lo hi).map spV)).length=2 * n:=by rw [flat_sps];simp
section
variable {n:Nat} {lo hi:Nat→Int} {post:List PV} {m:Nat} (h:m < n)
include h
theorem sps_lo:(flat ((sps n lo hi).map spV)++post)[0+m * 2]?=some (I (lo m)):=by
  rw [List.getElem?_append_left (by rw [flat_sps_len];omega),flat_sps]
  rw [List.getElem?_map,List.getElem?_eq_getElem (by simp;omega),List.getElem_range]
  show some (I (if (0+m * 2) % 2=0 then lo ((0+m * 2) / 2) else hi ((0+m * 2) / 2)))=_
  rw [if_pos (by omega),show (0+m * 2) / 2=m from by omega]
theorem sps_hi:(flat ((sps n lo hi).map spV)++post)[0+m * 2+1]?=some (I (hi m)):=by
  rw [List.getElem?_append_left (by rw [flat_sps_len];omega),flat_sps]
  rw [List.getElem?_map,List.getElem?_eq_getElem (by simp;omega),List.getElem_range]
  show some (I (if (0+m * 2+1) % 2=0 then lo ((0+m * 2+1) / 2) else hi ((0+m * 2+1) / 2)))=_
  rw [if_neg (by omega),show (0+m * 2+1) / 2=m from by omega]
theorem sps_setLo (x:Int):(flat ((sps n lo hi).map spV)++post).set (0+m * 2) (I x)=flat ((sps n (upI lo m x) hi).map spV)++post:=by
  rw [List.set_append_left _ _ (by rw [flat_sps_len];omega)]
  congr 1
  rw [flat_sps,flat_sps]
  refine List.ext_getElem (by simp) fun q h1 h2=>?_
  rw [List.getElem_set,List.getElem_map,List.getElem_map,List.getElem_range]
  by_cases hq:0+m * 2=q
  · subst hq
    rw [if_pos rfl,if_pos (by omega),show (0+m * 2) / 2=m from by omega]
    simp [upI]
  · rw [if_neg hq]
    by_cases h0:q % 2=0
    · rw [if_pos h0,if_pos h0,upI,if_neg (by omega)]
    · rw [if_neg h0,if_neg h0]
theorem sps_setHi (x:Int):(flat ((sps n lo hi).map spV)++post).set (0+m * 2+1) (I x)=flat ((sps n lo (upI hi m x)).map spV)++post:=by
  rw [List.set_append_left _ _ (by rw [flat_sps_len];omega)]
  congr 1
  rw [flat_sps,flat_sps]
  refine List.ext_getElem (by simp) fun q h1 h2=>?_
  rw [List.getElem_set,List.getElem_map,List.getElem_map,List.getElem_range]
  by_cases hq:0+m * 2+1=q
  · subst hq
    rw [if_pos rfl,if_neg (by omega),show (0+m * 2+1) / 2=m from by omega]
    simp [upI]
  · rw [if_neg hq]
    by_cases h0:q % 2=0
    · rw [if_pos h0,if_pos h0]
    · rw [if_neg h0,if_neg h0,upI,if_neg (by omega)]
end
theorem spV_nc:∀ (L:List (Int×Int)),∀ v∈L.map spV,v.nc=2:=fun L v hv=>by
  obtain ⟨_,_,rfl⟩:=List.mem_map.1 hv
  rfl
theorem spV_one:∀ (L:List (Int×Int)),∀ v∈L.map spV,v.nc=2∧PV.allOne v.cells=true:=fun L v hv=>by
  obtain ⟨_,_,rfl⟩:=List.mem_map.1 hv
  exact ⟨rfl,rfl⟩
end Go.Pv
namespace Go.Pv
open Go.Proofs Go.Am
set_option maxRecDepth 10000
set_option maxHeartbeats 4000000
abbrev rulR (x:Rul):PV:=.agg [I x.1,I x.2.1,I x.2.2]
theorem rulR_nc (L:List Rul):∀ v∈L.map rulR,v.nc=3:=fun v hv=>by
  obtain ⟨_,_,rfl⟩:=List.mem_map.1 hv
  rfl
section
variable (rest:Int) (hr:0≤rest∧rest≤60) (tl:Tail) (S:List Sti) (hS:S.length≤5)
include hr hS
theorem f90t : Fn P0 90 [relV rest tl S] (.sl .no ((rulsR S rest S.length).map rulR)) := by
  have hsu:∀ i,rulsR S rest (i+1)=rulsR S rest i++rulF S rest i:=fun i=>rfl
  have hll:=rulsR_len (S:=S) (rest:=rest)
  have h0:rulsR S rest 0=[]:=rfl
  have hne:∀ i,i≠0→rulsR S rest i≠[]:=fun i hi h=>by
    obtain ⟨i,rfl⟩:∃ j,i=j+1:=⟨i - 1,by omega⟩
    rw [rulsR,List.append_eq_nil_iff] at h
    exact absurd h.2 (by simp [rulF])
  have hF:∀ i (hi:i < S.length),rulF S rest i=(2 * i,2 * i+1,1)::((if 0 < i then [(2 * (i - 1),2 * i,1)] else [])++(match frm S S[i].r i with
      | some f=>[(2 * f+1,2 * i,rest)]
      | none=>[])):=fun i hi=>by
    unfold rulF
    rw [show (S.map Sti.r).getD i 0=S[i].r by simp [List.getD,hi]]
    rfl
  have hfl:=frm_lt S
  have hfS:∀ r k (hk:k < S.length),frm S r (k+1)=if S[k].r=r then some k else frm S r k:=fun r k hk=>by
    rw [frm,List.getElem?_map,List.getElem?_eq_getElem hk]
    simp
  have hf0:∀ r,frm S r 0=none:=fun r=>rfl
  generalize rulsR S rest=RR at *
  generalize rulF S rest=RF at *
  generalize frm S=FR at *
  refine PFun.of (C:=c90) (cx_ok _ _ _) rfl (fn:=Try.f90) (by kernel_rfl) (c:=_) rfl rfl rfl ?_
  refine Run.seq (Run.region (cx_ok _ _ _) (Reg.op rfl (Ope.boxF rfl rfl ?_)))
  refine Reg.op rfl (Ope.asg rfl ?_)
  refine Reg.nil (Run.seq (Run.region (cx_ok _ _ _) (Reg.op rfl (Ope.asg rfl ?_))))
  refine Reg.nil (Run.seq (Run.seq (Run.region (cx_ok _ _ _) (Reg.op rfl (Ope.asg rfl ?_)))))
  refine Reg.nil (Run.block (Run.loop (α:=Nat×Option Nat×Nat) (fun t=>[(1,.fp (relV rest tl S)),(3,.sl (tlU t.2.1) ((RR t.1).map rulR)),(4,I t.1)]) (fun t=>HE t.2.2 (ownU t.2.1++[])) (fun t=>t.1≤S.length∧(∀ j,t.2.1=some j→j < t.2.2∧t.1≠0)∧(t.2.1=none→t.1=0)) (fun t=>S.length - t.1) (0,none,0) ⟨rfl,by rw [h0];rfl,rfl,trivial⟩ rfl ⟨Nat.zero_le _,(fun j hj=>by cases hj),fun _=>rfl⟩ (fun t ht=>?_)))
  obtain ⟨i,o',m⟩:=t
  obtain ⟨hi,hO,hN⟩:=ht
  simp only at hi hO hN
  show Run _ _ _ _ [(1,.fp (relV rest tl S)),(3,.sl (tlU o') ((RR i).map rulR)),(4,I i)] [] (HE m (ownU o'++[]))
  refine Run.seq (Run.seq (Run.region (cx_ok _ _ _) (Reg.op rfl (Ope.mov rfl ?_))))
  refine Reg.op rfl (Ope.fld rfl rfl ?_)
  refine Reg.op rfl (Ope.load rfl rfl ?_)
  refine Reg.op rfl (Ope.len (m:=S.length) rfl (by simp) ?_)
  refine Reg.op rfl (Ope.lt rfl rfl ?_)
  refine Reg.nil (Run.condX rfl (fun hc=>?_) fun hc=>?_)
  ·refine Run.skip (Run.seq (Run.block (Run.seq ?_)))
   have hlt:i < S.length:=by omega
   have hli:=hll i
   have hFi:=hF i hlt
   have hsi:=hsu i
   have hm1:(2:Int) * (i:Int)=((2 * i:Nat):Int):=by omega
   have hm2:((2 * i:Nat):Int)+1=((2 * i+1:Nat):Int):=by omega
   refine Run.region (cx_ok _ _ _) (Reg.op rfl (Ope.mov rfl ?_))
   refine Reg.op rfl (Ope.mov rfl ?_)
   refine Reg.op rfl (Ope.mul rfl rfl (by omega) ?_)
   rw [hm1]
   refine Reg.op rfl (Ope.mov rfl ?_)
   refine Reg.op rfl (Ope.mul rfl rfl (by omega) ?_)
   rw [hm1]
   refine Reg.op rfl (Ope.add rfl rfl (by omega) ?_)
   rw [hm2]
   refine Reg.op rfl (Ope.bld rfl rfl ?_)
   refine Reg.op rfl (Ope.bsl rfl rfl rfl rfl ?_)
   refine Reg.op rfl (Ope.apU (o':=o') rfl rfl (by simp) (by intro j hj;exact ⟨fun h=>hne i (hO j hj).2 (List.map_eq_nil_iff.1 h),rfl⟩) (by simp;omega) (by simp;omega) (by decide) (rulR_nc _) (by intro v hv;simp only [List.mem_singleton] at hv;subst hv;exact ⟨rfl,rfl⟩) ?_)
   refine Reg.op rfl (Ope.asg rfl ?_)
   refine Reg.nil (Run.seq (Run.seq (Run.region (cx_ok _ _ _) (Reg.op rfl (Ope.mov rfl ?_)))))
   refine Reg.op rfl (Ope.gt rfl rfl ?_)
   refine Reg.nil (Run.condX rfl (fun hc=>?_) fun hc=>?_)
   ·have hm3 : ((2 * i : Nat) : Int) - 2 = ((2 * (i - 1) : Nat) : Int) := by omega
    refine Run.region (cx_ok _ _ _) (Reg.op rfl (Ope.mov rfl ?_))
    refine Reg.op rfl (Ope.mov rfl ?_)
    refine Reg.op rfl (Ope.mul rfl rfl (by omega) ?_)
    rw [hm1]
    refine Reg.op rfl (Ope.sub rfl rfl (by omega) ?_)
    rw [hm3]
    refine Reg.op rfl (Ope.mov rfl ?_)
    refine Reg.op rfl (Ope.mul rfl rfl (by omega) ?_)
    rw [hm1]
    refine Reg.op rfl (Ope.bld rfl rfl ?_)
    refine Reg.op rfl (Ope.bsl rfl rfl rfl rfl ?_)
    refine Reg.op rfl (Ope.apU (o':=some m) rfl rfl (by simp) (by intro j hj;exact ⟨by simp,rfl⟩) (by simp;omega) (by simp;omega) (by decide) (by intro v hv;simp only [List.mem_append,List.mem_singleton] at hv;rcases hv with hv | rfl;(· exact rulR_nc _ v hv);(· rfl)) (by intro v hv;simp only [List.mem_singleton] at hv;subst hv;exact ⟨rfl,rfl⟩) ?_)
    refine Reg.op rfl (Ope.asg rfl ?_)
    refine Reg.nil (Run.seq (Run.region (cx_ok _ _ _) (Reg.op rfl (Ope.mov rfl ?_))))
    refine Reg.op rfl (Ope.sub rfl rfl (by omega) ?_)
    refine Reg.op rfl (Ope.asg rfl ?_)
    refine Reg.nil (Run.block ?_)
    first
    | refine Run.loop (α:=Nat) (fun q=>[(1,.fp (relV rest tl S)),(3,.sl (.own (m+1)) (((RR i).map rulR++[rulR (2 * i,2 * i+1,1)])++[rulR (2 * (i - 1),2 * i,1)])),(4,I i),(5,I ((q:Int) - 1))]) (fun _=>HE (m+1+1) [(m+1,some .own)]) (fun q=>q≤i∧FR S[i].r i=FR S[i].r q) (fun q=>q) i ⟨rfl,rfl,rfl,rfl,trivial⟩ rfl ⟨Nat.le_refl _,rfl⟩ (fun q hq=>?_)
    | refine Run.loop (α:=Nat) (fun q=>[(1,.fp (relV rest tl S)),(3,.sl (.own m) ((RR i).map rulR++[rulR (2 * i,2 * i+1,1)])),(4,I i),(5,I ((q:Int) - 1))]) (fun _=>HE (m+1) [(m,some .own)]) (fun q=>q≤i∧FR S[i].r i=FR S[i].r q) (fun q=>q) i ⟨rfl,rfl,rfl,rfl,trivial⟩ rfl ⟨Nat.le_refl _,rfl⟩ (fun q hq=>?_)
    obtain ⟨hq1,hq2⟩:=hq
    refine Run.seq (Run.seq (Run.region (cx_ok _ _ _) (Reg.op rfl (Ope.mov rfl ?_))))
    refine Reg.op rfl (Ope.ge rfl rfl ?_)
    refine Reg.nil (Run.condX rfl (fun hc=>?_) fun hc=>?_)
    ·refine Run.skip (Run.seq (Run.block (Run.seq ?_)))
     obtain ⟨q',rfl⟩:∃ q',q=q'+1:=⟨q - 1,by omega⟩
     have hqS:q' < S.length:=by omega
     have hq9:(((q'+1:Nat):Int) - 1)=(q':Int):=by omega
     have hq8:=hfS S[i].r q' hqS
     rw [hq9] at *
     refine Run.draw (cx_ok _ _ _) [(0,true),(1,true),(2,true),(3,true),(4,true),(5,true),(6,true),(7,true),(8,true),(9,true),(10,true),(11,true),(12,true)] (by kernel_rfl) (Dra.op' rfl rfl rfl .sure (Ope.fld rfl rfl ?_))
     refine Dra.op' rfl rfl rfl .sure (Ope.load rfl rfl ?_)
     refine Dra.op' rfl rfl rfl .sure (Ope.mov rfl ?_)
     refine Dra.op' rfl rfl rfl .sure (Ope.idxM (m:=q') (f:=Sti.v) rfl rfl rfl hqS (fun _=>rfl) ?_)
     refine Dra.op' rfl rfl rfl .sure (Ope.fld rfl rfl ?_)
     refine Dra.op' rfl rfl rfl .sure (Ope.load rfl rfl ?_)
     refine Dra.op' rfl rfl rfl .sure (Ope.fld rfl rfl ?_)
     refine Dra.op' rfl rfl rfl .sure (Ope.load rfl rfl ?_)
     refine Dra.op' rfl rfl rfl .sure (Ope.mov rfl ?_)
     refine Dra.op' rfl rfl rfl .sure (Ope.idxM (m:=i) (f:=Sti.v) rfl rfl rfl hlt (fun _=>rfl) ?_)
     refine Dra.op' rfl rfl rfl .sure (Ope.fld rfl rfl ?_)
     refine Dra.op' rfl rfl rfl .sure (Ope.load rfl rfl ?_)
     refine Dra.op' rfl rfl rfl .sure (Ope.eq rfl rfl ?_)
     refine Dra.nil (Run.condX rfl (fun hc=>?_) fun hc=>?_)
     ·refine Run.seq ?_
      have hm4:(2:Int) * (q':Int)=((2 * q':Nat):Int):=by omega
      have hm5:((2 * q':Nat):Int)+1=((2 * q'+1:Nat):Int):=by omega
      refine Run.region (cx_ok _ _ _) (Reg.op rfl (Ope.mov rfl ?_))
      refine Reg.op rfl (Ope.mov rfl ?_)
      refine Reg.op rfl (Ope.mul rfl rfl (by omega) ?_)
      rw [hm4]
      refine Reg.op rfl (Ope.add rfl rfl (by omega) ?_)
      rw [hm5]
      refine Reg.op rfl (Ope.mov rfl ?_)
      refine Reg.op rfl (Ope.mul rfl rfl (by omega) ?_)
      rw [hm1]
      refine Reg.op rfl (Ope.fld rfl rfl ?_)
      refine Reg.op rfl (Ope.load rfl rfl ?_)
      refine Reg.op rfl (Ope.bld rfl rfl ?_)
      refine Reg.op rfl (Ope.bsl rfl rfl rfl rfl ?_)
      first
      | refine Reg.op rfl (Ope.apU (o':=some (m+1)) rfl rfl (by simp) (by intro j hj;exact ⟨by simp,rfl⟩) (by simp;omega) (by simp;omega) (by decide) (by intro v hv;simp only [List.mem_append,List.mem_singleton] at hv;rcases hv with (hv | rfl) | rfl;(· exact rulR_nc _ v hv);(· rfl);(· rfl)) (by intro v hv;simp only [List.mem_singleton] at hv;subst hv;exact ⟨rfl,rfl⟩) ?_)
      | refine Reg.op rfl (Ope.apU (o':=some m) rfl rfl (by simp) (by intro j hj;exact ⟨by simp,rfl⟩) (by simp;omega) (by simp;omega) (by decide) (by intro v hv;simp only [List.mem_append,List.mem_singleton] at hv;rcases hv with hv | rfl;(· exact rulR_nc _ v hv);(· rfl)) (by intro v hv;simp only [List.mem_singleton] at hv;subst hv;exact ⟨rfl,rfl⟩) ?_)
      refine Reg.op rfl (Ope.asg rfl ?_)
      refine Reg.nil (Run.exit (Jmp.past rfl (Jmp.code (Jmp.round (Jmp.here (Run.bend (Run.region (cx_ok _ _ _) (Reg.op rfl (Ope.mov rfl ?_)))))))))
      refine Reg.op rfl (Ope.add rfl rfl (by omega) ?_)
      refine Reg.op rfl (Ope.asg rfl ?_)
      refine Reg.nil ?_
      first
      | (have hR : RR (i + 1) = RR i ++ [(2 * i, 2 * i + 1, 1), (2 * (i - 1), 2 * i, 1), (2 * q' + 1, 2 * i, rest)] := by
           rw [hsi,hFi,hq2,hq8,if_pos hc,if_pos (show 0 < i by omega)];rfl
         exact Run.lend ⟨(i+1,some (m+1+1),m+1+1+1),by show S.length - (i+1) < S.length - i;omega,⟨by show i+1≤S.length;omega,(fun j hj=>by cases hj;exact ⟨Nat.lt_succ_self _,Nat.succ_ne_zero _⟩),fun h=>by cases h⟩,⟨rfl,congrArg (fun L=>some (PV.sl (.own (m+1+1)) L)) (by rw [hR];simp),rfl,trivial⟩,rfl,rfl⟩)
      | (exfalso;have hz:q'+1≤i:=hq1;omega)
      | (obtain rfl : q = 0 := by omega
         have hR:RR (i+1)=RR i++[(2 * i,2 * i+1,1),(2 * (i - 1),2 * i,1)]:=by
           rw [hsi,hFi,hq2,hf0,if_pos (show 0 < i by omega)];rfl
         exact Run.lend ⟨(i+1,some (m+1),m+1+1),by show S.length - (i+1) < S.length - i;omega,⟨by show i+1≤S.length;omega,(fun j hj=>by cases hj;exact ⟨Nat.lt_succ_self _,Nat.succ_ne_zero _⟩),fun h=>by cases h⟩,⟨rfl,congrArg (fun L=>some (PV.sl (.own (m+1)) L)) (by rw [hR];simp),rfl,trivial⟩,rfl,rfl⟩)
      | (obtain rfl : q = 0 := by omega
         have hR:RR (i+1)=RR i++[(2 * i,2 * i+1,1)]:=by
           rw [hsi,hFi,hq2,hf0,if_neg (show ¬ 0 < i by omega)];rfl
         exact Run.lend ⟨(i+1,some m,m+1),by show S.length - (i+1) < S.length - i;omega,⟨by show i+1≤S.length;omega,(fun j hj=>by cases hj;exact ⟨Nat.lt_succ_self _,Nat.succ_ne_zero _⟩),fun h=>by cases h⟩,⟨rfl,congrArg (fun L=>some (PV.sl (.own m) L)) (by rw [hR];simp),rfl,trivial⟩,rfl,rfl⟩)
     ·refine Run.skip (Run.bend (Run.region (cx_ok _ _ _) (Reg.op rfl (Ope.mov rfl ?_))))
      refine Reg.op rfl (Ope.sub rfl rfl (by omega) ?_)
      refine Reg.op rfl (Ope.asg rfl ?_)
      exact Reg.nil (Run.lend ⟨q',by omega,⟨by omega,by rw [hq2,hq8,if_neg (by assumption)]⟩,⟨rfl,rfl,rfl,rfl,trivial⟩,rfl,rfl⟩)
    ·refine Run.exit (Jmp.code (Jmp.round (Jmp.here (Run.bend (Run.region (cx_ok _ _ _) (Reg.op rfl (Ope.mov rfl ?_)))))))
     refine Reg.op rfl (Ope.add rfl rfl (by omega) ?_)
     refine Reg.op rfl (Ope.asg rfl ?_)
     refine Reg.nil ?_
     first
     | (have hR : RR (i + 1) = RR i ++ [(2 * i, 2 * i + 1, 1), (2 * (i - 1), 2 * i, 1), (2 * q' + 1, 2 * i, rest)] := by
          rw [hsi,hFi,hq2,hq8,if_pos hc,if_pos (show 0 < i by omega)];rfl
        exact Run.lend ⟨(i+1,some (m+1+1),m+1+1+1),by show S.length - (i+1) < S.length - i;omega,⟨by show i+1≤S.length;omega,(fun j hj=>by cases hj;exact ⟨Nat.lt_succ_self _,Nat.succ_ne_zero _⟩),fun h=>by cases h⟩,⟨rfl,congrArg (fun L=>some (PV.sl (.own (m+1+1)) L)) (by rw [hR];simp),rfl,trivial⟩,rfl,rfl⟩)
     | (exfalso;have hz:q'+1≤i:=hq1;omega)
     | (obtain rfl : q = 0 := by omega
        have hR:RR (i+1)=RR i++[(2 * i,2 * i+1,1),(2 * (i - 1),2 * i,1)]:=by
          rw [hsi,hFi,hq2,hf0,if_pos (show 0 < i by omega)];rfl
        exact Run.lend ⟨(i+1,some (m+1),m+1+1),by show S.length - (i+1) < S.length - i;omega,⟨by show i+1≤S.length;omega,(fun j hj=>by cases hj;exact ⟨Nat.lt_succ_self _,Nat.succ_ne_zero _⟩),fun h=>by cases h⟩,⟨rfl,congrArg (fun L=>some (PV.sl (.own (m+1)) L)) (by rw [hR];simp),rfl,trivial⟩,rfl,rfl⟩)
     | (obtain rfl : q = 0 := by omega
        have hR:RR (i+1)=RR i++[(2 * i,2 * i+1,1)]:=by
          rw [hsi,hFi,hq2,hf0,if_neg (show ¬ 0 < i by omega)];rfl
        exact Run.lend ⟨(i+1,some m,m+1),by show S.length - (i+1) < S.length - i;omega,⟨by show i+1≤S.length;omega,(fun j hj=>by cases hj;exact ⟨Nat.lt_succ_self _,Nat.succ_ne_zero _⟩),fun h=>by cases h⟩,⟨rfl,congrArg (fun L=>some (PV.sl (.own m) L)) (by rw [hR];simp),rfl,trivial⟩,rfl,rfl⟩)
   ·refine Run.skip (Run.seq (Run.region (cx_ok _ _ _) (Reg.op rfl (Ope.mov rfl ?_))))
    refine Reg.op rfl (Ope.sub rfl rfl (by omega) ?_)
    refine Reg.op rfl (Ope.asg rfl ?_)
    refine Reg.nil (Run.block ?_)
    first
    | refine Run.loop (α:=Nat) (fun q=>[(1,.fp (relV rest tl S)),(3,.sl (.own (m+1)) (((RR i).map rulR++[rulR (2 * i,2 * i+1,1)])++[rulR (2 * (i - 1),2 * i,1)])),(4,I i),(5,I ((q:Int) - 1))]) (fun _=>HE (m+1+1) [(m+1,some .own)]) (fun q=>q≤i∧FR S[i].r i=FR S[i].r q) (fun q=>q) i ⟨rfl,rfl,rfl,rfl,trivial⟩ rfl ⟨Nat.le_refl _,rfl⟩ (fun q hq=>?_)
    | refine Run.loop (α:=Nat) (fun q=>[(1,.fp (relV rest tl S)),(3,.sl (.own m) ((RR i).map rulR++[rulR (2 * i,2 * i+1,1)])),(4,I i),(5,I ((q:Int) - 1))]) (fun _=>HE (m+1) [(m,some .own)]) (fun q=>q≤i∧FR S[i].r i=FR S[i].r q) (fun q=>q) i ⟨rfl,rfl,rfl,rfl,trivial⟩ rfl ⟨Nat.le_refl _,rfl⟩ (fun q hq=>?_)
    obtain ⟨hq1,hq2⟩:=hq
    refine Run.seq (Run.seq (Run.region (cx_ok _ _ _) (Reg.op rfl (Ope.mov rfl ?_))))
    refine Reg.op rfl (Ope.ge rfl rfl ?_)
    refine Reg.nil (Run.condX rfl (fun hc=>?_) fun hc=>?_)
    ·refine Run.skip (Run.seq (Run.block (Run.seq ?_)))
     obtain ⟨q',rfl⟩:∃ q',q=q'+1:=⟨q - 1,by omega⟩
     have hqS:q' < S.length:=by omega
     have hq9:(((q'+1:Nat):Int) - 1)=(q':Int):=by omega
     have hq8:=hfS S[i].r q' hqS
     rw [hq9] at *
     refine Run.draw (cx_ok _ _ _) [(0,true),(1,true),(2,true),(3,true),(4,true),(5,true),(6,true),(7,true),(8,true),(9,true),(10,true),(11,true),(12,true)] (by kernel_rfl) (Dra.op' rfl rfl rfl .sure (Ope.fld rfl rfl ?_))
     refine Dra.op' rfl rfl rfl .sure (Ope.load rfl rfl ?_)
     refine Dra.op' rfl rfl rfl .sure (Ope.mov rfl ?_)
     refine Dra.op' rfl rfl rfl .sure (Ope.idxM (m:=q') (f:=Sti.v) rfl rfl rfl hqS (fun _=>rfl) ?_)
     refine Dra.op' rfl rfl rfl .sure (Ope.fld rfl rfl ?_)
     refine Dra.op' rfl rfl rfl .sure (Ope.load rfl rfl ?_)
     refine Dra.op' rfl rfl rfl .sure (Ope.fld rfl rfl ?_)
     refine Dra.op' rfl rfl rfl .sure (Ope.load rfl rfl ?_)
     refine Dra.op' rfl rfl rfl .sure (Ope.mov rfl ?_)
     refine Dra.op' rfl rfl rfl .sure (Ope.idxM (m:=i) (f:=Sti.v) rfl rfl rfl hlt (fun _=>rfl) ?_)
     refine Dra.op' rfl rfl rfl .sure (Ope.fld rfl rfl ?_)
     refine Dra.op' rfl rfl rfl .sure (Ope.load rfl rfl ?_)
     refine Dra.op' rfl rfl rfl .sure (Ope.eq rfl rfl ?_)
     refine Dra.nil (Run.condX rfl (fun hc=>?_) fun hc=>?_)
     ·refine Run.seq ?_
      have hm4:(2:Int) * (q':Int)=((2 * q':Nat):Int):=by omega
      have hm5:((2 * q':Nat):Int)+1=((2 * q'+1:Nat):Int):=by omega
      refine Run.region (cx_ok _ _ _) (Reg.op rfl (Ope.mov rfl ?_))
      refine Reg.op rfl (Ope.mov rfl ?_)
      refine Reg.op rfl (Ope.mul rfl rfl (by omega) ?_)
      rw [hm4]
      refine Reg.op rfl (Ope.add rfl rfl (by omega) ?_)
      rw [hm5]
      refine Reg.op rfl (Ope.mov rfl ?_)
      refine Reg.op rfl (Ope.mul rfl rfl (by omega) ?_)
      rw [hm1]
      refine Reg.op rfl (Ope.fld rfl rfl ?_)
      refine Reg.op rfl (Ope.load rfl rfl ?_)
      refine Reg.op rfl (Ope.bld rfl rfl ?_)
      refine Reg.op rfl (Ope.bsl rfl rfl rfl rfl ?_)
      first
      | refine Reg.op rfl (Ope.apU (o':=some (m+1)) rfl rfl (by simp) (by intro j hj;exact ⟨by simp,rfl⟩) (by simp;omega) (by simp;omega) (by decide) (by intro v hv;simp only [List.mem_append,List.mem_singleton] at hv;rcases hv with (hv | rfl) | rfl;(· exact rulR_nc _ v hv);(· rfl);(· rfl)) (by intro v hv;simp only [List.mem_singleton] at hv;subst hv;exact ⟨rfl,rfl⟩) ?_)
      | refine Reg.op rfl (Ope.apU (o':=some m) rfl rfl (by simp) (by intro j hj;exact ⟨by simp,rfl⟩) (by simp;omega) (by simp;omega) (by decide) (by intro v hv;simp only [List.mem_append,List.mem_singleton] at hv;rcases hv with hv | rfl;(· exact rulR_nc _ v hv);(· rfl)) (by intro v hv;simp only [List.mem_singleton] at hv;subst hv;exact ⟨rfl,rfl⟩) ?_)
      refine Reg.op rfl (Ope.asg rfl ?_)
      refine Reg.nil (Run.exit (Jmp.past rfl (Jmp.code (Jmp.round (Jmp.here (Run.bend (Run.region (cx_ok _ _ _) (Reg.op rfl (Ope.mov rfl ?_)))))))))
      refine Reg.op rfl (Ope.add rfl rfl (by omega) ?_)
      refine Reg.op rfl (Ope.asg rfl ?_)
      refine Reg.nil ?_
      first
      | (have hR : RR (i + 1) = RR i ++ [(2 * i, 2 * i + 1, 1), (2 * (i - 1), 2 * i, 1), (2 * q' + 1, 2 * i, rest)] := by
           rw [hsi,hFi,hq2,hq8,if_pos hc,if_pos (show 0 < i by omega)];rfl
         exact Run.lend ⟨(i+1,some (m+1+1),m+1+1+1),by show S.length - (i+1) < S.length - i;omega,⟨by show i+1≤S.length;omega,(fun j hj=>by cases hj;exact ⟨Nat.lt_succ_self _,Nat.succ_ne_zero _⟩),fun h=>by cases h⟩,⟨rfl,congrArg (fun L=>some (PV.sl (.own (m+1+1)) L)) (by rw [hR];simp),rfl,trivial⟩,rfl,rfl⟩)
      | (exfalso;have hz:q'+1≤i:=hq1;omega)
      | (obtain rfl : q = 0 := by omega
         have hR:RR (i+1)=RR i++[(2 * i,2 * i+1,1),(2 * (i - 1),2 * i,1)]:=by
           rw [hsi,hFi,hq2,hf0,if_pos (show 0 < i by omega)];rfl
         exact Run.lend ⟨(i+1,some (m+1),m+1+1),by show S.length - (i+1) < S.length - i;omega,⟨by show i+1≤S.length;omega,(fun j hj=>by cases hj;exact ⟨Nat.lt_succ_self _,Nat.succ_ne_zero _⟩),fun h=>by cases h⟩,⟨rfl,congrArg (fun L=>some (PV.sl (.own (m+1)) L)) (by rw [hR];simp),rfl,trivial⟩,rfl,rfl⟩)
      | (obtain rfl : q = 0 := by omega
         have hR:RR (i+1)=RR i++[(2 * i,2 * i+1,1)]:=by
           rw [hsi,hFi,hq2,hf0,if_neg (show ¬ 0 < i by omega)];rfl
         exact Run.lend ⟨(i+1,some m,m+1),by show S.length - (i+1) < S.length - i;omega,⟨by show i+1≤S.length;omega,(fun j hj=>by cases hj;exact ⟨Nat.lt_succ_self _,Nat.succ_ne_zero _⟩),fun h=>by cases h⟩,⟨rfl,congrArg (fun L=>some (PV.sl (.own m) L)) (by rw [hR];simp),rfl,trivial⟩,rfl,rfl⟩)
     ·refine Run.skip (Run.bend (Run.region (cx_ok _ _ _) (Reg.op rfl (Ope.mov rfl ?_))))
      refine Reg.op rfl (Ope.sub rfl rfl (by omega) ?_)
      refine Reg.op rfl (Ope.asg rfl ?_)
      exact Reg.nil (Run.lend ⟨q',by omega,⟨by omega,by rw [hq2,hq8,if_neg (by assumption)]⟩,⟨rfl,rfl,rfl,rfl,trivial⟩,rfl,rfl⟩)
    ·refine Run.exit (Jmp.code (Jmp.round (Jmp.here (Run.bend (Run.region (cx_ok _ _ _) (Reg.op rfl (Ope.mov rfl ?_)))))))
     refine Reg.op rfl (Ope.add rfl rfl (by omega) ?_)
     refine Reg.op rfl (Ope.asg rfl ?_)
     refine Reg.nil ?_
     first
     | (have hR : RR (i + 1) = RR i ++ [(2 * i, 2 * i + 1, 1), (2 * (i - 1), 2 * i, 1), (2 * q' + 1, 2 * i, rest)] := by
          rw [hsi,hFi,hq2,hq8,if_pos hc,if_pos (show 0 < i by omega)];rfl
        exact Run.lend ⟨(i+1,some (m+1+1),m+1+1+1),by show S.length - (i+1) < S.length - i;omega,⟨by show i+1≤S.length;omega,(fun j hj=>by cases hj;exact ⟨Nat.lt_succ_self _,Nat.succ_ne_zero _⟩),fun h=>by cases h⟩,⟨rfl,congrArg (fun L=>some (PV.sl (.own (m+1+1)) L)) (by rw [hR];simp),rfl,trivial⟩,rfl,rfl⟩)
     | (exfalso;have hz:q'+1≤i:=hq1;omega)
     | (obtain rfl : q = 0 := by omega
        have hR:RR (i+1)=RR i++[(2 * i,2 * i+1,1),(2 * (i - 1),2 * i,1)]:=by
          rw [hsi,hFi,hq2,hf0,if_pos (show 0 < i by omega)];rfl
        exact Run.lend ⟨(i+1,some (m+1),m+1+1),by show S.length - (i+1) < S.length - i;omega,⟨by show i+1≤S.length;omega,(fun j hj=>by cases hj;exact ⟨Nat.lt_succ_self _,Nat.succ_ne_zero _⟩),fun h=>by cases h⟩,⟨rfl,congrArg (fun L=>some (PV.sl (.own (m+1)) L)) (by rw [hR];simp),rfl,trivial⟩,rfl,rfl⟩)
     | (obtain rfl : q = 0 := by omega
        have hR:RR (i+1)=RR i++[(2 * i,2 * i+1,1)]:=by
          rw [hsi,hFi,hq2,hf0,if_neg (show ¬ 0 < i by omega)];rfl
        exact Run.lend ⟨(i+1,some m,m+1),by show S.length - (i+1) < S.length - i;omega,⟨by show i+1≤S.length;omega,(fun j hj=>by cases hj;exact ⟨Nat.lt_succ_self _,Nat.succ_ne_zero _⟩),fun h=>by cases h⟩,⟨rfl,congrArg (fun L=>some (PV.sl (.own m) L)) (by rw [hR];simp),rfl,trivial⟩,rfl,rfl⟩)
  ·refine Run.exit (Jmp.code (Jmp.round (Jmp.here (Run.seq ?_))))
   obtain rfl:i=S.length:=by omega
   refine Run.weakT (d:=3) rfl ?_
   refine Run.region (cx_ok _ _ _) (Reg.op rfl (Ope.mov rfl ?_))
   refine Reg.op rfl (Ope.asg rfl ?_)
   exact Reg.nil (Run.ret (fin_ret (.tmp rfl .nil) (bd_sl (f:=rulR) (tl:=.no) rfl (fun _=>rfl) _) rfl))
end
end Go.Pv
namespace Go.Pv
open Go.Proofs Go.Am
set_option maxRecDepth 10000
set_option maxHeartbeats 4000000
def lspV (n:Nat):Option (Nat×Nat×Option Nat×List PV)→PV
  | none=>.sl .ex []
  | some (j,c,ez,_)=>.ms j 0 n c ez
def lspH (L:List (Int×Int)):Option (Nat×Nat×Option Nat×List PV)→HL
  | none=>[]
  | some (j,_,_,post)=>[(j,some (.cells (flat (L.map spV)++post)))]
def fsJ (s:Sti) (E k o:Nat):Nat→Int×Int
  | 0=>(0,600)
  | j+1=>mt (inE E (2 * (2 * k+o)+j)) (s.ent o j) (fsJ s E k o j)
theorem on_idx (s:Sti):∀ j,j < 2→indexK 2 true 2 j (.fp (.agg [I s.a,I s.b,I s.c,I s.d]))=some (.fp (spV (s.ent 0 j)))
  | 0,_=>rfl | 1,_=>rfl
theorem off_idx (s:Sti):∀ j,j < 2→indexK 2 true 2 j (.fp (.agg [I s.e,I s.f,I s.g,I s.h]))=some (.fp (spV (s.ent 1 j)))
  | 0,_=>rfl | 1,_=>rfl
abbrev celS (p:Int×Int):PBlk:=.cells [I p.1,I p.2]
section
variable (rest:Int) (tl:Tail) (S:List Sti) (hS:S.length≤5) (E:Nat) (hE:E < 2 ^ 60)
theorem f89z:Fn P0 89 [relV rest tl [],N E] (.sl .ex []):=by
  refine PFun.of (C:=c89) (cx_ok _ _ _) rfl (fn:=Try.f89) (by kernel_rfl) (c:=_) rfl rfl rfl ?_
  refine Run.seq (Run.region (cx_ok _ _ _) (Reg.op rfl (Ope.boxF rfl rfl ?_)))
  refine Reg.op rfl (Ope.asg rfl ?_)
  refine Reg.nil (Run.seq (Run.region (cx_ok _ _ _) (Reg.op rfl (Ope.asg rfl ?_))))
  refine Reg.nil (Run.seq (Run.seq (Run.region (cx_ok _ _ _) (Reg.op rfl (Ope.asg rfl ?_)))))
  refine Reg.nil (Run.block (Run.loop (α:=Nat) (fun t=>[(2,.fp (relV rest tl [])),(5,.sl .ex []),(6,I ((0:Nat):Int))]) (fun t=>HE 0 []) (fun t=>t=0) (fun t=>0) 0 ⟨rfl,rfl,rfl,trivial⟩ rfl rfl (fun t ht=>?_)))
  refine Run.seq (Run.seq (Run.region (cx_ok _ _ _) (Reg.op rfl (Ope.mov rfl ?_))))
  refine Reg.op rfl (Ope.fld rfl rfl ?_)
  refine Reg.op rfl (Ope.load rfl rfl ?_)
  refine Reg.op rfl (Ope.len (m:=0) rfl rfl ?_)
  refine Reg.op rfl (Ope.lt rfl rfl ?_)
  refine Reg.nil (Run.condX rfl (fun hc=>?_) fun hc=>?_)
  ·exact absurd hc (by decide)
  ·refine Run.exit (Jmp.code (Jmp.round (Jmp.here (Run.seq (Run.region (cx_ok _ _ _) (Reg.op rfl (Ope.mov rfl ?_)))))))
   refine Reg.op rfl (Ope.asg rfl ?_)
   exact Reg.nil (Run.ret (fin_ret (.tmp rfl .nil) rfl rfl))
include hS hE
theorem f89t (h0:0 < S.length) :Fn P0 89 [relV rest tl S,N E] (.sl .no ((sps (2 * S.length) (fLo S E) (fHi S E)).map spV)):=by
  have hsu:∀ i (hi:i < S.length),(sps (2 * (i+1)) (fLo S E) (fHi S E)).map spV=(sps (2 * i) (fLo S E) (fHi S E)).map spV++[spV (fsJ S[i] E i 0 2),spV (fsJ S[i] E i 1 2)]:=fun i hi=>by
    have e0:fsP S E (2 * i)=fsJ S[i] E i 0 2:=fsP_at (o:=0) hi (by decide)
    have e1:fsP S E (2 * i+1)=fsJ S[i] E i 1 2:=fsP_at hi (by decide)
    rw [show 2 * (i+1)=2 * i+1+1 from by omega,sps_succ,sps_succ,List.map_append,List.map_append,List.append_assoc,← e0,← e1]
    rfl
  have hspl:∀ i,((sps (2 * i) (fLo S E) (fHi S E)).map spV).length=2 * i:=fun i=>by rw [List.length_map,sps_len]
  generalize fLo S E=LO at *
  generalize fHi S E=HI at *
  refine PFun.of (C:=c89) (cx_ok _ _ _) rfl (fn:=Try.f89) (by kernel_rfl) (c:=_) rfl rfl rfl ?_
  refine Run.seq (Run.region (cx_ok _ _ _) (Reg.op rfl (Ope.boxF rfl rfl ?_)))
  refine Reg.op rfl (Ope.asg rfl ?_)
  refine Reg.nil (Run.seq (Run.region (cx_ok _ _ _) (Reg.op rfl (Ope.asg rfl ?_))))
  refine Reg.nil (Run.seq (Run.seq (Run.region (cx_ok _ _ _) (Reg.op rfl (Ope.asg rfl ?_)))))
  refine Reg.nil (Run.block (Run.loop (α:=Nat×Option (Nat×Nat×Option Nat×List PV)×Nat) (fun t=>[(1,N E),(2,.fp (relV rest tl S)),(5,lspV (2 * t.1) t.2.1),(6,I t.1)]) (fun t=>HE t.2.2 (lspH (sps (2 * t.1) LO HI) t.2.1)) (fun t=>t.1≤S.length∧(t.2.1=none↔t.1=0)∧∀ j c ez post,t.2.1=some (j,c,ez,post)→j < t.2.2∧2 * t.1≤c∧post.length=(c - 2 * t.1) * 2) (fun t=>S.length - t.1) (0,none,0) ⟨rfl,rfl,rfl,rfl,trivial⟩ rfl ⟨Nat.zero_le _,by simp,fun j c ez post h=>by cases h⟩ (fun t ht=>?_)))
  obtain ⟨i,st,q⟩:=t
  obtain ⟨hi,hst,hpo⟩:=ht
  simp only at hi hst hpo
  show Run _ _ _ _ [(1,N E),(2,.fp (relV rest tl S)),(5,lspV (2 * i) st),(6,I i)] [] (HE q (lspH (sps (2 * i) LO HI) st))
  rcases st with _ | ⟨j0,c,ez,post⟩
  ·refine Run.seq (Run.seq (Run.region (cx_ok _ _ _) (Reg.op rfl (Ope.mov rfl ?_))))
   refine Reg.op rfl (Ope.fld rfl rfl ?_)
   refine Reg.op rfl (Ope.load rfl rfl ?_)
   refine Reg.op rfl (Ope.len (m:=S.length) rfl (by simp) ?_)
   refine Reg.op rfl (Ope.lt rfl rfl ?_)
   refine Reg.nil (Run.condX rfl (fun hc=>?_) fun hc=>?_)
   ·refine Run.skip (Run.seq (Run.block (Run.seq ?_)))
    have hlt:i < S.length:=by omega
    have hsi:=hsu i hlt
    have hsl:=hspl i
    have hj1:∀ j:Nat,4 * (i:Int)+(j:Int)=((2 * (2 * i+0)+j:Nat):Int):=fun j=>by omega
    have hj2:∀ j:Nat,4 * (i:Int)+2+(j:Int)=((2 * (2 * i+1)+j:Nat):Int):=fun j=>by omega
    have haz:∀ o,fsJ S[i] E i o 0=(0,600):=fun o=>rfl
    have hasu:∀ o j,fsJ S[i] E i o (j+1)=mt (inE E (2 * (2 * i+o)+j)) (S[i].ent o j) (fsJ S[i] E i o j):=fun o j=>rfl
    generalize fsJ S[i] E i=AA at *
    first
    | (have hi0:i=0:=hst.1 rfl)
    | (obtain ⟨hpj,hpc,hpl⟩:=hpo j0 c ez post rfl)
    refine Run.region (cx_ok _ _ _) (Reg.op rfl (Ope.bld rfl rfl ?_))
    refine Reg.op rfl (Ope.bld rfl rfl ?_)
    refine Reg.op rfl (Ope.newL rfl ?_)
    refine Reg.op rfl (Ope.newL rfl ?_)
    refine Reg.op0 (Ope.store rfl rfl (by repeat (first | exact hget_hd | refine (hget_tl (by omega)).trans ?_)) rfl rfl rfl ?_)
    refine Reg.op0 (Ope.store rfl rfl (by repeat (first | exact hget_hd | refine (hget_tl (by omega)).trans ?_)) rfl rfl rfl ?_)
    refine Reg.nil (Run.seq (Run.seq (Run.region (cx_ok _ _ _) (Reg.op rfl (Ope.asg rfl ?_)))))
    refine Reg.nil (Run.block ?_)
    first
    | (refine Run.wide (m := q + 2) (l' := (q, some (celS (AA 0 0))) :: (q + 1, some (celS (AA 1 0))) :: []) (Nat.le_refl _) ⟨by rw [haz]; repeat (first | exact hget_hd | refine (hget_tl (by omega)).trans ?_), by rw [haz]; repeat (first | exact hget_hd | refine (hget_tl (by omega)).trans ?_), trivial⟩ ?_
       refine Run.loop (α:=Nat) (fun j=>[(1,N E),(2,.fp (relV rest tl S)),(5,.sl .ex []),(6,I i),(7,.ptr q 0),(8,.ptr (q+1) 0),(9,I j)]) (fun j=>HE (q+2) ((q,some (celS (AA 0 j)))::(q+1,some (celS (AA 1 j)))::[])) (fun j=>j≤2) (fun j=>2 - j) 0 ⟨rfl,rfl,rfl,rfl,rfl,rfl,rfl,trivial⟩ rfl (Nat.zero_le _) (fun j hj=>?_))
    | (refine Run.wide (m := q + 2) (l' := (q, some (celS (AA 0 0))) :: (q + 1, some (celS (AA 1 0))) :: (j0, some (.cells (flat ((sps (2 * i) LO HI).map spV) ++ post))) :: []) (Nat.le_refl _) ⟨by rw [haz]; repeat (first | exact hget_hd | refine (hget_tl (by omega)).trans ?_), by rw [haz]; repeat (first | exact hget_hd | refine (hget_tl (by omega)).trans ?_), by repeat (first | exact hget_hd | refine (hget_tl (by omega)).trans ?_), trivial⟩ ?_
       refine Run.loop (α:=Nat) (fun j=>[(1,N E),(2,.fp (relV rest tl S)),(5,.ms j0 0 (2 * i) c ez),(6,I i),(7,.ptr q 0),(8,.ptr (q+1) 0),(9,I j)]) (fun j=>HE (q+2) ((q,some (celS (AA 0 j)))::(q+1,some (celS (AA 1 j)))::(j0,some (.cells (flat ((sps (2 * i) LO HI).map spV)++post)))::[])) (fun j=>j≤2) (fun j=>2 - j) 0 ⟨rfl,rfl,rfl,rfl,rfl,rfl,rfl,trivial⟩ rfl (Nat.zero_le _) (fun j hj=>?_))
    refine Run.seq (Run.seq (Run.region (cx_ok _ _ _) (Reg.op rfl (Ope.mov rfl ?_))))
    refine Reg.op rfl (Ope.lt rfl rfl ?_)
    refine Reg.nil (Run.condX rfl (fun hc=>?_) fun hc=>?_)
    ·refine Run.skip (Run.seq (Run.block (Run.seq (Run.seq ?_))))
     have hj2':j < 2:=by omega
     refine Run.region (cx_ok _ _ _) (Reg.op rfl (Ope.mov rfl ?_))
     refine Reg.op rfl (Ope.mov rfl ?_)
     refine Reg.op rfl (Ope.mul rfl rfl (by omega) ?_)
     refine Reg.op rfl (Ope.mov rfl ?_)
     refine Reg.op rfl (Ope.add rfl rfl (by omega) ?_)
     rw [hj1]
     refine Reg.op rfl (Ope.cf rfl rfl (f103 E _ hE (by omega)) rfl ?_)
     refine Reg.nil (Run.condX rfl (fun hc=>?_) fun hc=>?_)
     ·refine Run.draw (cx_ok _ _ _) [(0,true),(1,true),(2,true),(3,true),(4,true),(5,true),(6,true),(7,true),(8,true),(9,true),(10,true)] (by kernel_rfl) (Dra.op' rfl rfl rfl .sure (Ope.loadH rfl (by repeat (first | exact hget_hd | refine (hget_tl (by omega)).trans ?_)) rfl ?_))
      refine Dra.op' rfl rfl rfl .sure (Ope.fld rfl rfl ?_)
      refine Dra.op' rfl rfl rfl .sure (Ope.load rfl rfl ?_)
      refine Dra.op' rfl rfl rfl .sure (Ope.mov rfl ?_)
      refine Dra.op' rfl rfl rfl .sure (Ope.mov rfl ?_)
      refine Dra.op' rfl rfl rfl .sure (Ope.idxM (m:=i) (f:=Sti.v) rfl rfl rfl hlt (fun _=>rfl) ?_)
      refine Dra.op' rfl rfl rfl .sure (Ope.fld rfl rfl ?_)
      refine Dra.op' rfl rfl rfl .sure (Ope.idxA (m:=j) rfl rfl rfl (on_idx S[i] j hj2') ?_)
      refine Dra.op' rfl rfl rfl .sure (Ope.load rfl rfl ?_)
      refine Dra.op' rfl rfl rfl .sure (Ope.cf rfl rfl (f104 _ _ _ _) rfl ?_)
      refine Dra.op' rfl rfl rfl .sure (Ope.store rfl rfl (by repeat (first | exact hget_hd | refine (hget_tl (by omega)).trans ?_)) rfl rfl rfl ?_)
      refine Dra.nil (Run.seq ?_)
      first
      | (have ha0 : AA 0 (j + 1) = AA 0 j := by rw [hasu, mt, if_neg (by rw [hc]; decide)]
         refine Run.wide (m:=q+2) (l':=(q,some (celS (AA 0 (j+1))))::(q+1,some (celS (AA 1 (j))))::(j0,some (.cells (flat ((sps (2 * i) LO HI).map spV)++post)))::[]) (Nat.le_refl _) ⟨(by rw [ha0];repeat (first | exact hget_hd | refine (hget_tl (by omega)).trans ?_)),(by repeat (first | exact hget_hd | refine (hget_tl (by omega)).trans ?_)),(by repeat (first | exact hget_hd | refine (hget_tl (by omega)).trans ?_)),trivial⟩ ?_)
      | (have ha0 : AA 0 (j + 1) = AA 0 j := by rw [hasu, mt, if_neg (by rw [hc]; decide)]
         refine Run.wide (m:=q+2) (l':=(q,some (celS (AA 0 (j+1))))::(q+1,some (celS (AA 1 (j))))::[]) (Nat.le_refl _) ⟨(by rw [ha0];repeat (first | exact hget_hd | refine (hget_tl (by omega)).trans ?_)),(by repeat (first | exact hget_hd | refine (hget_tl (by omega)).trans ?_)),trivial⟩ ?_)
      | (have ha0 : AA 0 (j + 1) = (max (AA 0 j).1 (S[i].ent 0 j).1, min (AA 0 j).2 (S[i].ent 0 j).2) := by rw [hasu, mt, if_pos hc]
         refine Run.wide (m:=q+2) (l':=(q,some (celS (AA 0 (j+1))))::(q+1,some (celS (AA 1 (j))))::(j0,some (.cells (flat ((sps (2 * i) LO HI).map spV)++post)))::[]) (Nat.le_refl _) ⟨(by rw [ha0];repeat (first | exact hget_hd | refine (hget_tl (by omega)).trans ?_)),(by repeat (first | exact hget_hd | refine (hget_tl (by omega)).trans ?_)),(by repeat (first | exact hget_hd | refine (hget_tl (by omega)).trans ?_)),trivial⟩ ?_)
      | (have ha0 : AA 0 (j + 1) = (max (AA 0 j).1 (S[i].ent 0 j).1, min (AA 0 j).2 (S[i].ent 0 j).2) := by rw [hasu, mt, if_pos hc]
         refine Run.wide (m:=q+2) (l':=(q,some (celS (AA 0 (j+1))))::(q+1,some (celS (AA 1 (j))))::[]) (Nat.le_refl _) ⟨(by rw [ha0];repeat (first | exact hget_hd | refine (hget_tl (by omega)).trans ?_)),(by repeat (first | exact hget_hd | refine (hget_tl (by omega)).trans ?_)),trivial⟩ ?_)
      refine Run.region (cx_ok _ _ _) (Reg.op rfl (Ope.mov rfl ?_))
      refine Reg.op rfl (Ope.mov rfl ?_)
      refine Reg.op rfl (Ope.mul rfl rfl (by omega) ?_)
      refine Reg.op rfl (Ope.add rfl rfl (by omega) ?_)
      refine Reg.op rfl (Ope.mov rfl ?_)
      refine Reg.op rfl (Ope.add rfl rfl (by omega) ?_)
      rw [hj2]
      refine Reg.op rfl (Ope.cf rfl rfl (f103 E _ hE (by omega)) rfl ?_)
      refine Reg.nil (Run.condX rfl (fun hc=>?_) fun hc=>?_)
      ·refine Run.draw (cx_ok _ _ _) [(0,true),(1,true),(2,true),(3,true),(4,true),(5,true),(6,true),(7,true),(8,true),(9,true),(10,true)] (by kernel_rfl) (Dra.op' rfl rfl rfl .sure (Ope.loadH rfl (by repeat (first | exact hget_hd | refine (hget_tl (by omega)).trans ?_)) rfl ?_))
       refine Dra.op' rfl rfl rfl .sure (Ope.fld rfl rfl ?_)
       refine Dra.op' rfl rfl rfl .sure (Ope.load rfl rfl ?_)
       refine Dra.op' rfl rfl rfl .sure (Ope.mov rfl ?_)
       refine Dra.op' rfl rfl rfl .sure (Ope.mov rfl ?_)
       refine Dra.op' rfl rfl rfl .sure (Ope.idxM (m:=i) (f:=Sti.v) rfl rfl rfl hlt (fun _=>rfl) ?_)
       refine Dra.op' rfl rfl rfl .sure (Ope.fld rfl rfl ?_)
       refine Dra.op' rfl rfl rfl .sure (Ope.idxA (m:=j) rfl rfl rfl (off_idx S[i] j hj2') ?_)
       refine Dra.op' rfl rfl rfl .sure (Ope.load rfl rfl ?_)
       refine Dra.op' rfl rfl rfl .sure (Ope.cf rfl rfl (f104 _ _ _ _) rfl ?_)
       refine Dra.op' rfl rfl rfl .sure (Ope.store rfl rfl (by repeat (first | exact hget_hd | refine (hget_tl (by omega)).trans ?_)) rfl rfl rfl ?_)
       refine Dra.nil (Run.bend ?_)
       first
       | (have ha1 : AA 1 (j + 1) = AA 1 j := by rw [hasu, mt, if_neg (by rw [hc]; decide)]
          refine Run.wide (m:=q+2) (l':=(q,some (celS (AA 0 (j+1))))::(q+1,some (celS (AA 1 (j+1))))::(j0,some (.cells (flat ((sps (2 * i) LO HI).map spV)++post)))::[]) (Nat.le_refl _) ⟨(by repeat (first | exact hget_hd | refine (hget_tl (by omega)).trans ?_)),(by rw [ha1];repeat (first | exact hget_hd | refine (hget_tl (by omega)).trans ?_)),(by repeat (first | exact hget_hd | refine (hget_tl (by omega)).trans ?_)),trivial⟩ ?_)
       | (have ha1 : AA 1 (j + 1) = AA 1 j := by rw [hasu, mt, if_neg (by rw [hc]; decide)]
          refine Run.wide (m:=q+2) (l':=(q,some (celS (AA 0 (j+1))))::(q+1,some (celS (AA 1 (j+1))))::[]) (Nat.le_refl _) ⟨(by repeat (first | exact hget_hd | refine (hget_tl (by omega)).trans ?_)),(by rw [ha1];repeat (first | exact hget_hd | refine (hget_tl (by omega)).trans ?_)),trivial⟩ ?_)
       | (have ha1 : AA 1 (j + 1) = (max (AA 1 j).1 (S[i].ent 1 j).1, min (AA 1 j).2 (S[i].ent 1 j).2) := by rw [hasu, mt, if_pos hc]
          refine Run.wide (m:=q+2) (l':=(q,some (celS (AA 0 (j+1))))::(q+1,some (celS (AA 1 (j+1))))::(j0,some (.cells (flat ((sps (2 * i) LO HI).map spV)++post)))::[]) (Nat.le_refl _) ⟨(by repeat (first | exact hget_hd | refine (hget_tl (by omega)).trans ?_)),(by rw [ha1];repeat (first | exact hget_hd | refine (hget_tl (by omega)).trans ?_)),(by repeat (first | exact hget_hd | refine (hget_tl (by omega)).trans ?_)),trivial⟩ ?_)
       | (have ha1 : AA 1 (j + 1) = (max (AA 1 j).1 (S[i].ent 1 j).1, min (AA 1 j).2 (S[i].ent 1 j).2) := by rw [hasu, mt, if_pos hc]
          refine Run.wide (m:=q+2) (l':=(q,some (celS (AA 0 (j+1))))::(q+1,some (celS (AA 1 (j+1))))::[]) (Nat.le_refl _) ⟨(by repeat (first | exact hget_hd | refine (hget_tl (by omega)).trans ?_)),(by rw [ha1];repeat (first | exact hget_hd | refine (hget_tl (by omega)).trans ?_)),trivial⟩ ?_)
       refine Run.region (cx_ok _ _ _) (Reg.op rfl (Ope.mov rfl ?_))
       refine Reg.op rfl (Ope.add rfl rfl (by omega) ?_)
       refine Reg.op rfl (Ope.asg rfl ?_)
       exact Reg.nil (Run.lend ⟨j+1,by omega,by omega,⟨rfl,rfl,rfl,rfl,rfl,rfl,rfl,trivial⟩,rfl,rfl⟩)
      ·refine Run.skip (Run.bend ?_)
       first
       | (have ha1 : AA 1 (j + 1) = AA 1 j := by rw [hasu, mt, if_neg (by rw [hc]; decide)]
          refine Run.wide (m:=q+2) (l':=(q,some (celS (AA 0 (j+1))))::(q+1,some (celS (AA 1 (j+1))))::(j0,some (.cells (flat ((sps (2 * i) LO HI).map spV)++post)))::[]) (Nat.le_refl _) ⟨(by repeat (first | exact hget_hd | refine (hget_tl (by omega)).trans ?_)),(by rw [ha1];repeat (first | exact hget_hd | refine (hget_tl (by omega)).trans ?_)),(by repeat (first | exact hget_hd | refine (hget_tl (by omega)).trans ?_)),trivial⟩ ?_)
       | (have ha1 : AA 1 (j + 1) = AA 1 j := by rw [hasu, mt, if_neg (by rw [hc]; decide)]
          refine Run.wide (m:=q+2) (l':=(q,some (celS (AA 0 (j+1))))::(q+1,some (celS (AA 1 (j+1))))::[]) (Nat.le_refl _) ⟨(by repeat (first | exact hget_hd | refine (hget_tl (by omega)).trans ?_)),(by rw [ha1];repeat (first | exact hget_hd | refine (hget_tl (by omega)).trans ?_)),trivial⟩ ?_)
       | (have ha1 : AA 1 (j + 1) = (max (AA 1 j).1 (S[i].ent 1 j).1, min (AA 1 j).2 (S[i].ent 1 j).2) := by rw [hasu, mt, if_pos hc]
          refine Run.wide (m:=q+2) (l':=(q,some (celS (AA 0 (j+1))))::(q+1,some (celS (AA 1 (j+1))))::(j0,some (.cells (flat ((sps (2 * i) LO HI).map spV)++post)))::[]) (Nat.le_refl _) ⟨(by repeat (first | exact hget_hd | refine (hget_tl (by omega)).trans ?_)),(by rw [ha1];repeat (first | exact hget_hd | refine (hget_tl (by omega)).trans ?_)),(by repeat (first | exact hget_hd | refine (hget_tl (by omega)).trans ?_)),trivial⟩ ?_)
       | (have ha1 : AA 1 (j + 1) = (max (AA 1 j).1 (S[i].ent 1 j).1, min (AA 1 j).2 (S[i].ent 1 j).2) := by rw [hasu, mt, if_pos hc]
          refine Run.wide (m:=q+2) (l':=(q,some (celS (AA 0 (j+1))))::(q+1,some (celS (AA 1 (j+1))))::[]) (Nat.le_refl _) ⟨(by repeat (first | exact hget_hd | refine (hget_tl (by omega)).trans ?_)),(by rw [ha1];repeat (first | exact hget_hd | refine (hget_tl (by omega)).trans ?_)),trivial⟩ ?_)
       refine Run.region (cx_ok _ _ _) (Reg.op rfl (Ope.mov rfl ?_))
       refine Reg.op rfl (Ope.add rfl rfl (by omega) ?_)
       refine Reg.op rfl (Ope.asg rfl ?_)
       exact Reg.nil (Run.lend ⟨j+1,by omega,by omega,⟨rfl,rfl,rfl,rfl,rfl,rfl,rfl,trivial⟩,rfl,rfl⟩)
     ·refine Run.skip (Run.seq ?_)
      first
      | (have ha0 : AA 0 (j + 1) = AA 0 j := by rw [hasu, mt, if_neg (by rw [hc]; decide)]
         refine Run.wide (m:=q+2) (l':=(q,some (celS (AA 0 (j+1))))::(q+1,some (celS (AA 1 (j))))::(j0,some (.cells (flat ((sps (2 * i) LO HI).map spV)++post)))::[]) (Nat.le_refl _) ⟨(by rw [ha0];repeat (first | exact hget_hd | refine (hget_tl (by omega)).trans ?_)),(by repeat (first | exact hget_hd | refine (hget_tl (by omega)).trans ?_)),(by repeat (first | exact hget_hd | refine (hget_tl (by omega)).trans ?_)),trivial⟩ ?_)
      | (have ha0 : AA 0 (j + 1) = AA 0 j := by rw [hasu, mt, if_neg (by rw [hc]; decide)]
         refine Run.wide (m:=q+2) (l':=(q,some (celS (AA 0 (j+1))))::(q+1,some (celS (AA 1 (j))))::[]) (Nat.le_refl _) ⟨(by rw [ha0];repeat (first | exact hget_hd | refine (hget_tl (by omega)).trans ?_)),(by repeat (first | exact hget_hd | refine (hget_tl (by omega)).trans ?_)),trivial⟩ ?_)
      | (have ha0 : AA 0 (j + 1) = (max (AA 0 j).1 (S[i].ent 0 j).1, min (AA 0 j).2 (S[i].ent 0 j).2) := by rw [hasu, mt, if_pos hc]
         refine Run.wide (m:=q+2) (l':=(q,some (celS (AA 0 (j+1))))::(q+1,some (celS (AA 1 (j))))::(j0,some (.cells (flat ((sps (2 * i) LO HI).map spV)++post)))::[]) (Nat.le_refl _) ⟨(by rw [ha0];repeat (first | exact hget_hd | refine (hget_tl (by omega)).trans ?_)),(by repeat (first | exact hget_hd | refine (hget_tl (by omega)).trans ?_)),(by repeat (first | exact hget_hd | refine (hget_tl (by omega)).trans ?_)),trivial⟩ ?_)
      | (have ha0 : AA 0 (j + 1) = (max (AA 0 j).1 (S[i].ent 0 j).1, min (AA 0 j).2 (S[i].ent 0 j).2) := by rw [hasu, mt, if_pos hc]
         refine Run.wide (m:=q+2) (l':=(q,some (celS (AA 0 (j+1))))::(q+1,some (celS (AA 1 (j))))::[]) (Nat.le_refl _) ⟨(by rw [ha0];repeat (first | exact hget_hd | refine (hget_tl (by omega)).trans ?_)),(by repeat (first | exact hget_hd | refine (hget_tl (by omega)).trans ?_)),trivial⟩ ?_)
      refine Run.region (cx_ok _ _ _) (Reg.op rfl (Ope.mov rfl ?_))
      refine Reg.op rfl (Ope.mov rfl ?_)
      refine Reg.op rfl (Ope.mul rfl rfl (by omega) ?_)
      refine Reg.op rfl (Ope.add rfl rfl (by omega) ?_)
      refine Reg.op rfl (Ope.mov rfl ?_)
      refine Reg.op rfl (Ope.add rfl rfl (by omega) ?_)
      rw [hj2]
      refine Reg.op rfl (Ope.cf rfl rfl (f103 E _ hE (by omega)) rfl ?_)
      refine Reg.nil (Run.condX rfl (fun hc=>?_) fun hc=>?_)
      ·refine Run.draw (cx_ok _ _ _) [(0,true),(1,true),(2,true),(3,true),(4,true),(5,true),(6,true),(7,true),(8,true),(9,true),(10,true)] (by kernel_rfl) (Dra.op' rfl rfl rfl .sure (Ope.loadH rfl (by repeat (first | exact hget_hd | refine (hget_tl (by omega)).trans ?_)) rfl ?_))
       refine Dra.op' rfl rfl rfl .sure (Ope.fld rfl rfl ?_)
       refine Dra.op' rfl rfl rfl .sure (Ope.load rfl rfl ?_)
       refine Dra.op' rfl rfl rfl .sure (Ope.mov rfl ?_)
       refine Dra.op' rfl rfl rfl .sure (Ope.mov rfl ?_)
       refine Dra.op' rfl rfl rfl .sure (Ope.idxM (m:=i) (f:=Sti.v) rfl rfl rfl hlt (fun _=>rfl) ?_)
       refine Dra.op' rfl rfl rfl .sure (Ope.fld rfl rfl ?_)
       refine Dra.op' rfl rfl rfl .sure (Ope.idxA (m:=j) rfl rfl rfl (off_idx S[i] j hj2') ?_)
       refine Dra.op' rfl rfl rfl .sure (Ope.load rfl rfl ?_)
       refine Dra.op' rfl rfl rfl .sure (Ope.cf rfl rfl (f104 _ _ _ _) rfl ?_)
       refine Dra.op' rfl rfl rfl .sure (Ope.store rfl rfl (by repeat (first | exact hget_hd | refine (hget_tl (by omega)).trans ?_)) rfl rfl rfl ?_)
       refine Dra.nil (Run.bend ?_)
       first
       | (have ha1 : AA 1 (j + 1) = AA 1 j := by rw [hasu, mt, if_neg (by rw [hc]; decide)]
          refine Run.wide (m:=q+2) (l':=(q,some (celS (AA 0 (j+1))))::(q+1,some (celS (AA 1 (j+1))))::(j0,some (.cells (flat ((sps (2 * i) LO HI).map spV)++post)))::[]) (Nat.le_refl _) ⟨(by repeat (first | exact hget_hd | refine (hget_tl (by omega)).trans ?_)),(by rw [ha1];repeat (first | exact hget_hd | refine (hget_tl (by omega)).trans ?_)),(by repeat (first | exact hget_hd | refine (hget_tl (by omega)).trans ?_)),trivial⟩ ?_)
       | (have ha1 : AA 1 (j + 1) = AA 1 j := by rw [hasu, mt, if_neg (by rw [hc]; decide)]
          refine Run.wide (m:=q+2) (l':=(q,some (celS (AA 0 (j+1))))::(q+1,some (celS (AA 1 (j+1))))::[]) (Nat.le_refl _) ⟨(by repeat (first | exact hget_hd | refine (hget_tl (by omega)).trans ?_)),(by rw [ha1];repeat (first | exact hget_hd | refine (hget_tl (by omega)).trans ?_)),trivial⟩ ?_)
       | (have ha1 : AA 1 (j + 1) = (max (AA 1 j).1 (S[i].ent 1 j).1, min (AA 1 j).2 (S[i].ent 1 j).2) := by rw [hasu, mt, if_pos hc]
          refine Run.wide (m:=q+2) (l':=(q,some (celS (AA 0 (j+1))))::(q+1,some (celS (AA 1 (j+1))))::(j0,some (.cells (flat ((sps (2 * i) LO HI).map spV)++post)))::[]) (Nat.le_refl _) ⟨(by repeat (first | exact hget_hd | refine (hget_tl (by omega)).trans ?_)),(by rw [ha1];repeat (first | exact hget_hd | refine (hget_tl (by omega)).trans ?_)),(by repeat (first | exact hget_hd | refine (hget_tl (by omega)).trans ?_)),trivial⟩ ?_)
       | (have ha1 : AA 1 (j + 1) = (max (AA 1 j).1 (S[i].ent 1 j).1, min (AA 1 j).2 (S[i].ent 1 j).2) := by rw [hasu, mt, if_pos hc]
          refine Run.wide (m:=q+2) (l':=(q,some (celS (AA 0 (j+1))))::(q+1,some (celS (AA 1 (j+1))))::[]) (Nat.le_refl _) ⟨(by repeat (first | exact hget_hd | refine (hget_tl (by omega)).trans ?_)),(by rw [ha1];repeat (first | exact hget_hd | refine (hget_tl (by omega)).trans ?_)),trivial⟩ ?_)
       refine Run.region (cx_ok _ _ _) (Reg.op rfl (Ope.mov rfl ?_))
       refine Reg.op rfl (Ope.add rfl rfl (by omega) ?_)
       refine Reg.op rfl (Ope.asg rfl ?_)
       exact Reg.nil (Run.lend ⟨j+1,by omega,by omega,⟨rfl,rfl,rfl,rfl,rfl,rfl,rfl,trivial⟩,rfl,rfl⟩)
      ·refine Run.skip (Run.bend ?_)
       first
       | (have ha1 : AA 1 (j + 1) = AA 1 j := by rw [hasu, mt, if_neg (by rw [hc]; decide)]
          refine Run.wide (m:=q+2) (l':=(q,some (celS (AA 0 (j+1))))::(q+1,some (celS (AA 1 (j+1))))::(j0,some (.cells (flat ((sps (2 * i) LO HI).map spV)++post)))::[]) (Nat.le_refl _) ⟨(by repeat (first | exact hget_hd | refine (hget_tl (by omega)).trans ?_)),(by rw [ha1];repeat (first | exact hget_hd | refine (hget_tl (by omega)).trans ?_)),(by repeat (first | exact hget_hd | refine (hget_tl (by omega)).trans ?_)),trivial⟩ ?_)
       | (have ha1 : AA 1 (j + 1) = AA 1 j := by rw [hasu, mt, if_neg (by rw [hc]; decide)]
          refine Run.wide (m:=q+2) (l':=(q,some (celS (AA 0 (j+1))))::(q+1,some (celS (AA 1 (j+1))))::[]) (Nat.le_refl _) ⟨(by repeat (first | exact hget_hd | refine (hget_tl (by omega)).trans ?_)),(by rw [ha1];repeat (first | exact hget_hd | refine (hget_tl (by omega)).trans ?_)),trivial⟩ ?_)
       | (have ha1 : AA 1 (j + 1) = (max (AA 1 j).1 (S[i].ent 1 j).1, min (AA 1 j).2 (S[i].ent 1 j).2) := by rw [hasu, mt, if_pos hc]
          refine Run.wide (m:=q+2) (l':=(q,some (celS (AA 0 (j+1))))::(q+1,some (celS (AA 1 (j+1))))::(j0,some (.cells (flat ((sps (2 * i) LO HI).map spV)++post)))::[]) (Nat.le_refl _) ⟨(by repeat (first | exact hget_hd | refine (hget_tl (by omega)).trans ?_)),(by rw [ha1];repeat (first | exact hget_hd | refine (hget_tl (by omega)).trans ?_)),(by repeat (first | exact hget_hd | refine (hget_tl (by omega)).trans ?_)),trivial⟩ ?_)
       | (have ha1 : AA 1 (j + 1) = (max (AA 1 j).1 (S[i].ent 1 j).1, min (AA 1 j).2 (S[i].ent 1 j).2) := by rw [hasu, mt, if_pos hc]
          refine Run.wide (m:=q+2) (l':=(q,some (celS (AA 0 (j+1))))::(q+1,some (celS (AA 1 (j+1))))::[]) (Nat.le_refl _) ⟨(by repeat (first | exact hget_hd | refine (hget_tl (by omega)).trans ?_)),(by rw [ha1];repeat (first | exact hget_hd | refine (hget_tl (by omega)).trans ?_)),trivial⟩ ?_)
       refine Run.region (cx_ok _ _ _) (Reg.op rfl (Ope.mov rfl ?_))
       refine Reg.op rfl (Ope.add rfl rfl (by omega) ?_)
       refine Reg.op rfl (Ope.asg rfl ?_)
       exact Reg.nil (Run.lend ⟨j+1,by omega,by omega,⟨rfl,rfl,rfl,rfl,rfl,rfl,rfl,trivial⟩,rfl,rfl⟩)
    ·refine Run.exit (Jmp.code (Jmp.round (Jmp.here ?_)))
     obtain rfl:j=2:=by omega
     refine Run.region (cx_ok _ _ _) (Reg.op rfl (Ope.mov rfl ?_))
     refine Reg.op rfl (Ope.loadH rfl (by repeat (first | exact hget_hd | refine (hget_tl (by omega)).trans ?_)) rfl ?_)
     refine Reg.op rfl (Ope.loadH rfl (by repeat (first | exact hget_hd | refine (hget_tl (by omega)).trans ?_)) rfl ?_)
     refine Reg.op rfl (Ope.bsl rfl rfl rfl rfl ?_)
     first
     | refine Reg.op rfl (Ope.apLp rfl rfl (by simp) (by simp) (by simp) (by decide) (by simp) (by intro v hv;simp only [List.mem_cons,List.not_mem_nil,or_false] at hv;rcases hv with rfl | rfl<;>exact ⟨rfl,rfl⟩) (fun c' post' ez' hc' hp'=>?_))
     | refine Reg.op rfl (Ope.apLw (vs:=(sps (2 * i) LO HI).map spV) (post:=post) rfl rfl (by repeat (first | exact hget_hd | refine (hget_tl (by omega)).trans ?_)) hsl.symm hpc hpl (by rw [hsl];simp;omega) (by rw [hsl];simp;omega) (spV_nc _) (by intro v hv;simp only [List.mem_cons,List.not_mem_nil,or_false] at hv;rcases hv with rfl | rfl<;>exact ⟨rfl,rfl⟩) (fun j' n' c' ez' post' hn' hj' hc' hp'=>?_))
     refine Reg.op rfl (Ope.asg rfl ?_)
     refine Reg.nil (Run.bend ?_)
     first
     | refine Run.wide (m:=q+3) (l':=lspH (sps (2 * (i+1)) LO HI) (some (q+2,c',ez',post'))) (Nat.le_refl _) ⟨by rw [hsi,show (sps (2 * i) LO HI).map spV=[] from by rw [hi0];rfl];exact hget_hd,trivial⟩ ?_
     | refine Run.wide (m:=n') (l':=lspH (sps (2 * (i+1)) LO HI) (some (j',c',ez',post'))) (Nat.le_refl _) ⟨by rw [hsi];exact hget_hd,trivial⟩ ?_
     refine Run.region (cx_ok _ _ _) (Reg.op rfl (Ope.mov rfl ?_))
     refine Reg.op rfl (Ope.add rfl rfl (by omega) ?_)
     refine Reg.op rfl (Ope.asg rfl ?_)
     refine Reg.nil ?_
     first
     | exact Run.lend ⟨(i+1,some (q+2,c',ez',post'),q+3),by show S.length - (i+1) < S.length - i;omega,⟨by show i+1≤S.length;omega,by simp,fun j c ez post h=>by cases h;rw [hi0];exact ⟨by show q+2 < q+3;omega,hc',hp'⟩⟩,⟨rfl,rfl,congrArg (fun z=>some (PV.ms (q+2) 0 z c' ez')) (by rw [hi0];rfl),rfl,trivial⟩,rfl,rfl⟩
     | exact Run.lend ⟨(i+1,some (j',c',ez',post'),n'),by show S.length - (i+1) < S.length - i;omega,⟨by show i+1≤S.length;omega,by simp,fun j c ez post h=>by cases h;exact ⟨by show j' < n';rcases hj' with h | h<;>omega,by rw [hsl] at hc';exact hc',by rw [hsl] at hp';exact hp'⟩⟩,⟨rfl,rfl,congrArg (fun z=>some (PV.ms j' 0 z c' ez')) (by rw [hsl];rfl),rfl,trivial⟩,rfl,rfl⟩
   ·refine Run.exit (Jmp.code (Jmp.round (Jmp.here (Run.seq ?_))))
    first
    | (have hbad:False:=by have:=hst.1 rfl;omega)
    | (obtain rfl : i = S.length := by omega
       obtain ⟨hpj,hpc,hpl⟩:=hpo j0 c ez post rfl
       refine Run.frzS (d:=5) (vs:=(sps (2 * S.length) LO HI).map spV) (post:=post) (sz:=2) rfl hget_hd (hspl _).symm hpc (spV_nc _) ?_)
    refine Run.region (cx_ok _ _ _) (Reg.op rfl (Ope.mov rfl ?_))
    refine Reg.op rfl (Ope.asg rfl ?_)
    refine Reg.nil (Run.ret ?_)
    first
    | exact hbad.elim
    | exact fin_ret (.tmp rfl .nil) (bd_sl (f:=spV) (tl:=.no) rfl (fun _=>rfl) _) rfl
  ·refine Run.seq (Run.seq (Run.region (cx_ok _ _ _) (Reg.op rfl (Ope.mov rfl ?_))))
   refine Reg.op rfl (Ope.fld rfl rfl ?_)
   refine Reg.op rfl (Ope.load rfl rfl ?_)
   refine Reg.op rfl (Ope.len (m:=S.length) rfl (by simp) ?_)
   refine Reg.op rfl (Ope.lt rfl rfl ?_)
   refine Reg.nil (Run.condX rfl (fun hc=>?_) fun hc=>?_)
   ·refine Run.skip (Run.seq (Run.block (Run.seq ?_)))
    have hlt:i < S.length:=by omega
    have hsi:=hsu i hlt
    have hsl:=hspl i
    have hj1:∀ j:Nat,4 * (i:Int)+(j:Int)=((2 * (2 * i+0)+j:Nat):Int):=fun j=>by omega
    have hj2:∀ j:Nat,4 * (i:Int)+2+(j:Int)=((2 * (2 * i+1)+j:Nat):Int):=fun j=>by omega
    have haz:∀ o,fsJ S[i] E i o 0=(0,600):=fun o=>rfl
    have hasu:∀ o j,fsJ S[i] E i o (j+1)=mt (inE E (2 * (2 * i+o)+j)) (S[i].ent o j) (fsJ S[i] E i o j):=fun o j=>rfl
    generalize fsJ S[i] E i=AA at *
    first
    | (have hi0:i=0:=hst.1 rfl)
    | (obtain ⟨hpj,hpc,hpl⟩:=hpo j0 c ez post rfl)
    refine Run.region (cx_ok _ _ _) (Reg.op rfl (Ope.bld rfl rfl ?_))
    refine Reg.op rfl (Ope.bld rfl rfl ?_)
    refine Reg.op rfl (Ope.newL rfl ?_)
    refine Reg.op rfl (Ope.newL rfl ?_)
    refine Reg.op0 (Ope.store rfl rfl (by repeat (first | exact hget_hd | refine (hget_tl (by omega)).trans ?_)) rfl rfl rfl ?_)
    refine Reg.op0 (Ope.store rfl rfl (by repeat (first | exact hget_hd | refine (hget_tl (by omega)).trans ?_)) rfl rfl rfl ?_)
    refine Reg.nil (Run.seq (Run.seq (Run.region (cx_ok _ _ _) (Reg.op rfl (Ope.asg rfl ?_)))))
    refine Reg.nil (Run.block ?_)
    first
    | (refine Run.wide (m := q + 2) (l' := (q, some (celS (AA 0 0))) :: (q + 1, some (celS (AA 1 0))) :: []) (Nat.le_refl _) ⟨by rw [haz]; repeat (first | exact hget_hd | refine (hget_tl (by omega)).trans ?_), by rw [haz]; repeat (first | exact hget_hd | refine (hget_tl (by omega)).trans ?_), trivial⟩ ?_
       refine Run.loop (α:=Nat) (fun j=>[(1,N E),(2,.fp (relV rest tl S)),(5,.sl .ex []),(6,I i),(7,.ptr q 0),(8,.ptr (q+1) 0),(9,I j)]) (fun j=>HE (q+2) ((q,some (celS (AA 0 j)))::(q+1,some (celS (AA 1 j)))::[])) (fun j=>j≤2) (fun j=>2 - j) 0 ⟨rfl,rfl,rfl,rfl,rfl,rfl,rfl,trivial⟩ rfl (Nat.zero_le _) (fun j hj=>?_))
    | (refine Run.wide (m := q + 2) (l' := (q, some (celS (AA 0 0))) :: (q + 1, some (celS (AA 1 0))) :: (j0, some (.cells (flat ((sps (2 * i) LO HI).map spV) ++ post))) :: []) (Nat.le_refl _) ⟨by rw [haz]; repeat (first | exact hget_hd | refine (hget_tl (by omega)).trans ?_), by rw [haz]; repeat (first | exact hget_hd | refine (hget_tl (by omega)).trans ?_), by repeat (first | exact hget_hd | refine (hget_tl (by omega)).trans ?_), trivial⟩ ?_
       refine Run.loop (α:=Nat) (fun j=>[(1,N E),(2,.fp (relV rest tl S)),(5,.ms j0 0 (2 * i) c ez),(6,I i),(7,.ptr q 0),(8,.ptr (q+1) 0),(9,I j)]) (fun j=>HE (q+2) ((q,some (celS (AA 0 j)))::(q+1,some (celS (AA 1 j)))::(j0,some (.cells (flat ((sps (2 * i) LO HI).map spV)++post)))::[])) (fun j=>j≤2) (fun j=>2 - j) 0 ⟨rfl,rfl,rfl,rfl,rfl,rfl,rfl,trivial⟩ rfl (Nat.zero_le _) (fun j hj=>?_))
    refine Run.seq (Run.seq (Run.region (cx_ok _ _ _) (Reg.op rfl (Ope.mov rfl ?_))))
    refine Reg.op rfl (Ope.lt rfl rfl ?_)
    refine Reg.nil (Run.condX rfl (fun hc=>?_) fun hc=>?_)
    ·refine Run.skip (Run.seq (Run.block (Run.seq (Run.seq ?_))))
     have hj2':j < 2:=by omega
     refine Run.region (cx_ok _ _ _) (Reg.op rfl (Ope.mov rfl ?_))
     refine Reg.op rfl (Ope.mov rfl ?_)
     refine Reg.op rfl (Ope.mul rfl rfl (by omega) ?_)
     refine Reg.op rfl (Ope.mov rfl ?_)
     refine Reg.op rfl (Ope.add rfl rfl (by omega) ?_)
     rw [hj1]
     refine Reg.op rfl (Ope.cf rfl rfl (f103 E _ hE (by omega)) rfl ?_)
     refine Reg.nil (Run.condX rfl (fun hc=>?_) fun hc=>?_)
     ·refine Run.draw (cx_ok _ _ _) [(0,true),(1,true),(2,true),(3,true),(4,true),(5,true),(6,true),(7,true),(8,true),(9,true),(10,true)] (by kernel_rfl) (Dra.op' rfl rfl rfl .sure (Ope.loadH rfl (by repeat (first | exact hget_hd | refine (hget_tl (by omega)).trans ?_)) rfl ?_))
      refine Dra.op' rfl rfl rfl .sure (Ope.fld rfl rfl ?_)
      refine Dra.op' rfl rfl rfl .sure (Ope.load rfl rfl ?_)
      refine Dra.op' rfl rfl rfl .sure (Ope.mov rfl ?_)
      refine Dra.op' rfl rfl rfl .sure (Ope.mov rfl ?_)
      refine Dra.op' rfl rfl rfl .sure (Ope.idxM (m:=i) (f:=Sti.v) rfl rfl rfl hlt (fun _=>rfl) ?_)
      refine Dra.op' rfl rfl rfl .sure (Ope.fld rfl rfl ?_)
      refine Dra.op' rfl rfl rfl .sure (Ope.idxA (m:=j) rfl rfl rfl (on_idx S[i] j hj2') ?_)
      refine Dra.op' rfl rfl rfl .sure (Ope.load rfl rfl ?_)
      refine Dra.op' rfl rfl rfl .sure (Ope.cf rfl rfl (f104 _ _ _ _) rfl ?_)
      refine Dra.op' rfl rfl rfl .sure (Ope.store rfl rfl (by repeat (first | exact hget_hd | refine (hget_tl (by omega)).trans ?_)) rfl rfl rfl ?_)
      refine Dra.nil (Run.seq ?_)
      first
      | (have ha0 : AA 0 (j + 1) = AA 0 j := by rw [hasu, mt, if_neg (by rw [hc]; decide)]
         refine Run.wide (m:=q+2) (l':=(q,some (celS (AA 0 (j+1))))::(q+1,some (celS (AA 1 (j))))::(j0,some (.cells (flat ((sps (2 * i) LO HI).map spV)++post)))::[]) (Nat.le_refl _) ⟨(by rw [ha0];repeat (first | exact hget_hd | refine (hget_tl (by omega)).trans ?_)),(by repeat (first | exact hget_hd | refine (hget_tl (by omega)).trans ?_)),(by repeat (first | exact hget_hd | refine (hget_tl (by omega)).trans ?_)),trivial⟩ ?_)
      | (have ha0 : AA 0 (j + 1) = AA 0 j := by rw [hasu, mt, if_neg (by rw [hc]; decide)]
         refine Run.wide (m:=q+2) (l':=(q,some (celS (AA 0 (j+1))))::(q+1,some (celS (AA 1 (j))))::[]) (Nat.le_refl _) ⟨(by rw [ha0];repeat (first | exact hget_hd | refine (hget_tl (by omega)).trans ?_)),(by repeat (first | exact hget_hd | refine (hget_tl (by omega)).trans ?_)),trivial⟩ ?_)
      | (have ha0 : AA 0 (j + 1) = (max (AA 0 j).1 (S[i].ent 0 j).1, min (AA 0 j).2 (S[i].ent 0 j).2) := by rw [hasu, mt, if_pos hc]
         refine Run.wide (m:=q+2) (l':=(q,some (celS (AA 0 (j+1))))::(q+1,some (celS (AA 1 (j))))::(j0,some (.cells (flat ((sps (2 * i) LO HI).map spV)++post)))::[]) (Nat.le_refl _) ⟨(by rw [ha0];repeat (first | exact hget_hd | refine (hget_tl (by omega)).trans ?_)),(by repeat (first | exact hget_hd | refine (hget_tl (by omega)).trans ?_)),(by repeat (first | exact hget_hd | refine (hget_tl (by omega)).trans ?_)),trivial⟩ ?_)
      | (have ha0 : AA 0 (j + 1) = (max (AA 0 j).1 (S[i].ent 0 j).1, min (AA 0 j).2 (S[i].ent 0 j).2) := by rw [hasu, mt, if_pos hc]
         refine Run.wide (m:=q+2) (l':=(q,some (celS (AA 0 (j+1))))::(q+1,some (celS (AA 1 (j))))::[]) (Nat.le_refl _) ⟨(by rw [ha0];repeat (first | exact hget_hd | refine (hget_tl (by omega)).trans ?_)),(by repeat (first | exact hget_hd | refine (hget_tl (by omega)).trans ?_)),trivial⟩ ?_)
      refine Run.region (cx_ok _ _ _) (Reg.op rfl (Ope.mov rfl ?_))
      refine Reg.op rfl (Ope.mov rfl ?_)
      refine Reg.op rfl (Ope.mul rfl rfl (by omega) ?_)
      refine Reg.op rfl (Ope.add rfl rfl (by omega) ?_)
      refine Reg.op rfl (Ope.mov rfl ?_)
      refine Reg.op rfl (Ope.add rfl rfl (by omega) ?_)
      rw [hj2]
      refine Reg.op rfl (Ope.cf rfl rfl (f103 E _ hE (by omega)) rfl ?_)
      refine Reg.nil (Run.condX rfl (fun hc=>?_) fun hc=>?_)
      ·refine Run.draw (cx_ok _ _ _) [(0,true),(1,true),(2,true),(3,true),(4,true),(5,true),(6,true),(7,true),(8,true),(9,true),(10,true)] (by kernel_rfl) (Dra.op' rfl rfl rfl .sure (Ope.loadH rfl (by repeat (first | exact hget_hd | refine (hget_tl (by omega)).trans ?_)) rfl ?_))
       refine Dra.op' rfl rfl rfl .sure (Ope.fld rfl rfl ?_)
       refine Dra.op' rfl rfl rfl .sure (Ope.load rfl rfl ?_)
       refine Dra.op' rfl rfl rfl .sure (Ope.mov rfl ?_)
       refine Dra.op' rfl rfl rfl .sure (Ope.mov rfl ?_)
       refine Dra.op' rfl rfl rfl .sure (Ope.idxM (m:=i) (f:=Sti.v) rfl rfl rfl hlt (fun _=>rfl) ?_)
       refine Dra.op' rfl rfl rfl .sure (Ope.fld rfl rfl ?_)
       refine Dra.op' rfl rfl rfl .sure (Ope.idxA (m:=j) rfl rfl rfl (off_idx S[i] j hj2') ?_)
       refine Dra.op' rfl rfl rfl .sure (Ope.load rfl rfl ?_)
       refine Dra.op' rfl rfl rfl .sure (Ope.cf rfl rfl (f104 _ _ _ _) rfl ?_)
       refine Dra.op' rfl rfl rfl .sure (Ope.store rfl rfl (by repeat (first | exact hget_hd | refine (hget_tl (by omega)).trans ?_)) rfl rfl rfl ?_)
       refine Dra.nil (Run.bend ?_)
       first
       | (have ha1 : AA 1 (j + 1) = AA 1 j := by rw [hasu, mt, if_neg (by rw [hc]; decide)]
          refine Run.wide (m:=q+2) (l':=(q,some (celS (AA 0 (j+1))))::(q+1,some (celS (AA 1 (j+1))))::(j0,some (.cells (flat ((sps (2 * i) LO HI).map spV)++post)))::[]) (Nat.le_refl _) ⟨(by repeat (first | exact hget_hd | refine (hget_tl (by omega)).trans ?_)),(by rw [ha1];repeat (first | exact hget_hd | refine (hget_tl (by omega)).trans ?_)),(by repeat (first | exact hget_hd | refine (hget_tl (by omega)).trans ?_)),trivial⟩ ?_)
       | (have ha1 : AA 1 (j + 1) = AA 1 j := by rw [hasu, mt, if_neg (by rw [hc]; decide)]
          refine Run.wide (m:=q+2) (l':=(q,some (celS (AA 0 (j+1))))::(q+1,some (celS (AA 1 (j+1))))::[]) (Nat.le_refl _) ⟨(by repeat (first | exact hget_hd | refine (hget_tl (by omega)).trans ?_)),(by rw [ha1];repeat (first | exact hget_hd | refine (hget_tl (by omega)).trans ?_)),trivial⟩ ?_)
       | (have ha1 : AA 1 (j + 1) = (max (AA 1 j).1 (S[i].ent 1 j).1, min (AA 1 j).2 (S[i].ent 1 j).2) := by rw [hasu, mt, if_pos hc]
          refine Run.wide (m:=q+2) (l':=(q,some (celS (AA 0 (j+1))))::(q+1,some (celS (AA 1 (j+1))))::(j0,some (.cells (flat ((sps (2 * i) LO HI).map spV)++post)))::[]) (Nat.le_refl _) ⟨(by repeat (first | exact hget_hd | refine (hget_tl (by omega)).trans ?_)),(by rw [ha1];repeat (first | exact hget_hd | refine (hget_tl (by omega)).trans ?_)),(by repeat (first | exact hget_hd | refine (hget_tl (by omega)).trans ?_)),trivial⟩ ?_)
       | (have ha1 : AA 1 (j + 1) = (max (AA 1 j).1 (S[i].ent 1 j).1, min (AA 1 j).2 (S[i].ent 1 j).2) := by rw [hasu, mt, if_pos hc]
          refine Run.wide (m:=q+2) (l':=(q,some (celS (AA 0 (j+1))))::(q+1,some (celS (AA 1 (j+1))))::[]) (Nat.le_refl _) ⟨(by repeat (first | exact hget_hd | refine (hget_tl (by omega)).trans ?_)),(by rw [ha1];repeat (first | exact hget_hd | refine (hget_tl (by omega)).trans ?_)),trivial⟩ ?_)
       refine Run.region (cx_ok _ _ _) (Reg.op rfl (Ope.mov rfl ?_))
       refine Reg.op rfl (Ope.add rfl rfl (by omega) ?_)
       refine Reg.op rfl (Ope.asg rfl ?_)
       exact Reg.nil (Run.lend ⟨j+1,by omega,by omega,⟨rfl,rfl,rfl,rfl,rfl,rfl,rfl,trivial⟩,rfl,rfl⟩)
      ·refine Run.skip (Run.bend ?_)
       first
       | (have ha1 : AA 1 (j + 1) = AA 1 j := by rw [hasu, mt, if_neg (by rw [hc]; decide)]
          refine Run.wide (m:=q+2) (l':=(q,some (celS (AA 0 (j+1))))::(q+1,some (celS (AA 1 (j+1))))::(j0,some (.cells (flat ((sps (2 * i) LO HI).map spV)++post)))::[]) (Nat.le_refl _) ⟨(by repeat (first | exact hget_hd | refine (hget_tl (by omega)).trans ?_)),(by rw [ha1];repeat (first | exact hget_hd | refine (hget_tl (by omega)).trans ?_)),(by repeat (first | exact hget_hd | refine (hget_tl (by omega)).trans ?_)),trivial⟩ ?_)
       | (have ha1 : AA 1 (j + 1) = AA 1 j := by rw [hasu, mt, if_neg (by rw [hc]; decide)]
          refine Run.wide (m:=q+2) (l':=(q,some (celS (AA 0 (j+1))))::(q+1,some (celS (AA 1 (j+1))))::[]) (Nat.le_refl _) ⟨(by repeat (first | exact hget_hd | refine (hget_tl (by omega)).trans ?_)),(by rw [ha1];repeat (first | exact hget_hd | refine (hget_tl (by omega)).trans ?_)),trivial⟩ ?_)
       | (have ha1 : AA 1 (j + 1) = (max (AA 1 j).1 (S[i].ent 1 j).1, min (AA 1 j).2 (S[i].ent 1 j).2) := by rw [hasu, mt, if_pos hc]
          refine Run.wide (m:=q+2) (l':=(q,some (celS (AA 0 (j+1))))::(q+1,some (celS (AA 1 (j+1))))::(j0,some (.cells (flat ((sps (2 * i) LO HI).map spV)++post)))::[]) (Nat.le_refl _) ⟨(by repeat (first | exact hget_hd | refine (hget_tl (by omega)).trans ?_)),(by rw [ha1];repeat (first | exact hget_hd | refine (hget_tl (by omega)).trans ?_)),(by repeat (first | exact hget_hd | refine (hget_tl (by omega)).trans ?_)),trivial⟩ ?_)
       | (have ha1 : AA 1 (j + 1) = (max (AA 1 j).1 (S[i].ent 1 j).1, min (AA 1 j).2 (S[i].ent 1 j).2) := by rw [hasu, mt, if_pos hc]
          refine Run.wide (m:=q+2) (l':=(q,some (celS (AA 0 (j+1))))::(q+1,some (celS (AA 1 (j+1))))::[]) (Nat.le_refl _) ⟨(by repeat (first | exact hget_hd | refine (hget_tl (by omega)).trans ?_)),(by rw [ha1];repeat (first | exact hget_hd | refine (hget_tl (by omega)).trans ?_)),trivial⟩ ?_)
       refine Run.region (cx_ok _ _ _) (Reg.op rfl (Ope.mov rfl ?_))
       refine Reg.op rfl (Ope.add rfl rfl (by omega) ?_)
       refine Reg.op rfl (Ope.asg rfl ?_)
       exact Reg.nil (Run.lend ⟨j+1,by omega,by omega,⟨rfl,rfl,rfl,rfl,rfl,rfl,rfl,trivial⟩,rfl,rfl⟩)
     ·refine Run.skip (Run.seq ?_)
      first
      | (have ha0 : AA 0 (j + 1) = AA 0 j := by rw [hasu, mt, if_neg (by rw [hc]; decide)]
         refine Run.wide (m:=q+2) (l':=(q,some (celS (AA 0 (j+1))))::(q+1,some (celS (AA 1 (j))))::(j0,some (.cells (flat ((sps (2 * i) LO HI).map spV)++post)))::[]) (Nat.le_refl _) ⟨(by rw [ha0];repeat (first | exact hget_hd | refine (hget_tl (by omega)).trans ?_)),(by repeat (first | exact hget_hd | refine (hget_tl (by omega)).trans ?_)),(by repeat (first | exact hget_hd | refine (hget_tl (by omega)).trans ?_)),trivial⟩ ?_)
      | (have ha0 : AA 0 (j + 1) = AA 0 j := by rw [hasu, mt, if_neg (by rw [hc]; decide)]
         refine Run.wide (m:=q+2) (l':=(q,some (celS (AA 0 (j+1))))::(q+1,some (celS (AA 1 (j))))::[]) (Nat.le_refl _) ⟨(by rw [ha0];repeat (first | exact hget_hd | refine (hget_tl (by omega)).trans ?_)),(by repeat (first | exact hget_hd | refine (hget_tl (by omega)).trans ?_)),trivial⟩ ?_)
      | (have ha0 : AA 0 (j + 1) = (max (AA 0 j).1 (S[i].ent 0 j).1, min (AA 0 j).2 (S[i].ent 0 j).2) := by rw [hasu, mt, if_pos hc]
         refine Run.wide (m:=q+2) (l':=(q,some (celS (AA 0 (j+1))))::(q+1,some (celS (AA 1 (j))))::(j0,some (.cells (flat ((sps (2 * i) LO HI).map spV)++post)))::[]) (Nat.le_refl _) ⟨(by rw [ha0];repeat (first | exact hget_hd | refine (hget_tl (by omega)).trans ?_)),(by repeat (first | exact hget_hd | refine (hget_tl (by omega)).trans ?_)),(by repeat (first | exact hget_hd | refine (hget_tl (by omega)).trans ?_)),trivial⟩ ?_)
      | (have ha0 : AA 0 (j + 1) = (max (AA 0 j).1 (S[i].ent 0 j).1, min (AA 0 j).2 (S[i].ent 0 j).2) := by rw [hasu, mt, if_pos hc]
         refine Run.wide (m:=q+2) (l':=(q,some (celS (AA 0 (j+1))))::(q+1,some (celS (AA 1 (j))))::[]) (Nat.le_refl _) ⟨(by rw [ha0];repeat (first | exact hget_hd | refine (hget_tl (by omega)).trans ?_)),(by repeat (first | exact hget_hd | refine (hget_tl (by omega)).trans ?_)),trivial⟩ ?_)
      refine Run.region (cx_ok _ _ _) (Reg.op rfl (Ope.mov rfl ?_))
      refine Reg.op rfl (Ope.mov rfl ?_)
      refine Reg.op rfl (Ope.mul rfl rfl (by omega) ?_)
      refine Reg.op rfl (Ope.add rfl rfl (by omega) ?_)
      refine Reg.op rfl (Ope.mov rfl ?_)
      refine Reg.op rfl (Ope.add rfl rfl (by omega) ?_)
      rw [hj2]
      refine Reg.op rfl (Ope.cf rfl rfl (f103 E _ hE (by omega)) rfl ?_)
      refine Reg.nil (Run.condX rfl (fun hc=>?_) fun hc=>?_)
      ·refine Run.draw (cx_ok _ _ _) [(0,true),(1,true),(2,true),(3,true),(4,true),(5,true),(6,true),(7,true),(8,true),(9,true),(10,true)] (by kernel_rfl) (Dra.op' rfl rfl rfl .sure (Ope.loadH rfl (by repeat (first | exact hget_hd | refine (hget_tl (by omega)).trans ?_)) rfl ?_))
       refine Dra.op' rfl rfl rfl .sure (Ope.fld rfl rfl ?_)
       refine Dra.op' rfl rfl rfl .sure (Ope.load rfl rfl ?_)
       refine Dra.op' rfl rfl rfl .sure (Ope.mov rfl ?_)
       refine Dra.op' rfl rfl rfl .sure (Ope.mov rfl ?_)
       refine Dra.op' rfl rfl rfl .sure (Ope.idxM (m:=i) (f:=Sti.v) rfl rfl rfl hlt (fun _=>rfl) ?_)
       refine Dra.op' rfl rfl rfl .sure (Ope.fld rfl rfl ?_)
       refine Dra.op' rfl rfl rfl .sure (Ope.idxA (m:=j) rfl rfl rfl (off_idx S[i] j hj2') ?_)
       refine Dra.op' rfl rfl rfl .sure (Ope.load rfl rfl ?_)
       refine Dra.op' rfl rfl rfl .sure (Ope.cf rfl rfl (f104 _ _ _ _) rfl ?_)
       refine Dra.op' rfl rfl rfl .sure (Ope.store rfl rfl (by repeat (first | exact hget_hd | refine (hget_tl (by omega)).trans ?_)) rfl rfl rfl ?_)
       refine Dra.nil (Run.bend ?_)
       first
       | (have ha1 : AA 1 (j + 1) = AA 1 j := by rw [hasu, mt, if_neg (by rw [hc]; decide)]
          refine Run.wide (m:=q+2) (l':=(q,some (celS (AA 0 (j+1))))::(q+1,some (celS (AA 1 (j+1))))::(j0,some (.cells (flat ((sps (2 * i) LO HI).map spV)++post)))::[]) (Nat.le_refl _) ⟨(by repeat (first | exact hget_hd | refine (hget_tl (by omega)).trans ?_)),(by rw [ha1];repeat (first | exact hget_hd | refine (hget_tl (by omega)).trans ?_)),(by repeat (first | exact hget_hd | refine (hget_tl (by omega)).trans ?_)),trivial⟩ ?_)
       | (have ha1 : AA 1 (j + 1) = AA 1 j := by rw [hasu, mt, if_neg (by rw [hc]; decide)]
          refine Run.wide (m:=q+2) (l':=(q,some (celS (AA 0 (j+1))))::(q+1,some (celS (AA 1 (j+1))))::[]) (Nat.le_refl _) ⟨(by repeat (first | exact hget_hd | refine (hget_tl (by omega)).trans ?_)),(by rw [ha1];repeat (first | exact hget_hd | refine (hget_tl (by omega)).trans ?_)),trivial⟩ ?_)
       | (have ha1 : AA 1 (j + 1) = (max (AA 1 j).1 (S[i].ent 1 j).1, min (AA 1 j).2 (S[i].ent 1 j).2) := by rw [hasu, mt, if_pos hc]
          refine Run.wide (m:=q+2) (l':=(q,some (celS (AA 0 (j+1))))::(q+1,some (celS (AA 1 (j+1))))::(j0,some (.cells (flat ((sps (2 * i) LO HI).map spV)++post)))::[]) (Nat.le_refl _) ⟨(by repeat (first | exact hget_hd | refine (hget_tl (by omega)).trans ?_)),(by rw [ha1];repeat (first | exact hget_hd | refine (hget_tl (by omega)).trans ?_)),(by repeat (first | exact hget_hd | refine (hget_tl (by omega)).trans ?_)),trivial⟩ ?_)
       | (have ha1 : AA 1 (j + 1) = (max (AA 1 j).1 (S[i].ent 1 j).1, min (AA 1 j).2 (S[i].ent 1 j).2) := by rw [hasu, mt, if_pos hc]
          refine Run.wide (m:=q+2) (l':=(q,some (celS (AA 0 (j+1))))::(q+1,some (celS (AA 1 (j+1))))::[]) (Nat.le_refl _) ⟨(by repeat (first | exact hget_hd | refine (hget_tl (by omega)).trans ?_)),(by rw [ha1];repeat (first | exact hget_hd | refine (hget_tl (by omega)).trans ?_)),trivial⟩ ?_)
       refine Run.region (cx_ok _ _ _) (Reg.op rfl (Ope.mov rfl ?_))
       refine Reg.op rfl (Ope.add rfl rfl (by omega) ?_)
       refine Reg.op rfl (Ope.asg rfl ?_)
       exact Reg.nil (Run.lend ⟨j+1,by omega,by omega,⟨rfl,rfl,rfl,rfl,rfl,rfl,rfl,trivial⟩,rfl,rfl⟩)
      ·refine Run.skip (Run.bend ?_)
       first
       | (have ha1 : AA 1 (j + 1) = AA 1 j := by rw [hasu, mt, if_neg (by rw [hc]; decide)]
          refine Run.wide (m:=q+2) (l':=(q,some (celS (AA 0 (j+1))))::(q+1,some (celS (AA 1 (j+1))))::(j0,some (.cells (flat ((sps (2 * i) LO HI).map spV)++post)))::[]) (Nat.le_refl _) ⟨(by repeat (first | exact hget_hd | refine (hget_tl (by omega)).trans ?_)),(by rw [ha1];repeat (first | exact hget_hd | refine (hget_tl (by omega)).trans ?_)),(by repeat (first | exact hget_hd | refine (hget_tl (by omega)).trans ?_)),trivial⟩ ?_)
       | (have ha1 : AA 1 (j + 1) = AA 1 j := by rw [hasu, mt, if_neg (by rw [hc]; decide)]
          refine Run.wide (m:=q+2) (l':=(q,some (celS (AA 0 (j+1))))::(q+1,some (celS (AA 1 (j+1))))::[]) (Nat.le_refl _) ⟨(by repeat (first | exact hget_hd | refine (hget_tl (by omega)).trans ?_)),(by rw [ha1];repeat (first | exact hget_hd | refine (hget_tl (by omega)).trans ?_)),trivial⟩ ?_)
       | (have ha1 : AA 1 (j + 1) = (max (AA 1 j).1 (S[i].ent 1 j).1, min (AA 1 j).2 (S[i].ent 1 j).2) := by rw [hasu, mt, if_pos hc]
          refine Run.wide (m:=q+2) (l':=(q,some (celS (AA 0 (j+1))))::(q+1,some (celS (AA 1 (j+1))))::(j0,some (.cells (flat ((sps (2 * i) LO HI).map spV)++post)))::[]) (Nat.le_refl _) ⟨(by repeat (first | exact hget_hd | refine (hget_tl (by omega)).trans ?_)),(by rw [ha1];repeat (first | exact hget_hd | refine (hget_tl (by omega)).trans ?_)),(by repeat (first | exact hget_hd | refine (hget_tl (by omega)).trans ?_)),trivial⟩ ?_)
       | (have ha1 : AA 1 (j + 1) = (max (AA 1 j).1 (S[i].ent 1 j).1, min (AA 1 j).2 (S[i].ent 1 j).2) := by rw [hasu, mt, if_pos hc]
          refine Run.wide (m:=q+2) (l':=(q,some (celS (AA 0 (j+1))))::(q+1,some (celS (AA 1 (j+1))))::[]) (Nat.le_refl _) ⟨(by repeat (first | exact hget_hd | refine (hget_tl (by omega)).trans ?_)),(by rw [ha1];repeat (first | exact hget_hd | refine (hget_tl (by omega)).trans ?_)),trivial⟩ ?_)
       refine Run.region (cx_ok _ _ _) (Reg.op rfl (Ope.mov rfl ?_))
       refine Reg.op rfl (Ope.add rfl rfl (by omega) ?_)
       refine Reg.op rfl (Ope.asg rfl ?_)
       exact Reg.nil (Run.lend ⟨j+1,by omega,by omega,⟨rfl,rfl,rfl,rfl,rfl,rfl,rfl,trivial⟩,rfl,rfl⟩)
    ·refine Run.exit (Jmp.code (Jmp.round (Jmp.here ?_)))
     obtain rfl:j=2:=by omega
     refine Run.region (cx_ok _ _ _) (Reg.op rfl (Ope.mov rfl ?_))
     refine Reg.op rfl (Ope.loadH rfl (by repeat (first | exact hget_hd | refine (hget_tl (by omega)).trans ?_)) rfl ?_)
     refine Reg.op rfl (Ope.loadH rfl (by repeat (first | exact hget_hd | refine (hget_tl (by omega)).trans ?_)) rfl ?_)
     refine Reg.op rfl (Ope.bsl rfl rfl rfl rfl ?_)
     first
     | refine Reg.op rfl (Ope.apLp rfl rfl (by simp) (by simp) (by simp) (by decide) (by simp) (by intro v hv;simp only [List.mem_cons,List.not_mem_nil,or_false] at hv;rcases hv with rfl | rfl<;>exact ⟨rfl,rfl⟩) (fun c' post' ez' hc' hp'=>?_))
     | refine Reg.op rfl (Ope.apLw (vs:=(sps (2 * i) LO HI).map spV) (post:=post) rfl rfl (by repeat (first | exact hget_hd | refine (hget_tl (by omega)).trans ?_)) hsl.symm hpc hpl (by rw [hsl];simp;omega) (by rw [hsl];simp;omega) (spV_nc _) (by intro v hv;simp only [List.mem_cons,List.not_mem_nil,or_false] at hv;rcases hv with rfl | rfl<;>exact ⟨rfl,rfl⟩) (fun j' n' c' ez' post' hn' hj' hc' hp'=>?_))
     refine Reg.op rfl (Ope.asg rfl ?_)
     refine Reg.nil (Run.bend ?_)
     first
     | refine Run.wide (m:=q+3) (l':=lspH (sps (2 * (i+1)) LO HI) (some (q+2,c',ez',post'))) (Nat.le_refl _) ⟨by rw [hsi,show (sps (2 * i) LO HI).map spV=[] from by rw [hi0];rfl];exact hget_hd,trivial⟩ ?_
     | refine Run.wide (m:=n') (l':=lspH (sps (2 * (i+1)) LO HI) (some (j',c',ez',post'))) (Nat.le_refl _) ⟨by rw [hsi];exact hget_hd,trivial⟩ ?_
     refine Run.region (cx_ok _ _ _) (Reg.op rfl (Ope.mov rfl ?_))
     refine Reg.op rfl (Ope.add rfl rfl (by omega) ?_)
     refine Reg.op rfl (Ope.asg rfl ?_)
     refine Reg.nil ?_
     first
     | exact Run.lend ⟨(i+1,some (q+2,c',ez',post'),q+3),by show S.length - (i+1) < S.length - i;omega,⟨by show i+1≤S.length;omega,by simp,fun j c ez post h=>by cases h;rw [hi0];exact ⟨by show q+2 < q+3;omega,hc',hp'⟩⟩,⟨rfl,rfl,congrArg (fun z=>some (PV.ms (q+2) 0 z c' ez')) (by rw [hi0];rfl),rfl,trivial⟩,rfl,rfl⟩
     | exact Run.lend ⟨(i+1,some (j',c',ez',post'),n'),by show S.length - (i+1) < S.length - i;omega,⟨by show i+1≤S.length;omega,by simp,fun j c ez post h=>by cases h;exact ⟨by show j' < n';rcases hj' with h | h<;>omega,by rw [hsl] at hc';exact hc',by rw [hsl] at hp';exact hp'⟩⟩,⟨rfl,rfl,congrArg (fun z=>some (PV.ms j' 0 z c' ez')) (by rw [hsl];rfl),rfl,trivial⟩,rfl,rfl⟩
   ·refine Run.exit (Jmp.code (Jmp.round (Jmp.here (Run.seq ?_))))
    first
    | (have hbad:False:=by have:=hst.1 rfl;omega)
    | (obtain rfl : i = S.length := by omega
       obtain ⟨hpj,hpc,hpl⟩:=hpo j0 c ez post rfl
       refine Run.frzS (d:=5) (vs:=(sps (2 * S.length) LO HI).map spV) (post:=post) (sz:=2) rfl hget_hd (hspl _).symm hpc (spV_nc _) ?_)
    refine Run.region (cx_ok _ _ _) (Reg.op rfl (Ope.mov rfl ?_))
    refine Reg.op rfl (Ope.asg rfl ?_)
    refine Reg.nil (Run.ret ?_)
    first
    | exact hbad.elim
    | exact fin_ret (.tmp rfl .nil) (bd_sl (f:=spV) (tl:=.no) rfl (fun _=>rfl) _) rfl
end
end Go.Pv
namespace Go.Pv
open Go.Proofs Go.Am
set_option maxRecDepth 10000
set_option maxHeartbeats 4000000
def narA (n:Nat):Option ((Nat→Int)×(Nat→Int))→PV
  | none=>.sl .ex []
  | some p=>.sl (if n=0 then .ex else .no) ((sps n p.1 p.2).map spV)
theorem narA_bd (n:Nat) (q:Option ((Nat→Int)×(Nat→Int))):(narA n q).bd 0=true:=by
  cases q with
  | none=>rfl
  | some p=>exact bd_sl (f:=spV) (by split<;>rfl) (fun _=>rfl) _
structure RulOk (n:Nat) (R:List Rul):Prop where
  l:R.length≤20
  r:∀ x∈R,x.1 < n∧x.2.1 < n∧-1000≤x.2.2∧x.2.2≤1000
theorem f88z (t1 t2:Tail) (lo hi:Nat→Int):PFun P0 88 [.sl t1 (([]:List (Int×Int)).map spV),.sl t2 (([]:List Rul).map rulR)] (fun v=>∃ q,NarQ 0 lo hi [] q∧v=.tup [narA 0 q,B q.isSome]) fun _=>False:=by
  have hq:NarQ 0 lo hi [] (some (lo,hi)):=⟨⟨fun m hm=>absurd hm (Nat.not_lt_zero _),fun x hx=>by cases hx⟩,⟨fun m hm=>absurd hm (Nat.not_lt_zero _),fun x hx=>by cases hx⟩,fun v hv m hm=>absurd hm (Nat.not_lt_zero _)⟩
  refine PFun.of (C:=c88) (cx_ok _ _ _) rfl (fn:=Try.f88) (by kernel_rfl) (c:=_) rfl rfl rfl ?_
  refine Run.seq (Run.region (cx_ok _ _ _) (Reg.op rfl (Ope.asg rfl ?_)))
  refine Reg.op rfl (Ope.asg rfl ?_)
  refine Reg.nil (Run.seq (Run.region (cx_ok _ _ _) (Reg.op rfl (Ope.bsl rfl rfl rfl rfl ?_))))
  refine Reg.op rfl (Ope.mov rfl ?_)
  refine Reg.op rfl (Ope.ap0 rfl rfl ?_)
  refine Reg.op rfl (Ope.asg rfl ?_)
  refine Reg.nil (Run.seq (Run.seq (Run.region (cx_ok _ _ _) (Reg.op rfl (Ope.asg rfl ?_)))))
  refine Reg.nil (Run.block (Run.loop (α:=Bool) (fun c=>[(1,.sl t2 []),(6,.sl .ex []),(7,B c)]) (fun _=>HE 0 []) (fun c=>True) (fun c=>if c=true then 1 else 0) true ⟨rfl,rfl,rfl,trivial⟩ rfl trivial (fun c hc0=>?_)))
  refine Run.seq (Run.seq (Run.region (cx_ok _ _ _) (Reg.op rfl (Ope.mov rfl ?_))))
  refine Reg.nil (Run.condX rfl (fun hc=>?_) fun hc=>?_)
  ·refine Run.skip (Run.block (Run.seq (Run.region (cx_ok _ _ _) (Reg.op rfl (Ope.asg rfl ?_)))))
   refine Reg.nil (Run.seq (Run.seq (Run.region (cx_ok _ _ _) (Reg.op rfl (Ope.asg rfl ?_)))))
   refine Reg.nil (Run.block (Run.loop (α:=Nat) (fun i=>[(1,.sl t2 []),(6,.sl .ex []),(7,B false),(8,I ((0:Nat):Int))]) (fun _=>HE 0 []) (fun i=>True) (fun i=>0) 0 ⟨rfl,rfl,rfl,rfl,trivial⟩ rfl trivial (fun i hi0=>?_)))
   refine Run.seq (Run.seq (Run.region (cx_ok _ _ _) (Reg.op rfl (Ope.mov rfl ?_))))
   refine Reg.op rfl (Ope.mov rfl ?_)
   refine Reg.op rfl (Ope.len (m:=0) rfl rfl ?_)
   refine Reg.op rfl (Ope.lt rfl rfl ?_)
   refine Reg.nil (Run.condX rfl (fun hc=>?_) fun hc=>?_)
   ·exact absurd ‹_› (by decide)
   ·refine Run.exit (Jmp.code (Jmp.round (Jmp.here (Run.seq (Run.region (cx_ok _ _ _) (Reg.op rfl (Ope.asg rfl ?_)))))))
    refine Reg.nil (Run.block (Run.loop (α:=Nat) (fun i=>[(1,.sl t2 []),(6,.sl .ex []),(7,B false),(9,I ((0:Nat):Int))]) (fun _=>HE 0 []) (fun i=>True) (fun i=>0) 0 ⟨rfl,rfl,rfl,rfl,trivial⟩ rfl trivial (fun i hi0=>?_)))
    refine Run.seq (Run.seq (Run.region (cx_ok _ _ _) (Reg.op rfl (Ope.mov rfl ?_))))
    refine Reg.op rfl (Ope.mov rfl ?_)
    refine Reg.op rfl (Ope.len (m:=0) rfl rfl ?_)
    refine Reg.op rfl (Ope.lt rfl rfl ?_)
    refine Reg.nil (Run.condX rfl (fun hc=>?_) fun hc=>?_)
    ·exact absurd ‹_› (by decide)
    ·exact Run.exit (Jmp.code (Jmp.round (Jmp.here (Run.bend (Run.lend ⟨false,by rw [‹c=true›];decide,trivial,⟨rfl,rfl,rfl,trivial⟩,rfl,rfl⟩)))))
  ·refine Run.exit (Jmp.code (Jmp.round (Jmp.here (Run.seq (Run.region (cx_ok _ _ _) (Reg.op rfl (Ope.mov rfl ?_)))))))
   refine Reg.op rfl (Ope.asg rfl ?_)
   refine Reg.op rfl (Ope.asg rfl ?_)
   refine Reg.nil (Run.ret (fin_ret (.tmp rfl (.tmp rfl .nil)) rfl ?_))
   exact ⟨_,hq,rfl⟩
section
variable {n:Nat} (hn0:0 < n) (hn:n≤10) {lo hi:Nat→Int} (hb:∀ m,m < n→(-1000≤lo m∧lo m≤2000)∧(-1000≤hi m∧hi m≤2000)) {R:List Rul} (hR:RulOk n R)
include hn0 hn hb hR
theorem f88n (t1 t2 : Tail) : PFun P0 88 [.sl t1 ((sps n lo hi).map spV), .sl t2 (R.map rulR)] (fun v => ∃ q, NarQ n lo hi R q ∧ v = .tup [narA n q, B q.isSome]) fun _ => False := by
  obtain ⟨hRl,hRr⟩:=hR
  have hne:(sps n lo hi).map spV≠[]:=fun h=>by
    have:=congrArg List.length h
    rw [List.length_map,sps_len] at this
    exact absurd this (by show n≠0;omega)
  have hln:([]:List PV).length+((sps n lo hi).map spV).length=n:=by rw [List.length_map,sps_len];simp
  refine PFun.of (C:=c88) (cx_ok _ _ _) rfl (fn:=Try.f88) (by kernel_rfl) (c:=_) rfl rfl rfl ?_
  refine Run.seq (Run.region (cx_ok _ _ _) (Reg.op rfl (Ope.asg rfl ?_)))
  refine Reg.op rfl (Ope.asg rfl ?_)
  refine Reg.nil (Run.seq (Run.region (cx_ok _ _ _) (Reg.op rfl (Ope.bsl rfl rfl rfl rfl ?_))))
  refine Reg.op rfl (Ope.mov rfl ?_)
  refine Reg.op rfl (Ope.apLa rfl rfl hne (by rw [hln];omega) (by rw [hln];omega) (by decide) (by simp) (spV_one _) (fun cp post ez hcp=>?_))
  rw [hln] at hcp ⊢
  refine Reg.op rfl (Ope.asg rfl ?_)
  refine Reg.nil (Run.seq (Run.seq (Run.region (cx_ok _ _ _) (Reg.op rfl (Ope.asg rfl ?_)))))
  refine Reg.nil (Run.block (Run.wide (m:=1) (l':=[(0,some (.cells (flat ((sps n lo hi).map spV)++post)))]) (Nat.le_refl _) ⟨rfl,trivial⟩ ?_))
  have hlen:∀ a b,(flat ((sps n a b).map spV)++post).length=2 * n+post.length:=fun a b=>by rw [List.length_append,flat_sps_len]
  refine Run.loop (α:=(Nat→Int)×(Nat→Int)×Bool×Nat) (fun s=>[(1,.sl t2 (R.map rulR)),(6,.ms 0 0 n cp ez),(7,B s.2.2.1)]) (fun s=>HE s.2.2.2 [(0,some (.cells (flat ((sps n s.1 s.2.1).map spV)++post)))]) (fun s=>NarJ n lo hi R s.1 s.2.1∧(s.2.2.1=false→(∀ m,m < n→s.1 m≤s.2.1 m)∧∀ x∈R,s.1 x.1+x.2.2≤s.1 x.2.1∧s.2.1 x.1≤s.2.1 x.2.1 - x.2.2)∧1≤s.2.2.2) (fun s=>nmeas n s.1 s.2.1 s.2.2.1) (lo,hi,true,1) ⟨rfl,rfl,rfl,trivial⟩ rfl ⟨NarJ.init,(fun h=>by cases h),Nat.le_refl _⟩ (fun s hs=>?_)
  obtain ⟨a,b,c,q⟩:=s
  obtain ⟨hJ,hC,hq⟩:=hs
  simp only at hJ hC hq
  show Run _ _ _ _ [(1,.sl t2 (R.map rulR)),(6,.ms 0 0 n cp ez),(7,B c)] [] (HE q [(0,some (.cells (flat ((sps n a b).map spV)++post)))])
  refine Run.seq (Run.seq (Run.region (cx_ok _ _ _) (Reg.op rfl (Ope.mov rfl ?_))))
  refine Reg.nil (Run.condX rfl (fun hc=>?_) fun hc=>?_)
  ·refine Run.skip (Run.block (Run.seq (Run.region (cx_ok _ _ _) (Reg.op rfl (Ope.asg rfl ?_)))))
   refine Reg.nil (Run.seq (Run.seq (Run.region (cx_ok _ _ _) (Reg.op rfl (Ope.asg rfl ?_)))))
   refine Reg.nil (Run.block ?_)
   have hct:c=true:=hc
   refine Run.loop (α:=Nat) (fun i=>[(1,.sl t2 (R.map rulR)),(6,.ms 0 0 n cp ez),(7,B false),(8,I i)]) (fun _=>HE q [(0,some (.cells (flat ((sps n a b).map spV)++post)))]) (fun i=>i≤n∧∀ m,m < i→a m≤b m) (fun i=>n - i) 0 ⟨rfl,rfl,rfl,rfl,trivial⟩ rfl ⟨Nat.zero_le _,fun m hm=>absurd hm (Nat.not_lt_zero _)⟩ (fun i hi'=>?_)
   obtain ⟨hi1,hi2⟩:=hi'
   refine Run.seq (Run.seq (Run.region (cx_ok _ _ _) (Reg.op rfl (Ope.mov rfl ?_))))
   refine Reg.op rfl (Ope.mov rfl ?_)
   refine Reg.op rfl (Ope.lenL rfl ?_)
   refine Reg.op rfl (Ope.lt rfl rfl ?_)
   refine Reg.nil (Run.condX rfl (fun hc=>?_) fun hc=>?_)
   ·refine Run.skip (Run.seq (Run.block (Run.seq ?_)))
    have hlt:i < n:=by omega
    refine Run.draw (cx_ok _ _ _) [(0,true),(1,true),(2,true),(3,true),(4,true),(5,true),(6,true),(7,true),(8,true),(9,true),(10,true)] (by kernel_rfl) (Dra.op' rfl rfl rfl .sure (Ope.mov rfl ?_))
    refine Dra.op' rfl rfl rfl .sure (Ope.mov rfl ?_)
    refine Dra.op' rfl rfl rfl .sure (Ope.idxL (m:=i) rfl rfl rfl hlt ?_)
    refine Dra.op' rfl rfl rfl .sure (Ope.fld rfl rfl ?_)
    refine Dra.op' rfl rfl rfl .sure (Ope.loadL rfl hget_hd (sps_lo hlt) ?_)
    refine Dra.op' rfl rfl rfl .sure (Ope.mov rfl ?_)
    refine Dra.op' rfl rfl rfl .sure (Ope.mov rfl ?_)
    refine Dra.op' rfl rfl rfl .sure (Ope.idxL (m:=i) rfl rfl rfl hlt ?_)
    refine Dra.op' rfl rfl rfl .sure (Ope.fld rfl rfl ?_)
    refine Dra.op' rfl rfl rfl .sure (Ope.loadL rfl hget_hd (sps_hi hlt) ?_)
    refine Dra.op' rfl rfl rfl .sure (Ope.gt rfl rfl ?_)
    refine Dra.nil (Run.condX rfl (fun hc=>?_) fun hc=>?_)
    ·refine Run.seq (Run.region (cx_ok _ _ _) (Reg.op rfl (Ope.asg rfl ?_)))
     refine Reg.op rfl (Ope.asg rfl ?_)
     refine Reg.nil (Run.ret (Jmp.retB (Jmp.code (Jmp.round (Jmp.retB (Jmp.code (Jmp.retB (Jmp.round (Jmp.retB (Jmp.code (fin_ret (.tmp rfl (.tmp rfl .nil)) (by first | rfl | (have h9:=bd_sl (f:=spV) (tl:=.no) rfl (fun _=>rfl) (sps n a b);simp only [pone,PV.bd,PV.bds,Bool.and_true] at h9 ⊢;exact h9)) ?_)))))))))))
     first
     | (exact ⟨none,hJ.none hlt (by omega),rfl⟩)
     | (obtain ⟨g1, g2⟩ := hC (by simpa using hc)
        exact ⟨some (a,b),hJ.done g1 g2,by unfold narA;rw [if_neg (by omega)];rfl⟩)
    ·refine Run.skip (Run.bend (Run.region (cx_ok _ _ _) (Reg.op rfl (Ope.mov rfl ?_))))
     refine Reg.op rfl (Ope.add rfl rfl (by omega) ?_)
     refine Reg.op rfl (Ope.asg rfl ?_)
     refine Reg.nil ?_
     exact Run.lend ⟨i+1,by omega,⟨by omega,fun m hm=>by
       by_cases hmi:m=i
       · subst hmi;omega
       · exact hi2 m (by omega)⟩,⟨rfl,rfl,rfl,rfl,trivial⟩,rfl,rfl⟩
   ·refine Run.exit (Jmp.code (Jmp.round (Jmp.here (Run.seq (Run.region (cx_ok _ _ _) (Reg.op rfl (Ope.asg rfl ?_)))))))
    refine Reg.nil (Run.block ?_)
    obtain rfl:i=n:=by omega
    have hab:∀ m,m < i→-1000≤a m∧a m≤b m∧b m≤2000:=fun m hm=>by
      have:=hb m hm;have:=hJ.l m hm;have:=hJ.h m hm;have:=hi2 m hm;omega
    refine Run.loop (α:=Nat×(Nat→Int)×(Nat→Int)×Bool×Nat) (fun s=>[(1,.sl t2 (R.map rulR)),(6,.ms 0 0 i cp ez),(7,B s.2.2.2.1),(9,I s.1)]) (fun s=>HE s.2.2.2.2 [(0,some (.cells (flat ((sps i s.2.1 s.2.2.1).map spV)++post)))]) (fun s=>s.1≤R.length∧NarJ i lo hi R s.2.1 s.2.2.1∧(∀ m,m < i→(-1000≤s.2.1 m∧s.2.1 m≤2000+1000 * s.1)∧(-1000 - 1000 * s.1≤s.2.2.1 m∧s.2.2.1 m≤2000))∧(s.2.2.2.1=false→s.2.1=a∧s.2.2.1=b∧∀ j (hj:j < R.length),j < s.1→a R[j].1+R[j].2.2≤a R[j].2.1∧b R[j].1≤b R[j].2.1 - R[j].2.2)∧(s.2.2.2.1=true→wid s.2.1 s.2.2.1 i < wid a b i)∧1≤s.2.2.2.2) (fun s=>R.length - s.1) (0,a,b,false,q) ⟨rfl,rfl,rfl,rfl,trivial⟩ rfl ⟨Nat.zero_le _,hJ,(fun m hm=>by have:=hab m hm;simp only;omega),(fun _=>⟨rfl,rfl,fun j hj h=>absurd h (Nat.not_lt_zero _)⟩),(fun h=>by cases h),hq⟩ (fun s hs=>?_)
    obtain ⟨k,a1,b1,c1,q1⟩:=s
    obtain ⟨hk,hJ1,hbd,hcf,hct1,hq1⟩:=hs
    simp only at hk hJ1 hbd hcf hct1 hq1
    show Run _ _ _ _ [(1,.sl t2 (R.map rulR)),(6,.ms 0 0 i cp ez),(7,B c1),(9,I k)] [] (HE q1 [(0,some (.cells (flat ((sps i a1 b1).map spV)++post)))])
    refine Run.seq (Run.seq (Run.region (cx_ok _ _ _) (Reg.op rfl (Ope.mov rfl ?_))))
    refine Reg.op rfl (Ope.mov rfl ?_)
    refine Reg.op rfl (Ope.len (m:=R.length) rfl (by simp) ?_)
    refine Reg.op rfl (Ope.lt rfl rfl ?_)
    refine Reg.nil (Run.condX rfl (fun hc=>?_) fun hc=>?_)
    ·refine Run.skip (Run.seq (Run.block (Run.seq ?_)))
     have hkR:k < R.length:=by omega
     have hxm:R[k]∈R:=List.getElem_mem hkR
     obtain ⟨hxA,hxB,hxL⟩:=hRr _ hxm
     refine Run.region (cx_ok _ _ _) (Reg.op rfl (Ope.mov rfl ?_))
     refine Reg.op rfl (Ope.mov rfl ?_)
     refine Reg.op rfl (Ope.idxM (m:=k) (f:=rulR) rfl rfl rfl hkR (fun _=>rfl) ?_)
     refine Reg.op rfl (Ope.load rfl rfl ?_)
     refine Reg.op rfl (Ope.newL rfl ?_)
     refine Reg.op0 (Ope.store rfl rfl hget_hd rfl rfl rfl ?_)
     refine Reg.nil (Run.seq (Run.seq (Run.frz (d:=10) true rfl hget_hd rfl ?_)))
     refine Run.wide (m:=q1+1) (l':=[(0,some (.cells (flat ((sps i a1 b1).map spV)++post)))]) (Nat.le_refl _) ⟨by repeat (first | exact hget_hd | refine (hget_tl (by omega)).trans ?_),trivial⟩ ?_
     have hrl:∀ j (hj:j < R.length),j=k→R[j]=R[k]:=fun j hj h=>by subst h;rfl
     generalize hRk:R[k]=x at *
     obtain ⟨A,Bm,L⟩:=x
     simp only at hxA hxB hxL
     have bA:=hbd A hxA
     have bB:=hbd Bm hxB
     refine Run.draw (cx_ok _ _ _) [(0,true),(1,true),(2,true),(3,true),(4,true),(5,true),(6,true),(7,true),(8,true),(9,true),(10,true),(11,true),(12,true),(13,true),(14,true),(15,true)] (by kernel_rfl) (Dra.op' rfl rfl rfl .sure (Ope.mov rfl ?_))
     refine Dra.op' rfl rfl rfl .sure (Ope.fld rfl rfl ?_)
     refine Dra.op' rfl rfl rfl .sure (Ope.load rfl rfl ?_)
     refine Dra.op' rfl rfl rfl .sure (Ope.idxL (m:=Bm) rfl rfl rfl hxB ?_)
     refine Dra.op' rfl rfl rfl .sure (Ope.fld rfl rfl ?_)
     refine Dra.op' rfl rfl rfl .sure (Ope.loadL rfl hget_hd (sps_lo hxB) ?_)
     refine Dra.op' rfl rfl rfl .sure (Ope.mov rfl ?_)
     refine Dra.op' rfl rfl rfl .sure (Ope.fld rfl rfl ?_)
     refine Dra.op' rfl rfl rfl .sure (Ope.load rfl rfl ?_)
     refine Dra.op' rfl rfl rfl .sure (Ope.idxL (m:=A) rfl rfl rfl hxA ?_)
     refine Dra.op' rfl rfl rfl .sure (Ope.fld rfl rfl ?_)
     refine Dra.op' rfl rfl rfl .sure (Ope.loadL rfl hget_hd (sps_lo hxA) ?_)
     refine Dra.op' rfl rfl rfl .sure (Ope.fld rfl rfl ?_)
     refine Dra.op' rfl rfl rfl .sure (Ope.load (v:=I L) rfl rfl ?_)
     refine Dra.op' rfl rfl rfl .sure (Ope.add rfl rfl (by omega) ?_)
     refine Dra.op' rfl rfl rfl .sure (Ope.lt rfl rfl ?_)
     refine Dra.nil (Run.condX rfl (fun hc=>?_) fun hc=>?_)
     ·refine Run.draw (cx_ok _ _ _) [(0, true), (1, true), (2, true), (3, true), (4, true), (5, true), (6, true), (7, true), (8, true), (9, true), (10, true), (11, true), (12, true), (13, true), (14, true), (15, true)] (by kernel_rfl) (Dra.op' rfl rfl rfl .sure (Ope.mov rfl ?_))
      refine Dra.op' rfl rfl rfl .sure (Ope.fld rfl rfl ?_)
      refine Dra.op' rfl rfl rfl .sure (Ope.load rfl rfl ?_)
      refine Dra.op' rfl rfl rfl .sure (Ope.mov rfl ?_)
      refine Dra.op' rfl rfl rfl .sure (Ope.fld rfl rfl ?_)
      refine Dra.op' rfl rfl rfl .sure (Ope.load rfl rfl ?_)
      refine Dra.op' rfl rfl rfl .sure (Ope.idxL (m:=A) rfl rfl rfl hxA ?_)
      refine Dra.op' rfl rfl rfl .sure (Ope.fld rfl rfl ?_)
      refine Dra.op' rfl rfl rfl .sure (Ope.loadL rfl hget_hd (sps_lo hxA) ?_)
      refine Dra.op' rfl rfl rfl .sure (Ope.fld rfl rfl ?_)
      refine Dra.op' rfl rfl rfl .sure (Ope.load (v:=I L) rfl rfl ?_)
      refine Dra.op' rfl rfl rfl .sure (Ope.add rfl rfl (by omega) ?_)
      refine Dra.op' rfl rfl rfl .sure (Ope.idxL (m:=Bm) rfl rfl rfl hxB ?_)
      refine Dra.op' rfl rfl rfl .sure (Ope.fld rfl rfl ?_)
      refine Dra.op' rfl rfl rfl .sure (Ope.storeL rfl rfl hget_hd rfl rfl (by rw [hlen];show 0+Bm * 2+0 < _;omega) ?_)
      refine Dra.op' rfl rfl rfl .sure (Ope.asg rfl ?_)
      refine Dra.nil (Run.seq ?_)
      first
      | (have hstL : stLo (A, Bm, L) a1 = upI a1 Bm (a1 A + L) := if_pos hc
         refine Run.wide (m:=q1+1) (l':=[(0,some (.cells (flat ((sps i (stLo (A,Bm,L) a1) b1).map spV)++post)))]) (Nat.le_refl _) ⟨by rw [hstL,← sps_setLo hxB];exact hget_hd,trivial⟩ ?_)
      | (have hstL : stLo (A, Bm, L) a1 = a1 := if_neg hc
         refine Run.wide (m:=q1+1) (l':=[(0,some (.cells (flat ((sps i (stLo (A,Bm,L) a1) b1).map spV)++post)))]) (Nat.le_refl _) ⟨by rw [hstL];exact hget_hd,trivial⟩ ?_)
      refine Run.draw (cx_ok _ _ _) [(0,true),(1,true),(2,true),(3,true),(4,true),(5,true),(6,true),(7,true),(8,true),(9,true),(10,true),(11,true),(12,true),(13,true),(14,true),(15,true)] (by kernel_rfl) (Dra.op' rfl rfl rfl .sure (Ope.mov rfl ?_))
      refine Dra.op' rfl rfl rfl .sure (Ope.fld rfl rfl ?_)
      refine Dra.op' rfl rfl rfl .sure (Ope.load rfl rfl ?_)
      refine Dra.op' rfl rfl rfl .sure (Ope.idxL (m:=A) rfl rfl rfl hxA ?_)
      refine Dra.op' rfl rfl rfl .sure (Ope.fld rfl rfl ?_)
      refine Dra.op' rfl rfl rfl .sure (Ope.loadL rfl hget_hd (sps_hi hxA) ?_)
      refine Dra.op' rfl rfl rfl .sure (Ope.mov rfl ?_)
      refine Dra.op' rfl rfl rfl .sure (Ope.fld rfl rfl ?_)
      refine Dra.op' rfl rfl rfl .sure (Ope.load rfl rfl ?_)
      refine Dra.op' rfl rfl rfl .sure (Ope.idxL (m:=Bm) rfl rfl rfl hxB ?_)
      refine Dra.op' rfl rfl rfl .sure (Ope.fld rfl rfl ?_)
      refine Dra.op' rfl rfl rfl .sure (Ope.loadL rfl hget_hd (sps_hi hxB) ?_)
      refine Dra.op' rfl rfl rfl .sure (Ope.fld rfl rfl ?_)
      refine Dra.op' rfl rfl rfl .sure (Ope.load (v:=I L) rfl rfl ?_)
      refine Dra.op' rfl rfl rfl .sure (Ope.sub rfl rfl (by omega) ?_)
      refine Dra.op' rfl rfl rfl .sure (Ope.gt rfl rfl ?_)
      refine Dra.nil (Run.condX rfl (fun hc=>?_) fun hc=>?_)
      ·refine Run.draw (cx_ok _ _ _) [(0,true),(1,true),(2,true),(3,true),(4,true),(5,true),(6,true),(7,true),(8,true),(9,true),(10,true),(11,true),(12,true),(13,true),(14,true),(15,true)] (by kernel_rfl) (Dra.op' rfl rfl rfl .sure (Ope.mov rfl ?_))
       refine Dra.op' rfl rfl rfl .sure (Ope.fld rfl rfl ?_)
       refine Dra.op' rfl rfl rfl .sure (Ope.load rfl rfl ?_)
       refine Dra.op' rfl rfl rfl .sure (Ope.mov rfl ?_)
       refine Dra.op' rfl rfl rfl .sure (Ope.fld rfl rfl ?_)
       refine Dra.op' rfl rfl rfl .sure (Ope.load rfl rfl ?_)
       refine Dra.op' rfl rfl rfl .sure (Ope.idxL (m:=Bm) rfl rfl rfl hxB ?_)
       refine Dra.op' rfl rfl rfl .sure (Ope.fld rfl rfl ?_)
       refine Dra.op' rfl rfl rfl .sure (Ope.loadL rfl hget_hd (sps_hi hxB) ?_)
       refine Dra.op' rfl rfl rfl .sure (Ope.fld rfl rfl ?_)
       refine Dra.op' rfl rfl rfl .sure (Ope.load (v:=I L) rfl rfl ?_)
       refine Dra.op' rfl rfl rfl .sure (Ope.sub rfl rfl (by omega) ?_)
       refine Dra.op' rfl rfl rfl .sure (Ope.idxL (m:=A) rfl rfl rfl hxA ?_)
       refine Dra.op' rfl rfl rfl .sure (Ope.fld rfl rfl ?_)
       refine Dra.op' rfl rfl rfl .sure (Ope.storeL rfl rfl hget_hd rfl rfl (by rw [hlen];show 0+A * 2+1 < _;omega) ?_)
       refine Dra.op' rfl rfl rfl .sure (Ope.asg rfl ?_)
       refine Dra.nil (Run.bend ?_)
       first
       | (have hstH : stHi (A, Bm, L) b1 = upI b1 A (b1 Bm - L) := if_pos hc
          refine Run.wide (m:=q1+1) (l':=[(0,some (.cells (flat ((sps i (stLo (A,Bm,L) a1) (stHi (A,Bm,L) b1)).map spV)++post)))]) (Nat.le_refl _) ⟨by rw [hstH,← sps_setHi hxA];exact hget_hd,trivial⟩ ?_)
       | (have hstH : stHi (A, Bm, L) b1 = b1 := if_neg hc
          refine Run.wide (m:=q1+1) (l':=[(0,some (.cells (flat ((sps i (stLo (A,Bm,L) a1) (stHi (A,Bm,L) b1)).map spV)++post)))]) (Nat.le_refl _) ⟨by rw [hstH];exact hget_hd,trivial⟩ ?_)
       have hJ2:=(hJ1.lo hxm hxA hxB).hi hxm hxA hxB
       have hle:wid a1 b1 i≤wid a b i:=by
         cases c1 with
         | false=>obtain ⟨rfl,rfl,_⟩:=hcf rfl;exact Int.le_refl _
         | true=>exact Int.le_of_lt (hct1 rfl)
       have hbd2:∀ m,m < i→(-1000≤stLo (A,Bm,L) a1 m∧stLo (A,Bm,L) a1 m≤2000+1000 * ((k+1:Nat):Int))∧(-1000 - 1000 * ((k+1:Nat):Int)≤stHi (A,Bm,L) b1 m∧stHi (A,Bm,L) b1 m≤2000):=fun m hm=>by
         have h9:=hbd m hm
         rw [hstL,hstH]
         try simp only [upI]
         repeat' split
         all_goals omega
       refine Run.region (cx_ok _ _ _) (Reg.op rfl (Ope.mov rfl ?_))
       refine Reg.op rfl (Ope.add rfl rfl (by omega) ?_)
       refine Reg.op rfl (Ope.asg rfl ?_)
       refine Reg.nil ?_
       first
       | exact Run.lend ⟨(k+1,stLo (A,Bm,L) a1,stHi (A,Bm,L) b1,c1,q1+1),by show R.length - (k+1) < R.length - k;omega,⟨by show k+1≤R.length;omega,hJ2,hbd2,(fun h=>by
           obtain ⟨e1,e2,e3⟩:=hcf h
           refine ⟨by rw [hstL];exact e1,by rw [hstH];exact e2,fun j hj hjk=>?_⟩
           by_cases hjk':j < k
           · exact e3 j hj hjk'
           · rw [hrl j hj (by simp only at hjk; omega), ← e1, ← e2]
             show a1 A+L≤a1 Bm∧b1 A≤b1 Bm - L
             omega),(fun h=>by rw [hstL,hstH];exact hct1 h),by show 1≤q1+1;omega⟩,⟨rfl,rfl,rfl,rfl,trivial⟩,rfl,rfl⟩
       | exact Run.lend ⟨(k+1,stLo (A,Bm,L) a1,stHi (A,Bm,L) b1,true,q1+1),by show R.length - (k+1) < R.length - k;omega,⟨by show k+1≤R.length;omega,hJ2,hbd2,(fun h=>by cases h),(fun h=>by
           show wid (stLo (A,Bm,L) a1) (stHi (A,Bm,L) b1) i < wid a b i
           first
             | (rw [hstL,hstH,wid_lo _ hxB,wid_hi _ hxA];omega)
             | (rw [hstL,hstH,wid_lo _ hxB];omega)
             | (rw [hstL,hstH,wid_hi _ hxA];omega)),by show 1≤q1+1;omega⟩,⟨rfl,rfl,rfl,rfl,trivial⟩,rfl,rfl⟩
      ·refine Run.skip (Run.bend ?_)
       first
       | (have hstH : stHi (A, Bm, L) b1 = upI b1 A (b1 Bm - L) := if_pos hc
          refine Run.wide (m:=q1+1) (l':=[(0,some (.cells (flat ((sps i (stLo (A,Bm,L) a1) (stHi (A,Bm,L) b1)).map spV)++post)))]) (Nat.le_refl _) ⟨by rw [hstH,← sps_setHi hxA];exact hget_hd,trivial⟩ ?_)
       | (have hstH : stHi (A, Bm, L) b1 = b1 := if_neg hc
          refine Run.wide (m:=q1+1) (l':=[(0,some (.cells (flat ((sps i (stLo (A,Bm,L) a1) (stHi (A,Bm,L) b1)).map spV)++post)))]) (Nat.le_refl _) ⟨by rw [hstH];exact hget_hd,trivial⟩ ?_)
       have hJ2:=(hJ1.lo hxm hxA hxB).hi hxm hxA hxB
       have hle:wid a1 b1 i≤wid a b i:=by
         cases c1 with
         | false=>obtain ⟨rfl,rfl,_⟩:=hcf rfl;exact Int.le_refl _
         | true=>exact Int.le_of_lt (hct1 rfl)
       have hbd2:∀ m,m < i→(-1000≤stLo (A,Bm,L) a1 m∧stLo (A,Bm,L) a1 m≤2000+1000 * ((k+1:Nat):Int))∧(-1000 - 1000 * ((k+1:Nat):Int)≤stHi (A,Bm,L) b1 m∧stHi (A,Bm,L) b1 m≤2000):=fun m hm=>by
         have h9:=hbd m hm
         rw [hstL,hstH]
         try simp only [upI]
         repeat' split
         all_goals omega
       refine Run.region (cx_ok _ _ _) (Reg.op rfl (Ope.mov rfl ?_))
       refine Reg.op rfl (Ope.add rfl rfl (by omega) ?_)
       refine Reg.op rfl (Ope.asg rfl ?_)
       refine Reg.nil ?_
       first
       | exact Run.lend ⟨(k+1,stLo (A,Bm,L) a1,stHi (A,Bm,L) b1,c1,q1+1),by show R.length - (k+1) < R.length - k;omega,⟨by show k+1≤R.length;omega,hJ2,hbd2,(fun h=>by
           obtain ⟨e1,e2,e3⟩:=hcf h
           refine ⟨by rw [hstL];exact e1,by rw [hstH];exact e2,fun j hj hjk=>?_⟩
           by_cases hjk':j < k
           · exact e3 j hj hjk'
           · rw [hrl j hj (by simp only at hjk; omega), ← e1, ← e2]
             show a1 A+L≤a1 Bm∧b1 A≤b1 Bm - L
             omega),(fun h=>by rw [hstL,hstH];exact hct1 h),by show 1≤q1+1;omega⟩,⟨rfl,rfl,rfl,rfl,trivial⟩,rfl,rfl⟩
       | exact Run.lend ⟨(k+1,stLo (A,Bm,L) a1,stHi (A,Bm,L) b1,true,q1+1),by show R.length - (k+1) < R.length - k;omega,⟨by show k+1≤R.length;omega,hJ2,hbd2,(fun h=>by cases h),(fun h=>by
           show wid (stLo (A,Bm,L) a1) (stHi (A,Bm,L) b1) i < wid a b i
           first
             | (rw [hstL,hstH,wid_lo _ hxB,wid_hi _ hxA];omega)
             | (rw [hstL,hstH,wid_lo _ hxB];omega)
             | (rw [hstL,hstH,wid_hi _ hxA];omega)),by show 1≤q1+1;omega⟩,⟨rfl,rfl,rfl,rfl,trivial⟩,rfl,rfl⟩
     ·refine Run.skip (Run.seq ?_)
      first
      | (have hstL : stLo (A, Bm, L) a1 = upI a1 Bm (a1 A + L) := if_pos hc
         refine Run.wide (m:=q1+1) (l':=[(0,some (.cells (flat ((sps i (stLo (A,Bm,L) a1) b1).map spV)++post)))]) (Nat.le_refl _) ⟨by rw [hstL,← sps_setLo hxB];exact hget_hd,trivial⟩ ?_)
      | (have hstL : stLo (A, Bm, L) a1 = a1 := if_neg hc
         refine Run.wide (m:=q1+1) (l':=[(0,some (.cells (flat ((sps i (stLo (A,Bm,L) a1) b1).map spV)++post)))]) (Nat.le_refl _) ⟨by rw [hstL];exact hget_hd,trivial⟩ ?_)
      refine Run.draw (cx_ok _ _ _) [(0,true),(1,true),(2,true),(3,true),(4,true),(5,true),(6,true),(7,true),(8,true),(9,true),(10,true),(11,true),(12,true),(13,true),(14,true),(15,true)] (by kernel_rfl) (Dra.op' rfl rfl rfl .sure (Ope.mov rfl ?_))
      refine Dra.op' rfl rfl rfl .sure (Ope.fld rfl rfl ?_)
      refine Dra.op' rfl rfl rfl .sure (Ope.load rfl rfl ?_)
      refine Dra.op' rfl rfl rfl .sure (Ope.idxL (m:=A) rfl rfl rfl hxA ?_)
      refine Dra.op' rfl rfl rfl .sure (Ope.fld rfl rfl ?_)
      refine Dra.op' rfl rfl rfl .sure (Ope.loadL rfl hget_hd (sps_hi hxA) ?_)
      refine Dra.op' rfl rfl rfl .sure (Ope.mov rfl ?_)
      refine Dra.op' rfl rfl rfl .sure (Ope.fld rfl rfl ?_)
      refine Dra.op' rfl rfl rfl .sure (Ope.load rfl rfl ?_)
      refine Dra.op' rfl rfl rfl .sure (Ope.idxL (m:=Bm) rfl rfl rfl hxB ?_)
      refine Dra.op' rfl rfl rfl .sure (Ope.fld rfl rfl ?_)
      refine Dra.op' rfl rfl rfl .sure (Ope.loadL rfl hget_hd (sps_hi hxB) ?_)
      refine Dra.op' rfl rfl rfl .sure (Ope.fld rfl rfl ?_)
      refine Dra.op' rfl rfl rfl .sure (Ope.load (v:=I L) rfl rfl ?_)
      refine Dra.op' rfl rfl rfl .sure (Ope.sub rfl rfl (by omega) ?_)
      refine Dra.op' rfl rfl rfl .sure (Ope.gt rfl rfl ?_)
      refine Dra.nil (Run.condX rfl (fun hc=>?_) fun hc=>?_)
      ·refine Run.draw (cx_ok _ _ _) [(0,true),(1,true),(2,true),(3,true),(4,true),(5,true),(6,true),(7,true),(8,true),(9,true),(10,true),(11,true),(12,true),(13,true),(14,true),(15,true)] (by kernel_rfl) (Dra.op' rfl rfl rfl .sure (Ope.mov rfl ?_))
       refine Dra.op' rfl rfl rfl .sure (Ope.fld rfl rfl ?_)
       refine Dra.op' rfl rfl rfl .sure (Ope.load rfl rfl ?_)
       refine Dra.op' rfl rfl rfl .sure (Ope.mov rfl ?_)
       refine Dra.op' rfl rfl rfl .sure (Ope.fld rfl rfl ?_)
       refine Dra.op' rfl rfl rfl .sure (Ope.load rfl rfl ?_)
       refine Dra.op' rfl rfl rfl .sure (Ope.idxL (m:=Bm) rfl rfl rfl hxB ?_)
       refine Dra.op' rfl rfl rfl .sure (Ope.fld rfl rfl ?_)
       refine Dra.op' rfl rfl rfl .sure (Ope.loadL rfl hget_hd (sps_hi hxB) ?_)
       refine Dra.op' rfl rfl rfl .sure (Ope.fld rfl rfl ?_)
       refine Dra.op' rfl rfl rfl .sure (Ope.load (v:=I L) rfl rfl ?_)
       refine Dra.op' rfl rfl rfl .sure (Ope.sub rfl rfl (by omega) ?_)
       refine Dra.op' rfl rfl rfl .sure (Ope.idxL (m:=A) rfl rfl rfl hxA ?_)
       refine Dra.op' rfl rfl rfl .sure (Ope.fld rfl rfl ?_)
       refine Dra.op' rfl rfl rfl .sure (Ope.storeL rfl rfl hget_hd rfl rfl (by rw [hlen];show 0+A * 2+1 < _;omega) ?_)
       refine Dra.op' rfl rfl rfl .sure (Ope.asg rfl ?_)
       refine Dra.nil (Run.bend ?_)
       first
       | (have hstH : stHi (A, Bm, L) b1 = upI b1 A (b1 Bm - L) := if_pos hc
          refine Run.wide (m:=q1+1) (l':=[(0,some (.cells (flat ((sps i (stLo (A,Bm,L) a1) (stHi (A,Bm,L) b1)).map spV)++post)))]) (Nat.le_refl _) ⟨by rw [hstH,← sps_setHi hxA];exact hget_hd,trivial⟩ ?_)
       | (have hstH : stHi (A, Bm, L) b1 = b1 := if_neg hc
          refine Run.wide (m:=q1+1) (l':=[(0,some (.cells (flat ((sps i (stLo (A,Bm,L) a1) (stHi (A,Bm,L) b1)).map spV)++post)))]) (Nat.le_refl _) ⟨by rw [hstH];exact hget_hd,trivial⟩ ?_)
       have hJ2:=(hJ1.lo hxm hxA hxB).hi hxm hxA hxB
       have hle:wid a1 b1 i≤wid a b i:=by
         cases c1 with
         | false=>obtain ⟨rfl,rfl,_⟩:=hcf rfl;exact Int.le_refl _
         | true=>exact Int.le_of_lt (hct1 rfl)
       have hbd2:∀ m,m < i→(-1000≤stLo (A,Bm,L) a1 m∧stLo (A,Bm,L) a1 m≤2000+1000 * ((k+1:Nat):Int))∧(-1000 - 1000 * ((k+1:Nat):Int)≤stHi (A,Bm,L) b1 m∧stHi (A,Bm,L) b1 m≤2000):=fun m hm=>by
         have h9:=hbd m hm
         rw [hstL,hstH]
         try simp only [upI]
         repeat' split
         all_goals omega
       refine Run.region (cx_ok _ _ _) (Reg.op rfl (Ope.mov rfl ?_))
       refine Reg.op rfl (Ope.add rfl rfl (by omega) ?_)
       refine Reg.op rfl (Ope.asg rfl ?_)
       refine Reg.nil ?_
       first
       | exact Run.lend ⟨(k+1,stLo (A,Bm,L) a1,stHi (A,Bm,L) b1,c1,q1+1),by show R.length - (k+1) < R.length - k;omega,⟨by show k+1≤R.length;omega,hJ2,hbd2,(fun h=>by
           obtain ⟨e1,e2,e3⟩:=hcf h
           refine ⟨by rw [hstL];exact e1,by rw [hstH];exact e2,fun j hj hjk=>?_⟩
           by_cases hjk':j < k
           · exact e3 j hj hjk'
           · rw [hrl j hj (by simp only at hjk; omega), ← e1, ← e2]
             show a1 A+L≤a1 Bm∧b1 A≤b1 Bm - L
             omega),(fun h=>by rw [hstL,hstH];exact hct1 h),by show 1≤q1+1;omega⟩,⟨rfl,rfl,rfl,rfl,trivial⟩,rfl,rfl⟩
       | exact Run.lend ⟨(k+1,stLo (A,Bm,L) a1,stHi (A,Bm,L) b1,true,q1+1),by show R.length - (k+1) < R.length - k;omega,⟨by show k+1≤R.length;omega,hJ2,hbd2,(fun h=>by cases h),(fun h=>by
           show wid (stLo (A,Bm,L) a1) (stHi (A,Bm,L) b1) i < wid a b i
           first
             | (rw [hstL,hstH,wid_lo _ hxB,wid_hi _ hxA];omega)
             | (rw [hstL,hstH,wid_lo _ hxB];omega)
             | (rw [hstL,hstH,wid_hi _ hxA];omega)),by show 1≤q1+1;omega⟩,⟨rfl,rfl,rfl,rfl,trivial⟩,rfl,rfl⟩
      ·refine Run.skip (Run.bend ?_)
       first
       | (have hstH : stHi (A, Bm, L) b1 = upI b1 A (b1 Bm - L) := if_pos hc
          refine Run.wide (m:=q1+1) (l':=[(0,some (.cells (flat ((sps i (stLo (A,Bm,L) a1) (stHi (A,Bm,L) b1)).map spV)++post)))]) (Nat.le_refl _) ⟨by rw [hstH,← sps_setHi hxA];exact hget_hd,trivial⟩ ?_)
       | (have hstH : stHi (A, Bm, L) b1 = b1 := if_neg hc
          refine Run.wide (m:=q1+1) (l':=[(0,some (.cells (flat ((sps i (stLo (A,Bm,L) a1) (stHi (A,Bm,L) b1)).map spV)++post)))]) (Nat.le_refl _) ⟨by rw [hstH];exact hget_hd,trivial⟩ ?_)
       have hJ2:=(hJ1.lo hxm hxA hxB).hi hxm hxA hxB
       have hle:wid a1 b1 i≤wid a b i:=by
         cases c1 with
         | false=>obtain ⟨rfl,rfl,_⟩:=hcf rfl;exact Int.le_refl _
         | true=>exact Int.le_of_lt (hct1 rfl)
       have hbd2:∀ m,m < i→(-1000≤stLo (A,Bm,L) a1 m∧stLo (A,Bm,L) a1 m≤2000+1000 * ((k+1:Nat):Int))∧(-1000 - 1000 * ((k+1:Nat):Int)≤stHi (A,Bm,L) b1 m∧stHi (A,Bm,L) b1 m≤2000):=fun m hm=>by
         have h9:=hbd m hm
         rw [hstL,hstH]
         try simp only [upI]
         repeat' split
         all_goals omega
       refine Run.region (cx_ok _ _ _) (Reg.op rfl (Ope.mov rfl ?_))
       refine Reg.op rfl (Ope.add rfl rfl (by omega) ?_)
       refine Reg.op rfl (Ope.asg rfl ?_)
       refine Reg.nil ?_
       first
       | exact Run.lend ⟨(k+1,stLo (A,Bm,L) a1,stHi (A,Bm,L) b1,c1,q1+1),by show R.length - (k+1) < R.length - k;omega,⟨by show k+1≤R.length;omega,hJ2,hbd2,(fun h=>by
           obtain ⟨e1,e2,e3⟩:=hcf h
           refine ⟨by rw [hstL];exact e1,by rw [hstH];exact e2,fun j hj hjk=>?_⟩
           by_cases hjk':j < k
           · exact e3 j hj hjk'
           · rw [hrl j hj (by simp only at hjk; omega), ← e1, ← e2]
             show a1 A+L≤a1 Bm∧b1 A≤b1 Bm - L
             omega),(fun h=>by rw [hstL,hstH];exact hct1 h),by show 1≤q1+1;omega⟩,⟨rfl,rfl,rfl,rfl,trivial⟩,rfl,rfl⟩
       | exact Run.lend ⟨(k+1,stLo (A,Bm,L) a1,stHi (A,Bm,L) b1,true,q1+1),by show R.length - (k+1) < R.length - k;omega,⟨by show k+1≤R.length;omega,hJ2,hbd2,(fun h=>by cases h),(fun h=>by
           show wid (stLo (A,Bm,L) a1) (stHi (A,Bm,L) b1) i < wid a b i
           first
             | (rw [hstL,hstH,wid_lo _ hxB,wid_hi _ hxA];omega)
             | (rw [hstL,hstH,wid_lo _ hxB];omega)
             | (rw [hstL,hstH,wid_hi _ hxA];omega)),by show 1≤q1+1;omega⟩,⟨rfl,rfl,rfl,rfl,trivial⟩,rfl,rfl⟩
    ·refine Run.exit (Jmp.code (Jmp.round (Jmp.here (Run.bend ?_))))
     obtain rfl:k=R.length:=by omega
     exact Run.lend ⟨(a1,b1,c1,q1),(by
       show nmeas i a1 b1 c1 < nmeas i a b c
       rw [hct]
       cases c1 with
       | false=>obtain ⟨rfl,rfl,_⟩:=hcf rfl;exact nmeas_same
       | true=>exact nmeas_lt (fun m hm=>(hab m hm).2.1) (hct1 rfl) true),⟨hJ1,(fun h=>by
       obtain ⟨rfl,rfl,e3⟩:=hcf h
       exact ⟨fun m hm=>(hab m hm).2.1,fun x hx=>by
         obtain ⟨j,hj,rfl⟩:=List.getElem_of_mem hx
         exact e3 j hj (by omega)⟩),hq1⟩,⟨rfl,rfl,rfl,trivial⟩,rfl,rfl⟩
  ·refine Run.exit (Jmp.code (Jmp.round (Jmp.here (Run.seq (Run.frzS (d:=6) (vs:=(sps n a b).map spV) (post:=post) (sz:=2) rfl hget_hd (by rw [List.length_map,sps_len]) hcp (spV_nc _) ?_)))))
   refine Run.region (cx_ok _ _ _) (Reg.op rfl (Ope.mov rfl ?_))
   refine Reg.op rfl (Ope.asg rfl ?_)
   refine Reg.op rfl (Ope.asg rfl ?_)
   refine Reg.nil (Run.ret (fin_ret (.tmp rfl (.tmp rfl .nil)) (by first | rfl | (have h9:=bd_sl (f:=spV) (tl:=.no) rfl (fun _=>rfl) (sps n a b);simp only [pone,PV.bd,PV.bds,Bool.and_true] at h9 ⊢;exact h9)) ?_))
   first
   | (exact ⟨none,hJ.none hlt (by omega),rfl⟩)
   | (obtain ⟨g1, g2⟩ := hC (by simpa using hc)
      exact ⟨some (a,b),hJ.done g1 g2,by unfold narA;rw [if_neg (by omega)];rfl⟩)
end
end Go.Pv
namespace Go.Pv
open Go.Proofs Go.Am
set_option maxRecDepth 10000
set_option maxHeartbeats 4000000
theorem narF {n:Nat} (hn:n≤10) {lo hi:Nat→Int} (hb:∀ m,m < n→(-1000≤lo m∧lo m≤2000)∧(-1000≤hi m∧hi m≤2000)) {R:List Rul} (hR:RulOk n R) (t1 t2:Tail):PFun P0 88 [.sl t1 ((sps n lo hi).map spV),.sl t2 (R.map rulR)] (fun v=>∃ q,NarQ n lo hi R q∧v=.tup [narA n q,B q.isSome]) fun _=>False:=by
  rcases Nat.eq_zero_or_pos n with rfl | h0
  · have : R = [] := by
      cases R with
      | nil=>rfl
      | cons x R=>exact absurd (hR.r x (by simp)).1 (Nat.not_lt_zero _)
    subst this
    exact f88z t1 t2 lo hi
  · exact f88n h0 hn hb hR t1 t2
theorem bds_cons {n:Nat} {v:PV} {vs:List PV} (h1:v.bd n=true) (h2:PV.bds n vs=true):PV.bds n (v::vs)=true:=by
  simp only [PV.bds,h1,h2,Bool.and_self]
section
variable {rest:Int} {tl:Tail} (htl:tl.isOwn=false) {S:List Sti} (hr:relOk rest S=true)
include hr in
theorem ruls_ok:RulOk (2 * S.length) (rulsR S rest S.length):=by
  obtain ⟨h1,h2,h3⟩:=relOk_of hr
  refine ⟨?_,fun x hx=>?_⟩
  · have := rulsR_len (S := S) (rest := rest) S.length
    omega
  · have := rulsR_ok h1 hx
    omega
include hr in
theorem firstF (E:Nat) (hE:E < 2 ^ 60):∃ te:Tail,te.isOwn=false∧Fn P0 89 [relV rest tl S,N E] (.sl te ((sps (2 * S.length) (fLo S E) (fHi S E)).map spV)):=by
  obtain ⟨h1,h2,h3⟩:=relOk_of hr
  rcases Nat.eq_zero_or_pos S.length with h0 | h0
  · have : S = [] := List.length_eq_zero_iff.1 h0
    subst this
    exact ⟨.ex,rfl,f89z rest tl E⟩
  · exact ⟨.no,rfl,f89t rest tl S h2 E hE h0⟩
include hr in
theorem fs_bnd (E m:Nat):(-1000≤fLo S E m∧fLo S E m≤2000)∧(-1000≤fHi S E m∧fHi S E m≤2000):=by
  obtain ⟨h1,h2,h3⟩:=relOk_of hr
  have:=fsP_bnd h3 E m
  omega
include htl hr
theorem f87 (E:Nat) (hE:E < 2 ^ 60):PFun P0 87 [relV rest tl S,N E] (fun v=>∃ q,NarQ (2 * S.length) (fLo S E) (fHi S E) (rulsR S rest S.length) q∧v=.tup [narA (2 * S.length) q,B q.isSome]) fun _=>False:=by
  obtain ⟨h1,h2,h3⟩:=relOk_of hr
  obtain ⟨te,hte,hfi⟩:=firstF (tl:=tl) hr E hE
  have hru:=f90t rest h1 tl S h2
  have hna:=narF (by omega) (fun m _=>fs_bnd hr E m) (ruls_ok hr) te .no
  have hb1:=bd_is rest tl htl S E
  have hb2:=bd_rels rest tl htl S
  have hb3:PV.bds 0 [.sl te ((sps (2 * S.length) (fLo S E) (fHi S E)).map spV),.sl .no ((rulsR S rest S.length).map rulR)]=true:=bds_cons (bd_sl (f:=spV) hte (fun _=>rfl) _) (bds_cons (bd_sl (f:=rulR) (tl:=.no) rfl (fun _=>rfl) _) rfl)
  refine PFun.of (C:=c87) (cx_ok _ _ _) rfl (fn:=Try.f87) (by kernel_rfl) (c:=_) rfl rfl rfl ?_
  refine Run.seq (Run.region (cx_ok _ _ _) (Reg.op rfl (Ope.boxF rfl rfl ?_)))
  refine Reg.op rfl (Ope.asg rfl ?_)
  refine Reg.op rfl (Ope.asg rfl ?_)
  refine Reg.nil (Run.seq (Run.draw (cx_ok _ _ _) [(0,true),(1,true),(3,false),(2,true),(4,true),(5,true),(6,true),(7,true),(8,true),(9,true)] (by kernel_rfl) (Dra.op' rfl rfl rfl .sure (Ope.load rfl rfl ?_))))
  refine Dra.op' rfl rfl rfl .sure (Ope.mov rfl ?_)
  refine Dra.op' rfl rfl rfl (.load rfl) (Ope.load rfl rfl ?_)
  refine Dra.op' rfl rfl rfl .sure (Ope.cf rfl rfl hfi hb1 ?_)
  refine Dra.op' rfl rfl rfl .sure (Ope.cf rfl rfl hru hb2 ?_)
  refine Dra.op' rfl rfl rfl .sure (Ope.call rfl rfl rfl (PFun.call hna hb3 (fun v q=>?_) (fun v q=>q.elim)))
  obtain ⟨q,hq,rfl⟩:=q
  refine Dra.op' rfl rfl rfl .sure (Ope.ext rfl rfl ?_)
  refine Dra.op' rfl rfl rfl .sure (Ope.ext rfl rfl ?_)
  refine Dra.op' rfl rfl rfl .sure (Ope.asg rfl ?_)
  refine Dra.op' rfl rfl rfl .sure (Ope.asg rfl ?_)
  refine Dra.nil (Run.ret (fin_ret (.tmp rfl (.tmp rfl .nil)) (by simp only [pone,PV.bd,PV.bds,narA_bd];rfl) ?_))
  exact ⟨q,hq,rfl⟩
theorem f72 (E:Nat) (hE:E < 2 ^ 60):Fn P0 72 [relV rest tl S,N E] (B (okT (tabS S rest E))):=by
  have ht:=f87 htl hr E hE
  have hb1:=bd_is rest tl htl S E
  refine PFun.of (C:=c72) (cx_ok _ _ _) rfl (fn:=Try.f72) (by kernel_rfl) (c:=_) rfl rfl rfl ?_
  refine Run.seq (Run.region (cx_ok _ _ _) (Reg.op rfl (Ope.boxF rfl rfl ?_)))
  refine Reg.op rfl (Ope.asg rfl ?_)
  refine Reg.nil (Run.seq (Run.region (cx_ok _ _ _) (Reg.op rfl (Ope.load rfl rfl ?_))))
  refine Reg.op rfl (Ope.mov rfl ?_)
  refine Reg.op rfl (Ope.call rfl rfl rfl (PFun.call ht hb1 (fun v q=>?_) (fun v q=>q.elim)))
  obtain ⟨q,hq,rfl⟩:=q
  have hs:q.isSome=okT (tabS S rest E):=by
    rw [Bool.eq_iff_iff,hq.some_iff]
    exact sat_ok hr
  rw [hs]
  refine Reg.op rfl (Ope.mov rfl ?_)
  refine Reg.op rfl (Ope.ext rfl rfl ?_)
  refine Reg.op rfl (Ope.ext rfl rfl ?_)
  refine Reg.op rfl (Ope.asg rfl ?_)
  refine Reg.op rfl (Ope.asg rfl ?_)
  refine Reg.nil (Run.seq (Run.region (cx_ok _ _ _) (Reg.op rfl (Ope.mov rfl ?_))))
  refine Reg.op rfl (Ope.asg rfl ?_)
  exact Reg.nil (Run.ret (fin_ret (.tmp rfl .nil) rfl rfl))
end
end Go.Pv
namespace Go.Pv
open Go.Proofs Go.Am
set_option maxRecDepth 10000
set_option maxHeartbeats 4000000
section
variable {rest:Int} {tl:Tail} (htl:tl.isOwn=false) {S:List Sti}
end
end Go.Pv
