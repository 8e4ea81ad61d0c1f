/- Parts of the proof: R122, R123, R99, R101, R108, R102 -/
import Derived.Test.YtejnfigkngkhjaaP24
import Derived.Test.YtejnfigkngkhjaaP22
set_option linter.unusedVariables false
set_option linter.unusedSimpArgs false
set_option linter.unusedSectionVars false
namespace Go.Pv
open Go.Proofs Go.Am
set_option maxRecDepth 10000
set_option maxHeartbeats 4000000
theorem eqSpT (xo yo:Operand) (x y:Int):pbin A0 E0 .eql 28 xo yo (.agg [I x,I y]) (.agg [I x,I y])=some (B true):=by
  rw [eqSp]
  simp
section
variable {C:Cx} {X:EX} {e:EL} {ds:List Nat} {K:PV→PH→Prop} {h:PH}
variable {d:Option Tmp} {type:TypeId} {pos:String} {after:Array Edge} {guard:Option (Nat×Bool)}
theorem Ope.eqR {t t':TypeId} {x y:Operand} {kk:IntKind} {a:Int} (hx:pev (lget e) x=some (.lit (.int kk a))) (hy:pev (lget e) y=some (.lit (.int kk a))) (hK:K (B true) h) :
    Ope C X { dst:=d,op:=.binOp .eql t x y t',type,pos,after,guard } e ds h K :=
  Ope.eq hx hy (by rw [decide_eq_true rfl];exact hK)
end
section
variable {rest:Int} {tl:Tail} (htl:tl.isOwn=false) {S:List Sti}
theorem tabP_at {m:Nat} (h:m < (tabP S rest).length):(tabP S rest)[m]=((tabA S rest).min m):=by
  simp [tabP,sps]
theorem bd_opn (c:Bool):PV.bds 0 [relV rest tl S,B c]=true↔PV.bds 0 [relV rest tl S]=true:=by
  simp only [PV.bds,PV.bd,Bool.and_true]
include htl in
theorem bd_relc (c:Bool):PV.bds 0 [relV rest tl S,B c]=true:=(bd_opn c).2 (bd_rels rest tl htl S)
include htl in
theorem f15 (hS:S.length≤1000000) (k:Int):Fn P0 15 [relV rest tl S,I k] (.tup [spV (onE rest S k),I (errT rest S (isSt S k) 0)]):=by
  have hst:=f50 rest tl S hS k
  have hop:=openF (rest:=rest) htl hS (isSt S k)
  have hb1:=bd_is rest tl htl S k
  have hb2:=bd_relc (rest:=rest) htl (S:=S) (isSt S k)
  refine PFun.of (C:=c15) (cx_ok _ _ _) rfl (fn:=Try.f15) (by kernel_rfl) (c:=_) rfl rfl rfl ?_
  refine Run.seq (Run.region (cx_ok _ _ _) (Reg.op rfl (Ope.boxF rfl rfl ?_)))
  refine Reg.op rfl (Ope.newL rfl ?_)
  refine Reg.op rfl (Ope.asg rfl ?_)
  refine Reg.nil (Run.seq (Run.draw (cx_ok _ _ _) [(0,false),(1,true),(2,true),(3,true),(4,true),(5,true),(6,true),(7,true),(8,true),(9,true)] (by kernel_rfl) (Dra.op' rfl rfl rfl (.load rfl) (Ope.load rfl rfl ?_))))
  refine Dra.op' rfl rfl rfl .sure (Ope.load rfl rfl ?_)
  refine Dra.op' rfl rfl rfl .sure (Ope.mov rfl ?_)
  refine Dra.op' rfl rfl rfl .sure (Ope.cf rfl rfl hst hb1 ?_)
  refine Dra.op' rfl rfl rfl .sure (Ope.cf rfl rfl hop hb2 ?_)
  refine Dra.op' rfl rfl rfl .sure (Ope.mov rfl ?_)
  refine Dra.op' rfl rfl rfl .sure (Ope.ext rfl rfl ?_)
  refine Dra.op' rfl rfl rfl .sure (Ope.ext rfl rfl ?_)
  refine Dra.op' rfl rfl rfl .sure (Ope.asg rfl ?_)
  refine Dra.op' rfl rfl rfl .sure (Ope.asg rfl ?_)
  refine Dra.nil (Run.seq (Run.seq (Run.region (cx_ok _ _ _) (Reg.op rfl (Ope.mov rfl ?_)))))
  refine Reg.op rfl (Ope.ne rfl rfl ?_)
  refine Reg.nil (Run.condX rfl (fun hc=>?_) fun hc=>?_)
  ·refine Run.seq (Run.region (cx_ok _ _ _) (Reg.op rfl (Ope.bld rfl rfl ?_)))
   refine Reg.op rfl (Ope.mov rfl ?_)
   refine Reg.op0 (Ope.store rfl rfl rfl rfl rfl rfl ?_)
   refine Reg.op rfl (Ope.asg rfl ?_)
   refine Reg.nil (Run.ret (Jmp.code (fin_ret (.cell rfl rfl (.tmp rfl .nil)) rfl ?_)))
   first
   | (have he : ¬ errT rest S (isSt S k) 0 = 0 := by simpa using hc
      show PV.tup [.agg [I 0,I 0],I (errT rest S (isSt S k) 0)]=.tup [spV (onE rest S k),I (errT rest S (isSt S k) 0)]
      unfold onE spI
      rw [if_neg he])
   | (show PV.tup [spV (tabP S rest)[2 * q], I 0] = .tup [spV (onE rest S q), I (errT rest S (isSt S (q : Int)) 0)]
      unfold onE spI
      rw [he,if_pos rfl,tabP_at]
      rfl)
  ·refine Run.skip (Run.seq ?_)
   have he:errT rest S (isSt S k) 0=0:=by simpa using hc
   obtain ⟨g1,g2,g3,_⟩:=err_ok rest S he
   obtain ⟨q,rfl,hq⟩:=isSt_nat g2
   have hS5:=(relOk_of g1).2.1
   have hv:opnV rest S (isSt S (q:Int))=.sl (tlE S) ((tabP S rest).map spV):=if_pos he
   have hql:2 * q < (tabP S rest).length:=by rw [sps_len];omega
   have hm1:(2:Int) * (q:Int)=((2 * q:Nat):Int):=by omega
   have hm2:((2 * q:Nat):Int)+1=((2 * q+1:Nat):Int):=by omega
   rw [hv]
   refine Run.region (cx_ok _ _ _) (Reg.op rfl (Ope.mov rfl ?_))
   refine Reg.op rfl (Ope.mov rfl ?_)
   refine Reg.op rfl (Ope.mul rfl rfl (by omega) ?_)
   rw [hm1]
   refine Reg.op rfl (Ope.idxM (m:=2 * q) (f:=spV) rfl rfl rfl hql (fun _=>rfl) ?_)
   refine Reg.op rfl (Ope.load rfl rfl ?_)
   refine Reg.op0 (Ope.store rfl rfl rfl rfl rfl rfl ?_)
   refine Reg.op rfl (Ope.asg rfl ?_)
   refine Reg.nil (Run.ret (fin_ret (.cell rfl rfl (.tmp rfl .nil)) rfl ?_))
   first
   | (have he : ¬ errT rest S (isSt S k) 0 = 0 := by simpa using hc
      show PV.tup [.agg [I 0,I 0],I (errT rest S (isSt S k) 0)]=.tup [spV (onE rest S k),I (errT rest S (isSt S k) 0)]
      unfold onE spI
      rw [if_neg he])
   | (show PV.tup [spV (tabP S rest)[2 * q], I 0] = .tup [spV (onE rest S q), I (errT rest S (isSt S (q : Int)) 0)]
      unfold onE spI
      rw [he,if_pos rfl,tabP_at]
      rfl)
include htl in
theorem f17 (hS:S.length≤1000000) (k:Int):Fn P0 17 [relV rest tl S,I k] (.tup [spV (offE rest S k),I (errT rest S (isSt S k) 0)]):=by
  have hst:=f50 rest tl S hS k
  have hop:=openF (rest:=rest) htl hS (isSt S k)
  have hb1:=bd_is rest tl htl S k
  have hb2:=bd_relc (rest:=rest) htl (S:=S) (isSt S k)
  refine PFun.of (C:=c17) (cx_ok _ _ _) rfl (fn:=Try.f17) (by kernel_rfl) (c:=_) rfl rfl rfl ?_
  refine Run.seq (Run.region (cx_ok _ _ _) (Reg.op rfl (Ope.boxF rfl rfl ?_)))
  refine Reg.op rfl (Ope.newL rfl ?_)
  refine Reg.op rfl (Ope.asg rfl ?_)
  refine Reg.nil (Run.seq (Run.draw (cx_ok _ _ _) [(0,false),(1,true),(2,true),(3,true),(4,true),(5,true),(6,true),(7,true),(8,true),(9,true)] (by kernel_rfl) (Dra.op' rfl rfl rfl (.load rfl) (Ope.load rfl rfl ?_))))
  refine Dra.op' rfl rfl rfl .sure (Ope.load rfl rfl ?_)
  refine Dra.op' rfl rfl rfl .sure (Ope.mov rfl ?_)
  refine Dra.op' rfl rfl rfl .sure (Ope.cf rfl rfl hst hb1 ?_)
  refine Dra.op' rfl rfl rfl .sure (Ope.cf rfl rfl hop hb2 ?_)
  refine Dra.op' rfl rfl rfl .sure (Ope.mov rfl ?_)
  refine Dra.op' rfl rfl rfl .sure (Ope.ext rfl rfl ?_)
  refine Dra.op' rfl rfl rfl .sure (Ope.ext rfl rfl ?_)
  refine Dra.op' rfl rfl rfl .sure (Ope.asg rfl ?_)
  refine Dra.op' rfl rfl rfl .sure (Ope.asg rfl ?_)
  refine Dra.nil (Run.seq (Run.seq (Run.region (cx_ok _ _ _) (Reg.op rfl (Ope.mov rfl ?_)))))
  refine Reg.op rfl (Ope.ne rfl rfl ?_)
  refine Reg.nil (Run.condX rfl (fun hc=>?_) fun hc=>?_)
  ·refine Run.seq (Run.region (cx_ok _ _ _) (Reg.op rfl (Ope.bld rfl rfl ?_)))
   refine Reg.op rfl (Ope.mov rfl ?_)
   refine Reg.op0 (Ope.store rfl rfl rfl rfl rfl rfl ?_)
   refine Reg.op rfl (Ope.asg rfl ?_)
   refine Reg.nil (Run.ret (Jmp.code (fin_ret (.cell rfl rfl (.tmp rfl .nil)) rfl ?_)))
   first
   | (have he : ¬ errT rest S (isSt S k) 0 = 0 := by simpa using hc
      show PV.tup [.agg [I 0,I 0],I (errT rest S (isSt S k) 0)]=.tup [spV (offE rest S k),I (errT rest S (isSt S k) 0)]
      unfold offE spI
      rw [if_neg he])
   | (show PV.tup [spV (tabP S rest)[2 * q + 1], I 0] = .tup [spV (offE rest S q), I (errT rest S (isSt S (q : Int)) 0)]
      unfold offE spI
      rw [he,if_pos rfl,tabP_at]
      rfl)
  ·refine Run.skip (Run.seq ?_)
   have he:errT rest S (isSt S k) 0=0:=by simpa using hc
   obtain ⟨g1,g2,g3,_⟩:=err_ok rest S he
   obtain ⟨q,rfl,hq⟩:=isSt_nat g2
   have hS5:=(relOk_of g1).2.1
   have hv:opnV rest S (isSt S (q:Int))=.sl (tlE S) ((tabP S rest).map spV):=if_pos he
   have hql:2 * q+1 < (tabP S rest).length:=by rw [sps_len];omega
   have hm1:(2:Int) * (q:Int)=((2 * q:Nat):Int):=by omega
   have hm2:((2 * q:Nat):Int)+1=((2 * q+1:Nat):Int):=by omega
   rw [hv]
   refine Run.region (cx_ok _ _ _) (Reg.op rfl (Ope.mov rfl ?_))
   refine Reg.op rfl (Ope.mov rfl ?_)
   refine Reg.op rfl (Ope.mul rfl rfl (by omega) ?_)
   rw [hm1]
   refine Reg.op rfl (Ope.add rfl rfl (by omega) ?_)
   rw [hm2]
   refine Reg.op rfl (Ope.idxM (m:=2 * q+1) (f:=spV) rfl rfl rfl hql (fun _=>rfl) ?_)
   refine Reg.op rfl (Ope.load rfl rfl ?_)
   refine Reg.op0 (Ope.store rfl rfl rfl rfl rfl rfl ?_)
   refine Reg.op rfl (Ope.asg rfl ?_)
   refine Reg.nil (Run.ret (fin_ret (.cell rfl rfl (.tmp rfl .nil)) rfl ?_))
   first
   | (have he : ¬ errT rest S (isSt S k) 0 = 0 := by simpa using hc
      show PV.tup [.agg [I 0,I 0],I (errT rest S (isSt S k) 0)]=.tup [spV (offE rest S k),I (errT rest S (isSt S k) 0)]
      unfold offE spI
      rw [if_neg he])
   | (show PV.tup [spV (tabP S rest)[2 * q + 1], I 0] = .tup [spV (offE rest S q), I (errT rest S (isSt S (q : Int)) 0)]
      unfold offE spI
      rw [he,if_pos rfl,tabP_at]
      rfl)
end
end Go.Pv
namespace Go.Pv
open Go.Proofs Go.Am
set_option maxRecDepth 10000
set_option maxHeartbeats 4000000
section
variable {rest:Int} {tl:Tail} (htl:tl.isOwn=false) {S:List Sti}
theorem bd_with (hb:PV.bds 0 [relV rest tl S]=true) (a b L:Int):PV.bds 0 [relV rest tl S,I a,I b,I L]=true:=by
  simp only [PV.bds,PV.bd,Bool.and_true] at hb ⊢
  exact hb
theorem HE_dup {n i:Nat} {a b:Option PBlk} {l:HL}:HE n ((i,a)::(i,b)::l)=HE n ((i,a)::l):=by
  simp only [HE,PH.mk.injEq,and_true]
  funext j
  by_cases h:j=i
  · subst h;rw [hget_hd,hget_hd]
  · rw [hget_tl h,hget_tl h,hget_tl h]
theorem stint_one (hr:relOk rest S=true) (ho:okT (tabA S rest)=true) {q:Nat} (hq:q < S.length):tabA S rest (2 * q+1) (2 * q)≤-1:=by
  obtain ⟨h1,h2,h3⟩:=relOk_of hr
  have h4:=late_sat hr ho (a:=2 * q+1) (by omega)
  have z1:tabA S rest (2 * q+1) (2 * q+1)=0:=tabS_self ho (by omega)
  have h6:tabA S rest (2 * q+1) (2 * q) - tabA S rest (2 * q+1) 10+1≤tabA S rest (2 * q+1) (2 * q+1) - tabA S rest (2 * q+1) 10:=h4.ru (2 * q,2 * q+1,1) ((rulsR_mem _).2 ⟨q,hq,by simp [rulF]⟩)
  omega
include htl in
theorem f19 (hS : S.length ≤ 1000000) (k : Int) : Fn P0 19 [relV rest tl S, I k] (.tup [spV (lenE rest S k), I (errT rest S (isSt S k) 0)]) := by
  have hst:=f50 rest tl S hS k
  have hop:=openF (rest:=rest) htl hS (isSt S k)
  have hb0:=bd_rels rest tl htl S
  have hb1:=bd_is rest tl htl S k
  have hb2:=bd_relc (rest:=rest) htl (S:=S) (isSt S k)
  refine PFun.of (C:=c19) (cx_ok _ _ _) rfl (fn:=Try.f19) (by kernel_rfl) (c:=_) rfl rfl rfl ?_
  refine Run.seq (Run.region (cx_ok _ _ _) (Reg.op rfl (Ope.boxF rfl rfl ?_)))
  refine Reg.op rfl (Ope.newL rfl ?_)
  refine Reg.op rfl (Ope.asg rfl ?_)
  refine Reg.nil (Run.seq (Run.draw (cx_ok _ _ _) [(0,false),(1,true),(2,true),(3,true),(4,true),(5,true),(6,true),(7,true),(8,true),(9,true)] (by kernel_rfl) (Dra.op' rfl rfl rfl (.load rfl) (Ope.load rfl rfl ?_))))
  refine Dra.op' rfl rfl rfl .sure (Ope.load rfl rfl ?_)
  refine Dra.op' rfl rfl rfl .sure (Ope.mov rfl ?_)
  refine Dra.op' rfl rfl rfl .sure (Ope.cf rfl rfl hst hb1 ?_)
  refine Dra.op' rfl rfl rfl .sure (Ope.cf rfl rfl hop hb2 ?_)
  refine Dra.op' rfl rfl rfl .sure (Ope.mov rfl ?_)
  refine Dra.op' rfl rfl rfl .sure (Ope.ext rfl rfl ?_)
  refine Dra.op' rfl rfl rfl .sure (Ope.ext rfl rfl ?_)
  refine Dra.op' rfl rfl rfl .sure (Ope.asg rfl ?_)
  refine Dra.op' rfl rfl rfl .sure (Ope.asg rfl ?_)
  refine Dra.nil (Run.seq (Run.seq (Run.region (cx_ok _ _ _) (Reg.op rfl (Ope.mov rfl ?_)))))
  refine Reg.op rfl (Ope.ne rfl rfl ?_)
  refine Reg.nil (Run.condX rfl (fun hc=>?_) fun hc=>?_)
  ·refine Run.seq (Run.region (cx_ok _ _ _) (Reg.op rfl (Ope.bld rfl rfl ?_)))
   refine Reg.op rfl (Ope.mov rfl ?_)
   refine Reg.op0 (Ope.store rfl rfl rfl rfl rfl rfl ?_)
   refine Reg.op rfl (Ope.asg rfl ?_)
   refine Reg.nil (Run.ret (Jmp.code (fin_ret (.cell rfl rfl (.tmp rfl .nil)) rfl ?_)))
   first
   | (have he : ¬ errT rest S (isSt S k) 0 = 0 := by simpa using hc
      show PV.tup [.agg [I 0,I 0],I (errT rest S (isSt S k) 0)]=.tup [spV (lenE rest S k),I (errT rest S (isSt S k) 0)]
      unfold lenE spI
      rw [if_neg he])
   | (have hge2 : 600 - (z : Int) ≤ T (2 * q) (2 * q + 1) := by simpa using hc
      show PV.tup [.agg [I l,I (600 - (z:Int))],I 0]=.tup [spV (lenE rest S q),I (errT rest S (isSt S (q:Int)) 0)]
      rw [he,hln,hleq,show 600 - (z:Int)=T (2 * q) (2 * q+1) from by omega])
  ·refine Run.skip (Run.seq ?_)
   have he:errT rest S (isSt S k) 0=0:=by simpa using hc
   obtain ⟨g1,g2,g3,_⟩:=err_ok rest S he
   obtain ⟨q,rfl,hq⟩:=isSt_nat g2
   have hS5:=(relOk_of g1).2.1
   have hm1:(2:Int) * (q:Int)=((2 * q:Nat):Int):=by omega
   have hm2:((2 * q:Nat):Int)+1=((2 * q+1:Nat):Int):=by omega
   have hone:=stint_one g1 g3 hq
   have hlo:-600≤tabA S rest (2 * q+1) (2 * q):=tabS_low g3 (by omega) (by omega)
   have hlo2:-600≤tabA S rest (2 * q) (2 * q+1):=tabS_low g3 (by omega) (by omega)
   have hwd:tabA S rest (2 * q) (2 * q+1)≤600:=tabS_wide (by omega) (by omega)
   have hwi:=fun a b ha hb L hL=>f55 htl g1 g3 a b ha hb L hL
   have hbt:(tabA S rest).btw (2 * q) (2 * q+1)=(-tabA S rest (2 * q+1) (2 * q),tabA S rest (2 * q) (2 * q+1)):=rfl
   have hln:lenE rest S (q:Int)=(-tabA S rest (2 * q+1) (2 * q),tabA S rest (2 * q) (2 * q+1)):=by
     unfold lenE spI
     rw [if_pos he]
     exact hbt
   refine Run.region (cx_ok _ _ _) (Reg.op rfl (Ope.mov rfl ?_))
   refine Reg.op rfl (Ope.mul rfl rfl (by omega) ?_)
   rw [hm1]
   refine Reg.op rfl (Ope.mov rfl ?_)
   refine Reg.op rfl (Ope.mul rfl rfl (by omega) ?_)
   rw [hm1]
   refine Reg.op rfl (Ope.add rfl rfl (by omega) ?_)
   rw [hm2]
   refine Reg.op rfl (Ope.asg rfl ?_)
   refine Reg.op rfl (Ope.asg rfl ?_)
   refine Reg.nil (Run.seq (Run.region (cx_ok _ _ _) (Reg.op rfl (Ope.bld rfl rfl ?_))))
   refine Reg.op rfl (Ope.newL rfl ?_)
   refine Reg.op0 (Ope.store rfl rfl rfl rfl rfl rfl ?_)
   refine Reg.nil (Run.seq (Run.block ?_))
   generalize tabA S rest=T at *
   refine Run.wide (m:=2) (l':=[(1,some (.cells [I 0,I 600])),(0,some (.cells [I 0,I 0]))]) (Nat.le_refl _) ⟨rfl,rfl,trivial⟩ ?_
   refine Run.loop (α:=Nat) (fun l=>[(2,.fp (relV rest tl S)),(4,.ptr 0 0),(8,N (2 * q)),(9,N (2 * q+1)),(10,.ptr 1 0)]) (fun l=>HE 2 [(1,some (.cells [I l,I 600])),(0,some (.cells [I 0,I 0]))]) (fun l=>(l:Int)≤-T (2 * q+1) (2 * q)) (fun l=>(-T (2 * q+1) (2 * q)).toNat - l) 0 ⟨rfl,rfl,rfl,rfl,rfl,trivial⟩ rfl (by show ((0:Nat):Int)≤_;omega) (fun l hl=>?_)
   refine Run.seq (Run.seq (Run.region (cx_ok _ _ _) (Reg.op rfl (Ope.load rfl rfl ?_))))
   refine Reg.op rfl (Ope.mov rfl ?_)
   refine Reg.op rfl (Ope.mov rfl ?_)
   refine Reg.op rfl (Ope.fld rfl rfl ?_)
   refine Reg.op rfl (Ope.load rfl rfl ?_)
   refine Reg.op rfl (Ope.neg rfl (by omega) ?_)
   refine Reg.op rfl (Ope.cf rfl rfl (hwi (2 * q+1) (2 * q) (by omega) (by omega) (-(l:Int)) (by omega)) (bd_with hb0 _ _ _) ?_)
   refine Reg.op rfl (Ope.not rfl ?_)
   refine Reg.nil (Run.condX rfl (fun hc=>?_) fun hc=>?_)
   ·refine Run.skip (Run.block (Run.region (cx_ok _ _ _) (Reg.op rfl (Ope.fld rfl rfl ?_))))
    refine Reg.op rfl (Ope.load rfl rfl ?_)
    refine Reg.op rfl (Ope.add rfl rfl (by omega) ?_)
    refine Reg.op rfl (Ope.fld rfl rfl ?_)
    refine Reg.op0 (Ope.store rfl rfl rfl rfl rfl rfl ?_)
    refine Reg.nil (Run.bend ?_)
    have hlt:¬ -(l:Int)≤T (2 * q+1) (2 * q):=by simpa using hc
    exact Run.lend ⟨l+1,by omega,by show ((l+1:Nat):Int)≤_;omega,⟨rfl,rfl,rfl,rfl,rfl,trivial⟩,HE_dup,rfl⟩
   ·refine Run.exit (Jmp.code (Jmp.round (Jmp.here (Run.seq (Run.block ?_)))))
    have hge:-(l:Int)≤T (2 * q+1) (2 * q):=by simpa using hc
    have hleq:(l:Int)=-T (2 * q+1) (2 * q):=by omega
    refine Run.loop (α:=Nat) (fun z=>[(2,.fp (relV rest tl S)),(4,.ptr 0 0),(8,N (2 * q)),(9,N (2 * q+1)),(10,.ptr 1 0)]) (fun z=>HE 2 [(1,some (.cells [I l,I (600 - (z:Int))])),(0,some (.cells [I 0,I 0]))]) (fun z=>T (2 * q) (2 * q+1)≤600 - (z:Int)) (fun z=>(600 - T (2 * q) (2 * q+1)).toNat - z) 0 ⟨rfl,rfl,rfl,rfl,rfl,trivial⟩ rfl (by show T (2 * q) (2 * q+1)≤600 - ((0:Nat):Int);omega) (fun z hz=>?_)
    refine Run.seq (Run.seq (Run.region (cx_ok _ _ _) (Reg.op rfl (Ope.load rfl rfl ?_))))
    refine Reg.op rfl (Ope.mov rfl ?_)
    refine Reg.op rfl (Ope.mov rfl ?_)
    refine Reg.op rfl (Ope.fld rfl rfl ?_)
    refine Reg.op rfl (Ope.load rfl rfl ?_)
    refine Reg.op rfl (Ope.cf rfl rfl (hwi (2 * q) (2 * q+1) (by omega) (by omega) (600 - (z:Int)) (by omega)) (bd_with hb0 _ _ _) ?_)
    refine Reg.op rfl (Ope.not rfl ?_)
    refine Reg.nil (Run.condX rfl (fun hc=>?_) fun hc=>?_)
    ·refine Run.skip (Run.block ?_)
     have hlt2:¬ 600 - (z:Int)≤T (2 * q) (2 * q+1):=by simpa using hc
     have hz1:600 - (z:Int) - 1=600 - ((z+1:Nat):Int):=by omega
     refine Run.region (cx_ok _ _ _) (Reg.op rfl (Ope.fld rfl rfl ?_))
     refine Reg.op rfl (Ope.load rfl rfl ?_)
     refine Reg.op rfl (Ope.sub rfl rfl (by omega) ?_)
     rw [hz1]
     refine Reg.op rfl (Ope.fld rfl rfl ?_)
     refine Reg.op0 (Ope.store rfl rfl rfl rfl rfl rfl ?_)
     exact Reg.nil (Run.bend (Run.lend ⟨z+1,by omega,by show T (2 * q) (2 * q+1)≤600 - ((z+1:Nat):Int);omega,⟨rfl,rfl,rfl,rfl,rfl,trivial⟩,HE_dup,rfl⟩))
    ·refine Run.exit (Jmp.code (Jmp.round (Jmp.here (Run.seq (Run.region (cx_ok _ _ _) (Reg.op rfl (Ope.load rfl rfl ?_)))))))
     refine Reg.op0 (Ope.store rfl rfl rfl rfl rfl rfl ?_)
     refine Reg.op rfl (Ope.asg rfl ?_)
     refine Reg.nil (Run.ret (fin_ret (.cell rfl rfl (.tmp rfl .nil)) rfl ?_))
     first
     | (have he : ¬ errT rest S (isSt S k) 0 = 0 := by simpa using hc
        show PV.tup [.agg [I 0,I 0],I (errT rest S (isSt S k) 0)]=.tup [spV (lenE rest S k),I (errT rest S (isSt S k) 0)]
        unfold lenE spI
        rw [if_neg he])
     | (have hge2 : 600 - (z : Int) ≤ T (2 * q) (2 * q + 1) := by simpa using hc
        show PV.tup [.agg [I l,I (600 - (z:Int))],I 0]=.tup [spV (lenE rest S q),I (errT rest S (isSt S (q:Int)) 0)]
        rw [he,hln,hleq,show 600 - (z:Int)=T (2 * q) (2 * q+1) from by omega])
include htl in
theorem f21 (hS : S.length ≤ 1000000) (k : Int) : Fn P0 21 [relV rest tl S, I k] (.tup [I (hanE rest S k), I (errT rest S (hanC S k) 0)]) := by
  have hst:=f50 rest tl S hS k
  have hst1:=f50 rest tl S hS (k+1)
  have hb0:=bd_rels rest tl htl S
  have hb1:=bd_is rest tl htl S
  cases hk:isSt S k with
  | false =>
    rw [hk] at hst
    have hcc:hanC S k=false:=by unfold hanC;rw [hk,Bool.false_and]
    have hop:=openF (rest:=rest) htl hS false
    have hb2:=bd_relc (rest:=rest) htl (S:=S) false
    have hne:¬ errT rest S false 0=0:=fun h=>by have:=(err_ok rest S h).2.1;cases this
    have hh:hanE rest S k=0:=by unfold hanE;rw [hcc,if_neg hne]
    rw [hh,hcc]
    refine PFun.of (C:=c21) (cx_ok _ _ _) rfl (fn:=Try.f21) (by kernel_rfl) (c:=_) rfl rfl rfl ?_
    refine Run.seq (Run.region (cx_ok _ _ _) (Reg.op rfl (Ope.boxF rfl rfl ?_)))
    refine Reg.op rfl (Ope.asg rfl ?_)
    refine Reg.op rfl (Ope.asg rfl ?_)
    refine Reg.nil (Run.seq (Run.draw (cx_ok _ _ _) [(0,false),(1,true),(2,true),(3,true),(4,true),(5,true),(6,true),(7,true),(8,true),(9,true),(10,true),(11,true),(12,true),(13,true),(14,true),(15,true)] (by kernel_rfl) (Dra.op' rfl rfl rfl (.load rfl) (Ope.load rfl rfl ?_))))
    refine Dra.op' rfl rfl rfl .sure (Ope.load rfl rfl ?_)
    refine Dra.op' rfl rfl rfl .sure (Ope.mov rfl ?_)
    refine Dra.op' rfl rfl rfl .sure (Ope.cf rfl rfl hst (hb1 k) ?_)
    refine Dra.op' rfl rfl rfl .sure (Ope.mov rfl ?_)
    refine Dra.off' rfl rfl rfl (.inl rfl) rfl (Dra.off' rfl rfl rfl (.inl rfl) rfl (Dra.off' rfl rfl rfl (.inl rfl) rfl (Dra.off' rfl rfl rfl (.inl rfl) rfl (Dra.op' rfl rfl rfl .sure (Ope.pickF rfl rfl ?_)))))
    refine Dra.op' rfl rfl rfl .sure (Ope.cf rfl rfl hop hb2 ?_)
    refine Dra.op' rfl rfl rfl .sure (Ope.mov rfl ?_)
    refine Dra.op' rfl rfl rfl .sure (Ope.ext rfl rfl ?_)
    refine Dra.op' rfl rfl rfl .sure (Ope.ext rfl rfl ?_)
    refine Dra.op' rfl rfl rfl .sure (Ope.asg rfl ?_)
    refine Dra.op' rfl rfl rfl .sure (Ope.asg rfl ?_)
    refine Dra.nil (Run.seq (Run.seq (Run.region (cx_ok _ _ _) (Reg.op rfl (Ope.mov rfl ?_)))))
    refine Reg.op rfl (Ope.ne rfl rfl ?_)
    refine Reg.nil (Run.condX rfl (fun hc=>?_) fun hc=>?_)
    ·refine Run.seq (Run.region (cx_ok _ _ _) (Reg.op rfl (Ope.mov rfl ?_)))
     refine Reg.op rfl (Ope.asg rfl ?_)
     refine Reg.op rfl (Ope.asg rfl ?_)
     exact Reg.nil (Run.ret (Jmp.code (fin_ret (.tmp rfl (.tmp rfl .nil)) rfl rfl)))
    ·exact absurd (by simpa using hc) hne
  | true =>
    rw [hk] at hst
    have hcc:hanC S k=isSt S (k+1):=by unfold hanC;rw [hk,Bool.true_and]
    have hop:=openF (rest:=rest) htl hS (isSt S (k+1))
    have hb2:=bd_relc (rest:=rest) htl (S:=S) (isSt S (k+1))
    obtain ⟨q,rfl,hq⟩:=isSt_nat hk
    rw [hcc]
    refine PFun.of (C:=c21) (cx_ok _ _ _) rfl (fn:=Try.f21) (by kernel_rfl) (c:=_) rfl rfl rfl ?_
    refine Run.seq (Run.region (cx_ok _ _ _) (Reg.op rfl (Ope.boxF rfl rfl ?_)))
    refine Reg.op rfl (Ope.asg rfl ?_)
    refine Reg.op rfl (Ope.asg rfl ?_)
    refine Reg.nil (Run.seq (Run.draw (cx_ok _ _ _) [(0,false),(1,true),(2,true),(3,true),(4,true),(5,true),(6,true),(7,true),(8,true),(9,true),(10,true),(11,true),(12,true),(13,true),(14,true),(15,true)] (by kernel_rfl) (Dra.op' rfl rfl rfl (.load rfl) (Ope.load rfl rfl ?_))))
    refine Dra.op' rfl rfl rfl .sure (Ope.load rfl rfl ?_)
    refine Dra.op' rfl rfl rfl .sure (Ope.mov rfl ?_)
    refine Dra.op' rfl rfl rfl .sure (Ope.cf rfl rfl hst (hb1 q) ?_)
    refine Dra.op' rfl rfl rfl .sure (Ope.mov rfl ?_)
    refine Dra.on' rfl rfl rfl rfl rfl .sure (Ope.load rfl rfl ?_)
    refine Dra.on' rfl rfl rfl rfl rfl .sure (Ope.mov rfl ?_)
    refine Dra.on' rfl rfl rfl rfl rfl .sure (Ope.add rfl rfl (by omega) ?_)
    refine Dra.on' rfl rfl rfl rfl rfl .sure (Ope.cf rfl rfl hst1 (hb1 ((q:Int)+1)) ?_)
    refine Dra.op' rfl rfl rfl .sure (Ope.pickT rfl rfl ?_)
    refine Dra.op' rfl rfl rfl .sure (Ope.cf rfl rfl hop hb2 ?_)
    refine Dra.op' rfl rfl rfl .sure (Ope.mov rfl ?_)
    refine Dra.op' rfl rfl rfl .sure (Ope.ext rfl rfl ?_)
    refine Dra.op' rfl rfl rfl .sure (Ope.ext rfl rfl ?_)
    refine Dra.op' rfl rfl rfl .sure (Ope.asg rfl ?_)
    refine Dra.op' rfl rfl rfl .sure (Ope.asg rfl ?_)
    refine Dra.nil (Run.seq (Run.seq (Run.region (cx_ok _ _ _) (Reg.op rfl (Ope.mov rfl ?_)))))
    refine Reg.op rfl (Ope.ne rfl rfl ?_)
    refine Reg.nil (Run.condX rfl (fun hc=>?_) fun hc=>?_)
    ·refine Run.seq (Run.region (cx_ok _ _ _) (Reg.op rfl (Ope.mov rfl ?_)))
     refine Reg.op rfl (Ope.asg rfl ?_)
     refine Reg.op rfl (Ope.asg rfl ?_)
     refine Reg.nil (Run.ret (Jmp.code (fin_ret (.tmp rfl (.tmp rfl .nil)) rfl ?_)))
     first
     | (have he : ¬ errT rest S (isSt S ((q : Int) + 1)) 0 = 0 := by simpa using hc
        have hh:hanE rest S (q:Int)=0:=by unfold hanE;rw [hcc,if_neg he]
        rw [hh]
        rfl)
     | (have h9 : ¬ 1 ≤ T (2 * q + 1) (2 * (q + 1)) := hc
        rw [if_pos (by omega)];rfl)
     | (have h8 : 1 ≤ T (2 * q + 1) (2 * (q + 1)) := by assumption
        have h9:¬ 0≤T (2 * (q+1)) (2 * q+1):=hc
        rw [if_neg (by omega),if_pos (by omega)];rfl)
     | (have h8 : 1 ≤ T (2 * q + 1) (2 * (q + 1)) := by assumption
        have h9:0≤T (2 * (q+1)) (2 * q+1):=hc
        rw [if_neg (by omega),if_neg (by omega)];rfl)
    ·refine Run.skip (Run.seq ?_)
     have he:errT rest S (isSt S ((q:Int)+1)) 0=0:=by simpa using hc
     obtain ⟨g1,g2,g3,_⟩:=err_ok rest S he
     obtain ⟨q1,hq1,hqq⟩:=isSt_nat g2
     have hS5:=(relOk_of g1).2.1
     have hm1:(2:Int) * (q:Int)=((2 * q:Nat):Int):=by omega
     have hm2:((2 * q:Nat):Int)+1=((2 * q+1:Nat):Int):=by omega
     have hm3:((2 * q:Nat):Int)+2=((2 * (q+1):Nat):Int):=by omega
     have hwi:=fun a b ha hb L hL=>f55 htl g1 g3 a b ha hb L hL
     have hhn:hanE rest S (q:Int)=if 0≤-tabA S rest (2 * q+1) (2 * (q+1)) then 2 else if tabA S rest (2 * (q+1)) (2 * q+1) < 0 then 0 else 1:=by
       unfold hanE
       rw [hcc,if_pos he]
       rfl
     rw [hhn,he]
     generalize tabA S rest=T at *
     refine Run.region (cx_ok _ _ _) (Reg.op rfl (Ope.mov rfl ?_))
     refine Reg.op rfl (Ope.mul rfl rfl (by omega) ?_)
     rw [hm1]
     refine Reg.op rfl (Ope.add rfl rfl (by omega) ?_)
     rw [hm2]
     refine Reg.op rfl (Ope.mov rfl ?_)
     refine Reg.op rfl (Ope.mul rfl rfl (by omega) ?_)
     rw [hm1]
     refine Reg.op rfl (Ope.add rfl rfl (by omega) ?_)
     rw [hm3]
     refine Reg.op rfl (Ope.asg rfl ?_)
     refine Reg.op rfl (Ope.asg rfl ?_)
     refine Reg.nil (Run.seq (Run.draw (cx_ok _ _ _) [(0,true),(1,true),(2,true),(4,false),(5,true),(6,true),(3,true),(7,true),(8,true),(9,true)] (by kernel_rfl) (Dra.op' rfl rfl rfl .sure (Ope.load rfl rfl ?_))))
     refine Dra.op' rfl rfl rfl .sure (Ope.mov rfl ?_)
     refine Dra.op' rfl rfl rfl .sure (Ope.mov rfl ?_)
     refine Dra.op' rfl rfl rfl (.load rfl) (Ope.load rfl rfl ?_)
     refine Dra.op' rfl rfl rfl .sure (Ope.mov rfl ?_)
     refine Dra.op' rfl rfl rfl .sure (Ope.mov rfl ?_)
     refine Dra.op' rfl rfl rfl .sure (Ope.cf rfl rfl (hwi (2 * (q+1)) (2 * q+1) (by omega) (by omega) 0 (by omega)) (bd_with hb0 _ _ _) ?_)
     refine Dra.op' rfl rfl rfl .sure (Ope.cf rfl rfl (hwi (2 * q+1) (2 * (q+1)) (by omega) (by omega) 1 (by omega)) (bd_with hb0 _ _ _) ?_)
     refine Dra.op' rfl rfl rfl .sure (Ope.asg rfl ?_)
     refine Dra.op' rfl rfl rfl .sure (Ope.asg rfl ?_)
     refine Dra.nil (Run.seq (Run.seq (Run.region (cx_ok _ _ _) (Reg.op rfl (Ope.mov rfl ?_)))))
     refine Reg.op rfl (Ope.not rfl ?_)
     refine Reg.nil (Run.condX rfl (fun hc=>?_) fun hc=>?_)
     ·refine Run.seq (Run.region (cx_ok _ _ _) (Reg.op rfl (Ope.asg rfl ?_)))
      refine Reg.op rfl (Ope.asg rfl ?_)
      refine Reg.nil (Run.ret (Jmp.code (fin_ret (.tmp rfl (.tmp rfl .nil)) rfl ?_)))
      first
      | (have he : ¬ errT rest S (isSt S ((q : Int) + 1)) 0 = 0 := by simpa using hc
         have hh:hanE rest S (q:Int)=0:=by unfold hanE;rw [hcc,if_neg he]
         rw [hh]
         rfl)
      | (have h9 : ¬ 1 ≤ T (2 * q + 1) (2 * (q + 1)) := hc
         rw [if_pos (by omega)];rfl)
      | (have h8 : 1 ≤ T (2 * q + 1) (2 * (q + 1)) := by assumption
         have h9:¬ 0≤T (2 * (q+1)) (2 * q+1):=hc
         rw [if_neg (by omega),if_pos (by omega)];rfl)
      | (have h8 : 1 ≤ T (2 * q + 1) (2 * (q + 1)) := by assumption
         have h9:0≤T (2 * (q+1)) (2 * q+1):=hc
         rw [if_neg (by omega),if_neg (by omega)];rfl)
     ·refine Run.skip (Run.seq (Run.seq (Run.region (cx_ok _ _ _) (Reg.op rfl (Ope.mov rfl ?_)))))
      refine Reg.op rfl (Ope.not rfl ?_)
      refine Reg.nil (Run.condX rfl (fun hc=>?_) fun hc=>?_)
      ·refine Run.seq (Run.region (cx_ok _ _ _) (Reg.op rfl (Ope.asg rfl ?_)))
       refine Reg.op rfl (Ope.asg rfl ?_)
       refine Reg.nil (Run.ret (Jmp.code (fin_ret (.tmp rfl (.tmp rfl .nil)) rfl ?_)))
       first
       | (have he : ¬ errT rest S (isSt S ((q : Int) + 1)) 0 = 0 := by simpa using hc
          have hh:hanE rest S (q:Int)=0:=by unfold hanE;rw [hcc,if_neg he]
          rw [hh]
          rfl)
       | (have h9 : ¬ 1 ≤ T (2 * q + 1) (2 * (q + 1)) := hc
          rw [if_pos (by omega)];rfl)
       | (have h8 : 1 ≤ T (2 * q + 1) (2 * (q + 1)) := by assumption
          have h9:¬ 0≤T (2 * (q+1)) (2 * q+1):=hc
          rw [if_neg (by omega),if_pos (by omega)];rfl)
       | (have h8 : 1 ≤ T (2 * q + 1) (2 * (q + 1)) := by assumption
          have h9:0≤T (2 * (q+1)) (2 * q+1):=hc
          rw [if_neg (by omega),if_neg (by omega)];rfl)
      ·refine Run.skip (Run.seq (Run.region (cx_ok _ _ _) (Reg.op rfl (Ope.asg rfl ?_))))
       refine Reg.op rfl (Ope.asg rfl ?_)
       refine Reg.nil (Run.ret (fin_ret (.tmp rfl (.tmp rfl .nil)) rfl ?_))
       first
       | (have he : ¬ errT rest S (isSt S ((q : Int) + 1)) 0 = 0 := by simpa using hc
          have hh:hanE rest S (q:Int)=0:=by unfold hanE;rw [hcc,if_neg he]
          rw [hh]
          rfl)
       | (have h9 : ¬ 1 ≤ T (2 * q + 1) (2 * (q + 1)) := hc
          rw [if_pos (by omega)];rfl)
       | (have h8 : 1 ≤ T (2 * q + 1) (2 * (q + 1)) := by assumption
          have h9:¬ 0≤T (2 * (q+1)) (2 * q+1):=hc
          rw [if_neg (by omega),if_pos (by omega)];rfl)
       | (have h8 : 1 ≤ T (2 * q + 1) (2 * (q + 1)) := by assumption
          have h9:0≤T (2 * (q+1)) (2 * q+1):=hc
          rw [if_neg (by omega),if_neg (by omega)];rfl)
end
end Go.Pv
namespace Go.Pv
open Go.Proofs Go.Am
set_option maxRecDepth 10000
theorem f12l (rest:Int) (tl:Tail) (S:List Sti) (hl:40 < S.length) (n:Nat):Fn P0 12 [relV rest tl S,I n] (B true):=by
  refine PFun.of (C:=c12) (cx_ok _ _ _) rfl (fn:=Try.f12) (by kernel_rfl) (c:=_) rfl rfl rfl ?_
  refine Run.seq (Run.region (cx_ok _ _ _) (Reg.op rfl (Ope.boxF rfl rfl ?_)))
  refine Reg.op rfl (Ope.asg rfl ?_)
  refine Reg.nil (Run.seq (Run.region (cx_ok _ _ _) (Reg.op rfl (Ope.fld rfl rfl ?_))))
  refine Reg.op rfl (Ope.load rfl rfl ?_)
  refine Reg.op rfl (Ope.len (m:=S.length) rfl (by simp) ?_)
  refine Reg.op rfl (Ope.gt rfl rfl ?_)
  refine Reg.op rfl (Ope.mov rfl ?_)
  refine Reg.splitX rfl rfl (fun hg=>?_) fun hg=>?_
  ·refine Reg.off rfl rfl rfl (Reg.off rfl rfl rfl (Reg.off rfl rfl rfl (Reg.off rfl rfl rfl (Reg.off rfl rfl rfl (Reg.off rfl rfl rfl (Reg.past rfl rfl rfl (Reg.past rfl rfl rfl (Reg.off rfl rfl rfl (Reg.op rfl (Ope.pickT rfl rfl ?_))))))))))
   refine Reg.op rfl (Ope.asg rfl ?_)
   exact Reg.nil (Run.ret (fin_ret (.tmp rfl .nil) rfl rfl))
  ·(first | (exfalso;omega))
end Go.Pv
namespace Go.Pv
open Go.Proofs Go.Am
set_option maxRecDepth 10000
def atF (o:Nat):Nat:=if o=1 then 16 else 14
structure EndH (rest:Int) (tl:Tail) (S:List Sti) (en:Nat) (sl sh cl ch e g:Int):Prop where
  at':Fn P0 (atF (en / 2 % 2)) [relV rest tl S,I ((en / 4:Nat):Int)] (.tup [.agg [I sl,I sh],I e])
  ln:Fn P0 18 [relV rest tl S,I ((en / 4:Nat):Int)] (.tup [.agg [I cl,I ch],I e])
  clF:∃ c,Fn P0 26 [relV rest tl S] (.tup [I c,I g])
  isF:(e=10∧g=0∧sl=0∧sh=0∧cl=0∧ch=0)∨(e=0∧g=4∧0≤sl∧sl≤sh∧sh≤600∧1≤cl∧cl≤ch∧ch≤600)
  ex:e=0→∀ n,0≤n→n≤600→∃ t u h,Fn P0 (atF (en / 2 % 2)) [relV rest .no (entS S en n n),I ((en / 4:Nat):Int)] (.tup [.agg [I t,I u],I h]) ∧
    ((h=0∧t=n∧u=n)∨(h=10∧¬ (sl≤n∧n≤sh)))∧(h=0→(wrt S en).1≤n→n≤(wrt S en).2→sl≤n∧n≤sh)
  onf : e = 0 → ∃ al ah bl bh, Fn P0 14 [relV rest tl S, I ((en / 4 : Nat) : Int)] (.tup [.agg [I al, I ah], I 0]) ∧ Fn P0 16 [relV rest tl S, I ((en / 4 : Nat) : Int)] (.tup [.agg [I bl, I bh], I 0]) ∧
    (bl - ah≤cl∧ch≤bh - al∧(0≤al∧al≤ah∧ah≤600)∧0≤bl∧bl≤bh∧bh≤600)∧∀ n,n=al∨n=ah→∃ ul uh,Fn P0 16 [relV rest .no (entS S (4 * (en / 4)) n n),I ((en / 4:Nat):Int)] (.tup [.agg [I ul,I uh],I 0]) ∧
      Fn P0 18 [relV rest .no (entS S (4 * (en / 4)) n n),I ((en / 4:Nat):Int)] (.tup [.agg [I (ul - n),I (uh - n)],I 0])∧cl≤ul - n∧uh - n≤ch∧(0≤ul∧ul≤600)∧0≤uh∧uh≤600
section
variable {rest:Int} {tl:Tail} (htl:tl.isOwn=false) {S:List Sti} (hS:S.length≤1000000) (hr:relOk rest S=true)
include hr in
end
end Go.Pv
namespace Go.Pv
open Go.Proofs Go.Am
set_option maxRecDepth 10000
section
variable {rest:Int} {tl:Tail} (htl:tl.isOwn=false) {S:List Sti} (hS:S.length≤1000000)
end
end Go.Pv
namespace Go.Pv
open Go.Proofs Go.Am
set_option maxRecDepth 10000
structure Hide (p:Prop):Prop where
  get:p
end Go.Pv
