/- Parts of the proof: E60 -/
import Derived.Test.YtfpihegkllffbaaGreatP25
set_option linter.unusedVariables false
set_option linter.unusedSimpArgs false
set_option linter.unusedSectionVars false
namespace Go.Pv
open Go.Proofs Go.Am
set_option maxRecDepth 10000
set_option maxHeartbeats 4000000
theorem eqSpT (xo yo:Operand) (x y:Int):pbin A0 E0 .eql 30 xo yo (.agg [I x,I y]) (.agg [I x,I y])=some (B true):=by
  rw [eqSp]
  simp
section
variable {C:Cx} {X:EX} {e:EL} {ds:List Nat} {K:PV→PH→Prop} {h:PH}
variable {d:Option Tmp} {type:TypeId} {pos:String} {after:Array Edge} {guard:Option (Nat×Bool)}
theorem Ope.eqR {t t':TypeId} {x y:Operand} {kk:IntKind} {a:Int} (hx:pev (lget e) x=some (.lit (.int kk a))) (hy:pev (lget e) y=some (.lit (.int kk a))) (hK:K (B true) h) :
    Ope C X { dst:=d,op:=.binOp .eql t x y t',type,pos,after,guard } e ds h K :=
  Ope.eq hx hy (by rw [decide_eq_true rfl];exact hK)
end
theorem tolS_is (f:Fns) (b:Bool) (e:Spn):∃ x y z:Int,tolS f b e=.tup [.agg [I x,I y],I z]:=by
  unfold tolS
  split
  · split
    · exact ⟨_,_,_,rfl⟩
    · exact ⟨_,_,_,rfl⟩
  · exact ⟨_,_,_,rfl⟩
theorem tolL_is (f:Fns) (b:Bool) (xs:List Int):∃ (ys:List Int) (z:Int),(ys=xs∨ys=[])∧∀ t:Tail,t.isOwn=false→∃ u:Tail,u.isOwn=false∧tolL f b t xs=.tup [.sl u (ys.map I),I z]:=by
  unfold tolL
  cases f.B with
  | false=>exact ⟨[],1,.inr rfl,fun t ht=>⟨.ex,rfl,rfl⟩⟩
  | true =>
    cases b with
    | false=>exact ⟨[],2,.inr rfl,fun t ht=>⟨.ex,rfl,rfl⟩⟩
    | true=>exact ⟨xs,0,.inl rfl,fun t ht=>⟨t,ht,rfl⟩⟩
section
variable (f:Fns) {t1 t2:Tail} (h1:t1.isOwn=false) (h2:t2.isOwn=false)
include h1 h2
def lng2 (f:Fns) (ri ho:List Int):Bool:=decide (40 < max (max (max (f.ru.length:Int) (f.li.length:Int)) (ri.length:Int)) (ho.length:Int))
theorem f30t (ta tb:Tail) (ri ho:List Int):Fn P0 30 [f.v t1 t2,.sl .ex [.sl ta (ri.map I),.sl tb (ho.map I)]] (B (lng2 f ri ho)):=by
  unfold lng2
  obtain ⟨ru,n,li⟩:=f
  simp only
  obtain ⟨M,hM⟩:∃ M:Nat→Int,M=fun i=>if i=0 then max (ru.length:Int) (li.length:Int) else if i=1 then max (max (ru.length:Int) (li.length:Int)) (ri.length:Int) else max (max (max (ru.length:Int) (li.length:Int)) (ri.length:Int)) (ho.length:Int):=⟨_,rfl⟩
  have hM0:M 0=max (ru.length:Int) (li.length:Int):=by rw [hM];rfl
  have hM1:M 1=max (M 0) (ri.length:Int):=by rw [hM0,hM];rfl
  have hM2:M 2=max (M 1) (ho.length:Int):=by rw [hM1,hM0,hM];rfl
  rw [← hM0,← hM1,← hM2]
  have hr:∀ i,i < 2→∃ (tt:Tail) (L:List Int),([.sl ta (ri.map I),.sl tb (ho.map I)]:List PV)[i]?=some (.sl tt (L.map I))∧M (i+1)=max (M i) (L.length:Int):=fun i hi=>by
    rcases (by omega:i=0∨i=1) with rfl | rfl
    · exact ⟨ta,ri,rfl,hM1⟩
    · exact ⟨tb,ho,rfl,hM2⟩
  refine PFun.of (C:=c30) (cx_ok _ _ _) rfl (fn:=Tryz.f30) (by kernel_rfl) (c:=_) rfl rfl rfl ?_
  refine rS (rN (cx_ok _ _ _) (rO rfl (Ope.boxF rfl rfl ?_)))
  refine rO rfl (oA rfl ?_)
  refine rI (rS (rN (cx_ok _ _ _) (rO rfl (Ope.fld rfl rfl ?_))))
  refine rO rfl (oL rfl rfl ?_)
  refine rO rfl (Ope.len (m:=ru.length) rfl (by simp) ?_)
  refine rO rfl (Ope.fld rfl rfl ?_)
  refine rO rfl (oL rfl rfl ?_)
  refine rO rfl (Ope.len (m:=li.length) rfl (by simp) ?_)
  refine rO rfl (Ope.maxI rfl rfl ?_)
  refine rO rfl (oA rfl ?_)
  refine rI (rS (rS (rN (cx_ok _ _ _) (rO rfl (oM rfl ?_)))))
  refine rO rfl (Ope.len (m:=2) rfl rfl ?_)
  refine rO rfl (oM rfl ?_)
  refine rI (Run.block (Run.loop (α:=Nat) (fun i=>[(5,I (M i)),(15,.sl .ex [.sl ta (ri.map I),.sl tb (ho.map I)]),(16,I 2),(17,I i)]) (fun i=>HE 0 []) (fun i=>i≤2) (fun i=>2 - i) 0 ⟨by rw [hM0];rfl,rfl,rfl,rfl,trivial⟩ rfl (Nat.zero_le _) (fun i hi=>?_)))
  refine rS (rN (cx_ok _ _ _) (rO rfl (Ope.lt rfl rfl ?_)))
  refine rI (rS (rC rfl (fun hc=>?_) fun hc=>?_))
  ·refine Run.skip (rS (Run.block (rS ?_)))
   obtain ⟨tt,LL,hat,hMs⟩:=hr i (by omega)
   refine rN (cx_ok _ _ _) (rO rfl (Ope.idxS (m:=i) rfl rfl rfl hat rfl ?_))
   refine rO rfl (oL rfl rfl ?_)
   refine rO rfl (oA rfl ?_)
   refine rI (rN (cx_ok _ _ _) (rO rfl (oM rfl ?_)))
   refine rO rfl (oM rfl ?_)
   refine rO rfl (Ope.len (m:=LL.length) rfl (by simp) ?_)
   refine rO rfl (Ope.maxI rfl rfl ?_)
   refine rO rfl (oA rfl ?_)
   refine rI (Run.bend (rN (cx_ok _ _ _) (rO rfl (Ope.add rfl rfl (by omega) ?_))))
   refine rO rfl (oM rfl ?_)
   exact rI (Run.lend ⟨i+1,by omega,by omega,⟨by rw [hMs];rfl,rfl,rfl,rfl,trivial⟩,rfl,rfl⟩)
  ·refine Run.exit (Jmp.code (Jmp.round (Jmp.here (rS ?_))))
   obtain rfl:i=2:=by omega
   refine rN (cx_ok _ _ _) (rO rfl (oM rfl ?_))
   refine rO rfl (Ope.gt rfl rfl ?_)
   refine rO rfl (oA rfl ?_)
   exact rI (Run.ret (fin_ret (.tmp rfl .nil) rfl rfl))
theorem f3a (p q:PV) (ta tb:Tail) (hta:ta.isOwn=false) (htb:tb.isOwn=false) (ri ho:List Int) (hh:Fn P0 11 [f.v t1 t2,I 2000,.sl .ex [.sl ta (ri.map I),.sl tb (ho.map I)]] (B true)):Fn P0 3 [f.v t1 t2,p,q,.sl ta (ri.map I),.sl tb (ho.map I)] (B true):=by
  have hX:PV.bd 0 (.sl .ex [.sl ta (ri.map I),.sl tb (ho.map I)])=true:=by
    have h3:PV.bd 0 (.sl ta (ri.map I))=true:=bd_sl (f:=I) hta (fun _=>rfl) _
    have h4:PV.bd 0 (.sl tb (ho.map I))=true:=bd_sl (f:=I) htb (fun _=>rfl) _
    simp only [PV.bd,PV.bds] at h3 h4 ⊢
    simp [h3,h4]
  have hb:PV.bds 0 [f.v t1 t2,I 2000,.sl .ex [.sl ta (ri.map I),.sl tb (ho.map I)]]=true:=bd_fnsV f h1 h2 (bds_cons rfl (bds_cons hX rfl))
  refine PFun.of (C:=c3) (cx_ok _ _ _) rfl (fn:=Tryz.f3) (by kernel_rfl) (c:=_) rfl rfl rfl ?_
  refine rS (rN (cx_ok _ _ _) (rO rfl (Ope.boxF rfl rfl ?_)))
  refine rO rfl (oA rfl ?_)
  refine rI (rS (rS (rN (cx_ok _ _ _) (rO rfl (oL rfl rfl ?_)))))
  refine rO rfl (oM rfl ?_)
  refine rO rfl (oM rfl ?_)
  refine rO rfl (Ope.bsl rfl rfl rfl rfl ?_)
  refine rO rfl (Ope.cf rfl rfl hh hb ?_)
  refine rI (rC rfl (fun hc=>?_) fun hc=>?_)
  ·refine rS (rN (cx_ok _ _ _) (rO rfl (Ope.cf rfl rfl (aliveF) rfl ?_)))
   refine rO rfl (oA rfl ?_)
   exact rI (Run.ret (Jmp.code (fin_ret (.tmp rfl .nil) rfl rfl)))
  ·(exact absurd hc (by decide))
theorem f3v (hS:f.ru.length≤9223372036854775807) (hJ:f.li.length≤9223372036854775807) (hl:f.li.length≤1000) (p q:Int) (ta tb:Tail) (hta:ta.isOwn=false) (htb:tb.isOwn=false) (ri ho:List Int) (hh:Fn P0 11 [f.v t1 t2,I 2000,.sl .ex [.sl ta (ri.map I),.sl tb (ho.map I)]] (B false)):Fn P0 3 [f.v t1 t2,I p,I q,.sl ta (ri.map I),.sl tb (ho.map I)] (B true):=by
  have h3:PV.bd 0 (.sl ta (ri.map I))=true:=bd_sl (f:=I) hta (fun _=>rfl) _
  have h4:PV.bd 0 (.sl tb (ho.map I))=true:=bd_sl (f:=I) htb (fun _=>rfl) _
  have hX:PV.bd 0 (.sl .ex [.sl ta (ri.map I),.sl tb (ho.map I)])=true:=by
    simp only [PV.bd,PV.bds] at h3 h4 ⊢
    simp [h3,h4]
  have hb:PV.bds 0 [f.v t1 t2,I 2000,.sl .ex [.sl ta (ri.map I),.sl tb (ho.map I)]]=true:=bd_fnsV f h1 h2 (bds_cons rfl (bds_cons hX rfl))
  have hb0:PV.bds 0 [f.v t1 t2]=true:=bd_fnsV f h1 h2 rfl
  have hb1:∀ n:Int,PV.bds 0 [f.v t1 t2,I n]=true:=fun n=>bd_fnsV f h1 h2 rfl
  have hb2:PV.bds 0 [f.v t1 t2,.sl ta (ri.map I),.sl tb (ho.map I)]=true:=bd_fnsV f h1 h2 (bds_cons h3 (bds_cons h4 rfl))
  have a1:=f13 f h1 h2 hS hJ p
  have a2:=f14 f h1 h2 hS hJ p
  have b1:=f15 f h1 h2 hS hJ q
  have b2:=f16 f h1 h2 hS hJ q
  have c1:=f17 f h1 h2 hS hJ q
  have c2:=f18 f h1 h2 hS hJ q
  have d1:=f19 f h1 h2 hS hJ
  have d2:=f20 f h1 h2 hS hJ
  obtain ⟨t3,ht3,e1⟩:=f21 f h1 h2 hS hJ ta tb hta htb ri ho
  have e2:=f22 f h1 h2 hS hJ ta tb hta htb ri ho
  obtain ⟨ax,ay,az,ha⟩:=tolS_is f (numB f.li.length p) (f.spn (gC (1 * 2 ^ p.toNat)))
  obtain ⟨bx,bY,bz,hb'⟩:=tolS_is f (numB f.n q) (f.spn (gF q))
  obtain ⟨cx',cy,cz,hc'⟩:=tolS_is f (numB f.n q) (f.spn (gP q))
  obtain ⟨dx,dy,dz,hd⟩:=tolS_is f true (f.spn (gC (2 ^ f.li.length - 1)))
  obtain ⟨ys,ez,hys,hl9⟩:=tolL_is f (f.knB ri ho) (f.exa (f.dl ri ho f.li.length))
  obtain ⟨u1,hu1,g1⟩:=hl9 t3 ht3
  obtain ⟨u2,hu2,g2⟩:=hl9 .no rfl
  have hyl:ys.length≤1000:=by
    rcases hys with h | h
    · rw [h];unfold Fns.exa;rw [List.length_map,dl_len];exact hl
    · rw [h];exact Nat.zero_le _
  rw [ha] at a1 a2
  rw [hb'] at b1 b2
  rw [hc'] at c1 c2
  rw [hd] at d1 d2
  rw [g1] at e1
  rw [g2] at e2
  have hin:=f23 u1 u2 ys ys (by omega) (by omega)
  rw [decide_eq_true rfl] at hin
  have hbi:PV.bds 0 [.sl u1 (ys.map I),.sl u2 (ys.map I)]=true:=bds_cons (bd_sl (f:=I) hu1 (fun _=>rfl) _) (bds_cons (bd_sl (f:=I) hu2 (fun _=>rfl) _) rfl)
  clear ha hb' hc' hd hl9 g1 g2 hys
  refine PFun.of (C:=c3) (cx_ok _ _ _) rfl (fn:=Tryz.f3) (by kernel_rfl) (c:=_) rfl rfl rfl ?_
  refine rS (rN (cx_ok _ _ _) (rO rfl (Ope.boxF rfl rfl ?_)))
  refine rO rfl (oA rfl ?_)
  refine rI (rS (rS (rN (cx_ok _ _ _) (rO rfl (oL rfl rfl ?_)))))
  refine rO rfl (oM rfl ?_)
  refine rO rfl (oM rfl ?_)
  refine rO rfl (Ope.bsl rfl rfl rfl rfl ?_)
  refine rO rfl (Ope.cf rfl rfl hh hb ?_)
  refine rI (rC rfl (fun hc=>?_) fun hc=>?_)
  ·(exact absurd hc (by decide))
  ·refine Run.skip (rS (rN (cx_ok _ _ _) (rO rfl (oL rfl rfl ?_))))
   refine rO rfl (oM rfl ?_)
   refine rO rfl (Ope.cf rfl rfl a1 (hb1 _) ?_)
   refine rO rfl (oM rfl ?_)
   refine rO rfl (Ope.ext rfl rfl ?_)
   refine rO rfl (Ope.ext rfl rfl ?_)
   refine rO rfl (Ope.newL rfl ?_)
   refine Reg.op0 (Ope.store rfl rfl hget_hd rfl rfl rfl ?_)
   refine rO rfl (oA rfl ?_)
   refine rI (rS (Run.frz (d:=11) true rfl hget_hd rfl ?_))
   refine rN (cx_ok _ _ _) (rO rfl (oL rfl rfl ?_))
   refine rO rfl (oM rfl ?_)
   refine rO rfl (Ope.cf rfl rfl a2 (hb1 _) ?_)
   refine rO rfl (oM rfl ?_)
   refine rO rfl (Ope.ext rfl rfl ?_)
   refine rO rfl (Ope.ext rfl rfl ?_)
   refine rO rfl (Ope.newL rfl ?_)
   refine Reg.op0 (Ope.store rfl rfl hget_hd rfl rfl rfl ?_)
   refine rO rfl (oA rfl ?_)
   refine rI (rS (Run.frz (d:=13) true rfl hget_hd rfl ?_))
   refine rN (cx_ok _ _ _) (rO rfl (oL rfl rfl ?_))
   refine rO rfl (oM rfl ?_)
   refine rO rfl (Ope.cf rfl rfl b1 (hb1 _) ?_)
   refine rO rfl (oM rfl ?_)
   refine rO rfl (Ope.ext rfl rfl ?_)
   refine rO rfl (Ope.ext rfl rfl ?_)
   refine rO rfl (Ope.newL rfl ?_)
   refine Reg.op0 (Ope.store rfl rfl hget_hd rfl rfl rfl ?_)
   refine rO rfl (oA rfl ?_)
   refine rI (rS (Run.frz (d:=15) true rfl hget_hd rfl ?_))
   refine rN (cx_ok _ _ _) (rO rfl (oL rfl rfl ?_))
   refine rO rfl (oM rfl ?_)
   refine rO rfl (Ope.cf rfl rfl b2 (hb1 _) ?_)
   refine rO rfl (oM rfl ?_)
   refine rO rfl (Ope.ext rfl rfl ?_)
   refine rO rfl (Ope.ext rfl rfl ?_)
   refine rO rfl (Ope.newL rfl ?_)
   refine Reg.op0 (Ope.store rfl rfl hget_hd rfl rfl rfl ?_)
   refine rO rfl (oA rfl ?_)
   refine rI (rS (Run.frz (d:=17) true rfl hget_hd rfl ?_))
   refine rN (cx_ok _ _ _) (rO rfl (oL rfl rfl ?_))
   refine rO rfl (oM rfl ?_)
   refine rO rfl (Ope.cf rfl rfl c1 (hb1 _) ?_)
   refine rO rfl (oM rfl ?_)
   refine rO rfl (Ope.ext rfl rfl ?_)
   refine rO rfl (Ope.ext rfl rfl ?_)
   refine rO rfl (Ope.newL rfl ?_)
   refine Reg.op0 (Ope.store rfl rfl hget_hd rfl rfl rfl ?_)
   refine rO rfl (oA rfl ?_)
   refine rI (rS (Run.frz (d:=19) true rfl hget_hd rfl ?_))
   refine rN (cx_ok _ _ _) (rO rfl (oL rfl rfl ?_))
   refine rO rfl (oM rfl ?_)
   refine rO rfl (Ope.cf rfl rfl c2 (hb1 _) ?_)
   refine rO rfl (oM rfl ?_)
   refine rO rfl (Ope.ext rfl rfl ?_)
   refine rO rfl (Ope.ext rfl rfl ?_)
   refine rO rfl (Ope.newL rfl ?_)
   refine Reg.op0 (Ope.store rfl rfl hget_hd rfl rfl rfl ?_)
   refine rO rfl (oA rfl ?_)
   refine rI (rS (Run.frz (d:=21) true rfl hget_hd rfl ?_))
   refine rN (cx_ok _ _ _) (rO rfl (oL rfl rfl ?_))
   refine rO rfl (Ope.cf rfl rfl d1 hb0 ?_)
   refine rO rfl (oM rfl ?_)
   refine rO rfl (Ope.ext rfl rfl ?_)
   refine rO rfl (Ope.ext rfl rfl ?_)
   refine rO rfl (Ope.newL rfl ?_)
   refine Reg.op0 (Ope.store rfl rfl hget_hd rfl rfl rfl ?_)
   refine rO rfl (oA rfl ?_)
   refine rI (rS (Run.frz (d:=23) true rfl hget_hd rfl ?_))
   refine rN (cx_ok _ _ _) (rO rfl (oL rfl rfl ?_))
   refine rO rfl (Ope.cf rfl rfl d2 hb0 ?_)
   refine rO rfl (oM rfl ?_)
   refine rO rfl (Ope.ext rfl rfl ?_)
   refine rO rfl (Ope.ext rfl rfl ?_)
   refine rO rfl (Ope.newL rfl ?_)
   refine Reg.op0 (Ope.store rfl rfl hget_hd rfl rfl rfl ?_)
   refine rO rfl (oA rfl ?_)
   refine rI (rS (Run.frz (d:=25) true rfl hget_hd rfl ?_))
   refine rN (cx_ok _ _ _) (rO rfl (oL rfl rfl ?_))
   refine rO rfl (oM rfl ?_)
   refine rO rfl (oM rfl ?_)
   refine rO rfl (Ope.cf rfl rfl e1 hb2 ?_)
   refine rO rfl (oM rfl ?_)
   refine rO rfl (Ope.ext rfl rfl ?_)
   refine rO rfl (Ope.ext rfl rfl ?_)
   refine rO rfl (oA rfl ?_)
   refine rO rfl (oA rfl ?_)
   refine rI (rS (rN (cx_ok _ _ _) (rO rfl (oL rfl rfl ?_))))
   refine rO rfl (oM rfl ?_)
   refine rO rfl (oM rfl ?_)
   refine rO rfl (Ope.cf rfl rfl e2 hb2 ?_)
   refine rO rfl (oM rfl ?_)
   refine rO rfl (Ope.ext rfl rfl ?_)
   refine rO rfl (Ope.ext rfl rfl ?_)
   refine rO rfl (oA rfl ?_)
   refine rO rfl (oA rfl ?_)
   refine rI (rS (rN (cx_ok _ _ _) (rO rfl (oL rfl rfl ?_))))
   refine rO rfl (oL rfl rfl ?_)
   refine rO rfl (Ope.eqV rfl rfl (eqSpT _ _ _ _) ?_)
   refine rO rfl (oM rfl ?_)
   refine Reg.on rfl rfl rfl (oM rfl ?_)
   refine Reg.on rfl rfl rfl (oM rfl ?_)
   refine Reg.on rfl rfl rfl (Ope.eqR rfl rfl ?_)
   refine rO rfl (Ope.pickT rfl rfl ?_)
   refine rO rfl (oM rfl ?_)
   refine Reg.on rfl rfl rfl (oL rfl rfl ?_)
   refine Reg.on rfl rfl rfl (oL rfl rfl ?_)
   refine Reg.on rfl rfl rfl (Ope.eqV rfl rfl (eqSpT _ _ _ _) ?_)
   refine rO rfl (Ope.pickT rfl rfl ?_)
   refine rO rfl (oM rfl ?_)
   refine Reg.on rfl rfl rfl (oM rfl ?_)
   refine Reg.on rfl rfl rfl (oM rfl ?_)
   refine Reg.on rfl rfl rfl (Ope.eqR rfl rfl ?_)
   refine rO rfl (Ope.pickT rfl rfl ?_)
   refine rO rfl (oM rfl ?_)
   refine Reg.on rfl rfl rfl (oL rfl rfl ?_)
   refine Reg.on rfl rfl rfl (oL rfl rfl ?_)
   refine Reg.on rfl rfl rfl (Ope.eqV rfl rfl (eqSpT _ _ _ _) ?_)
   refine rO rfl (Ope.pickT rfl rfl ?_)
   refine rO rfl (oM rfl ?_)
   refine Reg.on rfl rfl rfl (oM rfl ?_)
   refine Reg.on rfl rfl rfl (oM rfl ?_)
   refine Reg.on rfl rfl rfl (Ope.eqR rfl rfl ?_)
   refine rO rfl (Ope.pickT rfl rfl ?_)
   refine rO rfl (oM rfl ?_)
   refine Reg.on rfl rfl rfl (oL rfl rfl ?_)
   refine Reg.on rfl rfl rfl (oL rfl rfl ?_)
   refine Reg.on rfl rfl rfl (Ope.eqV rfl rfl (eqSpT _ _ _ _) ?_)
   refine rO rfl (Ope.pickT rfl rfl ?_)
   refine rO rfl (oM rfl ?_)
   refine Reg.on rfl rfl rfl (oM rfl ?_)
   refine Reg.on rfl rfl rfl (oM rfl ?_)
   refine Reg.on rfl rfl rfl (Ope.eqR rfl rfl ?_)
   refine rO rfl (Ope.pickT rfl rfl ?_)
   refine rO rfl (oM rfl ?_)
   refine Reg.on rfl rfl rfl (oM rfl ?_)
   refine Reg.on rfl rfl rfl (oM rfl ?_)
   refine Reg.on rfl rfl rfl (Ope.cf rfl rfl hin hbi ?_)
   refine rO rfl (Ope.pickT rfl rfl ?_)
   refine rO rfl (oM rfl ?_)
   refine Reg.on rfl rfl rfl (oM rfl ?_)
   refine Reg.on rfl rfl rfl (oM rfl ?_)
   refine Reg.on rfl rfl rfl (Ope.eqR rfl rfl ?_)
   refine rO rfl (Ope.pickT rfl rfl ?_)
   refine rO rfl (oM rfl ?_)
   refine Reg.on rfl rfl rfl (Ope.cf rfl rfl (aliveF) rfl ?_)
   refine rO rfl (Ope.pickT rfl rfl ?_)
   refine rO rfl (oA rfl ?_)
   exact rI (Run.ret (fin_ret (.tmp rfl .nil) rfl rfl))
end
theorem f3 (s:Fns) (hi:s.hnd) (p q:Int) (ri ho:List Int):Fn P0 3 [s.v .no .no,I p,I q,.sl .no (ri.map I),.sl .no (ho.map I)] (B true):=by
  have hX:PV.bd 0 (.sl .ex [.sl .no (ri.map I),.sl .no (ho.map I)])=true:=by
    have h3:PV.bd 0 (.sl .no (ri.map I))=true:=bd_sl (f:=I) (tl:=.no) rfl (fun _=>rfl) _
    have h4:PV.bd 0 (.sl .no (ho.map I))=true:=bd_sl (f:=I) (tl:=.no) rfl (fun _=>rfl) _
    simp only [PV.bd,PV.bds] at h3 h4 ⊢
    simp [h3,h4]
  have hlo:=f30t s (t1:=.no) (t2:=.no) rfl rfl .no .no ri ho
  cases hl:lng2 s ri ho with
  | true =>
    rw [hl] at hlo
    exact f3a s rfl rfl _ _ .no .no rfl rfl ri ho (f11ng s rfl rfl hi.ru hi.li 2000 _ hX _ hlo (.inl rfl))
  | false =>
    rw [hl] at hlo
    have hlen:s.li.length≤1000:=by
      unfold lng2 at hl
      rw [decide_eq_false_iff_not] at hl
      omega
    cases hB:s.B with
    | false=>exact f3v s rfl rfl hi.ru hi.li hlen p q .no .no rfl rfl ri ho (f11ng s rfl rfl hi.ru hi.li 2000 _ hX _ hlo (.inr hB))
    | true =>
      have hf:=fns_ok s hB
      have hh:=f11vg s (t1:=.no) (t2:=.no) rfl rfl hf 2000 _ hX hlo
      cases hd:decide ((2000:Int) < (prdN s s.li.length:Nat)) with
      | true=>rw [hd] at hh;exact f3a s rfl rfl _ _ .no .no rfl rfl ri ho hh
      | false=>rw [hd] at hh;exact f3v s rfl rfl hi.ru hi.li hlen p q .no .no rfl rfl ri ho hh
end Go.Pv
