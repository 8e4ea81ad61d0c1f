/- Parts of the proof: E48, E55, E56, E57, E58 -/
import Derived.Test.YtfpihegkllffbaaGreatP24
set_option linter.unusedVariables false
set_option linter.unusedSimpArgs false
set_option linter.unusedSectionVars false
namespace Go.Pv
open Go.Proofs Go.Am
set_option maxRecDepth 10000
set_option maxHeartbeats 4000000
structure EDt (len r:Nat) (RI X:List Int) (FI PA:Nat→Int):Prop where
  rl:RI.length=len
  xl:X.length=len
  xb:∀ i (h:i < X.length),0≤X[i]∧X[i]≤1000
  f0:FI 0=0
  p0:PA 0=0
  fb:∀ i,0≤FI i∧FI i≤5005
  pb:∀ i,0≤PA i∧PA i≤5005
  s1:∀ i (h1:i < RI.length) (h2:i < X.length),RI[i]=(r:Int)→FI (i+1)=FI i+X[i]∧PA (i+1)=PA i+(X[i]+1) / 2
  s2:∀ i (h1:i < RI.length) (h2:i < X.length),¬ RI[i]=(r:Int)→RI[i]=((r ^^^ 1:Nat):Int)→FI (i+1)=FI i∧PA (i+1)=PA i+X[i] / 2
  s3:∀ i (h1:i < RI.length) (h2:i < X.length),¬ RI[i]=(r:Int)→¬ RI[i]=((r ^^^ 1:Nat):Int)→FI (i+1)=FI i∧PA (i+1)=PA i
end Go.Pv
namespace Go.Pv
open Go.Proofs Go.Am
set_option maxRecDepth 10000
set_option maxHeartbeats 4000000
abbrev tR (ta tb:Tail) (RI HO:List Int):PV:=.agg [.sl ta (RI.map I),.sl tb (HO.map I)]
theorem f71 (ta tb:Tail) (RI HO:List Int) (a b:Nat) (ha:a < HO.length) (hb:b < HO.length):Fn P0 71 [tR ta tb RI HO,N a,N b] (B (decide (HO[a] < HO[b]∨(HO[a]=HO[b]∧a < b)))):=by
  refine PFun.of (C:=c71) (cx_ok _ _ _) rfl (fn:=Tryz.f71) (by kernel_rfl) (c:=_) rfl rfl rfl ?_
  refine Run.seq (Run.region (cx_ok _ _ _) (Reg.op rfl (Ope.boxF rfl rfl ?_)))
  refine Reg.op rfl (Ope.asg rfl ?_)
  refine Reg.nil (Run.seq (Run.draw (cx_ok _ _ _) [(0,true),(1,true),(2,true),(3,true),(4,true),(5,true),(6,true),(7,true),(8,true),(9,true),(10,true),(11,true),(12,true),(13,true),(14,true),(15,true),(16,true),(17,true),(18,true),(19,true),(20,true),(21,true),(22,true),(23,true),(24,true),(25,true),(26,true),(27,true),(28,true),(29,true)] (by kernel_rfl) (Dra.op' rfl rfl rfl .sure (Ope.fld rfl rfl ?_))))
  refine Dra.op' rfl rfl rfl .sure (Ope.load rfl rfl ?_)
  refine Dra.op' rfl rfl rfl .sure (Ope.mov rfl ?_)
  refine Dra.op' rfl rfl rfl .sure (Ope.idxM (m:=a) (f:=I) rfl rfl rfl ha (fun _=>rfl) ?_)
  refine Dra.op' rfl rfl rfl .sure (Ope.load rfl rfl ?_)
  refine Dra.op' rfl rfl rfl .sure (Ope.fld rfl rfl ?_)
  refine Dra.op' rfl rfl rfl .sure (Ope.load rfl rfl ?_)
  refine Dra.op' rfl rfl rfl .sure (Ope.mov rfl ?_)
  refine Dra.op' rfl rfl rfl .sure (Ope.idxM (m:=b) (f:=I) rfl rfl rfl hb (fun _=>rfl) ?_)
  refine Dra.op' rfl rfl rfl .sure (Ope.load rfl rfl ?_)
  refine Dra.op' rfl rfl rfl .sure (Ope.lt rfl rfl ?_)
  refine Dra.op' rfl rfl rfl .sure (Ope.mov rfl ?_)
  refine Dra.splitX rfl rfl rfl rfl (fun hg=>?_) fun hg=>?_
  ·refine Dra.off' rfl rfl rfl (.inl rfl) rfl (Dra.off' rfl rfl rfl (.inl rfl) rfl (Dra.off' rfl rfl rfl (.inl rfl) rfl (Dra.off' rfl rfl rfl (.inl rfl) rfl (Dra.off' rfl rfl rfl (.inl rfl) rfl (Dra.off' rfl rfl rfl (.inl rfl) rfl (Dra.off' rfl rfl rfl (.inl rfl) rfl (Dra.off' rfl rfl rfl (.inl rfl) rfl (Dra.off' rfl rfl rfl (.inl rfl) rfl (Dra.off' rfl rfl rfl (.inl rfl) rfl (Dra.off' rfl rfl rfl (.inl rfl) rfl (Dra.off' rfl rfl rfl (.inl rfl) rfl (Dra.off' rfl rfl rfl (.inr rfl) rfl (Dra.off' rfl rfl rfl (.inr rfl) rfl (Dra.off' rfl rfl rfl (.inr rfl) rfl (Dra.off' rfl rfl rfl (.inl rfl) rfl (Dra.op' rfl rfl rfl .sure (Ope.pickT rfl rfl ?_)))))))))))))))))
   refine Dra.op' rfl rfl rfl .sure (Ope.asg rfl ?_)
   refine Dra.nil (Run.ret (fin_ret (.tmp rfl .nil) rfl ?_))
   (refine congrArg B ?_;first | exact (decide_eq_true (by omega)).symm | exact (decide_eq_false (by omega)).symm | (refine decide_eq_decide.2 ?_;omega))
  ·refine Dra.on' rfl rfl rfl rfl rfl .sure (Ope.fld rfl rfl ?_)
   refine Dra.on' rfl rfl rfl rfl rfl .sure (Ope.load rfl rfl ?_)
   refine Dra.on' rfl rfl rfl rfl rfl .sure (Ope.mov rfl ?_)
   refine Dra.on' rfl rfl rfl rfl rfl .sure (Ope.idxM (m:=a) (f:=I) rfl rfl rfl ha (fun _=>rfl) ?_)
   refine Dra.on' rfl rfl rfl rfl rfl .sure (Ope.load rfl rfl ?_)
   refine Dra.on' rfl rfl rfl rfl rfl .sure (Ope.fld rfl rfl ?_)
   refine Dra.on' rfl rfl rfl rfl rfl .sure (Ope.load rfl rfl ?_)
   refine Dra.on' rfl rfl rfl rfl rfl .sure (Ope.mov rfl ?_)
   refine Dra.on' rfl rfl rfl rfl rfl .sure (Ope.idxM (m:=b) (f:=I) rfl rfl rfl hb (fun _=>rfl) ?_)
   refine Dra.on' rfl rfl rfl rfl rfl .sure (Ope.load rfl rfl ?_)
   refine Dra.on' rfl rfl rfl rfl rfl .sure (Ope.eq rfl rfl ?_)
   refine Dra.on' rfl rfl rfl rfl rfl .sure (Ope.mov rfl ?_)
   refine Dra.splitX rfl rfl rfl rfl (fun hg=>?_) fun hg=>?_
   ·refine Dra.on' rfl rfl rfl rfl rfl .sure (Ope.mov rfl ?_)
    refine Dra.on' rfl rfl rfl rfl rfl .sure (Ope.mov rfl ?_)
    refine Dra.on' rfl rfl rfl rfl rfl .sure (Ope.lt rfl rfl ?_)
    refine Dra.on' rfl rfl rfl rfl rfl .sure (Ope.pickT rfl rfl ?_)
    refine Dra.op' rfl rfl rfl .sure (Ope.pickF rfl rfl ?_)
    refine Dra.op' rfl rfl rfl .sure (Ope.asg rfl ?_)
    refine Dra.nil (Run.ret (fin_ret (.tmp rfl .nil) rfl ?_))
    (refine congrArg B ?_;first | exact (decide_eq_true (by omega)).symm | exact (decide_eq_false (by omega)).symm | (refine decide_eq_decide.2 ?_;omega))
   ·refine Dra.off' rfl rfl rfl (.inl rfl) rfl (Dra.off' rfl rfl rfl (.inl rfl) rfl (Dra.off' rfl rfl rfl (.inl rfl) rfl (Dra.on' rfl rfl rfl rfl rfl .sure (Ope.pickF rfl rfl ?_))))
    refine Dra.op' rfl rfl rfl .sure (Ope.pickF rfl rfl ?_)
    refine Dra.op' rfl rfl rfl .sure (Ope.asg rfl ?_)
    refine Dra.nil (Run.ret (fin_ret (.tmp rfl .nil) rfl ?_))
    (refine congrArg B ?_;first | exact (decide_eq_true (by omega)).symm | exact (decide_eq_false (by omega)).symm | (refine decide_eq_decide.2 ?_;omega))
def cR (f:Fns) (RI HO:List Int) (n:Nat):Int:=min (f.rule (f.ofc n).kd).mo ((f.rule (f.ofc n).kd).ba+(f.rule (f.ofc n).kd).st * (cntN (f.cnd RI HO n) f.li.length:Nat))
theorem cR_exa (f:Fns) (RI HO:List Int) {n:Nat} (hn:n < (f.exa (f.dl RI HO f.li.length)).length):(f.exa (f.dl RI HO f.li.length))[n]=cR f RI HO n:=exa_at f RI HO hn
theorem cR_bd {f:Fns} (hf:f.ok) (RI HO:List Int) (n:Nat):0≤cR f RI HO n∧cR f RI HO n≤1000:=by
  obtain ⟨h1,h2,h3,_⟩:=hf.rule (f.ofc n).kd
  unfold cR
  have:0≤(f.rule (f.ofc n).kd).st * (cntN (f.cnd RI HO n) f.li.length:Nat):=Int.mul_nonneg h2.1 (by omega)
  omega
section
variable (f:Fns) {t1 t2:Tail} (h1:t1.isOwn=false) (h2:t2.isOwn=false)
include h1 h2
theorem f45 (hf:f.ok) (ta tb:Tail) (hta:ta.isOwn=false) (htb:tb.isOwn=false) (RI HO:List Int) (hR:RI.length=f.li.length) (hH:HO.length=f.li.length) (hHb:∀ x∈HO,0≤x∧x≤144) (n:Nat) (hn:n < f.li.length):Fn P0 45 [f.v t1 t2,tR ta tb RI HO,N n] (I (cR f RI HO n)):=by
  have hl5:=hf.li
  have hofn:=Fns.ofc_at hn
  have hlvn:=hf.lv _ (List.getElem_mem hn)
  obtain ⟨oc,hoc⟩:∃ o,f.li[n]=o:=⟨_,rfl⟩
  rw [hoc] at hlvn hofn
  obtain ⟨kd,ri,lo,hi⟩:=oc
  simp only at hlvn
  obtain ⟨kk,rfl⟩:∃ k:Nat,kd=(k:Int):=⟨kd.toNat,by omega⟩
  have hkk:kk < f.ru.length:=by omega
  have hrul:=Fns.rule_at hkk
  have hrv:=hf.rv _ (List.getElem_mem hkk)
  obtain ⟨rc,hrc⟩:∃ r,f.ru[kk]=r:=⟨_,rfl⟩
  rw [hrc] at hrv hrul
  obtain ⟨ba,st,mo,wi⟩:=rc
  simp only at hrv
  have hbt:∀ a b:Nat,PV.bds 0 [tR ta tb RI HO,N a,N b]=true:=fun a b=>bds_cons (bd_agg (bds_cons (bd_sl (f:=I) hta (fun _=>rfl) _) (bds_cons (bd_sl (f:=I) htb (fun _=>rfl) _) rfl))) rfl
  have hnR:n < RI.length:=by omega
  have hnH:n < HO.length:=by omega
  have hCn:∀ i (h1:i < f.li.length) (h2:i < RI.length) (h3:i < HO.length),f.cnd RI HO n i=decide (i≠n∧f.li[i].kd=(kk:Int)∧RI[i]=RI[n]∧HO[i]≤HO[n]∧(HO[i] < HO[n]∨i < n)∧HO[n] - HO[i]≤wi):=fun i h1 h2 h3=>by
    unfold Fns.cnd
    rw [hofn,hrul,Fns.ofc_at h1]
    have e:∀ (L:List Int) (j:Nat) (h:j < L.length),L.getD j 0=L[j]:=fun L j h=>by simp [List.getD,h]
    rw [e RI i h2,e RI n hnR,e HO i h3,e HO n hnH]
    rfl
  have hres:cR f RI HO n=min (ba+st * (cntN (f.cnd RI HO n) f.li.length:Nat)) mo:=by
    unfold cR
    rw [hofn,hrul]
    show min mo _=_
    exact Int.min_comm ..
  rw [hres]
  obtain ⟨C,hC⟩:∃ C,f.cnd RI HO n=C:=⟨_,rfl⟩
  rw [hC] at hCn ⊢
  obtain ⟨z,hz⟩:∃ z:Nat→Int,z=fun i=>st * (cntN C i:Nat):=⟨_,rfl⟩
  have hz0:z 0=0:=by rw [hz];simp [cntN]
  have hzs:∀ i,z (i+1)=z i+if C i=true then st else 0:=fun i=>by
    rw [hz]
    show st * ((cntN C i+if C i=true then 1 else 0:Nat):Int)=st * (cntN C i:Nat)+_
    split
    · push_cast;rw [Int.mul_add];omega
    · push_cast;rw [Int.mul_add];omega
  have hzb:∀ i,i≤5→0≤z i∧z i≤5000:=fun i hi=>by
    rw [hz]
    have h9:=cntN_le C i
    have h8:st * (cntN C i:Nat)≤1000 * 5:=Int.mul_le_mul hrv.2.1.2 (by omega) (by omega) (by omega)
    have h7:0≤st * (cntN C i:Nat):=Int.mul_nonneg hrv.2.1.1 (by omega)
    exact ⟨h7,h8⟩
  have hze:st * (cntN C f.li.length:Nat)=z f.li.length:=by rw [hz]
  rw [hze]
  have hHn:=hHb _ (List.getElem_mem hnH)
  have hbe:=fun i (hi:i < HO.length)=>f71 ta tb RI HO i n hi hnH
  clear hz hze hres hC hrul hofn
  obtain ⟨ru,nn,li⟩:=f
  simp only at hl5 hn hlvn hkk hrc hoc hR hH hCn ⊢
  clear hf
  refine PFun.of (C:=c45) (cx_ok _ _ _) rfl (fn:=Tryz.f45) (by kernel_rfl) (c:=_) rfl rfl rfl ?_
  refine Run.seq (Run.region (cx_ok _ _ _) (Reg.op rfl (Ope.boxF rfl rfl ?_)))
  refine Reg.op rfl (Ope.boxF rfl rfl ?_)
  refine Reg.op rfl (Ope.asg rfl ?_)
  refine Reg.nil (Run.seq (Run.draw (cx_ok _ _ _) [(0,true),(1,false),(2,true),(3,false),(4,true),(5,true),(6,true),(7,false),(8,true),(9,false),(10,true),(11,true)] (by kernel_rfl) (Dra.op' rfl rfl rfl .sure (Ope.fld rfl rfl ?_))))
  refine Dra.op' rfl rfl rfl (.load rfl) (Ope.load rfl rfl ?_)
  refine Dra.op' rfl rfl rfl .sure (Ope.fld rfl rfl ?_)
  refine Dra.op' rfl rfl rfl (.load rfl) (Ope.load rfl rfl ?_)
  refine Dra.op' rfl rfl rfl .sure (Ope.mov rfl ?_)
  refine Dra.op' rfl rfl rfl .sure (Ope.idxM (m:=n) (f:=Ofc.v) rfl rfl rfl hn (fun _=>rfl) ?_)
  rw [hoc]
  refine Dra.op' rfl rfl rfl .sure (Ope.fld rfl rfl ?_)
  refine Dra.op' rfl rfl rfl (.load rfl) (Ope.load rfl rfl ?_)
  refine Dra.op' rfl rfl rfl .sure (Ope.idxM (m:=kk) (f:=Rul.v) rfl rfl rfl hkk (fun _=>rfl) ?_)
  rw [hrc]
  refine Dra.op' rfl rfl rfl (.load rfl) (Ope.load rfl rfl ?_)
  refine Dra.op' rfl rfl rfl .sure (Ope.newL rfl ?_)
  refine Dra.op' rfl rfl rfl .sure (Ope.store rfl rfl hget_hd rfl rfl rfl ?_)
  refine Dra.nil (Run.seq (Run.frz (d:=7) true rfl hget_hd rfl ?_))
  refine Run.wide (m:=1) (l':=[]) (Nat.le_refl _) trivial ?_
  refine Run.region (cx_ok _ _ _) (Reg.op rfl (Ope.fld rfl rfl ?_))
  refine Reg.op rfl (Ope.load rfl rfl ?_)
  refine Reg.op rfl (Ope.asg rfl ?_)
  refine Reg.nil (Run.seq (Run.seq (Run.region (cx_ok _ _ _) (Reg.op rfl (Ope.asg rfl ?_)))))
  refine Reg.nil (Run.block (Run.loop (α:=Nat) (fun i=>[(2,N n),(3,.fp ((⟨ru,nn,li⟩:Fns).v t1 t2)),(4,.fp (tR ta tb RI HO)),(7,.fp (.agg [I ba,I st,I mo,I wi])),(8,I (ba+z i)),(9,I i)]) (fun i=>HE 1 []) (fun i=>i≤li.length) (fun i=>li.length - i) 0 ⟨rfl,rfl,rfl,rfl,by rw [hz0];show some (I ba)=some (I (ba+0));rw [Int.add_zero],rfl,trivial⟩ rfl (Nat.zero_le _) (fun i hi=>?_)))
  refine Run.seq (Run.seq (Run.region (cx_ok _ _ _) (Reg.op rfl (Ope.mov rfl ?_))))
  refine Reg.op rfl (Ope.fld rfl rfl ?_)
  refine Reg.op rfl (Ope.load rfl rfl ?_)
  refine Reg.op rfl (Ope.len (m:=li.length) rfl (by simp) ?_)
  refine Reg.op rfl (Ope.lt rfl rfl ?_)
  refine Reg.nil (Run.condX rfl (fun hc=>?_) fun hc=>?_)
  ·refine Run.skip (Run.seq (Run.block (Run.seq ?_)))
   have hil:i < li.length:=by omega
   have hiR:i < RI.length:=by omega
   have hiH:i < HO.length:=by omega
   have hCi:=hCn i hil hiR hiH
   have hzi:=hzs i
   have hzB:=hzb i (by omega)
   have hbi:=hbe i hiH
   have hHi:=hHb _ (List.getElem_mem hiH)
   have hin:¬ i=n∨HO[i]=HO[n]:=by
     by_cases e:i=n
     · subst e;exact .inr rfl
     · exact .inl e
   refine Run.draw (cx_ok _ _ _) [(0,true),(1,true),(2,true),(3,true),(4,true),(5,true),(6,true),(7,true),(8,true),(9,true),(10,true),(11,true),(12,true),(13,true),(14,true),(15,true),(16,true),(17,true),(18,true),(19,true),(20,true),(21,true),(22,true),(23,true),(24,true),(25,true),(26,true),(27,true),(28,true),(29,true),(30,true),(31,true),(32,true),(33,true),(34,true),(35,true),(36,true),(37,true),(38,true),(39,true),(40,true),(41,true),(42,true),(43,true),(44,true),(45,true),(46,true),(47,true)] (by kernel_rfl) (Dra.op' rfl rfl rfl .sure (Ope.fld rfl rfl ?_))
   refine Dra.op' rfl rfl rfl .sure (Ope.load rfl rfl ?_)
   refine Dra.op' rfl rfl rfl .sure (Ope.mov rfl ?_)
   refine Dra.op' rfl rfl rfl .sure (Ope.idxM (m:=i) (f:=Ofc.v) rfl rfl rfl hil (fun _=>rfl) ?_)
   refine Dra.op' rfl rfl rfl .sure (Ope.fld rfl rfl ?_)
   refine Dra.op' rfl rfl rfl .sure (Ope.load rfl rfl ?_)
   refine Dra.op' rfl rfl rfl .sure (Ope.fld rfl rfl ?_)
   refine Dra.op' rfl rfl rfl .sure (Ope.load rfl rfl ?_)
   refine Dra.op' rfl rfl rfl .sure (Ope.mov rfl ?_)
   refine Dra.op' rfl rfl rfl .sure (Ope.idxM (m:=n) (f:=Ofc.v) rfl rfl rfl hn (fun _=>rfl) ?_)
   rw [hoc]
   refine Dra.op' rfl rfl rfl .sure (Ope.fld rfl rfl ?_)
   refine Dra.op' rfl rfl rfl .sure (Ope.load rfl rfl ?_)
   refine Dra.op' rfl rfl rfl .sure (Ope.eq rfl rfl ?_)
   refine Dra.op' rfl rfl rfl .sure (Ope.mov rfl ?_)
   refine Dra.splitX rfl rfl rfl rfl (fun hg=>?_) fun hg=>?_
   ·refine Dra.on' rfl rfl rfl rfl rfl .sure (Ope.fld rfl rfl ?_)
    refine Dra.on' rfl rfl rfl rfl rfl .sure (Ope.load rfl rfl ?_)
    refine Dra.on' rfl rfl rfl rfl rfl .sure (Ope.mov rfl ?_)
    refine Dra.on' rfl rfl rfl rfl rfl .sure (Ope.idxM (m:=i) (f:=I) rfl rfl rfl hiR (fun _=>rfl) ?_)
    refine Dra.on' rfl rfl rfl rfl rfl .sure (Ope.load rfl rfl ?_)
    refine Dra.on' rfl rfl rfl rfl rfl .sure (Ope.fld rfl rfl ?_)
    refine Dra.on' rfl rfl rfl rfl rfl .sure (Ope.load rfl rfl ?_)
    refine Dra.on' rfl rfl rfl rfl rfl .sure (Ope.mov rfl ?_)
    refine Dra.on' rfl rfl rfl rfl rfl .sure (Ope.idxM (m:=n) (f:=I) rfl rfl rfl hnR (fun _=>rfl) ?_)
    refine Dra.on' rfl rfl rfl rfl rfl .sure (Ope.load rfl rfl ?_)
    refine Dra.on' rfl rfl rfl rfl rfl .sure (Ope.eq rfl rfl ?_)
    refine Dra.op' rfl rfl rfl .sure (Ope.pickT rfl rfl ?_)
    refine Dra.op' rfl rfl rfl .sure (Ope.mov rfl ?_)
    refine Dra.splitX rfl rfl rfl rfl (fun hg=>?_) fun hg=>?_
    ·refine Dra.on' rfl rfl rfl rfl rfl .sure (Ope.load rfl rfl ?_)
     refine Dra.on' rfl rfl rfl rfl rfl .sure (Ope.mov rfl ?_)
     refine Dra.on' rfl rfl rfl rfl rfl .sure (Ope.mov rfl ?_)
     refine Dra.on' rfl rfl rfl rfl rfl .sure (Ope.cf rfl rfl hbi (hbt _ _) ?_)
     refine Dra.op' rfl rfl rfl .sure (Ope.pickT rfl rfl ?_)
     refine Dra.op' rfl rfl rfl .sure (Ope.mov rfl ?_)
     refine Dra.splitX rfl rfl rfl rfl (fun hg=>?_) fun hg=>?_
     ·refine Dra.on' rfl rfl rfl rfl rfl .sure (Ope.fld rfl rfl ?_)
      refine Dra.on' rfl rfl rfl rfl rfl .sure (Ope.load rfl rfl ?_)
      refine Dra.on' rfl rfl rfl rfl rfl .sure (Ope.mov rfl ?_)
      refine Dra.on' rfl rfl rfl rfl rfl .sure (Ope.idxM (m:=i) (f:=I) rfl rfl rfl hiH (fun _=>rfl) ?_)
      refine Dra.on' rfl rfl rfl rfl rfl .sure (Ope.load rfl rfl ?_)
      refine Dra.on' rfl rfl rfl rfl rfl .sure (Ope.fld rfl rfl ?_)
      refine Dra.on' rfl rfl rfl rfl rfl .sure (Ope.load rfl rfl ?_)
      refine Dra.on' rfl rfl rfl rfl rfl .sure (Ope.mov rfl ?_)
      refine Dra.on' rfl rfl rfl rfl rfl .sure (Ope.idxM (m:=n) (f:=I) rfl rfl rfl hnH (fun _=>rfl) ?_)
      refine Dra.on' rfl rfl rfl rfl rfl .sure (Ope.load rfl rfl ?_)
      refine Dra.on' rfl rfl rfl rfl rfl .sure (Ope.fld rfl rfl ?_)
      refine Dra.on' rfl rfl rfl rfl rfl .sure (Ope.load rfl rfl ?_)
      refine Dra.on' rfl rfl rfl rfl rfl .sure (Ope.sub rfl rfl (by omega) ?_)
      refine Dra.on' rfl rfl rfl rfl rfl .sure (Ope.ge rfl rfl ?_)
      refine Dra.op' rfl rfl rfl .sure (Ope.pickT rfl rfl ?_)
      refine Dra.nil (Run.condX rfl (fun hc=>?_) fun hc=>?_)
      ·refine Run.region (cx_ok _ _ _) (Reg.op rfl (Ope.mov rfl ?_))
       refine Reg.op rfl (Ope.fld rfl rfl ?_)
       refine Reg.op rfl (Ope.load rfl rfl ?_)
       refine Reg.op rfl (Ope.add rfl rfl (by omega) ?_)
       refine Reg.op rfl (Ope.asg rfl ?_)
       refine Reg.nil (Run.bend (Run.region (cx_ok _ _ _) (Reg.op rfl (Ope.mov rfl ?_))))
       refine Reg.op rfl (Ope.add rfl rfl (by omega) ?_)
       refine Reg.op rfl (Ope.asg rfl ?_)
       refine Reg.nil ?_
       first
       | exact Run.lend ⟨i+1,by omega,by omega,⟨rfl,rfl,rfl,rfl,by rw [hzi,hCi,if_pos (decide_eq_true (by simp only at *;omega))];show some (I (ba+z i+st))=some (I (ba+(z i+st)));rw [Int.add_assoc],rfl,trivial⟩,rfl,rfl⟩
       | exact Run.lend ⟨i+1,by omega,by omega,⟨rfl,rfl,rfl,rfl,by rw [hzi,hCi,if_neg (by rw [decide_eq_true_eq];simp only at *;omega)];show some (I (ba+z i))=some (I (ba+(z i+0)));rw [Int.add_zero],rfl,trivial⟩,rfl,rfl⟩
      ·refine Run.skip (Run.bend (Run.region (cx_ok _ _ _) (Reg.op rfl (Ope.mov rfl ?_))))
       refine Reg.op rfl (Ope.add rfl rfl (by omega) ?_)
       refine Reg.op rfl (Ope.asg rfl ?_)
       refine Reg.nil ?_
       first
       | exact Run.lend ⟨i+1,by omega,by omega,⟨rfl,rfl,rfl,rfl,by rw [hzi,hCi,if_pos (decide_eq_true (by simp only at *;omega))];show some (I (ba+z i+st))=some (I (ba+(z i+st)));rw [Int.add_assoc],rfl,trivial⟩,rfl,rfl⟩
       | exact Run.lend ⟨i+1,by omega,by omega,⟨rfl,rfl,rfl,rfl,by rw [hzi,hCi,if_neg (by rw [decide_eq_true_eq];simp only at *;omega)];show some (I (ba+z i))=some (I (ba+(z i+0)));rw [Int.add_zero],rfl,trivial⟩,rfl,rfl⟩
     ·refine Dra.off' rfl rfl rfl (.inl rfl) rfl (Dra.off' rfl rfl rfl (.inl rfl) rfl (Dra.off' rfl rfl rfl (.inl rfl) rfl (Dra.off' rfl rfl rfl (.inl rfl) rfl (Dra.off' rfl rfl rfl (.inl rfl) rfl (Dra.off' rfl rfl rfl (.inl rfl) rfl (Dra.off' rfl rfl rfl (.inl rfl) rfl (Dra.off' rfl rfl rfl (.inl rfl) rfl (Dra.off' rfl rfl rfl (.inl rfl) rfl (Dra.off' rfl rfl rfl (.inl rfl) rfl (Dra.off' rfl rfl rfl (.inl rfl) rfl (Dra.off' rfl rfl rfl (.inl rfl) rfl (Dra.off' rfl rfl rfl (.inl rfl) rfl (Dra.off' rfl rfl rfl (.inl rfl) rfl (Dra.op' rfl rfl rfl .sure (Ope.pickF rfl rfl ?_)))))))))))))))
      refine Dra.nil (Run.condF rfl (Run.skip (Run.bend (Run.region (cx_ok _ _ _) (Reg.op rfl (Ope.mov rfl ?_))))))
      refine Reg.op rfl (Ope.add rfl rfl (by omega) ?_)
      refine Reg.op rfl (Ope.asg rfl ?_)
      refine Reg.nil ?_
      first
      | exact Run.lend ⟨i+1,by omega,by omega,⟨rfl,rfl,rfl,rfl,by rw [hzi,hCi,if_pos (decide_eq_true (by simp only at *;omega))];show some (I (ba+z i+st))=some (I (ba+(z i+st)));rw [Int.add_assoc],rfl,trivial⟩,rfl,rfl⟩
      | exact Run.lend ⟨i+1,by omega,by omega,⟨rfl,rfl,rfl,rfl,by rw [hzi,hCi,if_neg (by rw [decide_eq_true_eq];simp only at *;omega)];show some (I (ba+z i))=some (I (ba+(z i+0)));rw [Int.add_zero],rfl,trivial⟩,rfl,rfl⟩
    ·refine Dra.off' rfl rfl rfl (.inl rfl) rfl (Dra.off' rfl rfl rfl (.inl rfl) rfl (Dra.off' rfl rfl rfl (.inl rfl) rfl (Dra.off' rfl rfl rfl (.inl rfl) rfl (Dra.op' rfl rfl rfl .sure (Ope.pickF rfl rfl ?_)))))
     refine Dra.op' rfl rfl rfl .sure (Ope.mov rfl ?_)
     refine Dra.off' rfl rfl rfl (.inl rfl) rfl (Dra.off' rfl rfl rfl (.inl rfl) rfl (Dra.off' rfl rfl rfl (.inl rfl) rfl (Dra.off' rfl rfl rfl (.inl rfl) rfl (Dra.off' rfl rfl rfl (.inl rfl) rfl (Dra.off' rfl rfl rfl (.inl rfl) rfl (Dra.off' rfl rfl rfl (.inl rfl) rfl (Dra.off' rfl rfl rfl (.inl rfl) rfl (Dra.off' rfl rfl rfl (.inl rfl) rfl (Dra.off' rfl rfl rfl (.inl rfl) rfl (Dra.off' rfl rfl rfl (.inl rfl) rfl (Dra.off' rfl rfl rfl (.inl rfl) rfl (Dra.off' rfl rfl rfl (.inl rfl) rfl (Dra.off' rfl rfl rfl (.inl rfl) rfl (Dra.op' rfl rfl rfl .sure (Ope.pickF rfl rfl ?_)))))))))))))))
     refine Dra.nil (Run.condF rfl (Run.skip (Run.bend (Run.region (cx_ok _ _ _) (Reg.op rfl (Ope.mov rfl ?_))))))
     refine Reg.op rfl (Ope.add rfl rfl (by omega) ?_)
     refine Reg.op rfl (Ope.asg rfl ?_)
     refine Reg.nil ?_
     first
     | exact Run.lend ⟨i+1,by omega,by omega,⟨rfl,rfl,rfl,rfl,by rw [hzi,hCi,if_pos (decide_eq_true (by simp only at *;omega))];show some (I (ba+z i+st))=some (I (ba+(z i+st)));rw [Int.add_assoc],rfl,trivial⟩,rfl,rfl⟩
     | exact Run.lend ⟨i+1,by omega,by omega,⟨rfl,rfl,rfl,rfl,by rw [hzi,hCi,if_neg (by rw [decide_eq_true_eq];simp only at *;omega)];show some (I (ba+z i))=some (I (ba+(z i+0)));rw [Int.add_zero],rfl,trivial⟩,rfl,rfl⟩
   ·refine Dra.off' rfl rfl rfl (.inl rfl) rfl (Dra.off' rfl rfl rfl (.inl rfl) rfl (Dra.off' rfl rfl rfl (.inl rfl) rfl (Dra.off' rfl rfl rfl (.inl rfl) rfl (Dra.off' rfl rfl rfl (.inl rfl) rfl (Dra.off' rfl rfl rfl (.inl rfl) rfl (Dra.off' rfl rfl rfl (.inl rfl) rfl (Dra.off' rfl rfl rfl (.inl rfl) rfl (Dra.off' rfl rfl rfl (.inl rfl) rfl (Dra.off' rfl rfl rfl (.inl rfl) rfl (Dra.off' rfl rfl rfl (.inl rfl) rfl (Dra.op' rfl rfl rfl .sure (Ope.pickF rfl rfl ?_))))))))))))
    refine Dra.op' rfl rfl rfl .sure (Ope.mov rfl ?_)
    refine Dra.off' rfl rfl rfl (.inl rfl) rfl (Dra.off' rfl rfl rfl (.inl rfl) rfl (Dra.off' rfl rfl rfl (.inl rfl) rfl (Dra.off' rfl rfl rfl (.inl rfl) rfl (Dra.op' rfl rfl rfl .sure (Ope.pickF rfl rfl ?_)))))
    refine Dra.op' rfl rfl rfl .sure (Ope.mov rfl ?_)
    refine Dra.off' rfl rfl rfl (.inl rfl) rfl (Dra.off' rfl rfl rfl (.inl rfl) rfl (Dra.off' rfl rfl rfl (.inl rfl) rfl (Dra.off' rfl rfl rfl (.inl rfl) rfl (Dra.off' rfl rfl rfl (.inl rfl) rfl (Dra.off' rfl rfl rfl (.inl rfl) rfl (Dra.off' rfl rfl rfl (.inl rfl) rfl (Dra.off' rfl rfl rfl (.inl rfl) rfl (Dra.off' rfl rfl rfl (.inl rfl) rfl (Dra.off' rfl rfl rfl (.inl rfl) rfl (Dra.off' rfl rfl rfl (.inl rfl) rfl (Dra.off' rfl rfl rfl (.inl rfl) rfl (Dra.off' rfl rfl rfl (.inl rfl) rfl (Dra.off' rfl rfl rfl (.inl rfl) rfl (Dra.op' rfl rfl rfl .sure (Ope.pickF rfl rfl ?_)))))))))))))))
    refine Dra.nil (Run.condF rfl (Run.skip (Run.bend (Run.region (cx_ok _ _ _) (Reg.op rfl (Ope.mov rfl ?_))))))
    refine Reg.op rfl (Ope.add rfl rfl (by omega) ?_)
    refine Reg.op rfl (Ope.asg rfl ?_)
    refine Reg.nil ?_
    first
    | exact Run.lend ⟨i+1,by omega,by omega,⟨rfl,rfl,rfl,rfl,by rw [hzi,hCi,if_pos (decide_eq_true (by simp only at *;omega))];show some (I (ba+z i+st))=some (I (ba+(z i+st)));rw [Int.add_assoc],rfl,trivial⟩,rfl,rfl⟩
    | exact Run.lend ⟨i+1,by omega,by omega,⟨rfl,rfl,rfl,rfl,by rw [hzi,hCi,if_neg (by rw [decide_eq_true_eq];simp only at *;omega)];show some (I (ba+z i))=some (I (ba+(z i+0)));rw [Int.add_zero],rfl,trivial⟩,rfl,rfl⟩
  ·refine Run.exit (Jmp.code (Jmp.round (Jmp.here (Run.seq ?_))))
   obtain rfl:i=li.length:=by omega
   refine Run.region (cx_ok _ _ _) (Reg.op rfl (Ope.mov rfl ?_))
   refine Reg.op rfl (Ope.fld rfl rfl ?_)
   refine Reg.op rfl (Ope.load rfl rfl ?_)
   refine Reg.op rfl (Ope.minI rfl rfl ?_)
   refine Reg.op rfl (Ope.asg rfl ?_)
   exact Reg.nil (Run.ret (fin_ret (.tmp rfl .nil) rfl rfl))
end
end Go.Pv
namespace Go.Pv
open Go.Proofs Go.Am
set_option maxRecDepth 10000
set_option maxHeartbeats 4000000
def hstp (e:Spn) (y:Int):Spn:=⟨min e.lo y,max e.hi y⟩
theorem hull_two (x:Int) (xs:List Int):(x::xs).foldl hstp ⟨x,x⟩=hullL (x::xs):=by
  show xs.foldl hstp ⟨min x x,max x x⟩=xs.foldl _ ⟨x,x⟩
  rw [Int.min_self,Int.max_self]
  rfl
theorem f46 (tl:Tail) (htl:tl.isOwn=false) (xs:List Int) (hne:xs≠[]) (hl:xs.length≤2000000):Fn P0 46 [.sl tl (xs.map I)] (hullL xs).v:=by
  obtain ⟨x,ys,rfl⟩:=List.exists_cons_of_ne_nil hne
  have h0:0 < (x::ys).length:=by simp
  have hz:=hull_two x ys
  obtain ⟨E,hE⟩:∃ E:Nat→Spn,E=fun i=>((x::ys).take i).foldl hstp ⟨x,x⟩:=⟨_,rfl⟩
  have hE0:E 0=⟨x,x⟩:=by rw [hE];rfl
  have hEs:∀ i (h:i < (x::ys).length),E (i+1)=hstp (E i) (x::ys)[i]:=fun i h=>by
    rw [hE]
    show ((x::ys).take (i+1)).foldl hstp ⟨x,x⟩=_
    rw [List.take_succ_eq_append_getElem h,List.foldl_append]
    rfl
  have hEn:E (x::ys).length=hullL (x::ys):=by rw [hE,← hz];show ((x::ys).take _).foldl _ _=_;rw [List.take_length]
  rw [← hEn]
  have hx0:(x::ys)[0]=x:=rfl
  generalize x::ys=L at *
  clear hz hEn hE
  refine PFun.of (C:=c46) (cx_ok _ _ _) rfl (fn:=Tryz.f46) (by kernel_rfl) (c:=_) rfl rfl rfl ?_
  refine Run.seq (Run.region (cx_ok _ _ _) (Reg.op rfl (Ope.newL rfl ?_)))
  refine Reg.nil (Run.seq (Run.draw (cx_ok _ _ _) [(0,true),(1,true),(2,false),(3,true),(4,true),(5,false),(6,true),(7,true),(8,true)] (by kernel_rfl) (Dra.op' rfl rfl rfl .sure (Ope.mov rfl ?_))))
  refine Dra.op' rfl rfl rfl .sure (Ope.idxM (m:=0) (f:=I) rfl rfl rfl h0 (fun _=>rfl) ?_)
  refine Dra.op' rfl rfl rfl (.load rfl) (Ope.load rfl rfl ?_)
  refine Dra.op' rfl rfl rfl .sure (Ope.mov rfl ?_)
  refine Dra.op' rfl rfl rfl .sure (Ope.idxM (m:=0) (f:=I) rfl rfl rfl h0 (fun _=>rfl) ?_)
  refine Dra.op' rfl rfl rfl (.load rfl) (Ope.load rfl rfl ?_)
  refine Dra.op' rfl rfl rfl .sure (Ope.bld rfl rfl ?_)
  refine Dra.op' rfl rfl rfl .sure (Ope.newL rfl ?_)
  refine Dra.op' rfl rfl rfl .sure (Ope.store rfl rfl hget_hd rfl rfl rfl ?_)
  refine Dra.nil (Run.seq (Run.seq (Run.region (cx_ok _ _ _) (Reg.op rfl (Ope.asg rfl ?_)))))
  refine Reg.nil (Run.block (Run.wide (m:=2) (l':=[(1,some (.cells [I (E 0).lo,I (E 0).hi])),(0,some (.cells [I 0,I 0]))]) (Nat.le_refl _) ⟨hget_hd.trans (by rw [hE0,hx0]),rfl,trivial⟩ ?_))
  refine Run.loop (α:=Nat) (fun i=>[(0,.sl tl (L.map I)),(2,.ptr 0 0),(3,.ptr 1 0),(4,I i)]) (fun i=>HE 2 [(1,some (.cells [I (E i).lo,I (E i).hi])),(0,some (.cells [I 0,I 0]))]) (fun i=>i≤L.length) (fun i=>L.length - i) 0 ⟨rfl,rfl,rfl,rfl,trivial⟩ rfl (Nat.zero_le _) (fun i hi=>?_)
  refine Run.seq (Run.seq (Run.region (cx_ok _ _ _) (Reg.op rfl (Ope.mov rfl ?_))))
  refine Reg.op rfl (Ope.mov rfl ?_)
  refine Reg.op rfl (Ope.len (m:=L.length) rfl (by simp) ?_)
  refine Reg.op rfl (Ope.lt rfl rfl ?_)
  refine Reg.nil (Run.condX rfl (fun hc=>?_) fun hc=>?_)
  ·refine Run.skip (Run.seq (Run.block ?_))
   have hil:i < L.length:=by omega
   have hs:=hEs i hil
   refine Run.draw (cx_ok _ _ _) [(0,true),(1,true),(2,true),(3,true),(4,true),(5,true),(6,true),(7,true),(8,true),(9,true),(10,true),(11,true),(12,true),(13,true),(14,true),(15,true)] (by kernel_rfl) (Dra.op' rfl rfl rfl .sure (Ope.fld rfl rfl ?_))
   refine Dra.op' rfl rfl rfl .sure (Ope.load rfl rfl ?_)
   refine Dra.op' rfl rfl rfl .sure (Ope.mov rfl ?_)
   refine Dra.op' rfl rfl rfl .sure (Ope.mov rfl ?_)
   refine Dra.op' rfl rfl rfl .sure (Ope.idxM (m:=i) (f:=I) rfl rfl rfl hil (fun _=>rfl) ?_)
   refine Dra.op' rfl rfl rfl .sure (Ope.load rfl rfl ?_)
   refine Dra.op' rfl rfl rfl .sure (Ope.minI rfl rfl ?_)
   refine Dra.op' rfl rfl rfl .sure (Ope.fld rfl rfl ?_)
   refine Dra.op' rfl rfl rfl .sure (Ope.load rfl rfl ?_)
   refine Dra.op' rfl rfl rfl .sure (Ope.mov rfl ?_)
   refine Dra.op' rfl rfl rfl .sure (Ope.mov rfl ?_)
   refine Dra.op' rfl rfl rfl .sure (Ope.idxM (m:=i) (f:=I) rfl rfl rfl hil (fun _=>rfl) ?_)
   refine Dra.op' rfl rfl rfl .sure (Ope.load rfl rfl ?_)
   refine Dra.op' rfl rfl rfl .sure (Ope.maxI rfl rfl ?_)
   refine Dra.op' rfl rfl rfl .sure (Ope.bld rfl rfl ?_)
   refine Dra.op' rfl rfl rfl .sure (Ope.store rfl rfl hget_hd rfl rfl rfl ?_)
   refine Dra.nil (Run.bend (Run.wide (m:=2) (l':=[(1,some (.cells [I (E (i+1)).lo,I (E (i+1)).hi])),(0,some (.cells [I 0,I 0]))]) (Nat.le_refl _) ⟨hget_hd.trans (by rw [hs];rfl),rfl,trivial⟩ ?_))
   refine Run.region (cx_ok _ _ _) (Reg.op rfl (Ope.mov rfl ?_))
   refine Reg.op rfl (Ope.add rfl rfl (by omega) ?_)
   refine Reg.op rfl (Ope.asg rfl ?_)
   exact Reg.nil (Run.lend ⟨i+1,by omega,by omega,⟨rfl,rfl,rfl,rfl,trivial⟩,rfl,rfl⟩)
  ·refine Run.exit (Jmp.code (Jmp.round (Jmp.here (Run.seq ?_))))
   obtain rfl:i=L.length:=by omega
   refine Run.region (cx_ok _ _ _) (Reg.op rfl (Ope.load rfl rfl ?_))
   refine Reg.op0 (Ope.store rfl rfl rfl rfl rfl rfl ?_)
   exact Reg.nil (Run.ret (fin_ret (.cell rfl rfl .nil) rfl rfl))
section
variable (f:Fns) {t1 t2:Tail} (h1:t1.isOwn=false) (h2:t2.isOwn=false)
include h1 h2
def rdB (f:Fns) (n:Int):Bool:=inB n 0 (Go.Am.fwrap IntKind.i64 (f.n - 1))
omit h1 h2 in
theorem rdB_ok {f:Fns} (hf:f.ok) (n:Int):rdB f n=numB f.n n:=by
  have hn:=hf.n
  unfold rdB inB numB
  rw [Go.Am.fwrap_eq,wrap_in _ (by omega) (by omega)]
  congr 1
  exact decide_eq_decide.2 (by omega)
theorem f49 (n:Int):Fn P0 49 [f.v t1 t2,I n] (B (rdB f n)):=by
  have hin:=f44 n 0 (Go.Am.fwrap IntKind.i64 (f.n - 1))
  refine PFun.of (C:=c49) (cx_ok _ _ _) rfl (fn:=Tryz.f49) (by kernel_rfl) (c:=_) rfl rfl rfl ?_
  refine Run.seq (Run.region (cx_ok _ _ _) (Reg.op rfl (Ope.boxF rfl rfl ?_)))
  refine Reg.op rfl (Ope.asg rfl ?_)
  refine Reg.nil (Run.seq (Run.region (cx_ok _ _ _) (Reg.op rfl (Ope.mov rfl ?_))))
  refine Reg.op rfl (Ope.fld rfl rfl ?_)
  refine Reg.op rfl (Ope.load rfl rfl ?_)
  refine Reg.op rfl (Ope.bin rfl rfl rfl ?_)
  refine Reg.op rfl (Ope.cf rfl rfl hin rfl ?_)
  refine Reg.op rfl (Ope.asg rfl ?_)
  exact Reg.nil (Run.ret (fin_ret (.tmp rfl .nil) rfl rfl))
def ckI (f:Fns) (b:Bool):Int:=if f.B=true then (if b=true then 0 else 2) else 1
theorem f43 (hS:f.ru.length≤9223372036854775807) (hJ:f.li.length≤9223372036854775807) (b:Bool):Fn P0 43 [f.v t1 t2,B b] (I (ckI f b)):=by
  have hfi:=f26 f h1 h2 hS hJ
  have hb0:PV.bds 0 [f.v t1 t2]=true:=bd_fnsV f h1 h2 rfl
  unfold ckI
  generalize f.B=y at *
  refine PFun.of (C:=c43) (cx_ok _ _ _) rfl (fn:=Tryz.f43) (by kernel_rfl) (c:=_) rfl rfl rfl ?_
  refine Run.seq (Run.region (cx_ok _ _ _) (Reg.op rfl (Ope.boxF rfl rfl ?_)))
  refine Reg.op rfl (Ope.asg rfl ?_)
  refine Reg.nil (Run.seq (Run.seq (Run.region (cx_ok _ _ _) (Reg.op rfl (Ope.load rfl rfl ?_)))))
  refine Reg.op rfl (Ope.cf rfl rfl hfi hb0 ?_)
  refine Reg.op rfl (Ope.not rfl ?_)
  refine Reg.nil (Run.condX rfl (fun hc=>?_) fun hc=>?_)
  ·refine Run.seq (Run.region (cx_ok _ _ _) (Reg.op rfl (Ope.asg rfl ?_)))
   refine Reg.nil (Run.ret (Jmp.code (fin_ret (.tmp rfl .nil) rfl ?_)))
   (refine congrArg I ?_;simp_all)
  ·refine Run.skip (Run.seq (Run.seq (Run.region (cx_ok _ _ _) (Reg.op rfl (Ope.mov rfl ?_)))))
   refine Reg.op rfl (Ope.not rfl ?_)
   refine Reg.nil (Run.condX rfl (fun hc=>?_) fun hc=>?_)
   ·refine Run.seq (Run.region (cx_ok _ _ _) (Reg.op rfl (Ope.asg rfl ?_)))
    refine Reg.nil (Run.ret (Jmp.code (fin_ret (.tmp rfl .nil) rfl ?_)))
    (refine congrArg I ?_;simp_all)
   ·refine Run.skip (Run.seq (Run.region (cx_ok _ _ _) (Reg.op rfl (Ope.asg rfl ?_))))
    refine Reg.nil (Run.ret (fin_ret (.tmp rfl .nil) rfl ?_))
    (refine congrArg I ?_;simp_all)
def sF (f:Fns) (r:Int) (RI HO:List Int) (i:Nat):Int:=isum ((List.range i).map fun k=>if RI.getD k 0=r then cR f RI HO k else 0)
omit h1 h2 in
theorem sum_range (g:Nat→Int) (i:Nat):isum ((List.range (i+1)).map g)=isum ((List.range i).map g)+g i:=by
  rw [List.range_succ,List.map_append,isum_app]
  simp [isum]
theorem f50 (hf:f.ok) (RI HO:List Int) (hR:RI.length=f.li.length) (hH:HO.length=f.li.length) (hHb:∀ x∈HO,0≤x∧x≤144) (r:Int):Fn P0 50 [f.v t1 t2,tR .no .no RI HO,I r] (I (sF f r RI HO f.li.length)):=by
  have hl5:=hf.li
  have hco:=fun n hn=>f45 f h1 h2 hf .no .no rfl rfl RI HO hR hH hHb n hn
  have hbt:∀ a:Nat,PV.bds 0 [f.v t1 t2,tR .no .no RI HO,N a]=true:=fun a=>bd_fnsV f h1 h2 (bds_cons (bd_agg (bds_cons (bd_sl (f:=I) (tl:=.no) rfl (fun _=>rfl) _) (bds_cons (bd_sl (f:=I) (tl:=.no) rfl (fun _=>rfl) _) rfl))) rfl)
  have hcb:=fun n=>cR_bd hf RI HO n
  obtain ⟨z,hz⟩:∃ z:Nat→Int,sF f r RI HO=z:=⟨_,rfl⟩
  have hz0:z 0=0:=by rw [← hz];rfl
  have hzs:∀ i (h:i < RI.length),z (i+1)=z i+if RI[i]=r then cR f RI HO i else 0:=fun i h=>by
    rw [← hz]
    unfold sF
    rw [sum_range,show RI.getD i 0=RI[i] from by simp [List.getD,h]]
  have hzb:∀ i:Nat,i≤RI.length→0≤z i∧z i≤1000 * i:=fun i=>by
    induction i with
    | zero=>intro _;rw [hz0];exact ⟨by decide,by decide⟩
    | succ i ih =>
      intro hi
      have h1:=ih (by omega)
      have h2:=hcb i
      rw [hzs i (by omega)]
      split<;>constructor<;>push_cast<;>omega
  rw [hz]
  generalize cR f RI HO=c at *
  clear hz
  obtain ⟨ru,nn,li⟩:=f
  simp only at hl5 hR hH hco ⊢
  clear hf
  refine PFun.of (C:=c50) (cx_ok _ _ _) rfl (fn:=Tryz.f50) (by kernel_rfl) (c:=_) rfl rfl rfl ?_
  refine Run.seq (Run.region (cx_ok _ _ _) (Reg.op rfl (Ope.boxF rfl rfl ?_)))
  refine Reg.op rfl (Ope.boxF rfl rfl ?_)
  refine Reg.op rfl (Ope.asg rfl ?_)
  refine Reg.nil (Run.seq (Run.region (cx_ok _ _ _) (Reg.op rfl (Ope.asg rfl ?_))))
  refine Reg.nil (Run.seq (Run.seq (Run.region (cx_ok _ _ _) (Reg.op rfl (Ope.asg rfl ?_)))))
  refine Reg.nil (Run.block (Run.loop (α:=Nat) (fun i=>[(2,I r),(3,.fp ((⟨ru,nn,li⟩:Fns).v t1 t2)),(4,.fp (tR .no .no RI HO)),(7,I (z i)),(8,I i)]) (fun i=>HE 0 []) (fun i=>i≤li.length) (fun i=>li.length - i) 0 ⟨rfl,rfl,rfl,by rw [hz0];rfl,rfl,trivial⟩ rfl (Nat.zero_le _) (fun i hi=>?_)))
  refine Run.seq (Run.seq (Run.region (cx_ok _ _ _) (Reg.op rfl (Ope.mov rfl ?_))))
  refine Reg.op rfl (Ope.fld rfl rfl ?_)
  refine Reg.op rfl (Ope.load rfl rfl ?_)
  refine Reg.op rfl (Ope.len (m:=li.length) rfl (by simp) ?_)
  refine Reg.op rfl (Ope.lt rfl rfl ?_)
  refine Reg.nil (Run.condX rfl (fun hc=>?_) fun hc=>?_)
  ·refine Run.skip (Run.seq (Run.block (Run.seq ?_)))
   have hil:i < li.length:=by omega
   have hiR:i < RI.length:=by omega
   have hzi:=hzs i hiR
   have hzB:=hzb i (by omega)
   have hcB:=hcb i
   have hci:=hco i hil
   refine Run.region (cx_ok _ _ _) (Reg.op rfl (Ope.fld rfl rfl ?_))
   refine Reg.op rfl (Ope.load rfl rfl ?_)
   refine Reg.op rfl (Ope.mov rfl ?_)
   refine Reg.op rfl (Ope.idxM (m:=i) (f:=I) rfl rfl rfl hiR (fun _=>rfl) ?_)
   refine Reg.op rfl (Ope.load rfl rfl ?_)
   refine Reg.op rfl (Ope.mov rfl ?_)
   refine Reg.op rfl (Ope.eq rfl rfl ?_)
   refine Reg.nil (Run.condX rfl (fun hc=>?_) fun hc=>?_)
   ·refine Run.region (cx_ok _ _ _) (Reg.op rfl (Ope.mov rfl ?_))
    refine Reg.op rfl (Ope.load rfl rfl ?_)
    refine Reg.op rfl (Ope.load rfl rfl ?_)
    refine Reg.op rfl (Ope.mov rfl ?_)
    refine Reg.op rfl (Ope.cf rfl rfl hci (hbt _) ?_)
    refine Reg.op rfl (Ope.add rfl rfl (by omega) ?_)
    refine Reg.op rfl (Ope.asg rfl ?_)
    refine Reg.nil (Run.bend (Run.region (cx_ok _ _ _) (Reg.op rfl (Ope.mov rfl ?_))))
    refine Reg.op rfl (Ope.add rfl rfl (by omega) ?_)
    refine Reg.op rfl (Ope.asg rfl ?_)
    refine Reg.nil ?_
    first
    | exact Run.lend ⟨i+1,by omega,by omega,⟨rfl,rfl,rfl,by rw [hzi,if_pos (by first | exact hc | omega)];rfl,rfl,trivial⟩,rfl,rfl⟩
    | exact Run.lend ⟨i+1,by omega,by omega,⟨rfl,rfl,rfl,by rw [hzi,if_neg (by first | exact hc | omega),Int.add_zero];rfl,rfl,trivial⟩,rfl,rfl⟩
   ·refine Run.skip (Run.bend (Run.region (cx_ok _ _ _) (Reg.op rfl (Ope.mov rfl ?_))))
    refine Reg.op rfl (Ope.add rfl rfl (by omega) ?_)
    refine Reg.op rfl (Ope.asg rfl ?_)
    refine Reg.nil ?_
    first
    | exact Run.lend ⟨i+1,by omega,by omega,⟨rfl,rfl,rfl,by rw [hzi,if_pos (by first | exact hc | omega)];rfl,rfl,trivial⟩,rfl,rfl⟩
    | exact Run.lend ⟨i+1,by omega,by omega,⟨rfl,rfl,rfl,by rw [hzi,if_neg (by first | exact hc | omega),Int.add_zero];rfl,rfl,trivial⟩,rfl,rfl⟩
  ·refine Run.exit (Jmp.code (Jmp.round (Jmp.here (Run.seq ?_))))
   obtain rfl:i=li.length:=by omega
   refine Run.region (cx_ok _ _ _) (Reg.op rfl (Ope.mov rfl ?_))
   refine Reg.op rfl (Ope.asg rfl ?_)
   exact Reg.nil (Run.ret (fin_ret (.tmp rfl .nil) rfl rfl))
end
end Go.Pv
namespace Go.Pv
open Go.Proofs Go.Am
set_option maxRecDepth 10000
set_option maxHeartbeats 4000000
theorem cR_tru {f:Fns} {T:List Deed} (h:f.Tru T) {k:Nat} (hk:k < T.length):cR f (T.map Deed.ri) (T.map Deed.ho) k=f.cin T T[k]:=by
  have hd:=dl_tru h
  have hl:k < (f.exa (f.dl (T.map Deed.ri) (T.map Deed.ho) f.li.length)).length:=by rw [hd];unfold Fns.exa;rw [List.length_map];exact hk
  rw [← cR_exa f (T.map Deed.ri) (T.map Deed.ho) hl]
  simp only [hd,Fns.exa,List.getElem_map]
theorem getD_map (T:List Deed) (g:Deed→Int) {k:Nat} (h:k < T.length):(T.map g).getD k 0=g T[k]:=by simp [List.getD,h]
theorem sF_tru {f:Fns} {T:List Deed} (h:f.Tru T) (r:Int):sF f r (T.map Deed.ri) (T.map Deed.ho) f.li.length=f.val (gF r) T:=by
  unfold sF Fns.val
  congr 1
  refine List.ext_getElem (by simp [h.ln]) fun k a b=>?_
  have hk:k < T.length:=by simpa using b
  rw [List.getElem_map,List.getElem_map,List.getElem_range,cR_tru h hk,getD_map T Deed.ri hk]
  rfl
theorem tru_ho {f:Fns} (hf:f.ok) {T:List Deed} (h:f.Tru T):∀ x∈T.map Deed.ho,0≤x∧x≤144:=(kno_of (kn_tru hf h)).h
theorem truL_le {f:Fns} (hf:f.ok):(f.truN f.li.length).length≤1889568:=by
  have h9:=gon_le hf f.li.length [] (by simp)
  rw [gon_all] at h9
  have:=Nat.pow_le_pow_right (n:=18) (by decide) hf.li
  omega
theorem hs_own0 {o:Option Nat} {c:Option PBlk} (h:∀ j,o=some j→1≤j):∀ x b,hget ([(0,c)]:HL) x=some b→hget (ownU o++[(0,c)]) x=some b:=by
  intro x b hb
  cases o with
  | none=>exact hb
  | some j =>
    have hj:=h j rfl
    by_cases hx:x=0
    · subst hx
      exact (hget_tl (by omega)).trans hb
    · rw [hget_tl hx] at hb
      cases hb
section
variable (f:Fns) {t1 t2:Tail} (h1:t1.isOwn=false) (h2:t2.isOwn=false)
include h1 h2
theorem f16v (hf:f.ok) (n:Nat) (hn:(n:Int) < f.n):Fn P0 16 [f.v t1 t2,N n] (.tup [(f.spn (gF (n:Int))).v,I 0]):=by
  have hv:=fns_B f hf
  have hl5:=hf.li
  have hr4:=hf.ru
  have hS:f.ru.length≤9223372036854775807:=by omega
  have hJ:f.li.length≤9223372036854775807:=by omega
  have hck:=f43 f h1 h2 hS hJ true
  rw [show ckI f true=0 from by unfold ckI;rw [if_pos hv,if_pos rfl]] at hck
  have hbc:PV.bds 0 [f.v t1 t2,B true]=true:=bd_fnsV f h1 h2 rfl
  have hb0:PV.bds 0 [f.v t1 t2]=true:=bd_fnsV f h1 h2 rfl
  have htr:=f31 f h1 h2 hf
  have hLm:=truL_le hf
  have hbt:∀ (T:List Deed) (k:Nat),PV.bds 0 [f.v t1 t2,tV T,N k]=true:=fun T k=>bd_fnsV f h1 h2 (bds_cons (bd_agg (bds_cons (bd_sl (f:=I) (tl:=.no) rfl (fun _=>rfl) _) (bds_cons (bd_sl (f:=I) (tl:=.no) rfl (fun _=>rfl) _) rfl))) rfl)
  have hbl:∀ xs:List Int,PV.bds 0 [.sl .no (xs.map I)]=true:=fun xs=>bds_cons (bd_sl (f:=I) (tl:=.no) rfl (fun _=>rfl) _) rfl
  have hrd:=f49 f h1 h2 (n:Int)
  rw [rdB_ok hf,show numB f.n (n:Int)=true from by unfold numB;rw [decide_eq_true (by omega),decide_eq_true hn];rfl] at hrd
  have hbn:PV.bds 0 [f.v t1 t2,N n]=true:=bd_fnsV f h1 h2 rfl
  have hn6:n < 6:=by have:=hf.n;omega
  obtain ⟨V,hV⟩:∃ V:List Deed→Int,V=f.val (gF (n:Int)):=⟨_,rfl⟩
  have hsp:f.spn (gF (n:Int))=hullL ((f.truN f.li.length).map V):=by rw [hV];exact spn_c hf (gF_ok _)
  have hco:∀ T∈f.truN f.li.length,Fn P0 50 [f.v t1 t2,tV T,N n] (I (V T)):=fun T hT=>by
    have hT:=truN_tru.1 hT
    rw [hV]
    have h:=f50 f h1 h2 hf (T.map Deed.ri) (T.map Deed.ho) (by rw [List.length_map,hT.ln]) (by rw [List.length_map,hT.ln]) (tru_ho hf hT) (n:Int)
    rw [sF_tru hT] at h
    exact h
  have hne:(f.truN f.li.length).map V≠[]:=by
    obtain ⟨T,hT⟩:=tru_some hf
    exact List.ne_nil_of_mem (List.mem_map_of_mem (truN_tru.2 hT))
  have hhu:=f46 .no rfl ((f.truN f.li.length).map V) hne (by rw [List.length_map];omega)
  rw [hsp]
  generalize f.truN f.li.length=L at *
  generalize hullL (L.map V)=E at *
  clear hV hsp hne
  refine PFun.of (C:=c16) (cx_ok _ _ _) rfl (fn:=Tryz.f16) (by kernel_rfl) (c:=_) rfl rfl rfl ?_
  refine Run.seq (Run.region (cx_ok _ _ _) (Reg.op rfl (Ope.boxF rfl rfl ?_)))
  refine Reg.op rfl (Ope.newL rfl ?_)
  refine Reg.op rfl (Ope.asg rfl ?_)
  refine Reg.nil (Run.seq (Run.draw (cx_ok _ _ _) [(0,false),(1,true),(2,true),(3,true),(4,true),(5,true)] (by kernel_rfl) (Dra.op' rfl rfl rfl (.load rfl) (Ope.load rfl rfl ?_))))
  refine Dra.op' rfl rfl rfl .sure (Ope.load rfl rfl ?_)
  refine Dra.op' rfl rfl rfl .sure (Ope.mov rfl ?_)
  refine Dra.op' rfl rfl rfl .sure (Ope.cf rfl rfl hrd hbn ?_)
  refine Dra.op' rfl rfl rfl .sure (Ope.cf rfl rfl hck hbc ?_)
  refine Dra.op' rfl rfl rfl .sure (Ope.asg rfl ?_)
  refine Dra.nil (Run.seq (Run.seq (Run.region (cx_ok _ _ _) (Reg.op rfl (Ope.mov rfl ?_)))))
  refine Reg.op rfl (Ope.neS rfl rfl ?_)
  refine Reg.nil (Run.condF rfl (Run.skip (Run.seq (Run.region (cx_ok _ _ _) (Reg.op rfl (Ope.asg rfl ?_))))))
  refine Reg.nil (Run.seq (Run.region (cx_ok _ _ _) (Reg.op rfl (Ope.load rfl rfl ?_))))
  refine Reg.op rfl (Ope.cf rfl rfl htr hb0 ?_)
  refine Reg.op rfl (Ope.asg rfl ?_)
  refine Reg.nil (Run.seq (Run.seq (Run.region (cx_ok _ _ _) (Reg.op rfl (Ope.asg rfl ?_)))))
  refine Reg.nil (Run.block (Run.loop (α:=Nat×Option Nat×Nat) (fun t=>[(1,N n),(2,.fp (f.v t1 t2)),(4,.ptr 0 0),(7,.sl (tlU t.2.1) (((L.take t.1).map V).map I)),(8,.sl .no (L.map tV)),(9,I t.1)]) (fun t=>HE t.2.2 (ownU t.2.1++[(0,some (.cells [I 0,I 0]))])) (fun t=>t.1≤L.length∧1≤t.2.2∧∀ j,t.2.1=some j→1≤j∧0 < t.1) (fun t=>L.length - t.1) (0,none,1) ⟨rfl,rfl,rfl,rfl,rfl,rfl,trivial⟩ rfl ⟨Nat.zero_le _,Nat.le_refl _,fun j hj=>by cases hj⟩ (fun t ht=>?_)))
  obtain ⟨i,o,m⟩:=t
  obtain ⟨hi,hm,hO⟩:=ht
  simp only at hi hm hO
  show Run _ _ _ _ [(1,N n),(2,.fp (f.v t1 t2)),(4,.ptr 0 0),(7,.sl (tlU o) (((L.take i).map V).map I)),(8,.sl .no (L.map tV)),(9,I i)] [] (HE m (ownU o++[(0,some (.cells [I 0,I 0]))]))
  refine Run.seq (Run.seq (Run.region (cx_ok _ _ _) (Reg.op rfl (Ope.mov rfl ?_))))
  refine Reg.op rfl (Ope.mov rfl ?_)
  refine Reg.op rfl (Ope.len (m:=L.length) rfl (by simp) ?_)
  refine Reg.op rfl (Ope.lt rfl rfl ?_)
  refine Reg.nil (Run.condX rfl (fun hc=>?_) fun hc=>?_)
  ·refine Run.skip (Run.seq (Run.block ?_))
   have hlt:i < L.length:=by omega
   have hci:=hco L[i] (List.getElem_mem hlt)
   have hts:((L.take (i+1)).map V).map I=((L.take i).map V).map I++[I (V L[i])]:=by rw [List.take_succ_eq_append_getElem hlt,List.map_append,List.map_append];rfl
   have hA:∀ j,o=some j→((L.take i).map V).map I≠[]∧hget ([(0,some (.cells [I 0,I 0]))]:HL) j=none:=fun j hj=>⟨fun e=>by
     have h9:=congrArg List.length e
     rw [List.length_map,List.length_map,List.length_take] at h9
     have h8:min i L.length=0:=h9
     have:=(hO j hj).2
     omega,(hget_tl (by have:=(hO j hj).1;omega)).trans rfl⟩
   have hll:(((L.take i).map V).map I).length≤1889568:=by rw [List.length_map,List.length_map,List.length_take];omega
   refine Run.draw (cx_ok _ _ _) [(0,true),(1,true),(2,true),(3,true),(4,true),(5,true),(6,true),(7,true),(8,true),(9,true),(10,true)] (by kernel_rfl) (Dra.op' rfl rfl rfl .sure (Ope.mov rfl ?_))
   refine Dra.op' rfl rfl rfl .sure (Ope.load rfl rfl ?_)
   refine Dra.op' rfl rfl rfl .sure (Ope.mov rfl ?_)
   refine Dra.op' rfl rfl rfl .sure (Ope.mov rfl ?_)
   refine Dra.op' rfl rfl rfl .sure (Ope.idxM (m:=i) (f:=tV) rfl rfl rfl hlt (fun _=>rfl) ?_)
   refine Dra.op' rfl rfl rfl .sure (Ope.load rfl rfl ?_)
   refine Dra.op' rfl rfl rfl .sure (Ope.mov rfl ?_)
   refine Dra.op' rfl rfl rfl .sure (Ope.cf rfl rfl hci (hbt _ _) ?_)
   refine Dra.op' rfl rfl rfl .sure (Ope.bsl rfl rfl rfl rfl ?_)
   refine Dra.op' rfl rfl rfl .sure (Ope.apU (o':=o) (vs:=((L.take i).map V).map I) (ws:=[I (V L[i])]) rfl rfl (by simp) hA (by rw [List.length_singleton];omega) (by rw [List.length_singleton];omega) (by decide) (by intro v hv;obtain ⟨_,_,rfl⟩:=List.mem_map.1 hv;rfl) (by intro v hv;simp only [List.mem_singleton] at hv;subst hv;exact ⟨rfl,rfl⟩) ?_)
   refine Dra.op' rfl rfl rfl .sure (Ope.asg rfl ?_)
   refine Dra.nil (Run.bend (Run.region (cx_ok _ _ _) (Reg.op rfl (Ope.mov rfl ?_))))
   refine Reg.op rfl (Ope.add rfl rfl (by omega) ?_)
   refine Reg.op rfl (Ope.asg rfl ?_)
   exact Reg.nil (Run.lend ⟨(i+1,some m,m+1),by show L.length - (i+1) < L.length - i;omega,⟨by show i+1≤L.length;omega,by show 1≤m+1;omega,fun j hj=>by cases hj;exact ⟨hm,by show 0 < i+1;omega⟩⟩,⟨rfl,rfl,rfl,by rw [hts];rfl,rfl,rfl,trivial⟩,rfl,rfl⟩)
  ·refine Run.exit (Jmp.code (Jmp.round (Jmp.here (Run.seq ?_))))
   obtain rfl:i=L.length:=by omega
   rw [List.take_length]
   refine Run.weakT (d:=7) rfl ?_
   refine Run.wideS (m:=m) (l':=[(0,some (.cells [I 0,I 0]))]) (Nat.le_refl _) (hs_own0 fun j hj=>(hO j hj).1) ?_
   refine Run.region (cx_ok _ _ _) (Reg.op rfl (Ope.mov rfl ?_))
   refine Reg.op rfl (Ope.cf rfl rfl hhu (hbl _) ?_)
   refine Reg.op0 (Ope.store rfl rfl hget_hd rfl rfl rfl ?_)
   refine Reg.op rfl (Ope.asg rfl ?_)
   exact Reg.nil (Run.ret (fin_ret (.cell rfl rfl (.tmp rfl .nil)) rfl rfl))
end
end Go.Pv
namespace Go.Pv
open Go.Proofs Go.Am
set_option maxRecDepth 10000
set_option maxHeartbeats 4000000
theorem cn_every:∀ l,l≤5→∀ x,x < 32→x < 2 ^ l - 1→cn x < cn (2 ^ l - 1):=by decide
theorem fst_every {f:Fns} (hf:f.ok) {r most:Int} (hm:0≤most):fstC (2 ^ f.li.length - 1) (f.wd r most (2 ^ f.li.length))=fstL (f.wd r most (2 ^ f.li.length)):=by
  have hl5:=hf.li
  have hp5:=Nat.pow_le_pow_right (n:=2) (by decide) hl5
  have hne:=wd_ne hf (r:=r) hm
  have hlt:∀ x∈f.wd r most (2 ^ f.li.length),x < 2 ^ f.li.length:=fun x hx=>(wd_mem.1 hx).1
  cases hW:f.wd r most (2 ^ f.li.length) with
  | nil=>exact absurd hW hne
  | cons x W =>
    rw [hW] at hlt
    have hx:=hlt x (by simp)
    show fstC (if cn x < cn (2 ^ f.li.length - 1) then x else 2 ^ f.li.length - 1) W=fstC (if cn x < cn x then x else x) W
    rw [if_neg (Nat.lt_irrefl _)]
    by_cases he:x=2 ^ f.li.length - 1
    · rw [he,if_neg (Nat.lt_irrefl _)]
    · rw [if_pos (cn_every f.li.length hl5 x (by omega) (by omega))]
section
variable (f:Fns) {t1 t2:Tail} (h1:t1.isOwn=false) (h2:t2.isOwn=false)
include h1 h2
theorem f25e (hS:f.ru.length≤9223372036854775807) (hJ:f.li.length≤9223372036854775807) (r most:Int) (b1 b2:Bool) (hb1:rdB f r=b1) (hb2:decide (0≤most)=b2) (he:ckI f (b1 && b2)≠0):Fn P0 25 [f.v t1 t2,I r,I most] (.tup [I 0,I (ckI f (b1 && b2))]):=by
  have hck:=f43 f h1 h2 hS hJ (b1 && b2)
  have hrd:=f49 f h1 h2 r
  rw [hb1] at hrd
  have hbr:PV.bds 0 [f.v t1 t2,I r]=true:=bd_fnsV f h1 h2 rfl
  have hbc:∀ b:Bool,PV.bds 0 [f.v t1 t2,B b]=true:=fun b=>bd_fnsV f h1 h2 rfl
  generalize ckI f (b1 && b2)=e at *
  cases b1
  case false =>
    refine PFun.of (C:=c25) (cx_ok _ _ _) rfl (fn:=Tryz.f25) (by kernel_rfl) (c:=_) rfl rfl rfl ?_
    refine Run.seq (Run.region (cx_ok _ _ _) (Reg.op rfl (Ope.boxF rfl rfl ?_)))
    refine Reg.op rfl (Ope.asg rfl ?_)
    refine Reg.op rfl (Ope.asg rfl ?_)
    refine Reg.nil (Run.seq (Run.draw (cx_ok _ _ _) [(0,false),(1,true),(2,true),(3,true),(4,true),(5,true),(6,true),(7,true),(8,true),(9,true)] (by kernel_rfl) (Dra.op' rfl rfl rfl (.load rfl) (Ope.load rfl rfl ?_))))
    refine Dra.op' rfl rfl rfl .sure (Ope.load rfl rfl ?_)
    refine Dra.op' rfl rfl rfl .sure (Ope.mov rfl ?_)
    refine Dra.op' rfl rfl rfl .sure (Ope.cf rfl rfl hrd hbr ?_)
    refine Dra.op' rfl rfl rfl .sure (Ope.mov rfl ?_)
    refine Dra.off' rfl rfl rfl (.inl rfl) rfl (Dra.off' rfl rfl rfl (.inl rfl) rfl (Dra.op' rfl rfl rfl .sure (Ope.pickF rfl rfl ?_)))
    refine Dra.op' rfl rfl rfl .sure (Ope.cf rfl rfl hck (hbc _) ?_)
    refine Dra.op' rfl rfl rfl .sure (Ope.asg rfl ?_)
    refine Dra.nil (Run.seq (Run.seq (Run.region (cx_ok _ _ _) (Reg.op rfl (Ope.mov rfl ?_)))))
    refine Reg.op rfl (Ope.ne rfl rfl ?_)
    refine Reg.nil (Run.condX rfl (fun hc=>?_) fun hc=>?_)
    ·refine Run.seq (Run.region (cx_ok _ _ _) (Reg.op rfl (Ope.mov rfl ?_)))
     refine Reg.op rfl (Ope.asg rfl ?_)
     refine Reg.op rfl (Ope.asg rfl ?_)
     exact Reg.nil (Run.ret (Jmp.code (fin_ret (.tmp rfl (.tmp rfl .nil)) rfl rfl)))
    ·(exfalso;first | exact hc he | exact absurd he (by simpa using hc))
  case true =>
    refine PFun.of (C:=c25) (cx_ok _ _ _) rfl (fn:=Tryz.f25) (by kernel_rfl) (c:=_) rfl rfl rfl ?_
    refine Run.seq (Run.region (cx_ok _ _ _) (Reg.op rfl (Ope.boxF rfl rfl ?_)))
    refine Reg.op rfl (Ope.asg rfl ?_)
    refine Reg.op rfl (Ope.asg rfl ?_)
    refine Reg.nil (Run.seq (Run.draw (cx_ok _ _ _) [(0,false),(1,true),(2,true),(3,true),(4,true),(5,true),(6,true),(7,true),(8,true),(9,true)] (by kernel_rfl) (Dra.op' rfl rfl rfl (.load rfl) (Ope.load rfl rfl ?_))))
    refine Dra.op' rfl rfl rfl .sure (Ope.load rfl rfl ?_)
    refine Dra.op' rfl rfl rfl .sure (Ope.mov rfl ?_)
    refine Dra.op' rfl rfl rfl .sure (Ope.cf rfl rfl hrd hbr ?_)
    refine Dra.op' rfl rfl rfl .sure (Ope.mov rfl ?_)
    refine Dra.on' rfl rfl rfl rfl rfl .sure (Ope.mov rfl ?_)
    refine Dra.on' rfl rfl rfl rfl rfl .sure (Ope.ge rfl rfl ?_)
    rw [hb2]
    refine Dra.op' rfl rfl rfl .sure (Ope.pickT rfl rfl ?_)
    refine Dra.op' rfl rfl rfl .sure (Ope.cf rfl rfl hck (hbc _) ?_)
    refine Dra.op' rfl rfl rfl .sure (Ope.asg rfl ?_)
    refine Dra.nil (Run.seq (Run.seq (Run.region (cx_ok _ _ _) (Reg.op rfl (Ope.mov rfl ?_)))))
    refine Reg.op rfl (Ope.ne rfl rfl ?_)
    refine Reg.nil (Run.condX rfl (fun hc=>?_) fun hc=>?_)
    ·refine Run.seq (Run.region (cx_ok _ _ _) (Reg.op rfl (Ope.mov rfl ?_)))
     refine Reg.op rfl (Ope.asg rfl ?_)
     refine Reg.op rfl (Ope.asg rfl ?_)
     exact Reg.nil (Run.ret (Jmp.code (fin_ret (.tmp rfl (.tmp rfl .nil)) rfl rfl)))
    ·(exfalso;first | exact hc he | exact absurd he (by simpa using hc))
theorem f25v (hf:f.ok) (r:Nat) (hr:(r:Int) < f.n) (most:Int) (hm:0≤most):Fn P0 25 [f.v t1 t2,N r,I most] (.tup [N (fstL (f.wd r most (2 ^ f.li.length))),I 0]):=by
  have hv:=fns_B f hf
  have hl5:=hf.li
  have hr4:=hf.ru
  have hS:f.ru.length≤9223372036854775807:=by omega
  have hJ:f.li.length≤9223372036854775807:=by omega
  have hck:=f43 f h1 h2 hS hJ true
  rw [show ckI f true=0 from by unfold ckI;rw [if_pos hv,if_pos rfl]] at hck
  have hbc:PV.bds 0 [f.v t1 t2,B true]=true:=bd_fnsV f h1 h2 rfl
  have hrd:=f49 f h1 h2 (r:Int)
  rw [rdB_ok hf,show numB f.n (r:Int)=true from by unfold numB;rw [decide_eq_true (by omega),decide_eq_true hr];rfl] at hrd
  have hbr:∀ S:Nat,PV.bds 0 [f.v t1 t2,N S]=true:=fun S=>bd_fnsV f h1 h2 rfl
  have hpw:=f62 f.li.length (by omega)
  have hsz:=fun x hx=>f34 x hx
  have hwo:=fun S hS=>f33 f h1 h2 hl5 S hS
  have hfi:=fun S=>f16v (f.wo S) (t1:=t1) (t2:=.no) h1 rfl (hf.wo S) r (show (r:Int) < (f.wo S).n from hr)
  have hbw:∀ S:Nat,PV.bds 0 [(f.wo S).v t1 .no,N r]=true:=fun S=>bd_fnsV (f.wo S) h1 rfl rfl
  have hp5:=Nat.pow_le_pow_right (n:=2) (by decide) hl5
  have hp0:0 < 2 ^ f.li.length:=Nat.pow_pos (by decide)
  rw [← fst_every hf hm]
  obtain ⟨b,hb⟩:∃ b:Nat→Nat,b=fun i=>fstC (2 ^ f.li.length - 1) (f.wd r most i):=⟨_,rfl⟩
  have hb0:b 0=2 ^ f.li.length - 1:=by rw [hb];rfl
  have hbs:∀ i,b (i+1)=if ((f.wo i).spn (gF (r:Int))).hi≤most∧cn i < cn (b i) then i else b i:=fun i=>by
    rw [hb]
    show fstC _ (f.wd r most (i+1))=_
    rw [wd_succ]
    by_cases h:((f.wo i).spn (gF (r:Int))).hi≤most
    · rw [if_pos h, fstC_snoc]
      by_cases h9:cn i < cn (fstC (2 ^ f.li.length - 1) (f.wd r most i))
      · rw [if_pos h9,if_pos ⟨h,h9⟩]
      · rw [if_neg h9,if_neg fun h8=>h9 h8.2]
    · rw [if_neg h,if_neg fun h8=>h h8.1]
  have hbl:∀ i,i≤2 ^ f.li.length→b i < 2 ^ f.li.length:=fun i=>by
    induction i with
    | zero=>intro _;rw [hb0];omega
    | succ i ih =>
      intro hi
      rw [hbs]
      split
      · omega
      · exact ih (by omega)
  have hbn:fstC (2 ^ f.li.length - 1) (f.wd r most (2 ^ f.li.length))=b (2 ^ f.li.length):=by rw [hb]
  rw [hbn]
  have hfi':∀ S,∃ a c:Int,Fn P0 16 [(f.wo S).v t1 .no,N r] (.tup [.agg [I a,I c],I 0])∧((f.wo S).spn (gF (r:Int))).hi=c:=fun S=>⟨_,_,hfi S,rfl⟩
  have e1:((2 ^ f.li.length:Nat):Int) - 1=((2 ^ f.li.length - 1:Nat):Int):=by omega
  clear hbn hb hfi
  generalize hPP:2 ^ f.li.length=P at *
  refine PFun.of (C:=c25) (cx_ok _ _ _) rfl (fn:=Tryz.f25) (by kernel_rfl) (c:=_) rfl rfl rfl ?_
  refine Run.seq (Run.region (cx_ok _ _ _) (Reg.op rfl (Ope.boxF rfl rfl ?_)))
  refine Reg.op rfl (Ope.asg rfl ?_)
  refine Reg.op rfl (Ope.asg rfl ?_)
  refine Reg.nil (Run.seq (Run.draw (cx_ok _ _ _) [(0,false),(1,true),(2,true),(3,true),(4,true),(5,true),(6,true),(7,true),(8,true),(9,true)] (by kernel_rfl) (Dra.op' rfl rfl rfl (.load rfl) (Ope.load rfl rfl ?_))))
  refine Dra.op' rfl rfl rfl .sure (Ope.load rfl rfl ?_)
  refine Dra.op' rfl rfl rfl .sure (Ope.mov rfl ?_)
  refine Dra.op' rfl rfl rfl .sure (Ope.cf rfl rfl hrd (hbr _) ?_)
  refine Dra.op' rfl rfl rfl .sure (Ope.mov rfl ?_)
  refine Dra.on' rfl rfl rfl rfl rfl .sure (Ope.mov rfl ?_)
  refine Dra.on' rfl rfl rfl rfl rfl .sure (Ope.ge rfl rfl ?_)
  rw [decide_eq_true hm]
  refine Dra.op' rfl rfl rfl .sure (Ope.pickT rfl rfl ?_)
  refine Dra.op' rfl rfl rfl .sure (Ope.cf rfl rfl hck hbc ?_)
  refine Dra.op' rfl rfl rfl .sure (Ope.asg rfl ?_)
  refine Dra.nil (Run.seq (Run.seq (Run.region (cx_ok _ _ _) (Reg.op rfl (Ope.mov rfl ?_)))))
  refine Reg.op rfl (Ope.neS rfl rfl ?_)
  refine Reg.nil (Run.condF rfl (Run.skip (Run.seq (Run.region (cx_ok _ _ _) (Reg.op rfl (Ope.fld rfl rfl ?_))))))
  refine Reg.op rfl (Ope.load rfl rfl ?_)
  refine Reg.op rfl (Ope.len (m:=f.li.length) rfl (by simp) ?_)
  refine Reg.op rfl (Ope.cf rfl rfl hpw rfl ?_)
  refine Reg.op rfl (Ope.sub rfl rfl (by omega) ?_)
  rw [e1]
  refine Reg.op rfl (Ope.asg rfl ?_)
  refine Reg.nil (Run.seq (Run.region (cx_ok _ _ _) (Reg.op rfl (Ope.mov rfl ?_))))
  refine Reg.op rfl (Ope.asg rfl ?_)
  refine Reg.nil (Run.seq (Run.seq (Run.region (cx_ok _ _ _) (Reg.op rfl (Ope.asg rfl ?_)))))
  refine Reg.nil (Run.block (Run.loop (α:=Nat×Nat) (fun t=>[(1,N r),(2,I most),(3,.fp (f.v t1 t2)),(9,N (P - 1)),(10,N (b t.1)),(11,I t.1)]) (fun t=>HE t.2 []) (fun t=>t.1≤P) (fun t=>P - t.1) (0,0) ⟨rfl,rfl,rfl,rfl,by rw [hb0];rfl,rfl,trivial⟩ rfl (Nat.zero_le _) (fun t ht=>?_)))
  obtain ⟨i,m⟩:=t
  simp only at ht
  show Run _ _ _ _ [(1,N r),(2,I most),(3,.fp (f.v t1 t2)),(9,N (P - 1)),(10,N (b i)),(11,I i)] [] (HE m [])
  refine Run.seq (Run.seq (Run.region (cx_ok _ _ _) (Reg.op rfl (Ope.mov rfl ?_))))
  refine Reg.op rfl (Ope.mov rfl ?_)
  refine Reg.op rfl (Ope.le rfl rfl ?_)
  refine Reg.nil (Run.condX rfl (fun hc=>?_) fun hc=>?_)
  ·refine Run.skip (Run.seq (Run.block (Run.seq (Run.seq ?_))))
   have hiP:i < P:=by omega
   have hbi:=hbl i (by omega)
   have hs1:=hsz i (by show i < 64;omega)
   have hs2:=hsz (b i) (by show b i < 64;omega)
   have hwi:=hwo i (by omega)
   obtain ⟨fa,fc,hfi,hfc⟩:=hfi' i
   have hbsi:=hbs i
   rw [hfc] at hbsi
   have hbwi:=hbw i
   refine Run.region (cx_ok _ _ _) (Reg.op rfl (Ope.mov rfl ?_))
   refine Reg.op rfl (Ope.cf rfl rfl hs1 rfl ?_)
   refine Reg.op rfl (Ope.mov rfl ?_)
   refine Reg.op rfl (Ope.cf rfl rfl hs2 rfl ?_)
   refine Reg.op rfl (Ope.ge rfl rfl ?_)
   refine Reg.nil (Run.condX rfl (fun hc=>?_) fun hc=>?_)
   ·refine Run.exit (Jmp.code (Jmp.here (Run.region (cx_ok _ _ _) (Reg.op rfl (Ope.mov rfl ?_)))))
    refine Reg.op rfl (Ope.add rfl rfl (by omega) ?_)
    refine Reg.op rfl (Ope.asg rfl ?_)
    refine Reg.nil ?_
    first
    | exact Run.lend ⟨(i+1,m),by show P - (i+1) < P - i;omega,by show i+1≤P;omega,⟨rfl,rfl,rfl,rfl,by rw [hbsi,if_neg (by omega)];rfl,rfl,trivial⟩,rfl,rfl⟩
    | exact Run.lend ⟨(i+1,m+1),by show P - (i+1) < P - i;omega,by show i+1≤P;omega,⟨rfl,rfl,rfl,rfl,by rw [hbsi,if_pos (by omega)];rfl,rfl,trivial⟩,rfl,rfl⟩
    | exact Run.lend ⟨(i+1,m+1),by show P - (i+1) < P - i;omega,by show i+1≤P;omega,⟨rfl,rfl,rfl,rfl,by rw [hbsi,if_neg (by omega)];rfl,rfl,trivial⟩,rfl,rfl⟩
   ·refine Run.skip (Run.seq ?_)
    have hcn:=hc
    refine Run.region (cx_ok _ _ _) (Reg.op rfl (Ope.load rfl rfl ?_))
    refine Reg.op rfl (Ope.mov rfl ?_)
    refine Reg.op rfl (Ope.cf rfl rfl hwi (hbr _) ?_)
    refine Reg.op rfl (Ope.mov rfl ?_)
    refine Reg.op rfl (Ope.cf rfl rfl hfi hbwi ?_)
    refine Reg.op rfl (Ope.mov rfl ?_)
    refine Reg.op rfl (Ope.ext rfl rfl ?_)
    refine Reg.op rfl (Ope.ext rfl rfl ?_)
    refine Reg.op rfl (Ope.newL rfl ?_)
    refine Reg.op0 (Ope.store rfl rfl hget_hd rfl rfl rfl ?_)
    refine Reg.op rfl (Ope.asg rfl ?_)
    refine Reg.nil (Run.seq (Run.frz (d:=12) true rfl hget_hd rfl ?_))
    refine Run.wide (m:=m+1) (l':=[]) (Nat.le_refl _) trivial ?_
    refine Run.region (cx_ok _ _ _) (Reg.op rfl (Ope.fld rfl rfl ?_))
    refine Reg.op rfl (Ope.load rfl rfl ?_)
    refine Reg.op rfl (Ope.mov rfl ?_)
    refine Reg.op rfl (Ope.le rfl rfl ?_)
    refine Reg.nil (Run.condX rfl (fun hc=>?_) fun hc=>?_)
    ·refine Run.region (cx_ok _ _ _) (Reg.op rfl (Ope.mov rfl ?_))
     refine Reg.op rfl (Ope.asg rfl ?_)
     refine Reg.nil (Run.bend (Run.region (cx_ok _ _ _) (Reg.op rfl (Ope.mov rfl ?_))))
     refine Reg.op rfl (Ope.add rfl rfl (by omega) ?_)
     refine Reg.op rfl (Ope.asg rfl ?_)
     refine Reg.nil ?_
     first
     | exact Run.lend ⟨(i+1,m),by show P - (i+1) < P - i;omega,by show i+1≤P;omega,⟨rfl,rfl,rfl,rfl,by rw [hbsi,if_neg (by omega)];rfl,rfl,trivial⟩,rfl,rfl⟩
     | exact Run.lend ⟨(i+1,m+1),by show P - (i+1) < P - i;omega,by show i+1≤P;omega,⟨rfl,rfl,rfl,rfl,by rw [hbsi,if_pos (by omega)];rfl,rfl,trivial⟩,rfl,rfl⟩
     | exact Run.lend ⟨(i+1,m+1),by show P - (i+1) < P - i;omega,by show i+1≤P;omega,⟨rfl,rfl,rfl,rfl,by rw [hbsi,if_neg (by omega)];rfl,rfl,trivial⟩,rfl,rfl⟩
    ·refine Run.skip (Run.bend (Run.region (cx_ok _ _ _) (Reg.op rfl (Ope.mov rfl ?_))))
     refine Reg.op rfl (Ope.add rfl rfl (by omega) ?_)
     refine Reg.op rfl (Ope.asg rfl ?_)
     refine Reg.nil ?_
     first
     | exact Run.lend ⟨(i+1,m),by show P - (i+1) < P - i;omega,by show i+1≤P;omega,⟨rfl,rfl,rfl,rfl,by rw [hbsi,if_neg (by omega)];rfl,rfl,trivial⟩,rfl,rfl⟩
     | exact Run.lend ⟨(i+1,m+1),by show P - (i+1) < P - i;omega,by show i+1≤P;omega,⟨rfl,rfl,rfl,rfl,by rw [hbsi,if_pos (by omega)];rfl,rfl,trivial⟩,rfl,rfl⟩
     | exact Run.lend ⟨(i+1,m+1),by show P - (i+1) < P - i;omega,by show i+1≤P;omega,⟨rfl,rfl,rfl,rfl,by rw [hbsi,if_neg (by omega)];rfl,rfl,trivial⟩,rfl,rfl⟩
  ·refine Run.exit (Jmp.code (Jmp.round (Jmp.here (Run.seq ?_))))
   obtain rfl:i=P:=by omega
   refine Run.region (cx_ok _ _ _) (Reg.op rfl (Ope.mov rfl ?_))
   refine Reg.op rfl (Ope.asg rfl ?_)
   refine Reg.op rfl (Ope.asg rfl ?_)
   exact Reg.nil (Run.ret (fin_ret (.tmp rfl (.tmp rfl .nil)) rfl rfl))
theorem f25 (hS:f.ru.length≤9223372036854775807) (hJ:f.li.length≤9223372036854775807) (r most:Int):Fn P0 25 [f.v t1 t2,I r,I most] (tolI f (numB f.n r && decide (0≤most)) (fstL (f.wd r most (2 ^ f.li.length)))):=by
  cases hB:f.B with
  | false =>
    have hck:ckI f (rdB f r && decide (0≤most))=1:=by unfold ckI;rw [if_neg (by rw [hB];decide)]
    have h:=f25e f h1 h2 hS hJ r most _ _ rfl rfl (by rw [hck];decide)
    rw [hck] at h
    unfold tolI
    rw [if_neg (by rw [hB];decide)]
    exact h
  | true =>
    have hf:=fns_ok f hB
    cases hb:(numB f.n r && decide (0≤most)) with
    | false =>
      have hck:ckI f (rdB f r && decide (0≤most))=2:=by unfold ckI;rw [if_pos hB,rdB_ok hf,hb,if_neg (by decide)]
      have h:=f25e f h1 h2 hS hJ r most _ _ rfl rfl (by rw [hck];decide)
      rw [hck] at h
      unfold tolI
      rw [if_pos hB,if_neg (by decide)]
      exact h
    | true =>
      unfold numB at hb
      simp only [Bool.and_eq_true,decide_eq_true_eq] at hb
      obtain ⟨⟨hr0,hr1⟩,hm⟩:=hb
      obtain ⟨q,rfl⟩:∃ q:Nat,r=(q:Int):=⟨r.toNat,by omega⟩
      unfold tolI
      rw [if_pos hB,if_pos rfl]
      exact f25v f h1 h2 hf q hr1 most hm
theorem f4a (p q:PV) (hh:Fn P0 11 [f.v t1 t2,I 400,.sl .ex []] (B true)):Fn P0 4 [f.v t1 t2,p,q] (B true):=by
  have hb:PV.bds 0 [f.v t1 t2,I 400,.sl .ex []]=true:=bd_fnsV f h1 h2 rfl
  refine PFun.of (C:=c4) (cx_ok _ _ _) rfl (fn:=Tryz.f4) (by kernel_rfl) (c:=_) rfl rfl rfl ?_
  refine Run.seq (Run.region (cx_ok _ _ _) (Reg.op rfl (Ope.boxF rfl rfl ?_)))
  refine Reg.op rfl (Ope.asg rfl ?_)
  refine Reg.nil (Run.seq (Run.seq (Run.region (cx_ok _ _ _) (Reg.op rfl (Ope.load rfl rfl ?_)))))
  refine Reg.op rfl (Ope.cf rfl rfl hh hb ?_)
  refine Reg.nil (Run.condX rfl (fun hc=>?_) fun hc=>?_)
  ·refine Run.seq (Run.region (cx_ok _ _ _) (Reg.op rfl (Ope.cf rfl rfl (aliveF) rfl ?_)))
   refine Reg.op rfl (Ope.asg rfl ?_)
   exact Reg.nil (Run.ret (Jmp.code (fin_ret (.tmp rfl .nil) rfl rfl)))
  ·(exact absurd hc (by decide))
theorem f4v (hS:f.ru.length≤9223372036854775807) (hJ:f.li.length≤9223372036854775807) (r most:Int) (hh:Fn P0 11 [f.v t1 t2,I 400,.sl .ex []] (B false)):Fn P0 4 [f.v t1 t2,I r,I most] (B true):=by
  have hb:PV.bds 0 [f.v t1 t2,I 400,.sl .ex []]=true:=bd_fnsV f h1 h2 rfl
  have hbw:PV.bds 0 [f.v t1 t2,I r,I most]=true:=bd_fnsV f h1 h2 rfl
  have ha:=f24 f h1 h2 hS hJ r most
  have hc':=f25 f h1 h2 hS hJ r most
  obtain ⟨x,y,hxy⟩:∃ x y:Int,tolI f (numB f.n r && decide (0≤most)) (fstL (f.wd r most (2 ^ f.li.length)))=.tup [I x,I y]:=by
    unfold tolI
    split
    · split
      · exact ⟨_,_,rfl⟩
      · exact ⟨_,_,rfl⟩
    · exact ⟨_,_,rfl⟩
  rw [hxy] at ha hc'
  refine PFun.of (C:=c4) (cx_ok _ _ _) rfl (fn:=Tryz.f4) (by kernel_rfl) (c:=_) rfl rfl rfl ?_
  refine Run.seq (Run.region (cx_ok _ _ _) (Reg.op rfl (Ope.boxF rfl rfl ?_)))
  refine Reg.op rfl (Ope.asg rfl ?_)
  refine Reg.nil (Run.seq (Run.seq (Run.region (cx_ok _ _ _) (Reg.op rfl (Ope.load rfl rfl ?_)))))
  refine Reg.op rfl (Ope.cf rfl rfl hh hb ?_)
  refine Reg.nil (Run.condX rfl (fun hc=>?_) fun hc=>?_)
  ·(exact absurd hc (by decide))
  ·refine Run.skip (Run.seq (Run.region (cx_ok _ _ _) (Reg.op rfl (Ope.load rfl rfl ?_))))
   refine Reg.op rfl (Ope.mov rfl ?_)
   refine Reg.op rfl (Ope.mov rfl ?_)
   refine Reg.op rfl (Ope.cf rfl rfl ha hbw ?_)
   refine Reg.op rfl (Ope.mov rfl ?_)
   refine Reg.op rfl (Ope.ext rfl rfl ?_)
   refine Reg.op rfl (Ope.ext rfl rfl ?_)
   refine Reg.op rfl (Ope.asg rfl ?_)
   refine Reg.op rfl (Ope.asg rfl ?_)
   refine Reg.nil (Run.seq (Run.region (cx_ok _ _ _) (Reg.op rfl (Ope.load rfl rfl ?_))))
   refine Reg.op rfl (Ope.mov rfl ?_)
   refine Reg.op rfl (Ope.mov rfl ?_)
   refine Reg.op rfl (Ope.cf rfl rfl hc' hbw ?_)
   refine Reg.op rfl (Ope.mov rfl ?_)
   refine Reg.op rfl (Ope.ext rfl rfl ?_)
   refine Reg.op rfl (Ope.ext rfl rfl ?_)
   refine Reg.op rfl (Ope.asg rfl ?_)
   refine Reg.op rfl (Ope.asg rfl ?_)
   refine Reg.nil (Run.seq (Run.region (cx_ok _ _ _) (Reg.op rfl (Ope.mov rfl ?_))))
   refine Reg.op rfl (Ope.mov rfl ?_)
   refine Reg.op rfl (Ope.eq rfl rfl ?_)
   refine Reg.op rfl (Ope.mov rfl ?_)
   refine Reg.splitX rfl rfl (fun hg=>?_) fun hg=>?_
   ·first
    |(first | exact absurd rfl hg | (exact absurd hg (by decide)))
    |refine Reg.on rfl rfl rfl (Ope.mov rfl ?_)
     refine Reg.on rfl rfl rfl (Ope.mov rfl ?_)
     refine Reg.on rfl rfl rfl (Ope.eq rfl rfl ?_)
     refine Reg.op rfl (Ope.pickT rfl rfl ?_)
     refine Reg.op rfl (Ope.mov rfl ?_)
     refine Reg.splitX rfl rfl (fun hg=>?_) fun hg=>?_
     ·first
      |(first | exact absurd rfl hg | (exact absurd hg (by decide)))
      |refine Reg.on rfl rfl rfl (Ope.cf rfl rfl (aliveF) rfl ?_)
       refine Reg.op rfl (Ope.pickT rfl rfl ?_)
       refine Reg.op rfl (Ope.asg rfl ?_)
       exact Reg.nil (Run.ret (fin_ret (.tmp rfl .nil) rfl rfl))
     ·first
      |(first | exact absurd rfl hg | (exact absurd hg (by decide)))
      |refine Reg.off rfl rfl rfl (Reg.op rfl (Ope.pickF rfl rfl ?_))
       refine Reg.op rfl (Ope.asg rfl ?_)
       exact Reg.nil (Run.ret (fin_ret (.tmp rfl .nil) rfl rfl))
   ·first
    |(first | exact absurd rfl hg | (exact absurd hg (by decide)))
    |refine Reg.off rfl rfl rfl (Reg.off rfl rfl rfl (Reg.off rfl rfl rfl (Reg.op rfl (Ope.pickF rfl rfl ?_))))
     refine Reg.op rfl (Ope.mov rfl ?_)
     refine Reg.off rfl rfl rfl (Reg.op rfl (Ope.pickF rfl rfl ?_))
     refine Reg.op rfl (Ope.asg rfl ?_)
     exact Reg.nil (Run.ret (fin_ret (.tmp rfl .nil) rfl rfl))
end
theorem f4 (s:Fns) (hi:s.hnd) (r most:Int):Fn P0 4 [s.v .no .no,I r,I most] (B true):=by
  by_cases hv:s.lng=true∨s.B=false
  · have hh := f11n s (t1 := .no) (t2 := .no) rfl rfl hi.ru hi.li 400 hv
    cases hl:s.lng with
    | true=>rw [hl] at hh;exact f4a s rfl rfl _ _ hh
    | false=>rw [hl] at hh;exact f4v s rfl rfl hi.ru hi.li r most hh
  · have hB : s.B = true := by
      cases hb:s.B with
      | true=>rfl
      | false=>exact absurd (.inr hb) hv
    have hf:=fns_ok s hB
    have hh:=f11v s (t1:=.no) (t2:=.no) rfl rfl hf 400
    cases hd:decide ((400:Int) < (prdN s s.li.length:Nat)) with
    | true=>rw [hd] at hh;exact f4a s rfl rfl _ _ hh
    | false=>rw [hd] at hh;exact f4v s rfl rfl hi.ru hi.li r most hh
end Go.Pv
