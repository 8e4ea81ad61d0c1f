/- Parts of the proof: E48, E55, E56, E57, E58, E59 -/
import Derived.Test.YtfpihegkllffbaaGreatP24
set_option linter.unusedVariables false
set_option linter.unusedSimpArgs false
set_option linter.unusedSectionVars false
namespace Go.Pv
open Go.Proofs Go.Am
set_option maxRecDepth 10000
set_option maxHeartbeats 4000000
structure EDt (len r:Nat) (RI X:List Int) (FI PA:Nat→Int):Prop where
  rl:RI.length=len
  xl:X.length=len
  xb:∀ i (h:i < X.length),0≤X[i]∧X[i]≤1000
  f0:FI 0=0
  p0:PA 0=0
  fb:∀ i,0≤FI i∧FI i≤5005
  pb:∀ i,0≤PA i∧PA i≤5005
  s1:∀ i (h1:i < RI.length) (h2:i < X.length),RI[i]=(r:Int)→FI (i+1)=FI i+X[i]∧PA (i+1)=PA i+(X[i]+1) / 2
  s2:∀ i (h1:i < RI.length) (h2:i < X.length),¬ RI[i]=(r:Int)→RI[i]=((r ^^^ 1:Nat):Int)→FI (i+1)=FI i∧PA (i+1)=PA i+X[i] / 2
  s3:∀ i (h1:i < RI.length) (h2:i < X.length),¬ RI[i]=(r:Int)→¬ RI[i]=((r ^^^ 1:Nat):Int)→FI (i+1)=FI i∧PA (i+1)=PA i
end Go.Pv
namespace Go.Pv
open Go.Proofs Go.Am
set_option maxRecDepth 10000
set_option maxHeartbeats 4000000
abbrev tR (ta tb:Tail) (RI HO:List Int):PV:=.agg [.sl ta (RI.map I),.sl tb (HO.map I)]
theorem f71 (ta tb:Tail) (RI HO:List Int) (a b:Nat) (ha:a < HO.length) (hb:b < HO.length):Fn P0 71 [tR ta tb RI HO,N a,N b] (B (decide (HO[a] < HO[b]∨(HO[a]=HO[b]∧a < b)))):=by
  refine PFun.of (C:=c71) (cx_ok _ _ _) rfl (fn:=Tryz.f71) (by kernel_rfl) (c:=_) rfl rfl rfl ?_
  refine rS (rN (cx_ok _ _ _) (rO rfl (Ope.boxF rfl rfl ?_)))
  refine rO rfl (oA rfl ?_)
  refine rI (rS (Run.draw (cx_ok _ _ _) [(0,true),(1,true),(2,true),(3,true),(4,true),(5,true),(6,true),(7,true),(8,true),(9,true),(10,true),(11,true),(12,true),(13,true),(14,true),(15,true),(16,true),(17,true),(18,true),(19,true),(20,true),(21,true),(22,true),(23,true),(24,true),(25,true),(26,true),(27,true),(28,true),(29,true)] (by kernel_rfl) (dO rfl rfl rfl .sure (Ope.fld rfl rfl ?_))))
  refine dO rfl rfl rfl .sure (oL rfl rfl ?_)
  refine dO rfl rfl rfl .sure (oM rfl ?_)
  refine dO rfl rfl rfl .sure (Ope.idxM (m:=a) (f:=I) rfl rfl rfl ha (fun _=>rfl) ?_)
  refine dO rfl rfl rfl .sure (oL rfl rfl ?_)
  refine dO rfl rfl rfl .sure (Ope.fld rfl rfl ?_)
  refine dO rfl rfl rfl .sure (oL rfl rfl ?_)
  refine dO rfl rfl rfl .sure (oM rfl ?_)
  refine dO rfl rfl rfl .sure (Ope.idxM (m:=b) (f:=I) rfl rfl rfl hb (fun _=>rfl) ?_)
  refine dO rfl rfl rfl .sure (oL rfl rfl ?_)
  refine dO rfl rfl rfl .sure (Ope.lt rfl rfl ?_)
  refine dO rfl rfl rfl .sure (oM rfl ?_)
  refine Dra.splitX rfl rfl rfl rfl (fun hg=>?_) fun hg=>?_
  ·refine dF rfl rfl rfl (.inl rfl) rfl (dF rfl rfl rfl (.inl rfl) rfl (dF rfl rfl rfl (.inl rfl) rfl (dF rfl rfl rfl (.inl rfl) rfl (dF rfl rfl rfl (.inl rfl) rfl (dF rfl rfl rfl (.inl rfl) rfl (dF rfl rfl rfl (.inl rfl) rfl (dF rfl rfl rfl (.inl rfl) rfl (dF rfl rfl rfl (.inl rfl) rfl (dF rfl rfl rfl (.inl rfl) rfl (dF rfl rfl rfl (.inl rfl) rfl (dF rfl rfl rfl (.inl rfl) rfl (dF rfl rfl rfl (.inr rfl) rfl (dF rfl rfl rfl (.inr rfl) rfl (dF rfl rfl rfl (.inr rfl) rfl (dF rfl rfl rfl (.inl rfl) rfl (dO rfl rfl rfl .sure (Ope.pickT rfl rfl ?_)))))))))))))))))
   refine dO rfl rfl rfl .sure (oA rfl ?_)
   refine Dra.nil (Run.ret (fin_ret (.tmp rfl .nil) rfl ?_))
   (refine congrArg B ?_;first | exact (decide_eq_true (by omega)).symm | exact (decide_eq_false (by omega)).symm | (refine decide_eq_decide.2 ?_;omega))
  ·refine Dra.on' rfl rfl rfl rfl rfl .sure (Ope.fld rfl rfl ?_)
   refine Dra.on' rfl rfl rfl rfl rfl .sure (oL rfl rfl ?_)
   refine Dra.on' rfl rfl rfl rfl rfl .sure (oM rfl ?_)
   refine Dra.on' rfl rfl rfl rfl rfl .sure (Ope.idxM (m:=a) (f:=I) rfl rfl rfl ha (fun _=>rfl) ?_)
   refine Dra.on' rfl rfl rfl rfl rfl .sure (oL rfl rfl ?_)
   refine Dra.on' rfl rfl rfl rfl rfl .sure (Ope.fld rfl rfl ?_)
   refine Dra.on' rfl rfl rfl rfl rfl .sure (oL rfl rfl ?_)
   refine Dra.on' rfl rfl rfl rfl rfl .sure (oM rfl ?_)
   refine Dra.on' rfl rfl rfl rfl rfl .sure (Ope.idxM (m:=b) (f:=I) rfl rfl rfl hb (fun _=>rfl) ?_)
   refine Dra.on' rfl rfl rfl rfl rfl .sure (oL rfl rfl ?_)
   refine Dra.on' rfl rfl rfl rfl rfl .sure (Ope.eq rfl rfl ?_)
   refine Dra.on' rfl rfl rfl rfl rfl .sure (oM rfl ?_)
   refine Dra.splitX rfl rfl rfl rfl (fun hg=>?_) fun hg=>?_
   ·refine Dra.on' rfl rfl rfl rfl rfl .sure (oM rfl ?_)
    refine Dra.on' rfl rfl rfl rfl rfl .sure (oM rfl ?_)
    refine Dra.on' rfl rfl rfl rfl rfl .sure (Ope.lt rfl rfl ?_)
    refine Dra.on' rfl rfl rfl rfl rfl .sure (Ope.pickT rfl rfl ?_)
    refine dO rfl rfl rfl .sure (Ope.pickF rfl rfl ?_)
    refine dO rfl rfl rfl .sure (oA rfl ?_)
    refine Dra.nil (Run.ret (fin_ret (.tmp rfl .nil) rfl ?_))
    (refine congrArg B ?_;first | exact (decide_eq_true (by omega)).symm | exact (decide_eq_false (by omega)).symm | (refine decide_eq_decide.2 ?_;omega))
   ·refine dF rfl rfl rfl (.inl rfl) rfl (dF rfl rfl rfl (.inl rfl) rfl (dF rfl rfl rfl (.inl rfl) rfl (Dra.on' rfl rfl rfl rfl rfl .sure (Ope.pickF rfl rfl ?_))))
    refine dO rfl rfl rfl .sure (Ope.pickF rfl rfl ?_)
    refine dO rfl rfl rfl .sure (oA rfl ?_)
    refine Dra.nil (Run.ret (fin_ret (.tmp rfl .nil) rfl ?_))
    (refine congrArg B ?_;first | exact (decide_eq_true (by omega)).symm | exact (decide_eq_false (by omega)).symm | (refine decide_eq_decide.2 ?_;omega))
def cR (f:Fns) (RI HO:List Int) (n:Nat):Int:=min (f.rule (f.ofc n).kd).mo ((f.rule (f.ofc n).kd).ba+(f.rule (f.ofc n).kd).st * (cntN (f.cnd RI HO n) f.li.length:Nat))
theorem cR_exa (f:Fns) (RI HO:List Int) {n:Nat} (hn:n < (f.exa (f.dl RI HO f.li.length)).length):(f.exa (f.dl RI HO f.li.length))[n]=cR f RI HO n:=exa_at f RI HO hn
theorem cR_bd {f:Fns} (hf:f.ok) (RI HO:List Int) (n:Nat):0≤cR f RI HO n∧cR f RI HO n≤1000:=by
  obtain ⟨h1,h2,h3,_⟩:=hf.rule (f.ofc n).kd
  unfold cR
  have:0≤(f.rule (f.ofc n).kd).st * (cntN (f.cnd RI HO n) f.li.length:Nat):=Int.mul_nonneg h2.1 (by omega)
  omega
section
variable (f:Fns) {t1 t2:Tail} (h1:t1.isOwn=false) (h2:t2.isOwn=false)
include h1 h2
theorem f45 (hf:f.ok) (ta tb:Tail) (hta:ta.isOwn=false) (htb:tb.isOwn=false) (RI HO:List Int) (hR:RI.length=f.li.length) (hH:HO.length=f.li.length) (hHb:∀ x∈HO,0≤x∧x≤144) (n:Nat) (hn:n < f.li.length):Fn P0 45 [f.v t1 t2,tR ta tb RI HO,N n] (I (cR f RI HO n)):=by
  have hl5:=hf.li
  have hofn:=Fns.ofc_at hn
  have hlvn:=hf.lv _ (List.getElem_mem hn)
  obtain ⟨oc,hoc⟩:∃ o,f.li[n]=o:=⟨_,rfl⟩
  rw [hoc] at hlvn hofn
  obtain ⟨kd,ri,lo,hi⟩:=oc
  simp only at hlvn
  obtain ⟨kk,rfl⟩:∃ k:Nat,kd=(k:Int):=⟨kd.toNat,by omega⟩
  have hkk:kk < f.ru.length:=by omega
  have hrul:=Fns.rule_at hkk
  have hrv:=hf.rv _ (List.getElem_mem hkk)
  obtain ⟨rc,hrc⟩:∃ r,f.ru[kk]=r:=⟨_,rfl⟩
  rw [hrc] at hrv hrul
  obtain ⟨ba,st,mo,wi⟩:=rc
  simp only at hrv
  have hbt:∀ a b:Nat,PV.bds 0 [tR ta tb RI HO,N a,N b]=true:=fun a b=>bds_cons (bd_agg (bds_cons (bd_sl (f:=I) hta (fun _=>rfl) _) (bds_cons (bd_sl (f:=I) htb (fun _=>rfl) _) rfl))) rfl
  have hnR:n < RI.length:=by omega
  have hnH:n < HO.length:=by omega
  have hCn:∀ i (h1:i < f.li.length) (h2:i < RI.length) (h3:i < HO.length),f.cnd RI HO n i=decide (i≠n∧f.li[i].kd=(kk:Int)∧RI[i]=RI[n]∧HO[i]≤HO[n]∧(HO[i] < HO[n]∨i < n)∧HO[n] - HO[i]≤wi):=fun i h1 h2 h3=>by
    unfold Fns.cnd
    rw [hofn,hrul,Fns.ofc_at h1]
    have e:∀ (L:List Int) (j:Nat) (h:j < L.length),L.getD j 0=L[j]:=fun L j h=>by simp [List.getD,h]
    rw [e RI i h2,e RI n hnR,e HO i h3,e HO n hnH]
    rfl
  have hres:cR f RI HO n=min (ba+st * (cntN (f.cnd RI HO n) f.li.length:Nat)) mo:=by
    unfold cR
    rw [hofn,hrul]
    show min mo _=_
    exact Int.min_comm ..
  rw [hres]
  obtain ⟨C,hC⟩:∃ C,f.cnd RI HO n=C:=⟨_,rfl⟩
  rw [hC] at hCn ⊢
  obtain ⟨z,hz⟩:∃ z:Nat→Int,z=fun i=>st * (cntN C i:Nat):=⟨_,rfl⟩
  have hz0:z 0=0:=by rw [hz];simp [cntN]
  have hzs:∀ i,z (i+1)=z i+if C i=true then st else 0:=fun i=>by
    rw [hz]
    show st * ((cntN C i+if C i=true then 1 else 0:Nat):Int)=st * (cntN C i:Nat)+_
    split
    · push_cast;rw [Int.mul_add];omega
    · push_cast;rw [Int.mul_add];omega
  have hzb:∀ i,i≤5→0≤z i∧z i≤5000:=fun i hi=>by
    rw [hz]
    have h9:=cntN_le C i
    have h8:st * (cntN C i:Nat)≤1000 * 5:=Int.mul_le_mul hrv.2.1.2 (by omega) (by omega) (by omega)
    have h7:0≤st * (cntN C i:Nat):=Int.mul_nonneg hrv.2.1.1 (by omega)
    exact ⟨h7,h8⟩
  have hze:st * (cntN C f.li.length:Nat)=z f.li.length:=by rw [hz]
  rw [hze]
  have hHn:=hHb _ (List.getElem_mem hnH)
  have hbe:=fun i (hi:i < HO.length)=>f71 ta tb RI HO i n hi hnH
  clear hz hze hres hC hrul hofn
  obtain ⟨ru,nn,li⟩:=f
  simp only at hl5 hn hlvn hkk hrc hoc hR hH hCn ⊢
  clear hf
  refine PFun.of (C:=c45) (cx_ok _ _ _) rfl (fn:=Tryz.f45) (by kernel_rfl) (c:=_) rfl rfl rfl ?_
  refine rS (rN (cx_ok _ _ _) (rO rfl (Ope.boxF rfl rfl ?_)))
  refine rO rfl (Ope.boxF rfl rfl ?_)
  refine rO rfl (oA rfl ?_)
  refine rI (rS (Run.draw (cx_ok _ _ _) [(0,true),(1,false),(2,true),(3,false),(4,true),(5,true),(6,true),(7,false),(8,true),(9,false),(10,true),(11,true)] (by kernel_rfl) (dO rfl rfl rfl .sure (Ope.fld rfl rfl ?_))))
  refine dO rfl rfl rfl (.load rfl) (oL rfl rfl ?_)
  refine dO rfl rfl rfl .sure (Ope.fld rfl rfl ?_)
  refine dO rfl rfl rfl (.load rfl) (oL rfl rfl ?_)
  refine dO rfl rfl rfl .sure (oM rfl ?_)
  refine dO rfl rfl rfl .sure (Ope.idxM (m:=n) (f:=Ofc.v) rfl rfl rfl hn (fun _=>rfl) ?_)
  rw [hoc]
  refine dO rfl rfl rfl .sure (Ope.fld rfl rfl ?_)
  refine dO rfl rfl rfl (.load rfl) (oL rfl rfl ?_)
  refine dO rfl rfl rfl .sure (Ope.idxM (m:=kk) (f:=Rul.v) rfl rfl rfl hkk (fun _=>rfl) ?_)
  rw [hrc]
  refine dO rfl rfl rfl (.load rfl) (oL rfl rfl ?_)
  refine dO rfl rfl rfl .sure (Ope.newL rfl ?_)
  refine dO rfl rfl rfl .sure (Ope.store rfl rfl hget_hd rfl rfl rfl ?_)
  refine Dra.nil (rS (Run.frz (d:=7) true rfl hget_hd rfl ?_))
  refine Run.wide (m:=1) (l':=[]) (Nat.le_refl _) trivial ?_
  refine rN (cx_ok _ _ _) (rO rfl (Ope.fld rfl rfl ?_))
  refine rO rfl (oL rfl rfl ?_)
  refine rO rfl (oA rfl ?_)
  refine rI (rS (rS (rN (cx_ok _ _ _) (rO rfl (oA rfl ?_)))))
  refine rI (Run.block (Run.loop (α:=Nat) (fun i=>[(2,N n),(3,.fp ((⟨ru,nn,li⟩:Fns).v t1 t2)),(4,.fp (tR ta tb RI HO)),(7,.fp (.agg [I ba,I st,I mo,I wi])),(8,I (ba+z i)),(9,I i)]) (fun i=>HE 1 []) (fun i=>i≤li.length) (fun i=>li.length - i) 0 ⟨rfl,rfl,rfl,rfl,by rw [hz0];show some (I ba)=some (I (ba+0));rw [Int.add_zero],rfl,trivial⟩ rfl (Nat.zero_le _) (fun i hi=>?_)))
  refine rS (rS (rN (cx_ok _ _ _) (rO rfl (oM rfl ?_))))
  refine rO rfl (Ope.fld rfl rfl ?_)
  refine rO rfl (oL rfl rfl ?_)
  refine rO rfl (Ope.len (m:=li.length) rfl (by simp) ?_)
  refine rO rfl (Ope.lt rfl rfl ?_)
  refine rI (rC rfl (fun hc=>?_) fun hc=>?_)
  ·refine Run.skip (rS (Run.block (rS ?_)))
   have hil:i < li.length:=by omega
   have hiR:i < RI.length:=by omega
   have hiH:i < HO.length:=by omega
   have hCi:=hCn i hil hiR hiH
   have hzi:=hzs i
   have hzB:=hzb i (by omega)
   have hbi:=hbe i hiH
   have hHi:=hHb _ (List.getElem_mem hiH)
   have hin:¬ i=n∨HO[i]=HO[n]:=by
     by_cases e:i=n
     · subst e;exact .inr rfl
     · exact .inl e
   refine Run.draw (cx_ok _ _ _) [(0,true),(1,true),(2,true),(3,true),(4,true),(5,true),(6,true),(7,true),(8,true),(9,true),(10,true),(11,true),(12,true),(13,true),(14,true),(15,true),(16,true),(17,true),(18,true),(19,true),(20,true),(21,true),(22,true),(23,true),(24,true),(25,true),(26,true),(27,true),(28,true),(29,true),(30,true),(31,true),(32,true),(33,true),(34,true),(35,true),(36,true),(37,true),(38,true),(39,true),(40,true),(41,true),(42,true),(43,true),(44,true),(45,true),(46,true),(47,true)] (by kernel_rfl) (dO rfl rfl rfl .sure (Ope.fld rfl rfl ?_))
   refine dO rfl rfl rfl .sure (oL rfl rfl ?_)
   refine dO rfl rfl rfl .sure (oM rfl ?_)
   refine dO rfl rfl rfl .sure (Ope.idxM (m:=i) (f:=Ofc.v) rfl rfl rfl hil (fun _=>rfl) ?_)
   refine dO rfl rfl rfl .sure (Ope.fld rfl rfl ?_)
   refine dO rfl rfl rfl .sure (oL rfl rfl ?_)
   refine dO rfl rfl rfl .sure (Ope.fld rfl rfl ?_)
   refine dO rfl rfl rfl .sure (oL rfl rfl ?_)
   refine dO rfl rfl rfl .sure (oM rfl ?_)
   refine dO rfl rfl rfl .sure (Ope.idxM (m:=n) (f:=Ofc.v) rfl rfl rfl hn (fun _=>rfl) ?_)
   rw [hoc]
   refine dO rfl rfl rfl .sure (Ope.fld rfl rfl ?_)
   refine dO rfl rfl rfl .sure (oL rfl rfl ?_)
   refine dO rfl rfl rfl .sure (Ope.eq rfl rfl ?_)
   refine dO rfl rfl rfl .sure (oM rfl ?_)
   refine Dra.splitX rfl rfl rfl rfl (fun hg=>?_) fun hg=>?_
   ·refine Dra.on' rfl rfl rfl rfl rfl .sure (Ope.fld rfl rfl ?_)
    refine Dra.on' rfl rfl rfl rfl rfl .sure (oL rfl rfl ?_)
    refine Dra.on' rfl rfl rfl rfl rfl .sure (oM rfl ?_)
    refine Dra.on' rfl rfl rfl rfl rfl .sure (Ope.idxM (m:=i) (f:=I) rfl rfl rfl hiR (fun _=>rfl) ?_)
    refine Dra.on' rfl rfl rfl rfl rfl .sure (oL rfl rfl ?_)
    refine Dra.on' rfl rfl rfl rfl rfl .sure (Ope.fld rfl rfl ?_)
    refine Dra.on' rfl rfl rfl rfl rfl .sure (oL rfl rfl ?_)
    refine Dra.on' rfl rfl rfl rfl rfl .sure (oM rfl ?_)
    refine Dra.on' rfl rfl rfl rfl rfl .sure (Ope.idxM (m:=n) (f:=I) rfl rfl rfl hnR (fun _=>rfl) ?_)
    refine Dra.on' rfl rfl rfl rfl rfl .sure (oL rfl rfl ?_)
    refine Dra.on' rfl rfl rfl rfl rfl .sure (Ope.eq rfl rfl ?_)
    refine dO rfl rfl rfl .sure (Ope.pickT rfl rfl ?_)
    refine dO rfl rfl rfl .sure (oM rfl ?_)
    refine Dra.splitX rfl rfl rfl rfl (fun hg=>?_) fun hg=>?_
    ·refine Dra.on' rfl rfl rfl rfl rfl .sure (oL rfl rfl ?_)
     refine Dra.on' rfl rfl rfl rfl rfl .sure (oM rfl ?_)
     refine Dra.on' rfl rfl rfl rfl rfl .sure (oM rfl ?_)
     refine Dra.on' rfl rfl rfl rfl rfl .sure (Ope.cf rfl rfl hbi (hbt _ _) ?_)
     refine dO rfl rfl rfl .sure (Ope.pickT rfl rfl ?_)
     refine dO rfl rfl rfl .sure (oM rfl ?_)
     refine Dra.splitX rfl rfl rfl rfl (fun hg=>?_) fun hg=>?_
     ·refine Dra.on' rfl rfl rfl rfl rfl .sure (Ope.fld rfl rfl ?_)
      refine Dra.on' rfl rfl rfl rfl rfl .sure (oL rfl rfl ?_)
      refine Dra.on' rfl rfl rfl rfl rfl .sure (oM rfl ?_)
      refine Dra.on' rfl rfl rfl rfl rfl .sure (Ope.idxM (m:=i) (f:=I) rfl rfl rfl hiH (fun _=>rfl) ?_)
      refine Dra.on' rfl rfl rfl rfl rfl .sure (oL rfl rfl ?_)
      refine Dra.on' rfl rfl rfl rfl rfl .sure (Ope.fld rfl rfl ?_)
      refine Dra.on' rfl rfl rfl rfl rfl .sure (oL rfl rfl ?_)
      refine Dra.on' rfl rfl rfl rfl rfl .sure (oM rfl ?_)
      refine Dra.on' rfl rfl rfl rfl rfl .sure (Ope.idxM (m:=n) (f:=I) rfl rfl rfl hnH (fun _=>rfl) ?_)
      refine Dra.on' rfl rfl rfl rfl rfl .sure (oL rfl rfl ?_)
      refine Dra.on' rfl rfl rfl rfl rfl .sure (Ope.fld rfl rfl ?_)
      refine Dra.on' rfl rfl rfl rfl rfl .sure (oL rfl rfl ?_)
      refine Dra.on' rfl rfl rfl rfl rfl .sure (Ope.sub rfl rfl (by omega) ?_)
      refine Dra.on' rfl rfl rfl rfl rfl .sure (Ope.ge rfl rfl ?_)
      refine dO rfl rfl rfl .sure (Ope.pickT rfl rfl ?_)
      refine Dra.nil (rC rfl (fun hc=>?_) fun hc=>?_)
      ·refine rN (cx_ok _ _ _) (rO rfl (oM rfl ?_))
       refine rO rfl (Ope.fld rfl rfl ?_)
       refine rO rfl (oL rfl rfl ?_)
       refine rO rfl (Ope.add rfl rfl (by omega) ?_)
       refine rO rfl (oA rfl ?_)
       refine rI (Run.bend (rN (cx_ok _ _ _) (rO rfl (oM rfl ?_))))
       refine rO rfl (Ope.add rfl rfl (by omega) ?_)
       refine rO rfl (oA rfl ?_)
       refine rI ?_
       first
       | exact Run.lend ⟨i+1,by omega,by omega,⟨rfl,rfl,rfl,rfl,by rw [hzi,hCi,if_pos (decide_eq_true (by simp only at *;omega))];show some (I (ba+z i+st))=some (I (ba+(z i+st)));rw [Int.add_assoc],rfl,trivial⟩,rfl,rfl⟩
       | exact Run.lend ⟨i+1,by omega,by omega,⟨rfl,rfl,rfl,rfl,by rw [hzi,hCi,if_neg (by rw [decide_eq_true_eq];simp only at *;omega)];show some (I (ba+z i))=some (I (ba+(z i+0)));rw [Int.add_zero],rfl,trivial⟩,rfl,rfl⟩
      ·refine Run.skip (Run.bend (rN (cx_ok _ _ _) (rO rfl (oM rfl ?_))))
       refine rO rfl (Ope.add rfl rfl (by omega) ?_)
       refine rO rfl (oA rfl ?_)
       refine rI ?_
       first
       | exact Run.lend ⟨i+1,by omega,by omega,⟨rfl,rfl,rfl,rfl,by rw [hzi,hCi,if_pos (decide_eq_true (by simp only at *;omega))];show some (I (ba+z i+st))=some (I (ba+(z i+st)));rw [Int.add_assoc],rfl,trivial⟩,rfl,rfl⟩
       | exact Run.lend ⟨i+1,by omega,by omega,⟨rfl,rfl,rfl,rfl,by rw [hzi,hCi,if_neg (by rw [decide_eq_true_eq];simp only at *;omega)];show some (I (ba+z i))=some (I (ba+(z i+0)));rw [Int.add_zero],rfl,trivial⟩,rfl,rfl⟩
     ·refine dF rfl rfl rfl (.inl rfl) rfl (dF rfl rfl rfl (.inl rfl) rfl (dF rfl rfl rfl (.inl rfl) rfl (dF rfl rfl rfl (.inl rfl) rfl (dF rfl rfl rfl (.inl rfl) rfl (dF rfl rfl rfl (.inl rfl) rfl (dF rfl rfl rfl (.inl rfl) rfl (dF rfl rfl rfl (.inl rfl) rfl (dF rfl rfl rfl (.inl rfl) rfl (dF rfl rfl rfl (.inl rfl) rfl (dF rfl rfl rfl (.inl rfl) rfl (dF rfl rfl rfl (.inl rfl) rfl (dF rfl rfl rfl (.inl rfl) rfl (dF rfl rfl rfl (.inl rfl) rfl (dO rfl rfl rfl .sure (Ope.pickF rfl rfl ?_)))))))))))))))
      refine Dra.nil (Run.condF rfl (Run.skip (Run.bend (rN (cx_ok _ _ _) (rO rfl (oM rfl ?_))))))
      refine rO rfl (Ope.add rfl rfl (by omega) ?_)
      refine rO rfl (oA rfl ?_)
      refine rI ?_
      first
      | exact Run.lend ⟨i+1,by omega,by omega,⟨rfl,rfl,rfl,rfl,by rw [hzi,hCi,if_pos (decide_eq_true (by simp only at *;omega))];show some (I (ba+z i+st))=some (I (ba+(z i+st)));rw [Int.add_assoc],rfl,trivial⟩,rfl,rfl⟩
      | exact Run.lend ⟨i+1,by omega,by omega,⟨rfl,rfl,rfl,rfl,by rw [hzi,hCi,if_neg (by rw [decide_eq_true_eq];simp only at *;omega)];show some (I (ba+z i))=some (I (ba+(z i+0)));rw [Int.add_zero],rfl,trivial⟩,rfl,rfl⟩
    ·refine dF rfl rfl rfl (.inl rfl) rfl (dF rfl rfl rfl (.inl rfl) rfl (dF rfl rfl rfl (.inl rfl) rfl (dF rfl rfl rfl (.inl rfl) rfl (dO rfl rfl rfl .sure (Ope.pickF rfl rfl ?_)))))
     refine dO rfl rfl rfl .sure (oM rfl ?_)
     refine dF rfl rfl rfl (.inl rfl) rfl (dF rfl rfl rfl (.inl rfl) rfl (dF rfl rfl rfl (.inl rfl) rfl (dF rfl rfl rfl (.inl rfl) rfl (dF rfl rfl rfl (.inl rfl) rfl (dF rfl rfl rfl (.inl rfl) rfl (dF rfl rfl rfl (.inl rfl) rfl (dF rfl rfl rfl (.inl rfl) rfl (dF rfl rfl rfl (.inl rfl) rfl (dF rfl rfl rfl (.inl rfl) rfl (dF rfl rfl rfl (.inl rfl) rfl (dF rfl rfl rfl (.inl rfl) rfl (dF rfl rfl rfl (.inl rfl) rfl (dF rfl rfl rfl (.inl rfl) rfl (dO rfl rfl rfl .sure (Ope.pickF rfl rfl ?_)))))))))))))))
     refine Dra.nil (Run.condF rfl (Run.skip (Run.bend (rN (cx_ok _ _ _) (rO rfl (oM rfl ?_))))))
     refine rO rfl (Ope.add rfl rfl (by omega) ?_)
     refine rO rfl (oA rfl ?_)
     refine rI ?_
     first
     | exact Run.lend ⟨i+1,by omega,by omega,⟨rfl,rfl,rfl,rfl,by rw [hzi,hCi,if_pos (decide_eq_true (by simp only at *;omega))];show some (I (ba+z i+st))=some (I (ba+(z i+st)));rw [Int.add_assoc],rfl,trivial⟩,rfl,rfl⟩
     | exact Run.lend ⟨i+1,by omega,by omega,⟨rfl,rfl,rfl,rfl,by rw [hzi,hCi,if_neg (by rw [decide_eq_true_eq];simp only at *;omega)];show some (I (ba+z i))=some (I (ba+(z i+0)));rw [Int.add_zero],rfl,trivial⟩,rfl,rfl⟩
   ·refine dF rfl rfl rfl (.inl rfl) rfl (dF rfl rfl rfl (.inl rfl) rfl (dF rfl rfl rfl (.inl rfl) rfl (dF rfl rfl rfl (.inl rfl) rfl (dF rfl rfl rfl (.inl rfl) rfl (dF rfl rfl rfl (.inl rfl) rfl (dF rfl rfl rfl (.inl rfl) rfl (dF rfl rfl rfl (.inl rfl) rfl (dF rfl rfl rfl (.inl rfl) rfl (dF rfl rfl rfl (.inl rfl) rfl (dF rfl rfl rfl (.inl rfl) rfl (dO rfl rfl rfl .sure (Ope.pickF rfl rfl ?_))))))))))))
    refine dO rfl rfl rfl .sure (oM rfl ?_)
    refine dF rfl rfl rfl (.inl rfl) rfl (dF rfl rfl rfl (.inl rfl) rfl (dF rfl rfl rfl (.inl rfl) rfl (dF rfl rfl rfl (.inl rfl) rfl (dO rfl rfl rfl .sure (Ope.pickF rfl rfl ?_)))))
    refine dO rfl rfl rfl .sure (oM rfl ?_)
    refine dF rfl rfl rfl (.inl rfl) rfl (dF rfl rfl rfl (.inl rfl) rfl (dF rfl rfl rfl (.inl rfl) rfl (dF rfl rfl rfl (.inl rfl) rfl (dF rfl rfl rfl (.inl rfl) rfl (dF rfl rfl rfl (.inl rfl) rfl (dF rfl rfl rfl (.inl rfl) rfl (dF rfl rfl rfl (.inl rfl) rfl (dF rfl rfl rfl (.inl rfl) rfl (dF rfl rfl rfl (.inl rfl) rfl (dF rfl rfl rfl (.inl rfl) rfl (dF rfl rfl rfl (.inl rfl) rfl (dF rfl rfl rfl (.inl rfl) rfl (dF rfl rfl rfl (.inl rfl) rfl (dO rfl rfl rfl .sure (Ope.pickF rfl rfl ?_)))))))))))))))
    refine Dra.nil (Run.condF rfl (Run.skip (Run.bend (rN (cx_ok _ _ _) (rO rfl (oM rfl ?_))))))
    refine rO rfl (Ope.add rfl rfl (by omega) ?_)
    refine rO rfl (oA rfl ?_)
    refine rI ?_
    first
    | exact Run.lend ⟨i+1,by omega,by omega,⟨rfl,rfl,rfl,rfl,by rw [hzi,hCi,if_pos (decide_eq_true (by simp only at *;omega))];show some (I (ba+z i+st))=some (I (ba+(z i+st)));rw [Int.add_assoc],rfl,trivial⟩,rfl,rfl⟩
    | exact Run.lend ⟨i+1,by omega,by omega,⟨rfl,rfl,rfl,rfl,by rw [hzi,hCi,if_neg (by rw [decide_eq_true_eq];simp only at *;omega)];show some (I (ba+z i))=some (I (ba+(z i+0)));rw [Int.add_zero],rfl,trivial⟩,rfl,rfl⟩
  ·refine Run.exit (Jmp.code (Jmp.round (Jmp.here (rS ?_))))
   obtain rfl:i=li.length:=by omega
   refine rN (cx_ok _ _ _) (rO rfl (oM rfl ?_))
   refine rO rfl (Ope.fld rfl rfl ?_)
   refine rO rfl (oL rfl rfl ?_)
   refine rO rfl (Ope.minI rfl rfl ?_)
   refine rO rfl (oA rfl ?_)
   exact rI (Run.ret (fin_ret (.tmp rfl .nil) rfl rfl))
end
end Go.Pv
namespace Go.Pv
open Go.Proofs Go.Am
set_option maxRecDepth 10000
set_option maxHeartbeats 4000000
theorem f72 (r:Nat) (hr:r≤100):Fn P0 72 [N r] (I (part (r:Int))):=by
  refine PFun.of (C:=c72) (cx_ok _ _ _) rfl (fn:=Tryz.f72) (by kernel_rfl) (c:=_) rfl rfl rfl ?_
  refine rS (rN (cx_ok _ _ _) (rO rfl (oA rfl ?_)))
  refine rI (rS (rS (rN (cx_ok _ _ _) (rO rfl (oM rfl ?_)))))
  refine rO rfl (Ope.remN (p:=r) (q:=2) rfl rfl rfl rfl (by decide) ?_)
  refine rO rfl (Ope.eq rfl rfl ?_)
  refine rI (rC rfl (fun hc=>?_) fun hc=>?_)
  ·refine rS (rN (cx_ok _ _ _) (rO rfl (oM rfl ?_)))
   refine rO rfl (Ope.add rfl rfl (by omega) ?_)
   refine rO rfl (oA rfl ?_)
   refine rI (Run.ret (Jmp.code (fin_ret (.tmp rfl .nil) rfl ?_)))
   (refine congrArg I ?_;unfold part;first | (rw [if_pos (by omega)];done) | (rw [if_neg (by omega)];done) | (split<;>omega))
  ·refine Run.skip (rS (rN (cx_ok _ _ _) (rO rfl (oM rfl ?_))))
   refine rO rfl (Ope.sub rfl rfl (by omega) ?_)
   refine rO rfl (oA rfl ?_)
   refine rI (Run.ret (fin_ret (.tmp rfl .nil) rfl ?_))
   (refine congrArg I ?_;unfold part;first | (rw [if_pos (by omega)];done) | (rw [if_neg (by omega)];done) | (split<;>omega))
def hstp (e:Spn) (y:Int):Spn:=⟨min e.lo y,max e.hi y⟩
theorem hull_two (x:Int) (xs:List Int):(x::xs).foldl hstp ⟨x,x⟩=hullL (x::xs):=by
  show xs.foldl hstp ⟨min x x,max x x⟩=xs.foldl _ ⟨x,x⟩
  rw [Int.min_self,Int.max_self]
  rfl
theorem f46 (tl:Tail) (htl:tl.isOwn=false) (xs:List Int) (hne:xs≠[]) (hl:xs.length≤2000000):Fn P0 46 [.sl tl (xs.map I)] (hullL xs).v:=by
  obtain ⟨x,ys,rfl⟩:=List.exists_cons_of_ne_nil hne
  have h0:0 < (x::ys).length:=by simp
  have hz:=hull_two x ys
  obtain ⟨E,hE⟩:∃ E:Nat→Spn,E=fun i=>((x::ys).take i).foldl hstp ⟨x,x⟩:=⟨_,rfl⟩
  have hE0:E 0=⟨x,x⟩:=by rw [hE];rfl
  have hEs:∀ i (h:i < (x::ys).length),E (i+1)=hstp (E i) (x::ys)[i]:=fun i h=>by
    rw [hE]
    show ((x::ys).take (i+1)).foldl hstp ⟨x,x⟩=_
    rw [List.take_succ_eq_append_getElem h,List.foldl_append]
    rfl
  have hEn:E (x::ys).length=hullL (x::ys):=by rw [hE,← hz];show ((x::ys).take _).foldl _ _=_;rw [List.take_length]
  rw [← hEn]
  have hx0:(x::ys)[0]=x:=rfl
  generalize x::ys=L at *
  clear hz hEn hE
  refine PFun.of (C:=c46) (cx_ok _ _ _) rfl (fn:=Tryz.f46) (by kernel_rfl) (c:=_) rfl rfl rfl ?_
  refine rS (rN (cx_ok _ _ _) (rO rfl (Ope.newL rfl ?_)))
  refine rI (rS (Run.draw (cx_ok _ _ _) [(0,true),(1,true),(2,false),(3,true),(4,true),(5,false),(6,true),(7,true),(8,true)] (by kernel_rfl) (dO rfl rfl rfl .sure (oM rfl ?_))))
  refine dO rfl rfl rfl .sure (Ope.idxM (m:=0) (f:=I) rfl rfl rfl h0 (fun _=>rfl) ?_)
  refine dO rfl rfl rfl (.load rfl) (oL rfl rfl ?_)
  refine dO rfl rfl rfl .sure (oM rfl ?_)
  refine dO rfl rfl rfl .sure (Ope.idxM (m:=0) (f:=I) rfl rfl rfl h0 (fun _=>rfl) ?_)
  refine dO rfl rfl rfl (.load rfl) (oL rfl rfl ?_)
  refine dO rfl rfl rfl .sure (Ope.bld rfl rfl ?_)
  refine dO rfl rfl rfl .sure (Ope.newL rfl ?_)
  refine dO rfl rfl rfl .sure (Ope.store rfl rfl hget_hd rfl rfl rfl ?_)
  refine Dra.nil (rS (rS (rN (cx_ok _ _ _) (rO rfl (oA rfl ?_)))))
  refine rI (Run.block (Run.wide (m:=2) (l':=[(1,some (.cells [I (E 0).lo,I (E 0).hi])),(0,some (.cells [I 0,I 0]))]) (Nat.le_refl _) ⟨hget_hd.trans (by rw [hE0,hx0]),rfl,trivial⟩ ?_))
  refine Run.loop (α:=Nat) (fun i=>[(0,.sl tl (L.map I)),(2,.ptr 0 0),(3,.ptr 1 0),(4,I i)]) (fun i=>HE 2 [(1,some (.cells [I (E i).lo,I (E i).hi])),(0,some (.cells [I 0,I 0]))]) (fun i=>i≤L.length) (fun i=>L.length - i) 0 ⟨rfl,rfl,rfl,rfl,trivial⟩ rfl (Nat.zero_le _) (fun i hi=>?_)
  refine rS (rS (rN (cx_ok _ _ _) (rO rfl (oM rfl ?_))))
  refine rO rfl (oM rfl ?_)
  refine rO rfl (Ope.len (m:=L.length) rfl (by simp) ?_)
  refine rO rfl (Ope.lt rfl rfl ?_)
  refine rI (rC rfl (fun hc=>?_) fun hc=>?_)
  ·refine Run.skip (rS (Run.block ?_))
   have hil:i < L.length:=by omega
   have hs:=hEs i hil
   refine Run.draw (cx_ok _ _ _) [(0,true),(1,true),(2,true),(3,true),(4,true),(5,true),(6,true),(7,true),(8,true),(9,true),(10,true),(11,true),(12,true),(13,true),(14,true),(15,true)] (by kernel_rfl) (dO rfl rfl rfl .sure (Ope.fld rfl rfl ?_))
   refine dO rfl rfl rfl .sure (oL rfl rfl ?_)
   refine dO rfl rfl rfl .sure (oM rfl ?_)
   refine dO rfl rfl rfl .sure (oM rfl ?_)
   refine dO rfl rfl rfl .sure (Ope.idxM (m:=i) (f:=I) rfl rfl rfl hil (fun _=>rfl) ?_)
   refine dO rfl rfl rfl .sure (oL rfl rfl ?_)
   refine dO rfl rfl rfl .sure (Ope.minI rfl rfl ?_)
   refine dO rfl rfl rfl .sure (Ope.fld rfl rfl ?_)
   refine dO rfl rfl rfl .sure (oL rfl rfl ?_)
   refine dO rfl rfl rfl .sure (oM rfl ?_)
   refine dO rfl rfl rfl .sure (oM rfl ?_)
   refine dO rfl rfl rfl .sure (Ope.idxM (m:=i) (f:=I) rfl rfl rfl hil (fun _=>rfl) ?_)
   refine dO rfl rfl rfl .sure (oL rfl rfl ?_)
   refine dO rfl rfl rfl .sure (Ope.maxI rfl rfl ?_)
   refine dO rfl rfl rfl .sure (Ope.bld rfl rfl ?_)
   refine dO rfl rfl rfl .sure (Ope.store rfl rfl hget_hd rfl rfl rfl ?_)
   refine Dra.nil (Run.bend (Run.wide (m:=2) (l':=[(1,some (.cells [I (E (i+1)).lo,I (E (i+1)).hi])),(0,some (.cells [I 0,I 0]))]) (Nat.le_refl _) ⟨hget_hd.trans (by rw [hs];rfl),rfl,trivial⟩ ?_))
   refine rN (cx_ok _ _ _) (rO rfl (oM rfl ?_))
   refine rO rfl (Ope.add rfl rfl (by omega) ?_)
   refine rO rfl (oA rfl ?_)
   exact rI (Run.lend ⟨i+1,by omega,by omega,⟨rfl,rfl,rfl,rfl,trivial⟩,rfl,rfl⟩)
  ·refine Run.exit (Jmp.code (Jmp.round (Jmp.here (rS ?_))))
   obtain rfl:i=L.length:=by omega
   refine rN (cx_ok _ _ _) (rO rfl (oL rfl rfl ?_))
   refine Reg.op0 (Ope.store rfl rfl rfl rfl rfl rfl ?_)
   exact rI (Run.ret (fin_ret (.cell rfl rfl .nil) rfl rfl))
section
variable (f:Fns) {t1 t2:Tail} (h1:t1.isOwn=false) (h2:t2.isOwn=false)
include h1 h2
def rdB (f:Fns) (n:Int):Bool:=inB n 0 (Go.Am.fwrap IntKind.i64 (f.n - 1))
omit h1 h2 in
theorem rdB_ok {f:Fns} (hf:f.ok) (n:Int):rdB f n=numB f.n n:=by
  have hn:=hf.n
  unfold rdB inB numB
  rw [Go.Am.fwrap_eq,wrap_in _ (by omega) (by omega)]
  congr 1
  exact decide_eq_decide.2 (by omega)
theorem f49 (n:Int):Fn P0 49 [f.v t1 t2,I n] (B (rdB f n)):=by
  have hin:=f44 n 0 (Go.Am.fwrap IntKind.i64 (f.n - 1))
  refine PFun.of (C:=c49) (cx_ok _ _ _) rfl (fn:=Tryz.f49) (by kernel_rfl) (c:=_) rfl rfl rfl ?_
  refine rS (rN (cx_ok _ _ _) (rO rfl (Ope.boxF rfl rfl ?_)))
  refine rO rfl (oA rfl ?_)
  refine rI (rS (rN (cx_ok _ _ _) (rO rfl (oM rfl ?_))))
  refine rO rfl (Ope.fld rfl rfl ?_)
  refine rO rfl (oL rfl rfl ?_)
  refine rO rfl (Ope.bin rfl rfl rfl ?_)
  refine rO rfl (Ope.cf rfl rfl hin rfl ?_)
  refine rO rfl (oA rfl ?_)
  exact rI (Run.ret (fin_ret (.tmp rfl .nil) rfl rfl))
def ckI (f:Fns) (b:Bool):Int:=if f.B=true then (if b=true then 0 else 2) else 1
theorem f43 (hS:f.ru.length≤9223372036854775807) (hJ:f.li.length≤9223372036854775807) (b:Bool):Fn P0 43 [f.v t1 t2,B b] (I (ckI f b)):=by
  have hfi:=f26 f h1 h2 hS hJ
  have hb0:PV.bds 0 [f.v t1 t2]=true:=bd_fnsV f h1 h2 rfl
  unfold ckI
  generalize f.B=y at *
  refine PFun.of (C:=c43) (cx_ok _ _ _) rfl (fn:=Tryz.f43) (by kernel_rfl) (c:=_) rfl rfl rfl ?_
  refine rS (rN (cx_ok _ _ _) (rO rfl (Ope.boxF rfl rfl ?_)))
  refine rO rfl (oA rfl ?_)
  refine rI (rS (rS (rN (cx_ok _ _ _) (rO rfl (oL rfl rfl ?_)))))
  refine rO rfl (Ope.cf rfl rfl hfi hb0 ?_)
  refine rO rfl (Ope.not rfl ?_)
  refine rI (rC rfl (fun hc=>?_) fun hc=>?_)
  ·refine rS (rN (cx_ok _ _ _) (rO rfl (oA rfl ?_)))
   refine rI (Run.ret (Jmp.code (fin_ret (.tmp rfl .nil) rfl ?_)))
   (refine congrArg I ?_;simp_all)
  ·refine Run.skip (rS (rS (rN (cx_ok _ _ _) (rO rfl (oM rfl ?_)))))
   refine rO rfl (Ope.not rfl ?_)
   refine rI (rC rfl (fun hc=>?_) fun hc=>?_)
   ·refine rS (rN (cx_ok _ _ _) (rO rfl (oA rfl ?_)))
    refine rI (Run.ret (Jmp.code (fin_ret (.tmp rfl .nil) rfl ?_)))
    (refine congrArg I ?_;simp_all)
   ·refine Run.skip (rS (rN (cx_ok _ _ _) (rO rfl (oA rfl ?_))))
    refine rI (Run.ret (fin_ret (.tmp rfl .nil) rfl ?_))
    (refine congrArg I ?_;simp_all)
def sF (f:Fns) (r:Int) (RI HO:List Int) (i:Nat):Int:=isum ((List.range i).map fun k=>if RI.getD k 0=r then cR f RI HO k else 0)
def sP (f:Fns) (r:Int) (RI HO:List Int) (i:Nat):Int:=isum ((List.range i).map fun k=>((if RI.getD k 0=r then cR f RI HO k else 0)+1) / 2+(if RI.getD k 0=part r then cR f RI HO k else 0) / 2)
omit h1 h2 in
theorem sum_range (g:Nat→Int) (i:Nat):isum ((List.range (i+1)).map g)=isum ((List.range i).map g)+g i:=by
  rw [List.range_succ,List.map_append,isum_app]
  simp [isum]
theorem f50 (hf:f.ok) (RI HO:List Int) (hR:RI.length=f.li.length) (hH:HO.length=f.li.length) (hHb:∀ x∈HO,0≤x∧x≤144) (r:Int):Fn P0 50 [f.v t1 t2,tR .no .no RI HO,I r] (I (sF f r RI HO f.li.length)):=by
  have hl5:=hf.li
  have hco:=fun n hn=>f45 f h1 h2 hf .no .no rfl rfl RI HO hR hH hHb n hn
  have hbt:∀ a:Nat,PV.bds 0 [f.v t1 t2,tR .no .no RI HO,N a]=true:=fun a=>bd_fnsV f h1 h2 (bds_cons (bd_agg (bds_cons (bd_sl (f:=I) (tl:=.no) rfl (fun _=>rfl) _) (bds_cons (bd_sl (f:=I) (tl:=.no) rfl (fun _=>rfl) _) rfl))) rfl)
  have hcb:=fun n=>cR_bd hf RI HO n
  obtain ⟨z,hz⟩:∃ z:Nat→Int,sF f r RI HO=z:=⟨_,rfl⟩
  have hz0:z 0=0:=by rw [← hz];rfl
  have hzs:∀ i (h:i < RI.length),z (i+1)=z i+if RI[i]=r then cR f RI HO i else 0:=fun i h=>by
    rw [← hz]
    unfold sF
    rw [sum_range,show RI.getD i 0=RI[i] from by simp [List.getD,h]]
  have hzb:∀ i:Nat,i≤RI.length→0≤z i∧z i≤1000 * i:=fun i=>by
    induction i with
    | zero=>intro _;rw [hz0];exact ⟨by decide,by decide⟩
    | succ i ih =>
      intro hi
      have h1:=ih (by omega)
      have h2:=hcb i
      rw [hzs i (by omega)]
      split<;>constructor<;>push_cast<;>omega
  rw [hz]
  generalize cR f RI HO=c at *
  clear hz
  obtain ⟨ru,nn,li⟩:=f
  simp only at hl5 hR hH hco ⊢
  clear hf
  refine PFun.of (C:=c50) (cx_ok _ _ _) rfl (fn:=Tryz.f50) (by kernel_rfl) (c:=_) rfl rfl rfl ?_
  refine rS (rN (cx_ok _ _ _) (rO rfl (Ope.boxF rfl rfl ?_)))
  refine rO rfl (Ope.boxF rfl rfl ?_)
  refine rO rfl (oA rfl ?_)
  refine rI (rS (rN (cx_ok _ _ _) (rO rfl (oA rfl ?_))))
  refine rI (rS (rS (rN (cx_ok _ _ _) (rO rfl (oA rfl ?_)))))
  refine rI (Run.block (Run.loop (α:=Nat) (fun i=>[(2,I r),(3,.fp ((⟨ru,nn,li⟩:Fns).v t1 t2)),(4,.fp (tR .no .no RI HO)),(7,I (z i)),(8,I i)]) (fun i=>HE 0 []) (fun i=>i≤li.length) (fun i=>li.length - i) 0 ⟨rfl,rfl,rfl,by rw [hz0];rfl,rfl,trivial⟩ rfl (Nat.zero_le _) (fun i hi=>?_)))
  refine rS (rS (rN (cx_ok _ _ _) (rO rfl (oM rfl ?_))))
  refine rO rfl (Ope.fld rfl rfl ?_)
  refine rO rfl (oL rfl rfl ?_)
  refine rO rfl (Ope.len (m:=li.length) rfl (by simp) ?_)
  refine rO rfl (Ope.lt rfl rfl ?_)
  refine rI (rC rfl (fun hc=>?_) fun hc=>?_)
  ·refine Run.skip (rS (Run.block (rS ?_)))
   have hil:i < li.length:=by omega
   have hiR:i < RI.length:=by omega
   have hzi:=hzs i hiR
   have hzB:=hzb i (by omega)
   have hcB:=hcb i
   have hci:=hco i hil
   refine rN (cx_ok _ _ _) (rO rfl (Ope.fld rfl rfl ?_))
   refine rO rfl (oL rfl rfl ?_)
   refine rO rfl (oM rfl ?_)
   refine rO rfl (Ope.idxM (m:=i) (f:=I) rfl rfl rfl hiR (fun _=>rfl) ?_)
   refine rO rfl (oL rfl rfl ?_)
   refine rO rfl (oM rfl ?_)
   refine rO rfl (Ope.eq rfl rfl ?_)
   refine rI (rC rfl (fun hc=>?_) fun hc=>?_)
   ·refine rN (cx_ok _ _ _) (rO rfl (oM rfl ?_))
    refine rO rfl (oL rfl rfl ?_)
    refine rO rfl (oL rfl rfl ?_)
    refine rO rfl (oM rfl ?_)
    refine rO rfl (Ope.cf rfl rfl hci (hbt _) ?_)
    refine rO rfl (Ope.add rfl rfl (by omega) ?_)
    refine rO rfl (oA rfl ?_)
    refine rI (Run.bend (rN (cx_ok _ _ _) (rO rfl (oM rfl ?_))))
    refine rO rfl (Ope.add rfl rfl (by omega) ?_)
    refine rO rfl (oA rfl ?_)
    refine rI ?_
    first
    | exact Run.lend ⟨i+1,by omega,by omega,⟨rfl,rfl,rfl,by rw [hzi,if_pos (by first | exact hc | omega)];rfl,rfl,trivial⟩,rfl,rfl⟩
    | exact Run.lend ⟨i+1,by omega,by omega,⟨rfl,rfl,rfl,by rw [hzi,if_neg (by first | exact hc | omega),Int.add_zero];rfl,rfl,trivial⟩,rfl,rfl⟩
   ·refine Run.skip (Run.bend (rN (cx_ok _ _ _) (rO rfl (oM rfl ?_))))
    refine rO rfl (Ope.add rfl rfl (by omega) ?_)
    refine rO rfl (oA rfl ?_)
    refine rI ?_
    first
    | exact Run.lend ⟨i+1,by omega,by omega,⟨rfl,rfl,rfl,by rw [hzi,if_pos (by first | exact hc | omega)];rfl,rfl,trivial⟩,rfl,rfl⟩
    | exact Run.lend ⟨i+1,by omega,by omega,⟨rfl,rfl,rfl,by rw [hzi,if_neg (by first | exact hc | omega),Int.add_zero];rfl,rfl,trivial⟩,rfl,rfl⟩
  ·refine Run.exit (Jmp.code (Jmp.round (Jmp.here (rS ?_))))
   obtain rfl:i=li.length:=by omega
   refine rN (cx_ok _ _ _) (rO rfl (oM rfl ?_))
   refine rO rfl (oA rfl ?_)
   exact rI (Run.ret (fin_ret (.tmp rfl .nil) rfl rfl))
theorem f52 (hf:f.ok) (RI HO:List Int) (hR:RI.length=f.li.length) (hH:HO.length=f.li.length) (hHb:∀ x∈HO,0≤x∧x≤144) (r:Nat) (hr:r < 6):Fn P0 52 [f.v t1 t2,tR .no .no RI HO,N r] (I (sP f r RI HO f.li.length)):=by
  have hl5:=hf.li
  have hco:=fun n hn=>f45 f h1 h2 hf .no .no rfl rfl RI HO hR hH hHb n hn
  have hbt:∀ a:Nat,PV.bds 0 [f.v t1 t2,tR .no .no RI HO,N a]=true:=fun a=>bd_fnsV f h1 h2 (bds_cons (bd_agg (bds_cons (bd_sl (f:=I) (tl:=.no) rfl (fun _=>rfl) _) (bds_cons (bd_sl (f:=I) (tl:=.no) rfl (fun _=>rfl) _) rfl))) rfl)
  have hcb:=fun n=>cR_bd hf RI HO n
  have hpa:=f72 r (by omega)
  obtain ⟨q,hq⟩:∃ q,part (r:Int)=q:=⟨_,rfl⟩
  have hqr:q≠(r:Int):=by rw [← hq];unfold part;split<;>omega
  obtain ⟨z,hz⟩:∃ z:Nat→Int,sP f r RI HO=z:=⟨_,rfl⟩
  have hz0:z 0=0:=by rw [← hz];rfl
  have hzs:∀ i (h:i < RI.length),z (i+1)=z i+(((if RI[i]=(r:Int) then cR f RI HO i else 0)+1) / 2+(if RI[i]=q then cR f RI HO i else 0) / 2):=fun i h=>by
    rw [← hz]
    unfold sP
    rw [sum_range,show RI.getD i 0=RI[i] from by simp [List.getD,h],hq]
  have hzb:∀ i:Nat,i≤RI.length→0≤z i∧z i≤1001 * i:=fun i=>by
    induction i with
    | zero=>intro _;rw [hz0];exact ⟨by decide,by decide⟩
    | succ i ih =>
      intro hi
      have h1:=ih (by omega)
      have h2:=hcb i
      rw [hzs i (by omega)]
      split<;>split<;>constructor<;>push_cast<;>omega
  rw [hz]
  rw [hq] at hpa
  generalize cR f RI HO=c at *
  clear hz
  obtain ⟨ru,nn,li⟩:=f
  simp only at hl5 hR hH hco ⊢
  clear hf
  refine PFun.of (C:=c52) (cx_ok _ _ _) rfl (fn:=Tryz.f52) (by kernel_rfl) (c:=_) rfl rfl rfl ?_
  refine rS (rN (cx_ok _ _ _) (rO rfl (Ope.boxF rfl rfl ?_)))
  refine rO rfl (Ope.boxF rfl rfl ?_)
  refine rO rfl (oA rfl ?_)
  refine rI (rS (rN (cx_ok _ _ _) (rO rfl (oA rfl ?_))))
  refine rI (rS (rS (rN (cx_ok _ _ _) (rO rfl (oA rfl ?_)))))
  refine rI (Run.block (Run.loop (α:=Nat) (fun i=>[(2,N r),(3,.fp ((⟨ru,nn,li⟩:Fns).v t1 t2)),(4,.fp (tR .no .no RI HO)),(7,I (z i)),(8,I i)]) (fun i=>HE 0 []) (fun i=>i≤li.length) (fun i=>li.length - i) 0 ⟨rfl,rfl,rfl,by rw [hz0];rfl,rfl,trivial⟩ rfl (Nat.zero_le _) (fun i hi=>?_)))
  refine rS (rS (rN (cx_ok _ _ _) (rO rfl (oM rfl ?_))))
  refine rO rfl (Ope.fld rfl rfl ?_)
  refine rO rfl (oL rfl rfl ?_)
  refine rO rfl (Ope.len (m:=li.length) rfl (by simp) ?_)
  refine rO rfl (Ope.lt rfl rfl ?_)
  refine rI (rC rfl (fun hc=>?_) fun hc=>?_)
  ·refine Run.skip (rS (Run.block (rS (rS ?_))))
   have hil:i < li.length:=by omega
   have hiR:i < RI.length:=by omega
   have hzi:=hzs i hiR
   have hzB:=hzb i (by omega)
   have hcB:=hcb i
   have hci:=hco i hil
   obtain ⟨x,hxe⟩:∃ x:Nat,c i=(x:Int):=⟨(c i).toNat,by omega⟩
   rw [hxe] at hci hzi
   have hx2:((x+1) / 2:Nat)=((x:Int)+1) / 2:=by omega
   have hx3:((x / 2:Nat):Int)=(x:Int) / 2:=by omega
   refine rN (cx_ok _ _ _) (rO rfl (Ope.fld rfl rfl ?_))
   refine rO rfl (oL rfl rfl ?_)
   refine rO rfl (oM rfl ?_)
   refine rO rfl (Ope.idxM (m:=i) (f:=I) rfl rfl rfl hiR (fun _=>rfl) ?_)
   refine rO rfl (oL rfl rfl ?_)
   refine rO rfl (oM rfl ?_)
   refine rO rfl (Ope.eq rfl rfl ?_)
   refine rI (rC rfl (fun hc=>?_) fun hc=>?_)
   ·refine rN (cx_ok _ _ _) (rO rfl (oM rfl ?_))
    refine rO rfl (oL rfl rfl ?_)
    refine rO rfl (oL rfl rfl ?_)
    refine rO rfl (oM rfl ?_)
    refine rO rfl (Ope.cf rfl rfl hci (hbt _) ?_)
    refine rO rfl (Ope.add rfl rfl (by omega) ?_)
    refine rO rfl (Ope.quoN (p:=x+1) (q:=2) rfl rfl (by omega) rfl (by decide) (by show x+1 < 2 ^ 63;omega) ?_)
    refine rO rfl (Ope.add rfl rfl (by omega) ?_)
    refine rO rfl (oA rfl ?_)
    refine rI (rS ?_)
    have hcR:=hc
    refine Run.draw (cx_ok _ _ _) [(0,true),(1,false),(2,true),(3,true),(4,false),(5,true),(6,true),(7,true)] (by kernel_rfl) (dO rfl rfl rfl .sure (Ope.fld rfl rfl ?_))
    refine dO rfl rfl rfl (.load rfl) (oL rfl rfl ?_)
    refine dO rfl rfl rfl .sure (oM rfl ?_)
    refine dO rfl rfl rfl .sure (Ope.idxM (m:=i) (f:=I) rfl rfl rfl hiR (fun _=>rfl) ?_)
    refine dO rfl rfl rfl (.load rfl) (oL rfl rfl ?_)
    refine dO rfl rfl rfl .sure (oM rfl ?_)
    refine dO rfl rfl rfl .sure (Ope.cf rfl rfl hpa rfl ?_)
    refine dO rfl rfl rfl .sure (Ope.eq rfl rfl ?_)
    refine Dra.nil (rC rfl (fun hc=>?_) fun hc=>?_)
    ·refine rN (cx_ok _ _ _) (rO rfl (oM rfl ?_))
     refine rO rfl (oL rfl rfl ?_)
     refine rO rfl (oL rfl rfl ?_)
     refine rO rfl (oM rfl ?_)
     refine rO rfl (Ope.cf rfl rfl hci (hbt _) ?_)
     refine rO rfl (Ope.quoN (p:=x) (q:=2) rfl rfl rfl rfl (by decide) (by show x < 2 ^ 63;omega) ?_)
     refine rO rfl (Ope.add rfl rfl (by omega) ?_)
     refine rO rfl (oA rfl ?_)
     refine rI (Run.bend (rN (cx_ok _ _ _) (rO rfl (oM rfl ?_))))
     refine rO rfl (Ope.add rfl rfl (by omega) ?_)
     refine rO rfl (oA rfl ?_)
     refine rI ?_
     first
     | exact Run.lend ⟨i+1,by omega,by omega,⟨rfl,rfl,rfl,by rw [hzi,if_pos hcR,if_neg hc];show some (I (z i+(((x+1) / 2:Nat):Int)))=some (I _);rw [show (z i+(((x:Int)+1) / 2+0 / 2))=z i+(((x+1) / 2:Nat):Int) by omega],rfl,trivial⟩,rfl,rfl⟩
     | exact Run.lend ⟨i+1,by omega,by omega,⟨rfl,rfl,rfl,by rw [hzi,if_neg hcR,if_pos hc];show some (I (z i+((x / 2:Nat):Int)))=some (I _);rw [show (z i+(((0:Int)+1) / 2+(x:Int) / 2))=z i+((x / 2:Nat):Int) by omega],rfl,trivial⟩,rfl,rfl⟩
     | exact Run.lend ⟨i+1,by omega,by omega,⟨rfl,rfl,rfl,by rw [hzi,if_neg hcR,if_neg hc];show some (I (z i))=some (I _);rw [show (z i+(((0:Int)+1) / 2+0 / 2))=z i by omega],rfl,trivial⟩,rfl,rfl⟩
     | (exfalso;omega)
    ·refine Run.skip (Run.bend (rN (cx_ok _ _ _) (rO rfl (oM rfl ?_))))
     refine rO rfl (Ope.add rfl rfl (by omega) ?_)
     refine rO rfl (oA rfl ?_)
     refine rI ?_
     first
     | exact Run.lend ⟨i+1,by omega,by omega,⟨rfl,rfl,rfl,by rw [hzi,if_pos hcR,if_neg hc];show some (I (z i+(((x+1) / 2:Nat):Int)))=some (I _);rw [show (z i+(((x:Int)+1) / 2+0 / 2))=z i+(((x+1) / 2:Nat):Int) by omega],rfl,trivial⟩,rfl,rfl⟩
     | exact Run.lend ⟨i+1,by omega,by omega,⟨rfl,rfl,rfl,by rw [hzi,if_neg hcR,if_pos hc];show some (I (z i+((x / 2:Nat):Int)))=some (I _);rw [show (z i+(((0:Int)+1) / 2+(x:Int) / 2))=z i+((x / 2:Nat):Int) by omega],rfl,trivial⟩,rfl,rfl⟩
     | exact Run.lend ⟨i+1,by omega,by omega,⟨rfl,rfl,rfl,by rw [hzi,if_neg hcR,if_neg hc];show some (I (z i))=some (I _);rw [show (z i+(((0:Int)+1) / 2+0 / 2))=z i by omega],rfl,trivial⟩,rfl,rfl⟩
     | (exfalso;omega)
   ·refine Run.skip (rS ?_)
    have hcR:=hc
    refine Run.draw (cx_ok _ _ _) [(0,true),(1,false),(2,true),(3,true),(4,false),(5,true),(6,true),(7,true)] (by kernel_rfl) (dO rfl rfl rfl .sure (Ope.fld rfl rfl ?_))
    refine dO rfl rfl rfl (.load rfl) (oL rfl rfl ?_)
    refine dO rfl rfl rfl .sure (oM rfl ?_)
    refine dO rfl rfl rfl .sure (Ope.idxM (m:=i) (f:=I) rfl rfl rfl hiR (fun _=>rfl) ?_)
    refine dO rfl rfl rfl (.load rfl) (oL rfl rfl ?_)
    refine dO rfl rfl rfl .sure (oM rfl ?_)
    refine dO rfl rfl rfl .sure (Ope.cf rfl rfl hpa rfl ?_)
    refine dO rfl rfl rfl .sure (Ope.eq rfl rfl ?_)
    refine Dra.nil (rC rfl (fun hc=>?_) fun hc=>?_)
    ·refine rN (cx_ok _ _ _) (rO rfl (oM rfl ?_))
     refine rO rfl (oL rfl rfl ?_)
     refine rO rfl (oL rfl rfl ?_)
     refine rO rfl (oM rfl ?_)
     refine rO rfl (Ope.cf rfl rfl hci (hbt _) ?_)
     refine rO rfl (Ope.quoN (p:=x) (q:=2) rfl rfl rfl rfl (by decide) (by show x < 2 ^ 63;omega) ?_)
     refine rO rfl (Ope.add rfl rfl (by omega) ?_)
     refine rO rfl (oA rfl ?_)
     refine rI (Run.bend (rN (cx_ok _ _ _) (rO rfl (oM rfl ?_))))
     refine rO rfl (Ope.add rfl rfl (by omega) ?_)
     refine rO rfl (oA rfl ?_)
     refine rI ?_
     first
     | exact Run.lend ⟨i+1,by omega,by omega,⟨rfl,rfl,rfl,by rw [hzi,if_pos hcR,if_neg hc];show some (I (z i+(((x+1) / 2:Nat):Int)))=some (I _);rw [show (z i+(((x:Int)+1) / 2+0 / 2))=z i+(((x+1) / 2:Nat):Int) by omega],rfl,trivial⟩,rfl,rfl⟩
     | exact Run.lend ⟨i+1,by omega,by omega,⟨rfl,rfl,rfl,by rw [hzi,if_neg hcR,if_pos hc];show some (I (z i+((x / 2:Nat):Int)))=some (I _);rw [show (z i+(((0:Int)+1) / 2+(x:Int) / 2))=z i+((x / 2:Nat):Int) by omega],rfl,trivial⟩,rfl,rfl⟩
     | exact Run.lend ⟨i+1,by omega,by omega,⟨rfl,rfl,rfl,by rw [hzi,if_neg hcR,if_neg hc];show some (I (z i))=some (I _);rw [show (z i+(((0:Int)+1) / 2+0 / 2))=z i by omega],rfl,trivial⟩,rfl,rfl⟩
     | (exfalso;omega)
    ·refine Run.skip (Run.bend (rN (cx_ok _ _ _) (rO rfl (oM rfl ?_))))
     refine rO rfl (Ope.add rfl rfl (by omega) ?_)
     refine rO rfl (oA rfl ?_)
     refine rI ?_
     first
     | exact Run.lend ⟨i+1,by omega,by omega,⟨rfl,rfl,rfl,by rw [hzi,if_pos hcR,if_neg hc];show some (I (z i+(((x+1) / 2:Nat):Int)))=some (I _);rw [show (z i+(((x:Int)+1) / 2+0 / 2))=z i+(((x+1) / 2:Nat):Int) by omega],rfl,trivial⟩,rfl,rfl⟩
     | exact Run.lend ⟨i+1,by omega,by omega,⟨rfl,rfl,rfl,by rw [hzi,if_neg hcR,if_pos hc];show some (I (z i+((x / 2:Nat):Int)))=some (I _);rw [show (z i+(((0:Int)+1) / 2+(x:Int) / 2))=z i+((x / 2:Nat):Int) by omega],rfl,trivial⟩,rfl,rfl⟩
     | exact Run.lend ⟨i+1,by omega,by omega,⟨rfl,rfl,rfl,by rw [hzi,if_neg hcR,if_neg hc];show some (I (z i))=some (I _);rw [show (z i+(((0:Int)+1) / 2+0 / 2))=z i by omega],rfl,trivial⟩,rfl,rfl⟩
     | (exfalso;omega)
  ·refine Run.exit (Jmp.code (Jmp.round (Jmp.here (rS ?_))))
   obtain rfl:i=li.length:=by omega
   refine rN (cx_ok _ _ _) (rO rfl (oM rfl ?_))
   refine rO rfl (oA rfl ?_)
   exact rI (Run.ret (fin_ret (.tmp rfl .nil) rfl rfl))
end
end Go.Pv
namespace Go.Pv
open Go.Proofs Go.Am
set_option maxRecDepth 10000
set_option maxHeartbeats 4000000
theorem cR_tru {f:Fns} {T:List Deed} (h:f.Tru T) {k:Nat} (hk:k < T.length):cR f (T.map Deed.ri) (T.map Deed.ho) k=f.cin T T[k]:=by
  have hd:=dl_tru h
  have hl:k < (f.exa (f.dl (T.map Deed.ri) (T.map Deed.ho) f.li.length)).length:=by rw [hd];unfold Fns.exa;rw [List.length_map];exact hk
  rw [← cR_exa f (T.map Deed.ri) (T.map Deed.ho) hl]
  simp only [hd,Fns.exa,List.getElem_map]
theorem getD_map (T:List Deed) (g:Deed→Int) {k:Nat} (h:k < T.length):(T.map g).getD k 0=g T[k]:=by simp [List.getD,h]
theorem sF_tru {f:Fns} {T:List Deed} (h:f.Tru T) (r:Int):sF f r (T.map Deed.ri) (T.map Deed.ho) f.li.length=f.val (gF r) T:=by
  unfold sF Fns.val
  congr 1
  refine List.ext_getElem (by simp [h.ln]) fun k a b=>?_
  have hk:k < T.length:=by simpa using b
  rw [List.getElem_map,List.getElem_map,List.getElem_range,cR_tru h hk,getD_map T Deed.ri hk]
  rfl
theorem sP_tru {f:Fns} {T:List Deed} (h:f.Tru T) (r:Int):sP f r (T.map Deed.ri) (T.map Deed.ho) f.li.length=f.val (gP r) T:=by
  unfold sP Fns.val
  congr 1
  refine List.ext_getElem (by simp [h.ln]) fun k a b=>?_
  have hk:k < T.length:=by simpa using b
  rw [List.getElem_map,List.getElem_map,List.getElem_range,cR_tru h hk,getD_map T Deed.ri hk]
  rfl
theorem tru_ho {f:Fns} (hf:f.ok) {T:List Deed} (h:f.Tru T):∀ x∈T.map Deed.ho,0≤x∧x≤144:=(kno_of (kn_tru hf h)).h
theorem truL_le {f:Fns} (hf:f.ok):(f.truN f.li.length).length≤1889568:=by
  have h9:=gon_le hf f.li.length [] (by simp)
  rw [gon_all] at h9
  have:=Nat.pow_le_pow_right (n:=18) (by decide) hf.li
  omega
theorem hs_own0 {o:Option Nat} {c:Option PBlk} (h:∀ j,o=some j→1≤j):∀ x b,hget ([(0,c)]:HL) x=some b→hget (ownU o++[(0,c)]) x=some b:=by
  intro x b hb
  cases o with
  | none=>exact hb
  | some j =>
    have hj:=h j rfl
    by_cases hx:x=0
    · subst hx
      exact (hget_tl (by omega)).trans hb
    · rw [hget_tl hx] at hb
      cases hb
section
variable (f:Fns) {t1 t2:Tail} (h1:t1.isOwn=false) (h2:t2.isOwn=false)
include h1 h2
theorem f14v (hf:f.ok) (n:Nat) (hn:n < f.li.length):Fn P0 14 [f.v t1 t2,N n] (.tup [(f.spn (gC (1 * 2 ^ n))).v,I 0]):=by
  have hv:=fns_B f hf
  have hl5:=hf.li
  have hr4:=hf.ru
  have hS:f.ru.length≤9223372036854775807:=by omega
  have hJ:f.li.length≤9223372036854775807:=by omega
  have hck:=f43 f h1 h2 hS hJ true
  rw [show ckI f true=0 from by unfold ckI;rw [if_pos hv,if_pos rfl]] at hck
  have hbc:PV.bds 0 [f.v t1 t2,B true]=true:=bd_fnsV f h1 h2 rfl
  have hb0:PV.bds 0 [f.v t1 t2]=true:=bd_fnsV f h1 h2 rfl
  have htr:=f31 f h1 h2 hf
  have hLm:=truL_le hf
  have hbt:∀ (T:List Deed) (k:Nat),PV.bds 0 [f.v t1 t2,tV T,N k]=true:=fun T k=>bd_fnsV f h1 h2 (bds_cons (bd_agg (bds_cons (bd_sl (f:=I) (tl:=.no) rfl (fun _=>rfl) _) (bds_cons (bd_sl (f:=I) (tl:=.no) rfl (fun _=>rfl) _) rfl))) rfl)
  have hbl:∀ xs:List Int,PV.bds 0 [.sl .no (xs.map I)]=true:=fun xs=>bds_cons (bd_sl (f:=I) (tl:=.no) rfl (fun _=>rfl) _) rfl
  have hin:=f44 (n:Int) 0 ((f.li.length:Int) - 1)
  rw [show inB (n:Int) 0 ((f.li.length:Int) - 1)=true from by unfold inB;rw [decide_eq_true (by omega),decide_eq_true (by omega)];rfl] at hin
  obtain ⟨V,hV⟩:∃ V:List Deed→Int,V=f.val (gC (1 * 2 ^ n)):=⟨_,rfl⟩
  have hsp:f.spn (gC (1 * 2 ^ n))=hullL ((f.truN f.li.length).map V):=by rw [hV];exact spn_c hf (gC_ok _)
  have hco:∀ T∈f.truN f.li.length,Fn P0 45 [f.v t1 t2,tV T,N n] (I (V T)):=fun T hT=>by
    have hT:=truN_tru.1 hT
    rw [hV]
    have hk:n < T.length:=by rw [hT.ln];exact hn
    have h:=f45 f h1 h2 hf .no .no rfl rfl (T.map Deed.ri) (T.map Deed.ho) (by rw [List.length_map,hT.ln]) (by rw [List.length_map,hT.ln]) (tru_ho hf hT) n hn
    rw [cR_tru hT hk,← val_gC1 hT hk] at h
    exact h
  have hne:(f.truN f.li.length).map V≠[]:=by
    obtain ⟨T,hT⟩:=tru_some hf
    exact List.ne_nil_of_mem (List.mem_map_of_mem (truN_tru.2 hT))
  have hhu:=f46 .no rfl ((f.truN f.li.length).map V) hne (by rw [List.length_map];omega)
  rw [hsp]
  generalize f.truN f.li.length=L at *
  generalize hullL (L.map V)=E at *
  clear hV hsp hne
  refine PFun.of (C:=c14) (cx_ok _ _ _) rfl (fn:=Tryz.f14) (by kernel_rfl) (c:=_) rfl rfl rfl ?_
  refine rS (rN (cx_ok _ _ _) (rO rfl (Ope.boxF rfl rfl ?_)))
  refine rO rfl (Ope.newL rfl ?_)
  refine rO rfl (oA rfl ?_)
  refine rI (rS (Run.draw (cx_ok _ _ _) [(0,false),(1,true),(2,true),(3,true),(4,true),(5,true),(6,true),(7,true),(8,true)] (by kernel_rfl) (dO rfl rfl rfl (.load rfl) (oL rfl rfl ?_))))
  refine dO rfl rfl rfl .sure (oM rfl ?_)
  refine dO rfl rfl rfl .sure (Ope.fld rfl rfl ?_)
  refine dO rfl rfl rfl .sure (oL rfl rfl ?_)
  refine dO rfl rfl rfl .sure (Ope.len (m:=f.li.length) rfl (by simp) ?_)
  refine dO rfl rfl rfl .sure (Ope.sub rfl rfl (by omega) ?_)
  refine dO rfl rfl rfl .sure (Ope.cf rfl rfl hin rfl ?_)
  refine dO rfl rfl rfl .sure (Ope.cf rfl rfl hck hbc ?_)
  refine dO rfl rfl rfl .sure (oA rfl ?_)
  refine Dra.nil (rS (rS (rN (cx_ok _ _ _) (rO rfl (oM rfl ?_)))))
  refine rO rfl (Ope.neS rfl rfl ?_)
  refine rI (Run.condF rfl (Run.skip (rS (rN (cx_ok _ _ _) (rO rfl (oA rfl ?_))))))
  refine rI (rS (rN (cx_ok _ _ _) (rO rfl (oL rfl rfl ?_))))
  refine rO rfl (Ope.cf rfl rfl htr hb0 ?_)
  refine rO rfl (oA rfl ?_)
  refine rI (rS (rS (rN (cx_ok _ _ _) (rO rfl (oA rfl ?_)))))
  refine rI (Run.block (Run.loop (α:=Nat×Option Nat×Nat) (fun t=>[(1,N n),(2,.fp (f.v t1 t2)),(4,.ptr 0 0),(7,.sl (tlU t.2.1) (((L.take t.1).map V).map I)),(8,.sl .no (L.map tV)),(9,I t.1)]) (fun t=>HE t.2.2 (ownU t.2.1++[(0,some (.cells [I 0,I 0]))])) (fun t=>t.1≤L.length∧1≤t.2.2∧∀ j,t.2.1=some j→1≤j∧0 < t.1) (fun t=>L.length - t.1) (0,none,1) ⟨rfl,rfl,rfl,rfl,rfl,rfl,trivial⟩ rfl ⟨Nat.zero_le _,Nat.le_refl _,fun j hj=>by cases hj⟩ (fun t ht=>?_)))
  obtain ⟨i,o,m⟩:=t
  obtain ⟨hi,hm,hO⟩:=ht
  simp only at hi hm hO
  show Run _ _ _ _ [(1,N n),(2,.fp (f.v t1 t2)),(4,.ptr 0 0),(7,.sl (tlU o) (((L.take i).map V).map I)),(8,.sl .no (L.map tV)),(9,I i)] [] (HE m (ownU o++[(0,some (.cells [I 0,I 0]))]))
  refine rS (rS (rN (cx_ok _ _ _) (rO rfl (oM rfl ?_))))
  refine rO rfl (oM rfl ?_)
  refine rO rfl (Ope.len (m:=L.length) rfl (by simp) ?_)
  refine rO rfl (Ope.lt rfl rfl ?_)
  refine rI (rC rfl (fun hc=>?_) fun hc=>?_)
  ·refine Run.skip (rS (Run.block ?_))
   have hlt:i < L.length:=by omega
   have hci:=hco L[i] (List.getElem_mem hlt)
   have hts:((L.take (i+1)).map V).map I=((L.take i).map V).map I++[I (V L[i])]:=by rw [List.take_succ_eq_append_getElem hlt,List.map_append,List.map_append];rfl
   have hA:∀ j,o=some j→((L.take i).map V).map I≠[]∧hget ([(0,some (.cells [I 0,I 0]))]:HL) j=none:=fun j hj=>⟨fun e=>by
     have h9:=congrArg List.length e
     rw [List.length_map,List.length_map,List.length_take] at h9
     have h8:min i L.length=0:=h9
     have:=(hO j hj).2
     omega,(hget_tl (by have:=(hO j hj).1;omega)).trans rfl⟩
   have hll:(((L.take i).map V).map I).length≤1889568:=by rw [List.length_map,List.length_map,List.length_take];omega
   refine Run.draw (cx_ok _ _ _) [(0,true),(1,true),(2,true),(3,true),(4,true),(5,true),(6,true),(7,true),(8,true),(9,true),(10,true)] (by kernel_rfl) (dO rfl rfl rfl .sure (oM rfl ?_))
   refine dO rfl rfl rfl .sure (oL rfl rfl ?_)
   refine dO rfl rfl rfl .sure (oM rfl ?_)
   refine dO rfl rfl rfl .sure (oM rfl ?_)
   refine dO rfl rfl rfl .sure (Ope.idxM (m:=i) (f:=tV) rfl rfl rfl hlt (fun _=>rfl) ?_)
   refine dO rfl rfl rfl .sure (oL rfl rfl ?_)
   refine dO rfl rfl rfl .sure (oM rfl ?_)
   refine dO rfl rfl rfl .sure (Ope.cf rfl rfl hci (hbt _ _) ?_)
   refine dO rfl rfl rfl .sure (Ope.bsl rfl rfl rfl rfl ?_)
   refine dO rfl rfl rfl .sure (Ope.apU (o':=o) (vs:=((L.take i).map V).map I) (ws:=[I (V L[i])]) rfl rfl (by simp) hA (by rw [List.length_singleton];omega) (by rw [List.length_singleton];omega) (by decide) (by intro v hv;obtain ⟨_,_,rfl⟩:=List.mem_map.1 hv;rfl) (by intro v hv;simp only [List.mem_singleton] at hv;subst hv;exact ⟨rfl,rfl⟩) ?_)
   refine dO rfl rfl rfl .sure (oA rfl ?_)
   refine Dra.nil (Run.bend (rN (cx_ok _ _ _) (rO rfl (oM rfl ?_))))
   refine rO rfl (Ope.add rfl rfl (by omega) ?_)
   refine rO rfl (oA rfl ?_)
   exact rI (Run.lend ⟨(i+1,some m,m+1),by show L.length - (i+1) < L.length - i;omega,⟨by show i+1≤L.length;omega,by show 1≤m+1;omega,fun j hj=>by cases hj;exact ⟨hm,by show 0 < i+1;omega⟩⟩,⟨rfl,rfl,rfl,by rw [hts];rfl,rfl,rfl,trivial⟩,rfl,rfl⟩)
  ·refine Run.exit (Jmp.code (Jmp.round (Jmp.here (rS ?_))))
   obtain rfl:i=L.length:=by omega
   rw [List.take_length]
   refine Run.weakT (d:=7) rfl ?_
   refine Run.wideS (m:=m) (l':=[(0,some (.cells [I 0,I 0]))]) (Nat.le_refl _) (hs_own0 fun j hj=>(hO j hj).1) ?_
   refine rN (cx_ok _ _ _) (rO rfl (oM rfl ?_))
   refine rO rfl (Ope.cf rfl rfl hhu (hbl _) ?_)
   refine Reg.op0 (Ope.store rfl rfl hget_hd rfl rfl rfl ?_)
   refine rO rfl (oA rfl ?_)
   exact rI (Run.ret (fin_ret (.cell rfl rfl (.tmp rfl .nil)) rfl rfl))
theorem f16v (hf:f.ok) (n:Nat) (hn:(n:Int) < f.n):Fn P0 16 [f.v t1 t2,N n] (.tup [(f.spn (gF (n:Int))).v,I 0]):=by
  have hv:=fns_B f hf
  have hl5:=hf.li
  have hr4:=hf.ru
  have hS:f.ru.length≤9223372036854775807:=by omega
  have hJ:f.li.length≤9223372036854775807:=by omega
  have hck:=f43 f h1 h2 hS hJ true
  rw [show ckI f true=0 from by unfold ckI;rw [if_pos hv,if_pos rfl]] at hck
  have hbc:PV.bds 0 [f.v t1 t2,B true]=true:=bd_fnsV f h1 h2 rfl
  have hb0:PV.bds 0 [f.v t1 t2]=true:=bd_fnsV f h1 h2 rfl
  have htr:=f31 f h1 h2 hf
  have hLm:=truL_le hf
  have hbt:∀ (T:List Deed) (k:Nat),PV.bds 0 [f.v t1 t2,tV T,N k]=true:=fun T k=>bd_fnsV f h1 h2 (bds_cons (bd_agg (bds_cons (bd_sl (f:=I) (tl:=.no) rfl (fun _=>rfl) _) (bds_cons (bd_sl (f:=I) (tl:=.no) rfl (fun _=>rfl) _) rfl))) rfl)
  have hbl:∀ xs:List Int,PV.bds 0 [.sl .no (xs.map I)]=true:=fun xs=>bds_cons (bd_sl (f:=I) (tl:=.no) rfl (fun _=>rfl) _) rfl
  have hrd:=f49 f h1 h2 (n:Int)
  rw [rdB_ok hf,show numB f.n (n:Int)=true from by unfold numB;rw [decide_eq_true (by omega),decide_eq_true hn];rfl] at hrd
  have hbn:PV.bds 0 [f.v t1 t2,N n]=true:=bd_fnsV f h1 h2 rfl
  have hn6:n < 6:=by have:=hf.n;omega
  obtain ⟨V,hV⟩:∃ V:List Deed→Int,V=f.val (gF (n:Int)):=⟨_,rfl⟩
  have hsp:f.spn (gF (n:Int))=hullL ((f.truN f.li.length).map V):=by rw [hV];exact spn_c hf (gF_ok _)
  have hco:∀ T∈f.truN f.li.length,Fn P0 50 [f.v t1 t2,tV T,N n] (I (V T)):=fun T hT=>by
    have hT:=truN_tru.1 hT
    rw [hV]
    have h:=f50 f h1 h2 hf (T.map Deed.ri) (T.map Deed.ho) (by rw [List.length_map,hT.ln]) (by rw [List.length_map,hT.ln]) (tru_ho hf hT) (n:Int)
    rw [sF_tru hT] at h
    exact h
  have hne:(f.truN f.li.length).map V≠[]:=by
    obtain ⟨T,hT⟩:=tru_some hf
    exact List.ne_nil_of_mem (List.mem_map_of_mem (truN_tru.2 hT))
  have hhu:=f46 .no rfl ((f.truN f.li.length).map V) hne (by rw [List.length_map];omega)
  rw [hsp]
  generalize f.truN f.li.length=L at *
  generalize hullL (L.map V)=E at *
  clear hV hsp hne
  refine PFun.of (C:=c16) (cx_ok _ _ _) rfl (fn:=Tryz.f16) (by kernel_rfl) (c:=_) rfl rfl rfl ?_
  refine rS (rN (cx_ok _ _ _) (rO rfl (Ope.boxF rfl rfl ?_)))
  refine rO rfl (Ope.newL rfl ?_)
  refine rO rfl (oA rfl ?_)
  refine rI (rS (Run.draw (cx_ok _ _ _) [(0,false),(1,true),(2,true),(3,true),(4,true),(5,true)] (by kernel_rfl) (dO rfl rfl rfl (.load rfl) (oL rfl rfl ?_))))
  refine dO rfl rfl rfl .sure (oL rfl rfl ?_)
  refine dO rfl rfl rfl .sure (oM rfl ?_)
  refine dO rfl rfl rfl .sure (Ope.cf rfl rfl hrd hbn ?_)
  refine dO rfl rfl rfl .sure (Ope.cf rfl rfl hck hbc ?_)
  refine dO rfl rfl rfl .sure (oA rfl ?_)
  refine Dra.nil (rS (rS (rN (cx_ok _ _ _) (rO rfl (oM rfl ?_)))))
  refine rO rfl (Ope.neS rfl rfl ?_)
  refine rI (Run.condF rfl (Run.skip (rS (rN (cx_ok _ _ _) (rO rfl (oA rfl ?_))))))
  refine rI (rS (rN (cx_ok _ _ _) (rO rfl (oL rfl rfl ?_))))
  refine rO rfl (Ope.cf rfl rfl htr hb0 ?_)
  refine rO rfl (oA rfl ?_)
  refine rI (rS (rS (rN (cx_ok _ _ _) (rO rfl (oA rfl ?_)))))
  refine rI (Run.block (Run.loop (α:=Nat×Option Nat×Nat) (fun t=>[(1,N n),(2,.fp (f.v t1 t2)),(4,.ptr 0 0),(7,.sl (tlU t.2.1) (((L.take t.1).map V).map I)),(8,.sl .no (L.map tV)),(9,I t.1)]) (fun t=>HE t.2.2 (ownU t.2.1++[(0,some (.cells [I 0,I 0]))])) (fun t=>t.1≤L.length∧1≤t.2.2∧∀ j,t.2.1=some j→1≤j∧0 < t.1) (fun t=>L.length - t.1) (0,none,1) ⟨rfl,rfl,rfl,rfl,rfl,rfl,trivial⟩ rfl ⟨Nat.zero_le _,Nat.le_refl _,fun j hj=>by cases hj⟩ (fun t ht=>?_)))
  obtain ⟨i,o,m⟩:=t
  obtain ⟨hi,hm,hO⟩:=ht
  simp only at hi hm hO
  show Run _ _ _ _ [(1,N n),(2,.fp (f.v t1 t2)),(4,.ptr 0 0),(7,.sl (tlU o) (((L.take i).map V).map I)),(8,.sl .no (L.map tV)),(9,I i)] [] (HE m (ownU o++[(0,some (.cells [I 0,I 0]))]))
  refine rS (rS (rN (cx_ok _ _ _) (rO rfl (oM rfl ?_))))
  refine rO rfl (oM rfl ?_)
  refine rO rfl (Ope.len (m:=L.length) rfl (by simp) ?_)
  refine rO rfl (Ope.lt rfl rfl ?_)
  refine rI (rC rfl (fun hc=>?_) fun hc=>?_)
  ·refine Run.skip (rS (Run.block ?_))
   have hlt:i < L.length:=by omega
   have hci:=hco L[i] (List.getElem_mem hlt)
   have hts:((L.take (i+1)).map V).map I=((L.take i).map V).map I++[I (V L[i])]:=by rw [List.take_succ_eq_append_getElem hlt,List.map_append,List.map_append];rfl
   have hA:∀ j,o=some j→((L.take i).map V).map I≠[]∧hget ([(0,some (.cells [I 0,I 0]))]:HL) j=none:=fun j hj=>⟨fun e=>by
     have h9:=congrArg List.length e
     rw [List.length_map,List.length_map,List.length_take] at h9
     have h8:min i L.length=0:=h9
     have:=(hO j hj).2
     omega,(hget_tl (by have:=(hO j hj).1;omega)).trans rfl⟩
   have hll:(((L.take i).map V).map I).length≤1889568:=by rw [List.length_map,List.length_map,List.length_take];omega
   refine Run.draw (cx_ok _ _ _) [(0,true),(1,true),(2,true),(3,true),(4,true),(5,true),(6,true),(7,true),(8,true),(9,true),(10,true)] (by kernel_rfl) (dO rfl rfl rfl .sure (oM rfl ?_))
   refine dO rfl rfl rfl .sure (oL rfl rfl ?_)
   refine dO rfl rfl rfl .sure (oM rfl ?_)
   refine dO rfl rfl rfl .sure (oM rfl ?_)
   refine dO rfl rfl rfl .sure (Ope.idxM (m:=i) (f:=tV) rfl rfl rfl hlt (fun _=>rfl) ?_)
   refine dO rfl rfl rfl .sure (oL rfl rfl ?_)
   refine dO rfl rfl rfl .sure (oM rfl ?_)
   refine dO rfl rfl rfl .sure (Ope.cf rfl rfl hci (hbt _ _) ?_)
   refine dO rfl rfl rfl .sure (Ope.bsl rfl rfl rfl rfl ?_)
   refine dO rfl rfl rfl .sure (Ope.apU (o':=o) (vs:=((L.take i).map V).map I) (ws:=[I (V L[i])]) rfl rfl (by simp) hA (by rw [List.length_singleton];omega) (by rw [List.length_singleton];omega) (by decide) (by intro v hv;obtain ⟨_,_,rfl⟩:=List.mem_map.1 hv;rfl) (by intro v hv;simp only [List.mem_singleton] at hv;subst hv;exact ⟨rfl,rfl⟩) ?_)
   refine dO rfl rfl rfl .sure (oA rfl ?_)
   refine Dra.nil (Run.bend (rN (cx_ok _ _ _) (rO rfl (oM rfl ?_))))
   refine rO rfl (Ope.add rfl rfl (by omega) ?_)
   refine rO rfl (oA rfl ?_)
   exact rI (Run.lend ⟨(i+1,some m,m+1),by show L.length - (i+1) < L.length - i;omega,⟨by show i+1≤L.length;omega,by show 1≤m+1;omega,fun j hj=>by cases hj;exact ⟨hm,by show 0 < i+1;omega⟩⟩,⟨rfl,rfl,rfl,by rw [hts];rfl,rfl,rfl,trivial⟩,rfl,rfl⟩)
  ·refine Run.exit (Jmp.code (Jmp.round (Jmp.here (rS ?_))))
   obtain rfl:i=L.length:=by omega
   rw [List.take_length]
   refine Run.weakT (d:=7) rfl ?_
   refine Run.wideS (m:=m) (l':=[(0,some (.cells [I 0,I 0]))]) (Nat.le_refl _) (hs_own0 fun j hj=>(hO j hj).1) ?_
   refine rN (cx_ok _ _ _) (rO rfl (oM rfl ?_))
   refine rO rfl (Ope.cf rfl rfl hhu (hbl _) ?_)
   refine Reg.op0 (Ope.store rfl rfl hget_hd rfl rfl rfl ?_)
   refine rO rfl (oA rfl ?_)
   exact rI (Run.ret (fin_ret (.cell rfl rfl (.tmp rfl .nil)) rfl rfl))
theorem f18v (hf:f.ok) (n:Nat) (hn:(n:Int) < f.n):Fn P0 18 [f.v t1 t2,N n] (.tup [(f.spn (gP (n:Int))).v,I 0]):=by
  have hv:=fns_B f hf
  have hl5:=hf.li
  have hr4:=hf.ru
  have hS:f.ru.length≤9223372036854775807:=by omega
  have hJ:f.li.length≤9223372036854775807:=by omega
  have hck:=f43 f h1 h2 hS hJ true
  rw [show ckI f true=0 from by unfold ckI;rw [if_pos hv,if_pos rfl]] at hck
  have hbc:PV.bds 0 [f.v t1 t2,B true]=true:=bd_fnsV f h1 h2 rfl
  have hb0:PV.bds 0 [f.v t1 t2]=true:=bd_fnsV f h1 h2 rfl
  have htr:=f31 f h1 h2 hf
  have hLm:=truL_le hf
  have hbt:∀ (T:List Deed) (k:Nat),PV.bds 0 [f.v t1 t2,tV T,N k]=true:=fun T k=>bd_fnsV f h1 h2 (bds_cons (bd_agg (bds_cons (bd_sl (f:=I) (tl:=.no) rfl (fun _=>rfl) _) (bds_cons (bd_sl (f:=I) (tl:=.no) rfl (fun _=>rfl) _) rfl))) rfl)
  have hbl:∀ xs:List Int,PV.bds 0 [.sl .no (xs.map I)]=true:=fun xs=>bds_cons (bd_sl (f:=I) (tl:=.no) rfl (fun _=>rfl) _) rfl
  have hrd:=f49 f h1 h2 (n:Int)
  rw [rdB_ok hf,show numB f.n (n:Int)=true from by unfold numB;rw [decide_eq_true (by omega),decide_eq_true hn];rfl] at hrd
  have hbn:PV.bds 0 [f.v t1 t2,N n]=true:=bd_fnsV f h1 h2 rfl
  have hn6:n < 6:=by have:=hf.n;omega
  obtain ⟨V,hV⟩:∃ V:List Deed→Int,V=f.val (gP (n:Int)):=⟨_,rfl⟩
  have hsp:f.spn (gP (n:Int))=hullL ((f.truN f.li.length).map V):=by rw [hV];exact spn_c hf (gP_ok _)
  have hco:∀ T∈f.truN f.li.length,Fn P0 52 [f.v t1 t2,tV T,N n] (I (V T)):=fun T hT=>by
    have hT:=truN_tru.1 hT
    rw [hV]
    have h:=f52 f h1 h2 hf (T.map Deed.ri) (T.map Deed.ho) (by rw [List.length_map,hT.ln]) (by rw [List.length_map,hT.ln]) (tru_ho hf hT) n hn6
    rw [sP_tru hT] at h
    exact h
  have hne:(f.truN f.li.length).map V≠[]:=by
    obtain ⟨T,hT⟩:=tru_some hf
    exact List.ne_nil_of_mem (List.mem_map_of_mem (truN_tru.2 hT))
  have hhu:=f46 .no rfl ((f.truN f.li.length).map V) hne (by rw [List.length_map];omega)
  rw [hsp]
  generalize f.truN f.li.length=L at *
  generalize hullL (L.map V)=E at *
  clear hV hsp hne
  refine PFun.of (C:=c18) (cx_ok _ _ _) rfl (fn:=Tryz.f18) (by kernel_rfl) (c:=_) rfl rfl rfl ?_
  refine rS (rN (cx_ok _ _ _) (rO rfl (Ope.boxF rfl rfl ?_)))
  refine rO rfl (Ope.newL rfl ?_)
  refine rO rfl (oA rfl ?_)
  refine rI (rS (Run.draw (cx_ok _ _ _) [(0,false),(1,true),(2,true),(3,true),(4,true),(5,true)] (by kernel_rfl) (dO rfl rfl rfl (.load rfl) (oL rfl rfl ?_))))
  refine dO rfl rfl rfl .sure (oL rfl rfl ?_)
  refine dO rfl rfl rfl .sure (oM rfl ?_)
  refine dO rfl rfl rfl .sure (Ope.cf rfl rfl hrd hbn ?_)
  refine dO rfl rfl rfl .sure (Ope.cf rfl rfl hck hbc ?_)
  refine dO rfl rfl rfl .sure (oA rfl ?_)
  refine Dra.nil (rS (rS (rN (cx_ok _ _ _) (rO rfl (oM rfl ?_)))))
  refine rO rfl (Ope.neS rfl rfl ?_)
  refine rI (Run.condF rfl (Run.skip (rS (rN (cx_ok _ _ _) (rO rfl (oA rfl ?_))))))
  refine rI (rS (rN (cx_ok _ _ _) (rO rfl (oL rfl rfl ?_))))
  refine rO rfl (Ope.cf rfl rfl htr hb0 ?_)
  refine rO rfl (oA rfl ?_)
  refine rI (rS (rS (rN (cx_ok _ _ _) (rO rfl (oA rfl ?_)))))
  refine rI (Run.block (Run.loop (α:=Nat×Option Nat×Nat) (fun t=>[(1,N n),(2,.fp (f.v t1 t2)),(4,.ptr 0 0),(7,.sl (tlU t.2.1) (((L.take t.1).map V).map I)),(8,.sl .no (L.map tV)),(9,I t.1)]) (fun t=>HE t.2.2 (ownU t.2.1++[(0,some (.cells [I 0,I 0]))])) (fun t=>t.1≤L.length∧1≤t.2.2∧∀ j,t.2.1=some j→1≤j∧0 < t.1) (fun t=>L.length - t.1) (0,none,1) ⟨rfl,rfl,rfl,rfl,rfl,rfl,trivial⟩ rfl ⟨Nat.zero_le _,Nat.le_refl _,fun j hj=>by cases hj⟩ (fun t ht=>?_)))
  obtain ⟨i,o,m⟩:=t
  obtain ⟨hi,hm,hO⟩:=ht
  simp only at hi hm hO
  show Run _ _ _ _ [(1,N n),(2,.fp (f.v t1 t2)),(4,.ptr 0 0),(7,.sl (tlU o) (((L.take i).map V).map I)),(8,.sl .no (L.map tV)),(9,I i)] [] (HE m (ownU o++[(0,some (.cells [I 0,I 0]))]))
  refine rS (rS (rN (cx_ok _ _ _) (rO rfl (oM rfl ?_))))
  refine rO rfl (oM rfl ?_)
  refine rO rfl (Ope.len (m:=L.length) rfl (by simp) ?_)
  refine rO rfl (Ope.lt rfl rfl ?_)
  refine rI (rC rfl (fun hc=>?_) fun hc=>?_)
  ·refine Run.skip (rS (Run.block ?_))
   have hlt:i < L.length:=by omega
   have hci:=hco L[i] (List.getElem_mem hlt)
   have hts:((L.take (i+1)).map V).map I=((L.take i).map V).map I++[I (V L[i])]:=by rw [List.take_succ_eq_append_getElem hlt,List.map_append,List.map_append];rfl
   have hA:∀ j,o=some j→((L.take i).map V).map I≠[]∧hget ([(0,some (.cells [I 0,I 0]))]:HL) j=none:=fun j hj=>⟨fun e=>by
     have h9:=congrArg List.length e
     rw [List.length_map,List.length_map,List.length_take] at h9
     have h8:min i L.length=0:=h9
     have:=(hO j hj).2
     omega,(hget_tl (by have:=(hO j hj).1;omega)).trans rfl⟩
   have hll:(((L.take i).map V).map I).length≤1889568:=by rw [List.length_map,List.length_map,List.length_take];omega
   refine Run.draw (cx_ok _ _ _) [(0,true),(1,true),(2,true),(3,true),(4,true),(5,true),(6,true),(7,true),(8,true),(9,true),(10,true)] (by kernel_rfl) (dO rfl rfl rfl .sure (oM rfl ?_))
   refine dO rfl rfl rfl .sure (oL rfl rfl ?_)
   refine dO rfl rfl rfl .sure (oM rfl ?_)
   refine dO rfl rfl rfl .sure (oM rfl ?_)
   refine dO rfl rfl rfl .sure (Ope.idxM (m:=i) (f:=tV) rfl rfl rfl hlt (fun _=>rfl) ?_)
   refine dO rfl rfl rfl .sure (oL rfl rfl ?_)
   refine dO rfl rfl rfl .sure (oM rfl ?_)
   refine dO rfl rfl rfl .sure (Ope.cf rfl rfl hci (hbt _ _) ?_)
   refine dO rfl rfl rfl .sure (Ope.bsl rfl rfl rfl rfl ?_)
   refine dO rfl rfl rfl .sure (Ope.apU (o':=o) (vs:=((L.take i).map V).map I) (ws:=[I (V L[i])]) rfl rfl (by simp) hA (by rw [List.length_singleton];omega) (by rw [List.length_singleton];omega) (by decide) (by intro v hv;obtain ⟨_,_,rfl⟩:=List.mem_map.1 hv;rfl) (by intro v hv;simp only [List.mem_singleton] at hv;subst hv;exact ⟨rfl,rfl⟩) ?_)
   refine dO rfl rfl rfl .sure (oA rfl ?_)
   refine Dra.nil (Run.bend (rN (cx_ok _ _ _) (rO rfl (oM rfl ?_))))
   refine rO rfl (Ope.add rfl rfl (by omega) ?_)
   refine rO rfl (oA rfl ?_)
   exact rI (Run.lend ⟨(i+1,some m,m+1),by show L.length - (i+1) < L.length - i;omega,⟨by show i+1≤L.length;omega,by show 1≤m+1;omega,fun j hj=>by cases hj;exact ⟨hm,by show 0 < i+1;omega⟩⟩,⟨rfl,rfl,rfl,by rw [hts];rfl,rfl,rfl,trivial⟩,rfl,rfl⟩)
  ·refine Run.exit (Jmp.code (Jmp.round (Jmp.here (rS ?_))))
   obtain rfl:i=L.length:=by omega
   rw [List.take_length]
   refine Run.weakT (d:=7) rfl ?_
   refine Run.wideS (m:=m) (l':=[(0,some (.cells [I 0,I 0]))]) (Nat.le_refl _) (hs_own0 fun j hj=>(hO j hj).1) ?_
   refine rN (cx_ok _ _ _) (rO rfl (oM rfl ?_))
   refine rO rfl (Ope.cf rfl rfl hhu (hbl _) ?_)
   refine Reg.op0 (Ope.store rfl rfl hget_hd rfl rfl rfl ?_)
   refine rO rfl (oA rfl ?_)
   exact rI (Run.ret (fin_ret (.cell rfl rfl (.tmp rfl .nil)) rfl rfl))
theorem f20v (hf:f.ok):Fn P0 20 [f.v t1 t2] (.tup [(f.spn (gC (2 ^ f.li.length - 1))).v,I 0]):=by
  have hv:=fns_B f hf
  have hl5:=hf.li
  have hr4:=hf.ru
  have hS:f.ru.length≤9223372036854775807:=by omega
  have hJ:f.li.length≤9223372036854775807:=by omega
  have hck:=f43 f h1 h2 hS hJ true
  rw [show ckI f true=0 from by unfold ckI;rw [if_pos hv,if_pos rfl]] at hck
  have hbc:PV.bds 0 [f.v t1 t2,B true]=true:=bd_fnsV f h1 h2 rfl
  have hb0:PV.bds 0 [f.v t1 t2]=true:=bd_fnsV f h1 h2 rfl
  have htr:=f31 f h1 h2 hf
  have hLm:=truL_le hf
  have hbt:∀ (T:List Deed) (k:Nat),PV.bds 0 [f.v t1 t2,tV T,N k]=true:=fun T k=>bd_fnsV f h1 h2 (bds_cons (bd_agg (bds_cons (bd_sl (f:=I) (tl:=.no) rfl (fun _=>rfl) _) (bds_cons (bd_sl (f:=I) (tl:=.no) rfl (fun _=>rfl) _) rfl))) rfl)
  have hbl:∀ xs:List Int,PV.bds 0 [.sl .no (xs.map I)]=true:=fun xs=>bds_cons (bd_sl (f:=I) (tl:=.no) rfl (fun _=>rfl) _) rfl
  obtain ⟨V,hV⟩:∃ V:List Deed→Int,V=f.val (gC (2 ^ f.li.length - 1)):=⟨_,rfl⟩
  have hsp:f.spn (gC (2 ^ f.li.length - 1))=hullL ((f.truN f.li.length).map V):=by rw [hV];exact spn_c hf (gC_ok _)
  have hco:∀ T∈f.truN f.li.length,∃ X:List Int,X.length=f.li.length∧(∀ k (h:k < X.length),(0≤X[k]∧X[k]≤1000)∧Fn P0 45 [f.v t1 t2,tV T,N k] (I X[k]))∧V T=isum X:=fun T hT=>by
    have hT:=truN_tru.1 hT
    refine ⟨f.exa T,by unfold Fns.exa;rw [List.length_map,hT.ln],fun k hk=>?_,by rw [hV];exact val_gCall hT⟩
    have hkT:k < T.length:=by unfold Fns.exa at hk;rw [List.length_map] at hk;exact hk
    have h:=f45 f h1 h2 hf .no .no rfl rfl (T.map Deed.ri) (T.map Deed.ho) (by rw [List.length_map,hT.ln]) (by rw [List.length_map,hT.ln]) (tru_ho hf hT) k (by rw [← hT.ln];exact hkT)
    have hb9:=cR_bd hf (T.map Deed.ri) (T.map Deed.ho) k
    rw [cR_tru hT hkT] at h hb9
    have e:(f.exa T)[k]=f.cin T T[k]:=by simp [Fns.exa]
    rw [e]
    exact ⟨hb9,h⟩
  have hne:(f.truN f.li.length).map V≠[]:=by
    obtain ⟨T,hT⟩:=tru_some hf
    exact List.ne_nil_of_mem (List.mem_map_of_mem (truN_tru.2 hT))
  have hhu:=f46 .no rfl ((f.truN f.li.length).map V) hne (by rw [List.length_map];omega)
  rw [hsp]
  generalize f.truN f.li.length=L at *
  generalize hullL (L.map V)=E at *
  have hsu:∀ (X:List Int) i (h:i < X.length),isum (X.take (i+1))=isum (X.take i)+X[i]:=fun X i h=>by rw [List.take_succ_eq_append_getElem h,isum_snoc]
  have hsm:∀ (X:List Int) (m:Int) (n:Nat),0≤m→(∀ i (h:i < X.length),0≤X[i]∧X[i]≤m)→X.length≤n→∀ i,0≤isum (X.take i)∧isum (X.take i)≤m * n:=fun X m n hm h hn i=>isum_le hm (fun x hx=>by
    obtain ⟨j,hj,rfl⟩:=List.getElem_of_mem (List.mem_of_mem_take hx)
    exact h j hj) (by rw [List.length_take];omega)
  clear hV hsp hne
  refine PFun.of (C:=c20) (cx_ok _ _ _) rfl (fn:=Tryz.f20) (by kernel_rfl) (c:=_) rfl rfl rfl ?_
  refine rS (rN (cx_ok _ _ _) (rO rfl (Ope.boxF rfl rfl ?_)))
  refine rO rfl (Ope.newL rfl ?_)
  refine rO rfl (oA rfl ?_)
  refine rI (rS (rN (cx_ok _ _ _) (rO rfl (oL rfl rfl ?_))))
  refine rO rfl (Ope.cf rfl rfl hck hbc ?_)
  refine rO rfl (oA rfl ?_)
  refine rI (rS (rS (rN (cx_ok _ _ _) (rO rfl (oM rfl ?_)))))
  refine rO rfl (Ope.neS rfl rfl ?_)
  refine rI (Run.condF rfl (Run.skip (rS (rN (cx_ok _ _ _) (rO rfl (oA rfl ?_))))))
  refine rI (rS (rN (cx_ok _ _ _) (rO rfl (oL rfl rfl ?_))))
  refine rO rfl (Ope.cf rfl rfl htr hb0 ?_)
  refine rO rfl (oA rfl ?_)
  refine rI (rS (rS (rN (cx_ok _ _ _) (rO rfl (oA rfl ?_)))))
  refine rI (Run.block (Run.loop (α:=Nat×Option Nat×Nat) (fun t=>[(1,.fp (f.v t1 t2)),(2,.ptr 0 0),(5,.sl (tlU t.2.1) (((L.take t.1).map V).map I)),(6,.sl .no (L.map tV)),(7,I t.1)]) (fun t=>HE t.2.2 (ownU t.2.1++[(0,some (.cells [I 0,I 0]))])) (fun t=>t.1≤L.length∧1≤t.2.2∧∀ j,t.2.1=some j→1≤j∧0 < t.1) (fun t=>L.length - t.1) (0,none,1) ⟨rfl,rfl,rfl,rfl,rfl,trivial⟩ rfl ⟨Nat.zero_le _,Nat.le_refl _,fun j hj=>by cases hj⟩ (fun t ht=>?_)))
  obtain ⟨i,o,m⟩:=t
  obtain ⟨hi,hm,hO⟩:=ht
  simp only at hi hm hO
  show Run _ _ _ _ [(1,.fp (f.v t1 t2)),(2,.ptr 0 0),(5,.sl (tlU o) (((L.take i).map V).map I)),(6,.sl .no (L.map tV)),(7,I i)] [] (HE m (ownU o++[(0,some (.cells [I 0,I 0]))]))
  refine rS (rS (rN (cx_ok _ _ _) (rO rfl (oM rfl ?_))))
  refine rO rfl (oM rfl ?_)
  refine rO rfl (Ope.len (m:=L.length) rfl (by simp) ?_)
  refine rO rfl (Ope.lt rfl rfl ?_)
  refine rI (rC rfl (fun hc=>?_) fun hc=>?_)
  ·refine Run.skip (rS (Run.block (rS ?_)))
   have hlt:i < L.length:=by omega
   obtain ⟨X,hXl,hXc,hXV⟩:=hco L[i] (List.getElem_mem hlt)
   have hts:((L.take (i+1)).map V).map I=((L.take i).map V).map I++[I (V L[i])]:=by rw [List.take_succ_eq_append_getElem hlt,List.map_append,List.map_append];rfl
   have hA:∀ j,o=some j→((L.take i).map V).map I≠[]∧hget ([(0,some (.cells [I 0,I 0]))]:HL) j=none:=fun j hj=>⟨fun e=>by
     have h9:=congrArg List.length e
     rw [List.length_map,List.length_map,List.length_take] at h9
     have h8:min i L.length=0:=h9
     have:=(hO j hj).2
     omega,(hget_tl (by have:=(hO j hj).1;omega)).trans rfl⟩
   have hll:(((L.take i).map V).map I).length≤1889568:=by rw [List.length_map,List.length_map,List.length_take];omega
   refine rN (cx_ok _ _ _) (rO rfl (oA rfl ?_))
   refine rI (rS (rS (rN (cx_ok _ _ _) (rO rfl (oA rfl ?_)))))
   refine rI (Run.block (Run.loop (α:=Nat) (fun k=>[(1,.fp (f.v t1 t2)),(2,.ptr 0 0),(5,.sl (tlU o) (((L.take i).map V).map I)),(6,.sl .no (L.map tV)),(7,I i),(8,I (isum (X.take k))),(9,I k)]) (fun k=>HE m (ownU o++[(0,some (.cells [I 0,I 0]))])) (fun k=>k≤X.length) (fun k=>X.length - k) 0 ⟨rfl,rfl,rfl,rfl,rfl,rfl,rfl,trivial⟩ rfl (Nat.zero_le _) (fun k hk=>?_)))
   refine rS (rS (rN (cx_ok _ _ _) (rO rfl (oM rfl ?_))))
   refine rO rfl (Ope.fld rfl rfl ?_)
   refine rO rfl (oL rfl rfl ?_)
   refine rO rfl (Ope.len (m:=f.li.length) rfl (by simp) ?_)
   refine rO rfl (Ope.lt rfl rfl ?_)
   refine rI (rC rfl (fun hc=>?_) fun hc=>?_)
   ·refine Run.skip (rS (Run.block ?_))
    have hkX:k < X.length:=by omega
    obtain ⟨hXb,hci⟩:=hXc k hkX
    have hS1:=hsu X k hkX
    have hS2:=hsm X 1000 5 (by decide) (fun i h=>(hXc i h).1) (by omega) k
    refine Run.draw (cx_ok _ _ _) [(0,true),(1,true),(2,true),(3,true),(4,true),(5,true),(6,true),(7,true),(8,true),(9,true)] (by kernel_rfl) (dO rfl rfl rfl .sure (oM rfl ?_))
    refine dO rfl rfl rfl .sure (oL rfl rfl ?_)
    refine dO rfl rfl rfl .sure (oM rfl ?_)
    refine dO rfl rfl rfl .sure (oM rfl ?_)
    refine dO rfl rfl rfl .sure (Ope.idxM (m:=i) (f:=tV) rfl rfl rfl hlt (fun _=>rfl) ?_)
    refine dO rfl rfl rfl .sure (oL rfl rfl ?_)
    refine dO rfl rfl rfl .sure (oM rfl ?_)
    refine dO rfl rfl rfl .sure (Ope.cf rfl rfl hci (hbt _ _) ?_)
    refine dO rfl rfl rfl .sure (Ope.add rfl rfl (by omega) ?_)
    refine dO rfl rfl rfl .sure (oA rfl ?_)
    refine Dra.nil (Run.bend (rN (cx_ok _ _ _) (rO rfl (oM rfl ?_))))
    refine rO rfl (Ope.add rfl rfl (by omega) ?_)
    refine rO rfl (oA rfl ?_)
    exact rI (Run.lend ⟨k+1,by omega,by omega,⟨rfl,rfl,rfl,rfl,rfl,by rw [hS1];rfl,rfl,trivial⟩,rfl,rfl⟩)
   ·refine Run.exit (Jmp.code (Jmp.round (Jmp.here ?_)))
    obtain rfl:k=X.length:=by omega
    rw [List.take_length,← hXV]
    refine rN (cx_ok _ _ _) (rO rfl (oM rfl ?_))
    refine rO rfl (oM rfl ?_)
    refine rO rfl (Ope.bsl rfl rfl rfl rfl ?_)
    refine rO rfl (Ope.apU (o':=o) (vs:=((L.take i).map V).map I) (ws:=[I (V L[i])]) rfl rfl (by simp) hA (by rw [List.length_singleton];omega) (by rw [List.length_singleton];omega) (by decide) (by intro v hv;obtain ⟨_,_,rfl⟩:=List.mem_map.1 hv;rfl) (by intro v hv;simp only [List.mem_singleton] at hv;subst hv;exact ⟨rfl,rfl⟩) ?_)
    refine rO rfl (oA rfl ?_)
    refine rI (Run.bend (rN (cx_ok _ _ _) (rO rfl (oM rfl ?_))))
    refine rO rfl (Ope.add rfl rfl (by omega) ?_)
    refine rO rfl (oA rfl ?_)
    exact rI (Run.lend ⟨(i+1,some m,m+1),by show L.length - (i+1) < L.length - i;omega,⟨by show i+1≤L.length;omega,by show 1≤m+1;omega,fun j hj=>by cases hj;exact ⟨hm,by show 0 < i+1;omega⟩⟩,⟨rfl,rfl,by rw [hts];rfl,rfl,rfl,trivial⟩,rfl,rfl⟩)
  ·refine Run.exit (Jmp.code (Jmp.round (Jmp.here (rS ?_))))
   obtain rfl:i=L.length:=by omega
   rw [List.take_length]
   refine Run.weakT (d:=5) rfl ?_
   refine Run.wideS (m:=m) (l':=[(0,some (.cells [I 0,I 0]))]) (Nat.le_refl _) (hs_own0 fun j hj=>(hO j hj).1) ?_
   refine rN (cx_ok _ _ _) (rO rfl (oM rfl ?_))
   refine rO rfl (Ope.cf rfl rfl hhu (hbl _) ?_)
   refine Reg.op0 (Ope.store rfl rfl hget_hd rfl rfl rfl ?_)
   refine rO rfl (oA rfl ?_)
   exact rI (Run.ret (fin_ret (.cell rfl rfl (.tmp rfl .nil)) rfl rfl))
end
end Go.Pv
namespace Go.Pv
open Go.Proofs Go.Am
set_option maxRecDepth 10000
set_option maxHeartbeats 4000000
section
variable (f:Fns) {t1 t2:Tail} (h1:t1.isOwn=false) (h2:t2.isOwn=false)
include h1 h2
end
end Go.Pv
namespace Go.Pv
open Go.Proofs Go.Am
set_option maxRecDepth 10000
set_option maxHeartbeats 4000000
section
variable (f:Fns) {t1 t2:Tail} (h1:t1.isOwn=false) (h2:t2.isOwn=false)
include h1 h2
theorem f14e (hS:f.ru.length≤9223372036854775807) (hJ:f.li.length≤9223372036854775807) (n:Int) (he:ckI f (inB n 0 ((f.li.length:Int) - 1))≠0):Fn P0 14 [f.v t1 t2,I n] (.tup [.agg [I 0,I 0],I (ckI f (inB n 0 ((f.li.length:Int) - 1)))]):=by
  have hck:=f43 f h1 h2 hS hJ (inB n 0 ((f.li.length:Int) - 1))
  have hin:=f44 n 0 ((f.li.length:Int) - 1)
  have hbc:∀ b:Bool,PV.bds 0 [f.v t1 t2,B b]=true:=fun b=>bd_fnsV f h1 h2 rfl
  have hbn:PV.bds 0 [f.v t1 t2,I n]=true:=bd_fnsV f h1 h2 rfl
  generalize ckI f (inB n 0 ((f.li.length:Int) - 1))=e at *
  refine PFun.of (C:=c14) (cx_ok _ _ _) rfl (fn:=Tryz.f14) (by kernel_rfl) (c:=_) rfl rfl rfl ?_
  refine rS (rN (cx_ok _ _ _) (rO rfl (Ope.boxF rfl rfl ?_)))
  refine rO rfl (Ope.newL rfl ?_)
  refine rO rfl (oA rfl ?_)
  refine rI (rS (Run.draw (cx_ok _ _ _) [(0,false),(1,true),(2,true),(3,true),(4,true),(5,true),(6,true),(7,true),(8,true)] (by kernel_rfl) (dO rfl rfl rfl (.load rfl) (oL rfl rfl ?_))))
  refine dO rfl rfl rfl .sure (oM rfl ?_)
  refine dO rfl rfl rfl .sure (Ope.fld rfl rfl ?_)
  refine dO rfl rfl rfl .sure (oL rfl rfl ?_)
  refine dO rfl rfl rfl .sure (Ope.len (m:=f.li.length) rfl (by simp) ?_)
  refine dO rfl rfl rfl .sure (Ope.sub rfl rfl (by omega) ?_)
  refine dO rfl rfl rfl .sure (Ope.cf rfl rfl hin rfl ?_)
  refine dO rfl rfl rfl .sure (Ope.cf rfl rfl hck (hbc _) ?_)
  refine dO rfl rfl rfl .sure (oA rfl ?_)
  refine Dra.nil (rS (rS (rN (cx_ok _ _ _) (rO rfl (oM rfl ?_)))))
  refine rO rfl (Ope.ne rfl rfl ?_)
  refine rI (rC rfl (fun hc=>?_) fun hc=>?_)
  ·refine rS (rN (cx_ok _ _ _) (rO rfl (Ope.bld rfl rfl ?_)))
   refine rO rfl (oM rfl ?_)
   refine Reg.op0 (Ope.store rfl rfl hget_hd rfl rfl rfl ?_)
   refine rO rfl (oA rfl ?_)
   exact rI (Run.ret (Jmp.code (fin_ret (.cell rfl rfl (.tmp rfl .nil)) rfl rfl)))
  ·(exfalso;first | exact hc he | exact absurd he (by simpa using hc))
theorem f16e (hS:f.ru.length≤9223372036854775807) (hJ:f.li.length≤9223372036854775807) (n:Int) (he:ckI f (rdB f n)≠0):Fn P0 16 [f.v t1 t2,I n] (.tup [.agg [I 0,I 0],I (ckI f (rdB f n))]):=by
  have hck:=f43 f h1 h2 hS hJ (rdB f n)
  have hrd:=f49 f h1 h2 n
  have hbc:∀ b:Bool,PV.bds 0 [f.v t1 t2,B b]=true:=fun b=>bd_fnsV f h1 h2 rfl
  have hbn:PV.bds 0 [f.v t1 t2,I n]=true:=bd_fnsV f h1 h2 rfl
  generalize ckI f (rdB f n)=e at *
  refine PFun.of (C:=c16) (cx_ok _ _ _) rfl (fn:=Tryz.f16) (by kernel_rfl) (c:=_) rfl rfl rfl ?_
  refine rS (rN (cx_ok _ _ _) (rO rfl (Ope.boxF rfl rfl ?_)))
  refine rO rfl (Ope.newL rfl ?_)
  refine rO rfl (oA rfl ?_)
  refine rI (rS (Run.draw (cx_ok _ _ _) [(0,false),(1,true),(2,true),(3,true),(4,true),(5,true)] (by kernel_rfl) (dO rfl rfl rfl (.load rfl) (oL rfl rfl ?_))))
  refine dO rfl rfl rfl .sure (oL rfl rfl ?_)
  refine dO rfl rfl rfl .sure (oM rfl ?_)
  refine dO rfl rfl rfl .sure (Ope.cf rfl rfl hrd hbn ?_)
  refine dO rfl rfl rfl .sure (Ope.cf rfl rfl hck (hbc _) ?_)
  refine dO rfl rfl rfl .sure (oA rfl ?_)
  refine Dra.nil (rS (rS (rN (cx_ok _ _ _) (rO rfl (oM rfl ?_)))))
  refine rO rfl (Ope.ne rfl rfl ?_)
  refine rI (rC rfl (fun hc=>?_) fun hc=>?_)
  ·refine rS (rN (cx_ok _ _ _) (rO rfl (Ope.bld rfl rfl ?_)))
   refine rO rfl (oM rfl ?_)
   refine Reg.op0 (Ope.store rfl rfl hget_hd rfl rfl rfl ?_)
   refine rO rfl (oA rfl ?_)
   exact rI (Run.ret (Jmp.code (fin_ret (.cell rfl rfl (.tmp rfl .nil)) rfl rfl)))
  ·(exfalso;first | exact hc he | exact absurd he (by simpa using hc))
theorem f18e (hS:f.ru.length≤9223372036854775807) (hJ:f.li.length≤9223372036854775807) (n:Int) (he:ckI f (rdB f n)≠0):Fn P0 18 [f.v t1 t2,I n] (.tup [.agg [I 0,I 0],I (ckI f (rdB f n))]):=by
  have hck:=f43 f h1 h2 hS hJ (rdB f n)
  have hrd:=f49 f h1 h2 n
  have hbc:∀ b:Bool,PV.bds 0 [f.v t1 t2,B b]=true:=fun b=>bd_fnsV f h1 h2 rfl
  have hbn:PV.bds 0 [f.v t1 t2,I n]=true:=bd_fnsV f h1 h2 rfl
  generalize ckI f (rdB f n)=e at *
  refine PFun.of (C:=c18) (cx_ok _ _ _) rfl (fn:=Tryz.f18) (by kernel_rfl) (c:=_) rfl rfl rfl ?_
  refine rS (rN (cx_ok _ _ _) (rO rfl (Ope.boxF rfl rfl ?_)))
  refine rO rfl (Ope.newL rfl ?_)
  refine rO rfl (oA rfl ?_)
  refine rI (rS (Run.draw (cx_ok _ _ _) [(0,false),(1,true),(2,true),(3,true),(4,true),(5,true)] (by kernel_rfl) (dO rfl rfl rfl (.load rfl) (oL rfl rfl ?_))))
  refine dO rfl rfl rfl .sure (oL rfl rfl ?_)
  refine dO rfl rfl rfl .sure (oM rfl ?_)
  refine dO rfl rfl rfl .sure (Ope.cf rfl rfl hrd hbn ?_)
  refine dO rfl rfl rfl .sure (Ope.cf rfl rfl hck (hbc _) ?_)
  refine dO rfl rfl rfl .sure (oA rfl ?_)
  refine Dra.nil (rS (rS (rN (cx_ok _ _ _) (rO rfl (oM rfl ?_)))))
  refine rO rfl (Ope.ne rfl rfl ?_)
  refine rI (rC rfl (fun hc=>?_) fun hc=>?_)
  ·refine rS (rN (cx_ok _ _ _) (rO rfl (Ope.bld rfl rfl ?_)))
   refine rO rfl (oM rfl ?_)
   refine Reg.op0 (Ope.store rfl rfl hget_hd rfl rfl rfl ?_)
   refine rO rfl (oA rfl ?_)
   exact rI (Run.ret (Jmp.code (fin_ret (.cell rfl rfl (.tmp rfl .nil)) rfl rfl)))
  ·(exfalso;first | exact hc he | exact absurd he (by simpa using hc))
theorem f20e (hS:f.ru.length≤9223372036854775807) (hJ:f.li.length≤9223372036854775807) (he:ckI f true≠0):Fn P0 20 [f.v t1 t2] (.tup [.agg [I 0,I 0],I (ckI f true)]):=by
  have hck:=f43 f h1 h2 hS hJ true
  have hbc:∀ b:Bool,PV.bds 0 [f.v t1 t2,B b]=true:=fun b=>bd_fnsV f h1 h2 rfl
  generalize ckI f true=e at *
  refine PFun.of (C:=c20) (cx_ok _ _ _) rfl (fn:=Tryz.f20) (by kernel_rfl) (c:=_) rfl rfl rfl ?_
  refine rS (rN (cx_ok _ _ _) (rO rfl (Ope.boxF rfl rfl ?_)))
  refine rO rfl (Ope.newL rfl ?_)
  refine rO rfl (oA rfl ?_)
  refine rI (rS (rN (cx_ok _ _ _) (rO rfl (oL rfl rfl ?_))))
  refine rO rfl (Ope.cf rfl rfl hck (hbc _) ?_)
  refine rO rfl (oA rfl ?_)
  refine rI (rS (rS (rN (cx_ok _ _ _) (rO rfl (oM rfl ?_)))))
  refine rO rfl (Ope.ne rfl rfl ?_)
  refine rI (rC rfl (fun hc=>?_) fun hc=>?_)
  ·refine rS (rN (cx_ok _ _ _) (rO rfl (Ope.bld rfl rfl ?_)))
   refine rO rfl (oM rfl ?_)
   refine Reg.op0 (Ope.store rfl rfl hget_hd rfl rfl rfl ?_)
   refine rO rfl (oA rfl ?_)
   exact rI (Run.ret (Jmp.code (fin_ret (.cell rfl rfl (.tmp rfl .nil)) rfl rfl)))
  ·(exfalso;first | exact hc he | exact absurd he (by simpa using hc))
theorem f14 (hS:f.ru.length≤9223372036854775807) (hJ:f.li.length≤9223372036854775807) (n:Int):Fn P0 14 [f.v t1 t2,I n] (tolS f (numB (f.li.length:Int) n) (f.spn (gC (1 * 2 ^ n.toNat)))):=by
  cases hB:f.B with
  | false =>
    have hck:ckI f (inB n 0 ((f.li.length:Int) - 1))=1:=by unfold ckI;rw [if_neg (by rw [hB];decide)]
    have h:=f14e f h1 h2 hS hJ n (by rw [hck];decide)
    rw [hck] at h
    unfold tolS
    rw [if_neg (by rw [hB];decide)]
    exact h
  | true =>
    have hf:=fns_ok f hB
    have heq:inB n 0 ((f.li.length:Int) - 1)=numB (f.li.length:Int) n:=by 
      unfold inB numB
      congr 1
      exact decide_eq_decide.2 (by omega)
    cases hb:numB (f.li.length:Int) n with
    | false =>
      have hck:ckI f (inB n 0 ((f.li.length:Int) - 1))=2:=by unfold ckI;rw [if_pos hB,heq,hb,if_neg (by decide)]
      have h:=f14e f h1 h2 hS hJ n (by rw [hck];decide)
      rw [hck] at h
      unfold tolS
      rw [if_pos hB,if_neg (by decide)]
      exact h
    | true =>
      have hb':=hb
      unfold numB at hb'
      simp only [Bool.and_eq_true,decide_eq_true_eq] at hb'
      obtain ⟨q,rfl⟩:∃ q:Nat,n=(q:Int):=⟨n.toNat,by omega⟩
      unfold tolS
      rw [if_pos hB,if_pos rfl]
      rw [Int.toNat_natCast]
      exact f14v f h1 h2 hf q (by omega)
theorem f16 (hS:f.ru.length≤9223372036854775807) (hJ:f.li.length≤9223372036854775807) (n:Int):Fn P0 16 [f.v t1 t2,I n] (tolS f (numB f.n n) (f.spn (gF n))):=by
  cases hB:f.B with
  | false =>
    have hck:ckI f (rdB f n)=1:=by unfold ckI;rw [if_neg (by rw [hB];decide)]
    have h:=f16e f h1 h2 hS hJ n (by rw [hck];decide)
    rw [hck] at h
    unfold tolS
    rw [if_neg (by rw [hB];decide)]
    exact h
  | true =>
    have hf:=fns_ok f hB
    have heq:rdB f n=numB f.n n:=by exact rdB_ok hf n
    cases hb:numB f.n n with
    | false =>
      have hck:ckI f (rdB f n)=2:=by unfold ckI;rw [if_pos hB,heq,hb,if_neg (by decide)]
      have h:=f16e f h1 h2 hS hJ n (by rw [hck];decide)
      rw [hck] at h
      unfold tolS
      rw [if_pos hB,if_neg (by decide)]
      exact h
    | true =>
      have hb':=hb
      unfold numB at hb'
      simp only [Bool.and_eq_true,decide_eq_true_eq] at hb'
      obtain ⟨q,rfl⟩:∃ q:Nat,n=(q:Int):=⟨n.toNat,by omega⟩
      unfold tolS
      rw [if_pos hB,if_pos rfl]
      exact f16v f h1 h2 hf q (by omega)
theorem f18 (hS:f.ru.length≤9223372036854775807) (hJ:f.li.length≤9223372036854775807) (n:Int):Fn P0 18 [f.v t1 t2,I n] (tolS f (numB f.n n) (f.spn (gP n))):=by
  cases hB:f.B with
  | false =>
    have hck:ckI f (rdB f n)=1:=by unfold ckI;rw [if_neg (by rw [hB];decide)]
    have h:=f18e f h1 h2 hS hJ n (by rw [hck];decide)
    rw [hck] at h
    unfold tolS
    rw [if_neg (by rw [hB];decide)]
    exact h
  | true =>
    have hf:=fns_ok f hB
    have heq:rdB f n=numB f.n n:=by exact rdB_ok hf n
    cases hb:numB f.n n with
    | false =>
      have hck:ckI f (rdB f n)=2:=by unfold ckI;rw [if_pos hB,heq,hb,if_neg (by decide)]
      have h:=f18e f h1 h2 hS hJ n (by rw [hck];decide)
      rw [hck] at h
      unfold tolS
      rw [if_pos hB,if_neg (by decide)]
      exact h
    | true =>
      have hb':=hb
      unfold numB at hb'
      simp only [Bool.and_eq_true,decide_eq_true_eq] at hb'
      obtain ⟨q,rfl⟩:∃ q:Nat,n=(q:Int):=⟨n.toNat,by omega⟩
      unfold tolS
      rw [if_pos hB,if_pos rfl]
      exact f18v f h1 h2 hf q (by omega)
theorem f20 (hS:f.ru.length≤9223372036854775807) (hJ:f.li.length≤9223372036854775807):Fn P0 20 [f.v t1 t2] (tolS f true (f.spn (gC (2 ^ f.li.length - 1)))):=by
  cases hB:f.B with
  | false =>
    have hck:ckI f true=1:=by unfold ckI;rw [if_neg (by rw [hB];decide)]
    have h:=f20e f h1 h2 hS hJ (by rw [hck];decide)
    rw [hck] at h
    unfold tolS
    rw [if_neg (by rw [hB];decide)]
    exact h
  | true =>
    unfold tolS
    rw [if_pos hB,if_pos rfl]
    exact f20v f h1 h2 (fns_ok f hB)
theorem f22n (hS:f.ru.length≤9223372036854775807) (hJ:f.li.length≤9223372036854775807) (hB:f.B=false) (p q:PV):Fn P0 22 [f.v t1 t2,p,q] (.tup [.sl .ex [],I 1]):=by
  have hfi:=f26 f h1 h2 hS hJ
  rw [hB] at hfi
  have hb0:PV.bds 0 [f.v t1 t2]=true:=bd_fnsV f h1 h2 rfl
  refine PFun.of (C:=c22) (cx_ok _ _ _) rfl (fn:=Tryz.f22) (by kernel_rfl) (c:=_) rfl rfl rfl ?_
  refine rS (rN (cx_ok _ _ _) (rO rfl (Ope.boxF rfl rfl ?_)))
  refine rO rfl (oA rfl ?_)
  refine rO rfl (oA rfl ?_)
  refine rI (rS (rS (rN (cx_ok _ _ _) (rO rfl (oL rfl rfl ?_)))))
  refine rO rfl (Ope.cf rfl rfl hfi hb0 ?_)
  refine rO rfl (Ope.not rfl ?_)
  refine rI (rC rfl (fun hc=>?_) fun hc=>?_)
  ·refine rS (rN (cx_ok _ _ _) (rO rfl (oA rfl ?_)))
   refine rO rfl (oA rfl ?_)
   exact rI (Run.ret (Jmp.code (fin_ret (.tmp rfl (.tmp rfl .nil)) rfl rfl)))
  ·(exact absurd hc (by decide))
theorem f22l (hB:f.B=true) (ta tb:Tail) (ri ho:List Int) (hl:¬ (ri.length=f.li.length∧ho.length=f.li.length)):Fn P0 22 [f.v t1 t2,.sl ta (ri.map I),.sl tb (ho.map I)] (.tup [.sl .ex [],I 2]):=by
  have hf:=fns_ok f hB
  have hl5:=hf.li
  have hr4:=hf.ru
  have hfi:=f26 f h1 h2 (by omega) (by omega)
  rw [hB] at hfi
  have hb0:PV.bds 0 [f.v t1 t2]=true:=bd_fnsV f h1 h2 rfl
  clear hf
  refine PFun.of (C:=c22) (cx_ok _ _ _) rfl (fn:=Tryz.f22) (by kernel_rfl) (c:=_) rfl rfl rfl ?_
  refine rS (rN (cx_ok _ _ _) (rO rfl (Ope.boxF rfl rfl ?_)))
  refine rO rfl (oA rfl ?_)
  refine rO rfl (oA rfl ?_)
  refine rI (rS (rS (rN (cx_ok _ _ _) (rO rfl (oL rfl rfl ?_)))))
  refine rO rfl (Ope.cf rfl rfl hfi hb0 ?_)
  refine rO rfl (Ope.not rfl ?_)
  refine rI (rC rfl (fun hc=>?_) fun hc=>?_)
  ·(exact absurd hc (by decide))
  ·refine Run.skip (rS (rS (rN (cx_ok _ _ _) (rO rfl (oM rfl ?_)))))
   refine rO rfl (Ope.len (m:=ri.length) rfl (by simp) ?_)
   refine rO rfl (Ope.fld rfl rfl ?_)
   refine rO rfl (oL rfl rfl ?_)
   refine rO rfl (Ope.len (m:=f.li.length) rfl (by simp) ?_)
   refine rO rfl (Ope.ne rfl rfl ?_)
   refine rO rfl (oM rfl ?_)
   refine Reg.splitX rfl rfl (fun hg=>?_) fun hg=>?_
   ·refine Reg.off rfl rfl rfl (Reg.off rfl rfl rfl (Reg.off rfl rfl rfl (Reg.off rfl rfl rfl (Reg.off rfl rfl rfl (Reg.off rfl rfl rfl (rO rfl (Ope.pickT rfl rfl ?_)))))))
    refine rI (Run.condT rfl (rS (rN (cx_ok _ _ _) (rO rfl (oA rfl ?_)))))
    refine rO rfl (oA rfl ?_)
    exact rI (Run.ret (Jmp.code (fin_ret (.tmp rfl (.tmp rfl .nil)) rfl rfl)))
   ·refine Reg.on rfl rfl rfl (oM rfl ?_)
    refine Reg.on rfl rfl rfl (Ope.len (m:=ho.length) rfl (by simp) ?_)
    refine Reg.on rfl rfl rfl (Ope.fld rfl rfl ?_)
    refine Reg.on rfl rfl rfl (oL rfl rfl ?_)
    refine Reg.on rfl rfl rfl (Ope.len (m:=f.li.length) rfl (by simp) ?_)
    refine Reg.on rfl rfl rfl (Ope.ne rfl rfl ?_)
    refine rO rfl (Ope.pickF rfl rfl ?_)
    refine rI (rC rfl (fun hc=>?_) fun hc=>?_)
    ·refine rS (rN (cx_ok _ _ _) (rO rfl (oA rfl ?_)))
     refine rO rfl (oA rfl ?_)
     exact rI (Run.ret (Jmp.code (fin_ret (.tmp rfl (.tmp rfl .nil)) rfl rfl)))
    ·(exfalso;omega)
theorem f22k (hf:f.ok) (ta tb:Tail) (hta:ta.isOwn=false) (htb:tb.isOwn=false) (ri ho:List Int) (hR:ri.length=f.li.length) (hH:ho.length=f.li.length):Fn P0 22 [f.v t1 t2,.sl ta (ri.map I),.sl tb (ho.map I)] (tolL f (f.knB ri ho) .no (f.exa (f.dl ri ho f.li.length))):=by
  have hl5:=hf.li
  have hr4:=hf.ru
  have hB:=fns_B f hf
  have hfi:=f26 f h1 h2 (by omega) (by omega)
  rw [hB] at hfi
  have hb0:PV.bds 0 [f.v t1 t2]=true:=bd_fnsV f h1 h2 rfl
  have hbn:∀ n:Int,PV.bds 0 [f.v t1 t2,I n]=true:=fun n=>bd_fnsV f h1 h2 rfl
  have hrd:=fun n=>f49 f h1 h2 n
  simp only [rdB_ok hf] at hrd
  have hup:=fun x=>f44 x 0 144
  have hno:=fun {i m:Nat} (h:i < m)=>@knN_no f.n ri ho i m h
  have hsu:=knN_succ f.n ri ho
  have hg1:∀ i (h:i < ri.length),ri.getD i 0=ri[i]:=fun i h=>by simp [List.getD,h]
  have hg2:∀ i (h:i < ho.length),ho.getD i 0=ho[i]:=fun i h=>by simp [List.getD,h]
  have hk0:knN f.n ri ho 0=true:=rfl
  have hKn:f.knB ri ho=knN f.n ri ho f.li.length:=by
    unfold Fns.knB
    rw [decide_eq_true hR,decide_eq_true hH,Bool.true_and,Bool.true_and]
  obtain ⟨X,hX⟩:∃ X,f.exa (f.dl ri ho f.li.length)=X:=⟨_,rfl⟩
  have hXl:X.length=f.li.length:=by rw [← hX];unfold Fns.exa;rw [List.length_map,dl_len]
  have hco:knN f.n ri ho f.li.length=true→∀ i (h:i < X.length),Fn P0 45 [f.v t1 t2,tR ta tb ri ho,N i] (I X[i]):=fun hk i h=>by
    have hkn:=kno_of (f:=f) (ri:=ri) (ho:=ho) (by rw [hKn];exact hk)
    have h9:=f45 f h1 h2 hf ta tb hta htb ri ho hR hH hkn.h i (by omega)
    subst hX
    rw [cR_exa f ri ho h]
    exact h9
  have hbt:∀ k:Nat,PV.bds 0 [f.v t1 t2,tR ta tb ri ho,N k]=true:=fun k=>bd_fnsV f h1 h2 (bds_cons (bd_agg (bds_cons (bd_sl (f:=I) hta (fun _=>rfl) _) (bds_cons (bd_sl (f:=I) htb (fun _=>rfl) _) rfl))) rfl)
  rw [hX,hKn]
  have hF:knN f.n ri ho f.li.length=false→tolL f (knN f.n ri ho f.li.length) .no X=.tup [.sl .ex [],I 2]:=fun h=>by rw [h];exact tolL_no hB _ _
  have hT:knN f.n ri ho f.li.length=true→tolL f (knN f.n ri ho f.li.length) .no X=.tup [.sl .no (X.map I),I 0]:=fun h=>by rw [h];exact tolL_ok hB _ _
  generalize tolL f (knN f.n ri ho f.li.length) .no X=Z at *
  generalize knN f.n ri ho=K at *
  have hbd:PV.bd 0 (.tup [.sl .no (X.map I),I 0])=true:=by
    have h9:PV.bd 0 (.sl .no (X.map I))=true:=bd_sl (f:=I) (tl:=.no) rfl (fun _=>rfl) X
    simp only [PV.bd,PV.bds] at h9 ⊢
    simp [h9]
  clear hX hf hKn
  refine PFun.of (C:=c22) (cx_ok _ _ _) rfl (fn:=Tryz.f22) (by kernel_rfl) (c:=_) rfl rfl rfl ?_
  refine rS (rN (cx_ok _ _ _) (rO rfl (Ope.boxF rfl rfl ?_)))
  refine rO rfl (oA rfl ?_)
  refine rO rfl (oA rfl ?_)
  refine rI (rS (rS (rN (cx_ok _ _ _) (rO rfl (oL rfl rfl ?_)))))
  refine rO rfl (Ope.cf rfl rfl hfi hb0 ?_)
  refine rO rfl (Ope.not rfl ?_)
  refine rI (rC rfl (fun hc=>?_) fun hc=>?_)
  ·(exact absurd hc (by decide))
  ·refine Run.skip (rS (rS (rN (cx_ok _ _ _) (rO rfl (oM rfl ?_)))))
   refine rO rfl (Ope.len (m:=f.li.length) rfl (by rw [List.length_map,hR]) ?_)
   refine rO rfl (Ope.fld rfl rfl ?_)
   refine rO rfl (oL rfl rfl ?_)
   refine rO rfl (Ope.len (m:=f.li.length) rfl (by simp) ?_)
   refine rO rfl (Ope.neS rfl rfl ?_)
   refine rO rfl (oM rfl ?_)
   refine Reg.on rfl rfl rfl (oM rfl ?_)
   refine Reg.on rfl rfl rfl (Ope.len (m:=f.li.length) rfl (by rw [List.length_map,hH]) ?_)
   refine Reg.on rfl rfl rfl (Ope.fld rfl rfl ?_)
   refine Reg.on rfl rfl rfl (oL rfl rfl ?_)
   refine Reg.on rfl rfl rfl (Ope.len (m:=f.li.length) rfl (by simp) ?_)
   refine Reg.on rfl rfl rfl (Ope.neS rfl rfl ?_)
   refine rO rfl (Ope.pickF rfl rfl ?_)
   refine rI (Run.condF rfl (Run.skip (rS (rS (rN (cx_ok _ _ _) (rO rfl (oA rfl ?_)))))))
   refine rI (Run.block (Run.loop (α:=Nat) (fun i=>[(1,.sl ta (ri.map I)),(2,.sl tb (ho.map I)),(3,.fp (f.v t1 t2)),(8,I i)]) (fun i=>HE 0 []) (fun i=>i≤f.li.length∧K i=true) (fun i=>f.li.length - i) 0 ⟨rfl,rfl,rfl,rfl,trivial⟩ rfl ⟨Nat.zero_le _,hk0⟩ (fun i hi=>?_)))
   obtain ⟨hi1,hi2⟩:=hi
   refine rS (rS (rN (cx_ok _ _ _) (rO rfl (oM rfl ?_))))
   refine rO rfl (oM rfl ?_)
   refine rO rfl (Ope.len (m:=f.li.length) rfl (by rw [List.length_map,hR]) ?_)
   refine rO rfl (Ope.lt rfl rfl ?_)
   refine rI (rC rfl (fun hc=>?_) fun hc=>?_)
   ·refine Run.skip (rS (Run.block (rS ?_)))
    have hil:i < f.li.length:=by omega
    have hil1:i < ri.length:=by omega
    have hil2:i < ho.length:=by omega
    have hri1:=hrd ri[i]
    have hup1:Fn P0 44 [I ho[i],I 0,I 144] (B (upB 144 ho[i])):=hup ho[i]
    have hsi:=hsu i
    have hni:=@hno i f.li.length hil
    rw [hg1 i hil1,hg2 i hil2] at hsi hni
    have hbb:=hbn ri[i]
    generalize numB f.n ri[i]=p at *
    generalize upB 144 ho[i]=q at *
    refine Run.draw (cx_ok _ _ _) [(0,true),(1,true),(2,true),(3,true),(4,true),(5,true),(6,true),(7,true),(8,true),(9,true),(10,true),(11,true),(12,true),(13,true),(14,true)] (by kernel_rfl) (dO rfl rfl rfl .sure (oL rfl rfl ?_))
    refine dO rfl rfl rfl .sure (oM rfl ?_)
    refine dO rfl rfl rfl .sure (oM rfl ?_)
    refine dO rfl rfl rfl .sure (Ope.idxM (m:=i) (f:=I) rfl rfl rfl hil1 (fun _=>rfl) ?_)
    refine dO rfl rfl rfl .sure (oL rfl rfl ?_)
    refine dO rfl rfl rfl .sure (Ope.cf rfl rfl hri1 hbb ?_)
    refine dO rfl rfl rfl .sure (Ope.not rfl ?_)
    refine dO rfl rfl rfl .sure (oM rfl ?_)
    refine Dra.splitX rfl rfl rfl rfl (fun hg=>?_) fun hg=>?_
    ·refine dF rfl rfl rfl (.inl rfl) rfl (dF rfl rfl rfl (.inl rfl) rfl (dF rfl rfl rfl (.inl rfl) rfl (dF rfl rfl rfl (.inl rfl) rfl (dF rfl rfl rfl (.inl rfl) rfl (dF rfl rfl rfl (.inl rfl) rfl (dO rfl rfl rfl .sure (Ope.pickT rfl rfl ?_)))))))
     refine Dra.nil (Run.condT rfl (rS (rN (cx_ok _ _ _) (rO rfl (oA rfl ?_)))))
     refine rO rfl (oA rfl ?_)
     refine rI (Run.ret (Jmp.retB (Jmp.code (Jmp.round (Jmp.retB (Jmp.code ?_))))))
     first
     | exact fin_ret (.tmp rfl (.tmp rfl .nil)) hbd (hT hi2).symm
     | (refine fin_ret (.tmp rfl (.tmp rfl .nil)) rfl ?_;refine (hF ?_).symm;apply hni;cases p<;>cases q<;>first | rfl | simp_all)
    ·refine Dra.on' rfl rfl rfl rfl rfl .sure (oM rfl ?_)
     refine Dra.on' rfl rfl rfl rfl rfl .sure (oM rfl ?_)
     refine Dra.on' rfl rfl rfl rfl rfl .sure (Ope.idxM (m:=i) (f:=I) rfl rfl rfl hil2 (fun _=>rfl) ?_)
     refine Dra.on' rfl rfl rfl rfl rfl .sure (oL rfl rfl ?_)
     refine Dra.on' rfl rfl rfl rfl rfl .sure (Ope.cf rfl rfl (hup1) rfl ?_)
     refine Dra.on' rfl rfl rfl rfl rfl .sure (Ope.not rfl ?_)
     refine dO rfl rfl rfl .sure (Ope.pickF rfl rfl ?_)
     refine Dra.nil (rC rfl (fun hc=>?_) fun hc=>?_)
     ·refine rS (rN (cx_ok _ _ _) (rO rfl (oA rfl ?_)))
      refine rO rfl (oA rfl ?_)
      refine rI (Run.ret (Jmp.retB (Jmp.code (Jmp.round (Jmp.retB (Jmp.code ?_))))))
      first
      | exact fin_ret (.tmp rfl (.tmp rfl .nil)) hbd (hT hi2).symm
      | (refine fin_ret (.tmp rfl (.tmp rfl .nil)) rfl ?_;refine (hF ?_).symm;apply hni;cases p<;>cases q<;>first | rfl | simp_all)
     ·refine Run.skip (Run.bend (rN (cx_ok _ _ _) (rO rfl (oM rfl ?_))))
      refine rO rfl (Ope.add rfl rfl (by omega) ?_)
      refine rO rfl (oA rfl ?_)
      exact rI (Run.lend ⟨i+1,by omega,⟨by omega,by rw [hsi,hi2];simp_all⟩,⟨rfl,rfl,rfl,rfl,trivial⟩,rfl,rfl⟩)
   ·refine Run.exit (Jmp.code (Jmp.round (Jmp.here (rS ?_))))
    obtain rfl:i=f.li.length:=by omega
    have hcoT:=hco hi2
    refine rN (cx_ok _ _ _) (rO rfl (oA rfl ?_))
    refine rI (rS (rS (rN (cx_ok _ _ _) (rO rfl (oA rfl ?_)))))
    refine rI (Run.block (Run.loop (α:=Nat×Option Nat×Nat) (fun t=>[(1,.sl ta (ri.map I)),(2,.sl tb (ho.map I)),(3,.fp (f.v t1 t2)),(9,.sl (tlU t.2.1) ((X.take t.1).map I)),(10,I t.1)]) (fun t=>HE t.2.2 (ownU t.2.1++[])) (fun t=>t.1≤X.length∧∀ j,t.2.1=some j→0 < t.1) (fun t=>X.length - t.1) (0,none,0) ⟨rfl,rfl,rfl,rfl,rfl,trivial⟩ rfl ⟨Nat.zero_le _,fun j hj=>by cases hj⟩ (fun t ht=>?_)))
    obtain ⟨k,o,m⟩:=t
    obtain ⟨hk,hO⟩:=ht
    simp only at hk hO
    show Run _ _ _ _ [(1,.sl ta (ri.map I)),(2,.sl tb (ho.map I)),(3,.fp (f.v t1 t2)),(9,.sl (tlU o) ((X.take k).map I)),(10,I k)] [] (HE m (ownU o++[]))
    refine rS (rS (rN (cx_ok _ _ _) (rO rfl (oM rfl ?_))))
    refine rO rfl (oM rfl ?_)
    refine rO rfl (Ope.len (m:=f.li.length) rfl (by rw [List.length_map,hR]) ?_)
    refine rO rfl (Ope.lt rfl rfl ?_)
    refine rI (rC rfl (fun hc=>?_) fun hc=>?_)
    ·refine Run.skip (rS (Run.block ?_))
     have hkX:k < X.length:=by omega
     have hci:=hcoT k hkX
     have hts:(X.take (k+1)).map I=(X.take k).map I++[I X[k]]:=by rw [List.take_succ_eq_append_getElem hkX,List.map_append];rfl
     have hA:∀ j,o=some j→(X.take k).map I≠[]∧hget ([]:HL) j=none:=fun j hj=>⟨fun e=>by
       have h9:=congrArg List.length e
       rw [List.length_map,List.length_take] at h9
       have h8:min k X.length=0:=h9
       have:=hO j hj
       omega,rfl⟩
     have hll:((X.take k).map I).length≤5:=by rw [List.length_map,List.length_take];omega
     refine rN (cx_ok _ _ _) (rO rfl (oM rfl ?_))
     refine rO rfl (oL rfl rfl ?_)
     refine rO rfl (oM rfl ?_)
     refine rO rfl (oM rfl ?_)
     refine rO rfl (Ope.bld rfl rfl ?_)
     refine rO rfl (oM rfl ?_)
     refine rO rfl (Ope.cf rfl rfl hci (hbt _) ?_)
     refine rO rfl (Ope.bsl rfl rfl rfl rfl ?_)
     refine rO rfl (Ope.apU (o':=o) (vs:=(X.take k).map I) (ws:=[I X[k]]) rfl rfl (by simp) hA (by rw [List.length_singleton];omega) (by rw [List.length_singleton];omega) (by decide) (by intro v hv;obtain ⟨_,_,rfl⟩:=List.mem_map.1 hv;rfl) (by intro v hv;simp only [List.mem_singleton] at hv;subst hv;exact ⟨rfl,rfl⟩) ?_)
     refine rO rfl (oA rfl ?_)
     refine rI (Run.bend (rN (cx_ok _ _ _) (rO rfl (oM rfl ?_))))
     refine rO rfl (Ope.add rfl rfl (by omega) ?_)
     refine rO rfl (oA rfl ?_)
     exact rI (Run.lend ⟨(k+1,some m,m+1),by show X.length - (k+1) < X.length - k;omega,⟨by show k+1≤X.length;omega,fun j hj=>by show 0 < k+1;omega⟩,⟨rfl,rfl,rfl,by rw [hts];rfl,rfl,trivial⟩,rfl,rfl⟩)
    ·refine Run.exit (Jmp.code (Jmp.round (Jmp.here (rS ?_))))
     obtain rfl:k=X.length:=by omega
     rw [List.take_length]
     refine Run.weakT (d:=9) rfl ?_
     refine rN (cx_ok _ _ _) (rO rfl (oM rfl ?_))
     refine rO rfl (oA rfl ?_)
     refine rO rfl (oA rfl ?_)
     refine rI (Run.ret ?_)
     first
     | exact fin_ret (.tmp rfl (.tmp rfl .nil)) hbd (hT hi2).symm
     | (refine fin_ret (.tmp rfl (.tmp rfl .nil)) rfl ?_;refine (hF ?_).symm;apply hni;cases p<;>cases q<;>first | rfl | simp_all)
theorem f22 (hS : f.ru.length ≤ 9223372036854775807) (hJ : f.li.length ≤ 9223372036854775807) (ta tb : Tail) (hta : ta.isOwn = false) (htb : tb.isOwn = false) (ri ho : List Int) : Fn P0 22 [f.v t1 t2, .sl ta (ri.map I), .sl tb (ho.map I)] (tolL f (f.knB ri ho) .no (f.exa (f.dl ri ho f.li.length))) := by
  cases hB:f.B with
  | false =>
    rw [tolL_ba hB]
    exact f22n f h1 h2 hS hJ hB _ _
  | true =>
    by_cases hl:ri.length=f.li.length∧ho.length=f.li.length
    · exact f22k f h1 h2 (fns_ok f hB) ta tb hta htb ri ho hl.1 hl.2
    · have hk : f.knB ri ho = false := by
        by_cases h9:ri.length=f.li.length
        · exact kn_len2 fun h8=>hl ⟨h9,h8⟩
        · exact kn_len1 h9
      rw [hk,tolL_no hB]
      exact f22l f h1 h2 hB ta tb ri ho hl
end
end Go.Pv
