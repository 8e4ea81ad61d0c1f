/- Parts of the proof: E48, E49, E50 -/
import Derived.Test.YtfpihegkllffbaaGreatP24
set_option linter.unusedVariables false
set_option linter.unusedSimpArgs false
set_option linter.unusedSectionVars false
namespace Go.Pv
open Go.Proofs Go.Am
set_option maxRecDepth 10000
set_option maxHeartbeats 4000000
structure EDt (len r:Nat) (RI X:List Int) (FI PA:Nat→Int):Prop where
  rl:RI.length=len
  xl:X.length=len
  xb:∀ i (h:i < X.length),0≤X[i]∧X[i]≤1000
  f0:FI 0=0
  p0:PA 0=0
  fb:∀ i,0≤FI i∧FI i≤5005
  pb:∀ i,0≤PA i∧PA i≤5005
  s1:∀ i (h1:i < RI.length) (h2:i < X.length),RI[i]=(r:Int)→FI (i+1)=FI i+X[i]∧PA (i+1)=PA i+(X[i]+1) / 2
  s2:∀ i (h1:i < RI.length) (h2:i < X.length),¬ RI[i]=(r:Int)→RI[i]=((r ^^^ 1:Nat):Int)→FI (i+1)=FI i∧PA (i+1)=PA i+X[i] / 2
  s3:∀ i (h1:i < RI.length) (h2:i < X.length),¬ RI[i]=(r:Int)→¬ RI[i]=((r ^^^ 1:Nat):Int)→FI (i+1)=FI i∧PA (i+1)=PA i
def fSm (f:Fns) (r:Int) (T:List Deed) (i:Nat):Int:=isum ((T.take i).map fun d=>gF r d (f.cin T d))
def pSm (f:Fns) (r:Int) (T:List Deed) (i:Nat):Int:=isum ((T.take i).map fun d=>gP r d (f.cin T d))
theorem fSm_end (f:Fns) (r:Int) (T:List Deed):fSm f r T T.length=f.val (gF r) T:=by unfold fSm Fns.val;rw [List.take_length]
theorem pSm_end (f:Fns) (r:Int) (T:List Deed):pSm f r T T.length=f.val (gP r) T:=by unfold pSm Fns.val;rw [List.take_length]
theorem edt_of {f:Fns} (hf:f.ok) {T:List Deed} (h:f.Tru T) {r:Nat} (hr:r < 6):EDt f.li.length r (T.map Deed.ri) (f.exa T) (fSm f r T) (pSm f r T):=by
  have hT5:T.length≤5:=by rw [h.ln];exact hf.li
  have hX:∀ i (h:i < (f.exa T).length) (h':i < T.length),(f.exa T)[i]=f.cin T T[i]:=fun i h h'=>by simp [Fns.exa]
  have hx6:=(xor_part r hr).1
  have hpn:part (r:Int)≠(r:Int):=by unfold part;split<;>omega
  have hst:∀ i (g:Deed→Int→Int) (hi:i < T.length),isum ((T.take (i+1)).map fun d=>g d (f.cin T d))=isum ((T.take i).map fun d=>g d (f.cin T d))+g T[i] (f.cin T T[i]):=fun i g hi=>by
    rw [List.take_succ_eq_append_getElem hi,List.map_append,isum_app]
    simp [isum]
  refine ⟨by rw [List.length_map,h.ln],by unfold Fns.exa;rw [List.length_map,h.ln],fun i hi=>?_,rfl,rfl,fun i=>?_,fun i=>?_,fun i a b e=>?_,fun i a b e1 e2=>?_,fun i a b e1 e2=>?_⟩
  · rw [hX i hi (by unfold Fns.exa at hi; simpa using hi)]
    exact cin_bd hf T _
  · exact isum_le (m:=1001) (n:=5) (by decide) (fun x hx=>by
      obtain ⟨d,_,rfl⟩:=List.mem_map.1 hx
      have:=cst_bd hf d (f.earl (T.filter fun o=>bef o d) d)
      exact gF_ok _ d _ this.1 this.2) (by rw [List.length_map,List.length_take];omega)
  · exact isum_le (m:=1001) (n:=5) (by decide) (fun x hx=>by
      obtain ⟨d,_,rfl⟩:=List.mem_map.1 hx
      have:=cst_bd hf d (f.earl (T.filter fun o=>bef o d) d)
      exact gP_ok _ d _ this.1 this.2) (by rw [List.length_map,List.length_take];omega)
  · have hi : i < T.length := by simpa using a
    rw [List.getElem_map] at e
    rw [hX i b hi]
    unfold fSm pSm
    rw [hst i (gF r) hi,hst i (gP r) hi]
    unfold gF gP
    rw [if_pos e,if_neg (by rw [e];exact fun h=>hpn h.symm)]
    exact ⟨rfl,by omega⟩
  · have hi : i < T.length := by simpa using a
    rw [List.getElem_map] at e1 e2
    rw [hX i b hi]
    unfold fSm pSm
    rw [hst i (gF r) hi,hst i (gP r) hi]
    unfold gF gP
    rw [if_neg e1,if_pos (by rw [← hx6];exact e2)]
    exact ⟨by omega,by omega⟩
  · have hi : i < T.length := by simpa using a
    rw [List.getElem_map] at e1 e2
    unfold fSm pSm
    rw [hst i (gF r) hi,hst i (gP r) hi]
    unfold gF gP
    rw [if_neg e1,if_neg (by rw [← hx6];exact e2)]
    exact ⟨by omega,by omega⟩
def GLm (Q:Nat→List Bool):Nat→List Bool
  | 0=>List.replicate 8 false
  | i+1=>List.zipWith (fun a b=>a || b) (GLm Q i) (Q i)
theorem GLm_len {Q:Nat→List Bool} (hQ:∀ i,(Q i).length=8):∀ i,(GLm Q i).length=8
  | 0=>rfl
  | i+1=>by rw [GLm,List.length_zipWith,GLm_len hQ i,hQ i];rfl
theorem GLm_at {Q : Nat → List Bool} (hQ : ∀ i, (Q i).length = 8) (j : Nat) : ∀ n i, i < n → (Q i)[j]? = some true → (GLm Q n)[j]? = some true
  | n + 1, i, hi, h => by
    rw [GLm,List.getElem?_zipWith]
    by_cases hin:i=n
    · subst hin
      rw [h]
      have hj:j < (GLm Q i).length:=by
        have:=(List.getElem?_eq_some_iff.1 h).1
        rw [hQ] at this
        rw [GLm_len hQ];exact this
      rw [List.getElem?_eq_getElem hj]
      simp
    · have h1 := GLm_at hQ j n i (by omega) h
      have hj:j < (Q n).length:=by
        have:=(List.getElem?_eq_some_iff.1 h).1
        rw [hQ] at this
        rw [hQ];exact this
      rw [h1,List.getElem?_eq_getElem hj]
      simp
theorem GLm_all {Q:Nat→List Bool} (hQ:∀ i,(Q i).length=8) {n:Nat} (h:∀ j,j < 8→∃ i,i < n∧(Q i)[j]?=some true):GLm Q n=List.replicate 8 true:=by
  refine List.ext_getElem? fun j=>?_
  by_cases hj:j < 8
  · obtain ⟨i, hi, h⟩ := h j hj
    rw [GLm_at hQ j n i hi h,List.getElem?_replicate,if_pos hj]
  · rw [List.getElem?_eq_none (by rw [GLm_len hQ];omega),List.getElem?_eq_none (by rw [List.length_replicate];omega)]
def HLm (A C:List Bool) (k:Nat):List Bool:=C.take k++A.drop k
theorem HLm_len {A C:List Bool} (hA:A.length=8) (hC:C.length=8) {k:Nat} (hk:k≤8):(HLm A C k).length=8:=by
  unfold HLm;rw [List.length_append,List.length_take,List.length_drop];omega
theorem HLm_8 {A C:List Bool} (hA:A.length=8) (hC:C.length=8):HLm A C 8=C:=by
  unfold HLm
  rw [List.take_of_length_le (by omega),List.drop_of_length_le (by omega),List.append_nil]
theorem HLm_q {A C:List Bool} (hC:C.length=8) {k:Nat} (hk:k≤8) (i:Nat):(HLm A C k)[i]?=if i < k then C[i]? else A[i]?:=by
  unfold HLm
  rw [List.getElem?_append,List.length_take,List.getElem?_take,List.getElem?_drop]
  have:min k C.length=k:=by omega
  rw [this]
  by_cases h:i < k
  · rw [if_pos h,if_pos h,if_pos h]
  · rw [if_neg h, if_neg h]
    congr 1
    omega
theorem HLm_at {A C:List Bool} (hA:A.length=8) (hC:C.length=8) {k:Nat} (hk:k < 8) (h:k < (HLm A C k).length):(HLm A C k)[k]=A[k]:=by
  have h1:=HLm_q (A:=A) hC (by omega:k≤8) k
  rw [if_neg (Nat.lt_irrefl _),List.getElem?_eq_getElem h,List.getElem?_eq_getElem (by omega)] at h1
  exact Option.some.inj h1
theorem HLm_set {A C:List Bool} (hA:A.length=8) (hC:C.length=8) {k:Nat} (hk:k < 8):(HLm A C k).set k C[k]=HLm A C (k+1):=by
  refine List.ext_getElem? fun i=>?_
  rw [List.getElem?_set,HLm_q hC (by omega),HLm_q hC (by omega),HLm_len hA hC (by omega)]
  by_cases h:k=i
  · subst h
    rw [if_pos rfl,if_pos hk,if_pos (by omega),List.getElem?_eq_getElem (by omega)]
  · rw [if_neg h]
    by_cases h2:i < k
    · rw [if_pos h2,if_pos (by omega)]
    · rw [if_neg h2,if_neg (by omega)]
end Go.Pv
namespace Go.Pv
open Go.Proofs Go.Am
set_option maxRecDepth 10000
set_option maxHeartbeats 4000000
theorem ldB {l:HL} {a:Nat} {F:List Bool} {w:Nat} (hg:hget l a=some (.cells (F.map B))) (hw:w < F.length):loadK false 1 l (.ptr a (0+w * 1))=some (B F[w]):=by
  simp only [loadK,hg]
  show nthK _ _=_
  rw [nthK_eq,Nat.zero_add,Nat.mul_one,List.getElem?_map,List.getElem?_eq_getElem hw]
  rfl
theorem idx8 {a k:Nat} (hk:k < 8):indexK 8 false 1 k (.ptr a 0)=some (.ptr a (0+k * 1)):=by
  rcases (by omega:k=0∨k=1∨k=2∨k=3∨k=4∨k=5∨k=6∨k=7) with rfl | rfl | rfl | rfl | rfl | rfl | rfl | rfl<;>rfl
theorem eq8 (xo yo:Operand):pbin A0 E0 .eql 55 xo yo (.agg ((List.replicate 8 true).map B)) (.agg [B true,B true,B true,B true,B true,B true,B true,B true])=some (B true):=by kernel_rfl
section
variable (f:Fns) {t1 t2:Tail} (h1:t1.isOwn=false) (h2:t2.isOwn=false)
include h1 h2
theorem f7a (hS:f.ru.length≤9223372036854775807) (hJ:f.li.length≤9223372036854775807) (p:PV) (bh:Bool) (hh:Fn P0 11 [f.v t1 t2,I 500,.sl .ex []] (B bh)) (hv:bh=true∨f.B=false∨(f.li.length:Int)=0):Fn P0 7 [f.v t1 t2,p] (B true):=by
  have hfi:=f26 f h1 h2 hS hJ
  have hb:PV.bds 0 [f.v t1 t2,I 500,.sl .ex []]=true:=bd_fnsV f h1 h2 rfl
  have hb0:PV.bds 0 [f.v t1 t2]=true:=bd_fnsV f h1 h2 rfl
  generalize f.B=y at *
  refine PFun.of (C:=c7) (cx_ok _ _ _) rfl (fn:=Tryz.f7) (by kernel_rfl) (c:=_) rfl rfl rfl ?_
  refine Run.seq (Run.region (cx_ok _ _ _) (Reg.op rfl (Ope.boxF rfl rfl ?_)))
  refine Reg.op rfl (Ope.asg rfl ?_)
  refine Reg.nil (Run.seq (Run.seq (Run.region (cx_ok _ _ _) (Reg.op rfl (Ope.load rfl rfl ?_)))))
  refine Reg.op rfl (Ope.cf rfl rfl hh hb ?_)
  refine Reg.op rfl (Ope.mov rfl ?_)
  refine Reg.splitX rfl rfl (fun hg=>?_) fun hg=>?_
  ·refine Reg.off rfl rfl rfl (Reg.off rfl rfl rfl (Reg.off rfl rfl rfl (Reg.op rfl (Ope.pickT rfl rfl ?_))))
   refine Reg.op rfl (Ope.mov rfl ?_)
   refine Reg.off rfl rfl rfl (Reg.off rfl rfl rfl (Reg.off rfl rfl rfl (Reg.off rfl rfl rfl (Reg.op rfl (Ope.pickT rfl rfl ?_)))))
   refine Reg.nil (Run.condT rfl (Run.seq (Run.region (cx_ok _ _ _) (Reg.op rfl (Ope.cf rfl rfl (aliveF) rfl ?_)))))
   refine Reg.op rfl (Ope.asg rfl ?_)
   exact Reg.nil (Run.ret (Jmp.code (fin_ret (.tmp rfl .nil) rfl rfl)))
  ·refine Reg.on rfl rfl rfl (Ope.load rfl rfl ?_)
   refine Reg.on rfl rfl rfl (Ope.cf rfl rfl hfi hb0 ?_)
   refine Reg.on rfl rfl rfl (Ope.not rfl ?_)
   refine Reg.op rfl (Ope.pickF rfl rfl ?_)
   refine Reg.op rfl (Ope.mov rfl ?_)
   refine Reg.splitX rfl rfl (fun hg=>?_) fun hg=>?_
   ·refine Reg.off rfl rfl rfl (Reg.off rfl rfl rfl (Reg.off rfl rfl rfl (Reg.off rfl rfl rfl (Reg.op rfl (Ope.pickT rfl rfl ?_)))))
    refine Reg.nil (Run.condT rfl (Run.seq (Run.region (cx_ok _ _ _) (Reg.op rfl (Ope.cf rfl rfl (aliveF) rfl ?_)))))
    refine Reg.op rfl (Ope.asg rfl ?_)
    exact Reg.nil (Run.ret (Jmp.code (fin_ret (.tmp rfl .nil) rfl rfl)))
   ·refine Reg.on rfl rfl rfl (Ope.fld rfl rfl ?_)
    refine Reg.on rfl rfl rfl (Ope.load rfl rfl ?_)
    refine Reg.on rfl rfl rfl (Ope.len (m:=f.li.length) rfl (by simp) ?_)
    refine Reg.on rfl rfl rfl (Ope.eq rfl rfl ?_)
    refine Reg.op rfl (Ope.pickF rfl rfl ?_)
    refine Reg.nil (Run.condX rfl (fun hc=>?_) fun hc=>?_)
    ·refine Run.seq (Run.region (cx_ok _ _ _) (Reg.op rfl (Ope.cf rfl rfl (aliveF) rfl ?_)))
     refine Reg.op rfl (Ope.asg rfl ?_)
     exact Reg.nil (Run.ret (Jmp.code (fin_ret (.tmp rfl .nil) rfl rfl)))
    ·(exfalso;simp_all;done)
theorem f7v (hf:f.ok) (hh:Fn P0 11 [f.v t1 t2,I 500,.sl .ex []] (B false)) (hl0:0 < f.li.length) (p:Nat) (hp:p < 256):Fn P0 7 [f.v t1 t2,.lit (.int .u8 (p:Int))] (B true):=by
  have hl5:=hf.li
  have hr4:=hf.ru
  have hS:f.ru.length≤9223372036854775807:=by omega
  have hJ:f.li.length≤9223372036854775807:=by omega
  have hv:=fns_B f hf
  have hfi:=f26 f h1 h2 hS hJ
  rw [hv] at hfi
  have hb:PV.bds 0 [f.v t1 t2,I 500,.sl .ex []]=true:=bd_fnsV f h1 h2 rfl
  have hb0:PV.bds 0 [f.v t1 t2]=true:=bd_fnsV f h1 h2 rfl
  have hb1:∀ i:Nat,PV.bds 0 [f.v t1 t2,N i]=true:=fun i=>bd_fnsV f h1 h2 rfl
  have hb2:∀ ri ho:List Int,PV.bds 0 [f.v t1 t2,.sl .no (ri.map I),.sl .no (ho.map I)]=true:=fun ri ho=>bd_fnsV f h1 h2 (bds_cons (bd_sl (f:=I) (tl:=.no) rfl (fun _=>rfl) _) (bds_cons (bd_sl (f:=I) (tl:=.no) rfl (fun _=>rfl) _) rfl))
  obtain ⟨kn,hkn,hk6⟩:∃ k:Nat,f.n=(k:Int)∧(0 < k∧k≤6):=⟨f.n.toNat,by have:=hf.n;omega,by have:=hf.n;omega⟩
  have hrlt:p % kn < kn:=Nat.mod_lt _ hk6.1
  have holt:p / 8 % f.li.length < f.li.length:=Nat.mod_lt _ hl0
  generalize hr:p % kn=r at *
  generalize ho:p / 8 % f.li.length=o at *
  have htr:=f31 f h1 h2 hf
  have hco:=f13 f h1 h2 hS hJ (o:Int)
  rw [show numB f.li.length (o:Int)=true from by unfold numB;rw [decide_eq_true (by omega),decide_eq_true (by omega)];rfl,tolS_ok hv,Int.toNat_natCast] at hco
  have hfn:=f15 f h1 h2 hS hJ (r:Int)
  rw [show numB f.n (r:Int)=true from by unfold numB;rw [decide_eq_true (by omega),decide_eq_true (by omega)];rfl,tolS_ok hv] at hfn
  have hpy:=f17 f h1 h2 hS hJ (r:Int)
  rw [show numB f.n (r:Int)=true from by unfold numB;rw [decide_eq_true (by omega),decide_eq_true (by omega)];rfl,tolS_ok hv] at hpy
  have hto:=f19 f h1 h2 hS hJ
  rw [tolS_ok hv] at hto
  obtain ⟨sa,hsa⟩:∃ s,f.spn (gC (1 * 2 ^ o))=s:=⟨_,rfl⟩
  obtain ⟨sb,hsb⟩:∃ s,f.spn (gF (r:Int))=s:=⟨_,rfl⟩
  obtain ⟨sc,hsc⟩:∃ s,f.spn (gP (r:Int))=s:=⟨_,rfl⟩
  obtain ⟨sd,hsd⟩:∃ s,f.spn (gC (2 ^ f.li.length - 1))=s:=⟨_,rfl⟩
  rw [hsa] at hco
  rw [hsb] at hfn
  rw [hsc] at hpy
  rw [hsd] at hto
  have ha:=spn_hul hf (gC_ok (1 * 2 ^ o))
  have hb':=spn_hul hf (gF_ok (r:Int))
  have hc':=spn_hul hf (gP_ok (r:Int))
  have hd':=spn_hul hf (gC_ok (2 ^ f.li.length - 1))
  rw [hsa] at ha
  rw [hsb] at hb'
  rw [hsc] at hc'
  rw [hsd] at hd'
  obtain ⟨L,hL⟩:∃ L,f.truN f.li.length=L:=⟨_,rfl⟩
  rw [hL] at htr
  have hmem:∀ T,T∈L↔f.Tru T:=fun T=>by rw [← hL];exact truN_tru
  obtain ⟨Q,hQ⟩:∃ Q:Nat→List Bool,Q=fun i=>[decide (f.val (gC (1 * 2 ^ o)) (L.getD i [])=sa.lo),decide (f.val (gC (1 * 2 ^ o)) (L.getD i [])=sa.hi),decide (f.val (gF (r:Int)) (L.getD i [])=sb.lo),decide (f.val (gF (r:Int)) (L.getD i [])=sb.hi),decide (f.val (gP (r:Int)) (L.getD i [])=sc.lo),decide (f.val (gP (r:Int)) (L.getD i [])=sc.hi),decide (f.val (gC (2 ^ f.li.length - 1)) (L.getD i [])=sd.lo),decide (f.val (gC (2 ^ f.li.length - 1)) (L.getD i [])=sd.hi)]:=⟨_,rfl⟩
  have hQ8:∀ i,(Q i).length=8:=fun i=>by rw [hQ];rfl
  have hfind:∀ (g:Deed→Int→Int) (z:Int),(∃ T,f.Tru T∧f.val g T=z)→∃ i,i < L.length∧f.val g (L.getD i [])=z:=fun g z ⟨T,hT,hz⟩=>by
    obtain ⟨i,hi,he⟩:=List.getElem_of_mem ((hmem T).2 hT)
    exact ⟨i,hi,by rw [List.getD_eq_getElem?_getD,List.getElem?_eq_getElem hi,Option.getD_some,he];exact hz⟩
  have hGn:GLm Q L.length=List.replicate 8 true:=GLm_all hQ8 fun j hj=>by
    rcases (by omega:j=0∨j=1∨j=2∨j=3∨j=4∨j=5∨j=6∨j=7) with rfl | rfl | rfl | rfl | rfl | rfl | rfl | rfl
    · obtain ⟨i,hi,he⟩:=hfind _ _ ha.lo;exact ⟨i,hi,by rw [hQ];show some (decide _)=_;rw [decide_eq_true he]⟩
    · obtain ⟨i,hi,he⟩:=hfind _ _ ha.hi;exact ⟨i,hi,by rw [hQ];show some (decide _)=_;rw [decide_eq_true he]⟩
    · obtain ⟨i,hi,he⟩:=hfind _ _ hb'.lo;exact ⟨i,hi,by rw [hQ];show some (decide _)=_;rw [decide_eq_true he]⟩
    · obtain ⟨i,hi,he⟩:=hfind _ _ hb'.hi;exact ⟨i,hi,by rw [hQ];show some (decide _)=_;rw [decide_eq_true he]⟩
    · obtain ⟨i,hi,he⟩:=hfind _ _ hc'.lo;exact ⟨i,hi,by rw [hQ];show some (decide _)=_;rw [decide_eq_true he]⟩
    · obtain ⟨i,hi,he⟩:=hfind _ _ hc'.hi;exact ⟨i,hi,by rw [hQ];show some (decide _)=_;rw [decide_eq_true he]⟩
    · obtain ⟨i,hi,he⟩:=hfind _ _ hd'.lo;exact ⟨i,hi,by rw [hQ];show some (decide _)=_;rw [decide_eq_true he]⟩
    · obtain ⟨i,hi,he⟩:=hfind _ _ hd'.hi;exact ⟨i,hi,by rw [hQ];show some (decide _)=_;rw [decide_eq_true he]⟩
  have hLm:L.length≤1889568:=by
    have h9:=gon_le hf f.li.length [] (by simp)
    rw [gon_all,hL] at h9
    have:=Nat.pow_le_pow_right (n:=18) (by decide) hl5
    omega
  have hall:∀ i (hi:i < L.length),∃ (RI HO X:List Int) (FI PA:Nat→Int) (t3:Tail),tV L[i]=.agg [.sl .no (RI.map I),.sl .no (HO.map I)]∧EDt f.li.length r RI X FI PA∧Fn P0 21 [f.v t1 t2,.sl .no (RI.map I),.sl .no (HO.map I)] (.tup [.sl t3 (X.map I),I 0]) ∧
      (∃ hx:o < X.length,Q i=[decide (X[o]=sa.lo),decide (X[o]=sa.hi),decide (FI X.length=sb.lo),decide (FI X.length=sb.hi),decide (PA X.length=sc.lo),decide (PA X.length=sc.hi),decide (isum X=sd.lo),decide (isum X=sd.hi)]∧(sa.lo≤X[o]∧X[o]≤sa.hi))∧(sb.lo≤FI X.length∧FI X.length≤sb.hi)∧(sc.lo≤PA X.length∧PA X.length≤sc.hi)∧(sd.lo≤isum X∧isum X≤sd.hi):=fun i hi=>by
    have hT:=(hmem _).1 (List.getElem_mem hi)
    obtain ⟨t3,ht3,hex⟩:=f21 f h1 h2 hS hJ .no .no rfl rfl (L[i].map Deed.ri) (L[i].map Deed.ho)
    rw [kn_tru hf hT,tolL_ok hv,dl_tru hT] at hex
    have hXl:(f.exa L[i]).length=L[i].length:=by simp [Fns.exa]
    have hox:o < L[i].length:=by rw [hT.ln];exact holt
    have hXo:(f.exa L[i])[o]'(by rw [hXl];exact hox)=f.val (gC (1 * 2 ^ o)) L[i]:=by rw [val_gC1 hT hox];simp [Fns.exa]
    have hg:L.getD i []=L[i]:=by rw [List.getD_eq_getElem?_getD,List.getElem?_eq_getElem hi,Option.getD_some]
    refine ⟨_,_,f.exa L[i],fSm f r L[i],pSm f r L[i],t3,rfl,edt_of hf hT (by omega),hex,⟨by rw [hXl];exact hox,?_,?_⟩,?_,?_,?_⟩
    · rw [hQ]
      show [_,_,_,_,_,_,_,_]=_
      rw [hg,hXo,hXl,fSm_end,pSm_end,val_gCall hT]
    · rw [hXo];exact ha.bd _ ⟨_,hT,rfl⟩
    · rw [hXl,fSm_end];exact hb'.bd _ ⟨_,hT,rfl⟩
    · rw [hXl,pSm_end];exact hc'.bd _ ⟨_,hT,rfl⟩
    · rw [← val_gCall hT];exact hd'.bd _ ⟨_,hT,rfl⟩
  have hsu:∀ (X:List Int) i (h:i < X.length),isum (X.take (i+1))=isum (X.take i)+X[i]:=fun X i h=>by rw [List.take_succ_eq_append_getElem h,isum_snoc]
  have hsm:∀ (X:List Int) (m:Int) (n:Nat),0≤m→(∀ i (h:i < X.length),0≤X[i]∧X[i]≤m)→X.length≤n→∀ i,0≤isum (X.take i)∧isum (X.take i)≤m * n:=fun X m n hm h hn i=>isum_le hm (fun x hx=>by
    obtain ⟨j,hj,rfl⟩:=List.getElem_of_mem (List.mem_of_mem_take hx)
    exact h j hj) (by rw [List.length_take];omega)
  have hxr6:r ^^^ 1 < 2 ^ 63:=by
    have:=(xor_part r (by omega)).2.2
    omega
  have hG8:=GLm_len hQ8
  have hGs:∀ i k (hk:k < 8),(GLm Q (i+1))[k]'(by rw [hG8];exact hk)=((GLm Q i)[k]'(by rw [hG8];exact hk) || (Q i)[k]'(by rw [hQ8];exact hk)):=fun i k hk=>by
    simp only [GLm,List.getElem_zipWith]
  have hG0:GLm Q 0=List.replicate 8 false:=rfl
  generalize GLm Q=G at *
  clear hQ hfind ha hb' hc' hd' hsa hsb hsc hsd
  obtain ⟨alo,ahi⟩:=sa
  obtain ⟨blo,bhi⟩:=sb
  obtain ⟨clo,chi⟩:=sc
  obtain ⟨dlo,dhi⟩:=sd
  obtain ⟨ru,n,li⟩:=f
  simp only at hkn
  subst hkn
  simp only at hl5 hr4 hall hl0 holt ho
  clear hf hv hmem hL
  refine PFun.of (C:=c7) (cx_ok _ _ _) rfl (fn:=Tryz.f7) (by kernel_rfl) (c:=_) rfl rfl rfl ?_
  refine Run.seq (Run.region (cx_ok _ _ _) (Reg.op rfl (Ope.boxF rfl rfl ?_)))
  refine Reg.op rfl (Ope.asg rfl ?_)
  refine Reg.nil (Run.seq (Run.seq (Run.region (cx_ok _ _ _) (Reg.op rfl (Ope.load rfl rfl ?_)))))
  refine Reg.op rfl (Ope.cf rfl rfl hh hb ?_)
  refine Reg.op rfl (Ope.mov rfl ?_)
  refine Reg.on rfl rfl rfl (Ope.load rfl rfl ?_)
  refine Reg.on rfl rfl rfl (Ope.cf rfl rfl hfi hb0 ?_)
  refine Reg.on rfl rfl rfl (Ope.not rfl ?_)
  refine Reg.op rfl (Ope.pickF rfl rfl ?_)
  refine Reg.op rfl (Ope.mov rfl ?_)
  refine Reg.on rfl rfl rfl (Ope.fld rfl rfl ?_)
  refine Reg.on rfl rfl rfl (Ope.load rfl rfl ?_)
  refine Reg.on rfl rfl rfl (Ope.len (m:=li.length) rfl (by simp) ?_)
  refine Reg.on rfl rfl rfl (Ope.eq rfl rfl ?_)
  refine Reg.op rfl (Ope.pickF rfl rfl ?_)
  refine Reg.nil (Run.condX rfl (fun hc=>?_) fun hc=>?_)
  ·exfalso;(have hz:(li.length:Int)=0:=by simpa using hc);omega
  ·refine Run.skip (Run.seq (Run.draw (cx_ok _ _ _) [(0, true), (1, true), (2, true), (3, true), (4, true), (5, true), (6, true), (7, true), (8, true), (9, true), (10, true), (11, true), (12, true), (13, true)] (by kernel_rfl) (Dra.op' rfl rfl rfl .sure (Ope.mov rfl ?_))))
   first | refine Dra.op' rfl rfl rfl .sure (Ope.conv rfl (wrap_in _ (by omega) (by omega)) ?_) | refine Dra.op' rfl rfl rfl .sure (Ope.conv rfl rfl ?_)
   refine Dra.op' rfl rfl rfl .sure (Ope.fld rfl rfl ?_)
   refine Dra.op' rfl rfl rfl .sure (Ope.load rfl rfl ?_)
   refine Dra.op' rfl rfl rfl .sure (Ope.remN (p:=p) (q:=kn) rfl rfl rfl rfl hk6.1 ?_)
   rw [hr]
   refine Dra.op' rfl rfl rfl .sure (Ope.mov rfl ?_)
   first | refine Dra.op' rfl rfl rfl .sure (Ope.conv rfl (wrap_in _ (by omega) (by omega)) ?_) | refine Dra.op' rfl rfl rfl .sure (Ope.conv rfl rfl ?_)
   refine Dra.op' rfl rfl rfl .sure (Ope.quoN (p:=p) (q:=8) rfl rfl rfl rfl (by decide) (by show p < 2 ^ 63;omega) ?_)
   refine Dra.op' rfl rfl rfl .sure (Ope.fld rfl rfl ?_)
   refine Dra.op' rfl rfl rfl .sure (Ope.load rfl rfl ?_)
   refine Dra.op' rfl rfl rfl .sure (Ope.len (m:=li.length) rfl (by simp) ?_)
   refine Dra.op' rfl rfl rfl .sure (Ope.remN (p:=p / 8) (q:=li.length) rfl rfl rfl rfl hl0 ?_)
   rw [ho]
   refine Dra.op' rfl rfl rfl .sure (Ope.asg rfl ?_)
   refine Dra.op' rfl rfl rfl .sure (Ope.asg rfl ?_)
   refine Dra.nil (Run.seq (Run.region (cx_ok _ _ _) (Reg.op rfl (Ope.load rfl rfl ?_))))
   refine Reg.op rfl (Ope.mov rfl ?_)
   refine Reg.op rfl (Ope.cf rfl rfl hco (hb1 _) ?_)
   refine Reg.op rfl (Ope.mov rfl ?_)
   refine Reg.op rfl (Ope.ext rfl rfl ?_)
   refine Reg.op rfl (Ope.ext rfl rfl ?_)
   refine Reg.op rfl (Ope.newL rfl ?_)
   refine Reg.op0 (Ope.store rfl rfl hget_hd rfl rfl rfl ?_)
   refine Reg.op rfl (Ope.asg rfl ?_)
   refine Reg.nil (Run.seq (Run.frz (d:=7) true rfl hget_hd rfl ?_))
   refine Run.region (cx_ok _ _ _) (Reg.op rfl (Ope.load rfl rfl ?_))
   refine Reg.op rfl (Ope.mov rfl ?_)
   refine Reg.op rfl (Ope.cf rfl rfl hfn (hb1 _) ?_)
   refine Reg.op rfl (Ope.mov rfl ?_)
   refine Reg.op rfl (Ope.ext rfl rfl ?_)
   refine Reg.op rfl (Ope.ext rfl rfl ?_)
   refine Reg.op rfl (Ope.newL rfl ?_)
   refine Reg.op0 (Ope.store rfl rfl hget_hd rfl rfl rfl ?_)
   refine Reg.op rfl (Ope.asg rfl ?_)
   refine Reg.nil (Run.seq (Run.frz (d:=9) true rfl hget_hd rfl ?_))
   refine Run.region (cx_ok _ _ _) (Reg.op rfl (Ope.load rfl rfl ?_))
   refine Reg.op rfl (Ope.mov rfl ?_)
   refine Reg.op rfl (Ope.cf rfl rfl hpy (hb1 _) ?_)
   refine Reg.op rfl (Ope.mov rfl ?_)
   refine Reg.op rfl (Ope.ext rfl rfl ?_)
   refine Reg.op rfl (Ope.ext rfl rfl ?_)
   refine Reg.op rfl (Ope.newL rfl ?_)
   refine Reg.op0 (Ope.store rfl rfl hget_hd rfl rfl rfl ?_)
   refine Reg.op rfl (Ope.asg rfl ?_)
   refine Reg.nil (Run.seq (Run.frz (d:=11) true rfl hget_hd rfl ?_))
   refine Run.region (cx_ok _ _ _) (Reg.op rfl (Ope.load rfl rfl ?_))
   refine Reg.op rfl (Ope.cf rfl rfl hto hb0 ?_)
   refine Reg.op rfl (Ope.mov rfl ?_)
   refine Reg.op rfl (Ope.ext rfl rfl ?_)
   refine Reg.op rfl (Ope.ext rfl rfl ?_)
   refine Reg.op rfl (Ope.newL rfl ?_)
   refine Reg.op0 (Ope.store rfl rfl hget_hd rfl rfl rfl ?_)
   refine Reg.op rfl (Ope.asg rfl ?_)
   refine Reg.nil (Run.seq (Run.seq (Run.frz (d:=13) true rfl hget_hd rfl ?_)))
   refine Run.region (cx_ok _ _ _) (Reg.op rfl (Ope.mov rfl ?_))
   refine Reg.op rfl (Ope.neS rfl rfl ?_)
   refine Reg.op rfl (Ope.mov rfl ?_)
   refine Reg.on rfl rfl rfl (Ope.mov rfl ?_)
   refine Reg.on rfl rfl rfl (Ope.neS rfl rfl ?_)
   refine Reg.op rfl (Ope.pickF rfl rfl ?_)
   refine Reg.op rfl (Ope.mov rfl ?_)
   refine Reg.on rfl rfl rfl (Ope.mov rfl ?_)
   refine Reg.on rfl rfl rfl (Ope.neS rfl rfl ?_)
   refine Reg.op rfl (Ope.pickF rfl rfl ?_)
   refine Reg.op rfl (Ope.mov rfl ?_)
   refine Reg.on rfl rfl rfl (Ope.mov rfl ?_)
   refine Reg.on rfl rfl rfl (Ope.neS rfl rfl ?_)
   refine Reg.op rfl (Ope.pickF rfl rfl ?_)
   refine Reg.nil (Run.condF rfl (Run.skip (Run.seq (Run.region (cx_ok _ _ _) (Reg.op rfl (Ope.newL rfl ?_))))))
   refine Reg.nil (Run.seq (Run.seq (Run.region (cx_ok _ _ _) (Reg.op rfl (Ope.load rfl rfl ?_)))))
   refine Reg.op rfl (Ope.cf rfl rfl htr hb0 ?_)
   refine Reg.op rfl (Ope.len (m:=L.length) rfl (by simp) ?_)
   refine Reg.op rfl (Ope.mov rfl ?_)
   refine Reg.nil (Run.block (Run.wide (m:=5) (l':=[(4,some (.cells ((G 0).map B)))]) (Nat.le_refl _) ⟨by rw [hG0];exact hget_hd,trivial⟩ ?_))
   refine Run.loop (α:=Nat×Nat) (fun t=>[(2,.fp ((⟨ru,(kn:Int),li⟩:Fns).v t1 t2)),(5,I r),(6,I o),(7,.fp (.agg [I alo,I ahi])),(9,.fp (.agg [I blo,I bhi])),(11,.fp (.agg [I clo,I chi])),(13,.fp (.agg [I dlo,I dhi])),(15,.ptr 4 0),(91,.sl .no (L.map tV)),(92,I L.length),(93,I t.1)]) (fun t=>HE t.2 [(4,some (.cells ((G t.1).map B)))]) (fun t=>t.1≤L.length∧5≤t.2) (fun t=>L.length - t.1) (0,5) ⟨rfl,rfl,rfl,rfl,rfl,rfl,rfl,rfl,rfl,rfl,rfl,trivial⟩ rfl ⟨Nat.zero_le _,Nat.le_refl _⟩ (fun t ht=>?_)
   obtain ⟨i,m⟩:=t
   obtain ⟨hi,hm⟩:=ht
   simp only at hi hm
   show Run _ _ _ _ [(2,.fp ((⟨ru,(kn:Int),li⟩:Fns).v t1 t2)),(5,I r),(6,I o),(7,.fp (.agg [I alo,I ahi])),(9,.fp (.agg [I blo,I bhi])),(11,.fp (.agg [I clo,I chi])),(13,.fp (.agg [I dlo,I dhi])),(15,.ptr 4 0),(91,.sl .no (L.map tV)),(92,I L.length),(93,I i)] [] (HE m [(4,some (.cells ((G i).map B)))])
   refine Run.seq (Run.region (cx_ok _ _ _) (Reg.op rfl (Ope.lt rfl rfl ?_)))
   refine Reg.nil (Run.seq (Run.condX rfl (fun hc=>?_) fun hc=>?_))
   ·refine Run.skip (Run.seq (Run.block (Run.seq ?_)))
    have hlt:i < L.length:=by omega
    obtain ⟨RI,HO,X,FI,PA,t3,hTV,hD,hex,⟨hox,hQi,hca⟩,hcb,hcc,hcd⟩:=hall i hlt
    have hXl:=hD.xl
    have hRl:=hD.rl
    have hi1:=f29 X[o] alo ahi hca
    have hi2:=f29 (FI X.length) blo bhi hcb
    have hi3:=f29 (PA X.length) clo chi hcc
    have hi4:=f29 (isum X) dlo dhi hcd
    have hQb:(Q i).map B=[B (decide (X[o]=alo)),B (decide (X[o]=ahi)),B (decide (FI X.length=blo)),B (decide (FI X.length=bhi)),B (decide (PA X.length=clo)),B (decide (PA X.length=chi)),B (decide (isum X=dlo)),B (decide (isum X=dhi))]:=by rw [hQi];rfl
    refine Run.region (cx_ok _ _ _) (Reg.op rfl (Ope.idxM (m:=i) (f:=tV) rfl rfl rfl hlt (fun _=>rfl) ?_))
    rw [hTV]
    refine Reg.op rfl (Ope.load rfl rfl ?_)
    refine Reg.op rfl (Ope.newL rfl ?_)
    refine Reg.op0 (Ope.store rfl rfl hget_hd rfl rfl rfl ?_)
    refine Reg.nil (Run.seq (Run.frz (d:=17) true rfl hget_hd rfl ?_))
    refine Run.wide (m:=m+1) (l':=[(4,some (.cells ((G i).map B)))]) (Nat.le_refl _) ⟨by repeat (first | exact hget_hd | refine (hget_tl (by omega)).trans ?_),trivial⟩ ?_
    refine Run.region (cx_ok _ _ _) (Reg.op rfl (Ope.load rfl rfl ?_))
    refine Reg.op rfl (Ope.fld rfl rfl ?_)
    refine Reg.op rfl (Ope.load rfl rfl ?_)
    refine Reg.op rfl (Ope.fld rfl rfl ?_)
    refine Reg.op rfl (Ope.load rfl rfl ?_)
    refine Reg.op rfl (Ope.cf rfl rfl hex (hb2 _ _) ?_)
    refine Reg.op rfl (Ope.mov rfl ?_)
    refine Reg.op rfl (Ope.ext rfl rfl ?_)
    refine Reg.op rfl (Ope.ext rfl rfl ?_)
    refine Reg.op rfl (Ope.asg rfl ?_)
    refine Reg.op rfl (Ope.asg rfl ?_)
    refine Reg.nil (Run.seq (Run.seq (Run.region (cx_ok _ _ _) (Reg.op rfl (Ope.mov rfl ?_)))))
    refine Reg.op rfl (Ope.neS rfl rfl ?_)
    refine Reg.op rfl (Ope.mov rfl ?_)
    refine Reg.on rfl rfl rfl (Ope.mov rfl ?_)
    refine Reg.on rfl rfl rfl (Ope.len (m:=li.length) rfl (by rw [List.length_map,hXl]) ?_)
    refine Reg.on rfl rfl rfl (Ope.fld rfl rfl ?_)
    refine Reg.on rfl rfl rfl (Ope.load rfl rfl ?_)
    refine Reg.on rfl rfl rfl (Ope.len (m:=li.length) rfl (by simp) ?_)
    refine Reg.on rfl rfl rfl (Ope.neS rfl rfl ?_)
    refine Reg.op rfl (Ope.pickF rfl rfl ?_)
    refine Reg.nil (Run.condF rfl (Run.skip (Run.seq (Run.region (cx_ok _ _ _) (Reg.op rfl (Ope.asg rfl ?_))))))
    refine Reg.op rfl (Ope.asg rfl ?_)
    refine Reg.op rfl (Ope.asg rfl ?_)
    refine Reg.nil (Run.seq (Run.seq (Run.region (cx_ok _ _ _) (Reg.op rfl (Ope.mov rfl ?_)))))
    refine Reg.op rfl (Ope.len (m:=X.length) rfl (by simp) ?_)
    refine Reg.op rfl (Ope.mov rfl ?_)
    refine Reg.nil (Run.block (Run.loop (α:=Nat) (fun j=>[(2,.fp ((⟨ru,(kn:Int),li⟩:Fns).v t1 t2)),(5,I r),(6,I o),(7,.fp (.agg [I alo,I ahi])),(9,.fp (.agg [I blo,I bhi])),(11,.fp (.agg [I clo,I chi])),(13,.fp (.agg [I dlo,I dhi])),(15,.ptr 4 0),(17,.fp (.agg [.sl .no (RI.map I),.sl .no (HO.map I)])),(18,.sl t3 (X.map I)),(20,I (FI j)),(21,I (PA j)),(22,I (isum (X.take j))),(91,.sl .no (L.map tV)),(92,I L.length),(93,I i),(116,.sl t3 (X.map I)),(117,I X.length),(118,I j)]) (fun j=>HE (m+1) [(4,some (.cells ((G i).map B)))]) (fun j=>j≤X.length) (fun j=>X.length - j) 0 ⟨rfl,rfl,rfl,rfl,rfl,rfl,rfl,rfl,rfl,rfl,by rw [hD.f0];rfl,by rw [hD.p0];rfl,rfl,rfl,rfl,rfl,rfl,rfl,rfl,trivial⟩ rfl (Nat.zero_le _) (fun j hj=>?_)))
    refine Run.seq (Run.region (cx_ok _ _ _) (Reg.op rfl (Ope.lt rfl rfl ?_)))
    refine Reg.nil (Run.seq (Run.condX rfl (fun hc=>?_) fun hc=>?_))
    ·refine Run.skip (Run.seq (Run.block (Run.seq ?_)))
     have hjX:j < X.length:=by omega
     have hjR:j < RI.length:=by omega
     have hXb:=hD.xb j hjX
     have hFb:=hD.fb j
     have hPb:=hD.pb j
     have hS1:=hsu X j hjX
     have hS2:=hsm X 1000 5 (by decide) hD.xb (by omega) j
     obtain ⟨x,hxe⟩:∃ x:Nat,X[j]=(x:Int):=⟨X[j].toNat,by omega⟩
     have hx2:((x+1) / 2:Nat)=(X[j]+1) / 2:=by omega
     have hx3:((x / 2:Nat):Int)=X[j] / 2:=by omega
     have hs1:=hD.s1 j hjR hjX
     have hs2:=hD.s2 j hjR hjX
     have hs3:=hD.s3 j hjR hjX
     refine Run.region (cx_ok _ _ _) (Reg.op rfl (Ope.mov rfl ?_))
     refine Reg.op rfl (Ope.idxM (m:=j) (f:=I) rfl rfl rfl hjX (fun _=>rfl) ?_)
     refine Reg.op rfl (Ope.load rfl rfl ?_)
     refine Reg.op rfl (Ope.asg rfl ?_)
     refine Reg.op rfl (Ope.asg rfl ?_)
     refine Reg.nil (Run.seq (Run.region (cx_ok _ _ _) (Reg.op rfl (Ope.mov rfl ?_))))
     refine Reg.op rfl (Ope.mov rfl ?_)
     refine Reg.op rfl (Ope.add rfl rfl (by omega) ?_)
     refine Reg.op rfl (Ope.asg rfl ?_)
     refine Reg.nil (Run.seq (Run.region (cx_ok _ _ _) (Reg.op rfl (Ope.fld rfl rfl ?_))))
     refine Reg.op rfl (Ope.load rfl rfl ?_)
     refine Reg.op rfl (Ope.mov rfl ?_)
     refine Reg.op rfl (Ope.idxM (m:=j) (f:=I) rfl rfl rfl hjR (fun _=>rfl) ?_)
     refine Reg.op rfl (Ope.load rfl rfl ?_)
     refine Reg.nil (Run.block (Run.seq (Run.region (cx_ok _ _ _) (Reg.op rfl (Ope.mov rfl ?_)))))
     refine Reg.op rfl (Ope.eq rfl rfl ?_)
     refine Reg.op rfl (Ope.asg rfl ?_)
     refine Reg.nil (Run.condX rfl (fun hc=>?_) fun hc=>?_)
     ·refine Run.region (cx_ok _ _ _) (Reg.op rfl (Ope.mov rfl ?_))
      refine Reg.op rfl (Ope.mov rfl ?_)
      refine Reg.op rfl (Ope.add rfl rfl (by omega) ?_)
      refine Reg.op rfl (Ope.mov rfl ?_)
      refine Reg.op rfl (Ope.mov rfl ?_)
      refine Reg.op rfl (Ope.add rfl rfl (by omega) ?_)
      refine Reg.op rfl (Ope.quoN (p:=x+1) (q:=2) rfl rfl (by omega) rfl (by decide) (by show x+1 < 2 ^ 63;omega) ?_)
      refine Reg.op rfl (Ope.add rfl rfl (by omega) ?_)
      rw [hx2]
      refine Reg.op rfl (Ope.asg rfl ?_)
      refine Reg.op rfl (Ope.asg rfl ?_)
      refine Reg.nil (Run.bend (Run.bend (Run.region (cx_ok _ _ _) (Reg.op rfl (Ope.add rfl rfl (by omega) ?_)))))
      refine Reg.op rfl (Ope.mov rfl ?_)
      refine Reg.nil ?_
      first
      | (have hq := hs1 (by simpa using hc)
         exact Run.lend ⟨j+1,by omega,by omega,⟨rfl,rfl,rfl,rfl,rfl,rfl,rfl,rfl,rfl,rfl,by rw [hq.1];rfl,by rw [hq.2];rfl,by rw [hS1];rfl,rfl,rfl,rfl,rfl,rfl,rfl,trivial⟩,rfl,rfl⟩)
      | (have hq := hs2 (by simpa using hcp) (by simpa using hc)
         exact Run.lend ⟨j+1,by omega,by omega,⟨rfl,rfl,rfl,rfl,rfl,rfl,rfl,rfl,rfl,rfl,by rw [hq.1];rfl,by rw [hq.2];rfl,by rw [hS1];rfl,rfl,rfl,rfl,rfl,rfl,rfl,trivial⟩,rfl,rfl⟩)
      | (have hq := hs3 (by simpa using hcp) (by simpa using hc)
         exact Run.lend ⟨j+1,by omega,by omega,⟨rfl,rfl,rfl,rfl,rfl,rfl,rfl,rfl,rfl,rfl,by rw [hq.1];rfl,by rw [hq.2];rfl,by rw [hS1];rfl,rfl,rfl,rfl,rfl,rfl,rfl,trivial⟩,rfl,rfl⟩)
     ·refine Run.seq ?_
      have hcp:=hc
      refine Run.region (cx_ok _ _ _) (Reg.op rfl (Ope.mov rfl ?_))
      refine Reg.op rfl (Ope.xorN (p:=r) (q:=1) rfl rfl rfl rfl (by show r < 2 ^ 63;omega) (by decide) ?_)
      refine Reg.op rfl (Ope.eq rfl rfl ?_)
      refine Reg.op rfl (Ope.asg rfl ?_)
      refine Reg.nil (Run.condX rfl (fun hc=>?_) fun hc=>?_)
      ·refine Run.region (cx_ok _ _ _) (Reg.op rfl (Ope.mov rfl ?_))
       refine Reg.op rfl (Ope.mov rfl ?_)
       refine Reg.op rfl (Ope.quoN (p:=x) (q:=2) rfl rfl hxe rfl (by decide) (by show x < 2 ^ 63;omega) ?_)
       refine Reg.op rfl (Ope.add rfl rfl (by omega) ?_)
       rw [hx3]
       refine Reg.op rfl (Ope.asg rfl ?_)
       refine Reg.nil (Run.bend (Run.bend (Run.region (cx_ok _ _ _) (Reg.op rfl (Ope.add rfl rfl (by omega) ?_)))))
       refine Reg.op rfl (Ope.mov rfl ?_)
       refine Reg.nil ?_
       first
       | (have hq := hs1 (by simpa using hc)
          exact Run.lend ⟨j+1,by omega,by omega,⟨rfl,rfl,rfl,rfl,rfl,rfl,rfl,rfl,rfl,rfl,by rw [hq.1];rfl,by rw [hq.2];rfl,by rw [hS1];rfl,rfl,rfl,rfl,rfl,rfl,rfl,trivial⟩,rfl,rfl⟩)
       | (have hq := hs2 (by simpa using hcp) (by simpa using hc)
          exact Run.lend ⟨j+1,by omega,by omega,⟨rfl,rfl,rfl,rfl,rfl,rfl,rfl,rfl,rfl,rfl,by rw [hq.1];rfl,by rw [hq.2];rfl,by rw [hS1];rfl,rfl,rfl,rfl,rfl,rfl,rfl,trivial⟩,rfl,rfl⟩)
       | (have hq := hs3 (by simpa using hcp) (by simpa using hc)
          exact Run.lend ⟨j+1,by omega,by omega,⟨rfl,rfl,rfl,rfl,rfl,rfl,rfl,rfl,rfl,rfl,by rw [hq.1];rfl,by rw [hq.2];rfl,by rw [hS1];rfl,rfl,rfl,rfl,rfl,rfl,rfl,trivial⟩,rfl,rfl⟩)
      ·refine Run.skip (Run.bend (Run.bend (Run.region (cx_ok _ _ _) (Reg.op rfl (Ope.add rfl rfl (by omega) ?_)))))
       refine Reg.op rfl (Ope.mov rfl ?_)
       refine Reg.nil ?_
       first
       | (have hq := hs1 (by simpa using hc)
          exact Run.lend ⟨j+1,by omega,by omega,⟨rfl,rfl,rfl,rfl,rfl,rfl,rfl,rfl,rfl,rfl,by rw [hq.1];rfl,by rw [hq.2];rfl,by rw [hS1];rfl,rfl,rfl,rfl,rfl,rfl,rfl,trivial⟩,rfl,rfl⟩)
       | (have hq := hs2 (by simpa using hcp) (by simpa using hc)
          exact Run.lend ⟨j+1,by omega,by omega,⟨rfl,rfl,rfl,rfl,rfl,rfl,rfl,rfl,rfl,rfl,by rw [hq.1];rfl,by rw [hq.2];rfl,by rw [hS1];rfl,rfl,rfl,rfl,rfl,rfl,rfl,trivial⟩,rfl,rfl⟩)
       | (have hq := hs3 (by simpa using hcp) (by simpa using hc)
          exact Run.lend ⟨j+1,by omega,by omega,⟨rfl,rfl,rfl,rfl,rfl,rfl,rfl,rfl,rfl,rfl,by rw [hq.1];rfl,by rw [hq.2];rfl,by rw [hS1];rfl,rfl,rfl,rfl,rfl,rfl,rfl,trivial⟩,rfl,rfl⟩)
    ·refine Run.exit (Jmp.code (Jmp.round (Jmp.here (Run.seq (Run.seq ?_)))))
     obtain rfl:j=X.length:=by omega
     rw [List.take_length]
     refine Run.draw (cx_ok _ _ _) [(0,true),(1,true),(2,true),(3,true),(4,true),(5,true),(6,true),(7,true),(8,true),(9,true),(10,true),(11,true),(12,true),(13,true),(14,true),(15,true),(16,true),(17,true),(18,true),(19,true),(20,true),(21,true),(22,true),(23,true),(24,true)] (by kernel_rfl) (Dra.op' rfl rfl rfl .sure (Ope.mov rfl ?_))
     refine Dra.op' rfl rfl rfl .sure (Ope.mov rfl ?_)
     refine Dra.op' rfl rfl rfl .sure (Ope.idxM (m:=o) (f:=I) rfl rfl rfl hox (fun _=>rfl) ?_)
     refine Dra.op' rfl rfl rfl .sure (Ope.load rfl rfl ?_)
     refine Dra.op' rfl rfl rfl .sure (Ope.load rfl rfl ?_)
     refine Dra.op' rfl rfl rfl .sure (Ope.cf rfl rfl (hi1) rfl ?_)
     refine Dra.op' rfl rfl rfl .sure (Ope.not rfl ?_)
     refine Dra.op' rfl rfl rfl .sure (Ope.mov rfl ?_)
     refine Dra.on' rfl rfl rfl rfl rfl .sure (Ope.mov rfl ?_)
     refine Dra.on' rfl rfl rfl rfl rfl .sure (Ope.load rfl rfl ?_)
     refine Dra.on' rfl rfl rfl rfl rfl .sure (Ope.cf rfl rfl (hi2) rfl ?_)
     refine Dra.on' rfl rfl rfl rfl rfl .sure (Ope.not rfl ?_)
     refine Dra.op' rfl rfl rfl .sure (Ope.pickF rfl rfl ?_)
     refine Dra.op' rfl rfl rfl .sure (Ope.mov rfl ?_)
     refine Dra.on' rfl rfl rfl rfl rfl .sure (Ope.mov rfl ?_)
     refine Dra.on' rfl rfl rfl rfl rfl .sure (Ope.load rfl rfl ?_)
     refine Dra.on' rfl rfl rfl rfl rfl .sure (Ope.cf rfl rfl (hi3) rfl ?_)
     refine Dra.on' rfl rfl rfl rfl rfl .sure (Ope.not rfl ?_)
     refine Dra.op' rfl rfl rfl .sure (Ope.pickF rfl rfl ?_)
     refine Dra.op' rfl rfl rfl .sure (Ope.mov rfl ?_)
     refine Dra.on' rfl rfl rfl rfl rfl .sure (Ope.mov rfl ?_)
     refine Dra.on' rfl rfl rfl rfl rfl .sure (Ope.load rfl rfl ?_)
     refine Dra.on' rfl rfl rfl rfl rfl .sure (Ope.cf rfl rfl (hi4) rfl ?_)
     refine Dra.on' rfl rfl rfl rfl rfl .sure (Ope.not rfl ?_)
     refine Dra.op' rfl rfl rfl .sure (Ope.pickF rfl rfl ?_)
     refine Dra.nil (Run.condF rfl (Run.skip (Run.seq (Run.draw (cx_ok _ _ _) [(0,true),(1,true),(2,true),(3,true),(4,true),(5,true),(6,true),(7,true),(8,true),(9,true),(10,true),(11,true),(12,true),(13,true),(14,true),(15,true),(16,true),(17,true),(18,true),(19,true),(20,true),(21,true),(22,true),(23,true),(24,true),(25,true),(26,true),(27,true),(28,true),(29,true),(30,true),(31,true),(32,true),(33,true),(34,true),(35,true),(36,true),(37,true),(38,true),(39,true),(40,true)] (by kernel_rfl) (Dra.op' rfl rfl rfl .sure (Ope.mov rfl ?_))))))
     refine Dra.op' rfl rfl rfl .sure (Ope.mov rfl ?_)
     refine Dra.op' rfl rfl rfl .sure (Ope.idxM (m:=o) (f:=I) rfl rfl rfl hox (fun _=>rfl) ?_)
     refine Dra.op' rfl rfl rfl .sure (Ope.load rfl rfl ?_)
     refine Dra.op' rfl rfl rfl .sure (Ope.fld rfl rfl ?_)
     refine Dra.op' rfl rfl rfl .sure (Ope.load rfl rfl ?_)
     refine Dra.op' rfl rfl rfl .sure (Ope.eq rfl rfl ?_)
     refine Dra.op' rfl rfl rfl .sure (Ope.mov rfl ?_)
     refine Dra.op' rfl rfl rfl .sure (Ope.mov rfl ?_)
     refine Dra.op' rfl rfl rfl .sure (Ope.idxM (m:=o) (f:=I) rfl rfl rfl hox (fun _=>rfl) ?_)
     refine Dra.op' rfl rfl rfl .sure (Ope.load rfl rfl ?_)
     refine Dra.op' rfl rfl rfl .sure (Ope.fld rfl rfl ?_)
     refine Dra.op' rfl rfl rfl .sure (Ope.load rfl rfl ?_)
     refine Dra.op' rfl rfl rfl .sure (Ope.eq rfl rfl ?_)
     refine Dra.op' rfl rfl rfl .sure (Ope.mov rfl ?_)
     refine Dra.op' rfl rfl rfl .sure (Ope.fld rfl rfl ?_)
     refine Dra.op' rfl rfl rfl .sure (Ope.load rfl rfl ?_)
     refine Dra.op' rfl rfl rfl .sure (Ope.eq rfl rfl ?_)
     refine Dra.op' rfl rfl rfl .sure (Ope.mov rfl ?_)
     refine Dra.op' rfl rfl rfl .sure (Ope.fld rfl rfl ?_)
     refine Dra.op' rfl rfl rfl .sure (Ope.load rfl rfl ?_)
     refine Dra.op' rfl rfl rfl .sure (Ope.eq rfl rfl ?_)
     refine Dra.op' rfl rfl rfl .sure (Ope.mov rfl ?_)
     refine Dra.op' rfl rfl rfl .sure (Ope.fld rfl rfl ?_)
     refine Dra.op' rfl rfl rfl .sure (Ope.load rfl rfl ?_)
     refine Dra.op' rfl rfl rfl .sure (Ope.eq rfl rfl ?_)
     refine Dra.op' rfl rfl rfl .sure (Ope.mov rfl ?_)
     refine Dra.op' rfl rfl rfl .sure (Ope.fld rfl rfl ?_)
     refine Dra.op' rfl rfl rfl .sure (Ope.load rfl rfl ?_)
     refine Dra.op' rfl rfl rfl .sure (Ope.eq rfl rfl ?_)
     refine Dra.op' rfl rfl rfl .sure (Ope.mov rfl ?_)
     refine Dra.op' rfl rfl rfl .sure (Ope.fld rfl rfl ?_)
     refine Dra.op' rfl rfl rfl .sure (Ope.load rfl rfl ?_)
     refine Dra.op' rfl rfl rfl .sure (Ope.eq rfl rfl ?_)
     refine Dra.op' rfl rfl rfl .sure (Ope.mov rfl ?_)
     refine Dra.op' rfl rfl rfl .sure (Ope.fld rfl rfl ?_)
     refine Dra.op' rfl rfl rfl .sure (Ope.load rfl rfl ?_)
     refine Dra.op' rfl rfl rfl .sure (Ope.eq rfl rfl ?_)
     refine Dra.op' rfl rfl rfl .sure (Ope.bsl rfl rfl rfl rfl ?_)
     refine Dra.op' rfl rfl rfl .sure (Ope.len (m:=8) rfl rfl ?_)
     refine Dra.op' rfl rfl rfl .sure (Ope.mov rfl ?_)
     refine Dra.nil (Run.block (Run.loop (α:=Nat) (fun k=>[(2,.fp ((⟨ru,(kn:Int),li⟩:Fns).v t1 t2)),(5,I r),(6,I o),(7,.fp (.agg [I alo,I ahi])),(9,.fp (.agg [I blo,I bhi])),(11,.fp (.agg [I clo,I chi])),(13,.fp (.agg [I dlo,I dhi])),(15,.ptr 4 0),(91,.sl .no (L.map tV)),(92,I L.length),(93,I i),(214,.sl .ex ((Q i).map B)),(215,I 8),(216,I k)]) (fun k=>HE (m+1) [(4,some (.cells ((HLm (G i) (G (i+1)) k).map B)))]) (fun k=>k≤8) (fun k=>8 - k) 0 ⟨rfl,rfl,rfl,rfl,rfl,rfl,rfl,rfl,rfl,rfl,rfl,by rw [hQb];rfl,rfl,rfl,trivial⟩ rfl (Nat.zero_le _) (fun k hk=>?_)))
     refine Run.seq (Run.region (cx_ok _ _ _) (Reg.op rfl (Ope.lt rfl rfl ?_)))
     refine Reg.nil (Run.seq (Run.condX rfl (fun hc=>?_) fun hc=>?_))
     ·refine Run.skip (Run.seq (Run.block (Run.seq ?_)))
      have hk8:k < 8:=by omega
      have hkH:k < (HLm (G i) (G (i+1)) k).length:=by rw [HLm_len (hG8 i) (hG8 (i+1)) hk];exact hk8
      have hH1:=HLm_at (hG8 i) (hG8 (i+1)) hk8 hkH
      have hH2:=HLm_set (hG8 i) (hG8 (i+1)) hk8
      rw [hGs i k hk8,← hH1] at hH2
      refine Run.region (cx_ok _ _ _) (Reg.op rfl (Ope.mov rfl ?_))
      refine Reg.op rfl (Ope.idxM (m:=k) (f:=B) rfl rfl rfl (by rw [hQ8];exact hk8) (fun _=>rfl) ?_)
      refine Reg.op rfl (Ope.load rfl rfl ?_)
      refine Reg.op rfl (Ope.asg rfl ?_)
      refine Reg.op rfl (Ope.asg rfl ?_)
      refine Reg.nil (Run.region (cx_ok _ _ _) (Reg.op rfl (Ope.mov rfl ?_)))
      refine Reg.op rfl (Ope.mov rfl ?_)
      refine Reg.op rfl (Ope.idxA rfl rfl rfl (idx8 hk8) ?_)
      refine Reg.op rfl (Ope.load rfl (ldB hget_hd hkH) ?_)
      refine Reg.op rfl (Ope.mov rfl ?_)
      refine Reg.splitX rfl rfl (fun hg=>?_) fun hg=>?_
      ·refine Reg.off rfl rfl rfl (Reg.op rfl (Ope.pickT rfl rfl ?_))
       refine Reg.op rfl (Ope.idxA rfl rfl rfl (idx8 hk8) ?_)
       refine Reg.op0 (Ope.storeL rfl rfl hget_hd rfl rfl (by rw [List.length_map];show 0+k * 1 < _;omega) ?_)
       refine Reg.nil (Run.bend ?_)
       refine Run.wide (m:=m+1) (l':=[(4,some (.cells ((HLm (G i) (G (i+1)) (k+1)).map B)))]) (Nat.le_refl _) ⟨by
         rw [← hH2,List.map_set]
         first
           | (rw [show (HLm (G i) (G (i+1)) k)[k]=true from hg,Bool.true_or];rw [show 0+k * 1=k by omega];exact hget_hd)
           | (rw [show (HLm (G i) (G (i+1)) k)[k]=false from hg,Bool.false_or];rw [show 0+k * 1=k by omega];exact hget_hd),trivial⟩ ?_
       refine Run.region (cx_ok _ _ _) (Reg.op rfl (Ope.add rfl rfl (by omega) ?_))
       refine Reg.op rfl (Ope.mov rfl ?_)
       exact Reg.nil (Run.lend ⟨k+1,by omega,by omega,⟨rfl,rfl,rfl,rfl,rfl,rfl,rfl,rfl,rfl,rfl,rfl,rfl,rfl,rfl,trivial⟩,rfl,rfl⟩)
      ·refine Reg.on rfl rfl rfl (Ope.mov rfl ?_)
       refine Reg.op rfl (Ope.pickF rfl rfl ?_)
       refine Reg.op rfl (Ope.idxA rfl rfl rfl (idx8 hk8) ?_)
       refine Reg.op0 (Ope.storeL rfl rfl hget_hd rfl rfl (by rw [List.length_map];show 0+k * 1 < _;omega) ?_)
       refine Reg.nil (Run.bend ?_)
       refine Run.wide (m:=m+1) (l':=[(4,some (.cells ((HLm (G i) (G (i+1)) (k+1)).map B)))]) (Nat.le_refl _) ⟨by
         rw [← hH2,List.map_set]
         first
           | (rw [show (HLm (G i) (G (i+1)) k)[k]=true from hg,Bool.true_or];rw [show 0+k * 1=k by omega];exact hget_hd)
           | (rw [show (HLm (G i) (G (i+1)) k)[k]=false from hg,Bool.false_or];rw [show 0+k * 1=k by omega];exact hget_hd),trivial⟩ ?_
       refine Run.region (cx_ok _ _ _) (Reg.op rfl (Ope.add rfl rfl (by omega) ?_))
       refine Reg.op rfl (Ope.mov rfl ?_)
       exact Reg.nil (Run.lend ⟨k+1,by omega,by omega,⟨rfl,rfl,rfl,rfl,rfl,rfl,rfl,rfl,rfl,rfl,rfl,rfl,rfl,rfl,trivial⟩,rfl,rfl⟩)
     ·refine Run.exit (Jmp.code (Jmp.round (Jmp.here (Run.bend ?_))))
      obtain rfl:k=8:=by omega
      rw [HLm_8 (hG8 i) (hG8 (i+1))]
      refine Run.region (cx_ok _ _ _) (Reg.op rfl (Ope.add rfl rfl (by omega) ?_))
      refine Reg.op rfl (Ope.mov rfl ?_)
      exact Reg.nil (Run.lend ⟨(i+1,m+1),by show L.length - (i+1) < L.length - i;omega,⟨by show i+1≤L.length;omega,by show 5≤m+1;omega⟩,⟨rfl,rfl,rfl,rfl,rfl,rfl,rfl,rfl,rfl,rfl,rfl,trivial⟩,rfl,rfl⟩)
   ·refine Run.exit (Jmp.code (Jmp.round (Jmp.here (Run.seq ?_))))
    obtain rfl:i=L.length:=by omega
    rw [hGn]
    refine Run.region (cx_ok _ _ _) (Reg.op rfl (Ope.load rfl rfl ?_))
    refine Reg.op rfl (Ope.bld rfl rfl ?_)
    refine Reg.op rfl (Ope.eqV rfl rfl (eq8 _ _) ?_)
    refine Reg.op rfl (Ope.mov rfl ?_)
    refine Reg.on rfl rfl rfl (Ope.cf rfl rfl (aliveF) rfl ?_)
    refine Reg.op rfl (Ope.pickT rfl rfl ?_)
    refine Reg.op rfl (Ope.asg rfl ?_)
    exact Reg.nil (Run.ret (fin_ret (.tmp rfl .nil) rfl rfl))
end
end Go.Pv
namespace Go.Pv
open Go.Proofs Go.Am
set_option maxRecDepth 10000
theorem f7 (s:Fns) (hi:s.hnd) (p:Nat) (hp:p < 256):Fn P0 7 [s.v .no .no,.lit (.int .u8 (p:Int))] (B true):=by
  by_cases hv:s.lng=true∨s.B=false
  · have hh := f11n s (t1 := .no) (t2 := .no) rfl rfl hi.ru hi.li 500 hv
    exact f7a s rfl rfl hi.ru hi.li _ s.lng hh (hv.elim .inl fun h=>.inr (.inl h))
  · have hB : s.B = true := by
      cases hb:s.B with
      | true=>rfl
      | false=>exact absurd (.inr hb) hv
    have hf:=fns_ok s hB
    have hh:=f11v s (t1:=.no) (t2:=.no) rfl rfl hf 500
    cases hd:decide ((500:Int) < (prdN s s.li.length:Nat)) with
    | true =>
      rw [hd] at hh
      exact f7a s rfl rfl hi.ru hi.li _ true hh (.inl rfl)
    | false =>
      rw [hd] at hh
      by_cases h0:0 < s.li.length
      · exact f7v s rfl rfl hf hh h0 p hp
      · exact f7a s rfl rfl hi.ru hi.li _ false hh (.inr (.inr (by omega)))
end Go.Pv
