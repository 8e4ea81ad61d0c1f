/- Parts of the proof: E42, E43, E44, E45 -/
import Derived.Test.YtfpihegkllffbaaGreatP23
set_option linter.unusedVariables false
set_option linter.unusedSimpArgs false
set_option linter.unusedSectionVars false
namespace Go.Pv
open Go.Proofs Go.Am
set_option maxRecDepth 10000
def fIN (f:Fns) (k:Nat) (T:List Deed) (i:Nat):List Int:=sumR k (fun r x=>gF r x (f.cin T x)) (T.take i)
def pIN (f:Fns) (k:Nat) (T:List Deed) (i:Nat):List Int:=sumR k (fun r x=>gP r x (f.cin T x)) (T.take i)
theorem fIN_end (f:Fns) (k:Nat) (T:List Deed) {r:Nat} (h:r < (fIN f k T T.length).length):(fIN f k T T.length)[r]=f.val (gF (r:Int)) T:=by
  unfold fIN at h ⊢
  rw [sumR_at,List.take_length]
  rfl
theorem pIN_end (f:Fns) (k:Nat) (T:List Deed) {r:Nat} (h:r < (pIN f k T T.length).length):(pIN f k T T.length)[r]=f.val (gP (r:Int)) T:=by
  unfold pIN at h ⊢
  rw [sumR_at,List.take_length]
  rfl
theorem isum_le {l:List Int} {m:Int} (hm:0≤m) (h:∀ x∈l,0≤x∧x≤m) {n:Nat} (hl:l.length≤n):0≤isum l∧isum l≤m * n:=by
  have h1:=isum_bd hm h
  have h2:m * (l.length:Int)≤m * (n:Int):=Int.mul_le_mul_of_nonneg_left (by omega) hm
  exact ⟨h1.1,by omega⟩
theorem fIN_bd {f:Fns} (hf:f.ok) {k:Nat} {T:List Deed} (hT:T.length≤5) {i r:Nat} (h:r < (fIN f k T i).length):0≤(fIN f k T i)[r]∧(fIN f k T i)[r]≤5005:=by
  unfold fIN at h ⊢
  rw [sumR_at]
  exact isum_le (m:=1001) (n:=5) (by decide) (fun x hx=>by
    obtain ⟨d,_,rfl⟩:=List.mem_map.1 hx
    have:=cst_bd hf d (f.earl (T.filter fun o=>bef o d) d)
    exact gF_ok _ d _ this.1 this.2) (by rw [List.length_map,List.length_take];omega)
theorem pIN_bd {f:Fns} (hf:f.ok) {k:Nat} {T:List Deed} (hT:T.length≤5) {i r:Nat} (h:r < (pIN f k T i).length):0≤(pIN f k T i)[r]∧(pIN f k T i)[r]≤5005:=by
  unfold pIN at h ⊢
  rw [sumR_at]
  exact isum_le (m:=1001) (n:=5) (by decide) (fun x hx=>by
    obtain ⟨d,_,rfl⟩:=List.mem_map.1 hx
    have:=cst_bd hf d (f.earl (T.filter fun o=>bef o d) d)
    exact gP_ok _ d _ this.1 this.2) (by rw [List.length_map,List.length_take];omega)
theorem one_gF {k:Nat} (hk:k=2∨k=4∨k=6) {d:Deed} {c:Int} (h:0≤d.ri∧d.ri < k):isum ((List.range k).map fun (r:Nat)=>gF (r:Int) d c)=c:=by
  obtain ⟨w,hw⟩:∃ w:Nat,d.ri=(w:Int):=⟨d.ri.toNat,by omega⟩
  have hwk:w < k:=by omega
  have e:∀ r:Nat,gF (r:Int) d c=if w=r then c else 0:=fun r=>by
    unfold gF
    rw [hw]
    by_cases h:w=r
    · rw [if_pos (by omega),if_pos h]
    · rw [if_neg (by omega),if_neg h]
  simp only [e]
  rcases hk with rfl | rfl | rfl
  · rcases (by omega:w=0∨w=1) with rfl | rfl<;>simp [List.range_succ,isum]
  · rcases (by omega:w=0∨w=1∨w=2∨w=3) with rfl | rfl | rfl | rfl<;>simp [List.range_succ,isum]
  · rcases (by omega:w=0∨w=1∨w=2∨w=3∨w=4∨w=5) with rfl | rfl | rfl | rfl | rfl | rfl<;>simp [List.range_succ,isum]
theorem one_gP {k:Nat} (hk:k=2∨k=4∨k=6) {d:Deed} {c:Int} (h:0≤d.ri∧d.ri < k):isum ((List.range k).map fun (r:Nat)=>gP (r:Int) d c)=c:=by
  obtain ⟨w,hw⟩:∃ w:Nat,d.ri=(w:Int):=⟨d.ri.toNat,by omega⟩
  have hwk:w < k:=by omega
  unfold gP part
  rw [hw]
  rcases hk with rfl | rfl | rfl
  · rcases (by omega:w=0∨w=1) with rfl | rfl<;>simp [List.range_succ,isum]<;>omega
  · rcases (by omega:w=0∨w=1∨w=2∨w=3) with rfl | rfl | rfl | rfl<;>simp [List.range_succ,isum]<;>omega
  · rcases (by omega:w=0∨w=1∨w=2∨w=3∨w=4∨w=5) with rfl | rfl | rfl | rfl | rfl | rfl<;>simp [List.range_succ,isum]<;>omega
theorem tru_ri {f:Fns} {T:List Deed} (h:f.Tru T):∀ d∈T,0≤d.ri∧d.ri < f.n:=fun d hd=>by
  obtain ⟨i,hi,rfl⟩:=List.getElem_of_mem hd
  have:=(h.at' i hi).2.2.2.1
  exact ⟨this.1,this.2.1⟩
theorem all_fined {f:Fns} {T:List Deed} (h:f.Tru T) {k:Nat} (hn:f.n=(k:Int)) (hk:k=2∨k=4∨k=6):isum (fIN f k T T.length)=isum (f.exa T)∧isum (pIN f k T T.length)=isum (f.exa T):=by
  unfold fIN pIN
  rw [List.take_length,isum_swap,isum_swap]
  unfold Fns.exa
  refine ⟨congrArg isum (List.map_congr_left fun d hd=>?_),congrArg isum (List.map_congr_left fun d hd=>?_)⟩
  · exact one_gF hk (by have:=tru_ri h d hd;omega)
  · exact one_gP hk (by have:=tru_ri h d hd;omega)
theorem two_paid (f:Fns) (T:List Deed) (r:Int):f.val (gF r) T+f.val (gF (part r)) T=f.val (gP r) T+f.val (gP (part r)) T:=by
  have h:∀ L:List Deed,isum (L.map fun d=>gF r d (f.cin T d))+isum (L.map fun d=>gF (part r) d (f.cin T d))=isum (L.map fun d=>gP r d (f.cin T d))+isum (L.map fun d=>gP (part r) d (f.cin T d)):=fun L=>by
    induction L with
    | nil=>rfl
    | cons d L ih =>
      simp only [List.map_cons,isum]
      have e:=paid_two (f.cin T d) d.ri r
      have e2:gF r d (f.cin T d)+gF (part r) d (f.cin T d)=gP r d (f.cin T d)+gP (part r) d (f.cin T d):=e.symm
      omega
  exact h T
end Go.Pv
namespace Go.Pv
open Go.Proofs Go.Am
set_option maxRecDepth 10000
theorem f29 (n a b:Int) (h:a≤n∧n≤b):Fn P0 29 [I n,.agg [I a,I b]] (B true):=by
  have hb:=h.2
  refine PFun.of (C:=c29) (cx_ok _ _ _) rfl (fn:=Tryz.f29) (by kernel_rfl) (c:=_) rfl rfl rfl ?_
  refine Run.seq (Run.region (cx_ok _ _ _) (Reg.op rfl (Ope.boxF rfl rfl ?_)))
  refine Reg.op rfl (Ope.asg rfl ?_)
  refine Reg.nil (Run.seq (Run.region (cx_ok _ _ _) (Reg.op rfl (Ope.fld rfl rfl ?_))))
  refine Reg.op rfl (Ope.load rfl rfl ?_)
  refine Reg.op rfl (Ope.mov rfl ?_)
  refine Reg.op rfl (Ope.le rfl rfl ?_)
  refine Reg.op rfl (Ope.mov rfl ?_)
  refine Reg.splitX rfl rfl (fun hg=>?_) fun hg=>?_
  ·first
   |(exfalso;omega)
   |refine Reg.on rfl rfl rfl (Ope.mov rfl ?_)
    refine Reg.on rfl rfl rfl (Ope.fld rfl rfl ?_)
    refine Reg.on rfl rfl rfl (Ope.load rfl rfl ?_)
    refine Reg.on rfl rfl rfl (Ope.le rfl rfl ?_)
    refine Reg.op rfl (Ope.pickT rfl rfl ?_)
    refine Reg.op rfl (Ope.asg rfl ?_)
    refine Reg.nil (Run.ret (fin_ret (.tmp rfl .nil) rfl ?_))
    (simp [*];first | done | rfl)
  ·first
   |(exfalso;omega)
   |refine Reg.off rfl rfl rfl (Reg.off rfl rfl rfl (Reg.off rfl rfl rfl (Reg.off rfl rfl rfl (Reg.op rfl (Ope.pickF rfl rfl ?_)))))
    refine Reg.op rfl (Ope.asg rfl ?_)
    refine Reg.nil (Run.ret (fin_ret (.tmp rfl .nil) rfl ?_))
    (simp [*];first | done | rfl)
structure TD (kn len:Nat) (RI X:List Int) (FI PA:Nat→List Int):Prop where
  rl:RI.length=len
  xl:X.length=len
  xb:∀ i (h:i < X.length),0≤X[i]∧X[i]≤1000
  fl:∀ i,(FI i).length=kn
  pl:∀ i,(PA i).length=kn
  f0:FI 0=List.replicate kn 0
  p0:PA 0=List.replicate kn 0
  fb:∀ i r (h:r < (FI i).length),0≤(FI i)[r]∧(FI i)[r]≤5005
  pb:∀ i r (h:r < (PA i).length),0≤(PA i)[r]∧(PA i)[r]≤5005
  st:∀ i (h1:i < RI.length) (h2:i < X.length),∃ w:Nat,RI[i]=(w:Int)∧w < kn∧w ^^^ 1 < kn∧∃ (a:w < (FI i).length) (b:w < (PA i).length) (c:w ^^^ 1 < ((PA i).set w ((PA i)[w]+(X[i]+1) / 2)).length),
    FI (i+1)=(FI i).set w ((FI i)[w]+X[i])∧PA (i+1)=((PA i).set w ((PA i)[w]+(X[i]+1) / 2)).set (w ^^^ 1) (((PA i).set w ((PA i)[w]+(X[i]+1) / 2))[w ^^^ 1]+X[i] / 2)
  af:isum (FI len)=isum X
  ap:isum (PA len)=isum X
  tw:∀ r (h:r+1 < kn),r % 2=0→(FI len)[r+1]'(by rw [fl];exact h)+(FI len)[r]'(by rw [fl];omega)=(PA len)[r+1]'(by rw [pl];exact h)+(PA len)[r]'(by rw [pl];omega)
theorem td_of {f:Fns} (hf:f.ok) {T:List Deed} (h:f.Tru T) {kn:Nat} (hn:f.n=(kn:Int)):TD kn f.li.length (T.map Deed.ri) (f.exa T) (fIN f kn T) (pIN f kn T):=by
  have hk:kn=2∨kn=4∨kn=6:=by have:=hf.n;omega
  have hT5:T.length≤5:=by rw [h.ln];exact hf.li
  have hX:∀ i (h:i < (f.exa T).length) (h':i < T.length),(f.exa T)[i]=f.cin T T[i]:=fun i h h'=>by simp [Fns.exa]
  refine ⟨by rw [List.length_map,h.ln],by unfold Fns.exa;rw [List.length_map,h.ln],fun i hi=>?_,fun i=>sumR_len _ _ _,fun i=>sumR_len _ _ _,sumR_zero _ _,sumR_zero _ _,fun i r hr=>fIN_bd hf hT5 hr,fun i r hr=>pIN_bd hf hT5 hr,fun i a b=>?_,?_,?_,fun r hr hr2=>?_⟩
  · rw [hX i hi (by unfold Fns.exa at hi; simpa using hi)]
    exact cin_bd hf T _
  · have hi : i < T.length := by simpa using a
    have hd:=tru_ri h T[i] (List.getElem_mem hi)
    obtain ⟨w,hw⟩:∃ w:Nat,T[i].ri=(w:Int):=⟨T[i].ri.toNat,by omega⟩
    have hwk:w < kn:=by omega
    obtain ⟨x1,x2,x3⟩:=xor_part w (by omega)
    have hxk:w ^^^ 1 < kn:=by omega
    have e1:=fin_step (k:=kn) (c:=f.cin T) (T:=T.take i) (d:=T[i]) hwk hw
    obtain ⟨p1,p2,e2⟩:=pay_step (k:=kn) (c:=f.cin T) (T:=T.take i) (d:=T[i]) hk hwk hw
    rw [← List.take_succ_eq_append_getElem hi] at e1 e2
    rw [← hX i b hi] at e1
    refine ⟨w,by rw [List.getElem_map];exact hw,hwk,hxk,by unfold fIN;rw [sumR_len];exact hwk,by unfold pIN;rw [sumR_len];exact hwk,by rw [List.length_set];unfold pIN;rw [sumR_len];exact hxk,e1,?_⟩
    simp only [← hX i b hi] at e2
    exact e2
  · have := (all_fined h hn hk).1
    rw [h.ln] at this
    exact this
  · have := (all_fined h hn hk).2
    rw [h.ln] at this
    exact this
  · have e1 := two_paid f T ((r : Nat) : Int)
    have hp:part ((r:Nat):Int)=((r+1:Nat):Int):=by unfold part;rw [if_pos (by omega)];omega
    rw [hp] at e1
    have g1:∀ (q:Nat) (hq:q < (fIN f kn T f.li.length).length),(fIN f kn T f.li.length)[q]=f.val (gF (q:Int)) T:=fun q hq=>by
      have:=fIN_end f kn T (r:=q) (by rw [h.ln];exact hq)
      simp only [h.ln] at this
      exact this
    have g2:∀ (q:Nat) (hq:q < (pIN f kn T f.li.length).length),(pIN f kn T f.li.length)[q]=f.val (gP (q:Int)) T:=fun q hq=>by
      have:=pIN_end f kn T (r:=q) (by rw [h.ln];exact hq)
      simp only [h.ln] at this
      exact this
    rw [g1,g1,g2,g2]
    omega
end Go.Pv
namespace Go.Pv
open Go.Proofs Go.Am
set_option maxRecDepth 10000
set_option maxHeartbeats 4000000
section
variable (f:Fns) {t1 t2:Tail} (h1:t1.isOwn=false) (h2:t2.isOwn=false)
include h1 h2
theorem f5a (hS:f.ru.length≤9223372036854775807) (hJ:f.li.length≤9223372036854775807) (p:PV) (bh:Bool) (hh:Fn P0 11 [f.v t1 t2,I 20000,.sl .ex []] (B bh)) (hv:bh=true∨f.B=false):Fn P0 5 [f.v t1 t2,p] (B true):=by
  have hfi:=f26 f h1 h2 hS hJ
  have hb:PV.bds 0 [f.v t1 t2,I 20000,.sl .ex []]=true:=bd_fnsV f h1 h2 rfl
  have hb0:PV.bds 0 [f.v t1 t2]=true:=bd_fnsV f h1 h2 rfl
  generalize f.B=y at *
  refine PFun.of (C:=c5) (cx_ok _ _ _) rfl (fn:=Tryz.f5) (by kernel_rfl) (c:=_) rfl rfl rfl ?_
  refine Run.seq (Run.region (cx_ok _ _ _) (Reg.op rfl (Ope.boxF rfl rfl ?_)))
  refine Reg.op rfl (Ope.asg rfl ?_)
  refine Reg.nil (Run.seq (Run.seq (Run.region (cx_ok _ _ _) (Reg.op rfl (Ope.load rfl rfl ?_)))))
  refine Reg.op rfl (Ope.cf rfl rfl hh hb ?_)
  refine Reg.op rfl (Ope.mov rfl ?_)
  refine Reg.splitX rfl rfl (fun hg=>?_) fun hg=>?_
  ·refine Reg.off rfl rfl rfl (Reg.off rfl rfl rfl (Reg.off rfl rfl rfl (Reg.op rfl (Ope.pickT rfl rfl ?_))))
   refine Reg.nil (Run.condT rfl (Run.seq (Run.region (cx_ok _ _ _) (Reg.op rfl (Ope.cf rfl rfl (aliveF) rfl ?_)))))
   refine Reg.op rfl (Ope.asg rfl ?_)
   exact Reg.nil (Run.ret (Jmp.code (fin_ret (.tmp rfl .nil) rfl rfl)))
  ·refine Reg.on rfl rfl rfl (Ope.load rfl rfl ?_)
   refine Reg.on rfl rfl rfl (Ope.cf rfl rfl hfi hb0 ?_)
   refine Reg.on rfl rfl rfl (Ope.not rfl ?_)
   refine Reg.op rfl (Ope.pickF rfl rfl ?_)
   refine Reg.nil (Run.condX rfl (fun hc=>?_) fun hc=>?_)
   ·refine Run.seq (Run.region (cx_ok _ _ _) (Reg.op rfl (Ope.cf rfl rfl (aliveF) rfl ?_)))
    refine Reg.op rfl (Ope.asg rfl ?_)
    exact Reg.nil (Run.ret (Jmp.code (fin_ret (.tmp rfl .nil) rfl rfl)))
   ·(exfalso;simp_all;done)
theorem f5v (hf : f.ok) (hh : Fn P0 11 [f.v t1 t2, I 20000, .sl .ex []] (B false)) (tb : Tail) (xs : List Nat) (hx : ∀ x ∈ xs, x < 65536) : Fn P0 5 [f.v t1 t2, .sl tb (xs.map U16)] (B true) := by
  have hl5:=hf.li
  have hr4:=hf.ru
  have hS:f.ru.length≤9223372036854775807:=by omega
  have hJ:f.li.length≤9223372036854775807:=by omega
  have hv:=fns_B f hf
  have hfi:=f26 f h1 h2 hS hJ
  rw [hv] at hfi
  have hb:PV.bds 0 [f.v t1 t2,I 20000,.sl .ex []]=true:=bd_fnsV f h1 h2 rfl
  have hb0:PV.bds 0 [f.v t1 t2]=true:=bd_fnsV f h1 h2 rfl
  have hb1:∀ i:Nat,PV.bds 0 [f.v t1 t2,N i]=true:=fun i=>bd_fnsV f h1 h2 rfl
  have hb2:∀ ri ho:List Int,PV.bds 0 [f.v t1 t2,.sl .no (ri.map I),.sl .no (ho.map I)]=true:=fun ri ho=>bd_fnsV f h1 h2 (bds_cons (bd_sl (f:=I) (tl:=.no) rfl (fun _=>rfl) _) (bds_cons (bd_sl (f:=I) (tl:=.no) rfl (fun _=>rfl) _) rfl))
  obtain ⟨kn,hkn,hk3⟩:∃ k:Nat,f.n=(k:Int)∧(k=2∨k=4∨k=6):=⟨f.n.toNat,by have:=hf.n;omega,by have:=hf.n;omega⟩
  have hdr:=fun (n l)=>f28 tb xs n l
  have htr:=fun n0 hn0=>f27 f h1 h2 hf tb xs hx n0 hn0
  have hall:∀ T,f.Tru T→∃ (RI HO X:List Int) (FI PA:Nat→List Int) (t3:Tail),T.map Deed.ri=RI∧T.map Deed.ho=HO∧TD kn f.li.length RI X FI PA∧Fn P0 21 [f.v t1 t2,.sl .no (RI.map I),.sl .no (HO.map I)] (.tup [.sl t3 (X.map I),I 0]) ∧
      (∀ i (h:i < X.length),∃ a b:Int,Fn P0 13 [f.v t1 t2,N i] (.tup [.agg [I a,I b],I 0])∧a≤X[i]∧X[i]≤b) ∧
      (∀ r (h:r < kn) (hr:r < (FI f.li.length).length),∃ a b:Int,Fn P0 15 [f.v t1 t2,N r] (.tup [.agg [I a,I b],I 0])∧a≤(FI f.li.length)[r]∧(FI f.li.length)[r]≤b) ∧
      (∀ r (h:r < kn) (hr:r < (PA f.li.length).length),∃ a b:Int,Fn P0 17 [f.v t1 t2,N r] (.tup [.agg [I a,I b],I 0])∧a≤(PA f.li.length)[r]∧(PA f.li.length)[r]≤b) ∧
      ∃ a b:Int,Fn P0 19 [f.v t1 t2] (.tup [.agg [I a,I b],I 0])∧a≤isum X∧isum X≤b:=fun T hT=>by
    obtain ⟨t3,ht3,hex⟩:=f21 f h1 h2 hS hJ .no .no rfl rfl (T.map Deed.ri) (T.map Deed.ho)
    rw [kn_tru hf hT,tolL_ok hv,dl_tru hT] at hex
    have hXa:∀ i (h:i < (f.exa T).length) (h':i < T.length),(f.exa T)[i]=f.cin T T[i]:=fun i h h'=>by simp [Fns.exa]
    have hXl:(f.exa T).length=T.length:=by simp [Fns.exa]
    refine ⟨_,_,f.exa T,fIN f kn T,pIN f kn T,t3,rfl,rfl,td_of hf hT hkn,hex,fun i h=>?_,fun r h hr=>?_,fun r h hr=>?_,?_⟩
    · have hi : i < T.length := by omega
      have hc:=f13 f h1 h2 hS hJ (i:Int)
      have hin:=hT.ln
      rw [show numB f.li.length (i:Int)=true from by unfold numB;rw [decide_eq_true (by omega),decide_eq_true (by omega)];rfl,tolS_ok hv,Int.toNat_natCast] at hc
      have ht:=tru_in hf hT (gC_ok (1 * 2 ^ i))
      rw [val_gC1 hT hi] at ht
      rw [hXa i h hi]
      exact ⟨_,_,hc,ht⟩
    · have hc := f15 f h1 h2 hS hJ (r : Int)
      rw [show numB f.n (r:Int)=true from by unfold numB;rw [decide_eq_true (by omega),decide_eq_true (by omega)];rfl,tolS_ok hv] at hc
      have ht:=tru_in hf hT (gF_ok (r:Int))
      have he:=fIN_end f kn T (r:=r) (by rw [hT.ln];exact hr)
      simp only [hT.ln] at he
      rw [← he] at ht
      exact ⟨_,_,hc,ht⟩
    · have hc := f17 f h1 h2 hS hJ (r : Int)
      rw [show numB f.n (r:Int)=true from by unfold numB;rw [decide_eq_true (by omega),decide_eq_true (by omega)];rfl,tolS_ok hv] at hc
      have ht:=tru_in hf hT (gP_ok (r:Int))
      have he:=pIN_end f kn T (r:=r) (by rw [hT.ln];exact hr)
      simp only [hT.ln] at he
      rw [← he] at ht
      exact ⟨_,_,hc,ht⟩
    · have hc := f19 f h1 h2 hS hJ
      rw [tolS_ok hv] at hc
      have ht:=tru_in hf hT (gC_ok (2 ^ f.li.length - 1))
      rw [val_gCall hT] at ht
      exact ⟨_,_,hc,ht⟩
  have hsu:∀ (X:List Int) i (h:i < X.length),isum (X.take (i+1))=isum (X.take i)+X[i]:=fun X i h=>by rw [List.take_succ_eq_append_getElem h,isum_snoc]
  have hsb:∀ (X:List Int) (m:Int) (n:Nat),0≤m→(∀ i (h:i < X.length),0≤X[i]∧X[i]≤m)→X.length≤n→∀ i,0≤isum (X.take i)∧isum (X.take i)≤m * n:=fun X m n hm h hn i=>isum_le hm (fun x hx=>by
    obtain ⟨j,hj,rfl⟩:=List.getElem_of_mem (List.mem_of_mem_take hx)
    exact h j hj) (by rw [List.length_take];omega)
  generalize f.Tru=TR at *
  obtain ⟨ru,n,li⟩:=f
  simp only at hkn
  subst hkn
  simp only at hl5 hr4 hall
  clear hf hx hv
  refine PFun.of (C:=c5) (cx_ok _ _ _) rfl (fn:=Tryz.f5) (by kernel_rfl) (c:=_) rfl rfl rfl ?_
  refine Run.seq (Run.region (cx_ok _ _ _) (Reg.op rfl (Ope.boxF rfl rfl ?_)))
  refine Reg.op rfl (Ope.asg rfl ?_)
  refine Reg.nil (Run.seq (Run.seq (Run.region (cx_ok _ _ _) (Reg.op rfl (Ope.load rfl rfl ?_)))))
  refine Reg.op rfl (Ope.cf rfl rfl hh hb ?_)
  refine Reg.op rfl (Ope.mov rfl ?_)
  refine Reg.on rfl rfl rfl (Ope.load rfl rfl ?_)
  refine Reg.on rfl rfl rfl (Ope.cf rfl rfl hfi hb0 ?_)
  refine Reg.on rfl rfl rfl (Ope.not rfl ?_)
  refine Reg.op rfl (Ope.pickF rfl rfl ?_)
  refine Reg.nil (Run.condF rfl (Run.skip (Run.seq (Run.draw (cx_ok _ _ _) [(0,false),(1,true),(2,true),(3,true),(4,true),(5,true),(6,true),(7,true),(8,true)] (by kernel_rfl) (Dra.op' rfl rfl rfl (.load rfl) (Ope.load rfl rfl ?_))))))
  refine Dra.op' rfl rfl rfl .sure (Ope.mov rfl ?_)
  refine Dra.op' rfl rfl rfl .sure (Ope.call rfl rfl rfl ((hdr _ _).mono (fun v h' q=>?_) fun _ _ q=>q.elim))
  obtain ⟨rfl,rfl⟩:=q
  refine Dra.op' rfl rfl rfl .sure (Ope.call rfl rfl rfl ((htr 1 (by decide)).mono (fun v h' q=>?_) fun _ _ q=>q.elim))
  obtain ⟨T,hT,rfl,n1,rfl⟩:=q
  obtain ⟨RI,HO,X,FI,PA,t3,e1,e2,hD,hex,hco,hfn,hpy,ta,tc,hto,hta,htc⟩:=hall T hT
  rw [e1,e2]
  clear hall htr e1 e2 hT
  have hXl:=hD.xl
  have hRl:=hD.rl
  refine Dra.op' rfl rfl rfl .sure (Ope.mov rfl ?_)
  refine Dra.op' rfl rfl rfl .sure (Ope.ext rfl rfl ?_)
  refine Dra.op' rfl rfl rfl .sure (Ope.ext rfl rfl ?_)
  refine Dra.op' rfl rfl rfl .sure (Ope.asg rfl ?_)
  refine Dra.op' rfl rfl rfl .sure (Ope.asg rfl ?_)
  refine Dra.nil (Run.seq (Run.region (cx_ok _ _ _) (Reg.op rfl (Ope.load rfl rfl ?_))))
  refine Reg.op rfl (Ope.mov rfl ?_)
  refine Reg.op rfl (Ope.mov rfl ?_)
  refine Reg.op rfl (Ope.cf rfl rfl hex (hb2 _ _) ?_)
  refine Reg.op rfl (Ope.mov rfl ?_)
  refine Reg.op rfl (Ope.ext rfl rfl ?_)
  refine Reg.op rfl (Ope.ext rfl rfl ?_)
  refine Reg.op rfl (Ope.asg rfl ?_)
  refine Reg.op rfl (Ope.asg rfl ?_)
  refine Reg.nil (Run.seq (Run.seq (Run.region (cx_ok _ _ _) (Reg.op rfl (Ope.mov rfl ?_)))))
  refine Reg.op rfl (Ope.ne rfl rfl ?_)
  refine Reg.op rfl (Ope.mov rfl ?_)
  refine Reg.splitX rfl rfl (fun hg=>?_) fun hg=>?_
  ·(first | (exfalso;omega) | exact absurd rfl hg | (exact absurd hg (by decide)))
  ·refine Reg.on rfl rfl rfl (Ope.mov rfl ?_)
   refine Reg.on rfl rfl rfl (Ope.len (m:=X.length) rfl (by simp) ?_)
   refine Reg.on rfl rfl rfl (Ope.fld rfl rfl ?_)
   refine Reg.on rfl rfl rfl (Ope.load rfl rfl ?_)
   refine Reg.on rfl rfl rfl (Ope.len (m:=li.length) rfl (by simp) ?_)
   refine Reg.on rfl rfl rfl (Ope.ne rfl rfl ?_)
   refine Reg.op rfl (Ope.pickF rfl rfl ?_)
   refine Reg.nil (Run.condX rfl (fun hc=>?_) fun hc=>?_)
   ·(first | (exfalso;omega) | exact absurd rfl hc | (exact absurd hc (by decide)))
   ·refine Run.skip (Run.seq (Run.region (cx_ok _ _ _) (Reg.op rfl (Ope.asg rfl ?_))))
    refine Reg.nil (Run.seq (Run.drawL (cx_ok _ _ _) [[(0,true),(1,true),(3,true),(4,false),(2,true),(6,true),(5,true),(7,true)],[(0,true),(1,false),(3,true),(4,true),(5,true),(2,true),(6,true),(7,true)]] (by kernel_rfl) ⟨?_,?_,trivial⟩))
    ·refine Dra.op' rfl rfl rfl .sure (Ope.fld rfl rfl ?_)
     refine Dra.op' rfl rfl rfl .sure (Ope.load rfl rfl ?_)
     refine Dra.op' rfl rfl rfl .sure (Ope.fld rfl rfl ?_)
     refine Dra.op' rfl rfl rfl (.load rfl) (Ope.load rfl rfl ?_)
     refine Dra.op' rfl rfl rfl .sure (Ope.mks (m:=kn) (c:=kn) rfl rfl rfl rfl (Nat.le_refl _) (by omega) (by omega) (fun ez=>?_))
     refine Dra.op' rfl rfl rfl .sure (Ope.asg rfl ?_)
     refine Dra.op' rfl rfl rfl .sure (Ope.mks (m:=kn) (c:=kn) rfl rfl rfl rfl (Nat.le_refl _) (by omega) (by omega) (fun ez'=>?_))
     refine Dra.op' rfl rfl rfl .sure (Ope.asg rfl ?_)
     refine Dra.nil (Run.seq (Run.seq (Run.region (cx_ok _ _ _) (Reg.op rfl (Ope.mov rfl ?_)))))
     refine Reg.op rfl (Ope.len (m:=X.length) rfl (by simp) ?_)
     refine Reg.op rfl (Ope.mov rfl ?_)
     refine Reg.nil (Run.block ?_)
     have hR0:(List.replicate kn (I 0):List PV)=(FI 0).map I:=by rw [hD.f0,List.map_replicate]
     have hR1:(List.replicate kn (I 0):List PV)=(PA 0).map I:=by rw [hD.p0,List.map_replicate]
     first
       | (obtain ⟨a, b, hea, heb, hab⟩ : ∃ a b : Nat, n1 = a ∧ n1 + 1 = b ∧ a ≠ b := ⟨_, _, rfl, rfl, by omega⟩
          rw [heb,hea]
          refine Run.wide (m:=a+b+2) (l':=[(b,some (.cells ((PA 0).map I))),(a,some (.cells ((FI 0).map I)))]) (by omega) ⟨by rw [← hR1];repeat (first | exact hget_hd | refine (hget_tl (by omega)).trans ?_),by rw [← hR0];repeat (first | exact hget_hd | refine (hget_tl (by omega)).trans ?_),trivial⟩ ?_
          refine Run.loop (α:=Nat×Nat) (fun t=>[(2,.fp ((⟨ru,(kn:Int),li⟩:Fns).v t1 t2)),(5,.sl .no (RI.map I)),(9,I (isum (X.take t.1))),(10,.ms a 0 kn kn ez),(11,.ms (b) 0 kn kn ez'),(64,.sl t3 (X.map I)),(65,I X.length),(66,I t.1)]) (fun t=>HE t.2 [(b,some (.cells ((PA t.1).map I))),(a,some (.cells ((FI t.1).map I)))]) (fun t=>t.1≤X.length∧a+b+2≤t.2) (fun t=>X.length - t.1) (0,a+b+2) ⟨rfl,rfl,rfl,rfl,rfl,rfl,rfl,rfl,trivial⟩ rfl ⟨Nat.zero_le _,Nat.le_refl _⟩ (fun t ht=>?_))
       | (obtain ⟨a, b, hea, heb, hab⟩ : ∃ a b : Nat, n1 + 1 = a ∧ n1 = b ∧ a ≠ b := ⟨_, _, rfl, rfl, by omega⟩
          rw [hea,heb]
          refine Run.wide (m:=a+b+2) (l':=[(b,some (.cells ((PA 0).map I))),(a,some (.cells ((FI 0).map I)))]) (by omega) ⟨by rw [← hR1];repeat (first | exact hget_hd | refine (hget_tl (by omega)).trans ?_),by rw [← hR0];repeat (first | exact hget_hd | refine (hget_tl (by omega)).trans ?_),trivial⟩ ?_
          refine Run.loop (α:=Nat×Nat) (fun t=>[(2,.fp ((⟨ru,(kn:Int),li⟩:Fns).v t1 t2)),(5,.sl .no (RI.map I)),(9,I (isum (X.take t.1))),(10,.ms a 0 kn kn ez),(11,.ms (b) 0 kn kn ez'),(64,.sl t3 (X.map I)),(65,I X.length),(66,I t.1)]) (fun t=>HE t.2 [(b,some (.cells ((PA t.1).map I))),(a,some (.cells ((FI t.1).map I)))]) (fun t=>t.1≤X.length∧a+b+2≤t.2) (fun t=>X.length - t.1) (0,a+b+2) ⟨rfl,rfl,rfl,rfl,rfl,rfl,rfl,rfl,trivial⟩ rfl ⟨Nat.zero_le _,Nat.le_refl _⟩ (fun t ht=>?_))
     obtain ⟨i,m⟩:=t
     obtain ⟨hi,hm⟩:=ht
     simp only at hi hm
     show Run _ _ _ _ [(2,.fp ((⟨ru,(kn:Int),li⟩:Fns).v t1 t2)),(5,.sl .no (RI.map I)),(9,I (isum (X.take i))),(10,.ms a 0 kn kn ez),(11,.ms (b) 0 kn kn ez'),(64,.sl t3 (X.map I)),(65,I X.length),(66,I i)] [] (HE m [(b,some (.cells ((PA i).map I))),(a,some (.cells ((FI i).map I)))])
     refine Run.seq (Run.region (cx_ok _ _ _) (Reg.op rfl (Ope.lt rfl rfl ?_)))
     refine Reg.nil (Run.seq (Run.condX rfl (fun hc=>?_) fun hc=>?_))
     ·refine Run.skip (Run.seq (Run.block (Run.seq ?_)))
      have hlt:i < X.length:=by omega
      have hltR:i < RI.length:=by omega
      obtain ⟨ca,cb,hcc,hca,hcb⟩:=hco i hlt
      have hXb:=hD.xb i hlt
      have hbi:=hb1 i
      obtain ⟨w,hw,hwk,hxk,ha,hb',hc',hF,hP⟩:=hD.st i hltR hlt
      have hFb:=hD.fb i w ha
      have hPb:=hD.pb i w hb'
      have hPb2:=hD.pb i (w ^^^ 1) (by rw [hD.pl];exact hxk)
      have hPx:((PA i).set w ((PA i)[w]+(X[i]+1) / 2))[w ^^^ 1]=(PA i)[w ^^^ 1]'(by rw [hD.pl];exact hxk):=by
        rw [List.getElem_set,if_neg (Ne.symm (xor_part w (by omega)).2.1)]
      have hSb:=hsb X 1000 5 (by decide) hD.xb (by omega) i
      have hSs:=hsu X i hlt
      have hfl:=hD.fl i
      have hpl:=hD.pl i
      obtain ⟨x,hxe⟩:∃ x:Nat,X[i]=(x:Int):=⟨X[i].toNat,by omega⟩
      have hx2:((x+1) / 2:Nat)=(X[i]+1) / 2:=by omega
      have hx3:((x / 2:Nat):Int)=X[i] / 2:=by omega
      have hins:=f29 X[i] ca cb ⟨hca,hcb⟩
      refine Run.region (cx_ok _ _ _) (Reg.op rfl (Ope.mov rfl ?_))
      refine Reg.op rfl (Ope.idxM (m:=i) (f:=I) rfl rfl rfl hlt (fun _=>rfl) ?_)
      refine Reg.op rfl (Ope.load rfl rfl ?_)
      refine Reg.op rfl (Ope.asg rfl ?_)
      refine Reg.op rfl (Ope.asg rfl ?_)
      refine Reg.nil (Run.seq (Run.region (cx_ok _ _ _) (Reg.op rfl (Ope.load rfl rfl ?_))))
      refine Reg.op rfl (Ope.mov rfl ?_)
      refine Reg.op rfl (Ope.cf rfl rfl hcc hbi ?_)
      refine Reg.op rfl (Ope.mov rfl ?_)
      refine Reg.op rfl (Ope.ext rfl rfl ?_)
      refine Reg.op rfl (Ope.ext rfl rfl ?_)
      refine Reg.op rfl (Ope.newL rfl ?_)
      refine Reg.op0 (Ope.store rfl rfl hget_hd rfl rfl rfl ?_)
      refine Reg.op rfl (Ope.asg rfl ?_)
      refine Reg.nil (Run.seq (Run.seq (Run.frz (d:=14) true rfl hget_hd rfl ?_)))
      refine Run.wide (m:=m+1) (l':=[(b,some (.cells ((PA i).map I))),(a,some (.cells ((FI i).map I)))]) (Nat.le_refl _) ⟨by repeat (first | exact hget_hd | refine (hget_tl (by omega)).trans ?_),by repeat (first | exact hget_hd | refine (hget_tl (by omega)).trans ?_),trivial⟩ ?_
      refine Run.region (cx_ok _ _ _) (Reg.op rfl (Ope.mov rfl ?_))
      refine Reg.op rfl (Ope.lt rfl rfl ?_)
      refine Reg.op rfl (Ope.mov rfl ?_)
      refine Reg.splitX rfl rfl (fun hg=>?_) fun hg=>?_
      ·(first | (exfalso;omega) | exact absurd rfl hg | (exact absurd hg (by decide)))
      ·refine Reg.on rfl rfl rfl (Ope.mov rfl ?_)
       refine Reg.on rfl rfl rfl (Ope.ne rfl rfl ?_)
       refine Reg.op rfl (Ope.pickF rfl rfl ?_)
       refine Reg.op rfl (Ope.mov rfl ?_)
       refine Reg.splitX rfl rfl (fun hg=>?_) fun hg=>?_
       ·(first | (exfalso;omega) | exact absurd rfl hg | (exact absurd hg (by decide)))
       ·refine Reg.on rfl rfl rfl (Ope.mov rfl ?_)
        refine Reg.on rfl rfl rfl (Ope.load rfl rfl ?_)
        refine Reg.on rfl rfl rfl (Ope.cf rfl rfl (hins) rfl ?_)
        refine Reg.on rfl rfl rfl (Ope.not rfl ?_)
        refine Reg.op rfl (Ope.pickF rfl rfl ?_)
        refine Reg.nil (Run.condX rfl (fun hc=>?_) fun hc=>?_)
        ·(first | (exfalso;omega) | exact absurd rfl hc | (exact absurd hc (by decide)))
        ·refine Run.skip (Run.seq (Run.region (cx_ok _ _ _) (Reg.op rfl (Ope.mov rfl ?_))))
         refine Reg.op rfl (Ope.mov rfl ?_)
         refine Reg.op rfl (Ope.idxM (m:=i) (f:=I) rfl rfl rfl hltR (fun _=>rfl) ?_)
         refine Reg.op rfl (Ope.load rfl rfl ?_)
         refine Reg.op rfl (Ope.asg rfl ?_)
         refine Reg.nil (Run.seq (Run.region (cx_ok _ _ _) (Reg.op rfl (Ope.mov rfl ?_))))
         refine Reg.op rfl (Ope.mov rfl ?_)
         refine Reg.op rfl (Ope.add rfl rfl (by omega) ?_)
         refine Reg.op rfl (Ope.asg rfl ?_)
         refine Reg.nil (Run.seq (Run.region (cx_ok _ _ _) (Reg.op rfl (Ope.mov rfl ?_))))
         refine Reg.op rfl (Ope.mov rfl ?_)
         refine Reg.op rfl (Ope.idxL (m:=w) rfl rfl (by rw [hw];rfl) hwk ?_)
         refine Reg.op rfl (Ope.load rfl (ldA ((hget_tl (by omega)).trans hget_hd) ha) ?_)
         refine Reg.op rfl (Ope.mov rfl ?_)
         refine Reg.op rfl (Ope.add rfl rfl (by omega) ?_)
         refine Reg.op rfl (Ope.idxL (m:=w) rfl rfl (by rw [hw];rfl) hwk ?_)
         refine Reg.op0 (Ope.storeP rfl rfl ((hget_tl (by omega)).trans hget_hd) rfl rfl (by rw [List.length_map,hfl];show 0+w * 1+1≤kn;omega) ?_)
         refine Reg.nil (Run.seq (Run.wide (m:=m+1) (l':=[(b,some (.cells ((PA i).map I))),(a,some (.cells ((FI (i+1)).map I)))]) (Nat.le_refl _) ⟨(hget_tl (by omega)).trans hget_hd,by rw [hF,← putAs ha];exact hget_hd,trivial⟩ ?_))
         refine Run.region (cx_ok _ _ _) (Reg.op rfl (Ope.mov rfl ?_))
         refine Reg.op rfl (Ope.mov rfl ?_)
         refine Reg.op rfl (Ope.idxL (m:=w) rfl rfl (by rw [hw];rfl) hwk ?_)
         refine Reg.op rfl (Ope.load rfl (ldA hget_hd hb') ?_)
         refine Reg.op rfl (Ope.mov rfl ?_)
         refine Reg.op rfl (Ope.add rfl rfl (by omega) ?_)
         refine Reg.op rfl (Ope.quoN (p:=x+1) (q:=2) rfl rfl (by omega) rfl (by decide) (by show x+1 < 2 ^ 63;omega) ?_)
         refine Reg.op rfl (Ope.add rfl rfl (by omega) ?_)
         rw [hx2]
         refine Reg.op rfl (Ope.idxL (m:=w) rfl rfl (by rw [hw];rfl) hwk ?_)
         refine Reg.op0 (Ope.storeP rfl rfl hget_hd rfl rfl (by rw [List.length_map,hpl];show 0+w * 1+1≤kn;omega) ?_)
         refine Reg.nil (Run.wide (m:=m+1) (l':=[(b,some (.cells (((PA i).set w ((PA i)[w]+(X[i]+1) / 2)).map I))),(a,some (.cells ((FI (i+1)).map I)))]) (Nat.le_refl _) ⟨by rw [← putAs hb'];exact hget_hd,(hget_tl (by omega)).trans ((hget_tl (by omega)).trans hget_hd),trivial⟩ ?_)
         refine Run.region (cx_ok _ _ _) (Reg.op rfl (Ope.mov rfl ?_))
         refine Reg.op rfl (Ope.mov rfl ?_)
         refine Reg.op rfl (Ope.xorN (p:=w) (q:=1) rfl rfl hw rfl (by show w < 2 ^ 63;omega) (by decide) ?_)
         refine Reg.op rfl (Ope.idxL (m:=w ^^^ 1) rfl rfl rfl hxk ?_)
         refine Reg.op rfl (Ope.load rfl (ldA hget_hd hc') ?_)
         refine Reg.op rfl (Ope.mov rfl ?_)
         refine Reg.op rfl (Ope.quoN (p:=x) (q:=2) rfl rfl hxe rfl (by decide) (by show x < 2 ^ 63;omega) ?_)
         refine Reg.op rfl (Ope.add rfl rfl (by rw [hPx];omega) ?_)
         rw [hx3]
         refine Reg.op rfl (Ope.idxL (m:=w ^^^ 1) rfl rfl rfl hxk ?_)
         refine Reg.op0 (Ope.storeP rfl rfl hget_hd rfl rfl (by rw [List.length_map,List.length_set,hpl];show 0+(w ^^^ 1) * 1+1≤kn;omega) ?_)
         refine Reg.nil (Run.bend (Run.wide (m:=m+1) (l':=[(b,some (.cells ((PA (i+1)).map I))),(a,some (.cells ((FI (i+1)).map I)))]) (Nat.le_refl _) ⟨by rw [hP,← putAs hc'];exact hget_hd,(hget_tl (by omega)).trans ((hget_tl (by omega)).trans hget_hd),trivial⟩ ?_))
         refine Run.region (cx_ok _ _ _) (Reg.op rfl (Ope.add rfl rfl (by omega) ?_))
         refine Reg.op rfl (Ope.mov rfl ?_)
         exact Reg.nil (Run.lend ⟨(i+1,m+1),by show X.length - (i+1) < X.length - i;omega,⟨by show i+1≤X.length;omega,by show a+b+2≤m+1;omega⟩,⟨rfl,rfl,by rw [hSs];rfl,rfl,rfl,rfl,rfl,rfl,trivial⟩,rfl,rfl⟩)
     ·refine Run.exit (Jmp.code (Jmp.round (Jmp.here (Run.seq ?_))))
      obtain rfl:i=X.length:=by omega
      rw [List.take_length]
      have hfl:=hD.fl X.length
      have hpl:=hD.pl X.length
      have haf:=hD.af
      have hap:=hD.ap
      have htw:=hD.tw
      have hfb:=fun r h=>hD.fb X.length r h
      have hpb:=fun r h=>hD.pb X.length r h
      rw [← hXl] at haf hap hfn hpy
      simp only [← hXl] at htw
      have hSX:=hsb X 1000 5 (by decide) hD.xb (by omega) X.length
      rw [List.take_length] at hSX
      have htw2:∀ r (g1:r+1 < (FI X.length).length) (g2:r < (FI X.length).length) (g3:r+1 < (PA X.length).length) (g4:r < (PA X.length).length),r % 2=0→(FI X.length)[r+1]+(FI X.length)[r]=(PA X.length)[r+1]+(PA X.length)[r]:=fun r g1 g2 g3 g4 h=>htw r (by omega) h
      clear htw hD
      generalize hFE:FI X.length=FE at *
      generalize hPE:PA X.length=PE at *
      refine Run.region (cx_ok _ _ _) (Reg.op rfl (Ope.asg rfl ?_))
      refine Reg.op rfl (Ope.asg rfl ?_)
      refine Reg.nil (Run.seq (Run.seq (Run.region (cx_ok _ _ _) (Reg.op rfl (Ope.fld rfl rfl ?_)))))
      refine Reg.op rfl (Ope.load rfl rfl ?_)
      refine Reg.op rfl (Ope.mov rfl ?_)
      refine Reg.nil (Run.block (Run.loop (α:=Nat×Nat) (fun t=>[(2,.fp ((⟨ru,(kn:Int),li⟩:Fns).v t1 t2)),(9,I (isum X)),(10,.ms a 0 kn kn ez),(11,.ms (b) 0 kn kn ez'),(17,I (isum (FE.take t.1))),(18,I (isum (PE.take t.1))),(123,I kn),(124,I t.1)]) (fun t=>HE t.2 [(b,some (.cells (PE.map I))),(a,some (.cells (FE.map I)))]) (fun t=>t.1≤kn∧a+b+2≤t.2) (fun t=>kn - t.1) (0,m) ⟨rfl,rfl,rfl,rfl,rfl,rfl,rfl,rfl,trivial⟩ rfl ⟨Nat.zero_le _,hm⟩ (fun t ht=>?_)))
      obtain ⟨r,m2⟩:=t
      obtain ⟨hr,hm2⟩:=ht
      simp only at hr hm2
      show Run _ _ _ _ [(2,.fp ((⟨ru,(kn:Int),li⟩:Fns).v t1 t2)),(9,I (isum X)),(10,.ms a 0 kn kn ez),(11,.ms (b) 0 kn kn ez'),(17,I (isum (FE.take r))),(18,I (isum (PE.take r))),(123,I kn),(124,I r)] [] (HE m2 [(b,some (.cells (PE.map I))),(a,some (.cells (FE.map I)))])
      refine Run.seq (Run.region (cx_ok _ _ _) (Reg.op rfl (Ope.lt rfl rfl ?_)))
      refine Reg.nil (Run.seq (Run.condX rfl (fun hc=>?_) fun hc=>?_))
      ·refine Run.skip (Run.seq (Run.block (Run.seq ?_)))
       have hrk:r < kn:=by omega
       have hrF:r < FE.length:=by omega
       have hrP:r < PE.length:=by omega
       obtain ⟨fa,fb,hff,hfa,hfb'⟩:=hfn r hrk hrF
       obtain ⟨pa,pb,hpp,hpa,hpb'⟩:=hpy r hrk hrP
       have hbr:=hb1 r
       have hi1:=f29 FE[r] fa fb ⟨hfa,hfb'⟩
       have hi2:=f29 PE[r] pa pb ⟨hpa,hpb'⟩
       have hs1:=hsu FE r hrF
       have hs2:=hsu PE r hrP
       have hq1:=hsb FE 5005 6 (by decide) hfb (by omega) r
       have hq2:=hsb PE 5005 6 (by decide) hpb (by omega) r
       have hq3:=hfb r hrF
       have hq4:=hpb r hrP
       refine Run.region (cx_ok _ _ _) (Reg.op rfl (Ope.mov rfl ?_))
       refine Reg.op rfl (Ope.asg rfl ?_)
       refine Reg.nil (Run.seq (Run.region (cx_ok _ _ _) (Reg.op rfl (Ope.load rfl rfl ?_))))
       refine Reg.op rfl (Ope.mov rfl ?_)
       refine Reg.op rfl (Ope.cf rfl rfl hff hbr ?_)
       refine Reg.op rfl (Ope.mov rfl ?_)
       refine Reg.op rfl (Ope.ext rfl rfl ?_)
       refine Reg.op rfl (Ope.ext rfl rfl ?_)
       refine Reg.op rfl (Ope.newL rfl ?_)
       refine Reg.op0 (Ope.store rfl rfl hget_hd rfl rfl rfl ?_)
       refine Reg.op rfl (Ope.asg rfl ?_)
       refine Reg.nil (Run.seq (Run.frz (d:=20) true rfl hget_hd rfl ?_))
       refine Run.wide (m:=m2+1) (l':=[(b,some (.cells (PE.map I))),(a,some (.cells (FE.map I)))]) (Nat.le_refl _) ⟨by repeat (first | exact hget_hd | refine (hget_tl (by omega)).trans ?_),by repeat (first | exact hget_hd | refine (hget_tl (by omega)).trans ?_),trivial⟩ ?_
       refine Run.region (cx_ok _ _ _) (Reg.op rfl (Ope.load rfl rfl ?_))
       refine Reg.op rfl (Ope.mov rfl ?_)
       refine Reg.op rfl (Ope.cf rfl rfl hpp hbr ?_)
       refine Reg.op rfl (Ope.mov rfl ?_)
       refine Reg.op rfl (Ope.ext rfl rfl ?_)
       refine Reg.op rfl (Ope.ext rfl rfl ?_)
       refine Reg.op rfl (Ope.newL rfl ?_)
       refine Reg.op0 (Ope.store rfl rfl hget_hd rfl rfl rfl ?_)
       refine Reg.op rfl (Ope.asg rfl ?_)
       refine Reg.nil (Run.seq (Run.seq (Run.frz (d:=22) true rfl hget_hd rfl ?_)))
       refine Run.wide (m:=m2+1+1) (l':=[(b,some (.cells (PE.map I))),(a,some (.cells (FE.map I)))]) (Nat.le_refl _) ⟨by repeat (first | exact hget_hd | refine (hget_tl (by omega)).trans ?_),by repeat (first | exact hget_hd | refine (hget_tl (by omega)).trans ?_),trivial⟩ ?_
       refine Run.draw (cx_ok _ _ _) [(0,true),(1,true),(2,true),(3,true),(4,true),(5,true),(6,true),(7,true),(8,true),(9,true),(10,true),(11,true),(12,true),(13,true),(14,true),(15,true),(16,true),(17,true),(18,true),(19,true),(20,true),(21,true),(22,true),(23,true)] (by kernel_rfl) (Dra.op' rfl rfl rfl .sure (Ope.mov rfl ?_))
       refine Dra.op' rfl rfl rfl .sure (Ope.ne rfl rfl ?_)
       refine Dra.op' rfl rfl rfl .sure (Ope.mov rfl ?_)
       refine Dra.splitX rfl rfl rfl rfl (fun hg=>?_) fun hg=>?_
       ·(first | (exfalso;omega) | exact absurd rfl hg | (exact absurd hg (by decide)))
       ·refine Dra.on' rfl rfl rfl rfl rfl .sure (Ope.mov rfl ?_)
        refine Dra.on' rfl rfl rfl rfl rfl .sure (Ope.mov rfl ?_)
        refine Dra.on' rfl rfl rfl rfl rfl .sure (Ope.idxL (m:=r) rfl rfl rfl hrk ?_)
        refine Dra.on' rfl rfl rfl rfl rfl .sure (Ope.load rfl (ldA ((hget_tl (by omega)).trans hget_hd) hrF) ?_)
        refine Dra.on' rfl rfl rfl rfl rfl .sure (Ope.load rfl rfl ?_)
        refine Dra.on' rfl rfl rfl rfl rfl .sure (Ope.cf rfl rfl (hi1) rfl ?_)
        refine Dra.on' rfl rfl rfl rfl rfl .sure (Ope.not rfl ?_)
        refine Dra.op' rfl rfl rfl .sure (Ope.pickF rfl rfl ?_)
        refine Dra.op' rfl rfl rfl .sure (Ope.mov rfl ?_)
        refine Dra.splitX rfl rfl rfl rfl (fun hg=>?_) fun hg=>?_
        ·(first | (exfalso;omega) | exact absurd rfl hg | (exact absurd hg (by decide)))
        ·refine Dra.on' rfl rfl rfl rfl rfl .sure (Ope.mov rfl ?_)
         refine Dra.on' rfl rfl rfl rfl rfl .sure (Ope.ne rfl rfl ?_)
         refine Dra.op' rfl rfl rfl .sure (Ope.pickF rfl rfl ?_)
         refine Dra.op' rfl rfl rfl .sure (Ope.mov rfl ?_)
         refine Dra.splitX rfl rfl rfl rfl (fun hg=>?_) fun hg=>?_
         ·(first | (exfalso;omega) | exact absurd rfl hg | (exact absurd hg (by decide)))
         ·refine Dra.on' rfl rfl rfl rfl rfl .sure (Ope.mov rfl ?_)
          refine Dra.on' rfl rfl rfl rfl rfl .sure (Ope.mov rfl ?_)
          refine Dra.on' rfl rfl rfl rfl rfl .sure (Ope.idxL (m:=r) rfl rfl rfl hrk ?_)
          refine Dra.on' rfl rfl rfl rfl rfl .sure (Ope.load rfl (ldA hget_hd hrP) ?_)
          refine Dra.on' rfl rfl rfl rfl rfl .sure (Ope.load rfl rfl ?_)
          refine Dra.on' rfl rfl rfl rfl rfl .sure (Ope.cf rfl rfl (hi2) rfl ?_)
          refine Dra.on' rfl rfl rfl rfl rfl .sure (Ope.not rfl ?_)
          refine Dra.op' rfl rfl rfl .sure (Ope.pickF rfl rfl ?_)
          refine Dra.nil (Run.condX rfl (fun hc=>?_) fun hc=>?_)
          ·(first | (exfalso;omega) | exact absurd rfl hc | (exact absurd hc (by decide)))
          ·refine Run.skip (Run.seq (Run.drawS (cx_ok _ _ _) (fun h'=>h'.get (b)=some (.cells (PE.map I))) [(0,true,false),(1,true,false),(2,true,false),(3,true,false),(4,true,false),(5,true,false),(6,true,false),(7,true,false),(8,true,false),(9,true,false),(10,false,false),(11,true,false),(12,true,true),(13,true,false)] (by kernel_rfl) (DraS.opQ rfl rfl rfl (Ope.mov rfl ?_))))
           refine DraS.opQ rfl rfl rfl (Ope.mov rfl ?_)
           refine DraS.opQ rfl rfl rfl (Ope.mov rfl ?_)
           refine DraS.opQ rfl rfl rfl (Ope.idxL (m:=r) rfl rfl rfl hrk ?_)
           refine DraS.opQ rfl rfl rfl (Ope.load rfl (ldA ((hget_tl (by omega)).trans hget_hd) hrF) ?_)
           refine DraS.opQ rfl rfl rfl (Ope.add rfl rfl (by omega) ?_)
           refine DraS.opQ rfl rfl rfl (Ope.mov rfl ?_)
           refine DraS.opQ rfl rfl rfl (Ope.mov rfl ?_)
           refine DraS.opQ rfl rfl rfl (Ope.mov rfl ?_)
           refine DraS.opQ rfl rfl rfl (Ope.idxL (m:=r) rfl rfl rfl hrk ?_)
           refine DraS.opR rfl rfl rfl hget_hd (StabS.at rfl) (Ope.load rfl (ldA hget_hd hrP) ?_)
           refine DraS.opQ rfl rfl rfl (Ope.add rfl rfl (by omega) ?_)
           refine DraS.opS rfl rfl rfl (Ope.asg rfl ?_)
           refine ⟨hget_hd,?_⟩
           refine DraS.opQ rfl rfl rfl (Ope.asg rfl ?_)
           refine DraS.nil (Run.seq (Run.draw (cx_ok _ _ _) [(0,true),(1,true),(2,true),(3,true),(4,true),(5,true),(6,true),(7,true),(8,true),(9,true),(10,true),(11,true),(12,true),(13,true),(14,true),(15,true),(16,true),(17,true),(18,true),(19,true),(20,true),(21,true),(22,true),(23,true),(24,true),(25,true)] (by kernel_rfl) (Dra.op' rfl rfl rfl .sure (Ope.mov rfl ?_))))
           refine Dra.op' rfl rfl rfl .sure (Ope.remN (p:=r) (q:=2) rfl rfl rfl rfl (by decide) ?_)
           refine Dra.op' rfl rfl rfl .sure (Ope.eq rfl rfl ?_)
           refine Dra.op' rfl rfl rfl .sure (Ope.mov rfl ?_)
           refine Dra.splitX rfl rfl rfl rfl (fun hg=>?_) fun hg=>?_
           ·refine Dra.on' rfl rfl rfl rfl rfl .sure (Ope.mov rfl ?_)
            refine Dra.on' rfl rfl rfl rfl rfl .sure (Ope.mov rfl ?_)
            refine Dra.on' rfl rfl rfl rfl rfl .sure (Ope.idxL (m:=r) rfl rfl rfl hrk ?_)
            refine Dra.on' rfl rfl rfl rfl rfl .sure (Ope.load rfl (ldA ((hget_tl (by omega)).trans hget_hd) hrF) ?_)
            refine Dra.on' rfl rfl rfl rfl rfl .sure (Ope.mov rfl ?_)
            refine Dra.on' rfl rfl rfl rfl rfl .sure (Ope.mov rfl ?_)
            refine Dra.on' rfl rfl rfl rfl rfl .sure (Ope.sub rfl rfl (by omega) ?_)
            refine Dra.on' rfl rfl rfl rfl rfl .sure (Ope.idxL (m:=r - 1) rfl rfl (by rw [show ((r:Int) - 1)=((r - 1:Nat):Int) from by omega];rfl) (by omega) ?_)
            refine Dra.on' rfl rfl rfl rfl rfl .sure (Ope.load rfl (ldA ((hget_tl (by omega)).trans hget_hd) (show r - 1 < FE.length by omega)) ?_)
            refine Dra.on' rfl rfl rfl rfl rfl .sure (Ope.add rfl rfl (by have:=hfb (r - 1) (by omega);omega) ?_)
            refine Dra.on' rfl rfl rfl rfl rfl .sure (Ope.mov rfl ?_)
            refine Dra.on' rfl rfl rfl rfl rfl .sure (Ope.mov rfl ?_)
            refine Dra.on' rfl rfl rfl rfl rfl .sure (Ope.idxL (m:=r) rfl rfl rfl hrk ?_)
            refine Dra.on' rfl rfl rfl rfl rfl .sure (Ope.load rfl (ldA hget_hd hrP) ?_)
            refine Dra.on' rfl rfl rfl rfl rfl .sure (Ope.mov rfl ?_)
            refine Dra.on' rfl rfl rfl rfl rfl .sure (Ope.mov rfl ?_)
            refine Dra.on' rfl rfl rfl rfl rfl .sure (Ope.sub rfl rfl (by omega) ?_)
            refine Dra.on' rfl rfl rfl rfl rfl .sure (Ope.idxL (m:=r - 1) rfl rfl (by rw [show ((r:Int) - 1)=((r - 1:Nat):Int) from by omega];rfl) (by omega) ?_)
            refine Dra.on' rfl rfl rfl rfl rfl .sure (Ope.load rfl (ldA hget_hd (show r - 1 < PE.length by omega)) ?_)
            refine Dra.on' rfl rfl rfl rfl rfl .sure (Ope.add rfl rfl (by have:=hpb (r - 1) (by omega);omega) ?_)
            refine Dra.on' rfl rfl rfl rfl rfl .sure (Ope.ne rfl rfl ?_)
            refine Dra.op' rfl rfl rfl .sure (Ope.pickT rfl rfl ?_)
            refine Dra.nil (Run.condX rfl (fun hc=>?_) fun hc=>?_)
            ·(exfalso;have h9:=htw2 (r - 1) (by omega) (by omega) (by omega) (by omega) (by omega);simp only [show r - 1+1=r from by omega] at h9;omega)
            ·refine Run.skip (Run.bend (Run.region (cx_ok _ _ _) (Reg.op rfl (Ope.add rfl rfl (by omega) ?_))))
             refine Reg.op rfl (Ope.mov rfl ?_)
             exact Reg.nil (Run.lend ⟨(r+1,m2+1+1),by show kn - (r+1) < kn - r;omega,⟨by show r+1≤kn;omega,by show a+b+2≤m2+1+1;omega⟩,⟨rfl,rfl,rfl,rfl,by rw [hs1];rfl,by rw [hs2];rfl,rfl,rfl,trivial⟩,rfl,rfl⟩)
           ·refine Dra.off' rfl rfl rfl (.inl rfl) rfl (Dra.off' rfl rfl rfl (.inl rfl) rfl (Dra.off' rfl rfl rfl (.inl rfl) rfl (Dra.off' rfl rfl rfl (.inl rfl) rfl (Dra.off' rfl rfl rfl (.inl rfl) rfl (Dra.off' rfl rfl rfl (.inl rfl) rfl (Dra.off' rfl rfl rfl (.inl rfl) rfl (Dra.off' rfl rfl rfl (.inl rfl) rfl (Dra.off' rfl rfl rfl (.inl rfl) rfl (Dra.off' rfl rfl rfl (.inl rfl) rfl (Dra.off' rfl rfl rfl (.inl rfl) rfl (Dra.off' rfl rfl rfl (.inl rfl) rfl (Dra.off' rfl rfl rfl (.inl rfl) rfl (Dra.off' rfl rfl rfl (.inl rfl) rfl (Dra.off' rfl rfl rfl (.inl rfl) rfl (Dra.off' rfl rfl rfl (.inl rfl) rfl (Dra.off' rfl rfl rfl (.inl rfl) rfl (Dra.off' rfl rfl rfl (.inl rfl) rfl (Dra.off' rfl rfl rfl (.inl rfl) rfl (Dra.off' rfl rfl rfl (.inl rfl) rfl (Dra.off' rfl rfl rfl (.inl rfl) rfl (Dra.op' rfl rfl rfl .sure (Ope.pickF rfl rfl ?_))))))))))))))))))))))
            refine Dra.nil (Run.condF rfl (Run.skip (Run.bend (Run.region (cx_ok _ _ _) (Reg.op rfl (Ope.add rfl rfl (by omega) ?_))))))
            refine Reg.op rfl (Ope.mov rfl ?_)
            exact Reg.nil (Run.lend ⟨(r+1,m2+1+1),by show kn - (r+1) < kn - r;omega,⟨by show r+1≤kn;omega,by show a+b+2≤m2+1+1;omega⟩,⟨rfl,rfl,rfl,rfl,by rw [hs1];rfl,by rw [hs2];rfl,rfl,rfl,trivial⟩,rfl,rfl⟩)
      ·refine Run.exit (Jmp.code (Jmp.round (Jmp.here (Run.seq ?_))))
       obtain rfl:r=kn:=by omega
       rw [List.take_of_length_le (by omega),List.take_of_length_le (by omega),haf,hap]
       have hi3:=f29 (isum X) ta tc ⟨hta,htc⟩
       refine Run.wide (m:=m2) (l':=[]) (Nat.le_refl _) trivial ?_
       refine Run.region (cx_ok _ _ _) (Reg.op rfl (Ope.load rfl rfl ?_))
       refine Reg.op rfl (Ope.cf rfl rfl hto hb0 ?_)
       refine Reg.op rfl (Ope.mov rfl ?_)
       refine Reg.op rfl (Ope.ext rfl rfl ?_)
       refine Reg.op rfl (Ope.ext rfl rfl ?_)
       refine Reg.op rfl (Ope.newL rfl ?_)
       refine Reg.op0 (Ope.store rfl rfl hget_hd rfl rfl rfl ?_)
       refine Reg.op rfl (Ope.asg rfl ?_)
       refine Reg.nil (Run.seq (Run.frz (d:=24) true rfl hget_hd rfl ?_))
       refine Run.region (cx_ok _ _ _) (Reg.op rfl (Ope.mov rfl ?_))
       refine Reg.op rfl (Ope.eq rfl rfl ?_)
       refine Reg.op rfl (Ope.mov rfl ?_)
       refine Reg.splitX rfl rfl (fun hg=>?_) fun hg=>?_
       ·refine Reg.on rfl rfl rfl (Ope.mov rfl ?_)
        refine Reg.on rfl rfl rfl (Ope.load rfl rfl ?_)
        refine Reg.on rfl rfl rfl (Ope.cf rfl rfl (hi3) rfl ?_)
        refine Reg.op rfl (Ope.pickT rfl rfl ?_)
        refine Reg.op rfl (Ope.mov rfl ?_)
        refine Reg.splitX rfl rfl (fun hg=>?_) fun hg=>?_
        ·refine Reg.on rfl rfl rfl (Ope.mov rfl ?_)
         refine Reg.on rfl rfl rfl (Ope.mov rfl ?_)
         refine Reg.on rfl rfl rfl (Ope.eq rfl rfl ?_)
         refine Reg.op rfl (Ope.pickT rfl rfl ?_)
         refine Reg.op rfl (Ope.mov rfl ?_)
         refine Reg.splitX rfl rfl (fun hg=>?_) fun hg=>?_
         ·refine Reg.on rfl rfl rfl (Ope.mov rfl ?_)
          refine Reg.on rfl rfl rfl (Ope.mov rfl ?_)
          refine Reg.on rfl rfl rfl (Ope.eq rfl rfl ?_)
          refine Reg.op rfl (Ope.pickT rfl rfl ?_)
          refine Reg.op rfl (Ope.mov rfl ?_)
          refine Reg.splitX rfl rfl (fun hg=>?_) fun hg=>?_
          ·refine Reg.on rfl rfl rfl (Ope.cf rfl rfl (aliveF) rfl ?_)
           refine Reg.op rfl (Ope.pickT rfl rfl ?_)
           refine Reg.op rfl (Ope.asg rfl ?_)
           exact Reg.nil (Run.ret (fin_ret (.tmp rfl .nil) rfl rfl))
          ·(first | (exfalso;omega) | exact absurd rfl hg | (exact absurd hg (by decide)))
         ·(first | (exfalso;omega) | exact absurd rfl hg | (exact absurd hg (by decide)))
        ·(first | (exfalso;omega) | exact absurd rfl hg | (exact absurd hg (by decide)))
       ·(first | (exfalso;omega) | exact absurd rfl hg | (exact absurd hg (by decide)))
    ·refine Dra.op' rfl rfl rfl .sure (Ope.fld rfl rfl ?_)
     refine Dra.op' rfl rfl rfl (.load rfl) (Ope.load rfl rfl ?_)
     refine Dra.op' rfl rfl rfl .sure (Ope.fld rfl rfl ?_)
     refine Dra.op' rfl rfl rfl .sure (Ope.load rfl rfl ?_)
     refine Dra.op' rfl rfl rfl .sure (Ope.mks (m:=kn) (c:=kn) rfl rfl rfl rfl (Nat.le_refl _) (by omega) (by omega) (fun ez'=>?_))
     refine Dra.op' rfl rfl rfl .sure (Ope.mks (m:=kn) (c:=kn) rfl rfl rfl rfl (Nat.le_refl _) (by omega) (by omega) (fun ez=>?_))
     refine Dra.op' rfl rfl rfl .sure (Ope.asg rfl ?_)
     refine Dra.op' rfl rfl rfl .sure (Ope.asg rfl ?_)
     refine Dra.nil (Run.seq (Run.seq (Run.region (cx_ok _ _ _) (Reg.op rfl (Ope.mov rfl ?_)))))
     refine Reg.op rfl (Ope.len (m:=X.length) rfl (by simp) ?_)
     refine Reg.op rfl (Ope.mov rfl ?_)
     refine Reg.nil (Run.block ?_)
     have hR0:(List.replicate kn (I 0):List PV)=(FI 0).map I:=by rw [hD.f0,List.map_replicate]
     have hR1:(List.replicate kn (I 0):List PV)=(PA 0).map I:=by rw [hD.p0,List.map_replicate]
     first
       | (obtain ⟨a, b, hea, heb, hab⟩ : ∃ a b : Nat, n1 = a ∧ n1 + 1 = b ∧ a ≠ b := ⟨_, _, rfl, rfl, by omega⟩
          rw [heb,hea]
          refine Run.wide (m:=a+b+2) (l':=[(b,some (.cells ((PA 0).map I))),(a,some (.cells ((FI 0).map I)))]) (by omega) ⟨by rw [← hR1];repeat (first | exact hget_hd | refine (hget_tl (by omega)).trans ?_),by rw [← hR0];repeat (first | exact hget_hd | refine (hget_tl (by omega)).trans ?_),trivial⟩ ?_
          refine Run.loop (α:=Nat×Nat) (fun t=>[(2,.fp ((⟨ru,(kn:Int),li⟩:Fns).v t1 t2)),(5,.sl .no (RI.map I)),(9,I (isum (X.take t.1))),(10,.ms a 0 kn kn ez),(11,.ms (b) 0 kn kn ez'),(64,.sl t3 (X.map I)),(65,I X.length),(66,I t.1)]) (fun t=>HE t.2 [(b,some (.cells ((PA t.1).map I))),(a,some (.cells ((FI t.1).map I)))]) (fun t=>t.1≤X.length∧a+b+2≤t.2) (fun t=>X.length - t.1) (0,a+b+2) ⟨rfl,rfl,rfl,rfl,rfl,rfl,rfl,rfl,trivial⟩ rfl ⟨Nat.zero_le _,Nat.le_refl _⟩ (fun t ht=>?_))
       | (obtain ⟨a, b, hea, heb, hab⟩ : ∃ a b : Nat, n1 + 1 = a ∧ n1 = b ∧ a ≠ b := ⟨_, _, rfl, rfl, by omega⟩
          rw [hea,heb]
          refine Run.wide (m:=a+b+2) (l':=[(b,some (.cells ((PA 0).map I))),(a,some (.cells ((FI 0).map I)))]) (by omega) ⟨by rw [← hR1];repeat (first | exact hget_hd | refine (hget_tl (by omega)).trans ?_),by rw [← hR0];repeat (first | exact hget_hd | refine (hget_tl (by omega)).trans ?_),trivial⟩ ?_
          refine Run.loop (α:=Nat×Nat) (fun t=>[(2,.fp ((⟨ru,(kn:Int),li⟩:Fns).v t1 t2)),(5,.sl .no (RI.map I)),(9,I (isum (X.take t.1))),(10,.ms a 0 kn kn ez),(11,.ms (b) 0 kn kn ez'),(64,.sl t3 (X.map I)),(65,I X.length),(66,I t.1)]) (fun t=>HE t.2 [(b,some (.cells ((PA t.1).map I))),(a,some (.cells ((FI t.1).map I)))]) (fun t=>t.1≤X.length∧a+b+2≤t.2) (fun t=>X.length - t.1) (0,a+b+2) ⟨rfl,rfl,rfl,rfl,rfl,rfl,rfl,rfl,trivial⟩ rfl ⟨Nat.zero_le _,Nat.le_refl _⟩ (fun t ht=>?_))
     obtain ⟨i,m⟩:=t
     obtain ⟨hi,hm⟩:=ht
     simp only at hi hm
     show Run _ _ _ _ [(2,.fp ((⟨ru,(kn:Int),li⟩:Fns).v t1 t2)),(5,.sl .no (RI.map I)),(9,I (isum (X.take i))),(10,.ms a 0 kn kn ez),(11,.ms (b) 0 kn kn ez'),(64,.sl t3 (X.map I)),(65,I X.length),(66,I i)] [] (HE m [(b,some (.cells ((PA i).map I))),(a,some (.cells ((FI i).map I)))])
     refine Run.seq (Run.region (cx_ok _ _ _) (Reg.op rfl (Ope.lt rfl rfl ?_)))
     refine Reg.nil (Run.seq (Run.condX rfl (fun hc=>?_) fun hc=>?_))
     ·refine Run.skip (Run.seq (Run.block (Run.seq ?_)))
      have hlt:i < X.length:=by omega
      have hltR:i < RI.length:=by omega
      obtain ⟨ca,cb,hcc,hca,hcb⟩:=hco i hlt
      have hXb:=hD.xb i hlt
      have hbi:=hb1 i
      obtain ⟨w,hw,hwk,hxk,ha,hb',hc',hF,hP⟩:=hD.st i hltR hlt
      have hFb:=hD.fb i w ha
      have hPb:=hD.pb i w hb'
      have hPb2:=hD.pb i (w ^^^ 1) (by rw [hD.pl];exact hxk)
      have hPx:((PA i).set w ((PA i)[w]+(X[i]+1) / 2))[w ^^^ 1]=(PA i)[w ^^^ 1]'(by rw [hD.pl];exact hxk):=by
        rw [List.getElem_set,if_neg (Ne.symm (xor_part w (by omega)).2.1)]
      have hSb:=hsb X 1000 5 (by decide) hD.xb (by omega) i
      have hSs:=hsu X i hlt
      have hfl:=hD.fl i
      have hpl:=hD.pl i
      obtain ⟨x,hxe⟩:∃ x:Nat,X[i]=(x:Int):=⟨X[i].toNat,by omega⟩
      have hx2:((x+1) / 2:Nat)=(X[i]+1) / 2:=by omega
      have hx3:((x / 2:Nat):Int)=X[i] / 2:=by omega
      have hins:=f29 X[i] ca cb ⟨hca,hcb⟩
      refine Run.region (cx_ok _ _ _) (Reg.op rfl (Ope.mov rfl ?_))
      refine Reg.op rfl (Ope.idxM (m:=i) (f:=I) rfl rfl rfl hlt (fun _=>rfl) ?_)
      refine Reg.op rfl (Ope.load rfl rfl ?_)
      refine Reg.op rfl (Ope.asg rfl ?_)
      refine Reg.op rfl (Ope.asg rfl ?_)
      refine Reg.nil (Run.seq (Run.region (cx_ok _ _ _) (Reg.op rfl (Ope.load rfl rfl ?_))))
      refine Reg.op rfl (Ope.mov rfl ?_)
      refine Reg.op rfl (Ope.cf rfl rfl hcc hbi ?_)
      refine Reg.op rfl (Ope.mov rfl ?_)
      refine Reg.op rfl (Ope.ext rfl rfl ?_)
      refine Reg.op rfl (Ope.ext rfl rfl ?_)
      refine Reg.op rfl (Ope.newL rfl ?_)
      refine Reg.op0 (Ope.store rfl rfl hget_hd rfl rfl rfl ?_)
      refine Reg.op rfl (Ope.asg rfl ?_)
      refine Reg.nil (Run.seq (Run.seq (Run.frz (d:=14) true rfl hget_hd rfl ?_)))
      refine Run.wide (m:=m+1) (l':=[(b,some (.cells ((PA i).map I))),(a,some (.cells ((FI i).map I)))]) (Nat.le_refl _) ⟨by repeat (first | exact hget_hd | refine (hget_tl (by omega)).trans ?_),by repeat (first | exact hget_hd | refine (hget_tl (by omega)).trans ?_),trivial⟩ ?_
      refine Run.region (cx_ok _ _ _) (Reg.op rfl (Ope.mov rfl ?_))
      refine Reg.op rfl (Ope.lt rfl rfl ?_)
      refine Reg.op rfl (Ope.mov rfl ?_)
      refine Reg.splitX rfl rfl (fun hg=>?_) fun hg=>?_
      ·(first | (exfalso;omega) | exact absurd rfl hg | (exact absurd hg (by decide)))
      ·refine Reg.on rfl rfl rfl (Ope.mov rfl ?_)
       refine Reg.on rfl rfl rfl (Ope.ne rfl rfl ?_)
       refine Reg.op rfl (Ope.pickF rfl rfl ?_)
       refine Reg.op rfl (Ope.mov rfl ?_)
       refine Reg.splitX rfl rfl (fun hg=>?_) fun hg=>?_
       ·(first | (exfalso;omega) | exact absurd rfl hg | (exact absurd hg (by decide)))
       ·refine Reg.on rfl rfl rfl (Ope.mov rfl ?_)
        refine Reg.on rfl rfl rfl (Ope.load rfl rfl ?_)
        refine Reg.on rfl rfl rfl (Ope.cf rfl rfl (hins) rfl ?_)
        refine Reg.on rfl rfl rfl (Ope.not rfl ?_)
        refine Reg.op rfl (Ope.pickF rfl rfl ?_)
        refine Reg.nil (Run.condX rfl (fun hc=>?_) fun hc=>?_)
        ·(first | (exfalso;omega) | exact absurd rfl hc | (exact absurd hc (by decide)))
        ·refine Run.skip (Run.seq (Run.region (cx_ok _ _ _) (Reg.op rfl (Ope.mov rfl ?_))))
         refine Reg.op rfl (Ope.mov rfl ?_)
         refine Reg.op rfl (Ope.idxM (m:=i) (f:=I) rfl rfl rfl hltR (fun _=>rfl) ?_)
         refine Reg.op rfl (Ope.load rfl rfl ?_)
         refine Reg.op rfl (Ope.asg rfl ?_)
         refine Reg.nil (Run.seq (Run.region (cx_ok _ _ _) (Reg.op rfl (Ope.mov rfl ?_))))
         refine Reg.op rfl (Ope.mov rfl ?_)
         refine Reg.op rfl (Ope.add rfl rfl (by omega) ?_)
         refine Reg.op rfl (Ope.asg rfl ?_)
         refine Reg.nil (Run.seq (Run.region (cx_ok _ _ _) (Reg.op rfl (Ope.mov rfl ?_))))
         refine Reg.op rfl (Ope.mov rfl ?_)
         refine Reg.op rfl (Ope.idxL (m:=w) rfl rfl (by rw [hw];rfl) hwk ?_)
         refine Reg.op rfl (Ope.load rfl (ldA ((hget_tl (by omega)).trans hget_hd) ha) ?_)
         refine Reg.op rfl (Ope.mov rfl ?_)
         refine Reg.op rfl (Ope.add rfl rfl (by omega) ?_)
         refine Reg.op rfl (Ope.idxL (m:=w) rfl rfl (by rw [hw];rfl) hwk ?_)
         refine Reg.op0 (Ope.storeP rfl rfl ((hget_tl (by omega)).trans hget_hd) rfl rfl (by rw [List.length_map,hfl];show 0+w * 1+1≤kn;omega) ?_)
         refine Reg.nil (Run.seq (Run.wide (m:=m+1) (l':=[(b,some (.cells ((PA i).map I))),(a,some (.cells ((FI (i+1)).map I)))]) (Nat.le_refl _) ⟨(hget_tl (by omega)).trans hget_hd,by rw [hF,← putAs ha];exact hget_hd,trivial⟩ ?_))
         refine Run.region (cx_ok _ _ _) (Reg.op rfl (Ope.mov rfl ?_))
         refine Reg.op rfl (Ope.mov rfl ?_)
         refine Reg.op rfl (Ope.idxL (m:=w) rfl rfl (by rw [hw];rfl) hwk ?_)
         refine Reg.op rfl (Ope.load rfl (ldA hget_hd hb') ?_)
         refine Reg.op rfl (Ope.mov rfl ?_)
         refine Reg.op rfl (Ope.add rfl rfl (by omega) ?_)
         refine Reg.op rfl (Ope.quoN (p:=x+1) (q:=2) rfl rfl (by omega) rfl (by decide) (by show x+1 < 2 ^ 63;omega) ?_)
         refine Reg.op rfl (Ope.add rfl rfl (by omega) ?_)
         rw [hx2]
         refine Reg.op rfl (Ope.idxL (m:=w) rfl rfl (by rw [hw];rfl) hwk ?_)
         refine Reg.op0 (Ope.storeP rfl rfl hget_hd rfl rfl (by rw [List.length_map,hpl];show 0+w * 1+1≤kn;omega) ?_)
         refine Reg.nil (Run.wide (m:=m+1) (l':=[(b,some (.cells (((PA i).set w ((PA i)[w]+(X[i]+1) / 2)).map I))),(a,some (.cells ((FI (i+1)).map I)))]) (Nat.le_refl _) ⟨by rw [← putAs hb'];exact hget_hd,(hget_tl (by omega)).trans ((hget_tl (by omega)).trans hget_hd),trivial⟩ ?_)
         refine Run.region (cx_ok _ _ _) (Reg.op rfl (Ope.mov rfl ?_))
         refine Reg.op rfl (Ope.mov rfl ?_)
         refine Reg.op rfl (Ope.xorN (p:=w) (q:=1) rfl rfl hw rfl (by show w < 2 ^ 63;omega) (by decide) ?_)
         refine Reg.op rfl (Ope.idxL (m:=w ^^^ 1) rfl rfl rfl hxk ?_)
         refine Reg.op rfl (Ope.load rfl (ldA hget_hd hc') ?_)
         refine Reg.op rfl (Ope.mov rfl ?_)
         refine Reg.op rfl (Ope.quoN (p:=x) (q:=2) rfl rfl hxe rfl (by decide) (by show x < 2 ^ 63;omega) ?_)
         refine Reg.op rfl (Ope.add rfl rfl (by rw [hPx];omega) ?_)
         rw [hx3]
         refine Reg.op rfl (Ope.idxL (m:=w ^^^ 1) rfl rfl rfl hxk ?_)
         refine Reg.op0 (Ope.storeP rfl rfl hget_hd rfl rfl (by rw [List.length_map,List.length_set,hpl];show 0+(w ^^^ 1) * 1+1≤kn;omega) ?_)
         refine Reg.nil (Run.bend (Run.wide (m:=m+1) (l':=[(b,some (.cells ((PA (i+1)).map I))),(a,some (.cells ((FI (i+1)).map I)))]) (Nat.le_refl _) ⟨by rw [hP,← putAs hc'];exact hget_hd,(hget_tl (by omega)).trans ((hget_tl (by omega)).trans hget_hd),trivial⟩ ?_))
         refine Run.region (cx_ok _ _ _) (Reg.op rfl (Ope.add rfl rfl (by omega) ?_))
         refine Reg.op rfl (Ope.mov rfl ?_)
         exact Reg.nil (Run.lend ⟨(i+1,m+1),by show X.length - (i+1) < X.length - i;omega,⟨by show i+1≤X.length;omega,by show a+b+2≤m+1;omega⟩,⟨rfl,rfl,by rw [hSs];rfl,rfl,rfl,rfl,rfl,rfl,trivial⟩,rfl,rfl⟩)
     ·refine Run.exit (Jmp.code (Jmp.round (Jmp.here (Run.seq ?_))))
      obtain rfl:i=X.length:=by omega
      rw [List.take_length]
      have hfl:=hD.fl X.length
      have hpl:=hD.pl X.length
      have haf:=hD.af
      have hap:=hD.ap
      have htw:=hD.tw
      have hfb:=fun r h=>hD.fb X.length r h
      have hpb:=fun r h=>hD.pb X.length r h
      rw [← hXl] at haf hap hfn hpy
      simp only [← hXl] at htw
      have hSX:=hsb X 1000 5 (by decide) hD.xb (by omega) X.length
      rw [List.take_length] at hSX
      have htw2:∀ r (g1:r+1 < (FI X.length).length) (g2:r < (FI X.length).length) (g3:r+1 < (PA X.length).length) (g4:r < (PA X.length).length),r % 2=0→(FI X.length)[r+1]+(FI X.length)[r]=(PA X.length)[r+1]+(PA X.length)[r]:=fun r g1 g2 g3 g4 h=>htw r (by omega) h
      clear htw hD
      generalize hFE:FI X.length=FE at *
      generalize hPE:PA X.length=PE at *
      refine Run.region (cx_ok _ _ _) (Reg.op rfl (Ope.asg rfl ?_))
      refine Reg.op rfl (Ope.asg rfl ?_)
      refine Reg.nil (Run.seq (Run.seq (Run.region (cx_ok _ _ _) (Reg.op rfl (Ope.fld rfl rfl ?_)))))
      refine Reg.op rfl (Ope.load rfl rfl ?_)
      refine Reg.op rfl (Ope.mov rfl ?_)
      refine Reg.nil (Run.block (Run.loop (α:=Nat×Nat) (fun t=>[(2,.fp ((⟨ru,(kn:Int),li⟩:Fns).v t1 t2)),(9,I (isum X)),(10,.ms a 0 kn kn ez),(11,.ms (b) 0 kn kn ez'),(17,I (isum (FE.take t.1))),(18,I (isum (PE.take t.1))),(123,I kn),(124,I t.1)]) (fun t=>HE t.2 [(b,some (.cells (PE.map I))),(a,some (.cells (FE.map I)))]) (fun t=>t.1≤kn∧a+b+2≤t.2) (fun t=>kn - t.1) (0,m) ⟨rfl,rfl,rfl,rfl,rfl,rfl,rfl,rfl,trivial⟩ rfl ⟨Nat.zero_le _,hm⟩ (fun t ht=>?_)))
      obtain ⟨r,m2⟩:=t
      obtain ⟨hr,hm2⟩:=ht
      simp only at hr hm2
      show Run _ _ _ _ [(2,.fp ((⟨ru,(kn:Int),li⟩:Fns).v t1 t2)),(9,I (isum X)),(10,.ms a 0 kn kn ez),(11,.ms (b) 0 kn kn ez'),(17,I (isum (FE.take r))),(18,I (isum (PE.take r))),(123,I kn),(124,I r)] [] (HE m2 [(b,some (.cells (PE.map I))),(a,some (.cells (FE.map I)))])
      refine Run.seq (Run.region (cx_ok _ _ _) (Reg.op rfl (Ope.lt rfl rfl ?_)))
      refine Reg.nil (Run.seq (Run.condX rfl (fun hc=>?_) fun hc=>?_))
      ·refine Run.skip (Run.seq (Run.block (Run.seq ?_)))
       have hrk:r < kn:=by omega
       have hrF:r < FE.length:=by omega
       have hrP:r < PE.length:=by omega
       obtain ⟨fa,fb,hff,hfa,hfb'⟩:=hfn r hrk hrF
       obtain ⟨pa,pb,hpp,hpa,hpb'⟩:=hpy r hrk hrP
       have hbr:=hb1 r
       have hi1:=f29 FE[r] fa fb ⟨hfa,hfb'⟩
       have hi2:=f29 PE[r] pa pb ⟨hpa,hpb'⟩
       have hs1:=hsu FE r hrF
       have hs2:=hsu PE r hrP
       have hq1:=hsb FE 5005 6 (by decide) hfb (by omega) r
       have hq2:=hsb PE 5005 6 (by decide) hpb (by omega) r
       have hq3:=hfb r hrF
       have hq4:=hpb r hrP
       refine Run.region (cx_ok _ _ _) (Reg.op rfl (Ope.mov rfl ?_))
       refine Reg.op rfl (Ope.asg rfl ?_)
       refine Reg.nil (Run.seq (Run.region (cx_ok _ _ _) (Reg.op rfl (Ope.load rfl rfl ?_))))
       refine Reg.op rfl (Ope.mov rfl ?_)
       refine Reg.op rfl (Ope.cf rfl rfl hff hbr ?_)
       refine Reg.op rfl (Ope.mov rfl ?_)
       refine Reg.op rfl (Ope.ext rfl rfl ?_)
       refine Reg.op rfl (Ope.ext rfl rfl ?_)
       refine Reg.op rfl (Ope.newL rfl ?_)
       refine Reg.op0 (Ope.store rfl rfl hget_hd rfl rfl rfl ?_)
       refine Reg.op rfl (Ope.asg rfl ?_)
       refine Reg.nil (Run.seq (Run.frz (d:=20) true rfl hget_hd rfl ?_))
       refine Run.wide (m:=m2+1) (l':=[(b,some (.cells (PE.map I))),(a,some (.cells (FE.map I)))]) (Nat.le_refl _) ⟨by repeat (first | exact hget_hd | refine (hget_tl (by omega)).trans ?_),by repeat (first | exact hget_hd | refine (hget_tl (by omega)).trans ?_),trivial⟩ ?_
       refine Run.region (cx_ok _ _ _) (Reg.op rfl (Ope.load rfl rfl ?_))
       refine Reg.op rfl (Ope.mov rfl ?_)
       refine Reg.op rfl (Ope.cf rfl rfl hpp hbr ?_)
       refine Reg.op rfl (Ope.mov rfl ?_)
       refine Reg.op rfl (Ope.ext rfl rfl ?_)
       refine Reg.op rfl (Ope.ext rfl rfl ?_)
       refine Reg.op rfl (Ope.newL rfl ?_)
       refine Reg.op0 (Ope.store rfl rfl hget_hd rfl rfl rfl ?_)
       refine Reg.op rfl (Ope.asg rfl ?_)
       refine Reg.nil (Run.seq (Run.seq (Run.frz (d:=22) true rfl hget_hd rfl ?_)))
       refine Run.wide (m:=m2+1+1) (l':=[(b,some (.cells (PE.map I))),(a,some (.cells (FE.map I)))]) (Nat.le_refl _) ⟨by repeat (first | exact hget_hd | refine (hget_tl (by omega)).trans ?_),by repeat (first | exact hget_hd | refine (hget_tl (by omega)).trans ?_),trivial⟩ ?_
       refine Run.draw (cx_ok _ _ _) [(0,true),(1,true),(2,true),(3,true),(4,true),(5,true),(6,true),(7,true),(8,true),(9,true),(10,true),(11,true),(12,true),(13,true),(14,true),(15,true),(16,true),(17,true),(18,true),(19,true),(20,true),(21,true),(22,true),(23,true)] (by kernel_rfl) (Dra.op' rfl rfl rfl .sure (Ope.mov rfl ?_))
       refine Dra.op' rfl rfl rfl .sure (Ope.ne rfl rfl ?_)
       refine Dra.op' rfl rfl rfl .sure (Ope.mov rfl ?_)
       refine Dra.splitX rfl rfl rfl rfl (fun hg=>?_) fun hg=>?_
       ·(first | (exfalso;omega) | exact absurd rfl hg | (exact absurd hg (by decide)))
       ·refine Dra.on' rfl rfl rfl rfl rfl .sure (Ope.mov rfl ?_)
        refine Dra.on' rfl rfl rfl rfl rfl .sure (Ope.mov rfl ?_)
        refine Dra.on' rfl rfl rfl rfl rfl .sure (Ope.idxL (m:=r) rfl rfl rfl hrk ?_)
        refine Dra.on' rfl rfl rfl rfl rfl .sure (Ope.load rfl (ldA ((hget_tl (by omega)).trans hget_hd) hrF) ?_)
        refine Dra.on' rfl rfl rfl rfl rfl .sure (Ope.load rfl rfl ?_)
        refine Dra.on' rfl rfl rfl rfl rfl .sure (Ope.cf rfl rfl (hi1) rfl ?_)
        refine Dra.on' rfl rfl rfl rfl rfl .sure (Ope.not rfl ?_)
        refine Dra.op' rfl rfl rfl .sure (Ope.pickF rfl rfl ?_)
        refine Dra.op' rfl rfl rfl .sure (Ope.mov rfl ?_)
        refine Dra.splitX rfl rfl rfl rfl (fun hg=>?_) fun hg=>?_
        ·(first | (exfalso;omega) | exact absurd rfl hg | (exact absurd hg (by decide)))
        ·refine Dra.on' rfl rfl rfl rfl rfl .sure (Ope.mov rfl ?_)
         refine Dra.on' rfl rfl rfl rfl rfl .sure (Ope.ne rfl rfl ?_)
         refine Dra.op' rfl rfl rfl .sure (Ope.pickF rfl rfl ?_)
         refine Dra.op' rfl rfl rfl .sure (Ope.mov rfl ?_)
         refine Dra.splitX rfl rfl rfl rfl (fun hg=>?_) fun hg=>?_
         ·(first | (exfalso;omega) | exact absurd rfl hg | (exact absurd hg (by decide)))
         ·refine Dra.on' rfl rfl rfl rfl rfl .sure (Ope.mov rfl ?_)
          refine Dra.on' rfl rfl rfl rfl rfl .sure (Ope.mov rfl ?_)
          refine Dra.on' rfl rfl rfl rfl rfl .sure (Ope.idxL (m:=r) rfl rfl rfl hrk ?_)
          refine Dra.on' rfl rfl rfl rfl rfl .sure (Ope.load rfl (ldA hget_hd hrP) ?_)
          refine Dra.on' rfl rfl rfl rfl rfl .sure (Ope.load rfl rfl ?_)
          refine Dra.on' rfl rfl rfl rfl rfl .sure (Ope.cf rfl rfl (hi2) rfl ?_)
          refine Dra.on' rfl rfl rfl rfl rfl .sure (Ope.not rfl ?_)
          refine Dra.op' rfl rfl rfl .sure (Ope.pickF rfl rfl ?_)
          refine Dra.nil (Run.condX rfl (fun hc=>?_) fun hc=>?_)
          ·(first | (exfalso;omega) | exact absurd rfl hc | (exact absurd hc (by decide)))
          ·refine Run.skip (Run.seq (Run.drawS (cx_ok _ _ _) (fun h'=>h'.get (b)=some (.cells (PE.map I))) [(0,true,false),(1,true,false),(2,true,false),(3,true,false),(4,true,false),(5,true,false),(6,true,false),(7,true,false),(8,true,false),(9,true,false),(10,false,false),(11,true,false),(12,true,true),(13,true,false)] (by kernel_rfl) (DraS.opQ rfl rfl rfl (Ope.mov rfl ?_))))
           refine DraS.opQ rfl rfl rfl (Ope.mov rfl ?_)
           refine DraS.opQ rfl rfl rfl (Ope.mov rfl ?_)
           refine DraS.opQ rfl rfl rfl (Ope.idxL (m:=r) rfl rfl rfl hrk ?_)
           refine DraS.opQ rfl rfl rfl (Ope.load rfl (ldA ((hget_tl (by omega)).trans hget_hd) hrF) ?_)
           refine DraS.opQ rfl rfl rfl (Ope.add rfl rfl (by omega) ?_)
           refine DraS.opQ rfl rfl rfl (Ope.mov rfl ?_)
           refine DraS.opQ rfl rfl rfl (Ope.mov rfl ?_)
           refine DraS.opQ rfl rfl rfl (Ope.mov rfl ?_)
           refine DraS.opQ rfl rfl rfl (Ope.idxL (m:=r) rfl rfl rfl hrk ?_)
           refine DraS.opR rfl rfl rfl hget_hd (StabS.at rfl) (Ope.load rfl (ldA hget_hd hrP) ?_)
           refine DraS.opQ rfl rfl rfl (Ope.add rfl rfl (by omega) ?_)
           refine DraS.opS rfl rfl rfl (Ope.asg rfl ?_)
           refine ⟨hget_hd,?_⟩
           refine DraS.opQ rfl rfl rfl (Ope.asg rfl ?_)
           refine DraS.nil (Run.seq (Run.draw (cx_ok _ _ _) [(0,true),(1,true),(2,true),(3,true),(4,true),(5,true),(6,true),(7,true),(8,true),(9,true),(10,true),(11,true),(12,true),(13,true),(14,true),(15,true),(16,true),(17,true),(18,true),(19,true),(20,true),(21,true),(22,true),(23,true),(24,true),(25,true)] (by kernel_rfl) (Dra.op' rfl rfl rfl .sure (Ope.mov rfl ?_))))
           refine Dra.op' rfl rfl rfl .sure (Ope.remN (p:=r) (q:=2) rfl rfl rfl rfl (by decide) ?_)
           refine Dra.op' rfl rfl rfl .sure (Ope.eq rfl rfl ?_)
           refine Dra.op' rfl rfl rfl .sure (Ope.mov rfl ?_)
           refine Dra.splitX rfl rfl rfl rfl (fun hg=>?_) fun hg=>?_
           ·refine Dra.on' rfl rfl rfl rfl rfl .sure (Ope.mov rfl ?_)
            refine Dra.on' rfl rfl rfl rfl rfl .sure (Ope.mov rfl ?_)
            refine Dra.on' rfl rfl rfl rfl rfl .sure (Ope.idxL (m:=r) rfl rfl rfl hrk ?_)
            refine Dra.on' rfl rfl rfl rfl rfl .sure (Ope.load rfl (ldA ((hget_tl (by omega)).trans hget_hd) hrF) ?_)
            refine Dra.on' rfl rfl rfl rfl rfl .sure (Ope.mov rfl ?_)
            refine Dra.on' rfl rfl rfl rfl rfl .sure (Ope.mov rfl ?_)
            refine Dra.on' rfl rfl rfl rfl rfl .sure (Ope.sub rfl rfl (by omega) ?_)
            refine Dra.on' rfl rfl rfl rfl rfl .sure (Ope.idxL (m:=r - 1) rfl rfl (by rw [show ((r:Int) - 1)=((r - 1:Nat):Int) from by omega];rfl) (by omega) ?_)
            refine Dra.on' rfl rfl rfl rfl rfl .sure (Ope.load rfl (ldA ((hget_tl (by omega)).trans hget_hd) (show r - 1 < FE.length by omega)) ?_)
            refine Dra.on' rfl rfl rfl rfl rfl .sure (Ope.add rfl rfl (by have:=hfb (r - 1) (by omega);omega) ?_)
            refine Dra.on' rfl rfl rfl rfl rfl .sure (Ope.mov rfl ?_)
            refine Dra.on' rfl rfl rfl rfl rfl .sure (Ope.mov rfl ?_)
            refine Dra.on' rfl rfl rfl rfl rfl .sure (Ope.idxL (m:=r) rfl rfl rfl hrk ?_)
            refine Dra.on' rfl rfl rfl rfl rfl .sure (Ope.load rfl (ldA hget_hd hrP) ?_)
            refine Dra.on' rfl rfl rfl rfl rfl .sure (Ope.mov rfl ?_)
            refine Dra.on' rfl rfl rfl rfl rfl .sure (Ope.mov rfl ?_)
            refine Dra.on' rfl rfl rfl rfl rfl .sure (Ope.sub rfl rfl (by omega) ?_)
            refine Dra.on' rfl rfl rfl rfl rfl .sure (Ope.idxL (m:=r - 1) rfl rfl (by rw [show ((r:Int) - 1)=((r - 1:Nat):Int) from by omega];rfl) (by omega) ?_)
            refine Dra.on' rfl rfl rfl rfl rfl .sure (Ope.load rfl (ldA hget_hd (show r - 1 < PE.length by omega)) ?_)
            refine Dra.on' rfl rfl rfl rfl rfl .sure (Ope.add rfl rfl (by have:=hpb (r - 1) (by omega);omega) ?_)
            refine Dra.on' rfl rfl rfl rfl rfl .sure (Ope.ne rfl rfl ?_)
            refine Dra.op' rfl rfl rfl .sure (Ope.pickT rfl rfl ?_)
            refine Dra.nil (Run.condX rfl (fun hc=>?_) fun hc=>?_)
            ·(exfalso;have h9:=htw2 (r - 1) (by omega) (by omega) (by omega) (by omega) (by omega);simp only [show r - 1+1=r from by omega] at h9;omega)
            ·refine Run.skip (Run.bend (Run.region (cx_ok _ _ _) (Reg.op rfl (Ope.add rfl rfl (by omega) ?_))))
             refine Reg.op rfl (Ope.mov rfl ?_)
             exact Reg.nil (Run.lend ⟨(r+1,m2+1+1),by show kn - (r+1) < kn - r;omega,⟨by show r+1≤kn;omega,by show a+b+2≤m2+1+1;omega⟩,⟨rfl,rfl,rfl,rfl,by rw [hs1];rfl,by rw [hs2];rfl,rfl,rfl,trivial⟩,rfl,rfl⟩)
           ·refine Dra.off' rfl rfl rfl (.inl rfl) rfl (Dra.off' rfl rfl rfl (.inl rfl) rfl (Dra.off' rfl rfl rfl (.inl rfl) rfl (Dra.off' rfl rfl rfl (.inl rfl) rfl (Dra.off' rfl rfl rfl (.inl rfl) rfl (Dra.off' rfl rfl rfl (.inl rfl) rfl (Dra.off' rfl rfl rfl (.inl rfl) rfl (Dra.off' rfl rfl rfl (.inl rfl) rfl (Dra.off' rfl rfl rfl (.inl rfl) rfl (Dra.off' rfl rfl rfl (.inl rfl) rfl (Dra.off' rfl rfl rfl (.inl rfl) rfl (Dra.off' rfl rfl rfl (.inl rfl) rfl (Dra.off' rfl rfl rfl (.inl rfl) rfl (Dra.off' rfl rfl rfl (.inl rfl) rfl (Dra.off' rfl rfl rfl (.inl rfl) rfl (Dra.off' rfl rfl rfl (.inl rfl) rfl (Dra.off' rfl rfl rfl (.inl rfl) rfl (Dra.off' rfl rfl rfl (.inl rfl) rfl (Dra.off' rfl rfl rfl (.inl rfl) rfl (Dra.off' rfl rfl rfl (.inl rfl) rfl (Dra.off' rfl rfl rfl (.inl rfl) rfl (Dra.op' rfl rfl rfl .sure (Ope.pickF rfl rfl ?_))))))))))))))))))))))
            refine Dra.nil (Run.condF rfl (Run.skip (Run.bend (Run.region (cx_ok _ _ _) (Reg.op rfl (Ope.add rfl rfl (by omega) ?_))))))
            refine Reg.op rfl (Ope.mov rfl ?_)
            exact Reg.nil (Run.lend ⟨(r+1,m2+1+1),by show kn - (r+1) < kn - r;omega,⟨by show r+1≤kn;omega,by show a+b+2≤m2+1+1;omega⟩,⟨rfl,rfl,rfl,rfl,by rw [hs1];rfl,by rw [hs2];rfl,rfl,rfl,trivial⟩,rfl,rfl⟩)
      ·refine Run.exit (Jmp.code (Jmp.round (Jmp.here (Run.seq ?_))))
       obtain rfl:r=kn:=by omega
       rw [List.take_of_length_le (by omega),List.take_of_length_le (by omega),haf,hap]
       have hi3:=f29 (isum X) ta tc ⟨hta,htc⟩
       refine Run.wide (m:=m2) (l':=[]) (Nat.le_refl _) trivial ?_
       refine Run.region (cx_ok _ _ _) (Reg.op rfl (Ope.load rfl rfl ?_))
       refine Reg.op rfl (Ope.cf rfl rfl hto hb0 ?_)
       refine Reg.op rfl (Ope.mov rfl ?_)
       refine Reg.op rfl (Ope.ext rfl rfl ?_)
       refine Reg.op rfl (Ope.ext rfl rfl ?_)
       refine Reg.op rfl (Ope.newL rfl ?_)
       refine Reg.op0 (Ope.store rfl rfl hget_hd rfl rfl rfl ?_)
       refine Reg.op rfl (Ope.asg rfl ?_)
       refine Reg.nil (Run.seq (Run.frz (d:=24) true rfl hget_hd rfl ?_))
       refine Run.region (cx_ok _ _ _) (Reg.op rfl (Ope.mov rfl ?_))
       refine Reg.op rfl (Ope.eq rfl rfl ?_)
       refine Reg.op rfl (Ope.mov rfl ?_)
       refine Reg.splitX rfl rfl (fun hg=>?_) fun hg=>?_
       ·refine Reg.on rfl rfl rfl (Ope.mov rfl ?_)
        refine Reg.on rfl rfl rfl (Ope.load rfl rfl ?_)
        refine Reg.on rfl rfl rfl (Ope.cf rfl rfl (hi3) rfl ?_)
        refine Reg.op rfl (Ope.pickT rfl rfl ?_)
        refine Reg.op rfl (Ope.mov rfl ?_)
        refine Reg.splitX rfl rfl (fun hg=>?_) fun hg=>?_
        ·refine Reg.on rfl rfl rfl (Ope.mov rfl ?_)
         refine Reg.on rfl rfl rfl (Ope.mov rfl ?_)
         refine Reg.on rfl rfl rfl (Ope.eq rfl rfl ?_)
         refine Reg.op rfl (Ope.pickT rfl rfl ?_)
         refine Reg.op rfl (Ope.mov rfl ?_)
         refine Reg.splitX rfl rfl (fun hg=>?_) fun hg=>?_
         ·refine Reg.on rfl rfl rfl (Ope.mov rfl ?_)
          refine Reg.on rfl rfl rfl (Ope.mov rfl ?_)
          refine Reg.on rfl rfl rfl (Ope.eq rfl rfl ?_)
          refine Reg.op rfl (Ope.pickT rfl rfl ?_)
          refine Reg.op rfl (Ope.mov rfl ?_)
          refine Reg.splitX rfl rfl (fun hg=>?_) fun hg=>?_
          ·refine Reg.on rfl rfl rfl (Ope.cf rfl rfl (aliveF) rfl ?_)
           refine Reg.op rfl (Ope.pickT rfl rfl ?_)
           refine Reg.op rfl (Ope.asg rfl ?_)
           exact Reg.nil (Run.ret (fin_ret (.tmp rfl .nil) rfl rfl))
          ·(first | (exfalso;omega) | exact absurd rfl hg | (exact absurd hg (by decide)))
         ·(first | (exfalso;omega) | exact absurd rfl hg | (exact absurd hg (by decide)))
        ·(first | (exfalso;omega) | exact absurd rfl hg | (exact absurd hg (by decide)))
       ·(first | (exfalso;omega) | exact absurd rfl hg | (exact absurd hg (by decide)))
end
end Go.Pv
namespace Go.Pv
open Go.Proofs Go.Am
set_option maxRecDepth 10000
theorem f5 (s:Fns) (hi:s.hnd) (xs:List Nat) (hx:∀ x∈xs,x < 65536):Fn P0 5 [s.v .no .no,.sl .no (xs.map U16)] (B true):=by
  by_cases hv:s.lng=true∨s.B=false
  · have hh := f11n s (t1 := .no) (t2 := .no) rfl rfl hi.ru hi.li 20000 hv
    exact f5a s rfl rfl hi.ru hi.li _ s.lng hh hv
  · have hB : s.B = true := by
      cases hb:s.B with
      | true=>rfl
      | false=>exact absurd (.inr hb) hv
    have hf:=fns_ok s hB
    have hh:=f11v s (t1:=.no) (t2:=.no) rfl rfl hf 20000
    cases hd:decide ((20000:Int) < (prdN s s.li.length:Nat)) with
    | true =>
      rw [hd] at hh
      exact f5a s rfl rfl hi.ru hi.li _ true hh (.inl rfl)
    | false =>
      rw [hd] at hh
      exact f5v s rfl rfl hf hh .no xs hx
end Go.Pv
