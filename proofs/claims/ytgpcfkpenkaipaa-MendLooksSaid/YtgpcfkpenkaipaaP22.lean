/- Parts of the proof: M42, M43, M44, M45, M46, M38 -/
import Derived.Test.YtgpcfkpenkaipaaP21
import Derived.Test.YtgpcfkpenkaipaaP15
set_option linter.unusedVariables false
set_option linter.unusedSimpArgs false
set_option linter.unusedSectionVars false
namespace Go.Pv
open Go.Proofs Go.Am
set_option maxRecDepth 10000
def Wrk.d (w:Wrk) (most:Bool):Int:=if most=true then w.d1 else w.d0
def Pst.f (p:Pst) (most:Bool):Int:=if most=true then p.f1 else p.f0
def Shp.dn (s:Shp) (most:Bool) (o:List Nat):List Int:=(s.alg Shp.p0 o).map fun w=>w.d most
theorem dn_len (s:Shp) (most:Bool) (o:List Nat):(s.dn most o).length=o.length:=by rw [Shp.dn,List.length_map,alg_len]
theorem dn_step {s:Shp} {H:Int} (hs:s.ok H) (most:Bool) {o:List Nat} (hl:o.length≤6) (ho:∀ i∈o,i < s.jo.length) {i:Nat} (hi:i < o.length) {j:Job} (hj:s.job o[i]=j) :
    ∃ q : Nat, j.kd = (q : Int) ∧ q < s.su.length ∧ (0 ≤ s.set q ∧ s.set q ≤ 30) ∧ (1 ≤ j.lo ∧ j.lo ≤ 100 ∧ 1 ≤ j.hi ∧ j.hi ≤ 100) ∧ (0 ≤ j.fr ∧ j.fr ≤ 300) ∧
      (0≤(s.past Shp.p0 (o.take i)).f most∧(s.past Shp.p0 (o.take i)).f most≤10000) ∧
      (i=0→(s.past Shp.p0 (o.take i)).kd=-1∧(s.past Shp.p0 (o.take i)).f most=0)∧(∀ h:0 < i,(s.past Shp.p0 (o.take i)).kd=(s.job (o[i - 1]'(by omega))).kd) ∧
      (s.past Shp.p0 (o.take (i+1))).f most=max (if j.kd=(s.past Shp.p0 (o.take i)).kd then (s.past Shp.p0 (o.take i)).f most else (s.past Shp.p0 (o.take i)).f most+s.set q) j.fr+(if most=true then j.hi else j.lo) ∧
      s.dn most (o.take (i+1))=s.dn most (o.take i)++[(s.past Shp.p0 (o.take (i+1))).f most]:=by
  have hoi:=ho _ (List.getElem_mem hi)
  have hjo:=hs.job hoi
  have hH:=hs.hH
  rw [hj] at hjo
  have hkd:=hjo.kd
  have hq:((j.kd.toNat:Nat):Int)=j.kd:=by omega
  have hp:=past_ok hs (o.take i) Shp.p0 0 ⟨⟨Int.le_refl _,Int.le_refl _⟩,⟨Int.le_refl _,Int.le_refl _⟩⟩ (Int.le_refl _) fun j hj=>ho j (List.mem_of_mem_take hj)
  have hlen:((o.take i).length:Int)≤6:=by rw [List.length_take];omega
  have hf0:=hp.f0
  have hf1:=hp.f1
  have hmi:=hjo.mi
  have hps:s.past Shp.p0 (o.take (i+1))=s.aft (s.wrk (s.past Shp.p0 (o.take i)) o[i]):=by rw [List.take_succ_eq_append_getElem hi,past_snoc]
  refine ⟨j.kd.toNat,hq.symm,by omega,hs.set (by omega),⟨hmi.1,by omega,by omega,by omega⟩,hjo.fr,?_,?_,?_,?_,?_⟩
  · unfold Pst.f;split<;>omega
  · rintro rfl
    exact ⟨rfl,by unfold Pst.f;split<;>rfl⟩
  · intro h
    obtain ⟨k,rfl⟩:∃ k,i=k+1:=⟨i - 1,by omega⟩
    have hk:k < o.length:=by omega
    rw [List.take_succ_eq_append_getElem hk,past_snoc]
    rfl
  · rw [hps, hq]
    have hw:s.wrk (s.past Shp.p0 (o.take i)) o[i]=⟨s.past Shp.p0 (o.take i),o[i],max (s.rdy (s.past Shp.p0 (o.take i)) j.kd).1 j.fr+j.lo,max (s.rdy (s.past Shp.p0 (o.take i)) j.kd).2 j.fr+j.hi⟩:=by unfold Shp.wrk;rw [hj]
    rw [hw]
    generalize s.past Shp.p0 (o.take i)=p
    unfold Shp.rdy Pst.f
    show (if most=true then _ else _)=_
    cases most<;>(by_cases h:j.kd=p.kd<;>simp only [h,if_true,if_false,Bool.false_eq_true]<;>rfl)
  · unfold Shp.dn
    rw [hps,List.take_succ_eq_append_getElem hi,alg_snoc,List.map_append]
    rfl
section
variable (s:Shp) {t1 t2:Tail} (h1:t1.isOwn=false) (h2:t2.isOwn=false)
include h1 h2
theorem f49 {H:Int} (hs:s.ok H) (t:Tail) (o:List Nat) (hl:o.length≤6) (ho:∀ i∈o,i < s.jo.length) (most:Bool):Fn P0 49 [s.v t1 t2,.sl t (o.map N),B most] (.sl .no ((s.dn most o).map I)):=by
  have hdl:=fun i=>dn_len s most (o.take i)
  refine PFun.of (C:=c49) (cx_ok _ _ _) rfl (fn:=Try.f49) (by kernel_rfl) (c:=_) rfl rfl rfl ?_
  refine Run.seq (Run.region (cx_ok _ _ _) (Reg.op rfl (Ope.boxF rfl rfl ?_)))
  refine Reg.op rfl (Ope.asg rfl ?_)
  refine Reg.nil (Run.seq (Run.region (cx_ok _ _ _) (Reg.op rfl (Ope.asg rfl ?_))))
  refine Reg.nil (Run.seq (Run.region (cx_ok _ _ _) (Reg.op rfl (Ope.asg rfl ?_))))
  refine Reg.nil (Run.seq (Run.seq (Run.region (cx_ok _ _ _) (Reg.op rfl (Ope.asg rfl ?_)))))
  refine Reg.nil (Run.block (Run.loop (α:=Nat×Option Nat×Nat) (fun t'=>[(1,.sl t (o.map N)),(2,B most),(3,.fp (s.v t1 t2)),(7,.sl (tlU t'.2.1) ((s.dn most (o.take t'.1)).map I)),(8,I ((s.past Shp.p0 (o.take t'.1)).f most)),(9,I t'.1)]) (fun t'=>HE t'.2.2 (ownU t'.2.1++[])) (fun t'=>t'.1≤o.length∧(∀ j,t'.2.1=some j→j < t'.2.2∧t'.1≠0)) (fun t'=>o.length - t'.1) (0,none,0) ⟨rfl,rfl,rfl,rfl,(by cases most<;>rfl),rfl,trivial⟩ rfl ⟨Nat.zero_le _,(fun j hj=>by cases hj)⟩ (fun t' ht=>?_)))
  obtain ⟨i,o',m⟩:=t'
  obtain ⟨hi,hO⟩:=ht
  simp only at hi hO
  show Run _ _ _ _ [(1,.sl t (o.map N)),(2,B most),(3,.fp (s.v t1 t2)),(7,.sl (tlU o') ((s.dn most (o.take i)).map I)),(8,I ((s.past Shp.p0 (o.take i)).f most)),(9,I i)] [] (HE m (ownU o'++[]))
  refine Run.seq (Run.seq (Run.region (cx_ok _ _ _) (Reg.op rfl (Ope.mov rfl ?_))))
  refine Reg.op rfl (Ope.mov rfl ?_)
  refine Reg.op rfl (Ope.len (m:=o.length) rfl (by simp) ?_)
  refine Reg.op rfl (Ope.lt rfl rfl ?_)
  refine Reg.nil (Run.condX rfl (fun hc=>?_) fun hc=>?_)
  ·refine Run.skip (Run.seq (Run.block (Run.seq ?_)))
   have hlt:i < o.length:=by omega
   have hoi:o[i] < s.jo.length:=ho _ (List.getElem_mem hlt)
   have hjb:=Shp.job_at hoi
   obtain ⟨q,hq,hql,hst,hmi,hfr,hpf,hz,hkk,hnx,hdn⟩:=dn_step hs most hl ho hlt hjb
   have hsa:=Shp.set_at (s:=s) hql
   have hdli:=hdl i
   have hml:(o.take i).length=i:=by rw [List.length_take];omega
   refine Run.draw (cx_ok _ _ _) [(0,true),(1,false),(2,true),(3,true),(4,true),(5,false),(6,true),(7,false),(8,true),(9,true)] (by kernel_rfl) (Dra.op' rfl rfl rfl .sure (Ope.fld rfl rfl ?_))
   refine Dra.op' rfl rfl rfl (.load rfl) (Ope.load rfl rfl ?_)
   refine Dra.op' rfl rfl rfl .sure (Ope.mov rfl ?_)
   refine Dra.op' rfl rfl rfl .sure (Ope.mov rfl ?_)
   refine Dra.op' rfl rfl rfl .sure (Ope.idxM (m:=i) (f:=N) rfl rfl rfl hlt (fun _=>rfl) ?_)
   refine Dra.op' rfl rfl rfl (.load rfl) (Ope.load rfl rfl ?_)
   refine Dra.op' rfl rfl rfl .sure (Ope.idxM (m:=o[i]) (f:=Job.v) rfl rfl rfl hoi (fun _=>rfl) ?_)
   refine Dra.op' rfl rfl rfl (.load rfl) (Ope.load rfl rfl ?_)
   refine Dra.op' rfl rfl rfl .sure (Ope.newL rfl ?_)
   refine Dra.op' rfl rfl rfl .sure (Ope.store rfl rfl hget_hd rfl rfl rfl ?_)
   refine Dra.nil (Run.seq (Run.seq (Run.frz (d:=10) true rfl hget_hd rfl ?_)))
   refine Run.wide (m:=m+1) (l':=ownU o'++[]) (Nat.le_refl _) (hsub_U (fun j hj=>(hget_tl (by have:=hO j hj;omega)).trans ((hget_tl (by have:=hO j hj;omega)).trans ((hget_tl (by have:=hO j hj;omega)).trans (ownU_at hj)))) trivial) ?_
   have hkp:0 < i→∃ (hp:i - 1 < o.length) (hp2:o[i - 1] < s.jo.length),(s.past Shp.p0 (o.take i)).kd=s.jo[o[i - 1]].kd:=fun h=>⟨by omega,ho _ (List.getElem_mem (by omega)),by rw [hkk h,Shp.job_at]⟩
   generalize s.jo[o[i]]=jb at *
   generalize hnxe:(s.past Shp.p0 (o.take (i+1))).f most=nx at *
   generalize (s.past Shp.p0 (o.take i)).f most=now at *
   generalize (s.past Shp.p0 (o.take i)).kd=pk at *
   refine Run.draw (cx_ok _ _ _) [(0,true),(1,true),(2,true),(3,true),(4,true),(5,true),(6,true),(7,true),(8,true),(9,true),(10,true),(11,true),(12,true),(13,true),(14,true),(15,true),(16,true)] (by kernel_rfl) (Dra.op' rfl rfl rfl .sure (Ope.mov rfl ?_))
   refine Dra.op' rfl rfl rfl .sure (Ope.eq rfl rfl ?_)
   refine Dra.op' rfl rfl rfl .sure (Ope.mov rfl ?_)
   refine Dra.splitX rfl rfl rfl rfl (fun hg=>?_) fun hg=>?_
   ·refine Dra.off' rfl rfl rfl (.inl rfl) rfl (Dra.off' rfl rfl rfl (.inl rfl) rfl (Dra.off' rfl rfl rfl (.inl rfl) rfl (Dra.off' rfl rfl rfl (.inl rfl) rfl (Dra.off' rfl rfl rfl (.inl rfl) rfl (Dra.off' rfl rfl rfl (.inl rfl) rfl (Dra.off' rfl rfl rfl (.inl rfl) rfl (Dra.off' rfl rfl rfl (.inl rfl) rfl (Dra.off' rfl rfl rfl (.inl rfl) rfl (Dra.off' rfl rfl rfl (.inl rfl) rfl (Dra.off' rfl rfl rfl (.inl rfl) rfl (Dra.off' rfl rfl rfl (.inl rfl) rfl (Dra.off' rfl rfl rfl (.inl rfl) rfl (Dra.op' rfl rfl rfl .sure (Ope.pickT rfl rfl ?_))))))))))))))
    refine Dra.nil (Run.cut (fun e' d' h'=>Lsub [(1,.sl t (o.map N)),(2,B most),(3,.fp (s.v t1 t2)),(7,.sl (tlU o') ((s.dn most (o.take i)).map I)),(8,I (if jb.kd=pk then now else now+s.set q)),(9,I i),(10,.fp jb.v)] e'∧d'=[]∧h'=HE (m+1) (ownU o'++[])) ?_ ?_)
    ·refine Run.condT rfl (Run.region (cx_ok _ _ _) (Reg.op rfl (Ope.mov rfl ?_)))
     refine Reg.op rfl (Ope.fld rfl rfl ?_)
     refine Reg.op rfl (Ope.load rfl rfl ?_)
     refine Reg.op rfl (Ope.fld rfl rfl ?_)
     refine Reg.op rfl (Ope.load rfl rfl ?_)
     refine Reg.op rfl (Ope.idxM (m:=q) (f:=I) rfl rfl (by rw [hq];rfl) hql (fun _=>rfl) ?_)
     refine Reg.op rfl (Ope.load rfl rfl ?_)
     refine Reg.op rfl (Ope.add rfl rfl (by omega) ?_)
     refine Reg.op rfl (Ope.asg rfl ?_)
     refine Reg.nil ?_
     first
     | exact Run.lend ⟨⟨rfl,rfl,rfl,rfl,congrArg (fun x=>some (I x)) (by rw [if_neg (by have:=hz (by omega);omega),← hsa]),rfl,rfl,trivial⟩,rfl,rfl⟩
     | exact Run.lend ⟨⟨rfl,rfl,rfl,rfl,congrArg (fun x=>some (I x)) (by obtain ⟨_,_,h9⟩:=hkp (by omega);rw [if_neg (by omega),← hsa]),rfl,rfl,trivial⟩,rfl,rfl⟩
     | exact Run.lend ⟨⟨rfl,rfl,rfl,rfl,congrArg (fun x=>some (I x)) (by obtain ⟨_,_,h9⟩:=hkp (by omega);rw [if_pos (by omega)]),rfl,rfl,trivial⟩,rfl,rfl⟩
    ·rintro e' d' h' ⟨hsb2,rfl,rfl⟩;refine Run.less hsb2 ?_
     refine Run.seq ?_
     have hrb:0≤(if jb.kd=pk then now else now+s.set q)∧(if jb.kd=pk then now else now+s.set q)≤11000:=by split<;>omega
     generalize (if jb.kd=pk then now else now+s.set q)=rd at *
     refine Run.region (cx_ok _ _ _) (Reg.op rfl (Ope.mov rfl ?_))
     refine Reg.op rfl (Ope.fld rfl rfl ?_)
     refine Reg.op rfl (Ope.load rfl rfl ?_)
     refine Reg.op rfl (Ope.maxI rfl rfl ?_)
     refine Reg.op rfl (Ope.asg rfl ?_)
     refine Reg.nil (Run.seq (Run.seq (Run.region (cx_ok _ _ _) (Reg.op rfl (Ope.mov rfl ?_)))))
     refine Reg.nil (Run.condX rfl (fun hc=>?_) fun hc=>?_)
     ·refine Run.region (cx_ok _ _ _) (Reg.op rfl (Ope.mov rfl ?_))
      refine Reg.op rfl (Ope.fld rfl rfl ?_)
      refine Reg.op rfl (Ope.fld rfl rfl ?_)
      refine Reg.op rfl (Ope.load rfl rfl ?_)
      refine Reg.op rfl (Ope.add rfl rfl (by omega) ?_)
      refine Reg.op rfl (Ope.asg rfl ?_)
      refine Reg.nil (Run.region (cx_ok _ _ _) (Reg.op rfl (Ope.mov rfl ?_)))
      refine Reg.op rfl (Ope.mov rfl ?_)
      refine Reg.op rfl (Ope.bsl rfl rfl rfl rfl ?_)
      refine Reg.op rfl (Ope.apU (o':=o') (vs:=(s.dn most (o.take i)).map I) (ws:=[I nx]) rfl (by rw [hnx];first | (rw [if_pos hc];rfl) | (rw [if_neg (by rw [hc];decide)];rfl)) (by simp) (fun j hj=>⟨map_ne (by have:=hO j hj;omega),rfl⟩) (by simp only [List.length_map,List.length_singleton];omega) (by simp only [List.length_map,List.length_singleton];omega) (by decide) (by intro v hv;obtain ⟨_,_,rfl⟩:=List.mem_map.1 hv;rfl) (by intro v hv;simp only [List.mem_singleton] at hv;subst hv;exact ⟨rfl,rfl⟩) ?_)
      refine Reg.op rfl (Ope.asg rfl ?_)
      refine Reg.nil (Run.bend (Run.region (cx_ok _ _ _) (Reg.op rfl (Ope.mov rfl ?_))))
      refine Reg.op rfl (Ope.add rfl rfl (by omega) ?_)
      refine Reg.op rfl (Ope.asg rfl ?_)
      exact Reg.nil (Run.lend ⟨(i+1,some (m+1),m+1+1),by show o.length - (i+1) < o.length - i;omega,⟨by show i+1≤o.length;omega,fun j hj=>by cases hj;exact ⟨Nat.lt_succ_self _,Nat.succ_ne_zero _⟩⟩,⟨rfl,rfl,rfl,congrArg (fun l=>some (PV.sl (.own (m+1)) l)) (by rw [hdn,List.map_append];rfl),congrArg (fun x=>some (I x)) (by show _=(s.past Shp.p0 (o.take (i+1))).f most;rw [hnxe,hnx];first | rw [if_pos hc] | rw [if_neg (by rw [hc];decide)]),rfl,trivial⟩,rfl,rfl⟩)
     ·refine Run.region (cx_ok _ _ _) (Reg.op rfl (Ope.mov rfl ?_))
      refine Reg.op rfl (Ope.fld rfl rfl ?_)
      refine Reg.op rfl (Ope.fld rfl rfl ?_)
      refine Reg.op rfl (Ope.load rfl rfl ?_)
      refine Reg.op rfl (Ope.add rfl rfl (by omega) ?_)
      refine Reg.op rfl (Ope.asg rfl ?_)
      refine Reg.nil (Run.region (cx_ok _ _ _) (Reg.op rfl (Ope.mov rfl ?_)))
      refine Reg.op rfl (Ope.mov rfl ?_)
      refine Reg.op rfl (Ope.bsl rfl rfl rfl rfl ?_)
      refine Reg.op rfl (Ope.apU (o':=o') (vs:=(s.dn most (o.take i)).map I) (ws:=[I nx]) rfl (by rw [hnx];first | (rw [if_pos hc];rfl) | (rw [if_neg (by rw [hc];decide)];rfl)) (by simp) (fun j hj=>⟨map_ne (by have:=hO j hj;omega),rfl⟩) (by simp only [List.length_map,List.length_singleton];omega) (by simp only [List.length_map,List.length_singleton];omega) (by decide) (by intro v hv;obtain ⟨_,_,rfl⟩:=List.mem_map.1 hv;rfl) (by intro v hv;simp only [List.mem_singleton] at hv;subst hv;exact ⟨rfl,rfl⟩) ?_)
      refine Reg.op rfl (Ope.asg rfl ?_)
      refine Reg.nil (Run.bend (Run.region (cx_ok _ _ _) (Reg.op rfl (Ope.mov rfl ?_))))
      refine Reg.op rfl (Ope.add rfl rfl (by omega) ?_)
      refine Reg.op rfl (Ope.asg rfl ?_)
      exact Reg.nil (Run.lend ⟨(i+1,some (m+1),m+1+1),by show o.length - (i+1) < o.length - i;omega,⟨by show i+1≤o.length;omega,fun j hj=>by cases hj;exact ⟨Nat.lt_succ_self _,Nat.succ_ne_zero _⟩⟩,⟨rfl,rfl,rfl,congrArg (fun l=>some (PV.sl (.own (m+1)) l)) (by rw [hdn,List.map_append];rfl),congrArg (fun x=>some (I x)) (by show _=(s.past Shp.p0 (o.take (i+1))).f most;rw [hnxe,hnx];first | rw [if_pos hc] | rw [if_neg (by rw [hc];decide)]),rfl,trivial⟩,rfl,rfl⟩)
   ·refine Dra.on' rfl rfl rfl rfl rfl .sure (Ope.fld rfl rfl ?_)
    refine Dra.on' rfl rfl rfl rfl rfl .sure (Ope.load rfl rfl ?_)
    refine Dra.on' rfl rfl rfl rfl rfl .sure (Ope.mov rfl ?_)
    refine Dra.on' rfl rfl rfl rfl rfl .sure (Ope.mov rfl ?_)
    refine Dra.on' rfl rfl rfl rfl rfl .sure (Ope.sub rfl rfl (by omega) ?_)
    refine Dra.on' rfl rfl rfl rfl rfl .sure (Ope.idxM (m:=i - 1) (f:=N) rfl rfl (by rw [show ((i:Int) - 1)=((i - 1:Nat):Int) from by omega];rfl) (by omega) (fun _=>rfl) ?_)
    refine Dra.on' rfl rfl rfl rfl rfl .sure (Ope.load rfl rfl ?_)
    refine Dra.on' rfl rfl rfl rfl rfl .sure (Ope.idxM (m:=o[i - 1]'(by omega)) (f:=Job.v) rfl rfl rfl (hkp (by omega)).2.1 (fun _=>rfl) ?_)
    refine Dra.on' rfl rfl rfl rfl rfl .sure (Ope.fld rfl rfl ?_)
    refine Dra.on' rfl rfl rfl rfl rfl .sure (Ope.load rfl rfl ?_)
    refine Dra.on' rfl rfl rfl rfl rfl .sure (Ope.fld rfl rfl ?_)
    refine Dra.on' rfl rfl rfl rfl rfl .sure (Ope.load rfl rfl ?_)
    refine Dra.on' rfl rfl rfl rfl rfl .sure (Ope.ne rfl rfl ?_)
    refine Dra.op' rfl rfl rfl .sure (Ope.pickF rfl rfl ?_)
    refine Dra.nil (Run.cut (fun e' d' h'=>Lsub [(1,.sl t (o.map N)),(2,B most),(3,.fp (s.v t1 t2)),(7,.sl (tlU o') ((s.dn most (o.take i)).map I)),(8,I (if jb.kd=pk then now else now+s.set q)),(9,I i),(10,.fp jb.v)] e'∧d'=[]∧h'=HE (m+1) (ownU o'++[])) ?_ ?_)
    ·refine Run.condX rfl (fun hc=>?_) fun hc=>?_
     ·refine Run.region (cx_ok _ _ _) (Reg.op rfl (Ope.mov rfl ?_))
      refine Reg.op rfl (Ope.fld rfl rfl ?_)
      refine Reg.op rfl (Ope.load rfl rfl ?_)
      refine Reg.op rfl (Ope.fld rfl rfl ?_)
      refine Reg.op rfl (Ope.load rfl rfl ?_)
      refine Reg.op rfl (Ope.idxM (m:=q) (f:=I) rfl rfl (by rw [hq];rfl) hql (fun _=>rfl) ?_)
      refine Reg.op rfl (Ope.load rfl rfl ?_)
      refine Reg.op rfl (Ope.add rfl rfl (by omega) ?_)
      refine Reg.op rfl (Ope.asg rfl ?_)
      refine Reg.nil ?_
      first
      | exact Run.lend ⟨⟨rfl,rfl,rfl,rfl,congrArg (fun x=>some (I x)) (by rw [if_neg (by have:=hz (by omega);omega),← hsa]),rfl,rfl,trivial⟩,rfl,rfl⟩
      | exact Run.lend ⟨⟨rfl,rfl,rfl,rfl,congrArg (fun x=>some (I x)) (by obtain ⟨_,_,h9⟩:=hkp (by omega);rw [if_neg (by omega),← hsa]),rfl,rfl,trivial⟩,rfl,rfl⟩
      | exact Run.lend ⟨⟨rfl,rfl,rfl,rfl,congrArg (fun x=>some (I x)) (by obtain ⟨_,_,h9⟩:=hkp (by omega);rw [if_pos (by omega)]),rfl,rfl,trivial⟩,rfl,rfl⟩
     ·refine Run.skip ?_
      first
      | exact Run.lend ⟨⟨rfl,rfl,rfl,rfl,congrArg (fun x=>some (I x)) (by rw [if_neg (by have:=hz (by omega);omega),← hsa]),rfl,rfl,trivial⟩,rfl,rfl⟩
      | exact Run.lend ⟨⟨rfl,rfl,rfl,rfl,congrArg (fun x=>some (I x)) (by obtain ⟨_,_,h9⟩:=hkp (by omega);rw [if_neg (by omega),← hsa]),rfl,rfl,trivial⟩,rfl,rfl⟩
      | exact Run.lend ⟨⟨rfl,rfl,rfl,rfl,congrArg (fun x=>some (I x)) (by obtain ⟨_,_,h9⟩:=hkp (by omega);rw [if_pos (by omega)]),rfl,rfl,trivial⟩,rfl,rfl⟩
    ·rintro e' d' h' ⟨hsb2,rfl,rfl⟩;refine Run.less hsb2 ?_
     refine Run.seq ?_
     have hrb:0≤(if jb.kd=pk then now else now+s.set q)∧(if jb.kd=pk then now else now+s.set q)≤11000:=by split<;>omega
     generalize (if jb.kd=pk then now else now+s.set q)=rd at *
     refine Run.region (cx_ok _ _ _) (Reg.op rfl (Ope.mov rfl ?_))
     refine Reg.op rfl (Ope.fld rfl rfl ?_)
     refine Reg.op rfl (Ope.load rfl rfl ?_)
     refine Reg.op rfl (Ope.maxI rfl rfl ?_)
     refine Reg.op rfl (Ope.asg rfl ?_)
     refine Reg.nil (Run.seq (Run.seq (Run.region (cx_ok _ _ _) (Reg.op rfl (Ope.mov rfl ?_)))))
     refine Reg.nil (Run.condX rfl (fun hc=>?_) fun hc=>?_)
     ·refine Run.region (cx_ok _ _ _) (Reg.op rfl (Ope.mov rfl ?_))
      refine Reg.op rfl (Ope.fld rfl rfl ?_)
      refine Reg.op rfl (Ope.fld rfl rfl ?_)
      refine Reg.op rfl (Ope.load rfl rfl ?_)
      refine Reg.op rfl (Ope.add rfl rfl (by omega) ?_)
      refine Reg.op rfl (Ope.asg rfl ?_)
      refine Reg.nil (Run.region (cx_ok _ _ _) (Reg.op rfl (Ope.mov rfl ?_)))
      refine Reg.op rfl (Ope.mov rfl ?_)
      refine Reg.op rfl (Ope.bsl rfl rfl rfl rfl ?_)
      refine Reg.op rfl (Ope.apU (o':=o') (vs:=(s.dn most (o.take i)).map I) (ws:=[I nx]) rfl (by rw [hnx];first | (rw [if_pos hc];rfl) | (rw [if_neg (by rw [hc];decide)];rfl)) (by simp) (fun j hj=>⟨map_ne (by have:=hO j hj;omega),rfl⟩) (by simp only [List.length_map,List.length_singleton];omega) (by simp only [List.length_map,List.length_singleton];omega) (by decide) (by intro v hv;obtain ⟨_,_,rfl⟩:=List.mem_map.1 hv;rfl) (by intro v hv;simp only [List.mem_singleton] at hv;subst hv;exact ⟨rfl,rfl⟩) ?_)
      refine Reg.op rfl (Ope.asg rfl ?_)
      refine Reg.nil (Run.bend (Run.region (cx_ok _ _ _) (Reg.op rfl (Ope.mov rfl ?_))))
      refine Reg.op rfl (Ope.add rfl rfl (by omega) ?_)
      refine Reg.op rfl (Ope.asg rfl ?_)
      exact Reg.nil (Run.lend ⟨(i+1,some (m+1),m+1+1),by show o.length - (i+1) < o.length - i;omega,⟨by show i+1≤o.length;omega,fun j hj=>by cases hj;exact ⟨Nat.lt_succ_self _,Nat.succ_ne_zero _⟩⟩,⟨rfl,rfl,rfl,congrArg (fun l=>some (PV.sl (.own (m+1)) l)) (by rw [hdn,List.map_append];rfl),congrArg (fun x=>some (I x)) (by show _=(s.past Shp.p0 (o.take (i+1))).f most;rw [hnxe,hnx];first | rw [if_pos hc] | rw [if_neg (by rw [hc];decide)]),rfl,trivial⟩,rfl,rfl⟩)
     ·refine Run.region (cx_ok _ _ _) (Reg.op rfl (Ope.mov rfl ?_))
      refine Reg.op rfl (Ope.fld rfl rfl ?_)
      refine Reg.op rfl (Ope.fld rfl rfl ?_)
      refine Reg.op rfl (Ope.load rfl rfl ?_)
      refine Reg.op rfl (Ope.add rfl rfl (by omega) ?_)
      refine Reg.op rfl (Ope.asg rfl ?_)
      refine Reg.nil (Run.region (cx_ok _ _ _) (Reg.op rfl (Ope.mov rfl ?_)))
      refine Reg.op rfl (Ope.mov rfl ?_)
      refine Reg.op rfl (Ope.bsl rfl rfl rfl rfl ?_)
      refine Reg.op rfl (Ope.apU (o':=o') (vs:=(s.dn most (o.take i)).map I) (ws:=[I nx]) rfl (by rw [hnx];first | (rw [if_pos hc];rfl) | (rw [if_neg (by rw [hc];decide)];rfl)) (by simp) (fun j hj=>⟨map_ne (by have:=hO j hj;omega),rfl⟩) (by simp only [List.length_map,List.length_singleton];omega) (by simp only [List.length_map,List.length_singleton];omega) (by decide) (by intro v hv;obtain ⟨_,_,rfl⟩:=List.mem_map.1 hv;rfl) (by intro v hv;simp only [List.mem_singleton] at hv;subst hv;exact ⟨rfl,rfl⟩) ?_)
      refine Reg.op rfl (Ope.asg rfl ?_)
      refine Reg.nil (Run.bend (Run.region (cx_ok _ _ _) (Reg.op rfl (Ope.mov rfl ?_))))
      refine Reg.op rfl (Ope.add rfl rfl (by omega) ?_)
      refine Reg.op rfl (Ope.asg rfl ?_)
      exact Reg.nil (Run.lend ⟨(i+1,some (m+1),m+1+1),by show o.length - (i+1) < o.length - i;omega,⟨by show i+1≤o.length;omega,fun j hj=>by cases hj;exact ⟨Nat.lt_succ_self _,Nat.succ_ne_zero _⟩⟩,⟨rfl,rfl,rfl,congrArg (fun l=>some (PV.sl (.own (m+1)) l)) (by rw [hdn,List.map_append];rfl),congrArg (fun x=>some (I x)) (by show _=(s.past Shp.p0 (o.take (i+1))).f most;rw [hnxe,hnx];first | rw [if_pos hc] | rw [if_neg (by rw [hc];decide)]),rfl,trivial⟩,rfl,rfl⟩)
  ·refine Run.exit (Jmp.code (Jmp.round (Jmp.here (Run.seq ?_))))
   obtain rfl:i=o.length:=by omega
   rw [List.take_length]
   refine Run.weakT (d:=7) rfl ?_
   refine Run.region (cx_ok _ _ _) (Reg.op rfl (Ope.mov rfl ?_))
   refine Reg.op rfl (Ope.asg rfl ?_)
   exact Reg.nil (Run.ret (fin_ret (.tmp rfl .nil) (bd_sl (f:=I) (tl:=.no) rfl (fun _=>rfl) _) rfl))
end
end Go.Pv
namespace Go.Pv
open Go.Proofs Go.Am
set_option maxRecDepth 10000
abbrev pl (left:Nat):Pst:=⟨left,-1,0,0⟩
theorem alg_dJ (s:Shp):∀ (o:List Nat) (p q:Pst),q.kd=p.kd→q.f0=p.f0→q.f1=p.f1→(s.alg q o).map (fun w=>(w.d0,w.d1))=(s.alg p o).map (fun w=>(w.d0,w.d1))
  | [],_,_,_,_,_=>rfl
  | i :: l, p, q, h1, h2, h3 => by
    have hr:∀ k,s.rdy q k=s.rdy p k:=fun k=>by unfold Shp.rdy;rw [h1,h2,h3]
    have hw:(s.wrk q i).d0=(s.wrk p i).d0∧(s.wrk q i).d1=(s.wrk p i).d1:=by unfold Shp.wrk;rw [hr];exact ⟨rfl,rfl⟩
    have ih:=alg_dJ s l (s.aft (s.wrk p i)) (s.aft (s.wrk q i)) rfl hw.1 hw.2
    simp only [Shp.alg,List.map_cons,ih,hw.1,hw.2]
theorem atI_take : ∀ {xs : List Int} {x : Int} {i : Nat}, (0 ≤ atI xs x ∧ atI xs x ≤ i) ↔ x ∈ xs.take (i + 1)
  | [],x,i=>by simp [atI]
  | y :: l, x, i => by
    simp only [atI,List.take_succ_cons,List.mem_cons]
    split
    · next h=>simp [h]
    · next h =>
      have hxy:¬ x=y:=fun e=>h e.symm
      split
      · next h2 =>
        have:¬ x∈l.take i:=fun hm=>by
          have:=atI_neg.2 (List.mem_of_mem_take hm)
          omega
        simp [hxy,this]
      · next h2 =>
        cases i with
        | zero=>simp [hxy];omega
        | succ k =>
          have ih:=atI_take (xs:=l) (x:=x) (i:=k)
          rw [← ih]
          simp only [hxy,false_or]
          omega
def Miss (left:Nat) (o:List Nat) (i q k:Nat):Prop:=q.testBit k=true∧left.testBit k=false∧(atI (o.map fun i:Nat=>(i:Int)) (k:Int) < 0∨(i:Int) < atI (o.map fun i:Nat=>(i:Int)) (k:Int))
theorem miss_bad {s : Shp} {H : Int} (hs : s.ok H) {left : Nat} (hleft : left < 64) {o : List Nat} (hl : o.length ≤ 6) (ho : ∀ i ∈ o, i < s.jo.length) {i : Nat} (hi : i < o.length) {q : Nat} (hq : (s.job o[i]).af = (q : Int)) (hw : i < (s.alg (pl left) o).length) :
    (∀ k,k < s.jo.length→Miss left o i q k→s.bad (s.alg (pl left) o)[i]=1) ∧
    ((∀ k,k < s.jo.length→¬ Miss left o i q k)→s.bad (s.alg (pl left) o)[i]=if (s.job o[i]).bt < (s.dn true o).getD i 0 then 2 else 0):=by
  have hoi:=ho _ (List.getElem_mem hi)
  have hjo:=hs.job hoi
  have haf:=hjo.af
  rw [hq] at haf
  have hq2:q < 2 ^ s.jo.length∧q.testBit o[i]=false:=⟨by have:=haf.2.1;omega,by have:=haf.2.2;rw [show ((q:Int)).toNat=q from by omega] at this;exact this⟩
  have h64:2 ^ s.jo.length≤2 ^ 6:=Nat.pow_le_pow_right (by decide) hs.jo
  have hJ:(s.past (pl left) (o.take i)).J=orJ left (o.take i):=past_orJ s _ _
  have hJ64:orJ left (o.take i) < 64:=by
    rw [← hJ]
    exact past_J s _ _ hleft fun j hj=>by have:=ho j (List.mem_of_mem_take hj);have:=hs.jo;omega
  rw [alg_at s o (pl left) i hi]
  have hgd:(s.dn true o).getD i 0=(s.dn true o)[i]'(by rw [dn_len];exact hi):=by simp [List.getD,dn_len,hi]
  have hd:(s.wrk (s.past (pl left) (o.take i)) o[i]).d1=(s.dn true o).getD i 0:=by
    rw [hgd]
    have h:=alg_dJ s o Shp.p0 (pl left) rfl rfl rfl
    have h2:=congrArg (fun l=>(l[i]?).map Prod.snd) h
    simp only [List.getElem?_map] at h2
    rw [List.getElem?_eq_getElem hw,List.getElem?_eq_getElem (by rw [alg_len];exact hi),alg_at s o (pl left) i hi] at h2
    simp only [Option.map_some,Option.some.injEq] at h2
    rw [h2]
    simp [Shp.dn,Wrk.d]
  have he:s.early (s.wrk (s.past (pl left) (o.take i)) o[i])=!decide (((q &&& (2 ^ 64 - 1 - orJ left (o.take i)):Nat):Int)=0):=by
    show (!decide ((((s.job o[i]).af.toNat &&& (2 ^ 64 - 1 - (s.past (pl left) (o.take i)).J):Nat):Int)=0))=_
    rw [hJ,hq];rfl
  have hlate:s.late (s.wrk (s.past (pl left) (o.take i)) o[i])=decide ((s.job o[i]).bt < (s.dn true o).getD i 0):=by
    rw [← hd];rfl
  have hin:∀ k:Nat,q.testBit k=true→((0≤atI (o.map fun i:Nat=>(i:Int)) (k:Int)∧atI (o.map fun i:Nat=>(i:Int)) (k:Int)≤i)↔k∈o.take i):=fun k hk=>by
    rw [atI_take,← List.map_take,List.take_succ_eq_append_getElem hi,List.map_append]
    simp only [List.mem_append,List.mem_map,List.map_cons,List.map_nil,List.mem_singleton]
    constructor
    · rintro (⟨a, ha, hb⟩ | h)
      · have : a = k := by omega
        subst this;exact ha
      · exfalso
        have:k=o[i]:=by omega
        rw [this] at hk
        rw [hk] at hq2
        cases hq2.2
    · intro h
      exact .inl ⟨k,h,rfl⟩
  have hsub:=sub_iff (x:=q) (q:=orJ left (o.take i)) (by omega) (by omega)
  unfold Shp.bad
  rw [he,hlate]
  constructor
  · rintro k hk ⟨m1, m2, m3⟩
    rw [if_pos]
    rw [Bool.not_eq_true',decide_eq_false_iff_not]
    intro h0
    have h1:=hsub.1 (by omega) k m1
    rw [orJ_bit,m2,Bool.false_or,decide_eq_true_eq] at h1
    have:=(hin k m1).2 h1
    omega
  · intro hno
    have h0:q &&& (2 ^ 64 - 1 - orJ left (o.take i))=0:=hsub.2 fun k hk=>by
      have hkn:k < s.jo.length:=by
        rcases Nat.lt_or_ge k s.jo.length with h | h
        · exact h
        · rw [Nat.testBit_lt_two_pow (Nat.lt_of_lt_of_le hq2.1 (Nat.pow_le_pow_right (by decide) h))] at hk;cases hk
      rw [orJ_bit]
      cases hb:left.testBit k with
      | true=>rfl
      | false =>
        rw [Bool.false_or,decide_eq_true_eq]
        refine (hin k hk).1 ?_
        have hnn:¬ (atI (o.map fun i:Nat=>(i:Int)) (k:Int) < 0∨(i:Int) < atI (o.map fun i:Nat=>(i:Int)) (k:Int)):=fun h=>hno k hkn ⟨hk,hb,h⟩
        omega
    rw [h0]
    simp
section
variable (s:Shp) {t1 t2:Tail} (h1:t1.isOwn=false) (h2:t2.isOwn=false)
include h1 h2
theorem f52 {H : Int} (hs : s.ok H) (t : Tail) (ht : t.isOwn = false) (o : List Nat) (hl : o.length ≤ 6) (ho : ∀ i ∈ o, i < s.jo.length) (i : Nat) (hi : i < o.length) (left : Nat) (hleft : left < 64) :
    ∃ b,b=s.bad ((s.alg (pl left) o)[i]'(by rw [alg_len];exact hi))∧Fn P0 52 [s.v t1 t2,.sl t (o.map N),N i,N left] (I b):=by
  refine ⟨_,rfl,?_⟩
  have hoi:o[i] < s.jo.length:=ho _ (List.getElem_mem hi)
  have haf:=(hs.job hoi).af
  obtain ⟨q,hq⟩:∃ q:Nat,(s.job o[i]).af=(q:Int):=⟨(s.job o[i]).af.toNat,by omega⟩
  have h64:2 ^ s.jo.length≤2 ^ 6:=Nat.pow_le_pow_right (by decide) hs.jo
  have hq64:q < 64:=by have:=haf.2.1;rw [hq] at this;omega
  obtain ⟨hm1,hm2⟩:=miss_bad hs hleft hl ho hi hq (by rw [alg_len];exact hi)
  have hn6:=hs.jo
  have hjb:=Shp.job_at hoi
  rw [hjb] at hq hm2
  have hdl:=dn_len s true o
  have hat:∀ k:Nat,Fn P0 68 [.sl t (o.map N),N k] (I (atI (o.map fun i:Nat=>(i:Int)) (k:Int))):=fun k=>by
    have h:=f68 t (o.map fun i:Nat=>(i:Int)) (by rw [List.length_map];omega) (k:Int)
    rw [map_N] at h
    exact h
  have hba:∀ k:Nat,PV.bds 0 [.sl t (o.map N),N k]=true:=fun x=>bds_cons (bd_sl (f:=N) ht (fun _=>rfl) _) rfl
  have hdo:=f49 s h1 h2 hs t o hl ho true
  have hbd:PV.bds 0 [s.v t1 t2,.sl t (o.map N),B true]=true:=bd_shpV s h1 h2 (bds_cons (bd_sl (f:=N) ht (fun _=>rfl) _) rfl)
  have hgd:∀ h:i < (s.dn true o).length,(s.dn true o)[i]=(s.dn true o).getD i 0:=fun h=>by simp [List.getD,h]
  unfold Miss at hm1 hm2
  generalize (s.dn true o).getD i 0=z at *
  generalize s.dn true o=D at *
  generalize (o.map fun i:Nat=>(i:Int))=xs at *
  generalize s.bad _=b at *
  refine PFun.of (C:=c52) (cx_ok _ _ _) rfl (fn:=Try.f52) (by kernel_rfl) (c:=_) rfl rfl rfl ?_
  refine Run.seq (Run.region (cx_ok _ _ _) (Reg.op rfl (Ope.boxF rfl rfl ?_)))
  refine Reg.op rfl (Ope.asg rfl ?_)
  refine Reg.nil (Run.seq (Run.draw (cx_ok _ _ _) [(0,true),(1,false),(2,true),(3,true),(4,true),(5,false),(6,true),(7,false),(8,true),(9,true)] (by kernel_rfl) (Dra.op' rfl rfl rfl .sure (Ope.fld rfl rfl ?_))))
  refine Dra.op' rfl rfl rfl (.load rfl) (Ope.load rfl rfl ?_)
  refine Dra.op' rfl rfl rfl .sure (Ope.mov rfl ?_)
  refine Dra.op' rfl rfl rfl .sure (Ope.mov rfl ?_)
  refine Dra.op' rfl rfl rfl .sure (Ope.idxM (m:=i) (f:=N) rfl rfl rfl hi (fun _=>rfl) ?_)
  refine Dra.op' rfl rfl rfl (.load rfl) (Ope.load rfl rfl ?_)
  refine Dra.op' rfl rfl rfl .sure (Ope.idxM (m:=o[i]) (f:=Job.v) rfl rfl rfl hoi (fun _=>rfl) ?_)
  refine Dra.op' rfl rfl rfl (.load rfl) (Ope.load rfl rfl ?_)
  refine Dra.op' rfl rfl rfl .sure (Ope.newL rfl ?_)
  refine Dra.op' rfl rfl rfl .sure (Ope.store rfl rfl hget_hd rfl rfl rfl ?_)
  refine Dra.nil (Run.seq (Run.seq (Run.frz (d:=9) true rfl hget_hd rfl ?_)))
  refine Run.wide (m:=1) (l':=[]) (Nat.le_refl _) trivial ?_
  generalize s.jo[o[i]]=jb at *
  refine Run.region (cx_ok _ _ _) (Reg.op rfl (Ope.asg rfl ?_))
  refine Reg.nil (Run.block (Run.loop (α:=Nat) (fun k=>[(1,.sl t (o.map N)),(2,N i),(3,N left),(4,.fp (s.v t1 t2)),(9,.fp jb.v),(10,I k)]) (fun _=>HE 1 []) (fun k=>k≤s.jo.length∧∀ k',k' < k→¬ (q.testBit k'=true∧left.testBit k'=false∧(atI xs (k':Int) < 0∨(i:Int) < atI xs (k':Int)))) (fun k=>s.jo.length - k) 0 ⟨rfl,rfl,rfl,rfl,rfl,rfl,trivial⟩ rfl ⟨Nat.zero_le _,fun k' h=>absurd h (Nat.not_lt_zero _)⟩ (fun k hk=>?_)))
  obtain ⟨hk,hall⟩:=hk
  refine Run.seq (Run.seq (Run.region (cx_ok _ _ _) (Reg.op rfl (Ope.mov rfl ?_))))
  refine Reg.op rfl (Ope.fld rfl rfl ?_)
  refine Reg.op rfl (Ope.load rfl rfl ?_)
  refine Reg.op rfl (Ope.len (m:=s.jo.length) rfl (by simp) ?_)
  refine Reg.op rfl (Ope.lt rfl rfl ?_)
  refine Reg.nil (Run.condX rfl (fun hc=>?_) fun hc=>?_)
  ·refine Run.skip (Run.seq (Run.block (Run.seq (Run.region (cx_ok _ _ _) (Reg.op rfl (Ope.mov rfl ?_))))))
   refine Reg.op rfl (Ope.mov rfl ?_)
   refine Reg.op rfl (Ope.cf rfl rfl (hat k) (hba k) ?_)
   refine Reg.op rfl (Ope.asg rfl ?_)
   refine Reg.nil (Run.seq (Run.region (cx_ok _ _ _) (Reg.op rfl (Ope.fld rfl rfl ?_))))
   refine Reg.op rfl (Ope.load rfl rfl ?_)
   refine Reg.op rfl (Ope.mov rfl ?_)
   refine Reg.op rfl (Ope.cf rfl rfl (by rw [hq];exact f60 q k (by omega) (by omega)) rfl ?_)
   refine Reg.op rfl (Ope.mov rfl ?_)
   refine Reg.splitX rfl rfl (fun hg=>?_) fun hg=>?_
   ·refine Reg.on rfl rfl rfl (Ope.mov rfl ?_)
    refine Reg.on rfl rfl rfl (Ope.mov rfl ?_)
    refine Reg.on rfl rfl rfl (Ope.cf rfl rfl (f60 left k (by omega) (by omega)) rfl ?_)
    refine Reg.on rfl rfl rfl (Ope.not rfl ?_)
    refine Reg.op rfl (Ope.pickT rfl rfl ?_)
    refine Reg.op rfl (Ope.mov rfl ?_)
    refine Reg.splitX rfl rfl (fun hg=>?_) fun hg=>?_
    ·refine Reg.on rfl rfl rfl (Ope.mov rfl ?_)
     refine Reg.on rfl rfl rfl (Ope.lt rfl rfl ?_)
     refine Reg.on rfl rfl rfl (Ope.mov rfl ?_)
     refine Reg.splitX rfl rfl (fun hg=>?_) fun hg=>?_
     ·refine Reg.off rfl rfl rfl (Reg.off rfl rfl rfl (Reg.off rfl rfl rfl (Reg.on rfl rfl rfl (Ope.pickT rfl rfl ?_))))
      refine Reg.op rfl (Ope.pickT rfl rfl ?_)
      refine Reg.nil (Run.condT rfl (Run.seq (Run.region (cx_ok _ _ _) (Reg.op rfl (Ope.asg rfl ?_)))))
      refine Reg.nil (Run.ret (Jmp.retB (Jmp.code (Jmp.round (Jmp.retB (Jmp.code (fin_ret (.tmp rfl .nil) rfl ?_)))))))
      first
      | (rw [hm1 k (by omega) ⟨by assumption,by assumption,by omega⟩];done)
      | (rw [hm1 k (by omega) ⟨by assumption,by assumption,by omega⟩];rfl)
      | (rw [hm2 (fun k' hk'=>hall k' (by omega)),if_pos (by rw [← hgd (by rw [hdl];exact hi)];exact hc)];rfl)
      | (rw [hm2 (fun k' hk'=>hall k' (by omega)),if_neg (by rw [← hgd (by rw [hdl];exact hi)];exact hc)];rfl)
     ·refine Reg.on rfl rfl rfl (Ope.mov rfl ?_)
      refine Reg.on rfl rfl rfl (Ope.mov rfl ?_)
      refine Reg.on rfl rfl rfl (Ope.gt rfl rfl ?_)
      refine Reg.on rfl rfl rfl (Ope.pickF rfl rfl ?_)
      refine Reg.op rfl (Ope.pickT rfl rfl ?_)
      refine Reg.nil (Run.condX rfl (fun hc=>?_) fun hc=>?_)
      ·refine Run.seq (Run.region (cx_ok _ _ _) (Reg.op rfl (Ope.asg rfl ?_)))
       refine Reg.nil (Run.ret (Jmp.retB (Jmp.code (Jmp.round (Jmp.retB (Jmp.code (fin_ret (.tmp rfl .nil) rfl ?_)))))))
       first
       | (rw [hm1 k (by omega) ⟨by assumption,by assumption,by omega⟩];done)
       | (rw [hm1 k (by omega) ⟨by assumption,by assumption,by omega⟩];rfl)
       | (rw [hm2 (fun k' hk'=>hall k' (by omega)),if_pos (by rw [← hgd (by rw [hdl];exact hi)];exact hc)];rfl)
       | (rw [hm2 (fun k' hk'=>hall k' (by omega)),if_neg (by rw [← hgd (by rw [hdl];exact hi)];exact hc)];rfl)
      ·refine Run.skip (Run.bend (Run.region (cx_ok _ _ _) (Reg.op rfl (Ope.mov rfl ?_))))
       refine Reg.op rfl (Ope.add rfl rfl (by omega) ?_)
       refine Reg.op rfl (Ope.asg rfl ?_)
       refine Reg.nil ?_
       exact Run.lend ⟨k+1,by omega,⟨by omega,fun k' hk'=>by
         by_cases hkk:k'=k
         · subst hkk
           rintro ⟨m1,m2,m3⟩
           first | omega | (simp_all;done)
         · exact hall k' (by omega)⟩,⟨rfl,rfl,rfl,rfl,rfl,rfl,trivial⟩,rfl,rfl⟩
    ·refine Reg.off rfl rfl rfl (Reg.off rfl rfl rfl (Reg.off rfl rfl rfl (Reg.past rfl rfl rfl (Reg.past rfl rfl rfl (Reg.past rfl rfl rfl (Reg.off rfl rfl rfl (Reg.op rfl (Ope.pickF rfl rfl ?_))))))))
     refine Reg.nil (Run.condF rfl (Run.skip (Run.bend (Run.region (cx_ok _ _ _) (Reg.op rfl (Ope.mov rfl ?_))))))
     refine Reg.op rfl (Ope.add rfl rfl (by omega) ?_)
     refine Reg.op rfl (Ope.asg rfl ?_)
     refine Reg.nil ?_
     exact Run.lend ⟨k+1,by omega,⟨by omega,fun k' hk'=>by
       by_cases hkk:k'=k
       · subst hkk
         rintro ⟨m1,m2,m3⟩
         first | omega | (simp_all;done)
       · exact hall k' (by omega)⟩,⟨rfl,rfl,rfl,rfl,rfl,rfl,trivial⟩,rfl,rfl⟩
   ·refine Reg.off rfl rfl rfl (Reg.off rfl rfl rfl (Reg.off rfl rfl rfl (Reg.off rfl rfl rfl (Reg.op rfl (Ope.pickF rfl rfl ?_)))))
    refine Reg.op rfl (Ope.mov rfl ?_)
    refine Reg.off rfl rfl rfl (Reg.off rfl rfl rfl (Reg.off rfl rfl rfl (Reg.past rfl rfl rfl (Reg.past rfl rfl rfl (Reg.past rfl rfl rfl (Reg.off rfl rfl rfl (Reg.op rfl (Ope.pickF rfl rfl ?_))))))))
    refine Reg.nil (Run.condF rfl (Run.skip (Run.bend (Run.region (cx_ok _ _ _) (Reg.op rfl (Ope.mov rfl ?_))))))
    refine Reg.op rfl (Ope.add rfl rfl (by omega) ?_)
    refine Reg.op rfl (Ope.asg rfl ?_)
    refine Reg.nil ?_
    exact Run.lend ⟨k+1,by omega,⟨by omega,fun k' hk'=>by
      by_cases hkk:k'=k
      · subst hkk
        rintro ⟨m1,m2,m3⟩
        first | omega | (simp_all;done)
      · exact hall k' (by omega)⟩,⟨rfl,rfl,rfl,rfl,rfl,rfl,trivial⟩,rfl,rfl⟩
  ·refine Run.exit (Jmp.code (Jmp.round (Jmp.here (Run.seq (Run.seq (Run.draw (cx_ok _ _ _) [(0,true),(1,true),(3,true),(6,true),(7,false),(2,true),(4,true),(5,true),(8,true)] (by kernel_rfl) (Dra.op' rfl rfl rfl .sure (Ope.load rfl rfl ?_))))))))
   refine Dra.op' rfl rfl rfl .sure (Ope.mov rfl ?_)
   refine Dra.op' rfl rfl rfl .sure (Ope.mov rfl ?_)
   refine Dra.op' rfl rfl rfl .sure (Ope.fld rfl rfl ?_)
   refine Dra.op' rfl rfl rfl (.load rfl) (Ope.load rfl rfl ?_)
   refine Dra.op' rfl rfl rfl .sure (Ope.cf rfl rfl hdo hbd ?_)
   refine Dra.op' rfl rfl rfl .sure (Ope.idxM (m:=i) (f:=I) rfl rfl rfl (by rw [hdl];exact hi) (fun _=>rfl) ?_)
   refine Dra.op' rfl rfl rfl .sure (Ope.load rfl rfl ?_)
   refine Dra.op' rfl rfl rfl .sure (Ope.gt rfl rfl ?_)
   refine Dra.nil (Run.condX rfl (fun hc=>?_) fun hc=>?_)
   ·refine Run.seq (Run.region (cx_ok _ _ _) (Reg.op rfl (Ope.asg rfl ?_)))
    refine Reg.nil (Run.ret (Jmp.code (fin_ret (.tmp rfl .nil) rfl ?_)))
    first
    | (rw [hm1 k (by omega) ⟨by assumption,by assumption,by omega⟩];done)
    | (rw [hm1 k (by omega) ⟨by assumption,by assumption,by omega⟩];rfl)
    | (rw [hm2 (fun k' hk'=>hall k' (by omega)),if_pos (by rw [← hgd (by rw [hdl];exact hi)];exact hc)];rfl)
    | (rw [hm2 (fun k' hk'=>hall k' (by omega)),if_neg (by rw [← hgd (by rw [hdl];exact hi)];exact hc)];rfl)
   ·refine Run.skip (Run.seq (Run.region (cx_ok _ _ _) (Reg.op rfl (Ope.asg rfl ?_))))
    refine Reg.nil (Run.ret (fin_ret (.tmp rfl .nil) rfl ?_))
    first
    | (rw [hm1 k (by omega) ⟨by assumption,by assumption,by omega⟩];done)
    | (rw [hm1 k (by omega) ⟨by assumption,by assumption,by omega⟩];rfl)
    | (rw [hm2 (fun k' hk'=>hall k' (by omega)),if_pos (by rw [← hgd (by rw [hdl];exact hi)];exact hc)];rfl)
    | (rw [hm2 (fun k' hk'=>hall k' (by omega)),if_neg (by rw [← hgd (by rw [hdl];exact hi)];exact hc)];rfl)
theorem f55 {H:Int} (hs:s.ok H) (t:Tail) (ht:t.isOwn=false) (o:List Nat) (hl:o.length≤6) (ho:∀ i∈o,i < s.jo.length) (left:Nat) (hleft:left < 64) :
    Fn P0 55 [s.v t1 t2,.sl t (o.map N),N left] (B (s.flt (s.alg (pl left) o)).isNone):=by
  have hwl:(s.alg (pl left) o).length=o.length:=alg_len _ _ _
  have hbr:∀ i (hi:i < o.length),∃ b,(∀ hw:i < (s.alg (pl left) o).length,b=s.bad (s.alg (pl left) o)[i])∧Fn P0 52 [s.v t1 t2,.sl t (o.map N),N i,N left] (I b):=fun i hi=>by
    obtain ⟨b,hb,h⟩:=f52 s h1 h2 hs t ht o hl ho i hi left hleft
    exact ⟨b,fun _=>hb,h⟩
  have hbb:∀ i:Nat,PV.bds 0 [s.v t1 t2,.sl t (o.map N),N i,N left]=true:=fun i=>bd_shpV s h1 h2 (bds_cons (bd_sl (f:=N) ht (fun _=>rfl) _) rfl)
  have hnone:(∀ k (hk:k < (s.alg (pl left) o).length),s.bad (s.alg (pl left) o)[k]=0)→(s.flt (s.alg (pl left) o)).isNone=true:=fun h=>by rw [flt_none h];rfl
  have hsome:∀ k (hk:k < (s.alg (pl left) o).length),s.bad (s.alg (pl left) o)[k]≠0→(s.flt (s.alg (pl left) o)).isNone=false:=fun k hk h=>by
    cases hf:s.flt (s.alg (pl left) o) with
    | none=>exact absurd (flt_all hf k hk) h
    | some x=>rfl
  generalize s.alg (pl left) o=ws at *
  refine PFun.of (C:=c55) (cx_ok _ _ _) rfl (fn:=Try.f55) (by kernel_rfl) (c:=_) rfl rfl rfl ?_
  refine Run.seq (Run.region (cx_ok _ _ _) (Reg.op rfl (Ope.boxF rfl rfl ?_)))
  refine Reg.op rfl (Ope.asg rfl ?_)
  refine Reg.nil (Run.seq (Run.seq (Run.region (cx_ok _ _ _) (Reg.op rfl (Ope.asg rfl ?_)))))
  refine Reg.nil (Run.block (Run.loop (α:=Nat) (fun k=>[(1,.sl t (o.map N)),(2,N left),(3,.fp (s.v t1 t2)),(7,I k)]) (fun _=>HE 0 []) (fun k=>k≤o.length∧∀ k' (h:k' < ws.length),k' < k→s.bad ws[k']=0) (fun k=>o.length - k) 0 ⟨rfl,rfl,rfl,rfl,trivial⟩ rfl ⟨Nat.zero_le _,fun k' _ h=>absurd h (Nat.not_lt_zero _)⟩ (fun k hk=>?_)))
  obtain ⟨hk,hall⟩:=hk
  refine Run.seq (Run.seq (Run.region (cx_ok _ _ _) (Reg.op rfl (Ope.mov rfl ?_))))
  refine Reg.op rfl (Ope.mov rfl ?_)
  refine Reg.op rfl (Ope.len (m:=o.length) rfl (by simp) ?_)
  refine Reg.op rfl (Ope.lt rfl rfl ?_)
  refine Reg.nil (Run.condX rfl (fun hc=>?_) fun hc=>?_)
  ·refine Run.skip (Run.seq (Run.block (Run.seq ?_)))
   have hlt:k < o.length:=by omega
   obtain ⟨b,hb,hbf⟩:=hbr k hlt
   have hb:=hb (by omega)
   refine Run.region (cx_ok _ _ _) (Reg.op rfl (Ope.load rfl rfl ?_))
   refine Reg.op rfl (Ope.mov rfl ?_)
   refine Reg.op rfl (Ope.mov rfl ?_)
   refine Reg.op rfl (Ope.mov rfl ?_)
   refine Reg.op rfl (Ope.cf rfl rfl hbf (hbb k) ?_)
   refine Reg.op rfl (Ope.ne rfl rfl ?_)
   refine Reg.nil (Run.condX rfl (fun hc=>?_) fun hc=>?_)
   ·refine Run.seq (Run.region (cx_ok _ _ _) (Reg.op rfl (Ope.asg rfl ?_)))
    refine Reg.nil (Run.ret (Jmp.retB (Jmp.code (Jmp.round (Jmp.retB (Jmp.code (fin_ret (.tmp rfl .nil) rfl ?_)))))))
    first
    | (rw [hsome k (by omega) (by omega)];rfl)
    | (rw [hnone fun k' hk'=>hall k' hk' (by omega)];rfl)
   ·refine Run.skip (Run.bend (Run.region (cx_ok _ _ _) (Reg.op rfl (Ope.mov rfl ?_))))
    refine Reg.op rfl (Ope.add rfl rfl (by omega) ?_)
    refine Reg.op rfl (Ope.asg rfl ?_)
    refine Reg.nil ?_
    exact Run.lend ⟨k+1,by omega,⟨by omega,fun k' hk1 hk'=>by
      by_cases hkk:k'=k
      · subst hkk;omega
      · exact hall k' hk1 (by omega)⟩,⟨rfl,rfl,rfl,rfl,trivial⟩,rfl,rfl⟩
  ·refine Run.exit (Jmp.code (Jmp.round (Jmp.here (Run.seq (Run.region (cx_ok _ _ _) (Reg.op rfl (Ope.asg rfl ?_)))))))
   refine Reg.nil (Run.ret (fin_ret (.tmp rfl .nil) rfl ?_))
   first
   | (rw [hsome k (by omega) (by omega)];rfl)
   | (rw [hnone fun k' hk'=>hall k' hk' (by omega)];rfl)
end
end Go.Pv
namespace Go.Pv
open Go.Proofs Go.Am
set_option maxRecDepth 10000
def lsts (n:Nat):Nat→Nat→List Nat→List (List Nat)
  | 0,_,b=>[b]
  | k+1,J,b=>((List.range n).filter fun i=>!J.testBit i).flatMap fun i=>lsts n k (J ||| 1 * 2 ^ i) (b++[i])
theorem cn_lft:∀ n,n≤6→∀ x,x < 2 ^ n→lft n x+cn x=n:=by decide
theorem flat_le {f:Nat→List (List Nat)} {B:Nat}:∀ L:List Nat,(∀ i∈L,(f i).length≤B)→(L.flatMap f).length≤L.length * B
  | [],_=>by simp
  | i :: L, h => by
    have h1:=flat_le L fun j hj=>h j (List.mem_cons_of_mem _ hj)
    have h2:=h i (by simp)
    rw [List.flatMap_cons,List.length_append,List.length_cons,Nat.succ_mul]
    omega
theorem lsts_le {n:Nat} (hn:n≤6):∀ (k J:Nat) (b:List Nat),(lsts n k J b).length≤6 ^ k
  | 0,_,_=>by simp [lsts]
  | k + 1, J, b => by
    have h1:=flat_le (f:=fun i=>lsts n k (J ||| 1 * 2 ^ i) (b++[i])) ((List.range n).filter fun i=>!J.testBit i) fun i _=>lsts_le hn k _ _
    have h2:((List.range n).filter fun i=>!J.testBit i).length≤6:=Nat.le_trans (List.length_filter_le _ _) (by simpa using hn)
    have h3:=Nat.mul_le_mul_right (6 ^ k) h2
    rw [Nat.pow_succ]
    simp only [lsts]
    omega
theorem orJ_app:∀ (b:List Nat) (J i:Nat),orJ J (b++[i])=orJ J b ||| 1 * 2 ^ i
  | [],_,_=>rfl
  | j::b,J,i=>orJ_app b _ i
theorem fresh_app:∀ (b:List Nat) (J i:Nat),fresh J b→(orJ J b).testBit i=false→fresh J (b++[i])
  | [],_,_,_,h=>⟨h,trivial⟩
  | j::b,J,i,⟨h1,h2⟩,h=>⟨h1,fresh_app b _ i h2 h⟩
abbrev gV (b:List Nat):PV:=.sl .no (b.map N)
def tlA:Option Nat→Tail
  | none=>.ex
  | some j=>.own j
def ownA:Option Nat→HL
  | none=>[]
  | some j=>[(j,some .own)]
structure OkA (o:Option Nat) (n:Nat) (out:List (List Nat)):Prop where
  lt:∀ j,o=some j→j < n
  ne:o=none↔out=[]
def QA (out:List (List Nat)) (v:PV) (h':PH):Prop:=∃ (m:Nat) (o:Option Nat),OkA o m out∧h'=HE m (ownA o)∧v=.sl (tlA o) (out.map gV)
theorem weak3 {s:St} {a b d:PV} {tl:Tail} {vs vs':List PV} (hv:vs=vs') {xs:List Value} (h:RVs s [a,b,.sl tl vs,d] xs):RVs s [a,b,.sl .no vs',d] xs:=by
  subst hv
  obtain ⟨y1,r1,rfl,h1,h⟩:=RVs_cons.1 h
  obtain ⟨y2,r2,rfl,h2,h⟩:=RVs_cons.1 h
  obtain ⟨y3,r3,rfl,h3,h⟩:=RVs_cons.1 h
  exact RVs_cons.2 ⟨_,_,rfl,h1,RVs_cons.2 ⟨_,_,rfl,h2,RVs_cons.2 ⟨_,_,rfl,RV_tl_no h3,h⟩⟩⟩
theorem ownA_up {o : Option Nat} {n : Nat} (h : ∀ j, o = some j → j < n) {x y z : Option PBlk} : ∀ i b, hget (ownA o) i = some b → hget ((n + 1, x) :: (n, y) :: (n, z) :: ownA o) i = some b := by
  intro i b hb
  cases o with
  | none=>simp [ownA,hget] at hb
  | some j =>
    have hj:=h j rfl
    have hi:i=j:=by
      by_cases hi:i=j
      · exact hi
      · rw [ownA, hget_tl hi] at hb
        simp [hget] at hb
    subst hi
    rw [hget_tl (by omega),hget_tl (by omega),hget_tl (by omega)]
    exact hb
section
variable (s:Shp) {t1 t2:Tail} (h1:t1.isOwn=false) (h2:t2.isOwn=false)
include h1 h2
theorem f85z (hn:s.jo.length≤6) (left:Nat) (hleft:left < 2 ^ s.jo.length) (b:List Nat) (hb:∀ i∈b,i < s.jo.length) (hf:fresh left b) (hk:lft s.jo.length (orJ left b)=0) (out:List (List Nat)) (o:Option Nat) (n:Nat) (ho:OkA o n out) (hout:out.length≤200000) :
    PCall P0 85 [s.v t1 t2,N left,.sl .no (b.map N),.sl (tlA o) (out.map gV)] (HE n (ownA o)) (QA (out++[b])) fun _ _=>False:=by
  have hsz:=f44 left (Nat.lt_of_lt_of_le hleft (Nat.pow_le_pow_right (by decide) hn))
  have hcl:=cn_lft _ hn left hleft
  have hfl:=fresh_lft b left hb hf
  have hmap:(out++[b]).map gV=out.map gV++[gV b]:=by simp
  rcases o with _ | j
  all_goals
    refine PCall.ofH (C:=c85) (cx_ok _ _ _) rfl (fn:=Try.f85) (by kernel_rfl) (c:=_) rfl rfl rfl (fun hok=>?_)
    refine Run.seq (Run.region (cx_ok _ _ _) (Reg.op rfl (Ope.boxF rfl rfl ?_)))
    refine Reg.op rfl (Ope.asg rfl ?_)
    refine Reg.nil (Run.seq (Run.seq (Run.draw (cx_ok _ _ _) [(0,true),(1,false),(2,true),(3,false),(4,false),(5,true),(6,true),(7,true),(8,true)] (by kernel_rfl) (Dra.op' rfl rfl rfl .sure (Ope.mov rfl ?_)))))
    refine Dra.op' rfl rfl rfl (.len rfl) (Ope.len (m:=b.length) rfl (by simp) ?_)
    refine Dra.op' rfl rfl rfl .sure (Ope.fld rfl rfl ?_)
    refine Dra.op' rfl rfl rfl (.load rfl) (Ope.load rfl rfl ?_)
    refine Dra.op' rfl rfl rfl (.len rfl) (Ope.len (m:=s.jo.length) rfl (by simp) ?_)
    refine Dra.op' rfl rfl rfl .sure (Ope.mov rfl ?_)
    refine Dra.op' rfl rfl rfl .sure (Ope.cf rfl rfl hsz rfl ?_)
    refine Dra.op' rfl rfl rfl .sure (Ope.sub rfl rfl (by omega) ?_)
    refine Dra.op' rfl rfl rfl .sure (Ope.eq rfl rfl ?_)
    refine Dra.nil (Run.condX rfl (fun hc=>?_) fun hc=>?_)
    ·refine Run.seq (Run.region (cx_ok _ _ _) (Reg.op rfl (Ope.mov rfl ?_)))
     refine Reg.op rfl (Ope.mov rfl ?_)
     refine Reg.op rfl (Ope.bsl rfl rfl rfl rfl ?_)
     first
       | (obtain rfl : out = [] := ho.ne.1 rfl
          refine Reg.op rfl (Ope.apO rfl rfl (by simp) (by simp) (by simp) (by decide) (by simp) (by intro v hv;simp only [List.mem_singleton] at hv;subst hv;exact ⟨rfl,rfl⟩) ?_))
       | refine Reg.op rfl (Ope.apP (j:=j) rfl rfl (by simp) (by intro e;have:=(ho.ne).2 (by simpa using e);cases this) hget_hd (by simp;omega) (by simp;omega) (by decide) (by intro v hv;obtain ⟨_,_,rfl⟩:=List.mem_map.1 hv;rfl) (by intro v hv;simp only [List.mem_singleton] at hv;subst hv;exact ⟨rfl,rfl⟩) ?_)
     refine Reg.op rfl (Ope.asg rfl ?_)
     refine Reg.nil (Run.ret (Jmp.code ?_))
     exact finH_ret (.tmp rfl .nil) (Nat.le_refl _) (l':=ownA (some n)) (fun i c h=>by
       by_cases hi:i=n
       · subst hi;rw [hget_hd];rw [ownA,hget_hd] at h;exact h
       · rw [ownA,hget_tl hi] at h;simp [hget] at h) ⟨n+1,some n,⟨fun j hj=>by cases hj;omega,by simp⟩,rfl,by rw [hmap];rfl⟩
    ·exfalso;omega
theorem f85s (hn : s.jo.length ≤ 6) (left : Nat) (hleft : left < 2 ^ s.jo.length) (b : List Nat) (hb : ∀ i ∈ b, i < s.jo.length) (hf : fresh left b) (k : Nat) (hk : lft s.jo.length (orJ left b) = k + 1) (out : List (List Nat)) (o : Option Nat) (n : Nat) (ho : OkA o n out)
    (ih:∀ (z:Nat),z < s.jo.length→(orJ left b).testBit z=false→∀ (out:List (List Nat)) (o:Option Nat) (n:Nat),OkA o n out→out.length+6 ^ k≤200000→PCall P0 85 [s.v t1 t2,N left,.sl .no ((b++[z]).map N),.sl (tlA o) (out.map gV)] (HE n (ownA o)) (QA (out++lsts s.jo.length k (orJ left b ||| 1 * 2 ^ z) (b++[z]))) fun _ _=>False)
    (hout:out.length+6 ^ (k+1)≤200000) :
    PCall P0 85 [s.v t1 t2,N left,.sl .no (b.map N),.sl (tlA o) (out.map gV)] (HE n (ownA o)) (QA (out++lsts s.jo.length (k+1) (orJ left b) b)) fun _ _=>False:=by
  have hl64:left < 64:=Nat.lt_of_lt_of_le hleft (Nat.pow_le_pow_right (n:=2) (by decide) hn)
  have hsz:=f44 left hl64
  have hcl:=cn_lft _ hn left hleft
  have hfl:=fresh_lft b left hb hf
  have hbl:b.length≤6:=by omega
  have hat:∀ z:Nat,∃ a,Fn P0 68 [.sl .no (b.map N),N z] (I a)∧(a < 0↔¬ z∈b):=fun z=>by
    have h:=f68 .no (b.map fun i:Nat=>(i:Int)) (by rw [List.length_map];omega) (z:Int)
    rw [map_N] at h
    refine ⟨_,h,?_⟩
    have h3:=atI_neg (xs:=b.map fun i:Nat=>(i:Int)) (x:=(z:Int))
    have h4:(z:Int)∈b.map (fun i:Nat=>(i:Int))↔z∈b:=by
      constructor
      · intro h
        obtain ⟨a,ha,he⟩:=List.mem_map.1 h
        have:a=z:=by omega
        subst this;exact ha
      · intro h;exact List.mem_map.2 ⟨z,h,rfl⟩
    rw [← h4,← h3]
    omega
  have hba:∀ z:Nat,PV.bds 0 [.sl .no (b.map N),N z]=true:=fun x=>bds_cons (bd_sl (f:=N) (tl:=.no) rfl (fun _=>rfl) _) rfl
  have hbit:∀ z,(orJ left b).testBit z=(left.testBit z || decide (z∈b)):=fun z=>orJ_bit z b left
  have hbz0f:∀ z,left.testBit z=false→¬ z∈b→(orJ left b).testBit z=false:=fun z h h'=>by rw [hbit,h,decide_eq_false h'];rfl
  let oz:Nat→List (List Nat):=fun z=>out++((List.range z).filter fun i=>!(orJ left b).testBit i).flatMap fun i=>lsts s.jo.length k (orJ left b ||| 1 * 2 ^ i) (b++[i])
  have hoz1:∀ z,(orJ left b).testBit z=false→oz (z+1)=oz z++lsts s.jo.length k (orJ left b ||| 1 * 2 ^ z) (b++[z]):=by
    intro z hz
    show out++_=(out++_)++_
    rw [List.range_succ,List.filter_append,List.filter_cons,hz]
    simp [List.flatMap_append]
  have hoz0:∀ z,(orJ left b).testBit z=true→oz (z+1)=oz z:=by
    intro z hz
    show out++_=out++_
    rw [List.range_succ,List.filter_append,List.filter_cons,hz]
    simp
  have hozn:oz s.jo.length=out++lsts s.jo.length (k+1) (orJ left b) b:=rfl
  have hozz:oz 0=out:=by
    show out++[]=out
    simp
  have hlen:∀ z,z < s.jo.length→(oz z).length+6 ^ k≤200000:=by
    intro z hz
    have h3:=flat_le (f:=fun i=>lsts s.jo.length k (orJ left b ||| 1 * 2 ^ i) (b++[i])) ((List.range z).filter fun i=>!(orJ left b).testBit i) fun i _=>lsts_le hn k _ _
    have h4:((List.range z).filter fun i=>!(orJ left b).testBit i).length≤5:=Nat.le_trans (List.length_filter_le _ _) (by simp;omega)
    have h5:=Nat.mul_le_mul_right (6 ^ k) h4
    have hp:6 ^ (k+1)=6 ^ k * 6:=Nat.pow_succ ..
    show (out++_).length+_≤_
    rw [List.length_append]
    omega
  clear_value oz
  rcases b with _ | ⟨c,b⟩
  all_goals
    refine PCall.ofH (C:=c85) (cx_ok _ _ _) rfl (fn:=Try.f85) (by kernel_rfl) (c:=_) rfl rfl rfl (fun hok=>?_)
    refine Run.seq (Run.region (cx_ok _ _ _) (Reg.op rfl (Ope.boxF rfl rfl ?_)))
    refine Reg.op rfl (Ope.asg rfl ?_)
    refine Reg.nil (Run.seq (Run.seq (Run.draw (cx_ok _ _ _) [(0,true),(1,false),(2,true),(3,false),(4,false),(5,true),(6,true),(7,true),(8,true)] (by kernel_rfl) (Dra.op' rfl rfl rfl .sure (Ope.mov rfl ?_)))))
    first
      | refine Dra.op' rfl rfl rfl (.len rfl) (Ope.len (m:=(c::b).length) rfl (by simp) ?_)
      | refine Dra.op' rfl rfl rfl (.len rfl) (Ope.len (m:=0) rfl rfl ?_)
    refine Dra.op' rfl rfl rfl .sure (Ope.fld rfl rfl ?_)
    refine Dra.op' rfl rfl rfl (.load rfl) (Ope.load rfl rfl ?_)
    refine Dra.op' rfl rfl rfl (.len rfl) (Ope.len (m:=s.jo.length) rfl (by simp) ?_)
    refine Dra.op' rfl rfl rfl .sure (Ope.mov rfl ?_)
    refine Dra.op' rfl rfl rfl .sure (Ope.cf rfl rfl hsz rfl ?_)
    refine Dra.op' rfl rfl rfl .sure (Ope.sub rfl rfl (by omega) ?_)
    refine Dra.op' rfl rfl rfl .sure (Ope.eq rfl rfl ?_)
    refine Dra.nil (Run.condX rfl (fun hc=>?_) fun hc=>?_)
    ·exfalso;simp only [List.length_cons,List.length_nil] at *;omega
    ·refine Run.skip (Run.seq (Run.seq (Run.region (cx_ok _ _ _) (Reg.op rfl (Ope.asg rfl ?_)))))
     refine Reg.nil (Run.block ?_)
     first
       | refine Run.loop (α:=Nat×Option Nat×Nat) (fun t=>[(1,N left),(2,.sl .no ((c::b).map N)),(3,.sl (tlA t.2.1) ((oz t.1).map gV)),(4,.fp (s.v t1 t2)),(9,I t.1)]) (fun t=>HE t.2.2 (ownA t.2.1)) (fun t=>t.1≤s.jo.length∧OkA t.2.1 t.2.2 (oz t.1)) (fun t=>s.jo.length - t.1) (0,o,n) ⟨rfl,rfl,by show some (PV.sl (tlA o) (out.map gV))=some (PV.sl (tlA o) ((oz 0).map gV));rw [hozz],rfl,rfl,trivial⟩ rfl ⟨Nat.zero_le _,by rw [hozz];exact ho⟩ (fun t ht=>?_)
       | refine Run.loop (α:=Nat×Option Nat×Nat) (fun t=>[(1,N left),(2,.sl .no []),(3,.sl (tlA t.2.1) ((oz t.1).map gV)),(4,.fp (s.v t1 t2)),(9,I t.1)]) (fun t=>HE t.2.2 (ownA t.2.1)) (fun t=>t.1≤s.jo.length∧OkA t.2.1 t.2.2 (oz t.1)) (fun t=>s.jo.length - t.1) (0,o,n) ⟨rfl,rfl,by show some (PV.sl (tlA o) (out.map gV))=some (PV.sl (tlA o) ((oz 0).map gV));rw [hozz],rfl,rfl,trivial⟩ rfl ⟨Nat.zero_le _,by rw [hozz];exact ho⟩ (fun t ht=>?_)
     obtain ⟨z,o,m⟩:=t
     obtain ⟨hz,hoA⟩:=ht
     simp only at hz hoA
     first
       | show Run _ _ _ _ [(1,N left),(2,.sl .no ((c::b).map N)),(3,.sl (tlA o) ((oz z).map gV)),(4,.fp (s.v t1 t2)),(9,I z)] [] (HE m (ownA o))
       | show Run _ _ _ _ [(1,N left),(2,.sl .no []),(3,.sl (tlA o) ((oz z).map gV)),(4,.fp (s.v t1 t2)),(9,I z)] [] (HE m (ownA o))
     refine Run.seq (Run.seq (Run.region (cx_ok _ _ _) (Reg.op rfl (Ope.mov rfl ?_))))
     refine Reg.op rfl (Ope.fld rfl rfl ?_)
     refine Reg.op rfl (Ope.load rfl rfl ?_)
     refine Reg.op rfl (Ope.len (m:=s.jo.length) rfl (by simp) ?_)
     refine Reg.op rfl (Ope.lt rfl rfl ?_)
     refine Reg.nil (Run.condX rfl (fun hc=>?_) fun hc=>?_)
     ·refine Run.skip (Run.seq (Run.block (Run.seq ?_)))
      have hz2:z < s.jo.length:=by omega
      obtain ⟨a,haf,hai⟩:=hat z
      have hbz:=hbit z
      refine Run.region (cx_ok _ _ _) (Reg.op rfl (Ope.mov rfl ?_))
      refine Reg.op rfl (Ope.mov rfl ?_)
      refine Reg.op rfl (Ope.cf rfl rfl haf (hba z) ?_)
      refine Reg.op rfl (Ope.lt rfl rfl ?_)
      refine Reg.op rfl (Ope.mov rfl ?_)
      refine Reg.splitX rfl rfl (fun hg=>?_) fun hg=>?_
      ·refine Reg.on rfl rfl rfl (Ope.mov rfl ?_)
       refine Reg.on rfl rfl rfl (Ope.mov rfl ?_)
       refine Reg.on rfl rfl rfl (Ope.cf rfl rfl (f60 left z (by omega) (by omega)) rfl ?_)
       refine Reg.on rfl rfl rfl (Ope.not rfl ?_)
       refine Reg.op rfl (Ope.pickT rfl rfl ?_)
       refine Reg.nil (Run.condX rfl (fun hc=>?_) fun hc=>?_)
       ·have hbz0:=hbz0f z hc (hai.1 hg)
        refine Run.draw (cx_ok _ _ _) [(0,false),(1,true),(2,true),(3,true),(5,true),(6,true),(8,true),(4,true),(7,true),(9,true),(10,true)] (by kernel_rfl) (Dra.op' rfl rfl rfl (.load rfl) (Ope.load rfl rfl ?_))
        refine Dra.op' rfl rfl rfl .sure (Ope.mov rfl ?_)
        refine Dra.op' rfl rfl rfl .sure (Ope.bsl rfl rfl rfl rfl ?_)
        refine Dra.op' rfl rfl rfl .sure (Ope.mov rfl ?_)
        refine Dra.op' rfl rfl rfl .sure (Ope.mov rfl ?_)
        refine Dra.op' rfl rfl rfl .sure (Ope.bsl rfl rfl rfl rfl ?_)
        refine Dra.op' rfl rfl rfl .sure (Ope.mov rfl ?_)
        first
          | refine Dra.op' rfl rfl rfl .sure (Ope.ap0 rfl rfl ?_)
          | refine Dra.op' rfl rfl rfl .sure (Ope.apO rfl rfl (by simp) (by simp only [List.length_map,List.length_nil];omega) (by simp only [List.length_map,List.length_nil];omega) (by decide) (by simp) (by intro v hv;obtain ⟨_,_,rfl⟩:=List.mem_map.1 hv;exact ⟨rfl,rfl⟩) ?_)
        first
          | refine Dra.op' rfl rfl rfl .sure (Ope.apX rfl rfl (by simp) (by simp) (by simp) (by decide) (by simp) (by intro v hv;simp only [List.mem_singleton] at hv;subst hv;exact ⟨rfl,rfl⟩) ?_)
          | refine Dra.op' rfl rfl rfl .sure (Ope.apP (j:=m) rfl rfl (by simp) (by simp) hget_hd (by simp only [List.nil_append,List.length_map,List.length_singleton];omega) (by simp only [List.nil_append,List.length_map,List.length_singleton];omega) (by decide) (by intro v hv;simp only [List.nil_append] at hv;obtain ⟨_,_,rfl⟩:=List.mem_map.1 hv;rfl) (by intro v hv;simp only [List.mem_singleton] at hv;subst hv;exact ⟨rfl,rfl⟩) ?_)
        first
          | refine Dra.op' rfl rfl rfl .sure (Ope.callW (l':=ownA o) rfl rfl (fun s xs h=>weak3 (vs':=((c::b)++[z]).map N) (by simp) h) (Nat.le_refl _) (ownA_up hoA.lt) (ih z hz2 hbz0 (oz z) o (m+1+1) ⟨fun j hj=>by have:=hoA.lt j hj;omega,hoA.ne⟩ (hlen z hz2)) (fun v h' hq=>?_))
          | refine Dra.op' rfl rfl rfl .sure (Ope.callW (l':=ownA o) rfl rfl (fun s xs h=>weak3 (vs':=([]++[z]).map N) (by simp) h) (Nat.le_refl _) (fun _ _ h=>h) (ih z hz2 hbz0 (oz z) o (m+1) ⟨fun j hj=>by have:=hoA.lt j hj;omega,hoA.ne⟩ (hlen z hz2)) (fun v h' hq=>?_))
        obtain ⟨m2,o2,hok2,rfl,rfl⟩:=hq
        rw [← hoz1 z hbz0] at *
        refine Dra.op' rfl rfl rfl .sure (Ope.asg rfl ?_)
        refine Dra.nil (Run.bend (Run.region (cx_ok _ _ _) (Reg.op rfl (Ope.mov rfl ?_))))
        refine Reg.op rfl (Ope.add rfl rfl (by omega) ?_)
        refine Reg.op rfl (Ope.asg rfl ?_)
        refine Reg.nil ?_
        first
        | exact Run.lend ⟨(z+1,o2,m2),by simp only;omega,⟨by simp only;omega,hok2⟩,⟨rfl,rfl,rfl,rfl,rfl,trivial⟩,rfl,rfl⟩
        | exact Run.lend ⟨(z+1,o,m),by simp only;omega,⟨by simp only;omega,by show OkA o m (oz (z+1));rw [hoz0 z (by rw [hbz];first | (rw [hc];rfl) | (rw [decide_eq_true (Classical.not_not.1 fun h9=>absurd (hai.2 h9) (by omega)),Bool.or_true]))];exact hoA⟩,⟨rfl,rfl,by show some (PV.sl (tlA o) ((oz z).map gV))=some (PV.sl (tlA o) ((oz (z+1)).map gV));rw [hoz0 z (by rw [hbz];first | (rw [hc];rfl) | (rw [decide_eq_true (Classical.not_not.1 fun h9=>absurd (hai.2 h9) (by omega)),Bool.or_true]))],rfl,rfl,trivial⟩,rfl,rfl⟩
       ·refine Run.skip (Run.bend (Run.region (cx_ok _ _ _) (Reg.op rfl (Ope.mov rfl ?_))))
        refine Reg.op rfl (Ope.add rfl rfl (by omega) ?_)
        refine Reg.op rfl (Ope.asg rfl ?_)
        refine Reg.nil ?_
        first
        | exact Run.lend ⟨(z+1,o2,m2),by simp only;omega,⟨by simp only;omega,hok2⟩,⟨rfl,rfl,rfl,rfl,rfl,trivial⟩,rfl,rfl⟩
        | exact Run.lend ⟨(z+1,o,m),by simp only;omega,⟨by simp only;omega,by show OkA o m (oz (z+1));rw [hoz0 z (by rw [hbz];first | (rw [hc];rfl) | (rw [decide_eq_true (Classical.not_not.1 fun h9=>absurd (hai.2 h9) (by omega)),Bool.or_true]))];exact hoA⟩,⟨rfl,rfl,by show some (PV.sl (tlA o) ((oz z).map gV))=some (PV.sl (tlA o) ((oz (z+1)).map gV));rw [hoz0 z (by rw [hbz];first | (rw [hc];rfl) | (rw [decide_eq_true (Classical.not_not.1 fun h9=>absurd (hai.2 h9) (by omega)),Bool.or_true]))],rfl,rfl,trivial⟩,rfl,rfl⟩
      ·refine Reg.off rfl rfl rfl (Reg.off rfl rfl rfl (Reg.off rfl rfl rfl (Reg.off rfl rfl rfl (Reg.op rfl (Ope.pickF rfl rfl ?_)))))
       refine Reg.nil (Run.condF rfl (Run.skip (Run.bend (Run.region (cx_ok _ _ _) (Reg.op rfl (Ope.mov rfl ?_))))))
       refine Reg.op rfl (Ope.add rfl rfl (by omega) ?_)
       refine Reg.op rfl (Ope.asg rfl ?_)
       refine Reg.nil ?_
       first
       | exact Run.lend ⟨(z+1,o2,m2),by simp only;omega,⟨by simp only;omega,hok2⟩,⟨rfl,rfl,rfl,rfl,rfl,trivial⟩,rfl,rfl⟩
       | exact Run.lend ⟨(z+1,o,m),by simp only;omega,⟨by simp only;omega,by show OkA o m (oz (z+1));rw [hoz0 z (by rw [hbz];first | (rw [hc];rfl) | (rw [decide_eq_true (Classical.not_not.1 fun h9=>absurd (hai.2 h9) (by omega)),Bool.or_true]))];exact hoA⟩,⟨rfl,rfl,by show some (PV.sl (tlA o) ((oz z).map gV))=some (PV.sl (tlA o) ((oz (z+1)).map gV));rw [hoz0 z (by rw [hbz];first | (rw [hc];rfl) | (rw [decide_eq_true (Classical.not_not.1 fun h9=>absurd (hai.2 h9) (by omega)),Bool.or_true]))],rfl,rfl,trivial⟩,rfl,rfl⟩
     ·refine Run.exit (Jmp.code (Jmp.round (Jmp.here (Run.seq (Run.region (cx_ok _ _ _) (Reg.op rfl (Ope.mov rfl ?_)))))))
      refine Reg.op rfl (Ope.asg rfl ?_)
      refine Reg.nil (Run.ret ?_)
      obtain rfl:z=s.jo.length:=by omega
      exact finH_ret (.tmp rfl .nil) (Nat.le_refl _) (fun _ _ h=>h) ⟨m,o,by rw [← hozn];exact hoA,rfl,by rw [← hozn];rfl⟩
end
end Go.Pv
namespace Go.Pv
open Go.Proofs Go.Am
set_option maxRecDepth 10000
def lstS (n:Nat):Nat→Nat→List (List Nat)
  | 0,_=>[[]]
  | k+1,J=>((List.range n).filter fun i=>!J.testBit i).flatMap fun i=>(lstS n k (J ||| 1 * 2 ^ i)).map fun l=>i::l
theorem lsts_S (n:Nat):∀ (k J:Nat) (b:List Nat),lsts n k J b=(lstS n k J).map fun l=>b++l
  | 0,_,b=>by simp [lsts,lstS]
  | k + 1, J, b => by
    simp only [lsts,lstS,List.map_flatMap,List.map_map]
    rw [List.flatMap_def,List.flatMap_def]
    congr 1
    refine List.map_congr_left fun i _=>?_
    rw [lsts_S n k]
    refine List.map_congr_left fun l _=>?_
    simp
theorem lstS_mem {n:Nat}:∀ (k J:Nat) (l:List Nat),l∈lstS n k J→l.length=k∧∀ i∈l,i < n
  | 0, _, l, h => by
    simp only [lstS,List.mem_singleton] at h
    subst h
    exact ⟨rfl,fun i hi=>by cases hi⟩
  | k + 1, J, l, h => by
    obtain ⟨i,hi,h⟩:=List.mem_flatMap.1 h
    obtain ⟨m,hm,rfl⟩:=List.mem_map.1 h
    obtain ⟨h1,h2⟩:=lstS_mem k _ m hm
    have:=List.mem_range.1 (List.mem_filter.1 hi).1
    exact ⟨by simp [h1],fun j hj=>by
      rcases List.mem_cons.1 hj with rfl | hj
      · exact this
      · exact h2 j hj⟩
theorem filter_flat {α β:Type} (p:β→Bool) (f:α→List β):∀ L:List α,(L.flatMap f).filter p=L.flatMap fun a=>(f a).filter p
  | []=>rfl
  | a::L=>by simp only [List.flatMap_cons,List.filter_append,filter_flat p f L]
theorem flat_filter {α β:Type} (p:α→Bool) (f:α→List β):∀ L:List α,(L.filter p).flatMap f=L.flatMap fun a=>if p a=true then f a else []
  | []=>rfl
  | a :: L => by
    simp only [List.filter_cons,List.flatMap_cons]
    rw [← flat_filter p f L]
    cases p a<;>simp
theorem lstS_sqs (s : Shp) : ∀ (k : Nat) (p : Pst), (lstS s.jo.length k p.J).filter (fun o => (s.flt (s.alg p o)).isNone) = (s.sqs k p).map Sq.o
  | 0,p=>rfl
  | k + 1, p => by
    have ih:=fun i=>lstS_sqs s k (s.aft (s.wrk p i))
    simp only [lstS,Shp.sqs,Shp.nxt]
    rw [filter_flat,List.map_flatMap,flat_filter,flat_filter]
    rw [List.flatMap_def,List.flatMap_def]
    congr 1
    refine List.map_congr_left fun i _=>?_
    have h1:((lstS s.jo.length k (p.J ||| 1 * 2 ^ i)).map fun l=>i::l).filter (fun o=>(s.flt (s.alg p o)).isNone) =
        if s.bad (s.wrk p i)=0 then (((lstS s.jo.length k (p.J ||| 1 * 2 ^ i)).filter fun o=>(s.flt (s.alg (s.aft (s.wrk p i)) o)).isNone).map fun l=>i::l) else []:=by
      rw [List.filter_map]
      split
      · next h =>
        congr 1
        refine List.filter_congr fun l _=>?_
        show (s.flt (s.wrk p i::s.alg (s.aft (s.wrk p i)) l)).isNone=_
        simp only [Shp.flt,h,if_true]
      · next h =>
        rw [List.map_eq_nil_iff,List.filter_eq_nil_iff]
        intro l _
        show ¬ (s.flt (s.wrk p i::s.alg (s.aft (s.wrk p i)) l)).isNone=true
        simp only [Shp.flt,h,if_false]
        simp
    have h2:=ih i
    change (lstS s.jo.length k (p.J ||| 1 * 2 ^ i)).filter _=_ at h2
    have hcan:s.can p i=(!p.J.testBit i && decide (s.bad (s.wrk p i)=0)):=by
      unfold Shp.can Shp.bad
      cases s.early (s.wrk p i)<;>cases s.late (s.wrk p i)<;>simp
    rw [h1,h2,hcan]
    cases hb:p.J.testBit i with
    | true=>simp
    | false =>
      by_cases h:s.bad (s.wrk p i)=0
      · simp only [h, if_true, decide_true, Bool.not_false, Bool.and_self, List.map_map]
        rfl
      · simp only [h,if_false,decide_false,Bool.and_false,Bool.false_eq_true,Bool.not_false,if_true]
def Shp.ors (s:Shp) (left:Nat):List (List Nat):=(s.sqs (lft s.jo.length left) (pl left)).map Sq.o
theorem weak34 {s:St} {a b:PV} {xs:List Value} (h:RVs s [a,b,.sl .ex [],.sl .ex []] xs):RVs s [a,b,.sl .no (([]:List Nat).map N),.sl (tlA none) (([]:List (List Nat)).map gV)] xs:=weak3 (vs:=[]) (vs':=[]) rfl h
section
variable (s:Shp) {t1 t2:Tail} (h1:t1.isOwn=false) (h2:t2.isOwn=false)
include h1 h2
theorem f85 (hn : s.jo.length ≤ 6) (left : Nat) (hleft : left < 2 ^ s.jo.length) : ∀ (k : Nat) (b : List Nat) (out : List (List Nat)) (o : Option Nat) (n : Nat), (∀ i ∈ b, i < s.jo.length) → fresh left b → lft s.jo.length (orJ left b) = k → OkA o n out → out.length + 6 ^ k ≤ 200000 →
    PCall P0 85 [s.v t1 t2,N left,.sl .no (b.map N),.sl (tlA o) (out.map gV)] (HE n (ownA o)) (QA (out++lsts s.jo.length k (orJ left b) b)) fun _ _=>False
  | 0,b,out,o,n,hb,hf,hk,ho,hout=>f85z s h1 h2 hn left hleft b hb hf hk out o n ho (by omega)
  | k + 1, b, out, o, n, hb, hf, hk, ho, hout => f85s s h1 h2 hn left hleft b hb hf k hk out o n ho (fun z hz hbz out o n ho hout => by
      have h:=f85 hn left hleft k (b++[z]) out o n (fun i hi=>by
        rcases List.mem_append.1 hi with hi | hi
        · exact hb i hi
        · simp only [List.mem_singleton] at hi;subst hi;exact hz) (fresh_app b left z hf hbz) (by rw [orJ_app];have:=lft_set hbz s.jo.length hz;omega) ho hout
      rw [orJ_app] at h
      exact h) hout
theorem f58 {H:Int} (hs:s.ok H) (left:Nat) (hleft:left < 2 ^ s.jo.length):Fn P0 58 [s.v t1 t2,N left] (.sl .no ((s.ors left).map gV)):=by
  have hn:=hs.jo
  have hl64:left < 64:=Nat.lt_of_lt_of_le hleft (Nat.pow_le_pow_right (n:=2) (by decide) hn)
  have hlf:=lft_le (J:=left) s.jo.length
  have h6:6 ^ lft s.jo.length left≤6 ^ 6:=Nat.pow_le_pow_right (by decide) (by omega)
  have hli:=fun n=>f85 s h1 h2 hn left hleft (lft s.jo.length left) [] [] none n (fun i hi=>by cases hi) trivial rfl ⟨(fun j hj=>by cases hj),(by simp)⟩ (by simp only [List.length_nil];omega)
  have hll:=lsts_le hn (lft s.jo.length left) left []
  have hL:lsts s.jo.length (lft s.jo.length left) left []=lstS s.jo.length (lft s.jo.length left) left:=by rw [lsts_S];simp
  have hor:(lstS s.jo.length (lft s.jo.length left) left).filter (fun o=>(s.flt (s.alg (pl left) o)).isNone)=s.ors left:=lstS_sqs s _ (pl left)
  have hme:=fun l h=>lstS_mem (n:=s.jo.length) (lft s.jo.length left) left l h
  simp only [List.nil_append] at hli
  change ∀ n,PCall P0 85 _ _ (QA (lsts s.jo.length (lft s.jo.length left) left [])) _ at hli
  rw [hL] at hli hll
  rw [← hor]
  obtain ⟨rg,hrg⟩:∃ rg:List Nat→Bool,rg=fun o=>(s.flt (s.alg (pl left) o)).isNone:=⟨_,rfl⟩
  rw [← hrg]
  have hri:∀ l∈lstS s.jo.length (lft s.jo.length left) left,Fn P0 55 [s.v t1 t2,.sl .no (l.map N),N left] (B (rg l)):=fun l h=>by
    rw [hrg]
    exact f55 s h1 h2 hs .no rfl l (by have:=(hme l h).1;omega) (hme l h).2 left hl64
  generalize lstS s.jo.length (lft s.jo.length left) left=L at *
  have hbr:∀ l:List Nat,PV.bds 0 [s.v t1 t2,.sl .no (l.map N),N left]=true:=fun l=>bd_shpV s h1 h2 (bds_cons (bd_sl (f:=N) (tl:=.no) rfl (fun _=>rfl) _) rfl)
  have hbd:∀ K:List (List Nat),PV.bd 0 (.sl .no (K.map gV))=true:=fun K=>bd_sl (f:=gV) (tl:=.no) rfl (fun l=>bd_sl (f:=N) (tl:=.no) rfl (fun _=>rfl) l) K
  have hfl:∀ i,((L.take i).filter rg).length≤46656:=fun i=>Nat.le_trans (List.length_filter_le _ _) (by rw [List.length_take];omega)
  refine PFun.of (C:=c58) (cx_ok _ _ _) rfl (fn:=Try.f58) (by kernel_rfl) (c:=_) rfl rfl rfl ?_
  refine Run.seq (Run.region (cx_ok _ _ _) (Reg.op rfl (Ope.boxF rfl rfl ?_)))
  refine Reg.op rfl (Ope.asg rfl ?_)
  refine Reg.nil (Run.seq (Run.region (cx_ok _ _ _) (Reg.op rfl (Ope.load rfl rfl ?_))))
  refine Reg.op rfl (Ope.mov rfl ?_)
  refine Reg.op rfl (Ope.callW (l':=[]) rfl rfl (fun s xs h=>weak34 h) (Nat.le_refl _) (fun _ _ h=>h) (hli _) (fun v h' hq=>?_))
  obtain ⟨m0,o0,hok0,rfl,rfl⟩:=hq
  refine Reg.op rfl (Ope.asg rfl ?_)
  refine Reg.nil (Run.seq (Run.weakT (d:=5) rfl ?_))
  refine Run.wide (m:=m0) (l':=[]) (Nat.le_refl _) trivial ?_
  refine Run.region (cx_ok _ _ _) (Reg.op rfl (Ope.asg rfl ?_))
  refine Reg.nil (Run.seq (Run.seq (Run.region (cx_ok _ _ _) (Reg.op rfl (Ope.asg rfl ?_)))))
  refine Reg.nil (Run.block (Run.loop (α:=Nat×Option Nat×Nat) (fun t=>[(1,N left),(2,.fp (s.v t1 t2)),(5,.sl .no (L.map gV)),(6,.sl (tlU t.2.1) (((L.take t.1).filter rg).map gV)),(7,I t.1)]) (fun t=>HE t.2.2 (ownU t.2.1++[])) (fun t=>t.1≤L.length∧(∀ j,t.2.1=some j→j < t.2.2∧((L.take t.1).filter rg).length≠0)) (fun t=>L.length - t.1) (0,none,m0) ⟨rfl,rfl,rfl,rfl,rfl,trivial⟩ rfl ⟨Nat.zero_le _,(fun j hj=>by cases hj)⟩ (fun t ht=>?_)))
  obtain ⟨i,o',m⟩:=t
  obtain ⟨hi,hO⟩:=ht
  simp only at hi hO
  show Run _ _ _ _ [(1,N left),(2,.fp (s.v t1 t2)),(5,.sl .no (L.map gV)),(6,.sl (tlU o') (((L.take i).filter rg).map gV)),(7,I i)] [] (HE m (ownU o'++[]))
  refine Run.seq (Run.seq (Run.region (cx_ok _ _ _) (Reg.op rfl (Ope.mov rfl ?_))))
  refine Reg.op rfl (Ope.mov rfl ?_)
  refine Reg.op rfl (Ope.len (m:=L.length) rfl (by simp) ?_)
  refine Reg.op rfl (Ope.lt rfl rfl ?_)
  refine Reg.nil (Run.condX rfl (fun hc=>?_) fun hc=>?_)
  ·refine Run.skip (Run.seq (Run.block (Run.seq ?_)))
   have hlt:i < L.length:=by omega
   have hri:=hri L[i] (List.getElem_mem hlt)
   have hts:(L.take (i+1)).filter rg=(L.take i).filter rg++if rg L[i]=true then [L[i]] else []:=by
     rw [List.take_succ_eq_append_getElem hlt,List.filter_append,List.filter_cons,List.filter_nil]
   have hfli:=hfl i
   refine Run.draw (cx_ok _ _ _) [(0,true),(1,true),(2,true),(3,true),(4,true),(5,true),(6,true)] (by kernel_rfl) (Dra.op' rfl rfl rfl .sure (Ope.load rfl rfl ?_))
   refine Dra.op' rfl rfl rfl .sure (Ope.mov rfl ?_)
   refine Dra.op' rfl rfl rfl .sure (Ope.mov rfl ?_)
   refine Dra.op' rfl rfl rfl .sure (Ope.idxM (m:=i) (f:=gV) rfl rfl rfl hlt (fun _=>rfl) ?_)
   refine Dra.op' rfl rfl rfl .sure (Ope.load rfl rfl ?_)
   refine Dra.op' rfl rfl rfl .sure (Ope.mov rfl ?_)
   refine Dra.op' rfl rfl rfl .sure (Ope.cf rfl rfl hri (hbr _) ?_)
   refine Dra.nil (Run.condX rfl (fun hc=>?_) fun hc=>?_)
   ·refine Run.region (cx_ok _ _ _) (Reg.op rfl (Ope.mov rfl ?_))
    refine Reg.op rfl (Ope.mov rfl ?_)
    refine Reg.op rfl (Ope.mov rfl ?_)
    refine Reg.op rfl (Ope.idxM (m:=i) (f:=gV) rfl rfl rfl hlt (fun _=>rfl) ?_)
    refine Reg.op rfl (Ope.load rfl rfl ?_)
    refine Reg.op rfl (Ope.bsl rfl rfl rfl rfl ?_)
    refine Reg.op rfl (Ope.apU (o':=o') (vs:=((L.take i).filter rg).map gV) (ws:=[gV L[i]]) rfl rfl (by simp) (fun j hj=>⟨map_ne (hO j hj).2,rfl⟩) (by simp only [List.length_map,List.length_singleton];omega) (by simp only [List.length_map,List.length_singleton];omega) (by decide) (by intro v hv;obtain ⟨_,_,rfl⟩:=List.mem_map.1 hv;rfl) (by intro v hv;simp only [List.mem_singleton] at hv;subst hv;exact ⟨rfl,rfl⟩) ?_)
    refine Reg.op rfl (Ope.asg rfl ?_)
    refine Reg.nil (Run.bend (Run.region (cx_ok _ _ _) (Reg.op rfl (Ope.mov rfl ?_))))
    refine Reg.op rfl (Ope.add rfl rfl (by omega) ?_)
    refine Reg.op rfl (Ope.asg rfl ?_)
    refine Reg.nil ?_
    first
    | exact Run.lend ⟨(i+1,some m,m+1),by show L.length - (i+1) < L.length - i;omega,⟨by show i+1≤L.length;omega,fun j hj=>by cases hj;exact ⟨Nat.lt_succ_self _,by rw [hts,if_pos hc];simp⟩⟩,⟨rfl,rfl,rfl,congrArg (fun l=>some (PV.sl (.own m) l)) (by rw [hts,if_pos hc,List.map_append];rfl),rfl,trivial⟩,rfl,rfl⟩
    | exact Run.lend ⟨(i+1,o',m),by show L.length - (i+1) < L.length - i;omega,⟨by show i+1≤L.length;omega,fun j hj=>⟨(hO j hj).1,by rw [hts,if_neg (by rw [hc];decide),List.append_nil];exact (hO j hj).2⟩⟩,⟨rfl,rfl,rfl,congrArg (fun l=>some (PV.sl (tlU o') l)) (by rw [hts,if_neg (by rw [hc];decide),List.append_nil]),rfl,trivial⟩,rfl,rfl⟩
   ·refine Run.skip (Run.bend (Run.region (cx_ok _ _ _) (Reg.op rfl (Ope.mov rfl ?_))))
    refine Reg.op rfl (Ope.add rfl rfl (by omega) ?_)
    refine Reg.op rfl (Ope.asg rfl ?_)
    refine Reg.nil ?_
    first
    | exact Run.lend ⟨(i+1,some m,m+1),by show L.length - (i+1) < L.length - i;omega,⟨by show i+1≤L.length;omega,fun j hj=>by cases hj;exact ⟨Nat.lt_succ_self _,by rw [hts,if_pos hc];simp⟩⟩,⟨rfl,rfl,rfl,congrArg (fun l=>some (PV.sl (.own m) l)) (by rw [hts,if_pos hc,List.map_append];rfl),rfl,trivial⟩,rfl,rfl⟩
    | exact Run.lend ⟨(i+1,o',m),by show L.length - (i+1) < L.length - i;omega,⟨by show i+1≤L.length;omega,fun j hj=>⟨(hO j hj).1,by rw [hts,if_neg (by rw [hc];decide),List.append_nil];exact (hO j hj).2⟩⟩,⟨rfl,rfl,rfl,congrArg (fun l=>some (PV.sl (tlU o') l)) (by rw [hts,if_neg (by rw [hc];decide),List.append_nil]),rfl,trivial⟩,rfl,rfl⟩
  ·refine Run.exit (Jmp.code (Jmp.round (Jmp.here (Run.seq ?_))))
   obtain rfl:i=L.length:=by omega
   rw [List.take_length]
   refine Run.weakT (d:=6) rfl ?_
   refine Run.region (cx_ok _ _ _) (Reg.op rfl (Ope.mov rfl ?_))
   refine Reg.op rfl (Ope.asg rfl ?_)
   exact Reg.nil (Run.ret (fin_ret (.tmp rfl .nil) (hbd _) rfl))
end
end Go.Pv
namespace Go.Pv
open Go.Proofs Go.Am
set_option maxRecDepth 10000
section
variable (s:Shp) {t1 t2:Tail} (h1:t1.isOwn=false) (h2:t2.isOwn=false)
include h1 h2
end
end Go.Pv
namespace Go.Pv
open Go.Proofs Go.Am
set_option maxRecDepth 10000
theorem range_up (n:Nat):(List.range n).Pairwise (· < ·):=List.pairwise_lt_range
theorem leastBy_first {α:Type} {R:α→α→Prop} (f:α→Int):∀ (l:List α) (a:α),(a::l).Pairwise R→∀ x∈a::l,f x≤f (leastBy f a l)→x=leastBy f a l∨R (leastBy f a l) x
  | [], a, _, x, hx, _ => by
    simp only [List.mem_singleton] at hx
    exact .inl hx
  | b :: l, a, hp, x, hx, hf => by
    obtain ⟨h1,h2⟩:=List.pairwise_cons.1 hp
    rw [leastBy_cons] at hf ⊢
    split at hf
    · next h =>
      rw [if_pos h]
      rcases List.mem_cons.1 hx with rfl | hx
      · omega
      · exact leastBy_first f l b h2 x hx hf
    · next h =>
      rw [if_neg h]
      rcases List.mem_cons.1 hx with rfl | hx
      · exact .inl rfl
      · exact .inr (h1 x hx)
end Go.Pv
