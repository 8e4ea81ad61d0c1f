/- Parts of the proof: T51, T52 -/
import Derived.Test.YtabejoodkhlnaaaGreatP20
set_option linter.unusedVariables false
set_option linter.unusedSimpArgs false
namespace Go.Pv
open Go.Proofs Go.Am
set_option maxRecDepth 10000
theorem tup_fV (a k:Int) (y:List Int):PV.bd 0 (pone [I a,fV y,I k])=true:=by
  simp only [pone,fV,PV.bd,PV.bds,bds_I y,Bool.and_self]
theorem f68a (h a0 b0 c0 d0 a1 b1 c1 d1:Int) (hv:validR h a0 b0 c0 d0 a1 b1 c1 d1=false):Fn P0 68 [.agg [I h,I a0,I b0,I c0,I d0,I a1,I b1,I c1,I d1]] (.tup [.sl .ex [],I 1]):=by
  have h33:=f33 h a0 b0 c0 d0 a1 b1 c1 d1
  rw [hv] at h33
  refine PFun.of (C:=c68) (cx_ok _ _ _) rfl (fn:=Tryz.f68) (by kernel_rfl) (c:=_) rfl rfl rfl ?_
  refine Run.seq (Run.region (cx_ok _ _ _) (Reg.op rfl (Ope.boxF rfl rfl ?_)))
  refine Reg.op rfl (Ope.asg rfl ?_)
  refine Reg.op rfl (Ope.asg rfl ?_)
  refine Reg.nil (Run.seq (Run.seq (Run.region (cx_ok _ _ _) (Reg.op rfl (Ope.load rfl rfl ?_)))))
  refine Reg.op rfl (Ope.cf rfl rfl (h33) rfl ?_)
  refine Reg.op rfl (Ope.not rfl ?_)
  refine Reg.nil (Run.condX rfl (fun hc=>?_) fun hc=>?_)
  ·refine Run.seq (Run.region (cx_ok _ _ _) (Reg.op rfl (Ope.asg rfl ?_)))
   refine Reg.op rfl (Ope.asg rfl ?_)
   exact Reg.nil (Run.ret (Jmp.code (fin_ret (.tmp rfl (.tmp rfl .nil)) rfl rfl)))
  ·exact absurd hc (by decide)
theorem f68n (R:Rst) (hR:R.ok) (hv:validR R.m R.o0 R.t0 R.r0 R.f0 R.o1 R.t1 R.r1 R.f1=true) (hz:alls R R.m []=[]):Fn P0 68 [.agg R.cells] (.tup [.sl .ex [],I 4]):=by
  have h33:=f33 R.m R.o0 R.t0 R.r0 R.f0 R.o1 R.t1 R.r1 R.f1
  rw [hv] at h33
  have hm16:=hR.1
  have hp:=pow16 hm16
  have h62:=f62 R hR R.m hm16 R.m [] [] none 0 (by simp) (by simp) (okA0 0) (by simp;omega)
  rw [hz] at h62
  refine PFun.of (C:=c68) (cx_ok _ _ _) rfl (fn:=Tryz.f68) (by kernel_rfl) (c:=_) rfl rfl rfl ?_
  refine Run.seq (Run.region (cx_ok _ _ _) (Reg.op rfl (Ope.boxF rfl rfl ?_)))
  refine Reg.op rfl (Ope.asg rfl ?_)
  refine Reg.op rfl (Ope.asg rfl ?_)
  refine Reg.nil (Run.seq (Run.seq (Run.region (cx_ok _ _ _) (Reg.op rfl (Ope.load rfl rfl ?_)))))
  refine Reg.op rfl (Ope.cf rfl rfl (h33) rfl ?_)
  refine Reg.op rfl (Ope.not rfl ?_)
  refine Reg.nil (Run.condX rfl (fun hc=>?_) fun hc=>?_)
  ·exact absurd hc (by decide)
  ·refine Run.skip (Run.seq (Run.region (cx_ok _ _ _) (Reg.op rfl (Ope.load rfl rfl ?_))))
   refine Reg.op rfl (Ope.fld rfl rfl ?_)
   refine Reg.op rfl (Ope.load rfl rfl ?_)
   refine Reg.op rfl (Ope.callW (l':=ownA none) rfl rfl (fun s xs h=>weak3 rfl h) (Nat.le_refl _) (fun _ _ h=>h) h62 (fun v h' hq=>?_))
   obtain ⟨m2,o2,hok2,rfl,rfl⟩:=hq
   refine Reg.op rfl (Ope.asg rfl ?_)
   refine Reg.nil (Run.seq (Run.seq (Run.region (cx_ok _ _ _) (Reg.op rfl (Ope.mov rfl ?_)))))
   refine Reg.op rfl (Ope.len (m:=0) rfl rfl ?_)
   refine Reg.op rfl (Ope.eq rfl rfl ?_)
   refine Reg.nil (Run.condX rfl (fun hc=>?_) fun hc=>?_)
   ·refine Run.seq (Run.region (cx_ok _ _ _) (Reg.op rfl (Ope.asg rfl ?_)))
    refine Reg.op rfl (Ope.asg rfl ?_)
    exact Reg.nil (Run.ret (Jmp.code (fin_ret (.tmp rfl (.tmp rfl .nil)) rfl rfl)))
   ·exact absurd rfl hc
theorem f68c (R:Rst) (hR:R.ok) (hv:validR R.m R.o0 R.t0 R.r0 R.f0 R.o1 R.t1 R.r1 R.f1=true) (hz:alls R R.m []≠[]):Fn P0 68 [.agg R.cells] (.tup [.sl .no ((alls R R.m []).map fV),I 0]):=by
  have h33:=f33 R.m R.o0 R.t0 R.r0 R.f0 R.o1 R.t1 R.r1 R.f1
  rw [hv] at h33
  have hm16:=hR.1
  have hp:=pow16 hm16
  have h62:=f62 R hR R.m hm16 R.m [] [] none 0 (by simp) (by simp) (okA0 0) (by simp;omega)
  rw [List.nil_append] at h62
  generalize alls R R.m []=L at *
  have hl:L.length≠0:=fun h=>hz (List.length_eq_zero_iff.1 h)
  refine PFun.of (C:=c68) (cx_ok _ _ _) rfl (fn:=Tryz.f68) (by kernel_rfl) (c:=_) rfl rfl rfl ?_
  refine Run.seq (Run.region (cx_ok _ _ _) (Reg.op rfl (Ope.boxF rfl rfl ?_)))
  refine Reg.op rfl (Ope.asg rfl ?_)
  refine Reg.op rfl (Ope.asg rfl ?_)
  refine Reg.nil (Run.seq (Run.seq (Run.region (cx_ok _ _ _) (Reg.op rfl (Ope.load rfl rfl ?_)))))
  refine Reg.op rfl (Ope.cf rfl rfl (h33) rfl ?_)
  refine Reg.op rfl (Ope.not rfl ?_)
  refine Reg.nil (Run.condX rfl (fun hc=>?_) fun hc=>?_)
  ·exact absurd hc (by decide)
  ·refine Run.skip (Run.seq (Run.region (cx_ok _ _ _) (Reg.op rfl (Ope.load rfl rfl ?_))))
   refine Reg.op rfl (Ope.fld rfl rfl ?_)
   refine Reg.op rfl (Ope.load rfl rfl ?_)
   refine Reg.op rfl (Ope.callW (l':=ownA none) rfl rfl (fun s xs h=>weak3 rfl h) (Nat.le_refl _) (fun _ _ h=>h) h62 (fun v h' hq=>?_))
   obtain ⟨m2,o2,hok2,rfl,rfl⟩:=hq
   refine Reg.op rfl (Ope.asg rfl ?_)
   refine Reg.nil (Run.seq (Run.seq (Run.region (cx_ok _ _ _) (Reg.op rfl (Ope.mov rfl ?_)))))
   refine Reg.op rfl (Ope.len (m:=L.length) rfl (by simp) ?_)
   refine Reg.op rfl (Ope.eq rfl rfl ?_)
   refine Reg.nil (Run.condX rfl (fun hc=>?_) fun hc=>?_)
   ·exfalso;omega
   ·refine Run.skip (Run.seq (Run.weakT (d:=4) rfl ?_))
    refine Run.region (cx_ok _ _ _) (Reg.op rfl (Ope.mov rfl ?_))
    refine Reg.op rfl (Ope.asg rfl ?_)
    refine Reg.op rfl (Ope.asg rfl ?_)
    refine Reg.nil (Run.ret (fin_ret (.tmp rfl (.tmp rfl .nil)) (by show ((PV.sl .no (L.map fV)).bd 0 && _)=true;rw [sl_fV];rfl) ?_))
    rfl
theorem ref_e (g:Nat) (hg:g=23∨g=25) (h a0 b0 c0 d0 a1 b1 c1 d1:Int) (k:Int) (hk:k≠0) (h68:Fn P0 68 [.agg [I h,I a0,I b0,I c0,I d0,I a1,I b1,I c1,I d1]] (.tup [.sl .ex [],I k])):Fn P0 g [.agg [I h,I a0,I b0,I c0,I d0,I a1,I b1,I c1,I d1]] (.tup [I 0,.sl .ex [],I k]):=by
  rcases hg with rfl | rfl
  · have := hk
    refine PFun.of (C:=c23) (cx_ok _ _ _) rfl (fn:=Tryz.f23) (by kernel_rfl) (c:=_) rfl rfl rfl ?_
    refine Run.seq (Run.region (cx_ok _ _ _) (Reg.op rfl (Ope.boxF rfl rfl ?_)))
    refine Reg.op rfl (Ope.asg rfl ?_)
    refine Reg.op rfl (Ope.asg rfl ?_)
    refine Reg.op rfl (Ope.asg rfl ?_)
    refine Reg.nil (Run.seq (Run.region (cx_ok _ _ _) (Reg.op rfl (Ope.load rfl rfl ?_))))
    refine Reg.op rfl (Ope.cf rfl rfl (h68) rfl ?_)
    refine Reg.op rfl (Ope.mov rfl ?_)
    refine Reg.op rfl (Ope.ext rfl rfl ?_)
    refine Reg.op rfl (Ope.ext rfl rfl ?_)
    refine Reg.op rfl (Ope.asg rfl ?_)
    refine Reg.op rfl (Ope.asg rfl ?_)
    refine Reg.nil (Run.seq (Run.seq (Run.region (cx_ok _ _ _) (Reg.op rfl (Ope.mov rfl ?_)))))
    refine Reg.op rfl (Ope.ne rfl rfl ?_)
    refine Reg.nil (Run.condX rfl (fun hc=>?_) fun hc=>?_)
    ·refine Run.seq (Run.region (cx_ok _ _ _) (Reg.op rfl (Ope.mov rfl ?_)))
     refine Reg.op rfl (Ope.asg rfl ?_)
     refine Reg.op rfl (Ope.asg rfl ?_)
     refine Reg.op rfl (Ope.asg rfl ?_)
     exact Reg.nil (Run.ret (Jmp.code (fin_ret (.tmp rfl (.tmp rfl (.tmp rfl .nil))) rfl rfl)))
    ·exact absurd hk hc
  · have := hk
    refine PFun.of (C:=c25) (cx_ok _ _ _) rfl (fn:=Tryz.f25) (by kernel_rfl) (c:=_) rfl rfl rfl ?_
    refine Run.seq (Run.region (cx_ok _ _ _) (Reg.op rfl (Ope.boxF rfl rfl ?_)))
    refine Reg.op rfl (Ope.asg rfl ?_)
    refine Reg.op rfl (Ope.asg rfl ?_)
    refine Reg.op rfl (Ope.asg rfl ?_)
    refine Reg.nil (Run.seq (Run.region (cx_ok _ _ _) (Reg.op rfl (Ope.load rfl rfl ?_))))
    refine Reg.op rfl (Ope.cf rfl rfl (h68) rfl ?_)
    refine Reg.op rfl (Ope.mov rfl ?_)
    refine Reg.op rfl (Ope.ext rfl rfl ?_)
    refine Reg.op rfl (Ope.ext rfl rfl ?_)
    refine Reg.op rfl (Ope.asg rfl ?_)
    refine Reg.op rfl (Ope.asg rfl ?_)
    refine Reg.nil (Run.seq (Run.seq (Run.region (cx_ok _ _ _) (Reg.op rfl (Ope.mov rfl ?_)))))
    refine Reg.op rfl (Ope.ne rfl rfl ?_)
    refine Reg.nil (Run.condX rfl (fun hc=>?_) fun hc=>?_)
    ·refine Run.seq (Run.region (cx_ok _ _ _) (Reg.op rfl (Ope.mov rfl ?_)))
     refine Reg.op rfl (Ope.asg rfl ?_)
     refine Reg.op rfl (Ope.asg rfl ?_)
     refine Reg.op rfl (Ope.asg rfl ?_)
     exact Reg.nil (Run.ret (Jmp.code (fin_ret (.tmp rfl (.tmp rfl (.tmp rfl .nil))) rfl rfl)))
    ·exact absurd hk hc
theorem f23c (R:Rst) (L:List (List Int)) (h68:Fn P0 68 [.agg R.cells] (.tup [.sl .no (L.map fV),I 0])) (hL:L≠[]) (hLl:L.length≤65536) (hlen:∀ y∈L,y.length≤16) (b:List Int) (hb:∀ y,Fst (cst none) L L.length y→y=b):Fn P0 23 [.agg R.cells] (.tup [I (cst none b),.sl .no (b.map I),I 0]):=by
  obtain ⟨y0,hy0⟩:∃ y,L[0]?=some y:=⟨_,List.getElem?_eq_getElem (by have:L.length≠0:=fun h=>hL (List.length_eq_zero_iff.1 h);omega)⟩
  have hl0:0 < L.length:=(List.getElem?_eq_some_iff.1 hy0).1
  have hbd:∀ y:List Int,PV.bds 0 [.sl .no (y.map I)]=true:=by
    intro y
    simp only [PV.bds,bd_sl (f:=I) (tl:=.no) rfl (fun _=>rfl) y,Bool.and_true]
  refine PFun.of (C:=c23) (cx_ok _ _ _) rfl (fn:=Tryz.f23) (by kernel_rfl) (c:=_) rfl rfl rfl ?_
  refine Run.seq (Run.region (cx_ok _ _ _) (Reg.op rfl (Ope.boxF rfl rfl ?_)))
  refine Reg.op rfl (Ope.asg rfl ?_)
  refine Reg.op rfl (Ope.asg rfl ?_)
  refine Reg.op rfl (Ope.asg rfl ?_)
  refine Reg.nil (Run.seq (Run.region (cx_ok _ _ _) (Reg.op rfl (Ope.load rfl rfl ?_))))
  refine Reg.op rfl (Ope.cf rfl rfl (h68) rfl ?_)
  refine Reg.op rfl (Ope.mov rfl ?_)
  refine Reg.op rfl (Ope.ext rfl rfl ?_)
  refine Reg.op rfl (Ope.ext rfl rfl ?_)
  refine Reg.op rfl (Ope.asg rfl ?_)
  refine Reg.op rfl (Ope.asg rfl ?_)
  refine Reg.nil (Run.seq (Run.seq (Run.region (cx_ok _ _ _) (Reg.op rfl (Ope.mov rfl ?_)))))
  refine Reg.op rfl (Ope.ne rfl rfl ?_)
  refine Reg.nil (Run.condX rfl (fun hc=>?_) fun hc=>?_)
  ·exact absurd rfl hc
  ·refine Run.skip (Run.seq (Run.region (cx_ok _ _ _) (Reg.op rfl (Ope.mov rfl ?_))))
   refine Reg.op rfl (Ope.idxM (f:=fV) (m:=0) rfl rfl rfl hl0 (fun _=>rfl) ?_)
   refine Reg.op rfl (Ope.load rfl rfl ?_)
   refine Reg.op rfl (Ope.asg rfl ?_)
   refine Reg.nil (Run.seq (Run.seq (Run.region (cx_ok _ _ _) (Reg.op rfl (Ope.asg rfl ?_)))))
   refine Reg.nil (Run.block (Run.loop (α:=Nat×List Int) (fun s=>[(5,.sl .no (L.map fV)),(7,fV s.2),(8,I s.1)]) (fun _=>HE 0 []) (fun s=>s.1≤L.length∧Fst (cst none) L s.1 s.2) (fun s=>L.length - s.1) (0,L[0]) ⟨rfl,rfl,rfl,trivial⟩ rfl ⟨Nat.zero_le _,Fst.zero (List.getElem?_eq_getElem hl0)⟩ (fun s hs=>?_)))
   obtain ⟨i,y⟩:=s
   obtain ⟨hi,hF⟩:=hs
   simp only at hi hF
   show Run _ _ _ _ [(5,.sl .no (L.map fV)),(7,fV y),(8,I i)] [] (HE 0 [])
   have hyl:=hlen y hF.mem
   refine Run.seq (Run.seq (Run.region (cx_ok _ _ _) (Reg.op rfl (Ope.mov rfl ?_))))
   refine Reg.op rfl (Ope.mov rfl ?_)
   refine Reg.op rfl (Ope.len (m:=L.length) rfl (by simp) ?_)
   refine Reg.op rfl (Ope.lt rfl rfl ?_)
   refine Reg.nil (Run.condX rfl (fun hc=>?_) fun hc=>?_)
   ·refine Run.skip (Run.seq (Run.block (Run.seq ?_)))
    have hlt:i < L.length:=by omega
    have hgi:L[i]?=some L[i]:=List.getElem?_eq_getElem hlt
    have hil:=hlen _ (List.getElem_mem hlt)
    refine Run.region (cx_ok _ _ _) (Reg.op rfl (Ope.mov rfl ?_))
    refine Reg.op rfl (Ope.mov rfl ?_)
    refine Reg.op rfl (Ope.idxM (f:=fV) (m:=i) rfl rfl rfl hlt (fun _=>rfl) ?_)
    refine Reg.op rfl (Ope.load rfl rfl ?_)
    refine Reg.op rfl (Ope.cf rfl rfl (f38 .no L[i] hil) (hbd _) ?_)
    refine Reg.op rfl (Ope.mov rfl ?_)
    refine Reg.op rfl (Ope.cf rfl rfl (f38 .no y hyl) (hbd _) ?_)
    refine Reg.op rfl (Ope.lt rfl rfl ?_)
    refine Reg.nil (Run.condX rfl (fun hc=>?_) fun hc=>?_)
    ·refine Run.region (cx_ok _ _ _) (Reg.op rfl (Ope.mov rfl ?_))
     refine Reg.op rfl (Ope.mov rfl ?_)
     refine Reg.op rfl (Ope.idxM (f:=fV) (m:=i) rfl rfl rfl hlt (fun _=>rfl) ?_)
     refine Reg.op rfl (Ope.load rfl rfl ?_)
     refine Reg.op rfl (Ope.asg rfl ?_)
     refine Reg.nil (Run.bend (Run.region (cx_ok _ _ _) (Reg.op rfl (Ope.mov rfl ?_))))
     refine Reg.op rfl (Ope.add rfl rfl (by omega) ?_)
     refine Reg.op rfl (Ope.asg rfl ?_)
     refine Reg.nil ?_
     first
       | exact Run.lend ⟨(i+1,L[i]),by simp only;omega,⟨by simp only;omega,hF.less hgi hc⟩,⟨rfl,rfl,rfl,trivial⟩,rfl,rfl⟩
       | exact Run.lend ⟨(i+1,y),by simp only;omega,⟨by simp only;omega,hF.keep hgi hc⟩,⟨rfl,rfl,rfl,trivial⟩,rfl,rfl⟩
    ·refine Run.skip (Run.bend (Run.region (cx_ok _ _ _) (Reg.op rfl (Ope.mov rfl ?_))))
     refine Reg.op rfl (Ope.add rfl rfl (by omega) ?_)
     refine Reg.op rfl (Ope.asg rfl ?_)
     refine Reg.nil ?_
     first
       | exact Run.lend ⟨(i+1,L[i]),by simp only;omega,⟨by simp only;omega,hF.less hgi hc⟩,⟨rfl,rfl,rfl,trivial⟩,rfl,rfl⟩
       | exact Run.lend ⟨(i+1,y),by simp only;omega,⟨by simp only;omega,hF.keep hgi hc⟩,⟨rfl,rfl,rfl,trivial⟩,rfl,rfl⟩
   ·refine Run.exit (Jmp.code (Jmp.round (Jmp.here (Run.seq ?_))))
    obtain rfl:i=L.length:=by omega
    obtain rfl:=hb y hF
    refine Run.region (cx_ok _ _ _) (Reg.op rfl (Ope.mov rfl ?_))
    refine Reg.op rfl (Ope.cf rfl rfl (f38 .no y hyl) (hbd _) ?_)
    refine Reg.op rfl (Ope.mov rfl ?_)
    refine Reg.op rfl (Ope.asg rfl ?_)
    refine Reg.op rfl (Ope.asg rfl ?_)
    refine Reg.op rfl (Ope.asg rfl ?_)
    refine Reg.nil (Run.ret (fin_ret (.tmp rfl (.tmp rfl (.tmp rfl .nil))) (tup_fV _ _ _) ?_))
    rfl
def dfc (y:List Int):Int:=max (cw 0 y - cw 1 y) (cw 1 y - cw 0 y)
theorem f25c (R:Rst) (L:List (List Int)) (h68:Fn P0 68 [.agg R.cells] (.tup [.sl .no (L.map fV),I 0])) (hL:L≠[]) (hLl:L.length≤65536) (hlen:∀ y∈L,y.length≤16) (b:List Int) (hb:∀ y,Fst dfc L L.length y→y=b):Fn P0 25 [.agg R.cells] (.tup [I (dfc b),.sl .no (b.map I),I 0]):=by
  obtain ⟨y0,hy0⟩:∃ y,L[0]?=some y:=⟨_,List.getElem?_eq_getElem (by have:L.length≠0:=fun h=>hL (List.length_eq_zero_iff.1 h);omega)⟩
  have hl0:0 < L.length:=(List.getElem?_eq_some_iff.1 hy0).1
  have hbd:∀ y:List Int,PV.bds 0 [.sl .no (y.map I)]=true:=by
    intro y
    simp only [PV.bds,bd_sl (f:=I) (tl:=.no) rfl (fun _=>rfl) y,Bool.and_true]
  refine PFun.of (C:=c25) (cx_ok _ _ _) rfl (fn:=Tryz.f25) (by kernel_rfl) (c:=_) rfl rfl rfl ?_
  refine Run.seq (Run.region (cx_ok _ _ _) (Reg.op rfl (Ope.boxF rfl rfl ?_)))
  refine Reg.op rfl (Ope.asg rfl ?_)
  refine Reg.op rfl (Ope.asg rfl ?_)
  refine Reg.op rfl (Ope.asg rfl ?_)
  refine Reg.nil (Run.seq (Run.region (cx_ok _ _ _) (Reg.op rfl (Ope.load rfl rfl ?_))))
  refine Reg.op rfl (Ope.cf rfl rfl (h68) rfl ?_)
  refine Reg.op rfl (Ope.mov rfl ?_)
  refine Reg.op rfl (Ope.ext rfl rfl ?_)
  refine Reg.op rfl (Ope.ext rfl rfl ?_)
  refine Reg.op rfl (Ope.asg rfl ?_)
  refine Reg.op rfl (Ope.asg rfl ?_)
  refine Reg.nil (Run.seq (Run.seq (Run.region (cx_ok _ _ _) (Reg.op rfl (Ope.mov rfl ?_)))))
  refine Reg.op rfl (Ope.ne rfl rfl ?_)
  refine Reg.nil (Run.condX rfl (fun hc=>?_) fun hc=>?_)
  ·exact absurd rfl hc
  ·refine Run.skip (Run.seq (Run.region (cx_ok _ _ _) (Reg.op rfl (Ope.mov rfl ?_))))
   refine Reg.op rfl (Ope.idxM (f:=fV) (m:=0) rfl rfl rfl hl0 (fun _=>rfl) ?_)
   refine Reg.op rfl (Ope.load rfl rfl ?_)
   refine Reg.op rfl (Ope.asg rfl ?_)
   refine Reg.nil (Run.seq (Run.seq (Run.region (cx_ok _ _ _) (Reg.op rfl (Ope.asg rfl ?_)))))
   refine Reg.nil (Run.block (Run.loop (α:=Nat×List Int) (fun s=>[(5,.sl .no (L.map fV)),(7,fV s.2),(8,I s.1)]) (fun _=>HE 0 []) (fun s=>s.1≤L.length∧Fst dfc L s.1 s.2) (fun s=>L.length - s.1) (0,L[0]) ⟨rfl,rfl,rfl,trivial⟩ rfl ⟨Nat.zero_le _,Fst.zero (List.getElem?_eq_getElem hl0)⟩ (fun s hs=>?_)))
   obtain ⟨i,y⟩:=s
   obtain ⟨hi,hF⟩:=hs
   simp only at hi hF
   show Run _ _ _ _ [(5,.sl .no (L.map fV)),(7,fV y),(8,I i)] [] (HE 0 [])
   have hyl:=hlen y hF.mem
   refine Run.seq (Run.seq (Run.region (cx_ok _ _ _) (Reg.op rfl (Ope.mov rfl ?_))))
   refine Reg.op rfl (Ope.mov rfl ?_)
   refine Reg.op rfl (Ope.len (m:=L.length) rfl (by simp) ?_)
   refine Reg.op rfl (Ope.lt rfl rfl ?_)
   refine Reg.nil (Run.condX rfl (fun hc=>?_) fun hc=>?_)
   ·refine Run.skip (Run.seq (Run.block (Run.seq ?_)))
    have hlt:i < L.length:=by omega
    have hgi:L[i]?=some L[i]:=List.getElem?_eq_getElem hlt
    have hil:=hlen _ (List.getElem_mem hlt)
    refine Run.region (cx_ok _ _ _) (Reg.op rfl (Ope.mov rfl ?_))
    refine Reg.op rfl (Ope.mov rfl ?_)
    refine Reg.op rfl (Ope.idxM (f:=fV) (m:=i) rfl rfl rfl hlt (fun _=>rfl) ?_)
    refine Reg.op rfl (Ope.load rfl rfl ?_)
    refine Reg.op rfl (Ope.cf rfl rfl (f39 .no rfl L[i] hil) (hbd _) ?_)
    refine Reg.op rfl (Ope.mov rfl ?_)
    refine Reg.op rfl (Ope.cf rfl rfl (f39 .no rfl y hyl) (hbd _) ?_)
    refine Reg.op rfl (Ope.lt rfl rfl ?_)
    refine Reg.nil (Run.condX rfl (fun hc=>?_) fun hc=>?_)
    ·refine Run.region (cx_ok _ _ _) (Reg.op rfl (Ope.mov rfl ?_))
     refine Reg.op rfl (Ope.mov rfl ?_)
     refine Reg.op rfl (Ope.idxM (f:=fV) (m:=i) rfl rfl rfl hlt (fun _=>rfl) ?_)
     refine Reg.op rfl (Ope.load rfl rfl ?_)
     refine Reg.op rfl (Ope.asg rfl ?_)
     refine Reg.nil (Run.bend (Run.region (cx_ok _ _ _) (Reg.op rfl (Ope.mov rfl ?_))))
     refine Reg.op rfl (Ope.add rfl rfl (by omega) ?_)
     refine Reg.op rfl (Ope.asg rfl ?_)
     refine Reg.nil ?_
     first
       | exact Run.lend ⟨(i+1,L[i]),by simp only;omega,⟨by simp only;omega,hF.less hgi hc⟩,⟨rfl,rfl,rfl,trivial⟩,rfl,rfl⟩
       | exact Run.lend ⟨(i+1,y),by simp only;omega,⟨by simp only;omega,hF.keep hgi hc⟩,⟨rfl,rfl,rfl,trivial⟩,rfl,rfl⟩
    ·refine Run.skip (Run.bend (Run.region (cx_ok _ _ _) (Reg.op rfl (Ope.mov rfl ?_))))
     refine Reg.op rfl (Ope.add rfl rfl (by omega) ?_)
     refine Reg.op rfl (Ope.asg rfl ?_)
     refine Reg.nil ?_
     first
       | exact Run.lend ⟨(i+1,L[i]),by simp only;omega,⟨by simp only;omega,hF.less hgi hc⟩,⟨rfl,rfl,rfl,trivial⟩,rfl,rfl⟩
       | exact Run.lend ⟨(i+1,y),by simp only;omega,⟨by simp only;omega,hF.keep hgi hc⟩,⟨rfl,rfl,rfl,trivial⟩,rfl,rfl⟩
   ·refine Run.exit (Jmp.code (Jmp.round (Jmp.here (Run.seq ?_))))
    obtain rfl:i=L.length:=by omega
    obtain rfl:=hb y hF
    refine Run.region (cx_ok _ _ _) (Reg.op rfl (Ope.mov rfl ?_))
    refine Reg.op rfl (Ope.cf rfl rfl (f39 .no rfl y hyl) (hbd _) ?_)
    refine Reg.op rfl (Ope.mov rfl ?_)
    refine Reg.op rfl (Ope.asg rfl ?_)
    refine Reg.op rfl (Ope.asg rfl ?_)
    refine Reg.op rfl (Ope.asg rfl ?_)
    refine Reg.nil (Run.ret (fin_ret (.tmp rfl (.tmp rfl (.tmp rfl .nil))) (tup_fV _ _ _) ?_))
    rfl
end Go.Pv
namespace Go.Pv
open Go.Proofs Go.Am
set_option maxRecDepth 10000
theorem f4b (h a0 b0 c0 d0 a1 b1 c1 d1:Int) (hv:(decide (11 < h) && validR h a0 b0 c0 d0 a1 b1 c1 d1)=true):Fn P0 4 [.agg [I h,I a0,I b0,I c0,I d0,I a1,I b1,I c1,I d1]] (B true):=by
  have h14:=f14 h a0 b0 c0 d0 a1 b1 c1 d1 11
  rw [hv] at h14
  refine PFun.of (C:=c4) (cx_ok _ _ _) rfl (fn:=Tryz.f4) (by kernel_rfl) (c:=_) rfl rfl rfl ?_
  refine Run.seq (Run.region (cx_ok _ _ _) (Reg.op rfl (Ope.boxF rfl rfl ?_)))
  refine Reg.op rfl (Ope.asg rfl ?_)
  refine Reg.nil (Run.seq (Run.seq (Run.region (cx_ok _ _ _) (Reg.op rfl (Ope.load rfl rfl ?_)))))
  refine Reg.op rfl (Ope.cf rfl rfl (h14) rfl ?_)
  refine Reg.nil (Run.condX rfl (fun hc=>?_) fun hc=>?_)
  ·refine Run.seq (Run.region (cx_ok _ _ _) (Reg.op rfl (Ope.clo rfl rfl awakeF ?_)))
   refine Reg.op rfl (Ope.asg rfl ?_)
   refine Reg.nil (Run.ret (Jmp.code (fin_ret (.tmp rfl .nil) rfl ?_)))
   rfl
  ·exact absurd hc (by decide)
theorem f4c (h a0 b0 c0 d0 a1 b1 c1 d1 : Int) (hv : (decide (11 < h) && validR h a0 b0 c0 d0 a1 b1 c1 d1) = false) (n m k : Int) (t1 t2 t3 t4 : Tail) (i1 : t1.isOwn = false) (i2 : t2.isOwn = false) (i3 : t3.isOwn = false) (i4 : t4.isOwn = false) (xs ys : List Int) (hx : xs.length ≤ 16) (hy : ys.length ≤ 16)
    (h22:Fn P0 22 [.agg [I h,I a0,I b0,I c0,I d0,I a1,I b1,I c1,I d1]] (.tup [I n,.sl t1 (xs.map I),I k])) (h23:Fn P0 23 [.agg [I h,I a0,I b0,I c0,I d0,I a1,I b1,I c1,I d1]] (.tup [I n,.sl t2 (xs.map I),I k]))
    (h24:Fn P0 24 [.agg [I h,I a0,I b0,I c0,I d0,I a1,I b1,I c1,I d1]] (.tup [I m,.sl t3 (ys.map I),I k])) (h25:Fn P0 25 [.agg [I h,I a0,I b0,I c0,I d0,I a1,I b1,I c1,I d1]] (.tup [I m,.sl t4 (ys.map I),I k])) :
    Fn P0 4 [.agg [I h,I a0,I b0,I c0,I d0,I a1,I b1,I c1,I d1]] (B true):=by
  have h14:=f14 h a0 b0 c0 d0 a1 b1 c1 d1 11
  rw [hv] at h14
  have hb:∀ (t t':Tail) (zs:List Int),t.isOwn=false→t'.isOwn=false→PV.bds 0 [.sl t (zs.map I),.sl t' (zs.map I)]=true:=by
    intro t t' zs h h'
    simp only [PV.bds,bd_sl (f:=I) h (fun _=>rfl) zs,bd_sl (f:=I) h' (fun _=>rfl) zs,Bool.and_self]
  refine PFun.of (C:=c4) (cx_ok _ _ _) rfl (fn:=Tryz.f4) (by kernel_rfl) (c:=_) rfl rfl rfl ?_
  refine Run.seq (Run.region (cx_ok _ _ _) (Reg.op rfl (Ope.boxF rfl rfl ?_)))
  refine Reg.op rfl (Ope.asg rfl ?_)
  refine Reg.nil (Run.seq (Run.seq (Run.region (cx_ok _ _ _) (Reg.op rfl (Ope.load rfl rfl ?_)))))
  refine Reg.op rfl (Ope.cf rfl rfl (h14) rfl ?_)
  refine Reg.nil (Run.condX rfl (fun hc=>?_) fun hc=>?_)
  ·exact absurd hc (by decide)
  ·refine Run.skip (Run.seq (Run.region (cx_ok _ _ _) (Reg.op rfl (Ope.load rfl rfl ?_))))
   refine Reg.op rfl (Ope.cf rfl rfl (h22) rfl ?_)
   refine Reg.op rfl (Ope.mov rfl ?_)
   refine Reg.op rfl (Ope.ext rfl rfl ?_)
   refine Reg.op rfl (Ope.ext rfl rfl ?_)
   refine Reg.op rfl (Ope.ext rfl rfl ?_)
   refine Reg.op rfl (Ope.asg rfl ?_)
   refine Reg.op rfl (Ope.asg rfl ?_)
   refine Reg.op rfl (Ope.asg rfl ?_)
   refine Reg.nil (Run.seq (Run.region (cx_ok _ _ _) (Reg.op rfl (Ope.load rfl rfl ?_))))
   refine Reg.op rfl (Ope.cf rfl rfl (h23) rfl ?_)
   refine Reg.op rfl (Ope.mov rfl ?_)
   refine Reg.op rfl (Ope.ext rfl rfl ?_)
   refine Reg.op rfl (Ope.ext rfl rfl ?_)
   refine Reg.op rfl (Ope.ext rfl rfl ?_)
   refine Reg.op rfl (Ope.asg rfl ?_)
   refine Reg.op rfl (Ope.asg rfl ?_)
   refine Reg.op rfl (Ope.asg rfl ?_)
   refine Reg.nil (Run.seq (Run.region (cx_ok _ _ _) (Reg.op rfl (Ope.load rfl rfl ?_))))
   refine Reg.op rfl (Ope.cf rfl rfl (h24) rfl ?_)
   refine Reg.op rfl (Ope.mov rfl ?_)
   refine Reg.op rfl (Ope.ext rfl rfl ?_)
   refine Reg.op rfl (Ope.ext rfl rfl ?_)
   refine Reg.op rfl (Ope.ext rfl rfl ?_)
   refine Reg.op rfl (Ope.asg rfl ?_)
   refine Reg.op rfl (Ope.asg rfl ?_)
   refine Reg.op rfl (Ope.asg rfl ?_)
   refine Reg.nil (Run.seq (Run.region (cx_ok _ _ _) (Reg.op rfl (Ope.load rfl rfl ?_))))
   refine Reg.op rfl (Ope.cf rfl rfl (h25) rfl ?_)
   refine Reg.op rfl (Ope.mov rfl ?_)
   refine Reg.op rfl (Ope.ext rfl rfl ?_)
   refine Reg.op rfl (Ope.ext rfl rfl ?_)
   refine Reg.op rfl (Ope.ext rfl rfl ?_)
   refine Reg.op rfl (Ope.asg rfl ?_)
   refine Reg.op rfl (Ope.asg rfl ?_)
   refine Reg.op rfl (Ope.asg rfl ?_)
   refine Reg.nil (Run.seq (Run.region (cx_ok _ _ _) (Reg.op rfl (Ope.mov rfl ?_))))
   refine Reg.op rfl (Ope.mov rfl ?_)
   refine Reg.op rfl (Ope.eq rfl rfl ?_)
   refine Reg.op rfl (Ope.mov rfl ?_)
   refine Reg.splitX rfl rfl (fun hg=>?_) fun hg=>?_
   ·refine Reg.on rfl rfl rfl (Ope.mov rfl ?_)
    refine Reg.on rfl rfl rfl (Ope.mov rfl ?_)
    refine Reg.on rfl rfl rfl (Ope.cf rfl rfl (f26 t1 t2 xs (by omega)) (hb t1 t2 xs i1 i2) ?_)
    refine Reg.op rfl (Ope.pickT rfl rfl ?_)
    refine Reg.op rfl (Ope.mov rfl ?_)
    refine Reg.splitX rfl rfl (fun hg=>?_) fun hg=>?_
    ·refine Reg.on rfl rfl rfl (Ope.mov rfl ?_)
     refine Reg.on rfl rfl rfl (Ope.mov rfl ?_)
     refine Reg.on rfl rfl rfl (Ope.eq rfl rfl ?_)
     refine Reg.op rfl (Ope.pickT rfl rfl ?_)
     refine Reg.op rfl (Ope.mov rfl ?_)
     refine Reg.splitX rfl rfl (fun hg=>?_) fun hg=>?_
     ·refine Reg.on rfl rfl rfl (Ope.mov rfl ?_)
      refine Reg.on rfl rfl rfl (Ope.mov rfl ?_)
      refine Reg.on rfl rfl rfl (Ope.eq rfl rfl ?_)
      refine Reg.op rfl (Ope.pickT rfl rfl ?_)
      refine Reg.op rfl (Ope.mov rfl ?_)
      refine Reg.splitX rfl rfl (fun hg=>?_) fun hg=>?_
      ·refine Reg.on rfl rfl rfl (Ope.mov rfl ?_)
       refine Reg.on rfl rfl rfl (Ope.mov rfl ?_)
       refine Reg.on rfl rfl rfl (Ope.cf rfl rfl (f26 t3 t4 ys (by omega)) (hb t3 t4 ys i3 i4) ?_)
       refine Reg.op rfl (Ope.pickT rfl rfl ?_)
       refine Reg.op rfl (Ope.mov rfl ?_)
       refine Reg.splitX rfl rfl (fun hg=>?_) fun hg=>?_
       ·refine Reg.on rfl rfl rfl (Ope.mov rfl ?_)
        refine Reg.on rfl rfl rfl (Ope.mov rfl ?_)
        refine Reg.on rfl rfl rfl (Ope.eq rfl rfl ?_)
        refine Reg.op rfl (Ope.pickT rfl rfl ?_)
        refine Reg.op rfl (Ope.mov rfl ?_)
        refine Reg.splitX rfl rfl (fun hg=>?_) fun hg=>?_
        ·refine Reg.on rfl rfl rfl (Ope.clo rfl rfl awakeF ?_)
         refine Reg.op rfl (Ope.pickT rfl rfl ?_)
         refine Reg.op rfl (Ope.asg rfl ?_)
         refine Reg.nil (Run.ret (fin_ret (.tmp rfl .nil) rfl ?_))
         rfl
        ·(exfalso;first | exact hg rfl | exact absurd hg (by decide))
       ·(exfalso;first | exact hg rfl | exact absurd hg (by decide))
      ·(exfalso;first | exact hg rfl | exact absurd hg (by decide))
     ·(exfalso;first | exact hg rfl | exact absurd hg (by decide))
    ·(exfalso;first | exact hg rfl | exact absurd hg (by decide))
   ·(exfalso;first | exact hg rfl | exact absurd hg (by decide))
theorem right_len {R:Rst} (hm16:R.m≤16):∀ y∈alls R R.m [],y.length≤16:=by
  intro y hy
  rw [((mem_all R y).1 hy).1]
  exact hm16
theorem f4 (h a0 b0 c0 d0 a1 b1 c1 d1 : Int) : Fn P0 4 [.agg [I h, I a0, I b0, I c0, I d0, I a1, I b1, I c1, I d1]] (B true) := by
  cases hq:(decide (11 < h) && validR h a0 b0 c0 d0 a1 b1 c1 d1) with
  | true=>exact f4b _ _ _ _ _ _ _ _ _ hq
  | false =>
    by_cases hv:validR h a0 b0 c0 d0 a1 b1 c1 d1=true
    · obtain ⟨hok, ⟨e1, e2, e3⟩, hm⟩ := rstOf_ok hv
      have hcells:(rstOf h a0 b0 c0 d0 a1 b1 c1 d1).cells=[I h,I a0,I b0,I c0,I d0,I a1,I b1,I c1,I d1]:=by
        show [I (h.toNat:Int),I (a0.toNat:Int),I b0,I c0,I d0,I (a1.toNat:Int),I b1,I c1,I d1]=_
        rw [← e1,← e2,← e3]
      have hv':validR (rstOf h a0 b0 c0 d0 a1 b1 c1 d1).m (rstOf h a0 b0 c0 d0 a1 b1 c1 d1).o0 b0 c0 d0 (rstOf h a0 b0 c0 d0 a1 b1 c1 d1).o1 b1 c1 d1=true:=by
        show validR (h.toNat:Int) (a0.toNat:Int) b0 c0 d0 (a1.toNat:Int) b1 c1 d1=true
        rw [← e1,← e2,← e3]
        exact hv
      have hmany:(alls (rstOf h a0 b0 c0 d0 a1 b1 c1 d1) (rstOf h a0 b0 c0 d0 a1 b1 c1 d1).m []).length=_:=alls_many _ _
      have hLl:(alls (rstOf h a0 b0 c0 d0 a1 b1 c1 d1) (rstOf h a0 b0 c0 d0 a1 b1 c1 d1).m []).length≤65536:=Nat.le_trans (alls_le _ _ _) (pow16 hok.1)
      generalize hR:rstOf h a0 b0 c0 d0 a1 b1 c1 d1=R at *
      have hv2:validR R.m R.o0 R.t0 R.r0 R.f0 R.o1 R.t1 R.r1 R.f1=true:=by rw [← hR] at hv' ⊢;exact hv'
      by_cases hz:alls R R.m []=[]
      · have h0 : cnt R R.m zeroRid = 0 := by rw [← hmany, hz]; rfl
        have h68:=f68n R hok hv2 hz
        have h22:=f22b R hok hv2 ((fewA_none askF R R.m zeroRid).2 h0)
        have h24:=f24b R hok hv2 ((fewA_none askE R R.m zeroRid).2 h0)
        rw [hcells] at h68 h22 h24
        exact f4c _ _ _ _ _ _ _ _ _ hq 0 0 4 .ex .ex .ex .ex rfl rfl rfl rfl [] [] (by simp) (by simp) h22 (ref_e 23 (.inl rfl) _ _ _ _ _ _ _ _ _ 4 (by decide) h68) h24 (ref_e 25 (.inr rfl) _ _ _ _ _ _ _ _ _ 4 (by decide) h68)
      · have h0 : cnt R R.m zeroRid ≠ 0 := fun e => hz (List.length_eq_zero_iff.1 (hmany.trans e))
        have h68:=f68c R hok hv2 hz
        cases hF:R.best askF with
        | none=>exact absurd ((fewA_none askF R R.m zeroRid).1 hF) h0
        | some w =>
          cases hE:R.best askE with
          | none=>exact absurd ((fewA_none askE R R.m zeroRid).1 hE) h0
          | some u =>
            have hcF:∀ y,Right R R.m zeroRid y→cst none y=gco (fun _=>0) (fun d x=>Go.Pv.c1 (pv d) x) zeroRid y:=fun y hy=>(gcoF y zeroRid (by decide) hy.2.1).symm
            have hcE:∀ y,Right R R.m zeroRid y→dfc y=gco dif (fun _ _=>0) zeroRid y:=by
              intro y hy
              rw [gcoE]
              unfold dif dfc
              rw [(fin_tot hy.2.1).2.2.1,(fin_tot hy.2.1).2.2.2]
              omega
            have wl:=(fewA_best cstF R R.m zeroRid w hF).1
            have ul:=(fewA_best cstE R R.m zeroRid u hE).1
            have h23:=f23c R _ h68 hz hLl (right_len hok.1) w.2 fun y hy=>(fst_best cstF hF hcF hy).1
            have h25:=f25c R _ h68 hz hLl (right_len hok.1) u.2 fun y hy=>(fst_best cstE hE hcE hy).1
            have ew:cst none w.2=w.1:=by rw [hcF w.2 ⟨wl,(fewA_best cstF R R.m zeroRid w hF).2.1,(fewA_best cstF R R.m zeroRid w hF).2.2.1⟩];exact (fewA_best cstF R R.m zeroRid w hF).2.2.2.1.symm
            have eu:dfc u.2=u.1:=by rw [hcE u.2 ⟨ul,(fewA_best cstE R R.m zeroRid u hE).2.1,(fewA_best cstE R R.m zeroRid u hE).2.2.1⟩];exact (fewA_best cstE R R.m zeroRid u hE).2.2.2.1.symm
            have h22:=f22c R hok hv2 w hF
            have h24:=f24c R hok hv2 u hE
            rw [ew] at h23
            rw [eu] at h25
            rw [hcells] at h22 h23 h24 h25
            have:=hok.1
            exact f4c _ _ _ _ _ _ _ _ _ hq _ _ 0 _ _ _ _ (wt_own _) rfl (wt_own _) rfl w.2 u.2 (by omega) (by omega) h22 h23 h24 h25
    · have hv := Bool.eq_false_iff.2 hv
      have h68:=f68a _ _ _ _ _ _ _ _ _ hv
      have h24:Fn P0 24 [.agg [I h,I a0,I b0,I c0,I d0,I a1,I b1,I c1,I d1]] (.tup [I 0,.sl .ex [],I 1]):=f24 _ _ _ _ _ _ _ _ _ (0,[]) _ (f115er (f116a askE askE_ok _ _ _ _ _ _ _ _ _ hv) rfl)
      exact f4c _ _ _ _ _ _ _ _ _ hq 0 0 1 .ex .ex .ex .ex rfl rfl rfl rfl [] [] (by simp) (by simp) (f22a _ _ _ _ _ _ _ _ _ hv) (ref_e 23 (.inl rfl) _ _ _ _ _ _ _ _ _ 1 (by decide) h68) h24 (ref_e 25 (.inr rfl) _ _ _ _ _ _ _ _ _ 1 (by decide) h68)
end Go.Pv
