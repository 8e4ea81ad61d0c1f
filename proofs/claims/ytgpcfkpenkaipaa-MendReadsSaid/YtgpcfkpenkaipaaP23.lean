/- Parts of the proof: M47, M48, M30 -/
import Derived.Test.YtgpcfkpenkaipaaP22
import Derived.Test.YtgpcfkpenkaipaaP20
import Derived.Test.YtgpcfkpenkaipaaP12
set_option linter.unusedVariables false
set_option linter.unusedSimpArgs false
set_option linter.unusedSectionVars false
namespace Go.Pv
open Go.Proofs Go.Am
set_option maxRecDepth 10000
section
variable (s:Shp) {t1 t2:Tail} (h1:t1.isOwn=false) (h2:t2.isOwn=false)
include h1 h2
theorem f15ok {H:Int} (hs:s.ok H) (t:Tail) (ht:t.isOwn=false) (o:List Nat) (ho:Ordr s.jo.length o) (hc:Fn P0 48 [s.v t1 t2,.sl t (o.map N)] (I 0)):Fn P0 15 [s.v t1 t2,.sl t (o.map N)] (.tup [.sl .no ((s.alg Shp.p0 o).map Wrk.sp),I 0]):=by
  have hol:=ho.len
  have hn6:=hs.jo
  have hbo:PV.bds 0 [s.v t1 t2,.sl t (o.map N)]=true:=bd_ord s h1 h2 t ht o
  have hbd:∀ b:Bool,PV.bds 0 [s.v t1 t2,.sl t (o.map N),B b]=true:=fun b=>bd_shpV s h1 h2 (bds_cons (bd_sl (f:=N) ht (fun _=>rfl) _) rfl)
  have hd0:=f49 s h1 h2 hs t o (by omega) ho.lt false
  have hd1:=f49 s h1 h2 hs t o (by omega) ho.lt true
  have hwl:(s.alg Shp.p0 o).length=o.length:=alg_len _ _ _
  have hl0:=dn_len s false o
  have hl1:=dn_len s true o
  have hg0:∀ i (h:i < (s.dn false o).length) (h':i < (s.alg Shp.p0 o).length),(s.dn false o)[i]=((s.alg Shp.p0 o)[i]).d0:=fun i h h'=>by simp [Shp.dn,Wrk.d]
  have hg1:∀ i (h:i < (s.dn true o).length) (h':i < (s.alg Shp.p0 o).length),(s.dn true o)[i]=((s.alg Shp.p0 o)[i]).d1:=fun i h h'=>by simp [Shp.dn,Wrk.d]
  generalize s.dn false o=D0 at *
  generalize s.dn true o=D1 at *
  generalize s.alg Shp.p0 o=ws at *
  refine PFun.of (C:=c15) (cx_ok _ _ _) rfl (fn:=Try.f15) (by kernel_rfl) (c:=_) rfl rfl rfl ?_
  refine Run.seq (Run.region (cx_ok _ _ _) (Reg.op rfl (Ope.boxF rfl rfl ?_)))
  refine Reg.op rfl (Ope.asg rfl ?_)
  refine Reg.op rfl (Ope.asg rfl ?_)
  refine Reg.nil (Run.seq (Run.region (cx_ok _ _ _) (Reg.op rfl (Ope.load rfl rfl ?_))))
  refine Reg.op rfl (Ope.mov rfl ?_)
  refine Reg.op rfl (Ope.cf rfl rfl hc hbo ?_)
  refine Reg.op rfl (Ope.asg rfl ?_)
  refine Reg.nil (Run.seq (Run.seq (Run.region (cx_ok _ _ _) (Reg.op rfl (Ope.mov rfl ?_)))))
  refine Reg.op rfl (Ope.ne rfl rfl ?_)
  refine Reg.nil (Run.condX rfl (fun hc=>?_) fun hc=>?_)
  ·exact absurd rfl hc
  ·refine Run.skip (Run.seq (Run.draw (cx_ok _ _ _) [(0,true),(1,true),(3,false),(4,true),(2,true),(5,true),(6,true),(7,true)] (by kernel_rfl) (Dra.op' rfl rfl rfl .sure (Ope.load rfl rfl ?_))))
   refine Dra.op' rfl rfl rfl .sure (Ope.mov rfl ?_)
   refine Dra.op' rfl rfl rfl (.load rfl) (Ope.load rfl rfl ?_)
   refine Dra.op' rfl rfl rfl .sure (Ope.mov rfl ?_)
   refine Dra.op' rfl rfl rfl .sure (Ope.cf rfl rfl hd0 (hbd _) ?_)
   refine Dra.op' rfl rfl rfl .sure (Ope.cf rfl rfl hd1 (hbd _) ?_)
   refine Dra.op' rfl rfl rfl .sure (Ope.asg rfl ?_)
   refine Dra.op' rfl rfl rfl .sure (Ope.asg rfl ?_)
   refine Dra.nil (Run.seq (Run.region (cx_ok _ _ _) (Reg.op rfl (Ope.asg rfl ?_))))
   refine Reg.nil (Run.seq (Run.seq (Run.region (cx_ok _ _ _) (Reg.op rfl (Ope.asg rfl ?_)))))
   refine Reg.nil (Run.block (Run.loop (α:=Nat×Option Nat×Nat) (fun t'=>[(1,.sl t (o.map N)),(7,.sl .no (D0.map I)),(8,.sl .no (D1.map I)),(9,.sl (tlU t'.2.1) ((ws.take t'.1).map Wrk.sp)),(10,I t'.1)]) (fun t'=>HE t'.2.2 (ownU t'.2.1++[])) (fun t'=>t'.1≤o.length∧(∀ j,t'.2.1=some j→j < t'.2.2∧t'.1≠0)) (fun t'=>o.length - t'.1) (0,none,0) ⟨rfl,rfl,rfl,rfl,rfl,trivial⟩ rfl ⟨Nat.zero_le _,(fun j hj=>by cases hj)⟩ (fun t' ht=>?_)))
   obtain ⟨i,o',m⟩:=t'
   obtain ⟨hi,hO⟩:=ht
   simp only at hi hO
   show Run _ _ _ _ [(1,.sl t (o.map N)),(7,.sl .no (D0.map I)),(8,.sl .no (D1.map I)),(9,.sl (tlU o') ((ws.take i).map Wrk.sp)),(10,I i)] [] (HE m (ownU o'++[]))
   refine Run.seq (Run.seq (Run.region (cx_ok _ _ _) (Reg.op rfl (Ope.mov rfl ?_))))
   refine Reg.op rfl (Ope.mov rfl ?_)
   refine Reg.op rfl (Ope.len (m:=o.length) rfl (by simp) ?_)
   refine Reg.op rfl (Ope.lt rfl rfl ?_)
   refine Reg.nil (Run.condX rfl (fun hc=>?_) fun hc=>?_)
   ·refine Run.skip (Run.seq (Run.block ?_))
    have hlt:i < o.length:=by omega
    have hlw:i < ws.length:=by omega
    have hg0:=hg0 i (by omega) hlw
    have hg1:=hg1 i (by omega) hlw
    have hml:(ws.take i).length=i:=by rw [List.length_take];omega
    refine Run.draw (cx_ok _ _ _) [(0,true),(1,true),(2,true),(3,true),(4,true),(5,true),(6,true),(7,true),(8,true),(9,true),(10,true),(11,true),(12,true)] (by kernel_rfl) (Dra.op' rfl rfl rfl .sure (Ope.mov rfl ?_))
    refine Dra.op' rfl rfl rfl .sure (Ope.mov rfl ?_)
    refine Dra.op' rfl rfl rfl .sure (Ope.mov rfl ?_)
    refine Dra.op' rfl rfl rfl .sure (Ope.idxM (m:=i) (f:=I) rfl rfl rfl (by omega) (fun _=>rfl) ?_)
    refine Dra.op' rfl rfl rfl .sure (Ope.load rfl rfl ?_)
    refine Dra.op' rfl rfl rfl .sure (Ope.mov rfl ?_)
    refine Dra.op' rfl rfl rfl .sure (Ope.mov rfl ?_)
    refine Dra.op' rfl rfl rfl .sure (Ope.idxM (m:=i) (f:=I) rfl rfl rfl (by omega) (fun _=>rfl) ?_)
    refine Dra.op' rfl rfl rfl .sure (Ope.load rfl rfl ?_)
    refine Dra.op' rfl rfl rfl .sure (Ope.bld rfl rfl ?_)
    refine Dra.op' rfl rfl rfl .sure (Ope.bsl rfl rfl rfl rfl ?_)
    refine Dra.op' rfl rfl rfl .sure (Ope.apU (o':=o') (vs:=(ws.take i).map Wrk.sp) (ws:=[.agg [I ws[i].d0,I ws[i].d1]]) rfl (by rw [← hg0,← hg1];rfl) (by simp) (fun j hj=>⟨map_ne (by have:=hO j hj;omega),rfl⟩) (by simp only [List.length_map,List.length_singleton];omega) (by simp only [List.length_map,List.length_singleton];omega) (by decide) (by intro v hv;obtain ⟨_,_,rfl⟩:=List.mem_map.1 hv;rfl) (by intro v hv;simp only [List.mem_singleton] at hv;subst hv;exact ⟨rfl,rfl⟩) ?_)
    refine Dra.op' rfl rfl rfl .sure (Ope.asg rfl ?_)
    refine Dra.nil (Run.bend (Run.region (cx_ok _ _ _) (Reg.op rfl (Ope.mov rfl ?_))))
    refine Reg.op rfl (Ope.add rfl rfl (by omega) ?_)
    refine Reg.op rfl (Ope.asg rfl ?_)
    exact Reg.nil (Run.lend ⟨(i+1,some m,m+1),by show o.length - (i+1) < o.length - i;omega,⟨by show i+1≤o.length;omega,fun j hj=>by cases hj;exact ⟨Nat.lt_succ_self _,Nat.succ_ne_zero _⟩⟩,⟨rfl,rfl,rfl,congrArg (fun l=>some (PV.sl (.own m) l)) (by rw [List.take_succ_eq_append_getElem hlw,List.map_append];rfl),rfl,trivial⟩,rfl,rfl⟩)
   ·refine Run.exit (Jmp.code (Jmp.round (Jmp.here (Run.seq ?_))))
    obtain rfl:i=o.length:=by omega
    rw [← hwl,List.take_length]
    refine Run.weakT (d:=9) rfl ?_
    refine Run.region (cx_ok _ _ _) (Reg.op rfl (Ope.mov rfl ?_))
    refine Reg.op rfl (Ope.asg rfl ?_)
    refine Reg.op rfl (Ope.asg rfl ?_)
    exact Reg.nil (Run.ret (fin_ret (.tmp rfl (.tmp rfl .nil)) (bds_cons (bd_sl (f:=Wrk.sp) (tl:=.no) rfl (fun _=>rfl) _) rfl) rfl))
def fltT:Option (Nat×Int)→PV
  | none=>.tup [I 0,I 0,I 4]
  | some (j,r)=>.tup [N j,I r,I 0]
theorem f17ok {H:Int} (hs:s.ok H) (t:Tail) (ht:t.isOwn=false) (o:List Nat) (ho:Ordr s.jo.length o) (hc:Fn P0 48 [s.v t1 t2,.sl t (o.map N)] (I 0)):Fn P0 17 [s.v t1 t2,.sl t (o.map N)] (fltT (s.flt (s.alg Shp.p0 o))):=by
  have hol:=ho.len
  have hn6:=hs.jo
  have hbo:PV.bds 0 [s.v t1 t2,.sl t (o.map N)]=true:=bd_ord s h1 h2 t ht o
  have hwl:(s.alg Shp.p0 o).length=o.length:=alg_len _ _ _
  have hbr:∀ i (hi:i < o.length),∃ b,(∀ hw:i < (s.alg Shp.p0 o).length,b=s.bad (s.alg Shp.p0 o)[i])∧Fn P0 52 [s.v t1 t2,.sl t (o.map N),N i,I 0] (I b):=fun i hi=>by
    obtain ⟨b,hb,h⟩:=f52 s h1 h2 hs t ht o (by omega) ho.lt i hi 0 (by decide)
    exact ⟨b,fun _=>hb,h⟩
  have hbb:∀ i:Nat,PV.bds 0 [s.v t1 t2,.sl t (o.map N),N i,I 0]=true:=fun i=>bd_shpV s h1 h2 (bds_cons (bd_sl (f:=N) ht (fun _=>rfl) _) rfl)
  have hwj:∀ i (h:i < o.length) (h':i < (s.alg Shp.p0 o).length),((s.alg Shp.p0 o)[i]).j=o[i]:=fun i h h'=>by rw [alg_at s o Shp.p0 i h];rfl
  generalize s.alg Shp.p0 o=ws at *
  refine PFun.of (C:=c17) (cx_ok _ _ _) rfl (fn:=Try.f17) (by kernel_rfl) (c:=_) rfl rfl rfl ?_
  refine Run.seq (Run.region (cx_ok _ _ _) (Reg.op rfl (Ope.boxF rfl rfl ?_)))
  refine Reg.op rfl (Ope.asg rfl ?_)
  refine Reg.op rfl (Ope.asg rfl ?_)
  refine Reg.op rfl (Ope.asg rfl ?_)
  refine Reg.nil (Run.seq (Run.region (cx_ok _ _ _) (Reg.op rfl (Ope.load rfl rfl ?_))))
  refine Reg.op rfl (Ope.mov rfl ?_)
  refine Reg.op rfl (Ope.cf rfl rfl hc hbo ?_)
  refine Reg.op rfl (Ope.asg rfl ?_)
  refine Reg.nil (Run.seq (Run.seq (Run.region (cx_ok _ _ _) (Reg.op rfl (Ope.mov rfl ?_)))))
  refine Reg.op rfl (Ope.ne rfl rfl ?_)
  refine Reg.nil (Run.condX rfl (fun hc=>?_) fun hc=>?_)
  ·exact absurd rfl hc
  ·refine Run.skip (Run.seq (Run.seq (Run.region (cx_ok _ _ _) (Reg.op rfl (Ope.asg rfl ?_)))))
   refine Reg.nil (Run.block (Run.loop (α:=Nat) (fun k=>[(1,.sl t (o.map N)),(2,.fp (s.v t1 t2)),(8,I k)]) (fun _=>HE 0 []) (fun k=>k≤o.length∧∀ k' (h:k' < ws.length),k' < k→s.bad ws[k']=0) (fun k=>o.length - k) 0 ⟨rfl,rfl,rfl,trivial⟩ rfl ⟨Nat.zero_le _,fun k' _ h=>absurd h (Nat.not_lt_zero _)⟩ (fun k hk=>?_)))
   obtain ⟨hk,hall⟩:=hk
   refine Run.seq (Run.seq (Run.region (cx_ok _ _ _) (Reg.op rfl (Ope.mov rfl ?_))))
   refine Reg.op rfl (Ope.mov rfl ?_)
   refine Reg.op rfl (Ope.len (m:=o.length) rfl (by simp) ?_)
   refine Reg.op rfl (Ope.lt rfl rfl ?_)
   refine Reg.nil (Run.condX rfl (fun hc=>?_) fun hc=>?_)
   ·refine Run.skip (Run.seq (Run.block (Run.seq ?_)))
    have hlt:k < o.length:=by omega
    have hlw:k < ws.length:=by omega
    obtain ⟨b,hb,hbf⟩:=hbr k hlt
    have hb:=hb hlw
    refine Run.region (cx_ok _ _ _) (Reg.op rfl (Ope.load rfl rfl ?_))
    refine Reg.op rfl (Ope.mov rfl ?_)
    refine Reg.op rfl (Ope.mov rfl ?_)
    refine Reg.op rfl (Ope.cf rfl rfl hbf (hbb k) ?_)
    refine Reg.op rfl (Ope.asg rfl ?_)
    refine Reg.nil (Run.seq (Run.region (cx_ok _ _ _) (Reg.op rfl (Ope.mov rfl ?_))))
    refine Reg.op rfl (Ope.ne rfl rfl ?_)
    refine Reg.nil (Run.condX rfl (fun hc=>?_) fun hc=>?_)
    ·refine Run.seq (Run.region (cx_ok _ _ _) (Reg.op rfl (Ope.mov rfl ?_)))
     refine Reg.op rfl (Ope.mov rfl ?_)
     refine Reg.op rfl (Ope.idxM (m:=k) (f:=N) rfl rfl rfl hlt (fun _=>rfl) ?_)
     refine Reg.op rfl (Ope.load rfl rfl ?_)
     refine Reg.op rfl (Ope.mov rfl ?_)
     refine Reg.op rfl (Ope.asg rfl ?_)
     refine Reg.op rfl (Ope.asg rfl ?_)
     refine Reg.op rfl (Ope.asg rfl ?_)
     refine Reg.nil (Run.ret (Jmp.retB (Jmp.code (Jmp.round (Jmp.retB (Jmp.code (fin_ret (.tmp rfl (.tmp rfl (.tmp rfl .nil))) rfl ?_)))))))
     first
     | (rw [flt_some hlw (by omega) (fun k' h h'=>hall k' h h'),hwj k hlt hlw,← hb];rfl)
     | (rw [flt_none fun k' hk'=>hall k' hk' (by omega)];rfl)
    ·refine Run.skip (Run.bend (Run.region (cx_ok _ _ _) (Reg.op rfl (Ope.mov rfl ?_))))
     refine Reg.op rfl (Ope.add rfl rfl (by omega) ?_)
     refine Reg.op rfl (Ope.asg rfl ?_)
     refine Reg.nil ?_
     exact Run.lend ⟨k+1,by omega,⟨by omega,fun k' hk1 hk'=>by
       by_cases hkk:k'=k
       · subst hkk;omega
       · exact hall k' hk1 (by omega)⟩,⟨rfl,rfl,rfl,trivial⟩,rfl,rfl⟩
   ·refine Run.exit (Jmp.code (Jmp.round (Jmp.here (Run.seq (Run.region (cx_ok _ _ _) (Reg.op rfl (Ope.asg rfl ?_)))))))
    refine Reg.op rfl (Ope.asg rfl ?_)
    refine Reg.op rfl (Ope.asg rfl ?_)
    refine Reg.nil (Run.ret (fin_ret (.tmp rfl (.tmp rfl (.tmp rfl .nil))) rfl ?_))
    first
    | (rw [flt_some hlw (by omega) (fun k' h h'=>hall k' h h'),hwj k hlt hlw,← hb];rfl)
    | (rw [flt_none fun k' hk'=>hall k' hk' (by omega)];rfl)
end
end Go.Pv
namespace Go.Pv
open Go.Proofs Go.Am
set_option maxRecDepth 10000
section
variable (s:Shp) {t1 t2:Tail} (h1:t1.isOwn=false) (h2:t2.isOwn=false)
include h1 h2
theorem f19ok (hs : s.ok 30) (t : Tail) (ht : t.isOwn = false) (o : List Nat) (ho : Ordr s.jo.length o) (hc : Fn P0 48 [s.v t1 t2, .sl t (o.map N)] (I 0)) : Fn P0 19 [s.v t1 t2, .sl t (o.map N)] (if s.rgt o = true then .tup [N (s.slk o 30 0), I 0] else .tup [I 0, I 4]) := by
  have hol:=ho.len
  have hn6:=hs.jo
  have hbo:PV.bds 0 [s.v t1 t2,.sl t (o.map N)]=true:=bd_ord s h1 h2 t ht o
  have hri:Fn P0 55 [s.v t1 t2,.sl t (o.map N),I 0] (B (s.rgt o)):=f55 s h1 h2 hs t ht o (by omega) ho.lt 0 (by decide)
  have hbr:PV.bds 0 [s.v t1 t2,.sl t (o.map N),I 0]=true:=bd_shpV s h1 h2 (bds_cons (bd_sl (f:=N) ht (fun _=>rfl) _) rfl)
  have hlo:∀ n:Nat,n≤30→∃ t3:Tail,t3.isOwn=false∧Fn P0 41 [s.v t1 t2,I ((n:Int)+1)] ((s.lon ((n:Int)+1)).v t1 t3)∧Fn P0 55 [(s.lon ((n:Int)+1)).v t1 t3,.sl t (o.map N),I 0] (B ((s.lon ((n:Int)+1)).rgt o)):=fun n hn=>by
    obtain ⟨t3,ht3,hl⟩:=f41 s h1 h2 hs ((n:Int)+1) (by omega)
    have hx:=lon_ok hs (n:=(n:Int)+1) (by omega) (by omega)
    have hlj:(s.lon ((n:Int)+1)).jo.length=s.jo.length:=by simp [Shp.lon]
    exact ⟨t3,ht3,hl,f55 (s.lon ((n:Int)+1)) h1 ht3 hx t ht o (by omega) (by rw [hlj];exact ho.lt) 0 (by decide)⟩
  have hbl:∀ n:Int,PV.bds 0 [s.v t1 t2,I n]=true:=fun n=>bd_shpV s h1 h2 rfl
  have hbx:∀ (n:Int) (t3:Tail),t3.isOwn=false→PV.bds 0 [(s.lon n).v t1 t3,.sl t (o.map N),I 0]=true:=fun n t3 h3=>bd_shpV _ h1 h3 (bds_cons (bd_sl (f:=N) ht (fun _=>rfl) _) rfl)
  have hsl:∀ k m:Nat,s.slk o (k+1) m=if (s.lon ((m:Int)+1)).rgt o=true then s.slk o k (m+1) else m:=fun k m=>rfl
  have hs0:∀ m:Nat,s.slk o 0 m=m:=fun m=>rfl
  obtain ⟨z,hz⟩:∃ z,s.slk o 30 0=z:=⟨_,rfl⟩
  rw [hz]
  generalize s.rgt o=r at *
  cases r with
  | false =>
    refine PFun.of (C:=c19) (cx_ok _ _ _) rfl (fn:=Try.f19) (by kernel_rfl) (c:=_) rfl rfl rfl ?_
    refine Run.seq (Run.region (cx_ok _ _ _) (Reg.op rfl (Ope.boxF rfl rfl ?_)))
    refine Reg.op rfl (Ope.asg rfl ?_)
    refine Reg.op rfl (Ope.asg rfl ?_)
    refine Reg.nil (Run.seq (Run.region (cx_ok _ _ _) (Reg.op rfl (Ope.load rfl rfl ?_))))
    refine Reg.op rfl (Ope.mov rfl ?_)
    refine Reg.op rfl (Ope.cf rfl rfl hc hbo ?_)
    refine Reg.op rfl (Ope.asg rfl ?_)
    refine Reg.nil (Run.seq (Run.seq (Run.region (cx_ok _ _ _) (Reg.op rfl (Ope.mov rfl ?_)))))
    refine Reg.op rfl (Ope.ne rfl rfl ?_)
    refine Reg.nil (Run.condX rfl (fun hc=>?_) fun hc=>?_)
    ·exact absurd rfl hc
    ·refine Run.skip (Run.seq (Run.seq (Run.region (cx_ok _ _ _) (Reg.op rfl (Ope.load rfl rfl ?_)))))
     refine Reg.op rfl (Ope.mov rfl ?_)
     refine Reg.op rfl (Ope.cf rfl rfl hri hbr ?_)
     refine Reg.op rfl (Ope.not rfl ?_)
     refine Reg.nil (Run.condX rfl (fun hc=>?_) fun hc=>?_)
     ·refine Run.seq (Run.region (cx_ok _ _ _) (Reg.op rfl (Ope.asg rfl ?_)))
      refine Reg.op rfl (Ope.asg rfl ?_)
      exact Reg.nil (Run.ret (Jmp.code (fin_ret (.tmp rfl (.tmp rfl .nil)) rfl rfl)))
     ·cases hc
  | true =>
    refine PFun.of (C:=c19) (cx_ok _ _ _) rfl (fn:=Try.f19) (by kernel_rfl) (c:=_) rfl rfl rfl ?_
    refine Run.seq (Run.region (cx_ok _ _ _) (Reg.op rfl (Ope.boxF rfl rfl ?_)))
    refine Reg.op rfl (Ope.asg rfl ?_)
    refine Reg.op rfl (Ope.asg rfl ?_)
    refine Reg.nil (Run.seq (Run.region (cx_ok _ _ _) (Reg.op rfl (Ope.load rfl rfl ?_))))
    refine Reg.op rfl (Ope.mov rfl ?_)
    refine Reg.op rfl (Ope.cf rfl rfl hc hbo ?_)
    refine Reg.op rfl (Ope.asg rfl ?_)
    refine Reg.nil (Run.seq (Run.seq (Run.region (cx_ok _ _ _) (Reg.op rfl (Ope.mov rfl ?_)))))
    refine Reg.op rfl (Ope.ne rfl rfl ?_)
    refine Reg.nil (Run.condX rfl (fun hc=>?_) fun hc=>?_)
    ·exact absurd rfl hc
    ·refine Run.skip (Run.seq (Run.seq (Run.region (cx_ok _ _ _) (Reg.op rfl (Ope.load rfl rfl ?_)))))
     refine Reg.op rfl (Ope.mov rfl ?_)
     refine Reg.op rfl (Ope.cf rfl rfl hri hbr ?_)
     refine Reg.op rfl (Ope.not rfl ?_)
     refine Reg.nil (Run.condX rfl (fun hc=>?_) fun hc=>?_)
     ·cases hc
     ·refine Run.skip (Run.seq (Run.region (cx_ok _ _ _) (Reg.op rfl (Ope.asg rfl ?_))))
      refine Reg.nil (Run.seq (Run.block (Run.loop (α:=Nat) (fun n=>[(1,.sl t (o.map N)),(2,.fp (s.v t1 t2)),(7,N n)]) (fun _=>HE 0 []) (fun n=>n≤30∧s.slk o (30 - n) n=z) (fun n=>30 - n) 0 ⟨rfl,rfl,rfl,trivial⟩ rfl ⟨Nat.zero_le _,hz⟩ (fun n hn=>?_))))
      obtain ⟨hn,hnz⟩:=hn
      obtain ⟨t3,ht3,hlf,hrf⟩:=hlo n hn
      have hend:n=30→z=n:=fun h=>by subst h;rw [← hnz];exact hs0 _
      have hstp:n < 30→(s.lon ((n:Int)+1)).rgt o=true→s.slk o (30 - (n+1)) (n+1)=z:=fun h h'=>by
        rw [show 30 - n=(30 - (n+1))+1 from by omega,hsl,if_pos h'] at hnz
        exact hnz
      have hstop:n < 30→(s.lon ((n:Int)+1)).rgt o=false→z=n:=fun h h'=>by
        rw [← hnz,show 30 - n=(30 - (n+1))+1 from by omega,hsl,if_neg (by rw [h'];decide)]
      generalize (s.lon ((n:Int)+1)).rgt o=rr at *
      refine Run.seq (Run.seq (Run.region (cx_ok _ _ _) (Reg.op rfl (Ope.mov rfl ?_))))
      refine Reg.op rfl (Ope.lt rfl rfl ?_)
      refine Reg.op rfl (Ope.mov rfl ?_)
      refine Reg.splitX rfl rfl (fun hg=>?_) fun hg=>?_
      ·refine Reg.on rfl rfl rfl (Ope.load rfl rfl ?_)
       refine Reg.on rfl rfl rfl (Ope.mov rfl ?_)
       refine Reg.on rfl rfl rfl (Ope.add rfl rfl (by omega) ?_)
       refine Reg.on rfl rfl rfl (Ope.cf rfl rfl hlf (hbl _) ?_)
       refine Reg.on rfl rfl rfl (Ope.mov rfl ?_)
       refine Reg.on rfl rfl rfl (Ope.cf rfl rfl hrf (hbx _ _ ht3) ?_)
       refine Reg.op rfl (Ope.pickT rfl rfl ?_)
       refine Reg.nil (Run.condX rfl (fun hc=>?_) fun hc=>?_)
       ·refine Run.skip (Run.block (Run.region (cx_ok _ _ _) (Reg.op rfl (Ope.mov rfl ?_))))
        refine Reg.op rfl (Ope.add rfl rfl (by omega) ?_)
        refine Reg.op rfl (Ope.asg rfl ?_)
        exact Reg.nil (Run.bend (Run.lend ⟨n+1,by omega,⟨by omega,hstp (by omega) hc⟩,⟨rfl,rfl,rfl,trivial⟩,rfl,rfl⟩))
       ·refine Run.exit (Jmp.code (Jmp.round (Jmp.here (Run.seq (Run.region (cx_ok _ _ _) (Reg.op rfl (Ope.mov rfl ?_)))))))
        refine Reg.op rfl (Ope.asg rfl ?_)
        refine Reg.op rfl (Ope.asg rfl ?_)
        refine Reg.nil (Run.ret (fin_ret (.tmp rfl (.tmp rfl .nil)) rfl ?_))
        first
        | (rw [hend (by omega)];rfl)
        | (rw [hstop (by omega) hc];rfl)
      ·refine Reg.off rfl rfl rfl (Reg.off rfl rfl rfl (Reg.off rfl rfl rfl (Reg.off rfl rfl rfl (Reg.off rfl rfl rfl (Reg.off rfl rfl rfl (Reg.op rfl (Ope.pickF rfl rfl ?_)))))))
       refine Reg.nil (Run.condF rfl (Run.exit (Jmp.code (Jmp.round (Jmp.here (Run.seq (Run.region (cx_ok _ _ _) (Reg.op rfl (Ope.mov rfl ?_)))))))))
       refine Reg.op rfl (Ope.asg rfl ?_)
       refine Reg.op rfl (Ope.asg rfl ?_)
       refine Reg.nil (Run.ret (fin_ret (.tmp rfl (.tmp rfl .nil)) rfl ?_))
       first
       | (rw [hend (by omega)];rfl)
       | (rw [hstop (by omega) hc];rfl)
theorem reads (hi : s.i64) (hS : s.su.length ≤ 40) (hJ : s.jo.length ≤ 40) (t : Tail) (ht : t.isOwn = false) (xs : List Int) (hx : xs.length ≤ 40) :
    ∃ (A : List (Int × Int)) (ta tb : Tail) (e c d g k l p q u w : Int), A.length ≤ 1000000 ∧ ta.isOwn = false ∧ tb.isOwn = false ∧
      Fn P0 14 [s.v t1 t2,.sl t (xs.map I)] (.tup [.sl ta (A.map spV),I e])∧Fn P0 15 [s.v t1 t2,.sl t (xs.map I)] (.tup [.sl tb (A.map spV),I e]) ∧
      Fn P0 16 [s.v t1 t2,.sl t (xs.map I)] (.tup [I c,I d,I g])∧Fn P0 17 [s.v t1 t2,.sl t (xs.map I)] (.tup [I c,I d,I g]) ∧
      Fn P0 18 [s.v t1 t2,.sl t (xs.map I)] (.tup [I k,I l])∧Fn P0 19 [s.v t1 t2,.sl t (xs.map I)] (.tup [I k,I l]) ∧
      Fn P0 20 [s.v t1 t2] (.tup [I p,I q])∧Fn P0 21 [s.v t1 t2] (.tup [I p,I q]) ∧
      Fn P0 22 [s.v t1 t2] (.tup [I u,I w])∧Fn P0 23 [s.v t1 t2] (.tup [I u,I w]):=by
  have hck:=f48 s h1 h2 hi (by omega) (by omega) t ht xs (by omega)
  cases hv:s.val with
  | false =>
    have he:chk s xs=1:=by unfold chk;rw [if_neg (by rw [hv];decide)]
    rw [he] at hck
    exact ⟨[],.ex,.ex,1,0,0,1,0,1,0,1,0,1,by simp,rfl,rfl,
      f14er s h1 h2 (by omega) (by omega) t ht xs (by omega) 1 (.inl ⟨hv,rfl⟩),f15er s h1 h2 t ht xs 1 (by decide) hck,
      f16er s h1 h2 (by omega) (by omega) t ht xs (by omega) 1 (.inl ⟨hv,rfl⟩),f17er s h1 h2 t ht xs 1 (by decide) hck,
      f18er s h1 h2 (by omega) (by omega) t ht xs (by omega) 1 (.inl ⟨hv,rfl⟩),f19er s h1 h2 t ht xs 1 (by decide) hck,
      f20ba s h1 h2 (by omega) (by omega) hv,f21ba s h1 h2 hi (by omega) (by omega) hv,
      f22ba s h1 h2 (by omega) (by omega) hv,f23ba s h1 h2 hi (by omega) (by omega) hv⟩
  | true =>
    have hs:=val_ok hi hv
    have hn6:=hs.jo
    have hco:=f20ok s h1 h2 hv hs
    have hcr:=f21ok s h1 h2 hi hv
    have hfi:=f22ok s h1 h2 hv hs
    have hfr:=f23ok s h1 h2 hi hv
    cases hb:ordB s.jo.length xs with
    | false =>
      have he:chk s xs=2:=by unfold chk;rw [if_pos hv,if_neg (by rw [hb];decide)]
      rw [he] at hck
      exact ⟨[],.ex,.ex,2,0,0,2,0,2,_,_,_,_,by simp,rfl,rfl,
        f14er s h1 h2 (by omega) (by omega) t ht xs (by omega) 2 (.inr ⟨hv,hn6,hb,rfl⟩),f15er s h1 h2 t ht xs 2 (by decide) hck,
        f16er s h1 h2 (by omega) (by omega) t ht xs (by omega) 2 (.inr ⟨hv,hn6,hb,rfl⟩),f17er s h1 h2 t ht xs 2 (by decide) hck,
        f18er s h1 h2 (by omega) (by omega) t ht xs (by omega) 2 (.inr ⟨hv,hn6,hb,rfl⟩),f19er s h1 h2 t ht xs 2 (by decide) hck,hco,hcr,hfi,hfr⟩
    | true =>
      have he:chk s xs=0:=by unfold chk;rw [if_pos hv,if_pos hb]
      rw [he] at hck
      obtain ⟨o,rfl,ho⟩:=ord_nat hn6 hb
      rw [map_N] at hck ⊢
      have hti:=timesV h1 h2 hv hs ht ho
      have htr:=f15ok s h1 h2 hs t ht o ho hck
      rw [sps] at hti htr
      have hcc:=f17ok s h1 h2 hs t ht o ho hck
      have hss:=f19ok s h1 h2 hs t ht o ho hck
      obtain ⟨J,R,g,hch,hg⟩:=checkV h1 h2 hv hs ht ho
      have hA:((s.alg Shp.p0 o).map fun w=>(w.d0,w.d1)).length≤1000000:=by rw [List.length_map,alg_len];have:=ho.len;omega
      cases hf:s.flt (s.alg Shp.p0 o) with
      | none =>
        have hr:s.rgt o=true:=rgt_iff.2 hf
        rw [hf] at hcc
        rw [if_pos hr] at hss
        exact ⟨_,.no,.no,0,0,0,4,_,0,_,_,_,_,hA,rfl,rfl,hti,htr,f16no s h1 h2 (by omega) (by omega) t ht hv hs o ho hf,hcc,f18ok s h1 h2 (by omega) (by omega) t ht hv hs o ho hr,hss,hco,hcr,hfi,hfr⟩
      | some x =>
        obtain ⟨j,r⟩:=x
        have hr:s.rgt o=false:=by unfold Shp.rgt;rw [hf];rfl
        rw [hf] at hcc
        rw [if_neg (by rw [hr];decide)] at hss
        exact ⟨_,.no,.no,0,_,_,0,0,4,_,_,_,_,hA,rfl,rfl,hti,htr,f16ok s h1 h2 (by omega) (by omega) t ht hv hs o ho hf,hcc,f18no s h1 h2 (by omega) (by omega) t ht hv hs o ho hr,hss,hco,hcr,hfi,hfr⟩
theorem f3 (hi : s.i64) (t : Tail) (ht : t.isOwn = false) (xs : List Int) : Fn P0 3 [s.v t1 t2, .sl t (xs.map I)] (B true) := by
  have hfa:=f12 s h1 h2 t (xs.map I)
  rw [List.length_map] at hfa
  have hbo:PV.bds 0 [s.v t1 t2,.sl t (xs.map I)]=true:=bd_shpV s h1 h2 (bds_cons (bd_sl (f:=I) ht (fun _=>rfl) _) rfl)
  have hbs:PV.bds 0 [s.v t1 t2]=true:=bd_shpV s h1 h2 rfl
  cases hf:farB s.su.length s.jo.length xs.length with
  | true =>
    rw [hf] at hfa
    refine PFun.of (C:=c3) (cx_ok _ _ _) rfl (fn:=Try.f3) (by kernel_rfl) (c:=_) rfl rfl rfl ?_
    refine Run.seq (Run.region (cx_ok _ _ _) (Reg.op rfl (Ope.boxF rfl rfl ?_)))
    refine Reg.op rfl (Ope.asg rfl ?_)
    refine Reg.nil (Run.seq (Run.seq (Run.region (cx_ok _ _ _) (Reg.op rfl (Ope.load rfl rfl ?_)))))
    refine Reg.op rfl (Ope.mov rfl ?_)
    refine Reg.op rfl (Ope.cf rfl rfl hfa hbo ?_)
    refine Reg.nil (Run.condX rfl (fun hc=>?_) fun hc=>?_)
    ·refine Run.seq (Run.region (cx_ok _ _ _) (Reg.op rfl (Ope.cf rfl rfl (awakeF) rfl ?_)))
     refine Reg.op rfl (Ope.asg rfl ?_)
     exact Reg.nil (Run.ret (Jmp.code (fin_ret (.tmp rfl .nil) rfl rfl)))
    ·cases hc
  | false =>
    rw [hf] at hfa
    unfold farB at hf
    simp only [Bool.or_eq_false_iff,decide_eq_false_iff_not] at hf
    obtain ⟨A,ta,tb,e,c,d,g,k,l,p,q,u,w,hA,hta,htb,a1,a2,a3,a4,a5,a6,a7,a8,a9,a10⟩:=reads s h1 h2 hi (by omega) (by omega) t ht xs (by omega)
    have hsp:=f24 ta tb A A hA hA
    rw [decide_eq_true rfl] at hsp
    have hbA:PV.bds 0 [.sl ta (A.map spV),.sl tb (A.map spV)]=true:=bds_cons (bd_sl (f:=spV) hta (fun _=>rfl) _) (bds_cons (bd_sl (f:=spV) htb (fun _=>rfl) _) rfl)
    refine PFun.of (C:=c3) (cx_ok _ _ _) rfl (fn:=Try.f3) (by kernel_rfl) (c:=_) rfl rfl rfl ?_
    refine Run.seq (Run.region (cx_ok _ _ _) (Reg.op rfl (Ope.boxF rfl rfl ?_)))
    refine Reg.op rfl (Ope.asg rfl ?_)
    refine Reg.nil (Run.seq (Run.seq (Run.region (cx_ok _ _ _) (Reg.op rfl (Ope.load rfl rfl ?_)))))
    refine Reg.op rfl (Ope.mov rfl ?_)
    refine Reg.op rfl (Ope.cf rfl rfl hfa hbo ?_)
    refine Reg.nil (Run.condX rfl (fun hc=>?_) fun hc=>?_)
    ·cases hc
    ·refine Run.skip (Run.seq (Run.region (cx_ok _ _ _) (Reg.op rfl (Ope.load rfl rfl ?_))))
     refine Reg.op rfl (Ope.mov rfl ?_)
     refine Reg.op rfl (Ope.cf rfl rfl a1 hbo ?_)
     refine Reg.op rfl (Ope.mov rfl ?_)
     refine Reg.op rfl (Ope.ext rfl rfl ?_)
     refine Reg.op rfl (Ope.ext rfl rfl ?_)
     refine Reg.op rfl (Ope.asg rfl ?_)
     refine Reg.op rfl (Ope.asg rfl ?_)
     refine Reg.nil (Run.seq (Run.region (cx_ok _ _ _) (Reg.op rfl (Ope.load rfl rfl ?_))))
     refine Reg.op rfl (Ope.mov rfl ?_)
     refine Reg.op rfl (Ope.cf rfl rfl a2 hbo ?_)
     refine Reg.op rfl (Ope.mov rfl ?_)
     refine Reg.op rfl (Ope.ext rfl rfl ?_)
     refine Reg.op rfl (Ope.ext rfl rfl ?_)
     refine Reg.op rfl (Ope.asg rfl ?_)
     refine Reg.op rfl (Ope.asg rfl ?_)
     refine Reg.nil (Run.seq (Run.region (cx_ok _ _ _) (Reg.op rfl (Ope.load rfl rfl ?_))))
     refine Reg.op rfl (Ope.mov rfl ?_)
     refine Reg.op rfl (Ope.cf rfl rfl a3 hbo ?_)
     refine Reg.op rfl (Ope.mov rfl ?_)
     refine Reg.op rfl (Ope.ext rfl rfl ?_)
     refine Reg.op rfl (Ope.ext rfl rfl ?_)
     refine Reg.op rfl (Ope.ext rfl rfl ?_)
     refine Reg.op rfl (Ope.asg rfl ?_)
     refine Reg.op rfl (Ope.asg rfl ?_)
     refine Reg.op rfl (Ope.asg rfl ?_)
     refine Reg.nil (Run.seq (Run.region (cx_ok _ _ _) (Reg.op rfl (Ope.load rfl rfl ?_))))
     refine Reg.op rfl (Ope.mov rfl ?_)
     refine Reg.op rfl (Ope.cf rfl rfl a4 hbo ?_)
     refine Reg.op rfl (Ope.mov rfl ?_)
     refine Reg.op rfl (Ope.ext rfl rfl ?_)
     refine Reg.op rfl (Ope.ext rfl rfl ?_)
     refine Reg.op rfl (Ope.ext rfl rfl ?_)
     refine Reg.op rfl (Ope.asg rfl ?_)
     refine Reg.op rfl (Ope.asg rfl ?_)
     refine Reg.op rfl (Ope.asg rfl ?_)
     refine Reg.nil (Run.seq (Run.region (cx_ok _ _ _) (Reg.op rfl (Ope.load rfl rfl ?_))))
     refine Reg.op rfl (Ope.mov rfl ?_)
     refine Reg.op rfl (Ope.cf rfl rfl a5 hbo ?_)
     refine Reg.op rfl (Ope.mov rfl ?_)
     refine Reg.op rfl (Ope.ext rfl rfl ?_)
     refine Reg.op rfl (Ope.ext rfl rfl ?_)
     refine Reg.op rfl (Ope.asg rfl ?_)
     refine Reg.op rfl (Ope.asg rfl ?_)
     refine Reg.nil (Run.seq (Run.region (cx_ok _ _ _) (Reg.op rfl (Ope.load rfl rfl ?_))))
     refine Reg.op rfl (Ope.mov rfl ?_)
     refine Reg.op rfl (Ope.cf rfl rfl a6 hbo ?_)
     refine Reg.op rfl (Ope.mov rfl ?_)
     refine Reg.op rfl (Ope.ext rfl rfl ?_)
     refine Reg.op rfl (Ope.ext rfl rfl ?_)
     refine Reg.op rfl (Ope.asg rfl ?_)
     refine Reg.op rfl (Ope.asg rfl ?_)
     refine Reg.nil (Run.seq (Run.region (cx_ok _ _ _) (Reg.op rfl (Ope.load rfl rfl ?_))))
     refine Reg.op rfl (Ope.cf rfl rfl a7 hbs ?_)
     refine Reg.op rfl (Ope.mov rfl ?_)
     refine Reg.op rfl (Ope.ext rfl rfl ?_)
     refine Reg.op rfl (Ope.ext rfl rfl ?_)
     refine Reg.op rfl (Ope.asg rfl ?_)
     refine Reg.op rfl (Ope.asg rfl ?_)
     refine Reg.nil (Run.seq (Run.region (cx_ok _ _ _) (Reg.op rfl (Ope.load rfl rfl ?_))))
     refine Reg.op rfl (Ope.cf rfl rfl a8 hbs ?_)
     refine Reg.op rfl (Ope.mov rfl ?_)
     refine Reg.op rfl (Ope.ext rfl rfl ?_)
     refine Reg.op rfl (Ope.ext rfl rfl ?_)
     refine Reg.op rfl (Ope.asg rfl ?_)
     refine Reg.op rfl (Ope.asg rfl ?_)
     refine Reg.nil (Run.seq (Run.region (cx_ok _ _ _) (Reg.op rfl (Ope.load rfl rfl ?_))))
     refine Reg.op rfl (Ope.cf rfl rfl a9 hbs ?_)
     refine Reg.op rfl (Ope.mov rfl ?_)
     refine Reg.op rfl (Ope.ext rfl rfl ?_)
     refine Reg.op rfl (Ope.ext rfl rfl ?_)
     refine Reg.op rfl (Ope.asg rfl ?_)
     refine Reg.op rfl (Ope.asg rfl ?_)
     refine Reg.nil (Run.seq (Run.region (cx_ok _ _ _) (Reg.op rfl (Ope.load rfl rfl ?_))))
     refine Reg.op rfl (Ope.cf rfl rfl a10 hbs ?_)
     refine Reg.op rfl (Ope.mov rfl ?_)
     refine Reg.op rfl (Ope.ext rfl rfl ?_)
     refine Reg.op rfl (Ope.ext rfl rfl ?_)
     refine Reg.op rfl (Ope.asg rfl ?_)
     refine Reg.op rfl (Ope.asg rfl ?_)
     refine Reg.nil (Run.seq (Run.region (cx_ok _ _ _) (Reg.op rfl (Ope.mov rfl ?_))))
     refine Reg.op rfl (Ope.mov rfl ?_)
     refine Reg.op rfl (Ope.cf rfl rfl hsp hbA ?_)
     refine Reg.op rfl (Ope.mov rfl ?_)
     refine Reg.splitX rfl rfl (fun hg=>?_) fun hg=>?_
     ·first
      |(first | (exfalso;omega) | (exfalso;simp at hg;done))
      |refine Reg.on rfl rfl rfl (Ope.mov rfl ?_)
       refine Reg.on rfl rfl rfl (Ope.mov rfl ?_)
       refine Reg.on rfl rfl rfl (Ope.eq rfl rfl ?_)
       refine Reg.op rfl (Ope.pickT rfl rfl ?_)
       refine Reg.op rfl (Ope.mov rfl ?_)
       refine Reg.splitX rfl rfl (fun hg=>?_) fun hg=>?_
       ·first
        |(first | (exfalso;omega) | (exfalso;simp at hg;done))
        |refine Reg.on rfl rfl rfl (Ope.mov rfl ?_)
         refine Reg.on rfl rfl rfl (Ope.mov rfl ?_)
         refine Reg.on rfl rfl rfl (Ope.eq rfl rfl ?_)
         refine Reg.op rfl (Ope.pickT rfl rfl ?_)
         refine Reg.op rfl (Ope.mov rfl ?_)
         refine Reg.splitX rfl rfl (fun hg=>?_) fun hg=>?_
         ·first
          |(first | (exfalso;omega) | (exfalso;simp at hg;done))
          |refine Reg.on rfl rfl rfl (Ope.mov rfl ?_)
           refine Reg.on rfl rfl rfl (Ope.mov rfl ?_)
           refine Reg.on rfl rfl rfl (Ope.eq rfl rfl ?_)
           refine Reg.op rfl (Ope.pickT rfl rfl ?_)
           refine Reg.op rfl (Ope.mov rfl ?_)
           refine Reg.splitX rfl rfl (fun hg=>?_) fun hg=>?_
           ·first
            |(first | (exfalso;omega) | (exfalso;simp at hg;done))
            |refine Reg.on rfl rfl rfl (Ope.mov rfl ?_)
             refine Reg.on rfl rfl rfl (Ope.mov rfl ?_)
             refine Reg.on rfl rfl rfl (Ope.eq rfl rfl ?_)
             refine Reg.op rfl (Ope.pickT rfl rfl ?_)
             refine Reg.op rfl (Ope.mov rfl ?_)
             refine Reg.splitX rfl rfl (fun hg=>?_) fun hg=>?_
             ·first
              |(first | (exfalso;omega) | (exfalso;simp at hg;done))
              |refine Reg.on rfl rfl rfl (Ope.mov rfl ?_)
               refine Reg.on rfl rfl rfl (Ope.mov rfl ?_)
               refine Reg.on rfl rfl rfl (Ope.eq rfl rfl ?_)
               refine Reg.op rfl (Ope.pickT rfl rfl ?_)
               refine Reg.op rfl (Ope.mov rfl ?_)
               refine Reg.splitX rfl rfl (fun hg=>?_) fun hg=>?_
               ·first
                |(first | (exfalso;omega) | (exfalso;simp at hg;done))
                |refine Reg.on rfl rfl rfl (Ope.mov rfl ?_)
                 refine Reg.on rfl rfl rfl (Ope.mov rfl ?_)
                 refine Reg.on rfl rfl rfl (Ope.eq rfl rfl ?_)
                 refine Reg.op rfl (Ope.pickT rfl rfl ?_)
                 refine Reg.op rfl (Ope.mov rfl ?_)
                 refine Reg.splitX rfl rfl (fun hg=>?_) fun hg=>?_
                 ·first
                  |(first | (exfalso;omega) | (exfalso;simp at hg;done))
                  |refine Reg.on rfl rfl rfl (Ope.mov rfl ?_)
                   refine Reg.on rfl rfl rfl (Ope.mov rfl ?_)
                   refine Reg.on rfl rfl rfl (Ope.eq rfl rfl ?_)
                   refine Reg.op rfl (Ope.pickT rfl rfl ?_)
                   refine Reg.op rfl (Ope.mov rfl ?_)
                   refine Reg.splitX rfl rfl (fun hg=>?_) fun hg=>?_
                   ·first
                    |(first | (exfalso;omega) | (exfalso;simp at hg;done))
                    |refine Reg.on rfl rfl rfl (Ope.mov rfl ?_)
                     refine Reg.on rfl rfl rfl (Ope.mov rfl ?_)
                     refine Reg.on rfl rfl rfl (Ope.eq rfl rfl ?_)
                     refine Reg.op rfl (Ope.pickT rfl rfl ?_)
                     refine Reg.op rfl (Ope.mov rfl ?_)
                     refine Reg.splitX rfl rfl (fun hg=>?_) fun hg=>?_
                     ·first
                      |(first | (exfalso;omega) | (exfalso;simp at hg;done))
                      |refine Reg.on rfl rfl rfl (Ope.mov rfl ?_)
                       refine Reg.on rfl rfl rfl (Ope.mov rfl ?_)
                       refine Reg.on rfl rfl rfl (Ope.eq rfl rfl ?_)
                       refine Reg.op rfl (Ope.pickT rfl rfl ?_)
                       refine Reg.op rfl (Ope.mov rfl ?_)
                       refine Reg.splitX rfl rfl (fun hg=>?_) fun hg=>?_
                       ·first
                        |(first | (exfalso;omega) | (exfalso;simp at hg;done))
                        |refine Reg.on rfl rfl rfl (Ope.mov rfl ?_)
                         refine Reg.on rfl rfl rfl (Ope.mov rfl ?_)
                         refine Reg.on rfl rfl rfl (Ope.eq rfl rfl ?_)
                         refine Reg.op rfl (Ope.pickT rfl rfl ?_)
                         refine Reg.op rfl (Ope.mov rfl ?_)
                         refine Reg.splitX rfl rfl (fun hg=>?_) fun hg=>?_
                         ·first
                          |(first | (exfalso;omega) | (exfalso;simp at hg;done))
                          |refine Reg.on rfl rfl rfl (Ope.cf rfl rfl (awakeF) rfl ?_)
                           refine Reg.op rfl (Ope.pickT rfl rfl ?_)
                           refine Reg.op rfl (Ope.asg rfl ?_)
                           exact Reg.nil (Run.ret (fin_ret (.tmp rfl .nil) rfl rfl))
                         ·first
                          |(first | (exfalso;omega) | (exfalso;simp at hg;done))
                          |refine Reg.off rfl rfl rfl (Reg.op rfl (Ope.pickF rfl rfl ?_))
                           refine Reg.op rfl (Ope.asg rfl ?_)
                           exact Reg.nil (Run.ret (fin_ret (.tmp rfl .nil) rfl rfl))
                       ·first
                        |(first | (exfalso;omega) | (exfalso;simp at hg;done))
                        |refine Reg.off rfl rfl rfl (Reg.off rfl rfl rfl (Reg.off rfl rfl rfl (Reg.op rfl (Ope.pickF rfl rfl ?_))))
                         refine Reg.op rfl (Ope.mov rfl ?_)
                         refine Reg.off rfl rfl rfl (Reg.op rfl (Ope.pickF rfl rfl ?_))
                         refine Reg.op rfl (Ope.asg rfl ?_)
                         exact Reg.nil (Run.ret (fin_ret (.tmp rfl .nil) rfl rfl))
                     ·first
                      |(first | (exfalso;omega) | (exfalso;simp at hg;done))
                      |refine Reg.off rfl rfl rfl (Reg.off rfl rfl rfl (Reg.off rfl rfl rfl (Reg.op rfl (Ope.pickF rfl rfl ?_))))
                       refine Reg.op rfl (Ope.mov rfl ?_)
                       refine Reg.off rfl rfl rfl (Reg.off rfl rfl rfl (Reg.off rfl rfl rfl (Reg.op rfl (Ope.pickF rfl rfl ?_))))
                       refine Reg.op rfl (Ope.mov rfl ?_)
                       refine Reg.off rfl rfl rfl (Reg.op rfl (Ope.pickF rfl rfl ?_))
                       refine Reg.op rfl (Ope.asg rfl ?_)
                       exact Reg.nil (Run.ret (fin_ret (.tmp rfl .nil) rfl rfl))
                   ·first
                    |(first | (exfalso;omega) | (exfalso;simp at hg;done))
                    |refine Reg.off rfl rfl rfl (Reg.off rfl rfl rfl (Reg.off rfl rfl rfl (Reg.op rfl (Ope.pickF rfl rfl ?_))))
                     refine Reg.op rfl (Ope.mov rfl ?_)
                     refine Reg.off rfl rfl rfl (Reg.off rfl rfl rfl (Reg.off rfl rfl rfl (Reg.op rfl (Ope.pickF rfl rfl ?_))))
                     refine Reg.op rfl (Ope.mov rfl ?_)
                     refine Reg.off rfl rfl rfl (Reg.off rfl rfl rfl (Reg.off rfl rfl rfl (Reg.op rfl (Ope.pickF rfl rfl ?_))))
                     refine Reg.op rfl (Ope.mov rfl ?_)
                     refine Reg.off rfl rfl rfl (Reg.op rfl (Ope.pickF rfl rfl ?_))
                     refine Reg.op rfl (Ope.asg rfl ?_)
                     exact Reg.nil (Run.ret (fin_ret (.tmp rfl .nil) rfl rfl))
                 ·first
                  |(first | (exfalso;omega) | (exfalso;simp at hg;done))
                  |refine Reg.off rfl rfl rfl (Reg.off rfl rfl rfl (Reg.off rfl rfl rfl (Reg.op rfl (Ope.pickF rfl rfl ?_))))
                   refine Reg.op rfl (Ope.mov rfl ?_)
                   refine Reg.off rfl rfl rfl (Reg.off rfl rfl rfl (Reg.off rfl rfl rfl (Reg.op rfl (Ope.pickF rfl rfl ?_))))
                   refine Reg.op rfl (Ope.mov rfl ?_)
                   refine Reg.off rfl rfl rfl (Reg.off rfl rfl rfl (Reg.off rfl rfl rfl (Reg.op rfl (Ope.pickF rfl rfl ?_))))
                   refine Reg.op rfl (Ope.mov rfl ?_)
                   refine Reg.off rfl rfl rfl (Reg.off rfl rfl rfl (Reg.off rfl rfl rfl (Reg.op rfl (Ope.pickF rfl rfl ?_))))
                   refine Reg.op rfl (Ope.mov rfl ?_)
                   refine Reg.off rfl rfl rfl (Reg.op rfl (Ope.pickF rfl rfl ?_))
                   refine Reg.op rfl (Ope.asg rfl ?_)
                   exact Reg.nil (Run.ret (fin_ret (.tmp rfl .nil) rfl rfl))
               ·first
                |(first | (exfalso;omega) | (exfalso;simp at hg;done))
                |refine Reg.off rfl rfl rfl (Reg.off rfl rfl rfl (Reg.off rfl rfl rfl (Reg.op rfl (Ope.pickF rfl rfl ?_))))
                 refine Reg.op rfl (Ope.mov rfl ?_)
                 refine Reg.off rfl rfl rfl (Reg.off rfl rfl rfl (Reg.off rfl rfl rfl (Reg.op rfl (Ope.pickF rfl rfl ?_))))
                 refine Reg.op rfl (Ope.mov rfl ?_)
                 refine Reg.off rfl rfl rfl (Reg.off rfl rfl rfl (Reg.off rfl rfl rfl (Reg.op rfl (Ope.pickF rfl rfl ?_))))
                 refine Reg.op rfl (Ope.mov rfl ?_)
                 refine Reg.off rfl rfl rfl (Reg.off rfl rfl rfl (Reg.off rfl rfl rfl (Reg.op rfl (Ope.pickF rfl rfl ?_))))
                 refine Reg.op rfl (Ope.mov rfl ?_)
                 refine Reg.off rfl rfl rfl (Reg.off rfl rfl rfl (Reg.off rfl rfl rfl (Reg.op rfl (Ope.pickF rfl rfl ?_))))
                 refine Reg.op rfl (Ope.mov rfl ?_)
                 refine Reg.off rfl rfl rfl (Reg.op rfl (Ope.pickF rfl rfl ?_))
                 refine Reg.op rfl (Ope.asg rfl ?_)
                 exact Reg.nil (Run.ret (fin_ret (.tmp rfl .nil) rfl rfl))
             ·first
              |(first | (exfalso;omega) | (exfalso;simp at hg;done))
              |refine Reg.off rfl rfl rfl (Reg.off rfl rfl rfl (Reg.off rfl rfl rfl (Reg.op rfl (Ope.pickF rfl rfl ?_))))
               refine Reg.op rfl (Ope.mov rfl ?_)
               refine Reg.off rfl rfl rfl (Reg.off rfl rfl rfl (Reg.off rfl rfl rfl (Reg.op rfl (Ope.pickF rfl rfl ?_))))
               refine Reg.op rfl (Ope.mov rfl ?_)
               refine Reg.off rfl rfl rfl (Reg.off rfl rfl rfl (Reg.off rfl rfl rfl (Reg.op rfl (Ope.pickF rfl rfl ?_))))
               refine Reg.op rfl (Ope.mov rfl ?_)
               refine Reg.off rfl rfl rfl (Reg.off rfl rfl rfl (Reg.off rfl rfl rfl (Reg.op rfl (Ope.pickF rfl rfl ?_))))
               refine Reg.op rfl (Ope.mov rfl ?_)
               refine Reg.off rfl rfl rfl (Reg.off rfl rfl rfl (Reg.off rfl rfl rfl (Reg.op rfl (Ope.pickF rfl rfl ?_))))
               refine Reg.op rfl (Ope.mov rfl ?_)
               refine Reg.off rfl rfl rfl (Reg.off rfl rfl rfl (Reg.off rfl rfl rfl (Reg.op rfl (Ope.pickF rfl rfl ?_))))
               refine Reg.op rfl (Ope.mov rfl ?_)
               refine Reg.off rfl rfl rfl (Reg.op rfl (Ope.pickF rfl rfl ?_))
               refine Reg.op rfl (Ope.asg rfl ?_)
               exact Reg.nil (Run.ret (fin_ret (.tmp rfl .nil) rfl rfl))
           ·first
            |(first | (exfalso;omega) | (exfalso;simp at hg;done))
            |refine Reg.off rfl rfl rfl (Reg.off rfl rfl rfl (Reg.off rfl rfl rfl (Reg.op rfl (Ope.pickF rfl rfl ?_))))
             refine Reg.op rfl (Ope.mov rfl ?_)
             refine Reg.off rfl rfl rfl (Reg.off rfl rfl rfl (Reg.off rfl rfl rfl (Reg.op rfl (Ope.pickF rfl rfl ?_))))
             refine Reg.op rfl (Ope.mov rfl ?_)
             refine Reg.off rfl rfl rfl (Reg.off rfl rfl rfl (Reg.off rfl rfl rfl (Reg.op rfl (Ope.pickF rfl rfl ?_))))
             refine Reg.op rfl (Ope.mov rfl ?_)
             refine Reg.off rfl rfl rfl (Reg.off rfl rfl rfl (Reg.off rfl rfl rfl (Reg.op rfl (Ope.pickF rfl rfl ?_))))
             refine Reg.op rfl (Ope.mov rfl ?_)
             refine Reg.off rfl rfl rfl (Reg.off rfl rfl rfl (Reg.off rfl rfl rfl (Reg.op rfl (Ope.pickF rfl rfl ?_))))
             refine Reg.op rfl (Ope.mov rfl ?_)
             refine Reg.off rfl rfl rfl (Reg.off rfl rfl rfl (Reg.off rfl rfl rfl (Reg.op rfl (Ope.pickF rfl rfl ?_))))
             refine Reg.op rfl (Ope.mov rfl ?_)
             refine Reg.off rfl rfl rfl (Reg.off rfl rfl rfl (Reg.off rfl rfl rfl (Reg.op rfl (Ope.pickF rfl rfl ?_))))
             refine Reg.op rfl (Ope.mov rfl ?_)
             refine Reg.off rfl rfl rfl (Reg.op rfl (Ope.pickF rfl rfl ?_))
             refine Reg.op rfl (Ope.asg rfl ?_)
             exact Reg.nil (Run.ret (fin_ret (.tmp rfl .nil) rfl rfl))
         ·first
          |(first | (exfalso;omega) | (exfalso;simp at hg;done))
          |refine Reg.off rfl rfl rfl (Reg.off rfl rfl rfl (Reg.off rfl rfl rfl (Reg.op rfl (Ope.pickF rfl rfl ?_))))
           refine Reg.op rfl (Ope.mov rfl ?_)
           refine Reg.off rfl rfl rfl (Reg.off rfl rfl rfl (Reg.off rfl rfl rfl (Reg.op rfl (Ope.pickF rfl rfl ?_))))
           refine Reg.op rfl (Ope.mov rfl ?_)
           refine Reg.off rfl rfl rfl (Reg.off rfl rfl rfl (Reg.off rfl rfl rfl (Reg.op rfl (Ope.pickF rfl rfl ?_))))
           refine Reg.op rfl (Ope.mov rfl ?_)
           refine Reg.off rfl rfl rfl (Reg.off rfl rfl rfl (Reg.off rfl rfl rfl (Reg.op rfl (Ope.pickF rfl rfl ?_))))
           refine Reg.op rfl (Ope.mov rfl ?_)
           refine Reg.off rfl rfl rfl (Reg.off rfl rfl rfl (Reg.off rfl rfl rfl (Reg.op rfl (Ope.pickF rfl rfl ?_))))
           refine Reg.op rfl (Ope.mov rfl ?_)
           refine Reg.off rfl rfl rfl (Reg.off rfl rfl rfl (Reg.off rfl rfl rfl (Reg.op rfl (Ope.pickF rfl rfl ?_))))
           refine Reg.op rfl (Ope.mov rfl ?_)
           refine Reg.off rfl rfl rfl (Reg.off rfl rfl rfl (Reg.off rfl rfl rfl (Reg.op rfl (Ope.pickF rfl rfl ?_))))
           refine Reg.op rfl (Ope.mov rfl ?_)
           refine Reg.off rfl rfl rfl (Reg.off rfl rfl rfl (Reg.off rfl rfl rfl (Reg.op rfl (Ope.pickF rfl rfl ?_))))
           refine Reg.op rfl (Ope.mov rfl ?_)
           refine Reg.off rfl rfl rfl (Reg.op rfl (Ope.pickF rfl rfl ?_))
           refine Reg.op rfl (Ope.asg rfl ?_)
           exact Reg.nil (Run.ret (fin_ret (.tmp rfl .nil) rfl rfl))
       ·first
        |(first | (exfalso;omega) | (exfalso;simp at hg;done))
        |refine Reg.off rfl rfl rfl (Reg.off rfl rfl rfl (Reg.off rfl rfl rfl (Reg.op rfl (Ope.pickF rfl rfl ?_))))
         refine Reg.op rfl (Ope.mov rfl ?_)
         refine Reg.off rfl rfl rfl (Reg.off rfl rfl rfl (Reg.off rfl rfl rfl (Reg.op rfl (Ope.pickF rfl rfl ?_))))
         refine Reg.op rfl (Ope.mov rfl ?_)
         refine Reg.off rfl rfl rfl (Reg.off rfl rfl rfl (Reg.off rfl rfl rfl (Reg.op rfl (Ope.pickF rfl rfl ?_))))
         refine Reg.op rfl (Ope.mov rfl ?_)
         refine Reg.off rfl rfl rfl (Reg.off rfl rfl rfl (Reg.off rfl rfl rfl (Reg.op rfl (Ope.pickF rfl rfl ?_))))
         refine Reg.op rfl (Ope.mov rfl ?_)
         refine Reg.off rfl rfl rfl (Reg.off rfl rfl rfl (Reg.off rfl rfl rfl (Reg.op rfl (Ope.pickF rfl rfl ?_))))
         refine Reg.op rfl (Ope.mov rfl ?_)
         refine Reg.off rfl rfl rfl (Reg.off rfl rfl rfl (Reg.off rfl rfl rfl (Reg.op rfl (Ope.pickF rfl rfl ?_))))
         refine Reg.op rfl (Ope.mov rfl ?_)
         refine Reg.off rfl rfl rfl (Reg.off rfl rfl rfl (Reg.off rfl rfl rfl (Reg.op rfl (Ope.pickF rfl rfl ?_))))
         refine Reg.op rfl (Ope.mov rfl ?_)
         refine Reg.off rfl rfl rfl (Reg.off rfl rfl rfl (Reg.off rfl rfl rfl (Reg.op rfl (Ope.pickF rfl rfl ?_))))
         refine Reg.op rfl (Ope.mov rfl ?_)
         refine Reg.off rfl rfl rfl (Reg.off rfl rfl rfl (Reg.off rfl rfl rfl (Reg.op rfl (Ope.pickF rfl rfl ?_))))
         refine Reg.op rfl (Ope.mov rfl ?_)
         refine Reg.off rfl rfl rfl (Reg.op rfl (Ope.pickF rfl rfl ?_))
         refine Reg.op rfl (Ope.asg rfl ?_)
         exact Reg.nil (Run.ret (fin_ret (.tmp rfl .nil) rfl rfl))
     ·first
      |(first | (exfalso;omega) | (exfalso;simp at hg;done))
      |refine Reg.off rfl rfl rfl (Reg.off rfl rfl rfl (Reg.off rfl rfl rfl (Reg.op rfl (Ope.pickF rfl rfl ?_))))
       refine Reg.op rfl (Ope.mov rfl ?_)
       refine Reg.off rfl rfl rfl (Reg.off rfl rfl rfl (Reg.off rfl rfl rfl (Reg.op rfl (Ope.pickF rfl rfl ?_))))
       refine Reg.op rfl (Ope.mov rfl ?_)
       refine Reg.off rfl rfl rfl (Reg.off rfl rfl rfl (Reg.off rfl rfl rfl (Reg.op rfl (Ope.pickF rfl rfl ?_))))
       refine Reg.op rfl (Ope.mov rfl ?_)
       refine Reg.off rfl rfl rfl (Reg.off rfl rfl rfl (Reg.off rfl rfl rfl (Reg.op rfl (Ope.pickF rfl rfl ?_))))
       refine Reg.op rfl (Ope.mov rfl ?_)
       refine Reg.off rfl rfl rfl (Reg.off rfl rfl rfl (Reg.off rfl rfl rfl (Reg.op rfl (Ope.pickF rfl rfl ?_))))
       refine Reg.op rfl (Ope.mov rfl ?_)
       refine Reg.off rfl rfl rfl (Reg.off rfl rfl rfl (Reg.off rfl rfl rfl (Reg.op rfl (Ope.pickF rfl rfl ?_))))
       refine Reg.op rfl (Ope.mov rfl ?_)
       refine Reg.off rfl rfl rfl (Reg.off rfl rfl rfl (Reg.off rfl rfl rfl (Reg.op rfl (Ope.pickF rfl rfl ?_))))
       refine Reg.op rfl (Ope.mov rfl ?_)
       refine Reg.off rfl rfl rfl (Reg.off rfl rfl rfl (Reg.off rfl rfl rfl (Reg.op rfl (Ope.pickF rfl rfl ?_))))
       refine Reg.op rfl (Ope.mov rfl ?_)
       refine Reg.off rfl rfl rfl (Reg.off rfl rfl rfl (Reg.off rfl rfl rfl (Reg.op rfl (Ope.pickF rfl rfl ?_))))
       refine Reg.op rfl (Ope.mov rfl ?_)
       refine Reg.off rfl rfl rfl (Reg.off rfl rfl rfl (Reg.off rfl rfl rfl (Reg.op rfl (Ope.pickF rfl rfl ?_))))
       refine Reg.op rfl (Ope.mov rfl ?_)
       refine Reg.off rfl rfl rfl (Reg.op rfl (Ope.pickF rfl rfl ?_))
       refine Reg.op rfl (Ope.asg rfl ?_)
       exact Reg.nil (Run.ret (fin_ret (.tmp rfl .nil) rfl rfl))
end
end Go.Pv
namespace Go.Pv
open Go.Proofs Go.Am
set_option maxRecDepth 10000
section
variable {H:Type} {enc:TypeId×Value→H} {w:World} {base:Nat} {held:Bool}
theorem reads_int:Reads enc Try.prog w base (fun _=>true) held 3 fun ps=>∃ n:Int,ps=[I n]∧(-9223372036854775808≤n∧n≤9223372036854775807) :=
  (Reads.int Try.underlying3).mono fun ps ⟨n,h,h1,h2⟩=>⟨n,h,Int.le_trans (by decide) h1,Int.le_trans h2 (by decide)⟩
theorem reads_span:Reads enc Try.prog w base (fun _=>true) held 46 fun ps=>∃ a b:Int,ps=[I a,I b] :=
  (Reads.struct (Qs:=[fun ps=>∃ n:Int,ps=[I n]∧_,fun ps=>∃ n:Int,ps=[I n]∧_]) Try.underlying46 (by kernel_rfl) ⟨reads_int,reads_int,trivial⟩).mono fun ps h=>by
    obtain ⟨_,_,rfl,⟨a,rfl,_⟩,_,_,rfl,⟨b,rfl,_⟩,rfl⟩:=h
    exact ⟨a,b,rfl⟩
theorem reads_job:Reads enc Try.prog w base (fun _=>true) held 48 fun ps=>∃ j:Job,ps=j.v.cells∧(-9223372036854775808≤j.af∧j.af≤9223372036854775807) :=
  (Reads.struct (Qs:=[fun ps=>∃ n:Int,ps=[I n]∧_,fun ps=>∃ a b:Int,ps=[I a,I b],fun ps=>∃ n:Int,ps=[I n]∧_,fun ps=>∃ n:Int,ps=[I n]∧_,fun ps=>∃ n:Int,ps=[I n]∧_,fun ps=>∃ n:Int,ps=[I n]∧_,fun ps=>∃ n:Int,ps=[I n]∧_]) Try.underlying48 (by kernel_rfl) ⟨reads_int,reads_span,reads_int,reads_int,reads_int,reads_int,reads_int,trivial⟩).mono fun ps h=>by
    obtain ⟨_,_,rfl,⟨a,rfl,_⟩,_,_,rfl,⟨b,c,rfl⟩,_,_,rfl,⟨d,rfl,_⟩,_,_,rfl,⟨e,rfl,_⟩,_,_,rfl,⟨f,rfl,_⟩,_,_,rfl,⟨g,rfl,_⟩,_,_,rfl,⟨h,rfl,hh⟩,rfl⟩:=h
    exact ⟨⟨a,b,c,d,e,f,g,h⟩,rfl,hh⟩
theorem cells_job:Try.prog.cellsOf 48=8:=by kernel_rfl
theorem cells_int:Try.prog.cellsOf 3=1:=by kernel_rfl
theorem reads_jobs:Reads enc Try.prog w base (fun _=>true) held 23 fun ps=>∃ S:List Job,ps=[.sl .no (S.map Job.v)]∧∀ j∈S,-9223372036854775808≤j.af∧j.af≤9223372036854775807 :=
  (Reads.slice (Q:=fun j:Job=>-9223372036854775808≤j.af∧j.af≤9223372036854775807) (f:=Job.v) (fun _=>rfl) Try.underlying23 (by rw [cells_job];decide) (reads_job.mono fun ps ⟨s,h,h'⟩=>⟨s,h,by rw [cells_job];rfl,h'⟩)).mono fun ps ⟨S,h,_,h'⟩=>⟨S,h,h'⟩
theorem reads_ints:Reads enc Try.prog w base (fun _=>true) held 22 fun ps=>∃ S:List Int,ps=[.sl .no (S.map I)] :=
  (Reads.slice (Q:=fun _=>True) (f:=I) (fun _=>rfl) Try.underlying22 (by rw [cells_int];decide) (reads_int.mono fun ps ⟨s,h,_⟩=>⟨s,h,by rw [cells_int];rfl,trivial⟩)).mono fun ps ⟨S,h,_⟩=>⟨S,h⟩
theorem reads_mend:Reads enc Try.prog w base (fun _=>true) held 25 fun ps=>∃ s:Shp,s.i64∧ps=[.sl .no (s.su.map I),.sl .no (s.jo.map Job.v)] :=
  (Reads.struct (Qs:=[fun ps=>∃ S:List Int,ps=[.sl .no (S.map I)],fun ps=>∃ S:List Job,ps=[.sl .no (S.map Job.v)]∧_]) Try.underlying25 (by kernel_rfl) ⟨reads_ints,reads_jobs,trivial⟩).mono fun ps h=>by
    obtain ⟨_,_,rfl,⟨su,rfl⟩,_,_,rfl,⟨jo,rfl,hj⟩,rfl⟩:=h
    exact ⟨⟨su,jo⟩,fun i hi=>hj _ (List.getElem_mem hi),rfl⟩
theorem trod_mend {v:Value} {d:DataW H} {ps:List MemPlace} {r:Reach} {b:Nat} (hv:Value.okWide Try.prog w r b 25 v) (h:DataW.Trod enc Try.prog w base (fun _=>true) held 25 v d ps):∃ s:Shp,s.i64∧RV (St.froz w) (s.v .no .no) v:=by
  obtain ⟨l,h1,s,hi,rfl⟩:=trod_agg Try.underlying25 hv h reads_mend
  exact ⟨s,hi,h1⟩
structure Shp.hnd (s:Shp):Prop where
  i:s.i64
  su:s.su.length≤9223372036854775807
  jo:s.jo.length≤9223372036854775807
end
end Go.Pv
