/- Parts of the proof: M3, Pv64, Pv50, Pv51, Pv52, Pv53 -/
import Derived.Test.YtgpcfkpenkaipaaP13
import Derived.Test.YtgpcfkpenkaipaaP12
set_option linter.unusedVariables false
set_option linter.unusedSimpArgs false
set_option linter.unusedSectionVars false
namespace Go.Pv
open Go.Proofs Go.Am
set_option maxRecDepth 10000
theorem bd_shp (s:Shp) {t1 t2:Tail} (h1:t1.isOwn=false) (h2:t2.isOwn=false):PV.bds 0 [.sl t1 (s.su.map I),.sl t2 (s.jo.map Job.v)]=true:=by
  simp only [PV.bds,bd_sl (f:=I) h1 (fun _=>rfl),bd_sl (f:=Job.v) h2 (fun _=>rfl),Bool.and_true]
theorem bd_shpV (s:Shp) {t1 t2:Tail} (h1:t1.isOwn=false) (h2:t2.isOwn=false) {vs:List PV} (h:PV.bds 0 vs=true):PV.bds 0 (s.v t1 t2::vs)=true:=by
  have:=bd_shp s h1 h2
  have e:PV.bd 0 (s.v t1 t2)=PV.bds 0 [.sl t1 (s.su.map I),.sl t2 (s.jo.map Job.v)]:=by simp only [PV.bd]
  rw [show PV.bds 0 (s.v t1 t2::vs)=(PV.bd 0 (s.v t1 t2) && PV.bds 0 vs) by simp only [PV.bds],e,this,h];rfl
theorem rdy_bd {s:Shp} {H b:Int} (hs:s.ok H) {p:Pst} (hp:p.ok b) {q:Nat} (hq:q < s.su.length):(0≤(s.rdy p q).1∧(s.rdy p q).1≤b+30)∧(0≤(s.rdy p q).2∧(s.rdy p q).2≤b+30):=by
  have h1:=hs.set hq
  obtain ⟨h2,h3⟩:=hp
  unfold Shp.rdy
  split
  · exact ⟨⟨h2.1,by show p.f0≤_;omega⟩,⟨h3.1,by show p.f1≤_;omega⟩⟩
  · exact ⟨⟨by show 0≤p.f0+_;omega,by show p.f0+_≤_;omega⟩,⟨by show 0≤p.f1+_;omega,by show p.f1+_≤_;omega⟩⟩
theorem wrk_ok {s:Shp} {H b:Int} (hs:s.ok H) {p:Pst} (hp:p.ok b) (hb:0≤b) {i:Nat} (hi:i < s.jo.length):(s.wrk p i).ok (b+430):=by
  have hj:=hs.job hi
  have hH:=hs.hH
  obtain ⟨q,hq⟩:∃ q:Nat,(s.job i).kd=(q:Int):=⟨(s.job i).kd.toNat,by have:=hj.kd;omega⟩
  have hr:=rdy_bd hs hp (q:=q) (by have:=hj.kd;omega)
  rw [← hq] at hr
  have h1:=hj.mi
  have h2:=hj.fr
  refine ⟨?_,?_⟩
  · show 0 ≤ max _ _ + _ ∧ max _ _ + _ ≤ _
    omega
  · show 0 ≤ max _ _ + _ ∧ max _ _ + _ ≤ _
    omega
theorem aft_ok {s:Shp} {w:Wrk} {b:Int} (hw:w.ok b):(s.aft w).ok b:=⟨hw.d0,hw.d1⟩
section
variable (s:Shp) {t1 t2:Tail} (h1:t1.isOwn=false) (h2:t2.isOwn=false)
include h1 h2
theorem f95 {H b:Int} (hs:s.ok H) (p:Pst) (hp:p.ok b) (hb0:0≤b) (hb:b≤1000000) (i:Nat) (hi:i < s.jo.length):Fn P0 95 [s.v t1 t2,p.v,N i] (s.wrk p i).v:=by
  have hj:=hs.job hi
  obtain ⟨q,hq⟩:∃ q:Nat,(s.job i).kd=(q:Int):=⟨(s.job i).kd.toNat,by have:=hj.kd;omega⟩
  have hqs:q < s.su.length:=by have:=hj.kd;omega
  have hset:=f108 s t1 t2 hs p hp hb q hqs
  have hrb:=rdy_bd hs hp hqs
  have hbs:PV.bds 0 [s.v t1 t2,p.v,I q]=true:=bd_shpV s h1 h2 rfl
  have hw:(s.wrk p i).v=.agg [I p.J,I p.kd,I p.f0,I p.f1,I i,I (max (s.rdy p q).1 (s.job i).fr+(s.job i).lo),I (max (s.rdy p q).2 (s.job i).fr+(s.job i).hi)]:=by
    rw [← hq];rfl
  rw [hw]
  have hjob:=Shp.job_at hi
  have hmi:=hj.mi
  have hfr:=hj.fr
  have hH:=hs.hH
  clear hj hw
  generalize s.rdy p q=r at *
  obtain ⟨r0,r1⟩:=r
  simp only at hset hrb ⊢
  generalize s.job i=j at *
  obtain ⟨kd,lo,hi',fr,so,bt,co,af⟩:=j
  simp only at hq hmi hfr ⊢
  subst hq
  refine PFun.of (C:=c95) (cx_ok _ _ _) rfl (fn:=Try.f95) (by kernel_rfl) (c:=_) rfl rfl rfl ?_
  refine Run.seq (Run.region (cx_ok _ _ _) (Reg.op rfl (Ope.boxF rfl rfl ?_)))
  refine Reg.op rfl (Ope.boxF rfl rfl ?_)
  refine Reg.op rfl (Ope.newL rfl ?_)
  refine Reg.nil (Run.seq (Run.cut (fun e' d' h'=>∃ a b l,(0 < a∧0 < b∧a < 3∧a≠b)∧Lsub [(3,.fp (s.v t1 t2)),(4,.fp p.v),(6,.ptr 0 0),(7,.ptr a 0),(8,.ptr b 0)] e'∧d'=[]∧h'=HE 3 l∧hget l a=some (.cells [I p.J,I p.kd,I p.f0,I p.f1,I i,I 0,I 0])∧hget l b=some (.cells [I q,I lo,I hi',I fr,I so,I bt,I co,I af])∧hget l 0=some (.cells [I 0,I 0,I 0,I 0,I 0,I 0,I 0])) ?_ ?_))
  ·refine Run.drawL (cx_ok _ _ _) [[(0,false),(1,true),(2,true),(3,true),(4,true),(5,false),(6,true),(7,true),(8,false),(9,true),(10,true),(11,true),(12,true)],[(0,false),(1,true),(2,true),(3,true),(4,true),(5,false),(6,true),(7,true),(8,false),(10,true),(9,true),(11,true),(12,true)]] (by kernel_rfl) ⟨?_,?_,trivial⟩
   ·refine Dra.op' rfl rfl rfl (.load rfl) (Ope.load rfl rfl ?_)
    refine Dra.op' rfl rfl rfl .sure (Ope.mov rfl ?_)
    refine Dra.op' rfl rfl rfl .sure (Ope.bld rfl rfl ?_)
    refine Dra.op' rfl rfl rfl .sure (Ope.fld rfl rfl ?_)
    refine Dra.op' rfl rfl rfl .sure (Ope.fld rfl rfl ?_)
    refine Dra.op' rfl rfl rfl (.load rfl) (Ope.load rfl rfl ?_)
    refine Dra.op' rfl rfl rfl .sure (Ope.mov rfl ?_)
    refine Dra.op' rfl rfl rfl .sure (Ope.idxM (m:=i) (f:=Job.v) rfl rfl rfl hi (fun _=>rfl) ?_)
    refine Dra.op' rfl rfl rfl (.load rfl) (Ope.load rfl rfl ?_)
    rw [← hjob]
    refine Dra.op' rfl rfl rfl .sure (Ope.newL rfl ?_)
    refine Dra.op' rfl rfl rfl .sure (Ope.newL rfl ?_)
    refine Dra.op' rfl rfl rfl .sure (Ope.store rfl rfl rfl rfl rfl rfl ?_)
    refine Dra.op' rfl rfl rfl .sure (Ope.store rfl rfl rfl rfl rfl rfl ?_)
    refine Dra.nil ?_
    first
    | exact Run.lend ⟨1,2,_,⟨by decide,by decide,by decide,by decide⟩,⟨rfl,rfl,rfl,rfl,rfl,trivial⟩,rfl,rfl,rfl,rfl,rfl⟩
    | exact Run.lend ⟨2,1,_,⟨by decide,by decide,by decide,by decide⟩,⟨rfl,rfl,rfl,rfl,rfl,trivial⟩,rfl,rfl,rfl,rfl,rfl⟩
   ·refine Dra.op' rfl rfl rfl (.load rfl) (Ope.load rfl rfl ?_)
    refine Dra.op' rfl rfl rfl .sure (Ope.mov rfl ?_)
    refine Dra.op' rfl rfl rfl .sure (Ope.bld rfl rfl ?_)
    refine Dra.op' rfl rfl rfl .sure (Ope.fld rfl rfl ?_)
    refine Dra.op' rfl rfl rfl .sure (Ope.fld rfl rfl ?_)
    refine Dra.op' rfl rfl rfl (.load rfl) (Ope.load rfl rfl ?_)
    refine Dra.op' rfl rfl rfl .sure (Ope.mov rfl ?_)
    refine Dra.op' rfl rfl rfl .sure (Ope.idxM (m:=i) (f:=Job.v) rfl rfl rfl hi (fun _=>rfl) ?_)
    refine Dra.op' rfl rfl rfl (.load rfl) (Ope.load rfl rfl ?_)
    rw [← hjob]
    refine Dra.op' rfl rfl rfl .sure (Ope.newL rfl ?_)
    refine Dra.op' rfl rfl rfl .sure (Ope.newL rfl ?_)
    refine Dra.op' rfl rfl rfl .sure (Ope.store rfl rfl rfl rfl rfl rfl ?_)
    refine Dra.op' rfl rfl rfl .sure (Ope.store rfl rfl rfl rfl rfl rfl ?_)
    refine Dra.nil ?_
    first
    | exact Run.lend ⟨1,2,_,⟨by decide,by decide,by decide,by decide⟩,⟨rfl,rfl,rfl,rfl,rfl,trivial⟩,rfl,rfl,rfl,rfl,rfl⟩
    | exact Run.lend ⟨2,1,_,⟨by decide,by decide,by decide,by decide⟩,⟨rfl,rfl,rfl,rfl,rfl,trivial⟩,rfl,rfl,rfl,rfl,rfl⟩
  ·rintro e' d' h' ⟨a,b,l,⟨ha0,hb0',ha3,hab⟩,hs',rfl,rfl,hla,hlb,hl0⟩;refine Run.less hs' ?_
   refine Run.seq (Run.frz (d:=8) true rfl hlb rfl ?_)
   refine Run.wide (m:=3) (l':=[(a,some (.cells [I p.J,I p.kd,I p.f0,I p.f1,I i,I 0,I 0])),(0,some (.cells [I 0,I 0,I 0,I 0,I 0,I 0,I 0]))]) (Nat.le_refl _) ⟨(hget_tl hab).trans hla,(hget_tl (by omega)).trans hl0,trivial⟩ ?_
   refine Run.region (cx_ok _ _ _) (Reg.op rfl (Ope.load rfl rfl ?_))
   refine Reg.op rfl (Ope.load rfl rfl ?_)
   refine Reg.op rfl (Ope.fld rfl rfl ?_)
   refine Reg.op rfl (Ope.load rfl rfl ?_)
   refine Reg.op rfl (Ope.cf rfl rfl hset hbs ?_)
   refine Reg.op rfl (Ope.newL rfl ?_)
   refine Reg.op0 (Ope.store rfl rfl hget_hd rfl rfl rfl ?_)
   refine Reg.nil (Run.seq (Run.seq (Run.frz (d:=9) true rfl hget_hd rfl ?_)))
   refine Run.wide (m:=4) (l':=[(a,some (.cells [I p.J,I p.kd,I p.f0,I p.f1,I i,I 0,I 0])),(0,some (.cells [I 0,I 0,I 0,I 0,I 0,I 0,I 0]))]) (Nat.le_refl _) ⟨(hget_tl (by omega)).trans ((hget_tl (by omega)).trans ((hget_tl (by omega)).trans hget_hd)),(hget_tl (by omega)).trans ((hget_tl (by omega)).trans ((hget_tl (by omega)).trans ((hget_tl (by omega)).trans hget_hd))),trivial⟩ ?_
   refine Run.region (cx_ok _ _ _) (Reg.op rfl (Ope.fld rfl rfl ?_))
   refine Reg.op rfl (Ope.load rfl rfl ?_)
   refine Reg.op rfl (Ope.cf rfl rfl (f109 lo hi') rfl ?_)
   refine Reg.op rfl (Ope.mov rfl ?_)
   refine Reg.nil (Run.block (Run.wide (m:=4) (l':=[(a,some (.cells [I p.J,I p.kd,I p.f0,I p.f1,I i,I (st2 0 (max r0 fr+lo) (max r0 fr+lo) 0),I (st2 0 0 (max r1 fr+hi') 0)])),(0,some (.cells [I 0,I 0,I 0,I 0,I 0,I 0,I 0]))]) (Nat.le_refl _) ⟨hget_hd,(hget_tl (by omega)).trans hget_hd,trivial⟩ ?_))
   refine Run.loop (α:=Nat) (fun k=>[(6,.ptr 0 0),(7,.ptr a 0),(8,.fp (.agg [I q,I lo,I hi',I fr,I so,I bt,I co,I af])),(9,.fp (.agg [I r0,I r1])),(28,.agg [I lo,I hi']),(29,I k)]) (fun k=>HE 4 [(a,some (.cells [I p.J,I p.kd,I p.f0,I p.f1,I i,I (st2 0 (max r0 fr+lo) (max r0 fr+lo) k),I (st2 0 0 (max r1 fr+hi') k)])),(0,some (.cells [I 0,I 0,I 0,I 0,I 0,I 0,I 0]))]) (fun k=>k≤2) (fun k=>2 - k) 0 ⟨rfl,rfl,rfl,rfl,rfl,rfl,trivial⟩ rfl (Nat.zero_le _) (fun k hk=>?_)
   rcases (by omega:k=0∨k=1∨k=2) with rfl | rfl | rfl
   ·refine Run.seq (Run.region (cx_ok _ _ _) (Reg.op rfl (Ope.lt rfl rfl ?_)))
    refine Reg.nil (Run.seq (Run.condX rfl (fun hc=>?_) fun hc=>?_))
    ·first
     |(exfalso;omega)
     |refine Run.skip (Run.seq (Run.block (Run.seq (Run.region (cx_ok _ _ _) (Reg.op rfl (Ope.mov rfl ?_))))))
      refine Reg.op rfl (Ope.idx rfl rfl rfl rfl rfl ?_)
      refine Reg.op rfl (Ope.asg rfl ?_)
      refine Reg.op rfl (Ope.asg rfl ?_)
      refine Reg.nil (Run.draw (cx_ok _ _ _) [(0,true),(1,true),(2,true),(3,true),(4,true),(5,true),(6,true),(7,true),(8,true),(9,true),(10,true),(11,true)] (by kernel_rfl) (Dra.op' rfl rfl rfl .sure (Ope.mov rfl ?_)))
      refine Dra.op' rfl rfl rfl .sure (Ope.mov rfl ?_)
      refine Dra.op' rfl rfl rfl .sure (Ope.idxA rfl rfl rfl rfl ?_)
      refine Dra.op' rfl rfl rfl .sure (Ope.load rfl rfl ?_)
      refine Dra.op' rfl rfl rfl .sure (Ope.fld rfl rfl ?_)
      refine Dra.op' rfl rfl rfl .sure (Ope.load rfl rfl ?_)
      refine Dra.op' rfl rfl rfl .sure (Ope.maxI rfl rfl ?_)
      refine Dra.op' rfl rfl rfl .sure (Ope.mov rfl ?_)
      refine Dra.op' rfl rfl rfl .sure (Ope.add rfl rfl (by omega) ?_)
      refine Dra.op' rfl rfl rfl .sure (Ope.fld rfl rfl ?_)
      refine Dra.op' rfl rfl rfl .sure (Ope.idxA rfl rfl rfl rfl ?_)
      refine Dra.op' rfl rfl rfl .sure (Ope.store rfl rfl hget_hd rfl rfl rfl ?_)
      refine Dra.nil (Run.bend ?_)
      first
      | refine Run.wide (m:=4) (l':=[(a,some (.cells [I p.J,I p.kd,I p.f0,I p.f1,I i,I (st2 0 (max r0 fr+lo) (max r0 fr+lo) 1),I (st2 0 0 (max r1 fr+hi') 1)])),(0,some (.cells [I 0,I 0,I 0,I 0,I 0,I 0,I 0]))]) (Nat.le_refl _) ⟨hget_hd,(hget_tl (by omega)).trans ((hget_tl (by omega)).trans hget_hd),trivial⟩ ?_
      | refine Run.wide (m:=4) (l':=[(a,some (.cells [I p.J,I p.kd,I p.f0,I p.f1,I i,I (st2 0 (max r0 fr+lo) (max r0 fr+lo) 2),I (st2 0 0 (max r1 fr+hi') 2)])),(0,some (.cells [I 0,I 0,I 0,I 0,I 0,I 0,I 0]))]) (Nat.le_refl _) ⟨hget_hd,(hget_tl (by omega)).trans ((hget_tl (by omega)).trans hget_hd),trivial⟩ ?_
      refine Run.region (cx_ok _ _ _) (Reg.op rfl (Ope.add rfl rfl (by omega) ?_))
      refine Reg.op rfl (Ope.mov rfl ?_)
      refine Reg.nil ?_
      first
      | exact Run.lend ⟨1,by decide,by decide,⟨rfl,rfl,rfl,rfl,rfl,rfl,trivial⟩,rfl,rfl⟩
      | exact Run.lend ⟨2,by decide,by decide,⟨rfl,rfl,rfl,rfl,rfl,rfl,trivial⟩,rfl,rfl⟩
    ·first
     |(exfalso;omega)
     |refine Run.exit (Jmp.code (Jmp.round (Jmp.here (Run.seq (Run.region (cx_ok _ _ _) (Reg.op rfl (Ope.loadH rfl hget_hd rfl ?_)))))))
      refine Reg.op0 (Ope.store rfl rfl ((hget_tl (by omega)).trans hget_hd) rfl rfl rfl ?_)
      exact Reg.nil (Run.ret (fin_ret (.cell rfl rfl .nil) rfl rfl))
   ·refine Run.seq (Run.region (cx_ok _ _ _) (Reg.op rfl (Ope.lt rfl rfl ?_)))
    refine Reg.nil (Run.seq (Run.condX rfl (fun hc=>?_) fun hc=>?_))
    ·first
     |(exfalso;omega)
     |refine Run.skip (Run.seq (Run.block (Run.seq (Run.region (cx_ok _ _ _) (Reg.op rfl (Ope.mov rfl ?_))))))
      refine Reg.op rfl (Ope.idx rfl rfl rfl rfl rfl ?_)
      refine Reg.op rfl (Ope.asg rfl ?_)
      refine Reg.op rfl (Ope.asg rfl ?_)
      refine Reg.nil (Run.draw (cx_ok _ _ _) [(0,true),(1,true),(2,true),(3,true),(4,true),(5,true),(6,true),(7,true),(8,true),(9,true),(10,true),(11,true)] (by kernel_rfl) (Dra.op' rfl rfl rfl .sure (Ope.mov rfl ?_)))
      refine Dra.op' rfl rfl rfl .sure (Ope.mov rfl ?_)
      refine Dra.op' rfl rfl rfl .sure (Ope.idxA rfl rfl rfl rfl ?_)
      refine Dra.op' rfl rfl rfl .sure (Ope.load rfl rfl ?_)
      refine Dra.op' rfl rfl rfl .sure (Ope.fld rfl rfl ?_)
      refine Dra.op' rfl rfl rfl .sure (Ope.load rfl rfl ?_)
      refine Dra.op' rfl rfl rfl .sure (Ope.maxI rfl rfl ?_)
      refine Dra.op' rfl rfl rfl .sure (Ope.mov rfl ?_)
      refine Dra.op' rfl rfl rfl .sure (Ope.add rfl rfl (by omega) ?_)
      refine Dra.op' rfl rfl rfl .sure (Ope.fld rfl rfl ?_)
      refine Dra.op' rfl rfl rfl .sure (Ope.idxA rfl rfl rfl rfl ?_)
      refine Dra.op' rfl rfl rfl .sure (Ope.store rfl rfl hget_hd rfl rfl rfl ?_)
      refine Dra.nil (Run.bend ?_)
      first
      | refine Run.wide (m:=4) (l':=[(a,some (.cells [I p.J,I p.kd,I p.f0,I p.f1,I i,I (st2 0 (max r0 fr+lo) (max r0 fr+lo) 1),I (st2 0 0 (max r1 fr+hi') 1)])),(0,some (.cells [I 0,I 0,I 0,I 0,I 0,I 0,I 0]))]) (Nat.le_refl _) ⟨hget_hd,(hget_tl (by omega)).trans ((hget_tl (by omega)).trans hget_hd),trivial⟩ ?_
      | refine Run.wide (m:=4) (l':=[(a,some (.cells [I p.J,I p.kd,I p.f0,I p.f1,I i,I (st2 0 (max r0 fr+lo) (max r0 fr+lo) 2),I (st2 0 0 (max r1 fr+hi') 2)])),(0,some (.cells [I 0,I 0,I 0,I 0,I 0,I 0,I 0]))]) (Nat.le_refl _) ⟨hget_hd,(hget_tl (by omega)).trans ((hget_tl (by omega)).trans hget_hd),trivial⟩ ?_
      refine Run.region (cx_ok _ _ _) (Reg.op rfl (Ope.add rfl rfl (by omega) ?_))
      refine Reg.op rfl (Ope.mov rfl ?_)
      refine Reg.nil ?_
      first
      | exact Run.lend ⟨1,by decide,by decide,⟨rfl,rfl,rfl,rfl,rfl,rfl,trivial⟩,rfl,rfl⟩
      | exact Run.lend ⟨2,by decide,by decide,⟨rfl,rfl,rfl,rfl,rfl,rfl,trivial⟩,rfl,rfl⟩
    ·first
     |(exfalso;omega)
     |refine Run.exit (Jmp.code (Jmp.round (Jmp.here (Run.seq (Run.region (cx_ok _ _ _) (Reg.op rfl (Ope.loadH rfl hget_hd rfl ?_)))))))
      refine Reg.op0 (Ope.store rfl rfl ((hget_tl (by omega)).trans hget_hd) rfl rfl rfl ?_)
      exact Reg.nil (Run.ret (fin_ret (.cell rfl rfl .nil) rfl rfl))
   ·refine Run.seq (Run.region (cx_ok _ _ _) (Reg.op rfl (Ope.lt rfl rfl ?_)))
    refine Reg.nil (Run.seq (Run.condX rfl (fun hc=>?_) fun hc=>?_))
    ·first
     |(exfalso;omega)
     |refine Run.skip (Run.seq (Run.block (Run.seq (Run.region (cx_ok _ _ _) (Reg.op rfl (Ope.mov rfl ?_))))))
      refine Reg.op rfl (Ope.idx rfl rfl rfl rfl rfl ?_)
      refine Reg.op rfl (Ope.asg rfl ?_)
      refine Reg.op rfl (Ope.asg rfl ?_)
      refine Reg.nil (Run.draw (cx_ok _ _ _) [(0,true),(1,true),(2,true),(3,true),(4,true),(5,true),(6,true),(7,true),(8,true),(9,true),(10,true),(11,true)] (by kernel_rfl) (Dra.op' rfl rfl rfl .sure (Ope.mov rfl ?_)))
      refine Dra.op' rfl rfl rfl .sure (Ope.mov rfl ?_)
      refine Dra.op' rfl rfl rfl .sure (Ope.idxA rfl rfl rfl rfl ?_)
      refine Dra.op' rfl rfl rfl .sure (Ope.load rfl rfl ?_)
      refine Dra.op' rfl rfl rfl .sure (Ope.fld rfl rfl ?_)
      refine Dra.op' rfl rfl rfl .sure (Ope.load rfl rfl ?_)
      refine Dra.op' rfl rfl rfl .sure (Ope.maxI rfl rfl ?_)
      refine Dra.op' rfl rfl rfl .sure (Ope.mov rfl ?_)
      refine Dra.op' rfl rfl rfl .sure (Ope.add rfl rfl (by omega) ?_)
      refine Dra.op' rfl rfl rfl .sure (Ope.fld rfl rfl ?_)
      refine Dra.op' rfl rfl rfl .sure (Ope.idxA rfl rfl rfl rfl ?_)
      refine Dra.op' rfl rfl rfl .sure (Ope.store rfl rfl hget_hd rfl rfl rfl ?_)
      refine Dra.nil (Run.bend ?_)
      first
      | refine Run.wide (m:=4) (l':=[(a,some (.cells [I p.J,I p.kd,I p.f0,I p.f1,I i,I (st2 0 (max r0 fr+lo) (max r0 fr+lo) 1),I (st2 0 0 (max r1 fr+hi') 1)])),(0,some (.cells [I 0,I 0,I 0,I 0,I 0,I 0,I 0]))]) (Nat.le_refl _) ⟨hget_hd,(hget_tl (by omega)).trans ((hget_tl (by omega)).trans hget_hd),trivial⟩ ?_
      | refine Run.wide (m:=4) (l':=[(a,some (.cells [I p.J,I p.kd,I p.f0,I p.f1,I i,I (st2 0 (max r0 fr+lo) (max r0 fr+lo) 2),I (st2 0 0 (max r1 fr+hi') 2)])),(0,some (.cells [I 0,I 0,I 0,I 0,I 0,I 0,I 0]))]) (Nat.le_refl _) ⟨hget_hd,(hget_tl (by omega)).trans ((hget_tl (by omega)).trans hget_hd),trivial⟩ ?_
      refine Run.region (cx_ok _ _ _) (Reg.op rfl (Ope.add rfl rfl (by omega) ?_))
      refine Reg.op rfl (Ope.mov rfl ?_)
      refine Reg.nil ?_
      first
      | exact Run.lend ⟨1,by decide,by decide,⟨rfl,rfl,rfl,rfl,rfl,rfl,trivial⟩,rfl,rfl⟩
      | exact Run.lend ⟨2,by decide,by decide,⟨rfl,rfl,rfl,rfl,rfl,rfl,trivial⟩,rfl,rfl⟩
    ·first
     |(exfalso;omega)
     |refine Run.exit (Jmp.code (Jmp.round (Jmp.here (Run.seq (Run.region (cx_ok _ _ _) (Reg.op rfl (Ope.loadH rfl hget_hd rfl ?_)))))))
      refine Reg.op0 (Ope.store rfl rfl ((hget_tl (by omega)).trans hget_hd) rfl rfl rfl ?_)
      exact Reg.nil (Run.ret (fin_ret (.cell rfl rfl .nil) rfl rfl))
theorem f87 (w:Wrk) (hJ:w.p.J < 64) (hw:w.j < s.jo.length) (hn:s.jo.length≤6):Fn P0 87 [s.v t1 t2,w.v] (s.aft w).v:=by
  have hp:=pow6 (show w.j≤6 by omega)
  have hjob:=Shp.job_at hw
  have e:(s.aft w).v=.agg [N (w.p.J ||| 1 * 2 ^ w.j),I s.jo[w.j].kd,I w.d0,I w.d1]:=by unfold Shp.aft Pst.v Pst.c;rw [hjob]
  rw [e]
  refine PFun.of (C:=c87) (cx_ok _ _ _) rfl (fn:=Try.f87) (by kernel_rfl) (c:=_) rfl rfl rfl ?_
  refine Run.seq (Run.region (cx_ok _ _ _) (Reg.op rfl (Ope.boxF rfl rfl ?_)))
  refine Reg.op rfl (Ope.boxF rfl rfl ?_)
  refine Reg.op rfl (Ope.newL rfl ?_)
  refine Reg.nil (Run.seq (Run.draw (cx_ok _ _ _) [(0,true),(1,true),(2,true),(3,true),(4,true),(5,true),(6,true),(7,true),(8,true),(9,true),(10,true),(11,true),(12,true),(13,true),(14,true),(15,true),(16,true),(17,true),(18,true)] (by kernel_rfl) (Dra.op' rfl rfl rfl .sure (Ope.fld rfl rfl ?_))))
  refine Dra.op' rfl rfl rfl .sure (Ope.fld rfl rfl ?_)
  refine Dra.op' rfl rfl rfl .sure (Ope.load rfl rfl ?_)
  refine Dra.op' rfl rfl rfl .sure (Ope.fld rfl rfl ?_)
  refine Dra.op' rfl rfl rfl .sure (Ope.load rfl rfl ?_)
  refine Dra.op' rfl rfl rfl .sure (Ope.shlN (p:=1) (m:=w.j) rfl rfl rfl rfl (by omega) (by omega) ?_)
  refine Dra.op' rfl rfl rfl .sure (Ope.orN (p:=w.p.J) (q:=1 * 2 ^ w.j) rfl rfl rfl rfl (by show _ < 2 ^ 63;omega) (by show _ < 2 ^ 63;omega) ?_)
  refine Dra.op' rfl rfl rfl .sure (Ope.fld rfl rfl ?_)
  refine Dra.op' rfl rfl rfl .sure (Ope.fld rfl rfl ?_)
  refine Dra.op' rfl rfl rfl .sure (Ope.load rfl rfl ?_)
  refine Dra.op' rfl rfl rfl .sure (Ope.fld rfl rfl ?_)
  refine Dra.op' rfl rfl rfl .sure (Ope.load rfl rfl ?_)
  refine Dra.op' rfl rfl rfl .sure (Ope.idxM (m:=w.j) (f:=Job.v) rfl rfl rfl hw (fun _=>rfl) ?_)
  refine Dra.op' rfl rfl rfl .sure (Ope.fld rfl rfl ?_)
  refine Dra.op' rfl rfl rfl .sure (Ope.load rfl rfl ?_)
  refine Dra.op' rfl rfl rfl .sure (Ope.fld rfl rfl ?_)
  refine Dra.op' rfl rfl rfl .sure (Ope.load rfl rfl ?_)
  refine Dra.op' rfl rfl rfl .sure (Ope.bld rfl rfl ?_)
  refine Dra.op' rfl rfl rfl .sure (Ope.store rfl rfl rfl rfl rfl rfl ?_)
  exact Dra.nil (Run.ret (fin_ret (.cell rfl rfl .nil) rfl rfl))
theorem f104 {H b:Int} (hs:s.ok H) (w:Wrk) (hw:w.ok b) (hb:b≤1000000) (hj:w.j < s.jo.length):Fn P0 104 [s.v t1 t2,w.v] (I (s.fin w)):=by
  have hjo:=hs.job hj
  have hjob:=Shp.job_at hj
  unfold Shp.fin
  rw [hjob] at hjo ⊢
  have hco:=hjo.co
  have hso:=hjo.so
  have hd:=hw.d1
  have hm:0≤s.jo[w.j].co * max 0 (w.d1 - s.jo[w.j].so)∧s.jo[w.j].co * max 0 (w.d1 - s.jo[w.j].so)≤50 * 1000000:=⟨Int.mul_nonneg hco.1 (by omega),Int.mul_le_mul hco.2 (by omega) (by omega) (by decide)⟩
  refine PFun.of (C:=c104) (cx_ok _ _ _) rfl (fn:=Try.f104) (by kernel_rfl) (c:=_) rfl rfl rfl ?_
  refine Run.seq (Run.region (cx_ok _ _ _) (Reg.op rfl (Ope.boxF rfl rfl ?_)))
  refine Reg.op rfl (Ope.boxF rfl rfl ?_)
  refine Reg.op rfl (Ope.asg rfl ?_)
  refine Reg.nil (Run.seq (Run.region (cx_ok _ _ _) (Reg.op rfl (Ope.fld rfl rfl ?_))))
  refine Reg.op rfl (Ope.fld rfl rfl ?_)
  refine Reg.op rfl (Ope.load rfl rfl ?_)
  refine Reg.op rfl (Ope.fld rfl rfl ?_)
  refine Reg.op rfl (Ope.load rfl rfl ?_)
  refine Reg.op rfl (Ope.idxM (m:=w.j) (f:=Job.v) rfl rfl rfl hj (fun _=>rfl) ?_)
  refine Reg.op rfl (Ope.load rfl rfl ?_)
  refine Reg.op rfl (Ope.newL rfl ?_)
  refine Reg.op0 (Ope.store rfl rfl hget_hd rfl rfl rfl ?_)
  refine Reg.nil (Run.seq (Run.frz (d:=5) true rfl hget_hd rfl ?_))
  refine Run.draw (cx_ok _ _ _) [(0,true),(1,false),(2,true),(3,true),(5,true),(6,false),(4,true),(7,true),(8,true),(9,true),(10,true)] (by kernel_rfl) (Dra.op' rfl rfl rfl .sure (Ope.fld rfl rfl ?_))
  refine Dra.op' rfl rfl rfl (.load rfl) (Ope.load rfl rfl ?_)
  refine Dra.op' rfl rfl rfl .sure (Ope.fld rfl rfl ?_)
  refine Dra.op' rfl rfl rfl .sure (Ope.load rfl rfl ?_)
  refine Dra.op' rfl rfl rfl .sure (Ope.fld rfl rfl ?_)
  refine Dra.op' rfl rfl rfl (.load rfl) (Ope.load rfl rfl ?_)
  refine Dra.op' rfl rfl rfl .sure (Ope.cf rfl rfl (f111 w.d0 w.d1) rfl ?_)
  refine Dra.op' rfl rfl rfl .sure (Ope.sub rfl rfl (by omega) ?_)
  refine Dra.op' rfl rfl rfl .sure (Ope.maxI rfl rfl ?_)
  refine Dra.op' rfl rfl rfl .sure (Ope.mul rfl rfl (by omega) ?_)
  refine Dra.op' rfl rfl rfl .sure (Ope.asg rfl ?_)
  exact Dra.nil (Run.ret (fin_ret (.tmp rfl .nil) rfl rfl))
theorem f110 (w:Wrk) (hj:w.j < s.jo.length):Fn P0 110 [s.v t1 t2,w.v] (B (s.late w)):=by
  have hjob:=Shp.job_at hj
  unfold Shp.late
  rw [hjob]
  refine PFun.of (C:=c110) (cx_ok _ _ _) rfl (fn:=Try.f110) (by kernel_rfl) (c:=_) rfl rfl rfl ?_
  refine Run.seq (Run.region (cx_ok _ _ _) (Reg.op rfl (Ope.boxF rfl rfl ?_)))
  refine Reg.op rfl (Ope.boxF rfl rfl ?_)
  refine Reg.op rfl (Ope.asg rfl ?_)
  refine Reg.nil (Run.seq (Run.draw (cx_ok _ _ _) [(0,true),(1,true),(3,true),(4,true),(5,false),(6,true),(7,false),(8,true),(9,true),(10,false),(2,true),(11,true),(12,true)] (by kernel_rfl) (Dra.op' rfl rfl rfl .sure (Ope.fld rfl rfl ?_))))
  refine Dra.op' rfl rfl rfl .sure (Ope.load rfl rfl ?_)
  refine Dra.op' rfl rfl rfl .sure (Ope.fld rfl rfl ?_)
  refine Dra.op' rfl rfl rfl .sure (Ope.fld rfl rfl ?_)
  refine Dra.op' rfl rfl rfl (.load rfl) (Ope.load rfl rfl ?_)
  refine Dra.op' rfl rfl rfl .sure (Ope.fld rfl rfl ?_)
  refine Dra.op' rfl rfl rfl (.load rfl) (Ope.load rfl rfl ?_)
  refine Dra.op' rfl rfl rfl .sure (Ope.idxM (m:=w.j) (f:=Job.v) rfl rfl rfl hj (fun _=>rfl) ?_)
  refine Dra.op' rfl rfl rfl .sure (Ope.fld rfl rfl ?_)
  refine Dra.op' rfl rfl rfl (.load rfl) (Ope.load rfl rfl ?_)
  refine Dra.op' rfl rfl rfl .sure (Ope.cf rfl rfl (f111 w.d0 w.d1) rfl ?_)
  refine Dra.op' rfl rfl rfl .sure (Ope.gt rfl rfl ?_)
  refine Dra.op' rfl rfl rfl .sure (Ope.asg rfl ?_)
  exact Dra.nil (Run.ret (fin_ret (.tmp rfl .nil) rfl rfl))
end
theorem f1132 (tl:Tail) (a b:Int) (ha:-1000000000≤a∧a≤1000000000) (hb:-1000000000≤b∧b≤1000000000):Fn P0 113 [.sl tl [I a,I b]] (I (a+b)):=by
  refine PFun.of (C:=c113) (cx_ok _ _ _) rfl (fn:=Try.f113) (by kernel_rfl) (c:=_) rfl rfl rfl ?_
  refine Run.seq (Run.region (cx_ok _ _ _) (Reg.op rfl (Ope.asg rfl ?_)))
  refine Reg.nil (Run.seq (Run.region (cx_ok _ _ _) (Reg.op rfl (Ope.asg rfl ?_))))
  refine Reg.nil (Run.seq (Run.seq (Run.region (cx_ok _ _ _) (Reg.op rfl (Ope.mov rfl ?_)))))
  refine Reg.op rfl (Ope.len (m:=2) rfl rfl ?_)
  refine Reg.op rfl (Ope.mov rfl ?_)
  refine Reg.nil (Run.block (Run.loop (α:=Nat) (fun i=>[(3,I (st2 0 a (a+b) i)),(6,.sl tl [I a,I b]),(7,I 2),(8,I i)]) (fun _=>HE 0 []) (fun i=>i≤2) (fun i=>2 - i) 0 ⟨rfl,rfl,rfl,rfl,trivial⟩ rfl (Nat.zero_le _) (fun i hi=>?_)))
  rcases (by omega:i=0∨i=1∨i=2) with rfl | rfl | rfl
  ·refine Run.seq (Run.region (cx_ok _ _ _) (Reg.op rfl (Ope.lt rfl rfl ?_)))
   refine Reg.nil (Run.seq (Run.condX rfl (fun hc=>?_) fun hc=>?_))
   ·first
    |(exfalso;omega)
    |refine Run.skip (Run.seq (Run.block (Run.seq (Run.region (cx_ok _ _ _) ?_))))
     first
     | refine Reg.op rfl (Ope.idxS (m:=0) rfl rfl rfl rfl rfl ?_)
     | refine Reg.op rfl (Ope.idxS (m:=1) rfl rfl rfl rfl rfl ?_)
     refine Reg.op rfl (Ope.load rfl rfl ?_)
     refine Reg.op rfl (Ope.asg rfl ?_)
     refine Reg.nil ?_
     have e0:st2 0 a (a+b) 0=0:=rfl
     have e1:st2 0 a (a+b) 1=a:=rfl
     refine Run.region (cx_ok _ _ _) (Reg.op rfl (Ope.mov rfl ?_))
     refine Reg.op rfl (Ope.mov rfl ?_)
     refine Reg.op rfl (Ope.add rfl rfl (by omega) ?_)
     refine Reg.op rfl (Ope.asg rfl ?_)
     refine Reg.nil (Run.bend (Run.region (cx_ok _ _ _) (Reg.op rfl (Ope.add rfl rfl (by omega) ?_))))
     refine Reg.op rfl (Ope.mov rfl ?_)
     refine Reg.nil ?_
     first
     | exact Run.lend ⟨1,by decide,by decide,⟨congrArg (fun n=>some (I n)) (by rw [e0];show 0+a=a;omega),rfl,rfl,rfl,trivial⟩,rfl,rfl⟩
     | exact Run.lend ⟨2,by decide,by decide,⟨rfl,rfl,rfl,rfl,trivial⟩,rfl,rfl⟩
   ·first
    |(exfalso;omega)
    |refine Run.exit (Jmp.code (Jmp.round (Jmp.here (Run.seq (Run.region (cx_ok _ _ _) (Reg.op rfl (Ope.mov rfl ?_)))))))
     refine Reg.op rfl (Ope.asg rfl ?_)
     exact Reg.nil (Run.ret (fin_ret (.tmp rfl .nil) rfl rfl))
  ·refine Run.seq (Run.region (cx_ok _ _ _) (Reg.op rfl (Ope.lt rfl rfl ?_)))
   refine Reg.nil (Run.seq (Run.condX rfl (fun hc=>?_) fun hc=>?_))
   ·first
    |(exfalso;omega)
    |refine Run.skip (Run.seq (Run.block (Run.seq (Run.region (cx_ok _ _ _) ?_))))
     first
     | refine Reg.op rfl (Ope.idxS (m:=0) rfl rfl rfl rfl rfl ?_)
     | refine Reg.op rfl (Ope.idxS (m:=1) rfl rfl rfl rfl rfl ?_)
     refine Reg.op rfl (Ope.load rfl rfl ?_)
     refine Reg.op rfl (Ope.asg rfl ?_)
     refine Reg.nil ?_
     have e0:st2 0 a (a+b) 0=0:=rfl
     have e1:st2 0 a (a+b) 1=a:=rfl
     refine Run.region (cx_ok _ _ _) (Reg.op rfl (Ope.mov rfl ?_))
     refine Reg.op rfl (Ope.mov rfl ?_)
     refine Reg.op rfl (Ope.add rfl rfl (by omega) ?_)
     refine Reg.op rfl (Ope.asg rfl ?_)
     refine Reg.nil (Run.bend (Run.region (cx_ok _ _ _) (Reg.op rfl (Ope.add rfl rfl (by omega) ?_))))
     refine Reg.op rfl (Ope.mov rfl ?_)
     refine Reg.nil ?_
     first
     | exact Run.lend ⟨1,by decide,by decide,⟨congrArg (fun n=>some (I n)) (by rw [e0];show 0+a=a;omega),rfl,rfl,rfl,trivial⟩,rfl,rfl⟩
     | exact Run.lend ⟨2,by decide,by decide,⟨rfl,rfl,rfl,rfl,trivial⟩,rfl,rfl⟩
   ·first
    |(exfalso;omega)
    |refine Run.exit (Jmp.code (Jmp.round (Jmp.here (Run.seq (Run.region (cx_ok _ _ _) (Reg.op rfl (Ope.mov rfl ?_)))))))
     refine Reg.op rfl (Ope.asg rfl ?_)
     exact Reg.nil (Run.ret (fin_ret (.tmp rfl .nil) rfl rfl))
  ·refine Run.seq (Run.region (cx_ok _ _ _) (Reg.op rfl (Ope.lt rfl rfl ?_)))
   refine Reg.nil (Run.seq (Run.condX rfl (fun hc=>?_) fun hc=>?_))
   ·first
    |(exfalso;omega)
    |refine Run.skip (Run.seq (Run.block (Run.seq (Run.region (cx_ok _ _ _) ?_))))
     first
     | refine Reg.op rfl (Ope.idxS (m:=0) rfl rfl rfl rfl rfl ?_)
     | refine Reg.op rfl (Ope.idxS (m:=1) rfl rfl rfl rfl rfl ?_)
     refine Reg.op rfl (Ope.load rfl rfl ?_)
     refine Reg.op rfl (Ope.asg rfl ?_)
     refine Reg.nil ?_
     have e0:st2 0 a (a+b) 0=0:=rfl
     have e1:st2 0 a (a+b) 1=a:=rfl
     refine Run.region (cx_ok _ _ _) (Reg.op rfl (Ope.mov rfl ?_))
     refine Reg.op rfl (Ope.mov rfl ?_)
     refine Reg.op rfl (Ope.add rfl rfl (by omega) ?_)
     refine Reg.op rfl (Ope.asg rfl ?_)
     refine Reg.nil (Run.bend (Run.region (cx_ok _ _ _) (Reg.op rfl (Ope.add rfl rfl (by omega) ?_))))
     refine Reg.op rfl (Ope.mov rfl ?_)
     refine Reg.nil ?_
     first
     | exact Run.lend ⟨1,by decide,by decide,⟨congrArg (fun n=>some (I n)) (by rw [e0];show 0+a=a;omega),rfl,rfl,rfl,trivial⟩,rfl,rfl⟩
     | exact Run.lend ⟨2,by decide,by decide,⟨rfl,rfl,rfl,rfl,trivial⟩,rfl,rfl⟩
   ·first
    |(exfalso;omega)
    |refine Run.exit (Jmp.code (Jmp.round (Jmp.here (Run.seq (Run.region (cx_ok _ _ _) (Reg.op rfl (Ope.mov rfl ?_)))))))
     refine Reg.op rfl (Ope.asg rfl ?_)
     exact Reg.nil (Run.ret (fin_ret (.tmp rfl .nil) rfl rfl))
end Go.Pv
namespace Go.Pv
open Go.Am Go.RowKit
def isNilSl (x:Operand):Bool :=
 match x with
 |.const (.slice none _ _)=>true
 |_=>false
def nilc (A:AP) (t:Nat→Option PV) (h:PH) (o:Oper) (K:PV→PH→Prop):Prop :=
 match o.op with
 |.binOp .eql ty x y _=>isNilSl y=true∧(∃ e,A.under ty=some (.slice e))∧∃ tl vs,pev t x=some (.sl tl vs)∧∀ b:Bool,(vs≠[]→b=false)→K (.lit (.bool b)) h
 |_=>False
def popN (A:AP) (E:Eqs) (P:Program) (M:Nat→Bool) (t:Nat→Option PV) (h:PH) (o:Oper) (K X:PV→PH→Prop):Prop :=
 pop A E P M t h o K X∨nilc A t h o K
section
variable {s:St} {A:AP} {P:Program} {E:Eqs} {w0:Base} {M:Nat→Bool} {sz:Nat} {b:Frame} {k:List Item} {cs:List Frame}
theorem equal_nilsl {t e:TypeId} {w:World} (hu:P.underlying t=some (.slice e)) (a:Option Addr) (n c n' c':Nat):(Op.equal t (.slice a n c) (.slice none n' c')).run P w=.ok a.isNone w:=by
 have gen:∀ d,(Op.equalIn (d+1) t (.slice a n c) (.slice none n' c')).run P w=.ok a.isNone w:=fun d=>by
  cases a<;>simp only [Op.equalIn,Sem.run_bind,run_underlying hu,Result.andThen_ok]<;>rfl
 exact gen 9999
theorem nilc_ok (hA:A.Ok P) (hw:PW w0 s) {t:Nat→Option PV} {ρ':Operand→Value} (hρ:∀ x v,pev t x=some v→RV s v (ρ' x)) (hc:∀ v,ρ' (.const v)=v) {o:Oper} {K X:PV→PH→Prop} (h:nilc A t s.h o K) :
  Did P w0 s K X ((execOp ρ' o).run P s.w):=by
 unfold nilc at h
 split at h
 ·next ty x y yt ho =>
  obtain ⟨hy,⟨e,he⟩,tl,vs,hx,hK⟩:=h
  obtain ⟨n',c',rfl⟩:∃ n' c',y=.const (.slice none n' c'):=by
   unfold isNilSl at hy
   split at hy
   ·exact ⟨_,_,rfl⟩
   ·cases hy
  have hvx:=hρ _ _ hx
  obtain ⟨a,n,c,hax,hnn⟩:∃ a n c,ρ' x=.slice a n c∧(vs≠[]→a.isNone=false):=by
   rcases RV_sl.1 hvx with ⟨h1,_,a,h3⟩ | ⟨k,o,c,sz,h1,_⟩
   ·exact ⟨a,0,0,h3,fun hne=>absurd h1 hne⟩
   ·exact ⟨_,_,_,h1,fun _=>rfl⟩
  refine .inl ⟨.bool a.isNone,.lit (.bool a.isNone),s,.inl ?_,hw,Ext.refl s,RV_lit.2 ⟨rfl,by simp only [VR]⟩,hK _ hnn⟩
  simp [execOp,ho,hax,hc,eqGuard,binOp,equal_nilsl (hA.under_ok he)]
 ·exact h.elim
theorem op_goN (hw:PW w0 s) {t:T PV} {arr:Array Value} (ht:TV s t.get arr) {o:Oper} {K X:PV→PH→Prop}
  {ops:Array Oper} {i:Nat} {rest:List Nat} {dl:List Deferred} (hd:Did P w0 s K X ((execOp (on b arr dl (.inRegion ops (i::rest)::k)).eval o).run P s.w)) (hnd:∀ c,o.op≠.defer c) (ho:ops[i]?=some o) (hwt:Region.wanted o (yielded ops arr)=true) (hm:b.mode=.run) :
  (∃ x v s',PW w0 s'∧Ext s s'∧RV s' v x∧K v s'.h∧Steps P (lone (on b arr dl (.inRegion ops (i::rest)::k)) cs s.w) (lone (on b (putA arr o.dst x) dl (.inRegion ops rest::k)) cs s'.w)) ∨
  ∃ x v s' todo,PW w0 s'∧Ext s s'∧RV s' v x∧X v s'.h∧Steps P (lone (on b arr dl (.inRegion ops (i::rest)::k)) cs s.w) (lone { on b arr dl todo with mode:=.panicking [{ v:=x,recovered:=false }] } cs s'.w):=by
 have hexec:=exec_op (P:=P) (fr:=on b arr dl (.inRegion ops (i::rest)::k)) (cs:=cs) (w:=s.w) (k:=k) rfl ho hwt (.inr hnd)
 have hst:=stepG_run (P:=P) (fr:=on b arr dl (.inRegion ops (i::rest)::k)) (cs:=cs) (w:=s.w) hm
 rcases hd with ⟨x,v,s',h1,h2,h3,h4,h5⟩ | hgo | ⟨x,v,h1,h2,h3⟩
 ·refine .inl ⟨x,v,s',h2,h3,h4,h5,.one (step_lone_go ?_)⟩
  rw [hst,hexec,← on_finish ho]
  rcases h1 with h1 | ⟨h1,rfl⟩
  ·exact apply_value h1
  ·exact apply_skip h1
 ·generalize hr:(execOp (on b arr dl (.inRegion ops (i::rest)::k)).eval o).run P s.w=r at hgo
  cases r with
  |halt x w=>exact hgo.elim
  |ok nx w =>
   cases nx<;>try exact hgo.elim
   ·next g xs =>
    obtain ⟨e,w',fr',he,hc,_,hlv⟩:=hgo (on b arr dl (.inRegion ops (i::rest)::k)::cs)
    obtain ⟨s',e1,e2,e3,e4⟩:=he
    subst e1
    have henter:step P (lone (on b arr dl (.inRegion ops (i::rest)::k)) cs s.w)=.next (lone (Frame.enter P g xs .normal) (on b arr dl (.inRegion ops (i::rest)::k)::cs) w):=by
     refine step_lone_go ?_
     rw [hst,hexec]
     exact apply_enter (fun d r sv k' hc=>by simp [on] at hc) hr
    cases e with
    |returned x =>
     obtain ⟨v,v1,v2⟩:=e4
     refine .inl ⟨x,v,s',e2,e3,v1,v2,.head henter (Steps.trans hc (.one ?_))⟩
     rw [← on_finish ho]
     exact step_leave_returned hlv
    |panicked ch =>
     obtain ⟨v,x,rfl,v1,v2⟩:=e4
     refine .inr ⟨x,v,s',.inRegion ops (i::rest)::k,e2,e3,v1,v2,.head henter (Steps.trans hc (.one ?_))⟩
     rw [← on_raise hm]
     exact step_leave_panicked hlv
    |outgrown=>exact e4.elim
   ·next l f tmps asg body =>
    have henter:step P (lone (on b arr dl (.inRegion ops (i::rest)::k)) cs s.w)=.next (lone (Frame.round l f tmps asg body .normal) (on b arr dl (.inRegion ops (i::rest)::k)::cs) w):=by
     refine step_lone_go ?_
     rw [hst,hexec]
     exact apply_round hr
    rcases hgo (on b arr dl (.inRegion ops (i::rest)::k)) cs with ⟨x,w',⟨s',e1,e2,e3,v,v1,v2⟩,hs⟩ | ⟨ch,w',⟨s',e1,e2,e3,v,x,rfl,v1,v2⟩,hs⟩
    ·subst e1
     refine .inl ⟨x,v,s',e2,e3,v1,v2,.head henter ?_⟩
     rw [← on_finish ho]
     exact hs
    ·subst e1
     refine .inr ⟨x,v,s',.inRegion ops (i::rest)::k,e2,e3,v1,v2,.head henter ?_⟩
     rw [← on_raise hm]
     exact hs
 ·refine .inr ⟨x,v,s,.inRegion ops (i::rest)::k,hw,Ext.refl s,h2,h3,.one (step_lone_go ?_)⟩
  rw [hst,hexec,← on_raise hm]
  exact apply_panic h1
def pregN (A:AP) (E:Eqs) (P:Program) (M:Nat→Bool) (sz:Nat):List Oper→T PV→PH→(T PV→PH→Prop)→(PV→PH→Prop)→Prop
 |[],t,h,K,_=>K t h
 |o::os,t,h,K,X=>dstIn sz o.dst=true∧o.guard=none∧popN A E P M t.get h o (fun v h'=>pregN A E P M sz os (tput t o.dst v) h' K X) X
theorem preg_goN (hA:A.Ok P) (hE:E.Ok P) (hm:b.mode=.run) {ops:Array Oper} {Q:PQ} {X:T PV→List Nat→PV→PH→Prop} {ds:List Nat} {tl:T PV}:∀ (os:List Oper) (i:Nat) (s:St) (t:T PV) (arr:Array Value),ops.toList.drop i=os →
  pregN A E P M sz os t s.h (fun t h=>Q .normal t ds h) (X tl ds)→PW w0 s→TV s t.get arr→(TV s tl.get arr∧∀ o∈os,∀ i v,tl.get i=some v→o.dst≠some i)→arr.size=sz→(∀ i∈ds,i < s.h.next) →
  POut P w0 s sz b k cs Q X (lone (on b arr (dls s ds) (.inRegion ops ((List.range ops.size).drop i)::k)) cs s.w)
 |[],i,s,t,arr,hos,hp,hw,ht,htl,hsz,hds=>by
  have hle:ops.size≤i:=by simpa using hos
  have e0:(List.range ops.size).drop i=[]:=List.drop_eq_nil_of_le (by simpa using hle)
  rw [e0]
  exact ⟨s,arr,ds,hw,Ext.refl s,hsz,hds,.inl ⟨t,hp,ht,step_on hm (by simp [stepG.exec,on])⟩⟩
 |o :: os, i, s, t, arr, hos, hp, hw, ht, htl, hsz, hds => by
  have hlt:i < ops.size:=by
   rcases Nat.lt_or_ge i ops.size with h1 | h1
   ·exact h1
   ·rw [List.drop_eq_nil_of_le (by simpa using h1)] at hos;cases hos
  have hdr:=List.drop_eq_getElem_cons (l:=ops.toList) (i:=i) (by simpa using hlt)
  rw [hos] at hdr
  simp only [List.cons.injEq] at hdr
  obtain ⟨hd1,hd2⟩:=hdr
  have ho:ops[i]?=some o:=by rw [Array.getElem?_eq_getElem hlt,hd1];simp
  have er:(List.range ops.size).drop i=i::(List.range ops.size).drop (i+1):=by
   rw [List.drop_eq_getElem_cons (by simpa using hlt)]
   simp
  rw [er]
  obtain ⟨hdst,hg,hp⟩:=hp
  have hdst':dstIn arr.size o.dst=true:=by rw [hsz];exact hdst
  have hρ:∀ x v,pev t.get x=some v→RV s v ((on b arr (dls s ds) (.inRegion ops (i::(List.range ops.size).drop (i+1))::k)).eval x):=fun x v hx=>ev_on ht x v hx
  have hdid:Did P w0 s (fun v h'=>pregN A E P M sz os (tput t o.dst v) h' (fun t h=>Q .normal t ds h) (X tl ds)) (X tl ds) ((execOp (on b arr (dls s ds) (.inRegion ops (i::(List.range ops.size).drop (i+1))::k)).eval o).run P s.w)∧∀ c,o.op≠.defer c:=by
   rcases hp with hp | hp
   ·exact ⟨pop_ok hA hE hw hρ hp,pop_nodefer hp⟩
   ·refine ⟨nilc_ok hA hw hρ (fun v=>rfl) hp,fun c hc=>?_⟩
    unfold nilc at hp
    rw [hc] at hp
    exact hp
  rcases op_goN (b:=b) (k:=k) (cs:=cs) (dl:=dls s ds) (rest:=(List.range ops.size).drop (i+1)) hw ht hdid.1 hdid.2 ho (by simp [Region.wanted,hg]) hm with ⟨x,v,s',h1,h2,h3,h4,h5⟩ | ⟨x,v,s',todo,h1,h2,h3,h4,h5⟩
  ·refine POut.of_steps h5 (POut.ext h2 ?_)
   rw [← dls_ext h2 hds]
   exact preg_goN hA hE hm os (i+1) s' (tput t o.dst v) (putA arr o.dst x) hd2.symm h4 h1 ((ht.ext h2).put hdst' h3) ⟨(htl.1.ext h2).putNot (htl.2 o (by simp)),fun p hp=>htl.2 p (List.mem_cons_of_mem _ hp)⟩ (by rw [putA_size];exact hsz) fun j hj=>Nat.lt_of_lt_of_le (hds j hj) h2.next
  ·refine ⟨s',arr,ds,h1,h2,hsz,fun j hj=>Nat.lt_of_lt_of_le (hds j hj) h2.next,.inr (.inr ⟨tl,v,x,todo,h4,h3,htl.1.ext h2,?_⟩)⟩
   rw [dls_ext h2 hds]
   exact h5
theorem PWP.regionN (hA:A.Ok P) (hE:E.Ok P) {id:Nat} {ops:Array Oper} {rnd:Option Nat} {fi:FuncId} {Q:PQ} {X:T PV→List Nat→PV→PH→Prop} {t:T PV} {ds:List Nat} {h:PH} (hp:pregN A E P M sz ops.toList t h (fun t h=>Q .normal t ds h) (X (tless t ops.toList) ds)) :
  PWP P fi sz rnd (.region id ops false) Q X t ds h:=by
 intro w0 s arr b k cs a1 a2 a3 a4 a5 a6 a7 a8 a9
 subst a2
 refine POut.of_steps (step_on (k':=.inRegion ops (List.range ops.size)::k) a6 (by simp [stepG.exec,on])) ?_
 have:=preg_goN (k:=k) (cs:=cs) (M:=M) (b:=b) hA hE a6 ops.toList 0 s t arr rfl hp a1 a3 ⟨fun i v hi=>a3 i v (tless_get _ _ _ _ hi).1,fun o ho i v hi=>(tless_get _ _ _ _ hi).2 o ho⟩ a4 a5
 simpa using this
end
section
variable {C:Cx} {F:EQ} {X:EX} {k:List KI} {e:EL} {ds:List Nat} {h:PH}
theorem Run.nilS (hC:C.Ok) {id d1 d2 x ty:Nat} {y:Operand} {t0 ty1 ty2:TypeId} {p1 p2:String} {a1 a2:Array Edge} {tl:Tail} {vs:List PV} {el:TypeId}
  (hx:lget e x=some (.sl tl vs)) (hy:isNilSl y=true) (hs:C.A.under ty=some (.slice el)) (h1:Nat.blt d1 C.sz=true) (h2:Nat.blt d2 C.sz=true)
  (hr:∀ b:Bool,(vs≠[]→b=false)→Run C F X k ((d2,B b)::(d1,.sl tl vs)::e) ds h) :
  Run C F X (.c (.region id #[{ dst:=some d1,op:=.move (.tmp x),type:=ty1,pos:=p1,after:=a1,guard:=none },{ dst:=some d2,op:=.binOp .eql ty (.tmp d1) y t0,type:=ty2,pos:=p2,after:=a2,guard:=none }] false)::k) e ds h:=by
 refine Run.intro (PWP.regionN (M:=C.M) hC.A hC.E ?_)
 generalize toX X (tless (TE e) _) ds=Y
 refine ⟨h1,rfl,.inl ?_⟩
 have hm:pop C.A C.E C.P C.M (TE e).get h { dst:=some d1,op:=.move (.tmp x),type:=ty1,pos:=p1,after:=a1,guard:=none } (fun v h'=>pregN C.A C.E C.P C.M C.sz [{ dst:=some d2,op:=.binOp .eql ty (.tmp d1) y t0,type:=ty2,pos:=p2,after:=a2,guard:=none }] (tput (TE e) (some d1) v) h' (fun t h=>Pv.toQ (Ks C F X k) .normal t ds h) Y) Y:=by
  refine pop_of_pure (v:=.sl tl vs) (by simp only [ppure,pkind,pquiet,pev,TE_get,hx]) ?_
  refine ⟨h2,rfl,.inr ?_⟩
  refine ⟨hy,⟨el,hs⟩,tl,vs,by simp only [pev,tput,T.get_set,if_true],fun b hb=>?_⟩
  exact (hr b hb).toQ fun i v hi=>by
   have h3:=put_get (put_get (TE_getf e) d1 (.sl tl vs)) d2 (B b)
   have h4:=congrFun h3 i
   rw [hi] at h4
   exact h4
 exact hm
end
end Go.Pv
namespace Go.Pv
open Go.Am Go.RowKit
section
variable {C:Cx} {F:EQ} {X:EX} {k:List KI} {e:EL} {ds:List Nat} {h:PH} {n m:Nat} {l l':HL} {K:PV→PH→Prop}
variable {d:Option Nat} {type:TypeId} {pos:String} {after:Array Edge} {guard:Option (Nat×Bool)}
theorem HE_cut4 {a c:Option PBlk} (h0:hget l 0=none) (h1:hget l 1=a) (h2:hget l 2=none) (h3:hget l 3=c):(HE n l).cut 4=HE 4 [(1,a),(3,c)]:=by
 unfold PH.cut HE
 congr 1
 funext i
 match i with
 |0=>exact h0
 |1=>exact h1
 |2=>exact h2
 |3=>exact h3
 |i+4=>rfl
theorem HE_over4 {a c:Option PBlk} (h0:hget l 0=none) (h2:hget l 2=none) (h3:hget l 3=c):(HE n l).over 4 (HE 4 [(1,a),(3,c)])=HE n ((1,a)::l):=by
 unfold PH.over HE
 congr 1
 funext i
 match i with
 |0=>exact h0.symm
 |1=>rfl
 |2=>exact h2.symm
 |3=>exact h3.symm
 |i+4=>rfl
theorem ok4 {es:List (AV×PV×Nat)} {clock:Nat} {clo:PBlk} (hes:∀ e∈es,e.2.1.bd 4=true) (hclo:clo.bd 4):(HE 4 [(1,some (.map es clock)),(3,some clo)]).Ok:=by
 intro i b hb
 match i with
 |0=>cases (show (none:Option PBlk)=some b from hb)
 |1 =>
  cases (show some (PBlk.map es clock)=some b from hb)
  exact ⟨by show 1 < 4;decide,hes⟩
 |2=>cases (show (none:Option PBlk)=some b from hb)
 |3 =>
  cases (show some clo=some b from hb)
  exact ⟨by show 3 < 4;decide,hclo⟩
 |i+4=>cases (show (none:Option PBlk)=some b from hb)
theorem PCall.clo4 {P:Program} {g:Nat} {args:List PV} {clo:PBlk} {es:List (AV×PV×Nat)} {clock:Nat} {Q:PV→List (AV×PV×Nat)→Nat→Prop}
  (h0:hget l 0=none) (h1:hget l 1=some (.map es clock)) (h2:hget l 2=none) (h3:hget l 3=some clo) (hn:4≤n) (hb:PV.bds 4 args=true) (hes:∀ e∈es,e.2.1.bd 4=true) (hclo:clo.bd 4)
  (hc:PCall P g args (HE 4 [(1,some (.map es clock)),(3,some clo)]) (fun v h'=>∃ es' clock',h'=HE 4 [(1,some (.map es' clock')),(3,some clo)]∧Q v es' clock') fun _ _=>False) :
  PCall P g args (HE n l) (fun v h'=>∃ es' clock',h'=HE n ((1,some (.map es' clock'))::l)∧Q v es' clock') fun _ _=>False:=by
 have hcut:=HE_cut4 (n:=n) h0 h1 h2 h3
 refine (PCall.frame (n:=4) (h:=HE n l) hn hb (fun _=>by rw [hcut];exact ok4 hes hclo) (by rw [hcut];exact hc) ?_ ?_).mono ?_ ?_
 ·rintro v h' ⟨es',clock',rfl,_⟩;rfl
 ·intro v h' hx;exact hx.elim
 ·rintro v h'' ⟨h',⟨es',clock',rfl,hq⟩,rfl⟩
  rw [HE_over4 h0 h2 h3]
  exact ⟨es',clock',rfl,hq⟩
 ·rintro v h'' ⟨h',hx,_⟩;exact hx
theorem Ope.callM4 {f:Operand} {args:Array Operand} {tys:Array TypeId} {g:Nat} {fs ar cp:List PV} {clo:PBlk} {es:List (AV×PV×Nat)} {clock:Nat} {Q:PV→List (AV×PV×Nat)→Nat→Prop} (hf:pev (lget e) f=some (.fn (.func g) fs cp)) (ha:pargs (pev (lget e)) args.toList=some ar)
  (h0:hget l 0=none) (h1:hget l 1=some (.map es clock)) (h2:hget l 2=none) (h3:hget l 3=some clo) (hn:4≤n) (hb:PV.bds 4 (fs++ar++cp)=true) (hes:∀ e∈es,e.2.1.bd 4=true) (hclo:clo.bd 4)
  (hc:PCall C.P g (fs++ar++cp) (HE 4 [(1,some (.map es clock)),(3,some clo)]) (fun v h'=>∃ es' clock',h'=HE 4 [(1,some (.map es' clock')),(3,some clo)]∧Q v es' clock') fun _ _=>False)
  (hK:∀ v es' clock',Q v es' clock'→K v (HE n ((1,some (.map es' clock'))::l))):Ope C X { dst:=d,op:=.call { callee:=.value f,args,argTypes:=tys },type,pos,after,guard } e ds (HE n l) K:=by
 refine Ope.call hf ha rfl ?_
 refine (PCall.clo4 h0 h1 h2 h3 hn hb hes hclo hc).mono ?_ ?_
 ·rintro v h' ⟨es',clock',rfl,hq⟩
  exact hK v es' clock' hq
 ·intro v h' hx;exact hx.elim
theorem Ope.callM4h {f:Operand} {args:Array Operand} {tys:Array TypeId} {g:Nat} {fs ar cp:List PV} {b0 clo:PBlk} {es:List (AV×PV×Nat)} {clock:Nat} {Q:PV→List (AV×PV×Nat)→Nat→Prop} (hf:pev (lget e) f=some (.fn (.func g) fs cp)) (ha:pargs (pev (lget e)) args.toList=some ar)
  (h0:hget l 0=some b0) (hb0:b0.isOwn=false) (h1:hget l 1=some (.map es clock)) (h2:hget l 2=none) (h3:hget l 3=some clo) (hn:4≤n) (hb:PV.bds 4 (fs++ar++cp)=true) (hes:∀ e∈es,e.2.1.bd 4=true) (hclo:clo.bd 4)
  (hc:PCall C.P g (fs++ar++cp) (HE 4 [(1,some (.map es clock)),(3,some clo)]) (fun v h'=>∃ es' clock',h'=HE 4 [(1,some (.map es' clock')),(3,some clo)]∧Q v es' clock') fun _ _=>False)
  (hK:∀ v es' clock',Q v es' clock'→K v (HE n ((1,some (.map es' clock'))::l))):Ope C X { dst:=d,op:=.call { callee:=.value f,args,argTypes:=tys },type,pos,after,guard } e ds (HE n l) K:=by
 refine Ope.call hf ha rfl ?_
 have hhide:(HE n l).hide (fun i=>Nat.beq i 0)=HE n ((0,none)::l):=by
  unfold PH.hide HE
  congr 1
  funext i
  match i with
  |0=>rfl
  |i+1=>rfl
 refine (PCall.frameO (O:=fun i=>Nat.beq i 0) (h:=HE n l) (R:=fun v h'=>∃ es' clock',h'=HE n ((1,some (.map es' clock'))::(0,none)::l)∧Q v es' clock') (X:=fun _ _=>False) (fun i hi=>?_) ?_).mono ?_ ?_
 ·have:=Nat.eq_of_beq_eq_true hi
  subst this
  exact ⟨b0,h0,hb0⟩
 ·rw [hhide]
  exact PCall.clo4 (l:=(0,none)::l) rfl ((hget_tl (by decide)).trans h1) ((hget_tl (by decide)).trans h2) ((hget_tl (by decide)).trans h3) hn hb hes hclo hc
 ·rintro v h' ⟨h1',⟨es',clock',rfl,hq⟩,_,rfl⟩
  have hg:(HE n ((1,some (.map es' clock'))::(0,none)::l)).give (HE n l) (fun i=>Nat.beq i 0)=HE n ((1,some (.map es' clock'))::l):=by
   unfold PH.give HE
   congr 1
   funext i
   match i with
   |0=>rfl
   |1=>rfl
   |i+2=>rfl
  rw [hg]
  exact hK v es' clock' hq
 ·rintro v h' ⟨h1',hx,_⟩;exact hx.elim
end
end Go.Pv
namespace Go.Pv
open Go.Am Go.RowKit
section
variable {C:Cx} {X:EX} {e:EL} {ds:List Nat} {h:PH} {K:PV→PH→Prop}
variable {d:Option Tmp} {type:TypeId} {pos:String} {after:Array Edge} {guard:Option (Nat×Bool)}
theorem Ope.remN {t t':TypeId} {x y:Operand} {kk:IntKind} {a b:Int} {p q:Nat} (hx:pev (lget e) x=some (.lit (.int kk a))) (hy:pev (lget e) y=some (.lit (.int kk b))) (ha:a=(p:Int)) (hb:b=(q:Int)) (hq:0 < q) (hK:K (.lit (.int kk ((p % q:Nat):Int))) h) :
  Ope C X { dst:=d,op:=.binOp .rem t x y t',type,pos,after,guard } e ds h K:=by
 subst ha hb
 refine Ope.bin hx hy (v:=.lit (.int kk ((p % q:Nat):Int))) ?_ hK
 have h0:decide ((q:Int)=0)=false:=decide_eq_false (by omega)
 have e1:(p:Int).tmod (q:Int)=((p % q:Nat):Int):=rfl
 simp only [abin,aint,h0,plit,e1]
 rfl
end
end Go.Pv
namespace Go.Pv
open Go.Am Go.RowKit
section
variable {C:Cx} {X:EX} {e:EL} {ds:List Nat} {n:Nat} {l:HL} {h:PH} {K:PV→PH→Prop}
variable {d:Option Tmp} {type:TypeId} {pos:String} {after:Array Edge} {guard:Option (Nat×Bool)}
theorem Ope.slT1 {t sz bytes:Nat} {agg:Bool} {x y:Operand} {kk:IntKind} {j:Nat} {ez:Option Nat} [hs:Slc C.A t agg sz bytes] (hx:pev (lget e) x=some (.ms j 0 1 1 ez)) (hy:pev (lget e) y=some (.lit (.int kk 1)))
  (hK:K (.ms j 0 0 0 ez) h):Ope C X { dst:=d,op:=.slice t x (some y) none none,type,pos,after,guard } e ds h K:=by
 refine Ope.quiet rfl ?_ hK
 obtain ⟨el,ti,h1,h2,h3,_,_⟩:=hs.get
 have hai:aidx (1:Int) (0+1+1)=some 1:=by decide
 have hb:Nat.ble (0+1) (0+1)=true:=rfl
 have hc:Nat.beq (0+1) 1=true:=rfl
 simp only [pquiet,hx,hy,popt,pslice,h1,h3,hb,pbound,hai,hc]
theorem Ope.copyS {t tx sz bytes i o cap dl:Nat} {agg:Bool} {ez:Option Nat} {x y:Operand} {tl:Tail} {vs cs cs':List PV} [hs:Slc C.A t agg sz bytes] (hx:pev (lget e) x=some (.ms i o dl cap ez)) (hy:pev (lget e) y=some (.sl tl vs))
  (hg:hget l i=some (.cells cs)) (hv:∀ v∈vs,v.nc=sz∧PV.allOne v.cells=true) (hl:vs.length=dl) (ho:o+dl * sz≤cs.length) (hcs:pputs cs o (flat vs)=cs') (hK:K (I dl) (HE n ((i,some (.cells cs'))::l))) :
  Ope C X { dst:=d,op:=.call { callee:=.builtin .copy,args:=#[x,y],argTypes:=#[t,tx] },type,pos,after,guard } e ds (HE n l) K:=by
 obtain ⟨el,ti,h1,h2,h3,_,_⟩:=hs.get
 obtain ⟨d',ti',h4,h5,rfl,rfl⟩:=h2.get
 rw [h3] at h5
 cases h5
 subst hl
 unfold Ope
 simp only [pop,pkind,ploud,pargs,hx,hy,PCopy,h1,h3]
 refine ⟨cs,hg,Each.of hv,ho,?_⟩
 have hmin:Nat.min vs.length vs.length=vs.length:=Nat.min_self _
 rw [hmin,List.take_length,hcs,HE_put]
 exact hK
end
end Go.Pv
namespace Go.Pv
open Go.Am Go.RowKit
section
variable {C:Cx} {X:EX} {e:EL} {ds:List Nat} {n:Nat} {l:HL} {h:PH} {K:PV→PH→Prop}
variable {d:Option Tmp} {type:TypeId} {pos:String} {after:Array Edge} {guard:Option (Nat×Bool)}
theorem Ope.quoN {t t':TypeId} {x y:Operand} {kk:IntKind} {a b:Int} {p q:Nat} (hx:pev (lget e) x=some (.lit (.int kk a))) (hy:pev (lget e) y=some (.lit (.int kk b))) (ha:a=(p:Int)) (hb:b=(q:Int)) (hq:0 < q) (hp:p < 2 ^ (kk.bits - 1)) (hK:K (.lit (.int kk ((p / q:Nat):Int))) h) :
  Ope C X { dst:=d,op:=.binOp .quo t x y t',type,pos,after,guard } e ds h K:=by
 subst ha hb
 refine Ope.bin hx hy (v:=.lit (.int kk ((p / q:Nat):Int))) ?_ hK
 have h0:decide ((q:Int)=0)=false:=decide_eq_false (by omega)
 have e1:(p:Int).tdiv (q:Int)=((p / q:Nat):Int):=rfl
 have e2:fwrap kk ((p / q:Nat):Int)=((p / q:Nat):Int):=by
  rw [fwrap_eq]
  exact wrap_nat (Nat.lt_of_le_of_lt (Nat.div_le_self _ _) hp)
 simp only [abin,aint,h0,e1,e2,plit]
 rfl
end
end Go.Pv
