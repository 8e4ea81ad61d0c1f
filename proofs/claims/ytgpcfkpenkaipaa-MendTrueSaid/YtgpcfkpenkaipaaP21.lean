/- Parts of the proof: M29, M30 -/
import Derived.Test.YtgpcfkpenkaipaaP20
import Derived.Test.YtgpcfkpenkaipaaP12
set_option linter.unusedVariables false
set_option linter.unusedSimpArgs false
set_option linter.unusedSectionVars false
namespace Go.Pv
open Go.Proofs Go.Am
set_option maxRecDepth 10000
abbrev ordV (x:Tail×List Nat):PV:=.sl x.1 (x.2.map N)
def GI (s:Shp) (ws:List Wrk) (J R:Int) (i:Nat) (G:Int):Prop :=
  (G=4∧s.flt ws=none)∨(G=0∧(∃ j:Nat,J=j∧s.flt ws=some (j,R))∧∀ k (hk:k < ws.length),k < i→s.bad ws[k]=0)∨(G=11∧s.flt ws≠none)
theorem GI.four {s:Shp} {ws:List Wrk} {J R:Int} {i:Nat} {G:Int} (h:GI s ws J R i G) (hG:G=4):s.flt ws=none:=by
  rcases h with h | h | h
  · exact h.2
  · have:=h.1;omega
  · have:=h.1;omega
theorem GI.zero {s:Shp} {ws:List Wrk} {J R:Int} {i:Nat} {G:Int} (h:GI s ws J R i G) (hG:G=0):(∃ j:Nat,J=j∧s.flt ws=some (j,R))∧∀ k (hk:k < ws.length),k < i→s.bad ws[k]=0:=by
  rcases h with h | h | h
  · have:=h.1;omega
  · exact h.2
  · have:=h.1;omega
theorem GI.keep {s:Shp} {ws:List Wrk} {J R:Int} {i:Nat} {G:Int} (h:GI s ws J R i G) (hb:∀ hi:i < ws.length,G=0→s.bad ws[i]=0):GI s ws J R (i+1) G:=by
  rcases h with h | h | h
  · exact .inl h
  · refine .inr (.inl ⟨h.1, h.2.1, fun k hk hki => ?_⟩)
    by_cases hkk:k=i
    · subst hkk;exact hb hk h.1
    · exact h.2.2 k hk (by omega)
  · exact .inr (.inr h)
theorem GI.found {s:Shp} {ws:List Wrk} {J R:Int} {i:Nat} {G:Int} (h:GI s ws J R i G) (hG:G=0) (hi:i < ws.length) (hb:s.bad ws[i]≠0):J=ws[i].j∧R=s.bad ws[i]∧GI s ws J R (i+1) 11:=by
  obtain ⟨⟨j,hj,hf⟩,h2⟩:=h.zero hG
  have:=flt_some hi hb h2
  rw [this] at hf
  cases hf
  exact ⟨hj,rfl,.inr (.inr ⟨rfl,by rw [this];simp⟩)⟩
theorem neB (x y:Operand):∀ a b:Bool,a=b→pbin A0 E0 .neq 4 x y (B a) (B b)=some (B false):=by
  rintro a _ rfl
  cases a<;>rfl
section
variable (s:Shp) {t1 t2:Tail} (h1:t1.isOwn=false) (h2:t2.isOwn=false)
include h1 h2
theorem f5n (hi:s.i64) (a b:PV) (hv:s.val=false):Fn P0 5 [s.v t1 t2,a,b] (B true):=by
  have hfi:=f33 s h1 h2 hi
  rw [hv] at hfi
  have hbs:PV.bds 0 [s.v t1 t2]=true:=bd_shpV s h1 h2 rfl
  refine PFun.of (C:=c5) (cx_ok _ _ _) rfl (fn:=Try.f5) (by kernel_rfl) (c:=_) rfl rfl rfl ?_
  refine Run.seq (Run.region (cx_ok _ _ _) (Reg.op rfl (Ope.boxF rfl rfl ?_)))
  refine Reg.op rfl (Ope.asg rfl ?_)
  refine Reg.nil (Run.seq (Run.seq (Run.region (cx_ok _ _ _) (Reg.op rfl (Ope.load rfl rfl ?_)))))
  refine Reg.op rfl (Ope.cf rfl rfl hfi hbs ?_)
  refine Reg.op rfl (Ope.not rfl ?_)
  refine Reg.nil (Run.condX rfl (fun hc=>?_) fun hc=>?_)
  ·refine Run.seq (Run.region (cx_ok _ _ _) (Reg.op rfl (Ope.cf rfl rfl (awakeF) rfl ?_)))
   refine Reg.op rfl (Ope.asg rfl ?_)
   exact Reg.nil (Run.ret (Jmp.code (fin_ret (.tmp rfl .nil) rfl rfl)))
  ·cases hc
theorem f5y (hi : s.i64) (hv : s.val = true) (tb : Tail) (htb : tb.isOwn = false) (by' : List Nat) (hb8 : ∀ x ∈ by', x < 256) (tr : Tail) (tru : List Nat) (ht8 : ∀ x ∈ tru, x < 256) :
    Fn P0 5 [s.v t1 t2,.sl tb (by'.map U8),.sl tr (tru.map U8)] (B true):=by
  have hfi:=f33 s h1 h2 hi
  rw [hv] at hfi
  have hs:=val_ok hi hv
  have hn6:=hs.jo
  have hbs:PV.bds 0 [s.v t1 t2]=true:=bd_shpV s h1 h2 rfl
  obtain ⟨C,bt,BO,e,hbt,hbe,hbc⟩:=bestV h1 h2 hv hs
  have hbe4:(e=4∧C=0∧BO.length=0)∨e=0:=by
    rcases hbc with ⟨a,b,c,d⟩ | ⟨a,b⟩
    · exact .inl ⟨a,b,by rw [c];rfl⟩
    · exact .inr a
  have hbr:e=0→Ordr s.jo.length BO∧s.rgt BO=true∧C=s.cst Shp.p0 BO:=fun h=>by
    rcases hbc with ⟨a,_⟩ | ⟨_,b,c,d⟩
    · omega
    · have := all_best b
      rw [c,d]
      exact ⟨this.1,this.2.1,this.2.2.1⟩
  have hCb:-1000000000≤C∧C≤1000000000:=by
    rcases hbc with ⟨_,b,_⟩ | ⟨_,_,c,_⟩
    · omega
    · have hg0 := good0 s h1 h2 hs 0 (Nat.two_pow_pos _)
      rw [lft_0] at hg0
      have:=(out_ok hs hg0 hn6).c
      rw [c]
      show -1000000000≤(s.out s.jo.length Shp.p0).c∧(s.out s.jo.length Shp.p0).c≤_
      change 0≤(s.out s.jo.length Shp.p0).c∧(s.out s.jo.length Shp.p0).c≤_ at this
      omega
  clear hbc
  have hBl:BO.length≤6:=by
    rcases hbe4 with h | h
    · omega
    · have:=(hbr h).1.len;omega
  obtain ⟨om,tm,htm,hom,hma⟩:=f34 s h1 h2 (by omega) tb by' hb8
  have hbm:PV.bds 0 [s.v t1 t2,.sl tb (by'.map U8)]=true:=bd_shpV s h1 h2 (bds_cons (bd_sl (f:=U8) htb (fun _=>rfl) _) rfl)
  refine PFun.of (C:=c5) (cx_ok _ _ _) rfl (fn:=Try.f5) (by kernel_rfl) (c:=_) rfl rfl rfl ?_
  refine Run.seq (Run.region (cx_ok _ _ _) (Reg.op rfl (Ope.boxF rfl rfl ?_)))
  refine Reg.op rfl (Ope.asg rfl ?_)
  refine Reg.nil (Run.seq (Run.seq (Run.region (cx_ok _ _ _) (Reg.op rfl (Ope.load rfl rfl ?_)))))
  refine Reg.op rfl (Ope.cf rfl rfl hfi hbs ?_)
  refine Reg.op rfl (Ope.not rfl ?_)
  refine Reg.nil (Run.condX rfl (fun hc=>?_) fun hc=>?_)
  ·cases hc
  ·refine Run.skip (Run.seq (Run.region (cx_ok _ _ _) (Reg.op rfl (Ope.load rfl rfl ?_))))
   refine Reg.op rfl (Ope.cf rfl rfl hbe hbs ?_)
   refine Reg.op rfl (Ope.mov rfl ?_)
   refine Reg.op rfl (Ope.ext rfl rfl ?_)
   refine Reg.op rfl (Ope.ext rfl rfl ?_)
   refine Reg.op rfl (Ope.ext rfl rfl ?_)
   refine Reg.op rfl (Ope.asg rfl ?_)
   refine Reg.op rfl (Ope.asg rfl ?_)
   refine Reg.op rfl (Ope.asg rfl ?_)
   refine Reg.nil (Run.seq (Run.seq (Run.cut (fun e' d' h'=>Lsub [(1,(.sl tb (by'.map U8):PV)),(2,.sl tr (tru.map U8)),(3,.fp (s.v t1 t2)),(7,I C),(8,.sl bt (BO.map N)),(9,I e),(50,B false)] e'∧d'=[]∧h'=HE 0 []) ?_ ?_)))
   ·refine Run.region (cx_ok _ _ _) (Reg.op rfl (Ope.mov rfl ?_))
    refine Reg.op rfl (Ope.ne rfl rfl ?_)
    refine Reg.op rfl (Ope.mov rfl ?_)
    refine Reg.splitX rfl rfl (fun hg=>?_) fun hg=>?_
    ·refine Reg.on rfl rfl rfl (Ope.mov rfl ?_)
     refine Reg.on rfl rfl rfl (Ope.ne rfl rfl ?_)
     refine Reg.on rfl rfl rfl (Ope.mov rfl ?_)
     refine Reg.splitX rfl rfl (fun hg=>?_) fun hg=>?_
     ·refine Reg.off rfl rfl rfl (Reg.off rfl rfl rfl (Reg.on rfl rfl rfl (Ope.pickT rfl rfl ?_)))
      refine Reg.on rfl rfl rfl (Ope.mov rfl ?_)
      refine Reg.off rfl rfl rfl (Reg.off rfl rfl rfl (Reg.off rfl rfl rfl (Reg.on rfl rfl rfl (Ope.pickT rfl rfl ?_))))
      refine Reg.op rfl (Ope.pickT rfl rfl ?_)
      refine Reg.nil ?_
      first | exact Run.lend ⟨⟨rfl,rfl,rfl,rfl,rfl,rfl,rfl,trivial⟩,rfl,rfl⟩ | exact Run.lend ⟨⟨rfl,rfl,rfl,rfl,rfl,rfl,congrArg (fun b=>some (B b)) (decide_eq_false (by omega)),trivial⟩,rfl,rfl⟩ | (exfalso;omega)
     ·refine Reg.on rfl rfl rfl (Ope.mov rfl ?_)
      refine Reg.on rfl rfl rfl (Ope.ne rfl rfl ?_)
      refine Reg.on rfl rfl rfl (Ope.pickF rfl rfl ?_)
      refine Reg.on rfl rfl rfl (Ope.mov rfl ?_)
      refine Reg.splitX rfl rfl (fun hg=>?_) fun hg=>?_
      ·refine Reg.off rfl rfl rfl (Reg.off rfl rfl rfl (Reg.off rfl rfl rfl (Reg.on rfl rfl rfl (Ope.pickT rfl rfl ?_))))
       refine Reg.op rfl (Ope.pickT rfl rfl ?_)
       refine Reg.nil ?_
       first | exact Run.lend ⟨⟨rfl,rfl,rfl,rfl,rfl,rfl,rfl,trivial⟩,rfl,rfl⟩ | exact Run.lend ⟨⟨rfl,rfl,rfl,rfl,rfl,rfl,congrArg (fun b=>some (B b)) (decide_eq_false (by omega)),trivial⟩,rfl,rfl⟩ | (exfalso;omega)
      ·refine Reg.on rfl rfl rfl (Ope.mov rfl ?_)
       refine Reg.on rfl rfl rfl (Ope.len (m:=BO.length) rfl (by simp) ?_)
       refine Reg.on rfl rfl rfl (Ope.ne rfl rfl ?_)
       refine Reg.on rfl rfl rfl (Ope.pickF rfl rfl ?_)
       refine Reg.op rfl (Ope.pickT rfl rfl ?_)
       refine Reg.nil ?_
       first | exact Run.lend ⟨⟨rfl,rfl,rfl,rfl,rfl,rfl,rfl,trivial⟩,rfl,rfl⟩ | exact Run.lend ⟨⟨rfl,rfl,rfl,rfl,rfl,rfl,congrArg (fun b=>some (B b)) (decide_eq_false (by omega)),trivial⟩,rfl,rfl⟩ | (exfalso;omega)
    ·refine Reg.off rfl rfl rfl (Reg.off rfl rfl rfl (Reg.off rfl rfl rfl (Reg.past rfl rfl rfl (Reg.past rfl rfl rfl (Reg.off rfl rfl rfl (Reg.off rfl rfl rfl (Reg.past rfl rfl rfl (Reg.past rfl rfl rfl (Reg.past rfl rfl rfl (Reg.off rfl rfl rfl (Reg.op rfl (Ope.pickF rfl rfl ?_))))))))))))
     refine Reg.nil ?_
     first | exact Run.lend ⟨⟨rfl,rfl,rfl,rfl,rfl,rfl,rfl,trivial⟩,rfl,rfl⟩ | exact Run.lend ⟨⟨rfl,rfl,rfl,rfl,rfl,rfl,congrArg (fun b=>some (B b)) (decide_eq_false (by omega)),trivial⟩,rfl,rfl⟩ | (exfalso;omega)
   ·rintro e' d' h' ⟨hsb, rfl, rfl⟩; refine Run.less hsb ?_
    refine Run.condX rfl (fun hc=>?_) fun hc=>?_
    ·cases hc
    ·refine Run.skip (Run.seq (Run.region (cx_ok _ _ _) (Reg.op rfl (Ope.load rfl rfl ?_))))
     refine Reg.op rfl (Ope.mov rfl ?_)
     refine Reg.op rfl (Ope.cf rfl rfl hma hbm ?_)
     refine Reg.op rfl (Ope.bsl rfl rfl rfl rfl ?_)
     refine Reg.op rfl (Ope.asg rfl ?_)
     refine Reg.nil (Run.seq (Run.seq (Run.region (cx_ok _ _ _) (Reg.op rfl (Ope.mov rfl ?_)))))
     refine Reg.op rfl (Ope.eq rfl rfl ?_)
     refine Reg.nil (Run.cut (fun e' d' h'=>∃ (Q:List (Tail×List Nat)) (m:Nat) (tt:Tail),Lsub [(2,.sl tr (tru.map U8)),(3,.fp (s.v t1 t2)),(7,I C),(10,.sl tt (Q.map ordV))] e'∧d'=[]∧(∃ l',h'=HE m l')∧Q.length≤2∧∀ (k:Nat) (hk:k < Q.length),Q[k].1.isOwn=false∧Ordr s.jo.length Q[k].2∧(k=1→s.rgt Q[k].2=true∧C=s.cst Shp.p0 Q[k].2)) ?_ ?_)
     ·refine Run.condX rfl (fun hc=>?_) fun hc=>?_
      ·refine Run.region (cx_ok _ _ _) (Reg.op rfl (Ope.mov rfl ?_))
       refine Reg.op rfl (Ope.mov rfl ?_)
       refine Reg.op rfl (Ope.bsl rfl rfl rfl rfl ?_)
       refine Reg.op rfl (Ope.apO (vs:=[ordV (tm,om)]) (ws:=[ordV (bt,BO)]) rfl rfl (by simp) (by simp) (by simp) (by decide) (by intro v hv;simp only [List.mem_singleton] at hv;subst hv;rfl) (by intro v hv;simp only [List.mem_singleton] at hv;subst hv;exact ⟨rfl,rfl⟩) ?_)
       refine Reg.op rfl (Ope.asg rfl ?_)
       refine Reg.nil ?_
       first
       | exact Run.lend ⟨[(tm,om)],_,_,⟨rfl,rfl,rfl,rfl,trivial⟩,rfl,⟨_,rfl⟩,(by simp),fun k hk=>by
           match k,hk with
           | 0,_=>exact ⟨htm,hom,fun h=>absurd h (by decide)⟩⟩
       | exact Run.lend ⟨[(tm,om),(bt,BO)],_,_,⟨rfl,rfl,rfl,rfl,trivial⟩,rfl,⟨_,rfl⟩,(by simp),fun k hk=>by
           match k,hk with
           | 0,_=>exact ⟨htm,hom,fun h=>absurd h (by decide)⟩
           | 1,_=>exact ⟨hbt,(hbr (by omega)).1,fun _=>(hbr (by omega)).2⟩⟩
      ·refine Run.skip ?_
       first
       | exact Run.lend ⟨[(tm,om)],_,_,⟨rfl,rfl,rfl,rfl,trivial⟩,rfl,⟨_,rfl⟩,(by simp),fun k hk=>by
           match k,hk with
           | 0,_=>exact ⟨htm,hom,fun h=>absurd h (by decide)⟩⟩
       | exact Run.lend ⟨[(tm,om),(bt,BO)],_,_,⟨rfl,rfl,rfl,rfl,trivial⟩,rfl,⟨_,rfl⟩,(by simp),fun k hk=>by
           match k,hk with
           | 0,_=>exact ⟨htm,hom,fun h=>absurd h (by decide)⟩
           | 1,_=>exact ⟨hbt,(hbr (by omega)).1,fun _=>(hbr (by omega)).2⟩⟩
     ·rintro e' d' h' ⟨Q, m0, tt, hsb, rfl, ⟨l', rfl⟩, hQ2, hQ⟩; refine Run.less hsb ?_; refine Run.wide (m := m0) (l' := []) (Nat.le_refl _) trivial ?_
      refine Run.seq (Run.seq (Run.region (cx_ok _ _ _) (Reg.op rfl (Ope.mov rfl ?_))))
      refine Reg.op rfl (Ope.len (m:=Q.length) rfl (by simp) ?_)
      refine Reg.op rfl (Ope.mov rfl ?_)
      refine Reg.nil (Run.block (Run.weakT (d:=61) rfl ?_))
      refine Run.loop (α:=Nat×Nat) (fun t=>[(2,.sl tr (tru.map U8)),(3,.fp (s.v t1 t2)),(7,I C),(61,.sl .no (Q.map ordV)),(62,I Q.length),(63,I t.1)]) (fun t=>HE t.2 []) (fun t=>t.1≤Q.length) (fun t=>Q.length - t.1) (0,m0) ⟨rfl,rfl,rfl,rfl,rfl,rfl,trivial⟩ rfl (Nat.zero_le _) (fun t hk=>?_)
      obtain ⟨k,m⟩:=t
      simp only at hk
      show Run _ _ _ _ [(2,.sl tr (tru.map U8)),(3,.fp (s.v t1 t2)),(7,I C),(61,.sl .no (Q.map ordV)),(62,I Q.length),(63,I k)] [] (HE m [])
      refine Run.seq (Run.region (cx_ok _ _ _) (Reg.op rfl (Ope.lt rfl rfl ?_)))
      refine Reg.nil (Run.seq (Run.condX rfl (fun hc=>?_) fun hc=>?_))
      ·refine Run.skip (Run.seq (Run.block (Run.seq (Run.region (cx_ok _ _ _) (Reg.op rfl (Ope.mov rfl ?_))))))
       refine Reg.op rfl (Ope.idxM (m:=k) (f:=ordV) rfl rfl rfl (by omega) (fun _=>rfl) ?_)
       refine Reg.op rfl (Ope.load rfl rfl ?_)
       refine Reg.op rfl (Ope.asg rfl ?_)
       refine Reg.op rfl (Ope.asg rfl ?_)
       refine Reg.nil (Run.seq ?_)
       have hkl:k < Q.length:=by omega
       obtain ⟨hq1,hq2,hq3⟩:=hQ k hkl
       generalize hqk:Q[k]=x at *
       obtain ⟨tq,o⟩:=x
       simp only at hq1 hq2 hq3
       have hti:=timesV h1 h2 hv hs hq1 hq2
       obtain ⟨J,R,g,hch,hgc⟩:=checkV h1 h2 hv hs hq1 hq2
       have hbo:PV.bds 0 [s.v t1 t2,.sl tq (o.map N)]=true:=bd_ord s h1 h2 tq hq1 o
       have hwl:(s.alg Shp.p0 o).length=o.length:=alg_len _ _ _
       have hol:=hq2.len
       have hGI:GI s (s.alg Shp.p0 o) J R 0 g:=by
         rcases hgc with ⟨a,_,b⟩ | ⟨a,_,b⟩
         · exact .inl ⟨a,b⟩
         · exact .inr (.inl ⟨a,b,fun k _ h=>absurd h (Nat.not_lt_zero _)⟩)
       have hg04:g=4∨g=0:=by rcases hgc with h | h<;>omega
       have hg1:k=1→g=4:=fun h=>by
         rcases hgc with h' | h'
         · exact h'.1
         · rw [(hq3 h).1] at h';cases h'.2.1
       have hC1:k=1→C=s.cst Shp.p0 o:=fun h=>(hq3 h).2
       have hae:∀ i (hi:i < o.length) (hi':i < (s.alg Shp.p0 o).length),(s.alg Shp.p0 o)[i]=s.wrk (s.past Shp.p0 (o.take i)) o[i]:=fun i hi hi'=>alg_at s o Shp.p0 i hi hi'
       clear hgc hq3
       generalize s.alg Shp.p0 o=ws at *
       refine Run.region (cx_ok _ _ _) (Reg.op rfl (Ope.load rfl rfl ?_))
       refine Reg.op rfl (Ope.mov rfl ?_)
       refine Reg.op rfl (Ope.cf rfl rfl hti hbo ?_)
       refine Reg.op rfl (Ope.mov rfl ?_)
       refine Reg.op rfl (Ope.ext rfl rfl ?_)
       refine Reg.op rfl (Ope.ext rfl rfl ?_)
       refine Reg.op rfl (Ope.asg rfl ?_)
       refine Reg.op rfl (Ope.asg rfl ?_)
       refine Reg.nil (Run.seq (Run.region (cx_ok _ _ _) (Reg.op rfl (Ope.load rfl rfl ?_))))
       refine Reg.op rfl (Ope.mov rfl ?_)
       refine Reg.op rfl (Ope.cf rfl rfl hch hbo ?_)
       refine Reg.op rfl (Ope.mov rfl ?_)
       refine Reg.op rfl (Ope.ext rfl rfl ?_)
       refine Reg.op rfl (Ope.ext rfl rfl ?_)
       refine Reg.op rfl (Ope.ext rfl rfl ?_)
       refine Reg.op rfl (Ope.asg rfl ?_)
       refine Reg.op rfl (Ope.asg rfl ?_)
       refine Reg.op rfl (Ope.asg rfl ?_)
       refine Reg.nil (Run.seq (Run.seq (Run.cut (fun e' d' h'=>Lsub [(2,.sl tr (tru.map U8)),(3,.fp (s.v t1 t2)),(7,I C),(61,.sl .no (Q.map ordV)),(62,I Q.length),(63,I k),(11,I k),(12,.sl tq (o.map N)),(13,.sl .no (ws.map Wrk.sp)),(15,I J),(16,I R),(17,I g),(106,B false)] e'∧d'=[]∧h'=HE m []) ?_ ?_)))
       ·refine Run.region (cx_ok _ _ _) (Reg.op rfl (Ope.mov rfl ?_))
        refine Reg.op rfl (Ope.ne rfl rfl ?_)
        refine Reg.op rfl (Ope.mov rfl ?_)
        refine Reg.splitX rfl rfl (fun hg=>?_) fun hg=>?_
        ·refine Reg.off rfl rfl rfl (Reg.off rfl rfl rfl (Reg.off rfl rfl rfl (Reg.off rfl rfl rfl (Reg.off rfl rfl rfl (Reg.off rfl rfl rfl (Reg.op rfl (Ope.pickT rfl rfl ?_)))))))
         refine Reg.op rfl (Ope.mov rfl ?_)
         refine Reg.off rfl rfl rfl (Reg.off rfl rfl rfl (Reg.off rfl rfl rfl (Reg.past rfl rfl rfl (Reg.past rfl rfl rfl (Reg.off rfl rfl rfl (Reg.op rfl (Ope.pickT rfl rfl ?_)))))))
         refine Reg.op rfl (Ope.mov rfl ?_)
         refine Reg.off rfl rfl rfl (Reg.off rfl rfl rfl (Reg.off rfl rfl rfl (Reg.past rfl rfl rfl (Reg.past rfl rfl rfl (Reg.off rfl rfl rfl (Reg.op rfl (Ope.pickT rfl rfl ?_)))))))
         refine Reg.nil ?_
         first | exact Run.lend ⟨⟨rfl,rfl,rfl,rfl,rfl,rfl,rfl,rfl,rfl,rfl,rfl,rfl,rfl,trivial⟩,rfl,rfl⟩ | exact Run.lend ⟨⟨rfl,rfl,rfl,rfl,rfl,rfl,rfl,rfl,rfl,rfl,rfl,rfl,congrArg (fun b=>some (B b)) (decide_eq_false (by omega)),trivial⟩,rfl,rfl⟩ | (exfalso;omega)
        ·refine Reg.on rfl rfl rfl (Ope.mov rfl ?_)
         refine Reg.on rfl rfl rfl (Ope.len (m:=o.length) rfl (by rw [List.length_map,hwl]) ?_)
         refine Reg.on rfl rfl rfl (Ope.fld rfl rfl ?_)
         refine Reg.on rfl rfl rfl (Ope.load rfl rfl ?_)
         refine Reg.on rfl rfl rfl (Ope.len (m:=s.jo.length) rfl (by simp) ?_)
         refine Reg.on rfl rfl rfl (Ope.ne rfl rfl ?_)
         refine Reg.op rfl (Ope.pickF rfl rfl ?_)
         refine Reg.op rfl (Ope.mov rfl ?_)
         refine Reg.splitX rfl rfl (fun hg=>?_) fun hg=>?_
         ·refine Reg.off rfl rfl rfl (Reg.off rfl rfl rfl (Reg.off rfl rfl rfl (Reg.past rfl rfl rfl (Reg.past rfl rfl rfl (Reg.off rfl rfl rfl (Reg.op rfl (Ope.pickT rfl rfl ?_)))))))
          refine Reg.op rfl (Ope.mov rfl ?_)
          refine Reg.off rfl rfl rfl (Reg.off rfl rfl rfl (Reg.off rfl rfl rfl (Reg.past rfl rfl rfl (Reg.past rfl rfl rfl (Reg.off rfl rfl rfl (Reg.op rfl (Ope.pickT rfl rfl ?_)))))))
          refine Reg.nil ?_
          first | exact Run.lend ⟨⟨rfl,rfl,rfl,rfl,rfl,rfl,rfl,rfl,rfl,rfl,rfl,rfl,rfl,trivial⟩,rfl,rfl⟩ | exact Run.lend ⟨⟨rfl,rfl,rfl,rfl,rfl,rfl,rfl,rfl,rfl,rfl,rfl,rfl,congrArg (fun b=>some (B b)) (decide_eq_false (by omega)),trivial⟩,rfl,rfl⟩ | (exfalso;omega)
         ·refine Reg.on rfl rfl rfl (Ope.mov rfl ?_)
          refine Reg.on rfl rfl rfl (Ope.ne rfl rfl ?_)
          refine Reg.on rfl rfl rfl (Ope.mov rfl ?_)
          refine Reg.splitX rfl rfl (fun hg=>?_) fun hg=>?_
          ·refine Reg.on rfl rfl rfl (Ope.mov rfl ?_)
           refine Reg.on rfl rfl rfl (Ope.ne rfl rfl ?_)
           refine Reg.on rfl rfl rfl (Ope.pickT rfl rfl ?_)
           refine Reg.op rfl (Ope.pickF rfl rfl ?_)
           refine Reg.op rfl (Ope.mov rfl ?_)
           refine Reg.splitX rfl rfl (fun hg=>?_) fun hg=>?_
           ·refine Reg.off rfl rfl rfl (Reg.off rfl rfl rfl (Reg.off rfl rfl rfl (Reg.past rfl rfl rfl (Reg.past rfl rfl rfl (Reg.off rfl rfl rfl (Reg.op rfl (Ope.pickT rfl rfl ?_)))))))
            refine Reg.nil ?_
            first | exact Run.lend ⟨⟨rfl,rfl,rfl,rfl,rfl,rfl,rfl,rfl,rfl,rfl,rfl,rfl,rfl,trivial⟩,rfl,rfl⟩ | exact Run.lend ⟨⟨rfl,rfl,rfl,rfl,rfl,rfl,rfl,rfl,rfl,rfl,rfl,rfl,congrArg (fun b=>some (B b)) (decide_eq_false (by omega)),trivial⟩,rfl,rfl⟩ | (exfalso;omega)
           ·refine Reg.on rfl rfl rfl (Ope.mov rfl ?_)
            refine Reg.on rfl rfl rfl (Ope.eq rfl rfl ?_)
            refine Reg.on rfl rfl rfl (Ope.mov rfl ?_)
            refine Reg.splitX rfl rfl (fun hg=>?_) fun hg=>?_
            ·refine Reg.on rfl rfl rfl (Ope.mov rfl ?_)
             refine Reg.on rfl rfl rfl (Ope.ne rfl rfl ?_)
             refine Reg.on rfl rfl rfl (Ope.pickT rfl rfl ?_)
             refine Reg.op rfl (Ope.pickF rfl rfl ?_)
             refine Reg.nil ?_
             first | exact Run.lend ⟨⟨rfl,rfl,rfl,rfl,rfl,rfl,rfl,rfl,rfl,rfl,rfl,rfl,rfl,trivial⟩,rfl,rfl⟩ | exact Run.lend ⟨⟨rfl,rfl,rfl,rfl,rfl,rfl,rfl,rfl,rfl,rfl,rfl,rfl,congrArg (fun b=>some (B b)) (decide_eq_false (by omega)),trivial⟩,rfl,rfl⟩ | (exfalso;omega)
            ·refine Reg.off rfl rfl rfl (Reg.off rfl rfl rfl (Reg.on rfl rfl rfl (Ope.pickF rfl rfl ?_)))
             refine Reg.op rfl (Ope.pickF rfl rfl ?_)
             refine Reg.nil ?_
             first | exact Run.lend ⟨⟨rfl,rfl,rfl,rfl,rfl,rfl,rfl,rfl,rfl,rfl,rfl,rfl,rfl,trivial⟩,rfl,rfl⟩ | exact Run.lend ⟨⟨rfl,rfl,rfl,rfl,rfl,rfl,rfl,rfl,rfl,rfl,rfl,rfl,congrArg (fun b=>some (B b)) (decide_eq_false (by omega)),trivial⟩,rfl,rfl⟩ | (exfalso;omega)
          ·refine Reg.off rfl rfl rfl (Reg.off rfl rfl rfl (Reg.on rfl rfl rfl (Ope.pickF rfl rfl ?_)))
           refine Reg.op rfl (Ope.pickF rfl rfl ?_)
           refine Reg.op rfl (Ope.mov rfl ?_)
           refine Reg.on rfl rfl rfl (Ope.mov rfl ?_)
           refine Reg.on rfl rfl rfl (Ope.eq rfl rfl ?_)
           refine Reg.on rfl rfl rfl (Ope.mov rfl ?_)
           refine Reg.splitX rfl rfl (fun hg=>?_) fun hg=>?_
           ·refine Reg.on rfl rfl rfl (Ope.mov rfl ?_)
            refine Reg.on rfl rfl rfl (Ope.ne rfl rfl ?_)
            refine Reg.on rfl rfl rfl (Ope.pickT rfl rfl ?_)
            refine Reg.op rfl (Ope.pickF rfl rfl ?_)
            refine Reg.nil ?_
            first | exact Run.lend ⟨⟨rfl,rfl,rfl,rfl,rfl,rfl,rfl,rfl,rfl,rfl,rfl,rfl,rfl,trivial⟩,rfl,rfl⟩ | exact Run.lend ⟨⟨rfl,rfl,rfl,rfl,rfl,rfl,rfl,rfl,rfl,rfl,rfl,rfl,congrArg (fun b=>some (B b)) (decide_eq_false (by omega)),trivial⟩,rfl,rfl⟩ | (exfalso;omega)
           ·refine Reg.off rfl rfl rfl (Reg.off rfl rfl rfl (Reg.on rfl rfl rfl (Ope.pickF rfl rfl ?_)))
            refine Reg.op rfl (Ope.pickF rfl rfl ?_)
            refine Reg.nil ?_
            first | exact Run.lend ⟨⟨rfl,rfl,rfl,rfl,rfl,rfl,rfl,rfl,rfl,rfl,rfl,rfl,rfl,trivial⟩,rfl,rfl⟩ | exact Run.lend ⟨⟨rfl,rfl,rfl,rfl,rfl,rfl,rfl,rfl,rfl,rfl,rfl,rfl,congrArg (fun b=>some (B b)) (decide_eq_false (by omega)),trivial⟩,rfl,rfl⟩ | (exfalso;omega)
       ·rintro e' d' h' ⟨hsb, rfl, rfl⟩; refine Run.less hsb ?_
        refine Run.condX rfl (fun hc=>?_) fun hc=>?_
        ·cases hc
        ·refine Run.skip (Run.seq (Run.region (cx_ok _ _ _) (Reg.op rfl (Ope.asg rfl ?_))))
         refine Reg.op rfl (Ope.asg rfl ?_)
         refine Reg.op rfl (Ope.asg rfl ?_)
         refine Reg.op rfl (Ope.asg rfl ?_)
         refine Reg.nil (Run.seq (Run.seq (Run.region (cx_ok _ _ _) (Reg.op rfl (Ope.mov rfl ?_)))))
         refine Reg.op rfl (Ope.len (m:=o.length) rfl (by simp) ?_)
         refine Reg.op rfl (Ope.mov rfl ?_)
         refine Reg.nil (Run.block ?_)
         refine Run.loop (α:=Nat×Nat×Int×Int×Int) (fun t=>[(2,.sl tr (tru.map U8)),(3,.fp (s.v t1 t2)),(7,I C),(61,.sl .no (Q.map ordV)),(62,I Q.length),(63,I k),(11,I k),(13,.sl .no (ws.map Wrk.sp)),(15,I J),(16,I R),(17,I t.2.2.2.2),(18,I t.2.2.1),(19,I (s.past Shp.p0 (o.take t.1)).kd),(20,I t.2.2.2.1),(21,N (s.past Shp.p0 (o.take t.1)).J),(107,.sl tq (o.map N)),(108,I o.length),(109,I t.1)]) (fun t=>HE t.2.1 []) (fun t=>t.1≤o.length∧((s.past Shp.p0 (o.take t.1)).f0≤t.2.2.1∧t.2.2.1≤(s.past Shp.p0 (o.take t.1)).f1)∧(0≤t.2.2.2.1∧t.2.2.2.1≤s.cst Shp.p0 (o.take t.1)∧t.2.2.2.1≤50000000 * t.1)∧GI s ws J R t.1 t.2.2.2.2) (fun t=>o.length - t.1) (0,m,0,0,g) ⟨rfl,rfl,rfl,rfl,rfl,rfl,rfl,rfl,rfl,rfl,rfl,rfl,rfl,rfl,rfl,rfl,rfl,rfl,trivial⟩ rfl ⟨Nat.zero_le _,⟨Int.le_refl _,Int.le_refl _⟩,⟨Int.le_refl _,Int.le_refl _,Int.le_refl _⟩,hGI⟩ (fun t ht=>?_)
         obtain ⟨i,m,now,sm,G⟩:=t
         obtain ⟨hi,hnow,hsm,hG⟩:=ht
         simp only at hi hnow hsm hG
         show Run _ _ _ _ [(2,.sl tr (tru.map U8)),(3,.fp (s.v t1 t2)),(7,I C),(61,.sl .no (Q.map ordV)),(62,I Q.length),(63,I k),(11,I k),(13,.sl .no (ws.map Wrk.sp)),(15,I J),(16,I R),(17,I G),(18,I now),(19,I (s.past Shp.p0 (o.take i)).kd),(20,I sm),(21,N (s.past Shp.p0 (o.take i)).J),(107,.sl tq (o.map N)),(108,I o.length),(109,I i)] [] (HE m [])
         refine Run.seq (Run.region (cx_ok _ _ _) (Reg.op rfl (Ope.lt rfl rfl ?_)))
         refine Reg.nil (Run.seq (Run.condX rfl (fun hc=>?_) fun hc=>?_))
         ·refine Run.skip (Run.seq (Run.block (Run.seq (Run.region (cx_ok _ _ _) (Reg.op rfl (Ope.mov rfl ?_))))))
          refine Reg.op rfl (Ope.idxM (m:=i) (f:=N) rfl rfl rfl (by omega) (fun _=>rfl) ?_)
          refine Reg.op rfl (Ope.load rfl rfl ?_)
          refine Reg.op rfl (Ope.asg rfl ?_)
          refine Reg.op rfl (Ope.asg rfl ?_)
          refine Reg.nil (Run.seq ?_)
          have hlt:i < o.length:=by omega
          have hwi:i < ws.length:=by omega
          have hoi:o[i] < s.jo.length:=hq2.lt _ (List.getElem_mem hlt)
          refine Run.region (cx_ok _ _ _) (Reg.op rfl (Ope.fld rfl rfl ?_))
          refine Reg.op rfl (Ope.load rfl rfl ?_)
          refine Reg.op rfl (Ope.mov rfl ?_)
          refine Reg.op rfl (Ope.idxM (m:=o[i]) (f:=Job.v) rfl rfl rfl hoi (fun _=>rfl) ?_)
          refine Reg.op rfl (Ope.load rfl rfl ?_)
          refine Reg.op rfl (Ope.newL rfl ?_)
          refine Reg.op0 (Ope.store rfl rfl hget_hd rfl rfl rfl ?_)
          refine Reg.nil (Run.seq (Run.seq (Run.frz (d:=24) true rfl hget_hd rfl ?_)))
          refine Run.wide (m:=m+1) (l':=[]) (Nat.le_refl _) trivial ?_
          have hjb:s.job o[i]=s.jo[o[i]]:=Shp.job_at hoi
          have hps:s.past Shp.p0 (o.take (i+1))=s.aft (s.wrk (s.past Shp.p0 (o.take i)) o[i]):=by rw [List.take_succ_eq_append_getElem hlt,past_snoc]
          have hcs:s.cst Shp.p0 (o.take (i+1))=s.cst Shp.p0 (o.take i)+s.fin (s.wrk (s.past Shp.p0 (o.take i)) o[i]):=by rw [List.take_succ_eq_append_getElem hlt,cst_snoc]
          have hae:=hae i hlt hwi
          generalize hjj:s.jo[o[i]]=jb at *
          obtain ⟨kd,lo,hi2,fr,so,bt',co,af⟩:=jb
          obtain ⟨q,ku,A,hafq,hst⟩:=stp hs hq2 hlt hjb
          rw [← hae] at hps hcs hst
          have hwj:ws[i].j=o[i]:=by rw [hae];rfl
          generalize s.past Shp.p0 (o.take i)=p at *
          obtain ⟨kq,kl,kb,ra,rb,mi,fb,sb,cb,pb,JJ,q6,Aq,b1,b2,b0,fi,pn,n6⟩:=hst
          rw [pn] at hps
          have hd5:0≤ws[i].d1∧ws[i].d1≤6000∧0≤ws[i].d0:=by
            by_cases h:kd=p.kd
            · have:=ra h;omega
            · have:=rb h;omega
          subst hafq
          have Aq:A=((q &&& (2 ^ IntKind.i64.bits - 1 - p.J):Nat):Int):=Aq
          refine Run.less (show Lsub [(2,.sl tr (tru.map U8)),(3,.fp (s.v t1 t2)),(7,I C),(61,.sl .no (Q.map ordV)),(62,I Q.length),(63,I k),(11,I k),(13,.sl .no (ws.map Wrk.sp)),(15,I J),(16,I R),(17,I G),(18,I now),(19,I p.kd),(20,I sm),(21,N p.J),(107,.sl tq (o.map N)),(108,I o.length),(109,I i),(22,I i),(23,I o[i]),(24,.fp (.agg [I kd,I lo,I hi2,I fr,I so,I bt',I co,N q]))] _ from ⟨rfl,rfl,rfl,rfl,rfl,rfl,rfl,rfl,rfl,rfl,rfl,rfl,rfl,rfl,rfl,rfl,rfl,rfl,rfl,rfl,rfl,trivial⟩) ?_
          refine Run.region (cx_ok _ _ _) (Reg.op rfl (Ope.fld rfl rfl ?_))
          refine Reg.op rfl (Ope.load rfl rfl ?_)
          refine Reg.op rfl (Ope.mov rfl ?_)
          refine Reg.op rfl (Ope.ne rfl rfl ?_)
          refine Reg.nil (Run.cut (fun e' d' h'=>∃ nw:Int,Lsub [(2,.sl tr (tru.map U8)),(3,.fp (s.v t1 t2)),(7,I C),(61,.sl .no (Q.map ordV)),(62,I Q.length),(63,I k),(11,I k),(13,.sl .no (ws.map Wrk.sp)),(15,I J),(16,I R),(17,I G),(18,I nw),(19,I kd),(20,I sm),(21,N p.J),(107,.sl tq (o.map N)),(108,I o.length),(109,I i),(22,I i),(23,I o[i]),(24,.fp (.agg [I kd,I lo,I hi2,I fr,I so,I bt',I co,N q]))] e'∧d'=[]∧h'=HE (m+1) []∧(max nw fr+lo ≥ ws[i].d0∧max nw fr+hi2≤ws[i].d1∧0≤nw∧nw≤6000)) ?_ ?_)
          ·refine Run.condX rfl (fun hc=>?_) fun hc=>?_
           ·refine Run.draw (cx_ok _ _ _) [(0,true),(1,true),(2,true),(3,true),(4,true),(5,true),(6,true),(7,true),(8,true),(9,false),(10,true),(11,true)] (by kernel_rfl) (Dra.op' rfl rfl rfl .sure (Ope.mov rfl ?_))
            refine Dra.op' rfl rfl rfl .sure (Ope.fld rfl rfl ?_)
            refine Dra.op' rfl rfl rfl .sure (Ope.load rfl rfl ?_)
            refine Dra.op' rfl rfl rfl .sure (Ope.fld rfl rfl ?_)
            refine Dra.op' rfl rfl rfl .sure (Ope.load rfl rfl ?_)
            refine Dra.op' rfl rfl rfl .sure (Ope.idxM (m:=ku) (f:=I) rfl rfl (by rw [kq];rfl) kl (fun _=>rfl) ?_)
            refine Dra.op' rfl rfl rfl .sure (Ope.load rfl rfl ?_)
            refine Dra.op' rfl rfl rfl .sure (Ope.add rfl rfl (by have:=Shp.set_at kl;omega) ?_)
            refine Dra.op' rfl rfl rfl .sure (Ope.fld rfl rfl ?_)
            refine Dra.op' rfl rfl rfl (.load rfl) (Ope.load rfl rfl ?_)
            refine Dra.op' rfl rfl rfl .sure (Ope.asg rfl ?_)
            refine Dra.op' rfl rfl rfl .sure (Ope.asg rfl ?_)
            refine Dra.nil ?_
            first
            | exact Run.lend ⟨_,⟨rfl,rfl,rfl,rfl,rfl,rfl,rfl,rfl,rfl,rfl,rfl,rfl,rfl,rfl,rfl,rfl,rfl,rfl,rfl,rfl,rfl,trivial⟩,rfl,rfl,by have h1:=rb (by omega);have h2:=Shp.set_at kl;omega⟩
            | exact Run.lend ⟨now,⟨rfl,rfl,rfl,rfl,rfl,rfl,rfl,rfl,rfl,rfl,rfl,rfl,congrArg (fun x=>some (I x)) (by omega),rfl,rfl,rfl,rfl,rfl,rfl,rfl,rfl,trivial⟩,rfl,rfl,by have h1:=ra (by omega);omega⟩
           ·refine Run.skip ?_
            first
            | exact Run.lend ⟨_,⟨rfl,rfl,rfl,rfl,rfl,rfl,rfl,rfl,rfl,rfl,rfl,rfl,rfl,rfl,rfl,rfl,rfl,rfl,rfl,rfl,rfl,trivial⟩,rfl,rfl,by have h1:=rb (by omega);have h2:=Shp.set_at kl;omega⟩
            | exact Run.lend ⟨now,⟨rfl,rfl,rfl,rfl,rfl,rfl,rfl,rfl,rfl,rfl,rfl,rfl,congrArg (fun x=>some (I x)) (by omega),rfl,rfl,rfl,rfl,rfl,rfl,rfl,rfl,trivial⟩,rfl,rfl,by have h1:=ra (by omega);omega⟩
          ·rintro e' d' h' ⟨nw, hsb, rfl, rfl, hnw⟩; refine Run.less hsb ?_
           refine Run.seq (Run.region (cx_ok _ _ _) (Reg.op rfl (Ope.mov rfl ?_)))
           refine Reg.op rfl (Ope.fld rfl rfl ?_)
           refine Reg.op rfl (Ope.load rfl rfl ?_)
           refine Reg.op rfl (Ope.maxI rfl rfl ?_)
           refine Reg.op rfl (Ope.fld rfl rfl ?_)
           refine Reg.op rfl (Ope.fld rfl rfl ?_)
           refine Reg.op rfl (Ope.load rfl rfl ?_)
           refine Reg.op rfl (Ope.add rfl rfl (by omega) ?_)
           refine Reg.op rfl (Ope.asg rfl ?_)
           refine Reg.nil (Run.seq (Run.seq (Run.region (cx_ok _ _ _) (Reg.op rfl (Ope.mov rfl ?_)))))
           refine Reg.op rfl (Ope.len (m:=tru.length) rfl (by simp) ?_)
           refine Reg.op rfl (Ope.gt rfl rfl ?_)
           refine Reg.nil (Run.cut (fun e' d' h'=>∃ nw:Int,Lsub [(2,.sl tr (tru.map U8)),(3,.fp (s.v t1 t2)),(7,I C),(61,.sl .no (Q.map ordV)),(62,I Q.length),(63,I k),(11,I k),(13,.sl .no (ws.map Wrk.sp)),(15,I J),(16,I R),(17,I G),(18,I nw),(19,I kd),(20,I sm),(21,N p.J),(107,.sl tq (o.map N)),(108,I o.length),(109,I i),(22,I i),(23,I o[i]),(24,.fp (.agg [I kd,I lo,I hi2,I fr,I so,I bt',I co,N q]))] e'∧d'=[]∧h'=HE (m+1) []∧(ws[i].d0≤nw∧nw≤ws[i].d1)) ?_ ?_)
           ·refine Run.condX rfl (fun hc=>?_) fun hc=>?_
            ·have hlb:0 < tru.length:=by omega
             have hmz:o[i] % tru.length < tru.length:=Nat.mod_lt _ hlb
             have h256:=ht8 _ (List.getElem_mem hmz)
             refine Run.draw (cx_ok _ _ _) [(0,true),(1,true),(2,true),(3,true),(4,true),(5,true),(6,true),(7,true),(8,true),(9,true),(10,true),(11,true),(12,true),(13,true),(14,true),(15,true),(16,true),(17,true),(18,true),(19,true)] (by kernel_rfl) (Dra.op' rfl rfl rfl .sure (Ope.mov rfl ?_))
             refine Dra.op' rfl rfl rfl .sure (Ope.mov rfl ?_)
             refine Dra.op' rfl rfl rfl .sure (Ope.mov rfl ?_)
             refine Dra.op' rfl rfl rfl .sure (Ope.mov rfl ?_)
             refine Dra.op' rfl rfl rfl .sure (Ope.len (m:=tru.length) rfl (by simp) ?_)
             refine Dra.op' rfl rfl rfl .sure (Ope.remN (p:=o[i]) (q:=tru.length) rfl rfl rfl rfl hlb ?_)
             refine Dra.op' rfl rfl rfl .sure (Ope.idxM (m:=o[i] % tru.length) (f:=U8) rfl rfl rfl hmz (fun _=>rfl) ?_)
             refine Dra.op' rfl rfl rfl .sure (Ope.load rfl rfl ?_)
             refine Dra.op' rfl rfl rfl .sure (Ope.conv (b:=((tru[o[i] % tru.length]:Nat):Int)) rfl (wrap_in _ (by omega) (by omega)) ?_)
             refine Dra.op' rfl rfl rfl .sure (Ope.fld rfl rfl ?_)
             refine Dra.op' rfl rfl rfl .sure (Ope.fld rfl rfl ?_)
             refine Dra.op' rfl rfl rfl .sure (Ope.load rfl rfl ?_)
             refine Dra.op' rfl rfl rfl .sure (Ope.fld rfl rfl ?_)
             refine Dra.op' rfl rfl rfl .sure (Ope.fld rfl rfl ?_)
             refine Dra.op' rfl rfl rfl .sure (Ope.load rfl rfl ?_)
             refine Dra.op' rfl rfl rfl .sure (Ope.sub rfl rfl (by omega) ?_)
             refine Dra.op' rfl rfl rfl .sure (Ope.add rfl rfl (by omega) ?_)
             refine Dra.op' rfl rfl rfl .sure (Ope.remN (p:=tru[o[i] % tru.length]) (q:=(hi2 - lo+1).toNat) rfl rfl rfl (by omega) (by omega) ?_)
             refine Dra.op' rfl rfl rfl .sure (Ope.add rfl rfl (by have:=Nat.mod_lt tru[o[i] % tru.length] (show 0 < (hi2 - lo+1).toNat by omega);omega) ?_)
             refine Dra.op' rfl rfl rfl .sure (Ope.asg rfl ?_)
             refine Dra.nil ?_
             first
             | exact Run.lend ⟨_,⟨rfl,rfl,rfl,rfl,rfl,rfl,rfl,rfl,rfl,rfl,rfl,rfl,rfl,rfl,rfl,rfl,rfl,rfl,rfl,rfl,rfl,trivial⟩,rfl,rfl,by have:=Nat.mod_lt tru[o[i] % tru.length] (show 0 < (hi2 - lo+1).toNat by omega);omega⟩
             | exact Run.lend ⟨_,⟨rfl,rfl,rfl,rfl,rfl,rfl,rfl,rfl,rfl,rfl,rfl,rfl,rfl,rfl,rfl,rfl,rfl,rfl,rfl,rfl,rfl,trivial⟩,rfl,rfl,by omega⟩
            ·refine Run.skip ?_
             first
             | exact Run.lend ⟨_,⟨rfl,rfl,rfl,rfl,rfl,rfl,rfl,rfl,rfl,rfl,rfl,rfl,rfl,rfl,rfl,rfl,rfl,rfl,rfl,rfl,rfl,trivial⟩,rfl,rfl,by have:=Nat.mod_lt tru[o[i] % tru.length] (show 0 < (hi2 - lo+1).toNat by omega);omega⟩
             | exact Run.lend ⟨_,⟨rfl,rfl,rfl,rfl,rfl,rfl,rfl,rfl,rfl,rfl,rfl,rfl,rfl,rfl,rfl,rfl,rfl,rfl,rfl,rfl,rfl,trivial⟩,rfl,rfl,by omega⟩
           ·rintro e' d' h' ⟨nw4, hsb, rfl, rfl, hn4⟩; refine Run.less hsb ?_
            refine Run.seq (Run.seq ?_)
            have hb4:G=4→A=0∧ws[i].d1≤bt':=fun h=>by
              have h3:=flt_all (hG.four h) i hwi
              have h4:A=0:=by
                by_cases hA:A=0
                · exact hA
                · rw [b1 hA] at h3;omega
              refine ⟨h4,?_⟩
              by_cases hl:bt' < ws[i].d1
              · rw [b2 h4 hl] at h3;omega
              · omega
            refine Run.cut (fun e' d' h'=>Lsub [(2,.sl tr (tru.map U8)),(3,.fp (s.v t1 t2)),(7,I C),(61,.sl .no (Q.map ordV)),(62,I Q.length),(63,I k),(11,I k),(13,.sl .no (ws.map Wrk.sp)),(15,I J),(16,I R),(17,I G),(18,I nw4),(19,I kd),(20,I sm),(21,N p.J),(107,.sl tq (o.map N)),(108,I o.length),(109,I i),(22,I i),(23,I o[i]),(24,.fp (.agg [I kd,I lo,I hi2,I fr,I so,I bt',I co,N q])),(195,B false)] e'∧d'=[]∧h'=HE (m+1) []) ?_ ?_
            ·refine Run.region (cx_ok _ _ _) (Reg.op rfl (Ope.mov rfl ?_))
             refine Reg.op rfl (Ope.mov rfl ?_)
             refine Reg.op rfl (Ope.mov rfl ?_)
             refine Reg.op rfl (Ope.idxM (m:=i) (f:=Wrk.sp) rfl rfl rfl hwi (fun _=>rfl) ?_)
             refine Reg.op rfl (Ope.fld rfl rfl ?_)
             refine Reg.op rfl (Ope.load rfl rfl ?_)
             refine Reg.op rfl (Ope.lt rfl rfl ?_)
             refine Reg.op rfl (Ope.mov rfl ?_)
             refine Reg.splitX rfl rfl (fun hg=>?_) fun hg=>?_
             ·refine Reg.off rfl rfl rfl (Reg.off rfl rfl rfl (Reg.off rfl rfl rfl (Reg.off rfl rfl rfl (Reg.off rfl rfl rfl (Reg.off rfl rfl rfl (Reg.off rfl rfl rfl (Reg.op rfl (Ope.pickT rfl rfl ?_))))))))
              refine Reg.op rfl (Ope.mov rfl ?_)
              refine Reg.off rfl rfl rfl (Reg.off rfl rfl rfl (Reg.off rfl rfl rfl (Reg.past rfl rfl rfl (Reg.past rfl rfl rfl (Reg.past rfl rfl rfl (Reg.past rfl rfl rfl (Reg.past rfl rfl rfl (Reg.past rfl rfl rfl (Reg.past rfl rfl rfl (Reg.past rfl rfl rfl (Reg.past rfl rfl rfl (Reg.past rfl rfl rfl (Reg.past rfl rfl rfl (Reg.off rfl rfl rfl (Reg.op rfl (Ope.pickT rfl rfl ?_))))))))))))))))
              refine Reg.nil ?_
              first | exact Run.lend ⟨⟨rfl,rfl,rfl,rfl,rfl,rfl,rfl,rfl,rfl,rfl,rfl,rfl,rfl,rfl,rfl,rfl,rfl,rfl,rfl,rfl,rfl,rfl,trivial⟩,rfl,rfl⟩ | exact Run.lend ⟨⟨rfl,rfl,rfl,rfl,rfl,rfl,rfl,rfl,rfl,rfl,rfl,rfl,rfl,rfl,rfl,rfl,rfl,rfl,rfl,rfl,rfl,congrArg (fun b=>some (B b)) (decide_eq_false (by omega)),trivial⟩,rfl,rfl⟩ | (exfalso;omega)
             ·refine Reg.on rfl rfl rfl (Ope.mov rfl ?_)
              refine Reg.on rfl rfl rfl (Ope.mov rfl ?_)
              refine Reg.on rfl rfl rfl (Ope.mov rfl ?_)
              refine Reg.on rfl rfl rfl (Ope.idxM (m:=i) (f:=Wrk.sp) rfl rfl rfl hwi (fun _=>rfl) ?_)
              refine Reg.on rfl rfl rfl (Ope.fld rfl rfl ?_)
              refine Reg.on rfl rfl rfl (Ope.load rfl rfl ?_)
              refine Reg.on rfl rfl rfl (Ope.gt rfl rfl ?_)
              refine Reg.op rfl (Ope.pickF rfl rfl ?_)
              refine Reg.op rfl (Ope.mov rfl ?_)
              refine Reg.splitX rfl rfl (fun hg=>?_) fun hg=>?_
              ·refine Reg.off rfl rfl rfl (Reg.off rfl rfl rfl (Reg.off rfl rfl rfl (Reg.past rfl rfl rfl (Reg.past rfl rfl rfl (Reg.past rfl rfl rfl (Reg.past rfl rfl rfl (Reg.past rfl rfl rfl (Reg.past rfl rfl rfl (Reg.past rfl rfl rfl (Reg.past rfl rfl rfl (Reg.past rfl rfl rfl (Reg.past rfl rfl rfl (Reg.past rfl rfl rfl (Reg.off rfl rfl rfl (Reg.op rfl (Ope.pickT rfl rfl ?_))))))))))))))))
               refine Reg.nil ?_
               first | exact Run.lend ⟨⟨rfl,rfl,rfl,rfl,rfl,rfl,rfl,rfl,rfl,rfl,rfl,rfl,rfl,rfl,rfl,rfl,rfl,rfl,rfl,rfl,rfl,rfl,trivial⟩,rfl,rfl⟩ | exact Run.lend ⟨⟨rfl,rfl,rfl,rfl,rfl,rfl,rfl,rfl,rfl,rfl,rfl,rfl,rfl,rfl,rfl,rfl,rfl,rfl,rfl,rfl,rfl,congrArg (fun b=>some (B b)) (decide_eq_false (by omega)),trivial⟩,rfl,rfl⟩ | (exfalso;omega)
              ·refine Reg.on rfl rfl rfl (Ope.mov rfl ?_)
               refine Reg.on rfl rfl rfl (Ope.eq rfl rfl ?_)
               refine Reg.on rfl rfl rfl (Ope.mov rfl ?_)
               refine Reg.splitX rfl rfl (fun hg=>?_) fun hg=>?_
               ·refine Reg.on rfl rfl rfl (Ope.mov rfl ?_)
                refine Reg.on rfl rfl rfl (Ope.fld rfl rfl ?_)
                refine Reg.on rfl rfl rfl (Ope.load rfl rfl ?_)
                refine Reg.on rfl rfl rfl (Ope.gt rfl rfl ?_)
                refine Reg.on rfl rfl rfl (Ope.mov rfl ?_)
                refine Reg.splitX rfl rfl (fun hg=>?_) fun hg=>?_
                ·refine Reg.off rfl rfl rfl (Reg.off rfl rfl rfl (Reg.off rfl rfl rfl (Reg.off rfl rfl rfl (Reg.off rfl rfl rfl (Reg.on rfl rfl rfl (Ope.pickT rfl rfl ?_))))))
                 refine Reg.on rfl rfl rfl (Ope.pickT rfl rfl ?_)
                 refine Reg.op rfl (Ope.pickF rfl rfl ?_)
                 refine Reg.nil ?_
                 first | exact Run.lend ⟨⟨rfl,rfl,rfl,rfl,rfl,rfl,rfl,rfl,rfl,rfl,rfl,rfl,rfl,rfl,rfl,rfl,rfl,rfl,rfl,rfl,rfl,rfl,trivial⟩,rfl,rfl⟩ | exact Run.lend ⟨⟨rfl,rfl,rfl,rfl,rfl,rfl,rfl,rfl,rfl,rfl,rfl,rfl,rfl,rfl,rfl,rfl,rfl,rfl,rfl,rfl,rfl,congrArg (fun b=>some (B b)) (decide_eq_false (by omega)),trivial⟩,rfl,rfl⟩ | (exfalso;omega)
                ·refine Reg.on rfl rfl rfl (Ope.fld rfl rfl ?_)
                 refine Reg.on rfl rfl rfl (Ope.load rfl rfl ?_)
                 refine Reg.on rfl rfl rfl (Ope.mov rfl ?_)
                 refine Reg.on rfl rfl rfl (Ope.andNotN (p:=q) (q:=p.J) rfl rfl rfl rfl (by show _ < 2 ^ 63;omega) (by show _ < 2 ^ 63;omega) ?_)
                 refine Reg.on rfl rfl rfl (Ope.ne rfl rfl ?_)
                 refine Reg.on rfl rfl rfl (Ope.pickF rfl rfl ?_)
                 refine Reg.on rfl rfl rfl (Ope.pickT rfl rfl ?_)
                 refine Reg.op rfl (Ope.pickF rfl rfl ?_)
                 refine Reg.nil ?_
                 first | exact Run.lend ⟨⟨rfl,rfl,rfl,rfl,rfl,rfl,rfl,rfl,rfl,rfl,rfl,rfl,rfl,rfl,rfl,rfl,rfl,rfl,rfl,rfl,rfl,rfl,trivial⟩,rfl,rfl⟩ | exact Run.lend ⟨⟨rfl,rfl,rfl,rfl,rfl,rfl,rfl,rfl,rfl,rfl,rfl,rfl,rfl,rfl,rfl,rfl,rfl,rfl,rfl,rfl,rfl,congrArg (fun b=>some (B b)) (decide_eq_false (by omega)),trivial⟩,rfl,rfl⟩ | (exfalso;omega)
               ·refine Reg.off rfl rfl rfl (Reg.off rfl rfl rfl (Reg.off rfl rfl rfl (Reg.off rfl rfl rfl (Reg.off rfl rfl rfl (Reg.past rfl rfl rfl (Reg.past rfl rfl rfl (Reg.past rfl rfl rfl (Reg.past rfl rfl rfl (Reg.past rfl rfl rfl (Reg.off rfl rfl rfl (Reg.on rfl rfl rfl (Ope.pickF rfl rfl ?_))))))))))))
                refine Reg.op rfl (Ope.pickF rfl rfl ?_)
                refine Reg.nil ?_
                first | exact Run.lend ⟨⟨rfl,rfl,rfl,rfl,rfl,rfl,rfl,rfl,rfl,rfl,rfl,rfl,rfl,rfl,rfl,rfl,rfl,rfl,rfl,rfl,rfl,rfl,trivial⟩,rfl,rfl⟩ | exact Run.lend ⟨⟨rfl,rfl,rfl,rfl,rfl,rfl,rfl,rfl,rfl,rfl,rfl,rfl,rfl,rfl,rfl,rfl,rfl,rfl,rfl,rfl,rfl,congrArg (fun b=>some (B b)) (decide_eq_false (by omega)),trivial⟩,rfl,rfl⟩ | (exfalso;omega)
            ·rintro e' d' h' ⟨hsb, rfl, rfl⟩; refine Run.less hsb ?_
             refine Run.condX rfl (fun hc=>?_) fun hc=>?_
             ·cases hc
             ·refine Run.skip (Run.seq (Run.cut (fun e' d' h' => Lsub [(2, .sl tr (tru.map U8)), (3, .fp (s.v t1 t2)), (7, I C), (61, .sl .no (Q.map ordV)), (62, I Q.length), (63, I k), (11, I k), (13, .sl .no (ws.map Wrk.sp)), (15, I J), (16, I R), (17, I G), (18, I nw4), (19, I kd), (20, I sm), (21, N p.J), (107, .sl tq (o.map N)), (108, I o.length), (109, I i), (22, I i), (23, I o[i]), (24, .fp (.agg [I kd, I lo, I hi2, I fr, I so, I bt', I co, N q])), (25, B (decide (A ≠ 0 ∨ bt' < ws[i].d1)))] e' ∧ d' = [] ∧ h' = HE (m + 1) []) ?_ ?_))
              ·refine Run.draw (cx_ok _ _ _) [(0,true),(1,true),(2,true),(3,true),(4,true),(5,true),(6,true),(7,true),(8,true),(9,true),(10,true),(11,true),(12,true),(13,true),(14,true),(15,true)] (by kernel_rfl) (Dra.op' rfl rfl rfl .sure (Ope.fld rfl rfl ?_))
               refine Dra.op' rfl rfl rfl .sure (Ope.load rfl rfl ?_)
               refine Dra.op' rfl rfl rfl .sure (Ope.mov rfl ?_)
               refine Dra.op' rfl rfl rfl .sure (Ope.andNotN (p:=q) (q:=p.J) rfl rfl rfl rfl (by show _ < 2 ^ 63;omega) (by show _ < 2 ^ 63;omega) ?_)
               refine Dra.op' rfl rfl rfl .sure (Ope.ne rfl rfl ?_)
               refine Dra.op' rfl rfl rfl .sure (Ope.mov rfl ?_)
               refine Dra.splitX rfl rfl rfl rfl (fun hg=>?_) fun hg=>?_
               ·refine Dra.off' rfl rfl rfl (.inl rfl) rfl (Dra.off' rfl rfl rfl (.inl rfl) rfl (Dra.off' rfl rfl rfl (.inl rfl) rfl (Dra.off' rfl rfl rfl (.inl rfl) rfl (Dra.off' rfl rfl rfl (.inl rfl) rfl (Dra.off' rfl rfl rfl (.inl rfl) rfl (Dra.off' rfl rfl rfl (.inl rfl) rfl (Dra.off' rfl rfl rfl (.inl rfl) rfl (Dra.op' rfl rfl rfl .sure (Ope.pickT rfl rfl ?_)))))))))
                refine Dra.op' rfl rfl rfl .sure (Ope.asg rfl ?_)
                refine Dra.nil ?_
                first
                | exact Run.lend ⟨⟨rfl,rfl,rfl,rfl,rfl,rfl,rfl,rfl,rfl,rfl,rfl,rfl,rfl,rfl,rfl,rfl,rfl,rfl,rfl,rfl,rfl,congrArg (fun b=>some (B b)) (decide_eq_true (Or.inl (by omega))).symm,trivial⟩,rfl,rfl⟩
                | exact Run.lend ⟨⟨rfl,rfl,rfl,rfl,rfl,rfl,rfl,rfl,rfl,rfl,rfl,rfl,rfl,rfl,rfl,rfl,rfl,rfl,rfl,rfl,rfl,congrArg (fun b=>some (B b)) (decide_eq_decide.2 (by show bt' < ws[i].d1↔_;omega)),trivial⟩,rfl,rfl⟩
               ·refine Dra.on' rfl rfl rfl rfl rfl .sure (Ope.mov rfl ?_)
                refine Dra.on' rfl rfl rfl rfl rfl .sure (Ope.mov rfl ?_)
                refine Dra.on' rfl rfl rfl rfl rfl .sure (Ope.idxM (m:=i) (f:=Wrk.sp) rfl rfl rfl hwi (fun _=>rfl) ?_)
                refine Dra.on' rfl rfl rfl rfl rfl .sure (Ope.fld rfl rfl ?_)
                refine Dra.on' rfl rfl rfl rfl rfl .sure (Ope.load rfl rfl ?_)
                refine Dra.on' rfl rfl rfl rfl rfl .sure (Ope.fld rfl rfl ?_)
                refine Dra.on' rfl rfl rfl rfl rfl .sure (Ope.load rfl rfl ?_)
                refine Dra.on' rfl rfl rfl rfl rfl .sure (Ope.gt rfl rfl ?_)
                refine Dra.op' rfl rfl rfl .sure (Ope.pickF rfl rfl ?_)
                refine Dra.op' rfl rfl rfl .sure (Ope.asg rfl ?_)
                refine Dra.nil ?_
                first
                | exact Run.lend ⟨⟨rfl,rfl,rfl,rfl,rfl,rfl,rfl,rfl,rfl,rfl,rfl,rfl,rfl,rfl,rfl,rfl,rfl,rfl,rfl,rfl,rfl,congrArg (fun b=>some (B b)) (decide_eq_true (Or.inl (by omega))).symm,trivial⟩,rfl,rfl⟩
                | exact Run.lend ⟨⟨rfl,rfl,rfl,rfl,rfl,rfl,rfl,rfl,rfl,rfl,rfl,rfl,rfl,rfl,rfl,rfl,rfl,rfl,rfl,rfl,rfl,congrArg (fun b=>some (B b)) (decide_eq_decide.2 (by show bt' < ws[i].d1↔_;omega)),trivial⟩,rfl,rfl⟩
              ·rintro e' d' h' ⟨hsb, rfl, rfl⟩; refine Run.less hsb ?_
               refine Run.seq (Run.seq (Run.cut (fun e' d' h'=>Lsub [(2,.sl tr (tru.map U8)),(3,.fp (s.v t1 t2)),(7,I C),(61,.sl .no (Q.map ordV)),(62,I Q.length),(63,I k),(11,I k),(13,.sl .no (ws.map Wrk.sp)),(15,I J),(16,I R),(17,I G),(18,I nw4),(19,I kd),(20,I sm),(21,N p.J),(107,.sl tq (o.map N)),(108,I o.length),(109,I i),(22,I i),(23,I o[i]),(24,.fp (.agg [I kd,I lo,I hi2,I fr,I so,I bt',I co,N q])),(25,B (decide (A≠0∨bt' < ws[i].d1))),(215,B (decide (G=0∧(A≠0∨bt' < ws[i].d1))))] e'∧d'=[]∧h'=HE (m+1) []) ?_ ?_))
               ·refine Run.region (cx_ok _ _ _) (Reg.op rfl (Ope.mov rfl ?_))
                refine Reg.op rfl (Ope.eq rfl rfl ?_)
                refine Reg.op rfl (Ope.mov rfl ?_)
                refine Reg.splitX rfl rfl (fun hg=>?_) fun hg=>?_
                ·refine Reg.on rfl rfl rfl (Ope.mov rfl ?_)
                 refine Reg.op rfl (Ope.pickT rfl rfl ?_)
                 refine Reg.nil ?_
                 first
                 | exact Run.lend ⟨⟨rfl,rfl,rfl,rfl,rfl,rfl,rfl,rfl,rfl,rfl,rfl,rfl,rfl,rfl,rfl,rfl,rfl,rfl,rfl,rfl,rfl,rfl,congrArg (fun b=>some (B b)) (decide_eq_decide.2 (by omega)),trivial⟩,rfl,rfl⟩
                 | exact Run.lend ⟨⟨rfl,rfl,rfl,rfl,rfl,rfl,rfl,rfl,rfl,rfl,rfl,rfl,rfl,rfl,rfl,rfl,rfl,rfl,rfl,rfl,rfl,rfl,congrArg (fun b=>some (B b)) (decide_eq_false (by omega)).symm,trivial⟩,rfl,rfl⟩
                ·refine Reg.off rfl rfl rfl (Reg.op rfl (Ope.pickF rfl rfl ?_))
                 refine Reg.nil ?_
                 first
                 | exact Run.lend ⟨⟨rfl,rfl,rfl,rfl,rfl,rfl,rfl,rfl,rfl,rfl,rfl,rfl,rfl,rfl,rfl,rfl,rfl,rfl,rfl,rfl,rfl,rfl,congrArg (fun b=>some (B b)) (decide_eq_decide.2 (by omega)),trivial⟩,rfl,rfl⟩
                 | exact Run.lend ⟨⟨rfl,rfl,rfl,rfl,rfl,rfl,rfl,rfl,rfl,rfl,rfl,rfl,rfl,rfl,rfl,rfl,rfl,rfl,rfl,rfl,rfl,rfl,congrArg (fun b=>some (B b)) (decide_eq_false (by omega)).symm,trivial⟩,rfl,rfl⟩
               ·rintro e' d' h' ⟨hsb,rfl,rfl⟩;refine Run.less hsb ?_
                refine Run.cut (fun e' d' h'=>∃ G':Int,Lsub [(2,.sl tr (tru.map U8)),(3,.fp (s.v t1 t2)),(7,I C),(61,.sl .no (Q.map ordV)),(62,I Q.length),(63,I k),(11,I k),(13,.sl .no (ws.map Wrk.sp)),(15,I J),(16,I R),(17,I G'),(18,I nw4),(19,I kd),(20,I sm),(21,N p.J),(107,.sl tq (o.map N)),(108,I o.length),(109,I i),(22,I i),(23,I o[i]),(24,.fp (.agg [I kd,I lo,I hi2,I fr,I so,I bt',I co,N q]))] e'∧d'=[]∧h'=HE (m+1) []∧GI s ws J R (i+1) G') ?_ ?_
                ·refine Run.condX rfl (fun hc=>?_) fun hc=>?_
                 ·refine Run.seq (Run.seq ?_)
                  have hbad:s.bad ws[i]≠0:=by
                    by_cases hA:A=0
                    · rw [b2 hA (by omega)];decide
                    · rw [b1 hA];decide
                  obtain ⟨eJ,eR,hG11⟩:=hG.found hc.1 hwi hbad
                  rw [hwj] at eJ
                  have eR12:R=1∨R=2:=by
                    by_cases hA:A=0
                    · rw [eR,b2 hA (by omega)];omega
                    · rw [eR,b1 hA];omega
                  have eRA:R=1↔A≠0:=by
                    by_cases hA:A=0
                    · rw [eR,b2 hA (by omega)];omega
                    · rw [eR,b1 hA];omega
                  refine Run.cut (fun e' d' h'=>Lsub [(2,.sl tr (tru.map U8)),(3,.fp (s.v t1 t2)),(7,I C),(61,.sl .no (Q.map ordV)),(62,I Q.length),(63,I k),(11,I k),(13,.sl .no (ws.map Wrk.sp)),(15,I J),(16,I R),(17,I G),(18,I nw4),(19,I kd),(20,I sm),(21,N p.J),(107,.sl tq (o.map N)),(108,I o.length),(109,I i),(22,I i),(23,I o[i]),(24,.fp (.agg [I kd,I lo,I hi2,I fr,I so,I bt',I co,N q])),(236,B false)] e'∧d'=[]∧h'=HE (m+1) []) ?_ ?_
                  ·refine Run.region (cx_ok _ _ _) (Reg.op rfl (Ope.mov rfl ?_))
                   refine Reg.op rfl (Ope.mov rfl ?_)
                   refine Reg.op rfl (Ope.ne rfl rfl ?_)
                   refine Reg.op rfl (Ope.mov rfl ?_)
                   refine Reg.splitX rfl rfl (fun hg=>?_) fun hg=>?_
                   ·refine Reg.off rfl rfl rfl (Reg.off rfl rfl rfl (Reg.off rfl rfl rfl (Reg.past rfl rfl rfl (Reg.past rfl rfl rfl (Reg.off rfl rfl rfl (Reg.op rfl (Ope.pickT rfl rfl ?_)))))))
                    refine Reg.op rfl (Ope.mov rfl ?_)
                    refine Reg.off rfl rfl rfl (Reg.off rfl rfl rfl (Reg.off rfl rfl rfl (Reg.off rfl rfl rfl (Reg.off rfl rfl rfl (Reg.off rfl rfl rfl (Reg.off rfl rfl rfl (Reg.off rfl rfl rfl (Reg.op rfl (Ope.pickT rfl rfl ?_)))))))))
                    refine Reg.nil ?_
                    first | exact Run.lend ⟨⟨rfl,rfl,rfl,rfl,rfl,rfl,rfl,rfl,rfl,rfl,rfl,rfl,rfl,rfl,rfl,rfl,rfl,rfl,rfl,rfl,rfl,rfl,trivial⟩,rfl,rfl⟩ | exact Run.lend ⟨⟨rfl,rfl,rfl,rfl,rfl,rfl,rfl,rfl,rfl,rfl,rfl,rfl,rfl,rfl,rfl,rfl,rfl,rfl,rfl,rfl,rfl,congrArg (fun b=>some (B b)) (decide_eq_false (by omega)),trivial⟩,rfl,rfl⟩ | (exfalso;omega)
                   ·refine Reg.on rfl rfl rfl (Ope.mov rfl ?_)
                    refine Reg.on rfl rfl rfl (Ope.ne rfl rfl ?_)
                    refine Reg.on rfl rfl rfl (Ope.mov rfl ?_)
                    refine Reg.splitX rfl rfl (fun hg=>?_) fun hg=>?_
                    ·refine Reg.on rfl rfl rfl (Ope.mov rfl ?_)
                     refine Reg.on rfl rfl rfl (Ope.ne rfl rfl ?_)
                     refine Reg.on rfl rfl rfl (Ope.pickT rfl rfl ?_)
                     refine Reg.op rfl (Ope.pickF rfl rfl ?_)
                     refine Reg.op rfl (Ope.mov rfl ?_)
                     refine Reg.splitX rfl rfl (fun hg=>?_) fun hg=>?_
                     ·refine Reg.off rfl rfl rfl (Reg.off rfl rfl rfl (Reg.off rfl rfl rfl (Reg.off rfl rfl rfl (Reg.off rfl rfl rfl (Reg.off rfl rfl rfl (Reg.off rfl rfl rfl (Reg.off rfl rfl rfl (Reg.op rfl (Ope.pickT rfl rfl ?_)))))))))
                      refine Reg.nil ?_
                      first | exact Run.lend ⟨⟨rfl,rfl,rfl,rfl,rfl,rfl,rfl,rfl,rfl,rfl,rfl,rfl,rfl,rfl,rfl,rfl,rfl,rfl,rfl,rfl,rfl,rfl,trivial⟩,rfl,rfl⟩ | exact Run.lend ⟨⟨rfl,rfl,rfl,rfl,rfl,rfl,rfl,rfl,rfl,rfl,rfl,rfl,rfl,rfl,rfl,rfl,rfl,rfl,rfl,rfl,rfl,congrArg (fun b=>some (B b)) (decide_eq_false (by omega)),trivial⟩,rfl,rfl⟩ | (exfalso;omega)
                     ·refine Reg.on rfl rfl rfl (Ope.mov rfl ?_)
                      refine Reg.on rfl rfl rfl (Ope.eq rfl rfl ?_)
                      refine Reg.on rfl rfl rfl (Ope.fld rfl rfl ?_)
                      refine Reg.on rfl rfl rfl (Ope.load rfl rfl ?_)
                      refine Reg.on rfl rfl rfl (Ope.mov rfl ?_)
                      refine Reg.on rfl rfl rfl (Ope.andNotN (p:=q) (q:=p.J) rfl rfl rfl rfl (by show _ < 2 ^ 63;omega) (by show _ < 2 ^ 63;omega) ?_)
                      refine Reg.on rfl rfl rfl (Ope.ne rfl rfl ?_)
                      refine Reg.on rfl rfl rfl (Ope.neV (b:=false) rfl rfl (neB _ _ _ _ (by first | exact decide_eq_decide.2 (by omega) | exact (decide_eq_true (by omega)).symm | exact (decide_eq_false (by omega)).symm)) ?_)
                      refine Reg.op rfl (Ope.pickF rfl rfl ?_)
                      refine Reg.nil ?_
                      first | exact Run.lend ⟨⟨rfl,rfl,rfl,rfl,rfl,rfl,rfl,rfl,rfl,rfl,rfl,rfl,rfl,rfl,rfl,rfl,rfl,rfl,rfl,rfl,rfl,rfl,trivial⟩,rfl,rfl⟩ | exact Run.lend ⟨⟨rfl,rfl,rfl,rfl,rfl,rfl,rfl,rfl,rfl,rfl,rfl,rfl,rfl,rfl,rfl,rfl,rfl,rfl,rfl,rfl,rfl,congrArg (fun b=>some (B b)) (decide_eq_false (by omega)),trivial⟩,rfl,rfl⟩ | (exfalso;omega)
                    ·refine Reg.off rfl rfl rfl (Reg.off rfl rfl rfl (Reg.on rfl rfl rfl (Ope.pickF rfl rfl ?_)))
                     refine Reg.op rfl (Ope.pickF rfl rfl ?_)
                     refine Reg.op rfl (Ope.mov rfl ?_)
                     refine Reg.on rfl rfl rfl (Ope.mov rfl ?_)
                     refine Reg.on rfl rfl rfl (Ope.eq rfl rfl ?_)
                     refine Reg.on rfl rfl rfl (Ope.fld rfl rfl ?_)
                     refine Reg.on rfl rfl rfl (Ope.load rfl rfl ?_)
                     refine Reg.on rfl rfl rfl (Ope.mov rfl ?_)
                     refine Reg.on rfl rfl rfl (Ope.andNotN (p:=q) (q:=p.J) rfl rfl rfl rfl (by show _ < 2 ^ 63;omega) (by show _ < 2 ^ 63;omega) ?_)
                     refine Reg.on rfl rfl rfl (Ope.ne rfl rfl ?_)
                     refine Reg.on rfl rfl rfl (Ope.neV (b:=false) rfl rfl (neB _ _ _ _ (by first | exact decide_eq_decide.2 (by omega) | exact (decide_eq_true (by omega)).symm | exact (decide_eq_false (by omega)).symm)) ?_)
                     refine Reg.op rfl (Ope.pickF rfl rfl ?_)
                     refine Reg.nil ?_
                     first | exact Run.lend ⟨⟨rfl,rfl,rfl,rfl,rfl,rfl,rfl,rfl,rfl,rfl,rfl,rfl,rfl,rfl,rfl,rfl,rfl,rfl,rfl,rfl,rfl,rfl,trivial⟩,rfl,rfl⟩ | exact Run.lend ⟨⟨rfl,rfl,rfl,rfl,rfl,rfl,rfl,rfl,rfl,rfl,rfl,rfl,rfl,rfl,rfl,rfl,rfl,rfl,rfl,rfl,rfl,congrArg (fun b=>some (B b)) (decide_eq_false (by omega)),trivial⟩,rfl,rfl⟩ | (exfalso;omega)
                  ·rintro e' d' h' ⟨hsb,rfl,rfl⟩;refine Run.less hsb ?_
                   refine Run.condX rfl (fun hc=>?_) fun hc=>?_
                   ·cases hc
                   ·refine Run.skip (Run.region (cx_ok _ _ _) (Reg.op rfl (Ope.asg rfl ?_)))
                    refine Reg.nil ?_
                    first
                    | exact Run.lend ⟨11,⟨rfl,rfl,rfl,rfl,rfl,rfl,rfl,rfl,rfl,rfl,rfl,rfl,rfl,rfl,rfl,rfl,rfl,rfl,rfl,rfl,rfl,trivial⟩,rfl,rfl,hG11⟩
                    | exact Run.lend ⟨G,⟨rfl,rfl,rfl,rfl,rfl,rfl,rfl,rfl,rfl,rfl,rfl,rfl,rfl,rfl,rfl,rfl,rfl,rfl,rfl,rfl,rfl,trivial⟩,rfl,rfl,hG.keep fun _ h=>b0 (by omega) (by omega)⟩
                 ·refine Run.seq (Run.cut (fun e' d' h'=>Lsub [(2,.sl tr (tru.map U8)),(3,.fp (s.v t1 t2)),(7,I C),(61,.sl .no (Q.map ordV)),(62,I Q.length),(63,I k),(11,I k),(13,.sl .no (ws.map Wrk.sp)),(15,I J),(16,I R),(17,I G),(18,I nw4),(19,I kd),(20,I sm),(21,N p.J),(107,.sl tq (o.map N)),(108,I o.length),(109,I i),(22,I i),(23,I o[i]),(24,.fp (.agg [I kd,I lo,I hi2,I fr,I so,I bt',I co,N q])),(241,B false)] e'∧d'=[]∧h'=HE (m+1) []) ?_ ?_)
                  ·refine Run.region (cx_ok _ _ _) (Reg.op rfl (Ope.mov rfl ?_))
                   refine Reg.op rfl (Ope.eq rfl rfl ?_)
                   refine Reg.op rfl (Ope.mov rfl ?_)
                   refine Reg.splitX rfl rfl (fun hg=>?_) fun hg=>?_
                   ·refine Reg.on rfl rfl rfl (Ope.mov rfl ?_)
                    refine Reg.op rfl (Ope.pickT rfl rfl ?_)
                    refine Reg.nil ?_
                    first
                    | exact Run.lend ⟨⟨rfl,rfl,rfl,rfl,rfl,rfl,rfl,rfl,rfl,rfl,rfl,rfl,rfl,rfl,rfl,rfl,rfl,rfl,rfl,rfl,rfl,rfl,trivial⟩,rfl,rfl⟩ | exact Run.lend ⟨⟨rfl,rfl,rfl,rfl,rfl,rfl,rfl,rfl,rfl,rfl,rfl,rfl,rfl,rfl,rfl,rfl,rfl,rfl,rfl,rfl,rfl,congrArg (fun b=>some (B b)) (decide_eq_false (by omega)),trivial⟩,rfl,rfl⟩
                    | exact Run.lend ⟨⟨rfl,rfl,rfl,rfl,rfl,rfl,rfl,rfl,rfl,rfl,rfl,rfl,rfl,rfl,rfl,rfl,rfl,rfl,rfl,rfl,rfl,congrArg (fun b=>some (B b)) (decide_eq_false (by have:=hb4 (by omega);omega)),trivial⟩,rfl,rfl⟩
                   ·refine Reg.off rfl rfl rfl (Reg.op rfl (Ope.pickF rfl rfl ?_))
                    refine Reg.nil ?_
                    first
                    | exact Run.lend ⟨⟨rfl,rfl,rfl,rfl,rfl,rfl,rfl,rfl,rfl,rfl,rfl,rfl,rfl,rfl,rfl,rfl,rfl,rfl,rfl,rfl,rfl,rfl,trivial⟩,rfl,rfl⟩ | exact Run.lend ⟨⟨rfl,rfl,rfl,rfl,rfl,rfl,rfl,rfl,rfl,rfl,rfl,rfl,rfl,rfl,rfl,rfl,rfl,rfl,rfl,rfl,rfl,congrArg (fun b=>some (B b)) (decide_eq_false (by omega)),trivial⟩,rfl,rfl⟩
                    | exact Run.lend ⟨⟨rfl,rfl,rfl,rfl,rfl,rfl,rfl,rfl,rfl,rfl,rfl,rfl,rfl,rfl,rfl,rfl,rfl,rfl,rfl,rfl,rfl,congrArg (fun b=>some (B b)) (decide_eq_false (by have:=hb4 (by omega);omega)),trivial⟩,rfl,rfl⟩
                  ·rintro e' d' h' ⟨hsb,rfl,rfl⟩;refine Run.less hsb ?_
                   refine Run.condX rfl (fun hc=>?_) fun hc=>?_
                   ·cases hc
                   ·refine Run.skip ?_
                    first
                    | exact Run.lend ⟨11,⟨rfl,rfl,rfl,rfl,rfl,rfl,rfl,rfl,rfl,rfl,rfl,rfl,rfl,rfl,rfl,rfl,rfl,rfl,rfl,rfl,rfl,trivial⟩,rfl,rfl,hG11⟩
                    | exact Run.lend ⟨G,⟨rfl,rfl,rfl,rfl,rfl,rfl,rfl,rfl,rfl,rfl,rfl,rfl,rfl,rfl,rfl,rfl,rfl,rfl,rfl,rfl,rfl,trivial⟩,rfl,rfl,hG.keep fun _ h=>b0 (by omega) (by omega)⟩
                ·rintro e' d' h' ⟨G',hsb,rfl,rfl,hG'⟩;refine Run.less hsb ?_
                 refine Run.seq (Run.region (cx_ok _ _ _) (Reg.op rfl (Ope.mov rfl ?_)))
                 refine Reg.op rfl (Ope.mov rfl ?_)
                 refine Reg.op rfl (Ope.shlN (p:=1) (m:=o[i]) rfl rfl rfl rfl (by omega) (by have:=pow6 (show o[i]≤6 by omega);omega) ?_)
                 refine Reg.op rfl (Ope.orN (p:=p.J) (q:=1 * 2 ^ o[i]) rfl rfl rfl rfl (by show _ < 2 ^ 63;omega) (by have:=pow6 (show o[i]≤6 by omega);show _ < 2 ^ 63;omega) ?_)
                 refine Reg.op rfl (Ope.asg rfl ?_)
                 refine Reg.nil ?_
                 have hm1:0≤co * max 0 (nw4 - so):=Int.mul_nonneg cb.1 (by omega)
                 have hm2:co * max 0 (nw4 - so)≤co * max 0 (ws[i].d1 - so):=Int.mul_le_mul_of_nonneg_left (by omega) cb.1
                 have hm3:co * max 0 (nw4 - so)≤50 * 6000:=Int.mul_le_mul cb.2 (by omega) (by omega) (by decide)
                 refine Run.region (cx_ok _ _ _) (Reg.op rfl (Ope.mov rfl ?_))
                 refine Reg.op rfl (Ope.fld rfl rfl ?_)
                 refine Reg.op rfl (Ope.load rfl rfl ?_)
                 refine Reg.op rfl (Ope.mov rfl ?_)
                 refine Reg.op rfl (Ope.fld rfl rfl ?_)
                 refine Reg.op rfl (Ope.load rfl rfl ?_)
                 refine Reg.op rfl (Ope.sub rfl rfl (by omega) ?_)
                 refine Reg.op rfl (Ope.maxI rfl rfl ?_)
                 refine Reg.op rfl (Ope.mul rfl rfl (by omega) ?_)
                 refine Reg.op rfl (Ope.add rfl rfl (by omega) ?_)
                 refine Reg.op rfl (Ope.asg rfl ?_)
                 refine Reg.nil (Run.bend (Run.region (cx_ok _ _ _) (Reg.op rfl (Ope.add rfl rfl (by omega) ?_))))
                 refine Reg.op rfl (Ope.mov rfl ?_)
                 refine Reg.nil ?_
                 exact Run.lend ⟨(i+1,m+1,nw4,sm+co * max 0 (nw4 - so),G'),by show o.length - (i+1) < o.length - i;omega,⟨by show i+1≤o.length;omega,by show (s.past Shp.p0 (o.take (i+1))).f0≤nw4∧nw4≤(s.past Shp.p0 (o.take (i+1))).f1;rw [hps];exact hn4,by show 0≤sm+co * max 0 (nw4 - so)∧sm+co * max 0 (nw4 - so)≤s.cst Shp.p0 (o.take (i+1))∧sm+co * max 0 (nw4 - so)≤50000000 * ((i+1:Nat):Int);rw [hcs,fi];omega,hG'⟩,(by show Lsub [(2,.sl tr (tru.map U8)),(3,.fp (s.v t1 t2)),(7,I C),(61,.sl .no (Q.map ordV)),(62,I Q.length),(63,I k),(11,I k),(13,.sl .no (ws.map Wrk.sp)),(15,I J),(16,I R),(17,I G'),(18,I nw4),(19,I (s.past Shp.p0 (o.take (i+1))).kd),(20,I (sm+co * max 0 (nw4 - so))),(21,N (s.past Shp.p0 (o.take (i+1))).J),(107,.sl tq (o.map N)),(108,I o.length),(109,I ((i+1:Nat):Int))] _;rw [hps];exact ⟨rfl,rfl,rfl,rfl,rfl,rfl,rfl,rfl,rfl,rfl,rfl,rfl,rfl,rfl,rfl,rfl,rfl,rfl,trivial⟩),rfl,rfl⟩
         ·refine Run.exit (Jmp.code (Jmp.round (Jmp.here (Run.seq ?_))))
          obtain rfl:i=o.length:=by omega
          rw [List.take_length] at hsm hnow
          have hG0:G≠0:=fun h=>by
            obtain ⟨⟨j,_,hf⟩,h3⟩:=hG.zero h
            rw [flt_none fun k hk=>h3 k hk (by omega)] at hf
            cases hf
          refine Run.cut (fun e' d' h'=>Lsub [(2,.sl tr (tru.map U8)),(3,.fp (s.v t1 t2)),(7,I C),(61,.sl .no (Q.map ordV)),(62,I Q.length),(63,I k),(267,B false)] e'∧d'=[]∧h'=HE m []) ?_ ?_
          ·refine Run.region (cx_ok _ _ _) (Reg.op rfl (Ope.mov rfl ?_))
           refine Reg.op rfl (Ope.eq rfl rfl ?_)
           refine Reg.op rfl (Ope.mov rfl ?_)
           refine Reg.splitX rfl rfl (fun hg=>?_) fun hg=>?_
           ·refine Reg.off rfl rfl rfl (Reg.off rfl rfl rfl (Reg.off rfl rfl rfl (Reg.past rfl rfl rfl (Reg.past rfl rfl rfl (Reg.past rfl rfl rfl (Reg.off rfl rfl rfl (Reg.op rfl (Ope.pickT rfl rfl ?_))))))))
            refine Reg.nil ?_
            first
            | exact Run.lend ⟨⟨rfl,rfl,rfl,rfl,rfl,rfl,rfl,trivial⟩,rfl,rfl⟩ | exact Run.lend ⟨⟨rfl,rfl,rfl,rfl,rfl,rfl,congrArg (fun b=>some (B b)) (decide_eq_false (by omega)),trivial⟩,rfl,rfl⟩
            | exact Run.lend ⟨⟨rfl,rfl,rfl,rfl,rfl,rfl,congrArg (fun b=>some (B b)) (decide_eq_false (by have:=hC1 (by omega);omega)),trivial⟩,rfl,rfl⟩
            | (exfalso;omega)
           ·refine Reg.on rfl rfl rfl (Ope.mov rfl ?_)
            refine Reg.on rfl rfl rfl (Ope.eq rfl rfl ?_)
            refine Reg.on rfl rfl rfl (Ope.mov rfl ?_)
            refine Reg.splitX rfl rfl (fun hg=>?_) fun hg=>?_
            ·refine Reg.on rfl rfl rfl (Ope.mov rfl ?_)
             refine Reg.on rfl rfl rfl (Ope.mov rfl ?_)
             refine Reg.on rfl rfl rfl (Ope.gt rfl rfl ?_)
             refine Reg.on rfl rfl rfl (Ope.pickT rfl rfl ?_)
             refine Reg.op rfl (Ope.pickF rfl rfl ?_)
             refine Reg.nil ?_
             first
             | exact Run.lend ⟨⟨rfl,rfl,rfl,rfl,rfl,rfl,rfl,trivial⟩,rfl,rfl⟩ | exact Run.lend ⟨⟨rfl,rfl,rfl,rfl,rfl,rfl,congrArg (fun b=>some (B b)) (decide_eq_false (by omega)),trivial⟩,rfl,rfl⟩
             | exact Run.lend ⟨⟨rfl,rfl,rfl,rfl,rfl,rfl,congrArg (fun b=>some (B b)) (decide_eq_false (by have:=hC1 (by omega);omega)),trivial⟩,rfl,rfl⟩
             | (exfalso;omega)
            ·refine Reg.off rfl rfl rfl (Reg.off rfl rfl rfl (Reg.off rfl rfl rfl (Reg.on rfl rfl rfl (Ope.pickF rfl rfl ?_))))
             refine Reg.op rfl (Ope.pickF rfl rfl ?_)
             refine Reg.nil ?_
             first
             | exact Run.lend ⟨⟨rfl,rfl,rfl,rfl,rfl,rfl,rfl,trivial⟩,rfl,rfl⟩ | exact Run.lend ⟨⟨rfl,rfl,rfl,rfl,rfl,rfl,congrArg (fun b=>some (B b)) (decide_eq_false (by omega)),trivial⟩,rfl,rfl⟩
             | exact Run.lend ⟨⟨rfl,rfl,rfl,rfl,rfl,rfl,congrArg (fun b=>some (B b)) (decide_eq_false (by have:=hC1 (by omega);omega)),trivial⟩,rfl,rfl⟩
             | (exfalso;omega)
          ·rintro e' d' h' ⟨hsb,rfl,rfl⟩;refine Run.less hsb ?_
           refine Run.condX rfl (fun hc=>?_) fun hc=>?_
           ·cases hc
           ·refine Run.skip (Run.bend (Run.region (cx_ok _ _ _) (Reg.op rfl (Ope.add rfl rfl (by omega) ?_))))
            refine Reg.op rfl (Ope.mov rfl ?_)
            exact Reg.nil (Run.lend ⟨(k+1,m),by show Q.length - (k+1) < Q.length - k;omega,by show k+1≤Q.length;omega,⟨rfl,rfl,rfl,rfl,rfl,rfl,trivial⟩,rfl,rfl⟩)
      ·refine Run.exit (Jmp.code (Jmp.round (Jmp.here (Run.seq (Run.region (cx_ok _ _ _) (Reg.op rfl (Ope.cf rfl rfl (awakeF) rfl ?_)))))))
       refine Reg.op rfl (Ope.asg rfl ?_)
       exact Reg.nil (Run.ret (fin_ret (.tmp rfl .nil) rfl rfl))
end
theorem f5a (s:Shp) (hi:s.i64) (by':List Nat) (hb8:∀ x∈by',x < 256) (tru:List Nat) (ht8:∀ x∈tru,x < 256):Fn P0 5 [s.v .no .no,.sl .no (by'.map U8),.sl .no (tru.map U8)] (B true):=by
  cases hv:s.val with
  | false=>exact f5n s (t1:=.no) (t2:=.no) rfl rfl hi _ _ hv
  | true=>exact f5y s (t1:=.no) (t2:=.no) rfl rfl hi hv .no rfl by' hb8 .no tru ht8
end Go.Pv
namespace Go.Pv
open Go.Proofs Go.Am
set_option maxRecDepth 10000
section
variable {H:Type} {enc:TypeId×Value→H} {w:World} {base:Nat} {held:Bool}
theorem reads_int:Reads enc Try.prog w base (fun _=>true) held 3 fun ps=>∃ n:Int,ps=[I n]∧(-9223372036854775808≤n∧n≤9223372036854775807) :=
  (Reads.int Try.underlying3).mono fun ps ⟨n,h,h1,h2⟩=>⟨n,h,Int.le_trans (by decide) h1,Int.le_trans h2 (by decide)⟩
theorem reads_span:Reads enc Try.prog w base (fun _=>true) held 46 fun ps=>∃ a b:Int,ps=[I a,I b] :=
  (Reads.struct (Qs:=[fun ps=>∃ n:Int,ps=[I n]∧_,fun ps=>∃ n:Int,ps=[I n]∧_]) Try.underlying46 (by kernel_rfl) ⟨reads_int,reads_int,trivial⟩).mono fun ps h=>by
    obtain ⟨_,_,rfl,⟨a,rfl,_⟩,_,_,rfl,⟨b,rfl,_⟩,rfl⟩:=h
    exact ⟨a,b,rfl⟩
theorem reads_job:Reads enc Try.prog w base (fun _=>true) held 48 fun ps=>∃ j:Job,ps=j.v.cells∧(-9223372036854775808≤j.af∧j.af≤9223372036854775807) :=
  (Reads.struct (Qs:=[fun ps=>∃ n:Int,ps=[I n]∧_,fun ps=>∃ a b:Int,ps=[I a,I b],fun ps=>∃ n:Int,ps=[I n]∧_,fun ps=>∃ n:Int,ps=[I n]∧_,fun ps=>∃ n:Int,ps=[I n]∧_,fun ps=>∃ n:Int,ps=[I n]∧_,fun ps=>∃ n:Int,ps=[I n]∧_]) Try.underlying48 (by kernel_rfl) ⟨reads_int,reads_span,reads_int,reads_int,reads_int,reads_int,reads_int,trivial⟩).mono fun ps h=>by
    obtain ⟨_,_,rfl,⟨a,rfl,_⟩,_,_,rfl,⟨b,c,rfl⟩,_,_,rfl,⟨d,rfl,_⟩,_,_,rfl,⟨e,rfl,_⟩,_,_,rfl,⟨f,rfl,_⟩,_,_,rfl,⟨g,rfl,_⟩,_,_,rfl,⟨h,rfl,hh⟩,rfl⟩:=h
    exact ⟨⟨a,b,c,d,e,f,g,h⟩,rfl,hh⟩
theorem cells_job:Try.prog.cellsOf 48=8:=by kernel_rfl
theorem cells_int:Try.prog.cellsOf 3=1:=by kernel_rfl
theorem cells_u8:Try.prog.cellsOf 5=1:=by kernel_rfl
theorem reads_jobs:Reads enc Try.prog w base (fun _=>true) held 23 fun ps=>∃ S:List Job,ps=[.sl .no (S.map Job.v)]∧∀ j∈S,-9223372036854775808≤j.af∧j.af≤9223372036854775807 :=
  (Reads.slice (Q:=fun j:Job=>-9223372036854775808≤j.af∧j.af≤9223372036854775807) (f:=Job.v) (fun _=>rfl) Try.underlying23 (by rw [cells_job];decide) (reads_job.mono fun ps ⟨s,h,h'⟩=>⟨s,h,by rw [cells_job];rfl,h'⟩)).mono fun ps ⟨S,h,_,h'⟩=>⟨S,h,h'⟩
theorem reads_ints:Reads enc Try.prog w base (fun _=>true) held 22 fun ps=>∃ S:List Int,ps=[.sl .no (S.map I)] :=
  (Reads.slice (Q:=fun _=>True) (f:=I) (fun _=>rfl) Try.underlying22 (by rw [cells_int];decide) (reads_int.mono fun ps ⟨s,h,_⟩=>⟨s,h,by rw [cells_int];rfl,trivial⟩)).mono fun ps ⟨S,h,_⟩=>⟨S,h⟩
theorem reads_mend:Reads enc Try.prog w base (fun _=>true) held 25 fun ps=>∃ s:Shp,s.i64∧ps=[.sl .no (s.su.map I),.sl .no (s.jo.map Job.v)] :=
  (Reads.struct (Qs:=[fun ps=>∃ S:List Int,ps=[.sl .no (S.map I)],fun ps=>∃ S:List Job,ps=[.sl .no (S.map Job.v)]∧_]) Try.underlying25 (by kernel_rfl) ⟨reads_ints,reads_jobs,trivial⟩).mono fun ps h=>by
    obtain ⟨_,_,rfl,⟨su,rfl⟩,_,_,rfl,⟨jo,rfl,hj⟩,rfl⟩:=h
    exact ⟨⟨su,jo⟩,fun i hi=>hj _ (List.getElem_mem hi),rfl⟩
theorem trod_mend {v:Value} {d:DataW H} {ps:List MemPlace} {r:Reach} {b:Nat} (hv:Value.okWide Try.prog w r b 25 v) (h:DataW.Trod enc Try.prog w base (fun _=>true) held 25 v d ps):∃ s:Shp,s.i64∧RV (St.froz w) (s.v .no .no) v:=by
  obtain ⟨l,h1,s,hi,rfl⟩:=trod_agg Try.underlying25 hv h reads_mend
  exact ⟨s,hi,h1⟩
theorem trod_bytes {v : Value} {d : DataW H} {ps : List MemPlace} {r : Reach} {b : Nat} (hv : Value.okWide Try.prog w r b 42 v) (h : DataW.Trod enc Try.prog w base (fun _ => true) held 42 v d ps) : ∃ xs : List Nat, (∀ x ∈ xs, x < 256) ∧ RV (St.froz w) (.sl .no (xs.map U8)) v := by
  obtain ⟨xs,h1,_,h3⟩:=trod_ints Try.underlying42 Try.underlying5 cells_u8 hv h
  have h4:∀ x∈xs,0≤x∧x≤255:=fun x hx=>⟨Int.le_trans (by decide) (h3 x hx).1,Int.le_trans (h3 x hx).2 (by decide)⟩
  refine ⟨xs.map Int.toNat,fun x hx=>?_,?_⟩
  · obtain ⟨y, hy, rfl⟩ := List.mem_map.1 hx
    have:=h4 y hy;omega
  · have e : (xs.map Int.toNat).map U8 = xs.map fun n => .lit (.int .u8 n) := by
      rw [List.map_map]
      exact List.map_congr_left fun x hx=>by
        have:=h4 x hx
        show PV.lit (.int .u8 ((x.toNat:Nat):Int))=_
        rw [Int.toNat_of_nonneg this.1]
    rw [e]
    exact h1
end
end Go.Pv
