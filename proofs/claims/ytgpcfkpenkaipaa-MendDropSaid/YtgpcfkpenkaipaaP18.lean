/- Parts of the proof: M13, M14, M15, M16, M17, M18 -/
import Derived.Test.YtgpcfkpenkaipaaP17
import Derived.Test.YtgpcfkpenkaipaaP14
import Derived.Test.YtgpcfkpenkaipaaP12
set_option linter.unusedVariables false
set_option linter.unusedSimpArgs false
set_option linter.unusedSectionVars false
namespace Go.Pv
open Go.Proofs Go.Am
set_option maxRecDepth 10000
def otl:List Nat→Tail
  | []=>.ex
  | _=>.no
theorem otl_own (o:List Nat):(otl o).isOwn=false:=by cases o<;>rfl
def Olk.cs (o:Olk):List PV:=[I o.n,I o.c,.sl (otl o.o) (o.o.map N),I o.t]
abbrev Olk.v (o:Olk):PV:=.agg o.cs
theorem bd_olk (n:Nat) (o:Olk):PV.bd n o.v=true:=by
  have h:∀ xs:List Nat,PV.bds n (xs.map N)=true:=fun xs=>by
    induction xs with
    | nil=>rfl
    | cons x xs ih=>simp only [List.map_cons,PV.bds,ih,Bool.and_true];rfl
  have h2:PV.bd n (.sl (otl o.o) (o.o.map N))=true:=by
    have:=h o.o
    cases ho:o.o with
    | nil=>rfl
    | cons x xs=>rw [ho] at this;simp only [otl,PV.bd,this]
  simp only [PV.bd,PV.bds,Olk.cs,h2]
  rfl
theorem bds_olk (n:Nat):∀ L:List Olk,PV.bds n (L.map Olk.v)=true
  | []=>rfl
  | o::L=>by simp only [List.map_cons,PV.bds,bd_olk,bds_olk n L,Bool.and_self]
structure Olk.ok (o:Olk):Prop where
  n:o.n≤1000000
  c:0≤o.c∧o.c≤1000000000
  t:0≤o.t∧o.t≤1000000
  o:o.o.length≤100
theorem f115 (o:Olk):Fn P0 115 [o.v] (I o.c):=by
  refine PFun.of (C:=c115) (cx_ok _ _ _) rfl (fn:=Try.f115) (by kernel_rfl) (c:=_) rfl rfl rfl ?_
  refine Run.seq (Run.region (cx_ok _ _ _) (Reg.op rfl (Ope.boxF rfl rfl ?_)))
  refine Reg.op rfl (Ope.asg rfl ?_)
  refine Reg.nil (Run.seq (Run.region (cx_ok _ _ _) (Reg.op rfl (Ope.fld rfl rfl ?_))))
  refine Reg.op rfl (Ope.load rfl rfl ?_)
  refine Reg.op rfl (Ope.asg rfl ?_)
  exact Reg.nil (Run.ret (fin_ret (.tmp rfl .nil) rfl rfl))
theorem f116 (o:Olk):Fn P0 116 [o.v] (I o.t):=by
  refine PFun.of (C:=c116) (cx_ok _ _ _) rfl (fn:=Try.f116) (by kernel_rfl) (c:=_) rfl rfl rfl ?_
  refine Run.seq (Run.region (cx_ok _ _ _) (Reg.op rfl (Ope.boxF rfl rfl ?_)))
  refine Reg.op rfl (Ope.asg rfl ?_)
  refine Reg.nil (Run.seq (Run.region (cx_ok _ _ _) (Reg.op rfl (Ope.fld rfl rfl ?_))))
  refine Reg.op rfl (Ope.load rfl rfl ?_)
  refine Reg.op rfl (Ope.asg rfl ?_)
  exact Reg.nil (Run.ret (fin_ret (.tmp rfl .nil) rfl rfl))
theorem leastBy_snoc {α:Type} (f:α→Int) (a b:α) (l:List α):leastBy f a (l++[b])=if f b < f (leastBy f a l) then b else leastBy f a l:=leastBy_app f l a b []
theorem f114 (g:Nat) (w:Olk→Int) (hw:∀ o,Fn P0 g [o.v] (I (w o))) (tl:Tail) (htl:tl.isOwn=false) (a:Olk) (L:List Olk) (hl:L.length≤1000):Fn P0 114 [.sl tl ((a::L).map Olk.v),.agg [.fn (.func g) [] []]] (leastBy w a L).v:=by
  have hb1:∀ o:Olk,PV.bds 0 [o.v]=true:=fun o=>bds_cons (bd_olk 0 o) rfl
  have hbd:PV.bd 0 (leastBy w a L).v=true:=bd_olk 0 _
  generalize hz:(leastBy w a L)=z at *
  refine PFun.of (C:=c114) (cx_ok _ _ _) rfl (fn:=Try.f114) (by kernel_rfl) (c:=_) rfl rfl rfl ?_
  refine Run.seq (Run.region (cx_ok _ _ _) (Reg.op rfl (Ope.boxF rfl rfl ?_)))
  refine Reg.op rfl (Ope.newL rfl ?_)
  refine Reg.nil (Run.seq (Run.region (cx_ok _ _ _) (Reg.op rfl (Ope.mov rfl ?_))))
  refine Reg.op rfl (Ope.idxM (m:=0) (f:=Olk.v) rfl rfl rfl (by simp) (fun _=>rfl) ?_)
  refine Reg.op rfl (Ope.load rfl rfl ?_)
  refine Reg.op rfl (Ope.newL rfl ?_)
  refine Reg.op0 (Ope.store rfl rfl rfl rfl rfl rfl ?_)
  refine Reg.nil (Run.seq (Run.seq (Run.region (cx_ok _ _ _) (Reg.op rfl (Ope.mov rfl ?_)))))
  refine Reg.op rfl (Ope.slD (m:=1) rfl rfl rfl (by simp) (by intro v hv;obtain ⟨_,_,rfl⟩:=List.mem_map.1 hv;rfl) ?_)
  refine Reg.op rfl (Ope.len (m:=L.length) rfl (by simp) ?_)
  refine Reg.op rfl (Ope.mov rfl ?_)
  refine Reg.nil (Run.block (Run.wide (m:=2) (l':=[(1,some (.cells (leastBy w a (L.take 0)).cs)),(0,some (.cells [I 0,I 0,.sl .ex [],I 0]))]) (Nat.le_refl _) ⟨rfl,rfl,trivial⟩ ?_))
  refine Run.loop (α:=Nat×Nat) (fun t=>[(3,.fp (.agg [.fn (.func g) [] []])),(4,.ptr 0 0),(5,.ptr 1 0),(12,.sl (stail tl ((a::L).map Olk.v).length ((a::L).map Olk.v).length) (L.map Olk.v)),(13,I L.length),(14,I t.1)]) (fun t=>HE t.2 [(1,some (.cells (leastBy w a (L.take t.1)).cs)),(0,some (.cells [I 0,I 0,.sl .ex [],I 0]))]) (fun t=>t.1≤L.length∧2≤t.2) (fun t=>L.length - t.1) (0,2) ⟨rfl,rfl,rfl,rfl,rfl,rfl,trivial⟩ rfl ⟨Nat.zero_le _,Nat.le_refl _⟩ (fun t ht=>?_)
  obtain ⟨i,m⟩:=t
  obtain ⟨hi,hm2⟩:=ht
  simp only at hi hm2
  refine Run.seq (Run.region (cx_ok _ _ _) (Reg.op rfl (Ope.lt rfl rfl ?_)))
  refine Reg.nil (Run.seq (Run.condX rfl (fun hc=>?_) fun hc=>?_))
  ·refine Run.skip (Run.seq (Run.block (Run.seq ?_)))
   have hlt:i < L.length:=by omega
   have es:leastBy w a (L.take (i+1))=if w L[i] < w (leastBy w a (L.take i)) then L[i] else leastBy w a (L.take i):=by rw [List.take_succ_eq_append_getElem hlt,leastBy_snoc]
   generalize leastBy w a (L.take i)=b at *
   refine Run.region (cx_ok _ _ _) (Reg.op rfl (Ope.idxM (m:=i) (f:=Olk.v) rfl rfl rfl hlt (fun _=>rfl) ?_))
   refine Reg.op rfl (Ope.load rfl rfl ?_)
   refine Reg.op rfl (Ope.newL rfl ?_)
   refine Reg.op0 (Ope.store rfl rfl hget_hd rfl rfl rfl ?_)
   refine Reg.nil (Run.seq (Run.frz (d:=7) true rfl hget_hd rfl ?_))
   refine Run.wide (m:=m+1) (l':=[(1,some (.cells b.cs)),(0,some (.cells [I 0,I 0,.sl .ex [],I 0]))]) (Nat.le_refl _) ⟨(hget_tl (by omega)).trans ((hget_tl (by omega)).trans ((hget_tl (by omega)).trans rfl)),(hget_tl (by omega)).trans ((hget_tl (by omega)).trans ((hget_tl (by omega)).trans rfl)),trivial⟩ ?_
   refine Run.drawB (cx_ok _ _ _) 1 [(0,true,false),(1,true,false),(2,true,false),(4,true,false),(5,false,false),(6,false,false),(3,true,true),(7,true,false),(8,true,false)] (by kernel_rfl) (DraS.opQ rfl rfl rfl (Ope.fld rfl rfl ?_))
   refine DraS.opQ rfl rfl rfl (Ope.load rfl rfl ?_)
   refine DraS.opQ rfl rfl rfl (Ope.load rfl rfl ?_)
   refine DraS.opQ rfl rfl rfl (Ope.fld rfl rfl ?_)
   refine DraS.opR rfl rfl rfl rfl (StabS.frozen rfl) (Ope.load rfl rfl ?_)
   refine DraS.opR rfl rfl rfl rfl (StabS.at rfl) (Ope.load rfl rfl ?_)
   refine DraS.opS rfl rfl rfl (Ope.cf rfl rfl (hw L[i]) (hb1 _) ?_)
   refine ⟨rfl,?_⟩
   refine DraS.opQ rfl rfl rfl (Ope.cf rfl rfl (hw b) (hb1 _) ?_)
   refine DraS.opQ rfl rfl rfl (Ope.lt rfl rfl ?_)
   refine DraS.nil (Run.condX rfl (fun hc=>?_) fun hc=>?_)
   ·refine Run.region (cx_ok _ _ _) (Reg.op rfl (Ope.load rfl rfl ?_))
    refine Reg.op0 (Ope.store rfl rfl rfl rfl rfl rfl ?_)
    refine Reg.nil (Run.bend ?_)
    first
    | refine Run.wide (m:=m+1) (l':=[(1,some (.cells (leastBy w a (L.take (i+1))).cs)),(0,some (.cells [I 0,I 0,.sl .ex [],I 0]))]) (Nat.le_refl _) ⟨congrArg (fun l=>some (PBlk.cells l)) (by rw [es,if_pos (by assumption)];rfl),rfl,trivial⟩ ?_
    | refine Run.wide (m:=m+1) (l':=[(1,some (.cells (leastBy w a (L.take (i+1))).cs)),(0,some (.cells [I 0,I 0,.sl .ex [],I 0]))]) (Nat.le_refl _) ⟨congrArg (fun l=>some (PBlk.cells l)) (by rw [es,if_neg (by assumption)]),rfl,trivial⟩ ?_
    refine Run.region (cx_ok _ _ _) (Reg.op rfl (Ope.add rfl rfl (by omega) ?_))
    refine Reg.op rfl (Ope.mov rfl ?_)
    exact Reg.nil (Run.lend ⟨(i+1,m+1),by show L.length - (i+1) < L.length - i;omega,⟨by show i+1≤L.length;omega,by show 2≤m+1;omega⟩,⟨rfl,rfl,rfl,rfl,rfl,rfl,trivial⟩,rfl,rfl⟩)
   ·refine Run.skip (Run.bend ?_)
    first
    | refine Run.wide (m:=m+1) (l':=[(1,some (.cells (leastBy w a (L.take (i+1))).cs)),(0,some (.cells [I 0,I 0,.sl .ex [],I 0]))]) (Nat.le_refl _) ⟨congrArg (fun l=>some (PBlk.cells l)) (by rw [es,if_pos (by assumption)];rfl),rfl,trivial⟩ ?_
    | refine Run.wide (m:=m+1) (l':=[(1,some (.cells (leastBy w a (L.take (i+1))).cs)),(0,some (.cells [I 0,I 0,.sl .ex [],I 0]))]) (Nat.le_refl _) ⟨congrArg (fun l=>some (PBlk.cells l)) (by rw [es,if_neg (by assumption)]),rfl,trivial⟩ ?_
    refine Run.region (cx_ok _ _ _) (Reg.op rfl (Ope.add rfl rfl (by omega) ?_))
    refine Reg.op rfl (Ope.mov rfl ?_)
    exact Reg.nil (Run.lend ⟨(i+1,m+1),by show L.length - (i+1) < L.length - i;omega,⟨by show i+1≤L.length;omega,by show 2≤m+1;omega⟩,⟨rfl,rfl,rfl,rfl,rfl,rfl,trivial⟩,rfl,rfl⟩)
  ·refine Run.exit (Jmp.code (Jmp.round (Jmp.here (Run.seq ?_))))
   obtain rfl:i=L.length:=by omega
   rw [List.take_length,hz]
   refine Run.region (cx_ok _ _ _) (Reg.op rfl (Ope.load rfl rfl ?_))
   refine Reg.op0 (Ope.store rfl rfl rfl rfl rfl rfl ?_)
   exact Reg.nil (Run.ret (fin_ret (.cell rfl rfl .nil) hbd rfl))
def sumN (a:Nat) (L:List Nat):Nat:=L.foldl (·+·) a
theorem sumN_take {L:List Olk} (a:Nat) {i:Nat} (hi:i < L.length):sumN a ((L.take (i+1)).map Olk.n)=sumN a ((L.take i).map Olk.n)+L[i].n:=by
  rw [List.take_succ_eq_append_getElem hi,List.map_append]
  simp [sumN,List.foldl_append]
theorem sumN_le {L:List Olk} (h:∀ o∈L,o.ok) (a:Nat):∀ i,i≤L.length→sumN a ((L.take i).map Olk.n)≤a+1000000 * i
  | 0,_=>by simp [sumN]
  | i + 1, hi => by
    have h1:=sumN_take (L:=L) a (i:=i) (by omega)
    have h2:=sumN_le h a i (by omega)
    have h3:=(h _ (List.getElem_mem (l:=L) (n:=i) (by omega))).n
    omega
theorem join_v (a:Olk) (L:List Olk):joinO (a::L)=⟨sumN 0 ((a::L).map Olk.n),(leastBy Olk.c a L).c,(leastBy Olk.c a L).o,(leastBy Olk.t a L).t⟩:=by
  simp [joinO,sumN]
theorem f112n (tl:Tail):Fn P0 112 [.sl tl (([]:List Olk).map Olk.v)] (joinO []).v:=by
  refine PFun.of (C:=c112) (cx_ok _ _ _) rfl (fn:=Try.f112) (by kernel_rfl) (c:=_) rfl rfl rfl ?_
  refine Run.seq (Run.region (cx_ok _ _ _) (Reg.op rfl (Ope.newL rfl ?_)))
  refine Reg.nil (Run.seq (Run.seq (Run.region (cx_ok _ _ _) (Reg.op rfl (Ope.mov rfl ?_)))))
  refine Reg.op rfl (Ope.len (m:=0) rfl rfl ?_)
  refine Reg.op rfl (Ope.eq rfl rfl ?_)
  refine Reg.nil (Run.condX rfl (fun hc=>?_) fun hc=>?_)
  ·refine Run.seq (Run.region (cx_ok _ _ _) (Reg.op rfl (Ope.bld rfl rfl ?_)))
   refine Reg.op0 (Ope.store rfl rfl rfl rfl rfl rfl ?_)
   exact Reg.nil (Run.ret (Jmp.code (fin_ret (.cell rfl rfl .nil) rfl rfl)))
  ·exact absurd rfl hc
theorem f112l (tl:Tail) (htl:tl.isOwn=false) (a:Olk) (L:List Olk) (hl:L.length≤100) (hok:∀ o∈a::L,o.ok):Fn P0 112 [.sl tl ((a::L).map Olk.v)] (joinO (a::L)).v:=by
  have hc1:=f114 115 Olk.c f115 tl htl a L (by omega)
  have hc2:=f114 116 Olk.t f116 tl htl a L (by omega)
  have hb:∀ g:Nat,PV.bds 0 [.sl tl ((a::L).map Olk.v),.agg [.fn (.func g) [] []]]=true:=fun g=>bds_cons (by cases tl<;>first | (simp only [PV.bd];exact bds_olk 0 _) | cases htl) rfl
  have hbd:PV.bd 0 (joinO (a::L)).v=true:=bd_olk 0 _
  rw [join_v] at hbd ⊢
  generalize leastBy Olk.c a L=x at *
  generalize leastBy Olk.t a L=y at *
  have hle:=sumN_le (L:=a::L) hok 0
  have hst:=fun {i:Nat} hi=>sumN_take (L:=a::L) 0 (i:=i) hi
  have hlen:(a::L).length≤101:=by simp only [List.length_cons];omega
  have hne:(a::L).length≠0:=by simp
  have hnk:=fun (i:Nat) (hi:i < (a::L).length)=>(hok _ (List.getElem_mem hi)).n
  generalize a::L=Q at *
  refine PFun.of (C:=c112) (cx_ok _ _ _) rfl (fn:=Try.f112) (by kernel_rfl) (c:=_) rfl rfl rfl ?_
  refine Run.seq (Run.region (cx_ok _ _ _) (Reg.op rfl (Ope.newL rfl ?_)))
  refine Reg.nil (Run.seq (Run.seq (Run.region (cx_ok _ _ _) (Reg.op rfl (Ope.mov rfl ?_)))))
  refine Reg.op rfl (Ope.len (m:=Q.length) rfl (by simp) ?_)
  refine Reg.op rfl (Ope.eq rfl rfl ?_)
  refine Reg.nil (Run.condX rfl (fun hc=>?_) fun hc=>?_)
  ·first
   |(exfalso;omega)
   |refine Run.seq (Run.region (cx_ok _ _ _) (Reg.op rfl (Ope.bld rfl rfl ?_)))
    refine Reg.op0 (Ope.store rfl rfl rfl rfl rfl rfl ?_)
    exact Reg.nil (Run.ret (Jmp.code (fin_ret (.cell rfl rfl .nil) hbd rfl)))
  ·first
   |(exfalso;omega)
   |refine Run.skip (Run.seq (Run.region (cx_ok _ _ _) (Reg.op rfl (Ope.mov rfl ?_))))
    refine Reg.op rfl (Ope.bld rfl rfl ?_)
    refine Reg.op rfl (Ope.cf rfl rfl hc1 (hb _) ?_)
    refine Reg.op rfl (Ope.newL rfl ?_)
    refine Reg.op0 (Ope.store rfl rfl hget_hd rfl rfl rfl ?_)
    refine Reg.nil (Run.seq (Run.region (cx_ok _ _ _) (Reg.op rfl (Ope.mov rfl ?_))))
    refine Reg.op rfl (Ope.bld rfl rfl ?_)
    refine Reg.op rfl (Ope.cf rfl rfl hc2 (hb _) ?_)
    refine Reg.op rfl (Ope.newL rfl ?_)
    refine Reg.op0 (Ope.store rfl rfl hget_hd rfl rfl rfl ?_)
    refine Reg.nil (Run.seq (Run.region (cx_ok _ _ _) (Reg.op rfl (Ope.fld rfl rfl ?_))))
    refine Reg.op rfl (Ope.load rfl rfl ?_)
    refine Reg.op rfl (Ope.fld rfl rfl ?_)
    refine Reg.op rfl (Ope.load rfl rfl ?_)
    refine Reg.op rfl (Ope.fld rfl rfl ?_)
    refine Reg.op rfl (Ope.load rfl rfl ?_)
    refine Reg.op rfl (Ope.bld rfl rfl ?_)
    refine Reg.op rfl (Ope.newL rfl ?_)
    refine Reg.op0 (Ope.store rfl rfl hget_hd rfl rfl rfl ?_)
    refine Reg.nil (Run.seq (Run.seq (Run.region (cx_ok _ _ _) (Reg.op rfl (Ope.mov rfl ?_)))))
    refine Reg.op rfl (Ope.len (m:=Q.length) rfl (by simp) ?_)
    refine Reg.op rfl (Ope.mov rfl ?_)
    refine Reg.nil (Run.block (Run.wide (m:=4) (l':=[(3,some (.cells [I (sumN 0 ((Q.take 0).map Olk.n):Nat),I x.c,.sl (otl x.o) (x.o.map N),I y.t])),(0,some (.cells [I 0,I 0,.sl .ex [],I 0]))]) (Nat.le_refl _) ⟨rfl,rfl,trivial⟩ ?_))
    refine Run.loop (α:=Nat×Nat) (fun t=>[(2,.ptr 0 0),(5,.ptr 3 0),(25,.sl tl (Q.map Olk.v)),(26,I Q.length),(27,I t.1)]) (fun t=>HE t.2 [(3,some (.cells [I (sumN 0 ((Q.take t.1).map Olk.n):Nat),I x.c,.sl (otl x.o) (x.o.map N),I y.t])),(0,some (.cells [I 0,I 0,.sl .ex [],I 0]))]) (fun t=>t.1≤Q.length∧4≤t.2) (fun t=>Q.length - t.1) (0,4) ⟨rfl,rfl,rfl,rfl,rfl,trivial⟩ rfl ⟨Nat.zero_le _,Nat.le_refl _⟩ (fun t ht=>?_)
    obtain ⟨i,m⟩:=t
    obtain ⟨hi,hm2⟩:=ht
    simp only at hi hm2
    refine Run.seq (Run.region (cx_ok _ _ _) (Reg.op rfl (Ope.lt rfl rfl ?_)))
    refine Reg.nil (Run.seq (Run.condX rfl (fun hc=>?_) fun hc=>?_))
    ·first
     |(exfalso;omega)
     |refine Run.skip (Run.seq (Run.block (Run.seq ?_)))
      have hlt:i < Q.length:=by omega
      have hsi:=hst hlt
      have hli:=hle i (by omega)
      have hni:=hnk i hlt
      generalize sumN 0 ((Q.take i).map Olk.n)=z at *
      refine Run.region (cx_ok _ _ _) (Reg.op rfl (Ope.idxM (m:=i) (f:=Olk.v) rfl rfl rfl hlt (fun _=>rfl) ?_))
      refine Reg.op rfl (Ope.load rfl rfl ?_)
      refine Reg.op rfl (Ope.newL rfl ?_)
      refine Reg.op0 (Ope.store rfl rfl hget_hd rfl rfl rfl ?_)
      refine Reg.nil (Run.frz (d:=7) true rfl hget_hd rfl ?_)
      refine Run.wide (m:=m+1) (l':=[(3,some (.cells [I (z:Nat),I x.c,.sl (otl x.o) (x.o.map N),I y.t])),(0,some (.cells [I 0,I 0,.sl .ex [],I 0]))]) (Nat.le_refl _) ⟨(hget_tl (by omega)).trans ((hget_tl (by omega)).trans ((hget_tl (by omega)).trans rfl)),(hget_tl (by omega)).trans ((hget_tl (by omega)).trans ((hget_tl (by omega)).trans rfl)),trivial⟩ ?_
      refine Run.region (cx_ok _ _ _) (Reg.op rfl (Ope.fld rfl rfl ?_))
      refine Reg.op rfl (Ope.load rfl rfl ?_)
      refine Reg.op rfl (Ope.fld rfl rfl ?_)
      refine Reg.op rfl (Ope.load rfl rfl ?_)
      refine Reg.op rfl (Ope.add rfl rfl (by omega) ?_)
      refine Reg.op rfl (Ope.fld rfl rfl ?_)
      refine Reg.op0 (Ope.store rfl rfl hget_hd rfl rfl rfl ?_)
      refine Reg.nil (Run.bend (Run.wide (m:=m+1) (l':=[(3,some (.cells [I (sumN 0 ((Q.take (i+1)).map Olk.n):Nat),I x.c,.sl (otl x.o) (x.o.map N),I y.t])),(0,some (.cells [I 0,I 0,.sl .ex [],I 0]))]) (Nat.le_refl _) ⟨hget_hd.trans (by rw [hsi];rfl),rfl,trivial⟩ ?_))
      refine Run.region (cx_ok _ _ _) (Reg.op rfl (Ope.add rfl rfl (by omega) ?_))
      refine Reg.op rfl (Ope.mov rfl ?_)
      exact Reg.nil (Run.lend ⟨(i+1,m+1),by show Q.length - (i+1) < Q.length - i;omega,⟨by show i+1≤Q.length;omega,by show 4≤m+1;omega⟩,⟨rfl,rfl,rfl,rfl,rfl,trivial⟩,rfl,rfl⟩)
    ·first
     |(exfalso;omega)
     |refine Run.exit (Jmp.code (Jmp.round (Jmp.here (Run.seq ?_))))
      obtain rfl:i=Q.length:=by omega
      rw [List.take_length]
      refine Run.region (cx_ok _ _ _) (Reg.op rfl (Ope.load rfl rfl ?_))
      refine Reg.op0 (Ope.store rfl rfl rfl rfl rfl rfl ?_)
      exact Reg.nil (Run.ret (fin_ret (.cell rfl rfl .nil) hbd rfl))
theorem f112 (tl:Tail) (htl:tl.isOwn=false) (L:List Olk) (hl:L.length≤100) (hok:∀ o∈L,o.ok):Fn P0 112 [.sl tl (L.map Olk.v)] (joinO L).v:=by
  cases L with
  | nil=>exact f112n tl
  | cons a L=>exact f112l tl htl a L (by simp at hl;omega) hok
theorem flat_N (xs:List Nat):flat (xs.map N)=xs.map N:=by
  induction xs with
  | nil=>rfl
  | cons x xs ih=>simp only [List.map_cons,flat,ih];rfl
theorem pputs_tail (v z:PV) (ws:List PV):pputs ((List.replicate (ws.length+1) z).set 0 v) 1 ws=v::ws:=by
  simp [pputs,List.replicate_succ]
  omega
end Go.Pv
namespace Go.Pv
open Go.Proofs Go.Am
set_option maxRecDepth 10000
theorem f103a (n:Nat) (c t:Int) (i:Nat) (f:Int) (hf:0≤f∧f≤1000000000) (hc:0≤c∧c≤1000000000):Fn P0 103 [(⟨n,c,[],t⟩:Olk).v,I i,I f] ((⟨n,c,[],t⟩:Olk).beh i f).v:=by
  have hbd:=bd_olk 0 ((⟨n,c,[],t⟩:Olk).beh i f)
  refine PFun.of (C:=c103) (cx_ok _ _ _) rfl (fn:=Try.f103) (by kernel_rfl) (c:=_) rfl rfl rfl ?_
  refine Run.seq (Run.region (cx_ok _ _ _) (Reg.op rfl (Ope.boxL rfl rfl ?_)))
  refine Reg.op rfl (Ope.newL rfl ?_)
  refine Reg.nil (Run.seq (Run.region (cx_ok _ _ _) (Reg.op rfl (Ope.fld rfl rfl ?_))))
  refine Reg.op rfl (Ope.load rfl rfl ?_)
  refine Reg.op rfl (Ope.len (m:=0) rfl rfl ?_)
  refine Reg.op rfl (Ope.add rfl rfl (by omega) ?_)
  refine Reg.op rfl (Ope.mks (m:=1) (c:=1) rfl rfl rfl rfl (Nat.le_refl _) (by omega) (by omega) (fun ez=>?_))
  refine Reg.op rfl (Ope.asg rfl ?_)
  refine Reg.nil (Run.seq (Run.region (cx_ok _ _ _) (Reg.op rfl (Ope.mov rfl ?_))))
  refine Reg.op rfl (Ope.mov rfl ?_)
  refine Reg.op rfl (Ope.idxL (m:=0) rfl rfl rfl (by omega) ?_)
  refine Reg.op0 (Ope.storeL rfl rfl rfl rfl rfl (by simp) ?_)
  refine Reg.nil (Run.seq (Run.draw (cx_ok _ _ _) [(0,true),(1,true),(2,true),(3,true),(4,true)] (by kernel_rfl) (Dra.op' rfl rfl rfl .sure (Ope.mov rfl ?_))))
  refine Dra.op' rfl rfl rfl .sure (Ope.slT1 rfl rfl ?_)
  refine Dra.op' rfl rfl rfl .sure (Ope.fld rfl rfl ?_)
  refine Dra.op' rfl rfl rfl .sure (Ope.load rfl rfl ?_)
  refine Dra.op' rfl rfl rfl .sure (Ope.copyS rfl rfl rfl (by simp) rfl (by simp) rfl ?_)
  refine Dra.nil (Run.seq (Run.region (cx_ok _ _ _) (Reg.op rfl (Ope.mov rfl ?_))))
  refine Reg.op rfl (Ope.mov rfl ?_)
  refine Reg.op rfl (Ope.fld rfl rfl ?_)
  refine Reg.op rfl (Ope.load rfl rfl ?_)
  refine Reg.op rfl (Ope.bsl rfl rfl rfl rfl ?_)
  refine Reg.op rfl (Ope.cf rfl rfl (f1132 .ex f c (by omega) (by omega)) rfl ?_)
  refine Reg.op rfl (Ope.fld rfl rfl ?_)
  refine Reg.op0 (Ope.store rfl rfl (hget_tl (by decide)) rfl rfl rfl ?_)
  refine Reg.op rfl (Ope.fld rfl rfl ?_)
  refine Reg.op0 (Ope.store rfl rfl hget_hd rfl rfl rfl ?_)
  refine Reg.nil (Run.seq (Run.frzB (x:=0) (i:=2) (pre:=[I n,I (f+c)]) (suf:=[I t]) (vs:=[N i]) (post:=[]) (sz:=1) rfl rfl (by decide) rfl (Nat.le_refl _) (by simp [PV.nc]) ?_))
  refine Run.region (cx_ok _ _ _) (Reg.op rfl (Ope.load rfl rfl ?_))
  refine Reg.op0 (Ope.store rfl rfl rfl rfl rfl rfl ?_)
  exact Reg.nil (Run.ret (fin_ret (.cell rfl rfl .nil) hbd rfl))
theorem f103b (n:Nat) (c t:Int) (y:Nat) (ys:List Nat) (hl:ys.length≤100) (i:Nat) (f:Int) (hf:0≤f∧f≤1000000000) (hc:0≤c∧c≤1000000000):Fn P0 103 [(⟨n,c,y::ys,t⟩:Olk).v,I i,I f] ((⟨n,c,y::ys,t⟩:Olk).beh i f).v:=by
  have hbd:=bd_olk 0 ((⟨n,c,y::ys,t⟩:Olk).beh i f)
  refine PFun.of (C:=c103) (cx_ok _ _ _) rfl (fn:=Try.f103) (by kernel_rfl) (c:=_) rfl rfl rfl ?_
  refine Run.seq (Run.region (cx_ok _ _ _) (Reg.op rfl (Ope.boxL rfl rfl ?_)))
  refine Reg.op rfl (Ope.newL rfl ?_)
  refine Reg.nil (Run.seq (Run.region (cx_ok _ _ _) (Reg.op rfl (Ope.fld rfl rfl ?_))))
  refine Reg.op rfl (Ope.load rfl rfl ?_)
  refine Reg.op rfl (Ope.len (m:=ys.length+1) rfl (by simp) ?_)
  refine Reg.op rfl (Ope.add rfl rfl (by omega) ?_)
  refine Reg.op rfl (Ope.mks (m:=ys.length+1+1) (c:=ys.length+1+1) rfl rfl (by omega) (by omega) (Nat.le_refl _) (by omega) (by omega) (fun ez=>?_))
  refine Reg.op rfl (Ope.asg rfl ?_)
  refine Reg.nil (Run.seq (Run.region (cx_ok _ _ _) (Reg.op rfl (Ope.mov rfl ?_))))
  refine Reg.op rfl (Ope.mov rfl ?_)
  refine Reg.op rfl (Ope.idxL (m:=0) rfl rfl rfl (by omega) ?_)
  refine Reg.op0 (Ope.storeL rfl rfl rfl rfl rfl (by simp) ?_)
  refine Reg.nil (Run.seq (Run.draw (cx_ok _ _ _) [(0,true),(1,true),(2,true),(3,true),(4,true)] (by kernel_rfl) (Dra.op' rfl rfl rfl .sure (Ope.mov rfl ?_))))
  refine Dra.op' rfl rfl rfl .sure (Ope.slDL (m:=1) rfl rfl rfl (by omega) (by omega) (Nat.le_refl _) ?_)
  refine Dra.op' rfl rfl rfl .sure (Ope.fld rfl rfl ?_)
  refine Dra.op' rfl rfl rfl .sure (Ope.load rfl rfl ?_)
  refine Dra.op' rfl rfl rfl .sure (Ope.copyS (cs':=(i::y::ys).map N) rfl rfl rfl (by intro v hv;obtain ⟨_,_,rfl⟩:=List.mem_map.1 hv;exact ⟨rfl,rfl⟩) (by simp) (by simp;omega) (by rw [flat_N (y::ys)];have h:=pputs_tail (N i) (I 0) ((y::ys).map N);simp only [List.length_map,List.length_cons,List.map_cons] at h ⊢;exact h) ?_)
  refine Dra.nil (Run.seq (Run.region (cx_ok _ _ _) (Reg.op rfl (Ope.mov rfl ?_))))
  refine Reg.op rfl (Ope.mov rfl ?_)
  refine Reg.op rfl (Ope.fld rfl rfl ?_)
  refine Reg.op rfl (Ope.load rfl rfl ?_)
  refine Reg.op rfl (Ope.bsl rfl rfl rfl rfl ?_)
  refine Reg.op rfl (Ope.cf rfl rfl (f1132 .ex f c (by omega) (by omega)) rfl ?_)
  refine Reg.op rfl (Ope.fld rfl rfl ?_)
  refine Reg.op0 (Ope.store rfl rfl ((hget_tl (by decide)).trans rfl) rfl rfl rfl ?_)
  refine Reg.op rfl (Ope.fld rfl rfl ?_)
  refine Reg.op0 (Ope.store rfl rfl hget_hd rfl rfl rfl ?_)
  refine Reg.nil (Run.seq (Run.frzB (x:=0) (i:=2) (pre:=[I n,I (f+c)]) (suf:=[I t]) (vs:=(i::y::ys).map N) (post:=[]) (sz:=1) rfl (by rw [hget_tl (by decide),hget_tl (by decide),hget_hd,flat_N,List.append_nil]) (by decide) (by simp) (Nat.le_refl _) (by intro v hv;obtain ⟨_,_,rfl⟩:=List.mem_map.1 hv;rfl) ?_))
  refine Run.region (cx_ok _ _ _) (Reg.op rfl (Ope.load rfl rfl ?_))
  refine Reg.op0 (Ope.store rfl rfl rfl rfl rfl rfl ?_)
  exact Reg.nil (Run.ret (fin_ret (.cell rfl rfl .nil) hbd rfl))
theorem f103 (o:Olk) (ho:o.ok) (i:Nat) (f:Int) (hf:0≤f∧f≤1000000000):Fn P0 103 [o.v,I i,I f] (o.beh i f).v:=by
  obtain ⟨n,c,os,t⟩:=o
  obtain ⟨_,hc,_,ho⟩:=ho
  cases os with
  | nil=>exact f103a n c t i f hf hc
  | cons y ys=>exact f103b n c t y ys (by simp at ho;omega) i f hf hc
end Go.Pv
namespace Go.Pv
open Go.Proofs Go.Am
set_option maxRecDepth 10000
def Shp.nxtD (s:Shp) (p:Pst) (x:Nat):List Nat:=((List.range s.jo.length).drop x).filter (s.can p)
theorem nxt_zero (s:Shp) (p:Pst):s.nxtD p 0=s.nxt p:=rfl
theorem drop_range {n x:Nat} (h:x < n):(List.range n).drop x=x::(List.range n).drop (x+1):=by
  rw [List.drop_eq_getElem_cons (by simpa using h)]
  simp
theorem nxt_yes {s:Shp} {p:Pst} {x:Nat} (h:x < s.jo.length) (hc:s.can p x=true):s.nxtD p x=x::s.nxtD p (x+1):=by
  unfold Shp.nxtD
  rw [drop_range h,List.filter_cons,if_pos hc]
theorem nxt_no {s:Shp} {p:Pst} {x:Nat} (h:x < s.jo.length) (hc:s.can p x=false):s.nxtD p x=s.nxtD p (x+1):=by
  unfold Shp.nxtD
  rw [drop_range h,List.filter_cons,if_neg (by rw [hc];decide)]
theorem nxt_end {s:Shp} {p:Pst} {x:Nat} (h:s.jo.length≤x):s.nxtD p x=[]:=by
  unfold Shp.nxtD
  rw [List.drop_eq_nil_of_le (by simpa using h)]
  rfl
theorem bit1 (x i:Nat):((x >>> i &&& 1:Nat):Int)=1↔x.testBit i=true:=by
  rw [Nat.and_one_is_mod,Nat.testBit,Nat.and_comm,Nat.and_one_is_mod]
  rcases Nat.mod_two_eq_zero_or_one (x >>> i) with h | h<;>rw [h]<;>simp
theorem nxt_lt {s:Shp} {p:Pst} {i:Nat} (h:i∈s.nxt p):i < s.jo.length∧s.can p i=true:=by
  obtain ⟨h1,h2⟩:=List.mem_filter.1 h
  exact ⟨List.mem_range.1 h1,h2⟩
section
variable (s:Shp) {t1 t2:Tail} (h1:t1.isOwn=false) (h2:t2.isOwn=false)
include h1 h2
theorem f86 (p:Pst):Fn P0 86 [s.v t1 t2,p.v] (.fn (.func 105) [] [.fp (s.v t1 t2),.fp p.v]):=by
  have hb:PV.bd 0 (.fn (.func 105) [] [.fp (s.v t1 t2),.fp p.v])=true:=by
    have e:PV.bds 0 [.fp (s.v t1 t2),.fp p.v]=true:=bds_cons (by rw [PV.bd];exact bd_shv s h1 h2) rfl
    rw [PV.bd,e];rfl
  refine PFun.of (C:=c86) (cx_ok _ _ _) rfl (fn:=Try.f86) (by kernel_rfl) (c:=_) rfl rfl rfl ?_
  refine Run.seq (Run.region (cx_ok _ _ _) (Reg.op rfl (Ope.boxF rfl rfl ?_)))
  refine Reg.op rfl (Ope.boxF rfl rfl ?_)
  refine Reg.op rfl (Ope.asg rfl ?_)
  refine Reg.nil (Run.seq (Run.region (cx_ok _ _ _) (Reg.op rfl (Ope.mkf rfl rfl ?_))))
  refine Reg.op rfl (Ope.asg rfl ?_)
  exact Reg.nil (Run.ret (fin_ret (.tmp rfl .nil) hb rfl))
theorem f105 {H b : Int} (hs : s.ok H) (p : Pst) (hp : p.ok b) (hb0 : 0 ≤ b) (hb : b ≤ 1000000) (hJ : p.J < 64) : Yields P0 105 [] [.fp (s.v t1 t2), .fp p.v] ((s.nxt p).map fun i => (s.wrk p i).v) := by
  intro j n l Rr hj hfeed
  rw [← nxt_zero] at hfeed
  have hru:=f97 s h1 h2
  have hbs:PV.bds 0 [s.v t1 t2]=true:=bd_shpV s h1 h2 rfl
  have hbw:∀ w:Wrk,PV.bds 0 [s.v t1 t2,w.v]=true:=fun w=>bd_shpV s h1 h2 rfl
  have hbt:∀ w:Wrk,PV.bds 0 [.agg [.fn (.func 110) [s.v t1 t2] []],w.v]=true:=fun w=>bds_cons (bd_agg (bds_cons (by rw [PV.bd,hbs];rfl) rfl)) rfl
  have hbk:∀ i:Nat,PV.bds 0 [s.v t1 t2,p.v,N i]=true:=fun i=>bd_shpV s h1 h2 rfl
  have hn6:=hs.jo
  have hwk:=fun i hi=>f95 s h1 h2 hs p hp hb0 hb i hi
  have hor:=fun w hJ hj=>f132 s h1 h2 hs w hJ hj
  have hti:=fun w hj=>f134 s h1 h2 w hj
  have hyes:=fun {x:Nat}=>nxt_yes (s:=s) (p:=p) (x:=x)
  have hno:=fun {x:Nat}=>nxt_no (s:=s) (p:=p) (x:=x)
  have hend:=fun {x:Nat}=>nxt_end (s:=s) (p:=p) (x:=x)
  have hcan:∀ x,s.can p x=(!p.J.testBit x && (!s.early (s.wrk p x) && !s.late (s.wrk p x))):=fun x=>rfl
  have hwp:∀ x,(s.wrk p x).p=p∧(s.wrk p x).j=x:=fun x=>⟨rfl,rfl⟩
  generalize hwrk:s.wrk p=W at *
  generalize hjl:s.jo.length=jl at *
  refine PCall.ofH (C:=c105) (cx_ok _ _ _) rfl (fn:=Try.f105) (by kernel_rfl) (c:=_) rfl rfl rfl (fun hok=>?_)
  refine Run.scope (Run.seq (Run.label (Run.seq (Run.region (cx_ok _ _ _) (Reg.op rfl (Ope.fld rfl rfl ?_))))))
  refine Reg.op rfl (Ope.fld rfl rfl ?_)
  refine Reg.op rfl (Ope.load rfl rfl ?_)
  refine Reg.op rfl (Ope.len (m:=jl) rfl (by simpa using hjl) ?_)
  refine Reg.op rfl (Ope.mov rfl ?_)
  refine Reg.nil (Run.block (Run.loop (α:=Nat×Nat×HL) (fun t=>[(0,.yld j),(1,.fp (s.v t1 t2)),(2,.fp p.v),(11,I jl),(12,I t.1)]) (fun t=>HE t.2.1 t.2.2) (fun t=>t.1≤jl∧(∀ q,t.2.1≤q→hget t.2.2 q=none)∧Feed P0 (.yld j) Rr ((s.nxtD p t.1).map fun i=>(W i).v) t.2.1 t.2.2) (fun t=>jl - t.1) (0,n,l) ⟨rfl,rfl,rfl,rfl,rfl,trivial⟩ rfl ⟨Nat.zero_le _,fun q hq=>ok_none hok hq,hfeed⟩ (fun t ht=>?_)))
  obtain ⟨x,m,l'⟩:=t
  obtain ⟨hx2,hok',hf⟩:=ht
  simp only at hx2 hok' hf
  have hm0:=hok' m (Nat.le_refl _)
  show Run _ _ _ _ [(0,.yld j),(1,.fp (s.v t1 t2)),(2,.fp p.v),(11,I jl),(12,I x)] [] (HE m l')
  refine Run.seq (Run.region (cx_ok _ _ _) (Reg.op rfl (Ope.lt rfl rfl ?_)))
  refine Reg.nil (Run.seq (Run.condX rfl (fun hc=>?_) fun hc=>?_))
  ·refine Run.skip (Run.seq (Run.block (Run.seq (Run.region (cx_ok _ _ _) (Reg.op rfl (Ope.mov rfl ?_))))))
   refine Reg.op rfl (Ope.asg rfl ?_)
   refine Reg.nil (Run.seq (Run.seq ?_))
   have hlt:x < jl:=by omega
   have hshr:p.J >>> x≤p.J:=Nat.shiftRight_le _ _
   refine Run.region (cx_ok _ _ _) (Reg.op rfl (Ope.fld rfl rfl ?_))
   refine Reg.op rfl (Ope.load rfl rfl ?_)
   refine Reg.op rfl (Ope.mov rfl ?_)
   refine Reg.op rfl (Ope.shrN (p:=p.J) (m:=x) rfl rfl rfl rfl (by show x≤64;omega) ?_)
   refine Reg.op rfl (Ope.andN (p:=p.J >>> x) (q:=1) rfl rfl rfl rfl (by show _ < 2 ^ 64;omega) (by decide) ?_)
   refine Reg.op rfl (Ope.eq rfl rfl ?_)
   refine Reg.nil (Run.condX rfl (fun hc=>?_) fun hc=>?_)
   ·refine Run.exit (Jmp.code (Jmp.here (Run.region (cx_ok _ _ _) (Reg.op rfl (Ope.add rfl rfl (by omega) ?_)))))
    refine Reg.op rfl (Ope.mov rfl ?_)
    refine Reg.nil ?_
    first
    | exact Run.lend ⟨(x+1,m2,l2),by show jl - (x+1) < jl - x;omega,⟨by show x+1≤jl;omega,fun q hq=>ok_none hok2 hq,hf2⟩,⟨rfl,rfl,rfl,rfl,rfl,trivial⟩,rfl,rfl⟩
    | exact Run.lend ⟨(x+1,m+1,l'),by show jl - (x+1) < jl - x;omega,⟨by show x+1≤jl;omega,fun q hq=>hok' q (by simp only at hq;omega),Feed.mono (by show m≤m+1;omega) (by rw [← hno hlt (by rw [hc1,hc];rfl)];exact hf)⟩,⟨rfl,rfl,rfl,rfl,rfl,trivial⟩,rfl,rfl⟩
    | exact Run.lend ⟨(x+1,m+1,l'),by show jl - (x+1) < jl - x;omega,⟨by show x+1≤jl;omega,fun q hq=>hok' q (by simp only at hq;omega),Feed.mono (by show m≤m+1;omega) (by rw [← hno hlt (by rw [hc1,hke (by decide),hc];rfl)];exact hf)⟩,⟨rfl,rfl,rfl,rfl,rfl,trivial⟩,rfl,rfl⟩
    | exact Run.lend ⟨(x+1,m,l'),by show jl - (x+1) < jl - x;omega,⟨by show x+1≤jl;omega,fun q hq=>hok' q hq,(by rw [← hno hlt (by rw [hcan,(bit1 _ _).1 hc];rfl)];exact hf)⟩,⟨rfl,rfl,rfl,rfl,rfl,trivial⟩,rfl,rfl⟩
   ·refine Run.skip (Run.seq ?_)
    have hbit:p.J.testBit x=false:=by
      rw [← Bool.not_eq_true,← bit1];exact hc
    have hw:=hwp x
    have hJw:(W x).p.J < 64:=by rw [hw.1];exact hJ
    have hjw:(W x).j < jl:=by rw [hw.2];exact hlt
    have hc1:=hcan x
    rw [hbit] at hc1
    refine Run.region (cx_ok _ _ _) (Reg.op rfl (Ope.load rfl rfl ?_))
    refine Reg.op rfl (Ope.load rfl rfl ?_)
    refine Reg.op rfl (Ope.mov rfl ?_)
    refine Reg.op rfl (Ope.cf rfl rfl (hwk x hlt) (hbk x) ?_)
    refine Reg.op rfl (Ope.newL rfl ?_)
    refine Reg.op0 (Ope.store rfl rfl hget_hd rfl rfl rfl ?_)
    refine Reg.nil (Run.seq (Run.seq (Run.frz (d:=5) true rfl hget_hd rfl ?_)))
    refine Run.wideS (m:=m+1) (l':=l') (Nat.le_refl _) (hs_skip (hs_skip (hs_skip hs_refl hm0) hm0) hm0) ?_
    refine Run.region (cx_ok _ _ _) (Reg.op rfl (Ope.load rfl rfl ?_))
    refine Reg.op rfl (Ope.cf rfl rfl hru hbs ?_)
    refine Reg.op rfl (Ope.len (m:=2) rfl rfl ?_)
    refine Reg.op rfl (Ope.mov rfl ?_)
    refine Reg.nil (Run.block (Run.loop (α:=Nat) (fun k=>[(0,.yld j),(1,.fp (s.v t1 t2)),(2,.fp p.v),(5,.fp (W x).v),(11,I jl),(12,I x),(26,.sl .ex (rulesV s (t1:=t1) (t2:=t2))),(27,I 2),(28,I k)]) (fun _=>HE (m+1) l') (fun k=>k≤2∧(1≤k→s.early (W x)=false)∧(2≤k→s.late (W x)=false)) (fun k=>2 - k) 0 ⟨rfl,rfl,rfl,rfl,rfl,rfl,rfl,rfl,rfl,trivial⟩ rfl ⟨Nat.zero_le _,fun h=>absurd h (by decide),fun h=>absurd h (by decide)⟩ (fun k hk=>?_)))
    obtain ⟨hk1,hke,hkl⟩:=hk
    rcases (by omega:k=0∨k=1∨k=2) with rfl | rfl | rfl
    ·refine Run.seq (Run.region (cx_ok _ _ _) (Reg.op rfl (Ope.lt rfl rfl ?_)))
     refine Reg.nil (Run.seq (Run.condX rfl (fun hc=>?_) fun hc=>?_))
     ·first
      |(exfalso;omega)
      |refine Run.skip (Run.seq (Run.block (Run.seq (Run.region (cx_ok _ _ _) ?_))))
       first
       | refine Reg.op rfl (Ope.idxS (m:=0) rfl rfl rfl rfl rfl ?_)
       | refine Reg.op rfl (Ope.idxS (m:=1) rfl rfl rfl rfl rfl ?_)
       refine Reg.op rfl (Ope.load rfl rfl ?_)
       refine Reg.op rfl (Ope.asg rfl ?_)
       refine Reg.nil (Run.seq (Run.region (cx_ok _ _ _) (Reg.op rfl (Ope.mov rfl ?_))))
       refine Reg.op rfl (Ope.load rfl rfl ?_)
       first
       | refine Reg.op rfl (Ope.imP rfl rfl (pm_order s) (hor _ hJw hjw) (hbw _) ?_)
       | refine Reg.op rfl (Ope.imP rfl rfl (pm_time _) (hti _ hjw) (hbt _) ?_)
       refine Reg.nil (Run.condX rfl (fun hc=>?_) fun hc=>?_)
       ·refine Run.exit (Jmp.past rfl (Jmp.code (Jmp.round (Jmp.past rfl (Jmp.code (Jmp.here (Run.region (cx_ok _ _ _) (Reg.op rfl (Ope.add rfl rfl (by omega) ?_)))))))))
        refine Reg.op rfl (Ope.mov rfl ?_)
        refine Reg.nil ?_
        first
        | exact Run.lend ⟨(x+1,m2,l2),by show jl - (x+1) < jl - x;omega,⟨by show x+1≤jl;omega,fun q hq=>ok_none hok2 hq,hf2⟩,⟨rfl,rfl,rfl,rfl,rfl,trivial⟩,rfl,rfl⟩
        | exact Run.lend ⟨(x+1,m+1,l'),by show jl - (x+1) < jl - x;omega,⟨by show x+1≤jl;omega,fun q hq=>hok' q (by simp only at hq;omega),Feed.mono (by show m≤m+1;omega) (by rw [← hno hlt (by rw [hc1,hc];rfl)];exact hf)⟩,⟨rfl,rfl,rfl,rfl,rfl,trivial⟩,rfl,rfl⟩
        | exact Run.lend ⟨(x+1,m+1,l'),by show jl - (x+1) < jl - x;omega,⟨by show x+1≤jl;omega,fun q hq=>hok' q (by simp only at hq;omega),Feed.mono (by show m≤m+1;omega) (by rw [← hno hlt (by rw [hc1,hke (by decide),hc];rfl)];exact hf)⟩,⟨rfl,rfl,rfl,rfl,rfl,trivial⟩,rfl,rfl⟩
        | exact Run.lend ⟨(x+1,m,l'),by show jl - (x+1) < jl - x;omega,⟨by show x+1≤jl;omega,fun q hq=>hok' q hq,(by rw [← hno hlt (by rw [hcan,(bit1 _ _).1 hc];rfl)];exact hf)⟩,⟨rfl,rfl,rfl,rfl,rfl,trivial⟩,rfl,rfl⟩
       ·refine Run.skip (Run.bend (Run.region (cx_ok _ _ _) (Reg.op rfl (Ope.add rfl rfl (by omega) ?_))))
        refine Reg.op rfl (Ope.mov rfl ?_)
        refine Reg.nil ?_
        first
        | exact Run.lend ⟨1,by decide,⟨by decide,fun _=>hc,fun h=>absurd h (by decide)⟩,⟨rfl,rfl,rfl,rfl,rfl,rfl,rfl,rfl,rfl,trivial⟩,rfl,rfl⟩
        | exact Run.lend ⟨2,by decide,⟨by decide,fun _=>hke (by decide),fun _=>hc⟩,⟨rfl,rfl,rfl,rfl,rfl,rfl,rfl,rfl,rfl,trivial⟩,rfl,rfl⟩
     ·first
      |(exfalso;omega)
      |refine Run.exit (Jmp.code (Jmp.round (Jmp.here (Run.seq ?_))))
       have hf':Feed P0 (.yld j) Rr ((W x).v::(s.nxtD p (x+1)).map fun i=>(W i).v) (m+1) l':=by
         rw [hyes hlt (by rw [hc1,hke (by decide),hkl (by decide)];rfl)] at hf
         exact Feed.mono (by omega) hf
       refine Run.region (cx_ok _ _ _) (Reg.op rfl (Ope.mov rfl ?_))
       refine Reg.op rfl (Ope.load rfl rfl ?_)
       refine Reg.op rfl (Ope.yld (own:=[]) (v:=(W x).v) rfl rfl (Owns.of (by simp) (by simp [keysB])) hf' (fun m2 l2 hm2 hok2 hno2 hf2=>?_) (fun m2 l2 hm2 hok2 hno2 hr2=>?_))
       ·refine Reg.op rfl (Ope.not rfl ?_)
        refine Reg.nil (Run.condX rfl (fun hc=>?_) fun hc=>?_)
        ·first
         |exact absurd hc (by decide)
         |refine Run.ret (Jmp.retB (Jmp.code (Jmp.round (Jmp.retB (Jmp.retS ?_)))))
          first
          | exact finH_ret .nil (Nat.le_refl _) hs_refl (hr2 _ (Nat.le_refl _) _)
          | exact finH_end .nil (Nat.le_refl _) hs_refl (by have hf3:=hf;rw [hend (by omega)] at hf3;exact hf3 _ (Nat.le_refl _) _)
        ·first
         |exact absurd hc (by decide)
         |refine Run.skip (Run.bend (Run.region (cx_ok _ _ _) (Reg.op rfl (Ope.add rfl rfl (by omega) ?_))))
          refine Reg.op rfl (Ope.mov rfl ?_)
          refine Reg.nil ?_
          first
          | exact Run.lend ⟨(x+1,m2,l2),by show jl - (x+1) < jl - x;omega,⟨by show x+1≤jl;omega,fun q hq=>ok_none hok2 hq,hf2⟩,⟨rfl,rfl,rfl,rfl,rfl,trivial⟩,rfl,rfl⟩
          | exact Run.lend ⟨(x+1,m+1,l'),by show jl - (x+1) < jl - x;omega,⟨by show x+1≤jl;omega,fun q hq=>hok' q (by simp only at hq;omega),Feed.mono (by show m≤m+1;omega) (by rw [← hno hlt (by rw [hc1,hc];rfl)];exact hf)⟩,⟨rfl,rfl,rfl,rfl,rfl,trivial⟩,rfl,rfl⟩
          | exact Run.lend ⟨(x+1,m+1,l'),by show jl - (x+1) < jl - x;omega,⟨by show x+1≤jl;omega,fun q hq=>hok' q (by simp only at hq;omega),Feed.mono (by show m≤m+1;omega) (by rw [← hno hlt (by rw [hc1,hke (by decide),hc];rfl)];exact hf)⟩,⟨rfl,rfl,rfl,rfl,rfl,trivial⟩,rfl,rfl⟩
          | exact Run.lend ⟨(x+1,m,l'),by show jl - (x+1) < jl - x;omega,⟨by show x+1≤jl;omega,fun q hq=>hok' q hq,(by rw [← hno hlt (by rw [hcan,(bit1 _ _).1 hc];rfl)];exact hf)⟩,⟨rfl,rfl,rfl,rfl,rfl,trivial⟩,rfl,rfl⟩
       ·refine Reg.op rfl (Ope.not rfl ?_)
        refine Reg.nil (Run.condX rfl (fun hc=>?_) fun hc=>?_)
        ·first
         |exact absurd hc (by decide)
         |refine Run.ret (Jmp.retB (Jmp.code (Jmp.round (Jmp.retB (Jmp.retS ?_)))))
          first
          | exact finH_ret .nil (Nat.le_refl _) hs_refl (hr2 _ (Nat.le_refl _) _)
          | exact finH_end .nil (Nat.le_refl _) hs_refl (by have hf3:=hf;rw [hend (by omega)] at hf3;exact hf3 _ (Nat.le_refl _) _)
        ·first
         |exact absurd hc (by decide)
         |refine Run.skip (Run.bend (Run.region (cx_ok _ _ _) (Reg.op rfl (Ope.add rfl rfl (by omega) ?_))))
          refine Reg.op rfl (Ope.mov rfl ?_)
          refine Reg.nil ?_
          first
          | exact Run.lend ⟨(x+1,m2,l2),by show jl - (x+1) < jl - x;omega,⟨by show x+1≤jl;omega,fun q hq=>ok_none hok2 hq,hf2⟩,⟨rfl,rfl,rfl,rfl,rfl,trivial⟩,rfl,rfl⟩
          | exact Run.lend ⟨(x+1,m+1,l'),by show jl - (x+1) < jl - x;omega,⟨by show x+1≤jl;omega,fun q hq=>hok' q (by simp only at hq;omega),Feed.mono (by show m≤m+1;omega) (by rw [← hno hlt (by rw [hc1,hc];rfl)];exact hf)⟩,⟨rfl,rfl,rfl,rfl,rfl,trivial⟩,rfl,rfl⟩
          | exact Run.lend ⟨(x+1,m+1,l'),by show jl - (x+1) < jl - x;omega,⟨by show x+1≤jl;omega,fun q hq=>hok' q (by simp only at hq;omega),Feed.mono (by show m≤m+1;omega) (by rw [← hno hlt (by rw [hc1,hke (by decide),hc];rfl)];exact hf)⟩,⟨rfl,rfl,rfl,rfl,rfl,trivial⟩,rfl,rfl⟩
          | exact Run.lend ⟨(x+1,m,l'),by show jl - (x+1) < jl - x;omega,⟨by show x+1≤jl;omega,fun q hq=>hok' q hq,(by rw [← hno hlt (by rw [hcan,(bit1 _ _).1 hc];rfl)];exact hf)⟩,⟨rfl,rfl,rfl,rfl,rfl,trivial⟩,rfl,rfl⟩
    ·refine Run.seq (Run.region (cx_ok _ _ _) (Reg.op rfl (Ope.lt rfl rfl ?_)))
     refine Reg.nil (Run.seq (Run.condX rfl (fun hc=>?_) fun hc=>?_))
     ·first
      |(exfalso;omega)
      |refine Run.skip (Run.seq (Run.block (Run.seq (Run.region (cx_ok _ _ _) ?_))))
       first
       | refine Reg.op rfl (Ope.idxS (m:=0) rfl rfl rfl rfl rfl ?_)
       | refine Reg.op rfl (Ope.idxS (m:=1) rfl rfl rfl rfl rfl ?_)
       refine Reg.op rfl (Ope.load rfl rfl ?_)
       refine Reg.op rfl (Ope.asg rfl ?_)
       refine Reg.nil (Run.seq (Run.region (cx_ok _ _ _) (Reg.op rfl (Ope.mov rfl ?_))))
       refine Reg.op rfl (Ope.load rfl rfl ?_)
       first
       | refine Reg.op rfl (Ope.imP rfl rfl (pm_order s) (hor _ hJw hjw) (hbw _) ?_)
       | refine Reg.op rfl (Ope.imP rfl rfl (pm_time _) (hti _ hjw) (hbt _) ?_)
       refine Reg.nil (Run.condX rfl (fun hc=>?_) fun hc=>?_)
       ·refine Run.exit (Jmp.past rfl (Jmp.code (Jmp.round (Jmp.past rfl (Jmp.code (Jmp.here (Run.region (cx_ok _ _ _) (Reg.op rfl (Ope.add rfl rfl (by omega) ?_)))))))))
        refine Reg.op rfl (Ope.mov rfl ?_)
        refine Reg.nil ?_
        first
        | exact Run.lend ⟨(x+1,m2,l2),by show jl - (x+1) < jl - x;omega,⟨by show x+1≤jl;omega,fun q hq=>ok_none hok2 hq,hf2⟩,⟨rfl,rfl,rfl,rfl,rfl,trivial⟩,rfl,rfl⟩
        | exact Run.lend ⟨(x+1,m+1,l'),by show jl - (x+1) < jl - x;omega,⟨by show x+1≤jl;omega,fun q hq=>hok' q (by simp only at hq;omega),Feed.mono (by show m≤m+1;omega) (by rw [← hno hlt (by rw [hc1,hc];rfl)];exact hf)⟩,⟨rfl,rfl,rfl,rfl,rfl,trivial⟩,rfl,rfl⟩
        | exact Run.lend ⟨(x+1,m+1,l'),by show jl - (x+1) < jl - x;omega,⟨by show x+1≤jl;omega,fun q hq=>hok' q (by simp only at hq;omega),Feed.mono (by show m≤m+1;omega) (by rw [← hno hlt (by rw [hc1,hke (by decide),hc];rfl)];exact hf)⟩,⟨rfl,rfl,rfl,rfl,rfl,trivial⟩,rfl,rfl⟩
        | exact Run.lend ⟨(x+1,m,l'),by show jl - (x+1) < jl - x;omega,⟨by show x+1≤jl;omega,fun q hq=>hok' q hq,(by rw [← hno hlt (by rw [hcan,(bit1 _ _).1 hc];rfl)];exact hf)⟩,⟨rfl,rfl,rfl,rfl,rfl,trivial⟩,rfl,rfl⟩
       ·refine Run.skip (Run.bend (Run.region (cx_ok _ _ _) (Reg.op rfl (Ope.add rfl rfl (by omega) ?_))))
        refine Reg.op rfl (Ope.mov rfl ?_)
        refine Reg.nil ?_
        first
        | exact Run.lend ⟨1,by decide,⟨by decide,fun _=>hc,fun h=>absurd h (by decide)⟩,⟨rfl,rfl,rfl,rfl,rfl,rfl,rfl,rfl,rfl,trivial⟩,rfl,rfl⟩
        | exact Run.lend ⟨2,by decide,⟨by decide,fun _=>hke (by decide),fun _=>hc⟩,⟨rfl,rfl,rfl,rfl,rfl,rfl,rfl,rfl,rfl,trivial⟩,rfl,rfl⟩
     ·first
      |(exfalso;omega)
      |refine Run.exit (Jmp.code (Jmp.round (Jmp.here (Run.seq ?_))))
       have hf':Feed P0 (.yld j) Rr ((W x).v::(s.nxtD p (x+1)).map fun i=>(W i).v) (m+1) l':=by
         rw [hyes hlt (by rw [hc1,hke (by decide),hkl (by decide)];rfl)] at hf
         exact Feed.mono (by omega) hf
       refine Run.region (cx_ok _ _ _) (Reg.op rfl (Ope.mov rfl ?_))
       refine Reg.op rfl (Ope.load rfl rfl ?_)
       refine Reg.op rfl (Ope.yld (own:=[]) (v:=(W x).v) rfl rfl (Owns.of (by simp) (by simp [keysB])) hf' (fun m2 l2 hm2 hok2 hno2 hf2=>?_) (fun m2 l2 hm2 hok2 hno2 hr2=>?_))
       ·refine Reg.op rfl (Ope.not rfl ?_)
        refine Reg.nil (Run.condX rfl (fun hc=>?_) fun hc=>?_)
        ·first
         |exact absurd hc (by decide)
         |refine Run.ret (Jmp.retB (Jmp.code (Jmp.round (Jmp.retB (Jmp.retS ?_)))))
          first
          | exact finH_ret .nil (Nat.le_refl _) hs_refl (hr2 _ (Nat.le_refl _) _)
          | exact finH_end .nil (Nat.le_refl _) hs_refl (by have hf3:=hf;rw [hend (by omega)] at hf3;exact hf3 _ (Nat.le_refl _) _)
        ·first
         |exact absurd hc (by decide)
         |refine Run.skip (Run.bend (Run.region (cx_ok _ _ _) (Reg.op rfl (Ope.add rfl rfl (by omega) ?_))))
          refine Reg.op rfl (Ope.mov rfl ?_)
          refine Reg.nil ?_
          first
          | exact Run.lend ⟨(x+1,m2,l2),by show jl - (x+1) < jl - x;omega,⟨by show x+1≤jl;omega,fun q hq=>ok_none hok2 hq,hf2⟩,⟨rfl,rfl,rfl,rfl,rfl,trivial⟩,rfl,rfl⟩
          | exact Run.lend ⟨(x+1,m+1,l'),by show jl - (x+1) < jl - x;omega,⟨by show x+1≤jl;omega,fun q hq=>hok' q (by simp only at hq;omega),Feed.mono (by show m≤m+1;omega) (by rw [← hno hlt (by rw [hc1,hc];rfl)];exact hf)⟩,⟨rfl,rfl,rfl,rfl,rfl,trivial⟩,rfl,rfl⟩
          | exact Run.lend ⟨(x+1,m+1,l'),by show jl - (x+1) < jl - x;omega,⟨by show x+1≤jl;omega,fun q hq=>hok' q (by simp only at hq;omega),Feed.mono (by show m≤m+1;omega) (by rw [← hno hlt (by rw [hc1,hke (by decide),hc];rfl)];exact hf)⟩,⟨rfl,rfl,rfl,rfl,rfl,trivial⟩,rfl,rfl⟩
          | exact Run.lend ⟨(x+1,m,l'),by show jl - (x+1) < jl - x;omega,⟨by show x+1≤jl;omega,fun q hq=>hok' q hq,(by rw [← hno hlt (by rw [hcan,(bit1 _ _).1 hc];rfl)];exact hf)⟩,⟨rfl,rfl,rfl,rfl,rfl,trivial⟩,rfl,rfl⟩
       ·refine Reg.op rfl (Ope.not rfl ?_)
        refine Reg.nil (Run.condX rfl (fun hc=>?_) fun hc=>?_)
        ·first
         |exact absurd hc (by decide)
         |refine Run.ret (Jmp.retB (Jmp.code (Jmp.round (Jmp.retB (Jmp.retS ?_)))))
          first
          | exact finH_ret .nil (Nat.le_refl _) hs_refl (hr2 _ (Nat.le_refl _) _)
          | exact finH_end .nil (Nat.le_refl _) hs_refl (by have hf3:=hf;rw [hend (by omega)] at hf3;exact hf3 _ (Nat.le_refl _) _)
        ·first
         |exact absurd hc (by decide)
         |refine Run.skip (Run.bend (Run.region (cx_ok _ _ _) (Reg.op rfl (Ope.add rfl rfl (by omega) ?_))))
          refine Reg.op rfl (Ope.mov rfl ?_)
          refine Reg.nil ?_
          first
          | exact Run.lend ⟨(x+1,m2,l2),by show jl - (x+1) < jl - x;omega,⟨by show x+1≤jl;omega,fun q hq=>ok_none hok2 hq,hf2⟩,⟨rfl,rfl,rfl,rfl,rfl,trivial⟩,rfl,rfl⟩
          | exact Run.lend ⟨(x+1,m+1,l'),by show jl - (x+1) < jl - x;omega,⟨by show x+1≤jl;omega,fun q hq=>hok' q (by simp only at hq;omega),Feed.mono (by show m≤m+1;omega) (by rw [← hno hlt (by rw [hc1,hc];rfl)];exact hf)⟩,⟨rfl,rfl,rfl,rfl,rfl,trivial⟩,rfl,rfl⟩
          | exact Run.lend ⟨(x+1,m+1,l'),by show jl - (x+1) < jl - x;omega,⟨by show x+1≤jl;omega,fun q hq=>hok' q (by simp only at hq;omega),Feed.mono (by show m≤m+1;omega) (by rw [← hno hlt (by rw [hc1,hke (by decide),hc];rfl)];exact hf)⟩,⟨rfl,rfl,rfl,rfl,rfl,trivial⟩,rfl,rfl⟩
          | exact Run.lend ⟨(x+1,m,l'),by show jl - (x+1) < jl - x;omega,⟨by show x+1≤jl;omega,fun q hq=>hok' q hq,(by rw [← hno hlt (by rw [hcan,(bit1 _ _).1 hc];rfl)];exact hf)⟩,⟨rfl,rfl,rfl,rfl,rfl,trivial⟩,rfl,rfl⟩
    ·refine Run.seq (Run.region (cx_ok _ _ _) (Reg.op rfl (Ope.lt rfl rfl ?_)))
     refine Reg.nil (Run.seq (Run.condX rfl (fun hc=>?_) fun hc=>?_))
     ·first
      |(exfalso;omega)
      |refine Run.skip (Run.seq (Run.block (Run.seq (Run.region (cx_ok _ _ _) ?_))))
       first
       | refine Reg.op rfl (Ope.idxS (m:=0) rfl rfl rfl rfl rfl ?_)
       | refine Reg.op rfl (Ope.idxS (m:=1) rfl rfl rfl rfl rfl ?_)
       refine Reg.op rfl (Ope.load rfl rfl ?_)
       refine Reg.op rfl (Ope.asg rfl ?_)
       refine Reg.nil (Run.seq (Run.region (cx_ok _ _ _) (Reg.op rfl (Ope.mov rfl ?_))))
       refine Reg.op rfl (Ope.load rfl rfl ?_)
       first
       | refine Reg.op rfl (Ope.imP rfl rfl (pm_order s) (hor _ hJw hjw) (hbw _) ?_)
       | refine Reg.op rfl (Ope.imP rfl rfl (pm_time _) (hti _ hjw) (hbt _) ?_)
       refine Reg.nil (Run.condX rfl (fun hc=>?_) fun hc=>?_)
       ·refine Run.exit (Jmp.past rfl (Jmp.code (Jmp.round (Jmp.past rfl (Jmp.code (Jmp.here (Run.region (cx_ok _ _ _) (Reg.op rfl (Ope.add rfl rfl (by omega) ?_)))))))))
        refine Reg.op rfl (Ope.mov rfl ?_)
        refine Reg.nil ?_
        first
        | exact Run.lend ⟨(x+1,m2,l2),by show jl - (x+1) < jl - x;omega,⟨by show x+1≤jl;omega,fun q hq=>ok_none hok2 hq,hf2⟩,⟨rfl,rfl,rfl,rfl,rfl,trivial⟩,rfl,rfl⟩
        | exact Run.lend ⟨(x+1,m+1,l'),by show jl - (x+1) < jl - x;omega,⟨by show x+1≤jl;omega,fun q hq=>hok' q (by simp only at hq;omega),Feed.mono (by show m≤m+1;omega) (by rw [← hno hlt (by rw [hc1,hc];rfl)];exact hf)⟩,⟨rfl,rfl,rfl,rfl,rfl,trivial⟩,rfl,rfl⟩
        | exact Run.lend ⟨(x+1,m+1,l'),by show jl - (x+1) < jl - x;omega,⟨by show x+1≤jl;omega,fun q hq=>hok' q (by simp only at hq;omega),Feed.mono (by show m≤m+1;omega) (by rw [← hno hlt (by rw [hc1,hke (by decide),hc];rfl)];exact hf)⟩,⟨rfl,rfl,rfl,rfl,rfl,trivial⟩,rfl,rfl⟩
        | exact Run.lend ⟨(x+1,m,l'),by show jl - (x+1) < jl - x;omega,⟨by show x+1≤jl;omega,fun q hq=>hok' q hq,(by rw [← hno hlt (by rw [hcan,(bit1 _ _).1 hc];rfl)];exact hf)⟩,⟨rfl,rfl,rfl,rfl,rfl,trivial⟩,rfl,rfl⟩
       ·refine Run.skip (Run.bend (Run.region (cx_ok _ _ _) (Reg.op rfl (Ope.add rfl rfl (by omega) ?_))))
        refine Reg.op rfl (Ope.mov rfl ?_)
        refine Reg.nil ?_
        first
        | exact Run.lend ⟨1,by decide,⟨by decide,fun _=>hc,fun h=>absurd h (by decide)⟩,⟨rfl,rfl,rfl,rfl,rfl,rfl,rfl,rfl,rfl,trivial⟩,rfl,rfl⟩
        | exact Run.lend ⟨2,by decide,⟨by decide,fun _=>hke (by decide),fun _=>hc⟩,⟨rfl,rfl,rfl,rfl,rfl,rfl,rfl,rfl,rfl,trivial⟩,rfl,rfl⟩
     ·first
      |(exfalso;omega)
      |refine Run.exit (Jmp.code (Jmp.round (Jmp.here (Run.seq ?_))))
       have hf':Feed P0 (.yld j) Rr ((W x).v::(s.nxtD p (x+1)).map fun i=>(W i).v) (m+1) l':=by
         rw [hyes hlt (by rw [hc1,hke (by decide),hkl (by decide)];rfl)] at hf
         exact Feed.mono (by omega) hf
       refine Run.region (cx_ok _ _ _) (Reg.op rfl (Ope.mov rfl ?_))
       refine Reg.op rfl (Ope.load rfl rfl ?_)
       refine Reg.op rfl (Ope.yld (own:=[]) (v:=(W x).v) rfl rfl (Owns.of (by simp) (by simp [keysB])) hf' (fun m2 l2 hm2 hok2 hno2 hf2=>?_) (fun m2 l2 hm2 hok2 hno2 hr2=>?_))
       ·refine Reg.op rfl (Ope.not rfl ?_)
        refine Reg.nil (Run.condX rfl (fun hc=>?_) fun hc=>?_)
        ·first
         |exact absurd hc (by decide)
         |refine Run.ret (Jmp.retB (Jmp.code (Jmp.round (Jmp.retB (Jmp.retS ?_)))))
          first
          | exact finH_ret .nil (Nat.le_refl _) hs_refl (hr2 _ (Nat.le_refl _) _)
          | exact finH_end .nil (Nat.le_refl _) hs_refl (by have hf3:=hf;rw [hend (by omega)] at hf3;exact hf3 _ (Nat.le_refl _) _)
        ·first
         |exact absurd hc (by decide)
         |refine Run.skip (Run.bend (Run.region (cx_ok _ _ _) (Reg.op rfl (Ope.add rfl rfl (by omega) ?_))))
          refine Reg.op rfl (Ope.mov rfl ?_)
          refine Reg.nil ?_
          first
          | exact Run.lend ⟨(x+1,m2,l2),by show jl - (x+1) < jl - x;omega,⟨by show x+1≤jl;omega,fun q hq=>ok_none hok2 hq,hf2⟩,⟨rfl,rfl,rfl,rfl,rfl,trivial⟩,rfl,rfl⟩
          | exact Run.lend ⟨(x+1,m+1,l'),by show jl - (x+1) < jl - x;omega,⟨by show x+1≤jl;omega,fun q hq=>hok' q (by simp only at hq;omega),Feed.mono (by show m≤m+1;omega) (by rw [← hno hlt (by rw [hc1,hc];rfl)];exact hf)⟩,⟨rfl,rfl,rfl,rfl,rfl,trivial⟩,rfl,rfl⟩
          | exact Run.lend ⟨(x+1,m+1,l'),by show jl - (x+1) < jl - x;omega,⟨by show x+1≤jl;omega,fun q hq=>hok' q (by simp only at hq;omega),Feed.mono (by show m≤m+1;omega) (by rw [← hno hlt (by rw [hc1,hke (by decide),hc];rfl)];exact hf)⟩,⟨rfl,rfl,rfl,rfl,rfl,trivial⟩,rfl,rfl⟩
          | exact Run.lend ⟨(x+1,m,l'),by show jl - (x+1) < jl - x;omega,⟨by show x+1≤jl;omega,fun q hq=>hok' q hq,(by rw [← hno hlt (by rw [hcan,(bit1 _ _).1 hc];rfl)];exact hf)⟩,⟨rfl,rfl,rfl,rfl,rfl,trivial⟩,rfl,rfl⟩
       ·refine Reg.op rfl (Ope.not rfl ?_)
        refine Reg.nil (Run.condX rfl (fun hc=>?_) fun hc=>?_)
        ·first
         |exact absurd hc (by decide)
         |refine Run.ret (Jmp.retB (Jmp.code (Jmp.round (Jmp.retB (Jmp.retS ?_)))))
          first
          | exact finH_ret .nil (Nat.le_refl _) hs_refl (hr2 _ (Nat.le_refl _) _)
          | exact finH_end .nil (Nat.le_refl _) hs_refl (by have hf3:=hf;rw [hend (by omega)] at hf3;exact hf3 _ (Nat.le_refl _) _)
        ·first
         |exact absurd hc (by decide)
         |refine Run.skip (Run.bend (Run.region (cx_ok _ _ _) (Reg.op rfl (Ope.add rfl rfl (by omega) ?_))))
          refine Reg.op rfl (Ope.mov rfl ?_)
          refine Reg.nil ?_
          first
          | exact Run.lend ⟨(x+1,m2,l2),by show jl - (x+1) < jl - x;omega,⟨by show x+1≤jl;omega,fun q hq=>ok_none hok2 hq,hf2⟩,⟨rfl,rfl,rfl,rfl,rfl,trivial⟩,rfl,rfl⟩
          | exact Run.lend ⟨(x+1,m+1,l'),by show jl - (x+1) < jl - x;omega,⟨by show x+1≤jl;omega,fun q hq=>hok' q (by simp only at hq;omega),Feed.mono (by show m≤m+1;omega) (by rw [← hno hlt (by rw [hc1,hc];rfl)];exact hf)⟩,⟨rfl,rfl,rfl,rfl,rfl,trivial⟩,rfl,rfl⟩
          | exact Run.lend ⟨(x+1,m+1,l'),by show jl - (x+1) < jl - x;omega,⟨by show x+1≤jl;omega,fun q hq=>hok' q (by simp only at hq;omega),Feed.mono (by show m≤m+1;omega) (by rw [← hno hlt (by rw [hc1,hke (by decide),hc];rfl)];exact hf)⟩,⟨rfl,rfl,rfl,rfl,rfl,trivial⟩,rfl,rfl⟩
          | exact Run.lend ⟨(x+1,m,l'),by show jl - (x+1) < jl - x;omega,⟨by show x+1≤jl;omega,fun q hq=>hok' q hq,(by rw [← hno hlt (by rw [hcan,(bit1 _ _).1 hc];rfl)];exact hf)⟩,⟨rfl,rfl,rfl,rfl,rfl,trivial⟩,rfl,rfl⟩
  ·refine Run.exit (Jmp.code (Jmp.round (Jmp.here (Run.send ?_))))
   first
   | exact finH_ret .nil (Nat.le_refl _) hs_refl (hr2 _ (Nat.le_refl _) _)
   | exact finH_end .nil (Nat.le_refl _) hs_refl (by have hf3:=hf;rw [hend (by omega)] at hf3;exact hf3 _ (Nat.le_refl _) _)
end
end Go.Pv
namespace Go.Pv
open Go.Proofs Go.Am
set_option maxRecDepth 10000
def lft:Nat→Nat→Nat
  | 0,_=>0
  | n+1,J=>lft n J+(if J.testBit n=true then 0 else 1)
theorem or_bit (J i q:Nat):(J ||| 1 * 2 ^ i).testBit q=(J.testBit q || decide (i=q)):=by
  rw [Nat.testBit_or,Nat.one_mul,Nat.testBit_two_pow]
theorem lft_same {J i:Nat}:∀ n,n≤i→lft n (J ||| 1 * 2 ^ i)=lft n J
  | 0,_=>rfl
  | n + 1, h => by
    have ih:=lft_same (J:=J) (i:=i) n (by omega)
    simp only [lft,ih,or_bit]
    rw [decide_eq_false (show ¬ i=n by omega),Bool.or_false]
theorem lft_set {J i:Nat} (hJ:J.testBit i=false):∀ n,i < n→lft n (J ||| 1 * 2 ^ i)+1=lft n J
  | 0,h=>absurd h (Nat.not_lt_zero _)
  | n + 1, h => by
    simp only [lft,or_bit]
    by_cases hi:i=n
    · subst hi
      rw [lft_same i (Nat.le_refl _),hJ]
      simp
    · rw [decide_eq_false hi, Bool.or_false]
      have:=lft_set hJ n (by omega)
      omega
theorem lft_zero {J : Nat} : ∀ n, lft n J = 0 ↔ ∀ i, i < n → J.testBit i = true
  | 0=>by simp [lft]
  | n + 1 => by
    simp only [lft]
    constructor
    · intro h i hi
      by_cases hin:i=n
      · subst hin
        cases hb:J.testBit i with
        | true=>rfl
        | false=>rw [hb] at h;simp at h
      · exact (lft_zero n).1 (by omega) i (by omega)
    · intro h
      rw [(lft_zero n).2 fun i hi=>h i (by omega),h n (Nat.lt_succ_self _)]
      rfl
theorem lft_le {J:Nat}:∀ n,lft n J≤n
  | 0=>Nat.le_refl _
  | n + 1 => by
    have:=lft_le (J:=J) n
    simp only [lft]
    split<;>omega
theorem lft_all {n J:Nat} (hJ:J < 2 ^ n):lft n J=0↔J=allN n:=by
  rw [lft_zero]
  constructor
  · intro h
    refine Nat.eq_of_testBit_eq fun q=>?_
    unfold allN
    rw [Nat.one_mul,Nat.testBit_two_pow_sub_one]
    by_cases hq:q < n
    · rw [h q hq,decide_eq_true hq]
    · rw [Nat.testBit_lt_two_pow (Nat.lt_of_lt_of_le hJ (Nat.pow_le_pow_right (by decide) (by omega))),decide_eq_false hq]
  · rintro rfl i hi
    unfold allN
    rw [Nat.one_mul,Nat.testBit_two_pow_sub_one]
    exact decide_eq_true hi
theorem or_lt {n J i:Nat} (hJ:J < 2 ^ n) (hi:i < n):J ||| 1 * 2 ^ i < 2 ^ n:=Nat.or_lt_two_pow hJ (by rw [Nat.one_mul];exact Nat.pow_lt_pow_right (by decide) hi)
structure Pst.good (p:Pst) (n:Nat) (k:Nat):Prop where
  J:p.J < 2 ^ n
  l:lft n p.J=k
  b:p.ok (10000 - 430 * k)
theorem good_next {s:Shp} {H:Int} (hs:s.ok H) {p:Pst} {k:Nat} (hp:p.good s.jo.length (k+1)) (hk:k≤6) {i:Nat} (hi:i < s.jo.length) (hb:p.J.testBit i=false):(s.aft (s.wrk p i)).good s.jo.length k∧(s.wrk p i).ok (10000 - 430 * k):=by
  have h1:=wrk_ok hs hp.b (by omega) hi
  have e:(10000 - 430 * ((k+1:Nat):Int))+430=10000 - 430 * k:=by omega
  rw [e] at h1
  refine ⟨⟨or_lt hp.J hi,?_,aft_ok h1⟩,h1⟩
  have:=lft_set hb s.jo.length hi
  have:=hp.l
  show lft _ (p.J ||| 1 * 2 ^ i)=k
  omega
theorem fin_bd {s:Shp} {H b:Int} (hs:s.ok H) {w:Wrk} (hw:w.ok b) (hb:b≤1000000) (hj:w.j < s.jo.length):0≤s.fin w∧s.fin w≤50000000:=by
  have hc:=(hs.job hj).co
  have hso:=(hs.job hj).so
  have hd:=hw.d1
  unfold Shp.fin
  refine ⟨Int.mul_nonneg hc.1 (by omega),?_⟩
  have:(s.job w.j).co * max 0 (w.d1 - (s.job w.j).so)≤50 * 1000000:=Int.mul_le_mul hc.2 (by omega) (by omega) (by decide)
  omega
theorem nxt_J {s:Shp} {p:Pst} {i:Nat} (h:i∈s.nxt p):i < s.jo.length∧p.J.testBit i=false:=by
  obtain ⟨h1,h2⟩:=nxt_lt h
  simp only [Shp.can,Bool.and_eq_true,Bool.not_eq_true'] at h2
  exact ⟨h1,h2.1⟩
theorem sqs_bd {s : Shp} {H : Int} (hs : s.ok H) : ∀ (k : Nat) (p : Pst), p.good s.jo.length k → k ≤ 6 → (s.sqs k p).length ≤ 6 ^ k ∧ ∀ q ∈ s.sqs k p, (0 ≤ q.c ∧ q.c ≤ 50000000 * k) ∧ (0 ≤ q.t ∧ q.t ≤ 10000) ∧ q.o.length = k
  | 0,p,hp,_=>⟨by simp [Shp.sqs],fun q hq=>by
      simp only [Shp.sqs,List.mem_singleton] at hq
      subst hq
      have:=hp.b.f1
      exact ⟨⟨Int.le_refl _,by show (0:Int)≤_;omega⟩,⟨this.1,by show p.f1≤_;omega⟩,rfl⟩⟩
  | k + 1, p, hp, hk => by
    have hgo:∀ i,i∈s.nxt p→(s.aft (s.wrk p i)).good s.jo.length k∧(s.wrk p i).ok (10000 - 430 * k):=fun i hi=>good_next hs hp (by omega) (nxt_J hi).1 (nxt_J hi).2
    have ih:=fun i (hi:i∈s.nxt p)=>sqs_bd hs k (s.aft (s.wrk p i)) (hgo i hi).1 (by omega)
    have hgw:=fun i (hi:i∈s.nxt p)=>(hgo i hi).2
    refine ⟨?_,fun q hq=>?_⟩
    · rw [Shp.sqs, List.length_flatMap]
      have hlen:(s.nxt p).length≤6:=Nat.le_trans (List.length_filter_le _ _) (by rw [List.length_range];exact hs.jo)
      have hsum:∀ L:List Nat,(∀ i∈L,i∈s.nxt p)→(L.map fun i=>((s.sqs k (s.aft (s.wrk p i))).map fun q=>(⟨i::q.o,s.fin (s.wrk p i)+q.c,q.t⟩:Sq)).length).sum≤L.length * 6 ^ k:=by
        intro L
        induction L with
        | nil=>intro _;simp
        | cons i L ihL =>
          intro hL
          have h1:=ihL fun j hj=>hL j (List.mem_cons_of_mem _ hj)
          have h2:=(ih i (hL i (by simp))).1
          simp only [List.map_cons,List.sum_cons,List.length_map,List.length_cons] at h1 ⊢
          rw [Nat.succ_mul]
          omega
      have h3:=hsum (s.nxt p) fun i hi=>hi
      have h4:(s.nxt p).length * 6 ^ k≤6 * 6 ^ k:=Nat.mul_le_mul_right _ hlen
      rw [Nat.pow_succ]
      omega
    · rw [Shp.sqs] at hq
      obtain ⟨i,hi,hq⟩:=List.mem_flatMap.1 hq
      obtain ⟨q',hq',rfl⟩:=List.mem_map.1 hq
      obtain ⟨⟨a1,a2⟩,⟨a3,a4⟩,a5⟩:=(ih i hi).2 q' hq'
      have hf:=fin_bd hs (hgw i hi) (by omega) (nxt_lt (s:=s) (p:=p) hi).1
      exact ⟨⟨by show 0≤s.fin _+q'.c;omega,by show s.fin _+q'.c≤50000000 * ((k+1:Nat):Int);omega⟩,⟨a3,a4⟩,by simp [a5]⟩
theorem out_ok {s:Shp} {H:Int} (hs:s.ok H) {k:Nat} {p:Pst} (hp:p.good s.jo.length k) (hk:k≤6):(s.out k p).ok:=by
  obtain ⟨h1,h2⟩:=sqs_bd hs k p hp hk
  have h6:6 ^ k≤6 ^ 6:=Nat.pow_le_pow_right (by decide) hk
  unfold Shp.out
  cases hq:s.sqs k p with
  | nil=>exact ⟨by decide,by decide,by decide,by decide⟩
  | cons a l =>
    rw [hq] at h1 h2
    have hc:=h2 _ (leastBy_mem Sq.c l a)
    have ht:=h2 _ (leastBy_mem Sq.t l a)
    refine ⟨?_,⟨hc.1.1,?_⟩,⟨ht.2.1.1,?_⟩,?_⟩
    · simp only [List.length_cons] at h1
      show l.length+1≤_
      omega
    · show (leastBy Sq.c a l).c ≤ _
      have:=hc.1.2
      omega
    · show (leastBy Sq.t a l).t ≤ _
      have:=ht.2.1.2
      omega
    · show (leastBy Sq.c a l).o.length ≤ _
      have:=hc.2.2
      omega
theorem out1_ok {s:Shp} {H:Int} (hs:s.ok H) {k:Nat} {p:Pst} (hp:p.good s.jo.length (k+1)) (hk:k+1≤6) {i:Nat} (hi:i < s.jo.length) (hb:p.J.testBit i=false):(s.out1 k (s.wrk p i)).ok:=by
  obtain ⟨g1,g2⟩:=good_next hs hp (by omega) hi hb
  obtain ⟨h1,h2⟩:=sqs_bd hs k _ g1 (by omega)
  have hf:=fin_bd hs g2 (by omega) hi
  have ho:=out_ok hs g1 (by omega)
  have hlen:(s.out k (s.aft (s.wrk p i))).o.length≤6∧(s.out k (s.aft (s.wrk p i))).c≤300000000:=by
    unfold Shp.out
    cases hq:s.sqs k (s.aft (s.wrk p i)) with
    | nil=>exact ⟨by simp [olk],by simp [olk]⟩
    | cons a l =>
      rw [hq] at h2
      have hc:=h2 _ (leastBy_mem Sq.c l a)
      exact ⟨by show (leastBy Sq.c a l).o.length≤_;omega,by show (leastBy Sq.c a l).c≤_;omega⟩
  exact ⟨ho.n,⟨by show 0≤s.fin _+_;have:=ho.c;omega,by show s.fin _+_≤_;omega⟩,ho.t,by show (_::_:List Nat).length≤_;simp only [List.length_cons];omega⟩
def keyW (w:Wrk):AV:=.agg [.int .i64 w.p.J,.int .i64 w.p.kd,.int .i64 w.p.f0,.int .i64 w.p.f1,.int .i64 w.j,.int .i64 w.d0,.int .i64 w.d1]
theorem keyW_of (w:Wrk):PV.toAV w.v=some (keyW w):=rfl
theorem keyW_check (w:Wrk):acheck A0 20 107 (keyW w)=true:=by kernel_rfl
theorem keyW_same (w:Wrk):asame 20 (keyW w) (keyW w)=true:=by simp [keyW,asame,asames]
theorem keyW_inj {w w':Wrk} (h:keyW w=keyW w'):w=w':=by
  obtain ⟨⟨a,b,c,d⟩,e,f,g⟩:=w
  obtain ⟨⟨a',b',c',d'⟩,e',f',g'⟩:=w'
  simp only [keyW,AV.agg.injEq,List.cons.injEq,AV.int.injEq,true_and,and_true] at h
  obtain ⟨h1,h2,h3,h4,h5,h6,h7⟩:=h
  have:a=a':=by omega
  have:e=e':=by omega
  subst_vars
  rfl
def bnd2 (x k:Option Bool):Option Bool :=
  match x with
  | some true=>k
  | some false=>some false
  | none=>none
theorem keyW_chain (w w':Wrk):aeqv A0 E0 20 107 (keyW w) (keyW w') =
    bnd2 (bnd2 (some (((w.p.J:Nat):Int) == ((w'.p.J:Nat):Int))) (bnd2 (some (w.p.kd == w'.p.kd)) (bnd2 (bnd2 (some (w.p.f0 == w'.p.f0)) (bnd2 (some (w.p.f1 == w'.p.f1)) (some true))) (some true))))
      (bnd2 (some (((w.j:Nat):Int) == ((w'.j:Nat):Int))) (bnd2 (bnd2 (some (w.d0 == w'.d0)) (bnd2 (some (w.d1 == w'.d1)) (some true))) (some true))):=by kernel_rfl
theorem bnd2_some (a b:Bool):bnd2 (some a) (some b)=some (a && b):=by cases a<;>rfl
theorem keyW_eq (w w':Wrk):∃ b,aeqv A0 E0 20 107 (keyW w) (keyW w')=some b∧(b=true→keyW w'=keyW w):=by
  rw [keyW_chain]
  simp only [bnd2_some]
  refine ⟨_,rfl,fun h=>?_⟩
  simp only [Bool.and_eq_true,beq_iff_eq,Bool.and_true] at h
  obtain ⟨⟨h1,h2,h3,h4⟩,h5,h6,h7⟩:=h
  simp only [keyW,h1,h2,h3,h4,h5,h6,h7]
def MemoW (V:Wrk→PV) (es:List (AV×PV×Nat)):Prop:=∀ e∈es,∃ w:Wrk,e.1=keyW w∧e.2.1=V w
section
variable {V:Wrk→PV} {es:List (AV×PV×Nat)}
theorem MemoW.find (w:Wrk):∀ (es:List (AV×PV×Nat)) (i:Nat),MemoW V es→∃ r,pfind A0 E0 107 (keyW w) es i=some r∧∀ j v,r=some (j,v)→i≤j∧v=V w∧∃ e,es[j - i]?=some e∧e.1=keyW w
  | [],i,_=>⟨none,rfl,fun j v h=>by cases h⟩
  | e :: es, i, hm => by
    obtain ⟨w',hw',hv'⟩:=hm e (by simp)
    obtain ⟨b,hb1,hb2⟩:=keyW_eq w w'
    simp only [pfind,hw',hb1]
    cases b with
    | true =>
      have he:=hb2 rfl
      have hww:=keyW_inj he
      exact ⟨_,rfl,fun j v h=>by cases h;exact ⟨Nat.le_refl _,by rw [hv',hww],e,by simp,by rw [hw',he]⟩⟩
    | false =>
      obtain ⟨r,hr1,hr2⟩:=MemoW.find w es (i+1) fun x hx=>hm x (List.mem_cons_of_mem _ hx)
      refine ⟨r,hr1,fun j v h=>?_⟩
      obtain ⟨h1,h0,e',h2,h3⟩:=hr2 j v h
      refine ⟨by omega,h0,e',?_,h3⟩
      rw [show j - i=(j - (i+1))+1 from by omega]
      simpa using h2
theorem MemoW.bd {n:Nat} (hV:∀ w,(V w).bd n=true) (hm:MemoW V es):∀ e∈es,e.2.1.bd n=true:=by
  intro e he
  obtain ⟨w,_,h⟩:=hm e he
  rw [h];exact hV w
theorem MemoW.app {w:Wrk} {clock:Nat} (hm:MemoW V es):MemoW V (es++[(keyW w,V w,clock)]):=by
  intro e he
  rcases List.mem_append.1 he with he | he
  · exact hm e he
  · simp only [List.mem_singleton] at he
    subst he
    exact ⟨w,rfl,rfl⟩
theorem mem_psetAt:∀ {es:List (AV×PV×Nat)} {j:Nat} {ka:AV} {v:PV} {e:AV×PV×Nat},e∈psetAt es j ka v→e∈es∨(e.1=ka∧e.2.1=v)
  | [],_,_,_,_,h=>by simp [psetAt] at h
  | x :: es, 0, ka, v, e, h => by
    simp only [psetAt,List.mem_cons] at h
    rcases h with rfl | h
    · exact .inr ⟨rfl,rfl⟩
    · exact .inl (List.mem_cons_of_mem _ h)
  | x :: es, j + 1, ka, v, e, h => by
    simp only [psetAt,List.mem_cons] at h
    rcases h with rfl | h
    · exact .inl (List.mem_cons_self ..)
    · exact (mem_psetAt h).imp (List.mem_cons_of_mem _) id
theorem MemoW.set {w:Wrk} {j:Nat} (hm:MemoW V es):MemoW V (psetAt es j (keyW w) (V w)):=by
  intro e he
  rcases mem_psetAt he with he | ⟨h1,h2⟩
  · exact hm e he
  · exact ⟨w,h1,h2⟩
end
end Go.Pv
namespace Go.Pv
open Go.Proofs Go.Am
set_option maxRecDepth 10000
instance:Mpt A0 134 107 (.agg [I 0,I 0,.sl .ex [],I 0]):=⟨by kernel_rfl⟩
theorem bds_mapN {α:Type} {f:α→PV} {n:Nat} (hf:∀ a,(f a).bd n=true):∀ xs:List α,PV.bds n (xs.map f)=true
  | []=>rfl
  | x::xs=>by simp only [List.map_cons,PV.bds,hf x,bds_mapN hf xs,Bool.and_self]
theorem bd_slN {α:Type} {f:α→PV} {n:Nat} {tl:Tail} (htl:tl.isOwn=false) (hf:∀ a,(f a).bd n=true) (xs:List α):(PV.sl tl (xs.map f)).bd n=true:=by
  cases tl<;>simp only [Tail.isOwn,Bool.true_eq_false] at htl<;>simp [PV.bd,bds_mapN hf]
theorem bd_shN (s:Shp) {t1 t2:Tail} (h1:t1.isOwn=false) (h2:t2.isOwn=false) (n:Nat):PV.bd n (s.v t1 t2)=true:=by
  simp only [PV.bd,PV.bds,bd_slN (f:=I) h1 (fun _=>rfl),bd_slN (f:=Job.v) h2 (fun _=>rfl),Bool.and_true]
theorem bds_consN {n:Nat} {v:PV} {vs:List PV} (h:PV.bd n v=true) (h':PV.bds n vs=true):PV.bds n (v::vs)=true:=by
  simp only [PV.bds,h,h',Bool.and_self]
def VO (s:Shp) (w:Wrk):PV:=(s.out1 (lft s.jo.length w.p.J - 1) w).v
theorem VO_bd (s:Shp) (n:Nat) (w:Wrk):(VO s w).bd n=true:=bd_olk n _
theorem VO_at {s:Shp} {k:Nat} {w:Wrk} (h:lft s.jo.length w.p.J=k+1):VO s w=(s.out1 k w).v:=by
  unfold VO
  rw [h,Nat.add_sub_cancel]
def outsI (s:Shp) (k:Nat) (p:Pst) (q:Nat):List Olk:=(((s.nxt p).take q).map fun i=>s.out1 k (s.wrk p i)).filter fun o=>decide (0 < o.n)
theorem outsI_succ {s:Shp} {k:Nat} {p:Pst} {q i:Nat} (h:(s.nxt p)[q]?=some i):outsI s k p (q+1)=outsI s k p q++if 0 < (s.out1 k (s.wrk p i)).n then [s.out1 k (s.wrk p i)] else []:=by
  obtain ⟨hlt,hx⟩:=List.getElem?_eq_some_iff.1 h
  simp only [outsI,List.take_succ_eq_append_getElem hlt,hx,List.map_append,List.filter_append,List.map_cons,List.map_nil,List.filter_cons,List.filter_nil,decide_eq_true_eq]
theorem outsI_len (s:Shp) (k:Nat) (p:Pst) (q:Nat):(outsI s k p q).length≤q :=
  Nat.le_trans (List.length_filter_le _ _) (by rw [List.length_map,List.length_take];omega)
theorem outsI_end (s:Shp) (k:Nat) (p:Pst):joinO (outsI s k p (s.nxt p).length)=s.out (k+1) p:=by
  rw [out_succ,outsI,List.take_length]
theorem nxt_len {s:Shp} {p:Pst}:(s.nxt p).length≤s.jo.length:=Nat.le_trans (List.length_filter_le _ _) (by simp)
def tlO:Option Nat→Tail
  | none=>.ex
  | some j=>.own (j+8)
def ownO:Option Nat→HL
  | none=>[]
  | some j=>[(j+8,some .own)]
def nxO:Option Nat→Nat
  | none=>8
  | some j=>j+9
theorem hs_round7 {m:Nat} {a b c d:Option PBlk} {rest:HL} (hm5:m≠7) (h5:hget rest 7=none) (hm:hget rest m=none):∀ i x,hget ((7,d)::rest) i=some x→hget ((m,none)::(7,d)::(m,a)::(m,b)::(7,c)::rest) i=some x:=by
  intro i x h
  by_cases h1:i=m
  · subst h1
    rw [hget_tl hm5,hm] at h
    cases h
  · rw [hget_tl h1]
    by_cases h2:i=7
    · subst h2
      rw [hget_hd] at h ⊢
      exact h
    · rw [hget_tl h2] at h ⊢
      rw [hget_tl h1,hget_tl h1,hget_tl h2]
      exact h
abbrev capsO (s:Shp) (t1 t2:Tail):List PV:=[.fp (.mp 1),.fp (s.v t1 t2),.ptr 3 0]
abbrev cloO (s:Shp) (t1 t2:Tail):PBlk:=.cells [.fn (.func 101) [] (capsO s t1 t2)]
abbrev fnO (s:Shp) (t1 t2:Tail):PV:=.fn (.func 101) [] (capsO s t1 t2)
theorem bd_capsO (s:Shp) {t1 t2:Tail} (h1:t1.isOwn=false) (h2:t2.isOwn=false):PV.bds 4 (capsO s t1 t2)=true:=by
  have:=bd_shN s h1 h2 4
  simp only [capsO,PV.bds,PV.bd] at this ⊢
  rw [this];rfl
theorem bd_cloO (s:Shp) {t1 t2:Tail} (h1:t1.isOwn=false) (h2:t2.isOwn=false):(cloO s t1 t2).bd 4:=by
  have:=bd_capsO s h1 h2
  show PV.bds 4 [.fn (.func 101) [] (capsO s t1 t2)]=true
  refine bds_consN ?_ rfl
  rw [PV.bd,this];rfl
section
variable (s:Shp) {t1 t2:Tail} (h1:t1.isOwn=false) (h2:t2.isOwn=false)
include h1 h2
theorem f101 {H:Int} (hs:s.ok H) (k:Nat)
    (ih:∀ (p:Pst) (es:List (AV×PV×Nat)) (clock:Nat),p.good s.jo.length k→MemoW (VO s) es→PCall P0 102 [s.v t1 t2,p.v,fnO s t1 t2] (HE 4 [(1,some (.map es clock)),(3,some (cloO s t1 t2))]) (fun v h'=>∃ es' clock',h'=HE 4 [(1,some (.map es' clock')),(3,some (cloO s t1 t2))]∧(MemoW (VO s) es'∧v=(s.out k p).v)) fun _ _=>False)
    (p:Pst) (i:Nat) (hp:p.good s.jo.length (k+1)) (hk:k+1≤6) (hi:i < s.jo.length) (hb:p.J.testBit i=false) (es:List (AV×PV×Nat)) (clock:Nat) (hm:MemoW (VO s) es) :
    PCall P0 101 ((s.wrk p i).v::capsO s t1 t2) (HE 4 [(1,some (.map es clock)),(3,some (cloO s t1 t2))]) (fun v h'=>∃ es' clock',h'=HE 4 [(1,some (.map es' clock')),(3,some (cloO s t1 t2))]∧(MemoW (VO s) es'∧v=(s.out1 k (s.wrk p i)).v)) fun _ _=>False:=by
  obtain ⟨g1,g2⟩:=good_next hs hp (by omega) hi hb
  have hWJ:(s.wrk p i).p.J < 64:=Nat.lt_of_lt_of_le hp.J (Nat.pow_le_pow_right (n:=2) (by decide) hs.jo)
  have hWj:(s.wrk p i).j < s.jo.length:=hi
  have hV:VO s (s.wrk p i)=(s.out1 k (s.wrk p i)).v:=VO_at hp.l
  have hf:=fin_bd hs g2 (by omega) hWj
  have hout:=out_ok hs g1 (by omega)
  generalize s.wrk p i=w at *
  have ihw:=ih (s.aft w)
  have haf:=f87 s h1 h2 w hWJ hWj hs.jo
  have hfi:=f104 s h1 h2 hs w g2 (by omega) hWj
  have hbe:=f103 (s.out k (s.aft w)) hout w.j (s.fin w) (by omega)
  have hbw:PV.bds 0 [s.v t1 t2,w.v]=true:=bd_shpV s h1 h2 rfl
  have hbb:PV.bds 0 [(s.out k (s.aft w)).v,I w.j,I (s.fin w)]=true:=bds_cons (bd_olk 0 _) rfl
  have hbo:=bd_olk 4 (s.out1 k w)
  have hbg:∀ p:Pst,PV.bds 4 [s.v t1 t2,p.v,fnO s t1 t2]=true:=fun p=>bds_consN (bd_shN s h1 h2 4) (bds_consN rfl (bds_consN (by have:=bd_capsO s h1 h2;simp only [fnO,PV.bd,this,Bool.and_true];rfl) rfl))
  have hcb:=bd_cloO s h1 h2
  have hol:(s.out k (s.aft w)).beh w.j (s.fin w)=s.out1 k w:=rfl
  rw [hol] at hbe
  generalize s.out1 k w=o1 at *
  generalize s.out k (s.aft w)=o at *
  refine PCall.ofH (C:=c101) (cx_ok _ _ _) rfl (fn:=Try.f101) (by kernel_rfl) (c:=_) rfl rfl rfl (fun hok=>?_)
  refine Run.seq (Run.region (cx_ok _ _ _) (Reg.op rfl (Ope.boxF rfl rfl ?_)))
  refine Reg.op rfl (Ope.newL rfl ?_)
  refine Reg.nil (Run.seq ?_)
  have hrr:∃ r,pfind A0 E0 107 (keyW w) es 0=some r∧(r=none∨∃ j,r=some (j,o1.v)):=by
    obtain ⟨r,hr1,hr2⟩:=MemoW.find w es 0 hm
    refine ⟨r,hr1,?_⟩
    rcases r with _ | ⟨jj,vv⟩
    · exact .inl rfl
    · exact .inr ⟨jj,by rw [(hr2 jj vv rfl).2.1,hV]⟩
  obtain ⟨r,hr1,hr2⟩:=hrr
  refine Run.region (cx_ok _ _ _) (Reg.op rfl (Ope.load rfl rfl ?_))
  refine Reg.op rfl (Ope.load rfl rfl ?_)
  rcases hr2 with rfl | ⟨jj,rfl⟩
  all_goals refine Reg.op rfl (Ope.look rfl rfl (keyW_of _) rfl (keyW_check _) hr1 ?_)
  ·refine Reg.op rfl (Ope.mov rfl ?_)
   refine Reg.op rfl (Ope.ext rfl rfl ?_)
   refine Reg.op rfl (Ope.ext rfl rfl ?_)
   refine Reg.op rfl (Ope.newL rfl ?_)
   refine Reg.op0 (Ope.store rfl rfl hget_hd rfl rfl rfl ?_)
   refine Reg.op rfl (Ope.asg rfl ?_)
   refine Reg.nil (Run.seq (Run.seq (Run.region (cx_ok _ _ _) (Reg.op rfl (Ope.mov rfl ?_)))))
   refine Reg.op rfl (Ope.not rfl ?_)
   refine Reg.nil (Run.condX rfl (fun hc=>?_) fun hc=>?_)
   ·first
    |(cases hc;done)
    |refine Run.seq (Run.drawB (cx_ok _ _ _) 3 [(0,false,false),(1,true,false),(2,true,false),(4,false,false),(6,true,false),(7,false,false),(8,false,false),(9,false,false),(3,true,true),(5,true,true),(10,true,true),(11,true,false),(12,true,false)] (by kernel_rfl) (DraS.opR rfl rfl rfl rfl (StabS.frozen rfl) (Ope.load rfl rfl ?_)))
     refine DraS.opQ rfl rfl rfl (Ope.load rfl rfl ?_)
     refine DraS.opQ rfl rfl rfl (Ope.load rfl rfl ?_)
     refine DraS.opR rfl rfl rfl rfl (StabS.at rfl) (Ope.load rfl rfl ?_)
     refine DraS.opQ rfl rfl rfl (Ope.fld rfl rfl ?_)
     refine DraS.opR rfl rfl rfl rfl (StabS.frozen rfl) (Ope.load rfl rfl ?_)
     refine DraS.opR rfl rfl rfl rfl (StabS.frozen rfl) (Ope.load rfl rfl ?_)
     refine DraS.opR rfl rfl rfl rfl (StabS.frozen rfl) (Ope.load rfl rfl ?_)
     refine DraS.opS rfl rfl rfl (Ope.cf rfl rfl haf hbw ?_)
     refine ⟨rfl,?_⟩
     refine DraS.opS rfl rfl rfl (Ope.callM4 (clo:=cloO s t1 t2) rfl rfl rfl rfl rfl rfl (by omega) (hbg _) (MemoW.bd (VO_bd s 4) hm) hcb (ihw es clock g1 hm) (fun v es2 clock2 hq=>?_))
     obtain ⟨hq1,rfl⟩:=hq
     refine ⟨rfl,?_⟩
     refine DraS.opS rfl rfl rfl (Ope.cf rfl rfl hfi hbw ?_)
     refine ⟨rfl,?_⟩
     refine DraS.opQ rfl rfl rfl (Ope.cf rfl rfl hbe hbb ?_)
     refine DraS.opQ rfl rfl rfl (Ope.store rfl rfl ((hget_tl (by decide)).trans hget_hd) rfl rfl rfl ?_)
     refine DraS.nil ?_
     obtain ⟨r3,hr3,hr4⟩:=MemoW.find w es2 0 hq1
     refine Run.region (cx_ok _ _ _) (Reg.op rfl (Ope.load rfl rfl ?_))
     refine Reg.op rfl (Ope.load rfl rfl ?_)
     refine Reg.op rfl (Ope.load rfl rfl ?_)
     refine Reg.op0 (Ope.mset rfl rfl rfl (keyW_of w) rfl (keyW_check w) hr3 (fun j v hjv=>by obtain ⟨_,_,e,h1,h2⟩:=hr4 j v hjv;exact ⟨e,by simpa using h1,by rw [h2];exact keyW_same w⟩) (fun j v hjv=>?_) (fun hnn=>?_))
     ·refine Reg.nil (Run.seq ?_)
      first
      | have hmem:MemoW (VO s) (psetAt es2 j (keyW w) o1.v):=by have h:=MemoW.set (w:=w) (j:=j) hq1;rw [hV] at h;exact h
      | have hmem:MemoW (VO s) (es2++[(keyW w,o1.v,clock2)]):=by have h:=MemoW.app (w:=w) (clock:=clock2) hq1;rw [hV] at h;exact h
      | skip
      refine Run.region (cx_ok _ _ _) (Reg.op rfl (Ope.load rfl rfl ?_))
      refine Reg.op0 (Ope.store rfl rfl rfl rfl rfl rfl ?_)
      refine Reg.nil (Run.ret ?_)
      first
      | exact finC_ret (.cell rfl rfl .nil) hbo (by rw [HE_cut4 rfl rfl rfl rfl];exact ok4 (MemoW.bd (VO_bd s 4) hmem) hcb) ⟨_,_,HE_cut4 rfl rfl rfl rfl,hmem,rfl⟩
      | exact finC_ret (.cell rfl rfl .nil) hbo (by rw [HE_cut4 rfl rfl rfl rfl];exact ok4 (MemoW.bd (VO_bd s 4) hm) hcb) ⟨es,clock,HE_cut4 rfl rfl rfl rfl,hm,rfl⟩
     ·refine Reg.nil (Run.seq ?_)
      first
      | have hmem:MemoW (VO s) (psetAt es2 j (keyW w) o1.v):=by have h:=MemoW.set (w:=w) (j:=j) hq1;rw [hV] at h;exact h
      | have hmem:MemoW (VO s) (es2++[(keyW w,o1.v,clock2)]):=by have h:=MemoW.app (w:=w) (clock:=clock2) hq1;rw [hV] at h;exact h
      | skip
      refine Run.region (cx_ok _ _ _) (Reg.op rfl (Ope.load rfl rfl ?_))
      refine Reg.op0 (Ope.store rfl rfl rfl rfl rfl rfl ?_)
      refine Reg.nil (Run.ret ?_)
      first
      | exact finC_ret (.cell rfl rfl .nil) hbo (by rw [HE_cut4 rfl rfl rfl rfl];exact ok4 (MemoW.bd (VO_bd s 4) hmem) hcb) ⟨_,_,HE_cut4 rfl rfl rfl rfl,hmem,rfl⟩
      | exact finC_ret (.cell rfl rfl .nil) hbo (by rw [HE_cut4 rfl rfl rfl rfl];exact ok4 (MemoW.bd (VO_bd s 4) hm) hcb) ⟨es,clock,HE_cut4 rfl rfl rfl rfl,hm,rfl⟩
   ·first
    |(cases hc;done)
    |refine Run.skip (Run.seq ?_)
     first
     | have hmem:MemoW (VO s) (psetAt es2 j (keyW w) o1.v):=by have h:=MemoW.set (w:=w) (j:=j) hq1;rw [hV] at h;exact h
     | have hmem:MemoW (VO s) (es2++[(keyW w,o1.v,clock2)]):=by have h:=MemoW.app (w:=w) (clock:=clock2) hq1;rw [hV] at h;exact h
     | skip
     refine Run.region (cx_ok _ _ _) (Reg.op rfl (Ope.load rfl rfl ?_))
     refine Reg.op0 (Ope.store rfl rfl rfl rfl rfl rfl ?_)
     refine Reg.nil (Run.ret ?_)
     first
     | exact finC_ret (.cell rfl rfl .nil) hbo (by rw [HE_cut4 rfl rfl rfl rfl];exact ok4 (MemoW.bd (VO_bd s 4) hmem) hcb) ⟨_,_,HE_cut4 rfl rfl rfl rfl,hmem,rfl⟩
     | exact finC_ret (.cell rfl rfl .nil) hbo (by rw [HE_cut4 rfl rfl rfl rfl];exact ok4 (MemoW.bd (VO_bd s 4) hm) hcb) ⟨es,clock,HE_cut4 rfl rfl rfl rfl,hm,rfl⟩
  ·refine Reg.op rfl (Ope.mov rfl ?_)
   refine Reg.op rfl (Ope.ext rfl rfl ?_)
   refine Reg.op rfl (Ope.ext rfl rfl ?_)
   refine Reg.op rfl (Ope.newL rfl ?_)
   refine Reg.op0 (Ope.store rfl rfl hget_hd rfl rfl rfl ?_)
   refine Reg.op rfl (Ope.asg rfl ?_)
   refine Reg.nil (Run.seq (Run.seq (Run.region (cx_ok _ _ _) (Reg.op rfl (Ope.mov rfl ?_)))))
   refine Reg.op rfl (Ope.not rfl ?_)
   refine Reg.nil (Run.condX rfl (fun hc=>?_) fun hc=>?_)
   ·first
    |(cases hc;done)
    |refine Run.seq (Run.drawB (cx_ok _ _ _) 3 [(0,false,false),(1,true,false),(2,true,false),(4,false,false),(6,true,false),(7,false,false),(8,false,false),(9,false,false),(3,true,true),(5,true,true),(10,true,true),(11,true,false),(12,true,false)] (by kernel_rfl) (DraS.opR rfl rfl rfl rfl (StabS.frozen rfl) (Ope.load rfl rfl ?_)))
     refine DraS.opQ rfl rfl rfl (Ope.load rfl rfl ?_)
     refine DraS.opQ rfl rfl rfl (Ope.load rfl rfl ?_)
     refine DraS.opR rfl rfl rfl rfl (StabS.at rfl) (Ope.load rfl rfl ?_)
     refine DraS.opQ rfl rfl rfl (Ope.fld rfl rfl ?_)
     refine DraS.opR rfl rfl rfl rfl (StabS.frozen rfl) (Ope.load rfl rfl ?_)
     refine DraS.opR rfl rfl rfl rfl (StabS.frozen rfl) (Ope.load rfl rfl ?_)
     refine DraS.opR rfl rfl rfl rfl (StabS.frozen rfl) (Ope.load rfl rfl ?_)
     refine DraS.opS rfl rfl rfl (Ope.cf rfl rfl haf hbw ?_)
     refine ⟨rfl,?_⟩
     refine DraS.opS rfl rfl rfl (Ope.callM4 (clo:=cloO s t1 t2) rfl rfl rfl rfl rfl rfl (by omega) (hbg _) (MemoW.bd (VO_bd s 4) hm) hcb (ihw es clock g1 hm) (fun v es2 clock2 hq=>?_))
     obtain ⟨hq1,rfl⟩:=hq
     refine ⟨rfl,?_⟩
     refine DraS.opS rfl rfl rfl (Ope.cf rfl rfl hfi hbw ?_)
     refine ⟨rfl,?_⟩
     refine DraS.opQ rfl rfl rfl (Ope.cf rfl rfl hbe hbb ?_)
     refine DraS.opQ rfl rfl rfl (Ope.store rfl rfl ((hget_tl (by decide)).trans hget_hd) rfl rfl rfl ?_)
     refine DraS.nil ?_
     obtain ⟨r3,hr3,hr4⟩:=MemoW.find w es2 0 hq1
     refine Run.region (cx_ok _ _ _) (Reg.op rfl (Ope.load rfl rfl ?_))
     refine Reg.op rfl (Ope.load rfl rfl ?_)
     refine Reg.op rfl (Ope.load rfl rfl ?_)
     refine Reg.op0 (Ope.mset rfl rfl rfl (keyW_of w) rfl (keyW_check w) hr3 (fun j v hjv=>by obtain ⟨_,_,e,h1,h2⟩:=hr4 j v hjv;exact ⟨e,by simpa using h1,by rw [h2];exact keyW_same w⟩) (fun j v hjv=>?_) (fun hnn=>?_))
     ·refine Reg.nil (Run.seq ?_)
      first
      | have hmem:MemoW (VO s) (psetAt es2 j (keyW w) o1.v):=by have h:=MemoW.set (w:=w) (j:=j) hq1;rw [hV] at h;exact h
      | have hmem:MemoW (VO s) (es2++[(keyW w,o1.v,clock2)]):=by have h:=MemoW.app (w:=w) (clock:=clock2) hq1;rw [hV] at h;exact h
      | skip
      refine Run.region (cx_ok _ _ _) (Reg.op rfl (Ope.load rfl rfl ?_))
      refine Reg.op0 (Ope.store rfl rfl rfl rfl rfl rfl ?_)
      refine Reg.nil (Run.ret ?_)
      first
      | exact finC_ret (.cell rfl rfl .nil) hbo (by rw [HE_cut4 rfl rfl rfl rfl];exact ok4 (MemoW.bd (VO_bd s 4) hmem) hcb) ⟨_,_,HE_cut4 rfl rfl rfl rfl,hmem,rfl⟩
      | exact finC_ret (.cell rfl rfl .nil) hbo (by rw [HE_cut4 rfl rfl rfl rfl];exact ok4 (MemoW.bd (VO_bd s 4) hm) hcb) ⟨es,clock,HE_cut4 rfl rfl rfl rfl,hm,rfl⟩
     ·refine Reg.nil (Run.seq ?_)
      first
      | have hmem:MemoW (VO s) (psetAt es2 j (keyW w) o1.v):=by have h:=MemoW.set (w:=w) (j:=j) hq1;rw [hV] at h;exact h
      | have hmem:MemoW (VO s) (es2++[(keyW w,o1.v,clock2)]):=by have h:=MemoW.app (w:=w) (clock:=clock2) hq1;rw [hV] at h;exact h
      | skip
      refine Run.region (cx_ok _ _ _) (Reg.op rfl (Ope.load rfl rfl ?_))
      refine Reg.op0 (Ope.store rfl rfl rfl rfl rfl rfl ?_)
      refine Reg.nil (Run.ret ?_)
      first
      | exact finC_ret (.cell rfl rfl .nil) hbo (by rw [HE_cut4 rfl rfl rfl rfl];exact ok4 (MemoW.bd (VO_bd s 4) hmem) hcb) ⟨_,_,HE_cut4 rfl rfl rfl rfl,hmem,rfl⟩
      | exact finC_ret (.cell rfl rfl .nil) hbo (by rw [HE_cut4 rfl rfl rfl rfl];exact ok4 (MemoW.bd (VO_bd s 4) hm) hcb) ⟨es,clock,HE_cut4 rfl rfl rfl rfl,hm,rfl⟩
   ·first
    |(cases hc;done)
    |refine Run.skip (Run.seq ?_)
     first
     | have hmem:MemoW (VO s) (psetAt es2 j (keyW w) o1.v):=by have h:=MemoW.set (w:=w) (j:=j) hq1;rw [hV] at h;exact h
     | have hmem:MemoW (VO s) (es2++[(keyW w,o1.v,clock2)]):=by have h:=MemoW.app (w:=w) (clock:=clock2) hq1;rw [hV] at h;exact h
     | skip
     refine Run.region (cx_ok _ _ _) (Reg.op rfl (Ope.load rfl rfl ?_))
     refine Reg.op0 (Ope.store rfl rfl rfl rfl rfl rfl ?_)
     refine Reg.nil (Run.ret ?_)
     first
     | exact finC_ret (.cell rfl rfl .nil) hbo (by rw [HE_cut4 rfl rfl rfl rfl];exact ok4 (MemoW.bd (VO_bd s 4) hmem) hcb) ⟨_,_,HE_cut4 rfl rfl rfl rfl,hmem,rfl⟩
     | exact finC_ret (.cell rfl rfl .nil) hbo (by rw [HE_cut4 rfl rfl rfl rfl];exact ok4 (MemoW.bd (VO_bd s 4) hm) hcb) ⟨es,clock,HE_cut4 rfl rfl rfl rfl,hm,rfl⟩
end
end Go.Pv
namespace Go.Pv
open Go.Proofs Go.Am
set_option maxRecDepth 10000
section
variable (s:Shp) {t1 t2:Tail} (h1:t1.isOwn=false) (h2:t2.isOwn=false)
include h1 h2
theorem f102z {H:Int} (hs:s.ok H) (p:Pst) (es:List (AV×PV×Nat)) (clock:Nat) (hp:p.good s.jo.length 0) (hm:MemoW (VO s) es) :
    PCall P0 102 [s.v t1 t2,p.v,fnO s t1 t2] (HE 4 [(1,some (.map es clock)),(3,some (cloO s t1 t2))]) (fun v h'=>∃ es' clock',h'=HE 4 [(1,some (.map es' clock')),(3,some (cloO s t1 t2))]∧(MemoW (VO s) es'∧v=(s.out 0 p).v)) fun _ _=>False:=by
  have hall:=f89 s t1 t2 hs.jo
  have hJ:p.J=allN s.jo.length:=(lft_all hp.J).1 hp.l
  rw [← hJ] at hall
  have hbs:PV.bds 0 [s.v t1 t2]=true:=bd_shpV s h1 h2 rfl
  have hmo:=f111 p.f0 p.f1
  have hcb:=bd_cloO s h1 h2
  have hbo:=bd_olk 4 (s.out 0 p)
  refine PCall.ofH (C:=c102) (cx_ok _ _ _) rfl (fn:=Try.f102) (by kernel_rfl) (c:=_) rfl rfl rfl (fun hok=>?_)
  refine Run.seq (Run.region (cx_ok _ _ _) (Reg.op rfl (Ope.boxF rfl rfl ?_)))
  refine Reg.op rfl (Ope.boxF rfl rfl ?_)
  refine Reg.op rfl (Ope.boxF rfl rfl ?_)
  refine Reg.op rfl (Ope.newL rfl ?_)
  refine Reg.nil (Run.seq (Run.seq (Run.draw (cx_ok _ _ _) [(0,true),(1,false),(2,true),(3,true),(4,true)] (by kernel_rfl) (Dra.op' rfl rfl rfl .sure (Ope.fld rfl rfl ?_)))))
  refine Dra.op' rfl rfl rfl (.load rfl) (Ope.load rfl rfl ?_)
  refine Dra.op' rfl rfl rfl .sure (Ope.load rfl rfl ?_)
  refine Dra.op' rfl rfl rfl .sure (Ope.cf rfl rfl hall hbs ?_)
  refine Dra.op' rfl rfl rfl .sure (Ope.eq rfl rfl ?_)
  refine Dra.nil (Run.condX rfl (fun hc=>?_) fun hc=>?_)
  ·refine Run.seq (Run.region (cx_ok _ _ _) (Reg.op rfl (Ope.fld rfl rfl ?_)))
   refine Reg.op rfl (Ope.load rfl rfl ?_)
   refine Reg.op rfl (Ope.cf rfl rfl (hmo) rfl ?_)
   refine Reg.op rfl (Ope.bld rfl rfl ?_)
   refine Reg.op0 (Ope.store rfl rfl hget_hd rfl rfl rfl ?_)
   exact Reg.nil (Run.ret (Jmp.code (finC_ret (.cell rfl rfl .nil) hbo (by rw [HE_cut4 rfl rfl rfl rfl];exact ok4 (MemoW.bd (VO_bd s 4) hm) hcb) ⟨es,clock,HE_cut4 rfl rfl rfl rfl,hm,rfl⟩)))
  ·exact absurd rfl hc
theorem f102s {H : Int} (hs : s.ok H) (k : Nat)
    (ih:∀ (p:Pst) (i:Nat) (es:List (AV×PV×Nat)) (clock:Nat),p.good s.jo.length (k+1)→i < s.jo.length→p.J.testBit i=false→MemoW (VO s) es→PCall P0 101 ((s.wrk p i).v::capsO s t1 t2) (HE 4 [(1,some (.map es clock)),(3,some (cloO s t1 t2))]) (fun v h'=>∃ es' clock',h'=HE 4 [(1,some (.map es' clock')),(3,some (cloO s t1 t2))]∧(MemoW (VO s) es'∧v=(s.out1 k (s.wrk p i)).v)) fun _ _=>False)
    (p:Pst) (es:List (AV×PV×Nat)) (clock:Nat) (hk:k+1≤6) (hp:p.good s.jo.length (k+1)) (hm:MemoW (VO s) es) :
    PCall P0 102 [s.v t1 t2,p.v,fnO s t1 t2] (HE 4 [(1,some (.map es clock)),(3,some (cloO s t1 t2))]) (fun v h'=>∃ es' clock',h'=HE 4 [(1,some (.map es' clock')),(3,some (cloO s t1 t2))]∧(MemoW (VO s) es'∧v=(s.out (k+1) p).v)) fun _ _=>False:=by
  have hall:=f89 s t1 t2 hs.jo
  have hJ:p.J≠allN s.jo.length:=fun h=>by
    have h3:=(lft_all hp.J).2 h
    have h4:=hp.l
    omega
  have hbs:PV.bds 0 [s.v t1 t2]=true:=bd_shpV s h1 h2 rfl
  have hbp:PV.bds 0 [s.v t1 t2,p.v]=true:=bd_shpV s h1 h2 rfl
  have hcb:=bd_cloO s h1 h2
  have hcc:=bd_capsO s h1 h2
  have hbo:=bd_olk 4 (s.out (k+1) p)
  have hJ64:p.J < 64:=Nat.lt_of_lt_of_le hp.J (Nat.pow_le_pow_right (n:=2) (by decide) hs.jo)
  have hnx:=f86 s h1 h2 p
  have hny:=f105 s h1 h2 hs p hp.b (by omega) (by omega) hJ64
  have hbw:∀ w:Wrk,PV.bds 4 (w.v::capsO s t1 t2)=true:=fun w=>bds_consN rfl hcc
  have hlen6:=hs.jo
  have hnl:=nxt_len (s:=s) (p:=p)
  have hjoin:∀ tl:Tail,tl.isOwn=false→∀ L:List Olk,L=outsI s k p (s.nxt p).length→Fn P0 112 [.sl tl (L.map Olk.v)] (s.out (k+1) p).v:=by
    rintro tl htl L rfl
    rw [← outsI_end]
    refine f112 tl htl _ (by have:=outsI_len s k p (s.nxt p).length;omega) fun o ho=>?_
    obtain ⟨h3,_⟩:=List.mem_filter.1 ho
    obtain ⟨i,hi,rfl⟩:=List.mem_map.1 h3
    have:=nxt_J (List.mem_of_mem_take hi)
    exact out1_ok hs hp hk this.1 this.2
  have hbj:∀ L:List Olk,PV.bds 0 [.sl .no (L.map Olk.v)]=true:=fun L=>bds_cons (by simp only [PV.bd];exact bds_olk 0 _) rfl
  refine PCall.ofH (C:=c102) (cx_ok _ _ _) rfl (fn:=Try.f102) (by kernel_rfl) (c:=_) rfl rfl rfl (fun hok=>?_)
  refine Run.seq (Run.region (cx_ok _ _ _) (Reg.op rfl (Ope.boxF rfl rfl ?_)))
  refine Reg.op rfl (Ope.boxF rfl rfl ?_)
  refine Reg.op rfl (Ope.boxF rfl rfl ?_)
  refine Reg.op rfl (Ope.newL rfl ?_)
  refine Reg.nil (Run.seq (Run.seq (Run.draw (cx_ok _ _ _) [(0,true),(1,false),(2,true),(3,true),(4,true)] (by kernel_rfl) (Dra.op' rfl rfl rfl .sure (Ope.fld rfl rfl ?_)))))
  refine Dra.op' rfl rfl rfl (.load rfl) (Ope.load rfl rfl ?_)
  refine Dra.op' rfl rfl rfl .sure (Ope.load rfl rfl ?_)
  refine Dra.op' rfl rfl rfl .sure (Ope.cf rfl rfl hall hbs ?_)
  refine Dra.op' rfl rfl rfl .sure (Ope.eq rfl rfl ?_)
  refine Dra.nil (Run.condX rfl (fun hc=>?_) fun hc=>?_)
  ·exact absurd (by omega) hJ
  ·refine Run.skip (Run.seq (Run.region (cx_ok _ _ _) (Reg.op rfl (Ope.newL rfl ?_))))
   refine Reg.nil (Run.seq (Run.seq (Run.region (cx_ok _ _ _) (Reg.op rfl (Ope.load rfl rfl ?_)))))
   refine Reg.op rfl (Ope.load rfl rfl ?_)
   refine Reg.op rfl (Ope.cf rfl rfl hnx hbp ?_)
   refine Reg.nil (Run.block ?_)
   refine Run.rangeF (cx_ok _ _ _) rfl (α:=List (AV×PV×Nat)×Nat×List Olk×Option Nat) (fun t=>(5,some (.cells [.sl (tlO t.2.2.2) (t.2.2.1.map Olk.v)]))::(ownO t.2.2.2++[(1,some (.map t.1 t.2.1)),(4,some (.cells [I 0,I 0,.sl .ex [],I 0])),(0,none),(2,none),(3,some (cloO s t1 t2))])) (fun t=>nxO t.2.2.2) (fun q t=>MemoW (VO s) t.1∧t.2.2.1=outsI s k p q∧(t.2.2.2=none↔t.2.2.1=[])) rfl hny rfl rfl ⟨Try.f102,by kernel_rfl⟩ (es,clock,[],none) ⟨hm,by simp [outsI],by simp⟩ (Hsub.cons rfl (Hsub.cons rfl (Hsub.cons rfl (Hsub.cons rfl (Hsub.cons rfl (Hsub.cons rfl Hsub.nil)))))) (by rintro ⟨_,_,_,_ | j⟩ p hp<;>simp [ownO] at hp<;>rcases hp with rfl | rfl | rfl | rfl | rfl | rfl | rfl<;>simp) (by intro p hp;simp [ownO] at hp;rcases hp with rfl | rfl | rfl | rfl | rfl | rfl<;>simp) (by simp [nxO]) (fun q t v hv hI m hm1 hm2 lb=>?_) (fun t hI m hm1 hm2=>?_)
   ·obtain ⟨es1,clock1,st,ow⟩:=t
    obtain ⟨hI1,hI2,hI3⟩:=hI
    simp only at hm1 hI1 hI2 hI3
    obtain ⟨μ,rfl⟩:∃ μ,m=μ+8:=⟨m - 8,by omega⟩
    obtain ⟨x,hx,rfl⟩:∃ x,(s.nxt p)[q]?=some x∧v=(s.wrk p x).v:=by
      rw [List.getElem?_map] at hv
      cases hq:(s.nxt p)[q]? with
      | none=>rw [hq] at hv;cases hv
      | some x=>rw [hq] at hv;cases hv;exact ⟨x,rfl,rfl⟩
    obtain ⟨hxn,hbx⟩:=nxt_J (List.mem_of_getElem? hx)
    have hq6:q < 6:=by
      have:=(List.getElem?_eq_some_iff.1 hx).1
      omega
    have hst:st.length≤q:=by rw [hI2];exact outsI_len s k p q
    have hsucc:=outsI_succ (s:=s) (k:=k) hx
    have ihx:=ih p x es1 clock1 hp hxn hbx hI1
    generalize s.out1 k (s.wrk p x)=o1 at *
    generalize s.wrk p x=w at *
    show Run _ _ _ _ _ [] (HE (μ+8) ((7,some lb)::(6,some .dfr)::(5,some (.cells [.sl (tlO ow) (st.map Olk.v)]))::(ownO ow++[(1,some (.map es1 clock1)),(4,some (.cells [I 0,I 0,.sl .ex [],I 0])),(0,none),(2,none),(3,some (cloO s t1 t2))])))
    rcases ow with _ | j<;>simp only [nxO] at hm1<;>first | (obtain rfl:st=[]:=hI3.1 rfl) | skip
    ·refine Run.region (Cx.Ok.rnd (cx_ok _ _ _)) (Reg.op rfl (Ope.newL rfl ?_))
     refine Reg.op0 (Ope.store rfl rfl hget_hd rfl rfl rfl ?_)
     refine Reg.nil (Run.done ⟨rfl,rfl,_,_,rfl,(hget_tl (by omega)).trans ((hget_tl (by omega)).trans hget_hd),fun lb2=>?_⟩)
     refine Run.block (Run.seq (Run.frz (d:=8) true rfl ((hget_tl (by omega)).trans hget_hd) rfl ?_))
     refine Run.wideS (m:=μ+9) (Nat.le_refl _) (hs_round7 (by omega) (by rfl) (by repeat (first | rfl | refine (hget_tl (by omega)).trans ?_))) ?_
     refine Run.region (Cx.Ok.rnd (cx_ok _ _ _)) (Reg.op rfl (Ope.load rfl rfl ?_))
     refine Reg.op rfl (Ope.load rfl rfl ?_)
     refine Reg.op rfl (Ope.callM4 (clo:=cloO s t1 t2) rfl rfl rfl rfl rfl rfl (by omega) (hbw _) (MemoW.bd (VO_bd s 4) hI1) hcb ihx (fun v es2 clock2 hq=>?_))
     obtain ⟨hq1,rfl⟩:=hq
     refine Reg.op rfl (Ope.newL rfl ?_)
     refine Reg.op0 (Ope.store rfl rfl hget_hd rfl rfl rfl ?_)
     refine Reg.nil (Run.seq (Run.frz (d:=9) true rfl hget_hd rfl ?_))
     refine Run.region (Cx.Ok.rnd (cx_ok _ _ _)) (Reg.op rfl (Ope.fld rfl rfl ?_))
     refine Reg.op rfl (Ope.load rfl rfl ?_)
     refine Reg.op rfl (Ope.gt rfl rfl ?_)
     refine Reg.nil (Run.condX rfl (fun hc=>?_) fun hc=>?_)
     ·refine Run.region (Cx.Ok.rnd (cx_ok _ _ _)) (Reg.op rfl (Ope.load rfl rfl ?_))
      refine Reg.op rfl (Ope.load rfl rfl ?_)
      refine Reg.op rfl (Ope.bsl rfl rfl rfl rfl ?_)
      first
        | refine Reg.op rfl (Ope.apO rfl rfl (by simp) (by simp) (by simp) (by decide) (by simp) (by intro v hv;simp only [List.mem_singleton] at hv;subst hv;exact ⟨rfl,rfl⟩) ?_)
        | refine Reg.op rfl (Ope.apP (j:=j+8) rfl rfl (by simp) (by simpa using fun h=>absurd (hI3.2 h) (by simp)) (by repeat (first | exact hget_hd | refine (hget_tl (by omega)).trans ?_)) (by simp;omega) (by simp;omega) (by decide) (by intro v hv;obtain ⟨_,_,rfl⟩:=List.mem_map.1 hv;rfl) (by intro v hv;simp only [List.mem_singleton] at hv;subst hv;exact ⟨rfl,rfl⟩) ?_)
      refine Reg.op0 (Ope.store rfl rfl (by repeat (first | rfl | refine (hget_tl (by omega)).trans ?_)) rfl rfl rfl ?_)
      refine Reg.nil (Run.bend ?_)
      first
        | exact Run.done ⟨rfl,_,_,rfl,by omega,rfl,(es2,clock2,[],none),by show 8≤_;omega,(Hsub.cons rfl (Hsub.cons rfl (Hsub.cons rfl (Hsub.cons rfl (Hsub.cons rfl (Hsub.cons rfl (Hsub.cons rfl Hsub.nil))))))),hq1,by rw [hsucc,if_neg (by omega),← hI2];rfl,by simp⟩
        | exact Run.done ⟨rfl,_,_,rfl,by omega,rfl,(es2,clock2,st,some j),by show j+9≤_;omega,(Hsub.cons rfl (Hsub.cons rfl (Hsub.cons (by repeat (first | exact hget_hd | refine (hget_tl (by omega)).trans ?_)) (Hsub.cons rfl (Hsub.cons rfl (Hsub.cons rfl (Hsub.cons rfl (Hsub.cons rfl Hsub.nil)))))))),hq1,by rw [hsucc,if_neg (by omega),← hI2];exact (List.append_nil st).symm,hI3⟩
        | exact Run.done ⟨rfl,_,_,rfl,by omega,rfl,(es2,clock2,[]++[o1],some (μ+2)),by show μ+2+9≤μ+9+1+1;omega,(Hsub.cons rfl (Hsub.cons rfl (Hsub.cons (by repeat (first | exact hget_hd | refine (hget_tl (by omega)).trans ?_)) (Hsub.cons rfl (Hsub.cons rfl (Hsub.cons rfl (Hsub.cons rfl (Hsub.cons rfl Hsub.nil)))))))),hq1,by rw [hsucc,if_pos (by omega),← hI2],by simp⟩
        | exact Run.done ⟨rfl,_,_,rfl,by omega,rfl,(es2,clock2,st++[o1],some (μ+2)),by show μ+2+9≤μ+9+1+1;omega,(Hsub.cons rfl (Hsub.cons (by rw [List.map_append];rfl) (Hsub.cons (by repeat (first | exact hget_hd | refine (hget_tl (by omega)).trans ?_)) (Hsub.cons rfl (Hsub.cons rfl (Hsub.cons rfl (Hsub.cons rfl (Hsub.cons rfl Hsub.nil)))))))),hq1,by rw [hsucc,if_pos (by omega),← hI2],by simp⟩
     ·refine Run.skip (Run.bend ?_)
      first
        | exact Run.done ⟨rfl,_,_,rfl,by omega,rfl,(es2,clock2,[],none),by show 8≤_;omega,(Hsub.cons rfl (Hsub.cons rfl (Hsub.cons rfl (Hsub.cons rfl (Hsub.cons rfl (Hsub.cons rfl (Hsub.cons rfl Hsub.nil))))))),hq1,by rw [hsucc,if_neg (by omega),← hI2];rfl,by simp⟩
        | exact Run.done ⟨rfl,_,_,rfl,by omega,rfl,(es2,clock2,st,some j),by show j+9≤_;omega,(Hsub.cons rfl (Hsub.cons rfl (Hsub.cons (by repeat (first | exact hget_hd | refine (hget_tl (by omega)).trans ?_)) (Hsub.cons rfl (Hsub.cons rfl (Hsub.cons rfl (Hsub.cons rfl (Hsub.cons rfl Hsub.nil)))))))),hq1,by rw [hsucc,if_neg (by omega),← hI2];exact (List.append_nil st).symm,hI3⟩
        | exact Run.done ⟨rfl,_,_,rfl,by omega,rfl,(es2,clock2,[]++[o1],some (μ+2)),by show μ+2+9≤μ+9+1+1;omega,(Hsub.cons rfl (Hsub.cons rfl (Hsub.cons (by repeat (first | exact hget_hd | refine (hget_tl (by omega)).trans ?_)) (Hsub.cons rfl (Hsub.cons rfl (Hsub.cons rfl (Hsub.cons rfl (Hsub.cons rfl Hsub.nil)))))))),hq1,by rw [hsucc,if_pos (by omega),← hI2],by simp⟩
        | exact Run.done ⟨rfl,_,_,rfl,by omega,rfl,(es2,clock2,st++[o1],some (μ+2)),by show μ+2+9≤μ+9+1+1;omega,(Hsub.cons rfl (Hsub.cons (by rw [List.map_append];rfl) (Hsub.cons (by repeat (first | exact hget_hd | refine (hget_tl (by omega)).trans ?_)) (Hsub.cons rfl (Hsub.cons rfl (Hsub.cons rfl (Hsub.cons rfl (Hsub.cons rfl Hsub.nil)))))))),hq1,by rw [hsucc,if_pos (by omega),← hI2],by simp⟩
    ·refine Run.region (Cx.Ok.rnd (cx_ok _ _ _)) (Reg.op rfl (Ope.newL rfl ?_))
     refine Reg.op0 (Ope.store rfl rfl hget_hd rfl rfl rfl ?_)
     refine Reg.nil (Run.done ⟨rfl,rfl,_,_,rfl,(hget_tl (by omega)).trans ((hget_tl (by omega)).trans hget_hd),fun lb2=>?_⟩)
     refine Run.block (Run.seq (Run.frz (d:=8) true rfl ((hget_tl (by omega)).trans hget_hd) rfl ?_))
     refine Run.wideS (m:=μ+9) (Nat.le_refl _) (hs_round7 (by omega) (by rfl) (by repeat (first | rfl | refine (hget_tl (by omega)).trans ?_))) ?_
     refine Run.region (Cx.Ok.rnd (cx_ok _ _ _)) (Reg.op rfl (Ope.load rfl rfl ?_))
     refine Reg.op rfl (Ope.load rfl rfl ?_)
     refine Reg.op rfl (Ope.callM4 (clo:=cloO s t1 t2) rfl rfl rfl rfl rfl rfl (by omega) (hbw _) (MemoW.bd (VO_bd s 4) hI1) hcb ihx (fun v es2 clock2 hq=>?_))
     obtain ⟨hq1,rfl⟩:=hq
     refine Reg.op rfl (Ope.newL rfl ?_)
     refine Reg.op0 (Ope.store rfl rfl hget_hd rfl rfl rfl ?_)
     refine Reg.nil (Run.seq (Run.frz (d:=9) true rfl hget_hd rfl ?_))
     refine Run.region (Cx.Ok.rnd (cx_ok _ _ _)) (Reg.op rfl (Ope.fld rfl rfl ?_))
     refine Reg.op rfl (Ope.load rfl rfl ?_)
     refine Reg.op rfl (Ope.gt rfl rfl ?_)
     refine Reg.nil (Run.condX rfl (fun hc=>?_) fun hc=>?_)
     ·refine Run.region (Cx.Ok.rnd (cx_ok _ _ _)) (Reg.op rfl (Ope.load rfl rfl ?_))
      refine Reg.op rfl (Ope.load rfl rfl ?_)
      refine Reg.op rfl (Ope.bsl rfl rfl rfl rfl ?_)
      first
        | refine Reg.op rfl (Ope.apO rfl rfl (by simp) (by simp) (by simp) (by decide) (by simp) (by intro v hv;simp only [List.mem_singleton] at hv;subst hv;exact ⟨rfl,rfl⟩) ?_)
        | refine Reg.op rfl (Ope.apP (j:=j+8) rfl rfl (by simp) (by simpa using fun h=>absurd (hI3.2 h) (by simp)) (by repeat (first | exact hget_hd | refine (hget_tl (by omega)).trans ?_)) (by simp;omega) (by simp;omega) (by decide) (by intro v hv;obtain ⟨_,_,rfl⟩:=List.mem_map.1 hv;rfl) (by intro v hv;simp only [List.mem_singleton] at hv;subst hv;exact ⟨rfl,rfl⟩) ?_)
      refine Reg.op0 (Ope.store rfl rfl (by repeat (first | rfl | refine (hget_tl (by omega)).trans ?_)) rfl rfl rfl ?_)
      refine Reg.nil (Run.bend ?_)
      first
        | exact Run.done ⟨rfl,_,_,rfl,by omega,rfl,(es2,clock2,[],none),by show 8≤_;omega,(Hsub.cons rfl (Hsub.cons rfl (Hsub.cons rfl (Hsub.cons rfl (Hsub.cons rfl (Hsub.cons rfl (Hsub.cons rfl Hsub.nil))))))),hq1,by rw [hsucc,if_neg (by omega),← hI2];rfl,by simp⟩
        | exact Run.done ⟨rfl,_,_,rfl,by omega,rfl,(es2,clock2,st,some j),by show j+9≤_;omega,(Hsub.cons rfl (Hsub.cons rfl (Hsub.cons (by repeat (first | exact hget_hd | refine (hget_tl (by omega)).trans ?_)) (Hsub.cons rfl (Hsub.cons rfl (Hsub.cons rfl (Hsub.cons rfl (Hsub.cons rfl Hsub.nil)))))))),hq1,by rw [hsucc,if_neg (by omega),← hI2];exact (List.append_nil st).symm,hI3⟩
        | exact Run.done ⟨rfl,_,_,rfl,by omega,rfl,(es2,clock2,[]++[o1],some (μ+2)),by show μ+2+9≤μ+9+1+1;omega,(Hsub.cons rfl (Hsub.cons rfl (Hsub.cons (by repeat (first | exact hget_hd | refine (hget_tl (by omega)).trans ?_)) (Hsub.cons rfl (Hsub.cons rfl (Hsub.cons rfl (Hsub.cons rfl (Hsub.cons rfl Hsub.nil)))))))),hq1,by rw [hsucc,if_pos (by omega),← hI2],by simp⟩
        | exact Run.done ⟨rfl,_,_,rfl,by omega,rfl,(es2,clock2,st++[o1],some (μ+2)),by show μ+2+9≤μ+9+1+1;omega,(Hsub.cons rfl (Hsub.cons (by rw [List.map_append];rfl) (Hsub.cons (by repeat (first | exact hget_hd | refine (hget_tl (by omega)).trans ?_)) (Hsub.cons rfl (Hsub.cons rfl (Hsub.cons rfl (Hsub.cons rfl (Hsub.cons rfl Hsub.nil)))))))),hq1,by rw [hsucc,if_pos (by omega),← hI2],by simp⟩
     ·refine Run.skip (Run.bend ?_)
      first
        | exact Run.done ⟨rfl,_,_,rfl,by omega,rfl,(es2,clock2,[],none),by show 8≤_;omega,(Hsub.cons rfl (Hsub.cons rfl (Hsub.cons rfl (Hsub.cons rfl (Hsub.cons rfl (Hsub.cons rfl (Hsub.cons rfl Hsub.nil))))))),hq1,by rw [hsucc,if_neg (by omega),← hI2];rfl,by simp⟩
        | exact Run.done ⟨rfl,_,_,rfl,by omega,rfl,(es2,clock2,st,some j),by show j+9≤_;omega,(Hsub.cons rfl (Hsub.cons rfl (Hsub.cons (by repeat (first | exact hget_hd | refine (hget_tl (by omega)).trans ?_)) (Hsub.cons rfl (Hsub.cons rfl (Hsub.cons rfl (Hsub.cons rfl (Hsub.cons rfl Hsub.nil)))))))),hq1,by rw [hsucc,if_neg (by omega),← hI2];exact (List.append_nil st).symm,hI3⟩
        | exact Run.done ⟨rfl,_,_,rfl,by omega,rfl,(es2,clock2,[]++[o1],some (μ+2)),by show μ+2+9≤μ+9+1+1;omega,(Hsub.cons rfl (Hsub.cons rfl (Hsub.cons (by repeat (first | exact hget_hd | refine (hget_tl (by omega)).trans ?_)) (Hsub.cons rfl (Hsub.cons rfl (Hsub.cons rfl (Hsub.cons rfl (Hsub.cons rfl Hsub.nil)))))))),hq1,by rw [hsucc,if_pos (by omega),← hI2],by simp⟩
        | exact Run.done ⟨rfl,_,_,rfl,by omega,rfl,(es2,clock2,st++[o1],some (μ+2)),by show μ+2+9≤μ+9+1+1;omega,(Hsub.cons rfl (Hsub.cons (by rw [List.map_append];rfl) (Hsub.cons (by repeat (first | exact hget_hd | refine (hget_tl (by omega)).trans ?_)) (Hsub.cons rfl (Hsub.cons rfl (Hsub.cons rfl (Hsub.cons rfl (Hsub.cons rfl Hsub.nil)))))))),hq1,by rw [hsucc,if_pos (by omega),← hI2],by simp⟩
   ·obtain ⟨es1,clock1,st,ow⟩:=t
    obtain ⟨hI1,hI2,hI3⟩:=hI
    simp only at hI1 hI2 hI3
    rw [List.length_map] at hI2
    refine Run.bend (Run.seq ?_)
    refine Run.wideS (m:=m) (l':=[(6,some .dfr),(5,some (.cells [.sl (tlO ow) (st.map Olk.v)])),(1,some (.map es1 clock1)),(4,some (.cells [I 0,I 0,.sl .ex [],I 0])),(0,none),(2,none),(3,some (cloO s t1 t2))]) (Nat.le_refl _) (by cases ow with
        | none=>exact hs_refl
        | some j=>exact hs_keep (hs_keep (hs_skip hs_refl rfl))) ?_
    refine Run.weakS (i:=5) rfl ?_
    refine Run.region (cx_ok _ _ _) (Reg.op rfl (Ope.load rfl rfl ?_))
    refine Reg.op rfl (Ope.cf rfl rfl (hjoin .no rfl st hI2) (hbj _) ?_)
    refine Reg.op0 (Ope.store rfl rfl rfl rfl rfl rfl ?_)
    exact Reg.nil (Run.ret (finC_retD rfl (.cell rfl rfl .nil) hbo (by rw [HE_cut4 rfl rfl rfl rfl];exact ok4 (MemoW.bd (VO_bd s 4) hI1) hcb) ⟨_,_,HE_cut4 rfl rfl rfl rfl,hI1,rfl⟩))
end
end Go.Pv
