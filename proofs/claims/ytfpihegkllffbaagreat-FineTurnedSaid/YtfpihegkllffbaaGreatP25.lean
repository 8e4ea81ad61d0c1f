/- Parts of the proof: E62, E63, E52, E64, E46, E47 -/
import Derived.Test.YtfpihegkllffbaaGreatP24
set_option linter.unusedVariables false
set_option linter.unusedSimpArgs false
set_option linter.unusedSectionVars false
namespace Go.Pv
open Go.Proofs Go.Am
set_option maxRecDepth 10000
set_option maxHeartbeats 4000000
def QL (X:List Int) (v:PV) (h':PH):Prop:=∃ (m c:Nat) (post:List PV) (ez:Option Nat),X.length≤c∧v=.ms m 0 X.length c ez∧h'=HE (m+1) [(m,some (.cells (X.map I++post)))]
def QT (X:List Int) (v:PV) (h':PH):Prop:=∃ (m c:Nat) (post:List PV) (ez:Option Nat),X.length≤c∧v=.tup [.ms m 0 X.length c ez,I 0]∧h'=HE (m+1) [(m,some (.cells (X.map I++post)))]
theorem PCall.beside {g:FuncId} {args:List PV} {X:List Int} {m b:Nat} {c0:PBlk} (hc:c0.isOwn=false) (hp:PCall P0 g args (HE m []) (QL X) fun _ _=>False) :
    PCall P0 g args (HE m [(b,some c0)]) (fun v h'=>∃ (mm c:Nat) (post:List PV) (ez:Option Nat),X.length≤c∧mm≠b∧v=.ms mm 0 X.length c ez∧h'=HE (mm+1) [(mm,some (.cells (X.map I++post))),(b,some c0)]) fun _ _=>False:=by
  have e0:(HE m [(b,some c0)]).hide (fun i=>decide (i=b))=HE m []:=by
    simp only [PH.hide,HE,PH.mk.injEq,and_true]
    funext i
    by_cases hi:i=b
    · simp [hi,hget]
    · rw [if_neg (by simpa using hi),hget_tl hi]
  have h1:PCall P0 g args ((HE m [(b,some c0)]).hide fun i=>decide (i=b)) (QL X) fun _ _=>False:=by rw [e0];exact hp
  refine (PCall.frameO (O:=fun i=>decide (i=b)) (fun i hi=>?_) h1).mono (fun v h' hq=>?_) (fun v h' hq=>?_)
  · have hib : i = b := by simpa using hi
    subst hib
    exact ⟨c0,hget_hd,hc⟩
  · obtain ⟨h1, ⟨mm, c, post, ez, q1, q2, rfl⟩, ⟨_, q4⟩, rfl⟩ := hq
    have hne:mm≠b:=fun e=>by
      subst e
      have:=q4 mm (by simp)
      rw [show (HE (mm+1) [(mm,some (PBlk.cells (X.map I++post)))]).get mm=some (PBlk.cells (X.map I++post)) from hget_hd] at this
      cases this
    refine ⟨mm,c,post,ez,q1,hne,q2,?_⟩
    simp only [PH.give,HE,PH.mk.injEq,and_true]
    funext i
    by_cases hi:i=b
    · subst hi
      rw [if_pos (by simp),hget_hd,hget_tl (Ne.symm hne),hget_hd]
    · rw [if_neg (by simpa using hi)]
      by_cases hm:i=mm
      · subst hm;rw [hget_hd,hget_hd]
      · rw [hget_tl hm,hget_tl hm,hget_tl hi]
  · obtain ⟨_, q, _⟩ := hq
    exact q.elim
theorem lones_ints:∀ ws:List Int,PV.lones (ws.map I)=true
  | []=>rfl
  | w::ws=>by simp only [List.map_cons,PV.lones,PV.lone,lones_ints ws,Bool.and_self]
section
variable {C:Cx} {F:EQ} {X:EX} {k:List KI} {e:EL} {ds:List Nat} {n:Nat} {hl:HL}
theorem Run.toRaw {c:Code} {i:Nat} {ws:List Int} {post:List PV} (hg:hget hl i=some (.cells (ws.map I++post))) (hr:Run C F X (.c c::k) e ds (HE n ((i,some (.raw ws.length 0 (ws.map I)))::hl))):Run C F X (.c c::k) e ds (HE n hl):=by
  refine Run.ghost (fun t ht=>⟨t,ht,fun w0 s arr hw hh hT=>?_⟩) hr
  have hi:s.h.get i=some (.cells (ws.map I++post)):=by rw [hh];exact hg
  obtain ⟨p1,p2,arr',t',g1,g2⟩:=hw.hp i _ hi
  have hlo:PV.lones (ws.map I)=true:=lones_ints ws
  obtain ⟨x,y,hxy,v1,v2⟩:=RVs.split g2
  have hxl:x.length=ws.length:=by
    have:=RVs.length v1
    simpa using this
  have hput:HE n ((i,some (.raw ws.length 0 (ws.map I)))::hl)=s.h.put i (.raw ws.length 0 (ws.map I)):=by rw [hh,HE_put]
  have hlv:=(BAt_live (b:=.cells (ws.map I++post)) rfl).1 p2
  have hx:Ext s (s.put i (.raw ws.length 0 (ws.map I)) s.w):=Ext.put hlv (Nat.le_refl _) fun _ _=>rfl
  have hz:ws.length≤arr'.size:=by
    have h9:=congrArg List.length hxy
    rw [List.length_append,Array.length_toList] at h9
    omega
  have hy:∀ (j:Nat) (z:Value),x[j]?=some z→arr'[0+j]?=some z:=fun j z hj=>by
    have hlt:=(List.getElem?_eq_some_iff.1 hj).1
    rw [Nat.zero_add,← Array.getElem?_toList,hxy,List.getElem?_append_left hlt]
    exact hj
  refine ⟨s.put i (.raw ws.length 0 (ws.map I)) s.w,rfl,?_,hx,hput.symm,hT.ext hx⟩
  refine ⟨hw.os,hw.tape,hw.output,hw.size,hw.old,hw.prot,hw.cold,hw.inb,hw.ob,fun j b hj=>?_⟩
  simp only [St.put,PH.put] at hj
  split at hj
  · next e =>
    cases hj
    subst e
    exact ⟨p1,(BAt_live (b:=.raw ws.length 0 (ws.map I)) rfl).2 hlv,arr',t',(0,0),g1,Nat.le_refl _,hz,x,lones_rv (ws.map I) hlo _ v1,hy⟩
  · obtain ⟨q1, q2, q3⟩ := hw.hp j b hj
    exact ⟨q1,BAt.congr (s':=s.put i (.raw ws.length 0 (ws.map I)) s.w) (s:=s) rfl rfl q2,q3.ext hx rfl⟩
end
theorem f78L (tl:Tail) (xs:List Int) (hne:xs≠[]) (hl:xs.length≤1000) (n:Nat):PCall P0 78 [.sl tl (xs.map I)] (HE n []) (QL xs) fun _ _=>False:=by
  have hne':xs.map I≠[]:=fun h=>hne (List.map_eq_nil_iff.1 h)
  have hfl:flat (([]:List PV)++xs.map I)=xs.map I:=by
    rw [List.nil_append]
    exact flat_self fun v hv=>by obtain ⟨_,_,rfl⟩:=List.mem_map.1 hv;rfl
  refine PCall.ofH (C:=c78) (cx_ok _ _ _) rfl (fn:=Tryz.f78) (by kernel_rfl) (c:=_) rfl rfl rfl (fun hok9=>?_)
  refine rS (rN (cx_ok _ _ _) (rO rfl (oA rfl ?_)))
  refine rI (rS (rS (Run.nilS (cx_ok _ _ _) (x:=0) (tl:=tl) (vs:=xs.map I) rfl rfl und_ints rfl rfl (fun b hb=>?_))))
  refine rC rfl (fun hc=>?_) fun hc=>?_
  ·(exfalso;rw [hb hne'] at hc;cases hc)
  ·refine Run.skip (rS (rN (cx_ok _ _ _) (rO rfl (Ope.bsl rfl rfl rfl rfl ?_))))
   refine rO rfl (oM rfl ?_)
   refine rO rfl (Ope.apLa rfl rfl hne' (by simp;omega) (by simp;omega) (by decide) (by simp) (by intro v hv;obtain ⟨_,_,rfl⟩:=List.mem_map.1 hv;exact ⟨rfl,rfl⟩) (fun c post ez hcp=>?_))
   refine rO rfl (oA rfl ?_)
   exact rI (Run.ret (finH_ret (.tmp rfl .nil) (Nat.le_refl _) (fun _ _ h=>h) ⟨n,c,post,ez,by simpa using hcp,by show PV.ms n 0 (([]:List PV).length+(xs.map I).length) c ez=_;rw [List.length_nil,List.length_map,Nat.zero_add],by rw [hfl]⟩))
section
variable (f:Fns) {t1 t2:Tail} (h1:t1.isOwn=false) (h2:t2.isOwn=false)
include h1 h2
theorem f58L (hf:f.ok) (hl0:0 < f.li.length) (ta tb:Tail) (ri ho:List Int) (hk:f.Kno ri ho) (n:Nat):PCall P0 58 [f.v t1 t2,.sl ta (ri.map I),.sl tb (ho.map I)] (HE n []) (QL (f.exa (f.dl ri ho f.li.length))) fun _ _=>False:=by
  have hl5:=hf.li
  have hdl:=dl_succ f ri ho
  have hdn:=dl_len f ri ho
  have hok:=dl_ok hf hk
  have hT:f.dl ri ho f.li.length=f.dl ri ho f.li.length:=rfl
  have hnT:((f.dl ri ho f.li.length).map Deed.nu).Nodup:=by rw [dl_nu];exact List.nodup_range
  obtain ⟨ts,hts,hio⟩:=f75 (f.dl ri ho f.li.length) (by rw [hdn];omega) hnT .no rfl
  have hsp:=srtD_perm (f.dl ri ho f.li.length)
  have hnS:((srtD (f.dl ri ho f.li.length)).map Deed.nu).Nodup:=((hsp.map _).nodup_iff).2 hnT
  have hdS:∀ d∈srtD (f.dl ri ho f.li.length),Dok f d:=fun d hd=>hok d (hsp.mem_iff.1 hd)
  have hfol:=fol_rok hf (srtD_sorted hnT) hnS hdS
  have hexa:=exa_cs hf (T:=f.dl ri ho f.li.length) (by rw [dl_nu,hdn]) (by rw [hdn];exact hl5) hok
  rw [hdn] at hexa
  have hbio:PV.bds 0 [.sl .no ((f.dl ri ho f.li.length).map Deed.v),.fn (.func 76) [] []]=true:=bds_cons (bd_sl (f:=Deed.v) (tl:=.no) rfl (fun _=>rfl) _) rfl
  have hSl:(srtD (f.dl ri ho f.li.length)).length=f.li.length:=by rw [hsp.length_eq,hdn]
  have hfs:=fun i (h:i < (srtD (f.dl ri ho f.li.length)).length)=>(by rw [List.take_succ_eq_append_getElem h,fol_snoc]:f.fol ((srtD (f.dl ri ho f.li.length)).take (i+1))=f.wth (f.fol ((srtD (f.dl ri ho f.li.length)).take i)) (srtD (f.dl ri ho f.li.length))[i])
  have hwi:=fun (r:Rec) (d:Deed)=>f77 f h1 h2 hf r d
  have hbw:∀ (r:Rec) (d:Deed),PV.bds 0 [f.v t1 t2,r.v,d.v]=true:=fun r d=>bd_fnsV f h1 h2 (bds_cons (bd_rec 0 r) rfl)
  have hXne:f.exa (f.dl ri ho f.li.length)≠[]:=fun e=>by
    have h9:=congrArg List.length e
    unfold Fns.exa at h9
    rw [List.length_map,hdn] at h9
    have h8:f.li.length=0:=h9
    omega
  have hcl:=fun n=>f78L .no (f.exa (f.dl ri ho f.li.length)) hXne (by unfold Fns.exa;rw [List.length_map,hdn];omega) n
  have hbc:PV.bds 0 [.sl .no ((f.exa (f.dl ri ho f.li.length)).map I)]=true:=bds_cons (bd_sl (f:=I) (tl:=.no) rfl (fun _=>rfl) _) rfl
  have hof:=fun {i:Nat} (h:i < f.li.length)=>Fns.ofc_at (f:=f) h
  have hr1:=hk.l1
  have hr2:=hk.l2
  have hrg:∀ i (h:i < f.li.length),ri.getD i 0=ri[i]'(Nat.lt_of_lt_of_eq h hr1.symm):=fun i h=>by simp [List.getD,hr1,h]
  have hhg:∀ i (h:i < f.li.length),ho.getD i 0=ho[i]'(Nat.lt_of_lt_of_eq h hr2.symm):=fun i h=>by simp [List.getD,hr2,h]
  have hdl0:f.dl ri ho 0=[]:=rfl
  generalize hSS:srtD (f.dl ri ho f.li.length)=S at *
  generalize f.exa (f.dl ri ho f.li.length)=X at *
  refine PCall.ofH (C:=c58) (cx_ok _ _ _) rfl (fn:=Tryz.f58) (by kernel_rfl) (c:=_) rfl rfl rfl (fun hok9=>?_)
  refine rS (rN (cx_ok _ _ _) (rO rfl (Ope.boxF rfl rfl ?_)))
  refine rO rfl (oA rfl ?_)
  refine rI (rS (rN (cx_ok _ _ _) (rO rfl (oA rfl ?_))))
  refine rI (rS (rS (rN (cx_ok _ _ _) (rO rfl (Ope.fld rfl rfl ?_)))))
  refine rO rfl (Ope.fld rfl rfl ?_)
  refine rO rfl (oL rfl rfl ?_)
  refine rO rfl (Ope.len (m:=f.li.length) rfl (by simp) ?_)
  refine rO rfl (oM rfl ?_)
  refine rI (Run.block (Run.loop (α:=Nat×Option Nat×Nat) (fun t=>[(1,.sl ta (ri.map I)),(2,.sl tb (ho.map I)),(3,.fp (f.v t1 t2)),(7,.sl (tlU t.2.1) ((f.dl ri ho t.1).map Deed.v)),(15,.sl t2 (f.li.map Ofc.v)),(16,I f.li.length),(17,I t.1)]) (fun t=>HE t.2.2 (ownU t.2.1++[])) (fun t=>t.1≤f.li.length∧∀ j,t.2.1=some j→j < t.2.2∧f.dl ri ho t.1≠[]) (fun t=>f.li.length - t.1) (0,none,n) ⟨rfl,rfl,rfl,rfl,rfl,rfl,rfl,trivial⟩ rfl ⟨Nat.zero_le _,fun j hj=>by cases hj⟩ (fun t ht=>?_)))
  obtain ⟨i,o',m⟩:=t
  obtain ⟨hi,hO⟩:=ht
  simp only at hi hO
  show Run _ _ _ _ [(1,.sl ta (ri.map I)),(2,.sl tb (ho.map I)),(3,.fp (f.v t1 t2)),(7,.sl (tlU o') ((f.dl ri ho i).map Deed.v)),(15,.sl t2 (f.li.map Ofc.v)),(16,I f.li.length),(17,I i)] [] (HE m (ownU o'++[]))
  refine rS (rN (cx_ok _ _ _) (rO rfl (Ope.lt rfl rfl ?_)))
  refine rI (rS (rC rfl (fun hc=>?_) fun hc=>?_))
  ·refine Run.skip (rS (Run.block (rS ?_)))
   have hlt':i < f.li.length:=by omega
   have hno:∀ j,o'=some j→j < m:=fun j hj=>(hO j hj).1
   have hdli:f.dl ri ho (i+1)=f.dl ri ho i++[⟨f.li[i].kd,i,ri[i]'(by omega),ho[i]'(by omega)⟩]:=by rw [hdl,hof hlt',hrg i hlt',hhg i hlt']
   have hdni:=hdn i
   refine rN (cx_ok _ _ _) (rO rfl (oM rfl ?_))
   refine rO rfl (Ope.idxM (m:=i) (f:=Ofc.v) rfl rfl rfl hlt' (fun _=>rfl) ?_)
   refine rO rfl (oL rfl rfl ?_)
   refine rO rfl (Ope.newL rfl ?_)
   refine rO rfl (oA rfl ?_)
   refine Reg.op0 (Ope.store rfl rfl hget_hd rfl rfl rfl ?_)
   refine rI (Run.frz (d:=9) true rfl hget_hd rfl ?_)
   refine Run.wideS (m:=m+1) (l':=ownU o'++[]) (Nat.le_refl _) (hs_skip (hs_skip (hs_skip hs_refl (ownU_none hno rfl)) (ownU_none hno rfl)) (ownU_none hno rfl)) ?_
   refine Run.draw (cx_ok _ _ _) [(0,true),(1,true),(2,true),(3,true),(4,true),(5,true),(6,true),(7,true),(8,true),(9,true),(10,true),(11,true),(12,true),(13,true),(14,true),(15,true)] (by kernel_rfl) (dO rfl rfl rfl .sure (oM rfl ?_))
   refine dO rfl rfl rfl .sure (Ope.fld rfl rfl ?_)
   refine dO rfl rfl rfl .sure (oL rfl rfl ?_)
   refine dO rfl rfl rfl .sure (oM rfl ?_)
   refine dO rfl rfl rfl .sure (oM rfl ?_)
   refine dO rfl rfl rfl .sure (oM rfl ?_)
   refine dO rfl rfl rfl .sure (Ope.idxM (m:=i) (f:=I) rfl rfl rfl (by omega) (fun _=>rfl) ?_)
   refine dO rfl rfl rfl .sure (oL rfl rfl ?_)
   refine dO rfl rfl rfl .sure (oM rfl ?_)
   refine dO rfl rfl rfl .sure (oM rfl ?_)
   refine dO rfl rfl rfl .sure (Ope.idxM (m:=i) (f:=I) rfl rfl rfl (by omega) (fun _=>rfl) ?_)
   refine dO rfl rfl rfl .sure (oL rfl rfl ?_)
   refine dO rfl rfl rfl .sure (Ope.bld rfl rfl ?_)
   refine dO rfl rfl rfl .sure (Ope.bsl rfl rfl rfl rfl ?_)
   refine dO rfl rfl rfl .sure (Ope.apU (o':=o') (vs:=(f.dl ri ho i).map Deed.v) (ws:=[.agg [I f.li[i].kd,I i,I (ri[i]'(by omega)),I (ho[i]'(by omega))]]) rfl rfl (by simp) (fun j hj=>⟨by have:=(hO j hj).2;simpa using this,rfl⟩) (by simp only [List.length_map,List.length_singleton];omega) (by simp only [List.length_map,List.length_singleton];omega) (by decide) (by intro v hv;obtain ⟨_,_,rfl⟩:=List.mem_map.1 hv;rfl) (by intro v hv;simp only [List.mem_singleton] at hv;subst hv;exact ⟨rfl,rfl⟩) ?_)
   refine dO rfl rfl rfl .sure (oA rfl ?_)
   refine Dra.nil (Run.bend (rN (cx_ok _ _ _) (rO rfl (Ope.add rfl rfl (by omega) ?_))))
   refine rO rfl (oM rfl ?_)
   exact rI (Run.lend ⟨(i+1,some (m+1),m+2),by show f.li.length - (i+1) < f.li.length - i;omega,⟨by show i+1≤f.li.length;omega,fun j hj=>by cases hj;exact ⟨Nat.lt_succ_self _,by rw [hdli];simp⟩⟩,⟨rfl,rfl,rfl,congrArg (fun l=>some (PV.sl (.own (m+1)) l)) (by rw [hdli,List.map_append];rfl),rfl,rfl,rfl,trivial⟩,rfl,rfl⟩)
  ·refine Run.exit (Jmp.code (Jmp.round (Jmp.here (rS ?_))))
   obtain rfl:i=f.li.length:=by omega
   refine Run.weakT (d:=7) rfl ?_
   refine Run.wide (m:=m) (l':=[]) (Nat.le_refl _) trivial ?_
   refine rN (cx_ok _ _ _) (rO rfl (Ope.newL rfl ?_))
   refine rI (rS (rS (rN (cx_ok _ _ _) (rO rfl (oM rfl ?_)))))
   refine rO rfl (Ope.cf rfl rfl hio hbio ?_)
   refine rO rfl (Ope.len (m:=S.length) rfl (by simp) ?_)
   refine rO rfl (oM rfl ?_)
   refine rI (Run.block (Run.loop (α:=Nat×Nat) (fun t=>[(3,.fp (f.v t1 t2)),(10,.ptr m 0),(39,.sl ts (S.map Deed.v)),(40,I S.length),(41,I t.1)]) (fun t=>HE t.2 [(m,some (.cells (mapV ((f.fol (S.take t.1)).ds.map Deed.key) ((f.fol (S.take t.1)).ds.map fun _=>B true)::(f.fol (S.take t.1)).cs.map I)))]) (fun t=>t.1≤S.length∧m < t.2) (fun t=>S.length - t.1) (0,m+1) ⟨rfl,rfl,rfl,rfl,rfl,trivial⟩ rfl ⟨Nat.zero_le _,Nat.lt_succ_self _⟩ (fun t ht=>?_)))
   obtain ⟨p,m2⟩:=t
   obtain ⟨hp,hm2⟩:=ht
   simp only at hp hm2
   show Run _ _ _ _ [(3,.fp (f.v t1 t2)),(10,.ptr m 0),(39,.sl ts (S.map Deed.v)),(40,I S.length),(41,I p)] [] (HE m2 [(m,some (.cells (mapV ((f.fol (S.take p)).ds.map Deed.key) ((f.fol (S.take p)).ds.map fun _=>B true)::(f.fol (S.take p)).cs.map I)))])
   refine rS (rN (cx_ok _ _ _) (rO rfl (Ope.lt rfl rfl ?_)))
   refine rI (rS (rC rfl (fun hc=>?_) fun hc=>?_))
   ·refine Run.skip (rS (Run.block (rS ?_)))
    have hpl:p < S.length:=by omega
    obtain ⟨q1,q2⟩:=hfol p (by omega)
    obtain ⟨q3,q4⟩:=hfol (p+1) (by omega)
    have hfsp:=hfs p hpl
    have hdp:=hdS S[p] (List.getElem_mem hpl)
    have hnot:S[p] ∉ (f.fol (S.take p)).ds:=fun hm=>by
      have h5:=nodup_of_nu q3.nd
      rw [hfsp] at h5
      exact (List.nodup_cons.1 h5).1 hm
    have hw:=hwi (f.fol (S.take p)) S[p] q1.ln (rok_len q1) (nodup_of_nu q1.nd) hnot hdp
    rw [← hfsp] at hw
    have hbwp:=hbw (f.fol (S.take p)) S[p]
    have hln1:=q1.ln
    have hln2:=q3.ln
    have hone:=rec_one (f.fol (S.take (p+1)))
    have hput:=rec_put (q:=f.fol (S.take p)) (q':=f.fol (S.take (p+1))) hln1 hln2
    have hrp:=rec_part (q:=f.fol (S.take p)) hln1
    refine rN (cx_ok _ _ _) (rO rfl (Ope.idxM (m:=p) (f:=Deed.v) rfl rfl rfl hpl (fun _=>rfl) ?_))
    refine rO rfl (oL rfl rfl ?_)
    refine rO rfl (Ope.newL rfl ?_)
    refine Reg.op0 (Ope.store rfl rfl hget_hd rfl rfl rfl ?_)
    refine rI (Run.frz (d:=12) true rfl hget_hd rfl ?_)
    refine Run.wide (m:=m2+1) (l':=[(m,some (.cells (mapV ((f.fol (S.take p)).ds.map Deed.key) ((f.fol (S.take p)).ds.map fun _=>B true)::(f.fol (S.take p)).cs.map I)))]) (Nat.le_refl _) ⟨by repeat (first | exact hget_hd | refine (hget_tl (by omega)).trans ?_),trivial⟩ ?_
    refine rN (cx_ok _ _ _) (rO rfl (oL rfl rfl ?_))
    refine rO rfl (Ope.loadH rfl hget_hd hrp ?_)
    refine rO rfl (oL rfl rfl ?_)
    refine rO rfl (Ope.cf rfl rfl hw hbwp ?_)
    refine Reg.op0 (Ope.storeP rfl rfl hget_hd (rec_nc hln2) hone (by rw [rec_nc hln2];simp [hln1]) ?_)
    rw [hput]
    refine rI (Run.bend (Run.wide (m:=m2+1) (l':=[(m,some (.cells (mapV ((f.fol (S.take (p+1))).ds.map Deed.key) ((f.fol (S.take (p+1))).ds.map fun _=>B true)::(f.fol (S.take (p+1))).cs.map I)))]) (Nat.le_refl _) ⟨hget_hd,trivial⟩ ?_))
    refine rN (cx_ok _ _ _) (rO rfl (Ope.add rfl rfl (by omega) ?_))
    refine rO rfl (oM rfl ?_)
    exact rI (Run.lend ⟨(p+1,m2+1),by show S.length - (p+1) < S.length - p;omega,⟨by show p+1≤S.length;omega,by show m < m2+1;omega⟩,⟨rfl,rfl,rfl,rfl,rfl,trivial⟩,rfl,rfl⟩)
   ·refine Run.exit (Jmp.code (Jmp.round (Jmp.here (rS ?_))))
    obtain rfl:p=S.length:=by omega
    rw [List.take_length]
    obtain ⟨hx1,hx2⟩:=hexa
    refine Run.frz (d:=10) true rfl hget_hd rfl ?_
    refine rN (cx_ok _ _ _) (rO rfl (Ope.fld rfl (fldC hx2) ?_))
    refine rO rfl (Ope.fld rfl rfl ?_)
    refine rO rfl (Ope.fld rfl rfl ?_)
    refine rO rfl (oL rfl rfl ?_)
    refine rO rfl (Ope.len (m:=f.li.length) rfl (by simp) ?_)
    refine rO rfl (Ope.slAh (vs:=(f.fol S).cs.map I) (m:=f.li.length) rfl rfl (by simp [hx2]) (by omega) (by simp [PV.isAgg]) ?_)
    rw [← List.map_take,hx1]
    refine rO rfl (Ope.callW (l':=[]) rfl rfl (fun s xs h=>h) (Nat.le_refl _) (fun i b h=>by cases h) (hcl _) (fun v h' hq=>?_))
    obtain ⟨mm,c,post,ez,hc9,rfl,rfl⟩:=hq
    refine rO rfl (oA rfl ?_)
    exact rI (Run.ret (finH_ret (.tmp rfl .nil) (Nat.le_refl _) (fun _ _ h=>h) ⟨mm,c,post,ez,hc9,rfl,rfl⟩))
theorem f57L (hf:f.ok) (hl0:0 < f.li.length) (ta tb:Tail) (ri ho:List Int) (hk:f.Kno ri ho) (n:Nat):PCall P0 57 [f.v t1 t2,.fp (.sl ta (ri.map I)),.fp (.sl tb (ho.map I))] (HE n []) (QL (f.exa (f.dl ri ho f.li.length))) fun _ _=>False:=by
  have h:=fun n=>f58L f h1 h2 hf hl0 ta tb ri ho hk n
  generalize f.exa (f.dl ri ho f.li.length)=X at *
  refine PCall.ofH (C:=c57) (cx_ok _ _ _) rfl (fn:=Tryz.f57) (by kernel_rfl) (c:=_) rfl rfl rfl (fun hok9=>?_)
  refine rS (rN (cx_ok _ _ _) (rO rfl (Ope.boxF rfl rfl ?_)))
  refine rO rfl (oA rfl ?_)
  refine rI (rS (rN (cx_ok _ _ _) (rO rfl (oL rfl rfl ?_))))
  refine rO rfl (oL rfl rfl ?_)
  refine rO rfl (oL rfl rfl ?_)
  refine rO rfl (Ope.callW (l':=[]) rfl rfl (fun s xs h=>h) (Nat.le_refl _) (fun i b h=>by cases h) (h _) (fun v h' hq=>?_))
  obtain ⟨mm,c,post,ez,hc9,rfl,rfl⟩:=hq
  refine rO rfl (oA rfl ?_)
  exact rI (Run.ret (finH_ret (.tmp rfl .nil) (Nat.le_refl _) (fun _ _ h=>h) ⟨mm,c,post,ez,hc9,rfl,rfl⟩))
end
theorem d73nb (b:Nat) {n:Nat} {l:HL} {K:PH→Prop} (hK:K (HE n l)):PDefer A0 P0 73 [.ptr b 0] (.lit .nilifc) (HE n l) K:=by
  refine PDefer.of (C:=c73) (fd:=Tryz.f73) (by kernel_rfl) rfl rfl rfl rfl rfl rfl rfl rfl rfl rfl ?_
  refine Run.block (rS (rN (cx_ok _ _ _) ?_))
  first | refine rO rfl (Ope.eq rfl rfl ?_) | refine rO rfl (Ope.eqI rfl rfl ?_) | refine rO rfl (Ope.eqN rfl rfl rfl ?_)
  refine rI (rC rfl (fun hc=>?_) fun hc=>?_)
  ·first
   |exact absurd hc (by decide)
   |refine rN (cx_ok _ _ _) (rO rfl (oA rfl ?_))
    exact rI (Run.bend (Run.done ⟨.inl rfl,trivial,hK⟩))
  ·first
   |exact absurd hc (by decide)
   |refine rS (rN (cx_ok _ _ _) ?_)
    first | refine rO rfl (Ope.tasY rfl rfl ?_) | refine rO rfl (Ope.tasN rfl rfl ?_)
    refine rO rfl (Ope.ext rfl rfl ?_)
    refine rO rfl (Ope.ext rfl rfl ?_)
    refine rI (rC rfl (fun hc=>?_) fun hc=>?_)
    ·first
     |exact absurd hc (by decide)
     |refine rS (rN (cx_ok _ _ _) (rO rfl (oA rfl ?_)))
      refine rI (rN (cx_ok _ _ _) (rO rfl (oM rfl ?_)))
      refine Reg.op0 (Ope.store rfl rfl rfl rfl rfl rfl ?_)
      exact rI (Run.bend (Run.done ⟨.inl rfl,trivial,hK⟩))
    ·first
     |exact absurd hc (by decide)
     |refine rS (rN (cx_ok _ _ _) (rO rfl (oA rfl ?_)))
      refine rI (rN (cx_ok _ _ _) (Reg.op0 (Ope.store rfl rfl rfl rfl rfl rfl ?_)))
      exact rI (Run.bend (Run.done ⟨.inl rfl,trivial,hK⟩))
theorem f55L (f:Fns) {t1 t2:Tail} (h1:t1.isOwn=false) (h2:t2.isOwn=false) (hS:f.ru.length≤9223372036854775807) (hJ:f.li.length≤9223372036854775807) (g:Nat) (cap:List PV) (X:List Int) (hv:f.B=true) (hf:∀ m,PCall P0 g (f.v t1 t2::cap) (HE m []) (QL X) fun _ _=>False) (n:Nat):PCall P0 55 [f.v t1 t2,B true,.fn (.func g) [] cap] (HE n []) (QT X) fun _ _=>False:=by
  have hva:=f68 f h1 h2 hS hJ
  rw [hv] at hva
  have hbs:PV.bds 0 [f.v t1 t2]=true:=bd_fnsV f h1 h2 rfl
  refine PCall.ofT (C:=c55) (cx_ok _ _ _) (fn:=Tryz.f55) (by kernel_rfl) (c:=_) rfl rfl ?_
  refine Til.seq rfl rfl ?_
  refine rN (cx_ok _ _ _) ?_
  refine rO rfl (Ope.boxF rfl rfl ?_)
  refine rO rfl (oA rfl ?_)
  refine rO rfl (Ope.newL rfl ?_)
  refine rI ?_
  refine Run.done ⟨rfl,rfl,?_⟩
  refine Til.deferY (cx_ok _ _ _) (by kernel_rfl) rfl rfl rfl rfl rfl rfl rfl rfl (Ope.mkf rfl rfl ⟨rfl,rfl⟩) rfl ?_
  refine TilY.reg (cx_ok _ _ _) rfl 3 [(6,.sl .ex []),(7,.ptr n 0)] rfl ⟨rfl,rfl,trivial⟩ ?_
  refine RegP.op rfl (oL rfl rfl ?_)
  refine RegP.op rfl (Ope.cf rfl rfl hva hbs ?_)
  refine RegP.op rfl (Ope.cf rfl rfl (f67t 1) rfl ?_)
  refine RegP.nil ?_
  refine rI ?_
  refine Run.done ⟨rfl,rfl,?_⟩
  refine TilY.reg (cx_ok _ _ _) rfl 2 [(6,.sl .ex []),(7,.ptr n 0)] rfl ⟨rfl,rfl,trivial⟩ ?_
  refine RegP.op rfl (oM rfl ?_)
  refine RegP.op rfl (Ope.cf rfl rfl (f67t 2) rfl ?_)
  refine RegP.nil ?_
  refine rI ?_
  refine Run.done ⟨rfl,rfl,?_⟩
  refine TilY.reg (cx_ok _ _ _) rfl 4 [(6,.sl .ex []),(7,.ptr n 0)] rfl ⟨rfl,rfl,trivial⟩ ?_
  refine RegP.op rfl (oM rfl ?_)
  refine RegP.op rfl (oL rfl rfl ?_)
  refine RegP.op rfl (Ope.bld rfl rfl ?_)
  refine RegP.op rfl (Ope.call rfl rfl rfl ((PCall.beside (b:=n) rfl (hf _)).mono (fun v h' hq=>?_) fun _ _ q=>q.elim))
  obtain ⟨mm,c,post,ez,hc9,hmn,rfl,rfl⟩:=hq
  refine RegP.nil ?_
  refine rO rfl (oA rfl ?_)
  refine Reg.op0 (Ope.store rfl rfl ((hget_tl (Ne.symm hmn)).trans hget_hd) rfl rfl rfl ?_)
  refine rI ?_
  refine Run.done ⟨rfl,rfl,?_⟩
  refine TilY.ret (d73nb n ?_)
  refine ⟨_,(Res.tmp (v:=.ms mm 0 X.length c ez) rfl (Res.cell (p:=.ptr n 0) (v:=I 0) rfl (by simp only [loadK,hget_hd];rfl) .nil)).get,HE (mm+1) [(mm,some (.cells (X.map I++post)))],_,PGh.wide (Nat.le_refl _) (fun i b h=>?_),⟨mm,c,post,ez,hc9,rfl,rfl⟩⟩
  by_cases hi:i=mm
  · subst hi
    exact (hget_tl hmn).trans (hget_hd.trans (hget_hd.symm.trans h))
  · rw [show ([(mm, some (PBlk.cells (X.map I ++ post)))] : HL) = (mm, some (PBlk.cells (X.map I ++ post))) :: [] from rfl] at h
    exact absurd ((hget_tl hi).symm.trans h) (by simp [hget])
section
variable (f:Fns) {t1 t2:Tail} (h1:t1.isOwn=false) (h2:t2.isOwn=false)
include h1 h2
theorem f21L (hf:f.ok) (hl0:0 < f.li.length) (ta tb:Tail) (hta:ta.isOwn=false) (htb:tb.isOwn=false) (ri ho:List Int) (hk:f.knB ri ho=true) (n:Nat):PCall P0 21 [f.v t1 t2,.sl ta (ri.map I),.sl tb (ho.map I)] (HE n []) (QT (f.exa (f.dl ri ho f.li.length))) fun _ _=>False:=by
  have hl5:=hf.li
  have hr4:=hf.ru
  have hkn:=f56 f h1 h2 (by omega) ta tb ri ho
  rw [hk] at hkn
  have hb2:PV.bds 0 [f.v t1 t2,.sl ta (ri.map I),.sl tb (ho.map I)]=true:=bd_fnsV f h1 h2 (bds_cons (bd_sl (f:=I) hta (fun _=>rfl) _) (bds_cons (bd_sl (f:=I) htb (fun _=>rfl) _) rfl))
  have hto:=fun n=>f55L f h1 h2 (by omega) (by omega) 57 [.fp (.sl ta (ri.map I)),.fp (.sl tb (ho.map I))] _ (fns_B f hf) (fun m=>f57L f h1 h2 hf hl0 ta tb ri ho (kno_of hk) m) n
  generalize f.exa (f.dl ri ho f.li.length)=X at *
  refine PCall.ofH (C:=c21) (cx_ok _ _ _) rfl (fn:=Tryz.f21) (by kernel_rfl) (c:=_) rfl rfl rfl (fun hok9=>?_)
  refine rS (rN (cx_ok _ _ _) (rO rfl (Ope.boxF rfl rfl ?_)))
  refine rO rfl (Ope.boxF rfl rfl ?_)
  refine rO rfl (Ope.boxF rfl rfl ?_)
  refine rO rfl (oA rfl ?_)
  refine rO rfl (oA rfl ?_)
  refine rI (rS (Run.draw (cx_ok _ _ _) [(0,false),(1,true),(2,true),(3,true),(5,true),(4,true),(6,true),(7,true),(8,true),(9,true),(10,true)] (by kernel_rfl) (dO rfl rfl rfl (.load rfl) (oL rfl rfl ?_))))
  refine dO rfl rfl rfl .sure (oL rfl rfl ?_)
  refine dO rfl rfl rfl .sure (oL rfl rfl ?_)
  refine dO rfl rfl rfl .sure (oL rfl rfl ?_)
  refine dO rfl rfl rfl .sure (Ope.mkf rfl rfl ?_)
  refine dO rfl rfl rfl .sure (Ope.cf rfl rfl hkn hb2 ?_)
  refine dO rfl rfl rfl .sure (Ope.callW (l':=[]) rfl rfl (fun s xs h=>h) (Nat.le_refl _) (fun i b h=>by cases h) (hto _) (fun v h' hq=>?_))
  obtain ⟨mm,c,post,ez,hc9,rfl,rfl⟩:=hq
  refine dO rfl rfl rfl .sure (Ope.ext rfl rfl ?_)
  refine dO rfl rfl rfl .sure (Ope.ext rfl rfl ?_)
  refine dO rfl rfl rfl .sure (oA rfl ?_)
  refine dO rfl rfl rfl .sure (oA rfl ?_)
  exact Dra.nil (Run.ret (finH_ret (.tmp rfl (.tmp rfl .nil)) (Nat.le_refl _) (fun _ _ h=>h) ⟨mm,c,post,ez,hc9,rfl,rfl⟩))
end
end Go.Pv
namespace Go.Pv
open Go.Proofs Go.Am
set_option maxRecDepth 10000
set_option maxHeartbeats 4000000
theorem hs_nnz {z:Nat} {l:HL} {a c d:Option PBlk} {m:Nat}:∀ x b,hget ((z,a)::(m,none)::l) x=some b→hget ((z,a)::(m,none)::(m,c)::(m,d)::l) x=some b:=by
  intro x b h
  by_cases hx:x=z
  · subst hx;rw [hget_hd] at h ⊢;exact h
  · rw [hget_tl hx] at h ⊢
    by_cases hm:x=m
    · subst hm;rw [hget_hd] at h;cases h
    · rw [hget_tl hm] at h
      rw [hget_tl hm,hget_tl hm,hget_tl hm];exact h
section
variable (f:Fns) {t1 t2:Tail} (h1:t1.isOwn=false) (h2:t2.isOwn=false)
include h1 h2
theorem f27z (hf : f.ok) (tb : Tail) (xs : List Nat) (hx : ∀ x ∈ xs, x < 65536) (z n0 : Nat) (hn0 : z < n0) : PCall P0 27 [f.v t1 t2, .fn (.func 63) [] [.ptr z 0, .fp (.sl tb (xs.map U16))]] (HE n0 [(z, some (.cells [I 0]))]) (fun v h' => ∃ T : List Deed, f.Tru T ∧ v = .tup [.sl .no ((T.map Deed.ri).map I), .sl .no ((T.map Deed.ho).map I)] ∧ ∃ n', h' = HE n' []) fun _ _ => False := by
  have hl5:=hf.li
  have hn:=hf.n
  obtain ⟨kn,hkn,hk6⟩:∃ k:Nat,f.n=(k:Int)∧(0 < k∧k≤6):=⟨f.n.toNat,by have:=hf.n;omega,by have:=hf.n;omega⟩
  have hd1:=fun (n:Nat) (hn:0 < n∧n≤1000) (k:Nat) (hk:k≤100000) (m:Nat) (l:HL) hl=>f63 tb xs hx z n hn k hk m l hl
  have hli:=hf.lv
  have hof:=fun {i:Nat} (h:i < f.li.length)=>Fns.ofc_at (f:=f) h
  have htr:∀ T:List Deed,T.length=f.li.length→(∀ i (h:i < T.length),T[i].nu=i∧f.alw T[i])→f.Tru T:=fun T a b=>⟨a,b⟩
  have hal:∀ d:Deed,d.nu < f.li.length→(f.ofc d.nu).kd=d.kd→(0≤d.ri∧d.ri < f.n∧(f.ofc d.nu).ri.toNat.testBit d.ri.toNat=true)→(f.ofc d.nu).lo≤d.ho→d.ho≤(f.ofc d.nu).hi→f.alw d:=fun d a b c e g=>⟨a,b,c,e,g⟩
  have hbit:∀ x w:Nat,x >>> w &&& 1=if x.testBit w=true then 1 else 0:=fun x m=>by
    rw [Nat.testBit,Nat.and_comm 1 (x >>> m),Nat.and_one_is_mod]
    rcases Nat.mod_two_eq_zero_or_one (x >>> m) with h | h<;>simp [h]
  generalize f.Tru=TR at *
  generalize f.alw=AL at *
  generalize f.ofc=OF at *
  obtain ⟨ru,n,li⟩:=f
  simp only at hkn
  subst hkn
  simp only at hl5 hn hli hof htr hal
  refine PCall.ofH (C:=c27) (cx_ok _ _ _) rfl (fn:=Tryz.f27) (by kernel_rfl) (c:=_) rfl rfl rfl (fun hok=>?_)
  refine rS (rN (cx_ok _ _ _) (rO rfl (Ope.boxF rfl rfl ?_)))
  refine rO rfl (oA rfl ?_)
  refine rO rfl (oA rfl ?_)
  refine rI (rS (rS (rN (cx_ok _ _ _) (rO rfl (Ope.fld rfl rfl ?_)))))
  refine rO rfl (oL rfl rfl ?_)
  refine rO rfl (Ope.len (m:=li.length) rfl (by simp) ?_)
  refine rO rfl (oM rfl ?_)
  refine rI (Run.block ?_)
  refine Run.loop (α:=Nat×Nat×Option Nat×Option Nat×List Deed×HL) (fun t=>[(1,.fn (.func 63) [] [.ptr z 0,.fp (.sl tb (xs.map U16))]),(2,.fp ((⟨ru,(kn:Int),li⟩:Fns).v t1 t2)),(4,.sl (tlU t.2.2.1) ((t.2.2.2.2.1.map Deed.ri).map I)),(5,.sl (tlU t.2.2.2.1) ((t.2.2.2.2.1.map Deed.ho).map I)),(10,.sl t2 (li.map Ofc.v)),(11,I li.length),(12,I t.1)]) (fun t=>HE t.2.1 t.2.2.2.2.2) (fun t=>t.1≤li.length∧z < t.2.1∧hget t.2.2.2.2.2 z=some (.cells [I ((2 * t.1:Nat):Int)])∧(∀ j,t.2.2.1=some j→z < j∧j < t.2.1∧hget t.2.2.2.2.2 j=some .own∧0 < t.1)∧(∀ j,t.2.2.2.1=some j→z < j∧j < t.2.1∧hget t.2.2.2.2.2 j=some .own∧0 < t.1∧t.2.2.1≠some j)∧t.2.2.2.2.1.length=t.1∧∀ i (h:i < t.2.2.2.2.1.length),t.2.2.2.2.1[i].nu=i∧AL t.2.2.2.2.1[i]) (fun t=>li.length - t.1) (0,n0,none,none,[],[(z,some (.cells [I 0]))]) ⟨rfl,rfl,rfl,rfl,rfl,rfl,rfl,trivial⟩ rfl ⟨Nat.zero_le _,hn0,hget_hd,(fun j h=>by cases h),(fun j h=>by cases h),rfl,(fun i h=>absurd h (Nat.not_lt_zero _))⟩ (fun t ht=>?_)
  obtain ⟨i,m,o1,o2,T,l⟩:=t
  obtain ⟨hi,hm0,hl0,hO1,hO2,hTl,hTa⟩:=ht
  simp only at hi hm0 hl0 hO1 hO2 hTl hTa
  show Run _ _ _ _ [(1,.fn (.func 63) [] [.ptr z 0,.fp (.sl tb (xs.map U16))]),(2,.fp ((⟨ru,(kn:Int),li⟩:Fns).v t1 t2)),(4,.sl (tlU o1) ((T.map Deed.ri).map I)),(5,.sl (tlU o2) ((T.map Deed.ho).map I)),(10,.sl t2 (li.map Ofc.v)),(11,I li.length),(12,I i)] [] (HE m l)
  refine rS (rN (cx_ok _ _ _) (rO rfl (Ope.lt rfl rfl ?_)))
  refine rI (rS (rC rfl (fun hc=>?_) fun hc=>?_))
  ·refine Run.skip (rS (Run.block (rS ?_)))
   have hlt:i < li.length:=by omega
   have hkd:=hli li[i] (List.getElem_mem hlt)
   have hofi:=hof hlt
   have hp64:(2:Int) ^ ((kn:Nat):Int).toNat=((2 ^ kn:Nat):Int):=by rw [Int.toNat_natCast];push_cast;rfl
   rw [hp64] at hkd
   have hpk:2 ^ kn≤2 ^ 6:=Nat.pow_le_pow_right (by decide) hk6.2
   obtain ⟨R,hR,hR0,hRk⟩:∃ R:Nat,li[i].ri=(R:Int)∧0 < R∧R < 2 ^ kn:=⟨li[i].ri.toNat,by omega,by omega,by omega⟩
   obtain ⟨rs,hrs,hrb⟩:=some_bit hR0 hRk
   have hbR:=hbit R
   have hshR:∀ w,R >>> w≤R:=fun w=>Nat.shiftRight_le _ _
   obtain ⟨w3,hw3,hw4⟩:∃ w:Nat,li[i].hi - li[i].lo+1=(w:Int)∧(0 < w∧w≤1000):=⟨(li[i].hi - li[i].lo+1).toNat,by omega,by omega⟩
   refine rN (cx_ok _ _ _) (rO rfl (Ope.idxM (m:=i) (f:=Ofc.v) rfl rfl rfl hlt (fun _=>rfl) ?_))
   refine rO rfl (oL rfl rfl ?_)
   refine rO rfl (Ope.newL rfl ?_)
   refine Reg.op0 (Ope.store rfl rfl hget_hd rfl rfl rfl ?_)
   refine rI (rS (Run.frz (d:=7) true rfl hget_hd rfl ?_))
   refine rN (cx_ok _ _ _) (rO rfl (oM rfl ?_))
   refine rO rfl (Ope.fld rfl rfl ?_)
   refine rO rfl (oL rfl rfl ?_)
   refine rO rfl (Ope.call rfl rfl rfl ((hd1 kn (by omega) (2 * i) (by omega) _ _ ((hget_tl (by omega)).trans ((hget_tl (by omega)).trans ((hget_tl (by omega)).trans hl0)))).mono (fun v h' q=>?_) fun _ _ q=>q.elim))
   obtain ⟨d1,hdl1,rfl,rfl⟩:=q
   refine rO rfl (oA rfl ?_)
   refine rI (rS (Run.block (Run.wideS (m:=m+1) (l':=(z,some (.cells [I ((2 * i+1:Nat):Int)]))::(m,none)::l) (Nat.le_refl _) hs_nnz ?_)))
   refine Run.loop (α:=Nat) (fun w=>[(1,.fn (.func 63) [] [.ptr z 0,.fp (.sl tb (xs.map U16))]),(2,.fp ((⟨ru,(kn:Int),li⟩:Fns).v t1 t2)),(4,.sl (tlU o1) ((T.map Deed.ri).map I)),(5,.sl (tlU o2) ((T.map Deed.ho).map I)),(10,.sl t2 (li.map Ofc.v)),(11,I li.length),(12,I i),(7,.fp li[i].v),(8,N w)]) (fun w=>HE (m+1) ((z,some (.cells [I ((2 * i+1:Nat):Int)]))::(m,none)::l)) (fun w=>w < kn) (fun w=>if w≤rs then rs - w else kn - w+rs) d1 ⟨rfl,rfl,rfl,rfl,rfl,rfl,rfl,rfl,rfl,trivial⟩ rfl hdl1 (fun w hw=>?_)
   refine rS (rS (rN (cx_ok _ _ _) (rO rfl (Ope.fld rfl rfl ?_))))
   refine rO rfl (oL rfl rfl ?_)
   refine rO rfl (oM rfl ?_)
   refine rO rfl (Ope.shrN (p:=R) (m:=w) rfl rfl hR rfl (by show w≤64;omega) ?_)
   refine rO rfl (Ope.andN (p:=R >>> w) (q:=1) rfl rfl rfl rfl (by have:=hshR w;show R >>> w < 2 ^ 64;omega) (by decide) ?_)
   rw [hbR w]
   refine rO rfl (Ope.eq rfl rfl ?_)
   refine rI (rC rfl (fun hc=>?_) fun hc=>?_)
   ·refine Run.skip (Run.block ?_)
    have hwn:w≠rs:=fun e=>by
      subst e
      rw [if_pos hrb] at hc
      exact absurd hc (by decide)
    have hms:=mod_step hw
    refine rN (cx_ok _ _ _) (rO rfl (oM rfl ?_))
    refine rO rfl (Ope.add rfl rfl (by omega) ?_)
    refine rO rfl (Ope.fld rfl rfl ?_)
    refine rO rfl (oL rfl rfl ?_)
    refine rO rfl (Ope.remN (p:=w+1) (q:=kn) rfl rfl (by omega) rfl hk6.1 ?_)
    refine rO rfl (oA rfl ?_)
    exact rI (Run.bend (Run.lend ⟨(w+1) % kn,by rw [hms];split<;>(repeat' split)<;>omega,Nat.mod_lt _ hk6.1,⟨rfl,rfl,rfl,rfl,rfl,rfl,rfl,rfl,rfl,trivial⟩,rfl,rfl⟩))
   ·refine Run.exit (Jmp.code (Jmp.round (Jmp.here ?_)))
    have hwb:R.testBit w=true:=by
      cases hb:R.testBit w with
      | true=>rfl
      | false=>rw [hb] at hc;exact absurd rfl hc
    have hA1:∀ j,o1=some j→(T.map Deed.ri).map I≠[]∧hget ((z,some (.cells [I ((2 * i+1:Nat):Int)]))::(m,none)::l) j=some .own:=fun j hj=>⟨fun e=>by have hz:T.length=0:=(by have:=congrArg List.length e;simpa using this);have:=(hO1 j hj).2.2.2;omega,(hget_tl (by have:=(hO1 j hj).1;omega)).trans ((hget_tl (by have:=(hO1 j hj).2.1;omega)).trans (hO1 j hj).2.2.1)⟩
    have hk1:∀ j,o1=some j→j≠z:=fun j hj=>by have:=(hO1 j hj).1;omega
    have hA2:∀ k'':Int,∀ j,o2=some j→(T.map Deed.ho).map I≠[]∧hget ((z,some (.cells [I k'']))::(m+1,some .own)::killU o1 ((z,some (.cells [I ((2 * i+1:Nat):Int)]))::(m,none)::l)) j=some .own:=fun k'' j hj=>⟨fun e=>by have hz:T.length=0:=(by have:=congrArg List.length e;simpa using this);have:=(hO2 j hj).2.2.2.1;omega,(hget_tl (by have:=(hO2 j hj).1;omega)).trans ((hget_tl (by have:=(hO2 j hj).2.1;omega)).trans ((killU_at (fun q hq e=>(hO2 j hj).2.2.2.2 (by rw [hq,e]))).trans ((hget_tl (by have:=(hO2 j hj).1;omega)).trans ((hget_tl (by have:=(hO2 j hj).2.1;omega)).trans (hO2 j hj).2.2.1))))⟩
    refine Run.draw (cx_ok _ _ _) [(0,true),(1,true),(2,true),(4,true),(5,true),(6,true),(7,false),(8,true),(9,true),(10,true),(11,false),(12,true),(13,true),(14,false),(15,true),(16,true),(3,true),(17,true),(18,true),(19,true),(20,true),(21,true),(22,true)] (by kernel_rfl) (dO rfl rfl rfl .sure (oM rfl ?_))
    refine dO rfl rfl rfl .sure (oM rfl ?_)
    refine dO rfl rfl rfl .sure (Ope.bsl rfl rfl rfl rfl ?_)
    refine dO rfl rfl rfl .sure (oM rfl ?_)
    refine dO rfl rfl rfl .sure (Ope.fld rfl rfl ?_)
    refine dO rfl rfl rfl .sure (Ope.fld rfl rfl ?_)
    refine dO rfl rfl rfl (.load rfl) (oL rfl rfl ?_)
    refine dO rfl rfl rfl .sure (oM rfl ?_)
    refine dO rfl rfl rfl .sure (Ope.fld rfl rfl ?_)
    refine dO rfl rfl rfl .sure (Ope.fld rfl rfl ?_)
    refine dO rfl rfl rfl (.load rfl) (oL rfl rfl ?_)
    refine dO rfl rfl rfl .sure (Ope.fld rfl rfl ?_)
    refine dO rfl rfl rfl .sure (Ope.fld rfl rfl ?_)
    refine dO rfl rfl rfl (.load rfl) (oL rfl rfl ?_)
    refine dO rfl rfl rfl .sure (Ope.sub rfl rfl (by omega) ?_)
    refine dO rfl rfl rfl .sure (Ope.add rfl rfl (by omega) ?_)
    rw [hw3]
    refine dO rfl rfl rfl .sure (Ope.apV (o':=o1) (vs:=(T.map Deed.ri).map I) (ws:=[N w]) rfl rfl (by simp) hA1 (by simp only [List.length_map,List.length_singleton];omega) (by simp only [List.length_map,List.length_singleton];omega) (by decide) (by intro v hv;obtain ⟨_,_,rfl⟩:=List.mem_map.1 hv;rfl) (by intro v hv;simp only [List.mem_singleton] at hv;subst hv;exact ⟨rfl,rfl⟩) ?_)
    refine dO rfl rfl rfl .sure (Ope.call rfl rfl rfl ((hd1 w3 hw4 (2 * i+1) (by omega) _ _ ((hget_tl (by omega)).trans ((killU_at hk1).trans hget_hd))).mono (fun v h' q=>?_) fun _ _ q=>q.elim))
    obtain ⟨d2,hdl2,rfl,rfl⟩:=q
    refine dO rfl rfl rfl .sure (Ope.add rfl rfl (by omega) ?_)
    refine dO rfl rfl rfl .sure (Ope.bsl rfl rfl rfl rfl ?_)
    refine dO rfl rfl rfl .sure (Ope.apV (o':=o2) (vs:=(T.map Deed.ho).map I) (ws:=[I (li[i].lo+d2)]) rfl rfl (by simp) (hA2 _) (by simp only [List.length_map,List.length_singleton];omega) (by simp only [List.length_map,List.length_singleton];omega) (by decide) (by intro v hv;obtain ⟨_,_,rfl⟩:=List.mem_map.1 hv;rfl) (by intro v hv;simp only [List.mem_singleton] at hv;subst hv;exact ⟨rfl,rfl⟩) ?_)
    refine dO rfl rfl rfl .sure (oA rfl ?_)
    refine dO rfl rfl rfl .sure (oA rfl ?_)
    refine Dra.nil (Run.bend (rN (cx_ok _ _ _) (rO rfl (Ope.add rfl rfl (by omega) ?_))))
    refine rO rfl (oM rfl ?_)
    refine rI ?_
    exact Run.lend ⟨(i + 1, m + 3, some (m + 1), some (m + 2), T ++ [⟨li[i].kd, i, (w : Int), li[i].lo + d2⟩], _), by show li.length - (i + 1) < li.length - i; omega, ⟨by show i + 1 ≤ li.length; omega, by show z < m + 3; omega, (hget_tl (by omega)).trans ((killU_at (fun j hj => by have := (hO2 j hj).1; omega)).trans (hget_hd.trans (by show some (PBlk.cells [I ((2 * i + 1 + 1 : Nat) : Int)]) = some (PBlk.cells [I ((2 * (i + 1) : Nat) : Int)]); rw [show 2 * i + 1 + 1 = 2 * (i + 1) by omega]))), fun j hj => by cases hj; exact ⟨by show z < m + 1; omega, by show m + 1 < m + 3; omega, (hget_tl (by omega)).trans ((killU_at (fun j hj => by have := (hO2 j hj).2.1; omega)).trans ((hget_tl (by omega)).trans hget_hd)), by show 0 < i + 1; omega⟩, fun j hj => by cases hj; exact ⟨by show z < m + 2; omega, by show m + 2 < m + 3; omega, hget_hd, by show 0 < i + 1; omega, by intro h; have := Option.some.inj h; omega⟩, by show (T ++ [_]).length = i + 1; rw [List.length_append, hTl]; rfl, fun k hk => by
      by_cases hki:k < T.length
      · have e : (T ++ [(⟨li[i].kd, i, (w : Int), li[i].lo + d2⟩ : Deed)])[k]'hk = T[k] := List.getElem_append_left hki
        show (T++[(⟨li[i].kd,i,(w:Int),li[i].lo+d2⟩:Deed)])[k].nu=k∧AL (T++[(⟨li[i].kd,i,(w:Int),li[i].lo+d2⟩:Deed)])[k]
        rw [e];exact hTa k hki
      · have hk' : k < (T ++ [(⟨li[i].kd, i, (w : Int), li[i].lo + d2⟩ : Deed)]).length := hk
        rw [List.length_append,List.length_singleton] at hk'
        have hke:k=T.length:=by omega
        subst hke
        show (T++[(⟨li[i].kd,i,(w:Int),li[i].lo+d2⟩:Deed)])[T.length].nu=T.length∧AL (T++[(⟨li[i].kd,i,(w:Int),li[i].lo+d2⟩:Deed)])[T.length]
        rw [List.getElem_concat_length rfl]
        refine ⟨hTl.symm,hal _ hlt ?_ ?_ ?_ ?_⟩
        · show (OF i).kd=_;rw [hofi]
        · show 0 ≤ (w : Int) ∧ (w : Int) < (kn : Int) ∧ (OF i).ri.toNat.testBit (w : Int).toNat = true
          rw [hofi,hR];exact ⟨by omega,by omega,hwb⟩
        · show (OF i).lo≤_;rw [hofi];show li[i].lo≤li[i].lo+(d2:Int);omega
        · show _≤(OF i).hi;rw [hofi];show li[i].lo+(d2:Int)≤li[i].hi;omega⟩,⟨rfl,rfl,congrArg (fun l=>some (PV.sl (.own (m+1)) l)) (by rw [List.map_append,List.map_append];rfl),congrArg (fun l=>some (PV.sl (.own (m+2)) l)) (by rw [List.map_append,List.map_append];rfl),rfl,rfl,rfl,trivial⟩,rfl,rfl⟩
  ·refine Run.exit (Jmp.code (Jmp.round (Jmp.here (rS ?_))))
   obtain rfl:i=li.length:=by omega
   refine Run.weakT (d:=4) rfl ?_
   refine Run.weakT (d:=5) rfl ?_
   refine rN (cx_ok _ _ _) (rO rfl (oM rfl ?_))
   refine rO rfl (oM rfl ?_)
   refine rO rfl (oA rfl ?_)
   refine rO rfl (oA rfl ?_)
   exact rI (Run.ret (finH_ret (.tmp rfl (.tmp rfl .nil)) (Nat.le_refl _) (l':=[]) (fun x b h=>by cases h) ⟨T,htr T hTl hTa,rfl,_,rfl⟩))
end
end Go.Pv
namespace Go.Pv
open Go.Proofs Go.Am
set_option maxRecDepth 10000
set_option maxHeartbeats 4000000
theorem neSp (xo yo:Operand) (x y x' y':Int):pbin A0 E0 .neq 30 xo yo (.agg [I x,I y]) (.agg [I x',I y'])=some (B (decide (¬(x=x'∧y=y')))):=by
  have hn:pnil A0 30 (.agg [I x,I y]) (.agg [I x',I y'])=none:=by
    have h:=eqSu
    unfold pnil
    cases hu:A0.under 30 with
    | none=>rfl
    | some d =>
      rw [hu] at h
      cases d<;>first | rfl | (exact absurd h (by decide))
  have hv:=eqSv x y x' y'
  have hd:decide (¬(x=x'∧y=y'))=!(x == x' && y == y'):=by
    by_cases h1:x=x'<;>by_cases h2:y=y'<;>simp [h1,h2]
  rw [hd]
  simp only [pbin,PV.toAV,PV.toAVs,bothNil,hn,abin,aequal,eqSe,hv]
  cases (x == x')<;>cases (y == y')<;>rfl
section
variable {C:Cx} {X:EX} {e:EL} {ds:List Nat} {K:PV→PH→Prop} {h:PH}
variable {d:Option Tmp} {type:TypeId} {pos:String} {after:Array Edge} {guard:Option (Nat×Bool)}
end
section
variable (f:Fns) {t1 t2:Tail} (h1:t1.isOwn=false) (h2:t2.isOwn=false)
include h1 h2
end
end Go.Pv
namespace Go.Pv
open Go.Proofs Go.Am
set_option maxRecDepth 10000
set_option maxHeartbeats 4000000
theorem neSpG (xo yo:Operand) (x y:Int):pbin A0 E0 .neq 30 xo yo (.agg [I x,I y]) (.agg [I x,I y])=some (B false):=by
  rw [neSp]
  simp
theorem eqOv (a b c d a' b' c' d':Int):aeqv A0 E0 20 52 (.agg [.int .i64 a,.int .i64 b,.int .i64 c,.int .i64 d]) (.agg [.int .i64 a',.int .i64 b',.int .i64 c',.int .i64 d'])=bnd2 (some (a == a')) (bnd2 (some (b == b')) (bnd2 (bnd2 (some (c == c')) (bnd2 (some (d == d')) (some true))) (some true))):=by kernel_rfl
theorem eqRv (a b c d a' b' c' d':Int):aeqv A0 E0 20 54 (.agg [.int .i64 a,.int .i64 b,.int .i64 c,.int .i64 d]) (.agg [.int .i64 a',.int .i64 b',.int .i64 c',.int .i64 d'])=bnd2 (some (a == a')) (bnd2 (some (b == b')) (bnd2 (some (c == c')) (bnd2 (some (d == d')) (some true)))):=by kernel_rfl
theorem eqOe:E0.eqs.get 52=some ():=by kernel_rfl
theorem eqRe:E0.eqs.get 54=some ():=by kernel_rfl
theorem eqOu:(match A0.under 52 with | some (.struct _)=>true | _=>false)=true:=by kernel_rfl
theorem eqRu:(match A0.under 54 with | some (.struct _)=>true | _=>false)=true:=by kernel_rfl
theorem neOf (xo yo:Operand) (o:Ofc):pbin A0 E0 .neq 52 xo yo o.v o.v=some (B false):=by
  obtain ⟨a,b,c,d⟩:=o
  have hn:pnil A0 52 (Ofc.v ⟨a,b,c,d⟩) (Ofc.v ⟨a,b,c,d⟩)=none:=by
    have h:=eqOu
    unfold pnil
    cases hu:A0.under 52 with
    | none=>rfl
    | some d =>
      rw [hu] at h
      cases d<;>first | rfl | (exact absurd h (by decide))
  have hv:=eqOv a b c d a b c d
  simp only [Ofc.v] at hn
  simp only [Ofc.v,pbin,PV.toAV,PV.toAVs,bothNil,hn,abin,aequal,eqOe,hv]
  simp [bnd2,plit,PV.ofAV]
theorem neRu (xo yo:Operand) (o:Rul):pbin A0 E0 .neq 54 xo yo o.v o.v=some (B false):=by
  obtain ⟨a,b,c,d⟩:=o
  have hn:pnil A0 54 (Rul.v ⟨a,b,c,d⟩) (Rul.v ⟨a,b,c,d⟩)=none:=by
    have h:=eqRu
    unfold pnil
    cases hu:A0.under 54 with
    | none=>rfl
    | some d =>
      rw [hu] at h
      cases d<;>first | rfl | (exact absurd h (by decide))
  have hv:=eqRv a b c d a b c d
  simp only [Rul.v] at hn
  simp only [Rul.v,pbin,PV.toAV,PV.toAVs,bothNil,hn,abin,aequal,eqRe,hv]
  simp [bnd2,plit,PV.ofAV]
theorem weak_r1 {s:St} {b c:PV} {tl:Tail} {vs:List PV} {xs:List Value} (h:RVs s [.sl tl vs,b,c] xs):RVs s [.sl .no vs,b,c] xs:=by
  obtain ⟨y1,r1,rfl,h1,h⟩:=RVs_cons.1 h
  exact RVs_cons.2 ⟨_,_,rfl,RV_tl_no h1,h⟩
def lvI (tq:Tail) (X:List Int):Option (Nat×Nat×Option Nat)→PV
  | none=>.sl tq []
  | some (m,c,ez)=>.ms m 0 X.length c ez
def lhC (X:List Int) (post:List PV):Option (Nat×Nat×Option Nat)→HL
  | none=>[]
  | some (m,_,_)=>[(m,some (.cells (X.map I++post)))]
def lhR (X:List Int) (ws:List PV):Option (Nat×Nat×Option Nat)→HL
  | none=>[]
  | some (m,_,_)=>[(m,some (.raw X.length 0 ws))]
def QS (X:List Int) (v:PV) (h':PH):Prop:=∃ (tq:Tail) (n:Nat) (post:List PV) (st:Option (Nat×Nat×Option Nat)),(st=none↔X=[])∧v=.tup [lvI tq X st,I 0]∧h'=HE n (lhC X post st)
theorem QT.qs {X:List Int} (hne:X≠[]) {v:PV} {h':PH} (h:QT X v h'):QS X v h':=by
  obtain ⟨m,c,post,ez,_,rfl,rfl⟩:=h
  exact ⟨.ex,m+1,post,some (m,c,ez),⟨fun h=>(by cases h),fun h=>absurd h hne⟩,rfl,rfl⟩
section
variable {C:Cx} {F:EQ} {X:EX} {k:List KI} {e:EL} {ds:List Nat} {K:PV→PH→Prop} {n:Nat} {tq:Tail} {L:List Int} {st:Option (Nat×Nat×Option Nat)}
variable {d:Option Tmp} {type:TypeId} {pos:String} {after:Array Edge} {guard:Option (Nat×Bool)}
theorem Ope.lenLs {t sz bytes:Nat} {agg:Bool} {x:Operand} {h:PH} [hs:Slc C.A t agg sz bytes] (hst:st=none↔L=[]) (hx:pev (lget e) x=some (lvI tq L st)) (hK:K (I L.length) h) :
    Ope C X { dst:=d,op:=.call { callee:=.builtin .len,args:=#[x],argTypes:=#[t] },type,pos,after,guard } e ds h K:=by
  cases st with
  | none =>
    have:L=[]:=hst.1 rfl
    subst this
    exact Ope.len (m:=0) hx rfl hK
  | some p=>obtain ⟨m,c,ez⟩:=p;exact Ope.lenL hx hK
theorem Ope.apLs {t tx bytes bytes' sz':Nat} {agg agg':Bool} {x y:Operand} [hs:Slc C.A t agg 1 bytes] [hs':Slc C.A tx agg' sz' bytes'] (hst:st=none↔L=[]) (hx:pev (lget e) x=some (.sl .ex [])) (hy:pev (lget e) y=some (lvI tq L st))
    (hb1:(0+L.length) * bytes≤140737488355328) (hb2:0+L.length≤1000000000) (hK:∀ (te:Tail) (n':Nat),te.isOwn=false→K (.sl te (L.map I)) (HE n' (lhR L (L.map I) st))) :
    Ope C X { dst:=d,op:=.call { callee:=.builtin .append,args:=#[x,y],argTypes:=#[t,tx] },type,pos,after,guard } e ds (HE n (lhR L (L.map I) st)) K:=by
  cases st with
  | none =>
    have:L=[]:=hst.1 rfl
    subst this
    exact Ope.ap0 hx hy (hK .ex n rfl)
  | some p =>
    obtain ⟨m,c,ez⟩:=p
    have hne:L.map I≠[]:=fun h=>by
      have h9:=hst.2 (List.map_eq_nil_iff.1 h)
      cases h9
    exact Ope.apR (ws:=L.map I) hx hy hget_hd (by rw [List.length_map]) hne (by rw [List.length_nil,List.length_map];exact hb1) (by rw [List.length_nil,List.length_map];exact hb2) (by simp) (by intro v hv;obtain ⟨_,_,rfl⟩:=List.mem_map.1 hv;rfl) (hK .no (n+1) rfl)
theorem Run.toRawS {c:Code} {post:List PV} (hr:Run C F X (.c c::k) e ds (HE n (lhR L (L.map I) st))):Run C F X (.c c::k) e ds (HE n (lhC L post st)):=by
  cases st with
  | none=>exact hr
  | some p =>
    obtain ⟨m,c9,ez⟩:=p
    refine Run.toRaw (i:=m) (ws:=L) (post:=post) hget_hd ?_
    refine Run.wide (m:=n) (l':=[(m,some (.raw L.length 0 (L.map I)))]) (Nat.le_refl _) ⟨hget_hd,trivial⟩ hr
theorem Run.forgetS {c:Code} {ws:List PV} (hr:Run C F X (.c c::k) e ds (HE n (lhR L [] st))):Run C F X (.c c::k) e ds (HE n (lhR L ws st)):=by
  cases st with
  | none=>exact hr
  | some p =>
    obtain ⟨m,c9,ez⟩:=p
    refine Run.forget (i:=m) (m:=L.length) (o:=0) (ws:=ws) hget_hd ?_
    refine Run.wide (m:=n) (l':=[(m,some (.raw L.length 0 []))]) (Nat.le_refl _) ⟨hget_hd,trivial⟩ hr
end
section
variable (f:Fns) {t1 t2:Tail} (h1:t1.isOwn=false) (h2:t2.isOwn=false)
include h1 h2
theorem f36 (n t r:Nat) (hn:f.n=(n:Int)) (hn6:0 < n∧n≤6) (ht:t < 256) (hr:r < 6):Fn P0 36 [N r,.fp (.lit (.int .u8 (t:Int))),.fp (f.v t1 t2)] (N (numZ n t r)):=by
  have e1:((r / 2:Nat):Int)+(t:Int)=((r / 2+t:Nat):Int):=by omega
  have e2:((r / 2+t:Nat):Int) * 2=(((r / 2+t) * 2:Nat):Int):=by omega
  have e3:(r:Int)+((t / 16:Nat):Int)=((r+t / 16:Nat):Int):=by omega
  have e4:((((r / 2+t) * 2) % n:Nat):Int)+(((r+t / 16) % 2:Nat):Int)=((numZ n t r:Nat):Int):=by unfold numZ;omega
  have hm1:=Nat.mod_lt ((r / 2+t) * 2) hn6.1
  have hm2:=Nat.mod_lt (r+t / 16) (show 0 < 2 by decide)
  obtain ⟨ru,k,li⟩:=f
  simp only at hn
  subst hn
  refine PFun.of (C:=c36) (cx_ok _ _ _) rfl (fn:=Tryz.f36) (by kernel_rfl) (c:=_) rfl rfl rfl ?_
  refine rS (rN (cx_ok _ _ _) (rO rfl (oA rfl ?_)))
  refine rI (rS (Run.draw (cx_ok _ _ _) [(0,true),(1,true),(2,true),(3,true),(4,true),(5,true),(6,true),(7,true),(8,true),(9,true),(10,true),(11,true),(12,true),(13,true),(14,true),(15,true),(16,true)] (by kernel_rfl) (dO rfl rfl rfl .sure (oM rfl ?_))))
  refine dO rfl rfl rfl .sure (Ope.quoN (p:=r) (q:=2) rfl rfl rfl rfl (by decide) (by show r < 2 ^ 63;omega) ?_)
  refine dO rfl rfl rfl .sure (oL rfl rfl ?_)
  first | refine dO rfl rfl rfl .sure (Ope.conv rfl (wrap_in _ (by omega) (by omega)) ?_) | refine dO rfl rfl rfl .sure (Ope.conv rfl rfl ?_)
  refine dO rfl rfl rfl .sure (Ope.add rfl rfl (by omega) ?_)
  rw [e1]
  refine dO rfl rfl rfl .sure (Ope.mul rfl rfl (by rw [e2];omega) ?_)
  rw [e2]
  refine dO rfl rfl rfl .sure (Ope.fld rfl rfl ?_)
  refine dO rfl rfl rfl .sure (oL rfl rfl ?_)
  refine dO rfl rfl rfl .sure (Ope.remN (p:=(r / 2+t) * 2) (q:=n) rfl rfl rfl rfl hn6.1 ?_)
  refine dO rfl rfl rfl .sure (oM rfl ?_)
  refine dO rfl rfl rfl .sure (oL rfl rfl ?_)
  first | refine dO rfl rfl rfl .sure (Ope.conv rfl (wrap_in _ (by omega) (by omega)) ?_) | refine dO rfl rfl rfl .sure (Ope.conv rfl rfl ?_)
  refine dO rfl rfl rfl .sure (Ope.quoN (p:=t) (q:=16) rfl rfl rfl rfl (by decide) (by show t < 2 ^ 63;omega) ?_)
  refine dO rfl rfl rfl .sure (Ope.add rfl rfl (by omega) ?_)
  rw [e3]
  refine dO rfl rfl rfl .sure (Ope.remN (p:=r+t / 16) (q:=2) rfl rfl rfl rfl (by decide) ?_)
  refine dO rfl rfl rfl .sure (Ope.add rfl rfl (by omega) ?_)
  rw [e4]
  refine dO rfl rfl rfl .sure (oA rfl ?_)
  exact Dra.nil (Run.ret (fin_ret (.tmp rfl .nil) rfl rfl))
theorem f10a (hS:f.ru.length≤9223372036854775807) (hJ:f.li.length≤9223372036854775807) (p q:PV) (bh:Bool) (hh:Fn P0 11 [f.v t1 t2,I 4000,.sl .ex []] (B bh)) (hv:bh=true∨f.B=false):Fn P0 10 [f.v t1 t2,p,q] (B true):=by
  have hfi:=f26 f h1 h2 hS hJ
  have hb:PV.bds 0 [f.v t1 t2,I 4000,.sl .ex []]=true:=bd_fnsV f h1 h2 rfl
  have hb0:PV.bds 0 [f.v t1 t2]=true:=bd_fnsV f h1 h2 rfl
  generalize f.B=y at *
  refine PFun.of (C:=c10) (cx_ok _ _ _) rfl (fn:=Tryz.f10) (by kernel_rfl) (c:=_) rfl rfl rfl ?_
  refine rS (rN (cx_ok _ _ _) (rO rfl (Ope.boxF rfl rfl ?_)))
  refine rO rfl (Ope.boxF rfl rfl ?_)
  refine rO rfl (oA rfl ?_)
  refine rI (rS (rS (rN (cx_ok _ _ _) (rO rfl (oL rfl rfl ?_)))))
  refine rO rfl (Ope.cf rfl rfl hh hb ?_)
  refine rO rfl (oM rfl ?_)
  refine Reg.splitX rfl rfl (fun hg=>?_) fun hg=>?_
  ·refine Reg.off rfl rfl rfl (Reg.off rfl rfl rfl (Reg.off rfl rfl rfl (rO rfl (Ope.pickT rfl rfl ?_))))
   refine rI (Run.condT rfl (rS (rN (cx_ok _ _ _) (rO rfl (Ope.cf rfl rfl (aliveF) rfl ?_)))))
   refine rO rfl (oA rfl ?_)
   exact rI (Run.ret (Jmp.code (fin_ret (.tmp rfl .nil) rfl rfl)))
  ·refine Reg.on rfl rfl rfl (oL rfl rfl ?_)
   refine Reg.on rfl rfl rfl (Ope.cf rfl rfl hfi hb0 ?_)
   refine Reg.on rfl rfl rfl (Ope.not rfl ?_)
   refine rO rfl (Ope.pickF rfl rfl ?_)
   refine rI (rC rfl (fun hc=>?_) fun hc=>?_)
   ·refine rS (rN (cx_ok _ _ _) (rO rfl (Ope.cf rfl rfl (aliveF) rfl ?_)))
    refine rO rfl (oA rfl ?_)
    exact rI (Run.ret (Jmp.code (fin_ret (.tmp rfl .nil) rfl rfl)))
   ·(exfalso;simp_all;done)
end
end Go.Pv
namespace Go.Pv
open Go.Proofs Go.Am
set_option maxRecDepth 10000
set_option maxHeartbeats 4000000
structure OkU (o:Option Nat) (n:Nat) (out:List (List Deed)):Prop where
  lt:∀ j,o=some j→j < n
  ne:∀ j,o=some j→out≠[]
section
variable {C:Cx} {X:EX} {e:EL} {ds:List Nat} {K:PV→PH→Prop} {n:Nat} {l:HL}
variable {d:Option Tmp} {type:TypeId} {pos:String} {after:Array Edge} {guard:Option (Nat×Bool)}
theorem Ope.apE {t tx sz bytes sz' bytes':Nat} {agg agg':Bool} {x y:Operand} {tl':Tail} {ws:List PV} [hs:Slc C.A t agg sz bytes] [hs':Slc C.A tx agg' sz' bytes'] (hx:pev (lget e) x=some (.sl .ex [])) (hy:pev (lget e) y=some (.sl tl' ws))
    (hb1:(0+ws.length) * bytes≤140737488355328) (hb2:0+ws.length≤1000000000) (h1:1≤sz) (hw:∀ v∈ws,v.nc=sz∧PV.allOne v.cells=true) (hK:∀ (o':Option Nat) (n':Nat),n≤n'→(∀ j,o'=some j→ws≠[]∧n≤j∧j < n')→K (.sl (tlU o') ws) (HE n' (ownU o'++l))) :
    Ope C X { dst:=d,op:=.call { callee:=.builtin .append,args:=#[x,y],argTypes:=#[t,tx] },type,pos,after,guard } e ds (HE n l) K:=by
  by_cases hne:ws=[]
  · subst hne
    exact Ope.ap0 hx hy (hK none n (Nat.le_refl _) fun j hj=>by cases hj)
  · exact Ope.apO hx hy hne hb1 hb2 h1 (fun v hv=>by cases hv) hw (hK (some n) (n+1) (Nat.le_succ _) fun j hj=>by cases hj;exact ⟨hne,Nat.le_refl _,Nat.lt_succ_self _⟩)
end
section
variable (f:Fns) {t1 t2:Tail} (h1:t1.isOwn=false) (h2:t2.isOwn=false)
include h1 h2
end
end Go.Pv
namespace Go.Pv
open Go.Proofs Go.Am
set_option maxRecDepth 10000
set_option maxHeartbeats 4000000
section
variable (f:Fns) {t1 t2:Tail} (h1:t1.isOwn=false) (h2:t2.isOwn=false)
include h1 h2
end
end Go.Pv
