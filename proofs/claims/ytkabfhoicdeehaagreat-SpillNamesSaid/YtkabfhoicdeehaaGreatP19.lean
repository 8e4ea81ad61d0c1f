/- Parts of the proof: S9, S10, S11, S12, S13, S14 -/
import Derived.Test.YtkabfhoicdeehaaGreatP18
import Derived.Test.YtkabfhoicdeehaaGreatP15
set_option linter.unusedVariables false
set_option linter.unusedSimpArgs false
set_option linter.unusedSectionVars false
namespace Go.Pv
open Go.Proofs Go.Am
set_option maxRecDepth 10000
instance:Mkw A0 22 [I 0,I 0,I 0,I 0,I 0,I 0,I 0,I 0] 64:=⟨by kernel_rfl⟩
theorem f97p (D:List Rpt) (hD:D.length≤100) (hn:(D.map Rpt.id).Nodup):PFun P0 97 [valR D] (fun v=>∃ (tl:Tail) (L:List Rpt),Tail.isOwn tl=false∧L.Perm D∧v=.sl tl (L.map Rpt.v)) fun _=>False:=by
  have ha:=f120 D hD hn
  by_cases hne:D=[]
  · skip
    refine PFun.of (C:=c97) (cx_ok _ _ _) rfl (fn:=Tryz.f97) (by kernel_rfl) (c:=_) rfl rfl rfl ?_
    refine Run.seq (Run.region (cx_ok _ _ _) (Reg.op rfl (Ope.asg rfl ?_)))
    refine Reg.nil (Run.seq (Run.region (cx_ok _ _ _) (Reg.op rfl (Ope.mov rfl ?_))))
    refine Reg.op rfl (Ope.call rfl rfl rfl (ha.mono (fun v h' q=>?_) fun _ _ q=>q.elim))
    obtain ⟨L,m,st,hp,hL,rfl,rfl⟩:=q
    obtain rfl:L=[]:=by rw [hne] at hp;exact hp.eq_nil
    obtain rfl:st=none:=(by cases st with | none=>rfl | some q=>exact absurd rfl hL.1)
    refine Reg.op rfl (Ope.asg rfl ?_)
    refine Reg.nil (Run.ret (fin_ret (.tmp rfl .nil) rfl ?_))
    exact ⟨.ex,[],rfl,hp,rfl⟩
  · skip
    refine PFun.of (C:=c97) (cx_ok _ _ _) rfl (fn:=Tryz.f97) (by kernel_rfl) (c:=_) rfl rfl rfl ?_
    refine Run.seq (Run.region (cx_ok _ _ _) (Reg.op rfl (Ope.asg rfl ?_)))
    refine Reg.nil (Run.seq (Run.region (cx_ok _ _ _) (Reg.op rfl (Ope.mov rfl ?_))))
    refine Reg.op rfl (Ope.call rfl rfl rfl (ha.mono (fun v h' q=>?_) fun _ _ q=>q.elim))
    obtain ⟨L,m,st,hp,hL,rfl,rfl⟩:=q
    obtain ⟨j,c,ez,post,rfl⟩:∃ j c ez post,st=some (j,c,ez,post):=(by cases st with | none=>exact absurd (by subst hL;exact hp.symm.eq_nil) hne | some q=>exact ⟨_,_,_,_,rfl⟩)
    obtain ⟨hL1,hL2,hL3,hL4⟩:=hL
    refine Reg.op rfl (Ope.asg rfl ?_)
    refine Reg.nil (Run.frzS (d:=2) (vs:=L.map Rpt.v) (post:=post) (sz:=8) rfl hget_hd (by rw [List.length_map]) hL3 (by intro v hv;obtain ⟨_,_,rfl⟩:=List.mem_map.1 hv;rfl) ?_)
    refine Run.ret (fin_ret (.tmp rfl .nil) (bd_sl (f:=Rpt.v) (tl:=.no) rfl (fun _=>rfl) _) ?_)
    exact ⟨.no,L,rfl,hp,rfl⟩
theorem bds_cons {v:PV} {vs:List PV} (h:PV.bd 0 v=true) (h':PV.bds 0 vs=true):PV.bds 0 (v::vs)=true:=by
  simp only [PV.bds,h,h',Bool.and_self]
theorem pputs_all {cs ws:List PV} (h:cs.length=ws.length):pputs cs 0 ws=ws++[]:=by
  unfold pputs
  rw [List.take_zero,List.nil_append,List.drop_eq_nil_of_le (by omega)]
theorem flatR_len (L:List Rpt):(flat (L.map Rpt.v)).length=8 * L.length:=by
  have:=rpts_len L []
  simpa using this
theorem f96 (L L':List Rpt) (hl:L.length≤100) (hl':L'.length=L.length) (tl:Tail) (g:Nat) (cap:List PV) (hg:∀ j m c ez,PCall P0 g ([]++[.ms j 0 L.length c ez]++cap) (HE m [(j,some (.cells (flat (L.map Rpt.v)++[])))]) (fun v h'=>∃ m',m≤m'∧v=.tup []∧h'=HE m' [(j,some (.cells (flat (L'.map Rpt.v)++[])))]) fun _ _=>False) :
    Fn P0 96 [.sl tl (L.map Rpt.v),.fn (.func g) [] cap] (.sl .no (L'.map Rpt.v)):=by
  refine PFun.of (C:=c96) (cx_ok _ _ _) rfl (fn:=Tryz.f96) (by kernel_rfl) (c:=_) rfl rfl rfl ?_
  refine Run.seq (Run.region (cx_ok _ _ _) (Reg.op rfl (Ope.asg rfl ?_)))
  refine Reg.nil (Run.seq (Run.region (cx_ok _ _ _) (Reg.op rfl (Ope.mov rfl ?_))))
  refine Reg.op rfl (Ope.len (m:=L.length) rfl (by simp) ?_)
  refine Reg.op rfl (Ope.mkw (m:=L.length) (c:=L.length) rfl rfl rfl rfl (Nat.le_refl _) (by omega) (by omega) (fun ez=>?_))
  refine Reg.op rfl (Ope.asg rfl ?_)
  refine Reg.nil (Run.seq (Run.region (cx_ok _ _ _) (Reg.op rfl (Ope.mov rfl ?_))))
  refine Reg.op rfl (Ope.mov rfl ?_)
  refine Reg.op rfl (Ope.copyS (cs':=flat (L.map Rpt.v)++[]) rfl rfl hget_hd (by intro v hv;obtain ⟨_,_,rfl⟩:=List.mem_map.1 hv;exact ⟨rfl,rfl⟩) (by simp) (by rw [cpsL_len];show 0+L.length * 8≤L.length * 8;omega) (pputs_all (by rw [cpsL_len,flatR_len];show L.length * 8=_;omega)) ?_)
  refine Reg.nil (Run.seq (Run.wide (m:=1) (l':=[(0,some (.cells (flat (L.map Rpt.v)++[])))]) (Nat.le_refl _) ⟨hget_hd,trivial⟩ ?_))
  refine Run.region (cx_ok _ _ _) (Reg.op rfl (Ope.mov rfl ?_))
  refine Reg.op rfl (Ope.mov rfl ?_)
  refine Reg.op rfl (Ope.call rfl rfl rfl ((hg 0 1 L.length ez).mono (fun v h' q=>?_) fun _ _ q=>q.elim))
  obtain ⟨m',hm',rfl,rfl⟩:=q
  refine Reg.nil (Run.seq (Run.frzS (d:=5) (vs:=L'.map Rpt.v) (post:=[]) (sz:=8) rfl hget_hd (by rw [List.length_map,hl']) (Nat.le_refl _) (by intro v hv;obtain ⟨_,_,rfl⟩:=List.mem_map.1 hv;rfl) ?_))
  refine Run.region (cx_ok _ _ _) (Reg.op rfl (Ope.mov rfl ?_))
  refine Reg.op rfl (Ope.asg rfl ?_)
  exact Reg.nil (Run.ret (fin_ret (.tmp rfl .nil) (bd_sl (f:=Rpt.v) (tl:=.no) rfl (fun _=>rfl) _) rfl))
theorem f99 (D:List Rpt) (hl:D.length≤12) (hn:(D.map Rpt.id).Nodup) (hid:IdsOk D) (j c m:Nat) (ez:Option Nat) (post:List PV) :
    PCall P0 99 [.ms j 0 D.length c ez] (HE m [(j,some (.cells (flat (D.map Rpt.v)++post)))]) (fun v h'=>∃ m',m≤m'∧v=.tup []∧h'=HE m' [(j,some (.cells (flat ((srtR D).map Rpt.v)++post)))]) fun _ _=>False:=by
  have hs:=f100 D (by omega) hl hn hid j c m ez post
  refine PCall.ofH (C:=c99) (cx_ok _ _ _) rfl (fn:=Tryz.f99) (by kernel_rfl) (c:=_) rfl rfl rfl (fun hok=>?_)
  refine Run.region (cx_ok _ _ _) (Reg.op rfl (Ope.mov rfl ?_))
  refine Reg.op rfl (Ope.call rfl rfl rfl (hs.mono (fun v h' q=>?_) fun _ _ q=>q.elim))
  obtain ⟨m',hm',rfl,rfl⟩:=q
  exact Reg.nil (finH_end .nil (Nat.le_refl _) (fun _ _ h=>h) ⟨m',hm',rfl,rfl⟩)
theorem srtR_perm {L D:List Rpt} (hn:(D.map Rpt.id).Nodup) (hi:IdsOk D) (hp:L.Perm D):srtR L=srtR D:=by
  have hnL:(L.map Rpt.id).Nodup:=((hp.map _).nodup_iff).2 hn
  have hiL:IdsOk L:=fun r hr=>hi r (hp.mem_iff.1 hr)
  exact srt_uniq (srtR_sorted L) (srtR_sorted D) fun x=>by rw [mem_srtR hnL hiL,mem_srtR hn hi];exact hp.mem_iff
theorem srtR_len {D:List Rpt} (hn:(D.map Rpt.id).Nodup) (hi:IdsOk D):(srtR D).length=D.length:=by
  have h0:List.Pairwise (fun a b:Rpt=>a.id < b.id) (srtR D):=srtR_sorted D
  have h1:(srtR D).Nodup:=List.nodup_iff_pairwise_ne.2 (h0.imp fun h e=>by rw [e] at h;omega)
  exact Nat.le_antisymm (len_sub h1 fun x hx=>(mem_srtR hn hi).1 hx) (len_sub (ids_nodup hn) fun x hx=>(mem_srtR hn hi).2 hx)
theorem f53 (D:List Rpt) (hl:D.length≤12) (hn:(D.map Rpt.id).Nodup) (hid:IdsOk D):Fn P0 53 [fmR D] (.sl .no ((srtR D).map Rpt.v)):=by
  have hv:=f98 D
  have hb1:PV.bds 0 [fmR D]=true:=by simp only [PV.bds,bd_fmR,Bool.and_self]
  have hb2:PV.bds 0 [valR D]=true:=by simp only [PV.bd,PV.bds,bd_fmR,Bool.and_self]
  have hc:=f97p D (by omega) hn
  refine PFun.of (C:=c53) (cx_ok _ _ _) rfl (fn:=Tryz.f53) (by kernel_rfl) (c:=_) rfl rfl rfl ?_
  refine Run.seq (Run.region (cx_ok _ _ _) (Reg.op rfl (Ope.asg rfl ?_)))
  refine Reg.nil (Run.seq (Run.region (cx_ok _ _ _) (Reg.op rfl (Ope.mov rfl ?_))))
  refine Reg.op rfl (Ope.cf rfl rfl hv hb1 ?_)
  refine Reg.op rfl (Ope.call rfl rfl rfl (hc.call hb2 (fun v hv=>?_) fun v hv=>hv.elim))
  obtain ⟨tl,L,htl,hp,rfl⟩:=hv
  have hnL:(L.map Rpt.id).Nodup:=((hp.map _).nodup_iff).2 hn
  have hiL:IdsOk L:=fun r hr=>hid r (hp.mem_iff.1 hr)
  have hch:=f96 L (srtR L) (by rw [hp.length_eq];omega) (srtR_len hnL hiL) tl 99 [] (fun j m c ez=>f99 L (by rw [hp.length_eq];omega) hnL hiL j c m ez [])
  rw [srtR_perm hn hid hp] at hch
  have hb3:PV.bds 0 [.sl tl (L.map Rpt.v),.fn (.func 99) [] []]=true:=bds_cons (bd_sl (f:=Rpt.v) htl (fun _=>rfl) _) rfl
  refine Reg.op rfl (Ope.cf rfl rfl hch hb3 ?_)
  refine Reg.op rfl (Ope.asg rfl ?_)
  exact Reg.nil (Run.ret (fin_ret (.tmp rfl .nil) (bd_sl (f:=Rpt.v) (tl:=.no) rfl (fun _=>rfl) _) rfl))
end Go.Pv
namespace Go.Pv
open Go.Proofs Go.Am
set_option maxRecDepth 10000
theorem f117e:Fn P0 117 [.sl .ex [],I 0] (.sl .ex []):=by
  refine PFun.of (C:=c117) (cx_ok _ _ _) rfl (fn:=Tryz.f117) (by kernel_rfl) (c:=_) rfl rfl rfl ?_
  refine Run.seq (Run.region (cx_ok _ _ _) (Reg.op rfl (Ope.asg rfl ?_)))
  refine Reg.nil (Run.seq (Run.seq (Run.region (cx_ok _ _ _) (Reg.op rfl (Ope.mov rfl ?_)))))
  refine Reg.op rfl (Ope.lt rfl rfl ?_)
  refine Reg.nil (Run.condX rfl (fun hc=>?_) fun hc=>?_)
  ·(exfalso;omega)
  ·refine Run.skip (Run.seq (Run.seq (Run.region (cx_ok _ _ _) (Reg.op rfl (Ope.mov rfl ?_)))))
   refine Reg.op rfl (Ope.mov rfl ?_)
   refine Reg.op rfl (Ope.cap0 rfl ?_)
   refine Reg.op rfl (Ope.mov rfl ?_)
   refine Reg.op rfl (Ope.len (m:=0) rfl rfl ?_)
   refine Reg.op rfl (Ope.sub rfl rfl (by omega) ?_)
   refine Reg.op rfl (Ope.sub rfl rfl (by omega) ?_)
   refine Reg.op rfl (Ope.asg rfl ?_)
   refine Reg.nil (Run.seq (Run.region (cx_ok _ _ _) (Reg.op rfl (Ope.mov rfl ?_))))
   refine Reg.op rfl (Ope.gt rfl rfl ?_)
   refine Reg.nil (Run.condX rfl (fun hc=>?_) fun hc=>?_)
   ·(exfalso;omega)
   ·refine Run.skip (Run.seq (Run.region (cx_ok _ _ _) (Reg.op rfl (Ope.mov rfl ?_))))
    refine Reg.op rfl (Ope.asg rfl ?_)
    exact Reg.nil (Run.ret (fin_ret (.tmp rfl .nil) rfl rfl))
theorem f117 (n:Nat) (h1:1≤n) (h2:n≤1000) (m:Nat):PCall P0 117 [.sl .ex [],I n] (HE m []) (fun v h'=>∃ c vs ez,n≤c∧vs.length=c * 8∧v=.ms m 0 0 c ez∧h'=HE (m+1) [(m,some (.cells vs))]) fun _ _=>False:=by
  refine PCall.ofH (C:=c117) (cx_ok _ _ _) rfl (fn:=Tryz.f117) (by kernel_rfl) (c:=_) rfl rfl rfl (fun hok=>?_)
  refine Run.seq (Run.region (cx_ok _ _ _) (Reg.op rfl (Ope.asg rfl ?_)))
  refine Reg.nil (Run.seq (Run.seq (Run.region (cx_ok _ _ _) (Reg.op rfl (Ope.mov rfl ?_)))))
  refine Reg.op rfl (Ope.lt rfl rfl ?_)
  refine Reg.nil (Run.condX rfl (fun hc=>?_) fun hc=>?_)
  ·(exfalso;omega)
  ·refine Run.skip (Run.seq (Run.seq (Run.region (cx_ok _ _ _) (Reg.op rfl (Ope.mov rfl ?_)))))
   refine Reg.op rfl (Ope.mov rfl ?_)
   refine Reg.op rfl (Ope.cap0 rfl ?_)
   refine Reg.op rfl (Ope.mov rfl ?_)
   refine Reg.op rfl (Ope.len (m:=0) rfl rfl ?_)
   refine Reg.op rfl (Ope.sub rfl rfl (by omega) ?_)
   refine Reg.op rfl (Ope.sub rfl rfl (by omega) ?_)
   refine Reg.op rfl (Ope.asg rfl ?_)
   refine Reg.nil (Run.seq (Run.region (cx_ok _ _ _) (Reg.op rfl (Ope.mov rfl ?_))))
   refine Reg.op rfl (Ope.gt rfl rfl ?_)
   refine Reg.nil (Run.condX rfl (fun hc=>?_) fun hc=>?_)
   ·refine Run.region (cx_ok _ _ _) (Reg.op rfl (Ope.mov rfl ?_))
    refine Reg.op rfl (Ope.mov rfl ?_)
    refine Reg.op rfl (Ope.cap0 rfl ?_)
    refine Reg.op rfl (Ope.slT (m:=0) (vs:=[]) rfl rfl rfl (Nat.le_refl _) (fun v hv=>by cases hv) ?_)
    refine Reg.op rfl (Ope.mov rfl ?_)
    refine Reg.op rfl (Ope.apZ (m:=n) und_int rfl rfl (by omega) h1 (by omega) (by omega) (fun c vs ez hc1 hc2=>?_))
    refine Reg.op rfl (Ope.mov rfl ?_)
    refine Reg.op rfl (Ope.len (m:=0) rfl rfl ?_)
    refine Reg.op rfl (Ope.slTL (m:=0) rfl rfl rfl (Nat.zero_le _) hc1 ?_)
    refine Reg.op rfl (Ope.asg rfl ?_)
    refine Reg.nil (Run.seq (Run.region (cx_ok _ _ _) (Reg.op rfl (Ope.mov rfl ?_))))
    refine Reg.op rfl (Ope.asg rfl ?_)
    exact Reg.nil (Run.ret (finH_ret (.tmp rfl .nil) (Nat.le_refl _) (fun _ _ h=>h) ⟨c,vs,ez,hc1,hc2,rfl,rfl⟩))
   ·(exfalso;omega)
def cat (LL:List (Tail×List Rpt)):List Rpt:=LL.flatMap (·.2)
def slR (p:Tail×List Rpt):PV:=.sl p.1 (p.2.map Rpt.v)
theorem cat_take {LL:List (Tail×List Rpt)} {i:Nat} (h:i < LL.length):cat (LL.take (i+1))=cat (LL.take i)++LL[i].2:=by
  unfold cat
  rw [List.take_succ_eq_append_getElem h,List.flatMap_append]
  simp
theorem cat_len {LL:List (Tail×List Rpt)} (i:Nat):(cat (LL.take i)).length≤(cat LL).length:=by
  unfold cat
  conv=>rhs;rw [← List.take_append_drop i LL,List.flatMap_append]
  rw [List.length_append]
  omega
theorem f93e (tl:Tail) (LL:List (Tail×List Rpt)) (hLL:LL.length≤100) (hn:cat LL=[]):Fn P0 93 [.sl tl (LL.map slR)] (.sl .ex []):=by
  have h0:∀ i (h:i < LL.length),LL[i].2=[]:=fun i h=>by
    have:=cat_take h
    have h2:=cat_len (LL:=LL) (i+1)
    rw [this,hn] at h2
    simp only [List.length_append,List.length_nil] at h2
    exact List.length_eq_zero_iff.1 (by omega)
  refine PFun.of (C:=c93) (cx_ok _ _ _) rfl (fn:=Tryz.f93) (by kernel_rfl) (c:=_) rfl rfl rfl ?_
  refine Run.seq (Run.region (cx_ok _ _ _) (Reg.op rfl (Ope.asg rfl ?_)))
  refine Reg.nil (Run.seq (Run.region (cx_ok _ _ _) (Reg.op rfl (Ope.asg rfl ?_))))
  refine Reg.nil (Run.seq (Run.seq (Run.region (cx_ok _ _ _) (Reg.op rfl (Ope.mov rfl ?_)))))
  refine Reg.op rfl (Ope.len (m:=LL.length) rfl (by simp) ?_)
  refine Reg.op rfl (Ope.mov rfl ?_)
  refine Reg.nil (Run.block (Run.loop (α:=Nat) (fun i=>[(0,.sl tl (LL.map slR)),(3,I 0),(9,.sl tl (LL.map slR)),(10,I LL.length),(11,I i)]) (fun _=>HE 0 []) (fun i=>i≤LL.length) (fun i=>LL.length - i) 0 ⟨rfl,rfl,rfl,rfl,rfl,trivial⟩ rfl (Nat.zero_le _) (fun i hi=>?_)))
  refine Run.seq (Run.region (cx_ok _ _ _) (Reg.op rfl (Ope.lt rfl rfl ?_)))
  refine Reg.nil (Run.seq (Run.condX rfl (fun hc=>?_) fun hc=>?_))
  ·refine Run.skip (Run.seq (Run.block (Run.seq ?_)))
   have hlt:i < LL.length:=by omega
   have h0i:=h0 i hlt
   refine Run.region (cx_ok _ _ _) (Reg.op rfl (Ope.idxM (m:=i) (f:=slR) rfl rfl rfl hlt (fun _=>rfl) ?_))
   refine Reg.op rfl (Ope.load rfl rfl ?_)
   refine Reg.op rfl (Ope.asg rfl ?_)
   refine Reg.nil (Run.seq (Run.region (cx_ok _ _ _) (Reg.op rfl (Ope.mov rfl ?_))))
   refine Reg.op rfl (Ope.mov rfl ?_)
   refine Reg.op rfl (Ope.len (m:=0) rfl (by rw [h0i];rfl) ?_)
   refine Reg.op rfl (Ope.add rfl rfl (by omega) ?_)
   refine Reg.op rfl (Ope.asg rfl ?_)
   refine Reg.nil (Run.seq (Run.region (cx_ok _ _ _) (Reg.op rfl (Ope.mov rfl ?_))))
   refine Reg.op rfl (Ope.lt rfl rfl ?_)
   refine Reg.nil (Run.condX rfl (fun hc=>?_) fun hc=>?_)
   ·(exfalso;omega)
   ·refine Run.skip (Run.bend (Run.region (cx_ok _ _ _) (Reg.op rfl (Ope.add rfl rfl (by omega) ?_))))
    refine Reg.op rfl (Ope.mov rfl ?_)
    exact Reg.nil (Run.lend ⟨i+1,by show LL.length - (i+1) < LL.length - i;omega,by show i+1≤LL.length;omega,⟨rfl,rfl,rfl,rfl,rfl,trivial⟩,rfl,rfl⟩)
  ·refine Run.exit (Jmp.code (Jmp.round (Jmp.here (Run.seq (Run.region (cx_ok _ _ _) (Reg.op rfl (Ope.mov rfl ?_)))))))
   refine Reg.op rfl (Ope.cf rfl rfl (f117e) rfl ?_)
   refine Reg.op rfl (Ope.asg rfl ?_)
   refine Reg.nil (Run.seq (Run.seq (Run.region (cx_ok _ _ _) (Reg.op rfl (Ope.mov rfl ?_)))))
   refine Reg.op rfl (Ope.len (m:=LL.length) rfl (by simp) ?_)
   refine Reg.op rfl (Ope.mov rfl ?_)
   refine Reg.nil (Run.block (Run.loop (α:=Nat) (fun i=>[(6,.sl .ex []),(25,.sl tl (LL.map slR)),(26,I LL.length),(27,I i)]) (fun _=>HE 0 []) (fun i=>i≤LL.length) (fun i=>LL.length - i) 0 ⟨rfl,rfl,rfl,rfl,trivial⟩ rfl (Nat.zero_le _) (fun i hi=>?_)))
   refine Run.seq (Run.region (cx_ok _ _ _) (Reg.op rfl (Ope.lt rfl rfl ?_)))
   refine Reg.nil (Run.seq (Run.condX rfl (fun hc=>?_) fun hc=>?_))
   ·refine Run.skip (Run.seq (Run.block (Run.seq ?_)))
    have hlt:i < LL.length:=by omega
    have h0i:=h0 i hlt
    refine Run.region (cx_ok _ _ _) (Reg.op rfl (Ope.idxM (m:=i) (f:=slR) rfl rfl rfl hlt (fun _=>rfl) ?_))
    refine Reg.op rfl (Ope.load rfl rfl ?_)
    refine Reg.op rfl (Ope.asg rfl ?_)
    refine Reg.nil (Run.region (cx_ok _ _ _) (Reg.op rfl (Ope.mov rfl ?_)))
    refine Reg.op rfl (Ope.mov rfl ?_)
    refine Reg.op rfl (Ope.ap0 (tl':=LL[i].1) rfl (by simp only [lget];exact congrArg some (by rw [slR,h0i];rfl)) ?_)
    refine Reg.op rfl (Ope.asg rfl ?_)
    refine Reg.nil (Run.bend (Run.region (cx_ok _ _ _) (Reg.op rfl (Ope.add rfl rfl (by omega) ?_))))
    refine Reg.op rfl (Ope.mov rfl ?_)
    exact Reg.nil (Run.lend ⟨i+1,by show LL.length - (i+1) < LL.length - i;omega,by show i+1≤LL.length;omega,⟨rfl,rfl,rfl,rfl,trivial⟩,rfl,rfl⟩)
   ·refine Run.exit (Jmp.code (Jmp.round (Jmp.here (Run.seq (Run.region (cx_ok _ _ _) (Reg.op rfl (Ope.mov rfl ?_)))))))
    refine Reg.op rfl (Ope.asg rfl ?_)
    exact Reg.nil (Run.ret (fin_ret (.tmp rfl .nil) rfl rfl))
end Go.Pv
namespace Go.Pv
open Go.Proofs Go.Am
set_option maxRecDepth 10000
theorem f93n (tl:Tail) (LL:List (Tail×List Rpt)) (hLL:LL.length≤100) (hn:1≤(cat LL).length) (hb:(cat LL).length≤1000):Fn P0 93 [.sl tl (LL.map slR)] (.sl .no ((cat LL).map Rpt.v)):=by
  have hct:=fun i (h:i < LL.length)=>cat_take h
  have hcl:=fun i=>cat_len (LL:=LL) i
  have hgr:=f117 (cat LL).length hn hb 0
  refine PFun.of (C:=c93) (cx_ok _ _ _) rfl (fn:=Tryz.f93) (by kernel_rfl) (c:=_) rfl rfl rfl ?_
  refine Run.seq (Run.region (cx_ok _ _ _) (Reg.op rfl (Ope.asg rfl ?_)))
  refine Reg.nil (Run.seq (Run.region (cx_ok _ _ _) (Reg.op rfl (Ope.asg rfl ?_))))
  refine Reg.nil (Run.seq (Run.seq (Run.region (cx_ok _ _ _) (Reg.op rfl (Ope.mov rfl ?_)))))
  refine Reg.op rfl (Ope.len (m:=LL.length) rfl (by simp) ?_)
  refine Reg.op rfl (Ope.mov rfl ?_)
  refine Reg.nil (Run.block (Run.loop (α:=Nat) (fun i=>[(0,.sl tl (LL.map slR)),(3,I (cat (LL.take i)).length),(9,.sl tl (LL.map slR)),(10,I LL.length),(11,I i)]) (fun _=>HE 0 []) (fun i=>i≤LL.length) (fun i=>LL.length - i) 0 ⟨rfl,rfl,rfl,rfl,rfl,trivial⟩ rfl (Nat.zero_le _) (fun i hi=>?_)))
  refine Run.seq (Run.region (cx_ok _ _ _) (Reg.op rfl (Ope.lt rfl rfl ?_)))
  refine Reg.nil (Run.seq (Run.condX rfl (fun hc=>?_) fun hc=>?_))
  ·refine Run.skip (Run.seq (Run.block (Run.seq ?_)))
   have hlt:i < LL.length:=by omega
   have hcti:=hct i hlt
   have hcti2:=congrArg List.length hcti
   rw [List.length_append] at hcti2
   have hcl1:=hcl (i+1)
   refine Run.region (cx_ok _ _ _) (Reg.op rfl (Ope.idxM (m:=i) (f:=slR) rfl rfl rfl hlt (fun _=>rfl) ?_))
   refine Reg.op rfl (Ope.load rfl rfl ?_)
   refine Reg.op rfl (Ope.asg rfl ?_)
   refine Reg.nil (Run.seq (Run.region (cx_ok _ _ _) (Reg.op rfl (Ope.mov rfl ?_))))
   refine Reg.op rfl (Ope.mov rfl ?_)
   refine Reg.op rfl (Ope.len (m:=LL[i].2.length) rfl (by simp) ?_)
   refine Reg.op rfl (Ope.add rfl rfl (by omega) ?_)
   refine Reg.op rfl (Ope.asg rfl ?_)
   refine Reg.nil (Run.seq (Run.region (cx_ok _ _ _) (Reg.op rfl (Ope.mov rfl ?_))))
   refine Reg.op rfl (Ope.lt rfl rfl ?_)
   refine Reg.nil (Run.condX rfl (fun hc=>?_) fun hc=>?_)
   ·(exfalso;omega)
   ·refine Run.skip (Run.bend (Run.region (cx_ok _ _ _) (Reg.op rfl (Ope.add rfl rfl (by omega) ?_))))
    refine Reg.op rfl (Ope.mov rfl ?_)
    exact Reg.nil (Run.lend ⟨i+1,by show LL.length - (i+1) < LL.length - i;omega,by show i+1≤LL.length;omega,⟨rfl,congrArg (fun x:Int=>some (I x)) (by rw [hcti2];simp),rfl,rfl,rfl,trivial⟩,rfl,rfl⟩)
  ·refine Run.exit (Jmp.code (Jmp.round (Jmp.here (Run.seq ?_))))
   obtain rfl:i=LL.length:=by omega
   rw [List.take_length]
   refine Run.region (cx_ok _ _ _) (Reg.op rfl (Ope.mov rfl ?_))
   refine Reg.op rfl (Ope.call rfl rfl rfl (hgr.mono (fun v h' q=>?_) fun _ _ q=>q.elim))
   obtain ⟨c0,vs0,ez0,hc1,hc2,rfl,rfl⟩:=q
   refine Reg.op rfl (Ope.asg rfl ?_)
   refine Reg.nil (Run.seq (Run.seq (Run.region (cx_ok _ _ _) (Reg.op rfl (Ope.mov rfl ?_)))))
   refine Reg.op rfl (Ope.len (m:=LL.length) rfl (by simp) ?_)
   refine Reg.op rfl (Ope.mov rfl ?_)
   refine Reg.nil (Run.block (Run.loop (α:=Nat×Nat×Nat×Nat×Option Nat×List PV) (fun t=>[(6,.ms t.2.2.1 0 (cat (LL.take t.1)).length t.2.2.2.1 t.2.2.2.2.1),(25,.sl tl (LL.map slR)),(26,I LL.length),(27,I t.1)]) (fun t=>HE t.2.1 [(t.2.2.1,some (.cells (flat ((cat (LL.take t.1)).map Rpt.v)++t.2.2.2.2.2)))]) (fun t=>t.1≤LL.length∧(cat (LL.take t.1)).length≤t.2.2.2.1∧t.2.2.2.2.2.length=(t.2.2.2.1 - (cat (LL.take t.1)).length) * 8∧t.2.2.1 < t.2.1) (fun t=>LL.length - t.1) (0,1,0,c0,ez0,vs0) ⟨rfl,rfl,rfl,rfl,trivial⟩ rfl ⟨Nat.zero_le _,Nat.zero_le _,hc2,Nat.lt_succ_self _⟩ (fun t ht=>?_)))
   obtain ⟨i,m,j,c,ez,post⟩:=t
   obtain ⟨hi,hc3,hp,hjm⟩:=ht
   simp only at hi hc3 hp hjm
   show Run _ _ _ _ [(6,.ms j 0 (cat (LL.take i)).length c ez),(25,.sl tl (LL.map slR)),(26,I LL.length),(27,I i)] [] (HE m [(j,some (.cells (flat ((cat (LL.take i)).map Rpt.v)++post)))])
   refine Run.seq (Run.region (cx_ok _ _ _) (Reg.op rfl (Ope.lt rfl rfl ?_)))
   refine Reg.nil (Run.seq (Run.condX rfl (fun hc=>?_) fun hc=>?_))
   ·refine Run.skip (Run.seq (Run.block (Run.seq ?_)))
    have hlt:i < LL.length:=by omega
    have hcti:=hct i hlt
    have hcti2:=congrArg List.length hcti
    rw [List.length_append] at hcti2
    have hcl1:=hcl (i+1)
    refine Run.region (cx_ok _ _ _) (Reg.op rfl (Ope.idxM (m:=i) (f:=slR) rfl rfl rfl hlt (fun _=>rfl) ?_))
    refine Reg.op rfl (Ope.load rfl rfl ?_)
    refine Reg.op rfl (Ope.asg rfl ?_)
    refine Reg.nil (Run.regionL (cx_ok _ _ _) (RegL.op rfl (Ope.mov rfl ?_)))
    refine RegL.op rfl (Ope.mov rfl ?_)
    refine RegL.apB (vs:=(cat (LL.take i)).map Rpt.v) (ws:=LL[i].2.map Rpt.v) (post:=post) rfl rfl rfl hget_hd (by rw [List.length_map]) hc3 hp (by simp only [List.length_map];omega) (by simp only [List.length_map];omega) (by intro v hv;obtain ⟨_,_,rfl⟩:=List.mem_map.1 hv;rfl) (by intro v hv;obtain ⟨_,_,rfl⟩:=List.mem_map.1 hv;exact ⟨rfl,rfl⟩) (fun j' n' c' post' ez' hj' hc' hp'=>?_)
    simp only [List.length_map] at hc' hp'
    refine RegL.op rfl (Ope.asg rfl ?_)
    refine RegL.nil (Run.bend (Run.wide (m:=n') (l':=[(j',some (.cells (flat ((cat (LL.take i)).map Rpt.v++LL[i].2.map Rpt.v)++post')))]) (Nat.le_refl _) ⟨hget_hd,trivial⟩ ?_))
    refine Run.region (cx_ok _ _ _) (Reg.op rfl (Ope.add rfl rfl (by omega) ?_))
    refine Reg.op rfl (Ope.mov rfl ?_)
    refine Reg.nil ?_
    exact Run.lend ⟨(i+1,n',j',c',ez',post'),by show LL.length - (i+1) < LL.length - i;omega,⟨by show i+1≤LL.length;omega,by show (cat (LL.take (i+1))).length≤c';omega,by show post'.length=(c' - (cat (LL.take (i+1))).length) * 8;rw [hcti2];exact hp',by show j' < n';omega⟩,⟨congrArg (fun x=>some (PV.ms j' 0 x c' ez')) (by rw [hcti2];simp),rfl,rfl,rfl,trivial⟩,by
      show HE n' _=HE n' [(j',some (PBlk.cells (flat ((cat (LL.take (i+1))).map Rpt.v)++post')))]
      rw [hcti,List.map_append],rfl⟩
   ·refine Run.exit (Jmp.code (Jmp.round (Jmp.here (Run.seq ?_))))
    obtain rfl:i=LL.length:=by omega
    rw [List.take_length] at *
    refine Run.region (cx_ok _ _ _) (Reg.op rfl (Ope.mov rfl ?_))
    refine Reg.op rfl (Ope.asg rfl ?_)
    refine Reg.nil (Run.frzS (d:=2) (vs:=(cat LL).map Rpt.v) (post:=post) (sz:=8) rfl hget_hd (by rw [List.length_map]) hc3 (by intro v hv;obtain ⟨_,_,rfl⟩:=List.mem_map.1 hv;rfl) ?_)
    exact Run.ret (fin_ret (.tmp rfl .nil) (bd_sl (f:=Rpt.v) (tl:=.no) rfl (fun _=>rfl) _) rfl)
theorem f93 (tl:Tail) (LL:List (Tail×List Rpt)) (hLL:LL.length≤100) (hb:(cat LL).length≤1000):∃ t3:Tail,t3.isOwn=false∧Fn P0 93 [.sl tl (LL.map slR)] (.sl t3 ((cat LL).map Rpt.v)):=by
  by_cases h:cat LL=[]
  · refine ⟨.ex, rfl, ?_⟩
    have:=f93e tl LL hLL h
    rw [h]
    exact this
  · exact ⟨.no,rfl,f93n tl LL hLL (List.length_pos_iff.2 h) hb⟩
end Go.Pv
namespace Go.Pv
open Go.Proofs Go.Am
set_option maxRecDepth 10000
def updR:List Rpt→Rpt→List Rpt
  | [],r=>[r]
  | q::M,r=>if q.id=r.id then r::M else q::updR M r
def getR (M:List Rpt) (x:Int):Option Rpt:=M.find? fun r=>decide (r.id=x)
def toR (M:List Rpt):List (Int×PV):=M.map fun r=>(r.id,r.v)
theorem toR_get (x:Int):∀ M:List Rpt,getI (toR M) x=(getR M x).map Rpt.v
  | []=>rfl
  | q :: M => by
    have ih:=toR_get x M
    simp only [getI,getR,toR,List.map_cons,List.find?_cons] at ih ⊢
    by_cases h:q.id=x
    · rw [decide_eq_true h];rfl
    · rw [decide_eq_false h];exact ih
theorem toR_set (r:Rpt):∀ M:List Rpt,toR (updR M r)=setI (toR M) r.id r.v
  | []=>rfl
  | q :: M => by
    have ih:=toR_set r M
    by_cases h:q.id=r.id
    · simp only [updR,toR,List.map_cons,setI,if_pos h]
    · simp only [updR, toR, List.map_cons, setI, if_neg h] at ih ⊢
      rw [← ih]
theorem toR_fm (M:List Rpt):PV.fm ((toR M).map fun p=>.int .i64 p.1) ((toR M).map (·.2))=fmR M:=by
  unfold toR fmR
  rw [List.map_map,List.map_map]
  rfl
theorem getR_upd (r:Rpt) (x:Int):∀ M:List Rpt,getR (updR M r) x=if r.id=x then some r else getR M x
  | [] => by
    simp only [updR,getR,List.find?_cons,List.find?_nil]
    by_cases h:r.id=x
    · rw [decide_eq_true h,if_pos h]
    · rw [decide_eq_false h,if_neg h]
  | q :: M => by
    have ih:=getR_upd r x M
    by_cases h:q.id=r.id
    · simp only [updR, if_pos h, getR, List.find?_cons]
      by_cases h2:r.id=x
      · rw [decide_eq_true h2,if_pos h2]
      · rw [decide_eq_false h2,decide_eq_false (by rw [h];exact h2),if_neg h2]
    · simp only [updR, if_neg h, getR, List.find?_cons] at ih ⊢
      by_cases h2:q.id=x
      · rw [decide_eq_true h2,if_neg (by omega)]
      · rw [decide_eq_false h2];exact ih
theorem updR_ids (r : Rpt) : ∀ {M : List Rpt}, (M.map Rpt.id).Nodup → ((updR M r).map Rpt.id).Nodup ∧ ∀ x, x ∈ (updR M r).map Rpt.id → x = r.id ∨ x ∈ M.map Rpt.id
  | [],_=>⟨by simp [updR],by simp [updR]⟩
  | q :: M, h => by
    simp only [List.map_cons,List.nodup_cons] at h
    obtain ⟨h1,h2⟩:=updR_ids r h.2
    by_cases hq:q.id=r.id
    · simp only [updR, if_pos hq, List.map_cons, List.nodup_cons, List.mem_cons]
      exact ⟨⟨by rw [← hq];exact h.1,h.2⟩,fun x hx=>by rcases hx with hx | hx<;>simp [hx]⟩
    · simp only [updR, if_neg hq, List.map_cons, List.nodup_cons, List.mem_cons]
      refine ⟨⟨fun hm=>?_,h1⟩,fun x hx=>?_⟩
      · rcases h2 _ hm with e | e
        · exact hq e
        · exact h.1 e
      · rcases hx with hx | hx
        · exact .inr (.inl hx)
        · rcases h2 x hx with e | e
          · exact .inl e
          · exact .inr (.inr e)
def stepR (M:List Rpt) (r:Rpt):List Rpt :=
  match getR M r.id with
  | none=>updR M r
  | some o=>if 0 < cmpR r o then updR M r else M
def stdM (L:List Rpt):List Rpt:=(L.map Rpt.own).foldl stepR []
theorem stdM_snoc (L:List Rpt) (r:Rpt):stdM (L++[r])=stepR (stdM L) r.own:=by
  unfold stdM
  rw [List.map_append,List.foldl_append];rfl
theorem getR_step (M : List Rpt) (r : Rpt) (x : Int) : getR (stepR M r) x = if r.id = x then insR (getR M x) r else getR M x := by
  unfold stepR
  split
  · next h =>
    rw [getR_upd]
    by_cases hx:r.id=x
    · subst hx
      rw [if_pos rfl,if_pos rfl,h];rfl
    · rw [if_neg hx,if_neg hx]
  · next o h =>
    split
    · next hc =>
      rw [getR_upd]
      by_cases hx:r.id=x
      · subst hx
        rw [if_pos rfl,if_pos rfl,h]
        show _=if 0 < cmpR r o then some r else some o
        rw [if_pos hc]
      · rw [if_neg hx,if_neg hx]
    · next hc =>
      by_cases hx:r.id=x
      · subst hx
        rw [if_pos rfl,h]
        show _=if 0 < cmpR r o then some r else some o
        rw [if_neg hc]
      · rw [if_neg hx]
theorem stdM_ind {p : List Rpt → List Rpt → Prop} (h0 : p [] []) (h1 : ∀ L r, p L (stdM L) → p (L ++ [r]) (stepR (stdM L) r.own)) (L : List Rpt) : p L (stdM L) := by
  have key:∀ n,p (L.take n) (stdM (L.take n)):=by
    intro n
    induction n with
    | zero=>exact h0
    | succ n ih =>
      by_cases hn:n < L.length
      · rw [List.take_succ_eq_append_getElem hn, stdM_snoc]
        exact h1 _ _ ih
      · rw [List.take_of_length_le (by omega)] at ih ⊢
        exact ih
  have:=key L.length
  rw [List.take_length] at this
  exact this
theorem getR_std (L:List Rpt) (x:Int):getR (stdM L) x=bst x L:=by
  refine stdM_ind (p:=fun L M=>getR M x=bst x L) rfl (fun L r ih=>?_) L
  rw [getR_step,bst_snoc,Rpt.own_id,ih]
theorem stdM_nodup (L:List Rpt):((stdM L).map Rpt.id).Nodup:=by
  refine stdM_ind (p:=fun L M=>(M.map Rpt.id).Nodup) List.nodup_nil (fun L r ih=>?_) L
  unfold stepR
  split
  · exact (updR_ids _ ih).1
  · split
    · exact (updR_ids _ ih).1
    · exact ih
theorem stdM_ids {L:List Rpt} (h:∀ r∈L,r.ok=true):IdsOk (stdM L):=by
  intro x hx
  have h1:=find_nodup (stdM_nodup L) hx
  have h2:bst x.id L=some x:=by rw [← getR_std];exact h1
  exact Rpt.ok_id (bst_ok h h2)
theorem srtR_stdM (L:List Rpt):srtR (stdM L)=std L:=srtR_std fun i _=>getR_std L i
theorem stdM_len {L:List Rpt} (h:∀ r∈L,r.ok=true):(stdM L).length=(std L).length:=by
  rw [← srtR_stdM,srtR_len (stdM_nodup L) (stdM_ids h)]
theorem stdM_le (L:List Rpt):(stdM L).length≤L.length:=by
  refine stdM_ind (p:=fun L M=>M.length≤L.length) (Nat.le_refl _) (fun L r ih=>?_) L
  have hu:∀ (M:List Rpt) (r:Rpt),(updR M r).length≤M.length+1:=by
    intro M r
    induction M with
    | nil=>simp [updR]
    | cons q M ih =>
      simp only [updR]
      split
      · simp
      · simp only [List.length_cons];omega
  have:=hu (stdM L) r.own
  rw [List.length_append,List.length_singleton]
  unfold stepR
  split
  · omega
  · split<;>omega
theorem Rpt.ok_ki {r:Rpt} (h:r.ok=true):0≤r.ki∧r.ki≤2:=by
  unfold Rpt.ok at h
  simp only [Bool.and_eq_true,decide_eq_true_eq] at h
  exact h.2.2.2.1
end Go.Pv
namespace Go.Pv
open Go.Proofs Go.Am
set_option maxRecDepth 10000
def mapB (M:List Rpt):PBlk:=.map (esI 0 (toR M)) (toR M).length
theorem f52 (tl:Tail) (htl:tl.isOwn=false) (LL:List (Tail×List Rpt)) (hLt:∀ p∈LL,p.1.isOwn=false) (hLL:LL.length≤100) (hb:(cat LL).length≤1000) (hok:∀ r∈cat LL,r.ok=true):Fn P0 52 [.sl tl (LL.map slR)] (fmR (stdM (cat LL))):=by
  obtain ⟨t3,ht3,hcc⟩:=f93 tl LL hLL hb
  have hbc:PV.bds 0 [.sl tl (LL.map slR)]=true:=by
    refine bds_cons ?_ rfl
    have:∀ l:List (Tail×List Rpt),(∀ p∈l,p.1.isOwn=false)→PV.bds 0 (l.map slR)=true:=fun l=>by
      induction l with
      | nil=>intro _;rfl
      | cons p l ih=>intro h;exact bds_cons (bd_sl (f:=Rpt.v) (h p (by simp)) (fun _=>rfl) _) (ih fun q hq=>h q (List.mem_cons_of_mem _ hq))
    have h1:=this LL hLt
    cases tl<;>first | (simp only [PV.bd];exact h1) | cases htl | (simp [PV.bd,h1])
  have hstep:∀ i,i < (cat LL).length→stdM ((cat LL).take (i+1))=stepR (stdM ((cat LL).take i)) (atR (cat LL) i).own:=fun i h=>by
    rw [List.take_succ_eq_append_getElem h,stdM_snoc,atR_get h]
  have hat:∀ i (h:i < (cat LL).length),(cat LL)[i]=atR (cat LL) i:=fun i h=>(atR_get h).symm
  have hoki:∀ i,i < (cat LL).length→0≤(atR (cat LL) i).ki∧(atR (cat LL) i).ki≤2:=fun i h=>by
    rw [atR_get h];exact Rpt.ok_ki (hok _ (List.getElem_mem h))
  generalize cat LL=L at *
  refine PFun.of (C:=c52) (cx_ok _ _ _) rfl (fn:=Tryz.f52) (by kernel_rfl) (c:=_) rfl rfl rfl ?_
  refine Run.seq (Run.region (cx_ok _ _ _) (Reg.op rfl (Ope.asg rfl ?_)))
  refine Reg.nil (Run.seq (Run.region (cx_ok _ _ _) (Reg.op rfl (Ope.mmap ?_))))
  refine Reg.op rfl (Ope.asg rfl ?_)
  refine Reg.nil (Run.seq (Run.seq (Run.region (cx_ok _ _ _) (Reg.op rfl (Ope.mov rfl ?_)))))
  refine Reg.op rfl (Ope.cf rfl rfl hcc hbc ?_)
  refine Reg.op rfl (Ope.len (m:=L.length) rfl (by simp) ?_)
  refine Reg.op rfl (Ope.mov rfl ?_)
  refine Reg.nil (Run.block (Run.loop (α:=Nat×Nat) (fun t=>[(3,.mp 0),(10,.sl t3 (L.map Rpt.v)),(11,I L.length),(12,I t.1)]) (fun t=>HE t.2 [(0,some (mapB (stdM (L.take t.1))))]) (fun t=>t.1≤L.length∧0 < t.2) (fun t=>L.length - t.1) (0,1) ⟨rfl,rfl,rfl,rfl,trivial⟩ rfl ⟨Nat.zero_le _,Nat.lt_succ_self _⟩ (fun t ht=>?_)))
  obtain ⟨i,m⟩:=t
  obtain ⟨hi,hm⟩:=ht
  simp only at hi hm
  show Run _ _ _ _ [(3,.mp 0),(10,.sl t3 (L.map Rpt.v)),(11,I L.length),(12,I i)] [] (HE m [(0,some (mapB (stdM (L.take i))))])
  cases hgq:getR (stdM (L.take i)) (atR L i).own.id with | none=>?_ | some o=>?_
  ·refine Run.seq (Run.region (cx_ok _ _ _) (Reg.op rfl (Ope.lt rfl rfl ?_)))
   refine Reg.nil (Run.seq (Run.condX rfl (fun hc=>?_) fun hc=>?_))
   ·refine Run.skip (Run.seq (Run.block (Run.seq ?_)))
    have hlt:i < L.length:=by omega
    have hsi:=hstep i hlt
    have hai:=hat i hlt
    obtain ⟨hk0,hk2⟩:=hoki i hlt
    have hgt:=toR_get (atR L i).own.id (stdM (L.take i))
    refine Run.region (cx_ok _ _ _) (Reg.op rfl (Ope.idxM (m:=i) (f:=Rpt.v) rfl rfl rfl hlt (fun _=>rfl) ?_))
    rw [hai]
    generalize atR L i=r at *
    generalize hM:stdM (L.take i)=M at *
    refine Reg.op rfl (Ope.load rfl rfl ?_)
    refine Reg.op rfl (Ope.newL rfl ?_)
    refine Reg.op0 (Ope.store rfl rfl hget_hd rfl rfl rfl ?_)
    refine Reg.nil (Run.seq (Run.wide (m:=m+1) (l':=[(m,some (.cells r.v.cells)),(0,some (mapB M))]) (Nat.le_refl _) ⟨hget_hd,by repeat (first | rfl | exact hget_hd | refine (hget_tl (by omega)).trans ?_),trivial⟩ ?_))
    refine Run.drawS (cx_ok _ _ _) (fun h'=>h'.get m=some (.cells r.v.cells)) [(0,true,false),(3,false,false),(1,true,true),(2,true,false),(4,true,false),(5,true,false)] (by kernel_rfl) (DraS.opQ rfl rfl rfl (Ope.loadH rfl hget_hd rfl ?_))
    refine DraS.opR rfl rfl rfl hget_hd (StabS.at rfl) (Ope.loadH rfl hget_hd rfl ?_)
    refine DraS.opS rfl rfl rfl (Ope.cf rfl rfl (f94 r hk0 hk2) rfl ?_)
    refine ⟨hget_hd,?_⟩
    refine DraS.opQ rfl rfl rfl (Ope.field rfl rfl ?_)
    refine DraS.opQ rfl rfl rfl (Ope.cf rfl rfl (fKOwn r) rfl ?_)
    refine DraS.opQ rfl rfl rfl (Ope.store rfl rfl hget_hd rfl rfl rfl ?_)
    refine DraS.nil (Run.seq (Run.frz (d:=5) true rfl hget_hd rfl ?_))
    refine Run.wide (m:=m+1) (l':=[(0,some (mapB M))]) (Nat.le_refl _) ⟨by repeat (first | rfl | exact hget_hd | refine (hget_tl (by omega)).trans ?_),trivial⟩ ?_
    refine Run.region (cx_ok _ _ _) (Reg.op rfl (Ope.mov rfl ?_))
    refine Reg.op rfl (Ope.fld rfl rfl ?_)
    refine Reg.op rfl (Ope.load rfl rfl ?_)
    refine Reg.op rfl (Ope.lookI (M:=toR M) und_int rfl rfl hget_hd ?_)
    rw [hgt,hgq]
    refine Reg.op rfl (Ope.mov rfl ?_)
    refine Reg.op rfl (Ope.ext rfl rfl ?_)
    refine Reg.op rfl (Ope.ext rfl rfl ?_)
    refine Reg.op rfl (Ope.newL rfl ?_)
    refine Reg.op0 (Ope.store rfl rfl hget_hd rfl rfl rfl ?_)
    refine Reg.op rfl (Ope.asg rfl ?_)
    refine Reg.nil (Run.seq (Run.frz (d:=6) true rfl hget_hd rfl ?_))
    refine Run.wide (m:=m+2) (l':=[(0,some (mapB M))]) (Nat.le_refl _) ⟨by repeat (first | rfl | exact hget_hd | refine (hget_tl (by omega)).trans ?_),trivial⟩ ?_
    refine Run.region (cx_ok _ _ _) (Reg.op rfl (Ope.mov rfl ?_))
    refine Reg.op rfl (Ope.not rfl ?_)
    refine Reg.op rfl (Ope.mov rfl ?_)
    refine Reg.splitX rfl rfl (fun hg=>?_) fun hg=>?_
    ·first
     |(simp at hg;done)
     |refine Reg.off rfl rfl rfl (Reg.off rfl rfl rfl (Reg.off rfl rfl rfl (Reg.off rfl rfl rfl (Reg.op rfl (Ope.pickT rfl rfl ?_)))))
      refine Reg.nil (Run.condT rfl (Run.region (cx_ok _ _ _) (Reg.op rfl (Ope.mov rfl ?_))))
      refine Reg.op rfl (Ope.fld rfl rfl ?_)
      refine Reg.op rfl (Ope.load rfl rfl ?_)
      refine Reg.op rfl (Ope.load rfl rfl ?_)
      refine Reg.op0 (Ope.msetI (M:=toR M) und_int rfl rfl rfl hget_hd ?_)
      refine Reg.nil (Run.bend ?_)
      first
      | (have hs2 : stepR M r.own = updR M r.own := by simp only [stepR, hgq]
         rw [hs2] at hsi
         refine Run.wide (m:=m+2) (l':=[(0,some (mapB (updR M r.own)))]) (Nat.le_refl _) ⟨by unfold mapB;rw [toR_set];exact hget_hd,trivial⟩ ?_
         rw [← hsi])
      | (have hs2 : stepR M r.own = if 0 < cmpR r.own o then updR M r.own else M := by simp only [stepR, hgq]
         rw [if_pos (by omega)] at hs2
         rw [hs2] at hsi
         refine Run.wide (m:=m+2) (l':=[(0,some (mapB (updR M r.own)))]) (Nat.le_refl _) ⟨by unfold mapB;rw [toR_set];exact hget_hd,trivial⟩ ?_
         rw [← hsi])
      | (have hs2 : stepR M r.own = if 0 < cmpR r.own o then updR M r.own else M := by simp only [stepR, hgq]
         rw [if_neg (by omega)] at hs2
         rw [hs2] at hsi
         rw [← hsi])
      refine Run.region (cx_ok _ _ _) (Reg.op rfl (Ope.add rfl rfl (by omega) ?_))
      refine Reg.op rfl (Ope.mov rfl ?_)
      exact Reg.nil (Run.lend ⟨(i+1,m+2),by show L.length - (i+1) < L.length - i;omega,⟨by show i+1≤L.length;omega,by show 0 < m+2;omega⟩,⟨rfl,rfl,rfl,rfl,trivial⟩,rfl,rfl⟩)
    ·first
     |(simp at hg;done)
     |refine Reg.on rfl rfl rfl (Ope.load rfl rfl ?_)
      refine Reg.on rfl rfl rfl (Ope.load rfl rfl ?_)
      refine Reg.on rfl rfl rfl (Ope.cf rfl rfl (f95 r.own o) rfl ?_)
      refine Reg.on rfl rfl rfl (Ope.gt rfl rfl ?_)
      refine Reg.op rfl (Ope.pickF rfl rfl ?_)
      refine Reg.nil (Run.condX rfl (fun hc=>?_) fun hc=>?_)
      ·refine Run.region (cx_ok _ _ _) (Reg.op rfl (Ope.mov rfl ?_))
       refine Reg.op rfl (Ope.fld rfl rfl ?_)
       refine Reg.op rfl (Ope.load rfl rfl ?_)
       refine Reg.op rfl (Ope.load rfl rfl ?_)
       refine Reg.op0 (Ope.msetI (M:=toR M) und_int rfl rfl rfl hget_hd ?_)
       refine Reg.nil (Run.bend ?_)
       first
       | (have hs2 : stepR M r.own = updR M r.own := by simp only [stepR, hgq]
          rw [hs2] at hsi
          refine Run.wide (m:=m+2) (l':=[(0,some (mapB (updR M r.own)))]) (Nat.le_refl _) ⟨by unfold mapB;rw [toR_set];exact hget_hd,trivial⟩ ?_
          rw [← hsi])
       | (have hs2 : stepR M r.own = if 0 < cmpR r.own o then updR M r.own else M := by simp only [stepR, hgq]
          rw [if_pos (by omega)] at hs2
          rw [hs2] at hsi
          refine Run.wide (m:=m+2) (l':=[(0,some (mapB (updR M r.own)))]) (Nat.le_refl _) ⟨by unfold mapB;rw [toR_set];exact hget_hd,trivial⟩ ?_
          rw [← hsi])
       | (have hs2 : stepR M r.own = if 0 < cmpR r.own o then updR M r.own else M := by simp only [stepR, hgq]
          rw [if_neg (by omega)] at hs2
          rw [hs2] at hsi
          rw [← hsi])
       refine Run.region (cx_ok _ _ _) (Reg.op rfl (Ope.add rfl rfl (by omega) ?_))
       refine Reg.op rfl (Ope.mov rfl ?_)
       exact Reg.nil (Run.lend ⟨(i+1,m+2),by show L.length - (i+1) < L.length - i;omega,⟨by show i+1≤L.length;omega,by show 0 < m+2;omega⟩,⟨rfl,rfl,rfl,rfl,trivial⟩,rfl,rfl⟩)
      ·refine Run.skip (Run.bend ?_)
       first
       | (have hs2 : stepR M r.own = updR M r.own := by simp only [stepR, hgq]
          rw [hs2] at hsi
          refine Run.wide (m:=m+2) (l':=[(0,some (mapB (updR M r.own)))]) (Nat.le_refl _) ⟨by unfold mapB;rw [toR_set];exact hget_hd,trivial⟩ ?_
          rw [← hsi])
       | (have hs2 : stepR M r.own = if 0 < cmpR r.own o then updR M r.own else M := by simp only [stepR, hgq]
          rw [if_pos (by omega)] at hs2
          rw [hs2] at hsi
          refine Run.wide (m:=m+2) (l':=[(0,some (mapB (updR M r.own)))]) (Nat.le_refl _) ⟨by unfold mapB;rw [toR_set];exact hget_hd,trivial⟩ ?_
          rw [← hsi])
       | (have hs2 : stepR M r.own = if 0 < cmpR r.own o then updR M r.own else M := by simp only [stepR, hgq]
          rw [if_neg (by omega)] at hs2
          rw [hs2] at hsi
          rw [← hsi])
       refine Run.region (cx_ok _ _ _) (Reg.op rfl (Ope.add rfl rfl (by omega) ?_))
       refine Reg.op rfl (Ope.mov rfl ?_)
       exact Reg.nil (Run.lend ⟨(i+1,m+2),by show L.length - (i+1) < L.length - i;omega,⟨by show i+1≤L.length;omega,by show 0 < m+2;omega⟩,⟨rfl,rfl,rfl,rfl,trivial⟩,rfl,rfl⟩)
   ·refine Run.exit (Jmp.code (Jmp.round (Jmp.here (Run.seq ?_))))
    obtain rfl:i=L.length:=by omega
    rw [List.take_length] at *
    refine Run.frzI (dd:=3) (i:=0) (M:=toR (stdM L)) rfl rfl ?_
    rw [toR_fm]
    refine Run.region (cx_ok _ _ _) (Reg.op rfl (Ope.mov rfl ?_))
    refine Reg.op rfl (Ope.asg rfl ?_)
    exact Reg.nil (Run.ret (fin_ret (.tmp rfl .nil) (bd_fmR 0 _) rfl))
  ·refine Run.seq (Run.region (cx_ok _ _ _) (Reg.op rfl (Ope.lt rfl rfl ?_)))
   refine Reg.nil (Run.seq (Run.condX rfl (fun hc=>?_) fun hc=>?_))
   ·refine Run.skip (Run.seq (Run.block (Run.seq ?_)))
    have hlt:i < L.length:=by omega
    have hsi:=hstep i hlt
    have hai:=hat i hlt
    obtain ⟨hk0,hk2⟩:=hoki i hlt
    have hgt:=toR_get (atR L i).own.id (stdM (L.take i))
    refine Run.region (cx_ok _ _ _) (Reg.op rfl (Ope.idxM (m:=i) (f:=Rpt.v) rfl rfl rfl hlt (fun _=>rfl) ?_))
    rw [hai]
    generalize atR L i=r at *
    generalize hM:stdM (L.take i)=M at *
    refine Reg.op rfl (Ope.load rfl rfl ?_)
    refine Reg.op rfl (Ope.newL rfl ?_)
    refine Reg.op0 (Ope.store rfl rfl hget_hd rfl rfl rfl ?_)
    refine Reg.nil (Run.seq (Run.wide (m:=m+1) (l':=[(m,some (.cells r.v.cells)),(0,some (mapB M))]) (Nat.le_refl _) ⟨hget_hd,by repeat (first | rfl | exact hget_hd | refine (hget_tl (by omega)).trans ?_),trivial⟩ ?_))
    refine Run.drawS (cx_ok _ _ _) (fun h'=>h'.get m=some (.cells r.v.cells)) [(0,true,false),(3,false,false),(1,true,true),(2,true,false),(4,true,false),(5,true,false)] (by kernel_rfl) (DraS.opQ rfl rfl rfl (Ope.loadH rfl hget_hd rfl ?_))
    refine DraS.opR rfl rfl rfl hget_hd (StabS.at rfl) (Ope.loadH rfl hget_hd rfl ?_)
    refine DraS.opS rfl rfl rfl (Ope.cf rfl rfl (f94 r hk0 hk2) rfl ?_)
    refine ⟨hget_hd,?_⟩
    refine DraS.opQ rfl rfl rfl (Ope.field rfl rfl ?_)
    refine DraS.opQ rfl rfl rfl (Ope.cf rfl rfl (fKOwn r) rfl ?_)
    refine DraS.opQ rfl rfl rfl (Ope.store rfl rfl hget_hd rfl rfl rfl ?_)
    refine DraS.nil (Run.seq (Run.frz (d:=5) true rfl hget_hd rfl ?_))
    refine Run.wide (m:=m+1) (l':=[(0,some (mapB M))]) (Nat.le_refl _) ⟨by repeat (first | rfl | exact hget_hd | refine (hget_tl (by omega)).trans ?_),trivial⟩ ?_
    refine Run.region (cx_ok _ _ _) (Reg.op rfl (Ope.mov rfl ?_))
    refine Reg.op rfl (Ope.fld rfl rfl ?_)
    refine Reg.op rfl (Ope.load rfl rfl ?_)
    refine Reg.op rfl (Ope.lookI (M:=toR M) und_int rfl rfl hget_hd ?_)
    rw [hgt,hgq]
    refine Reg.op rfl (Ope.mov rfl ?_)
    refine Reg.op rfl (Ope.ext rfl rfl ?_)
    refine Reg.op rfl (Ope.ext rfl rfl ?_)
    refine Reg.op rfl (Ope.newL rfl ?_)
    refine Reg.op0 (Ope.store rfl rfl hget_hd rfl rfl rfl ?_)
    refine Reg.op rfl (Ope.asg rfl ?_)
    refine Reg.nil (Run.seq (Run.frz (d:=6) true rfl hget_hd rfl ?_))
    refine Run.wide (m:=m+2) (l':=[(0,some (mapB M))]) (Nat.le_refl _) ⟨by repeat (first | rfl | exact hget_hd | refine (hget_tl (by omega)).trans ?_),trivial⟩ ?_
    refine Run.region (cx_ok _ _ _) (Reg.op rfl (Ope.mov rfl ?_))
    refine Reg.op rfl (Ope.not rfl ?_)
    refine Reg.op rfl (Ope.mov rfl ?_)
    refine Reg.splitX rfl rfl (fun hg=>?_) fun hg=>?_
    ·first
     |(simp at hg;done)
     |refine Reg.off rfl rfl rfl (Reg.off rfl rfl rfl (Reg.off rfl rfl rfl (Reg.off rfl rfl rfl (Reg.op rfl (Ope.pickT rfl rfl ?_)))))
      refine Reg.nil (Run.condT rfl (Run.region (cx_ok _ _ _) (Reg.op rfl (Ope.mov rfl ?_))))
      refine Reg.op rfl (Ope.fld rfl rfl ?_)
      refine Reg.op rfl (Ope.load rfl rfl ?_)
      refine Reg.op rfl (Ope.load rfl rfl ?_)
      refine Reg.op0 (Ope.msetI (M:=toR M) und_int rfl rfl rfl hget_hd ?_)
      refine Reg.nil (Run.bend ?_)
      first
      | (have hs2 : stepR M r.own = updR M r.own := by simp only [stepR, hgq]
         rw [hs2] at hsi
         refine Run.wide (m:=m+2) (l':=[(0,some (mapB (updR M r.own)))]) (Nat.le_refl _) ⟨by unfold mapB;rw [toR_set];exact hget_hd,trivial⟩ ?_
         rw [← hsi])
      | (have hs2 : stepR M r.own = if 0 < cmpR r.own o then updR M r.own else M := by simp only [stepR, hgq]
         rw [if_pos (by omega)] at hs2
         rw [hs2] at hsi
         refine Run.wide (m:=m+2) (l':=[(0,some (mapB (updR M r.own)))]) (Nat.le_refl _) ⟨by unfold mapB;rw [toR_set];exact hget_hd,trivial⟩ ?_
         rw [← hsi])
      | (have hs2 : stepR M r.own = if 0 < cmpR r.own o then updR M r.own else M := by simp only [stepR, hgq]
         rw [if_neg (by omega)] at hs2
         rw [hs2] at hsi
         rw [← hsi])
      refine Run.region (cx_ok _ _ _) (Reg.op rfl (Ope.add rfl rfl (by omega) ?_))
      refine Reg.op rfl (Ope.mov rfl ?_)
      exact Reg.nil (Run.lend ⟨(i+1,m+2),by show L.length - (i+1) < L.length - i;omega,⟨by show i+1≤L.length;omega,by show 0 < m+2;omega⟩,⟨rfl,rfl,rfl,rfl,trivial⟩,rfl,rfl⟩)
    ·first
     |(simp at hg;done)
     |refine Reg.on rfl rfl rfl (Ope.load rfl rfl ?_)
      refine Reg.on rfl rfl rfl (Ope.load rfl rfl ?_)
      refine Reg.on rfl rfl rfl (Ope.cf rfl rfl (f95 r.own o) rfl ?_)
      refine Reg.on rfl rfl rfl (Ope.gt rfl rfl ?_)
      refine Reg.op rfl (Ope.pickF rfl rfl ?_)
      refine Reg.nil (Run.condX rfl (fun hc=>?_) fun hc=>?_)
      ·refine Run.region (cx_ok _ _ _) (Reg.op rfl (Ope.mov rfl ?_))
       refine Reg.op rfl (Ope.fld rfl rfl ?_)
       refine Reg.op rfl (Ope.load rfl rfl ?_)
       refine Reg.op rfl (Ope.load rfl rfl ?_)
       refine Reg.op0 (Ope.msetI (M:=toR M) und_int rfl rfl rfl hget_hd ?_)
       refine Reg.nil (Run.bend ?_)
       first
       | (have hs2 : stepR M r.own = updR M r.own := by simp only [stepR, hgq]
          rw [hs2] at hsi
          refine Run.wide (m:=m+2) (l':=[(0,some (mapB (updR M r.own)))]) (Nat.le_refl _) ⟨by unfold mapB;rw [toR_set];exact hget_hd,trivial⟩ ?_
          rw [← hsi])
       | (have hs2 : stepR M r.own = if 0 < cmpR r.own o then updR M r.own else M := by simp only [stepR, hgq]
          rw [if_pos (by omega)] at hs2
          rw [hs2] at hsi
          refine Run.wide (m:=m+2) (l':=[(0,some (mapB (updR M r.own)))]) (Nat.le_refl _) ⟨by unfold mapB;rw [toR_set];exact hget_hd,trivial⟩ ?_
          rw [← hsi])
       | (have hs2 : stepR M r.own = if 0 < cmpR r.own o then updR M r.own else M := by simp only [stepR, hgq]
          rw [if_neg (by omega)] at hs2
          rw [hs2] at hsi
          rw [← hsi])
       refine Run.region (cx_ok _ _ _) (Reg.op rfl (Ope.add rfl rfl (by omega) ?_))
       refine Reg.op rfl (Ope.mov rfl ?_)
       exact Reg.nil (Run.lend ⟨(i+1,m+2),by show L.length - (i+1) < L.length - i;omega,⟨by show i+1≤L.length;omega,by show 0 < m+2;omega⟩,⟨rfl,rfl,rfl,rfl,trivial⟩,rfl,rfl⟩)
      ·refine Run.skip (Run.bend ?_)
       first
       | (have hs2 : stepR M r.own = updR M r.own := by simp only [stepR, hgq]
          rw [hs2] at hsi
          refine Run.wide (m:=m+2) (l':=[(0,some (mapB (updR M r.own)))]) (Nat.le_refl _) ⟨by unfold mapB;rw [toR_set];exact hget_hd,trivial⟩ ?_
          rw [← hsi])
       | (have hs2 : stepR M r.own = if 0 < cmpR r.own o then updR M r.own else M := by simp only [stepR, hgq]
          rw [if_pos (by omega)] at hs2
          rw [hs2] at hsi
          refine Run.wide (m:=m+2) (l':=[(0,some (mapB (updR M r.own)))]) (Nat.le_refl _) ⟨by unfold mapB;rw [toR_set];exact hget_hd,trivial⟩ ?_
          rw [← hsi])
       | (have hs2 : stepR M r.own = if 0 < cmpR r.own o then updR M r.own else M := by simp only [stepR, hgq]
          rw [if_neg (by omega)] at hs2
          rw [hs2] at hsi
          rw [← hsi])
       refine Run.region (cx_ok _ _ _) (Reg.op rfl (Ope.add rfl rfl (by omega) ?_))
       refine Reg.op rfl (Ope.mov rfl ?_)
       exact Reg.nil (Run.lend ⟨(i+1,m+2),by show L.length - (i+1) < L.length - i;omega,⟨by show i+1≤L.length;omega,by show 0 < m+2;omega⟩,⟨rfl,rfl,rfl,rfl,trivial⟩,rfl,rfl⟩)
   ·refine Run.exit (Jmp.code (Jmp.round (Jmp.here (Run.seq ?_))))
    obtain rfl:i=L.length:=by omega
    rw [List.take_length] at *
    refine Run.frzI (dd:=3) (i:=0) (M:=toR (stdM L)) rfl rfl ?_
    rw [toR_fm]
    refine Run.region (cx_ok _ _ _) (Reg.op rfl (Ope.mov rfl ?_))
    refine Reg.op rfl (Ope.asg rfl ?_)
    exact Reg.nil (Run.ret (fin_ret (.tmp rfl .nil) (bd_fmR 0 _) rfl))
end Go.Pv
namespace Go.Pv
open Go.Proofs Go.Am
set_option maxRecDepth 10000
theorem f50t (e:Int):Fn P0 50 [B true,I e] (.tup []):=by
  refine PFun.of (C:=c50) (cx_ok _ _ _) rfl (fn:=Tryz.f50) (by kernel_rfl) (c:=_) rfl rfl rfl ?_
  refine Run.seq (Run.region (cx_ok _ _ _) (Reg.op rfl (Ope.mov rfl ?_)))
  refine Reg.op rfl (Ope.not rfl ?_)
  refine Reg.nil (Run.condX rfl (fun hc=>?_) fun hc=>?_)
  ·exact absurd hc (by decide)
  ·exact Run.skip (fin_end .nil rfl rfl)
theorem f50f (e:Int):Pan P0 50 [B false,I e] (.ifc 25 (I e)):=by
  refine PFun.of (C:=c50) (cx_ok _ _ _) rfl (fn:=Tryz.f50) (by kernel_rfl) (c:=_) rfl rfl rfl ?_
  refine Run.seq (Run.region (cx_ok _ _ _) (Reg.op rfl (Ope.mov rfl ?_)))
  refine Reg.op rfl (Ope.not rfl ?_)
  refine Reg.nil (Run.condX rfl (fun hc=>?_) fun hc=>?_)
  ·refine Run.region (cx_ok _ _ _) (Reg.op rfl (Ope.mov rfl ?_))
   refine Reg.op rfl (Ope.ifc rfl ?_)
   refine Reg.op0 (Ope.panic rfl ?_)
   exact fin_panic rfl rfl
  ·exact absurd hc (by decide)
theorem ownU_none {o':Option Nat} {m:Nat} {l:HL} (h:∀ j,o'=some j→j < m) (hl:hget l m=none):hget (ownU o'++l) m=none:=by
  cases o' with
  | none=>exact hl
  | some j =>
    have:=h j rfl
    show hget ((j,_)::l) m=none
    rw [hget_tl (by omega)];exact hl
def flR (L:List Rpt):List Rpt:=L.filter fun r=>decide (r.ki=0)
theorem flR_take {L:List Rpt} {i:Nat} (h:i < L.length):flR (L.take (i+1))=if L[i].ki=0 then flR (L.take i)++[L[i]] else flR (L.take i):=by
  unfold flR
  rw [List.take_succ_eq_append_getElem h,List.filter_append]
  by_cases hk:L[i].ki=0
  · rw [if_pos hk,List.filter_cons,decide_eq_true hk];rfl
  · rw [if_neg hk,List.filter_cons,decide_eq_false hk];simp
theorem flR_len (L:List Rpt):(flR L).length≤L.length:=List.length_filter_le _ _
theorem f92 (tl:Tail) (J:List Rpt) (hJ:J.length≤100):Fn P0 92 [.sl tl (J.map Rpt.v)] (.sl .no ((flR J).map Rpt.v)):=by
  have hft:=fun i (h:i < J.length)=>flR_take h
  have hfl:∀ i,i≤J.length→(flR (J.take i)).length≤100:=fun i h=>by
    have:=flR_len (J.take i)
    rw [List.length_take] at this
    omega
  refine PFun.of (C:=c92) (cx_ok _ _ _) rfl (fn:=Tryz.f92) (by kernel_rfl) (c:=_) rfl rfl rfl ?_
  refine Run.seq (Run.region (cx_ok _ _ _) (Reg.op rfl (Ope.asg rfl ?_)))
  refine Reg.nil (Run.seq (Run.region (cx_ok _ _ _) (Reg.op rfl (Ope.asg rfl ?_))))
  refine Reg.nil (Run.seq (Run.seq (Run.region (cx_ok _ _ _) (Reg.op rfl (Ope.mov rfl ?_)))))
  refine Reg.op rfl (Ope.len (m:=J.length) rfl (by simp) ?_)
  refine Reg.op rfl (Ope.mov rfl ?_)
  refine Reg.nil (Run.block (Run.loop (α:=Nat×Option Nat×Nat) (fun t=>[(3,.sl (tlU t.2.1) ((flR (J.take t.1)).map Rpt.v)),(6,.sl tl (J.map Rpt.v)),(7,I J.length),(8,I t.1)]) (fun t=>HE t.2.2 (ownU t.2.1++[])) (fun t=>t.1≤J.length∧∀ j,t.2.1=some j→j < t.2.2∧flR (J.take t.1)≠[]) (fun t=>J.length - t.1) (0,none,0) ⟨rfl,rfl,rfl,rfl,trivial⟩ rfl ⟨Nat.zero_le _,fun j hj=>by cases hj⟩ (fun t ht=>?_)))
  obtain ⟨i,o',m⟩:=t
  obtain ⟨hi,hO⟩:=ht
  simp only at hi hO
  have hfi:=hfl i hi
  show Run _ _ _ _ [(3,.sl (tlU o') ((flR (J.take i)).map Rpt.v)),(6,.sl tl (J.map Rpt.v)),(7,I J.length),(8,I i)] [] (HE m (ownU o'++[]))
  refine Run.seq (Run.region (cx_ok _ _ _) (Reg.op rfl (Ope.lt rfl rfl ?_)))
  refine Reg.nil (Run.seq (Run.condX rfl (fun hc=>?_) fun hc=>?_))
  ·refine Run.skip (Run.seq (Run.block (Run.seq ?_)))
   have hlt:i < J.length:=by omega
   have hno:∀ j,o'=some j→j < m:=fun j hj=>(hO j hj).1
   have hfti:=hft i hlt
   refine Run.region (cx_ok _ _ _) (Reg.op rfl (Ope.idxM (m:=i) (f:=Rpt.v) rfl rfl rfl hlt (fun _=>rfl) ?_))
   refine Reg.op rfl (Ope.load rfl rfl ?_)
   refine Reg.op rfl (Ope.newL rfl ?_)
   refine Reg.op0 (Ope.store rfl rfl hget_hd rfl rfl rfl ?_)
   refine Reg.nil (Run.seq (Run.frz (d:=5) true rfl hget_hd rfl ?_))
   refine Run.wideS (m:=m+1) (l':=ownU o'++[]) (Nat.le_refl _) (hs_skip (hs_skip (hs_skip hs_refl (ownU_none hno rfl)) (ownU_none hno rfl)) (ownU_none hno rfl)) ?_
   refine Run.region (cx_ok _ _ _) (Reg.op rfl (Ope.fld rfl rfl ?_))
   refine Reg.op rfl (Ope.load rfl rfl ?_)
   refine Reg.op rfl (Ope.eq rfl rfl ?_)
   refine Reg.nil (Run.condX rfl (fun hc=>?_) fun hc=>?_)
   ·refine Run.region (cx_ok _ _ _) (Reg.op rfl (Ope.mov rfl ?_))
    refine Reg.op rfl (Ope.load rfl rfl ?_)
    refine Reg.op rfl (Ope.bsl rfl rfl rfl rfl ?_)
    refine Reg.op rfl (Ope.apU (o':=o') (vs:=(flR (J.take i)).map Rpt.v) (ws:=[J[i].v]) rfl rfl (by simp) (fun j hj=>⟨by have:=(hO j hj).2;simpa using this,rfl⟩) (by simp only [List.length_map,List.length_singleton];omega) (by simp only [List.length_map,List.length_singleton];omega) (by decide) (by intro v hv;obtain ⟨_,_,rfl⟩:=List.mem_map.1 hv;rfl) (by intro v hv;simp only [List.mem_singleton] at hv;subst hv;exact ⟨rfl,rfl⟩) ?_)
    refine Reg.op rfl (Ope.asg rfl ?_)
    refine Reg.nil (Run.bend (Run.region (cx_ok _ _ _) (Reg.op rfl (Ope.add rfl rfl (by omega) ?_))))
    refine Reg.op rfl (Ope.mov rfl ?_)
    refine Reg.nil ?_
    first
    | (rw [if_pos hc] at hfti
       exact Run.lend ⟨(i+1,some (m+1),m+2),by show J.length - (i+1) < J.length - i;omega,⟨by show i+1≤J.length;omega,fun j hj=>by cases hj;exact ⟨Nat.lt_succ_self _,by rw [hfti];simp⟩⟩,⟨congrArg (fun l=>some (PV.sl (.own (m+1)) l)) (by rw [hfti,List.map_append];rfl),rfl,rfl,rfl,trivial⟩,rfl,rfl⟩)
    | (rw [if_neg hc] at hfti
       exact Run.lend ⟨(i+1,o',m+1),by show J.length - (i+1) < J.length - i;omega,⟨by show i+1≤J.length;omega,fun j hj=>⟨by have:=hno j hj;show j < m+1;omega,by rw [hfti];exact (hO j hj).2⟩⟩,⟨congrArg (fun l=>some (PV.sl (tlU o') l)) (by rw [hfti]),rfl,rfl,rfl,trivial⟩,rfl,rfl⟩)
   ·refine Run.skip (Run.bend (Run.region (cx_ok _ _ _) (Reg.op rfl (Ope.add rfl rfl (by omega) ?_))))
    refine Reg.op rfl (Ope.mov rfl ?_)
    refine Reg.nil ?_
    first
    | (rw [if_pos hc] at hfti
       exact Run.lend ⟨(i+1,some (m+1),m+2),by show J.length - (i+1) < J.length - i;omega,⟨by show i+1≤J.length;omega,fun j hj=>by cases hj;exact ⟨Nat.lt_succ_self _,by rw [hfti];simp⟩⟩,⟨congrArg (fun l=>some (PV.sl (.own (m+1)) l)) (by rw [hfti,List.map_append];rfl),rfl,rfl,rfl,trivial⟩,rfl,rfl⟩)
    | (rw [if_neg hc] at hfti
       exact Run.lend ⟨(i+1,o',m+1),by show J.length - (i+1) < J.length - i;omega,⟨by show i+1≤J.length;omega,fun j hj=>⟨by have:=hno j hj;show j < m+1;omega,by rw [hfti];exact (hO j hj).2⟩⟩,⟨congrArg (fun l=>some (PV.sl (tlU o') l)) (by rw [hfti]),rfl,rfl,rfl,trivial⟩,rfl,rfl⟩)
  ·refine Run.exit (Jmp.code (Jmp.round (Jmp.here (Run.seq ?_))))
   obtain rfl:i=J.length:=by omega
   rw [List.take_length]
   refine Run.weakT (d:=3) rfl ?_
   refine Run.region (cx_ok _ _ _) (Reg.op rfl (Ope.mov rfl ?_))
   refine Reg.op rfl (Ope.asg rfl ?_)
   exact Reg.nil (Run.ret (fin_ret (.tmp rfl .nil) (bd_sl (f:=Rpt.v) (tl:=.no) rfl (fun _=>rfl) _) rfl))
theorem cat_one (tl:Tail) (L:List Rpt):cat [(tl,L)]=L:=by simp [cat]
theorem cat_two (t1 t2:Tail) (L M:List Rpt):cat [(t1,L),(t2,M)]=L++M:=by simp [cat]
theorem f51 (tl : Tail) (htl : tl.isOwn = false) (L : List Rpt) (hL : L.length ≤ 100) : Fn P0 51 [.sl tl (L.map Rpt.v)] (B (jouB L)) := by
  have hst:=fun (h:∀ r∈L,r.ok=true)=>f52 .ex rfl [(tl,L)] (fun p hp=>by rw [List.mem_singleton.1 hp];exact htl) (by simp) (by rw [cat_one];omega) (by rw [cat_one];exact h)
  rw [cat_one] at hst
  have hbs:PV.bds 0 [.sl .ex [.sl tl (L.map Rpt.v)]]=true:=by
    have:=bd_sl (f:=Rpt.v) htl (fun _=>rfl) L
    simp only [PV.bds,PV.bd,this,Bool.and_self]
  have hjo:=fun (h:∀ r∈L,r.ok=true) (h2:L.length≤12)=>f53 (stdM L) (Nat.le_trans (stdM_le L) h2) (stdM_nodup L) (stdM_ids h)
  rw [srtR_stdM] at hjo
  have hfa:=fun (h:(std L).length≤100)=>f92 .no (std L) h
  have hvr:=fun r=>f91 r
  have hbst:PV.bds 0 [.sl .no ((std L).map Rpt.v)]=true:=bds_cons (bd_sl (f:=Rpt.v) (tl:=.no) rfl (fun _=>rfl) _) rfl
  have hbfm:PV.bds 0 [fmR (stdM L)]=true:=by simp only [PV.bds,bd_fmR,Bool.and_self]
  refine PFun.of (C:=c51) (cx_ok _ _ _) rfl (fn:=Tryz.f51) (by kernel_rfl) (c:=_) rfl rfl rfl ?_
  refine Run.seq (Run.region (cx_ok _ _ _) (Reg.op rfl (Ope.asg rfl ?_)))
  refine Reg.nil (Run.seq (Run.seq (Run.region (cx_ok _ _ _) (Reg.op rfl (Ope.mov rfl ?_)))))
  refine Reg.op rfl (Ope.len (m:=L.length) rfl (by simp) ?_)
  refine Reg.op rfl (Ope.gt rfl rfl ?_)
  refine Reg.nil (Run.condX rfl (fun hc=>?_) fun hc=>?_)
  ·refine Run.seq (Run.region (cx_ok _ _ _) (Reg.op rfl (Ope.asg rfl ?_)))
   refine Reg.nil (Run.ret (Jmp.code (fin_ret (.tmp rfl .nil) rfl ?_)))
   first
   | (refine congrArg B ?_
      have hl:L.length≤12:=by omega
      have h2:L.all Rpt.ok=true:=List.all_eq_true.2 hall
      unfold jouB
      rw [h2,decide_eq_true hl,Bool.and_true,Bool.true_and]
      exact decide_eq_decide.2 (by show _↔(flR (std L)).length≤3;omega))
   | (refine congrArg B (Eq.symm ?_)
      unfold jouB
      have h2:L.all Rpt.ok=false:=by
        rw [List.all_eq_false]
        exact ⟨L[i],List.getElem_mem hlt,by simpa using hc⟩
      rw [h2,Bool.and_false,Bool.false_and])
   | (refine congrArg B (Eq.symm ?_)
      unfold jouB
      rw [decide_eq_false (by omega),Bool.false_and,Bool.false_and])
  ·refine Run.skip (Run.seq (Run.seq (Run.region (cx_ok _ _ _) (Reg.op rfl (Ope.mov rfl ?_)))))
   refine Reg.op rfl (Ope.len (m:=L.length) rfl (by simp) ?_)
   refine Reg.op rfl (Ope.mov rfl ?_)
   refine Reg.nil (Run.block (Run.loop (α:=Nat×Nat) (fun t=>[(0,.sl tl (L.map Rpt.v)),(8,.sl tl (L.map Rpt.v)),(9,I L.length),(10,I t.1)]) (fun t=>HE t.2 []) (fun t=>t.1≤L.length∧∀ r∈L.take t.1,r.ok=true) (fun t=>L.length - t.1) (0,0) ⟨rfl,rfl,rfl,rfl,trivial⟩ rfl ⟨Nat.zero_le _,fun r hr=>by cases hr⟩ (fun t ht=>?_)))
   obtain ⟨i,m⟩:=t
   obtain ⟨hi,hall⟩:=ht
   simp only at hi hall
   show Run _ _ _ _ [(0,.sl tl (L.map Rpt.v)),(8,.sl tl (L.map Rpt.v)),(9,I L.length),(10,I i)] [] (HE m [])
   refine Run.seq (Run.region (cx_ok _ _ _) (Reg.op rfl (Ope.lt rfl rfl ?_)))
   refine Reg.nil (Run.seq (Run.condX rfl (fun hc=>?_) fun hc=>?_))
   ·refine Run.skip (Run.seq (Run.block (Run.seq ?_)))
    have hlt:i < L.length:=by omega
    refine Run.region (cx_ok _ _ _) (Reg.op rfl (Ope.idxM (m:=i) (f:=Rpt.v) rfl rfl rfl hlt (fun _=>rfl) ?_))
    refine Reg.op rfl (Ope.load rfl rfl ?_)
    refine Reg.op rfl (Ope.newL rfl ?_)
    refine Reg.op0 (Ope.store rfl rfl hget_hd rfl rfl rfl ?_)
    refine Reg.nil (Run.seq (Run.frz (d:=4) true rfl hget_hd rfl ?_))
    refine Run.wide (m:=m+1) (l':=[]) (Nat.le_refl _) trivial ?_
    refine Run.region (cx_ok _ _ _) (Reg.op rfl (Ope.load rfl rfl ?_))
    refine Reg.op rfl (Ope.cf rfl rfl (hvr L[i]) rfl ?_)
    refine Reg.op rfl (Ope.not rfl ?_)
    refine Reg.nil (Run.condX rfl (fun hc=>?_) fun hc=>?_)
    ·refine Run.seq (Run.region (cx_ok _ _ _) (Reg.op rfl (Ope.asg rfl ?_)))
     refine Reg.nil (Run.ret (Jmp.retB (Jmp.code (Jmp.round (Jmp.retB (Jmp.code (fin_ret (.tmp rfl .nil) rfl ?_)))))))
     first
     | (refine congrArg B ?_
        have hl:L.length≤12:=by omega
        have h2:L.all Rpt.ok=true:=List.all_eq_true.2 hall
        unfold jouB
        rw [h2,decide_eq_true hl,Bool.and_true,Bool.true_and]
        exact decide_eq_decide.2 (by show _↔(flR (std L)).length≤3;omega))
     | (refine congrArg B (Eq.symm ?_)
        unfold jouB
        have h2:L.all Rpt.ok=false:=by
          rw [List.all_eq_false]
          exact ⟨L[i],List.getElem_mem hlt,by simpa using hc⟩
        rw [h2,Bool.and_false,Bool.false_and])
     | (refine congrArg B (Eq.symm ?_)
        unfold jouB
        rw [decide_eq_false (by omega),Bool.false_and,Bool.false_and])
    ·refine Run.skip (Run.bend (Run.region (cx_ok _ _ _) (Reg.op rfl (Ope.add rfl rfl (by omega) ?_))))
     refine Reg.op rfl (Ope.mov rfl ?_)
     refine Reg.nil ?_
     exact Run.lend ⟨(i+1,m+1),by show L.length - (i+1) < L.length - i;omega,⟨by show i+1≤L.length;omega,fun r hr=>by
       rw [List.take_succ_eq_append_getElem hlt] at hr
       rcases List.mem_append.1 hr with hr | hr
       · exact hall r hr
       · rw [List.mem_singleton.1 hr];simpa using hc⟩,⟨rfl,rfl,rfl,rfl,trivial⟩,rfl,rfl⟩
   ·refine Run.exit (Jmp.code (Jmp.round (Jmp.here (Run.seq ?_))))
    obtain rfl:i=L.length:=by omega
    rw [List.take_length] at hall
    have hst':=hst hall
    have hjo':=hjo hall (by omega)
    have hsl:=stdM_len hall
    have hsl2:=stdM_le L
    have hfa':=hfa (by omega)
    have hfl:=flR_len (std L)
    refine Run.region (cx_ok _ _ _) (Reg.op rfl (Ope.mov rfl ?_))
    refine Reg.op rfl (Ope.bsl rfl rfl rfl rfl ?_)
    refine Reg.op rfl (Ope.cf rfl rfl hst' hbs ?_)
    refine Reg.op rfl (Ope.cf rfl rfl hjo' hbfm ?_)
    refine Reg.op rfl (Ope.cf rfl rfl hfa' hbst ?_)
    refine Reg.op rfl (Ope.len (m:=(flR (std L)).length) rfl (by simp) ?_)
    refine Reg.op rfl (Ope.le rfl rfl ?_)
    refine Reg.op rfl (Ope.asg rfl ?_)
    refine Reg.nil (Run.ret (fin_ret (.tmp rfl .nil) rfl ?_))
    first
    | (refine congrArg B ?_
       have hl:L.length≤12:=by omega
       have h2:L.all Rpt.ok=true:=List.all_eq_true.2 hall
       unfold jouB
       rw [h2,decide_eq_true hl,Bool.and_true,Bool.true_and]
       exact decide_eq_decide.2 (by show _↔(flR (std L)).length≤3;omega))
    | (refine congrArg B (Eq.symm ?_)
       unfold jouB
       have h2:L.all Rpt.ok=false:=by
         rw [List.all_eq_false]
         exact ⟨L[i],List.getElem_mem hlt,by simpa using hc⟩
       rw [h2,Bool.and_false,Bool.false_and])
    | (refine congrArg B (Eq.symm ?_)
       unfold jouB
       rw [decide_eq_false (by omega),Bool.false_and,Bool.false_and])
end Go.Pv
