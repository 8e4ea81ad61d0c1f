/- Parts of the proof: S29, S30, S31, S32, S33, Pv82 -/
import Derived.Test.YtkabfhoicdeehaaGreatP22
import Derived.Test.YtkabfhoicdeehaaGreatP16
import Derived.Test.YtkabfhoicdeehaaGreatP17
set_option linter.unusedVariables false
set_option linter.unusedSimpArgs false
set_option linter.unusedSectionVars false
namespace Go.Pv
open Go.Proofs Go.Am
set_option maxRecDepth 10000
theorem set_len (J:List Rpt) (i:Nat) (x:Rpt):(J.set i x).length=J.length:=by simp
theorem f114 (J:List Rpt) (x:Rpt) (i:Nat) (hi:i < J.length) (j m c:Nat) (ez:Option Nat):PCall P0 114 [.ms j 0 J.length c ez,.fp x.v,.fp (I i)] (HE m [(j,some (.cells (flat (J.map Rpt.v)++[])))]) (fun v h'=>∃ m',m≤m'∧v=.tup []∧h'=HE m' [(j,some (.cells (flat ((J.set i x).map Rpt.v)++[])))]) fun _ _=>False:=by
  refine PCall.ofH (C:=c114) (cx_ok _ _ _) rfl (fn:=Tryz.f114) (by kernel_rfl) (c:=_) rfl rfl rfl (fun hok=>?_)
  refine Run.region (cx_ok _ _ _) (Reg.op rfl (Ope.mov rfl ?_))
  refine Reg.op rfl (Ope.load rfl rfl ?_)
  refine Reg.op rfl (Ope.load rfl rfl ?_)
  refine Reg.op rfl (Ope.idxL (m:=i) rfl rfl rfl hi ?_)
  refine Reg.op0 (Ope.storeP rfl rfl hget_hd rfl rfl (by rw [rpts_len];show 0+i * 8+8≤8 * J.length+0;omega) ?_)
  rw [show pputs (flat (J.map Rpt.v)++[]) (0+i * 8) (PV.agg [I x.id,I x.ve,I x.ki,I x.a,I x.b,I x.c,I x.d,I x.pr]).cells=flat ((J.set i x).map Rpt.v)++[] from put_rpt [] x J i hi _ (by omega)]
  refine Reg.nil ?_
  exact finH_end .nil (Nat.le_refl _) (fun q b h=>by
    by_cases hq:q=j
    · subst hq;rw [hget_hd] at h ⊢;exact h
    · rw [hget_tl hq] at h;cases h) ⟨m,Nat.le_refl _,rfl,rfl⟩
def setB (J:List Rpt) (p:Int):Bool:=decide ((enJ (balF p (scR J)) (voR (flR J) 0)).1=(enJ (balF p (scR J)) (voR (flR J) 0)).2)
def stlB (J:List Rpt) (p:Int) (i:Nat):Bool:=(exR (atR J i)).all fun x=>setB (J.set i x) p
def setO (J:List Rpt) (p:Int):Nat→Nat→Option Nat
  | 0,_=>none
  | d+1,i=>if stlB J p i=true then some i else setO J p d (i+1)
theorem at_ok {r:Rpt} (h:r.ok=true) {x:Rpt} (hx:x∈exR r):x.ok=true∧x.ki=r.ki:=by
  obtain ⟨i,k,h1,h2,rfl⟩:=mem_exR hx
  have hr:=Rpt.ok_rep h
  have ha:=hr.a
  unfold Rpt.nl at h1
  unfold Rpt.nm at h2
  refine ⟨?_,rfl⟩
  have hc:r.ki=0→_:=hr.c
  have key:(r.at i k).ok=((decide (0≤r.id) && decide (r.id≤31)) && ((decide (0≤r.ve) && decide (r.ve≤9)) && (spnB (r.a+i) (r.a+i) 0 50 && ((decide (0≤r.ki) && decide (r.ki≤2)) && (if r.ki=0 then spnB (r.c+k) (r.c+k) 1 10 else decide (0≤r.pr) && decide (r.pr≤3)))))):=rfl
  rw [key]
  unfold Rpt.ok at h
  unfold spnB at h ⊢
  simp only [Bool.and_eq_true,decide_eq_true_eq] at h ⊢
  obtain ⟨g1,g2,g3,g4,g5⟩:=h
  refine ⟨g1,g2,⟨by omega,by omega⟩,g4,?_⟩
  by_cases hk:r.ki=0
  · rw [if_pos hk]
    have:=hc hk
    simp only [Bool.and_eq_true,decide_eq_true_eq]
    omega
  · rw [if_neg hk] at g5 ⊢
    exact g5
theorem flR_lenk (J:List Rpt):(flR J).length=((J.map Rpt.ki).filter fun k=>decide (k=0)).length:=by
  unfold flR
  rw [List.filter_map,List.length_map]
  rfl
theorem flR_set {J:List Rpt} {i:Nat} (hi:i < J.length) {x:Rpt} (hk:x.ki=J[i].ki):(flR (J.set i x)).length=(flR J).length:=by
  rw [flR_lenk,flR_lenk,List.map_set,hk]
  congr 2
  refine List.ext_getElem (by simp) fun q h1 h2=>?_
  rw [List.getElem_set]
  split
  · next e=>subst e;simp
  · rfl
theorem set_ok {J:List Rpt} (hok:∀ r∈J,r.ok=true) {i:Nat} {x:Rpt} (hx:x.ok=true):∀ r∈J.set i x,r.ok=true:=fun r hr=>by
  rcases List.mem_or_eq_of_mem_set hr with h | h
  · exact hok r h
  · rw [h];exact hx
theorem dfr_none {L:List Nat} {q:Nat} (h:q ∉ L):hget (dfrs L++[]) q=none:=(dfrs_past h).trans rfl
theorem HsubAll {l:HL}:∀ {Z:HL},(∀ p∈Z,hget l p.1=p.2)→Hsub Z l
  | [],_=>trivial
  | (i,b)::Z,h=>⟨h (i,b) (by simp),HsubAll fun p hp=>h p (List.mem_cons_of_mem _ hp)⟩
theorem f82 (tl : Tail) (htl : tl.isOwn = false) (J : List Rpt) (hJ : J.length ≤ 100) (hok : ∀ r ∈ J, r.ok = true) (hcd : ∀ r ∈ J, -1000 ≤ r.c ∧ r.d ≤ 1000) (h3 : (flR J).length ≤ 3) (p : Int) : Fn P0 82 [.sl tl (J.map Rpt.v), I p] (match setO J p J.length 0 with | some i => .tup [I (atR J i).id, B true] | none => .tup [I 0, B false]) := by
  have hat:∀ i (h:i < J.length),J[i]=atR J i:=fun i h=>(atR_get h).symm
  have hst:∀ (i:Nat) (hi:i < J.length) (x:Rpt),x∈exR (atR J i)→Fn P0 81 [.sl .no ((J.set i x).map Rpt.v),I p] (B (setB (J.set i x) p))∧Fn P0 96 [.sl tl (J.map Rpt.v),.fn (.func 114) [] [.fp x.v,.fp (I i)]] (.sl .no ((J.set i x).map Rpt.v)):=fun i hi x hx=>by
    rw [← hat i hi] at hx
    obtain ⟨hx1,hx2⟩:=at_ok (hok _ (List.getElem_mem hi)) hx
    exact ⟨f81 .no rfl (J.set i x) (by rw [set_len];exact hJ) (set_ok hok hx1) (by rw [flR_set hi hx2];exact h3) p,
      f96 J (J.set i x) hJ (set_len _ _ _) tl 114 [.fp x.v,.fp (I i)] (fun j m c ez=>f114 J x i hi j m c ez)⟩
  have hyl:∀ (i:Nat) (hi:i < J.length),Yields P0 130 [] [.fp (atR J i).v] ((exR (atR J i)).map Rpt.v):=fun i hi=>by
    rw [← hat i hi]
    have hr:=Rpt.ok_rep (hok _ (List.getElem_mem hi))
    have ha:=hr.a
    have hc:=hcd _ (List.getElem_mem hi)
    exact f130 J[i] ⟨by omega,by omega,hc.1,hc.2⟩
  have hbJ:=bd_sl (f:=Rpt.v) htl (fun _=>rfl) J
  have hbc:∀ (x:Rpt) (i:Nat),PV.bds 0 [.sl tl (J.map Rpt.v),.fn (.func 114) [] [.fp x.v,.fp (I i)]]=true:=fun x i=>bds_cons hbJ rfl
  have hbs:∀ (K:List Rpt),PV.bds 0 [.sl .no (K.map Rpt.v),I p]=true:=fun K=>bds_cons (bd_sl (f:=Rpt.v) (tl:=.no) rfl (fun _=>rfl) _) rfl
  generalize hf0:setO J p J.length 0=f0
  refine PFun.of (C:=c82) (cx_ok _ _ _) rfl (fn:=Tryz.f82) (by kernel_rfl) (c:=_) rfl rfl rfl ?_
  refine Run.seq (Run.region (cx_ok _ _ _) (Reg.op rfl (Ope.boxF rfl rfl ?_)))
  refine Reg.op rfl (Ope.boxF rfl rfl ?_)
  refine Reg.op rfl (Ope.asg rfl ?_)
  refine Reg.op rfl (Ope.asg rfl ?_)
  refine Reg.nil (Run.scope (Run.seq (Run.label (Run.seq (Run.seq (Run.region (cx_ok _ _ _) (Reg.op rfl (Ope.load rfl rfl ?_))))))))
  refine Reg.op rfl (Ope.len (m:=J.length) rfl (by simp) ?_)
  refine Reg.op rfl (Ope.mov rfl ?_)
  refine Reg.nil (Run.block (Run.loopD (α:=Nat×Nat×List Nat) (fun s=>[(2,.fp (.sl tl (J.map Rpt.v))),(3,.fp (I p)),(10,.sl tl (J.map Rpt.v)),(11,I J.length),(12,I s.1)]) (fun s=>HE s.2.1 (dfrs s.2.2++[])) (fun s=>s.2.2) (fun s=>s.1≤J.length∧f0=setO J p (J.length - s.1) s.1∧(∀ i∈s.2.2,i < s.2.1)∧s.2.2.Nodup) (fun s=>J.length - s.1) (0,0,[]) ⟨rfl,rfl,rfl,rfl,rfl,trivial⟩ rfl rfl ⟨Nat.zero_le _,hf0.symm,(fun i hi=>by cases hi),List.nodup_nil⟩ (fun s hs=>?_)))
  obtain ⟨i,m,L⟩:=s
  obtain ⟨hi,hfew,hL,hLn⟩:=hs
  simp only at hi hfew hL hLn
  show Run _ _ _ _ [(2,.fp (.sl tl (J.map Rpt.v))),(3,.fp (I p)),(10,.sl tl (J.map Rpt.v)),(11,I J.length),(12,I i)] L (HE m (dfrs L++[]))
  refine Run.seq (Run.region (cx_ok _ _ _) (Reg.op rfl (Ope.lt rfl rfl ?_)))
  refine Reg.nil (Run.seq (Run.condX rfl (fun hc=>?_) fun hc=>?_))
  ·refine Run.skip (Run.seq (Run.block (Run.seq ?_)))
   have hlt:i < J.length:=by omega
   have hai:=hat i hlt
   have hyi:=hyl i hlt
   have hsi:=hst i hlt
   have hd:J.length - i=(J.length - (i+1))+1:=by omega
   rw [hd] at hfew
   simp only [setO] at hfew
   have hLm:∀ q,m≤q→q ∉ L:=fun q hq h=>by have:=hL q h;omega
   have hsdef:stlB J p i=(exR (atR J i)).all fun x=>setB (J.set i x) p:=rfl
   refine Run.region (cx_ok _ _ _) (Reg.op rfl (Ope.mov rfl ?_))
   refine Reg.op rfl (Ope.idxM (m:=i) (f:=Rpt.v) rfl rfl rfl hlt (fun _=>rfl) ?_)
   rw [hai]
   obtain ⟨r,hri⟩:∃ r,r=atR J i:=⟨_,rfl⟩
   rw [← hri] at hyi hsi hsdef hai ⊢
   refine Reg.op rfl (Ope.load rfl rfl ?_)
   refine Reg.op rfl (Ope.newL rfl ?_)
   refine Reg.op rfl (Ope.newL rfl ?_)
   refine Reg.op0 (Ope.store rfl rfl (by repeat (first | rfl | exact hget_hd | refine (hget_tl (by omega)).trans ?_)) rfl rfl rfl ?_)
   refine Reg.op0 (Ope.store rfl rfl (by repeat (first | rfl | exact hget_hd | refine (hget_tl (by omega)).trans ?_)) rfl rfl rfl ?_)
   refine Reg.nil (Run.seq (Run.seq (Run.frz (d:=6) false rfl (by repeat (first | rfl | exact hget_hd | refine (hget_tl (by omega)).trans ?_)) rfl ?_)))
   refine Run.frz (d:=7) true rfl (by repeat (first | rfl | exact hget_hd | refine (hget_tl (by omega)).trans ?_)) rfl ?_
   refine Run.wideS (m:=m+1+1) (l':=dfrs L++[]) (Nat.le_refl _) (hs_skip (hs_skip (hs_skip (hs_skip (hs_skip (hs_skip hs_refl (dfr_none (hLm _ (by omega)))) (dfr_none (hLm _ (by omega)))) (dfr_none (hLm _ (by omega)))) (dfr_none (hLm _ (by omega)))) (dfr_none (hLm _ (by omega)))) (dfr_none (hLm _ (by omega)))) ?_
   refine Run.region (cx_ok _ _ _) (Reg.op rfl (Ope.load rfl rfl ?_))
   refine Reg.op rfl (Ope.cf rfl rfl (f113 r) rfl ?_)
   refine Reg.nil (Run.block ?_)
   refine Run.rangeF (cx_ok _ _ _) rfl (α:=Unit) (fun _=>dfrs L++[]) (fun _=>m+1+1+2) (fun q _=>∀ x∈(exR r).take q,setB (J.set i x) p=true) rfl hyi rfl rfl ⟨Tryz.f82,by kernel_rfl⟩ () (fun x hx=>by simp at hx) (HsubAll fun q hq=>by
     simp only [List.append_nil] at hq
     obtain ⟨z,hz,rfl⟩:=List.mem_map.1 hq
     exact dfrs_get hz) (fun _ q hq=>by
     simp only [List.append_nil] at hq
     obtain ⟨z,hz,rfl⟩:=List.mem_map.1 hq
     have:=hL z hz
     show z≠_;omega) (fun q hq=>by
     simp only [List.append_nil] at hq
     obtain ⟨z,hz,rfl⟩:=List.mem_map.1 hq
     have:=hL z hz
     show z≠_;omega) (Nat.le_refl _) (fun q _ v hvi hI m1 hm1 hm2 lb=>?_) (fun _ hI m1 hm1 hm2=>?_)
   ·obtain ⟨x, hx, rfl⟩ : ∃ x, (exR r)[q]? = some x ∧ v = x.v := by
      rw [List.getElem?_map] at hvi
      cases hq:(exR r)[q]? with
      | none=>rw [hq] at hvi;cases hvi
      | some x=>rw [hq] at hvi;cases hvi;exact ⟨x,rfl,rfl⟩
    obtain ⟨hltq,hgtq⟩:=List.getElem?_eq_some_iff.1 hx
    have hmem:x∈exR r:=List.mem_of_getElem? hx
    obtain ⟨hset,hchg⟩:=hsi x hmem
    have hbcx:=hbc x i
    have hbsx:=hbs (J.set i x)
    refine Run.region (Cx.Ok.rnd (cx_ok _ _ _)) (Reg.op rfl (Ope.newL rfl ?_))
    refine Reg.op0 (Ope.store rfl rfl hget_hd rfl rfl rfl ?_)
    refine Reg.nil (Run.done ⟨rfl,rfl,_,_,rfl,(hget_tl (by omega)).trans ((hget_tl (by omega)).trans hget_hd),fun lb2=>?_⟩)
    refine Run.block (Run.seq (Run.frz (d:=8) true rfl ((hget_tl (by omega)).trans hget_hd) rfl ?_))
    have hm1L:m1 ∉ L:=hLm _ (by omega)
    refine Run.wideS (m:=m1+1) (l':=(m+1+1+1,some lb2)::(m+1+1,some .dfr)::(dfrs L++[])) (Nat.le_refl _) (fun z b hz=>?_) ?_
    · have hzm : z ≠ m1 := fun e => by
        subst e
        rw [hget_tl (by omega),hget_tl (by omega),dfr_none hm1L] at hz
        cases hz
      rw [hget_tl hzm]
      by_cases hz2:z=m+1+1+1
      · subst hz2
        rw [hget_hd] at hz ⊢;exact hz
      · rw [hget_tl hz2] at hz ⊢
        rw [hget_tl hzm,hget_tl hzm,hget_tl hz2]
        exact hz
    refine Run.region (Cx.Ok.rnd (cx_ok _ _ _)) (Reg.op rfl (Ope.load rfl rfl ?_))
    refine Reg.op rfl (Ope.mkf rfl rfl ?_)
    refine Reg.op rfl (Ope.cf rfl rfl hchg hbcx ?_)
    refine Reg.op rfl (Ope.asg rfl ?_)
    refine Reg.nil (Run.seq (Run.region (Cx.Ok.rnd (cx_ok _ _ _)) (Reg.op rfl (Ope.mov rfl ?_))))
    refine Reg.op rfl (Ope.load rfl rfl ?_)
    refine Reg.op rfl (Ope.cf rfl rfl hset hbsx ?_)
    refine Reg.op rfl (Ope.not rfl ?_)
    refine Reg.nil (Run.condX rfl (fun hc=>?_) fun hc=>?_)
    ·refine Run.exit (Jmp.past rfl ?_)
     refine Jmp.done ⟨rfl,_,_,rfl,by omega,hget_hd,(fun _=>rfl),dfrs ((m+1+1)::L)++[],HsubAll (fun z hz=>by
         simp only [List.append_nil] at hz
         obtain ⟨w,hw,rfl⟩:=List.mem_map.1 hz
         have hwm:w≤m+1+1:=by
           rcases List.mem_cons.1 hw with rfl | hw
           · exact Nat.le_refl _
           · have:=hL w hw;omega
         show hget _ w=some .dfr
         rw [hget_tl (by omega),hget_tl (by omega)]
         rcases List.mem_cons.1 hw with rfl | hw
         · exact hget_hd
         · rw [hget_tl (by have := hL w hw; omega)]
           exact dfrs_get hw),fun m4 hm4=>?_⟩
     refine Jmp.past rfl (Jmp.code (Jmp.here (Run.region (cx_ok _ _ _) (Reg.op rfl (Ope.add rfl rfl (by omega) ?_)))))
     refine Reg.op rfl (Ope.mov rfl ?_)
     refine Reg.nil ?_
     have hno:stlB J p i=false:=by
       rw [hsdef,List.all_eq_false]
       exact ⟨x,hmem,by simpa using hc⟩
     rw [hno,if_neg (by decide)] at hfew
     exact Run.lend ⟨(i+1,m4,(m+1+1)::L),by show J.length - (i+1) < J.length - i;omega,⟨by show i+1≤J.length;omega,hfew,fun z hz=>by
         rcases List.mem_cons.1 hz with rfl | hz
         · show m+1+1 < m4;omega
         · have:=hL z hz;show z < m4;omega,List.nodup_cons.2 ⟨hLm _ (by omega),hLn⟩⟩,⟨rfl,rfl,rfl,rfl,rfl,trivial⟩,rfl,rfl⟩
    ·refine Run.skip (Run.bend ?_)
     refine Run.done ⟨rfl,_,_,rfl,by omega,hget_hd,(),by omega,HsubAll (fun z hz=>by
         have hz:z∈(m+1+1,some PBlk.dfr)::(dfrs L++[]):=hz
         simp only [List.append_nil] at hz
         rcases List.mem_cons.1 hz with rfl | hz
         · exact (hget_tl (by omega)).trans hget_hd
         · obtain ⟨w, hw, rfl⟩ := List.mem_map.1 hz
           have:=hL w hw
           show hget _ w=some .dfr
           rw [hget_tl (by omega),hget_tl (by omega)]
           exact dfrs_get hw),fun y hy=>?_⟩
     rw [List.take_succ_eq_append_getElem hltq,hgtq] at hy
     rcases List.mem_append.1 hy with h1 | h1
     · exact hI y h1
     · rw [List.mem_singleton.1 h1]
       simpa using hc
   ·rw [List.length_map, List.take_length] at hI
    have hall:stlB J p i=true:=by rw [hsdef];exact List.all_eq_true.2 hI
    rw [if_pos hall] at hfew
    refine Run.bend (Run.seq (Run.region (cx_ok _ _ _) (Reg.op rfl (Ope.fld rfl rfl ?_))))
    refine Reg.op rfl (Ope.load rfl rfl ?_)
    refine Reg.op rfl (Ope.asg rfl ?_)
    refine Reg.op rfl (Ope.asg rfl ?_)
    refine Reg.nil (Run.ret (Jmp.retB (Jmp.code (Jmp.round (Jmp.retB (Jmp.code (Jmp.retS ?_)))))))
    first
    | (exact fin_retL (L:=(m+1+1)::L) (fun z hz=>by
        rcases List.mem_cons.1 hz with rfl | hz
        · exact hget_hd
        · have := hL z hz
          rw [hget_tl (by omega)];exact dfrs_get hz) (List.nodup_cons.2 ⟨hLm _ (by omega),hLn⟩) (fun l'=>.tmp rfl (.tmp rfl .nil)) rfl (by rw [hfew];show _=PV.tup [I (atR J i).id,B true];rw [← hri];rfl))
    | (have h0 : J.length - i = 0 := by omega
       rw [h0] at hfew
       rw [hfew]
       exact fin_retL (L:=L) (fun z hz=>dfrs_get hz) hLn (fun l'=>.tmp rfl (.tmp rfl .nil)) rfl rfl)
  ·refine Run.exit (Jmp.code (Jmp.round (Jmp.here (Run.seq (Run.region (cx_ok _ _ _) (Reg.op rfl (Ope.asg rfl ?_)))))))
   refine Reg.op rfl (Ope.asg rfl ?_)
   refine Reg.nil (Run.ret (Jmp.retS ?_))
   first
   | (exact fin_retL (L:=(m+1+1)::L) (fun z hz=>by
       rcases List.mem_cons.1 hz with rfl | hz
       · exact hget_hd
       · have := hL z hz
         rw [hget_tl (by omega)];exact dfrs_get hz) (List.nodup_cons.2 ⟨hLm _ (by omega),hLn⟩) (fun l'=>.tmp rfl (.tmp rfl .nil)) rfl (by rw [hfew];show _=PV.tup [I (atR J i).id,B true];rw [← hri];rfl))
   | (have h0 : J.length - i = 0 := by omega
      rw [h0] at hfew
      rw [hfew]
      exact fin_retL (L:=L) (fun z hz=>dfrs_get hz) hLn (fun l'=>.tmp rfl (.tmp rfl .nil)) rfl rfl)
end Go.Pv
namespace Go.Pv
open Go.Proofs Go.Am
set_option maxRecDepth 10000
theorem std_cd {L:List Rpt} (h:∀ r∈L,r.ok=true):∀ r∈std L,-1000≤r.c∧r.d≤1000:=fun r hr=>by
  have h1:=Rpt.ok_rep (std_ok h r hr)
  have h2:=std_own hr
  by_cases hk:r.ki=0
  · have := h1.c hk
    omega
  · unfold Rpt.own at h2
    rw [if_neg hk] at h2
    have hc:r.c=0:=by rw [← h2]
    have hd:r.d=0:=by rw [← h2]
    omega
def askO (L:List Rpt) (p:Int):Option Nat:=setO (std L) p (std L).length 0
def askR (L:List Rpt) (p:Int):Int:=match askO L p with | some i=>(atR (std L) i).id | none=>0
def askE (L:List Rpt) (p:Int):Int:=if jouB L=true then (if pairB p=true then (if setB (std L) p=true then 11 else (if (askO L p).isSome=true then 0 else 4)) else 2) else 1
section
variable (tl:Tail) (htl:tl.isOwn=false) (L:List Rpt) (hL:L.length≤100)
include htl hL
theorem f80f (p:Int) (e:Int) (hj:Pan P0 77 [.sl tl (L.map Rpt.v),I p] (.ifc 25 (I e))):Pan P0 80 [.fp (.sl tl (L.map Rpt.v)),.fp (I p)] (.ifc 25 (I e)):=by
  have hb1:PV.bds 0 [.sl tl (L.map Rpt.v),I p]=true:=bds_cons (bd_sl (f:=Rpt.v) htl (fun _=>rfl) L) rfl
  refine PFun.of (C:=c80) (cx_ok _ _ _) rfl (fn:=Tryz.f80) (by kernel_rfl) (c:=_) rfl rfl rfl ?_
  refine Run.seq (Run.region (cx_ok _ _ _) (Reg.op rfl (Ope.asg rfl ?_)))
  refine Reg.nil (Run.seq (Run.region (cx_ok _ _ _) (Reg.op rfl (Ope.load rfl rfl ?_))))
  refine Reg.op rfl (Ope.load rfl rfl ?_)
  refine Reg.op rfl (Ope.cp rfl rfl hj hb1 (fin_panic rfl rfl))
theorem f80s (p:Int) (hv:jouB L=true) (hp:pairB p=true) (hs:setB (std L) p=true):Pan P0 80 [.fp (.sl tl (L.map Rpt.v)),.fp (I p)] (.ifc 25 (I 11)):=by
  have hj:=f77t tl htl L hL p hv hp
  have hsp:=jou_spec hv
  have hstd:=hsp.std
  have hb1:PV.bds 0 [.sl tl (L.map Rpt.v),I p]=true:=bds_cons (bd_sl (f:=Rpt.v) htl (fun _=>rfl) L) rfl
  have hb2:PV.bds 0 [.sl .no ((std L).map Rpt.v),I p]=true:=bds_cons (bd_sl (f:=Rpt.v) (tl:=.no) rfl (fun _=>rfl) _) rfl
  have hse:Fn P0 81 [.sl .no ((std L).map Rpt.v),I p] (B (setB (std L) p)):=f81 .no rfl (std L) (by omega) hsp.sok hsp.fl p
  rw [hs] at hse
  refine PFun.of (C:=c80) (cx_ok _ _ _) rfl (fn:=Tryz.f80) (by kernel_rfl) (c:=_) rfl rfl rfl ?_
  refine Run.seq (Run.region (cx_ok _ _ _) (Reg.op rfl (Ope.asg rfl ?_)))
  refine Reg.nil (Run.seq (Run.region (cx_ok _ _ _) (Reg.op rfl (Ope.load rfl rfl ?_))))
  refine Reg.op rfl (Ope.load rfl rfl ?_)
  refine Reg.op rfl (Ope.cf rfl rfl hj hb1 ?_)
  refine Reg.op rfl (Ope.asg rfl ?_)
  refine Reg.nil (Run.seq (Run.region (cx_ok _ _ _) (Reg.op rfl (Ope.mov rfl ?_))))
  refine Reg.op rfl (Ope.load rfl rfl ?_)
  refine Reg.op rfl (Ope.cf rfl rfl hse hb2 ?_)
  refine Reg.op rfl (Ope.not rfl ?_)
  refine Reg.op rfl (Ope.cp rfl rfl (f50f 11) rfl (fin_panic rfl rfl))
theorem f80n (p:Int) (hv:jouB L=true) (hp:pairB p=true) (hs:setB (std L) p=false) (ho:askO L p=none):Pan P0 80 [.fp (.sl tl (L.map Rpt.v)),.fp (I p)] (.ifc 25 (I 4)):=by
  have hj:=f77t tl htl L hL p hv hp
  have hsp:=jou_spec hv
  have hstd:=hsp.std
  have hb1:PV.bds 0 [.sl tl (L.map Rpt.v),I p]=true:=bds_cons (bd_sl (f:=Rpt.v) htl (fun _=>rfl) L) rfl
  have hb2:PV.bds 0 [.sl .no ((std L).map Rpt.v),I p]=true:=bds_cons (bd_sl (f:=Rpt.v) (tl:=.no) rfl (fun _=>rfl) _) rfl
  have hse:Fn P0 81 [.sl .no ((std L).map Rpt.v),I p] (B (setB (std L) p)):=f81 .no rfl (std L) (by omega) hsp.sok hsp.fl p
  rw [hs] at hse
  have hsl:=f82 .no rfl (std L) (by omega) hsp.sok (std_cd hsp.ok) hsp.fl p
  rw [show setO (std L) p (std L).length 0=none from ho] at hsl
  refine PFun.of (C:=c80) (cx_ok _ _ _) rfl (fn:=Tryz.f80) (by kernel_rfl) (c:=_) rfl rfl rfl ?_
  refine Run.seq (Run.region (cx_ok _ _ _) (Reg.op rfl (Ope.asg rfl ?_)))
  refine Reg.nil (Run.seq (Run.region (cx_ok _ _ _) (Reg.op rfl (Ope.load rfl rfl ?_))))
  refine Reg.op rfl (Ope.load rfl rfl ?_)
  refine Reg.op rfl (Ope.cf rfl rfl hj hb1 ?_)
  refine Reg.op rfl (Ope.asg rfl ?_)
  refine Reg.nil (Run.seq (Run.region (cx_ok _ _ _) (Reg.op rfl (Ope.mov rfl ?_))))
  refine Reg.op rfl (Ope.load rfl rfl ?_)
  refine Reg.op rfl (Ope.cf rfl rfl hse hb2 ?_)
  refine Reg.op rfl (Ope.not rfl ?_)
  refine Reg.op rfl (Ope.cf rfl rfl (f50t 11) rfl ?_)
  refine Reg.nil (Run.seq (Run.region (cx_ok _ _ _) (Reg.op rfl (Ope.mov rfl ?_))))
  refine Reg.op rfl (Ope.load rfl rfl ?_)
  refine Reg.op rfl (Ope.cf rfl rfl hsl hb2 ?_)
  refine Reg.op rfl (Ope.mov rfl ?_)
  refine Reg.op rfl (Ope.ext rfl rfl ?_)
  refine Reg.op rfl (Ope.ext rfl rfl ?_)
  refine Reg.op rfl (Ope.asg rfl ?_)
  refine Reg.op rfl (Ope.asg rfl ?_)
  refine Reg.nil (Run.seq (Run.region (cx_ok _ _ _) (Reg.op rfl (Ope.mov rfl ?_))))
  refine Reg.op rfl (Ope.cp rfl rfl (f50f 4) rfl (fin_panic rfl rfl))
theorem f80t (p:Int) (hv:jouB L=true) (hp:pairB p=true) (hs:setB (std L) p=false) (i:Nat) (ho:askO L p=some i):Fn P0 80 [.fp (.sl tl (L.map Rpt.v)),.fp (I p)] (I (atR (std L) i).id):=by
  have hj:=f77t tl htl L hL p hv hp
  have hsp:=jou_spec hv
  have hstd:=hsp.std
  have hb1:PV.bds 0 [.sl tl (L.map Rpt.v),I p]=true:=bds_cons (bd_sl (f:=Rpt.v) htl (fun _=>rfl) L) rfl
  have hb2:PV.bds 0 [.sl .no ((std L).map Rpt.v),I p]=true:=bds_cons (bd_sl (f:=Rpt.v) (tl:=.no) rfl (fun _=>rfl) _) rfl
  have hse:Fn P0 81 [.sl .no ((std L).map Rpt.v),I p] (B (setB (std L) p)):=f81 .no rfl (std L) (by omega) hsp.sok hsp.fl p
  rw [hs] at hse
  have hsl:=f82 .no rfl (std L) (by omega) hsp.sok (std_cd hsp.ok) hsp.fl p
  rw [show setO (std L) p (std L).length 0=some i from ho] at hsl
  refine PFun.of (C:=c80) (cx_ok _ _ _) rfl (fn:=Tryz.f80) (by kernel_rfl) (c:=_) rfl rfl rfl ?_
  refine Run.seq (Run.region (cx_ok _ _ _) (Reg.op rfl (Ope.asg rfl ?_)))
  refine Reg.nil (Run.seq (Run.region (cx_ok _ _ _) (Reg.op rfl (Ope.load rfl rfl ?_))))
  refine Reg.op rfl (Ope.load rfl rfl ?_)
  refine Reg.op rfl (Ope.cf rfl rfl hj hb1 ?_)
  refine Reg.op rfl (Ope.asg rfl ?_)
  refine Reg.nil (Run.seq (Run.region (cx_ok _ _ _) (Reg.op rfl (Ope.mov rfl ?_))))
  refine Reg.op rfl (Ope.load rfl rfl ?_)
  refine Reg.op rfl (Ope.cf rfl rfl hse hb2 ?_)
  refine Reg.op rfl (Ope.not rfl ?_)
  refine Reg.op rfl (Ope.cf rfl rfl (f50t 11) rfl ?_)
  refine Reg.nil (Run.seq (Run.region (cx_ok _ _ _) (Reg.op rfl (Ope.mov rfl ?_))))
  refine Reg.op rfl (Ope.load rfl rfl ?_)
  refine Reg.op rfl (Ope.cf rfl rfl hsl hb2 ?_)
  refine Reg.op rfl (Ope.mov rfl ?_)
  refine Reg.op rfl (Ope.ext rfl rfl ?_)
  refine Reg.op rfl (Ope.ext rfl rfl ?_)
  refine Reg.op rfl (Ope.asg rfl ?_)
  refine Reg.op rfl (Ope.asg rfl ?_)
  refine Reg.nil (Run.seq (Run.region (cx_ok _ _ _) (Reg.op rfl (Ope.mov rfl ?_))))
  refine Reg.op rfl (Ope.cf rfl rfl (f50t 4) rfl ?_)
  refine Reg.nil (Run.seq (Run.region (cx_ok _ _ _) (Reg.op rfl (Ope.mov rfl ?_))))
  refine Reg.op rfl (Ope.asg rfl ?_)
  exact Reg.nil (Run.ret (fin_ret (.tmp rfl .nil) rfl rfl))
theorem f27 (p : Int) : Fn P0 27 [.sl tl (L.map Rpt.v), I p] (.tup [I (if askE L p = 0 then askR L p else 0), I (askE L p)]) := by
  have hb0:PV.bd 0 (.sl tl (L.map Rpt.v))=true:=bd_sl (f:=Rpt.v) htl (fun _=>rfl) L
  have hb:PV.bds 0 [.fp (.sl tl (L.map Rpt.v)),.fp (I p)]=true:=by
    have h:=hb0
    cases tl<;>first | (cases htl;done) | (simp only [PV.bds,PV.bd] at h ⊢;simp [h])
  have ha : Fn P0 68 [.fn (.func 80) [] [.fp (.sl tl (L.map Rpt.v)), .fp (I p)]] (.tup [I (if askE L p = 0 then askR L p else 0), I (askE L p)]) := by
    unfold askE
    by_cases hv:jouB L=true
    · rw [if_pos hv]
      by_cases hp:pairB p=true
      · rw [if_pos hp]
        by_cases hs:setB (std L) p=true
        · rw [if_pos hs, if_neg (by decide)]
          exact f68er (f80s tl htl L hL p hv hp hs) hb
        · rw [if_neg hs]
          have hs':setB (std L) p=false:=by simpa using hs
          cases ho:askO L p with
          | none =>
            rw [show (if (none:Option Nat).isSome=true then (0:Int) else 4)=4 from rfl,if_neg (by decide)]
            exact f68er (f80n tl htl L hL p hv hp hs' ho) hb
          | some i =>
            rw [show (if (some i).isSome=true then (0:Int) else 4)=0 from rfl,if_pos rfl]
            unfold askR
            rw [ho]
            exact f68ok (f80t tl htl L hL p hv hp hs' i ho) hb
      · rw [if_neg hp, if_neg (by decide)]
        exact f68er (f80f tl htl L hL p 2 (f77r tl htl L hL p hv (by simpa using hp))) hb
    · rw [if_neg hv, if_neg (by decide)]
      exact f68er (f80f tl htl L hL p 1 (f77f tl htl L hL p (by simpa using hv))) hb
  have hbf:PV.bds 0 [.fn (.func 80) [] [.fp (.sl tl (L.map Rpt.v)),.fp (I p)]]=true:=bds_cons (by simp only [PV.bd,hb];rfl) rfl
  refine PFun.of (C:=c27) (cx_ok _ _ _) rfl (fn:=Tryz.f27) (by kernel_rfl) (c:=_) rfl rfl rfl ?_
  refine Run.seq (Run.region (cx_ok _ _ _) (Reg.op rfl (Ope.boxF rfl rfl ?_)))
  refine Reg.op rfl (Ope.boxF rfl rfl ?_)
  refine Reg.op rfl (Ope.asg rfl ?_)
  refine Reg.op rfl (Ope.asg rfl ?_)
  refine Reg.nil (Run.seq (Run.region (cx_ok _ _ _) (Reg.op rfl (Ope.mkf rfl rfl ?_))))
  refine Reg.op rfl (Ope.cf rfl rfl ha hbf ?_)
  refine Reg.op rfl (Ope.ext rfl rfl ?_)
  refine Reg.op rfl (Ope.ext rfl rfl ?_)
  refine Reg.op rfl (Ope.asg rfl ?_)
  refine Reg.op rfl (Ope.asg rfl ?_)
  exact Reg.nil (Run.ret (fin_ret (.tmp rfl (.tmp rfl .nil)) rfl rfl))
end
end Go.Pv
namespace Go.Pv
open Go.Proofs Go.Am
set_option maxRecDepth 10000
instance:Mka A0 29:=⟨by kernel_rfl⟩
def spStep (n : Nat) (S : List (Int × Int)) (k : Nat) : List (Int × Int) :=
  if n.testBit k=true then (match S.getLast? with
    | some e=>if e.2=(k:Int) - 1 then S.dropLast++[(e.1,(k:Int))] else S++[((k:Int),(k:Int))]
    | none=>[((k:Int),(k:Int))]) else S
def spU (n:Nat):Nat→List (Int×Int)
  | 0=>[]
  | k+1=>spStep n (spU n k) k
abbrev SpSt:=Option (List (Int×Int)×(Int×Int)×Nat×Nat×Option Nat×List PV)
def lsS:SpSt→PV
  | none=>.sl .ex []
  | some (T,e,j,c,ez,post)=>.ms j 0 (T.length+1) c ez
def lhS:SpSt→HL
  | none=>[]
  | some (T,e,j,c,ez,post)=>[(j,some (.cells (flat ((T++[e]).map eV)++post)))]
def valS:SpSt→List (Int×Int)
  | none=>[]
  | some (T,e,_)=>T++[e]
def SOk (k m:Nat):SpSt→Prop
  | none=>True
  | some (T,e,j,c,ez,post)=>T.length+1≤k∧j < m∧T.length+1≤c∧post.length=(c - (T.length+1)) * 2
theorem flatE_len (T:List (Int×Int)):(flat (T.map eV)).length=2 * T.length:=by
  induction T with
  | nil=>rfl
  | cons e T ih =>
    simp only [List.map_cons,flat,List.length_append,ih,List.length_cons]
    show 2+_=_
    omega
theorem cells_last (T:List (Int×Int)) (e:Int×Int) (post:List PV):flat ((T++[e]).map eV)++post=flat (T.map eV)++(I e.1::I e.2::post):=by
  rw [List.map_append,flat_append,List.append_assoc]
  rfl
theorem last_get (T:List (Int×Int)) (e:Int×Int) (post:List PV):(flat ((T++[e]).map eV)++post)[0+T.length * 2+1]?=some (I e.2):=by
  rw [cells_last,List.getElem?_append_right (by rw [flatE_len];omega),flatE_len,show 0+T.length * 2+1 - 2 * T.length=1 from by omega]
  rfl
theorem last_set (T:List (Int×Int)) (e:Int×Int) (x:Int) (post:List PV):(flat ((T++[e]).map eV)++post).set (0+T.length * 2+1) (I x)=flat ((T++[(e.1,x)]).map eV)++post:=by
  rw [cells_last,cells_last,List.set_append_right _ _ (by rw [flatE_len];omega),flatE_len,show 0+T.length * 2+1 - 2 * T.length=1 from by omega]
  rfl
theorem spStep_ne {n k:Nat} {S:List (Int×Int)} (h:S≠[]∨n.testBit k=true):spStep n S k≠[]:=by
  unfold spStep
  split
  · split
    · split<;>simp
    · simp
  · next hb =>
    rcases h with h | h
    · exact h
    · exact absurd h hb
theorem spU_up {n k:Nat} (h:spU n k≠[]):∀ d,spU n (k+d)≠[]
  | 0=>h
  | d+1=>spStep_ne (.inl (spU_up h d))
theorem spU_bits {n:Nat} (h:spU n 60=[]):∀ k,k < 60→n.testBit k=false:=fun k hk=>by
  cases hb:n.testBit k with
  | false=>rfl
  | true =>
    have h1:spU n (k+1)≠[]:=spStep_ne (.inr hb)
    have h2:=spU_up h1 (60 - (k+1))
    rw [show k+1+(60 - (k+1))=60 from by omega] at h2
    exact absurd h h2
theorem f64 (n : Nat) (hn : n < 2 ^ 62) : ∃ t3 : Tail, t3.isOwn = false ∧ Fn P0 64 [U n] (.sl t3 ((spU n 60).map eV)) := by
  have hla:=fun k (hk:k≤64)=>f105 n k hn hk
  have hsu:∀ k,spU n (k+1)=spStep n (spU n k) k:=fun k=>rfl
  by_cases hE:spU n 60=[]
  · refine ⟨.ex, rfl, ?_⟩
    have hbits:=spU_bits hE
    rw [hE]
    show Fn P0 64 [U n] (.sl .ex [])
    refine PFun.of (C:=c64) (cx_ok _ _ _) rfl (fn:=Tryz.f64) (by kernel_rfl) (c:=_) rfl rfl rfl ?_
    refine Run.seq (Run.region (cx_ok _ _ _) (Reg.op rfl (Ope.asg rfl ?_)))
    refine Reg.nil (Run.seq (Run.region (cx_ok _ _ _) (Reg.op rfl (Ope.asg rfl ?_))))
    refine Reg.nil (Run.seq (Run.seq (Run.region (cx_ok _ _ _) (Reg.op rfl (Ope.mov rfl ?_)))))
    refine Reg.nil (Run.block (Run.loop (α:=Nat) (fun k=>[(0,U n),(3,.sl .ex []),(6,I k)]) (fun _=>HE 0 []) (fun k=>k≤60) (fun k=>60 - k) 0 ⟨rfl,rfl,rfl,trivial⟩ rfl (Nat.zero_le _) (fun k hk=>?_)))
    refine Run.seq (Run.region (cx_ok _ _ _) (Reg.op rfl (Ope.lt rfl rfl ?_)))
    refine Reg.nil (Run.seq (Run.condX rfl (fun hc=>?_) fun hc=>?_))
    ·refine Run.skip (Run.seq (Run.block (Run.seq ?_)))
     have hk2:k < 60:=by omega
     have hbk:=hbits k hk2
     refine Run.region (cx_ok _ _ _) (Reg.op rfl (Ope.mov rfl ?_))
     refine Reg.op rfl (Ope.asg rfl ?_)
     refine Reg.nil (Run.seq (Run.region (cx_ok _ _ _) (Reg.op rfl (Ope.mov rfl ?_))))
     refine Reg.op rfl (Ope.len (m:=0) rfl rfl ?_)
     refine Reg.op rfl (Ope.sub rfl rfl (by omega) ?_)
     refine Reg.op rfl (Ope.asg rfl ?_)
     refine Reg.nil (Run.block (Run.seq (Run.region (cx_ok _ _ _) (Reg.op rfl (Ope.mov rfl ?_)))))
     refine Reg.op rfl (Ope.mov rfl ?_)
     refine Reg.op rfl (Ope.cf rfl rfl (hla k (by omega)) rfl ?_)
     rw [hbk]
     refine Reg.op rfl (Ope.asg rfl ?_)
     refine Reg.nil (Run.condX rfl (fun hc=>?_) fun hc=>?_)
     ·refine Run.skip (Run.bend (Run.bend (Run.region (cx_ok _ _ _) (Reg.op rfl (Ope.add rfl rfl (by omega) ?_)))))
      refine Reg.op rfl (Ope.mov rfl ?_)
      exact Reg.nil (Run.lend ⟨k+1,by show 60 - (k+1) < 60 - k;omega,by show k+1≤60;omega,⟨rfl,rfl,rfl,trivial⟩,rfl,rfl⟩)
     ·(cases hc;done)
    ·refine Run.exit (Jmp.code (Jmp.round (Jmp.here (Run.seq (Run.region (cx_ok _ _ _) (Reg.op rfl (Ope.mov rfl ?_)))))))
     refine Reg.op rfl (Ope.asg rfl ?_)
     exact Reg.nil (Run.ret (fin_ret (.tmp rfl .nil) rfl rfl))
  · refine ⟨.no, rfl, ?_⟩
    generalize hX:spU n 60=X at hE
    refine PFun.of (C:=c64) (cx_ok _ _ _) rfl (fn:=Tryz.f64) (by kernel_rfl) (c:=_) rfl rfl rfl ?_
    refine Run.seq (Run.region (cx_ok _ _ _) (Reg.op rfl (Ope.asg rfl ?_)))
    refine Reg.nil (Run.seq (Run.region (cx_ok _ _ _) (Reg.op rfl (Ope.asg rfl ?_))))
    refine Reg.nil (Run.seq (Run.seq (Run.region (cx_ok _ _ _) (Reg.op rfl (Ope.mov rfl ?_)))))
    refine Reg.nil (Run.block (Run.loop (α:=Nat×Nat×SpSt) (fun t=>[(0,U n),(3,lsS t.2.2),(6,I t.1)]) (fun t=>HE t.2.1 (lhS t.2.2)) (fun t=>t.1≤60∧SOk t.1 t.2.1 t.2.2∧spU n t.1=valS t.2.2) (fun t=>60 - t.1) (0,0,none) ⟨rfl,rfl,rfl,trivial⟩ rfl ⟨Nat.zero_le _,trivial,rfl⟩ (fun t ht=>?_)))
    obtain ⟨k,m,st⟩:=t
    obtain ⟨hk,hS,hv⟩:=ht
    simp only at hk hS hv
    (rcases st with _ | ⟨T,e,j,c,ez,post⟩<;>cases hbit:n.testBit k)
    ·refine Run.seq (Run.region (cx_ok _ _ _) (Reg.op rfl (Ope.lt rfl rfl ?_)))
     refine Reg.nil (Run.seq (Run.condX rfl (fun hc=>?_) fun hc=>?_))
     ·first
      |(exfalso;rcases Nat.lt_or_eq_of_le hk with hk9 | rfl;(omega);(rw [hX] at hv;exact hE hv))
      |refine Run.skip (Run.seq (Run.block (Run.seq ?_)))
       have hk2:k < 60:=by omega
       have hsk:=hsu k
       rw [hv] at hsk
       unfold spStep at hsk
       try have hT1:T.length+1≤k:=hS.1
       try have hT2:j < m:=hS.2.1
       rw [hbit] at hsk
       first
       | rw [if_neg (by decide)] at hsk
       | rw [if_pos rfl] at hsk
       try
         have hlast:(T++[e]).getLast?=some e:=by simp
         have hdl:(T++[e]).dropLast=T:=by simp
         have hvS:valS (some (T,e,j,c,ez,post))=T++[e]:=rfl
         rw [hvS,hlast,hdl] at hsk
       refine Run.region (cx_ok _ _ _) (Reg.op rfl (Ope.mov rfl ?_))
       refine Reg.op rfl (Ope.asg rfl ?_)
       refine Reg.nil (Run.seq (Run.region (cx_ok _ _ _) (Reg.op rfl (Ope.mov rfl ?_))))
       first
       | refine Reg.op rfl (Ope.len (m:=0) rfl rfl ?_)
       | refine Reg.op rfl (Ope.lenL rfl ?_)
       refine Reg.op rfl (Ope.sub rfl rfl (by omega) ?_)
       refine Reg.op rfl (Ope.asg rfl ?_)
       refine Reg.nil (Run.block (Run.seq (Run.region (cx_ok _ _ _) (Reg.op rfl (Ope.mov rfl ?_)))))
       refine Reg.op rfl (Ope.mov rfl ?_)
       refine Reg.op rfl (Ope.cf rfl rfl (hla k (by omega)) rfl ?_)
       rw [hbit]
       refine Reg.op rfl (Ope.asg rfl ?_)
       refine Reg.nil (Run.condX rfl (fun hc=>?_) fun hc=>?_)
       ·first
        |(cases hc;done)
        |refine Run.skip (Run.bend (Run.bend ?_))
         first
         | refine Run.wide (m:=m) (l':=[(j,some (.cells (flat ((T++[(e.1,(k:Int))]).map eV)++post)))]) (Nat.le_refl _) ⟨hget_hd,trivial⟩ ?_
         | refine Run.wide (m:=n') (l':=[(j',some (.cells (flat ((T++[e]).map eV++[eV ((k:Int),(k:Int))])++post')))]) (Nat.le_refl _) ⟨hget_hd,trivial⟩ ?_
         | skip
         refine Run.region (cx_ok _ _ _) (Reg.op rfl (Ope.add rfl rfl (by omega) ?_))
         refine Reg.op rfl (Ope.mov rfl ?_)
         refine Reg.nil ?_
         first
         | exact Run.lend ⟨(k+1,m,none),by show 60 - (k+1) < 60 - k;omega,⟨by show k+1≤60;omega,trivial,hsk⟩,⟨rfl,rfl,rfl,trivial⟩,rfl,rfl⟩
         | exact Run.lend ⟨(k+1,m+1,some ([],((k:Int),(k:Int)),m,c',ez',post')),by show 60 - (k+1) < 60 - k;omega,⟨by show k+1≤60;omega,⟨by show 0+1≤k+1;omega,Nat.lt_succ_self _,hc',hp'⟩,hsk⟩,⟨rfl,rfl,rfl,trivial⟩,rfl,rfl⟩
         | exact Run.lend ⟨(k+1,m,some (T,e,j,c,ez,post)),by show 60 - (k+1) < 60 - k;omega,⟨by show k+1≤60;omega,⟨by show T.length+1≤k+1;omega,hS.2⟩,hsk⟩,⟨rfl,rfl,rfl,trivial⟩,rfl,rfl⟩
         | (have hsk2 : spU n (k + 1) = if e.2 = (k : Int) - 1 then T ++ [(e.1, (k : Int))] else T ++ [e] ++ [((k : Int), (k : Int))] := hsk
            rw [if_pos hc] at hsk2
            exact Run.lend ⟨(k+1,m,some (T,(e.1,(k:Int)),j,c,ez,post)),by show 60 - (k+1) < 60 - k;omega,⟨by show k+1≤60;omega,⟨by show T.length+1≤k+1;omega,hS.2⟩,hsk2⟩,⟨rfl,rfl,rfl,trivial⟩,rfl,rfl⟩)
         | (have hsk2 : spU n (k + 1) = if e.2 = (k : Int) - 1 then T ++ [(e.1, (k : Int))] else T ++ [e] ++ [((k : Int), (k : Int))] := hsk
            rw [if_neg hc] at hsk2
            have hjn:j < m:=hS.2.1
            have hn9:m≤n':=hn'
            have hj9:j'=j∨(m≤j'∧j' < n'):=hj'
            simp only [List.length_map,List.length_append,List.length_singleton] at hc' hp'
            exact Run.lend ⟨(k+1,n',some (T++[e],((k:Int),(k:Int)),j',c',ez',post')),by show 60 - (k+1) < 60 - k;omega,⟨by show k+1≤60;omega,⟨by show (T++[e]).length+1≤k+1;simp only [List.length_append,List.length_singleton];omega,by show j' < n';omega,by show (T++[e]).length+1≤c';simp only [List.length_append,List.length_singleton];omega,by show post'.length=(c' - ((T++[e]).length+1)) * 2;simp only [List.length_append,List.length_singleton];exact hp'⟩,hsk2⟩,⟨rfl,congrArg (fun z=>some (PV.ms j' 0 z c' ez')) (by simp),rfl,trivial⟩,by
             show HE n' _=HE n' [(j',some (PBlk.cells (flat ((T++[e]++[((k:Int),(k:Int))]).map eV)++post')))]
             rw [List.map_append (l₁:=T++[e])];rfl,rfl⟩)
       ·first
        |(cases hc;done)
        |refine Run.seq (Run.region (cx_ok _ _ _) (Reg.op rfl (Ope.mov rfl ?_)))
         refine Reg.op rfl (Ope.ge rfl rfl ?_)
         refine Reg.op rfl (Ope.mov rfl ?_)
         refine Reg.splitX rfl rfl (fun hg=>?_) fun hg=>?_
         ·first
          |first
| (exfalso;omega)
| (exfalso; simp at hg; done)
          |refine Reg.on rfl rfl rfl (Ope.mov rfl ?_)
           refine Reg.on rfl rfl rfl (Ope.mov rfl ?_)
           refine Reg.on rfl rfl rfl (Ope.idxL (m:=T.length) rfl rfl (by show natK (((T.length+1:Nat):Int) - 1)=_;exact natK_pred T.length) (by omega) ?_)
           refine Reg.on rfl rfl rfl (Ope.fld rfl rfl ?_)
           refine Reg.on rfl rfl rfl (Ope.loadL rfl hget_hd (last_get T e post) ?_)
           refine Reg.on rfl rfl rfl (Ope.mov rfl ?_)
           refine Reg.on rfl rfl rfl (Ope.sub rfl rfl (by omega) ?_)
           refine Reg.on rfl rfl rfl (Ope.eq rfl rfl ?_)
           refine Reg.op rfl (Ope.pickT rfl rfl ?_)
           refine Reg.op rfl (Ope.asg rfl ?_)
           refine Reg.nil (Run.condX rfl (fun hc=>?_) fun hc=>?_)
           ·refine Run.region (cx_ok _ _ _) (Reg.op rfl (Ope.mov rfl ?_))
            refine Reg.op rfl (Ope.mov rfl ?_)
            refine Reg.op rfl (Ope.mov rfl ?_)
            refine Reg.op rfl (Ope.idxL (m:=T.length) rfl rfl (by show natK (((T.length+1:Nat):Int) - 1)=_;exact natK_pred T.length) (by omega) ?_)
            refine Reg.op rfl (Ope.fld rfl rfl ?_)
            refine Reg.op0 (Ope.storeL rfl rfl hget_hd rfl rfl (by rw [List.length_append,flatE_len,List.length_append];show 0+T.length * 2+1 < _;simp only [List.length_singleton];omega) ?_)
            rw [last_set]
            refine Reg.nil (Run.bend (Run.bend ?_))
            first
            | refine Run.wide (m:=m) (l':=[(j,some (.cells (flat ((T++[(e.1,(k:Int))]).map eV)++post)))]) (Nat.le_refl _) ⟨hget_hd,trivial⟩ ?_
            | refine Run.wide (m:=n') (l':=[(j',some (.cells (flat ((T++[e]).map eV++[eV ((k:Int),(k:Int))])++post')))]) (Nat.le_refl _) ⟨hget_hd,trivial⟩ ?_
            | skip
            refine Run.region (cx_ok _ _ _) (Reg.op rfl (Ope.add rfl rfl (by omega) ?_))
            refine Reg.op rfl (Ope.mov rfl ?_)
            refine Reg.nil ?_
            first
            | exact Run.lend ⟨(k+1,m,none),by show 60 - (k+1) < 60 - k;omega,⟨by show k+1≤60;omega,trivial,hsk⟩,⟨rfl,rfl,rfl,trivial⟩,rfl,rfl⟩
            | exact Run.lend ⟨(k+1,m+1,some ([],((k:Int),(k:Int)),m,c',ez',post')),by show 60 - (k+1) < 60 - k;omega,⟨by show k+1≤60;omega,⟨by show 0+1≤k+1;omega,Nat.lt_succ_self _,hc',hp'⟩,hsk⟩,⟨rfl,rfl,rfl,trivial⟩,rfl,rfl⟩
            | exact Run.lend ⟨(k+1,m,some (T,e,j,c,ez,post)),by show 60 - (k+1) < 60 - k;omega,⟨by show k+1≤60;omega,⟨by show T.length+1≤k+1;omega,hS.2⟩,hsk⟩,⟨rfl,rfl,rfl,trivial⟩,rfl,rfl⟩
            | (have hsk2 : spU n (k + 1) = if e.2 = (k : Int) - 1 then T ++ [(e.1, (k : Int))] else T ++ [e] ++ [((k : Int), (k : Int))] := hsk
               rw [if_pos hc] at hsk2
               exact Run.lend ⟨(k+1,m,some (T,(e.1,(k:Int)),j,c,ez,post)),by show 60 - (k+1) < 60 - k;omega,⟨by show k+1≤60;omega,⟨by show T.length+1≤k+1;omega,hS.2⟩,hsk2⟩,⟨rfl,rfl,rfl,trivial⟩,rfl,rfl⟩)
            | (have hsk2 : spU n (k + 1) = if e.2 = (k : Int) - 1 then T ++ [(e.1, (k : Int))] else T ++ [e] ++ [((k : Int), (k : Int))] := hsk
               rw [if_neg hc] at hsk2
               have hjn:j < m:=hS.2.1
               have hn9:m≤n':=hn'
               have hj9:j'=j∨(m≤j'∧j' < n'):=hj'
               simp only [List.length_map,List.length_append,List.length_singleton] at hc' hp'
               exact Run.lend ⟨(k+1,n',some (T++[e],((k:Int),(k:Int)),j',c',ez',post')),by show 60 - (k+1) < 60 - k;omega,⟨by show k+1≤60;omega,⟨by show (T++[e]).length+1≤k+1;simp only [List.length_append,List.length_singleton];omega,by show j' < n';omega,by show (T++[e]).length+1≤c';simp only [List.length_append,List.length_singleton];omega,by show post'.length=(c' - ((T++[e]).length+1)) * 2;simp only [List.length_append,List.length_singleton];exact hp'⟩,hsk2⟩,⟨rfl,congrArg (fun z=>some (PV.ms j' 0 z c' ez')) (by simp),rfl,trivial⟩,by
                show HE n' _=HE n' [(j',some (PBlk.cells (flat ((T++[e]++[((k:Int),(k:Int))]).map eV)++post')))]
                rw [List.map_append (l₁:=T++[e])];rfl,rfl⟩)
           ·refine Run.region (cx_ok _ _ _) (Reg.op rfl (Ope.mov rfl ?_))
            refine Reg.op rfl (Ope.mov rfl ?_)
            refine Reg.op rfl (Ope.mov rfl ?_)
            refine Reg.op rfl (Ope.bld rfl rfl ?_)
            refine Reg.op rfl (Ope.bsl rfl rfl rfl rfl ?_)
            first
            | refine Reg.op rfl (Ope.apLp (ws:=[eV ((k:Int),(k:Int))]) rfl rfl (by simp) (by simp) (by simp) (by decide) (by simp) (by intro v hv;simp only [List.mem_singleton] at hv;subst hv;exact ⟨rfl,rfl⟩) (fun c' post' ez' hc' hp'=>?_))
            | refine Reg.op rfl (Ope.apLw (vs:=(T++[e]).map eV) (ws:=[eV ((k:Int),(k:Int))]) (post:=post) rfl rfl hget_hd (by simp) hS.2.2.1 hS.2.2.2 (by simp only [List.length_map,List.length_append,List.length_singleton];omega) (by simp only [List.length_map,List.length_append,List.length_singleton];omega) (by intro v hv;obtain ⟨_,_,rfl⟩:=List.mem_map.1 hv;rfl) (by intro v hv;simp only [List.mem_singleton] at hv;subst hv;exact ⟨rfl,rfl⟩) (fun j' n' c' ez' post' hn' hj' hc' hp'=>?_))
            refine Reg.op rfl (Ope.asg rfl ?_)
            refine Reg.nil (Run.bend (Run.bend ?_))
            first
            | refine Run.wide (m:=m) (l':=[(j,some (.cells (flat ((T++[(e.1,(k:Int))]).map eV)++post)))]) (Nat.le_refl _) ⟨hget_hd,trivial⟩ ?_
            | refine Run.wide (m:=n') (l':=[(j',some (.cells (flat ((T++[e]).map eV++[eV ((k:Int),(k:Int))])++post')))]) (Nat.le_refl _) ⟨hget_hd,trivial⟩ ?_
            | skip
            refine Run.region (cx_ok _ _ _) (Reg.op rfl (Ope.add rfl rfl (by omega) ?_))
            refine Reg.op rfl (Ope.mov rfl ?_)
            refine Reg.nil ?_
            first
            | exact Run.lend ⟨(k+1,m,none),by show 60 - (k+1) < 60 - k;omega,⟨by show k+1≤60;omega,trivial,hsk⟩,⟨rfl,rfl,rfl,trivial⟩,rfl,rfl⟩
            | exact Run.lend ⟨(k+1,m+1,some ([],((k:Int),(k:Int)),m,c',ez',post')),by show 60 - (k+1) < 60 - k;omega,⟨by show k+1≤60;omega,⟨by show 0+1≤k+1;omega,Nat.lt_succ_self _,hc',hp'⟩,hsk⟩,⟨rfl,rfl,rfl,trivial⟩,rfl,rfl⟩
            | exact Run.lend ⟨(k+1,m,some (T,e,j,c,ez,post)),by show 60 - (k+1) < 60 - k;omega,⟨by show k+1≤60;omega,⟨by show T.length+1≤k+1;omega,hS.2⟩,hsk⟩,⟨rfl,rfl,rfl,trivial⟩,rfl,rfl⟩
            | (have hsk2 : spU n (k + 1) = if e.2 = (k : Int) - 1 then T ++ [(e.1, (k : Int))] else T ++ [e] ++ [((k : Int), (k : Int))] := hsk
               rw [if_pos hc] at hsk2
               exact Run.lend ⟨(k+1,m,some (T,(e.1,(k:Int)),j,c,ez,post)),by show 60 - (k+1) < 60 - k;omega,⟨by show k+1≤60;omega,⟨by show T.length+1≤k+1;omega,hS.2⟩,hsk2⟩,⟨rfl,rfl,rfl,trivial⟩,rfl,rfl⟩)
            | (have hsk2 : spU n (k + 1) = if e.2 = (k : Int) - 1 then T ++ [(e.1, (k : Int))] else T ++ [e] ++ [((k : Int), (k : Int))] := hsk
               rw [if_neg hc] at hsk2
               have hjn:j < m:=hS.2.1
               have hn9:m≤n':=hn'
               have hj9:j'=j∨(m≤j'∧j' < n'):=hj'
               simp only [List.length_map,List.length_append,List.length_singleton] at hc' hp'
               exact Run.lend ⟨(k+1,n',some (T++[e],((k:Int),(k:Int)),j',c',ez',post')),by show 60 - (k+1) < 60 - k;omega,⟨by show k+1≤60;omega,⟨by show (T++[e]).length+1≤k+1;simp only [List.length_append,List.length_singleton];omega,by show j' < n';omega,by show (T++[e]).length+1≤c';simp only [List.length_append,List.length_singleton];omega,by show post'.length=(c' - ((T++[e]).length+1)) * 2;simp only [List.length_append,List.length_singleton];exact hp'⟩,hsk2⟩,⟨rfl,congrArg (fun z=>some (PV.ms j' 0 z c' ez')) (by simp),rfl,trivial⟩,by
                show HE n' _=HE n' [(j',some (PBlk.cells (flat ((T++[e]++[((k:Int),(k:Int))]).map eV)++post')))]
                rw [List.map_append (l₁:=T++[e])];rfl,rfl⟩)
         ·first
          |first
| (exfalso;omega)
| (exfalso; simp at hg; done)
          |refine Reg.off rfl rfl rfl (Reg.off rfl rfl rfl (Reg.off rfl rfl rfl (Reg.off rfl rfl rfl (Reg.off rfl rfl rfl (Reg.off rfl rfl rfl (Reg.off rfl rfl rfl (Reg.off rfl rfl rfl (Reg.op rfl (Ope.pickF rfl rfl ?_)))))))))
           refine Reg.op rfl (Ope.asg rfl ?_)
           refine Reg.nil (Run.condF rfl (Run.region (cx_ok _ _ _) (Reg.op rfl (Ope.mov rfl ?_))))
           refine Reg.op rfl (Ope.mov rfl ?_)
           refine Reg.op rfl (Ope.mov rfl ?_)
           refine Reg.op rfl (Ope.bld rfl rfl ?_)
           refine Reg.op rfl (Ope.bsl rfl rfl rfl rfl ?_)
           first
           | refine Reg.op rfl (Ope.apLp (ws:=[eV ((k:Int),(k:Int))]) rfl rfl (by simp) (by simp) (by simp) (by decide) (by simp) (by intro v hv;simp only [List.mem_singleton] at hv;subst hv;exact ⟨rfl,rfl⟩) (fun c' post' ez' hc' hp'=>?_))
           | refine Reg.op rfl (Ope.apLw (vs:=(T++[e]).map eV) (ws:=[eV ((k:Int),(k:Int))]) (post:=post) rfl rfl hget_hd (by simp) hS.2.2.1 hS.2.2.2 (by simp only [List.length_map,List.length_append,List.length_singleton];omega) (by simp only [List.length_map,List.length_append,List.length_singleton];omega) (by intro v hv;obtain ⟨_,_,rfl⟩:=List.mem_map.1 hv;rfl) (by intro v hv;simp only [List.mem_singleton] at hv;subst hv;exact ⟨rfl,rfl⟩) (fun j' n' c' ez' post' hn' hj' hc' hp'=>?_))
           refine Reg.op rfl (Ope.asg rfl ?_)
           refine Reg.nil (Run.bend (Run.bend ?_))
           first
           | refine Run.wide (m:=m) (l':=[(j,some (.cells (flat ((T++[(e.1,(k:Int))]).map eV)++post)))]) (Nat.le_refl _) ⟨hget_hd,trivial⟩ ?_
           | refine Run.wide (m:=n') (l':=[(j',some (.cells (flat ((T++[e]).map eV++[eV ((k:Int),(k:Int))])++post')))]) (Nat.le_refl _) ⟨hget_hd,trivial⟩ ?_
           | skip
           refine Run.region (cx_ok _ _ _) (Reg.op rfl (Ope.add rfl rfl (by omega) ?_))
           refine Reg.op rfl (Ope.mov rfl ?_)
           refine Reg.nil ?_
           first
           | exact Run.lend ⟨(k+1,m,none),by show 60 - (k+1) < 60 - k;omega,⟨by show k+1≤60;omega,trivial,hsk⟩,⟨rfl,rfl,rfl,trivial⟩,rfl,rfl⟩
           | exact Run.lend ⟨(k+1,m+1,some ([],((k:Int),(k:Int)),m,c',ez',post')),by show 60 - (k+1) < 60 - k;omega,⟨by show k+1≤60;omega,⟨by show 0+1≤k+1;omega,Nat.lt_succ_self _,hc',hp'⟩,hsk⟩,⟨rfl,rfl,rfl,trivial⟩,rfl,rfl⟩
           | exact Run.lend ⟨(k+1,m,some (T,e,j,c,ez,post)),by show 60 - (k+1) < 60 - k;omega,⟨by show k+1≤60;omega,⟨by show T.length+1≤k+1;omega,hS.2⟩,hsk⟩,⟨rfl,rfl,rfl,trivial⟩,rfl,rfl⟩
           | (have hsk2 : spU n (k + 1) = if e.2 = (k : Int) - 1 then T ++ [(e.1, (k : Int))] else T ++ [e] ++ [((k : Int), (k : Int))] := hsk
              rw [if_pos hc] at hsk2
              exact Run.lend ⟨(k+1,m,some (T,(e.1,(k:Int)),j,c,ez,post)),by show 60 - (k+1) < 60 - k;omega,⟨by show k+1≤60;omega,⟨by show T.length+1≤k+1;omega,hS.2⟩,hsk2⟩,⟨rfl,rfl,rfl,trivial⟩,rfl,rfl⟩)
           | (have hsk2 : spU n (k + 1) = if e.2 = (k : Int) - 1 then T ++ [(e.1, (k : Int))] else T ++ [e] ++ [((k : Int), (k : Int))] := hsk
              rw [if_neg hc] at hsk2
              have hjn:j < m:=hS.2.1
              have hn9:m≤n':=hn'
              have hj9:j'=j∨(m≤j'∧j' < n'):=hj'
              simp only [List.length_map,List.length_append,List.length_singleton] at hc' hp'
              exact Run.lend ⟨(k+1,n',some (T++[e],((k:Int),(k:Int)),j',c',ez',post')),by show 60 - (k+1) < 60 - k;omega,⟨by show k+1≤60;omega,⟨by show (T++[e]).length+1≤k+1;simp only [List.length_append,List.length_singleton];omega,by show j' < n';omega,by show (T++[e]).length+1≤c';simp only [List.length_append,List.length_singleton];omega,by show post'.length=(c' - ((T++[e]).length+1)) * 2;simp only [List.length_append,List.length_singleton];exact hp'⟩,hsk2⟩,⟨rfl,congrArg (fun z=>some (PV.ms j' 0 z c' ez')) (by simp),rfl,trivial⟩,by
               show HE n' _=HE n' [(j',some (PBlk.cells (flat ((T++[e]++[((k:Int),(k:Int))]).map eV)++post')))]
               rw [List.map_append (l₁:=T++[e])];rfl,rfl⟩)
     ·first
      |(exfalso;rcases Nat.lt_or_eq_of_le hk with hk9 | rfl;(omega);(rw [hX] at hv;exact hE hv))
      |refine Run.exit (Jmp.code (Jmp.round (Jmp.here (Run.seq ?_))))
       obtain rfl:k=60:=by omega
       have hXv:X=T++[e]:=by rw [← hX,hv];rfl
       refine Run.region (cx_ok _ _ _) (Reg.op rfl (Ope.mov rfl ?_))
       refine Reg.op rfl (Ope.asg rfl ?_)
       refine Reg.nil (Run.frzS (d:=2) (vs:=X.map eV) (post:=post) (sz:=2) rfl (by rw [hXv];exact hget_hd) (by rw [hXv];simp) hS.2.2.1 (by intro v hv;obtain ⟨_,_,rfl⟩:=List.mem_map.1 hv;rfl) ?_)
       exact Run.ret (fin_ret (.tmp rfl .nil) (bd_sl (f:=eV) (tl:=.no) rfl (fun _=>rfl) _) rfl)
    ·refine Run.seq (Run.region (cx_ok _ _ _) (Reg.op rfl (Ope.lt rfl rfl ?_)))
     refine Reg.nil (Run.seq (Run.condX rfl (fun hc=>?_) fun hc=>?_))
     ·first
      |(exfalso;rcases Nat.lt_or_eq_of_le hk with hk9 | rfl;(omega);(rw [hX] at hv;exact hE hv))
      |refine Run.skip (Run.seq (Run.block (Run.seq ?_)))
       have hk2:k < 60:=by omega
       have hsk:=hsu k
       rw [hv] at hsk
       unfold spStep at hsk
       try have hT1:T.length+1≤k:=hS.1
       try have hT2:j < m:=hS.2.1
       rw [hbit] at hsk
       first
       | rw [if_neg (by decide)] at hsk
       | rw [if_pos rfl] at hsk
       try
         have hlast:(T++[e]).getLast?=some e:=by simp
         have hdl:(T++[e]).dropLast=T:=by simp
         have hvS:valS (some (T,e,j,c,ez,post))=T++[e]:=rfl
         rw [hvS,hlast,hdl] at hsk
       refine Run.region (cx_ok _ _ _) (Reg.op rfl (Ope.mov rfl ?_))
       refine Reg.op rfl (Ope.asg rfl ?_)
       refine Reg.nil (Run.seq (Run.region (cx_ok _ _ _) (Reg.op rfl (Ope.mov rfl ?_))))
       first
       | refine Reg.op rfl (Ope.len (m:=0) rfl rfl ?_)
       | refine Reg.op rfl (Ope.lenL rfl ?_)
       refine Reg.op rfl (Ope.sub rfl rfl (by omega) ?_)
       refine Reg.op rfl (Ope.asg rfl ?_)
       refine Reg.nil (Run.block (Run.seq (Run.region (cx_ok _ _ _) (Reg.op rfl (Ope.mov rfl ?_)))))
       refine Reg.op rfl (Ope.mov rfl ?_)
       refine Reg.op rfl (Ope.cf rfl rfl (hla k (by omega)) rfl ?_)
       rw [hbit]
       refine Reg.op rfl (Ope.asg rfl ?_)
       refine Reg.nil (Run.condX rfl (fun hc=>?_) fun hc=>?_)
       ·first
        |(cases hc;done)
        |refine Run.skip (Run.bend (Run.bend ?_))
         first
         | refine Run.wide (m:=m) (l':=[(j,some (.cells (flat ((T++[(e.1,(k:Int))]).map eV)++post)))]) (Nat.le_refl _) ⟨hget_hd,trivial⟩ ?_
         | refine Run.wide (m:=n') (l':=[(j',some (.cells (flat ((T++[e]).map eV++[eV ((k:Int),(k:Int))])++post')))]) (Nat.le_refl _) ⟨hget_hd,trivial⟩ ?_
         | skip
         refine Run.region (cx_ok _ _ _) (Reg.op rfl (Ope.add rfl rfl (by omega) ?_))
         refine Reg.op rfl (Ope.mov rfl ?_)
         refine Reg.nil ?_
         first
         | exact Run.lend ⟨(k+1,m,none),by show 60 - (k+1) < 60 - k;omega,⟨by show k+1≤60;omega,trivial,hsk⟩,⟨rfl,rfl,rfl,trivial⟩,rfl,rfl⟩
         | exact Run.lend ⟨(k+1,m+1,some ([],((k:Int),(k:Int)),m,c',ez',post')),by show 60 - (k+1) < 60 - k;omega,⟨by show k+1≤60;omega,⟨by show 0+1≤k+1;omega,Nat.lt_succ_self _,hc',hp'⟩,hsk⟩,⟨rfl,rfl,rfl,trivial⟩,rfl,rfl⟩
         | exact Run.lend ⟨(k+1,m,some (T,e,j,c,ez,post)),by show 60 - (k+1) < 60 - k;omega,⟨by show k+1≤60;omega,⟨by show T.length+1≤k+1;omega,hS.2⟩,hsk⟩,⟨rfl,rfl,rfl,trivial⟩,rfl,rfl⟩
         | (have hsk2 : spU n (k + 1) = if e.2 = (k : Int) - 1 then T ++ [(e.1, (k : Int))] else T ++ [e] ++ [((k : Int), (k : Int))] := hsk
            rw [if_pos hc] at hsk2
            exact Run.lend ⟨(k+1,m,some (T,(e.1,(k:Int)),j,c,ez,post)),by show 60 - (k+1) < 60 - k;omega,⟨by show k+1≤60;omega,⟨by show T.length+1≤k+1;omega,hS.2⟩,hsk2⟩,⟨rfl,rfl,rfl,trivial⟩,rfl,rfl⟩)
         | (have hsk2 : spU n (k + 1) = if e.2 = (k : Int) - 1 then T ++ [(e.1, (k : Int))] else T ++ [e] ++ [((k : Int), (k : Int))] := hsk
            rw [if_neg hc] at hsk2
            have hjn:j < m:=hS.2.1
            have hn9:m≤n':=hn'
            have hj9:j'=j∨(m≤j'∧j' < n'):=hj'
            simp only [List.length_map,List.length_append,List.length_singleton] at hc' hp'
            exact Run.lend ⟨(k+1,n',some (T++[e],((k:Int),(k:Int)),j',c',ez',post')),by show 60 - (k+1) < 60 - k;omega,⟨by show k+1≤60;omega,⟨by show (T++[e]).length+1≤k+1;simp only [List.length_append,List.length_singleton];omega,by show j' < n';omega,by show (T++[e]).length+1≤c';simp only [List.length_append,List.length_singleton];omega,by show post'.length=(c' - ((T++[e]).length+1)) * 2;simp only [List.length_append,List.length_singleton];exact hp'⟩,hsk2⟩,⟨rfl,congrArg (fun z=>some (PV.ms j' 0 z c' ez')) (by simp),rfl,trivial⟩,by
             show HE n' _=HE n' [(j',some (PBlk.cells (flat ((T++[e]++[((k:Int),(k:Int))]).map eV)++post')))]
             rw [List.map_append (l₁:=T++[e])];rfl,rfl⟩)
       ·first
        |(cases hc;done)
        |refine Run.seq (Run.region (cx_ok _ _ _) (Reg.op rfl (Ope.mov rfl ?_)))
         refine Reg.op rfl (Ope.ge rfl rfl ?_)
         refine Reg.op rfl (Ope.mov rfl ?_)
         refine Reg.splitX rfl rfl (fun hg=>?_) fun hg=>?_
         ·first
          |first
| (exfalso;omega)
| (exfalso; simp at hg; done)
          |refine Reg.on rfl rfl rfl (Ope.mov rfl ?_)
           refine Reg.on rfl rfl rfl (Ope.mov rfl ?_)
           refine Reg.on rfl rfl rfl (Ope.idxL (m:=T.length) rfl rfl (by show natK (((T.length+1:Nat):Int) - 1)=_;exact natK_pred T.length) (by omega) ?_)
           refine Reg.on rfl rfl rfl (Ope.fld rfl rfl ?_)
           refine Reg.on rfl rfl rfl (Ope.loadL rfl hget_hd (last_get T e post) ?_)
           refine Reg.on rfl rfl rfl (Ope.mov rfl ?_)
           refine Reg.on rfl rfl rfl (Ope.sub rfl rfl (by omega) ?_)
           refine Reg.on rfl rfl rfl (Ope.eq rfl rfl ?_)
           refine Reg.op rfl (Ope.pickT rfl rfl ?_)
           refine Reg.op rfl (Ope.asg rfl ?_)
           refine Reg.nil (Run.condX rfl (fun hc=>?_) fun hc=>?_)
           ·refine Run.region (cx_ok _ _ _) (Reg.op rfl (Ope.mov rfl ?_))
            refine Reg.op rfl (Ope.mov rfl ?_)
            refine Reg.op rfl (Ope.mov rfl ?_)
            refine Reg.op rfl (Ope.idxL (m:=T.length) rfl rfl (by show natK (((T.length+1:Nat):Int) - 1)=_;exact natK_pred T.length) (by omega) ?_)
            refine Reg.op rfl (Ope.fld rfl rfl ?_)
            refine Reg.op0 (Ope.storeL rfl rfl hget_hd rfl rfl (by rw [List.length_append,flatE_len,List.length_append];show 0+T.length * 2+1 < _;simp only [List.length_singleton];omega) ?_)
            rw [last_set]
            refine Reg.nil (Run.bend (Run.bend ?_))
            first
            | refine Run.wide (m:=m) (l':=[(j,some (.cells (flat ((T++[(e.1,(k:Int))]).map eV)++post)))]) (Nat.le_refl _) ⟨hget_hd,trivial⟩ ?_
            | refine Run.wide (m:=n') (l':=[(j',some (.cells (flat ((T++[e]).map eV++[eV ((k:Int),(k:Int))])++post')))]) (Nat.le_refl _) ⟨hget_hd,trivial⟩ ?_
            | skip
            refine Run.region (cx_ok _ _ _) (Reg.op rfl (Ope.add rfl rfl (by omega) ?_))
            refine Reg.op rfl (Ope.mov rfl ?_)
            refine Reg.nil ?_
            first
            | exact Run.lend ⟨(k+1,m,none),by show 60 - (k+1) < 60 - k;omega,⟨by show k+1≤60;omega,trivial,hsk⟩,⟨rfl,rfl,rfl,trivial⟩,rfl,rfl⟩
            | exact Run.lend ⟨(k+1,m+1,some ([],((k:Int),(k:Int)),m,c',ez',post')),by show 60 - (k+1) < 60 - k;omega,⟨by show k+1≤60;omega,⟨by show 0+1≤k+1;omega,Nat.lt_succ_self _,hc',hp'⟩,hsk⟩,⟨rfl,rfl,rfl,trivial⟩,rfl,rfl⟩
            | exact Run.lend ⟨(k+1,m,some (T,e,j,c,ez,post)),by show 60 - (k+1) < 60 - k;omega,⟨by show k+1≤60;omega,⟨by show T.length+1≤k+1;omega,hS.2⟩,hsk⟩,⟨rfl,rfl,rfl,trivial⟩,rfl,rfl⟩
            | (have hsk2 : spU n (k + 1) = if e.2 = (k : Int) - 1 then T ++ [(e.1, (k : Int))] else T ++ [e] ++ [((k : Int), (k : Int))] := hsk
               rw [if_pos hc] at hsk2
               exact Run.lend ⟨(k+1,m,some (T,(e.1,(k:Int)),j,c,ez,post)),by show 60 - (k+1) < 60 - k;omega,⟨by show k+1≤60;omega,⟨by show T.length+1≤k+1;omega,hS.2⟩,hsk2⟩,⟨rfl,rfl,rfl,trivial⟩,rfl,rfl⟩)
            | (have hsk2 : spU n (k + 1) = if e.2 = (k : Int) - 1 then T ++ [(e.1, (k : Int))] else T ++ [e] ++ [((k : Int), (k : Int))] := hsk
               rw [if_neg hc] at hsk2
               have hjn:j < m:=hS.2.1
               have hn9:m≤n':=hn'
               have hj9:j'=j∨(m≤j'∧j' < n'):=hj'
               simp only [List.length_map,List.length_append,List.length_singleton] at hc' hp'
               exact Run.lend ⟨(k+1,n',some (T++[e],((k:Int),(k:Int)),j',c',ez',post')),by show 60 - (k+1) < 60 - k;omega,⟨by show k+1≤60;omega,⟨by show (T++[e]).length+1≤k+1;simp only [List.length_append,List.length_singleton];omega,by show j' < n';omega,by show (T++[e]).length+1≤c';simp only [List.length_append,List.length_singleton];omega,by show post'.length=(c' - ((T++[e]).length+1)) * 2;simp only [List.length_append,List.length_singleton];exact hp'⟩,hsk2⟩,⟨rfl,congrArg (fun z=>some (PV.ms j' 0 z c' ez')) (by simp),rfl,trivial⟩,by
                show HE n' _=HE n' [(j',some (PBlk.cells (flat ((T++[e]++[((k:Int),(k:Int))]).map eV)++post')))]
                rw [List.map_append (l₁:=T++[e])];rfl,rfl⟩)
           ·refine Run.region (cx_ok _ _ _) (Reg.op rfl (Ope.mov rfl ?_))
            refine Reg.op rfl (Ope.mov rfl ?_)
            refine Reg.op rfl (Ope.mov rfl ?_)
            refine Reg.op rfl (Ope.bld rfl rfl ?_)
            refine Reg.op rfl (Ope.bsl rfl rfl rfl rfl ?_)
            first
            | refine Reg.op rfl (Ope.apLp (ws:=[eV ((k:Int),(k:Int))]) rfl rfl (by simp) (by simp) (by simp) (by decide) (by simp) (by intro v hv;simp only [List.mem_singleton] at hv;subst hv;exact ⟨rfl,rfl⟩) (fun c' post' ez' hc' hp'=>?_))
            | refine Reg.op rfl (Ope.apLw (vs:=(T++[e]).map eV) (ws:=[eV ((k:Int),(k:Int))]) (post:=post) rfl rfl hget_hd (by simp) hS.2.2.1 hS.2.2.2 (by simp only [List.length_map,List.length_append,List.length_singleton];omega) (by simp only [List.length_map,List.length_append,List.length_singleton];omega) (by intro v hv;obtain ⟨_,_,rfl⟩:=List.mem_map.1 hv;rfl) (by intro v hv;simp only [List.mem_singleton] at hv;subst hv;exact ⟨rfl,rfl⟩) (fun j' n' c' ez' post' hn' hj' hc' hp'=>?_))
            refine Reg.op rfl (Ope.asg rfl ?_)
            refine Reg.nil (Run.bend (Run.bend ?_))
            first
            | refine Run.wide (m:=m) (l':=[(j,some (.cells (flat ((T++[(e.1,(k:Int))]).map eV)++post)))]) (Nat.le_refl _) ⟨hget_hd,trivial⟩ ?_
            | refine Run.wide (m:=n') (l':=[(j',some (.cells (flat ((T++[e]).map eV++[eV ((k:Int),(k:Int))])++post')))]) (Nat.le_refl _) ⟨hget_hd,trivial⟩ ?_
            | skip
            refine Run.region (cx_ok _ _ _) (Reg.op rfl (Ope.add rfl rfl (by omega) ?_))
            refine Reg.op rfl (Ope.mov rfl ?_)
            refine Reg.nil ?_
            first
            | exact Run.lend ⟨(k+1,m,none),by show 60 - (k+1) < 60 - k;omega,⟨by show k+1≤60;omega,trivial,hsk⟩,⟨rfl,rfl,rfl,trivial⟩,rfl,rfl⟩
            | exact Run.lend ⟨(k+1,m+1,some ([],((k:Int),(k:Int)),m,c',ez',post')),by show 60 - (k+1) < 60 - k;omega,⟨by show k+1≤60;omega,⟨by show 0+1≤k+1;omega,Nat.lt_succ_self _,hc',hp'⟩,hsk⟩,⟨rfl,rfl,rfl,trivial⟩,rfl,rfl⟩
            | exact Run.lend ⟨(k+1,m,some (T,e,j,c,ez,post)),by show 60 - (k+1) < 60 - k;omega,⟨by show k+1≤60;omega,⟨by show T.length+1≤k+1;omega,hS.2⟩,hsk⟩,⟨rfl,rfl,rfl,trivial⟩,rfl,rfl⟩
            | (have hsk2 : spU n (k + 1) = if e.2 = (k : Int) - 1 then T ++ [(e.1, (k : Int))] else T ++ [e] ++ [((k : Int), (k : Int))] := hsk
               rw [if_pos hc] at hsk2
               exact Run.lend ⟨(k+1,m,some (T,(e.1,(k:Int)),j,c,ez,post)),by show 60 - (k+1) < 60 - k;omega,⟨by show k+1≤60;omega,⟨by show T.length+1≤k+1;omega,hS.2⟩,hsk2⟩,⟨rfl,rfl,rfl,trivial⟩,rfl,rfl⟩)
            | (have hsk2 : spU n (k + 1) = if e.2 = (k : Int) - 1 then T ++ [(e.1, (k : Int))] else T ++ [e] ++ [((k : Int), (k : Int))] := hsk
               rw [if_neg hc] at hsk2
               have hjn:j < m:=hS.2.1
               have hn9:m≤n':=hn'
               have hj9:j'=j∨(m≤j'∧j' < n'):=hj'
               simp only [List.length_map,List.length_append,List.length_singleton] at hc' hp'
               exact Run.lend ⟨(k+1,n',some (T++[e],((k:Int),(k:Int)),j',c',ez',post')),by show 60 - (k+1) < 60 - k;omega,⟨by show k+1≤60;omega,⟨by show (T++[e]).length+1≤k+1;simp only [List.length_append,List.length_singleton];omega,by show j' < n';omega,by show (T++[e]).length+1≤c';simp only [List.length_append,List.length_singleton];omega,by show post'.length=(c' - ((T++[e]).length+1)) * 2;simp only [List.length_append,List.length_singleton];exact hp'⟩,hsk2⟩,⟨rfl,congrArg (fun z=>some (PV.ms j' 0 z c' ez')) (by simp),rfl,trivial⟩,by
                show HE n' _=HE n' [(j',some (PBlk.cells (flat ((T++[e]++[((k:Int),(k:Int))]).map eV)++post')))]
                rw [List.map_append (l₁:=T++[e])];rfl,rfl⟩)
         ·first
          |first
| (exfalso;omega)
| (exfalso; simp at hg; done)
          |refine Reg.off rfl rfl rfl (Reg.off rfl rfl rfl (Reg.off rfl rfl rfl (Reg.off rfl rfl rfl (Reg.off rfl rfl rfl (Reg.off rfl rfl rfl (Reg.off rfl rfl rfl (Reg.off rfl rfl rfl (Reg.op rfl (Ope.pickF rfl rfl ?_)))))))))
           refine Reg.op rfl (Ope.asg rfl ?_)
           refine Reg.nil (Run.condF rfl (Run.region (cx_ok _ _ _) (Reg.op rfl (Ope.mov rfl ?_))))
           refine Reg.op rfl (Ope.mov rfl ?_)
           refine Reg.op rfl (Ope.mov rfl ?_)
           refine Reg.op rfl (Ope.bld rfl rfl ?_)
           refine Reg.op rfl (Ope.bsl rfl rfl rfl rfl ?_)
           first
           | refine Reg.op rfl (Ope.apLp (ws:=[eV ((k:Int),(k:Int))]) rfl rfl (by simp) (by simp) (by simp) (by decide) (by simp) (by intro v hv;simp only [List.mem_singleton] at hv;subst hv;exact ⟨rfl,rfl⟩) (fun c' post' ez' hc' hp'=>?_))
           | refine Reg.op rfl (Ope.apLw (vs:=(T++[e]).map eV) (ws:=[eV ((k:Int),(k:Int))]) (post:=post) rfl rfl hget_hd (by simp) hS.2.2.1 hS.2.2.2 (by simp only [List.length_map,List.length_append,List.length_singleton];omega) (by simp only [List.length_map,List.length_append,List.length_singleton];omega) (by intro v hv;obtain ⟨_,_,rfl⟩:=List.mem_map.1 hv;rfl) (by intro v hv;simp only [List.mem_singleton] at hv;subst hv;exact ⟨rfl,rfl⟩) (fun j' n' c' ez' post' hn' hj' hc' hp'=>?_))
           refine Reg.op rfl (Ope.asg rfl ?_)
           refine Reg.nil (Run.bend (Run.bend ?_))
           first
           | refine Run.wide (m:=m) (l':=[(j,some (.cells (flat ((T++[(e.1,(k:Int))]).map eV)++post)))]) (Nat.le_refl _) ⟨hget_hd,trivial⟩ ?_
           | refine Run.wide (m:=n') (l':=[(j',some (.cells (flat ((T++[e]).map eV++[eV ((k:Int),(k:Int))])++post')))]) (Nat.le_refl _) ⟨hget_hd,trivial⟩ ?_
           | skip
           refine Run.region (cx_ok _ _ _) (Reg.op rfl (Ope.add rfl rfl (by omega) ?_))
           refine Reg.op rfl (Ope.mov rfl ?_)
           refine Reg.nil ?_
           first
           | exact Run.lend ⟨(k+1,m,none),by show 60 - (k+1) < 60 - k;omega,⟨by show k+1≤60;omega,trivial,hsk⟩,⟨rfl,rfl,rfl,trivial⟩,rfl,rfl⟩
           | exact Run.lend ⟨(k+1,m+1,some ([],((k:Int),(k:Int)),m,c',ez',post')),by show 60 - (k+1) < 60 - k;omega,⟨by show k+1≤60;omega,⟨by show 0+1≤k+1;omega,Nat.lt_succ_self _,hc',hp'⟩,hsk⟩,⟨rfl,rfl,rfl,trivial⟩,rfl,rfl⟩
           | exact Run.lend ⟨(k+1,m,some (T,e,j,c,ez,post)),by show 60 - (k+1) < 60 - k;omega,⟨by show k+1≤60;omega,⟨by show T.length+1≤k+1;omega,hS.2⟩,hsk⟩,⟨rfl,rfl,rfl,trivial⟩,rfl,rfl⟩
           | (have hsk2 : spU n (k + 1) = if e.2 = (k : Int) - 1 then T ++ [(e.1, (k : Int))] else T ++ [e] ++ [((k : Int), (k : Int))] := hsk
              rw [if_pos hc] at hsk2
              exact Run.lend ⟨(k+1,m,some (T,(e.1,(k:Int)),j,c,ez,post)),by show 60 - (k+1) < 60 - k;omega,⟨by show k+1≤60;omega,⟨by show T.length+1≤k+1;omega,hS.2⟩,hsk2⟩,⟨rfl,rfl,rfl,trivial⟩,rfl,rfl⟩)
           | (have hsk2 : spU n (k + 1) = if e.2 = (k : Int) - 1 then T ++ [(e.1, (k : Int))] else T ++ [e] ++ [((k : Int), (k : Int))] := hsk
              rw [if_neg hc] at hsk2
              have hjn:j < m:=hS.2.1
              have hn9:m≤n':=hn'
              have hj9:j'=j∨(m≤j'∧j' < n'):=hj'
              simp only [List.length_map,List.length_append,List.length_singleton] at hc' hp'
              exact Run.lend ⟨(k+1,n',some (T++[e],((k:Int),(k:Int)),j',c',ez',post')),by show 60 - (k+1) < 60 - k;omega,⟨by show k+1≤60;omega,⟨by show (T++[e]).length+1≤k+1;simp only [List.length_append,List.length_singleton];omega,by show j' < n';omega,by show (T++[e]).length+1≤c';simp only [List.length_append,List.length_singleton];omega,by show post'.length=(c' - ((T++[e]).length+1)) * 2;simp only [List.length_append,List.length_singleton];exact hp'⟩,hsk2⟩,⟨rfl,congrArg (fun z=>some (PV.ms j' 0 z c' ez')) (by simp),rfl,trivial⟩,by
               show HE n' _=HE n' [(j',some (PBlk.cells (flat ((T++[e]++[((k:Int),(k:Int))]).map eV)++post')))]
               rw [List.map_append (l₁:=T++[e])];rfl,rfl⟩)
     ·first
      |(exfalso;rcases Nat.lt_or_eq_of_le hk with hk9 | rfl;(omega);(rw [hX] at hv;exact hE hv))
      |refine Run.exit (Jmp.code (Jmp.round (Jmp.here (Run.seq ?_))))
       obtain rfl:k=60:=by omega
       have hXv:X=T++[e]:=by rw [← hX,hv];rfl
       refine Run.region (cx_ok _ _ _) (Reg.op rfl (Ope.mov rfl ?_))
       refine Reg.op rfl (Ope.asg rfl ?_)
       refine Reg.nil (Run.frzS (d:=2) (vs:=X.map eV) (post:=post) (sz:=2) rfl (by rw [hXv];exact hget_hd) (by rw [hXv];simp) hS.2.2.1 (by intro v hv;obtain ⟨_,_,rfl⟩:=List.mem_map.1 hv;rfl) ?_)
       exact Run.ret (fin_ret (.tmp rfl .nil) (bd_sl (f:=eV) (tl:=.no) rfl (fun _=>rfl) _) rfl)
    ·refine Run.seq (Run.region (cx_ok _ _ _) (Reg.op rfl (Ope.lt rfl rfl ?_)))
     refine Reg.nil (Run.seq (Run.condX rfl (fun hc=>?_) fun hc=>?_))
     ·first
      |(exfalso;rcases Nat.lt_or_eq_of_le hk with hk9 | rfl;(omega);(rw [hX] at hv;exact hE hv))
      |refine Run.skip (Run.seq (Run.block (Run.seq ?_)))
       have hk2:k < 60:=by omega
       have hsk:=hsu k
       rw [hv] at hsk
       unfold spStep at hsk
       try have hT1:T.length+1≤k:=hS.1
       try have hT2:j < m:=hS.2.1
       rw [hbit] at hsk
       first
       | rw [if_neg (by decide)] at hsk
       | rw [if_pos rfl] at hsk
       try
         have hlast:(T++[e]).getLast?=some e:=by simp
         have hdl:(T++[e]).dropLast=T:=by simp
         have hvS:valS (some (T,e,j,c,ez,post))=T++[e]:=rfl
         rw [hvS,hlast,hdl] at hsk
       refine Run.region (cx_ok _ _ _) (Reg.op rfl (Ope.mov rfl ?_))
       refine Reg.op rfl (Ope.asg rfl ?_)
       refine Reg.nil (Run.seq (Run.region (cx_ok _ _ _) (Reg.op rfl (Ope.mov rfl ?_))))
       first
       | refine Reg.op rfl (Ope.len (m:=0) rfl rfl ?_)
       | refine Reg.op rfl (Ope.lenL rfl ?_)
       refine Reg.op rfl (Ope.sub rfl rfl (by omega) ?_)
       refine Reg.op rfl (Ope.asg rfl ?_)
       refine Reg.nil (Run.block (Run.seq (Run.region (cx_ok _ _ _) (Reg.op rfl (Ope.mov rfl ?_)))))
       refine Reg.op rfl (Ope.mov rfl ?_)
       refine Reg.op rfl (Ope.cf rfl rfl (hla k (by omega)) rfl ?_)
       rw [hbit]
       refine Reg.op rfl (Ope.asg rfl ?_)
       refine Reg.nil (Run.condX rfl (fun hc=>?_) fun hc=>?_)
       ·first
        |(cases hc;done)
        |refine Run.skip (Run.bend (Run.bend ?_))
         first
         | refine Run.wide (m:=m) (l':=[(j,some (.cells (flat ((T++[(e.1,(k:Int))]).map eV)++post)))]) (Nat.le_refl _) ⟨hget_hd,trivial⟩ ?_
         | refine Run.wide (m:=n') (l':=[(j',some (.cells (flat ((T++[e]).map eV++[eV ((k:Int),(k:Int))])++post')))]) (Nat.le_refl _) ⟨hget_hd,trivial⟩ ?_
         | skip
         refine Run.region (cx_ok _ _ _) (Reg.op rfl (Ope.add rfl rfl (by omega) ?_))
         refine Reg.op rfl (Ope.mov rfl ?_)
         refine Reg.nil ?_
         first
         | exact Run.lend ⟨(k+1,m,none),by show 60 - (k+1) < 60 - k;omega,⟨by show k+1≤60;omega,trivial,hsk⟩,⟨rfl,rfl,rfl,trivial⟩,rfl,rfl⟩
         | exact Run.lend ⟨(k+1,m+1,some ([],((k:Int),(k:Int)),m,c',ez',post')),by show 60 - (k+1) < 60 - k;omega,⟨by show k+1≤60;omega,⟨by show 0+1≤k+1;omega,Nat.lt_succ_self _,hc',hp'⟩,hsk⟩,⟨rfl,rfl,rfl,trivial⟩,rfl,rfl⟩
         | exact Run.lend ⟨(k+1,m,some (T,e,j,c,ez,post)),by show 60 - (k+1) < 60 - k;omega,⟨by show k+1≤60;omega,⟨by show T.length+1≤k+1;omega,hS.2⟩,hsk⟩,⟨rfl,rfl,rfl,trivial⟩,rfl,rfl⟩
         | (have hsk2 : spU n (k + 1) = if e.2 = (k : Int) - 1 then T ++ [(e.1, (k : Int))] else T ++ [e] ++ [((k : Int), (k : Int))] := hsk
            rw [if_pos hc] at hsk2
            exact Run.lend ⟨(k+1,m,some (T,(e.1,(k:Int)),j,c,ez,post)),by show 60 - (k+1) < 60 - k;omega,⟨by show k+1≤60;omega,⟨by show T.length+1≤k+1;omega,hS.2⟩,hsk2⟩,⟨rfl,rfl,rfl,trivial⟩,rfl,rfl⟩)
         | (have hsk2 : spU n (k + 1) = if e.2 = (k : Int) - 1 then T ++ [(e.1, (k : Int))] else T ++ [e] ++ [((k : Int), (k : Int))] := hsk
            rw [if_neg hc] at hsk2
            have hjn:j < m:=hS.2.1
            have hn9:m≤n':=hn'
            have hj9:j'=j∨(m≤j'∧j' < n'):=hj'
            simp only [List.length_map,List.length_append,List.length_singleton] at hc' hp'
            exact Run.lend ⟨(k+1,n',some (T++[e],((k:Int),(k:Int)),j',c',ez',post')),by show 60 - (k+1) < 60 - k;omega,⟨by show k+1≤60;omega,⟨by show (T++[e]).length+1≤k+1;simp only [List.length_append,List.length_singleton];omega,by show j' < n';omega,by show (T++[e]).length+1≤c';simp only [List.length_append,List.length_singleton];omega,by show post'.length=(c' - ((T++[e]).length+1)) * 2;simp only [List.length_append,List.length_singleton];exact hp'⟩,hsk2⟩,⟨rfl,congrArg (fun z=>some (PV.ms j' 0 z c' ez')) (by simp),rfl,trivial⟩,by
             show HE n' _=HE n' [(j',some (PBlk.cells (flat ((T++[e]++[((k:Int),(k:Int))]).map eV)++post')))]
             rw [List.map_append (l₁:=T++[e])];rfl,rfl⟩)
       ·first
        |(cases hc;done)
        |refine Run.seq (Run.region (cx_ok _ _ _) (Reg.op rfl (Ope.mov rfl ?_)))
         refine Reg.op rfl (Ope.ge rfl rfl ?_)
         refine Reg.op rfl (Ope.mov rfl ?_)
         refine Reg.splitX rfl rfl (fun hg=>?_) fun hg=>?_
         ·first
          |first
| (exfalso;omega)
| (exfalso; simp at hg; done)
          |refine Reg.on rfl rfl rfl (Ope.mov rfl ?_)
           refine Reg.on rfl rfl rfl (Ope.mov rfl ?_)
           refine Reg.on rfl rfl rfl (Ope.idxL (m:=T.length) rfl rfl (by show natK (((T.length+1:Nat):Int) - 1)=_;exact natK_pred T.length) (by omega) ?_)
           refine Reg.on rfl rfl rfl (Ope.fld rfl rfl ?_)
           refine Reg.on rfl rfl rfl (Ope.loadL rfl hget_hd (last_get T e post) ?_)
           refine Reg.on rfl rfl rfl (Ope.mov rfl ?_)
           refine Reg.on rfl rfl rfl (Ope.sub rfl rfl (by omega) ?_)
           refine Reg.on rfl rfl rfl (Ope.eq rfl rfl ?_)
           refine Reg.op rfl (Ope.pickT rfl rfl ?_)
           refine Reg.op rfl (Ope.asg rfl ?_)
           refine Reg.nil (Run.condX rfl (fun hc=>?_) fun hc=>?_)
           ·refine Run.region (cx_ok _ _ _) (Reg.op rfl (Ope.mov rfl ?_))
            refine Reg.op rfl (Ope.mov rfl ?_)
            refine Reg.op rfl (Ope.mov rfl ?_)
            refine Reg.op rfl (Ope.idxL (m:=T.length) rfl rfl (by show natK (((T.length+1:Nat):Int) - 1)=_;exact natK_pred T.length) (by omega) ?_)
            refine Reg.op rfl (Ope.fld rfl rfl ?_)
            refine Reg.op0 (Ope.storeL rfl rfl hget_hd rfl rfl (by rw [List.length_append,flatE_len,List.length_append];show 0+T.length * 2+1 < _;simp only [List.length_singleton];omega) ?_)
            rw [last_set]
            refine Reg.nil (Run.bend (Run.bend ?_))
            first
            | refine Run.wide (m:=m) (l':=[(j,some (.cells (flat ((T++[(e.1,(k:Int))]).map eV)++post)))]) (Nat.le_refl _) ⟨hget_hd,trivial⟩ ?_
            | refine Run.wide (m:=n') (l':=[(j',some (.cells (flat ((T++[e]).map eV++[eV ((k:Int),(k:Int))])++post')))]) (Nat.le_refl _) ⟨hget_hd,trivial⟩ ?_
            | skip
            refine Run.region (cx_ok _ _ _) (Reg.op rfl (Ope.add rfl rfl (by omega) ?_))
            refine Reg.op rfl (Ope.mov rfl ?_)
            refine Reg.nil ?_
            first
            | exact Run.lend ⟨(k+1,m,none),by show 60 - (k+1) < 60 - k;omega,⟨by show k+1≤60;omega,trivial,hsk⟩,⟨rfl,rfl,rfl,trivial⟩,rfl,rfl⟩
            | exact Run.lend ⟨(k+1,m+1,some ([],((k:Int),(k:Int)),m,c',ez',post')),by show 60 - (k+1) < 60 - k;omega,⟨by show k+1≤60;omega,⟨by show 0+1≤k+1;omega,Nat.lt_succ_self _,hc',hp'⟩,hsk⟩,⟨rfl,rfl,rfl,trivial⟩,rfl,rfl⟩
            | exact Run.lend ⟨(k+1,m,some (T,e,j,c,ez,post)),by show 60 - (k+1) < 60 - k;omega,⟨by show k+1≤60;omega,⟨by show T.length+1≤k+1;omega,hS.2⟩,hsk⟩,⟨rfl,rfl,rfl,trivial⟩,rfl,rfl⟩
            | (have hsk2 : spU n (k + 1) = if e.2 = (k : Int) - 1 then T ++ [(e.1, (k : Int))] else T ++ [e] ++ [((k : Int), (k : Int))] := hsk
               rw [if_pos hc] at hsk2
               exact Run.lend ⟨(k+1,m,some (T,(e.1,(k:Int)),j,c,ez,post)),by show 60 - (k+1) < 60 - k;omega,⟨by show k+1≤60;omega,⟨by show T.length+1≤k+1;omega,hS.2⟩,hsk2⟩,⟨rfl,rfl,rfl,trivial⟩,rfl,rfl⟩)
            | (have hsk2 : spU n (k + 1) = if e.2 = (k : Int) - 1 then T ++ [(e.1, (k : Int))] else T ++ [e] ++ [((k : Int), (k : Int))] := hsk
               rw [if_neg hc] at hsk2
               have hjn:j < m:=hS.2.1
               have hn9:m≤n':=hn'
               have hj9:j'=j∨(m≤j'∧j' < n'):=hj'
               simp only [List.length_map,List.length_append,List.length_singleton] at hc' hp'
               exact Run.lend ⟨(k+1,n',some (T++[e],((k:Int),(k:Int)),j',c',ez',post')),by show 60 - (k+1) < 60 - k;omega,⟨by show k+1≤60;omega,⟨by show (T++[e]).length+1≤k+1;simp only [List.length_append,List.length_singleton];omega,by show j' < n';omega,by show (T++[e]).length+1≤c';simp only [List.length_append,List.length_singleton];omega,by show post'.length=(c' - ((T++[e]).length+1)) * 2;simp only [List.length_append,List.length_singleton];exact hp'⟩,hsk2⟩,⟨rfl,congrArg (fun z=>some (PV.ms j' 0 z c' ez')) (by simp),rfl,trivial⟩,by
                show HE n' _=HE n' [(j',some (PBlk.cells (flat ((T++[e]++[((k:Int),(k:Int))]).map eV)++post')))]
                rw [List.map_append (l₁:=T++[e])];rfl,rfl⟩)
           ·refine Run.region (cx_ok _ _ _) (Reg.op rfl (Ope.mov rfl ?_))
            refine Reg.op rfl (Ope.mov rfl ?_)
            refine Reg.op rfl (Ope.mov rfl ?_)
            refine Reg.op rfl (Ope.bld rfl rfl ?_)
            refine Reg.op rfl (Ope.bsl rfl rfl rfl rfl ?_)
            first
            | refine Reg.op rfl (Ope.apLp (ws:=[eV ((k:Int),(k:Int))]) rfl rfl (by simp) (by simp) (by simp) (by decide) (by simp) (by intro v hv;simp only [List.mem_singleton] at hv;subst hv;exact ⟨rfl,rfl⟩) (fun c' post' ez' hc' hp'=>?_))
            | refine Reg.op rfl (Ope.apLw (vs:=(T++[e]).map eV) (ws:=[eV ((k:Int),(k:Int))]) (post:=post) rfl rfl hget_hd (by simp) hS.2.2.1 hS.2.2.2 (by simp only [List.length_map,List.length_append,List.length_singleton];omega) (by simp only [List.length_map,List.length_append,List.length_singleton];omega) (by intro v hv;obtain ⟨_,_,rfl⟩:=List.mem_map.1 hv;rfl) (by intro v hv;simp only [List.mem_singleton] at hv;subst hv;exact ⟨rfl,rfl⟩) (fun j' n' c' ez' post' hn' hj' hc' hp'=>?_))
            refine Reg.op rfl (Ope.asg rfl ?_)
            refine Reg.nil (Run.bend (Run.bend ?_))
            first
            | refine Run.wide (m:=m) (l':=[(j,some (.cells (flat ((T++[(e.1,(k:Int))]).map eV)++post)))]) (Nat.le_refl _) ⟨hget_hd,trivial⟩ ?_
            | refine Run.wide (m:=n') (l':=[(j',some (.cells (flat ((T++[e]).map eV++[eV ((k:Int),(k:Int))])++post')))]) (Nat.le_refl _) ⟨hget_hd,trivial⟩ ?_
            | skip
            refine Run.region (cx_ok _ _ _) (Reg.op rfl (Ope.add rfl rfl (by omega) ?_))
            refine Reg.op rfl (Ope.mov rfl ?_)
            refine Reg.nil ?_
            first
            | exact Run.lend ⟨(k+1,m,none),by show 60 - (k+1) < 60 - k;omega,⟨by show k+1≤60;omega,trivial,hsk⟩,⟨rfl,rfl,rfl,trivial⟩,rfl,rfl⟩
            | exact Run.lend ⟨(k+1,m+1,some ([],((k:Int),(k:Int)),m,c',ez',post')),by show 60 - (k+1) < 60 - k;omega,⟨by show k+1≤60;omega,⟨by show 0+1≤k+1;omega,Nat.lt_succ_self _,hc',hp'⟩,hsk⟩,⟨rfl,rfl,rfl,trivial⟩,rfl,rfl⟩
            | exact Run.lend ⟨(k+1,m,some (T,e,j,c,ez,post)),by show 60 - (k+1) < 60 - k;omega,⟨by show k+1≤60;omega,⟨by show T.length+1≤k+1;omega,hS.2⟩,hsk⟩,⟨rfl,rfl,rfl,trivial⟩,rfl,rfl⟩
            | (have hsk2 : spU n (k + 1) = if e.2 = (k : Int) - 1 then T ++ [(e.1, (k : Int))] else T ++ [e] ++ [((k : Int), (k : Int))] := hsk
               rw [if_pos hc] at hsk2
               exact Run.lend ⟨(k+1,m,some (T,(e.1,(k:Int)),j,c,ez,post)),by show 60 - (k+1) < 60 - k;omega,⟨by show k+1≤60;omega,⟨by show T.length+1≤k+1;omega,hS.2⟩,hsk2⟩,⟨rfl,rfl,rfl,trivial⟩,rfl,rfl⟩)
            | (have hsk2 : spU n (k + 1) = if e.2 = (k : Int) - 1 then T ++ [(e.1, (k : Int))] else T ++ [e] ++ [((k : Int), (k : Int))] := hsk
               rw [if_neg hc] at hsk2
               have hjn:j < m:=hS.2.1
               have hn9:m≤n':=hn'
               have hj9:j'=j∨(m≤j'∧j' < n'):=hj'
               simp only [List.length_map,List.length_append,List.length_singleton] at hc' hp'
               exact Run.lend ⟨(k+1,n',some (T++[e],((k:Int),(k:Int)),j',c',ez',post')),by show 60 - (k+1) < 60 - k;omega,⟨by show k+1≤60;omega,⟨by show (T++[e]).length+1≤k+1;simp only [List.length_append,List.length_singleton];omega,by show j' < n';omega,by show (T++[e]).length+1≤c';simp only [List.length_append,List.length_singleton];omega,by show post'.length=(c' - ((T++[e]).length+1)) * 2;simp only [List.length_append,List.length_singleton];exact hp'⟩,hsk2⟩,⟨rfl,congrArg (fun z=>some (PV.ms j' 0 z c' ez')) (by simp),rfl,trivial⟩,by
                show HE n' _=HE n' [(j',some (PBlk.cells (flat ((T++[e]++[((k:Int),(k:Int))]).map eV)++post')))]
                rw [List.map_append (l₁:=T++[e])];rfl,rfl⟩)
         ·first
          |first
| (exfalso;omega)
| (exfalso; simp at hg; done)
          |refine Reg.off rfl rfl rfl (Reg.off rfl rfl rfl (Reg.off rfl rfl rfl (Reg.off rfl rfl rfl (Reg.off rfl rfl rfl (Reg.off rfl rfl rfl (Reg.off rfl rfl rfl (Reg.off rfl rfl rfl (Reg.op rfl (Ope.pickF rfl rfl ?_)))))))))
           refine Reg.op rfl (Ope.asg rfl ?_)
           refine Reg.nil (Run.condF rfl (Run.region (cx_ok _ _ _) (Reg.op rfl (Ope.mov rfl ?_))))
           refine Reg.op rfl (Ope.mov rfl ?_)
           refine Reg.op rfl (Ope.mov rfl ?_)
           refine Reg.op rfl (Ope.bld rfl rfl ?_)
           refine Reg.op rfl (Ope.bsl rfl rfl rfl rfl ?_)
           first
           | refine Reg.op rfl (Ope.apLp (ws:=[eV ((k:Int),(k:Int))]) rfl rfl (by simp) (by simp) (by simp) (by decide) (by simp) (by intro v hv;simp only [List.mem_singleton] at hv;subst hv;exact ⟨rfl,rfl⟩) (fun c' post' ez' hc' hp'=>?_))
           | refine Reg.op rfl (Ope.apLw (vs:=(T++[e]).map eV) (ws:=[eV ((k:Int),(k:Int))]) (post:=post) rfl rfl hget_hd (by simp) hS.2.2.1 hS.2.2.2 (by simp only [List.length_map,List.length_append,List.length_singleton];omega) (by simp only [List.length_map,List.length_append,List.length_singleton];omega) (by intro v hv;obtain ⟨_,_,rfl⟩:=List.mem_map.1 hv;rfl) (by intro v hv;simp only [List.mem_singleton] at hv;subst hv;exact ⟨rfl,rfl⟩) (fun j' n' c' ez' post' hn' hj' hc' hp'=>?_))
           refine Reg.op rfl (Ope.asg rfl ?_)
           refine Reg.nil (Run.bend (Run.bend ?_))
           first
           | refine Run.wide (m:=m) (l':=[(j,some (.cells (flat ((T++[(e.1,(k:Int))]).map eV)++post)))]) (Nat.le_refl _) ⟨hget_hd,trivial⟩ ?_
           | refine Run.wide (m:=n') (l':=[(j',some (.cells (flat ((T++[e]).map eV++[eV ((k:Int),(k:Int))])++post')))]) (Nat.le_refl _) ⟨hget_hd,trivial⟩ ?_
           | skip
           refine Run.region (cx_ok _ _ _) (Reg.op rfl (Ope.add rfl rfl (by omega) ?_))
           refine Reg.op rfl (Ope.mov rfl ?_)
           refine Reg.nil ?_
           first
           | exact Run.lend ⟨(k+1,m,none),by show 60 - (k+1) < 60 - k;omega,⟨by show k+1≤60;omega,trivial,hsk⟩,⟨rfl,rfl,rfl,trivial⟩,rfl,rfl⟩
           | exact Run.lend ⟨(k+1,m+1,some ([],((k:Int),(k:Int)),m,c',ez',post')),by show 60 - (k+1) < 60 - k;omega,⟨by show k+1≤60;omega,⟨by show 0+1≤k+1;omega,Nat.lt_succ_self _,hc',hp'⟩,hsk⟩,⟨rfl,rfl,rfl,trivial⟩,rfl,rfl⟩
           | exact Run.lend ⟨(k+1,m,some (T,e,j,c,ez,post)),by show 60 - (k+1) < 60 - k;omega,⟨by show k+1≤60;omega,⟨by show T.length+1≤k+1;omega,hS.2⟩,hsk⟩,⟨rfl,rfl,rfl,trivial⟩,rfl,rfl⟩
           | (have hsk2 : spU n (k + 1) = if e.2 = (k : Int) - 1 then T ++ [(e.1, (k : Int))] else T ++ [e] ++ [((k : Int), (k : Int))] := hsk
              rw [if_pos hc] at hsk2
              exact Run.lend ⟨(k+1,m,some (T,(e.1,(k:Int)),j,c,ez,post)),by show 60 - (k+1) < 60 - k;omega,⟨by show k+1≤60;omega,⟨by show T.length+1≤k+1;omega,hS.2⟩,hsk2⟩,⟨rfl,rfl,rfl,trivial⟩,rfl,rfl⟩)
           | (have hsk2 : spU n (k + 1) = if e.2 = (k : Int) - 1 then T ++ [(e.1, (k : Int))] else T ++ [e] ++ [((k : Int), (k : Int))] := hsk
              rw [if_neg hc] at hsk2
              have hjn:j < m:=hS.2.1
              have hn9:m≤n':=hn'
              have hj9:j'=j∨(m≤j'∧j' < n'):=hj'
              simp only [List.length_map,List.length_append,List.length_singleton] at hc' hp'
              exact Run.lend ⟨(k+1,n',some (T++[e],((k:Int),(k:Int)),j',c',ez',post')),by show 60 - (k+1) < 60 - k;omega,⟨by show k+1≤60;omega,⟨by show (T++[e]).length+1≤k+1;simp only [List.length_append,List.length_singleton];omega,by show j' < n';omega,by show (T++[e]).length+1≤c';simp only [List.length_append,List.length_singleton];omega,by show post'.length=(c' - ((T++[e]).length+1)) * 2;simp only [List.length_append,List.length_singleton];exact hp'⟩,hsk2⟩,⟨rfl,congrArg (fun z=>some (PV.ms j' 0 z c' ez')) (by simp),rfl,trivial⟩,by
               show HE n' _=HE n' [(j',some (PBlk.cells (flat ((T++[e]++[((k:Int),(k:Int))]).map eV)++post')))]
               rw [List.map_append (l₁:=T++[e])];rfl,rfl⟩)
     ·first
      |(exfalso;rcases Nat.lt_or_eq_of_le hk with hk9 | rfl;(omega);(rw [hX] at hv;exact hE hv))
      |refine Run.exit (Jmp.code (Jmp.round (Jmp.here (Run.seq ?_))))
       obtain rfl:k=60:=by omega
       have hXv:X=T++[e]:=by rw [← hX,hv];rfl
       refine Run.region (cx_ok _ _ _) (Reg.op rfl (Ope.mov rfl ?_))
       refine Reg.op rfl (Ope.asg rfl ?_)
       refine Reg.nil (Run.frzS (d:=2) (vs:=X.map eV) (post:=post) (sz:=2) rfl (by rw [hXv];exact hget_hd) (by rw [hXv];simp) hS.2.2.1 (by intro v hv;obtain ⟨_,_,rfl⟩:=List.mem_map.1 hv;rfl) ?_)
       exact Run.ret (fin_ret (.tmp rfl .nil) (bd_sl (f:=eV) (tl:=.no) rfl (fun _=>rfl) _) rfl)
    ·refine Run.seq (Run.region (cx_ok _ _ _) (Reg.op rfl (Ope.lt rfl rfl ?_)))
     refine Reg.nil (Run.seq (Run.condX rfl (fun hc=>?_) fun hc=>?_))
     ·first
      |(exfalso;rcases Nat.lt_or_eq_of_le hk with hk9 | rfl;(omega);(rw [hX] at hv;exact hE hv))
      |refine Run.skip (Run.seq (Run.block (Run.seq ?_)))
       have hk2:k < 60:=by omega
       have hsk:=hsu k
       rw [hv] at hsk
       unfold spStep at hsk
       try have hT1:T.length+1≤k:=hS.1
       try have hT2:j < m:=hS.2.1
       rw [hbit] at hsk
       first
       | rw [if_neg (by decide)] at hsk
       | rw [if_pos rfl] at hsk
       try
         have hlast:(T++[e]).getLast?=some e:=by simp
         have hdl:(T++[e]).dropLast=T:=by simp
         have hvS:valS (some (T,e,j,c,ez,post))=T++[e]:=rfl
         rw [hvS,hlast,hdl] at hsk
       refine Run.region (cx_ok _ _ _) (Reg.op rfl (Ope.mov rfl ?_))
       refine Reg.op rfl (Ope.asg rfl ?_)
       refine Reg.nil (Run.seq (Run.region (cx_ok _ _ _) (Reg.op rfl (Ope.mov rfl ?_))))
       first
       | refine Reg.op rfl (Ope.len (m:=0) rfl rfl ?_)
       | refine Reg.op rfl (Ope.lenL rfl ?_)
       refine Reg.op rfl (Ope.sub rfl rfl (by omega) ?_)
       refine Reg.op rfl (Ope.asg rfl ?_)
       refine Reg.nil (Run.block (Run.seq (Run.region (cx_ok _ _ _) (Reg.op rfl (Ope.mov rfl ?_)))))
       refine Reg.op rfl (Ope.mov rfl ?_)
       refine Reg.op rfl (Ope.cf rfl rfl (hla k (by omega)) rfl ?_)
       rw [hbit]
       refine Reg.op rfl (Ope.asg rfl ?_)
       refine Reg.nil (Run.condX rfl (fun hc=>?_) fun hc=>?_)
       ·first
        |(cases hc;done)
        |refine Run.skip (Run.bend (Run.bend ?_))
         first
         | refine Run.wide (m:=m) (l':=[(j,some (.cells (flat ((T++[(e.1,(k:Int))]).map eV)++post)))]) (Nat.le_refl _) ⟨hget_hd,trivial⟩ ?_
         | refine Run.wide (m:=n') (l':=[(j',some (.cells (flat ((T++[e]).map eV++[eV ((k:Int),(k:Int))])++post')))]) (Nat.le_refl _) ⟨hget_hd,trivial⟩ ?_
         | skip
         refine Run.region (cx_ok _ _ _) (Reg.op rfl (Ope.add rfl rfl (by omega) ?_))
         refine Reg.op rfl (Ope.mov rfl ?_)
         refine Reg.nil ?_
         first
         | exact Run.lend ⟨(k+1,m,none),by show 60 - (k+1) < 60 - k;omega,⟨by show k+1≤60;omega,trivial,hsk⟩,⟨rfl,rfl,rfl,trivial⟩,rfl,rfl⟩
         | exact Run.lend ⟨(k+1,m+1,some ([],((k:Int),(k:Int)),m,c',ez',post')),by show 60 - (k+1) < 60 - k;omega,⟨by show k+1≤60;omega,⟨by show 0+1≤k+1;omega,Nat.lt_succ_self _,hc',hp'⟩,hsk⟩,⟨rfl,rfl,rfl,trivial⟩,rfl,rfl⟩
         | exact Run.lend ⟨(k+1,m,some (T,e,j,c,ez,post)),by show 60 - (k+1) < 60 - k;omega,⟨by show k+1≤60;omega,⟨by show T.length+1≤k+1;omega,hS.2⟩,hsk⟩,⟨rfl,rfl,rfl,trivial⟩,rfl,rfl⟩
         | (have hsk2 : spU n (k + 1) = if e.2 = (k : Int) - 1 then T ++ [(e.1, (k : Int))] else T ++ [e] ++ [((k : Int), (k : Int))] := hsk
            rw [if_pos hc] at hsk2
            exact Run.lend ⟨(k+1,m,some (T,(e.1,(k:Int)),j,c,ez,post)),by show 60 - (k+1) < 60 - k;omega,⟨by show k+1≤60;omega,⟨by show T.length+1≤k+1;omega,hS.2⟩,hsk2⟩,⟨rfl,rfl,rfl,trivial⟩,rfl,rfl⟩)
         | (have hsk2 : spU n (k + 1) = if e.2 = (k : Int) - 1 then T ++ [(e.1, (k : Int))] else T ++ [e] ++ [((k : Int), (k : Int))] := hsk
            rw [if_neg hc] at hsk2
            have hjn:j < m:=hS.2.1
            have hn9:m≤n':=hn'
            have hj9:j'=j∨(m≤j'∧j' < n'):=hj'
            simp only [List.length_map,List.length_append,List.length_singleton] at hc' hp'
            exact Run.lend ⟨(k+1,n',some (T++[e],((k:Int),(k:Int)),j',c',ez',post')),by show 60 - (k+1) < 60 - k;omega,⟨by show k+1≤60;omega,⟨by show (T++[e]).length+1≤k+1;simp only [List.length_append,List.length_singleton];omega,by show j' < n';omega,by show (T++[e]).length+1≤c';simp only [List.length_append,List.length_singleton];omega,by show post'.length=(c' - ((T++[e]).length+1)) * 2;simp only [List.length_append,List.length_singleton];exact hp'⟩,hsk2⟩,⟨rfl,congrArg (fun z=>some (PV.ms j' 0 z c' ez')) (by simp),rfl,trivial⟩,by
             show HE n' _=HE n' [(j',some (PBlk.cells (flat ((T++[e]++[((k:Int),(k:Int))]).map eV)++post')))]
             rw [List.map_append (l₁:=T++[e])];rfl,rfl⟩)
       ·first
        |(cases hc;done)
        |refine Run.seq (Run.region (cx_ok _ _ _) (Reg.op rfl (Ope.mov rfl ?_)))
         refine Reg.op rfl (Ope.ge rfl rfl ?_)
         refine Reg.op rfl (Ope.mov rfl ?_)
         refine Reg.splitX rfl rfl (fun hg=>?_) fun hg=>?_
         ·first
          |first
| (exfalso;omega)
| (exfalso; simp at hg; done)
          |refine Reg.on rfl rfl rfl (Ope.mov rfl ?_)
           refine Reg.on rfl rfl rfl (Ope.mov rfl ?_)
           refine Reg.on rfl rfl rfl (Ope.idxL (m:=T.length) rfl rfl (by show natK (((T.length+1:Nat):Int) - 1)=_;exact natK_pred T.length) (by omega) ?_)
           refine Reg.on rfl rfl rfl (Ope.fld rfl rfl ?_)
           refine Reg.on rfl rfl rfl (Ope.loadL rfl hget_hd (last_get T e post) ?_)
           refine Reg.on rfl rfl rfl (Ope.mov rfl ?_)
           refine Reg.on rfl rfl rfl (Ope.sub rfl rfl (by omega) ?_)
           refine Reg.on rfl rfl rfl (Ope.eq rfl rfl ?_)
           refine Reg.op rfl (Ope.pickT rfl rfl ?_)
           refine Reg.op rfl (Ope.asg rfl ?_)
           refine Reg.nil (Run.condX rfl (fun hc=>?_) fun hc=>?_)
           ·refine Run.region (cx_ok _ _ _) (Reg.op rfl (Ope.mov rfl ?_))
            refine Reg.op rfl (Ope.mov rfl ?_)
            refine Reg.op rfl (Ope.mov rfl ?_)
            refine Reg.op rfl (Ope.idxL (m:=T.length) rfl rfl (by show natK (((T.length+1:Nat):Int) - 1)=_;exact natK_pred T.length) (by omega) ?_)
            refine Reg.op rfl (Ope.fld rfl rfl ?_)
            refine Reg.op0 (Ope.storeL rfl rfl hget_hd rfl rfl (by rw [List.length_append,flatE_len,List.length_append];show 0+T.length * 2+1 < _;simp only [List.length_singleton];omega) ?_)
            rw [last_set]
            refine Reg.nil (Run.bend (Run.bend ?_))
            first
            | refine Run.wide (m:=m) (l':=[(j,some (.cells (flat ((T++[(e.1,(k:Int))]).map eV)++post)))]) (Nat.le_refl _) ⟨hget_hd,trivial⟩ ?_
            | refine Run.wide (m:=n') (l':=[(j',some (.cells (flat ((T++[e]).map eV++[eV ((k:Int),(k:Int))])++post')))]) (Nat.le_refl _) ⟨hget_hd,trivial⟩ ?_
            | skip
            refine Run.region (cx_ok _ _ _) (Reg.op rfl (Ope.add rfl rfl (by omega) ?_))
            refine Reg.op rfl (Ope.mov rfl ?_)
            refine Reg.nil ?_
            first
            | exact Run.lend ⟨(k+1,m,none),by show 60 - (k+1) < 60 - k;omega,⟨by show k+1≤60;omega,trivial,hsk⟩,⟨rfl,rfl,rfl,trivial⟩,rfl,rfl⟩
            | exact Run.lend ⟨(k+1,m+1,some ([],((k:Int),(k:Int)),m,c',ez',post')),by show 60 - (k+1) < 60 - k;omega,⟨by show k+1≤60;omega,⟨by show 0+1≤k+1;omega,Nat.lt_succ_self _,hc',hp'⟩,hsk⟩,⟨rfl,rfl,rfl,trivial⟩,rfl,rfl⟩
            | exact Run.lend ⟨(k+1,m,some (T,e,j,c,ez,post)),by show 60 - (k+1) < 60 - k;omega,⟨by show k+1≤60;omega,⟨by show T.length+1≤k+1;omega,hS.2⟩,hsk⟩,⟨rfl,rfl,rfl,trivial⟩,rfl,rfl⟩
            | (have hsk2 : spU n (k + 1) = if e.2 = (k : Int) - 1 then T ++ [(e.1, (k : Int))] else T ++ [e] ++ [((k : Int), (k : Int))] := hsk
               rw [if_pos hc] at hsk2
               exact Run.lend ⟨(k+1,m,some (T,(e.1,(k:Int)),j,c,ez,post)),by show 60 - (k+1) < 60 - k;omega,⟨by show k+1≤60;omega,⟨by show T.length+1≤k+1;omega,hS.2⟩,hsk2⟩,⟨rfl,rfl,rfl,trivial⟩,rfl,rfl⟩)
            | (have hsk2 : spU n (k + 1) = if e.2 = (k : Int) - 1 then T ++ [(e.1, (k : Int))] else T ++ [e] ++ [((k : Int), (k : Int))] := hsk
               rw [if_neg hc] at hsk2
               have hjn:j < m:=hS.2.1
               have hn9:m≤n':=hn'
               have hj9:j'=j∨(m≤j'∧j' < n'):=hj'
               simp only [List.length_map,List.length_append,List.length_singleton] at hc' hp'
               exact Run.lend ⟨(k+1,n',some (T++[e],((k:Int),(k:Int)),j',c',ez',post')),by show 60 - (k+1) < 60 - k;omega,⟨by show k+1≤60;omega,⟨by show (T++[e]).length+1≤k+1;simp only [List.length_append,List.length_singleton];omega,by show j' < n';omega,by show (T++[e]).length+1≤c';simp only [List.length_append,List.length_singleton];omega,by show post'.length=(c' - ((T++[e]).length+1)) * 2;simp only [List.length_append,List.length_singleton];exact hp'⟩,hsk2⟩,⟨rfl,congrArg (fun z=>some (PV.ms j' 0 z c' ez')) (by simp),rfl,trivial⟩,by
                show HE n' _=HE n' [(j',some (PBlk.cells (flat ((T++[e]++[((k:Int),(k:Int))]).map eV)++post')))]
                rw [List.map_append (l₁:=T++[e])];rfl,rfl⟩)
           ·refine Run.region (cx_ok _ _ _) (Reg.op rfl (Ope.mov rfl ?_))
            refine Reg.op rfl (Ope.mov rfl ?_)
            refine Reg.op rfl (Ope.mov rfl ?_)
            refine Reg.op rfl (Ope.bld rfl rfl ?_)
            refine Reg.op rfl (Ope.bsl rfl rfl rfl rfl ?_)
            first
            | refine Reg.op rfl (Ope.apLp (ws:=[eV ((k:Int),(k:Int))]) rfl rfl (by simp) (by simp) (by simp) (by decide) (by simp) (by intro v hv;simp only [List.mem_singleton] at hv;subst hv;exact ⟨rfl,rfl⟩) (fun c' post' ez' hc' hp'=>?_))
            | refine Reg.op rfl (Ope.apLw (vs:=(T++[e]).map eV) (ws:=[eV ((k:Int),(k:Int))]) (post:=post) rfl rfl hget_hd (by simp) hS.2.2.1 hS.2.2.2 (by simp only [List.length_map,List.length_append,List.length_singleton];omega) (by simp only [List.length_map,List.length_append,List.length_singleton];omega) (by intro v hv;obtain ⟨_,_,rfl⟩:=List.mem_map.1 hv;rfl) (by intro v hv;simp only [List.mem_singleton] at hv;subst hv;exact ⟨rfl,rfl⟩) (fun j' n' c' ez' post' hn' hj' hc' hp'=>?_))
            refine Reg.op rfl (Ope.asg rfl ?_)
            refine Reg.nil (Run.bend (Run.bend ?_))
            first
            | refine Run.wide (m:=m) (l':=[(j,some (.cells (flat ((T++[(e.1,(k:Int))]).map eV)++post)))]) (Nat.le_refl _) ⟨hget_hd,trivial⟩ ?_
            | refine Run.wide (m:=n') (l':=[(j',some (.cells (flat ((T++[e]).map eV++[eV ((k:Int),(k:Int))])++post')))]) (Nat.le_refl _) ⟨hget_hd,trivial⟩ ?_
            | skip
            refine Run.region (cx_ok _ _ _) (Reg.op rfl (Ope.add rfl rfl (by omega) ?_))
            refine Reg.op rfl (Ope.mov rfl ?_)
            refine Reg.nil ?_
            first
            | exact Run.lend ⟨(k+1,m,none),by show 60 - (k+1) < 60 - k;omega,⟨by show k+1≤60;omega,trivial,hsk⟩,⟨rfl,rfl,rfl,trivial⟩,rfl,rfl⟩
            | exact Run.lend ⟨(k+1,m+1,some ([],((k:Int),(k:Int)),m,c',ez',post')),by show 60 - (k+1) < 60 - k;omega,⟨by show k+1≤60;omega,⟨by show 0+1≤k+1;omega,Nat.lt_succ_self _,hc',hp'⟩,hsk⟩,⟨rfl,rfl,rfl,trivial⟩,rfl,rfl⟩
            | exact Run.lend ⟨(k+1,m,some (T,e,j,c,ez,post)),by show 60 - (k+1) < 60 - k;omega,⟨by show k+1≤60;omega,⟨by show T.length+1≤k+1;omega,hS.2⟩,hsk⟩,⟨rfl,rfl,rfl,trivial⟩,rfl,rfl⟩
            | (have hsk2 : spU n (k + 1) = if e.2 = (k : Int) - 1 then T ++ [(e.1, (k : Int))] else T ++ [e] ++ [((k : Int), (k : Int))] := hsk
               rw [if_pos hc] at hsk2
               exact Run.lend ⟨(k+1,m,some (T,(e.1,(k:Int)),j,c,ez,post)),by show 60 - (k+1) < 60 - k;omega,⟨by show k+1≤60;omega,⟨by show T.length+1≤k+1;omega,hS.2⟩,hsk2⟩,⟨rfl,rfl,rfl,trivial⟩,rfl,rfl⟩)
            | (have hsk2 : spU n (k + 1) = if e.2 = (k : Int) - 1 then T ++ [(e.1, (k : Int))] else T ++ [e] ++ [((k : Int), (k : Int))] := hsk
               rw [if_neg hc] at hsk2
               have hjn:j < m:=hS.2.1
               have hn9:m≤n':=hn'
               have hj9:j'=j∨(m≤j'∧j' < n'):=hj'
               simp only [List.length_map,List.length_append,List.length_singleton] at hc' hp'
               exact Run.lend ⟨(k+1,n',some (T++[e],((k:Int),(k:Int)),j',c',ez',post')),by show 60 - (k+1) < 60 - k;omega,⟨by show k+1≤60;omega,⟨by show (T++[e]).length+1≤k+1;simp only [List.length_append,List.length_singleton];omega,by show j' < n';omega,by show (T++[e]).length+1≤c';simp only [List.length_append,List.length_singleton];omega,by show post'.length=(c' - ((T++[e]).length+1)) * 2;simp only [List.length_append,List.length_singleton];exact hp'⟩,hsk2⟩,⟨rfl,congrArg (fun z=>some (PV.ms j' 0 z c' ez')) (by simp),rfl,trivial⟩,by
                show HE n' _=HE n' [(j',some (PBlk.cells (flat ((T++[e]++[((k:Int),(k:Int))]).map eV)++post')))]
                rw [List.map_append (l₁:=T++[e])];rfl,rfl⟩)
         ·first
          |first
| (exfalso;omega)
| (exfalso;simp at hg;done)
          |refine Reg.off rfl rfl rfl (Reg.off rfl rfl rfl (Reg.off rfl rfl rfl (Reg.off rfl rfl rfl (Reg.off rfl rfl rfl (Reg.off rfl rfl rfl (Reg.off rfl rfl rfl (Reg.off rfl rfl rfl (Reg.op rfl (Ope.pickF rfl rfl ?_)))))))))
           refine Reg.op rfl (Ope.asg rfl ?_)
           refine Reg.nil (Run.condF rfl (Run.region (cx_ok _ _ _) (Reg.op rfl (Ope.mov rfl ?_))))
           refine Reg.op rfl (Ope.mov rfl ?_)
           refine Reg.op rfl (Ope.mov rfl ?_)
           refine Reg.op rfl (Ope.bld rfl rfl ?_)
           refine Reg.op rfl (Ope.bsl rfl rfl rfl rfl ?_)
           first
           | refine Reg.op rfl (Ope.apLp (ws:=[eV ((k:Int),(k:Int))]) rfl rfl (by simp) (by simp) (by simp) (by decide) (by simp) (by intro v hv;simp only [List.mem_singleton] at hv;subst hv;exact ⟨rfl,rfl⟩) (fun c' post' ez' hc' hp'=>?_))
           | refine Reg.op rfl (Ope.apLw (vs:=(T++[e]).map eV) (ws:=[eV ((k:Int),(k:Int))]) (post:=post) rfl rfl hget_hd (by simp) hS.2.2.1 hS.2.2.2 (by simp only [List.length_map,List.length_append,List.length_singleton];omega) (by simp only [List.length_map,List.length_append,List.length_singleton];omega) (by intro v hv;obtain ⟨_,_,rfl⟩:=List.mem_map.1 hv;rfl) (by intro v hv;simp only [List.mem_singleton] at hv;subst hv;exact ⟨rfl,rfl⟩) (fun j' n' c' ez' post' hn' hj' hc' hp'=>?_))
           refine Reg.op rfl (Ope.asg rfl ?_)
           refine Reg.nil (Run.bend (Run.bend ?_))
           first
           | refine Run.wide (m:=m) (l':=[(j,some (.cells (flat ((T++[(e.1,(k:Int))]).map eV)++post)))]) (Nat.le_refl _) ⟨hget_hd,trivial⟩ ?_
           | refine Run.wide (m:=n') (l':=[(j',some (.cells (flat ((T++[e]).map eV++[eV ((k:Int),(k:Int))])++post')))]) (Nat.le_refl _) ⟨hget_hd,trivial⟩ ?_
           | skip
           refine Run.region (cx_ok _ _ _) (Reg.op rfl (Ope.add rfl rfl (by omega) ?_))
           refine Reg.op rfl (Ope.mov rfl ?_)
           refine Reg.nil ?_
           first
           | exact Run.lend ⟨(k+1,m,none),by show 60 - (k+1) < 60 - k;omega,⟨by show k+1≤60;omega,trivial,hsk⟩,⟨rfl,rfl,rfl,trivial⟩,rfl,rfl⟩
           | exact Run.lend ⟨(k+1,m+1,some ([],((k:Int),(k:Int)),m,c',ez',post')),by show 60 - (k+1) < 60 - k;omega,⟨by show k+1≤60;omega,⟨by show 0+1≤k+1;omega,Nat.lt_succ_self _,hc',hp'⟩,hsk⟩,⟨rfl,rfl,rfl,trivial⟩,rfl,rfl⟩
           | exact Run.lend ⟨(k+1,m,some (T,e,j,c,ez,post)),by show 60 - (k+1) < 60 - k;omega,⟨by show k+1≤60;omega,⟨by show T.length+1≤k+1;omega,hS.2⟩,hsk⟩,⟨rfl,rfl,rfl,trivial⟩,rfl,rfl⟩
           | (have hsk2 : spU n (k + 1) = if e.2 = (k : Int) - 1 then T ++ [(e.1, (k : Int))] else T ++ [e] ++ [((k : Int), (k : Int))] := hsk
              rw [if_pos hc] at hsk2
              exact Run.lend ⟨(k+1,m,some (T,(e.1,(k:Int)),j,c,ez,post)),by show 60 - (k+1) < 60 - k;omega,⟨by show k+1≤60;omega,⟨by show T.length+1≤k+1;omega,hS.2⟩,hsk2⟩,⟨rfl,rfl,rfl,trivial⟩,rfl,rfl⟩)
           | (have hsk2 : spU n (k + 1) = if e.2 = (k : Int) - 1 then T ++ [(e.1, (k : Int))] else T ++ [e] ++ [((k : Int), (k : Int))] := hsk
              rw [if_neg hc] at hsk2
              have hjn:j < m:=hS.2.1
              have hn9:m≤n':=hn'
              have hj9:j'=j∨(m≤j'∧j' < n'):=hj'
              simp only [List.length_map,List.length_append,List.length_singleton] at hc' hp'
              exact Run.lend ⟨(k+1,n',some (T++[e],((k:Int),(k:Int)),j',c',ez',post')),by show 60 - (k+1) < 60 - k;omega,⟨by show k+1≤60;omega,⟨by show (T++[e]).length+1≤k+1;simp only [List.length_append,List.length_singleton];omega,by show j' < n';omega,by show (T++[e]).length+1≤c';simp only [List.length_append,List.length_singleton];omega,by show post'.length=(c' - ((T++[e]).length+1)) * 2;simp only [List.length_append,List.length_singleton];exact hp'⟩,hsk2⟩,⟨rfl,congrArg (fun z=>some (PV.ms j' 0 z c' ez')) (by simp),rfl,trivial⟩,by
               show HE n' _=HE n' [(j',some (PBlk.cells (flat ((T++[e]++[((k:Int),(k:Int))]).map eV)++post')))]
               rw [List.map_append (l₁:=T++[e])];rfl,rfl⟩)
     ·first
      |(exfalso;rcases Nat.lt_or_eq_of_le hk with hk9 | rfl;(omega);(rw [hX] at hv;exact hE hv))
      |refine Run.exit (Jmp.code (Jmp.round (Jmp.here (Run.seq ?_))))
       obtain rfl:k=60:=by omega
       have hXv:X=T++[e]:=by rw [← hX,hv];rfl
       refine Run.region (cx_ok _ _ _) (Reg.op rfl (Ope.mov rfl ?_))
       refine Reg.op rfl (Ope.asg rfl ?_)
       refine Reg.nil (Run.frzS (d:=2) (vs:=X.map eV) (post:=post) (sz:=2) rfl (by rw [hXv];exact hget_hd) (by rw [hXv];simp) hS.2.2.1 (by intro v hv;obtain ⟨_,_,rfl⟩:=List.mem_map.1 hv;rfl) ?_)
       exact Run.ret (fin_ret (.tmp rfl .nil) (bd_sl (f:=eV) (tl:=.no) rfl (fun _=>rfl) _) rfl)
end Go.Pv
namespace Go.Pv
open Go.Proofs Go.Am
set_option maxRecDepth 10000
theorem voJ_lt {op:Nat→Nat→Nat} (hop:∀ p q,p < 2 ^ 62→q < 2 ^ 62→op p q < 2 ^ 62):∀ {V:List Nat},(∀ v∈V,v < 2 ^ 62)→voJ op V < 2 ^ 62
  | [],_=>(by decide:(0:Nat) < 2 ^ 62)
  | v :: V, h => by
    have key:∀ (V:List Nat) (v:Nat),v < 2 ^ 62→(∀ w∈V,w < 2 ^ 62)→V.foldl op v < 2 ^ 62:=fun V=>by
      induction V with
      | nil=>intro v h _;exact h
      | cons w V ih=>intro v h1 h2;exact ih _ (hop _ _ h1 (h2 w (by simp))) fun x hx=>h2 x (List.mem_cons_of_mem _ hx)
    exact key V v (h v (by simp)) fun w hw=>h w (List.mem_cons_of_mem _ hw)
theorem and62 {p q:Nat} (hp:p < 2 ^ 62):p &&& q < 2 ^ 62:=Nat.lt_of_le_of_lt Nat.and_le_left hp
def errV (L:List Rpt):Int:=if jouB L=true then 0 else 1
section
variable (tl:Tail) (htl:tl.isOwn=false) (L:List Rpt) (hL:L.length≤100)
include htl hL
def ansVoid (L:List Rpt):List (Int×Int):=spU (voJ (fun p q=>p &&& q) (voR (flR (std L)) 0)) 60
theorem f60t (hv:jouB L=true):∃ t3:Tail,t3.isOwn=false∧Fn P0 60 [.fp (.sl tl (L.map Rpt.v))] (.sl t3 ((ansVoid L).map eV)):=by
  have hj:=f61t tl htl L hL hv
  have hs:=jou_spec hv
  have hstd:=hs.std
  have hop:∀ p q:Nat,p < 2 ^ 62→q < 2 ^ 62→(p &&& q) < 2 ^ 62:=fun p q hp hq=>and62 hp
  have hvo:=f62 .no rfl (std L) (by omega) hs.sok hs.fl 63 (fun p q=>p &&& q) hop (fun p q hp hq=>f63 p q hp hq)
  have hfo:=fl_ok hs.sok
  have hlt:=voJ_lt hop (voR_lt (F:=flR (std L)) (v:=0) (fun f hf=>(hfo f hf).1) (by decide))
  obtain ⟨t3,ht3,hsp⟩:=f64 _ hlt
  refine ⟨t3,ht3,?_⟩
  have hb1:PV.bds 0 [.sl tl (L.map Rpt.v)]=true:=bds_cons (bd_sl (f:=Rpt.v) htl (fun _=>rfl) L) rfl
  have hb2:PV.bds 0 [.sl .no ((std L).map Rpt.v),.fn (.func 63) [] []]=true:=bds_cons (bd_sl (f:=Rpt.v) (tl:=.no) rfl (fun _=>rfl) _) rfl
  have hb3:=bd_sl (f:=eV) ht3 (fun _=>rfl) (ansVoid L)
  refine PFun.of (C:=c60) (cx_ok _ _ _) rfl (fn:=Tryz.f60) (by kernel_rfl) (c:=_) rfl rfl rfl ?_
  refine Run.seq (Run.region (cx_ok _ _ _) (Reg.op rfl (Ope.asg rfl ?_)))
  refine Reg.nil (Run.seq (Run.region (cx_ok _ _ _) (Reg.op rfl (Ope.load rfl rfl ?_))))
  refine Reg.op rfl (Ope.cf rfl rfl hj hb1 ?_)
  refine Reg.op rfl (Ope.cf rfl rfl hvo hb2 ?_)
  refine Reg.op rfl (Ope.cf rfl rfl hsp rfl ?_)
  refine Reg.op rfl (Ope.asg rfl ?_)
  exact Reg.nil (Run.ret (fin_ret (.tmp rfl .nil) hb3 rfl))
theorem f60f (hv:jouB L=false):Pan P0 60 [.fp (.sl tl (L.map Rpt.v))] (.ifc 25 (I 1)):=by
  have hj:=f61f tl htl L hL hv
  have hb1:PV.bds 0 [.sl tl (L.map Rpt.v)]=true:=bds_cons (bd_sl (f:=Rpt.v) htl (fun _=>rfl) L) rfl
  refine PFun.of (C:=c60) (cx_ok _ _ _) rfl (fn:=Tryz.f60) (by kernel_rfl) (c:=_) rfl rfl rfl ?_
  refine Run.seq (Run.region (cx_ok _ _ _) (Reg.op rfl (Ope.asg rfl ?_)))
  refine Reg.nil (Run.seq (Run.region (cx_ok _ _ _) (Reg.op rfl (Ope.load rfl rfl ?_))))
  refine Reg.op rfl (Ope.cp rfl rfl hj hb1 (fin_panic rfl rfl))
theorem f19:∃ t3:Tail,t3.isOwn=false∧Fn P0 19 [.sl tl (L.map Rpt.v)] (.tup [.sl t3 ((if errV L=0 then ansVoid L else []).map eV),I (errV L)]):=by
  have hb0:PV.bd 0 (.sl tl (L.map Rpt.v))=true:=bd_sl (f:=Rpt.v) htl (fun _=>rfl) L
  have hb:PV.bds 0 [.fp (.sl tl (L.map Rpt.v))]=true:=by
    have h:=hb0
    cases tl<;>first | (cases htl;done) | (simp only [PV.bds,PV.bd] at h ⊢;simp [h])
  have ha:∃ t3:Tail,t3.isOwn=false∧Fn P0 59 [.fn (.func 60) [] [.fp (.sl tl (L.map Rpt.v))]] (.tup [.sl t3 ((if errV L=0 then ansVoid L else []).map eV),I (errV L)]):=by
    unfold errV
    by_cases hv:jouB L=true
    · rw [if_pos hv, if_pos rfl]
      obtain ⟨t3,ht3,h⟩:=f60t tl htl L hL hv
      exact ⟨t3,ht3,f59ok (bd_sl (f:=eV) ht3 (fun _=>rfl) _) h hb⟩
    · rw [if_neg hv, if_neg (by decide)]
      exact ⟨.ex,rfl,f59er (f60f tl htl L hL (by simpa using hv)) hb⟩
  obtain ⟨t3,ht3,ha⟩:=ha
  refine ⟨t3,ht3,?_⟩
  have hbf:PV.bds 0 [.fn (.func 60) [] [.fp (.sl tl (L.map Rpt.v))]]=true:=bds_cons (by simp only [PV.bd,hb];rfl) rfl
  have hb3:=bd_sl (f:=eV) ht3 (fun _=>rfl) (if errV L=0 then ansVoid L else [])
  refine PFun.of (C:=c19) (cx_ok _ _ _) rfl (fn:=Tryz.f19) (by kernel_rfl) (c:=_) rfl rfl rfl ?_
  refine Run.seq (Run.region (cx_ok _ _ _) (Reg.op rfl (Ope.boxF rfl rfl ?_)))
  refine Reg.op rfl (Ope.asg rfl ?_)
  refine Reg.op rfl (Ope.asg rfl ?_)
  refine Reg.nil (Run.seq (Run.region (cx_ok _ _ _) (Reg.op rfl (Ope.mkf rfl rfl ?_))))
  refine Reg.op rfl (Ope.cf rfl rfl ha hbf ?_)
  refine Reg.op rfl (Ope.ext rfl rfl ?_)
  refine Reg.op rfl (Ope.ext rfl rfl ?_)
  refine Reg.op rfl (Ope.asg rfl ?_)
  refine Reg.op rfl (Ope.asg rfl ?_)
  exact Reg.nil (Run.ret (fin_ret (.tmp rfl (.tmp rfl .nil)) (by simp only [pone,PV.bd,PV.bds] at hb3 ⊢;simp [hb3]) rfl))
def ansCould (L:List Rpt):List (Int×Int):=spU (voJ (fun p q=>p ||| q) (voR (flR (std L)) 0)) 60
theorem f66t (hv:jouB L=true):∃ t3:Tail,t3.isOwn=false∧Fn P0 66 [.fp (.sl tl (L.map Rpt.v))] (.sl t3 ((ansCould L).map eV)):=by
  have hj:=f61t tl htl L hL hv
  have hs:=jou_spec hv
  have hstd:=hs.std
  have hop:∀ p q:Nat,p < 2 ^ 62→q < 2 ^ 62→(p ||| q) < 2 ^ 62:=fun p q hp hq=>Nat.or_lt_two_pow hp hq
  have hvo:=f62 .no rfl (std L) (by omega) hs.sok hs.fl 67 (fun p q=>p ||| q) hop (fun p q hp hq=>f67 p q hp hq)
  have hfo:=fl_ok hs.sok
  have hlt:=voJ_lt hop (voR_lt (F:=flR (std L)) (v:=0) (fun f hf=>(hfo f hf).1) (by decide))
  obtain ⟨t3,ht3,hsp⟩:=f64 _ hlt
  refine ⟨t3,ht3,?_⟩
  have hb1:PV.bds 0 [.sl tl (L.map Rpt.v)]=true:=bds_cons (bd_sl (f:=Rpt.v) htl (fun _=>rfl) L) rfl
  have hb2:PV.bds 0 [.sl .no ((std L).map Rpt.v),.fn (.func 67) [] []]=true:=bds_cons (bd_sl (f:=Rpt.v) (tl:=.no) rfl (fun _=>rfl) _) rfl
  have hb3:=bd_sl (f:=eV) ht3 (fun _=>rfl) (ansCould L)
  refine PFun.of (C:=c66) (cx_ok _ _ _) rfl (fn:=Tryz.f66) (by kernel_rfl) (c:=_) rfl rfl rfl ?_
  refine Run.seq (Run.region (cx_ok _ _ _) (Reg.op rfl (Ope.asg rfl ?_)))
  refine Reg.nil (Run.seq (Run.region (cx_ok _ _ _) (Reg.op rfl (Ope.load rfl rfl ?_))))
  refine Reg.op rfl (Ope.cf rfl rfl hj hb1 ?_)
  refine Reg.op rfl (Ope.cf rfl rfl hvo hb2 ?_)
  refine Reg.op rfl (Ope.cf rfl rfl hsp rfl ?_)
  refine Reg.op rfl (Ope.asg rfl ?_)
  exact Reg.nil (Run.ret (fin_ret (.tmp rfl .nil) hb3 rfl))
theorem f66f (hv:jouB L=false):Pan P0 66 [.fp (.sl tl (L.map Rpt.v))] (.ifc 25 (I 1)):=by
  have hj:=f61f tl htl L hL hv
  have hb1:PV.bds 0 [.sl tl (L.map Rpt.v)]=true:=bds_cons (bd_sl (f:=Rpt.v) htl (fun _=>rfl) L) rfl
  refine PFun.of (C:=c66) (cx_ok _ _ _) rfl (fn:=Tryz.f66) (by kernel_rfl) (c:=_) rfl rfl rfl ?_
  refine Run.seq (Run.region (cx_ok _ _ _) (Reg.op rfl (Ope.asg rfl ?_)))
  refine Reg.nil (Run.seq (Run.region (cx_ok _ _ _) (Reg.op rfl (Ope.load rfl rfl ?_))))
  refine Reg.op rfl (Ope.cp rfl rfl hj hb1 (fin_panic rfl rfl))
theorem f21:∃ t3:Tail,t3.isOwn=false∧Fn P0 21 [.sl tl (L.map Rpt.v)] (.tup [.sl t3 ((if errV L=0 then ansCould L else []).map eV),I (errV L)]):=by
  have hb0:PV.bd 0 (.sl tl (L.map Rpt.v))=true:=bd_sl (f:=Rpt.v) htl (fun _=>rfl) L
  have hb:PV.bds 0 [.fp (.sl tl (L.map Rpt.v))]=true:=by
    have h:=hb0
    cases tl<;>first | (cases htl;done) | (simp only [PV.bds,PV.bd] at h ⊢;simp [h])
  have ha:∃ t3:Tail,t3.isOwn=false∧Fn P0 59 [.fn (.func 66) [] [.fp (.sl tl (L.map Rpt.v))]] (.tup [.sl t3 ((if errV L=0 then ansCould L else []).map eV),I (errV L)]):=by
    unfold errV
    by_cases hv:jouB L=true
    · rw [if_pos hv, if_pos rfl]
      obtain ⟨t3,ht3,h⟩:=f66t tl htl L hL hv
      exact ⟨t3,ht3,f59ok (bd_sl (f:=eV) ht3 (fun _=>rfl) _) h hb⟩
    · rw [if_neg hv, if_neg (by decide)]
      exact ⟨.ex,rfl,f59er (f66f tl htl L hL (by simpa using hv)) hb⟩
  obtain ⟨t3,ht3,ha⟩:=ha
  refine ⟨t3,ht3,?_⟩
  have hbf:PV.bds 0 [.fn (.func 66) [] [.fp (.sl tl (L.map Rpt.v))]]=true:=bds_cons (by simp only [PV.bd,hb];rfl) rfl
  have hb3:=bd_sl (f:=eV) ht3 (fun _=>rfl) (if errV L=0 then ansCould L else [])
  refine PFun.of (C:=c21) (cx_ok _ _ _) rfl (fn:=Tryz.f21) (by kernel_rfl) (c:=_) rfl rfl rfl ?_
  refine Run.seq (Run.region (cx_ok _ _ _) (Reg.op rfl (Ope.boxF rfl rfl ?_)))
  refine Reg.op rfl (Ope.asg rfl ?_)
  refine Reg.op rfl (Ope.asg rfl ?_)
  refine Reg.nil (Run.seq (Run.region (cx_ok _ _ _) (Reg.op rfl (Ope.mkf rfl rfl ?_))))
  refine Reg.op rfl (Ope.cf rfl rfl ha hbf ?_)
  refine Reg.op rfl (Ope.ext rfl rfl ?_)
  refine Reg.op rfl (Ope.ext rfl rfl ?_)
  refine Reg.op rfl (Ope.asg rfl ?_)
  refine Reg.op rfl (Ope.asg rfl ?_)
  exact Reg.nil (Run.ret (fin_ret (.tmp rfl (.tmp rfl .nil)) (by simp only [pone,PV.bd,PV.bds] at hb3 ⊢;simp [hb3]) rfl))
end
end Go.Pv
namespace Go.Pv
open Go.Proofs Go.Am
set_option maxRecDepth 10000
def mrgE (a b:List Rpt):Int:=if jouB a=true then (if jouB b=true then (if jouB (std (a++b))=true then 0 else 9) else 1) else 1
section
variable (ta tb:Tail) (hta:ta.isOwn=false) (htb:tb.isOwn=false) (a b:List Rpt) (ha:a.length≤100) (hb:b.length≤100)
include hta htb ha hb
theorem f49f (h:jouB a=false∨(jouB a=true∧jouB b=false)):Pan P0 49 [.fp (.sl ta (a.map Rpt.v)),.fp (.sl tb (b.map Rpt.v))] (.ifc 25 (I 1)):=by
  have hva:=f51 ta hta a ha
  have hvb:=f51 tb htb b hb
  have hba:PV.bds 0 [.sl ta (a.map Rpt.v)]=true:=bds_cons (bd_sl (f:=Rpt.v) hta (fun _=>rfl) a) rfl
  have hbb:PV.bds 0 [.sl tb (b.map Rpt.v)]=true:=bds_cons (bd_sl (f:=Rpt.v) htb (fun _=>rfl) b) rfl
  rcases h with h | ⟨h,h2⟩
  · rw [h] at hva
    refine PFun.of (C:=c49) (cx_ok _ _ _) rfl (fn:=Tryz.f49) (by kernel_rfl) (c:=_) rfl rfl rfl ?_
    refine Run.seq (Run.region (cx_ok _ _ _) (Reg.op rfl (Ope.asg rfl ?_)))
    refine Reg.nil (Run.seq (Run.region (cx_ok _ _ _) (Reg.op rfl (Ope.load rfl rfl ?_))))
    refine Reg.op rfl (Ope.cf rfl rfl hva hba ?_)
    refine Reg.op rfl (Ope.mov rfl ?_)
    refine Reg.off rfl rfl rfl (Reg.off rfl rfl rfl (Reg.op rfl (Ope.pickF rfl rfl ?_)))
    refine Reg.op rfl (Ope.cp rfl rfl (f50f 1) rfl (fin_panic rfl rfl))
  · rw [h] at hva
    rw [h2] at hvb
    refine PFun.of (C:=c49) (cx_ok _ _ _) rfl (fn:=Tryz.f49) (by kernel_rfl) (c:=_) rfl rfl rfl ?_
    refine Run.seq (Run.region (cx_ok _ _ _) (Reg.op rfl (Ope.asg rfl ?_)))
    refine Reg.nil (Run.seq (Run.region (cx_ok _ _ _) (Reg.op rfl (Ope.load rfl rfl ?_))))
    refine Reg.op rfl (Ope.cf rfl rfl hva hba ?_)
    refine Reg.op rfl (Ope.mov rfl ?_)
    refine Reg.on rfl rfl rfl (Ope.load rfl rfl ?_)
    refine Reg.on rfl rfl rfl (Ope.cf rfl rfl hvb hbb ?_)
    refine Reg.op rfl (Ope.pickT rfl rfl ?_)
    refine Reg.op rfl (Ope.cp rfl rfl (f50f 1) rfl (fin_panic rfl rfl))
section
variable (h1:jouB a=true) (h2:jouB b=true) (hs:(std (a++b)).length≤12)
include h1 h2 hs
theorem mrg_st:Fn P0 52 [.sl .ex [.sl ta (a.map Rpt.v),.sl tb (b.map Rpt.v)]] (fmR (stdM (a++b)))∧Fn P0 53 [fmR (stdM (a++b))] (.sl .no ((std (a++b)).map Rpt.v)):=by
  have j1:=jou_spec h1
  have j2:=jou_spec h2
  have hok:∀ r∈a++b,r.ok=true:=fun r hr=>by
    rcases List.mem_append.1 hr with hr | hr
    · exact j1.ok r hr
    · exact j2.ok r hr
  have hst:=f52 .ex rfl [(ta,a),(tb,b)] (fun p hp=>by
    rcases List.mem_cons.1 hp with rfl | hp
    · exact hta
    · rw [List.mem_singleton.1 hp];exact htb) (by simp) (by rw [cat_two,List.length_append];omega) (by rw [cat_two];exact hok)
  rw [cat_two] at hst
  have hjo:=f53 (stdM (a++b)) (by rw [stdM_len hok];exact hs) (stdM_nodup _) (stdM_ids hok)
  rw [srtR_stdM] at hjo
  exact ⟨hst,hjo⟩
theorem f49t (h3:jouB (std (a++b))=true):Fn P0 49 [.fp (.sl ta (a.map Rpt.v)),.fp (.sl tb (b.map Rpt.v))] (.sl .no ((std (a++b)).map Rpt.v)):=by
  obtain ⟨hst,hjo⟩:=mrg_st ta tb hta htb a b ha hb h1 h2 hs
  have hva:=f51 ta hta a ha
  have hvb:=f51 tb htb b hb
  have hvc:=f51 .no rfl (std (a++b)) (by omega)
  rw [h1] at hva
  rw [h2] at hvb
  rw [h3] at hvc
  have hba0:=bd_sl (f:=Rpt.v) hta (fun _=>rfl) a
  have hbb0:=bd_sl (f:=Rpt.v) htb (fun _=>rfl) b
  have hba:PV.bds 0 [.sl ta (a.map Rpt.v)]=true:=bds_cons hba0 rfl
  have hbb:PV.bds 0 [.sl tb (b.map Rpt.v)]=true:=bds_cons hbb0 rfl
  have hbc:PV.bds 0 [.sl .no ((std (a++b)).map Rpt.v)]=true:=bds_cons (bd_sl (f:=Rpt.v) (tl:=.no) rfl (fun _=>rfl) _) rfl
  have hbs:PV.bds 0 [.sl .ex [.sl ta (a.map Rpt.v),.sl tb (b.map Rpt.v)]]=true:=by
    simp only [PV.bds,PV.bd,hba0,hbb0,Bool.and_self]
  have hbf:PV.bds 0 [fmR (stdM (a++b))]=true:=by simp only [PV.bds,bd_fmR,Bool.and_self]
  refine PFun.of (C:=c49) (cx_ok _ _ _) rfl (fn:=Tryz.f49) (by kernel_rfl) (c:=_) rfl rfl rfl ?_
  refine Run.seq (Run.region (cx_ok _ _ _) (Reg.op rfl (Ope.asg rfl ?_)))
  refine Reg.nil (Run.seq (Run.region (cx_ok _ _ _) (Reg.op rfl (Ope.load rfl rfl ?_))))
  refine Reg.op rfl (Ope.cf rfl rfl hva hba ?_)
  refine Reg.op rfl (Ope.mov rfl ?_)
  refine Reg.on rfl rfl rfl (Ope.load rfl rfl ?_)
  refine Reg.on rfl rfl rfl (Ope.cf rfl rfl hvb hbb ?_)
  refine Reg.op rfl (Ope.pickT rfl rfl ?_)
  refine Reg.op rfl (Ope.cf rfl rfl (f50t 1) rfl ?_)
  refine Reg.nil (Run.seq (Run.region (cx_ok _ _ _) (Reg.op rfl (Ope.load rfl rfl ?_))))
  refine Reg.op rfl (Ope.load rfl rfl ?_)
  refine Reg.op rfl (Ope.bsl rfl rfl rfl rfl ?_)
  refine Reg.op rfl (Ope.cf rfl rfl hst hbs ?_)
  refine Reg.op rfl (Ope.cf rfl rfl hjo hbf ?_)
  refine Reg.op rfl (Ope.asg rfl ?_)
  refine Reg.nil (Run.seq (Run.region (cx_ok _ _ _) (Reg.op rfl (Ope.mov rfl ?_))))
  refine Reg.op rfl (Ope.cf rfl rfl hvc hbc ?_)
  refine Reg.op rfl (Ope.cf rfl rfl (f50t 9) rfl ?_)
  refine Reg.nil (Run.seq (Run.region (cx_ok _ _ _) (Reg.op rfl (Ope.mov rfl ?_))))
  refine Reg.op rfl (Ope.asg rfl ?_)
  exact Reg.nil (Run.ret (fin_ret (.tmp rfl .nil) (bd_sl (f:=Rpt.v) (tl:=.no) rfl (fun _=>rfl) _) rfl))
theorem f49n (h3:jouB (std (a++b))=false):Pan P0 49 [.fp (.sl ta (a.map Rpt.v)),.fp (.sl tb (b.map Rpt.v))] (.ifc 25 (I 9)):=by
  obtain ⟨hst,hjo⟩:=mrg_st ta tb hta htb a b ha hb h1 h2 hs
  have hva:=f51 ta hta a ha
  have hvb:=f51 tb htb b hb
  have hvc:=f51 .no rfl (std (a++b)) (by omega)
  rw [h1] at hva
  rw [h2] at hvb
  rw [h3] at hvc
  have hba0:=bd_sl (f:=Rpt.v) hta (fun _=>rfl) a
  have hbb0:=bd_sl (f:=Rpt.v) htb (fun _=>rfl) b
  have hba:PV.bds 0 [.sl ta (a.map Rpt.v)]=true:=bds_cons hba0 rfl
  have hbb:PV.bds 0 [.sl tb (b.map Rpt.v)]=true:=bds_cons hbb0 rfl
  have hbc:PV.bds 0 [.sl .no ((std (a++b)).map Rpt.v)]=true:=bds_cons (bd_sl (f:=Rpt.v) (tl:=.no) rfl (fun _=>rfl) _) rfl
  have hbs:PV.bds 0 [.sl .ex [.sl ta (a.map Rpt.v),.sl tb (b.map Rpt.v)]]=true:=by
    simp only [PV.bds,PV.bd,hba0,hbb0,Bool.and_self]
  have hbf:PV.bds 0 [fmR (stdM (a++b))]=true:=by simp only [PV.bds,bd_fmR,Bool.and_self]
  refine PFun.of (C:=c49) (cx_ok _ _ _) rfl (fn:=Tryz.f49) (by kernel_rfl) (c:=_) rfl rfl rfl ?_
  refine Run.seq (Run.region (cx_ok _ _ _) (Reg.op rfl (Ope.asg rfl ?_)))
  refine Reg.nil (Run.seq (Run.region (cx_ok _ _ _) (Reg.op rfl (Ope.load rfl rfl ?_))))
  refine Reg.op rfl (Ope.cf rfl rfl hva hba ?_)
  refine Reg.op rfl (Ope.mov rfl ?_)
  refine Reg.on rfl rfl rfl (Ope.load rfl rfl ?_)
  refine Reg.on rfl rfl rfl (Ope.cf rfl rfl hvb hbb ?_)
  refine Reg.op rfl (Ope.pickT rfl rfl ?_)
  refine Reg.op rfl (Ope.cf rfl rfl (f50t 1) rfl ?_)
  refine Reg.nil (Run.seq (Run.region (cx_ok _ _ _) (Reg.op rfl (Ope.load rfl rfl ?_))))
  refine Reg.op rfl (Ope.load rfl rfl ?_)
  refine Reg.op rfl (Ope.bsl rfl rfl rfl rfl ?_)
  refine Reg.op rfl (Ope.cf rfl rfl hst hbs ?_)
  refine Reg.op rfl (Ope.cf rfl rfl hjo hbf ?_)
  refine Reg.op rfl (Ope.asg rfl ?_)
  refine Reg.nil (Run.seq (Run.region (cx_ok _ _ _) (Reg.op rfl (Ope.mov rfl ?_))))
  refine Reg.op rfl (Ope.cf rfl rfl hvc hbc ?_)
  refine Reg.op rfl (Ope.cp rfl rfl (f50f 9) rfl (fin_panic rfl rfl))
end
theorem f14 (hs : jouB a = true → jouB b = true → (std (a ++ b)).length ≤ 12) : ∃ t3 : Tail, t3.isOwn = false ∧ Fn P0 14 [.sl ta (a.map Rpt.v), .sl tb (b.map Rpt.v)] (.tup [.sl t3 ((if mrgE a b = 0 then std (a ++ b) else []).map Rpt.v), I (mrgE a b)]) := by
  have hba0:=bd_sl (f:=Rpt.v) hta (fun _=>rfl) a
  have hbb0:=bd_sl (f:=Rpt.v) htb (fun _=>rfl) b
  have hba1:PV.bd 0 (.fp (.sl ta (a.map Rpt.v)))=true:=by
    have h:=hba0
    cases ta<;>first | (cases hta;done) | (simp only [PV.bd] at h ⊢;simp [h])
  have hbb1:PV.bd 0 (.fp (.sl tb (b.map Rpt.v)))=true:=by
    have h:=hbb0
    cases tb<;>first | (cases htb;done) | (simp only [PV.bd] at h ⊢;simp [h])
  have hbd:PV.bds 0 [.fp (.sl ta (a.map Rpt.v)),.fp (.sl tb (b.map Rpt.v))]=true:=by simp only [PV.bds,hba1,hbb1,Bool.and_self]
  have h:∃ t3:Tail,t3.isOwn=false∧Fn P0 48 [.fn (.func 49) [] [.fp (.sl ta (a.map Rpt.v)),.fp (.sl tb (b.map Rpt.v))]] (.tup [.sl t3 ((if mrgE a b=0 then std (a++b) else []).map Rpt.v),I (mrgE a b)]):=by
    unfold mrgE
    by_cases h1:jouB a=true
    · rw [if_pos h1]
      by_cases h2:jouB b=true
      · rw [if_pos h2]
        by_cases h3:jouB (std (a++b))=true
        · rw [if_pos h3, if_pos rfl]
          exact ⟨.no,rfl,f48ok (bd_sl (f:=Rpt.v) (tl:=.no) rfl (fun _=>rfl) _) (f49t ta tb hta htb a b ha hb h1 h2 (hs h1 h2) h3) hbd⟩
        · rw [if_neg h3, if_neg (by decide)]
          exact ⟨.ex,rfl,f48er (f49n ta tb hta htb a b ha hb h1 h2 (hs h1 h2) (by simpa using h3)) hbd⟩
      · rw [if_neg h2, if_neg (by decide)]
        exact ⟨.ex,rfl,f48er (f49f ta tb hta htb a b ha hb (.inr ⟨h1,by simpa using h2⟩)) hbd⟩
    · rw [if_neg h1, if_neg (by decide)]
      exact ⟨.ex,rfl,f48er (f49f ta tb hta htb a b ha hb (.inl (by simpa using h1))) hbd⟩
  obtain ⟨t3,ht3,h⟩:=h
  refine ⟨t3,ht3,?_⟩
  have hbf:PV.bds 0 [.fn (.func 49) [] [.fp (.sl ta (a.map Rpt.v)),.fp (.sl tb (b.map Rpt.v))]]=true:=bds_cons (by simp only [PV.bd,hbd];rfl) rfl
  have hb3:=bd_sl (f:=Rpt.v) ht3 (fun _=>rfl) (if mrgE a b=0 then std (a++b) else [])
  refine PFun.of (C:=c14) (cx_ok _ _ _) rfl (fn:=Tryz.f14) (by kernel_rfl) (c:=_) rfl rfl rfl ?_
  refine Run.seq (Run.region (cx_ok _ _ _) (Reg.op rfl (Ope.boxF rfl rfl ?_)))
  refine Reg.op rfl (Ope.boxF rfl rfl ?_)
  refine Reg.op rfl (Ope.asg rfl ?_)
  refine Reg.op rfl (Ope.asg rfl ?_)
  refine Reg.nil (Run.seq (Run.region (cx_ok _ _ _) (Reg.op rfl (Ope.mkf rfl rfl ?_))))
  refine Reg.op rfl (Ope.cf rfl rfl h hbf ?_)
  refine Reg.op rfl (Ope.ext rfl rfl ?_)
  refine Reg.op rfl (Ope.ext rfl rfl ?_)
  refine Reg.op rfl (Ope.asg rfl ?_)
  refine Reg.op rfl (Ope.asg rfl ?_)
  exact Reg.nil (Run.ret (fin_ret (.tmp rfl (.tmp rfl .nil)) (by simp only [pone,PV.bd,PV.bds] at hb3 ⊢;simp [hb3]) rfl))
end
end Go.Pv
namespace Go.Pv
open Go.Am Go.RowKit
def esL (L:List (Int×PV×Nat)):List (AV×PV×Nat):=L.map fun p=>(AV.int .i64 p.1,p.2.1,p.2.2)
theorem pfind_L {A:AP} {E:Eqs} {kt:TypeId} {kd:IntKind} (hk:A.under kt=some (.int kd)) (x:Int):∀ (L:List (Int×PV×Nat)) (i:Nat),(L.map (·.1)).Nodup→∃ r,pfind A E kt (.int .i64 x) (esL L) i=some r ∧
  (r=none→L.filter (fun p=>decide (p.1≠x))=L)∧∀ j v,r=some (j,v)→i≤j∧(esL L).eraseIdx (j - i)=esL (L.filter fun p=>decide (p.1≠x))
 |[],i,_=>⟨none,rfl,fun _=>rfl,fun j v h=>by cases h⟩
 |p :: L, i, hn => by
  simp only [List.map_cons,List.nodup_cons] at hn
  simp only [esL,List.map_cons,pfind,aeqv_int hk]
  by_cases hp:p.1=x
  ·have e1:(x == p.1)=true:=by rw [hp];simp
   rw [e1]
   refine ⟨_,rfl,(fun h=>by cases h),fun j v h=>?_⟩
   cases h
   have hf:L.filter (fun p=>decide (p.1≠x))=L:=List.filter_eq_self.2 fun q hq=>by
    have:q.1≠p.1:=fun e=>hn.1 (by rw [← e];exact List.mem_map_of_mem hq)
    simp [← hp,this]
   refine ⟨Nat.le_refl _,?_⟩
   rw [Nat.sub_self,List.filter_cons,decide_eq_false (by simp [hp])]
   simp only [List.eraseIdx_cons_zero,Bool.false_eq_true,if_false,hf]
  ·have e1:(x == p.1)=false:=by simp only [beq_eq_false_iff_ne,ne_eq];exact fun h=>hp h.symm
   rw [e1]
   obtain ⟨r,h1,h2,h3⟩:=pfind_L hk x L (i+1) hn.2
   refine ⟨r,h1,fun h=>?_,fun j v h=>?_⟩
   ·rw [List.filter_cons,decide_eq_true hp,if_pos rfl,h2 h]
   ·obtain ⟨g1,g2⟩:=h3 j v h
    have hj:j - i=(j - (i+1))+1:=by omega
    refine ⟨by omega,?_⟩
    rw [hj,List.eraseIdx_cons_succ,List.filter_cons,decide_eq_true hp,if_pos rfl,List.map_cons]
    exact congrArg _ g2
section
variable {C:Cx} {X:EX} {e:EL} {ds:List Nat} {n:Nat} {l:HL} {K:PV→PH→Prop}
variable {d:Option Nat} {type:TypeId} {pos:String} {after:Array Edge} {guard:Option (Nat×Bool)}
theorem Ope.rngL {t kt j:Nat} {z:PV} {x:Operand} {es:List (AV×PV×Nat)} {clock:Nat} [hm:Mpt C.A t kt z] (hx:pev (lget e) x=some (.mp j)) (hg:hget l j=some (.map es clock)) (hK:K (.ptr n 0) (HE (n+1) ((n,some (.iter (some j) clock [] clock))::l))) :
  Ope C X { dst:=d,op:=.range t x,type,pos,after,guard } e ds (HE n l) K:=by
 obtain ⟨et,h1,h2⟩:=hm.get
 unfold Ope
 simp only [pop,pkind,ploud,hx,PRangeM,h1]
 exact ⟨es,clock,hg,by rw [HE_add];exact hK⟩
theorem Ope.nxtL {i j since last clock:Nat} {seen:List Nat} {x:Operand} {b:Bool} {L:List (Int×PV×Nat)} (hx:pev (lget e) x=some (.ptr i 0)) (hg:hget l i=some (.iter (some j) since seen last)) (hj:hget l j=some (.map (esL L) clock)) (hb:b=false) (hs:since≤last) (hbn:∀ p∈L,p.2.2 < since)
  (h1:(∀ p∈L,p.2.2∈seen)→K (.tup [B false]) (HE n l))
  (h2:∀ p∈L,p.2.2 ∉ seen→K (.tup [B true,I p.1,p.2.1]) (HE n ((i,some (.iter (some j) since (seen++[p.2.2]) clock))::l))) :
  Ope C X { dst:=d,op:=.next x b,type,pos,after,guard } e ds (HE n l) K:=by
 subst hb
 unfold Ope
 simp only [pop,pkind,ploud,hx,PNext]
 refine .inr ⟨some j,since,seen,last,hg,esL L,clock,hj,hs,fun q hq=>?_,fun hall=>h1 fun p hp=>?_,fun q hq hns=>?_⟩
 ·obtain ⟨p,hp,rfl⟩:=List.mem_map.1 hq
  exact hbn p hp
 ·exact hall _ (List.mem_map_of_mem hp)
 ·obtain ⟨p,hp,rfl⟩:=List.mem_map.1 hq
  exact ⟨I p.1,rfl,by rw [HE_put];exact h2 p hp hns⟩
theorem Ope.entL {i j since clock:Nat} {seen:List Nat} {x:Operand} {L:List (Int×PV×Nat)} {p:Int×PV×Nat} (hn:(L.map (·.2.2)).Nodup) (hp:p∈L) (hx:pev (lget e) x=some (.ptr i 0)) (hg:hget l i=some (.iter (some j) since (seen++[p.2.2]) clock)) (hj:hget l j=some (.map (esL L) clock))
  (hK:K (.tup [I p.1,p.2.1]) (HE n l)):Ope C X { dst:=d,op:=.entry x,type,pos,after,guard } e ds (HE n l) K:=by
 unfold Ope
 simp only [pop,pkind,ploud,hx,PEntry]
 refine .inr ⟨j,since,seen,p.2.2,esL L,clock,hg,hj,(AV.int .i64 p.1,p.2.1,p.2.2),I p.1,?_,rfl,hK⟩
 clear hg hj hx hK
 induction L with
 |nil=>cases hp
 |cons q L ih =>
  simp only [List.map_cons,List.nodup_cons] at hn
  simp only [esL,List.map_cons,List.find?_cons]
  rcases List.mem_cons.1 hp with rfl | hp
  ·simp
  ·have:q.2.2≠p.2.2:=fun e=>hn.1 (by rw [e];exact List.mem_map_of_mem hp)
   rw [show (q.2.2 == p.2.2)=false from by simpa using this]
   exact ih hn.2 hp
theorem Ope.delL {t tk kt i clock:Nat} {z:PV} {kd:IntKind} {x y:Operand} {L:List (Int×PV×Nat)} {q:Int} [hm:Mpt C.A t kt z] (hkd:C.A.under kt=some (.int kd)) (hx:pev (lget e) x=some (.mp i)) (hk:pev (lget e) y=some (I q)) (hg:hget l i=some (.map (esL L) clock)) (hn:(L.map (·.1)).Nodup)
  (hK:K (.tup []) (HE n ((i,some (.map (esL (L.filter fun p=>decide (p.1≠q))) clock))::l))) :
  Ope C X { dst:=d,op:=.call { callee:=.builtin .delete,args:=#[x,y],argTypes:=#[t,tk] },type,pos,after,guard } e ds (HE n l) K:=by
 obtain ⟨et,h1,h2⟩:=hm.get
 obtain ⟨r,r1,r2,r3⟩:=pfind_L (A:=C.A) (E:=C.E) hkd q L 0 hn
 unfold Ope
 simp only [pop,pkind,ploud,pargs,hx,hk,PDelete,h1]
 refine ⟨esL L,clock,_,r,hg,rfl,acheck_int hkd q,r1,?_⟩
 cases r with
 |none =>
  rw [HE_put]
  rw [r2 rfl] at hK
  exact hK
 |some jv =>
  obtain ⟨j,v⟩:=jv
  obtain ⟨_,g⟩:=r3 j v rfl
  rw [Nat.sub_zero] at g
  show K _ _
  rw [HE_put,g]
  exact hK
end
end Go.Pv
