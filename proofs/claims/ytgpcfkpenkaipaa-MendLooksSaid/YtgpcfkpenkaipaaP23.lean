/- Parts of the proof: M40, M49, M50, M51, M30 -/
import Derived.Test.YtgpcfkpenkaipaaP22
import Derived.Test.YtgpcfkpenkaipaaP20
import Derived.Test.YtgpcfkpenkaipaaP12
set_option linter.unusedVariables false
set_option linter.unusedSimpArgs false
set_option linter.unusedSectionVars false
namespace Go.Pv
open Go.Proofs Go.Am
set_option maxRecDepth 10000
theorem lo_all {s:Shp}:s.lo (allN s.jo.length)=true:=by
  unfold Shp.lo
  have h:lft s.jo.length (allN s.jo.length)=0:=(lft_all (by have:=Nat.two_pow_pos s.jo.length;unfold allN;omega)).2 rfl
  rw [h]
  rfl
theorem loL_iff {s:Shp} {q x:Nat}:x∈s.loL q↔x < q∧s.lo x=true:=by
  unfold Shp.loL
  rw [List.mem_filter,List.mem_range]
theorem drp_spec (s:Shp):s.drp < 2 ^ s.jo.length∧s.lo s.drp=true∧∀ y,y < 2 ^ s.jo.length→s.lo y=true→cn s.drp < cn y∨(cn s.drp=cn y∧s.drp≤y):=by
  have hall:allN s.jo.length∈s.loL (2 ^ s.jo.length):=loL_iff.2 ⟨by have:=Nat.two_pow_pos s.jo.length;unfold allN;omega,lo_all⟩
  have hup:(s.loL (2 ^ s.jo.length)).Pairwise (· < ·):=(range_up _).filter _
  have hm:∀ x,x∈s.loL (2 ^ s.jo.length)↔x < 2 ^ s.jo.length∧s.lo x=true:=fun x=>loL_iff
  unfold Shp.drp
  cases hq:s.loL (2 ^ s.jo.length) with
  | nil=>rw [hq] at hall;cases hall
  | cons a L =>
    rw [hq] at hup hm
    have h1:=(hm _).1 (leastBy_mem (fun x=>(cn x:Int)) L a)
    refine ⟨h1.1,h1.2,fun y hy hl=>?_⟩
    have h2:=leastBy_le (fun x=>(cn x:Int)) L a y ((hm y).2 ⟨hy,hl⟩)
    show cn (leastBy (fun x=>(cn x:Int)) a L) < _∨_
    by_cases he:cn (leastBy (fun x=>(cn x:Int)) a L)=cn y
    · refine .inr ⟨he, ?_⟩
      rcases leastBy_first (fun x=>(cn x:Int)) L a hup y ((hm y).2 ⟨hy,hl⟩) (by show (cn y:Int)≤_;omega) with h | h
      · exact Nat.le_of_eq h.symm
      · exact Nat.le_of_lt h
    · exact .inl (by omega)
end Go.Pv
namespace Go.Pv
open Go.Proofs Go.Am
set_option maxRecDepth 10000
theorem leastBy_mapm {α β : Type} {f : α → Int} {g : β → α} {h : β → Int} : ∀ (l : List β) (a : β), (∀ b ∈ a :: l, f (g b) = h b) → leastBy f (g a) (l.map g) = g (leastBy h a l)
  | [],a,_=>rfl
  | b :: l, a, hg => by
    have ha:=hg a (by simp)
    have hb:=hg b (by simp)
    rw [List.map_cons,leastBy,leastBy,ha,hb]
    by_cases h1:h b < h a
    · rw [if_pos h1, if_pos h1]
      exact leastBy_mapm l b fun c hc=>hg c (List.mem_cons_of_mem _ hc)
    · rw [if_neg h1, if_neg h1]
      exact leastBy_mapm l a fun c hc=>hg c (by
        rcases List.mem_cons.1 hc with rfl | hc
        · simp
        · exact List.mem_cons_of_mem _ (List.mem_cons_of_mem _ hc))
theorem ors_all {s:Shp} {o:List Nat}:o∈s.ors 0↔Ordr s.jo.length o∧s.rgt o=true:=by
  unfold Shp.ors
  rw [lft_0]
  constructor
  · intro h
    obtain ⟨q,hq,rfl⟩:=List.mem_map.1 h
    have:=(mem_all (s:=s)).1 hq
    exact ⟨this.1,this.2.1⟩
  · intro ⟨h1, h2⟩
    exact List.mem_map.2 ⟨⟨o,s.cst Shp.p0 o,(s.past Shp.p0 o).f1⟩,(mem_all (s:=s)).2 ⟨h1,h2,rfl,rfl⟩,rfl⟩
theorem ors_best {s:Shp} {a:List Nat} {L:List (List Nat)} (h:s.ors 0=a::L):leastBy (s.cst Shp.p0) a (a::L)=s.all.o:=by
  have hl:leastBy (s.cst Shp.p0) a (a::L)=leastBy (s.cst Shp.p0) a L:=by rw [leastBy,if_neg (by omega)]
  rw [hl]
  have hm:=fun q=>mem_all (s:=s) (q:=q)
  unfold Shp.ors at h
  rw [lft_0] at h
  change (s.sqs s.jo.length Shp.p0).map Sq.o=_ at h
  unfold Shp.all Shp.out
  cases hq:s.sqs s.jo.length Shp.p0 with
  | nil=>rw [hq] at h;cases h
  | cons b M =>
    rw [hq] at h hm
    rw [List.map_cons] at h
    obtain ⟨rfl,rfl⟩:=List.cons.inj h
    rw [leastBy_mapm (h:=Sq.c) M b fun c hc=>((hm c).1 hc).2.2.1.symm]
    rfl
theorem drp_is {s:Shp} {b:Nat} (hb:b < 2 ^ s.jo.length) (hl:s.lo b=true) (hm:∀ y,y < 2 ^ s.jo.length→s.lo y=true→cn b < cn y∨(cn b=cn y∧b≤y)):b=s.drp:=by
  obtain ⟨h1,h2,h3⟩:=drp_spec s
  have a:=h3 b hb hl
  have c:=hm _ h1 h2
  omega
section
variable (s:Shp) {t1 t2:Tail} (h1:t1.isOwn=false) (h2:t2.isOwn=false)
include h1 h2
theorem f66 (hs:s.ok 30) (tq:Tail) (htq:tq.isOwn=false) (o:List Nat) (ho:Ordr s.jo.length o):Fn P0 66 [s.v t1 t2,.sl tq (o.map N)] (I (s.cst Shp.p0 o)):=by
  have hol:=ho.len
  have hn6:=hs.jo
  have hdo:=f49 s h1 h2 hs tq o (by omega) ho.lt true
  have hbd:PV.bds 0 [s.v t1 t2,.sl tq (o.map N),B true]=true:=bd_shpV s h1 h2 (bds_cons (bd_sl (f:=N) htq (fun _=>rfl) _) rfl)
  have hdl:=dn_len s true o
  have hst:∀ i (hi:i < o.length) (hw:i < (s.dn true o).length),s.cst Shp.p0 (o.take (i+1))=s.cst Shp.p0 (o.take i)+(s.job o[i]).co * max 0 ((s.dn true o)[i] - (s.job o[i]).so)∧0≤(s.dn true o)[i]∧(s.dn true o)[i]≤6000:=fun i hi hw=>by
    have hd:(s.dn true o)[i]=(s.wrk (s.past Shp.p0 (o.take i)) o[i]).d1:=by
      simp only [Shp.dn,List.getElem_map,Wrk.d,if_true]
      rw [alg_at s o Shp.p0 i hi]
    rw [hd]
    refine ⟨by rw [List.take_succ_eq_append_getElem hi,cst_snoc];rfl,?_⟩
    have h:=past_f1b h1 h2 hs ho (i+1)
    rw [List.take_succ_eq_append_getElem hi,past_snoc] at h
    have h3:(s.aft (s.wrk (s.past Shp.p0 (o.take i)) o[i])).f1=(s.wrk (s.past Shp.p0 (o.take i)) o[i]).d1:=rfl
    omega
  generalize s.dn true o=D at *
  refine PFun.of (C:=c66) (cx_ok _ _ _) rfl (fn:=Try.f66) (by kernel_rfl) (c:=_) rfl rfl rfl ?_
  refine Run.seq (Run.region (cx_ok _ _ _) (Reg.op rfl (Ope.boxF rfl rfl ?_)))
  refine Reg.op rfl (Ope.asg rfl ?_)
  refine Reg.nil (Run.seq (Run.region (cx_ok _ _ _) (Reg.op rfl (Ope.load rfl rfl ?_))))
  refine Reg.op rfl (Ope.mov rfl ?_)
  refine Reg.op rfl (Ope.cf rfl rfl hdo hbd ?_)
  refine Reg.op rfl (Ope.asg rfl ?_)
  refine Reg.op rfl (Ope.asg rfl ?_)
  refine Reg.nil (Run.seq (Run.seq (Run.region (cx_ok _ _ _) (Reg.op rfl (Ope.asg rfl ?_)))))
  refine Reg.nil (Run.block (Run.loop (α:=Nat) (fun i=>[(1,.sl tq (o.map N)),(2,.fp (s.v t1 t2)),(5,.sl .no (D.map I)),(6,I (s.cst Shp.p0 (o.take i))),(7,I i)]) (fun _=>HE 0 []) (fun i=>i≤o.length∧0≤s.cst Shp.p0 (o.take i)∧s.cst Shp.p0 (o.take i)≤1000000 * i) (fun i=>o.length - i) 0 ⟨rfl,rfl,rfl,rfl,rfl,trivial⟩ rfl ⟨Nat.zero_le _,Int.le_refl _,Int.le_refl _⟩ (fun i hi=>?_)))
  obtain ⟨hi,hcb⟩:=hi
  refine Run.seq (Run.seq (Run.region (cx_ok _ _ _) (Reg.op rfl (Ope.mov rfl ?_))))
  refine Reg.op rfl (Ope.mov rfl ?_)
  refine Reg.op rfl (Ope.len (m:=o.length) rfl (by simp) ?_)
  refine Reg.op rfl (Ope.lt rfl rfl ?_)
  refine Reg.nil (Run.condX rfl (fun hc=>?_) fun hc=>?_)
  ·refine Run.skip (Run.seq (Run.block ?_))
   have hlt:i < o.length:=by omega
   have hwi:i < D.length:=by omega
   have hoi:o[i] < s.jo.length:=ho.lt _ (List.getElem_mem hlt)
   have hst:=hst i hlt hwi
   have hj:=hs.job hoi
   rw [Shp.job_at hoi] at hst hj
   have hco:=hj.co
   have hso:=hj.so
   have hm1:0≤s.jo[o[i]].co * max 0 (D[i] - s.jo[o[i]].so):=Int.mul_nonneg hco.1 (by omega)
   have hm3:s.jo[o[i]].co * max 0 (D[i] - s.jo[o[i]].so)≤50 * 6000:=Int.mul_le_mul hco.2 (by omega) (by omega) (by decide)
   refine Run.draw (cx_ok _ _ _) [(0,true),(1,true),(2,true),(3,true),(4,true),(5,true),(6,true),(7,true),(8,true),(9,true),(10,true),(11,true),(12,true),(13,true),(14,true),(15,true),(16,true),(17,true),(18,true),(19,true),(20,true),(21,true),(22,true),(23,true),(24,true),(25,true),(26,true),(27,true)] (by kernel_rfl) (Dra.op' rfl rfl rfl .sure (Ope.mov rfl ?_))
   refine Dra.op' rfl rfl rfl .sure (Ope.fld rfl rfl ?_)
   refine Dra.op' rfl rfl rfl .sure (Ope.load rfl rfl ?_)
   refine Dra.op' rfl rfl rfl .sure (Ope.mov rfl ?_)
   refine Dra.op' rfl rfl rfl .sure (Ope.mov rfl ?_)
   refine Dra.op' rfl rfl rfl .sure (Ope.idxM (m:=i) (f:=N) rfl rfl rfl hlt (fun _=>rfl) ?_)
   refine Dra.op' rfl rfl rfl .sure (Ope.load rfl rfl ?_)
   refine Dra.op' rfl rfl rfl .sure (Ope.idxM (m:=o[i]) (f:=Job.v) rfl rfl rfl hoi (fun _=>rfl) ?_)
   refine Dra.op' rfl rfl rfl .sure (Ope.fld rfl rfl ?_)
   refine Dra.op' rfl rfl rfl .sure (Ope.load rfl rfl ?_)
   refine Dra.op' rfl rfl rfl .sure (Ope.mov rfl ?_)
   refine Dra.op' rfl rfl rfl .sure (Ope.mov rfl ?_)
   refine Dra.op' rfl rfl rfl .sure (Ope.idxM (m:=i) (f:=I) rfl rfl rfl hwi (fun _=>rfl) ?_)
   refine Dra.op' rfl rfl rfl .sure (Ope.load rfl rfl ?_)
   refine Dra.op' rfl rfl rfl .sure (Ope.fld rfl rfl ?_)
   refine Dra.op' rfl rfl rfl .sure (Ope.load rfl rfl ?_)
   refine Dra.op' rfl rfl rfl .sure (Ope.mov rfl ?_)
   refine Dra.op' rfl rfl rfl .sure (Ope.mov rfl ?_)
   refine Dra.op' rfl rfl rfl .sure (Ope.idxM (m:=i) (f:=N) rfl rfl rfl hlt (fun _=>rfl) ?_)
   refine Dra.op' rfl rfl rfl .sure (Ope.load rfl rfl ?_)
   refine Dra.op' rfl rfl rfl .sure (Ope.idxM (m:=o[i]) (f:=Job.v) rfl rfl rfl hoi (fun _=>rfl) ?_)
   refine Dra.op' rfl rfl rfl .sure (Ope.fld rfl rfl ?_)
   refine Dra.op' rfl rfl rfl .sure (Ope.load rfl rfl ?_)
   refine Dra.op' rfl rfl rfl .sure (Ope.sub rfl rfl (by omega) ?_)
   refine Dra.op' rfl rfl rfl .sure (Ope.maxI rfl rfl ?_)
   refine Dra.op' rfl rfl rfl .sure (Ope.mul rfl rfl (by omega) ?_)
   refine Dra.op' rfl rfl rfl .sure (Ope.add rfl rfl (by omega) ?_)
   refine Dra.op' rfl rfl rfl .sure (Ope.asg rfl ?_)
   refine Dra.nil (Run.bend (Run.region (cx_ok _ _ _) (Reg.op rfl (Ope.mov rfl ?_))))
   refine Reg.op rfl (Ope.add rfl rfl (by omega) ?_)
   refine Reg.op rfl (Ope.asg rfl ?_)
   exact Reg.nil (Run.lend ⟨i+1,by omega,⟨by omega,by rw [hst.1];omega,by rw [hst.1];omega⟩,⟨rfl,rfl,rfl,(by rw [hst.1];rfl),rfl,trivial⟩,rfl,rfl⟩)
  ·refine Run.exit (Jmp.code (Jmp.round (Jmp.here (Run.seq ?_))))
   obtain rfl:i=o.length:=by omega
   rw [List.take_length]
   refine Run.region (cx_ok _ _ _) (Reg.op rfl (Ope.mov rfl ?_))
   refine Reg.op rfl (Ope.asg rfl ?_)
   exact Reg.nil (Run.ret (fin_ret (.tmp rfl .nil) rfl rfl))
theorem f65ba (hi:s.i64) (hS:s.su.length≤1000000) (hJ:s.jo.length≤1000000) (hv:s.val=false):Fn P0 65 [s.v t1 t2] (.tup [.sl .ex [],I 1]):=by
  have hme:=f25 s h1 h2 hi hS hJ
  rw [hv] at hme
  have hbs:PV.bds 0 [s.v t1 t2]=true:=bd_shpV s h1 h2 rfl
  refine PFun.of (C:=c65) (cx_ok _ _ _) rfl (fn:=Try.f65) (by kernel_rfl) (c:=_) rfl rfl rfl ?_
  refine Run.seq (Run.region (cx_ok _ _ _) (Reg.op rfl (Ope.boxF rfl rfl ?_)))
  refine Reg.op rfl (Ope.asg rfl ?_)
  refine Reg.op rfl (Ope.asg rfl ?_)
  refine Reg.nil (Run.seq (Run.seq (Run.region (cx_ok _ _ _) (Reg.op rfl (Ope.load rfl rfl ?_)))))
  refine Reg.op rfl (Ope.cf rfl rfl hme hbs ?_)
  refine Reg.op rfl (Ope.not rfl ?_)
  refine Reg.nil (Run.condX rfl (fun hc=>?_) fun hc=>?_)
  ·refine Run.seq (Run.region (cx_ok _ _ _) (Reg.op rfl (Ope.asg rfl ?_)))
   refine Reg.op rfl (Ope.asg rfl ?_)
   exact Reg.nil (Run.ret (Jmp.code (fin_ret (.tmp rfl (.tmp rfl .nil)) rfl rfl)))
  ·cases hc
theorem f65ok (hi:s.i64) (hv:s.val=true):Fn P0 65 [s.v t1 t2] (if s.ors 0=[] then .tup [.sl .ex [],I 4] else .tup [.sl .no ((s.ors 0).map gV),I 0]):=by
  have hs:=val_ok hi hv
  have hme:=f25 s h1 h2 hi (by have:=hs.su;omega) (by have:=hs.jo;omega)
  rw [hv] at hme
  have hbs:PV.bds 0 [s.v t1 t2]=true:=bd_shpV s h1 h2 rfl
  have hb0:PV.bds 0 [s.v t1 t2,I 0]=true:=bd_shpV s h1 h2 rfl
  have hor:Fn P0 58 [s.v t1 t2,I 0] (.sl .no ((s.ors 0).map gV)):=f58 s h1 h2 hs 0 (Nat.two_pow_pos _)
  generalize s.ors 0=L at *
  have hbL:PV.bd 0 (.sl .no (L.map gV))=true:=bd_sl (f:=gV) (tl:=.no) rfl (fun l=>bd_sl (f:=N) (tl:=.no) rfl (fun _=>rfl) l) L
  refine PFun.of (C:=c65) (cx_ok _ _ _) rfl (fn:=Try.f65) (by kernel_rfl) (c:=_) rfl rfl rfl ?_
  refine Run.seq (Run.region (cx_ok _ _ _) (Reg.op rfl (Ope.boxF rfl rfl ?_)))
  refine Reg.op rfl (Ope.asg rfl ?_)
  refine Reg.op rfl (Ope.asg rfl ?_)
  refine Reg.nil (Run.seq (Run.seq (Run.region (cx_ok _ _ _) (Reg.op rfl (Ope.load rfl rfl ?_)))))
  refine Reg.op rfl (Ope.cf rfl rfl hme hbs ?_)
  refine Reg.op rfl (Ope.not rfl ?_)
  refine Reg.nil (Run.condX rfl (fun hc=>?_) fun hc=>?_)
  ·cases hc
  ·refine Run.skip (Run.seq (Run.region (cx_ok _ _ _) (Reg.op rfl (Ope.load rfl rfl ?_))))
   refine Reg.op rfl (Ope.cf rfl rfl hor hb0 ?_)
   refine Reg.op rfl (Ope.asg rfl ?_)
   refine Reg.nil (Run.seq (Run.seq (Run.region (cx_ok _ _ _) (Reg.op rfl (Ope.mov rfl ?_)))))
   refine Reg.op rfl (Ope.len (m:=L.length) rfl (by simp) ?_)
   refine Reg.op rfl (Ope.eq rfl rfl ?_)
   refine Reg.nil (Run.condX rfl (fun hc=>?_) fun hc=>?_)
   ·refine Run.seq (Run.region (cx_ok _ _ _) (Reg.op rfl (Ope.asg rfl ?_)))
    refine Reg.op rfl (Ope.asg rfl ?_)
    refine Reg.nil (Run.ret (Jmp.code (fin_ret (.tmp rfl (.tmp rfl .nil)) (by first | rfl | exact bds_cons hbL rfl) ?_)))
    first
    | (rw [if_pos (List.eq_nil_of_length_eq_zero (by omega))];rfl)
    | (rw [if_neg (fun h=>by rw [h] at hc;exact hc rfl)];rfl)
   ·refine Run.skip (Run.seq (Run.region (cx_ok _ _ _) (Reg.op rfl (Ope.mov rfl ?_))))
    refine Reg.op rfl (Ope.asg rfl ?_)
    refine Reg.op rfl (Ope.asg rfl ?_)
    refine Reg.nil (Run.ret (fin_ret (.tmp rfl (.tmp rfl .nil)) (by first | rfl | exact bds_cons hbL rfl) ?_))
    first
    | (rw [if_pos (List.eq_nil_of_length_eq_zero (by omega))];rfl)
    | (rw [if_neg (fun h=>by rw [h] at hc;exact hc rfl)];rfl)
end
end Go.Pv
namespace Go.Pv
open Go.Proofs Go.Am
set_option maxRecDepth 10000
theorem cn_max:∀ n,n≤6→∀ x,x < 2 ^ n→cn x≤n∧(cn x=n→x=allN n):=by decide
theorem ors_len {s:Shp} (hs:s.ok 30) {left:Nat} (hl:left < 2 ^ s.jo.length):(s.ors left).length≤50000∧(0 < (s.ors left).length↔s.lo left=true):=by
  have hg0:=good0 s (t1:=.no) (t2:=.no) rfl rfl hs left hl
  have hlf:=lft_le6 s (t1:=.no) (t2:=.no) rfl rfl hs left
  have h:=(sqs_bd hs _ _ hg0 hlf).1
  have h6:6 ^ lft s.jo.length left≤6 ^ 6:=Nat.pow_le_pow_right (by decide) hlf
  unfold Shp.ors Shp.lo
  rw [List.length_map]
  have hn:(s.out (lft s.jo.length left) ⟨left,-1,0,0⟩).n=(s.sqs (lft s.jo.length left) ⟨left,-1,0,0⟩).length:=olk_n _
  rw [hn]
  refine ⟨?_,by simp⟩
  show (s.sqs _ (⟨left,-1,0,0⟩:Pst)).length≤_
  omega
section
variable (s:Shp) {t1 t2:Tail} (h1:t1.isOwn=false) (h2:t2.isOwn=false)
include h1 h2
theorem f27er (e:Int) (he:e≠0) (hr:Fn P0 65 [s.v t1 t2] (.tup [.sl .ex [],I e])):Fn P0 27 [s.v t1 t2] (.tup [I 0,.sl .ex [],I e]):=by
  have hbs:PV.bds 0 [s.v t1 t2]=true:=bd_shpV s h1 h2 rfl
  refine PFun.of (C:=c27) (cx_ok _ _ _) rfl (fn:=Try.f27) (by kernel_rfl) (c:=_) rfl rfl rfl ?_
  refine Run.seq (Run.region (cx_ok _ _ _) (Reg.op rfl (Ope.boxF rfl rfl ?_)))
  refine Reg.op rfl (Ope.asg rfl ?_)
  refine Reg.op rfl (Ope.asg rfl ?_)
  refine Reg.op rfl (Ope.asg rfl ?_)
  refine Reg.nil (Run.seq (Run.region (cx_ok _ _ _) (Reg.op rfl (Ope.load rfl rfl ?_))))
  refine Reg.op rfl (Ope.cf rfl rfl hr hbs ?_)
  refine Reg.op rfl (Ope.mov rfl ?_)
  refine Reg.op rfl (Ope.ext rfl rfl ?_)
  refine Reg.op rfl (Ope.ext rfl rfl ?_)
  refine Reg.op rfl (Ope.asg rfl ?_)
  refine Reg.op rfl (Ope.asg rfl ?_)
  refine Reg.nil (Run.seq (Run.seq (Run.region (cx_ok _ _ _) (Reg.op rfl (Ope.mov rfl ?_)))))
  refine Reg.op rfl (Ope.ne rfl rfl ?_)
  refine Reg.nil (Run.condX rfl (fun hc=>?_) fun hc=>?_)
  ·refine Run.seq (Run.region (cx_ok _ _ _) (Reg.op rfl (Ope.mov rfl ?_)))
   refine Reg.op rfl (Ope.asg rfl ?_)
   refine Reg.op rfl (Ope.asg rfl ?_)
   refine Reg.op rfl (Ope.asg rfl ?_)
   exact Reg.nil (Run.ret (Jmp.code (fin_ret (.tmp rfl (.tmp rfl (.tmp rfl .nil))) rfl rfl)))
  ·(exfalso;omega)
theorem f29er (e:Int) (he:e≠0) (hr:Fn P0 65 [s.v t1 t2] (.tup [.sl .ex [],I e])):Fn P0 29 [s.v t1 t2] (.tup [I 0,I e]):=by
  have hbs:PV.bds 0 [s.v t1 t2]=true:=bd_shpV s h1 h2 rfl
  refine PFun.of (C:=c29) (cx_ok _ _ _) rfl (fn:=Try.f29) (by kernel_rfl) (c:=_) rfl rfl rfl ?_
  refine Run.seq (Run.region (cx_ok _ _ _) (Reg.op rfl (Ope.boxF rfl rfl ?_)))
  refine Reg.op rfl (Ope.asg rfl ?_)
  refine Reg.op rfl (Ope.asg rfl ?_)
  refine Reg.nil (Run.seq (Run.region (cx_ok _ _ _) (Reg.op rfl (Ope.load rfl rfl ?_))))
  refine Reg.op rfl (Ope.cf rfl rfl hr hbs ?_)
  refine Reg.op rfl (Ope.mov rfl ?_)
  refine Reg.op rfl (Ope.ext rfl rfl ?_)
  refine Reg.op rfl (Ope.ext rfl rfl ?_)
  refine Reg.op rfl (Ope.asg rfl ?_)
  refine Reg.op rfl (Ope.asg rfl ?_)
  refine Reg.nil (Run.seq (Run.seq (Run.region (cx_ok _ _ _) (Reg.op rfl (Ope.mov rfl ?_)))))
  refine Reg.op rfl (Ope.ne rfl rfl ?_)
  refine Reg.nil (Run.condX rfl (fun hc=>?_) fun hc=>?_)
  ·refine Run.seq (Run.region (cx_ok _ _ _) (Reg.op rfl (Ope.mov rfl ?_)))
   refine Reg.op rfl (Ope.asg rfl ?_)
   refine Reg.op rfl (Ope.asg rfl ?_)
   exact Reg.nil (Run.ret (Jmp.code (fin_ret (.tmp rfl (.tmp rfl .nil)) rfl rfl)))
  ·(exfalso;omega)
theorem f27ok (hs:s.ok 30) (a:List Nat) (L:List (List Nat)) (hL:s.ors 0=a::L) (hr:Fn P0 65 [s.v t1 t2] (.tup [.sl .no ((a::L).map gV),I 0])):Fn P0 27 [s.v t1 t2] (.tup [I (s.cst Shp.p0 s.all.o),.sl .no (s.all.o.map N),I 0]):=by
  have hbs:PV.bds 0 [s.v t1 t2]=true:=bd_shpV s h1 h2 rfl
  have hmem:∀ l∈a::L,Ordr s.jo.length l:=fun l hl=>(ors_all.1 (by rw [hL];exact hl)).1
  have hco:=fun l hl=>f66 s h1 h2 hs .no rfl l (hmem l hl)
  have hbc:∀ l:List Nat,PV.bds 0 [s.v t1 t2,.sl .no (l.map N)]=true:=fun l=>bd_ord s h1 h2 .no rfl l
  have hbe:=ors_best hL
  have hlen:=(ors_len hs (left:=0) (Nat.two_pow_pos _)).1
  rw [hL] at hlen
  have ha:=List.mem_cons_self (a:=a) (l:=L)
  have hlb:∀ i,leastBy (s.cst Shp.p0) a ((a::L).take i)∈a::L:=fun i=>by
    rcases List.mem_cons.1 (leastBy_mem (s.cst Shp.p0) ((a::L).take i) a) with h | h
    · rw [h];exact ha
    · exact List.mem_of_mem_take h
  generalize s.all.o=z at *
  have hpos:0 < (a::L).length:=by simp
  have hl0:leastBy (s.cst Shp.p0) a ((a::L).take 0)=a:=rfl
  have hat0:∀ h:0 < (a::L).length,(a::L)[0]=a:=fun _=>rfl
  generalize a::L=Q at *
  refine PFun.of (C:=c27) (cx_ok _ _ _) rfl (fn:=Try.f27) (by kernel_rfl) (c:=_) rfl rfl rfl ?_
  refine Run.seq (Run.region (cx_ok _ _ _) (Reg.op rfl (Ope.boxF rfl rfl ?_)))
  refine Reg.op rfl (Ope.asg rfl ?_)
  refine Reg.op rfl (Ope.asg rfl ?_)
  refine Reg.op rfl (Ope.asg rfl ?_)
  refine Reg.nil (Run.seq (Run.region (cx_ok _ _ _) (Reg.op rfl (Ope.load rfl rfl ?_))))
  refine Reg.op rfl (Ope.cf rfl rfl hr hbs ?_)
  refine Reg.op rfl (Ope.mov rfl ?_)
  refine Reg.op rfl (Ope.ext rfl rfl ?_)
  refine Reg.op rfl (Ope.ext rfl rfl ?_)
  refine Reg.op rfl (Ope.asg rfl ?_)
  refine Reg.op rfl (Ope.asg rfl ?_)
  refine Reg.nil (Run.seq (Run.seq (Run.region (cx_ok _ _ _) (Reg.op rfl (Ope.mov rfl ?_)))))
  refine Reg.op rfl (Ope.ne rfl rfl ?_)
  refine Reg.nil (Run.condX rfl (fun hc=>?_) fun hc=>?_)
  ·exact absurd rfl hc
  ·refine Run.skip (Run.seq (Run.region (cx_ok _ _ _) (Reg.op rfl (Ope.mov rfl ?_))))
   refine Reg.op rfl (Ope.idxM (m:=0) (f:=gV) rfl rfl rfl hpos (fun _=>rfl) ?_)
   refine Reg.op rfl (Ope.load rfl (by rw [hat0 hpos];rfl) ?_)
   refine Reg.op rfl (Ope.asg rfl ?_)
   refine Reg.nil (Run.seq (Run.seq (Run.region (cx_ok _ _ _) (Reg.op rfl (Ope.asg rfl ?_)))))
   refine Reg.nil (Run.block (Run.loop (α:=Nat) (fun i=>[(1,.fp (s.v t1 t2)),(5,.sl .no (Q.map gV)),(7,gV (leastBy (s.cst Shp.p0) a (Q.take i))),(8,I i)]) (fun _=>HE 0 []) (fun i=>i≤Q.length) (fun i=>Q.length - i) 0 ⟨rfl,rfl,(by rw [hl0];rfl),rfl,trivial⟩ rfl (Nat.zero_le _) (fun i hi=>?_)))
   refine Run.seq (Run.seq (Run.region (cx_ok _ _ _) (Reg.op rfl (Ope.mov rfl ?_))))
   refine Reg.op rfl (Ope.mov rfl ?_)
   refine Reg.op rfl (Ope.len (m:=Q.length) rfl (by simp) ?_)
   refine Reg.op rfl (Ope.lt rfl rfl ?_)
   refine Reg.nil (Run.condX rfl (fun hc=>?_) fun hc=>?_)
   ·refine Run.skip (Run.seq (Run.block (Run.seq ?_)))
    have hlt:i < Q.length:=by omega
    have hst:leastBy (s.cst Shp.p0) a (Q.take (i+1))=if s.cst Shp.p0 Q[i] < s.cst Shp.p0 (leastBy (s.cst Shp.p0) a (Q.take i)) then Q[i] else leastBy (s.cst Shp.p0) a (Q.take i):=by rw [List.take_succ_eq_append_getElem hlt,leastBy_snoc]
    have hc1:=hco Q[i] (List.getElem_mem hlt)
    have hc2:=hco _ (hlb i)
    generalize leastBy (s.cst Shp.p0) a (Q.take i)=b at *
    refine Run.draw (cx_ok _ _ _) [(0,true),(1,true),(2,true),(3,true),(4,true),(6,false),(7,true),(5,true),(8,true),(9,true)] (by kernel_rfl) (Dra.op' rfl rfl rfl .sure (Ope.load rfl rfl ?_))
    refine Dra.op' rfl rfl rfl .sure (Ope.mov rfl ?_)
    refine Dra.op' rfl rfl rfl .sure (Ope.mov rfl ?_)
    refine Dra.op' rfl rfl rfl .sure (Ope.idxM (m:=i) (f:=gV) rfl rfl rfl hlt (fun _=>rfl) ?_)
    refine Dra.op' rfl rfl rfl .sure (Ope.load rfl rfl ?_)
    refine Dra.op' rfl rfl rfl (.load rfl) (Ope.load rfl rfl ?_)
    refine Dra.op' rfl rfl rfl .sure (Ope.mov rfl ?_)
    refine Dra.op' rfl rfl rfl .sure (Ope.cf rfl rfl hc1 (hbc _) ?_)
    refine Dra.op' rfl rfl rfl .sure (Ope.cf rfl rfl hc2 (hbc _) ?_)
    refine Dra.op' rfl rfl rfl .sure (Ope.lt rfl rfl ?_)
    refine Dra.nil (Run.condX rfl (fun hc=>?_) fun hc=>?_)
    ·refine Run.region (cx_ok _ _ _) (Reg.op rfl (Ope.mov rfl ?_))
     refine Reg.op rfl (Ope.mov rfl ?_)
     refine Reg.op rfl (Ope.idxM (m:=i) (f:=gV) rfl rfl rfl hlt (fun _=>rfl) ?_)
     refine Reg.op rfl (Ope.load rfl rfl ?_)
     refine Reg.op rfl (Ope.asg rfl ?_)
     refine Reg.nil (Run.bend (Run.region (cx_ok _ _ _) (Reg.op rfl (Ope.mov rfl ?_))))
     refine Reg.op rfl (Ope.add rfl rfl (by omega) ?_)
     refine Reg.op rfl (Ope.asg rfl ?_)
     refine Reg.nil ?_
     first
     | exact Run.lend ⟨i+1,by omega,by omega,⟨rfl,rfl,(by rw [hst,if_pos hc];rfl),rfl,trivial⟩,rfl,rfl⟩
     | exact Run.lend ⟨i+1,by omega,by omega,⟨rfl,rfl,(by rw [hst,if_neg hc];rfl),rfl,trivial⟩,rfl,rfl⟩
    ·refine Run.skip (Run.bend (Run.region (cx_ok _ _ _) (Reg.op rfl (Ope.mov rfl ?_))))
     refine Reg.op rfl (Ope.add rfl rfl (by omega) ?_)
     refine Reg.op rfl (Ope.asg rfl ?_)
     refine Reg.nil ?_
     first
     | exact Run.lend ⟨i+1,by omega,by omega,⟨rfl,rfl,(by rw [hst,if_pos hc];rfl),rfl,trivial⟩,rfl,rfl⟩
     | exact Run.lend ⟨i+1,by omega,by omega,⟨rfl,rfl,(by rw [hst,if_neg hc];rfl),rfl,trivial⟩,rfl,rfl⟩
   ·refine Run.exit (Jmp.code (Jmp.round (Jmp.here (Run.seq ?_))))
    obtain rfl:i=Q.length:=by omega
    have hc2:=hco _ (hlb Q.length)
    rw [List.take_length,hbe] at hc2 ⊢
    refine Run.region (cx_ok _ _ _) (Reg.op rfl (Ope.load rfl rfl ?_))
    refine Reg.op rfl (Ope.mov rfl ?_)
    refine Reg.op rfl (Ope.cf rfl rfl hc2 (hbc _) ?_)
    refine Reg.op rfl (Ope.mov rfl ?_)
    refine Reg.op rfl (Ope.asg rfl ?_)
    refine Reg.op rfl (Ope.asg rfl ?_)
    refine Reg.op rfl (Ope.asg rfl ?_)
    exact Reg.nil (Run.ret (fin_ret (.tmp rfl (.tmp rfl (.tmp rfl .nil))) (bds_cons rfl (bds_cons (bd_sl (f:=N) (tl:=.no) rfl (fun _=>rfl) _) rfl)) rfl))
theorem f31ba (hi:s.i64) (hS:s.su.length≤1000000) (hJ:s.jo.length≤1000000) (hv:s.val=false):Fn P0 31 [s.v t1 t2] (.tup [I 0,I 1]):=by
  have hme:=f25 s h1 h2 hi hS hJ
  rw [hv] at hme
  have hbs:PV.bds 0 [s.v t1 t2]=true:=bd_shpV s h1 h2 rfl
  refine PFun.of (C:=c31) (cx_ok _ _ _) rfl (fn:=Try.f31) (by kernel_rfl) (c:=_) rfl rfl rfl ?_
  refine Run.seq (Run.region (cx_ok _ _ _) (Reg.op rfl (Ope.boxF rfl rfl ?_)))
  refine Reg.op rfl (Ope.asg rfl ?_)
  refine Reg.op rfl (Ope.asg rfl ?_)
  refine Reg.nil (Run.seq (Run.seq (Run.region (cx_ok _ _ _) (Reg.op rfl (Ope.load rfl rfl ?_)))))
  refine Reg.op rfl (Ope.cf rfl rfl hme hbs ?_)
  refine Reg.op rfl (Ope.not rfl ?_)
  refine Reg.nil (Run.condX rfl (fun hc=>?_) fun hc=>?_)
  ·refine Run.seq (Run.region (cx_ok _ _ _) (Reg.op rfl (Ope.asg rfl ?_)))
   refine Reg.op rfl (Ope.asg rfl ?_)
   exact Reg.nil (Run.ret (Jmp.code (fin_ret (.tmp rfl (.tmp rfl .nil)) rfl rfl)))
  ·cases hc
theorem f31ok (hi : s.i64) (hv : s.val = true) : Fn P0 31 [s.v t1 t2] (.tup [N s.drp, I 0]) := by
  have hs:=val_ok hi hv
  have hn6:=hs.jo
  have hme:=f25 s h1 h2 hi (by have:=hs.su;omega) (by have:=hs.jo;omega)
  rw [hv] at hme
  have hbs:PV.bds 0 [s.v t1 t2]=true:=bd_shpV s h1 h2 rfl
  have hb0:∀ x:Nat,PV.bds 0 [s.v t1 t2,N x]=true:=fun x=>bd_shpV s h1 h2 rfl
  have hor:=fun x hx=>f58 s h1 h2 hs x hx
  have hol:=fun x hx=>ors_len hs (left:=x) hx
  have h64:2 ^ s.jo.length≤64:=Nat.pow_le_pow_right (n:=2) (by decide) hn6
  have hpos:0 < 2 ^ s.jo.length:=Nat.two_pow_pos _
  have hsz:∀ x,x < 2 ^ s.jo.length→Fn P0 44 [N x] (N (cn x)):=fun x hx=>f44 x (by omega)
  have hpw:=f61 s.jo.length (by omega)
  have hcm:=fun x hx=>cn_max s.jo.length hn6 x hx
  have hla:=lo_all (s:=s)
  have hdi:=fun {b:Nat} h h' h''=>drp_is (s:=s) (b:=b) h h' h''
  have hal:allN s.jo.length+1=2 ^ s.jo.length:=by unfold allN;omega
  have hca:cn (allN s.jo.length)=s.jo.length:=by have:=cn_lft _ hn6 (allN s.jo.length) (by omega);rw [(lft_all (by omega)).2 rfl] at this;omega
  generalize allN s.jo.length=A at *
  generalize 2 ^ s.jo.length=M at *
  generalize s.lo=lo at *
  generalize s.drp=D at *
  refine PFun.of (C:=c31) (cx_ok _ _ _) rfl (fn:=Try.f31) (by kernel_rfl) (c:=_) rfl rfl rfl ?_
  refine Run.seq (Run.region (cx_ok _ _ _) (Reg.op rfl (Ope.boxF rfl rfl ?_)))
  refine Reg.op rfl (Ope.asg rfl ?_)
  refine Reg.op rfl (Ope.asg rfl ?_)
  refine Reg.nil (Run.seq (Run.seq (Run.region (cx_ok _ _ _) (Reg.op rfl (Ope.load rfl rfl ?_)))))
  refine Reg.op rfl (Ope.cf rfl rfl hme hbs ?_)
  refine Reg.op rfl (Ope.not rfl ?_)
  refine Reg.nil (Run.condX rfl (fun hc=>?_) fun hc=>?_)
  ·cases hc
  ·refine Run.skip (Run.seq (Run.region (cx_ok _ _ _) (Reg.op rfl (Ope.fld rfl rfl ?_))))
   refine Reg.op rfl (Ope.load rfl rfl ?_)
   refine Reg.op rfl (Ope.len (m:=s.jo.length) rfl (by simp) ?_)
   refine Reg.op rfl (Ope.cf rfl rfl hpw rfl ?_)
   refine Reg.op rfl (Ope.sub rfl rfl (by omega) ?_)
   refine Reg.op rfl (Ope.asg rfl ?_)
   refine Reg.nil (Run.seq (Run.region (cx_ok _ _ _) (Reg.op rfl (Ope.mov rfl ?_))))
   refine Reg.op rfl (Ope.asg rfl ?_)
   refine Reg.nil (Run.seq (Run.seq (Run.region (cx_ok _ _ _) (Reg.op rfl (Ope.asg rfl ?_)))))
   refine Reg.nil (Run.block (Run.loop (α:=Nat×Nat) (fun t=>[(1,.fp (s.v t1 t2)),(4,N A),(5,N t.2),(6,N t.1)]) (fun _=>HE 0 []) (fun t=>t.1≤M∧(t.2 < M∧lo t.2=true)∧(∀ y,y < t.1→lo y=true→cn t.2 < cn y∨(cn t.2=cn y∧t.2≤y))∧(t.2=A∨t.2 < t.1)) (fun t=>M - t.1) (0,A) ⟨rfl,congrArg (fun x=>some (I x)) (by omega),congrArg (fun x=>some (I x)) (by omega),rfl,trivial⟩ rfl ⟨Nat.zero_le _,⟨by omega,hla⟩,fun y h=>absurd h (Nat.not_lt_zero _),.inl rfl⟩ (fun t ht=>?_)))
   obtain ⟨x,b⟩:=t
   obtain ⟨hx,⟨hbM,hbl⟩,hmin,hbx⟩:=ht
   simp only at hx hbM hbl hmin hbx
   show Run _ _ _ _ [(1,.fp (s.v t1 t2)),(4,N A),(5,N b),(6,N x)] [] (HE 0 [])
   refine Run.seq (Run.seq (Run.region (cx_ok _ _ _) (Reg.op rfl (Ope.mov rfl ?_))))
   refine Reg.op rfl (Ope.mov rfl ?_)
   refine Reg.op rfl (Ope.le rfl rfl ?_)
   refine Reg.nil (Run.condX rfl (fun hc=>?_) fun hc=>?_)
   ·refine Run.skip (Run.seq (Run.block (Run.seq ?_)))
    have hxM:x < M:=by omega
    have hcx:=hcm x hxM
    have hcb:=hcm b hbM
    obtain ⟨hol1,hol2⟩:=hol x hxM
    have hor:=hor x hxM
    generalize s.ors x=L at *
    refine Run.region (cx_ok _ _ _) (Reg.op rfl (Ope.mov rfl ?_))
    refine Reg.op rfl (Ope.cf rfl rfl (hsz x hxM) rfl ?_)
    refine Reg.op rfl (Ope.mov rfl ?_)
    refine Reg.op rfl (Ope.cf rfl rfl (hsz b hbM) rfl ?_)
    refine Reg.op rfl (Ope.lt rfl rfl ?_)
    refine Reg.op rfl (Ope.mov rfl ?_)
    refine Reg.splitX rfl rfl (fun hg=>?_) fun hg=>?_
    ·refine Reg.on rfl rfl rfl (Ope.load rfl rfl ?_)
     refine Reg.on rfl rfl rfl (Ope.mov rfl ?_)
     refine Reg.on rfl rfl rfl (Ope.cf rfl rfl hor (hb0 x) ?_)
     refine Reg.on rfl rfl rfl (Ope.len (m:=L.length) rfl (by simp) ?_)
     refine Reg.on rfl rfl rfl (Ope.gt rfl rfl ?_)
     refine Reg.op rfl (Ope.pickT rfl rfl ?_)
     refine Reg.nil (Run.condX rfl (fun hc=>?_) fun hc=>?_)
     ·refine Run.region (cx_ok _ _ _) (Reg.op rfl (Ope.mov rfl ?_))
      refine Reg.op rfl (Ope.asg rfl ?_)
      refine Reg.nil (Run.bend (Run.region (cx_ok _ _ _) (Reg.op rfl (Ope.mov rfl ?_))))
      refine Reg.op rfl (Ope.add rfl rfl (by omega) ?_)
      refine Reg.op rfl (Ope.asg rfl ?_)
      refine Reg.nil ?_
      first
      | exact Run.lend ⟨(x+1,x),by show M - (x+1) < M - x;omega,⟨by show x+1≤M;omega,⟨hxM,hol2.1 (by omega)⟩,fun y hy hl=>by
          by_cases hyx:y=x
          · subst hyx;exact .inr ⟨rfl,Nat.le_refl _⟩
          · have := hmin y (by simp only at hy; omega) hl
            exact .inl (by show cn x < cn y;omega),.inr (by show x < x+1;omega)⟩,⟨rfl,rfl,rfl,rfl,trivial⟩,rfl,rfl⟩
      | exact Run.lend ⟨(x + 1, b), by show M - (x + 1) < M - x; omega, ⟨by show x + 1 ≤ M; omega, ⟨hbM, hbl⟩, fun y hy hl => by
          by_cases hyx:y=x
          · subst hyx
            have h9:=hol2.2 hl
            show cn b < cn y∨(cn b=cn y∧b≤y)
            by_cases he:cn b=cn y
            · refine .inr ⟨he, ?_⟩
              rcases hbx with h | h
              · subst h
                have:=hcx.2 (by omega)
                omega
              · omega
            · exact .inl (by omega)
          · exact hmin y (by simp only at hy; omega) hl, by
            show b=A∨b < x+1
            omega⟩,⟨rfl,rfl,rfl,rfl,trivial⟩,rfl,rfl⟩
     ·refine Run.skip (Run.bend (Run.region (cx_ok _ _ _) (Reg.op rfl (Ope.mov rfl ?_))))
      refine Reg.op rfl (Ope.add rfl rfl (by omega) ?_)
      refine Reg.op rfl (Ope.asg rfl ?_)
      refine Reg.nil ?_
      first
      | exact Run.lend ⟨(x+1,x),by show M - (x+1) < M - x;omega,⟨by show x+1≤M;omega,⟨hxM,hol2.1 (by omega)⟩,fun y hy hl=>by
          by_cases hyx:y=x
          · subst hyx;exact .inr ⟨rfl,Nat.le_refl _⟩
          · have := hmin y (by simp only at hy; omega) hl
            exact .inl (by show cn x < cn y;omega),.inr (by show x < x+1;omega)⟩,⟨rfl,rfl,rfl,rfl,trivial⟩,rfl,rfl⟩
      | exact Run.lend ⟨(x + 1, b), by show M - (x + 1) < M - x; omega, ⟨by show x + 1 ≤ M; omega, ⟨hbM, hbl⟩, fun y hy hl => by
          by_cases hyx:y=x
          · subst hyx
            have h9:=hol2.2 hl
            show cn b < cn y∨(cn b=cn y∧b≤y)
            by_cases he:cn b=cn y
            · refine .inr ⟨he, ?_⟩
              rcases hbx with h | h
              · subst h
                have:=hcx.2 (by omega)
                omega
              · omega
            · exact .inl (by omega)
          · exact hmin y (by simp only at hy; omega) hl, by
            show b=A∨b < x+1
            omega⟩,⟨rfl,rfl,rfl,rfl,trivial⟩,rfl,rfl⟩
    ·refine Reg.off rfl rfl rfl (Reg.off rfl rfl rfl (Reg.off rfl rfl rfl (Reg.off rfl rfl rfl (Reg.off rfl rfl rfl (Reg.op rfl (Ope.pickF rfl rfl ?_))))))
     refine Reg.nil (Run.condF rfl (Run.skip (Run.bend (Run.region (cx_ok _ _ _) (Reg.op rfl (Ope.mov rfl ?_))))))
     refine Reg.op rfl (Ope.add rfl rfl (by omega) ?_)
     refine Reg.op rfl (Ope.asg rfl ?_)
     refine Reg.nil ?_
     first
     | exact Run.lend ⟨(x+1,x),by show M - (x+1) < M - x;omega,⟨by show x+1≤M;omega,⟨hxM,hol2.1 (by omega)⟩,fun y hy hl=>by
         by_cases hyx:y=x
         · subst hyx;exact .inr ⟨rfl,Nat.le_refl _⟩
         · have := hmin y (by simp only at hy; omega) hl
           exact .inl (by show cn x < cn y;omega),.inr (by show x < x+1;omega)⟩,⟨rfl,rfl,rfl,rfl,trivial⟩,rfl,rfl⟩
     | exact Run.lend ⟨(x + 1, b), by show M - (x + 1) < M - x; omega, ⟨by show x + 1 ≤ M; omega, ⟨hbM, hbl⟩, fun y hy hl => by
         by_cases hyx:y=x
         · subst hyx
           have h9:=hol2.2 hl
           show cn b < cn y∨(cn b=cn y∧b≤y)
           by_cases he:cn b=cn y
           · refine .inr ⟨he, ?_⟩
             rcases hbx with h | h
             · subst h
               have:=hcx.2 (by omega)
               omega
             · omega
           · exact .inl (by omega)
         · exact hmin y (by simp only at hy; omega) hl, by
           show b=A∨b < x+1
           omega⟩,⟨rfl,rfl,rfl,rfl,trivial⟩,rfl,rfl⟩
   ·refine Run.exit (Jmp.code (Jmp.round (Jmp.here (Run.seq ?_))))
    have hbD:=hdi hbM hbl fun y hy=>hmin y (by omega)
    refine Run.region (cx_ok _ _ _) (Reg.op rfl (Ope.mov rfl ?_))
    refine Reg.op rfl (Ope.asg rfl ?_)
    refine Reg.op rfl (Ope.asg rfl ?_)
    refine Reg.nil (Run.ret (fin_ret (.tmp rfl (.tmp rfl .nil)) rfl ?_))
    (rw [← hbD];rfl)
end
end Go.Pv
namespace Go.Pv
open Go.Proofs Go.Am
set_option maxRecDepth 10000
theorem dn_last {s:Shp} {o:List Nat} {k:Nat} (hk:k+1=o.length) (h:k < (s.dn true o).length):(s.dn true o)[k]=(s.past Shp.p0 o).f1:=by
  have hko:k < o.length:=by omega
  simp only [Shp.dn,List.getElem_map,Wrk.d,if_true]
  rw [alg_at s o Shp.p0 k hko]
  have e:s.past Shp.p0 (o.take (k+1))=s.aft (s.wrk (s.past Shp.p0 (o.take k)) o[k]):=by rw [List.take_succ_eq_append_getElem hko,past_snoc]
  rw [hk,List.take_length] at e
  rw [e];rfl
section
variable (s:Shp) {t1 t2:Tail} (h1:t1.isOwn=false) (h2:t2.isOwn=false)
include h1 h2
theorem f29ok (hs:s.ok 30) (a:List Nat) (L:List (List Nat)) (hL:s.ors 0=a::L) (hr:Fn P0 65 [s.v t1 t2] (.tup [.sl .no ((a::L).map gV),I 0])):Fn P0 29 [s.v t1 t2] (.tup [I s.all.t,I 0]):=by
  have hbs:PV.bds 0 [s.v t1 t2]=true:=bd_shpV s h1 h2 rfl
  have hn6:=hs.jo
  have hme:∀ l∈a::L,Ordr s.jo.length l∧s.rgt l=true:=fun l hl=>ors_all.1 (by rw [hL];exact hl)
  have hall:∀ l,Ordr s.jo.length l→s.rgt l=true→l∈a::L:=fun l h h'=>by rw [← hL];exact ors_all.2 ⟨h,h'⟩
  have hdo:=fun l hl=>f49 s h1 h2 hs .no l (by have:=(hme l hl).1.len;omega) (hme l hl).1.lt true
  have hbd:∀ l:List Nat,PV.bds 0 [s.v t1 t2,.sl .no (l.map N),B true]=true:=fun l=>bd_shpV s h1 h2 (bds_cons (bd_sl (f:=N) (tl:=.no) rfl (fun _=>rfl) _) rfl)
  have hlen:=(ors_len hs (left:=0) (Nat.two_pow_pos _)).1
  rw [hL] at hlen
  have ha:=List.mem_cons_self (a:=a) (l:=L)
  have hpn:0 < s.all.n:=all_pos.2 ⟨a,(hme a ha).1,(hme a ha).2⟩
  obtain ⟨_,_,_,hmin,o9,ho9,hr9,ht9⟩:=all_best hpn
  have hz:s.jo.length=0→s.all.t=0:=fun h=>by
    have:o9=[]:=List.eq_nil_of_length_eq_zero (by rw [ho9.len,h])
    rw [ht9,this];rfl
  have hdl:=fun l=>dn_len s true l
  have hlast:∀ l∈a::L,∀ h:s.jo.length - 1 < (s.dn true l).length,0 < s.jo.length→(s.dn true l)[s.jo.length - 1]=(s.past Shp.p0 l).f1:=fun l hl h hp=>dn_last (by have:=(hme l hl).1.len;omega) h
  have hmin2:∀ l∈a::L,s.all.t≤(s.past Shp.p0 l).f1:=fun l hl=>(hmin l (hme l hl).1 (hme l hl).2).2
  obtain ⟨k9,hk9,hko⟩:=List.getElem_of_mem (hall o9 ho9 hr9)
  have hlo:∀ l∈a::L,l.length=s.jo.length:=fun l hl=>(hme l hl).1.len
  have hpos:0 < (a::L).length:=by simp
  generalize s.all.t=T at *
  generalize a::L=Q at *
  refine PFun.of (C:=c29) (cx_ok _ _ _) rfl (fn:=Try.f29) (by kernel_rfl) (c:=_) rfl rfl rfl ?_
  refine Run.seq (Run.region (cx_ok _ _ _) (Reg.op rfl (Ope.boxF rfl rfl ?_)))
  refine Reg.op rfl (Ope.asg rfl ?_)
  refine Reg.op rfl (Ope.asg rfl ?_)
  refine Reg.nil (Run.seq (Run.region (cx_ok _ _ _) (Reg.op rfl (Ope.load rfl rfl ?_))))
  refine Reg.op rfl (Ope.cf rfl rfl hr hbs ?_)
  refine Reg.op rfl (Ope.mov rfl ?_)
  refine Reg.op rfl (Ope.ext rfl rfl ?_)
  refine Reg.op rfl (Ope.ext rfl rfl ?_)
  refine Reg.op rfl (Ope.asg rfl ?_)
  refine Reg.op rfl (Ope.asg rfl ?_)
  refine Reg.nil (Run.seq (Run.seq (Run.region (cx_ok _ _ _) (Reg.op rfl (Ope.mov rfl ?_)))))
  refine Reg.op rfl (Ope.ne rfl rfl ?_)
  refine Reg.nil (Run.condX rfl (fun hc=>?_) fun hc=>?_)
  ·exact absurd rfl hc
  ·refine Run.skip (Run.seq (Run.seq (Run.region (cx_ok _ _ _) (Reg.op rfl (Ope.fld rfl rfl ?_)))))
   refine Reg.op rfl (Ope.load rfl rfl ?_)
   refine Reg.op rfl (Ope.len (m:=s.jo.length) rfl (by simp) ?_)
   refine Reg.op rfl (Ope.eq rfl rfl ?_)
   refine Reg.nil (Run.condX rfl (fun hc=>?_) fun hc=>?_)
   ·refine Run.seq (Run.region (cx_ok _ _ _) (Reg.op rfl (Ope.asg rfl ?_)))
    refine Reg.op rfl (Ope.asg rfl ?_)
    refine Reg.nil (Run.ret (Jmp.code (fin_ret (.tmp rfl (.tmp rfl .nil)) rfl ?_)))
    first
    | (rw [hz (by omega)];rfl)
    | (rw [← hxT];rfl)
   ·refine Run.skip (Run.seq (Run.draw (cx_ok _ _ _) [(0,true),(1,true),(2,true),(3,true),(5,true),(6,false),(7,false),(8,true),(4,true),(9,true),(10,true),(11,true)] (by kernel_rfl) (Dra.op' rfl rfl rfl .sure (Ope.load rfl rfl ?_))))
    refine Dra.op' rfl rfl rfl .sure (Ope.mov rfl ?_)
    refine Dra.op' rfl rfl rfl .sure (Ope.idxM (m:=0) (f:=gV) rfl rfl rfl hpos (fun _=>rfl) ?_)
    refine Dra.op' rfl rfl rfl .sure (Ope.load rfl rfl ?_)
    refine Dra.op' rfl rfl rfl .sure (Ope.fld rfl rfl ?_)
    refine Dra.op' rfl rfl rfl (.load rfl) (Ope.load rfl rfl ?_)
    refine Dra.op' rfl rfl rfl (.len rfl) (Ope.len (m:=s.jo.length) rfl (by simp) ?_)
    refine Dra.op' rfl rfl rfl .sure (Ope.sub rfl rfl (by omega) ?_)
    refine Dra.op' rfl rfl rfl .sure (Ope.cf rfl rfl (hdo _ (List.getElem_mem hpos)) (hbd _) ?_)
    refine Dra.op' rfl rfl rfl .sure (Ope.idxM (m:=s.jo.length - 1) (f:=I) rfl rfl (by rw [show ((s.jo.length:Int) - 1)=((s.jo.length - 1:Nat):Int) from by omega];rfl) (by rw [hdl,hlo _ (List.getElem_mem hpos)];omega) (fun _=>rfl) ?_)
    refine Dra.op' rfl rfl rfl .sure (Ope.load rfl rfl ?_)
    refine Dra.op' rfl rfl rfl .sure (Ope.asg rfl ?_)
    refine Dra.nil (Run.seq (Run.seq (Run.region (cx_ok _ _ _) (Reg.op rfl (Ope.asg rfl ?_)))))
    refine Reg.nil (Run.block (Run.loop (α:=Nat×Int) (fun t=>[(1,.fp (s.v t1 t2)),(4,.sl .no (Q.map gV)),(6,I t.2),(7,I t.1)]) (fun _=>HE 0 []) (fun t=>t.1≤Q.length∧(∃ l∈Q,t.2=(s.past Shp.p0 l).f1)∧(∀ k (h:k < Q.length),k < t.1→t.2≤(s.past Shp.p0 Q[k]).f1)) (fun t=>Q.length - t.1) (0,(s.past Shp.p0 Q[0]).f1) ⟨rfl,rfl,congrArg (fun x=>some (I x)) (hlast _ (List.getElem_mem hpos) (by rw [hdl,hlo _ (List.getElem_mem hpos)];omega) (by omega)),rfl,trivial⟩ rfl ⟨Nat.zero_le _,⟨_,List.getElem_mem hpos,rfl⟩,fun k _ h=>absurd h (Nat.not_lt_zero _)⟩ (fun t ht=>?_)))
    obtain ⟨i,x⟩:=t
    obtain ⟨hi,⟨l9,hl9,hx9⟩,hxm⟩:=ht
    simp only at hi hx9 hxm
    show Run _ _ _ _ [(1,.fp (s.v t1 t2)),(4,.sl .no (Q.map gV)),(6,I x),(7,I i)] [] (HE 0 [])
    refine Run.seq (Run.seq (Run.region (cx_ok _ _ _) (Reg.op rfl (Ope.mov rfl ?_))))
    refine Reg.op rfl (Ope.mov rfl ?_)
    refine Reg.op rfl (Ope.len (m:=Q.length) rfl (by simp) ?_)
    refine Reg.op rfl (Ope.lt rfl rfl ?_)
    refine Reg.nil (Run.condX rfl (fun hc=>?_) fun hc=>?_)
    ·refine Run.skip (Run.seq (Run.block ?_))
     have hlt:i < Q.length:=by omega
     have hmi:=List.getElem_mem hlt
     refine Run.draw (cx_ok _ _ _) [(0,true),(1,true),(2,true),(3,true),(4,true),(5,true),(7,true),(8,false),(9,false),(10,true),(6,true),(11,true),(12,true),(13,true),(14,true)] (by kernel_rfl) (Dra.op' rfl rfl rfl .sure (Ope.mov rfl ?_))
     refine Dra.op' rfl rfl rfl .sure (Ope.load rfl rfl ?_)
     refine Dra.op' rfl rfl rfl .sure (Ope.mov rfl ?_)
     refine Dra.op' rfl rfl rfl .sure (Ope.mov rfl ?_)
     refine Dra.op' rfl rfl rfl .sure (Ope.idxM (m:=i) (f:=gV) rfl rfl rfl hlt (fun _=>rfl) ?_)
     refine Dra.op' rfl rfl rfl .sure (Ope.load rfl rfl ?_)
     refine Dra.op' rfl rfl rfl .sure (Ope.fld rfl rfl ?_)
     refine Dra.op' rfl rfl rfl (.load rfl) (Ope.load rfl rfl ?_)
     refine Dra.op' rfl rfl rfl (.len rfl) (Ope.len (m:=s.jo.length) rfl (by simp) ?_)
     refine Dra.op' rfl rfl rfl .sure (Ope.sub rfl rfl (by omega) ?_)
     refine Dra.op' rfl rfl rfl .sure (Ope.cf rfl rfl (hdo _ hmi) (hbd _) ?_)
     refine Dra.op' rfl rfl rfl .sure (Ope.idxM (m:=s.jo.length - 1) (f:=I) rfl rfl (by rw [show ((s.jo.length:Int) - 1)=((s.jo.length - 1:Nat):Int) from by omega];rfl) (by rw [hdl,hlo _ hmi];omega) (fun _=>rfl) ?_)
     refine Dra.op' rfl rfl rfl .sure (Ope.load rfl rfl ?_)
     refine Dra.op' rfl rfl rfl .sure (Ope.minI rfl rfl ?_)
     refine Dra.op' rfl rfl rfl .sure (Ope.asg rfl ?_)
     refine Dra.nil (Run.bend (Run.region (cx_ok _ _ _) (Reg.op rfl (Ope.mov rfl ?_))))
     refine Reg.op rfl (Ope.add rfl rfl (by omega) ?_)
     refine Reg.op rfl (Ope.asg rfl ?_)
     refine Reg.nil ?_
     exact Run.lend ⟨(i+1,min x (s.past Shp.p0 Q[i]).f1),by show Q.length - (i+1) < Q.length - i;omega,⟨by show i+1≤Q.length;omega,by
       show ∃ l∈Q,min x (s.past Shp.p0 Q[i]).f1=_
       by_cases h:x≤(s.past Shp.p0 Q[i]).f1
       · exact ⟨l9,hl9,by rw [Int.min_eq_left h];exact hx9⟩
       · exact ⟨_,hmi,Int.min_eq_right (by omega)⟩,fun k hk hki=>by
       show min x (s.past Shp.p0 Q[i]).f1≤_
       by_cases hkk:k=i
       · subst hkk;exact Int.min_le_right _ _
       · exact Int.le_trans (Int.min_le_left _ _) (hxm k hk (by simp only at hki;omega))⟩,⟨rfl,rfl,congrArg (fun y=>some (I (min x y))) (hlast _ hmi (by rw [hdl,hlo _ hmi];omega) (by omega)),rfl,trivial⟩,rfl,rfl⟩
    ·refine Run.exit (Jmp.code (Jmp.round (Jmp.here (Run.seq ?_))))
     have hxT:x=T:=by
       have h1:=hmin2 l9 hl9
       have h2:=hxm k9 hk9 (by omega)
       rw [hko] at h2
       omega
     refine Run.region (cx_ok _ _ _) (Reg.op rfl (Ope.mov rfl ?_))
     refine Reg.op rfl (Ope.asg rfl ?_)
     refine Reg.op rfl (Ope.asg rfl ?_)
     refine Reg.nil (Run.ret (fin_ret (.tmp rfl (.tmp rfl .nil)) rfl ?_))
     first
     | (rw [hz (by omega)];rfl)
     | (rw [← hxT];rfl)
theorem looks (hi : s.i64) (hS : s.su.length ≤ 40) (hJ : s.jo.length ≤ 40) :
    ∃ (C : Int) (O : List Nat) (ta tb : Tail) (e u d g : Int), O.length ≤ 1000000 ∧ ta.isOwn = false ∧ tb.isOwn = false ∧
      Fn P0 26 [s.v t1 t2] (.tup [I C,.sl ta (O.map N),I e])∧Fn P0 27 [s.v t1 t2] (.tup [I C,.sl tb (O.map N),I e]) ∧
      Fn P0 28 [s.v t1 t2] (.tup [I u,I e])∧Fn P0 29 [s.v t1 t2] (.tup [I u,I e]) ∧
      Fn P0 30 [s.v t1 t2] (.tup [I d,I g])∧Fn P0 31 [s.v t1 t2] (.tup [I d,I g]):=by
  cases hv:s.val with
  | false =>
    have hr:=f65ba s h1 h2 hi (by omega) (by omega) hv
    exact ⟨0,[],.ex,.ex,1,0,0,1,by simp,rfl,rfl,f26ba s h1 h2 (by omega) (by omega) hv,f27er s h1 h2 1 (by decide) hr,f28ba s h1 h2 (by omega) (by omega) hv,f29er s h1 h2 1 (by decide) hr,
      f30ba s h1 h2 (by omega) (by omega) hv,f31ba s h1 h2 hi (by omega) (by omega) hv⟩
  | true =>
    have hs:=val_ok hi hv
    have hn6:=hs.jo
    have hr:=f65ok s h1 h2 hi hv
    have hd:=f30ok s h1 h2 hv hs
    have hdr:=f31ok s h1 h2 hi hv
    cases hL:s.ors 0 with
    | nil =>
      rw [hL,if_pos rfl] at hr
      have hn:s.all.n=0:=by
        rcases Nat.eq_zero_or_pos s.all.n with h | h
        · exact h
        · obtain ⟨o, ho, hr⟩ := all_pos.1 h
          have:=ors_all.2 ⟨ho,hr⟩
          rw [hL] at this
          cases this
      exact ⟨0,[],.ex,.ex,4,0,_,_,by simp,rfl,rfl,f26no s h1 h2 hv hs hn,f27er s h1 h2 4 (by decide) hr,f28no s h1 h2 hv hs hn,f29er s h1 h2 4 (by decide) hr,hd,hdr⟩
    | cons a L =>
      rw [hL,if_neg (by simp)] at hr
      have ha:=ors_all.1 (show a∈s.ors 0 by rw [hL];simp)
      have hn:0 < s.all.n:=all_pos.2 ⟨a,ha.1,ha.2⟩
      have hb:=all_best hn
      have hbr:=f27ok s h1 h2 hs a L hL hr
      rw [← hb.2.2.1] at hbr
      exact ⟨_,_,otl s.all.o,.no,0,_,_,_,by have:=hb.1.len;omega,otl_own _,rfl,f26ok s h1 h2 hv hs hn,hbr,f28ok s h1 h2 hv hs hn,f29ok s h1 h2 hs a L hL hr,hd,hdr⟩
theorem f4 (hi : s.i64) : Fn P0 4 [s.v t1 t2] (B true) := by
  have hfa:=f12 s h1 h2 .ex []
  have hbf:PV.bds 0 [s.v t1 t2,.sl .ex []]=true:=bd_shpV s h1 h2 rfl
  have hbs:PV.bds 0 [s.v t1 t2]=true:=bd_shpV s h1 h2 rfl
  cases hf:farB s.su.length s.jo.length ([]:List PV).length with
  | true =>
    rw [hf] at hfa
    refine PFun.of (C:=c4) (cx_ok _ _ _) rfl (fn:=Try.f4) (by kernel_rfl) (c:=_) rfl rfl rfl ?_
    refine Run.seq (Run.region (cx_ok _ _ _) (Reg.op rfl (Ope.boxF rfl rfl ?_)))
    refine Reg.op rfl (Ope.asg rfl ?_)
    refine Reg.nil (Run.seq (Run.seq (Run.region (cx_ok _ _ _) (Reg.op rfl (Ope.load rfl rfl ?_)))))
    refine Reg.op rfl (Ope.cf rfl rfl hfa hbf ?_)
    refine Reg.op rfl (Ope.mov rfl ?_)
    refine Reg.splitX rfl rfl (fun hg=>?_) fun hg=>?_
    ·first
     |(first | (exfalso;simp at hg;done))
     |refine Reg.off rfl rfl rfl (Reg.off rfl rfl rfl (Reg.off rfl rfl rfl (Reg.off rfl rfl rfl (Reg.off rfl rfl rfl (Reg.past rfl rfl rfl (Reg.past rfl rfl rfl (Reg.off rfl rfl rfl (Reg.op rfl (Ope.pickT rfl rfl ?_)))))))))
      refine Reg.nil (Run.condT rfl (Run.seq (Run.region (cx_ok _ _ _) (Reg.op rfl (Ope.cf rfl rfl (awakeF) rfl ?_)))))
      refine Reg.op rfl (Ope.asg rfl ?_)
      exact Reg.nil (Run.ret (Jmp.code (fin_ret (.tmp rfl .nil) rfl rfl)))
    ·first
     |(first | (exfalso;simp at hg;done))
     |refine Reg.on rfl rfl rfl (Ope.fld rfl rfl ?_)
      refine Reg.on rfl rfl rfl (Ope.load rfl rfl ?_)
      first | refine Reg.on rfl rfl rfl (Ope.len rfl (List.length_map _) ?_) | refine Reg.on rfl rfl rfl (Ope.len rfl rfl ?_) | refine Reg.on rfl rfl rfl (Ope.lenL rfl ?_)
      refine Reg.on rfl rfl rfl (Ope.gt rfl rfl ?_)
      refine Reg.on rfl rfl rfl (Ope.mov rfl ?_)
      refine Reg.splitX rfl rfl (fun hg=>?_) fun hg=>?_
      ·first
       |(first | (exfalso;simp at hg;done))
       |refine Reg.on rfl rfl rfl (Ope.load rfl rfl ?_)
        refine Reg.on rfl rfl rfl (Ope.cf rfl rfl (?_) rfl ?_)
        refine Reg.on rfl rfl rfl (Ope.pickT rfl rfl ?_)
        refine Reg.op rfl (Ope.pickF rfl rfl ?_)
        refine Reg.nil (Run.condX rfl (fun hc=>?_) fun hc=>?_)
        ·refine Run.seq (Run.region (cx_ok _ _ _) (Reg.op rfl (Ope.cf rfl rfl (awakeF) rfl ?_)))
         refine Reg.op rfl (Ope.asg rfl ?_)
         exact Reg.nil (Run.ret (Jmp.code (fin_ret (.tmp rfl .nil) rfl rfl)))
        ·(exfalso;simp at hc;done)
      ·first
       |(first | (exfalso;simp at hg;done))
       |refine Reg.off rfl rfl rfl (Reg.off rfl rfl rfl (Reg.on rfl rfl rfl (Ope.pickF rfl rfl ?_)))
        refine Reg.op rfl (Ope.pickF rfl rfl ?_)
        refine Reg.nil (Run.condF rfl (Run.skip (Run.seq (Run.region (cx_ok _ _ _) (Reg.op rfl (Ope.load rfl rfl ?_))))))
        refine Reg.op rfl (Ope.cf rfl rfl (?_) rfl ?_)
        refine Reg.op rfl (Ope.mov rfl ?_)
        refine Reg.op rfl (Ope.ext rfl rfl ?_)
        refine Reg.op rfl (Ope.ext rfl rfl ?_)
        refine Reg.op rfl (Ope.ext rfl rfl ?_)
        refine Reg.op rfl (Ope.asg rfl ?_)
        refine Reg.op rfl (Ope.asg rfl ?_)
        refine Reg.op rfl (Ope.asg rfl ?_)
        refine Reg.nil (Run.seq (Run.region (cx_ok _ _ _) (Reg.op rfl (Ope.load rfl rfl ?_))))
        refine Reg.op rfl (Ope.cf rfl rfl (?_) rfl ?_)
        refine Reg.op rfl (Ope.mov rfl ?_)
        refine Reg.op rfl (Ope.ext rfl rfl ?_)
        refine Reg.op rfl (Ope.ext rfl rfl ?_)
        refine Reg.op rfl (Ope.ext rfl rfl ?_)
        refine Reg.op rfl (Ope.asg rfl ?_)
        refine Reg.op rfl (Ope.asg rfl ?_)
        refine Reg.op rfl (Ope.asg rfl ?_)
        refine Reg.nil (Run.seq (Run.region (cx_ok _ _ _) (Reg.op rfl (Ope.load rfl rfl ?_))))
        refine Reg.op rfl (Ope.cf rfl rfl (?_) rfl ?_)
        refine Reg.op rfl (Ope.mov rfl ?_)
        refine Reg.op rfl (Ope.ext rfl rfl ?_)
        refine Reg.op rfl (Ope.ext rfl rfl ?_)
        refine Reg.op rfl (Ope.asg rfl ?_)
        refine Reg.op rfl (Ope.asg rfl ?_)
        refine Reg.nil (Run.seq (Run.region (cx_ok _ _ _) (Reg.op rfl (Ope.load rfl rfl ?_))))
        refine Reg.op rfl (Ope.cf rfl rfl (?_) rfl ?_)
        refine Reg.op rfl (Ope.mov rfl ?_)
        refine Reg.op rfl (Ope.ext rfl rfl ?_)
        refine Reg.op rfl (Ope.ext rfl rfl ?_)
        refine Reg.op rfl (Ope.asg rfl ?_)
        refine Reg.op rfl (Ope.asg rfl ?_)
        refine Reg.nil (Run.seq (Run.region (cx_ok _ _ _) (Reg.op rfl (Ope.load rfl rfl ?_))))
        refine Reg.op rfl (Ope.cf rfl rfl (?_) rfl ?_)
        refine Reg.op rfl (Ope.mov rfl ?_)
        refine Reg.op rfl (Ope.ext rfl rfl ?_)
        refine Reg.op rfl (Ope.ext rfl rfl ?_)
        refine Reg.op rfl (Ope.asg rfl ?_)
        refine Reg.op rfl (Ope.asg rfl ?_)
        refine Reg.nil (Run.seq (Run.region (cx_ok _ _ _) (Reg.op rfl (Ope.load rfl rfl ?_))))
        refine Reg.op rfl (Ope.cf rfl rfl (?_) rfl ?_)
        refine Reg.op rfl (Ope.mov rfl ?_)
        refine Reg.op rfl (Ope.ext rfl rfl ?_)
        refine Reg.op rfl (Ope.ext rfl rfl ?_)
        refine Reg.op rfl (Ope.asg rfl ?_)
        refine Reg.op rfl (Ope.asg rfl ?_)
        refine Reg.nil (Run.seq (Run.region (cx_ok _ _ _) (Reg.op rfl (Ope.mov rfl ?_))))
        refine Reg.op rfl (Ope.mov rfl ?_)
        refine Reg.op rfl (Ope.eq rfl rfl ?_)
        refine Reg.op rfl (Ope.mov rfl ?_)
        refine Reg.splitX rfl rfl (fun hg=>?_) fun hg=>?_
        ·first
         |(first | (exfalso;simp at hg;done))
         |refine Reg.on rfl rfl rfl (Ope.mov rfl ?_)
          refine Reg.on rfl rfl rfl (Ope.mov rfl ?_)
          refine Reg.on rfl rfl rfl (Ope.cf rfl rfl (?_) rfl ?_)
          refine Reg.op rfl (Ope.pickT rfl rfl ?_)
          refine Reg.op rfl (Ope.mov rfl ?_)
          refine Reg.splitX rfl rfl (fun hg=>?_) fun hg=>?_
          ·first
           |(first | (exfalso;simp at hg;done))
           |refine Reg.on rfl rfl rfl (Ope.mov rfl ?_)
            refine Reg.on rfl rfl rfl (Ope.mov rfl ?_)
            refine Reg.on rfl rfl rfl (Ope.eq rfl rfl ?_)
            refine Reg.op rfl (Ope.pickT rfl rfl ?_)
            refine Reg.op rfl (Ope.mov rfl ?_)
            refine Reg.splitX rfl rfl (fun hg=>?_) fun hg=>?_
            ·first
             |(first | (exfalso;simp at hg;done))
             |refine Reg.on rfl rfl rfl (Ope.mov rfl ?_)
              refine Reg.on rfl rfl rfl (Ope.mov rfl ?_)
              refine Reg.on rfl rfl rfl (Ope.eq rfl rfl ?_)
              refine Reg.op rfl (Ope.pickT rfl rfl ?_)
              refine Reg.op rfl (Ope.mov rfl ?_)
              refine Reg.splitX rfl rfl (fun hg=>?_) fun hg=>?_
              ·first
               |(first | (exfalso;simp at hg;done))
               |refine Reg.on rfl rfl rfl (Ope.mov rfl ?_)
                refine Reg.on rfl rfl rfl (Ope.mov rfl ?_)
                refine Reg.on rfl rfl rfl (Ope.eq rfl rfl ?_)
                refine Reg.op rfl (Ope.pickT rfl rfl ?_)
                refine Reg.op rfl (Ope.mov rfl ?_)
                refine Reg.splitX rfl rfl (fun hg=>?_) fun hg=>?_
                ·first
                 |(first | (exfalso;simp at hg;done))
                 |refine Reg.on rfl rfl rfl (Ope.mov rfl ?_)
                  refine Reg.on rfl rfl rfl (Ope.mov rfl ?_)
                  refine Reg.on rfl rfl rfl (Ope.eq rfl rfl ?_)
                  refine Reg.op rfl (Ope.pickT rfl rfl ?_)
                  refine Reg.op rfl (Ope.mov rfl ?_)
                  refine Reg.splitX rfl rfl (fun hg=>?_) fun hg=>?_
                  ·first
                   |(first | (exfalso;simp at hg;done))
                   |refine Reg.on rfl rfl rfl (Ope.mov rfl ?_)
                    refine Reg.on rfl rfl rfl (Ope.mov rfl ?_)
                    refine Reg.on rfl rfl rfl (Ope.eq rfl rfl ?_)
                    refine Reg.op rfl (Ope.pickT rfl rfl ?_)
                    refine Reg.op rfl (Ope.mov rfl ?_)
                    refine Reg.splitX rfl rfl (fun hg=>?_) fun hg=>?_
                    ·first
                     |(first | (exfalso;simp at hg;done))
                     |refine Reg.on rfl rfl rfl (Ope.cf rfl rfl (?_) rfl ?_)
                      refine Reg.op rfl (Ope.pickT rfl rfl ?_)
                      refine Reg.op rfl (Ope.asg rfl ?_)
                      exact Reg.nil (Run.ret (fin_ret (.tmp rfl .nil) rfl rfl))
                    ·first
                     |(first | (exfalso;simp at hg;done))
                     |refine Reg.off rfl rfl rfl (Reg.op rfl (Ope.pickF rfl rfl ?_))
                      refine Reg.op rfl (Ope.asg rfl ?_)
                      exact Reg.nil (Run.ret (fin_ret (.tmp rfl .nil) rfl rfl))
                  ·first
                   |(first | (exfalso;simp at hg;done))
                   |refine Reg.off rfl rfl rfl (Reg.off rfl rfl rfl (Reg.off rfl rfl rfl (Reg.op rfl (Ope.pickF rfl rfl ?_))))
                    refine Reg.op rfl (Ope.mov rfl ?_)
                    refine Reg.off rfl rfl rfl (Reg.op rfl (Ope.pickF rfl rfl ?_))
                    refine Reg.op rfl (Ope.asg rfl ?_)
                    exact Reg.nil (Run.ret (fin_ret (.tmp rfl .nil) rfl rfl))
                ·first
                 |(first | (exfalso;simp at hg;done))
                 |refine Reg.off rfl rfl rfl (Reg.off rfl rfl rfl (Reg.off rfl rfl rfl (Reg.op rfl (Ope.pickF rfl rfl ?_))))
                  refine Reg.op rfl (Ope.mov rfl ?_)
                  refine Reg.off rfl rfl rfl (Reg.off rfl rfl rfl (Reg.off rfl rfl rfl (Reg.op rfl (Ope.pickF rfl rfl ?_))))
                  refine Reg.op rfl (Ope.mov rfl ?_)
                  refine Reg.off rfl rfl rfl (Reg.op rfl (Ope.pickF rfl rfl ?_))
                  refine Reg.op rfl (Ope.asg rfl ?_)
                  exact Reg.nil (Run.ret (fin_ret (.tmp rfl .nil) rfl rfl))
              ·first
               |(first | (exfalso;simp at hg;done))
               |refine Reg.off rfl rfl rfl (Reg.off rfl rfl rfl (Reg.off rfl rfl rfl (Reg.op rfl (Ope.pickF rfl rfl ?_))))
                refine Reg.op rfl (Ope.mov rfl ?_)
                refine Reg.off rfl rfl rfl (Reg.off rfl rfl rfl (Reg.off rfl rfl rfl (Reg.op rfl (Ope.pickF rfl rfl ?_))))
                refine Reg.op rfl (Ope.mov rfl ?_)
                refine Reg.off rfl rfl rfl (Reg.off rfl rfl rfl (Reg.off rfl rfl rfl (Reg.op rfl (Ope.pickF rfl rfl ?_))))
                refine Reg.op rfl (Ope.mov rfl ?_)
                refine Reg.off rfl rfl rfl (Reg.op rfl (Ope.pickF rfl rfl ?_))
                refine Reg.op rfl (Ope.asg rfl ?_)
                exact Reg.nil (Run.ret (fin_ret (.tmp rfl .nil) rfl rfl))
            ·first
             |(first | (exfalso;simp at hg;done))
             |refine Reg.off rfl rfl rfl (Reg.off rfl rfl rfl (Reg.off rfl rfl rfl (Reg.op rfl (Ope.pickF rfl rfl ?_))))
              refine Reg.op rfl (Ope.mov rfl ?_)
              refine Reg.off rfl rfl rfl (Reg.off rfl rfl rfl (Reg.off rfl rfl rfl (Reg.op rfl (Ope.pickF rfl rfl ?_))))
              refine Reg.op rfl (Ope.mov rfl ?_)
              refine Reg.off rfl rfl rfl (Reg.off rfl rfl rfl (Reg.off rfl rfl rfl (Reg.op rfl (Ope.pickF rfl rfl ?_))))
              refine Reg.op rfl (Ope.mov rfl ?_)
              refine Reg.off rfl rfl rfl (Reg.off rfl rfl rfl (Reg.off rfl rfl rfl (Reg.op rfl (Ope.pickF rfl rfl ?_))))
              refine Reg.op rfl (Ope.mov rfl ?_)
              refine Reg.off rfl rfl rfl (Reg.op rfl (Ope.pickF rfl rfl ?_))
              refine Reg.op rfl (Ope.asg rfl ?_)
              exact Reg.nil (Run.ret (fin_ret (.tmp rfl .nil) rfl rfl))
          ·first
           |(first | (exfalso;simp at hg;done))
           |refine Reg.off rfl rfl rfl (Reg.off rfl rfl rfl (Reg.off rfl rfl rfl (Reg.op rfl (Ope.pickF rfl rfl ?_))))
            refine Reg.op rfl (Ope.mov rfl ?_)
            refine Reg.off rfl rfl rfl (Reg.off rfl rfl rfl (Reg.off rfl rfl rfl (Reg.op rfl (Ope.pickF rfl rfl ?_))))
            refine Reg.op rfl (Ope.mov rfl ?_)
            refine Reg.off rfl rfl rfl (Reg.off rfl rfl rfl (Reg.off rfl rfl rfl (Reg.op rfl (Ope.pickF rfl rfl ?_))))
            refine Reg.op rfl (Ope.mov rfl ?_)
            refine Reg.off rfl rfl rfl (Reg.off rfl rfl rfl (Reg.off rfl rfl rfl (Reg.op rfl (Ope.pickF rfl rfl ?_))))
            refine Reg.op rfl (Ope.mov rfl ?_)
            refine Reg.off rfl rfl rfl (Reg.off rfl rfl rfl (Reg.off rfl rfl rfl (Reg.op rfl (Ope.pickF rfl rfl ?_))))
            refine Reg.op rfl (Ope.mov rfl ?_)
            refine Reg.off rfl rfl rfl (Reg.op rfl (Ope.pickF rfl rfl ?_))
            refine Reg.op rfl (Ope.asg rfl ?_)
            exact Reg.nil (Run.ret (fin_ret (.tmp rfl .nil) rfl rfl))
        ·first
         |(first | (exfalso;simp at hg;done))
         |refine Reg.off rfl rfl rfl (Reg.off rfl rfl rfl (Reg.off rfl rfl rfl (Reg.op rfl (Ope.pickF rfl rfl ?_))))
          refine Reg.op rfl (Ope.mov rfl ?_)
          refine Reg.off rfl rfl rfl (Reg.off rfl rfl rfl (Reg.off rfl rfl rfl (Reg.op rfl (Ope.pickF rfl rfl ?_))))
          refine Reg.op rfl (Ope.mov rfl ?_)
          refine Reg.off rfl rfl rfl (Reg.off rfl rfl rfl (Reg.off rfl rfl rfl (Reg.op rfl (Ope.pickF rfl rfl ?_))))
          refine Reg.op rfl (Ope.mov rfl ?_)
          refine Reg.off rfl rfl rfl (Reg.off rfl rfl rfl (Reg.off rfl rfl rfl (Reg.op rfl (Ope.pickF rfl rfl ?_))))
          refine Reg.op rfl (Ope.mov rfl ?_)
          refine Reg.off rfl rfl rfl (Reg.off rfl rfl rfl (Reg.off rfl rfl rfl (Reg.op rfl (Ope.pickF rfl rfl ?_))))
          refine Reg.op rfl (Ope.mov rfl ?_)
          refine Reg.off rfl rfl rfl (Reg.off rfl rfl rfl (Reg.off rfl rfl rfl (Reg.op rfl (Ope.pickF rfl rfl ?_))))
          refine Reg.op rfl (Ope.mov rfl ?_)
          refine Reg.off rfl rfl rfl (Reg.op rfl (Ope.pickF rfl rfl ?_))
          refine Reg.op rfl (Ope.asg rfl ?_)
          exact Reg.nil (Run.ret (fin_ret (.tmp rfl .nil) rfl rfl))
  | false =>
    rw [hf] at hfa
    unfold farB at hf
    simp only [Bool.or_eq_false_iff,decide_eq_false_iff_not] at hf
    have hme:=f25 s h1 h2 hi (by omega) (by omega)
    obtain ⟨C,O,ta,tb,e,u,d,g,hO,hta,htb,a1,a2,a3,a4,a5,a6⟩:=looks s h1 h2 hi (by omega) (by omega)
    have hin:=intsF ta tb O hO
    have hbi:PV.bds 0 [.sl ta (O.map N),.sl tb (O.map N)]=true:=bds_cons (bd_sl (f:=N) hta (fun _=>rfl) _) (bds_cons (bd_sl (f:=N) htb (fun _=>rfl) _) rfl)
    refine PFun.of (C:=c4) (cx_ok _ _ _) rfl (fn:=Try.f4) (by kernel_rfl) (c:=_) rfl rfl rfl ?_
    refine Run.seq (Run.region (cx_ok _ _ _) (Reg.op rfl (Ope.boxF rfl rfl ?_)))
    refine Reg.op rfl (Ope.asg rfl ?_)
    refine Reg.nil (Run.seq (Run.seq (Run.region (cx_ok _ _ _) (Reg.op rfl (Ope.load rfl rfl ?_)))))
    refine Reg.op rfl (Ope.cf rfl rfl hfa hbf ?_)
    refine Reg.op rfl (Ope.mov rfl ?_)
    refine Reg.splitX rfl rfl (fun hg=>?_) fun hg=>?_
    ·first
     |(first | (exfalso;simp at hg;done) | (exfalso;omega))
     |refine Reg.off rfl rfl rfl (Reg.off rfl rfl rfl (Reg.off rfl rfl rfl (Reg.off rfl rfl rfl (Reg.off rfl rfl rfl (Reg.past rfl rfl rfl (Reg.past rfl rfl rfl (Reg.off rfl rfl rfl (Reg.op rfl (Ope.pickT rfl rfl ?_)))))))))
      refine Reg.nil (Run.condT rfl (Run.seq (Run.region (cx_ok _ _ _) (Reg.op rfl (Ope.cf rfl rfl (awakeF) rfl ?_)))))
      refine Reg.op rfl (Ope.asg rfl ?_)
      exact Reg.nil (Run.ret (Jmp.code (fin_ret (.tmp rfl .nil) rfl rfl)))
    ·first
     |(first | (exfalso;simp at hg;done) | (exfalso;omega))
     |refine Reg.on rfl rfl rfl (Ope.fld rfl rfl ?_)
      refine Reg.on rfl rfl rfl (Ope.load rfl rfl ?_)
      refine Reg.on rfl rfl rfl (Ope.len (m:=s.jo.length) rfl (by simp) ?_)
      refine Reg.on rfl rfl rfl (Ope.gt rfl rfl ?_)
      refine Reg.on rfl rfl rfl (Ope.mov rfl ?_)
      refine Reg.splitX rfl rfl (fun hg=>?_) fun hg=>?_
      ·first
       |(first | (exfalso;simp at hg;done) | (exfalso;omega))
       |refine Reg.on rfl rfl rfl (Ope.load rfl rfl ?_)
        refine Reg.on rfl rfl rfl (Ope.cf rfl rfl hme hbs ?_)
        refine Reg.on rfl rfl rfl (Ope.pickT rfl rfl ?_)
        refine Reg.op rfl (Ope.pickF rfl rfl ?_)
        refine Reg.nil (Run.condX rfl (fun hc=>?_) fun hc=>?_)
        ·refine Run.seq (Run.region (cx_ok _ _ _) (Reg.op rfl (Ope.cf rfl rfl (awakeF) rfl ?_)))
         refine Reg.op rfl (Ope.asg rfl ?_)
         exact Reg.nil (Run.ret (Jmp.code (fin_ret (.tmp rfl .nil) rfl rfl)))
        ·refine Run.skip (Run.seq (Run.region (cx_ok _ _ _) (Reg.op rfl (Ope.load rfl rfl ?_))))
         refine Reg.op rfl (Ope.cf rfl rfl a1 hbs ?_)
         refine Reg.op rfl (Ope.mov rfl ?_)
         refine Reg.op rfl (Ope.ext rfl rfl ?_)
         refine Reg.op rfl (Ope.ext rfl rfl ?_)
         refine Reg.op rfl (Ope.ext rfl rfl ?_)
         refine Reg.op rfl (Ope.asg rfl ?_)
         refine Reg.op rfl (Ope.asg rfl ?_)
         refine Reg.op rfl (Ope.asg rfl ?_)
         refine Reg.nil (Run.seq (Run.region (cx_ok _ _ _) (Reg.op rfl (Ope.load rfl rfl ?_))))
         refine Reg.op rfl (Ope.cf rfl rfl a2 hbs ?_)
         refine Reg.op rfl (Ope.mov rfl ?_)
         refine Reg.op rfl (Ope.ext rfl rfl ?_)
         refine Reg.op rfl (Ope.ext rfl rfl ?_)
         refine Reg.op rfl (Ope.ext rfl rfl ?_)
         refine Reg.op rfl (Ope.asg rfl ?_)
         refine Reg.op rfl (Ope.asg rfl ?_)
         refine Reg.op rfl (Ope.asg rfl ?_)
         refine Reg.nil (Run.seq (Run.region (cx_ok _ _ _) (Reg.op rfl (Ope.load rfl rfl ?_))))
         refine Reg.op rfl (Ope.cf rfl rfl a3 hbs ?_)
         refine Reg.op rfl (Ope.mov rfl ?_)
         refine Reg.op rfl (Ope.ext rfl rfl ?_)
         refine Reg.op rfl (Ope.ext rfl rfl ?_)
         refine Reg.op rfl (Ope.asg rfl ?_)
         refine Reg.op rfl (Ope.asg rfl ?_)
         refine Reg.nil (Run.seq (Run.region (cx_ok _ _ _) (Reg.op rfl (Ope.load rfl rfl ?_))))
         refine Reg.op rfl (Ope.cf rfl rfl a4 hbs ?_)
         refine Reg.op rfl (Ope.mov rfl ?_)
         refine Reg.op rfl (Ope.ext rfl rfl ?_)
         refine Reg.op rfl (Ope.ext rfl rfl ?_)
         refine Reg.op rfl (Ope.asg rfl ?_)
         refine Reg.op rfl (Ope.asg rfl ?_)
         refine Reg.nil (Run.seq (Run.region (cx_ok _ _ _) (Reg.op rfl (Ope.load rfl rfl ?_))))
         refine Reg.op rfl (Ope.cf rfl rfl a5 hbs ?_)
         refine Reg.op rfl (Ope.mov rfl ?_)
         refine Reg.op rfl (Ope.ext rfl rfl ?_)
         refine Reg.op rfl (Ope.ext rfl rfl ?_)
         refine Reg.op rfl (Ope.asg rfl ?_)
         refine Reg.op rfl (Ope.asg rfl ?_)
         refine Reg.nil (Run.seq (Run.region (cx_ok _ _ _) (Reg.op rfl (Ope.load rfl rfl ?_))))
         refine Reg.op rfl (Ope.cf rfl rfl a6 hbs ?_)
         refine Reg.op rfl (Ope.mov rfl ?_)
         refine Reg.op rfl (Ope.ext rfl rfl ?_)
         refine Reg.op rfl (Ope.ext rfl rfl ?_)
         refine Reg.op rfl (Ope.asg rfl ?_)
         refine Reg.op rfl (Ope.asg rfl ?_)
         refine Reg.nil (Run.seq (Run.region (cx_ok _ _ _) (Reg.op rfl (Ope.mov rfl ?_))))
         refine Reg.op rfl (Ope.mov rfl ?_)
         refine Reg.op rfl (Ope.eq rfl rfl ?_)
         refine Reg.op rfl (Ope.mov rfl ?_)
         refine Reg.splitX rfl rfl (fun hg=>?_) fun hg=>?_
         ·first
          |(first | (exfalso;simp at hg;done) | (exfalso;omega))
          |refine Reg.on rfl rfl rfl (Ope.mov rfl ?_)
           refine Reg.on rfl rfl rfl (Ope.mov rfl ?_)
           refine Reg.on rfl rfl rfl (Ope.cf rfl rfl hin hbi ?_)
           refine Reg.op rfl (Ope.pickT rfl rfl ?_)
           refine Reg.op rfl (Ope.mov rfl ?_)
           refine Reg.splitX rfl rfl (fun hg=>?_) fun hg=>?_
           ·first
            |(first | (exfalso;simp at hg;done) | (exfalso;omega))
            |refine Reg.on rfl rfl rfl (Ope.mov rfl ?_)
             refine Reg.on rfl rfl rfl (Ope.mov rfl ?_)
             refine Reg.on rfl rfl rfl (Ope.eq rfl rfl ?_)
             refine Reg.op rfl (Ope.pickT rfl rfl ?_)
             refine Reg.op rfl (Ope.mov rfl ?_)
             refine Reg.splitX rfl rfl (fun hg=>?_) fun hg=>?_
             ·first
              |(first | (exfalso;simp at hg;done) | (exfalso;omega))
              |refine Reg.on rfl rfl rfl (Ope.mov rfl ?_)
               refine Reg.on rfl rfl rfl (Ope.mov rfl ?_)
               refine Reg.on rfl rfl rfl (Ope.eq rfl rfl ?_)
               refine Reg.op rfl (Ope.pickT rfl rfl ?_)
               refine Reg.op rfl (Ope.mov rfl ?_)
               refine Reg.splitX rfl rfl (fun hg=>?_) fun hg=>?_
               ·first
                |(first | (exfalso;simp at hg;done) | (exfalso;omega))
                |refine Reg.on rfl rfl rfl (Ope.mov rfl ?_)
                 refine Reg.on rfl rfl rfl (Ope.mov rfl ?_)
                 refine Reg.on rfl rfl rfl (Ope.eq rfl rfl ?_)
                 refine Reg.op rfl (Ope.pickT rfl rfl ?_)
                 refine Reg.op rfl (Ope.mov rfl ?_)
                 refine Reg.splitX rfl rfl (fun hg=>?_) fun hg=>?_
                 ·first
                  |(first | (exfalso;simp at hg;done) | (exfalso;omega))
                  |refine Reg.on rfl rfl rfl (Ope.mov rfl ?_)
                   refine Reg.on rfl rfl rfl (Ope.mov rfl ?_)
                   refine Reg.on rfl rfl rfl (Ope.eq rfl rfl ?_)
                   refine Reg.op rfl (Ope.pickT rfl rfl ?_)
                   refine Reg.op rfl (Ope.mov rfl ?_)
                   refine Reg.splitX rfl rfl (fun hg=>?_) fun hg=>?_
                   ·first
                    |(first | (exfalso;simp at hg;done) | (exfalso;omega))
                    |refine Reg.on rfl rfl rfl (Ope.mov rfl ?_)
                     refine Reg.on rfl rfl rfl (Ope.mov rfl ?_)
                     refine Reg.on rfl rfl rfl (Ope.eq rfl rfl ?_)
                     refine Reg.op rfl (Ope.pickT rfl rfl ?_)
                     refine Reg.op rfl (Ope.mov rfl ?_)
                     refine Reg.splitX rfl rfl (fun hg=>?_) fun hg=>?_
                     ·first
                      |(first | (exfalso;simp at hg;done) | (exfalso;omega))
                      |refine Reg.on rfl rfl rfl (Ope.cf rfl rfl (awakeF) rfl ?_)
                       refine Reg.op rfl (Ope.pickT rfl rfl ?_)
                       refine Reg.op rfl (Ope.asg rfl ?_)
                       exact Reg.nil (Run.ret (fin_ret (.tmp rfl .nil) rfl rfl))
                     ·first
                      |(first | (exfalso;simp at hg;done) | (exfalso;omega))
                      |refine Reg.off rfl rfl rfl (Reg.op rfl (Ope.pickF rfl rfl ?_))
                       refine Reg.op rfl (Ope.asg rfl ?_)
                       exact Reg.nil (Run.ret (fin_ret (.tmp rfl .nil) rfl rfl))
                   ·first
                    |(first | (exfalso;simp at hg;done) | (exfalso;omega))
                    |refine Reg.off rfl rfl rfl (Reg.off rfl rfl rfl (Reg.off rfl rfl rfl (Reg.op rfl (Ope.pickF rfl rfl ?_))))
                     refine Reg.op rfl (Ope.mov rfl ?_)
                     refine Reg.off rfl rfl rfl (Reg.op rfl (Ope.pickF rfl rfl ?_))
                     refine Reg.op rfl (Ope.asg rfl ?_)
                     exact Reg.nil (Run.ret (fin_ret (.tmp rfl .nil) rfl rfl))
                 ·first
                  |(first | (exfalso;simp at hg;done) | (exfalso;omega))
                  |refine Reg.off rfl rfl rfl (Reg.off rfl rfl rfl (Reg.off rfl rfl rfl (Reg.op rfl (Ope.pickF rfl rfl ?_))))
                   refine Reg.op rfl (Ope.mov rfl ?_)
                   refine Reg.off rfl rfl rfl (Reg.off rfl rfl rfl (Reg.off rfl rfl rfl (Reg.op rfl (Ope.pickF rfl rfl ?_))))
                   refine Reg.op rfl (Ope.mov rfl ?_)
                   refine Reg.off rfl rfl rfl (Reg.op rfl (Ope.pickF rfl rfl ?_))
                   refine Reg.op rfl (Ope.asg rfl ?_)
                   exact Reg.nil (Run.ret (fin_ret (.tmp rfl .nil) rfl rfl))
               ·first
                |(first | (exfalso;simp at hg;done) | (exfalso;omega))
                |refine Reg.off rfl rfl rfl (Reg.off rfl rfl rfl (Reg.off rfl rfl rfl (Reg.op rfl (Ope.pickF rfl rfl ?_))))
                 refine Reg.op rfl (Ope.mov rfl ?_)
                 refine Reg.off rfl rfl rfl (Reg.off rfl rfl rfl (Reg.off rfl rfl rfl (Reg.op rfl (Ope.pickF rfl rfl ?_))))
                 refine Reg.op rfl (Ope.mov rfl ?_)
                 refine Reg.off rfl rfl rfl (Reg.off rfl rfl rfl (Reg.off rfl rfl rfl (Reg.op rfl (Ope.pickF rfl rfl ?_))))
                 refine Reg.op rfl (Ope.mov rfl ?_)
                 refine Reg.off rfl rfl rfl (Reg.op rfl (Ope.pickF rfl rfl ?_))
                 refine Reg.op rfl (Ope.asg rfl ?_)
                 exact Reg.nil (Run.ret (fin_ret (.tmp rfl .nil) rfl rfl))
             ·first
              |(first | (exfalso;simp at hg;done) | (exfalso;omega))
              |refine Reg.off rfl rfl rfl (Reg.off rfl rfl rfl (Reg.off rfl rfl rfl (Reg.op rfl (Ope.pickF rfl rfl ?_))))
               refine Reg.op rfl (Ope.mov rfl ?_)
               refine Reg.off rfl rfl rfl (Reg.off rfl rfl rfl (Reg.off rfl rfl rfl (Reg.op rfl (Ope.pickF rfl rfl ?_))))
               refine Reg.op rfl (Ope.mov rfl ?_)
               refine Reg.off rfl rfl rfl (Reg.off rfl rfl rfl (Reg.off rfl rfl rfl (Reg.op rfl (Ope.pickF rfl rfl ?_))))
               refine Reg.op rfl (Ope.mov rfl ?_)
               refine Reg.off rfl rfl rfl (Reg.off rfl rfl rfl (Reg.off rfl rfl rfl (Reg.op rfl (Ope.pickF rfl rfl ?_))))
               refine Reg.op rfl (Ope.mov rfl ?_)
               refine Reg.off rfl rfl rfl (Reg.op rfl (Ope.pickF rfl rfl ?_))
               refine Reg.op rfl (Ope.asg rfl ?_)
               exact Reg.nil (Run.ret (fin_ret (.tmp rfl .nil) rfl rfl))
           ·first
            |(first | (exfalso;simp at hg;done) | (exfalso;omega))
            |refine Reg.off rfl rfl rfl (Reg.off rfl rfl rfl (Reg.off rfl rfl rfl (Reg.op rfl (Ope.pickF rfl rfl ?_))))
             refine Reg.op rfl (Ope.mov rfl ?_)
             refine Reg.off rfl rfl rfl (Reg.off rfl rfl rfl (Reg.off rfl rfl rfl (Reg.op rfl (Ope.pickF rfl rfl ?_))))
             refine Reg.op rfl (Ope.mov rfl ?_)
             refine Reg.off rfl rfl rfl (Reg.off rfl rfl rfl (Reg.off rfl rfl rfl (Reg.op rfl (Ope.pickF rfl rfl ?_))))
             refine Reg.op rfl (Ope.mov rfl ?_)
             refine Reg.off rfl rfl rfl (Reg.off rfl rfl rfl (Reg.off rfl rfl rfl (Reg.op rfl (Ope.pickF rfl rfl ?_))))
             refine Reg.op rfl (Ope.mov rfl ?_)
             refine Reg.off rfl rfl rfl (Reg.off rfl rfl rfl (Reg.off rfl rfl rfl (Reg.op rfl (Ope.pickF rfl rfl ?_))))
             refine Reg.op rfl (Ope.mov rfl ?_)
             refine Reg.off rfl rfl rfl (Reg.op rfl (Ope.pickF rfl rfl ?_))
             refine Reg.op rfl (Ope.asg rfl ?_)
             exact Reg.nil (Run.ret (fin_ret (.tmp rfl .nil) rfl rfl))
         ·first
          |(first | (exfalso;simp at hg;done) | (exfalso;omega))
          |refine Reg.off rfl rfl rfl (Reg.off rfl rfl rfl (Reg.off rfl rfl rfl (Reg.op rfl (Ope.pickF rfl rfl ?_))))
           refine Reg.op rfl (Ope.mov rfl ?_)
           refine Reg.off rfl rfl rfl (Reg.off rfl rfl rfl (Reg.off rfl rfl rfl (Reg.op rfl (Ope.pickF rfl rfl ?_))))
           refine Reg.op rfl (Ope.mov rfl ?_)
           refine Reg.off rfl rfl rfl (Reg.off rfl rfl rfl (Reg.off rfl rfl rfl (Reg.op rfl (Ope.pickF rfl rfl ?_))))
           refine Reg.op rfl (Ope.mov rfl ?_)
           refine Reg.off rfl rfl rfl (Reg.off rfl rfl rfl (Reg.off rfl rfl rfl (Reg.op rfl (Ope.pickF rfl rfl ?_))))
           refine Reg.op rfl (Ope.mov rfl ?_)
           refine Reg.off rfl rfl rfl (Reg.off rfl rfl rfl (Reg.off rfl rfl rfl (Reg.op rfl (Ope.pickF rfl rfl ?_))))
           refine Reg.op rfl (Ope.mov rfl ?_)
           refine Reg.off rfl rfl rfl (Reg.off rfl rfl rfl (Reg.off rfl rfl rfl (Reg.op rfl (Ope.pickF rfl rfl ?_))))
           refine Reg.op rfl (Ope.mov rfl ?_)
           refine Reg.off rfl rfl rfl (Reg.op rfl (Ope.pickF rfl rfl ?_))
           refine Reg.op rfl (Ope.asg rfl ?_)
           exact Reg.nil (Run.ret (fin_ret (.tmp rfl .nil) rfl rfl))
      ·first
       |(first | (exfalso;simp at hg;done) | (exfalso;omega))
       |refine Reg.off rfl rfl rfl (Reg.off rfl rfl rfl (Reg.on rfl rfl rfl (Ope.pickF rfl rfl ?_)))
        refine Reg.op rfl (Ope.pickF rfl rfl ?_)
        refine Reg.nil (Run.condF rfl (Run.skip (Run.seq (Run.region (cx_ok _ _ _) (Reg.op rfl (Ope.load rfl rfl ?_))))))
        refine Reg.op rfl (Ope.cf rfl rfl a1 hbs ?_)
        refine Reg.op rfl (Ope.mov rfl ?_)
        refine Reg.op rfl (Ope.ext rfl rfl ?_)
        refine Reg.op rfl (Ope.ext rfl rfl ?_)
        refine Reg.op rfl (Ope.ext rfl rfl ?_)
        refine Reg.op rfl (Ope.asg rfl ?_)
        refine Reg.op rfl (Ope.asg rfl ?_)
        refine Reg.op rfl (Ope.asg rfl ?_)
        refine Reg.nil (Run.seq (Run.region (cx_ok _ _ _) (Reg.op rfl (Ope.load rfl rfl ?_))))
        refine Reg.op rfl (Ope.cf rfl rfl a2 hbs ?_)
        refine Reg.op rfl (Ope.mov rfl ?_)
        refine Reg.op rfl (Ope.ext rfl rfl ?_)
        refine Reg.op rfl (Ope.ext rfl rfl ?_)
        refine Reg.op rfl (Ope.ext rfl rfl ?_)
        refine Reg.op rfl (Ope.asg rfl ?_)
        refine Reg.op rfl (Ope.asg rfl ?_)
        refine Reg.op rfl (Ope.asg rfl ?_)
        refine Reg.nil (Run.seq (Run.region (cx_ok _ _ _) (Reg.op rfl (Ope.load rfl rfl ?_))))
        refine Reg.op rfl (Ope.cf rfl rfl a3 hbs ?_)
        refine Reg.op rfl (Ope.mov rfl ?_)
        refine Reg.op rfl (Ope.ext rfl rfl ?_)
        refine Reg.op rfl (Ope.ext rfl rfl ?_)
        refine Reg.op rfl (Ope.asg rfl ?_)
        refine Reg.op rfl (Ope.asg rfl ?_)
        refine Reg.nil (Run.seq (Run.region (cx_ok _ _ _) (Reg.op rfl (Ope.load rfl rfl ?_))))
        refine Reg.op rfl (Ope.cf rfl rfl a4 hbs ?_)
        refine Reg.op rfl (Ope.mov rfl ?_)
        refine Reg.op rfl (Ope.ext rfl rfl ?_)
        refine Reg.op rfl (Ope.ext rfl rfl ?_)
        refine Reg.op rfl (Ope.asg rfl ?_)
        refine Reg.op rfl (Ope.asg rfl ?_)
        refine Reg.nil (Run.seq (Run.region (cx_ok _ _ _) (Reg.op rfl (Ope.load rfl rfl ?_))))
        refine Reg.op rfl (Ope.cf rfl rfl a5 hbs ?_)
        refine Reg.op rfl (Ope.mov rfl ?_)
        refine Reg.op rfl (Ope.ext rfl rfl ?_)
        refine Reg.op rfl (Ope.ext rfl rfl ?_)
        refine Reg.op rfl (Ope.asg rfl ?_)
        refine Reg.op rfl (Ope.asg rfl ?_)
        refine Reg.nil (Run.seq (Run.region (cx_ok _ _ _) (Reg.op rfl (Ope.load rfl rfl ?_))))
        refine Reg.op rfl (Ope.cf rfl rfl a6 hbs ?_)
        refine Reg.op rfl (Ope.mov rfl ?_)
        refine Reg.op rfl (Ope.ext rfl rfl ?_)
        refine Reg.op rfl (Ope.ext rfl rfl ?_)
        refine Reg.op rfl (Ope.asg rfl ?_)
        refine Reg.op rfl (Ope.asg rfl ?_)
        refine Reg.nil (Run.seq (Run.region (cx_ok _ _ _) (Reg.op rfl (Ope.mov rfl ?_))))
        refine Reg.op rfl (Ope.mov rfl ?_)
        refine Reg.op rfl (Ope.eq rfl rfl ?_)
        refine Reg.op rfl (Ope.mov rfl ?_)
        refine Reg.splitX rfl rfl (fun hg=>?_) fun hg=>?_
        ·first
         |(first | (exfalso;simp at hg;done) | (exfalso;omega))
         |refine Reg.on rfl rfl rfl (Ope.mov rfl ?_)
          refine Reg.on rfl rfl rfl (Ope.mov rfl ?_)
          refine Reg.on rfl rfl rfl (Ope.cf rfl rfl hin hbi ?_)
          refine Reg.op rfl (Ope.pickT rfl rfl ?_)
          refine Reg.op rfl (Ope.mov rfl ?_)
          refine Reg.splitX rfl rfl (fun hg=>?_) fun hg=>?_
          ·first
           |(first | (exfalso;simp at hg;done) | (exfalso;omega))
           |refine Reg.on rfl rfl rfl (Ope.mov rfl ?_)
            refine Reg.on rfl rfl rfl (Ope.mov rfl ?_)
            refine Reg.on rfl rfl rfl (Ope.eq rfl rfl ?_)
            refine Reg.op rfl (Ope.pickT rfl rfl ?_)
            refine Reg.op rfl (Ope.mov rfl ?_)
            refine Reg.splitX rfl rfl (fun hg=>?_) fun hg=>?_
            ·first
             |(first | (exfalso;simp at hg;done) | (exfalso;omega))
             |refine Reg.on rfl rfl rfl (Ope.mov rfl ?_)
              refine Reg.on rfl rfl rfl (Ope.mov rfl ?_)
              refine Reg.on rfl rfl rfl (Ope.eq rfl rfl ?_)
              refine Reg.op rfl (Ope.pickT rfl rfl ?_)
              refine Reg.op rfl (Ope.mov rfl ?_)
              refine Reg.splitX rfl rfl (fun hg=>?_) fun hg=>?_
              ·first
               |(first | (exfalso;simp at hg;done) | (exfalso;omega))
               |refine Reg.on rfl rfl rfl (Ope.mov rfl ?_)
                refine Reg.on rfl rfl rfl (Ope.mov rfl ?_)
                refine Reg.on rfl rfl rfl (Ope.eq rfl rfl ?_)
                refine Reg.op rfl (Ope.pickT rfl rfl ?_)
                refine Reg.op rfl (Ope.mov rfl ?_)
                refine Reg.splitX rfl rfl (fun hg=>?_) fun hg=>?_
                ·first
                 |(first | (exfalso;simp at hg;done) | (exfalso;omega))
                 |refine Reg.on rfl rfl rfl (Ope.mov rfl ?_)
                  refine Reg.on rfl rfl rfl (Ope.mov rfl ?_)
                  refine Reg.on rfl rfl rfl (Ope.eq rfl rfl ?_)
                  refine Reg.op rfl (Ope.pickT rfl rfl ?_)
                  refine Reg.op rfl (Ope.mov rfl ?_)
                  refine Reg.splitX rfl rfl (fun hg=>?_) fun hg=>?_
                  ·first
                   |(first | (exfalso;simp at hg;done) | (exfalso;omega))
                   |refine Reg.on rfl rfl rfl (Ope.mov rfl ?_)
                    refine Reg.on rfl rfl rfl (Ope.mov rfl ?_)
                    refine Reg.on rfl rfl rfl (Ope.eq rfl rfl ?_)
                    refine Reg.op rfl (Ope.pickT rfl rfl ?_)
                    refine Reg.op rfl (Ope.mov rfl ?_)
                    refine Reg.splitX rfl rfl (fun hg=>?_) fun hg=>?_
                    ·first
                     |(first | (exfalso;simp at hg;done) | (exfalso;omega))
                     |refine Reg.on rfl rfl rfl (Ope.cf rfl rfl (awakeF) rfl ?_)
                      refine Reg.op rfl (Ope.pickT rfl rfl ?_)
                      refine Reg.op rfl (Ope.asg rfl ?_)
                      exact Reg.nil (Run.ret (fin_ret (.tmp rfl .nil) rfl rfl))
                    ·first
                     |(first | (exfalso;simp at hg;done) | (exfalso;omega))
                     |refine Reg.off rfl rfl rfl (Reg.op rfl (Ope.pickF rfl rfl ?_))
                      refine Reg.op rfl (Ope.asg rfl ?_)
                      exact Reg.nil (Run.ret (fin_ret (.tmp rfl .nil) rfl rfl))
                  ·first
                   |(first | (exfalso;simp at hg;done) | (exfalso;omega))
                   |refine Reg.off rfl rfl rfl (Reg.off rfl rfl rfl (Reg.off rfl rfl rfl (Reg.op rfl (Ope.pickF rfl rfl ?_))))
                    refine Reg.op rfl (Ope.mov rfl ?_)
                    refine Reg.off rfl rfl rfl (Reg.op rfl (Ope.pickF rfl rfl ?_))
                    refine Reg.op rfl (Ope.asg rfl ?_)
                    exact Reg.nil (Run.ret (fin_ret (.tmp rfl .nil) rfl rfl))
                ·first
                 |(first | (exfalso;simp at hg;done) | (exfalso;omega))
                 |refine Reg.off rfl rfl rfl (Reg.off rfl rfl rfl (Reg.off rfl rfl rfl (Reg.op rfl (Ope.pickF rfl rfl ?_))))
                  refine Reg.op rfl (Ope.mov rfl ?_)
                  refine Reg.off rfl rfl rfl (Reg.off rfl rfl rfl (Reg.off rfl rfl rfl (Reg.op rfl (Ope.pickF rfl rfl ?_))))
                  refine Reg.op rfl (Ope.mov rfl ?_)
                  refine Reg.off rfl rfl rfl (Reg.op rfl (Ope.pickF rfl rfl ?_))
                  refine Reg.op rfl (Ope.asg rfl ?_)
                  exact Reg.nil (Run.ret (fin_ret (.tmp rfl .nil) rfl rfl))
              ·first
               |(first | (exfalso;simp at hg;done) | (exfalso;omega))
               |refine Reg.off rfl rfl rfl (Reg.off rfl rfl rfl (Reg.off rfl rfl rfl (Reg.op rfl (Ope.pickF rfl rfl ?_))))
                refine Reg.op rfl (Ope.mov rfl ?_)
                refine Reg.off rfl rfl rfl (Reg.off rfl rfl rfl (Reg.off rfl rfl rfl (Reg.op rfl (Ope.pickF rfl rfl ?_))))
                refine Reg.op rfl (Ope.mov rfl ?_)
                refine Reg.off rfl rfl rfl (Reg.off rfl rfl rfl (Reg.off rfl rfl rfl (Reg.op rfl (Ope.pickF rfl rfl ?_))))
                refine Reg.op rfl (Ope.mov rfl ?_)
                refine Reg.off rfl rfl rfl (Reg.op rfl (Ope.pickF rfl rfl ?_))
                refine Reg.op rfl (Ope.asg rfl ?_)
                exact Reg.nil (Run.ret (fin_ret (.tmp rfl .nil) rfl rfl))
            ·first
             |(first | (exfalso;simp at hg;done) | (exfalso;omega))
             |refine Reg.off rfl rfl rfl (Reg.off rfl rfl rfl (Reg.off rfl rfl rfl (Reg.op rfl (Ope.pickF rfl rfl ?_))))
              refine Reg.op rfl (Ope.mov rfl ?_)
              refine Reg.off rfl rfl rfl (Reg.off rfl rfl rfl (Reg.off rfl rfl rfl (Reg.op rfl (Ope.pickF rfl rfl ?_))))
              refine Reg.op rfl (Ope.mov rfl ?_)
              refine Reg.off rfl rfl rfl (Reg.off rfl rfl rfl (Reg.off rfl rfl rfl (Reg.op rfl (Ope.pickF rfl rfl ?_))))
              refine Reg.op rfl (Ope.mov rfl ?_)
              refine Reg.off rfl rfl rfl (Reg.off rfl rfl rfl (Reg.off rfl rfl rfl (Reg.op rfl (Ope.pickF rfl rfl ?_))))
              refine Reg.op rfl (Ope.mov rfl ?_)
              refine Reg.off rfl rfl rfl (Reg.op rfl (Ope.pickF rfl rfl ?_))
              refine Reg.op rfl (Ope.asg rfl ?_)
              exact Reg.nil (Run.ret (fin_ret (.tmp rfl .nil) rfl rfl))
          ·first
           |(first | (exfalso;simp at hg;done) | (exfalso;omega))
           |refine Reg.off rfl rfl rfl (Reg.off rfl rfl rfl (Reg.off rfl rfl rfl (Reg.op rfl (Ope.pickF rfl rfl ?_))))
            refine Reg.op rfl (Ope.mov rfl ?_)
            refine Reg.off rfl rfl rfl (Reg.off rfl rfl rfl (Reg.off rfl rfl rfl (Reg.op rfl (Ope.pickF rfl rfl ?_))))
            refine Reg.op rfl (Ope.mov rfl ?_)
            refine Reg.off rfl rfl rfl (Reg.off rfl rfl rfl (Reg.off rfl rfl rfl (Reg.op rfl (Ope.pickF rfl rfl ?_))))
            refine Reg.op rfl (Ope.mov rfl ?_)
            refine Reg.off rfl rfl rfl (Reg.off rfl rfl rfl (Reg.off rfl rfl rfl (Reg.op rfl (Ope.pickF rfl rfl ?_))))
            refine Reg.op rfl (Ope.mov rfl ?_)
            refine Reg.off rfl rfl rfl (Reg.off rfl rfl rfl (Reg.off rfl rfl rfl (Reg.op rfl (Ope.pickF rfl rfl ?_))))
            refine Reg.op rfl (Ope.mov rfl ?_)
            refine Reg.off rfl rfl rfl (Reg.op rfl (Ope.pickF rfl rfl ?_))
            refine Reg.op rfl (Ope.asg rfl ?_)
            exact Reg.nil (Run.ret (fin_ret (.tmp rfl .nil) rfl rfl))
        ·first
         |(first | (exfalso;simp at hg;done) | (exfalso;omega))
         |refine Reg.off rfl rfl rfl (Reg.off rfl rfl rfl (Reg.off rfl rfl rfl (Reg.op rfl (Ope.pickF rfl rfl ?_))))
          refine Reg.op rfl (Ope.mov rfl ?_)
          refine Reg.off rfl rfl rfl (Reg.off rfl rfl rfl (Reg.off rfl rfl rfl (Reg.op rfl (Ope.pickF rfl rfl ?_))))
          refine Reg.op rfl (Ope.mov rfl ?_)
          refine Reg.off rfl rfl rfl (Reg.off rfl rfl rfl (Reg.off rfl rfl rfl (Reg.op rfl (Ope.pickF rfl rfl ?_))))
          refine Reg.op rfl (Ope.mov rfl ?_)
          refine Reg.off rfl rfl rfl (Reg.off rfl rfl rfl (Reg.off rfl rfl rfl (Reg.op rfl (Ope.pickF rfl rfl ?_))))
          refine Reg.op rfl (Ope.mov rfl ?_)
          refine Reg.off rfl rfl rfl (Reg.off rfl rfl rfl (Reg.off rfl rfl rfl (Reg.op rfl (Ope.pickF rfl rfl ?_))))
          refine Reg.op rfl (Ope.mov rfl ?_)
          refine Reg.off rfl rfl rfl (Reg.off rfl rfl rfl (Reg.off rfl rfl rfl (Reg.op rfl (Ope.pickF rfl rfl ?_))))
          refine Reg.op rfl (Ope.mov rfl ?_)
          refine Reg.off rfl rfl rfl (Reg.op rfl (Ope.pickF rfl rfl ?_))
          refine Reg.op rfl (Ope.asg rfl ?_)
          exact Reg.nil (Run.ret (fin_ret (.tmp rfl .nil) rfl rfl))
end
end Go.Pv
namespace Go.Pv
open Go.Proofs Go.Am
set_option maxRecDepth 10000
section
variable {H:Type} {enc:TypeId×Value→H} {w:World} {base:Nat} {held:Bool}
theorem reads_int:Reads enc Try.prog w base (fun _=>true) held 3 fun ps=>∃ n:Int,ps=[I n]∧(-9223372036854775808≤n∧n≤9223372036854775807) :=
  (Reads.int Try.underlying3).mono fun ps ⟨n,h,h1,h2⟩=>⟨n,h,Int.le_trans (by decide) h1,Int.le_trans h2 (by decide)⟩
theorem reads_span:Reads enc Try.prog w base (fun _=>true) held 46 fun ps=>∃ a b:Int,ps=[I a,I b] :=
  (Reads.struct (Qs:=[fun ps=>∃ n:Int,ps=[I n]∧_,fun ps=>∃ n:Int,ps=[I n]∧_]) Try.underlying46 (by kernel_rfl) ⟨reads_int,reads_int,trivial⟩).mono fun ps h=>by
    obtain ⟨_,_,rfl,⟨a,rfl,_⟩,_,_,rfl,⟨b,rfl,_⟩,rfl⟩:=h
    exact ⟨a,b,rfl⟩
theorem reads_job:Reads enc Try.prog w base (fun _=>true) held 48 fun ps=>∃ j:Job,ps=j.v.cells∧(-9223372036854775808≤j.af∧j.af≤9223372036854775807) :=
  (Reads.struct (Qs:=[fun ps=>∃ n:Int,ps=[I n]∧_,fun ps=>∃ a b:Int,ps=[I a,I b],fun ps=>∃ n:Int,ps=[I n]∧_,fun ps=>∃ n:Int,ps=[I n]∧_,fun ps=>∃ n:Int,ps=[I n]∧_,fun ps=>∃ n:Int,ps=[I n]∧_,fun ps=>∃ n:Int,ps=[I n]∧_]) Try.underlying48 (by kernel_rfl) ⟨reads_int,reads_span,reads_int,reads_int,reads_int,reads_int,reads_int,trivial⟩).mono fun ps h=>by
    obtain ⟨_,_,rfl,⟨a,rfl,_⟩,_,_,rfl,⟨b,c,rfl⟩,_,_,rfl,⟨d,rfl,_⟩,_,_,rfl,⟨e,rfl,_⟩,_,_,rfl,⟨f,rfl,_⟩,_,_,rfl,⟨g,rfl,_⟩,_,_,rfl,⟨h,rfl,hh⟩,rfl⟩:=h
    exact ⟨⟨a,b,c,d,e,f,g,h⟩,rfl,hh⟩
theorem cells_job:Try.prog.cellsOf 48=8:=by kernel_rfl
theorem cells_int:Try.prog.cellsOf 3=1:=by kernel_rfl
theorem reads_jobs:Reads enc Try.prog w base (fun _=>true) held 23 fun ps=>∃ S:List Job,ps=[.sl .no (S.map Job.v)]∧∀ j∈S,-9223372036854775808≤j.af∧j.af≤9223372036854775807 :=
  (Reads.slice (Q:=fun j:Job=>-9223372036854775808≤j.af∧j.af≤9223372036854775807) (f:=Job.v) (fun _=>rfl) Try.underlying23 (by rw [cells_job];decide) (reads_job.mono fun ps ⟨s,h,h'⟩=>⟨s,h,by rw [cells_job];rfl,h'⟩)).mono fun ps ⟨S,h,_,h'⟩=>⟨S,h,h'⟩
theorem reads_ints:Reads enc Try.prog w base (fun _=>true) held 22 fun ps=>∃ S:List Int,ps=[.sl .no (S.map I)] :=
  (Reads.slice (Q:=fun _=>True) (f:=I) (fun _=>rfl) Try.underlying22 (by rw [cells_int];decide) (reads_int.mono fun ps ⟨s,h,_⟩=>⟨s,h,by rw [cells_int];rfl,trivial⟩)).mono fun ps ⟨S,h,_⟩=>⟨S,h⟩
theorem reads_mend:Reads enc Try.prog w base (fun _=>true) held 25 fun ps=>∃ s:Shp,s.i64∧ps=[.sl .no (s.su.map I),.sl .no (s.jo.map Job.v)] :=
  (Reads.struct (Qs:=[fun ps=>∃ S:List Int,ps=[.sl .no (S.map I)],fun ps=>∃ S:List Job,ps=[.sl .no (S.map Job.v)]∧_]) Try.underlying25 (by kernel_rfl) ⟨reads_ints,reads_jobs,trivial⟩).mono fun ps h=>by
    obtain ⟨_,_,rfl,⟨su,rfl⟩,_,_,rfl,⟨jo,rfl,hj⟩,rfl⟩:=h
    exact ⟨⟨su,jo⟩,fun i hi=>hj _ (List.getElem_mem hi),rfl⟩
theorem trod_mend {v:Value} {d:DataW H} {ps:List MemPlace} {r:Reach} {b:Nat} (hv:Value.okWide Try.prog w r b 25 v) (h:DataW.Trod enc Try.prog w base (fun _=>true) held 25 v d ps):∃ s:Shp,s.i64∧RV (St.froz w) (s.v .no .no) v:=by
  obtain ⟨l,h1,s,hi,rfl⟩:=trod_agg Try.underlying25 hv h reads_mend
  exact ⟨s,hi,h1⟩
structure Shp.hnd (s:Shp):Prop where
  i:s.i64
  su:s.su.length≤9223372036854775807
  jo:s.jo.length≤9223372036854775807
end
end Go.Pv
