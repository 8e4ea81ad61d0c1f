/- Parts of the proof: Pv73, Pv76, S6, Pv77, S7, S8 -/
import Derived.Test.YtkabfhoicdeehaaGreatP17
import Derived.Test.YtkabfhoicdeehaaGreatP16
set_option linter.unusedVariables false
set_option linter.unusedSimpArgs false
set_option linter.unusedSectionVars false
namespace Go.Pv
open Go.Am Go.RowKit
section
variable {C:Cx} {F:EQ} {X:EX} {k:List KI} {e:EL} {ds:List Nat} {h:PH} {K:PV→PH→Prop} {n:Nat} {l:HL} {os:List Oper}
variable {d:Option Tmp} {type:TypeId} {pos:String} {after:Array Edge} {guard:Option (Nat×Bool)}
end
end Go.Pv
namespace Go.Pv
open Go.Am Go.RowKit
def FeedB (P:Program) (y:PV) (R:PV→PH→Prop) (A:List PV→PV→Prop) (Z:List PV→Prop):Nat→List PV→Nat→HL→Prop
 |0,pre,n,l=>Z pre→∀ m,n≤m→∀ u,R u (HE m l)
 |k+1,pre,n,l=>(Z pre→∀ m,n≤m→∀ u,R u (HE m l))∧∀ v,A pre v→∀ m,n≤m→PCallV P y [v] (HE m l) (fun b h'=>∃ m' l',h'=HE m' l'∧m≤m' ∧
   ((b=B true∧FeedB P y R A Z k (pre++[v]) m' l')∨(b=B false∧∀ m2,m'≤m2→∀ u,R u (HE m2 l')))) fun _ _=>False
theorem FeedB.done {P:Program} {y:PV} {R:PV→PH→Prop} {A:List PV→PV→Prop} {Z:List PV→Prop} {pre:List PV} {n:Nat} {l:HL}:∀ {k:Nat},FeedB P y R A Z k pre n l→Z pre→∀ m,n≤m→∀ u,R u (HE m l)
 |0,h=>h
 |_+1,h=>h.1
theorem FeedB.mono {P:Program} {y:PV} {R:PV→PH→Prop} {A:List PV→PV→Prop} {Z:List PV→Prop} {pre:List PV} {n n':Nat} {l:HL} (hn:n≤n'):∀ {k:Nat},FeedB P y R A Z k pre n l→FeedB P y R A Z k pre n' l
 |0,h=>fun ha m hm=>h ha m (Nat.le_trans hn hm)
 |_+1,h=>⟨fun ha m hm=>h.1 ha m (Nat.le_trans hn hm),fun v hv m hm=>h.2 v hv m (Nat.le_trans hn hm)⟩
def YieldsB (P:Program) (g:Nat) (fs caps:List PV) (A:List PV→PV→Prop) (Z:List PV→Prop):Prop :=
 ∀ (j n:Nat) (l:HL) (R:PV→PH→Prop),j < n→(∀ k,FeedB P (.yld j) R A Z k [] n l)→PCall P g (fs++[.yld j]++caps) (HE n l) R fun _ _=>False
section
variable {C:Cx} {F:EQ} {X:EX} {k:List KI} {e:EL} {ds:List Nat} {K:PV→PH→Prop} {n:Nat} {own l:HL}
variable {d:Option Tmp} {type:TypeId} {pos:String} {after:Array Edge} {guard:Option (Nat×Bool)}
theorem Ope.yldC {f:Operand} {args:Array Operand} {tys:Array TypeId} {j N:Nat} {v:PV} {pre:List PV} {A:List PV→PV→Prop} {Z:List PV→Prop} {R:PV→PH→Prop} (hf:pev (lget e) f=some (.yld j)) (ha:pargs (pev (lget e)) args.toList=some [v]) (ho:OwnsB own l)
  (hv:A pre v) (hy:FeedB C.P (.yld j) R A Z (N+1) pre n l) (hK1:∀ m l',n≤m→(HE m l').Ok→(∀ i,keysB own i=true→hget l' i=none)→FeedB C.P (.yld j) R A Z N (pre++[v]) m l'→K (B true) (HE m (own++l'))) (hK2:∀ m l',n≤m→(HE m l').Ok→(∀ i,keysB own i=true→hget l' i=none)→(∀ m2,m≤m2→∀ u,R u (HE m2 l'))→K (B false) (HE m (own++l'))) :
  Ope C X { dst:=d,op:=.call { callee:=.value f,args,argTypes:=tys },type,pos,after,guard } e ds (HE n (own++l)) K:=by
 unfold Ope
 simp only [pop,pkind,pcallO,ha,hf,pcallF]
 refine ⟨rfl,PCallV.ownedB ho (hy.2 v hv n (Nat.le_refl _)) ?_ ?_⟩
 ·rintro b m l' hok hno ⟨m1,l1,e1,hm,hb⟩
  obtain ⟨rfl,e2⟩:m=m1∧hget l'=hget l1:=by
   have:=e1
   simp only [HE,PH.mk.injEq] at this
   exact ⟨this.2,this.1⟩
  have e3:∀ q,HE q l'=HE q l1:=fun q=>by simp only [HE,e2]
  have e4:HE m (own++l')=HE m (own++l1):=by
   simp only [HE,PH.mk.injEq,and_true]
   funext i
   rw [keysB_app,keysB_app,e2]
  rw [e4]
  rw [e3] at hok
  simp only [e2] at hno
  rcases hb with ⟨rfl,hf⟩ | ⟨rfl,hf⟩
  ·exact hK1 m l1 hm hok hno hf
  ·exact hK2 m l1 hm hok hno hf
 ·rintro b h ⟨m1,l1,e1,_⟩
  exact ⟨m1,l1,e1⟩
end
section
variable {C:Cx} {F:EQ} {X:EX} {k:List KI} {e:EL} {ds:List Nat} {h:PH} {n:Nat} {l:HL}
theorem Run.rangeFB (hC:C.Ok) (hrnd:C.rnd=none) {f:Operand} {ps:Array Tmp} {asg body:Code} {fs cp:List PV} {A:List PV→PV→Prop} {Z:List PV→Prop} {g:Nat} {α:Type} (hp:α→HL) (nx:α→Nat) (I:List PV→α→Prop)
  (hf:pev (lget e) f=some (.fn (.func g) fs cp)) (hy:YieldsB C.P g fs cp A Z) (hps:ps.size=1) (hpl:ps.toList.all (fun p=>Nat.blt p C.sz)=true) (hfi:∃ fn,C.P.funcs[C.fi]?=some fn)
  (a0:α) (h0:I [] a0) (hl0:Hsub (hp a0) l) (hk:∀ a,∀ p∈hp a,p.1≠n+1) (hk0:∀ p∈hp a0,p.1≠n) (hn0:nx a0≤n+2)
  (round : ∀ pre a v, A pre v → I pre a → ∀ m, nx a ≤ m → n + 2 ≤ m → ∀ lb, Run { C with rnd := some (n + 1) }
   (FAsg { C with rnd := some (n + 1) } n m lb body (fun m l => ∃ a', nx a' ≤ m ∧ Hsub ((n, some .dfr) :: hp a') l ∧ I (pre ++ [v]) a')
    fun j m l=>∃ l3,Hsub l3 ((n+1,none)::l)∧∀ m4,m≤m4→Jmp C F X k j e (n::ds) (HE m4 l3)) noX [.c asg] (tsE e ps.toList [v]) [] (HE m ((n+1,some lb)::(n,some .dfr)::hp a)))
  (fin:∀ pre a,Z pre→I pre a→∀ m,nx a≤m→n+2≤m→Run C F X k e (n::ds) (HE m ((n,some .dfr)::hp a))):Run C F X (.c (.rangeFunc f ps asg body)::k) e ds (HE n l):=by
 refine Run.intro ?_
 let Qg:PQ:=fun x t ds h=>∃ h' t',Ghost h h' t t'∧Pv.toQ (Ks C F X k) x t' ds h'
 have hpw:=PWP.rangeFunc (P:=C.P) hC.A (fi:=C.fi) (sz:=C.sz) (Q:=Qg) (X:=toX X) (t:=TE e) (ds:=ds) (h:=HE n l) (f:=f) (ps:=ps) (asg:=asg) (body:=body) (fv:=.fn (.func g) fs cp) (by rw [TE_getf];exact hf) ?_
 ·rw [Cx.wp,hrnd]
  exact PWP.ghostQ hpw
 show pcallF C.A C.P (.fn (.func g) fs cp) [.yld (n+1)] _ _ _
 simp only [pcallF]
 have hnn:(HE n l).next=n:=rfl
 rw [HE_add,hnn,HE_add]
 let lbs (st:LoopState) (pd:Option Code):PBlk:=.loop st pd C.fi (TE e) C.sz ps asg body n
 refine PCall.mono (hy (n+1) (n+2) _ (QLoop (n+1) (TE e) (n::ds) Qg) (by omega) ?_) (fun _ _ h=>h) fun _ _ h=>h.elim
 have key:∀ (N:Nat) (pre:List PV) (a:α) (m:Nat) (l':HL),I pre a→nx a≤m→n+2≤m→Hsub ((n+1,some (lbs .ready none))::(n,some .dfr)::hp a) l' →
   FeedB C.P (.yld (n+1)) (QLoop (n+1) (TE e) (n::ds) Qg) A Z N pre m l':=by
  have hfin:∀ (pre:List PV) (a:α) (m:Nat) (l':HL),I pre a→nx a≤m→n+2≤m→Hsub ((n+1,some (lbs .ready none))::(n,some .dfr)::hp a) l'→Z pre→∀ m2,m≤m2→∀ u,QLoop (n+1) (TE e) (n::ds) Qg u (HE m2 l'):=by
   intro pre a m l' hI hm hm2 hs hall m2 hm3 u
   refine ⟨.ready,none,C.fi,TE e,C.sz,ps,asg,body,n,rfl,hs.1,?_⟩
   refine ⟨HE m2 ((n,some .dfr)::hp a),TE e,Ghost.wide (h:=(HE m2 l').del (n+1)) (h':=HE m2 ((n,some .dfr)::hp a)) (Nat.le_refl _) fun i b hi=>?_,(fin pre a hall hI m2 (by omega) (by omega)).toQ (Sub.refl e)⟩
   rw [HE_del]
   exact Hsub.get (l':=(n+1,none)::l') (Hsub.over hs.2 (by
    intro p hpm
    rcases List.mem_cons.1 hpm with rfl | hpm
    ·simp
    ·exact hk a p hpm)) hi
  intro N
  induction N with
  |zero =>
   intro pre a m l' hI hm hm2 hs hall
   exact hfin pre a m l' hI hm hm2 hs hall
  |succ N ih =>
   intro pre a m l' hI hm hm2 hs
   refine ⟨fun hall=>hfin pre a m l' hI hm hm2 hs hall,fun v hv m2 hm3=>?_⟩
   have hr:=round pre a v hv hI m2 (by omega) (by omega) (lbs .ready none)
   refine PCallV.yld (t:=TE e) (fn:=C.fi) (sz:=C.sz) (ps:=ps) (asg:=asg) (body:=body) (d:=n) hs.1 hfi (by simp [hps]) (fun p hp=>blt_lt (List.all_eq_true.1 hpl p hp)) ?_
   have hra:=PWP.ghost (Ghost.wide (h:=HE m2 l') (h':=HE m2 ((n+1,some (lbs .ready none))::(n,some .dfr)::hp a)) (Nat.le_refl _) fun i b hi=>hs.get hi) (hr.wp (tsE_sub ps.toList [v] e (TE e) (Sub.refl e)))
   refine PWP.mono hra ?_ fun _ _ _ _ hx=>hx.elim
   rintro x t1 ds1 h1 ⟨e1,hsub1,rfl,rfl,m3,l3,rfl,hg3,hb⟩
   refine ⟨rfl,rfl,TE e,hg3,?_⟩
   have hb2:=(hb (lbs .busy none)).wp hsub1
   rw [HE_put]
   refine PWP.mono hb2 ?_ fun _ _ _ _ hx=>hx.elim
   rintro x t2 ds2 h2 ⟨e2,hsub2,rfl,m5,l5,rfl,hm5,hg5,hx⟩
   refine ⟨rfl,.busy,none,TE e,hg5,?_⟩
   cases x with
   |normal =>
    obtain ⟨a',q1,q2,q3⟩:=hx
    refine ⟨m5,(n+1,some (lbs .ready none))::l5,by simp only [HE_put];rfl,by omega,.inl ⟨rfl,?_⟩⟩
    refine ih (pre++[v]) a' m5 _ q3 q1 (by omega) ⟨hget_hd,Hsub.over q2 ?_⟩
    intro p hpm
    rcases List.mem_cons.1 hpm with rfl | hpm
    ·simp
    ·exact hk a' p hpm
   |jump j =>
    obtain ⟨q0,l6,q1,q2⟩:=hx
    refine ⟨q0,m5,(n+1,some (lbs .done (some j)))::l5,by simp only [HE_put];rfl,by omega,.inr ⟨rfl,fun m6 hm6 u=>?_⟩⟩
    refine ⟨.done,some j,C.fi,TE e,C.sz,ps,asg,body,n,rfl,hget_hd,q0,?_⟩
    refine ⟨HE m6 l6,TE e,Ghost.wide (h:=(HE m6 _).del (n+1)) (h':=HE m6 l6) (Nat.le_refl _) fun i b hi=>?_,(q2 m6 hm6).toQ (Sub.refl e)⟩
    rw [HE_del]
    have:=q1.get hi
    show hget ((n+1,none)::(n+1,some (lbs .done (some j)))::l5) i=some b
    simp only [hget] at this ⊢
    split at this
    ·cases this
    ·next hb=>simp only [hb];exact this
 exact fun N=>key N [] a0 (n+2) _ h0 hn0 (Nat.le_refl _) ⟨hget_hd,hget_at (by omega) hget_hd,Hsub.over (Hsub.over hl0 hk0) (hk a0)⟩
end
def onceA (vs:List PV) (pre:List PV) (v:PV):Prop:=v∈vs∧v ∉ pre
def onceZ (vs:List PV) (pre:List PV):Prop:=∀ v∈vs,v∈pre
end Go.Pv
namespace Go.Pv
open Go.Proofs Go.Am
set_option maxRecDepth 10000
def rpt0:PV:=.agg [I 0,I 0,I 0,I 0,I 0,I 0,I 0,I 0]
instance:Mpt A0 71 3 rpt0:=⟨by kernel_rfl⟩
theorem und_int:A0.under 3=some (.int .i64):=by kernel_rfl
def kR (r:Rpt):AV:=.int .i64 r.id
def nR (r:Rpt):PV:=I r.id
theorem ofR (r:Rpt):PV.ofAV (kR r)=some (nR r):=rfl
def fmR (D:List Rpt):PV:=.fm (D.map kR) (D.map Rpt.v)
def fitR (D:List Rpt) (seen:List Nat):PBlk:=.fit (D.map kR) (D.map Rpt.v) seen
theorem bds_vR (n:Nat):∀ D:List Rpt,PV.bds n (D.map Rpt.v)=true
  | []=>rfl
  | r::D=>by simp only [List.map_cons,PV.bds,bds_vR n D,Bool.and_true];rfl
theorem bd_fmR (n:Nat) (D:List Rpt):(fmR D).bd n=true:=by simp only [fmR,PV.bd,bds_vR]
abbrev valR (D:List Rpt):PV:=.fn (.func 121) [] [.fp (fmR D)]
theorem f98 (D:List Rpt):Fn P0 98 [fmR D] (valR D):=by
  have hb:PV.bd 0 (valR D)=true:=by
    simp only [PV.bd,PV.bds,bd_fmR,Bool.and_self]
  refine PFun.of (C:=c98) (cx_ok _ _ _) rfl (fn:=Tryz.f98) (by kernel_rfl) (c:=_) rfl rfl rfl ?_
  refine Run.seq (Run.region (cx_ok _ _ _) (Reg.op rfl (Ope.boxF rfl rfl ?_)))
  refine Reg.op rfl (Ope.asg rfl ?_)
  refine Reg.nil (Run.seq (Run.region (cx_ok _ _ _) (Reg.op rfl (Ope.mkf rfl rfl ?_))))
  refine Reg.op rfl (Ope.asg rfl ?_)
  exact Reg.nil (Run.ret (fin_ret (.tmp rfl .nil) hb rfl))
theorem Rpt.v_inj {r s:Rpt} (h:r.v=s.v):r=s:=by
  obtain ⟨r1,r2,r3,r4,r5,r6,r7,r8⟩:=r
  obtain ⟨s1,s2,s3,s4,s5,s6,s7,s8⟩:=s
  simp only [Rpt.v,PV.agg.injEq,List.cons.injEq,PV.lit.injEq,AV.int.injEq,true_and,and_true] at h
  obtain ⟨h1,h2,h3,h4,h5,h6,h7,h8⟩:=h
  subst h1 h2 h3 h4 h5 h6 h7 h8
  rfl
theorem hs_round {m z:Nat} {a b c e:Option PBlk} {rest:HL} (hm:hget rest m=none) (hz:m≠z):∀ i x,hget ((z,e)::rest) i=some x→hget ((m,none)::(m,a)::(m,b)::(z,e)::(z,c)::rest) i=some x:=by
  intro i x h
  by_cases h1:i=m
  · subst h1
    rw [hget_tl hz,hm] at h
    cases h
  · rw [hget_tl h1, hget_tl h1, hget_tl h1]
    by_cases h2:i=z
    · subst h2
      rw [hget_hd] at h ⊢
      exact h
    · rw [hget_tl h2] at h ⊢
      rw [hget_tl h2]
      exact h
theorem ids_nodup {D:List Rpt} (h:(D.map Rpt.id).Nodup):D.Nodup:=by
  rw [List.nodup_iff_pairwise_ne] at h ⊢
  rw [List.pairwise_map] at h
  exact h.imp fun h e=>h (by rw [e])
theorem pick_once {D:List Rpt} (hn:(D.map Rpt.id).Nodup) {seen:List Nat} {p:Nat} (hp:p < D.length) (hs:p ∉ seen):onceA (D.map Rpt.v) ((pick D seen).map Rpt.v) D[p].v:=by
  refine ⟨List.mem_map_of_mem (List.getElem_mem hp),fun h=>?_⟩
  obtain ⟨x,hx,e⟩:=List.mem_map.1 h
  rw [Rpt.v_inj e] at hx
  obtain ⟨q,q1,q2⟩:=List.mem_filterMap.1 hx
  have:p=q:=(List.getElem?_inj hp (ids_nodup hn)).1 ((List.getElem?_eq_getElem hp).trans q2.symm)
  exact hs (this ▸ q1)
theorem f121 (D : List Rpt) (hn : (D.map Rpt.id).Nodup) : YieldsB P0 121 [] [.fp (fmR D)] (onceA (D.map Rpt.v)) (onceZ (D.map Rpt.v)) := by
  intro j n l R hjn hfeed
  show PCall P0 121 [.yld j,.fp (fmR D)] (HE n l) R _
  have hf0:=hfeed D.length
  clear hfeed
  refine PCall.ofH (C:=c121) (cx_ok _ _ _) rfl (fn:=Tryz.f121) (by kernel_rfl) (c:=_) rfl rfl rfl (fun hok=>?_)
  refine Run.seq (Run.region (cx_ok _ _ _) (Reg.op rfl (Ope.load rfl rfl ?_)))
  refine Reg.op rfl (Ope.rngF (ks:=D.map kR) (vs:=D.map Rpt.v) rfl ?_)
  refine Reg.nil (Run.block (Run.loop (α:=List Nat×HL×Nat) (fun t=>[(0,.yld j),(1,.fp (fmR D)),(6,.ptr n 0)]) (fun t=>HE t.2.2 ((n,some (fitR D t.1))::t.2.1)) (fun t=>Seen D.length t.1∧n < t.2.2∧hget t.2.1 n=none∧(∀ i,t.2.2≤i→hget t.2.1 i=none)∧FeedB P0 (.yld j) R (onceA (D.map Rpt.v)) (onceZ (D.map Rpt.v)) (D.length - t.1.length) ((pick D t.1).map Rpt.v) t.2.2 t.2.1) (fun t=>D.length - t.1.length) ([],l,n+1) ⟨rfl,rfl,rfl,trivial⟩ rfl ⟨Seen.nil _,Nat.lt_succ_self _,ok_none hok (Nat.le_refl _),fun i hi=>ok_none hok (by simp only at hi;omega),hf0.mono (Nat.le_succ _)⟩ (fun t ht=>?_)))
  obtain ⟨seen,l2,m⟩:=t
  obtain ⟨hs,hnm,hln,hlm,hfe⟩:=ht
  simp only at hs hnm hln hlm hfe
  show Run _ _ _ _ [(0,.yld j),(1,.fp (fmR D)),(6,.ptr n 0)] [] (HE m ((n,some (fitR D seen))::l2))
  refine Run.seq (Run.region (cx_ok _ _ _) (Reg.op rfl (Ope.nxtF (xs:=D) (kf:=kR) (vf:=Rpt.v) (kv:=nR) ofR rfl hget_hd rfl (fun hall=>?_) (fun p hp hps=>?_))))
  ·refine Reg.op rfl (Ope.ext rfl rfl ?_)
   refine Reg.nil (Run.seq (Run.condX rfl (fun hc=>?_) fun hc=>?_))
   ·first
    |(cases hc;done)
    |refine Run.skip (Run.block (Run.seq (Run.region (cx_ok _ _ _) (Reg.op rfl (Ope.entF (xs := D) (kf := kR) (vf := Rpt.v) (kv := nR) ofR hp rfl hget_hd ?_)))))
     refine Reg.op rfl (Ope.ext rfl rfl ?_)
     refine Reg.op rfl (Ope.newL rfl ?_)
     refine Reg.op0 (Ope.store rfl rfl hget_hd rfl rfl rfl ?_)
     refine Reg.nil (Run.seq (Run.frz (d:=4) true rfl hget_hd rfl ?_))
     refine Run.wideS (m:=m+1) (l':=(n,some (fitR D (seen++[p])))::l2) (Nat.le_refl _) (hs_round (hlm m (Nat.le_refl _)) (by omega)) ?_
     have hlt:=hs.len_lt hp hps
     have hs':=hs.snoc hp hps
     have hfu:D.length - seen.length=(D.length - (seen++[p]).length)+1:=by
       rw [List.length_append,List.length_singleton];omega
     rw [hfu] at hfe
     have hnew:=pick_once hn hp hps
     have hpk:(pick D (seen++[p])).map Rpt.v=(pick D seen).map Rpt.v++[D[p].v]:=by rw [pick_snoc hp,List.map_append];rfl
     have hown:OwnsB [(n,some (fitR D (seen++[p])))] l2:=OwnsB.one rfl hln
     refine Run.region (cx_ok _ _ _) (Reg.op rfl (Ope.mov rfl ?_))
     refine Reg.op rfl (Ope.load rfl rfl ?_)
     refine Reg.op rfl (Ope.yldC (own:=[(n,some (fitR D (seen++[p])))]) (l:=l2) (j:=j) (v:=D[p].v) rfl rfl hown hnew (hfe.mono (Nat.le_succ _)) (fun m3 l3 hm3 hok3 hno3 hfe3=>?_) (fun m3 l3 hm3 hok3 hno3 hR=>?_))
     ·refine Reg.op rfl (Ope.not rfl ?_)
      refine Reg.nil (Run.condX rfl (fun hc=>?_) fun hc=>?_)
      ·first
       |(cases hc;done)
       |refine Run.ret (Jmp.retB (Jmp.round (Jmp.retB ?_)))
        first
        | exact finH_ret .nil (Nat.le_refl _) (fun i x h=>by
            show hget ((n,some (fitR D (seen++[p])))::l3) i=some x
            rw [hget_tl (fun e=>by rw [e,hno3 n keysB_one] at h;cases h)];exact h) (hR m3 (Nat.le_refl _) _)
        | exact finH_end .nil (Nat.le_refl _) (fun i x h=>by
            show hget ((n,some (fitR D seen))::l2) i=some x
            rw [hget_tl (fun e=>by rw [e,hln] at h;cases h)];exact h) (hfe.done (fun v hv=>by
            obtain ⟨r,hr,rfl⟩:=List.mem_map.1 hv
            obtain ⟨z,hz,rfl⟩:=List.getElem_of_mem hr
            exact List.mem_map_of_mem (List.mem_filterMap.2 ⟨z,hall z hz,List.getElem?_eq_getElem hz⟩)) m (Nat.le_refl _) _)
      ·first
       |(cases hc;done)
       |exact Run.skip (Run.bend (Run.lend ⟨(seen++[p],l3,m3),by show D.length - (seen++[p]).length < D.length - seen.length;rw [List.length_append,List.length_singleton];omega,⟨hs',by show n < m3;omega,hno3 n keysB_one,fun i hi=>ok_none hok3 hi,by rw [hpk];exact hfe3⟩,⟨rfl,rfl,rfl,trivial⟩,rfl,rfl⟩))
     ·refine Reg.op rfl (Ope.not rfl ?_)
      refine Reg.nil (Run.condX rfl (fun hc=>?_) fun hc=>?_)
      ·first
       |(cases hc;done)
       |refine Run.ret (Jmp.retB (Jmp.round (Jmp.retB ?_)))
        first
        | exact finH_ret .nil (Nat.le_refl _) (fun i x h=>by
            show hget ((n,some (fitR D (seen++[p])))::l3) i=some x
            rw [hget_tl (fun e=>by rw [e,hno3 n keysB_one] at h;cases h)];exact h) (hR m3 (Nat.le_refl _) _)
        | exact finH_end .nil (Nat.le_refl _) (fun i x h=>by
            show hget ((n,some (fitR D seen))::l2) i=some x
            rw [hget_tl (fun e=>by rw [e,hln] at h;cases h)];exact h) (hfe.done (fun v hv=>by
            obtain ⟨r,hr,rfl⟩:=List.mem_map.1 hv
            obtain ⟨z,hz,rfl⟩:=List.getElem_of_mem hr
            exact List.mem_map_of_mem (List.mem_filterMap.2 ⟨z,hall z hz,List.getElem?_eq_getElem hz⟩)) m (Nat.le_refl _) _)
      ·first
       |(cases hc;done)
       |exact Run.skip (Run.bend (Run.lend ⟨(seen++[p],l3,m3),by show D.length - (seen++[p]).length < D.length - seen.length;rw [List.length_append,List.length_singleton];omega,⟨hs',by show n < m3;omega,hno3 n keysB_one,fun i hi=>ok_none hok3 hi,by rw [hpk];exact hfe3⟩,⟨rfl,rfl,rfl,trivial⟩,rfl,rfl⟩))
   ·first
    |(cases hc;done)
    |refine Run.exit (Jmp.code (Jmp.round (Jmp.here ?_)))
     first
     | exact finH_ret .nil (Nat.le_refl _) (fun i x h=>by
         show hget ((n,some (fitR D (seen++[p])))::l3) i=some x
         rw [hget_tl (fun e=>by rw [e,hno3 n keysB_one] at h;cases h)];exact h) (hR m3 (Nat.le_refl _) _)
     | exact finH_end .nil (Nat.le_refl _) (fun i x h=>by
         show hget ((n,some (fitR D seen))::l2) i=some x
         rw [hget_tl (fun e=>by rw [e,hln] at h;cases h)];exact h) (hfe.done (fun v hv=>by
         obtain ⟨r,hr,rfl⟩:=List.mem_map.1 hv
         obtain ⟨z,hz,rfl⟩:=List.getElem_of_mem hr
         exact List.mem_map_of_mem (List.mem_filterMap.2 ⟨z,hall z hz,List.getElem?_eq_getElem hz⟩)) m (Nat.le_refl _) _)
  ·refine Reg.op rfl (Ope.ext rfl rfl ?_)
   refine Reg.nil (Run.seq (Run.condX rfl (fun hc=>?_) fun hc=>?_))
   ·first
    |(cases hc;done)
    |refine Run.skip (Run.block (Run.seq (Run.region (cx_ok _ _ _) (Reg.op rfl (Ope.entF (xs := D) (kf := kR) (vf := Rpt.v) (kv := nR) ofR hp rfl hget_hd ?_)))))
     refine Reg.op rfl (Ope.ext rfl rfl ?_)
     refine Reg.op rfl (Ope.newL rfl ?_)
     refine Reg.op0 (Ope.store rfl rfl hget_hd rfl rfl rfl ?_)
     refine Reg.nil (Run.seq (Run.frz (d:=4) true rfl hget_hd rfl ?_))
     refine Run.wideS (m:=m+1) (l':=(n,some (fitR D (seen++[p])))::l2) (Nat.le_refl _) (hs_round (hlm m (Nat.le_refl _)) (by omega)) ?_
     have hlt:=hs.len_lt hp hps
     have hs':=hs.snoc hp hps
     have hfu:D.length - seen.length=(D.length - (seen++[p]).length)+1:=by
       rw [List.length_append,List.length_singleton];omega
     rw [hfu] at hfe
     have hnew:=pick_once hn hp hps
     have hpk:(pick D (seen++[p])).map Rpt.v=(pick D seen).map Rpt.v++[D[p].v]:=by rw [pick_snoc hp,List.map_append];rfl
     have hown:OwnsB [(n,some (fitR D (seen++[p])))] l2:=OwnsB.one rfl hln
     refine Run.region (cx_ok _ _ _) (Reg.op rfl (Ope.mov rfl ?_))
     refine Reg.op rfl (Ope.load rfl rfl ?_)
     refine Reg.op rfl (Ope.yldC (own:=[(n,some (fitR D (seen++[p])))]) (l:=l2) (j:=j) (v:=D[p].v) rfl rfl hown hnew (hfe.mono (Nat.le_succ _)) (fun m3 l3 hm3 hok3 hno3 hfe3=>?_) (fun m3 l3 hm3 hok3 hno3 hR=>?_))
     ·refine Reg.op rfl (Ope.not rfl ?_)
      refine Reg.nil (Run.condX rfl (fun hc=>?_) fun hc=>?_)
      ·first
       |(cases hc;done)
       |refine Run.ret (Jmp.retB (Jmp.round (Jmp.retB ?_)))
        first
        | exact finH_ret .nil (Nat.le_refl _) (fun i x h=>by
            show hget ((n,some (fitR D (seen++[p])))::l3) i=some x
            rw [hget_tl (fun e=>by rw [e,hno3 n keysB_one] at h;cases h)];exact h) (hR m3 (Nat.le_refl _) _)
        | exact finH_end .nil (Nat.le_refl _) (fun i x h=>by
            show hget ((n,some (fitR D seen))::l2) i=some x
            rw [hget_tl (fun e=>by rw [e,hln] at h;cases h)];exact h) (hfe.done (fun v hv=>by
            obtain ⟨r,hr,rfl⟩:=List.mem_map.1 hv
            obtain ⟨z,hz,rfl⟩:=List.getElem_of_mem hr
            exact List.mem_map_of_mem (List.mem_filterMap.2 ⟨z,hall z hz,List.getElem?_eq_getElem hz⟩)) m (Nat.le_refl _) _)
      ·first
       |(cases hc;done)
       |exact Run.skip (Run.bend (Run.lend ⟨(seen++[p],l3,m3),by show D.length - (seen++[p]).length < D.length - seen.length;rw [List.length_append,List.length_singleton];omega,⟨hs',by show n < m3;omega,hno3 n keysB_one,fun i hi=>ok_none hok3 hi,by rw [hpk];exact hfe3⟩,⟨rfl,rfl,rfl,trivial⟩,rfl,rfl⟩))
     ·refine Reg.op rfl (Ope.not rfl ?_)
      refine Reg.nil (Run.condX rfl (fun hc=>?_) fun hc=>?_)
      ·first
       |(cases hc;done)
       |refine Run.ret (Jmp.retB (Jmp.round (Jmp.retB ?_)))
        first
        | exact finH_ret .nil (Nat.le_refl _) (fun i x h=>by
            show hget ((n,some (fitR D (seen++[p])))::l3) i=some x
            rw [hget_tl (fun e=>by rw [e,hno3 n keysB_one] at h;cases h)];exact h) (hR m3 (Nat.le_refl _) _)
        | exact finH_end .nil (Nat.le_refl _) (fun i x h=>by
            show hget ((n,some (fitR D seen))::l2) i=some x
            rw [hget_tl (fun e=>by rw [e,hln] at h;cases h)];exact h) (hfe.done (fun v hv=>by
            obtain ⟨r,hr,rfl⟩:=List.mem_map.1 hv
            obtain ⟨z,hz,rfl⟩:=List.getElem_of_mem hr
            exact List.mem_map_of_mem (List.mem_filterMap.2 ⟨z,hall z hz,List.getElem?_eq_getElem hz⟩)) m (Nat.le_refl _) _)
      ·first
       |(cases hc;done)
       |exact Run.skip (Run.bend (Run.lend ⟨(seen++[p],l3,m3),by show D.length - (seen++[p]).length < D.length - seen.length;rw [List.length_append,List.length_singleton];omega,⟨hs',by show n < m3;omega,hno3 n keysB_one,fun i hi=>ok_none hok3 hi,by rw [hpk];exact hfe3⟩,⟨rfl,rfl,rfl,trivial⟩,rfl,rfl⟩))
   ·first
    |(cases hc;done)
    |refine Run.exit (Jmp.code (Jmp.round (Jmp.here ?_)))
     first
     | exact finH_ret .nil (Nat.le_refl _) (fun i x h=>by
         show hget ((n,some (fitR D (seen++[p])))::l3) i=some x
         rw [hget_tl (fun e=>by rw [e,hno3 n keysB_one] at h;cases h)];exact h) (hR m3 (Nat.le_refl _) _)
     | exact finH_end .nil (Nat.le_refl _) (fun i x h=>by
         show hget ((n,some (fitR D seen))::l2) i=some x
         rw [hget_tl (fun e=>by rw [e,hln] at h;cases h)];exact h) (hfe.done (fun v hv=>by
         obtain ⟨r,hr,rfl⟩:=List.mem_map.1 hv
         obtain ⟨z,hz,rfl⟩:=List.getElem_of_mem hr
         exact List.mem_map_of_mem (List.mem_filterMap.2 ⟨z,hall z hz,List.getElem?_eq_getElem hz⟩)) m (Nat.le_refl _) _)
end Go.Pv
namespace Go.Pv
open Go.Am Go.RowKit
def mkwP (A : AP) (t : TypeId) : Option (List PV × Nat) :=
 match A.under t with
 |some (.slice e)=>match A.info e with
  |some ie=>match ie.zero with
   |some z=>match z.cells.size == ie.size && Nat.ble 1 ie.size,ofCells z.cells.toList with
    |true,some cs=>match PV.ofAVs cs with
     |some ps=>some (ps,ie.bytes)
     |none=>none
    |_,_=>none
   |none=>none
  |none=>none
 |_=>none
class Mkw (A:AP) (t:Nat) (zs:outParam (List PV)) (bytes:outParam Nat):Prop where
 ok:mkwP A t=some (zs,bytes)
def cpsL (zs:List PV):Nat→List PV
 |0=>[]
 |n+1=>zs++cpsL zs n
theorem cpsL_len (zs:List PV):∀ n,(cpsL zs n).length=n * zs.length
 |0=>by simp [cpsL]
 |n+1=>by simp only [cpsL,List.length_append,cpsL_len zs n,Nat.succ_mul];omega
theorem ofAVs_cps {a:List AV} {z:List PV} (h:PV.ofAVs a=some z):∀ n,PV.ofAVs (acopies a n)=some (cpsL z n)
 |0=>rfl
 |n+1=>ofAVs_app h (ofAVs_cps h n)
theorem Mkw.get {A:AP} {t bytes:Nat} {z:List PV} (h:Mkw A t z bytes):∃ e ie,A.under t=some (.slice e)∧A.info e=some ie∧ie.bytes=bytes∧∀ n,∃ zs,azeros A e n=some zs∧PV.ofAVs zs=some (cpsL z n):=by
 have h1:=h.ok
 unfold mkwP at h1
 split at h1
 case h_2=>cases h1
 next e hu =>
 split at h1
 case h_2=>cases h1
 next ie hie =>
 split at h1
 case h_2=>cases h1
 next zz hz =>
 split at h1
 case h_2=>cases h1
 next cs hb hcs =>
 split at h1
 case h_2=>cases h1
 next ps hps =>
 cases h1
 refine ⟨e,ie,hu,hie,rfl,fun n=>⟨acopies cs n,?_,ofAVs_cps hps n⟩⟩
 unfold azeros
 simp only [hie,hz,hb,hcs]
section
variable {C:Cx} {X:EX} {e:EL} {ds:List Nat} {K:PV→PH→Prop} {h:PH} {n:Nat} {l:HL}
variable {d:Option Tmp} {type:TypeId} {pos:String} {after:Array Edge} {guard:Option (Nat×Bool)}
theorem Ope.mkw {t bytes:Nat} {x y:Operand} {kk kk':IntKind} {z:List PV} {a b:Int} {m c:Nat} [hs:Mkw C.A t z bytes] (hx:pev (lget e) x=some (.lit (.int kk a))) (hy:pev (lget e) y=some (.lit (.int kk' b))) (ha:a=(m:Int)) (hb:b=(c:Int)) (hmc:m≤c) (hc:c≤1000000000) (hbc:bytes * c≤140737488355328)
  (hK:∀ ez,K (.ms n 0 m c ez) (HE (n+1) ((n,some (.cells (cpsL z c)))::l))):Ope C X { dst:=d,op:=.makeSlice t x y,type,pos,after,guard } e ds (HE n l) K:=by
 subst ha hb
 obtain ⟨el,ie,q1,q2,rfl,q4⟩:=hs.get
 obtain ⟨zs,q5,q6⟩:=q4 c
 unfold Ope
 simp only [pop,pkind,ploud,hx,hy,PMake,q1,q2]
 exact ⟨m,c,zs,_,rfl,rfl,hmc,hc,hbc,q5,q6,by rw [HE_add];exact hK _⟩
theorem Ope.capE {t sz bytes:Nat} {agg:Bool} {x:Operand} {vs:List PV} [hs:Slc C.A t agg sz bytes] (hx:pev (lget e) x=some (.sl .ex vs)) (hK:K (I vs.length) h) :
  Ope C X { dst:=d,op:=.call { callee:=.builtin .cap,args:=#[x],argTypes:=#[t] },type,pos,after,guard } e ds h K:=by
 refine Ope.quiet rfl ?_ hK
 obtain ⟨el,ti,h1,_⟩:=hs.get
 simp only [pquiet,pargs,hx,pcap,h1]
 rfl
theorem Ope.cap0 {t sz bytes:Nat} {agg:Bool} {x:Operand} [hs:Slc C.A t agg sz bytes] (hx:pev (lget e) x=some (.sl .ex [])) (hK:K (I 0) h) :
  Ope C X { dst:=d,op:=.call { callee:=.builtin .cap,args:=#[x],argTypes:=#[t] },type,pos,after,guard } e ds h K:=Ope.capE hx hK
theorem Ope.apZ {t tx sz bytes m:Nat} {agg:Bool} {x y:Operand} {kk kd:IntKind} {a:Int} [hs:Slc C.A t agg sz bytes] [hm:Mka C.A t] (hu:C.A.under tx=some (.int kd)) (hx:pev (lget e) x=some (.sl .ex [])) (hy:pev (lget e) y=some (.lit (.int kk a))) (ha:a=(m:Int)) (h1:1≤m) (h2:m≤1000000000) (hb:m * bytes≤140737488355328)
  (hK:∀ c vs ez,m≤c→vs.length=c * sz→K (.ms n 0 m c ez) (HE (n+1) ((n,some (.cells vs))::l))) :
  Ope C X { dst:=d,op:=.call { callee:=.builtin .append,args:=#[x,y],argTypes:=#[t,tx] },type,pos,after,guard } e ds (HE n l) K:=by
 subst ha
 obtain ⟨el,ti,q1,q2,q3,q4,q5⟩:=hs.get
 obtain ⟨d',ti',h4,h5,rfl,rfl⟩:=q2.get
 rw [q3] at h5
 cases h5
 subst q4
 obtain ⟨el2,r1,r4⟩:=hm.get
 rw [q1] at r1
 cases r1
 unfold Ope
 simp only [pop,pkind,ploud,pargs,hx,hy,PAppend,q1,hu,q3]
 refine ⟨m,rfl,h1,h2,hb,r4,fun c vs' p1 p2=>?_⟩
 rw [HE_add]
 exact hK c vs' _ p1 p2
end
end Go.Pv
namespace Go.Pv
open Go.Proofs Go.Am
set_option maxRecDepth 10000
section
variable (D:List Rpt) (hD:D.length≤100)
include hD
theorem f122 (hl:D.length≤12) (hn:(D.map Rpt.id).Nodup) (hid:IdsOk D) (j c m:Nat) (ez:Option Nat) (post:List PV) (k:Int) :
    PCall P0 122 [.ms j 0 D.length c ez,I 0,I D.length,I k,cmpV] (HE m [(j,some (.cells (flat (D.map Rpt.v)++post)))]) (fun v h'=>∃ m',m≤m'∧v=.tup []∧h'=HE m' [(j,some (.cells (flat ((srtR D).map Rpt.v)++post)))]) fun _ _=>False:=by
  have hins:=f139 D hD hn hid j c m ez post
  refine PCall.ofH (C:=c122) (cx_ok _ _ _) rfl (fn:=Tryz.f122) (by kernel_rfl) (c:=_) rfl rfl rfl (fun hok=>?_)
  refine Run.seq (Run.region (cx_ok _ _ _) (Reg.op rfl (Ope.asg rfl ?_)))
  refine Reg.nil (Run.seq (Run.region (cx_ok _ _ _) (Reg.op rfl (Ope.asg rfl ?_))))
  refine Reg.nil (Run.block (Run.loop (α:=Nat) (fun _=>[(0,.ms j 0 D.length c ez),(1,I 0),(2,I D.length),(4,cmpV)]) (fun _=>HE m [(j,some (.cells (flat (D.map Rpt.v)++post)))]) (fun _=>True) (fun _=>0) 0 ⟨rfl,rfl,rfl,rfl,trivial⟩ rfl trivial (fun i hi=>?_)))
  refine Run.block (Run.seq (Run.region (cx_ok _ _ _) (Reg.op rfl (Ope.mov rfl ?_))))
  refine Reg.op rfl (Ope.mov rfl ?_)
  refine Reg.op rfl (Ope.sub rfl rfl (by omega) ?_)
  refine Reg.op rfl (Ope.asg rfl ?_)
  refine Reg.nil (Run.seq (Run.seq (Run.region (cx_ok _ _ _) (Reg.op rfl (Ope.mov rfl ?_)))))
  refine Reg.op rfl (Ope.le rfl rfl ?_)
  refine Reg.nil (Run.condX rfl (fun hc=>?_) fun hc=>?_)
  ·refine Run.seq (Run.region (cx_ok _ _ _) (Reg.op rfl (Ope.mov rfl ?_)))
   refine Reg.op rfl (Ope.mov rfl ?_)
   refine Reg.op rfl (Ope.mov rfl ?_)
   refine Reg.op rfl (Ope.mov rfl ?_)
   refine Reg.op rfl (Ope.call rfl rfl rfl (hins.mono (fun v h' q=>?_) fun _ _ q=>q.elim))
   obtain ⟨m',hm',rfl,rfl⟩:=q
   exact Reg.nil (Run.ret (Jmp.code (Jmp.retB (Jmp.round (Jmp.retB (finH_ret .nil (Nat.le_refl _) (fun _ _ h=>h) ⟨m',hm',rfl,rfl⟩))))))
  ·(exfalso;omega)
theorem f100 (hl:D.length≤12) (hn:(D.map Rpt.id).Nodup) (hid:IdsOk D) (j c m:Nat) (ez:Option Nat) (post:List PV) :
    PCall P0 100 [.ms j 0 D.length c ez,cmpV] (HE m [(j,some (.cells (flat (D.map Rpt.v)++post)))]) (fun v h'=>∃ m',m≤m'∧v=.tup []∧h'=HE m' [(j,some (.cells (flat ((srtR D).map Rpt.v)++post)))]) fun _ _=>False:=by
  have hlen:=f123 D.length hD
  have hp:=fun k=>f122 D hD hl hn hid j c m ez post k
  refine PCall.ofH (C:=c100) (cx_ok _ _ _) rfl (fn:=Tryz.f100) (by kernel_rfl) (c:=_) rfl rfl rfl (fun hok=>?_)
  refine Run.seq (Run.region (cx_ok _ _ _) (Reg.op rfl (Ope.mov rfl ?_)))
  refine Reg.op rfl (Ope.lenL rfl ?_)
  refine Reg.op rfl (Ope.asg rfl ?_)
  refine Reg.nil (Run.region (cx_ok _ _ _) (Reg.op rfl (Ope.mov rfl ?_)))
  refine Reg.op rfl (Ope.mov rfl ?_)
  refine Reg.op rfl (Ope.mov rfl ?_)
  refine Reg.op rfl (Ope.convN (p:=D.length) rfl rfl (by show D.length < 2 ^ 63;omega) ?_)
  refine Reg.op rfl (Ope.call rfl rfl rfl (hlen.call rfl (fun v hv=>?_) fun v hv=>hv.elim))
  obtain ⟨k,rfl⟩:=hv
  refine Reg.op rfl (Ope.mov rfl ?_)
  refine Reg.op rfl (Ope.call rfl rfl rfl ((hp k).mono (fun v h' q=>?_) fun _ _ q=>q.elim))
  obtain ⟨m',hm',rfl,rfl⟩:=q
  exact Reg.nil (finH_end .nil (Nat.le_refl _) (fun _ _ h=>h) ⟨m',hm',rfl,rfl⟩)
end
end Go.Pv
namespace Go.Pv
open Go.Proofs Go.Am
set_option maxRecDepth 10000
instance:Mka A0 22:=⟨by kernel_rfl⟩
theorem len_sub:∀ {L D:List Rpt},L.Nodup→(∀ x∈L,x∈D)→L.length≤D.length
  | [],_,_,_=>Nat.zero_le _
  | r :: L, D, hn, h => by
    obtain ⟨h1,h2⟩:=List.nodup_cons.1 hn
    have hr:=h r (by simp)
    have ih:=len_sub (D:=D.erase r) h2 fun x hx=>(List.mem_erase_of_ne (fun e=>h1 (by rw [← e];exact hx))).2 (h x (List.mem_cons_of_mem _ hx))
    rw [List.length_erase_of_mem hr] at ih
    have:=List.length_pos_of_mem hr
    simp only [List.length_cons]
    omega
def lsR (L:List Rpt):Option (Nat×Nat×Option Nat×List PV)→PV
  | none=>.sl .ex []
  | some (j,c,ez,_)=>.ms (j+3) 0 L.length c ez
def lhR (L:List Rpt):Option (Nat×Nat×Option Nat×List PV)→HL
  | none=>[]
  | some (j,_,_,post)=>[(j+3,some (.cells (flat (L.map Rpt.v)++post)))]
def LOkR (L:List Rpt) (m:Nat):Option (Nat×Nat×Option Nat×List PV)→Prop
  | none=>L=[]
  | some (j,c,_,post)=>L≠[]∧j+3 < m∧L.length≤c∧post.length=(c - L.length) * 8
def EndR (D:List Rpt) (v:PV) (h':PH):Prop:=∃ L m st,L.Perm D∧LOkR L m st∧v=lsR L st∧h'=HE m (lhR L st)
theorem f120 (D:List Rpt) (hD:D.length≤100) (hn:(D.map Rpt.id).Nodup):PCall P0 120 [.sl .ex [],valR D] (HE 0 []) (EndR D) fun _ _=>False:=by
  have hy:=f121 D hn
  have hsub:∀ {L:List Rpt},L.Nodup→(∀ x∈L,x∈D)→L.length≤D.length:=fun h1 h2=>len_sub h1 h2
  refine PCall.ofH (C:=c120) (cx_ok _ _ _) rfl (fn:=Tryz.f120) (by kernel_rfl) (c:=_) rfl rfl rfl (fun hok=>?_)
  refine Run.seq (Run.region (cx_ok _ _ _) (Reg.op rfl (Ope.boxL rfl rfl ?_)))
  refine Reg.op rfl (Ope.asg rfl ?_)
  refine Reg.nil (Run.seq (Run.seq (Run.region (cx_ok _ _ _) (Reg.op rfl (Ope.mov rfl ?_)))))
  refine Reg.nil (Run.block ?_)
  refine Run.rangeFB (cx_ok _ _ _) rfl (α:=List Rpt×Option (Nat×Nat×Option Nat×List PV)×Nat) (fun a=>(0,some (.cells [lsR a.1 a.2.1]))::lhR a.1 a.2.1) (fun a=>a.2.2) (fun pre a=>pre=a.1.map Rpt.v∧a.1.Nodup∧(∀ x∈a.1,x∈D)∧LOkR a.1 a.2.2 a.2.1∧3≤a.2.2) rfl hy rfl rfl ⟨Tryz.f120,by kernel_rfl⟩ ([],none,3) ⟨rfl,List.nodup_nil,fun x hx=>(by cases hx),rfl,Nat.le_refl _⟩ ⟨rfl,trivial⟩ (fun a p hp=>by
    obtain ⟨i,st,m⟩:=a
    rcases List.mem_cons.1 hp with rfl | hp
    · show (0:Nat)≠2;decide
    · cases st with
      | none=>cases hp
      | some q=>rw [List.mem_singleton.1 hp];show q.1+3≠2;omega) (by simp [lhR]) (Nat.le_refl _) (fun pre a v hv hI m hm1 hm2 lb=>?_) (fun pre a hall hI m hm1 hm2=>?_)
  ·obtain ⟨L,st,mm⟩:=a
   obtain ⟨rfl,hLn,hLD,hL,h3⟩:=hI
   simp only at hLn hLD hL h3 hm1
   obtain ⟨hv1,hv2⟩:=hv
   obtain ⟨r,hr,rfl⟩:=List.mem_map.1 hv1
   have hrL:r ∉ L:=fun h=>hv2 (List.mem_map_of_mem h)
   have hn1:(L++[r]).Nodup:=by
     rw [List.nodup_append]
     exact ⟨hLn,by simp,fun a ha b hb e=>hrL (by rw [List.mem_singleton.1 hb] at e;rw [← e];exact ha)⟩
   have hD1:∀ x∈L++[r],x∈D:=fun x hx=>by
     rcases List.mem_append.1 hx with hx | hx
     · exact hLD x hx
     · rw [List.mem_singleton.1 hx];exact hr
   have hle:=hsub hLn hLD
   have hfin:∀ (j' n' c':Nat) (post':List PV) (ez':Option Nat),3≤j'→j' < n'→L.length+1≤c'→post'.length=(c' - (L.length+1)) * 8→∃ st',LOkR (L++[r]) n' st'∧lsR (L++[r]) st'=.ms j' 0 (L.length+1) c' ez'∧lhR (L++[r]) st'=[(j',some (.cells (flat (L.map Rpt.v++[r.v])++post')))]:=fun j' n' c' post' ez' a1 a2 a3 a4=>by
     have e1:j' - 3+3=j':=by omega
     refine ⟨some (j' - 3,c',ez',post'),⟨by simp,by rw [e1];exact a2,by rw [List.length_append];exact a3,by rw [List.length_append];exact a4⟩,?_,?_⟩
     · show PV.ms (j' - 3 + 3) 0 (L ++ [r]).length c' ez' = _
       rw [e1,List.length_append];rfl
     · show [(j' - 3 + 3, some (PBlk.cells (flat ((L ++ [r]).map Rpt.v) ++ post')))] = _
       rw [e1,List.map_append];rfl
   have hpre:L.map Rpt.v++[r.v]=(L++[r]).map Rpt.v:=by rw [List.map_append];rfl
   rcases st with _ | ⟨j,c,ez,post⟩
   ·refine Run.region (Cx.Ok.rnd (cx_ok _ _ _)) (Reg.op rfl (Ope.newL rfl ?_))
    refine Reg.op0 (Ope.store rfl rfl hget_hd rfl rfl rfl ?_)
    refine Reg.nil (Run.done ⟨rfl,rfl,_,_,rfl,(hget_tl (by omega)).trans ((hget_tl (by omega)).trans hget_hd),fun lb2=>?_⟩)
    refine Run.block (Run.frz (d:=5) true rfl ((hget_tl (by omega)).trans hget_hd) rfl ?_)
    first
    | (have hL0 : L = [] := hL
       refine Run.wide (m:=m+1) (l':=[(0,some (.cells [.sl .ex []])),(2,some lb2),(1,some .dfr)]) (Nat.le_refl _) ⟨by repeat (first | rfl | exact hget_hd | refine (hget_tl (by omega)).trans ?_),by repeat (first | rfl | exact hget_hd | refine (hget_tl (by omega)).trans ?_),by repeat (first | rfl | exact hget_hd | refine (hget_tl (by omega)).trans ?_),trivial⟩ ?_)
    | (obtain ⟨hL1, hL2, hL3, hL4⟩ := hL
       refine Run.wide (m:=m+1) (l':=[(0,some (.cells [.ms (j+3) 0 L.length c ez])),(j+3,some (.cells (flat (L.map Rpt.v)++post))),(2,some lb2),(1,some .dfr)]) (Nat.le_refl _) ⟨by repeat (first | rfl | exact hget_hd | refine (hget_tl (by omega)).trans ?_),by repeat (first | rfl | exact hget_hd | refine (hget_tl (by omega)).trans ?_),by repeat (first | rfl | exact hget_hd | refine (hget_tl (by omega)).trans ?_),by repeat (first | rfl | exact hget_hd | refine (hget_tl (by omega)).trans ?_),trivial⟩ ?_)
    refine Run.regionL (Cx.Ok.rnd (cx_ok _ _ _)) (RegL.op rfl (Ope.load rfl rfl ?_))
    refine RegL.op rfl (Ope.load rfl rfl ?_)
    refine RegL.op rfl (Ope.bsl rfl rfl rfl rfl ?_)
    first
    | refine RegL.op rfl (Ope.apLb (ws:=[r.v]) rfl rfl (by simp) (by simp) (by simp) (by decide) (by simp) (by intro v hv;simp only [List.mem_singleton] at hv;subst hv;exact ⟨rfl,rfl⟩) (fun c' post' ez' hc' hp'=>?_))
    | refine RegL.apB (vs:=L.map Rpt.v) (ws:=[r.v]) (post:=post) rfl rfl rfl ((hget_tl (by omega)).trans hget_hd) (by rw [List.length_map]) hL3 hL4 (by simp only [List.length_map,List.length_singleton];omega) (by simp only [List.length_map,List.length_singleton];omega) (by intro v hv;obtain ⟨_,_,rfl⟩:=List.mem_map.1 hv;rfl) (by intro v hv;simp only [List.mem_singleton] at hv;subst hv;exact ⟨rfl,rfl⟩) (fun j' n' c' post' ez' hj' hc' hp'=>?_)
    refine RegL.op0 (Ope.store rfl rfl ((hget_tl (by omega)).trans hget_hd) rfl rfl rfl ?_)
    refine RegL.nil (Run.bend ?_)
    first
    | (obtain ⟨st', b1, b2, b3⟩ := hfin (m + 1) (m + 2) c' post' ez' (by omega) (Nat.lt_succ_self _) (by rw [hL0]; simpa using hc') (by rw [hL0]; simpa using hp')
       subst hL0
       refine Run.done ⟨rfl,_,_,rfl,by omega,by repeat (first | rfl | exact hget_hd | refine (hget_tl (by omega)).trans ?_),([]++[r],st',m+2),Nat.le_refl _,⟨by repeat (first | rfl | exact hget_hd | refine (hget_tl (by omega)).trans ?_),?_,?_⟩,hpre,hn1,hD1,b1,by show 3≤m+2;omega⟩
       · show hget _ 0 = some (.cells [lsR ([] ++ [r]) st'])
         rw [b2]
         repeat (first | rfl | exact hget_hd | refine (hget_tl (by omega)).trans ?_)
       · show Hsub (lhR ([] ++ [r]) st') _
         rw [b3]
         exact ⟨by repeat (first | rfl | exact hget_hd | refine (hget_tl (by omega)).trans ?_),trivial⟩)
    | (simp only [List.length_map, List.length_singleton] at hc' hp'
       obtain ⟨st',b1,b2,b3⟩:=hfin j' n' c' post' ez' (by omega) (by omega) hc' hp'
       refine Run.done ⟨rfl,_,_,rfl,by omega,by repeat (first | rfl | exact hget_hd | refine (hget_tl (by omega)).trans ?_),(L++[r],st',n'),Nat.le_refl _,⟨by repeat (first | rfl | exact hget_hd | refine (hget_tl (by omega)).trans ?_),?_,?_⟩,hpre,hn1,hD1,b1,by show 3≤n';omega⟩
       · show hget _ 0 = some (.cells [lsR (L ++ [r]) st'])
         rw [b2]
         refine hget_hd.trans ?_
         simp only [List.length_map,List.length_singleton]
       · show Hsub (lhR (L ++ [r]) st') _
         rw [b3]
         exact ⟨by repeat (first | rfl | exact hget_hd | refine (hget_tl (by omega)).trans ?_),trivial⟩)
   ·refine Run.region (Cx.Ok.rnd (cx_ok _ _ _)) (Reg.op rfl (Ope.newL rfl ?_))
    refine Reg.op0 (Ope.store rfl rfl hget_hd rfl rfl rfl ?_)
    refine Reg.nil (Run.done ⟨rfl,rfl,_,_,rfl,(hget_tl (by omega)).trans ((hget_tl (by omega)).trans hget_hd),fun lb2=>?_⟩)
    refine Run.block (Run.frz (d:=5) true rfl ((hget_tl (by omega)).trans hget_hd) rfl ?_)
    first
    | (have hL0 : L = [] := hL
       refine Run.wide (m:=m+1) (l':=[(0,some (.cells [.sl .ex []])),(2,some lb2),(1,some .dfr)]) (Nat.le_refl _) ⟨by repeat (first | rfl | exact hget_hd | refine (hget_tl (by omega)).trans ?_),by repeat (first | rfl | exact hget_hd | refine (hget_tl (by omega)).trans ?_),by repeat (first | rfl | exact hget_hd | refine (hget_tl (by omega)).trans ?_),trivial⟩ ?_)
    | (obtain ⟨hL1, hL2, hL3, hL4⟩ := hL
       refine Run.wide (m:=m+1) (l':=[(0,some (.cells [.ms (j+3) 0 L.length c ez])),(j+3,some (.cells (flat (L.map Rpt.v)++post))),(2,some lb2),(1,some .dfr)]) (Nat.le_refl _) ⟨by repeat (first | rfl | exact hget_hd | refine (hget_tl (by omega)).trans ?_),by repeat (first | rfl | exact hget_hd | refine (hget_tl (by omega)).trans ?_),by repeat (first | rfl | exact hget_hd | refine (hget_tl (by omega)).trans ?_),by repeat (first | rfl | exact hget_hd | refine (hget_tl (by omega)).trans ?_),trivial⟩ ?_)
    refine Run.regionL (Cx.Ok.rnd (cx_ok _ _ _)) (RegL.op rfl (Ope.load rfl rfl ?_))
    refine RegL.op rfl (Ope.load rfl rfl ?_)
    refine RegL.op rfl (Ope.bsl rfl rfl rfl rfl ?_)
    first
    | refine RegL.op rfl (Ope.apLb (ws:=[r.v]) rfl rfl (by simp) (by simp) (by simp) (by decide) (by simp) (by intro v hv;simp only [List.mem_singleton] at hv;subst hv;exact ⟨rfl,rfl⟩) (fun c' post' ez' hc' hp'=>?_))
    | refine RegL.apB (vs:=L.map Rpt.v) (ws:=[r.v]) (post:=post) rfl rfl rfl ((hget_tl (by omega)).trans hget_hd) (by rw [List.length_map]) hL3 hL4 (by simp only [List.length_map,List.length_singleton];omega) (by simp only [List.length_map,List.length_singleton];omega) (by intro v hv;obtain ⟨_,_,rfl⟩:=List.mem_map.1 hv;rfl) (by intro v hv;simp only [List.mem_singleton] at hv;subst hv;exact ⟨rfl,rfl⟩) (fun j' n' c' post' ez' hj' hc' hp'=>?_)
    refine RegL.op0 (Ope.store rfl rfl ((hget_tl (by omega)).trans hget_hd) rfl rfl rfl ?_)
    refine RegL.nil (Run.bend ?_)
    first
    | (obtain ⟨st', b1, b2, b3⟩ := hfin (m + 1) (m + 2) c' post' ez' (by omega) (Nat.lt_succ_self _) (by rw [hL0]; simpa using hc') (by rw [hL0]; simpa using hp')
       subst hL0
       refine Run.done ⟨rfl,_,_,rfl,by omega,by repeat (first | rfl | exact hget_hd | refine (hget_tl (by omega)).trans ?_),([]++[r],st',m+2),Nat.le_refl _,⟨by repeat (first | rfl | exact hget_hd | refine (hget_tl (by omega)).trans ?_),?_,?_⟩,hpre,hn1,hD1,b1,by show 3≤m+2;omega⟩
       · show hget _ 0 = some (.cells [lsR ([] ++ [r]) st'])
         rw [b2]
         repeat (first | rfl | exact hget_hd | refine (hget_tl (by omega)).trans ?_)
       · show Hsub (lhR ([] ++ [r]) st') _
         rw [b3]
         exact ⟨by repeat (first | rfl | exact hget_hd | refine (hget_tl (by omega)).trans ?_),trivial⟩)
    | (simp only [List.length_map, List.length_singleton] at hc' hp'
       obtain ⟨st',b1,b2,b3⟩:=hfin j' n' c' post' ez' (by omega) (by omega) hc' hp'
       refine Run.done ⟨rfl,_,_,rfl,by omega,by repeat (first | rfl | exact hget_hd | refine (hget_tl (by omega)).trans ?_),(L++[r],st',n'),Nat.le_refl _,⟨by repeat (first | rfl | exact hget_hd | refine (hget_tl (by omega)).trans ?_),?_,?_⟩,hpre,hn1,hD1,b1,by show 3≤n';omega⟩
       · show hget _ 0 = some (.cells [lsR (L ++ [r]) st'])
         rw [b2]
         refine hget_hd.trans ?_
         simp only [List.length_map,List.length_singleton]
       · show Hsub (lhR (L ++ [r]) st') _
         rw [b3]
         exact ⟨by repeat (first | rfl | exact hget_hd | refine (hget_tl (by omega)).trans ?_),trivial⟩)
  ·obtain ⟨L,st,mm⟩:=a
   obtain ⟨rfl,hLn,hLD,hL,h3⟩:=hI
   simp only at hLn hLD hL h3 hm1
   have hperm:L.Perm D:=(List.perm_ext_iff_of_nodup hLn (ids_nodup hn)).2 fun x=>⟨hLD x,fun hx=>by
     obtain ⟨y,hy,e⟩:=List.mem_map.1 (hall x.v (List.mem_map_of_mem hx))
     rw [← Rpt.v_inj e];exact hy⟩
   refine Run.bend (Run.seq (Run.region (cx_ok _ _ _) (Reg.op rfl (Ope.load rfl rfl ?_))))
   refine Reg.op rfl (Ope.asg rfl ?_)
   refine Reg.nil (Run.ret (finH_retD hget_hd (.tmp rfl .nil) (Nat.le_refl _) (fun i x h=>?_) ⟨L,m,st,hperm,?_,rfl,rfl⟩))
   · cases st with
     | none=>cases h
     | some q =>
       have h:hget [(q.1+3,some (PBlk.cells (flat (L.map Rpt.v)++q.2.2.2)))] i=some x:=h
       by_cases hq:i=q.1+3
       · subst hq
         refine (hget_tl (by omega)).trans ((hget_tl (by omega)).trans ((hget_tl (by omega)).trans h))
       · rw [hget_tl hq] at h;cases h
   · cases st with
     | none=>exact hL
     | some q=>exact ⟨hL.1,by have:=hL.2.1;omega,hL.2.2⟩
theorem f97 (D:List Rpt) (hD:D.length≤100) (hn:(D.map Rpt.id).Nodup):PCall P0 97 [valR D] (HE 0 []) (EndR D) fun _ _=>False:=by
  have ha:=f120 D hD hn
  refine PCall.ofH (C:=c97) (cx_ok _ _ _) rfl (fn:=Tryz.f97) (by kernel_rfl) (c:=_) rfl rfl rfl (fun hok=>?_)
  refine Run.seq (Run.region (cx_ok _ _ _) (Reg.op rfl (Ope.asg rfl ?_)))
  refine Reg.nil (Run.seq (Run.region (cx_ok _ _ _) (Reg.op rfl (Ope.mov rfl ?_))))
  refine Reg.op rfl (Ope.call rfl rfl rfl (ha.mono (fun v h' q=>?_) fun _ _ q=>q.elim))
  obtain ⟨L,m,st,hp,hL,rfl,rfl⟩:=q
  refine Reg.op rfl (Ope.asg rfl ?_)
  exact Reg.nil (Run.ret (finH_ret (.tmp rfl .nil) (Nat.le_refl _) (fun _ _ h=>h) ⟨L,m,st,hp,hL,rfl,rfl⟩))
end Go.Pv
