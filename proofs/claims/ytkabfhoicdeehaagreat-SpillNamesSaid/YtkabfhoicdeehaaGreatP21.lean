/- Parts of the proof: Pv79, S20, S21, S22, S23, S24 -/
import Derived.Test.YtkabfhoicdeehaaGreatP17
import Derived.Test.YtkabfhoicdeehaaGreatP20
set_option linter.unusedVariables false
set_option linter.unusedSimpArgs false
set_option linter.unusedSectionVars false
namespace Go.Pv
open Go.Am Go.RowKit
def HS (l l':HL):Prop:=∀ i x,hget l i=some x→hget l' i=some x
theorem HS.refl (l:HL):HS l l:=fun _ _ h=>h
theorem HS.cons {l l':HL} (h:HS l l') (p:Nat×Option PBlk):HS (p::l) (p::l'):=fun i x hi=>by
 obtain ⟨j,b⟩:=p
 by_cases e:i=j
 ·subst e;rw [hget_hd] at hi ⊢;exact hi
 ·rw [hget_tl e] at hi ⊢;exact h i x hi
def FAsgG (C1:Cx) (d m0:Nat) (lb:PBlk) (body:Code) (N:Nat→HL→Prop) (J:Code→Nat→HL→Prop):EQ:=fun x e ds h =>
 x=.normal∧ds=[]∧∃ m l,h=HE m l∧hget l (d+1)=some lb∧∀ lb',lb'.isOwn=false→Run C1 (FBody d m0 lb' N J) noX [.c body] e [] (HE m ((d+1,some lb')::l))
section
variable {P:Program} {own l:HL} {n:Nat}
theorem PCall.ownedB {g:FuncId} {args:List PV} {R:PV→PH→Prop} {X:PV→PH→Prop} (ho:OwnsB own l) (hp:PCall P g args (HE n l) R fun _ _=>False) {K:PV→PH→Prop}
  (hK:∀ v m l',(HE m l').Ok→(∀ i,keysB own i=true→hget l' i=none)→R v (HE m l')→K v (HE m (own++l'))) (hR:∀ v h,R v h→∃ m l',h=HE m l'):PCall P g args (HE n (own++l)) K X:=by
 rw [← ho.hide] at hp
 refine (PCall.frameO ho.hid hp).mono ?_ ?_
 ·rintro v h' ⟨h1,r1,r2,rfl⟩
  obtain ⟨m,l',rfl⟩:=hR v h1 r1
  rw [Owns.give]
  exact hK v m l' r2.1 r2.2 r1
 ·rintro v h' ⟨h1,r1,_⟩
  exact r1.elim
end
section
variable {C:Cx} {F:EQ} {X:EX} {k:List KI} {e:EL} {ds:List Nat} {h:PH} {n:Nat} {l:HL}
theorem Run.rangeG (hC:C.Ok) (hrnd:C.rnd=none) {f:Operand} {ps:Array Tmp} {asg body:Code} {fs cp items:List PV} {g:Nat} {α:Type} (hp:α→HL) (nx:α→Nat) (I:Nat→α→Prop)
  (hf:pev (lget e) f=some (.fn (.func g) fs cp)) (hy:Yields C.P g fs cp items) (hps:ps.size=1) (hpl:ps.toList.all (fun p=>Nat.blt p C.sz)=true) (hfi:∃ fn,C.P.funcs[C.fi]?=some fn)
  (a0:α) (h0:I 0 a0) (hl0:HS (hp a0) l) (hk:∀ i a,I i a→hget (hp a) (n+1)=none) (hk0:hget (hp a0) n=none) (hn0:nx a0≤n+2)
  (round : ∀ i a v, items[i]? = some v → I i a → ∀ m, nx a ≤ m → n + 2 ≤ m → ∀ lb : PBlk, lb.isOwn = false → Run { C with rnd := some (n + 1) }
   (FAsgG { C with rnd := some (n + 1) } n m lb body (fun m l => ∃ a', nx a' ≤ m ∧ HS ((n, some .dfr) :: hp a') l ∧ I (i + 1) a')
    fun j m l=>∃ l3,HS l3 ((n+1,none)::l)∧∀ m4,m≤m4→Jmp C F X k j e (n::ds) (HE m4 l3)) noX [.c asg] (tsE e ps.toList [v]) [] (HE m ((n+1,some lb)::(n,some .dfr)::hp a)))
  (fin:∀ a,I items.length a→∀ m,nx a≤m→n+2≤m→Run C F X k e (n::ds) (HE m ((n,some .dfr)::hp a))):Run C F X (.c (.rangeFunc f ps asg body)::k) e ds (HE n l):=by
 refine Run.intro ?_
 let Qg:PQ:=fun x t ds h=>∃ h' t',Ghost h h' t t'∧Pv.toQ (Ks C F X k) x t' ds h'
 have hpw:=PWP.rangeFunc (P:=C.P) hC.A (fi:=C.fi) (sz:=C.sz) (Q:=Qg) (X:=toX X) (t:=TE e) (ds:=ds) (h:=HE n l) (f:=f) (ps:=ps) (asg:=asg) (body:=body) (fv:=.fn (.func g) fs cp) (by rw [TE_getf];exact hf) ?_
 ·rw [Cx.wp,hrnd]
  exact PWP.ghostQ hpw
 show pcallF C.A C.P (.fn (.func g) fs cp) [.yld (n+1)] _ _ _
 simp only [pcallF]
 have hnn:(HE n l).next=n:=rfl
 rw [HE_add,hnn,HE_add]
 let lbs (st:LoopState) (pd:Option Code):PBlk:=.loop st pd C.fi (TE e) C.sz ps asg body n
 refine PCall.mono (hy (n+1) (n+2) _ (QLoop (n+1) (TE e) (n::ds) Qg) (by omega) ?_) (fun _ _ h=>h) fun _ _ h=>h.elim
 have key:∀ (vs:List PV) (i:Nat) (a:α) (m:Nat) (l':HL),items.drop i=vs→i≤items.length→I i a→nx a≤m→n+2≤m→HS ((n+1,some (lbs .ready none))::(n,some .dfr)::hp a) l' →
   Feed C.P (.yld (n+1)) (QLoop (n+1) (TE e) (n::ds) Qg) vs m l':=by
  intro vs
  induction vs with
  |nil =>
   intro i a m l' hd hil hI hm hm2 hs m2 hm3 u
   have hi:i=items.length:=by have:=List.drop_eq_nil_iff.1 hd;omega
   subst hi
   refine ⟨.ready,none,C.fi,TE e,C.sz,ps,asg,body,n,rfl,hs _ _ hget_hd,?_⟩
   refine ⟨HE m2 ((n,some .dfr)::hp a),TE e,Ghost.wide (h:=(HE m2 l').del (n+1)) (h':=HE m2 ((n,some .dfr)::hp a)) (Nat.le_refl _) fun i b hi=>?_,(fin a hI m2 (by omega) (by omega)).toQ (Sub.refl e)⟩
   rw [HE_del]
   show hget ((n+1,none)::l') i=some b
   have hne:i≠n+1:=fun e=>by
    subst e
    have hi:hget ((n,some .dfr)::hp a) (n+1)=some b:=hi
    rw [hget_tl (by omega),hk _ a hI] at hi
    cases hi
   rw [hget_tl hne]
   exact hs i b (by rw [hget_tl hne];exact hi)
  |cons v vs ih =>
   intro i a m l' hd hil hI hm hm2 hs m2 hm3
   have hv:items[i]?=some v:=by
    have:=congrArg List.head? hd
    simpa [List.head?_drop] using this
   have hlt:i < items.length:=(List.getElem?_eq_some_iff.1 hv).1
   have hd':items.drop (i+1)=vs:=by
    have:=congrArg List.tail hd
    simpa using this
   have hr:=round i a v hv hI m2 (by omega) (by omega) (lbs .ready none) rfl
   refine PCallV.yld (t:=TE e) (fn:=C.fi) (sz:=C.sz) (ps:=ps) (asg:=asg) (body:=body) (d:=n) (hs _ _ hget_hd) hfi (by simp [hps]) (fun p hp=>blt_lt (List.all_eq_true.1 hpl p hp)) ?_
   have hra:=PWP.ghost (Ghost.wide (h:=HE m2 l') (h':=HE m2 ((n+1,some (lbs .ready none))::(n,some .dfr)::hp a)) (Nat.le_refl _) fun i b hi=>hs i b hi) (hr.wp (tsE_sub ps.toList [v] e (TE e) (Sub.refl e)))
   refine PWP.mono hra ?_ fun _ _ _ _ hx=>hx.elim
   rintro x t1 ds1 h1 ⟨e1,hsub1,rfl,rfl,m3,l3,rfl,hg3,hb⟩
   refine ⟨rfl,rfl,TE e,hg3,?_⟩
   have hb2:=(hb (lbs .busy none) rfl).wp hsub1
   rw [HE_put]
   refine PWP.mono hb2 ?_ fun _ _ _ _ hx=>hx.elim
   rintro x t2 ds2 h2 ⟨e2,hsub2,rfl,m5,l5,rfl,hm5,hg5,hx⟩
   refine ⟨rfl,.busy,none,TE e,hg5,?_⟩
   cases x with
   |normal =>
    obtain ⟨a',q1,q2,q3⟩:=hx
    refine ⟨m5,(n+1,some (lbs .ready none))::l5,by simp only [HE_put];rfl,by omega,.inl ⟨rfl,?_⟩⟩
    refine ih (i+1) a' m5 _ hd' hlt q3 q1 (by omega) fun q x hq=>?_
    by_cases hne:q=n+1
    ·subst hne
     rw [hget_hd] at hq ⊢;exact hq
    ·rw [hget_tl hne] at hq ⊢
     exact q2 q x hq
   |jump j =>
    obtain ⟨q0,l6,q1,q2⟩:=hx
    refine ⟨q0,m5,(n+1,some (lbs .done (some j)))::l5,by simp only [HE_put];rfl,by omega,.inr ⟨rfl,fun m6 hm6 u=>?_⟩⟩
    refine ⟨.done,some j,C.fi,TE e,C.sz,ps,asg,body,n,rfl,hget_hd,q0,?_⟩
    refine ⟨HE m6 l6,TE e,Ghost.wide (h:=(HE m6 _).del (n+1)) (h':=HE m6 l6) (Nat.le_refl _) fun i b hi=>?_,(q2 m6 hm6).toQ (Sub.refl e)⟩
    rw [HE_del]
    have:=q1 i b hi
    show hget ((n+1,none)::(n+1,some (lbs .done (some j)))::l5) i=some b
    simp only [hget] at this ⊢
    split at this
    ·cases this
    ·next hb=>simp only [hb];exact this
 refine key items 0 a0 (n+2) _ (by simp) (Nat.zero_le _) h0 hn0 (Nat.le_refl _) fun q x hq=>?_
 by_cases h1:q=n+1
 ·subst h1
  rw [hget_hd] at hq ⊢;exact hq
 ·rw [hget_tl h1] at hq ⊢
  by_cases h2:q=n
  ·subst h2
   rw [hget_hd] at hq ⊢;exact hq
  ·rw [hget_tl h2] at hq ⊢
   exact hl0 q x hq
end
end Go.Pv
namespace Go.Pv
open Go.Proofs Go.Am
set_option maxRecDepth 10000
def fallS (x:Rpt):Nat:=lpS x.a.toNat (x.a+x.c - 1).toNat
def voR:List Rpt→Nat→List Nat
  | [],v=>[v]
  | f::F,v=>(exR f).flatMap fun x=>voR F (v ||| fallS x)
structure FallOk (f:Rpt):Prop where
  a:0≤f.a
  b:f.b≤50
  c:1≤f.c
  d:f.d≤10
theorem mem_exK {r x:Rpt} {i:Nat}:∀ {n k:Nat},x∈exK r i k n→∃ k',k≤k'∧k' < k+n∧x=r.at i k'
  | 0,k,h=>by cases h
  | n + 1, k, h => by
    rcases List.mem_cons.1 h with rfl | h
    · exact ⟨k,Nat.le_refl _,by omega,rfl⟩
    · obtain ⟨k', h1, h2, h3⟩ := mem_exK h
      exact ⟨k',by omega,by omega,h3⟩
theorem mem_exI {r x:Rpt}:∀ {n i:Nat},x∈exI r i n→∃ i' k',i≤i'∧i' < i+n∧k' < r.nm∧x=r.at i' k'
  | 0,i,h=>by cases h
  | n + 1, i, h => by
    rcases List.mem_append.1 h with h | h
    · obtain ⟨k', h1, h2, h3⟩ := mem_exK h
      exact ⟨i,k',Nat.le_refl _,by omega,by omega,h3⟩
    · obtain ⟨i', k', h1, h2, h3, h4⟩ := mem_exI h
      exact ⟨i',k',by omega,by omega,h3,h4⟩
theorem mem_exR {r x:Rpt} (h:x∈exR r):∃ i k:Nat,i < r.nl∧k < r.nm∧x=r.at i k:=by
  obtain ⟨i,k,h1,h2,h3,h4⟩:=mem_exI h
  exact ⟨i,k,by omega,h3,h4⟩
theorem exR_rng {r x:Rpt} (h:x∈exR r):r.a≤x.a∧x.a≤r.b∧r.c≤x.c∧x.c≤r.d:=by
  obtain ⟨i,k,h1,h2,rfl⟩:=mem_exR h
  unfold Rpt.nl at h1
  unfold Rpt.nm at h2
  simp only [Rpt.at]
  omega
theorem fallS_lt {f x:Rpt} (hf:FallOk f) (hx:x∈exR f):fallS x < 2 ^ 62:=by
  have:=exR_rng hx
  have h1:=hf.a;have h2:=hf.b;have h3:=hf.c;have h4:=hf.d
  exact lpS_lt (by omega)
theorem voR_lt:∀ {F:List Rpt} {v:Nat},(∀ f∈F,FallOk f)→v < 2 ^ 62→∀ w∈voR F v,w < 2 ^ 62
  | [],v,_,hv,w,hw=>by rw [List.mem_singleton.1 hw];exact hv
  | f :: F, v, hF, hv, w, hw => by
    obtain ⟨x,hx,hw⟩:=List.mem_flatMap.1 hw
    exact voR_lt (fun g hg=>hF g (List.mem_cons_of_mem _ hg)) (Nat.or_lt_two_pow hv (fallS_lt (hF f (by simp)) hx)) w hw
abbrev clo (tf:Tail) (falls:List Rpt) (j z:Nat):PV:=.fn (.func 125) [] [.fp (.sl tf (falls.map Rpt.v)),.fp (.yld j),.ptr z 0]
def FedZ (z:Nat) (b:PBlk) (j n:Nat) (R:PV→PH→Prop) (rest:List PV) (v:PV) (h':PH):Prop :=
  ∃ m l',h'=HE m ((z,some b)::l')∧n≤m∧hget l' z=none∧(∀ q,m≤q→hget l' q=none)∧((v=B true∧Feed P0 (.yld j) R rest m l')∨(v=B false∧∀ m2,m≤m2→∀ u,R u (HE m2 l')))
theorem fedZ_own {z j n:Nat} {b:PBlk} {R:PV→PH→Prop} {rest:List PV} {own l:HL} {g:Nat} {args:List PV} (ho:OwnsB own ((z,some b)::l)) (hp:PCall P0 g args (HE n ((z,some b)::l)) (FedZ z b j n R rest) fun _ _=>False) :
    PCall P0 g args (HE n (own++(z,some b)::l)) (fun v h'=>∃ m l',h'=HE m (own++(z,some b)::l')∧n≤m∧(∀ i,keysB own i=true→hget l' i=none)∧hget l' z=none∧(∀ q,m≤q→hget l' q=none)∧((v=B true∧Feed P0 (.yld j) R rest m l')∨(v=B false∧∀ m2,m≤m2→∀ u,R u (HE m2 l')))) fun _ _=>False:=by
  have hkz:keysB own z≠true:=fun h=>by
    have:=ho.2 z h
    rw [hget_hd] at this;cases this
  refine PCall.ownedB ho hp (fun v m l' hok hno hq=>?_) (fun v h hq=>?_)
  · obtain ⟨m1, l1, e1, hm, hz, hlm, hb⟩ := hq
    obtain ⟨rfl,e2⟩:m=m1∧hget l'=hget ((z,some b)::l1):=by
      have:=e1
      simp only [HE,PH.mk.injEq] at this
      exact ⟨this.2,this.1⟩
    refine ⟨m,l1,?_,hm,fun i hi=>?_,hz,hlm,hb⟩
    · simp only [HE, PH.mk.injEq, and_true]
      funext i
      rw [keysB_app,keysB_app,e2]
    · have := hno i hi
      rw [e2] at this
      by_cases hiz:i=z
      · subst hiz;exact absurd hi hkz
      · rw [hget_tl hiz] at this;exact this
  · obtain ⟨m1, l1, e1, _⟩ := hq
    exact ⟨m1,_,e1⟩
theorem loadB {n:Nat} {b:Bool} {l:HL} (h:hget l n=some (.cells [B b])):loadK false 1 l (.ptr n 0)=some (B b):=by
  simp only [loadK,h]
  rfl
section
variable (tf:Tail) (falls:List Rpt) (hfl:falls.length≤100)
include hfl
theorem f125z (void:Nat) (hv:void < 2 ^ 62) (j z n:Nat) (hj:j < n) (hz:z < n) (l:HL) (hlz:hget l z=none) (R:PV→PH→Prop) (rest:List PV) (hf:Feed P0 (.yld j) R (U void::rest) n l) :
    PCall P0 125 [N falls.length,U void,.fp (.sl tf (falls.map Rpt.v)),.fp (.yld j),.ptr z 0] (HE n ((z,some (.cells [clo tf falls j z]))::l)) (FedZ z (.cells [clo tf falls j z]) j n R rest) fun _ _=>False:=by
  refine PCall.ofH (C:=c125) (cx_ok _ _ _) rfl (fn:=Tryz.f125) (by kernel_rfl) (c:=_) rfl rfl rfl (fun hok=>?_)
  refine Run.seq (Run.region (cx_ok _ _ _) (Reg.op rfl (Ope.boxF rfl rfl ?_)))
  refine Reg.op rfl (Ope.boxF rfl rfl ?_)
  refine Reg.op rfl (Ope.newL rfl ?_)
  refine Reg.nil (Run.seq (Run.seq (Run.region (cx_ok _ _ _) (Reg.op rfl (Ope.load rfl rfl ?_)))))
  refine Reg.op rfl (Ope.load rfl rfl ?_)
  refine Reg.op rfl (Ope.len (m:=falls.length) rfl (by simp) ?_)
  refine Reg.op rfl (Ope.eq rfl rfl ?_)
  refine Reg.nil (Run.condX rfl (fun hc=>?_) fun hc=>?_)
  ·refine Run.seq (Run.region (cx_ok _ _ _) (Reg.op rfl (Ope.load rfl rfl ?_)))
   refine Reg.op rfl (Ope.load rfl rfl ?_)
   refine Reg.op rfl (Ope.yld (own:=[(n,some (.cells [B false])),(z,some (.cells [clo tf falls j z]))]) (l:=l) (j:=j) (v:=U void) rfl rfl (Owns.of (fun p hp=>by
     rcases List.mem_cons.1 hp with rfl | hp
     · exact ⟨_,rfl⟩
     · rw [List.mem_singleton.1 hp];exact ⟨_,rfl⟩) (fun p hp=>by
     rcases List.mem_cons.1 hp with rfl | hp
     · have := ok_none hok (Nat.le_refl n)
       rw [hget_tl (by omega)] at this;exact this
     · rw [List.mem_singleton.1 hp];exact hlz)) (hf.mono (Nat.le_succ _)) (fun m2 l2 hm2 hok2 hno2 hf2=>?_) (fun m2 l2 hm2 hok2 hno2 hr2=>?_))
   ·refine Reg.op0 (Ope.store rfl rfl hget_hd rfl rfl rfl ?_)
    refine Reg.nil (Run.ret (Jmp.code ?_))
    first
    | exact finH_ret (.cell rfl (loadB hget_hd) .nil) (Nat.le_refl _) (hs_skip (hs_skip hs_refl ((hget_tl (by omega)).trans (hno2 n keysB_two.1))) ((hget_tl (by omega)).trans (hno2 n keysB_two.1))) ⟨m2,l2,rfl,by omega,hno2 z keysB_two.2,fun q hq=>ok_none hok2 hq,.inl ⟨rfl,hf2⟩⟩
    | exact finH_ret (.cell rfl (loadB hget_hd) .nil) (Nat.le_refl _) (hs_skip (hs_skip hs_refl ((hget_tl (by omega)).trans (hno2 n keysB_two.1))) ((hget_tl (by omega)).trans (hno2 n keysB_two.1))) ⟨m2,l2,rfl,by omega,hno2 z keysB_two.2,fun q hq=>ok_none hok2 hq,.inr ⟨rfl,hr2⟩⟩
   ·refine Reg.op0 (Ope.store rfl rfl hget_hd rfl rfl rfl ?_)
    refine Reg.nil (Run.ret (Jmp.code ?_))
    first
    | exact finH_ret (.cell rfl (loadB hget_hd) .nil) (Nat.le_refl _) (hs_skip (hs_skip hs_refl ((hget_tl (by omega)).trans (hno2 n keysB_two.1))) ((hget_tl (by omega)).trans (hno2 n keysB_two.1))) ⟨m2,l2,rfl,by omega,hno2 z keysB_two.2,fun q hq=>ok_none hok2 hq,.inl ⟨rfl,hf2⟩⟩
    | exact finH_ret (.cell rfl (loadB hget_hd) .nil) (Nat.le_refl _) (hs_skip (hs_skip hs_refl ((hget_tl (by omega)).trans (hno2 n keysB_two.1))) ((hget_tl (by omega)).trans (hno2 n keysB_two.1))) ⟨m2,l2,rfl,by omega,hno2 z keysB_two.2,fun q hq=>ok_none hok2 hq,.inr ⟨rfl,hr2⟩⟩
  ·exact absurd rfl hc
end
end Go.Pv
namespace Go.Pv
open Go.Proofs Go.Am
set_option maxRecDepth 10000
theorem HS.skip {l l':HL} (h:HS l l') {n:Nat} {x:Option PBlk} (hn:hget l n=none):HS l ((n,x)::l'):=hs_skip h hn
theorem f125s (tf : Tail) (falls : List Rpt) (hfl : falls.length ≤ 100) (hFO : ∀ f ∈ falls, FallOk f) (next : Nat) (hnx : next < falls.length)
    (ih:∀ void:Nat,void < 2 ^ 62→∀ j z n:Nat,j < n→z < n→∀ l:HL,hget l z=none→∀ (R:PV→PH→Prop) (rest:List PV),Feed P0 (.yld j) R ((voR (falls.drop (next+1)) void).map U++rest) n l →
      PCall P0 125 [N (next+1),U void,.fp (.sl tf (falls.map Rpt.v)),.fp (.yld j),.ptr z 0] (HE n ((z,some (.cells [clo tf falls j z]))::l)) (FedZ z (.cells [clo tf falls j z]) j n R rest) fun _ _=>False)
    (void:Nat) (hv:void < 2 ^ 62) (j z n:Nat) (hj:j < n) (hz:z < n) (l:HL) (hlz:hget l z=none) (R:PV→PH→Prop) (rest:List PV) (hf:Feed P0 (.yld j) R ((voR (falls.drop next) void).map U++rest) n l) :
    PCall P0 125 [N next,U void,.fp (.sl tf (falls.map Rpt.v)),.fp (.yld j),.ptr z 0] (HE n ((z,some (.cells [clo tf falls j z]))::l)) (FedZ z (.cells [clo tf falls j z]) j n R rest) fun _ _=>False:=by
  have hdr:falls.drop next=falls[next]::falls.drop (next+1):=List.drop_eq_getElem_cons hnx
  rw [hdr] at hf
  have hfo:=hFO _ (List.getElem_mem hnx)
  have hyl:=f130 falls[next] ⟨by have:=hfo.a;omega,by have:=hfo.b;omega,by have:=hfo.c;omega,by have:=hfo.d;omega⟩
  have hex:=f113 falls[next]
  have hit:∀ x∈exR falls[next],fallS x < 2 ^ 62:=fun x hx=>fallS_lt hfo hx
  have hrg:∀ x∈exR falls[next],0≤x.a∧x.a≤50∧1≤x.c∧x.c≤10:=fun x hx=>by
    have:=exR_rng hx
    have h1:=hfo.a;have h2:=hfo.b;have h3:=hfo.c;have h4:=hfo.d
    omega
  have hf':Feed P0 (.yld j) R ((((exR falls[next]).drop 0).flatMap fun x=>voR (falls.drop (next+1)) (void ||| fallS x)).map U++rest) n l:=hf
  refine PCall.ofH (C:=c125) (cx_ok _ _ _) rfl (fn:=Tryz.f125) (by kernel_rfl) (c:=_) rfl rfl rfl (fun hok=>?_)
  refine Run.seq (Run.region (cx_ok _ _ _) (Reg.op rfl (Ope.boxF rfl rfl ?_)))
  refine Reg.op rfl (Ope.boxF rfl rfl ?_)
  refine Reg.op rfl (Ope.newL rfl ?_)
  refine Reg.nil (Run.seq (Run.seq (Run.region (cx_ok _ _ _) (Reg.op rfl (Ope.load rfl rfl ?_)))))
  refine Reg.op rfl (Ope.load rfl rfl ?_)
  refine Reg.op rfl (Ope.len (m:=falls.length) rfl (by simp) ?_)
  refine Reg.op rfl (Ope.eq rfl rfl ?_)
  refine Reg.nil (Run.condX rfl (fun hc=>?_) fun hc=>?_)
  ·(exfalso;omega)
  ·refine Run.skip (Run.seq (Run.seq ?_))
   have hln:hget l n=none:=by
     have:=ok_none hok (Nat.le_refl n)
     rw [hget_tl (by omega)] at this;exact this
   have hlm:∀ q,n≤q→hget l q=none:=fun q hq=>by
     have:=ok_none hok hq
     rw [hget_tl (by omega)] at this;exact this
   refine Run.region (cx_ok _ _ _) (Reg.op rfl (Ope.load rfl rfl ?_))
   refine Reg.op rfl (Ope.load rfl rfl ?_)
   refine Reg.op rfl (Ope.idxM (m:=next) (f:=Rpt.v) rfl rfl rfl hnx (fun _=>rfl) ?_)
   refine Reg.op rfl (Ope.load rfl rfl ?_)
   refine Reg.op rfl (Ope.cf rfl rfl (hex) rfl ?_)
   refine Reg.nil (Run.block (Run.rangeG (cx_ok _ _ _) rfl (α:=HL×Nat) (fun a=>(n,some (.cells [B false]))::(z,some (.cells [clo tf falls j z]))::a.1) (fun a=>a.2) (fun i a=>i≤(exR falls[next]).length∧hget a.1 n=none∧hget a.1 z=none∧hget a.1 (n+1)=none∧hget a.1 (n+2)=none∧(∀ q,a.2≤q→hget a.1 q=none)∧n≤a.2∧Feed P0 (.yld j) R ((((exR falls[next]).drop i).flatMap fun x=>voR (falls.drop (next+1)) (void ||| fallS x)).map U++rest) a.2 a.1) rfl hyl rfl rfl ⟨Tryz.f125,by kernel_rfl⟩ (l,n) ⟨Nat.zero_le _,hln,hlz,hlm _ (by omega),hlm _ (by omega),hlm,Nat.le_refl _,hf'⟩ (HS.refl _) (fun i a hI=>by rw [hget_tl (by omega),hget_tl (by omega)];exact hI.2.2.2.2.1) (by rw [hget_tl (by omega),hget_tl (by omega)];exact hlm _ (by omega)) (by show n≤_;omega) (fun i a v hvi hI m hm1 hm2 lb hlb=>?_) (fun a hI m hm1 hm2=>?_)))
   ·obtain ⟨l2, m0⟩ := a
    obtain ⟨hi,h2n,h2z,h2a,h2b,h2m,hnm,hfe⟩:=hI
    simp only at hi h2n h2z h2a h2b h2m hnm hfe hm1
    obtain ⟨x,hx,rfl⟩:∃ x,(exR falls[next])[i]?=some x∧v=x.v:=by
      rw [List.getElem?_map] at hvi
      cases hq:(exR falls[next])[i]? with
      | none=>rw [hq] at hvi;cases hvi
      | some x=>rw [hq] at hvi;cases hvi;exact ⟨x,rfl,rfl⟩
    obtain ⟨hlt,hgt9⟩:=List.getElem?_eq_some_iff.1 hx
    have hmem:x∈exR falls[next]:=List.mem_of_getElem? hx
    obtain ⟨hx1,hx2,hx3,hx4⟩:=hrg x hmem
    have hxs:=hit x hmem
    have hor:=Nat.or_lt_two_pow hv hxs
    have hdi:(exR falls[next]).drop i=x::(exR falls[next]).drop (i+1):=by rw [List.drop_eq_getElem_cons hlt,hgt9]
    rw [hdi,List.flatMap_cons,List.map_append,List.append_assoc] at hfe
    have hih:=ih (void ||| fallS x) hor j z (m+1) (by omega) (by omega) l2 h2z R _ (hfe.mono (n':=m+1) (by omega))
    have hla:=f126 x.a.toNat (x.a+x.c - 1).toNat (by omega) (by omega)
    unfold N at hla
    rw [show ((x.a.toNat:Nat):Int)=x.a from by omega,show (((x.a+x.c - 1).toNat:Nat):Int)=x.a+x.c - 1 from by omega] at hla
    have hlo:=f67 void (fallS x) hv hxs
    have hmm:hget l2 m=none:=h2m m hm1
    have hnn:N (next+1)=I ((next:Int)+1):=rfl
    rw [hnn] at hih
    refine Run.region (Cx.Ok.rnd (cx_ok _ _ _)) (Reg.op rfl (Ope.newL rfl ?_))
    refine Reg.op0 (Ope.store rfl rfl hget_hd rfl rfl rfl ?_)
    refine Reg.nil (Run.done ⟨rfl,rfl,_,_,rfl,(hget_tl (by omega)).trans ((hget_tl (by omega)).trans hget_hd),fun lb2 hlb2=>?_⟩)
    refine Run.block (Run.seq (Run.frz (d:=8) true rfl ((hget_tl (by omega)).trans hget_hd) rfl ?_))
    refine Run.wideS (m:=m+1) (l':=[(n+1+1,some lb2),(n+1,some .dfr),(n,some (.cells [B false]))]++(z,some (.cells [clo tf falls j z]))::l2) (Nat.le_refl _) (fun q b hq=>?_) ?_
    · have hqm : q ≠ m := fun e => by
        subst e
        have hq:hget ((n+1+1,some lb2)::(n+1,some .dfr)::(n,some (.cells [B false]))::(z,some (.cells [clo tf falls j z]))::l2) q=some b:=hq
        rw [hget_tl (by omega),hget_tl (by omega),hget_tl (by omega),hget_tl (by omega),hmm] at hq
        cases hq
      rw [hget_tl hqm]
      by_cases hq2:q=n+1+1
      · subst hq2
        have hq:hget ((n+1+1,some lb2)::(n+1,some .dfr)::(n,some (.cells [B false]))::(z,some (.cells [clo tf falls j z]))::l2) (n+1+1)=some b:=hq
        rw [hget_hd] at hq ⊢
        exact hq
      · have hq : hget ((n + 1 + 1, some lb2) :: (n + 1, some .dfr) :: (n, some (.cells [B false])) :: (z, some (.cells [clo tf falls j z])) :: l2) q = some b := hq
        rw [hget_tl hq2] at hq ⊢
        rw [hget_tl hqm,hget_tl hqm,hget_tl hq2]
        exact hq
    have hown : OwnsB [(n + 1 + 1, some lb2), (n + 1, some .dfr), (n, some (.cells [B false]))] ((z, some (.cells [clo tf falls j z])) :: l2) := by
      have hk : ∀ q, keysB [(n + 1 + 1, some lb2), (n + 1, some .dfr), (n, some (.cells [B false]))] q = true → q = n + 1 + 1 ∨ q = n + 1 ∨ q = n := fun q hq => by
        by_cases a1:q=n+1+1
        · exact .inl a1
        · by_cases a2 : q = n + 1
          · exact .inr (.inl a2)
          · by_cases a3 : q = n
            · exact .inr (.inr a3)
            · exfalso
              have h1:=keysB_app (own:=[(n+1+1,some lb2),(n+1,some PBlk.dfr),(n,some (.cells [B false]))]) (l:=[(q,some PBlk.dfr)]) q
              rw [if_pos hq] at h1
              have h1:hget ((n+1+1,some lb2)::(n+1,some PBlk.dfr)::(n,some (.cells [B false]))::[(q,some PBlk.dfr)]) q=hget ((n+1+1,some lb2)::(n+1,some PBlk.dfr)::[(n,some (.cells [B false]))]) q:=h1
              rw [hget_tl a1,hget_tl a2,hget_tl a3,hget_hd,hget_tl a1,hget_tl a2,hget_tl a3] at h1
              cases h1
      refine ⟨fun q hq=>?_,fun q hq=>?_⟩
      · rcases hk q hq with rfl | rfl | rfl
        · exact ⟨_,hget_hd,hlb2⟩
        · exact ⟨_,(hget_tl (by omega)).trans hget_hd,rfl⟩
        · exact ⟨_,(hget_tl (by omega)).trans ((hget_tl (by omega)).trans hget_hd),rfl⟩
      · rcases hk q hq with rfl | rfl | rfl
        · rw [hget_tl (by omega)];exact h2b
        · rw [hget_tl (by omega)];exact h2a
        · rw [hget_tl (by omega)];exact h2n
    refine Run.region (Cx.Ok.rnd (cx_ok _ _ _)) (Reg.op rfl (Ope.fld rfl rfl ?_))
    refine Reg.op rfl (Ope.fld rfl rfl ?_)
    refine Reg.op rfl (Ope.load rfl rfl ?_)
    refine Reg.op rfl (Ope.asg rfl ?_)
    refine Reg.nil (Run.seq (Run.drawS (Cx.Ok.rnd (cx_ok _ _ _)) (fun h'=>h'.get z=some (.cells [clo tf falls j z])) [(0,false,false),(1,false,false),(2,true,false),(3,false,false),(4,true,false),(5,true,false),(6,true,false),(7,true,false),(8,true,false),(9,true,false),(10,true,false),(11,true,false),(12,true,true),(13,true,true),(14,true,false),(15,true,false)] (by kernel_rfl) (DraS.opR rfl rfl rfl ((hget_tl (by omega)).trans ((hget_tl (by omega)).trans ((hget_tl (by omega)).trans hget_hd))) (StabS.at rfl) (Ope.loadH rfl ((hget_tl (by omega)).trans ((hget_tl (by omega)).trans ((hget_tl (by omega)).trans hget_hd))) rfl ?_))))
    refine DraS.opR rfl rfl rfl ((hget_tl (by omega)).trans ((hget_tl (by omega)).trans ((hget_tl (by omega)).trans hget_hd))) (StabS.frozen rfl) (Ope.load rfl rfl ?_)
    refine DraS.opQ rfl rfl rfl (Ope.add rfl rfl (by omega) ?_)
    refine DraS.opR rfl rfl rfl ((hget_tl (by omega)).trans ((hget_tl (by omega)).trans ((hget_tl (by omega)).trans hget_hd))) (StabS.frozen rfl) (Ope.load rfl rfl ?_)
    refine DraS.opQ rfl rfl rfl (Ope.mov rfl ?_)
    refine DraS.opQ rfl rfl rfl (Ope.mov rfl ?_)
    refine DraS.opQ rfl rfl rfl (Ope.fld rfl rfl ?_)
    refine DraS.opQ rfl rfl rfl (Ope.fld rfl rfl ?_)
    refine DraS.opQ rfl rfl rfl (Ope.load rfl rfl ?_)
    refine DraS.opQ rfl rfl rfl (Ope.add rfl rfl (by omega) ?_)
    refine DraS.opQ rfl rfl rfl (Ope.sub rfl rfl (by omega) ?_)
    refine DraS.opQ rfl rfl rfl (Ope.bld rfl rfl ?_)
    refine DraS.opS rfl rfl rfl (Ope.cf rfl rfl (hla) rfl ?_)
    refine ⟨((hget_tl (by omega)).trans ((hget_tl (by omega)).trans ((hget_tl (by omega)).trans hget_hd))),?_⟩
    refine DraS.opS rfl rfl rfl (Ope.cf rfl rfl (hlo) rfl ?_)
    refine ⟨((hget_tl (by omega)).trans ((hget_tl (by omega)).trans ((hget_tl (by omega)).trans hget_hd))),?_⟩
    refine DraS.opQ rfl rfl rfl (Ope.call rfl rfl rfl ((fedZ_own (own:=[(n+1+1,some lb2),(n+1,some .dfr),(n,some (.cells [B false]))]) hown hih).mono (fun v h' hq=>?_) fun _ _ h=>h.elim))
    obtain ⟨m5,l5,rfl,hm5,hno5,hz5,hm5n,hq⟩:=hq
    have hn2:hget l5 (n+1+1)=none:=hno5 _ (keysB_mem (b:=some lb2) (by simp))
    have hn1:hget l5 (n+1)=none:=hno5 _ (keysB_mem (b:=some .dfr) (by simp))
    have hn0:hget l5 n=none:=hno5 _ (keysB_mem (b:=some (.cells [B false])) (by simp))
    have hl3:hget ((n+1,some PBlk.dfr)::(n,some (.cells [B false]))::(z,some (.cells [clo tf falls j z]))::l5) (n+1+1)=none:=by
      rw [hget_tl (by omega),hget_tl (by omega),hget_tl (by omega)];exact hn2
    rcases hq with ⟨rfl,hfe5⟩ | ⟨rfl,hR5⟩
    ·refine DraS.opQ rfl rfl rfl (Ope.not rfl ?_)
     refine DraS.nil (Run.condX rfl (fun hc=>?_) fun hc=>?_)
     ·first
      |(cases hc;done)
      |refine Run.seq (Run.region (Cx.Ok.rnd (cx_ok _ _ _)) (Reg.op0 (Ope.store rfl rfl ((hget_tl (by omega)).trans ((hget_tl (by omega)).trans hget_hd)) rfl rfl rfl ?_)))
       refine Reg.nil (Run.ret (Jmp.retB ?_))
       refine Jmp.done ⟨rfl,_,_,rfl,by omega,(hget_tl (by omega)).trans hget_hd,trivial,(n+1,some .dfr)::(n,some (.cells [B false]))::(z,some (.cells [clo tf falls j z]))::l5,(fun q b hq=>by
           by_cases a1:q=n+1+1
           · subst a1;rw [hl3] at hq;cases hq
           · rw [hget_tl a1]
             by_cases a2:q=n
             · subst a2
               rw [hget_tl (by omega),hget_hd] at hq
               rw [hget_hd];exact hq
             · rw [hget_tl a2]
               have:=HS.skip (HS.refl _) (n:=n+1+1) (x:=some lb2) hl3 q b hq
               exact this),fun m4 hm4=>?_⟩
       refine Jmp.retB (Jmp.code ?_)
       first
       | exact finH_retD (i:=n+1) hget_hd (.cell rfl (loadB ((hget_tl (by omega)).trans ((hget_tl (by omega)).trans hget_hd))) .nil) (Nat.le_refl _) (hs_skip (hs_skip (hs_skip hs_refl ((hget_tl (by omega)).trans hn0)) ((hget_tl (by omega)).trans hn1)) ((hget_tl (by omega)).trans hn1)) ⟨m4,l5,rfl,by omega,hz5,fun q hq=>hm5n q (by omega),.inr ⟨rfl,fun m2 hm2 u=>hR5 m2 (by omega) u⟩⟩
       | exact finH_retD (i:=n+1) ((hget_tl (by omega)).trans hget_hd) (.cell rfl (loadB ((hget_tl (by omega)).trans hget_hd)) .nil) (Nat.le_refl _) (hs_skip (hs_skip (hs_skip (hs_skip hs_refl ((hget_tl (by omega)).trans h2n)) ((hget_tl (by omega)).trans h2a)) ((hget_tl (by omega)).trans h2n)) ((hget_tl (by omega)).trans h2a)) ⟨m,l2,rfl,by omega,h2z,fun q hq=>h2m q (by omega),.inl ⟨rfl,hfe.mono hm1⟩⟩
     ·first
      |(cases hc;done)
      |exact Run.skip (Run.bend (Run.done ⟨rfl,_,_,rfl,by omega,hget_hd,(l5,m5),Nat.le_refl _,HS.skip (HS.refl _) hl3,hlt,hn0,hz5,hn1,hn2,hm5n,by show n≤m5;omega,hfe5⟩))
    ·refine DraS.opQ rfl rfl rfl (Ope.not rfl ?_)
     refine DraS.nil (Run.condX rfl (fun hc=>?_) fun hc=>?_)
     ·first
      |(cases hc;done)
      |refine Run.seq (Run.region (Cx.Ok.rnd (cx_ok _ _ _)) (Reg.op0 (Ope.store rfl rfl ((hget_tl (by omega)).trans ((hget_tl (by omega)).trans hget_hd)) rfl rfl rfl ?_)))
       refine Reg.nil (Run.ret (Jmp.retB ?_))
       refine Jmp.done ⟨rfl,_,_,rfl,by omega,(hget_tl (by omega)).trans hget_hd,trivial,(n+1,some .dfr)::(n,some (.cells [B false]))::(z,some (.cells [clo tf falls j z]))::l5,(fun q b hq=>by
           by_cases a1:q=n+1+1
           · subst a1;rw [hl3] at hq;cases hq
           · rw [hget_tl a1]
             by_cases a2:q=n
             · subst a2
               rw [hget_tl (by omega),hget_hd] at hq
               rw [hget_hd];exact hq
             · rw [hget_tl a2]
               have:=HS.skip (HS.refl _) (n:=n+1+1) (x:=some lb2) hl3 q b hq
               exact this),fun m4 hm4=>?_⟩
       refine Jmp.retB (Jmp.code ?_)
       first
       | exact finH_retD (i:=n+1) hget_hd (.cell rfl (loadB ((hget_tl (by omega)).trans ((hget_tl (by omega)).trans hget_hd))) .nil) (Nat.le_refl _) (hs_skip (hs_skip (hs_skip hs_refl ((hget_tl (by omega)).trans hn0)) ((hget_tl (by omega)).trans hn1)) ((hget_tl (by omega)).trans hn1)) ⟨m4,l5,rfl,by omega,hz5,fun q hq=>hm5n q (by omega),.inr ⟨rfl,fun m2 hm2 u=>hR5 m2 (by omega) u⟩⟩
       | exact finH_retD (i:=n+1) ((hget_tl (by omega)).trans hget_hd) (.cell rfl (loadB ((hget_tl (by omega)).trans hget_hd)) .nil) (Nat.le_refl _) (hs_skip (hs_skip (hs_skip (hs_skip hs_refl ((hget_tl (by omega)).trans h2n)) ((hget_tl (by omega)).trans h2a)) ((hget_tl (by omega)).trans h2n)) ((hget_tl (by omega)).trans h2a)) ⟨m,l2,rfl,by omega,h2z,fun q hq=>h2m q (by omega),.inl ⟨rfl,hfe.mono hm1⟩⟩
     ·first
      |(cases hc;done)
      |exact Run.skip (Run.bend (Run.done ⟨rfl,_,_,rfl,by omega,hget_hd,(l5,m5),Nat.le_refl _,HS.skip (HS.refl _) hl3,hlt,hn0,hz5,hn1,hn2,hm5n,by show n≤m5;omega,hfe5⟩))
   ·obtain ⟨l2,m0⟩:=a
    obtain ⟨hi,h2n,h2z,h2a,h2b,h2m,hnm,hfe⟩:=hI
    simp only at hi h2n h2z h2a h2b h2m hnm hfe hm1
    rw [List.length_map,List.drop_length] at hfe
    refine Run.bend (Run.seq (Run.region (cx_ok _ _ _) (Reg.op0 (Ope.store rfl rfl ((hget_tl (by omega)).trans hget_hd) rfl rfl rfl ?_))))
    refine Reg.nil (Run.ret ?_)
    first
    | exact finH_retD (i:=n+1) hget_hd (.cell rfl (loadB ((hget_tl (by omega)).trans ((hget_tl (by omega)).trans hget_hd))) .nil) (Nat.le_refl _) (hs_skip (hs_skip (hs_skip hs_refl ((hget_tl (by omega)).trans hn0)) ((hget_tl (by omega)).trans hn1)) ((hget_tl (by omega)).trans hn1)) ⟨m4,l5,rfl,by omega,hz5,fun q hq=>hm5n q (by omega),.inr ⟨rfl,fun m2 hm2 u=>hR5 m2 (by omega) u⟩⟩
    | exact finH_retD (i:=n+1) ((hget_tl (by omega)).trans hget_hd) (.cell rfl (loadB ((hget_tl (by omega)).trans hget_hd)) .nil) (Nat.le_refl _) (hs_skip (hs_skip (hs_skip (hs_skip hs_refl ((hget_tl (by omega)).trans h2n)) ((hget_tl (by omega)).trans h2a)) ((hget_tl (by omega)).trans h2n)) ((hget_tl (by omega)).trans h2a)) ⟨m,l2,rfl,by omega,h2z,fun q hq=>h2m q (by omega),.inl ⟨rfl,hfe.mono hm1⟩⟩
end Go.Pv
namespace Go.Pv
open Go.Proofs Go.Am
set_option maxRecDepth 10000
theorem f125 (tf:Tail) (falls:List Rpt) (hfl:falls.length≤100) (hFO:∀ f∈falls,FallOk f):∀ (d next:Nat),next+d=falls.length→∀ (void:Nat),void < 2 ^ 62→∀ j z n:Nat,j < n→z < n→∀ l:HL,hget l z=none→∀ (R:PV→PH→Prop) (rest:List PV),Feed P0 (.yld j) R ((voR (falls.drop next) void).map U++rest) n l →
      PCall P0 125 [N next,U void,.fp (.sl tf (falls.map Rpt.v)),.fp (.yld j),.ptr z 0] (HE n ((z,some (.cells [clo tf falls j z]))::l)) (FedZ z (.cells [clo tf falls j z]) j n R rest) fun _ _=>False
  | 0, next, hd, void, hv, j, z, n, hj, hz, l, hlz, R, rest, hf => by
    obtain rfl:next=falls.length:=by omega
    rw [List.drop_length] at hf
    exact f125z tf falls hfl void hv j z n hj hz l hlz R rest hf
  | d + 1, next, hd, void, hv, j, z, n, hj, hz, l, hlz, R, rest, hf =>
    f125s tf falls hfl hFO next (by omega) (fun void hv j z n hj hz l hlz R rest hf=>f125 tf falls hfl hFO d (next+1) (by omega) void hv j z n hj hz l hlz R rest hf) void hv j z n hj hz l hlz R rest hf
theorem f104 (tl:Tail) (htl:tl.isOwn=false) (J:List Rpt) (hJ:J.length≤100) (hFO:∀ f∈flR J,FallOk f):Yields P0 104 [.sl tl (J.map Rpt.v)] [] ((voR (flR J) 0).map U):=by
  intro j n l R hjn hfe0
  show PCall P0 104 [.sl tl (J.map Rpt.v),.yld j] (HE n l) R _
  have hfa:=f92 tl J hJ
  have hfl:=flR_len J
  have hb1:PV.bds 0 [.sl tl (J.map Rpt.v)]=true:=bds_cons (bd_sl (f:=Rpt.v) htl (fun _=>rfl) _) rfl
  have hfo:=f125 .no (flR J) (by omega) hFO (flR J).length 0 (by omega) 0 (by decide)
  refine PCall.ofH (C:=c104) (cx_ok _ _ _) rfl (fn:=Tryz.f104) (by kernel_rfl) (c:=_) rfl rfl rfl (fun hok=>?_)
  refine Run.seq (Run.region (cx_ok _ _ _) (Reg.op rfl (Ope.boxF rfl rfl ?_)))
  refine Reg.nil (Run.seq (Run.region (cx_ok _ _ _) (Reg.op rfl (Ope.mov rfl ?_))))
  refine Reg.op rfl (Ope.cf rfl rfl hfa hb1 ?_)
  refine Reg.op rfl (Ope.newL rfl ?_)
  refine Reg.op0 (Ope.store rfl rfl hget_hd rfl rfl rfl ?_)
  refine Reg.nil (Run.seq ?_)
  have hlm:∀ q,n≤q→hget l q=none:=fun q hq=>ok_none hok hq
  refine Run.frz (d:=4) false rfl hget_hd rfl ?_
  refine Run.wideS (m:=n+1) (l':=l) (Nat.le_refl _) (hs_skip (hs_skip (hs_skip hs_refl (hlm _ (Nat.le_refl _))) (hlm _ (Nat.le_refl _))) (hlm _ (Nat.le_refl _))) ?_
  refine Run.region (cx_ok _ _ _) (Reg.op rfl (Ope.newL rfl ?_))
  refine Reg.nil (Run.seq (Run.region (cx_ok _ _ _) (Reg.op rfl (Ope.mkf rfl rfl ?_))))
  refine Reg.op0 (Ope.store rfl rfl hget_hd rfl rfl rfl ?_)
  refine Reg.nil (Run.wideS (m:=n+1+1) (l':=(n+1,some (.cells [clo .no (flR J) j (n+1)]))::l) (Nat.le_refl _) (fun q b hq=>?_) ?_)
  · by_cases h1 : q = n + 1
    · subst h1;rw [hget_hd] at hq ⊢;exact hq
    · rw [hget_tl h1] at hq ⊢;rw [hget_tl h1];exact hq
  have hfo':=hfo j (n+1) (n+1+1) (by omega) (by omega) l (hlm _ (by omega)) R [] (by rw [List.drop_zero,List.append_nil];exact hfe0.mono (by omega))
  refine Run.region (cx_ok _ _ _) (Reg.op rfl (Ope.loadH rfl hget_hd rfl ?_))
  refine Reg.op rfl (Ope.call rfl rfl rfl (hfo'.mono (fun v h' hq=>?_) fun _ _ h=>h.elim))
  obtain ⟨m5,l5,rfl,hm5,hz5,hm5n,hq⟩:=hq
  refine Reg.nil ?_
  exact finH_end .nil (Nat.le_refl _) (hs_skip hs_refl hz5) (by
    rcases hq with ⟨_,hR⟩ | ⟨_,hR⟩
    · exact hR m5 (Nat.le_refl _) _
    · exact hR m5 (Nat.le_refl _) _)
instance:Mka A0 123:=⟨by kernel_rfl⟩
end Go.Pv
namespace Go.Pv
open Go.Proofs Go.Am
set_option maxRecDepth 10000
def lsN (L:List Nat):Option (Nat×Nat×Option Nat×List PV)→PV
  | none=>.sl .ex []
  | some (j,c,ez,_)=>.ms (j+3) 0 L.length c ez
def lhN (L:List Nat):Option (Nat×Nat×Option Nat×List PV)→HL
  | none=>[]
  | some (j,_,_,post)=>[(j+3,some (.cells (flat (L.map U)++post)))]
def LOkN (L:List Nat) (m:Nat):Option (Nat×Nat×Option Nat×List PV)→Prop
  | none=>L=[]
  | some (j,c,_,post)=>L≠[]∧j+3 < m∧L.length≤c∧post.length=(c - L.length) * 1
def EndN (L:List Nat) (v:PV) (h':PH):Prop:=∃ m st,LOkN L m st∧v=lsN L st∧h'=HE m (lhN L st)
theorem f124 (D:List Nat) (hD:D.length≤10000) (g:Nat) (fs:List PV) (hy:Yields P0 g fs [] (D.map U)):PCall P0 124 [.sl .ex [],.fn (.func g) fs []] (HE 0 []) (EndN D) fun _ _=>False:=by
  have htk:∀ i (h:i < D.length),(D.take (i+1)).map U=(D.take i).map U++[U D[i]]:=fun i h=>by rw [List.take_succ_eq_append_getElem h,List.map_append];rfl
  have htl:∀ i,i≤D.length→(D.take i).length=i:=fun i h=>by rw [List.length_take];omega
  refine PCall.ofH (C:=c124) (cx_ok _ _ _) rfl (fn:=Tryz.f124) (by kernel_rfl) (c:=_) rfl rfl rfl (fun hok=>?_)
  refine Run.seq (Run.region (cx_ok _ _ _) (Reg.op rfl (Ope.boxL rfl rfl ?_)))
  refine Reg.op rfl (Ope.asg rfl ?_)
  refine Reg.nil (Run.seq (Run.seq (Run.region (cx_ok _ _ _) (Reg.op rfl (Ope.mov rfl ?_)))))
  refine Reg.nil (Run.block ?_)
  refine Run.rangeF (cx_ok _ _ _) rfl (α:=Nat×Option (Nat×Nat×Option Nat×List PV)×Nat) (fun a=>(0,some (.cells [lsN (D.take a.1) a.2.1]))::lhN (D.take a.1) a.2.1) (fun a=>a.2.2) (fun i a=>a.1=i∧i≤D.length∧LOkN (D.take i) a.2.2 a.2.1∧3≤a.2.2) rfl hy rfl rfl ⟨Tryz.f124,by kernel_rfl⟩ (0,none,3) ⟨rfl,Nat.zero_le _,rfl,Nat.le_refl _⟩ ⟨rfl,trivial⟩ (fun a p hp=>by
    obtain ⟨i,st,m⟩:=a
    rcases List.mem_cons.1 hp with rfl | hp
    · show (0:Nat)≠2;decide
    · cases st with
      | none=>cases hp
      | some q=>rw [List.mem_singleton.1 hp];show q.1+3≠2;omega) (by simp [lhN]) (Nat.le_refl _) (fun i a v hv hI m hm1 hm2 lb=>?_) (fun a hI m hm1 hm2=>?_)
  ·obtain ⟨i',st,mm⟩:=a
   obtain ⟨hii,hi,hL,h3⟩:=hI
   simp only at hii hL h3 hm1
   subst hii
   have hlt:i' < D.length:=by have:=(List.getElem?_eq_some_iff.1 hv).1;simpa using this
   have hv':v=U D[i']:=by rw [List.getElem?_map,List.getElem?_eq_getElem hlt] at hv;cases hv;rfl
   subst hv'
   have htk':=htk i' hlt
   have htl':=htl i' hi
   have htl1:=htl (i'+1) hlt
   have hfin:∀ (j' n' c':Nat) (post':List PV) (ez':Option Nat),3≤j'→j' < n'→(D.take i').length+1≤c'→post'.length=(c' - ((D.take i').length+1)) * 1→∃ st',LOkN (D.take (i'+1)) n' st'∧lsN (D.take (i'+1)) st'=.ms j' 0 ((D.take i').length+1) c' ez'∧lhN (D.take (i'+1)) st'=[(j',some (.cells (flat ((D.take i').map U++[U D[i']])++post')))]:=fun j' n' c' post' ez' a1 a2 a3 a4=>by
     have e1:j' - 3+3=j':=by omega
     refine ⟨some (j' - 3,c',ez',post'),⟨fun h=>?_,by rw [e1];exact a2,by rw [htl1];rw [htl'] at a3;exact a3,by rw [htl1];rw [htl'] at a4;exact a4⟩,?_,?_⟩
     · have := congrArg List.length h
       rw [htl1] at this;simp at this
     · show PV.ms (j' - 3 + 3) 0 (D.take (i' + 1)).length c' ez' = _
       rw [e1,htl1,htl']
     · show [(j' - 3 + 3, some (PBlk.cells (flat ((D.take (i' + 1)).map U) ++ post')))] = _
       rw [e1,htk']
   rcases st with _ | ⟨j,c,ez,post⟩
   ·refine Run.region (Cx.Ok.rnd (cx_ok _ _ _)) (Reg.op rfl (Ope.asg rfl ?_))
    refine Reg.nil (Run.done ⟨rfl,rfl,_,_,rfl,hget_hd,fun lb2=>?_⟩)
    refine Run.block ?_
    first
    | (have hL0 : D.take i' = [] := hL
       refine Run.wide (m:=m) (l':=[(0,some (.cells [.sl .ex []])),(2,some lb2),(1,some .dfr)]) (Nat.le_refl _) ⟨by repeat (first | rfl | exact hget_hd | refine (hget_tl (by omega)).trans ?_),by repeat (first | rfl | exact hget_hd | refine (hget_tl (by omega)).trans ?_),by repeat (first | rfl | exact hget_hd | refine (hget_tl (by omega)).trans ?_),trivial⟩ ?_)
    | (obtain ⟨hL1, hL2, hL3, hL4⟩ := hL
       refine Run.wide (m:=m) (l':=[(0,some (.cells [.ms (j+3) 0 (D.take i').length c ez])),(j+3,some (.cells (flat ((D.take i').map U)++post))),(2,some lb2),(1,some .dfr)]) (Nat.le_refl _) ⟨by repeat (first | rfl | exact hget_hd | refine (hget_tl (by omega)).trans ?_),by repeat (first | rfl | exact hget_hd | refine (hget_tl (by omega)).trans ?_),by repeat (first | rfl | exact hget_hd | refine (hget_tl (by omega)).trans ?_),by repeat (first | rfl | exact hget_hd | refine (hget_tl (by omega)).trans ?_),trivial⟩ ?_)
    refine Run.regionL (Cx.Ok.rnd (cx_ok _ _ _)) (RegL.op rfl (Ope.load rfl rfl ?_))
    refine RegL.op rfl (Ope.mov rfl ?_)
    refine RegL.op rfl (Ope.bsl rfl rfl rfl rfl ?_)
    first
    | refine RegL.op rfl (Ope.apLb (ws:=[U D[i']]) rfl rfl (by simp) (by simp) (by simp) (by decide) (by simp) (by intro v hv;simp only [List.mem_singleton] at hv;subst hv;exact ⟨rfl,rfl⟩) (fun c' post' ez' hc' hp'=>?_))
    | refine RegL.apB (vs:=(D.take i').map U) (ws:=[U D[i']]) (post:=post) rfl rfl rfl ((hget_tl (by omega)).trans hget_hd) (by rw [List.length_map]) hL3 hL4 (by simp only [List.length_map,htl',List.length_singleton];omega) (by simp only [List.length_map,htl',List.length_singleton];omega) (by intro v hv;obtain ⟨_,_,rfl⟩:=List.mem_map.1 hv;rfl) (by intro v hv;simp only [List.mem_singleton] at hv;subst hv;exact ⟨rfl,rfl⟩) (fun j' n' c' post' ez' hj' hc' hp'=>?_)
    refine RegL.op0 (Ope.store rfl rfl ((hget_tl (by omega)).trans hget_hd) rfl rfl rfl ?_)
    refine RegL.nil (Run.bend ?_)
    first
    | (obtain ⟨st', b1, b2, b3⟩ := hfin m (m + 1) c' post' ez' (by omega) (Nat.lt_succ_self _) (by rw [hL0]; simpa using hc') (by rw [hL0]; simpa using hp')
       rw [hL0] at b2 b3
       refine Run.done ⟨rfl,_,_,rfl,by omega,by repeat (first | rfl | exact hget_hd | refine (hget_tl (by omega)).trans ?_),(i'+1,st',m+1),Nat.le_refl _,⟨by repeat (first | rfl | exact hget_hd | refine (hget_tl (by omega)).trans ?_),?_,?_⟩,rfl,hlt,b1,by show 3≤m+1;omega⟩
       · show hget _ 0 = some (.cells [lsN (D.take (i' + 1)) st'])
         rw [b2]
         repeat (first | rfl | exact hget_hd | refine (hget_tl (by omega)).trans ?_)
       · show Hsub (lhN (D.take (i' + 1)) st') _
         rw [b3]
         exact ⟨by repeat (first | rfl | exact hget_hd | refine (hget_tl (by omega)).trans ?_),trivial⟩)
    | (simp only [List.length_map, List.length_singleton] at hc' hp'
       obtain ⟨st',b1,b2,b3⟩:=hfin j' n' c' post' ez' (by omega) (by omega) hc' hp'
       refine Run.done ⟨rfl,_,_,rfl,by omega,by repeat (first | rfl | exact hget_hd | refine (hget_tl (by omega)).trans ?_),(i'+1,st',n'),Nat.le_refl _,⟨by repeat (first | rfl | exact hget_hd | refine (hget_tl (by omega)).trans ?_),?_,?_⟩,rfl,hlt,b1,by show 3≤n';omega⟩
       · show hget _ 0 = some (.cells [lsN (D.take (i' + 1)) st'])
         rw [b2]
         refine hget_hd.trans ?_
         simp only [List.length_map,List.length_singleton]
       · show Hsub (lhN (D.take (i' + 1)) st') _
         rw [b3]
         exact ⟨by repeat (first | rfl | exact hget_hd | refine (hget_tl (by omega)).trans ?_),trivial⟩)
   ·refine Run.region (Cx.Ok.rnd (cx_ok _ _ _)) (Reg.op rfl (Ope.asg rfl ?_))
    refine Reg.nil (Run.done ⟨rfl,rfl,_,_,rfl,hget_hd,fun lb2=>?_⟩)
    refine Run.block ?_
    first
    | (have hL0 : D.take i' = [] := hL
       refine Run.wide (m:=m) (l':=[(0,some (.cells [.sl .ex []])),(2,some lb2),(1,some .dfr)]) (Nat.le_refl _) ⟨by repeat (first | rfl | exact hget_hd | refine (hget_tl (by omega)).trans ?_),by repeat (first | rfl | exact hget_hd | refine (hget_tl (by omega)).trans ?_),by repeat (first | rfl | exact hget_hd | refine (hget_tl (by omega)).trans ?_),trivial⟩ ?_)
    | (obtain ⟨hL1, hL2, hL3, hL4⟩ := hL
       refine Run.wide (m:=m) (l':=[(0,some (.cells [.ms (j+3) 0 (D.take i').length c ez])),(j+3,some (.cells (flat ((D.take i').map U)++post))),(2,some lb2),(1,some .dfr)]) (Nat.le_refl _) ⟨by repeat (first | rfl | exact hget_hd | refine (hget_tl (by omega)).trans ?_),by repeat (first | rfl | exact hget_hd | refine (hget_tl (by omega)).trans ?_),by repeat (first | rfl | exact hget_hd | refine (hget_tl (by omega)).trans ?_),by repeat (first | rfl | exact hget_hd | refine (hget_tl (by omega)).trans ?_),trivial⟩ ?_)
    refine Run.regionL (Cx.Ok.rnd (cx_ok _ _ _)) (RegL.op rfl (Ope.load rfl rfl ?_))
    refine RegL.op rfl (Ope.mov rfl ?_)
    refine RegL.op rfl (Ope.bsl rfl rfl rfl rfl ?_)
    first
    | refine RegL.op rfl (Ope.apLb (ws:=[U D[i']]) rfl rfl (by simp) (by simp) (by simp) (by decide) (by simp) (by intro v hv;simp only [List.mem_singleton] at hv;subst hv;exact ⟨rfl,rfl⟩) (fun c' post' ez' hc' hp'=>?_))
    | refine RegL.apB (vs:=(D.take i').map U) (ws:=[U D[i']]) (post:=post) rfl rfl rfl ((hget_tl (by omega)).trans hget_hd) (by rw [List.length_map]) hL3 hL4 (by simp only [List.length_map,htl',List.length_singleton];omega) (by simp only [List.length_map,htl',List.length_singleton];omega) (by intro v hv;obtain ⟨_,_,rfl⟩:=List.mem_map.1 hv;rfl) (by intro v hv;simp only [List.mem_singleton] at hv;subst hv;exact ⟨rfl,rfl⟩) (fun j' n' c' post' ez' hj' hc' hp'=>?_)
    refine RegL.op0 (Ope.store rfl rfl ((hget_tl (by omega)).trans hget_hd) rfl rfl rfl ?_)
    refine RegL.nil (Run.bend ?_)
    first
    | (obtain ⟨st', b1, b2, b3⟩ := hfin m (m + 1) c' post' ez' (by omega) (Nat.lt_succ_self _) (by rw [hL0]; simpa using hc') (by rw [hL0]; simpa using hp')
       rw [hL0] at b2 b3
       refine Run.done ⟨rfl,_,_,rfl,by omega,by repeat (first | rfl | exact hget_hd | refine (hget_tl (by omega)).trans ?_),(i'+1,st',m+1),Nat.le_refl _,⟨by repeat (first | rfl | exact hget_hd | refine (hget_tl (by omega)).trans ?_),?_,?_⟩,rfl,hlt,b1,by show 3≤m+1;omega⟩
       · show hget _ 0 = some (.cells [lsN (D.take (i' + 1)) st'])
         rw [b2]
         repeat (first | rfl | exact hget_hd | refine (hget_tl (by omega)).trans ?_)
       · show Hsub (lhN (D.take (i' + 1)) st') _
         rw [b3]
         exact ⟨by repeat (first | rfl | exact hget_hd | refine (hget_tl (by omega)).trans ?_),trivial⟩)
    | (simp only [List.length_map, List.length_singleton] at hc' hp'
       obtain ⟨st',b1,b2,b3⟩:=hfin j' n' c' post' ez' (by omega) (by omega) hc' hp'
       refine Run.done ⟨rfl,_,_,rfl,by omega,by repeat (first | rfl | exact hget_hd | refine (hget_tl (by omega)).trans ?_),(i'+1,st',n'),Nat.le_refl _,⟨by repeat (first | rfl | exact hget_hd | refine (hget_tl (by omega)).trans ?_),?_,?_⟩,rfl,hlt,b1,by show 3≤n';omega⟩
       · show hget _ 0 = some (.cells [lsN (D.take (i' + 1)) st'])
         rw [b2]
         refine hget_hd.trans ?_
         simp only [List.length_map,List.length_singleton]
       · show Hsub (lhN (D.take (i' + 1)) st') _
         rw [b3]
         exact ⟨by repeat (first | rfl | exact hget_hd | refine (hget_tl (by omega)).trans ?_),trivial⟩)
  ·obtain ⟨i',st,mm⟩:=a
   obtain ⟨hii,hi,hL,h3⟩:=hI
   simp only at hii hL h3 hm1
   subst hii
   have hDt:D.take (D.map U).length=D:=by rw [List.length_map,List.take_length]
   rw [hDt] at hL ⊢
   refine Run.bend (Run.seq (Run.region (cx_ok _ _ _) (Reg.op rfl (Ope.load rfl rfl ?_))))
   refine Reg.op rfl (Ope.asg rfl ?_)
   refine Reg.nil (Run.ret (finH_retD hget_hd (.tmp rfl .nil) (Nat.le_refl _) (fun i x h=>?_) ⟨m,st,?_,rfl,rfl⟩))
   · cases st with
     | none=>cases h
     | some q =>
       have h:hget [(q.1+3,some (PBlk.cells (flat (D.map U)++q.2.2.2)))] i=some x:=h
       by_cases hq:i=q.1+3
       · subst hq
         refine (hget_tl (by omega)).trans ((hget_tl (by omega)).trans ((hget_tl (by omega)).trans h))
       · rw [hget_tl hq] at h;cases h
   · cases st with
     | none=>exact hL
     | some q=>exact ⟨hL.1,by have:=hL.2.1;omega,hL.2.2⟩
end Go.Pv
namespace Go.Pv
open Go.Proofs Go.Am
set_option maxRecDepth 10000
theorem f103 (D:List Nat) (hD:D.length≤10000) (hne:D≠[]) (g:Nat) (fs:List PV) (hy:Yields P0 g fs [] (D.map U)):Fn P0 103 [.fn (.func g) fs []] (.sl .no (D.map U)):=by
  have ha:=f124 D hD g fs hy
  refine PFun.of (C:=c103) (cx_ok _ _ _) rfl (fn:=Tryz.f103) (by kernel_rfl) (c:=_) rfl rfl rfl ?_
  refine Run.seq (Run.region (cx_ok _ _ _) (Reg.op rfl (Ope.asg rfl ?_)))
  refine Reg.nil (Run.seq (Run.region (cx_ok _ _ _) (Reg.op rfl (Ope.mov rfl ?_))))
  refine Reg.op rfl (Ope.call rfl rfl rfl (ha.mono (fun v h' q=>?_) fun _ _ q=>q.elim))
  obtain ⟨m,st,hL,rfl,rfl⟩:=q
  obtain ⟨j,c,ez,post,rfl⟩:∃ j c ez post,st=some (j,c,ez,post):=(by cases st with | none=>exact absurd hL hne | some q=>exact ⟨_,_,_,_,rfl⟩)
  obtain ⟨hL1,hL2,hL3,hL4⟩:=hL
  refine Reg.op rfl (Ope.asg rfl ?_)
  refine Reg.nil (Run.frzS (d:=2) (vs:=D.map U) (post:=post) (sz:=1) rfl hget_hd (by rw [List.length_map]) hL3 (by intro v hv;obtain ⟨_,_,rfl⟩:=List.mem_map.1 hv;rfl) ?_)
  exact Run.ret (fin_ret (.tmp rfl .nil) (bd_sl (f:=U) (tl:=.no) rfl (fun _=>rfl) _) rfl)
theorem f102 (g:Nat) (op:Nat→Nat→Nat) (hop:∀ p q,p < 2 ^ 62→q < 2 ^ 62→op p q < 2 ^ 62) (hg:∀ p q,p < 2 ^ 62→q < 2 ^ 62→Fn P0 g [U p,U q] (U (op p q))) (tl:Tail) (v0:Nat) (V:List Nat) (hV:V.length≤10000) (h0:v0 < 2 ^ 62) (hlt:∀ v∈V,v < 2 ^ 62) :
    Fn P0 102 [.fn (.func g) [] [],.sl tl ((v0::V).map U)] (U (V.foldl op v0)):=by
  have hfo:∀ i,i≤V.length→(V.take i).foldl op v0 < 2 ^ 62:=fun i=>by
    induction i with
    | zero=>intro _;exact h0
    | succ i ih =>
      intro hi
      rw [List.take_succ_eq_append_getElem (by omega),List.foldl_append]
      exact hop _ _ (ih (by omega)) (hlt _ (List.getElem_mem _))
  have hst:∀ i (h:i < V.length),(V.take (i+1)).foldl op v0=op ((V.take i).foldl op v0) V[i]:=fun i h=>by
    rw [List.take_succ_eq_append_getElem h,List.foldl_append];rfl
  refine PFun.of (C:=c102) (cx_ok _ _ _) rfl (fn:=Tryz.f102) (by kernel_rfl) (c:=_) rfl rfl rfl ?_
  refine Run.seq (Run.region (cx_ok _ _ _) (Reg.op rfl (Ope.asg rfl ?_)))
  refine Reg.nil (Run.seq (Run.region (cx_ok _ _ _) (Reg.op rfl (Ope.mov rfl ?_))))
  refine Reg.op rfl (Ope.idxM (m:=0) (xs:=v0::V) (f:=U) rfl rfl rfl (by simp) (fun _=>rfl) ?_)
  refine Reg.op rfl (Ope.load rfl rfl ?_)
  refine Reg.op rfl (Ope.asg rfl ?_)
  refine Reg.nil (Run.seq (Run.seq (Run.region (cx_ok _ _ _) (Reg.op rfl (Ope.mov rfl ?_)))))
  refine Reg.op rfl (Ope.slD (m:=1) (vs:=(v0::V).map U) rfl rfl rfl (by simp) (by intro v hv;obtain ⟨_,_,rfl⟩:=List.mem_map.1 hv;rfl) ?_)
  rw [show ((v0::V).map U).drop 1=V.map U from rfl]
  refine Reg.op rfl (Ope.len (m:=V.length) rfl (by simp) ?_)
  refine Reg.op rfl (Ope.mov rfl ?_)
  refine Reg.nil (Run.block (Run.loop (α:=Nat) (fun i=>[(0,.fn (.func g) [] []),(5,U ((V.take i).foldl op v0)),(12,.sl (stail tl ((v0::V).map U).length ((v0::V).map U).length) (V.map U)),(13,I V.length),(14,I i)]) (fun _=>HE 0 []) (fun i=>i≤V.length) (fun i=>V.length - i) 0 ⟨rfl,rfl,rfl,rfl,rfl,trivial⟩ rfl (Nat.zero_le _) (fun i hi=>?_)))
  refine Run.seq (Run.region (cx_ok _ _ _) (Reg.op rfl (Ope.lt rfl rfl ?_)))
  refine Reg.nil (Run.seq (Run.condX rfl (fun hc=>?_) fun hc=>?_))
  ·refine Run.skip (Run.seq (Run.block (Run.seq ?_)))
   have hi2:i < V.length:=by omega
   have hsi:=hst i hi2
   refine Run.region (cx_ok _ _ _) (Reg.op rfl (Ope.idxM (m:=i) (f:=U) rfl rfl rfl hi2 (fun _=>rfl) ?_))
   refine Reg.op rfl (Ope.load rfl rfl ?_)
   refine Reg.op rfl (Ope.asg rfl ?_)
   refine Reg.nil (Run.region (cx_ok _ _ _) (Reg.op rfl (Ope.mov rfl ?_)))
   refine Reg.op rfl (Ope.mov rfl ?_)
   refine Reg.op rfl (Ope.mov rfl ?_)
   refine Reg.op rfl (Ope.cf rfl rfl (hg _ _ (hfo i hi) (hlt _ (List.getElem_mem hi2))) rfl ?_)
   refine Reg.op rfl (Ope.asg rfl ?_)
   refine Reg.nil (Run.bend (Run.region (cx_ok _ _ _) (Reg.op rfl (Ope.add rfl rfl (by omega) ?_))))
   refine Reg.op rfl (Ope.mov rfl ?_)
   exact Reg.nil (Run.lend ⟨i+1,by show V.length - (i+1) < V.length - i;omega,by show i+1≤V.length;omega,⟨rfl,congrArg (fun x=>some (U x)) hsi.symm,rfl,rfl,rfl,trivial⟩,rfl,rfl⟩)
  ·refine Run.exit (Jmp.code (Jmp.round (Jmp.here (Run.seq ?_))))
   obtain rfl:i=V.length:=by omega
   rw [List.take_length]
   refine Run.region (cx_ok _ _ _) (Reg.op rfl (Ope.mov rfl ?_))
   refine Reg.op rfl (Ope.asg rfl ?_)
   exact Reg.nil (Run.ret (fin_ret (.tmp rfl .nil) rfl rfl))
theorem exK_len (r:Rpt) (i:Nat):∀ n k,(exK r i k n).length=n
  | 0,_=>rfl
  | n+1,k=>by simp only [exK,List.length_cons,exK_len r i n (k+1)]
theorem exI_len (r:Rpt):∀ n i,(exI r i n).length=n * r.nm
  | 0,_=>by simp [exI]
  | n+1,i=>by simp only [exI,List.length_append,exI_len r n (i+1),exK_len,Nat.succ_mul];omega
theorem exR_len (r:Rpt):(exR r).length=r.nl * r.nm:=exI_len r _ _
structure RepOk (f:Rpt):Prop where
  a:0≤f.a∧f.a≤f.b∧f.b≤50∧f.b - f.a≤3
  c:f.ki=0→1≤f.c∧f.c≤f.d∧f.d≤10∧f.d - f.c≤3
theorem Rpt.ok_rep {r:Rpt} (h:r.ok=true):RepOk r:=by
  unfold Rpt.ok spnB at h
  simp only [Bool.and_eq_true,decide_eq_true_eq] at h
  obtain ⟨_,_,⟨⟨a1,a2⟩,a3,a4⟩,_,h5⟩:=h
  refine ⟨⟨a1,a2,a3,a4⟩,fun hk=>?_⟩
  rw [if_pos hk] at h5
  simp only [Bool.and_eq_true,decide_eq_true_eq] at h5
  exact ⟨h5.1.1,h5.1.2,h5.2.1,h5.2.2⟩
theorem fl_ok {J:List Rpt} (h:∀ r∈J,r.ok=true):∀ f∈flR J,FallOk f∧f.nl≤4∧f.nm≤4∧1≤f.nl∧1≤f.nm:=fun f hf=>by
  obtain ⟨h1,h2⟩:=List.mem_filter.1 hf
  have hr:=Rpt.ok_rep (h f h1)
  have hc:=hr.c (by simpa using h2)
  have ha:=hr.a
  unfold Rpt.nl Rpt.nm
  exact ⟨⟨by omega,by omega,by omega,by omega⟩,by omega,by omega,by omega,by omega⟩
theorem flat_le {α β:Type} {f:α→List β} {B:Nat}:∀ {L:List α},(∀ i∈L,(f i).length≤B)→(L.flatMap f).length≤L.length * B
  | [],_=>by simp
  | i :: L, h => by
    have h1:=flat_le (f:=f) (L:=L) fun j hj=>h j (List.mem_cons_of_mem _ hj)
    have h2:=h i (by simp)
    rw [List.flatMap_cons,List.length_append,List.length_cons,Nat.succ_mul]
    omega
theorem voR_len:∀ {F:List Rpt} (v:Nat),(∀ f∈F,f.nl≤4∧f.nm≤4)→(voR F v).length≤16 ^ F.length
  | [],_,_=>by simp [voR]
  | f :: F, v, h => by
    have h1:(exR f).length≤16:=by
      rw [exR_len]
      obtain ⟨a,b⟩:=h f (by simp)
      exact Nat.mul_le_mul a b
    have h2:=flat_le (f:=fun x=>voR F (v ||| fallS x)) (L:=exR f) (B:=16 ^ F.length) fun x _=>voR_len _ fun g hg=>h g (List.mem_cons_of_mem _ hg)
    show (List.flatMap _ _).length≤_
    rw [List.length_cons,Nat.pow_succ,Nat.mul_comm]
    exact Nat.le_trans h2 (Nat.mul_le_mul_right _ h1)
theorem voR_ne:∀ {F:List Rpt} (v:Nat),(∀ f∈F,1≤f.nl∧1≤f.nm)→voR F v≠[]
  | [],v,_=>by simp [voR]
  | f :: F, v, h => by
    have h1:(exR f)≠[]:=fun e=>by
      have:=exR_len f
      rw [e] at this
      obtain ⟨a,b⟩:=h f (by simp)
      have h9:0 < f.nl * f.nm:=Nat.mul_pos a b
      simp only [List.length_nil] at this
      omega
    obtain ⟨x,X,hx⟩:=List.exists_cons_of_ne_nil h1
    show List.flatMap _ _≠[]
    rw [hx,List.flatMap_cons]
    intro e
    exact voR_ne _ (fun g hg=>h g (List.mem_cons_of_mem _ hg)) (List.append_eq_nil_iff.1 e).1
def voJ (op:Nat→Nat→Nat):List Nat→Nat
  | []=>0
  | v::V=>V.foldl op v
theorem f62 (tl:Tail) (htl:tl.isOwn=false) (J:List Rpt) (hJ:J.length≤100) (hok:∀ r∈J,r.ok=true) (h3:(flR J).length≤3) (g:Nat) (op:Nat→Nat→Nat) (hop:∀ p q,p < 2 ^ 62→q < 2 ^ 62→op p q < 2 ^ 62) (hg:∀ p q,p < 2 ^ 62→q < 2 ^ 62→Fn P0 g [U p,U q] (U (op p q))) :
    Fn P0 62 [.sl tl (J.map Rpt.v),.fn (.func g) [] []] (U (voJ op (voR (flR J) 0))):=by
  have hfo:=fl_ok hok
  have hy:=f104 tl htl J hJ fun f hf=>(hfo f hf).1
  have hlen:=voR_len (F:=flR J) 0 fun f hf=>⟨(hfo f hf).2.1,(hfo f hf).2.2.1⟩
  have hle:(voR (flR J) 0).length≤10000:=Nat.le_trans hlen (Nat.le_trans (Nat.pow_le_pow_right (by decide) h3) (by decide))
  have hne:=voR_ne (F:=flR J) 0 fun f hf=>⟨(hfo f hf).2.2.2.1,(hfo f hf).2.2.2.2⟩
  have hlt:=voR_lt (F:=flR J) (v:=0) (fun f hf=>(hfo f hf).1) (by decide)
  have hco:=f103 _ hle hne _ _ hy
  obtain ⟨v0,V,hV⟩:=List.exists_cons_of_ne_nil hne
  rw [hV] at hco hle hlt ⊢
  simp only [List.length_cons] at hle
  have hjo:=f102 g op hop hg .no v0 V (by omega) (hlt v0 (by simp)) fun v hv=>hlt v (List.mem_cons_of_mem _ hv)
  have hb1:PV.bds 0 [.fn (.func 104) [.sl tl (J.map Rpt.v)] []]=true:=by
    have:=bd_sl (f:=Rpt.v) htl (fun _=>rfl) J
    simp only [PV.bds,PV.bd,this,Bool.and_self]
  have hb2:PV.bds 0 [.fn (.func g) [] [],.sl .no ((v0::V).map U)]=true:=bds_cons rfl (bds_cons (bd_sl (f:=U) (tl:=.no) rfl (fun _=>rfl) _) rfl)
  refine PFun.of (C:=c62) (cx_ok _ _ _) rfl (fn:=Tryz.f62) (by kernel_rfl) (c:=_) rfl rfl rfl ?_
  refine Run.seq (Run.region (cx_ok _ _ _) (Reg.op rfl (Ope.asg rfl ?_)))
  refine Reg.nil (Run.seq (Run.region (cx_ok _ _ _) (Reg.op rfl (Ope.mov rfl ?_))))
  refine Reg.op rfl (Ope.mov rfl ?_)
  refine Reg.op rfl (Ope.mkf rfl rfl ?_)
  refine Reg.op rfl (Ope.cf rfl rfl hco hb1 ?_)
  refine Reg.op rfl (Ope.cf rfl rfl hjo hb2 ?_)
  refine Reg.op rfl (Ope.asg rfl ?_)
  exact Reg.nil (Run.ret (fin_ret (.tmp rfl .nil) rfl rfl))
end Go.Pv
