/- Parts of the proof: Pv69, Pv70, E1, E2, E3, Pv44 -/
import Derived.Test.YtfpihegkllffbaaGreatP13
import Derived.Test.YtfpihegkllffbaaGreatP10
import Derived.Test.YtfpihegkllffbaaGreatP11
set_option linter.unusedVariables false
set_option linter.unusedSimpArgs false
set_option linter.unusedSectionVars false
namespace Go.Pv
open Go.Am Go.RowKit
structure Seen (n:Nat) (seen:List Nat):Prop where
 nd:seen.Nodup
 lt:∀ p∈seen,p < n
theorem Seen.nil (n:Nat):Seen n []:=⟨List.nodup_nil,fun p hp=>by cases hp⟩
theorem Seen.snoc {n p:Nat} {seen:List Nat} (h:Seen n seen) (hp:p < n) (hs:p ∉ seen):Seen n (seen++[p]):=by
 refine ⟨List.nodup_append.2 ⟨h.nd,by simp,fun a ha b hb=>?_⟩,fun q hq=>?_⟩
 ·rw [List.mem_singleton.1 hb]
  intro e
  exact hs (e ▸ ha)
 ·rcases List.mem_append.1 hq with hq | hq
  ·exact h.lt q hq
  ·rw [List.mem_singleton.1 hq];exact hp
theorem Seen.len {n:Nat} {seen:List Nat} (h:Seen n seen):seen.length≤n:=by
 have:=h.nd.length_le_of_subset (l₂:=List.range n) fun p hp=>List.mem_range.2 (h.lt p hp)
 simpa using this
theorem Seen.done {n:Nat} {seen:List Nat} (h:Seen n seen) (ha:∀ p,p < n→p∈seen):seen.Perm (List.range n) :=
 (List.perm_ext_iff_of_nodup h.nd List.nodup_range).2 fun p=>⟨fun hp=>List.mem_range.2 (h.lt p hp),fun hp=>ha p (List.mem_range.1 hp)⟩
theorem Seen.len_lt {n p:Nat} {seen:List Nat} (h:Seen n seen) (hp:p < n) (hs:p ∉ seen):seen.length < n:=by
 have:=(h.snoc hp hs).len
 simp at this
 omega
def pick {α:Type} (xs:List α) (seen:List Nat):List α:=seen.filterMap fun p=>xs[p]?
theorem pick_snoc {α:Type} {xs:List α} {seen:List Nat} {p:Nat} (hp:p < xs.length):pick xs (seen++[p])=pick xs seen++[xs[p]]:=by
 simp [pick,List.filterMap_append,hp]
theorem pick_take {α:Type} (xs:List α):∀ k,k≤xs.length→pick xs (List.range k)=xs.take k
 |0,_=>by simp [pick]
 |k+1,h=>by
  rw [List.range_succ,pick_snoc (by omega),pick_take xs k (by omega),List.take_succ_eq_append_getElem (by omega)]
theorem pick_range {α:Type} (xs:List α):pick xs (List.range xs.length)=xs:=by
 rw [pick_take xs _ (Nat.le_refl _),List.take_length]
theorem pick_perm {α:Type} {xs:List α} {seen:List Nat} (h:seen.Perm (List.range xs.length)):(pick xs seen).Perm xs:=by
 have:=h.filterMap (fun p=>xs[p]?)
 rw [show List.filterMap (fun p=>xs[p]?) (List.range xs.length)=xs from pick_range xs] at this
 exact this
theorem pick_done {α:Type} {xs:List α} {seen:List Nat} (h:Seen xs.length seen) (ha:∀ p,p < xs.length→p∈seen):(pick xs seen).Perm xs:=pick_perm (h.done ha)
theorem pick_len {α:Type} {xs:List α} {seen:List Nat} (h:Seen xs.length seen):(pick xs seen).length=seen.length:=by
 have hl:=h.lt
 clear h
 induction seen with
 |nil=>rfl
 |cons p seen ih =>
  have hp:=hl p (by simp)
  have:=ih (fun q hq=>hl q (List.mem_cons_of_mem _ hq))
  simp only [pick,List.filterMap_cons,List.getElem?_eq_getElem hp,List.length_cons] at this ⊢
  rw [this]
section
variable {C:Cx} {F:EQ} {X:EX} {k:List KI} {e:EL} {ds:List Nat} {h:PH} {n m:Nat} {l l':HL} {K:PV→PH→Prop}
variable {d:Option Nat} {type:TypeId} {pos:String} {after:Array Edge} {guard:Option (Nat×Bool)}
theorem Ope.rngF {t kt:Nat} {z:PV} {x:Operand} {ks:List AV} {vs:List PV} [hm:Mpt C.A t kt z] (hx:pev (lget e) x=some (.fm ks vs)) (hK:K (.ptr n 0) (HE (n+1) ((n,some (.fit ks vs []))::l))) :
  Ope C X { dst:=d,op:=.range t x,type,pos,after,guard } e ds (HE n l) K:=by
 obtain ⟨et,h1,h2⟩:=hm.get
 unfold Ope
 simp only [pop,pkind,ploud,hx,PRangeM,h1]
 rw [HE_add]
 exact hK
theorem Ope.rngN {t kt:Nat} {z:PV} {x:Operand} [hm:Mpt C.A t kt z] (hx:pev (lget e) x=some (.lit .nilmap)) (hK:K (.ptr n 0) (HE (n+1) ((n,some (.iter none 0 [] 0))::l))) :
  Ope C X { dst:=d,op:=.range t x,type,pos,after,guard } e ds (HE n l) K:=by
 obtain ⟨et,h1,h2⟩:=hm.get
 unfold Ope
 simp only [pop,pkind,ploud,hx,PRangeM,h1]
 rw [HE_add]
 exact hK
theorem Ope.nxtF {α:Type} {xs:List α} {kf:α→AV} {vf kv:α→PV} {i:Nat} {x:Operand} {b:Bool} {seen:List Nat} (hof:∀ a,PV.ofAV (kf a)=some (kv a)) (hx:pev (lget e) x=some (.ptr i 0)) (hg:hget l i=some (.fit (xs.map kf) (xs.map vf) seen)) (hb:b=false)
  (h1:(∀ p,p < xs.length→p∈seen)→K (.tup [B false]) (HE n l))
  (h2:∀ p (hp:p < xs.length),p ∉ seen→K (.tup [B true,kv xs[p],vf xs[p]]) (HE n ((i,some (.fit (xs.map kf) (xs.map vf) (seen++[p])))::l))) :
  Ope C X { dst:=d,op:=.next x b,type,pos,after,guard } e ds (HE n l) K:=by
 subst hb
 unfold Ope
 simp only [pop,pkind,ploud,hx,PNext]
 refine .inl ⟨xs.map kf,xs.map vf,seen,hg,?_,?_⟩
 ·intro ha
  exact h1 (by simpa using ha)
 ·intro p hp hps
  have hp':p < xs.length:=by simpa using hp
  exact ⟨kf xs[p],vf xs[p],kv xs[p],by simp [hp'],by simp [hp'],hof _,by rw [HE_put];exact h2 p hp' hps⟩
theorem Ope.nxtN {i:Nat} {x:Operand} {b:Bool} {since last:Nat} {seen:List Nat} (hx:pev (lget e) x=some (.ptr i 0)) (hg:hget l i=some (.iter none since seen last)) (hb:b=false) (h1:K (.tup [B false]) (HE n l)) :
  Ope C X { dst:=d,op:=.next x b,type,pos,after,guard } e ds (HE n l) K:=by
 subst hb
 unfold Ope
 simp only [pop,pkind,ploud,hx,PNext]
 exact .inr ⟨none,since,seen,last,hg,h1⟩
theorem Ope.lookF {t kt:Nat} {z kv:PV} {ka:AV} {x y:Operand} {ks:List AV} {vs:List PV} {ok:Bool} {r:Option PV} [hm:Mpt C.A t kt z] (hx:pev (lget e) x=some (.fm ks vs)) (hk:pev (lget e) y=some kv) (hka:PV.toAV kv=some ka)
  (hc:acheck C.A 20 kt ka=true) (hf:pfindF C.A C.E kt ka ks vs=some r) (hK:K (pok ok (r.getD z) r.isSome) (HE n l)):Ope C X { dst:=d,op:=.lookup t x y ok,type,pos,after,guard } e ds (HE n l) K:=by
 refine Ope.quiet rfl ?_ hK
 obtain ⟨et,h1,h2⟩:=hm.get
 cases r<;>simp only [pquiet,hx,hk,plookup,h1,hka,pentries,hc,hf,h2,Option.getD,Option.isSome]
end
theorem perm_map_inv {α β:Type} {f:α→β} {xs ys:List β} (hp:xs.Perm ys):∀ {es:List α},es.map f=xs→∃ es':List α,es'.Perm es∧es'.map f=ys:=by
 induction hp with
 |nil=>intro es h;exact ⟨es,List.Perm.refl _,h⟩
 |cons x _ ih =>
  intro es h
  cases es with
  |nil=>cases h
  |cons e es =>
   simp only [List.map_cons,List.cons.injEq] at h
   obtain ⟨es',p1,p2⟩:=ih h.2
   exact ⟨e::es',p1.cons e,by simp [h.1,p2]⟩
 |swap x y l =>
  intro es h
  match es,h with
  |e::e'::es,h =>
   simp only [List.map_cons,List.cons.injEq] at h
   exact ⟨e'::e::es,List.Perm.swap _ _ _,by simp [h.1,h.2.1,h.2.2]⟩
 |trans _ _ ih1 ih2 =>
  intro es h
  obtain ⟨es1,p1,p2⟩:=ih1 h
  obtain ⟨es2,q1,q2⟩:=ih2 p2
  exact ⟨es2,q1.trans p1,q2⟩
theorem RE3_permL {s:St} {es es':List (AV×PV×Nat)} (hp:es.Perm es'):∀ {xs:List MapEntry},RE3 s es xs→∃ xs',xs'.Perm xs∧RE3 s es' xs':=by
 induction hp with
 |nil=>intro xs h;exact ⟨xs,List.Perm.refl _,h⟩
 |cons x _ ih =>
  intro xs h
  obtain ⟨y,ys,rfl,h1,h2,h3,h4⟩:=h
  obtain ⟨ys',p1,p2⟩:=ih h4
  exact ⟨y::ys',p1.cons y,y,ys',rfl,h1,h2,h3,p2⟩
 |swap x y l =>
  intro xs h
  obtain ⟨a,aq,rfl,h1,h2,h3,b,bs,rfl,g1,g2,g3,g4⟩:=h
  exact ⟨b::a::bs,List.Perm.swap _ _ _,b,_,rfl,g1,g2,g3,a,bs,rfl,h1,h2,h3,g4⟩
 |trans _ _ ih1 ih2 =>
  intro xs h
  obtain ⟨xs1,p1,p2⟩:=ih1 h
  obtain ⟨xs2,q1,q2⟩:=ih2 p2
  exact ⟨xs2,q1.trans p1,q2⟩
theorem RE3.parts {s:St}:∀ {es:List (AV×PV×Nat)} {zs:List MapEntry},RE3 s es zs→KL (es.map (·.1)) (zs.map (·.key))∧RVs s (es.map (·.2.1)) (zs.map (·.val))∧es.map (·.2.2)=zs.map (·.born)
 |[],zs,h=>by cases h;exact ⟨rfl,RVs_nil.2 rfl,rfl⟩
 |e::es,_,⟨y,ys,h0,h1,h2,h3,h4⟩=>by
  subst h0
  obtain ⟨p1,p2,p3⟩:=RE3.parts h4
  exact ⟨⟨_,_,rfl,h1,p1⟩,RVs_cons.2 ⟨_,_,rfl,h2,p2⟩,by simp only [List.map_cons,h3,p3]⟩
theorem RV_fm {s:St} {ks:List AV} {vs:List PV} {x:Value}:RV s (.fm ks vs) x↔∃ k c zs,x=.map (some k)∧FM0 s k ks c zs∧RVs s vs (zs.map (·.val)):=by
 unfold RV R2;exact Iff.rfl
theorem freeze_fm {s:St} {w0:Base} (hw:PW w0 s) {i:Nat} {es:List (AV×PV×Nat)} {clock:Nat} (hi:s.h.get i=some (.map es clock)) (hb:∀ e∈es,e.2.2 < clock) (hnd:(es.map (·.2.2)).Nodup) {qs:List (AV×PV)} (hp:(es.map fun e=>(e.1,e.2.1)).Perm qs) {x:Value} (hx:RV s (.mp i) x) :
  RV (s.freeze i 0) (.fm (qs.map (·.1)) (qs.map (·.2))) x:=by
 obtain ⟨_,rfl⟩:=RV_mp.1 hx
 obtain ⟨arr,h1,h2,h3,h4⟩:=hw.map hi
 have hxe:=Ext.freeze (n:=0) h4
 obtain ⟨es',p1,p2⟩:=perm_map_inv hp rfl
 obtain ⟨zs,q1,q2⟩:=RE3_permL p1.symm h2
 obtain ⟨r1,r2,r3⟩:=q2.parts
 have e1:es'.map (·.1)=qs.map (·.1):=by rw [← p2];simp
 have e2:es'.map (·.2.1)=qs.map (·.2):=by rw [← p2];simp
 refine RV_fm.2 ⟨s.e i,clock,zs,rfl,⟨arr,fmp_some.2 ⟨⟨0,none,upd_self _ _ _⟩,h1⟩,q1,by rw [← e1];exact r1,fun z hz=>?_,?_⟩,?_⟩
 ·obtain ⟨e,he,_,_,e4⟩:=q2.mem z hz
  rw [← e4]
  exact hb e (p1.mem_iff.1 he)
 ·rw [← r3]
  exact ((p1.map (·.2.2)).nodup_iff).2 hnd
 ·rw [← e2]
  exact (R2s.ext hxe _).1 _ r2
section
variable {C:Cx} {F:EQ} {X:EX} {k:List KI} {e:EL} {ds:List Nat} {h:PH} {n m:Nat} {l l':HL}
theorem Run.frzM {c:Code} {d i:Nat} {es:List (AV×PV×Nat)} {clock:Nat} (qs:List (AV×PV)) (hd:lget e d=some (.mp i)) (hg:hget l i=some (.map es clock)) (hb:∀ e∈es,e.2.2 < clock) (hnd:(es.map (·.2.2)).Nodup) (hp:(es.map fun e=>(e.1,e.2.1)).Perm qs)
  (hr:Run C F X (.c c::k) ((d,.fm (qs.map (·.1)) (qs.map (·.2)))::e) ds (HE n ((i,none)::l))):Run C F X (.c c::k) e ds (HE n l):=by
 refine Run.ghost (fun t ht=>⟨t.set d (.fm (qs.map (·.1)) (qs.map (·.2))),?_,?_⟩) hr
 ·intro j u hj
  simp only [lget] at hj
  simp only [T.get_set]
  split at hj
  ·next hb=>rw [if_pos (Nat.eq_of_beq_eq_true hb)];exact hj
  ·next hb =>
   rw [if_neg (fun c=>by subst c;simp at hb)]
   exact ht j u hj
 ·intro w0 s arr a1 a2 a3
  have hi:s.h.get i=some (.map es clock):=by rw [a2];exact hg
  obtain ⟨_,_,_,_,hlive⟩:=a1.map hi
  have hx:=Ext.freeze (n:=0) hlive
  refine ⟨s.freeze i 0,rfl,a1.freezeB hi rfl,hx,?_,?_⟩
  ·show s.h.del i=_
   rw [a2,HE_del]
  ·intro j u hj
   simp only [T.get_set] at hj
   split at hj
   ·next hjd =>
    cases hj
    subst hjd
    obtain ⟨x,x1,x2⟩:=a3 j _ (ht j _ hd)
    exact ⟨x,x1,freeze_fm a1 hi hb hnd hp x2⟩
   ·exact (a3.ext hx) j u hj
end
end Go.Pv
namespace Go.Pv
open Go.Am Go.RowKit
def FeedA (P:Program) (y:PV) (R:PV→PH→Prop) (A:PV→Prop):Nat→List PV→Nat→HL→Prop
 |0,pre,n,l=>(∀ v,A v→v∈pre)→∀ m,n≤m→∀ u,R u (HE m l)
 |k+1,pre,n,l=>((∀ v,A v→v∈pre)→∀ m,n≤m→∀ u,R u (HE m l))∧∀ v,A v→∀ m,n≤m→PCallV P y [v] (HE m l) (fun b h'=>∃ m' l',h'=HE m' l'∧m≤m' ∧
   ((b=B true∧FeedA P y R A k (pre++[v]) m' l')∨(b=B false∧∀ m2,m'≤m2→∀ u,R u (HE m2 l')))) fun _ _=>False
theorem FeedA.done {P:Program} {y:PV} {R:PV→PH→Prop} {A:PV→Prop} {pre:List PV} {n:Nat} {l:HL}:∀ {k:Nat},FeedA P y R A k pre n l→(∀ v,A v→v∈pre)→∀ m,n≤m→∀ u,R u (HE m l)
 |0,h=>h
 |_+1,h=>h.1
theorem FeedA.mono {P:Program} {y:PV} {R:PV→PH→Prop} {A:PV→Prop} {pre:List PV} {n n':Nat} {l:HL} (hn:n≤n'):∀ {k:Nat},FeedA P y R A k pre n l→FeedA P y R A k pre n' l
 |0,h=>fun ha m hm=>h ha m (Nat.le_trans hn hm)
 |_+1,h=>⟨fun ha m hm=>h.1 ha m (Nat.le_trans hn hm),fun v hv m hm=>h.2 v hv m (Nat.le_trans hn hm)⟩
def YieldsA (P:Program) (g:Nat) (fs caps:List PV) (A:PV→Prop):Prop :=
 ∀ (j n:Nat) (l:HL) (R:PV→PH→Prop),j < n→(∀ k,FeedA P (.yld j) R A k [] n l)→PCall P g (fs++[.yld j]++caps) (HE n l) R fun _ _=>False
section
variable {C:Cx} {F:EQ} {X:EX} {k:List KI} {e:EL} {ds:List Nat} {K:PV→PH→Prop} {n:Nat} {own l:HL}
variable {d:Option Tmp} {type:TypeId} {pos:String} {after:Array Edge} {guard:Option (Nat×Bool)}
end
section
variable {C:Cx} {F:EQ} {X:EX} {k:List KI} {e:EL} {ds:List Nat} {h:PH} {n:Nat} {l:HL}
theorem Run.rangeFA (hC:C.Ok) (hrnd:C.rnd=none) {f:Operand} {ps:Array Tmp} {asg body:Code} {fs cp:List PV} {A:PV→Prop} {g:Nat} {α:Type} (hp:α→HL) (nx:α→Nat) (I:List PV→α→Prop)
  (hf:pev (lget e) f=some (.fn (.func g) fs cp)) (hy:YieldsA C.P g fs cp A) (hps:ps.size=1) (hpl:ps.toList.all (fun p=>Nat.blt p C.sz)=true) (hfi:∃ fn,C.P.funcs[C.fi]?=some fn)
  (a0:α) (h0:I [] a0) (hl0:Hsub (hp a0) l) (hk:∀ a,∀ p∈hp a,p.1≠n+1) (hk0:∀ p∈hp a0,p.1≠n) (hn0:nx a0≤n+2)
  (round : ∀ pre a v, A v → I pre a → ∀ m, nx a ≤ m → n + 2 ≤ m → ∀ lb, Run { C with rnd := some (n + 1) }
   (FAsg { C with rnd := some (n + 1) } n m lb body (fun m l => ∃ a', nx a' ≤ m ∧ Hsub ((n, some .dfr) :: hp a') l ∧ I (pre ++ [v]) a')
    fun j m l=>∃ l3,Hsub l3 ((n+1,none)::l)∧∀ m4,m≤m4→Jmp C F X k j e (n::ds) (HE m4 l3)) noX [.c asg] (tsE e ps.toList [v]) [] (HE m ((n+1,some lb)::(n,some .dfr)::hp a)))
  (fin:∀ pre a,(∀ v,A v→v∈pre)→I pre a→∀ m,nx a≤m→n+2≤m→Run C F X k e (n::ds) (HE m ((n,some .dfr)::hp a))):Run C F X (.c (.rangeFunc f ps asg body)::k) e ds (HE n l):=by
 refine Run.intro ?_
 let Qg:PQ:=fun x t ds h=>∃ h' t',Ghost h h' t t'∧Pv.toQ (Ks C F X k) x t' ds h'
 have hpw:=PWP.rangeFunc (P:=C.P) hC.A (fi:=C.fi) (sz:=C.sz) (Q:=Qg) (X:=toX X) (t:=TE e) (ds:=ds) (h:=HE n l) (f:=f) (ps:=ps) (asg:=asg) (body:=body) (fv:=.fn (.func g) fs cp) (by rw [TE_getf];exact hf) ?_
 ·rw [Cx.wp,hrnd]
  exact PWP.ghostQ hpw
 show pcallF C.A C.P (.fn (.func g) fs cp) [.yld (n+1)] _ _ _
 simp only [pcallF]
 have hnn:(HE n l).next=n:=rfl
 rw [HE_add,hnn,HE_add]
 let lbs (st:LoopState) (pd:Option Code):PBlk:=.loop st pd C.fi (TE e) C.sz ps asg body n
 refine PCall.mono (hy (n+1) (n+2) _ (QLoop (n+1) (TE e) (n::ds) Qg) (by omega) ?_) (fun _ _ h=>h) fun _ _ h=>h.elim
 have key:∀ (N:Nat) (pre:List PV) (a:α) (m:Nat) (l':HL),I pre a→nx a≤m→n+2≤m→Hsub ((n+1,some (lbs .ready none))::(n,some .dfr)::hp a) l' →
   FeedA C.P (.yld (n+1)) (QLoop (n+1) (TE e) (n::ds) Qg) A N pre m l':=by
  have hfin:∀ (pre:List PV) (a:α) (m:Nat) (l':HL),I pre a→nx a≤m→n+2≤m→Hsub ((n+1,some (lbs .ready none))::(n,some .dfr)::hp a) l'→(∀ v,A v→v∈pre)→∀ m2,m≤m2→∀ u,QLoop (n+1) (TE e) (n::ds) Qg u (HE m2 l'):=by
   intro pre a m l' hI hm hm2 hs hall m2 hm3 u
   refine ⟨.ready,none,C.fi,TE e,C.sz,ps,asg,body,n,rfl,hs.1,?_⟩
   refine ⟨HE m2 ((n,some .dfr)::hp a),TE e,Ghost.wide (h:=(HE m2 l').del (n+1)) (h':=HE m2 ((n,some .dfr)::hp a)) (Nat.le_refl _) fun i b hi=>?_,(fin pre a hall hI m2 (by omega) (by omega)).toQ (Sub.refl e)⟩
   rw [HE_del]
   exact Hsub.get (l':=(n+1,none)::l') (Hsub.over hs.2 (by
    intro p hpm
    rcases List.mem_cons.1 hpm with rfl | hpm
    ·simp
    ·exact hk a p hpm)) hi
  intro N
  induction N with
  |zero =>
   intro pre a m l' hI hm hm2 hs hall
   exact hfin pre a m l' hI hm hm2 hs hall
  |succ N ih =>
   intro pre a m l' hI hm hm2 hs
   refine ⟨fun hall=>hfin pre a m l' hI hm hm2 hs hall,fun v hv m2 hm3=>?_⟩
   have hr:=round pre a v hv hI m2 (by omega) (by omega) (lbs .ready none)
   refine PCallV.yld (t:=TE e) (fn:=C.fi) (sz:=C.sz) (ps:=ps) (asg:=asg) (body:=body) (d:=n) hs.1 hfi (by simp [hps]) (fun p hp=>blt_lt (List.all_eq_true.1 hpl p hp)) ?_
   have hra:=PWP.ghost (Ghost.wide (h:=HE m2 l') (h':=HE m2 ((n+1,some (lbs .ready none))::(n,some .dfr)::hp a)) (Nat.le_refl _) fun i b hi=>hs.get hi) (hr.wp (tsE_sub ps.toList [v] e (TE e) (Sub.refl e)))
   refine PWP.mono hra ?_ fun _ _ _ _ hx=>hx.elim
   rintro x t1 ds1 h1 ⟨e1,hsub1,rfl,rfl,m3,l3,rfl,hg3,hb⟩
   refine ⟨rfl,rfl,TE e,hg3,?_⟩
   have hb2:=(hb (lbs .busy none)).wp hsub1
   rw [HE_put]
   refine PWP.mono hb2 ?_ fun _ _ _ _ hx=>hx.elim
   rintro x t2 ds2 h2 ⟨e2,hsub2,rfl,m5,l5,rfl,hm5,hg5,hx⟩
   refine ⟨rfl,.busy,none,TE e,hg5,?_⟩
   cases x with
   |normal =>
    obtain ⟨a',q1,q2,q3⟩:=hx
    refine ⟨m5,(n+1,some (lbs .ready none))::l5,by simp only [HE_put];rfl,by omega,.inl ⟨rfl,?_⟩⟩
    refine ih (pre++[v]) a' m5 _ q3 q1 (by omega) ⟨hget_hd,Hsub.over q2 ?_⟩
    intro p hpm
    rcases List.mem_cons.1 hpm with rfl | hpm
    ·simp
    ·exact hk a' p hpm
   |jump j =>
    obtain ⟨q0,l6,q1,q2⟩:=hx
    refine ⟨q0,m5,(n+1,some (lbs .done (some j)))::l5,by simp only [HE_put];rfl,by omega,.inr ⟨rfl,fun m6 hm6 u=>?_⟩⟩
    refine ⟨.done,some j,C.fi,TE e,C.sz,ps,asg,body,n,rfl,hget_hd,q0,?_⟩
    refine ⟨HE m6 l6,TE e,Ghost.wide (h:=(HE m6 _).del (n+1)) (h':=HE m6 l6) (Nat.le_refl _) fun i b hi=>?_,(q2 m6 hm6).toQ (Sub.refl e)⟩
    rw [HE_del]
    have:=q1.get hi
    show hget ((n+1,none)::(n+1,some (lbs .done (some j)))::l5) i=some b
    simp only [hget] at this ⊢
    split at this
    ·cases this
    ·next hb=>simp only [hb];exact this
 exact fun N=>key N [] a0 (n+2) _ h0 hn0 (Nat.le_refl _) ⟨hget_hd,hget_at (by omega) hget_hd,Hsub.over (Hsub.over hl0 hk0) (hk a0)⟩
end
def mapV (ks:List AV) (vs:List PV):PV :=
 match ks with
 |[]=>.lit .nilmap
 |_::_=>.fm ks vs
def itV (ks:List AV) (vs:List PV) (seen:List Nat):PBlk :=
 match ks with
 |[]=>.iter none 0 [] 0
 |_::_=>.fit ks vs seen
theorem mapV_bd {n:Nat} {ks:List AV} {vs:List PV} (h:PV.bds n vs=true):(mapV ks vs).bd n=true:=by
 cases ks with
 |nil=>rfl
 |cons a ks=>exact h
section
variable {C:Cx} {F:EQ} {X:EX} {k:List KI} {e:EL} {ds:List Nat} {n m:Nat} {l l':HL} {K:PV→PH→Prop}
variable {d:Option Nat} {type:TypeId} {pos:String} {after:Array Edge} {guard:Option (Nat×Bool)}
theorem Ope.rngV {t kt:Nat} {z:PV} {x:Operand} {ks:List AV} {vs:List PV} [hm:Mpt C.A t kt z] (hx:pev (lget e) x=some (mapV ks vs)) (hK:K (.ptr n 0) (HE (n+1) ((n,some (itV ks vs []))::l))) :
  Ope C X { dst:=d,op:=.range t x,type,pos,after,guard } e ds (HE n l) K:=by
 cases ks with
 |nil=>exact Ope.rngN hx hK
 |cons a ks=>exact Ope.rngF hx hK
theorem Ope.nxtV {α:Type} {xs:List α} {kf:α→AV} {vf kv:α→PV} {i:Nat} {x:Operand} {b:Bool} {seen:List Nat} (hof:∀ a,PV.ofAV (kf a)=some (kv a)) (hx:pev (lget e) x=some (.ptr i 0)) (hg:hget l i=some (itV (xs.map kf) (xs.map vf) seen)) (hb:b=false)
  (h1:(∀ p,p < xs.length→p∈seen)→K (.tup [B false]) (HE n l))
  (h2:∀ p (hp:p < xs.length),p ∉ seen→K (.tup [B true,kv xs[p],vf xs[p]]) (HE n ((i,some (itV (xs.map kf) (xs.map vf) (seen++[p])))::l))) :
  Ope C X { dst:=d,op:=.next x b,type,pos,after,guard } e ds (HE n l) K:=by
 cases xs with
 |nil=>exact Ope.nxtN hx hg hb (h1 fun p hp=>absurd hp (Nat.not_lt_zero _))
 |cons a xs=>exact Ope.nxtF hof hx hg hb h1 h2
theorem Ope.entV {α:Type} {xs:List α} {kf:α→AV} {vf kv:α→PV} {i:Nat} {x:Operand} {seen:List Nat} {p:Nat} (hof:∀ a,PV.ofAV (kf a)=some (kv a)) (hp:p < xs.length) (hx:pev (lget e) x=some (.ptr i 0)) (hg:hget l i=some (itV (xs.map kf) (xs.map vf) (seen++[p])))
  (hK:K (.tup [kv xs[p],vf xs[p]]) (HE n l)) :
  Ope C X { dst:=d,op:=.entry x,type,pos,after,guard } e ds (HE n l) K:=by
 cases xs with
 |nil=>exact absurd hp (Nat.not_lt_zero _)
 |cons a xs =>
  unfold Ope
  simp only [pop,pkind,ploud,hx,PEntry]
  exact .inl ⟨_,_,seen,p,kf (a::xs)[p],vf (a::xs)[p],kv (a::xs)[p],hg,by rw [List.getElem?_map,List.getElem?_eq_getElem hp];rfl,by rw [List.getElem?_map,List.getElem?_eq_getElem hp];rfl,hof _,hK⟩
theorem Ope.ins {t kt i:Nat} {z kv vv:PV} {ka:AV} {x y u:Operand} {es:List (AV×PV×Nat)} {clock:Nat} {r:Option (Nat×PV)} [hm:Mpt C.A t kt z] (hx:pev (lget e) x=some (.mp i)) (hk:pev (lget e) y=some kv) (hv:pev (lget e) u=some vv) (hka:PV.toAV kv=some ka)
  (hg:hget l i=some (.map es clock)) (hc:acheck C.A 20 kt ka=true) (hf:pfind C.A C.E kt ka es 0=some r) (hs:∀ j v,r=some (j,v)→∃ e,es[j]?=some e∧asame 20 e.1 ka=true)
  (hK1:∀ j v,r=some (j,v)→K (.tup []) (HE n ((i,some (.map (psetAt es j ka vv) clock))::l))) (hK2:r=none→K (.tup []) (HE n ((i,some (.map (es++[(ka,vv,clock)]) (clock+1)))::l))) :
  Ope C X { dst:=d,op:=.insert t x y u,type,pos,after,guard } e ds (HE n l) K:=by
 have h:=Ope.mset (C:=C) (X:=X) (e:=e) (ds:=ds) (n:=n) (l:=l) (K:=K) (d:=d) (type:=type) (pos:=pos) (after:=after) (guard:=guard) (t:=t) hx hk hv hka hg hc hf hs hK1 hK2
 unfold Ope at h ⊢
 exact h
end
def esI:Nat→List (Int×PV)→List (AV×PV×Nat)
 |_,[]=>[]
 |b,p::M=>(.int .i64 p.1,p.2,b)::esI (b+1) M
def getI (M:List (Int×PV)) (x:Int):Option PV:=(M.find? fun p=>decide (p.1=x)).map (·.2)
def setI:List (Int×PV)→Int→PV→List (Int×PV)
 |[],x,v=>[(x,v)]
 |p::M,x,v=>if p.1=x then (x,v)::M else p::setI M x v
theorem esI_app:∀ (b:Nat) (M N:List (Int×PV)),esI b (M++N)=esI b M++esI (b+M.length) N
 |b,[],N=>rfl
 |b,p::M,N=>by simp only [List.cons_append,esI,esI_app (b+1) M N,List.length_cons];congr 3;omega
theorem esI_born:∀ (b:Nat) (M:List (Int×PV)),∀ e∈esI b M,b≤e.2.2∧e.2.2 < b+M.length
 |b,[],e,h=>by cases h
 |b,p::M,e,h=>by
  rcases List.mem_cons.1 h with rfl | h
  ·exact ⟨Nat.le_refl _,by simp⟩
  ·have:=esI_born (b+1) M e h
   simp only [List.length_cons]
   omega
theorem esI_nodup:∀ (b:Nat) (M:List (Int×PV)),((esI b M).map (·.2.2)).Nodup
 |b,[]=>List.nodup_nil
 |b,p::M=>by
  simp only [esI,List.map_cons,List.nodup_cons]
  refine ⟨fun h=>?_,esI_nodup (b+1) M⟩
  obtain ⟨e,he,hb⟩:=List.mem_map.1 h
  have:=(esI_born (b+1) M e he).1
  omega
theorem esI_pairs:∀ (b:Nat) (M:List (Int×PV)),(esI b M).map (fun e=>(e.1,e.2.1))=M.map fun p=>(AV.int .i64 p.1,p.2)
 |b,[]=>rfl
 |b,p::M=>by simp only [esI,List.map_cons,esI_pairs (b+1) M]
theorem aeqv_int {A:AP} {E:Eqs} {kt:TypeId} {kd:IntKind} (hk:A.under kt=some (.int kd)) (a b:Int):aeqv A E 20 kt (.int .i64 a) (.int .i64 b)=some (a == b):=by
 simp only [aeqv,hk,decide_true]
theorem acheck_int {A:AP} {kt:TypeId} {kd:IntKind} (hk:A.under kt=some (.int kd)) (a:Int):acheck A 20 kt (.int .i64 a)=true:=by
 simp only [acheck,hk]
theorem pfind_esI {A:AP} {E:Eqs} {kt:TypeId} {kd:IntKind} (hk:A.under kt=some (.int kd)) (x:Int):∀ (M:List (Int×PV)) (b i:Nat),∃ r,pfind A E kt (.int .i64 x) (esI b M) i=some r∧r.map (·.2)=getI M x ∧
  ∀ j v,r=some (j,v)→i≤j∧(∃ e,(esI b M)[j - i]?=some e∧e.1=.int .i64 x)∧∀ u,psetAt (esI b M) (j - i) (.int .i64 x) u=esI b (setI M x u)
 |[],b,i=>⟨none,rfl,rfl,fun j v h=>by cases h⟩
 |p::M,b,i=>by
  simp only [esI,pfind,aeqv_int hk,getI,List.find?_cons]
  by_cases hp:p.1=x
  ·have e1:(x == p.1)=true:=by rw [hp];simp
   rw [e1,decide_eq_true hp]
   refine ⟨_,rfl,rfl,fun j v h=>?_⟩
   cases h
   refine ⟨Nat.le_refl _,⟨(.int .i64 p.1,p.2,b),by rw [Nat.sub_self];rfl,by rw [hp]⟩,fun u=>?_⟩
   rw [Nat.sub_self,setI,if_pos hp]
   rfl
  ·have e1:(x == p.1)=false:=by simp only [beq_eq_false_iff_ne,ne_eq];exact fun h=>hp h.symm
   rw [e1,decide_eq_false hp]
   obtain ⟨r,h1,h2,h3⟩:=pfind_esI hk x M (b+1) (i+1)
   refine ⟨r,h1,h2,fun j v h=>?_⟩
   obtain ⟨g1,⟨e,g2,g3⟩,g4⟩:=h3 j v h
   have hj:j - i=(j - (i+1))+1:=by omega
   refine ⟨by omega,⟨e,by rw [hj];simpa using g2,g3⟩,fun u=>?_⟩
   rw [hj,setI,if_neg hp,psetAt,g4 u]
   rfl
theorem getI_none {M:List (Int×PV)} {x:Int} (h:getI M x=none) (u:PV):setI M x u=M++[(x,u)]:=by
 induction M with
 |nil=>rfl
 |cons p M ih =>
  simp only [getI,List.find?_cons] at h
  by_cases hp:p.1=x
  ·rw [decide_eq_true hp] at h;cases h
  ·rw [decide_eq_false hp] at h
   rw [setI,if_neg hp,ih h];rfl
section
variable {C:Cx} {F:EQ} {X:EX} {k:List KI} {e:EL} {ds:List Nat} {n m:Nat} {l l':HL} {K:PV→PH→Prop}
variable {d:Option Nat} {type:TypeId} {pos:String} {after:Array Edge} {guard:Option (Nat×Bool)}
theorem asame_int (x:Int):asame 20 (.int .i64 x) (.int .i64 x)=true:=by simp [asame]
theorem Ope.msetI {t kt i:Nat} {z vv:PV} {kd:IntKind} {x y u:Operand} {M:List (Int×PV)} {q:Int} [hm:Mpt C.A t kt z] (hkd:C.A.under kt=some (.int kd)) (hx:pev (lget e) x=some (.mp i)) (hk:pev (lget e) y=some (I q)) (hv:pev (lget e) u=some vv)
  (hg:hget l i=some (.map (esI 0 M) M.length)) (hK:K (.tup []) (HE n ((i,some (.map (esI 0 (setI M q vv)) (setI M q vv).length))::l))):Ope C X { dst:=d,op:=.mapUpdate t x y u,type,pos,after,guard } e ds (HE n l) K:=by
 obtain ⟨r,h1,h2,h3⟩:=pfind_esI (E:=C.E) hkd q M 0 0
 have hlen:∀ {M:List (Int×PV)} {w:PV},getI M q=some w→(setI M q vv).length=M.length:=by
  intro M w
  induction M with
  |nil=>intro h;cases h
  |cons p M ih =>
   intro h
   by_cases hp:p.1=q
   ·rw [setI,if_pos hp];rfl
   ·simp only [getI,List.find?_cons,decide_eq_false hp] at h
    rw [setI,if_neg hp,List.length_cons,ih h,List.length_cons]
 refine Ope.mset hx hk hv rfl hg (acheck_int hkd q) h1 (fun j v hj=>?_) (fun j v hj=>?_) fun hn=>?_
 ·obtain ⟨_,⟨e,g1,g2⟩,_⟩:=h3 j v hj
  exact ⟨e,by simpa using g1,by rw [g2];exact asame_int q⟩
 ·obtain ⟨_,_,g⟩:=h3 j v hj
  have:=g vv
  rw [Nat.sub_zero] at this
  rw [this]
  subst hj
  rw [hlen (w:=v) h2.symm] at hK
  exact hK
 ·subst hn
  have hn:=getI_none h2.symm vv
  rw [hn,esI_app,List.length_append] at hK
  rw [Nat.zero_add] at hK
  exact hK
theorem Ope.lookI {t kt i:Nat} {z:PV} {kd:IntKind} {x y:Operand} {M:List (Int×PV)} {q:Int} {ok:Bool} [hm:Mpt C.A t kt z] (hkd:C.A.under kt=some (.int kd)) (hx:pev (lget e) x=some (.mp i)) (hk:pev (lget e) y=some (I q))
  (hg:hget l i=some (.map (esI 0 M) M.length)) (hK:K (pok ok ((getI M q).getD z) (getI M q).isSome) (HE n l)):Ope C X { dst:=d,op:=.lookup t x y ok,type,pos,after,guard } e ds (HE n l) K:=by
 obtain ⟨r,h1,h2,h3⟩:=pfind_esI (E:=C.E) hkd q M 0 0
 refine Ope.look hx hk rfl hg (acheck_int hkd q) h1 ?_
 rw [← h2] at hK
 cases r with
 |none=>exact hK
 |some p=>exact hK
theorem pfindF_I {A:AP} {E:Eqs} {kt:TypeId} {kd:IntKind} (hk:A.under kt=some (.int kd)) (x:Int):∀ (M:List (Int×PV)),(M.map (·.1)).Nodup→pfindF A E kt (.int .i64 x) (M.map fun p=>.int .i64 p.1) (M.map (·.2))=some (getI M x)
 |[],_=>rfl
 |p :: M, hn => by
  simp only [List.map_cons,List.nodup_cons] at hn
  simp only [List.map_cons,pfindF,aeqv_int hk,pfindF_I hk x M hn.2,getI,List.find?_cons]
  by_cases hp:p.1=x
  ·have e1:(x == p.1)=true:=by rw [hp];simp
   rw [e1,decide_eq_true hp]
   have hnone:(M.find? fun p=>decide (p.1=x))=none:=by
    rw [List.find?_eq_none]
    intro q hq
    rw [decide_eq_true_eq]
    intro hqx
    exact hn.1 (List.mem_map.2 ⟨q,hq,by rw [hp,hqx]⟩)
   rw [hnone]
   rfl
  ·have e1:(x == p.1)=false:=by simp only [beq_eq_false_iff_ne,ne_eq];exact fun h=>hp h.symm
   rw [e1,decide_eq_false hp]
theorem Ope.lookFI {t kt:Nat} {z:PV} {kd:IntKind} {x y:Operand} {M:List (Int×PV)} {q:Int} {ok:Bool} [hm:Mpt C.A t kt z] (hkd:C.A.under kt=some (.int kd)) (hnd:(M.map (·.1)).Nodup) (hx:pev (lget e) x=some (.fm (M.map fun p=>.int .i64 p.1) (M.map (·.2)))) (hk:pev (lget e) y=some (I q))
  (hK:K (pok ok ((getI M q).getD z) (getI M q).isSome) (HE n l)):Ope C X { dst:=d,op:=.lookup t x y ok,type,pos,after,guard } e ds (HE n l) K :=
 Ope.lookF hx hk rfl (acheck_int hkd q) (pfindF_I hkd q M hnd) hK
end
end Go.Pv
namespace Go.Pv
open Go.Proofs Go.Am
set_option maxRecDepth 10000
structure Rul where
  ba:Int
  st:Int
  mo:Int
  wi:Int
structure Ofc where
  kd:Int
  ri:Int
  lo:Int
  hi:Int
def Rul.v (r:Rul):PV:=.agg [I r.ba,I r.st,I r.mo,I r.wi]
def Ofc.v (o:Ofc):PV:=.agg [I o.kd,I o.ri,I o.lo,I o.hi]
structure Fns where
  ru:List Rul
  n:Int
  li:List Ofc
abbrev Fns.v (f:Fns) (t1 t2:Tail):PV:=.agg [.sl t1 (f.ru.map Rul.v),I f.n,.sl t2 (f.li.map Ofc.v)]
structure Deed where
  kd:Int
  nu:Nat
  ri:Int
  ho:Int
deriving DecidableEq
def Deed.v (d:Deed):PV:=.agg [I d.kd,I d.nu,I d.ri,I d.ho]
def Deed.key (d:Deed):AV:=.agg [.int .i64 d.kd,.int .i64 d.nu,.int .i64 d.ri,.int .i64 d.ho]
theorem Deed.of (d:Deed):PV.ofAV d.key=some d.v:=rfl
instance:Inhabited Rul:=⟨⟨0,0,0,0⟩⟩
instance:Inhabited Ofc:=⟨⟨0,0,0,0⟩⟩
def Fns.rule (f:Fns) (k:Int):Rul:=f.ru.getD k.toNat default
def Fns.ofc (f:Fns) (i:Nat):Ofc:=f.li.getD i default
theorem Fns.ofc_at {f:Fns} {i:Nat} (h:i < f.li.length):f.ofc i=f.li[i]:=by simp [Fns.ofc,List.getD,h]
theorem Fns.rule_at {f:Fns} {k:Nat} (h:k < f.ru.length):f.rule (k:Int)=f.ru[k]:=by simp [Fns.rule,List.getD,h]
def bef (a b:Deed):Bool:=if a.ho=b.ho then decide (a.nu < b.nu) else decide (a.ho < b.ho)
theorem bef_irr (a:Deed):bef a a=false:=by simp [bef]
theorem bef_trans {a b c:Deed} (h1:bef a b=true) (h2:bef b c=true):bef a c=true:=by
  unfold bef at *
  split at h1<;>split at h2<;>simp only [decide_eq_true_eq] at h1 h2<;>split<;>simp only [decide_eq_true_eq]<;>omega
theorem bef_total {a b:Deed} (h:a.nu≠b.nu) (hb:bef a b=false):bef b a=true:=by
  unfold bef at *
  split at hb<;>simp only [decide_eq_false_iff_not] at hb<;>split<;>simp only [decide_eq_true_eq]<;>omega
theorem bef_asym {a b:Deed} (h:bef a b=true):bef b a=false:=by
  cases hb:bef b a with
  | false=>rfl
  | true=>have:=bef_trans h hb;rw [bef_irr] at this;cases this
def Fns.win (f:Fns) (d o:Deed):Bool:=(decide (o.kd=d.kd) && decide (o.ri=d.ri)) && decide (d.ho - (f.rule d.kd).wi≤o.ho)
def Fns.earl (f:Fns) (D:List Deed) (d:Deed):Nat:=(D.filter (f.win d)).length
def Fns.cst (f:Fns) (d:Deed) (k:Nat):Int:=min (f.rule d.kd).mo ((f.rule d.kd).ba+(f.rule d.kd).st * k)
def Fns.cin (f:Fns) (D:List Deed) (d:Deed):Int:=f.cst d (f.earl (D.filter fun o=>bef o d) d)
def isum:List Int→Int
  | []=>0
  | x::l=>x+isum l
theorem isum_app:∀ a b:List Int,isum (a++b)=isum a+isum b
  | [],b=>by simp [isum]
  | x::a,b=>by rw [List.cons_append,isum,isum,isum_app a b];omega
theorem isum_perm {a b:List Int} (h:a.Perm b):isum a=isum b:=by
  induction h with
  | nil=>rfl
  | cons x _ ih=>rw [isum,isum,ih]
  | swap x y l=>rw [isum,isum,isum,isum];omega
  | trans _ _ h1 h2=>exact h1.trans h2
theorem isum_bd {m:Int} (hm:0≤m):∀ {l:List Int},(∀ x∈l,0≤x∧x≤m)→0≤isum l∧isum l≤m * l.length
  | [],_=>⟨Int.le_refl _,by simp [isum]⟩
  | x :: l, h => by
    have h1:=h x (by simp)
    have h2:=isum_bd hm fun y hy=>h y (List.mem_cons_of_mem _ hy)
    simp only [isum,List.length_cons]
    refine ⟨by omega,?_⟩
    rw [show ((l.length+1:Nat):Int)=(l.length:Int)+1 from rfl,Int.mul_add,Int.mul_one]
    omega
def Fns.val (f:Fns) (g:Deed→Int→Int) (D:List Deed):Int:=isum (D.map fun d=>g d (f.cin D d))
theorem cin_perm (f:Fns) {D E:List Deed} (h:D.Perm E) (d:Deed):f.cin D d=f.cin E d:=by
  unfold Fns.cin Fns.earl
  rw [((h.filter _).filter _).length_eq]
theorem val_perm (f:Fns) (g:Deed→Int→Int) {D E:List Deed} (h:D.Perm E):f.val g D=f.val g E:=by
  unfold Fns.val
  rw [isum_perm (h.map _)]
  congr 1
  refine List.map_congr_left fun d _=>?_
  rw [cin_perm f h]
def Apart (D E:List Deed):Prop:=∀ a∈D,∀ b∈E,¬ (a.kd=b.kd∧a.ri=b.ri)
theorem Apart.symm {D E:List Deed} (h:Apart D E):Apart E D:=fun a ha b hb e=>h b hb a ha ⟨e.1.symm,e.2.symm⟩
theorem cin_left (f:Fns) {D E:List Deed} (h:Apart D E) {d:Deed} (hd:d∈D):f.cin (D++E) d=f.cin D d:=by
  unfold Fns.cin Fns.earl
  rw [List.filter_append,List.filter_append,List.length_append]
  have:(List.filter (f.win d) (List.filter (fun o=>bef o d) E))=[]:=by
    rw [List.filter_eq_nil_iff]
    intro o ho
    have hoE:=(List.mem_filter.1 ho).1
    intro hw
    simp only [Fns.win,Bool.and_eq_true,decide_eq_true_eq] at hw
    exact h d hd o hoE ⟨hw.1.1.symm,hw.1.2.symm⟩
  rw [this,List.length_nil,Nat.add_zero]
theorem val_app (f:Fns) (g:Deed→Int→Int) {D E:List Deed} (h:Apart D E):f.val g (D++E)=f.val g D+f.val g E:=by
  unfold Fns.val
  rw [List.map_append,isum_app]
  have e1:D.map (fun d=>g d (f.cin (D++E) d))=D.map fun d=>g d (f.cin D d):=List.map_congr_left fun d hd=>by rw [cin_left f h hd]
  have e2:E.map (fun d=>g d (f.cin (D++E) d))=E.map fun d=>g d (f.cin E d):=List.map_congr_left fun d hd=>by
    rw [cin_perm f List.perm_append_comm,cin_left f h.symm hd]
  rw [e1,e2]
structure Fns.ok (f:Fns):Prop where
  ru:f.ru.length≤4
  n:f.n=2∨f.n=4∨f.n=6
  li:f.li.length≤5
  rv:∀ r∈f.ru,(0≤r.ba∧r.ba≤1000)∧(0≤r.st∧r.st≤1000)∧(0≤r.mo∧r.mo≤1000)∧(0≤r.wi∧r.wi≤144)
  lv:∀ o∈f.li,(0≤o.kd∧o.kd < f.ru.length)∧(0 < o.ri∧o.ri < 2 ^ f.n.toNat)∧(0≤o.lo∧o.lo≤o.hi∧o.hi≤144∧o.hi - o.lo≤2)
theorem Fns.ok.rule {f:Fns} (h:f.ok) (k:Int):(0≤(f.rule k).ba∧(f.rule k).ba≤1000)∧(0≤(f.rule k).st∧(f.rule k).st≤1000)∧(0≤(f.rule k).mo∧(f.rule k).mo≤1000)∧(0≤(f.rule k).wi∧(f.rule k).wi≤144):=by
  unfold Fns.rule
  by_cases hk:k.toNat < f.ru.length
  · have : f.ru.getD k.toNat default = f.ru[k.toNat] := by simp [List.getD, hk]
    rw [this]
    exact h.rv _ (List.getElem_mem hk)
  · have : f.ru.getD k.toNat default = default := by simp [List.getD, Nat.not_lt.1 hk]
    rw [this]
    decide
theorem cst_bd {f:Fns} (h:f.ok) (d:Deed) (k:Nat):0≤f.cst d k∧f.cst d k≤1000:=by
  obtain ⟨h1,h2,h3,_⟩:=h.rule d.kd
  unfold Fns.cst
  have:0≤(f.rule d.kd).st * (k:Int):=Int.mul_nonneg h2.1 (by omega)
  omega
theorem cin_bd {f:Fns} (h:f.ok) (D:List Deed) (d:Deed):0≤f.cin D d∧f.cin D d≤1000:=cst_bd h d _
def Fns.alw (f:Fns) (d:Deed):Prop:=d.nu < f.li.length∧(f.ofc d.nu).kd=d.kd∧(0≤d.ri∧d.ri < f.n∧(f.ofc d.nu).ri.toNat.testBit d.ri.toNat=true)∧(f.ofc d.nu).lo≤d.ho∧d.ho≤(f.ofc d.nu).hi
def Nus (D:List Deed) (S:Nat):Prop:=∀ i,S.testBit i=true↔∃ d∈D,d.nu=i
theorem Nus.uniq {D:List Deed} {S T:Nat} (h1:Nus D S) (h2:Nus D T):S=T :=
  Nat.eq_of_testBit_eq fun i=>by
    have e1:=h1 i
    have e2:=h2 i
    cases hs:S.testBit i<;>cases ht:T.testBit i<;>rw [hs] at e1<;>rw [ht] at e2<;>first | rfl | (exact absurd (e1.2 (e2.1 rfl)) (by decide)) | (exact absurd (e2.2 (e1.1 rfl)) (by decide))
theorem Nus.perm {D E:List Deed} {S:Nat} (h:D.Perm E) (hS:Nus D S):Nus E S:=fun i=>(hS i).trans ⟨fun ⟨d,h1,h2⟩=>⟨d,h.mem_iff.1 h1,h2⟩,fun ⟨d,h1,h2⟩=>⟨d,h.mem_iff.2 h1,h2⟩⟩
structure Fns.Sel (f:Fns) (P:Deed→Prop) (S:Nat) (D:List Deed):Prop where
  al:∀ d∈D,f.alw d∧P d
  nd:(D.map Deed.nu).Nodup
  nu:Nus D S
theorem Fns.Sel.perm {f:Fns} {P:Deed→Prop} {S:Nat} {D E:List Deed} (h:D.Perm E) (hs:f.Sel P S D):f.Sel P S E :=
  ⟨fun d hd=>hs.al d (h.mem_iff.2 hd),((h.map _).nodup_iff).1 hs.nd,hs.nu.perm h⟩
theorem Fns.Sel.mono {f:Fns} {P Q:Deed→Prop} {S:Nat} {D:List Deed} (hs:f.Sel P S D) (h:∀ d,P d→Q d):f.Sel Q S D :=
  ⟨fun d hd=>⟨(hs.al d hd).1,h d (hs.al d hd).2⟩,hs.nd,hs.nu⟩
theorem Fns.Sel.len {f:Fns} {P:Deed→Prop} {S:Nat} {D:List Deed} (hs:f.Sel P S D):D.length≤f.li.length:=by
  have:=hs.nd.length_le_of_subset (l₂:=List.range f.li.length) fun i hi=>by
    obtain ⟨d,hd,rfl⟩:=List.mem_map.1 hi
    exact List.mem_range.2 (hs.al d hd).1.1
  simpa using this
def Gok (g:Deed→Int→Int):Prop:=∀ d c,0≤c→c≤1000→0≤g d c∧g d c≤1001
theorem val_bd {f:Fns} (h:f.ok) {g:Deed→Int→Int} (hg:Gok g) {P:Deed→Prop} {S:Nat} {D:List Deed} (hs:f.Sel P S D):0≤f.val g D∧f.val g D≤5005:=by
  have h1:=isum_bd (m:=1001) (by decide) (l:=D.map fun d=>g d (f.cin D d)) fun x hx=>by
    obtain ⟨d,_,rfl⟩:=List.mem_map.1 hx
    have:=cin_bd h D d
    exact hg _ _ this.1 this.2
  rw [List.length_map] at h1
  have h2:=hs.len
  have h3:=h.li
  unfold Fns.val
  refine ⟨h1.1,?_⟩
  have:(1001:Int) * (D.length:Int)≤1001 * 5:=by omega
  omega
structure Spn where
  lo:Int
  hi:Int
structure Hul (A:Int→Prop) (e:Spn):Prop where
  lo:A e.lo
  hi:A e.hi
  bd:∀ x,A x→e.lo≤x∧x≤e.hi
theorem Hul.congr {A B:Int→Prop} {e:Spn} (h:Hul A e) (hAB:∀ x,A x↔B x):Hul B e:=⟨(hAB _).1 h.lo,(hAB _).1 h.hi,fun x hx=>h.bd x ((hAB x).2 hx)⟩
theorem Hul.uniq {A:Int→Prop} {e e':Spn} (h:Hul A e) (h':Hul A e'):e=e':=by
  obtain ⟨a,b⟩:=e
  obtain ⟨a',b'⟩:=e'
  have h1:=h.bd _ h'.lo
  have h2:=h.bd _ h'.hi
  have h3:=h'.bd _ h.lo
  have h4:=h'.bd _ h.hi
  simp only at h1 h2 h3 h4
  rw [show a=a' by omega,show b=b' by omega]
def Spn.add (a b:Spn):Spn:=⟨a.lo+b.lo,a.hi+b.hi⟩
def Spn.hull (a b:Spn):Spn:=⟨min a.lo b.lo,max a.hi b.hi⟩
end Go.Pv
namespace Go.Pv
open Go.Proofs Go.Am
set_option maxRecDepth 10000
structure Rec where
  ds:List Deed
  cs:List Int
def Rec.v (r:Rec):PV:=.agg (mapV (r.ds.map Deed.key) (r.ds.map fun _=>B true)::r.cs.map I)
def rec0:Rec:=⟨[],[0,0,0,0,0]⟩
def Fns.wth (f:Fns) (r:Rec) (d:Deed):Rec:=⟨d::r.ds,r.cs.set d.nu (f.cst d (f.earl r.ds d))⟩
def Rec.has (r:Rec) (n:Nat):Bool:=r.ds.any fun d=>decide (d.nu=n)
def Fns.recs (f:Fns):Nat→Rec→List Deed→List Rec
  | 0,r,left=>[r]
  | k+1,r,left=>r::left.flatMap fun d=>if r.has d.nu=true then [] else f.recs k (f.wth r d) (left.filter (bef d))
structure Fns.Rok (f:Fns) (r:Rec):Prop where
  so:r.ds.Pairwise fun a b=>bef b a=true
  nd:(r.ds.map Deed.nu).Nodup
  lt:∀ d∈r.ds,d.nu < 5
  ln:r.cs.length=5
  cs:∀ d∈r.ds,r.cs[d.nu]?=some (f.cin r.ds d)
  bd:∀ c∈r.cs,0≤c∧c≤1000
theorem rok0 (f:Fns):f.Rok rec0:=⟨List.Pairwise.nil,List.nodup_nil,fun d hd=>(by cases hd),rfl,fun d hd=>(by cases hd),fun c hc=>by
  simp only [rec0,List.mem_cons,List.not_mem_nil,or_false] at hc
  omega⟩
theorem has_iff {r:Rec} {n:Nat}:r.has n=true↔n∈r.ds.map Deed.nu:=by
  simp only [Rec.has,List.any_eq_true,decide_eq_true_eq,List.mem_map]
theorem rok_wth {f:Fns} (hf:f.ok) {r:Rec} {d:Deed} (h:f.Rok r) (hd:d.nu < 5) (hn:r.has d.nu=false) (hb:∀ o∈r.ds,bef o d=true):f.Rok (f.wth r d):=by
  have hni:d.nu ∉ r.ds.map Deed.nu:=fun hm=>by rw [has_iff.2 hm] at hn;cases hn
  refine ⟨List.Pairwise.cons hb h.so,List.nodup_cons.2 ⟨hni,h.nd⟩,fun o ho=>?_,by show (r.cs.set _ _).length=5;rw [List.length_set,h.ln],fun o ho=>?_,fun c hc=>?_⟩
  · rcases List.mem_cons.1 ho with rfl | ho
    · exact hd
    · exact h.lt o ho
  · show (r.cs.set d.nu _)[o.nu]? = some (f.cin (d :: r.ds) o)
    rcases List.mem_cons.1 ho with rfl | ho
    · rw [List.getElem?_set_self (by rw [h.ln]; exact hd)]
      unfold Fns.cin
      rw [List.filter_cons_of_neg (by rw [bef_irr];simp),List.filter_eq_self.2 hb]
    · have hne : d.nu ≠ o.nu := fun e => hni (e ▸ List.mem_map_of_mem ho)
      rw [List.getElem?_set_ne hne,h.cs o ho]
      unfold Fns.cin
      rw [List.filter_cons_of_neg (by rw [bef_asym (hb o ho)];simp)]
  · have hc' : c ∈ r.cs.set d.nu (f.cst d (f.earl r.ds d)) := hc
    rcases List.mem_or_eq_of_mem_set hc' with hc' | rfl
    · exact h.bd c hc'
    · exact cst_bd hf d _
theorem recs_rok {f : Fns} (hf : f.ok) : ∀ (k : Nat) (r : Rec) (left : List Deed), f.Rok r → (∀ d ∈ left, d.nu < 5 ∧ ∀ o ∈ r.ds, bef o d = true) → ∀ q ∈ f.recs k r left, f.Rok q ∧ ∀ d ∈ q.ds, d ∈ r.ds ∨ d ∈ left
  | 0, r, left, h, hl, q, hq => by
    simp only [Fns.recs,List.mem_singleton] at hq
    subst hq
    exact ⟨h,fun d hd=>.inl hd⟩
  | k + 1, r, left, h, hl, q, hq => by
    rw [Fns.recs] at hq
    rcases List.mem_cons.1 hq with rfl | hq
    · exact ⟨h,fun d hd=>.inl hd⟩
    · obtain ⟨d, hd, hq⟩ := List.mem_flatMap.1 hq
      split at hq
      · cases hq
      · next hn =>
        have hn:r.has d.nu=false:=by simpa using hn
        obtain ⟨h1,h2⟩:=hl d hd
        obtain ⟨p1,p2⟩:=recs_rok hf k (f.wth r d) (left.filter (bef d)) (rok_wth hf h h1 hn h2) (fun x hx=>by
          obtain ⟨x1,x2⟩:=List.mem_filter.1 hx
          refine ⟨(hl x x1).1,fun o ho=>?_⟩
          rcases List.mem_cons.1 ho with rfl | ho
          · exact x2
          · exact (hl x x1).2 o ho) q hq
        refine ⟨p1,fun x hx=>?_⟩
        rcases p2 x hx with hx | hx
        · rcases List.mem_cons.1 hx with rfl | hx
          · exact .inr hd
          · exact .inl hx
        · exact .inr (List.mem_filter.1 hx).1
theorem recs_all (f : Fns) : ∀ (k : Nat) (E : List Deed) (r : Rec) (left : List Deed), left.length ≤ k → E.Pairwise (fun a b => bef a b = true) → (∀ d ∈ E, d ∈ left) → (E.map Deed.nu).Nodup → (∀ d ∈ E, r.has d.nu = false) → ∃ q ∈ f.recs k r left, q.ds = E.reverse ++ r.ds
  | k,[],r,left,_,_,_,_,_=>⟨r,by cases k<;>simp [Fns.recs],rfl⟩
  | 0, d :: E, r, left, hk, _, hl, _, _ => by
    have:=hl d (by simp)
    rw [List.eq_nil_of_length_eq_zero (Nat.le_zero.1 hk)] at this
    cases this
  | k + 1, d :: E, r, left, hk, hs, hl, hn, hh => by
    have hd:=hl d (by simp)
    obtain ⟨s1,s2⟩:=List.pairwise_cons.1 hs
    obtain ⟨n1,n2⟩:=List.nodup_cons.1 hn
    have hlen:(left.filter (bef d)).length≤k:=by
      have h1:=List.length_filter_lt_length_iff_exists (p:=bef d) (l:=left) |>.2 ⟨d,hd,by rw [bef_irr];simp⟩
      omega
    obtain ⟨q,q1,q2⟩:=recs_all f k E (f.wth r d) (left.filter (bef d)) hlen s2 (fun x hx=>List.mem_filter.2 ⟨hl x (List.mem_cons_of_mem _ hx),s1 x hx⟩) n2 (fun x hx=>by
      have h1:=hh x (List.mem_cons_of_mem _ hx)
      cases hq:(f.wth r d).has x.nu with
      | false=>rfl
      | true =>
        have:=has_iff.1 hq
        rcases List.mem_cons.1 this with e | e
        · exact absurd (e ▸ List.mem_map_of_mem hx) n1
        · rw [has_iff.2 e] at h1;cases h1)
    refine ⟨q,?_,by rw [q2];simp [Fns.wth]⟩
    rw [Fns.recs]
    refine List.mem_cons_of_mem _ (List.mem_flatMap.2 ⟨d,hd,?_⟩)
    rw [if_neg (by rw [hh d (by simp)];simp)]
    exact q1
def insD (d:Deed):List Deed→List Deed
  | []=>[d]
  | x::l=>if bef d x=true then d::x::l else x::insD d l
def srtD:List Deed→List Deed
  | []=>[]
  | x::l=>insD x (srtD l)
theorem insD_perm (d:Deed):∀ l,(insD d l).Perm (d::l)
  | []=>List.Perm.refl _
  | x :: l => by
    rw [insD]
    split
    · exact List.Perm.refl _
    · exact ((insD_perm d l).cons x).trans (List.Perm.swap _ _ _)
theorem srtD_perm:∀ l,(srtD l).Perm l
  | []=>List.Perm.refl _
  | x::l=>(insD_perm x (srtD l)).trans ((srtD_perm l).cons x)
theorem insD_sorted {d : Deed} : ∀ {l : List Deed}, l.Pairwise (fun a b => bef a b = true) → (∀ x ∈ l, d.nu ≠ x.nu) → (insD d l).Pairwise fun a b => bef a b = true
  | [],_,_=>by simp [insD]
  | x :: l, h, hn => by
    obtain ⟨h1,h2⟩:=List.pairwise_cons.1 h
    rw [insD]
    split
    · next hb=>exact List.Pairwise.cons (fun y hy=>by
        rcases List.mem_cons.1 hy with rfl | hy
        · exact hb
        · exact bef_trans hb (h1 y hy)) h
    · next hb =>
      have hb:bef x d=true:=bef_total (hn x (by simp)) (by simpa using hb)
      refine List.Pairwise.cons (fun y hy=>?_) (insD_sorted h2 fun y hy=>hn y (List.mem_cons_of_mem _ hy))
      rcases List.mem_cons.1 ((insD_perm d l).mem_iff.1 hy) with rfl | hy
      · exact hb
      · exact h1 y hy
theorem srtD_sorted:∀ {l:List Deed},(l.map Deed.nu).Nodup→(srtD l).Pairwise fun a b=>bef a b=true
  | [],_=>List.Pairwise.nil
  | x :: l, h => by
    obtain ⟨h1,h2⟩:=List.nodup_cons.1 h
    exact insD_sorted (srtD_sorted h2) fun y hy e=>h1 (e ▸ List.mem_map_of_mem ((srtD_perm l).mem_iff.1 hy))
theorem sorted_uniq : ∀ {a b : List Deed}, a.Pairwise (fun a b => bef a b = true) → b.Pairwise (fun a b => bef a b = true) → a.Perm b → a = b
  | [],b,_,_,h=>(List.nil_perm.1 h).symm
  | x::a,[],_,_,h=>by have:=List.perm_nil.1 h;cases this
  | x :: a, y :: b, ha, hb, h => by
    obtain ⟨a1,a2⟩:=List.pairwise_cons.1 ha
    obtain ⟨b1,b2⟩:=List.pairwise_cons.1 hb
    have hxy:x=y:=by
      rcases List.mem_cons.1 (h.mem_iff.1 (List.mem_cons_self (a:=x) (l:=a))) with e | e
      · exact e
      · rcases List.mem_cons.1 (h.mem_iff.2 (List.mem_cons_self (a := y) (l := b))) with e' | e'
        · exact e'.symm
        · have h1 := a1 y e'
          have h2:=b1 x e
          rw [bef_asym h1] at h2;cases h2
    subst hxy
    rw [sorted_uniq a2 b2 (List.Perm.cons_inv h)]
def setB:List Deed→Nat
  | []=>0
  | d::D=>setB D ||| 1 * 2 ^ d.nu
theorem setB_nus:∀ D:List Deed,Nus D (setB D)
  | [],i=>by simp [setB]
  | d :: D, i => by
    rw [setB,Nat.testBit_or,Nat.one_mul,Nat.testBit_two_pow,Bool.or_eq_true,decide_eq_true_eq,setB_nus D i]
    simp only [List.mem_cons,exists_eq_or_imp]
    exact Or.comm
theorem setB_lt:∀ {D:List Deed},(∀ d∈D,d.nu < 5)→setB D < 32
  | [],_=>by decide
  | d::D,h=>Nat.or_lt_two_pow (n:=5) (setB_lt fun x hx=>h x (List.mem_cons_of_mem _ hx)) (by rw [Nat.one_mul];exact Nat.pow_lt_pow_right (by decide) (h d (by simp)))
theorem setB_perm {D E:List Deed} (h:D.Perm E):setB D=setB E:=(setB_nus D).uniq ((setB_nus E).perm h.symm)
def Fns.dds1 (f:Fns) (k r:Int) (i:Nat):List Deed:=if (f.ofc i).kd=k∧(f.ofc i).ri.toNat.testBit r.toNat=true then (List.range ((f.ofc i).hi - (f.ofc i).lo+1).toNat).map fun (j:Nat)=>⟨k,i,r,(f.ofc i).lo+j⟩ else []
def Fns.dds (f:Fns) (k r:Int):List Deed:=(List.range f.li.length).flatMap (f.dds1 k r)
theorem mem_dds {f:Fns} {k r:Int} (hr:0≤r∧r < f.n) {d:Deed}:d∈f.dds k r↔f.alw d∧(d.kd=k∧d.ri=r):=by
  unfold Fns.dds Fns.dds1 Fns.alw
  rw [List.mem_flatMap]
  constructor
  · rintro ⟨i, hi, h⟩
    split at h
    · next hc =>
      obtain ⟨j,hj,rfl⟩:=List.mem_map.1 h
      have hj:=List.mem_range.1 hj
      exact ⟨⟨List.mem_range.1 hi,hc.1,⟨hr.1,hr.2,hc.2⟩,by show (f.ofc i).lo≤(f.ofc i).lo+(j:Int);omega,by show (f.ofc i).lo+(j:Int)≤(f.ofc i).hi;omega⟩,rfl,rfl⟩
    · cases h
  · rintro ⟨⟨h1, h2, ⟨h3, h4, h5⟩, h6, h7⟩, rfl, rfl⟩
    refine ⟨d.nu,List.mem_range.2 h1,?_⟩
    rw [if_pos ⟨h2,h5⟩]
    refine List.mem_map.2 ⟨(d.ho - (f.ofc d.nu).lo).toNat,List.mem_range.2 (by omega),?_⟩
    obtain ⟨a,b,c,e⟩:=d
    simp only [Deed.mk.injEq,true_and]
    simp only at h6
    omega
def Fns.all (f:Fns) (k r:Int):List Rec:=f.recs (f.dds k r).length rec0 (f.dds k r)
theorem all_sel {f:Fns} (hf:f.ok) {k r:Int} (hr:0≤r∧r < f.n) {q:Rec} (hq:q∈f.all k r):f.Rok q∧f.Sel (fun d=>d.kd=k∧d.ri=r) (setB q.ds) q.ds:=by
  obtain ⟨h1,h2⟩:=recs_rok hf _ rec0 (f.dds k r) (rok0 f) (fun d hd=>⟨by have:=((mem_dds hr).1 hd).1.1;have:=hf.li;omega,fun o ho=>(by cases ho)⟩) q hq
  refine ⟨h1,fun d hd=>?_,h1.nd,setB_nus _⟩
  rcases h2 d hd with h | h
  · cases h
  · exact (mem_dds hr).1 h
theorem all_has {f:Fns} {k r:Int} (hr:0≤r∧r < f.n) {S:Nat} {D:List Deed} (hs:f.Sel (fun d=>d.kd=k∧d.ri=r) S D):∃ q∈f.all k r,q.ds.Perm D∧setB q.ds=S:=by
  have hp:=srtD_perm D
  obtain ⟨q,q1,q2⟩:=recs_all f (f.dds k r).length (srtD D) rec0 (f.dds k r) (Nat.le_refl _) (srtD_sorted hs.nd) (fun d hd=>(mem_dds hr).2 (hs.al d (hp.mem_iff.1 hd))) (((hp.map _).nodup_iff).2 hs.nd) fun d _=>rfl
  have hperm:q.ds.Perm D:=by
    rw [q2]
    simp only [rec0,List.append_nil]
    exact (List.reverse_perm _).trans hp
  exact ⟨q,q1,hperm,(setB_nus _).uniq (hs.nu.perm hperm.symm)⟩
def Rec.cnt (g:Deed→Int→Int) (r:Rec):Int:=isum (r.ds.map fun d=>g d (r.cs.getD d.nu 0))
theorem cnt_val {f:Fns} {g:Deed→Int→Int} {r:Rec} (h:f.Rok r):r.cnt g=f.val g r.ds:=by
  unfold Rec.cnt Fns.val
  congr 1
  refine List.map_congr_left fun d hd=>?_
  rw [List.getD,h.cs d hd]
  rfl
abbrev Prt:=Nat×Spn
def updM:List Prt→Prt→List Prt
  | [],p=>[p]
  | q::M,p=>if q.1=p.1 then (p.1,p.2.hull q.2)::M else q::updM M p
def getM (M:List Prt) (S:Nat):Option Spn:=(M.find? fun p=>decide (p.1=S)).map (·.2)
structure JM (A:Prt→Prop) (M:List Prt):Prop where
  nd:(M.map (·.1)).Nodup
  lo:∀ q∈M,∃ p,A p∧p.1=q.1∧p.2.lo=q.2.lo
  hi:∀ q∈M,∃ p,A p∧p.1=q.1∧p.2.hi=q.2.hi
  bd:∀ q∈M,∀ p,A p→p.1=q.1→q.2.lo≤p.2.lo∧p.2.hi≤q.2.hi
  ex:∀ p,A p→∃ e,(p.1,e)∈M
theorem jm0:JM (fun _=>False) []:=⟨List.nodup_nil,fun q h=>(by cases h),fun q h=>(by cases h),fun q h=>(by cases h),fun p h=>h.elim⟩
theorem updM_keys (p : Prt) : ∀ M : List Prt, ∀ x, x ∈ (updM M p).map (·.1) ↔ x ∈ M.map (·.1) ∨ x = p.1
  | [],x=>by simp [updM]
  | q :: M, x => by
    rw [updM]
    split
    · next h =>
      simp only [List.map_cons,List.mem_cons,h]
      constructor
      · rintro (e | e)
        · exact .inr e
        · exact .inl (.inr e)
      · rintro ((e | e) | e)
        · exact .inl e
        · exact .inr e
        · exact .inl e
    · simp only [List.map_cons, List.mem_cons, updM_keys p M x]
      rw [or_assoc]
theorem updM_nd (p:Prt):∀ {M:List Prt},(M.map (·.1)).Nodup→((updM M p).map (·.1)).Nodup
  | [],_=>by simp [updM]
  | q :: M, h => by
    obtain ⟨h1,h2⟩:=List.nodup_cons.1 h
    rw [updM]
    split
    · next e=>exact List.nodup_cons.2 ⟨by rw [← e];exact h1,h2⟩
    · next e =>
      refine List.nodup_cons.2 ⟨fun hm=>?_,updM_nd p h2⟩
      rcases (updM_keys p M q.1).1 hm with hm | hm
      · exact h1 hm
      · exact e hm
theorem updM_mem {p : Prt} : ∀ {M : List Prt}, (M.map (·.1)).Nodup → ∀ {q : Prt}, q ∈ updM M p → (q ∈ M ∧ q.1 ≠ p.1) ∨ (q = p ∧ p.1 ∉ M.map (·.1)) ∨ ∃ q' ∈ M, q'.1 = p.1 ∧ q = (p.1, p.2.hull q'.2)
  | [],_,q,h=>by simp only [updM,List.mem_singleton] at h;exact .inr (.inl ⟨h,by simp⟩)
  | a :: M, hn, q, h => by
    obtain ⟨h1,h2⟩:=List.nodup_cons.1 hn
    rw [updM] at h
    split at h
    · next e =>
      rcases List.mem_cons.1 h with rfl | h
      · exact .inr (.inr ⟨a,by simp,e,rfl⟩)
      · exact .inl ⟨List.mem_cons_of_mem _ h,fun c=>h1 (by show a.1∈_;rw [e,← c];exact List.mem_map_of_mem (f:=(·.1)) h)⟩
    · next e =>
      rcases List.mem_cons.1 h with rfl | h
      · exact .inl ⟨by simp,e⟩
      · rcases updM_mem h2 h with ⟨g1, g2⟩ | ⟨g1, g2⟩ | ⟨q', g1, g2, g3⟩
        · exact .inl ⟨List.mem_cons_of_mem _ g1,g2⟩
        · refine .inr (.inl ⟨g1, fun hm => ?_⟩)
          rcases List.mem_cons.1 hm with hm | hm
          · exact e hm.symm
          · exact g2 hm
        · exact .inr (.inr ⟨q',List.mem_cons_of_mem _ g1,g2,g3⟩)
theorem jm_step {A A' : Prt → Prop} {M : List Prt} {p : Prt} (h : JM A M) (hA : ∀ q, A' q ↔ A q ∨ q = p) : JM A' (updM M p) := by
  refine ⟨updM_nd p h.nd,fun q hq=>?_,fun q hq=>?_,fun q hq x hx hxq=>?_,fun x hx=>?_⟩
  · rcases updM_mem h.nd hq with ⟨g1, g2⟩ | ⟨g1, g2⟩ | ⟨q', g1, g2, g3⟩
    · obtain ⟨x, x1, x2⟩ := h.lo q g1
      exact ⟨x,(hA x).2 (.inl x1),x2⟩
    · exact ⟨p,(hA p).2 (.inr rfl),by rw [g1],by rw [g1]⟩
    · obtain ⟨x, x1, x2, x3⟩ := h.lo q' g1
      subst g3
      by_cases hc:p.2.lo≤q'.2.lo
      · exact ⟨p,(hA p).2 (.inr rfl),rfl,by show _=min _ _;omega⟩
      · exact ⟨x,(hA x).2 (.inl x1),x2.trans g2,by show _=min _ _;omega⟩
  · rcases updM_mem h.nd hq with ⟨g1, g2⟩ | ⟨g1, g2⟩ | ⟨q', g1, g2, g3⟩
    · obtain ⟨x, x1, x2⟩ := h.hi q g1
      exact ⟨x,(hA x).2 (.inl x1),x2⟩
    · exact ⟨p,(hA p).2 (.inr rfl),by rw [g1],by rw [g1]⟩
    · obtain ⟨x, x1, x2, x3⟩ := h.hi q' g1
      subst g3
      by_cases hc:q'.2.hi≤p.2.hi
      · exact ⟨p,(hA p).2 (.inr rfl),rfl,by show _=max _ _;omega⟩
      · exact ⟨x,(hA x).2 (.inl x1),x2.trans g2,by show _=max _ _;omega⟩
  · rcases updM_mem h.nd hq with ⟨g1, g2⟩ | ⟨g1, g2⟩ | ⟨q', g1, g2, g3⟩
    · rcases (hA x).1 hx with hx | rfl
      · exact h.bd q g1 x hx hxq
      · exact absurd hxq.symm g2
    · rcases (hA x).1 hx with hx | rfl
      · obtain ⟨e, he⟩ := h.ex x hx
        exact absurd (by rw [← g1,← hxq];exact List.mem_map_of_mem (f:=(·.1)) he) g2
      · rw [g1];exact ⟨Int.le_refl _,Int.le_refl _⟩
    · subst g3
      rcases (hA x).1 hx with hx | rfl
      · have := h.bd q' g1 x hx (hxq.trans g2.symm)
        exact ⟨by show min _ _≤_;omega,by show _≤max _ _;omega⟩
      · exact ⟨by show min _ _≤_;omega,by show _≤max _ _;omega⟩
  · have : x.1 ∈ (updM M p).map (·.1) := by
      rw [updM_keys]
      rcases (hA x).1 hx with hx | rfl
      · obtain ⟨e, he⟩ := h.ex x hx
        exact .inl (List.mem_map_of_mem (f:=(·.1)) he)
      · exact .inr rfl
    obtain ⟨q,hq,e⟩:=List.mem_map.1 this
    exact ⟨q.2,by rw [← e];exact hq⟩
theorem jm_congr {A A':Prt→Prop} {M:List Prt} (h:JM A M) (hA:∀ q,A' q↔A q):JM A' M :=
  ⟨h.nd,fun q hq=>let ⟨p,p1,p2⟩:=h.lo q hq;⟨p,(hA p).2 p1,p2⟩,fun q hq=>let ⟨p,p1,p2⟩:=h.hi q hq;⟨p,(hA p).2 p1,p2⟩,fun q hq p hp=>h.bd q hq p ((hA p).1 hp),fun p hp=>h.ex p ((hA p).1 hp)⟩
end Go.Pv
namespace Go.Pv
open Go.Proofs Go.Am
set_option maxRecDepth 10000
theorem and_zero {a b:Nat}:a &&& b=0↔∀ i,¬ (a.testBit i=true∧b.testBit i=true):=by
  constructor
  · intro h i ⟨h1, h2⟩
    have:(a &&& b).testBit i=false:=by rw [h];simp
    rw [Nat.testBit_and,h1,h2] at this
    cases this
  · intro h
    refine Nat.eq_of_testBit_eq fun i=>?_
    rw [Nat.testBit_and,Nat.zero_testBit]
    cases ha:a.testBit i<;>cases hb:b.testBit i<;>first | rfl | exact absurd ⟨ha,hb⟩ (h i)
theorem sel_join {f:Fns} {P Q:Deed→Prop} {S T:Nat} {D E:List Deed} (h1:f.Sel P S D) (h2:f.Sel Q T E) (hST:S &&& T=0):f.Sel (fun d=>P d∨Q d) (S ||| T) (D++E):=by
  refine ⟨fun d hd=>?_,?_,fun i=>?_⟩
  · rcases List.mem_append.1 hd with hd | hd
    · exact ⟨(h1.al d hd).1,.inl (h1.al d hd).2⟩
    · exact ⟨(h2.al d hd).1,.inr (h2.al d hd).2⟩
  · rw [List.map_append, List.nodup_append]
    refine ⟨h1.nd,h2.nd,fun a ha b hb e=>?_⟩
    subst e
    obtain ⟨d,d1,d2⟩:=List.mem_map.1 ha
    obtain ⟨d',d3,d4⟩:=List.mem_map.1 hb
    exact and_zero.1 hST a ⟨(h1.nu a).2 ⟨d,d1,d2⟩,(h2.nu a).2 ⟨d',d3,d4⟩⟩
  · rw [Nat.testBit_or, Bool.or_eq_true, h1.nu i, h2.nu i]
    constructor
    · rintro (⟨d, d1, d2⟩ | ⟨d, d1, d2⟩)
      · exact ⟨d,List.mem_append_left _ d1,d2⟩
      · exact ⟨d,List.mem_append_right _ d1,d2⟩
    · rintro ⟨d, d1, d2⟩
      rcases List.mem_append.1 d1 with d1 | d1
      · exact .inl ⟨d,d1,d2⟩
      · exact .inr ⟨d,d1,d2⟩
theorem filter_perm {α:Type} (p:α→Bool):∀ l:List α,l.Perm (l.filter p++l.filter fun x=>!p x)
  | []=>List.Perm.refl _
  | x :: l => by
    cases h:p x with
    | true=>simpa [List.filter_cons,h] using (filter_perm p l).cons x
    | false =>
      simp only [List.filter_cons,h,Bool.not_false,if_true,Bool.false_eq_true,if_false]
      exact ((filter_perm p l).cons x).trans List.perm_middle.symm
theorem nodup_filter {l:List Deed} (p:Deed→Bool) (h:(l.map Deed.nu).Nodup):((l.filter p).map Deed.nu).Nodup:=h.sublist (List.filter_sublist.map _)
theorem sel_split {f : Fns} {P Q R : Deed → Prop} (p : Deed → Bool) (hP : ∀ d, R d → p d = true → P d) (hQ : ∀ d, R d → p d = false → Q d) {S : Nat} {D : List Deed} (h : f.Sel R S D) :
    f.Sel P (setB (D.filter p)) (D.filter p)∧f.Sel Q (setB (D.filter fun d=>!p d)) (D.filter fun d=>!p d)∧setB (D.filter p) &&& setB (D.filter fun d=>!p d)=0∧setB (D.filter p) ||| setB (D.filter fun d=>!p d)=S:=by
  have hp:=filter_perm p D
  refine ⟨⟨fun d hd=>?_,nodup_filter p h.nd,setB_nus _⟩,⟨fun d hd=>?_,nodup_filter _ h.nd,setB_nus _⟩,?_,?_⟩
  · obtain ⟨d1, d2⟩ := List.mem_filter.1 hd
    exact ⟨(h.al d d1).1,hP d (h.al d d1).2 d2⟩
  · obtain ⟨d1, d2⟩ := List.mem_filter.1 hd
    exact ⟨(h.al d d1).1,hQ d (h.al d d1).2 (by simpa using d2)⟩
  · rw [and_zero]
    rintro i ⟨h1,h2⟩
    obtain ⟨d,d1,d2⟩:=(setB_nus _ i).1 h1
    obtain ⟨d',d3,d4⟩:=(setB_nus _ i).1 h2
    have hn:=((hp.map Deed.nu).nodup_iff).1 h.nd
    rw [List.map_append,List.nodup_append] at hn
    exact hn.2.2 d.nu (List.mem_map_of_mem d1) d'.nu (List.mem_map_of_mem d3) (d2.trans d4.symm)
  · refine Nat.eq_of_testBit_eq fun i => ?_
    have:(setB (D.filter p) ||| setB (D.filter fun d=>!p d)).testBit i=true↔S.testBit i=true:=by
      rw [Nat.testBit_or,Bool.or_eq_true,setB_nus _ i,setB_nus _ i,h.nu i]
      constructor
      · rintro (⟨d,d1,d2⟩ | ⟨d,d1,d2⟩)<;>exact ⟨d,(List.mem_filter.1 d1).1,d2⟩
      · rintro ⟨d, d1, d2⟩
        cases hpd:p d with
        | true=>exact .inl ⟨d,List.mem_filter.2 ⟨d1,hpd⟩,d2⟩
        | false=>exact .inr ⟨d,List.mem_filter.2 ⟨d1,by rw [hpd];rfl⟩,d2⟩
    exact Bool.eq_iff_iff.2 this
structure Fns.AllM (f:Fns) (g:Deed→Int→Int) (P:Deed→Prop) (M:List Prt):Prop where
  nd:(M.map (·.1)).Nodup
  hu:∀ q∈M,Hul (fun x=>∃ D,f.Sel P q.1 D∧f.val g D=x) q.2
  ex:∀ S D,f.Sel P S D→∃ e,(S,e)∈M
theorem allM_own {f:Fns} (hf:f.ok) (g:Deed→Int→Int) {k r:Int} (hr:0≤r∧r < f.n) {M:List Prt} (h:JM (fun p=>∃ q∈f.all k r,p=(setB q.ds,⟨q.cnt g,q.cnt g⟩)) M):f.AllM g (fun d=>d.kd=k∧d.ri=r) M:=by
  refine ⟨h.nd,fun q hq=>⟨?_,?_,fun x hx=>?_⟩,fun S D hs=>?_⟩
  · obtain ⟨p, ⟨c, c1, rfl⟩, p2, p3⟩ := h.lo q hq
    obtain ⟨h1,h2⟩:=all_sel hf hr c1
    simp only at p2 p3
    exact ⟨c.ds,by rw [← p2];exact h2,by rw [← p3,cnt_val h1]⟩
  · obtain ⟨p, ⟨c, c1, rfl⟩, p2, p3⟩ := h.hi q hq
    obtain ⟨h1,h2⟩:=all_sel hf hr c1
    simp only at p2 p3
    exact ⟨c.ds,by rw [← p2];exact h2,by rw [← p3,cnt_val h1]⟩
  · obtain ⟨D, hD, rfl⟩ := hx
    obtain ⟨c,c1,c2,c3⟩:=all_has hr hD
    have:=h.bd q hq _ ⟨c,c1,rfl⟩ c3
    rw [cnt_val (all_sel hf hr c1).1,val_perm f g c2] at this
    exact this
  · obtain ⟨c, c1, c2, c3⟩ := all_has hr hs
    obtain ⟨e,he⟩:=h.ex _ ⟨c,c1,rfl⟩
    exact ⟨e,by rw [← c3];exact he⟩
theorem allM_zero (f:Fns) (g:Deed→Int→Int) {P:Deed→Prop} (hP:∀ d,f.alw d→¬ P d):f.AllM g P [(0,⟨0,0⟩)]:=by
  have hnil:∀ S D,f.Sel P S D→D=[]∧S=0:=fun S D hs=>by
    have hD:D=[]:=by
      cases D with
      | nil=>rfl
      | cons d D=>exact absurd (hs.al d (by simp)).2 (hP d (hs.al d (by simp)).1)
    subst hD
    exact ⟨rfl,hs.nu.uniq (setB_nus [])⟩
  have h0:f.Sel P 0 []:=⟨fun d hd=>(by cases hd),List.nodup_nil,setB_nus []⟩
  refine ⟨by simp,fun q hq=>?_,fun S D hs=>⟨⟨0,0⟩,by rw [(hnil S D hs).2];simp⟩⟩
  simp only [List.mem_singleton] at hq
  subst hq
  refine ⟨⟨[],h0,rfl⟩,⟨[],h0,rfl⟩,fun x hx=>?_⟩
  obtain ⟨D,hD,rfl⟩:=hx
  rw [(hnil _ D hD).1]
  exact ⟨Int.le_refl _,Int.le_refl _⟩
def Cpl (M1 M2:List Prt) (p:Prt):Prop:=∃ a∈M1,∃ b∈M2,a.1 &&& b.1=0∧p=(a.1 ||| b.1,a.2.add b.2)
theorem allM_join {f:Fns} {g:Deed→Int→Int} {P Q R:Deed→Prop} (p:Deed→Bool) (hP:∀ d,R d→p d=true→P d) (hQ:∀ d,R d→p d=false→Q d) (hR:∀ d,P d∨Q d→R d) (hap:∀ a b,P a→Q b→¬ (a.kd=b.kd∧a.ri=b.ri))
    {M1 M2 M:List Prt} (h1:f.AllM g P M1) (h2:f.AllM g Q M2) (h:JM (Cpl M1 M2) M):f.AllM g R M:=by
  have put:∀ {S T:Nat} {D E:List Deed},f.Sel P S D→f.Sel Q T E→S &&& T=0→f.Sel R (S ||| T) (D++E)∧f.val g (D++E)=f.val g D+f.val g E:=fun hD hE hST =>
    ⟨(sel_join hD hE hST).mono hR,val_app f g fun a ha b hb=>hap a b (hD.al a ha).2 (hE.al b hb).2⟩
  have cut:∀ {S:Nat} {D:List Deed},f.Sel R S D→∃ a∈M1,∃ b∈M2,a.1 &&& b.1=0∧a.1 ||| b.1=S∧a.2.lo+b.2.lo≤f.val g D∧f.val g D≤a.2.hi+b.2.hi:=fun {S D} hD=>by
    obtain ⟨s1,s2,s3,s4⟩:=sel_split (P:=P) (Q:=Q) p hP hQ hD
    obtain ⟨e1,m1⟩:=h1.ex _ _ s1
    obtain ⟨e2,m2⟩:=h2.ex _ _ s2
    have b1:=(h1.hu _ m1).bd _ ⟨_,s1,rfl⟩
    have b2:=(h2.hu _ m2).bd _ ⟨_,s2,rfl⟩
    have hv:f.val g D=f.val g (D.filter p)+f.val g (D.filter fun d=>!p d):=by
      rw [val_perm f g (filter_perm p D)]
      exact val_app f g fun a ha b hb=>hap a b (s1.al a ha).2 (s2.al b hb).2
    simp only at b1 b2
    exact ⟨_,m1,_,m2,s3,s4,by show e1.lo+e2.lo≤_;omega,by show _≤e1.hi+e2.hi;omega⟩
  refine ⟨h.nd,fun q hq=>⟨?_,?_,fun x hx=>?_⟩,fun S D hs=>?_⟩
  · obtain ⟨_, ⟨a, ha, b, hb, hab, rfl⟩, p2, p3⟩ := h.lo q hq
    obtain ⟨D,hD,vD⟩:=(h1.hu a ha).lo
    obtain ⟨E,hE,vE⟩:=(h2.hu b hb).lo
    obtain ⟨q1,q2⟩:=put hD hE hab
    simp only at p2 p3
    exact ⟨D++E,by rw [← p2];exact q1,by rw [← p3,q2,vD,vE];rfl⟩
  · obtain ⟨_, ⟨a, ha, b, hb, hab, rfl⟩, p2, p3⟩ := h.hi q hq
    obtain ⟨D,hD,vD⟩:=(h1.hu a ha).hi
    obtain ⟨E,hE,vE⟩:=(h2.hu b hb).hi
    obtain ⟨q1,q2⟩:=put hD hE hab
    simp only at p2 p3
    exact ⟨D++E,by rw [← p2];exact q1,by rw [← p3,q2,vD,vE];rfl⟩
  · obtain ⟨D, hD, rfl⟩ := hx
    obtain ⟨a,ha,b,hb,c1,c2,c3,c4⟩:=cut hD
    have:=h.bd q hq _ ⟨a,ha,b,hb,c1,rfl⟩ c2
    simp only [Spn.add] at this
    omega
  · obtain ⟨a, ha, b, hb, c1, c2, _⟩ := cut hs
    obtain ⟨e,he⟩:=h.ex _ ⟨a,ha,b,hb,c1,rfl⟩
    exact ⟨e,by rw [← c2];exact he⟩
theorem allM_bd {f:Fns} (hf:f.ok) {g:Deed→Int→Int} (hg:Gok g) {P:Deed→Prop} {M:List Prt} (h:f.AllM g P M) {q:Prt} (hq:q∈M):(0≤q.2.lo∧q.2.lo≤5005)∧(0≤q.2.hi∧q.2.hi≤5005)∧q.1 < 32:=by
  obtain ⟨D,hD,e1⟩:=(h.hu q hq).lo
  obtain ⟨E,hE,e2⟩:=(h.hu q hq).hi
  have b1:=val_bd hf hg hD
  have b2:=val_bd hf hg hE
  rw [e1] at b1
  rw [e2] at b2
  refine ⟨b1,b2,?_⟩
  rw [hD.nu.uniq (setB_nus D)]
  exact setB_lt fun d hd=>Nat.lt_of_lt_of_le (hD.al d hd).1.1 hf.li
def Fns.ofS (f:Fns) (p:Int→Bool):Nat→Nat
  | 0=>0
  | i+1=>if p (f.ofc i).kd=true then f.ofS p i ||| 1 * 2 ^ i else f.ofS p i
theorem ofS_bit (f : Fns) (p : Int → Bool) : ∀ n i, (f.ofS p n).testBit i = true ↔ i < n ∧ p (f.ofc i).kd = true
  | 0,i=>by simp [Fns.ofS]
  | n + 1, i => by
    rw [Fns.ofS]
    split
    · next h =>
      rw [Nat.testBit_or,Nat.one_mul,Nat.testBit_two_pow,Bool.or_eq_true,decide_eq_true_eq,ofS_bit f p n i]
      constructor
      · rintro (⟨h1, h2⟩ | rfl)
        · exact ⟨by omega,h2⟩
        · exact ⟨by omega,h⟩
      · rintro ⟨h1, h2⟩
        by_cases hi:n=i
        · exact .inr hi
        · exact .inl ⟨by omega,h2⟩
    · next h =>
      rw [ofS_bit f p n i]
      constructor
      · rintro ⟨h1,h2⟩;exact ⟨by omega,h2⟩
      · rintro ⟨h1, h2⟩
        refine ⟨?_,h2⟩
        rcases (by omega:i < n∨i=n) with h3 | rfl
        · exact h3
        · exact absurd h2 h
theorem ofS_lt (f:Fns) (p:Int→Bool):∀ n,n≤5→f.ofS p n < 32
  | 0,_=>by show 0 < 32;decide
  | n + 1, h => by
    have ih:=ofS_lt f p n (by omega)
    rw [Fns.ofS]
    split
    · exact Nat.or_lt_two_pow (n:=5) ih (by rw [Nat.one_mul];exact Nat.pow_lt_pow_right (by decide) (by omega))
    · exact ih
abbrev Fns.kin (f:Fns) (p:Int→Bool):Nat:=f.ofS p f.li.length
def Fns.KHul (f:Fns) (g:Deed→Int→Int) (p:Int→Bool) (e:Spn):Prop:=Hul (fun x=>∃ D,f.Sel (fun d=>p d.kd=true) (f.kin p) D∧f.val g D=x) e
theorem khul_zero (f:Fns) (g:Deed→Int→Int) {p:Int→Bool} (hp:∀ i,i < f.li.length→p (f.ofc i).kd=false):f.KHul g p ⟨0,0⟩:=by
  have hk:f.kin p=0:=by
    refine Nat.eq_of_testBit_eq fun i=>?_
    rw [Nat.zero_testBit]
    cases h:(f.kin p).testBit i with
    | false=>rfl
    | true =>
      obtain ⟨h1,h2⟩:=(ofS_bit f p _ i).1 h
      rw [hp i h1] at h2;cases h2
  have h:=(allM_zero f g (P:=fun d=>p d.kd=true) fun d hd hpd=>by rw [← hd.2.1,hp _ hd.1] at hpd;cases hpd).hu _ (List.mem_singleton_self _)
  unfold Fns.KHul
  rw [hk]
  exact h
theorem khul_add {f : Fns} {g : Deed → Int → Int} {p q r : Int → Bool} {a b : Spn} (hr : ∀ k, r k = (p k || q k)) (hpq : ∀ k, ¬ (p k = true ∧ q k = true)) (h1 : f.KHul g p a) (h2 : f.KHul g q b) : f.KHul g r (a.add b) := by
  have hz:f.kin p &&& f.kin q=0:=and_zero.2 fun i ⟨h1,h2⟩=>hpq _ ⟨((ofS_bit f p _ i).1 h1).2,((ofS_bit f q _ i).1 h2).2⟩
  have ho:f.kin p ||| f.kin q=f.kin r:=Nat.eq_of_testBit_eq fun i=>Bool.eq_iff_iff.2 (by
    rw [Nat.testBit_or,Bool.or_eq_true,ofS_bit,ofS_bit,ofS_bit,hr,Bool.or_eq_true]
    constructor
    · rintro (⟨h1, h2⟩ | ⟨h1, h2⟩)
      · exact ⟨h1,.inl h2⟩
      · exact ⟨h1,.inr h2⟩
    · rintro ⟨h1, h2 | h2⟩
      · exact .inl ⟨h1,h2⟩
      · exact .inr ⟨h1,h2⟩)
  have hap:∀ a b:Deed,p a.kd=true→q b.kd=true→¬ (a.kd=b.kd∧a.ri=b.ri):=fun a b h1 h2 e=>hpq b.kd ⟨by rw [← e.1];exact h1,h2⟩
  have put:∀ {D E:List Deed},f.Sel (fun d=>p d.kd=true) (f.kin p) D→f.Sel (fun d=>q d.kd=true) (f.kin q) E→f.Sel (fun d=>r d.kd=true) (f.kin r) (D++E)∧f.val g (D++E)=f.val g D+f.val g E:=fun hD hE =>
    ⟨by rw [← ho];exact (sel_join hD hE hz).mono fun d hd=>by rw [hr,Bool.or_eq_true];exact hd,val_app f g fun a ha b hb=>hap a b (hD.al a ha).2 (hE.al b hb).2⟩
  refine ⟨?_,?_,fun x hx=>?_⟩
  · obtain ⟨D, hD, vD⟩ := h1.lo
    obtain ⟨E,hE,vE⟩:=h2.lo
    obtain ⟨q1,q2⟩:=put hD hE
    exact ⟨_,q1,by rw [q2,vD,vE];rfl⟩
  · obtain ⟨D, hD, vD⟩ := h1.hi
    obtain ⟨E,hE,vE⟩:=h2.hi
    obtain ⟨q1,q2⟩:=put hD hE
    exact ⟨_,q1,by rw [q2,vD,vE];rfl⟩
  · obtain ⟨D, hD, rfl⟩ := hx
    have hq:∀ d:Deed,r d.kd=true→p d.kd=false→q d.kd=true:=fun d h1 h2=>by rw [hr,h2,Bool.false_or] at h1;exact h1
    obtain ⟨s1,s2,s3,s4⟩:=sel_split (P:=fun d=>p d.kd=true) (Q:=fun d=>q d.kd=true) (fun d=>p d.kd) (fun d _ h=>h) hq hD
    have k1:setB (D.filter fun d=>p d.kd)=f.kin p:=Nat.eq_of_testBit_eq fun i=>Bool.eq_iff_iff.2 (by
      rw [setB_nus _ i,ofS_bit]
      constructor
      · rintro ⟨d, d1, rfl⟩
        have:=(s1.al d d1)
        exact ⟨this.1.1,by rw [this.1.2.1];exact this.2⟩
      · rintro ⟨i1, i2⟩
        obtain ⟨d,d1,rfl⟩:=(hD.nu i).1 ((ofS_bit f r _ i).2 ⟨i1,by rw [hr,i2];rfl⟩)
        exact ⟨d,List.mem_filter.2 ⟨d1,by rw [← (hD.al d d1).1.2.1];exact i2⟩,rfl⟩)
    have k2:setB (D.filter fun d=>!p d.kd)=f.kin q:=Nat.eq_of_testBit_eq fun i=>Bool.eq_iff_iff.2 (by
      rw [setB_nus _ i,ofS_bit]
      constructor
      · rintro ⟨d, d1, rfl⟩
        have:=(s2.al d d1)
        exact ⟨this.1.1,by rw [this.1.2.1];exact this.2⟩
      · rintro ⟨i1, i2⟩
        obtain ⟨d,d1,rfl⟩:=(hD.nu i).1 ((ofS_bit f r _ i).2 ⟨i1,by rw [hr,i2,Bool.or_true]⟩)
        refine ⟨d,List.mem_filter.2 ⟨d1,?_⟩,rfl⟩
        rw [← (hD.al d d1).1.2.1]
        cases hp:p (f.ofc d.nu).kd with
        | false=>rfl
        | true=>exact absurd ⟨hp,i2⟩ (hpq _))
    rw [k1] at s1
    rw [k2] at s2
    have b1:=h1.bd _ ⟨_,s1,rfl⟩
    have b2:=h2.bd _ ⟨_,s2,rfl⟩
    have hv:f.val g D=f.val g (D.filter fun d=>p d.kd)+f.val g (D.filter fun d=>!p d.kd):=by
      rw [val_perm f g (filter_perm (fun d=>p d.kd) D)]
      exact val_app f g fun a ha b hb=>hap a b (s1.al a ha).2 (s2.al b hb).2
    simp only [Spn.add]
    omega
structure Fns.Tru (f:Fns) (T:List Deed):Prop where
  ln:T.length=f.li.length
  at':∀ i (h:i < T.length),T[i].nu=i∧f.alw T[i]
theorem tru_nus {f:Fns} {T:List Deed} (h:f.Tru T):T.map Deed.nu=List.range f.li.length:=by
  refine List.ext_getElem (by simp [h.ln]) fun i h1 h2=>?_
  simp only [List.getElem_map,List.getElem_range]
  exact (h.at' i (by simpa using h1)).1
theorem tru_sel {f:Fns} {T:List Deed} (h:f.Tru T):f.Sel (fun d=>(fun _:Int=>true) d.kd=true) (f.kin fun _=>true) T:=by
  refine ⟨fun d hd=>?_,by rw [tru_nus h];exact List.nodup_range,fun i=>?_⟩
  · obtain ⟨i, hi, rfl⟩ := List.getElem_of_mem hd
    exact ⟨(h.at' i hi).2,rfl⟩
  · rw [ofS_bit]
    have:(∃ d∈T,d.nu=i)↔i∈T.map Deed.nu:=by rw [List.mem_map]
    rw [this,tru_nus h,List.mem_range]
    simp
theorem sel_tru {f : Fns} {D : List Deed} (h : f.Sel (fun d => (fun _ : Int => true) d.kd = true) (f.kin fun _ => true) D) : ∃ T, f.Tru T ∧ T.Perm D := by
  have hex:∀ i,i < f.li.length→∃ d∈D,d.nu=i:=fun i hi=>(h.nu i).1 ((ofS_bit f _ _ i).2 ⟨hi,rfl⟩)
  let c:Nat→Deed:=fun i=>(D.find? fun d=>decide (d.nu=i)).getD ⟨0,0,0,0⟩
  have hc:∀ i,i < f.li.length→c i∈D∧(c i).nu=i:=fun i hi=>by
    obtain ⟨d,d1,d2⟩:=hex i hi
    cases hq:D.find? (fun d=>decide (d.nu=i)) with
    | none =>
      have:=List.find?_eq_none.1 hq d d1
      simp [d2] at this
    | some x =>
      have hx:c i=x:=by simp only [c,hq,Option.getD_some]
      rw [hx]
      exact ⟨List.mem_of_find?_eq_some hq,by simpa using List.find?_some hq⟩
  have hT:f.Tru ((List.range f.li.length).map c):=by
    refine ⟨by simp,fun i hi=>?_⟩
    have hi':i < f.li.length:=by simpa using hi
    simp only [List.getElem_map,List.getElem_range]
    exact ⟨(hc i hi').2,(h.al _ (hc i hi').1).1⟩
  refine ⟨_,hT,?_⟩
  have hnd:∀ {l:List Deed},(l.map Deed.nu).Nodup→l.Nodup:=fun {l} hl=>by
    induction l with
    | nil=>exact List.nodup_nil
    | cons a l ih =>
      obtain ⟨h1,h2⟩:=List.nodup_cons.1 hl
      exact List.nodup_cons.2 ⟨fun hm=>h1 (List.mem_map_of_mem hm),ih h2⟩
  refine (List.perm_ext_iff_of_nodup (hnd (by rw [tru_nus hT];exact List.nodup_range)) (hnd h.nd)).2 fun d=>⟨fun hd=>?_,fun hd=>?_⟩
  · obtain ⟨i, hi, rfl⟩ := List.mem_map.1 hd
    exact (hc i (List.mem_range.1 hi)).1
  · have hlt := (h.al d hd).1.1
    refine List.mem_map.2 ⟨d.nu,List.mem_range.2 hlt,?_⟩
    obtain ⟨h1,h2⟩:=hc d.nu hlt
    have:∀ {l:List Deed},(l.map Deed.nu).Nodup→∀ a∈l,∀ b∈l,a.nu=b.nu→a=b:=fun {l} hl=>by
      induction l with
      | nil=>intro a ha;cases ha
      | cons x l ih =>
        obtain ⟨g1,g2⟩:=List.nodup_cons.1 hl
        intro a ha b hb e
        rcases List.mem_cons.1 ha with u1 | u1<;>rcases List.mem_cons.1 hb with u2 | u2
        · rw [u1,u2]
        · exact absurd (by rw [← u1,e];exact List.mem_map_of_mem u2) g1
        · exact absurd (by rw [← u2,← e];exact List.mem_map_of_mem u1) g1
        · exact ih g2 a u1 b u2 e
    exact this h.nd _ h1 _ hd h2
def Fns.THul (f:Fns) (g:Deed→Int→Int) (e:Spn):Prop:=Hul (fun x=>∃ T,f.Tru T∧f.val g T=x) e
theorem thul_of {f:Fns} {g:Deed→Int→Int} {e:Spn} (h:f.KHul g (fun _=>true) e):f.THul g e :=
  Hul.congr h fun x=>⟨fun ⟨D,hD,e⟩=>let ⟨T,hT,hp⟩:=sel_tru hD;⟨T,hT,by rw [val_perm f g hp];exact e⟩,fun ⟨T,hT,e⟩=>⟨T,tru_sel hT,e⟩⟩
theorem kin_congr {f:Fns} {p q:Int→Bool} (h:∀ i,i < f.li.length→p (f.ofc i).kd=q (f.ofc i).kd):f.kin p=f.kin q :=
  Nat.eq_of_testBit_eq fun i=>Bool.eq_iff_iff.2 (by
    rw [ofS_bit,ofS_bit]
    exact ⟨fun ⟨h1,h2⟩=>⟨h1,by rw [← h i h1];exact h2⟩,fun ⟨h1,h2⟩=>⟨h1,by rw [h i h1];exact h2⟩⟩)
theorem khul_congr {f:Fns} {g:Deed→Int→Int} {p q:Int→Bool} {e:Spn} (h:∀ i,i < f.li.length→p (f.ofc i).kd=q (f.ofc i).kd) (hp:f.KHul g p e):f.KHul g q e:=by
  unfold Fns.KHul at *
  rw [← kin_congr h]
  refine Hul.congr hp fun x=>?_
  have key:∀ {P Q:Int→Bool} {S:Nat} {D:List Deed},(∀ i,i < f.li.length→P (f.ofc i).kd=Q (f.ofc i).kd)→f.Sel (fun d=>P d.kd=true) S D→f.Sel (fun d=>Q d.kd=true) S D:=fun {P Q S D} hPQ hD =>
    ⟨fun d hd=>⟨(hD.al d hd).1,by have:=hD.al d hd;rw [← this.1.2.1,← hPQ _ this.1.1,this.1.2.1];exact this.2⟩,hD.nd,hD.nu⟩
  exact ⟨fun ⟨D,hD,e⟩=>⟨D,key h hD,e⟩,fun ⟨D,hD,e⟩=>⟨D,key (fun i hi=>(h i hi).symm) hD,e⟩⟩
theorem who {f:Fns} (hf:f.ok) {i:Nat} (hi:i < f.li.length):∃ d,f.alw d∧d.nu=i:=by
  have hv:=hf.lv (f.ofc i) (by rw [Fns.ofc_at hi];exact List.getElem_mem hi)
  obtain ⟨h1,⟨h2,h3⟩,h4⟩:=hv
  have hne:(f.ofc i).ri.toNat≠0:=by omega
  obtain ⟨r,hr⟩:=Nat.exists_testBit_of_ne_zero hne
  have hpow:((2:Int) ^ f.n.toNat)=((2 ^ f.n.toNat:Nat):Int):=by push_cast;rfl
  rw [hpow] at h3
  have hlt:(f.ofc i).ri.toNat < 2 ^ f.n.toNat:=by omega
  have hrn:r < f.n.toNat:=by
    rcases Nat.lt_or_ge r f.n.toNat with h | h
    · exact h
    · rw [Nat.testBit_lt_two_pow (Nat.lt_of_lt_of_le hlt (Nat.pow_le_pow_right (by decide) h))] at hr;cases hr
  refine ⟨⟨(f.ofc i).kd,i,r,(f.ofc i).lo⟩,⟨hi,rfl,⟨by show (0:Int)≤(r:Int);omega,by show (r:Int) < f.n;have:=hf.n;omega,by show (f.ofc i).ri.toNat.testBit ((r:Int).toNat)=true;rw [Int.toNat_natCast];exact hr⟩,Int.le_refl _,h4.2.1⟩,rfl⟩
theorem sel_some {f : Fns} (hf : f.ok) (p : Int → Bool) : ∀ n, n ≤ f.li.length → ∃ D, f.Sel (fun d => p d.kd = true) (f.ofS p n) D
  | 0,_=>⟨[],fun d hd=>(by cases hd),List.nodup_nil,setB_nus []⟩
  | n + 1, h => by
    obtain ⟨D,hD⟩:=sel_some hf p n (by omega)
    rw [Fns.ofS]
    split
    · next hp =>
      obtain ⟨d,hd,rfl⟩:=who hf (i:=n) (by omega)
      have h1:f.Sel (fun d=>p d.kd=true) (1 * 2 ^ d.nu) [d]:=by
        refine ⟨fun x hx=>?_,by simp,fun i=>?_⟩
        · rw [List.mem_singleton.1 hx];exact ⟨hd,by rw [← hd.2.1];exact hp⟩
        · rw [Nat.one_mul,Nat.testBit_two_pow];simp
      refine ⟨D++[d],(sel_join hD h1 ?_).mono fun x hx=>hx.elim id id⟩
      rw [and_zero]
      rintro i ⟨i1,i2⟩
      rw [Nat.one_mul,Nat.testBit_two_pow,decide_eq_true_eq] at i2
      have:=((ofS_bit f p _ i).1 i1).1
      omega
    · exact ⟨D,hD⟩
end Go.Pv
namespace Go.Pv
open Go.Am Go.RowKit
class Cnd (q:Bool) (p1 p2:outParam Prop):Prop where
 t:q=true→p1
 f:q=false→p2
instance (priority:=100) {q:Bool}:Cnd q (q=true) (q=false):=⟨id,id⟩
instance (priority:=500) {q:Bool}:Cnd (!q) (q=false) (q=true):=⟨fun h=>by simpa using h,fun h=>by simpa using h⟩
instance (priority:=1000) {p:Prop} [Decidable p]:Cnd (decide p) p (¬p):=⟨of_decide_eq_true,of_decide_eq_false⟩
instance (priority:=1000) {p:Prop} [Decidable p]:Cnd (!decide p) (¬p) p:=⟨fun h=>by simpa using h,fun h=>by simpa using h⟩
section
variable {C:Cx} {F:EQ} {X:EX} {k:List KI} {e:EL} {ds:List Nat} {h:PH}
theorem rC {c:Operand} {x y:Code} {q:Bool} {p1 p2:Prop} [hq:Cnd q p1 p2] (hc:pev (lget e) c=some (B q)) (hx:p1→Run C F X (.c x::k) e ds h) (hy:p2→Run C F X (.c y::k) e ds h):Run C F X (.c (.cond c x y)::k) e ds h :=
 Run.cond hc (fun h=>hx (hq.t h)) fun h=>hy (hq.f h)
theorem Reg.splitX {w q:Bool} {j dj:Nat} {d:Option Nat} {op:Op} {type:TypeId} {pos:String} {after:Array Edge} {all os:List Oper} {p1 p2:Prop} [hq:Cnd q p1 p2] (hj:gdst all j=some dj) (hv:lget e dj=some (B q))
  (h1:p1→Reg C F X k all ({ dst:=d,op,type,pos,after,guard:=some (j,w) }::os) ((dj,B true)::e) ds h)
  (h2:p2→Reg C F X k all ({ dst:=d,op,type,pos,after,guard:=some (j,w) }::os) ((dj,B false)::e) ds h):Reg C F X k all ({ dst:=d,op,type,pos,after,guard:=some (j,w) }::os) e ds h :=
 Reg.split hj hv (fun h=>h1 (hq.t h)) fun h=>h2 (hq.f h)
theorem Dra.splitX {w q:Bool} {i j dj:Nat} {b:Bool} {o:Oper} {all:List Oper} {od:List (Nat×Bool)} {p1 p2:Prop} [hq:Cnd q p1 p2] (hi:nthK all i=some o) (hg:o.guard=some (j,w)) (hj:gdst all j=some dj) (hv:lget e dj=some (B q))
  (h1:p1→Dra C F X k all ((i,b)::od) ((dj,B true)::e) ds h) (h2:p2→Dra C F X k all ((i,b)::od) ((dj,B false)::e) ds h):Dra C F X k all ((i,b)::od) e ds h :=
 Dra.split' hi hg hj hv (fun h=>h1 (hq.t h)) fun h=>h2 (hq.f h)
end
end Go.Pv
