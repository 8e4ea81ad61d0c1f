/- Parts of the proof: Pv56, Pv42, Pv57, Pv58, Pv44, Pv45 -/
import Derived.Test.YtejnfigkngkhjaaP12
import Derived.Test.YtejnfigkngkhjaaP11
import Derived.WalkKit
import Derived.ProofKit
import Derived.OpenShut
set_option linter.unusedVariables false
set_option linter.unusedSimpArgs false
set_option linter.unusedSectionVars false
namespace Go.Pv
open Go.Am Go.RowKit
section
variable {C:Cx} {F:EQ} {X:EX} {k:List KI} {e:EL} {ds:List Nat} {h:PH}
theorem Run.weakT {c:Code} {d:Nat} {tl:Tail} {vs:List PV} (hd:lget e d=some (.sl tl vs)) (hr:Run C F X (.c c::k) ((d,.sl .no vs)::e) ds h):Run C F X (.c c::k) e ds h:=by
 refine Run.ghost (fun t ht=>⟨t.set d (.sl .no vs),?_,?_⟩) hr
 ·intro j u hj
  simp only [lget] at hj
  simp only [T.get_set]
  split at hj
  ·next hb=>rw [if_pos (Nat.eq_of_beq_eq_true hb)];exact hj
  ·next hb =>
   rw [if_neg (fun c=>by subst c;simp at hb)]
   exact ht j u hj
 ·intro w0 s arr a1 a2 a3
  refine ⟨s,rfl,a1,Ext.refl s,a2,?_⟩
  intro j u hj
  simp only [T.get_set] at hj
  split at hj
  ·next hjd =>
   cases hj
   subst hjd
   obtain ⟨x,x1,x2⟩:=a3 j _ (ht j _ hd)
   exact ⟨x,x1,RV_tl_no x2⟩
  ·exact a3 j u hj
end
end Go.Pv
namespace Go.Pv
open Go.Am Go.RowKit Go.ChangeShapes Go.WideShapes
end Go.Pv
namespace Go.Pv
open Go.Am Go.RowKit
mutual
def PV.lone:PV→Bool
 |.lit _=>true
 |.agg l=>PV.lones l
 |.tup l=>PV.lones l
 |.ifc _ v=>PV.lone v
 |_=>false
def PV.lones:List PV→Bool
 |[]=>true
 |v::vs=>PV.lone v && PV.lones vs
end
mutual
theorem lone_rv {s s':St}:∀ (v:PV),v.lone=true→∀ x,RV s v x→RV s' v x
 |.lit a,_,x,h=>RV_lit.2 (RV_lit.1 h)
 |.agg l,hv,x,h=>by
  obtain ⟨y,rfl,h2⟩:=RV_agg.1 h
  exact RV_agg.2 ⟨y,rfl,lones_rv l (by simpa [PV.lone] using hv) _ h2⟩
 |.tup l,hv,x,h=>by
  obtain ⟨y,rfl,h2⟩:=RV_tup.1 h
  exact RV_tup.2 ⟨y,rfl,lones_rv l (by simpa [PV.lone] using hv) _ h2⟩
 |.ifc t v,hv,x,h=>by
  obtain ⟨y,rfl,h2⟩:=RV_ifc.1 h
  exact RV_ifc.2 ⟨y,rfl,lone_rv v (by simpa [PV.lone] using hv) _ h2⟩
 |.sl tl l,hv,_,_=>by simp [PV.lone] at hv
 |.fp v,hv,_,_=>by simp [PV.lone] at hv
 |.ptr i o,hv,_,_=>by simp [PV.lone] at hv
 |.ms i o a b c,hv,_,_=>by simp [PV.lone] at hv
 |.mp i,hv,_,_=>by simp [PV.lone] at hv
 |.fn f a b,hv,_,_=>by simp [PV.lone] at hv
 |.yld i,hv,_,_=>by simp [PV.lone] at hv
 |.fm ks vs,hv,_,_=>by simp [PV.lone] at hv
theorem lones_rv {s s':St}:∀ (l:List PV),PV.lones l=true→∀ xs,RVs s l xs→RVs s' l xs
 |[],_,xs,h=>RVs_nil.2 (RVs_nil.1 h)
 |v::vs,hv,xs,h=>by
  simp only [PV.lones,Bool.and_eq_true] at hv
  obtain ⟨y,ys,rfl,h1,h2⟩:=RVs_cons.1 h
  exact RVs_cons.2 ⟨y,ys,rfl,lone_rv v hv.1 _ h1,lones_rv vs hv.2 _ h2⟩
end
theorem RVs.split {s:St}:∀ {a b:List PV} {xs:List Value},RVs s (a++b) xs→∃ x y,xs=x++y∧RVs s a x∧RVs s b y
 |[],b,xs,h=>⟨[],xs,rfl,RVs_nil.2 rfl,h⟩
 |v::a,b,xs,h=>by
  rw [List.cons_append] at h
  obtain ⟨y,ys,rfl,h1,h2⟩:=RVs_cons.1 h
  obtain ⟨p,q,rfl,h3,h4⟩:=RVs.split h2
  exact ⟨y::p,q,rfl,RVs_cons.2 ⟨y,p,rfl,h1,h3⟩,h4⟩
section
variable {w0:Base} {s:St} {k n o:Nat} {l:List PV} {b:PBlk} {w':World}
end
section
variable {C:Cx} {F:EQ} {X:EX} {k:List KI} {e:EL} {ds:List Nat} {K:PV→PH→Prop} {n:Nat} {hl:HL}
variable {d:Option Tmp} {type:TypeId} {pos:String} {after:Array Edge} {guard:Option (Nat×Bool)}
end
end Go.Pv
namespace Go.Pv
open Go.Am Go.RowKit
section
variable {C:Cx} {X:EX} {e:EL} {ds:List Nat} {K:PV→PH→Prop} {h:PH}
variable {d:Option Tmp} {type:TypeId} {pos:String} {after:Array Edge} {guard:Option (Nat×Bool)}
end
def tlU:Option Nat→Tail
 |none=>.ex
 |some j=>.own j
def ownU:Option Nat→HL
 |none=>[]
 |some j=>[(j,some .own)]
section
variable {C:Cx} {X:EX} {e:EL} {ds:List Nat} {K:PV→PH→Prop} {n:Nat} {l:HL}
variable {d:Option Tmp} {type:TypeId} {pos:String} {after:Array Edge} {guard:Option (Nat×Bool)}
theorem Ope.apU {o':Option Nat} {t tx sz bytes sz' bytes':Nat} {agg agg':Bool} {x y:Operand} {tl':Tail} {vs ws:List PV} [hs:Slc C.A t agg sz bytes] [hs':Slc C.A tx agg' sz' bytes'] (hx:pev (lget e) x=some (.sl (tlU o') vs)) (hy:pev (lget e) y=some (.sl tl' ws)) (hne:ws≠[]) (ho:∀ j,o'=some j→vs≠[]∧hget l j=none)
  (hb1:(vs.length+ws.length) * bytes≤140737488355328) (hb2:vs.length+ws.length≤1000000000) (h1:1≤sz) (hv:∀ v∈vs,v.nc=sz) (hw:∀ v∈ws,v.nc=sz∧PV.allOne v.cells=true) (hK:K (.sl (.own n) (vs++ws)) (HE (n+1) ((n,some .own)::l))) :
  Ope C X { dst:=d,op:=.call { callee:=.builtin .append,args:=#[x,y],argTypes:=#[t,tx] },type,pos,after,guard } e ds (HE n (ownU o'++l)) K:=by
 cases o' with
 |none=>exact Ope.apO hx hy hne hb1 hb2 h1 hv hw hK
 |some j =>
  obtain ⟨h2,h3⟩:=ho j rfl
  refine Ope.apP hx hy hne h2 hget_hd hb1 hb2 h1 hv hw ?_
  have e1:HE (n+1) ((n,some .own)::(j,none)::(ownU (some j)++l))=HE (n+1) ((n,some .own)::l):=by
   simp only [HE,PH.mk.injEq,and_true]
   funext i
   by_cases hi:i=n
   ·subst hi;rw [hget_hd,hget_hd]
   ·rw [hget_tl hi,hget_tl hi]
    by_cases hj:i=j
    ·subst hj;rw [hget_hd,h3]
    ·rw [hget_tl hj]
     show hget ((j,some PBlk.own)::l) i=_
     rw [hget_tl hj]
  rw [e1]
  exact hK
end
section
variable {C:Cx} {X:EX} {e:EL} {ds:List Nat} {K:PV→PH→Prop} {h:PH}
variable {d:Option Tmp} {type:TypeId} {pos:String} {after:Array Edge} {guard:Option (Nat×Bool)}
theorem Ope.callX {f:Operand} {args:Array Operand} {tys:Array TypeId} {g:Nat} {fs as' cp all':List PV} {u:PV} (hf:pev (lget e) f=some (.fn (.func g) fs cp)) (ha:pargs (pev (lget e)) args.toList=some as') (hl:fs++as'++cp=all')
  (hc:PCall C.P g all' h (fun v h'=>h'=h∧v=u) fun _ _=>False) (hK:K u h):Ope C X { dst:=d,op:=.call { callee:=.value f,args,argTypes:=tys },type,pos,after,guard } e ds h K :=
 Ope.call hf ha hl (hc.mono (fun _ _ q=>by obtain ⟨rfl,rfl⟩:=q;exact hK) fun _ _ q=>q.elim)
end
def Sam (P:Program) (g:Nat) (args:List PV) (n:Nat) (l:HL) (u:PV):Prop:=PCall P g args (HE n l) (fun v h'=>∃ m,n≤m∧h'=HE m l∧v=u) fun _ _=>False
section
variable {C:Cx} {X:EX} {e:EL} {ds:List Nat} {K:PV→PH→Prop} {n:Nat} {l:HL}
variable {d:Option Tmp} {type:TypeId} {pos:String} {after:Array Edge} {guard:Option (Nat×Bool)}
theorem Ope.callS {f:Operand} {args:Array Operand} {tys:Array TypeId} {g:Nat} {fs as' cp all':List PV} {u:PV} (hf:pev (lget e) f=some (.fn (.func g) fs cp)) (ha:pargs (pev (lget e)) args.toList=some as') (hl:fs++as'++cp=all')
  (hc:Sam C.P g all' n l u) (hK:∀ m,n≤m→K u (HE m l)):Ope C X { dst:=d,op:=.call { callee:=.value f,args,argTypes:=tys },type,pos,after,guard } e ds (HE n l) K :=
 Ope.call hf ha hl (hc.mono (fun _ _ q=>by obtain ⟨m,h1,rfl,rfl⟩:=q;exact hK m h1) fun _ _ q=>q.elim)
end
theorem Hsub.trans:∀ {a b c:HL},(∀ p∈a,p.2≠none)→Hsub a b→Hsub b c→Hsub a c
 |[],_,_,_,_,_=>trivial
 |(i,some x)::a,b,c,hn,⟨h1,h2⟩,h3=>⟨Hsub.get h3 h1,Hsub.trans (fun p hp=>hn p (List.mem_cons_of_mem _ hp)) h2 h3⟩
 |(i,none)::a,b,c,hn,_,_=>absurd rfl (hn (i,none) (by simp))
theorem Hsub.tail {p:Nat×Option PBlk} {a b:HL} (h:Hsub (p::a) b):Hsub a b:=h.2
def FeedQ (P:Program) (y:PV) (R:PV→PH→Prop) (Z:HL):List PV→Nat→HL→Prop
 |[],n,l=>∀ m,n≤m→∀ u,R u (HE m l)
 |v::vs,n,l=>∀ m,n≤m→PCallV P y [v] (HE m l) (fun b h'=>∃ m' l',h'=HE m' l'∧m≤m' ∧
   ((b=B true∧Hsub Z l'∧FeedQ P y R Z vs m' l')∨(b=B false∧∀ m2,m'≤m2→∀ u,R u (HE m2 l')))) fun _ _=>False
def YieldsQ (P:Program) (g:Nat) (fs caps items:List PV) (Z:HL):Prop :=
 ∀ (j n:Nat) (l:HL) (R:PV→PH→Prop),j < n→Hsub Z l→FeedQ P (.yld j) R Z items n l→PCall P g (fs++[.yld j]++caps) (HE n l) R fun _ _=>False
theorem FeedQ.mono {P:Program} {y:PV} {R:PV→PH→Prop} {Z:HL} {n n':Nat} {l:HL} (hn:n≤n'):∀ {vs:List PV},FeedQ P y R Z vs n l→FeedQ P y R Z vs n' l
 |[],h=>fun m hm u=>h m (by omega) u
 |_::_,h=>fun m hm=>h m (by omega)
section
variable {C:Cx} {F:EQ} {X:EX} {k:List KI} {e:EL} {ds:List Nat} {K:PV→PH→Prop} {n:Nat} {own l:HL}
variable {d:Option Tmp} {type:TypeId} {pos:String} {after:Array Edge} {guard:Option (Nat×Bool)}
theorem Ope.yldQ {Z:HL} {f:Operand} {args:Array Operand} {tys:Array TypeId} {j:Nat} {v:PV} {vs:List PV} {R:PV→PH→Prop} (hf:pev (lget e) f=some (.yld j)) (ha:pargs (pev (lget e)) args.toList=some [v]) (ho:Owns own l)
  (hy:FeedQ C.P (.yld j) R Z (v::vs) n l) (hK1:∀ m l',n≤m→(HE m l').Ok→(∀ i,keysB own i=true→hget l' i=none)→Hsub Z l'→FeedQ C.P (.yld j) R Z vs m l'→K (B true) (HE m (own++l'))) (hK2:∀ m l',n≤m→(HE m l').Ok→(∀ i,keysB own i=true→hget l' i=none)→(∀ m2,m≤m2→∀ u,R u (HE m2 l'))→K (B false) (HE m (own++l'))) :
  Ope C X { dst:=d,op:=.call { callee:=.value f,args,argTypes:=tys },type,pos,after,guard } e ds (HE n (own++l)) K:=by
 unfold Ope
 simp only [pop,pkind,pcallO,ha,hf,pcallF]
 refine ⟨rfl,PCallV.owned ho (hy n (Nat.le_refl _)) ?_ ?_⟩
 ·rintro b m l' hok hno ⟨m1,l1,e1,hm,hb⟩
  obtain ⟨rfl,e2⟩:m=m1∧hget l'=hget l1:=by
   have:=e1
   simp only [HE,PH.mk.injEq] at this
   exact ⟨this.2,this.1⟩
  have e3:∀ q,HE q l'=HE q l1:=fun q=>by simp only [HE,e2]
  have e4:HE m (own++l')=HE m (own++l1):=by
   simp only [HE,PH.mk.injEq,and_true]
   funext i
   rw [keysB_app,keysB_app,e2]
  rw [e4]
  rw [e3] at hok
  simp only [e2] at hno
  rcases hb with ⟨rfl,hz,hf⟩ | ⟨rfl,hf⟩
  ·exact hK1 m l1 hm hok hno hz hf
  ·exact hK2 m l1 hm hok hno hf
 ·rintro b h ⟨m1,l1,e1,_⟩
  exact ⟨m1,l1,e1⟩
end
section
variable {C:Cx} {F:EQ} {X:EX} {k:List KI} {e:EL} {ds:List Nat} {h:PH} {n:Nat} {l:HL}
theorem Run.rangeFQ (Z:HL) (hC:C.Ok) (hrnd:C.rnd=none) {f:Operand} {ps:Array Tmp} {asg body:Code} {fs cp items:List PV} {g:Nat} {α:Type} (hp:α→HL) (nx:α→Nat) (I:Nat→α→Prop)
  (hf:pev (lget e) f=some (.fn (.func g) fs cp)) (hy:YieldsQ C.P g fs cp items Z) (hps:ps.size=1) (hpl:ps.toList.all (fun p=>Nat.blt p C.sz)=true) (hfi:∃ fn,C.P.funcs[C.fi]?=some fn)
  (a0:α) (h0:I 0 a0) (hl0:Hsub (hp a0) l) (hk:∀ a,∀ p∈hp a,p.1≠n+1) (hk0:∀ p∈hp a0,p.1≠n) (hn0:nx a0≤n+2) (hZ:∀ a,Hsub Z (hp a)) (hZn:∀ p∈Z,p.2≠none) (hZ1:∀ p∈Z,p.1≠n+1) (hZ0:∀ p∈Z,p.1≠n)
  (round : ∀ i a v, items[i]? = some v → I i a → ∀ m, nx a ≤ m → n + 2 ≤ m → ∀ lb, Run { C with rnd := some (n + 1) }
   (FAsg { C with rnd := some (n + 1) } n m lb body (fun m l => ∃ a', nx a' ≤ m ∧ Hsub ((n, some .dfr) :: hp a') l ∧ I (i + 1) a')
    fun j m l=>∃ l3,Hsub l3 ((n+1,none)::l)∧∀ m4,m≤m4→Jmp C F X k j e (n::ds) (HE m4 l3)) noX [.c asg] (tsE e ps.toList [v]) [] (HE m ((n+1,some lb)::(n,some .dfr)::hp a)))
  (fin:∀ a,I items.length a→∀ m,nx a≤m→n+2≤m→Run C F X k e (n::ds) (HE m ((n,some .dfr)::hp a))):Run C F X (.c (.rangeFunc f ps asg body)::k) e ds (HE n l):=by
 refine Run.intro ?_
 let Qg:PQ:=fun x t ds h=>∃ h' t',Ghost h h' t t'∧Pv.toQ (Ks C F X k) x t' ds h'
 have hpw:=PWP.rangeFunc (P:=C.P) hC.A (fi:=C.fi) (sz:=C.sz) (Q:=Qg) (X:=toX X) (t:=TE e) (ds:=ds) (h:=HE n l) (f:=f) (ps:=ps) (asg:=asg) (body:=body) (fv:=.fn (.func g) fs cp) (by rw [TE_getf];exact hf) ?_
 ·rw [Cx.wp,hrnd]
  exact PWP.ghostQ hpw
 show pcallF C.A C.P (.fn (.func g) fs cp) [.yld (n+1)] _ _ _
 simp only [pcallF]
 have hnn:(HE n l).next=n:=rfl
 rw [HE_add,hnn,HE_add]
 let lbs (st:LoopState) (pd:Option Code):PBlk:=.loop st pd C.fi (TE e) C.sz ps asg body n
 refine PCall.mono (hy (n+1) (n+2) _ (QLoop (n+1) (TE e) (n::ds) Qg) (by omega) (Hsub.over (Hsub.over (Hsub.trans hZn (hZ a0) hl0) hZ0) hZ1) ?_) (fun _ _ h=>h) fun _ _ h=>h.elim
 have key:∀ (vs:List PV) (i:Nat) (a:α) (m:Nat) (l':HL),items.drop i=vs→i≤items.length→I i a→nx a≤m→n+2≤m→Hsub ((n+1,some (lbs .ready none))::(n,some .dfr)::hp a) l' →
   FeedQ C.P (.yld (n+1)) (QLoop (n+1) (TE e) (n::ds) Qg) Z vs m l':=by
  intro vs
  induction vs with
  |nil =>
   intro i a m l' hd hil hI hm hm2 hs m2 hm3 u
   have hi:i=items.length:=by have:=List.drop_eq_nil_iff.1 hd;omega
   subst hi
   refine ⟨.ready,none,C.fi,TE e,C.sz,ps,asg,body,n,rfl,hs.1,?_⟩
   refine ⟨HE m2 ((n,some .dfr)::hp a),TE e,Ghost.wide (h:=(HE m2 l').del (n+1)) (h':=HE m2 ((n,some .dfr)::hp a)) (Nat.le_refl _) fun i b hi=>?_,(fin a hI m2 (by omega) (by omega)).toQ (Sub.refl e)⟩
   rw [HE_del]
   exact Hsub.get (l':=(n+1,none)::l') (Hsub.over hs.2 (by
    intro p hpm
    rcases List.mem_cons.1 hpm with rfl | hpm
    ·simp
    ·exact hk a p hpm)) hi
  |cons v vs ih =>
   intro i a m l' hd hil hI hm hm2 hs m2 hm3
   have hv:items[i]?=some v:=by
    have:=congrArg List.head? hd
    simpa [List.head?_drop] using this
   have hlt:i < items.length:=(List.getElem?_eq_some_iff.1 hv).1
   have hd':items.drop (i+1)=vs:=by
    have:=congrArg List.tail hd
    simpa using this
   have hr:=round i a v hv hI m2 (by omega) (by omega) (lbs .ready none)
   refine PCallV.yld (t:=TE e) (fn:=C.fi) (sz:=C.sz) (ps:=ps) (asg:=asg) (body:=body) (d:=n) hs.1 hfi (by simp [hps]) (fun p hp=>blt_lt (List.all_eq_true.1 hpl p hp)) ?_
   have hra:=PWP.ghost (Ghost.wide (h:=HE m2 l') (h':=HE m2 ((n+1,some (lbs .ready none))::(n,some .dfr)::hp a)) (Nat.le_refl _) fun i b hi=>hs.get hi) (hr.wp (tsE_sub ps.toList [v] e (TE e) (Sub.refl e)))
   refine PWP.mono hra ?_ fun _ _ _ _ hx=>hx.elim
   rintro x t1 ds1 h1 ⟨e1,hsub1,rfl,rfl,m3,l3,rfl,hg3,hb⟩
   refine ⟨rfl,rfl,TE e,hg3,?_⟩
   have hb2:=(hb (lbs .busy none)).wp hsub1
   rw [HE_put]
   refine PWP.mono hb2 ?_ fun _ _ _ _ hx=>hx.elim
   rintro x t2 ds2 h2 ⟨e2,hsub2,rfl,m5,l5,rfl,hm5,hg5,hx⟩
   refine ⟨rfl,.busy,none,TE e,hg5,?_⟩
   cases x with
   |normal =>
    obtain ⟨a',q1,q2,q3⟩:=hx
    refine ⟨m5,(n+1,some (lbs .ready none))::l5,by simp only [HE_put];rfl,by omega,.inl ⟨rfl,Hsub.over (Hsub.trans hZn (hZ a') (Hsub.tail q2)) hZ1,?_⟩⟩
    refine ih (i+1) a' m5 _ hd' hlt q3 q1 (by omega) ⟨hget_hd,Hsub.over q2 ?_⟩
    intro p hpm
    rcases List.mem_cons.1 hpm with rfl | hpm
    ·simp
    ·exact hk a' p hpm
   |jump j =>
    obtain ⟨q0,l6,q1,q2⟩:=hx
    refine ⟨q0,m5,(n+1,some (lbs .done (some j)))::l5,by simp only [HE_put];rfl,by omega,.inr ⟨rfl,fun m6 hm6 u=>?_⟩⟩
    refine ⟨.done,some j,C.fi,TE e,C.sz,ps,asg,body,n,rfl,hget_hd,q0,?_⟩
    refine ⟨HE m6 l6,TE e,Ghost.wide (h:=(HE m6 _).del (n+1)) (h':=HE m6 l6) (Nat.le_refl _) fun i b hi=>?_,(q2 m6 hm6).toQ (Sub.refl e)⟩
    rw [HE_del]
    have:=q1.get hi
    show hget ((n+1,none)::(n+1,some (lbs .done (some j)))::l5) i=some b
    simp only [hget] at this ⊢
    split at this
    ·cases this
    ·next hb=>simp only [hb];exact this
 refine key items 0 a0 (n+2) _ (by simp) (Nat.zero_le _) h0 hn0 (Nat.le_refl _) ⟨hget_hd,hget_at (by omega) hget_hd,?_⟩
 exact Hsub.over (Hsub.over hl0 hk0) (hk a0)
end
end Go.Pv
namespace Go.Pv
open Go.Am Go.RowKit
class Cnd (q:Bool) (p1 p2:outParam Prop):Prop where
 t:q=true→p1
 f:q=false→p2
instance (priority:=100) {q:Bool}:Cnd q (q=true) (q=false):=⟨id,id⟩
instance (priority:=500) {q:Bool}:Cnd (!q) (q=false) (q=true):=⟨fun h=>by simpa using h,fun h=>by simpa using h⟩
instance (priority:=1000) {p:Prop} [Decidable p]:Cnd (decide p) p (¬p):=⟨of_decide_eq_true,of_decide_eq_false⟩
instance (priority:=1000) {p:Prop} [Decidable p]:Cnd (!decide p) (¬p) p:=⟨fun h=>by simpa using h,fun h=>by simpa using h⟩
section
variable {C:Cx} {F:EQ} {X:EX} {k:List KI} {e:EL} {ds:List Nat} {h:PH}
theorem Run.condX {c:Operand} {x y:Code} {q:Bool} {p1 p2:Prop} [hq:Cnd q p1 p2] (hc:pev (lget e) c=some (B q)) (hx:p1→Run C F X (.c x::k) e ds h) (hy:p2→Run C F X (.c y::k) e ds h):Run C F X (.c (.cond c x y)::k) e ds h :=
 Run.cond hc (fun h=>hx (hq.t h)) fun h=>hy (hq.f h)
theorem Reg.splitX {w q:Bool} {j dj:Nat} {d:Option Nat} {op:Op} {type:TypeId} {pos:String} {after:Array Edge} {all os:List Oper} {p1 p2:Prop} [hq:Cnd q p1 p2] (hj:gdst all j=some dj) (hv:lget e dj=some (B q))
  (h1:p1→Reg C F X k all ({ dst:=d,op,type,pos,after,guard:=some (j,w) }::os) ((dj,B true)::e) ds h)
  (h2:p2→Reg C F X k all ({ dst:=d,op,type,pos,after,guard:=some (j,w) }::os) ((dj,B false)::e) ds h):Reg C F X k all ({ dst:=d,op,type,pos,after,guard:=some (j,w) }::os) e ds h :=
 Reg.split hj hv (fun h=>h1 (hq.t h)) fun h=>h2 (hq.f h)
theorem Dra.splitX {w q:Bool} {i j dj:Nat} {b:Bool} {o:Oper} {all:List Oper} {od:List (Nat×Bool)} {p1 p2:Prop} [hq:Cnd q p1 p2] (hi:nthK all i=some o) (hg:o.guard=some (j,w)) (hj:gdst all j=some dj) (hv:lget e dj=some (B q))
  (h1:p1→Dra C F X k all ((i,b)::od) ((dj,B true)::e) ds h) (h2:p2→Dra C F X k all ((i,b)::od) ((dj,B false)::e) ds h):Dra C F X k all ((i,b)::od) e ds h :=
 Dra.split' hi hg hj hv (fun h=>h1 (hq.t h)) fun h=>h2 (hq.f h)
end
end Go.Pv
namespace Go.Pv
open Go.Am Go.RowKit
section
variable {C:Cx} {F:EQ} {X:EX} {k:List KI} {e:EL} {ds:List Nat} {h:PH}
theorem Run.drawB (hC:C.Ok) {id:Nat} {ops:Array Oper} (i:Nat) (ord:List (Nat×Bool×Bool)) (hd:drwS C.M ops.toList=some ord) (hr:DraS C F X k (fun h'=>h'.get i=h.get i) ops.toList ord e ds h):Run C F X (.c (.region id ops true)::k) e ds h :=
 Run.drawS hC _ ord hd hr
theorem StabS.at {t:TypeId} {a:Operand} {i o:Nat} {g:Option PBlk} {dd:Option Nat} {type:TypeId} {pos:String} {after:Array Edge} {guard:Option (Nat×Bool)} (ha:pev (lget e) a=some (.ptr i o)):StabS C.A C.E (fun h=>h.get i=g) (lget e) { dst:=dd,op:=.load t a,type,pos,after,guard }:=by
 intro h h' h1 h2
 simp only [pquiet,ha]
 unfold pload
 simp only [h1,h2]
end
end Go.Pv
