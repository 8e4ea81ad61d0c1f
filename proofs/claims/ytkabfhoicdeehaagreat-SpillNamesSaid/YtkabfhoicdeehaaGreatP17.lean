/- Parts of the proof: S4, Pv69, Pv70, Pv71, Pv72, S5 -/
import Derived.Test.YtkabfhoicdeehaaGreatP16
import Derived.Test.YtkabfhoicdeehaaGreatP14
set_option linter.unusedVariables false
set_option linter.unusedSimpArgs false
set_option linter.unusedSectionVars false
namespace Go.Pv
open Go.Proofs Go.Am
set_option maxRecDepth 10000
theorem f149 (x:Int):Fn P0 149 [I x] (B false):=by
  refine PFun.of (C:=c149) (cx_ok _ _ _) rfl (fn:=Tryz.f149) (by kernel_rfl) (c:=_) rfl rfl rfl ?_
  refine Run.seq (Run.region (cx_ok _ _ _) (Reg.op rfl (Ope.asg rfl ?_)))
  refine Reg.nil (Run.seq (Run.region (cx_ok _ _ _) (Reg.op rfl (Ope.mov rfl ?_))))
  refine Reg.op rfl (Ope.mov rfl ?_)
  refine Reg.op rfl (Ope.ne rfl rfl ?_)
  refine Reg.op rfl (Ope.asg rfl ?_)
  refine Reg.nil (Run.ret (fin_ret (.tmp rfl .nil) rfl ?_))
  (show B (decide (x≠x))=B false;simp)
def cmpI (x y:Int):Int:=if x < y then -1 else if y < x then 1 else 0
theorem f138 (x y:Int):Fn P0 138 [I x,I y] (I (cmpI x y)):=by
  unfold cmpI
  refine PFun.of (C:=c138) (cx_ok _ _ _) rfl (fn:=Tryz.f138) (by kernel_rfl) (c:=_) rfl rfl rfl ?_
  refine Run.seq (Run.region (cx_ok _ _ _) (Reg.op rfl (Ope.asg rfl ?_)))
  refine Reg.nil (Run.seq (Run.region (cx_ok _ _ _) (Reg.op rfl (Ope.mov rfl ?_))))
  refine Reg.op rfl (Ope.cf rfl rfl (f149 x) rfl ?_)
  refine Reg.op rfl (Ope.asg rfl ?_)
  refine Reg.nil (Run.seq (Run.region (cx_ok _ _ _) (Reg.op rfl (Ope.mov rfl ?_))))
  refine Reg.op rfl (Ope.cf rfl rfl (f149 y) rfl ?_)
  refine Reg.op rfl (Ope.asg rfl ?_)
  refine Reg.nil (Run.seq (Run.seq (Run.region (cx_ok _ _ _) (Reg.op rfl (Ope.mov rfl ?_)))))
  refine Reg.nil (Run.condF rfl (Run.skip (Run.seq (Run.seq (Run.region (cx_ok _ _ _) (Reg.op rfl (Ope.mov rfl ?_)))))))
  refine Reg.nil (Run.condF rfl (Run.skip (Run.seq (Run.seq (Run.region (cx_ok _ _ _) (Reg.op rfl (Ope.mov rfl ?_)))))))
  refine Reg.op rfl (Ope.mov rfl ?_)
  refine Reg.op rfl (Ope.lt rfl rfl ?_)
  refine Reg.nil (Run.condX rfl (fun hc=>?_) fun hc=>?_)
  ·refine Run.seq (Run.region (cx_ok _ _ _) (Reg.op rfl (Ope.asg rfl ?_)))
   refine Reg.nil (Run.ret (Jmp.code (fin_ret (.tmp rfl .nil) rfl ?_)))
   first
   | (rw [if_pos (by omega)];rfl)
   | (rw [if_neg (by omega),if_pos (by omega)];rfl)
   | (rw [if_neg (by omega),if_neg (by omega)];rfl)
  ·refine Run.skip (Run.seq (Run.seq (Run.region (cx_ok _ _ _) (Reg.op rfl (Ope.mov rfl ?_)))))
   refine Reg.op rfl (Ope.mov rfl ?_)
   refine Reg.op rfl (Ope.gt rfl rfl ?_)
   refine Reg.nil (Run.condX rfl (fun hc=>?_) fun hc=>?_)
   ·refine Run.seq (Run.region (cx_ok _ _ _) (Reg.op rfl (Ope.asg rfl ?_)))
    refine Reg.nil (Run.ret (Jmp.code (fin_ret (.tmp rfl .nil) rfl ?_)))
    first
    | (rw [if_pos (by omega)];rfl)
    | (rw [if_neg (by omega),if_pos (by omega)];rfl)
    | (rw [if_neg (by omega),if_neg (by omega)];rfl)
   ·refine Run.skip (Run.seq (Run.region (cx_ok _ _ _) (Reg.op rfl (Ope.asg rfl ?_))))
    refine Reg.nil (Run.ret (fin_ret (.tmp rfl .nil) rfl ?_))
    first
    | (rw [if_pos (by omega)];rfl)
    | (rw [if_neg (by omega),if_pos (by omega)];rfl)
    | (rw [if_neg (by omega),if_neg (by omega)];rfl)
def twoV (p:Int×Int):PV:=.agg [I p.1,I p.2]
theorem cmpL_cons (p:Int×Int) (l:List (Int×Int)):cmpL (p::l)=if cmpI p.1 p.2≠0 then cmpI p.1 p.2 else cmpL l:=by
  obtain ⟨x,y⟩:=p
  simp only [cmpL,cmpI]
  by_cases h1:x < y
  · rw [if_pos h1,if_pos h1];rfl
  · by_cases h2 : y < x
    · rw [if_neg h1,if_neg h1,if_pos h2,if_pos h2];rfl
    · rw [if_neg h1,if_neg h1,if_neg h2,if_neg h2];rfl
theorem f119 (tl:Tail) (l:List (Int×Int)) (hl:l.length≤100):Fn P0 119 [.sl tl (l.map twoV)] (I (cmpL l)):=by
  refine PFun.of (C:=c119) (cx_ok _ _ _) rfl (fn:=Tryz.f119) (by kernel_rfl) (c:=_) rfl rfl rfl ?_
  refine Run.seq (Run.region (cx_ok _ _ _) (Reg.op rfl (Ope.asg rfl ?_)))
  refine Reg.nil (Run.seq (Run.seq (Run.region (cx_ok _ _ _) (Reg.op rfl (Ope.mov rfl ?_)))))
  refine Reg.op rfl (Ope.len (m:=l.length) rfl (by simp) ?_)
  refine Reg.op rfl (Ope.mov rfl ?_)
  refine Reg.nil (Run.block (Run.loop (α:=Nat×Nat) (fun t=>[(6,.sl tl (l.map twoV)),(7,I l.length),(8,I t.1)]) (fun t=>HE t.2 []) (fun t=>t.1≤l.length∧cmpL (l.drop t.1)=cmpL l) (fun t=>l.length - t.1) (0,0) ⟨rfl,rfl,rfl,trivial⟩ rfl ⟨Nat.zero_le _,rfl⟩ (fun t ht=>?_)))
  obtain ⟨i,m⟩:=t
  obtain ⟨hi,hc0⟩:=ht
  simp only at hi hc0
  show Run _ _ _ _ [(6,.sl tl (l.map twoV)),(7,I l.length),(8,I i)] [] (HE m [])
  refine Run.seq (Run.region (cx_ok _ _ _) (Reg.op rfl (Ope.lt rfl rfl ?_)))
  refine Reg.nil (Run.seq (Run.condX rfl (fun hc=>?_) fun hc=>?_))
  ·refine Run.skip (Run.seq (Run.block (Run.seq ?_)))
   have hlt:i < l.length:=by omega
   rw [List.drop_eq_getElem_cons hlt,cmpL_cons] at hc0
   refine Run.region (cx_ok _ _ _) (Reg.op rfl (Ope.idxM (m:=i) (f:=twoV) rfl rfl rfl hlt (fun _=>rfl) ?_))
   refine Reg.op rfl (Ope.load rfl rfl ?_)
   refine Reg.op rfl (Ope.newL rfl ?_)
   refine Reg.op0 (Ope.store rfl rfl hget_hd rfl rfl rfl ?_)
   refine Reg.nil (Run.seq (Run.frz (d:=4) true rfl hget_hd rfl ?_))
   refine Run.wide (m:=m+1) (l':=[]) (Nat.le_refl _) trivial ?_
   refine Run.region (cx_ok _ _ _) (Reg.op rfl (Ope.idxA rfl rfl rfl rfl ?_))
   refine Reg.op rfl (Ope.load rfl rfl ?_)
   refine Reg.op rfl (Ope.idxA rfl rfl rfl rfl ?_)
   refine Reg.op rfl (Ope.load rfl rfl ?_)
   refine Reg.op rfl (Ope.cf rfl rfl (f138 l[i].1 l[i].2) rfl ?_)
   refine Reg.op rfl (Ope.asg rfl ?_)
   refine Reg.nil (Run.seq (Run.region (cx_ok _ _ _) (Reg.op rfl (Ope.mov rfl ?_))))
   refine Reg.op rfl (Ope.ne rfl rfl ?_)
   refine Reg.nil (Run.condX rfl (fun hc=>?_) fun hc=>?_)
   ·refine Run.seq (Run.region (cx_ok _ _ _) (Reg.op rfl (Ope.mov rfl ?_)))
    refine Reg.op rfl (Ope.asg rfl ?_)
    refine Reg.nil (Run.ret (Jmp.retB (Jmp.code (Jmp.round (Jmp.retB (Jmp.code (fin_ret (.tmp rfl .nil) rfl ?_)))))))
    first
    | (rw [if_pos hc] at hc0;rw [← hc0];rfl)
    | (obtain rfl : i = l.length := by omega
       rw [List.drop_length] at hc0
       rw [← hc0];rfl)
   ·refine Run.skip (Run.bend (Run.region (cx_ok _ _ _) (Reg.op rfl (Ope.add rfl rfl (by omega) ?_))))
    refine Reg.op rfl (Ope.mov rfl ?_)
    refine Reg.nil ?_
    rw [if_neg hc] at hc0
    exact Run.lend ⟨(i+1,m+1),by show l.length - (i+1) < l.length - i;omega,⟨by show i+1≤l.length;omega,hc0⟩,⟨rfl,rfl,rfl,trivial⟩,rfl,rfl⟩
  ·refine Run.exit (Jmp.code (Jmp.round (Jmp.here (Run.seq (Run.region (cx_ok _ _ _) (Reg.op rfl (Ope.asg rfl ?_)))))))
   refine Reg.nil (Run.ret (fin_ret (.tmp rfl .nil) rfl ?_))
   first
   | (rw [if_pos hc] at hc0;rw [← hc0];rfl)
   | (obtain rfl : i = l.length := by omega
      rw [List.drop_length] at hc0
      rw [← hc0];rfl)
theorem f95 (r s:Rpt):Fn P0 95 [r.v,s.v] (I (cmpR r s)):=by
  have hd:=f119 .ex (keysR r s) (by simp [keysR])
  refine PFun.of (C:=c95) (cx_ok _ _ _) rfl (fn:=Tryz.f95) (by kernel_rfl) (c:=_) rfl rfl rfl ?_
  refine Run.seq (Run.region (cx_ok _ _ _) (Reg.op rfl (Ope.boxF rfl rfl ?_)))
  refine Reg.op rfl (Ope.boxF rfl rfl ?_)
  refine Reg.op rfl (Ope.asg rfl ?_)
  refine Reg.nil (Run.seq (Run.region (cx_ok _ _ _) (Reg.op rfl (Ope.fld rfl rfl ?_))))
  refine Reg.op rfl (Ope.load rfl rfl ?_)
  refine Reg.op rfl (Ope.fld rfl rfl ?_)
  refine Reg.op rfl (Ope.load rfl rfl ?_)
  refine Reg.op rfl (Ope.bld rfl rfl ?_)
  refine Reg.op rfl (Ope.fld rfl rfl ?_)
  refine Reg.op rfl (Ope.load rfl rfl ?_)
  refine Reg.op rfl (Ope.fld rfl rfl ?_)
  refine Reg.op rfl (Ope.load rfl rfl ?_)
  refine Reg.op rfl (Ope.bld rfl rfl ?_)
  refine Reg.op rfl (Ope.fld rfl rfl ?_)
  refine Reg.op rfl (Ope.load rfl rfl ?_)
  refine Reg.op rfl (Ope.fld rfl rfl ?_)
  refine Reg.op rfl (Ope.load rfl rfl ?_)
  refine Reg.op rfl (Ope.bld rfl rfl ?_)
  refine Reg.op rfl (Ope.fld rfl rfl ?_)
  refine Reg.op rfl (Ope.fld rfl rfl ?_)
  refine Reg.op rfl (Ope.load rfl rfl ?_)
  refine Reg.op rfl (Ope.fld rfl rfl ?_)
  refine Reg.op rfl (Ope.fld rfl rfl ?_)
  refine Reg.op rfl (Ope.load rfl rfl ?_)
  refine Reg.op rfl (Ope.bld rfl rfl ?_)
  refine Reg.op rfl (Ope.fld rfl rfl ?_)
  refine Reg.op rfl (Ope.fld rfl rfl ?_)
  refine Reg.op rfl (Ope.load rfl rfl ?_)
  refine Reg.op rfl (Ope.fld rfl rfl ?_)
  refine Reg.op rfl (Ope.fld rfl rfl ?_)
  refine Reg.op rfl (Ope.load rfl rfl ?_)
  refine Reg.op rfl (Ope.bld rfl rfl ?_)
  refine Reg.op rfl (Ope.fld rfl rfl ?_)
  refine Reg.op rfl (Ope.fld rfl rfl ?_)
  refine Reg.op rfl (Ope.load rfl rfl ?_)
  refine Reg.op rfl (Ope.fld rfl rfl ?_)
  refine Reg.op rfl (Ope.fld rfl rfl ?_)
  refine Reg.op rfl (Ope.load rfl rfl ?_)
  refine Reg.op rfl (Ope.bld rfl rfl ?_)
  refine Reg.op rfl (Ope.fld rfl rfl ?_)
  refine Reg.op rfl (Ope.fld rfl rfl ?_)
  refine Reg.op rfl (Ope.load rfl rfl ?_)
  refine Reg.op rfl (Ope.fld rfl rfl ?_)
  refine Reg.op rfl (Ope.fld rfl rfl ?_)
  refine Reg.op rfl (Ope.load rfl rfl ?_)
  refine Reg.op rfl (Ope.bld rfl rfl ?_)
  refine Reg.op rfl (Ope.fld rfl rfl ?_)
  refine Reg.op rfl (Ope.load rfl rfl ?_)
  refine Reg.op rfl (Ope.fld rfl rfl ?_)
  refine Reg.op rfl (Ope.load rfl rfl ?_)
  refine Reg.op rfl (Ope.bld rfl rfl ?_)
  refine Reg.op rfl (Ope.bsl rfl rfl rfl rfl ?_)
  refine Reg.op rfl (Ope.cf rfl rfl (hd) rfl ?_)
  refine Reg.op rfl (Ope.asg rfl ?_)
  exact Reg.nil (Run.ret (fin_ret (.tmp rfl .nil) rfl rfl))
end Go.Pv
namespace Go.Pv
open Go.Am Go.RowKit
structure Seen (n:Nat) (seen:List Nat):Prop where
 nd:seen.Nodup
 lt:∀ p∈seen,p < n
theorem Seen.nil (n:Nat):Seen n []:=⟨List.nodup_nil,fun p hp=>by cases hp⟩
theorem Seen.snoc {n p:Nat} {seen:List Nat} (h:Seen n seen) (hp:p < n) (hs:p ∉ seen):Seen n (seen++[p]):=by
 refine ⟨List.nodup_append.2 ⟨h.nd,by simp,fun a ha b hb=>?_⟩,fun q hq=>?_⟩
 ·rw [List.mem_singleton.1 hb]
  intro e
  exact hs (e ▸ ha)
 ·rcases List.mem_append.1 hq with hq | hq
  ·exact h.lt q hq
  ·rw [List.mem_singleton.1 hq];exact hp
theorem Seen.len {n:Nat} {seen:List Nat} (h:Seen n seen):seen.length≤n:=by
 have:=h.nd.length_le_of_subset (l₂:=List.range n) fun p hp=>List.mem_range.2 (h.lt p hp)
 simpa using this
theorem Seen.done {n:Nat} {seen:List Nat} (h:Seen n seen) (ha:∀ p,p < n→p∈seen):seen.Perm (List.range n) :=
 (List.perm_ext_iff_of_nodup h.nd List.nodup_range).2 fun p=>⟨fun hp=>List.mem_range.2 (h.lt p hp),fun hp=>ha p (List.mem_range.1 hp)⟩
theorem Seen.len_lt {n p:Nat} {seen:List Nat} (h:Seen n seen) (hp:p < n) (hs:p ∉ seen):seen.length < n:=by
 have:=(h.snoc hp hs).len
 simp at this
 omega
def pick {α:Type} (xs:List α) (seen:List Nat):List α:=seen.filterMap fun p=>xs[p]?
theorem pick_snoc {α:Type} {xs:List α} {seen:List Nat} {p:Nat} (hp:p < xs.length):pick xs (seen++[p])=pick xs seen++[xs[p]]:=by
 simp [pick,List.filterMap_append,hp]
section
variable {C:Cx} {F:EQ} {X:EX} {k:List KI} {e:EL} {ds:List Nat} {h:PH} {n m:Nat} {l l':HL} {K:PV→PH→Prop}
variable {d:Option Nat} {type:TypeId} {pos:String} {after:Array Edge} {guard:Option (Nat×Bool)}
theorem Ope.rngF {t kt:Nat} {z:PV} {x:Operand} {ks:List AV} {vs:List PV} [hm:Mpt C.A t kt z] (hx:pev (lget e) x=some (.fm ks vs)) (hK:K (.ptr n 0) (HE (n+1) ((n,some (.fit ks vs []))::l))) :
  Ope C X { dst:=d,op:=.range t x,type,pos,after,guard } e ds (HE n l) K:=by
 obtain ⟨et,h1,h2⟩:=hm.get
 unfold Ope
 simp only [pop,pkind,ploud,hx,PRangeM,h1]
 rw [HE_add]
 exact hK
theorem Ope.nxtF {α:Type} {xs:List α} {kf:α→AV} {vf kv:α→PV} {i:Nat} {x:Operand} {b:Bool} {seen:List Nat} (hof:∀ a,PV.ofAV (kf a)=some (kv a)) (hx:pev (lget e) x=some (.ptr i 0)) (hg:hget l i=some (.fit (xs.map kf) (xs.map vf) seen)) (hb:b=false)
  (h1:(∀ p,p < xs.length→p∈seen)→K (.tup [B false]) (HE n l))
  (h2:∀ p (hp:p < xs.length),p ∉ seen→K (.tup [B true,kv xs[p],vf xs[p]]) (HE n ((i,some (.fit (xs.map kf) (xs.map vf) (seen++[p])))::l))) :
  Ope C X { dst:=d,op:=.next x b,type,pos,after,guard } e ds (HE n l) K:=by
 subst hb
 unfold Ope
 simp only [pop,pkind,ploud,hx,PNext]
 refine .inl ⟨xs.map kf,xs.map vf,seen,hg,?_,?_⟩
 ·intro ha
  exact h1 (by simpa using ha)
 ·intro p hp hps
  have hp':p < xs.length:=by simpa using hp
  exact ⟨kf xs[p],vf xs[p],kv xs[p],by simp [hp'],by simp [hp'],hof _,by rw [HE_put];exact h2 p hp' hps⟩
theorem Ope.lookF {t kt:Nat} {z kv:PV} {ka:AV} {x y:Operand} {ks:List AV} {vs:List PV} {ok:Bool} {r:Option PV} [hm:Mpt C.A t kt z] (hx:pev (lget e) x=some (.fm ks vs)) (hk:pev (lget e) y=some kv) (hka:PV.toAV kv=some ka)
  (hc:acheck C.A 20 kt ka=true) (hf:pfindF C.A C.E kt ka ks vs=some r) (hK:K (pok ok (r.getD z) r.isSome) (HE n l)):Ope C X { dst:=d,op:=.lookup t x y ok,type,pos,after,guard } e ds (HE n l) K:=by
 refine Ope.quiet rfl ?_ hK
 obtain ⟨et,h1,h2⟩:=hm.get
 cases r<;>simp only [pquiet,hx,hk,plookup,h1,hka,pentries,hc,hf,h2,Option.getD,Option.isSome]
end
theorem perm_map_inv {α β:Type} {f:α→β} {xs ys:List β} (hp:xs.Perm ys):∀ {es:List α},es.map f=xs→∃ es':List α,es'.Perm es∧es'.map f=ys:=by
 induction hp with
 |nil=>intro es h;exact ⟨es,List.Perm.refl _,h⟩
 |cons x _ ih =>
  intro es h
  cases es with
  |nil=>cases h
  |cons e es =>
   simp only [List.map_cons,List.cons.injEq] at h
   obtain ⟨es',p1,p2⟩:=ih h.2
   exact ⟨e::es',p1.cons e,by simp [h.1,p2]⟩
 |swap x y l =>
  intro es h
  match es,h with
  |e::e'::es,h =>
   simp only [List.map_cons,List.cons.injEq] at h
   exact ⟨e'::e::es,List.Perm.swap _ _ _,by simp [h.1,h.2.1,h.2.2]⟩
 |trans _ _ ih1 ih2 =>
  intro es h
  obtain ⟨es1,p1,p2⟩:=ih1 h
  obtain ⟨es2,q1,q2⟩:=ih2 p2
  exact ⟨es2,q1.trans p1,q2⟩
theorem RE3_permL {s:St} {es es':List (AV×PV×Nat)} (hp:es.Perm es'):∀ {xs:List MapEntry},RE3 s es xs→∃ xs',xs'.Perm xs∧RE3 s es' xs':=by
 induction hp with
 |nil=>intro xs h;exact ⟨xs,List.Perm.refl _,h⟩
 |cons x _ ih =>
  intro xs h
  obtain ⟨y,ys,rfl,h1,h2,h3,h4⟩:=h
  obtain ⟨ys',p1,p2⟩:=ih h4
  exact ⟨y::ys',p1.cons y,y,ys',rfl,h1,h2,h3,p2⟩
 |swap x y l =>
  intro xs h
  obtain ⟨a,aq,rfl,h1,h2,h3,b,bs,rfl,g1,g2,g3,g4⟩:=h
  exact ⟨b::a::bs,List.Perm.swap _ _ _,b,_,rfl,g1,g2,g3,a,bs,rfl,h1,h2,h3,g4⟩
 |trans _ _ ih1 ih2 =>
  intro xs h
  obtain ⟨xs1,p1,p2⟩:=ih1 h
  obtain ⟨xs2,q1,q2⟩:=ih2 p2
  exact ⟨xs2,q1.trans p1,q2⟩
theorem RE3.parts {s:St}:∀ {es:List (AV×PV×Nat)} {zs:List MapEntry},RE3 s es zs→KL (es.map (·.1)) (zs.map (·.key))∧RVs s (es.map (·.2.1)) (zs.map (·.val))∧es.map (·.2.2)=zs.map (·.born)
 |[],zs,h=>by cases h;exact ⟨rfl,RVs_nil.2 rfl,rfl⟩
 |e::es,_,⟨y,ys,h0,h1,h2,h3,h4⟩=>by
  subst h0
  obtain ⟨p1,p2,p3⟩:=RE3.parts h4
  exact ⟨⟨_,_,rfl,h1,p1⟩,RVs_cons.2 ⟨_,_,rfl,h2,p2⟩,by simp only [List.map_cons,h3,p3]⟩
theorem RV_fm {s:St} {ks:List AV} {vs:List PV} {x:Value}:RV s (.fm ks vs) x↔∃ k c zs,x=.map (some k)∧FM0 s k ks c zs∧RVs s vs (zs.map (·.val)):=by
 unfold RV R2;exact Iff.rfl
theorem freeze_fm {s:St} {w0:Base} (hw:PW w0 s) {i:Nat} {es:List (AV×PV×Nat)} {clock:Nat} (hi:s.h.get i=some (.map es clock)) (hb:∀ e∈es,e.2.2 < clock) (hnd:(es.map (·.2.2)).Nodup) {qs:List (AV×PV)} (hp:(es.map fun e=>(e.1,e.2.1)).Perm qs) {x:Value} (hx:RV s (.mp i) x) :
  RV (s.freeze i 0) (.fm (qs.map (·.1)) (qs.map (·.2))) x:=by
 obtain ⟨_,rfl⟩:=RV_mp.1 hx
 obtain ⟨arr,h1,h2,h3,h4⟩:=hw.map hi
 have hxe:=Ext.freeze (n:=0) h4
 obtain ⟨es',p1,p2⟩:=perm_map_inv hp rfl
 obtain ⟨zs,q1,q2⟩:=RE3_permL p1.symm h2
 obtain ⟨r1,r2,r3⟩:=q2.parts
 have e1:es'.map (·.1)=qs.map (·.1):=by rw [← p2];simp
 have e2:es'.map (·.2.1)=qs.map (·.2):=by rw [← p2];simp
 refine RV_fm.2 ⟨s.e i,clock,zs,rfl,⟨arr,fmp_some.2 ⟨⟨0,none,upd_self _ _ _⟩,h1⟩,q1,by rw [← e1];exact r1,fun z hz=>?_,?_⟩,?_⟩
 ·obtain ⟨e,he,_,_,e4⟩:=q2.mem z hz
  rw [← e4]
  exact hb e (p1.mem_iff.1 he)
 ·rw [← r3]
  exact ((p1.map (·.2.2)).nodup_iff).2 hnd
 ·rw [← e2]
  exact (R2s.ext hxe _).1 _ r2
section
variable {C:Cx} {F:EQ} {X:EX} {k:List KI} {e:EL} {ds:List Nat} {h:PH} {n m:Nat} {l l':HL}
theorem Run.frzM {c:Code} {d i:Nat} {es:List (AV×PV×Nat)} {clock:Nat} (qs:List (AV×PV)) (hd:lget e d=some (.mp i)) (hg:hget l i=some (.map es clock)) (hb:∀ e∈es,e.2.2 < clock) (hnd:(es.map (·.2.2)).Nodup) (hp:(es.map fun e=>(e.1,e.2.1)).Perm qs)
  (hr:Run C F X (.c c::k) ((d,.fm (qs.map (·.1)) (qs.map (·.2)))::e) ds (HE n ((i,none)::l))):Run C F X (.c c::k) e ds (HE n l):=by
 refine Run.ghost (fun t ht=>⟨t.set d (.fm (qs.map (·.1)) (qs.map (·.2))),?_,?_⟩) hr
 ·intro j u hj
  simp only [lget] at hj
  simp only [T.get_set]
  split at hj
  ·next hb=>rw [if_pos (Nat.eq_of_beq_eq_true hb)];exact hj
  ·next hb =>
   rw [if_neg (fun c=>by subst c;simp at hb)]
   exact ht j u hj
 ·intro w0 s arr a1 a2 a3
  have hi:s.h.get i=some (.map es clock):=by rw [a2];exact hg
  obtain ⟨_,_,_,_,hlive⟩:=a1.map hi
  have hx:=Ext.freeze (n:=0) hlive
  refine ⟨s.freeze i 0,rfl,a1.freezeB hi rfl,hx,?_,?_⟩
  ·show s.h.del i=_
   rw [a2,HE_del]
  ·intro j u hj
   simp only [T.get_set] at hj
   split at hj
   ·next hjd =>
    cases hj
    subst hjd
    obtain ⟨x,x1,x2⟩:=a3 j _ (ht j _ hd)
    exact ⟨x,x1,freeze_fm a1 hi hb hnd hp x2⟩
   ·exact (a3.ext hx) j u hj
end
end Go.Pv
namespace Go.Pv
open Go.Am Go.RowKit
def FeedA (P:Program) (y:PV) (R:PV→PH→Prop) (A:PV→Prop):Nat→List PV→Nat→HL→Prop
 |0,pre,n,l=>(∀ v,A v→v∈pre)→∀ m,n≤m→∀ u,R u (HE m l)
 |k+1,pre,n,l=>((∀ v,A v→v∈pre)→∀ m,n≤m→∀ u,R u (HE m l))∧∀ v,A v→∀ m,n≤m→PCallV P y [v] (HE m l) (fun b h'=>∃ m' l',h'=HE m' l'∧m≤m' ∧
   ((b=B true∧FeedA P y R A k (pre++[v]) m' l')∨(b=B false∧∀ m2,m'≤m2→∀ u,R u (HE m2 l')))) fun _ _=>False
theorem FeedA.done {P:Program} {y:PV} {R:PV→PH→Prop} {A:PV→Prop} {pre:List PV} {n:Nat} {l:HL}:∀ {k:Nat},FeedA P y R A k pre n l→(∀ v,A v→v∈pre)→∀ m,n≤m→∀ u,R u (HE m l)
 |0,h=>h
 |_+1,h=>h.1
theorem FeedA.mono {P:Program} {y:PV} {R:PV→PH→Prop} {A:PV→Prop} {pre:List PV} {n n':Nat} {l:HL} (hn:n≤n'):∀ {k:Nat},FeedA P y R A k pre n l→FeedA P y R A k pre n' l
 |0,h=>fun ha m hm=>h ha m (Nat.le_trans hn hm)
 |_+1,h=>⟨fun ha m hm=>h.1 ha m (Nat.le_trans hn hm),fun v hv m hm=>h.2 v hv m (Nat.le_trans hn hm)⟩
section
variable {C:Cx} {F:EQ} {X:EX} {k:List KI} {e:EL} {ds:List Nat} {K:PV→PH→Prop} {n:Nat} {own l:HL}
variable {d:Option Tmp} {type:TypeId} {pos:String} {after:Array Edge} {guard:Option (Nat×Bool)}
end
section
variable {C:Cx} {F:EQ} {X:EX} {k:List KI} {e:EL} {ds:List Nat} {h:PH} {n:Nat} {l:HL}
end
section
variable {C:Cx} {F:EQ} {X:EX} {k:List KI} {e:EL} {ds:List Nat} {n m:Nat} {l l':HL} {K:PV→PH→Prop}
variable {d:Option Nat} {type:TypeId} {pos:String} {after:Array Edge} {guard:Option (Nat×Bool)}
end
def esI:Nat→List (Int×PV)→List (AV×PV×Nat)
 |_,[]=>[]
 |b,p::M=>(.int .i64 p.1,p.2,b)::esI (b+1) M
def getI (M:List (Int×PV)) (x:Int):Option PV:=(M.find? fun p=>decide (p.1=x)).map (·.2)
def setI:List (Int×PV)→Int→PV→List (Int×PV)
 |[],x,v=>[(x,v)]
 |p::M,x,v=>if p.1=x then (x,v)::M else p::setI M x v
theorem esI_app:∀ (b:Nat) (M N:List (Int×PV)),esI b (M++N)=esI b M++esI (b+M.length) N
 |b,[],N=>rfl
 |b,p::M,N=>by simp only [List.cons_append,esI,esI_app (b+1) M N,List.length_cons];congr 3;omega
theorem esI_born:∀ (b:Nat) (M:List (Int×PV)),∀ e∈esI b M,b≤e.2.2∧e.2.2 < b+M.length
 |b,[],e,h=>by cases h
 |b,p::M,e,h=>by
  rcases List.mem_cons.1 h with rfl | h
  ·exact ⟨Nat.le_refl _,by simp⟩
  ·have:=esI_born (b+1) M e h
   simp only [List.length_cons]
   omega
theorem esI_nodup:∀ (b:Nat) (M:List (Int×PV)),((esI b M).map (·.2.2)).Nodup
 |b,[]=>List.nodup_nil
 |b,p::M=>by
  simp only [esI,List.map_cons,List.nodup_cons]
  refine ⟨fun h=>?_,esI_nodup (b+1) M⟩
  obtain ⟨e,he,hb⟩:=List.mem_map.1 h
  have:=(esI_born (b+1) M e he).1
  omega
theorem esI_pairs:∀ (b:Nat) (M:List (Int×PV)),(esI b M).map (fun e=>(e.1,e.2.1))=M.map fun p=>(AV.int .i64 p.1,p.2)
 |b,[]=>rfl
 |b,p::M=>by simp only [esI,List.map_cons,esI_pairs (b+1) M]
theorem aeqv_int {A:AP} {E:Eqs} {kt:TypeId} {kd:IntKind} (hk:A.under kt=some (.int kd)) (a b:Int):aeqv A E 20 kt (.int .i64 a) (.int .i64 b)=some (a == b):=by
 simp only [aeqv,hk,decide_true]
theorem acheck_int {A:AP} {kt:TypeId} {kd:IntKind} (hk:A.under kt=some (.int kd)) (a:Int):acheck A 20 kt (.int .i64 a)=true:=by
 simp only [acheck,hk]
theorem pfind_esI {A:AP} {E:Eqs} {kt:TypeId} {kd:IntKind} (hk:A.under kt=some (.int kd)) (x:Int):∀ (M:List (Int×PV)) (b i:Nat),∃ r,pfind A E kt (.int .i64 x) (esI b M) i=some r∧r.map (·.2)=getI M x ∧
  ∀ j v,r=some (j,v)→i≤j∧(∃ e,(esI b M)[j - i]?=some e∧e.1=.int .i64 x)∧∀ u,psetAt (esI b M) (j - i) (.int .i64 x) u=esI b (setI M x u)
 |[],b,i=>⟨none,rfl,rfl,fun j v h=>by cases h⟩
 |p::M,b,i=>by
  simp only [esI,pfind,aeqv_int hk,getI,List.find?_cons]
  by_cases hp:p.1=x
  ·have e1:(x == p.1)=true:=by rw [hp];simp
   rw [e1,decide_eq_true hp]
   refine ⟨_,rfl,rfl,fun j v h=>?_⟩
   cases h
   refine ⟨Nat.le_refl _,⟨(.int .i64 p.1,p.2,b),by rw [Nat.sub_self];rfl,by rw [hp]⟩,fun u=>?_⟩
   rw [Nat.sub_self,setI,if_pos hp]
   rfl
  ·have e1:(x == p.1)=false:=by simp only [beq_eq_false_iff_ne,ne_eq];exact fun h=>hp h.symm
   rw [e1,decide_eq_false hp]
   obtain ⟨r,h1,h2,h3⟩:=pfind_esI hk x M (b+1) (i+1)
   refine ⟨r,h1,h2,fun j v h=>?_⟩
   obtain ⟨g1,⟨e,g2,g3⟩,g4⟩:=h3 j v h
   have hj:j - i=(j - (i+1))+1:=by omega
   refine ⟨by omega,⟨e,by rw [hj];simpa using g2,g3⟩,fun u=>?_⟩
   rw [hj,setI,if_neg hp,psetAt,g4 u]
   rfl
theorem getI_none {M:List (Int×PV)} {x:Int} (h:getI M x=none) (u:PV):setI M x u=M++[(x,u)]:=by
 induction M with
 |nil=>rfl
 |cons p M ih =>
  simp only [getI,List.find?_cons] at h
  by_cases hp:p.1=x
  ·rw [decide_eq_true hp] at h;cases h
  ·rw [decide_eq_false hp] at h
   rw [setI,if_neg hp,ih h];rfl
section
variable {C:Cx} {F:EQ} {X:EX} {k:List KI} {e:EL} {ds:List Nat} {n m:Nat} {l l':HL} {K:PV→PH→Prop}
variable {d:Option Nat} {type:TypeId} {pos:String} {after:Array Edge} {guard:Option (Nat×Bool)}
theorem asame_int (x:Int):asame 20 (.int .i64 x) (.int .i64 x)=true:=by simp [asame]
theorem Ope.msetI {t kt i:Nat} {z vv:PV} {kd:IntKind} {x y u:Operand} {M:List (Int×PV)} {q:Int} [hm:Mpt C.A t kt z] (hkd:C.A.under kt=some (.int kd)) (hx:pev (lget e) x=some (.mp i)) (hk:pev (lget e) y=some (I q)) (hv:pev (lget e) u=some vv)
  (hg:hget l i=some (.map (esI 0 M) M.length)) (hK:K (.tup []) (HE n ((i,some (.map (esI 0 (setI M q vv)) (setI M q vv).length))::l))):Ope C X { dst:=d,op:=.mapUpdate t x y u,type,pos,after,guard } e ds (HE n l) K:=by
 obtain ⟨r,h1,h2,h3⟩:=pfind_esI (E:=C.E) hkd q M 0 0
 have hlen:∀ {M:List (Int×PV)} {w:PV},getI M q=some w→(setI M q vv).length=M.length:=by
  intro M w
  induction M with
  |nil=>intro h;cases h
  |cons p M ih =>
   intro h
   by_cases hp:p.1=q
   ·rw [setI,if_pos hp];rfl
   ·simp only [getI,List.find?_cons,decide_eq_false hp] at h
    rw [setI,if_neg hp,List.length_cons,ih h,List.length_cons]
 refine Ope.mset hx hk hv rfl hg (acheck_int hkd q) h1 (fun j v hj=>?_) (fun j v hj=>?_) fun hn=>?_
 ·obtain ⟨_,⟨e,g1,g2⟩,_⟩:=h3 j v hj
  exact ⟨e,by simpa using g1,by rw [g2];exact asame_int q⟩
 ·obtain ⟨_,_,g⟩:=h3 j v hj
  have:=g vv
  rw [Nat.sub_zero] at this
  rw [this]
  subst hj
  rw [hlen (w:=v) h2.symm] at hK
  exact hK
 ·subst hn
  have hn:=getI_none h2.symm vv
  rw [hn,esI_app,List.length_append] at hK
  rw [Nat.zero_add] at hK
  exact hK
theorem Ope.lookI {t kt i:Nat} {z:PV} {kd:IntKind} {x y:Operand} {M:List (Int×PV)} {q:Int} {ok:Bool} [hm:Mpt C.A t kt z] (hkd:C.A.under kt=some (.int kd)) (hx:pev (lget e) x=some (.mp i)) (hk:pev (lget e) y=some (I q))
  (hg:hget l i=some (.map (esI 0 M) M.length)) (hK:K (pok ok ((getI M q).getD z) (getI M q).isSome) (HE n l)):Ope C X { dst:=d,op:=.lookup t x y ok,type,pos,after,guard } e ds (HE n l) K:=by
 obtain ⟨r,h1,h2,h3⟩:=pfind_esI (E:=C.E) hkd q M 0 0
 refine Ope.look hx hk rfl hg (acheck_int hkd q) h1 ?_
 rw [← h2] at hK
 cases r with
 |none=>exact hK
 |some p=>exact hK
theorem pfindF_I {A:AP} {E:Eqs} {kt:TypeId} {kd:IntKind} (hk:A.under kt=some (.int kd)) (x:Int):∀ (M:List (Int×PV)),(M.map (·.1)).Nodup→pfindF A E kt (.int .i64 x) (M.map fun p=>.int .i64 p.1) (M.map (·.2))=some (getI M x)
 |[],_=>rfl
 |p :: M, hn => by
  simp only [List.map_cons,List.nodup_cons] at hn
  simp only [List.map_cons,pfindF,aeqv_int hk,pfindF_I hk x M hn.2,getI,List.find?_cons]
  by_cases hp:p.1=x
  ·have e1:(x == p.1)=true:=by rw [hp];simp
   rw [e1,decide_eq_true hp]
   have hnone:(M.find? fun p=>decide (p.1=x))=none:=by
    rw [List.find?_eq_none]
    intro q hq
    rw [decide_eq_true_eq]
    intro hqx
    exact hn.1 (List.mem_map.2 ⟨q,hq,by rw [hp,hqx]⟩)
   rw [hnone]
   rfl
  ·have e1:(x == p.1)=false:=by simp only [beq_eq_false_iff_ne,ne_eq];exact fun h=>hp h.symm
   rw [e1,decide_eq_false hp]
theorem Ope.lookFI {t kt:Nat} {z:PV} {kd:IntKind} {x y:Operand} {M:List (Int×PV)} {q:Int} {ok:Bool} [hm:Mpt C.A t kt z] (hkd:C.A.under kt=some (.int kd)) (hnd:(M.map (·.1)).Nodup) (hx:pev (lget e) x=some (.fm (M.map fun p=>.int .i64 p.1) (M.map (·.2)))) (hk:pev (lget e) y=some (I q))
  (hK:K (pok ok ((getI M q).getD z) (getI M q).isSome) (HE n l)):Ope C X { dst:=d,op:=.lookup t x y ok,type,pos,after,guard } e ds (HE n l) K :=
 Ope.lookF hx hk rfl (acheck_int hkd q) (pfindF_I hkd q M hnd) hK
theorem Run.frzI {c:Code} {dd i:Nat} {M:List (Int×PV)} (hd:lget e dd=some (.mp i)) (hg:hget l i=some (.map (esI 0 M) M.length)) (hr:Run C F X (.c c::k) ((dd,.fm (M.map fun p=>.int .i64 p.1) (M.map (·.2)))::e) ds (HE n ((i,none)::l))):Run C F X (.c c::k) e ds (HE n l):=by
 refine Run.frzM (M.map fun p=>(.int .i64 p.1,p.2)) hd hg (fun x hx=>?_) (esI_nodup 0 M) (by rw [esI_pairs]) ?_
 ·have:=(esI_born 0 M x hx).2
  omega
 ·rw [List.map_map,List.map_map]
  exact hr
end
end Go.Pv
namespace Go.Pv
open Go.Am Go.RowKit
def OwnsB (own l:HL):Prop:=(∀ i,keysB own i=true→∃ b,hget own i=some b∧b.isOwn=false)∧∀ i,keysB own i=true→hget l i=none
theorem OwnsB.hide {own l:HL} {n:Nat} (ho:OwnsB own l):(HE n (own++l)).hide (keysB own)=HE n l:=by
 unfold PH.hide HE
 congr 1
 funext i
 simp only [keysB_app]
 split
 ·next h=>exact (ho.2 i h).symm
 ·rfl
theorem OwnsB.hid {own l:HL} {n:Nat} (ho:OwnsB own l):∀ i,keysB own i=true→∃ b,(HE n (own++l)).get i=some b∧b.isOwn=false:=by
 intro i hi
 obtain ⟨b,hb,hno⟩:=ho.1 i hi
 refine ⟨b,?_,hno⟩
 show hget (own++l) i=some b
 rw [keysB_app,if_pos hi,hb]
theorem OwnsB.one {z:Nat} {b:PBlk} {l:HL} (hb:b.isOwn=false) (hl:hget l z=none):OwnsB [(z,some b)] l:=by
 have key:∀ i,keysB [(z,some b)] i=true→i=z:=fun i hi=>by
  simp only [keysB] at hi
  split at hi
  ·next h=>exact Nat.eq_of_beq_eq_true h
  ·cases hi
 refine ⟨fun i hi=>?_,fun i hi=>?_⟩
 ·rw [key i hi];exact ⟨b,hget_hd,hb⟩
 ·rw [key i hi];exact hl
theorem keysB_one {z:Nat} {b:Option PBlk}:keysB [(z,b)] z=true:=by simp [keysB]
theorem keysB_two {z y:Nat} {b c:Option PBlk}:keysB [(z,b),(y,c)] z=true∧keysB [(z,b),(y,c)] y=true:=by
 refine ⟨by simp [keysB],?_⟩
 simp only [keysB]
 split
 ·rfl
 ·simp
section
variable {P:Program} {own l:HL} {n:Nat}
theorem PCallV.ownedB {f:PV} {args:List PV} {R:PV→PH→Prop} {X:PV→PH→Prop} (ho:OwnsB own l) (hp:PCallV P f args (HE n l) R fun _ _=>False) {K:PV→PH→Prop}
  (hK:∀ v m l',(HE m l').Ok→(∀ i,keysB own i=true→hget l' i=none)→R v (HE m l')→K v (HE m (own++l'))) (hR:∀ v h,R v h→∃ m l',h=HE m l'):PCallV P f args (HE n (own++l)) K X:=by
 rw [← ho.hide] at hp
 refine (PCallV.frameO ho.hid hp).mono ?_ ?_
 ·rintro v h' ⟨h1,r1,r2,rfl⟩
  obtain ⟨m,l',rfl⟩:=hR v h1 r1
  rw [Owns.give]
  exact hK v m l' r2.1 r2.2 r1
 ·rintro v h' ⟨h1,r1,_⟩
  exact r1.elim
end
section
variable {C:Cx} {F:EQ} {X:EX} {k:List KI} {e:EL} {ds:List Nat} {K:PV→PH→Prop} {n:Nat} {own l:HL}
variable {d:Option Tmp} {type:TypeId} {pos:String} {after:Array Edge} {guard:Option (Nat×Bool)}
theorem Ope.entF {α:Type} {xs:List α} {kf:α→AV} {vf kv:α→PV} {i:Nat} {x:Operand} {seen:List Nat} {p:Nat} (hof:∀ a,PV.ofAV (kf a)=some (kv a)) (hp:p < xs.length) (hx:pev (lget e) x=some (.ptr i 0)) (hg:hget l i=some (.fit (xs.map kf) (xs.map vf) (seen++[p])))
  (hK:K (.tup [kv xs[p],vf xs[p]]) (HE n l)) :
  Ope C X { dst:=d,op:=.entry x,type,pos,after,guard } e ds (HE n l) K:=by
 unfold Ope
 simp only [pop,pkind,ploud,hx,PEntry]
 exact .inl ⟨_,_,seen,p,kf xs[p],vf xs[p],kv xs[p],hg,by rw [List.getElem?_map,List.getElem?_eq_getElem hp];rfl,by rw [List.getElem?_map,List.getElem?_eq_getElem hp];rfl,hof _,hK⟩
end
end Go.Pv
namespace Go.Pv
open Go.Am Go.RowKit
section
variable {C:Cx} {F:EQ} {X:EX} {k:List KI} {e:EL} {ds:List Nat} {h:PH} {K:PV→PH→Prop} {n:Nat} {l:HL} {os:List Oper}
variable {d:Option Tmp} {type:TypeId} {pos:String} {after:Array Edge} {guard:Option (Nat×Bool)}
theorem Ope.idxStr {t:TypeId} {x i:Operand} {kk:IntKind} {s:ByteArray} {m z:Nat} (hu:C.A.under t=some .string) (hx:pev (lget e) x=some (.lit (.str s))) (hi:pev (lget e) i=some (.lit (.int kk (m:Int)))) (hz:s.size=z) (hm:m < z)
  (hK:∀ b:Nat,b < 256→K (.lit (.int .u8 (b:Int))) h):Ope C X { dst:=d,op:=.index t x i,type,pos,after,guard } e ds h K:=by
 have hms:m < s.size:=by omega
 refine Ope.quiet rfl ?_ (hK s[m].toNat s[m].toNat_lt)
 have ha:aidx (m:Int) s.size=some m:=by
  show (match Nat.blt m s.size with | true=>some m | false=>none)=some m
  rw [lt_blt hms]
 simp only [pquiet,hx,hi,pindex,hu,ha,getElem?_pos s m hms]
theorem Ope.apLb {t tx sz bytes sz' bytes':Nat} {agg agg':Bool} {x y:Operand} {tl':Tail} {vs ws:List PV} [hs:Slc C.A t agg sz bytes] [hm:Mka C.A t] [hs':Slc C.A tx agg' sz' bytes'] (hx:pev (lget e) x=some (.sl .ex vs)) (hy:pev (lget e) y=some (.sl tl' ws)) (hne:ws≠[])
  (hb1:(vs.length+ws.length) * bytes≤140737488355328) (hb2:vs.length+ws.length≤1000000000) (h1:1≤sz) (hv:∀ v∈vs,v.nc=sz) (hw:∀ v∈ws,v.nc=sz∧PV.allOne v.cells=true)
  (hK:∀ c post ez,vs.length+ws.length≤c→post.length=(c - (vs.length+ws.length)) * sz→K (.ms n 0 (vs.length+ws.length) c ez) (HE (n+1) ((n,some (.cells (flat (vs++ws)++post)))::l))) :
  Ope C X { dst:=d,op:=.call { callee:=.builtin .append,args:=#[x,y],argTypes:=#[t,tx] },type,pos,after,guard } e ds (HE n l) K:=by
 obtain ⟨el,ti,q1,q2,q3,q4,q5⟩:=hs.get
 obtain ⟨d',ti',h4,h5,rfl,rfl⟩:=q2.get
 rw [q3] at h5
 cases h5
 subst q4
 obtain ⟨el',ti',q1',_⟩:=hs'.get
 obtain ⟨el2,r1,r4⟩:=hm.get
 rw [q1] at r1
 cases r1
 unfold Ope
 simp only [pop,pkind,ploud,pargs,hx,hy,PAppend,q1,q1',q3]
 refine .inr ⟨hne,hb1,hb2,h1,q5,Each.of hv,Each.of hw,.inr (.inr ⟨r4,fun c vs' p1 p2=>?_⟩)⟩
 rw [HE_add]
 exact hK c vs' _ p1 p2
theorem RegL.apB {d t tx sz bytes sz' bytes' j len cap:Nat} {agg agg':Bool} {ez:Option Nat} {x y:Operand} {tl':Tail} {vs ws post:List PV} {type:TypeId} {pos:String} {after:Array Edge}
  [hs:Slc C.A t agg sz bytes] [hm:Mka C.A t] [hs':Slc C.A tx agg' sz' bytes'] (hd:Nat.blt d C.sz=true) (hx:pev (lget e) x=some (.ms j 0 len cap ez)) (hy:pev (lget e) y=some (.sl tl' ws))
  (hg:hget l j=some (.cells (flat vs++post))) (hlen:len=vs.length) (hlc:len≤cap) (hp:post.length=(cap - len) * sz)
  (hb1:(vs.length+ws.length) * bytes≤140737488355328) (hb2:vs.length+ws.length≤1000000000) (hv:∀ v∈vs,v.nc=sz) (hw:∀ v∈ws,v.nc=sz∧PV.allOne v.cells=true)
  (hK:∀ j' n' c post' ez',(j'=j∧n'=n)∨(j'=n∧n'=n+1)→vs.length+ws.length≤c→post'.length=(c - (vs.length+ws.length)) * sz→RegL C F X k os ((d,.ms j' 0 (vs.length+ws.length) c ez')::e) ds (HE n' ((j',some (.cells (flat (vs++ws)++post')))::l))) :
  RegL C F X k ({ dst:=some d,op:=.call { callee:=.builtin .append,args:=#[x,y],argTypes:=#[t,tx] },type,pos,after,guard:=none }::os) e ds (HE n l):=by
 obtain ⟨el,ti,q1,q2,q3,q4,q5⟩:=hs.get
 obtain ⟨d',ti',h4,h5,rfl,rfl⟩:=q2.get
 rw [q3] at h5
 cases h5
 subst q4
 obtain ⟨el',ti',q1',_⟩:=hs'.get
 obtain ⟨el2,r1,r4⟩:=hm.get
 rw [q1] at r1
 cases r1
 unfold RegL
 intro t ht
 refine ⟨hd,rfl,.inr (.inl ⟨_,_,_,_,_,rfl,rfl,rfl,?_,el,el',ti,q1,q1',q3,j,len,cap,ez,tl',ws,vs,post,rfl,rfl,hlen,hlc,hg,hp,Each.of hv,Each.of hw,hb1,hb2,r4,fun vs' p1 p2=>?_,fun c vs' p1 p2=>?_⟩)⟩
 ·rw [ht]
  show pargs (pev (lget e)) [x,y]=_
  simp only [pargs,hx,hy]
 ·have h:=hK j n cap vs' ez (.inl ⟨rfl,rfl⟩) p1 p2
  unfold RegL at h
  rw [HE_put]
  exact h _ (put_get ht d _)
 ·have h:=hK n (n+1) c vs' (ezOf C.A el) (.inr ⟨rfl,rfl⟩) p1 p2
  unfold RegL at h
  rw [HE_add]
  exact h _ (put_get ht d _)
theorem finH_retD {fn:Func} {R:PV→PH→Prop} {vs:List PV} {i n0 m m':Nat} {l':HL} (hd:hget l i=some .dfr) (hv:Res C.A e ((i,none)::l) fn.results.toList vs) (hn:m≤m') (hs:∀ j b,hget l' j=some b→hget ((i,none)::l) j=some b) (hR:R (pone vs) (HE m' l')) :
  Jmp C (FinH C fn n0 R) X [] .ret e [i] (HE m l):=by
 refine Jmp.done ⟨⟨hd,trivial⟩,vs,?_,?_⟩
 ·simp only [unds,HE_del]
  exact hv.get
 ·simp only [unds,HE_del]
  exact ⟨HE m' l',pone vs,PGh.wide hn hs,hR⟩
end
end Go.Pv
namespace Go.Pv
open Go.Proofs Go.Am
set_option maxRecDepth 10000
theorem pputs_app (A B:List PV) (a o:Nat) (vs:List PV) (h:A.length=a):pputs (A++B) (a+o) vs=A++pputs B o vs:=by
  subst h
  unfold pputs
  rw [List.take_append,List.drop_append]
  have e1:A.length+o - A.length=o:=by omega
  have e2:A.length+o+vs.length - A.length=o+vs.length:=by omega
  rw [e1,e2,List.take_of_length_le (by omega),List.drop_eq_nil_of_le (by omega)]
  simp [List.append_assoc]
theorem part_rpt (post:List PV):∀ (L:List Rpt) (p:Nat) (h:p < L.length) (q:Nat),q=8 * p→partK true q 8 (flat (L.map Rpt.v)++post)=some L[p].v
  | ⟨_,_,_,_,_,_,_,_⟩::L,0,_,q,hq=>by subst hq;simp [partK,cutK,flat,Rpt.v,PV.cells]
  | d :: L, p + 1, h, q, hq => by
    subst hq
    have ih:=part_rpt post L p (by simpa using h) _ rfl
    rw [show 8 * (p+1)=8 * p+1+1+1+1+1+1+1+1 from by omega]
    simp only [partK,List.map_cons,flat,Rpt.v,PV.cells,List.cons_append,List.nil_append,List.append_assoc,cutK,List.getElem_cons_succ] at ih ⊢
    exact ih
theorem put_rpt (post:List PV) (x:Rpt):∀ (L:List Rpt) (p:Nat) (h:p < L.length) (q:Nat),q=8 * p→pputs (flat (L.map Rpt.v)++post) q x.v.cells=flat ((L.set p x).map Rpt.v)++post
  | d::L,0,_,q,hq=>by subst hq;simp [pputs,flat,Rpt.v,PV.cells]
  | d :: L, p + 1, h, q, hq => by
    subst hq
    simp only [List.map_cons,flat,List.set_cons_succ,List.append_assoc]
    rw [show 8 * (p+1)=8+8 * p from by omega,pputs_app _ _ 8 _ _ rfl,put_rpt post x L p (by simpa using h) _ rfl]
theorem rpts_len (L:List Rpt) (post:List PV):(flat (L.map Rpt.v)++post).length=8 * L.length+post.length:=by
  have:(flat (L.map Rpt.v)).length=8 * L.length:=by
    induction L with
    | nil=>rfl
    | cons d L ih =>
      simp only [List.map_cons,flat,List.length_append,ih,List.length_cons]
      show 8+_=_
      omega
  rw [List.length_append,this]
theorem str_t:A0.under 9=some .string:=by kernel_rfl
theorem f148 (n:Nat) (h:n≤100):PFun P0 148 [.lit (.int .u64 n)] (fun v=>∃ k:Int,v=I k) fun _=>False:=by
  refine PFun.of (C:=c148) (cx_ok _ _ _) rfl (fn:=Tryz.f148) (by kernel_rfl) (c:=_) rfl rfl rfl ?_
  refine Run.seq (Run.region (cx_ok _ _ _) (Reg.op rfl (Ope.asg rfl ?_)))
  refine Reg.nil (Run.seq (Run.seq (Run.region (cx_ok _ _ _) (Reg.op rfl (Ope.mov rfl ?_)))))
  refine Reg.op rfl (Ope.ge rfl rfl ?_)
  refine Reg.nil (Run.condX rfl (fun hc=>?_) fun hc=>?_)
  ·(exfalso;omega)
  ·refine Run.skip (Run.seq (Run.seq (Run.region (cx_ok _ _ _) (Reg.op rfl (Ope.mov rfl ?_)))))
   refine Reg.op rfl (Ope.ge rfl rfl ?_)
   refine Reg.nil (Run.condX rfl (fun hc=>?_) fun hc=>?_)
   ·(exfalso;omega)
   ·refine Run.skip (Run.seq (Run.seq (Run.region (cx_ok _ _ _) (Reg.op rfl (Ope.mov rfl ?_)))))
    refine Reg.op rfl (Ope.ge rfl rfl ?_)
    refine Reg.nil (Run.condX rfl (fun hc=>?_) fun hc=>?_)
    ·(exfalso;omega)
    ·refine Run.skip (Run.seq (Run.region (cx_ok _ _ _) (Reg.op rfl (Ope.mov rfl ?_))))
     refine Reg.op rfl (Ope.mov rfl ?_)
     refine Reg.op rfl (Ope.convN (p:=n) rfl rfl (by show n < 128;omega) ?_)
     refine Reg.op rfl (Ope.idxStr (m:=n) str_t rfl rfl (by kernel_rfl:_=256) (by omega) (fun b hb=>?_))
     first | refine Reg.op rfl (Ope.conv rfl (wrap_in _ (by omega) (by omega)) ?_) | refine Reg.op rfl (Ope.conv rfl rfl ?_)
     refine Reg.op rfl (Ope.add rfl rfl (by omega) ?_)
     refine Reg.op rfl (Ope.asg rfl ?_)
     refine Reg.nil (Run.ret (fin_ret (.tmp rfl .nil) rfl ?_))
     exact ⟨_,rfl⟩
theorem f123 (n:Nat) (h:n≤100):PFun P0 123 [.lit (.int .u64 n)] (fun v=>∃ k:Int,v=I k) fun _=>False:=by
  have hl:=f148 n h
  refine PFun.of (C:=c123) (cx_ok _ _ _) rfl (fn:=Tryz.f123) (by kernel_rfl) (c:=_) rfl rfl rfl ?_
  refine Run.seq (Run.region (cx_ok _ _ _) (Reg.op rfl (Ope.asg rfl ?_)))
  refine Reg.nil (Run.seq (Run.condF rfl (Run.skip (Run.seq (Run.region (cx_ok _ _ _) (Reg.op rfl (Ope.mov rfl ?_)))))))
  refine Reg.op rfl (Ope.call rfl rfl rfl (hl.call rfl (fun v hv=>?_) fun v hv=>hv.elim))
  obtain ⟨k,rfl⟩:=hv
  refine Reg.op rfl (Ope.asg rfl ?_)
  refine Reg.nil (Run.ret (fin_ret (.tmp rfl .nil) rfl ?_))
  exact ⟨k,rfl⟩
def r00:Rpt:=⟨0,0,0,0,0,0,0,0⟩
def atR (L:List Rpt) (p:Nat):Rpt:=L.getD p r00
theorem atR_get {L:List Rpt} {p:Nat} (h:p < L.length):atR L p=L[p]:=by simp [atR,List.getD,h]
theorem atR_set {L:List Rpt} {i:Nat} {a:Rpt} (h:i < L.length) (p:Nat):atR (L.set i a) p=if p=i then a else atR L p:=by
  unfold atR List.getD
  by_cases hp:p=i
  · subst hp
    rw [if_pos rfl,List.getElem?_set_self h];rfl
  · rw [if_neg hp,List.getElem?_set_ne (fun e=>hp e.symm)]
def swpR (L:List Rpt) (j:Nat):List Rpt:=(L.set (j+1) (atR L j)).set j (atR L (j+1))
theorem swpR_len (L:List Rpt) (j:Nat):(swpR L j).length=L.length:=by simp [swpR]
theorem swpR_perm:∀ (L:List Rpt) (j:Nat),j+1 < L.length→(swpR L j).Perm L
  | [],j,h=>by simp at h
  | [a],j,h=>by simp at h
  | a::b::L,0,h=>List.Perm.swap _ _ _
  | a :: b :: L, j + 1, h => by
    have ih:=swpR_perm (b::L) j (by simpa using h)
    exact ih.cons a
theorem atR_swp {L:List Rpt} {j:Nat} (h:j+1 < L.length) (p:Nat):atR (swpR L j) p=if p=j then atR L (j+1) else if p=j+1 then atR L j else atR L p:=by
  unfold swpR
  rw [atR_set (by simp;omega),atR_set h]
def Ins (L:List Rpt) (i j:Nat):Prop:=∀ p q,p < q→q≤i→q < L.length→q≠j→(atR L p).id < (atR L q).id
theorem ins_swp {L : List Rpt} {i j : Nat} (h : j + 1 < L.length) (hi : j + 1 ≤ i) (hI : Ins L i (j + 1)) (hb : (atR L (j + 1)).id < (atR L j).id) : Ins (swpR L j) i j := by
  intro p q hpq hqi hql hqj
  rw [swpR_len] at hql
  rw [atR_swp h,atR_swp h]
  rw [if_neg hqj]
  by_cases hq1:q=j+1
  · subst hq1
    rw [if_pos rfl]
    by_cases hpj:p=j
    · rw [if_pos hpj];exact hb
    · rw [if_neg hpj, if_neg (by omega)]
      exact hI p j (by omega) (by omega) (by omega) (by omega)
  · rw [if_neg hq1]
    by_cases hpj:p=j
    · rw [if_pos hpj]
      exact hI (j+1) q (by omega) hqi hql hq1
    · rw [if_neg hpj]
      by_cases hp1:p=j+1
      · rw [if_pos hp1]
        exact hI j q (by omega) hqi hql hq1
      · rw [if_neg hp1]
        exact hI p q hpq hqi hql hq1
theorem ins_end {L : List Rpt} {i j : Nat} (hn : (L.map Rpt.id).Nodup) (hj : j < L.length) (hI : Ins L i j) (hb : j = 0 ∨ ∃ k, j = k + 1 ∧ ¬ (atR L j).id < (atR L k).id) : ∀ p q, p < q → q ≤ i → q < L.length → (atR L p).id < (atR L q).id := by
  intro p q hpq hqi hql
  by_cases hqj:q=j
  · subst hqj
    rcases hb with h0 | ⟨k,rfl,hb⟩
    · omega
    · have hne : (atR L (k + 1)).id ≠ (atR L k).id := by
        rw [atR_get hql,atR_get (by omega:k < L.length)]
        intro e
        have h1:(L.map Rpt.id)[k+1]?=(L.map Rpt.id)[k]?:=by
          rw [List.getElem?_map,List.getElem?_map,List.getElem?_eq_getElem hql,List.getElem?_eq_getElem (by omega:k < L.length),Option.map_some,Option.map_some,e]
        have:=(List.getElem?_inj (by simpa using hql) hn).1 h1
        omega
      have hk:(atR L k).id < (atR L (k+1)).id:=by omega
      by_cases hpk:p=k
      · rw [hpk];exact hk
      · have := hI p k (by omega) (by omega) (by omega) (by omega)
        omega
  · exact hI p q hpq hqi hql hqj
theorem pairwise_of {L:List Rpt} (h:∀ p q,p < q→q < L.length→(atR L p).id < (atR L q).id):Srt L:=by
  refine List.pairwise_iff_getElem.2 fun p q hp hq hpq=>?_
  have:=h p q hpq hq
  rw [atR_get hp,atR_get hq] at this
  exact this
theorem ne_ids {L:List Rpt} (hn:(L.map Rpt.id).Nodup) {p q:Nat} (hp:p < L.length) (hq:q < L.length) (h:p≠q):L[p].id≠L[q].id:=fun e=>by
  have h1:(L.map Rpt.id)[p]?=(L.map Rpt.id)[q]?:=by
    rw [List.getElem?_map,List.getElem?_map,List.getElem?_eq_getElem hp,List.getElem?_eq_getElem hq,Option.map_some,Option.map_some,e]
  exact h ((List.getElem?_inj (by simpa using hp) hn).1 h1)
theorem srt_at {L D:List Rpt} (hn:(D.map Rpt.id).Nodup) (hi:IdsOk D) (hp:L.Perm D) (h:∀ p q,p < q→q < L.length→(atR L p).id < (atR L q).id):L=srtR D :=
  srt_of hn hi hp (pairwise_of h)
theorem natK_pred (q:Nat):natK (((q+1:Nat):Int) - 1)=some q:=by
  have:(((q+1:Nat):Int) - 1)=(q:Int):=by omega
  rw [this];rfl
abbrev cmpV:PV:=.fn (.func 95) [] []
theorem f139 (D : List Rpt) (hD : D.length ≤ 100) (hn : (D.map Rpt.id).Nodup) (hid : IdsOk D) (j c m : Nat) (ez : Option Nat) (post : List PV) :
    PCall P0 139 [.ms j 0 D.length c ez,I 0,I D.length,cmpV] (HE m [(j,some (.cells (flat (D.map Rpt.v)++post)))]) (fun v h'=>∃ m',m≤m'∧v=.tup []∧h'=HE m' [(j,some (.cells (flat ((srtR D).map Rpt.v)++post)))]) fun _ _=>False:=by
  have hcmp:=fun a b=>f95 a b
  refine PCall.ofH (C:=c139) (cx_ok _ _ _) rfl (fn:=Tryz.f139) (by kernel_rfl) (c:=_) rfl rfl rfl (fun hok=>?_)
  refine Run.seq (Run.region (cx_ok _ _ _) (Reg.op rfl (Ope.mov rfl ?_)))
  refine Reg.op rfl (Ope.add rfl rfl (by omega) ?_)
  refine Reg.op rfl (Ope.asg rfl ?_)
  refine Reg.nil (Run.block (Run.loop (α:=Nat×List Rpt) (fun t=>[(0,.ms j 0 D.length c ez),(1,I 0),(2,I D.length),(3,cmpV),(8,I t.1)]) (fun t=>HE m [(j,some (.cells (flat (t.2.map Rpt.v)++post)))]) (fun t=>1≤t.1∧t.2.Perm D∧∀ p q,p < q→q < t.1→q < t.2.length→(atR t.2 p).id < (atR t.2 q).id) (fun t=>D.length - t.1) (1,D) ⟨rfl,rfl,rfl,rfl,rfl,trivial⟩ rfl ⟨Nat.le_refl _,List.Perm.refl _,fun p q h1 h2=>by omega⟩ (fun t ht=>?_)))
  obtain ⟨i,L⟩:=t
  obtain ⟨hi,hL,hs⟩:=ht
  simp only at hi hL hs
  have hLl:=hL.length_eq
  show Run _ _ _ _ [(0,.ms j 0 D.length c ez),(1,I 0),(2,I D.length),(3,cmpV),(8,I i)] [] (HE m [(j,some (.cells (flat (L.map Rpt.v)++post)))])
  refine Run.seq (Run.seq (Run.region (cx_ok _ _ _) (Reg.op rfl (Ope.mov rfl ?_))))
  refine Reg.op rfl (Ope.mov rfl ?_)
  refine Reg.op rfl (Ope.lt rfl rfl ?_)
  refine Reg.nil (Run.condX rfl (fun hc=>?_) fun hc=>?_)
  ·refine Run.skip (Run.seq (Run.block (Run.seq ?_)))
   have hiD:i < D.length:=by omega
   refine Run.region (cx_ok _ _ _) (Reg.op rfl (Ope.mov rfl ?_))
   refine Reg.op rfl (Ope.asg rfl ?_)
   refine Reg.nil (Run.block (Run.loop (α:=Nat×List Rpt) (fun t=>[(0,.ms j 0 D.length c ez),(1,I 0),(2,I D.length),(3,cmpV),(8,I i),(9,I t.1)]) (fun t=>HE m [(j,some (.cells (flat (t.2.map Rpt.v)++post)))]) (fun t=>t.1≤i∧t.2.Perm D∧Ins t.2 i t.1) (fun t=>t.1) (i,L) ⟨rfl,rfl,rfl,rfl,rfl,rfl,trivial⟩ rfl ⟨Nat.le_refl _,hL,fun p q h1 h2 h3 h4=>hs p q h1 (by simp only at h2 h4;omega) h3⟩ (fun t ht=>?_)))
   obtain ⟨k,L2⟩:=t
   obtain ⟨hk,hL2,hI⟩:=ht
   simp only at hk hL2 hI
   have hL2l:=hL2.length_eq
   have hn2:(L2.map Rpt.id).Nodup:=((hL2.map Rpt.id).nodup_iff).2 hn
   rcases k with _ | q
   ·refine Run.seq (Run.seq ?_)
    first
    | have hq1:q+1 < L2.length:=by omega
    | skip
    refine Run.draw (cx_ok _ _ _) [(0,true),(1,true),(2,true),(3,true),(4,true),(5,true),(6,true),(7,true),(8,true),(9,true),(10,true),(11,true),(12,true),(13,true),(14,true),(15,true),(16,true)] (by kernel_rfl) (Dra.op' rfl rfl rfl .sure (Ope.mov rfl ?_))
    refine Dra.op' rfl rfl rfl .sure (Ope.mov rfl ?_)
    refine Dra.op' rfl rfl rfl .sure (Ope.gt rfl rfl ?_)
    refine Dra.op' rfl rfl rfl .sure (Ope.mov rfl ?_)
    refine Dra.splitX rfl rfl rfl rfl (fun hg=>?_) fun hg=>?_
    ·first
     |(exfalso;omega)
     |refine Dra.on' rfl rfl rfl rfl rfl .sure (Ope.mov rfl ?_)
      refine Dra.on' rfl rfl rfl rfl rfl .sure (Ope.mov rfl ?_)
      refine Dra.on' rfl rfl rfl rfl rfl .sure (Ope.mov rfl ?_)
      refine Dra.on' rfl rfl rfl rfl rfl .sure (Ope.idxL (m:=q+1) rfl rfl rfl (by omega) ?_)
      refine Dra.on' rfl rfl rfl rfl rfl .sure (Ope.loadH rfl hget_hd (part_rpt post L2 (q+1) hq1 _ (by show 0+(q+1) * 8=_;omega)) ?_)
      refine Dra.on' rfl rfl rfl rfl rfl .sure (Ope.mov rfl ?_)
      refine Dra.on' rfl rfl rfl rfl rfl .sure (Ope.mov rfl ?_)
      refine Dra.on' rfl rfl rfl rfl rfl .sure (Ope.sub rfl rfl (by omega) ?_)
      refine Dra.on' rfl rfl rfl rfl rfl .sure (Ope.idxL (m:=q) rfl rfl (natK_pred q) (by omega) ?_)
      refine Dra.on' rfl rfl rfl rfl rfl .sure (Ope.loadH rfl hget_hd (part_rpt post L2 q (by omega) _ (by show 0+q * 8=_;omega)) ?_)
      refine Dra.on' rfl rfl rfl rfl rfl .sure (Ope.cf rfl rfl (hcmp _ _) rfl ?_)
      refine Dra.on' rfl rfl rfl rfl rfl .sure (Ope.lt rfl rfl ?_)
      refine Dra.op' rfl rfl rfl .sure (Ope.pickT rfl rfl ?_)
      refine Dra.nil (Run.condX rfl (fun hc=>?_) fun hc=>?_)
      ·first
       |(cases hc;done)
       |refine Run.skip (Run.seq (Run.block (Run.draw (cx_ok _ _ _) [(0,true),(1,true),(2,true),(3,true),(4,true),(5,true),(6,true),(7,true),(8,true),(9,true),(10,true),(11,true),(12,true),(13,true),(14,true),(15,true),(16,true),(17,true)] (by kernel_rfl) (Dra.op' rfl rfl rfl .sure (Ope.mov rfl ?_)))))
        refine Dra.op' rfl rfl rfl .sure (Ope.mov rfl ?_)
        refine Dra.op' rfl rfl rfl .sure (Ope.mov rfl ?_)
        refine Dra.op' rfl rfl rfl .sure (Ope.mov rfl ?_)
        refine Dra.op' rfl rfl rfl .sure (Ope.sub rfl rfl (by omega) ?_)
        refine Dra.op' rfl rfl rfl .sure (Ope.mov rfl ?_)
        refine Dra.op' rfl rfl rfl .sure (Ope.mov rfl ?_)
        refine Dra.op' rfl rfl rfl .sure (Ope.sub rfl rfl (by omega) ?_)
        refine Dra.op' rfl rfl rfl .sure (Ope.idxL (m:=q) rfl rfl (natK_pred q) (by omega) ?_)
        refine Dra.op' rfl rfl rfl .sure (Ope.loadH rfl hget_hd (part_rpt post L2 q (by omega) _ (by show 0+q * 8=_;omega)) ?_)
        refine Dra.op' rfl rfl rfl .sure (Ope.mov rfl ?_)
        refine Dra.op' rfl rfl rfl .sure (Ope.mov rfl ?_)
        refine Dra.op' rfl rfl rfl .sure (Ope.idxL (m:=q+1) rfl rfl rfl (by omega) ?_)
        refine Dra.op' rfl rfl rfl .sure (Ope.loadH rfl hget_hd (part_rpt post L2 (q+1) hq1 _ (by show 0+(q+1) * 8=_;omega)) ?_)
        refine Dra.op' rfl rfl rfl .sure (Ope.idxL (m:=q+1) rfl rfl rfl (by omega) ?_)
        refine Dra.op' rfl rfl rfl .sure (Ope.storeP rfl rfl hget_hd rfl rfl (by rw [rpts_len];show 0+(q+1) * 8+8≤8 * L2.length+post.length;omega) ?_)
        rw [put_rpt post L2[q] L2 (q+1) hq1 _ (by show 0+(q+1) * 8=_;omega)]
        refine Dra.op' rfl rfl rfl .sure (Ope.idxL (m:=q) rfl rfl (natK_pred q) (by omega) ?_)
        refine Dra.op' rfl rfl rfl .sure (Ope.storeP rfl rfl hget_hd rfl rfl (by rw [rpts_len];show 0+q * 8+8≤_;simp only [List.length_set];omega) ?_)
        rw [put_rpt post L2[q+1] (L2.set (q+1) L2[q]) q (by simp;omega) _ (by show 0+q * 8=_;omega)]
        refine Dra.nil (Run.bend ?_)
        have hsw:(L2.set (q+1) L2[q]).set q L2[q+1]=swpR L2 q:=by
          unfold swpR;rw [atR_get hq1,atR_get (by omega:q < L2.length)]
        rw [hsw]
        refine Run.wide (m:=m) (l':=[(j,some (.cells (flat ((swpR L2 q).map Rpt.v)++post)))]) (Nat.le_refl _) ⟨hget_hd,trivial⟩ ?_
        refine Run.region (cx_ok _ _ _) (Reg.op rfl (Ope.mov rfl ?_))
        refine Reg.op rfl (Ope.sub rfl rfl (by omega) ?_)
        refine Reg.op rfl (Ope.asg rfl ?_)
        refine Reg.nil ?_
        exact Run.lend ⟨(q,swpR L2 q),by show q < q+1;omega,⟨by show q≤i;omega,(swpR_perm L2 q hq1).trans hL2,ins_swp hq1 (by omega) hI (by
          rw [atR_get hq1,atR_get (by omega:q < L2.length)]
          exact (cmpR_id (ne_ids hn2 hq1 (by omega) (by omega))).1 (by simpa using hc))⟩,⟨rfl,rfl,rfl,rfl,rfl,by rw [show ((q+1:Nat):Int) - 1=(q:Int) by omega];rfl,trivial⟩,rfl,rfl⟩
      ·first
       |(cases hc;done)
       |refine Run.exit (Jmp.code (Jmp.round (Jmp.here (Run.bend (Run.region (cx_ok _ _ _) (Reg.op rfl (Ope.mov rfl ?_)))))))
        refine Reg.op rfl (Ope.add rfl rfl (by omega) ?_)
        refine Reg.op rfl (Ope.asg rfl ?_)
        refine Reg.nil ?_
        first
        | exact Run.lend ⟨(i+1,L2),by show D.length - (i+1) < D.length - i;omega,⟨by show 1≤i+1;omega,hL2,fun p r h1 h2 h3=>ins_end hn2 (by omega) hI (.inl rfl) p r h1 (by simp only at h2;omega) h3⟩,⟨rfl,rfl,rfl,rfl,rfl,trivial⟩,rfl,rfl⟩
        | exact Run.lend ⟨(i+1,L2),by show D.length - (i+1) < D.length - i;omega,⟨by show 1≤i+1;omega,hL2,fun p r h1 h2 h3=>ins_end hn2 (by omega) hI (.inr ⟨q,rfl,by
            rw [atR_get hq1,atR_get (by omega:q < L2.length)]
            exact fun hb=>absurd ((cmpR_id (ne_ids hn2 hq1 (by omega) (by omega))).2 hb) (by simpa using hc)⟩) p r h1 (by simp only at h2;omega) h3⟩,⟨rfl,rfl,rfl,rfl,rfl,trivial⟩,rfl,rfl⟩
    ·first
     |(exfalso;omega)
     |refine Dra.off' rfl rfl rfl (.inl rfl) rfl (Dra.off' rfl rfl rfl (.inl rfl) rfl (Dra.off' rfl rfl rfl (.inl rfl) rfl (Dra.off' rfl rfl rfl (.inl rfl) rfl (Dra.off' rfl rfl rfl (.inl rfl) rfl (Dra.off' rfl rfl rfl (.inl rfl) rfl (Dra.off' rfl rfl rfl (.inl rfl) rfl (Dra.off' rfl rfl rfl (.inl rfl) rfl (Dra.off' rfl rfl rfl (.inl rfl) rfl (Dra.off' rfl rfl rfl (.inl rfl) rfl (Dra.off' rfl rfl rfl (.inl rfl) rfl (Dra.off' rfl rfl rfl (.inl rfl) rfl (Dra.op' rfl rfl rfl .sure (Ope.pickF rfl rfl ?_)))))))))))))
      refine Dra.nil (Run.condF rfl (Run.exit (Jmp.code (Jmp.round (Jmp.here (Run.bend (Run.region (cx_ok _ _ _) (Reg.op rfl (Ope.mov rfl ?_)))))))))
      refine Reg.op rfl (Ope.add rfl rfl (by omega) ?_)
      refine Reg.op rfl (Ope.asg rfl ?_)
      refine Reg.nil ?_
      first
      | exact Run.lend ⟨(i+1,L2),by show D.length - (i+1) < D.length - i;omega,⟨by show 1≤i+1;omega,hL2,fun p r h1 h2 h3=>ins_end hn2 (by omega) hI (.inl rfl) p r h1 (by simp only at h2;omega) h3⟩,⟨rfl,rfl,rfl,rfl,rfl,trivial⟩,rfl,rfl⟩
      | exact Run.lend ⟨(i+1,L2),by show D.length - (i+1) < D.length - i;omega,⟨by show 1≤i+1;omega,hL2,fun p r h1 h2 h3=>ins_end hn2 (by omega) hI (.inr ⟨q,rfl,by
          rw [atR_get hq1,atR_get (by omega:q < L2.length)]
          exact fun hb=>absurd ((cmpR_id (ne_ids hn2 hq1 (by omega) (by omega))).2 hb) (by simpa using hc)⟩) p r h1 (by simp only at h2;omega) h3⟩,⟨rfl,rfl,rfl,rfl,rfl,trivial⟩,rfl,rfl⟩
   ·refine Run.seq (Run.seq ?_)
    first
    | have hq1:q+1 < L2.length:=by omega
    | skip
    refine Run.draw (cx_ok _ _ _) [(0,true),(1,true),(2,true),(3,true),(4,true),(5,true),(6,true),(7,true),(8,true),(9,true),(10,true),(11,true),(12,true),(13,true),(14,true),(15,true),(16,true)] (by kernel_rfl) (Dra.op' rfl rfl rfl .sure (Ope.mov rfl ?_))
    refine Dra.op' rfl rfl rfl .sure (Ope.mov rfl ?_)
    refine Dra.op' rfl rfl rfl .sure (Ope.gt rfl rfl ?_)
    refine Dra.op' rfl rfl rfl .sure (Ope.mov rfl ?_)
    refine Dra.splitX rfl rfl rfl rfl (fun hg=>?_) fun hg=>?_
    ·first
     |(exfalso;omega)
     |refine Dra.on' rfl rfl rfl rfl rfl .sure (Ope.mov rfl ?_)
      refine Dra.on' rfl rfl rfl rfl rfl .sure (Ope.mov rfl ?_)
      refine Dra.on' rfl rfl rfl rfl rfl .sure (Ope.mov rfl ?_)
      refine Dra.on' rfl rfl rfl rfl rfl .sure (Ope.idxL (m:=q+1) rfl rfl rfl (by omega) ?_)
      refine Dra.on' rfl rfl rfl rfl rfl .sure (Ope.loadH rfl hget_hd (part_rpt post L2 (q+1) hq1 _ (by show 0+(q+1) * 8=_;omega)) ?_)
      refine Dra.on' rfl rfl rfl rfl rfl .sure (Ope.mov rfl ?_)
      refine Dra.on' rfl rfl rfl rfl rfl .sure (Ope.mov rfl ?_)
      refine Dra.on' rfl rfl rfl rfl rfl .sure (Ope.sub rfl rfl (by omega) ?_)
      refine Dra.on' rfl rfl rfl rfl rfl .sure (Ope.idxL (m:=q) rfl rfl (natK_pred q) (by omega) ?_)
      refine Dra.on' rfl rfl rfl rfl rfl .sure (Ope.loadH rfl hget_hd (part_rpt post L2 q (by omega) _ (by show 0+q * 8=_;omega)) ?_)
      refine Dra.on' rfl rfl rfl rfl rfl .sure (Ope.cf rfl rfl (hcmp _ _) rfl ?_)
      refine Dra.on' rfl rfl rfl rfl rfl .sure (Ope.lt rfl rfl ?_)
      refine Dra.op' rfl rfl rfl .sure (Ope.pickT rfl rfl ?_)
      refine Dra.nil (Run.condX rfl (fun hc=>?_) fun hc=>?_)
      ·first
       |(cases hc;done)
       |refine Run.skip (Run.seq (Run.block (Run.draw (cx_ok _ _ _) [(0,true),(1,true),(2,true),(3,true),(4,true),(5,true),(6,true),(7,true),(8,true),(9,true),(10,true),(11,true),(12,true),(13,true),(14,true),(15,true),(16,true),(17,true)] (by kernel_rfl) (Dra.op' rfl rfl rfl .sure (Ope.mov rfl ?_)))))
        refine Dra.op' rfl rfl rfl .sure (Ope.mov rfl ?_)
        refine Dra.op' rfl rfl rfl .sure (Ope.mov rfl ?_)
        refine Dra.op' rfl rfl rfl .sure (Ope.mov rfl ?_)
        refine Dra.op' rfl rfl rfl .sure (Ope.sub rfl rfl (by omega) ?_)
        refine Dra.op' rfl rfl rfl .sure (Ope.mov rfl ?_)
        refine Dra.op' rfl rfl rfl .sure (Ope.mov rfl ?_)
        refine Dra.op' rfl rfl rfl .sure (Ope.sub rfl rfl (by omega) ?_)
        refine Dra.op' rfl rfl rfl .sure (Ope.idxL (m:=q) rfl rfl (natK_pred q) (by omega) ?_)
        refine Dra.op' rfl rfl rfl .sure (Ope.loadH rfl hget_hd (part_rpt post L2 q (by omega) _ (by show 0+q * 8=_;omega)) ?_)
        refine Dra.op' rfl rfl rfl .sure (Ope.mov rfl ?_)
        refine Dra.op' rfl rfl rfl .sure (Ope.mov rfl ?_)
        refine Dra.op' rfl rfl rfl .sure (Ope.idxL (m:=q+1) rfl rfl rfl (by omega) ?_)
        refine Dra.op' rfl rfl rfl .sure (Ope.loadH rfl hget_hd (part_rpt post L2 (q+1) hq1 _ (by show 0+(q+1) * 8=_;omega)) ?_)
        refine Dra.op' rfl rfl rfl .sure (Ope.idxL (m:=q+1) rfl rfl rfl (by omega) ?_)
        refine Dra.op' rfl rfl rfl .sure (Ope.storeP rfl rfl hget_hd rfl rfl (by rw [rpts_len];show 0+(q+1) * 8+8≤8 * L2.length+post.length;omega) ?_)
        rw [put_rpt post L2[q] L2 (q+1) hq1 _ (by show 0+(q+1) * 8=_;omega)]
        refine Dra.op' rfl rfl rfl .sure (Ope.idxL (m:=q) rfl rfl (natK_pred q) (by omega) ?_)
        refine Dra.op' rfl rfl rfl .sure (Ope.storeP rfl rfl hget_hd rfl rfl (by rw [rpts_len];show 0+q * 8+8≤_;simp only [List.length_set];omega) ?_)
        rw [put_rpt post L2[q+1] (L2.set (q+1) L2[q]) q (by simp;omega) _ (by show 0+q * 8=_;omega)]
        refine Dra.nil (Run.bend ?_)
        have hsw:(L2.set (q+1) L2[q]).set q L2[q+1]=swpR L2 q:=by
          unfold swpR;rw [atR_get hq1,atR_get (by omega:q < L2.length)]
        rw [hsw]
        refine Run.wide (m:=m) (l':=[(j,some (.cells (flat ((swpR L2 q).map Rpt.v)++post)))]) (Nat.le_refl _) ⟨hget_hd,trivial⟩ ?_
        refine Run.region (cx_ok _ _ _) (Reg.op rfl (Ope.mov rfl ?_))
        refine Reg.op rfl (Ope.sub rfl rfl (by omega) ?_)
        refine Reg.op rfl (Ope.asg rfl ?_)
        refine Reg.nil ?_
        exact Run.lend ⟨(q,swpR L2 q),by show q < q+1;omega,⟨by show q≤i;omega,(swpR_perm L2 q hq1).trans hL2,ins_swp hq1 (by omega) hI (by
          rw [atR_get hq1,atR_get (by omega:q < L2.length)]
          exact (cmpR_id (ne_ids hn2 hq1 (by omega) (by omega))).1 (by simpa using hc))⟩,⟨rfl,rfl,rfl,rfl,rfl,by rw [show ((q+1:Nat):Int) - 1=(q:Int) by omega];rfl,trivial⟩,rfl,rfl⟩
      ·first
       |(cases hc;done)
       |refine Run.exit (Jmp.code (Jmp.round (Jmp.here (Run.bend (Run.region (cx_ok _ _ _) (Reg.op rfl (Ope.mov rfl ?_)))))))
        refine Reg.op rfl (Ope.add rfl rfl (by omega) ?_)
        refine Reg.op rfl (Ope.asg rfl ?_)
        refine Reg.nil ?_
        first
        | exact Run.lend ⟨(i+1,L2),by show D.length - (i+1) < D.length - i;omega,⟨by show 1≤i+1;omega,hL2,fun p r h1 h2 h3=>ins_end hn2 (by omega) hI (.inl rfl) p r h1 (by simp only at h2;omega) h3⟩,⟨rfl,rfl,rfl,rfl,rfl,trivial⟩,rfl,rfl⟩
        | exact Run.lend ⟨(i+1,L2),by show D.length - (i+1) < D.length - i;omega,⟨by show 1≤i+1;omega,hL2,fun p r h1 h2 h3=>ins_end hn2 (by omega) hI (.inr ⟨q,rfl,by
            rw [atR_get hq1,atR_get (by omega:q < L2.length)]
            exact fun hb=>absurd ((cmpR_id (ne_ids hn2 hq1 (by omega) (by omega))).2 hb) (by simpa using hc)⟩) p r h1 (by simp only at h2;omega) h3⟩,⟨rfl,rfl,rfl,rfl,rfl,trivial⟩,rfl,rfl⟩
    ·first
     |(exfalso;omega)
     |refine Dra.off' rfl rfl rfl (.inl rfl) rfl (Dra.off' rfl rfl rfl (.inl rfl) rfl (Dra.off' rfl rfl rfl (.inl rfl) rfl (Dra.off' rfl rfl rfl (.inl rfl) rfl (Dra.off' rfl rfl rfl (.inl rfl) rfl (Dra.off' rfl rfl rfl (.inl rfl) rfl (Dra.off' rfl rfl rfl (.inl rfl) rfl (Dra.off' rfl rfl rfl (.inl rfl) rfl (Dra.off' rfl rfl rfl (.inl rfl) rfl (Dra.off' rfl rfl rfl (.inl rfl) rfl (Dra.off' rfl rfl rfl (.inl rfl) rfl (Dra.off' rfl rfl rfl (.inl rfl) rfl (Dra.op' rfl rfl rfl .sure (Ope.pickF rfl rfl ?_)))))))))))))
      refine Dra.nil (Run.condF rfl (Run.exit (Jmp.code (Jmp.round (Jmp.here (Run.bend (Run.region (cx_ok _ _ _) (Reg.op rfl (Ope.mov rfl ?_)))))))))
      refine Reg.op rfl (Ope.add rfl rfl (by omega) ?_)
      refine Reg.op rfl (Ope.asg rfl ?_)
      refine Reg.nil ?_
      first
      | exact Run.lend ⟨(i+1,L2),by show D.length - (i+1) < D.length - i;omega,⟨by show 1≤i+1;omega,hL2,fun p r h1 h2 h3=>ins_end hn2 (by omega) hI (.inl rfl) p r h1 (by simp only at h2;omega) h3⟩,⟨rfl,rfl,rfl,rfl,rfl,trivial⟩,rfl,rfl⟩
      | exact Run.lend ⟨(i+1,L2),by show D.length - (i+1) < D.length - i;omega,⟨by show 1≤i+1;omega,hL2,fun p r h1 h2 h3=>ins_end hn2 (by omega) hI (.inr ⟨q,rfl,by
          rw [atR_get hq1,atR_get (by omega:q < L2.length)]
          exact fun hb=>absurd ((cmpR_id (ne_ids hn2 hq1 (by omega) (by omega))).2 hb) (by simpa using hc)⟩) p r h1 (by simp only at h2;omega) h3⟩,⟨rfl,rfl,rfl,rfl,rfl,trivial⟩,rfl,rfl⟩
  ·exact Run.exit (Jmp.code (Jmp.round (Jmp.here (finH_end .nil (Nat.le_refl _) (fun _ _ h=>h) ⟨m,Nat.le_refl _,rfl,by rw [srt_at hn hid hL fun p q h1 h2=>hs p q h1 (by omega) h2]⟩))))
end Go.Pv
