/- Parts of the proof: R95, R96, R97, R98, R99, Pv62 -/
import Derived.Test.YtejnfigkngkhjaaP20
import Derived.Test.YtejnfigkngkhjaaP14
import Derived.OpenShut
set_option linter.unusedVariables false
set_option linter.unusedSimpArgs false
namespace Go.Pv
open Go.Proofs Go.Am
set_option maxRecDepth 10000
set_option linter.unusedSectionVars false
def inE (E q:Nat):Bool:=!decide (((E >>> q &&& 1:Nat):Int)=0)
structure Kept (S:List Sti) (rest:Int) (E:Nat) (v:Nat→Int):Prop where
  wide:∀ a b,a < 11→b < 11→v b - v a≤600
  rule:∀ k,k < S.length→∀ p∈rules S rest k,v p.2.1 - v p.1≤p.2.2
  entry:∀ k (hk:k < S.length) o j,o < 2→j < 2→inE E (2 * (2 * k+o)+j)=true→(S[k].ent o j).1≤v (2 * k+o) - v 10∧v (2 * k+o) - v 10≤(S[k].ent o j).2
theorem kept_iff {S : List Sti} {rest : Int} {E : Nat} {v : Nat → Int} (hS : S.length ≤ 5) : Keeps S rest E v ↔ Kept S rest E v := by
  constructor
  · intro h
    refine ⟨h.wide,fun k hk p hp=>?_,fun k hk o j ho hj hin=>?_⟩
    · exact h.bound (rulB p) (allB_mem.2 ⟨k,hk,List.mem_append.2 (.inl (List.mem_map.2 ⟨p,hp,rfl⟩))⟩)
    · have hm : ∀ w ∈ entW k S[k] o j, v w.2.1 - v w.1 ≤ w.2.2.1 := fun w hw => by
        have h1:=h.bound (wriB w) (allB_mem.2 ⟨k,hk,List.mem_append.2 (.inr (by
          rw [List.getElem?_eq_getElem hk]
          exact List.mem_map.2 ⟨w,entO_mem.2 ⟨o,j,ho,hj,hw⟩,rfl⟩))⟩)
        have hq:w.2.2.2=2 * (2 * k+o)+j:=by
          simp only [entW,List.mem_cons,List.not_mem_nil,or_false] at hw
          rcases hw with rfl | rfl<;>rfl
        have h2:(wriB w).most E=w.2.2.1:=by
          show (if _ then (600:Int) else w.2.2.1)=_
          rw [if_neg]
          show ¬ ((E >>> w.2.2.2 &&& 1:Nat):Int)=0
          rw [hq]
          simpa [inE] using hin
        rw [h2] at h1
        exact h1
      have h1:=hm (2 * k+o,10,-(S[k].ent o j).1,2 * (2 * k+o)+j) (by simp [entW])
      have h2:=hm (10,2 * k+o,(S[k].ent o j).2,2 * (2 * k+o)+j) (by simp [entW])
      simp only at h1 h2
      generalize (S[k].ent o j).1=lo at *
      exact ⟨by omega,h2⟩
  · intro h
    refine ⟨h.wide,fun x hx=>?_⟩
    obtain ⟨k,hk,hx⟩:=allB_mem.1 hx
    rcases List.mem_append.1 hx with hx | hx
    · obtain ⟨p, hp, rfl⟩ := List.mem_map.1 hx
      exact h.rule k hk p hp
    · rw [List.getElem?_eq_getElem hk] at hx
      obtain ⟨w,hw,rfl⟩:=List.mem_map.1 hx
      obtain ⟨o,j,ho,hj,hw⟩:=entO_mem.1 hw
      have he:=h.entry k hk o j ho hj
      have hw1:=h.wide 10 (2 * k+o) (by decide) (by omega)
      have hw2:=h.wide (2 * k+o) 10 (by omega) (by decide)
      simp only [entW,List.mem_cons,List.not_mem_nil,or_false] at hw
      rcases hw with rfl | rfl
      · show v 10 - v (2 * k + o) ≤ (if ((E >>> (2 * (2 * k + o) + j) &&& 1 : Nat) : Int) = 0 then (600 : Int) else -(S[k].ent o j).1)
        split
        · exact hw2
        · next hn =>
          have:=(he (by simpa [inE] using hn)).1
          generalize (S[k].ent o j).1=lo at *
          omega
      · show v (2 * k + o) - v 10 ≤ (if ((E >>> (2 * (2 * k + o) + j) &&& 1 : Nat) : Int) = 0 then (600 : Int) else (S[k].ent o j).2)
        split
        · exact hw1
        · next hn=>exact (he (by simpa [inE] using hn)).2
theorem inE_all {n q:Nat} (h:q < n):inE (2 ^ n - 1) q=true:=by
  have h1:(2 ^ n - 1).testBit q=true:=by rw [Nat.testBit_two_pow_sub_one];exact decide_eq_true h
  have h2:(2 ^ n - 1) >>> q &&& 1=1:=by
    have h3:=Nat.and_one_is_mod ((2 ^ n - 1) >>> q)
    rw [h3]
    simpa [Nat.testBit,Nat.and_comm,Nat.and_one_is_mod] using h1
  unfold inE
  rw [h2]
  rfl
theorem frm_congr {S S':List Sti} (h:S.map Sti.r=S'.map Sti.r) (r:Int):∀ k,frm S r k=frm S' r k
  | 0=>rfl
  | k+1=>by simp only [frm,h,frm_congr h r k]
theorem rules_congr {S S':List Sti} (h:S.map Sti.r=S'.map Sti.r) (rest:Int) (k:Nat):rules S rest k=rules S' rest k:=by
  unfold rules
  rw [h,frm_congr h]
theorem set_r (s:Sti) (q:Nat) (x y:Int):(s.set q x y).r=s.r:=by
  unfold Sti.set
  split
  · rfl
  · split
    · rfl
    · split<;>rfl
theorem set_ent (s:Sti) (q:Nat) (hq:q < 4) (x y:Int) (o j:Nat) (ho:o < 2) (hj:j < 2):(s.set q x y).ent o j=if 2 * o+j=q then (x,y) else s.ent o j:=by
  match q,hq,o,ho,j,hj with
  | 0,_,0,_,0,_=>rfl
  | 0,_,0,_,1,_=>rfl
  | 0,_,1,_,0,_=>rfl
  | 0,_,1,_,1,_=>rfl
  | 1,_,0,_,0,_=>rfl
  | 1,_,0,_,1,_=>rfl
  | 1,_,1,_,0,_=>rfl
  | 1,_,1,_,1,_=>rfl
  | 2,_,0,_,0,_=>rfl
  | 2,_,0,_,1,_=>rfl
  | 2,_,1,_,0,_=>rfl
  | 2,_,1,_,1,_=>rfl
  | 3,_,0,_,0,_=>rfl
  | 3,_,0,_,1,_=>rfl
  | 3,_,1,_,0,_=>rfl
  | 3,_,1,_,1,_=>rfl
section
variable {S:List Sti} {rest:Int} {en:Nat} {x y:Int}
theorem entS_r:S.map Sti.r=(entS S en x y).map Sti.r:=by
  unfold entS
  apply List.ext_getElem?
  intro i
  simp only [List.getElem?_map,List.getElem?_modify]
  cases S[i]? with
  | none=>rfl
  | some s =>
    by_cases h:en / 4=i
    · simp [h,set_r]
    · simp [h]
theorem entS_at {k:Nat} (hk:k < S.length) (hk':k < (entS S en x y).length) {o j:Nat} (ho:o < 2) (hj:j < 2):((entS S en x y)[k]).ent o j=if 2 * (2 * k+o)+j=en then (x,y) else S[k].ent o j:=by
  have h1:(entS S en x y)[k]=if en / 4=k then S[k].set (en % 4) x y else S[k]:=by
    simp only [entS,List.getElem_modify]
  rw [h1]
  by_cases hken:en / 4=k
  · rw [if_pos hken, set_ent _ _ (by omega) _ _ _ _ ho hj]
    by_cases hq:2 * o+j=en % 4
    · rw [if_pos hq,if_pos (by omega)]
    · rw [if_neg hq,if_neg (by omega)]
  · rw [if_neg hken,if_neg (by omega)]
theorem entS_ok {q:Nat} (hr:relOk rest S=true) (hen:en < 4 * S.length) (hx:0≤x∧x≤y∧y≤600):relOk rest (entS S en x y)=true:=by
  obtain ⟨h1,h2,h3⟩:=relOk_of hr
  refine relOk_yes h1.1 h1.2 (by rw [entS_len];exact h2) fun i hi=>?_
  have hi':i < S.length:=by rw [entS_len] at hi;exact hi
  have h0:=h3 _ (List.getElem_mem hi')
  have h4:(entS S en x y)[i]=if en / 4=i then S[i].set (en % 4) x y else S[i]:=by
    simp only [entS,List.getElem_modify]
  rw [h4]
  split
  · have hm : minsOk x y = true := by simp [minsOk, hx]
    simp only [Sti.ok,Bool.and_eq_true,Sti.j0,Sti.j1,Bool.or_eq_true,decide_eq_true_eq] at h0 ⊢
    rw [set_r]
    unfold Sti.set
    split
    · simp_all
    · split
      · simp_all
      · split<;>simp_all
  · exact h0
abbrev mom (en:Nat):Nat:=en / 2
variable (hS:S.length≤5) (hen:en < 4 * S.length)
include hS hen
theorem all_in {k o j:Nat} (hk:k < S.length) (ho:o < 2) (hj:j < 2):inE (allE S) (2 * (2 * k+o)+j)=true:=inE_all (by omega)
def wrt (S:List Sti) (en:Nat):Int×Int :=
  match S[en / 4]? with
  | some s=>s.ent (en / 2 % 2) (en % 2)
  | none=>(0,0)
omit hS in
theorem wrt_at:wrt S en=(S[en / 4]'(by omega)).ent (en / 2 % 2) (en % 2):=by
  unfold wrt
  rw [List.getElem?_eq_getElem (by omega)]
theorem ent_down {v:Nat→Int} (hx:(wrt S en).1≤x∧y≤(wrt S en).2) (h:Keeps (entS S en x y) rest (allE (entS S en x y)) v):Keeps S rest (allE S) v:=by
  have hS':(entS S en x y).length≤5:=by rw [entS_len];exact hS
  have h1:=(kept_iff hS').1 h
  refine (kept_iff hS).2 ⟨h1.wide,fun k hk p hp=>h1.rule k (by rw [entS_len];exact hk) p (by rw [← rules_congr entS_r];exact hp),fun k hk o j ho hj hin=>?_⟩
  have hk':k < (entS S en x y).length:=by rw [entS_len];exact hk
  have h2:=h1.entry k hk' o j ho hj (all_in hS' (by rw [entS_len];exact hen) hk' ho hj)
  rw [entS_at hk hk' ho hj] at h2
  split at h2
  · next he =>
    rw [wrt_at hen] at hx
    have e1:en / 4=k:=by omega
    have e2:en / 2 % 2=o:=by omega
    have e3:en % 2=j:=by omega
    subst e1 e2 e3
    simp only at h2
    omega
  · exact h2
theorem ent_up {v:Nat→Int} (hx:x≤v (mom en) - v 10∧v (mom en) - v 10≤y) (h:Keeps S rest (allE S) v):Keeps (entS S en x y) rest (allE (entS S en x y)) v:=by
  have hS':(entS S en x y).length≤5:=by rw [entS_len];exact hS
  have h1:=(kept_iff hS).1 h
  refine (kept_iff hS').2 ⟨h1.wide,fun k hk p hp=>h1.rule k (by rw [entS_len] at hk;exact hk) p (by rw [rules_congr (S':=entS S en x y) entS_r];exact hp),fun k hk' o j ho hj hin=>?_⟩
  have hk:k < S.length:=by rw [entS_len] at hk';exact hk'
  rw [entS_at hk hk' ho hj]
  split
  · next he =>
    have e1:2 * k+o=mom en:=by show _=en / 2;omega
    rw [e1]
    exact hx
  · exact h1.entry k hk o j ho hj (all_in hS hen hk ho hj)
end
theorem tab_mono {S S':List Sti} {rest:Int} {E E':Nat} (hA:∀ x∈allB S' rest,x.ok) (ho:okT (tabS S' rest E')=true) (h:∀ v,Keeps S' rest E' v→Keeps S rest E v) {a b:Nat} (ha:a < 11) (hb:b < 11):tabS S' rest E' a b≤tabS S rest E a b:=by
  have h1:=(h _ (late_keeps hA ho ha)).pot a b ha hb
  have h2:=tabS_self ho ha
  have h3:tabS S' rest E' a b - tabS S' rest E' a a≤tabS S rest E a b:=h1
  omega
theorem mid_keeps {S:List Sti} {rest:Int} {E:Nat} (hA:∀ x∈allB S rest,x.ok) (ho:okT (tabS S rest E)=true) {m:Nat} (hm:m < 11) {n:Int} (h1:-tabS S rest E m 10≤n) (h2:n≤tabS S rest E 10 m) :
    ∃ v,Keeps S rest E v∧v m - v 10=n:=by
  have tri:∀ {a b c:Nat},a < 11→b < 11→c < 11→tabS S rest E a b≤tabS S rest E a c+tabS S rest E c b:=fun ha hb hc=>short_tri ho ha hb hc
  refine ⟨fun b=>min (tabS S rest E 10 b) (n+tabS S rest E m b),⟨fun b c hb hc=>?_,fun x hx=>?_⟩,?_⟩
  · have t1 := tri (show 10 < 11 by decide) hc hb
    have t2:=tri hm hc hb
    have t3:=tabS_wide (S:=S) (rest:=rest) (E:=E) hb hc
    show min (tabS S rest E 10 c) (n+tabS S rest E m c) - min (tabS S rest E 10 b) (n+tabS S rest E m b)≤600
    omega
  · have hox := hA x hx
    have t1:=tri (show 10 < 11 by decide) hox.2.1 hox.1
    have t2:=tri hm hox.2.1 hox.1
    have t3:=tabS_bd (E:=E) hx hox
    show min (tabS S rest E 10 x.b) (n+tabS S rest E m x.b) - min (tabS S rest E 10 x.a) (n+tabS S rest E m x.a)≤x.most E
    omega
  · have t1 := tabS_self ho hm
    have t2:=tabS_self ho (show 10 < 11 by decide)
    show min (tabS S rest E 10 m) (n+tabS S rest E m m) - min (tabS S rest E 10 10) (n+tabS S rest E m 10)=n
    omega
end Go.Pv
namespace Go.Pv
open Go.Proofs Go.Am
set_option maxRecDepth 10000
section
variable {rest:Int} {tl:Tail} (htl:tl.isOwn=false) {S:List Sti} (hS:S.length≤1000000) (hr:relOk rest S=true) (ho:okT (tabA S rest)=true)
theorem isSt_of {k:Nat} (hk:k < S.length):isSt S k=true:=by
  simp only [isSt,Bool.and_eq_true,decide_eq_true_eq]
  omega
include hr ho in
theorem errSt {k:Nat} (hk:k < S.length):errT rest S (isSt S k) 0=0:=err_at rest S hr (isSt_of hk) ho
include htl hS hr ho in
theorem onOk {k:Nat} (hk:k < S.length):Fn P0 14 [relV rest tl S,I k] (.tup [.agg [I ((tabA S rest).min (2 * k)).1,I ((tabA S rest).min (2 * k)).2],I 0]):=by
  have h:=f14 rest tl htl S hS k
  unfold onE at h
  rw [errSt hr ho hk] at h
  exact h
include htl hS hr ho in
theorem offOk {k:Nat} (hk:k < S.length):Fn P0 16 [relV rest tl S,I k] (.tup [.agg [I ((tabA S rest).min (2 * k+1)).1,I ((tabA S rest).min (2 * k+1)).2],I 0]):=by
  have h:=f16t rest tl htl S hS k
  unfold offE at h
  rw [errSt hr ho hk] at h
  exact h
def goneN (T:Tab) (m:Int):Nat→Bool
  | 0=>true
  | i+1=>goneN T m i && (decide (m < (T.min (2 * i)).1) || decide ((T.min (2 * i+1)).2≤m))
def canN (T:Tab) (m:Int):Nat→Bool
  | 0=>false
  | i+1=>canN T m i || (decide ((T.min (2 * i)).2≤m) && decide (m < (T.min (2 * i+1)).1))
include htl hS hr ho in
theorem f35 (m:Int):Fn P0 35 [I m,.fp (relV rest tl S)] (.tup [B (goneN (tabA S rest) m S.length),B (canN (tabA S rest) m S.length)]):=by
  have hbd:=fun k=>bd_is rest tl htl S k
  have hOn:=fun k (hk:k < S.length)=>onOk htl hS hr ho hk
  have hOff:=fun k (hk:k < S.length)=>offOk htl hS hr ho hk
  generalize tabA S rest=T at *
  refine PFun.of (C:=c35) (cx_ok _ _ _) rfl (fn:=Try.f35) (by kernel_rfl) (c:=_) rfl rfl rfl ?_
  refine Run.seq (Run.region (cx_ok _ _ _) (Reg.op rfl (Ope.asg rfl ?_)))
  refine Reg.op rfl (Ope.asg rfl ?_)
  refine Reg.nil (Run.seq (Run.region (cx_ok _ _ _) (Reg.op rfl (Ope.asg rfl ?_))))
  refine Reg.nil (Run.seq (Run.seq (Run.region (cx_ok _ _ _) (Reg.op rfl (Ope.fld rfl rfl ?_)))))
  refine Reg.op rfl (Ope.load rfl rfl ?_)
  refine Reg.op rfl (Ope.len (m:=S.length) rfl (by simp) ?_)
  refine Reg.op rfl (Ope.mov rfl ?_)
  refine Reg.nil (Run.block (Run.loop (α:=Nat×Nat) (fun s=>[(0,I m),(1,.fp (relV rest tl S)),(3,B (goneN T m s.1)),(4,B (canN T m s.1)),(12,I S.length),(13,I s.1)]) (fun s=>HE s.2 []) (fun s=>s.1≤S.length) (fun s=>S.length - s.1) (0,0) ⟨rfl,rfl,rfl,rfl,rfl,rfl,trivial⟩ rfl (Nat.zero_le _) (fun s hs=>?_)))
  obtain ⟨i,q⟩:=s
  have hi:i≤S.length:=hs
  refine Run.seq (Run.region (cx_ok _ _ _) (Reg.op rfl (Ope.lt rfl rfl ?_)))
  refine Reg.nil (Run.seq (Run.condX rfl (fun hc=>?_) fun hc=>?_))
  ·refine Run.skip (Run.seq (Run.block (Run.seq (Run.region (cx_ok _ _ _) (Reg.op rfl (Ope.mov rfl ?_))))))
   refine Reg.op rfl (Ope.asg rfl ?_)
   refine Reg.nil (Run.seq ?_)
   have hlt:i < S.length:=by omega
   have h1:=hOn i hlt
   have h2:=hOff i hlt
   have e1:goneN T m (i+1)=(goneN T m i && (decide (m < (T.min (2 * i)).1) || decide ((T.min (2 * i+1)).2≤m))):=rfl
   have e2:canN T m (i+1)=(canN T m i || (decide ((T.min (2 * i)).2≤m) && decide (m < (T.min (2 * i+1)).1))):=rfl
   generalize T.min (2 * i)=on at *
   generalize T.min (2 * i+1)=off at *
   obtain ⟨a,b⟩:=on
   obtain ⟨c,d⟩:=off
   simp only at h1 h2 e1 e2
   refine Run.region (cx_ok _ _ _) (Reg.op rfl (Ope.load rfl rfl ?_))
   refine Reg.op rfl (Ope.mov rfl ?_)
   refine Reg.op rfl (Ope.cf rfl rfl h1 (hbd i) ?_)
   refine Reg.op rfl (Ope.mov rfl ?_)
   refine Reg.op rfl (Ope.ext rfl rfl ?_)
   refine Reg.op rfl (Ope.ext rfl rfl ?_)
   refine Reg.op rfl (Ope.newL rfl ?_)
   refine Reg.op0 (Ope.store rfl rfl hget_hd rfl rfl rfl ?_)
   refine Reg.op rfl (Ope.asg rfl ?_)
   refine Reg.nil (Run.seq (Run.frz (d:=6) true rfl hget_hd rfl ?_))
   refine Run.wide (m:=q+1) (l':=[]) (Nat.le_refl _) trivial ?_
   refine Run.region (cx_ok _ _ _) (Reg.op rfl (Ope.load rfl rfl ?_))
   refine Reg.op rfl (Ope.mov rfl ?_)
   refine Reg.op rfl (Ope.cf rfl rfl h2 (hbd i) ?_)
   refine Reg.op rfl (Ope.mov rfl ?_)
   refine Reg.op rfl (Ope.ext rfl rfl ?_)
   refine Reg.op rfl (Ope.ext rfl rfl ?_)
   refine Reg.op rfl (Ope.newL rfl ?_)
   refine Reg.op0 (Ope.store rfl rfl hget_hd rfl rfl rfl ?_)
   refine Reg.op rfl (Ope.asg rfl ?_)
   refine Reg.nil (Run.seq (Run.seq (Run.frz (d:=8) true rfl hget_hd rfl ?_)))
   refine Run.wide (m:=q+2) (l':=[]) (Nat.le_refl _) trivial ?_
   refine Run.region (cx_ok _ _ _) (Reg.op rfl (Ope.mov rfl ?_))
   refine Reg.op rfl (Ope.ne rfl rfl ?_)
   refine Reg.op rfl (Ope.mov rfl ?_)
   refine Reg.on rfl rfl rfl (Ope.mov rfl ?_)
   refine Reg.on rfl rfl rfl (Ope.ne rfl rfl ?_)
   refine Reg.op rfl (Ope.pickF rfl rfl ?_)
   refine Reg.nil (Run.condF rfl (Run.skip (Run.seq (Run.region (cx_ok _ _ _) (Reg.op rfl (Ope.mov rfl ?_))))))
   refine Reg.op rfl (Ope.mov rfl ?_)
   refine Reg.splitX rfl rfl (fun hg=>?_) fun hg=>?_
   ·refine Reg.on rfl rfl rfl (Ope.fld rfl rfl ?_)
    refine Reg.on rfl rfl rfl (Ope.load rfl rfl ?_)
    refine Reg.on rfl rfl rfl (Ope.mov rfl ?_)
    refine Reg.on rfl rfl rfl (Ope.gt rfl rfl ?_)
    refine Reg.on rfl rfl rfl (Ope.mov rfl ?_)
    refine Reg.splitX rfl rfl (fun hg=>?_) fun hg=>?_
    ·refine Reg.off rfl rfl rfl (Reg.off rfl rfl rfl (Reg.off rfl rfl rfl (Reg.off rfl rfl rfl (Reg.on rfl rfl rfl (Ope.pickT rfl rfl ?_)))))
     refine Reg.op rfl (Ope.pickT rfl rfl ?_)
     refine Reg.op rfl (Ope.asg rfl ?_)
     refine Reg.nil (Run.region (cx_ok _ _ _) (Reg.op rfl (Ope.mov rfl ?_)))
     refine Reg.op rfl (Ope.mov rfl ?_)
     refine Reg.splitX rfl rfl (fun hg=>?_) fun hg=>?_
     ·refine Reg.off rfl rfl rfl (Reg.off rfl rfl rfl (Reg.off rfl rfl rfl (Reg.off rfl rfl rfl (Reg.off rfl rfl rfl (Reg.past rfl rfl rfl (Reg.past rfl rfl rfl (Reg.past rfl rfl rfl (Reg.past rfl rfl rfl (Reg.off rfl rfl rfl (Reg.op rfl (Ope.pickT rfl rfl ?_)))))))))))
      refine Reg.op rfl (Ope.asg rfl ?_)
      refine Reg.nil (Run.bend (Run.region (cx_ok _ _ _) (Reg.op rfl (Ope.add rfl rfl (by omega) ?_))))
      refine Reg.op rfl (Ope.mov rfl ?_)
      exact Reg.nil (Run.lend ⟨(i+1,q+2),by show S.length - (i+1) < S.length - i;omega,by show i+1≤S.length;omega,⟨rfl,rfl,(by show some _=some (B (goneN T m (i+1)));rw [e1];simp [*];try omega),(by show some _=some (B (canN T m (i+1)));rw [e2];simp [*];try omega),rfl,rfl,trivial⟩,rfl,rfl⟩)
     ·refine Reg.on rfl rfl rfl (Ope.fld rfl rfl ?_)
      refine Reg.on rfl rfl rfl (Ope.load rfl rfl ?_)
      refine Reg.on rfl rfl rfl (Ope.mov rfl ?_)
      refine Reg.on rfl rfl rfl (Ope.le rfl rfl ?_)
      refine Reg.on rfl rfl rfl (Ope.mov rfl ?_)
      refine Reg.splitX rfl rfl (fun hg=>?_) fun hg=>?_
      ·refine Reg.on rfl rfl rfl (Ope.mov rfl ?_)
       refine Reg.on rfl rfl rfl (Ope.fld rfl rfl ?_)
       refine Reg.on rfl rfl rfl (Ope.load rfl rfl ?_)
       refine Reg.on rfl rfl rfl (Ope.lt rfl rfl ?_)
       refine Reg.on rfl rfl rfl (Ope.pickT rfl rfl ?_)
       refine Reg.op rfl (Ope.pickF rfl rfl ?_)
       refine Reg.op rfl (Ope.asg rfl ?_)
       refine Reg.nil (Run.bend (Run.region (cx_ok _ _ _) (Reg.op rfl (Ope.add rfl rfl (by omega) ?_))))
       refine Reg.op rfl (Ope.mov rfl ?_)
       exact Reg.nil (Run.lend ⟨(i+1,q+2),by show S.length - (i+1) < S.length - i;omega,by show i+1≤S.length;omega,⟨rfl,rfl,(by show some _=some (B (goneN T m (i+1)));rw [e1];simp [*];try omega),(by show some _=some (B (canN T m (i+1)));rw [e2];simp [*];try omega),rfl,rfl,trivial⟩,rfl,rfl⟩)
      ·refine Reg.off rfl rfl rfl (Reg.off rfl rfl rfl (Reg.off rfl rfl rfl (Reg.off rfl rfl rfl (Reg.on rfl rfl rfl (Ope.pickF rfl rfl ?_)))))
       refine Reg.op rfl (Ope.pickF rfl rfl ?_)
       refine Reg.op rfl (Ope.asg rfl ?_)
       refine Reg.nil (Run.bend (Run.region (cx_ok _ _ _) (Reg.op rfl (Ope.add rfl rfl (by omega) ?_))))
       refine Reg.op rfl (Ope.mov rfl ?_)
       exact Reg.nil (Run.lend ⟨(i+1,q+2),by show S.length - (i+1) < S.length - i;omega,by show i+1≤S.length;omega,⟨rfl,rfl,(by show some _=some (B (goneN T m (i+1)));rw [e1];simp [*];try omega),(by show some _=some (B (canN T m (i+1)));rw [e2];simp [*];try omega),rfl,rfl,trivial⟩,rfl,rfl⟩)
    ·refine Reg.on rfl rfl rfl (Ope.fld rfl rfl ?_)
     refine Reg.on rfl rfl rfl (Ope.load rfl rfl ?_)
     refine Reg.on rfl rfl rfl (Ope.mov rfl ?_)
     refine Reg.on rfl rfl rfl (Ope.le rfl rfl ?_)
     refine Reg.on rfl rfl rfl (Ope.pickF rfl rfl ?_)
     refine Reg.op rfl (Ope.pickT rfl rfl ?_)
     refine Reg.op rfl (Ope.asg rfl ?_)
     refine Reg.nil (Run.region (cx_ok _ _ _) (Reg.op rfl (Ope.mov rfl ?_)))
     refine Reg.op rfl (Ope.mov rfl ?_)
     refine Reg.splitX rfl rfl (fun hg=>?_) fun hg=>?_
     ·refine Reg.off rfl rfl rfl (Reg.off rfl rfl rfl (Reg.off rfl rfl rfl (Reg.off rfl rfl rfl (Reg.off rfl rfl rfl (Reg.past rfl rfl rfl (Reg.past rfl rfl rfl (Reg.past rfl rfl rfl (Reg.past rfl rfl rfl (Reg.off rfl rfl rfl (Reg.op rfl (Ope.pickT rfl rfl ?_)))))))))))
      refine Reg.op rfl (Ope.asg rfl ?_)
      refine Reg.nil (Run.bend (Run.region (cx_ok _ _ _) (Reg.op rfl (Ope.add rfl rfl (by omega) ?_))))
      refine Reg.op rfl (Ope.mov rfl ?_)
      exact Reg.nil (Run.lend ⟨(i+1,q+2),by show S.length - (i+1) < S.length - i;omega,by show i+1≤S.length;omega,⟨rfl,rfl,(by show some _=some (B (goneN T m (i+1)));rw [e1];simp [*];try omega),(by show some _=some (B (canN T m (i+1)));rw [e2];simp [*];try omega),rfl,rfl,trivial⟩,rfl,rfl⟩)
     ·refine Reg.on rfl rfl rfl (Ope.fld rfl rfl ?_)
      refine Reg.on rfl rfl rfl (Ope.load rfl rfl ?_)
      refine Reg.on rfl rfl rfl (Ope.mov rfl ?_)
      refine Reg.on rfl rfl rfl (Ope.le rfl rfl ?_)
      refine Reg.on rfl rfl rfl (Ope.mov rfl ?_)
      refine Reg.splitX rfl rfl (fun hg=>?_) fun hg=>?_
      ·refine Reg.on rfl rfl rfl (Ope.mov rfl ?_)
       refine Reg.on rfl rfl rfl (Ope.fld rfl rfl ?_)
       refine Reg.on rfl rfl rfl (Ope.load rfl rfl ?_)
       refine Reg.on rfl rfl rfl (Ope.lt rfl rfl ?_)
       refine Reg.on rfl rfl rfl (Ope.pickT rfl rfl ?_)
       refine Reg.op rfl (Ope.pickF rfl rfl ?_)
       refine Reg.op rfl (Ope.asg rfl ?_)
       refine Reg.nil (Run.bend (Run.region (cx_ok _ _ _) (Reg.op rfl (Ope.add rfl rfl (by omega) ?_))))
       refine Reg.op rfl (Ope.mov rfl ?_)
       exact Reg.nil (Run.lend ⟨(i+1,q+2),by show S.length - (i+1) < S.length - i;omega,by show i+1≤S.length;omega,⟨rfl,rfl,(by show some _=some (B (goneN T m (i+1)));rw [e1];simp [*];try omega),(by show some _=some (B (canN T m (i+1)));rw [e2];simp [*];try omega),rfl,rfl,trivial⟩,rfl,rfl⟩)
      ·refine Reg.off rfl rfl rfl (Reg.off rfl rfl rfl (Reg.off rfl rfl rfl (Reg.off rfl rfl rfl (Reg.on rfl rfl rfl (Ope.pickF rfl rfl ?_)))))
       refine Reg.op rfl (Ope.pickF rfl rfl ?_)
       refine Reg.op rfl (Ope.asg rfl ?_)
       refine Reg.nil (Run.bend (Run.region (cx_ok _ _ _) (Reg.op rfl (Ope.add rfl rfl (by omega) ?_))))
       refine Reg.op rfl (Ope.mov rfl ?_)
       exact Reg.nil (Run.lend ⟨(i+1,q+2),by show S.length - (i+1) < S.length - i;omega,by show i+1≤S.length;omega,⟨rfl,rfl,(by show some _=some (B (goneN T m (i+1)));rw [e1];simp [*];try omega),(by show some _=some (B (canN T m (i+1)));rw [e2];simp [*];try omega),rfl,rfl,trivial⟩,rfl,rfl⟩)
   ·refine Reg.off rfl rfl rfl (Reg.off rfl rfl rfl (Reg.off rfl rfl rfl (Reg.off rfl rfl rfl (Reg.off rfl rfl rfl (Reg.past rfl rfl rfl (Reg.past rfl rfl rfl (Reg.past rfl rfl rfl (Reg.past rfl rfl rfl (Reg.off rfl rfl rfl (Reg.op rfl (Ope.pickF rfl rfl ?_)))))))))))
    refine Reg.op rfl (Ope.asg rfl ?_)
    refine Reg.nil (Run.region (cx_ok _ _ _) (Reg.op rfl (Ope.mov rfl ?_)))
    refine Reg.op rfl (Ope.mov rfl ?_)
    refine Reg.splitX rfl rfl (fun hg=>?_) fun hg=>?_
    ·refine Reg.off rfl rfl rfl (Reg.off rfl rfl rfl (Reg.off rfl rfl rfl (Reg.off rfl rfl rfl (Reg.off rfl rfl rfl (Reg.past rfl rfl rfl (Reg.past rfl rfl rfl (Reg.past rfl rfl rfl (Reg.past rfl rfl rfl (Reg.off rfl rfl rfl (Reg.op rfl (Ope.pickT rfl rfl ?_)))))))))))
     refine Reg.op rfl (Ope.asg rfl ?_)
     refine Reg.nil (Run.bend (Run.region (cx_ok _ _ _) (Reg.op rfl (Ope.add rfl rfl (by omega) ?_))))
     refine Reg.op rfl (Ope.mov rfl ?_)
     exact Reg.nil (Run.lend ⟨(i+1,q+2),by show S.length - (i+1) < S.length - i;omega,by show i+1≤S.length;omega,⟨rfl,rfl,(by show some _=some (B (goneN T m (i+1)));rw [e1];simp [*];try omega),(by show some _=some (B (canN T m (i+1)));rw [e2];simp [*];try omega),rfl,rfl,trivial⟩,rfl,rfl⟩)
    ·refine Reg.on rfl rfl rfl (Ope.fld rfl rfl ?_)
     refine Reg.on rfl rfl rfl (Ope.load rfl rfl ?_)
     refine Reg.on rfl rfl rfl (Ope.mov rfl ?_)
     refine Reg.on rfl rfl rfl (Ope.le rfl rfl ?_)
     refine Reg.on rfl rfl rfl (Ope.mov rfl ?_)
     refine Reg.splitX rfl rfl (fun hg=>?_) fun hg=>?_
     ·refine Reg.on rfl rfl rfl (Ope.mov rfl ?_)
      refine Reg.on rfl rfl rfl (Ope.fld rfl rfl ?_)
      refine Reg.on rfl rfl rfl (Ope.load rfl rfl ?_)
      refine Reg.on rfl rfl rfl (Ope.lt rfl rfl ?_)
      refine Reg.on rfl rfl rfl (Ope.pickT rfl rfl ?_)
      refine Reg.op rfl (Ope.pickF rfl rfl ?_)
      refine Reg.op rfl (Ope.asg rfl ?_)
      refine Reg.nil (Run.bend (Run.region (cx_ok _ _ _) (Reg.op rfl (Ope.add rfl rfl (by omega) ?_))))
      refine Reg.op rfl (Ope.mov rfl ?_)
      exact Reg.nil (Run.lend ⟨(i+1,q+2),by show S.length - (i+1) < S.length - i;omega,by show i+1≤S.length;omega,⟨rfl,rfl,(by show some _=some (B (goneN T m (i+1)));rw [e1];simp [*];try omega),(by show some _=some (B (canN T m (i+1)));rw [e2];simp [*];try omega),rfl,rfl,trivial⟩,rfl,rfl⟩)
     ·refine Reg.off rfl rfl rfl (Reg.off rfl rfl rfl (Reg.off rfl rfl rfl (Reg.off rfl rfl rfl (Reg.on rfl rfl rfl (Ope.pickF rfl rfl ?_)))))
      refine Reg.op rfl (Ope.pickF rfl rfl ?_)
      refine Reg.op rfl (Ope.asg rfl ?_)
      refine Reg.nil (Run.bend (Run.region (cx_ok _ _ _) (Reg.op rfl (Ope.add rfl rfl (by omega) ?_))))
      refine Reg.op rfl (Ope.mov rfl ?_)
      exact Reg.nil (Run.lend ⟨(i+1,q+2),by show S.length - (i+1) < S.length - i;omega,by show i+1≤S.length;omega,⟨rfl,rfl,(by show some _=some (B (goneN T m (i+1)));rw [e1];simp [*];try omega),(by show some _=some (B (canN T m (i+1)));rw [e2];simp [*];try omega),rfl,rfl,trivial⟩,rfl,rfl⟩)
  ·refine Run.exit (Jmp.code (Jmp.round (Jmp.here (Run.seq ?_))))
   obtain rfl:i=S.length:=by omega
   refine Run.region (cx_ok _ _ _) (Reg.op rfl (Ope.mov rfl ?_))
   refine Reg.op rfl (Ope.mov rfl ?_)
   refine Reg.op rfl (Ope.asg rfl ?_)
   refine Reg.op rfl (Ope.asg rfl ?_)
   exact Reg.nil (Run.ret (fin_ret (.tmp rfl (.tmp rfl .nil)) rfl rfl))
end
end Go.Pv
namespace Go.Pv
open Go.Proofs Go.Am
set_option maxRecDepth 10000
structure MinH (rest:Int) (tl:Tail) (S:List Sti) (fr tt e n f g h:Int):Prop where
  nob:Fn P0 22 [relV rest tl S,I fr,I tt] (.tup [I n,I e])
  gap:Fn P0 24 [relV rest tl S,I fr,I tt] (.tup [I g,I f])
  cl:∃ c,Fn P0 26 [relV rest tl S] (.tup [I c,I h])
  is:(e=10∧f=10∧n=0∧g=0∧h=0)∨(e=4∧n=0∧f=4∧g=0)∨(e=4∧n=0∧f=0∧fr≤g∧g≤tt)∨(e=0∧f=0∧fr≤n∧n≤tt∧fr≤g∧g≤n)
  al:e≠10→∃ G C:Int→Bool,(∀ m,Fn P0 35 [I m,.fp (relV rest tl S)] (.tup [B (G m),B (C m)]))∧(e=0→C n=false)∧∀ m,fr≤m→(f=0→m < g)→(f≠0→m < tt+1)→G m=false
  on:e≠10→∀ k:Nat,k < S.length→∃ a b,Fn P0 14 [relV rest tl S,I k] (.tup [.agg [I a,I b],I 0]) ∧
    (e=0→a≤n→∃ c d,Fn P0 16 [relV rest .no (entS S (4 * k) a a),I k] (.tup [.agg [I c,I d],I 0])∧d≤n)
  gp:e≠10→∀ m,fr≤m→(f=0→m < g)→(f≠0→m < tt+1)→Fn P0 24 [relV rest tl S,I fr,I m] (.tup [I 0,I 4])
  nb:e≠10→∀ m,fr≤m→(e=0→m < n)→(e≠0→m < tt+1)→Fn P0 22 [relV rest tl S,I fr,I m] (.tup [I 0,I 4])
  bd:∀ x y,minsOk x y=false→Fn P0 24 [relV rest tl S,I x,I y] (.tup [I 0,I 2])
theorem gone_empty {T:Tab} {m:Int}:∀ n,goneN T m n=T.empty n m
  | 0=>rfl
  | n + 1 => by
    have e:T.empty (n+1) m=(T.empty n m && !T.rides m n):=by
      simp only [Tab.empty,List.range_succ,List.all_append,List.all_cons,List.all_nil,Bool.and_true]
    rw [e,goneN,gone_empty n]
    congr 1
    unfold Tab.rides
    simp only [Bool.not_and,← decide_not]
    congr 1<;>exact decide_eq_decide.2 (by omega)
theorem empty_at {T:Tab} {m:Int} {n i:Nat} (h:T.empty n m=true) (hi:i < n):m < (T.min (2 * i)).1∨(T.min (2 * i+1)).2≤m:=by
  simp only [Tab.empty,List.all_eq_true,List.mem_range] at h
  have h1:=h i hi
  simp only [Tab.rides,Bool.not_eq_true',Bool.and_eq_false_iff,decide_eq_false_iff_not] at h1
  omega
section
variable {T:Tab} (hlh:∀ m,m < 11→(T.min m).1≤(T.min m).2)
include hlh
theorem empty_can {m:Int} {n:Nat} (hn:n≤5) (h:T.empty n m=true):∀ k,k≤n→canN T m k=false
  | 0,_=>rfl
  | k + 1, hk => by
    have h1:=empty_at h (show k < n by omega)
    have h2:=hlh (2 * k) (by omega)
    have h3:=hlh (2 * k+1) (by omega)
    rw [canN,empty_can hn h k (by omega),Bool.false_or,Bool.and_eq_false_iff]
    simp only [decide_eq_false_iff_not]
    omega
theorem empty_gap {m:Int} {n:Nat} (hn:n≤5) (h:T.empty n m=true):∀ (d i:Nat),i+d=n→T.gap m d i=true
  | 0,i,_=>rfl
  | d + 1, i, hi => by
    have h1:=empty_at h (show i < n by omega)
    have h2:=hlh (2 * i) (by omega)
    have h3:=hlh (2 * i+1) (by omega)
    rw [Tab.gap]
    split
    · rfl
    · rw [if_neg (by omega)]
      exact empty_gap hn h d (i+1) (by omega)
end
theorem min_le {S:List Sti} {rest:Int} (ho:okT (tabA S rest)=true) (m:Nat) (hm:m < 11):((tabA S rest).min m).1≤((tabA S rest).min m).2:=by
  have h1:tabS S rest (allE S) 10 10≤tabS S rest (allE S) 10 m+tabS S rest (allE S) m 10:=short_tri ho (by decide) (by decide) hm
  have h2:=tabS_self ho (show 10 < 11 by decide)
  show -(tabS S rest (allE S) m 10)≤tabS S rest (allE S) 10 m
  omega
theorem exact_early {rest:Int} {S:List Sti} (hr:relOk rest S=true) (ho:okT (tabA S rest)=true) {en:Nat} (hen:en < 4 * S.length) {n:Int} (h1:((tabA S rest).min (mom en)).1≤n) (h2:n≤((tabA S rest).min (mom en)).2) :
    relOk rest (entS S en n n)=true∧okT (tabA (entS S en n n) rest)=true∧∀ a b,a < 11→b < 11→tabA (entS S en n n) rest a b≤tabA S rest a b:=by
  obtain ⟨hrr,hS,hv⟩:=relOk_of hr
  have hA:=allB_ok hrr hS hv
  have hm:mom en < 11:=by show en / 2 < 11;omega
  obtain ⟨v,hk,hvn⟩:=mid_keeps hA ho hm h1 h2
  have hw:=((kept_iff hS).1 hk).entry (en / 4) (by omega) (en / 2 % 2) (en % 2) (by omega) (by omega) (inE_all (by omega))
  rw [show 2 * (en / 4)+en / 2 % 2=mom en from by show _=en / 2;omega,hvn,← wrt_at hen] at hw
  have hval:0≤(wrt S en).1∧(wrt S en).2≤600:=by
    have h0:=hv _ (List.getElem_mem (show en / 4 < S.length by omega))
    rw [wrt_at hen]
    simp only [Sti.ok,Sti.j0,Sti.j1,minsOk,Bool.and_eq_true,decide_eq_true_eq] at h0
    rcases (by omega:en / 2 % 2=0∨en / 2 % 2=1) with e1 | e1<;>rcases (by omega:en % 2=0∨en % 2=1) with e2 | e2<;>rw [e1,e2]<;>simp only [Sti.ent]<;>omega
  have hr':=entS_ok (q:=0) hr hen (x:=n) (y:=n) ⟨by omega,Int.le_refl _,by omega⟩
  obtain ⟨hrr',hS',hv'⟩:=relOk_of hr'
  have hA':=allB_ok hrr' hS' hv'
  have ho':okT (tabA (entS S en n n) rest)=true:=(ent_up hS hen ⟨by omega,by omega⟩ hk).ok
  exact ⟨hr',ho',fun a b ha hb=>tab_mono hA' ho' (fun v hv=>ent_down hS hen ⟨hw.1,hw.2⟩ hv) ha hb⟩
end Go.Pv
namespace Go.Pv
open Go.Proofs Go.Am
set_option maxRecDepth 10000
theorem firstM_no {p:Int→Bool} {a b:Int} (h:∀ x,a≤x→x≤b→p x=false):firstM p a b=none:=by
  cases hf:firstM p a b with
  | none=>rfl
  | some q =>
    obtain ⟨h1,h2,h3,_⟩:=firstM_some hf
    rw [h q h1 h2] at h3
    cases h3
section
variable {rest:Int} {tl:Tail} (htl:tl.isOwn=false) {S:List Sti} (hS:S.length≤1000000) (hr:relOk rest S=true)
include htl hS hr
theorem clashF:Fn P0 26 [relV rest tl S] (.tup [I (fewE rest S amongC),I (if okT (tabA S rest)=true then 4 else 0)]):=by
  have h:=f26 rest tl htl S hS
  unfold errC at h
  rw [if_neg (by rw [hr];decide)] at h
  exact h
theorem gapBad {x y:Int} (h:minsOk x y=false):Fn P0 24 [relV rest tl S,I x,I y] (.tup [I 0,I 2]):=by
  have h1:=f24t rest tl htl S hS x y
  have he:∀ e,errT rest S (minsOk x y) e=2:=fun e=>by
    unfold errT
    rw [if_neg (by rw [hr];decide),if_pos h]
  unfold minE at h1
  rw [he,if_neg (by decide)] at h1
  exact h1
theorem gapNo (hn:okT (tabA S rest)=false) {x y:Int} (h:minsOk x y=true):Fn P0 24 [relV rest tl S,I x,I y] (.tup [I 0,I 10])∧Fn P0 22 [relV rest tl S,I x,I y] (.tup [I 0,I 10]):=by
  have h1:=f24t rest tl htl S hS x y
  have h2:=f22t rest tl htl S hS x y
  have he:∀ e,errT rest S (minsOk x y) e=10:=fun e=>by
    unfold errT
    rw [if_neg (by rw [hr];decide),if_neg (by rw [h];decide),if_pos hn]
  unfold minE at h1 h2
  rw [he,if_neg (by decide)] at h1 h2
  exact ⟨h1,h2⟩
theorem gapIs (ho:okT (tabA S rest)=true) {x y:Int} (h:minsOk x y=true) :
    Fn P0 24 [relV rest tl S,I x,I y] (.tup [I (if noE (gapM rest S x y)=0 then (gapM rest S x y).getD 0 else 0),I (noE (gapM rest S x y))]) ∧
    Fn P0 22 [relV rest tl S,I x,I y] (.tup [I (if noE (nobM rest S x y)=0 then (nobM rest S x y).getD 0 else 0),I (noE (nobM rest S x y))]):=by
  have h1:=f24t rest tl htl S hS x y
  have h2:=f22t rest tl htl S hS x y
  unfold minE at h1 h2
  rw [err_at rest S hr h ho] at h1 h2
  exact ⟨h1,h2⟩
theorem minH {fr tt : Int} (h0 : 0 ≤ fr) (h1 : fr ≤ tt) (h2 : tt ≤ 600) : ∃ e n f g h, MinH rest tl S fr tt e n f g h := by
  have hm:∀ m,fr≤m→m≤tt→minsOk fr m=true:=fun m a b=>by simp [minsOk];omega
  have hcl:=clashF htl hS hr
  cases ho:okT (tabA S rest) with
  | false =>
    rw [ho] at hcl
    obtain ⟨g1,g2⟩:=gapNo htl hS hr ho (hm tt h1 (Int.le_refl _))
    exact ⟨10,0,10,0,0,⟨g2,g1,⟨_,hcl⟩,.inl ⟨rfl,rfl,rfl,rfl,rfl⟩,fun h=>absurd rfl h,fun h=>absurd rfl h,fun h=>absurd rfl h,fun h=>absurd rfl h,fun x y h=>gapBad htl hS hr h⟩⟩
  | true =>
    have hlh:=fun m hm=>min_le ho m hm
    obtain ⟨_,hS5,_⟩:=relOk_of hr
    obtain ⟨g1,g2⟩:=gapIs htl hS hr ho (hm tt h1 (Int.le_refl _))
    have hGa:∀ m,fr≤m→m≤tt→(∀ x,fr≤x→x≤m→(tabA S rest).gap x S.length 0=false)→Fn P0 24 [relV rest tl S,I fr,I m] (.tup [I 0,I 4]):=fun m a b hx=>by
      have h3:=(gapIs htl hS hr ho (hm m a b)).1
      rw [show gapM rest S fr m=none from firstM_no hx] at h3
      exact h3
    have hNo:∀ m,fr≤m→m≤tt→(∀ x,fr≤x→x≤m→(tabA S rest).empty S.length x=false)→Fn P0 22 [relV rest tl S,I fr,I m] (.tup [I 0,I 4]):=fun m a b hx=>by
      have h3:=(gapIs htl hS hr ho (hm m a b)).2
      rw [show nobM rest S fr m=none from firstM_no hx] at h3
      exact h3
    have hge:∀ x,(tabA S rest).gap x S.length 0=false→(tabA S rest).empty S.length x=false:=fun x hx=>by
      cases he:(tabA S rest).empty S.length x with
      | false=>rfl
      | true=>rw [empty_gap hlh hS5 he S.length 0 (by omega)] at hx;cases hx
    have hal:∀ m,Fn P0 35 [I m,.fp (relV rest tl S)] (.tup [B ((tabA S rest).empty S.length m),B (canN (tabA S rest) m S.length)]):=fun m=>by
      have h3:=f35 htl hS hr ho m
      rw [gone_empty] at h3
      exact h3
    have hon:=fun k (hk:k < S.length)=>onOk htl hS hr ho hk
    rw [ho] at hcl
    cases hg:gapM rest S fr tt with
    | none =>
      have hgn:=firstM_none hg
      have hnn:nobM rest S fr tt=none:=firstM_no fun x a b=>hge x (hgn x a b)
      rw [hg] at g1
      rw [hnn] at g2
      exact ⟨4,0,4,0,4,⟨g2,g1,⟨_,hcl⟩,.inr (.inl ⟨rfl,rfl,rfl,rfl⟩),
        fun _=>⟨_,_,hal,fun h=>absurd h (by decide),fun m a _ b=>hge m (hgn m a (by have:=b (by decide);omega))⟩,
        fun _ k hk=>⟨_,_,hon k hk,fun h=>absurd h (by decide)⟩,
        fun _ m a _ b=>hGa m a (by have:=b (by decide);omega) fun x c d=>hgn x c (by have:=b (by decide);omega),
        fun _ m a _ b=>hNo m a (by have:=b (by decide);omega) fun x c d=>hge x (hgn x c (by have:=b (by decide);omega)),
        fun x y h=>gapBad htl hS hr h⟩⟩
    | some g =>
      obtain ⟨p1,p2,p3,p4⟩:=firstM_some hg
      have al3:∀ m,fr≤m→((0:Int)=0→m < g)→((0:Int)≠0→m < tt+1)→(tabA S rest).empty S.length m=false:=fun m a b _=>hge m (p4 m a (b rfl))
      have gp3:∀ m,fr≤m→((0:Int)=0→m < g)→((0:Int)≠0→m < tt+1)→Fn P0 24 [relV rest tl S,I fr,I m] (.tup [I 0,I 4]):=fun m a b _=>hGa m a (by have:=b rfl;omega) fun x c d=>p4 x c (by have:=b rfl;omega)
      cases hn:nobM rest S fr tt with
      | none =>
        have hnn:=firstM_none hn
        rw [hg] at g1
        rw [hn] at g2
        exact ⟨4,0,0,g,4,⟨g2,g1,⟨_,hcl⟩,.inr (.inr (.inl ⟨rfl,rfl,rfl,p1,p2⟩)),
          fun _=>⟨_,_,hal,fun h=>absurd h (by decide),al3⟩,
          fun _ k hk=>⟨_,_,hon k hk,fun h=>absurd h (by decide)⟩,
          fun _=>gp3,
          fun _ m a _ b=>hNo m a (by have:=b (by decide);omega) fun x c d=>hnn x c (by have:=b (by decide);omega),
          fun x y h=>gapBad htl hS hr h⟩⟩
      | some n =>
        obtain ⟨q1,q2,q3,q4⟩:=firstM_some hn
        have hgn:g≤n:=by
          rcases Int.lt_or_le n g with h | h
          · have := hge n (p4 n q1 h)
            exact absurd (this.symm.trans q3) (by decide)
          · exact h
        rw [hg] at g1
        rw [hn] at g2
        refine ⟨0,n,0,g,4,⟨g2,g1,⟨_,hcl⟩,.inr (.inr (.inr ⟨rfl,rfl,q1,q2,p1,hgn⟩)),
          fun _=>⟨_,_,hal,fun _=>empty_can hlh hS5 q3 S.length (Nat.le_refl _),al3⟩,
          fun _ k hk=>⟨_,_,hon k hk,fun _ hle=>?_⟩,
          fun _=>gp3,
          fun _ m a b _=>hNo m a (by have:=b rfl;omega) fun x c d=>q4 x c (by have:=b rfl;omega),
          fun x y h=>gapBad htl hS hr h⟩⟩
        have hmk:mom (4 * k)=2 * k:=by show 4 * k / 2=2 * k;omega
        obtain ⟨e1,e2,e3⟩:=exact_early hr ho (en:=4 * k) (by omega) (n:=((tabA S rest).min (2 * k)).1) (by rw [hmk];exact Int.le_refl _) (by rw [hmk];exact hlh _ (by omega))
        have hk':k < (entS S (4 * k) ((tabA S rest).min (2 * k)).1 ((tabA S rest).min (2 * k)).1).length:=by rw [entS_len];exact hk
        refine ⟨_,_,offOk rfl (by rw [entS_len];exact hS) e1 e2 hk',?_⟩
        have h5:=empty_at q3 hk
        have h6:=e3 10 (2 * k+1) (by decide) (by omega)
        have h7:((tabA S rest).min (2 * k+1)).2=tabA S rest 10 (2 * k+1):=rfl
        show tabA (entS S (4 * k) ((tabA S rest).min (2 * k)).1 ((tabA S rest).min (2 * k)).1) rest 10 (2 * k+1)≤n
        omega
end
end Go.Pv
namespace Go.Pv
open Go.Proofs Go.Am
set_option maxRecDepth 10000
abbrev U8 (x:Nat):PV:=.lit (.int .u8 ((x:Nat):Int))
theorem f8 (rest : Int) (tl : Tail) (htl : tl.isOwn = false) (S : List Sti) (hS : S.length ≤ 1000000) (a b back : Nat) (ha : a < 65536) (hb : b < 65536) (hback : back < 256) : Fn P0 8 [relV rest tl S, U16 a, U16 b, U8 back] (B true) := by
  have hbr:=bd_rels rest tl htl S
  have hbd:=fun k=>bd_is rest tl htl S k
  have hb2:∀ x y:Int,PV.bds 0 [relV rest tl S,I x,I y]=true:=fun x y=>by
    have:=hbr
    simp only [PV.bds,PV.bd,Bool.and_eq_true] at this ⊢
    simp [this]
  have hba:∀ m:Int,PV.bds 0 [I m,.fp (relV rest tl S)]=true:=fun m=>by
    have:=hbr
    simp only [PV.bds,PV.bd,Bool.and_eq_true] at this ⊢
    simp [this]
  refine PFun.of (C:=c8) (cx_ok _ _ _) rfl (fn:=Try.f8) (by kernel_rfl) (c:=_) rfl rfl rfl ?_
  refine Run.seq (Run.region (cx_ok _ _ _) (Reg.op rfl (Ope.boxF rfl rfl ?_)))
  refine Reg.op rfl (Ope.asg rfl ?_)
  refine Reg.nil (Run.seq (Run.seq (Run.region (cx_ok _ _ _) (Reg.op rfl (Ope.load rfl rfl ?_)))))
  refine Reg.op rfl (Ope.cf rfl rfl (f12 rest tl htl S hS 5 (by decide)) (hbd 5) ?_)
  refine Reg.op rfl (Ope.mov rfl ?_)
  refine Reg.splitX rfl rfl (fun hg=>?_) fun hg=>?_
  ·refine Reg.off rfl rfl rfl (Reg.off rfl rfl rfl (Reg.off rfl rfl rfl (Reg.op rfl (Ope.pickT rfl rfl ?_))))
   refine Reg.nil (Run.condT rfl (Run.seq (Run.region (cx_ok _ _ _) (Reg.op rfl (Ope.cf rfl rfl awakeF rfl ?_)))))
   refine Reg.op rfl (Ope.asg rfl ?_)
   exact Reg.nil (Run.ret (Jmp.code (fin_ret (.tmp rfl .nil) rfl rfl)))
  ·refine Reg.on rfl rfl rfl (Ope.load rfl rfl ?_)
   refine Reg.on rfl rfl rfl (Ope.cf rfl rfl (f32 rest tl S hS) hbr ?_)
   refine Reg.on rfl rfl rfl (Ope.not rfl ?_)
   refine Reg.op rfl (Ope.pickF rfl rfl ?_)
   refine Reg.nil (Run.condX rfl (fun hc=>?_) fun hc=>?_)
   ·refine Run.seq (Run.region (cx_ok _ _ _) (Reg.op rfl (Ope.cf rfl rfl awakeF rfl ?_)))
    refine Reg.op rfl (Ope.asg rfl ?_)
    exact Reg.nil (Run.ret (Jmp.code (fin_ret (.tmp rfl .nil) rfl rfl)))
   ·refine Run.skip (Run.seq ?_)
    have hfar:farB rest S 5=false:=by assumption
    have hr:relOk rest S=true:=by simp_all
    obtain ⟨hrr,hS5,hv⟩:=relOk_of hr
    refine Run.region (cx_ok _ _ _) (Reg.op rfl (Ope.mov rfl ?_))
    refine Reg.op rfl (Ope.convN (p:=a) rfl rfl (by show _ < 2 ^ 63;omega) ?_)
    refine Reg.op rfl (Ope.remN (p:=a) (q:=601) rfl rfl rfl rfl (by decide) ?_)
    refine Reg.op rfl (Ope.asg rfl ?_)
    refine Reg.nil (Run.seq ?_)
    have hfr:a % 601 < 601:=Nat.mod_lt a (by decide)
    have htt:b % (601 - a % 601) < 601 - a % 601:=Nat.mod_lt b (by omega)
    refine Run.region (cx_ok _ _ _) (Reg.op rfl (Ope.mov rfl ?_))
    refine Reg.op rfl (Ope.mov rfl ?_)
    refine Reg.op rfl (Ope.convN (p:=b) rfl rfl (by show _ < 2 ^ 63;omega) ?_)
    refine Reg.op rfl (Ope.mov rfl ?_)
    refine Reg.op rfl (Ope.sub rfl rfl (by omega) ?_)
    refine Reg.op rfl (Ope.remN (p:=b) (q:=601 - a % 601) rfl rfl rfl (by have:=Nat.mod_lt a (show 0 < 601 by decide);omega) (by have:=Nat.mod_lt a (show 0 < 601 by decide);omega) ?_)
    refine Reg.op rfl (Ope.add rfl rfl (by omega) ?_)
    refine Reg.op rfl (Ope.asg rfl ?_)
    refine Reg.nil (Run.seq ?_)
    obtain ⟨e,n,f,g,h,H⟩:=minH htl hS hr (fr:=((a % 601:Nat):Int)) (tt:=((a % 601:Nat):Int)+((b % (601 - a % 601):Nat):Int)) (by omega) (by omega) (by omega)
    have hf0:(0:Int)≤((a % 601:Nat):Int):=by omega
    have ht6:((a % 601:Nat):Int)+((b % (601 - a % 601):Nat):Int)≤600:=by omega
    have hft:((a % 601:Nat):Int)≤((a % 601:Nat):Int)+((b % (601 - a % 601):Nat):Int):=by omega
    clear hfr htt
    generalize ((a % 601:Nat):Int)+((b % (601 - a % 601):Nat):Int)=tt at *
    generalize ((a % 601:Nat):Int)=fr at *
    obtain ⟨Hnob,Hgap,⟨cs,Hcl⟩,His,Hal,Hon,Hgp,Hnb,Hbad⟩:=H
    refine Run.region (cx_ok _ _ _) (Reg.op rfl (Ope.load rfl rfl ?_))
    refine Reg.op rfl (Ope.mov rfl ?_)
    refine Reg.op rfl (Ope.mov rfl ?_)
    refine Reg.op rfl (Ope.cf rfl rfl Hnob (hb2 _ _) ?_)
    refine Reg.op rfl (Ope.mov rfl ?_)
    refine Reg.op rfl (Ope.ext rfl rfl ?_)
    refine Reg.op rfl (Ope.ext rfl rfl ?_)
    refine Reg.op rfl (Ope.asg rfl ?_)
    refine Reg.op rfl (Ope.asg rfl ?_)
    refine Reg.nil (Run.seq (Run.region (cx_ok _ _ _) (Reg.op rfl (Ope.load rfl rfl ?_))))
    refine Reg.op rfl (Ope.mov rfl ?_)
    refine Reg.op rfl (Ope.mov rfl ?_)
    refine Reg.op rfl (Ope.cf rfl rfl Hgap (hb2 _ _) ?_)
    refine Reg.op rfl (Ope.mov rfl ?_)
    refine Reg.op rfl (Ope.ext rfl rfl ?_)
    refine Reg.op rfl (Ope.ext rfl rfl ?_)
    refine Reg.op rfl (Ope.asg rfl ?_)
    refine Reg.op rfl (Ope.asg rfl ?_)
    refine Reg.nil (Run.seq (Run.seq (Run.cut (fun e' d' h'=>Lsub [(3,U8 back),(4,.fp (relV rest tl S)),(9,I fr),(10,I tt),(11,I n),(12,I e),(13,I g),(14,I f),(77,B (decide (e=10)))] e'∧d'=[]∧h'=HE 0 []) ?_ ?_)))
    ·refine Run.region (cx_ok _ _ _) (Reg.op rfl (Ope.mov rfl ?_))
     refine Reg.op rfl (Ope.eq rfl rfl ?_)
     refine Reg.op rfl (Ope.mov rfl ?_)
     refine Reg.splitX rfl rfl (fun hg=>?_) fun hg=>?_
     ·refine Reg.off rfl rfl rfl (Reg.off rfl rfl rfl (Reg.op rfl (Ope.pickT rfl rfl ?_)))
      refine Reg.nil ?_
      first
      | exact Run.lend ⟨⟨rfl,rfl,rfl,rfl,rfl,rfl,rfl,rfl,rfl,trivial⟩,rfl,rfl⟩
      | exact Run.lend ⟨⟨rfl,rfl,rfl,rfl,rfl,rfl,rfl,rfl,congrArg (fun b=>some (B b)) (by rw [decide_eq_true (show e=10 by omega)]),trivial⟩,rfl,rfl⟩
      | exact Run.lend ⟨⟨rfl,rfl,rfl,rfl,rfl,rfl,rfl,rfl,congrArg (fun b=>some (B b)) (by rw [decide_eq_false (show ¬ e=10 by omega),decide_eq_false (show ¬ f=10 by omega)]),trivial⟩,rfl,rfl⟩
     ·refine Reg.on rfl rfl rfl (Ope.mov rfl ?_)
      refine Reg.on rfl rfl rfl (Ope.eq rfl rfl ?_)
      refine Reg.op rfl (Ope.pickF rfl rfl ?_)
      refine Reg.nil ?_
      first
      | exact Run.lend ⟨⟨rfl,rfl,rfl,rfl,rfl,rfl,rfl,rfl,rfl,trivial⟩,rfl,rfl⟩
      | exact Run.lend ⟨⟨rfl,rfl,rfl,rfl,rfl,rfl,rfl,rfl,congrArg (fun b=>some (B b)) (by rw [decide_eq_true (show e=10 by omega)]),trivial⟩,rfl,rfl⟩
      | exact Run.lend ⟨⟨rfl,rfl,rfl,rfl,rfl,rfl,rfl,rfl,congrArg (fun b=>some (B b)) (by rw [decide_eq_false (show ¬ e=10 by omega),decide_eq_false (show ¬ f=10 by omega)]),trivial⟩,rfl,rfl⟩
    ·rintro e' d' h' ⟨hs, rfl, rfl⟩; refine Run.less hs ?_
     refine Run.condX rfl (fun hc=>?_) fun hc=>?_
     ·refine Run.seq (Run.region (cx_ok _ _ _) (Reg.op rfl (Ope.load rfl rfl ?_)))
      refine Reg.op rfl (Ope.cf rfl rfl Hcl hbr ?_)
      refine Reg.op rfl (Ope.mov rfl ?_)
      refine Reg.op rfl (Ope.ext rfl rfl ?_)
      refine Reg.op rfl (Ope.ext rfl rfl ?_)
      refine Reg.op rfl (Ope.asg rfl ?_)
      refine Reg.op rfl (Ope.asg rfl ?_)
      refine Reg.nil (Run.seq (Run.region (cx_ok _ _ _) (Reg.op rfl (Ope.mov rfl ?_))))
      refine Reg.op rfl (Ope.mov rfl ?_)
      refine Reg.op rfl (Ope.eq rfl rfl ?_)
      refine Reg.op rfl (Ope.mov rfl ?_)
      refine Reg.splitX rfl rfl (fun hg=>?_) fun hg=>?_
      ·refine Reg.on rfl rfl rfl (Ope.mov rfl ?_)
       refine Reg.on rfl rfl rfl (Ope.eq rfl rfl ?_)
       refine Reg.op rfl (Ope.pickT rfl rfl ?_)
       refine Reg.op rfl (Ope.mov rfl ?_)
       refine Reg.splitX rfl rfl (fun hg=>?_) fun hg=>?_
       ·refine Reg.on rfl rfl rfl (Ope.mov rfl ?_)
        refine Reg.on rfl rfl rfl (Ope.eq rfl rfl ?_)
        refine Reg.op rfl (Ope.pickT rfl rfl ?_)
        refine Reg.op rfl (Ope.mov rfl ?_)
        refine Reg.splitX rfl rfl (fun hg=>?_) fun hg=>?_
        ·refine Reg.on rfl rfl rfl (Ope.mov rfl ?_)
         refine Reg.on rfl rfl rfl (Ope.eq rfl rfl ?_)
         refine Reg.op rfl (Ope.pickT rfl rfl ?_)
         refine Reg.op rfl (Ope.mov rfl ?_)
         refine Reg.splitX rfl rfl (fun hg=>?_) fun hg=>?_
         ·refine Reg.on rfl rfl rfl (Ope.cf rfl rfl awakeF rfl ?_)
          refine Reg.op rfl (Ope.pickT rfl rfl ?_)
          refine Reg.op rfl (Ope.asg rfl ?_)
          exact Reg.nil (Run.ret (Jmp.code (fin_ret (.tmp rfl .nil) rfl rfl)))
         ·(first | (exfalso;omega))
        ·(first | (exfalso;omega))
       ·(first | (exfalso;omega))
      ·(first | (exfalso;omega))
     ·refine Run.skip (Run.seq (Run.seq (Run.cut (fun e' d' h' => Lsub [(3, U8 back), (4, .fp (relV rest tl S)), (9, I fr), (10, I tt), (11, I n), (12, I e), (13, I g), (14, I f), (159, B false)] e' ∧ d' = [] ∧ h' = HE 0 []) ?_ ?_)))
      ·refine Run.region (cx_ok _ _ _) (Reg.op rfl (Ope.mov rfl ?_))
       refine Reg.op rfl (Ope.ne rfl rfl ?_)
       refine Reg.op rfl (Ope.mov rfl ?_)
       refine Reg.splitX rfl rfl (fun hg=>?_) fun hg=>?_
       ·refine Reg.on rfl rfl rfl (Ope.mov rfl ?_)
        refine Reg.on rfl rfl rfl (Ope.ne rfl rfl ?_)
        refine Reg.on rfl rfl rfl (Ope.mov rfl ?_)
        refine Reg.splitX rfl rfl (fun hg=>?_) fun hg=>?_
        ·(first | (exfalso;omega))
        ·refine Reg.on rfl rfl rfl (Ope.mov rfl ?_)
         refine Reg.on rfl rfl rfl (Ope.ne rfl rfl ?_)
         refine Reg.on rfl rfl rfl (Ope.pickF rfl rfl ?_)
         refine Reg.op rfl (Ope.pickT rfl rfl ?_)
         refine Reg.op rfl (Ope.mov rfl ?_)
         refine Reg.splitX rfl rfl (fun hg=>?_) fun hg=>?_
         ·(first | (exfalso;omega))
         ·refine Reg.on rfl rfl rfl (Ope.mov rfl ?_)
          refine Reg.on rfl rfl rfl (Ope.ne rfl rfl ?_)
          refine Reg.on rfl rfl rfl (Ope.mov rfl ?_)
          refine Reg.splitX rfl rfl (fun hg=>?_) fun hg=>?_
          ·refine Reg.on rfl rfl rfl (Ope.mov rfl ?_)
           refine Reg.on rfl rfl rfl (Ope.ne rfl rfl ?_)
           refine Reg.on rfl rfl rfl (Ope.mov rfl ?_)
           refine Reg.splitX rfl rfl (fun hg=>?_) fun hg=>?_
           ·(first | (exfalso;omega))
           ·refine Reg.on rfl rfl rfl (Ope.mov rfl ?_)
            refine Reg.on rfl rfl rfl (Ope.ne rfl rfl ?_)
            refine Reg.on rfl rfl rfl (Ope.pickF rfl rfl ?_)
            refine Reg.on rfl rfl rfl (Ope.pickT rfl rfl ?_)
            refine Reg.op rfl (Ope.pickF rfl rfl ?_)
            refine Reg.op rfl (Ope.mov rfl ?_)
            refine Reg.splitX rfl rfl (fun hg=>?_) fun hg=>?_
            ·(first | (exfalso;omega))
            ·refine Reg.on rfl rfl rfl (Ope.mov rfl ?_)
             refine Reg.on rfl rfl rfl (Ope.eq rfl rfl ?_)
             refine Reg.on rfl rfl rfl (Ope.mov rfl ?_)
             refine Reg.splitX rfl rfl (fun hg=>?_) fun hg=>?_
             ·(first | (exfalso;omega))
             ·refine Reg.off rfl rfl rfl (Reg.off rfl rfl rfl (Reg.off rfl rfl rfl (Reg.past rfl rfl rfl (Reg.past rfl rfl rfl (Reg.past rfl rfl rfl (Reg.off rfl rfl rfl (Reg.off rfl rfl rfl (Reg.past rfl rfl rfl (Reg.past rfl rfl rfl (Reg.past rfl rfl rfl (Reg.off rfl rfl rfl (Reg.off rfl rfl rfl (Reg.past rfl rfl rfl (Reg.past rfl rfl rfl (Reg.past rfl rfl rfl (Reg.off rfl rfl rfl (Reg.on rfl rfl rfl (Ope.pickF rfl rfl ?_))))))))))))))))))
              refine Reg.op rfl (Ope.pickF rfl rfl ?_)
              refine Reg.op rfl (Ope.mov rfl ?_)
              refine Reg.on rfl rfl rfl (Ope.mov rfl ?_)
              refine Reg.on rfl rfl rfl (Ope.eq rfl rfl ?_)
              refine Reg.on rfl rfl rfl (Ope.mov rfl ?_)
              refine Reg.splitX rfl rfl (fun hg=>?_) fun hg=>?_
              ·(first | (exfalso;omega))
              ·refine Reg.off rfl rfl rfl (Reg.off rfl rfl rfl (Reg.off rfl rfl rfl (Reg.off rfl rfl rfl (Reg.past rfl rfl rfl (Reg.past rfl rfl rfl (Reg.past rfl rfl rfl (Reg.off rfl rfl rfl (Reg.on rfl rfl rfl (Ope.pickF rfl rfl ?_)))))))))
               refine Reg.op rfl (Ope.pickF rfl rfl ?_)
               refine Reg.nil ?_
               first
               | exact Run.lend ⟨⟨rfl,rfl,rfl,rfl,rfl,rfl,rfl,rfl,rfl,trivial⟩,rfl,rfl⟩
               | exact Run.lend ⟨⟨rfl,rfl,rfl,rfl,rfl,rfl,rfl,rfl,congrArg (fun b=>some (B b)) (decide_eq_false (by omega)),trivial⟩,rfl,rfl⟩
          ·refine Reg.off rfl rfl rfl (Reg.off rfl rfl rfl (Reg.off rfl rfl rfl (Reg.past rfl rfl rfl (Reg.past rfl rfl rfl (Reg.off rfl rfl rfl (Reg.on rfl rfl rfl (Ope.pickF rfl rfl ?_)))))))
           refine Reg.op rfl (Ope.pickF rfl rfl ?_)
           refine Reg.op rfl (Ope.mov rfl ?_)
           refine Reg.on rfl rfl rfl (Ope.mov rfl ?_)
           refine Reg.on rfl rfl rfl (Ope.eq rfl rfl ?_)
           refine Reg.on rfl rfl rfl (Ope.mov rfl ?_)
           refine Reg.splitX rfl rfl (fun hg=>?_) fun hg=>?_
           ·(first | (exfalso;omega))
           ·refine Reg.off rfl rfl rfl (Reg.off rfl rfl rfl (Reg.off rfl rfl rfl (Reg.past rfl rfl rfl (Reg.past rfl rfl rfl (Reg.past rfl rfl rfl (Reg.off rfl rfl rfl (Reg.off rfl rfl rfl (Reg.past rfl rfl rfl (Reg.past rfl rfl rfl (Reg.past rfl rfl rfl (Reg.off rfl rfl rfl (Reg.off rfl rfl rfl (Reg.past rfl rfl rfl (Reg.past rfl rfl rfl (Reg.past rfl rfl rfl (Reg.off rfl rfl rfl (Reg.on rfl rfl rfl (Ope.pickF rfl rfl ?_))))))))))))))))))
            refine Reg.op rfl (Ope.pickF rfl rfl ?_)
            refine Reg.op rfl (Ope.mov rfl ?_)
            refine Reg.on rfl rfl rfl (Ope.mov rfl ?_)
            refine Reg.on rfl rfl rfl (Ope.eq rfl rfl ?_)
            refine Reg.on rfl rfl rfl (Ope.mov rfl ?_)
            refine Reg.splitX rfl rfl (fun hg=>?_) fun hg=>?_
            ·refine Reg.on rfl rfl rfl (Ope.mov rfl ?_)
             refine Reg.on rfl rfl rfl (Ope.mov rfl ?_)
             refine Reg.on rfl rfl rfl (Ope.lt rfl rfl ?_)
             refine Reg.on rfl rfl rfl (Ope.mov rfl ?_)
             refine Reg.splitX rfl rfl (fun hg=>?_) fun hg=>?_
             ·(first | (exfalso;omega))
             ·refine Reg.on rfl rfl rfl (Ope.mov rfl ?_)
              refine Reg.on rfl rfl rfl (Ope.mov rfl ?_)
              refine Reg.on rfl rfl rfl (Ope.gt rfl rfl ?_)
              refine Reg.on rfl rfl rfl (Ope.pickF rfl rfl ?_)
              refine Reg.on rfl rfl rfl (Ope.pickT rfl rfl ?_)
              refine Reg.op rfl (Ope.pickF rfl rfl ?_)
              refine Reg.nil ?_
              first
              | exact Run.lend ⟨⟨rfl,rfl,rfl,rfl,rfl,rfl,rfl,rfl,rfl,trivial⟩,rfl,rfl⟩
              | exact Run.lend ⟨⟨rfl,rfl,rfl,rfl,rfl,rfl,rfl,rfl,congrArg (fun b=>some (B b)) (decide_eq_false (by omega)),trivial⟩,rfl,rfl⟩
            ·(first | (exfalso;omega))
       ·refine Reg.off rfl rfl rfl (Reg.off rfl rfl rfl (Reg.off rfl rfl rfl (Reg.past rfl rfl rfl (Reg.past rfl rfl rfl (Reg.off rfl rfl rfl (Reg.op rfl (Ope.pickF rfl rfl ?_)))))))
        refine Reg.op rfl (Ope.mov rfl ?_)
        refine Reg.on rfl rfl rfl (Ope.mov rfl ?_)
        refine Reg.on rfl rfl rfl (Ope.ne rfl rfl ?_)
        refine Reg.on rfl rfl rfl (Ope.mov rfl ?_)
        refine Reg.splitX rfl rfl (fun hg=>?_) fun hg=>?_
        ·(first | (exfalso;omega))
        ·refine Reg.off rfl rfl rfl (Reg.off rfl rfl rfl (Reg.off rfl rfl rfl (Reg.past rfl rfl rfl (Reg.past rfl rfl rfl (Reg.off rfl rfl rfl (Reg.on rfl rfl rfl (Ope.pickF rfl rfl ?_)))))))
         refine Reg.op rfl (Ope.pickF rfl rfl ?_)
         refine Reg.op rfl (Ope.mov rfl ?_)
         refine Reg.on rfl rfl rfl (Ope.mov rfl ?_)
         refine Reg.on rfl rfl rfl (Ope.eq rfl rfl ?_)
         refine Reg.on rfl rfl rfl (Ope.mov rfl ?_)
         refine Reg.splitX rfl rfl (fun hg=>?_) fun hg=>?_
         ·refine Reg.on rfl rfl rfl (Ope.mov rfl ?_)
          refine Reg.on rfl rfl rfl (Ope.ne rfl rfl ?_)
          refine Reg.on rfl rfl rfl (Ope.mov rfl ?_)
          refine Reg.splitX rfl rfl (fun hg=>?_) fun hg=>?_
          ·(first | (exfalso;omega))
          ·refine Reg.on rfl rfl rfl (Ope.mov rfl ?_)
           refine Reg.on rfl rfl rfl (Ope.mov rfl ?_)
           refine Reg.on rfl rfl rfl (Ope.gt rfl rfl ?_)
           refine Reg.on rfl rfl rfl (Ope.pickF rfl rfl ?_)
           refine Reg.on rfl rfl rfl (Ope.mov rfl ?_)
           refine Reg.splitX rfl rfl (fun hg=>?_) fun hg=>?_
           ·(first | (exfalso;omega))
           ·refine Reg.on rfl rfl rfl (Ope.mov rfl ?_)
            refine Reg.on rfl rfl rfl (Ope.mov rfl ?_)
            refine Reg.on rfl rfl rfl (Ope.lt rfl rfl ?_)
            refine Reg.on rfl rfl rfl (Ope.pickF rfl rfl ?_)
            refine Reg.on rfl rfl rfl (Ope.mov rfl ?_)
            refine Reg.splitX rfl rfl (fun hg=>?_) fun hg=>?_
            ·(first | (exfalso;omega))
            ·refine Reg.on rfl rfl rfl (Ope.mov rfl ?_)
             refine Reg.on rfl rfl rfl (Ope.mov rfl ?_)
             refine Reg.on rfl rfl rfl (Ope.gt rfl rfl ?_)
             refine Reg.on rfl rfl rfl (Ope.pickF rfl rfl ?_)
             refine Reg.on rfl rfl rfl (Ope.pickT rfl rfl ?_)
             refine Reg.op rfl (Ope.pickF rfl rfl ?_)
             refine Reg.op rfl (Ope.mov rfl ?_)
             refine Reg.splitX rfl rfl (fun hg=>?_) fun hg=>?_
             ·(first | (exfalso;omega))
             ·refine Reg.on rfl rfl rfl (Ope.mov rfl ?_)
              refine Reg.on rfl rfl rfl (Ope.eq rfl rfl ?_)
              refine Reg.on rfl rfl rfl (Ope.mov rfl ?_)
              refine Reg.splitX rfl rfl (fun hg=>?_) fun hg=>?_
              ·refine Reg.on rfl rfl rfl (Ope.mov rfl ?_)
               refine Reg.on rfl rfl rfl (Ope.mov rfl ?_)
               refine Reg.on rfl rfl rfl (Ope.lt rfl rfl ?_)
               refine Reg.on rfl rfl rfl (Ope.mov rfl ?_)
               refine Reg.splitX rfl rfl (fun hg=>?_) fun hg=>?_
               ·(first | (exfalso;omega))
               ·refine Reg.on rfl rfl rfl (Ope.mov rfl ?_)
                refine Reg.on rfl rfl rfl (Ope.mov rfl ?_)
                refine Reg.on rfl rfl rfl (Ope.gt rfl rfl ?_)
                refine Reg.on rfl rfl rfl (Ope.pickF rfl rfl ?_)
                refine Reg.on rfl rfl rfl (Ope.pickT rfl rfl ?_)
                refine Reg.op rfl (Ope.pickF rfl rfl ?_)
                refine Reg.nil ?_
                first
                | exact Run.lend ⟨⟨rfl,rfl,rfl,rfl,rfl,rfl,rfl,rfl,rfl,trivial⟩,rfl,rfl⟩
                | exact Run.lend ⟨⟨rfl,rfl,rfl,rfl,rfl,rfl,rfl,rfl,congrArg (fun b=>some (B b)) (decide_eq_false (by omega)),trivial⟩,rfl,rfl⟩
              ·(first | (exfalso;omega))
         ·(first | (exfalso;omega))
      ·rintro e' d' h' ⟨hs, rfl, rfl⟩; refine Run.less hs ?_
       refine Run.condX rfl (fun hc=>?_) fun hc=>?_
       ·(exfalso;exact absurd hc (by decide))
       ·refine Run.skip (Run.seq (Run.region (cx_ok _ _ _) (Reg.op rfl (Ope.mkf rfl rfl ?_))))
        refine Reg.op rfl (Ope.asg rfl ?_)
        refine Reg.nil (Run.seq (Run.seq (Run.region (cx_ok _ _ _) (Reg.op rfl (Ope.mov rfl ?_)))))
        refine Reg.op rfl (Ope.eq rfl rfl ?_)
        refine Reg.nil (Run.cut (fun e' d' h'=>∃ q,Lsub [(3,U8 back),(4,.fp (relV rest tl S)),(9,I fr),(10,I tt),(11,I n),(12,I e),(13,I g),(14,I f),(17,.fn (.func 35) [] [.fp (relV rest tl S)])] e'∧d'=[]∧h'=HE q []) ?_ ?_)
        ·refine Run.condX rfl (fun hc => ?_) fun hc => ?_
         ·refine Run.seq (Run.seq ?_)
          obtain ⟨G,Cn,ha1,ha2,ha3⟩:=Hal (by omega)
          have ha4:=ha1 n
          rw [ha2 (by omega)] at ha4
          refine Run.region (cx_ok _ _ _) (Reg.op rfl (Ope.mov rfl ?_))
          refine Reg.op rfl (Ope.mov rfl ?_)
          refine Reg.op rfl (Ope.cf rfl rfl ha4 (hba _) ?_)
          refine Reg.op rfl (Ope.mov rfl ?_)
          refine Reg.op rfl (Ope.ext rfl rfl ?_)
          refine Reg.op rfl (Ope.ext rfl rfl ?_)
          refine Reg.op rfl (Ope.asg rfl ?_)
          refine Reg.op rfl (Ope.asg rfl ?_)
          refine Reg.nil (Run.seq (Run.region (cx_ok _ _ _) (Reg.op rfl (Ope.mov rfl ?_))))
          refine Reg.nil (Run.condX rfl (fun hc=>?_) fun hc=>?_)
          ·(exfalso;exact absurd hc (by decide))
          ·refine Run.skip (Run.seq (Run.region (cx_ok _ _ _) (Reg.op rfl (Ope.fld rfl rfl ?_))))
           refine Reg.op rfl (Ope.load rfl rfl ?_)
           refine Reg.op rfl (Ope.len (m:=S.length) rfl (by simp) ?_)
           refine Reg.op rfl (Ope.mov rfl ?_)
           refine Reg.nil (Run.block (Run.loop (α:=Nat×Nat) (fun s=>[(3,U8 back),(4,.fp (relV rest tl S)),(9,I fr),(10,I tt),(11,I n),(12,I e),(13,I g),(14,I f),(17,.fn (.func 35) [] [.fp (relV rest tl S)]),(172,I S.length),(173,I s.1)]) (fun s=>HE s.2 []) (fun s=>s.1≤S.length) (fun s=>S.length - s.1) (0,0) ⟨rfl,rfl,rfl,rfl,rfl,rfl,rfl,rfl,rfl,rfl,rfl,trivial⟩ rfl (Nat.zero_le _) (fun s hs=>?_)))
           obtain ⟨i,q⟩:=s
           have hi:i≤S.length:=hs
           show Run _ _ _ _ [(3,U8 back),(4,.fp (relV rest tl S)),(9,I fr),(10,I tt),(11,I n),(12,I e),(13,I g),(14,I f),(17,.fn (.func 35) [] [.fp (relV rest tl S)]),(172,I S.length),(173,I i)] [] (HE q [])
           refine Run.seq (Run.region (cx_ok _ _ _) (Reg.op rfl (Ope.lt rfl rfl ?_)))
           refine Reg.nil (Run.seq (Run.condX rfl (fun hc=>?_) fun hc=>?_))
           ·refine Run.skip (Run.seq (Run.block (Run.seq (Run.region (cx_ok _ _ _) (Reg.op rfl (Ope.mov rfl ?_))))))
            refine Reg.op rfl (Ope.asg rfl ?_)
            refine Reg.nil (Run.seq ?_)
            have hlt:i < S.length:=by omega
            obtain ⟨oa,ob,ho1,ho2⟩:=Hon (by omega) i hlt
            refine Run.region (cx_ok _ _ _) (Reg.op rfl (Ope.load rfl rfl ?_))
            refine Reg.op rfl (Ope.mov rfl ?_)
            refine Reg.op rfl (Ope.cf rfl rfl ho1 (hbd _) ?_)
            refine Reg.op rfl (Ope.mov rfl ?_)
            refine Reg.op rfl (Ope.ext rfl rfl ?_)
            refine Reg.op rfl (Ope.ext rfl rfl ?_)
            refine Reg.op rfl (Ope.newL rfl ?_)
            refine Reg.op0 (Ope.store rfl rfl hget_hd rfl rfl rfl ?_)
            refine Reg.op rfl (Ope.asg rfl ?_)
            refine Reg.nil (Run.seq (Run.seq (Run.frz (d:=21) true rfl hget_hd rfl ?_)))
            refine Run.wide (m:=q+1) (l':=[]) (Nat.le_refl _) trivial ?_
            refine Run.region (cx_ok _ _ _) (Reg.op rfl (Ope.mov rfl ?_))
            refine Reg.op rfl (Ope.ne rfl rfl ?_)
            refine Reg.nil (Run.condX rfl (fun hc=>?_) fun hc=>?_)
            ·(exfalso;exact absurd rfl hc)
            ·refine Run.skip (Run.seq (Run.seq (Run.region (cx_ok _ _ _) (Reg.op rfl (Ope.fld rfl rfl ?_)))))
             refine Reg.op rfl (Ope.load rfl rfl ?_)
             refine Reg.op rfl (Ope.mov rfl ?_)
             refine Reg.op rfl (Ope.gt rfl rfl ?_)
             refine Reg.nil (Run.condX rfl (fun hc=>?_) fun hc=>?_)
             ·refine Run.exit (Jmp.code (Jmp.here (Run.region (cx_ok _ _ _) (Reg.op rfl (Ope.add rfl rfl (by omega) ?_)))))
              refine Reg.op rfl (Ope.mov rfl ?_)
              refine Reg.nil ?_
              first
              | exact Run.lend ⟨(i+1,q+3),by show S.length - (i+1) < S.length - i;omega,by show i+1≤S.length;omega,⟨rfl,rfl,rfl,rfl,rfl,rfl,rfl,rfl,rfl,rfl,rfl,trivial⟩,rfl,rfl⟩
              | exact Run.lend ⟨(i+1,q+1),by show S.length - (i+1) < S.length - i;omega,by show i+1≤S.length;omega,⟨rfl,rfl,rfl,rfl,rfl,rfl,rfl,rfl,rfl,rfl,rfl,trivial⟩,rfl,rfl⟩
             ·refine Run.skip (Run.seq ?_)
              obtain ⟨oc,od,ho3,ho4⟩:=ho2 (by omega) (by omega)
              refine Run.region (cx_ok _ _ _) (Reg.op rfl (Ope.load rfl rfl ?_))
              refine Reg.op rfl (Ope.mov rfl ?_)
              refine Reg.op rfl (Ope.mul rfl rfl (by omega) ?_)
              refine Reg.op rfl (Ope.fld rfl rfl ?_)
              refine Reg.op rfl (Ope.load rfl rfl ?_)
              refine Reg.op rfl (Ope.cf rfl rfl (f33 rest tl htl S (by omega) (4 * i) (by omega) oa) (hb2 _ _) ?_)
              refine Reg.op rfl (Ope.newL rfl ?_)
              refine Reg.op0 (Ope.store rfl rfl hget_hd rfl rfl rfl ?_)
              refine Reg.nil (Run.seq (Run.frz (d:=23) true rfl hget_hd rfl ?_))
              refine Run.wide (m:=q+2) (l':=[]) (Nat.le_refl _) trivial ?_
              refine Run.region (cx_ok _ _ _) (Reg.op rfl (Ope.load rfl rfl ?_))
              refine Reg.op rfl (Ope.mov rfl ?_)
              refine Reg.op rfl (Ope.cf rfl rfl ho3 (bd_is rest .no rfl _ i) ?_)
              refine Reg.op rfl (Ope.mov rfl ?_)
              refine Reg.op rfl (Ope.ext rfl rfl ?_)
              refine Reg.op rfl (Ope.ext rfl rfl ?_)
              refine Reg.op rfl (Ope.newL rfl ?_)
              refine Reg.op0 (Ope.store rfl rfl hget_hd rfl rfl rfl ?_)
              refine Reg.op rfl (Ope.asg rfl ?_)
              refine Reg.nil (Run.seq (Run.frz (d:=24) true rfl hget_hd rfl ?_))
              refine Run.wide (m:=q+3) (l':=[]) (Nat.le_refl _) trivial ?_
              refine Run.region (cx_ok _ _ _) (Reg.op rfl (Ope.mov rfl ?_))
              refine Reg.op rfl (Ope.ne rfl rfl ?_)
              refine Reg.op rfl (Ope.mov rfl ?_)
              refine Reg.splitX rfl rfl (fun hg=>?_) fun hg=>?_
              ·(first | (exfalso;omega))
              ·refine Reg.on rfl rfl rfl (Ope.fld rfl rfl ?_)
               refine Reg.on rfl rfl rfl (Ope.load rfl rfl ?_)
               refine Reg.on rfl rfl rfl (Ope.mov rfl ?_)
               refine Reg.on rfl rfl rfl (Ope.gt rfl rfl ?_)
               refine Reg.op rfl (Ope.pickF rfl rfl ?_)
               refine Reg.nil (Run.condX rfl (fun hc=>?_) fun hc=>?_)
               ·(first | (exfalso;omega))
               ·refine Run.skip (Run.bend (Run.region (cx_ok _ _ _) (Reg.op rfl (Ope.add rfl rfl (by omega) ?_))))
                refine Reg.op rfl (Ope.mov rfl ?_)
                refine Reg.nil ?_
                first
                | exact Run.lend ⟨(i+1,q+3),by show S.length - (i+1) < S.length - i;omega,by show i+1≤S.length;omega,⟨rfl,rfl,rfl,rfl,rfl,rfl,rfl,rfl,rfl,rfl,rfl,trivial⟩,rfl,rfl⟩
                | exact Run.lend ⟨(i+1,q+1),by show S.length - (i+1) < S.length - i;omega,by show i+1≤S.length;omega,⟨rfl,rfl,rfl,rfl,rfl,rfl,rfl,rfl,rfl,rfl,rfl,trivial⟩,rfl,rfl⟩
           ·exact Run.exit (Jmp.code (Jmp.round (Jmp.here (Run.lend ⟨_,⟨rfl,rfl,rfl,rfl,rfl,rfl,rfl,rfl,rfl,trivial⟩,rfl,rfl⟩))))
         ·exact Run.skip (Run.lend ⟨_,⟨rfl,rfl,rfl,rfl,rfl,rfl,rfl,rfl,rfl,trivial⟩,rfl,rfl⟩)
        ·rintro e' d' h' ⟨q0, hs, rfl, rfl⟩; refine Run.less hs ?_
         refine Run.seq (Run.region (cx_ok _ _ _) (Reg.op rfl (Ope.mov rfl ?_)))
         refine Reg.op rfl (Ope.add rfl rfl (by omega) ?_)
         refine Reg.op rfl (Ope.asg rfl ?_)
         refine Reg.nil (Run.seq (Run.seq (Run.region (cx_ok _ _ _) (Reg.op rfl (Ope.mov rfl ?_)))))
         refine Reg.op rfl (Ope.eq rfl rfl ?_)
         refine Reg.nil (Run.cut (fun e' d' h'=>∃ ed,Lsub [(3,U8 back),(4,.fp (relV rest tl S)),(9,I fr),(10,I tt),(11,I n),(12,I e),(13,I g),(14,I f),(17,.fn (.func 35) [] [.fp (relV rest tl S)]),(26,I ed)] e'∧(d'=[]∧h'=HE q0 [])∧(f=0→ed=g)∧(f≠0→ed=tt+1)) ?_ ?_)
         ·refine Run.condX rfl (fun hc=>?_) fun hc=>?_
          ·refine Run.region (cx_ok _ _ _) (Reg.op rfl (Ope.mov rfl ?_))
           refine Reg.op rfl (Ope.asg rfl ?_)
           refine Reg.nil ?_
           first
           | exact Run.lend ⟨g,⟨rfl,rfl,rfl,rfl,rfl,rfl,rfl,rfl,rfl,rfl,trivial⟩,⟨rfl,rfl⟩,fun _=>rfl,fun h0=>absurd (by omega) h0⟩
           | exact Run.lend ⟨tt+1,⟨rfl,rfl,rfl,rfl,rfl,rfl,rfl,rfl,rfl,rfl,trivial⟩,⟨rfl,rfl⟩,fun h0=>absurd h0 (by omega),fun _=>rfl⟩
          ·refine Run.skip ?_
           first
           | exact Run.lend ⟨g,⟨rfl,rfl,rfl,rfl,rfl,rfl,rfl,rfl,rfl,rfl,trivial⟩,⟨rfl,rfl⟩,fun _=>rfl,fun h0=>absurd (by omega) h0⟩
           | exact Run.lend ⟨tt+1,⟨rfl,rfl,rfl,rfl,rfl,rfl,rfl,rfl,rfl,rfl,trivial⟩,⟨rfl,rfl⟩,fun h0=>absurd h0 (by omega),fun _=>rfl⟩
         ·rintro e' d' h' ⟨ed,hs,⟨rfl,rfl⟩,hed1,hed2⟩;refine Run.less hs ?_
          refine Run.seq (Run.seq (Run.region (cx_ok _ _ _) (Reg.op rfl (Ope.mov rfl ?_))))
          refine Reg.op rfl (Ope.mov rfl ?_)
          refine Reg.op rfl (Ope.gt rfl rfl ?_)
          refine Reg.nil (Run.cut (fun e' d' h'=>Lsub [(3,U8 back),(4,.fp (relV rest tl S)),(9,I fr),(10,I tt),(11,I n),(12,I e),(13,I g),(14,I f)] e'∧d'=[]∧h'=HE q0 []) ?_ ?_)
          ·refine Run.condX rfl (fun hc=>?_) fun hc=>?_
           ·refine Run.seq ?_
            have hq1:back % (ed - fr).toNat < (ed - fr).toNat:=Nat.mod_lt back (by omega)
            refine Run.region (cx_ok _ _ _) (Reg.op rfl (Ope.mov rfl ?_))
            refine Reg.op rfl (Ope.sub rfl rfl (by omega) ?_)
            refine Reg.op rfl (Ope.mov rfl ?_)
            refine Reg.op rfl (Ope.convN (p:=back) rfl rfl (by show _ < 2 ^ 63;omega) ?_)
            refine Reg.op rfl (Ope.mov rfl ?_)
            refine Reg.op rfl (Ope.mov rfl ?_)
            refine Reg.op rfl (Ope.sub rfl rfl (by omega) ?_)
            refine Reg.op rfl (Ope.remN (p:=back) rfl rfl rfl (Int.toNat_of_nonneg (by omega)).symm (by omega) ?_)
            refine Reg.op rfl (Ope.sub rfl rfl (by omega) ?_)
            refine Reg.op rfl (Ope.asg rfl ?_)
            refine Reg.nil (Run.seq (Run.seq ?_))
            obtain ⟨G,Cn,ha1,ha2,ha3⟩:=Hal (by omega)
            refine Run.region (cx_ok _ _ _) (Reg.op rfl (Ope.mov rfl ?_))
            refine Reg.op rfl (Ope.mov rfl ?_)
            refine Reg.op rfl (Ope.cf rfl rfl (ha1 _) (hba _) ?_)
            refine Reg.op rfl (Ope.mov rfl ?_)
            refine Reg.op rfl (Ope.ext rfl rfl ?_)
            refine Reg.op rfl (Ope.ext rfl rfl ?_)
            refine Reg.op rfl (Ope.asg rfl ?_)
            refine Reg.op rfl (Ope.asg rfl ?_)
            refine Reg.nil (Run.seq (Run.region (cx_ok _ _ _) (Reg.op rfl (Ope.mov rfl ?_))))
            refine Reg.nil (Run.condX rfl (fun hc=>?_) fun hc=>?_)
            ·(exfalso;exact absurd (hc.symm.trans (ha3 _ (by omega) (fun _=>by omega) (fun _=>by omega))) (by decide))
            ·refine Run.skip (Run.seq (Run.region (cx_ok _ _ _) (Reg.op rfl (Ope.load rfl rfl ?_))))
             refine Reg.op rfl (Ope.mov rfl ?_)
             refine Reg.op rfl (Ope.mov rfl ?_)
             refine Reg.op rfl (Ope.cf rfl rfl (Hgp (by omega) _ (by omega) (fun _=>by omega) (fun _=>by omega)) (hb2 _ _) ?_)
             refine Reg.op rfl (Ope.mov rfl ?_)
             refine Reg.op rfl (Ope.ext rfl rfl ?_)
             refine Reg.op rfl (Ope.ext rfl rfl ?_)
             refine Reg.op rfl (Ope.asg rfl ?_)
             refine Reg.op rfl (Ope.asg rfl ?_)
             refine Reg.nil (Run.seq (Run.region (cx_ok _ _ _) (Reg.op rfl (Ope.mov rfl ?_))))
             refine Reg.op rfl (Ope.ne rfl rfl ?_)
             refine Reg.nil (Run.condX rfl (fun hc=>?_) fun hc=>?_)
             ·(exfalso;exact absurd rfl hc)
             ·exact Run.skip (Run.lend ⟨⟨rfl,rfl,rfl,rfl,rfl,rfl,rfl,rfl,trivial⟩,rfl,rfl⟩)
           ·exact Run.skip (Run.lend ⟨⟨rfl,rfl,rfl,rfl,rfl,rfl,rfl,rfl,trivial⟩,rfl,rfl⟩)
          ·rintro e' d' h' ⟨hs,rfl,rfl⟩;refine Run.less hs ?_
           refine Run.seq (Run.region (cx_ok _ _ _) (Reg.op rfl (Ope.mov rfl ?_)))
           refine Reg.op rfl (Ope.add rfl rfl (by omega) ?_)
           refine Reg.op rfl (Ope.asg rfl ?_)
           refine Reg.nil (Run.seq (Run.seq (Run.region (cx_ok _ _ _) (Reg.op rfl (Ope.mov rfl ?_)))))
           refine Reg.op rfl (Ope.eq rfl rfl ?_)
           refine Reg.nil (Run.cut (fun e' d' h'=>∃ la,Lsub [(3,U8 back),(4,.fp (relV rest tl S)),(9,I fr),(10,I tt),(11,I n),(12,I e),(13,I g),(14,I f),(32,I la)] e'∧(d'=[]∧h'=HE q0 [])∧(e=0→la=n)∧(e≠0→la=tt+1)) ?_ ?_)
           ·refine Run.condX rfl (fun hc=>?_) fun hc=>?_
            ·refine Run.region (cx_ok _ _ _) (Reg.op rfl (Ope.mov rfl ?_))
             refine Reg.op rfl (Ope.asg rfl ?_)
             refine Reg.nil ?_
             first
             | exact Run.lend ⟨n,⟨rfl,rfl,rfl,rfl,rfl,rfl,rfl,rfl,rfl,trivial⟩,⟨rfl,rfl⟩,fun _=>rfl,fun h0=>absurd (by omega) h0⟩
             | exact Run.lend ⟨tt+1,⟨rfl,rfl,rfl,rfl,rfl,rfl,rfl,rfl,rfl,trivial⟩,⟨rfl,rfl⟩,fun h0=>absurd h0 (by omega),fun _=>rfl⟩
            ·refine Run.skip ?_
             first
             | exact Run.lend ⟨n,⟨rfl,rfl,rfl,rfl,rfl,rfl,rfl,rfl,rfl,trivial⟩,⟨rfl,rfl⟩,fun _=>rfl,fun h0=>absurd (by omega) h0⟩
             | exact Run.lend ⟨tt+1,⟨rfl,rfl,rfl,rfl,rfl,rfl,rfl,rfl,rfl,trivial⟩,⟨rfl,rfl⟩,fun h0=>absurd h0 (by omega),fun _=>rfl⟩
           ·rintro e' d' h' ⟨la,hs,⟨rfl,rfl⟩,hla1,hla2⟩;refine Run.less hs ?_
            refine Run.seq (Run.seq (Run.region (cx_ok _ _ _) (Reg.op rfl (Ope.mov rfl ?_))))
            refine Reg.op rfl (Ope.mov rfl ?_)
            refine Reg.op rfl (Ope.gt rfl rfl ?_)
            refine Reg.nil (Run.cut (fun e' d' h'=>Lsub [(3,U8 back),(4,.fp (relV rest tl S)),(9,I fr),(10,I tt),(11,I n),(12,I e),(13,I g),(14,I f)] e'∧d'=[]∧h'=HE q0 []) ?_ ?_)
            ·refine Run.condX rfl (fun hc=>?_) fun hc=>?_
             ·refine Run.seq ?_
              have hq3:back % (la - fr).toNat < (la - fr).toNat:=Nat.mod_lt back (by omega)
              refine Run.region (cx_ok _ _ _) (Reg.op rfl (Ope.mov rfl ?_))
              refine Reg.op rfl (Ope.sub rfl rfl (by omega) ?_)
              refine Reg.op rfl (Ope.mov rfl ?_)
              refine Reg.op rfl (Ope.convN (p:=back) rfl rfl (by show _ < 2 ^ 63;omega) ?_)
              refine Reg.op rfl (Ope.mov rfl ?_)
              refine Reg.op rfl (Ope.mov rfl ?_)
              refine Reg.op rfl (Ope.sub rfl rfl (by omega) ?_)
              refine Reg.op rfl (Ope.remN (p:=back) rfl rfl rfl (Int.toNat_of_nonneg (by omega)).symm (by omega) ?_)
              refine Reg.op rfl (Ope.sub rfl rfl (by omega) ?_)
              refine Reg.op rfl (Ope.asg rfl ?_)
              refine Reg.nil (Run.seq (Run.region (cx_ok _ _ _) (Reg.op rfl (Ope.load rfl rfl ?_))))
              refine Reg.op rfl (Ope.mov rfl ?_)
              refine Reg.op rfl (Ope.mov rfl ?_)
              refine Reg.op rfl (Ope.cf rfl rfl (Hnb (by omega) _ (by omega) (fun _=>by omega) (fun _=>by omega)) (hb2 _ _) ?_)
              refine Reg.op rfl (Ope.mov rfl ?_)
              refine Reg.op rfl (Ope.ext rfl rfl ?_)
              refine Reg.op rfl (Ope.ext rfl rfl ?_)
              refine Reg.op rfl (Ope.asg rfl ?_)
              refine Reg.op rfl (Ope.asg rfl ?_)
              refine Reg.nil (Run.seq (Run.region (cx_ok _ _ _) (Reg.op rfl (Ope.mov rfl ?_))))
              refine Reg.op rfl (Ope.ne rfl rfl ?_)
              refine Reg.nil (Run.condX rfl (fun hc=>?_) fun hc=>?_)
              ·(exfalso;exact absurd rfl hc)
              ·exact Run.skip (Run.lend ⟨⟨rfl,rfl,rfl,rfl,rfl,rfl,rfl,rfl,trivial⟩,rfl,rfl⟩)
             ·exact Run.skip (Run.lend ⟨⟨rfl,rfl,rfl,rfl,rfl,rfl,rfl,rfl,trivial⟩,rfl,rfl⟩)
            ·rintro e' d' h' ⟨hs,rfl,rfl⟩;refine Run.less hs ?_
             refine Run.seq (Run.seq (Run.region (cx_ok _ _ _) (Reg.op rfl (Ope.mov rfl ?_))))
             refine Reg.op rfl (Ope.add rfl rfl (by omega) ?_)
             refine Reg.op rfl (Ope.mov rfl ?_)
             refine Reg.op rfl (Ope.bld rfl rfl ?_)
             refine Reg.op rfl (Ope.mov rfl ?_)
             refine Reg.op rfl (Ope.bld rfl rfl ?_)
             refine Reg.op rfl (Ope.mov rfl ?_)
             refine Reg.op rfl (Ope.bld rfl rfl ?_)
             refine Reg.op rfl (Ope.bsl rfl rfl rfl rfl ?_)
             refine Reg.op rfl (Ope.len (m:=3) rfl rfl ?_)
             refine Reg.op rfl (Ope.mov rfl ?_)
             refine Reg.nil (Run.block (Run.loop (α:=Nat×Nat) (fun s=>[(4,.fp (relV rest tl S)),(276,.sl .ex [.agg [I (tt+1),I tt],.agg [I (-1),I tt],.agg [I fr,I 601]]),(277,I 3),(278,I s.1)]) (fun s=>HE s.2 []) (fun s=>s.1≤3) (fun s=>3 - s.1) (0,q0) ⟨rfl,rfl,rfl,rfl,trivial⟩ rfl (Nat.zero_le _) (fun s hs=>?_)))
             obtain ⟨j,q⟩:=s
             have hj:j≤3:=hs
             show Run _ _ _ _ [(4,.fp (relV rest tl S)),(276,.sl .ex [.agg [I (tt+1),I tt],.agg [I (-1),I tt],.agg [I fr,I 601]]),(277,I 3),(278,I j)] [] (HE q [])
             rcases (by omega:j=0∨j=1∨j=2∨j=3) with rfl | rfl | rfl | rfl
             ·refine Run.seq (Run.region (cx_ok _ _ _) (Reg.op rfl (Ope.lt rfl rfl ?_)))
              refine Reg.nil (Run.seq (Run.condX rfl (fun hc=>?_) fun hc=>?_))
              ·refine Run.skip (Run.seq (Run.block (Run.seq (Run.region (cx_ok _ _ _) (Reg.op rfl (Ope.idxS rfl rfl rfl rfl rfl ?_))))))
               refine Reg.op rfl (Ope.load rfl rfl ?_)
               refine Reg.op rfl (Ope.newL rfl ?_)
               refine Reg.op0 (Ope.store rfl rfl hget_hd rfl rfl rfl ?_)
               refine Reg.nil (Run.seq (Run.frz (d:=37) true rfl hget_hd rfl ?_))
               refine Run.wide (m:=q+1) (l':=[]) (Nat.le_refl _) trivial ?_
               refine Run.region (cx_ok _ _ _) (Reg.op rfl (Ope.load rfl rfl ?_))
               refine Reg.op rfl (Ope.idxA rfl rfl rfl rfl ?_)
               refine Reg.op rfl (Ope.load rfl rfl ?_)
               refine Reg.op rfl (Ope.idxA rfl rfl rfl rfl ?_)
               refine Reg.op rfl (Ope.load rfl rfl ?_)
               refine Reg.op rfl (Ope.cf rfl rfl (Hbad _ _ (by rw [Bool.eq_false_iff];simp only [minsOk,ne_eq,Bool.and_eq_true,decide_eq_true_eq];omega)) (hb2 _ _) ?_)
               refine Reg.op rfl (Ope.mov rfl ?_)
               refine Reg.op rfl (Ope.ext rfl rfl ?_)
               refine Reg.op rfl (Ope.ext rfl rfl ?_)
               refine Reg.op rfl (Ope.asg rfl ?_)
               refine Reg.op rfl (Ope.asg rfl ?_)
               refine Reg.nil (Run.seq (Run.region (cx_ok _ _ _) (Reg.op rfl (Ope.mov rfl ?_))))
               refine Reg.op rfl (Ope.ne rfl rfl ?_)
               refine Reg.nil (Run.condX rfl (fun hc=>?_) fun hc=>?_)
               ·(exfalso;exact absurd rfl hc)
               ·refine Run.skip (Run.bend (Run.region (cx_ok _ _ _) (Reg.op rfl (Ope.add rfl rfl (by omega) ?_))))
                refine Reg.op rfl (Ope.mov rfl ?_)
                refine Reg.nil ?_
                first
                | exact Run.lend ⟨(1,q+1),(show 3 - 1 < 3 - 0 by decide),(show 1≤3 by decide),⟨rfl,rfl,rfl,rfl,trivial⟩,rfl,rfl⟩
                | exact Run.lend ⟨(2,q+1),(show 3 - 2 < 3 - 1 by decide),(show 2≤3 by decide),⟨rfl,rfl,rfl,rfl,trivial⟩,rfl,rfl⟩
                | exact Run.lend ⟨(3,q+1),(show 3 - 3 < 3 - 2 by decide),(show 3≤3 by decide),⟨rfl,rfl,rfl,rfl,trivial⟩,rfl,rfl⟩
              ·(first | (exfalso;omega))
             ·refine Run.seq (Run.region (cx_ok _ _ _) (Reg.op rfl (Ope.lt rfl rfl ?_)))
              refine Reg.nil (Run.seq (Run.condX rfl (fun hc=>?_) fun hc=>?_))
              ·refine Run.skip (Run.seq (Run.block (Run.seq (Run.region (cx_ok _ _ _) (Reg.op rfl (Ope.idxS rfl rfl rfl rfl rfl ?_))))))
               refine Reg.op rfl (Ope.load rfl rfl ?_)
               refine Reg.op rfl (Ope.newL rfl ?_)
               refine Reg.op0 (Ope.store rfl rfl hget_hd rfl rfl rfl ?_)
               refine Reg.nil (Run.seq (Run.frz (d:=37) true rfl hget_hd rfl ?_))
               refine Run.wide (m:=q+1) (l':=[]) (Nat.le_refl _) trivial ?_
               refine Run.region (cx_ok _ _ _) (Reg.op rfl (Ope.load rfl rfl ?_))
               refine Reg.op rfl (Ope.idxA rfl rfl rfl rfl ?_)
               refine Reg.op rfl (Ope.load rfl rfl ?_)
               refine Reg.op rfl (Ope.idxA rfl rfl rfl rfl ?_)
               refine Reg.op rfl (Ope.load rfl rfl ?_)
               refine Reg.op rfl (Ope.cf rfl rfl (Hbad _ _ (by rw [Bool.eq_false_iff];simp only [minsOk,ne_eq,Bool.and_eq_true,decide_eq_true_eq];omega)) (hb2 _ _) ?_)
               refine Reg.op rfl (Ope.mov rfl ?_)
               refine Reg.op rfl (Ope.ext rfl rfl ?_)
               refine Reg.op rfl (Ope.ext rfl rfl ?_)
               refine Reg.op rfl (Ope.asg rfl ?_)
               refine Reg.op rfl (Ope.asg rfl ?_)
               refine Reg.nil (Run.seq (Run.region (cx_ok _ _ _) (Reg.op rfl (Ope.mov rfl ?_))))
               refine Reg.op rfl (Ope.ne rfl rfl ?_)
               refine Reg.nil (Run.condX rfl (fun hc=>?_) fun hc=>?_)
               ·(exfalso;exact absurd rfl hc)
               ·refine Run.skip (Run.bend (Run.region (cx_ok _ _ _) (Reg.op rfl (Ope.add rfl rfl (by omega) ?_))))
                refine Reg.op rfl (Ope.mov rfl ?_)
                refine Reg.nil ?_
                first
                | exact Run.lend ⟨(1,q+1),(show 3 - 1 < 3 - 0 by decide),(show 1≤3 by decide),⟨rfl,rfl,rfl,rfl,trivial⟩,rfl,rfl⟩
                | exact Run.lend ⟨(2,q+1),(show 3 - 2 < 3 - 1 by decide),(show 2≤3 by decide),⟨rfl,rfl,rfl,rfl,trivial⟩,rfl,rfl⟩
                | exact Run.lend ⟨(3,q+1),(show 3 - 3 < 3 - 2 by decide),(show 3≤3 by decide),⟨rfl,rfl,rfl,rfl,trivial⟩,rfl,rfl⟩
              ·(first | (exfalso;omega))
             ·refine Run.seq (Run.region (cx_ok _ _ _) (Reg.op rfl (Ope.lt rfl rfl ?_)))
              refine Reg.nil (Run.seq (Run.condX rfl (fun hc=>?_) fun hc=>?_))
              ·refine Run.skip (Run.seq (Run.block (Run.seq (Run.region (cx_ok _ _ _) (Reg.op rfl (Ope.idxS rfl rfl rfl rfl rfl ?_))))))
               refine Reg.op rfl (Ope.load rfl rfl ?_)
               refine Reg.op rfl (Ope.newL rfl ?_)
               refine Reg.op0 (Ope.store rfl rfl hget_hd rfl rfl rfl ?_)
               refine Reg.nil (Run.seq (Run.frz (d:=37) true rfl hget_hd rfl ?_))
               refine Run.wide (m:=q+1) (l':=[]) (Nat.le_refl _) trivial ?_
               refine Run.region (cx_ok _ _ _) (Reg.op rfl (Ope.load rfl rfl ?_))
               refine Reg.op rfl (Ope.idxA rfl rfl rfl rfl ?_)
               refine Reg.op rfl (Ope.load rfl rfl ?_)
               refine Reg.op rfl (Ope.idxA rfl rfl rfl rfl ?_)
               refine Reg.op rfl (Ope.load rfl rfl ?_)
               refine Reg.op rfl (Ope.cf rfl rfl (Hbad _ _ (by rw [Bool.eq_false_iff];simp only [minsOk,ne_eq,Bool.and_eq_true,decide_eq_true_eq];omega)) (hb2 _ _) ?_)
               refine Reg.op rfl (Ope.mov rfl ?_)
               refine Reg.op rfl (Ope.ext rfl rfl ?_)
               refine Reg.op rfl (Ope.ext rfl rfl ?_)
               refine Reg.op rfl (Ope.asg rfl ?_)
               refine Reg.op rfl (Ope.asg rfl ?_)
               refine Reg.nil (Run.seq (Run.region (cx_ok _ _ _) (Reg.op rfl (Ope.mov rfl ?_))))
               refine Reg.op rfl (Ope.ne rfl rfl ?_)
               refine Reg.nil (Run.condX rfl (fun hc=>?_) fun hc=>?_)
               ·(exfalso;exact absurd rfl hc)
               ·refine Run.skip (Run.bend (Run.region (cx_ok _ _ _) (Reg.op rfl (Ope.add rfl rfl (by omega) ?_))))
                refine Reg.op rfl (Ope.mov rfl ?_)
                refine Reg.nil ?_
                first
                | exact Run.lend ⟨(1,q+1),(show 3 - 1 < 3 - 0 by decide),(show 1≤3 by decide),⟨rfl,rfl,rfl,rfl,trivial⟩,rfl,rfl⟩
                | exact Run.lend ⟨(2,q+1),(show 3 - 2 < 3 - 1 by decide),(show 2≤3 by decide),⟨rfl,rfl,rfl,rfl,trivial⟩,rfl,rfl⟩
                | exact Run.lend ⟨(3,q+1),(show 3 - 3 < 3 - 2 by decide),(show 3≤3 by decide),⟨rfl,rfl,rfl,rfl,trivial⟩,rfl,rfl⟩
              ·(first | (exfalso;omega))
             ·refine Run.seq (Run.region (cx_ok _ _ _) (Reg.op rfl (Ope.lt rfl rfl ?_)))
              refine Reg.nil (Run.seq (Run.condX rfl (fun hc=>?_) fun hc=>?_))
              ·(first | (exfalso;omega))
              ·refine Run.exit (Jmp.code (Jmp.round (Jmp.here (Run.seq (Run.region (cx_ok _ _ _) (Reg.op rfl (Ope.cf rfl rfl awakeF rfl ?_)))))))
               refine Reg.op rfl (Ope.asg rfl ?_)
               exact Reg.nil (Run.ret (fin_ret (.tmp rfl .nil) rfl rfl))
theorem f12l (rest:Int) (tl:Tail) (S:List Sti) (hl:40 < S.length) (n:Nat):Fn P0 12 [relV rest tl S,I n] (B true):=by
  refine PFun.of (C:=c12) (cx_ok _ _ _) rfl (fn:=Try.f12) (by kernel_rfl) (c:=_) rfl rfl rfl ?_
  refine Run.seq (Run.region (cx_ok _ _ _) (Reg.op rfl (Ope.boxF rfl rfl ?_)))
  refine Reg.op rfl (Ope.asg rfl ?_)
  refine Reg.nil (Run.seq (Run.region (cx_ok _ _ _) (Reg.op rfl (Ope.fld rfl rfl ?_))))
  refine Reg.op rfl (Ope.load rfl rfl ?_)
  refine Reg.op rfl (Ope.len (m:=S.length) rfl (by simp) ?_)
  refine Reg.op rfl (Ope.gt rfl rfl ?_)
  refine Reg.op rfl (Ope.mov rfl ?_)
  refine Reg.splitX rfl rfl (fun hg=>?_) fun hg=>?_
  ·refine Reg.off rfl rfl rfl (Reg.off rfl rfl rfl (Reg.off rfl rfl rfl (Reg.off rfl rfl rfl (Reg.off rfl rfl rfl (Reg.off rfl rfl rfl (Reg.past rfl rfl rfl (Reg.past rfl rfl rfl (Reg.off rfl rfl rfl (Reg.op rfl (Ope.pickT rfl rfl ?_))))))))))
   refine Reg.op rfl (Ope.asg rfl ?_)
   exact Reg.nil (Run.ret (fin_ret (.tmp rfl .nil) rfl rfl))
  ·(first | (exfalso;omega))
theorem f8l (rest:Int) (tl:Tail) (htl:tl.isOwn=false) (S:List Sti) (hl:40 < S.length) (a b back:Nat):Fn P0 8 [relV rest tl S,U16 a,U16 b,U8 back] (B true):=by
  have hbd:=fun k=>bd_is rest tl htl S k
  refine PFun.of (C:=c8) (cx_ok _ _ _) rfl (fn:=Try.f8) (by kernel_rfl) (c:=_) rfl rfl rfl ?_
  refine Run.seq (Run.region (cx_ok _ _ _) (Reg.op rfl (Ope.boxF rfl rfl ?_)))
  refine Reg.op rfl (Ope.asg rfl ?_)
  refine Reg.nil (Run.seq (Run.seq (Run.region (cx_ok _ _ _) (Reg.op rfl (Ope.load rfl rfl ?_)))))
  refine Reg.op rfl (Ope.cf rfl rfl (f12l rest tl S hl 5) (hbd 5) ?_)
  refine Reg.op rfl (Ope.mov rfl ?_)
  refine Reg.off rfl rfl rfl (Reg.off rfl rfl rfl (Reg.off rfl rfl rfl (Reg.op rfl (Ope.pickT rfl rfl ?_))))
  refine Reg.nil (Run.condT rfl (Run.seq (Run.region (cx_ok _ _ _) (Reg.op rfl (Ope.cf rfl rfl awakeF rfl ?_)))))
  refine Reg.op rfl (Ope.asg rfl ?_)
  exact Reg.nil (Run.ret (Jmp.code (fin_ret (.tmp rfl .nil) rfl rfl)))
theorem f8a (rest:Int) (tl:Tail) (htl:tl.isOwn=false) (S:List Sti) (a b back:Nat) (ha:a < 65536) (hb:b < 65536) (hback:back < 256):Fn P0 8 [relV rest tl S,U16 a,U16 b,U8 back] (B true):=by
  rcases Nat.lt_or_ge 40 S.length with h | h
  · exact f8l rest tl htl S h a b back
  · exact f8 rest tl htl S (by omega) a b back ha hb hback
end Go.Pv
namespace Go.Pv
open Go.Am Go.RowKit
section
variable {H:Type} {enc:TypeId×Value→H} {P:Program} {w:World} {base:Nat} {spare:Nat→Bool} {held:Bool}
theorem Reads.array2 {t e:TypeId} {Q:List PV→Prop} (ht:P.underlying t=some (.array 2 e)) (hc:P.cellsOf t=P.cellsOf e+P.cellsOf e) (hr:Reads enc P w base spare held e Q):Reads enc P w base spare held t (Alls [Q,Q]):=by
 intro fuel cs x h
 obtain ⟨xs,m,rfl,rfl,h1,h2,h3⟩:=DataW.trod_array ht h
 obtain ⟨p0,q0,r0⟩:=hr _ _ _ ((h3 0 (by decide)).trans (List.getElem?_eq_getElem (by omega)))
 obtain ⟨p1,q1,r1⟩:=hr _ _ _ ((h3 1 (by decide)).trans (List.getElem?_eq_getElem (by omega)))
 rw [Nat.zero_mul,List.drop_zero] at q0
 rw [Nat.one_mul] at q1
 refine ⟨p0++(p1++[]),?_,p0,p1++[],rfl,r0,p1,[],rfl,r1,rfl⟩
 rw [List.append_nil]
 have e1:(cs.drop (P.cellsOf e)).take (P.cellsOf e)=cs.drop (P.cellsOf e):=List.take_of_length_le (by rw [List.length_drop];omega)
 rw [e1] at q1
 have:=RVs.append q0 q1
 rwa [List.take_append_drop] at this
theorem okWide_agg {P:Program} {w:World} {r:Reach} {base:Nat} {t:TypeId} {fs:Array Field} {v:Value} (ht:P.underlying t=some (.struct fs)) (h:Value.okWide P w r base t v):∃ cs,v=.agg cs:=by
 unfold Value.okWide at h
 rw [ht] at h
 obtain ⟨cs,rfl,_⟩:=h
 exact ⟨cs,rfl⟩
theorem trod_agg {t:TypeId} {fs:Array Field} {Q:List PV→Prop} {v:Value} {d:DataW H} {ps:List MemPlace} {r:Reach} {b:Nat} (ht:P.underlying t=some (.struct fs)) (hv:Value.okWide P w r b t v) (h:DataW.Trod enc P w base spare held t v d ps) (hr:Reads enc P w base spare held t Q) :
  ∃ l,RV (St.froz w) (.agg l) v∧Q l:=by
 obtain ⟨fuel,h⟩:=h
 obtain ⟨cs,rfl⟩:=okWide_agg ht hv
 obtain ⟨l,h1,h2⟩:=hr _ _ _ h
 exact ⟨l,RV_agg.2 ⟨cs,rfl,h1⟩,h2⟩
end
end Go.Pv
