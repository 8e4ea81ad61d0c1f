/- Parts of the proof: R95, R96, R97, R98, R99, R101 -/
import Derived.Test.YtejnfigkngkhjaaP20
set_option linter.unusedVariables false
set_option linter.unusedSimpArgs false
namespace Go.Pv
open Go.Proofs Go.Am
set_option maxRecDepth 10000
set_option linter.unusedSectionVars false
def inE (E q:Nat):Bool:=!decide (((E >>> q &&& 1:Nat):Int)=0)
structure Kept (S:List Sti) (rest:Int) (E:Nat) (v:Nat→Int):Prop where
  wide:∀ a b,a < 11→b < 11→v b - v a≤600
  rule:∀ k,k < S.length→∀ p∈rules S rest k,v p.2.1 - v p.1≤p.2.2
  entry:∀ k (hk:k < S.length) o j,o < 2→j < 2→inE E (2 * (2 * k+o)+j)=true→(S[k].ent o j).1≤v (2 * k+o) - v 10∧v (2 * k+o) - v 10≤(S[k].ent o j).2
theorem kept_iff {S : List Sti} {rest : Int} {E : Nat} {v : Nat → Int} (hS : S.length ≤ 5) : Keeps S rest E v ↔ Kept S rest E v := by
  constructor
  · intro h
    refine ⟨h.wide,fun k hk p hp=>?_,fun k hk o j ho hj hin=>?_⟩
    · exact h.bound (rulB p) (allB_mem.2 ⟨k,hk,List.mem_append.2 (.inl (List.mem_map.2 ⟨p,hp,rfl⟩))⟩)
    · have hm : ∀ w ∈ entW k S[k] o j, v w.2.1 - v w.1 ≤ w.2.2.1 := fun w hw => by
        have h1:=h.bound (wriB w) (allB_mem.2 ⟨k,hk,List.mem_append.2 (.inr (by
          rw [List.getElem?_eq_getElem hk]
          exact List.mem_map.2 ⟨w,entO_mem.2 ⟨o,j,ho,hj,hw⟩,rfl⟩))⟩)
        have hq:w.2.2.2=2 * (2 * k+o)+j:=by
          simp only [entW,List.mem_cons,List.not_mem_nil,or_false] at hw
          rcases hw with rfl | rfl<;>rfl
        have h2:(wriB w).most E=w.2.2.1:=by
          show (if _ then (600:Int) else w.2.2.1)=_
          rw [if_neg]
          show ¬ ((E >>> w.2.2.2 &&& 1:Nat):Int)=0
          rw [hq]
          simpa [inE] using hin
        rw [h2] at h1
        exact h1
      have h1:=hm (2 * k+o,10,-(S[k].ent o j).1,2 * (2 * k+o)+j) (by simp [entW])
      have h2:=hm (10,2 * k+o,(S[k].ent o j).2,2 * (2 * k+o)+j) (by simp [entW])
      simp only at h1 h2
      generalize (S[k].ent o j).1=lo at *
      exact ⟨by omega,h2⟩
  · intro h
    refine ⟨h.wide,fun x hx=>?_⟩
    obtain ⟨k,hk,hx⟩:=allB_mem.1 hx
    rcases List.mem_append.1 hx with hx | hx
    · obtain ⟨p, hp, rfl⟩ := List.mem_map.1 hx
      exact h.rule k hk p hp
    · rw [List.getElem?_eq_getElem hk] at hx
      obtain ⟨w,hw,rfl⟩:=List.mem_map.1 hx
      obtain ⟨o,j,ho,hj,hw⟩:=entO_mem.1 hw
      have he:=h.entry k hk o j ho hj
      have hw1:=h.wide 10 (2 * k+o) (by decide) (by omega)
      have hw2:=h.wide (2 * k+o) 10 (by omega) (by decide)
      simp only [entW,List.mem_cons,List.not_mem_nil,or_false] at hw
      rcases hw with rfl | rfl
      · show v 10 - v (2 * k + o) ≤ (if ((E >>> (2 * (2 * k + o) + j) &&& 1 : Nat) : Int) = 0 then (600 : Int) else -(S[k].ent o j).1)
        split
        · exact hw2
        · next hn =>
          have:=(he (by simpa [inE] using hn)).1
          generalize (S[k].ent o j).1=lo at *
          omega
      · show v (2 * k + o) - v 10 ≤ (if ((E >>> (2 * (2 * k + o) + j) &&& 1 : Nat) : Int) = 0 then (600 : Int) else (S[k].ent o j).2)
        split
        · exact hw1
        · next hn=>exact (he (by simpa [inE] using hn)).2
theorem inE_all {n q:Nat} (h:q < n):inE (2 ^ n - 1) q=true:=by
  have h1:(2 ^ n - 1).testBit q=true:=by rw [Nat.testBit_two_pow_sub_one];exact decide_eq_true h
  have h2:(2 ^ n - 1) >>> q &&& 1=1:=by
    have h3:=Nat.and_one_is_mod ((2 ^ n - 1) >>> q)
    rw [h3]
    simpa [Nat.testBit,Nat.and_comm,Nat.and_one_is_mod] using h1
  unfold inE
  rw [h2]
  rfl
theorem frm_congr {S S':List Sti} (h:S.map Sti.r=S'.map Sti.r) (r:Int):∀ k,frm S r k=frm S' r k
  | 0=>rfl
  | k+1=>by simp only [frm,h,frm_congr h r k]
theorem rules_congr {S S':List Sti} (h:S.map Sti.r=S'.map Sti.r) (rest:Int) (k:Nat):rules S rest k=rules S' rest k:=by
  unfold rules
  rw [h,frm_congr h]
theorem set_r (s:Sti) (q:Nat) (x y:Int):(s.set q x y).r=s.r:=by
  unfold Sti.set
  split
  · rfl
  · split
    · rfl
    · split<;>rfl
theorem set_ent (s:Sti) (q:Nat) (hq:q < 4) (x y:Int) (o j:Nat) (ho:o < 2) (hj:j < 2):(s.set q x y).ent o j=if 2 * o+j=q then (x,y) else s.ent o j:=by
  match q,hq,o,ho,j,hj with
  | 0,_,0,_,0,_=>rfl
  | 0,_,0,_,1,_=>rfl
  | 0,_,1,_,0,_=>rfl
  | 0,_,1,_,1,_=>rfl
  | 1,_,0,_,0,_=>rfl
  | 1,_,0,_,1,_=>rfl
  | 1,_,1,_,0,_=>rfl
  | 1,_,1,_,1,_=>rfl
  | 2,_,0,_,0,_=>rfl
  | 2,_,0,_,1,_=>rfl
  | 2,_,1,_,0,_=>rfl
  | 2,_,1,_,1,_=>rfl
  | 3,_,0,_,0,_=>rfl
  | 3,_,0,_,1,_=>rfl
  | 3,_,1,_,0,_=>rfl
  | 3,_,1,_,1,_=>rfl
section
variable {S:List Sti} {rest:Int} {en:Nat} {x y:Int}
theorem entS_r:S.map Sti.r=(entS S en x y).map Sti.r:=by
  unfold entS
  apply List.ext_getElem?
  intro i
  simp only [List.getElem?_map,List.getElem?_modify]
  cases S[i]? with
  | none=>rfl
  | some s =>
    by_cases h:en / 4=i
    · simp [h,set_r]
    · simp [h]
theorem entS_at {k:Nat} (hk:k < S.length) (hk':k < (entS S en x y).length) {o j:Nat} (ho:o < 2) (hj:j < 2):((entS S en x y)[k]).ent o j=if 2 * (2 * k+o)+j=en then (x,y) else S[k].ent o j:=by
  have h1:(entS S en x y)[k]=if en / 4=k then S[k].set (en % 4) x y else S[k]:=by
    simp only [entS,List.getElem_modify]
  rw [h1]
  by_cases hken:en / 4=k
  · rw [if_pos hken, set_ent _ _ (by omega) _ _ _ _ ho hj]
    by_cases hq:2 * o+j=en % 4
    · rw [if_pos hq,if_pos (by omega)]
    · rw [if_neg hq,if_neg (by omega)]
  · rw [if_neg hken,if_neg (by omega)]
theorem entS_ok {q:Nat} (hr:relOk rest S=true) (hen:en < 4 * S.length) (hx:0≤x∧x≤y∧y≤600):relOk rest (entS S en x y)=true:=by
  obtain ⟨h1,h2,h3⟩:=relOk_of hr
  refine relOk_yes h1.1 h1.2 (by rw [entS_len];exact h2) fun i hi=>?_
  have hi':i < S.length:=by rw [entS_len] at hi;exact hi
  have h0:=h3 _ (List.getElem_mem hi')
  have h4:(entS S en x y)[i]=if en / 4=i then S[i].set (en % 4) x y else S[i]:=by
    simp only [entS,List.getElem_modify]
  rw [h4]
  split
  · have hm : minsOk x y = true := by simp [minsOk, hx]
    simp only [Sti.ok,Bool.and_eq_true,Sti.j0,Sti.j1,Bool.or_eq_true,decide_eq_true_eq] at h0 ⊢
    rw [set_r]
    unfold Sti.set
    split
    · simp_all
    · split
      · simp_all
      · split<;>simp_all
  · exact h0
abbrev mom (en:Nat):Nat:=en / 2
variable (hS:S.length≤5) (hen:en < 4 * S.length)
include hS hen
theorem all_in {k o j:Nat} (hk:k < S.length) (ho:o < 2) (hj:j < 2):inE (allE S) (2 * (2 * k+o)+j)=true:=inE_all (by omega)
def wrt (S:List Sti) (en:Nat):Int×Int :=
  match S[en / 4]? with
  | some s=>s.ent (en / 2 % 2) (en % 2)
  | none=>(0,0)
omit hS in
theorem wrt_at:wrt S en=(S[en / 4]'(by omega)).ent (en / 2 % 2) (en % 2):=by
  unfold wrt
  rw [List.getElem?_eq_getElem (by omega)]
theorem ent_down {v:Nat→Int} (hx:(wrt S en).1≤x∧y≤(wrt S en).2) (h:Keeps (entS S en x y) rest (allE (entS S en x y)) v):Keeps S rest (allE S) v:=by
  have hS':(entS S en x y).length≤5:=by rw [entS_len];exact hS
  have h1:=(kept_iff hS').1 h
  refine (kept_iff hS).2 ⟨h1.wide,fun k hk p hp=>h1.rule k (by rw [entS_len];exact hk) p (by rw [← rules_congr entS_r];exact hp),fun k hk o j ho hj hin=>?_⟩
  have hk':k < (entS S en x y).length:=by rw [entS_len];exact hk
  have h2:=h1.entry k hk' o j ho hj (all_in hS' (by rw [entS_len];exact hen) hk' ho hj)
  rw [entS_at hk hk' ho hj] at h2
  split at h2
  · next he =>
    rw [wrt_at hen] at hx
    have e1:en / 4=k:=by omega
    have e2:en / 2 % 2=o:=by omega
    have e3:en % 2=j:=by omega
    subst e1 e2 e3
    simp only at h2
    omega
  · exact h2
theorem ent_up {v:Nat→Int} (hx:x≤v (mom en) - v 10∧v (mom en) - v 10≤y) (h:Keeps S rest (allE S) v):Keeps (entS S en x y) rest (allE (entS S en x y)) v:=by
  have hS':(entS S en x y).length≤5:=by rw [entS_len];exact hS
  have h1:=(kept_iff hS).1 h
  refine (kept_iff hS').2 ⟨h1.wide,fun k hk p hp=>h1.rule k (by rw [entS_len] at hk;exact hk) p (by rw [rules_congr (S':=entS S en x y) entS_r];exact hp),fun k hk' o j ho hj hin=>?_⟩
  have hk:k < S.length:=by rw [entS_len] at hk';exact hk'
  rw [entS_at hk hk' ho hj]
  split
  · next he =>
    have e1:2 * k+o=mom en:=by show _=en / 2;omega
    rw [e1]
    exact hx
  · exact h1.entry k hk o j ho hj (all_in hS hen hk ho hj)
theorem ent_is {v:Nat→Int} (h:Keeps (entS S en x y) rest (allE (entS S en x y)) v):x≤v (mom en) - v 10∧v (mom en) - v 10≤y:=by
  have hS':(entS S en x y).length≤5:=by rw [entS_len];exact hS
  have hk':en / 4 < (entS S en x y).length:=by rw [entS_len];omega
  have h2:=((kept_iff hS').1 h).entry (en / 4) hk' (en / 2 % 2) (en % 2) (by omega) (by omega) (all_in hS' (by rw [entS_len];exact hen) hk' (by omega) (by omega))
  rw [entS_at (by omega) hk' (by omega) (by omega),if_pos (by omega)] at h2
  have e1:2 * (en / 4)+en / 2 % 2=mom en:=by show _=en / 2;omega
  rw [e1] at h2
  exact h2
end
theorem tab_mono {S S':List Sti} {rest:Int} {E E':Nat} (hA:∀ x∈allB S' rest,x.ok) (ho:okT (tabS S' rest E')=true) (h:∀ v,Keeps S' rest E' v→Keeps S rest E v) {a b:Nat} (ha:a < 11) (hb:b < 11):tabS S' rest E' a b≤tabS S rest E a b:=by
  have h1:=(h _ (late_keeps hA ho ha)).pot a b ha hb
  have h2:=tabS_self ho ha
  have h3:tabS S' rest E' a b - tabS S' rest E' a a≤tabS S rest E a b:=h1
  omega
theorem mid_keeps {S:List Sti} {rest:Int} {E:Nat} (hA:∀ x∈allB S rest,x.ok) (ho:okT (tabS S rest E)=true) {m:Nat} (hm:m < 11) {n:Int} (h1:-tabS S rest E m 10≤n) (h2:n≤tabS S rest E 10 m) :
    ∃ v,Keeps S rest E v∧v m - v 10=n:=by
  have tri:∀ {a b c:Nat},a < 11→b < 11→c < 11→tabS S rest E a b≤tabS S rest E a c+tabS S rest E c b:=fun ha hb hc=>short_tri ho ha hb hc
  refine ⟨fun b=>min (tabS S rest E 10 b) (n+tabS S rest E m b),⟨fun b c hb hc=>?_,fun x hx=>?_⟩,?_⟩
  · have t1 := tri (show 10 < 11 by decide) hc hb
    have t2:=tri hm hc hb
    have t3:=tabS_wide (S:=S) (rest:=rest) (E:=E) hb hc
    show min (tabS S rest E 10 c) (n+tabS S rest E m c) - min (tabS S rest E 10 b) (n+tabS S rest E m b)≤600
    omega
  · have hox := hA x hx
    have t1:=tri (show 10 < 11 by decide) hox.2.1 hox.1
    have t2:=tri hm hox.2.1 hox.1
    have t3:=tabS_bd (E:=E) hx hox
    show min (tabS S rest E 10 x.b) (n+tabS S rest E m x.b) - min (tabS S rest E 10 x.a) (n+tabS S rest E m x.a)≤x.most E
    omega
  · have t1 := tabS_self ho hm
    have t2:=tabS_self ho (show 10 < 11 by decide)
    show min (tabS S rest E 10 m) (n+tabS S rest E m m) - min (tabS S rest E 10 10) (n+tabS S rest E m 10)=n
    omega
end Go.Pv
namespace Go.Pv
open Go.Proofs Go.Am
set_option maxRecDepth 10000
section
variable {rest:Int} {tl:Tail} (htl:tl.isOwn=false) {S:List Sti} (hS:S.length≤1000000) (hr:relOk rest S=true) (ho:okT (tabA S rest)=true)
theorem isSt_of {k:Nat} (hk:k < S.length):isSt S k=true:=by
  simp only [isSt,Bool.and_eq_true,decide_eq_true_eq]
  omega
include hr ho in
theorem errSt {k:Nat} (hk:k < S.length):errT rest S (isSt S k) 0=0:=err_at rest S hr (isSt_of hk) ho
include htl hS hr ho in
theorem onOk {k:Nat} (hk:k < S.length):Fn P0 14 [relV rest tl S,I k] (.tup [.agg [I ((tabA S rest).min (2 * k)).1,I ((tabA S rest).min (2 * k)).2],I 0]):=by
  have h:=f14 rest tl htl S hS k
  unfold onE at h
  rw [errSt hr ho hk] at h
  exact h
include htl hS hr ho in
theorem offOk {k:Nat} (hk:k < S.length):Fn P0 16 [relV rest tl S,I k] (.tup [.agg [I ((tabA S rest).min (2 * k+1)).1,I ((tabA S rest).min (2 * k+1)).2],I 0]):=by
  have h:=f16t rest tl htl S hS k
  unfold offE at h
  rw [errSt hr ho hk] at h
  exact h
end
end Go.Pv
namespace Go.Pv
open Go.Proofs Go.Am
set_option maxRecDepth 10000
structure MinH (rest:Int) (tl:Tail) (S:List Sti) (fr tt e n f g h:Int):Prop where
  nob:Fn P0 22 [relV rest tl S,I fr,I tt] (.tup [I n,I e])
  gap:Fn P0 24 [relV rest tl S,I fr,I tt] (.tup [I g,I f])
  cl:∃ c,Fn P0 26 [relV rest tl S] (.tup [I c,I h])
  is:(e=10∧f=10∧n=0∧g=0∧h=0)∨(e=4∧n=0∧f=4∧g=0)∨(e=4∧n=0∧f=0∧fr≤g∧g≤tt)∨(e=0∧f=0∧fr≤n∧n≤tt∧fr≤g∧g≤n)
  al:e≠10→∃ G C:Int→Bool,(∀ m,Fn P0 35 [I m,.fp (relV rest tl S)] (.tup [B (G m),B (C m)]))∧(e=0→C n=false)∧∀ m,fr≤m→(f=0→m < g)→(f≠0→m < tt+1)→G m=false
  on:e≠10→∀ k:Nat,k < S.length→∃ a b,Fn P0 14 [relV rest tl S,I k] (.tup [.agg [I a,I b],I 0]) ∧
    (e=0→a≤n→∃ c d,Fn P0 16 [relV rest .no (entS S (4 * k) a a),I k] (.tup [.agg [I c,I d],I 0])∧d≤n)
  gp:e≠10→∀ m,fr≤m→(f=0→m < g)→(f≠0→m < tt+1)→Fn P0 24 [relV rest tl S,I fr,I m] (.tup [I 0,I 4])
  nb:e≠10→∀ m,fr≤m→(e=0→m < n)→(e≠0→m < tt+1)→Fn P0 22 [relV rest tl S,I fr,I m] (.tup [I 0,I 4])
  bd:∀ x y,minsOk x y=false→Fn P0 24 [relV rest tl S,I x,I y] (.tup [I 0,I 2])
section
variable {T:Tab} (hlh:∀ m,m < 11→(T.min m).1≤(T.min m).2)
include hlh
end
theorem exact_early {rest:Int} {S:List Sti} (hr:relOk rest S=true) (ho:okT (tabA S rest)=true) {en:Nat} (hen:en < 4 * S.length) {n:Int} (h1:((tabA S rest).min (mom en)).1≤n) (h2:n≤((tabA S rest).min (mom en)).2) :
    relOk rest (entS S en n n)=true∧okT (tabA (entS S en n n) rest)=true∧∀ a b,a < 11→b < 11→tabA (entS S en n n) rest a b≤tabA S rest a b:=by
  obtain ⟨hrr,hS,hv⟩:=relOk_of hr
  have hA:=allB_ok hrr hS hv
  have hm:mom en < 11:=by show en / 2 < 11;omega
  obtain ⟨v,hk,hvn⟩:=mid_keeps hA ho hm h1 h2
  have hw:=((kept_iff hS).1 hk).entry (en / 4) (by omega) (en / 2 % 2) (en % 2) (by omega) (by omega) (inE_all (by omega))
  rw [show 2 * (en / 4)+en / 2 % 2=mom en from by show _=en / 2;omega,hvn,← wrt_at hen] at hw
  have hval:0≤(wrt S en).1∧(wrt S en).2≤600:=by
    have h0:=hv _ (List.getElem_mem (show en / 4 < S.length by omega))
    rw [wrt_at hen]
    simp only [Sti.ok,Sti.j0,Sti.j1,minsOk,Bool.and_eq_true,decide_eq_true_eq] at h0
    rcases (by omega:en / 2 % 2=0∨en / 2 % 2=1) with e1 | e1<;>rcases (by omega:en % 2=0∨en % 2=1) with e2 | e2<;>rw [e1,e2]<;>simp only [Sti.ent]<;>omega
  have hr':=entS_ok (q:=0) hr hen (x:=n) (y:=n) ⟨by omega,Int.le_refl _,by omega⟩
  obtain ⟨hrr',hS',hv'⟩:=relOk_of hr'
  have hA':=allB_ok hrr' hS' hv'
  have ho':okT (tabA (entS S en n n) rest)=true:=(ent_up hS hen ⟨by omega,by omega⟩ hk).ok
  exact ⟨hr',ho',fun a b ha hb=>tab_mono hA' ho' (fun v hv=>ent_down hS hen ⟨hw.1,hw.2⟩ hv) ha hb⟩
end Go.Pv
namespace Go.Pv
open Go.Proofs Go.Am
set_option maxRecDepth 10000
section
variable {rest:Int} {tl:Tail} (htl:tl.isOwn=false) {S:List Sti} (hS:S.length≤1000000) (hr:relOk rest S=true)
include htl hS hr
theorem clashF:Fn P0 26 [relV rest tl S] (.tup [I (fewE rest S amongC),I (if okT (tabA S rest)=true then 4 else 0)]):=by
  have h:=f26 rest tl htl S hS
  unfold errC at h
  rw [if_neg (by rw [hr];decide)] at h
  exact h
end
end Go.Pv
namespace Go.Pv
open Go.Proofs Go.Am
set_option maxRecDepth 10000
abbrev U8 (x:Nat):PV:=.lit (.int .u8 ((x:Nat):Int))
theorem f12l (rest:Int) (tl:Tail) (S:List Sti) (hl:40 < S.length) (n:Nat):Fn P0 12 [relV rest tl S,I n] (B true):=by
  refine PFun.of (C:=c12) (cx_ok _ _ _) rfl (fn:=Try.f12) (by kernel_rfl) (c:=_) rfl rfl rfl ?_
  refine Run.seq (Run.region (cx_ok _ _ _) (Reg.op rfl (Ope.boxF rfl rfl ?_)))
  refine Reg.op rfl (Ope.asg rfl ?_)
  refine Reg.nil (Run.seq (Run.region (cx_ok _ _ _) (Reg.op rfl (Ope.fld rfl rfl ?_))))
  refine Reg.op rfl (Ope.load rfl rfl ?_)
  refine Reg.op rfl (Ope.len (m:=S.length) rfl (by simp) ?_)
  refine Reg.op rfl (Ope.gt rfl rfl ?_)
  refine Reg.op rfl (Ope.mov rfl ?_)
  refine Reg.splitX rfl rfl (fun hg=>?_) fun hg=>?_
  ·refine Reg.off rfl rfl rfl (Reg.off rfl rfl rfl (Reg.off rfl rfl rfl (Reg.off rfl rfl rfl (Reg.off rfl rfl rfl (Reg.off rfl rfl rfl (Reg.past rfl rfl rfl (Reg.past rfl rfl rfl (Reg.off rfl rfl rfl (Reg.op rfl (Ope.pickT rfl rfl ?_))))))))))
   refine Reg.op rfl (Ope.asg rfl ?_)
   exact Reg.nil (Run.ret (fin_ret (.tmp rfl .nil) rfl rfl))
  ·(first | (exfalso;omega))
end Go.Pv
namespace Go.Pv
open Go.Proofs Go.Am
set_option maxRecDepth 10000
def atF (o:Nat):Nat:=if o=1 then 16 else 14
structure EndH (rest:Int) (tl:Tail) (S:List Sti) (en:Nat) (sl sh cl ch e g:Int):Prop where
  at':Fn P0 (atF (en / 2 % 2)) [relV rest tl S,I ((en / 4:Nat):Int)] (.tup [.agg [I sl,I sh],I e])
  ln:Fn P0 18 [relV rest tl S,I ((en / 4:Nat):Int)] (.tup [.agg [I cl,I ch],I e])
  clF:∃ c,Fn P0 26 [relV rest tl S] (.tup [I c,I g])
  isF:(e=10∧g=0∧sl=0∧sh=0∧cl=0∧ch=0)∨(e=0∧g=4∧0≤sl∧sl≤sh∧sh≤600∧1≤cl∧cl≤ch∧ch≤600)
  ex:e=0→∀ n,0≤n→n≤600→∃ t u h,Fn P0 (atF (en / 2 % 2)) [relV rest .no (entS S en n n),I ((en / 4:Nat):Int)] (.tup [.agg [I t,I u],I h]) ∧
    ((h=0∧t=n∧u=n)∨(h=10∧¬ (sl≤n∧n≤sh)))∧(h=0→(wrt S en).1≤n→n≤(wrt S en).2→sl≤n∧n≤sh)
  onf : e = 0 → ∃ al ah bl bh, Fn P0 14 [relV rest tl S, I ((en / 4 : Nat) : Int)] (.tup [.agg [I al, I ah], I 0]) ∧ Fn P0 16 [relV rest tl S, I ((en / 4 : Nat) : Int)] (.tup [.agg [I bl, I bh], I 0]) ∧
    (bl - ah≤cl∧ch≤bh - al∧(0≤al∧al≤ah∧ah≤600)∧0≤bl∧bl≤bh∧bh≤600)∧∀ n,n=al∨n=ah→∃ ul uh,Fn P0 16 [relV rest .no (entS S (4 * (en / 4)) n n),I ((en / 4:Nat):Int)] (.tup [.agg [I ul,I uh],I 0]) ∧
      Fn P0 18 [relV rest .no (entS S (4 * (en / 4)) n n),I ((en / 4:Nat):Int)] (.tup [.agg [I (ul - n),I (uh - n)],I 0])∧cl≤ul - n∧uh - n≤ch∧(0≤ul∧ul≤600)∧0≤uh∧uh≤600
section
variable {rest:Int} {tl:Tail} (htl:tl.isOwn=false) {S:List Sti} (hS:S.length≤1000000) (hr:relOk rest S=true)
include htl hS hr in
theorem lenOk (ho:okT (tabA S rest)=true) {k:Nat} (hk:k < S.length):Fn P0 18 [relV rest tl S,I k] (.tup [.agg [I (-(tabA S rest (2 * k+1) (2 * k))),I (tabA S rest (2 * k) (2 * k+1))],I 0]):=by
  have h:=f18t rest tl htl S hS k
  unfold lenE at h
  rw [errSt hr ho hk] at h
  exact h
include htl hS hr in
theorem atOk (ho:okT (tabA S rest)=true) {k o:Nat} (hk:k < S.length) (h2:o < 2):Fn P0 (atF o) [relV rest tl S,I k] (.tup [.agg [I (-(tabA S rest (2 * k+o) 10)),I (tabA S rest 10 (2 * k+o))],I 0]):=by
  match o,h2 with
  | 0,_=>exact onOk htl hS hr ho hk
  | 1,_=>exact offOk htl hS hr ho hk
include hr in
theorem errNo (ho:okT (tabA S rest)=false) {k:Nat} (hk:k < S.length):errT rest S (isSt S k) 0=10:=by
  unfold errT
  rw [if_neg (by rw [hr];decide),if_neg (by rw [isSt_of hk];decide),if_pos ho]
include htl hS hr in
theorem atNo (ho:okT (tabA S rest)=false) {k o:Nat} (hk:k < S.length) (h2:o < 2):Fn P0 (atF o) [relV rest tl S,I k] (.tup [.agg [I 0,I 0],I 10]):=by
  match o,h2 with
  | 0, _ =>
    have h:=f14 rest tl htl S hS k
    unfold onE at h
    rw [errNo hr ho hk] at h
    exact h
  | 1, _ =>
    have h:=f16t rest tl htl S hS k
    unfold offE at h
    rw [errNo hr ho hk] at h
    exact h
include htl hS hr in
theorem lenNo (ho:okT (tabA S rest)=false) {k:Nat} (hk:k < S.length):Fn P0 18 [relV rest tl S,I k] (.tup [.agg [I 0,I 0],I 10]):=by
  have h:=f18t rest tl htl S hS k
  unfold lenE at h
  rw [errNo hr ho hk] at h
  exact h
include hr in
theorem span_wrt (ho:okT (tabA S rest)=true) {en:Nat} (hen:en < 4 * S.length):(wrt S en).1≤-(tabA S rest (mom en) 10)∧tabA S rest 10 (mom en)≤(wrt S en).2∧0≤(wrt S en).1∧(wrt S en).2≤600:=by
  obtain ⟨hrr,hS5,hv⟩:=relOk_of hr
  have hA:=allB_ok hrr hS5 hv
  have h1:=((kept_iff hS5).1 (late_keeps hA ho (a:=10) (by decide))).entry (en / 4) (by omega) (en / 2 % 2) (en % 2) (by omega) (by omega) (inE_all (by omega))
  have h2:=((kept_iff hS5).1 (early_keeps hA ho (b:=10) (by decide))).entry (en / 4) (by omega) (en / 2 % 2) (en % 2) (by omega) (by omega) (inE_all (by omega))
  rw [show 2 * (en / 4)+en / 2 % 2=mom en from by show _=en / 2;omega,← wrt_at hen] at h1 h2
  have h3:=tabS_self ho (show 10 < 11 by decide)
  have h4:0≤(wrt S en).1∧(wrt S en).2≤600:=by
    have h0:=hv _ (List.getElem_mem (show en / 4 < S.length by omega))
    rw [wrt_at hen]
    simp only [Sti.ok,Sti.j0,Sti.j1,minsOk,Bool.and_eq_true,decide_eq_true_eq] at h0
    rcases (by omega:en / 2 % 2=0∨en / 2 % 2=1) with e1 | e1<;>rcases (by omega:en % 2=0∨en % 2=1) with e2 | e2<;>rw [e1,e2]<;>simp only [Sti.ent]<;>omega
  have h5:(wrt S en).1≤-(tabA S rest (mom en) 10) - -(tabA S rest 10 10):=h2.1
  have h6:tabA S rest 10 (mom en) - tabA S rest 10 10≤(wrt S en).2:=h1.2
  have h7:tabA S rest 10 10=0:=h3
  rw [h7] at h5 h6
  exact ⟨by omega,by omega,h4.1,h4.2⟩
theorem exact_is {en:Nat} {n:Int} (hS5:S.length≤5) (hen:en < 4 * S.length) (hr':relOk rest (entS S en n n)=true) (ho':okT (tabA (entS S en n n) rest)=true):tabA (entS S en n n) rest (mom en) 10=-n∧tabA (entS S en n n) rest 10 (mom en)=n:=by
  obtain ⟨hrr,hS',hv⟩:=relOk_of hr'
  have hA:=allB_ok hrr hS' hv
  have h1:=ent_is hS5 hen (late_keeps hA ho' (a:=10) (by decide))
  have h2:=ent_is hS5 hen (early_keeps hA ho' (b:=10) (by decide))
  have h3:=tabS_self ho' (show 10 < 11 by decide)
  have h4:n≤-(tabA (entS S en n n) rest (mom en) 10) - -(tabA (entS S en n n) rest 10 10)∧-(tabA (entS S en n n) rest (mom en) 10) - -(tabA (entS S en n n) rest 10 10)≤n:=h2
  have h5:n≤tabA (entS S en n n) rest 10 (mom en) - tabA (entS S en n n) rest 10 10∧tabA (entS S en n n) rest 10 (mom en) - tabA (entS S en n n) rest 10 10≤n:=h1
  have h6:tabA (entS S en n n) rest 10 10=0:=h3
  rw [h6] at h4 h5
  exact ⟨by omega,by omega⟩
include htl hS hr in
theorem endH {en : Nat} (hen : en < 4 * S.length) : ∃ sl sh cl ch e g, EndH rest tl S en sl sh cl ch e g := by
  have hi:en / 4 < S.length:=by omega
  have ho2:en / 2 % 2 < 2:=Nat.mod_lt _ (by decide)
  have hcl:=clashF htl hS hr
  cases ho:okT (tabA S rest) with
  | false =>
    rw [ho] at hcl
    exact ⟨0,0,0,0,10,0,atNo htl hS hr ho hi ho2,lenNo htl hS hr ho hi,⟨_,hcl⟩,.inl ⟨rfl,rfl,rfl,rfl,rfl,rfl⟩,fun h=>absurd h (by decide),fun h=>absurd h (by decide)⟩
  | true =>
    rw [ho] at hcl
    obtain ⟨hrr,hS5,hv⟩:=relOk_of hr
    have hA:=allB_ok hrr hS5 hv
    have hm:2 * (en / 4)+en / 2 % 2=mom en:=by show _=en / 2;omega
    have hm11:mom en < 11:=by show en / 2 < 11;omega
    have tri:∀ {a b c:Nat},a < 11→b < 11→c < 11→tabA S rest a b≤tabA S rest a c+tabA S rest c b:=fun ha hb hc=>short_tri ho ha hb hc
    have hz:∀ {a:Nat},a < 11→tabA S rest a a=0:=fun ha=>tabS_self ho ha
    have hw:=span_wrt hr ho hen
    have hw0:=span_wrt hr ho (en:=4 * (en / 4)) (by omega)
    have hw1:=span_wrt hr ho (en:=4 * (en / 4)+2) (by omega)
    rw [show mom (4 * (en / 4))=2 * (en / 4) from by show 4 * (en / 4) / 2=_;omega] at hw0
    rw [show mom (4 * (en / 4)+2)=2 * (en / 4)+1 from by show (4 * (en / 4)+2) / 2=_;omega] at hw1
    have hat:=atOk htl hS hr ho hi ho2
    rw [hm] at hat
    have hrule:=((kept_iff hS5).1 (early_keeps hA ho (b:=2 * (en / 4)) (by omega))).rule (en / 4) hi (2 * (en / 4)+1,2 * (en / 4),-1) (by simp [rules,rul1])
    have hrule':-(tabA S rest (2 * (en / 4)) (2 * (en / 4))) - -(tabA S rest (2 * (en / 4)+1) (2 * (en / 4)))≤-1:=hrule
    have t1:=tri (show 10 < 11 by decide) (show 10 < 11 by decide) hm11
    have t2:=hz (show 10 < 11 by decide)
    have t3:=hz (show 2 * (en / 4) < 11 by omega)
    have t4:=tri (show 2 * (en / 4) < 11 by omega) (show 2 * (en / 4) < 11 by omega) (show 2 * (en / 4)+1 < 11 by omega)
    have t5:=tri (show 2 * (en / 4)+1 < 11 by omega) (show 2 * (en / 4) < 11 by omega) (show 10 < 11 by decide)
    have t6:=tri (show 2 * (en / 4) < 11 by omega) (show 2 * (en / 4)+1 < 11 by omega) (show 10 < 11 by decide)
    have t7:=tri (show 10 < 11 by decide) (show 10 < 11 by decide) (show 2 * (en / 4) < 11 by omega)
    have t8:=tri (show 10 < 11 by decide) (show 10 < 11 by decide) (show 2 * (en / 4)+1 < 11 by omega)
    have t9:tabA S rest (2 * (en / 4)) (2 * (en / 4)+1)≤600:=tabS_wide (by omega) (by omega)
    refine ⟨_,_,_,_,0,4,hat,lenOk htl hS hr ho hi,⟨_,hcl⟩,.inr ⟨rfl,rfl,by omega,by omega,by omega,by omega,by omega,t9⟩,fun _ n h0 h6=>?_,fun _=>?_⟩
    · have hr' := entS_ok (q := 0) hr hen (x := n) (y := n) ⟨h0, Int.le_refl _, h6⟩
      have hi':en / 4 < (entS S en n n).length:=by rw [entS_len];exact hi
      have hS':(entS S en n n).length≤1000000:=by rw [entS_len];exact hS
      cases ho':okT (tabA (entS S en n n) rest) with
      | false =>
        refine ⟨0,0,10,atNo rfl hS' hr' ho' hi' ho2,.inr ⟨rfl,fun hin=>?_⟩,fun h=>absurd h (by decide)⟩
        have:=(exact_early hr ho hen (n:=n) hin.1 hin.2).2.1
        rw [ho'] at this
        cases this
      | true =>
        obtain ⟨x1,x2⟩:=exact_is hS5 hen hr' ho'
        have hat':=atOk (tl:=.no) rfl hS' hr' ho' hi' ho2
        rw [hm,x1,x2] at hat'
        refine ⟨_,_,0,hat',.inl ⟨rfl,Int.neg_neg n,rfl⟩,fun _ w1 w2=>?_⟩
        obtain ⟨hrr',hS5',hv'⟩:=relOk_of hr'
        have hA':=allB_ok hrr' hS5' hv'
        have y1:=tab_mono hA' ho' (fun v hv=>ent_down hS5 hen ⟨w1,w2⟩ hv) hm11 (show 10 < 11 by decide)
        have y2:=tab_mono hA' ho' (fun v hv=>ent_down hS5 hen ⟨w1,w2⟩ hv) (show 10 < 11 by decide) hm11
        rw [show tabS (entS S en n n) rest (allE (entS S en n n)) (mom en) 10=-n from x1] at y1
        rw [show tabS (entS S en n n) rest (allE (entS S en n n)) 10 (mom en)=n from x2] at y2
        have y1':-n≤tabA S rest (mom en) 10:=y1
        have y2':n≤tabA S rest 10 (mom en):=y2
        omega
    · refine ⟨_, _, _, _, onOk htl hS hr ho hi, offOk htl hS hr ho hi, ⟨by show -(tabA S rest (2 * (en / 4) + 1) 10) - tabA S rest 10 (2 * (en / 4)) ≤ _; omega, by show _ ≤ tabA S rest 10 (2 * (en / 4) + 1) - -(tabA S rest (2 * (en / 4)) 10); omega, ⟨by show 0 ≤ -(tabA S rest (2 * (en / 4)) 10); omega, by show -(tabA S rest (2 * (en / 4)) 10) ≤ tabA S rest 10 (2 * (en / 4)); omega, by show tabA S rest 10 (2 * (en / 4)) ≤ 600; omega⟩, by show 0 ≤ -(tabA S rest (2 * (en / 4) + 1) 10); omega, by show -(tabA S rest (2 * (en / 4) + 1) 10) ≤ tabA S rest 10 (2 * (en / 4) + 1); omega, by show tabA S rest 10 (2 * (en / 4) + 1) ≤ 600; omega⟩, fun n hn => ?_⟩
      have hn':-(tabA S rest (2 * (en / 4)) 10)≤n∧n≤tabA S rest 10 (2 * (en / 4)):=by
        rcases hn with h | h
        · have : n = -(tabA S rest (2 * (en / 4)) 10) := h
          omega
        · have : n = tabA S rest 10 (2 * (en / 4)) := h
          omega
      have hmk:mom (4 * (en / 4))=2 * (en / 4):=by show 4 * (en / 4) / 2=_;omega
      have hen4:4 * (en / 4) < 4 * S.length:=by omega
      obtain ⟨e1,e2,e3⟩:=exact_early hr ho (en:=4 * (en / 4)) hen4 (n:=n) (by rw [hmk];exact hn'.1) (by rw [hmk];exact hn'.2)
      have hi':en / 4 < (entS S (4 * (en / 4)) n n).length:=by rw [entS_len];exact hi
      have hS':(entS S (4 * (en / 4)) n n).length≤1000000:=by rw [entS_len];exact hS
      obtain ⟨x1,x2⟩:=exact_is hS5 hen4 e1 e2
      rw [hmk] at x1 x2
      have tri':∀ {a b c:Nat},a < 11→b < 11→c < 11→tabA (entS S (4 * (en / 4)) n n) rest a b≤tabA (entS S (4 * (en / 4)) n n) rest a c+tabA (entS S (4 * (en / 4)) n n) rest c b:=fun ha hb hc=>short_tri e2 ha hb hc
      have z1:=tri' (show 2 * (en / 4)+1 < 11 by omega) (show 2 * (en / 4) < 11 by omega) (show 10 < 11 by decide)
      have z2:=tri' (show 2 * (en / 4)+1 < 11 by omega) (show 10 < 11 by decide) (show 2 * (en / 4) < 11 by omega)
      have z3:=tri' (show 2 * (en / 4) < 11 by omega) (show 2 * (en / 4)+1 < 11 by omega) (show 10 < 11 by decide)
      have z4:=tri' (show 10 < 11 by decide) (show 2 * (en / 4)+1 < 11 by omega) (show 2 * (en / 4) < 11 by omega)
      have z5:=e3 (2 * (en / 4)+1) (2 * (en / 4)) (by omega) (by omega)
      have z6:=e3 (2 * (en / 4)) (2 * (en / 4)+1) (by omega) (by omega)
      have z7:=e3 (2 * (en / 4)+1) 10 (by omega) (by decide)
      have z8:=e3 10 (2 * (en / 4)+1) (by decide) (by omega)
      have z9:=tri' (show 10 < 11 by decide) (show 10 < 11 by decide) (show 2 * (en / 4)+1 < 11 by omega)
      have z10:tabA (entS S (4 * (en / 4)) n n) rest 10 10=0:=tabS_self e2 (by decide)
      refine ⟨-(tabA (entS S (4 * (en / 4)) n n) rest (2 * (en / 4)+1) 10),tabA (entS S (4 * (en / 4)) n n) rest 10 (2 * (en / 4)+1),offOk rfl hS' e1 e2 hi',?_,by omega,by omega,⟨by omega,by omega⟩,by omega,by omega⟩
      have hl:=lenOk (tl:=.no) rfl hS' e1 e2 hi'
      rw [show -(tabA (entS S (4 * (en / 4)) n n) rest (2 * (en / 4)+1) (2 * (en / 4)))=-(tabA (entS S (4 * (en / 4)) n n) rest (2 * (en / 4)+1) 10) - n from by omega,show tabA (entS S (4 * (en / 4)) n n) rest (2 * (en / 4)) (2 * (en / 4)+1)=tabA (entS S (4 * (en / 4)) n n) rest 10 (2 * (en / 4)+1) - n from by omega] at hl
      exact hl
end
end Go.Pv
