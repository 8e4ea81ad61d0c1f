/- Parts of the proof: R102, R109, R110, R111, R112, R113 -/
import Derived.Test.YtejnfigkngkhjaaP22
set_option linter.unusedVariables false
set_option linter.unusedSimpArgs false
set_option linter.unusedSectionVars false
namespace Go.Pv
open Go.Proofs Go.Am
set_option maxRecDepth 10000
structure Hide (p:Prop):Prop where
  get:p
theorem neSp (xo yo:Operand) (x y x' y':Int):pbin A0 E0 .neq 28 xo yo (.agg [I x,I y]) (.agg [I x',I y'])=some (B (decide (¬(x=x'∧y=y')))):=by
  have hn:pnil A0 28 (.agg [I x,I y]) (.agg [I x',I y'])=none:=by
    have h:=eqSu
    unfold pnil
    cases hu:A0.under 28 with
    | none=>rfl
    | some d =>
      rw [hu] at h
      cases d<;>first | rfl | (exact absurd h (by decide))
  have hv:=eqSv x y x' y'
  have hd:decide (¬(x=x'∧y=y'))=!(x == x' && y == y'):=by
    by_cases h1:x=x'<;>by_cases h2:y=y'<;>simp [h1,h2]
  rw [hd]
  simp only [pbin,PV.toAV,PV.toAVs,bothNil,hn,abin,aequal,eqSe,hv]
  cases (x == x')<;>cases (y == y')<;>rfl
end Go.Pv
namespace Go.Pv
open Go.Proofs Go.Am
set_option maxRecDepth 10000
section
variable {rest:Int} {tl:Tail} (htl:tl.isOwn=false) {S:List Sti} (hS:S.length≤1000000)
theorem sizeF {n x:Nat} (hn:n≤40) (hx:x < 2 ^ n):Fn P0 39 [N x] (N (cnt n x)):=by
  have h:=f39 x (Nat.lt_of_lt_of_le hx (Nat.pow_le_pow_right (by decide) hn))
  have e:siz 40 x=cnt n x:=by
    rw [siz_cnt,show 40=n+(40 - n) from by omega,cnt_more]
    exact fun q hq=>Nat.testBit_lt_two_pow (Nat.lt_of_lt_of_le hx (Nat.pow_le_pow_right (by decide) hq))
  rw [e] at h
  exact h
end
end Go.Pv
namespace Go.Pv
open Go.Proofs Go.Am
set_option maxRecDepth 10000
theorem out_bit {n set q:Nat} (hn:n≤20) (hs:set < 2 ^ 62):(outN n set).testBit q=(decide (q < n) && !set.testBit q):=by
  unfold outN allN
  rw [Nat.testBit_and,Nat.one_mul,Nat.testBit_two_pow_sub_one,show 2 ^ 64 - 1 - set=2 ^ 64 - (set+1) from by omega,Nat.testBit_two_pow_sub_succ (by omega)]
  by_cases hq:q < n
  · rw [decide_eq_true hq,decide_eq_true (show q < 64 by omega),Bool.true_and]
  · rw [decide_eq_false hq,Bool.false_and,Bool.false_and]
def caB (S:List Sti) (rest:Int) (out:Nat):Bool:=okT (tabS S rest (outN (4 * S.length) out))
section
variable {rest:Int} {tl:Tail} (htl:tl.isOwn=false) {S:List Sti} (hS:S.length≤1000000)
structure WrH (S:List Sti) (rest:Int) (s c:Nat):Prop where
  lo:1≤s
  hi:s < 2 ^ (4 * S.length)
  can:caB S rest s=true
  one:s &&& c≠0
  cl:c < 2 ^ (4 * S.length)
  del:∀ i,i < 4 * S.length→s.testBit i=true→caB S rest (s &&& (2 ^ 64 - 1 - 1 * 2 ^ i))=false
  min:∀ Y,Y < 2 ^ (4 * S.length)→caB S rest Y=true→cnt (4 * S.length) s < cnt (4 * S.length) Y∨(cnt (4 * S.length) s=cnt (4 * S.length) Y∧s≤Y)
end
end Go.Pv
namespace Go.Pv
open Go.Proofs Go.Am
set_option maxRecDepth 10000
theorem tab_leC {S S':List Sti} {rest:Int} {E E':Nat} (hA:∀ x∈allB S' rest,x.ok) (ho:okT (tabS S' rest E')=true) {c:Int} {a b:Nat} (ha:a < 11) (hb:b < 11)
    (h:∀ v,Keeps S' rest E' v→∃ w,Keeps S rest E w∧v b - v a≤w b - w a+c):tabS S' rest E' a b≤tabS S rest E a b+c:=by
  obtain ⟨w,h1,h2⟩:=h _ (late_keeps hA ho ha)
  have h3:=h1.pot a b ha hb
  have h4:=tabS_self ho ha
  have h5:tabS S' rest E' a b - tabS S' rest E' a a≤w b - w a+c:=h2
  omega
def Sti.swp (s:Sti):Sti:=⟨s.r,s.c,s.d,s.a,s.b,s.g,s.h,s.e,s.f⟩
abbrev swpS (S:List Sti):List Sti:=S.map Sti.swp
def Sti.late (n:Int) (s:Sti):Sti:=⟨s.r,s.a+n,s.b+n,s.c+n,s.d+n,s.e+n,s.f+n,s.g+n,s.h+n⟩
abbrev latS (n:Int) (S:List Sti):List Sti:=S.map (Sti.late n)
theorem swp_ent (s:Sti):∀ o j,o < 2→j < 2→s.swp.ent o j=s.ent o (1 - j)
  | 0,0,_,_=>rfl
  | 0,1,_,_=>rfl
  | 1,0,_,_=>rfl
  | 1,1,_,_=>rfl
theorem late_ent (n:Int) (s:Sti):∀ o j,o < 2→j < 2→(s.late n).ent o j=((s.ent o j).1+n,(s.ent o j).2+n)
  | 0,0,_,_=>rfl
  | 0,1,_,_=>rfl
  | 1,0,_,_=>rfl
  | 1,1,_,_=>rfl
theorem swpS_swpS (S:List Sti):swpS (swpS S)=S:=by
  show (S.map Sti.swp).map Sti.swp=S
  rw [List.map_map]
  exact List.map_id' S
theorem swp_r (S:List Sti):S.map Sti.r=(swpS S).map Sti.r:=by
  show _=(S.map Sti.swp).map Sti.r
  rw [List.map_map];rfl
theorem late_r (n:Int) (S:List Sti):S.map Sti.r=(latS n S).map Sti.r:=by
  show _=(S.map (Sti.late n)).map Sti.r
  rw [List.map_map];rfl
theorem swp_ok {S:List Sti} {rest:Int} (hr:relOk rest S=true):relOk rest (swpS S)=true:=by
  obtain ⟨h1,h2,h3⟩:=relOk_of hr
  refine relOk_yes h1.1 h1.2 (by simpa using h2) fun i hi=>?_
  have h4:=h3 _ (List.getElem_mem (l:=S) (n:=i) (by simpa using hi))
  simp only [List.getElem_map,Sti.swp,Sti.ok,Sti.j0,Sti.j1,Bool.and_eq_true] at h4 ⊢
  exact ⟨h4.1,h4.2.2,h4.2.1⟩
def SwE (n:Nat) (E E':Nat):Prop:=∀ k o j,k < n→o < 2→j < 2→E'.testBit (2 * (2 * k+o)+(1 - j))=E.testBit (2 * (2 * k+o)+j)
theorem SwE.symm {n E E':Nat} (h:SwE n E E'):SwE n E' E:=fun k o j hk ho hj=>by
  have:=h k o (1 - j) hk ho (by omega)
  rw [show 1 - (1 - j)=j from by omega] at this
  exact this.symm
theorem SwE.all (n:Nat):SwE n (2 ^ (4 * n) - 1) (2 ^ (4 * n) - 1):=fun k o j hk ho hj=>by
  rw [Nat.testBit_two_pow_sub_one,Nat.testBit_two_pow_sub_one,decide_eq_true (by omega),decide_eq_true (by omega)]
section
variable {S:List Sti} {rest:Int} (hr:relOk rest S=true)
include hr
theorem swp_keeps {E E':Nat} (hE:SwE S.length E E') {v:Nat→Int} (h:Keeps S rest E v):Keeps (swpS S) rest E' v:=by
  have hS:=(relOk_of hr).2.1
  have hS':(swpS S).length≤5:=by simpa using hS
  have h1:=(kept_iff hS).1 h
  refine (kept_iff hS').2 ⟨h1.wide,fun k hk p hp=>h1.rule k (by simpa using hk) p (by rw [rules_congr (swp_r S)];exact hp),fun k hk o j ho hj hin=>?_⟩
  have hk':k < S.length:=by simpa using hk
  rw [List.getElem_map,swp_ent _ _ _ ho hj]
  refine h1.entry k hk' o (1 - j) ho (by omega) ?_
  rw [inE_bit] at hin ⊢
  rw [← hE k o (1 - j) hk' ho (by omega),show 1 - (1 - j)=j from by omega]
  exact hin
theorem swp_okT {E E':Nat} (hE:SwE S.length E E'):okT (tabS (swpS S) rest E')=okT (tabS S rest E):=by
  rw [Bool.eq_iff_iff,ok_iff (rel_ok (swp_ok hr)),ok_iff (rel_ok hr)]
  constructor
  · rintro ⟨v, hv⟩
    have h:=swp_keeps (swp_ok hr) (E':=E) (by rw [List.length_map];exact hE.symm) hv
    rw [swpS_swpS] at h
    exact ⟨v,h⟩
  · rintro ⟨v, hv⟩
    exact ⟨v,swp_keeps hr hE hv⟩
theorem allE_swp:SwE S.length (allE S) (allE (swpS S)):=by
  unfold allE
  rw [List.length_map]
  exact SwE.all _
theorem swp_okA:okT (tabA (swpS S) rest)=okT (tabA S rest):=swp_okT hr (allE_swp hr)
theorem swp_tab (ho:okT (tabA S rest)=true) {a b:Nat} (ha:a < 11) (hb:b < 11):tabA (swpS S) rest a b=tabA S rest a b:=by
  have ho':okT (tabA (swpS S) rest)=true:=by rw [swp_okA hr];exact ho
  have h1:=tab_leC (S:=S) (S':=swpS S) (E:=allE S) (c:=0) (rel_ok (swp_ok hr)) ho' ha hb fun v hv=>⟨v,by
    have h:=swp_keeps (swp_ok hr) (E':=allE S) (by rw [List.length_map];exact (allE_swp hr).symm) hv
    rw [swpS_swpS] at h
    exact h,by omega⟩
  have h2:=tab_leC (S:=swpS S) (S':=S) (E:=allE (swpS S)) (c:=0) (rel_ok hr) ho ha hb fun v hv=>⟨v,swp_keeps hr (allE_swp hr) hv,by omega⟩
  show tabS (swpS S) rest (allE (swpS S)) a b=tabS S rest (allE S) a b
  omega
theorem rule_cases {k:Nat} (hk:k < S.length) {p:Nat×Nat×Int} (hp:p∈rules S rest k):p=(2 * k,10,0)∨(p.1 < 2 * S.length∧p.2.1 < 2 * S.length):=by
  simp only [rules,rul1,rul2,List.mem_append,List.mem_cons,List.not_mem_nil,or_false] at hp
  rcases hp with (rfl | rfl) | hp | hp
  · exact .inl rfl
  · exact .inr ⟨by show 2 * k+1 < _;omega,by show 2 * k < _;omega⟩
  · split at hp
    · simp only [List.mem_singleton] at hp
      subst hp
      exact .inr ⟨by show 2 * k < _;omega,by show 2 * (k - 1) < _;omega⟩
    · cases hp
  · cases hf : frm S ((S.map Sti.r).getD k 0) k with
    | none=>rw [hf] at hp;cases hp
    | some f =>
      have:=frm_lt S _ k f hf
      rw [hf] at hp
      simp only [rul3,List.mem_singleton] at hp
      subst hp
      exact .inr ⟨by show 2 * k < _;omega,by show 2 * f+1 < _;omega⟩
def shV (L:Nat) (n:Int) (v:Nat→Int):Nat→Int:=fun m=>if m < 2 * L then v m+n else v 10
theorem ent_val {k:Nat} (hk:k < S.length) {o j:Nat} (ho:o < 2) (hj:j < 2):0≤(S[k].ent o j).1∧(S[k].ent o j).1≤(S[k].ent o j).2∧(S[k].ent o j).2≤600 :=
  ent_bnd ((relOk_of hr).2.2 _ (List.getElem_mem hk)) ho hj
theorem keeps_at {v:Nat→Int} (h:Keeps S rest (allE S) v) {k:Nat} (hk:k < S.length) {o j:Nat} (ho:o < 2) (hj:j < 2):(S[k].ent o j).1≤v (2 * k+o) - v 10∧v (2 * k+o) - v 10≤(S[k].ent o j).2 :=
  ((kept_iff (relOk_of hr).2.1).1 h).entry k hk o j ho hj (all_in (relOk_of hr).2.1 (en:=0) (by omega) hk ho hj)
theorem shV_keeps {S':List Sti} (hr':relOk rest S'=true) {n:Int} (hl:S'.length=S.length) (hrr:S.map Sti.r=S'.map Sti.r) (he:∀ k (h:k < S.length) (h':k < S'.length) o j,o < 2→j < 2→S'[k].ent o j=((S[k].ent o j).1+n,(S[k].ent o j).2+n))
    {v:Nat→Int} (h:Keeps S rest (allE S) v):Keeps S' rest (allE S') (shV S.length n v):=by
  have hS:=(relOk_of hr).2.1
  have hS':=(relOk_of hr').2.1
  have h1:=(kept_iff hS).1 h
  have hin:∀ m,m < 2 * S.length→0≤v m+n - v 10∧v m+n - v 10≤600:=fun m hm=>by
    have h2:=keeps_at hr h (k:=m / 2) (by omega) (o:=m % 2) (j:=0) (by omega) (by decide)
    have h3:=ent_val hr' (k:=m / 2) (by omega) (o:=m % 2) (j:=0) (by omega) (by decide)
    rw [he (m / 2) (by omega) (by omega) (m % 2) 0 (by omega) (by decide)] at h3
    rw [show 2 * (m / 2)+m % 2=m from by omega] at h2
    simp only at h3
    omega
  have h10:shV S.length n v 10=v 10:=by unfold shV;rw [if_neg (by omega)]
  refine (kept_iff hS').2 ⟨fun a b ha hb=>?_,fun k hk p hp=>?_,fun k hk o j ho hj _=>?_⟩
  · have w := h1.wide a b ha hb
    unfold shV
    split<;>split
    · omega
    · have:=hin b (by assumption);omega
    · have:=hin a (by assumption);omega
    · omega
  · rw [← rules_congr hrr] at hp
    rcases rule_cases hr (by omega) hp with rfl | ⟨c1,c2⟩
    · show shV S.length n v 10 - shV S.length n v (2 * k) ≤ 0
      rw [h10]
      have:=hin (2 * k) (by omega)
      unfold shV
      rw [if_pos (by omega)]
      omega
    · have := h1.rule k (by omega) p hp
      unfold shV
      rw [if_pos c2,if_pos c1]
      omega
  · have h2 := keeps_at hr h (k := k) (by omega) ho hj
    rw [he k (by omega) hk o j ho hj,h10]
    unfold shV
    rw [if_pos (by omega)]
    simp only
    omega
end
end Go.Pv
namespace Go.Pv
open Go.Proofs Go.Am
set_option maxRecDepth 10000
section
variable {S:List Sti} {rest:Int} (hr:relOk rest S=true)
include hr
section
variable {n:Int} (hn:0≤n) (hf:∀ s∈S,s.b+n≤600∧s.d+n≤600∧s.f+n≤600∧s.h+n≤600)
include hn hf
theorem late_ok:relOk rest (latS n S)=true:=by
  obtain ⟨h1,h2,h3⟩:=relOk_of hr
  refine relOk_yes h1.1 h1.2 (by simpa using h2) fun i hi=>?_
  have hm:=List.getElem_mem (l:=S) (n:=i) (by simpa using hi)
  have h4:=h3 _ hm
  have h5:=hf _ hm
  simp only [List.getElem_map,Sti.late,Sti.ok,Sti.j0,Sti.j1,minsOk,Bool.and_eq_true,decide_eq_true_eq] at h4 ⊢
  refine ⟨h4.1,?_⟩
  omega
theorem late_he (k:Nat) (h:k < S.length) (h':k < (latS n S).length) (o j:Nat) (ho:o < 2) (hj:j < 2):((latS n S)[k]).ent o j=((S[k].ent o j).1+n,(S[k].ent o j).2+n):=by
  rw [List.getElem_map,late_ent n _ o j ho hj]
theorem late_keeps' {v:Nat→Int} (h:Keeps S rest (allE S) v):Keeps (latS n S) rest (allE (latS n S)) (shV S.length n v) :=
  shV_keeps hr (late_ok hr hn hf) (by simp) (late_r n S) (late_he hr hn hf) h
theorem early_keeps' {v:Nat→Int} (h:Keeps (latS n S) rest (allE (latS n S)) v):Keeps S rest (allE S) (shV S.length (-n) v):=by
  have h1:=shV_keeps (late_ok hr hn hf) hr (n:=-n) (by simp) (late_r n S).symm (fun k h h' o j ho hj=>by
    rw [late_he hr hn hf k h' h o j ho hj]
    exact Prod.ext (by show _=_+n+-n;omega) (by show _=_+n+-n;omega)) h
  rw [List.length_map] at h1
  exact h1
theorem late_okA:okT (tabA (latS n S) rest)=okT (tabA S rest):=by
  rw [Bool.eq_iff_iff,ok_iff (rel_ok (late_ok hr hn hf)),ok_iff (rel_ok hr)]
  exact ⟨fun ⟨v,hv⟩=>⟨_,early_keeps' hr hn hf hv⟩,fun ⟨v,hv⟩=>⟨_,late_keeps' hr hn hf hv⟩⟩
def offN (L:Nat) (n:Int) (a:Nat):Int:=if a < 2 * L then n else 0
theorem late_tab (ho:okT (tabA S rest)=true) {a b:Nat} (ha:a < 2 * S.length∨a=10) (hb:b < 2 * S.length∨b=10):tabA (latS n S) rest a b=tabA S rest a b+(offN S.length n b - offN S.length n a):=by
  have hS:=(relOk_of hr).2.1
  have ho':okT (tabA (latS n S) rest)=true:=by rw [late_okA hr hn hf];exact ho
  have hsh:∀ (d:Int) (v:Nat→Int) c,(c < 2 * S.length∨c=10)→shV S.length d v c=v c+offN S.length d c:=fun d v c hc=>by
    unfold shV offN
    split
    · rfl
    · rcases hc with hc | rfl
      · omega
      · omega
  have hneg:∀ c,offN S.length (-n) c=- offN S.length n c:=fun c=>by unfold offN;split<;>omega
  have h1:=tab_leC (S:=S) (S':=latS n S) (E:=allE S) (a:=a) (b:=b) (c:=offN S.length n b - offN S.length n a) (rel_ok (late_ok hr hn hf)) ho' (by omega) (by omega) fun v hv=>⟨_,early_keeps' hr hn hf hv,by
    rw [hsh _ _ a ha,hsh _ _ b hb,hneg,hneg];omega⟩
  have h2:=tab_leC (S:=latS n S) (S':=S) (E:=allE (latS n S)) (a:=a) (b:=b) (c:=offN S.length n a - offN S.length n b) (rel_ok hr) ho (by omega) (by omega) fun v hv=>⟨_,late_keeps' hr hn hf hv,by
    rw [hsh _ _ a ha,hsh _ _ b hb];omega⟩
  show tabS (latS n S) rest (allE (latS n S)) a b=tabS S rest (allE S) a b+_
  omega
end
theorem free_up (out:Nat) {v:Nat→Int} (h:Keeps S rest (allE S) v):Keeps (freeS S out) rest (allE (freeS S out)) v:=by
  obtain ⟨h1,h2,h3⟩:=relOk_of hr
  obtain ⟨g1,g2,g3⟩:=relOk_of (free_rel hr out)
  have hlen:(freeS S out).length=S.length:=freeN_len S out _
  have hv:=(kept_iff h2).1 h
  refine (kept_iff g2).2 ⟨hv.wide,fun k hk p hp=>hv.rule k (by rw [hlen] at hk;exact hk) p (by rw [rules_congr (freeN_r S out (4 * S.length))];exact hp),fun k hk' o j ho hj hin=>?_⟩
  have hk:k < S.length:=by rw [hlen] at hk';exact hk'
  obtain ⟨s,hs1,hs2⟩:=freeN_at (out:=out) (List.getElem?_eq_getElem hk) (4 * S.length)
  obtain ⟨hl,hs⟩:=List.getElem?_eq_some_iff.1 hs1
  have h6:(freeS S out)[k]=s:=hs
  rw [h6,hs2 o j ho hj]
  have h7:=keeps_at hr h hk ho hj
  split
  · have h8 := ent_val hr hk ho hj
    exact ⟨by show (0:Int)≤_;omega,by show _≤(600:Int);omega⟩
  · exact h7
theorem free_okA (out:Nat) (ho:okT (tabA S rest)=true):okT (tabA (freeS S out) rest)=true:=by
  obtain ⟨v,hv⟩:=(ok_iff (rel_ok hr)).1 ho
  exact (free_up hr out hv).ok
theorem free_tab (out:Nat) (ho:okT (tabA S rest)=true) {a b:Nat} (ha:a < 11) (hb:b < 11):tabA S rest a b≤tabA (freeS S out) rest a b:=by
  have h:=tab_leC (S:=freeS S out) (S':=S) (E:=allE (freeS S out)) (c:=0) (rel_ok hr) ho ha hb fun v hv=>⟨v,free_up hr out hv,by omega⟩
  show tabS S rest (allE S) a b≤tabS (freeS S out) rest (allE (freeS S out)) a b
  omega
end
theorem gap_congr {T T':Tab} {m:Int} (h:∀ a b,a < 11→b < 11→T a b=T' a b):∀ (d i:Nat),i+d≤5→T.gap m d i=T'.gap m d i
  | 0,_,_=>rfl
  | d + 1, i, hi => by
    have h1:T.min (2 * i)=T'.min (2 * i):=Prod.ext (congrArg Neg.neg (h _ _ (by omega) (by decide))) (h _ _ (by decide) (by omega))
    have h2:T.min (2 * i+1)=T'.min (2 * i+1):=Prod.ext (congrArg Neg.neg (h _ _ (by omega) (by decide))) (h _ _ (by decide) (by omega))
    simp only [Tab.gap,h1,h2,gap_congr h d (i+1) (by omega)]
def swN (x:Nat):Nat→Nat
  | 0=>0
  | k+1=>swN x k ||| ((if x.testBit (2 * k)=true then 1 * 2 ^ (2 * k+1) else 0) ||| (if x.testBit (2 * k+1)=true then 1 * 2 ^ (2 * k) else 0))
theorem if_bit (c:Bool) (e q:Nat):(if c=true then 1 * 2 ^ e else 0:Nat).testBit q=(c && decide (e=q)):=by
  cases c with
  | true=>rw [if_pos rfl,Nat.one_mul,Nat.testBit_two_pow];rfl
  | false=>rw [if_neg (by decide),Nat.zero_testBit];rfl
theorem swN_bit (x:Nat):∀ (m k:Nat),(swN x m).testBit (2 * k)=(decide (k < m) && x.testBit (2 * k+1))∧(swN x m).testBit (2 * k+1)=(decide (k < m) && x.testBit (2 * k))
  | 0,k=>by simp [swN]
  | m + 1, k => by
    obtain ⟨h1,h2⟩:=swN_bit x m k
    simp only [swN,Nat.testBit_or,if_bit,h1,h2]
    by_cases hk:k=m
    · subst hk
      simp [show ¬ (2 * k+1=2 * k) by omega]
    · have e1 : decide (k < m + 1) = decide (k < m) := decide_eq_decide.2 (by omega)
      rw [e1,show decide (2 * m+1=2 * k)=false from decide_eq_false (by omega),show decide (2 * m=2 * k)=false from decide_eq_false (by omega),show decide (2 * m+1=2 * k+1)=false from decide_eq_false (by omega),show decide (2 * m=2 * k+1)=false from decide_eq_false (by omega)]
      simp
theorem swN_cnt (x m:Nat):∀ k,k≤m→cnt (2 * k) (swN x m)=cnt (2 * k) x
  | 0,_=>rfl
  | k + 1, hk => by
    obtain ⟨h1,h2⟩:=swN_bit x m k
    rw [decide_eq_true (show k < m by omega),Bool.true_and] at h1 h2
    have ih:=swN_cnt x m k (by omega)
    have e:2 * (k+1)=2 * k+1+1:=by omega
    rw [e]
    simp only [cnt]
    rw [ih,h1,h2]
    omega
theorem swN_lt (x m:Nat):swN x m < 2 ^ (2 * m):=Nat.lt_pow_two_of_testBit _ fun q hq=>by
  obtain ⟨h1,h2⟩:=swN_bit x m (q / 2)
  rw [decide_eq_false (show ¬ q / 2 < m by omega),Bool.false_and] at h1 h2
  rcases Nat.mod_two_eq_zero_or_one q with e | e
  · rw [show 2 * (q / 2)=q from by omega] at h1;exact h1
  · rw [show 2 * (q / 2)+1=q from by omega] at h2;exact h2
theorem swN_swE (n x:Nat):SwE n x (swN x (2 * n)):=fun k o j hk ho hj=>by
  obtain ⟨h1,h2⟩:=swN_bit x (2 * n) (2 * k+o)
  rw [decide_eq_true (show 2 * k+o < 2 * n by omega),Bool.true_and] at h1 h2
  rcases (by omega:j=0∨j=1) with rfl | rfl
  · exact h2
  · exact h1
theorem few_same {p p':Nat→Bool} {n:Nat} (hn:n≤5) (mono:∀ X Y,Y < 2 ^ 20→Sub2 X Y→p X=true→p Y=true) (mono':∀ X Y,Y < 2 ^ 20→Sub2 X Y→p' X=true→p' Y=true)
    (h:∀ Y Y',Y < 2 ^ (4 * n)→Y' < 2 ^ (4 * n)→SwE n Y Y'→p' Y'=p Y) (hex:∃ Y,Y < 2 ^ (4 * n)∧p Y=true) :
    fewS p (4 * n) < 2 ^ (4 * n)∧fewS p' (4 * n) < 2 ^ (4 * n)∧cnt (4 * n) (fewS p (4 * n))=cnt (4 * n) (fewS p' (4 * n)):=by
  have hl:∀ x,swN x (2 * n) < 2 ^ (4 * n):=fun x=>by have:=swN_lt x (2 * n);rw [show 2 * (2 * n)=4 * n from by omega] at this;exact this
  have hc:∀ x,cnt (4 * n) (swN x (2 * n))=cnt (4 * n) x:=fun x=>by have:=swN_cnt x (2 * n) (2 * n) (Nat.le_refl _);rw [show 2 * (2 * n)=4 * n from by omega] at this;exact this
  have hex':∃ Y,Y < 2 ^ (4 * n)∧p' Y=true:=by
    obtain ⟨Y,h1,h2⟩:=hex
    exact ⟨swN Y (2 * n),hl Y,by rw [h _ _ h1 (hl Y) (swN_swE n Y)];exact h2⟩
  obtain ⟨a1,a2,a3⟩:=fewS_min (by omega) mono hex
  obtain ⟨b1,b2,b3⟩:=fewS_min (by omega) mono' hex'
  have c1:=a3 (swN (fewS p' (4 * n)) (2 * n)) (hl _) (by rw [← h _ _ (hl _) b2 (swN_swE n _).symm];exact b1)
  have c2:=b3 (swN (fewS p (4 * n)) (2 * n)) (hl _) (by rw [h _ _ a2 (hl _) (swN_swE n _)];exact a1)
  rw [hc] at c1 c2
  exact ⟨a2,b2,by omega⟩
end Go.Pv
namespace Go.Pv
open Go.Proofs Go.Am
set_option maxRecDepth 10000
structure Told (rest:Int) (tl:Tail) (S:List Sti) (k:Nat) (a b c:Int×Int) (e n j:Int):Prop where
  on:Fn P0 14 [relV rest tl S,I k] (.tup [.agg [I a.1,I a.2],I e])
  off:Fn P0 16 [relV rest tl S,I k] (.tup [.agg [I b.1,I b.2],I e])
  len:Fn P0 18 [relV rest tl S,I k] (.tup [.agg [I c.1,I c.2],I e])
  han:Fn P0 20 [relV rest tl S,I k] (.tup [I n,I j])
section
variable {rest:Int} {tl:Tail} (htl:tl.isOwn=false) {S:List Sti} (hS:S.length≤1000000) (hr:relOk rest S=true) {k:Nat} (hk:k < S.length)
theorem hanC_is:hanC S k=decide (k+1 < S.length):=by
  unfold hanC isSt
  by_cases h:k+1 < S.length
  · rw [decide_eq_true h,decide_eq_true (show (0:Int)≤k by omega),decide_eq_true (show (k:Int) < S.length by omega),decide_eq_true (show (0:Int)≤(k:Int)+1 by omega),decide_eq_true (show (k:Int)+1 < S.length by omega)];rfl
  · rw [decide_eq_false h,decide_eq_false (show ¬ (k:Int)+1 < S.length by omega),Bool.and_false,Bool.and_false]
include htl hS hr hk
theorem told_no (ho:okT (tabA S rest)=false):Told rest tl S k (0,0) (0,0) (0,0) 10 0 (if k+1 < S.length then 10 else 2):=by
  have he:errT rest S (isSt S k) 0=10:=by
    unfold errT
    rw [if_neg (by rw [hr];decide),if_neg (by rw [isSt_of hk];decide),if_pos ho]
  have hj:errT rest S (hanC S k) 0=if k+1 < S.length then 10 else 2:=by
    unfold errT
    rw [if_neg (by rw [hr];decide),hanC_is]
    by_cases h:k+1 < S.length
    · rw [if_neg (by rw [decide_eq_true h];decide),if_pos ho,if_pos h]
    · rw [if_pos (decide_eq_false h),if_neg h]
  have h1:=f14 rest tl htl S hS k
  have h2:=f16t rest tl htl S hS k
  have h3:=f18t rest tl htl S hS k
  have h4:=f20 rest tl htl S hS k
  unfold onE at h1
  unfold offE at h2
  unfold lenE at h3
  unfold hanE at h4
  rw [he] at h1 h2 h3
  rw [hj] at h4
  refine ⟨h1,h2,h3,?_⟩
  rw [if_neg (by split<;>decide)] at h4
  exact h4
theorem told_is (ho:okT (tabA S rest)=true):Told rest tl S k ((tabA S rest).min (2 * k)) ((tabA S rest).min (2 * k+1)) ((tabA S rest).btw (2 * k) (2 * k+1)) 0 (if k+1 < S.length then (tabA S rest).hand k else 0) (if k+1 < S.length then 0 else 2):=by
  have he:errT rest S (isSt S k) 0=0:=errSt hr ho hk
  have hj:errT rest S (hanC S k) 0=if k+1 < S.length then 0 else 2:=by
    unfold errT
    rw [if_neg (by rw [hr];decide),hanC_is]
    by_cases h:k+1 < S.length
    · rw [if_neg (by rw [decide_eq_true h];decide),if_neg (by rw [ho];decide),if_pos h]
    · rw [if_pos (decide_eq_false h),if_neg h]
  have h1:=f14 rest tl htl S hS k
  have h2:=f16t rest tl htl S hS k
  have h3:=f18t rest tl htl S hS k
  have h4:=f20 rest tl htl S hS k
  unfold onE at h1
  unfold offE at h2
  unfold lenE at h3
  unfold hanE at h4
  rw [he] at h1 h2 h3
  rw [hj] at h4
  refine ⟨h1,h2,h3,?_⟩
  by_cases h:k+1 < S.length
  · rw [if_pos h, if_pos rfl] at h4
    rw [if_pos h,if_pos h]
    exact h4
  · rw [if_neg h, if_neg (by decide)] at h4
    rw [if_neg h,if_neg h]
    exact h4
end
theorem btw_congr {T T':Tab} (h:∀ a b,a < 11→b < 11→T a b=T' a b) {a b:Nat} (ha:a < 11) (hb:b < 11):T.btw a b=T'.btw a b :=
  Prod.ext (congrArg Neg.neg (h _ _ hb ha)) (h _ _ ha hb)
def shf (p:Int×Int) (n:Int):Int×Int:=(p.1+n,p.2+n)
def fitO (n:Int) (s:Sti):Bool:=decide (max (max (max s.b s.d) s.f) s.h+n≤600)
structure TurH (rest:Int) (tl:Tail) (S:List Sti) (k q:Nat) (y:Int) (a b c:Int×Int) (e n j d h:Int) (z:Nat):Prop where
  own:Told rest tl S k a b c e n j
  bd:(-600≤a.1∧a.1≤600)∧(-600≤a.2∧a.2≤600)∧(-600≤b.1∧b.1≤600)∧(-600≤b.2∧b.2≤600)
  gap:Fn P0 24 [relV rest tl S,I 0,I 600] (.tup [I d,I h])
  sw:Told rest .no (swpS S) k a b c e n j
  swg:Fn P0 24 [relV rest .no (swpS S),I 0,I 600] (.tup [I d,I h])
  lat:S.all (fitO y)=true→∃ a' b',Told rest .no (latS y S) k a' b' c e n j∧(e=0→a'=shf a y∧b'=shf b y)
  wid:∃ a' b' c' e' n' j',Told rest .no (freeS S (1 * 2 ^ q)) k a' b' c' e' n' j'∧(e=0→e'=0∧a'.1≤a.1∧a.2≤a'.2∧b'.1≤b.1∧b.2≤b'.2∧c'.1≤c.1∧c.2≤c'.2∧(j'=0→n'=n∨n'=1))
  cl:∃ s s' m:Nat,Fn P0 26 [relV rest tl S] (.tup [N s,I m])∧Fn P0 26 [relV rest .no (swpS S)] (.tup [N s',I m])∧s < 2 ^ 20∧s' < 2 ^ 20∧Fn P0 39 [N s] (N z)∧Fn P0 39 [N s'] (N z)
  wr:∃ s s' m u:Nat,Fn P0 28 [relV rest tl S] (.tup [N s,I m])∧Fn P0 28 [relV rest .no (swpS S)] (.tup [N s',I m])∧s < 2 ^ 20∧s' < 2 ^ 20∧Fn P0 39 [N s] (N u)∧Fn P0 39 [N s'] (N u)
section
variable {rest:Int} {tl:Tail} (htl:tl.isOwn=false) {S:List Sti} (hS:S.length≤1000000) (hr:relOk rest S=true)
include hr in
theorem mono_among:∀ X Y,Y < 2 ^ 20→Sub2 X Y→amongC (clsL S rest) X=true→amongC (clsL S rest) Y=true:=fun X Y _ hXY hX=>by
  rw [among_iff hr] at hX ⊢
  cases hY:okT (tabS S rest Y) with
  | false=>rfl
  | true=>rw [ok_mono hr (fun q _ hq=>hXY q hq) hY] at hX;cases hX
theorem sub_lt {X Y n:Nat} (h:Sub2 X Y) (hY:Y < 2 ^ n):X < 2 ^ n:=Nat.lt_pow_two_of_testBit _ fun q hq=>by
  cases hx:X.testBit q with
  | false=>rfl
  | true =>
    have h1:=h q hx
    rw [Nat.testBit_lt_two_pow (Nat.lt_of_lt_of_le hY (Nat.pow_le_pow_right (by decide) hq))] at h1
    cases h1
include hr in
theorem mono_wro:∀ X Y,Y < 2 ^ 20→Sub2 X Y→wroP (clsL S rest) X=true→wroP (clsL S rest) Y=true:=fun X Y hY hXY hX=>by
  have hS5:=(relOk_of hr).2.1
  unfold wroP at hX ⊢
  rw [clsL_len,among_iff hr,Bool.not_not] at hX ⊢
  refine ok_mono hr (fun q _ hq=>?_) hX
  rw [out_bit (by omega) (by omega)] at hq
  rw [out_bit (by omega) (by have:=sub_lt hXY hY;omega)]
  simp only [Bool.and_eq_true,Bool.not_eq_true'] at hq ⊢
  refine ⟨hq.1,?_⟩
  cases hx:X.testBit q with
  | false=>rfl
  | true=>rw [hXY q hx] at hq;cases hq.2
include hr in
theorem swe_among {Y Y':Nat} (h:SwE S.length Y Y'):amongC (clsL (swpS S) rest) Y'=amongC (clsL S rest) Y:=by
  rw [among_iff hr,among_iff (swp_ok hr),swp_okT hr h]
include hr in
theorem swe_wro {Y Y':Nat} (hY:Y < 2 ^ 20) (hY':Y' < 2 ^ 20) (h:SwE S.length Y Y'):wroP (clsL (swpS S) rest) Y'=wroP (clsL S rest) Y:=by
  have hS5:=(relOk_of hr).2.1
  unfold wroP
  rw [clsL_len,clsL_len,List.length_map]
  refine congrArg not (swe_among hr fun k o j hk ho hj=>?_)
  rw [out_bit (by omega) (by omega),out_bit (by omega) (by omega),h k o j hk ho hj,decide_eq_true (show 2 * (2 * k+o)+(1 - j) < 4 * S.length by omega),decide_eq_true (show 2 * (2 * k+o)+j < 4 * S.length by omega)]
include htl hS hr in
theorem clash_both:∃ s s' m z:Nat,Fn P0 26 [relV rest tl S] (.tup [N s,I m])∧Fn P0 26 [relV rest .no (swpS S)] (.tup [N s',I m])∧s < 2 ^ 20∧s' < 2 ^ 20∧Fn P0 39 [N s] (N z)∧Fn P0 39 [N s'] (N z):=by
  have hS5:=(relOk_of hr).2.1
  have hr':=swp_ok hr
  have hn4:=n4_lt hS5
  have h1:=clashF htl hS hr
  have h2:=clashF (tl:=.no) rfl (by simpa using hS) hr'
  have he':errC rest (swpS S)=errC rest S:=by unfold errC;rw [hr,hr',swp_okA hr]
  rw [swp_okA hr] at h2
  unfold fewE at h1 h2
  rw [he',List.length_map] at h2
  cases ho:okT (tabA S rest) with
  | true =>
    have he:errC rest S=4:=by unfold errC;rw [if_neg (by rw [hr];decide),if_pos ho]
    rw [he,ho,if_neg (by decide)] at h1 h2
    exact ⟨0,0,4,_,h1,h2,by decide,by decide,sizeF (n:=20) (by decide) (by decide),sizeF (n:=20) (by decide) (by decide)⟩
  | false =>
    have he:errC rest S=0:=by unfold errC;rw [if_neg (by rw [hr];decide),if_neg (by rw [ho];decide)]
    rw [he,ho,if_pos rfl] at h1 h2
    have hx:∃ Y,Y < 2 ^ (4 * S.length)∧amongC (clsL S rest) Y=true:=⟨2 ^ (4 * S.length) - 1,by have:0 < 2 ^ (4 * S.length):=Nat.pow_pos (by decide);omega,by rw [among_iff hr];show (!okT (tabA S rest))=true;rw [ho];rfl⟩
    obtain ⟨c1,c2,c3⟩:=few_same hS5 (mono_among hr) (mono_among hr') (fun Y Y' _ _ h=>swe_among hr h) hx
    have z1:=sizeF (n:=4 * S.length) (by omega) c1
    have z2:=sizeF (n:=4 * S.length) (by omega) c2
    rw [← c3] at z2
    exact ⟨_,_,0,_,h1,h2,by omega,by omega,z1,z2⟩
include htl hS hr in
theorem wrong_both:∃ s s' m z:Nat,Fn P0 28 [relV rest tl S] (.tup [N s,I m])∧Fn P0 28 [relV rest .no (swpS S)] (.tup [N s',I m])∧s < 2 ^ 20∧s' < 2 ^ 20∧Fn P0 39 [N s] (N z)∧Fn P0 39 [N s'] (N z):=by
  have hS5:=(relOk_of hr).2.1
  have hr':=swp_ok hr
  have hn4:=n4_lt hS5
  have h1:=f28 rest tl htl S hS
  have h2:=f28 rest .no rfl (swpS S) (by simpa using hS)
  have he':errC rest (swpS S)=errC rest S:=by unfold errC;rw [hr,hr',swp_okA hr]
  unfold fewE at h1 h2
  rw [he',List.length_map] at h2
  cases ho:okT (tabA S rest) with
  | true =>
    have he:errC rest S=4:=by unfold errC;rw [if_neg (by rw [hr];decide),if_pos ho]
    rw [he,if_neg (by decide)] at h1 h2
    exact ⟨0,0,4,_,h1,h2,by decide,by decide,sizeF (n:=20) (by decide) (by decide),sizeF (n:=20) (by decide) (by decide)⟩
  | false =>
    have he:errC rest S=0:=by unfold errC;rw [if_neg (by rw [hr];decide),if_neg (by rw [ho];decide)]
    rw [he,if_pos rfl] at h1 h2
    have hx:∃ Y,Y < 2 ^ (4 * S.length)∧wroP (clsL S rest) Y=true:=⟨2 ^ (4 * S.length) - 1,by have:0 < 2 ^ (4 * S.length):=Nat.pow_pos (by decide);omega,by
      unfold wroP
      rw [clsL_len,among_iff hr,Bool.not_not]
      refine ok_mono hr (fun q hq hb=>?_) (rules_truth hr)
      rw [out_bit (by omega) (by omega),Nat.testBit_two_pow_sub_one,decide_eq_true hq] at hb
      simp at hb⟩
    obtain ⟨c1,c2,c3⟩:=few_same hS5 (mono_wro hr) (mono_wro hr') (fun Y Y' h1 h2 h=>swe_wro hr (by omega) (by omega) h) hx
    have z1:=sizeF (n:=4 * S.length) (by omega) c1
    have z2:=sizeF (n:=4 * S.length) (by omega) c2
    rw [← c3] at z2
    exact ⟨_,_,0,_,h1,h2,by omega,by omega,z1,z2⟩
include hS hr in
theorem lat_told {k:Nat} (hk:k < S.length) {y:Int} (hy:0≤y) (hf:∀ s∈S,s.b+y≤600∧s.d+y≤600∧s.f+y≤600∧s.h+y≤600) (ho:okT (tabA S rest)=true) :
    ∃ a' b',Told rest .no (latS y S) k a' b' ((tabA S rest).btw (2 * k) (2 * k+1)) 0 (if k+1 < S.length then (tabA S rest).hand k else 0) (if k+1 < S.length then 0 else 2)∧((0:Int)=0→a'=shf ((tabA S rest).min (2 * k)) y∧b'=shf ((tabA S rest).min (2 * k+1)) y):=by
  have hS5:=(relOk_of hr).2.1
  have hky:k < (latS y S).length:=by simpa using hk
  have hSy:(latS y S).length≤1000000:=by simpa using hS
  have hly:(latS y S).length=S.length:=by simp
  have ry:=late_ok hr hy hf
  have hoy:okT (tabA (latS y S) rest)=true:=by rw [late_okA hr hy hf];exact ho
  have hL:=fun {a b:Nat} ha hb=>late_tab hr hy hf ho (a:=a) (b:=b) ha hb
  have o1:∀ m,m < 2 * S.length→offN S.length y m=y:=fun m hm=>if_pos hm
  have o2:offN S.length y 10=0:=if_neg (by omega)
  have t3:=told_is (tl:=.no) rfl hSy ry hky hoy
  rw [hly] at t3
  have bt:∀ {a b:Nat},a < 2 * S.length→b < 2 * S.length→(tabA (latS y S) rest).btw a b=(tabA S rest).btw a b:=fun ha hb=>by
    refine Prod.ext ?_ ?_
    · show -_ = -_
      rw [hL (.inl hb) (.inl ha),o1 _ ha,o1 _ hb];omega
    · show tabA (latS y S) rest _ _ = tabA S rest _ _
      rw [hL (.inl ha) (.inl hb),o1 _ ha,o1 _ hb];omega
  have f3:=bt (a:=2 * k) (b:=2 * k+1) (by omega) (by omega)
  have f4:(if k+1 < S.length then (tabA (latS y S) rest).hand k else 0)=(if k+1 < S.length then (tabA S rest).hand k else 0):=by
    split
    · unfold Tab.hand
      rw [bt (a:=2 * (k+1)) (b:=2 * k+1) (by omega) (by omega)]
    · rfl
  rw [f3,f4] at t3
  have mn:∀ {m:Nat},m < 2 * S.length→(tabA (latS y S) rest).min m=shf ((tabA S rest).min m) y:=fun {m} hm=>by
    refine Prod.ext ?_ ?_
    · show -tabA (latS y S) rest m 10 = -tabA S rest m 10 + y
      rw [hL (.inl hm) (.inr rfl),o1 _ hm,o2];omega
    · show tabA (latS y S) rest 10 m = tabA S rest 10 m + y
      rw [hL (.inr rfl) (.inl hm),o1 _ hm,o2];omega
  exact ⟨_,_,t3,fun _=>⟨mn (by omega),mn (by omega)⟩⟩
theorem hand_wide {T T':Tab} {a b:Nat} (h1:(T'.btw a b).1≤(T.btw a b).1) (h2:(T.btw a b).2≤(T'.btw a b).2) (h3:(T.btw a b).1≤(T.btw a b).2) :
    (if 0≤(T'.btw a b).1 then (2:Int) else if (T'.btw a b).2 < 0 then 0 else 1)=(if 0≤(T.btw a b).1 then 2 else if (T.btw a b).2 < 0 then 0 else 1)∨(if 0≤(T'.btw a b).1 then (2:Int) else if (T'.btw a b).2 < 0 then 0 else 1)=1:=by
  generalize (T.btw a b).1=x1 at *
  generalize (T.btw a b).2=x2 at *
  generalize (T'.btw a b).1=y1 at *
  generalize (T'.btw a b).2=y2 at *
  repeat' split
  all_goals omega
include hS hr in
theorem wid_told {k q:Nat} (hk:k < S.length) (ho:okT (tabA S rest)=true) :
    ∃ a' b' c' e' n' j',Told rest .no (freeS S (1 * 2 ^ q)) k a' b' c' e' n' j'∧((0:Int)=0→e'=0∧a'.1≤((tabA S rest).min (2 * k)).1∧((tabA S rest).min (2 * k)).2≤a'.2∧b'.1≤((tabA S rest).min (2 * k+1)).1∧((tabA S rest).min (2 * k+1)).2≤b'.2∧c'.1≤((tabA S rest).btw (2 * k) (2 * k+1)).1∧((tabA S rest).btw (2 * k) (2 * k+1)).2≤c'.2∧(j'=0→n'=(if k+1 < S.length then (tabA S rest).hand k else 0)∨n'=1)):=by
  have hS5:=(relOk_of hr).2.1
  have hlf:(freeS S (1 * 2 ^ q)).length=S.length:=freeN_len S _ _
  have hrf:=free_rel hr (1 * 2 ^ q)
  have hkf:k < (freeS S (1 * 2 ^ q)).length:=by omega
  have hof:=free_okA hr (1 * 2 ^ q) ho
  have hF:=fun {a b:Nat} ha hb=>free_tab hr (1 * 2 ^ q) ho (a:=a) (b:=b) ha hb
  have t4:=told_is (tl:=.no) rfl (by omega) hrf hkf hof
  rw [hlf] at t4
  have b1:∀ {a b:Nat},a < 11→b < 11→((tabA (freeS S (1 * 2 ^ q)) rest).btw a b).1≤((tabA S rest).btw a b).1:=fun {a b} ha hb=>by
    have:=hF hb ha
    show -_≤-_
    omega
  have b2:∀ {a b:Nat},a < 11→b < 11→((tabA S rest).btw a b).2≤((tabA (freeS S (1 * 2 ^ q)) rest).btw a b).2:=fun {a b} ha hb=>hF ha hb
  refine ⟨_,_,_,_,_,_,t4,fun _=>⟨rfl,b1 (by decide) (by omega),b2 (by decide) (by omega),b1 (by decide) (by omega),b2 (by decide) (by omega),b1 (by omega) (by omega),b2 (by omega) (by omega),fun hj=>?_⟩⟩
  by_cases h:k+1 < S.length
  · rw [if_pos h, if_pos h]
    have c1:=b1 (a:=2 * (k+1)) (b:=2 * k+1) (by omega) (by omega)
    have c2:=b2 (a:=2 * (k+1)) (b:=2 * k+1) (by omega) (by omega)
    have c3:((tabA S rest).btw (2 * (k+1)) (2 * k+1)).1≤((tabA S rest).btw (2 * (k+1)) (2 * k+1)).2:=by
      have t1:tabS S rest (allE S) (2 * (k+1)) (2 * (k+1))≤_:=short_tri ho (a:=2 * (k+1)) (b:=2 * (k+1)) (c:=2 * k+1) (by omega) (by omega) (by omega)
      have t2:=tabS_self ho (show 2 * (k+1) < 11 by omega)
      show -(tabS S rest (allE S) (2 * k+1) (2 * (k+1)))≤tabS S rest (allE S) (2 * (k+1)) (2 * k+1)
      unfold tabS at t1 t2 ⊢
      omega
    exact hand_wide c1 c2 c3
  · rw [if_neg h] at hj;cases hj
include htl hS hr in
theorem turH {k q : Nat} (hk : k < S.length) {y : Int} (hy : 0 ≤ y) : ∃ a b c e n j d h z, TurH rest tl S k q y a b c e n j d h z := by
  have hS5:=(relOk_of hr).2.1
  have hr':=swp_ok hr
  obtain ⟨s,s',m,z,cl⟩:=clash_both htl hS hr
  have hwr:=wrong_both htl hS hr
  have hfit:S.all (fitO y)=true→∀ s∈S,s.b+y≤600∧s.d+y≤600∧s.f+y≤600∧s.h+y≤600:=fun h s hs=>by
    have:=List.all_eq_true.1 h s hs
    simp only [fitO,decide_eq_true_eq] at this
    omega
  have hkx:k < (swpS S).length:=by simpa using hk
  have hky:k < (latS y S).length:=by simpa using hk
  have hlf:(freeS S (1 * 2 ^ q)).length=S.length:=freeN_len S _ _
  have hrf:=free_rel hr (1 * 2 ^ q)
  have hkf:k < (freeS S (1 * 2 ^ q)).length:=by omega
  have hSx:(swpS S).length≤1000000:=by simpa using hS
  have hSy:(latS y S).length≤1000000:=by simpa using hS
  have hlx:(swpS S).length=S.length:=by simp
  have hly:(latS y S).length=S.length:=by simp
  cases ho:okT (tabA S rest) with
  | false =>
    have hox:okT (tabA (swpS S) rest)=false:=by rw [swp_okA hr];exact ho
    have t1:=told_no htl hS hr hk ho
    have t2:=told_no (tl:=.no) rfl hSx hr' hkx hox
    rw [hlx] at t2
    refine ⟨_,_,_,_,_,_,_,_,z,t1,by decide,(gapNo htl hS hr ho (by decide)).1,t2,(gapNo (tl:=.no) rfl hSx hr' hox (by decide)).1,fun hf=>?_,?_,⟨s,s',m,cl⟩,hwr⟩
    · have ry := late_ok hr hy (hfit hf)
      have t3:=told_no (tl:=.no) rfl hSy ry hky (by rw [late_okA hr hy (hfit hf)];exact ho)
      rw [hly] at t3
      exact ⟨_,_,t3,fun h=>by cases h⟩
    · cases hof : okT (tabA (freeS S (1 * 2 ^ q)) rest) with
      | true=>exact ⟨_,_,_,_,_,_,told_is (tl:=.no) rfl (by omega) hrf hkf hof,fun h=>by cases h⟩
      | false=>exact ⟨_,_,_,_,_,_,told_no (tl:=.no) rfl (by omega) hrf hkf hof,fun h=>by cases h⟩
  | true =>
    have hox:okT (tabA (swpS S) rest)=true:=by rw [swp_okA hr];exact ho
    have hT:∀ a b,a < 11→b < 11→tabA (swpS S) rest a b=tabA S rest a b:=fun a b ha hb=>swp_tab hr ho ha hb
    have t1:=told_is htl hS hr hk ho
    have t2:=told_is (tl:=.no) rfl hSx hr' hkx hox
    rw [hlx] at t2
    have e1:(tabA (swpS S) rest).min (2 * k)=(tabA S rest).min (2 * k):=btw_congr hT (by decide) (by omega)
    have e2:(tabA (swpS S) rest).min (2 * k+1)=(tabA S rest).min (2 * k+1):=btw_congr hT (by decide) (by omega)
    have e3:(tabA (swpS S) rest).btw (2 * k) (2 * k+1)=(tabA S rest).btw (2 * k) (2 * k+1):=btw_congr hT (by omega) (by omega)
    have e4:(if k+1 < S.length then (tabA (swpS S) rest).hand k else 0)=(if k+1 < S.length then (tabA S rest).hand k else 0):=by
      split
      · unfold Tab.hand
        rw [btw_congr hT (a:=2 * (k+1)) (b:=2 * k+1) (by omega) (by omega)]
      · rfl
    rw [e1,e2,e3,e4] at t2
    have g1:=(gapIs htl hS hr ho (x:=0) (y:=600) (by decide)).1
    have hbt:∀ {m:Nat},m < 11→-600≤((tabA S rest).min m).1∧((tabA S rest).min m).1≤600:=fun {m} hm=>by
      have h1:=tabS_low ho (a:=m) (b:=10) hm (by decide)
      have h2:=tabS_wide (S:=S) (rest:=rest) (E:=allE S) (a:=m) (b:=10) hm (by decide)
      show -600≤-(tabS S rest (allE S) m 10)∧-(tabS S rest (allE S) m 10)≤600
      omega
    have hbt':∀ {m:Nat},m < 11→-600≤((tabA S rest).min m).2∧((tabA S rest).min m).2≤600:=fun {m} hm =>
      ⟨tabS_low ho (a:=10) (b:=m) (by decide) hm,tabS_wide (S:=S) (rest:=rest) (E:=allE S) (a:=10) (b:=m) (by decide) hm⟩
    have g2:=(gapIs (tl:=.no) rfl hSx hr' hox (x:=0) (y:=600) (by decide)).1
    have e5:gapM rest (swpS S) 0 600=gapM rest S 0 600:=by
      unfold gapM
      refine congrArg (fun p=>firstM p 0 600) (funext fun x=>?_)
      rw [hlx]
      exact gap_congr hT _ _ (by omega)
    rw [e5] at g2
    refine ⟨_,_,_,_,_,_,_,_,z,t1,⟨hbt (by omega),hbt' (by omega),hbt (by omega),hbt' (by omega)⟩,g1,t2,g2,fun hf=>?_,?_,⟨s,s',m,cl⟩,hwr⟩
    · exact lat_told hS hr hk hy (hfit hf) ho
    · exact wid_told hS hr hk ho
end
end Go.Pv
