/- Parts of the proof: M38, M40, M41, M52, M53, M54 -/
import Derived.Test.YtgpcfkpenkaipaaP21
set_option linter.unusedVariables false
set_option linter.unusedSimpArgs false
set_option linter.unusedSectionVars false
namespace Go.Pv
open Go.Proofs Go.Am
set_option maxRecDepth 10000
theorem range_up (n:Nat):(List.range n).Pairwise (· < ·):=List.pairwise_lt_range
theorem leastBy_first {α:Type} {R:α→α→Prop} (f:α→Int):∀ (l:List α) (a:α),(a::l).Pairwise R→∀ x∈a::l,f x≤f (leastBy f a l)→x=leastBy f a l∨R (leastBy f a l) x
  | [], a, _, x, hx, _ => by
    simp only [List.mem_singleton] at hx
    exact .inl hx
  | b :: l, a, hp, x, hx, hf => by
    obtain ⟨h1,h2⟩:=List.pairwise_cons.1 hp
    rw [leastBy_cons] at hf ⊢
    split at hf
    · next h =>
      rw [if_pos h]
      rcases List.mem_cons.1 hx with rfl | hx
      · omega
      · exact leastBy_first f l b h2 x hx hf
    · next h =>
      rw [if_neg h]
      rcases List.mem_cons.1 hx with rfl | hx
      · exact .inl rfl
      · exact .inr (h1 x hx)
end Go.Pv
namespace Go.Pv
open Go.Proofs Go.Am
set_option maxRecDepth 10000
theorem lo_all {s:Shp}:s.lo (allN s.jo.length)=true:=by
  unfold Shp.lo
  have h:lft s.jo.length (allN s.jo.length)=0:=(lft_all (by have:=Nat.two_pow_pos s.jo.length;unfold allN;omega)).2 rfl
  rw [h]
  rfl
theorem loL_iff {s:Shp} {q x:Nat}:x∈s.loL q↔x < q∧s.lo x=true:=by
  unfold Shp.loL
  rw [List.mem_filter,List.mem_range]
theorem drp_spec (s:Shp):s.drp < 2 ^ s.jo.length∧s.lo s.drp=true∧∀ y,y < 2 ^ s.jo.length→s.lo y=true→cn s.drp < cn y∨(cn s.drp=cn y∧s.drp≤y):=by
  have hall:allN s.jo.length∈s.loL (2 ^ s.jo.length):=loL_iff.2 ⟨by have:=Nat.two_pow_pos s.jo.length;unfold allN;omega,lo_all⟩
  have hup:(s.loL (2 ^ s.jo.length)).Pairwise (· < ·):=(range_up _).filter _
  have hm:∀ x,x∈s.loL (2 ^ s.jo.length)↔x < 2 ^ s.jo.length∧s.lo x=true:=fun x=>loL_iff
  unfold Shp.drp
  cases hq:s.loL (2 ^ s.jo.length) with
  | nil=>rw [hq] at hall;cases hall
  | cons a L =>
    rw [hq] at hup hm
    have h1:=(hm _).1 (leastBy_mem (fun x=>(cn x:Int)) L a)
    refine ⟨h1.1,h1.2,fun y hy hl=>?_⟩
    have h2:=leastBy_le (fun x=>(cn x:Int)) L a y ((hm y).2 ⟨hy,hl⟩)
    show cn (leastBy (fun x=>(cn x:Int)) a L) < _∨_
    by_cases he:cn (leastBy (fun x=>(cn x:Int)) a L)=cn y
    · refine .inr ⟨he, ?_⟩
      rcases leastBy_first (fun x=>(cn x:Int)) L a hup y ((hm y).2 ⟨hy,hl⟩) (by show (cn y:Int)≤_;omega) with h | h
      · exact Nat.le_of_eq h.symm
      · exact Nat.le_of_lt h
    · exact .inl (by omega)
end Go.Pv
namespace Go.Pv
open Go.Proofs Go.Am
set_option maxRecDepth 10000
section
variable {C:Cx} {F:EQ} {X:EX} {k:List KI} {e:EL} {ds:List Nat} {h:PH} {K:PV→PH→Prop} {n:Nat} {l:HL}
variable {d:Option Tmp} {type:TypeId} {pos:String} {after:Array Edge} {guard:Option (Nat×Bool)}
end
section
variable (s:Shp) {t1 t2:Tail} (h1:t1.isOwn=false) (h2:t2.isOwn=false)
include h1 h2
end
end Go.Pv
namespace Go.Pv
open Go.Proofs Go.Am
set_option maxRecDepth 10000
def kp (left n:Nat):List Nat:=(List.range n).filter fun i=>!left.testBit i
theorem kp_succ (left n:Nat):kp left (n+1)=kp left n++if left.testBit n=true then [] else [n]:=by
  unfold kp
  rw [List.range_succ,List.filter_append]
  congr 1
  cases h:left.testBit n<;>simp [h]
theorem kp_len (left:Nat):∀ n,(kp left n).length=lft n left
  | 0=>rfl
  | n + 1 => by
    rw [kp_succ,List.length_append,kp_len left n,lft]
    split<;>rfl
theorem kp_mem {left n k:Nat}:k∈kp left n↔k < n∧left.testBit k=false:=by
  unfold kp
  rw [List.mem_filter,List.mem_range]
  simp
theorem kp_at {left k:Nat} (hk:left.testBit k=false):∀ n,k < n→(kp left n)[lft k left]?=some k
  | n + 1, h => by
    rw [kp_succ]
    by_cases h1:k=n
    · subst h1
      rw [← kp_len left k,List.getElem?_append_right (Nat.le_refl _),if_neg (by rw [hk];decide),Nat.sub_self]
      rfl
    · have ih := kp_at hk n (by omega)
      rw [List.getElem?_append_left (List.getElem?_eq_some_iff.1 ih).1]
      exact ih
theorem lft_lt {left k n:Nat} (hk:left.testBit k=false) (h:k < n):lft k left < lft n left:=by
  have h1:=(List.getElem?_eq_some_iff.1 (kp_at hk n h)).1
  rwa [kp_len] at h1
theorem lft_inj {left k j:Nat} (hk:left.testBit k=false) (hj:left.testBit j=false) (he:lft k left=lft j left):k=j:=by
  have a:=kp_at hk (k+j+1) (by omega)
  have b:=kp_at hj (k+j+1) (by omega)
  rw [he,b] at a
  exact (Option.some.inj a).symm
theorem kp_num {left n q:Nat} (h:q < (kp left n).length):lft (kp left n)[q] left=q:=by
  have h1:=kp_mem.1 (List.getElem_mem h)
  have h2:=kp_at h1.2 n h1.1
  obtain ⟨h3,h4⟩:=List.getElem?_eq_some_iff.1 h2
  have hd:(kp left n).Nodup:=List.nodup_range.filter _
  exact (List.getElem_inj hd).1 h4
def rnA (left a:Nat):Nat→Nat
  | 0=>0
  | k+1=>if a.testBit k=true∧left.testBit k=false then rnA left a k ||| 1 * 2 ^ lft k left else rnA left a k
theorem rnA_bit (left a q : Nat) : ∀ n, (rnA left a n).testBit q = true ↔ ∃ k, k < n ∧ a.testBit k = true ∧ left.testBit k = false ∧ lft k left = q
  | 0=>by simp [rnA]
  | n + 1 => by
    have ih:=rnA_bit left a q n
    rw [rnA]
    by_cases h:a.testBit n=true∧left.testBit n=false
    · rw [if_pos h, or_bit, Bool.or_eq_true, ih, decide_eq_true_eq]
      constructor
      · rintro (⟨k, h1, h2⟩ | h1)
        · exact ⟨k,by omega,h2⟩
        · exact ⟨n,by omega,h.1,h.2,h1.symm ▸ rfl⟩
      · rintro ⟨k, h1, h2, h3, h4⟩
        by_cases hk:k=n
        · subst hk
          exact .inr (by rw [h4])
        · exact .inl ⟨k,by omega,h2,h3,h4⟩
    · rw [if_neg h, ih]
      constructor
      · rintro ⟨k, h1, h2⟩
        exact ⟨k,by omega,h2⟩
      · rintro ⟨k, h1, h2, h3, h4⟩
        by_cases hk:k=n
        · subst hk
          exact absurd ⟨h2,h3⟩ h
        · exact ⟨k,by omega,h2,h3,h4⟩
theorem rnA_at {left a k n:Nat} (hk:left.testBit k=false) (h:k < n):(rnA left a n).testBit (lft k left)=a.testBit k:=by
  rw [Bool.eq_iff_iff,rnA_bit]
  constructor
  · rintro ⟨j, h1, h2, h3, h4⟩
    rwa [lft_inj h3 hk h4] at h2
  · exact fun h1=>⟨k,h,h1,hk,rfl⟩
theorem rnA_lt (left a n:Nat):rnA left a n < 2 ^ lft n left:=Nat.lt_pow_two_of_testBit _ fun q hq=>by
  cases hb:(rnA left a n).testBit q with
  | false=>rfl
  | true =>
    obtain ⟨k,h1,_,h3,h4⟩:=(rnA_bit left a q n).1 hb
    have:=lft_lt h3 h1
    omega
def Job.rn (left n:Nat) (j:Job):Job:=⟨j.kd,j.lo,j.hi,j.fr,j.so,j.bt,j.co,(rnA left j.af.toNat n:Nat)⟩
def Shp.prt (s:Shp) (left:Nat):Shp:=⟨s.su,(kp left s.jo.length).map fun k=>(s.job k).rn left s.jo.length⟩
theorem prt_n (s:Shp) (left:Nat):(s.prt left).jo.length=lft s.jo.length left:=by
  unfold Shp.prt
  rw [List.length_map,kp_len]
theorem prt_job {s:Shp} {left k:Nat} (hk:left.testBit k=false) (h:k < s.jo.length):(s.prt left).job (lft k left)=(s.job k).rn left s.jo.length:=by
  show ((kp left s.jo.length).map fun k=>(s.job k).rn left s.jo.length).getD (lft k left) default=_
  rw [List.getD_eq_getElem?_getD,List.getElem?_map,kp_at hk _ h]
  rfl
theorem prt_ok {s:Shp} (hs:s.ok 30) (left:Nat):(s.prt left).ok 30:=by
  have hn:=prt_n s left
  have hle:=lft_le (J:=left) s.jo.length
  have hj6:=hs.jo
  refine ⟨hs.su,by omega,by decide,hs.sv,fun i hi=>?_⟩
  have hik:i < (kp left s.jo.length).length:=by rw [kp_len];omega
  have hkm:=kp_mem.1 (List.getElem_mem hik)
  have hkn:=kp_num hik
  have hjo:(s.prt left).jo[i]=(s.job (kp left s.jo.length)[i]).rn left s.jo.length:=by
    have h9:=List.getElem_map (fun k=>(s.job k).rn left s.jo.length) (l:=kp left s.jo.length) (i:=i) (h:=by rw [List.length_map];exact hik)
    exact h9
  generalize (kp left s.jo.length)[i]=k at *
  rw [hjo]
  have hj:=hs.job hkm.1
  refine ⟨hj.kd,hj.mi,hj.fr,hj.so,hj.bt,hj.co,Int.natCast_nonneg _,?_⟩
  show (((rnA left (s.job k).af.toNat s.jo.length:Nat):Int)).toNat < _∧(((rnA left (s.job k).af.toNat s.jo.length:Nat):Int)).toNat.testBit i=false
  rw [Int.toNat_natCast]
  refine ⟨by rw [hn];exact rnA_lt _ _ _,?_⟩
  rw [← hkn,rnA_at hkm.2 hkm.1]
  exact hj.af.2.2
structure Prl (n left:Nat) (p p':Pst):Prop where
  kd:p'.kd=p.kd
  f0:p'.f0=p.f0
  f1:p'.f1=p.f1
  J:p.J < 64
  J':p'.J < 64
  l:∀ k,k < n→left.testBit k=true→p.J.testBit k=true
  b:∀ k,k < n→left.testBit k=false→p'.J.testBit (lft k left)=p.J.testBit k
theorem and_comp {a J:Nat} (ha:a < 64) (hJ:J < 64):((((a &&& (2 ^ 64 - 1 - J):Nat)):Int)=0)↔∀ q,a.testBit q=true→J.testBit q=true:=by
  have hJ':2 ^ 64 - 1 - J=2 ^ 64 - (J+1):=by omega
  have hz:((((a &&& (2 ^ 64 - 1 - J):Nat)):Int)=0)↔a &&& (2 ^ 64 - 1 - J)=0:=by omega
  rw [hz,hJ']
  constructor
  · intro h q hq
    have h1:(a &&& (2 ^ 64 - (J+1))).testBit q=false:=by rw [h];exact Nat.zero_testBit q
    rw [Nat.testBit_and,hq,Bool.true_and,Nat.testBit_two_pow_sub_succ (Nat.lt_of_lt_of_le hJ (by decide))] at h1
    have hq6:q < 64:=by
      refine Nat.lt_of_not_le fun h2=>?_
      rw [Nat.testBit_lt_two_pow (Nat.lt_of_lt_of_le ha (Nat.le_trans (show 64≤2 ^ 64 by decide) (Nat.pow_le_pow_right (by decide) h2)))] at hq
      cases hq
    rw [decide_eq_true hq6,Bool.true_and] at h1
    cases hb:J.testBit q with
    | true=>rfl
    | false=>rw [hb] at h1;cases h1
  · intro h
    refine Nat.eq_of_testBit_eq fun q=>?_
    rw [Nat.testBit_and,Nat.testBit_two_pow_sub_succ (Nat.lt_of_lt_of_le hJ (by decide)),Nat.zero_testBit]
    cases hb:a.testBit q with
    | false=>rfl
    | true=>rw [h q hb];simp
section
variable {s:Shp} (hs:s.ok 30) {left:Nat} {p p':Pst} (hp:Prl s.jo.length left p p') {k:Nat} (hk:k < s.jo.length) (hl:left.testBit k=false)
include hs hp hk hl
theorem prl_wrk:((s.prt left).wrk p' (lft k left)).d0=(s.wrk p k).d0∧((s.prt left).wrk p' (lft k left)).d1=(s.wrk p k).d1:=by
  have hr:(s.prt left).rdy p' (s.job k).kd=s.rdy p (s.job k).kd:=by
    unfold Shp.rdy
    rw [hp.kd,hp.f0,hp.f1]
    rfl
  unfold Shp.wrk
  simp only [prt_job hl hk,Job.rn,hr,and_self]
theorem prl_early:(s.prt left).early ((s.prt left).wrk p' (lft k left))=s.early (s.wrk p k):=by
  have hj:=hs.job hk
  have h64:2 ^ s.jo.length≤2 ^ 6:=Nat.pow_le_pow_right (by decide) hs.jo
  have ha:(s.job k).af.toNat < 64:=Nat.lt_of_lt_of_le hj.af.2.1 h64
  have ha':rnA left (s.job k).af.toNat s.jo.length < 64:=Nat.lt_of_lt_of_le (rnA_lt _ _ _) (Nat.le_trans (Nat.pow_le_pow_right (by decide) (lft_le _)) h64)
  show (!decide (((((s.prt left).job (lft k left)).af.toNat &&& (2 ^ 64 - 1 - p'.J):Nat):Int)=0))=!decide ((((s.job k).af.toNat &&& (2 ^ 64 - 1 - p.J):Nat):Int)=0)
  rw [prt_job hl hk]
  show (!decide (((((rnA left (s.job k).af.toNat s.jo.length:Nat):Int).toNat &&& (2 ^ 64 - 1 - p'.J):Nat):Int)=0))=_
  rw [Int.toNat_natCast]
  refine congrArg (fun b=>!b) (decide_eq_decide.2 ?_)
  rw [and_comp ha' hp.J',and_comp ha hp.J]
  constructor
  · intro h q hq
    have hqn:q < s.jo.length:=by
      refine Nat.lt_of_not_le fun h2=>?_
      rw [Nat.testBit_lt_two_pow (Nat.lt_of_lt_of_le hj.af.2.1 (Nat.pow_le_pow_right (by decide) h2))] at hq
      cases hq
    cases hb:left.testBit q with
    | true=>exact hp.l q hqn hb
    | false =>
      rw [← hp.b q hqn hb]
      exact h _ (by rw [rnA_at hb hqn];exact hq)
  · intro h q hq
    obtain ⟨j,h1,h2,h3,rfl⟩:=(rnA_bit _ _ _ _).1 hq
    rw [hp.b j h1 h3]
    exact h j h2
theorem prl_can:(s.prt left).can p' (lft k left)=s.can p k:=by
  have hw:=prl_wrk hs hp hk hl
  have hla:(s.prt left).late ((s.prt left).wrk p' (lft k left))=s.late (s.wrk p k):=by
    show decide (((s.prt left).job (lft k left)).bt < ((s.prt left).wrk p' (lft k left)).d1)=decide ((s.job k).bt < (s.wrk p k).d1)
    rw [hw.2,prt_job hl hk]
    rfl
  unfold Shp.can
  rw [hp.b k hk hl,prl_early hs hp hk hl,hla]
theorem prl_aft:Prl s.jo.length left (s.aft (s.wrk p k)) ((s.prt left).aft ((s.prt left).wrk p' (lft k left))):=by
  have hw:=prl_wrk hs hp hk hl
  have hn6:=hs.jo
  have hl6:=lft_lt hl hk
  have hle:=lft_le (J:=left) s.jo.length
  refine ⟨?_,hw.1,hw.2,or_lt (n:=6) hp.J (show k < 6 by omega),or_lt (n:=6) hp.J' (show lft k left < 6 by omega),fun j hj hb=>?_,fun j hj hb=>?_⟩
  · show ((s.prt left).job (lft k left)).kd = (s.job k).kd
    rw [prt_job hl hk]
    rfl
  · show (p.J ||| 1 * 2 ^ k).testBit j = true
    rw [or_bit,hp.l j hj hb,Bool.true_or]
  · show (p'.J ||| 1 * 2 ^ lft k left).testBit (lft j left) = (p.J ||| 1 * 2 ^ k).testBit j
    rw [or_bit,or_bit,hp.b j hj hb]
    refine congrArg _ (decide_eq_decide.2 ⟨fun h=>?_,fun h=>?_⟩)
    · first | exact lft_inj hb hl h | exact (lft_inj hb hl h.symm).symm | exact lft_inj hl hb h
    · rw [h]
end
theorem sqs_pos (s:Shp) (m:Nat) (p:Pst):0 < (s.sqs (m+1) p).length↔∃ i,i < s.jo.length∧s.can p i=true∧0 < (s.sqs m (s.aft (s.wrk p i))).length:=by
  rw [List.length_pos_iff_exists_mem]
  simp only [Shp.sqs,List.mem_flatMap,List.mem_map]
  constructor
  · rintro ⟨x, i, hi, q, hq, _⟩
    have:=List.mem_filter.1 hi
    exact ⟨i,List.mem_range.1 this.1,this.2,List.length_pos_iff_exists_mem.2 ⟨q,hq⟩⟩
  · rintro ⟨i, h1, h2, h3⟩
    obtain ⟨q,hq⟩:=List.length_pos_iff_exists_mem.1 h3
    exact ⟨_,i,List.mem_filter.2 ⟨List.mem_range.2 h1,h2⟩,q,hq,rfl⟩
theorem prl_sqs {s : Shp} (hs : s.ok 30) {left : Nat} : ∀ (m : Nat) (p p' : Pst), Prl s.jo.length left p p' → (0 < ((s.prt left).sqs m p').length ↔ 0 < (s.sqs m p).length)
  | 0,p,p',_=>by simp [Shp.sqs]
  | m + 1, p, p', hp => by
    rw [sqs_pos,sqs_pos]
    constructor
    · rintro ⟨i, h1, h2, h3⟩
      rw [prt_n] at h1
      have hik:i < (kp left s.jo.length).length:=by rw [kp_len];exact h1
      have hkm:=kp_mem.1 (List.getElem_mem hik)
      have hkn:=kp_num hik
      generalize (kp left s.jo.length)[i]=k at *
      subst hkn
      rw [prl_can hs hp hkm.1 hkm.2] at h2
      exact ⟨k,hkm.1,h2,(prl_sqs hs m _ _ (prl_aft hs hp hkm.1 hkm.2)).1 h3⟩
    · rintro ⟨k, h1, h2, h3⟩
      cases hb:left.testBit k with
      | true =>
        unfold Shp.can at h2
        rw [hp.l k h1 hb] at h2
        cases h2
      | false =>
        refine ⟨lft k left,by rw [prt_n];exact lft_lt hb h1,by rw [prl_can hs hp h1 hb];exact h2,(prl_sqs hs m _ _ (prl_aft hs hp h1 hb)).2 h3⟩
theorem lo_prt {s:Shp} (hs:s.ok 30) {left:Nat} (hl:left < 64):s.lo left=decide (0 < (s.prt left).all.n):=by
  unfold Shp.lo Shp.all
  refine decide_eq_decide.2 ?_
  rw [prt_n]
  have h1:(s.out (lft s.jo.length left) ⟨left,-1,0,0⟩).n=(s.sqs (lft s.jo.length left) ⟨left,-1,0,0⟩).length:=olk_n _
  have h2:((s.prt left).out (lft s.jo.length left) Shp.p0).n=((s.prt left).sqs (lft s.jo.length left) Shp.p0).length:=olk_n _
  rw [h1,h2]
  refine (prl_sqs hs _ _ _ (show Prl s.jo.length left ⟨left,-1,0,0⟩ Shp.p0 from ⟨rfl,rfl,rfl,hl,by decide,fun k _ h=>h,fun k _ h=>?_⟩)).symm
  show Nat.testBit 0 _=left.testBit k
  rw [h,Nat.zero_testBit]
theorem fst_bit (s : Shp) (q : Nat) : ∀ (L : List Nat) (a : Nat), (L.foldl s.fst1 a).testBit q = true ↔ a.testBit q = true ∨ (q ∈ L ∧ 0 < (s.out (s.jo.length - 1) (s.aft (s.wrk Shp.p0 q))).n)
  | [],a=>by simp
  | i :: L, a => by
    rw [List.foldl_cons,fst_bit s q L]
    unfold Shp.fst1
    by_cases h:0 < (s.out (s.jo.length - 1) (s.aft (s.wrk Shp.p0 i))).n
    · rw [if_pos h, or_bit, Bool.or_eq_true, decide_eq_true_eq, List.mem_cons]
      constructor
      · rintro ((h1 | h1) | h1)
        · exact .inl h1
        · first | (subst h1;exact .inr ⟨.inl rfl,h⟩) | exact .inr ⟨.inl h1.symm,h1 ▸ h⟩
        · exact .inr ⟨.inr h1.1,h1.2⟩
      · rintro (h1 | ⟨h1 | h1, h2⟩)
        · exact .inl (.inl h1)
        · exact .inl (.inr (by first | exact h1 | exact h1.symm))
        · exact .inr ⟨h1,h2⟩
    · rw [if_neg h, List.mem_cons]
      constructor
      · rintro (h1 | h1)
        · exact .inl h1
        · exact .inr ⟨.inr h1.1,h1.2⟩
      · rintro (h1 | ⟨h1 | h1, h2⟩)
        · exact .inl h1
        · subst h1;exact absurd h2 h
        · exact .inr ⟨h1,h2⟩
theorem fst_iff (s:Shp) (q:Nat):s.fst.testBit q=true↔q < s.jo.length∧s.can Shp.p0 q=true∧0 < (s.out (s.jo.length - 1) (s.aft (s.wrk Shp.p0 q))).n:=by
  unfold Shp.fst
  rw [fst_bit,Nat.zero_testBit]
  unfold Shp.nxt
  rw [List.mem_filter,List.mem_range]
  simp [and_assoc]
theorem fst_pos (s:Shp):s.fst≠0↔0 < s.all.n∧0 < s.jo.length:=by
  have hz:s.fst≠0↔∃ q,s.fst.testBit q=true:=by
    constructor
    · exact fun h=>Nat.exists_testBit_of_ne_zero h
    · rintro ⟨q, hq⟩ h
      rw [h,Nat.zero_testBit] at hq
      cases hq
  rw [hz]
  have ha:s.all.n=(s.sqs s.jo.length Shp.p0).length:=olk_n _
  rw [ha]
  cases hn:s.jo.length with
  | zero =>
    constructor
    · rintro ⟨q, hq⟩
      have:=(fst_iff s q).1 hq
      omega
    · rintro ⟨_, h⟩
      exact absurd h (by decide)
  | succ m =>
    rw [sqs_pos,hn]
    have ho:∀ q,(s.out m (s.aft (s.wrk Shp.p0 q))).n=(s.sqs m (s.aft (s.wrk Shp.p0 q))).length:=fun q=>olk_n _
    constructor
    · rintro ⟨q, hq⟩
      obtain ⟨h1,h2,h3⟩:=(fst_iff s q).1 hq
      rw [hn,Nat.add_sub_cancel,ho] at h3
      exact ⟨⟨q,by omega,h2,h3⟩,by omega⟩
    · rintro ⟨⟨q, h1, h2, h3⟩, _⟩
      refine ⟨q,(fst_iff s q).2 ⟨by omega,h2,?_⟩⟩
      rw [hn,Nat.add_sub_cancel,ho]
      exact h3
theorem fst_lt (s:Shp):s.fst < 2 ^ s.jo.length:=Nat.lt_pow_two_of_testBit _ fun q hq=>by
  cases hb:s.fst.testBit q with
  | false=>rfl
  | true =>
    have:=((fst_iff s q).1 hb).1
    omega
theorem fst_af {s:Shp} (hs:s.ok 30) {q:Nat} (h:s.fst.testBit q=true):(s.job q).af=0:=by
  obtain ⟨h1,h2,_⟩:=(fst_iff s q).1 h
  have hj:=hs.job h1
  have h64:2 ^ s.jo.length≤2 ^ 6:=Nat.pow_le_pow_right (by decide) hs.jo
  unfold Shp.can at h2
  simp only [Bool.and_eq_true,Bool.not_eq_true'] at h2
  have h3:=h2.2.1
  change (!decide ((((s.job q).af.toNat &&& (2 ^ 64 - 1 - 0):Nat):Int)=0))=false at h3
  rw [Bool.not_eq_false',decide_eq_true_eq,and_comp (Nat.lt_of_lt_of_le hj.af.2.1 h64) (by decide)] at h3
  have h4:(s.job q).af.toNat=0:=Nat.eq_of_testBit_eq fun r=>by
    rw [Nat.zero_testBit]
    cases hb:(s.job q).af.toNat.testBit r with
    | false=>rfl
    | true =>
      have:=h3 r hb
      rw [Nat.zero_testBit] at this
      cases this
  have:=hj.af.1
  omega
theorem drp_zero (s:Shp):s.drp=0↔0 < s.all.n:=by
  have h0:s.lo 0=decide (0 < s.all.n):=by
    unfold Shp.lo Shp.all
    rw [lft_0]
  obtain ⟨h1,h2,h3⟩:=drp_spec s
  constructor
  · intro h
    rw [h,h0,decide_eq_true_eq] at h2
    exact h2
  · intro h
    have h4:=h3 0 (Nat.two_pow_pos _) (by rw [h0,decide_eq_true h])
    have:cn 0=0:=by decide
    omega
theorem off_bit {x i:Nat} (hx:x < 64) (hi:i < 6) (q:Nat):(x &&& (2 ^ 64 - 1 - 1 * 2 ^ i)).testBit q=(x.testBit q && !decide (i=q)):=by
  have h1:2 ^ 64 - 1 - 1 * 2 ^ i=2 ^ 64 - (2 ^ i+1):=by omega
  rw [h1,Nat.testBit_and,Nat.testBit_two_pow_sub_succ (Nat.pow_lt_pow_right (by decide) (by omega)),Nat.testBit_two_pow]
  by_cases hq:q < 64
  · rw [decide_eq_true hq,Bool.true_and]
  · rw [Nat.testBit_lt_two_pow (Nat.lt_of_lt_of_le hx (Nat.le_trans (show 64≤2 ^ 64 by decide) (Nat.pow_le_pow_right (by decide) (by omega)))),Bool.false_and,Bool.false_and]
theorem cn_less {x i:Nat} (hx:x < 64) (hi:i < 6) (h:x.testBit i=true):cn (x &&& (2 ^ 64 - 1 - 1 * 2 ^ i)) < cn x:=by
  have hb:=off_bit hx hi
  generalize (x &&& (2 ^ 64 - 1 - 1 * 2 ^ i))=y at *
  have e:x=y ||| 1 * 2 ^ i:=Nat.eq_of_testBit_eq fun q=>by
    rw [or_bit,hb]
    by_cases hq:i=q
    · subst hq
      rw [h]
      simp
    · simp [hq]
  have hy:y.testBit i=false:=by rw [hb];simp
  have h1:=lft_set hy 6 hi
  have h2:=lft_le (J:=y) 6
  unfold cn
  rw [e]
  omega
end Go.Pv
namespace Go.Pv
open Go.Proofs Go.Am
set_option maxRecDepth 10000
set_option maxHeartbeats 4000000
theorem shr_bit (x i:Nat):x >>> i &&& 1=if x.testBit i=true then 1 else 0:=by
  have h:=testBit_div x i
  rw [Nat.shiftRight_eq_div_pow,Nat.and_one_is_mod]
  have h2:x / 2 ^ i % 2 < 2:=Nat.mod_lt _ (by decide)
  by_cases h1:x / 2 ^ i % 2=1
  · rw [h, if_pos (by rw [decide_eq_true_eq]; omega)]
    exact h1
  · rw [h, if_neg (by rw [decide_eq_true_eq]; omega)]
    omega
theorem idx6 {a k:Nat} (hk:k < 6):indexK 6 false 1 k (.ptr a 0)=some (.ptr a (0+k * 1)):=by
  rcases (by omega:k=0∨k=1∨k=2∨k=3∨k=4∨k=5) with rfl | rfl | rfl | rfl | rfl | rfl<;>rfl
theorem ldI {l:HL} {a:Nat} {F:List Int} {w:Nat} (hg:hget l a=some (.cells (F.map I))) (hw:w < F.length):loadK false 1 l (.ptr a (0+w * 1))=some (I F[w]):=by
  simp only [loadK,hg]
  show nthK _ _=_
  rw [nthK_eq,Nat.zero_add,Nat.mul_one,List.getElem?_map,List.getElem?_eq_getElem hw]
  rfl
theorem putI {F:List Int} {w:Nat} {v:Int} (hw:w < F.length):pputs (F.map I) (0+w * 1) [I v]=(F.set w v).map I:=by
  unfold pputs
  rw [Nat.zero_add,Nat.mul_one,List.map_set,List.set_eq_take_append_cons_drop,if_pos (by rw [List.length_map];exact hw),List.append_assoc]
  rfl
def NU (left i:Nat):List Int:=(List.range 6).map fun k=>if k < i∧left.testBit k=false then ((lft k left:Nat):Int) else 0
theorem NU_len (left i:Nat):(NU left i).length=6:=by simp [NU]
theorem NU_at {left i k:Nat} (h:k < (NU left i).length):(NU left i)[k]=if k < i∧left.testBit k=false then ((lft k left:Nat):Int) else 0:=by
  have h9:=List.getElem_map (fun k=>if k < i∧left.testBit k=false then ((lft k left:Nat):Int) else 0) (l:=List.range 6) (i:=k) (h:=h)
  refine h9.trans ?_
  rw [List.getElem_range]
theorem NU_0 (left:Nat):NU left 0=[0,0,0,0,0,0]:=by
  refine List.ext_getElem (by rw [NU_len];rfl) fun k h1 h2=>?_
  rw [NU_at,if_neg (fun h=>absurd h.1 (Nat.not_lt_zero _))]
  have:k < 6:=h2
  rcases (by omega:k=0∨k=1∨k=2∨k=3∨k=4∨k=5) with rfl | rfl | rfl | rfl | rfl | rfl<;>rfl
theorem NU_set {left i:Nat} (hi:i < 6) (hb:left.testBit i=false):(NU left i).set i ((lft i left:Nat):Int)=NU left (i+1):=by
  refine List.ext_getElem (by rw [List.length_set,NU_len,NU_len]) fun k h1 h2=>?_
  rw [List.getElem_set,NU_at,NU_at]
  by_cases h:i=k
  · subst h
    rw [if_pos rfl,if_pos ⟨Nat.lt_succ_self _,hb⟩]
  · rw [if_neg h]
    by_cases h3:k < i∧left.testBit k=false
    · rw [if_pos h3,if_pos ⟨by omega,h3.2⟩]
    · rw [if_neg h3,if_neg (fun h4=>h3 ⟨by omega,h4.2⟩)]
theorem NU_not {left i:Nat} (hb:left.testBit i=true):NU left i=NU left (i+1):=by
  refine List.ext_getElem (by rw [NU_len,NU_len]) fun k h1 h2=>?_
  rw [NU_at,NU_at]
  by_cases h3:k < i∧left.testBit k=false
  · rw [if_pos h3,if_pos ⟨by omega,h3.2⟩]
  · rw [if_neg h3,if_neg fun h4=>h3 ⟨by
      have:k≠i:=fun h=>by subst h;rw [hb] at h4;cases h4.2
      omega,h4.2⟩]
def ljV:Nat→Option (Nat×Nat×Option Nat×List PV)→PV
  | _,none=>.sl .ex []
  | q,some (j,c,ez,_)=>.ms j 0 q c ez
def ljH (L:List Job):Option (Nat×Nat×Option Nat×List PV)→HL
  | none=>[]
  | some (j,_,_,post)=>[(j,some (.cells (flat (L.map Job.v)++post)))]
section
variable {C:Cx} {F:EQ} {X:EX} {k:List KI} {e:EL} {ds:List Nat} {K:PV→PH→Prop} {n:Nat} {l:HL}
variable {d:Option Tmp} {type:TypeId} {pos:String} {after:Array Edge} {guard:Option (Nat×Bool)}
theorem Ope.apLp {t tx sz bytes sz' bytes':Nat} {agg agg':Bool} {x y:Operand} {tl':Tail} {vs ws:List PV} [hs:Slc C.A t agg sz bytes] [hm:Mka C.A t] [hs':Slc C.A tx agg' sz' bytes'] (hx:pev (lget e) x=some (.sl .ex vs)) (hy:pev (lget e) y=some (.sl tl' ws)) (hne:ws≠[])
    (hb1:(vs.length+ws.length) * bytes≤140737488355328) (hb2:vs.length+ws.length≤1000000000) (h1:1≤sz) (hv:∀ v∈vs,v.nc=sz) (hw:∀ v∈ws,v.nc=sz∧PV.allOne v.cells=true)
    (hK:∀ c post ez,vs.length+ws.length≤c→post.length=(c - (vs.length+ws.length)) * sz→K (.ms n 0 (vs.length+ws.length) c ez) (HE (n+1) ((n,some (.cells (flat (vs++ws)++post)))::l))) :
    Ope C X { dst:=d,op:=.call { callee:=.builtin .append,args:=#[x,y],argTypes:=#[t,tx] },type,pos,after,guard } e ds (HE n l) K:=by
  obtain ⟨el,ti,q1,q2,q3,q4,q5⟩:=hs.get
  obtain ⟨d',ti',h4,h5,rfl,rfl⟩:=q2.get
  rw [q3] at h5
  cases h5
  subst q4
  obtain ⟨el',ti',q1',_⟩:=hs'.get
  obtain ⟨el2,r1,r4⟩:=hm.get
  rw [q1] at r1
  cases r1
  unfold Ope
  simp only [pop,pkind,ploud,pargs,hx,hy,PAppend,q1,q1',q3]
  refine .inr ⟨hne,hb1,hb2,h1,q5,Each.of hv,Each.of hw,.inr (.inr ⟨r4,fun c vs' p1 p2=>?_⟩)⟩
  rw [HE_add]
  exact hK c vs' _ p1 p2
theorem Ope.apLw {t tx sz bytes sz' bytes' j len cap:Nat} {agg agg':Bool} {ez:Option Nat} {x y:Operand} {tl':Tail} {vs post ws:List PV} [hs:Slc C.A t agg sz bytes] [hm:Mka C.A t] [hs':Slc C.A tx agg' sz' bytes'] (hx:pev (lget e) x=some (.ms j 0 len cap ez)) (hy:pev (lget e) y=some (.sl tl' ws))
    (hg:hget l j=some (.cells (flat vs++post))) (hlen:len=vs.length) (hlc:len≤cap) (hpl:post.length=(cap - len) * sz) (hb1:(vs.length+ws.length) * bytes≤140737488355328) (hb2:vs.length+ws.length≤1000000000)
    (hv:∀ v∈vs,v.nc=sz) (hw:∀ v∈ws,v.nc=sz∧PV.allOne v.cells=true)
    (hK:∀ (j' n' c:Nat) (ez':Option Nat) (post':List PV),n≤n'→(j'=j∨(n≤j'∧j' < n'))→vs.length+ws.length≤c→post'.length=(c - (vs.length+ws.length)) * sz→K (.ms j' 0 (vs.length+ws.length) c ez') (HE n' ((j',some (.cells (flat (vs++ws)++post')))::l))) :
    Ope C X { dst:=d,op:=.call { callee:=.builtin .append,args:=#[x,y],argTypes:=#[t,tx] },type,pos,after,guard } e ds (HE n l) K:=by
  obtain ⟨el,ti,q1,q2,q3,q4,q5⟩:=hs.get
  obtain ⟨d',ti',h4,h5,rfl,rfl⟩:=q2.get
  rw [q3] at h5
  cases h5
  subst q4
  obtain ⟨el',ti',q1',_⟩:=hs'.get
  obtain ⟨el2,r1,r4⟩:=hm.get
  rw [q1] at r1
  cases r1
  subst hlen
  unfold Ope
  simp only [pop,pkind,ploud,pargs,hx,hy,PAppend,q1,q1',q3]
  refine .inr ⟨vs,post,rfl,hlc,hg,hpl,Each.of hv,Each.of hw,hb1,hb2,r4,fun vs' p1 p2=>?_,fun c vs' p1 p2=>?_⟩
  · rw [HE_put]
    exact hK j n cap ez vs' (Nat.le_refl _) (.inl rfl) p1 p2
  · rw [HE_add]
    exact hK n (n+1) c _ vs' (Nat.le_succ _) (.inr ⟨Nat.le_refl _,Nat.lt_succ_self _⟩) p1 p2
end
section
variable (s:Shp) {t1 t2:Tail} (h1:t1.isOwn=false) (h2:t2.isOwn=false)
include h1 h2
theorem f43 (hs : s.ok 30) (left : Nat) (hl : left < 64) : ∃ tl : Tail, tl.isOwn = false ∧ Fn P0 43 [s.v t1 t2, N left] ((s.prt left).v t1 tl) := by
  have hn6:=hs.jo
  have hpo:=prt_ok hs left
  have hpn:=prt_n s left
  have hmn:=kp_len left
  have hsh:=shr_bit left
  have hshl:∀ i,left >>> i≤left:=fun i=>Nat.shiftRight_le _ _
  have hL:∀ i,i < s.jo.length→left.testBit i=false→(kp left (i+1)).map s.job=(kp left i).map s.job++[s.job i]:=fun i _ h=>by
    rw [kp_succ,if_neg (by rw [h];decide),List.map_append];rfl
  have hL':∀ i,left.testBit i=true→(kp left (i+1)).map s.job=(kp left i).map s.job:=fun i h=>by
    rw [kp_succ,if_pos h,List.append_nil]
  have hll:∀ i,((kp left i).map s.job).length=lft i left:=fun i=>by rw [List.length_map,kp_len]
  have hlS:∀ i,left.testBit i=false→lft (i+1) left=lft i left+1:=fun i h=>by rw [lft,if_neg (by rw [h];decide)]
  have hlT:∀ i,left.testBit i=true→lft (i+1) left=lft i left:=fun i h=>by rw [lft,if_pos h,Nat.add_zero]
  have hjat:∀ i (h:i < s.jo.length),s.jo[i]=s.job i:=fun i h=>(Shp.job_at h).symm
  have hbs:PV.bds 0 [s.v t1 t2]=true:=bd_shpV s h1 h2 rfl
  obtain ⟨n,hjl⟩:∃ n,s.jo.length=n:=⟨_,rfl⟩
  obtain ⟨LJ,hLJ⟩:∃ L:Nat→List Job,L=fun i=>(kp left i).map s.job:=⟨_,rfl⟩
  have hLJ0:LJ 0=[]:=by rw [hLJ];rfl
  have hLS:∀ i,i < s.jo.length→left.testBit i=false→LJ (i+1)=LJ i++[s.job i]:=hLJ ▸ hL
  have hLT:∀ i,left.testBit i=true→LJ (i+1)=LJ i:=hLJ ▸ hL'
  have hLl:∀ i,(LJ i).length=lft i left:=hLJ ▸ hll
  -- the second loop
  obtain ⟨R,hR⟩:∃ R:List Job,R=(s.prt left).jo:=⟨_,rfl⟩
  have hRl:R.length=lft n left:=by rw [hR,prt_n,hjl]
  have hRz:∀ z (h:z < R.length) (h':z < (LJ n).length),R[z]=(LJ n)[z].rn left n∧0≤(LJ n)[z].af∧(LJ n)[z].af.toNat < 64:=fun z h h'=>by
    subst hR hLJ
    have hzk:z < (kp left s.jo.length).length:=by rw [kp_len,hjl];omega
    have hm:=kp_mem.1 (List.getElem_mem hzk)
    have e1:=List.getElem_map (fun k=>(s.job k).rn left s.jo.length) (l:=kp left s.jo.length) (i:=z) (h:=by rw [List.length_map];exact hzk)
    have e2:=List.getElem_map s.job (l:=kp left s.jo.length) (i:=z) (h:=by rw [List.length_map];exact hzk)
    subst hjl
    have hj:=(hs.job hm.1).af
    have h64:2 ^ s.jo.length≤2 ^ 6:=Nat.pow_le_pow_right (by decide) hs.jo
    refine ⟨e1.trans (congrArg (fun j=>Job.rn left s.jo.length j) e2.symm),?_,?_⟩
    · exact (congrArg Job.af e2).symm ▸ hj.1
    · exact (congrArg Job.af e2).symm ▸ Nat.lt_of_lt_of_le hj.2.1 h64
  have hRe:(s.prt left).v t1=fun tl=>.agg [.sl t1 (s.su.map I),.sl tl (R.map Job.v)]:=by rw [hR];rfl
  rw [show (s.prt left).v t1=fun tl=>.agg [.sl t1 (s.su.map I),.sl tl (R.map Job.v)] from hRe]
  have hl64:∀ i,i≤6→lft i left≤6:=fun i h=>Nat.le_trans (lft_le _) h
  have hbR:∀ tl:Tail,tl.isOwn=false→PV.bd 0 (.agg [.sl t1 (s.su.map I),.sl tl (R.map Job.v)])=true:=fun tl ht=>by
    have h9:PV.bds 0 [(⟨s.su,R⟩:Shp).v t1 tl]=true:=bd_shpV ⟨s.su,R⟩ h1 ht rfl
    simp only [PV.bds,Bool.and_true] at h9
    exact h9
  clear hRe hR hLJ hpo hpn hL hL' hll
  refine ⟨if LJ n=[] then .ex else .no,by split<;>rfl,?_⟩
  refine PFun.of (C:=c43) (cx_ok _ _ _) rfl (fn:=Try.f43) (by kernel_rfl) (c:=_) rfl rfl rfl ?_
  refine Run.seq (Run.region (cx_ok _ _ _) (Reg.op rfl (Ope.boxF rfl rfl ?_)))
  refine Reg.op rfl (Ope.newL rfl ?_)
  refine Reg.nil (Run.seq (Run.region (cx_ok _ _ _) (Reg.op rfl (Ope.load rfl rfl ?_))))
  refine Reg.op rfl (Ope.newL rfl ?_)
  refine Reg.op0 (Ope.store rfl rfl hget_hd rfl rfl rfl ?_)
  refine Reg.nil (Run.seq (Run.region (cx_ok _ _ _) (Reg.op rfl (Ope.fld rfl rfl ?_))))
  refine Reg.op0 (Ope.store rfl rfl hget_hd rfl rfl rfl ?_)
  refine Reg.nil (Run.seq (Run.region (cx_ok _ _ _) (Reg.op rfl (Ope.newL rfl ?_))))
  refine Reg.nil (Run.seq (Run.seq (Run.region (cx_ok _ _ _) (Reg.op rfl (Ope.fld rfl rfl ?_)))))
  refine Reg.op rfl (Ope.load rfl rfl ?_)
  refine Reg.op rfl (Ope.len (m:=n) rfl (by simpa using hjl) ?_)
  refine Reg.op rfl (Ope.mov rfl ?_)
  refine Reg.nil (Run.block (Run.wide (m:=3) (l':=[(1,some (.cells [.sl t1 (s.su.map I),.sl .ex []])),(2,some (.cells ((NU left 0).map I))),(0,some (.cells [.sl .ex [],.sl .ex []]))]++ljH (LJ 0) none) (Nat.le_refl _) (show Hsub [(1,some (.cells [.sl t1 (s.su.map I),.sl .ex []])),(2,some (.cells ((NU left 0).map I))),(0,some (.cells [.sl .ex [],.sl .ex []]))] _ from ⟨(by repeat (first | exact hget_hd | refine (hget_tl (by omega)).trans ?_)),(by rw [NU_0];exact hget_hd),(by repeat (first | exact hget_hd | refine (hget_tl (by omega)).trans ?_)),trivial⟩) ?_))
  refine Run.loop (α:=Nat×Option (Nat×Nat×Option Nat×List PV)×Nat) (fun t=>[(1,N left),(2,.fp (s.v t1 t2)),(4,.ptr 0 0),(5,.ptr 1 0),(6,.ptr 2 0),(15,I n),(16,I t.1)]) (fun t=>HE t.2.2 ([(1,some (.cells [.sl t1 (s.su.map I),ljV (lft t.1 left) t.2.1])),(2,some (.cells ((NU left t.1).map I))),(0,some (.cells [.sl .ex [],.sl .ex []]))]++ljH (LJ t.1) t.2.1)) (fun t=>t.1≤n∧(t.2.1=none↔LJ t.1=[])∧3≤t.2.2∧∀ j c ez post,t.2.1=some (j,c,ez,post)→(3≤j∧j < t.2.2)∧lft t.1 left≤c∧post.length=(c - lft t.1 left) * 8) (fun t=>n - t.1) (0,none,3) ⟨rfl,rfl,rfl,rfl,rfl,rfl,rfl,trivial⟩ rfl ⟨Nat.zero_le _,by simp [hLJ0],by decide,fun j c ez post h=>by cases h⟩ (fun t ht=>?_)
  obtain ⟨i,st,m⟩:=t
  obtain ⟨hi,hst,hm3,hpo⟩:=ht
  simp only at hi hst hm3 hpo
  show Run _ _ _ _ [(1,N left),(2,.fp (s.v t1 t2)),(4,.ptr 0 0),(5,.ptr 1 0),(6,.ptr 2 0),(15,I n),(16,I i)] [] (HE m ([(1,some (.cells [.sl t1 (s.su.map I),ljV (lft i left) st])),(2,some (.cells ((NU left i).map I))),(0,some (.cells [.sl .ex [],.sl .ex []]))]++ljH (LJ i) st))
  rcases st with _ | ⟨j,c,ez,post⟩
  ·refine Run.seq (Run.region (cx_ok _ _ _) (Reg.op rfl (Ope.lt rfl rfl ?_)))
   refine Reg.nil (Run.seq (Run.condX rfl (fun hc=>?_) fun hc=>?_))
   ·refine Run.skip (Run.seq (Run.block (Run.seq ?_)))
    have hin:i < n:=by omega
    have hi6:i < 6:=by omega
    have hbi:=hsh i
    have hsl:=hshl i
    refine Run.region (cx_ok _ _ _) (Reg.op rfl (Ope.mov rfl ?_))
    refine Reg.op rfl (Ope.asg rfl ?_)
    refine Reg.nil (Run.seq (Run.region (cx_ok _ _ _) (Reg.op rfl (Ope.mov rfl ?_))))
    refine Reg.op rfl (Ope.mov rfl ?_)
    refine Reg.op rfl (Ope.shrN (p:=left) (m:=i) rfl rfl rfl rfl (by show i≤64;omega) ?_)
    refine Reg.op rfl (Ope.andN (p:=left >>> i) (q:=1) rfl rfl rfl rfl (by show left >>> i < 2 ^ 64;omega) (by decide) ?_)
    rw [hbi]
    refine Reg.op rfl (Ope.eq rfl rfl ?_)
    refine Reg.nil (Run.condX rfl (fun hc=>?_) fun hc=>?_)
    ·refine Run.seq ?_
     have hkept:left.testBit i=false:=by
       cases hb:left.testBit i with
       | false=>rfl
       | true=>(exfalso;rw [hb] at hc;simp at hc)
     have hNU:=NU_set hi6 hkept
     have hnl:i < (NU left i).length:=by rw [NU_len];exact hi6
     have hLSi:=hLS i (by omega) hkept
     have hlSi:=hlS i hkept
     first
     | (obtain hLe : LJ i = [] := hst.1 rfl
        have hl0:lft i left=0:=by rw [← hLl,hLe];rfl)
     | (obtain ⟨⟨hj3, hjm⟩, hpc, hpl⟩ := hpo j c ez post rfl
        have hLe:LJ i≠[]:=fun h=>by have:=hst.2 h;cases this)
     refine Run.region (cx_ok _ _ _) (Reg.op rfl (Ope.mov rfl ?_))
     refine Reg.op rfl (Ope.fld rfl rfl ?_)
     refine Reg.op rfl (Ope.load rfl rfl ?_)
     first
     | refine Reg.op rfl (Ope.lenL rfl ?_)
     | refine Reg.op rfl (Ope.len (m:=lft i left) rfl (by rw [hl0];rfl) ?_)
     refine Reg.op rfl (Ope.idxA rfl rfl rfl (idx6 hi6) ?_)
     refine Reg.op0 (Ope.storeP rfl rfl (by repeat (first | exact hget_hd | refine (hget_tl (by omega)).trans ?_)) rfl rfl (by rw [List.length_map,NU_len];show 0+i * 1+1≤6;omega) ?_)
     refine Reg.nil (Run.draw (cx_ok _ _ _) [(0,true),(1,true),(2,true),(3,true),(4,true),(5,true),(6,true),(7,true),(8,true),(9,true),(10,true)] (by kernel_rfl) (Dra.op' rfl rfl rfl .sure (Ope.fld rfl rfl ?_)))
     refine Dra.op' rfl rfl rfl .sure (Ope.load rfl rfl ?_)
     refine Dra.op' rfl rfl rfl .sure (Ope.fld rfl rfl ?_)
     refine Dra.op' rfl rfl rfl .sure (Ope.load rfl rfl ?_)
     refine Dra.op' rfl rfl rfl .sure (Ope.mov rfl ?_)
     refine Dra.op' rfl rfl rfl .sure (Ope.idxM (m:=i) (f:=Job.v) rfl rfl rfl (by omega) (fun _=>rfl) ?_)
     refine Dra.op' rfl rfl rfl .sure (Ope.load rfl rfl ?_)
     refine Dra.op' rfl rfl rfl .sure (Ope.bsl rfl rfl rfl rfl ?_)
     first
     | refine Dra.op' rfl rfl rfl .sure (Ope.apLp rfl rfl (by simp) (by simp) (by simp) (by decide) (by simp) (by intro v hv;simp only [List.mem_singleton] at hv;subst hv;exact ⟨rfl,rfl⟩) (fun c' post' ez' hc' hp'=>?_))
     | refine Dra.op' rfl rfl rfl .sure (Ope.apLw (vs:=(LJ i).map Job.v) (post:=post) rfl rfl (by repeat (first | exact hget_hd | refine (hget_tl (by omega)).trans ?_)) (by rw [List.length_map,hLl]) hpc hpl (by rw [List.length_map,hLl];have:=hl64 i (by omega);simp;omega) (by rw [List.length_map,hLl];have:=hl64 i (by omega);simp;omega) (by intro v hv;obtain ⟨_,_,rfl⟩:=List.mem_map.1 hv;rfl) (by intro v hv;simp only [List.mem_singleton] at hv;subst hv;exact ⟨rfl,rfl⟩) (fun j' n' c' ez' post' hn' hj' hc' hp'=>?_))
     refine Dra.op' rfl rfl rfl .sure (Ope.fld rfl rfl ?_)
     refine Dra.op' rfl rfl rfl .sure (Ope.store rfl rfl (by repeat (first | exact hget_hd | refine (hget_tl (by omega)).trans ?_)) rfl rfl rfl ?_)
     refine Dra.nil (Run.bend ?_)
     first
     | (have hkept' : left.testBit i = false := hkept
        have hc'':([]:List PV).length+[(s.jo[i]).v].length≤c':=hc'
        have hp'':post'.length=(c' - (([]:List PV).length+[(s.jo[i]).v].length)) * 8:=hp'
        have hl1:lft (i+1) left=1:=by rw [hlSi,hl0]
        have hLv:(LJ (i+1)).map Job.v=[]++[(s.jo[i]).v]:=by rw [hLSi,hLe,hjat i (by omega)];rfl
        refine Run.wide (m:=m+1) (l':=[(1,some (.cells [.sl t1 (s.su.map I),ljV (lft (i+1) left) (some (m,c',ez',post'))])),(2,some (.cells ((NU left (i+1)).map I))),(0,some (.cells [.sl .ex [],.sl .ex []]))]++ljH (LJ (i+1)) (some (m,c',ez',post'))) (Nat.le_refl _) (show Hsub [(1,some (.cells [.sl t1 (s.su.map I),ljV (lft (i+1) left) (some (m,c',ez',post'))])),(2,some (.cells ((NU left (i+1)).map I))),(0,some (.cells [.sl .ex [],.sl .ex []])),(m,some (.cells (flat ((LJ (i+1)).map Job.v)++post')))] _ from ⟨(by rw [hl1];exact hget_hd),(by rw [← hNU,← putI hnl];repeat (first | exact hget_hd | refine (hget_tl (by omega)).trans ?_)),(by repeat (first | exact hget_hd | refine (hget_tl (by omega)).trans ?_)),(by rw [hLv];repeat (first | exact hget_hd | refine (hget_tl (by omega)).trans ?_)),trivial⟩) ?_)
     | (have hkept' : left.testBit i = false := hkept
        have hj'':3≤j'∧j' < n':=by rcases hj' with h | h<;>omega
        have hLv:(LJ (i+1)).map Job.v=(LJ i).map Job.v++[(s.jo[i]).v]:=by rw [hLSi,List.map_append,hjat i (by omega)];rfl
        have hx1:((LJ i).map Job.v).length+[(s.jo[i]).v].length=lft (i+1) left:=by rw [hlSi,List.length_map,hLl];rfl
        have hc'':((LJ i).map Job.v).length+[(s.jo[i]).v].length≤c':=hc'
        have hp'':post'.length=(c' - (((LJ i).map Job.v).length+[(s.jo[i]).v].length)) * 8:=hp'
        rw [hx1] at hc'' hp''
        refine Run.wide (m:=n') (l':=[(1,some (.cells [.sl t1 (s.su.map I),ljV (lft (i+1) left) (some (j',c',ez',post'))])),(2,some (.cells ((NU left (i+1)).map I))),(0,some (.cells [.sl .ex [],.sl .ex []]))]++ljH (LJ (i+1)) (some (j',c',ez',post'))) (Nat.le_refl _) (show Hsub [(1,some (.cells [.sl t1 (s.su.map I),ljV (lft (i+1) left) (some (j',c',ez',post'))])),(2,some (.cells ((NU left (i+1)).map I))),(0,some (.cells [.sl .ex [],.sl .ex []])),(j',some (.cells (flat ((LJ (i+1)).map Job.v)++post')))] _ from ⟨(by rw [← hx1];exact hget_hd),(by rw [← hNU,← putI hnl];repeat (first | exact hget_hd | refine (hget_tl (by omega)).trans ?_)),(by repeat (first | exact hget_hd | refine (hget_tl (by omega)).trans ?_)),(by rw [hLv];repeat (first | exact hget_hd | refine (hget_tl (by omega)).trans ?_)),trivial⟩) ?_)
     | (have hnk : left.testBit i = true := by
          cases hb:left.testBit i with
          | true=>rfl
          | false=>(exfalso;rw [hb] at hc;simp at hc)
        have hLTi:=hLT i hnk
        have hlTi:=hlT i hnk
        have hNUi:=NU_not hnk
        rw [← hLTi,hNUi,← hlTi])
     refine Run.region (cx_ok _ _ _) (Reg.op rfl (Ope.add rfl rfl (by omega) ?_))
     refine Reg.op rfl (Ope.mov rfl ?_)
     refine Reg.nil ?_
     first
     | exact Run.lend ⟨(i+1,(some (m,c',ez',post')),m+1),by show n - (i+1) < n - i;omega,⟨by show i+1≤n;omega,by simp [hLSi],by show 3≤m+1;omega,fun j c ez post h=>by cases h;exact ⟨⟨hm3,Nat.lt_succ_self _⟩,by rw [hl1];exact hc'',by rw [hl1];exact hp''⟩⟩,⟨rfl,rfl,rfl,rfl,rfl,rfl,rfl,trivial⟩,rfl,rfl⟩
     | exact Run.lend ⟨(i+1,(some (j',c',ez',post')),n'),by show n - (i+1) < n - i;omega,⟨by show i+1≤n;omega,by simp [hLSi],by show 3≤n';omega,fun j c ez post h=>by cases h;exact ⟨hj'',hc'',hp''⟩⟩,⟨rfl,rfl,rfl,rfl,rfl,rfl,rfl,trivial⟩,rfl,rfl⟩
     | exact Run.lend ⟨(i+1,none,m),by show n - (i+1) < n - i;omega,⟨by show i+1≤n;omega,by simp only [true_iff];rw [hLTi];exact hst.1 rfl,hm3,fun j c ez post h=>by cases h⟩,⟨rfl,rfl,rfl,rfl,rfl,rfl,rfl,trivial⟩,rfl,rfl⟩
     | exact Run.lend ⟨(i+1,some (j,c,ez,post),m),by show n - (i+1) < n - i;omega,⟨by show i+1≤n;omega,by show some _=none↔_;rw [hLTi];exact hst,hm3,fun j c ez post h=>by cases h;rw [hlTi];exact hpo _ _ _ _ rfl⟩,⟨rfl,rfl,rfl,rfl,rfl,rfl,rfl,trivial⟩,rfl,rfl⟩
    ·refine Run.skip (Run.bend ?_)
     first
     | (have hkept' : left.testBit i = false := hkept
        have hc'':([]:List PV).length+[(s.jo[i]).v].length≤c':=hc'
        have hp'':post'.length=(c' - (([]:List PV).length+[(s.jo[i]).v].length)) * 8:=hp'
        have hl1:lft (i+1) left=1:=by rw [hlSi,hl0]
        have hLv:(LJ (i+1)).map Job.v=[]++[(s.jo[i]).v]:=by rw [hLSi,hLe,hjat i (by omega)];rfl
        refine Run.wide (m:=m+1) (l':=[(1,some (.cells [.sl t1 (s.su.map I),ljV (lft (i+1) left) (some (m,c',ez',post'))])),(2,some (.cells ((NU left (i+1)).map I))),(0,some (.cells [.sl .ex [],.sl .ex []]))]++ljH (LJ (i+1)) (some (m,c',ez',post'))) (Nat.le_refl _) (show Hsub [(1,some (.cells [.sl t1 (s.su.map I),ljV (lft (i+1) left) (some (m,c',ez',post'))])),(2,some (.cells ((NU left (i+1)).map I))),(0,some (.cells [.sl .ex [],.sl .ex []])),(m,some (.cells (flat ((LJ (i+1)).map Job.v)++post')))] _ from ⟨(by rw [hl1];exact hget_hd),(by rw [← hNU,← putI hnl];repeat (first | exact hget_hd | refine (hget_tl (by omega)).trans ?_)),(by repeat (first | exact hget_hd | refine (hget_tl (by omega)).trans ?_)),(by rw [hLv];repeat (first | exact hget_hd | refine (hget_tl (by omega)).trans ?_)),trivial⟩) ?_)
     | (have hkept' : left.testBit i = false := hkept
        have hj'':3≤j'∧j' < n':=by rcases hj' with h | h<;>omega
        have hLv:(LJ (i+1)).map Job.v=(LJ i).map Job.v++[(s.jo[i]).v]:=by rw [hLSi,List.map_append,hjat i (by omega)];rfl
        have hx1:((LJ i).map Job.v).length+[(s.jo[i]).v].length=lft (i+1) left:=by rw [hlSi,List.length_map,hLl];rfl
        have hc'':((LJ i).map Job.v).length+[(s.jo[i]).v].length≤c':=hc'
        have hp'':post'.length=(c' - (((LJ i).map Job.v).length+[(s.jo[i]).v].length)) * 8:=hp'
        rw [hx1] at hc'' hp''
        refine Run.wide (m:=n') (l':=[(1,some (.cells [.sl t1 (s.su.map I),ljV (lft (i+1) left) (some (j',c',ez',post'))])),(2,some (.cells ((NU left (i+1)).map I))),(0,some (.cells [.sl .ex [],.sl .ex []]))]++ljH (LJ (i+1)) (some (j',c',ez',post'))) (Nat.le_refl _) (show Hsub [(1,some (.cells [.sl t1 (s.su.map I),ljV (lft (i+1) left) (some (j',c',ez',post'))])),(2,some (.cells ((NU left (i+1)).map I))),(0,some (.cells [.sl .ex [],.sl .ex []])),(j',some (.cells (flat ((LJ (i+1)).map Job.v)++post')))] _ from ⟨(by rw [← hx1];exact hget_hd),(by rw [← hNU,← putI hnl];repeat (first | exact hget_hd | refine (hget_tl (by omega)).trans ?_)),(by repeat (first | exact hget_hd | refine (hget_tl (by omega)).trans ?_)),(by rw [hLv];repeat (first | exact hget_hd | refine (hget_tl (by omega)).trans ?_)),trivial⟩) ?_)
     | (have hnk : left.testBit i = true := by
          cases hb:left.testBit i with
          | true=>rfl
          | false=>(exfalso;rw [hb] at hc;simp at hc)
        have hLTi:=hLT i hnk
        have hlTi:=hlT i hnk
        have hNUi:=NU_not hnk
        rw [← hLTi,hNUi,← hlTi])
     refine Run.region (cx_ok _ _ _) (Reg.op rfl (Ope.add rfl rfl (by omega) ?_))
     refine Reg.op rfl (Ope.mov rfl ?_)
     refine Reg.nil ?_
     first
     | exact Run.lend ⟨(i+1,(some (m,c',ez',post')),m+1),by show n - (i+1) < n - i;omega,⟨by show i+1≤n;omega,by simp [hLSi],by show 3≤m+1;omega,fun j c ez post h=>by cases h;exact ⟨⟨hm3,Nat.lt_succ_self _⟩,by rw [hl1];exact hc'',by rw [hl1];exact hp''⟩⟩,⟨rfl,rfl,rfl,rfl,rfl,rfl,rfl,trivial⟩,rfl,rfl⟩
     | exact Run.lend ⟨(i+1,(some (j',c',ez',post')),n'),by show n - (i+1) < n - i;omega,⟨by show i+1≤n;omega,by simp [hLSi],by show 3≤n';omega,fun j c ez post h=>by cases h;exact ⟨hj'',hc'',hp''⟩⟩,⟨rfl,rfl,rfl,rfl,rfl,rfl,rfl,trivial⟩,rfl,rfl⟩
     | exact Run.lend ⟨(i+1,none,m),by show n - (i+1) < n - i;omega,⟨by show i+1≤n;omega,by simp only [true_iff];rw [hLTi];exact hst.1 rfl,hm3,fun j c ez post h=>by cases h⟩,⟨rfl,rfl,rfl,rfl,rfl,rfl,rfl,trivial⟩,rfl,rfl⟩
     | exact Run.lend ⟨(i+1,some (j,c,ez,post),m),by show n - (i+1) < n - i;omega,⟨by show i+1≤n;omega,by show some _=none↔_;rw [hLTi];exact hst,hm3,fun j c ez post h=>by cases h;rw [hlTi];exact hpo _ _ _ _ rfl⟩,⟨rfl,rfl,rfl,rfl,rfl,rfl,rfl,trivial⟩,rfl,rfl⟩
   ·refine Run.exit (Jmp.code (Jmp.round (Jmp.here (Run.seq (Run.seq ?_)))))
    first
    | (obtain rfl : i = n := by omega
       obtain hLe:LJ i=[]:=hst.1 rfl
       have hl0:lft i left=0:=by rw [← hLl,hLe];rfl)
    | (obtain rfl : i = n := by omega
       obtain ⟨⟨hj3,hjm⟩,hpc,hpl⟩:=hpo j c ez post rfl
       have hLe:LJ i≠[]:=fun h=>by have:=hst.2 h;cases this)
    refine Run.region (cx_ok _ _ _) (Reg.op rfl (Ope.fld rfl rfl ?_))
    refine Reg.op rfl (Ope.load rfl rfl ?_)
    first
    | refine Reg.op rfl (Ope.lenL rfl ?_)
    | refine Reg.op rfl (Ope.len (m:=lft i left) rfl (by rw [hl0];rfl) ?_)
    refine Reg.op rfl (Ope.mov rfl ?_)
    refine Reg.nil (Run.block ?_)
    first
    | refine Run.loop (α:=Nat) (fun z=>[(1,N left),(2,.fp (s.v t1 t2)),(4,.ptr 0 0),(5,.ptr 1 0),(6,.ptr 2 0),(42,I (lft i left:Nat)),(43,I z)]) (fun z=>HE m [(1,some (.cells [.sl t1 (s.su.map I),.ms j 0 (lft i left) c ez])),(2,some (.cells ((NU left i).map I))),(0,some (.cells [.sl .ex [],.sl .ex []])),(j,some (.cells (flat ((R.take z++(LJ i).drop z).map Job.v)++post)))]) (fun z=>z≤lft i left) (fun z=>lft i left - z) 0 ⟨rfl,rfl,rfl,rfl,rfl,rfl,rfl,trivial⟩ rfl (Nat.zero_le _) (fun z hz=>?_)
    | refine Run.loop (α:=Nat) (fun z=>[(1,N left),(2,.fp (s.v t1 t2)),(4,.ptr 0 0),(5,.ptr 1 0),(6,.ptr 2 0),(42,I (lft i left:Nat)),(43,I z)]) (fun z=>HE m [(1,some (.cells [.sl t1 (s.su.map I),.sl .ex []])),(2,some (.cells ((NU left i).map I))),(0,some (.cells [.sl .ex [],.sl .ex []]))]) (fun z=>z=0) (fun z=>0) 0 ⟨rfl,rfl,rfl,rfl,rfl,rfl,rfl,trivial⟩ rfl rfl (fun z hz=>?_)
    refine Run.seq (Run.region (cx_ok _ _ _) (Reg.op rfl (Ope.lt rfl rfl ?_)))
    refine Reg.nil (Run.seq (Run.condX rfl (fun hc=>?_) fun hc=>?_))
    ·(exfalso;omega)
    ·refine Run.exit (Jmp.code (Jmp.round (Jmp.here (Run.seq ?_))))
     first
     | (obtain rfl : z = lft i left := by omega
        rw [show R.take (lft i left)=R from List.take_of_length_le (by omega),show (LJ i).drop (lft i left)=[] from List.drop_eq_nil_of_le (by rw [hLl];omega),List.append_nil]
        refine Run.frzB (x:=1) (i:=j) (pre:=[.sl t1 (s.su.map I)]) (suf:=[]) (vs:=R.map Job.v) (post:=post) (sz:=8) rfl (by repeat (first | exact hget_hd | refine (hget_tl (by omega)).trans ?_)) (by omega) (by rw [List.length_map,hRl]) hpc (by intro v hv;obtain ⟨_,_,rfl⟩:=List.mem_map.1 hv;rfl) ?_
        refine Run.frz (d:=5) true rfl hget_hd rfl ?_)
     | (obtain rfl : z = 0 := hz
        obtain rfl:R=[]:=List.eq_nil_of_length_eq_zero (by omega)
        refine Run.frz (d:=5) true rfl hget_hd rfl ?_)
     refine Run.region (cx_ok _ _ _) (Reg.op rfl (Ope.load rfl rfl ?_))
     refine Reg.op0 (Ope.store rfl rfl (by repeat (first | exact hget_hd | refine (hget_tl (by omega)).trans ?_)) rfl rfl rfl ?_)
     refine Reg.nil (Run.ret (fin_ret (.cell rfl rfl .nil) (hbR _ (by first | rfl | (split<;>rfl))) ?_))
     first
     | (rw [if_neg hLe];rfl)
     | (rw [if_pos hLe];rfl)
  ·refine Run.seq (Run.region (cx_ok _ _ _) (Reg.op rfl (Ope.lt rfl rfl ?_)))
   refine Reg.nil (Run.seq (Run.condX rfl (fun hc=>?_) fun hc=>?_))
   ·refine Run.skip (Run.seq (Run.block (Run.seq ?_)))
    have hin:i < n:=by omega
    have hi6:i < 6:=by omega
    have hbi:=hsh i
    have hsl:=hshl i
    refine Run.region (cx_ok _ _ _) (Reg.op rfl (Ope.mov rfl ?_))
    refine Reg.op rfl (Ope.asg rfl ?_)
    refine Reg.nil (Run.seq (Run.region (cx_ok _ _ _) (Reg.op rfl (Ope.mov rfl ?_))))
    refine Reg.op rfl (Ope.mov rfl ?_)
    refine Reg.op rfl (Ope.shrN (p:=left) (m:=i) rfl rfl rfl rfl (by show i≤64;omega) ?_)
    refine Reg.op rfl (Ope.andN (p:=left >>> i) (q:=1) rfl rfl rfl rfl (by show left >>> i < 2 ^ 64;omega) (by decide) ?_)
    rw [hbi]
    refine Reg.op rfl (Ope.eq rfl rfl ?_)
    refine Reg.nil (Run.condX rfl (fun hc=>?_) fun hc=>?_)
    ·refine Run.seq ?_
     have hkept:left.testBit i=false:=by
       cases hb:left.testBit i with
       | false=>rfl
       | true=>(exfalso;rw [hb] at hc;simp at hc)
     have hNU:=NU_set hi6 hkept
     have hnl:i < (NU left i).length:=by rw [NU_len];exact hi6
     have hLSi:=hLS i (by omega) hkept
     have hlSi:=hlS i hkept
     first
     | (obtain hLe : LJ i = [] := hst.1 rfl
        have hl0:lft i left=0:=by rw [← hLl,hLe];rfl)
     | (obtain ⟨⟨hj3, hjm⟩, hpc, hpl⟩ := hpo j c ez post rfl
        have hLe:LJ i≠[]:=fun h=>by have:=hst.2 h;cases this)
     refine Run.region (cx_ok _ _ _) (Reg.op rfl (Ope.mov rfl ?_))
     refine Reg.op rfl (Ope.fld rfl rfl ?_)
     refine Reg.op rfl (Ope.load rfl rfl ?_)
     first
     | refine Reg.op rfl (Ope.lenL rfl ?_)
     | refine Reg.op rfl (Ope.len (m:=lft i left) rfl (by rw [hl0];rfl) ?_)
     refine Reg.op rfl (Ope.idxA rfl rfl rfl (idx6 hi6) ?_)
     refine Reg.op0 (Ope.storeP rfl rfl (by repeat (first | exact hget_hd | refine (hget_tl (by omega)).trans ?_)) rfl rfl (by rw [List.length_map,NU_len];show 0+i * 1+1≤6;omega) ?_)
     refine Reg.nil (Run.draw (cx_ok _ _ _) [(0,true),(1,true),(2,true),(3,true),(4,true),(5,true),(6,true),(7,true),(8,true),(9,true),(10,true)] (by kernel_rfl) (Dra.op' rfl rfl rfl .sure (Ope.fld rfl rfl ?_)))
     refine Dra.op' rfl rfl rfl .sure (Ope.load rfl rfl ?_)
     refine Dra.op' rfl rfl rfl .sure (Ope.fld rfl rfl ?_)
     refine Dra.op' rfl rfl rfl .sure (Ope.load rfl rfl ?_)
     refine Dra.op' rfl rfl rfl .sure (Ope.mov rfl ?_)
     refine Dra.op' rfl rfl rfl .sure (Ope.idxM (m:=i) (f:=Job.v) rfl rfl rfl (by omega) (fun _=>rfl) ?_)
     refine Dra.op' rfl rfl rfl .sure (Ope.load rfl rfl ?_)
     refine Dra.op' rfl rfl rfl .sure (Ope.bsl rfl rfl rfl rfl ?_)
     first
     | refine Dra.op' rfl rfl rfl .sure (Ope.apLp rfl rfl (by simp) (by simp) (by simp) (by decide) (by simp) (by intro v hv;simp only [List.mem_singleton] at hv;subst hv;exact ⟨rfl,rfl⟩) (fun c' post' ez' hc' hp'=>?_))
     | refine Dra.op' rfl rfl rfl .sure (Ope.apLw (vs:=(LJ i).map Job.v) (post:=post) rfl rfl (by repeat (first | exact hget_hd | refine (hget_tl (by omega)).trans ?_)) (by rw [List.length_map,hLl]) hpc hpl (by rw [List.length_map,hLl];have:=hl64 i (by omega);simp;omega) (by rw [List.length_map,hLl];have:=hl64 i (by omega);simp;omega) (by intro v hv;obtain ⟨_,_,rfl⟩:=List.mem_map.1 hv;rfl) (by intro v hv;simp only [List.mem_singleton] at hv;subst hv;exact ⟨rfl,rfl⟩) (fun j' n' c' ez' post' hn' hj' hc' hp'=>?_))
     refine Dra.op' rfl rfl rfl .sure (Ope.fld rfl rfl ?_)
     refine Dra.op' rfl rfl rfl .sure (Ope.store rfl rfl (by repeat (first | exact hget_hd | refine (hget_tl (by omega)).trans ?_)) rfl rfl rfl ?_)
     refine Dra.nil (Run.bend ?_)
     first
     | (have hkept' : left.testBit i = false := hkept
        have hc'':([]:List PV).length+[(s.jo[i]).v].length≤c':=hc'
        have hp'':post'.length=(c' - (([]:List PV).length+[(s.jo[i]).v].length)) * 8:=hp'
        have hl1:lft (i+1) left=1:=by rw [hlSi,hl0]
        have hLv:(LJ (i+1)).map Job.v=[]++[(s.jo[i]).v]:=by rw [hLSi,hLe,hjat i (by omega)];rfl
        refine Run.wide (m:=m+1) (l':=[(1,some (.cells [.sl t1 (s.su.map I),ljV (lft (i+1) left) (some (m,c',ez',post'))])),(2,some (.cells ((NU left (i+1)).map I))),(0,some (.cells [.sl .ex [],.sl .ex []]))]++ljH (LJ (i+1)) (some (m,c',ez',post'))) (Nat.le_refl _) (show Hsub [(1,some (.cells [.sl t1 (s.su.map I),ljV (lft (i+1) left) (some (m,c',ez',post'))])),(2,some (.cells ((NU left (i+1)).map I))),(0,some (.cells [.sl .ex [],.sl .ex []])),(m,some (.cells (flat ((LJ (i+1)).map Job.v)++post')))] _ from ⟨(by rw [hl1];exact hget_hd),(by rw [← hNU,← putI hnl];repeat (first | exact hget_hd | refine (hget_tl (by omega)).trans ?_)),(by repeat (first | exact hget_hd | refine (hget_tl (by omega)).trans ?_)),(by rw [hLv];repeat (first | exact hget_hd | refine (hget_tl (by omega)).trans ?_)),trivial⟩) ?_)
     | (have hkept' : left.testBit i = false := hkept
        have hj'':3≤j'∧j' < n':=by rcases hj' with h | h<;>omega
        have hLv:(LJ (i+1)).map Job.v=(LJ i).map Job.v++[(s.jo[i]).v]:=by rw [hLSi,List.map_append,hjat i (by omega)];rfl
        have hx1:((LJ i).map Job.v).length+[(s.jo[i]).v].length=lft (i+1) left:=by rw [hlSi,List.length_map,hLl];rfl
        have hc'':((LJ i).map Job.v).length+[(s.jo[i]).v].length≤c':=hc'
        have hp'':post'.length=(c' - (((LJ i).map Job.v).length+[(s.jo[i]).v].length)) * 8:=hp'
        rw [hx1] at hc'' hp''
        refine Run.wide (m:=n') (l':=[(1,some (.cells [.sl t1 (s.su.map I),ljV (lft (i+1) left) (some (j',c',ez',post'))])),(2,some (.cells ((NU left (i+1)).map I))),(0,some (.cells [.sl .ex [],.sl .ex []]))]++ljH (LJ (i+1)) (some (j',c',ez',post'))) (Nat.le_refl _) (show Hsub [(1,some (.cells [.sl t1 (s.su.map I),ljV (lft (i+1) left) (some (j',c',ez',post'))])),(2,some (.cells ((NU left (i+1)).map I))),(0,some (.cells [.sl .ex [],.sl .ex []])),(j',some (.cells (flat ((LJ (i+1)).map Job.v)++post')))] _ from ⟨(by rw [← hx1];exact hget_hd),(by rw [← hNU,← putI hnl];repeat (first | exact hget_hd | refine (hget_tl (by omega)).trans ?_)),(by repeat (first | exact hget_hd | refine (hget_tl (by omega)).trans ?_)),(by rw [hLv];repeat (first | exact hget_hd | refine (hget_tl (by omega)).trans ?_)),trivial⟩) ?_)
     | (have hnk : left.testBit i = true := by
          cases hb:left.testBit i with
          | true=>rfl
          | false=>(exfalso;rw [hb] at hc;simp at hc)
        have hLTi:=hLT i hnk
        have hlTi:=hlT i hnk
        have hNUi:=NU_not hnk
        rw [← hLTi,hNUi,← hlTi])
     refine Run.region (cx_ok _ _ _) (Reg.op rfl (Ope.add rfl rfl (by omega) ?_))
     refine Reg.op rfl (Ope.mov rfl ?_)
     refine Reg.nil ?_
     first
     | exact Run.lend ⟨(i+1,(some (m,c',ez',post')),m+1),by show n - (i+1) < n - i;omega,⟨by show i+1≤n;omega,by simp [hLSi],by show 3≤m+1;omega,fun j c ez post h=>by cases h;exact ⟨⟨hm3,Nat.lt_succ_self _⟩,by rw [hl1];exact hc'',by rw [hl1];exact hp''⟩⟩,⟨rfl,rfl,rfl,rfl,rfl,rfl,rfl,trivial⟩,rfl,rfl⟩
     | exact Run.lend ⟨(i+1,(some (j',c',ez',post')),n'),by show n - (i+1) < n - i;omega,⟨by show i+1≤n;omega,by simp [hLSi],by show 3≤n';omega,fun j c ez post h=>by cases h;exact ⟨hj'',hc'',hp''⟩⟩,⟨rfl,rfl,rfl,rfl,rfl,rfl,rfl,trivial⟩,rfl,rfl⟩
     | exact Run.lend ⟨(i+1,none,m),by show n - (i+1) < n - i;omega,⟨by show i+1≤n;omega,by simp only [true_iff];rw [hLTi];exact hst.1 rfl,hm3,fun j c ez post h=>by cases h⟩,⟨rfl,rfl,rfl,rfl,rfl,rfl,rfl,trivial⟩,rfl,rfl⟩
     | exact Run.lend ⟨(i+1,some (j,c,ez,post),m),by show n - (i+1) < n - i;omega,⟨by show i+1≤n;omega,by show some _=none↔_;rw [hLTi];exact hst,hm3,fun j c ez post h=>by cases h;rw [hlTi];exact hpo _ _ _ _ rfl⟩,⟨rfl,rfl,rfl,rfl,rfl,rfl,rfl,trivial⟩,rfl,rfl⟩
    ·refine Run.skip (Run.bend ?_)
     first
     | (have hkept' : left.testBit i = false := hkept
        have hc'':([]:List PV).length+[(s.jo[i]).v].length≤c':=hc'
        have hp'':post'.length=(c' - (([]:List PV).length+[(s.jo[i]).v].length)) * 8:=hp'
        have hl1:lft (i+1) left=1:=by rw [hlSi,hl0]
        have hLv:(LJ (i+1)).map Job.v=[]++[(s.jo[i]).v]:=by rw [hLSi,hLe,hjat i (by omega)];rfl
        refine Run.wide (m:=m+1) (l':=[(1,some (.cells [.sl t1 (s.su.map I),ljV (lft (i+1) left) (some (m,c',ez',post'))])),(2,some (.cells ((NU left (i+1)).map I))),(0,some (.cells [.sl .ex [],.sl .ex []]))]++ljH (LJ (i+1)) (some (m,c',ez',post'))) (Nat.le_refl _) (show Hsub [(1,some (.cells [.sl t1 (s.su.map I),ljV (lft (i+1) left) (some (m,c',ez',post'))])),(2,some (.cells ((NU left (i+1)).map I))),(0,some (.cells [.sl .ex [],.sl .ex []])),(m,some (.cells (flat ((LJ (i+1)).map Job.v)++post')))] _ from ⟨(by rw [hl1];exact hget_hd),(by rw [← hNU,← putI hnl];repeat (first | exact hget_hd | refine (hget_tl (by omega)).trans ?_)),(by repeat (first | exact hget_hd | refine (hget_tl (by omega)).trans ?_)),(by rw [hLv];repeat (first | exact hget_hd | refine (hget_tl (by omega)).trans ?_)),trivial⟩) ?_)
     | (have hkept' : left.testBit i = false := hkept
        have hj'':3≤j'∧j' < n':=by rcases hj' with h | h<;>omega
        have hLv:(LJ (i+1)).map Job.v=(LJ i).map Job.v++[(s.jo[i]).v]:=by rw [hLSi,List.map_append,hjat i (by omega)];rfl
        have hx1:((LJ i).map Job.v).length+[(s.jo[i]).v].length=lft (i+1) left:=by rw [hlSi,List.length_map,hLl];rfl
        have hc'':((LJ i).map Job.v).length+[(s.jo[i]).v].length≤c':=hc'
        have hp'':post'.length=(c' - (((LJ i).map Job.v).length+[(s.jo[i]).v].length)) * 8:=hp'
        rw [hx1] at hc'' hp''
        refine Run.wide (m:=n') (l':=[(1,some (.cells [.sl t1 (s.su.map I),ljV (lft (i+1) left) (some (j',c',ez',post'))])),(2,some (.cells ((NU left (i+1)).map I))),(0,some (.cells [.sl .ex [],.sl .ex []]))]++ljH (LJ (i+1)) (some (j',c',ez',post'))) (Nat.le_refl _) (show Hsub [(1,some (.cells [.sl t1 (s.su.map I),ljV (lft (i+1) left) (some (j',c',ez',post'))])),(2,some (.cells ((NU left (i+1)).map I))),(0,some (.cells [.sl .ex [],.sl .ex []])),(j',some (.cells (flat ((LJ (i+1)).map Job.v)++post')))] _ from ⟨(by rw [← hx1];exact hget_hd),(by rw [← hNU,← putI hnl];repeat (first | exact hget_hd | refine (hget_tl (by omega)).trans ?_)),(by repeat (first | exact hget_hd | refine (hget_tl (by omega)).trans ?_)),(by rw [hLv];repeat (first | exact hget_hd | refine (hget_tl (by omega)).trans ?_)),trivial⟩) ?_)
     | (have hnk : left.testBit i = true := by
          cases hb:left.testBit i with
          | true=>rfl
          | false=>(exfalso;rw [hb] at hc;simp at hc)
        have hLTi:=hLT i hnk
        have hlTi:=hlT i hnk
        have hNUi:=NU_not hnk
        rw [← hLTi,hNUi,← hlTi])
     refine Run.region (cx_ok _ _ _) (Reg.op rfl (Ope.add rfl rfl (by omega) ?_))
     refine Reg.op rfl (Ope.mov rfl ?_)
     refine Reg.nil ?_
     first
     | exact Run.lend ⟨(i+1,(some (m,c',ez',post')),m+1),by show n - (i+1) < n - i;omega,⟨by show i+1≤n;omega,by simp [hLSi],by show 3≤m+1;omega,fun j c ez post h=>by cases h;exact ⟨⟨hm3,Nat.lt_succ_self _⟩,by rw [hl1];exact hc'',by rw [hl1];exact hp''⟩⟩,⟨rfl,rfl,rfl,rfl,rfl,rfl,rfl,trivial⟩,rfl,rfl⟩
     | exact Run.lend ⟨(i+1,(some (j',c',ez',post')),n'),by show n - (i+1) < n - i;omega,⟨by show i+1≤n;omega,by simp [hLSi],by show 3≤n';omega,fun j c ez post h=>by cases h;exact ⟨hj'',hc'',hp''⟩⟩,⟨rfl,rfl,rfl,rfl,rfl,rfl,rfl,trivial⟩,rfl,rfl⟩
     | exact Run.lend ⟨(i+1,none,m),by show n - (i+1) < n - i;omega,⟨by show i+1≤n;omega,by simp only [true_iff];rw [hLTi];exact hst.1 rfl,hm3,fun j c ez post h=>by cases h⟩,⟨rfl,rfl,rfl,rfl,rfl,rfl,rfl,trivial⟩,rfl,rfl⟩
     | exact Run.lend ⟨(i+1,some (j,c,ez,post),m),by show n - (i+1) < n - i;omega,⟨by show i+1≤n;omega,by show some _=none↔_;rw [hLTi];exact hst,hm3,fun j c ez post h=>by cases h;rw [hlTi];exact hpo _ _ _ _ rfl⟩,⟨rfl,rfl,rfl,rfl,rfl,rfl,rfl,trivial⟩,rfl,rfl⟩
   ·refine Run.exit (Jmp.code (Jmp.round (Jmp.here (Run.seq (Run.seq ?_)))))
    first
    | (obtain rfl : i = n := by omega
       obtain hLe:LJ i=[]:=hst.1 rfl
       have hl0:lft i left=0:=by rw [← hLl,hLe];rfl)
    | (obtain rfl : i = n := by omega
       obtain ⟨⟨hj3,hjm⟩,hpc,hpl⟩:=hpo j c ez post rfl
       have hLe:LJ i≠[]:=fun h=>by have:=hst.2 h;cases this)
    refine Run.region (cx_ok _ _ _) (Reg.op rfl (Ope.fld rfl rfl ?_))
    refine Reg.op rfl (Ope.load rfl rfl ?_)
    first
    | refine Reg.op rfl (Ope.lenL rfl ?_)
    | refine Reg.op rfl (Ope.len (m:=lft i left) rfl (by rw [hl0];rfl) ?_)
    refine Reg.op rfl (Ope.mov rfl ?_)
    refine Reg.nil (Run.block ?_)
    first
    | refine Run.loop (α:=Nat) (fun z=>[(1,N left),(2,.fp (s.v t1 t2)),(4,.ptr 0 0),(5,.ptr 1 0),(6,.ptr 2 0),(42,I (lft i left:Nat)),(43,I z)]) (fun z=>HE m [(1,some (.cells [.sl t1 (s.su.map I),.ms j 0 (lft i left) c ez])),(2,some (.cells ((NU left i).map I))),(0,some (.cells [.sl .ex [],.sl .ex []])),(j,some (.cells (flat ((R.take z++(LJ i).drop z).map Job.v)++post)))]) (fun z=>z≤lft i left) (fun z=>lft i left - z) 0 ⟨rfl,rfl,rfl,rfl,rfl,rfl,rfl,trivial⟩ rfl (Nat.zero_le _) (fun z hz=>?_)
    | refine Run.loop (α:=Nat) (fun z=>[(1,N left),(2,.fp (s.v t1 t2)),(4,.ptr 0 0),(5,.ptr 1 0),(6,.ptr 2 0),(42,I (lft i left:Nat)),(43,I z)]) (fun z=>HE m [(1,some (.cells [.sl t1 (s.su.map I),.sl .ex []])),(2,some (.cells ((NU left i).map I))),(0,some (.cells [.sl .ex [],.sl .ex []]))]) (fun z=>z=0) (fun z=>0) 0 ⟨rfl,rfl,rfl,rfl,rfl,rfl,rfl,trivial⟩ rfl rfl (fun z hz=>?_)
    refine Run.seq (Run.region (cx_ok _ _ _) (Reg.op rfl (Ope.lt rfl rfl ?_)))
    refine Reg.nil (Run.seq (Run.condX rfl (fun hc=>?_) fun hc=>?_))
    ·refine Run.skip (Run.seq (Run.block (Run.seq ?_)))
     have hz6:lft i left≤6:=hl64 i (by omega)
     have hzl:z < (LJ i).length:=by rw [hLl];omega
     have hzR:z < R.length:=by rw [hRl];omega
     obtain ⟨hRz1,hRz2,hRz3⟩:=hRz z hzR hzl
     obtain ⟨a,ha⟩:∃ a:Nat,(LJ i)[z].af=(a:Int):=⟨(LJ i)[z].af.toNat,by omega⟩
     have haN:(LJ i)[z].af.toNat=a:=by omega
     have ha64:a < 64:=by omega
     obtain ⟨J,hJ⟩:∃ J,R.take z++(LJ i).drop z=J:=⟨_,rfl⟩
     have htk:(R.take z).length=z:=by rw [List.length_take];omega
     have hJl:J.length=lft i left:=by rw [← hJ,List.length_append,htk,List.length_drop,hLl];omega
     have hJz:z < J.length:=by omega
     have hdr:(LJ i).drop z=(LJ i)[z]::(LJ i).drop (z+1):=List.drop_eq_getElem_cons hzl
     have hJ1:J[z]=(LJ i)[z]:=by
       have h9:J[z]?=some (LJ i)[z]:=by
         rw [← hJ,List.getElem?_append_right (by omega),htk,Nat.sub_self,hdr]
         rfl
       exact (List.getElem?_eq_some_iff.1 h9).2
     have hJs:∀ x,J.set z x=R.take z++x::(LJ i).drop (z+1):=fun x=>by
       rw [← hJ,List.set_append_right _ _ (by omega),htk,Nat.sub_self,hdr]
       rfl
     have hJe:J.set z ((LJ i)[z].rn left i)=R.take (z+1)++(LJ i).drop (z+1):=by
       rw [hJs,← hRz1,List.take_succ_eq_append_getElem hzR,List.append_assoc]
       rfl
     rw [hJ]
     refine Run.region (cx_ok _ _ _) (Reg.op rfl (Ope.mov rfl ?_))
     refine Reg.op rfl (Ope.asg rfl ?_)
     refine Reg.nil (Run.seq (Run.region (cx_ok _ _ _) (Reg.op rfl (Ope.asg rfl ?_))))
     refine Reg.nil (Run.seq (Run.seq (Run.region (cx_ok _ _ _) (Reg.op rfl (Ope.fld rfl rfl ?_)))))
     refine Reg.op rfl (Ope.load rfl rfl ?_)
     refine Reg.op rfl (Ope.len (m:=i) rfl (by simpa using hjl) ?_)
     refine Reg.op rfl (Ope.mov rfl ?_)
     refine Reg.nil (Run.block (Run.loop (α:=Nat) (fun k=>[(1,N left),(2,.fp (s.v t1 t2)),(4,.ptr 0 0),(5,.ptr 1 0),(6,.ptr 2 0),(42,I (lft i left:Nat)),(43,I z),(8,I z),(9,N (rnA left a k)),(48,I i),(49,I k)]) (fun k=>HE m [(1,some (.cells [.sl t1 (s.su.map I),.ms j 0 (lft i left) c ez])),(2,some (.cells ((NU left i).map I))),(0,some (.cells [.sl .ex [],.sl .ex []])),(j,some (.cells (flat ((J).map Job.v)++post)))]) (fun k=>k≤i) (fun k=>i - k) 0 ⟨rfl,rfl,rfl,rfl,rfl,rfl,rfl,rfl,rfl,rfl,rfl,trivial⟩ rfl (Nat.zero_le _) (fun k hk=>?_)))
     refine Run.seq (Run.region (cx_ok _ _ _) (Reg.op rfl (Ope.lt rfl rfl ?_)))
     refine Reg.nil (Run.seq (Run.condX rfl (fun hc=>?_) fun hc=>?_))
     ·refine Run.skip (Run.seq (Run.block (Run.seq (Run.region (cx_ok _ _ _) (Reg.op rfl (Ope.mov rfl ?_))))))
      refine Reg.op rfl (Ope.asg rfl ?_)
      refine Reg.nil (Run.seq ?_)
      have hki:k < i:=by omega
      have hk6:k < 6:=by omega
      have hbk:=hsh k
      have hba:=shr_bit a k
      have hsk:=hshl k
      have hsa:a >>> k≤a:=Nat.shiftRight_le _ _
      have hkN:k < (NU left i).length:=by rw [NU_len];exact hk6
      have hg7:(flat (J.map Job.v)++post)[0+z * 8+7]?=some (I (a:Int)):=by
        rw [show 0+z * 8+7=8 * z+7 by omega,get_job post (by decide) J z hJz,hJ1,← ha]
        rfl
      refine Run.region (cx_ok _ _ _) (Reg.op rfl (Ope.fld rfl rfl ?_))
      refine Reg.op rfl (Ope.load rfl rfl ?_)
      refine Reg.op rfl (Ope.mov rfl ?_)
      refine Reg.op rfl (Ope.idxL (m:=z) rfl rfl rfl (by omega) ?_)
      refine Reg.op rfl (Ope.fld rfl rfl ?_)
      refine Reg.op rfl (Ope.loadL rfl (by repeat (first | exact hget_hd | refine (hget_tl (by omega)).trans ?_)) hg7 ?_)
      refine Reg.op rfl (Ope.mov rfl ?_)
      refine Reg.op rfl (Ope.shrN (p:=a) (m:=k) rfl rfl rfl rfl (by show k≤64;omega) ?_)
      refine Reg.op rfl (Ope.andN (p:=a >>> k) (q:=1) rfl rfl rfl rfl (by show a >>> k < 2 ^ 64;omega) (by decide) ?_)
      rw [hba]
      refine Reg.op rfl (Ope.eq rfl rfl ?_)
      refine Reg.op rfl (Ope.mov rfl ?_)
      refine Reg.splitX rfl rfl (fun hg=>?_) fun hg=>?_
      ·refine Reg.on rfl rfl rfl (Ope.mov rfl ?_)
       refine Reg.on rfl rfl rfl (Ope.mov rfl ?_)
       refine Reg.on rfl rfl rfl (Ope.shrN (p:=left) (m:=k) rfl rfl rfl rfl (by show k≤64;omega) ?_)
       refine Reg.on rfl rfl rfl (Ope.andN (p:=left >>> k) (q:=1) rfl rfl rfl rfl (by show left >>> k < 2 ^ 64;omega) (by decide) ?_)
       refine Reg.on rfl rfl rfl (Ope.eq rfl rfl ?_)
       refine Reg.op rfl (Ope.pickT rfl rfl ?_)
       refine Reg.nil (Run.condX rfl (fun hc=>?_) fun hc=>?_)
       ·have hkl:left.testBit k=false:=by
          cases hb:left.testBit k with
          | false=>rfl
          | true=>(exfalso;rw [hb] at hbk;rw [hbk] at hc;simp at hc)
        have hka:a.testBit k=true:=by
          cases hb:a.testBit k with
          | true=>rfl
          | false=>(exfalso;rw [hb] at hg;simp at hg)
        have hNk:(NU left i)[k]=((lft k left:Nat):Int):=by rw [NU_at,if_pos ⟨hki,hkl⟩]
        have hk5:lft k left < 6:=by have:=lft_le (J:=left) k;omega
        have hpw:1 * 2 ^ lft k left < 64:=by
          have:=Nat.pow_lt_pow_right (a:=2) (by decide) hk5
          omega
        have hrn:rnA left a k < 64:=by
          have h9:=rnA_lt left a k
          have h8:=Nat.pow_le_pow_right (n:=2) (by decide) (show lft k left≤6 by omega)
          omega
        have hrs:rnA left a (k+1)=rnA left a k ||| 1 * 2 ^ lft k left:=by rw [rnA,if_pos ⟨hka,hkl⟩]
        refine Run.region (cx_ok _ _ _) (Reg.op rfl (Ope.mov rfl ?_))
        refine Reg.op rfl (Ope.mov rfl ?_)
        refine Reg.op rfl (Ope.idxA rfl rfl rfl (idx6 hk6) ?_)
        refine Reg.op rfl (Ope.load rfl (show loadK false 1 _ (.ptr 2 (0+k * 1))=some (I ((lft k left:Nat):Int)) from by rw [← hNk];exact ldI rfl hkN) ?_)
        refine Reg.op rfl (Ope.shlN (p:=1) (m:=lft k left) rfl rfl rfl rfl (by omega) (by omega) ?_)
        refine Reg.op rfl (Ope.orN (p:=rnA left a k) (q:=1 * 2 ^ lft k left) rfl rfl rfl rfl (by show _ < 2 ^ 63;omega) (by show _ < 2 ^ 63;omega) ?_)
        refine Reg.op rfl (Ope.asg rfl ?_)
        refine Reg.nil (Run.bend (Run.region (cx_ok _ _ _) (Reg.op rfl (Ope.add rfl rfl (by omega) ?_))))
        refine Reg.op rfl (Ope.mov rfl ?_)
        refine Reg.nil ?_
        first
        | exact Run.lend ⟨k+1,by omega,by omega,⟨rfl,rfl,rfl,rfl,rfl,rfl,rfl,rfl,by rw [hrs];rfl,rfl,rfl,trivial⟩,rfl,rfl⟩
        | exact Run.lend ⟨k+1,by omega,by omega,⟨rfl,rfl,rfl,rfl,rfl,rfl,rfl,rfl,(by rw [show rnA left a (k+1)=rnA left a k from if_neg (fun h:a.testBit k=true∧left.testBit k=false=>by first | (rw [h.1] at hg;simp at hg;done) | (rw [h.2] at hbk;rw [hbk] at hc;simp at hc;done))];rfl),rfl,rfl,trivial⟩,rfl,rfl⟩
       ·refine Run.skip (Run.bend (Run.region (cx_ok _ _ _) (Reg.op rfl (Ope.add rfl rfl (by omega) ?_))))
        refine Reg.op rfl (Ope.mov rfl ?_)
        refine Reg.nil ?_
        first
        | exact Run.lend ⟨k+1,by omega,by omega,⟨rfl,rfl,rfl,rfl,rfl,rfl,rfl,rfl,by rw [hrs];rfl,rfl,rfl,trivial⟩,rfl,rfl⟩
        | exact Run.lend ⟨k+1,by omega,by omega,⟨rfl,rfl,rfl,rfl,rfl,rfl,rfl,rfl,(by rw [show rnA left a (k+1)=rnA left a k from if_neg (fun h:a.testBit k=true∧left.testBit k=false=>by first | (rw [h.1] at hg;simp at hg;done) | (rw [h.2] at hbk;rw [hbk] at hc;simp at hc;done))];rfl),rfl,rfl,trivial⟩,rfl,rfl⟩
      ·refine Reg.off rfl rfl rfl (Reg.off rfl rfl rfl (Reg.off rfl rfl rfl (Reg.off rfl rfl rfl (Reg.off rfl rfl rfl (Reg.op rfl (Ope.pickF rfl rfl ?_))))))
       refine Reg.nil (Run.condF rfl (Run.skip (Run.bend (Run.region (cx_ok _ _ _) (Reg.op rfl (Ope.add rfl rfl (by omega) ?_))))))
       refine Reg.op rfl (Ope.mov rfl ?_)
       refine Reg.nil ?_
       first
       | exact Run.lend ⟨k+1,by omega,by omega,⟨rfl,rfl,rfl,rfl,rfl,rfl,rfl,rfl,by rw [hrs];rfl,rfl,rfl,trivial⟩,rfl,rfl⟩
       | exact Run.lend ⟨k+1,by omega,by omega,⟨rfl,rfl,rfl,rfl,rfl,rfl,rfl,rfl,(by rw [show rnA left a (k+1)=rnA left a k from if_neg (fun h:a.testBit k=true∧left.testBit k=false=>by first | (rw [h.1] at hg;simp at hg;done) | (rw [h.2] at hbk;rw [hbk] at hc;simp at hc;done))];rfl),rfl,rfl,trivial⟩,rfl,rfl⟩
     ·refine Run.exit (Jmp.code (Jmp.round (Jmp.here ?_)))
      obtain rfl:k=i:=by omega
      refine Run.region (cx_ok _ _ _) (Reg.op rfl (Ope.fld rfl rfl ?_))
      refine Reg.op rfl (Ope.load rfl rfl ?_)
      refine Reg.op rfl (Ope.mov rfl ?_)
      refine Reg.op rfl (Ope.mov rfl ?_)
      refine Reg.op rfl (Ope.idxL (m:=z) rfl rfl rfl (by omega) ?_)
      refine Reg.op rfl (Ope.fld rfl rfl ?_)
      refine Reg.op0 (Ope.storeL rfl rfl (by repeat (first | exact hget_hd | refine (hget_tl (by omega)).trans ?_)) rfl rfl (by rw [jobs_len,hJl];show 0+z * 8+7 < 8 * lft k left+post.length;omega) ?_)
      refine Reg.nil (Run.bend ?_)
      refine Run.wide (m:=m) (l':=[(1,some (.cells [.sl t1 (s.su.map I),.ms j 0 (lft k left) c ez])),(2,some (.cells ((NU left k).map I))),(0,some (.cells [.sl .ex [],.sl .ex []])),(j,some (.cells (flat ((R.take (z+1)++(LJ k).drop (z+1)).map Job.v)++post)))]) (Nat.le_refl _) ⟨(by repeat (first | exact hget_hd | refine (hget_tl (by omega)).trans ?_)),(by repeat (first | exact hget_hd | refine (hget_tl (by omega)).trans ?_)),(by repeat (first | exact hget_hd | refine (hget_tl (by omega)).trans ?_)),(by
        refine hget_hd.trans ?_
        have h9:=set_job post (c:=7) (by decide) (x:=N (rnA left a k)) (g:=fun jb=>{ jb with af:=((rnA left a k:Nat):Int) }) (fun jb=>rfl) J z hJz
        have h8:({ J[z] with af:=((rnA left a k:Nat):Int) }:Job)=(LJ k)[z].rn left k:=by rw [hJ1];unfold Job.rn;rw [haN]
        simp only [h8,hJe] at h9
        rw [show 8 * z+7=(0+z * 8).add 7 from by show _=0+z * 8+7;omega] at h9
        exact congrArg (fun l=>some (PBlk.cells l)) h9),trivial⟩ ?_
      refine Run.region (cx_ok _ _ _) (Reg.op rfl (Ope.add rfl rfl (by omega) ?_))
      refine Reg.op rfl (Ope.mov rfl ?_)
      exact Reg.nil (Run.lend ⟨z+1,by omega,by omega,⟨rfl,rfl,rfl,rfl,rfl,rfl,rfl,trivial⟩,rfl,rfl⟩)
    ·refine Run.exit (Jmp.code (Jmp.round (Jmp.here (Run.seq ?_))))
     first
     | (obtain rfl : z = lft i left := by omega
        rw [show R.take (lft i left)=R from List.take_of_length_le (by omega),show (LJ i).drop (lft i left)=[] from List.drop_eq_nil_of_le (by rw [hLl];omega),List.append_nil]
        refine Run.frzB (x:=1) (i:=j) (pre:=[.sl t1 (s.su.map I)]) (suf:=[]) (vs:=R.map Job.v) (post:=post) (sz:=8) rfl (by repeat (first | exact hget_hd | refine (hget_tl (by omega)).trans ?_)) (by omega) (by rw [List.length_map,hRl]) hpc (by intro v hv;obtain ⟨_,_,rfl⟩:=List.mem_map.1 hv;rfl) ?_
        refine Run.frz (d:=5) true rfl hget_hd rfl ?_)
     | (obtain rfl : z = 0 := hz
        obtain rfl:R=[]:=List.eq_nil_of_length_eq_zero (by omega)
        refine Run.frz (d:=5) true rfl hget_hd rfl ?_)
     refine Run.region (cx_ok _ _ _) (Reg.op rfl (Ope.load rfl rfl ?_))
     refine Reg.op0 (Ope.store rfl rfl (by repeat (first | exact hget_hd | refine (hget_tl (by omega)).trans ?_)) rfl rfl rfl ?_)
     refine Reg.nil (Run.ret (fin_ret (.cell rfl rfl .nil) (hbR _ (by first | rfl | (split<;>rfl))) ?_))
     first
     | (rw [if_neg hLe];rfl)
     | (rw [if_pos hLe];rfl)
end
end Go.Pv
namespace Go.Pv
open Go.Proofs Go.Am
set_option maxRecDepth 10000
set_option maxHeartbeats 4000000
section
variable (s:Shp) {t1 t2:Tail} (h1:t1.isOwn=false) (h2:t2.isOwn=false)
include h1 h2
theorem f42 (hs:s.ok 30) (left:Nat) (hl:left < 64):Fn P0 42 [N left,.fp (s.v t1 t2)] (B (s.lo left)):=by
  obtain ⟨tl,htl,hpt⟩:=f43 s h1 h2 hs left hl
  have hx:=prt_ok hs left
  have hlo:=lo_prt hs hl
  have hbs:PV.bds 0 [s.v t1 t2,N left]=true:=bd_shpV s h1 h2 rfl
  generalize s.prt left=x at *
  have hvx:=ok_val hx
  have hco:=f20ok x h1 htl hvx hx
  have hbx:PV.bds 0 [x.v t1 tl]=true:=bd_shpV x h1 htl rfl
  generalize x.all.n=m at *
  rw [hlo]
  refine PFun.of (C:=c42) (cx_ok _ _ _) rfl (fn:=Try.f42) (by kernel_rfl) (c:=_) rfl rfl rfl ?_
  refine Run.seq (Run.region (cx_ok _ _ _) (Reg.op rfl (Ope.asg rfl ?_)))
  refine Reg.nil (Run.seq (Run.region (cx_ok _ _ _) (Reg.op rfl (Ope.load rfl rfl ?_))))
  refine Reg.op rfl (Ope.mov rfl ?_)
  refine Reg.op rfl (Ope.cf rfl rfl hpt hbs ?_)
  refine Reg.op rfl (Ope.cf rfl rfl hco hbx ?_)
  refine Reg.op rfl (Ope.mov rfl ?_)
  refine Reg.op rfl (Ope.ext rfl rfl ?_)
  refine Reg.op rfl (Ope.ext rfl rfl ?_)
  refine Reg.op rfl (Ope.asg rfl ?_)
  refine Reg.op rfl (Ope.asg rfl ?_)
  refine Reg.nil (Run.seq (Run.region (cx_ok _ _ _) (Reg.op rfl (Ope.mov rfl ?_))))
  refine Reg.op rfl (Ope.eq rfl rfl ?_)
  refine Reg.op rfl (Ope.mov rfl ?_)
  refine Reg.splitX rfl rfl (fun hg=>?_) fun hg=>?_
  ·refine Reg.on rfl rfl rfl (Ope.mov rfl ?_)
   refine Reg.on rfl rfl rfl (Ope.gt rfl rfl ?_)
   refine Reg.op rfl (Ope.pickT rfl rfl ?_)
   refine Reg.op rfl (Ope.asg rfl ?_)
   refine Reg.nil (Run.ret (fin_ret (.tmp rfl .nil) rfl ?_))
   (show B (decide ((m:Int) > 0))=B (decide (0 < m));rw [decide_eq_decide.2 (show ((m:Int) > 0)↔0 < m from by omega)])
  ·(first | (exfalso;omega) | (exfalso;simp at hg;done))
theorem f9n (hi:s.i64) (a:PV) (hv:s.val=false):Fn P0 9 [s.v t1 t2,a] (B true):=by
  have hfi:=f33 s h1 h2 hi
  rw [hv] at hfi
  have hbs:PV.bds 0 [s.v t1 t2]=true:=bd_shpV s h1 h2 rfl
  refine PFun.of (C:=c9) (cx_ok _ _ _) rfl (fn:=Try.f9) (by kernel_rfl) (c:=_) rfl rfl rfl ?_
  refine Run.seq (Run.region (cx_ok _ _ _) (Reg.op rfl (Ope.boxF rfl rfl ?_)))
  refine Reg.op rfl (Ope.asg rfl ?_)
  refine Reg.nil (Run.seq (Run.seq (Run.region (cx_ok _ _ _) (Reg.op rfl (Ope.load rfl rfl ?_)))))
  refine Reg.op rfl (Ope.cf rfl rfl hfi hbs ?_)
  refine Reg.op rfl (Ope.not rfl ?_)
  refine Reg.nil (Run.condX rfl (fun hc=>?_) fun hc=>?_)
  ·refine Run.seq (Run.region (cx_ok _ _ _) (Reg.op rfl (Ope.cf rfl rfl (awakeF) rfl ?_)))
   refine Reg.op rfl (Ope.asg rfl ?_)
   exact Reg.nil (Run.ret (Jmp.code (fin_ret (.tmp rfl .nil) rfl rfl)))
  ·cases hc
theorem f9y (hi : s.i64) (hv : s.val = true) (w : Nat) (hw : w < 256) : Fn P0 9 [s.v t1 t2, U8 w] (B true) := by
  have hfi:=f33 s h1 h2 hi
  rw [hv] at hfi
  have hs:=val_ok hi hv
  have hn6:=hs.jo
  have hbs:PV.bds 0 [s.v t1 t2]=true:=bd_shpV s h1 h2 rfl
  have hbc:∀ x:Nat,PV.bds 0 [N x,.fp (s.v t1 t2)]=true:=fun x=>by
    have e2:PV.bd 0 (.fp (s.v t1 t2))=true:=by rw [PV.bd];exact bd_shv s h1 h2
    exact bds_cons rfl (bds_cons e2 rfl)
  have hdr:=f30ok s h1 h2 hv hs
  have hco:=f20ok s h1 h2 hv hs
  have hft:=f22ok s h1 h2 hv hs
  have hcan:=f42 s h1 h2 hs
  have h64:2 ^ s.jo.length≤64:=Nat.pow_le_pow_right (n:=2) (by decide) hn6
  obtain ⟨hd1,hd2,hd3⟩:=drp_spec s
  have hdz:=drp_zero s
  have hfp:=fst_pos s
  have hfl:=fst_lt s
  have hfa:∀ i (h:i < s.jo.length),s.fst.testBit i=true→s.jo[i].af=0:=fun i h hb=>by
    rw [← Shp.job_at h];exact fst_af hs hb
  have hnl:∀ i,i < s.jo.length→s.drp.testBit i=true→Fn P0 42 [N (s.drp &&& (2 ^ 64 - 1 - 1 * 2 ^ i)),.fp (s.v t1 t2)] (B false):=fun i h hb=>by
    have hle:s.drp &&& (2 ^ 64 - 1 - 1 * 2 ^ i)≤s.drp:=Nat.and_le_left
    have h9:=hcan (s.drp &&& (2 ^ 64 - 1 - 1 * 2 ^ i)) (by omega)
    cases hlo:s.lo (s.drp &&& (2 ^ 64 - 1 - 1 * 2 ^ i)) with
    | false=>rw [hlo] at h9;exact h9
    | true =>
      have h8:=cn_less (by omega) (by omega) hb
      rcases hd3 _ (by omega) hlo with h | h<;>omega
  have hbD:=shr_bit s.drp
  have hbF:=shr_bit s.fst
  have hsD:∀ i,s.drp >>> i≤s.drp:=fun i=>Nat.shiftRight_le _ _
  have hsF:∀ i,s.fst >>> i≤s.fst:=fun i=>Nat.shiftRight_le _ _
  obtain ⟨E,hE⟩:∃ E:Nat,1 * 2 ^ s.jo.length - 1=E:=⟨_,rfl⟩
  have hp0:0 < 2 ^ s.jo.length:=Nat.two_pow_pos _
  have hE1:((1 * 2 ^ s.jo.length:Nat):Int) - 1=(E:Int):=by omega
  have hE2:E < 64:=by omega
  have hE3:s.drp≤E:=by omega
  have hEb:∀ q,E.testBit q=decide (q < s.jo.length):=fun q=>by
    rw [← hE,Nat.one_mul,Nat.testBit_two_pow_sub_one]
  have hfe:((s.fst &&& (2 ^ 64 - 1 - E):Nat):Int)=0:=(and_comp (by omega) hE2).2 fun q hq=>by
    rw [hEb,decide_eq_true_eq]
    exact ((fst_iff s q).1 hq).1
  obtain ⟨own,hown⟩:∃ x,w &&& E=x:=⟨_,rfl⟩
  have howE:own≤E:=hown ▸ Nat.and_le_right
  have hmin:s.lo own=true→cn s.drp < cn own∨(cn s.drp=cn own∧s.drp≤own):=fun h=>hd3 own (by omega) h
  have hcD:=hcan s.drp (by omega)
  rw [hd2] at hcD
  have hcO:=hcan own (by omega)
  have hzD:=f44 s.drp (by omega)
  have hzO:=f44 own (by omega)
  have hF64:s.fst < 64:=by omega
  have hD64:s.drp < 64:=by omega
  obtain ⟨n,hjl⟩:∃ n,s.jo.length=n:=⟨_,rfl⟩
  rw [hjl] at hfp hE1 hn6
  have hlq:∀ i,i < n→1 * 2 ^ i < 64:=fun i h=>by
    have:=Nat.pow_lt_pow_right (a:=2) (by decide) (show i < 6 by omega)
    omega
  have hzc:((s.drp:Int)=0)↔(0 < (s.all.n:Int)):=by
    have:=hdz
    constructor
    · intro h
      have:=hdz.1 (by omega)
      omega
    · intro h
      have:=hdz.2 (by omega)
      omega
  have hfc1:0 < s.all.n→decide ((s.fst:Int)≠0)=decide (0 < (n:Int)):=fun h=>decide_eq_decide.2 ⟨fun h2=>by
    have:=(hfp.1 (fun h3=>h2 (by omega))).2
    omega,fun h2 h3=>hfp.2 ⟨h,by omega⟩ (by omega)⟩
  have hfc2:¬ 0 < s.all.n→decide ((s.fst:Int)≠0)=false:=fun h=>decide_eq_false fun h2=>h (hfp.1 (fun h3=>h2 (by omega))).1
  generalize s.lo own=lw at *
  generalize cn s.drp=cd at *
  generalize cn own=cw at *
  generalize s.all.n=na at *
  generalize s.drp=D at *
  generalize s.fst=G at *
  clear hd1 hd2 hd3 hcan hfl
  refine PFun.of (C:=c9) (cx_ok _ _ _) rfl (fn:=Try.f9) (by kernel_rfl) (c:=_) rfl rfl rfl ?_
  refine Run.seq (Run.region (cx_ok _ _ _) (Reg.op rfl (Ope.boxF rfl rfl ?_)))
  refine Reg.op rfl (Ope.asg rfl ?_)
  refine Reg.nil (Run.seq (Run.seq (Run.region (cx_ok _ _ _) (Reg.op rfl (Ope.load rfl rfl ?_)))))
  refine Reg.op rfl (Ope.cf rfl rfl hfi hbs ?_)
  refine Reg.op rfl (Ope.not rfl ?_)
  refine Reg.nil (Run.condX rfl (fun hc=>?_) fun hc=>?_)
  ·cases hc
  ·refine Run.skip (Run.seq (Run.region (cx_ok _ _ _) (Reg.op rfl (Ope.load rfl rfl ?_))))
   refine Reg.op rfl (Ope.cf rfl rfl hdr hbs ?_)
   refine Reg.op rfl (Ope.mov rfl ?_)
   refine Reg.op rfl (Ope.ext rfl rfl ?_)
   refine Reg.op rfl (Ope.ext rfl rfl ?_)
   refine Reg.op rfl (Ope.asg rfl ?_)
   refine Reg.op rfl (Ope.asg rfl ?_)
   refine Reg.nil (Run.seq (Run.region (cx_ok _ _ _) (Reg.op rfl (Ope.load rfl rfl ?_))))
   refine Reg.op rfl (Ope.cf rfl rfl hco hbs ?_)
   refine Reg.op rfl (Ope.mov rfl ?_)
   refine Reg.op rfl (Ope.ext rfl rfl ?_)
   refine Reg.op rfl (Ope.ext rfl rfl ?_)
   refine Reg.op rfl (Ope.asg rfl ?_)
   refine Reg.op rfl (Ope.asg rfl ?_)
   refine Reg.nil (Run.seq (Run.region (cx_ok _ _ _) (Reg.op rfl (Ope.load rfl rfl ?_))))
   refine Reg.op rfl (Ope.cf rfl rfl hft hbs ?_)
   refine Reg.op rfl (Ope.mov rfl ?_)
   refine Reg.op rfl (Ope.ext rfl rfl ?_)
   refine Reg.op rfl (Ope.ext rfl rfl ?_)
   refine Reg.op rfl (Ope.asg rfl ?_)
   refine Reg.op rfl (Ope.asg rfl ?_)
   refine Reg.nil (Run.seq (Run.region (cx_ok _ _ _) (Reg.op rfl (Ope.fld rfl rfl ?_))))
   refine Reg.op rfl (Ope.load rfl rfl ?_)
   refine Reg.op rfl (Ope.len (m:=n) rfl (by simpa using hjl) ?_)
   refine Reg.op rfl (Ope.shlN (p:=1) (m:=n) rfl rfl rfl rfl (by omega) (by have:=h64;rw [hjl] at this;omega) ?_)
   refine Reg.op rfl (Ope.sub rfl rfl (by rw [hE1];omega) ?_)
   rw [hE1]
   refine Reg.op rfl (Ope.asg rfl ?_)
   refine Reg.nil (Run.seq (Run.region (cx_ok _ _ _) (Reg.op rfl (Ope.mkf rfl rfl ?_))))
   refine Reg.op rfl (Ope.asg rfl ?_)
   refine Reg.nil (Run.seq (Run.seq (Run.cut (fun e' d' h'=>Lsub [(1,U8 w),(2,.fp (s.v t1 t2)),(5,N D),(9,N G),(11,I E),(12,.fn (.func 42) [] [.fp (s.v t1 t2)]),(96,B false)] e'∧d'=[]∧h'=HE 0 []) ?_ ?_)))
   ·refine Run.region (cx_ok _ _ _) (Reg.op rfl (Ope.mov rfl ?_))
    refine Reg.op rfl (Ope.ne rfl rfl ?_)
    refine Reg.op rfl (Ope.mov rfl ?_)
    refine Reg.splitX rfl rfl (fun hg=>?_) fun hg=>?_
    ·(first | (exfalso;omega) | (exfalso;exact hg hfe) | (exfalso;simp at hg;done))
    ·refine Reg.on rfl rfl rfl (Ope.mov rfl ?_)
     refine Reg.on rfl rfl rfl (Ope.ne rfl rfl ?_)
     refine Reg.op rfl (Ope.pickF rfl rfl ?_)
     refine Reg.op rfl (Ope.mov rfl ?_)
     refine Reg.splitX rfl rfl (fun hg=>?_) fun hg=>?_
     ·(first | (exfalso;omega) | (exfalso;exact hg hfe) | (exfalso;simp at hg;done))
     ·refine Reg.on rfl rfl rfl (Ope.mov rfl ?_)
      refine Reg.on rfl rfl rfl (Ope.ne rfl rfl ?_)
      refine Reg.op rfl (Ope.pickF rfl rfl ?_)
      refine Reg.op rfl (Ope.mov rfl ?_)
      refine Reg.splitX rfl rfl (fun hg=>?_) fun hg=>?_
      ·(first | (exfalso;omega) | (exfalso;exact hg hfe) | (exfalso;simp at hg;done))
      ·refine Reg.on rfl rfl rfl (Ope.mov rfl ?_)
       refine Reg.on rfl rfl rfl (Ope.lt rfl rfl ?_)
       refine Reg.op rfl (Ope.pickF rfl rfl ?_)
       refine Reg.op rfl (Ope.mov rfl ?_)
       refine Reg.splitX rfl rfl (fun hg=>?_) fun hg=>?_
       ·(first | (exfalso;omega) | (exfalso;exact hg hfe) | (exfalso;simp at hg;done))
       ·refine Reg.on rfl rfl rfl (Ope.mov rfl ?_)
        refine Reg.on rfl rfl rfl (Ope.mov rfl ?_)
        refine Reg.on rfl rfl rfl (Ope.gt rfl rfl ?_)
        refine Reg.op rfl (Ope.pickF rfl rfl ?_)
        refine Reg.op rfl (Ope.mov rfl ?_)
        refine Reg.splitX rfl rfl (fun hg=>?_) fun hg=>?_
        ·(first | (exfalso;omega) | (exfalso;exact hg hfe) | (exfalso;simp at hg;done))
        ·refine Reg.on rfl rfl rfl (Ope.mov rfl ?_)
         refine Reg.on rfl rfl rfl (Ope.mov rfl ?_)
         refine Reg.on rfl rfl rfl (Ope.cf rfl rfl hcD (hbc _) ?_)
         refine Reg.on rfl rfl rfl (Ope.not rfl ?_)
         refine Reg.op rfl (Ope.pickF rfl rfl ?_)
         refine Reg.op rfl (Ope.mov rfl ?_)
         refine Reg.splitX rfl rfl (fun hg=>?_) fun hg=>?_
         ·(first | (exfalso;omega) | (exfalso;exact hg hfe) | (exfalso;simp at hg;done))
         ·refine Reg.on rfl rfl rfl (Ope.mov rfl ?_)
          refine Reg.on rfl rfl rfl (Ope.eq rfl rfl ?_)
          refine Reg.on rfl rfl rfl (Ope.mov rfl ?_)
          refine Reg.on rfl rfl rfl (Ope.gt rfl rfl ?_)
          refine Reg.on rfl rfl rfl (Ope.neV (b:=false) rfl rfl (neB _ _ _ _ (decide_eq_decide.2 hzc)) ?_)
          refine Reg.op rfl (Ope.pickF rfl rfl ?_)
          refine Reg.op rfl (Ope.mov rfl ?_)
          refine Reg.splitX rfl rfl (fun hg=>?_) fun hg=>?_
          ·(first | (exfalso;omega) | (exfalso;exact hg hfe) | (exfalso;simp at hg;done))
          ·refine Reg.on rfl rfl rfl (Ope.mov rfl ?_)
           refine Reg.on rfl rfl rfl (Ope.lt rfl rfl ?_)
           refine Reg.op rfl (Ope.pickF rfl rfl ?_)
           refine Reg.op rfl (Ope.mov rfl ?_)
           refine Reg.splitX rfl rfl (fun hg=>?_) fun hg=>?_
           ·(first | (exfalso;omega) | (exfalso;exact hg hfe) | (exfalso;simp at hg;done))
           ·refine Reg.on rfl rfl rfl (Ope.mov rfl ?_)
            refine Reg.on rfl rfl rfl (Ope.mov rfl ?_)
            refine Reg.on rfl rfl rfl (Ope.andNotN (p:=G) (q:=E) rfl rfl rfl rfl (by show G < 2 ^ 63;omega) (by show E < 2 ^ 63;omega) ?_)
            refine Reg.on rfl rfl rfl (Ope.ne rfl rfl ?_)
            refine Reg.op rfl (Ope.pickF rfl rfl ?_)
            refine Reg.op rfl (Ope.mov rfl ?_)
            refine Reg.splitX rfl rfl (fun hg=>?_) fun hg=>?_
            ·(first | (exfalso;omega) | (exfalso;exact hg hfe) | (exfalso;simp at hg;done))
            ·refine Reg.on rfl rfl rfl (Ope.mov rfl ?_)
             refine Reg.on rfl rfl rfl (Ope.ne rfl rfl ?_)
             refine Reg.on rfl rfl rfl (Ope.mov rfl ?_)
             refine Reg.on rfl rfl rfl (Ope.gt rfl rfl ?_)
             refine Reg.on rfl rfl rfl (Ope.mov rfl ?_)
             refine Reg.splitX rfl rfl (fun hg=>?_) fun hg=>?_
             ·refine Reg.on rfl rfl rfl (Ope.fld rfl rfl ?_)
              refine Reg.on rfl rfl rfl (Ope.load rfl rfl ?_)
              refine Reg.on rfl rfl rfl (Ope.len (m:=n) rfl (by simpa using hjl) ?_)
              refine Reg.on rfl rfl rfl (Ope.gt rfl rfl ?_)
              refine Reg.on rfl rfl rfl (Ope.pickT rfl rfl ?_)
              refine Reg.on rfl rfl rfl (Ope.neV (b:=false) rfl rfl (neB _ _ _ _ (by first | exact hfc1 (by omega) | exact hfc2 (by omega))) ?_)
              refine Reg.op rfl (Ope.pickF rfl rfl ?_)
              exact Reg.nil (Run.lend ⟨⟨rfl,rfl,rfl,rfl,rfl,rfl,rfl,trivial⟩,rfl,rfl⟩)
             ·refine Reg.off rfl rfl rfl (Reg.off rfl rfl rfl (Reg.off rfl rfl rfl (Reg.off rfl rfl rfl (Reg.on rfl rfl rfl (Ope.pickF rfl rfl ?_)))))
              refine Reg.on rfl rfl rfl (Ope.neV (b:=false) rfl rfl (neB _ _ _ _ (by first | exact hfc1 (by omega) | exact hfc2 (by omega))) ?_)
              refine Reg.op rfl (Ope.pickF rfl rfl ?_)
              exact Reg.nil (Run.lend ⟨⟨rfl,rfl,rfl,rfl,rfl,rfl,rfl,trivial⟩,rfl,rfl⟩)
   ·rintro e' d' h' ⟨hsb2,rfl,rfl⟩;refine Run.less hsb2 ?_
    refine Run.condX rfl (fun hc=>?_) fun hc=>?_
    ·cases hc
    ·refine Run.skip (Run.seq (Run.seq (Run.region (cx_ok _ _ _) (Reg.op rfl (Ope.fld rfl rfl ?_)))))
     refine Reg.op rfl (Ope.load rfl rfl ?_)
     refine Reg.op rfl (Ope.len (m:=n) rfl (by simpa using hjl) ?_)
     refine Reg.op rfl (Ope.mov rfl ?_)
     refine Reg.nil (Run.block (Run.loop (α:=Nat×Nat) (fun t=>[(1,U8 w),(2,.fp (s.v t1 t2)),(5,N D),(9,N G),(11,I E),(12,.fn (.func 42) [] [.fp (s.v t1 t2)]),(98,.sl t2 (s.jo.map Job.v)),(99,I n),(100,I t.1)]) (fun t=>HE t.2 []) (fun t=>t.1≤n) (fun t=>n - t.1) (0,0) ⟨rfl,rfl,rfl,rfl,rfl,rfl,rfl,rfl,rfl,trivial⟩ rfl (Nat.zero_le _) (fun t hi=>?_)))
     obtain ⟨i,m⟩:=t
     simp only at hi
     show Run _ _ _ _ [(1,U8 w),(2,.fp (s.v t1 t2)),(5,N D),(9,N G),(11,I E),(12,.fn (.func 42) [] [.fp (s.v t1 t2)]),(98,.sl t2 (s.jo.map Job.v)),(99,I n),(100,I i)] [] (HE m [])
     refine Run.seq (Run.region (cx_ok _ _ _) (Reg.op rfl (Ope.lt rfl rfl ?_)))
     refine Reg.nil (Run.seq (Run.condX rfl (fun hc=>?_) fun hc=>?_))
     ·refine Run.skip (Run.seq (Run.block (Run.seq ?_)))
      have hin:i < n:=by omega
      have hbDi:=hbD i
      have hbFi:=hbF i
      have hsDi:=hsD i
      have hsFi:=hsF i
      have hpi:=hlq i hin
      refine Run.region (cx_ok _ _ _) (Reg.op rfl (Ope.mov rfl ?_))
      refine Reg.op rfl (Ope.idxM (m:=i) (f:=Job.v) rfl rfl rfl (by omega) (fun _=>rfl) ?_)
      refine Reg.op rfl (Ope.load rfl rfl ?_)
      refine Reg.op rfl (Ope.newL rfl ?_)
      refine Reg.op rfl (Ope.asg rfl ?_)
      refine Reg.op0 (Ope.store rfl rfl hget_hd rfl rfl rfl ?_)
      refine Reg.nil (Run.seq (Run.seq (Run.frz (d:=14) true rfl hget_hd rfl ?_)))
      refine Run.region (cx_ok _ _ _) (Reg.op rfl (Ope.mov rfl ?_))
      refine Reg.op rfl (Ope.mov rfl ?_)
      refine Reg.op rfl (Ope.shrN (p:=D) (m:=i) rfl rfl rfl rfl (by show i≤64;omega) ?_)
      refine Reg.op rfl (Ope.andN (p:=D >>> i) (q:=1) rfl rfl rfl rfl (by show D >>> i < 2 ^ 64;omega) (by decide) ?_)
      rw [hbDi]
      refine Reg.op rfl (Ope.eq rfl rfl ?_)
      refine Reg.op rfl (Ope.mov rfl ?_)
      refine Reg.splitX rfl rfl (fun hg=>?_) fun hg=>?_
      ·refine Reg.on rfl rfl rfl (Ope.mov rfl ?_)
       refine Reg.on rfl rfl rfl (Ope.mov rfl ?_)
       refine Reg.on rfl rfl rfl (Ope.mov rfl ?_)
       refine Reg.on rfl rfl rfl (Ope.shlN (p:=1) (m:=i) rfl rfl rfl rfl (by omega) (by omega) ?_)
       refine Reg.on rfl rfl rfl (Ope.andNotN (p:=D) (q:=1 * 2 ^ i) rfl rfl rfl rfl (by show D < 2 ^ 63;omega) (by show 1 * 2 ^ i < 2 ^ 63;omega) ?_)
       refine Reg.on rfl rfl rfl (Ope.cf rfl rfl (hnl i (by omega) (by cases hb:D.testBit i with | true=>rfl | false=>(exfalso;rw [hb] at hg;simp at hg))) (hbc _) ?_)
       refine Reg.op rfl (Ope.pickT rfl rfl ?_)
       refine Reg.nil (Run.condX rfl (fun hc=>?_) fun hc=>?_)
       ·cases hc
       ·refine Run.skip (Run.seq (Run.region (cx_ok _ _ _) (Reg.op rfl (Ope.mov rfl ?_))))
        refine Reg.op rfl (Ope.mov rfl ?_)
        refine Reg.op rfl (Ope.shrN (p:=G) (m:=i) rfl rfl rfl rfl (by show i≤64;omega) ?_)
        refine Reg.op rfl (Ope.andN (p:=G >>> i) (q:=1) rfl rfl rfl rfl (by show G >>> i < 2 ^ 64;omega) (by decide) ?_)
        rw [hbFi]
        refine Reg.op rfl (Ope.eq rfl rfl ?_)
        refine Reg.op rfl (Ope.mov rfl ?_)
        refine Reg.splitX rfl rfl (fun hg=>?_) fun hg=>?_
        ·refine Reg.on rfl rfl rfl (Ope.fld rfl rfl ?_)
         refine Reg.on rfl rfl rfl (Ope.load rfl rfl ?_)
         refine Reg.on rfl rfl rfl (Ope.ne rfl rfl ?_)
         refine Reg.op rfl (Ope.pickT rfl rfl ?_)
         refine Reg.nil (Run.condX rfl (fun hc=>?_) fun hc=>?_)
         ·first | cases hc | (exfalso;exact hc (hfa i (by omega) (by cases hb:G.testBit i with | true=>rfl | false=>(exfalso;rw [hb] at hg;simp at hg))))
         ·refine Run.skip (Run.bend (Run.wide (m:=m+1) (l':=[]) (Nat.le_refl _) trivial ?_))
          refine Run.region (cx_ok _ _ _) (Reg.op rfl (Ope.add rfl rfl (by omega) ?_))
          refine Reg.op rfl (Ope.mov rfl ?_)
          exact Reg.nil (Run.lend ⟨(i+1,m+1),by show n - (i+1) < n - i;omega,(by show i+1≤n;omega),⟨rfl,rfl,rfl,rfl,rfl,rfl,rfl,rfl,rfl,trivial⟩,rfl,rfl⟩)
        ·refine Reg.off rfl rfl rfl (Reg.off rfl rfl rfl (Reg.off rfl rfl rfl (Reg.op rfl (Ope.pickF rfl rfl ?_))))
         refine Reg.nil (Run.condF rfl (Run.skip (Run.bend (Run.wide (m:=m+1) (l':=[]) (Nat.le_refl _) trivial ?_))))
         refine Run.region (cx_ok _ _ _) (Reg.op rfl (Ope.add rfl rfl (by omega) ?_))
         refine Reg.op rfl (Ope.mov rfl ?_)
         exact Reg.nil (Run.lend ⟨(i+1,m+1),by show n - (i+1) < n - i;omega,(by show i+1≤n;omega),⟨rfl,rfl,rfl,rfl,rfl,rfl,rfl,rfl,rfl,trivial⟩,rfl,rfl⟩)
      ·refine Reg.off rfl rfl rfl (Reg.off rfl rfl rfl (Reg.off rfl rfl rfl (Reg.off rfl rfl rfl (Reg.off rfl rfl rfl (Reg.off rfl rfl rfl (Reg.op rfl (Ope.pickF rfl rfl ?_)))))))
       refine Reg.nil (Run.condF rfl (Run.skip (Run.seq (Run.region (cx_ok _ _ _) (Reg.op rfl (Ope.mov rfl ?_))))))
       refine Reg.op rfl (Ope.mov rfl ?_)
       refine Reg.op rfl (Ope.shrN (p:=G) (m:=i) rfl rfl rfl rfl (by show i≤64;omega) ?_)
       refine Reg.op rfl (Ope.andN (p:=G >>> i) (q:=1) rfl rfl rfl rfl (by show G >>> i < 2 ^ 64;omega) (by decide) ?_)
       rw [hbFi]
       refine Reg.op rfl (Ope.eq rfl rfl ?_)
       refine Reg.op rfl (Ope.mov rfl ?_)
       refine Reg.splitX rfl rfl (fun hg=>?_) fun hg=>?_
       ·refine Reg.on rfl rfl rfl (Ope.fld rfl rfl ?_)
        refine Reg.on rfl rfl rfl (Ope.load rfl rfl ?_)
        refine Reg.on rfl rfl rfl (Ope.ne rfl rfl ?_)
        refine Reg.op rfl (Ope.pickT rfl rfl ?_)
        refine Reg.nil (Run.condX rfl (fun hc=>?_) fun hc=>?_)
        ·first | cases hc | (exfalso;exact hc (hfa i (by omega) (by cases hb:G.testBit i with | true=>rfl | false=>(exfalso;rw [hb] at hg;simp at hg))))
        ·refine Run.skip (Run.bend (Run.wide (m:=m+1) (l':=[]) (Nat.le_refl _) trivial ?_))
         refine Run.region (cx_ok _ _ _) (Reg.op rfl (Ope.add rfl rfl (by omega) ?_))
         refine Reg.op rfl (Ope.mov rfl ?_)
         exact Reg.nil (Run.lend ⟨(i+1,m+1),by show n - (i+1) < n - i;omega,(by show i+1≤n;omega),⟨rfl,rfl,rfl,rfl,rfl,rfl,rfl,rfl,rfl,trivial⟩,rfl,rfl⟩)
       ·refine Reg.off rfl rfl rfl (Reg.off rfl rfl rfl (Reg.off rfl rfl rfl (Reg.op rfl (Ope.pickF rfl rfl ?_))))
        refine Reg.nil (Run.condF rfl (Run.skip (Run.bend (Run.wide (m:=m+1) (l':=[]) (Nat.le_refl _) trivial ?_))))
        refine Run.region (cx_ok _ _ _) (Reg.op rfl (Ope.add rfl rfl (by omega) ?_))
        refine Reg.op rfl (Ope.mov rfl ?_)
        exact Reg.nil (Run.lend ⟨(i+1,m+1),by show n - (i+1) < n - i;omega,(by show i+1≤n;omega),⟨rfl,rfl,rfl,rfl,rfl,rfl,rfl,rfl,rfl,trivial⟩,rfl,rfl⟩)
     ·refine Run.exit (Jmp.code (Jmp.round (Jmp.here (Run.seq (Run.region (cx_ok _ _ _) (Reg.op rfl (Ope.mov rfl ?_)))))))
      refine Reg.op rfl (Ope.conv (b:=((w:Nat):Int)) rfl (wrap_in _ (by omega) (by omega)) ?_)
      refine Reg.op rfl (Ope.mov rfl ?_)
      refine Reg.op rfl (Ope.andN (p:=w) (q:=E) rfl rfl rfl rfl (by show w < 2 ^ 64;omega) (by show E < 2 ^ 63;omega) ?_)
      rw [hown]
      refine Reg.op rfl (Ope.asg rfl ?_)
      refine Reg.nil (Run.seq (Run.region (cx_ok _ _ _) (Reg.op rfl (Ope.asg rfl ?_))))
      refine Reg.nil (Run.seq (Run.region (cx_ok _ _ _) (Reg.op rfl (Ope.mov rfl ?_))))
      refine Reg.op rfl (Ope.mov rfl ?_)
      refine Reg.op rfl (Ope.cf rfl rfl hcO (hbc _) ?_)
      refine Reg.op rfl (Ope.not rfl ?_)
      refine Reg.op rfl (Ope.mov rfl ?_)
      refine Reg.splitX rfl rfl (fun hg=>?_) fun hg=>?_
      ·refine Reg.off rfl rfl rfl (Reg.off rfl rfl rfl (Reg.off rfl rfl rfl (Reg.off rfl rfl rfl (Reg.off rfl rfl rfl (Reg.off rfl rfl rfl (Reg.off rfl rfl rfl (Reg.op rfl (Ope.pickT rfl rfl ?_))))))))
       refine Reg.op rfl (Ope.mov rfl ?_)
       refine Reg.off rfl rfl rfl (Reg.off rfl rfl rfl (Reg.off rfl rfl rfl (Reg.off rfl rfl rfl (Reg.off rfl rfl rfl (Reg.off rfl rfl rfl (Reg.off rfl rfl rfl (Reg.off rfl rfl rfl (Reg.past rfl rfl rfl (Reg.past rfl rfl rfl (Reg.past rfl rfl rfl (Reg.off rfl rfl rfl (Reg.op rfl (Ope.pickT rfl rfl ?_)))))))))))))
       refine Reg.op rfl (Ope.mov rfl ?_)
       refine Reg.on rfl rfl rfl (Ope.cf rfl rfl (awakeF) rfl ?_)
       refine Reg.op rfl (Ope.pickT rfl rfl ?_)
       refine Reg.op rfl (Ope.asg rfl ?_)
       refine Reg.nil (Run.ret (fin_ret (.tmp rfl .nil) rfl ?_))
       first
       | rfl
       | (exfalso;cases lw with | false=>(simp at *;done) | true=>(have h9:=hmin rfl;omega))
      ·refine Reg.on rfl rfl rfl (Ope.mov rfl ?_)
       refine Reg.on rfl rfl rfl (Ope.mov rfl ?_)
       refine Reg.on rfl rfl rfl (Ope.cf rfl rfl hzO rfl ?_)
       refine Reg.on rfl rfl rfl (Ope.mov rfl ?_)
       refine Reg.on rfl rfl rfl (Ope.mov rfl ?_)
       refine Reg.on rfl rfl rfl (Ope.cf rfl rfl hzD rfl ?_)
       refine Reg.on rfl rfl rfl (Ope.gt rfl rfl ?_)
       refine Reg.op rfl (Ope.pickF rfl rfl ?_)
       refine Reg.op rfl (Ope.mov rfl ?_)
       refine Reg.splitX rfl rfl (fun hg=>?_) fun hg=>?_
       ·refine Reg.off rfl rfl rfl (Reg.off rfl rfl rfl (Reg.off rfl rfl rfl (Reg.off rfl rfl rfl (Reg.off rfl rfl rfl (Reg.off rfl rfl rfl (Reg.off rfl rfl rfl (Reg.off rfl rfl rfl (Reg.past rfl rfl rfl (Reg.past rfl rfl rfl (Reg.past rfl rfl rfl (Reg.off rfl rfl rfl (Reg.op rfl (Ope.pickT rfl rfl ?_)))))))))))))
        refine Reg.op rfl (Ope.mov rfl ?_)
        refine Reg.on rfl rfl rfl (Ope.cf rfl rfl (awakeF) rfl ?_)
        refine Reg.op rfl (Ope.pickT rfl rfl ?_)
        refine Reg.op rfl (Ope.asg rfl ?_)
        refine Reg.nil (Run.ret (fin_ret (.tmp rfl .nil) rfl ?_))
        first
        | rfl
        | (exfalso;cases lw with | false=>(simp at *;done) | true=>(have h9:=hmin rfl;omega))
       ·refine Reg.on rfl rfl rfl (Ope.mov rfl ?_)
        refine Reg.on rfl rfl rfl (Ope.mov rfl ?_)
        refine Reg.on rfl rfl rfl (Ope.cf rfl rfl hzO rfl ?_)
        refine Reg.on rfl rfl rfl (Ope.mov rfl ?_)
        refine Reg.on rfl rfl rfl (Ope.mov rfl ?_)
        refine Reg.on rfl rfl rfl (Ope.cf rfl rfl hzD rfl ?_)
        refine Reg.on rfl rfl rfl (Ope.eq rfl rfl ?_)
        refine Reg.on rfl rfl rfl (Ope.mov rfl ?_)
        refine Reg.splitX rfl rfl (fun hg=>?_) fun hg=>?_
        ·refine Reg.on rfl rfl rfl (Ope.mov rfl ?_)
         refine Reg.on rfl rfl rfl (Ope.mov rfl ?_)
         refine Reg.on rfl rfl rfl (Ope.ge rfl rfl ?_)
         refine Reg.on rfl rfl rfl (Ope.pickT rfl rfl ?_)
         refine Reg.op rfl (Ope.pickF rfl rfl ?_)
         refine Reg.op rfl (Ope.mov rfl ?_)
         refine Reg.splitX rfl rfl (fun hg=>?_) fun hg=>?_
         ·refine Reg.on rfl rfl rfl (Ope.cf rfl rfl (awakeF) rfl ?_)
          refine Reg.op rfl (Ope.pickT rfl rfl ?_)
          refine Reg.op rfl (Ope.asg rfl ?_)
          refine Reg.nil (Run.ret (fin_ret (.tmp rfl .nil) rfl ?_))
          first
          | rfl
          | (exfalso;cases lw with | false=>(simp at *;done) | true=>(have h9:=hmin rfl;omega))
         ·refine Reg.off rfl rfl rfl (Reg.op rfl (Ope.pickF rfl rfl ?_))
          refine Reg.op rfl (Ope.asg rfl ?_)
          refine Reg.nil (Run.ret (fin_ret (.tmp rfl .nil) rfl ?_))
          first
          | rfl
          | (exfalso;cases lw with | false=>(simp at *;done) | true=>(have h9:=hmin rfl;omega))
        ·refine Reg.off rfl rfl rfl (Reg.off rfl rfl rfl (Reg.off rfl rfl rfl (Reg.on rfl rfl rfl (Ope.pickF rfl rfl ?_))))
         refine Reg.op rfl (Ope.pickF rfl rfl ?_)
         refine Reg.op rfl (Ope.mov rfl ?_)
         refine Reg.off rfl rfl rfl (Reg.op rfl (Ope.pickF rfl rfl ?_))
         refine Reg.op rfl (Ope.asg rfl ?_)
         refine Reg.nil (Run.ret (fin_ret (.tmp rfl .nil) rfl ?_))
         first
         | rfl
         | (exfalso;cases lw with | false=>(simp at *;done) | true=>(have h9:=hmin rfl;omega))
end
theorem f9a (s:Shp) (hi:s.i64) (w:Nat) (hw:w < 256):Fn P0 9 [s.v .no .no,U8 w] (B true):=by
  cases hv:s.val with
  | false=>exact f9n s (t1:=.no) (t2:=.no) rfl rfl hi _ hv
  | true=>exact f9y s (t1:=.no) (t2:=.no) rfl rfl hi hv w hw
end Go.Pv
