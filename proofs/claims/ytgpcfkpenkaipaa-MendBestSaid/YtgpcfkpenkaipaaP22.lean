/- Parts of the proof: M38, M39, M30 -/
import Derived.Test.YtgpcfkpenkaipaaP21
import Derived.Test.YtgpcfkpenkaipaaP20
import Derived.Test.YtgpcfkpenkaipaaP12
set_option linter.unusedVariables false
set_option linter.unusedSimpArgs false
set_option linter.unusedSectionVars false
namespace Go.Pv
open Go.Proofs Go.Am
set_option maxRecDepth 10000
def lexlt:List Nat→List Nat→Prop
  | a::l,b::m=>a < b∨(a=b∧lexlt l m)
  | _,_=>False
theorem lexlt_at : ∀ {l m : List Nat} {i : Nat} (hi : i < l.length) (hj : i < m.length), lexlt l m → (∀ k (h : k < l.length) (h' : k < m.length), k < i → l[k] = m[k]) → l[i] ≠ m[i] → l[i] < m[i]
  | a :: l, b :: m, 0, _, _, h, _, hne => by
    simp only [List.getElem_cons_zero] at hne ⊢
    rcases h with h | ⟨h,_⟩
    · exact h
    · exact absurd h hne
  | a :: l, b :: m, i + 1, hi, hj, h, he, hne => by
    have h0:=he 0 (by simp) (by simp) (by omega)
    simp only [List.getElem_cons_zero] at h0
    rcases h with h | ⟨_,h⟩
    · omega
    · simp only [List.getElem_cons_succ] at hne ⊢
      exact lexlt_at (by simpa using hi) (by simpa using hj) h (fun k h1 h2 h3=>by
        have:=he (k+1) (by simpa using h1) (by simpa using h2) (by omega)
        simpa using this) hne
theorem range_up (n:Nat):(List.range n).Pairwise (· < ·):=List.pairwise_lt_range
theorem sqs_up (s : Shp) : ∀ (k : Nat) (p : Pst), (s.sqs k p).Pairwise fun a b => lexlt a.o b.o
  | 0,p=>by simp [Shp.sqs]
  | k + 1, p => by
    simp only [Shp.sqs]
    have hup:(s.nxt p).Pairwise (· < ·):=(range_up s.n).filter _
    generalize s.nxt p=L at *
    induction L with
    | nil=>simp
    | cons i L ih =>
      obtain ⟨h1,h2⟩:=List.pairwise_cons.1 hup
      rw [List.flatMap_cons]
      refine List.pairwise_append.2 ⟨?_,ih h2,?_⟩
      · rw [List.pairwise_map]
        exact (sqs_up s k _).imp fun h=>.inr ⟨rfl,h⟩
      · intro a ha b hb
        obtain ⟨a',_,rfl⟩:=List.mem_map.1 ha
        obtain ⟨j,hj,hb⟩:=List.mem_flatMap.1 hb
        obtain ⟨b',_,rfl⟩:=List.mem_map.1 hb
        exact .inl (h1 j hj)
theorem leastBy_first {α:Type} {R:α→α→Prop} (f:α→Int):∀ (l:List α) (a:α),(a::l).Pairwise R→∀ x∈a::l,f x≤f (leastBy f a l)→x=leastBy f a l∨R (leastBy f a l) x
  | [], a, _, x, hx, _ => by
    simp only [List.mem_singleton] at hx
    exact .inl hx
  | b :: l, a, hp, x, hx, hf => by
    obtain ⟨h1,h2⟩:=List.pairwise_cons.1 hp
    rw [leastBy_cons] at hf ⊢
    split at hf
    · next h =>
      rw [if_pos h]
      rcases List.mem_cons.1 hx with rfl | hx
      · omega
      · exact leastBy_first f l b h2 x hx hf
    · next h =>
      rw [if_neg h]
      rcases List.mem_cons.1 hx with rfl | hx
      · exact .inl rfl
      · exact .inr (h1 x hx)
theorem all_first {s:Shp} {o:List Nat} (ho:Ordr s.jo.length o) (hr:s.rgt o=true) (hc:s.cst Shp.p0 o≤s.all.c):o=s.all.o∨lexlt s.all.o o:=by
  have hm:=(mem_all (s:=s) (q:=⟨o,s.cst Shp.p0 o,(s.past Shp.p0 o).f1⟩)).2 ⟨ho,hr,rfl,rfl⟩
  have hu:=sqs_up s s.jo.length Shp.p0
  unfold Shp.all Shp.out at *
  cases hq:s.sqs s.jo.length Shp.p0 with
  | nil=>rw [hq] at hm;cases hm
  | cons a l =>
    rw [hq] at hm hu hc
    rcases leastBy_first Sq.c l a hu _ hm hc with h | h
    · exact .inl (congrArg Sq.o h)
    · exact .inr h
def sumL (f:Nat→Int):Nat→Nat→Int
  | 0,_=>0
  | n+1,J=>sumL f n J+if J.testBit n=true then 0 else f n
theorem sumL_same {f:Nat→Int} {J i:Nat}:∀ n,n≤i→sumL f n (J ||| 1 * 2 ^ i)=sumL f n J
  | 0,_=>rfl
  | n + 1, h => by
    have ih:=sumL_same (f:=f) (J:=J) (i:=i) n (by omega)
    simp only [sumL,ih,or_bit]
    rw [decide_eq_false (show ¬ i=n by omega),Bool.or_false]
theorem sumL_set {f:Nat→Int} {J i:Nat} (hJ:J.testBit i=false):∀ n,i < n→sumL f n (J ||| 1 * 2 ^ i)+f i=sumL f n J
  | 0,h=>absurd h (Nat.not_lt_zero _)
  | n + 1, h => by
    simp only [sumL,or_bit]
    by_cases hi:i=n
    · subst hi
      rw [sumL_same i (Nat.le_refl _),hJ]
      simp
    · rw [decide_eq_false hi, Bool.or_false]
      have:=sumL_set (f:=f) hJ n (by omega)
      omega
theorem sumL_fresh {f:Nat→Int} {n:Nat}:∀ (o:List Nat) (J:Nat),(∀ i∈o,i < n)→fresh J o→(o.map f).sum+sumL f n (orJ J o)=sumL f n J
  | [],J,_,_=>by simp [orJ]
  | i :: l, J, h, ⟨hb, hf⟩ => by
    have h1:=sumL_fresh (f:=f) l _ (fun j hj=>h j (List.mem_cons_of_mem _ hj)) hf
    have h2:=sumL_set (f:=f) hb n (h i (by simp))
    simp only [orJ,List.map_cons,List.sum_cons]
    omega
theorem sumL_all {f:Nat→Int} {J:Nat}:∀ n,(∀ i,i < n→J.testBit i=true)→sumL f n J=0
  | 0,_=>rfl
  | n + 1, h => by
    simp only [sumL,h n (Nat.lt_succ_self _),if_true,sumL_all n fun i hi=>h i (by omega)]
    rfl
theorem sum_ord {f:Nat→Int} {n:Nat} {o:List Nat} (h:Ordr n o):(o.map f).sum=sumL f n 0:=by
  have h1:=sumL_fresh (f:=f) o 0 h.lt (ord_fresh h)
  rw [sumL_all n fun i hi=>by rw [orJ_bit,decide_eq_true (h.all i hi),Bool.or_true]] at h1
  omega
def Shp.sumH (s:Shp) (i:Nat):Int:=sumL (fun k=>(s.job k).hi) i 0
def Shp.fstS (s:Shp):Nat→Int
  | 0=>0
  | i+1=>if i=0∨s.set (s.job i).kd < s.fstS i then s.set (s.job i).kd else s.fstS i
theorem sumH_succ (s:Shp) (i:Nat):s.sumH (i+1)=s.sumH i+(s.job i).hi:=by
  simp [Shp.sumH,sumL]
theorem fstS_le (s : Shp) : ∀ (n i : Nat), i < n → s.fstS n ≤ s.set (s.job i).kd
  | 0,_,h=>absurd h (Nat.not_lt_zero _)
  | n + 1, i, h => by
    simp only [Shp.fstS]
    by_cases hi:i=n
    · subst hi
      split
      · exact Int.le_refl _
      · next h=>simp only [not_or] at h;omega
    · have ih := fstS_le s n i (by omega)
      split
      · next h2 =>
        rcases h2 with h2 | h2
        · omega
        · omega
      · exact ih
theorem past_low {s:Shp} (hs:s.ok 30):∀ (o:List Nat) (p:Pst),(∀ i∈o,i < s.jo.length)→p.f1+(o.map fun i=>(s.job i).hi).sum≤(s.past p o).f1
  | [],p,_=>by simp [Shp.past]
  | i :: l, p, h => by
    have hi:=h i (by simp)
    have h1:=past_low hs l (s.aft (s.wrk p i)) fun j hj=>h j (List.mem_cons_of_mem _ hj)
    have hj:=hs.job hi
    obtain ⟨q,hq⟩:∃ q:Nat,(s.job i).kd=(q:Int):=⟨(s.job i).kd.toNat,by have:=hj.kd;omega⟩
    have hst:=hs.set (q:=q) (by have:=hj.kd;omega)
    have hr:p.f1≤(s.rdy p (s.job i).kd).2:=by
      unfold Shp.rdy
      split
      · exact Int.le_refl _
      · rw [hq];show p.f1≤p.f1+_;omega
    have hd:(s.aft (s.wrk p i)).f1=max (s.rdy p (s.job i).kd).2 (s.job i).fr+(s.job i).hi:=rfl
    simp only [List.map_cons,List.sum_cons,Shp.past]
    omega
theorem past_sum {s:Shp} (hs:s.ok 30) {o:List Nat} (ho:Ordr s.jo.length o):s.sumH s.jo.length+s.fstS s.jo.length≤(s.past Shp.p0 o).f1:=by
  have hsum:=sum_ord (f:=fun i=>(s.job i).hi) ho
  change _=s.sumH s.jo.length at hsum
  rw [← hsum]
  cases o with
  | nil =>
    have h0:s.jo.length=0:=ho.len.symm
    rw [h0]
    exact Int.le_refl _
  | cons i l =>
    have hi:=ho.lt i (by simp)
    have h1:=past_low hs l (s.aft (s.wrk Shp.p0 i)) fun j hj=>ho.lt j (List.mem_cons_of_mem _ hj)
    have h2:=fstS_le s s.jo.length i hi
    have hj:=hs.job hi
    have hr:(s.rdy Shp.p0 (s.job i).kd).2=0+s.set (s.job i).kd:=by
      unfold Shp.rdy
      rw [if_neg (by have:=hj.kd;show ¬ (s.job i).kd=-1;omega)]
    have hd:(s.aft (s.wrk Shp.p0 i)).f1=max (s.rdy Shp.p0 (s.job i).kd).2 (s.job i).fr+(s.job i).hi:=rfl
    simp only [List.map_cons,List.sum_cons,Shp.past]
    omega
end Go.Pv
namespace Go.Pv
open Go.Proofs Go.Am
set_option maxRecDepth 10000
section
variable (s:Shp) {t1 t2:Tail} (h1:t1.isOwn=false) (h2:t2.isOwn=false)
include h1 h2
theorem f7n (hi : s.i64) (hS : s.su.length ≤ 9223372036854775807) (hJ : s.jo.length ≤ 9223372036854775807) (a : PV) (hv : s.val = false) : Fn P0 7 [s.v t1 t2, a] (B true) := by
  have hfi:=f33 s h1 h2 hi
  rw [hv] at hfi
  have hbs:PV.bds 0 [s.v t1 t2]=true:=bd_shpV s h1 h2 rfl
  have hbf:PV.bds 0 [s.v t1 t2,.sl .ex []]=true:=bd_shpV s h1 h2 rfl
  have hfa:=f12 s h1 h2 .ex []
  have hbe:=f26ba s h1 h2 hS hJ hv
  have hun:=f28ba s h1 h2 hS hJ hv
  have hco:=f20ba s h1 h2 hS hJ hv
  generalize farB s.su.length s.jo.length ([]:List PV).length=fb at *
  refine PFun.of (C:=c7) (cx_ok _ _ _) rfl (fn:=Try.f7) (by kernel_rfl) (c:=_) rfl rfl rfl ?_
  refine Run.seq (Run.region (cx_ok _ _ _) (Reg.op rfl (Ope.boxF rfl rfl ?_)))
  refine Reg.op rfl (Ope.asg rfl ?_)
  refine Reg.nil (Run.seq (Run.region (cx_ok _ _ _) (Reg.op rfl (Ope.load rfl rfl ?_))))
  refine Reg.op rfl (Ope.cf rfl rfl hbe hbs ?_)
  refine Reg.op rfl (Ope.mov rfl ?_)
  refine Reg.op rfl (Ope.ext rfl rfl ?_)
  refine Reg.op rfl (Ope.ext rfl rfl ?_)
  refine Reg.op rfl (Ope.ext rfl rfl ?_)
  refine Reg.op rfl (Ope.asg rfl ?_)
  refine Reg.op rfl (Ope.asg rfl ?_)
  refine Reg.op rfl (Ope.asg rfl ?_)
  refine Reg.nil (Run.seq (Run.region (cx_ok _ _ _) (Reg.op rfl (Ope.load rfl rfl ?_))))
  refine Reg.op rfl (Ope.cf rfl rfl hun hbs ?_)
  refine Reg.op rfl (Ope.mov rfl ?_)
  refine Reg.op rfl (Ope.ext rfl rfl ?_)
  refine Reg.op rfl (Ope.ext rfl rfl ?_)
  refine Reg.op rfl (Ope.asg rfl ?_)
  refine Reg.op rfl (Ope.asg rfl ?_)
  refine Reg.nil (Run.seq (Run.region (cx_ok _ _ _) (Reg.op rfl (Ope.load rfl rfl ?_))))
  refine Reg.op rfl (Ope.cf rfl rfl hco hbs ?_)
  refine Reg.op rfl (Ope.mov rfl ?_)
  refine Reg.op rfl (Ope.ext rfl rfl ?_)
  refine Reg.op rfl (Ope.ext rfl rfl ?_)
  refine Reg.op rfl (Ope.asg rfl ?_)
  refine Reg.op rfl (Ope.asg rfl ?_)
  refine Reg.nil (Run.seq (Run.seq (Run.region (cx_ok _ _ _) (Reg.op rfl (Ope.load rfl rfl ?_)))))
  refine Reg.op rfl (Ope.cf rfl rfl hfa hbf ?_)
  refine Reg.nil (Run.condX rfl (fun hc=>?_) fun hc=>?_)
  ·refine Run.seq (Run.region (cx_ok _ _ _) (Reg.op rfl (Ope.cf rfl rfl (awakeF) rfl ?_)))
   refine Reg.op rfl (Ope.asg rfl ?_)
   exact Reg.nil (Run.ret (Jmp.code (fin_ret (.tmp rfl .nil) rfl rfl)))
  ·refine Run.skip (Run.seq (Run.seq (Run.region (cx_ok _ _ _) (Reg.op rfl (Ope.load rfl rfl ?_)))))
   refine Reg.op rfl (Ope.cf rfl rfl hfi hbs ?_)
   refine Reg.op rfl (Ope.not rfl ?_)
   refine Reg.nil (Run.condX rfl (fun hc=>?_) fun hc=>?_)
   ·refine Run.seq (Run.region (cx_ok _ _ _) (Reg.op rfl (Ope.mov rfl ?_)))
    refine Reg.op rfl (Ope.eq rfl rfl ?_)
    refine Reg.op rfl (Ope.mov rfl ?_)
    refine Reg.splitX rfl rfl (fun hg=>?_) fun hg=>?_
    ·first
     |(first | (exfalso;omega) | (exfalso;simp at hg;done))
     |refine Reg.on rfl rfl rfl (Ope.mov rfl ?_)
      refine Reg.on rfl rfl rfl (Ope.mov rfl ?_)
      refine Reg.on rfl rfl rfl (Ope.eq rfl rfl ?_)
      refine Reg.op rfl (Ope.pickT rfl rfl ?_)
      refine Reg.op rfl (Ope.mov rfl ?_)
      refine Reg.splitX rfl rfl (fun hg=>?_) fun hg=>?_
      ·first
       |(first | (exfalso;omega) | (exfalso;simp at hg;done))
       |refine Reg.on rfl rfl rfl (Ope.mov rfl ?_)
        refine Reg.on rfl rfl rfl (Ope.mov rfl ?_)
        refine Reg.on rfl rfl rfl (Ope.eq rfl rfl ?_)
        refine Reg.op rfl (Ope.pickT rfl rfl ?_)
        refine Reg.op rfl (Ope.mov rfl ?_)
        refine Reg.splitX rfl rfl (fun hg=>?_) fun hg=>?_
        ·first
         |(first | (exfalso;omega) | (exfalso;simp at hg;done))
         |refine Reg.on rfl rfl rfl (Ope.mov rfl ?_)
          refine Reg.on rfl rfl rfl (Ope.eq rfl rfl ?_)
          refine Reg.op rfl (Ope.pickT rfl rfl ?_)
          refine Reg.op rfl (Ope.mov rfl ?_)
          refine Reg.splitX rfl rfl (fun hg=>?_) fun hg=>?_
          ·first
           |(first | (exfalso;omega) | (exfalso;simp at hg;done))
           |refine Reg.on rfl rfl rfl (Ope.mov rfl ?_)
            refine Reg.on rfl rfl rfl (Ope.len (m:=0) rfl rfl ?_)
            refine Reg.on rfl rfl rfl (Ope.eq rfl rfl ?_)
            refine Reg.op rfl (Ope.pickT rfl rfl ?_)
            refine Reg.op rfl (Ope.mov rfl ?_)
            refine Reg.splitX rfl rfl (fun hg=>?_) fun hg=>?_
            ·first
             |(first | (exfalso;omega) | (exfalso;simp at hg;done))
             |refine Reg.on rfl rfl rfl (Ope.mov rfl ?_)
              refine Reg.on rfl rfl rfl (Ope.eq rfl rfl ?_)
              refine Reg.op rfl (Ope.pickT rfl rfl ?_)
              refine Reg.op rfl (Ope.mov rfl ?_)
              refine Reg.splitX rfl rfl (fun hg=>?_) fun hg=>?_
              ·first
               |(first | (exfalso;omega) | (exfalso;simp at hg;done))
               |refine Reg.on rfl rfl rfl (Ope.mov rfl ?_)
                refine Reg.on rfl rfl rfl (Ope.eq rfl rfl ?_)
                refine Reg.op rfl (Ope.pickT rfl rfl ?_)
                refine Reg.op rfl (Ope.mov rfl ?_)
                refine Reg.splitX rfl rfl (fun hg=>?_) fun hg=>?_
                ·first
                 |(first | (exfalso;omega) | (exfalso;simp at hg;done))
                 |refine Reg.on rfl rfl rfl (Ope.cf rfl rfl (awakeF) rfl ?_)
                  refine Reg.op rfl (Ope.pickT rfl rfl ?_)
                  refine Reg.op rfl (Ope.asg rfl ?_)
                  exact Reg.nil (Run.ret (Jmp.code (fin_ret (.tmp rfl .nil) rfl rfl)))
                ·first
                 |(first | (exfalso;omega) | (exfalso;simp at hg;done))
                 |refine Reg.off rfl rfl rfl (Reg.op rfl (Ope.pickF rfl rfl ?_))
                  refine Reg.op rfl (Ope.asg rfl ?_)
                  exact Reg.nil (Run.ret (Jmp.code (fin_ret (.tmp rfl .nil) rfl rfl)))
              ·first
               |(first | (exfalso;omega) | (exfalso;simp at hg;done))
               |refine Reg.off rfl rfl rfl (Reg.off rfl rfl rfl (Reg.op rfl (Ope.pickF rfl rfl ?_)))
                refine Reg.op rfl (Ope.mov rfl ?_)
                refine Reg.off rfl rfl rfl (Reg.op rfl (Ope.pickF rfl rfl ?_))
                refine Reg.op rfl (Ope.asg rfl ?_)
                exact Reg.nil (Run.ret (Jmp.code (fin_ret (.tmp rfl .nil) rfl rfl)))
            ·first
             |(first | (exfalso;omega) | (exfalso;simp at hg;done))
             |refine Reg.off rfl rfl rfl (Reg.off rfl rfl rfl (Reg.op rfl (Ope.pickF rfl rfl ?_)))
              refine Reg.op rfl (Ope.mov rfl ?_)
              refine Reg.off rfl rfl rfl (Reg.off rfl rfl rfl (Reg.op rfl (Ope.pickF rfl rfl ?_)))
              refine Reg.op rfl (Ope.mov rfl ?_)
              refine Reg.off rfl rfl rfl (Reg.op rfl (Ope.pickF rfl rfl ?_))
              refine Reg.op rfl (Ope.asg rfl ?_)
              exact Reg.nil (Run.ret (Jmp.code (fin_ret (.tmp rfl .nil) rfl rfl)))
          ·first
           |(first | (exfalso;omega) | (exfalso;simp at hg;done))
           |refine Reg.off rfl rfl rfl (Reg.off rfl rfl rfl (Reg.off rfl rfl rfl (Reg.op rfl (Ope.pickF rfl rfl ?_))))
            refine Reg.op rfl (Ope.mov rfl ?_)
            refine Reg.off rfl rfl rfl (Reg.off rfl rfl rfl (Reg.op rfl (Ope.pickF rfl rfl ?_)))
            refine Reg.op rfl (Ope.mov rfl ?_)
            refine Reg.off rfl rfl rfl (Reg.off rfl rfl rfl (Reg.op rfl (Ope.pickF rfl rfl ?_)))
            refine Reg.op rfl (Ope.mov rfl ?_)
            refine Reg.off rfl rfl rfl (Reg.op rfl (Ope.pickF rfl rfl ?_))
            refine Reg.op rfl (Ope.asg rfl ?_)
            exact Reg.nil (Run.ret (Jmp.code (fin_ret (.tmp rfl .nil) rfl rfl)))
        ·first
         |(first | (exfalso;omega) | (exfalso;simp at hg;done))
         |refine Reg.off rfl rfl rfl (Reg.off rfl rfl rfl (Reg.op rfl (Ope.pickF rfl rfl ?_)))
          refine Reg.op rfl (Ope.mov rfl ?_)
          refine Reg.off rfl rfl rfl (Reg.off rfl rfl rfl (Reg.off rfl rfl rfl (Reg.op rfl (Ope.pickF rfl rfl ?_))))
          refine Reg.op rfl (Ope.mov rfl ?_)
          refine Reg.off rfl rfl rfl (Reg.off rfl rfl rfl (Reg.op rfl (Ope.pickF rfl rfl ?_)))
          refine Reg.op rfl (Ope.mov rfl ?_)
          refine Reg.off rfl rfl rfl (Reg.off rfl rfl rfl (Reg.op rfl (Ope.pickF rfl rfl ?_)))
          refine Reg.op rfl (Ope.mov rfl ?_)
          refine Reg.off rfl rfl rfl (Reg.op rfl (Ope.pickF rfl rfl ?_))
          refine Reg.op rfl (Ope.asg rfl ?_)
          exact Reg.nil (Run.ret (Jmp.code (fin_ret (.tmp rfl .nil) rfl rfl)))
      ·first
       |(first | (exfalso;omega) | (exfalso;simp at hg;done))
       |refine Reg.off rfl rfl rfl (Reg.off rfl rfl rfl (Reg.off rfl rfl rfl (Reg.op rfl (Ope.pickF rfl rfl ?_))))
        refine Reg.op rfl (Ope.mov rfl ?_)
        refine Reg.off rfl rfl rfl (Reg.off rfl rfl rfl (Reg.op rfl (Ope.pickF rfl rfl ?_)))
        refine Reg.op rfl (Ope.mov rfl ?_)
        refine Reg.off rfl rfl rfl (Reg.off rfl rfl rfl (Reg.off rfl rfl rfl (Reg.op rfl (Ope.pickF rfl rfl ?_))))
        refine Reg.op rfl (Ope.mov rfl ?_)
        refine Reg.off rfl rfl rfl (Reg.off rfl rfl rfl (Reg.op rfl (Ope.pickF rfl rfl ?_)))
        refine Reg.op rfl (Ope.mov rfl ?_)
        refine Reg.off rfl rfl rfl (Reg.off rfl rfl rfl (Reg.op rfl (Ope.pickF rfl rfl ?_)))
        refine Reg.op rfl (Ope.mov rfl ?_)
        refine Reg.off rfl rfl rfl (Reg.op rfl (Ope.pickF rfl rfl ?_))
        refine Reg.op rfl (Ope.asg rfl ?_)
        exact Reg.nil (Run.ret (Jmp.code (fin_ret (.tmp rfl .nil) rfl rfl)))
    ·first
     |(first | (exfalso;omega) | (exfalso;simp at hg;done))
     |refine Reg.off rfl rfl rfl (Reg.off rfl rfl rfl (Reg.off rfl rfl rfl (Reg.op rfl (Ope.pickF rfl rfl ?_))))
      refine Reg.op rfl (Ope.mov rfl ?_)
      refine Reg.off rfl rfl rfl (Reg.off rfl rfl rfl (Reg.off rfl rfl rfl (Reg.op rfl (Ope.pickF rfl rfl ?_))))
      refine Reg.op rfl (Ope.mov rfl ?_)
      refine Reg.off rfl rfl rfl (Reg.off rfl rfl rfl (Reg.op rfl (Ope.pickF rfl rfl ?_)))
      refine Reg.op rfl (Ope.mov rfl ?_)
      refine Reg.off rfl rfl rfl (Reg.off rfl rfl rfl (Reg.off rfl rfl rfl (Reg.op rfl (Ope.pickF rfl rfl ?_))))
      refine Reg.op rfl (Ope.mov rfl ?_)
      refine Reg.off rfl rfl rfl (Reg.off rfl rfl rfl (Reg.op rfl (Ope.pickF rfl rfl ?_)))
      refine Reg.op rfl (Ope.mov rfl ?_)
      refine Reg.off rfl rfl rfl (Reg.off rfl rfl rfl (Reg.op rfl (Ope.pickF rfl rfl ?_)))
      refine Reg.op rfl (Ope.mov rfl ?_)
      refine Reg.off rfl rfl rfl (Reg.op rfl (Ope.pickF rfl rfl ?_))
      refine Reg.op rfl (Ope.asg rfl ?_)
      exact Reg.nil (Run.ret (Jmp.code (fin_ret (.tmp rfl .nil) rfl rfl)))
   ·cases hc
theorem f7z (hv : s.val = true) (hi : s.i64) (tb : Tail) (htb : tb.isOwn = false) (by' : List Nat) (om : List Nat) (tm : Tail) (htm : tm.isOwn = false) (hom : Ordr s.jo.length om) (hma : Fn P0 34 [s.v t1 t2, .sl tb (by'.map U8)] (.sl tm (om.map N))) (hn : s.all.n = 0) :
    Fn P0 7 [s.v t1 t2,.sl tb (by'.map U8)] (B true):=by
  have hfi:=f33 s h1 h2 hi
  rw [hv] at hfi
  have hs:=val_ok hi hv
  have hbs:PV.bds 0 [s.v t1 t2]=true:=bd_shpV s h1 h2 rfl
  have hbf:PV.bds 0 [s.v t1 t2,.sl .ex []]=true:=bd_shpV s h1 h2 rfl
  have hbm:PV.bds 0 [s.v t1 t2,.sl tb (by'.map U8)]=true:=bd_shpV s h1 h2 (bds_cons (bd_sl (f:=U8) htb (fun _=>rfl) _) rfl)
  have hbo:PV.bds 0 [s.v t1 t2,.sl tm (om.map N)]=true:=bd_ord s h1 h2 tm htm om
  have hfa:=f12 s h1 h2 .ex []
  rw [show farB s.su.length s.jo.length ([]:List PV).length=false from by
    have:=hs.su;have:=hs.jo
    unfold farB
    rw [decide_eq_false (by omega),decide_eq_false (by omega)];rfl] at hfa
  have hbe:=f26no s h1 h2 hv hs hn
  have hun:=f28no s h1 h2 hv hs hn
  have hco:=f20ok s h1 h2 hv hs
  rw [hn] at hco
  have hr:s.rgt om=false:=by
    cases h:s.rgt om with
    | false=>rfl
    | true=>have:=all_pos.2 ⟨om,hom,h⟩;omega
  have hrg:=f37 s h1 h2 hv hs tm htm om hom
  rw [hr] at hrg
  refine PFun.of (C:=c7) (cx_ok _ _ _) rfl (fn:=Try.f7) (by kernel_rfl) (c:=_) rfl rfl rfl ?_
  refine Run.seq (Run.region (cx_ok _ _ _) (Reg.op rfl (Ope.boxF rfl rfl ?_)))
  refine Reg.op rfl (Ope.asg rfl ?_)
  refine Reg.nil (Run.seq (Run.region (cx_ok _ _ _) (Reg.op rfl (Ope.load rfl rfl ?_))))
  refine Reg.op rfl (Ope.cf rfl rfl hbe hbs ?_)
  refine Reg.op rfl (Ope.mov rfl ?_)
  refine Reg.op rfl (Ope.ext rfl rfl ?_)
  refine Reg.op rfl (Ope.ext rfl rfl ?_)
  refine Reg.op rfl (Ope.ext rfl rfl ?_)
  refine Reg.op rfl (Ope.asg rfl ?_)
  refine Reg.op rfl (Ope.asg rfl ?_)
  refine Reg.op rfl (Ope.asg rfl ?_)
  refine Reg.nil (Run.seq (Run.region (cx_ok _ _ _) (Reg.op rfl (Ope.load rfl rfl ?_))))
  refine Reg.op rfl (Ope.cf rfl rfl hun hbs ?_)
  refine Reg.op rfl (Ope.mov rfl ?_)
  refine Reg.op rfl (Ope.ext rfl rfl ?_)
  refine Reg.op rfl (Ope.ext rfl rfl ?_)
  refine Reg.op rfl (Ope.asg rfl ?_)
  refine Reg.op rfl (Ope.asg rfl ?_)
  refine Reg.nil (Run.seq (Run.region (cx_ok _ _ _) (Reg.op rfl (Ope.load rfl rfl ?_))))
  refine Reg.op rfl (Ope.cf rfl rfl hco hbs ?_)
  refine Reg.op rfl (Ope.mov rfl ?_)
  refine Reg.op rfl (Ope.ext rfl rfl ?_)
  refine Reg.op rfl (Ope.ext rfl rfl ?_)
  refine Reg.op rfl (Ope.asg rfl ?_)
  refine Reg.op rfl (Ope.asg rfl ?_)
  refine Reg.nil (Run.seq (Run.seq (Run.region (cx_ok _ _ _) (Reg.op rfl (Ope.load rfl rfl ?_)))))
  refine Reg.op rfl (Ope.cf rfl rfl hfa hbf ?_)
  refine Reg.nil (Run.condX rfl (fun hc=>?_) fun hc=>?_)
  ·cases hc
  ·refine Run.skip (Run.seq (Run.seq (Run.region (cx_ok _ _ _) (Reg.op rfl (Ope.load rfl rfl ?_)))))
   refine Reg.op rfl (Ope.cf rfl rfl hfi hbs ?_)
   refine Reg.op rfl (Ope.not rfl ?_)
   refine Reg.nil (Run.condX rfl (fun hc=>?_) fun hc=>?_)
   ·cases hc
   ·refine Run.skip (Run.seq (Run.region (cx_ok _ _ _) (Reg.op rfl (Ope.load rfl rfl ?_))))
    refine Reg.op rfl (Ope.mov rfl ?_)
    refine Reg.op rfl (Ope.cf rfl rfl hma hbm ?_)
    refine Reg.op rfl (Ope.asg rfl ?_)
    refine Reg.nil (Run.seq (Run.seq (Run.region (cx_ok _ _ _) (Reg.op rfl (Ope.mov rfl ?_)))))
    refine Reg.op rfl (Ope.ne rfl rfl ?_)
    refine Reg.op rfl (Ope.mov rfl ?_)
    refine Reg.splitX rfl rfl (fun hg=>?_) fun hg=>?_
    ·first
     |(first | (exfalso;omega) | (exfalso;simp at hg;done))
     |refine Reg.off rfl rfl rfl (Reg.off rfl rfl rfl (Reg.op rfl (Ope.pickT rfl rfl ?_)))
      refine Reg.op rfl (Ope.mov rfl ?_)
      refine Reg.off rfl rfl rfl (Reg.off rfl rfl rfl (Reg.off rfl rfl rfl (Reg.op rfl (Ope.pickT rfl rfl ?_))))
      refine Reg.op rfl (Ope.mov rfl ?_)
      refine Reg.off rfl rfl rfl (Reg.off rfl rfl rfl (Reg.off rfl rfl rfl (Reg.off rfl rfl rfl (Reg.off rfl rfl rfl (Reg.op rfl (Ope.pickT rfl rfl ?_))))))
      refine Reg.op rfl (Ope.mov rfl ?_)
      refine Reg.off rfl rfl rfl (Reg.off rfl rfl rfl (Reg.off rfl rfl rfl (Reg.off rfl rfl rfl (Reg.past rfl rfl rfl (Reg.past rfl rfl rfl (Reg.off rfl rfl rfl (Reg.op rfl (Ope.pickT rfl rfl ?_))))))))
      refine Reg.nil (Run.condT rfl (Run.seq (Run.region (cx_ok _ _ _) (Reg.op rfl (Ope.asg rfl ?_)))))
      exact Reg.nil (Run.ret (Jmp.code (fin_ret (.tmp rfl .nil) rfl rfl)))
    ·first
     |(first | (exfalso;omega) | (exfalso;simp at hg;done))
     |refine Reg.on rfl rfl rfl (Ope.mov rfl ?_)
      refine Reg.on rfl rfl rfl (Ope.lt rfl rfl ?_)
      refine Reg.op rfl (Ope.pickF rfl rfl ?_)
      refine Reg.op rfl (Ope.mov rfl ?_)
      refine Reg.splitX rfl rfl (fun hg=>?_) fun hg=>?_
      ·first
       |(first | (exfalso;omega) | (exfalso;simp at hg;done))
       |refine Reg.off rfl rfl rfl (Reg.off rfl rfl rfl (Reg.off rfl rfl rfl (Reg.op rfl (Ope.pickT rfl rfl ?_))))
        refine Reg.op rfl (Ope.mov rfl ?_)
        refine Reg.off rfl rfl rfl (Reg.off rfl rfl rfl (Reg.off rfl rfl rfl (Reg.off rfl rfl rfl (Reg.off rfl rfl rfl (Reg.op rfl (Ope.pickT rfl rfl ?_))))))
        refine Reg.op rfl (Ope.mov rfl ?_)
        refine Reg.off rfl rfl rfl (Reg.off rfl rfl rfl (Reg.off rfl rfl rfl (Reg.off rfl rfl rfl (Reg.past rfl rfl rfl (Reg.past rfl rfl rfl (Reg.off rfl rfl rfl (Reg.op rfl (Ope.pickT rfl rfl ?_))))))))
        refine Reg.nil (Run.condT rfl (Run.seq (Run.region (cx_ok _ _ _) (Reg.op rfl (Ope.asg rfl ?_)))))
        exact Reg.nil (Run.ret (Jmp.code (fin_ret (.tmp rfl .nil) rfl rfl)))
      ·first
       |(first | (exfalso;omega) | (exfalso;simp at hg;done))
       |refine Reg.on rfl rfl rfl (Ope.mov rfl ?_)
        refine Reg.on rfl rfl rfl (Ope.mov rfl ?_)
        refine Reg.on rfl rfl rfl (Ope.ne rfl rfl ?_)
        refine Reg.op rfl (Ope.pickF rfl rfl ?_)
        refine Reg.op rfl (Ope.mov rfl ?_)
        refine Reg.splitX rfl rfl (fun hg=>?_) fun hg=>?_
        ·first
         |(first | (exfalso;omega) | (exfalso;simp at hg;done))
         |refine Reg.off rfl rfl rfl (Reg.off rfl rfl rfl (Reg.off rfl rfl rfl (Reg.off rfl rfl rfl (Reg.off rfl rfl rfl (Reg.op rfl (Ope.pickT rfl rfl ?_))))))
          refine Reg.op rfl (Ope.mov rfl ?_)
          refine Reg.off rfl rfl rfl (Reg.off rfl rfl rfl (Reg.off rfl rfl rfl (Reg.off rfl rfl rfl (Reg.past rfl rfl rfl (Reg.past rfl rfl rfl (Reg.off rfl rfl rfl (Reg.op rfl (Ope.pickT rfl rfl ?_))))))))
          refine Reg.nil (Run.condT rfl (Run.seq (Run.region (cx_ok _ _ _) (Reg.op rfl (Ope.asg rfl ?_)))))
          exact Reg.nil (Run.ret (Jmp.code (fin_ret (.tmp rfl .nil) rfl rfl)))
        ·first
         |(first | (exfalso;omega) | (exfalso;simp at hg;done))
         |refine Reg.on rfl rfl rfl (Ope.mov rfl ?_)
          refine Reg.on rfl rfl rfl (Ope.eq rfl rfl ?_)
          refine Reg.on rfl rfl rfl (Ope.mov rfl ?_)
          refine Reg.on rfl rfl rfl (Ope.gt rfl rfl ?_)
          refine Reg.on rfl rfl rfl (Ope.neV (b:=false) rfl rfl (neB _ _ _ _ rfl) ?_)
          refine Reg.op rfl (Ope.pickF rfl rfl ?_)
          refine Reg.op rfl (Ope.mov rfl ?_)
          refine Reg.splitX rfl rfl (fun hg=>?_) fun hg=>?_
          ·first
           |(first | (exfalso;omega) | (exfalso;simp at hg;done))
           |refine Reg.off rfl rfl rfl (Reg.off rfl rfl rfl (Reg.off rfl rfl rfl (Reg.off rfl rfl rfl (Reg.past rfl rfl rfl (Reg.past rfl rfl rfl (Reg.off rfl rfl rfl (Reg.op rfl (Ope.pickT rfl rfl ?_))))))))
            refine Reg.nil (Run.condT rfl (Run.seq (Run.region (cx_ok _ _ _) (Reg.op rfl (Ope.asg rfl ?_)))))
            exact Reg.nil (Run.ret (Jmp.code (fin_ret (.tmp rfl .nil) rfl rfl)))
          ·first
           |(first | (exfalso;omega) | (exfalso;simp at hg;done))
           |refine Reg.on rfl rfl rfl (Ope.load rfl rfl ?_)
            refine Reg.on rfl rfl rfl (Ope.mov rfl ?_)
            refine Reg.on rfl rfl rfl (Ope.cf rfl rfl hrg hbo ?_)
            refine Reg.on rfl rfl rfl (Ope.mov rfl ?_)
            refine Reg.splitX rfl rfl (fun hg=>?_) fun hg=>?_
            ·first
             |(first | (exfalso;omega) | (exfalso;simp at hg;done))
             |refine Reg.on rfl rfl rfl (Ope.mov rfl ?_)
              refine Reg.on rfl rfl rfl (Ope.eq rfl rfl ?_)
              refine Reg.on rfl rfl rfl (Ope.pickT rfl rfl ?_)
              refine Reg.op rfl (Ope.pickF rfl rfl ?_)
              refine Reg.nil (Run.condX rfl (fun hc=>?_) fun hc=>?_)
              ·first | cases hc | (exfalso;omega) | (exfalso;simp at hc;done)
              ·refine Run.skip (Run.seq (Run.seq (Run.region (cx_ok _ _ _) (Reg.op rfl (Ope.mov rfl ?_)))))
               refine Reg.op rfl (Ope.ne rfl rfl ?_)
               refine Reg.nil (Run.condX rfl (fun hc=>?_) fun hc=>?_)
               ·refine Run.seq (Run.region (cx_ok _ _ _) (Reg.op rfl (Ope.mov rfl ?_)))
                refine Reg.op rfl (Ope.eq rfl rfl ?_)
                refine Reg.op rfl (Ope.mov rfl ?_)
                refine Reg.splitX rfl rfl (fun hg=>?_) fun hg=>?_
                ·first
                 |(first | (exfalso;omega) | (exfalso;simp at hg;done))
                 |refine Reg.on rfl rfl rfl (Ope.mov rfl ?_)
                  refine Reg.on rfl rfl rfl (Ope.eq rfl rfl ?_)
                  refine Reg.op rfl (Ope.pickT rfl rfl ?_)
                  refine Reg.op rfl (Ope.mov rfl ?_)
                  refine Reg.splitX rfl rfl (fun hg=>?_) fun hg=>?_
                  ·first
                   |(first | (exfalso;omega) | (exfalso;simp at hg;done))
                   |refine Reg.on rfl rfl rfl (Ope.mov rfl ?_)
                    refine Reg.on rfl rfl rfl (Ope.len (m:=0) rfl rfl ?_)
                    refine Reg.on rfl rfl rfl (Ope.eq rfl rfl ?_)
                    refine Reg.op rfl (Ope.pickT rfl rfl ?_)
                    refine Reg.op rfl (Ope.mov rfl ?_)
                    refine Reg.splitX rfl rfl (fun hg=>?_) fun hg=>?_
                    ·first
                     |(first | (exfalso;omega) | (exfalso;simp at hg;done))
                     |refine Reg.on rfl rfl rfl (Ope.mov rfl ?_)
                      refine Reg.on rfl rfl rfl (Ope.eq rfl rfl ?_)
                      refine Reg.op rfl (Ope.pickT rfl rfl ?_)
                      refine Reg.op rfl (Ope.mov rfl ?_)
                      refine Reg.splitX rfl rfl (fun hg=>?_) fun hg=>?_
                      ·first
                       |(first | (exfalso;omega) | (exfalso;simp at hg;done))
                       |refine Reg.on rfl rfl rfl (Ope.cf rfl rfl (awakeF) rfl ?_)
                        refine Reg.op rfl (Ope.pickT rfl rfl ?_)
                        refine Reg.op rfl (Ope.asg rfl ?_)
                        exact Reg.nil (Run.ret (Jmp.code (fin_ret (.tmp rfl .nil) rfl rfl)))
                      ·first
                       |(first | (exfalso;omega) | (exfalso;simp at hg;done))
                       |refine Reg.off rfl rfl rfl (Reg.op rfl (Ope.pickF rfl rfl ?_))
                        refine Reg.op rfl (Ope.asg rfl ?_)
                        exact Reg.nil (Run.ret (Jmp.code (fin_ret (.tmp rfl .nil) rfl rfl)))
                    ·first
                     |(first | (exfalso;omega) | (exfalso;simp at hg;done))
                     |refine Reg.off rfl rfl rfl (Reg.off rfl rfl rfl (Reg.op rfl (Ope.pickF rfl rfl ?_)))
                      refine Reg.op rfl (Ope.mov rfl ?_)
                      refine Reg.off rfl rfl rfl (Reg.op rfl (Ope.pickF rfl rfl ?_))
                      refine Reg.op rfl (Ope.asg rfl ?_)
                      exact Reg.nil (Run.ret (Jmp.code (fin_ret (.tmp rfl .nil) rfl rfl)))
                  ·first
                   |(first | (exfalso;omega) | (exfalso;simp at hg;done))
                   |refine Reg.off rfl rfl rfl (Reg.off rfl rfl rfl (Reg.off rfl rfl rfl (Reg.op rfl (Ope.pickF rfl rfl ?_))))
                    refine Reg.op rfl (Ope.mov rfl ?_)
                    refine Reg.off rfl rfl rfl (Reg.off rfl rfl rfl (Reg.op rfl (Ope.pickF rfl rfl ?_)))
                    refine Reg.op rfl (Ope.mov rfl ?_)
                    refine Reg.off rfl rfl rfl (Reg.op rfl (Ope.pickF rfl rfl ?_))
                    refine Reg.op rfl (Ope.asg rfl ?_)
                    exact Reg.nil (Run.ret (Jmp.code (fin_ret (.tmp rfl .nil) rfl rfl)))
                ·first
                 |(first | (exfalso;omega) | (exfalso;simp at hg;done))
                 |refine Reg.off rfl rfl rfl (Reg.off rfl rfl rfl (Reg.op rfl (Ope.pickF rfl rfl ?_)))
                  refine Reg.op rfl (Ope.mov rfl ?_)
                  refine Reg.off rfl rfl rfl (Reg.off rfl rfl rfl (Reg.off rfl rfl rfl (Reg.op rfl (Ope.pickF rfl rfl ?_))))
                  refine Reg.op rfl (Ope.mov rfl ?_)
                  refine Reg.off rfl rfl rfl (Reg.off rfl rfl rfl (Reg.op rfl (Ope.pickF rfl rfl ?_)))
                  refine Reg.op rfl (Ope.mov rfl ?_)
                  refine Reg.off rfl rfl rfl (Reg.op rfl (Ope.pickF rfl rfl ?_))
                  refine Reg.op rfl (Ope.asg rfl ?_)
                  exact Reg.nil (Run.ret (Jmp.code (fin_ret (.tmp rfl .nil) rfl rfl)))
               ·(exfalso;omega)
            ·first
             |(first | (exfalso;omega) | (exfalso;simp at hg;done))
             |refine Reg.off rfl rfl rfl (Reg.off rfl rfl rfl (Reg.on rfl rfl rfl (Ope.pickF rfl rfl ?_)))
              refine Reg.op rfl (Ope.pickF rfl rfl ?_)
              refine Reg.nil (Run.condF rfl (Run.skip (Run.seq (Run.seq (Run.region (cx_ok _ _ _) (Reg.op rfl (Ope.mov rfl ?_)))))))
              refine Reg.op rfl (Ope.ne rfl rfl ?_)
              refine Reg.nil (Run.condX rfl (fun hc=>?_) fun hc=>?_)
              ·refine Run.seq (Run.region (cx_ok _ _ _) (Reg.op rfl (Ope.mov rfl ?_)))
               refine Reg.op rfl (Ope.eq rfl rfl ?_)
               refine Reg.op rfl (Ope.mov rfl ?_)
               refine Reg.splitX rfl rfl (fun hg=>?_) fun hg=>?_
               ·first
                |(first | (exfalso;omega) | (exfalso;simp at hg;done))
                |refine Reg.on rfl rfl rfl (Ope.mov rfl ?_)
                 refine Reg.on rfl rfl rfl (Ope.eq rfl rfl ?_)
                 refine Reg.op rfl (Ope.pickT rfl rfl ?_)
                 refine Reg.op rfl (Ope.mov rfl ?_)
                 refine Reg.splitX rfl rfl (fun hg=>?_) fun hg=>?_
                 ·first
                  |(first | (exfalso;omega) | (exfalso;simp at hg;done))
                  |refine Reg.on rfl rfl rfl (Ope.mov rfl ?_)
                   refine Reg.on rfl rfl rfl (Ope.len (m:=0) rfl rfl ?_)
                   refine Reg.on rfl rfl rfl (Ope.eq rfl rfl ?_)
                   refine Reg.op rfl (Ope.pickT rfl rfl ?_)
                   refine Reg.op rfl (Ope.mov rfl ?_)
                   refine Reg.splitX rfl rfl (fun hg=>?_) fun hg=>?_
                   ·first
                    |(first | (exfalso;omega) | (exfalso;simp at hg;done))
                    |refine Reg.on rfl rfl rfl (Ope.mov rfl ?_)
                     refine Reg.on rfl rfl rfl (Ope.eq rfl rfl ?_)
                     refine Reg.op rfl (Ope.pickT rfl rfl ?_)
                     refine Reg.op rfl (Ope.mov rfl ?_)
                     refine Reg.splitX rfl rfl (fun hg=>?_) fun hg=>?_
                     ·first
                      |(first | (exfalso;omega) | (exfalso;simp at hg;done))
                      |refine Reg.on rfl rfl rfl (Ope.cf rfl rfl (awakeF) rfl ?_)
                       refine Reg.op rfl (Ope.pickT rfl rfl ?_)
                       refine Reg.op rfl (Ope.asg rfl ?_)
                       exact Reg.nil (Run.ret (Jmp.code (fin_ret (.tmp rfl .nil) rfl rfl)))
                     ·first
                      |(first | (exfalso;omega) | (exfalso;simp at hg;done))
                      |refine Reg.off rfl rfl rfl (Reg.op rfl (Ope.pickF rfl rfl ?_))
                       refine Reg.op rfl (Ope.asg rfl ?_)
                       exact Reg.nil (Run.ret (Jmp.code (fin_ret (.tmp rfl .nil) rfl rfl)))
                   ·first
                    |(first | (exfalso;omega) | (exfalso;simp at hg;done))
                    |refine Reg.off rfl rfl rfl (Reg.off rfl rfl rfl (Reg.op rfl (Ope.pickF rfl rfl ?_)))
                     refine Reg.op rfl (Ope.mov rfl ?_)
                     refine Reg.off rfl rfl rfl (Reg.op rfl (Ope.pickF rfl rfl ?_))
                     refine Reg.op rfl (Ope.asg rfl ?_)
                     exact Reg.nil (Run.ret (Jmp.code (fin_ret (.tmp rfl .nil) rfl rfl)))
                 ·first
                  |(first | (exfalso;omega) | (exfalso;simp at hg;done))
                  |refine Reg.off rfl rfl rfl (Reg.off rfl rfl rfl (Reg.off rfl rfl rfl (Reg.op rfl (Ope.pickF rfl rfl ?_))))
                   refine Reg.op rfl (Ope.mov rfl ?_)
                   refine Reg.off rfl rfl rfl (Reg.off rfl rfl rfl (Reg.op rfl (Ope.pickF rfl rfl ?_)))
                   refine Reg.op rfl (Ope.mov rfl ?_)
                   refine Reg.off rfl rfl rfl (Reg.op rfl (Ope.pickF rfl rfl ?_))
                   refine Reg.op rfl (Ope.asg rfl ?_)
                   exact Reg.nil (Run.ret (Jmp.code (fin_ret (.tmp rfl .nil) rfl rfl)))
               ·first
                |(first | (exfalso;omega) | (exfalso;simp at hg;done))
                |refine Reg.off rfl rfl rfl (Reg.off rfl rfl rfl (Reg.op rfl (Ope.pickF rfl rfl ?_)))
                 refine Reg.op rfl (Ope.mov rfl ?_)
                 refine Reg.off rfl rfl rfl (Reg.off rfl rfl rfl (Reg.off rfl rfl rfl (Reg.op rfl (Ope.pickF rfl rfl ?_))))
                 refine Reg.op rfl (Ope.mov rfl ?_)
                 refine Reg.off rfl rfl rfl (Reg.off rfl rfl rfl (Reg.op rfl (Ope.pickF rfl rfl ?_)))
                 refine Reg.op rfl (Ope.mov rfl ?_)
                 refine Reg.off rfl rfl rfl (Reg.op rfl (Ope.pickF rfl rfl ?_))
                 refine Reg.op rfl (Ope.asg rfl ?_)
                 exact Reg.nil (Run.ret (Jmp.code (fin_ret (.tmp rfl .nil) rfl rfl)))
              ·(exfalso;omega)
theorem f7y (hv : s.val = true) (hi : s.i64) (tb : Tail) (htb : tb.isOwn = false) (by' : List Nat) (om : List Nat) (tm : Tail) (htm : tm.isOwn = false) (hom : Ordr s.jo.length om) (hma : Fn P0 34 [s.v t1 t2, .sl tb (by'.map U8)] (.sl tm (om.map N))) (hn : 0 < s.all.n) :
    Fn P0 7 [s.v t1 t2,.sl tb (by'.map U8)] (B true):=by
  have hfi:=f33 s h1 h2 hi
  rw [hv] at hfi
  have hs:=val_ok hi hv
  have hn6:=hs.jo
  have hol:=hom.len
  have hbs:PV.bds 0 [s.v t1 t2]=true:=bd_shpV s h1 h2 rfl
  have hbf:PV.bds 0 [s.v t1 t2,.sl .ex []]=true:=bd_shpV s h1 h2 rfl
  have hbm:PV.bds 0 [s.v t1 t2,.sl tb (by'.map U8)]=true:=bd_shpV s h1 h2 (bds_cons (bd_sl (f:=U8) htb (fun _=>rfl) _) rfl)
  have hbo:PV.bds 0 [s.v t1 t2,.sl tm (om.map N)]=true:=bd_ord s h1 h2 tm htm om
  have hbc:∀ (tq:Tail) (o:List Nat),tq.isOwn=false→PV.bds 0 [.sl tq (o.map N),.fp (s.v t1 t2)]=true:=fun tq o h=>by
    have e1:=bd_sl (f:=N) h (fun _=>rfl) o
    have e2:PV.bd 0 (.fp (s.v t1 t2))=true:=by rw [PV.bd];exact bd_shv s h1 h2
    exact bds_cons e1 (bds_cons e2 rfl)
  have hfa:=f12 s h1 h2 .ex []
  rw [show farB s.su.length s.jo.length ([]:List PV).length=false from by
    have:=hs.su;have:=hs.jo
    unfold farB
    rw [decide_eq_false (by omega),decide_eq_false (by omega)];rfl] at hfa
  have hbe:=f26ok s h1 h2 hv hs hn
  have hun:=f28ok s h1 h2 hv hs hn
  have hco:=f20ok s h1 h2 hv hs
  obtain ⟨ab1,ab2,ab3,ab4,o9,ab5,ab6,ab7⟩:=all_best hn
  have hbl:=ab1.len
  have hlow:=past_sum hs ab5
  rw [← ab7] at hlow
  have hbt:=otl_own s.all.o
  have hrg:=f37 s h1 h2 hv hs tm htm om hom
  have hrb:=f37 s h1 h2 hv hs (otl s.all.o) hbt s.all.o ab1
  rw [ab2] at hrb
  have hcn:=f39 s h1 h2 hv hs tm htm om hom
  have hcb:=f39 s h1 h2 hv hs (otl s.all.o) hbt s.all.o ab1
  rw [← ab3] at hcb
  have hla:=f40 s h1 h2 hv hs tm htm om hom
  have hlb:=f40 s h1 h2 hv hs (otl s.all.o) hbt s.all.o ab1
  have hlb4:=(ab4 _ ab1 ab2).2
  have hom4:=fun h=>ab4 om hom h
  have hfst:=fun h hc=>all_first hom h hc
  have hor:=f38 s h1 h2 (by omega) (otl s.all.o) hbt (s.all.o.map fun i:Nat=>(i:Int)) (by rw [List.length_map];omega)
  rw [map_N,ordR_eq hn6,ordr_B hn6 ab1] at hor
  have hbb:PV.bds 0 [s.v t1 t2,.sl (otl s.all.o) (s.all.o.map N)]=true:=bd_ord s h1 h2 _ hbt _
  have hsb:∀ i,i≤s.jo.length→0≤s.sumH i∧s.sumH i≤30 * i:=fun i=>by
    induction i with
    | zero=>intro _;exact ⟨Int.le_refl _,Int.le_refl _⟩
    | succ i ih =>
      intro h
      have:=ih (by omega)
      have:=(hs.job (i:=i) (by omega)).mi
      rw [sumH_succ]
      omega
  have hfb:∀ i,i≤s.jo.length→0≤s.fstS i∧s.fstS i≤30:=fun i=>by
    induction i with
    | zero=>intro _;exact ⟨Int.le_refl _,by show (0:Int)≤_;decide⟩
    | succ i ih =>
      intro h
      have:=ih (by omega)
      have hk:=(hs.job (i:=i) (by omega)).kd
      have hst:=hs.set (q:=(s.job i).kd.toNat) (by omega)
      rw [show (((s.job i).kd.toNat:Nat):Int)=(s.job i).kd from by omega] at hst
      simp only [Shp.fstS]
      split
      · exact hst
      · omega
  have hkd:∀ i (h:i < s.jo.length),∃ q:Nat,s.jo[i].kd=(q:Int)∧q < s.su.length∧s.set s.jo[i].kd=s.su.getD q 0:=fun i h=>by
    have hk:=(hs.job h).kd
    rw [Shp.job_at h] at hk
    refine ⟨s.jo[i].kd.toNat,by omega,by omega,rfl⟩
  have hss:=fun i=>sumH_succ s i
  have hfs:∀ i,s.fstS (i+1)=if i=0∨s.set (s.job i).kd < s.fstS i then s.set (s.job i).kd else s.fstS i:=fun i=>rfl
  have hs0:s.sumH 0=0:=rfl
  have hf0:s.fstS 0=0:=rfl
  have hcB:-1000000000≤s.all.c∧s.all.c≤1000000000:=by
    have hg0:=good0 s h1 h2 hs 0 (Nat.two_pow_pos _)
    rw [lft_0] at hg0
    have h:=(out_ok hs hg0 hn6).c
    change 0≤s.all.c∧s.all.c≤1000000000 at h
    omega
  generalize s.cst Shp.p0 om=k0 at *
  generalize (s.past Shp.p0 om).f1=l0 at *
  generalize (s.past Shp.p0 s.all.o).f1=lb at *
  generalize s.rgt om=r at *
  generalize s.sumH=sH at *
  generalize s.fstS=fS at *
  generalize otl s.all.o=bt at *
  generalize s.all.o=BO at *
  generalize s.all.n=na at *
  generalize s.all.c=C at *
  generalize s.all.t=T at *
  refine PFun.of (C:=c7) (cx_ok _ _ _) rfl (fn:=Try.f7) (by kernel_rfl) (c:=_) rfl rfl rfl ?_
  refine Run.seq (Run.region (cx_ok _ _ _) (Reg.op rfl (Ope.boxF rfl rfl ?_)))
  refine Reg.op rfl (Ope.asg rfl ?_)
  refine Reg.nil (Run.seq (Run.region (cx_ok _ _ _) (Reg.op rfl (Ope.load rfl rfl ?_))))
  refine Reg.op rfl (Ope.cf rfl rfl hbe hbs ?_)
  refine Reg.op rfl (Ope.mov rfl ?_)
  refine Reg.op rfl (Ope.ext rfl rfl ?_)
  refine Reg.op rfl (Ope.ext rfl rfl ?_)
  refine Reg.op rfl (Ope.ext rfl rfl ?_)
  refine Reg.op rfl (Ope.asg rfl ?_)
  refine Reg.op rfl (Ope.asg rfl ?_)
  refine Reg.op rfl (Ope.asg rfl ?_)
  refine Reg.nil (Run.seq (Run.region (cx_ok _ _ _) (Reg.op rfl (Ope.load rfl rfl ?_))))
  refine Reg.op rfl (Ope.cf rfl rfl hun hbs ?_)
  refine Reg.op rfl (Ope.mov rfl ?_)
  refine Reg.op rfl (Ope.ext rfl rfl ?_)
  refine Reg.op rfl (Ope.ext rfl rfl ?_)
  refine Reg.op rfl (Ope.asg rfl ?_)
  refine Reg.op rfl (Ope.asg rfl ?_)
  refine Reg.nil (Run.seq (Run.region (cx_ok _ _ _) (Reg.op rfl (Ope.load rfl rfl ?_))))
  refine Reg.op rfl (Ope.cf rfl rfl hco hbs ?_)
  refine Reg.op rfl (Ope.mov rfl ?_)
  refine Reg.op rfl (Ope.ext rfl rfl ?_)
  refine Reg.op rfl (Ope.ext rfl rfl ?_)
  refine Reg.op rfl (Ope.asg rfl ?_)
  refine Reg.op rfl (Ope.asg rfl ?_)
  refine Reg.nil (Run.seq (Run.seq (Run.region (cx_ok _ _ _) (Reg.op rfl (Ope.load rfl rfl ?_)))))
  refine Reg.op rfl (Ope.cf rfl rfl hfa hbf ?_)
  refine Reg.nil (Run.condX rfl (fun hc=>?_) fun hc=>?_)
  ·cases hc
  ·refine Run.skip (Run.seq (Run.seq (Run.region (cx_ok _ _ _) (Reg.op rfl (Ope.load rfl rfl ?_)))))
   refine Reg.op rfl (Ope.cf rfl rfl hfi hbs ?_)
   refine Reg.op rfl (Ope.not rfl ?_)
   refine Reg.nil (Run.condX rfl (fun hc=>?_) fun hc=>?_)
   ·cases hc
   ·refine Run.skip (Run.seq (Run.region (cx_ok _ _ _) (Reg.op rfl (Ope.load rfl rfl ?_))))
    refine Reg.op rfl (Ope.mov rfl ?_)
    refine Reg.op rfl (Ope.cf rfl rfl hma hbm ?_)
    refine Reg.op rfl (Ope.asg rfl ?_)
    refine Reg.nil (Run.seq (Run.seq (Run.cut (fun e' d' h'=>Lsub [(2,.fp (s.v t1 t2)),(5,I C),(6,.sl bt (BO.map N)),(7,I 0),(8,I T),(9,I 0),(10,N na),(11,I 0),(12,.sl tm (om.map N)),(103,B false)] e'∧d'=[]∧h'=HE 0 []) ?_ ?_)))
    ·refine Run.region (cx_ok _ _ _) (Reg.op rfl (Ope.mov rfl ?_))
     refine Reg.op rfl (Ope.ne rfl rfl ?_)
     refine Reg.op rfl (Ope.mov rfl ?_)
     refine Reg.splitX rfl rfl (fun hg=>?_) fun hg=>?_
     ·first
      |(first | (exfalso;omega) | (exfalso;simp at hg;done))
      |refine Reg.off rfl rfl rfl (Reg.off rfl rfl rfl (Reg.op rfl (Ope.pickT rfl rfl ?_)))
       refine Reg.op rfl (Ope.mov rfl ?_)
       refine Reg.off rfl rfl rfl (Reg.off rfl rfl rfl (Reg.off rfl rfl rfl (Reg.op rfl (Ope.pickT rfl rfl ?_))))
       refine Reg.op rfl (Ope.mov rfl ?_)
       refine Reg.off rfl rfl rfl (Reg.off rfl rfl rfl (Reg.off rfl rfl rfl (Reg.off rfl rfl rfl (Reg.off rfl rfl rfl (Reg.op rfl (Ope.pickT rfl rfl ?_))))))
       refine Reg.op rfl (Ope.mov rfl ?_)
       refine Reg.off rfl rfl rfl (Reg.off rfl rfl rfl (Reg.off rfl rfl rfl (Reg.off rfl rfl rfl (Reg.past rfl rfl rfl (Reg.past rfl rfl rfl (Reg.off rfl rfl rfl (Reg.op rfl (Ope.pickT rfl rfl ?_))))))))
       refine Reg.nil ?_
       first | exact Run.lend ⟨⟨rfl,rfl,rfl,rfl,rfl,rfl,rfl,rfl,rfl,rfl,trivial⟩,rfl,rfl⟩ | exact Run.lend ⟨⟨rfl,rfl,rfl,rfl,rfl,rfl,rfl,rfl,rfl,congrArg (fun b=>some (B b)) (decide_eq_false (by omega)),trivial⟩,rfl,rfl⟩ | (exfalso;omega) | (exfalso;simp at hg;done)
     ·first
      |(first | (exfalso;omega) | (exfalso;simp at hg;done))
      |refine Reg.on rfl rfl rfl (Ope.mov rfl ?_)
       refine Reg.on rfl rfl rfl (Ope.lt rfl rfl ?_)
       refine Reg.op rfl (Ope.pickF rfl rfl ?_)
       refine Reg.op rfl (Ope.mov rfl ?_)
       refine Reg.splitX rfl rfl (fun hg=>?_) fun hg=>?_
       ·first
        |(first | (exfalso;omega) | (exfalso;simp at hg;done))
        |refine Reg.off rfl rfl rfl (Reg.off rfl rfl rfl (Reg.off rfl rfl rfl (Reg.op rfl (Ope.pickT rfl rfl ?_))))
         refine Reg.op rfl (Ope.mov rfl ?_)
         refine Reg.off rfl rfl rfl (Reg.off rfl rfl rfl (Reg.off rfl rfl rfl (Reg.off rfl rfl rfl (Reg.off rfl rfl rfl (Reg.op rfl (Ope.pickT rfl rfl ?_))))))
         refine Reg.op rfl (Ope.mov rfl ?_)
         refine Reg.off rfl rfl rfl (Reg.off rfl rfl rfl (Reg.off rfl rfl rfl (Reg.off rfl rfl rfl (Reg.past rfl rfl rfl (Reg.past rfl rfl rfl (Reg.off rfl rfl rfl (Reg.op rfl (Ope.pickT rfl rfl ?_))))))))
         refine Reg.nil ?_
         first | exact Run.lend ⟨⟨rfl,rfl,rfl,rfl,rfl,rfl,rfl,rfl,rfl,rfl,trivial⟩,rfl,rfl⟩ | exact Run.lend ⟨⟨rfl,rfl,rfl,rfl,rfl,rfl,rfl,rfl,rfl,congrArg (fun b=>some (B b)) (decide_eq_false (by omega)),trivial⟩,rfl,rfl⟩ | (exfalso;omega) | (exfalso;simp at hg;done)
       ·first
        |(first | (exfalso;omega) | (exfalso;simp at hg;done))
        |refine Reg.on rfl rfl rfl (Ope.mov rfl ?_)
         refine Reg.on rfl rfl rfl (Ope.mov rfl ?_)
         refine Reg.on rfl rfl rfl (Ope.ne rfl rfl ?_)
         refine Reg.op rfl (Ope.pickF rfl rfl ?_)
         refine Reg.op rfl (Ope.mov rfl ?_)
         refine Reg.splitX rfl rfl (fun hg=>?_) fun hg=>?_
         ·first
          |(first | (exfalso;omega) | (exfalso;simp at hg;done))
          |refine Reg.off rfl rfl rfl (Reg.off rfl rfl rfl (Reg.off rfl rfl rfl (Reg.off rfl rfl rfl (Reg.off rfl rfl rfl (Reg.op rfl (Ope.pickT rfl rfl ?_))))))
           refine Reg.op rfl (Ope.mov rfl ?_)
           refine Reg.off rfl rfl rfl (Reg.off rfl rfl rfl (Reg.off rfl rfl rfl (Reg.off rfl rfl rfl (Reg.past rfl rfl rfl (Reg.past rfl rfl rfl (Reg.off rfl rfl rfl (Reg.op rfl (Ope.pickT rfl rfl ?_))))))))
           refine Reg.nil ?_
           first | exact Run.lend ⟨⟨rfl,rfl,rfl,rfl,rfl,rfl,rfl,rfl,rfl,rfl,trivial⟩,rfl,rfl⟩ | exact Run.lend ⟨⟨rfl,rfl,rfl,rfl,rfl,rfl,rfl,rfl,rfl,congrArg (fun b=>some (B b)) (decide_eq_false (by omega)),trivial⟩,rfl,rfl⟩ | (exfalso;omega) | (exfalso;simp at hg;done)
         ·first
          |(first | (exfalso;omega) | (exfalso;simp at hg;done))
          |refine Reg.on rfl rfl rfl (Ope.mov rfl ?_)
           refine Reg.on rfl rfl rfl (Ope.eq rfl rfl ?_)
           refine Reg.on rfl rfl rfl (Ope.mov rfl ?_)
           refine Reg.on rfl rfl rfl (Ope.gt rfl rfl ?_)
           refine Reg.on rfl rfl rfl (Ope.neV (b:=false) rfl rfl (neB _ _ _ _ (by rw [decide_eq_true (show (0:Int) < na by omega)];rfl)) ?_)
           refine Reg.op rfl (Ope.pickF rfl rfl ?_)
           refine Reg.op rfl (Ope.mov rfl ?_)
           refine Reg.splitX rfl rfl (fun hg=>?_) fun hg=>?_
           ·first
            |(first | (exfalso;omega) | (exfalso;simp at hg;done))
            |refine Reg.off rfl rfl rfl (Reg.off rfl rfl rfl (Reg.off rfl rfl rfl (Reg.off rfl rfl rfl (Reg.past rfl rfl rfl (Reg.past rfl rfl rfl (Reg.off rfl rfl rfl (Reg.op rfl (Ope.pickT rfl rfl ?_))))))))
             refine Reg.nil ?_
             first | exact Run.lend ⟨⟨rfl,rfl,rfl,rfl,rfl,rfl,rfl,rfl,rfl,rfl,trivial⟩,rfl,rfl⟩ | exact Run.lend ⟨⟨rfl,rfl,rfl,rfl,rfl,rfl,rfl,rfl,rfl,congrArg (fun b=>some (B b)) (decide_eq_false (by omega)),trivial⟩,rfl,rfl⟩ | (exfalso;omega) | (exfalso;simp at hg;done)
           ·first
            |(first | (exfalso;omega) | (exfalso;simp at hg;done))
            |refine Reg.on rfl rfl rfl (Ope.load rfl rfl ?_)
             refine Reg.on rfl rfl rfl (Ope.mov rfl ?_)
             refine Reg.on rfl rfl rfl (Ope.cf rfl rfl hrg hbo ?_)
             refine Reg.on rfl rfl rfl (Ope.mov rfl ?_)
             refine Reg.splitX rfl rfl (fun hg=>?_) fun hg=>?_
             ·first
              |(first | (exfalso;omega) | (exfalso;simp at hg;done))
              |refine Reg.on rfl rfl rfl (Ope.mov rfl ?_)
               refine Reg.on rfl rfl rfl (Ope.eq rfl rfl ?_)
               refine Reg.on rfl rfl rfl (Ope.pickT rfl rfl ?_)
               refine Reg.op rfl (Ope.pickF rfl rfl ?_)
               refine Reg.nil ?_
               first | exact Run.lend ⟨⟨rfl,rfl,rfl,rfl,rfl,rfl,rfl,rfl,rfl,rfl,trivial⟩,rfl,rfl⟩ | exact Run.lend ⟨⟨rfl,rfl,rfl,rfl,rfl,rfl,rfl,rfl,rfl,congrArg (fun b=>some (B b)) (decide_eq_false (by omega)),trivial⟩,rfl,rfl⟩ | (exfalso;omega) | (exfalso;simp at hg;done)
             ·first
              |(first | (exfalso;omega) | (exfalso;simp at hg;done))
              |refine Reg.off rfl rfl rfl (Reg.off rfl rfl rfl (Reg.on rfl rfl rfl (Ope.pickF rfl rfl ?_)))
               refine Reg.op rfl (Ope.pickF rfl rfl ?_)
               refine Reg.nil ?_
               first | exact Run.lend ⟨⟨rfl,rfl,rfl,rfl,rfl,rfl,rfl,rfl,rfl,rfl,trivial⟩,rfl,rfl⟩ | exact Run.lend ⟨⟨rfl,rfl,rfl,rfl,rfl,rfl,rfl,rfl,rfl,congrArg (fun b=>some (B b)) (decide_eq_false (by omega)),trivial⟩,rfl,rfl⟩ | (exfalso;omega) | (exfalso;simp at hg;done)
    ·rintro e' d' h' ⟨hsb2, rfl, rfl⟩; refine Run.less hsb2 ?_
     refine Run.condX rfl (fun hc=>?_) fun hc=>?_
     ·cases hc
     ·refine Run.skip (Run.seq (Run.seq (Run.region (cx_ok _ _ _) (Reg.op rfl (Ope.mov rfl ?_)))))
      refine Reg.op rfl (Ope.ne rfl rfl ?_)
      refine Reg.nil (Run.condX rfl (fun hc=>?_) fun hc=>?_)
      ·exact absurd rfl hc
      ·refine Run.skip (Run.seq (Run.region (cx_ok _ _ _) (Reg.op rfl (Ope.asg rfl ?_))))
       refine Reg.op rfl (Ope.asg rfl ?_)
       refine Reg.nil (Run.seq (Run.seq (Run.region (cx_ok _ _ _) (Reg.op rfl (Ope.fld rfl rfl ?_)))))
       refine Reg.op rfl (Ope.load rfl rfl ?_)
       refine Reg.op rfl (Ope.len (m:=s.jo.length) rfl (by simp) ?_)
       refine Reg.op rfl (Ope.mov rfl ?_)
       refine Reg.nil (Run.block (Run.loop (α:=Nat×Nat) (fun t=>[(2,.fp (s.v t1 t2)),(5,I C),(6,.sl bt (BO.map N)),(8,I T),(12,.sl tm (om.map N)),(13,I (sH t.1)),(14,I (fS t.1)),(125,.sl t2 (s.jo.map Job.v)),(126,I s.jo.length),(127,I t.1)]) (fun t=>HE t.2 []) (fun t=>t.1≤s.jo.length) (fun t=>s.jo.length - t.1) (0,0) ⟨rfl,rfl,rfl,rfl,rfl,congrArg (fun x=>some (I x)) hs0.symm,congrArg (fun x=>some (I x)) hf0.symm,rfl,rfl,rfl,trivial⟩ rfl (Nat.zero_le _) (fun t ht=>?_)))
       obtain ⟨i,m⟩:=t
       simp only at ht
       show Run _ _ _ _ [(2,.fp (s.v t1 t2)),(5,I C),(6,.sl bt (BO.map N)),(8,I T),(12,.sl tm (om.map N)),(13,I (sH i)),(14,I (fS i)),(125,.sl t2 (s.jo.map Job.v)),(126,I s.jo.length),(127,I i)] [] (HE m [])
       refine Run.seq (Run.region (cx_ok _ _ _) (Reg.op rfl (Ope.lt rfl rfl ?_)))
       refine Reg.nil (Run.seq (Run.condX rfl (fun hc=>?_) fun hc=>?_))
       ·refine Run.skip (Run.seq (Run.block (Run.seq ?_)))
        have hlt:i < s.jo.length:=by omega
        have hbi:=hsb i ht
        have hfi2:=hfb i ht
        obtain ⟨q,hq1,hq2,hq3⟩:=hkd i hlt
        have hmi:=(hs.job hlt).mi
        have hssi:=hss i
        have hfsi:=hfs i
        rw [Shp.job_at hlt] at hmi hssi hfsi
        rw [hq3] at hfsi
        have hgq:s.su.getD q 0=s.su[q]:=by simp [List.getD,hq2]
        rw [hgq] at hfsi
        refine Run.region (cx_ok _ _ _) (Reg.op rfl (Ope.mov rfl ?_))
        refine Reg.op rfl (Ope.idxM (m:=i) (f:=Job.v) rfl rfl rfl hlt (fun _=>rfl) ?_)
        refine Reg.op rfl (Ope.load rfl rfl ?_)
        refine Reg.op rfl (Ope.newL rfl ?_)
        refine Reg.op rfl (Ope.asg rfl ?_)
        refine Reg.op0 (Ope.store rfl rfl hget_hd rfl rfl rfl ?_)
        refine Reg.nil (Run.seq (Run.frz (d:=16) true rfl hget_hd rfl ?_))
        refine Run.wide (m:=m+1) (l':=[]) (Nat.le_refl _) trivial ?_
        refine Run.region (cx_ok _ _ _) (Reg.op rfl (Ope.mov rfl ?_))
        refine Reg.op rfl (Ope.fld rfl rfl ?_)
        refine Reg.op rfl (Ope.fld rfl rfl ?_)
        refine Reg.op rfl (Ope.load rfl rfl ?_)
        refine Reg.op rfl (Ope.add rfl rfl (by omega) ?_)
        refine Reg.op rfl (Ope.asg rfl ?_)
        refine Reg.nil (Run.seq (Run.region (cx_ok _ _ _) (Reg.op rfl (Ope.mov rfl ?_))))
        refine Reg.op rfl (Ope.eq rfl rfl ?_)
        refine Reg.op rfl (Ope.mov rfl ?_)
        refine Reg.splitX rfl rfl (fun hg=>?_) fun hg=>?_
        ·first
         |(first | (exfalso;omega) | (exfalso;simp at hg;done))
         |refine Reg.off rfl rfl rfl (Reg.off rfl rfl rfl (Reg.off rfl rfl rfl (Reg.off rfl rfl rfl (Reg.off rfl rfl rfl (Reg.off rfl rfl rfl (Reg.off rfl rfl rfl (Reg.off rfl rfl rfl (Reg.op rfl (Ope.pickT rfl rfl ?_)))))))))
          refine Reg.nil (Run.condT rfl (Run.region (cx_ok _ _ _) (Reg.op rfl (Ope.fld rfl rfl ?_))))
          refine Reg.op rfl (Ope.load rfl rfl ?_)
          refine Reg.op rfl (Ope.fld rfl rfl ?_)
          refine Reg.op rfl (Ope.load rfl rfl ?_)
          refine Reg.op rfl (Ope.idxM (m:=q) (f:=I) rfl rfl (by rw [hq1];rfl) hq2 (fun _=>rfl) ?_)
          refine Reg.op rfl (Ope.load rfl rfl ?_)
          refine Reg.op rfl (Ope.asg rfl ?_)
          refine Reg.nil (Run.bend (Run.region (cx_ok _ _ _) (Reg.op rfl (Ope.add rfl rfl (by omega) ?_))))
          refine Reg.op rfl (Ope.mov rfl ?_)
          refine Reg.nil ?_
          first
          | exact Run.lend ⟨(i+1,m+1),by show s.jo.length - (i+1) < s.jo.length - i;omega,by show i+1≤s.jo.length;omega,⟨rfl,rfl,rfl,rfl,rfl,congrArg (fun x=>some (I x)) hssi.symm,congrArg (fun x=>some (I x)) (hfsi.trans (if_pos (by omega))).symm,rfl,rfl,rfl,trivial⟩,rfl,rfl⟩
          | exact Run.lend ⟨(i+1,m+1),by show s.jo.length - (i+1) < s.jo.length - i;omega,by show i+1≤s.jo.length;omega,⟨rfl,rfl,rfl,rfl,rfl,congrArg (fun x=>some (I x)) hssi.symm,congrArg (fun x=>some (I x)) (hfsi.trans (if_neg (by omega))).symm,rfl,rfl,rfl,trivial⟩,rfl,rfl⟩
        ·first
         |(first | (exfalso;omega) | (exfalso;simp at hg;done))
         |refine Reg.on rfl rfl rfl (Ope.fld rfl rfl ?_)
          refine Reg.on rfl rfl rfl (Ope.load rfl rfl ?_)
          refine Reg.on rfl rfl rfl (Ope.fld rfl rfl ?_)
          refine Reg.on rfl rfl rfl (Ope.load rfl rfl ?_)
          refine Reg.on rfl rfl rfl (Ope.idxM (m:=q) (f:=I) rfl rfl (by rw [hq1];rfl) hq2 (fun _=>rfl) ?_)
          refine Reg.on rfl rfl rfl (Ope.load rfl rfl ?_)
          refine Reg.on rfl rfl rfl (Ope.mov rfl ?_)
          refine Reg.on rfl rfl rfl (Ope.lt rfl rfl ?_)
          refine Reg.op rfl (Ope.pickF rfl rfl ?_)
          refine Reg.nil (Run.condX rfl (fun hc=>?_) fun hc=>?_)
          ·refine Run.region (cx_ok _ _ _) (Reg.op rfl (Ope.fld rfl rfl ?_))
           refine Reg.op rfl (Ope.load rfl rfl ?_)
           refine Reg.op rfl (Ope.fld rfl rfl ?_)
           refine Reg.op rfl (Ope.load rfl rfl ?_)
           refine Reg.op rfl (Ope.idxM (m:=q) (f:=I) rfl rfl (by rw [hq1];rfl) hq2 (fun _=>rfl) ?_)
           refine Reg.op rfl (Ope.load rfl rfl ?_)
           refine Reg.op rfl (Ope.asg rfl ?_)
           refine Reg.nil (Run.bend (Run.region (cx_ok _ _ _) (Reg.op rfl (Ope.add rfl rfl (by omega) ?_))))
           refine Reg.op rfl (Ope.mov rfl ?_)
           refine Reg.nil ?_
           first
           | exact Run.lend ⟨(i+1,m+1),by show s.jo.length - (i+1) < s.jo.length - i;omega,by show i+1≤s.jo.length;omega,⟨rfl,rfl,rfl,rfl,rfl,congrArg (fun x=>some (I x)) hssi.symm,congrArg (fun x=>some (I x)) (hfsi.trans (if_pos (by omega))).symm,rfl,rfl,rfl,trivial⟩,rfl,rfl⟩
           | exact Run.lend ⟨(i+1,m+1),by show s.jo.length - (i+1) < s.jo.length - i;omega,by show i+1≤s.jo.length;omega,⟨rfl,rfl,rfl,rfl,rfl,congrArg (fun x=>some (I x)) hssi.symm,congrArg (fun x=>some (I x)) (hfsi.trans (if_neg (by omega))).symm,rfl,rfl,rfl,trivial⟩,rfl,rfl⟩
          ·refine Run.skip (Run.bend (Run.region (cx_ok _ _ _) (Reg.op rfl (Ope.add rfl rfl (by omega) ?_))))
           refine Reg.op rfl (Ope.mov rfl ?_)
           refine Reg.nil ?_
           first
           | exact Run.lend ⟨(i+1,m+1),by show s.jo.length - (i+1) < s.jo.length - i;omega,by show i+1≤s.jo.length;omega,⟨rfl,rfl,rfl,rfl,rfl,congrArg (fun x=>some (I x)) hssi.symm,congrArg (fun x=>some (I x)) (hfsi.trans (if_pos (by omega))).symm,rfl,rfl,rfl,trivial⟩,rfl,rfl⟩
           | exact Run.lend ⟨(i+1,m+1),by show s.jo.length - (i+1) < s.jo.length - i;omega,by show i+1≤s.jo.length;omega,⟨rfl,rfl,rfl,rfl,rfl,congrArg (fun x=>some (I x)) hssi.symm,congrArg (fun x=>some (I x)) (hfsi.trans (if_neg (by omega))).symm,rfl,rfl,rfl,trivial⟩,rfl,rfl⟩
       ·refine Run.exit (Jmp.code (Jmp.round (Jmp.here (Run.seq (Run.seq ?_)))))
        obtain rfl:i=s.jo.length:=by omega
        have hbi:=hsb _ (Nat.le_refl _)
        have hfi2:=hfb _ (Nat.le_refl _)
        refine Run.cut (fun e' d' h'=>Lsub [(2,.fp (s.v t1 t2)),(5,I C),(6,.sl bt (BO.map N)),(8,I T),(12,.sl tm (om.map N)),(179,B false)] e'∧d'=[]∧h'=HE m []) ?_ ?_
        ·refine Run.region (cx_ok _ _ _) (Reg.op rfl (Ope.load rfl rfl ?_))
         refine Reg.op rfl (Ope.mov rfl ?_)
         refine Reg.op rfl (Ope.cf rfl rfl hor hbb ?_)
         refine Reg.op rfl (Ope.not rfl ?_)
         refine Reg.op rfl (Ope.mov rfl ?_)
         refine Reg.splitX rfl rfl (fun hg=>?_) fun hg=>?_
         ·first
          |(first | (exfalso;omega) | (exfalso;simp at hg;done))
          |refine Reg.off rfl rfl rfl (Reg.off rfl rfl rfl (Reg.off rfl rfl rfl (Reg.off rfl rfl rfl (Reg.op rfl (Ope.pickT rfl rfl ?_)))))
           refine Reg.op rfl (Ope.mov rfl ?_)
           refine Reg.off rfl rfl rfl (Reg.off rfl rfl rfl (Reg.off rfl rfl rfl (Reg.off rfl rfl rfl (Reg.off rfl rfl rfl (Reg.op rfl (Ope.pickT rfl rfl ?_))))))
           refine Reg.op rfl (Ope.mov rfl ?_)
           refine Reg.off rfl rfl rfl (Reg.off rfl rfl rfl (Reg.off rfl rfl rfl (Reg.off rfl rfl rfl (Reg.off rfl rfl rfl (Reg.op rfl (Ope.pickT rfl rfl ?_))))))
           refine Reg.nil ?_
           first | exact Run.lend ⟨⟨rfl,rfl,rfl,rfl,rfl,rfl,trivial⟩,rfl,rfl⟩ | exact Run.lend ⟨⟨rfl,rfl,rfl,rfl,rfl,congrArg (fun b=>some (B b)) (decide_eq_false (by omega)),trivial⟩,rfl,rfl⟩ | (exfalso;omega) | (exfalso;simp at hg;done)
         ·first
          |(first | (exfalso;omega) | (exfalso;simp at hg;done))
          |refine Reg.on rfl rfl rfl (Ope.load rfl rfl ?_)
           refine Reg.on rfl rfl rfl (Ope.mov rfl ?_)
           refine Reg.on rfl rfl rfl (Ope.cf rfl rfl hrb hbb ?_)
           refine Reg.on rfl rfl rfl (Ope.not rfl ?_)
           refine Reg.op rfl (Ope.pickF rfl rfl ?_)
           refine Reg.op rfl (Ope.mov rfl ?_)
           refine Reg.splitX rfl rfl (fun hg=>?_) fun hg=>?_
           ·first
            |(first | (exfalso;omega) | (exfalso;simp at hg;done))
            |refine Reg.off rfl rfl rfl (Reg.off rfl rfl rfl (Reg.off rfl rfl rfl (Reg.off rfl rfl rfl (Reg.off rfl rfl rfl (Reg.op rfl (Ope.pickT rfl rfl ?_))))))
             refine Reg.op rfl (Ope.mov rfl ?_)
             refine Reg.off rfl rfl rfl (Reg.off rfl rfl rfl (Reg.off rfl rfl rfl (Reg.off rfl rfl rfl (Reg.off rfl rfl rfl (Reg.op rfl (Ope.pickT rfl rfl ?_))))))
             refine Reg.nil ?_
             first | exact Run.lend ⟨⟨rfl,rfl,rfl,rfl,rfl,rfl,trivial⟩,rfl,rfl⟩ | exact Run.lend ⟨⟨rfl,rfl,rfl,rfl,rfl,congrArg (fun b=>some (B b)) (decide_eq_false (by omega)),trivial⟩,rfl,rfl⟩ | (exfalso;omega) | (exfalso;simp at hg;done)
           ·first
            |(first | (exfalso;omega) | (exfalso;simp at hg;done))
            |refine Reg.on rfl rfl rfl (Ope.load rfl rfl ?_)
             refine Reg.on rfl rfl rfl (Ope.mov rfl ?_)
             refine Reg.on rfl rfl rfl (Ope.cf rfl rfl hcb hbb ?_)
             refine Reg.on rfl rfl rfl (Ope.mov rfl ?_)
             refine Reg.on rfl rfl rfl (Ope.ne rfl rfl ?_)
             refine Reg.op rfl (Ope.pickF rfl rfl ?_)
             refine Reg.op rfl (Ope.mov rfl ?_)
             refine Reg.splitX rfl rfl (fun hg=>?_) fun hg=>?_
             ·first
              |(first | (exfalso;omega) | (exfalso;simp at hg;done))
              |refine Reg.off rfl rfl rfl (Reg.off rfl rfl rfl (Reg.off rfl rfl rfl (Reg.off rfl rfl rfl (Reg.off rfl rfl rfl (Reg.op rfl (Ope.pickT rfl rfl ?_))))))
               refine Reg.nil ?_
               first | exact Run.lend ⟨⟨rfl,rfl,rfl,rfl,rfl,rfl,trivial⟩,rfl,rfl⟩ | exact Run.lend ⟨⟨rfl,rfl,rfl,rfl,rfl,congrArg (fun b=>some (B b)) (decide_eq_false (by omega)),trivial⟩,rfl,rfl⟩ | (exfalso;omega) | (exfalso;simp at hg;done)
             ·first
              |(first | (exfalso;omega) | (exfalso;simp at hg;done))
              |refine Reg.on rfl rfl rfl (Ope.mov rfl ?_)
               refine Reg.on rfl rfl rfl (Ope.mov rfl ?_)
               refine Reg.on rfl rfl rfl (Ope.mov rfl ?_)
               refine Reg.on rfl rfl rfl (Ope.add rfl rfl (by omega) ?_)
               refine Reg.on rfl rfl rfl (Ope.lt rfl rfl ?_)
               refine Reg.op rfl (Ope.pickF rfl rfl ?_)
               refine Reg.nil ?_
               first | exact Run.lend ⟨⟨rfl,rfl,rfl,rfl,rfl,rfl,trivial⟩,rfl,rfl⟩ | exact Run.lend ⟨⟨rfl,rfl,rfl,rfl,rfl,congrArg (fun b=>some (B b)) (decide_eq_false (by omega)),trivial⟩,rfl,rfl⟩ | (exfalso;omega) | (exfalso;simp at hg;done)
        ·rintro e' d' h' ⟨hsb2, rfl, rfl⟩; refine Run.less hsb2 ?_
         refine Run.condX rfl (fun hc=>?_) fun hc=>?_
         ·cases hc
         ·refine Run.skip (Run.seq (Run.region (cx_ok _ _ _) (Reg.op rfl (Ope.mkf rfl rfl ?_))))
          refine Reg.op rfl (Ope.asg rfl ?_)
          refine Reg.nil (Run.seq (Run.seq (Run.region (cx_ok _ _ _) (Reg.op rfl (Ope.mov rfl ?_)))))
          refine Reg.op rfl (Ope.mov rfl ?_)
          refine Reg.op rfl (Ope.cf rfl rfl hlb (hbc _ _ hbt) ?_)
          refine Reg.op rfl (Ope.mov rfl ?_)
          refine Reg.op rfl (Ope.lt rfl rfl ?_)
          refine Reg.nil (Run.condX rfl (fun hc=>?_) fun hc=>?_)
          ·(exfalso;omega)
          ·refine Run.skip (Run.seq (Run.seq (Run.region (cx_ok _ _ _) (Reg.op rfl (Ope.load rfl rfl ?_)))))
           refine Reg.op rfl (Ope.mov rfl ?_)
           refine Reg.op rfl (Ope.cf rfl rfl hrg hbo ?_)
           refine Reg.op rfl (Ope.not rfl ?_)
           refine Reg.nil (Run.condX rfl (fun hc=>?_) fun hc=>?_)
           ·refine Run.seq (Run.region (cx_ok _ _ _) (Reg.op rfl (Ope.cf rfl rfl (awakeF) rfl ?_)))
            refine Reg.op rfl (Ope.asg rfl ?_)
            exact Reg.nil (Run.ret (Jmp.code (fin_ret (.tmp rfl .nil) rfl rfl)))
           ·refine Run.skip (Run.seq ?_)
            have hr:r=true:=by simpa using hc
            obtain ⟨q1,q2⟩:=hom4 hr
            refine Run.region (cx_ok _ _ _) (Reg.op rfl (Ope.load rfl rfl ?_))
            refine Reg.op rfl (Ope.mov rfl ?_)
            refine Reg.op rfl (Ope.cf rfl rfl hcn hbo ?_)
            refine Reg.op rfl (Ope.asg rfl ?_)
            refine Reg.nil (Run.seq (Run.seq (Run.region (cx_ok _ _ _) (Reg.op rfl (Ope.mov rfl ?_)))))
            refine Reg.op rfl (Ope.mov rfl ?_)
            refine Reg.op rfl (Ope.lt rfl rfl ?_)
            refine Reg.op rfl (Ope.mov rfl ?_)
            refine Reg.splitX rfl rfl (fun hg=>?_) fun hg=>?_
            ·first
             |(first | (exfalso;omega) | (exfalso;simp at hg;done))
             |refine Reg.off rfl rfl rfl (Reg.off rfl rfl rfl (Reg.off rfl rfl rfl (Reg.off rfl rfl rfl (Reg.off rfl rfl rfl (Reg.op rfl (Ope.pickT rfl rfl ?_))))))
              refine Reg.nil (Run.condT rfl (Run.seq (Run.region (cx_ok _ _ _) (Reg.op rfl (Ope.asg rfl ?_)))))
              exact Reg.nil (Run.ret (Jmp.code (fin_ret (.tmp rfl .nil) rfl rfl)))
            ·first
             |(first | (exfalso;omega) | (exfalso;simp at hg;done))
             |refine Reg.on rfl rfl rfl (Ope.mov rfl ?_)
              refine Reg.on rfl rfl rfl (Ope.mov rfl ?_)
              refine Reg.on rfl rfl rfl (Ope.cf rfl rfl hla (hbc _ _ htm) ?_)
              refine Reg.on rfl rfl rfl (Ope.mov rfl ?_)
              refine Reg.on rfl rfl rfl (Ope.lt rfl rfl ?_)
              refine Reg.op rfl (Ope.pickF rfl rfl ?_)
              refine Reg.nil (Run.condX rfl (fun hc=>?_) fun hc=>?_)
              ·(exfalso;omega)
              ·refine Run.skip (Run.seq (Run.seq (Run.region (cx_ok _ _ _) (Reg.op rfl (Ope.mov rfl ?_)))))
               refine Reg.op rfl (Ope.len (m:=BO.length) rfl (by simp) ?_)
               refine Reg.op rfl (Ope.mov rfl ?_)
               refine Reg.nil (Run.block (Run.loop (α:=Nat) (fun i=>[(5,I C),(6,.sl bt (BO.map N)),(12,.sl tm (om.map N)),(18,I k0),(204,.sl bt (BO.map N)),(205,I BO.length),(206,I i)]) (fun _=>HE m []) (fun i=>i≤BO.length∧(k0=C→∀ k (h:k < BO.length) (h':k < om.length),k < i→BO[k]=om[k])) (fun i=>BO.length - i) 0 ⟨rfl,rfl,rfl,rfl,rfl,rfl,rfl,trivial⟩ rfl ⟨Nat.zero_le _,fun _ k _ _ h=>absurd h (Nat.not_lt_zero _)⟩ (fun i hi=>?_)))
               obtain ⟨hi,heq⟩:=hi
               refine Run.seq (Run.region (cx_ok _ _ _) (Reg.op rfl (Ope.lt rfl rfl ?_)))
               refine Reg.nil (Run.seq (Run.condX rfl (fun hc=>?_) fun hc=>?_))
               ·refine Run.skip (Run.seq (Run.block (Run.seq (Run.region (cx_ok _ _ _) (Reg.op rfl (Ope.mov rfl ?_))))))
                refine Reg.op rfl (Ope.asg rfl ?_)
                refine Reg.nil (Run.seq ?_)
                have hlt:i < BO.length:=by omega
                have hlt2:i < om.length:=by omega
                refine Run.draw (cx_ok _ _ _) [(0,true),(1,true),(2,true),(3,true),(4,true),(5,true),(6,true),(7,true),(8,true),(9,true),(10,true),(11,true),(12,true),(13,true)] (by kernel_rfl) (Dra.op' rfl rfl rfl .sure (Ope.mov rfl ?_))
                refine Dra.op' rfl rfl rfl .sure (Ope.mov rfl ?_)
                refine Dra.op' rfl rfl rfl .sure (Ope.eq rfl rfl ?_)
                refine Dra.op' rfl rfl rfl .sure (Ope.mov rfl ?_)
                refine Dra.splitX rfl rfl rfl rfl (fun hg=>?_) fun hg=>?_
                ·first
                 |(first | (exfalso;omega) | (exfalso;simp at hg;done))
                 |refine Dra.on' rfl rfl rfl rfl rfl .sure (Ope.mov rfl ?_)
                  refine Dra.on' rfl rfl rfl rfl rfl .sure (Ope.mov rfl ?_)
                  refine Dra.on' rfl rfl rfl rfl rfl .sure (Ope.idxM (m:=i) (f:=N) rfl rfl rfl hlt (fun _=>rfl) ?_)
                  refine Dra.on' rfl rfl rfl rfl rfl .sure (Ope.load rfl rfl ?_)
                  refine Dra.on' rfl rfl rfl rfl rfl .sure (Ope.mov rfl ?_)
                  refine Dra.on' rfl rfl rfl rfl rfl .sure (Ope.mov rfl ?_)
                  refine Dra.on' rfl rfl rfl rfl rfl .sure (Ope.idxM (m:=i) (f:=N) rfl rfl rfl hlt2 (fun _=>rfl) ?_)
                  refine Dra.on' rfl rfl rfl rfl rfl .sure (Ope.load rfl rfl ?_)
                  refine Dra.on' rfl rfl rfl rfl rfl .sure (Ope.ne rfl rfl ?_)
                  refine Dra.op' rfl rfl rfl .sure (Ope.pickT rfl rfl ?_)
                  refine Dra.nil (Run.condX rfl (fun hc=>?_) fun hc=>?_)
                  ·refine Run.seq ?_
                   have hlex:BO[i] < om[i]:=by
                     rcases hfst hr (by omega) with h | h
                     · subst h;exact absurd rfl hc
                     · exact lexlt_at hlt hlt2 h (heq (by omega)) (by omega)
                   refine Run.draw (cx_ok _ _ _) [(0,true),(1,true),(2,true),(3,true),(4,true),(5,true),(6,true),(7,true),(8,true),(9,true),(10,true),(11,true),(12,true)] (by kernel_rfl) (Dra.op' rfl rfl rfl .sure (Ope.mov rfl ?_))
                   refine Dra.op' rfl rfl rfl .sure (Ope.mov rfl ?_)
                   refine Dra.op' rfl rfl rfl .sure (Ope.idxM (m:=i) (f:=N) rfl rfl rfl hlt (fun _=>rfl) ?_)
                   refine Dra.op' rfl rfl rfl .sure (Ope.load rfl rfl ?_)
                   refine Dra.op' rfl rfl rfl .sure (Ope.mov rfl ?_)
                   refine Dra.op' rfl rfl rfl .sure (Ope.mov rfl ?_)
                   refine Dra.op' rfl rfl rfl .sure (Ope.idxM (m:=i) (f:=N) rfl rfl rfl hlt2 (fun _=>rfl) ?_)
                   refine Dra.op' rfl rfl rfl .sure (Ope.load rfl rfl ?_)
                   refine Dra.op' rfl rfl rfl .sure (Ope.lt rfl rfl ?_)
                   refine Dra.op' rfl rfl rfl .sure (Ope.mov rfl ?_)
                   refine Dra.splitX rfl rfl rfl rfl (fun hg=>?_) fun hg=>?_
                   ·first
                    |(first | (exfalso;omega) | (exfalso;simp at hg;done))
                    |refine Dra.on' rfl rfl rfl rfl rfl .sure (Ope.cf rfl rfl (awakeF) rfl ?_)
                     refine Dra.op' rfl rfl rfl .sure (Ope.pickT rfl rfl ?_)
                     refine Dra.op' rfl rfl rfl .sure (Ope.asg rfl ?_)
                     exact Dra.nil (Run.ret (Jmp.retB (Jmp.code (Jmp.round (Jmp.retB (Jmp.code (fin_ret (.tmp rfl .nil) rfl rfl)))))))
                   ·first
                    |(first | (exfalso;omega) | (exfalso;simp at hg;done))
                    |refine Dra.off' rfl rfl rfl (.inl rfl) rfl (Dra.op' rfl rfl rfl .sure (Ope.pickF rfl rfl ?_))
                     refine Dra.op' rfl rfl rfl .sure (Ope.asg rfl ?_)
                     exact Dra.nil (Run.ret (Jmp.retB (Jmp.code (Jmp.round (Jmp.retB (Jmp.code (fin_ret (.tmp rfl .nil) rfl rfl)))))))
                  ·refine Run.skip (Run.bend (Run.region (cx_ok _ _ _) (Reg.op rfl (Ope.add rfl rfl (by omega) ?_))))
                   refine Reg.op rfl (Ope.mov rfl ?_)
                   refine Reg.nil ?_
                   first
                   | exact Run.lend ⟨i+1,by omega,⟨by omega,fun h=>absurd h (by omega)⟩,⟨rfl,rfl,rfl,rfl,rfl,rfl,rfl,trivial⟩,rfl,rfl⟩
                   | exact Run.lend ⟨i+1,by omega,⟨by omega,fun h k h1 h2 h3=>by
                       by_cases hkk:k=i
                       · subst hkk;omega
                       · exact heq h k h1 h2 (by omega)⟩,⟨rfl,rfl,rfl,rfl,rfl,rfl,rfl,trivial⟩,rfl,rfl⟩
                ·first
                 |(first | (exfalso;omega) | (exfalso;simp at hg;done))
                 |refine Dra.off' rfl rfl rfl (.inl rfl) rfl (Dra.off' rfl rfl rfl (.inl rfl) rfl (Dra.off' rfl rfl rfl (.inl rfl) rfl (Dra.off' rfl rfl rfl (.inl rfl) rfl (Dra.off' rfl rfl rfl (.inl rfl) rfl (Dra.off' rfl rfl rfl (.inl rfl) rfl (Dra.off' rfl rfl rfl (.inl rfl) rfl (Dra.off' rfl rfl rfl (.inl rfl) rfl (Dra.off' rfl rfl rfl (.inl rfl) rfl (Dra.op' rfl rfl rfl .sure (Ope.pickF rfl rfl ?_))))))))))
                  refine Dra.nil (Run.condF rfl (Run.skip (Run.bend (Run.region (cx_ok _ _ _) (Reg.op rfl (Ope.add rfl rfl (by omega) ?_))))))
                  refine Reg.op rfl (Ope.mov rfl ?_)
                  refine Reg.nil ?_
                  first
                  | exact Run.lend ⟨i+1,by omega,⟨by omega,fun h=>absurd h (by omega)⟩,⟨rfl,rfl,rfl,rfl,rfl,rfl,rfl,trivial⟩,rfl,rfl⟩
                  | exact Run.lend ⟨i+1,by omega,⟨by omega,fun h k h1 h2 h3=>by
                      by_cases hkk:k=i
                      · subst hkk;omega
                      · exact heq h k h1 h2 (by omega)⟩,⟨rfl,rfl,rfl,rfl,rfl,rfl,rfl,trivial⟩,rfl,rfl⟩
               ·refine Run.exit (Jmp.code (Jmp.round (Jmp.here (Run.seq (Run.region (cx_ok _ _ _) (Reg.op rfl (Ope.cf rfl rfl (awakeF) rfl ?_)))))))
                refine Reg.op rfl (Ope.asg rfl ?_)
                exact Reg.nil (Run.ret (fin_ret (.tmp rfl .nil) rfl rfl))
end
theorem f7a (s:Shp) (hi:s.i64) (hS:s.su.length≤9223372036854775807) (hJ:s.jo.length≤9223372036854775807) (by':List Nat) (hb8:∀ x∈by',x < 256):Fn P0 7 [s.v .no .no,.sl .no (by'.map U8)] (B true):=by
  cases hv:s.val with
  | false=>exact f7n s (t1:=.no) (t2:=.no) rfl rfl hi hS hJ _ hv
  | true =>
    obtain ⟨om,tm,htm,hom,hma⟩:=f34 s (t1:=.no) (t2:=.no) rfl rfl (by have:=(val_ok hi hv).jo;omega) .no by' hb8
    rcases Nat.eq_zero_or_pos s.all.n with h | h
    · exact f7z s (t1:=.no) (t2:=.no) rfl rfl hv hi .no rfl by' om tm htm hom hma h
    · exact f7y s (t1:=.no) (t2:=.no) rfl rfl hv hi .no rfl by' om tm htm hom hma h
end Go.Pv
namespace Go.Pv
open Go.Proofs Go.Am
set_option maxRecDepth 10000
section
variable {H:Type} {enc:TypeId×Value→H} {w:World} {base:Nat} {held:Bool}
theorem reads_int:Reads enc Try.prog w base (fun _=>true) held 3 fun ps=>∃ n:Int,ps=[I n]∧(-9223372036854775808≤n∧n≤9223372036854775807) :=
  (Reads.int Try.underlying3).mono fun ps ⟨n,h,h1,h2⟩=>⟨n,h,Int.le_trans (by decide) h1,Int.le_trans h2 (by decide)⟩
theorem reads_span:Reads enc Try.prog w base (fun _=>true) held 46 fun ps=>∃ a b:Int,ps=[I a,I b] :=
  (Reads.struct (Qs:=[fun ps=>∃ n:Int,ps=[I n]∧_,fun ps=>∃ n:Int,ps=[I n]∧_]) Try.underlying46 (by kernel_rfl) ⟨reads_int,reads_int,trivial⟩).mono fun ps h=>by
    obtain ⟨_,_,rfl,⟨a,rfl,_⟩,_,_,rfl,⟨b,rfl,_⟩,rfl⟩:=h
    exact ⟨a,b,rfl⟩
theorem reads_job:Reads enc Try.prog w base (fun _=>true) held 48 fun ps=>∃ j:Job,ps=j.v.cells∧(-9223372036854775808≤j.af∧j.af≤9223372036854775807) :=
  (Reads.struct (Qs:=[fun ps=>∃ n:Int,ps=[I n]∧_,fun ps=>∃ a b:Int,ps=[I a,I b],fun ps=>∃ n:Int,ps=[I n]∧_,fun ps=>∃ n:Int,ps=[I n]∧_,fun ps=>∃ n:Int,ps=[I n]∧_,fun ps=>∃ n:Int,ps=[I n]∧_,fun ps=>∃ n:Int,ps=[I n]∧_]) Try.underlying48 (by kernel_rfl) ⟨reads_int,reads_span,reads_int,reads_int,reads_int,reads_int,reads_int,trivial⟩).mono fun ps h=>by
    obtain ⟨_,_,rfl,⟨a,rfl,_⟩,_,_,rfl,⟨b,c,rfl⟩,_,_,rfl,⟨d,rfl,_⟩,_,_,rfl,⟨e,rfl,_⟩,_,_,rfl,⟨f,rfl,_⟩,_,_,rfl,⟨g,rfl,_⟩,_,_,rfl,⟨h,rfl,hh⟩,rfl⟩:=h
    exact ⟨⟨a,b,c,d,e,f,g,h⟩,rfl,hh⟩
theorem cells_job:Try.prog.cellsOf 48=8:=by kernel_rfl
theorem cells_int:Try.prog.cellsOf 3=1:=by kernel_rfl
theorem cells_u8:Try.prog.cellsOf 5=1:=by kernel_rfl
theorem trod_bytes {v : Value} {d : DataW H} {ps : List MemPlace} {r : Reach} {b : Nat} (hv : Value.okWide Try.prog w r b 42 v) (h : DataW.Trod enc Try.prog w base (fun _ => true) held 42 v d ps) : ∃ xs : List Nat, (∀ x ∈ xs, x < 256) ∧ RV (St.froz w) (.sl .no (xs.map U8)) v := by
  obtain ⟨xs,h1,_,h3⟩:=trod_ints Try.underlying42 Try.underlying5 cells_u8 hv h
  have h4:∀ x∈xs,0≤x∧x≤255:=fun x hx=>⟨Int.le_trans (by decide) (h3 x hx).1,Int.le_trans (h3 x hx).2 (by decide)⟩
  refine ⟨xs.map Int.toNat,fun x hx=>?_,?_⟩
  · obtain ⟨y, hy, rfl⟩ := List.mem_map.1 hx
    have:=h4 y hy;omega
  · have e : (xs.map Int.toNat).map U8 = xs.map fun n => .lit (.int .u8 n) := by
      rw [List.map_map]
      exact List.map_congr_left fun x hx=>by
        have:=h4 x hx
        show PV.lit (.int .u8 ((x.toNat:Nat):Int))=_
        rw [Int.toNat_of_nonneg this.1]
    rw [e]
    exact h1
structure Shp.hnd (s:Shp):Prop where
  i:s.i64
  su:s.su.length≤9223372036854775807
  jo:s.jo.length≤9223372036854775807
theorem reads_mendL:Reads enc Try.prog w base (fun _=>true) held 25 fun ps=>∃ s:Shp,s.hnd∧ps=[.sl .no (s.su.map I),.sl .no (s.jo.map Job.v)] :=
  (Reads.struct (Qs:=[fun ps=>∃ S:List Int,ps=[.sl .no (S.map I)]∧S.length≤maxLen∧_,fun ps=>∃ S:List Job,ps=[.sl .no (S.map Job.v)]∧S.length≤maxLen∧_]) Try.underlying25 (by kernel_rfl)
    ⟨Reads.slice (Q := fun _ => True) (f := I) (fun _ => rfl) Try.underlying22 (by rw [cells_int]; decide) (reads_int.mono fun ps ⟨s, h, _⟩ => ⟨s, h, by rw [cells_int]; rfl, trivial⟩),
     Reads.slice (Q:=fun j:Job=>-9223372036854775808≤j.af∧j.af≤9223372036854775807) (f:=Job.v) (fun _=>rfl) Try.underlying23 (by rw [cells_job];decide) (reads_job.mono fun ps ⟨s,h,h'⟩=>⟨s,h,by rw [cells_job];rfl,h'⟩),trivial⟩).mono fun ps h=>by
    obtain ⟨_,_,rfl,⟨su,rfl,hl,_⟩,_,_,rfl,⟨jo,rfl,hl2,hj⟩,rfl⟩:=h
    exact ⟨⟨su,jo⟩,⟨fun i hi=>hj _ (List.getElem_mem hi),hl,hl2⟩,rfl⟩
theorem trod_mendL {v:Value} {d:DataW H} {ps:List MemPlace} {r:Reach} {b:Nat} (hv:Value.okWide Try.prog w r b 25 v) (h:DataW.Trod enc Try.prog w base (fun _=>true) held 25 v d ps):∃ s:Shp,s.hnd∧RV (St.froz w) (s.v .no .no) v:=by
  obtain ⟨l,h1,s,hi,rfl⟩:=trod_agg Try.underlying25 hv h reads_mendL
  exact ⟨s,hi,h1⟩
end
end Go.Pv
