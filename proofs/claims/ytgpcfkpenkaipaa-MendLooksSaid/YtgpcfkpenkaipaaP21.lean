/- Parts of the proof: M31, M32, M33, M29, M35, M37 -/
import Derived.Test.YtgpcfkpenkaipaaP20
set_option linter.unusedVariables false
set_option linter.unusedSimpArgs false
set_option linter.unusedSectionVars false
namespace Go.Pv
open Go.Proofs Go.Am
set_option maxRecDepth 10000
section
variable (s:Shp) {t1 t2:Tail} (h1:t1.isOwn=false) (h2:t2.isOwn=false)
include h1 h2
end
end Go.Pv
namespace Go.Pv
open Go.Proofs Go.Am
set_option maxRecDepth 10000
structure LaxJ (j k:Job):Prop where
  kd:k.kd=j.kd
  hi:k.hi≤j.hi
  fr:k.fr≤j.fr
  so:j.so≤k.so
  bt:j.bt≤k.bt
  co:k.co≤j.co
  c0:0≤k.co
  af:∀ q,k.af.toNat.testBit q=true→j.af.toNat.testBit q=true
structure Lax (s x:Shp):Prop where
  su:x.su=s.su
  n:x.jo.length=s.jo.length
  j:∀ i,i < s.jo.length→LaxJ (s.job i) (x.job i)
structure PLax (p q:Pst):Prop where
  J:q.J=p.J
  kd:q.kd=p.kd
  f1:q.f1≤p.f1
section
variable {s x:Shp} (hL:Lax s x)
include hL
end
theorem olk_n (L:List Sq):(olk L).n=L.length:=by cases L<;>rfl
structure SameJ (j k:Job):Prop where
  kd:k.kd=j.kd
  hi:k.hi=j.hi
  fr:k.fr=j.fr
  so:k.so=j.so
  bt:k.bt=j.bt
  co:k.co=j.co
  af:k.af=j.af
structure Same (s x:Shp):Prop where
  su:x.su=s.su
  n:x.jo.length=s.jo.length
  j:∀ i,i < s.jo.length→SameJ (s.job i) (x.job i)
structure PSame (p q:Pst):Prop where
  J:q.J=p.J
  kd:q.kd=p.kd
  f1:q.f1=p.f1
section
variable {s x:Shp} (hL:Same s x)
include hL
end
end Go.Pv
namespace Go.Pv
open Go.Proofs Go.Am
set_option maxRecDepth 10000
theorem intsF (t1 t2:Tail) (o:List Nat) (h:o.length≤1000000):Fn P0 32 [.sl t1 (o.map N),.sl t2 (o.map N)] (B true):=by
  have:=f32 t1 t2 (o.map fun i:Nat=>(i:Int)) (o.map fun i:Nat=>(i:Int)) (by rw [List.length_map];exact h) (by rw [List.length_map];exact h)
  rw [map_N,decide_eq_true rfl] at this
  exact this
end Go.Pv
namespace Go.Pv
open Go.Proofs Go.Am
set_option maxRecDepth 10000
def GI (s:Shp) (ws:List Wrk) (J R:Int) (i:Nat) (G:Int):Prop :=
  (G=4∧s.flt ws=none)∨(G=0∧(∃ j:Nat,J=j∧s.flt ws=some (j,R))∧∀ k (hk:k < ws.length),k < i→s.bad ws[k]=0)∨(G=11∧s.flt ws≠none)
theorem GI.zero {s:Shp} {ws:List Wrk} {J R:Int} {i:Nat} {G:Int} (h:GI s ws J R i G) (hG:G=0):(∃ j:Nat,J=j∧s.flt ws=some (j,R))∧∀ k (hk:k < ws.length),k < i→s.bad ws[k]=0:=by
  rcases h with h | h | h
  · have:=h.1;omega
  · exact h.2
  · have:=h.1;omega
section
variable (s:Shp) {t1 t2:Tail} (h1:t1.isOwn=false) (h2:t2.isOwn=false)
include h1 h2
end
end Go.Pv
namespace Go.Pv
open Go.Proofs Go.Am
set_option maxRecDepth 10000
section
variable (s:Shp) {t1 t2:Tail} (h1:t1.isOwn=false) (h2:t2.isOwn=false)
include h1 h2
end
end Go.Pv
namespace Go.Pv
open Go.Proofs Go.Am
set_option maxRecDepth 10000
def atI:List Int→Int→Int
  | [],_=>-1
  | y::l,x=>if y=x then 0 else if atI l x < 0 then -1 else atI l x+1
theorem atI_none:∀ {xs:List Int} {x:Int},(∀ k (h:k < xs.length),xs[k]≠x)→atI xs x=-1
  | [],_,_=>rfl
  | y :: l, x, h => by
    have h0:=h 0 (by simp)
    have ih:=atI_none (xs:=l) (x:=x) fun k hk=>by
      have:=h (k+1) (by simpa using hk)
      simpa using this
    simp only [List.getElem_cons_zero] at h0
    simp only [atI,ih,if_neg h0]
    rfl
theorem atI_found:∀ {xs:List Int} {x:Int} {i:Nat} (hi:i < xs.length),xs[i]=x→(∀ k (h:k < xs.length),k < i→xs[k]≠x)→atI xs x=i
  | y :: l, x, 0, _, he, _ => by
    simp only [List.getElem_cons_zero] at he
    simp only [atI,if_pos he];rfl
  | y :: l, x, i + 1, hi, he, h => by
    have h0:=h 0 (by simp) (by omega)
    simp only [List.getElem_cons_zero] at h0
    have ih:=atI_found (xs:=l) (x:=x) (i:=i) (by simpa using hi) (by simpa using he) fun k hk hki=>by
      have:=h (k+1) (by simpa using hk) (by omega)
      simpa using this
    simp only [atI,ih,if_neg h0]
    rw [if_neg (by omega)]
    omega
theorem atI_neg {xs : List Int} {x : Int} : 0 ≤ atI xs x ↔ x ∈ xs := by
  induction xs with
  | nil=>simp [atI]
  | cons y l ih =>
    simp only [atI,List.mem_cons]
    split
    · next h=>simp [h]
    · next h =>
      split
      · next h2 =>
        have:¬ x∈l:=fun hm=>by have:=ih.2 hm;omega
        have h3:¬ x=y:=fun e=>h e.symm
        simp [this,h3]
      · next h2 =>
        have:x∈l:=ih.1 (by omega)
        simp [this]
        omega
theorem f68 (t:Tail) (xs:List Int) (hx:xs.length≤1000000) (x:Int):Fn P0 68 [.sl t (xs.map I),I x] (I (atI xs x)):=by
  have hno:=fun h=>atI_none (xs:=xs) (x:=x) h
  have hyes:=fun {i:Nat} hi he h=>atI_found (xs:=xs) (x:=x) (i:=i) hi he h
  generalize atI xs x=z at *
  refine PFun.of (C:=c68) (cx_ok _ _ _) rfl (fn:=Try.f68) (by kernel_rfl) (c:=_) rfl rfl rfl ?_
  refine Run.seq (Run.region (cx_ok _ _ _) (Reg.op rfl (Ope.asg rfl ?_)))
  refine Reg.nil (Run.seq (Run.seq (Run.region (cx_ok _ _ _) (Reg.op rfl (Ope.asg rfl ?_)))))
  refine Reg.nil (Run.block (Run.loop (α:=Nat) (fun i=>[(0,.sl t (xs.map I)),(1,I x),(5,I i)]) (fun _=>HE 0 []) (fun i=>i≤xs.length∧∀ k (h:k < xs.length),k < i→xs[k]≠x) (fun i=>xs.length - i) 0 ⟨rfl,rfl,rfl,trivial⟩ rfl ⟨Nat.zero_le _,fun k _ h=>absurd h (Nat.not_lt_zero _)⟩ (fun i hi=>?_)))
  obtain ⟨hi,hall⟩:=hi
  refine Run.seq (Run.seq (Run.region (cx_ok _ _ _) (Reg.op rfl (Ope.mov rfl ?_))))
  refine Reg.op rfl (Ope.mov rfl ?_)
  refine Reg.op rfl (Ope.len (m:=xs.length) rfl (by simp) ?_)
  refine Reg.op rfl (Ope.lt rfl rfl ?_)
  refine Reg.nil (Run.condX rfl (fun hc=>?_) fun hc=>?_)
  ·refine Run.skip (Run.seq (Run.block (Run.seq ?_)))
   have hlt:i < xs.length:=by omega
   refine Run.region (cx_ok _ _ _) (Reg.op rfl (Ope.mov rfl ?_))
   refine Reg.op rfl (Ope.mov rfl ?_)
   refine Reg.op rfl (Ope.idxM (m:=i) (f:=I) rfl rfl rfl hlt (fun _=>rfl) ?_)
   refine Reg.op rfl (Ope.load rfl rfl ?_)
   refine Reg.op rfl (Ope.mov rfl ?_)
   refine Reg.op rfl (Ope.eq rfl rfl ?_)
   refine Reg.nil (Run.condX rfl (fun hc=>?_) fun hc=>?_)
   ·refine Run.seq (Run.region (cx_ok _ _ _) (Reg.op rfl (Ope.mov rfl ?_)))
    refine Reg.op rfl (Ope.asg rfl ?_)
    refine Reg.nil (Run.ret (Jmp.retB (Jmp.code (Jmp.round (Jmp.retB (Jmp.code (fin_ret (.tmp rfl .nil) rfl ?_)))))))
    first
    | (rw [hyes hlt hc hall];rfl)
    | (rw [hno fun k hk=>hall k hk (by omega)];rfl)
   ·refine Run.skip (Run.bend (Run.region (cx_ok _ _ _) (Reg.op rfl (Ope.mov rfl ?_))))
    refine Reg.op rfl (Ope.add rfl rfl (by omega) ?_)
    refine Reg.op rfl (Ope.asg rfl ?_)
    refine Reg.nil ?_
    exact Run.lend ⟨i+1,by omega,⟨by omega,fun k hk hki=>by
      by_cases hkk:k=i
      · subst hkk;exact hc
      · exact hall k hk (by omega)⟩,⟨rfl,rfl,rfl,trivial⟩,rfl,rfl⟩
  ·refine Run.exit (Jmp.code (Jmp.round (Jmp.here (Run.seq (Run.region (cx_ok _ _ _) (Reg.op rfl (Ope.asg rfl ?_)))))))
   refine Reg.nil (Run.ret (fin_ret (.tmp rfl .nil) rfl ?_))
   first
   | (rw [hyes hlt hc hall];rfl)
   | (rw [hno fun k hk=>hall k hk (by omega)];rfl)
section
variable (s:Shp) {t1 t2:Tail} (h1:t1.isOwn=false) (h2:t2.isOwn=false)
include h1 h2
theorem past_f1b {s:Shp} (hs:s.ok 30) {o:List Nat} (ho:Ordr s.jo.length o) (i:Nat):0≤(s.past Shp.p0 (o.take i)).f1∧(s.past Shp.p0 (o.take i)).f1≤5000:=by
  have hp:=past_ok hs (o.take i) Shp.p0 0 ⟨⟨Int.le_refl _,Int.le_refl _⟩,⟨Int.le_refl _,Int.le_refl _⟩⟩ (Int.le_refl _) fun j hj=>ho.lt j (List.mem_of_mem_take hj)
  have hlen:((o.take i).length:Int)≤6:=by rw [List.length_take];have:=ho.len;have:=hs.jo;omega
  have:=hp.f1
  omega
end
end Go.Pv
