/- Parts of the proof: R95, R103, R104, R105, R106, R96 -/
import Derived.Test.YtejnfigkngkhjaaP20
import Derived.Test.YtejnfigkngkhjaaP19
import Derived.Test.YtejnfigkngkhjaaP18
set_option linter.unusedVariables false
set_option linter.unusedSimpArgs false
set_option linter.unusedSectionVars false
namespace Go.Pv
open Go.Proofs Go.Am
set_option maxRecDepth 10000
def inE (E q:Nat):Bool:=!decide (((E >>> q &&& 1:Nat):Int)=0)
structure Kept (S:List Sti) (rest:Int) (E:Nat) (v:Nat→Int):Prop where
  wide:∀ a b,a < 11→b < 11→v b - v a≤600
  rule:∀ k,k < S.length→∀ p∈rules S rest k,v p.2.1 - v p.1≤p.2.2
  entry:∀ k (hk:k < S.length) o j,o < 2→j < 2→inE E (2 * (2 * k+o)+j)=true→(S[k].ent o j).1≤v (2 * k+o) - v 10∧v (2 * k+o) - v 10≤(S[k].ent o j).2
theorem kept_iff {S : List Sti} {rest : Int} {E : Nat} {v : Nat → Int} (hS : S.length ≤ 5) : Keeps S rest E v ↔ Kept S rest E v := by
  constructor
  · intro h
    refine ⟨h.wide,fun k hk p hp=>?_,fun k hk o j ho hj hin=>?_⟩
    · exact h.bound (rulB p) (allB_mem.2 ⟨k,hk,List.mem_append.2 (.inl (List.mem_map.2 ⟨p,hp,rfl⟩))⟩)
    · have hm : ∀ w ∈ entW k S[k] o j, v w.2.1 - v w.1 ≤ w.2.2.1 := fun w hw => by
        have h1:=h.bound (wriB w) (allB_mem.2 ⟨k,hk,List.mem_append.2 (.inr (by
          rw [List.getElem?_eq_getElem hk]
          exact List.mem_map.2 ⟨w,entO_mem.2 ⟨o,j,ho,hj,hw⟩,rfl⟩))⟩)
        have hq:w.2.2.2=2 * (2 * k+o)+j:=by
          simp only [entW,List.mem_cons,List.not_mem_nil,or_false] at hw
          rcases hw with rfl | rfl<;>rfl
        have h2:(wriB w).most E=w.2.2.1:=by
          show (if _ then (600:Int) else w.2.2.1)=_
          rw [if_neg]
          show ¬ ((E >>> w.2.2.2 &&& 1:Nat):Int)=0
          rw [hq]
          simpa [inE] using hin
        rw [h2] at h1
        exact h1
      have h1:=hm (2 * k+o,10,-(S[k].ent o j).1,2 * (2 * k+o)+j) (by simp [entW])
      have h2:=hm (10,2 * k+o,(S[k].ent o j).2,2 * (2 * k+o)+j) (by simp [entW])
      simp only at h1 h2
      generalize (S[k].ent o j).1=lo at *
      exact ⟨by omega,h2⟩
  · intro h
    refine ⟨h.wide,fun x hx=>?_⟩
    obtain ⟨k,hk,hx⟩:=allB_mem.1 hx
    rcases List.mem_append.1 hx with hx | hx
    · obtain ⟨p, hp, rfl⟩ := List.mem_map.1 hx
      exact h.rule k hk p hp
    · rw [List.getElem?_eq_getElem hk] at hx
      obtain ⟨w,hw,rfl⟩:=List.mem_map.1 hx
      obtain ⟨o,j,ho,hj,hw⟩:=entO_mem.1 hw
      have he:=h.entry k hk o j ho hj
      have hw1:=h.wide 10 (2 * k+o) (by decide) (by omega)
      have hw2:=h.wide (2 * k+o) 10 (by omega) (by decide)
      simp only [entW,List.mem_cons,List.not_mem_nil,or_false] at hw
      rcases hw with rfl | rfl
      · show v 10 - v (2 * k + o) ≤ (if ((E >>> (2 * (2 * k + o) + j) &&& 1 : Nat) : Int) = 0 then (600 : Int) else -(S[k].ent o j).1)
        split
        · exact hw2
        · next hn =>
          have:=(he (by simpa [inE] using hn)).1
          generalize (S[k].ent o j).1=lo at *
          omega
      · show v (2 * k + o) - v 10 ≤ (if ((E >>> (2 * (2 * k + o) + j) &&& 1 : Nat) : Int) = 0 then (600 : Int) else (S[k].ent o j).2)
        split
        · exact hw1
        · next hn=>exact (he (by simpa [inE] using hn)).2
section
variable {S:List Sti} {rest:Int} {en:Nat} {x y:Int}
variable (hS:S.length≤5) (hen:en < 4 * S.length)
include hS hen
def wrt (S:List Sti) (en:Nat):Int×Int :=
  match S[en / 4]? with
  | some s=>s.ent (en / 2 % 2) (en % 2)
  | none=>(0,0)
end
end Go.Pv
namespace Go.Pv
open Go.Proofs Go.Am
set_option maxRecDepth 10000
theorem inE_bit (E q:Nat):inE E q=E.testBit q:=by
  unfold inE
  rw [Nat.and_one_is_mod,Nat.testBit,Nat.and_comm,Nat.and_one_is_mod]
  rcases Nat.mod_two_eq_zero_or_one (E >>> q) with h | h<;>rw [h]<;>rfl
theorem Kept.mono {S:List Sti} {rest:Int} {E E':Nat} {v:Nat→Int} (h:Kept S rest E v) (hE:∀ q,q < 4 * S.length→E'.testBit q=true→E.testBit q=true):Kept S rest E' v :=
  ⟨h.wide,h.rule,fun k hk o j ho hj hin=>h.entry k hk o j ho hj (by rw [inE_bit] at hin ⊢;exact hE _ (by omega) hin)⟩
section
variable {S:List Sti} {rest:Int} (hr:relOk rest S=true)
include hr
theorem rel_ok:∀ x∈allB S rest,x.ok:=by
  obtain ⟨h1,h2,h3⟩:=relOk_of hr
  exact allB_ok h1 h2 h3
end
end Go.Pv
namespace Go.Pv
open Go.Proofs Go.Am
set_option maxRecDepth 10000
section
variable {p:Nat→Bool}
end
end Go.Pv
namespace Go.Pv
open Go.Proofs Go.Am
set_option maxRecDepth 10000
theorem f79 (n:Nat) (hn:n≤60):Fn P0 79 [I n] (N (2 ^ n)):=by
  have hp:∀ i,i≤n→2 ^ i≤2 ^ 60:=fun i hi=>Nat.pow_le_pow_right (by decide) (by omega)
  refine PFun.of (C:=c79) (cx_ok _ _ _) rfl (fn:=Try.f79) (by kernel_rfl) (c:=_) rfl rfl rfl ?_
  refine Run.seq (Run.region (cx_ok _ _ _) (Reg.op rfl (Ope.asg rfl ?_)))
  refine Reg.nil (Run.seq (Run.region (cx_ok _ _ _) (Reg.op rfl (Ope.asg rfl ?_))))
  refine Reg.nil (Run.seq (Run.seq (Run.region (cx_ok _ _ _) (Reg.op rfl (Ope.asg rfl ?_)))))
  refine Reg.nil (Run.block (Run.loop (α:=Nat) (fun i=>[(0,I n),(3,N (2 ^ i)),(4,I i)]) (fun _=>HE 0 []) (fun i=>i≤n) (fun i=>n - i) 0 ⟨rfl,rfl,rfl,trivial⟩ rfl (Nat.zero_le _) (fun i hi=>?_)))
  refine Run.seq (Run.seq (Run.region (cx_ok _ _ _) (Reg.op rfl (Ope.mov rfl ?_))))
  refine Reg.op rfl (Ope.mov rfl ?_)
  refine Reg.op rfl (Ope.lt rfl rfl ?_)
  refine Reg.nil (Run.condX rfl (fun hc=>?_) fun hc=>?_)
  ·refine Run.skip (Run.seq (Run.block ?_))
   have hpi:=hp i hi
   have hpi0:0 < 2 ^ i:=Nat.pow_pos (by decide)
   have hpi2:(0:Int)≤((2 ^ i:Nat):Int):=Int.natCast_nonneg _
   have hpi3:((2 ^ i:Nat):Int)≤((2 ^ 60:Nat):Int):=Int.ofNat_le.2 hpi
   have hpe:((2 ^ (i+1):Nat):Int)=2 * ((2 ^ i:Nat):Int):=by rw [Nat.pow_succ];omega
   refine Run.region (cx_ok _ _ _) (Reg.op rfl (Ope.mov rfl ?_))
   refine Reg.op rfl (Ope.mul rfl rfl (by omega) ?_)
   refine Reg.op rfl (Ope.asg rfl ?_)
   refine Reg.nil (Run.bend (Run.region (cx_ok _ _ _) (Reg.op rfl (Ope.mov rfl ?_))))
   refine Reg.op rfl (Ope.add rfl rfl (by omega) ?_)
   refine Reg.op rfl (Ope.asg rfl ?_)
   exact Reg.nil (Run.lend ⟨i+1,by omega,by omega,⟨rfl,(by show some _=some (PV.lit (.int .i64 ((2 ^ (i+1):Nat):Int)));rw [hpe]),rfl,trivial⟩,rfl,rfl⟩)
  ·refine Run.exit (Jmp.code (Jmp.round (Jmp.here (Run.seq ?_))))
   obtain rfl:i=n:=by omega
   refine Run.region (cx_ok _ _ _) (Reg.op rfl (Ope.mov rfl ?_))
   refine Reg.op rfl (Ope.asg rfl ?_)
   exact Reg.nil (Run.ret (fin_ret (.tmp rfl .nil) rfl rfl))
theorem f36 (rest:Int) (tl:Tail) (S:List Sti) (hS:S.length≤5):Fn P0 36 [relV rest tl S] (N (2 ^ (4 * S.length) - 1)):=by
  have hp0:0 < 2 ^ (4 * S.length):=Nat.pow_pos (by decide)
  have hp:2 ^ (4 * S.length)≤2 ^ 20:=Nat.pow_le_pow_right (by decide) (by omega)
  have e:((2 ^ (4 * S.length):Nat):Int) - 1=((2 ^ (4 * S.length) - 1:Nat):Int):=by omega
  refine PFun.of (C:=c36) (cx_ok _ _ _) rfl (fn:=Try.f36) (by kernel_rfl) (c:=_) rfl rfl rfl ?_
  refine Run.seq (Run.region (cx_ok _ _ _) (Reg.op rfl (Ope.boxF rfl rfl ?_)))
  refine Reg.op rfl (Ope.asg rfl ?_)
  refine Reg.nil (Run.seq (Run.region (cx_ok _ _ _) (Reg.op rfl (Ope.fld rfl rfl ?_))))
  refine Reg.op rfl (Ope.load rfl rfl ?_)
  refine Reg.op rfl (Ope.len (m:=S.length) rfl (by simp) ?_)
  refine Reg.op rfl (Ope.mul rfl rfl (by omega) ?_)
  refine Reg.op rfl (Ope.cf rfl rfl (f79 (4 * S.length) (by omega)) rfl ?_)
  refine Reg.op rfl (Ope.sub rfl rfl (by omega) ?_)
  refine Reg.op rfl (Ope.asg rfl ?_)
  refine Reg.nil (Run.ret (fin_ret (.tmp rfl .nil) rfl ?_))
  (show PV.lit (.int .i64 (((2 ^ (4 * S.length):Nat):Int) - 1))=_;rw [e])
end Go.Pv
namespace Go.Pv
open Go.Proofs Go.Am
set_option maxRecDepth 10000
end Go.Pv
namespace Go.Pv
open Go.Proofs Go.Am
set_option maxRecDepth 10000
section
variable {rest:Int} {tl:Tail} (htl:tl.isOwn=false) {S:List Sti} (hS:S.length≤1000000) (hr:relOk rest S=true) (ho:okT (tabA S rest)=true)
end
end Go.Pv
