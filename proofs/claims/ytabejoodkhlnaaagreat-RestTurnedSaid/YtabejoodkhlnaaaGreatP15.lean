/- Parts of the proof: T18, Pv47, T19, T20, T21, Pv48 -/
import Derived.Test.YtabejoodkhlnaaaGreatP14
import Derived.Test.YtabejoodkhlnaaaGreatP13
set_option linter.unusedVariables false
set_option linter.unusedSimpArgs false
namespace Go.Pv
open Go.Proofs Go.Am
set_option maxRecDepth 10000
def Rst.at (R:Rst) (n:Nat):Rst:={ R with m:=n }
theorem cnt_at (R:Rst) (n:Nat):∀ (k:Nat) (d:Rid),cnt (R.at n) k d=cnt R k d
  | 0,_=>rfl
  | k + 1, d => by
    simp only [cnt,cnt_at R n k]
    rfl
theorem at_ok {R:Rst} (hR:R.ok) {n:Nat} (hn:n≤16):(R.at n).ok:=⟨hn,hR.2⟩
def Rst.stop (R:Rst) (h:Nat):Bool:=decide (cnt R (h+1) zeroRid=0)
theorem f65 (R:Rst) (hR:R.ok) (h:Nat) (hh:h < 16):Fn P0 65 [.agg R.cells,I h] (B (R.stop h)):=by
  refine PFun.of (C:=c65) (cx_ok _ _ _) rfl (fn:=Tryz.f65) (by kernel_rfl) (c:=_) rfl rfl rfl ?_
  refine Run.seq (Run.region (cx_ok _ _ _) (Reg.op rfl (Ope.boxL rfl rfl ?_)))
  refine Reg.op rfl (Ope.asg rfl ?_)
  refine Reg.nil (Run.seq (Run.region (cx_ok _ _ _) (Reg.op rfl (Ope.mov rfl ?_))))
  refine Reg.op rfl (Ope.add rfl rfl (by omega) ?_)
  refine Reg.op rfl (Ope.fld rfl rfl ?_)
  refine Reg.op rfl (Ope.fld rfl rfl ?_)
  refine Reg.op0 (Ope.store rfl rfl hget_hd rfl rfl rfl ?_)
  refine Reg.nil (Run.seq (Run.region (cx_ok _ _ _) (Reg.op rfl (Ope.load rfl rfl ?_))))
  refine Reg.op rfl (Ope.cf rfl rfl (f61 (R.at (h+1)) (at_ok hR (by omega))) rfl ?_)
  refine Reg.op rfl (Ope.eq rfl rfl ?_)
  refine Reg.op rfl (Ope.asg rfl ?_)
  refine Reg.nil (Run.ret (fin_ret (.tmp rfl .nil) rfl ?_))
  refine congrArg B ?_
  have:(R.at (h+1)).many=cnt R (h+1) zeroRid:=cnt_at R (h+1) (h+1) zeroRid
  rw [this]
  unfold Rst.stop
  simp
def bs (p:Nat→Bool):Nat→Nat→Nat→Nat
  | 0,i,_=>i
  | f+1,i,j=>if i < j then (if p ((i+j) >>> 1)=true then bs p f i ((i+j) >>> 1) else bs p f ((i+j) >>> 1+1) j) else i
theorem half_lt {i j:Nat} (h:i < j):i≤(i+j) >>> 1∧(i+j) >>> 1 < j:=by
  rw [Nat.shiftRight_eq_div_pow]
  omega
def Rst.until (R:Rst):Nat:=bs R.stop R.m 0 R.m
theorem f64 (R : Rst) (hR : R.ok) : Fn P0 64 [I R.m, .fn (.func 65) [.agg R.cells] []] (I R.until) := by
  have hm16:=hR.1
  refine PFun.of (C:=c64) (cx_ok _ _ _) rfl (fn:=Tryz.f64) (by kernel_rfl) (c:=_) rfl rfl rfl ?_
  refine Run.seq (Run.region (cx_ok _ _ _) (Reg.op rfl (Ope.asg rfl ?_)))
  refine Reg.nil (Run.seq (Run.region (cx_ok _ _ _) (Reg.op rfl (Ope.mov rfl ?_))))
  refine Reg.op rfl (Ope.asg rfl ?_)
  refine Reg.op rfl (Ope.asg rfl ?_)
  refine Reg.nil (Run.seq (Run.block (Run.loop (α:=Nat×Nat) (fun s=>[(1,.fn (.func 65) [.agg R.cells] []),(5,I s.1),(6,I s.2)]) (fun _=>HE 0 []) (fun s=>s.1≤s.2∧s.2≤R.m∧∃ f,s.2 - s.1≤f∧bs R.stop f s.1 s.2=R.until) (fun s=>s.2 - s.1) (0,R.m) ⟨rfl,rfl,rfl,trivial⟩ rfl ⟨Nat.zero_le _,Nat.le_refl _,R.m,Nat.sub_le _ _,rfl⟩ (fun s hs=>?_))))
  obtain ⟨i,j⟩:=s
  obtain ⟨hi,hj,f,hf1,hf2⟩:=hs
  simp only at hi hj hf1 hf2
  show Run _ _ _ _ [(1,.fn (.func 65) [.agg R.cells] []),(5,I i),(6,I j)] [] (HE 0 [])
  refine Run.seq (Run.seq (Run.region (cx_ok _ _ _) (Reg.op rfl (Ope.mov rfl ?_))))
  refine Reg.op rfl (Ope.mov rfl ?_)
  refine Reg.op rfl (Ope.lt rfl rfl ?_)
  refine Reg.nil (Run.condX rfl (fun hc=>?_) fun hc=>?_)
  ·refine Run.skip (Run.block (Run.seq ?_))
   have hij:i < j:=by omega
   obtain ⟨g1,g2⟩:=half_lt hij
   obtain ⟨f,rfl⟩:∃ f',f=f'+1:=⟨f - 1,by omega⟩
   simp only [bs,if_pos hij] at hf2
   refine Run.region (cx_ok _ _ _) (Reg.op rfl (Ope.mov rfl ?_))
   refine Reg.op rfl (Ope.mov rfl ?_)
   refine Reg.op rfl (Ope.add rfl rfl (by omega) ?_)
   refine Reg.op rfl (Ope.convN (p:=i+j) rfl (by omega) (by show _ < 2 ^ 63;omega) ?_)
   refine Reg.op rfl (Ope.shrN (p:=i+j) (m:=1) rfl rfl rfl rfl (by decide) ?_)
   refine Reg.op rfl (Ope.convN (p:=(i+j) >>> 1) rfl rfl (by show _ < 2 ^ 63;omega) ?_)
   refine Reg.op rfl (Ope.asg rfl ?_)
   refine Reg.nil (Run.seq (Run.region (cx_ok _ _ _) (Reg.op rfl (Ope.mov rfl ?_))))
   refine Reg.op rfl (Ope.mov rfl ?_)
   refine Reg.op rfl (Ope.cf rfl rfl (f65 R hR ((i+j) >>> 1) (by omega)) rfl ?_)
   refine Reg.op rfl (Ope.not rfl ?_)
   refine Reg.nil (Run.condX rfl (fun hc=>?_) fun hc=>?_)
   ·refine Run.region (cx_ok _ _ _) (Reg.op rfl (Ope.mov rfl ?_))
    refine Reg.op rfl (Ope.add rfl rfl (by omega) ?_)
    refine Reg.op rfl (Ope.asg rfl ?_)
    refine Reg.nil (Run.bend ?_)
    first
      | refine Run.lend ⟨((i + j) >>> 1 + 1, j), by simp only; omega, ⟨by simp only; omega, by simp only; omega, f, by simp only; omega, ?_⟩, ⟨rfl, rfl, rfl, trivial⟩, rfl, rfl⟩
        rw [if_neg (by rw [hc];decide)] at hf2
        exact hf2
      | refine Run.lend ⟨(i, (i + j) >>> 1), by simp only; omega, ⟨by simp only; omega, by simp only; omega, f, by simp only; omega, ?_⟩, ⟨rfl, rfl, rfl, trivial⟩, rfl, rfl⟩
        rw [if_pos hc] at hf2
        exact hf2
   ·refine Run.region (cx_ok _ _ _) (Reg.op rfl (Ope.mov rfl ?_))
    refine Reg.op rfl (Ope.asg rfl ?_)
    refine Reg.nil (Run.bend ?_)
    first
      | refine Run.lend ⟨((i + j) >>> 1 + 1, j), by simp only; omega, ⟨by simp only; omega, by simp only; omega, f, by simp only; omega, ?_⟩, ⟨rfl, rfl, rfl, trivial⟩, rfl, rfl⟩
        rw [if_neg (by rw [hc];decide)] at hf2
        exact hf2
      | refine Run.lend ⟨(i, (i + j) >>> 1), by simp only; omega, ⟨by simp only; omega, by simp only; omega, f, by simp only; omega, ?_⟩, ⟨rfl, rfl, rfl, trivial⟩, rfl, rfl⟩
        rw [if_pos hc] at hf2
        exact hf2
  ·refine Run.exit (Jmp.code (Jmp.round (Jmp.here (Run.seq (Run.region (cx_ok _ _ _) (Reg.op rfl (Ope.mov rfl ?_)))))))
   refine Reg.op rfl (Ope.asg rfl ?_)
   refine Reg.nil (Run.ret (fin_ret (.tmp rfl .nil) rfl ?_))
   refine congrArg I ?_
   have:¬ i < j:=by omega
   have h1:bs R.stop f i j=i:=by cases f<;>simp [bs,this]
   rw [← hf2,h1]
theorem f63b (R:Rst) (hR:R.ok) (hv:validR R.m R.o0 R.t0 R.r0 R.f0 R.o1 R.t1 R.r1 R.f1=true):Fn P0 63 [.fp (.agg R.cells)] (I R.until):=by
  refine PFun.of (C:=c63) (cx_ok _ _ _) rfl (fn:=Tryz.f63) (by kernel_rfl) (c:=_) rfl rfl rfl ?_
  refine Run.seq (Run.region (cx_ok _ _ _) (Reg.op rfl (Ope.asg rfl ?_)))
  refine Reg.nil (Run.seq (Run.region (cx_ok _ _ _) (Reg.op rfl (Ope.load rfl rfl ?_))))
  refine Reg.op rfl (Ope.cf rfl rfl (f54t _ _ _ _ _ _ _ _ _ hv) rfl ?_)
  refine Reg.op rfl (Ope.newL rfl ?_)
  refine Reg.op0 (Ope.store rfl rfl hget_hd rfl rfl rfl ?_)
  refine Reg.nil (Run.seq (Run.region (cx_ok _ _ _) (Reg.op rfl (Ope.fld rfl rfl ?_))))
  refine Reg.op rfl (Ope.fld rfl rfl ?_)
  refine Reg.op rfl (Ope.load rfl rfl ?_)
  refine Reg.op rfl (Ope.load rfl rfl ?_)
  refine Reg.op rfl (Ope.mkf rfl rfl ?_)
  refine Reg.op rfl (Ope.cf rfl rfl (f64 R hR) rfl ?_)
  refine Reg.op rfl (Ope.asg rfl ?_)
  exact Reg.nil (Run.ret (fin_ret (.tmp rfl .nil) rfl rfl))
theorem f20b (R:Rst) (hR:R.ok) (hv:validR R.m R.o0 R.t0 R.r0 R.f0 R.o1 R.t1 R.r1 R.f1=true):Fn P0 20 [.agg R.cells] (.tup [I R.until,I 0]):=by
  refine PFun.of (C:=c20) (cx_ok _ _ _) rfl (fn:=Tryz.f20) (by kernel_rfl) (c:=_) rfl rfl rfl ?_
  refine Run.seq (Run.region (cx_ok _ _ _) (Reg.op rfl (Ope.boxF rfl rfl ?_)))
  refine Reg.op rfl (Ope.asg rfl ?_)
  refine Reg.op rfl (Ope.asg rfl ?_)
  refine Reg.nil (Run.seq (Run.region (cx_ok _ _ _) (Reg.op rfl (Ope.mkf rfl rfl ?_))))
  refine Reg.op rfl (Ope.cf rfl rfl (f59ok (f63b R hR hv) rfl) rfl ?_)
  refine Reg.op rfl (Ope.ext rfl rfl ?_)
  refine Reg.op rfl (Ope.ext rfl rfl ?_)
  refine Reg.op rfl (Ope.asg rfl ?_)
  refine Reg.op rfl (Ope.asg rfl ?_)
  exact Reg.nil (Run.ret (fin_ret (.tmp rfl (.tmp rfl .nil)) rfl rfl))
end Go.Pv
namespace Go.Pv
open Go.Am Go.RowKit
section
variable {C:Cx} {X:EX} {e:EL} {ds:List Nat} {h:PH} {K:PV→PH→Prop}
variable {d:Option Tmp} {type:TypeId} {pos:String} {after:Array Edge} {guard:Option (Nat×Bool)}
theorem Ope.andNotN {t t':TypeId} {x y:Operand} {kk:IntKind} {a b:Int} {p q:Nat} (hx:pev (lget e) x=some (.lit (.int kk a))) (hy:pev (lget e) y=some (.lit (.int kk b))) (ha:a=(p:Int)) (hb:b=(q:Int)) (hp:p < 2 ^ (kk.bits - 1)) (hq:q < 2 ^ (kk.bits - 1)) (hK:K (.lit (.int kk ((p &&& (2 ^ kk.bits - 1 - q):Nat):Int))) h) :
  Ope C X { dst:=d,op:=.binOp .andNot t x y t',type,pos,after,guard } e ds h K:=by
 subst ha hb
 refine Ope.bin hx hy (v:=.lit (.int kk ((p &&& (2 ^ kk.bits - 1 - q):Nat):Int))) ?_ hK
 have hlt:p &&& (2 ^ kk.bits - 1 - q) < 2 ^ (kk.bits - 1):=Nat.lt_of_le_of_lt Nat.and_le_left hp
 simp only [abin,aint,decide_true,plit,BitVec.toNat_and,BitVec.toNat_not,ofInt_nat (lt_bits hp),ofInt_nat (lt_bits hq),wrap_nat hlt]
 rfl
end
end Go.Pv
namespace Go.Pv
open Go.Proofs Go.Am
set_option maxRecDepth 10000
def Rst.without (R:Rst) (x h:Nat):Rst :=
  if x=0 then { R with o0:=R.o0 &&& (2 ^ 64 - 1 - 1 * 2 ^ h) } else { R with o1:=R.o1 &&& (2 ^ 64 - 1 - 1 * 2 ^ h) }
theorem without_ok {R:Rst} (hR:R.ok) (x h:Nat):(R.without x h).ok:=by
  obtain ⟨h1,h2,h3,h4⟩:=hR
  unfold Rst.without
  split
  · exact ⟨h1,Nat.lt_of_le_of_lt Nat.and_le_left h2,h3,h4⟩
  · exact ⟨h1,h2,Nat.lt_of_le_of_lt Nat.and_le_left h3,h4⟩
theorem f140 (R:Rst) (hR:R.ok) (x h:Nat) (hx:x < 2) (hh:h < 16):Fn P0 140 [.agg R.cells,.agg [I x,I h]] (.agg (R.without x h).cells):=by
  obtain ⟨hm16,ho0,ho1,_⟩:=hR
  have hp:=pow16 (show h≤16 by omega)
  rcases (by omega:x=0∨x=1) with rfl | rfl
  all_goals
    refine PFun.of (C:=c140) (cx_ok _ _ _) rfl (fn:=Tryz.f140) (by kernel_rfl) (c:=_) rfl rfl rfl ?_
    refine Run.seq (Run.region (cx_ok _ _ _) (Reg.op rfl (Ope.boxL rfl rfl ?_)))
    refine Reg.op rfl (Ope.boxF rfl rfl ?_)
    refine Reg.op rfl (Ope.newL rfl ?_)
    refine Reg.nil (Run.seq (Run.draw (cx_ok _ _ _) [(0,true),(1,true),(2,true),(3,true),(4,true),(5,true),(6,true),(7,true),(8,true),(9,true),(10,true),(11,true),(12,true),(13,true),(14,true),(15,true)] (by kernel_rfl) (Dra.op' rfl rfl rfl .sure (Ope.fld rfl rfl ?_))))
    refine Dra.op' rfl rfl rfl .sure (Ope.load rfl rfl ?_)
    refine Dra.op' rfl rfl rfl .sure (Ope.fld rfl rfl ?_)
    refine Dra.op' rfl rfl rfl .sure (Ope.fld rfl rfl ?_)
    refine Dra.op' rfl rfl rfl .sure (Ope.idxA rfl rfl rfl rfl ?_)
    refine Dra.op' rfl rfl rfl .sure (Ope.fld rfl rfl ?_)
    refine Dra.op' rfl rfl rfl .sure (Ope.load rfl rfl ?_)
    refine Dra.op' rfl rfl rfl .sure (Ope.fld rfl rfl ?_)
    refine Dra.op' rfl rfl rfl .sure (Ope.load rfl rfl ?_)
    refine Dra.op' rfl rfl rfl .sure (Ope.shlN (p:=1) (m:=h) rfl rfl rfl rfl (by omega) (by omega) ?_)
    refine Dra.op' rfl rfl rfl .sure (Ope.andNotN rfl rfl rfl rfl (by show _ < 2 ^ 63;omega) (by show _ < 2 ^ 63;omega) ?_)
    refine Dra.op' rfl rfl rfl .sure (Ope.fld rfl rfl ?_)
    refine Dra.op' rfl rfl rfl .sure (Ope.fld rfl rfl ?_)
    refine Dra.op' rfl rfl rfl .sure (Ope.idxA rfl rfl rfl rfl ?_)
    refine Dra.op' rfl rfl rfl .sure (Ope.fld rfl rfl ?_)
    refine Dra.op' rfl rfl rfl .sure (Ope.store rfl rfl rfl rfl rfl rfl ?_)
    refine Dra.nil (Run.seq (Run.region (cx_ok _ _ _) (Reg.op rfl (Ope.load rfl rfl ?_))))
    refine Reg.op0 (Ope.store rfl rfl rfl rfl rfl rfl ?_)
    exact Reg.nil (Run.ret (fin_ret (.cell rfl rfl .nil) rfl rfl))
def Rst.bit (R:Rst) (x h:Nat):Bool:=decide (((R.o x >>> h &&& 1:Nat):Int)=1)
def outH (R:Rst) (x:Nat):Nat→List (Nat×Nat)
  | 0=>[]
  | k+1=>(if R.bit x (R.m - (k+1))=true then [(x,R.m - (k+1))] else [])++outH R x k
def outX (R:Rst):Nat→List (Nat×Nat)
  | 0=>outH R 0 R.m++outH R 1 R.m
  | 1=>outH R 1 R.m
  | _=>[]
def outV (o:Nat×Nat):PV:=.agg [I o.1,I o.2]
theorem outX_at {R:Rst} {x:Nat} (hx:x < 2):outX R x=outH R x R.m++outX R (x+1):=by
  rcases (by omega:x=0∨x=1) with rfl | rfl
  · rfl
  · simp [outX]
theorem outH_mem {R : Rst} {x : Nat} : ∀ {k : Nat} {o : Nat × Nat}, k ≤ R.m → o ∈ outH R x k → o.1 = x ∧ o.2 < R.m ∧ R.bit x o.2 = true
  | 0,o,_,h=>by cases h
  | k + 1, o, hk, h => by
    simp only [outH,List.mem_append] at h
    rcases h with h | h
    · split at h
      · next hb =>
        simp only [List.mem_singleton] at h
        subst h
        exact ⟨rfl,by simp only;omega,hb⟩
      · cases h
    · exact outH_mem (by omega) h
theorem outX_mem {R:Rst} {o:Nat×Nat} (h:o∈outX R 0):o.1 < 2∧o.2 < R.m∧R.bit o.1 o.2=true:=by
  simp only [outX,List.mem_append] at h
  rcases h with h | h
  · obtain ⟨h1, h2, h3⟩ := outH_mem (Nat.le_refl _) h
    exact ⟨by omega,h2,by rw [h1];exact h3⟩
  · obtain ⟨h1, h2, h3⟩ := outH_mem (Nat.le_refl _) h
    exact ⟨by omega,h2,by rw [h1];exact h3⟩
theorem f139 (R:Rst) (hR:R.ok):Yields P0 139 [.agg R.cells] [] ((outX R 0).map outV):=by
  intro j n l Rr hj hfeed
  obtain ⟨hm16,ho0,ho1,_⟩:=hR
  have hob:∀ x,R.o x < 2 ^ 62:=fun x=>by unfold Rst.o;split<;>assumption
  refine PCall.ofH (C:=c139) (cx_ok _ _ _) rfl (fn:=Tryz.f139) (by kernel_rfl) (c:=_) rfl rfl rfl (fun hok=>?_)
  refine Run.seq (Run.region (cx_ok _ _ _) (Reg.op rfl (Ope.boxF rfl rfl ?_)))
  refine Reg.nil (Run.seq (Run.region (cx_ok _ _ _) (Reg.op rfl (Ope.fld rfl rfl ?_))))
  refine Reg.op rfl (Ope.fld rfl rfl ?_)
  refine Reg.op rfl (Ope.load rfl rfl ?_)
  refine Reg.op rfl (Ope.mov rfl ?_)
  refine Reg.nil (Run.block (Run.loop (α:=Nat×Nat×HL) (fun s=>[(1,.yld j),(2,.fp (.agg R.cells)),(9,.agg [I R.o0,I R.t0,I R.r0,I R.f0,I R.o1,I R.t1,I R.r1,I R.f1]),(10,I s.1)]) (fun s=>HE s.2.1 s.2.2) (fun s=>s.1≤2∧(∀ q,s.2.1≤q→hget s.2.2 q=none)∧Feed P0 (.yld j) Rr ((outX R s.1).map outV) s.2.1 s.2.2) (fun s=>2 - s.1) (0,n,l) ⟨rfl,rfl,rfl,rfl,trivial⟩ rfl ⟨by omega,fun q hq=>ok_none hok hq,hfeed⟩ (fun s hs=>?_)))
  obtain ⟨x,m,l'⟩:=s
  obtain ⟨hx2,hok',hf⟩:=hs
  simp only at hx2 hok' hf
  have hm0:=hok' m (Nat.le_refl _)
  show Run _ _ _ _ [(1,.yld j),(2,.fp (.agg R.cells)),(9,.agg [I R.o0,I R.t0,I R.r0,I R.f0,I R.o1,I R.t1,I R.r1,I R.f1]),(10,I x)] [] (HE m l')
  refine Run.seq (Run.region (cx_ok _ _ _) (Reg.op rfl (Ope.lt rfl rfl ?_)))
  refine Reg.nil (Run.seq (Run.condX rfl (fun hc=>?_) fun hc=>?_))
  ·refine Run.skip (Run.seq (Run.block (Run.seq ?_)))
   have hlt:x < 2:=by omega
   have hox:=hob x
   refine Run.region (cx_ok _ _ _) (Reg.op rfl (Ope.mov rfl ?_))
   refine Reg.op rfl (Ope.idx (m:=x) rfl rfl rfl ((T.blt_iff _ _).2 hlt) (part_x hlt) ?_)
   refine Reg.op rfl (Ope.newL rfl ?_)
   refine Reg.op rfl (Ope.asg rfl ?_)
   refine Reg.op0 (Ope.store rfl rfl hget_hd rfl rfl rfl ?_)
   refine Reg.nil (Run.seq (Run.frz (d:=5) true rfl hget_hd rfl ?_))
   refine Run.wideS (m:=m+1) (l':=l') (Nat.le_refl _) (hs_skip (hs_skip (hs_skip hs_refl hm0) hm0) hm0) ?_
   refine Run.region (cx_ok _ _ _) (Reg.op rfl (Ope.fld rfl rfl ?_))
   refine Reg.op rfl (Ope.fld rfl rfl ?_)
   refine Reg.op rfl (Ope.load rfl rfl ?_)
   refine Reg.op rfl (Ope.mov rfl ?_)
   refine Reg.nil (Run.block (Run.loop (α:=Nat×Nat×HL) (fun s=>[(1,.yld j),(2,.fp (.agg R.cells)),(4,I x),(5,.fp (.agg (lim R x))),(9,.agg [I R.o0,I R.t0,I R.r0,I R.f0,I R.o1,I R.t1,I R.r1,I R.f1]),(10,I x),(16,I R.m),(17,I s.1)]) (fun s=>HE s.2.1 s.2.2) (fun s=>s.1≤R.m∧(∀ q,s.2.1≤q→hget s.2.2 q=none)∧Feed P0 (.yld j) Rr ((outH R x (R.m - s.1)++outX R (x+1)).map outV) s.2.1 s.2.2) (fun s=>R.m - s.1) (0,m+1,l') ⟨rfl,rfl,rfl,rfl,rfl,rfl,rfl,rfl,trivial⟩ rfl ⟨Nat.zero_le _,fun q hq=>hok' q (by simp only at hq;omega),by rw [outX_at hlt] at hf;exact Feed.mono (by show m≤m+1;omega) hf⟩ (fun s hs=>?_)))
   obtain ⟨h,m1,l1⟩:=s
   obtain ⟨hh,hok1,hf1⟩:=hs
   simp only at hh hok1 hf1
   show Run _ _ _ _ [(1,.yld j),(2,.fp (.agg R.cells)),(4,I x),(5,.fp (.agg (lim R x))),(9,.agg [I R.o0,I R.t0,I R.r0,I R.f0,I R.o1,I R.t1,I R.r1,I R.f1]),(10,I x),(16,I R.m),(17,I h)] [] (HE m1 l1)
   refine Run.seq (Run.region (cx_ok _ _ _) (Reg.op rfl (Ope.lt rfl rfl ?_)))
   refine Reg.nil (Run.seq (Run.condX rfl (fun hc=>?_) fun hc=>?_))
   ·refine Run.skip (Run.seq (Run.block (Run.seq ?_)))
    have hhm:h < R.m:=by omega
    have hsh:R.o x >>> h < 2 ^ 62:=Nat.lt_of_le_of_lt (Nat.shiftRight_le _ _) hox
    obtain ⟨kk,hkk⟩:∃ kk,R.m - h=kk+1:=⟨R.m - h - 1,by omega⟩
    have hk2:R.m - (h+1)=kk:=by omega
    have hk3:R.m - (kk+1)=h:=by omega
    rw [hkk] at hf1
    simp only [outH,hk3] at hf1
    refine Run.region (cx_ok _ _ _) (Reg.op rfl (Ope.mov rfl ?_))
    refine Reg.op rfl (Ope.asg rfl ?_)
    refine Reg.nil (Run.seq (Run.region (cx_ok _ _ _) (Reg.op rfl (Ope.fld rfl rfl ?_))))
    refine Reg.op rfl (Ope.load rfl rfl ?_)
    refine Reg.op rfl (Ope.mov rfl ?_)
    refine Reg.op rfl (Ope.shrN (p:=R.o x) (m:=h) rfl rfl rfl rfl (by show h≤64;omega) ?_)
    refine Reg.op rfl (Ope.andN (p:=R.o x >>> h) (q:=1) rfl rfl rfl rfl (by show _ < 2 ^ 64;omega) (by decide) ?_)
    refine Reg.op rfl (Ope.eq rfl rfl ?_)
    refine Reg.op rfl (Ope.mov rfl ?_)
    refine Reg.splitX rfl rfl (fun hg=>?_) fun hg=>?_
    ·refine Reg.on rfl rfl rfl (Ope.mov rfl ?_)
     refine Reg.on rfl rfl rfl (Ope.mov rfl ?_)
     refine Reg.on rfl rfl rfl (Ope.mov rfl ?_)
     refine Reg.on rfl rfl rfl (Ope.bld rfl rfl ?_)
     rw [if_pos (show R.bit x h=true from decide_eq_true hg)] at hf1
     refine Reg.on rfl rfl rfl (Ope.yld (own:=[]) (v:=outV (x,h)) rfl rfl (Owns.of (by simp) (by simp [keysB])) hf1 (fun m2 l2 hm2 hok2 hno2 hf2=>?_) (fun m2 l2 hm2 hok2 hno2 hr2=>?_))
     ·refine Reg.on rfl rfl rfl (Ope.not rfl ?_)
      refine Reg.op rfl (Ope.pickT rfl rfl ?_)
      refine Reg.nil (Run.condX rfl (fun hc=>?_) fun hc=>?_)
      ·exact absurd hc (by decide)
      ·refine Run.skip (Run.bend (Run.region (cx_ok _ _ _) (Reg.op rfl (Ope.add rfl rfl (by omega) ?_))))
       refine Reg.op rfl (Ope.mov rfl ?_)
       refine Reg.nil ?_
       first
         | exact Run.lend ⟨(h+1,m2,l2),by simp only;omega,⟨by simp only;omega,fun q hq=>ok_none hok2 hq,by simp only [hk2];exact hf2⟩,⟨rfl,rfl,rfl,rfl,rfl,rfl,rfl,rfl,trivial⟩,rfl,rfl⟩
         | rw [if_neg (show ¬ R.bit x h = true from fun hb => hg (of_decide_eq_true hb))] at hf1
           exact Run.lend ⟨(h+1,m1,l1),by simp only;omega,⟨by simp only;omega,hok1,by simp only [hk2];exact hf1⟩,⟨rfl,rfl,rfl,rfl,rfl,rfl,rfl,rfl,trivial⟩,rfl,rfl⟩
     ·refine Reg.on rfl rfl rfl (Ope.not rfl ?_)
      refine Reg.op rfl (Ope.pickT rfl rfl ?_)
      refine Reg.nil (Run.condX rfl (fun hc=>?_) fun hc=>?_)
      ·refine Run.ret (Jmp.retB (Jmp.code (Jmp.round (Jmp.retB (Jmp.retB (Jmp.code (Jmp.round (Jmp.retB ?_))))))))
       first
         | exact finH_ret .nil (Nat.le_refl _) hs_refl (hr2 _ (Nat.le_refl _) _)
         | exact finH_end .nil (Nat.le_refl _) hs_refl (by have h2 : x = 2 := by omega
                                                           subst h2
                                                           exact hf _ (Nat.le_refl _) _)
      ·exact absurd hc (by decide)
    ·refine Reg.off rfl rfl rfl (Reg.off rfl rfl rfl (Reg.off rfl rfl rfl (Reg.off rfl rfl rfl (Reg.off rfl rfl rfl (Reg.off rfl rfl rfl (Reg.op rfl (Ope.pickF rfl rfl ?_)))))))
     refine Reg.nil (Run.condF rfl (Run.skip (Run.bend (Run.region (cx_ok _ _ _) (Reg.op rfl (Ope.add rfl rfl (by omega) ?_))))))
     refine Reg.op rfl (Ope.mov rfl ?_)
     refine Reg.nil ?_
     first
       | exact Run.lend ⟨(h+1,m2,l2),by simp only;omega,⟨by simp only;omega,fun q hq=>ok_none hok2 hq,by simp only [hk2];exact hf2⟩,⟨rfl,rfl,rfl,rfl,rfl,rfl,rfl,rfl,trivial⟩,rfl,rfl⟩
       | rw [if_neg (show ¬ R.bit x h = true from fun hb => hg (of_decide_eq_true hb))] at hf1
         exact Run.lend ⟨(h+1,m1,l1),by simp only;omega,⟨by simp only;omega,hok1,by simp only [hk2];exact hf1⟩,⟨rfl,rfl,rfl,rfl,rfl,rfl,rfl,rfl,trivial⟩,rfl,rfl⟩
   ·refine Run.exit (Jmp.code (Jmp.round (Jmp.here (Run.bend (Run.region (cx_ok _ _ _) (Reg.op rfl (Ope.add rfl rfl (by omega) ?_)))))))
    refine Reg.op rfl (Ope.mov rfl ?_)
    refine Reg.nil ?_
    have hhm:R.m - h=0:=by omega
    rw [hhm] at hf1
    exact Run.lend ⟨(x+1,m1,l1),by simp only;omega,⟨by simp only;omega,hok1,hf1⟩,⟨rfl,rfl,rfl,rfl,trivial⟩,rfl,rfl⟩
  ·refine Run.exit (Jmp.code (Jmp.round (Jmp.here ?_)))
   first
     | exact finH_ret .nil (Nat.le_refl _) hs_refl (hr2 _ (Nat.le_refl _) _)
     | exact finH_end .nil (Nat.le_refl _) hs_refl (by have h2 : x = 2 := by omega
                                                       subst h2
                                                       exact hf _ (Nat.le_refl _) _)
end Go.Pv
namespace Go.Pv
open Go.Proofs Go.Am
set_option maxRecDepth 10000
def Rst.hind (R:Rst):Option (Nat×Nat):=(outX R 0).find? fun o=>decide (0 < (R.without o.1 o.2).many)
def hindV:Option (Nat×Nat)→PV
  | none=>.tup [.agg [I 0,I 0],B false]
  | some o=>.tup [outV o,B true]
theorem f79 (R : Rst) (hR : R.ok) : Fn P0 79 [.agg R.cells] (hindV R.hind) := by
  have hm16:=hR.1
  refine PFun.of (C:=c79) (cx_ok _ _ _) rfl (fn:=Tryz.f79) (by kernel_rfl) (c:=_) rfl rfl rfl ?_
  refine Run.seq (Run.region (cx_ok _ _ _) (Reg.op rfl (Ope.boxF rfl rfl ?_)))
  refine Reg.op rfl (Ope.newL rfl ?_)
  refine Reg.op rfl (Ope.newL rfl ?_)
  refine Reg.nil (Run.seq (Run.seq (Run.region (cx_ok _ _ _) (Reg.op rfl (Ope.load rfl rfl ?_)))))
  refine Reg.op rfl (Ope.mkf rfl rfl ?_)
  refine Reg.nil (Run.block (Run.rangeF (cx_ok _ _ _) rfl (α:=Unit) (fun _=>[(0,some (.cells [I 0,I 0])),(1,some (.cells [B false]))]) (fun _=>4) (fun i _=>∀ o∈(outX R 0).take i,¬ 0 < (R.without o.1 o.2).many) rfl (f139 R hR) rfl rfl ⟨Tryz.f79,by kernel_rfl⟩ () (fun o ho=>by simp at ho) ⟨rfl,rfl,trivial⟩ (by simp) (by simp) (by omega) (fun i _ v hv hI m hm1 hm2 lb=>?_) (fun _ hI m hm1 hm2=>?_)))
  ·obtain ⟨o, ho, rfl⟩ : ∃ o, (outX R 0)[i]? = some o ∧ v = outV o := by
     rw [List.getElem?_map] at hv
     cases hq:(outX R 0)[i]? with
     | none=>rw [hq] at hv;cases hv
     | some o=>rw [hq] at hv;cases hv;exact ⟨o,rfl,rfl⟩
   obtain ⟨hlt,hget⟩:=List.getElem?_eq_some_iff.1 ho
   obtain ⟨x,h⟩:=o
   obtain ⟨hx2,hhm,hbit⟩:=outX_mem (List.mem_of_getElem? ho)
   simp only at hx2 hhm hbit
   refine Run.region (Cx.Ok.rnd (cx_ok _ _ _)) (Reg.op rfl (Ope.newL rfl ?_))
   refine Reg.op0 (Ope.store rfl rfl hget_hd rfl rfl rfl ?_)
   refine Reg.nil (Run.done ⟨rfl,rfl,_,_,rfl,(hget_tl (by omega)).trans ((hget_tl (by omega)).trans hget_hd),fun lb2=>?_⟩)
   refine Run.block (Run.seq (Run.frz (d:=4) true rfl ((hget_tl (by omega)).trans hget_hd) rfl ?_))
   refine Run.wideS (m:=m+1) (l':=[(3,some lb2),(2,some .dfr),(0,some (.cells [I 0,I 0])),(1,some (.cells [B false]))]) (Nat.le_refl _) (hs_skip (hs_keep (hs_skip (hs_skip (hs_skip hs_refl rfl) (by repeat (first | rfl | refine (hget_tl (by omega)).trans ?_))) (by repeat (first | rfl | refine (hget_tl (by omega)).trans ?_)))) (by repeat (first | rfl | refine (hget_tl (by omega)).trans ?_))) ?_
   refine Run.region (Cx.Ok.rnd (cx_ok _ _ _)) (Reg.op rfl (Ope.load rfl rfl ?_))
   refine Reg.op rfl (Ope.load rfl rfl ?_)
   refine Reg.op rfl (Ope.cf rfl rfl (f140 R hR x h hx2 (by omega)) rfl ?_)
   refine Reg.op rfl (Ope.cf rfl rfl (f61 (R.without x h) (without_ok hR x h)) rfl ?_)
   refine Reg.op rfl (Ope.gt rfl rfl ?_)
   refine Reg.nil (Run.condX rfl (fun hc=>?_) fun hc=>?_)
   ·refine Run.seq (Run.region (Cx.Ok.rnd (cx_ok _ _ _)) (Reg.op rfl (Ope.load rfl rfl ?_)))
    refine Reg.op0 (Ope.store rfl rfl rfl rfl rfl rfl ?_)
    refine Reg.op0 (Ope.store rfl rfl rfl rfl rfl rfl ?_)
    refine Reg.nil (Run.ret (Jmp.retB (Jmp.done ⟨rfl,_,_,rfl,by omega,rfl,trivial,[(2,some .dfr),(0,some (.cells [I x,I h])),(1,some (.cells [B true]))],⟨rfl,rfl,rfl,trivial⟩,fun m4 hm4=>?_⟩)))
    refine Jmp.retB (Jmp.code (fin_retD rfl (.cell rfl rfl (.cell rfl rfl .nil)) rfl ?_))
    first
      | have hfi : R.hind = some (x, h) := by
          have hmany:0 < (R.without x h).many:=by
            have:(0:Int) < ((R.without x h).many:Int):=hc
            omega
          unfold Rst.hind
          have hdrop:=List.drop_eq_getElem_cons hlt
          rw [hget] at hdrop
          rw [← List.take_append_drop i (outX R 0),hdrop,List.find?_append,List.find?_eq_none.2 (fun o ho=>by simpa using hI o ho)]
          simp [hmany]
        rw [hfi]
        rfl
      | have hfi : R.hind = none := by
          unfold Rst.hind
          rw [List.length_map,List.take_length] at hI
          exact List.find?_eq_none.2 fun o ho=>by simpa using hI o ho
        rw [hfi]
        rfl
   ·refine Run.skip (Run.bend (Run.done ⟨rfl,_,_,rfl,by omega,rfl,(),by omega,⟨rfl,rfl,rfl,trivial⟩,?_⟩))
    intro o ho'
    rw [List.take_succ_eq_append_getElem hlt,hget] at ho'
    rcases List.mem_append.1 ho' with h1 | h1
    · exact hI o h1
    · simp only [List.mem_singleton] at h1
      subst h1
      have:¬ (0:Int) < ((R.without x h).many:Int):=hc
      simp only
      omega
  ·refine Run.bend (Run.seq (Run.region (cx_ok _ _ _) (Reg.op rfl (Ope.bld rfl rfl ?_))))
   refine Reg.op0 (Ope.store rfl rfl rfl rfl rfl rfl ?_)
   refine Reg.op0 (Ope.store rfl rfl rfl rfl rfl rfl ?_)
   refine Reg.nil (Run.ret (fin_retD rfl (.cell rfl rfl (.cell rfl rfl .nil)) rfl ?_))
   first
     | have hfi : R.hind = some (x, h) := by
         have hmany:0 < (R.without x h).many:=by
           have:(0:Int) < ((R.without x h).many:Int):=hc
           omega
         unfold Rst.hind
         have hdrop:=List.drop_eq_getElem_cons hlt
         rw [hget] at hdrop
         rw [← List.take_append_drop i (outX R 0),hdrop,List.find?_append,List.find?_eq_none.2 (fun o ho=>by simpa using hI o ho)]
         simp [hmany]
       rw [hfi]
       rfl
     | have hfi : R.hind = none := by
         unfold Rst.hind
         rw [List.length_map,List.take_length] at hI
         exact List.find?_eq_none.2 fun o ho=>by simpa using hI o ho
       rw [hfi]
       rfl
theorem f78b (R:Rst) (hR:R.ok) (hv:validR R.m R.o0 R.t0 R.r0 R.f0 R.o1 R.t1 R.r1 R.f1=true) (hn:R.many≠0):Pan P0 78 [.fp (.agg R.cells)] (.ifc 30 (I 11)):=by
  refine PFun.of (C:=c78) (cx_ok _ _ _) rfl (fn:=Tryz.f78) (by kernel_rfl) (c:=_) rfl rfl rfl ?_
  refine Run.seq (Run.region (cx_ok _ _ _) (Reg.op rfl (Ope.newL rfl ?_)))
  refine Reg.nil (Run.seq (Run.region (cx_ok _ _ _) (Reg.op rfl (Ope.load rfl rfl ?_))))
  refine Reg.op rfl (Ope.cf rfl rfl (f54t _ _ _ _ _ _ _ _ _ hv) rfl ?_)
  refine Reg.op rfl (Ope.newL rfl ?_)
  refine Reg.op0 (Ope.store rfl rfl hget_hd rfl rfl rfl ?_)
  refine Reg.nil (Run.seq (Run.region (cx_ok _ _ _) (Reg.op rfl (Ope.load rfl rfl ?_))))
  refine Reg.op rfl (Ope.cf rfl rfl (f61 R hR) rfl ?_)
  refine Reg.op rfl (Ope.eq rfl rfl ?_)
  refine Reg.op rfl (Ope.cp rfl rfl (f55f' _ (decide_eq_false (by omega))) rfl (fin_panic rfl rfl))
theorem f78c (R:Rst) (hR:R.ok) (hv:validR R.m R.o0 R.t0 R.r0 R.f0 R.o1 R.t1 R.r1 R.f1=true) (hn:R.many=0) (hh:R.hind=none):Pan P0 78 [.fp (.agg R.cells)] (.ifc 30 (I 4)):=by
  have h79:=f79 R hR
  rw [hh] at h79
  refine PFun.of (C:=c78) (cx_ok _ _ _) rfl (fn:=Tryz.f78) (by kernel_rfl) (c:=_) rfl rfl rfl ?_
  refine Run.seq (Run.region (cx_ok _ _ _) (Reg.op rfl (Ope.newL rfl ?_)))
  refine Reg.nil (Run.seq (Run.region (cx_ok _ _ _) (Reg.op rfl (Ope.load rfl rfl ?_))))
  refine Reg.op rfl (Ope.cf rfl rfl (f54t _ _ _ _ _ _ _ _ _ hv) rfl ?_)
  refine Reg.op rfl (Ope.newL rfl ?_)
  refine Reg.op0 (Ope.store rfl rfl hget_hd rfl rfl rfl ?_)
  refine Reg.nil (Run.seq (Run.region (cx_ok _ _ _) (Reg.op rfl (Ope.load rfl rfl ?_))))
  refine Reg.op rfl (Ope.cf rfl rfl (f61 R hR) rfl ?_)
  refine Reg.op rfl (Ope.eq rfl rfl ?_)
  refine Reg.op rfl (Ope.cf rfl rfl (f55t' _ (decide_eq_true (by omega))) rfl ?_)
  refine Reg.nil (Run.seq (Run.region (cx_ok _ _ _) (Reg.op rfl (Ope.load rfl rfl ?_))))
  refine Reg.op rfl (Ope.cf rfl rfl (h79) rfl ?_)
  refine Reg.op rfl (Ope.mov rfl ?_)
  refine Reg.op rfl (Ope.ext rfl rfl ?_)
  refine Reg.op rfl (Ope.ext rfl rfl ?_)
  refine Reg.op rfl (Ope.newL rfl ?_)
  refine Reg.op0 (Ope.store rfl rfl hget_hd rfl rfl rfl ?_)
  refine Reg.op rfl (Ope.asg rfl ?_)
  refine Reg.nil (Run.seq (Run.region (cx_ok _ _ _) (Reg.op rfl (Ope.mov rfl ?_))))
  refine Reg.op rfl (Ope.cp rfl rfl (f55f' _ rfl) rfl (fin_panic rfl rfl))
theorem f78d (R:Rst) (hR:R.ok) (hv:validR R.m R.o0 R.t0 R.r0 R.f0 R.o1 R.t1 R.r1 R.f1=true) (hn:R.many=0) (x h:Nat) (hh:R.hind=some (x,h)):Fn P0 78 [.fp (.agg R.cells)] (.agg [I x,I h]):=by
  have h79:=f79 R hR
  rw [hh] at h79
  refine PFun.of (C:=c78) (cx_ok _ _ _) rfl (fn:=Tryz.f78) (by kernel_rfl) (c:=_) rfl rfl rfl ?_
  refine Run.seq (Run.region (cx_ok _ _ _) (Reg.op rfl (Ope.newL rfl ?_)))
  refine Reg.nil (Run.seq (Run.region (cx_ok _ _ _) (Reg.op rfl (Ope.load rfl rfl ?_))))
  refine Reg.op rfl (Ope.cf rfl rfl (f54t _ _ _ _ _ _ _ _ _ hv) rfl ?_)
  refine Reg.op rfl (Ope.newL rfl ?_)
  refine Reg.op0 (Ope.store rfl rfl hget_hd rfl rfl rfl ?_)
  refine Reg.nil (Run.seq (Run.region (cx_ok _ _ _) (Reg.op rfl (Ope.load rfl rfl ?_))))
  refine Reg.op rfl (Ope.cf rfl rfl (f61 R hR) rfl ?_)
  refine Reg.op rfl (Ope.eq rfl rfl ?_)
  refine Reg.op rfl (Ope.cf rfl rfl (f55t' _ (decide_eq_true (by omega))) rfl ?_)
  refine Reg.nil (Run.seq (Run.region (cx_ok _ _ _) (Reg.op rfl (Ope.load rfl rfl ?_))))
  refine Reg.op rfl (Ope.cf rfl rfl (h79) rfl ?_)
  refine Reg.op rfl (Ope.mov rfl ?_)
  refine Reg.op rfl (Ope.ext rfl rfl ?_)
  refine Reg.op rfl (Ope.ext rfl rfl ?_)
  refine Reg.op rfl (Ope.newL rfl ?_)
  refine Reg.op0 (Ope.store rfl rfl hget_hd rfl rfl rfl ?_)
  refine Reg.op rfl (Ope.asg rfl ?_)
  refine Reg.nil (Run.seq (Run.region (cx_ok _ _ _) (Reg.op rfl (Ope.mov rfl ?_))))
  refine Reg.op rfl (Ope.cf rfl rfl (f55t' _ rfl) rfl ?_)
  refine Reg.nil (Run.seq (Run.region (cx_ok _ _ _) (Reg.op rfl (Ope.load rfl rfl ?_))))
  refine Reg.op0 (Ope.store rfl rfl rfl rfl rfl rfl ?_)
  exact Reg.nil (Run.ret (fin_ret (.cell rfl rfl .nil) rfl rfl))
theorem d138n {n:Nat} {l:HL} {K:PH→Prop} (hK:K (HE n l)):PDefer A0 P0 138 [.ptr 1 0] (.lit .nilifc) (HE n l) K:=by
  refine PDefer.of (C:=c138) (fd:=Tryz.f138) (by kernel_rfl) rfl rfl rfl rfl rfl rfl rfl rfl rfl rfl ?_
  refine Run.block (Run.seq (Run.region (cx_ok _ _ _) ?_))
  first | refine Reg.op rfl (Ope.eq rfl rfl ?_) | refine Reg.op rfl (Ope.eqI rfl rfl ?_) | refine Reg.op rfl (Ope.eqN rfl rfl rfl ?_)
  refine Reg.nil (Run.condX rfl (fun hc=>?_) fun hc=>?_)
  ·refine Run.region (cx_ok _ _ _) (Reg.op rfl (Ope.asg rfl ?_))
   exact Reg.nil (Run.bend (Run.done ⟨.inl rfl,trivial,hK⟩))
  ·exact absurd hc (by decide)
theorem d138e {n:Nat} {l:HL} {K:PH→Prop} {k z:Int} (hz:hget l 1=some (.cells [I z])) (hK:K (HE n ((1,some (.cells [I k]))::l))):PDefer A0 P0 138 [.ptr 1 0] (.ifc 30 (I k)) (HE n l) K:=by
  refine PDefer.of (C:=c138) (fd:=Tryz.f138) (by kernel_rfl) rfl rfl rfl rfl rfl rfl rfl rfl rfl rfl ?_
  refine Run.block (Run.seq (Run.region (cx_ok _ _ _) ?_))
  first | refine Reg.op rfl (Ope.eq rfl rfl ?_) | refine Reg.op rfl (Ope.eqI rfl rfl ?_) | refine Reg.op rfl (Ope.eqN rfl rfl rfl ?_)
  refine Reg.nil (Run.condX rfl (fun hc=>?_) fun hc=>?_)
  ·exact absurd hc (by decide)
  ·refine Run.seq (Run.region (cx_ok _ _ _) ?_)
   first | refine Reg.op rfl (Ope.tasY rfl rfl ?_) | refine Reg.op rfl (Ope.tasN rfl rfl ?_)
   refine Reg.op rfl (Ope.ext rfl rfl ?_)
   refine Reg.op rfl (Ope.ext rfl rfl ?_)
   refine Reg.nil (Run.condX rfl (fun hc=>?_) fun hc=>?_)
   ·refine Run.seq (Run.region (cx_ok _ _ _) (Reg.op rfl (Ope.asg rfl ?_)))
    refine Reg.nil (Run.region (cx_ok _ _ _) (Reg.op rfl (Ope.mov rfl ?_)))
    refine Reg.op0 (Ope.store rfl rfl hz rfl rfl rfl ?_)
    exact Reg.nil (Run.bend (Run.done ⟨.inl rfl,trivial,hK⟩))
   ·exact absurd hc (by decide)
theorem f77ok {fa:Nat} {caps:List PV} {a b:Int} (hf:Fn P0 fa caps (.agg [I a,I b])) (hb:PV.bds 0 caps=true):Fn P0 77 [.fn (.func fa) [] caps] (.tup [.agg [I a,I b],I 0]):=by
  unfold Fn PFun
  show PCall P0 77 _ (HE 0 []) _ _
  refine PCall.ofT (C:=c77) (cx_ok _ _ _) (fn:=Tryz.f77) (by kernel_rfl) (c:=_) rfl rfl ?_
  refine Til.seq rfl rfl ?_
  refine Run.region (cx_ok _ _ _) ?_
  refine Reg.op rfl (Ope.newL rfl ?_)
  refine Reg.op rfl (Ope.newL rfl ?_)
  refine Reg.nil ?_
  refine Run.done ⟨rfl,rfl,?_⟩
  refine Til.defer (cx_ok _ _ _) rfl rfl (by kernel_rfl) [(2,.ptr 0 0),(3,.ptr 1 0)] rfl rfl rfl rfl rfl rfl rfl rfl (Ope.mkf rfl rfl ⟨rfl,rfl⟩) rfl rfl ⟨rfl,rfl,trivial⟩ ?_
  refine Reg.op rfl (Ope.mov rfl ?_)
  refine Reg.op rfl (Ope.cf rfl rfl (by simpa using hf) (by simpa using hb) ?_)
  refine Reg.op0 (Ope.store rfl rfl rfl rfl rfl rfl ?_)
  refine Reg.op0 (Ope.store rfl rfl rfl rfl rfl rfl ?_)
  refine Reg.nil ?_
  refine Run.done ⟨rfl,trivial,d138n ?_⟩
  exact ResE.ofF (.cell rfl rfl (.cell rfl rfl .nil)) rfl rfl
theorem f77er {fa:Nat} {caps:List PV} {k:Int} (hf:Pan P0 fa caps (.ifc 30 (I k))) (hb:PV.bds 0 caps=true):Fn P0 77 [.fn (.func fa) [] caps] (.tup [.agg [I 0,I 0],I k]):=by
  unfold Fn PFun
  show PCall P0 77 _ (HE 0 []) _ _
  refine PCall.ofT (C:=c77) (cx_ok _ _ _) (fn:=Tryz.f77) (by kernel_rfl) (c:=_) rfl rfl ?_
  refine Til.seq rfl rfl ?_
  refine Run.region (cx_ok _ _ _) ?_
  refine Reg.op rfl (Ope.newL rfl ?_)
  refine Reg.op rfl (Ope.newL rfl ?_)
  refine Reg.nil ?_
  refine Run.done ⟨rfl,rfl,?_⟩
  refine Til.defer (cx_ok _ _ _) rfl rfl (by kernel_rfl) [(2,.ptr 0 0),(3,.ptr 1 0)] rfl rfl rfl rfl rfl rfl rfl rfl (Ope.mkf rfl rfl ⟨rfl,rfl⟩) rfl rfl ⟨rfl,rfl,trivial⟩ ?_
  refine Reg.op rfl (Ope.mov rfl ?_)
  refine Reg.op rfl (Ope.cp rfl rfl (by simpa using hf) (by simpa using hb) ⟨trivial,d138e rfl ?_⟩)
  exact ResE.ofF (.cell rfl rfl (.cell rfl rfl .nil)) rfl rfl
theorem f31 (h a0 b0 c0 d0 a1 b1 c1 d1:Int) (a b e:Int) (hf:Fn P0 77 [.fn (.func 78) [] [.fp (.agg [I h,I a0,I b0,I c0,I d0,I a1,I b1,I c1,I d1])]] (.tup [.agg [I a,I b],I e])) :
    Fn P0 31 [.agg [I h,I a0,I b0,I c0,I d0,I a1,I b1,I c1,I d1]] (.tup [I a,I b,I e]):=by
  refine PFun.of (C:=c31) (cx_ok _ _ _) rfl (fn:=Tryz.f31) (by kernel_rfl) (c:=_) rfl rfl rfl ?_
  refine Run.seq (Run.region (cx_ok _ _ _) (Reg.op rfl (Ope.boxF rfl rfl ?_)))
  refine Reg.op rfl (Ope.asg rfl ?_)
  refine Reg.op rfl (Ope.asg rfl ?_)
  refine Reg.op rfl (Ope.asg rfl ?_)
  refine Reg.nil (Run.seq (Run.region (cx_ok _ _ _) (Reg.op rfl (Ope.mkf rfl rfl ?_))))
  refine Reg.op rfl (Ope.cf rfl rfl (hf) rfl ?_)
  refine Reg.op rfl (Ope.mov rfl ?_)
  refine Reg.op rfl (Ope.ext rfl rfl ?_)
  refine Reg.op rfl (Ope.ext rfl rfl ?_)
  refine Reg.op rfl (Ope.newL rfl ?_)
  refine Reg.op0 (Ope.store rfl rfl hget_hd rfl rfl rfl ?_)
  refine Reg.op rfl (Ope.asg rfl ?_)
  refine Reg.nil (Run.seq (Run.draw (cx_ok _ _ _) [(0,true),(1,true),(2,true),(3,true),(4,true),(5,true),(6,true),(7,true)] (by kernel_rfl) (Dra.op' rfl rfl rfl .sure (Ope.fld rfl rfl ?_))))
  refine Dra.op' rfl rfl rfl .sure (Ope.load rfl rfl ?_)
  refine Dra.op' rfl rfl rfl .sure (Ope.fld rfl rfl ?_)
  refine Dra.op' rfl rfl rfl .sure (Ope.load rfl rfl ?_)
  refine Dra.op' rfl rfl rfl .sure (Ope.mov rfl ?_)
  refine Dra.op' rfl rfl rfl .sure (Ope.asg rfl ?_)
  refine Dra.op' rfl rfl rfl .sure (Ope.asg rfl ?_)
  refine Dra.op' rfl rfl rfl .sure (Ope.asg rfl ?_)
  exact Dra.nil (Run.ret (fin_ret (.tmp rfl (.tmp rfl (.tmp rfl .nil))) rfl rfl))
def Rst.freeV (R:Rst):Int×Int×Int:=if R.many≠0 then (0,0,11) else match R.hind with
  | none=>(0,0,4)
  | some o=>(o.1,o.2,0)
theorem f31b (R:Rst) (hR:R.ok) (hv:validR R.m R.o0 R.t0 R.r0 R.f0 R.o1 R.t1 R.r1 R.f1=true):Fn P0 31 [.agg R.cells] (.tup [I R.freeV.1,I R.freeV.2.1,I R.freeV.2.2]):=by
  unfold Rst.freeV
  by_cases hn:R.many≠0
  · rw [if_pos hn]
    exact f31 _ _ _ _ _ _ _ _ _ _ _ _ (f77er (f78b R hR hv hn) rfl)
  · rw [if_neg hn]
    cases hh:R.hind with
    | none=>exact f31 _ _ _ _ _ _ _ _ _ _ _ _ (f77er (f78c R hR hv (by omega) hh) rfl)
    | some o=>exact f31 _ _ _ _ _ _ _ _ _ _ _ _ (f77ok (f78d R hR hv (by omega) o.1 o.2 hh) rfl)
end Go.Pv
namespace Go.Pv
open Go.Proofs Go.Am
set_option maxRecDepth 10000
theorem valid_iff {R:Rst}:validR R.m R.o0 R.t0 R.r0 R.f0 R.o1 R.t1 R.r1 R.f1=true↔R.m≤16∧R.o0 < 2 ^ R.m∧R.o1 < 2 ^ R.m∧(manyOk R.t0 && (manyOk R.r0 && manyOk R.f0))=true∧(manyOk R.t1 && (manyOk R.r1 && manyOk R.f1))=true:=by
  simp only [validR,limOk,Bool.and_eq_true,decide_eq_true_eq,Int.toNat_natCast,manyOk_iff]
  constructor
  · rintro ⟨⟨_, h1⟩, ⟨⟨_, h2⟩, h3⟩, ⟨_, h4⟩, h5⟩
    exact ⟨by omega,Int.ofNat_lt.1 h2,Int.ofNat_lt.1 h4,h3,h5⟩
  · rintro ⟨h1, h2, h3, h4, h5⟩
    exact ⟨⟨by omega,by omega⟩,⟨⟨by omega,Int.ofNat_lt.2 h2⟩,h4⟩,⟨by omega,Int.ofNat_lt.2 h3⟩,h5⟩
def Rst.first (R:Rst) (n:Nat):Rst:={ R with m:=n,o0:=R.o0 &&& (1 * 2 ^ n - 1),o1:=R.o1 &&& (1 * 2 ^ n - 1) }
theorem mask_lt (p n:Nat):p &&& (1 * 2 ^ n - 1) < 2 ^ n:=by
  rw [Nat.one_mul]
  refine Nat.lt_of_le_of_lt Nat.and_le_right ?_
  have:0 < 2 ^ n:=Nat.pow_pos (by decide)
  omega
theorem first_valid {R:Rst} (hv:validR R.m R.o0 R.t0 R.r0 R.f0 R.o1 R.t1 R.r1 R.f1=true) {n:Nat} (hn:n≤16) :
    validR (R.first n).m (R.first n).o0 (R.first n).t0 (R.first n).r0 (R.first n).f0 (R.first n).o1 (R.first n).t1 (R.first n).r1 (R.first n).f1=true:=by
  obtain ⟨h1,h2,h3,h4,h5⟩:=valid_iff.1 hv
  exact valid_iff.2 ⟨hn,mask_lt _ _,mask_lt _ _,h4,h5⟩
theorem bit_mask (p:Nat) {n h:Nat} (hh:h < n):(p &&& (1 * 2 ^ n - 1)) >>> h &&& 1=p >>> h &&& 1:=by
  rw [Nat.one_mul,Nat.and_two_pow_sub_one_eq_mod,Nat.and_one_is_mod,Nat.and_one_is_mod,Nat.shiftRight_eq_div_pow,Nat.shiftRight_eq_div_pow]
  have h1:=Nat.testBit_mod_two_pow p n h
  rw [Nat.testBit_eq_decide_div_mod_eq,Nat.testBit_eq_decide_div_mod_eq] at h1
  simp only [hh,decide_true,Bool.true_and,decide_eq_decide] at h1
  have:=Nat.mod_two_eq_zero_or_one (p % 2 ^ n / 2 ^ h)
  have:=Nat.mod_two_eq_zero_or_one (p / 2 ^ h)
  omega
theorem viol_first {R:Rst} {d:Rid} {x:Int} {n:Nat} (hd:(d.a+d.b).toNat < n):∀ k,(R.first n).viol d x k=R.viol d x k
  | 0 => by
    unfold Rst.viol Rst.first
    split<;>simp only [viol,bit_mask _ hd]
  | 1=>rfl
  | 2=>rfl
  | k+3=>rfl
theorem brk_first {R:Rst} {d:Rid} {x:Int} {n:Nat} (hd:(d.a+d.b).toNat < n):(R.first n).brk d x=R.brk d x:=by
  unfold Rst.brk
  simp only [viol_first hd]
def firstC (R:Rst) (n i:Nat):List PV:=[I n,I ((if 1≤i then R.o0 &&& (1 * 2 ^ n - 1) else R.o0:Nat):Int),I R.t0,I R.r0,I R.f0,I ((if 2≤i then R.o1 &&& (1 * 2 ^ n - 1) else R.o1:Nat):Int),I R.t1,I R.r1,I R.f1]
theorem f42 (R:Rst) (hR:R.ok) (n:Nat) (hn:n≤16):Fn P0 42 [.agg R.cells,I n] (.agg (R.first n).cells):=by
  obtain ⟨hm16,ho0,ho1,_⟩:=hR
  have hp:=pow16 hn
  have hpos:0 < 2 ^ n:=Nat.pow_pos (by decide)
  refine PFun.of (C:=c42) (cx_ok _ _ _) rfl (fn:=Tryz.f42) (by kernel_rfl) (c:=_) rfl rfl rfl ?_
  refine Run.seq (Run.region (cx_ok _ _ _) (Reg.op rfl (Ope.boxL rfl rfl ?_)))
  refine Reg.op rfl (Ope.newL rfl ?_)
  refine Reg.nil (Run.seq (Run.region (cx_ok _ _ _) (Reg.op rfl (Ope.mov rfl ?_))))
  refine Reg.op rfl (Ope.fld rfl rfl ?_)
  refine Reg.op0 (Ope.store rfl rfl (hget_tl (by decide)) rfl rfl rfl ?_)
  refine Reg.nil (Run.seq (Run.seq (Run.wide (l':=[(0,some (.cells (firstC R n 0))),(1,some (.cells [I 0,I 0,I 0,I 0,I 0,I 0,I 0,I 0,I 0]))]) (Nat.le_refl _) ⟨rfl,rfl,trivial⟩ ?_)))
  refine Run.region (cx_ok _ _ _) (Reg.op rfl (Ope.mov rfl ?_))
  refine Reg.nil (Run.block (Run.loop (α:=Nat) (fun i=>[(1,I n),(2,.ptr 0 0),(4,.ptr 1 0),(8,I i)]) (fun i=>HE 2 [(0,some (.cells (firstC R n i))),(1,some (.cells [I 0,I 0,I 0,I 0,I 0,I 0,I 0,I 0,I 0]))]) (fun i=>i≤2) (fun i=>2 - i) 0 ⟨rfl,rfl,rfl,rfl,trivial⟩ rfl (by decide) (fun i hi=>?_)))
  rcases (by omega:i=0∨i=1∨i=2) with rfl | rfl | rfl
  ·refine Run.seq (Run.region (cx_ok _ _ _) (Reg.op rfl (Ope.lt rfl rfl ?_)))
   refine Reg.nil (Run.seq (Run.condX rfl (fun hc=>?_) fun hc=>?_))
   ·refine Run.skip (Run.seq (Run.block (Run.seq (Run.region (cx_ok _ _ _) (Reg.op rfl (Ope.mov rfl ?_))))))
    refine Reg.op rfl (Ope.asg rfl ?_)
    refine Reg.nil (Run.draw (cx_ok _ _ _) [(0,true),(1,true),(2,true),(3,true),(4,true),(5,true),(6,true),(7,true),(8,true),(9,true),(10,true),(11,true),(12,true)] (by kernel_rfl) (Dra.op' rfl rfl rfl .sure (Ope.mov rfl ?_)))
    refine Dra.op' rfl rfl rfl .sure (Ope.fld rfl rfl ?_)
    refine Dra.op' rfl rfl rfl .sure (Ope.idxA rfl rfl rfl rfl ?_)
    refine Dra.op' rfl rfl rfl .sure (Ope.fld rfl rfl ?_)
    refine Dra.op' rfl rfl rfl .sure (Ope.load rfl rfl ?_)
    refine Dra.op' rfl rfl rfl .sure (Ope.mov rfl ?_)
    refine Dra.op' rfl rfl rfl .sure (Ope.shlN (p:=1) (m:=n) rfl rfl rfl rfl (by omega) (by omega) ?_)
    refine Dra.op' rfl rfl rfl .sure (Ope.sub rfl rfl (by omega) ?_)
    first
      | refine Dra.op' rfl rfl rfl .sure (Ope.andN (p:=R.o0) (q:=1 * 2 ^ n - 1) rfl rfl rfl (by omega) (by show _ < 2 ^ 64;omega) (by show _ < 2 ^ 63;omega) ?_)
      | refine Dra.op' rfl rfl rfl .sure (Ope.andN (p:=R.o1) (q:=1 * 2 ^ n - 1) rfl rfl rfl (by omega) (by show _ < 2 ^ 64;omega) (by show _ < 2 ^ 63;omega) ?_)
    refine Dra.op' rfl rfl rfl .sure (Ope.fld rfl rfl ?_)
    refine Dra.op' rfl rfl rfl .sure (Ope.idxA rfl rfl rfl rfl ?_)
    refine Dra.op' rfl rfl rfl .sure (Ope.fld rfl rfl ?_)
    refine Dra.op' rfl rfl rfl .sure (Ope.store rfl rfl rfl rfl rfl rfl ?_)
    refine Dra.nil (Run.bend ?_)
    first
      | refine Run.wide (l':=[(0,some (.cells (firstC R n 1))),(1,some (.cells [I 0,I 0,I 0,I 0,I 0,I 0,I 0,I 0,I 0]))]) (Nat.le_refl _) ⟨rfl,rfl,trivial⟩ ?_
      | refine Run.wide (l':=[(0,some (.cells (firstC R n 2))),(1,some (.cells [I 0,I 0,I 0,I 0,I 0,I 0,I 0,I 0,I 0]))]) (Nat.le_refl _) ⟨rfl,rfl,trivial⟩ ?_
    refine Run.region (cx_ok _ _ _) (Reg.op rfl (Ope.add rfl rfl (by omega) ?_))
    refine Reg.op rfl (Ope.mov rfl ?_)
    refine Reg.nil ?_
    first
      | exact Run.lend ⟨1,by decide,by decide,⟨rfl,rfl,rfl,rfl,trivial⟩,rfl,rfl⟩
      | exact Run.lend ⟨2,by decide,by decide,⟨rfl,rfl,rfl,rfl,trivial⟩,rfl,rfl⟩
   ·exfalso;omega
  ·refine Run.seq (Run.region (cx_ok _ _ _) (Reg.op rfl (Ope.lt rfl rfl ?_)))
   refine Reg.nil (Run.seq (Run.condX rfl (fun hc=>?_) fun hc=>?_))
   ·refine Run.skip (Run.seq (Run.block (Run.seq (Run.region (cx_ok _ _ _) (Reg.op rfl (Ope.mov rfl ?_))))))
    refine Reg.op rfl (Ope.asg rfl ?_)
    refine Reg.nil (Run.draw (cx_ok _ _ _) [(0,true),(1,true),(2,true),(3,true),(4,true),(5,true),(6,true),(7,true),(8,true),(9,true),(10,true),(11,true),(12,true)] (by kernel_rfl) (Dra.op' rfl rfl rfl .sure (Ope.mov rfl ?_)))
    refine Dra.op' rfl rfl rfl .sure (Ope.fld rfl rfl ?_)
    refine Dra.op' rfl rfl rfl .sure (Ope.idxA rfl rfl rfl rfl ?_)
    refine Dra.op' rfl rfl rfl .sure (Ope.fld rfl rfl ?_)
    refine Dra.op' rfl rfl rfl .sure (Ope.load rfl rfl ?_)
    refine Dra.op' rfl rfl rfl .sure (Ope.mov rfl ?_)
    refine Dra.op' rfl rfl rfl .sure (Ope.shlN (p:=1) (m:=n) rfl rfl rfl rfl (by omega) (by omega) ?_)
    refine Dra.op' rfl rfl rfl .sure (Ope.sub rfl rfl (by omega) ?_)
    first
      | refine Dra.op' rfl rfl rfl .sure (Ope.andN (p:=R.o0) (q:=1 * 2 ^ n - 1) rfl rfl rfl (by omega) (by show _ < 2 ^ 64;omega) (by show _ < 2 ^ 63;omega) ?_)
      | refine Dra.op' rfl rfl rfl .sure (Ope.andN (p:=R.o1) (q:=1 * 2 ^ n - 1) rfl rfl rfl (by omega) (by show _ < 2 ^ 64;omega) (by show _ < 2 ^ 63;omega) ?_)
    refine Dra.op' rfl rfl rfl .sure (Ope.fld rfl rfl ?_)
    refine Dra.op' rfl rfl rfl .sure (Ope.idxA rfl rfl rfl rfl ?_)
    refine Dra.op' rfl rfl rfl .sure (Ope.fld rfl rfl ?_)
    refine Dra.op' rfl rfl rfl .sure (Ope.store rfl rfl rfl rfl rfl rfl ?_)
    refine Dra.nil (Run.bend ?_)
    first
      | refine Run.wide (l':=[(0,some (.cells (firstC R n 1))),(1,some (.cells [I 0,I 0,I 0,I 0,I 0,I 0,I 0,I 0,I 0]))]) (Nat.le_refl _) ⟨rfl,rfl,trivial⟩ ?_
      | refine Run.wide (l':=[(0,some (.cells (firstC R n 2))),(1,some (.cells [I 0,I 0,I 0,I 0,I 0,I 0,I 0,I 0,I 0]))]) (Nat.le_refl _) ⟨rfl,rfl,trivial⟩ ?_
    refine Run.region (cx_ok _ _ _) (Reg.op rfl (Ope.add rfl rfl (by omega) ?_))
    refine Reg.op rfl (Ope.mov rfl ?_)
    refine Reg.nil ?_
    first
      | exact Run.lend ⟨1,by decide,by decide,⟨rfl,rfl,rfl,rfl,trivial⟩,rfl,rfl⟩
      | exact Run.lend ⟨2,by decide,by decide,⟨rfl,rfl,rfl,rfl,trivial⟩,rfl,rfl⟩
   ·exfalso;omega
  ·refine Run.seq (Run.region (cx_ok _ _ _) (Reg.op rfl (Ope.lt rfl rfl ?_)))
   refine Reg.nil (Run.seq (Run.condX rfl (fun hc=>?_) fun hc=>?_))
   ·exfalso;omega
   ·refine Run.exit (Jmp.code (Jmp.round (Jmp.here (Run.seq (Run.region (cx_ok _ _ _) (Reg.op rfl (Ope.load rfl rfl ?_)))))))
    refine Reg.op0 (Ope.store rfl rfl rfl rfl rfl rfl ?_)
    exact Reg.nil (Run.ret (fin_ret (.cell rfl rfl .nil) rfl rfl))
end Go.Pv
namespace Go.Pv
open Go.Am Go.RowKit
def loudsOf (M:Nat→Bool) (all:List Oper):List Nat:=(List.range all.length).filter (loudI M all)
def lexts (an:T Nat):Nat→List Nat→List (List Nat)
 |0,_=>[[]]
 |f+1,rem=>match rem with
  |[]=>[[]]
  |_=>rem.flatMap fun i=>match rem.all fun j=>Nat.beq i j || !((anc an i).testBit j) with
   |true=>(lexts an f (rem.filter fun j=>!(Nat.beq i j))).map (i::·)
   |false=>[]
def asapL (M:Nat→Bool) (an:T Nat) (all:List Oper):Nat→Nat→List Nat→List Nat
 |0,_,_=>[]
 |f+1,seen,lo=>match ready1 M an false seen all 0 with
  |some i=>i::asapL M an all f (Nat.lor seen (2 ^ i)) lo
  |none=>match lo with
   |[]=>[]
   |l::lo=>l::asapL M an all f (Nat.lor seen (2 ^ l)) lo
def ordLOk (M:Nat→Bool) (an:T Nat) (all:List Oper):Nat→Option Nat→List Nat→Bool
 |seen,_,[]=>Nat.beq seen (2 ^ all.length - 1)
 |seen,last,i::rest=>match Nat.blt i all.length && !seen.testBit i && Nat.beq (Nat.land (anc an i) seen) (anc an i) && (loudI M all i || (match last with
   |none=>true
   |some l=>(anc an i).testBit l)) with
  |true=>ordLOk M an all (Nat.lor seen (2 ^ i)) (match loudI M all i with
   |true=>some i
   |false=>last) rest
  |false=>false
def maskOf (M:Nat→Bool) (an:T Nat) (all:List Oper) (ord:List Nat) (i:Nat):Nat :=
 ((ord.takeWhile fun j=>!(Nat.beq i j)).filter (loudI M all)).foldl (fun m l=>Nat.lor (Nat.lor m (anc an l)) (2 ^ l)) (anc an i)
def anL (M:Nat→Bool) (an:T Nat) (all:List Oper) (ord:List Nat):T Nat:=T.ofList ((List.range all.length).map (maskOf M an all ord)) 0 .nil
def listEq:List Nat→List Nat→Bool
 |[],[]=>true
 |x::xs,y::ys=>Nat.beq x y && listEq xs ys
 |_,_=>false
theorem listEq_eq:∀ {xs ys:List Nat},listEq xs ys=true→xs=ys
 |[],[],_=>rfl
 |[],_::_,h=>by cases h
 |_::_,[],h=>by cases h
 |x::xs,y::ys,h=>by
  simp only [listEq,Bool.and_eq_true] at h
  rw [Nat.eq_of_beq_eq_true h.1,listEq_eq h.2]
def drw1 (M:Nat→Bool) (an:T Nat) (all:List Oper) (lo:List Nat):Option (List (Nat×Bool)) :=
 match ordLOk M an all 0 none (asapL M an all all.length 0 lo) && listEq ((asapL M an all all.length 0 lo).filter (loudI M all)) lo with
 |true=>flagK M (anL M an all (asapL M an all all.length 0 lo)) all (asapL M an all all.length 0 lo)
 |false=>none
def drwAll (M:Nat→Bool) (an:T Nat) (all:List Oper):List (List Nat)→Option (List (List (Nat×Bool)))
 |[]=>some []
 |lo::los=>match drw1 M an all lo with
  |some fl=>match drwAll M an all los with
   |some fls=>some (fl::fls)
   |none=>none
  |none=>none
def drwL (M:Nat→Bool) (ops:List Oper):Option (List (List (Nat×Bool))) :=
 match pstat M ops with
 |none=>none
 |some an=>drwAll M an ops (lexts an (loudsOf M ops).length (loudsOf M ops))
theorem drwAll_mem {M:Nat→Bool} {an:T Nat} {all:List Oper}:∀ {los:List (List Nat)} {fls:List (List (Nat×Bool))},drwAll M an all los=some fls→∀ lo∈los,∃ fl∈fls,drw1 M an all lo=some fl
 |[],_,_,lo,hl=>by cases hl
 |x::los,fls,h,lo,hl=>by
  simp only [drwAll] at h
  split at h
  case h_2=>cases h
  next fl hfl =>
  split at h
  case h_2=>cases h
  next fls' hfls =>
  cases h
  rcases List.mem_cons.1 hl with rfl | hl
  ·exact ⟨fl,List.mem_cons_self ..,hfl⟩
  ·obtain ⟨g,g1,g2⟩:=drwAll_mem hfls lo hl
   exact ⟨g,List.mem_cons_of_mem _ g1,g2⟩
theorem lexts_mem {an:T Nat}:∀ (f:Nat) (rem lo:List Nat),rem.length≤f→lo.Nodup→(∀ i,i∈lo↔i∈rem)→(∀ a i c,lo=a++i::c→∀ j∈lo,(anc an i).testBit j=true→j≠i→j∈a)→lo∈lexts an f rem
 |0,rem,lo,hf,hn,hm,ho=>by
  have:rem=[]:=List.eq_nil_of_length_eq_zero (by omega)
  subst this
  cases lo with
  |nil=>simp [lexts]
  |cons x xs=>exact absurd ((hm x).1 (by simp)) (by simp)
 |f + 1, rem, lo, hf, hn, hm, ho => by
  cases rem with
  |nil =>
   cases lo with
   |nil=>simp [lexts]
   |cons x xs=>exact absurd ((hm x).1 (by simp)) (by simp)
  |cons r rs =>
   cases lo with
   |nil=>exact absurd ((hm r).2 (by simp)) (by simp)
   |cons x xs =>
    have hx:x∈r::rs:=(hm x).1 (by simp)
    have hxn:x ∉ xs:=(List.nodup_cons.1 hn).1
    simp only [lexts]
    refine List.mem_flatMap.2 ⟨x,hx,?_⟩
    have hall:((r::rs).all fun j=>Nat.beq x j || !((anc an x).testBit j))=true:=by
     refine List.all_eq_true.2 fun j hj=>?_
     by_cases hxj:x=j
     ·subst hxj;simp
     ·cases hb:(anc an x).testBit j with
      |false=>simp
      |true =>
       have:=ho [] x xs rfl j ((hm j).2 hj) hb (fun e=>hxj e.symm)
       cases this
    rw [hall]
    refine List.mem_map.2 ⟨xs,?_,rfl⟩
    have hbeq:∀ j,(!(Nat.beq x j))=true↔j≠x:=fun j=>by
     rw [Bool.not_eq_true']
     constructor
     ·intro h e;subst e;simp at h
     ·intro h
      cases hb:Nat.beq x j with
      |false=>rfl
      |true=>exact absurd (Nat.eq_of_beq_eq_true hb).symm h
    refine lexts_mem f _ xs ?_ (List.nodup_cons.1 hn).2 (fun i=>?_) (fun a i c e j hj hb hji=>?_)
    ·have h1:((r::rs).filter fun j=>!(Nat.beq x j)).length < (r::rs).length:=by
      refine List.length_filter_lt_length_iff_exists.2 ⟨x,hx,?_⟩
      simp
     omega
    ·rw [List.mem_filter,hbeq,← hm i]
     constructor
     ·intro hi
      exact ⟨List.mem_cons_of_mem _ hi,fun e=>hxn (by rw [← e];exact hi)⟩
     ·rintro ⟨hi,hne⟩
      rcases List.mem_cons.1 hi with rfl | hi
      ·exact absurd rfl hne
      ·exact hi
    ·have:=ho (x::a) i c (by rw [e];rfl) j (List.mem_cons_of_mem _ hj) hb hji
     rcases List.mem_cons.1 this with rfl | h
     ·exact absurd hj hxn
     ·exact h
structure OrdL (M:Nat→Bool) (an:T Nat) (all:List Oper) (ord:List Nat):Prop where
 at_:∀ a i c,ord=a++i::c→i < all.length∧i ∉ a∧(∀ j,(anc an i).testBit j=true→j∈a)∧(loudI M all i=false→∀ a1 l a2,a=a1++l::a2→loudI M all l=true→(∀ x∈a2,loudI M all x=false)→(anc an i).testBit l=true)
 mem:∀ i,i < all.length→i∈ord
theorem ordLOk_spec {M:Nat→Bool} {an:T Nat} {all:List Oper}:∀ (rest a:List Nat) (seen:Nat) (last:Option Nat),ordLOk M an all seen last rest=true→(∀ j,seen.testBit j=true↔j∈a) →
  (∀ a1 l a2,a=a1++l::a2→loudI M all l=true→(∀ x∈a2,loudI M all x=false)→last=some l) →
  (∀ b i c,rest=b++i::c→i < all.length∧i ∉ a++b∧(∀ j,(anc an i).testBit j=true→j∈a++b)∧(loudI M all i=false→∀ a1 l a2,a++b=a1++l::a2→loudI M all l=true→(∀ x∈a2,loudI M all x=false)→(anc an i).testBit l=true))∧∀ i,i < all.length→i∈a++rest
 |[],a,seen,last,h,h1,h2=>by
  refine ⟨fun b i c e=>by simp at e,fun i hi=>?_⟩
  simp only [ordLOk] at h
  have h:=Nat.eq_of_beq_eq_true h
  rw [List.append_nil,← h1,h,Nat.testBit_two_pow_sub_one]
  simpa using hi
 |x :: rest, a, seen, last, h, h1, h2 => by
  simp only [ordLOk] at h
  split at h
  case h_2=>cases h
  next hx =>
  simp only [Bool.and_eq_true,Bool.not_eq_true',Bool.or_eq_true] at hx
  obtain ⟨⟨⟨x1,x2⟩,x3⟩,x4⟩:=hx
  have hxa:x ∉ a:=fun hc=>by rw [(h1 x).2 hc] at x2;cases x2
  have hlast:∀ a1 l a2,a++[x]=a1++l::a2→loudI M all l=true→(∀ y∈a2,loudI M all y=false)→(match loudI M all x with
    |true=>some x
    |false=>last)=some l:=by
   intro a1 l a2 e hl hq
   rcases List.eq_nil_or_concat a2 with rfl | ⟨a2',y,rfl⟩
   ·obtain ⟨rfl,e2⟩:=List.append_inj' e rfl
    cases e2
    rw [hl]
   ·rw [List.concat_eq_append,← List.cons_append,← List.append_assoc] at e
    obtain ⟨e1,e2⟩:=List.append_inj' e rfl
    cases e2
    have hxq:=hq x (by simp)
    rw [hxq]
    exact h2 a1 l a2' e1 hl fun y hy=>hq y (by simp [hy])
  obtain ⟨p1,p2⟩:=ordLOk_spec rest (a++[x]) _ _ h
   (fun j => by
    rw [bit_lor,Bool.or_eq_true,h1,decide_eq_true_eq,List.mem_append,List.mem_singleton]
    exact ⟨fun h=>h.imp id Eq.symm,fun h=>h.imp id Eq.symm⟩) hlast
  refine ⟨fun b i c e=>?_,fun i hi=>by have:=p2 i hi;rwa [List.append_assoc,List.singleton_append] at this⟩
  cases b with
  |nil =>
   simp only [List.nil_append,List.cons.injEq] at e
   obtain ⟨rfl,rfl⟩:=e
   rw [List.append_nil]
   refine ⟨(T.blt_iff _ _).1 x1,hxa,fun j hj=>(h1 j).1 (land_sub x3 hj),fun hq a1 l a2 e hl hq2=>?_⟩
   have:=h2 a1 l a2 e hl hq2
   rw [this,hq] at x4
   simpa using x4
  |cons y b =>
   simp only [List.cons_append,List.cons.injEq] at e
   obtain ⟨rfl,rfl⟩:=e
   have:=p1 b i c rfl
   rwa [List.append_assoc,List.singleton_append] at this
theorem ordL_of {M:Nat→Bool} {an:T Nat} {all:List Oper} {ord:List Nat} (h:ordLOk M an all 0 none ord=true):OrdL M an all ord:=by
 obtain ⟨p1,p2⟩:=ordLOk_spec ord [] 0 none h (fun j=>by simp) (fun a1 l a2 e=>by simp at e)
 exact ⟨fun a i c e=>by simpa using p1 a i c e,fun i hi=>by simpa using p2 i hi⟩
theorem takeWhile_before {i:Nat}:∀ {a c:List Nat},i ∉ a→(a++i::c).takeWhile (fun j=>!(Nat.beq i j))=a
 |[],c,_=>by simp
 |x::a,c,h=>by
  have hne:i≠x:=fun e=>h (by simp [e])
  have hb:Nat.beq i x=false:=by
   cases hb:Nat.beq i x with
   |false=>rfl
   |true=>exact absurd (Nat.eq_of_beq_eq_true hb) hne
  simp only [List.cons_append,List.takeWhile_cons,hb,Bool.not_false,if_true]
  rw [takeWhile_before fun h'=>h (List.mem_cons_of_mem _ h')]
theorem bit_fold (an:T Nat) (j:Nat):∀ (ls:List Nat) (m:Nat),(ls.foldl (fun m l=>Nat.lor (Nat.lor m (anc an l)) (2 ^ l)) m).testBit j=true↔m.testBit j=true∨∃ l∈ls,j=l∨(anc an l).testBit j=true
 |[],m=>by simp
 |l::ls,m=>by
  simp only [List.foldl_cons]
  rw [bit_fold an j ls,bit_lor]
  have e:(Nat.lor m (anc an l)).testBit j=(m.testBit j || (anc an l).testBit j):=Nat.testBit_or ..
  rw [e]
  simp only [Bool.or_eq_true,decide_eq_true_eq,List.mem_cons,exists_eq_or_imp]
  constructor
  ·rintro (((h | h) | h) | h)
   ·exact .inl h
   ·exact .inr (.inl (.inr h))
   ·exact .inr (.inl (.inl h.symm))
   ·exact .inr (.inr h)
  ·rintro (h | (h | h) | h)
   ·exact .inl (.inl (.inl h))
   ·exact .inl (.inr h.symm)
   ·exact .inl (.inl (.inr h))
   ·exact .inr h
theorem anL_bit {M:Nat→Bool} {an:T Nat} {all:List Oper} {ord a c:List Nat} {i j:Nat} (hi:i < all.length) (he:ord=a++i::c) (hia:i ∉ a) :
  (anc (anL M an all ord) i).testBit j=true↔(anc an i).testBit j=true∨∃ l∈a,loudI M all l=true∧(j=l∨(anc an l).testBit j=true):=by
 have hget:(anL M an all ord).get i=some (maskOf M an all ord i):=by
  unfold anL
  rw [T.get_ofList]
  simp [hi]
 have hm:anc (anL M an all ord) i=maskOf M an all ord i:=by unfold anc;rw [hget];rfl
 rw [hm]
 unfold maskOf
 rw [he,takeWhile_before hia,bit_fold]
 simp only [List.mem_filter]
 constructor
 ·rintro (h | ⟨l,⟨h1,h2⟩,h3⟩)
  ·exact .inl h
  ·exact .inr ⟨l,h1,h2,h3⟩
 ·rintro (h | ⟨l,h1,h2,h3⟩)
  ·exact .inl h
  ·exact .inr ⟨l,⟨h1,h2⟩,h3⟩
theorem OrdL.split {M:Nat→Bool} {an:T Nat} {all:List Oper} {ord:List Nat} (hO:OrdL M an all ord) {i:Nat} (hi:i < all.length):∃ a c,ord=a++i::c∧i ∉ a:=by
 obtain ⟨a,c,e⟩:=List.append_of_mem (hO.mem i hi)
 exact ⟨a,c,e,(hO.at_ a i c e).2.1⟩
theorem loudAt_I {M:Nat→Bool} {all:List Oper} {i:Nat}:loudAt M all i=loudI M all i:=by
 unfold loudAt loudI
 rw [nthK_eq]
 cases all[i]?<;>rfl
theorem OrdL.ord {M:Nat→Bool} {an:T Nat} {all:List Oper} {ord:List Nat} (hO:OrdL M an all ord):Ord M (anL M an all ord) all ord:=by
 refine ⟨fun a i c e=>?_,hO.mem⟩
 obtain ⟨h1,h2,h3,h4⟩:=hO.at_ a i c e
 refine ⟨h1,h2,fun j hj=>?_,fun l hl hll=>?_⟩
 ·rcases (anL_bit h1 e h2).1 hj with h | ⟨l,g1,g2,rfl | g3⟩
  ·exact h3 j h
  ·exact g1
  ·obtain ⟨a1,a2,rfl⟩:=List.append_of_mem g1
   have:=(hO.at_ a1 l (a2++i::c) (by rw [e];simp)).2.2.1 j g3
   exact List.mem_append_left _ this
 ·rw [loudAt_I] at hll
  exact (anL_bit h1 e h2).2 (.inr ⟨l,hl,hll,.inl rfl⟩)
theorem OrdL.stat {M:Nat→Bool} {an:T Nat} {all:List Oper} {ord:List Nat} (hO:OrdL M an all ord) (hS:PStat M all an):PStat M all (anL M an all ord):=by
 refine ⟨hS.dst,fun i j o o' d h1 h2 h3 h4=>?_⟩
 have hi:i < all.length:=(List.getElem?_eq_some_iff.1 h1).1
 have hj:j < all.length:=(List.getElem?_eq_some_iff.1 h2).1
 obtain ⟨a,c,e,hia⟩:=hO.split hi
 obtain ⟨a',c',e',hja⟩:=hO.split hj
 exact (hS.look i j o o' d h1 h2 h3 h4).imp (fun h=>(anL_bit hi e hia).2 (.inl h)) fun h=>⟨h.1,(anL_bit hj e' hja).2 (.inl h.2)⟩
end Go.Pv
