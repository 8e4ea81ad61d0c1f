/- Parts of the proof: M23, M24, M25, M26, M27, M28 -/
import Derived.Test.YtgpcfkpenkaipaaP19
import Derived.Test.YtgpcfkpenkaipaaP14
import Derived.Test.YtgpcfkpenkaipaaP15
import Derived.Test.YtgpcfkpenkaipaaP12
set_option linter.unusedVariables false
set_option linter.unusedSimpArgs false
set_option linter.unusedSectionVars false
namespace Go.Pv
open Go.Proofs Go.Am
set_option maxRecDepth 10000
theorem f61 (n:Nat) (hn:n≤60):Fn P0 61 [I n] (N (2 ^ n)):=by
  have hp:∀ i,i≤n→2 ^ i≤2 ^ 60:=fun i hi=>Nat.pow_le_pow_right (by decide) (by omega)
  refine PFun.of (C:=c61) (cx_ok _ _ _) rfl (fn:=Try.f61) (by kernel_rfl) (c:=_) rfl rfl rfl ?_
  refine Run.seq (Run.region (cx_ok _ _ _) (Reg.op rfl (Ope.asg rfl ?_)))
  refine Reg.nil (Run.seq (Run.region (cx_ok _ _ _) (Reg.op rfl (Ope.asg rfl ?_))))
  refine Reg.nil (Run.seq (Run.seq (Run.region (cx_ok _ _ _) (Reg.op rfl (Ope.asg rfl ?_)))))
  refine Reg.nil (Run.block (Run.loop (α:=Nat) (fun i=>[(0,I n),(3,N (2 ^ i)),(4,I i)]) (fun _=>HE 0 []) (fun i=>i≤n) (fun i=>n - i) 0 ⟨rfl,rfl,rfl,trivial⟩ rfl (Nat.zero_le _) (fun i hi=>?_)))
  refine Run.seq (Run.seq (Run.region (cx_ok _ _ _) (Reg.op rfl (Ope.mov rfl ?_))))
  refine Reg.op rfl (Ope.mov rfl ?_)
  refine Reg.op rfl (Ope.lt rfl rfl ?_)
  refine Reg.nil (Run.condX rfl (fun hc=>?_) fun hc=>?_)
  ·refine Run.skip (Run.seq (Run.block ?_))
   have hpi:=hp i hi
   have hpi0:0 < 2 ^ i:=Nat.pow_pos (by decide)
   have hpi2:(0:Int)≤((2 ^ i:Nat):Int):=Int.natCast_nonneg _
   have hpi3:((2 ^ i:Nat):Int)≤((2 ^ 60:Nat):Int):=Int.ofNat_le.2 hpi
   have hpe:((2 ^ (i+1):Nat):Int)=2 * ((2 ^ i:Nat):Int):=by rw [Nat.pow_succ];omega
   refine Run.region (cx_ok _ _ _) (Reg.op rfl (Ope.mov rfl ?_))
   refine Reg.op rfl (Ope.mul rfl rfl (by omega) ?_)
   refine Reg.op rfl (Ope.asg rfl ?_)
   refine Reg.nil (Run.bend (Run.region (cx_ok _ _ _) (Reg.op rfl (Ope.mov rfl ?_))))
   refine Reg.op rfl (Ope.add rfl rfl (by omega) ?_)
   refine Reg.op rfl (Ope.asg rfl ?_)
   exact Reg.nil (Run.lend ⟨i+1,by omega,by omega,⟨rfl,(by show some _=some (PV.lit (.int .i64 ((2 ^ (i+1):Nat):Int)));rw [hpe]),rfl,trivial⟩,rfl,rfl⟩)
  ·refine Run.exit (Jmp.code (Jmp.round (Jmp.here (Run.seq ?_))))
   obtain rfl:i=n:=by omega
   refine Run.region (cx_ok _ _ _) (Reg.op rfl (Ope.mov rfl ?_))
   refine Reg.op rfl (Ope.asg rfl ?_)
   exact Reg.nil (Run.ret (fin_ret (.tmp rfl .nil) rfl rfl))
def inB (x l h:Int):Bool:=decide (l≤x) && decide (x≤h)
theorem f62 (x l h:Int):Fn P0 62 [I x,I l,I h] (B (inB x l h)):=by
  unfold inB
  refine PFun.of (C:=c62) (cx_ok _ _ _) rfl (fn:=Try.f62) (by kernel_rfl) (c:=_) rfl rfl rfl ?_
  refine Run.seq (Run.region (cx_ok _ _ _) (Reg.op rfl (Ope.asg rfl ?_)))
  refine Reg.nil (Run.seq (Run.region (cx_ok _ _ _) (Reg.op rfl (Ope.mov rfl ?_))))
  refine Reg.op rfl (Ope.mov rfl ?_)
  refine Reg.op rfl (Ope.le rfl rfl ?_)
  refine Reg.op rfl (Ope.mov rfl ?_)
  refine Reg.splitX rfl rfl (fun hg=>?_) fun hg=>?_
  ·refine Reg.on rfl rfl rfl (Ope.mov rfl ?_)
   refine Reg.on rfl rfl rfl (Ope.mov rfl ?_)
   refine Reg.on rfl rfl rfl (Ope.le rfl rfl ?_)
   refine Reg.op rfl (Ope.pickT rfl rfl ?_)
   refine Reg.op rfl (Ope.asg rfl ?_)
   refine Reg.nil (Run.ret (fin_ret (.tmp rfl .nil) rfl ?_))
   (simp [*];first | done | rfl)
  ·refine Reg.off rfl rfl rfl (Reg.off rfl rfl rfl (Reg.off rfl rfl rfl (Reg.op rfl (Ope.pickF rfl rfl ?_))))
   refine Reg.op rfl (Ope.asg rfl ?_)
   refine Reg.nil (Run.ret (fin_ret (.tmp rfl .nil) rfl ?_))
   (simp [*];first | done | rfl)
theorem testBit_div (x n:Nat):x.testBit n=decide ((((x / 2 ^ n % 2:Nat)):Int)=1):=by
  rw [Nat.testBit_eq_decide_div_mod_eq]
  by_cases h:x / 2 ^ n % 2=1
  · rw [h];rfl
  · rw [decide_eq_false h,decide_eq_false (by omega)]
theorem f60 (x n:Nat) (hx:x < 2 ^ 62) (hn:n≤60):Fn P0 60 [N x,I n] (B (x.testBit n)):=by
  have hpw:=f61 n hn
  have hp0:0 < 2 ^ n:=Nat.pow_pos (by decide)
  have hb:=testBit_div x n
  have hd:x / 2 ^ n≤x:=Nat.div_le_self _ _
  generalize hP:2 ^ n=P at *
  refine PFun.of (C:=c60) (cx_ok _ _ _) rfl (fn:=Try.f60) (by kernel_rfl) (c:=_) rfl rfl rfl ?_
  refine Run.seq (Run.region (cx_ok _ _ _) (Reg.op rfl (Ope.asg rfl ?_)))
  refine Reg.nil (Run.seq (Run.region (cx_ok _ _ _) (Reg.op rfl (Ope.mov rfl ?_))))
  refine Reg.op rfl (Ope.mov rfl ?_)
  refine Reg.op rfl (Ope.cf rfl rfl (hpw) rfl ?_)
  refine Reg.op rfl (Ope.quoN (p:=x) (q:=P) rfl rfl rfl rfl hp0 (by show x < 2 ^ 63;omega) ?_)
  refine Reg.op rfl (Ope.remN (p:=x / P) (q:=2) rfl rfl rfl rfl (by decide) ?_)
  refine Reg.op rfl (Ope.eq rfl rfl ?_)
  refine Reg.op rfl (Ope.asg rfl ?_)
  refine Reg.nil (Run.ret (fin_ret (.tmp rfl .nil) rfl ?_))
  (show B _=B _;rw [hb])
def siz:Nat→Nat→Nat
  | 0,_=>0
  | d+1,x=>x % 2+siz d (x / 2)
theorem f44 (x:Nat) (hx:x < 2 ^ 6):Fn P0 44 [N x] (N (cn x)):=by
  obtain ⟨z,hz,hzc⟩:∃ z,siz 6 x=z∧cn x=z:=⟨_,rfl,(by have h:∀ x,x < 64→cn x=siz 6 x:=(by decide);exact h x hx)⟩
  rw [hzc]
  refine PFun.of (C:=c44) (cx_ok _ _ _) rfl (fn:=Try.f44) (by kernel_rfl) (c:=_) rfl rfl rfl ?_
  refine Run.seq (Run.region (cx_ok _ _ _) (Reg.op rfl (Ope.asg rfl ?_)))
  refine Reg.nil (Run.seq (Run.region (cx_ok _ _ _) (Reg.op rfl (Ope.asg rfl ?_))))
  refine Reg.nil (Run.seq (Run.block (Run.loop (α:=Nat×Nat×Nat) (fun s=>[(0,N s.2.1),(3,N s.2.2)]) (fun _=>HE 0 []) (fun s=>s.2.1 < 2 ^ s.1∧s.1≤6∧s.2.2+siz s.1 s.2.1=z∧s.2.2+s.1≤6) (fun s=>s.1) (6,x,0) ⟨rfl,rfl,trivial⟩ rfl ⟨hx,Nat.le_refl _,(Nat.zero_add _).trans hz,(show 0+6≤6 by decide)⟩ (fun s hs=>?_))))
  obtain ⟨d,y,c⟩:=s
  obtain ⟨hy,hd,hsz,hc⟩:=hs
  simp only at hy hd hsz hc
  have hy40:y < 2 ^ 6:=Nat.lt_of_lt_of_le hy (Nat.pow_le_pow_right (by decide) hd)
  show Run _ _ _ _ [(0,N y),(3,N c)] [] (HE 0 [])
  refine Run.seq (Run.seq (Run.region (cx_ok _ _ _) (Reg.op rfl (Ope.mov rfl ?_))))
  refine Reg.op rfl (Ope.gt rfl rfl ?_)
  refine Reg.nil (Run.condX rfl (fun hc=>?_) fun hc=>?_)
  ·refine Run.skip (Run.block (Run.seq ?_))
   obtain ⟨d,rfl⟩:∃ d',d=d'+1:=by
     cases d with
     | zero=>exfalso;simp at hy;omega
     | succ d=>exact ⟨d,rfl⟩
   refine Run.region (cx_ok _ _ _) (Reg.op rfl (Ope.mov rfl ?_))
   refine Reg.op rfl (Ope.mov rfl ?_)
   refine Reg.op rfl (Ope.remN (p:=y) (q:=2) rfl rfl rfl rfl (by decide) ?_)
   refine Reg.op rfl (Ope.add rfl rfl (by omega) ?_)
   refine Reg.op rfl (Ope.asg rfl ?_)
   refine Reg.nil (Run.region (cx_ok _ _ _) (Reg.op rfl (Ope.mov rfl ?_)))
   refine Reg.op rfl (Ope.quoN (p:=y) (q:=2) rfl rfl rfl rfl (by decide) (by show y < 2 ^ 63;omega) ?_)
   refine Reg.op rfl (Ope.asg rfl ?_)
   exact Reg.nil (Run.bend (Run.lend ⟨(d,y / 2,c+y % 2),Nat.lt_succ_self _,⟨by rw [Nat.pow_succ] at hy;show y / 2 < 2 ^ d;omega,by show d≤6;omega,by show c+y % 2+siz d (y / 2)=_;rw [← hsz];show _=c+(y % 2+siz d (y / 2));omega,by show c+y % 2+d≤6;omega⟩,⟨rfl,rfl,trivial⟩,rfl,rfl⟩))
  ·refine Run.exit (Jmp.code (Jmp.round (Jmp.here (Run.seq ?_))))
   obtain rfl:y=0:=by omega
   have hz:∀ d,siz d 0=0:=fun d=>by induction d with
     | zero=>rfl
     | succ d ih=>simp [siz,ih]
   rw [hz] at hsz
   obtain rfl:c=z:=by omega
   refine Run.region (cx_ok _ _ _) (Reg.op rfl (Ope.mov rfl ?_))
   refine Reg.op rfl (Ope.asg rfl ?_)
   exact Reg.nil (Run.ret (fin_ret (.tmp rfl .nil) rfl rfl))
theorem f32 (t1 t2 : Tail) (xs ys : List Int) (hx : xs.length ≤ 1000000) (hy : ys.length ≤ 1000000) : Fn P0 32 [.sl t1 (xs.map I), .sl t2 (ys.map I)] (B (decide (xs = ys))) := by
  refine PFun.of (C:=c32) (cx_ok _ _ _) rfl (fn:=Try.f32) (by kernel_rfl) (c:=_) rfl rfl rfl ?_
  refine Run.seq (Run.region (cx_ok _ _ _) (Reg.op rfl (Ope.asg rfl ?_)))
  refine Reg.nil (Run.seq (Run.seq (Run.region (cx_ok _ _ _) (Reg.op rfl (Ope.mov rfl ?_)))))
  refine Reg.op rfl (Ope.len (m:=xs.length) rfl (by simp) ?_)
  refine Reg.op rfl (Ope.mov rfl ?_)
  refine Reg.op rfl (Ope.len (m:=ys.length) rfl (by simp) ?_)
  refine Reg.op rfl (Ope.ne rfl rfl ?_)
  refine Reg.nil (Run.condX rfl (fun hc=>?_) fun hc=>?_)
  ·refine Run.seq (Run.region (cx_ok _ _ _) (Reg.op rfl (Ope.asg rfl ?_)))
   refine Reg.nil (Run.ret (Jmp.code (fin_ret (.tmp rfl .nil) rfl ?_)))
   first
   | (rw [decide_eq_false (fun h=>by subst h;omega)];rfl)
   | (rw [decide_eq_false (fun h=>by subst h;exact absurd rfl hc)];rfl)
   | (have h1 : xs = ys := by
       have h3:i=xs.length:=by omega
       subst h3
       rw [List.take_length,hlen,List.take_length] at hte
       exact hte
      rw [decide_eq_true h1];rfl)
  ·refine Run.skip (Run.seq (Run.seq (Run.region (cx_ok _ _ _) (Reg.op rfl (Ope.asg rfl ?_)))))
   refine Reg.nil (Run.block ?_)
   have hlen:xs.length=ys.length:=by omega
   refine Run.loop (α:=Nat) (fun i=>[(0,.sl t1 (xs.map I)),(1,.sl t2 (ys.map I)),(5,I i)]) (fun _=>HE 0 []) (fun i=>i≤xs.length∧xs.take i=ys.take i) (fun i=>xs.length - i) 0 ⟨rfl,rfl,rfl,trivial⟩ rfl ⟨Nat.zero_le _,rfl⟩ (fun i hi=>?_)
   obtain ⟨hi,hte⟩:=hi
   refine Run.seq (Run.seq (Run.region (cx_ok _ _ _) (Reg.op rfl (Ope.mov rfl ?_))))
   refine Reg.op rfl (Ope.mov rfl ?_)
   refine Reg.op rfl (Ope.len (m:=xs.length) rfl (by simp) ?_)
   refine Reg.op rfl (Ope.lt rfl rfl ?_)
   refine Reg.nil (Run.condX rfl (fun hc=>?_) fun hc=>?_)
   ·refine Run.skip (Run.seq (Run.block (Run.seq ?_)))
    have hlt:i < xs.length:=by omega
    have hlt2:i < ys.length:=by omega
    refine Run.draw (cx_ok _ _ _) [(0,true),(1,true),(2,true),(3,true),(4,true),(5,true),(6,true),(7,true),(8,true)] (by kernel_rfl) (Dra.op' rfl rfl rfl .sure (Ope.mov rfl ?_))
    refine Dra.op' rfl rfl rfl .sure (Ope.mov rfl ?_)
    refine Dra.op' rfl rfl rfl .sure (Ope.idxM (m:=i) (f:=I) rfl rfl rfl hlt (fun _=>rfl) ?_)
    refine Dra.op' rfl rfl rfl .sure (Ope.load rfl rfl ?_)
    refine Dra.op' rfl rfl rfl .sure (Ope.mov rfl ?_)
    refine Dra.op' rfl rfl rfl .sure (Ope.mov rfl ?_)
    refine Dra.op' rfl rfl rfl .sure (Ope.idxM (m:=i) (f:=I) rfl rfl rfl hlt2 (fun _=>rfl) ?_)
    refine Dra.op' rfl rfl rfl .sure (Ope.load rfl rfl ?_)
    refine Dra.op' rfl rfl rfl .sure (Ope.ne rfl rfl ?_)
    refine Dra.nil (Run.condX rfl (fun hc=>?_) fun hc=>?_)
    ·refine Run.seq (Run.region (cx_ok _ _ _) (Reg.op rfl (Ope.asg rfl ?_)))
     refine Reg.nil (Run.ret (Jmp.retB (Jmp.code (Jmp.round (Jmp.retB (Jmp.code (fin_ret (.tmp rfl .nil) rfl ?_)))))))
     first
     | (rw [decide_eq_false (fun h=>by subst h;omega)];rfl)
     | (rw [decide_eq_false (fun h=>by subst h;exact absurd rfl hc)];rfl)
     | (have h1 : xs = ys := by
         have h3:i=xs.length:=by omega
         subst h3
         rw [List.take_length,hlen,List.take_length] at hte
         exact hte
        rw [decide_eq_true h1];rfl)
    ·refine Run.skip (Run.bend (Run.region (cx_ok _ _ _) (Reg.op rfl (Ope.mov rfl ?_))))
     refine Reg.op rfl (Ope.add rfl rfl (by omega) ?_)
     refine Reg.op rfl (Ope.asg rfl ?_)
     exact Reg.nil (Run.lend ⟨i+1,by omega,⟨by omega,by rw [List.take_succ_eq_append_getElem hlt,List.take_succ_eq_append_getElem hlt2,hte];congr 2;omega⟩,⟨rfl,rfl,rfl,trivial⟩,rfl,rfl⟩)
   ·refine Run.exit (Jmp.code (Jmp.round (Jmp.here (Run.seq (Run.region (cx_ok _ _ _) (Reg.op rfl (Ope.asg rfl ?_)))))))
    refine Reg.nil (Run.ret (fin_ret (.tmp rfl .nil) rfl ?_))
    first
    | (rw [decide_eq_false (fun h=>by subst h;omega)];rfl)
    | (rw [decide_eq_false (fun h=>by subst h;exact absurd rfl hc)];rfl)
    | (have h1 : xs = ys := by
        have h3:i=xs.length:=by omega
        subst h3
        rw [List.take_length,hlen,List.take_length] at hte
        exact hte
       rw [decide_eq_true h1];rfl)
end Go.Pv
namespace Go.Pv
open Go.Proofs Go.Am
set_option maxRecDepth 10000
abbrev U8 (x:Nat):PV:=.lit (.int .u8 ((x:Nat):Int))
section
variable (s:Shp) {t1 t2:Tail} (h1:t1.isOwn=false) (h2:t2.isOwn=false)
include h1 h2
end
end Go.Pv
namespace Go.Pv
open Go.Proofs Go.Am
set_option maxRecDepth 10000
theorem f36 (a b:Int):Fn P0 36 [I a,I b] (.agg [I a,I b]):=by
  refine PFun.of (C:=c36) (cx_ok _ _ _) rfl (fn:=Try.f36) (by kernel_rfl) (c:=_) rfl rfl rfl ?_
  refine Run.seq (Run.region (cx_ok _ _ _) (Reg.op rfl (Ope.newL rfl ?_)))
  refine Reg.nil (Run.seq (Run.region (cx_ok _ _ _) (Reg.op rfl (Ope.mov rfl ?_))))
  refine Reg.op rfl (Ope.mov rfl ?_)
  refine Reg.op rfl (Ope.bld rfl rfl ?_)
  refine Reg.op0 (Ope.store rfl rfl rfl rfl rfl rfl ?_)
  exact Reg.nil (Run.ret (fin_ret (.cell rfl rfl .nil) rfl rfl))
def smp (b:Int):Shp:=⟨[2,3],[⟨0,3,4,0,8,10,2,0⟩,⟨1,2,3,0,9,b,1,1⟩,⟨0,1,2,4,7,15,3,0⟩]⟩
theorem f45 (b:Int):Fn P0 45 [I b] ((smp b).v .ex .ex):=by
  refine PFun.of (C:=c45) (cx_ok _ _ _) rfl (fn:=Try.f45) (by kernel_rfl) (c:=_) rfl rfl rfl ?_
  refine Run.seq (Run.region (cx_ok _ _ _) (Reg.op rfl (Ope.newL rfl ?_)))
  refine Reg.nil (Run.seq (Run.region (cx_ok _ _ _) (Reg.op rfl (Ope.bsl rfl rfl rfl rfl ?_))))
  refine Reg.op rfl (Ope.cf rfl rfl (f36 3 4) rfl ?_)
  refine Reg.op rfl (Ope.bld rfl rfl ?_)
  refine Reg.op rfl (Ope.cf rfl rfl (f36 2 3) rfl ?_)
  refine Reg.op rfl (Ope.mov rfl ?_)
  refine Reg.op rfl (Ope.bld rfl rfl ?_)
  refine Reg.op rfl (Ope.cf rfl rfl (f36 1 2) rfl ?_)
  refine Reg.op rfl (Ope.bld rfl rfl ?_)
  refine Reg.op rfl (Ope.bsl rfl rfl rfl rfl ?_)
  refine Reg.op rfl (Ope.bld rfl rfl ?_)
  refine Reg.op0 (Ope.store rfl rfl hget_hd rfl rfl rfl ?_)
  exact Reg.nil (Run.ret (fin_ret (.cell rfl rfl .nil) rfl rfl))
theorem eqSv (x y x' y':Int):aeqv A0 E0 20 46 (.agg [.int .i64 x,.int .i64 y]) (.agg [.int .i64 x',.int .i64 y'])=bnd2 (some (x == x')) (bnd2 (some (y == y')) (some true)):=by kernel_rfl
theorem eqSe:E0.eqs.get 46=some ():=by kernel_rfl
theorem eqSu:(match A0.under 46 with | some (.struct _)=>true | _=>false)=true:=by kernel_rfl
theorem neSp (xo yo:Operand) (x y x' y':Int):pbin A0 E0 .neq 46 xo yo (.agg [I x,I y]) (.agg [I x',I y'])=some (B (decide (¬(x=x'∧y=y')))):=by
  have hn:pnil A0 46 (.agg [I x,I y]) (.agg [I x',I y'])=none:=by
    have h:=eqSu
    unfold pnil
    cases hu:A0.under 46 with
    | none=>rfl
    | some d =>
      rw [hu] at h
      cases d<;>first | rfl | (exact absurd h (by decide))
  have hv:=eqSv x y x' y'
  have hd:decide (¬(x=x'∧y=y'))=!(x == x' && y == y'):=by
    by_cases h1:x=x'<;>by_cases h2:y=y'<;>simp [h1,h2]
  rw [hd]
  simp only [pbin,PV.toAV,PV.toAVs,bothNil,hn,abin,aequal,eqSe,hv]
  cases (x == x')<;>cases (y == y')<;>rfl
def spV (p:Int×Int):PV:=.agg [I p.1,I p.2]
theorem f24 (t1 t2 : Tail) (xs ys : List (Int × Int)) (hx : xs.length ≤ 1000000) (hy : ys.length ≤ 1000000) : Fn P0 24 [.sl t1 (xs.map spV), .sl t2 (ys.map spV)] (B (decide (xs = ys))) := by
  refine PFun.of (C:=c24) (cx_ok _ _ _) rfl (fn:=Try.f24) (by kernel_rfl) (c:=_) rfl rfl rfl ?_
  refine Run.seq (Run.region (cx_ok _ _ _) (Reg.op rfl (Ope.asg rfl ?_)))
  refine Reg.nil (Run.seq (Run.seq (Run.region (cx_ok _ _ _) (Reg.op rfl (Ope.mov rfl ?_)))))
  refine Reg.op rfl (Ope.len (m:=xs.length) rfl (by simp) ?_)
  refine Reg.op rfl (Ope.mov rfl ?_)
  refine Reg.op rfl (Ope.len (m:=ys.length) rfl (by simp) ?_)
  refine Reg.op rfl (Ope.ne rfl rfl ?_)
  refine Reg.nil (Run.condX rfl (fun hc=>?_) fun hc=>?_)
  ·refine Run.seq (Run.region (cx_ok _ _ _) (Reg.op rfl (Ope.asg rfl ?_)))
   refine Reg.nil (Run.ret (Jmp.code (fin_ret (.tmp rfl .nil) rfl ?_)))
   first
   | (rw [decide_eq_false (fun h=>by subst h;omega)];rfl)
   | (rw [decide_eq_false (fun h=>by subst h;exact hc ⟨rfl,rfl⟩)];rfl)
   | (have h1 : xs = ys := by
       have h3:i=xs.length:=by omega
       subst h3
       rw [List.take_length,hlen,List.take_length] at hte
       exact hte
      rw [decide_eq_true h1];rfl)
  ·refine Run.skip (Run.seq (Run.seq (Run.region (cx_ok _ _ _) (Reg.op rfl (Ope.asg rfl ?_)))))
   refine Reg.nil (Run.block ?_)
   have hlen:xs.length=ys.length:=by omega
   refine Run.loop (α:=Nat) (fun i=>[(0,.sl t1 (xs.map spV)),(1,.sl t2 (ys.map spV)),(5,I i)]) (fun _=>HE 0 []) (fun i=>i≤xs.length∧xs.take i=ys.take i) (fun i=>xs.length - i) 0 ⟨rfl,rfl,rfl,trivial⟩ rfl ⟨Nat.zero_le _,rfl⟩ (fun i hi=>?_)
   obtain ⟨hi,hte⟩:=hi
   refine Run.seq (Run.seq (Run.region (cx_ok _ _ _) (Reg.op rfl (Ope.mov rfl ?_))))
   refine Reg.op rfl (Ope.mov rfl ?_)
   refine Reg.op rfl (Ope.len (m:=xs.length) rfl (by simp) ?_)
   refine Reg.op rfl (Ope.lt rfl rfl ?_)
   refine Reg.nil (Run.condX rfl (fun hc=>?_) fun hc=>?_)
   ·refine Run.skip (Run.seq (Run.block (Run.seq ?_)))
    have hlt:i < xs.length:=by omega
    have hlt2:i < ys.length:=by omega
    refine Run.draw (cx_ok _ _ _) [(0,true),(1,true),(2,true),(3,true),(4,true),(5,true),(6,true),(7,true),(8,true)] (by kernel_rfl) (Dra.op' rfl rfl rfl .sure (Ope.mov rfl ?_))
    refine Dra.op' rfl rfl rfl .sure (Ope.mov rfl ?_)
    refine Dra.op' rfl rfl rfl .sure (Ope.idxM (m:=i) (f:=spV) rfl rfl rfl hlt (fun _=>rfl) ?_)
    refine Dra.op' rfl rfl rfl .sure (Ope.load rfl rfl ?_)
    refine Dra.op' rfl rfl rfl .sure (Ope.mov rfl ?_)
    refine Dra.op' rfl rfl rfl .sure (Ope.mov rfl ?_)
    refine Dra.op' rfl rfl rfl .sure (Ope.idxM (m:=i) (f:=spV) rfl rfl rfl hlt2 (fun _=>rfl) ?_)
    refine Dra.op' rfl rfl rfl .sure (Ope.load rfl rfl ?_)
    refine Dra.op' rfl rfl rfl .sure (Ope.neV rfl rfl (neSp _ _ xs[i].1 xs[i].2 ys[i].1 ys[i].2) ?_)
    refine Dra.nil (Run.condX rfl (fun hc=>?_) fun hc=>?_)
    ·refine Run.seq (Run.region (cx_ok _ _ _) (Reg.op rfl (Ope.asg rfl ?_)))
     refine Reg.nil (Run.ret (Jmp.retB (Jmp.code (Jmp.round (Jmp.retB (Jmp.code (fin_ret (.tmp rfl .nil) rfl ?_)))))))
     first
     | (rw [decide_eq_false (fun h=>by subst h;omega)];rfl)
     | (rw [decide_eq_false (fun h=>by subst h;exact hc ⟨rfl,rfl⟩)];rfl)
     | (have h1 : xs = ys := by
         have h3:i=xs.length:=by omega
         subst h3
         rw [List.take_length,hlen,List.take_length] at hte
         exact hte
        rw [decide_eq_true h1];rfl)
    ·refine Run.skip (Run.bend (Run.region (cx_ok _ _ _) (Reg.op rfl (Ope.mov rfl ?_))))
     refine Reg.op rfl (Ope.add rfl rfl (by omega) ?_)
     refine Reg.op rfl (Ope.asg rfl ?_)
     exact Reg.nil (Run.lend ⟨i+1,by omega,⟨by omega,by rw [List.take_succ_eq_append_getElem hlt,List.take_succ_eq_append_getElem hlt2,hte];congr 2;exact Prod.ext (by omega) (by omega)⟩,⟨rfl,rfl,rfl,trivial⟩,rfl,rfl⟩)
   ·refine Run.exit (Jmp.code (Jmp.round (Jmp.here (Run.seq (Run.region (cx_ok _ _ _) (Reg.op rfl (Ope.asg rfl ?_)))))))
    refine Reg.nil (Run.ret (fin_ret (.tmp rfl .nil) rfl ?_))
    first
    | (rw [decide_eq_false (fun h=>by subst h;omega)];rfl)
    | (rw [decide_eq_false (fun h=>by subst h;exact hc ⟨rfl,rfl⟩)];rfl)
    | (have h1 : xs = ys := by
        have h3:i=xs.length:=by omega
        subst h3
        rw [List.take_length,hlen,List.take_length] at hte
        exact hte
       rw [decide_eq_true h1];rfl)
theorem smp_val:(smp 20).val=true∧(smp 13).val=true:=by decide +kernel
theorem smp_i64 (b:Int):(smp b).i64:=fun i h=>by
  match i,h with
  | 0,_=>exact ⟨by show (-9223372036854775808:Int)≤0;decide,by show (0:Int)≤_;decide⟩
  | 1,_=>exact ⟨by show (-9223372036854775808:Int)≤1;decide,by show (1:Int)≤_;decide⟩
  | 2,_=>exact ⟨by show (-9223372036854775808:Int)≤0;decide,by show (0:Int)≤_;decide⟩
theorem smp_ord (b:Int) {o:List Nat} (h:o∈[[2,0,1],[0,1,2],[0,2,1]]):Ordr (smp b).jo.length o:=by
  show Ordr 3 o
  simp only [List.mem_cons,List.not_mem_nil,or_false] at h
  rcases h with rfl | rfl | rfl<;>exact ⟨rfl,by decide,by decide⟩
theorem ex_times:((smp 20).alg Shp.p0 [2,0,1]).map Wrk.sp=[(5,6),(8,10),(13,16)].map spV:=by kernel_rfl
theorem ex_check:(smp 20).flt ((smp 20).alg Shp.p0 [0,1,2])=some (2,2):=by kernel_rfl
theorem ex_rgt:(smp 20).rgt [0,2,1]=true:=by kernel_rfl
theorem ex_slack:(smp 20).slk [0,2,1] 30 0=2:=by kernel_rfl
theorem ex_all:(smp 20).all=⟨2,8,[0,2,1],14⟩:=by kernel_rfl
theorem ex_fst:(smp 20).fst=5:=by kernel_rfl
theorem ex_drp:(smp 13).drp=1:=by kernel_rfl
theorem awakeF : Fn P0 13 [] (B true) := by
  have hv:=smp_val.1
  have hv':=smp_val.2
  have hs:=val_ok (smp_i64 20) hv
  have hs':=val_ok (smp_i64 13) hv'
  have hb:PV.bds 0 [(smp 20).v .ex .ex]=true:=rfl
  have hb':PV.bds 0 [(smp 13).v .ex .ex]=true:=rfl
  have hS:(smp 20).su.length≤9223372036854775807:=by decide
  have hJ:(smp 20).jo.length≤9223372036854775807:=by decide
  have hbo:∀ o:List Nat,PV.bds 0 [(smp 20).v .ex .ex,.sl .ex (o.map N)]=true:=fun o=>bds_cons rfl (bds_cons (bd_sl (f:=N) (tl:=.ex) rfl (fun _=>rfl) _) rfl)
  have a1:=f14ok (smp 20) (t1:=.ex) (t2:=.ex) rfl rfl hS hJ .ex rfl hv hs [2,0,1] (smp_ord 20 (by decide))
  rw [ex_times] at a1
  have a2:=f16ok (smp 20) (t1:=.ex) (t2:=.ex) rfl rfl hS hJ .ex rfl hv hs [0,1,2] (smp_ord 20 (by decide)) ex_check
  have a3:=f18ok (smp 20) (t1:=.ex) (t2:=.ex) rfl rfl hS hJ .ex rfl hv hs [0,2,1] (smp_ord 20 (by decide)) ex_rgt
  rw [ex_slack] at a3
  have a4:=f20ok (smp 20) (t1:=.ex) (t2:=.ex) rfl rfl hv hs
  have a5:=f22ok (smp 20) (t1:=.ex) (t2:=.ex) rfl rfl hv hs
  have a6:=f26ok (smp 20) (t1:=.ex) (t2:=.ex) rfl rfl hv hs (by rw [ex_all];decide)
  have a7:=f28ok (smp 20) (t1:=.ex) (t2:=.ex) rfl rfl hv hs (by rw [ex_all];decide)
  have a8:=f30ok (smp 13) (t1:=.ex) (t2:=.ex) rfl rfl hv' hs'
  rw [ex_all] at a4 a6 a7
  rw [ex_fst] at a5
  rw [ex_drp] at a8
  have c1:=f24 .no .ex [(5,6),(8,10),(13,16)] [(5,6),(8,10),(13,16)] (by decide) (by decide)
  have c2:=f32 .no .ex [0,2,1] [0,2,1] (by decide) (by decide)
  have hsa:=f45 20
  have hsb:=f45 13
  generalize smp 20=s at *
  generalize smp 13=s' at *
  refine PFun.of (C:=c13) (cx_ok _ _ _) rfl (fn:=Try.f13) (by kernel_rfl) (c:=_) rfl rfl rfl ?_
  refine Run.seq (Run.region (cx_ok _ _ _) (Reg.op rfl (Ope.asg rfl ?_)))
  refine Reg.nil (Run.seq (Run.region (cx_ok _ _ _) (Reg.op rfl (Ope.cf rfl rfl (hsa) rfl ?_))))
  refine Reg.op rfl (Ope.newL rfl ?_)
  refine Reg.op0 (Ope.store rfl rfl hget_hd rfl rfl rfl ?_)
  refine Reg.nil (Run.seq (Run.frz (d:=1) true rfl hget_hd rfl ?_))
  refine Run.region (cx_ok _ _ _) (Reg.op rfl (Ope.load rfl rfl ?_))
  refine Reg.op rfl (Ope.bsl rfl rfl rfl rfl ?_)
  refine Reg.op rfl (Ope.cf rfl rfl a1 (hbo [2,0,1]) ?_)
  refine Reg.op rfl (Ope.mov rfl ?_)
  refine Reg.op rfl (Ope.ext rfl rfl ?_)
  refine Reg.op rfl (Ope.ext rfl rfl ?_)
  refine Reg.op rfl (Ope.asg rfl ?_)
  refine Reg.op rfl (Ope.asg rfl ?_)
  refine Reg.nil (Run.seq (Run.region (cx_ok _ _ _) (Reg.op rfl (Ope.load rfl rfl ?_))))
  refine Reg.op rfl (Ope.bsl rfl rfl rfl rfl ?_)
  refine Reg.op rfl (Ope.cf rfl rfl a2 (hbo [0,1,2]) ?_)
  refine Reg.op rfl (Ope.mov rfl ?_)
  refine Reg.op rfl (Ope.ext rfl rfl ?_)
  refine Reg.op rfl (Ope.ext rfl rfl ?_)
  refine Reg.op rfl (Ope.ext rfl rfl ?_)
  refine Reg.op rfl (Ope.asg rfl ?_)
  refine Reg.op rfl (Ope.asg rfl ?_)
  refine Reg.op rfl (Ope.asg rfl ?_)
  refine Reg.nil (Run.seq (Run.region (cx_ok _ _ _) (Reg.op rfl (Ope.load rfl rfl ?_))))
  refine Reg.op rfl (Ope.bsl rfl rfl rfl rfl ?_)
  refine Reg.op rfl (Ope.cf rfl rfl a3 (hbo [0,2,1]) ?_)
  refine Reg.op rfl (Ope.mov rfl ?_)
  refine Reg.op rfl (Ope.ext rfl rfl ?_)
  refine Reg.op rfl (Ope.ext rfl rfl ?_)
  refine Reg.op rfl (Ope.asg rfl ?_)
  refine Reg.op rfl (Ope.asg rfl ?_)
  refine Reg.nil (Run.seq (Run.region (cx_ok _ _ _) (Reg.op rfl (Ope.load rfl rfl ?_))))
  refine Reg.op rfl (Ope.cf rfl rfl a4 hb ?_)
  refine Reg.op rfl (Ope.mov rfl ?_)
  refine Reg.op rfl (Ope.ext rfl rfl ?_)
  refine Reg.op rfl (Ope.ext rfl rfl ?_)
  refine Reg.op rfl (Ope.asg rfl ?_)
  refine Reg.op rfl (Ope.asg rfl ?_)
  refine Reg.nil (Run.seq (Run.region (cx_ok _ _ _) (Reg.op rfl (Ope.load rfl rfl ?_))))
  refine Reg.op rfl (Ope.cf rfl rfl a5 hb ?_)
  refine Reg.op rfl (Ope.mov rfl ?_)
  refine Reg.op rfl (Ope.ext rfl rfl ?_)
  refine Reg.op rfl (Ope.ext rfl rfl ?_)
  refine Reg.op rfl (Ope.asg rfl ?_)
  refine Reg.op rfl (Ope.asg rfl ?_)
  refine Reg.nil (Run.seq (Run.region (cx_ok _ _ _) (Reg.op rfl (Ope.load rfl rfl ?_))))
  refine Reg.op rfl (Ope.cf rfl rfl a6 hb ?_)
  refine Reg.op rfl (Ope.mov rfl ?_)
  refine Reg.op rfl (Ope.ext rfl rfl ?_)
  refine Reg.op rfl (Ope.ext rfl rfl ?_)
  refine Reg.op rfl (Ope.ext rfl rfl ?_)
  refine Reg.op rfl (Ope.asg rfl ?_)
  refine Reg.op rfl (Ope.asg rfl ?_)
  refine Reg.op rfl (Ope.asg rfl ?_)
  refine Reg.nil (Run.seq (Run.region (cx_ok _ _ _) (Reg.op rfl (Ope.load rfl rfl ?_))))
  refine Reg.op rfl (Ope.cf rfl rfl a7 hb ?_)
  refine Reg.op rfl (Ope.mov rfl ?_)
  refine Reg.op rfl (Ope.ext rfl rfl ?_)
  refine Reg.op rfl (Ope.ext rfl rfl ?_)
  refine Reg.op rfl (Ope.asg rfl ?_)
  refine Reg.op rfl (Ope.asg rfl ?_)
  refine Reg.nil (Run.seq (Run.region (cx_ok _ _ _) (Reg.op rfl (Ope.cf rfl rfl (hsb) rfl ?_))))
  refine Reg.op rfl (Ope.cf rfl rfl a8 hb' ?_)
  refine Reg.op rfl (Ope.mov rfl ?_)
  refine Reg.op rfl (Ope.ext rfl rfl ?_)
  refine Reg.op rfl (Ope.ext rfl rfl ?_)
  refine Reg.op rfl (Ope.asg rfl ?_)
  refine Reg.op rfl (Ope.asg rfl ?_)
  refine Reg.nil (Run.seq (Run.seq (Run.region (cx_ok _ _ _) (Reg.op rfl (Ope.mov rfl ?_)))))
  refine Reg.op rfl (Ope.cf rfl rfl (f36 5 6) rfl ?_)
  refine Reg.op rfl (Ope.cf rfl rfl (f36 8 10) rfl ?_)
  refine Reg.op rfl (Ope.cf rfl rfl (f36 13 16) rfl ?_)
  refine Reg.op rfl (Ope.bsl rfl rfl rfl rfl ?_)
  refine Reg.op rfl (Ope.cf rfl rfl (c1) rfl ?_)
  refine Reg.op rfl (Ope.not rfl ?_)
  refine Reg.op rfl (Ope.mov rfl ?_)
  refine Reg.splitX rfl rfl (fun hg=>?_) fun hg=>?_
  ·first
   |(first | exact absurd rfl hg | (exact absurd hg (by decide)))
   |refine Reg.off rfl rfl rfl (Reg.off rfl rfl rfl (Reg.op rfl (Ope.pickT rfl rfl ?_)))
    refine Reg.op rfl (Ope.mov rfl ?_)
    refine Reg.off rfl rfl rfl (Reg.off rfl rfl rfl (Reg.op rfl (Ope.pickT rfl rfl ?_)))
    refine Reg.op rfl (Ope.mov rfl ?_)
    refine Reg.off rfl rfl rfl (Reg.off rfl rfl rfl (Reg.op rfl (Ope.pickT rfl rfl ?_)))
    refine Reg.op rfl (Ope.mov rfl ?_)
    refine Reg.off rfl rfl rfl (Reg.off rfl rfl rfl (Reg.op rfl (Ope.pickT rfl rfl ?_)))
    refine Reg.op rfl (Ope.mov rfl ?_)
    refine Reg.off rfl rfl rfl (Reg.off rfl rfl rfl (Reg.op rfl (Ope.pickT rfl rfl ?_)))
    refine Reg.op rfl (Ope.mov rfl ?_)
    refine Reg.off rfl rfl rfl (Reg.off rfl rfl rfl (Reg.op rfl (Ope.pickT rfl rfl ?_)))
    refine Reg.op rfl (Ope.mov rfl ?_)
    refine Reg.off rfl rfl rfl (Reg.off rfl rfl rfl (Reg.op rfl (Ope.pickT rfl rfl ?_)))
    refine Reg.op rfl (Ope.mov rfl ?_)
    refine Reg.off rfl rfl rfl (Reg.off rfl rfl rfl (Reg.op rfl (Ope.pickT rfl rfl ?_)))
    refine Reg.nil (Run.condT rfl (Run.seq (Run.region (cx_ok _ _ _) (Reg.op rfl (Ope.asg rfl ?_)))))
    exact Reg.nil (Run.ret (Jmp.code (fin_ret (.tmp rfl .nil) rfl rfl)))
  ·first
   |(first | exact absurd rfl hg | (exact absurd hg (by decide)))
   |refine Reg.on rfl rfl rfl (Ope.mov rfl ?_)
    refine Reg.on rfl rfl rfl (Ope.ne rfl rfl ?_)
    refine Reg.op rfl (Ope.pickF rfl rfl ?_)
    refine Reg.op rfl (Ope.mov rfl ?_)
    refine Reg.splitX rfl rfl (fun hg=>?_) fun hg=>?_
    ·first
     |(first | exact absurd rfl hg | (exact absurd hg (by decide)))
     |refine Reg.off rfl rfl rfl (Reg.off rfl rfl rfl (Reg.op rfl (Ope.pickT rfl rfl ?_)))
      refine Reg.op rfl (Ope.mov rfl ?_)
      refine Reg.off rfl rfl rfl (Reg.off rfl rfl rfl (Reg.op rfl (Ope.pickT rfl rfl ?_)))
      refine Reg.op rfl (Ope.mov rfl ?_)
      refine Reg.off rfl rfl rfl (Reg.off rfl rfl rfl (Reg.op rfl (Ope.pickT rfl rfl ?_)))
      refine Reg.op rfl (Ope.mov rfl ?_)
      refine Reg.off rfl rfl rfl (Reg.off rfl rfl rfl (Reg.op rfl (Ope.pickT rfl rfl ?_)))
      refine Reg.op rfl (Ope.mov rfl ?_)
      refine Reg.off rfl rfl rfl (Reg.off rfl rfl rfl (Reg.op rfl (Ope.pickT rfl rfl ?_)))
      refine Reg.op rfl (Ope.mov rfl ?_)
      refine Reg.off rfl rfl rfl (Reg.off rfl rfl rfl (Reg.op rfl (Ope.pickT rfl rfl ?_)))
      refine Reg.op rfl (Ope.mov rfl ?_)
      refine Reg.off rfl rfl rfl (Reg.off rfl rfl rfl (Reg.op rfl (Ope.pickT rfl rfl ?_)))
      refine Reg.nil (Run.condT rfl (Run.seq (Run.region (cx_ok _ _ _) (Reg.op rfl (Ope.asg rfl ?_)))))
      exact Reg.nil (Run.ret (Jmp.code (fin_ret (.tmp rfl .nil) rfl rfl)))
    ·first
     |(first | exact absurd rfl hg | (exact absurd hg (by decide)))
     |refine Reg.on rfl rfl rfl (Ope.mov rfl ?_)
      refine Reg.on rfl rfl rfl (Ope.ne rfl rfl ?_)
      refine Reg.op rfl (Ope.pickF rfl rfl ?_)
      refine Reg.op rfl (Ope.mov rfl ?_)
      refine Reg.splitX rfl rfl (fun hg=>?_) fun hg=>?_
      ·first
       |(first | exact absurd rfl hg | (exact absurd hg (by decide)))
       |refine Reg.off rfl rfl rfl (Reg.off rfl rfl rfl (Reg.op rfl (Ope.pickT rfl rfl ?_)))
        refine Reg.op rfl (Ope.mov rfl ?_)
        refine Reg.off rfl rfl rfl (Reg.off rfl rfl rfl (Reg.op rfl (Ope.pickT rfl rfl ?_)))
        refine Reg.op rfl (Ope.mov rfl ?_)
        refine Reg.off rfl rfl rfl (Reg.off rfl rfl rfl (Reg.op rfl (Ope.pickT rfl rfl ?_)))
        refine Reg.op rfl (Ope.mov rfl ?_)
        refine Reg.off rfl rfl rfl (Reg.off rfl rfl rfl (Reg.op rfl (Ope.pickT rfl rfl ?_)))
        refine Reg.op rfl (Ope.mov rfl ?_)
        refine Reg.off rfl rfl rfl (Reg.off rfl rfl rfl (Reg.op rfl (Ope.pickT rfl rfl ?_)))
        refine Reg.op rfl (Ope.mov rfl ?_)
        refine Reg.off rfl rfl rfl (Reg.off rfl rfl rfl (Reg.op rfl (Ope.pickT rfl rfl ?_)))
        refine Reg.nil (Run.condT rfl (Run.seq (Run.region (cx_ok _ _ _) (Reg.op rfl (Ope.asg rfl ?_)))))
        exact Reg.nil (Run.ret (Jmp.code (fin_ret (.tmp rfl .nil) rfl rfl)))
      ·first
       |(first | exact absurd rfl hg | (exact absurd hg (by decide)))
       |refine Reg.on rfl rfl rfl (Ope.mov rfl ?_)
        refine Reg.on rfl rfl rfl (Ope.ne rfl rfl ?_)
        refine Reg.op rfl (Ope.pickF rfl rfl ?_)
        refine Reg.op rfl (Ope.mov rfl ?_)
        refine Reg.splitX rfl rfl (fun hg=>?_) fun hg=>?_
        ·first
         |(first | exact absurd rfl hg | (exact absurd hg (by decide)))
         |refine Reg.off rfl rfl rfl (Reg.off rfl rfl rfl (Reg.op rfl (Ope.pickT rfl rfl ?_)))
          refine Reg.op rfl (Ope.mov rfl ?_)
          refine Reg.off rfl rfl rfl (Reg.off rfl rfl rfl (Reg.op rfl (Ope.pickT rfl rfl ?_)))
          refine Reg.op rfl (Ope.mov rfl ?_)
          refine Reg.off rfl rfl rfl (Reg.off rfl rfl rfl (Reg.op rfl (Ope.pickT rfl rfl ?_)))
          refine Reg.op rfl (Ope.mov rfl ?_)
          refine Reg.off rfl rfl rfl (Reg.off rfl rfl rfl (Reg.op rfl (Ope.pickT rfl rfl ?_)))
          refine Reg.op rfl (Ope.mov rfl ?_)
          refine Reg.off rfl rfl rfl (Reg.off rfl rfl rfl (Reg.op rfl (Ope.pickT rfl rfl ?_)))
          refine Reg.nil (Run.condT rfl (Run.seq (Run.region (cx_ok _ _ _) (Reg.op rfl (Ope.asg rfl ?_)))))
          exact Reg.nil (Run.ret (Jmp.code (fin_ret (.tmp rfl .nil) rfl rfl)))
        ·first
         |(first | exact absurd rfl hg | (exact absurd hg (by decide)))
         |refine Reg.on rfl rfl rfl (Ope.mov rfl ?_)
          refine Reg.on rfl rfl rfl (Ope.ne rfl rfl ?_)
          refine Reg.op rfl (Ope.pickF rfl rfl ?_)
          refine Reg.op rfl (Ope.mov rfl ?_)
          refine Reg.splitX rfl rfl (fun hg=>?_) fun hg=>?_
          ·first
           |(first | exact absurd rfl hg | (exact absurd hg (by decide)))
           |refine Reg.off rfl rfl rfl (Reg.off rfl rfl rfl (Reg.op rfl (Ope.pickT rfl rfl ?_)))
            refine Reg.op rfl (Ope.mov rfl ?_)
            refine Reg.off rfl rfl rfl (Reg.off rfl rfl rfl (Reg.op rfl (Ope.pickT rfl rfl ?_)))
            refine Reg.op rfl (Ope.mov rfl ?_)
            refine Reg.off rfl rfl rfl (Reg.off rfl rfl rfl (Reg.op rfl (Ope.pickT rfl rfl ?_)))
            refine Reg.op rfl (Ope.mov rfl ?_)
            refine Reg.off rfl rfl rfl (Reg.off rfl rfl rfl (Reg.op rfl (Ope.pickT rfl rfl ?_)))
            refine Reg.nil (Run.condT rfl (Run.seq (Run.region (cx_ok _ _ _) (Reg.op rfl (Ope.asg rfl ?_)))))
            exact Reg.nil (Run.ret (Jmp.code (fin_ret (.tmp rfl .nil) rfl rfl)))
          ·first
           |(first | exact absurd rfl hg | (exact absurd hg (by decide)))
           |refine Reg.on rfl rfl rfl (Ope.mov rfl ?_)
            refine Reg.on rfl rfl rfl (Ope.ne rfl rfl ?_)
            refine Reg.op rfl (Ope.pickF rfl rfl ?_)
            refine Reg.op rfl (Ope.mov rfl ?_)
            refine Reg.splitX rfl rfl (fun hg=>?_) fun hg=>?_
            ·first
             |(first | exact absurd rfl hg | (exact absurd hg (by decide)))
             |refine Reg.off rfl rfl rfl (Reg.off rfl rfl rfl (Reg.op rfl (Ope.pickT rfl rfl ?_)))
              refine Reg.op rfl (Ope.mov rfl ?_)
              refine Reg.off rfl rfl rfl (Reg.off rfl rfl rfl (Reg.op rfl (Ope.pickT rfl rfl ?_)))
              refine Reg.op rfl (Ope.mov rfl ?_)
              refine Reg.off rfl rfl rfl (Reg.off rfl rfl rfl (Reg.op rfl (Ope.pickT rfl rfl ?_)))
              refine Reg.nil (Run.condT rfl (Run.seq (Run.region (cx_ok _ _ _) (Reg.op rfl (Ope.asg rfl ?_)))))
              exact Reg.nil (Run.ret (Jmp.code (fin_ret (.tmp rfl .nil) rfl rfl)))
            ·first
             |(first | exact absurd rfl hg | (exact absurd hg (by decide)))
             |refine Reg.on rfl rfl rfl (Ope.mov rfl ?_)
              refine Reg.on rfl rfl rfl (Ope.ne rfl rfl ?_)
              refine Reg.op rfl (Ope.pickF rfl rfl ?_)
              refine Reg.op rfl (Ope.mov rfl ?_)
              refine Reg.splitX rfl rfl (fun hg=>?_) fun hg=>?_
              ·first
               |(first | exact absurd rfl hg | (exact absurd hg (by decide)))
               |refine Reg.off rfl rfl rfl (Reg.off rfl rfl rfl (Reg.op rfl (Ope.pickT rfl rfl ?_)))
                refine Reg.op rfl (Ope.mov rfl ?_)
                refine Reg.off rfl rfl rfl (Reg.off rfl rfl rfl (Reg.op rfl (Ope.pickT rfl rfl ?_)))
                refine Reg.nil (Run.condT rfl (Run.seq (Run.region (cx_ok _ _ _) (Reg.op rfl (Ope.asg rfl ?_)))))
                exact Reg.nil (Run.ret (Jmp.code (fin_ret (.tmp rfl .nil) rfl rfl)))
              ·first
               |(first | exact absurd rfl hg | (exact absurd hg (by decide)))
               |refine Reg.on rfl rfl rfl (Ope.mov rfl ?_)
                refine Reg.on rfl rfl rfl (Ope.ne rfl rfl ?_)
                refine Reg.op rfl (Ope.pickF rfl rfl ?_)
                refine Reg.op rfl (Ope.mov rfl ?_)
                refine Reg.splitX rfl rfl (fun hg=>?_) fun hg=>?_
                ·first
                 |(first | exact absurd rfl hg | (exact absurd hg (by decide)))
                 |refine Reg.off rfl rfl rfl (Reg.off rfl rfl rfl (Reg.op rfl (Ope.pickT rfl rfl ?_)))
                  refine Reg.nil (Run.condT rfl (Run.seq (Run.region (cx_ok _ _ _) (Reg.op rfl (Ope.asg rfl ?_)))))
                  exact Reg.nil (Run.ret (Jmp.code (fin_ret (.tmp rfl .nil) rfl rfl)))
                ·first
                 |(first | exact absurd rfl hg | (exact absurd hg (by decide)))
                 |refine Reg.on rfl rfl rfl (Ope.mov rfl ?_)
                  refine Reg.on rfl rfl rfl (Ope.ne rfl rfl ?_)
                  refine Reg.op rfl (Ope.pickF rfl rfl ?_)
                  refine Reg.nil (Run.condX rfl (fun hc=>?_) fun hc=>?_)
                  ·first
                   |(first | exact absurd rfl hc | (exact absurd hc (by decide)))
                   |refine Run.seq (Run.region (cx_ok _ _ _) (Reg.op rfl (Ope.asg rfl ?_)))
                    exact Reg.nil (Run.ret (Jmp.code (fin_ret (.tmp rfl .nil) rfl rfl)))
                  ·first
                   |(first | exact absurd rfl hc | (exact absurd hc (by decide)))
                   |refine Run.skip (Run.seq (Run.region (cx_ok _ _ _) (Reg.op rfl (Ope.mov rfl ?_))))
                    refine Reg.op rfl (Ope.eq rfl rfl ?_)
                    refine Reg.op rfl (Ope.mov rfl ?_)
                    refine Reg.splitX rfl rfl (fun hg=>?_) fun hg=>?_
                    ·first
                     |(first | exact absurd rfl hg | (exact absurd hg (by decide)))
                     |refine Reg.on rfl rfl rfl (Ope.mov rfl ?_)
                      refine Reg.on rfl rfl rfl (Ope.eq rfl rfl ?_)
                      refine Reg.op rfl (Ope.pickT rfl rfl ?_)
                      refine Reg.op rfl (Ope.mov rfl ?_)
                      refine Reg.splitX rfl rfl (fun hg=>?_) fun hg=>?_
                      ·first
                       |(first | exact absurd rfl hg | (exact absurd hg (by decide)))
                       |refine Reg.on rfl rfl rfl (Ope.mov rfl ?_)
                        refine Reg.on rfl rfl rfl (Ope.eq rfl rfl ?_)
                        refine Reg.op rfl (Ope.pickT rfl rfl ?_)
                        refine Reg.op rfl (Ope.mov rfl ?_)
                        refine Reg.splitX rfl rfl (fun hg=>?_) fun hg=>?_
                        ·first
                         |(first | exact absurd rfl hg | (exact absurd hg (by decide)))
                         |refine Reg.on rfl rfl rfl (Ope.mov rfl ?_)
                          refine Reg.on rfl rfl rfl (Ope.bsl rfl rfl rfl rfl ?_)
                          refine Reg.on rfl rfl rfl (Ope.cf rfl rfl (c2) rfl ?_)
                          refine Reg.op rfl (Ope.pickT rfl rfl ?_)
                          refine Reg.op rfl (Ope.mov rfl ?_)
                          refine Reg.splitX rfl rfl (fun hg=>?_) fun hg=>?_
                          ·first
                           |(first | exact absurd rfl hg | (exact absurd hg (by decide)))
                           |refine Reg.on rfl rfl rfl (Ope.mov rfl ?_)
                            refine Reg.on rfl rfl rfl (Ope.eq rfl rfl ?_)
                            refine Reg.op rfl (Ope.pickT rfl rfl ?_)
                            refine Reg.op rfl (Ope.mov rfl ?_)
                            refine Reg.splitX rfl rfl (fun hg=>?_) fun hg=>?_
                            ·first
                             |(first | exact absurd rfl hg | (exact absurd hg (by decide)))
                             |refine Reg.on rfl rfl rfl (Ope.mov rfl ?_)
                              refine Reg.on rfl rfl rfl (Ope.eq rfl rfl ?_)
                              refine Reg.op rfl (Ope.pickT rfl rfl ?_)
                              refine Reg.op rfl (Ope.mov rfl ?_)
                              refine Reg.splitX rfl rfl (fun hg=>?_) fun hg=>?_
                              ·first
                               |(first | exact absurd rfl hg | (exact absurd hg (by decide)))
                               |refine Reg.on rfl rfl rfl (Ope.mov rfl ?_)
                                refine Reg.on rfl rfl rfl (Ope.eq rfl rfl ?_)
                                refine Reg.op rfl (Ope.pickT rfl rfl ?_)
                                refine Reg.op rfl (Ope.mov rfl ?_)
                                refine Reg.splitX rfl rfl (fun hg=>?_) fun hg=>?_
                                ·first
                                 |(first | exact absurd rfl hg | (exact absurd hg (by decide)))
                                 |refine Reg.on rfl rfl rfl (Ope.mov rfl ?_)
                                  refine Reg.on rfl rfl rfl (Ope.eq rfl rfl ?_)
                                  refine Reg.op rfl (Ope.pickT rfl rfl ?_)
                                  refine Reg.op rfl (Ope.mov rfl ?_)
                                  refine Reg.splitX rfl rfl (fun hg=>?_) fun hg=>?_
                                  ·first
                                   |(first | exact absurd rfl hg | (exact absurd hg (by decide)))
                                   |refine Reg.on rfl rfl rfl (Ope.mov rfl ?_)
                                    refine Reg.on rfl rfl rfl (Ope.eq rfl rfl ?_)
                                    refine Reg.op rfl (Ope.pickT rfl rfl ?_)
                                    refine Reg.op rfl (Ope.asg rfl ?_)
                                    exact Reg.nil (Run.ret (fin_ret (.tmp rfl .nil) rfl rfl))
                                  ·first
                                   |(first | exact absurd rfl hg | (exact absurd hg (by decide)))
                                   |refine Reg.off rfl rfl rfl (Reg.off rfl rfl rfl (Reg.op rfl (Ope.pickF rfl rfl ?_)))
                                    refine Reg.op rfl (Ope.asg rfl ?_)
                                    exact Reg.nil (Run.ret (fin_ret (.tmp rfl .nil) rfl rfl))
                                ·first
                                 |(first | exact absurd rfl hg | (exact absurd hg (by decide)))
                                 |refine Reg.off rfl rfl rfl (Reg.off rfl rfl rfl (Reg.op rfl (Ope.pickF rfl rfl ?_)))
                                  refine Reg.op rfl (Ope.mov rfl ?_)
                                  refine Reg.off rfl rfl rfl (Reg.off rfl rfl rfl (Reg.op rfl (Ope.pickF rfl rfl ?_)))
                                  refine Reg.op rfl (Ope.asg rfl ?_)
                                  exact Reg.nil (Run.ret (fin_ret (.tmp rfl .nil) rfl rfl))
                              ·first
                               |(first | exact absurd rfl hg | (exact absurd hg (by decide)))
                               |refine Reg.off rfl rfl rfl (Reg.off rfl rfl rfl (Reg.op rfl (Ope.pickF rfl rfl ?_)))
                                refine Reg.op rfl (Ope.mov rfl ?_)
                                refine Reg.off rfl rfl rfl (Reg.off rfl rfl rfl (Reg.op rfl (Ope.pickF rfl rfl ?_)))
                                refine Reg.op rfl (Ope.mov rfl ?_)
                                refine Reg.off rfl rfl rfl (Reg.off rfl rfl rfl (Reg.op rfl (Ope.pickF rfl rfl ?_)))
                                refine Reg.op rfl (Ope.asg rfl ?_)
                                exact Reg.nil (Run.ret (fin_ret (.tmp rfl .nil) rfl rfl))
                            ·first
                             |(first | exact absurd rfl hg | (exact absurd hg (by decide)))
                             |refine Reg.off rfl rfl rfl (Reg.off rfl rfl rfl (Reg.op rfl (Ope.pickF rfl rfl ?_)))
                              refine Reg.op rfl (Ope.mov rfl ?_)
                              refine Reg.off rfl rfl rfl (Reg.off rfl rfl rfl (Reg.op rfl (Ope.pickF rfl rfl ?_)))
                              refine Reg.op rfl (Ope.mov rfl ?_)
                              refine Reg.off rfl rfl rfl (Reg.off rfl rfl rfl (Reg.op rfl (Ope.pickF rfl rfl ?_)))
                              refine Reg.op rfl (Ope.mov rfl ?_)
                              refine Reg.off rfl rfl rfl (Reg.off rfl rfl rfl (Reg.op rfl (Ope.pickF rfl rfl ?_)))
                              refine Reg.op rfl (Ope.asg rfl ?_)
                              exact Reg.nil (Run.ret (fin_ret (.tmp rfl .nil) rfl rfl))
                          ·first
                           |(first | exact absurd rfl hg | (exact absurd hg (by decide)))
                           |refine Reg.off rfl rfl rfl (Reg.off rfl rfl rfl (Reg.op rfl (Ope.pickF rfl rfl ?_)))
                            refine Reg.op rfl (Ope.mov rfl ?_)
                            refine Reg.off rfl rfl rfl (Reg.off rfl rfl rfl (Reg.op rfl (Ope.pickF rfl rfl ?_)))
                            refine Reg.op rfl (Ope.mov rfl ?_)
                            refine Reg.off rfl rfl rfl (Reg.off rfl rfl rfl (Reg.op rfl (Ope.pickF rfl rfl ?_)))
                            refine Reg.op rfl (Ope.mov rfl ?_)
                            refine Reg.off rfl rfl rfl (Reg.off rfl rfl rfl (Reg.op rfl (Ope.pickF rfl rfl ?_)))
                            refine Reg.op rfl (Ope.mov rfl ?_)
                            refine Reg.off rfl rfl rfl (Reg.off rfl rfl rfl (Reg.op rfl (Ope.pickF rfl rfl ?_)))
                            refine Reg.op rfl (Ope.asg rfl ?_)
                            exact Reg.nil (Run.ret (fin_ret (.tmp rfl .nil) rfl rfl))
                        ·first
                         |(first | exact absurd rfl hg | (exact absurd hg (by decide)))
                         |refine Reg.off rfl rfl rfl (Reg.off rfl rfl rfl (Reg.off rfl rfl rfl (Reg.op rfl (Ope.pickF rfl rfl ?_))))
                          refine Reg.op rfl (Ope.mov rfl ?_)
                          refine Reg.off rfl rfl rfl (Reg.off rfl rfl rfl (Reg.op rfl (Ope.pickF rfl rfl ?_)))
                          refine Reg.op rfl (Ope.mov rfl ?_)
                          refine Reg.off rfl rfl rfl (Reg.off rfl rfl rfl (Reg.op rfl (Ope.pickF rfl rfl ?_)))
                          refine Reg.op rfl (Ope.mov rfl ?_)
                          refine Reg.off rfl rfl rfl (Reg.off rfl rfl rfl (Reg.op rfl (Ope.pickF rfl rfl ?_)))
                          refine Reg.op rfl (Ope.mov rfl ?_)
                          refine Reg.off rfl rfl rfl (Reg.off rfl rfl rfl (Reg.op rfl (Ope.pickF rfl rfl ?_)))
                          refine Reg.op rfl (Ope.mov rfl ?_)
                          refine Reg.off rfl rfl rfl (Reg.off rfl rfl rfl (Reg.op rfl (Ope.pickF rfl rfl ?_)))
                          refine Reg.op rfl (Ope.asg rfl ?_)
                          exact Reg.nil (Run.ret (fin_ret (.tmp rfl .nil) rfl rfl))
                      ·first
                       |(first | exact absurd rfl hg | (exact absurd hg (by decide)))
                       |refine Reg.off rfl rfl rfl (Reg.off rfl rfl rfl (Reg.op rfl (Ope.pickF rfl rfl ?_)))
                        refine Reg.op rfl (Ope.mov rfl ?_)
                        refine Reg.off rfl rfl rfl (Reg.off rfl rfl rfl (Reg.off rfl rfl rfl (Reg.op rfl (Ope.pickF rfl rfl ?_))))
                        refine Reg.op rfl (Ope.mov rfl ?_)
                        refine Reg.off rfl rfl rfl (Reg.off rfl rfl rfl (Reg.op rfl (Ope.pickF rfl rfl ?_)))
                        refine Reg.op rfl (Ope.mov rfl ?_)
                        refine Reg.off rfl rfl rfl (Reg.off rfl rfl rfl (Reg.op rfl (Ope.pickF rfl rfl ?_)))
                        refine Reg.op rfl (Ope.mov rfl ?_)
                        refine Reg.off rfl rfl rfl (Reg.off rfl rfl rfl (Reg.op rfl (Ope.pickF rfl rfl ?_)))
                        refine Reg.op rfl (Ope.mov rfl ?_)
                        refine Reg.off rfl rfl rfl (Reg.off rfl rfl rfl (Reg.op rfl (Ope.pickF rfl rfl ?_)))
                        refine Reg.op rfl (Ope.mov rfl ?_)
                        refine Reg.off rfl rfl rfl (Reg.off rfl rfl rfl (Reg.op rfl (Ope.pickF rfl rfl ?_)))
                        refine Reg.op rfl (Ope.asg rfl ?_)
                        exact Reg.nil (Run.ret (fin_ret (.tmp rfl .nil) rfl rfl))
                    ·first
                     |(first | exact absurd rfl hg | (exact absurd hg (by decide)))
                     |refine Reg.off rfl rfl rfl (Reg.off rfl rfl rfl (Reg.op rfl (Ope.pickF rfl rfl ?_)))
                      refine Reg.op rfl (Ope.mov rfl ?_)
                      refine Reg.off rfl rfl rfl (Reg.off rfl rfl rfl (Reg.op rfl (Ope.pickF rfl rfl ?_)))
                      refine Reg.op rfl (Ope.mov rfl ?_)
                      refine Reg.off rfl rfl rfl (Reg.off rfl rfl rfl (Reg.off rfl rfl rfl (Reg.op rfl (Ope.pickF rfl rfl ?_))))
                      refine Reg.op rfl (Ope.mov rfl ?_)
                      refine Reg.off rfl rfl rfl (Reg.off rfl rfl rfl (Reg.op rfl (Ope.pickF rfl rfl ?_)))
                      refine Reg.op rfl (Ope.mov rfl ?_)
                      refine Reg.off rfl rfl rfl (Reg.off rfl rfl rfl (Reg.op rfl (Ope.pickF rfl rfl ?_)))
                      refine Reg.op rfl (Ope.mov rfl ?_)
                      refine Reg.off rfl rfl rfl (Reg.off rfl rfl rfl (Reg.op rfl (Ope.pickF rfl rfl ?_)))
                      refine Reg.op rfl (Ope.mov rfl ?_)
                      refine Reg.off rfl rfl rfl (Reg.off rfl rfl rfl (Reg.op rfl (Ope.pickF rfl rfl ?_)))
                      refine Reg.op rfl (Ope.mov rfl ?_)
                      refine Reg.off rfl rfl rfl (Reg.off rfl rfl rfl (Reg.op rfl (Ope.pickF rfl rfl ?_)))
                      refine Reg.op rfl (Ope.asg rfl ?_)
                      exact Reg.nil (Run.ret (fin_ret (.tmp rfl .nil) rfl rfl))
end Go.Pv
namespace Go.Pv
open Go.Proofs Go.Am
set_option maxRecDepth 10000
def farB (a b c:Nat):Bool:=decide (40 < a) || decide (40 < b) || decide (40 < c)
theorem farB_max (a b c:Nat):decide (40 < max (max (a:Int) b) c)=farB a b c:=by
  unfold farB
  rw [← Bool.decide_or,← Bool.decide_or]
  refine decide_eq_decide.2 ?_
  omega
def jobR (m n i:Nat) (j:Job):Bool :=
  inB j.kd 0 ((m:Int) - 1) && (inB j.lo 1 j.hi && (!decide (30 < j.hi) && (inB j.fr 0 300 && (inB j.so 0 300 && (inB j.bt 0 300 && (inB j.co 0 50 && (inB j.af 0 (((2 ^ n:Nat):Int) - 1) && !j.af.toNat.testBit i)))))))
theorem jobR_ok {m n i:Nat} {j:Job}:jobR m n i j=true↔JobOk m n i 30 j:=by
  have hp:0 < 2 ^ n:=Nat.two_pow_pos n
  unfold jobR inB
  simp only [Bool.and_eq_true,decide_eq_true_eq,Bool.not_eq_true',decide_eq_false_iff_not]
  constructor
  · rintro ⟨⟨a, a'⟩, ⟨b, b'⟩, c, d, e, f, g, ⟨h, h'⟩, k⟩
    exact ⟨⟨a,by omega⟩,⟨b,b',by omega⟩,d,e,f,g,h,by omega,k⟩
  · rintro ⟨a, ⟨b, b', c⟩, d, e, f, g, h, h', k⟩
    exact ⟨⟨a.1,by omega⟩,⟨b,b'⟩,by omega,d,e,f,g,⟨h,by omega⟩,k⟩
theorem jobR_eq {s:Shp} (hi:s.i64) (hn:s.jo.length≤6) {i:Nat} (h:i < s.jo.length):jobR s.su.length s.jo.length i s.jo[i]=jobB s.su.length s.jo.length i s.jo[i]:=by
  have e1:=jobR_ok (m:=s.su.length) (n:=s.jo.length) (i:=i) (j:=s.jo[i])
  have e2:=job_ok (m:=s.su.length) hn h (hi i h)
  cases ha:jobR s.su.length s.jo.length i s.jo[i]<;>cases hb:jobB s.su.length s.jo.length i s.jo[i]<;>simp_all
section
variable (s:Shp) {t1 t2:Tail} (h1:t1.isOwn=false) (h2:t2.isOwn=false)
include h1 h2
theorem f12 (tl:Tail) (ls:List PV):Fn P0 12 [s.v t1 t2,.sl tl ls] (B (farB s.su.length s.jo.length ls.length)):=by
  have hm:=farB_max s.su.length s.jo.length ls.length
  refine PFun.of (C:=c12) (cx_ok _ _ _) rfl (fn:=Try.f12) (by kernel_rfl) (c:=_) rfl rfl rfl ?_
  refine Run.seq (Run.region (cx_ok _ _ _) (Reg.op rfl (Ope.boxF rfl rfl ?_)))
  refine Reg.op rfl (Ope.asg rfl ?_)
  refine Reg.nil (Run.seq (Run.region (cx_ok _ _ _) (Reg.op rfl (Ope.fld rfl rfl ?_))))
  refine Reg.op rfl (Ope.load rfl rfl ?_)
  refine Reg.op rfl (Ope.len (m:=s.su.length) rfl (by simp) ?_)
  refine Reg.op rfl (Ope.fld rfl rfl ?_)
  refine Reg.op rfl (Ope.load rfl rfl ?_)
  refine Reg.op rfl (Ope.len (m:=s.jo.length) rfl (by simp) ?_)
  refine Reg.op rfl (Ope.mov rfl ?_)
  refine Reg.op rfl (Ope.len (m:=ls.length) rfl rfl ?_)
  refine Reg.op rfl (Ope.max3 rfl rfl rfl ?_)
  refine Reg.op rfl (Ope.gt rfl rfl ?_)
  refine Reg.op rfl (Ope.asg rfl ?_)
  refine Reg.nil (Run.ret (fin_ret (.tmp rfl .nil) rfl ?_))
  (show B _=B _;rw [← hm])
theorem f25 (hi64 : s.i64) (hS : s.su.length ≤ 1000000) (hJ : s.jo.length ≤ 1000000) : Fn P0 25 [s.v t1 t2] (B s.val) := by
  have hbig:=val_big s
  have hsu:=fun {i:Nat} hi=>val_su s (i:=i) hi
  have hjo:∀ {i:Nat} (hn:s.jo.length≤6) (hi:i < s.jo.length),jobR s.su.length s.jo.length i s.jo[i]=false→s.val=false:=fun hn hi h=>val_jo s hi (by rw [← jobR_eq hi64 hn hi];exact h)
  have hyes:s.su.length≤3→∀ hn:s.jo.length≤6,(∀ i (h:i < s.su.length),upB 30 s.su[i]=true)→(∀ i (h:i < s.jo.length),jobR s.su.length s.jo.length i s.jo[i]=true)→s.val=true:=fun hm hn ha hb=>val_yes s hm hn ha (fun i h=>by rw [← jobR_eq hi64 hn h];exact hb i h)
  obtain ⟨su,jo⟩:=s
  simp only at hbig hsu hjo hyes hS hJ
  refine PFun.of (C:=c25) (cx_ok _ _ _) rfl (fn:=Try.f25) (by kernel_rfl) (c:=_) rfl rfl rfl ?_
  refine Run.seq (Run.region (cx_ok _ _ _) (Reg.op rfl (Ope.boxF rfl rfl ?_)))
  refine Reg.op rfl (Ope.asg rfl ?_)
  refine Reg.nil (Run.seq (Run.seq (Run.region (cx_ok _ _ _) (Reg.op rfl (Ope.fld rfl rfl ?_)))))
  refine Reg.op rfl (Ope.load rfl rfl ?_)
  refine Reg.op rfl (Ope.len (m:=su.length) rfl (by simp) ?_)
  refine Reg.op rfl (Ope.gt rfl rfl ?_)
  refine Reg.op rfl (Ope.mov rfl ?_)
  refine Reg.splitX rfl rfl (fun hg=>?_) fun hg=>?_
  ·first
   |(first | (exfalso;omega))
   |refine Reg.off rfl rfl rfl (Reg.off rfl rfl rfl (Reg.off rfl rfl rfl (Reg.off rfl rfl rfl (Reg.op rfl (Ope.pickT rfl rfl ?_)))))
    refine Reg.nil (Run.condT rfl (Run.seq (Run.region (cx_ok _ _ _) (Reg.op rfl (Ope.asg rfl ?_)))))
    refine Reg.nil (Run.ret (Jmp.code (fin_ret (.tmp rfl .nil) rfl ?_)))
    first
    | (rw [hbig (by omega)];rfl)
    | (rw [hsu hlt (by simpa [inB,upB] using hc)];rfl)
    | (rw [hsp (by rw [hjob];simp [*])];rfl)
    | (rw [hyes (by omega) (by omega) (fun k hk=>hall k hk (by omega)) (fun k hk=>hallj k hk (by simp only at hc;omega))];rfl)
  ·first
   |(first | (exfalso;omega))
   |refine Reg.on rfl rfl rfl (Ope.fld rfl rfl ?_)
    refine Reg.on rfl rfl rfl (Ope.load rfl rfl ?_)
    refine Reg.on rfl rfl rfl (Ope.len (m:=jo.length) rfl (by simp) ?_)
    refine Reg.on rfl rfl rfl (Ope.gt rfl rfl ?_)
    refine Reg.op rfl (Ope.pickF rfl rfl ?_)
    refine Reg.nil (Run.condX rfl (fun hc=>?_) fun hc=>?_)
    ·first
     |(first | (exfalso;omega))
     |refine Run.seq (Run.region (cx_ok _ _ _) (Reg.op rfl (Ope.asg rfl ?_)))
      refine Reg.nil (Run.ret (Jmp.code (fin_ret (.tmp rfl .nil) rfl ?_)))
      first
      | (rw [hbig (by omega)];rfl)
      | (rw [hsu hlt (by simpa [inB,upB] using hc)];rfl)
      | (rw [hsp (by rw [hjob];simp [*])];rfl)
      | (rw [hyes (by omega) (by omega) (fun k hk=>hall k hk (by omega)) (fun k hk=>hallj k hk (by simp only at hc;omega))];rfl)
    ·first
     |(first | (exfalso;omega))
     |refine Run.skip (Run.seq (Run.seq (Run.region (cx_ok _ _ _) (Reg.op rfl (Ope.asg rfl ?_)))))
      refine Reg.nil (Run.block (Run.loop (α:=Nat) (fun i=>[(1,.fp (.agg [.sl t1 (su.map I),.sl t2 (jo.map Job.v)])),(3,I i)]) (fun _=>HE 0 []) (fun i=>i≤su.length∧∀ k (hk:k < su.length),k < i→upB 30 su[k]=true) (fun i=>su.length - i) 0 ⟨rfl,rfl,trivial⟩ rfl ⟨Nat.zero_le _,fun k _ hk=>absurd hk (Nat.not_lt_zero _)⟩ (fun i hi=>?_)))
      obtain ⟨hi,hall⟩:=hi
      refine Run.seq (Run.seq (Run.region (cx_ok _ _ _) (Reg.op rfl (Ope.mov rfl ?_))))
      refine Reg.op rfl (Ope.fld rfl rfl ?_)
      refine Reg.op rfl (Ope.load rfl rfl ?_)
      refine Reg.op rfl (Ope.len (m:=su.length) rfl (by simp) ?_)
      refine Reg.op rfl (Ope.lt rfl rfl ?_)
      refine Reg.nil (Run.condX rfl (fun hc=>?_) fun hc=>?_)
      ·first
       |(first | (exfalso;omega))
       |refine Run.skip (Run.seq (Run.block (Run.seq ?_)))
        have hlt:i < su.length:=by omega
        refine Run.region (cx_ok _ _ _) (Reg.op rfl (Ope.fld rfl rfl ?_))
        refine Reg.op rfl (Ope.load rfl rfl ?_)
        refine Reg.op rfl (Ope.mov rfl ?_)
        refine Reg.op rfl (Ope.idxM (m:=i) (f:=I) rfl rfl rfl hlt (fun _=>rfl) ?_)
        refine Reg.op rfl (Ope.load rfl rfl ?_)
        refine Reg.op rfl (Ope.cf rfl rfl (f62 su[i] 0 30) rfl ?_)
        refine Reg.op rfl (Ope.not rfl ?_)
        refine Reg.nil (Run.condX rfl (fun hc=>?_) fun hc=>?_)
        ·first
         |(first | (exfalso;omega))
         |refine Run.seq (Run.region (cx_ok _ _ _) (Reg.op rfl (Ope.asg rfl ?_)))
          refine Reg.nil (Run.ret (Jmp.retB (Jmp.code (Jmp.round (Jmp.retB (Jmp.code (fin_ret (.tmp rfl .nil) rfl ?_)))))))
          first
          | (rw [hbig (by omega)];rfl)
          | (rw [hsu hlt (by simpa [inB,upB] using hc)];rfl)
          | (rw [hsp (by rw [hjob];simp [*])];rfl)
          | (rw [hyes (by omega) (by omega) (fun k hk=>hall k hk (by omega)) (fun k hk=>hallj k hk (by simp only at hc;omega))];rfl)
        ·first
         |(first | (exfalso;omega))
         |refine Run.skip (Run.bend (Run.region (cx_ok _ _ _) (Reg.op rfl (Ope.mov rfl ?_))))
          refine Reg.op rfl (Ope.add rfl rfl (by omega) ?_)
          refine Reg.op rfl (Ope.asg rfl ?_)
          refine Reg.nil ?_
          exact Run.lend ⟨i+1,by omega,⟨by omega,fun k hk hki=>by
            by_cases hkk:k=i
            · subst hkk;simpa [inB,upB] using hc
            · exact hall k hk (by omega)⟩,⟨rfl,rfl,trivial⟩,rfl,rfl⟩
      ·first
       |(first | (exfalso;omega))
       |refine Run.exit (Jmp.code (Jmp.round (Jmp.here (Run.seq (Run.seq (Run.region (cx_ok _ _ _) (Reg.op rfl (Ope.asg rfl ?_))))))))
        refine Reg.nil (Run.block (Run.loop (α:=Nat×Nat) (fun t=>[(1,.fp (.agg [.sl t1 (su.map I),.sl t2 (jo.map Job.v)])),(4,I t.1)]) (fun t=>HE t.2 []) (fun t=>t.1≤jo.length∧∀ k (hk:k < jo.length),k < t.1→jobR su.length jo.length k jo[k]=true) (fun t=>jo.length - t.1) (0,0) ⟨rfl,rfl,trivial⟩ rfl ⟨Nat.zero_le _,fun k _ hk=>absurd hk (Nat.not_lt_zero _)⟩ (fun t ht=>?_)))
        obtain ⟨i,m⟩:=t
        obtain ⟨hi',hallj⟩:=ht
        simp only at hi' hallj
        refine Run.seq (Run.seq (Run.region (cx_ok _ _ _) (Reg.op rfl (Ope.mov rfl ?_))))
        refine Reg.op rfl (Ope.fld rfl rfl ?_)
        refine Reg.op rfl (Ope.load rfl rfl ?_)
        refine Reg.op rfl (Ope.len (m:=jo.length) rfl (by simp) ?_)
        refine Reg.op rfl (Ope.lt rfl rfl ?_)
        refine Reg.nil (Run.condX rfl (fun hc=>?_) fun hc=>?_)
        ·first
         |(first | (exfalso;omega))
         |refine Run.skip (Run.seq (Run.block (Run.seq ?_)))
          have hlt:i < jo.length:=by omega
          have hsp:=fun h=>hjo (i:=i) (by omega) hlt h
          have hjR:=fun h=>hallj i hlt h
          refine Run.region (cx_ok _ _ _) (Reg.op rfl (Ope.fld rfl rfl ?_))
          refine Reg.op rfl (Ope.load rfl rfl ?_)
          refine Reg.op rfl (Ope.mov rfl ?_)
          refine Reg.op rfl (Ope.idxM (m:=i) (f:=Job.v) rfl rfl rfl hlt (fun _=>rfl) ?_)
          refine Reg.op rfl (Ope.load rfl rfl ?_)
          refine Reg.op rfl (Ope.newL rfl ?_)
          refine Reg.op0 (Ope.store rfl rfl hget_hd rfl rfl rfl ?_)
          refine Reg.nil (Run.seq (Run.seq (Run.frz (d:=5) true rfl hget_hd rfl ?_)))
          refine Run.wide (m:=m+1) (l':=[]) (Nat.le_refl _) trivial ?_
          have hjob:jobR su.length jo.length i jo[i]=jobR su.length jo.length i jo[i]:=rfl
          conv at hjob=>rhs;unfold jobR
          have hpw:=f61 jo.length (by omega)
          have hp6:2 ^ jo.length≤2 ^ 6:=Nat.pow_le_pow_right (by decide) (by omega)
          have hp0:0 < 2 ^ jo.length:=Nat.two_pow_pos _
          have hhas:∀ a:Int,0≤a→a < 4611686018427387904→Fn P0 60 [I a,I i] (B (a.toNat.testBit i)):=fun a h0 h9=>by
            obtain ⟨x,rfl⟩:=Int.eq_ofNat_of_zero_le h0
            exact f60 x i (by omega) (by omega)
          generalize hjbe:jo[i]=jb at *
          obtain ⟨kd,lo,hi2,fr,so,bt,co,af⟩:=jb
          generalize 2 ^ jo.length=P at *
          simp only at hjob
          refine Run.region (cx_ok _ _ _) (Reg.op rfl (Ope.fld rfl rfl ?_))
          refine Reg.op rfl (Ope.load rfl rfl ?_)
          refine Reg.op rfl (Ope.fld rfl rfl ?_)
          refine Reg.op rfl (Ope.load rfl rfl ?_)
          refine Reg.op rfl (Ope.len (m:=su.length) rfl (by simp) ?_)
          refine Reg.op rfl (Ope.sub rfl rfl (by omega) ?_)
          refine Reg.op rfl (Ope.cf rfl rfl (f62 _ _ _) rfl ?_)
          refine Reg.op rfl (Ope.not rfl ?_)
          refine Reg.op rfl (Ope.mov rfl ?_)
          refine Reg.splitX rfl rfl (fun hg=>?_) fun hg=>?_
          ·first
           |(first | (exfalso;omega))
           |refine Reg.off rfl rfl rfl (Reg.off rfl rfl rfl (Reg.off rfl rfl rfl (Reg.off rfl rfl rfl (Reg.off rfl rfl rfl (Reg.off rfl rfl rfl (Reg.off rfl rfl rfl (Reg.off rfl rfl rfl (Reg.op rfl (Ope.pickT rfl rfl ?_)))))))))
            refine Reg.op rfl (Ope.mov rfl ?_)
            refine Reg.off rfl rfl rfl (Reg.off rfl rfl rfl (Reg.off rfl rfl rfl (Reg.off rfl rfl rfl (Reg.op rfl (Ope.pickT rfl rfl ?_)))))
            refine Reg.op rfl (Ope.mov rfl ?_)
            refine Reg.off rfl rfl rfl (Reg.off rfl rfl rfl (Reg.off rfl rfl rfl (Reg.off rfl rfl rfl (Reg.op rfl (Ope.pickT rfl rfl ?_)))))
            refine Reg.op rfl (Ope.mov rfl ?_)
            refine Reg.off rfl rfl rfl (Reg.off rfl rfl rfl (Reg.off rfl rfl rfl (Reg.off rfl rfl rfl (Reg.op rfl (Ope.pickT rfl rfl ?_)))))
            refine Reg.op rfl (Ope.mov rfl ?_)
            refine Reg.off rfl rfl rfl (Reg.off rfl rfl rfl (Reg.off rfl rfl rfl (Reg.off rfl rfl rfl (Reg.op rfl (Ope.pickT rfl rfl ?_)))))
            refine Reg.op rfl (Ope.mov rfl ?_)
            refine Reg.off rfl rfl rfl (Reg.off rfl rfl rfl (Reg.off rfl rfl rfl (Reg.off rfl rfl rfl (Reg.op rfl (Ope.pickT rfl rfl ?_)))))
            refine Reg.nil (Run.condT rfl (Run.seq (Run.region (cx_ok _ _ _) (Reg.op rfl (Ope.asg rfl ?_)))))
            refine Reg.nil (Run.ret (Jmp.code (Jmp.retB (Jmp.code (Jmp.round (Jmp.retB (Jmp.code (fin_ret (.tmp rfl .nil) rfl ?_))))))))
            first
            | (rw [hbig (by omega)];rfl)
            | (rw [hsu hlt (by simpa [inB,upB] using hc)];rfl)
            | (rw [hsp (by rw [hjob];simp [*])];rfl)
            | (rw [hyes (by omega) (by omega) (fun k hk=>hall k hk (by omega)) (fun k hk=>hallj k hk (by simp only at hc;omega))];rfl)
          ·first
           |(first | (exfalso;omega))
           |refine Reg.on rfl rfl rfl (Ope.fld rfl rfl ?_)
            refine Reg.on rfl rfl rfl (Ope.fld rfl rfl ?_)
            refine Reg.on rfl rfl rfl (Ope.load rfl rfl ?_)
            refine Reg.on rfl rfl rfl (Ope.fld rfl rfl ?_)
            refine Reg.on rfl rfl rfl (Ope.fld rfl rfl ?_)
            refine Reg.on rfl rfl rfl (Ope.load rfl rfl ?_)
            refine Reg.on rfl rfl rfl (Ope.cf rfl rfl (f62 _ _ _) rfl ?_)
            refine Reg.on rfl rfl rfl (Ope.not rfl ?_)
            refine Reg.op rfl (Ope.pickF rfl rfl ?_)
            refine Reg.op rfl (Ope.mov rfl ?_)
            refine Reg.splitX rfl rfl (fun hg=>?_) fun hg=>?_
            ·first
             |(first | (exfalso;omega))
             |refine Reg.off rfl rfl rfl (Reg.off rfl rfl rfl (Reg.off rfl rfl rfl (Reg.off rfl rfl rfl (Reg.op rfl (Ope.pickT rfl rfl ?_)))))
              refine Reg.op rfl (Ope.mov rfl ?_)
              refine Reg.off rfl rfl rfl (Reg.off rfl rfl rfl (Reg.off rfl rfl rfl (Reg.off rfl rfl rfl (Reg.op rfl (Ope.pickT rfl rfl ?_)))))
              refine Reg.op rfl (Ope.mov rfl ?_)
              refine Reg.off rfl rfl rfl (Reg.off rfl rfl rfl (Reg.off rfl rfl rfl (Reg.off rfl rfl rfl (Reg.op rfl (Ope.pickT rfl rfl ?_)))))
              refine Reg.op rfl (Ope.mov rfl ?_)
              refine Reg.off rfl rfl rfl (Reg.off rfl rfl rfl (Reg.off rfl rfl rfl (Reg.off rfl rfl rfl (Reg.op rfl (Ope.pickT rfl rfl ?_)))))
              refine Reg.op rfl (Ope.mov rfl ?_)
              refine Reg.off rfl rfl rfl (Reg.off rfl rfl rfl (Reg.off rfl rfl rfl (Reg.off rfl rfl rfl (Reg.op rfl (Ope.pickT rfl rfl ?_)))))
              refine Reg.nil (Run.condT rfl (Run.seq (Run.region (cx_ok _ _ _) (Reg.op rfl (Ope.asg rfl ?_)))))
              refine Reg.nil (Run.ret (Jmp.code (Jmp.retB (Jmp.code (Jmp.round (Jmp.retB (Jmp.code (fin_ret (.tmp rfl .nil) rfl ?_))))))))
              first
              | (rw [hbig (by omega)];rfl)
              | (rw [hsu hlt (by simpa [inB,upB] using hc)];rfl)
              | (rw [hsp (by rw [hjob];simp [*])];rfl)
              | (rw [hyes (by omega) (by omega) (fun k hk=>hall k hk (by omega)) (fun k hk=>hallj k hk (by simp only at hc;omega))];rfl)
            ·first
             |(first | (exfalso;omega))
             |refine Reg.on rfl rfl rfl (Ope.fld rfl rfl ?_)
              refine Reg.on rfl rfl rfl (Ope.fld rfl rfl ?_)
              refine Reg.on rfl rfl rfl (Ope.load rfl rfl ?_)
              refine Reg.on rfl rfl rfl (Ope.gt rfl rfl ?_)
              refine Reg.op rfl (Ope.pickF rfl rfl ?_)
              refine Reg.op rfl (Ope.mov rfl ?_)
              refine Reg.splitX rfl rfl (fun hg=>?_) fun hg=>?_
              ·first
               |(first | (exfalso;omega))
               |refine Reg.off rfl rfl rfl (Reg.off rfl rfl rfl (Reg.off rfl rfl rfl (Reg.off rfl rfl rfl (Reg.op rfl (Ope.pickT rfl rfl ?_)))))
                refine Reg.op rfl (Ope.mov rfl ?_)
                refine Reg.off rfl rfl rfl (Reg.off rfl rfl rfl (Reg.off rfl rfl rfl (Reg.off rfl rfl rfl (Reg.op rfl (Ope.pickT rfl rfl ?_)))))
                refine Reg.op rfl (Ope.mov rfl ?_)
                refine Reg.off rfl rfl rfl (Reg.off rfl rfl rfl (Reg.off rfl rfl rfl (Reg.off rfl rfl rfl (Reg.op rfl (Ope.pickT rfl rfl ?_)))))
                refine Reg.op rfl (Ope.mov rfl ?_)
                refine Reg.off rfl rfl rfl (Reg.off rfl rfl rfl (Reg.off rfl rfl rfl (Reg.off rfl rfl rfl (Reg.op rfl (Ope.pickT rfl rfl ?_)))))
                refine Reg.nil (Run.condT rfl (Run.seq (Run.region (cx_ok _ _ _) (Reg.op rfl (Ope.asg rfl ?_)))))
                refine Reg.nil (Run.ret (Jmp.code (Jmp.retB (Jmp.code (Jmp.round (Jmp.retB (Jmp.code (fin_ret (.tmp rfl .nil) rfl ?_))))))))
                first
                | (rw [hbig (by omega)];rfl)
                | (rw [hsu hlt (by simpa [inB,upB] using hc)];rfl)
                | (rw [hsp (by rw [hjob];simp [*])];rfl)
                | (rw [hyes (by omega) (by omega) (fun k hk=>hall k hk (by omega)) (fun k hk=>hallj k hk (by simp only at hc;omega))];rfl)
              ·first
               |(first | (exfalso;omega))
               |refine Reg.on rfl rfl rfl (Ope.fld rfl rfl ?_)
                refine Reg.on rfl rfl rfl (Ope.load rfl rfl ?_)
                refine Reg.on rfl rfl rfl (Ope.cf rfl rfl (f62 _ _ _) rfl ?_)
                refine Reg.on rfl rfl rfl (Ope.not rfl ?_)
                refine Reg.op rfl (Ope.pickF rfl rfl ?_)
                refine Reg.op rfl (Ope.mov rfl ?_)
                refine Reg.splitX rfl rfl (fun hg=>?_) fun hg=>?_
                ·first
                 |(first | (exfalso;omega))
                 |refine Reg.off rfl rfl rfl (Reg.off rfl rfl rfl (Reg.off rfl rfl rfl (Reg.off rfl rfl rfl (Reg.op rfl (Ope.pickT rfl rfl ?_)))))
                  refine Reg.op rfl (Ope.mov rfl ?_)
                  refine Reg.off rfl rfl rfl (Reg.off rfl rfl rfl (Reg.off rfl rfl rfl (Reg.off rfl rfl rfl (Reg.op rfl (Ope.pickT rfl rfl ?_)))))
                  refine Reg.op rfl (Ope.mov rfl ?_)
                  refine Reg.off rfl rfl rfl (Reg.off rfl rfl rfl (Reg.off rfl rfl rfl (Reg.off rfl rfl rfl (Reg.op rfl (Ope.pickT rfl rfl ?_)))))
                  refine Reg.nil (Run.condT rfl (Run.seq (Run.region (cx_ok _ _ _) (Reg.op rfl (Ope.asg rfl ?_)))))
                  refine Reg.nil (Run.ret (Jmp.code (Jmp.retB (Jmp.code (Jmp.round (Jmp.retB (Jmp.code (fin_ret (.tmp rfl .nil) rfl ?_))))))))
                  first
                  | (rw [hbig (by omega)];rfl)
                  | (rw [hsu hlt (by simpa [inB,upB] using hc)];rfl)
                  | (rw [hsp (by rw [hjob];simp [*])];rfl)
                  | (rw [hyes (by omega) (by omega) (fun k hk=>hall k hk (by omega)) (fun k hk=>hallj k hk (by simp only at hc;omega))];rfl)
                ·first
                 |(first | (exfalso;omega))
                 |refine Reg.on rfl rfl rfl (Ope.fld rfl rfl ?_)
                  refine Reg.on rfl rfl rfl (Ope.load rfl rfl ?_)
                  refine Reg.on rfl rfl rfl (Ope.cf rfl rfl (f62 _ _ _) rfl ?_)
                  refine Reg.on rfl rfl rfl (Ope.not rfl ?_)
                  refine Reg.op rfl (Ope.pickF rfl rfl ?_)
                  refine Reg.op rfl (Ope.mov rfl ?_)
                  refine Reg.splitX rfl rfl (fun hg=>?_) fun hg=>?_
                  ·first
                   |(first | (exfalso;omega))
                   |refine Reg.off rfl rfl rfl (Reg.off rfl rfl rfl (Reg.off rfl rfl rfl (Reg.off rfl rfl rfl (Reg.op rfl (Ope.pickT rfl rfl ?_)))))
                    refine Reg.op rfl (Ope.mov rfl ?_)
                    refine Reg.off rfl rfl rfl (Reg.off rfl rfl rfl (Reg.off rfl rfl rfl (Reg.off rfl rfl rfl (Reg.op rfl (Ope.pickT rfl rfl ?_)))))
                    refine Reg.nil (Run.condT rfl (Run.seq (Run.region (cx_ok _ _ _) (Reg.op rfl (Ope.asg rfl ?_)))))
                    refine Reg.nil (Run.ret (Jmp.code (Jmp.retB (Jmp.code (Jmp.round (Jmp.retB (Jmp.code (fin_ret (.tmp rfl .nil) rfl ?_))))))))
                    first
                    | (rw [hbig (by omega)];rfl)
                    | (rw [hsu hlt (by simpa [inB,upB] using hc)];rfl)
                    | (rw [hsp (by rw [hjob];simp [*])];rfl)
                    | (rw [hyes (by omega) (by omega) (fun k hk=>hall k hk (by omega)) (fun k hk=>hallj k hk (by simp only at hc;omega))];rfl)
                  ·first
                   |(first | (exfalso;omega))
                   |refine Reg.on rfl rfl rfl (Ope.fld rfl rfl ?_)
                    refine Reg.on rfl rfl rfl (Ope.load rfl rfl ?_)
                    refine Reg.on rfl rfl rfl (Ope.cf rfl rfl (f62 _ _ _) rfl ?_)
                    refine Reg.on rfl rfl rfl (Ope.not rfl ?_)
                    refine Reg.op rfl (Ope.pickF rfl rfl ?_)
                    refine Reg.op rfl (Ope.mov rfl ?_)
                    refine Reg.splitX rfl rfl (fun hg=>?_) fun hg=>?_
                    ·first
                     |(first | (exfalso;omega))
                     |refine Reg.off rfl rfl rfl (Reg.off rfl rfl rfl (Reg.off rfl rfl rfl (Reg.off rfl rfl rfl (Reg.op rfl (Ope.pickT rfl rfl ?_)))))
                      refine Reg.nil (Run.condT rfl (Run.seq (Run.region (cx_ok _ _ _) (Reg.op rfl (Ope.asg rfl ?_)))))
                      refine Reg.nil (Run.ret (Jmp.code (Jmp.retB (Jmp.code (Jmp.round (Jmp.retB (Jmp.code (fin_ret (.tmp rfl .nil) rfl ?_))))))))
                      first
                      | (rw [hbig (by omega)];rfl)
                      | (rw [hsu hlt (by simpa [inB,upB] using hc)];rfl)
                      | (rw [hsp (by rw [hjob];simp [*])];rfl)
                      | (rw [hyes (by omega) (by omega) (fun k hk=>hall k hk (by omega)) (fun k hk=>hallj k hk (by simp only at hc;omega))];rfl)
                    ·first
                     |(first | (exfalso;omega))
                     |refine Reg.on rfl rfl rfl (Ope.fld rfl rfl ?_)
                      refine Reg.on rfl rfl rfl (Ope.load rfl rfl ?_)
                      refine Reg.on rfl rfl rfl (Ope.cf rfl rfl (f62 _ _ _) rfl ?_)
                      refine Reg.on rfl rfl rfl (Ope.not rfl ?_)
                      refine Reg.op rfl (Ope.pickF rfl rfl ?_)
                      refine Reg.nil (Run.condX rfl (fun hc=>?_) fun hc=>?_)
                      ·first
                       |(first | (exfalso;omega))
                       |refine Run.seq (Run.region (cx_ok _ _ _) (Reg.op rfl (Ope.asg rfl ?_)))
                        refine Reg.nil (Run.ret (Jmp.code (Jmp.retB (Jmp.code (Jmp.round (Jmp.retB (Jmp.code (fin_ret (.tmp rfl .nil) rfl ?_))))))))
                        first
                        | (rw [hbig (by omega)];rfl)
                        | (rw [hsu hlt (by simpa [inB,upB] using hc)];rfl)
                        | (rw [hsp (by rw [hjob];simp [*])];rfl)
                        | (rw [hyes (by omega) (by omega) (fun k hk=>hall k hk (by omega)) (fun k hk=>hallj k hk (by simp only at hc;omega))];rfl)
                      ·first
                       |(first | (exfalso;omega))
                       |refine Run.skip (Run.seq (Run.draw (cx_ok _ _ _) [(0,true),(1,false),(2,true),(3,true),(4,true),(5,true),(6,true),(7,true),(8,true),(9,true),(10,true),(11,true),(12,true),(13,true),(14,true)] (by kernel_rfl) (Dra.op' rfl rfl rfl .sure (Ope.fld rfl rfl ?_))))
                        refine Dra.op' rfl rfl rfl (.load rfl) (Ope.load rfl rfl ?_)
                        refine Dra.op' rfl rfl rfl .sure (Ope.fld rfl rfl ?_)
                        refine Dra.op' rfl rfl rfl .sure (Ope.load rfl rfl ?_)
                        refine Dra.op' rfl rfl rfl .sure (Ope.len (m:=jo.length) rfl (by simp) ?_)
                        refine Dra.op' rfl rfl rfl .sure (Ope.cf rfl rfl (hpw) rfl ?_)
                        refine Dra.op' rfl rfl rfl .sure (Ope.sub rfl rfl (by omega) ?_)
                        refine Dra.op' rfl rfl rfl .sure (Ope.cf rfl rfl (f62 _ _ _) rfl ?_)
                        refine Dra.op' rfl rfl rfl .sure (Ope.not rfl ?_)
                        refine Dra.op' rfl rfl rfl .sure (Ope.mov rfl ?_)
                        refine Dra.splitX rfl rfl rfl rfl (fun hg=>?_) fun hg=>?_
                        ·first
                         |(first | (exfalso;omega))
                         |refine Dra.off' rfl rfl rfl (.inl rfl) rfl (Dra.off' rfl rfl rfl (.inl rfl) rfl (Dra.off' rfl rfl rfl (.inl rfl) rfl (Dra.off' rfl rfl rfl (.inl rfl) rfl (Dra.op' rfl rfl rfl .sure (Ope.pickT rfl rfl ?_)))))
                          refine Dra.nil (Run.condT rfl (Run.seq (Run.region (cx_ok _ _ _) (Reg.op rfl (Ope.asg rfl ?_)))))
                          refine Reg.nil (Run.ret (Jmp.retB (Jmp.code (Jmp.round (Jmp.retB (Jmp.code (fin_ret (.tmp rfl .nil) rfl ?_)))))))
                          first
                          | (rw [hbig (by omega)];rfl)
                          | (rw [hsu hlt (by simpa [inB,upB] using hc)];rfl)
                          | (rw [hsp (by rw [hjob];simp [*])];rfl)
                          | (rw [hyes (by omega) (by omega) (fun k hk=>hall k hk (by omega)) (fun k hk=>hallj k hk (by simp only at hc;omega))];rfl)
                        ·first
                         |(first | (exfalso;omega))
                         |refine Dra.on' rfl rfl rfl rfl rfl .sure (Ope.fld rfl rfl ?_)
                          refine Dra.on' rfl rfl rfl rfl rfl .sure (Ope.load rfl rfl ?_)
                          refine Dra.on' rfl rfl rfl rfl rfl .sure (Ope.mov rfl ?_)
                          refine Dra.on' rfl rfl rfl rfl rfl .sure (Ope.cf rfl rfl (hhas af (by simp [inB] at hg;omega) (by simp [inB] at hg;omega)) rfl ?_)
                          refine Dra.op' rfl rfl rfl .sure (Ope.pickF rfl rfl ?_)
                          refine Dra.nil (Run.condX rfl (fun hc=>?_) fun hc=>?_)
                          ·first
                           |(first | (exfalso;omega))
                           |refine Run.seq (Run.region (cx_ok _ _ _) (Reg.op rfl (Ope.asg rfl ?_)))
                            refine Reg.nil (Run.ret (Jmp.retB (Jmp.code (Jmp.round (Jmp.retB (Jmp.code (fin_ret (.tmp rfl .nil) rfl ?_)))))))
                            first
                            | (rw [hbig (by omega)];rfl)
                            | (rw [hsu hlt (by simpa [inB,upB] using hc)];rfl)
                            | (rw [hsp (by rw [hjob];simp [*])];rfl)
                            | (rw [hyes (by omega) (by omega) (fun k hk=>hall k hk (by omega)) (fun k hk=>hallj k hk (by simp only at hc;omega))];rfl)
                          ·first
                           |(first | (exfalso;omega))
                           |refine Run.skip (Run.bend (Run.region (cx_ok _ _ _) (Reg.op rfl (Ope.mov rfl ?_))))
                            refine Reg.op rfl (Ope.add rfl rfl (by omega) ?_)
                            refine Reg.op rfl (Ope.asg rfl ?_)
                            refine Reg.nil ?_
                            exact Run.lend ⟨(i+1,m+1),by show jo.length - (i+1) < jo.length - i;omega,⟨by show i+1≤jo.length;omega,fun k hk hki=>by
                              by_cases hkk:k=i
                              · subst hkk;rw [hjbe,hjob];simp [*]
                              · exact hallj k hk (by simp only at hki;omega)⟩,⟨rfl,rfl,trivial⟩,rfl,rfl⟩
        ·first
         |(first | (exfalso;omega))
         |refine Run.exit (Jmp.code (Jmp.round (Jmp.here (Run.seq (Run.region (cx_ok _ _ _) (Reg.op rfl (Ope.asg rfl ?_)))))))
          refine Reg.nil (Run.ret (fin_ret (.tmp rfl .nil) rfl ?_))
          first
          | (rw [hbig (by omega)];rfl)
          | (rw [hsu hlt (by simpa [inB,upB] using hc)];rfl)
          | (rw [hsp (by rw [hjob];simp [*])];rfl)
          | (rw [hyes (by omega) (by omega) (fun k hk=>hall k hk (by omega)) (fun k hk=>hallj k hk (by simp only at hc;omega))];rfl)
end
end Go.Pv
namespace Go.Pv
open Go.Proofs Go.Am
set_option maxRecDepth 10000
end Go.Pv
namespace Go.Pv
open Go.Proofs Go.Am
set_option maxRecDepth 10000
section
variable (s:Shp) {t1 t2:Tail} (h1:t1.isOwn=false) (h2:t2.isOwn=false)
include h1 h2
theorem f33 (hi:s.i64):Fn P0 33 [s.v t1 t2] (B s.val):=by
  have hfa:=f12 s h1 h2 .ex []
  have hb:PV.bds 0 [s.v t1 t2,.sl .ex []]=true:=bd_shpV s h1 h2 rfl
  have hbs:PV.bds 0 [s.v t1 t2]=true:=bd_shpV s h1 h2 rfl
  cases hf:farB s.su.length s.jo.length ([]:List PV).length with
  | true =>
    rw [hf] at hfa
    have hv:s.val=false:=val_big s (by
      unfold farB at hf
      simp only [Bool.or_eq_true,decide_eq_true_eq,List.length_nil] at hf
      omega)
    rw [hv]
    refine PFun.of (C:=c33) (cx_ok _ _ _) rfl (fn:=Try.f33) (by kernel_rfl) (c:=_) rfl rfl rfl ?_
    refine Run.seq (Run.region (cx_ok _ _ _) (Reg.op rfl (Ope.boxF rfl rfl ?_)))
    refine Reg.op rfl (Ope.asg rfl ?_)
    refine Reg.nil (Run.seq (Run.region (cx_ok _ _ _) (Reg.op rfl (Ope.load rfl rfl ?_))))
    refine Reg.op rfl (Ope.cf rfl rfl hfa hb ?_)
    refine Reg.op rfl (Ope.not rfl ?_)
    refine Reg.op rfl (Ope.mov rfl ?_)
    refine Reg.splitX rfl rfl (fun hg=>?_) fun hg=>?_
    ·first
     |(first | exact absurd rfl hg | (exact absurd hg (by decide)))
     |refine Reg.on rfl rfl rfl (Ope.load rfl rfl ?_)
      refine Reg.on rfl rfl rfl (Ope.cf rfl rfl (?_) rfl ?_)
      refine Reg.op rfl (Ope.pickT rfl rfl ?_)
      refine Reg.op rfl (Ope.asg rfl ?_)
      exact Reg.nil (Run.ret (fin_ret (.tmp rfl .nil) rfl rfl))
    ·first
     |(first | exact absurd rfl hg | (exact absurd hg (by decide)))
     |refine Reg.off rfl rfl rfl (Reg.off rfl rfl rfl (Reg.op rfl (Ope.pickF rfl rfl ?_)))
      refine Reg.op rfl (Ope.asg rfl ?_)
      exact Reg.nil (Run.ret (fin_ret (.tmp rfl .nil) rfl rfl))
  | false =>
    rw [hf] at hfa
    unfold farB at hf
    simp only [Bool.or_eq_false_iff,decide_eq_false_iff_not] at hf
    have hme:=f25 s h1 h2 hi (by omega) (by omega)
    refine PFun.of (C:=c33) (cx_ok _ _ _) rfl (fn:=Try.f33) (by kernel_rfl) (c:=_) rfl rfl rfl ?_
    refine Run.seq (Run.region (cx_ok _ _ _) (Reg.op rfl (Ope.boxF rfl rfl ?_)))
    refine Reg.op rfl (Ope.asg rfl ?_)
    refine Reg.nil (Run.seq (Run.region (cx_ok _ _ _) (Reg.op rfl (Ope.load rfl rfl ?_))))
    refine Reg.op rfl (Ope.cf rfl rfl hfa hb ?_)
    refine Reg.op rfl (Ope.not rfl ?_)
    refine Reg.op rfl (Ope.mov rfl ?_)
    refine Reg.splitX rfl rfl (fun hg=>?_) fun hg=>?_
    ·first
     |(first | exact absurd rfl hg | (exact absurd hg (by decide)))
     |refine Reg.on rfl rfl rfl (Ope.load rfl rfl ?_)
      refine Reg.on rfl rfl rfl (Ope.cf rfl rfl hme hbs ?_)
      refine Reg.op rfl (Ope.pickT rfl rfl ?_)
      refine Reg.op rfl (Ope.asg rfl ?_)
      exact Reg.nil (Run.ret (fin_ret (.tmp rfl .nil) rfl rfl))
    ·first
     |(first | exact absurd rfl hg | (exact absurd hg (by decide)))
     |refine Reg.off rfl rfl rfl (Reg.off rfl rfl rfl (Reg.op rfl (Ope.pickF rfl rfl ?_)))
      refine Reg.op rfl (Ope.asg rfl ?_)
      exact Reg.nil (Run.ret (fin_ret (.tmp rfl .nil) rfl rfl))
end
structure Stp (s:Shp) (p:Pst) (w:Wrk) (n:Nat) (kd lo hi fr so bt co:Int) (q:Nat) (ku:Nat) (A:Int):Prop where
  kq:kd=(ku:Int)
  kl:ku < s.su.length
  kb:0≤s.set ku∧s.set ku≤30
  ra:kd=p.kd→w.d0=max p.f0 fr+lo∧w.d1=max p.f1 fr+hi
  rb:kd≠p.kd→w.d0=max (p.f0+s.set ku) fr+lo∧w.d1=max (p.f1+s.set ku) fr+hi
  mi:1≤lo∧lo≤hi∧hi≤30
  fb:0≤fr∧fr≤300
  sb:0≤so∧so≤300
  cb:0≤co∧co≤50
  pb:0≤p.f0∧p.f0≤5000∧0≤p.f1∧p.f1≤5000
  JJ:p.J < 64
  q6:q < 64
  Aq:A=((q &&& (2 ^ 64 - 1 - p.J):Nat):Int)
  b1:A≠0→s.bad w=1
  b2:A=0→bt < w.d1→s.bad w=2
  b0:A=0→¬ bt < w.d1→s.bad w=0
  fi:s.fin w=co * max 0 (w.d1 - so)
  pn:s.aft w=⟨p.J ||| 1 * 2 ^ n,kd,w.d0,w.d1⟩
  n6:n < 6
end Go.Pv
