/- Parts of the proof: R122, R123, R99, R101, R108, R102 -/
import Derived.Test.YtejnfigkngkhjaaP24
import Derived.Test.YtejnfigkngkhjaaP22
set_option linter.unusedVariables false
set_option linter.unusedSimpArgs false
set_option linter.unusedSectionVars false
namespace Go.Pv
open Go.Proofs Go.Am
set_option maxRecDepth 10000
set_option maxHeartbeats 4000000
section
variable {C:Cx} {X:EX} {e:EL} {ds:List Nat} {K:PV→PH→Prop} {h:PH}
variable {d:Option Tmp} {type:TypeId} {pos:String} {after:Array Edge} {guard:Option (Nat×Bool)}
theorem Ope.eqR {t t':TypeId} {x y:Operand} {kk:IntKind} {a:Int} (hx:pev (lget e) x=some (.lit (.int kk a))) (hy:pev (lget e) y=some (.lit (.int kk a))) (hK:K (B true) h) :
    Ope C X { dst:=d,op:=.binOp .eql t x y t',type,pos,after,guard } e ds h K :=
  Ope.eq hx hy (by rw [decide_eq_true rfl];exact hK)
end
section
variable {rest:Int} {tl:Tail} (htl:tl.isOwn=false) {S:List Sti}
end
end Go.Pv
namespace Go.Pv
open Go.Proofs Go.Am
set_option maxRecDepth 10000
set_option maxHeartbeats 4000000
section
variable {rest:Int} {tl:Tail} (htl:tl.isOwn=false) {S:List Sti}
end
end Go.Pv
namespace Go.Pv
open Go.Proofs Go.Am
set_option maxRecDepth 10000
theorem f12l (rest:Int) (tl:Tail) (S:List Sti) (hl:40 < S.length) (n:Nat):Fn P0 12 [relV rest tl S,I n] (B true):=by
  refine PFun.of (C:=c12) (cx_ok _ _ _) rfl (fn:=Try.f12) (by kernel_rfl) (c:=_) rfl rfl rfl ?_
  refine Run.seq (Run.region (cx_ok _ _ _) (Reg.op rfl (Ope.boxF rfl rfl ?_)))
  refine Reg.op rfl (Ope.asg rfl ?_)
  refine Reg.nil (Run.seq (Run.region (cx_ok _ _ _) (Reg.op rfl (Ope.fld rfl rfl ?_))))
  refine Reg.op rfl (Ope.load rfl rfl ?_)
  refine Reg.op rfl (Ope.len (m:=S.length) rfl (by simp) ?_)
  refine Reg.op rfl (Ope.gt rfl rfl ?_)
  refine Reg.op rfl (Ope.mov rfl ?_)
  refine Reg.splitX rfl rfl (fun hg=>?_) fun hg=>?_
  ·refine Reg.off rfl rfl rfl (Reg.off rfl rfl rfl (Reg.off rfl rfl rfl (Reg.off rfl rfl rfl (Reg.off rfl rfl rfl (Reg.off rfl rfl rfl (Reg.past rfl rfl rfl (Reg.past rfl rfl rfl (Reg.off rfl rfl rfl (Reg.op rfl (Ope.pickT rfl rfl ?_))))))))))
   refine Reg.op rfl (Ope.asg rfl ?_)
   exact Reg.nil (Run.ret (fin_ret (.tmp rfl .nil) rfl rfl))
  ·(first | (exfalso;omega))
end Go.Pv
namespace Go.Pv
open Go.Proofs Go.Am
set_option maxRecDepth 10000
def atF (o:Nat):Nat:=if o=1 then 16 else 14
structure EndH (rest:Int) (tl:Tail) (S:List Sti) (en:Nat) (sl sh cl ch e g:Int):Prop where
  at':Fn P0 (atF (en / 2 % 2)) [relV rest tl S,I ((en / 4:Nat):Int)] (.tup [.agg [I sl,I sh],I e])
  ln:Fn P0 18 [relV rest tl S,I ((en / 4:Nat):Int)] (.tup [.agg [I cl,I ch],I e])
  clF:∃ c,Fn P0 26 [relV rest tl S] (.tup [I c,I g])
  isF:(e=10∧g=0∧sl=0∧sh=0∧cl=0∧ch=0)∨(e=0∧g=4∧0≤sl∧sl≤sh∧sh≤600∧1≤cl∧cl≤ch∧ch≤600)
  ex:e=0→∀ n,0≤n→n≤600→∃ t u h,Fn P0 (atF (en / 2 % 2)) [relV rest .no (entS S en n n),I ((en / 4:Nat):Int)] (.tup [.agg [I t,I u],I h]) ∧
    ((h=0∧t=n∧u=n)∨(h=10∧¬ (sl≤n∧n≤sh)))∧(h=0→(wrt S en).1≤n→n≤(wrt S en).2→sl≤n∧n≤sh)
  onf : e = 0 → ∃ al ah bl bh, Fn P0 14 [relV rest tl S, I ((en / 4 : Nat) : Int)] (.tup [.agg [I al, I ah], I 0]) ∧ Fn P0 16 [relV rest tl S, I ((en / 4 : Nat) : Int)] (.tup [.agg [I bl, I bh], I 0]) ∧
    (bl - ah≤cl∧ch≤bh - al∧(0≤al∧al≤ah∧ah≤600)∧0≤bl∧bl≤bh∧bh≤600)∧∀ n,n=al∨n=ah→∃ ul uh,Fn P0 16 [relV rest .no (entS S (4 * (en / 4)) n n),I ((en / 4:Nat):Int)] (.tup [.agg [I ul,I uh],I 0]) ∧
      Fn P0 18 [relV rest .no (entS S (4 * (en / 4)) n n),I ((en / 4:Nat):Int)] (.tup [.agg [I (ul - n),I (uh - n)],I 0])∧cl≤ul - n∧uh - n≤ch∧(0≤ul∧ul≤600)∧0≤uh∧uh≤600
section
variable {rest:Int} {tl:Tail} (htl:tl.isOwn=false) {S:List Sti} (hS:S.length≤1000000) (hr:relOk rest S=true)
include hr in
end
end Go.Pv
namespace Go.Pv
open Go.Proofs Go.Am
set_option maxRecDepth 10000
theorem cnt_succ (x:Nat):∀ d,cnt (d+1) x=x % 2+cnt d (x / 2)
  | 0 => by
    simp only [cnt,Nat.zero_add,Nat.add_zero]
    rw [Nat.testBit_zero]
    rcases Nat.mod_two_eq_zero_or_one x with h | h<;>simp [h]
  | d + 1 => by
    have ih:=cnt_succ x d
    have e:x.testBit (d+1)=(x / 2).testBit d:=by rw [Nat.testBit_succ]
    rw [cnt,ih,cnt,e]
    omega
theorem siz_cnt:∀ (d x:Nat),siz d x=cnt d x
  | 0,_=>rfl
  | d+1,x=>by rw [siz,siz_cnt d (x / 2),cnt_succ]
theorem cnt_more {Y n:Nat} (h:∀ q,n≤q→Y.testBit q=false):∀ d,cnt (n+d) Y=cnt n Y
  | 0=>rfl
  | d + 1 => by
    show cnt (n+d+1) Y=_
    rw [cnt,cnt_more h d,h (n+d) (by omega)]
    rfl
theorem cnt_or (X Y:Nat):∀ n,cnt n (X ||| Y)≤cnt n X+cnt n Y
  | 0=>Nat.le_refl _
  | n + 1 => by
    have:=cnt_or X Y n
    simp only [cnt,Nat.testBit_or]
    cases X.testBit n<;>cases Y.testBit n<;>simp<;>omega
theorem cnt_pow (a:Nat):∀ n,cnt n (1 * 2 ^ a)≤1∧(n≤a→cnt n (1 * 2 ^ a)=0)
  | 0=>⟨Nat.zero_le _,fun _=>rfl⟩
  | n + 1 => by
    obtain ⟨h1,h2⟩:=cnt_pow a n
    simp only [cnt]
    rw [Nat.one_mul,Nat.testBit_two_pow] at *
    by_cases h:a=n
    · subst h
      have:=h2 (Nat.le_refl _)
      simp only [decide_true,if_true]
      exact ⟨by omega,fun h=>by omega⟩
    · rw [decide_eq_false h, if_neg (by decide)]
      exact ⟨h1,fun h3=>h2 (by omega)⟩
theorem bit_del {s i q:Nat} (hs:s < 2 ^ 62) (hi:i < 60):(s &&& (2 ^ 64 - 1 - 1 * 2 ^ i)).testBit q=(s.testBit q && !decide (i=q)):=by
  have hp:1 * 2 ^ i < 2 ^ 64:=by rw [Nat.one_mul];exact Nat.pow_lt_pow_right (by decide) (by omega)
  rw [Nat.testBit_and,show 2 ^ 64 - 1 - 1 * 2 ^ i=2 ^ 64 - (1 * 2 ^ i+1) from by omega,Nat.testBit_two_pow_sub_succ hp,Nat.one_mul,Nat.testBit_two_pow]
  by_cases hq:q < 64
  · rw [decide_eq_true hq,Bool.true_and]
  · rw [Nat.testBit_lt_two_pow (Nat.lt_of_lt_of_le hs (Nat.pow_le_pow_right (by decide) (by omega)))]
    rfl
theorem cnt_del {s i : Nat} (hs : s < 2 ^ 62) (hi : i < 60) (hb : s.testBit i = true) : ∀ n, i < n → cnt n (s &&& (2 ^ 64 - 1 - 1 * 2 ^ i)) + 1 = cnt n s
  | 0,h=>absurd h (Nat.not_lt_zero _)
  | n + 1, h => by
    simp only [cnt,bit_del hs hi]
    by_cases hin:i=n
    · subst hin
      have hsame:∀ m,m≤i→cnt m (s &&& (2 ^ 64 - 1 - 1 * 2 ^ i))=cnt m s:=fun m=>by
        induction m with
        | zero=>intro _;rfl
        | succ m ih =>
          intro hm
          rw [cnt,cnt,ih (by omega),bit_del hs hi,decide_eq_false (by omega)]
          simp
      rw [hsame i (Nat.le_refl _),hb]
      simp
    · have := cnt_del hs hi hb n (by omega)
      rw [decide_eq_false hin,Bool.not_false,Bool.and_true]
      omega
section
variable {rest:Int} {tl:Tail} (htl:tl.isOwn=false) {S:List Sti} (hS:S.length≤1000000)
def clB (S:List Sti) (rest:Int) (set:Nat):Bool:=!okT (tabS S rest set)
theorem n4_lt (h:S.length≤5):2 ^ (4 * S.length)≤2 ^ 20:=Nat.pow_le_pow_right (by decide) (by omega)
end
end Go.Pv
namespace Go.Pv
open Go.Proofs Go.Am
set_option maxRecDepth 10000
structure Hide (p:Prop):Prop where
  get:p
end Go.Pv
