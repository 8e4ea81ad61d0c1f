/- Parts of the proof: What the rides break is what the words of the chapter say.; A logic of values that are trees, part 40: regions that draw their order, while something of the heap stays.; A logic of values that are trees, part 41: maps that are looked up and written; calls that turn the first blocks of the heap.; A logic of values that are trees, part 42: the way in: arguments that are integers, or structs of integers; a law that returns true.; A logic of values that are trees, part 43: the way in: what was handed in reads as it did. -/
import Derived.Test.YtabejoodkhlnaaaGreatP16
import Derived.Test.YtabejoodkhlnaaaGreatP14
import Derived.WalkKit
import Derived.ProofKit
import Derived.OpenShut
import Derived.Carry
namespace Go.Pv
open Go.Proofs Go.Am
set_option maxRecDepth 10000
set_option linter.unusedVariables false
set_option linter.unusedSimpArgs false
def Sync (L : List Int) (k : Nat) (d : Rid) : Prop :=
  d.a = (hst L 0 k).1 ∧ d.b = (hst L 1 k).1 ∧ d.a + d.b = k ∧
    ((k = 0 ∧ d.r = 0 ∧ d.n = 0) ∨ (1 ≤ k ∧ ∃ w o, ((w = 0 ∧ o = 1) ∨ (w = 1 ∧ o = 0)) ∧ d.r = w ∧ 1 ≤ d.n ∧ 0 < (hst L w k).1 ∧ (hst L w k).2.2 = d.n ∧ (hst L w k).2.1 = (k : Int) - 1 ∧ (hst L o k).2.2 = 0 ∧
      (((hst L o k).1 = 0 ∧ (hst L o k).2.1 = -1) ∨ (0 < (hst L o k).1 ∧ (hst L o k).2.1 = (k : Int) - 1 - d.n ∧ 0 ≤ (k : Int) - 1 - d.n))))
theorem sync_zero (L : List Int) : Sync L 0 zeroRid := by
  refine ⟨rfl, rfl, rfl, .inl ⟨rfl, rfl, rfl⟩⟩
theorem hst_yes {L : List Int} {k : Nat} {w : Int} (h : L.getD k 0 = w) : hst L w (k + 1) = ((hst L w k).1 + 1, (k : Int), (hst L w k).2.2 + 1) := by
  simp only [hst]
  rw [if_pos h]
theorem hst_not {L : List Int} {k : Nat} {w : Int} (h : L.getD k 0 ≠ w) : hst L w (k + 1) = ((hst L w k).1, (hst L w k).2.1, 0) := by
  simp only [hst]
  rw [if_neg h]
theorem sync_step {L : List Int} {k : Nat} {d : Rid} (hs : Sync L k d) {x : Int} (hx : L.getD k 0 = x) (h01 : x = 0 ∨ x = 1) : Sync L (k + 1) (d.then x) := by
  obtain ⟨h1, h2, h3, h4⟩ := hs
  have hb0 := hst_bound L 0 k
  have hb1 := hst_bound L 1 k
  rcases h01 with rfl | rfl
  · have e0 := hst_yes hx
    have e1 : hst L 1 (k + 1) = _ := hst_not (by rw [hx]; decide)
    refine ⟨by rw [e0]; simp [Rid.then, h1], by rw [e1]; simp [Rid.then, h2], by simp [Rid.then]; omega, .inr ⟨by omega, 0, 1, .inl ⟨rfl, rfl⟩, rfl, ?_⟩⟩
    rw [e0, e1]
    rcases h4 with ⟨rfl, h5, h6⟩ | ⟨hk, w, o, hwo, h5, h6, h7, h8, h9, h10, h11⟩
    · simp [Rid.then, h5, h6, hst]
    · rcases hwo with ⟨rfl, rfl⟩ | ⟨rfl, rfl⟩
      · simp only [Rid.then, h5, if_true]
        refine ⟨by omega, by omega, by omega, by omega, trivial, ?_⟩
        rcases h11 with h11 | h11
        · left; omega
        · right; omega
      · simp only [Rid.then, h5, show ¬ (0 : Int) = 1 from by decide, if_false]
        refine ⟨by omega, by omega, by omega, by omega, trivial, ?_⟩
        right; omega
  · have e1 := hst_yes hx
    have e0 : hst L 0 (k + 1) = _ := hst_not (by rw [hx]; decide)
    refine ⟨by rw [e0]; simp [Rid.then, h1], by rw [e1]; simp [Rid.then, h2], by simp [Rid.then]; omega, .inr ⟨by omega, 1, 0, .inr ⟨rfl, rfl⟩, rfl, ?_⟩⟩
    rw [e0, e1]
    rcases h4 with ⟨rfl, h5, h6⟩ | ⟨hk, w, o, hwo, h5, h6, h7, h8, h9, h10, h11⟩
    · simp [Rid.then, h5, h6, hst]
    · rcases hwo with ⟨rfl, rfl⟩ | ⟨rfl, rfl⟩
      · simp only [Rid.then, h5, show ¬ (1 : Int) = 0 from by decide, if_false]
        refine ⟨by omega, by omega, by omega, by omega, trivial, ?_⟩
        right; omega
      · simp only [Rid.then, h5, if_true]
        refine ⟨by omega, by omega, by omega, by omega, trivial, ?_⟩
        rcases h11 with h11 | h11
        · left; omega
        · right; omega
theorem brk_eq {o : Nat} {t r f : Int} {L : List Int} {k : Nat} {d : Rid} (hs : Sync L k d) {x : Int} (h01 : x = 0 ∨ x = 1) :
    (if viol o t r f d x 0 then (1 : Int) else if viol o t r f d x 1 then 2 else if viol o t r f d x 2 then 3 else if viol o t r f d x 3 then 4 else 0) = lawBrk o t r f k (hst L x k) := by
  obtain ⟨h1, h2, h3, h4⟩ := hs
  have htn : (d.a + d.b).toNat = k := by omega
  have hb0 := hst_bound L 0 k
  have hb1 := hst_bound L 1 k
  have hv1 : viol o t r f d x 1 = decide (t < (hst L x k).1 + 1) := by
    simp only [viol, decide_eq_decide]
    rcases h01 with rfl | rfl <;> simp [Rid.then] <;> omega
  have other : ∀ w o' : Int, (w = 0 ∧ o' = 1) ∨ (w = 1 ∧ o' = 0) → x ≠ w → x = o' := by
    intro w o' hwo hne
    rcases h01 with hx | hx <;> rcases hwo with ⟨hw, ho⟩ | ⟨hw, ho⟩ <;> omega
  have hv2 : viol o t r f d x 2 = decide (r < (hst L x k).2.2 + 1) := by
    simp only [viol, decide_eq_decide]
    have hn : (d.then x).n = if x = d.r then d.n + 1 else 1 := rfl
    rcases h4 with ⟨hk0, h5, h6⟩ | ⟨hk, w, o', hwo, h5, h6, h7, h8, h9, h10, h11⟩
    · have hz : (hst L x k).2.2 = 0 := by rw [hk0]; rfl
      by_cases hxr : x = d.r
      · rw [if_pos hxr] at hn; omega
      · rw [if_neg hxr] at hn; omega
    · by_cases hxr : x = d.r
      · rw [if_pos hxr] at hn
        rw [← hxr.trans h5] at h8
        omega
      · rw [if_neg hxr] at hn
        rw [← other w o' hwo (fun e => hxr (e.trans h5.symm))] at h10
        omega
  have hcnt : (if x = 0 then d.a else d.b) = (hst L x k).1 := by
    rcases h01 with hx | hx
    · rw [if_pos hx, hx]; exact h1
    · rw [if_neg (by omega), hx]; exact h2
  have hv3 : viol o t r f d x 3 = decide (0 ≤ (hst L x k).2.1 ∧ (hst L x k).2.1 < (k : Int) - 1 ∧ (k : Int) - 1 - (hst L x k).2.1 < f) := by
    simp only [viol, decide_eq_decide, hcnt]
    rcases h4 with ⟨hk0, h5, h6⟩ | ⟨hk, w, o', hwo, h5, h6, h7, h8, h9, h10, h11⟩
    · have hz : (hst L x k).2.1 = -1 := by rw [hk0]; rfl
      rw [if_neg (by simp; omega)]
      omega
    · by_cases hxr : x = d.r
      · rw [if_neg (by simp [hxr])]
        rw [← hxr.trans h5] at h9
        omega
      · rw [← other w o' hwo (fun e => hxr (e.trans h5.symm))] at h11
        by_cases hc : 0 < (hst L x k).1
        · rw [if_pos (by simp [hxr, hc]; omega)]
          omega
        · rw [if_neg (by simp [hc])]
          omega
  rw [hv1, hv2, hv3]
  simp only [viol, htn, lawBrk, decide_eq_true_eq]
theorem brk_law {R : Rst} {L : List Int} {k : Nat} {d : Rid} (hs : Sync L k d) {x : Int} (hx : L.getD k 0 = x) (h01 : x = 0 ∨ x = 1) : R.brk d x = R.law L k := by
  unfold Rst.law
  rw [hx]
  rcases h01 with rfl | rfl
  · rw [if_pos rfl, ← brk_eq hs (.inl rfl)]
    simp only [Rst.brk, Rst.viol, if_true]
  · rw [if_neg (by decide), ← brk_eq hs (.inr rfl)]
    simp only [Rst.brk, Rst.viol, show ¬ (1 : Int) = 0 from by decide, if_false]
theorem brk_range (R : Rst) (d : Rid) (x : Int) (h : R.brk d x ≠ 0) : 1 ≤ R.brk d x ∧ R.brk d x ≤ 4 := by
  unfold Rst.brk at h ⊢
  split
  · decide
  · split
    · decide
    · split
      · decide
      · split
        · decide
        · simp_all
theorem fault_law {R : Rst} {L : List Int} (h01 : ∀ x ∈ L, x = 0 ∨ x = 1) : ∀ (n k : Nat) (d : Rid), L.length = k + n → Sync L k d →
    (faultV R d (L.drop k) = (0, 0) ∧ ∀ i, k ≤ i → i < L.length → R.law L i = 0) ∨
      ∃ hh : Nat, k ≤ hh ∧ hh < L.length ∧ faultV R d (L.drop k) = ((hh : Int), R.law L hh) ∧ (1 ≤ R.law L hh ∧ R.law L hh ≤ 4) ∧ ∀ i, k ≤ i → i < hh → R.law L i = 0
  | 0, k, d, hn, _ => by
    left
    rw [List.drop_eq_nil_of_le (by omega)]
    exact ⟨rfl, fun i h1 h2 => by omega⟩
  | n + 1, k, d, hn, hs => by
    have hlt : k < L.length := by omega
    have hg : L.getD k 0 = L[k] := by simp [List.getD, hlt]
    have hx := h01 L[k] (List.getElem_mem _)
    have hb : R.brk d L[k] = R.law L k := brk_law hs hg hx
    rw [List.drop_eq_getElem_cons hlt]
    simp only [faultV]
    by_cases h0 : R.brk d L[k] = 0
    · rw [if_pos h0]
      rcases fault_law h01 n (k + 1) (d.then L[k]) (by omega) (sync_step hs hg hx) with ⟨h1, h2⟩ | ⟨hh, h1, h2, h3, h4, h5⟩
      · left
        refine ⟨h1, fun i hi1 hi2 => ?_⟩
        rcases Nat.eq_or_lt_of_le hi1 with rfl | h
        · rw [← hb]; exact h0
        · exact h2 i h hi2
      · right
        refine ⟨hh, by omega, h2, h3, h4, fun i hi1 hi2 => ?_⟩
        rcases Nat.eq_or_lt_of_le hi1 with rfl | h
        · rw [← hb]; exact h0
        · exact h5 i h hi2
    · rw [if_neg h0]
      right
      refine ⟨k, Nat.le_refl _, hlt, ?_, ?_, fun i h1 h2 => by omega⟩
      · rw [hb, hs.2.2.1]
      · rw [← hb]; exact brk_range R d _ h0
theorem byL_01 (n p : Nat) : ∀ x ∈ byL n p, x = 0 ∨ x = 1 := by
  intro x hx
  obtain ⟨i, _, rfl⟩ := List.mem_map.1 hx
  have := and_one_lt (p >>> i)
  omega
theorem f6 (h a0 b0 c0 d0 a1 b1 c1 d1 : Int) (p : Nat) (hp : p < 65536) : Fn P0 6 [.agg [I h, I a0, I b0, I c0, I d0, I a1, I b1, I c1, I d1], .lit (.int .u16 (p : Int))] (B true) := by
  by_cases hv : validR h a0 b0 c0 d0 a1 b1 c1 d1 = true
  · obtain ⟨hok, ⟨e1, e2, e3⟩, h16⟩ := rstOf_ok hv
    have hcells : (rstOf h a0 b0 c0 d0 a1 b1 c1 d1).cells = [I h, I a0, I b0, I c0, I d0, I a1, I b1, I c1, I d1] := by
      show [I (h.toNat : Int), I (a0.toNat : Int), I b0, I c0, I d0, I (a1.toNat : Int), I b1, I c1, I d1] = _
      rw [← e1, ← e2, ← e3]
    rw [← hcells]
    generalize hR : rstOf h a0 b0 c0 d0 a1 b1 c1 d1 = R at *
    have hv' : validR R.m R.o0 R.t0 R.r0 R.f0 R.o1 R.t1 R.r1 R.f1 = true := by
      rw [← hR]
      show validR (h.toNat : Int) (a0.toNat : Int) b0 c0 d0 (a1.toNat : Int) b1 c1 d1 = true
      rw [← e1, ← e2, ← e3]
      exact hv
    have hself : rstOf R.m R.o0 R.t0 R.r0 R.f0 R.o1 R.t1 R.r1 R.f1 = R := by
      simp [rstOf]
    by_cases h0 : R.m = 0
    · exact f6z R hok hv' p hp h0
    · have hlen := byL_length R.m p
      have h01 := byL_01 R.m p
      have hpl : planOk R.m (byL R.m p) = true := planOk_iff.2 ⟨h01, by rw [hlen]⟩
      rcases fault_law (R := R) h01 R.m 0 zeroRid (by omega) (sync_zero _) with ⟨h1, h2⟩ | ⟨hh, h1, h2, h3, h4, h5⟩
      · rw [List.drop_zero] at h1
        refine f6n R hok hv' p hp (byL R.m p) rfl h01 hlen (by omega) ?_ fun i hi => h2 i (Nat.zero_le _) (by omega)
        unfold checkV
        rw [if_pos hv', if_pos hpl, hself, h1]
        rfl
      · rw [List.drop_zero] at h3
        refine f6f R hok hv' p hp (byL R.m p) rfl h01 hlen (by omega) hh (R.law (byL R.m p) hh) (by omega) h4 ?_ (fun i hi => h5 i (Nat.zero_le _) hi) rfl
        unfold checkV
        rw [if_pos hv', if_pos hpl, hself, h3, if_pos (by show 0 < R.law (byL R.m p) hh; omega)]
  · exact f6a _ _ _ _ _ _ _ _ _ p (by simpa using hv)
end Go.Pv
namespace Go.Pv
open Go.Am Go.RowKit
def StabS (A : AP) (E : Eqs) (S : PH → Prop) (t : Nat → Option PV) (o : Oper) : Prop := ∀ h h', S h → S h' → pquiet A E (pev t) h o.op = pquiet A E (pev t) h' o.op
def pdraS (A : AP) (E : Eqs) (P : Program) (M : Nat → Bool) (sz : Nat) (S : PH → Prop) (all : List Oper) : List (Nat × Bool × Bool) → T PV → PH → (T PV → PH → Prop) → (PV → PH → Prop) → Prop
  | [], t, h, K, _ => K t h
  | p :: rest, t, h, K, X => match nthK all p.1 with
    | none => False
    | some o => match dstIn sz o.dst, gst all t o with
      | true, some g => PIf g ((p.2.1 = false → S h ∧ StabS A E S t.get o) ∧ pop A E P M t.get h o (fun v h' => (p.2.2 = true → S h') ∧ pdraS A E P M sz S all rest (tput t o.dst v) h' K X) X) (pdraS A E P M sz S all rest (tput t o.dst (.tup [])) h K X)
      | _, _ => False
section
variable {A : AP} {P : Program} {E : Eqs} {M : Nat → Bool}
end
section
variable {C : Cx} {F : EQ} {X : EX} {k : List KI} {e : EL} {ds : List Nat} {h : PH} {n : Nat} {l : List (Nat × Option PBlk)} {S : PH → Prop}
@[irreducible] def DraS (C : Cx) (F : EQ) (X : EX) (k : List KI) (S : PH → Prop) (all : List Oper) (os : List (Nat × Bool × Bool)) (e : EL) (ds : List Nat) (h : PH) : Prop :=
  ∀ t : T PV, t.get = lget e → pdraS C.A C.E C.P C.M C.sz S all os t h (fun t h => toQ (Ks C F X k) .normal t ds h) (X ds)
variable {all : List Oper} {os : List (Nat × Bool × Bool)}
theorem DraS.nil (hk : Run C F X k e ds h) : DraS C F X k S all [] e ds h := by
  unfold DraS
  exact fun t ht => hk.toQ fun i v hi => by rw [ht]; exact hi
variable {i d : Nat} {b : Bool} {op : Op} {type : TypeId} {pos : String} {after : Array Edge}
theorem StabS.frozen {t : TypeId} {a : Operand} {u : PV} {dd : Option Nat} {guard : Option (Nat × Bool)} (ha : pev (lget e) a = some (.fp u)) : StabS C.A C.E S (lget e) { dst := dd, op := .load t a, type, pos, after, guard } := by
  intro h h' _ _
  simp only [pquiet, ha]
  unfold pload
  rfl
theorem StabS.live {t : TypeId} {a : Operand} {i o : Nat} {b : PBlk} {dd : Option Nat} {guard : Option (Nat × Bool)} (ha : pev (lget e) a = some (.ptr i o)) : StabS C.A C.E (fun h => h.get i = some b) (lget e) { dst := dd, op := .load t a, type, pos, after, guard } := by
  intro h h' h1 h2
  simp only [pquiet, ha]
  unfold pload
  simp only [h1, h2]
end
end Go.Pv
namespace Go.Pv
open Go.Am Go.RowKit
def mptP (A : AP) (t : TypeId) : Option (Nat × PV) :=
  match A.under t with
  | some (.map kt et) => match pzero A et with
    | some z => some (kt, z)
    | none => none
  | _ => none
class Mpt (A : AP) (t : Nat) (kt : outParam Nat) (z : outParam PV) : Prop where
  ok : mptP A t = some (kt, z)
theorem Mpt.get {A : AP} {t kt : Nat} {z : PV} (h : Mpt A t kt z) : ∃ et, A.under t = some (.map kt et) ∧ pzero A et = some z := by
  have := h.ok
  unfold mptP at this
  split at this
  · next k' et hu =>
    split at this
    · next z' hz =>
      simp only [Option.some.injEq, Prod.mk.injEq] at this
      obtain ⟨rfl, rfl⟩ := this
      exact ⟨et, hu, hz⟩
    · cases this
  · cases this
section
variable {C : Cx} {F : EQ} {X : EX} {k : List KI} {e : EL} {ds : List Nat} {h : PH} {n m : Nat} {l l' : HL} {K : PV → PH → Prop}
variable {d : Option Nat} {type : TypeId} {pos : String} {after : Array Edge} {guard : Option (Nat × Bool)}
theorem Ope.look {t kt i : Nat} {z kv : PV} {ka : AV} {x y : Operand} {es : List (AV × PV × Nat)} {clock : Nat} {ok : Bool} {r : Option (Nat × PV)} [hm : Mpt C.A t kt z] (hx : pev (lget e) x = some (.mp i)) (hk : pev (lget e) y = some kv) (hka : PV.toAV kv = some ka)
    (hg : hget l i = some (.map es clock)) (hc : acheck C.A 20 kt ka = true) (hf : pfind C.A C.E kt ka es 0 = some r) (hK : K (pok ok (match r with
      | some p => p.2
      | none => z) r.isSome) (HE n l)) : Ope C X { dst := d, op := .lookup t x y ok, type, pos, after, guard } e ds (HE n l) K := by
  refine Ope.quiet rfl ?_ hK
  obtain ⟨et, h1, h2⟩ := hm.get
  have hes : pentries (HE n l) (.mp i) = some es := by
    unfold pentries
    show (match hget l i with
      | some (.map es _) => some es
      | _ => none) = some es
    rw [hg]
  simp only [pquiet, hx, hk, plookup, h1, hka, hes, hc, hf]
  cases r with
  | none => simp only [h2, Option.isSome_none]
  | some p => rfl
end
end Go.Pv
namespace Go.Pv
open Go.Am Go.RowKit Go.ChangeShapes Go.WideShapes
def St.start (w : World) : St := ⟨fun _ => .no, fun _ => 0, .nil, w⟩
theorem PW.start (w : World) : PW (Base.of w) (St.start w) := by
  refine ⟨rfl, rfl, rfl, Nat.le_refl _, fun _ _ => rfl, fun _ _ => .inl rfl, fun k o hk ho => ?_, fun _ _ => rfl, fun k n i h => (by cases h), fun i b h => (by cases h)⟩
  exact absurd (Array.getElem?_eq_some_iff.1 ho).1 hk
theorem Fn.calls {P : Program} {g : Nat} {args : List PV} {xs : Array Value} (hp : Fn P g args (B true)) (hx : ∀ s : St, RVs s args xs.toList) (w : World) : Calls P g xs w fun e w' => e = .returned (.bool true) ∧ Grown w w' := by
  refine (hp.2 (Base.of w) (St.start w) xs (PW.start w) rfl (hx _)).mono fun e w' he => ?_
  obtain ⟨s', rfl, h2, _, h4⟩ := he
  cases e with
  | returned x =>
    obtain ⟨v, p, _, rfl⟩ := h4
    have := (RV_lit.1 p).2
    simp only [VR] at this
    subst this
    exact ⟨rfl, h2.grown⟩
  | panicked c => obtain ⟨_, _, _, _, _, hf⟩ := h4; exact hf.elim
  | outgrown => exact h4.elim
theorem RV_I (s : St) (n : Int) : RV s (I n) (.int .i64 n) := RV_lit.2 ⟨rfl, by simp only [VR]⟩
theorem RVs_ints (s : St) : ∀ ns : List Int, RVs s (ns.map I) (ns.map (Value.int .i64))
  | [] => RVs_nil.2 rfl
  | n :: ns => RVs_cons.2 ⟨_, _, rfl, RV_I s n, RVs_ints s ns⟩
theorem ints_of : ∀ (l : List Value), (∀ x ∈ l, ∃ n, x = .int .i64 n) → ∃ ns : List Int, l = ns.map (Value.int .i64)
  | [], _ => ⟨[], rfl⟩
  | x :: l, h => by
    obtain ⟨n, rfl⟩ := h x (by simp)
    obtain ⟨ns, rfl⟩ := ints_of l fun y hy => h y (List.mem_cons_of_mem _ hy)
    exact ⟨n :: ns, rfl⟩
theorem okWide_ints {P : Program} {w : World} {r : Reach} {base : Nat} {t : TypeId} {fs : Array Field} {ts : List TypeId} {v : Value} (ht : P.underlying t = some (.struct fs)) (hc : P.cellTypes P.depth t = some ts) (hu : ∀ u ∈ ts, P.underlying u = some (.int .i64))
    (h : Value.okWide P w r base t v) : ∃ ns : List Int, v = .agg (ns.map (Value.int .i64)).toArray ∧ ns.length = P.cellsOf t := by
  unfold Value.okWide at h
  rw [ht] at h
  obtain ⟨cs, rfl, hsz, ts', h1, _, h3⟩ := h
  rw [hc] at h1
  cases h1
  obtain ⟨ns, hns⟩ := ints_of cs.toList fun x hx => by
    obtain ⟨i, hi, rfl⟩ := List.getElem_of_mem hx
    obtain ⟨u, hu1, hu2⟩ := h3 i cs.toList[i] (by simp at hi; simp [hi])
    have := hu u (List.mem_of_getElem? hu1)
    unfold Cell.okWide at hu2
    rw [this] at hu2
    simp only [Cell.ok, this] at hu2
    revert hu2
    generalize cs.toList[i] = x
    intro hu2
    cases x <;> first | exact ⟨_, rfl⟩ | exact hu2.elim | skip
    obtain ⟨rfl, _⟩ := hu2
    exact ⟨_, rfl⟩
  refine ⟨ns, ?_, ?_⟩
  · rw [← hns]
  · rw [← hsz, ← Array.length_toList, hns, List.length_map]
theorem okWide_has {P : Program} {w : World} {r : Reach} {base : Nat} {t : TypeId} {k : IntKind} {v : Value} (ht : P.underlying t = some (.int k)) (h : Value.okWide P w r base t v) : ∃ n, v = .int k n ∧ k.min ≤ n ∧ n ≤ k.max := by
  unfold Value.okWide at h
  rw [ht] at h
  simp only [Cell.okWide, ht, Cell.ok] at h
  cases v <;> first | exact h.elim | skip
  obtain ⟨rfl, h1, h2⟩ := h
  exact ⟨_, rfl, h1, h2⟩
end Go.Pv
namespace Go.Pv
open Go.Am Go.RowKit Go.ChangeShapes Go.WideShapes
theorem Fn.calls2 {P : Program} {g : Nat} {args : List PV} {xs : Array Value} (hp : Fn P g args (B true)) (hx : ∀ s : St, RVs s args xs.toList) (w : World) : Calls P g xs w fun e w' => e = .returned (.bool true) ∧ Below w.heap.size w w' ∧ Grown w w' := by
  refine (hp.2 (Base.of w) (St.start w) xs (PW.start w) rfl (hx _)).mono fun e w' he => ?_
  obtain ⟨s', rfl, h2, _, h4⟩ := he
  cases e with
  | returned x =>
    obtain ⟨v, p, _, rfl⟩ := h4
    have := (RV_lit.1 p).2
    simp only [VR] at this
    subst this
    exact ⟨rfl, ⟨h2.os, h2.tape, h2.output, h2.size, h2.old⟩, h2.grown⟩
  | panicked c => obtain ⟨_, _, _, _, _, hf⟩ := h4; exact hf.elim
  | outgrown => exact h4.elim
theorem trodAll_stays {H : Type} {enc : TypeId × Value → H} {P : Program} (hl : laidOutB P = true) {W W' : World} (hb : Below W.heap.size W W') {sp : Nat → Bool} :
    ∀ {ts : List TypeId} {vs : List Value} {ds : List (DataW H)} {ps : List MemPlace}, ts.all (fun t => P.readableRec t && decide (t < P.types.size)) = true → DataW.TrodAll enc P W 0 (fun _ => true) true ts vs ds ps →
      (∀ x ∈ ps, x.block < W.heap.size) → (∀ x ∈ ps, sp x.block = true) → DataW.TrodAll enc P W' 0 sp true ts vs ds ps
  | [], vs, ds, ps, _, h, _, _ => by
    obtain ⟨rfl, rfl, rfl⟩ := trodAll_nil h
    exact trodAll_mk0
  | t :: ts, vs, ds, ps, hr, h, hlt, hs => by
    obtain ⟨v, vs', d, ds', p, q, rfl, rfl, rfl, h1, h2⟩ := trodAll_cons h
    simp only [List.all_cons, Bool.and_eq_true, decide_eq_true_eq] at hr
    refine trodAll_cons_mk (WideElems.Trod_stays hl hr.1.1 hr.1.2 h1 (fun x hx => hb.same (hlt x (List.mem_append_left _ hx))) fun x hx => hs x (List.mem_append_left _ hx)) ?_
    exact trodAll_stays hl hb (by simpa using hr.2) h2 (fun x hx => hlt x (List.mem_append_right _ hx)) fun x hx => hs x (List.mem_append_right _ hx)
end Go.Pv
