/- Parts of the proof: Contracts: Check, as a function.; Contracts: what the statement itself computes.; What the run of the examples needs: types that may be compared, functions that are run step by step.; Calls of the examples are run, each once.; The examples are run, by the table of calls.; The statement on checks of plans, as a function. -/
import Derived.Test.YtabejoodkhlnaaaGreatP15
import Derived.Test.YtabejoodkhlnaaaGreatP13
import Derived.Test.YtabejoodkhlnaaaGreatChecked
import Derived.Test.YtabejoodkhlnaaaGreatP14
namespace Go.Pv
open Go.Proofs Go.Am
set_option maxRecDepth 10000
set_option linter.unusedVariables false
set_option linter.unusedSimpArgs false
theorem f16 (h a0 b0 c0 d0 a1 b1 c1 d1 : Int) (tl : Tail) (htl : tl.isOwn = false) (xs : List Int) (a b e : Int)
    (H : Fn P0 52 [.fn (.func 53) [] [.fp (.agg [I h, I a0, I b0, I c0, I d0, I a1, I b1, I c1, I d1]), .fp (.sl tl (xs.map I))]] (.tup [.agg [I a, I b], I e])) :
    Fn P0 16 [.agg [I h, I a0, I b0, I c0, I d0, I a1, I b1, I c1, I d1], .sl tl (xs.map I)] (.tup [I a, I b, I e]) := by
  refine PFun.of (C := c16) (cx_ok _ _ _) rfl (fn := Tryz.f16) (by kernel_rfl) (c := _) rfl rfl rfl ?_
  refine Run.seq (Run.region (cx_ok _ _ _) (Reg.op rfl (Ope.boxF rfl rfl ?_)))
  refine Reg.op rfl (Ope.boxF rfl rfl ?_)
  refine Reg.op rfl (Ope.asg rfl ?_)
  refine Reg.op rfl (Ope.asg rfl ?_)
  refine Reg.op rfl (Ope.asg rfl ?_)
  refine Reg.nil (Run.seq (Run.region (cx_ok _ _ _) (Reg.op rfl (Ope.mkf rfl rfl ?_))))
  refine Reg.op rfl (Ope.cf rfl rfl H (by simp only [List.nil_append, List.append_nil, PV.bds, PV.bd, bd_sl (f := I) htl (fun _ => rfl) xs, Bool.and_true]) ?_)
  refine Reg.op rfl (Ope.mov rfl ?_)
  refine Reg.op rfl (Ope.ext rfl rfl ?_)
  refine Reg.op rfl (Ope.ext rfl rfl ?_)
  refine Reg.op rfl (Ope.newL rfl ?_)
  refine Reg.op0 (Ope.store rfl rfl rfl rfl rfl rfl ?_)
  refine Reg.op rfl (Ope.asg rfl ?_)
  refine Reg.nil (Run.seq (Run.draw (cx_ok _ _ _) [(0, true), (1, true), (2, true), (3, true), (4, true), (5, true), (6, true), (7, true)] (by kernel_rfl) (Dra.op' rfl rfl rfl .sure (Ope.fld rfl rfl ?_))))
  refine Dra.op' rfl rfl rfl .sure (Ope.load rfl rfl ?_)
  refine Dra.op' rfl rfl rfl .sure (Ope.fld rfl rfl ?_)
  refine Dra.op' rfl rfl rfl .sure (Ope.load rfl rfl ?_)
  refine Dra.op' rfl rfl rfl .sure (Ope.mov rfl ?_)
  refine Dra.op' rfl rfl rfl .sure (Ope.asg rfl ?_)
  refine Dra.op' rfl rfl rfl .sure (Ope.asg rfl ?_)
  refine Dra.op' rfl rfl rfl .sure (Ope.asg rfl ?_)
  refine Dra.nil (Run.ret (fin_ret (.tmp rfl (.tmp rfl (.tmp rfl .nil))) rfl ?_))
  rfl
def rstOf (h a0 b0 c0 d0 a1 b1 c1 d1 : Int) : Rst := ⟨h.toNat, a0.toNat, b0, c0, d0, a1.toNat, b1, c1, d1⟩
theorem rstOf_ok {h a0 b0 c0 d0 a1 b1 c1 d1 : Int} (hv : validR h a0 b0 c0 d0 a1 b1 c1 d1 = true) : (rstOf h a0 b0 c0 d0 a1 b1 c1 d1).ok ∧ (h = (h.toNat : Int) ∧ a0 = (a0.toNat : Int) ∧ a1 = (a1.toNat : Int)) ∧ h.toNat ≤ 16 := by
  simp only [validR, limOk, manyOk, Bool.and_eq_true, decide_eq_true_eq] at hv
  obtain ⟨⟨h1, h2⟩, ⟨⟨p1, p2⟩, ⟨p3, p4⟩, ⟨p5, p6⟩, p7, p8⟩, ⟨q1, q2⟩, ⟨q3, q4⟩, ⟨q5, q6⟩, q7, q8⟩ := hv
  have hp : 2 ^ h.toNat ≤ 65536 := pow16 (by omega)
  have hp2 : ((2 ^ h.toNat : Nat) : Int) ≤ 65536 := Int.ofNat_le.2 hp
  refine ⟨⟨by show h.toNat ≤ 16; omega, by show a0.toNat < 2 ^ 62; omega, by show a1.toNat < 2 ^ 62; omega, ⟨p3, p4⟩, ⟨p5, p6⟩, ⟨p7, p8⟩, ⟨q3, q4⟩, ⟨q5, q6⟩, q7, q8⟩, by omega, by omega⟩
def checkV (h a0 b0 c0 d0 a1 b1 c1 d1 : Int) (xs : List Int) : Int × Int × Int :=
  if validR h a0 b0 c0 d0 a1 b1 c1 d1 = true then
    if planOk h xs = true then
      if 0 < (faultV (rstOf h a0 b0 c0 d0 a1 b1 c1 d1) zeroRid xs).2 then ((faultV (rstOf h a0 b0 c0 d0 a1 b1 c1 d1) zeroRid xs).1, (faultV (rstOf h a0 b0 c0 d0 a1 b1 c1 d1) zeroRid xs).2, 0)
      else (0, 0, 4)
    else (0, 0, 2)
  else (0, 0, 1)
theorem planOk_iff {h : Int} {xs : List Int} : planOk h xs = true ↔ (∀ x ∈ xs, x = 0 ∨ x = 1) ∧ (xs.length : Int) = h := by
  simp [planOk]
theorem check (h a0 b0 c0 d0 a1 b1 c1 d1 : Int) (tl : Tail) (htl : tl.isOwn = false) (xs : List Int) (hl : xs.length ≤ 1000000) :
    Fn P0 16 [.agg [I h, I a0, I b0, I c0, I d0, I a1, I b1, I c1, I d1], .sl tl (xs.map I)] (.tup [I (checkV h a0 b0 c0 d0 a1 b1 c1 d1 xs).1, I (checkV h a0 b0 c0 d0 a1 b1 c1 d1 xs).2.1, I (checkV h a0 b0 c0 d0 a1 b1 c1 d1 xs).2.2]) := by
  have hb : PV.bds 0 [.fp (.agg [I h, I a0, I b0, I c0, I d0, I a1, I b1, I c1, I d1]), .fp (.sl tl (xs.map I))] = true := by
    simp only [PV.bds, PV.bd, bd_sl (f := I) htl (fun _ => rfl) xs, Bool.and_true]
  refine f16 _ _ _ _ _ _ _ _ _ tl htl xs _ _ _ ?_
  unfold checkV
  by_cases hv : validR h a0 b0 c0 d0 a1 b1 c1 d1 = true
  · rw [if_pos hv]
    obtain ⟨hok, ⟨e1, e2, e3⟩, h16⟩ := rstOf_ok hv
    by_cases hp : planOk h xs = true
    · rw [if_pos hp]
      obtain ⟨hx, hlen⟩ := planOk_iff.1 hp
      have hv' : validR (rstOf h a0 b0 c0 d0 a1 b1 c1 d1).m (rstOf h a0 b0 c0 d0 a1 b1 c1 d1).o0 b0 c0 d0 (rstOf h a0 b0 c0 d0 a1 b1 c1 d1).o1 b1 c1 d1 = true := by
        show validR (h.toNat : Int) (a0.toNat : Int) b0 c0 d0 (a1.toNat : Int) b1 c1 d1 = true
        rw [← e1, ← e2, ← e3]
        exact hv
      have hp' : planOk (rstOf h a0 b0 c0 d0 a1 b1 c1 d1).m xs = true := by
        show planOk (h.toNat : Int) xs = true
        rw [← e1]
        exact hp
      have hcells : (rstOf h a0 b0 c0 d0 a1 b1 c1 d1).cells = [I h, I a0, I b0, I c0, I d0, I a1, I b1, I c1, I d1] := by
        show [I (h.toNat : Int), I (a0.toNat : Int), I b0, I c0, I d0, I (a1.toNat : Int), I b1, I c1, I d1] = _
        rw [← e1, ← e2, ← e3]
      by_cases hf : 0 < (faultV (rstOf h a0 b0 c0 d0 a1 b1 c1 d1) zeroRid xs).2
      · rw [if_pos hf]
        have := f53c _ hok tl htl xs hx (by omega) hv' hp' hf
        rw [hcells] at this
        exact f52ok this hb
      · rw [if_neg hf]
        have := f53d _ hok tl htl xs hx (by omega) hv' hp' hf
        rw [hcells] at this
        exact f52er this hb
    · rw [if_neg hp]
      exact f52er (f53b _ _ _ _ _ _ _ _ _ tl htl xs hl hv (by simpa using hp)) hb
  · rw [if_neg hv]
    exact f52er (f53a _ _ _ _ _ _ _ _ _ tl htl xs (by simpa using hv)) hb
end Go.Pv
namespace Go.Pv
open Go.Proofs Go.Am
set_option maxRecDepth 10000
set_option linter.unusedVariables false
set_option linter.unusedSimpArgs false
def byL (n p : Nat) : List Int := (List.range n).map fun i => ((p >>> i &&& 1 : Nat) : Int)
theorem flat_I (xs : List Int) : flat (xs.map I) = xs.map I := by
  induction xs with
  | nil => rfl
  | cons x xs ih => simp only [List.map_cons, flat, ih]; rfl
theorem set_fill (L : List PV) (z : PV) {i n : Nat} (hn : L.length = n) (h : i < n) {v : PV} (hv : L[i]? = some v) : (L.take i ++ List.replicate (n - i) z).set i v = L.take (i + 1) ++ List.replicate (n - (i + 1)) z := by
  subst hn
  have hv' : L[i] = v := by
    rw [List.getElem?_eq_getElem h] at hv
    exact Option.some.inj hv
  have e1 : (L.take i).length = i := by rw [List.length_take]; omega
  rw [List.set_append_right _ _ (by omega), e1, Nat.sub_self, show L.length - i = (L.length - (i + 1)) + 1 from by omega, List.replicate_succ, List.set_cons_zero, List.take_succ_eq_append_getElem h, hv']
  simp
theorem byL_length (n p : Nat) : (byL n p).length = n := by simp [byL]
theorem byL_get {n p i : Nat} (h : i < n) : ((byL n p).map I)[i]? = some (I ((p >>> i &&& 1 : Nat) : Int)) := by
  simp [byL, h]
theorem f34 (n p : Nat) (hn : n ≤ 16) (hp : p < 65536) : Fn P0 34 [I n, .lit (.int .u16 (p : Int))] (.sl .no ((byL n p).map I)) := by
  refine PFun.of (C := c34) (cx_ok _ _ _) rfl (fn := Tryz.f34) (by kernel_rfl) (c := _) rfl rfl rfl ?_
  refine Run.seq (Run.region (cx_ok _ _ _) (Reg.op rfl (Ope.asg rfl ?_)))
  refine Reg.nil (Run.seq (Run.region (cx_ok _ _ _) (Reg.op rfl (Ope.mov rfl ?_))))
  refine Reg.op rfl (Ope.mks (m := n) (c := n) rfl rfl rfl rfl (Nat.le_refl _) (by omega) (by omega) (fun ez => ?_))
  refine Reg.op rfl (Ope.asg rfl ?_)
  refine Reg.nil (Run.seq (Run.seq (Run.region (cx_ok _ _ _) (Reg.op rfl (Ope.mov rfl ?_)))))
  first | refine Reg.op rfl (Ope.len rfl (List.length_map _) ?_) | refine Reg.op rfl (Ope.len rfl rfl ?_) | refine Reg.op rfl (Ope.lenL rfl ?_)
  refine Reg.op rfl (Ope.mov rfl ?_)
  refine Reg.nil (Run.block (Run.loop (α := Nat) (fun i => [(1, .lit (.int .u16 (p : Int))), (5, .ms 0 0 n n ez), (10, I n), (11, I i)]) (fun i => HE 1 [(0, some (.cells (((byL n p).map I).take i ++ List.replicate (n - i) (I 0))))]) (fun i => i ≤ n) (fun i => n - i) 0 ⟨rfl, rfl, rfl, rfl, trivial⟩ (by simp) (Nat.zero_le _) (fun i hi => ?_)))
  refine Run.seq (Run.region (cx_ok _ _ _) (Reg.op rfl (Ope.lt rfl rfl ?_)))
  refine Reg.nil (Run.seq (Run.condX rfl (fun hc => ?_) fun hc => ?_))
  ·refine Run.skip (Run.seq (Run.block (Run.seq (Run.region (cx_ok _ _ _) (Reg.op rfl (Ope.mov rfl ?_))))))
   refine Reg.op rfl (Ope.asg rfl ?_)
   refine Reg.nil ?_
   have hsh : p >>> i < 65536 := Nat.lt_of_le_of_lt (Nat.shiftRight_le _ _) hp
   have hand := and_one_lt (p >>> i)
   refine Run.region (cx_ok _ _ _) (Reg.op rfl (Ope.mov rfl ?_))
   refine Reg.op rfl (Ope.mov rfl ?_)
   refine Reg.op rfl (Ope.mov rfl ?_)
   refine Reg.op rfl (Ope.mov rfl ?_)
   refine Reg.op rfl (Ope.shrN (p := p) (m := i) rfl rfl rfl rfl (by show i ≤ 16; omega) ?_)
   refine Reg.op rfl (Ope.andN (p := p >>> i) (q := 1) rfl rfl rfl rfl (by show _ < 2 ^ 16; omega) (by decide) ?_)
   refine Reg.op rfl (Ope.convN (p := p >>> i &&& 1) rfl rfl (by show _ < 2 ^ 63; omega) ?_)
   refine Reg.op rfl (Ope.idxL rfl rfl rfl (by omega) ?_)
   refine Reg.op0 (Ope.storeL rfl rfl rfl rfl rfl (by simp [byL]; omega) ?_)
   refine Reg.nil (Run.bend (Run.wideS (m := 1) (l' := [(0, some (.cells (((byL n p).map I).take (i + 1) ++ List.replicate (n - (i + 1)) (I 0))))]) (Nat.le_refl _) ?_ ?_))
   · have hz : 0 + i * 1 = i := by omega
     rw [hz, set_fill ((byL n p).map I) (I 0) (by simp [byL]) (by omega) (byL_get (by omega))]
     exact hs_shadow
   refine Run.region (cx_ok _ _ _) (Reg.op rfl (Ope.add rfl rfl (by omega) ?_))
   refine Reg.op rfl (Ope.mov rfl ?_)
   refine Reg.nil (Run.lend ⟨i + 1, by omega, by omega, ⟨rfl, rfl, rfl, rfl, trivial⟩, rfl, rfl⟩)
  ·refine Run.exit (Jmp.code (Jmp.round (Jmp.here (Run.seq ?_))))
   have hin : i = n := by omega
   have hcs : ((byL n p).map I).take i ++ List.replicate (n - i) (I 0) = flat ((byL n p).map I) ++ [] := by
     rw [flat_I, List.take_of_length_le (by simp [byL]; omega), hin, Nat.sub_self]
     rfl
   refine Run.frzS (d := 5) (vs := (byL n p).map I) (post := []) (sz := 1) rfl (congrArg (fun q => some (PBlk.cells q)) hcs) (by simp [byL]) (Nat.le_refl _) (by simp [PV.nc]) ?_
   refine Run.region (cx_ok _ _ _) (Reg.op rfl (Ope.mov rfl ?_))
   refine Reg.op rfl (Ope.asg rfl ?_)
   refine Reg.nil (Run.ret (fin_ret (.tmp rfl .nil) (bd_sl (f := I) rfl (fun _ => rfl) _) ?_))
   rfl
def hst (xs : List Int) (who : Int) : Nat → Int × Int × Int
  | 0 => (0, -1, 0)
  | k + 1 => if xs.getD k 0 = who then ((hst xs who k).1 + 1, (k : Int), (hst xs who k).2.2 + 1) else ((hst xs who k).1, (hst xs who k).2.1, 0)
theorem hst_bound (xs : List Int) (who : Int) : ∀ k : Nat, (0 ≤ (hst xs who k).1 ∧ (hst xs who k).1 ≤ k) ∧ (-1 ≤ (hst xs who k).2.1 ∧ (hst xs who k).2.1 < k) ∧ (0 ≤ (hst xs who k).2.2 ∧ (hst xs who k).2.2 ≤ k)
  | 0 => by simp [hst]
  | k + 1 => by
    obtain ⟨⟨h1, h2⟩, ⟨h3, h4⟩, h5, h6⟩ := hst_bound xs who k
    simp only [hst]
    split
    · refine ⟨⟨?_, ?_⟩, ⟨?_, ?_⟩, ?_, ?_⟩ <;> simp only <;> omega
    · refine ⟨⟨?_, ?_⟩, ⟨?_, ?_⟩, ?_, ?_⟩ <;> simp only <;> omega
def lawBrk (o : Nat) (t r f : Int) (h : Nat) (s : Int × Int × Int) : Int :=
  if ((o >>> h &&& 1 : Nat) : Int) = 1 then 1
  else if t < s.1 + 1 then 2
  else if r < s.2.2 + 1 then 3
  else if 0 ≤ s.2.1 ∧ s.2.1 < (h : Int) - 1 ∧ (h : Int) - 1 - s.2.1 < f then 4
  else 0
def Rst.law (R : Rst) (xs : List Int) (h : Nat) : Int :=
  if xs.getD h 0 = 0 then lawBrk R.o0 R.t0 R.r0 R.f0 h (hst xs 0 h) else lawBrk R.o1 R.t1 R.r1 R.f1 h (hst xs 1 h)
theorem f35 (R : Rst) (hR : R.ok) (tl : Tail) (xs : List Int) (hx : ∀ x ∈ xs, x = 0 ∨ x = 1) (hl : xs.length ≤ 16) (h : Nat) (hh : h < xs.length) : Fn P0 35 [.agg R.cells, .sl tl (xs.map I), I h] (I (R.law xs h)) := by
  obtain ⟨hm16, ho0, ho1, ⟨ht0, ht0'⟩, ⟨hr0, hr0'⟩, ⟨hf0, hf0'⟩, ⟨ht1, ht1'⟩, ⟨hr1, hr1'⟩, ⟨hf1, hf1'⟩⟩ := hR
  have hgd : xs.getD h 0 = xs[h] := by simp [List.getD, hh]
  have hob0 : R.o0 >>> h < 2 ^ 62 := Nat.lt_of_le_of_lt (Nat.shiftRight_le _ _) ho0
  have hob1 : R.o1 >>> h < 2 ^ 62 := Nat.lt_of_le_of_lt (Nat.shiftRight_le _ _) ho1
  rcases hx xs[h] (List.getElem_mem _) with hw | hw
  · have hbd := hst_bound xs 0
    refine PFun.of (C := c35) (cx_ok _ _ _) rfl (fn := Tryz.f35) (by kernel_rfl) (c := _) rfl rfl rfl ?_
    refine Run.seq (Run.region (cx_ok _ _ _) (Reg.op rfl (Ope.boxF rfl rfl ?_)))
    refine Reg.op rfl (Ope.asg rfl ?_)
    refine Reg.nil (Run.seq (Run.region (cx_ok _ _ _) (Reg.op rfl (Ope.mov rfl ?_))))
    refine Reg.op rfl (Ope.mov rfl ?_)
    first | refine Reg.op rfl (Ope.idxM rfl rfl rfl (by first | assumption | omega) (fun _ => rfl) ?_) | refine Reg.op rfl (Ope.idxL rfl rfl rfl (by first | assumption | omega) ?_)
    refine Reg.op rfl (Ope.load rfl rfl ?_)
    refine Reg.op rfl (Ope.asg rfl ?_)
    refine Reg.nil (Run.seq (Run.region (cx_ok _ _ _) (Reg.op rfl (Ope.mov rfl ?_))))
    refine Reg.op rfl (Ope.fld rfl rfl ?_)
    refine Reg.op rfl (Ope.idxA (m := 0) rfl rfl (by show natK xs[h] = _; rw [hw]; rfl) rfl ?_)
    refine Reg.op rfl (Ope.load rfl rfl ?_)
    refine Reg.op rfl (Ope.newL rfl ?_)
    refine Reg.op0 (Ope.store rfl rfl rfl rfl rfl rfl ?_)
    refine Reg.nil (Run.seq (Run.frz (d := 8) true rfl rfl rfl ?_))
    refine Run.wide (Nat.le_refl _) Hsub.nil ?_
    refine Run.region (cx_ok _ _ _) (Reg.op rfl (Ope.asg rfl ?_))
    refine Reg.op rfl (Ope.asg rfl ?_)
    refine Reg.op rfl (Ope.asg rfl ?_)
    refine Reg.nil (Run.seq (Run.seq (Run.region (cx_ok _ _ _) (Reg.op rfl (Ope.mov rfl ?_)))))
    refine Reg.op rfl (Ope.mov rfl ?_)
    refine Reg.nil (Run.block (Run.loop (α := Nat) (fun k => [(1, .sl tl (xs.map I)), (2, I h), (7, I xs[h]), (8, .fp (.agg [I R.o0, I R.t0, I R.r0, I R.f0])), (9, I (hst xs 0 k).1), (10, I (hst xs 0 k).2.1), (11, I (hst xs 0 k).2.2), (21, I h), (22, I k)]) (fun _ => HE 1 []) (fun k => k ≤ h) (fun k => h - k) 0 ⟨rfl, rfl, rfl, rfl, rfl, rfl, rfl, rfl, rfl, trivial⟩ rfl (Nat.zero_le _) (fun k hk => ?_)))
    obtain ⟨⟨hb1, hb2⟩, ⟨hb3, hb4⟩, hb5, hb6⟩ := hbd k
    refine Run.seq (Run.region (cx_ok _ _ _) (Reg.op rfl (Ope.lt rfl rfl ?_)))
    refine Reg.nil (Run.seq (Run.condX rfl (fun hc => ?_) fun hc => ?_))
    ·refine Run.skip (Run.seq (Run.block (Run.seq (Run.region (cx_ok _ _ _) (Reg.op rfl (Ope.mov rfl ?_))))))
     refine Reg.op rfl (Ope.asg rfl ?_)
     refine Reg.nil (Run.seq (Run.region (cx_ok _ _ _) (Reg.op rfl (Ope.mov rfl ?_))))
     refine Reg.op rfl (Ope.mov rfl ?_)
     first | refine Reg.op rfl (Ope.idxM rfl rfl rfl (by first | assumption | omega) (fun _ => rfl) ?_) | refine Reg.op rfl (Ope.idxL rfl rfl rfl (by first | assumption | omega) ?_)
     refine Reg.op rfl (Ope.load rfl rfl ?_)
     refine Reg.op rfl (Ope.mov rfl ?_)
     refine Reg.op rfl (Ope.eq rfl rfl ?_)
     refine Reg.nil (Run.condX rfl (fun hc => ?_) fun hc => ?_)
     ·refine Run.region (cx_ok _ _ _) (Reg.op rfl (Ope.mov rfl ?_))
      refine Reg.op rfl (Ope.add rfl rfl (by omega) ?_)
      refine Reg.op rfl (Ope.mov rfl ?_)
      refine Reg.op rfl (Ope.mov rfl ?_)
      refine Reg.op rfl (Ope.add rfl rfl (by omega) ?_)
      refine Reg.op rfl (Ope.asg rfl ?_)
      refine Reg.op rfl (Ope.asg rfl ?_)
      refine Reg.op rfl (Ope.asg rfl ?_)
      refine Reg.nil (Run.bend (Run.region (cx_ok _ _ _) (Reg.op rfl (Ope.add rfl rfl (by omega) ?_))))
      refine Reg.op rfl (Ope.mov rfl ?_)
      refine Reg.nil ?_
      have hgk : xs.getD k 0 = xs[k]'(by omega) := by simp [List.getD, show k < xs.length by omega]
      refine Run.lend ⟨k + 1, by omega, by omega, ⟨rfl, rfl, rfl, rfl, ?_, ?_, ?_, rfl, rfl, trivial⟩, rfl, rfl⟩
      all_goals
        show some (I _) = some (I _)
        simp only [hst, hgk]
        first
          | rw [if_pos (hc.trans hw)]
          | rw [if_neg (fun q => hc (q.trans hw.symm))]
     ·refine Run.region (cx_ok _ _ _) (Reg.op rfl (Ope.asg rfl ?_))
      refine Reg.nil (Run.bend (Run.region (cx_ok _ _ _) (Reg.op rfl (Ope.add rfl rfl (by omega) ?_))))
      refine Reg.op rfl (Ope.mov rfl ?_)
      refine Reg.nil ?_
      have hgk : xs.getD k 0 = xs[k]'(by omega) := by simp [List.getD, show k < xs.length by omega]
      refine Run.lend ⟨k + 1, by omega, by omega, ⟨rfl, rfl, rfl, rfl, ?_, ?_, ?_, rfl, rfl, trivial⟩, rfl, rfl⟩
      all_goals
        show some (I _) = some (I _)
        simp only [hst, hgk]
        first
          | rw [if_pos (hc.trans hw)]
          | rw [if_neg (fun q => hc (q.trans hw.symm))]
    ·refine Run.exit (Jmp.code (Jmp.round (Jmp.here (Run.seq (Run.block (Run.seq (Run.region (cx_ok _ _ _) (Reg.op rfl (Ope.fld rfl rfl ?_)))))))))
     refine Reg.op rfl (Ope.load rfl rfl ?_)
     refine Reg.op rfl (Ope.mov rfl ?_)
     refine Reg.op rfl (Ope.shrN (p := R.o0) (m := h) rfl rfl rfl rfl (by show h ≤ 64; omega) ?_)
     refine Reg.op rfl (Ope.andN (p := R.o0 >>> h) (q := 1) rfl rfl rfl rfl (by show _ < 2 ^ 64; omega) (by decide) ?_)
     refine Reg.op rfl (Ope.eq rfl rfl ?_)
     refine Reg.op rfl (Ope.asg rfl ?_)
     refine Reg.nil (Run.condX rfl (fun hc => ?_) fun hc => ?_)
     ·refine Run.seq (Run.region (cx_ok _ _ _) (Reg.op rfl (Ope.asg rfl ?_)))
      refine Reg.nil (Run.ret (Jmp.retB (Jmp.code (fin_ret (.tmp rfl .nil) rfl ?_))))
      refine congrArg I ?_
      have hkh : k = h := by omega
      rw [Rst.law, if_pos (hgd.trans hw)]
      subst hkh
      clear hob0 hob1
      unfold lawBrk
      generalize ((R.o0 >>> k &&& 1 : Nat) : Int) = bit at *
      repeat' split
      all_goals omega
     ·refine Run.seq (Run.region (cx_ok _ _ _) (Reg.op rfl (Ope.mov rfl ?_)))
      refine Reg.op rfl (Ope.add rfl rfl (by omega) ?_)
      refine Reg.op rfl (Ope.fld rfl rfl ?_)
      refine Reg.op rfl (Ope.load rfl rfl ?_)
      refine Reg.op rfl (Ope.gt rfl rfl ?_)
      refine Reg.op rfl (Ope.asg rfl ?_)
      refine Reg.nil (Run.condX rfl (fun hc => ?_) fun hc => ?_)
      ·refine Run.seq (Run.region (cx_ok _ _ _) (Reg.op rfl (Ope.asg rfl ?_)))
       refine Reg.nil (Run.ret (Jmp.retB (Jmp.code (fin_ret (.tmp rfl .nil) rfl ?_))))
       refine congrArg I ?_
       have hkh : k = h := by omega
       rw [Rst.law, if_pos (hgd.trans hw)]
       subst hkh
       clear hob0 hob1
       unfold lawBrk
       generalize ((R.o0 >>> k &&& 1 : Nat) : Int) = bit at *
       repeat' split
       all_goals omega
      ·refine Run.seq (Run.region (cx_ok _ _ _) (Reg.op rfl (Ope.mov rfl ?_)))
       refine Reg.op rfl (Ope.add rfl rfl (by omega) ?_)
       refine Reg.op rfl (Ope.fld rfl rfl ?_)
       refine Reg.op rfl (Ope.load rfl rfl ?_)
       refine Reg.op rfl (Ope.gt rfl rfl ?_)
       refine Reg.op rfl (Ope.asg rfl ?_)
       refine Reg.nil (Run.condX rfl (fun hc => ?_) fun hc => ?_)
       ·refine Run.seq (Run.region (cx_ok _ _ _) (Reg.op rfl (Ope.asg rfl ?_)))
        refine Reg.nil (Run.ret (Jmp.retB (Jmp.code (fin_ret (.tmp rfl .nil) rfl ?_))))
        refine congrArg I ?_
        have hkh : k = h := by omega
        rw [Rst.law, if_pos (hgd.trans hw)]
        subst hkh
        clear hob0 hob1
        unfold lawBrk
        generalize ((R.o0 >>> k &&& 1 : Nat) : Int) = bit at *
        repeat' split
        all_goals omega
       ·refine Run.seq (Run.region (cx_ok _ _ _) (Reg.op rfl (Ope.mov rfl ?_)))
        refine Reg.op rfl (Ope.ge rfl rfl ?_)
        refine Reg.op rfl (Ope.mov rfl ?_)
        refine Reg.splitX rfl rfl (fun hg => ?_) fun hg => ?_
        ·refine Reg.on rfl rfl rfl (Ope.mov rfl ?_)
         refine Reg.on rfl rfl rfl (Ope.mov rfl ?_)
         refine Reg.on rfl rfl rfl (Ope.sub rfl rfl (by omega) ?_)
         refine Reg.on rfl rfl rfl (Ope.lt rfl rfl ?_)
         refine Reg.op rfl (Ope.pickT rfl rfl ?_)
         refine Reg.op rfl (Ope.mov rfl ?_)
         refine Reg.splitX rfl rfl (fun hg => ?_) fun hg => ?_
         ·refine Reg.on rfl rfl rfl (Ope.mov rfl ?_)
          refine Reg.on rfl rfl rfl (Ope.sub rfl rfl (by omega) ?_)
          refine Reg.on rfl rfl rfl (Ope.mov rfl ?_)
          refine Reg.on rfl rfl rfl (Ope.sub rfl rfl (by omega) ?_)
          refine Reg.on rfl rfl rfl (Ope.fld rfl rfl ?_)
          refine Reg.on rfl rfl rfl (Ope.load rfl rfl ?_)
          refine Reg.on rfl rfl rfl (Ope.lt rfl rfl ?_)
          refine Reg.op rfl (Ope.pickT rfl rfl ?_)
          refine Reg.op rfl (Ope.asg rfl ?_)
          refine Reg.nil (Run.condX rfl (fun hc => ?_) fun hc => ?_)
          ·refine Run.seq (Run.region (cx_ok _ _ _) (Reg.op rfl (Ope.asg rfl ?_)))
           refine Reg.nil (Run.ret (Jmp.retB (Jmp.code (fin_ret (.tmp rfl .nil) rfl ?_))))
           refine congrArg I ?_
           have hkh : k = h := by omega
           rw [Rst.law, if_pos (hgd.trans hw)]
           subst hkh
           clear hob0 hob1
           unfold lawBrk
           generalize ((R.o0 >>> k &&& 1 : Nat) : Int) = bit at *
           repeat' split
           all_goals omega
          ·refine Run.skip (Run.bend (Run.seq (Run.region (cx_ok _ _ _) (Reg.op rfl (Ope.asg rfl ?_)))))
           refine Reg.nil (Run.ret (fin_ret (.tmp rfl .nil) rfl ?_))
           refine congrArg I ?_
           have hkh : k = h := by omega
           rw [Rst.law, if_pos (hgd.trans hw)]
           subst hkh
           clear hob0 hob1
           unfold lawBrk
           generalize ((R.o0 >>> k &&& 1 : Nat) : Int) = bit at *
           repeat' split
           all_goals omega
         ·refine Reg.off rfl rfl rfl (Reg.off rfl rfl rfl (Reg.off rfl rfl rfl (Reg.off rfl rfl rfl (Reg.off rfl rfl rfl (Reg.off rfl rfl rfl (Reg.off rfl rfl rfl (Reg.op rfl (Ope.pickF rfl rfl ?_))))))))
          refine Reg.op rfl (Ope.asg rfl ?_)
          refine Reg.nil (Run.condF rfl (Run.skip (Run.bend (Run.seq (Run.region (cx_ok _ _ _) (Reg.op rfl (Ope.asg rfl ?_)))))))
          refine Reg.nil (Run.ret (fin_ret (.tmp rfl .nil) rfl ?_))
          refine congrArg I ?_
          have hkh : k = h := by omega
          rw [Rst.law, if_pos (hgd.trans hw)]
          subst hkh
          clear hob0 hob1
          unfold lawBrk
          generalize ((R.o0 >>> k &&& 1 : Nat) : Int) = bit at *
          repeat' split
          all_goals omega
        ·refine Reg.off rfl rfl rfl (Reg.off rfl rfl rfl (Reg.off rfl rfl rfl (Reg.off rfl rfl rfl (Reg.op rfl (Ope.pickF rfl rfl ?_)))))
         refine Reg.op rfl (Ope.mov rfl ?_)
         refine Reg.off rfl rfl rfl (Reg.off rfl rfl rfl (Reg.off rfl rfl rfl (Reg.off rfl rfl rfl (Reg.off rfl rfl rfl (Reg.off rfl rfl rfl (Reg.off rfl rfl rfl (Reg.op rfl (Ope.pickF rfl rfl ?_))))))))
         refine Reg.op rfl (Ope.asg rfl ?_)
         refine Reg.nil (Run.condF rfl (Run.skip (Run.bend (Run.seq (Run.region (cx_ok _ _ _) (Reg.op rfl (Ope.asg rfl ?_)))))))
         refine Reg.nil (Run.ret (fin_ret (.tmp rfl .nil) rfl ?_))
         refine congrArg I ?_
         have hkh : k = h := by omega
         rw [Rst.law, if_pos (hgd.trans hw)]
         subst hkh
         clear hob0 hob1
         unfold lawBrk
         generalize ((R.o0 >>> k &&& 1 : Nat) : Int) = bit at *
         repeat' split
         all_goals omega
  · have hbd := hst_bound xs 1
    refine PFun.of (C := c35) (cx_ok _ _ _) rfl (fn := Tryz.f35) (by kernel_rfl) (c := _) rfl rfl rfl ?_
    refine Run.seq (Run.region (cx_ok _ _ _) (Reg.op rfl (Ope.boxF rfl rfl ?_)))
    refine Reg.op rfl (Ope.asg rfl ?_)
    refine Reg.nil (Run.seq (Run.region (cx_ok _ _ _) (Reg.op rfl (Ope.mov rfl ?_))))
    refine Reg.op rfl (Ope.mov rfl ?_)
    first | refine Reg.op rfl (Ope.idxM rfl rfl rfl (by first | assumption | omega) (fun _ => rfl) ?_) | refine Reg.op rfl (Ope.idxL rfl rfl rfl (by first | assumption | omega) ?_)
    refine Reg.op rfl (Ope.load rfl rfl ?_)
    refine Reg.op rfl (Ope.asg rfl ?_)
    refine Reg.nil (Run.seq (Run.region (cx_ok _ _ _) (Reg.op rfl (Ope.mov rfl ?_))))
    refine Reg.op rfl (Ope.fld rfl rfl ?_)
    refine Reg.op rfl (Ope.idxA (m := 1) rfl rfl (by show natK xs[h] = _; rw [hw]; rfl) rfl ?_)
    refine Reg.op rfl (Ope.load rfl rfl ?_)
    refine Reg.op rfl (Ope.newL rfl ?_)
    refine Reg.op0 (Ope.store rfl rfl rfl rfl rfl rfl ?_)
    refine Reg.nil (Run.seq (Run.frz (d := 8) true rfl rfl rfl ?_))
    refine Run.wide (Nat.le_refl _) Hsub.nil ?_
    refine Run.region (cx_ok _ _ _) (Reg.op rfl (Ope.asg rfl ?_))
    refine Reg.op rfl (Ope.asg rfl ?_)
    refine Reg.op rfl (Ope.asg rfl ?_)
    refine Reg.nil (Run.seq (Run.seq (Run.region (cx_ok _ _ _) (Reg.op rfl (Ope.mov rfl ?_)))))
    refine Reg.op rfl (Ope.mov rfl ?_)
    refine Reg.nil (Run.block (Run.loop (α := Nat) (fun k => [(1, .sl tl (xs.map I)), (2, I h), (7, I xs[h]), (8, .fp (.agg [I R.o1, I R.t1, I R.r1, I R.f1])), (9, I (hst xs 1 k).1), (10, I (hst xs 1 k).2.1), (11, I (hst xs 1 k).2.2), (21, I h), (22, I k)]) (fun _ => HE 1 []) (fun k => k ≤ h) (fun k => h - k) 0 ⟨rfl, rfl, rfl, rfl, rfl, rfl, rfl, rfl, rfl, trivial⟩ rfl (Nat.zero_le _) (fun k hk => ?_)))
    obtain ⟨⟨hb1, hb2⟩, ⟨hb3, hb4⟩, hb5, hb6⟩ := hbd k
    refine Run.seq (Run.region (cx_ok _ _ _) (Reg.op rfl (Ope.lt rfl rfl ?_)))
    refine Reg.nil (Run.seq (Run.condX rfl (fun hc => ?_) fun hc => ?_))
    ·refine Run.skip (Run.seq (Run.block (Run.seq (Run.region (cx_ok _ _ _) (Reg.op rfl (Ope.mov rfl ?_))))))
     refine Reg.op rfl (Ope.asg rfl ?_)
     refine Reg.nil (Run.seq (Run.region (cx_ok _ _ _) (Reg.op rfl (Ope.mov rfl ?_))))
     refine Reg.op rfl (Ope.mov rfl ?_)
     first | refine Reg.op rfl (Ope.idxM rfl rfl rfl (by first | assumption | omega) (fun _ => rfl) ?_) | refine Reg.op rfl (Ope.idxL rfl rfl rfl (by first | assumption | omega) ?_)
     refine Reg.op rfl (Ope.load rfl rfl ?_)
     refine Reg.op rfl (Ope.mov rfl ?_)
     refine Reg.op rfl (Ope.eq rfl rfl ?_)
     refine Reg.nil (Run.condX rfl (fun hc => ?_) fun hc => ?_)
     ·refine Run.region (cx_ok _ _ _) (Reg.op rfl (Ope.mov rfl ?_))
      refine Reg.op rfl (Ope.add rfl rfl (by omega) ?_)
      refine Reg.op rfl (Ope.mov rfl ?_)
      refine Reg.op rfl (Ope.mov rfl ?_)
      refine Reg.op rfl (Ope.add rfl rfl (by omega) ?_)
      refine Reg.op rfl (Ope.asg rfl ?_)
      refine Reg.op rfl (Ope.asg rfl ?_)
      refine Reg.op rfl (Ope.asg rfl ?_)
      refine Reg.nil (Run.bend (Run.region (cx_ok _ _ _) (Reg.op rfl (Ope.add rfl rfl (by omega) ?_))))
      refine Reg.op rfl (Ope.mov rfl ?_)
      refine Reg.nil ?_
      have hgk : xs.getD k 0 = xs[k]'(by omega) := by simp [List.getD, show k < xs.length by omega]
      refine Run.lend ⟨k + 1, by omega, by omega, ⟨rfl, rfl, rfl, rfl, ?_, ?_, ?_, rfl, rfl, trivial⟩, rfl, rfl⟩
      all_goals
        show some (I _) = some (I _)
        simp only [hst, hgk]
        first
          | rw [if_pos (hc.trans hw)]
          | rw [if_neg (fun q => hc (q.trans hw.symm))]
     ·refine Run.region (cx_ok _ _ _) (Reg.op rfl (Ope.asg rfl ?_))
      refine Reg.nil (Run.bend (Run.region (cx_ok _ _ _) (Reg.op rfl (Ope.add rfl rfl (by omega) ?_))))
      refine Reg.op rfl (Ope.mov rfl ?_)
      refine Reg.nil ?_
      have hgk : xs.getD k 0 = xs[k]'(by omega) := by simp [List.getD, show k < xs.length by omega]
      refine Run.lend ⟨k + 1, by omega, by omega, ⟨rfl, rfl, rfl, rfl, ?_, ?_, ?_, rfl, rfl, trivial⟩, rfl, rfl⟩
      all_goals
        show some (I _) = some (I _)
        simp only [hst, hgk]
        first
          | rw [if_pos (hc.trans hw)]
          | rw [if_neg (fun q => hc (q.trans hw.symm))]
    ·refine Run.exit (Jmp.code (Jmp.round (Jmp.here (Run.seq (Run.block (Run.seq (Run.region (cx_ok _ _ _) (Reg.op rfl (Ope.fld rfl rfl ?_)))))))))
     refine Reg.op rfl (Ope.load rfl rfl ?_)
     refine Reg.op rfl (Ope.mov rfl ?_)
     refine Reg.op rfl (Ope.shrN (p := R.o1) (m := h) rfl rfl rfl rfl (by show h ≤ 64; omega) ?_)
     refine Reg.op rfl (Ope.andN (p := R.o1 >>> h) (q := 1) rfl rfl rfl rfl (by show _ < 2 ^ 64; omega) (by decide) ?_)
     refine Reg.op rfl (Ope.eq rfl rfl ?_)
     refine Reg.op rfl (Ope.asg rfl ?_)
     refine Reg.nil (Run.condX rfl (fun hc => ?_) fun hc => ?_)
     ·refine Run.seq (Run.region (cx_ok _ _ _) (Reg.op rfl (Ope.asg rfl ?_)))
      refine Reg.nil (Run.ret (Jmp.retB (Jmp.code (fin_ret (.tmp rfl .nil) rfl ?_))))
      refine congrArg I ?_
      have hkh : k = h := by omega
      rw [Rst.law, if_neg (by rw [hgd, hw]; decide)]
      subst hkh
      clear hob0 hob1
      unfold lawBrk
      generalize ((R.o1 >>> k &&& 1 : Nat) : Int) = bit at *
      repeat' split
      all_goals omega
     ·refine Run.seq (Run.region (cx_ok _ _ _) (Reg.op rfl (Ope.mov rfl ?_)))
      refine Reg.op rfl (Ope.add rfl rfl (by omega) ?_)
      refine Reg.op rfl (Ope.fld rfl rfl ?_)
      refine Reg.op rfl (Ope.load rfl rfl ?_)
      refine Reg.op rfl (Ope.gt rfl rfl ?_)
      refine Reg.op rfl (Ope.asg rfl ?_)
      refine Reg.nil (Run.condX rfl (fun hc => ?_) fun hc => ?_)
      ·refine Run.seq (Run.region (cx_ok _ _ _) (Reg.op rfl (Ope.asg rfl ?_)))
       refine Reg.nil (Run.ret (Jmp.retB (Jmp.code (fin_ret (.tmp rfl .nil) rfl ?_))))
       refine congrArg I ?_
       have hkh : k = h := by omega
       rw [Rst.law, if_neg (by rw [hgd, hw]; decide)]
       subst hkh
       clear hob0 hob1
       unfold lawBrk
       generalize ((R.o1 >>> k &&& 1 : Nat) : Int) = bit at *
       repeat' split
       all_goals omega
      ·refine Run.seq (Run.region (cx_ok _ _ _) (Reg.op rfl (Ope.mov rfl ?_)))
       refine Reg.op rfl (Ope.add rfl rfl (by omega) ?_)
       refine Reg.op rfl (Ope.fld rfl rfl ?_)
       refine Reg.op rfl (Ope.load rfl rfl ?_)
       refine Reg.op rfl (Ope.gt rfl rfl ?_)
       refine Reg.op rfl (Ope.asg rfl ?_)
       refine Reg.nil (Run.condX rfl (fun hc => ?_) fun hc => ?_)
       ·refine Run.seq (Run.region (cx_ok _ _ _) (Reg.op rfl (Ope.asg rfl ?_)))
        refine Reg.nil (Run.ret (Jmp.retB (Jmp.code (fin_ret (.tmp rfl .nil) rfl ?_))))
        refine congrArg I ?_
        have hkh : k = h := by omega
        rw [Rst.law, if_neg (by rw [hgd, hw]; decide)]
        subst hkh
        clear hob0 hob1
        unfold lawBrk
        generalize ((R.o1 >>> k &&& 1 : Nat) : Int) = bit at *
        repeat' split
        all_goals omega
       ·refine Run.seq (Run.region (cx_ok _ _ _) (Reg.op rfl (Ope.mov rfl ?_)))
        refine Reg.op rfl (Ope.ge rfl rfl ?_)
        refine Reg.op rfl (Ope.mov rfl ?_)
        refine Reg.splitX rfl rfl (fun hg => ?_) fun hg => ?_
        ·refine Reg.on rfl rfl rfl (Ope.mov rfl ?_)
         refine Reg.on rfl rfl rfl (Ope.mov rfl ?_)
         refine Reg.on rfl rfl rfl (Ope.sub rfl rfl (by omega) ?_)
         refine Reg.on rfl rfl rfl (Ope.lt rfl rfl ?_)
         refine Reg.op rfl (Ope.pickT rfl rfl ?_)
         refine Reg.op rfl (Ope.mov rfl ?_)
         refine Reg.splitX rfl rfl (fun hg => ?_) fun hg => ?_
         ·refine Reg.on rfl rfl rfl (Ope.mov rfl ?_)
          refine Reg.on rfl rfl rfl (Ope.sub rfl rfl (by omega) ?_)
          refine Reg.on rfl rfl rfl (Ope.mov rfl ?_)
          refine Reg.on rfl rfl rfl (Ope.sub rfl rfl (by omega) ?_)
          refine Reg.on rfl rfl rfl (Ope.fld rfl rfl ?_)
          refine Reg.on rfl rfl rfl (Ope.load rfl rfl ?_)
          refine Reg.on rfl rfl rfl (Ope.lt rfl rfl ?_)
          refine Reg.op rfl (Ope.pickT rfl rfl ?_)
          refine Reg.op rfl (Ope.asg rfl ?_)
          refine Reg.nil (Run.condX rfl (fun hc => ?_) fun hc => ?_)
          ·refine Run.seq (Run.region (cx_ok _ _ _) (Reg.op rfl (Ope.asg rfl ?_)))
           refine Reg.nil (Run.ret (Jmp.retB (Jmp.code (fin_ret (.tmp rfl .nil) rfl ?_))))
           refine congrArg I ?_
           have hkh : k = h := by omega
           rw [Rst.law, if_neg (by rw [hgd, hw]; decide)]
           subst hkh
           clear hob0 hob1
           unfold lawBrk
           generalize ((R.o1 >>> k &&& 1 : Nat) : Int) = bit at *
           repeat' split
           all_goals omega
          ·refine Run.skip (Run.bend (Run.seq (Run.region (cx_ok _ _ _) (Reg.op rfl (Ope.asg rfl ?_)))))
           refine Reg.nil (Run.ret (fin_ret (.tmp rfl .nil) rfl ?_))
           refine congrArg I ?_
           have hkh : k = h := by omega
           rw [Rst.law, if_neg (by rw [hgd, hw]; decide)]
           subst hkh
           clear hob0 hob1
           unfold lawBrk
           generalize ((R.o1 >>> k &&& 1 : Nat) : Int) = bit at *
           repeat' split
           all_goals omega
         ·refine Reg.off rfl rfl rfl (Reg.off rfl rfl rfl (Reg.off rfl rfl rfl (Reg.off rfl rfl rfl (Reg.off rfl rfl rfl (Reg.off rfl rfl rfl (Reg.off rfl rfl rfl (Reg.op rfl (Ope.pickF rfl rfl ?_))))))))
          refine Reg.op rfl (Ope.asg rfl ?_)
          refine Reg.nil (Run.condF rfl (Run.skip (Run.bend (Run.seq (Run.region (cx_ok _ _ _) (Reg.op rfl (Ope.asg rfl ?_)))))))
          refine Reg.nil (Run.ret (fin_ret (.tmp rfl .nil) rfl ?_))
          refine congrArg I ?_
          have hkh : k = h := by omega
          rw [Rst.law, if_neg (by rw [hgd, hw]; decide)]
          subst hkh
          clear hob0 hob1
          unfold lawBrk
          generalize ((R.o1 >>> k &&& 1 : Nat) : Int) = bit at *
          repeat' split
          all_goals omega
        ·refine Reg.off rfl rfl rfl (Reg.off rfl rfl rfl (Reg.off rfl rfl rfl (Reg.off rfl rfl rfl (Reg.op rfl (Ope.pickF rfl rfl ?_)))))
         refine Reg.op rfl (Ope.mov rfl ?_)
         refine Reg.off rfl rfl rfl (Reg.off rfl rfl rfl (Reg.off rfl rfl rfl (Reg.off rfl rfl rfl (Reg.off rfl rfl rfl (Reg.off rfl rfl rfl (Reg.off rfl rfl rfl (Reg.op rfl (Ope.pickF rfl rfl ?_))))))))
         refine Reg.op rfl (Ope.asg rfl ?_)
         refine Reg.nil (Run.condF rfl (Run.skip (Run.bend (Run.seq (Run.region (cx_ok _ _ _) (Reg.op rfl (Ope.asg rfl ?_)))))))
         refine Reg.nil (Run.ret (fin_ret (.tmp rfl .nil) rfl ?_))
         refine congrArg I ?_
         have hkh : k = h := by omega
         rw [Rst.law, if_neg (by rw [hgd, hw]; decide)]
         subst hkh
         clear hob0 hob1
         unfold lawBrk
         generalize ((R.o1 >>> k &&& 1 : Nat) : Int) = bit at *
         repeat' split
         all_goals omega
end Go.Pv
namespace Go.Am
open Go.Proofs
def setAllK : List Nat → T Unit → T Unit
  | [], t => t
  | n :: l, t => setAllK l (t.set n ())
theorem setAllK_get : ∀ (l : List Nat) (t : T Unit) (x : Nat), (setAllK l t).get x = some () → x ∈ l ∨ t.get x = some ()
  | [], _, _, h => .inr h
  | n :: l, t, x, h => by
    rcases setAllK_get l _ x h with h1 | h1
    · exact .inl (List.mem_cons_of_mem _ h1)
    · rw [T.get_set] at h1
      split at h1
      · next e => subst e; exact .inl (List.mem_cons_self ..)
      · exact .inr h1
def eqTypesK : List Nat := [7, 8, 22, 23, 24, 25, 26, 40, 41, 59, 60, 64, 65, 66, 67, 73, 74, 77, 78, 89, 90, 96, 97, 105, 106, 114, 115, 118, 119, 132, 133, 145, 146, 147, 148, 149, 150, 160, 161, 184, 185, 188, 189, 191, 195, 196, 220, 221, 228, 229, 245, 246, 249, 250, 251, 255]
def eqsK : Eqs := { eqs := setAllK eqTypesK .nil }
theorem eqsK_ok : eqsK.Ok Tryz.prog := by
  have h : eqTypesK.all (fun t => !(Tryz.prog.eqGuardType Tryz.prog.depth t) && !(Tryz.prog.stoodInHeld t)) = true := by kernel_rfl
  refine ⟨fun t ht => ?_⟩
  rcases setAllK_get _ _ _ ht with h1 | h1
  · have := List.all_eq_true.1 h t h1
    simp only [Bool.and_eq_true, Bool.not_eq_true'] at this
    exact this
  · rw [T.get_nil] at h1; cases h1
theorem tryz_ok : (AP.of Tryz.prog).Ok Tryz.prog := AP.of_ok _ (by kernel_rfl)
theorem tryz_follows : Tryz.prog.follows .mixedOrders = true := by kernel_rfl
def slowK : T Unit := setAllK [193, 192, 190, 183, 182, 179, 176, 171, 155, 152, 143, 138, 132, 126, 115, 111, 103, 77, 59, 57, 52] .nil
def isTrueK : KR → Bool
  | some (.bool true, _) => true
  | _ => false
theorem isTrueK_ok {r : KR} (h : isTrueK r = true) : ∃ H, r = some (.bool true, H) := by
  unfold isTrueK at h
  split at h
  · exact ⟨_, rfl⟩
  · cases h
def hasBodyK (A : AP) (f : FuncId) : Bool :=
  match A.funcs.get f with
  | some fn => fn.body.isSome
  | none => false
theorem hasBodyK_ok {A : AP} {f : FuncId} (h : hasBodyK A f = true) : ∃ fn c, A.funcs.get f = some fn ∧ fn.body = some c := by
  unfold hasBodyK at h
  split at h
  · next fn hfn =>
    obtain ⟨c, hc⟩ := Option.isSome_iff_exists.1 h
    exact ⟨fn, c, hfn, hc⟩
  · cases h
def ek16 : Ent := { f := 16, args := [.agg [.int .i64 (6), .int .i64 (4), .int .i64 (4), .int .i64 (2), .int .i64 (1), .int .i64 (32), .int .i64 (3), .int .i64 (2), .int .i64 (1)], .sl 0 0 6 (.ex 6)], bs := [.cells 3 [.int .i64 (0), .int .i64 (1), .int .i64 (1), .int .i64 (1), .int .i64 (0), .int .i64 (0)]], v := .tup [.int .i64 (3), .int .i64 (3), .int .i64 (0)], next := 131, new := [] }
def ek20 : Ent := { f := 20, args := [.agg [.int .i64 (6), .int .i64 (4), .int .i64 (4), .int .i64 (2), .int .i64 (1), .int .i64 (36), .int .i64 (3), .int .i64 (2), .int .i64 (1)]], bs := [], v := .tup [.int .i64 (2), .int .i64 (0)], next := 905, new := [] }
def ek24 : Ent := { f := 24, args := [.agg [.int .i64 (6), .int .i64 (4), .int .i64 (4), .int .i64 (2), .int .i64 (1), .int .i64 (32), .int .i64 (3), .int .i64 (2), .int .i64 (1)]], bs := [], v := .tup [.int .i64 (0), .sl 912 0 6 (.ex 6), .int .i64 (0)], next := 1351, new := [(912, .cells 3 [.int .i64 (0), .int .i64 (1), .int .i64 (1), .int .i64 (0), .int .i64 (1), .int .i64 (0)])] }
def ek29 : Ent := { f := 29, args := [.agg [.int .i64 (6), .int .i64 (4), .int .i64 (4), .int .i64 (2), .int .i64 (1), .int .i64 (32), .int .i64 (3), .int .i64 (2), .int .i64 (1)]], bs := [], v := .tup [.int .i64 (32), .int .i64 (4), .int .i64 (0)], next := 1309, new := [] }
def ek18 : Ent := { f := 18, args := [.agg [.int .i64 (6), .int .i64 (4), .int .i64 (4), .int .i64 (2), .int .i64 (1), .int .i64 (32), .int .i64 (3), .int .i64 (2), .int .i64 (1)]], bs := [], v := .tup [.int .i64 (5), .int .i64 (0)], next := 1170, new := [] }
def ek27 : Ent := { f := 27, args := [.agg [.int .i64 (6), .int .i64 (4), .int .i64 (4), .int .i64 (2), .int .i64 (1), .int .i64 (32), .int .i64 (3), .int .i64 (2), .int .i64 (1)], .int .i64 (0)], bs := [], v := .tup [.agg [.int .i64 (3), .int .i64 (4)], .int .i64 (0)], next := 1268, new := [] }
def ek22 : Ent := { f := 22, args := [.agg [.int .i64 (6), .int .i64 (4), .int .i64 (4), .int .i64 (2), .int .i64 (1), .int .i64 (32), .int .i64 (3), .int .i64 (2), .int .i64 (1)]], bs := [], v := .tup [.int .i64 (2), .sl 964 0 6 (.ex 6), .int .i64 (0)], next := 1435, new := [(964, .cells 3 [.int .i64 (0), .int .i64 (0), .int .i64 (1), .int .i64 (1), .int .i64 (0), .int .i64 (0)])] }
def ek31 : Ent := { f := 31, args := [.agg [.int .i64 (6), .int .i64 (4), .int .i64 (4), .int .i64 (2), .int .i64 (1), .int .i64 (36), .int .i64 (3), .int .i64 (2), .int .i64 (1)]], bs := [], v := .tup [.int .i64 (0), .int .i64 (2), .int .i64 (0)], next := 1488, new := [] }
end Go.Am
namespace Go.Am
open Go.Proofs
theorem ek16_runs : (kent (AP.of Tryz.prog) eqsK 1000000000 slowK .nil 60 ek16).isSome = true := by kernel_rfl
theorem ek20_runs : (kent (AP.of Tryz.prog) eqsK 1000000000 slowK .nil 60 ek20).isSome = true := by kernel_rfl
theorem ek24_runs : (kent (AP.of Tryz.prog) eqsK 1000000000 slowK .nil 60 ek24).isSome = true := by kernel_rfl
theorem ek29_runs : (kent (AP.of Tryz.prog) eqsK 1000000000 slowK .nil 60 ek29).isSome = true := by kernel_rfl
theorem ek18_runs : (kent (AP.of Tryz.prog) eqsK 1000000000 slowK .nil 60 ek18).isSome = true := by kernel_rfl
theorem ek27_runs : (kent (AP.of Tryz.prog) eqsK 1000000000 slowK .nil 60 ek27).isSome = true := by kernel_rfl
theorem ek22_runs : (kent (AP.of Tryz.prog) eqsK 1000000000 slowK .nil 60 ek22).isSome = true := by kernel_rfl
theorem ek31_runs : (kent (AP.of Tryz.prog) eqsK 1000000000 slowK .nil 60 ek31).isSome = true := by kernel_rfl
end Go.Am
namespace Go.Am
open Go.Proofs Go.RowKit
theorem awake_runs : isTrueK (kmainT (AP.of Tryz.prog) eqsK 1000000000 slowK (T.set (T.set (T.set (T.set (T.set (T.set (T.set (T.set T.nil 16 [ek16]) 20 [ek20]) 24 [ek24]) 29 [ek29]) 18 [ek18]) 27 [ek27]) 22 [ek22]) 31 [ek31]) 60 15) = true := by kernel_rfl
theorem TabOk.one {A : AP} {P : Program} {tb : T (List Ent)} (ht : TabOk A P tb) {f : FuncId} {e : Ent} (hb : hasBodyK A f = true) (h1 : e.f = f) (h2 : EntOk A P e) : TabOk A P (tb.set f [e]) := by
  obtain ⟨fn, c, hfn, hc⟩ := hasBodyK_ok hb
  refine ht.set hfn hc fun x hx => ?_
  rcases List.mem_cons.1 hx with hx | hx
  · subst hx; exact ⟨h1, h2⟩
  · cases hx
theorem awake_calls (w : World) : Calls Tryz.prog 15 #[] w fun e w' => e = .returned (.bool true) ∧ Kept w w' := by
  have ht : TabOk (AP.of Tryz.prog) Tryz.prog (T.set (T.set (T.set (T.set (T.set (T.set (T.set (T.set T.nil 16 [ek16]) 20 [ek20]) 24 [ek24]) 29 [ek29]) 18 [ek18]) 27 [ek27]) 22 [ek22]) 31 [ek31]) := by
    refine TabOk.one ?_ (by kernel_rfl) rfl (kent_ok tryz_ok eqsK_ok tryz_follows TabOk.nil ek31_runs)
    refine TabOk.one ?_ (by kernel_rfl) rfl (kent_ok tryz_ok eqsK_ok tryz_follows TabOk.nil ek22_runs)
    refine TabOk.one ?_ (by kernel_rfl) rfl (kent_ok tryz_ok eqsK_ok tryz_follows TabOk.nil ek27_runs)
    refine TabOk.one ?_ (by kernel_rfl) rfl (kent_ok tryz_ok eqsK_ok tryz_follows TabOk.nil ek18_runs)
    refine TabOk.one ?_ (by kernel_rfl) rfl (kent_ok tryz_ok eqsK_ok tryz_follows TabOk.nil ek29_runs)
    refine TabOk.one ?_ (by kernel_rfl) rfl (kent_ok tryz_ok eqsK_ok tryz_follows TabOk.nil ek24_runs)
    refine TabOk.one ?_ (by kernel_rfl) rfl (kent_ok tryz_ok eqsK_ok tryz_follows TabOk.nil ek20_runs)
    refine TabOk.one ?_ (by kernel_rfl) rfl (kent_ok tryz_ok eqsK_ok tryz_follows TabOk.nil ek16_runs)
    exact TabOk.nil
  obtain ⟨H, hH⟩ := isTrueK_ok awake_runs
  exact kmainT_keep tryz_ok eqsK_ok tryz_follows ht hH w
end Go.Am
namespace Go.Pv
open Go.Proofs Go.Am
set_option maxRecDepth 10000
set_option linter.unusedVariables false
set_option linter.unusedSimpArgs false
theorem awakeC : Clo P0 15 true := by
  have hf : A0.funcs.get 15 = some Tryz.f15 := by kernel_rfl
  exact fun hp X => PCall.closed ⟨Tryz.f15, _, A0_ok.funcs _ _ hf, rfl, by simpa using A0_ok.names _ _ hf⟩ awake_calls hp
theorem f6a (h a0 b0 c0 d0 a1 b1 c1 d1 : Int) (p : Nat) (hv : validR h a0 b0 c0 d0 a1 b1 c1 d1 = false) : Fn P0 6 [.agg [I h, I a0, I b0, I c0, I d0, I a1, I b1, I c1, I d1], .lit (.int .u16 (p : Int))] (B true) := by
  have hc1 : checkV h a0 b0 c0 d0 a1 b1 c1 d1 [] = (0, 0, 1) := by simp [checkV, hv]
  have h33 := f33 h a0 b0 c0 d0 a1 b1 c1 d1
  rw [hv] at h33
  have h16 := check h a0 b0 c0 d0 a1 b1 c1 d1 .ex rfl [] (by simp)
  rw [hc1] at h16
  refine PFun.of (C := c6) (cx_ok _ _ _) rfl (fn := Tryz.f6) (by kernel_rfl) (c := _) rfl rfl rfl ?_
  refine Run.seq (Run.region (cx_ok _ _ _) (Reg.op rfl (Ope.boxF rfl rfl ?_)))
  refine Reg.op rfl (Ope.asg rfl ?_)
  refine Reg.nil (Run.seq (Run.seq (Run.region (cx_ok _ _ _) (Reg.op rfl (Ope.load rfl rfl ?_)))))
  refine Reg.op rfl (Ope.cf rfl rfl (h33) rfl ?_)
  refine Reg.op rfl (Ope.not rfl ?_)
  refine Reg.nil (Run.condX rfl (fun hc => ?_) fun hc => ?_)
  ·refine Run.seq (Run.region (cx_ok _ _ _) (Reg.op rfl (Ope.load rfl rfl ?_)))
   refine Reg.op rfl (Ope.cf rfl rfl (h16) rfl ?_)
   refine Reg.op rfl (Ope.mov rfl ?_)
   refine Reg.op rfl (Ope.ext rfl rfl ?_)
   refine Reg.op rfl (Ope.ext rfl rfl ?_)
   refine Reg.op rfl (Ope.ext rfl rfl ?_)
   refine Reg.op rfl (Ope.asg rfl ?_)
   refine Reg.op rfl (Ope.asg rfl ?_)
   refine Reg.op rfl (Ope.asg rfl ?_)
   refine Reg.nil (Run.seq (Run.region (cx_ok _ _ _) (Reg.op rfl (Ope.mov rfl ?_))))
   refine Reg.op rfl (Ope.eq rfl rfl ?_)
   refine Reg.op rfl (Ope.mov rfl ?_)
   refine Reg.splitX rfl rfl (fun hg => ?_) fun hg => ?_
   ·refine Reg.on rfl rfl rfl (Ope.mov rfl ?_)
    refine Reg.on rfl rfl rfl (Ope.eq rfl rfl ?_)
    refine Reg.op rfl (Ope.pickT rfl rfl ?_)
    refine Reg.op rfl (Ope.mov rfl ?_)
    refine Reg.splitX rfl rfl (fun hg => ?_) fun hg => ?_
    ·refine Reg.on rfl rfl rfl (Ope.mov rfl ?_)
     refine Reg.on rfl rfl rfl (Ope.eq rfl rfl ?_)
     refine Reg.op rfl (Ope.pickT rfl rfl ?_)
     refine Reg.op rfl (Ope.mov rfl ?_)
     refine Reg.splitX rfl rfl (fun hg => ?_) fun hg => ?_
     ·refine Reg.on rfl rfl rfl (Ope.clo rfl rfl awakeC ?_)
      refine Reg.op rfl (Ope.pickT rfl rfl ?_)
      refine Reg.op rfl (Ope.asg rfl ?_)
      refine Reg.nil (Run.ret (Jmp.code (fin_ret (.tmp rfl .nil) rfl ?_)))
      rfl
     ·exact absurd hg (by decide)
    ·exact absurd hg (by decide)
   ·exact absurd hg (by decide)
  ·cases hc
theorem checkBad {R : Rst} (hv : validR R.m R.o0 R.t0 R.r0 R.f0 R.o1 R.t1 R.r1 R.f1 = true) {xs : List Int} (hp : planOk R.m xs = false) (hl : xs.length ≤ 1000000) {vs : List PV} (hvs : vs = xs.map I) :
    Fn P0 16 [.agg R.cells, .sl .no vs] (.tup [I 0, I 0, I 2]) := by
  subst hvs
  have := check R.m R.o0 R.t0 R.r0 R.f0 R.o1 R.t1 R.r1 R.f1 .no rfl xs hl
  rw [show checkV R.m R.o0 R.t0 R.r0 R.f0 R.o1 R.t1 R.r1 R.f1 xs = (0, 0, 2) from by simp [checkV, hv, hp]] at this
  exact this
theorem bad0 {m : Nat} {L : List Int} (hL : L.length = m) : planOk m (0 :: L) = false := by
  simp only [planOk, Bool.and_eq_false_iff, decide_eq_false_iff_not]
  right
  simp only [List.length_cons]
  omega
theorem bad1 {m : Int} {L : List Int} {b : Int} (hb : b ≠ 0 ∧ b ≠ 1) : planOk m (L ++ [b]) = false := by
  simp only [planOk, Bool.and_eq_false_iff]
  left
  simp [hb.1, hb.2]
theorem f6n (R : Rst) (hR : R.ok) (hv : validR R.m R.o0 R.t0 R.r0 R.f0 R.o1 R.t1 R.r1 R.f1 = true) (p : Nat) (hp : p < 65536) (L : List Int) (hLe : L = byL R.m p) (hx : ∀ x ∈ L, x = 0 ∨ x = 1) (hlen : L.length = R.m) (h1 : 1 ≤ R.m)
    (hc0 : checkV R.m R.o0 R.t0 R.r0 R.f0 R.o1 R.t1 R.r1 R.f1 L = (0, 0, 4)) (hlaw : ∀ i, i < R.m → R.law L i = 0) : Fn P0 6 [.agg R.cells, .lit (.int .u16 (p : Int))] (B true) := by
  have h33 := f33 R.m R.o0 R.t0 R.r0 R.f0 R.o1 R.t1 R.r1 R.f1
  rw [hv] at h33
  have h16 := check R.m R.o0 R.t0 R.r0 R.f0 R.o1 R.t1 R.r1 R.f1 .no rfl L (by have := hR.1; omega)
  rw [hc0] at h16
  have hm16 := hR.1
  have h34 := f34 R.m p hm16 hp
  rw [← hLe] at h34
  have hLb : PV.bds 0 (L.map I) = true := bds_map (fun _ => rfl) L
  have hLn : L.map I ≠ [] := by
    intro hc
    have hlc : (L.map I).length = 0 := by rw [hc]; rfl
    rw [List.length_map, hlen] at hlc
    omega
  have hLl : (L.map I).length = R.m := by simp [hlen]
  have hI1 : ∀ v ∈ L.map I, v.nc = 1 ∧ PV.allOne v.cells = true := by
    intro v hv
    obtain ⟨x, _, rfl⟩ := List.mem_map.1 hv
    exact ⟨rfl, rfl⟩
  have hcs : ∀ post : List PV, flat ([] ++ L.map I) ++ post = flat ((L.map I).take (R.m - 1)) ++ ((L.map I).drop (R.m - 1) ++ post) := by
    intro post
    rw [List.nil_append, flat_I, ← List.map_take, flat_I, List.map_take, ← List.append_assoc, List.take_append_drop]
  have e1 : (L.map I).take (R.m - 1) ++ [I 2] = (L.take (R.m - 1) ++ [2]).map I := by simp [List.map_take]
  have e2 : (L.map I).take (R.m - 1) ++ [I (-1)] = (L.take (R.m - 1) ++ [-1]).map I := by simp [List.map_take]
  have h0b : PV.bds 0 ([I 0] ++ L.map I) = true := bds_map (f := I) (fun _ => rfl) (0 :: L)
  have h1b : PV.bds 0 ((L.map I).take (R.m - 1) ++ [I 2]) = true := by rw [e1]; exact bds_map (f := I) (fun _ => rfl) _
  have h2b : PV.bds 0 ((L.map I).take (R.m - 1) ++ [I (-1)]) = true := by rw [e2]; exact bds_map (f := I) (fun _ => rfl) _
  refine PFun.of (C := c6) (cx_ok _ _ _) rfl (fn := Tryz.f6) (by kernel_rfl) (c := _) rfl rfl rfl ?_
  refine Run.seq (Run.region (cx_ok _ _ _) (Reg.op rfl (Ope.boxF rfl rfl ?_)))
  refine Reg.op rfl (Ope.asg rfl ?_)
  refine Reg.nil (Run.seq (Run.seq (Run.region (cx_ok _ _ _) (Reg.op rfl (Ope.load rfl rfl ?_)))))
  refine Reg.op rfl (Ope.cf rfl rfl (h33) rfl ?_)
  refine Reg.op rfl (Ope.not rfl ?_)
  refine Reg.nil (Run.condX rfl (fun hc => ?_) fun hc => ?_)
  ·cases hc
  ·refine Run.skip (Run.seq (Run.region (cx_ok _ _ _) (Reg.op rfl (Ope.fld rfl rfl ?_))))
   refine Reg.op rfl (Ope.load rfl rfl ?_)
   refine Reg.op rfl (Ope.mov rfl ?_)
   refine Reg.op rfl (Ope.cf rfl rfl (h34) rfl ?_)
   refine Reg.op rfl (Ope.asg rfl ?_)
   refine Reg.nil (Run.seq (Run.region (cx_ok _ _ _) (Reg.op rfl (Ope.load rfl rfl ?_))))
   refine Reg.op rfl (Ope.mov rfl ?_)
   refine Reg.op rfl (Ope.cf rfl rfl h16 (by simp only [List.nil_append, List.append_nil, PV.bds, PV.bd, hLb, Bool.and_true]) ?_)
   refine Reg.op rfl (Ope.mov rfl ?_)
   refine Reg.op rfl (Ope.ext rfl rfl ?_)
   refine Reg.op rfl (Ope.ext rfl rfl ?_)
   refine Reg.op rfl (Ope.ext rfl rfl ?_)
   refine Reg.op rfl (Ope.asg rfl ?_)
   refine Reg.op rfl (Ope.asg rfl ?_)
   refine Reg.op rfl (Ope.asg rfl ?_)
   refine Reg.nil (Run.seq (Run.seq (Run.cut (fun e ds h => Lsub [(2, .fp (.agg R.cells)), (8, .sl .no (L.map I)), (9, I 0), (10, I 0), (11, I 4), (87, B false)] e ∧ ds = [] ∧ h = HE 0 []) ?_ ?_)))
   ·refine Run.region (cx_ok _ _ _) (Reg.op rfl (Ope.mov rfl ?_))
    refine Reg.op rfl (Ope.ne rfl rfl ?_)
    refine Reg.op rfl (Ope.mov rfl ?_)
    refine Reg.splitX rfl rfl (fun hg => ?_) fun hg => ?_
    ·refine Reg.on rfl rfl rfl (Ope.mov rfl ?_)
     refine Reg.on rfl rfl rfl (Ope.ne rfl rfl ?_)
     refine Reg.on rfl rfl rfl (Ope.mov rfl ?_)
     refine Reg.splitX rfl rfl (fun hg => ?_) fun hg => ?_
     ·exfalso; first | omega | exact absurd hg (by decide)
     ·refine Reg.on rfl rfl rfl (Ope.mov rfl ?_)
      refine Reg.on rfl rfl rfl (Ope.ne rfl rfl ?_)
      refine Reg.on rfl rfl rfl (Ope.pickF rfl rfl ?_)
      refine Reg.on rfl rfl rfl (Ope.mov rfl ?_)
      refine Reg.splitX rfl rfl (fun hg => ?_) fun hg => ?_
      ·exfalso; first | omega | exact absurd hg (by decide)
      ·refine Reg.on rfl rfl rfl (Ope.mov rfl ?_)
       refine Reg.on rfl rfl rfl (Ope.ne rfl rfl ?_)
       refine Reg.on rfl rfl rfl (Ope.pickF rfl rfl ?_)
       refine Reg.op rfl (Ope.pickT rfl rfl ?_)
       refine Reg.op rfl (Ope.mov rfl ?_)
       refine Reg.splitX rfl rfl (fun hg => ?_) fun hg => ?_
       ·exfalso; first | omega | exact absurd hg (by decide)
       ·refine Reg.on rfl rfl rfl (Ope.mov rfl ?_)
        refine Reg.on rfl rfl rfl (Ope.eq rfl rfl ?_)
        refine Reg.on rfl rfl rfl (Ope.mov rfl ?_)
        refine Reg.splitX rfl rfl (fun hg => ?_) fun hg => ?_
        ·exfalso; first | omega | exact absurd hg (by decide)
        ·refine Reg.off rfl rfl rfl (Reg.off rfl rfl rfl (Reg.off rfl rfl rfl (Reg.past rfl rfl rfl (Reg.past rfl rfl rfl (Reg.past rfl rfl rfl (Reg.past rfl rfl rfl (Reg.off rfl rfl rfl (Reg.off rfl rfl rfl (Reg.past rfl rfl rfl (Reg.past rfl rfl rfl (Reg.off rfl rfl rfl (Reg.off rfl rfl rfl (Reg.past rfl rfl rfl (Reg.past rfl rfl rfl (Reg.off rfl rfl rfl (Reg.on rfl rfl rfl (Ope.pickF rfl rfl ?_)))))))))))))))))
         refine Reg.op rfl (Ope.pickF rfl rfl ?_)
         exact Reg.nil (Run.lend ⟨⟨rfl, rfl, rfl, rfl, rfl, rfl, trivial⟩, rfl, rfl⟩)
    ·exfalso; first | omega | exact absurd hg (by decide)
   ·rintro e ds h ⟨hs, rfl, rfl⟩; refine Run.less hs ?_
    refine Run.condX rfl (fun hc => ?_) fun hc => ?_
    ·exfalso; first | omega | exact absurd hc (by decide)
    ·refine Run.skip (Run.seq (Run.seq (Run.region (cx_ok _ _ _) (Reg.op rfl (Ope.mov rfl ?_)))))
     first | refine Reg.op rfl (Ope.len rfl (List.length_map _) ?_) | refine Reg.op rfl (Ope.len rfl rfl ?_) | refine Reg.op rfl (Ope.lenL rfl ?_)
     refine Reg.op rfl (Ope.mov rfl ?_)
     refine Reg.nil (Run.block (Run.loop (α := Nat) (fun k => [(2, .fp (.agg R.cells)), (8, .sl .no (L.map I)), (9, I 0), (10, I 0), (11, I 4), (89, I L.length), (90, I k)]) (fun _ => HE 0 []) (fun k => k ≤ L.length) (fun k => L.length - k) 0 ⟨rfl, rfl, rfl, rfl, rfl, rfl, rfl, trivial⟩ rfl (Nat.zero_le _) (fun k hk => ?_)))
     refine Run.seq (Run.region (cx_ok _ _ _) (Reg.op rfl (Ope.lt rfl rfl ?_)))
     refine Reg.nil (Run.seq (Run.condX rfl (fun hc => ?_) fun hc => ?_))
     ·refine Run.skip (Run.seq (Run.block (Run.seq (Run.region (cx_ok _ _ _) (Reg.op rfl (Ope.mov rfl ?_))))))
      refine Reg.op rfl (Ope.asg rfl ?_)
      refine Reg.nil (Run.seq (Run.region (cx_ok _ _ _) (Reg.op rfl (Ope.load rfl rfl ?_))))
      refine Reg.op rfl (Ope.mov rfl ?_)
      refine Reg.op rfl (Ope.mov rfl ?_)
      refine Reg.op rfl (Ope.cf rfl rfl (f35 R hR .no L hx (by omega) k (by omega)) (by simp only [List.nil_append, List.append_nil, PV.bds, PV.bd, hLb, Bool.and_true]) ?_)
      refine Reg.op rfl (Ope.asg rfl ?_)
      refine Reg.nil (Run.seq (Run.seq (Run.region (cx_ok _ _ _) (Reg.op rfl (Ope.mov rfl ?_)))))
      refine Reg.op rfl (Ope.eq rfl rfl ?_)
      refine Reg.op rfl (Ope.mov rfl ?_)
      refine Reg.splitX rfl rfl (fun hg => ?_) fun hg => ?_
      ·exfalso; first | omega | exact absurd hg (by decide)
      ·refine Reg.off rfl rfl rfl (Reg.off rfl rfl rfl (Reg.off rfl rfl rfl (Reg.op rfl (Ope.pickF rfl rfl ?_))))
       refine Reg.nil (Run.condF rfl (Run.skip (Run.seq ?_)))
       have hlk := hlaw k (by omega)
       refine Run.region (cx_ok _ _ _) (Reg.op rfl (Ope.mov rfl ?_))
       refine Reg.op rfl (Ope.ne rfl rfl ?_)
       refine Reg.nil (Run.condX rfl (fun hc => ?_) fun hc => ?_)
       ·exfalso; first | omega | exact absurd hc (by decide)
       ·refine Run.skip (Run.bend (Run.region (cx_ok _ _ _) (Reg.op rfl (Ope.add rfl rfl (by omega) ?_))))
        refine Reg.op rfl (Ope.mov rfl ?_)
        refine Reg.nil (Run.lend ⟨k + 1, by omega, by omega, ⟨rfl, rfl, rfl, rfl, rfl, rfl, rfl, trivial⟩, rfl, rfl⟩)
     ·refine Run.exit (Jmp.code (Jmp.round (Jmp.here (Run.seq (Run.seq (Run.region (cx_ok _ _ _) (Reg.op rfl (Ope.bsl rfl rfl rfl rfl ?_))))))))
      refine Reg.op rfl (Ope.mov rfl ?_)
      refine Reg.op rfl (Ope.apX rfl rfl hLn (by simp only [hLl, List.length_singleton]; omega) (by simp only [hLl, List.length_singleton]; omega) (by decide) (by simp [PV.nc]) hI1 ?_)
      refine Reg.op rfl (Ope.bsl rfl rfl rfl rfl ?_)
      refine Reg.op rfl (Ope.mov rfl ?_)
      refine Reg.op rfl (Ope.apL rfl rfl hLn (by simp only [hLl, List.length_nil]; omega) (by simp only [hLl, List.length_nil]; omega) (by decide) (by simp) hI1 (fun c1 post1 ez1 hcap1 hpost1 => ?_))
      refine Reg.op rfl (Ope.mov rfl ?_)
      first | refine Reg.op rfl (Ope.len rfl (List.length_map _) ?_) | refine Reg.op rfl (Ope.len rfl rfl ?_) | refine Reg.op rfl (Ope.lenL rfl ?_)
      refine Reg.op rfl (Ope.sub rfl rfl (by omega) ?_)
      refine Reg.op rfl (Ope.maxI rfl rfl ?_)
      refine Reg.op rfl (Ope.slTL (m := R.m - 1) rfl rfl (by omega) (by omega) hcap1 ?_)
      refine Reg.op rfl (Ope.bsl rfl rfl rfl rfl ?_)
      refine Reg.op rfl (Ope.apM (vs := (L.map I).take (R.m - 1)) (post := (L.map I).drop (R.m - 1) ++ post1) rfl rfl rfl (hcs post1) (by simp [hlen]) (fun v hv => (hI1 v (List.mem_of_mem_take hv)).1) (by intro v hv; simp at hv; subst hv; exact ⟨rfl, rfl⟩) (by simp [hlen]; omega) (by simp [hlen]; omega) ?_)
      refine Reg.op rfl (Ope.bsl rfl rfl rfl rfl ?_)
      refine Reg.op rfl (Ope.mov rfl ?_)
      refine Reg.op rfl (Ope.apL rfl rfl hLn (by simp only [hLl, List.length_nil]; omega) (by simp only [hLl, List.length_nil]; omega) (by decide) (by simp) hI1 (fun c2 post2 ez2 hcap2 hpost2 => ?_))
      refine Reg.op rfl (Ope.mov rfl ?_)
      first | refine Reg.op rfl (Ope.len rfl (List.length_map _) ?_) | refine Reg.op rfl (Ope.len rfl rfl ?_) | refine Reg.op rfl (Ope.lenL rfl ?_)
      refine Reg.op rfl (Ope.sub rfl rfl (by omega) ?_)
      refine Reg.op rfl (Ope.maxI rfl rfl ?_)
      refine Reg.op rfl (Ope.slTL (m := R.m - 1) rfl rfl (by omega) (by omega) hcap2 ?_)
      refine Reg.op rfl (Ope.bsl rfl rfl rfl rfl ?_)
      refine Reg.op rfl (Ope.apM (vs := (L.map I).take (R.m - 1)) (post := (L.map I).drop (R.m - 1) ++ post2) rfl rfl rfl (hcs post2) (by simp [hlen]) (fun v hv => (hI1 v (List.mem_of_mem_take hv)).1) (by intro v hv; simp at hv; subst hv; exact ⟨rfl, rfl⟩) (by simp [hlen]; omega) (by simp [hlen]; omega) ?_)
      refine Reg.op rfl (Ope.bsl rfl rfl rfl rfl ?_)
      first | refine Reg.op rfl (Ope.len rfl (List.length_map _) ?_) | refine Reg.op rfl (Ope.len rfl rfl ?_) | refine Reg.op rfl (Ope.lenL rfl ?_)
      refine Reg.op rfl (Ope.mov rfl ?_)
      refine Reg.nil (Run.block (Run.wide (m := 3) (Nat.le_refl _) Hsub.nil ?_))
      refine Run.loop (α := Nat) (fun k => [(2, .fp (.agg R.cells)), (133, .sl .ex [.sl .no ([I 0] ++ L.map I), .sl .no ((L.map I).take (R.m - 1) ++ [I 2]), .sl .no ((L.map I).take (R.m - 1) ++ [I (-1)])]), (134, I 3), (135, I k)]) (fun _ => HE 3 []) (fun k => k ≤ 3) (fun k => 3 - k) 0 ⟨rfl, rfl, rfl, rfl, trivial⟩ rfl (Nat.zero_le _) (fun k hk => ?_)
      rcases (by omega : k = 0 ∨ k = 1 ∨ k = 2 ∨ k = 3) with rfl | rfl | rfl | rfl
      ·refine Run.seq (Run.region (cx_ok _ _ _) (Reg.op rfl (Ope.lt rfl rfl ?_)))
       refine Reg.nil (Run.seq (Run.condX rfl (fun hc => ?_) fun hc => ?_))
       ·refine Run.skip (Run.seq (Run.block (Run.seq (Run.region (cx_ok _ _ _) (Reg.op rfl (Ope.idxS rfl rfl rfl rfl rfl ?_))))))
        refine Reg.op rfl (Ope.load rfl rfl ?_)
        refine Reg.op rfl (Ope.asg rfl ?_)
        refine Reg.nil (Run.seq (Run.region (cx_ok _ _ _) (Reg.op rfl (Ope.load rfl rfl ?_))))
        refine Reg.op rfl (Ope.mov rfl ?_)
        first
          | refine Reg.op rfl (Ope.cf rfl rfl (checkBad hv (xs := 0 :: L) (bad0 hlen) (by simp; omega) rfl) (by simp only [List.nil_append, List.append_nil, PV.bds, PV.bd, h0b, Bool.and_true]) ?_)
          | refine Reg.op rfl (Ope.cf rfl rfl (checkBad hv (xs := L.take (R.m - 1) ++ [2]) (bad1 (by decide)) (by simp; omega) e1) (by simp only [List.nil_append, List.append_nil, PV.bds, PV.bd, h1b, Bool.and_true]) ?_)
          | refine Reg.op rfl (Ope.cf rfl rfl (checkBad hv (xs := L.take (R.m - 1) ++ [-1]) (bad1 (by decide)) (by simp; omega) e2) (by simp only [List.nil_append, List.append_nil, PV.bds, PV.bd, h2b, Bool.and_true]) ?_)
        refine Reg.op rfl (Ope.mov rfl ?_)
        refine Reg.op rfl (Ope.ext rfl rfl ?_)
        refine Reg.op rfl (Ope.ext rfl rfl ?_)
        refine Reg.op rfl (Ope.ext rfl rfl ?_)
        refine Reg.op rfl (Ope.asg rfl ?_)
        refine Reg.op rfl (Ope.asg rfl ?_)
        refine Reg.op rfl (Ope.asg rfl ?_)
        refine Reg.nil (Run.seq (Run.region (cx_ok _ _ _) (Reg.op rfl (Ope.mov rfl ?_))))
        refine Reg.op rfl (Ope.ne rfl rfl ?_)
        refine Reg.nil (Run.condX rfl (fun hc => ?_) fun hc => ?_)
        ·exfalso; first | omega | exact absurd hc (by decide)
        ·refine Run.skip (Run.bend (Run.region (cx_ok _ _ _) (Reg.op rfl (Ope.add rfl rfl (by omega) ?_))))
         refine Reg.op rfl (Ope.mov rfl ?_)
         refine Reg.nil ?_
         first
           | exact Run.lend ⟨1, by decide, by decide, ⟨rfl, rfl, rfl, rfl, trivial⟩, rfl, rfl⟩
           | exact Run.lend ⟨2, by decide, by decide, ⟨rfl, rfl, rfl, rfl, trivial⟩, rfl, rfl⟩
           | exact Run.lend ⟨3, by decide, by decide, ⟨rfl, rfl, rfl, rfl, trivial⟩, rfl, rfl⟩
       ·exfalso; first | omega | exact absurd hc (by decide)
      ·refine Run.seq (Run.region (cx_ok _ _ _) (Reg.op rfl (Ope.lt rfl rfl ?_)))
       refine Reg.nil (Run.seq (Run.condX rfl (fun hc => ?_) fun hc => ?_))
       ·refine Run.skip (Run.seq (Run.block (Run.seq (Run.region (cx_ok _ _ _) (Reg.op rfl (Ope.idxS rfl rfl rfl rfl rfl ?_))))))
        refine Reg.op rfl (Ope.load rfl rfl ?_)
        refine Reg.op rfl (Ope.asg rfl ?_)
        refine Reg.nil (Run.seq (Run.region (cx_ok _ _ _) (Reg.op rfl (Ope.load rfl rfl ?_))))
        refine Reg.op rfl (Ope.mov rfl ?_)
        first
          | refine Reg.op rfl (Ope.cf rfl rfl (checkBad hv (xs := 0 :: L) (bad0 hlen) (by simp; omega) rfl) (by simp only [List.nil_append, List.append_nil, PV.bds, PV.bd, h0b, Bool.and_true]) ?_)
          | refine Reg.op rfl (Ope.cf rfl rfl (checkBad hv (xs := L.take (R.m - 1) ++ [2]) (bad1 (by decide)) (by simp; omega) e1) (by simp only [List.nil_append, List.append_nil, PV.bds, PV.bd, h1b, Bool.and_true]) ?_)
          | refine Reg.op rfl (Ope.cf rfl rfl (checkBad hv (xs := L.take (R.m - 1) ++ [-1]) (bad1 (by decide)) (by simp; omega) e2) (by simp only [List.nil_append, List.append_nil, PV.bds, PV.bd, h2b, Bool.and_true]) ?_)
        refine Reg.op rfl (Ope.mov rfl ?_)
        refine Reg.op rfl (Ope.ext rfl rfl ?_)
        refine Reg.op rfl (Ope.ext rfl rfl ?_)
        refine Reg.op rfl (Ope.ext rfl rfl ?_)
        refine Reg.op rfl (Ope.asg rfl ?_)
        refine Reg.op rfl (Ope.asg rfl ?_)
        refine Reg.op rfl (Ope.asg rfl ?_)
        refine Reg.nil (Run.seq (Run.region (cx_ok _ _ _) (Reg.op rfl (Ope.mov rfl ?_))))
        refine Reg.op rfl (Ope.ne rfl rfl ?_)
        refine Reg.nil (Run.condX rfl (fun hc => ?_) fun hc => ?_)
        ·exfalso; first | omega | exact absurd hc (by decide)
        ·refine Run.skip (Run.bend (Run.region (cx_ok _ _ _) (Reg.op rfl (Ope.add rfl rfl (by omega) ?_))))
         refine Reg.op rfl (Ope.mov rfl ?_)
         refine Reg.nil ?_
         first
           | exact Run.lend ⟨1, by decide, by decide, ⟨rfl, rfl, rfl, rfl, trivial⟩, rfl, rfl⟩
           | exact Run.lend ⟨2, by decide, by decide, ⟨rfl, rfl, rfl, rfl, trivial⟩, rfl, rfl⟩
           | exact Run.lend ⟨3, by decide, by decide, ⟨rfl, rfl, rfl, rfl, trivial⟩, rfl, rfl⟩
       ·exfalso; first | omega | exact absurd hc (by decide)
      ·refine Run.seq (Run.region (cx_ok _ _ _) (Reg.op rfl (Ope.lt rfl rfl ?_)))
       refine Reg.nil (Run.seq (Run.condX rfl (fun hc => ?_) fun hc => ?_))
       ·refine Run.skip (Run.seq (Run.block (Run.seq (Run.region (cx_ok _ _ _) (Reg.op rfl (Ope.idxS rfl rfl rfl rfl rfl ?_))))))
        refine Reg.op rfl (Ope.load rfl rfl ?_)
        refine Reg.op rfl (Ope.asg rfl ?_)
        refine Reg.nil (Run.seq (Run.region (cx_ok _ _ _) (Reg.op rfl (Ope.load rfl rfl ?_))))
        refine Reg.op rfl (Ope.mov rfl ?_)
        first
          | refine Reg.op rfl (Ope.cf rfl rfl (checkBad hv (xs := 0 :: L) (bad0 hlen) (by simp; omega) rfl) (by simp only [List.nil_append, List.append_nil, PV.bds, PV.bd, h0b, Bool.and_true]) ?_)
          | refine Reg.op rfl (Ope.cf rfl rfl (checkBad hv (xs := L.take (R.m - 1) ++ [2]) (bad1 (by decide)) (by simp; omega) e1) (by simp only [List.nil_append, List.append_nil, PV.bds, PV.bd, h1b, Bool.and_true]) ?_)
          | refine Reg.op rfl (Ope.cf rfl rfl (checkBad hv (xs := L.take (R.m - 1) ++ [-1]) (bad1 (by decide)) (by simp; omega) e2) (by simp only [List.nil_append, List.append_nil, PV.bds, PV.bd, h2b, Bool.and_true]) ?_)
        refine Reg.op rfl (Ope.mov rfl ?_)
        refine Reg.op rfl (Ope.ext rfl rfl ?_)
        refine Reg.op rfl (Ope.ext rfl rfl ?_)
        refine Reg.op rfl (Ope.ext rfl rfl ?_)
        refine Reg.op rfl (Ope.asg rfl ?_)
        refine Reg.op rfl (Ope.asg rfl ?_)
        refine Reg.op rfl (Ope.asg rfl ?_)
        refine Reg.nil (Run.seq (Run.region (cx_ok _ _ _) (Reg.op rfl (Ope.mov rfl ?_))))
        refine Reg.op rfl (Ope.ne rfl rfl ?_)
        refine Reg.nil (Run.condX rfl (fun hc => ?_) fun hc => ?_)
        ·exfalso; first | omega | exact absurd hc (by decide)
        ·refine Run.skip (Run.bend (Run.region (cx_ok _ _ _) (Reg.op rfl (Ope.add rfl rfl (by omega) ?_))))
         refine Reg.op rfl (Ope.mov rfl ?_)
         refine Reg.nil ?_
         first
           | exact Run.lend ⟨1, by decide, by decide, ⟨rfl, rfl, rfl, rfl, trivial⟩, rfl, rfl⟩
           | exact Run.lend ⟨2, by decide, by decide, ⟨rfl, rfl, rfl, rfl, trivial⟩, rfl, rfl⟩
           | exact Run.lend ⟨3, by decide, by decide, ⟨rfl, rfl, rfl, rfl, trivial⟩, rfl, rfl⟩
       ·exfalso; first | omega | exact absurd hc (by decide)
      ·refine Run.seq (Run.region (cx_ok _ _ _) (Reg.op rfl (Ope.lt rfl rfl ?_)))
       refine Reg.nil (Run.seq (Run.condX rfl (fun hc => ?_) fun hc => ?_))
       ·exfalso; first | omega | exact absurd hc (by decide)
       ·refine Run.exit (Jmp.code (Jmp.round (Jmp.here (Run.seq (Run.region (cx_ok _ _ _) (Reg.op rfl (Ope.clo rfl rfl awakeC ?_)))))))
        refine Reg.op rfl (Ope.asg rfl ?_)
        refine Reg.nil (Run.ret (fin_ret (.tmp rfl .nil) rfl ?_))
        rfl
theorem f6f (R : Rst) (hR : R.ok) (hv : validR R.m R.o0 R.t0 R.r0 R.f0 R.o1 R.t1 R.r1 R.f1 = true) (p : Nat) (hp : p < 65536) (L : List Int) (hLe : L = byL R.m p) (hx : ∀ x ∈ L, x = 0 ∨ x = 1) (hlen : L.length = R.m) (h1 : 1 ≤ R.m)
    (hh : Nat) (q : Int) (hhm : hh < R.m) (hq : 1 ≤ q ∧ q ≤ 4) (hc0 : checkV R.m R.o0 R.t0 R.r0 R.f0 R.o1 R.t1 R.r1 R.f1 L = ((hh : Int), q, 0)) (hlaw : ∀ i, i < hh → R.law L i = 0) (hlaq : R.law L hh = q) : Fn P0 6 [.agg R.cells, .lit (.int .u16 (p : Int))] (B true) := by
  have h33 := f33 R.m R.o0 R.t0 R.r0 R.f0 R.o1 R.t1 R.r1 R.f1
  rw [hv] at h33
  have h16 : Fn P0 16 [.agg R.cells, .sl .no (L.map I)] (.tup [I (hh : Int), I q, I 0]) := by
    have := check R.m R.o0 R.t0 R.r0 R.f0 R.o1 R.t1 R.r1 R.f1 .no rfl L (by have := hR.1; omega)
    rw [hc0] at this
    exact this
  have hm16 := hR.1
  have h34 := f34 R.m p hm16 hp
  rw [← hLe] at h34
  have hLb : PV.bds 0 (L.map I) = true := bds_map (fun _ => rfl) L
  have hLn : L.map I ≠ [] := by
    intro hc
    have hlc : (L.map I).length = 0 := by rw [hc]; rfl
    rw [List.length_map, hlen] at hlc
    omega
  have hLl : (L.map I).length = R.m := by simp [hlen]
  have hI1 : ∀ v ∈ L.map I, v.nc = 1 ∧ PV.allOne v.cells = true := by
    intro v hv
    obtain ⟨x, _, rfl⟩ := List.mem_map.1 hv
    exact ⟨rfl, rfl⟩
  have hcs : ∀ post : List PV, flat ([] ++ L.map I) ++ post = flat ((L.map I).take (R.m - 1)) ++ ((L.map I).drop (R.m - 1) ++ post) := by
    intro post
    rw [List.nil_append, flat_I, ← List.map_take, flat_I, List.map_take, ← List.append_assoc, List.take_append_drop]
  have e1 : (L.map I).take (R.m - 1) ++ [I 2] = (L.take (R.m - 1) ++ [2]).map I := by simp [List.map_take]
  have e2 : (L.map I).take (R.m - 1) ++ [I (-1)] = (L.take (R.m - 1) ++ [-1]).map I := by simp [List.map_take]
  have h0b : PV.bds 0 ([I 0] ++ L.map I) = true := bds_map (f := I) (fun _ => rfl) (0 :: L)
  have h1b : PV.bds 0 ((L.map I).take (R.m - 1) ++ [I 2]) = true := by rw [e1]; exact bds_map (f := I) (fun _ => rfl) _
  have h2b : PV.bds 0 ((L.map I).take (R.m - 1) ++ [I (-1)]) = true := by rw [e2]; exact bds_map (f := I) (fun _ => rfl) _
  refine PFun.of (C := c6) (cx_ok _ _ _) rfl (fn := Tryz.f6) (by kernel_rfl) (c := _) rfl rfl rfl ?_
  refine Run.seq (Run.region (cx_ok _ _ _) (Reg.op rfl (Ope.boxF rfl rfl ?_)))
  refine Reg.op rfl (Ope.asg rfl ?_)
  refine Reg.nil (Run.seq (Run.seq (Run.region (cx_ok _ _ _) (Reg.op rfl (Ope.load rfl rfl ?_)))))
  refine Reg.op rfl (Ope.cf rfl rfl (h33) rfl ?_)
  refine Reg.op rfl (Ope.not rfl ?_)
  refine Reg.nil (Run.condX rfl (fun hc => ?_) fun hc => ?_)
  ·cases hc
  ·refine Run.skip (Run.seq (Run.region (cx_ok _ _ _) (Reg.op rfl (Ope.fld rfl rfl ?_))))
   refine Reg.op rfl (Ope.load rfl rfl ?_)
   refine Reg.op rfl (Ope.mov rfl ?_)
   refine Reg.op rfl (Ope.cf rfl rfl (h34) rfl ?_)
   refine Reg.op rfl (Ope.asg rfl ?_)
   refine Reg.nil (Run.seq (Run.region (cx_ok _ _ _) (Reg.op rfl (Ope.load rfl rfl ?_))))
   refine Reg.op rfl (Ope.mov rfl ?_)
   refine Reg.op rfl (Ope.cf rfl rfl h16 (by simp only [List.nil_append, List.append_nil, PV.bds, PV.bd, hLb, Bool.and_true]) ?_)
   refine Reg.op rfl (Ope.mov rfl ?_)
   refine Reg.op rfl (Ope.ext rfl rfl ?_)
   refine Reg.op rfl (Ope.ext rfl rfl ?_)
   refine Reg.op rfl (Ope.ext rfl rfl ?_)
   refine Reg.op rfl (Ope.asg rfl ?_)
   refine Reg.op rfl (Ope.asg rfl ?_)
   refine Reg.op rfl (Ope.asg rfl ?_)
   refine Reg.nil (Run.seq (Run.seq (Run.cut (fun e ds h => Lsub [(2, .fp (.agg R.cells)), (8, .sl .no (L.map I)), (9, I hh), (10, I q), (11, I 0), (87, B false)] e ∧ ds = [] ∧ h = HE 0 []) ?_ ?_)))
   ·refine Run.region (cx_ok _ _ _) (Reg.op rfl (Ope.mov rfl ?_))
    refine Reg.op rfl (Ope.ne rfl rfl ?_)
    refine Reg.op rfl (Ope.mov rfl ?_)
    refine Reg.splitX rfl rfl (fun hg => ?_) fun hg => ?_
    ·exfalso; first | omega | exact absurd hg (by decide)
    ·refine Reg.off rfl rfl rfl (Reg.off rfl rfl rfl (Reg.off rfl rfl rfl (Reg.past rfl rfl rfl (Reg.past rfl rfl rfl (Reg.off rfl rfl rfl (Reg.off rfl rfl rfl (Reg.past rfl rfl rfl (Reg.past rfl rfl rfl (Reg.off rfl rfl rfl (Reg.op rfl (Ope.pickF rfl rfl ?_)))))))))))
     refine Reg.op rfl (Ope.mov rfl ?_)
     refine Reg.on rfl rfl rfl (Ope.mov rfl ?_)
     refine Reg.on rfl rfl rfl (Ope.eq rfl rfl ?_)
     refine Reg.on rfl rfl rfl (Ope.mov rfl ?_)
     refine Reg.splitX rfl rfl (fun hg => ?_) fun hg => ?_
     ·refine Reg.on rfl rfl rfl (Ope.mov rfl ?_)
      refine Reg.on rfl rfl rfl (Ope.lt rfl rfl ?_)
      refine Reg.on rfl rfl rfl (Ope.mov rfl ?_)
      refine Reg.splitX rfl rfl (fun hg => ?_) fun hg => ?_
      ·exfalso; first | omega | exact absurd hg (by decide)
      ·refine Reg.on rfl rfl rfl (Ope.mov rfl ?_)
       refine Reg.on rfl rfl rfl (Ope.fld rfl rfl ?_)
       refine Reg.on rfl rfl rfl (Ope.load rfl rfl ?_)
       refine Reg.on rfl rfl rfl (Ope.ge rfl rfl ?_)
       refine Reg.on rfl rfl rfl (Ope.pickF rfl rfl ?_)
       refine Reg.on rfl rfl rfl (Ope.mov rfl ?_)
       refine Reg.splitX rfl rfl (fun hg => ?_) fun hg => ?_
       ·exfalso; first | omega | exact absurd hg (by decide)
       ·refine Reg.on rfl rfl rfl (Ope.mov rfl ?_)
        refine Reg.on rfl rfl rfl (Ope.lt rfl rfl ?_)
        refine Reg.on rfl rfl rfl (Ope.pickF rfl rfl ?_)
        refine Reg.on rfl rfl rfl (Ope.mov rfl ?_)
        refine Reg.splitX rfl rfl (fun hg => ?_) fun hg => ?_
        ·exfalso; first | omega | exact absurd hg (by decide)
        ·refine Reg.on rfl rfl rfl (Ope.mov rfl ?_)
         refine Reg.on rfl rfl rfl (Ope.gt rfl rfl ?_)
         refine Reg.on rfl rfl rfl (Ope.pickF rfl rfl ?_)
         refine Reg.on rfl rfl rfl (Ope.pickT rfl rfl ?_)
         refine Reg.op rfl (Ope.pickF rfl rfl ?_)
         exact Reg.nil (Run.lend ⟨⟨rfl, rfl, rfl, rfl, rfl, congrArg (fun b => some (B b)) (decide_eq_false (by omega)), trivial⟩, rfl, rfl⟩)
     ·exfalso; first | omega | exact absurd hg (by decide)
   ·rintro e ds h ⟨hs, rfl, rfl⟩; refine Run.less hs ?_
    refine Run.condX rfl (fun hc => ?_) fun hc => ?_
    ·exfalso; first | omega | exact absurd hc (by decide)
    ·refine Run.skip (Run.seq (Run.seq (Run.region (cx_ok _ _ _) (Reg.op rfl (Ope.mov rfl ?_)))))
     first | refine Reg.op rfl (Ope.len rfl (List.length_map _) ?_) | refine Reg.op rfl (Ope.len rfl rfl ?_) | refine Reg.op rfl (Ope.lenL rfl ?_)
     refine Reg.op rfl (Ope.mov rfl ?_)
     refine Reg.nil (Run.block (Run.loop (α := Nat) (fun k => [(2, .fp (.agg R.cells)), (8, .sl .no (L.map I)), (9, I hh), (10, I q), (11, I 0), (89, I L.length), (90, I k)]) (fun _ => HE 0 []) (fun k => k ≤ hh) (fun k => L.length - k) 0 ⟨rfl, rfl, rfl, rfl, rfl, rfl, rfl, trivial⟩ rfl (Nat.zero_le _) (fun k hk => ?_)))
     refine Run.seq (Run.region (cx_ok _ _ _) (Reg.op rfl (Ope.lt rfl rfl ?_)))
     refine Reg.nil (Run.seq (Run.condX rfl (fun hc => ?_) fun hc => ?_))
     ·refine Run.skip (Run.seq (Run.block (Run.seq (Run.region (cx_ok _ _ _) (Reg.op rfl (Ope.mov rfl ?_))))))
      refine Reg.op rfl (Ope.asg rfl ?_)
      refine Reg.nil (Run.seq (Run.region (cx_ok _ _ _) (Reg.op rfl (Ope.load rfl rfl ?_))))
      refine Reg.op rfl (Ope.mov rfl ?_)
      refine Reg.op rfl (Ope.mov rfl ?_)
      refine Reg.op rfl (Ope.cf rfl rfl (f35 R hR .no L hx (by omega) k (by omega)) (by simp only [List.nil_append, List.append_nil, PV.bds, PV.bd, hLb, Bool.and_true]) ?_)
      refine Reg.op rfl (Ope.asg rfl ?_)
      refine Reg.nil (Run.seq (Run.seq ?_))
      have hlk1 : k < hh → R.law L k = 0 := hlaw k
      have hlk2 : k = hh → R.law L k = q := fun e => by rw [e]; exact hlaq
      refine Run.region (cx_ok _ _ _) (Reg.op rfl (Ope.mov rfl ?_))
      refine Reg.op rfl (Ope.eq rfl rfl ?_)
      refine Reg.op rfl (Ope.mov rfl ?_)
      refine Reg.splitX rfl rfl (fun hg => ?_) fun hg => ?_
      ·refine Reg.on rfl rfl rfl (Ope.mov rfl ?_)
       refine Reg.on rfl rfl rfl (Ope.mov rfl ?_)
       refine Reg.on rfl rfl rfl (Ope.eq rfl rfl ?_)
       refine Reg.op rfl (Ope.pickT rfl rfl ?_)
       refine Reg.nil (Run.condX rfl (fun hc => ?_) fun hc => ?_)
       ·refine Run.seq (Run.seq (Run.region (cx_ok _ _ _) (Reg.op rfl (Ope.mov rfl ?_))))
        refine Reg.op rfl (Ope.mov rfl ?_)
        refine Reg.op rfl (Ope.ne rfl rfl ?_)
        refine Reg.nil (Run.condX rfl (fun hc => ?_) fun hc => ?_)
        ·exfalso; first | omega | exact absurd hc (by decide)
        ·refine Run.skip (Run.exit (Jmp.code (Jmp.past rfl (Jmp.code (Jmp.round (Jmp.here (Run.seq (Run.seq (Run.region (cx_ok _ _ _) (Reg.op rfl (Ope.bsl rfl rfl rfl rfl ?_)))))))))))
         refine Reg.op rfl (Ope.mov rfl ?_)
         refine Reg.op rfl (Ope.apX rfl rfl hLn (by simp only [hLl, List.length_singleton]; omega) (by simp only [hLl, List.length_singleton]; omega) (by decide) (by simp [PV.nc]) hI1 ?_)
         refine Reg.op rfl (Ope.bsl rfl rfl rfl rfl ?_)
         refine Reg.op rfl (Ope.mov rfl ?_)
         refine Reg.op rfl (Ope.apL rfl rfl hLn (by simp only [hLl, List.length_nil]; omega) (by simp only [hLl, List.length_nil]; omega) (by decide) (by simp) hI1 (fun c1 post1 ez1 hcap1 hpost1 => ?_))
         refine Reg.op rfl (Ope.mov rfl ?_)
         first | refine Reg.op rfl (Ope.len rfl (List.length_map _) ?_) | refine Reg.op rfl (Ope.len rfl rfl ?_) | refine Reg.op rfl (Ope.lenL rfl ?_)
         refine Reg.op rfl (Ope.sub rfl rfl (by omega) ?_)
         refine Reg.op rfl (Ope.maxI rfl rfl ?_)
         refine Reg.op rfl (Ope.slTL (m := R.m - 1) rfl rfl (by omega) (by omega) hcap1 ?_)
         refine Reg.op rfl (Ope.bsl rfl rfl rfl rfl ?_)
         refine Reg.op rfl (Ope.apM (vs := (L.map I).take (R.m - 1)) (post := (L.map I).drop (R.m - 1) ++ post1) rfl rfl rfl (hcs post1) (by simp [hlen]) (fun v hv => (hI1 v (List.mem_of_mem_take hv)).1) (by intro v hv; simp at hv; subst hv; exact ⟨rfl, rfl⟩) (by simp [hlen]; omega) (by simp [hlen]; omega) ?_)
         refine Reg.op rfl (Ope.bsl rfl rfl rfl rfl ?_)
         refine Reg.op rfl (Ope.mov rfl ?_)
         refine Reg.op rfl (Ope.apL rfl rfl hLn (by simp only [hLl, List.length_nil]; omega) (by simp only [hLl, List.length_nil]; omega) (by decide) (by simp) hI1 (fun c2 post2 ez2 hcap2 hpost2 => ?_))
         refine Reg.op rfl (Ope.mov rfl ?_)
         first | refine Reg.op rfl (Ope.len rfl (List.length_map _) ?_) | refine Reg.op rfl (Ope.len rfl rfl ?_) | refine Reg.op rfl (Ope.lenL rfl ?_)
         refine Reg.op rfl (Ope.sub rfl rfl (by omega) ?_)
         refine Reg.op rfl (Ope.maxI rfl rfl ?_)
         refine Reg.op rfl (Ope.slTL (m := R.m - 1) rfl rfl (by omega) (by omega) hcap2 ?_)
         refine Reg.op rfl (Ope.bsl rfl rfl rfl rfl ?_)
         refine Reg.op rfl (Ope.apM (vs := (L.map I).take (R.m - 1)) (post := (L.map I).drop (R.m - 1) ++ post2) rfl rfl rfl (hcs post2) (by simp [hlen]) (fun v hv => (hI1 v (List.mem_of_mem_take hv)).1) (by intro v hv; simp at hv; subst hv; exact ⟨rfl, rfl⟩) (by simp [hlen]; omega) (by simp [hlen]; omega) ?_)
         refine Reg.op rfl (Ope.bsl rfl rfl rfl rfl ?_)
         first | refine Reg.op rfl (Ope.len rfl (List.length_map _) ?_) | refine Reg.op rfl (Ope.len rfl rfl ?_) | refine Reg.op rfl (Ope.lenL rfl ?_)
         refine Reg.op rfl (Ope.mov rfl ?_)
         refine Reg.nil (Run.block (Run.wide (m := 3) (Nat.le_refl _) Hsub.nil ?_))
         refine Run.loop (α := Nat) (fun k => [(2, .fp (.agg R.cells)), (133, .sl .ex [.sl .no ([I 0] ++ L.map I), .sl .no ((L.map I).take (R.m - 1) ++ [I 2]), .sl .no ((L.map I).take (R.m - 1) ++ [I (-1)])]), (134, I 3), (135, I k)]) (fun _ => HE 3 []) (fun k => k ≤ 3) (fun k => 3 - k) 0 ⟨rfl, rfl, rfl, rfl, trivial⟩ rfl (Nat.zero_le _) (fun k hk => ?_)
         rcases (by omega : k = 0 ∨ k = 1 ∨ k = 2 ∨ k = 3) with rfl | rfl | rfl | rfl
         ·refine Run.seq (Run.region (cx_ok _ _ _) (Reg.op rfl (Ope.lt rfl rfl ?_)))
          refine Reg.nil (Run.seq (Run.condX rfl (fun hc => ?_) fun hc => ?_))
          ·refine Run.skip (Run.seq (Run.block (Run.seq (Run.region (cx_ok _ _ _) (Reg.op rfl (Ope.idxS rfl rfl rfl rfl rfl ?_))))))
           refine Reg.op rfl (Ope.load rfl rfl ?_)
           refine Reg.op rfl (Ope.asg rfl ?_)
           refine Reg.nil (Run.seq (Run.region (cx_ok _ _ _) (Reg.op rfl (Ope.load rfl rfl ?_))))
           refine Reg.op rfl (Ope.mov rfl ?_)
           first
             | refine Reg.op rfl (Ope.cf rfl rfl (checkBad hv (xs := 0 :: L) (bad0 hlen) (by simp; omega) rfl) (by simp only [List.nil_append, List.append_nil, PV.bds, PV.bd, h0b, Bool.and_true]) ?_)
             | refine Reg.op rfl (Ope.cf rfl rfl (checkBad hv (xs := L.take (R.m - 1) ++ [2]) (bad1 (by decide)) (by simp; omega) e1) (by simp only [List.nil_append, List.append_nil, PV.bds, PV.bd, h1b, Bool.and_true]) ?_)
             | refine Reg.op rfl (Ope.cf rfl rfl (checkBad hv (xs := L.take (R.m - 1) ++ [-1]) (bad1 (by decide)) (by simp; omega) e2) (by simp only [List.nil_append, List.append_nil, PV.bds, PV.bd, h2b, Bool.and_true]) ?_)
           refine Reg.op rfl (Ope.mov rfl ?_)
           refine Reg.op rfl (Ope.ext rfl rfl ?_)
           refine Reg.op rfl (Ope.ext rfl rfl ?_)
           refine Reg.op rfl (Ope.ext rfl rfl ?_)
           refine Reg.op rfl (Ope.asg rfl ?_)
           refine Reg.op rfl (Ope.asg rfl ?_)
           refine Reg.op rfl (Ope.asg rfl ?_)
           refine Reg.nil (Run.seq (Run.region (cx_ok _ _ _) (Reg.op rfl (Ope.mov rfl ?_))))
           refine Reg.op rfl (Ope.ne rfl rfl ?_)
           refine Reg.nil (Run.condX rfl (fun hc => ?_) fun hc => ?_)
           ·exfalso; first | omega | exact absurd hc (by decide)
           ·refine Run.skip (Run.bend (Run.region (cx_ok _ _ _) (Reg.op rfl (Ope.add rfl rfl (by omega) ?_))))
            refine Reg.op rfl (Ope.mov rfl ?_)
            refine Reg.nil ?_
            first
              | exact Run.lend ⟨1, by decide, by decide, ⟨rfl, rfl, rfl, rfl, trivial⟩, rfl, rfl⟩
              | exact Run.lend ⟨2, by decide, by decide, ⟨rfl, rfl, rfl, rfl, trivial⟩, rfl, rfl⟩
              | exact Run.lend ⟨3, by decide, by decide, ⟨rfl, rfl, rfl, rfl, trivial⟩, rfl, rfl⟩
          ·exfalso; first | omega | exact absurd hc (by decide)
         ·refine Run.seq (Run.region (cx_ok _ _ _) (Reg.op rfl (Ope.lt rfl rfl ?_)))
          refine Reg.nil (Run.seq (Run.condX rfl (fun hc => ?_) fun hc => ?_))
          ·refine Run.skip (Run.seq (Run.block (Run.seq (Run.region (cx_ok _ _ _) (Reg.op rfl (Ope.idxS rfl rfl rfl rfl rfl ?_))))))
           refine Reg.op rfl (Ope.load rfl rfl ?_)
           refine Reg.op rfl (Ope.asg rfl ?_)
           refine Reg.nil (Run.seq (Run.region (cx_ok _ _ _) (Reg.op rfl (Ope.load rfl rfl ?_))))
           refine Reg.op rfl (Ope.mov rfl ?_)
           first
             | refine Reg.op rfl (Ope.cf rfl rfl (checkBad hv (xs := 0 :: L) (bad0 hlen) (by simp; omega) rfl) (by simp only [List.nil_append, List.append_nil, PV.bds, PV.bd, h0b, Bool.and_true]) ?_)
             | refine Reg.op rfl (Ope.cf rfl rfl (checkBad hv (xs := L.take (R.m - 1) ++ [2]) (bad1 (by decide)) (by simp; omega) e1) (by simp only [List.nil_append, List.append_nil, PV.bds, PV.bd, h1b, Bool.and_true]) ?_)
             | refine Reg.op rfl (Ope.cf rfl rfl (checkBad hv (xs := L.take (R.m - 1) ++ [-1]) (bad1 (by decide)) (by simp; omega) e2) (by simp only [List.nil_append, List.append_nil, PV.bds, PV.bd, h2b, Bool.and_true]) ?_)
           refine Reg.op rfl (Ope.mov rfl ?_)
           refine Reg.op rfl (Ope.ext rfl rfl ?_)
           refine Reg.op rfl (Ope.ext rfl rfl ?_)
           refine Reg.op rfl (Ope.ext rfl rfl ?_)
           refine Reg.op rfl (Ope.asg rfl ?_)
           refine Reg.op rfl (Ope.asg rfl ?_)
           refine Reg.op rfl (Ope.asg rfl ?_)
           refine Reg.nil (Run.seq (Run.region (cx_ok _ _ _) (Reg.op rfl (Ope.mov rfl ?_))))
           refine Reg.op rfl (Ope.ne rfl rfl ?_)
           refine Reg.nil (Run.condX rfl (fun hc => ?_) fun hc => ?_)
           ·exfalso; first | omega | exact absurd hc (by decide)
           ·refine Run.skip (Run.bend (Run.region (cx_ok _ _ _) (Reg.op rfl (Ope.add rfl rfl (by omega) ?_))))
            refine Reg.op rfl (Ope.mov rfl ?_)
            refine Reg.nil ?_
            first
              | exact Run.lend ⟨1, by decide, by decide, ⟨rfl, rfl, rfl, rfl, trivial⟩, rfl, rfl⟩
              | exact Run.lend ⟨2, by decide, by decide, ⟨rfl, rfl, rfl, rfl, trivial⟩, rfl, rfl⟩
              | exact Run.lend ⟨3, by decide, by decide, ⟨rfl, rfl, rfl, rfl, trivial⟩, rfl, rfl⟩
          ·exfalso; first | omega | exact absurd hc (by decide)
         ·refine Run.seq (Run.region (cx_ok _ _ _) (Reg.op rfl (Ope.lt rfl rfl ?_)))
          refine Reg.nil (Run.seq (Run.condX rfl (fun hc => ?_) fun hc => ?_))
          ·refine Run.skip (Run.seq (Run.block (Run.seq (Run.region (cx_ok _ _ _) (Reg.op rfl (Ope.idxS rfl rfl rfl rfl rfl ?_))))))
           refine Reg.op rfl (Ope.load rfl rfl ?_)
           refine Reg.op rfl (Ope.asg rfl ?_)
           refine Reg.nil (Run.seq (Run.region (cx_ok _ _ _) (Reg.op rfl (Ope.load rfl rfl ?_))))
           refine Reg.op rfl (Ope.mov rfl ?_)
           first
             | refine Reg.op rfl (Ope.cf rfl rfl (checkBad hv (xs := 0 :: L) (bad0 hlen) (by simp; omega) rfl) (by simp only [List.nil_append, List.append_nil, PV.bds, PV.bd, h0b, Bool.and_true]) ?_)
             | refine Reg.op rfl (Ope.cf rfl rfl (checkBad hv (xs := L.take (R.m - 1) ++ [2]) (bad1 (by decide)) (by simp; omega) e1) (by simp only [List.nil_append, List.append_nil, PV.bds, PV.bd, h1b, Bool.and_true]) ?_)
             | refine Reg.op rfl (Ope.cf rfl rfl (checkBad hv (xs := L.take (R.m - 1) ++ [-1]) (bad1 (by decide)) (by simp; omega) e2) (by simp only [List.nil_append, List.append_nil, PV.bds, PV.bd, h2b, Bool.and_true]) ?_)
           refine Reg.op rfl (Ope.mov rfl ?_)
           refine Reg.op rfl (Ope.ext rfl rfl ?_)
           refine Reg.op rfl (Ope.ext rfl rfl ?_)
           refine Reg.op rfl (Ope.ext rfl rfl ?_)
           refine Reg.op rfl (Ope.asg rfl ?_)
           refine Reg.op rfl (Ope.asg rfl ?_)
           refine Reg.op rfl (Ope.asg rfl ?_)
           refine Reg.nil (Run.seq (Run.region (cx_ok _ _ _) (Reg.op rfl (Ope.mov rfl ?_))))
           refine Reg.op rfl (Ope.ne rfl rfl ?_)
           refine Reg.nil (Run.condX rfl (fun hc => ?_) fun hc => ?_)
           ·exfalso; first | omega | exact absurd hc (by decide)
           ·refine Run.skip (Run.bend (Run.region (cx_ok _ _ _) (Reg.op rfl (Ope.add rfl rfl (by omega) ?_))))
            refine Reg.op rfl (Ope.mov rfl ?_)
            refine Reg.nil ?_
            first
              | exact Run.lend ⟨1, by decide, by decide, ⟨rfl, rfl, rfl, rfl, trivial⟩, rfl, rfl⟩
              | exact Run.lend ⟨2, by decide, by decide, ⟨rfl, rfl, rfl, rfl, trivial⟩, rfl, rfl⟩
              | exact Run.lend ⟨3, by decide, by decide, ⟨rfl, rfl, rfl, rfl, trivial⟩, rfl, rfl⟩
          ·exfalso; first | omega | exact absurd hc (by decide)
         ·refine Run.seq (Run.region (cx_ok _ _ _) (Reg.op rfl (Ope.lt rfl rfl ?_)))
          refine Reg.nil (Run.seq (Run.condX rfl (fun hc => ?_) fun hc => ?_))
          ·exfalso; first | omega | exact absurd hc (by decide)
          ·refine Run.exit (Jmp.code (Jmp.round (Jmp.here (Run.seq (Run.region (cx_ok _ _ _) (Reg.op rfl (Ope.clo rfl rfl awakeC ?_)))))))
           refine Reg.op rfl (Ope.asg rfl ?_)
           refine Reg.nil (Run.ret (fin_ret (.tmp rfl .nil) rfl ?_))
           rfl
       ·refine Run.skip (Run.seq (Run.region (cx_ok _ _ _) (Reg.op rfl (Ope.mov rfl ?_))))
        refine Reg.op rfl (Ope.ne rfl rfl ?_)
        refine Reg.nil (Run.condX rfl (fun hc => ?_) fun hc => ?_)
        ·exfalso; first | omega | exact absurd hc (by decide)
        ·refine Run.skip (Run.bend (Run.region (cx_ok _ _ _) (Reg.op rfl (Ope.add rfl rfl (by omega) ?_))))
         refine Reg.op rfl (Ope.mov rfl ?_)
         refine Reg.nil (Run.lend ⟨k + 1, by omega, by omega, ⟨rfl, rfl, rfl, rfl, rfl, rfl, rfl, trivial⟩, rfl, rfl⟩)
      ·exfalso; first | omega | exact absurd hg (by decide)
     ·exfalso; first | omega | exact absurd hc (by decide)
theorem f6z (R : Rst) (hR : R.ok) (hv : validR R.m R.o0 R.t0 R.r0 R.f0 R.o1 R.t1 R.r1 R.f1 = true) (p : Nat) (hp : p < 65536) (h0 : R.m = 0) : Fn P0 6 [.agg R.cells, .lit (.int .u16 (p : Int))] (B true) := by
  have h33 := f33 R.m R.o0 R.t0 R.r0 R.f0 R.o1 R.t1 R.r1 R.f1
  rw [hv] at h33
  have h16 : Fn P0 16 [.agg R.cells, .sl .no []] (.tup [I 0, I 0, I 4]) := by
    have := check R.m R.o0 R.t0 R.r0 R.f0 R.o1 R.t1 R.r1 R.f1 .no rfl [] (by simp)
    rw [show checkV R.m R.o0 R.t0 R.r0 R.f0 R.o1 R.t1 R.r1 R.f1 [] = (0, 0, 4) from by unfold checkV; rw [if_pos hv]; simp [planOk, h0, faultV]] at this
    exact this
  have h34 : Fn P0 34 [I R.m, .lit (.int .u16 (p : Int))] (.sl .no []) := by
    have := f34 R.m p hR.1 hp
    rw [show byL R.m p = [] from by rw [h0]; rfl] at this
    exact this
  have hbe : Fn P0 16 [.agg R.cells, .sl .ex [I 0]] (.tup [I 0, I 0, I 2]) := by
    have := check R.m R.o0 R.t0 R.r0 R.f0 R.o1 R.t1 R.r1 R.f1 .ex rfl [0] (by simp)
    rw [show checkV R.m R.o0 R.t0 R.r0 R.f0 R.o1 R.t1 R.r1 R.f1 [0] = (0, 0, 2) from by unfold checkV; rw [if_pos hv]; simp [planOk, h0]] at this
    exact this
  have hm16 := hR.1
  refine PFun.of (C := c6) (cx_ok _ _ _) rfl (fn := Tryz.f6) (by kernel_rfl) (c := _) rfl rfl rfl ?_
  refine Run.seq (Run.region (cx_ok _ _ _) (Reg.op rfl (Ope.boxF rfl rfl ?_)))
  refine Reg.op rfl (Ope.asg rfl ?_)
  refine Reg.nil (Run.seq (Run.seq (Run.region (cx_ok _ _ _) (Reg.op rfl (Ope.load rfl rfl ?_)))))
  refine Reg.op rfl (Ope.cf rfl rfl (h33) rfl ?_)
  refine Reg.op rfl (Ope.not rfl ?_)
  refine Reg.nil (Run.condX rfl (fun hc => ?_) fun hc => ?_)
  ·cases hc
  ·refine Run.skip (Run.seq (Run.region (cx_ok _ _ _) (Reg.op rfl (Ope.fld rfl rfl ?_))))
   refine Reg.op rfl (Ope.load rfl rfl ?_)
   refine Reg.op rfl (Ope.mov rfl ?_)
   refine Reg.op rfl (Ope.cf rfl rfl (h34) rfl ?_)
   refine Reg.op rfl (Ope.asg rfl ?_)
   refine Reg.nil (Run.seq (Run.region (cx_ok _ _ _) (Reg.op rfl (Ope.load rfl rfl ?_))))
   refine Reg.op rfl (Ope.mov rfl ?_)
   refine Reg.op rfl (Ope.cf rfl rfl (h16) rfl ?_)
   refine Reg.op rfl (Ope.mov rfl ?_)
   refine Reg.op rfl (Ope.ext rfl rfl ?_)
   refine Reg.op rfl (Ope.ext rfl rfl ?_)
   refine Reg.op rfl (Ope.ext rfl rfl ?_)
   refine Reg.op rfl (Ope.asg rfl ?_)
   refine Reg.op rfl (Ope.asg rfl ?_)
   refine Reg.op rfl (Ope.asg rfl ?_)
   refine Reg.nil (Run.seq (Run.seq (Run.cut (fun e ds h => Lsub [(2, .fp (.agg R.cells)), (8, .sl .no []), (9, I 0), (10, I 0), (11, I 4), (87, B false)] e ∧ ds = [] ∧ h = HE 0 []) ?_ ?_)))
   ·refine Run.region (cx_ok _ _ _) (Reg.op rfl (Ope.mov rfl ?_))
    refine Reg.op rfl (Ope.ne rfl rfl ?_)
    refine Reg.op rfl (Ope.mov rfl ?_)
    refine Reg.splitX rfl rfl (fun hg => ?_) fun hg => ?_
    ·refine Reg.on rfl rfl rfl (Ope.mov rfl ?_)
     refine Reg.on rfl rfl rfl (Ope.ne rfl rfl ?_)
     refine Reg.on rfl rfl rfl (Ope.mov rfl ?_)
     refine Reg.splitX rfl rfl (fun hg => ?_) fun hg => ?_
     ·exfalso; first | omega | exact absurd hg (by decide)
     ·refine Reg.on rfl rfl rfl (Ope.mov rfl ?_)
      refine Reg.on rfl rfl rfl (Ope.ne rfl rfl ?_)
      refine Reg.on rfl rfl rfl (Ope.pickF rfl rfl ?_)
      refine Reg.on rfl rfl rfl (Ope.mov rfl ?_)
      refine Reg.splitX rfl rfl (fun hg => ?_) fun hg => ?_
      ·exfalso; first | omega | exact absurd hg (by decide)
      ·refine Reg.on rfl rfl rfl (Ope.mov rfl ?_)
       refine Reg.on rfl rfl rfl (Ope.ne rfl rfl ?_)
       refine Reg.on rfl rfl rfl (Ope.pickF rfl rfl ?_)
       refine Reg.op rfl (Ope.pickT rfl rfl ?_)
       refine Reg.op rfl (Ope.mov rfl ?_)
       refine Reg.splitX rfl rfl (fun hg => ?_) fun hg => ?_
       ·exfalso; first | omega | exact absurd hg (by decide)
       ·refine Reg.on rfl rfl rfl (Ope.mov rfl ?_)
        refine Reg.on rfl rfl rfl (Ope.eq rfl rfl ?_)
        refine Reg.on rfl rfl rfl (Ope.mov rfl ?_)
        refine Reg.splitX rfl rfl (fun hg => ?_) fun hg => ?_
        ·exfalso; first | omega | exact absurd hg (by decide)
        ·refine Reg.off rfl rfl rfl (Reg.off rfl rfl rfl (Reg.off rfl rfl rfl (Reg.past rfl rfl rfl (Reg.past rfl rfl rfl (Reg.past rfl rfl rfl (Reg.past rfl rfl rfl (Reg.off rfl rfl rfl (Reg.off rfl rfl rfl (Reg.past rfl rfl rfl (Reg.past rfl rfl rfl (Reg.off rfl rfl rfl (Reg.off rfl rfl rfl (Reg.past rfl rfl rfl (Reg.past rfl rfl rfl (Reg.off rfl rfl rfl (Reg.on rfl rfl rfl (Ope.pickF rfl rfl ?_)))))))))))))))))
         refine Reg.op rfl (Ope.pickF rfl rfl ?_)
         exact Reg.nil (Run.lend ⟨⟨rfl, rfl, rfl, rfl, rfl, rfl, trivial⟩, rfl, rfl⟩)
    ·exfalso; first | omega | exact absurd hg (by decide)
   ·rintro e ds h ⟨hs, rfl, rfl⟩; refine Run.less hs ?_
    refine Run.condX rfl (fun hc => ?_) fun hc => ?_
    ·exfalso; first | omega | exact absurd hc (by decide)
    ·refine Run.skip (Run.seq (Run.seq (Run.region (cx_ok _ _ _) (Reg.op rfl (Ope.mov rfl ?_)))))
     refine Reg.op rfl (Ope.len (m := 0) rfl rfl ?_)
     refine Reg.op rfl (Ope.mov rfl ?_)
     refine Reg.nil (Run.block (Run.loop (α := Nat) (fun k => [(2, .fp (.agg R.cells)), (8, .sl .no []), (9, I 0), (10, I 0), (11, I 4), (89, I ((0 : Nat) : Int)), (90, I k)]) (fun _ => HE 0 []) (fun k => k = 0) (fun k => 0 - k) 0 ⟨rfl, rfl, rfl, rfl, rfl, rfl, rfl, trivial⟩ rfl rfl (fun k hk => ?_)))
     subst hk
     refine Run.seq (Run.region (cx_ok _ _ _) (Reg.op rfl (Ope.lt rfl rfl ?_)))
     refine Reg.nil (Run.seq (Run.condX rfl (fun hc => ?_) fun hc => ?_))
     ·exfalso; first | omega | exact absurd hc (by decide)
     ·refine Run.exit (Jmp.code (Jmp.round (Jmp.here (Run.seq (Run.seq (Run.region (cx_ok _ _ _) (Reg.op rfl (Ope.bsl rfl rfl rfl rfl ?_))))))))
      refine Reg.op rfl (Ope.mov rfl ?_)
      refine Reg.op rfl (Ope.ap0 rfl rfl ?_)
      refine Reg.op rfl (Ope.bsl rfl rfl rfl rfl ?_)
      refine Reg.op rfl (Ope.mov rfl ?_)
      refine Reg.op rfl (Ope.ap0 rfl rfl ?_)
      refine Reg.op rfl (Ope.mov rfl ?_)
      refine Reg.op rfl (Ope.len (m := 0) rfl rfl ?_)
      refine Reg.op rfl (Ope.sub rfl rfl (by omega) ?_)
      refine Reg.op rfl (Ope.maxI rfl rfl ?_)
      refine Reg.op rfl (Ope.slT (m := 0) rfl rfl rfl (Nat.le_refl _) (by simp) ?_)
      refine Reg.op rfl (Ope.bsl rfl rfl rfl rfl ?_)
      refine Reg.op rfl (Ope.apX (vs := []) (ws := [I 2]) rfl rfl (by simp) (by simp) (by simp) (by decide) (by simp) (by intro v hv; simp at hv; subst hv; exact ⟨rfl, rfl⟩) ?_)
      refine Reg.op rfl (Ope.bsl rfl rfl rfl rfl ?_)
      refine Reg.op rfl (Ope.mov rfl ?_)
      refine Reg.op rfl (Ope.ap0 rfl rfl ?_)
      refine Reg.op rfl (Ope.mov rfl ?_)
      refine Reg.op rfl (Ope.len (m := 0) rfl rfl ?_)
      refine Reg.op rfl (Ope.sub rfl rfl (by omega) ?_)
      refine Reg.op rfl (Ope.maxI rfl rfl ?_)
      refine Reg.op rfl (Ope.slT (m := 0) rfl rfl rfl (Nat.le_refl _) (by simp) ?_)
      refine Reg.op rfl (Ope.bsl rfl rfl rfl rfl ?_)
      refine Reg.op rfl (Ope.apX (vs := []) (ws := [I (-1)]) rfl rfl (by simp) (by simp) (by simp) (by decide) (by simp) (by intro v hv; simp at hv; subst hv; exact ⟨rfl, rfl⟩) ?_)
      refine Reg.op rfl (Ope.bsl rfl rfl rfl rfl ?_)
      first | refine Reg.op rfl (Ope.len rfl (List.length_map _) ?_) | refine Reg.op rfl (Ope.len rfl rfl ?_) | refine Reg.op rfl (Ope.lenL rfl ?_)
      refine Reg.op rfl (Ope.mov rfl ?_)
      refine Reg.nil (Run.block (Run.wide (m := 3) (by decide) Hsub.nil ?_))
      refine Run.loop (α := Nat) (fun k => [(2, .fp (.agg R.cells)), (133, .sl .ex [.sl .ex [I 0], .sl .no [I 2], .sl .no [I (-1)]]), (134, I 3), (135, I k)]) (fun _ => HE 3 []) (fun k => k ≤ 3) (fun k => 3 - k) 0 ⟨rfl, rfl, rfl, rfl, trivial⟩ rfl (Nat.zero_le _) (fun k hk => ?_)
      rcases (by omega : k = 0 ∨ k = 1 ∨ k = 2 ∨ k = 3) with rfl | rfl | rfl | rfl
      ·refine Run.seq (Run.region (cx_ok _ _ _) (Reg.op rfl (Ope.lt rfl rfl ?_)))
       refine Reg.nil (Run.seq (Run.condX rfl (fun hc => ?_) fun hc => ?_))
       ·refine Run.skip (Run.seq (Run.block (Run.seq (Run.region (cx_ok _ _ _) (Reg.op rfl (Ope.idxS rfl rfl rfl rfl rfl ?_))))))
        refine Reg.op rfl (Ope.load rfl rfl ?_)
        refine Reg.op rfl (Ope.asg rfl ?_)
        refine Reg.nil (Run.seq (Run.region (cx_ok _ _ _) (Reg.op rfl (Ope.load rfl rfl ?_))))
        refine Reg.op rfl (Ope.mov rfl ?_)
        first
          | refine Reg.op rfl (Ope.cf rfl rfl hbe rfl ?_)
          | refine Reg.op rfl (Ope.cf rfl rfl (checkBad hv (xs := [] ++ [2]) (bad1 (by decide)) (by simp) rfl) rfl ?_)
          | refine Reg.op rfl (Ope.cf rfl rfl (checkBad hv (xs := [] ++ [-1]) (bad1 (by decide)) (by simp) rfl) rfl ?_)
        refine Reg.op rfl (Ope.mov rfl ?_)
        refine Reg.op rfl (Ope.ext rfl rfl ?_)
        refine Reg.op rfl (Ope.ext rfl rfl ?_)
        refine Reg.op rfl (Ope.ext rfl rfl ?_)
        refine Reg.op rfl (Ope.asg rfl ?_)
        refine Reg.op rfl (Ope.asg rfl ?_)
        refine Reg.op rfl (Ope.asg rfl ?_)
        refine Reg.nil (Run.seq (Run.region (cx_ok _ _ _) (Reg.op rfl (Ope.mov rfl ?_))))
        refine Reg.op rfl (Ope.ne rfl rfl ?_)
        refine Reg.nil (Run.condX rfl (fun hc => ?_) fun hc => ?_)
        ·exfalso; first | omega | exact absurd hc (by decide)
        ·refine Run.skip (Run.bend (Run.region (cx_ok _ _ _) (Reg.op rfl (Ope.add rfl rfl (by omega) ?_))))
         refine Reg.op rfl (Ope.mov rfl ?_)
         refine Reg.nil ?_
         first
           | exact Run.lend ⟨1, by decide, by decide, ⟨rfl, rfl, rfl, rfl, trivial⟩, rfl, rfl⟩
           | exact Run.lend ⟨2, by decide, by decide, ⟨rfl, rfl, rfl, rfl, trivial⟩, rfl, rfl⟩
           | exact Run.lend ⟨3, by decide, by decide, ⟨rfl, rfl, rfl, rfl, trivial⟩, rfl, rfl⟩
       ·exfalso; first | omega | exact absurd hc (by decide)
      ·refine Run.seq (Run.region (cx_ok _ _ _) (Reg.op rfl (Ope.lt rfl rfl ?_)))
       refine Reg.nil (Run.seq (Run.condX rfl (fun hc => ?_) fun hc => ?_))
       ·refine Run.skip (Run.seq (Run.block (Run.seq (Run.region (cx_ok _ _ _) (Reg.op rfl (Ope.idxS rfl rfl rfl rfl rfl ?_))))))
        refine Reg.op rfl (Ope.load rfl rfl ?_)
        refine Reg.op rfl (Ope.asg rfl ?_)
        refine Reg.nil (Run.seq (Run.region (cx_ok _ _ _) (Reg.op rfl (Ope.load rfl rfl ?_))))
        refine Reg.op rfl (Ope.mov rfl ?_)
        first
          | refine Reg.op rfl (Ope.cf rfl rfl hbe rfl ?_)
          | refine Reg.op rfl (Ope.cf rfl rfl (checkBad hv (xs := [] ++ [2]) (bad1 (by decide)) (by simp) rfl) rfl ?_)
          | refine Reg.op rfl (Ope.cf rfl rfl (checkBad hv (xs := [] ++ [-1]) (bad1 (by decide)) (by simp) rfl) rfl ?_)
        refine Reg.op rfl (Ope.mov rfl ?_)
        refine Reg.op rfl (Ope.ext rfl rfl ?_)
        refine Reg.op rfl (Ope.ext rfl rfl ?_)
        refine Reg.op rfl (Ope.ext rfl rfl ?_)
        refine Reg.op rfl (Ope.asg rfl ?_)
        refine Reg.op rfl (Ope.asg rfl ?_)
        refine Reg.op rfl (Ope.asg rfl ?_)
        refine Reg.nil (Run.seq (Run.region (cx_ok _ _ _) (Reg.op rfl (Ope.mov rfl ?_))))
        refine Reg.op rfl (Ope.ne rfl rfl ?_)
        refine Reg.nil (Run.condX rfl (fun hc => ?_) fun hc => ?_)
        ·exfalso; first | omega | exact absurd hc (by decide)
        ·refine Run.skip (Run.bend (Run.region (cx_ok _ _ _) (Reg.op rfl (Ope.add rfl rfl (by omega) ?_))))
         refine Reg.op rfl (Ope.mov rfl ?_)
         refine Reg.nil ?_
         first
           | exact Run.lend ⟨1, by decide, by decide, ⟨rfl, rfl, rfl, rfl, trivial⟩, rfl, rfl⟩
           | exact Run.lend ⟨2, by decide, by decide, ⟨rfl, rfl, rfl, rfl, trivial⟩, rfl, rfl⟩
           | exact Run.lend ⟨3, by decide, by decide, ⟨rfl, rfl, rfl, rfl, trivial⟩, rfl, rfl⟩
       ·exfalso; first | omega | exact absurd hc (by decide)
      ·refine Run.seq (Run.region (cx_ok _ _ _) (Reg.op rfl (Ope.lt rfl rfl ?_)))
       refine Reg.nil (Run.seq (Run.condX rfl (fun hc => ?_) fun hc => ?_))
       ·refine Run.skip (Run.seq (Run.block (Run.seq (Run.region (cx_ok _ _ _) (Reg.op rfl (Ope.idxS rfl rfl rfl rfl rfl ?_))))))
        refine Reg.op rfl (Ope.load rfl rfl ?_)
        refine Reg.op rfl (Ope.asg rfl ?_)
        refine Reg.nil (Run.seq (Run.region (cx_ok _ _ _) (Reg.op rfl (Ope.load rfl rfl ?_))))
        refine Reg.op rfl (Ope.mov rfl ?_)
        first
          | refine Reg.op rfl (Ope.cf rfl rfl hbe rfl ?_)
          | refine Reg.op rfl (Ope.cf rfl rfl (checkBad hv (xs := [] ++ [2]) (bad1 (by decide)) (by simp) rfl) rfl ?_)
          | refine Reg.op rfl (Ope.cf rfl rfl (checkBad hv (xs := [] ++ [-1]) (bad1 (by decide)) (by simp) rfl) rfl ?_)
        refine Reg.op rfl (Ope.mov rfl ?_)
        refine Reg.op rfl (Ope.ext rfl rfl ?_)
        refine Reg.op rfl (Ope.ext rfl rfl ?_)
        refine Reg.op rfl (Ope.ext rfl rfl ?_)
        refine Reg.op rfl (Ope.asg rfl ?_)
        refine Reg.op rfl (Ope.asg rfl ?_)
        refine Reg.op rfl (Ope.asg rfl ?_)
        refine Reg.nil (Run.seq (Run.region (cx_ok _ _ _) (Reg.op rfl (Ope.mov rfl ?_))))
        refine Reg.op rfl (Ope.ne rfl rfl ?_)
        refine Reg.nil (Run.condX rfl (fun hc => ?_) fun hc => ?_)
        ·exfalso; first | omega | exact absurd hc (by decide)
        ·refine Run.skip (Run.bend (Run.region (cx_ok _ _ _) (Reg.op rfl (Ope.add rfl rfl (by omega) ?_))))
         refine Reg.op rfl (Ope.mov rfl ?_)
         refine Reg.nil ?_
         first
           | exact Run.lend ⟨1, by decide, by decide, ⟨rfl, rfl, rfl, rfl, trivial⟩, rfl, rfl⟩
           | exact Run.lend ⟨2, by decide, by decide, ⟨rfl, rfl, rfl, rfl, trivial⟩, rfl, rfl⟩
           | exact Run.lend ⟨3, by decide, by decide, ⟨rfl, rfl, rfl, rfl, trivial⟩, rfl, rfl⟩
       ·exfalso; first | omega | exact absurd hc (by decide)
      ·refine Run.seq (Run.region (cx_ok _ _ _) (Reg.op rfl (Ope.lt rfl rfl ?_)))
       refine Reg.nil (Run.seq (Run.condX rfl (fun hc => ?_) fun hc => ?_))
       ·exfalso; first | omega | exact absurd hc (by decide)
       ·refine Run.exit (Jmp.code (Jmp.round (Jmp.here (Run.seq (Run.region (cx_ok _ _ _) (Reg.op rfl (Ope.clo rfl rfl awakeC ?_)))))))
        refine Reg.op rfl (Ope.asg rfl ?_)
        refine Reg.nil (Run.ret (fin_ret (.tmp rfl .nil) rfl ?_))
        rfl
end Go.Pv
