/- The abstract machine, part 37: code that is run quickly is right. -/
import Derived.Test.YtkfoapjbfooneaaAm36
namespace Go.Am
open Go.RowKit

section
variable {A : AP} {E : Eqs} {P : Program} {B : KB} {f : FuncId} {sz : Nat}

theorem Thru.snoc {j : Code} {pre : List AItem} {it : AItem} (h : Thru j pre) (hi : ∀ id k, j = .exit id → aexitTo id (it :: k) = aexitTo id k) : Thru j (pre ++ [it]) := by
  cases j <;> first
    | exact h
    | (next id =>
        intro k
        rw [List.append_assoc]
        exact (h _).trans (hi id k rfl))

/-- A step ahead of it. -/
theorem COk.before {items items' : List AItem} {K : KC} (h : COk P f sz items K)
    (hs : ∀ (fr : AFr) (t : T AV) (x : KX) (cs : List AFr) (k : List AItem) (H : Heap), fr.sz = sz → fr.fn = f → Lz P ⟨fr.at t x (items' ++ k), cs, H⟩ ⟨fr.at t x (items ++ k), cs, H⟩) : COk P f sz items' K := by
  intro t x H kn ka r e
  rcases h t x H kn ka r e with ⟨t', x', H', k1, k2, k3⟩ | ⟨j, t', x', H', pre, k1, k2, k3, k4⟩
  · exact .inl ⟨t', x', H', k1, k2, fun fr cs k h1 h2 => (hs fr t x cs k H h1 h2).trans (k3 fr cs k h1 h2)⟩
  · exact .inr ⟨j, t', x', H', pre, k1, k2, k3, fun fr cs k h1 h2 => (hs fr t x cs k H h1 h2).trans (k4 fr cs k h1 h2)⟩

theorem kloop_ok (hA : A.Ok P) (hE : E.Ok P) {body : Code} {K : KC} (hK : COk P f sz [.code body] K) : ∀ (n : Nat) (t : T AV) (x : KX) (H : Heap) (ka : Code → T AV → KX → Heap → KR) (r : AV × Heap),
    kloop K n t x H ka = some r → ∃ j t' x' H' pre, ka j t' x' H' = some r ∧ x'.rnd = x.rnd ∧ Thru j pre ∧
      ∀ (fr : AFr) (cs : List AFr) (k : List AItem), fr.sz = sz → fr.fn = f → Lz P ⟨fr.at t x (.code body :: .inLoop body :: k), cs, H⟩ ⟨fr.at t' x' (.code j :: (pre ++ k)), cs, H'⟩
  | 0, _, _, _, _, _, h => by cases h
  | n + 1, t, x, H, ka, r, h => by
    rcases hK t x H _ _ r h with ⟨t1, x1, H1, k1, k2, k3⟩ | ⟨j, t1, x1, H1, pre, k1, k2, k3, k4⟩
    · obtain ⟨j, t', x', H', pre, u1, u2, u3, u4⟩ := kloop_ok hA hE hK n t1 x1 H1 ka r k1
      refine ⟨j, t', x', H', pre, u1, u2.trans k2, u3, fun fr cs k h1 h2 => ((k3 fr cs (.inLoop body :: k) h1 h2).trans ?_).trans (u4 fr cs k h1 h2)⟩
      exact Lz.step hA hE noD_ok rfl
    · refine ⟨j, t1, x1, H1, pre ++ [.inLoop body], k1, k2, k3.snoc fun _ _ _ => rfl, fun fr cs k h1 h2 => ?_⟩
      have := k4 fr cs (.inLoop body :: k) h1 h2
      rw [List.append_assoc]
      exact this

theorem kendRF_ok (hA : A.Ok P) (hE : E.Ok P) {l : Nat} {t : T AV} {x : KX} {H : Heap} {kn : T AV → KX → Heap → KR} {ka : Code → T AV → KX → Heap → KR} {r : AV × Heap} (h : kendRF l t x H kn ka = some r) :
    (∃ H', kn t x H' = some r ∧ ∀ (fr : AFr) (cs : List AFr) (k : List AItem), Lz P ⟨fr.at t x (.endRF l :: k), cs, H⟩ ⟨fr.at t x k, cs, H'⟩) ∨
    (∃ j H', ka j t x H' = some r ∧ Thru j [] ∧ ∀ (fr : AFr) (cs : List AFr) (k : List AItem), Lz P ⟨fr.at t x (.endRF l :: k), cs, H⟩ ⟨fr.at t x (.code j :: k), cs, H'⟩) := by
  simp only [kendRF, kblk_eq] at h
  obtain ⟨b, hb, h⟩ := Option.bind_eq_some_iff.1 h
  split at h
  case h_2 => cases h
  next st pend fn s tmps ps asg body d =>
  split at h
  · cases h
  · next hst =>
    simp only [kblkPut_eq] at h
    have stepN : pend = none → ∀ (fr : AFr) (cs : List AFr) (k : List AItem), astep A E noD ⟨fr.at t x (.endRF l :: k), cs, H⟩ =
        some ⟨fr.at t x k, cs, { H with blks := H.blks.set l (.loop .exhausted pend fn s tmps ps asg body d) }⟩ := by
      intro e fr cs k
      subst e
      simp only [astep, AFr.at, arun1, hb]
    have stepS : ∀ c, pend = some c → ∀ (fr : AFr) (cs : List AFr) (k : List AItem), astep A E noD ⟨fr.at t x (.endRF l :: k), cs, H⟩ =
        some ⟨fr.at t x (.code c :: k), cs, { H with blks := H.blks.set l (.loop .exhausted pend fn s tmps ps asg body d) }⟩ := by
      intro c e fr cs k
      subst e
      simp only [astep, AFr.at, arun1, hb]
    split at h
    · exact .inl ⟨_, h, fun fr cs k => Lz.step hA hE noD_ok (stepN rfl fr cs k)⟩
    · split at h
      · exact .inr ⟨.ret, _, h, trivial, fun fr cs k => Lz.step hA hE noD_ok (stepS _ rfl fr cs k)⟩
      · next id => exact .inr ⟨.exit id, _, h, fun _ => rfl, fun fr cs k => Lz.step hA hE noD_ok (stepS _ rfl fr cs k)⟩
      · cases h

theorem kcallRF_ok (hA : A.Ok P) (hE : E.Ok P) (hB : BOk A P B) {fn : Fn} {first cap : List AV} {l : Nat} {t : T AV} {x : KX} {H : Heap} {kn : T AV → KX → Heap → KR} {ka : Code → T AV → KX → Heap → KR} {r : AV × Heap}
    (h : kcallRF A B fn first cap l t x H kn ka = some r) : ∃ g args fr1, acallFn A H fn cap (first ++ [.yld l]) = some (.enter g args) ∧ AFr.enter A g args .normal = some fr1 ∧
    ((∃ H', kn t x H' = some r ∧ ∀ (fr : AFr) (cs : List AFr) (k : List AItem), Lz P ⟨fr1, fr.at t x (.inRF l :: k) :: cs, H⟩ ⟨fr.at t x k, cs, H'⟩) ∨
    (∃ j H', ka j t x H' = some r ∧ Thru j [] ∧ ∀ (fr : AFr) (cs : List AFr) (k : List AItem), Lz P ⟨fr1, fr.at t x (.inRF l :: k) :: cs, H⟩ ⟨fr.at t x (.code j :: k), cs, H'⟩)) := by
  unfold kcallRF at h
  split at h
  case h_2 => cases h
  next g args hg =>
  obtain ⟨v, H1, fr1, h1, h2, hback⟩ := hB.fn g args H _ r h
  have b : ∀ (fr : AFr) (cs : List AFr) (k : List AItem), Lz P ⟨fr1, fr.at t x (.inRF l :: k) :: cs, H⟩ ⟨fr.at t x (.endRF l :: k), cs, H1⟩ := fun fr cs k => hback _ _ _ rfl
  refine ⟨g, args, fr1, hg, h2, ?_⟩
  rcases kendRF_ok (P := P) hA hE h1 with ⟨H', k1, k2⟩ | ⟨j, H', k1, k2, k3⟩
  · exact .inl ⟨H', k1, fun fr cs k => (b fr cs k).trans (k2 fr cs k)⟩
  · exact .inr ⟨j, H', k1, k2, fun fr cs k => (b fr cs k).trans (k3 fr cs k)⟩

theorem krange_ok (hA : A.Ok P) (hE : E.Ok P) (hB : BOk A P B) {g : Operand} {ps : Array Tmp} {asg body : Code} :
    COk P f sz [.code (.rangeFunc g ps asg body)] ⟨fun t x H kn ka => (kev g).run t fun v => krange A B f sz ps asg body v t x H kn ka⟩ := by
  intro t x H kn ka r h
  simp only [kev_eq] at h
  obtain ⟨v, hv, h⟩ := Option.bind_eq_some_iff.1 h
  unfold krange at h
  split at h
  case h_2 => cases h
  next fn first cap =>
  obtain ⟨ds, rnd⟩ := x
  cases rnd with
  | none =>
    obtain ⟨blks, d, fams⟩ := H
    simp only [fNat_eq, kput_eq] at h
    obtain ⟨g', args, fr1, h1, h2, h3⟩ := kcallRF_ok hA hE hB h
    have step : ∀ (fr : AFr) (cs : List AFr) (k : List AItem), fr.sz = sz → fr.fn = f → astep A E noD ⟨fr.at t ⟨ds, none⟩ ([.code (.rangeFunc g ps asg body)] ++ k), cs, ⟨blks, d, fams⟩⟩ =
        some ⟨fr1, fr.at t ⟨.collected d :: ds, none⟩ (.inRF (d + 1) :: k) :: cs, ⟨(blks.set d (.dfr (some []))).set (d + 1) (.loop .ready none f sz t ps asg body d), d + 1 + 1, fams⟩⟩ := by
      intro fr cs k e1 e2
      subst e1 e2
      simp only [astep, AFr.at, arun1, List.cons_append, List.nil_append, acode, arange, ev_eq, hv, h1, h2]
    rcases h3 with ⟨H', k1, k2⟩ | ⟨j, H', k1, k2, k3⟩
    · exact .inl ⟨t, _, H', k1, rfl, fun fr cs k e1 e2 => (Lz.step hA hE noD_ok (step fr cs k e1 e2)).trans (k2 fr cs k)⟩
    · exact .inr ⟨j, t, _, H', [], k1, rfl, k2, fun fr cs k e1 e2 => (Lz.step hA hE noD_ok (step fr cs k e1 e2)).trans (k3 fr cs k)⟩
  | some l0 =>
    simp only [kblk_eq] at h
    obtain ⟨b, hb, h⟩ := Option.bind_eq_some_iff.1 h
    split at h
    case h_2 => cases h
    next st pend fn0 s0 tmps0 ps0 asg0 body0 d =>
    obtain ⟨blks, l, fams⟩ := H
    simp only [fNat_eq, kput_eq] at h
    obtain ⟨g', args, fr1, h1, h2, h3⟩ := kcallRF_ok hA hE hB h
    have step : ∀ (fr : AFr) (cs : List AFr) (k : List AItem), fr.sz = sz → fr.fn = f → astep A E noD ⟨fr.at t ⟨ds, some l0⟩ ([.code (.rangeFunc g ps asg body)] ++ k), cs, ⟨blks, l, fams⟩⟩ =
        some ⟨fr1, fr.at t ⟨ds, some l0⟩ (.inRF l :: k) :: cs, ⟨blks.set l (.loop .ready none f sz t ps asg body d), l + 1, fams⟩⟩ := by
      intro fr cs k e1 e2
      subst e1 e2
      simp only [astep, AFr.at, arun1, List.cons_append, List.nil_append, acode, arange, ev_eq, hv, hb, h1, h2]
    rcases h3 with ⟨H', k1, k2⟩ | ⟨j, H', k1, k2, k3⟩
    · exact .inl ⟨t, _, H', k1, rfl, fun fr cs k e1 e2 => (Lz.step hA hE noD_ok (step fr cs k e1 e2)).trans (k2 fr cs k)⟩
    · exact .inr ⟨j, t, _, H', [], k1, rfl, k2, fun fr cs k e1 e2 => (Lz.step hA hE noD_ok (step fr cs k e1 e2)).trans (k3 fr cs k)⟩

theorem kcode_ok (hA : A.Ok P) (hE : E.Ok P) (hP : P.follows .mixedOrders = true) (hB : BOk A P B) : ∀ (c : Code), COk P f sz [.code c] (kcode A E B f sz c)
  | .skip => fun t x H kn ka r h => .inl ⟨t, x, H, h, rfl, fun fr cs k _ _ => Lz.step hA hE noD_ok rfl⟩
  | .label _ => fun t x H kn ka r h => .inl ⟨t, x, H, h, rfl, fun fr cs k _ _ => Lz.step hA hE noD_ok rfl⟩
  | .ret => fun t x H kn ka r h => .inr ⟨.ret, t, x, H, [], h, rfl, trivial, fun fr cs k _ _ => Lz.refl _⟩
  | .exit id => fun t x H kn ka r h => .inr ⟨.exit id, t, x, H, [], h, rfl, fun _ => rfl, fun fr cs k _ _ => Lz.refl _⟩
  | .seq a b => by
    intro t x H kn ka r h
    have s0 : ∀ (fr : AFr) (cs : List AFr) (k : List AItem), Lz P ⟨fr.at t x ([.code (.seq a b)] ++ k), cs, H⟩ ⟨fr.at t x ([.code a] ++ (.code b :: k)), cs, H⟩ := fun fr cs k => Lz.step hA hE noD_ok rfl
    rcases kcode_ok hA hE hP hB a t x H _ _ r h with ⟨t1, x1, H1, k1, k2, k3⟩ | ⟨j, t1, x1, H1, pre, k1, k2, k3, k4⟩
    · rcases kcode_ok hA hE hP hB b t1 x1 H1 _ _ r k1 with ⟨t2, x2, H2, u1, u2, u3⟩ | ⟨j, t2, x2, H2, pre, u1, u2, u3, u4⟩
      · exact .inl ⟨t2, x2, H2, u1, u2.trans k2, fun fr cs k h1 h2 => ((s0 fr cs k).trans (k3 fr cs (.code b :: k) h1 h2)).trans (u3 fr cs k h1 h2)⟩
      · exact .inr ⟨j, t2, x2, H2, pre, u1, u2.trans k2, u3, fun fr cs k h1 h2 => ((s0 fr cs k).trans (k3 fr cs (.code b :: k) h1 h2)).trans (u4 fr cs k h1 h2)⟩
    · refine .inr ⟨j, t1, x1, H1, pre ++ [.code b], k1, k2, k3.snoc fun _ _ _ => rfl, fun fr cs k h1 h2 => (s0 fr cs k).trans ?_⟩
      rw [List.append_assoc]
      exact k4 fr cs (.code b :: k) h1 h2
  | .cond c a b => by
    intro t x H kn ka r h
    simp only [kcode, kev_eq] at h
    obtain ⟨v, hv, h⟩ := Option.bind_eq_some_iff.1 h
    split at h
    case h_2 => cases h
    next q =>
    cases q with
    | true =>
      have s0 : ∀ (fr : AFr) (cs : List AFr) (k : List AItem), Lz P ⟨fr.at t x ([.code (.cond c a b)] ++ k), cs, H⟩ ⟨fr.at t x ([.code a] ++ k), cs, H⟩ := fun fr cs k =>
        Lz.step hA hE noD_ok (by simp only [astep, AFr.at, arun1, List.cons_append, List.nil_append, acode, ev_eq, hv])
      rcases kcode_ok hA hE hP hB a t x H _ _ r h with ⟨t1, x1, H1, k1, k2, k3⟩ | ⟨j, t1, x1, H1, pre, k1, k2, k3, k4⟩
      · exact .inl ⟨t1, x1, H1, k1, k2, fun fr cs k h1 h2 => (s0 fr cs k).trans (k3 fr cs k h1 h2)⟩
      · exact .inr ⟨j, t1, x1, H1, pre, k1, k2, k3, fun fr cs k h1 h2 => (s0 fr cs k).trans (k4 fr cs k h1 h2)⟩
    | false =>
      have s0 : ∀ (fr : AFr) (cs : List AFr) (k : List AItem), Lz P ⟨fr.at t x ([.code (.cond c a b)] ++ k), cs, H⟩ ⟨fr.at t x ([.code b] ++ k), cs, H⟩ := fun fr cs k =>
        Lz.step hA hE noD_ok (by simp only [astep, AFr.at, arun1, List.cons_append, List.nil_append, acode, ev_eq, hv])
      rcases kcode_ok hA hE hP hB b t x H _ _ r h with ⟨t1, x1, H1, k1, k2, k3⟩ | ⟨j, t1, x1, H1, pre, k1, k2, k3, k4⟩
      · exact .inl ⟨t1, x1, H1, k1, k2, fun fr cs k h1 h2 => (s0 fr cs k).trans (k3 fr cs k h1 h2)⟩
      · exact .inr ⟨j, t1, x1, H1, pre, k1, k2, k3, fun fr cs k h1 h2 => (s0 fr cs k).trans (k4 fr cs k h1 h2)⟩
  | .block id body => by
    intro t x H kn ka r h
    have s0 : ∀ (fr : AFr) (cs : List AFr) (k : List AItem), Lz P ⟨fr.at t x ([.code (.block id body)] ++ k), cs, H⟩ ⟨fr.at t x ([.code body] ++ (.inBlock id :: k)), cs, H⟩ := fun fr cs k => Lz.step hA hE noD_ok rfl
    rcases kcode_ok hA hE hP hB body t x H _ _ r h with ⟨t1, x1, H1, k1, k2, k3⟩ | ⟨j, t1, x1, H1, pre, k1, k2, k3, k4⟩
    · exact .inl ⟨t1, x1, H1, k1, k2, fun fr cs k h1 h2 => ((s0 fr cs k).trans (k3 fr cs (.inBlock id :: k) h1 h2)).trans (Lz.step hA hE noD_ok rfl)⟩
    · unfold kout at k1
      split at k1
      · next i =>
        split at k1
        · next hi =>
          have hid : i = id := Nat.eq_of_beq_eq_true hi
          subst hid
          refine .inl ⟨t1, x1, H1, k1, k2, fun fr cs k h1 h2 => ((s0 fr cs k).trans (k4 fr cs (.inBlock i :: k) h1 h2)).trans (Lz.step hA hE noD_ok ?_)⟩
          have hx : aexitTo i (pre ++ (.inBlock i :: k)) = some k := by
            rw [show aexitTo i (pre ++ (.inBlock i :: k)) = aexitTo i (.inBlock i :: k) from k3 _]
            simp [aexitTo]
          simp only [astep, AFr.at, arun1, acode, hx]
        · next hi =>
          refine .inr ⟨.exit i, t1, x1, H1, pre ++ [.inBlock id], k1, k2, k3.snoc ?_, fun fr cs k h1 h2 => (s0 fr cs k).trans ?_⟩
          · intro i' k e
            cases e
            have : Nat.beq id i = false := by
              cases hb : Nat.beq id i with
              | false => rfl
              | true =>
                have := Nat.eq_of_beq_eq_true hb
                subst this
                simp at hi
            simp only [aexitTo, this]
          · rw [List.append_assoc]
            exact k4 fr cs (.inBlock id :: k) h1 h2
      · next hj =>
        refine .inr ⟨j, t1, x1, H1, pre ++ [.inBlock id], k1, k2, k3.snoc fun i k e => absurd e (hj i), fun fr cs k h1 h2 => (s0 fr cs k).trans ?_⟩
        rw [List.append_assoc]
        exact k4 fr cs (.inBlock id :: k) h1 h2
  | .loop body => by
    intro t x H kn ka r h
    obtain ⟨j, t', x', H', pre, k1, k2, k3, k4⟩ := kloop_ok hA hE (kcode_ok hA hE hP hB body) _ t x H ka r h
    exact .inr ⟨j, t', x', H', pre, k1, k2, k3, fun fr cs k h1 h2 => (Lz.step hA hE noD_ok rfl).trans (k4 fr cs k h1 h2)⟩
  | .region id ops false => (kops_ok hA hE hB ops.toList ops.toList).before fun fr t x cs k H _ _ => Lz.step hA hE noD_ok rfl
  | .region id ops true => by
    intro t x H kn ka r h
    obtain ⟨t', H', h1, h2⟩ := kregion_draw h
    refine .inl ⟨t', x, H', h2, rfl, fun fr cs k e1 e2 => Lz.step hA hE (drawR_ok hA hE hP (kone_ok hA hE hB)) ?_⟩
    have h3 := h1 (fr.at t x ([AItem.code (Code.region id ops true)] ++ k)) e1 rfl
    show (match drawR A E (kone A E B) (fr.at t x ([AItem.code (Code.region id ops true)] ++ k)) ops H with
      | some (t, H) => some (⟨{ fr.at t x ([AItem.code (Code.region id ops true)] ++ k) with tmps := t, todo := k }, cs, H⟩ : ASt)
      | none => none) = _
    rw [h3]
    rfl
  | .rangeFunc g ps asg body => krange_ok hA hE hB
  | .scope _ => fun t x H kn ka r h => by cases h
  | .goto _ => fun t x H kn ka r h => by cases h
  | .refuse _ => fun t x H kn ka r h => by cases h

end
end Go.Am
