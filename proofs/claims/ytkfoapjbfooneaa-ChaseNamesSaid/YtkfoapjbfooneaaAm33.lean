/- The abstract machine, part 33: operations that leave the heap as it is, and new blocks. -/
import Derived.Test.YtkfoapjbfooneaaAm32
namespace Go.Am
open Go.RowKit

section
variable {A : AP} {E : Eqs}

theorem oneCell_load {ty : TypeId} (h : oneCell A ty = true) (H : Heap) (a o : Nat) : H.load A ty a o = H.cell a o := by
  unfold oneCell at h
  unfold Heap.load
  split at h
  case h_2 => cases h
  next ti hti =>
  split at h
  · cases h
  · cases h
  · next d h1 h2 hu =>
    rw [hti, hu]
    cases d <;> first
      | rfl
      | exact absurd rfl (h1 _)
      | exact absurd rfl (h2 _ _)
  · cases h

theorem pure1 {H : Heap} {x : Option AV} {k : AV → KR} {r : AV × Heap} (h : x.bind k = some r) : ∃ v H1, (match x with | some v => some (AOut.val v H) | none => none) = some (.val v H1) ∧ k v = some r := by
  cases x with
  | none => cases h
  | some v => exact ⟨v, H, rfl, h⟩

theorem kqgen_ok {o : Oper} {t : T AV} {H : Heap} {k : AV → KR} {r : AV × Heap} (h : (kqgen A E o).run t H k = some r) : ∃ v H1, aop A E H (evT t) o = some (.val v H1) ∧ k v = some r := by
  simp only [kqgen] at h
  split at h
  · next v H1 e =>
    rw [fAV_eq] at h
    exact ⟨v, H1, e, h⟩
  · cases h

theorem kq_ok {o : Oper} {t : T AV} {H : Heap} {k : AV → KR} {r : AV × Heap} (h : (kq A E o).run t H k = some r) : ∃ v H1, aop A E H (evT t) o = some (.val v H1) ∧ k v = some r := by
  unfold kq at h
  split at h
  · next x ho =>
    simp only [kev_eq] at h
    simp only [aop, ho]
    exact pure1 h
  · next x ho =>
    simp only [kev_eq] at h
    simp only [aop, ho]
    exact pure1 h
  · next c a b ho =>
    simp only [kev_eq] at h
    simp only [aop, ho]
    obtain ⟨v, hv, h⟩ := Option.bind_eq_some_iff.1 h
    rw [hv]
    split at h
    · next q =>
      cases q <;> exact pure1 h
    · cases h
  · next ty parts ho =>
    simp only [kparts_eq, kval1_eq] at h
    simp only [aop, ho]
    obtain ⟨v, hv, h⟩ := Option.bind_eq_some_iff.1 h
    rw [hv]
    exact pure1 h
  · next ty a ho =>
    split at h
    · next hone =>
      simp only [kev_eq] at h
      obtain ⟨v, hv, h⟩ := Option.bind_eq_some_iff.1 h
      simp only [aop, ho, hv]
      split at h
      · rw [kcell_eq, ← oneCell_load hone] at h
        exact pure1 h
      · cases h
    · split at h
      · next fs ti hu hti =>
        simp only [kev_eq] at h
        obtain ⟨v, hv, h⟩ := Option.bind_eq_some_iff.1 h
        simp only [aop, ho, hv]
        split at h
        · next b off =>
          obtain ⟨blks, next, fams⟩ := H
          simp only [kat_eq] at h
          obtain ⟨blk, hb, h⟩ := Option.bind_eq_some_iff.1 h
          split at h
          case h_2 => cases h
          next t' f m c =>
          rw [kcells_eq ⟨blks, next, fams⟩ b hb] at h
          obtain ⟨vs, hvs, h⟩ := Option.bind_eq_some_iff.1 h
          refine ⟨.agg vs, ⟨blks, next, fams⟩, ?_, h⟩
          simp only [Heap.load, hti, hu, hvs]
        · simp only [hti, hu]
          split at h
          · next hz => rw [hz]; exact ⟨_, _, rfl, h⟩
          · cases h
        · cases h
      · exact kqgen_ok h
  · next op ty x y yt ho =>
    simp only [kev_eq] at h
    simp only [aop, ho]
    obtain ⟨a, ha, h⟩ := Option.bind_eq_some_iff.1 h
    obtain ⟨b, hb, h⟩ := Option.bind_eq_some_iff.1 h
    obtain ⟨v, hv, h⟩ := kbin_ok h
    simp only [ha, hb]
    refine ⟨v, H, ?_, h⟩
    cases hn : bothNil a b <;> simp only [hn] at hv ⊢ <;> rw [hv]
  · next op ty x ho =>
    simp only [kev_eq, kval1_eq] at h
    simp only [aop, ho]
    obtain ⟨a, ha, h⟩ := Option.bind_eq_some_iff.1 h
    rw [ha]
    exact pure1 h
  · next s d x ho =>
    simp only [kev_eq, kval1_eq] at h
    simp only [aop, ho]
    obtain ⟨a, ha, h⟩ := Option.bind_eq_some_iff.1 h
    rw [ha]
    exact pure1 h
  · next ty x ho =>
    simp only [kev_eq, kval1_eq] at h
    simp only [aop, ho]
    obtain ⟨a, ha, h⟩ := Option.bind_eq_some_iff.1 h
    rw [ha]
    exact pure1 h
  · next ty x f ho =>
    simp only [kev_eq, kval1_eq] at h
    simp only [aop, ho]
    obtain ⟨a, ha, h⟩ := Option.bind_eq_some_iff.1 h
    rw [ha]
    exact pure1 h
  · next ty x f ho =>
    simp only [kev_eq, kval1_eq] at h
    simp only [aop, ho]
    obtain ⟨a, ha, h⟩ := Option.bind_eq_some_iff.1 h
    rw [ha]
    exact pure1 h
  · next ty x i ho =>
    simp only [kev_eq, kval1_eq] at h
    simp only [aop, ho]
    obtain ⟨a, ha, h⟩ := Option.bind_eq_some_iff.1 h
    obtain ⟨b, hb, h⟩ := Option.bind_eq_some_iff.1 h
    simp only [ha, hb]
    exact pure1 h
  · next ty x i ho =>
    simp only [kev_eq, kval1_eq] at h
    simp only [aop, ho]
    obtain ⟨a, ha, h⟩ := Option.bind_eq_some_iff.1 h
    obtain ⟨b, hb, h⟩ := Option.bind_eq_some_iff.1 h
    simp only [ha, hb]
    exact pure1 h
  · next ty x i ok ho =>
    simp only [kev_eq, kval1_eq] at h
    simp only [aop, ho]
    obtain ⟨a, ha, h⟩ := Option.bind_eq_some_iff.1 h
    obtain ⟨b, hb, h⟩ := Option.bind_eq_some_iff.1 h
    simp only [ha, hb]
    exact pure1 h
  · next x i ho =>
    simp only [kev_eq, kval1_eq] at h
    simp only [aop, ho]
    obtain ⟨a, ha, h⟩ := Option.bind_eq_some_iff.1 h
    rw [ha]
    exact pure1 h
  · next c ho =>
    split at h
    · next ty x h1 h2 h3 =>
      simp only [kev_eq, kval1_eq] at h
      obtain ⟨a, ha, h⟩ := Option.bind_eq_some_iff.1 h
      obtain ⟨v, hv, h⟩ := Option.bind_eq_some_iff.1 h
      refine ⟨v, H, ?_, h⟩
      simp only [aop, ho, acall, h3, aargs, ha, h1, abuiltin, h2, hv]
    · exact kqgen_ok h
  · exact kqgen_ok h

theorem knew_eq {o : Oper} {t : T AV} {n : Nat} {k : AV → ABlk → KR} : (knew A o).run t n k = (anew A (evT t) n o.op).bind fun p => k p.1 p.2 := by
  unfold knew anew
  split
  · next ty ho =>
    rw [ho]
    simp only []
    cases hti : A.info ty with
    | none => rfl
    | some ti =>
      simp only []
      cases hz : ti.zero with
      | none => rfl
      | some z =>
        simp only []
        cases hv : ofValue z with
        | none => rfl
        | some v => simp only [kfill_eq, Option.bind_some]
  · next ty x ho =>
    rw [ho]
    simp only [kev_eq, kfill_eq]
    cases evT t x <;> rfl
  · next ty len parts ho =>
    rw [ho]
    simp only [kparts_eq]
    cases aparts (evT t) parts.toList with
    | none => rfl
    | some ps =>
      simp only [Option.bind_some]
      cases abuildSlice A ty len ps with
      | none => rfl
      | some p => simp only [kfill_eq, Option.bind_some]
  · next ty ho => rw [ho]; rfl
  · next h1 h2 h3 h4 =>
    split
    · next ty ho => exact absurd ho (h1 _)
    · next ty x ho => exact absurd ho (h2 _ _)
    · next ty len parts ho => exact absurd ho (h3 _ _ _)
    · next ty ho => exact absurd ho (h4 _)
    · rfl

theorem klay_ok {o : Oper} {t : T AV} {H : Heap} {v : AV} {b : ABlk} {k : AV → Heap → KR} {r : AV × Heap} (hn : anew A (evT t) H.next o.op = some (v, b)) (h : klay H v b k = some r) :
    ∃ H', aop A E H (evT t) o = some (.val v H') ∧ k v H' = some r := by
  obtain ⟨blks, next, fams⟩ := H
  simp only [klay, kput_eq, fNat_eq] at h
  simp only [anew] at hn
  split at hn
  · next ty ho =>
    split at hn
    · next ti hti =>
      split at hn
      · next z hz =>
        split at hn
        · next u hu =>
          cases hn
          exact ⟨_, by simp only [aop, ho, hti, hz, hu, Heap.newB], h⟩
        · cases hn
      · cases hn
    · cases hn
  · next ty x ho =>
    split at hn
    · next u hu =>
      cases hn
      exact ⟨_, by simp only [aop, ho, hu, Heap.newB], h⟩
    · cases hn
  · next ty len parts ho =>
    split at hn
    · next ps hps =>
      split at hn
      · next e cs hcs =>
        cases hn
        exact ⟨_, by simp only [aop, ho, hps, hcs, Heap.newB], h⟩
      · cases hn
    · cases hn
  · next ty ho =>
    cases hn
    exact ⟨_, by simp only [aop, ho], h⟩
  · cases hn

end
end Go.Am
