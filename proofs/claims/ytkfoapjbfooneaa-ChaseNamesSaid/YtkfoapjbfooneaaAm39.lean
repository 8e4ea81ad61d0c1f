/- The abstract machine, part 39: what is run step by step, but for calls of what is run quickly; and a call from nothing. -/
import Derived.Test.YtkfoapjbfooneaaAm38
namespace Go.Am
open Go.RowKit

section
variable {A : AP} {E : Eqs} {P : Program} {B : KB} {slow : T Unit}

theorem mcall_ok (hA : A.Ok P) (hE : E.Ok P) (hB : BOk A P B) {S S' : ASt} {all : List Oper} {o : Oper} {els : Unit → Option ASt}
    (hst : aguard all S.fr.tmps o.guard = some true → ∀ out, aop A E S.H (evT S.fr.tmps) o = some out → astep A E noD S = aout A S out)
    (h : mcall A E slow B.fn S all o els = some S') : els () = some S' ∨ Lz P S S' := by
  unfold mcall at h
  split at h
  case h_2 => exact .inl h
  split at h
  case h_2 => exact .inl h
  next hg =>
  split at h
  case h_2 => exact .inl h
  next f args ho =>
  split at h
  case h_1 => exact .inl h
  split at h
  case h_2 => cases h
  next v H hr =>
  split at h
  case h_2 => cases h
  next fr hf =>
  cases h
  rw [ev_eq] at ho
  obtain ⟨v', H', fr0, h1, h2, h3⟩ := hB.fn f args S.H _ _ hr
  cases h1
  refine .inr ?_
  obtain ⟨sfr, scs, sH⟩ := S
  exact Does.lz (D := noD) hA hE noD_ok (.enter f args fr0 ho h2 h3) (hst hg) hf

theorem mstep_ok (hA : A.Ok P) (hE : E.Ok P) (hB : BOk A P B) {D : Drawer} (hD : DSound P D) {S S' : ASt} (h : mstep A E D slow B.fn S = some S') : Lz P S S' := by
  unfold mstep at h
  split at h
  case h_2 => exact Lz.step hA hE hD h
  next hm =>
  split at h
  · next all o rest k htd =>
    rcases mcall_ok (P := P) hA hE hB (by
      intro hg out hout
      simp only [astep, hm, arun1, htd, hg, ev_eq, hout]) h with h1 | h1
    · exact Lz.step hA hE hD h1
    · exact h1
  · next all o rest htd =>
    rcases mcall_ok (P := P) hA hE hB (by
      intro hg out hout
      simp only [astep, hm, arun1, htd, hg, ev_eq, hout]) h with h1 | h1
    · exact Lz.step hA hE hD h1
    · exact h1
  · exact Lz.step hA hE hD h

theorem mfinal_ok {f : FuncId} {S : ASt} {v : AV} {H : Heap} (h : mfinal A f S = some (v, H)) : RetV A S.fr H v ∧ S.fr.fn = f ∧ S = ⟨S.fr, [], H⟩ := by
  unfold mfinal at h
  split at h
  case h_2 => cases h
  next hk =>
  split at h
  case h_2 => cases h
  next hf =>
  unfold afinal at h
  split at h
  case h_2 => cases h
  next hm hd hc =>
  split at h
  case h_2 => cases h
  next fn hfn =>
  split at h
  case h_2 => cases h
  next vs hvs =>
  cases h
  obtain ⟨fr, cs, H⟩ := S
  simp only at hc
  subst hc
  exact ⟨⟨hm, hd, hk, fn, vs, hfn, hvs, rfl⟩, Nat.eq_of_beq_eq_true hf, rfl⟩

theorem mrun_ok (hA : A.Ok P) (hE : E.Ok P) (hB : BOk A P B) {D : Drawer} (hD : DSound P D) {f : FuncId} : ∀ (n : Nat) (S : ASt) (v : AV) (H' : Heap), mrun A E D slow B.fn f n S = some (v, H') →
    ∃ fr', RetV A fr' H' v ∧ fr'.fn = f ∧ Lz P S ⟨fr', [], H'⟩
  | 0, _, _, _, h => by cases h
  | n + 1, S, v, H', h => by
    unfold mrun at h
    split at h
    · next r hr =>
      cases h
      obtain ⟨h1, h2, h3⟩ := mfinal_ok hr
      refine ⟨S.fr, h1, h2, ?_⟩
      rw [← h3]
      exact Lz.refl _
    · split at h
      case h_2 => cases h
      next S1 hS =>
      rw [ASt.force_eq] at h
      obtain ⟨fr', h1, h2, h3⟩ := mrun_ok hA hE hB hD n S1 v H' h
      exact ⟨fr', h1, h2, (mstep_ok hA hE hB hD hS).trans h3⟩

theorem kslow_ok (hA : A.Ok P) (hE : E.Ok P) (hB : BOk A P B) {D : Drawer} (hD : DSound P D) {L : Nat} {f : FuncId} {args : List AV} {H : Heap} {k : AV → Heap → KR} {r : AV × Heap}
    (h : (kslow A E L D slow B.fn f).run args H k = some r) : FRes A P f args H k r := by
  simp only [kslow] at h
  split at h
  case h_2 => cases h
  next fr hfr =>
  split at h
  case h_2 => cases h
  next v H' hr =>
  simp only [fAV_eq, fHeap_eq] at h
  obtain ⟨fr', h1, h2, h3⟩ := mrun_ok hA hE hB hD L _ v H' hr
  exact ⟨v, H', fr, fr', h, hfr, h1, h2, h3⟩

theorem mone_rok (hA : A.Ok P) (hE : E.Ok P) (hB : BOk A P B) {D : Drawer} (hD : DSound P D) (n : Nat) : ROk P (mone A E D slow B.fn n) := by
  induction n with
  | zero => intro B0 w0 Z base S m fr cs w v H' hS e; cases e
  | succ n ih =>
    intro B0 w0 Z base S m fr cs w v H' hS e
    unfold mone at e
    split at e
    · next u hcs htd =>
      cases e
      have h2 := hS.cs
      rw [hcs] at h2
      simp only [FrRs] at h2
      subst h2
      rcases hS.fr with h1 | ⟨z, hz, h1⟩
      · have := h1.todo
        rw [htd] at this
        obtain ⟨y, ys, _, h3, _⟩ := this
        exact h3.elim
      · cases hz
        rcases h1.todo with ⟨o, h3, _⟩ | ⟨v', x, h3, h4, h5⟩
        · rw [htd] at h3
          cases h3
        · rw [htd] at h3
          cases h3
          exact ⟨m, w, x, by rw [← h5]; exact .refl _ _, m.le_refl, h4, hS.H⟩
    · split at e
      case h_2 => cases e
      next S' hS' =>
      rw [ASt.force_eq] at e
      obtain ⟨m1, fr1, cs1, w1, s1, s2, s3⟩ := mstep_ok hA hE hB hD hS' B0 w0 (some Z) m fr cs base w hS
      obtain ⟨m', w', x, r1, r2, r3, r4⟩ := ih (base := base) S' m1 fr1 cs1 w1 v H' s3 e
      exact ⟨m', w', x, s1.trans r1, Env.le_trans s2 r2, r3, r4⟩

theorem kfn_ok (hA : A.Ok P) (hE : E.Ok P) (hP : P.follows .mixedOrders = true) (hB : BOk A P B) {L : Nat} {f : FuncId} {args : List AV} {H : Heap} {k : AV → Heap → KR} {r : AV × Heap}
    (h : (kfn A E L slow B f).run args H k = some r) : FRes A P f args H k r := by
  unfold kfn at h
  split at h
  · exact kslow_ok hA hE hB hB.dr h
  · split at h
    · next fn hfn =>
      split at h
      · next c hc => exact kfast_ok hA hE hP hB hfn hc h
      · cases h
    · cases h

theorem klev_ok (hA : A.Ok P) (hE : E.Ok P) (hP : P.follows .mixedOrders = true) {L : Nat} : ∀ n, BOk A P (klev A E L slow n)
  | 0 => ⟨fun _ _ _ _ _ h => (by cases h), fun _ _ _ _ _ _ _ _ _ h => (by cases h), noD_ok⟩
  | n + 1 => by
    have ih := klev_ok hA hE hP (L := L) n
    refine ⟨fun f args H k r h => ?_, fun f sz asg body l t H k r h => kround_ok hA hE hP ih h, drawR_ok hA hE hP (mone_rok hA hE ih ih.dr L)⟩
    obtain ⟨v, H', fr, fr', h1, h2, h3, _, h4⟩ := kfn_ok hA hE hP ih h
    exact ⟨v, H', fr, h1, h2, h3.back hA hE h4⟩

theorem RetV.final {fr : AFr} {H : Heap} {v : AV} (h : RetV A fr H v) : afinal A ⟨fr, [], H⟩ = some (v, H) := by
  obtain ⟨h1, h2, h3, fn, vs, h4, h5, rfl⟩ := h
  simp only [afinal, h1, h2, h4, h5]

theorem Lz.leads {S S' : ASt} (h : Lz P S S') : Leads P S S' := fun B0 w0 m fr cs base w hS => h B0 w0 none m fr cs base w hS

/-- A call of a function without arguments that comes out as a truth value. -/
theorem kmain_ok (hA : A.Ok P) (hE : E.Ok P) (hP : P.follows .mixedOrders = true) {L n : Nat} {f : FuncId} {b : Bool} {H : Heap} (h : kmain A E L slow n f = some (.bool b, H)) (w : World) :
    Calls P f #[] w fun e w' => e = .returned (.bool b) ∧ Grown w w' := by
  cases n with
  | zero => cases h
  | succ n =>
    obtain ⟨v, H', fr, fr', h1, h2, h3, h4, h5⟩ := kfn_ok hA hE hP (klev_ok hA hE hP n) h
    cases h1
    exact calls_of hA h2 h5.leads h4 h3.kind h3.final w

end
end Go.Am
