/- The abstract machine, part 21: a step of it is steps of the machine. -/
import Derived.Test.YtkfoapjbfooneaaAm20
namespace Go.Am
open Go.RowKit

structure SR (B0 : Prot) (w0 : World) (Z : Option Lone) (m : Env) (S : ASt) (fr : Frame) (cs : List Frame) (w : World) : Prop where
  fr : FrR Z m S.fr fr
  cs : FrRs Z m S.cs cs
  H : HR B0 w0 m S.H w

def Goal (B0 : Prot) (w0 : World) (Z : Option Lone) (P : Program) (base : List Frame) (m : Env) (S' : ASt) (fr : Frame) (cs : List Frame) (w : World) : Prop :=
  ∃ m' fr' cs' w', Steps P (lone fr (cs ++ base) w) (lone fr' (cs' ++ base) w') ∧ m.le m' ∧ SR B0 w0 Z m' S' fr' cs' w'

section
variable {m : Env} {w : World} {A : AP} {P : Program} {E : Eqs} {B0 : Prot} {w0 : World} {Z : Option Lone} {S S' : ASt} {fr : Frame} {cs base : List Frame}

theorem Goal.one (h : ∃ m' fr' cs' w', step P (lone fr (cs ++ base) w) = .next (lone fr' (cs' ++ base) w') ∧ m.le m' ∧ SR B0 w0 Z m' S' fr' cs' w') : Goal B0 w0 Z P base m S' fr cs w :=
  let ⟨m', fr', cs', w', h1, h2, h3⟩ := h
  ⟨m', fr', cs', w', .one h1, h2, h3⟩

theorem FrR.run (h : FrR Z m S.fr fr) (hm : S.fr.mode = .run) : fr.mode = .run := by
  rcases h with h | ⟨z, _, h⟩
  · have := h.mode
    rw [hm] at this
    exact this
  · rcases h.todo with ⟨o, _, _, e, _⟩ | ⟨v, x, _, _, e⟩
    · rw [e]; exact z.mode
    · rw [e]
      simp [Frame.finish, z.mode]

theorem FrR.out (h : FrR Z m S.fr fr) (hm : S.fr.mode ≠ .run) : FrN m S.fr fr := by
  rcases h with h | ⟨z, _, h⟩
  · exact h
  · exact absurd h.mode hm

theorem FrR.kind (h : FrR Z m S.fr fr) : fr.kind = S.fr.kind := by
  rcases h with h | ⟨z, _, h⟩
  · exact h.kind
  · rcases h.todo with ⟨o, _, _, e, _⟩ | ⟨v, x, _, _, e⟩
    · rw [e]; exact h.kind
    · rw [e]; simp [Frame.finish, h.kind]

theorem FrR.rnd (h : FrR Z m S.fr fr) : RR m S.fr.rnd fr.roundOf := by
  rcases h with h | ⟨z, _, h⟩
  · exact h.rnd
  · rcases h.todo with ⟨o, _, _, e, _⟩ | ⟨v, x, _, _, e⟩
    · rw [e]; exact h.rnd
    · rw [e]; simpa [Frame.finish] using h.rnd

/-- A frame that is not of one operation alone is one of its own. -/
theorem FrR.own {a : AFr} (h : FrR Z m a fr) (hl : a.lone = false) : FrN m a fr := by
  rcases h with h | ⟨z, _, h⟩
  · exact h
  · rcases h.todo with ⟨o, e, _⟩ | ⟨v, x, e, _⟩ <;> simp [AFr.lone, e] at hl

theorem raise_ok {a : AFr} (h : FrN m a fr) {vs : List (AV × Bool)} {ps : List PanicEntry} (hv : CR m vs ps) : FrN m (a.raise vs) (fr.raise ps) := by
  obtain ⟨h1, h2, h3, h4, h5, h6, h7⟩ := h
  unfold AFr.raise
  split
  · next chain hm =>
    rw [hm] at h5
    obtain ⟨c', hc, hcr⟩ := h5
    have hf : fr.raise ps = { fr with mode := .panicking (ps ++ c') } := by simp [Frame.raise, hc]
    rw [hf]
    refine ⟨h1, h2, h3, h4, ⟨_, rfl, ?_⟩, h6, h7⟩
    clear hf hc
    induction vs generalizing ps with
    | nil => simp only [CR] at hv; subst hv; exact hcr
    | cons v vs ih =>
      obtain ⟨y, ys, rfl, e1, e2, e3, e4⟩ := hv
      exact ⟨_, _, rfl, e1, e2, e3, ih e4⟩
  · next hm =>
    have hf : fr.raise ps = { fr with mode := .panicking ps } := by
      unfold Frame.raise
      split
      · next c hc =>
        cases hmm : a.mode with
        | run => rw [hmm] at h5; rw [h5] at hc; cases hc
        | returning => rw [hmm] at h5; rw [h5] at hc; cases hc
        | panicking d => exact absurd hmm (hm d)
      · rfl
    rw [hf]
    exact ⟨h1, h2, h3, h4, ⟨_, rfl, hv⟩, h6, h7⟩

/-- What an operation's outcome makes of the machine. -/
theorem aout_ok (hA : A.Ok P) (h : SR B0 w0 Z m S fr cs w) {out : AOut} (e : aout A S out = some S') (hrun : S.fr.mode = .run) {s : Sem Next}
    (hn : ∀ d r sv k, fr.todo ≠ .call d true r sv :: k)
    (hstep : stepG P true { frame := fr, callers := cs ++ base, status := .running, dying := none } w = stepG.apply P true fr (cs ++ base) none s w)
    (ho : OutR B0 w0 m S.H w out (s.run P w)) : Goal B0 w0 Z P base m S' fr cs w := by
  refine Goal.one ?_
  have hmode := h.fr.run hrun
  cases out with
  | val v H =>
    simp only [aout] at e
    split at e
    case h_2 => cases e
    next fr' hf =>
    cases e
    obtain ⟨x, m', w', r1, r2, r3, r4⟩ := ho
    exact ⟨m', fr.finish x, cs, w', step_lone_go (by rw [hstep]; exact apply_value r1), r2, fin_ok (h.fr.mono r2) hf r3, h.cs.mono r2, r4⟩
  | skip H =>
    simp only [aout] at e
    split at e
    case h_2 => cases e
    next fr' hf =>
    cases e
    obtain ⟨m', w', r1, r2, r3⟩ := ho
    exact ⟨m', fr.finish undef, cs, w', step_lone_go (by rw [hstep]; exact apply_skip r1), r2, fin_ok (h.fr.mono r2) hf (by simp [VR, VRs, undef]), h.cs.mono r2, r3⟩
  | enter f args =>
    simp only [aout] at e
    split at e
    case h_2 => cases e
    next fr' hf =>
    cases e
    obtain ⟨xs, r1, r2⟩ := ho
    exact ⟨m, Frame.enter P f xs .normal, fr :: cs, w, step_lone_go (by rw [hstep]; exact apply_enter hn r1), m.le_refl, .inl (enter_ok hA hf r2), ⟨_, _, rfl, h.fr, h.cs⟩, h.H⟩
  | round l fn sz tmps asg body =>
    simp only [aout, Option.some.injEq] at e
    subst e
    obtain ⟨lc, arr, k1, r1, k2⟩ := ho
    refine ⟨m, Frame.round lc.blk fn arr asg body .normal, fr :: cs, w, step_lone_go (by rw [hstep]; exact apply_round r1), m.le_refl, .inl ⟨rfl, k2, ?_, rfl, rfl, rfl, ⟨lc, k1, rfl⟩⟩, ⟨_, _, rfl, h.fr, h.cs⟩, h.H⟩
    exact ⟨_, _, rfl, rfl, _, _, rfl, rfl, _, _, rfl, rfl, rfl⟩
  | defer d =>
    simp only [aout] at e
    split at e
    case h_2 => cases e
    next hr hl =>
    split at e
    case h_2 => cases e
    next fr' hf =>
    cases e
    obtain ⟨x, r1, r2⟩ := ho
    have hown := h.fr.own hl
    have hN : FrN m { S.fr with defers := d :: S.fr.defers } { fr with defers := x :: fr.defers } := ⟨hown.fn, hown.tmps, hown.todo, ⟨_, _, rfl, r2, hown.defers⟩, hown.mode, hown.kind, hown.rnd⟩
    exact ⟨m, _, cs, w, step_lone_go (by rw [hstep]; exact apply_defer r1), m.le_refl, fin_ok (.inl hN) hf (by simp [VR, VRs, undef]), h.cs, h.H⟩
  | recover =>
    simp only [aout] at e
    split at e
    case h_2 => cases e
    next hr =>
    have hr0 : fr.roundOf = none := by
      have := h.fr.rnd
      rw [hr] at this
      exact this
    have hk := h.fr.kind
    split at e
    · next hkind =>
      split at e
      case h_2 => cases e
      next fr' hf =>
      cases e
      have ht : tryRecover fr (cs ++ base) = none := by
        rw [hkind] at hk
        unfold tryRecover
        rw [hk]
      refine ⟨m, fr.finish .nilIface, cs, w, step_lone_go ?_, m.le_refl, fin_ok h.fr hf (by simp only [VR]), h.cs, h.H⟩
      rw [hstep, apply_recover hr0 ho, ht]
    · next hkind =>
      rw [hkind] at hk
      split at e
      · cases e
      next c cs' hcs =>
      have hcs2 := h.cs
      rw [hcs] at hcs2
      obtain ⟨y, ys, rfl, q1, q2⟩ := hcs2
      split at e
      · cases e
      · next v older hcm =>
        split at e
        case h_2 => cases e
        next fr' hf =>
        cases e
        have hcN : FrN m c y := by
          rcases q1 with q | ⟨z, _, q⟩
          · exact q
          · rw [q.mode] at hcm; cases hcm
        have hmd := hcN.mode
        rw [hcm] at hmd
        obtain ⟨ch, hch, p, ps, rfl, p1, p2, p3, p4⟩ := hmd
        obtain ⟨pv, prec, pgo⟩ := p
        simp only at p1 p2 p3
        subst p2 p3
        have ht : tryRecover fr (y :: ys ++ base) = some (pv, { y with mode := .panicking ({ v := pv, recovered := true } :: ps) } :: (ys ++ base)) := by
          unfold tryRecover
          simp [hk, hch]
        refine ⟨m, fr.finish pv, { y with mode := .panicking ({ v := pv, recovered := true } :: ps) } :: ys, w, step_lone_go ?_, m.le_refl, fin_ok h.fr hf p1, ?_, h.H⟩
        · rw [hstep, apply_recover hr0 ho, ht]
          rfl
        · exact ⟨_, _, rfl, .inl ⟨hcN.fn, hcN.tmps, hcN.todo, hcN.defers, ⟨_, rfl, _, _, rfl, p1, rfl, rfl, p4⟩, hcN.kind, hcN.rnd⟩, q2⟩
      · next h1 h2 =>
        split at e
        case h_2 => cases e
        next fr' hf =>
        cases e
        have hcN : FrN m c y := by
          rcases q1 with q | ⟨z, _, q⟩
          · exact q
          · exact absurd q.mode h1
        have ht : tryRecover fr (y :: ys ++ base) = none := by
          have hmd := hcN.mode
          unfold tryRecover
          simp only [hk, List.cons_append]
          cases hcm : c.mode with
          | run => exact absurd hcm h1
          | returning => rw [hcm] at hmd; rw [hmd]
          | panicking chain =>
            rw [hcm] at hmd
            obtain ⟨ch, hch, hcr⟩ := hmd
            rw [hch]
            cases chain with
            | nil => simp only [CR] at hcr; subst hcr; rfl
            | cons v vs =>
              obtain ⟨p, ps, rfl, p1, p2, p3, p4⟩ := hcr
              obtain ⟨v, b⟩ := v
              obtain ⟨pv, prec, pgo⟩ := p
              simp only at p1 p2 p3
              subst p2 p3
              cases b with
              | true => rfl
              | false => exact absurd hcm (h2 v vs)
        refine ⟨m, fr.finish .nilIface, y :: ys, w, step_lone_go ?_, m.le_refl, fin_ok h.fr hf (by simp only [VR]), (by show FrRs Z m S.cs _; rw [hcs]; exact ⟨_, _, rfl, q1, q2⟩), h.H⟩
        rw [hstep, apply_recover hr0 ho, ht]
    · cases e
  | panic v =>
    simp only [aout] at e
    split at e
    case h_2 => cases e
    next hl =>
    cases e
    obtain ⟨x, r1, r2⟩ := ho
    exact ⟨m, _, cs, w, step_lone_go (by rw [hstep]; exact apply_panic r1), m.le_refl, .inl (raise_ok (h.fr.own hl) ⟨_, _, rfl, r2, rfl, rfl, rfl⟩), h.cs, h.H⟩

end
end Go.Am
