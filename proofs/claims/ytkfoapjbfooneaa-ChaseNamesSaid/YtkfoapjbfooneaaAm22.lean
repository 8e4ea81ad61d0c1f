/- The abstract machine, part 22: leaving, returning, ranges over functions. -/
import Derived.Test.YtkfoapjbfooneaaAm21
namespace Go.Am
open Go.RowKit

section
variable {m : Env} {w : World} {A : AP} {P : Program} {E : Eqs} {B0 : Prot} {w0 : World} {Z : Option Lone} {S S' : ASt} {fr : Frame} {cs base : List Frame}

theorem adoReturn_ok (h : SR B0 w0 Z m S fr cs w) {v : AV} {x : Value} (hv : VR m v x) (e : adoReturn S v = some S') :
    ∃ fr' cs', doReturn P true fr (cs ++ base) none x w = .go { frame := fr', callers := cs' ++ base, status := .running, dying := none } w ∧ SR B0 w0 Z m S' fr' cs' w := by
  have hk := h.fr.kind
  unfold adoReturn at e
  split at e
  · cases e
  next c cs' hcs =>
  have hcs2 := h.cs
  rw [hcs] at hcs2
  obtain ⟨y, ys, rfl, q1, q2⟩ := hcs2
  split at e
  · next hkind =>
    split at e
    case h_2 => cases e
    next c' hf =>
    cases e
    refine ⟨y.finish x, ys, ?_, fin_ok q1 hf hv, q2, h.H⟩
    simp [doReturn, hk, hkind]
  · next hkind =>
    split at e
    · cases e
    · next v' older hcm =>
      cases e
      have hcN : FrN m c y := by
        rcases q1 with q | ⟨z, _, q⟩
        · exact q
        · rw [q.mode] at hcm; cases hcm
      have hmd := hcN.mode
      rw [hcm] at hmd
      obtain ⟨ch, hch, p, ps, rfl, p1, p2, p3, p4⟩ := hmd
      obtain ⟨pv, prec, pgo⟩ := p
      simp only at p1 p2 p3
      subst p2 p3
      have hdrop : ps.dropWhile (fun q => !q.goexit) = [] := by
        clear hch hcm
        induction older generalizing ps with
        | nil => simp only [CR] at p4; subst p4; rfl
        | cons o os ih =>
          obtain ⟨q, qs, rfl, _, _, e3, e4⟩ := p4
          simp only [List.dropWhile_cons, e3, Bool.not_false, if_true]
          exact ih qs e4
      refine ⟨{ y with mode := .returning }, ys, ?_, .inl ⟨hcN.fn, hcN.tmps, hcN.todo, hcN.defers, rfl, hcN.kind, hcN.rnd⟩, q2, h.H⟩
      simp only [doReturn, List.cons_append, hk, hkind, hch, hdrop]
    · next h1 h2 =>
      cases e
      have hcN : FrN m c y := by
        rcases q1 with q | ⟨z, _, q⟩
        · exact q
        · exact absurd q.mode h1
      refine ⟨y, ys, ?_, q1, q2, h.H⟩
      have hmd := hcN.mode
      simp only [doReturn, List.cons_append, hk, hkind]
      cases hcm : c.mode with
      | run => exact absurd hcm h1
      | returning => rw [hcm] at hmd; rw [hmd]
      | panicking chain =>
        rw [hcm] at hmd
        obtain ⟨ch, hch, hcr⟩ := hmd
        rw [hch]
        cases chain with
        | nil => simp only [CR] at hcr; subst hcr; rfl
        | cons v vs =>
          obtain ⟨p, ps, rfl, p1, p2, p3, p4⟩ := hcr
          obtain ⟨v, b⟩ := v
          obtain ⟨pv, prec, pgo⟩ := p
          simp only at p1 p2 p3
          subst p2 p3
          cases b with
          | false => rfl
          | true => exact absurd hcm (h2 v vs)
  · cases e

/-- The machine's word on leaving. -/
theorem exec_leave (hm : fr.mode = .run) {jump : Option Code} {k : List Item}
    (ht : (fr.todo = [] ∧ jump = none) ∨ (fr.todo = .code .ret :: k ∧ jump = some .ret) ∨ (∃ id, fr.todo = .code (.exit id) :: k ∧ jump = some (.exit id) ∧ exitTo id k = none) ∨
      (∃ l, fr.todo = .code (.goto l) :: k ∧ jump = some (.goto l) ∧ gotoIn l k = none)) {l : Nat} (hr : fr.roundOf = some l) {v : Value} {w' : World} (hrun : (Instr.endRound l jump).run P w = .ok v w') :
    (stepG P true { frame := fr, callers := cs, status := .running, dying := none } w).bare = (doReturn P true fr cs none v w').bare := by
  rw [stepG_run hm]
  rcases ht with ⟨ht, rfl⟩ | ⟨ht, rfl⟩ | ⟨id, ht, rfl, hx⟩ | ⟨id, ht, rfl, hx⟩
  · simp [stepG.exec, ht, hr, hrun]
  · simp [stepG.exec, ht, hr, hrun]
  · simp [stepG.exec, ht, hr, hrun, hx]
  · simp [stepG.exec, ht, hr, hrun, hx]

theorem aleave_ok (h : SR B0 w0 Z m S fr cs w) (hrun : S.fr.mode = .run) {jump : Option Code} (e : aleave S jump = some S') (hown : FrN m S.fr fr) {k : List Item}
    (ht : (fr.todo = [] ∧ jump = none) ∨ (fr.todo = .code .ret :: k ∧ jump = some .ret) ∨ (∃ id, fr.todo = .code (.exit id) :: k ∧ jump = some (.exit id) ∧ exitTo id k = none) ∨
      (∃ l, fr.todo = .code (.goto l) :: k ∧ jump = some (.goto l) ∧ gotoIn l k = none)) : Goal B0 w0 Z P base m S' fr cs w := by
  have hmode := h.fr.run hrun
  have hrnd := h.fr.rnd
  unfold aleave at e
  split at e
  · next hr =>
    rw [hr] at hrnd
    have hr0 : fr.roundOf = none := hrnd
    have fin : (jump = none ∨ jump = some .ret) → S' = { S with fr := { S.fr with mode := .returning } } → Goal B0 w0 Z P base m S' fr cs w := by
      intro hj hS
      subst hS
      refine Goal.one ⟨m, { fr with mode := .returning }, cs, w, ?_, m.le_refl, .inl ⟨hown.fn, hown.tmps, hown.todo, hown.defers, rfl, hown.kind, hown.rnd⟩, h.cs, h.H⟩
      refine exec_leave_none (k := k) hr0 hmode ?_
      rcases ht with ⟨ht, _⟩ | ⟨ht, _⟩ | ⟨id, _, rfl, _⟩ | ⟨l, _, rfl, _⟩
      · exact .inl ht
      · exact .inr ht
      · rcases hj with hj | hj <;> cases hj
      · rcases hj with hj | hj <;> cases hj
    split at e
    · cases e; exact fin (.inl rfl) rfl
    · cases e; exact fin (.inr rfl) rfl
    · cases e
  · next l hr =>
    rw [hr] at hrnd
    obtain ⟨lc, hl, hr0⟩ := hrnd
    split at e
    case h_2 => cases e
    next st pend fn sz tmps ps asg body d hb =>
    obtain ⟨l1, k1, arr, ld, k2, k3, k4⟩ := h.H.blk l _ hb
    rw [hl] at k1
    cases k1
    have hH := h.H.setObj (b' := .loop (if jump.isNone then .ready else .done) jump fn sz tmps ps asg body d) hb (by simp) (by simp) hl
      (o' := .loop { state := if jump.isNone then .ready else .done, pending := jump, fn, tmps := arr, params := ps, assign := asg, body, defers := ld.blk }) ⟨arr, ld, k2, rfl, k4⟩
    have hend : (Instr.endRound lc.blk jump).run P w = .ok (.bool jump.isNone) { w with heap := w.heap.setIfInBounds lc.blk (.loop { state := if jump.isNone then .ready else .done, pending := jump, fn, tmps := arr, params := ps, assign := asg, body, defers := ld.blk }) } := by
      simp [Instr.endRound, Instr.getLoop, getObj, setObj, Sem.run, k3]
    obtain ⟨fr', cs', r1, r2⟩ := adoReturn_ok (P := P) (base := base) (S := { S with H := { S.H with blks := S.H.blks.set l (.loop (if jump.isNone then .ready else .done) jump fn sz tmps ps asg body d) } })
      (x := .bool jump.isNone) ⟨h.fr, h.cs, hH⟩ (by simp only [VR]) e
    refine Goal.one ⟨m, fr', cs', _, step_lone_go ?_, m.le_refl, r2⟩
    rw [exec_leave hmode ht hr0 hend, r1]
    rfl

theorem resolve_yield {ρ : Operand → Value} {f : Operand} {fn : Fn} {xf xc : Array Value} (h : ρ f = .func fn xf xc) (V : Value) (w : World) :
    (do let d ← resolve ρ { callee := .value f, args := #[.const V], argTypes := #[] } 0; invoke d.target d.args : Sem Next).run P w = (invoke (.fn fn xc) (xf ++ #[ρ (.const V)])).run P w := by
  simp [resolve, h, Deferred.ofValue]

theorem arange_ok (hA : A.Ok P) (h : SR B0 w0 Z m S fr cs w) (hrun : S.fr.mode = .run) {f : Operand} {ps : Array Tmp} {asg body : Code} {ka : List AItem} {k : List Item} (e : arange A S f ps asg body ka = some S')
    (hown : FrN m S.fr fr) (ht : fr.todo = .code (.rangeFunc f ps asg body) :: k) (hk : IRs m ka k) : Goal B0 w0 Z P base m S' fr cs w := by
  have hmode := h.fr.run hrun
  unfold arange at e
  split at e
  case h_2 => cases e
  next fn first cap hf =>
  have hfv := ev_ok hown.tmps _ _ hf
  simp only [VR] at hfv
  obtain ⟨xf, xc, hx, h1, h2⟩ := hfv
  simp only [] at e
  split at e
  · next hr =>
    have hrnd := h.fr.rnd
    rw [hr] at hrnd
    have hr0 : fr.roundOf = none := hrnd
    split at e
    case h_2 => cases e
    next g args hcall =>
    split at e
    case h_2 => cases e
    next fr' hfr' =>
    cases e
    -- the two new blocks
    have hH1 := h.H.alloc ⟨w.heap.size, 0, 0⟩ rfl (.dfr (some [])) (.deferred (some [])) ⟨[], rfl, rfl⟩ S.H.fams (.inr ⟨by simp, rfl⟩)
    have hle1 := h.H.le_ext ⟨w.heap.size, 0, 0⟩
    have hH2 := hH1.alloc ⟨(w.alloc (.deferred (some []))).heap.size, 0, 0⟩ rfl
      (.loop .ready none S.fr.fn S.fr.sz S.fr.tmps ps asg body S.H.next)
      (.loop { state := .ready, pending := none, fn := fr.fn, tmps := fr.tmps, params := ps, assign := asg, body, defers := w.heap.size })
      ⟨fr.tmps, ⟨w.heap.size, 0, 0⟩, by rw [Env.ext_ne _ _ (by simp)]; exact Env.ext_self _ _ _, by rw [hown.fn], (hown.tmps.mono hle1).mono (hH1.le_ext _)⟩
      S.H.fams (.inr ⟨by simp, rfl⟩)
    have hle2 := hH1.le_ext ⟨(w.alloc (.deferred (some []))).heap.size, 0, 0⟩
    have hle : m.le ((m.ext S.H.next ⟨w.heap.size, 0, 0⟩).ext (S.H.next + 1) ⟨(w.alloc (.deferred (some []))).heap.size, 0, 0⟩) := Env.le_trans hle1 hle2
    have hcall' := acallFn_ok (B0 := B0) (w0 := w0) (w := (w.alloc (.deferred (some []))).alloc (.loop { state := .ready, pending := none, fn := fr.fn, tmps := fr.tmps, params := ps, assign := asg, body, defers := w.heap.size }))
      (m := (m.ext S.H.next ⟨w.heap.size, 0, 0⟩).ext (S.H.next + 1) ⟨(w.alloc (.deferred (some []))).heap.size, 0, 0⟩) (P := P) hA hcall
      (xc := xc) (xa := xf ++ #[.func (.yield (w.heap.size + 1)) #[] #[]]) (VRs.mono hle _ _ h2)
      (by
        rw [Array.toList_append]
        refine (VRs.mono hle _ _ h1).append ?_
        simp only [VRs, VR]
        refine ⟨_, _, rfl, ⟨_, Env.ext_self _ _ _, ?_⟩, rfl⟩
        simp)
    obtain ⟨xs, r1, r2⟩ := hcall'
    refine Goal.one ⟨_, Frame.enter P g xs .normal, { fr with todo := .inRangeFunc (w.heap.size + 1) :: k, defers := { target := .collected w.heap.size, args := #[] } :: fr.defers } :: cs, _, step_lone_go ?_, hle,
      .inl (enter_ok hA hfr' r2), ⟨_, _, rfl, .inl ?_, h.cs.mono hle⟩, hH2⟩
    · rw [stepG_run hmode]
      simp only [stepG.exec, ht]
      have hent : (Instr.enterLoop fr.fn fr.tmps ps asg body fr.roundOf).run P w = .ok (w.heap.size + 1, [{ target := .collected w.heap.size, args := #[] }])
          ((w.alloc (.deferred (some []))).alloc (.loop { state := .ready, pending := none, fn := fr.fn, tmps := fr.tmps, params := ps, assign := asg, body, defers := w.heap.size })) := by
        simp [Instr.enterLoop, hr0]
      simp only [Sem.runT_eq, hent, GStep.bare_after]
      have hev : (Frame.eval { fr with todo := .inRangeFunc (w.heap.size + 1) :: k, defers := { target := .collected w.heap.size, args := #[] } :: fr.defers } f) = .func fn xf xc := by
        rw [← hx]
        cases f <;> rfl
      refine apply_enter (fun d r sv k' hc => by simp at hc) ?_
      exact (resolve_yield hev _ _).trans r1
    · refine ⟨hown.fn, hown.tmps.mono hle, ⟨_, _, rfl, ⟨_, Env.ext_self _ _ _, by simp⟩, hk.mono hle⟩, ⟨_, _, rfl, ⟨⟨w.heap.size, 0, 0⟩, hle2 _ _ (Env.ext_self _ _ _), rfl⟩, hown.defers.mono hle⟩, hown.mode.mono hle, hown.kind, hown.rnd.mono hle⟩
  · next l0 hr =>
    have hrnd := h.fr.rnd
    rw [hr] at hrnd
    obtain ⟨lc0, hl0, hr0⟩ := hrnd
    split at e
    case h_2 => cases e
    next st0 pend0 fn0 sz0 tmps0 ps0 asg0 body0 d hb0 =>
    obtain ⟨l1, k1, arr0, ld, k2, k3, k4⟩ := h.H.blk l0 _ hb0
    rw [hl0] at k1
    cases k1
    split at e
    case h_2 => cases e
    next g args hcall =>
    split at e
    case h_2 => cases e
    next fr' hfr' =>
    cases e
    have hle := h.H.le_ext ⟨w.heap.size, 0, 0⟩
    have hH2 := h.H.alloc ⟨w.heap.size, 0, 0⟩ rfl
      (.loop .ready none S.fr.fn S.fr.sz S.fr.tmps ps asg body d)
      (.loop { state := .ready, pending := none, fn := fr.fn, tmps := fr.tmps, params := ps, assign := asg, body, defers := ld.blk })
      ⟨fr.tmps, ld, hle _ _ k2, by rw [hown.fn], hown.tmps.mono hle⟩
      S.H.fams (.inr ⟨by simp, rfl⟩)
    have hcall' := acallFn_ok (B0 := B0) (w0 := w0) (w := w.alloc (.loop { state := .ready, pending := none, fn := fr.fn, tmps := fr.tmps, params := ps, assign := asg, body, defers := ld.blk }))
      (m := m.ext S.H.next ⟨w.heap.size, 0, 0⟩) (P := P) hA hcall
      (xc := xc) (xa := xf ++ #[.func (.yield w.heap.size) #[] #[]]) (VRs.mono hle _ _ h2)
      (by
        rw [Array.toList_append]
        refine (VRs.mono hle _ _ h1).append ?_
        simp only [VRs, VR]
        exact ⟨_, _, rfl, ⟨_, Env.ext_self _ _ _, rfl⟩, rfl⟩)
    obtain ⟨xs, r1, r2⟩ := hcall'
    refine Goal.one ⟨_, Frame.enter P g xs .normal, { fr with todo := .inRangeFunc w.heap.size :: k, defers := fr.defers } :: cs, _, step_lone_go ?_, hle,
      .inl (enter_ok hA hfr' r2), ⟨_, _, rfl, .inl ?_, h.cs.mono hle⟩, hH2⟩
    · rw [stepG_run hmode]
      simp only [stepG.exec, ht]
      have hent : (Instr.enterLoop fr.fn fr.tmps ps asg body fr.roundOf).run P w = .ok (w.heap.size, [])
          (w.alloc (.loop { state := .ready, pending := none, fn := fr.fn, tmps := fr.tmps, params := ps, assign := asg, body, defers := ld.blk })) := by
        simp [Instr.enterLoop, hr0, Instr.getLoop, getObj, Sem.run, k3]
      simp only [Sem.runT_eq, hent, GStep.bare_after]
      have hev : (Frame.eval { fr with todo := .inRangeFunc w.heap.size :: k, defers := [] ++ fr.defers } f) = .func fn xf xc := by
        rw [← hx]
        cases f <;> rfl
      refine apply_enter (fun d r sv k' hc => by simp at hc) ?_
      exact (resolve_yield hev _ _).trans r1
    · exact ⟨hown.fn, hown.tmps.mono hle, ⟨_, _, rfl, ⟨_, Env.ext_self _ _ _, rfl⟩, hk.mono hle⟩, hown.defers.mono hle, hown.mode.mono hle, hown.kind, hown.rnd.mono hle⟩

end
end Go.Am
