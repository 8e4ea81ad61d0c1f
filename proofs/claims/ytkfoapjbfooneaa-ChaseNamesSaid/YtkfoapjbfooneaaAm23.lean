/- The abstract machine, part 23: every step. -/
import Derived.Test.YtkfoapjbfooneaaAm22
namespace Go.Am
open Go.RowKit

/-- What runs regions that draw their order is right. -/
def DSound (P : Program) (D : Drawer) : Prop :=
  ∀ (B0 : Prot) (w0 : World) (m : Env) (H H' : Heap) (w : World) (a : AFr) (f : Frame) (id : Nat) (ops : Array Oper) (t : T AV) (k : List Item) (cs : List Frame),
    D a ops H = some (t, H') → HR B0 w0 m H w → f.fn = a.fn → f.kind = a.kind → RR m a.rnd f.roundOf → f.mode = .run → TR m a.sz a.tmps f.tmps →
    ∃ m' w' arr, Steps P (lone { f with todo := .code (.region id ops true) :: k } cs w) (lone { f with tmps := arr, todo := k } cs w') ∧ m.le m' ∧ TR m' a.sz t arr ∧ HR B0 w0 m' H' w'

section
variable {m : Env} {w : World} {A : AP} {P : Program} {E : Eqs} {B0 : Prot} {w0 : World} {Z : Option Lone} {S S' : ASt} {fr : Frame} {cs base : List Frame} {D : Drawer}

theorem todo_ok (h : SR B0 w0 Z m S fr cs w) (hrun : S.fr.mode = .run) (hown : FrN m S.fr fr) {ka : List AItem} {k : List Item} (hk : IRs m ka k)
    (hx : stepG.exec P true true fr (cs ++ base) none w = .go { frame := { fr with todo := k }, callers := cs ++ base, status := .running, dying := none } w) :
    Goal B0 w0 Z P base m { S with fr := { S.fr with todo := ka } } fr cs w :=
  Goal.one ⟨m, { fr with todo := k }, cs, w, step_todo (h.fr.run hrun) hx, m.le_refl, .inl ⟨hown.fn, hown.tmps, hk, hown.defers, hown.mode, hown.kind, hown.rnd⟩, h.cs, h.H⟩

theorem acode_ok (hA : A.Ok P) (hD : DSound P D) (h : SR B0 w0 Z m S fr cs w) (hrun : S.fr.mode = .run) {c : Code} {ka : List AItem} {k : List Item} (hown : FrN m S.fr fr) (ht : fr.todo = .code c :: k) (hk : IRs m ka k)
    (e : acode A D S ka c = some S') : Goal B0 w0 Z P base m S' fr cs w := by
  have hmode := h.fr.run hrun
  cases c with
  | skip =>
    simp only [acode, Option.some.injEq] at e
    subst e
    exact todo_ok h hrun hown hk (by simp [stepG.exec, ht])
  | label l =>
    simp only [acode, Option.some.injEq] at e
    subst e
    exact todo_ok h hrun hown hk (by simp [stepG.exec, ht])
  | ret =>
    simp only [acode] at e
    exact aleave_ok h hrun e hown (.inr (.inl ⟨ht, rfl⟩))
  | seq a b =>
    simp only [acode, Option.some.injEq] at e
    subst e
    exact todo_ok h hrun hown ⟨_, _, rfl, rfl, _, _, rfl, rfl, hk⟩ (by simp [stepG.exec, ht])
  | cond c a b =>
    simp only [acode] at e
    split at e
    · next hc =>
      cases e
      have hcv := ev_ok hown.tmps _ _ hc
      simp only [VR] at hcv
      exact todo_ok h hrun hown ⟨_, _, rfl, rfl, hk⟩ (by simp [stepG.exec, ht, hcv])
    · next hc =>
      cases e
      have hcv := ev_ok hown.tmps _ _ hc
      simp only [VR] at hcv
      exact todo_ok h hrun hown ⟨_, _, rfl, rfl, hk⟩ (by simp [stepG.exec, ht, hcv])
    · cases e
  | block id body =>
    simp only [acode, Option.some.injEq] at e
    subst e
    exact todo_ok h hrun hown ⟨_, _, rfl, rfl, _, _, rfl, rfl, hk⟩ (by simp [stepG.exec, ht])
  | loop body =>
    simp only [acode, Option.some.injEq] at e
    subst e
    exact todo_ok h hrun hown ⟨_, _, rfl, rfl, _, _, rfl, rfl, hk⟩ (by simp [stepG.exec, ht])
  | scope body =>
    simp only [acode, Option.some.injEq] at e
    subst e
    exact todo_ok h hrun hown ⟨_, _, rfl, rfl, _, _, rfl, rfl, hk⟩ (by simp [stepG.exec, ht])
  | exit id =>
    simp only [acode] at e
    obtain ⟨x1, x2⟩ := aexitTo_ok id ka k hk
    split at e
    · next k' hk' =>
      cases e
      obtain ⟨i', i1, i2⟩ := x1 _ hk'
      exact todo_ok h hrun hown i2 (by simp [stepG.exec, ht, i1])
    · next hk' => exact aleave_ok h hrun e hown (.inr (.inr (.inl ⟨id, ht, rfl, x2 hk'⟩)))
  | goto l =>
    simp only [acode] at e
    obtain ⟨x1, x2⟩ := agotoIn_ok l ka k hk
    split at e
    · next k' hk' =>
      cases e
      obtain ⟨i', i1, i2⟩ := x1 _ hk'
      exact todo_ok h hrun hown i2 (by simp [stepG.exec, ht, i1])
    · next hk' => exact aleave_ok h hrun e hown (.inr (.inr (.inr ⟨l, ht, rfl, x2 hk'⟩)))
  | region id ops draw =>
    cases draw with
    | false =>
      simp only [acode, Option.some.injEq] at e
      subst e
      refine todo_ok h hrun hown (k := .inRegion ops (List.range ops.size) :: k) ⟨_, _, rfl, ⟨ops, _, rfl, rfl, ?_⟩, hk⟩ (by simp [stepG.exec, ht])
      apply List.ext_getElem?
      intro i
      simp only [List.getElem?_map, List.getElem?_range, Array.getElem?_toList]
      rcases Nat.lt_or_ge i ops.size with hi | hi
      · rw [List.getElem?_range hi]
        simp [hi]
      · rw [List.getElem?_eq_none (by simpa using hi)]
        simp [hi]
    | true =>
      simp only [acode] at e
      split at e
      case h_2 => cases e
      next t H' hd =>
      cases e
      obtain ⟨m', w', arr, s1, s2, s3, s4⟩ := hD B0 w0 m S.H H' w S.fr fr id ops t k (cs ++ base) hd h.H hown.fn hown.kind hown.rnd hmode hown.tmps
      have hfr : { fr with todo := .code (.region id ops true) :: k } = fr := by rw [← ht]
      rw [hfr] at s1
      exact ⟨m', _, cs, w', s1, s2, .inl ⟨hown.fn, s3, hk.mono s2, hown.defers.mono s2, hown.mode.mono s2, hown.kind, hown.rnd.mono s2⟩, h.cs.mono s2, s4⟩
  | rangeFunc f ps asg body => exact arange_ok hA h hrun e hown ht hk
  | refuse why => simp [acode] at e

/-- One operation. -/
theorem oper_ok (hA : A.Ok P) (hE : E.Ok P) (h : SR B0 w0 Z m S fr cs w) (hrun : S.fr.mode = .run) {all : List Oper} {ops : Array Oper} (hall : ops.toList = all) {o : Oper} {i : Nat} {is : List Nat} {k : List Item}
    (ht : fr.todo = .inRegion ops (i :: is) :: k) (ho : ops[i]? = some o) (hT : TR m S.fr.sz S.fr.tmps fr.tmps)
    (e : (match aguard all S.fr.tmps o.guard with
      | some true => match aop A E S.H S.fr.ev o with
        | some out => aout A S out
        | none => none
      | some false => match S.fr.fin (.tup []) with
        | some fr => some { S with fr }
        | none => none
      | none => none) = some S') : Goal B0 w0 Z P base m S' fr cs w := by
  have hmode := h.fr.run hrun
  split at e
  · next hg =>
    split at e
    case h_2 => cases e
    next out hout =>
    have hw := aguard_ok hall hT hg
    have hO := aop_ok hA hE h.H (ev_ok hT) hout
    have hdef : fr.roundOf = none ∨ ∀ c, o.op ≠ .defer c := by
      by_cases hd : ∃ c, o.op = .defer c
      · obtain ⟨c, hd⟩ := hd
        left
        have hout' : ∃ d, out = .defer d := by
          unfold aop at hout
          simp only [hd] at hout
          split at hout
          case h_2 => cases hout
          split at hout
          case h_2 => cases hout
          cases hout
          exact ⟨_, rfl⟩
        obtain ⟨d, rfl⟩ := hout'
        simp only [aout] at e
        split at e
        case h_2 => cases e
        next hr _ =>
        have := h.fr.rnd
        rw [hr] at this
        exact this
      · exact .inr fun c hc => hd ⟨c, hc⟩
    exact aout_ok hA h e hrun (s := execOp fr.eval o) (fun d r sv k' hc => by rw [ht] at hc; cases hc)
      (by rw [stepG_run hmode]; exact exec_op ht ho hw hdef) hO
  · next hg =>
    split at e
    case h_2 => cases e
    next fr' hf =>
    cases e
    have hw := aguard_ok hall hT hg
    exact Goal.one ⟨m, fr.finish undef, cs, w, step_lone_go (by rw [stepG_run hmode, exec_unwanted ht ho hw]; rfl), m.le_refl, fin_ok h.fr hf (by simp [VR, VRs, undef]), h.cs, h.H⟩
  · cases e

theorem arun1_ok (hA : A.Ok P) (hE : E.Ok P) (hD : DSound P D) (h : SR B0 w0 Z m S fr cs w) (hrun : S.fr.mode = .run) (e : arun1 A E D S = some S') : Goal B0 w0 Z P base m S' fr cs w := by
  have hmode := h.fr.run hrun
  have own : ∀ {x : AItem} {l : List AItem}, S.fr.todo = x :: l → (∀ a o, x ≠ .one a o) → (∀ v, x ≠ .don v) → FrN m S.fr fr := by
    intro x l hx h1 h2
    refine h.fr.own ?_
    unfold AFr.lone
    split
    · next a o r hr => rw [hx] at hr; cases hr; exact absurd rfl (h1 _ _)
    · next v r hr => rw [hx] at hr; cases hr; exact absurd rfl (h2 _)
    · rfl
  unfold arun1 at e
  split at e
  · next ht =>
    have hown : FrN m S.fr fr := h.fr.own (by simp [AFr.lone, ht])
    have htd := hown.todo
    rw [ht] at htd
    exact aleave_ok h hrun e hown (k := []) (.inl ⟨htd, rfl⟩)
  · next c k ht =>
    have hown := own ht (by simp) (by simp)
    have htd := hown.todo
    rw [ht] at htd
    obtain ⟨y, ys, h1, h2, h3⟩ := htd
    simp only [IR] at h2
    subst h2
    exact acode_ok hA hD h hrun hown h1 h3 e
  · next id k ht =>
    have hown := own ht (by simp) (by simp)
    have htd := hown.todo
    rw [ht] at htd
    obtain ⟨y, ys, h1, h2, h3⟩ := htd
    simp only [IR] at h2
    subst h2
    cases e
    exact todo_ok h hrun hown h3 (by simp [stepG.exec, h1])
  · next c k ht =>
    have hown := own ht (by simp) (by simp)
    have htd := hown.todo
    rw [ht] at htd
    obtain ⟨y, ys, h1, h2, h3⟩ := htd
    simp only [IR] at h2
    subst h2
    cases e
    exact todo_ok h hrun hown h3 (by simp [stepG.exec, h1])
  · next c k ht =>
    have hown := own ht (by simp) (by simp)
    have htd := hown.todo
    rw [ht] at htd
    obtain ⟨y, ys, h1, h2, h3⟩ := htd
    simp only [IR] at h2
    subst h2
    cases e
    exact todo_ok h hrun hown ⟨_, _, rfl, rfl, _, _, rfl, rfl, h3⟩ (by simp [stepG.exec, h1])
  · next all k ht =>
    have hown := own ht (by simp) (by simp)
    have htd := hown.todo
    rw [ht] at htd
    obtain ⟨y, ys, h1, ⟨arr, is, rfl, h2, h4⟩, h3⟩ := htd
    have his : is = [] := by simpa using h4
    subst his
    cases e
    exact todo_ok h hrun hown h3 (by simp [stepG.exec, h1])
  · next all o rest k ht =>
    have hown := own ht (by simp) (by simp)
    have htd := hown.todo
    rw [ht] at htd
    obtain ⟨y, ys, h1, ⟨arr, is, rfl, h2, h4⟩, h3⟩ := htd
    cases is with
    | nil => simp at h4
    | cons i is =>
      simp only [List.map_cons, List.cons.injEq] at h4
      exact oper_ok hA hE h hrun h2 h1 h4.1 hown.tmps e
  · next all o k ht =>
    rcases h.fr with hN | ⟨z, hz, hL⟩
    · have htd := hN.todo
      rw [ht] at htd
      obtain ⟨y, ys, h1, h2, h3⟩ := htd
      exact h2.elim
    · rcases hL.todo with ⟨o', t1, t2, t3, t4⟩ | ⟨v, x, t1, _⟩
      · rw [ht] at t1
        cases t1
        refine oper_ok hA hE h hrun rfl (ops := z.ops) (i := z.i) (is := z.rest) (k := z.k) ?_ t2 ?_ e
        · rw [t3]
        · rw [t3]; exact t4
      · rw [ht] at t1
        cases t1
  · cases e
  · cases e
  · next l k ht =>
    have hown := own ht (by simp) (by simp)
    have htd := hown.todo
    rw [ht] at htd
    obtain ⟨y, ys, h1, ⟨lc, hl, rfl⟩, h3⟩ := htd
    split at e
    case h_2 => cases e
    next st pend fn sz tmps ps asg body d hb =>
    obtain ⟨l1, k1, arr, ld, k2, k3, k4⟩ := h.H.blk l _ hb
    rw [hl] at k1
    cases k1
    have hH := h.H.setObj (b' := .loop .exhausted pend fn sz tmps ps asg body d) hb (by simp) (by simp) hl
      (o' := .loop { state := .exhausted, pending := pend, fn, tmps := arr, params := ps, assign := asg, body, defers := ld.blk }) ⟨arr, ld, k2, rfl, k4⟩
    have go : st ≠ .busy → ∀ ka k', IRs m ka k' → (pend.map Item.code).toList ++ ys = k' →
        Goal B0 w0 Z P base m { S with fr := { S.fr with todo := ka }, H := { S.H with blks := S.H.blks.set l (.loop .exhausted pend fn sz tmps ps asg body d) } } fr cs w := by
      intro hst ka k' hk hke
      refine Goal.one ⟨m, { fr with todo := k' }, cs, _, step_lone_go ?_, m.le_refl, .inl ⟨hown.fn, hown.tmps, hk, hown.defers, hown.mode, hown.kind, hown.rnd⟩, h.cs, hH⟩
      have hend : (Instr.endLoop lc.blk).run P w = .ok pend { w with heap := w.heap.setIfInBounds lc.blk (.loop { state := .exhausted, pending := pend, fn, tmps := arr, params := ps, assign := asg, body, defers := ld.blk }) } := by
        simp [Instr.endLoop, Instr.getLoop, getObj, setObj, Sem.run, k3, hst]
      rw [stepG_run hmode]
      subst hke
      simp [stepG.exec, h1, hend]
    split at e
    · cases e
    · next hst =>
      have hst' : st ≠ .busy := fun hc => hst hc
      split at e
      · next c => cases e; exact go hst' _ _ ⟨_, _, rfl, rfl, h3⟩ rfl
      · cases e; exact go hst' _ _ h3 rfl
  · next k ht =>
    have hown := own ht (by simp) (by simp)
    have htd := hown.todo
    rw [ht] at htd
    obtain ⟨y, ys, h1, h2, h3⟩ := htd
    simp only [IR] at h2
    subst h2
    have hrnd := h.fr.rnd
    split at e
    case h_2 => cases e
    next l hr =>
    rw [hr] at hrnd
    obtain ⟨lc, hl, hr0⟩ := hrnd
    split at e
    case h_2 => cases e
    next pend fn sz tmps ps asg body d hb =>
    cases e
    obtain ⟨l1, k1, arr, ld, k2, k3, k4⟩ := h.H.blk l _ hb
    rw [hl] at k1
    cases k1
    have hH := h.H.setObj (b' := .loop .busy pend fn sz tmps ps asg body d) hb (by simp) (by simp) hl
      (o' := .loop { state := .busy, pending := pend, fn, tmps := arr, params := ps, assign := asg, body, defers := ld.blk }) ⟨arr, ld, k2, rfl, k4⟩
    refine Goal.one ⟨m, { fr with todo := ys }, cs, _, step_lone_go ?_, m.le_refl, .inl ⟨hown.fn, hown.tmps, h3, hown.defers, hown.mode, hown.kind, hown.rnd⟩, h.cs, hH⟩
    have hbeg : (do fr.roundOf.elim (stuck "beginRound: no round") Instr.beginRound; pure .skip : Sem Next).run P w = .ok .skip { w with heap := w.heap.setIfInBounds lc.blk (.loop { state := .busy, pending := pend, fn, tmps := arr, params := ps, assign := asg, body, defers := ld.blk }) } := by
      simp [hr0, Instr.beginRound, Instr.getLoop, getObj, setObj, Sem.run, k3]
    have hfin : fr.finish undef = { fr with todo := ys } := by simp [Frame.finish, h1]
    rw [stepG_run hmode, ← hfin]
    simp only [stepG.exec, h1]
    exact apply_skip hbeg

theorem aunwind_ok (hA : A.Ok P) (h : SR B0 w0 Z m S fr cs w) (hrun : S.fr.mode ≠ .run) (e : aunwind A S = some S') : Goal B0 w0 Z P base m S' fr cs w := by
  have hown := h.fr.out hrun
  have hmode : fr.mode ≠ .run := by
    have := hown.mode
    intro hc
    rw [hc] at this
    cases hm : S.fr.mode with
    | run => exact hrun hm
    | returning => rw [hm] at this; cases this
    | panicking c => rw [hm] at this; obtain ⟨c', h1, _⟩ := this; cases h1
  have hdef := hown.defers
  unfold aunwind at e
  split at e
  · next b ds hd =>
    rw [hd] at hdef
    obtain ⟨y, ys, h1, ⟨lc, hl, rfl⟩, h3⟩ := hdef
    split at e
    case h_2 => cases e
    next calls hb =>
    cases e
    obtain ⟨l1, k1, xs, k2, k3⟩ := h.H.blk b _ hb
    rw [hl] at k1
    cases k1
    have hH := h.H.setObj (b' := .dfr none) hb (by simp) (by simp) hl (o' := .deferred none) rfl
    have hds : DRs m (calls ++ ds) (xs ++ ys) := by
      clear hb k2 hH
      induction calls generalizing xs with
      | nil => simp only [DRs] at k3; subst k3; exact h3
      | cons c cs ih =>
        obtain ⟨z, zs, rfl, e1, e2⟩ := k3
        exact ⟨_, _, rfl, e1, ih zs e2⟩
    refine Goal.one ⟨m, { fr with defers := xs ++ ys }, cs, _, step_lone_go ?_, m.le_refl, .inl ⟨hown.fn, hown.tmps, hown.todo, hds, hown.mode, hown.kind, hown.rnd⟩, h.cs, hH⟩
    have htake : (Instr.takeDeferred lc.blk).run P w = .ok xs { w with heap := w.heap.setIfInBounds lc.blk (.deferred none) } := by
      simp [Instr.takeDeferred, getObj, setObj, Sem.run, k2]
    rw [stepG_out hmode]
    simp [unwind, h1, htake]
  · next f cap args ds hd =>
    rw [hd] at hdef
    obtain ⟨y, ys, h1, ⟨c, a, rfl, h2, h2'⟩, h3⟩ := hdef
    split at e
    case h_2 => cases e
    next g xs hcall =>
    split at e
    case h_2 => cases e
    next fr' hf =>
    cases e
    obtain ⟨vs, r1, r2⟩ := acallFn_ok (B0 := B0) (w0 := w0) (H := S.H) (w := w) (m := m) (P := P) hA hcall h2 h2'
    refine Goal.one ⟨m, Frame.enter P g vs .deferred, { fr with defers := ys } :: cs, w, step_lone_go ?_, m.le_refl, .inl (enter_ok hA hf r2),
      ⟨_, _, rfl, .inl ⟨hown.fn, hown.tmps, hown.todo, h3, hown.mode, hown.kind, hown.rnd⟩, h.cs⟩, h.H⟩
    rw [stepG_out hmode]
    simp [unwind, h1, callDeferred, r1]
  · next hd =>
    rw [hd] at hdef
    have hd0 : fr.defers = [] := hdef
    split at e
    · cases e
    · next chain hm =>
      split at e
      case h_2 => cases e
      next c cs' fn hcs hfn =>
      split at e
      case h_2 => cases e
      next hl =>
      cases e
      have hcs2 := h.cs
      rw [hcs] at hcs2
      obtain ⟨y, ys, rfl, q1, q2⟩ := hcs2
      have hmd := hown.mode
      rw [hm] at hmd
      obtain ⟨ch, hch, hcr⟩ := hmd
      have hF := hA.funcs _ _ hfn
      rw [← hown.fn] at hF
      refine Goal.one ⟨m, y.raise ch, ys, w, step_lone_go ?_, m.le_refl, .inl (raise_ok (q1.own hl) hcr), q2, h.H⟩
      rw [stepG_out hmode]
      simp [unwind, hd0, hch, Frame.catches, hF]
    · next hm =>
      have hmd := hown.mode
      rw [hm] at hmd
      have hmd' : fr.mode = .returning := hmd
      split at e
      case h_2 => cases e
      next fn hfn =>
      split at e
      case h_2 => cases e
      next vs hvs =>
      have hF := hA.funcs _ _ hfn
      rw [← hown.fn] at hF
      obtain ⟨x, x1, x2⟩ := results_ok hA h.H hown.tmps hvs
      obtain ⟨fr', cs', r1, r2⟩ := adoReturn_ok (P := P) (base := base) h x2 e
      refine Goal.one ⟨m, fr', cs', w, step_lone_go ?_, m.le_refl, r2⟩
      rw [stepG_out hmode]
      simp [unwind, hd0, hmd', hF, x1, r1]

theorem astep_ok (hA : A.Ok P) (hE : E.Ok P) (hD : DSound P D) (h : SR B0 w0 Z m S fr cs w) (e : astep A E D S = some S') : Goal B0 w0 Z P base m S' fr cs w := by
  unfold astep at e
  split at e
  · next hm => exact arun1_ok hA hE hD h hm e
  · next hm => exact aunwind_ok hA h (by rw [hm]; simp) e
  · next c hm => exact aunwind_ok hA h (by rw [hm]; simp) e

end
end Go.Am
