/- The abstract machine, part 19: what a state says of a machine. -/
import Derived.Test.YtkfoapjbfooneaaAm18
namespace Go.Am
open Go.RowKit

/-- The frame of which one operation alone is run: what it is in the machine. -/
structure Lone where
  f : Frame
  ops : Array Oper
  i : Nat
  rest : List Nat
  k : List Item
  mode : f.mode = .run

def IR (m : Env) : AItem → Item → Prop
  | .code c, i => i = .code c
  | .inBlock id, i => i = .inBlock id
  | .inLoop c, i => i = .inLoop c
  | .inScope c, i => i = .inScope c
  | .ops all rest, i => ∃ arr is, i = .inRegion arr is ∧ arr.toList = all ∧ is.map (fun j => arr[j]?) = rest.map some
  | .inRF l, i => ∃ lc, m l = some lc ∧ i = .inRangeFunc lc.blk
  | .endRF l, i => ∃ lc, m l = some lc ∧ i = .endRangeFunc lc.blk
  | .beginRound, i => i = .beginRound
  | .one _ _, _ => False
  | .don _, _ => False

def IRs (m : Env) : List AItem → List Item → Prop
  | [], xs => xs = []
  | a :: as, xs => ∃ y ys, xs = y :: ys ∧ IR m a y ∧ IRs m as ys

def CR (m : Env) : List (AV × Bool) → List PanicEntry → Prop
  | [], xs => xs = []
  | a :: as, xs => ∃ y ys, xs = y :: ys ∧ VR m a.1 y.v ∧ a.2 = y.recovered ∧ y.goexit = false ∧ CR m as ys

def MR (m : Env) : AMode → FrameMode → Prop
  | .run, x => x = .run
  | .returning, x => x = .returning
  | .panicking c, x => ∃ c', x = .panicking c' ∧ CR m c c'

def RR (m : Env) : Option Nat → Option Nat → Prop
  | none, x => x = none
  | some l, x => ∃ lc, m l = some lc ∧ x = some lc.blk

/-- A frame of its own. -/
structure FrN (m : Env) (a : AFr) (f : Frame) : Prop where
  fn : f.fn = a.fn
  tmps : TR m a.sz a.tmps f.tmps
  todo : IRs m a.todo f.todo
  defers : DRs m a.defers f.defers
  mode : MR m a.mode f.mode
  kind : f.kind = a.kind
  rnd : RR m a.rnd f.roundOf

/-- The frame of which one operation alone is run. -/
structure FrL (Z : Lone) (m : Env) (a : AFr) (f : Frame) : Prop where
  todo : (∃ o, a.todo = [.one Z.ops.toList o] ∧ Z.ops[Z.i]? = some o ∧ f = { Z.f with todo := .inRegion Z.ops (Z.i :: Z.rest) :: Z.k } ∧ TR m a.sz a.tmps Z.f.tmps) ∨
    (∃ v x, a.todo = [.don v] ∧ VR m v x ∧ f = ({ Z.f with todo := .inRegion Z.ops (Z.i :: Z.rest) :: Z.k } : Frame).finish x)
  mode : a.mode = .run
  fn : Z.f.fn = a.fn
  kind : Z.f.kind = a.kind
  rnd : RR m a.rnd Z.f.roundOf

def FrR (Z : Option Lone) (m : Env) (a : AFr) (f : Frame) : Prop :=
  FrN m a f ∨ ∃ z, Z = some z ∧ FrL z m a f

def FrRs (Z : Option Lone) (m : Env) : List AFr → List Frame → Prop
  | [], xs => xs = []
  | a :: as, xs => ∃ y ys, xs = y :: ys ∧ FrR Z m a y ∧ FrRs Z m as ys

section
variable {m m' : Env} {Z : Option Lone}

theorem IR.mono (h : m.le m') {a : AItem} {i : Item} (e : IR m a i) : IR m' a i := by
  cases a <;> simp only [IR] at e ⊢ <;> first
    | exact e
    | (obtain ⟨lc, h1, h2⟩ := e; exact ⟨lc, h _ _ h1, h2⟩)

theorem IRs.mono (h : m.le m') : ∀ {a : List AItem} {i : List Item}, IRs m a i → IRs m' a i
  | [], _, e => e
  | _ :: _, _, ⟨y, ys, h1, h2, h3⟩ => ⟨y, ys, h1, h2.mono h, IRs.mono h h3⟩

theorem CR.mono (h : m.le m') : ∀ {a : List (AV × Bool)} {i : List PanicEntry}, CR m a i → CR m' a i
  | [], _, e => e
  | _ :: _, _, ⟨y, ys, h1, h2, h3, h4, h5⟩ => ⟨y, ys, h1, VR.mono h _ _ h2, h3, h4, CR.mono h h5⟩

theorem MR.mono (h : m.le m') {a : AMode} {x : FrameMode} (e : MR m a x) : MR m' a x := by
  cases a with
  | run => exact e
  | returning => exact e
  | panicking c => obtain ⟨c', h1, h2⟩ := e; exact ⟨c', h1, h2.mono h⟩

theorem RR.mono (h : m.le m') {a : Option Nat} {x : Option Nat} (e : RR m a x) : RR m' a x := by
  cases a with
  | none => exact e
  | some l => obtain ⟨lc, h1, h2⟩ := e; exact ⟨lc, h _ _ h1, h2⟩

theorem FrN.mono (h : m.le m') {a : AFr} {f : Frame} (e : FrN m a f) : FrN m' a f :=
  ⟨e.fn, e.tmps.mono h, e.todo.mono h, e.defers.mono h, e.mode.mono h, e.kind, e.rnd.mono h⟩

theorem FrL.mono {z : Lone} (h : m.le m') {a : AFr} {f : Frame} (e : FrL z m a f) : FrL z m' a f := by
  refine ⟨?_, e.mode, e.fn, e.kind, e.rnd.mono h⟩
  rcases e.todo with ⟨o, h1, h2, h3, h4⟩ | ⟨v, x, h1, h2, h3⟩
  · exact .inl ⟨o, h1, h2, h3, h4.mono h⟩
  · exact .inr ⟨v, x, h1, VR.mono h _ _ h2, h3⟩

theorem FrR.mono (h : m.le m') {a : AFr} {f : Frame} (e : FrR Z m a f) : FrR Z m' a f := by
  rcases e with e | ⟨z, hz, e⟩
  · exact .inl (e.mono h)
  · exact .inr ⟨z, hz, e.mono h⟩

theorem FrRs.mono (h : m.le m') : ∀ {a : List AFr} {f : List Frame}, FrRs Z m a f → FrRs Z m' a f
  | [], _, e => e
  | _ :: _, _, ⟨y, ys, h1, h2, h3⟩ => ⟨y, ys, h1, h2.mono h, FrRs.mono h h3⟩

theorem aexitTo_ok (id : Nat) : ∀ (a : List AItem) (i : List Item), IRs m a i →
    (∀ a', aexitTo id a = some a' → ∃ i', exitTo id i = some i' ∧ IRs m a' i') ∧ (aexitTo id a = none → exitTo id i = none)
  | [], i, h => by
    simp only [IRs] at h
    subst h
    exact ⟨fun a' e => by simp [aexitTo] at e, fun _ => rfl⟩
  | x :: a, i, ⟨y, ys, h1, h2, h3⟩ => by
    subst h1
    have ih := aexitTo_ok id a ys h3
    cases x <;> simp only [IR] at h2
    case inBlock id' =>
      subst h2
      simp only [aexitTo, exitTo]
      cases hb : Nat.beq id' id with
      | true =>
        have : id' = id := Nat.eq_of_beq_eq_true hb
        subst this
        exact ⟨fun a' e => by simp only [Option.some.injEq] at e; subst e; exact ⟨ys, by simp, h3⟩, fun e => by simp at e⟩
      | false =>
        have hne : ¬ id' = id := fun e => by subst e; simp at hb
        have hb' : (id' == id) = false := by simpa using hne
        simp only [hb', Bool.false_eq_true, if_false]
        exact ih
    case ops all rest =>
      obtain ⟨arr, is, rfl, _, _⟩ := h2
      exact ih
    case inRF l =>
      obtain ⟨lc, _, rfl⟩ := h2
      exact ih
    case endRF l =>
      obtain ⟨lc, _, rfl⟩ := h2
      exact ih
    all_goals
      subst h2
      exact ih

theorem agotoIn_ok (l : Nat) : ∀ (a : List AItem) (i : List Item), IRs m a i →
    (∀ a', agotoIn l a = some a' → ∃ i', gotoIn l i = some i' ∧ IRs m a' i') ∧ (agotoIn l a = none → gotoIn l i = none)
  | [], i, h => by
    simp only [IRs] at h
    subst h
    exact ⟨fun a' e => by simp [agotoIn] at e, fun _ => rfl⟩
  | x :: a, i, ⟨y, ys, h1, h2, h3⟩ => by
    subst h1
    have ih := agotoIn_ok l a ys h3
    cases x <;> simp only [IR] at h2
    case inScope body =>
      subst h2
      simp only [agotoIn, gotoIn]
      cases hb : findLabel body l with
      | some rest =>
        refine ⟨fun a' e => ?_, fun e => by simp at e⟩
        simp only [Option.some.injEq] at e
        subst e
        exact ⟨_, rfl, _, _, rfl, rfl, _, _, rfl, rfl, h3⟩
      | none => exact ih
    case ops all rest =>
      obtain ⟨arr, is, rfl, _, _⟩ := h2
      exact ih
    case inRF l =>
      obtain ⟨lc, _, rfl⟩ := h2
      exact ih
    case endRF l =>
      obtain ⟨lc, _, rfl⟩ := h2
      exact ih
    all_goals
      subst h2
      exact ih

/-- An operation has ended with a value. -/
theorem fin_ok {a a' : AFr} {f : Frame} {v : AV} {x : Value} (h : FrR Z m a f) (e : a.fin v = some a') (hv : VR m v x) : FrR Z m a' (f.finish x) := by
  rcases h with h | ⟨z, hz, h⟩
  · left
    obtain ⟨fn, tmps, todo, defers, mode, kind, rnd⟩ := h
    unfold AFr.fin at e
    split at e
    · next all o rest k ht =>
      rw [ht] at todo
      obtain ⟨y, ys, h1, ⟨arr, is, rfl, h2, h3⟩, h4⟩ := todo
      cases is with
      | nil => simp at h3
      | cons i is =>
        simp only [List.map_cons, List.cons.injEq] at h3
        obtain ⟨h3, h3'⟩ := h3
        have hIR : IRs m (.ops all rest :: k) (.inRegion arr is :: ys) := ⟨_, _, rfl, ⟨arr, is, rfl, h2, h3'⟩, h4⟩
        split at e
        · next d hd =>
          split at e
          · next hlt =>
            cases e
            have hlt' : d < a.sz := by
              have : d + 1 ≤ a.sz := by simpa [Nat.blt, Nat.ble_eq] using hlt
              exact this
            have hf : f.finish x = { f with tmps := f.tmps.setIfInBounds d x, todo := .inRegion arr is :: ys } := by
              simp [Frame.finish, h1, h3, hd]
            rw [hf]
            exact ⟨fn, tmps.set hlt' hv, hIR, defers, mode, kind, rnd⟩
          · cases e
        · next hd =>
          cases e
          have hf : f.finish x = { f with todo := .inRegion arr is :: ys } := by simp [Frame.finish, h1, h3, hd]
          rw [hf]
          exact ⟨fn, tmps, hIR, defers, mode, kind, rnd⟩
    · next l k ht =>
      cases e
      rw [ht] at todo
      obtain ⟨y, ys, h1, ⟨lc, h2, rfl⟩, h4⟩ := todo
      have hf : f.finish x = { f with todo := .endRangeFunc lc.blk :: ys } := by simp [Frame.finish, h1]
      rw [hf]
      exact ⟨fn, tmps, ⟨_, _, rfl, ⟨lc, h2, rfl⟩, h4⟩, defers, mode, kind, rnd⟩
    · next k ht =>
      cases e
      rw [ht] at todo
      obtain ⟨y, ys, h1, h2, h4⟩ := todo
      simp only [IR] at h2
      subst h2
      have hf : f.finish x = { f with todo := ys } := by simp [Frame.finish, h1]
      rw [hf]
      exact ⟨fn, tmps, h4, defers, mode, kind, rnd⟩
    · next ht =>
      rw [ht] at todo
      obtain ⟨y, ys, h1, h2, h4⟩ := todo
      exact h2.elim
    · cases e
  · right
    refine ⟨z, hz, ?_⟩
    rcases h.todo with ⟨o, h1, h2, h3, h4⟩ | ⟨v', x', h1, h2, h3⟩
    · simp only [AFr.fin, h1, Option.some.injEq] at e
      subst e
      exact ⟨.inr ⟨v, x, rfl, hv, by rw [h3]⟩, h.mode, h.fn, h.kind, h.rnd⟩
    · simp [AFr.fin, h1] at e

end
end Go.Am
