/- The abstract machine, part 30: what a run of it says of a call. -/
import Derived.Test.YtkfoapjbfooneaaAm29
import Derived.RowKit3
namespace Go.Am
open Go.RowKit

section
variable {A : AP} {E : Eqs} {P : Program} {fuel n : Nat}

/-- From one state the machine comes to another one. -/
def Leads (P : Program) (S S' : ASt) : Prop :=
  ∀ (B0 : Prot) (w0 : World) (m : Env) (fr : Frame) (cs base : List Frame) (w : World), SR B0 w0 none m S fr cs w →
    ∃ m' fr' cs' w', Steps P (lone fr (cs ++ base) w) (lone fr' (cs' ++ base) w') ∧ m.le m' ∧ SR B0 w0 none m' S' fr' cs' w'

theorem Leads.refl (S : ASt) : Leads P S S := fun _ _ m fr cs _ w h => ⟨m, fr, cs, w, .refl _ _, m.le_refl, h⟩

theorem Leads.trans {S S' S'' : ASt} (h : Leads P S S') (h' : Leads P S' S'') : Leads P S S'' := by
  intro B0 w0 m fr cs base w hS
  obtain ⟨m1, fr1, cs1, w1, s1, s2, s3⟩ := h B0 w0 m fr cs base w hS
  obtain ⟨m2, fr2, cs2, w2, u1, u2, u3⟩ := h' B0 w0 m1 fr1 cs1 base w1 s3
  exact ⟨m2, fr2, cs2, w2, s1.trans u1, Env.le_trans s2 u2, u3⟩

theorem Leads.steps (hA : A.Ok P) (hE : E.Ok P) (hP : P.follows .mixedOrders = true) : ∀ (k : Nat) {S S' : ASt}, asteps A E (drawer A E fuel n) k S = some S' → Leads P S S'
  | 0, S, S', e => by cases e; exact .refl _
  | k + 1, S, S', e => by
    simp only [asteps] at e
    split at e
    case h_2 => cases e
    next S1 h1 =>
    rw [ASt.force_eq] at e
    refine Leads.trans ?_ (Leads.steps hA hE hP k e)
    intro B0 w0 m fr cs base w hS
    exact astep_ok (base := base) hA hE (drawer_ok hA hE hP fuel n) hS h1

/-- Of the heap something is forgotten. -/
def Heap.Less (H' H : Heap) : Prop := H'.next = H.next ∧ (∀ x b, H'.blks.get x = some b → H.blks.get x = some b) ∧ ∀ x L, H.fams.get x = some L → (∃ y t n c, H'.blks.get y = some (.cells t x n c)) → H'.fams.get x = some L

theorem HR.less {B0 : Prot} {w0 w : World} {m : Env} {H H' : Heap} (h : HR B0 w0 m H w) (hl : H'.Less H) : HR B0 w0 m H' w := by
  obtain ⟨h1, h2, h3⟩ := hl
  refine ⟨h.below, fun a l e => by rw [h1]; exact h.fresh a l e, h.inb, fun a b e => h.blk a b (h2 a b e), fun a a' b b' l l' e1 e2 e3 e4 e5 => h.sep a a' b b' l l' (h2 _ _ e1) (h2 _ _ e2) e3 e4 e5, ?_,
    fun a b l e1 e2 => h.live a b l (h2 _ _ e1) e2, fun a e => by rw [h1]; exact h.idsb a e⟩
  intro a t f n c e
  obtain ⟨k1, L, k2, k3⟩ := h.fam a t f n c (h2 _ _ e)
  exact ⟨by rw [h1]; exact k1, L, h3 f L k2 ⟨a, t, n, c, e⟩, k3⟩

theorem Leads.less {fr : AFr} {cs : List AFr} {H H' : Heap} (hl : H'.Less H) : Leads P { fr, cs, H } { fr, cs, H := H' } :=
  fun _ _ m f c _ w h => ⟨m, f, c, w, .refl _ _, m.le_refl, h.fr, h.cs, h.H.less hl⟩

/-- A frame has come to its end. -/
theorem afinal_ok (hA : A.Ok P) {B0 : Prot} {w0 : World} {m : Env} {S : ASt} {fr : Frame} {cs : List Frame} {w : World} (h : SR B0 w0 none m S fr cs w) (hk : S.fr.kind = .normal) {v : AV} {H : Heap} (e : afinal A S = some (v, H)) :
    cs = [] ∧ ∃ x, fr.leaving P w (.returned x) ∧ VR m v x ∧ HR B0 w0 m H w := by
  unfold afinal at e
  split at e
  case h_2 => cases e
  next hm hd hc =>
  split at e
  case h_2 => cases e
  next fn hfn =>
  split at e
  case h_2 => cases e
  next vs hvs =>
  cases e
  have hN : FrN m S.fr fr := h.fr.out (by rw [hm]; simp)
  have h1 := h.cs
  rw [hc] at h1
  have h2 := hN.mode
  rw [hm] at h2
  have h3 := hN.defers
  rw [hd] at h3
  have h4 := hA.funcs _ _ hfn
  rw [← hN.fn] at h4
  obtain ⟨x, x1, x2⟩ := results_ok hA h.H hN.tmps hvs
  exact ⟨h1, x, ⟨h2, h3, by rw [hN.kind, hk], fn, h4, x1⟩, x2, h.H⟩

theorem Keep.grown {w w' : World} (h : Keep { blk := fun k => k < w.heap.size, ids := fun _ => False } w w') : Grown w w' :=
  ⟨Below.frame ⟨h.os, h.tape, h.output, h.size, h.block⟩ _, h.froz, h.size⟩

def emptyHeap : Heap := { blks := .nil, next := 0, fams := .nil }

/-- All that is there is kept. -/
def Kept (w w' : World) : Prop := Keep { blk := fun k => k < w.heap.size, ids := fun _ => False } w w'

/-- A call of a function without arguments. -/
theorem calls_keep (hA : A.Ok P) {f : FuncId} {fr : AFr} (he : AFr.enter A f [] .normal = some fr) {S' : ASt} (hL : Leads P { fr, cs := [], H := emptyHeap } S') (hk : S'.fr.fn = f) (hn : S'.fr.kind = .normal)
    {b : Bool} {H : Heap} (hf : afinal A S' = some (.bool b, H)) (w : World) : Calls P f #[] w fun e w' => e = .returned (.bool b) ∧ Kept w w' := by
  intro cs
  have h0 : HR { blk := fun k => k < w.heap.size, ids := fun _ => False } w (fun _ => none) emptyHeap w :=
    ⟨.refl fun _ h => h, fun _ _ e => (by cases e), fun _ _ e => (by cases e), fun _ _ e => (by simp [emptyHeap, T.get_nil] at e), fun _ _ _ _ _ _ e => (by simp [emptyHeap, T.get_nil] at e),
      fun _ _ _ _ _ e => (by simp [emptyHeap, T.get_nil] at e), fun _ _ _ e => (by simp [emptyHeap, T.get_nil] at e), fun _ e => e.elim⟩
  have hS : SR _ w none (fun _ => none) { fr, cs := [], H := emptyHeap } (Frame.enter P f #[] .normal) [] w := ⟨.inl (enter_ok hA he (by simp [VRs])), rfl, h0⟩
  obtain ⟨m', fr', cs', w', s1, _, s3⟩ := hL _ w _ _ [] cs w hS
  obtain ⟨rfl, x, x1, x2, x3⟩ := afinal_ok hA s3 hn hf
  simp only [VR] at x2
  subst x2
  refine ⟨_, w', fr', ⟨rfl, x3.below⟩, s1, ?_, x1⟩
  have hN := s3.fr.own (a := S'.fr) (by
    unfold AFr.lone
    rcases s3.fr with h | ⟨z, hz, _⟩
    · have := h.todo
      split
      · next hto => rw [hto] at this; obtain ⟨_, _, _, h2, _⟩ := this; exact h2.elim
      · next hto => rw [hto] at this; obtain ⟨_, _, _, h2, _⟩ := this; exact h2.elim
      · rfl
    · cases hz)
  rw [hN.fn, hk]

theorem calls_of (hA : A.Ok P) {f : FuncId} {fr : AFr} (he : AFr.enter A f [] .normal = some fr) {S' : ASt} (hL : Leads P { fr, cs := [], H := emptyHeap } S') (hk : S'.fr.fn = f) (hn : S'.fr.kind = .normal)
    {b : Bool} {H : Heap} (hf : afinal A S' = some (.bool b, H)) (w : World) : Calls P f #[] w fun e w' => e = .returned (.bool b) ∧ Grown w w' :=
  (calls_keep hA he hL hk hn hf w).mono fun _ _ h => ⟨h.1, h.2.grown⟩

end
end Go.Am
