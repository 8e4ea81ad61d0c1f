/- The abstract machine, part 34: what a quick operation does is what steps do. -/
import Derived.Test.YtkfoapjbfooneaaAm33
namespace Go.Am
open Go.RowKit

/-- From one state the machine comes to another one, whatever lies below. -/
def Lz (P : Program) (S S' : ASt) : Prop :=
  ∀ (B0 : Prot) (w0 : World) (Z : Option Lone) (m : Env) (fr : Frame) (cs base : List Frame) (w : World), SR B0 w0 Z m S fr cs w → Goal B0 w0 Z P base m S' fr cs w

section
variable {A : AP} {E : Eqs} {P : Program}

theorem Lz.refl (S : ASt) : Lz P S S := fun _ _ _ m fr cs _ w h => ⟨m, fr, cs, w, .refl _ _, m.le_refl, h⟩

theorem Lz.trans {S S' S'' : ASt} (h : Lz P S S') (h' : Lz P S' S'') : Lz P S S'' := by
  intro B0 w0 Z m fr cs base w hS
  obtain ⟨m1, fr1, cs1, w1, s1, s2, s3⟩ := h B0 w0 Z m fr cs base w hS
  obtain ⟨m2, fr2, cs2, w2, u1, u2, u3⟩ := h' B0 w0 Z m1 fr1 cs1 base w1 s3
  exact ⟨m2, fr2, cs2, w2, s1.trans u1, Env.le_trans s2 u2, u3⟩

theorem Lz.step (hA : A.Ok P) (hE : E.Ok P) {D : Drawer} (hD : DSound P D) {S S' : ASt} (e : astep A E D S = some S') : Lz P S S' :=
  fun _ _ _ _ _ _ base _ hS => astep_ok (base := base) hA hE hD hS e

/-- What lies below may be anything. -/
theorem Lz.lift {fr fr' : AFr} {H H' : Heap} (h : Lz P ⟨fr, [], H⟩ ⟨fr', [], H'⟩) (cs : List AFr) : Lz P ⟨fr, cs, H⟩ ⟨fr', cs, H'⟩ := by
  intro B0 w0 Z m f fs base w hS
  obtain ⟨m', f', fs', w', s1, s2, s3⟩ := h B0 w0 Z m f [] (fs ++ base) w ⟨hS.fr, rfl, hS.H⟩
  have hnil : fs' = [] := s3.cs
  subst hnil
  exact ⟨m', f', fs, w', s1, s2, s3.fr, hS.cs.mono s2, s3.H⟩

/-- What draws nothing. -/
def noD : Drawer := fun _ _ _ => none

theorem noD_ok : DSound P noD := fun _ _ _ _ _ _ _ _ _ _ _ _ _ e => by cases e

/-- A frame that is about to return a value. -/
structure RetV (A : AP) (fr : AFr) (H : Heap) (v : AV) : Prop where
  mode : fr.mode = .returning
  defers : fr.defers = []
  kind : fr.kind = .normal
  res : ∃ fn vs, A.funcs.get fr.fn = some fn ∧ aresults A H fr.tmps fn.results.toList = some vs ∧ v = aone vs

/-- A frame runs, and comes back with a value. -/
def Back (P : Program) (fr : AFr) (H : Heap) (v : AV) (H' : Heap) : Prop :=
  ∀ c cs c', AFr.fin c v = some c' → Lz P ⟨fr, c :: cs, H⟩ ⟨c', cs, H'⟩

theorem RetV.back (hA : A.Ok P) (hE : E.Ok P) {fr fr' : AFr} {H H' : Heap} {v : AV} (h : RetV A fr' H' v) (hl : Lz P ⟨fr, [], H⟩ ⟨fr', [], H'⟩) : Back P fr H v H' := by
  intro c cs c' hc
  refine (hl.lift (c :: cs)).trans (Lz.step hA hE noD_ok ?_)
  obtain ⟨h1, h2, h3, fn, vs, h4, h5, rfl⟩ := h
  simp only [astep, h1, aunwind, h2, h4, h5, adoReturn, h3, hc]

/-- What runs functions and rounds is right. -/
structure BOk (A : AP) (P : Program) (B : KB) : Prop where
  fn : ∀ (f : FuncId) (args : List AV) (H : Heap) (k : AV → Heap → KR) (r : AV × Heap), (B.fn f).run args H k = some r →
    ∃ v H' fr, k v H' = some r ∧ AFr.enter A f args .normal = some fr ∧ Back P fr H v H'
  rd : ∀ (f : FuncId) (sz : Nat) (asg body : Code) (l : Nat) (t : T AV) (H : Heap) (k : AV → Heap → KR) (r : AV × Heap), (B.rd f sz asg body).run l t H k = some r →
    ∃ v H', k v H' = some r ∧ Back P { fn := f, sz, tmps := t, todo := [.code asg, .beginRound, .code body], defers := [], mode := .run, kind := .normal, rnd := some l } H v H'
  dr : DSound P B.dr

/-- What an operation does. -/
inductive Does (A : AP) (E : Eqs) (P : Program) (H : Heap) (t : T AV) (o : Oper) (v : AV) (H' : Heap) : Prop where
  | val (h : aop A E H (evT t) o = some (.val v H'))
  | skip (h : aop A E H (evT t) o = some (.skip H')) (hv : v = .tup [])
  | enter (f : FuncId) (args : List AV) (fr : AFr) (h : aop A E H (evT t) o = some (.enter f args)) (he : AFr.enter A f args .normal = some fr) (hb : Back P fr H v H')
  | round (l : Nat) (fn : FuncId) (sz : Nat) (tmps : T AV) (asg body : Code) (h : aop A E H (evT t) o = some (.round l fn sz tmps asg body))
      (hb : Back P { fn, sz, tmps, todo := [.code asg, .beginRound, .code body], defers := [], mode := .run, kind := .normal, rnd := some l } H v H')

theorem Does.lz (hA : A.Ok P) (hE : E.Ok P) {D : Drawer} (hD : DSound P D) {fr fr' : AFr} {cs : List AFr} {H H' : Heap} {o : Oper} {v : AV} (h : Does A E P H fr.tmps o v H')
    (hst : ∀ out, aop A E H (evT fr.tmps) o = some out → astep A E D ⟨fr, cs, H⟩ = aout A ⟨fr, cs, H⟩ out) (hf : fr.fin v = some fr') : Lz P ⟨fr, cs, H⟩ ⟨fr', cs, H'⟩ := by
  cases h with
  | val h =>
    refine Lz.step hA hE hD ?_
    rw [hst _ h]
    simp only [aout, hf]
  | skip h hv =>
    subst hv
    refine Lz.step hA hE hD ?_
    rw [hst _ h]
    simp only [aout, hf]
  | enter f args fr1 h he hb =>
    refine (Lz.step hA hE hD ?_).trans (hb fr cs fr' hf)
    rw [hst _ h]
    simp only [aout, he]
  | round l fn sz tmps asg body h hb =>
    refine (Lz.step hA hE hD ?_).trans (hb fr cs fr' hf)
    rw [hst _ h]
    simp only [aout]

theorem BOk.enter {B : KB} (hB : BOk A P B) {f : FuncId} {args : List AV} {H : Heap} {t : T AV} {o : Oper} {k : AV → Heap → KR} {r : AV × Heap}
    (ho : aop A E H (evT t) o = some (.enter f args)) (h : (B.fn f).go args H k = some r) : ∃ v H', k v H' = some r ∧ Does A E P H t o v H' := by
  obtain ⟨v, H', fr, h1, h2, h3⟩ := hB.fn f args H k r h
  exact ⟨v, H', h1, .enter f args fr ho h2 h3⟩

theorem BOk.round {B : KB} (hB : BOk A P B) {l : Nat} {fn : FuncId} {sz : Nat} {tmps : T AV} {asg body : Code} {H : Heap} {t : T AV} {o : Oper} {k : AV → Heap → KR} {r : AV × Heap}
    (ho : aop A E H (evT t) o = some (.round l fn sz tmps asg body)) (h : (B.rd fn sz asg body).go l tmps H k = some r) : ∃ v H', k v H' = some r ∧ Does A E P H t o v H' := by
  obtain ⟨v, H', h1, h2⟩ := hB.rd fn sz asg body l tmps H k r h
  exact ⟨v, H', h1, .round l fn sz tmps asg body ho h2⟩

theorem kres1_ok {B : KB} (hA : A.Ok P) (hE : E.Ok P) (hB : BOk A P B) {H : Heap} {t : T AV} {o : Oper} {out : Option AOut} {k : AV → Heap → KR} {r : AV × Heap}
    (ho : aop A E H (evT t) o = out) (h : kres1 B H out k = some r) : ∃ v H', k v H' = some r ∧ Does A E P H t o v H' := by
  unfold kres1 at h
  split at h
  · simp only [fAV_eq, fHeap_eq] at h
    exact ⟨_, _, h, .val ho⟩
  · simp only [fHeap_eq] at h
    exact ⟨_, _, h, .skip ho rfl⟩
  · exact hB.enter ho h
  · exact hB.round ho h
  · cases h

theorem kgen_ok {B : KB} (hA : A.Ok P) (hE : E.Ok P) (hB : BOk A P B) {H : Heap} {t : T AV} {o : Oper} {k : AV → Heap → KR} {r : AV × Heap}
    (h : (kgen A E B o).run t H k = some r) : ∃ v H', k v H' = some r ∧ Does A E P H t o v H' := by
  simp only [kgen] at h
  split at h
  · next e =>
    simp only [fAV_eq, fHeap_eq] at h
    exact ⟨_, _, h, .val e⟩
  · next e =>
    simp only [fHeap_eq] at h
    exact ⟨_, _, h, .skip e rfl⟩
  · next e => exact hB.enter e h
  · next e => exact hB.round e h
  · cases h

theorem kval_ok {B : KB} (hA : A.Ok P) (hE : E.Ok P) (hB : BOk A P B) {H : Heap} {t : T AV} {o : Oper} {k : AV → Heap → KR} {r : AV × Heap}
    (h : (kval A E B o).run t H k = some r) : ∃ v H', k v H' = some r ∧ Does A E P H t o v H' := by
  unfold kval at h
  split at h
  · next hk =>
    have hq : quietOp o.op = true := by
      unfold kin at hk
      split at hk
      · next e => exact e
      · split at hk <;> cases hk
    obtain ⟨v, H1, h1, h2⟩ := kq_ok h
    have := quiet_heap hq h1
    subst this
    exact ⟨v, H1, h2, .val h1⟩
  · simp only [knew_eq] at h
    obtain ⟨⟨v, b⟩, h1, h2⟩ := Option.bind_eq_some_iff.1 h
    obtain ⟨H', h3, h4⟩ := klay_ok h1 h2
    exact ⟨v, H', h4, .val h3⟩
  · split at h
    · next ty a x ho =>
      split at h
      case h_2 => exact kgen_ok hA hE hB h
      next ti hti =>
      split at h
      case h_2 => exact kgen_ok hA hE hB h
      next hsz =>
      simp only [kev_eq] at h
      obtain ⟨p, hp, h⟩ := Option.bind_eq_some_iff.1 h
      obtain ⟨u, hu, h⟩ := Option.bind_eq_some_iff.1 h
      cases p with
      | ptr b off =>
        simp only [] at h
        split at h
        case h_2 => cases h
        next hone =>
        obtain ⟨H', h1, h2⟩ := kputc_ok h
        refine ⟨_, H', h2, .skip ?_ rfl⟩
        have hcells : u.cells = [u] := by cases u <;> first | rfl | cases hone
        have hs : H.store A ty b off u = some H' := by
          simp only [Heap.store, hti, hcells, List.length_singleton, hsz, beq_self_eq_true, Heap.puts, hone, h1]
        simp only [aop, ho, hp, hu, hs]
      | _ => cases h
    · next c ho =>
      split at h
      · next f hc =>
        split at h
        case h_2 => exact kgen_ok hA hE hB h
        next fn hfn =>
        split at h
        case h_2 => exact kgen_ok hA hE hB h
        next cd hcd =>
        simp only [kevs_eq] at h
        obtain ⟨vs, hvs, h⟩ := Option.bind_eq_some_iff.1 h
        refine hB.enter ?_ h
        simp only [aop, ho, acall, hvs, hc, evT, acallFn, List.nil_append, List.append_nil, acallFunc, hfn, hcd]
      · next f hc hne =>
        simp only [kevs_eq, kev_eq] at h
        obtain ⟨vs, hvs, h⟩ := Option.bind_eq_some_iff.1 h
        obtain ⟨u, hu, h⟩ := Option.bind_eq_some_iff.1 h
        split at h
        · refine kres1_ok hA hE hB ?_ h
          simp only [aop, ho, acall, hvs, hne, hu]
        · refine kres1_ok hA hE hB ?_ h
          simp only [aop, ho, acall, hvs, hne, hu]
        · cases h
      · next b hb =>
        simp only [kevs_eq] at h
        obtain ⟨vs, hvs, h⟩ := Option.bind_eq_some_iff.1 h
        refine kres1_ok hA hE hB ?_ h
        simp only [aop, ho, acall, hvs, hb]
      · exact kgen_ok hA hE hB h
    · next ty x i v ho =>
      simp only [kev_eq] at h
      obtain ⟨x', hx, h⟩ := Option.bind_eq_some_iff.1 h
      obtain ⟨i', hi, h⟩ := Option.bind_eq_some_iff.1 h
      obtain ⟨v', hv, h⟩ := Option.bind_eq_some_iff.1 h
      split at h
      case h_2 => cases h
      next H' hH =>
      rw [fHeap_eq] at h
      exact ⟨_, H', h, .skip (by simp only [aop, ho, hx, hi, hv, hH]) rfl⟩
    · exact kgen_ok hA hE hB h

end
end Go.Am
