/- The abstract machine, part 35: operations one after another; one of a region that draws its order. -/
import Derived.Test.YtkfoapjbfooneaaAm34
namespace Go.Am
open Go.RowKit

/-- A frame with other temporaries, and something else to do. -/
def AFr.at (fr : AFr) (t : T AV) (x : KX) (todo : List AItem) : AFr := { fr with tmps := t, defers := x.ds, rnd := x.rnd, todo, mode := .run }

/-- A jump goes through what is to do. -/
def Thru (j : Code) (pre : List AItem) : Prop :=
  match j with
  | .ret => True
  | .exit id => ∀ k, aexitTo id (pre ++ k) = aexitTo id k
  | _ => False

/-- What runs code is right. -/
def COk (P : Program) (f : FuncId) (sz : Nat) (items : List AItem) (K : KC) : Prop :=
  ∀ (t : T AV) (x : KX) (H : Heap) (kn : T AV → KX → Heap → KR) (ka : Code → T AV → KX → Heap → KR) (r : AV × Heap), K.run t x H kn ka = some r →
    (∃ t' x' H', kn t' x' H' = some r ∧ x'.rnd = x.rnd ∧ ∀ (fr : AFr) (cs : List AFr) (k : List AItem), fr.sz = sz → fr.fn = f → Lz P ⟨fr.at t x (items ++ k), cs, H⟩ ⟨fr.at t' x' k, cs, H'⟩) ∨
    (∃ j t' x' H' pre, ka j t' x' H' = some r ∧ x'.rnd = x.rnd ∧ Thru j pre ∧ ∀ (fr : AFr) (cs : List AFr) (k : List AItem), fr.sz = sz → fr.fn = f → Lz P ⟨fr.at t x (items ++ k), cs, H⟩ ⟨fr.at t' x' (.code j :: (pre ++ k)), cs, H'⟩)

section
variable {A : AP} {E : Eqs} {P : Program} {B : KB} {f : FuncId} {sz : Nat}

theorem kfin_ok {o : Oper} {t : T AV} {v : AV} {k : T AV → KR} {r : AV × Heap} (h : (kfin o sz).go t v k = some r) :
    ∃ t', k t' = some r ∧ dput sz t o.dst v = some t' := by
  unfold kfin KU.go at h
  unfold dput
  split at h
  · next hd => rw [hd]; exact ⟨t, h, rfl⟩
  · next d hd =>
    rw [hd]
    simp only []
    split at h
    · next hlt =>
      rw [kput_eq] at h
      rw [hlt]
      exact ⟨_, h, rfl⟩
    · cases h

theorem fin_ops {fr : AFr} {all os : List Oper} {o : Oper} {k : List AItem} {x : KX} {t t' : T AV} {v : AV} (hsz : fr.sz = sz) (hp : dput sz t o.dst v = some t') :
    (fr.at t x (.ops all (o :: os) :: k)).fin v = some (fr.at t' x (.ops all os :: k)) := by
  unfold dput at hp
  simp only [AFr.fin, AFr.at]
  split at hp
  · next d hd =>
    rw [hd]
    simp only [hsz]
    split at hp
    · next hlt => cases hp; rw [hlt]
    · cases hp
  · next hd => cases hp; rw [hd]

theorem kdo_ok (hA : A.Ok P) (hE : E.Ok P) (hB : BOk A P B) {all os : List Oper} {o : Oper} {K : KC} (hK : COk P f sz [.ops all os] K) {t : T AV} (hg : aguard all t o.guard = some true)
    {x : KX} {H : Heap} {kn : T AV → KX → Heap → KR} {ka : Code → T AV → KX → Heap → KR} {r : AV × Heap} (h : kdo (kval A E B o) (kfin o sz) K t x H kn ka = some r) :
    (∃ t' x' H', kn t' x' H' = some r ∧ x'.rnd = x.rnd ∧ ∀ (fr : AFr) (cs : List AFr) (k : List AItem), fr.sz = sz → fr.fn = f → Lz P ⟨fr.at t x (.ops all (o :: os) :: k), cs, H⟩ ⟨fr.at t' x' k, cs, H'⟩) ∨
    (∃ j t' x' H' pre, ka j t' x' H' = some r ∧ x'.rnd = x.rnd ∧ Thru j pre ∧ ∀ (fr : AFr) (cs : List AFr) (k : List AItem), fr.sz = sz → fr.fn = f → Lz P ⟨fr.at t x (.ops all (o :: os) :: k), cs, H⟩ ⟨fr.at t' x' (.code j :: (pre ++ k)), cs, H'⟩) := by
  obtain ⟨v, H1, h1, h2⟩ := kval_ok hA hE hB h
  obtain ⟨t1, h3, h4⟩ := kfin_ok h1
  have one : ∀ (fr : AFr) (cs : List AFr) (k : List AItem), fr.sz = sz → Lz P ⟨fr.at t x (.ops all (o :: os) :: k), cs, H⟩ ⟨fr.at t1 x (.ops all os :: k), cs, H1⟩ := by
    intro fr cs k hsz
    refine Does.lz (D := noD) hA hE noD_ok (fr := fr.at t x (.ops all (o :: os) :: k)) h2 ?_ (fin_ops hsz h4)
    intro out hout
    have hout' : aop A E H (evT t) o = some out := hout
    simp only [astep, AFr.at, arun1, hg, ev_eq, hout']
  rcases hK t1 x H1 kn ka r h3 with ⟨t', x', H', k1, k2, k3⟩ | ⟨j, t', x', H', pre, k1, k2, k3, k4⟩
  · exact .inl ⟨t', x', H', k1, k2, fun fr cs k hsz hf => (one fr cs k hsz).trans (k3 fr cs k hsz hf)⟩
  · exact .inr ⟨j, t', x', H', pre, k1, k2, k3, fun fr cs k hsz hf => (one fr cs k hsz).trans (k4 fr cs k hsz hf)⟩

theorem kskip_ok (hA : A.Ok P) (hE : E.Ok P) {all os : List Oper} {o : Oper} {K : KC} (hK : COk P f sz [.ops all os] K) {t : T AV} (hg : aguard all t o.guard = some false)
    {x : KX} {H : Heap} {kn : T AV → KX → Heap → KR} {ka : Code → T AV → KX → Heap → KR} {r : AV × Heap} (h : kskip o sz K t x H kn ka = some r) :
    (∃ t' x' H', kn t' x' H' = some r ∧ x'.rnd = x.rnd ∧ ∀ (fr : AFr) (cs : List AFr) (k : List AItem), fr.sz = sz → fr.fn = f → Lz P ⟨fr.at t x (.ops all (o :: os) :: k), cs, H⟩ ⟨fr.at t' x' k, cs, H'⟩) ∨
    (∃ j t' x' H' pre, ka j t' x' H' = some r ∧ x'.rnd = x.rnd ∧ Thru j pre ∧ ∀ (fr : AFr) (cs : List AFr) (k : List AItem), fr.sz = sz → fr.fn = f → Lz P ⟨fr.at t x (.ops all (o :: os) :: k), cs, H⟩ ⟨fr.at t' x' (.code j :: (pre ++ k)), cs, H'⟩) := by
  obtain ⟨t1, h3, h4⟩ := kfin_ok h
  have one : ∀ (fr : AFr) (cs : List AFr) (k : List AItem), fr.sz = sz → Lz P ⟨fr.at t x (.ops all (o :: os) :: k), cs, H⟩ ⟨fr.at t1 x (.ops all os :: k), cs, H⟩ := by
    intro fr cs k hsz
    refine Lz.step hA hE noD_ok ?_
    have := fin_ops (fr := fr) (all := all) (os := os) (k := k) (x := x) hsz h4
    simp only [AFr.at] at this
    simp only [astep, AFr.at, arun1, hg, this]
  rcases hK t1 x H kn ka r h3 with ⟨t', x', H', k1, k2, k3⟩ | ⟨j, t', x', H', pre, k1, k2, k3, k4⟩
  · exact .inl ⟨t', x', H', k1, k2, fun fr cs k hsz hf => (one fr cs k hsz).trans (k3 fr cs k hsz hf)⟩
  · exact .inr ⟨j, t', x', H', pre, k1, k2, k3, fun fr cs k hsz hf => (one fr cs k hsz).trans (k4 fr cs k hsz hf)⟩

theorem kops_ok (hA : A.Ok P) (hE : E.Ok P) (hB : BOk A P B) (all : List Oper) : ∀ (l : List Oper), COk P f sz [.ops all l] (kops A E B sz all l)
  | [] => fun t x H kn ka r h => .inl ⟨t, x, H, h, rfl, fun fr cs k _ _ => Lz.step hA hE noD_ok (by simp only [astep, AFr.at, arun1, List.cons_append, List.nil_append])⟩
  | o :: os => by
    intro t x H kn ka r h
    have ih := kops_ok hA hE hB all os
    unfold kops at h
    split at h
    · next hg => exact kdo_ok hA hE hB ih (by rw [hg]; rfl) h
    · next j want hg =>
      split at h
      · next p hp =>
        split at h
        · next d hd =>
          simp only [kat_eq] at h
          obtain ⟨b, hb, h⟩ := Option.bind_eq_some_iff.1 h
          split at h
          · next b =>
            split at h
            · next hbw => exact kdo_ok hA hE hB ih (by simp only [hg, aguard, hp, hd, hb, hbw]) h
            · next hbw => exact kskip_ok hA hE ih (by simp only [hg, aguard, hp, hd, hb, hbw]) h
          · next hn =>
            refine kskip_ok hA hE ih ?_ h
            simp only [hg, aguard, hp, hd, hb]
        · next hd => exact kskip_ok hA hE ih (by simp only [hg, aguard, hp, hd]) h
      · next hp => exact kskip_ok hA hE ih (by simp only [hg, aguard, hp]) h

/-- One operation alone. -/
theorem kone_ok (hA : A.Ok P) (hE : E.Ok P) (hB : BOk A P B) : ROk P (kone A E B) := by
  intro B0 w0 Z base S m fr cs w v H' hS h
  obtain ⟨afr, acs, H⟩ := S
  unfold kone at h
  split at h
  case h_2 => cases h
  next all o hcs htd =>
  simp only at hcs htd h
  subst hcs
  split at h
  case h_2 => cases h
  next hg =>
  obtain ⟨v', H1, h1, h2⟩ := kval_ok hA hE hB h
  cases h1
  have hm : afr.mode = .run := by
    rcases hS.fr with h1 | ⟨z, _, h1⟩
    · have := h1.todo
      simp only [htd] at this
      obtain ⟨_, _, _, h3, _⟩ := this
      exact h3.elim
    · exact h1.mode
  have hl : Lz P ⟨afr, [], H⟩ ⟨{ afr with todo := [.don v] }, [], H'⟩ := by
    refine Does.lz (D := noD) hA hE noD_ok h2 ?_ ?_
    · intro out hout
      simp only [astep, hm, arun1, htd, hg, ev_eq, hout]
    · simp only [AFr.fin, htd]
  obtain ⟨m', fr', cs', w', s1, s2, s3⟩ := hl B0 w0 (some Z) m fr cs base w hS
  have hnil : cs' = [] := s3.cs
  subst hnil
  rcases s3.fr with h1 | ⟨z, hz, h1⟩
  · have := h1.todo
    obtain ⟨_, _, _, h3, _⟩ := this
    exact h3.elim
  · cases hz
    rcases h1.todo with ⟨o', h3, _⟩ | ⟨u, x, h3, h4, h5⟩
    · cases h3
    · cases h3
      refine ⟨m', w', x, ?_, s2, h4, s3.H⟩
      rw [← h5]
      exact s1

end
end Go.Am
