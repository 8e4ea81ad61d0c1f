/- The abstract machine, part 38: functions that are run quickly are right, to any depth of calls. -/
import Derived.Test.YtkfoapjbfooneaaAm37
namespace Go.Am
open Go.RowKit

section
variable {A : AP} {E : Eqs} {P : Program} {B : KB}

theorem kres_ok {t : T AV} {H : Heap} : ∀ (l : List ResultVar) (k : List AV → KR) (r : AV × Heap), kres A t H l k = some r → ∃ vs, aresults A H t l = some vs ∧ k vs = some r
  | [], _, _, h => ⟨[], rfl, h⟩
  | x :: xs, k, r, h => by
    unfold kres at h
    split at h
    · next y =>
      rw [kat_eq] at h
      obtain ⟨v, hv, h⟩ := Option.bind_eq_some_iff.1 h
      obtain ⟨vs, h1, h2⟩ := kres_ok xs _ r h
      exact ⟨v :: vs, by simp only [aresults, aresult, hv, h1], h2⟩
    · next a ty =>
      split at h
      · next v hv =>
        obtain ⟨vs, h1, h2⟩ := kres_ok xs _ r h
        exact ⟨v :: vs, by simp only [aresults, hv, h1], h2⟩
      · cases h

theorem kunw_ok (hA : A.Ok P) (hE : E.Ok P) : ∀ (ds : List ADef) (H : Heap) (k : Heap → KR) (r : AV × Heap), kunw ds H k = some r →
    ∃ H', k H' = some r ∧ ∀ (fr : AFr) (cs : List AFr), fr.mode = .returning → Lz P ⟨{ fr with defers := ds }, cs, H⟩ ⟨{ fr with defers := [] }, cs, H'⟩
  | [], H, _, _, h => ⟨H, h, fun _ _ _ => Lz.refl _⟩
  | d :: ds, H, k, r, h => by
    unfold kunw at h
    split at h
    case h_2 => cases h
    next b =>
    rw [kblk_eq] at h
    obtain ⟨o, ho, h⟩ := Option.bind_eq_some_iff.1 h
    split at h
    case h_2 => cases h
    rw [kblkPut_eq] at h
    obtain ⟨H', h1, h2⟩ := kunw_ok hA hE ds _ k r h
    refine ⟨H', h1, fun fr cs hm => (Lz.step hA hE noD_ok ?_).trans (h2 fr cs hm)⟩
    simp only [astep, hm, aunwind, ho, List.nil_append]

theorem kback_ok (hA : A.Ok P) (hE : E.Ok P) {l : List ResultVar} {t : T AV} {x : KX} {H : Heap} {k : AV → Heap → KR} {r : AV × Heap} (h : kback A l t x H k = some r) :
    ∃ v H', k v H' = some r ∧ ∀ (fr : AFr) (fn : Func), fr.mode = .returning → fr.kind = .normal → fr.defers = x.ds → fr.tmps = t → A.funcs.get fr.fn = some fn → fn.results.toList = l →
      ∃ fr', RetV A fr' H' v ∧ fr'.fn = fr.fn ∧ Lz P ⟨fr, [], H⟩ ⟨fr', [], H'⟩ := by
  obtain ⟨ds, rnd⟩ := x
  simp only [kback] at h
  obtain ⟨H', h1, h2⟩ := kunw_ok hA hE ds H _ r h
  obtain ⟨vs, h3, h4⟩ := kres_ok l _ r h1
  refine ⟨aone vs, H', h4, fun fr fn e1 e2 e3 e4 e5 e6 => ⟨{ fr with defers := [] }, ⟨e1, rfl, e2, fn, vs, e5, ?_, rfl⟩, rfl, ?_⟩⟩
  · rw [e6]
    show aresults A H' fr.tmps l = some vs
    rw [e4]
    exact h3
  · have := h2 fr [] e1
    obtain ⟨f1, f2, f3, f4, f5, f6, f7, f8⟩ := fr
    simp only at e3
    subst e3
    exact this

/-- What a function comes to. -/
def FRes (A : AP) (P : Program) (f : FuncId) (args : List AV) (H : Heap) (k : AV → Heap → KR) (r : AV × Heap) : Prop :=
  ∃ v H' fr fr', k v H' = some r ∧ AFr.enter A f args .normal = some fr ∧ RetV A fr' H' v ∧ fr'.fn = f ∧ Lz P ⟨fr, [], H⟩ ⟨fr', [], H'⟩

theorem kfast_ok (hA : A.Ok P) (hE : E.Ok P) (hP : P.follows .mixedOrders = true) (hB : BOk A P B) {f : FuncId} {fn : Func} {c : Code} (hf : A.funcs.get f = some fn) (hc : fn.body = some c)
    {args : List AV} {H : Heap} {k : AV → Heap → KR} {r : AV × Heap} (h : (kfast A E B f fn c).run args H k = some r) : FRes A P f args H k r := by
  simp only [kfast] at h
  split at h
  case h_2 => cases h
  next hle =>
  have hle' : args.length ≤ fn.ntmps := Nat.le_of_ble_eq_true hle
  rw [kfill_eq] at h
  have hent : AFr.enter A f args .normal = some { fn := f, sz := fn.ntmps, tmps := T.ofList args 0 .nil, todo := [.code c], defers := [], mode := .run, kind := .normal, rnd := none } := by
    simp only [AFr.enter, hf, hc]
    rw [show args.length + (fn.ntmps - args.length) = fn.ntmps from by omega]
  rcases kcode_ok (f := f) (sz := fn.ntmps) hA hE hP hB c _ _ _ _ _ r h with ⟨t1, x1, H1, k1, k2, k3⟩ | ⟨j, t1, x1, H1, pre, k1, k2, k3, k4⟩
  · obtain ⟨v, H', h1, h2⟩ := kback_ok (P := P) hA hE k1
    have l0 := k3 { fn := f, sz := fn.ntmps, tmps := T.ofList args 0 .nil, todo := [.code c], defers := [], mode := .run, kind := .normal, rnd := none } [] [] rfl rfl
    obtain ⟨fr', u1, u2, u3⟩ := h2 { fn := f, sz := fn.ntmps, tmps := t1, todo := [], defers := x1.ds, mode := .returning, kind := .normal, rnd := x1.rnd } fn rfl rfl rfl rfl hf rfl
    refine ⟨v, H', _, fr', h1, hent, u1, u2, (l0.trans (Lz.step hA hE noD_ok ?_)).trans u3⟩
    simp only at k2
    simp only [astep, AFr.at, arun1, aleave, k2]
  · unfold kbackJ at k1
    split at k1
    case h_2 => cases k1
    obtain ⟨v, H', h1, h2⟩ := kback_ok (P := P) hA hE k1
    have l0 := k4 { fn := f, sz := fn.ntmps, tmps := T.ofList args 0 .nil, todo := [.code c], defers := [], mode := .run, kind := .normal, rnd := none } [] [] rfl rfl
    obtain ⟨fr', u1, u2, u3⟩ := h2 { fn := f, sz := fn.ntmps, tmps := t1, todo := .code .ret :: (pre ++ []), defers := x1.ds, mode := .returning, kind := .normal, rnd := x1.rnd } fn rfl rfl rfl rfl hf rfl
    refine ⟨v, H', _, fr', h1, hent, u1, u2, (l0.trans (Lz.step hA hE noD_ok ?_)).trans u3⟩
    simp only at k2
    simp only [astep, AFr.at, arun1, acode, aleave, k2]

theorem kleave_ok (hA : A.Ok P) (hE : E.Ok P) {l : Nat} {jump : Option Code} {H : Heap} {k : AV → Heap → KR} {r : AV × Heap} (h : kleave l jump H k = some r) :
    ∃ v H', k v H' = some r ∧ ∀ (fr c c' : AFr) (cs : List AFr), fr.rnd = some l → fr.kind = .normal → c.fin v = some c' → aleave ⟨fr, c :: cs, H⟩ jump = some ⟨c', cs, H'⟩ := by
  unfold kleave at h
  rw [kblk_eq] at h
  obtain ⟨b, hb, h⟩ := Option.bind_eq_some_iff.1 h
  split at h
  case h_2 => cases h
  cases jump with
  | none =>
    simp only [kblkPut_eq] at h
    refine ⟨_, _, h, fun fr c c' cs e1 e2 e3 => ?_⟩
    simp only [aleave, e1, hb, adoReturn, e2, Option.isNone, e3, if_true]
  | some j =>
    simp only [kblkPut_eq] at h
    refine ⟨_, _, h, fun fr c c' cs e1 e2 e3 => ?_⟩
    simp only [aleave, e1, hb, adoReturn, e2, Option.isNone, e3]
    rfl

theorem kround_ok (hA : A.Ok P) (hE : E.Ok P) (hP : P.follows .mixedOrders = true) (hB : BOk A P B) {f : FuncId} {sz : Nat} {asg body : Code} {l : Nat} {t : T AV} {H : Heap} {k : AV → Heap → KR} {r : AV × Heap}
    (h : (kround A E B f sz asg body).run l t H k = some r) :
    ∃ v H', k v H' = some r ∧ Back P { fn := f, sz, tmps := t, todo := [.code asg, .beginRound, .code body], defers := [], mode := .run, kind := .normal, rnd := some l } H v H' := by
  simp only [kround] at h
  rcases kcode_ok (f := f) (sz := sz) hA hE hP hB asg _ _ _ _ _ r h with ⟨t1, x1, H1, k1, k2, k3⟩ | ⟨j, t1, x1, H1, pre, k1, k2, k3, k4⟩
  case inr => cases k1
  have g0 : ∀ (cs : List AFr), Lz P ⟨{ fn := f, sz, tmps := t, todo := [.code asg, .beginRound, .code body], defers := [], mode := .run, kind := .normal, rnd := some l }, cs, H⟩
      ⟨({ fn := f, sz, tmps := t, todo := [], defers := [], mode := .run, kind := .normal, rnd := some l } : AFr).at t1 x1 [.beginRound, .code body], cs, H1⟩ :=
    fun cs => k3 { fn := f, sz, tmps := t, todo := [], defers := [], mode := .run, kind := .normal, rnd := some l } cs [.beginRound, .code body] rfl rfl
  simp only at k2
  unfold kbegin at k1
  rw [kblk_eq] at k1
  obtain ⟨b, hb, k1⟩ := Option.bind_eq_some_iff.1 k1
  split at k1
  case h_2 => cases k1
  next st pend fn0 s0 tmps0 ps0 asg0 body0 d =>
  split at k1
  case h_2 => cases k1
  rw [kblkPut_eq] at k1
  have g1 : ∀ (cs : List AFr), Lz P ⟨({ fn := f, sz, tmps := t, todo := [], defers := [], mode := .run, kind := .normal, rnd := some l } : AFr).at t1 x1 [.beginRound, .code body], cs, H1⟩
      ⟨({ fn := f, sz, tmps := t, todo := [], defers := [], mode := .run, kind := .normal, rnd := some l } : AFr).at t1 x1 [.code body], cs, { H1 with blks := H1.blks.set l (.loop .busy pend fn0 s0 tmps0 ps0 asg0 body0 d) }⟩ := by
    intro cs
    refine Lz.step hA hE noD_ok ?_
    simp only [astep, AFr.at, arun1, k2, hb]
  rcases kcode_ok (f := f) (sz := sz) hA hE hP hB body _ _ _ _ _ r k1 with ⟨t2, x2, H2, u1, u2, u3⟩ | ⟨j, t2, x2, H2, pre, u1, u2, u3, u4⟩
  · obtain ⟨v, H', h1, h2⟩ := kleave_ok hA hE u1
    refine ⟨v, H', h1, fun c cs c' hc => (((g0 _).trans (g1 _)).trans (u3 { fn := f, sz, tmps := t, todo := [], defers := [], mode := .run, kind := .normal, rnd := some l } (c :: cs) [] rfl rfl)).trans (Lz.step hA hE noD_ok ?_)⟩
    have := h2 (({ fn := f, sz, tmps := t, todo := [], defers := [], mode := .run, kind := .normal, rnd := some l } : AFr).at t2 x2 []) c c' cs (u2.trans k2) rfl hc
    exact this
  · obtain ⟨v, H', h1, h2⟩ := kleave_ok hA hE u1
    refine ⟨v, H', h1, fun c cs c' hc => (((g0 _).trans (g1 _)).trans (u4 { fn := f, sz, tmps := t, todo := [], defers := [], mode := .run, kind := .normal, rnd := some l } (c :: cs) [] rfl rfl)).trans (Lz.step hA hE noD_ok ?_)⟩
    have h3 := h2 (({ fn := f, sz, tmps := t, todo := [], defers := [], mode := .run, kind := .normal, rnd := some l } : AFr).at t2 x2 (.code j :: (pre ++ []))) c c' cs (u2.trans k2) rfl hc
    cases j <;> first
      | exact h3
      | (next id =>
          have hx : aexitTo id (pre ++ []) = none := u3 []
          simp only [astep, AFr.at, arun1, acode, hx]
          exact h3)
      | exact u3.elim

end
end Go.Am
