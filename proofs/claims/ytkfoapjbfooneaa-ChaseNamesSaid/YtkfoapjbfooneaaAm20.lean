/- The abstract machine, part 20: the machine's steps, as they are wanted. -/
import Derived.Test.YtkfoapjbfooneaaAm19
namespace Go.Am
open Go.RowKit

section
variable {P : Program} {fr : Frame} {cs : List Frame} {w : World}

theorem stepG_run (h : fr.mode = .run) : stepG P true { frame := fr, callers := cs, status := .running, dying := none } w = stepG.exec P true true fr cs none w := by
  obtain ⟨fn, tmps, todo, defers, mode, kind, roundOf⟩ := fr
  simp only at h
  subst h
  simp [stepG]

theorem stepG_out (h : fr.mode ≠ .run) : stepG P true { frame := fr, callers := cs, status := .running, dying := none } w = unwind P true fr cs none w := by
  obtain ⟨fn, tmps, todo, defers, mode, kind, roundOf⟩ := fr
  simp only at h
  cases mode with
  | run => exact absurd rfl h
  | returning => simp [stepG]
  | panicking c => simp [stepG]

/-- A step that turns the list of what is to be done. -/
theorem step_todo {k : List Item} (hm : fr.mode = .run) (h : stepG.exec P true true fr cs none w = .go { frame := { fr with todo := k }, callers := cs, status := .running, dying := none } w) :
    step P (lone fr cs w) = .next (lone { fr with todo := k } cs w) :=
  step_lone_go (by rw [stepG_run hm, h]; rfl)

/-- How a frame leaves its code. -/
theorem exec_leave_none (hr : fr.roundOf = none) (hm : fr.mode = .run) {k : List Item} (ht : fr.todo = [] ∨ fr.todo = .code .ret :: k) :
    step P (lone fr cs w) = .next (lone { fr with mode := .returning } cs w) := by
  refine step_lone_go ?_
  rw [stepG_run hm]
  rcases ht with ht | ht <;> simp [stepG.exec, ht, hr]

variable {s : Sem Next}

theorem apply_value {v : Value} {w' : World} (hr : s.run P w = .ok (.value v) w') :
    (stepG.apply P true fr cs none s w).bare = .go { frame := fr.finish v, callers := cs, status := .running, dying := none } w' := by
  simp [stepG.apply, hr]

theorem apply_skip {w' : World} (hr : s.run P w = .ok .skip w') :
    (stepG.apply P true fr cs none s w).bare = .go { frame := fr.finish undef, callers := cs, status := .running, dying := none } w' := by
  simp [stepG.apply, hr]

theorem apply_enter {f : FuncId} {xs : Array Value} {w' : World} (hn : ∀ d r sv k, fr.todo ≠ .call d true r sv :: k) (hr : s.run P w = .ok (.enter f xs) w') :
    (stepG.apply P true fr cs none s w).bare = .go { frame := Frame.enter P f xs .normal, callers := fr :: cs, status := .running, dying := none } w' := by
  have hk : (match fr.todo with | .call _ true _ _ :: _ => CallKind.wrapped | _ => CallKind.normal) = .normal := by
    split
    · next h => exact absurd h (hn _ _ _ _)
    · rfl
  simp only [stepG.apply, Sem.runT_eq, hr, if_true, GStep.bare_after, hk]
  rfl

theorem apply_round {l : Nat} {f : FuncId} {arr : Array Value} {asg body : Code} {w' : World} (hr : s.run P w = .ok (.round l f arr asg body) w') :
    (stepG.apply P true fr cs none s w).bare = .go { frame := Frame.round l f arr asg body .normal, callers := fr :: cs, status := .running, dying := none } w' := by
  simp [stepG.apply, hr]

theorem apply_defer {d : Deferred} {w' : World} (hr : s.run P w = .ok (.defer d) w') :
    (stepG.apply P true fr cs none s w).bare = .go { frame := ({ fr with defers := d :: fr.defers } : Frame).finish undef, callers := cs, status := .running, dying := none } w' := by
  simp [stepG.apply, hr]

theorem apply_recover (h0 : fr.roundOf = none) {w' : World} (hr : s.run P w = .ok .recover w') :
    (stepG.apply P true fr cs none s w).bare = match tryRecover fr cs with
      | some (v, cs') => .go { frame := fr.finish v, callers := cs', status := .running, dying := none } w'
      | none => .go { frame := fr.finish .nilIface, callers := cs, status := .running, dying := none } w' := by
  simp only [stepG.apply, Sem.runT_eq, hr, if_true, GStep.bare_after, h0]
  cases tryRecover fr cs with
  | none => rfl
  | some x => rfl

theorem apply_panic {v : Value} {w' : World} (hr : s.run P w = .halt (.panic v) w') :
    (stepG.apply P true fr cs none s w).bare = .go { frame := fr.raise [{ v, recovered := false }], callers := cs, status := .running, dying := none } w' := by
  simp [stepG.apply, hr]

theorem exec_op {ops : Array Oper} {i : Nat} {is : List Nat} {k : List Item} {o : Oper} (ht : fr.todo = .inRegion ops (i :: is) :: k) (ho : ops[i]? = some o)
    (hw : Region.wanted o (yielded ops fr.tmps) = true) (hd : fr.roundOf = none ∨ ∀ c, o.op ≠ .defer c) :
    stepG.exec P true true fr cs none w = stepG.apply P true fr cs none (execOp fr.eval o) w := by
  have hop : fr.oper? = some o := by simp [Frame.oper?, ht, ho]
  simp only [stepG.exec, ht, ho, Option.map_some, Option.getD_some, hw, if_true, stepG.oper, hop]
  rcases hd with hd | hd
  · rw [hd]
  · split
    · next l c h1 h2 => exact absurd h2 (hd c)
    · rfl

theorem exec_unwanted {ops : Array Oper} {i : Nat} {is : List Nat} {k : List Item} {o : Oper} (ht : fr.todo = .inRegion ops (i :: is) :: k) (ho : ops[i]? = some o)
    (hw : Region.wanted o (yielded ops fr.tmps) = false) :
    stepG.exec P true true fr cs none w = .go { frame := fr.finish undef, callers := cs, status := .running, dying := none } w := by
  simp [stepG.exec, ht, ho, hw]

end

section
variable {m : Env} {w : World} {A : AP} {P : Program} {E : Eqs} {B0 : Prot} {w0 : World} {H : Heap}

theorem enter_ok (hA : A.Ok P) {f : FuncId} {args : List AV} {kind : CallKind} {a : AFr} (h : AFr.enter A f args kind = some a) {xs : Array Value} (hx : VRs m args xs.toList) :
    FrN m a (Frame.enter P f xs kind) := by
  unfold AFr.enter at h
  split at h
  case h_2 => cases h
  next fn hfn =>
  split at h
  case h_2 => cases h
  next c hc =>
  cases h
  have hF := hA.funcs f fn hfn
  have hl : xs.size = args.length := by simpa using hx.length
  refine ⟨rfl, ⟨?_, fun i v hi => ?_⟩, ⟨_, _, rfl, by simp [IR, hF, hc], rfl⟩, rfl, rfl, rfl, rfl⟩
  · simp [Frame.enter, hF, hl]
  · rw [T.get_ofList] at hi
    split at hi
    · next hlt =>
      rw [Nat.sub_zero] at hi
      obtain ⟨x, x1, x2⟩ := hx.get hi
      refine ⟨x, ?_, x2⟩
      have hlt' : i < xs.size := by omega
      simp only [Frame.enter]
      rw [Array.getElem?_append_left hlt']
      simpa using x1
    · simp [T.get_nil] at hi

theorem ev_ok {a : AFr} {f : Frame} (ht : TR m a.sz a.tmps f.tmps) (x : Operand) (v : AV) (h : a.ev x = some v) : VR m v (f.eval x) := by
  cases x with
  | tmp t =>
    obtain ⟨y, y1, y2⟩ := ht.2 t v h
    simp only [Frame.eval, Array.getD_eq_getD_getElem?, y1, Option.getD_some]
    exact y2
  | const c => exact ofValue_ok h
  | global g => cases h
  | func g =>
    simp only [AFr.ev, Option.some.injEq] at h
    subst h
    simp only [VR, Frame.eval]
    exact ⟨_, _, rfl, by simp only [VRs], by simp only [VRs]⟩

theorem aguard_ok {all : List Oper} {ops : Array Oper} (hall : ops.toList = all) {sz : Nat} {t : T AV} {arr : Array Value} (ht : TR m sz t arr) {o : Oper} {b : Bool} (h : aguard all t o.guard = some b) :
    Region.wanted o (yielded ops arr) = b := by
  unfold Region.wanted
  unfold aguard at h
  split at h
  · next hg => cases h; simp [hg]
  · next j want hg =>
    simp only [hg]
    subst hall
    split at h
    · next p hp =>
      have hp' : ops[j]? = some p := by simpa using hp
      split at h
      · next d hd =>
        split at h
        · next b' hb =>
          cases h
          obtain ⟨y, y1, y2⟩ := ht.2 d _ hb
          simp only [VR] at y2
          subst y2
          simp [yielded, hp', hd, y1]
        · next v hv hb =>
          cases h
          obtain ⟨y, y1, y2⟩ := ht.2 d _ hb
          have : yielded ops arr j = none := by
            simp only [yielded, hp', Option.bind_some, hd, y1]
            cases v <;> simp only [VR] at y2 <;> first
              | exact absurd hb (hv _)
              | (subst y2; rfl)
              | (obtain ⟨l, _, rfl⟩ := y2; rfl)
              | (obtain ⟨l, rfl⟩ := y2; rfl)
              | (obtain ⟨l, p, c, _, rfl, _⟩ := y2; rfl)
              | (obtain ⟨x, y, rfl, _⟩ := y2; rfl)
              | (obtain ⟨x, rfl, _⟩ := y2; rfl)
              | (exact absurd rfl (hv _))
          simp [this]
        · cases h
      · next hd =>
        cases h
        simp [yielded, hp', hd]
    · next hp =>
      cases h
      have hp' : ops[j]? = none := by simpa using hp
      simp [yielded, hp']

theorem acallFn_ok (hA : A.Ok P) {f : Fn} {cap args : List AV} {out : AOut} (e : acallFn A H f cap args = some out) {xc xa : Array Value} (h2 : VRs m cap xc.toList) (hall : VRs m args xa.toList) :
    OutR B0 w0 m H w out ((invoke (.fn f xc) xa).run P w) := by
  unfold acallFn at e
  split at e
  · next g =>
    simp only [invoke]
    refine acallFunc_ok hA e ?_
    simp only [Array.toList_append]
    exact hall.append h2
  · next name =>
    split at e
    case h_2 => cases e
    next t v rest =>
    split at e
    case h_2 => cases e
    next g u hm =>
    simp only [VRs, VR] at hall
    obtain ⟨y0, ys, hy, ⟨x, rfl, hx2⟩, hrest⟩ := hall
    obtain ⟨y, y1, _, y3⟩ := amethod_ok (w := w) hA hm hx2 (P.types.size + 99)
    have hex : (xa.extract 1 xa.size).toList = ys := by
      rw [Array.toList_extract, List.extract_eq_take_drop, hy]
      have hsz : xa.size = ys.length + 1 := by
        rw [← Array.length_toList, hy]
        rfl
      rw [hsz]
      simp
    have h0 : xa[0]? = some (.iface t x) := by
      rw [← Array.getElem?_toList, hy]
      rfl
    have hcall := acallFunc_ok (B0 := B0) (w0 := w0) (H := H) (w := w) hA e (xs := #[y] ++ xa.extract 1 xa.size)
      (by rw [Array.toList_append, hex]; simp only [List.cons_append, List.nil_append, VRs]; exact ⟨y, _, rfl, y3, hrest⟩)
    simp only [invoke, h0, callMethod, Sem.run_bind, run_program, Result.andThen_ok]
    rw [show P.types.size + Made.depth = P.types.size + 99 + 1 from rfl, y1]
    exact hcall
  · cases e

theorem aresults_ok (hA : A.Ok P) (h : HR B0 w0 m H w) {sz : Nat} {t : T AV} {arr : Array Value} (ht : TR m sz t arr) : ∀ (rs : List ResultVar) (vs : List AV), aresults A H t rs = some vs →
    ∃ xs : List Value, (∀ f : ResultVar → Sem Value, (∀ t, f (.tmp t) = pure (arr.getD t undef)) → (∀ a t, f (.cell a t) = (do loadVar t (← asAddr (arr.getD a undef)))) → (rs.mapM f).run P w = .ok xs w) ∧ VRs m vs xs
  | [], vs, e => by
    simp only [aresults, Option.some.injEq] at e
    subst e
    exact ⟨[], fun f _ _ => by simp, by simp only [VRs]⟩
  | r :: rs, vs, e => by
    simp only [aresults] at e
    split at e
    case h_2 => cases e
    next v hv =>
    split at e
    case h_2 => cases e
    next vs' hvs =>
    cases e
    obtain ⟨xs, x1, x2⟩ := aresults_ok hA h ht rs vs' hvs
    cases r with
    | tmp x =>
      obtain ⟨y, y1, y2⟩ := ht.2 x v hv
      refine ⟨y :: xs, fun f h1 h2 => ?_, by simp only [VRs]; exact ⟨_, _, rfl, y2, x2⟩⟩
      have hg : arr.getD x undef = y := by simp [Array.getD_eq_getD_getElem?, y1]
      simp only [List.mapM_cons, Sem.run_bind, h1, hg, Sem.run_pure, Result.andThen_ok, x1 f h1 h2]
    | cell a ty =>
      simp only [aresult] at hv
      split at hv
      case h_2 => cases hv
      next b o hb =>
      obtain ⟨y, y1, y2⟩ := ht.2 a _ hb
      simp only [VR] at y2
      obtain ⟨l, hl, rfl⟩ := y2
      obtain ⟨z, z1, z2⟩ := h.load hA hv hl
      refine ⟨z :: xs, fun f h1 h2 => ?_, by simp only [VRs]; exact ⟨_, _, rfl, z2, x2⟩⟩
      have hg : arr.getD a undef = .pointer (some ⟨l.blk, o + l.sh, none⟩) := by simp [Array.getD_eq_getD_getElem?, y1]
      have has : asAddr (arr.getD a undef) = pure ⟨l.blk, o + l.sh, none⟩ := by rw [hg]; rfl
      simp only [List.mapM_cons, Sem.run_bind, h2, has, Sem.run_pure, Result.andThen_ok, z1, x1 f h1 h2]

theorem results_ok (hA : A.Ok P) (h : HR B0 w0 m H w) {sz : Nat} {t : T AV} {arr : Array Value} (ht : TR m sz t arr) {fn : Func} {vs : List AV} (e : aresults A H t fn.results.toList = some vs) :
    ∃ x, (results fn arr).run P w = .ok x w ∧ VR m (aone vs) x := by
  obtain ⟨xs, x1, x2⟩ := aresults_ok hA h ht _ _ e
  have hl := x2.length
  refine ⟨if h : xs.toArray.size = 1 then xs.toArray[0] else .tuple xs.toArray, ?_, ?_⟩
  · unfold results
    rw [Array.mapM_eq_mapM_toList]
    simp only [Sem.run_bind, Sem.run_map]
    rw [x1 _ (fun _ => rfl) (fun _ _ => rfl)]
    rfl
  · match vs, xs, x2, hl with
    | [], [], _, _ => simp [aone, VR, VRs]
    | [v], [x], x2, _ =>
      simp only [VRs] at x2
      obtain ⟨y, ys, e1, e2, e3⟩ := x2
      cases e1
      simpa [aone] using e2
    | v :: v' :: vs, x :: x' :: xs, x2, _ =>
      simp only [aone, List.size_toArray, List.length_cons]
      rw [dif_neg (by omega)]
      simp only [VR]
      exact ⟨_, rfl, x2⟩

end
end Go.Am
