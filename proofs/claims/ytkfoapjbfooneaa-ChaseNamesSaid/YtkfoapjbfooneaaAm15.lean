/- The abstract machine, part 15: one operation. -/
import Derived.Test.YtkfoapjbfooneaaAm14
namespace Go.Am
open Go.RowKit

inductive AOut where
  | val (v : AV) (H : Heap)
  | skip (H : Heap)
  | enter (f : FuncId) (args : List AV)
  | round (l : Nat) (fn : FuncId) (sz : Nat) (tmps : T AV) (assign body : Code)
  | defer (d : ADef)
  | recover
  | panic (v : AV)

def OutR (B0 : Prot) (w0 : World) (m : Env) (H : Heap) (w : World) : AOut → Result Next → Prop
  | .val v H', r => ∃ x m' w', r = .ok (.value x) w' ∧ m.le m' ∧ VR m' v x ∧ HR B0 w0 m' H' w'
  | .skip H', r => ∃ m' w', r = .ok .skip w' ∧ m.le m' ∧ HR B0 w0 m' H' w'
  | .enter f args, r => ∃ xs, r = .ok (.enter f xs) w ∧ VRs m args xs.toList
  | .round l fn sz tmps asg body, r => ∃ lc arr, m l = some lc ∧ r = .ok (.round lc.blk fn arr asg body) w ∧ TR m sz tmps arr
  | .defer d, r => ∃ x, r = .ok (.defer x) w ∧ DR m d x
  | .recover, r => r = .ok .recover w
  | .panic v, r => ∃ x, r = .halt (.panic x) w ∧ VR m v x

def afollow (A : AP) : List FieldStep → TypeId → AV → Option (TypeId × AV)
  | [], t, v => some (t, v)
  | s :: rest, _, v => match s.deref, A.under s.struct, v with
    | false, some (.struct fields), .agg cs => match fields.toList[s.index]? with
      | some f => match apart A f.type cs f.offset with
        | some u => afollow A rest f.type u
        | none => none
      | none => none
    | _, _, _ => none

def isPtrB : TypeDesc → Bool
  | .pointer _ => true
  | _ => false

/-- The function of a method of a value's own type, and its receiver. -/
def amethod (A : AP) (t : TypeId) (v : AV) (name : String) : Option (FuncId × AV) :=
  match A.info t with
  | some ti => match ti.methods.toList.find? (·.name == name) with
    | some mt => match afollow A mt.path.toList t v with
      | some (xt, u) => match mt.func, A.under xt with
        | some (f, ptr), some d => match ptr == isPtrB d with
          | true => some (f, u)
          | false => none
        | _, _ => none
      | none => none
    | none => none
  | none => none

def acallFunc (A : AP) (f : FuncId) (args : List AV) : Option AOut :=
  match A.funcs.get f with
  | some fn => match fn.body with
    | some _ => some (.enter f args)
    | none => none
  | none => none

def asets : List Tmp → List AV → Nat → T AV → Option (T AV)
  | [], [], _, t => some t
  | p :: ps, v :: vs, sz, t => match Nat.blt p sz with
    | true => asets ps vs sz (t.set p v)
    | false => none
  | _, _, _, _ => none

def acallFn (A : AP) (H : Heap) (f : Fn) (cap args : List AV) : Option AOut :=
  match f with
  | .func f => acallFunc A f (args ++ cap)
  | .method name => match args with
    | .ifc t v :: rest => match amethod A t v name with
      | some (f, u) => acallFunc A f (u :: rest)
      | none => none
    | _ => none
  | _ => none

def ayield (H : Heap) (l : Nat) (args : List AV) : Option AOut :=
  match H.blks.get l with
  | some (.loop _ _ fn sz tmps ps asg body _) => match asets ps.toList args sz tmps with
    | some tmps' => some (.round l fn sz tmps' asg body)
    | none => none
  | _ => none

def abuiltin (A : AP) (H : Heap) (b : Builtin) (ts : Array TypeId) (args : List AV) : Option AOut :=
  match b, ts.toList, args with
  | .append, [t, tx], [s, x] => match H.append A t tx s x with
    | some (v, H') => some (.val v H')
    | none => none
  | .len, [t], [x] => match alen A H t x with
    | some v => some (.val v H)
    | none => none
  | .copy, [t, _], [d, s] => match acopy A H t d s with
    | some (v, H') => some (.val v H')
    | none => none
  | .clear, [t], [x] => match aclear A H t x with
    | some (v, H') => some (.val v H')
    | none => none
  | .min, _, x :: xs => match aminmax false x xs with
    | some v => some (.val v H)
    | none => none
  | .max, _, x :: xs => match aminmax true x xs with
    | some v => some (.val v H)
    | none => none
  | .recover, _, _ => some .recover
  | .panic, _, x :: _ => match x with
    | .ifc _ _ => some (.panic x)
    | _ => none
  | _, _, _ => none

def aargs (ρ : Operand → Option AV) : List Operand → Option (List AV)
  | [] => some []
  | x :: xs => match ρ x with
    | some v => match aargs ρ xs with
      | some vs => some (v :: vs)
      | none => none
    | none => none

def aparts (ρ : Operand → Option AV) : List (Nat × Operand) → Option (List (Nat × AV))
  | [] => some []
  | x :: xs => match ρ x.2 with
    | some v => match aparts ρ xs with
      | some vs => some ((x.1, v) :: vs)
      | none => none
    | none => none

def acall (A : AP) (H : Heap) (ρ : Operand → Option AV) (c : Call) : Option AOut :=
  match aargs ρ c.args.toList with
  | none => none
  | some args => match c.callee with
    | .builtin b => abuiltin A H b c.argTypes args
    | .invoke recv name => match ρ recv with
      | some (.ifc t v) => match amethod A t v name with
        | some (f, u) => acallFunc A f (u :: args)
        | none => none
      | _ => none
    | .value f => match ρ f with
      | some (.fn fn first cap) => acallFn A H fn cap (first ++ args)
      | some (.yld l) => ayield H l args
      | _ => none

/-- An optional operand. -/
def aopt (ρ : Operand → Option AV) : Option Operand → Option (Option AV)
  | none => some none
  | some x => match ρ x with
    | some v => some (some v)
    | none => none

section
variable {m : Env} {w : World} {A : AP} {P : Program} {E : Eqs} {B0 : Prot} {w0 : World} {H : Heap}

theorem asets_ok : ∀ (ps : List Tmp) (vs : List AV) (sz : Nat) (t t' : T AV) (xs : List Value) (arr : Array Value), asets ps vs sz t = some t' → VRs m vs xs → TR m sz t arr →
    ps.length = xs.length ∧ TR m sz t' ((ps.zip xs).foldl (fun tmps (t, a) => tmps.setIfInBounds t a) arr)
  | [], [], sz, t, t', xs, arr, h, hv, ht => by
    simp only [asets, Option.some.injEq] at h
    simp only [VRs] at hv
    subst h hv
    exact ⟨rfl, ht⟩
  | p :: ps, v :: vs, sz, t, t', xs, arr, h, hv, ht => by
    simp only [asets] at h
    split at h
    · next hlt =>
      simp only [VRs] at hv
      obtain ⟨x, xs', rfl, h1, h2⟩ := hv
      have hp : p < sz := by
        have : p + 1 ≤ sz := by simpa [Nat.blt, Nat.ble_eq] using hlt
        exact this
      have ih := asets_ok ps vs sz _ t' xs' _ h h2 (ht.set hp h1)
      exact ⟨by simp [ih.1], by simpa using ih.2⟩
    · cases h
  | [], _ :: _, _, _, _, _, _, h, _, _ => by simp [asets] at h
  | _ :: _, [], _, _, _, _, _, h, _, _ => by simp [asets] at h

theorem afollow_ok (hA : A.Ok P) : ∀ (path : List FieldStep) (t xt : TypeId) (v u : AV) (x : Value), afollow A path t v = some (xt, u) → VR m v x →
    ∃ y, (follow path t (.val x)).run P w = .ok (xt, .val y) w ∧ (followBlind path t (some x)).run P w = .ok (.ok (xt, some y)) w ∧ VR m u y
  | [], t, xt, v, u, x, h, hv => by
    simp only [afollow, Option.some.injEq, Prod.mk.injEq] at h
    obtain ⟨rfl, rfl⟩ := h
    exact ⟨x, rfl, rfl, hv⟩
  | s :: rest, t, xt, v, u, x, h, hv => by
    simp only [afollow] at h
    split at h
    · next fields cs hd hu =>
      split at h
      · next f hf =>
        split at h
        · next z hz =>
          simp only [VR] at hv
          obtain ⟨xs, rfl, hv⟩ := hv
          obtain ⟨r, r1, r2⟩ := apart_ok (w := w) hA hz hv
          obtain ⟨y, y1, y2, y3⟩ := afollow_ok hA rest f.type xt z u r h r2
          have hf' : fields[s.index]? = some f := by simpa using hf
          refine ⟨y, ?_, ?_, y3⟩
          · simp [follow, run_underlying (hA.under_ok hu), hf', hd, r1, y1]
          · simp [followBlind, run_underlying (hA.under_ok hu), hf', hd, r1, y2]
        · cases h
      · cases h
    · cases h

theorem amethod_ok (hA : A.Ok P) {t : TypeId} {v u : AV} {name : String} {f : FuncId} (h : amethod A t v name = some (f, u)) {x : Value} (hx : VR m v x) (fuel : Nat) :
    ∃ y, (method (fuel + 1) t x name).run P w = .ok (f, y) w ∧ (nilAhead (fuel + 1) t x name).run P w = .ok (some false) w ∧ VR m u y := by
  unfold amethod at h
  split at h
  case h_2 => cases h
  next ti hti =>
  split at h
  case h_2 => cases h
  next mt hmt =>
  split at h
  case h_2 => cases h
  next xt u' hfol =>
  split at h
  case h_2 => cases h
  next g ptr d hfn hd =>
  split at h
  case h_2 => cases h
  next hp =>
  cases h
  have hp := eq_of_beq hp
  obtain ⟨y, y1, y2, y3⟩ := afollow_ok (w := w) hA _ _ _ _ _ x hfol hx
  have hfind : ti.methods.find? (·.name == name) = some mt := by
    rw [← Array.find?_toList]
    exact hmt
  refine ⟨y, ?_, ?_, y3⟩
  · simp only [method, Sem.run_bind, run_typeInfo' (hA.info _ _ hti), Result.andThen_ok, hfind, y1, hfn]
    subst hp
    cases d <;> simp [receiverAt, run_underlying (hA.under_ok hd), isPtrB, Place.get]
  · simp only [nilAhead, Sem.run_bind, run_typeInfo' (hA.info _ _ hti), Result.andThen_ok, hfind, y2, hfn]
    subst hp
    cases d <;> simp [run_underlying (hA.under_ok hd), isPtrB]

theorem acallFunc_ok (hA : A.Ok P) {f : FuncId} {args : List AV} {out : AOut} (h : acallFunc A f args = some out) {xs : Array Value} (hx : VRs m args xs.toList) :
    OutR B0 w0 m H w out ((callFunc f xs).run P w) := by
  unfold acallFunc at h
  split at h
  case h_2 => cases h
  next fn hfn =>
  split at h
  case h_2 => cases h
  next c hc =>
  cases h
  refine ⟨xs, ?_, hx⟩
  have hn : ¬ fn.name = "runtime.NumGoroutine" := by simpa using hA.names f fn hfn
  simp [callFunc, hA.funcs f fn hfn, hn, hc]

theorem aargs_ok {ρ : Operand → Option AV} {ρ' : Operand → Value} (hρ : ∀ x v, ρ x = some v → VR m v (ρ' x)) : ∀ (l : List Operand) (vs : List AV), aargs ρ l = some vs → VRs m vs (l.map ρ')
  | [], vs, h => by simp only [aargs, Option.some.injEq] at h; subst h; simp only [List.map_nil, VRs]
  | x :: xs, vs, h => by
    simp only [aargs] at h
    split at h
    · next v hv =>
      split at h
      · next vs' hvs =>
        cases h
        simp only [List.map_cons, VRs]
        exact ⟨_, _, rfl, hρ x v hv, aargs_ok hρ xs vs' hvs⟩
      · cases h
    · cases h

theorem aparts_ok {ρ : Operand → Option AV} {ρ' : Operand → Value} (hρ : ∀ x v, ρ x = some v → VR m v (ρ' x)) : ∀ (l : List (Nat × Operand)) (vs : List (Nat × AV)), aparts ρ l = some vs →
    PR m vs (l.map fun (i, x) => (i, ρ' x))
  | [], vs, h => by simp only [aparts, Option.some.injEq] at h; subst h; simp only [List.map_nil, PR]
  | x :: xs, vs, h => by
    simp only [aparts] at h
    split at h
    · next v hv =>
      split at h
      · next vs' hvs =>
        cases h
        simp only [List.map_cons, PR]
        exact ⟨_, _, rfl, rfl, hρ x.2 v hv, aparts_ok hρ xs vs' hvs⟩
      · cases h
    · cases h

theorem aopt_ok {ρ : Operand → Option AV} {ρ' : Operand → Value} (hρ : ∀ x v, ρ x = some v → VR m v (ρ' x)) {x : Option Operand} {v : Option AV} (h : aopt ρ x = some v) : OVR m v (x.map ρ') := by
  unfold aopt at h
  split at h
  · cases h; rfl
  · next x =>
    split at h
    · next u hu => cases h; exact ⟨_, rfl, hρ _ _ hu⟩
    · cases h

theorem abuiltin_ok (hA : A.Ok P) (h : HR B0 w0 m H w) {b : Builtin} {ts : Array TypeId} {ty : TypeId} {args : List AV} {out : AOut} (e : abuiltin A H b ts args = some out) {xs : Array Value} (hx : VRs m args xs.toList)
    (cs : Array Bool) : OutR B0 w0 m H w out ((builtin b ts ty cs xs).run P w) := by
  have two : ∀ a b, VRs m [a, b] xs.toList → ∃ x y, xs = #[x, y] ∧ VR m a x ∧ VR m b y := by
    intro a b hv
    simp only [VRs] at hv
    obtain ⟨x, l, e1, h1, y, l2, e2, h2, e3⟩ := hv
    subst e3
    subst e2
    exact ⟨x, y, by apply Array.ext'; simpa using e1, h1, h2⟩
  have one : ∀ a, VRs m [a] xs.toList → ∃ x, xs = #[x] ∧ VR m a x := by
    intro a hv
    simp only [VRs] at hv
    obtain ⟨x, l, e1, h1, e3⟩ := hv
    subst e3
    exact ⟨x, by apply Array.ext'; simpa using e1, h1⟩
  unfold abuiltin at e
  split at e
  · next t tx s x ht =>
    split at e
    · next v H' ha =>
      cases e
      obtain ⟨sv, xv, rfl, h1, h2⟩ := two _ _ hx
      have hts : ts = #[t, tx] := by apply Array.ext'; simpa using ht
      subst hts
      obtain ⟨rv, m', w', r1, r2, r3, r4⟩ := h.append (ty := ty) hA ha h1 h2
      exact ⟨rv, m', w', by simp [builtin, r1], r2, r3, r4⟩
    · cases e
  · next t x ht =>
    split at e
    · next v ha =>
      cases e
      obtain ⟨xv, rfl, h1⟩ := one _ hx
      have hts : ts = #[t] := by apply Array.ext'; simpa using ht
      subst hts
      obtain ⟨rv, r1, r2⟩ := alen_ok (ty := ty) hA h ha h1
      exact ⟨rv, m, w, by simp [builtin, r1], m.le_refl, r2, h⟩
    · cases e
  · next t tx s x ht =>
    split at e
    · next v H' ha =>
      cases e
      obtain ⟨sv, xv, rfl, h1, h2⟩ := two _ _ hx
      have hts : ts = #[t, tx] := by apply Array.ext'; simpa using ht
      subst hts
      obtain ⟨rv, w', r1, r2, r3⟩ := acopy_ok (ty := ty) (ts := tx) hA h ha h1 h2
      exact ⟨rv, m, w', by simp [builtin, r1], m.le_refl, r2, r3⟩
    · cases e
  · next t x ht =>
    split at e
    · next v H' ha =>
      cases e
      obtain ⟨xv, rfl, h1⟩ := one _ hx
      have hts : ts = #[t] := by apply Array.ext'; simpa using ht
      subst hts
      obtain ⟨rv, w', r1, r2, r3⟩ := aclear_ok (ty := ty) hA h ha h1
      exact ⟨rv, m, w', by simp [builtin, r1], m.le_refl, r2, r3⟩
    · cases e
  · next x l =>
    split at e
    · next v ha =>
      cases e
      simp only [VRs] at hx
      obtain ⟨y, ys, hy, h1, h2⟩ := hx
      obtain ⟨rv, r1, r2⟩ := aminmax_ok (w := w) (P := P) l x v ys y ha h1 h2
      refine ⟨rv, m, w, ?_, m.le_refl, r2, h⟩
      simp only [builtin, Builtin.min_, hy, Sem.run_bind]
      rw [r1]
      rfl
    · cases e
  · next x l =>
    split at e
    · next v ha =>
      cases e
      simp only [VRs] at hx
      obtain ⟨y, ys, hy, h1, h2⟩ := hx
      obtain ⟨rv, r1, r2⟩ := aminmax_ok (w := w) (P := P) l x v ys y ha h1 h2
      refine ⟨rv, m, w, ?_, m.le_refl, r2, h⟩
      simp only [builtin, Builtin.max_, hy, Sem.run_bind]
      rw [r1]
      rfl
    · cases e
  · cases e
    rfl
  · next x l =>
    split at e
    · next t u =>
      cases e
      simp only [VRs] at hx
      obtain ⟨y, ys, hy, h1, h2⟩ := hx
      have h1' := h1
      simp only [VR] at h1
      obtain ⟨z, rfl, hz⟩ := h1
      have h0 : xs[0]? = some (.iface t z) := by
        have : xs.toList[0]? = some (.iface t z) := by rw [hy]; rfl
        simpa using this
      have hg : xs.getD 0 .nilIface = .iface t z := by rw [Array.getD_eq_getD_getElem?, h0]; rfl
      exact ⟨_, by simp only [builtin, hg, Sem.run_bind]; simp [Instr.panic], h1'⟩
    · cases e
  · cases e

theorem acall_ok (hA : A.Ok P) (h : HR B0 w0 m H w) {ρ : Operand → Option AV} {ρ' : Operand → Value} (hρ : ∀ x v, ρ x = some v → VR m v (ρ' x)) {c : Call} {ty : TypeId} {out : AOut}
    (e : acall A H ρ c = some out) : OutR B0 w0 m H w out ((do let d ← resolve ρ' c ty; invoke d.target d.args : Sem Next).run P w) := by
  unfold acall at e
  split at e
  · cases e
  next args hargs =>
  have hv := aargs_ok hρ _ _ hargs
  have hv' : VRs m args (c.args.map ρ').toList := by simpa using hv
  split at e
  · next b hc =>
    simp only [resolve, hc, pure_bind, invoke]
    exact abuiltin_ok hA h e hv' _
  · next recv name hc =>
    split at e
    case h_2 => cases e
    next t v hr =>
    split at e
    case h_2 => cases e
    next f u hm =>
    have hrv := hρ _ _ hr
    simp only [VR] at hrv
    obtain ⟨x, hx, hx2⟩ := hrv
    obtain ⟨y, y1, _, y3⟩ := amethod_ok (w := w) hA hm hx2 (P.types.size + 99)
    have hcall := acallFunc_ok (B0 := B0) (w0 := w0) (H := H) (w := w) hA e (xs := #[y] ++ c.args.map ρ') (by simp only [Array.toList_append, List.cons_append, List.nil_append, VRs]; exact ⟨y, _, rfl, y3, by simpa using hv⟩)
    have hex : ((#[ρ' recv] ++ c.args.map ρ').extract 1 (#[ρ' recv] ++ c.args.map ρ').size) = c.args.map ρ' := by
      apply Array.ext'
      simp
      exact List.take_of_length_le (by simp)
    have h0 : (#[ρ' recv] ++ c.args.map ρ')[0]? = some (.iface t x) := by
      rw [← Array.getElem?_toList]
      simp [hx]
    simp only [resolve, hc, pure_bind, invoke, h0, hex, callMethod, Sem.run_bind, run_program, Result.andThen_ok]
    rw [show P.types.size + Made.depth = P.types.size + 99 + 1 from rfl, y1]
    exact hcall
  · next f hc =>
    split at e
    · next fn first cap hf =>
      have hfv := hρ _ _ hf
      simp only [VR] at hfv
      obtain ⟨xf, xc, hx, h1, h2⟩ := hfv
      simp only [resolve, hc, Deferred.ofValue, hx, pure_bind]
      unfold acallFn at e
      split at e
      · next g =>
        simp only [invoke]
        refine acallFunc_ok hA e ?_
        simp only [Array.toList_append]
        exact (h1.append hv').append h2
      · next name =>
        split at e
        case h_2 => cases e
        next t v rest hargs' =>
        split at e
        case h_2 => cases e
        next g u hm =>
        have hall : VRs m (first ++ args) (xf ++ c.args.map ρ').toList := by
          simp only [Array.toList_append]
          exact h1.append hv'
        rw [hargs'] at hall
        simp only [VRs, VR] at hall
        obtain ⟨y0, ys, hy, ⟨x, rfl, hx2⟩, hrest⟩ := hall
        obtain ⟨y, y1, _, y3⟩ := amethod_ok (w := w) hA hm hx2 (P.types.size + 99)
        have hex : ((xf ++ c.args.map ρ').extract 1 (xf ++ c.args.map ρ').size).toList = ys := by
          rw [Array.toList_extract, List.extract_eq_take_drop, hy]
          have hsz : (xf ++ c.args.map ρ').size = ys.length + 1 := by
            rw [← Array.length_toList, hy]
            rfl
          rw [hsz]
          simp
        have h0 : (xf ++ c.args.map ρ')[0]? = some (.iface t x) := by
          rw [← Array.getElem?_toList, hy]
          rfl
        have hcall := acallFunc_ok (B0 := B0) (w0 := w0) (H := H) (w := w) hA e (xs := #[y] ++ (xf ++ c.args.map ρ').extract 1 (xf ++ c.args.map ρ').size)
          (by rw [Array.toList_append, hex]; simp only [List.cons_append, List.nil_append, VRs]; exact ⟨y, _, rfl, y3, hrest⟩)
        simp only [invoke, h0, callMethod, Sem.run_bind, run_program, Result.andThen_ok]
        rw [show P.types.size + Made.depth = P.types.size + 99 + 1 from rfl, y1]
        exact hcall
      · cases e
    · next l hf =>
      have hfv := hρ _ _ hf
      simp only [VR] at hfv
      obtain ⟨lc, hl, hx⟩ := hfv
      simp only [resolve, hc, Deferred.ofValue, hx, pure_bind, invoke]
      unfold ayield at e
      split at e
      case h_2 => cases e
      next st pend fn sz tmps ps asg body d hb =>
      split at e
      case h_2 => cases e
      next tmps' hs =>
      cases e
      obtain ⟨l1, k1, arr, ld, k2, k3, k4⟩ := h.blk l _ hb
      rw [hl] at k1
      cases k1
      obtain ⟨q1, q2⟩ := asets_ok ps.toList args sz tmps tmps' _ arr hs hv' k4
      have hget : (getObj lc.blk).run P w = .ok (.loop { state := st, pending := pend, fn, tmps := arr, params := ps, assign := asg, body, defers := ld.blk }) w := by simp [getObj, Sem.run, k3]
      have hsz : c.args.size = ps.size := by
        have := q1
        simp at this
        omega
      have hfold : (ps.zip (c.args.map ρ')).foldl (fun tmps (t, a) => tmps.setIfInBounds t a) arr = (ps.toList.zip (c.args.map ρ').toList).foldl (fun tmps (t, a) => tmps.setIfInBounds t a) arr := by
        rw [← Array.foldl_toList, Array.toList_zip]
      refine ⟨lc, (ps.zip (c.args.map ρ')).foldl (fun tmps (t, a) => tmps.setIfInBounds t a) arr, hl, ?_, by rw [hfold]; exact q2⟩
      simp [Instr.yield, Instr.getLoop, hget, hsz]
    · cases e

end
end Go.Am
