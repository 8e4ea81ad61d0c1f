/- The abstract machine, part 13: maps looked into and written. -/
import Derived.Test.YtkfoapjbfooneaaAm12
namespace Go.Am
open Go.RowKit

section
variable {m : Env} {w : World} {A : AP} {P : Program} {E : Eqs} {B0 : Prot} {w0 : World} {H : Heap}

/-- What is found. -/
def FR (m : Env) : Option (Nat × AV) → Option (Nat × Value) → Prop
  | none, r => r = none
  | some (i, v), r => ∃ x, r = some (i, x) ∧ VR m v x

theorem findAsking_ok (hA : A.Ok P) (hE : E.Ok P) {kt : TypeId} {k : AV} {kv : Value} (hk : VR m k kv) : ∀ (es : List AEnt) (xs : List MapEntry) (i : Nat) (r : Option (Nat × AV)),
    afind A E kt k es i = some r → ER m es xs → ∃ r', (Instr.findAsking kt kv xs i).run P w = .ok r' w ∧ FR m r r'
  | [], xs, i, r, h, he => by
    simp only [afind, Option.some.injEq] at h
    simp only [ER] at he
    subst h he
    exact ⟨none, by simp [Instr.findAsking], rfl⟩
  | e :: es, xs, i, r, h, he => by
    simp only [ER] at he
    obtain ⟨y, ys, rfl, e1, e2, _, e4⟩ := he
    simp only [afind] at h
    split at h
    · next hq =>
      cases h
      have := (aeq_ok (w := w) hA hE 20).1 _ _ _ _ _ _ 10000 hq hk e1 (by omega)
      exact ⟨some (i, y.val), by simp [Instr.findAsking, Op.equal, Op.maxDepth, this], y.val, rfl, e2⟩
    · next hq =>
      have := (aeq_ok (w := w) hA hE 20).1 _ _ _ _ _ _ 10000 hq hk e1 (by omega)
      obtain ⟨r', r1, r2⟩ := findAsking_ok hA hE hk es ys (i + 1) r h e4
      exact ⟨r', by simp [Instr.findAsking, Op.equal, Op.maxDepth, this, r1], r2⟩
    · cases h

theorem sameNow_ok {kind : TypeDesc} {x y : AV} {n : Nat} {kt : TypeId} {b b' : Bool} {xv yv : Value} (hx : VR m x xv) (hy : VR m y yv)
    (h : aeqv A E (n + 1) kt x y = some b) (hs : Instr.sameNow kind xv yv = some b') : b = b' := by
  cases x <;> cases y <;> simp only [aeqv, reduceCtorEq] at h
  case bool.bool p q =>
    simp only [VR] at hx hy
    subst hx hy
    split at h
    · cases h
      unfold Instr.sameNow at hs
      split at hs <;> first
        | (cases hs; done)
        | (rename_i h1 h2; cases h1; cases h2; cases hs; rfl)
        | (rename_i h1 h2; cases h1)
    · cases h
  case int.int k p k' q =>
    simp only [VR] at hx hy
    subst hx hy
    split at h
    · split at h
      · next hk =>
        simp only [decide_eq_true_eq] at hk
        subst hk
        cases h
        unfold Instr.sameNow at hs
        split at hs <;> first
          | (cases hs; done)
          | (rename_i h1 h2; cases h1; cases h2; simp at hs; subst hs; rfl)
          | (rename_i h1 h2; cases h1)
      · cases h
    · cases h
  case str.str p q =>
    simp only [VR] at hx hy
    subst hx hy
    split at h
    · cases h
      unfold Instr.sameNow at hs
      split at hs <;> first
        | (cases hs; done)
        | (rename_i h1 h2; cases h1; cases h2; cases hs; exact (beq_toListBytes _ _).symm)
        | (rename_i h1 h2; cases h1)
    · cases h
  case agg.agg xs ys =>
    simp only [VR] at hx hy
    obtain ⟨xs', rfl, _⟩ := hx
    obtain ⟨ys', rfl, _⟩ := hy
    simp [Instr.sameNow] at hs

theorem findNow_ok {kind : TypeDesc} {kt : TypeId} {k : AV} {kv : Value} (hk : VR m k kv) : ∀ (es : List AEnt) (xs : List MapEntry) (i : Nat) (r : Option (Nat × AV)) (r' : Option (Nat × Value)),
    afind A E kt k es i = some r → ER m es xs → Instr.findNow kind kv xs i = some r' → FR m r r'
  | [], xs, i, r, r', h, he, hn => by
    simp only [afind, Option.some.injEq] at h
    simp only [ER] at he
    subst h he
    simp only [Instr.findNow, Option.some.injEq] at hn
    exact hn.symm
  | e :: es, xs, i, r, r', h, he, hn => by
    simp only [ER] at he
    obtain ⟨y, ys, rfl, e1, e2, _, e4⟩ := he
    simp only [Instr.findNow] at hn
    simp only [afind] at h
    split at h
    · next hq =>
      cases h
      split at hn
      · cases hn
        exact ⟨y.val, rfl, e2⟩
      · next hs => exact absurd (sameNow_ok hk e1 hq hs) (by simp)
      · cases hn
    · next hq =>
      split at hn
      · next hs => exact absurd (sameNow_ok hk e1 hq hs) (by simp)
      · exact findNow_ok hk es ys (i + 1) r r' h e4 hn
      · cases hn
    · cases h

theorem findKey_ok (hA : A.Ok P) (hE : E.Ok P) {kt : TypeId} {d : TypeDesc} (hu : A.under kt = some d) {k : AV} {kv : Value} (hk : VR m k kv) {es : List AEnt} {xs : List MapEntry} {r : Option (Nat × AV)}
    (h : afind A E kt k es 0 = some r) (he : ER m es xs) : ∃ r', (Instr.findKey kt kv xs).run P w = .ok r' w ∧ FR m r r' := by
  simp only [Instr.findKey, Sem.run_bind, run_underlying (hA.under_ok hu), Result.andThen_ok]
  cases hn : Instr.findNow d kv xs 0 with
  | some r' => exact ⟨r', rfl, findNow_ok hk es xs 0 r r' h he hn⟩
  | none => exact findAsking_ok hA hE hk es xs 0 r h he

theorem acheck_under {n : Nat} {t : TypeId} {v : AV} (h : acheck A n t v = true) : ∃ d, A.under t = some d := by
  cases n with
  | zero => simp [acheck] at h
  | succ n =>
    simp only [acheck] at h
    cases hu : A.under t with
    | none => simp [hu] at h
    | some d => exact ⟨d, rfl⟩

theorem alookup_ok (hA : A.Ok P) (hE : E.Ok P) (h : HR B0 w0 m H w) {t : TypeId} {x k v : AV} {ok : Bool} (hl : alookup A E H t x k ok = some v) {xv kv : Value} (hx : VR m x xv) (hk : VR m k kv) :
    ∃ r, (Instr.lookup t xv kv ok).run P w = .ok r w ∧ VR m v r := by
  unfold alookup at hl
  split at hl
  case h_2 => cases hl
  next kt et hu =>
  simp only [] at hl
  split at hl
  case h_2 => cases hl
  next es hes =>
  obtain ⟨arr, harr, hER⟩ : ∃ arr : Array MapEntry, ((xv = .map none ∧ arr = #[]) ∨ ∃ l clock, xv = .map (some l) ∧ (getObj l).run P w = .ok (.map arr clock) w) ∧ ER m es arr.toList := by
    split at hes
    · cases hes
      simp only [VR] at hx
      subst hx
      exact ⟨#[], .inl ⟨rfl, rfl⟩, rfl⟩
    · next a =>
      split at hes
      · next es' clock hb =>
        cases hes
        simp only [VR] at hx
        obtain ⟨l, hl, rfl⟩ := hx
        obtain ⟨l', h1, arr, h2, h3⟩ := h.blk a _ hb
        rw [hl] at h1
        cases h1
        exact ⟨arr, .inr ⟨l.blk, clock, rfl, by simp [getObj, Sem.run, h2]⟩, h3⟩
      · cases hes
    · cases hes
  split at hl
  case h_2 => cases hl
  next hc =>
  split at hl
  case h_2 => cases hl
  next r hr =>
  split at hl
  case h_2 => cases hl
  next v' b hv =>
  obtain ⟨d, hd⟩ := acheck_under hc
  obtain ⟨r', r1, r2⟩ := findKey_ok (w := w) hA hE hd hk hr hER
  have hck := acheck_ok (w := w) hA arr.isEmpty 20 kt k kv 10000 hc hk (by omega)
  have fin : ∀ y, VR m v' y → VR m v (if ok then .tuple #[y, .bool b] else y) := by
    intro y hy
    cases hl
    cases ok
    · exact hy
    · simp only [if_true, VR]
      refine ⟨_, rfl, ?_⟩
      simp only [VRs, VR]
      exact ⟨_, _, rfl, hy, _, _, rfl, rfl, rfl⟩
  have hu' := hA.under_ok hu
  split at hv
  · next i u =>
    cases hv
    obtain ⟨z, rfl, hz⟩ := r2
    refine ⟨_, ?_, fin z hz⟩
    rcases harr with ⟨rfl, rfl⟩ | ⟨l, clock, rfl, hg⟩
    · simp only [Array.isEmpty_empty] at hck
      simp [Instr.lookup, run_underlying hu', hck]
      simp at r1
      simp [r1]
    · simp [Instr.lookup, run_underlying hu', hg, hck, r1]
  · simp only [FR] at r2
    subst r2
    split at hv
    case h_2 => cases hv
    next ti hti =>
    split at hv
    case h_2 => cases hv
    next z hz =>
    split at hv
    case h_2 => cases hv
    next z' hz' =>
    cases hv
    refine ⟨_, ?_, fin z (ofValue_ok hz')⟩
    rcases harr with ⟨rfl, rfl⟩ | ⟨l, clock, rfl, hg⟩
    · simp only [Array.isEmpty_empty] at hck
      simp [Instr.lookup, run_underlying hu', hck]
      simp at r1
      simp [r1, zeroValue, run_typeInfo' (hA.info _ _ hti), hz]
    · simp [Instr.lookup, run_underlying hu', hg, hck, r1, zeroValue, run_typeInfo' (hA.info _ _ hti), hz]

theorem ER.get {es : List AEnt} {xs : List MapEntry} (h : ER m es xs) : ∀ (i : Nat) e, es[i]? = some e → ∃ y, xs[i]? = some y ∧ VR m e.1 y.key ∧ VR m e.2.1 y.val := by
  induction es generalizing xs with
  | nil => intro i e hi; simp at hi
  | cons a as ih =>
    intro i e hi
    simp only [ER] at h
    obtain ⟨y, ys, rfl, h1, h2, _, h4⟩ := h
    cases i with
    | zero => simp at hi; subst hi; exact ⟨y, rfl, h1, h2⟩
    | succ i => simp at hi ⊢; exact ih h4 i e hi

theorem ER.setAt {es : List AEnt} {xs : List MapEntry} (h : ER m es xs) {k v : AV} {kv vv : Value} (hk : VR m k kv) (hv : VR m v vv) :
    ∀ (i : Nat), ER m (asetAt es i k v) (xs.modify i fun e => { e with key := kv, val := vv }) := by
  induction es generalizing xs with
  | nil => intro i; simp only [ER] at h; subst h; simp [asetAt, ER]
  | cons a as ih =>
    intro i
    simp only [ER] at h
    obtain ⟨y, ys, rfl, h1, h2, h3, h4⟩ := h
    cases i with
    | zero =>
      simp only [asetAt, List.modify_zero_cons, ER]
      exact ⟨_, _, rfl, hk, hv, h3, h4⟩
    | succ i =>
      simp only [asetAt, List.modify_succ_cons, ER]
      exact ⟨_, _, rfl, h1, h2, h3, ih h4 i⟩

theorem ER.snoc {es : List AEnt} {xs : List MapEntry} (h : ER m es xs) {k v : AV} {kv vv : Value} (hk : VR m k kv) (hv : VR m v vv) (b : Nat) :
    ER m (es ++ [(k, v, b)]) (xs ++ [{ key := kv, val := vv, born := b }]) := by
  induction es generalizing xs with
  | nil => simp only [ER] at h; subst h; simp only [List.nil_append, ER]; exact ⟨_, _, rfl, hk, hv, rfl, rfl⟩
  | cons a as ih =>
    simp only [ER] at h
    obtain ⟨y, ys, rfl, h1, h2, h3, h4⟩ := h
    simp only [List.cons_append, ER]
    exact ⟨_, _, rfl, h1, h2, h3, ih h4⟩

/-- A block that is no cells is laid anew. -/
theorem HR.setObj (h : HR B0 w0 m H w) {a : Nat} {b b' : ABlk} (hb : H.blks.get a = some b) (hnb : ∀ t f n c, b ≠ .cells t f n c) (hnb' : ∀ t f n c, b' ≠ .cells t f n c) {l : Loc} (hl : m a = some l) {o' : Obj}
    (hbr : BR m b' l (some o')) : HR B0 w0 m { H with blks := H.blks.set a b' } { w with heap := w.heap.setIfInBounds l.blk o' } := by
  refine h.upd hb hl (h.live a b l hb hl) (upd_setIf w l.blk o' (h.inb a l hl)) hbr rfl (by rw [T.get_set]; simp) ?_ ?_
  · intro x bx hxa hx
    simp only [T.get_set, hxa, if_false] at hx
    refine ⟨hx, fun l' hl' e => ?_⟩
    rcases h.sep x a bx b l' l hx hb hl' hl e with e1 | ⟨t, f, n, c, t', n', c', e1, e2, _⟩
    · exact hxa e1
    · exact hnb _ _ _ _ e2
  · intro x t f n c hx
    by_cases hxa : x = a
    · subst hxa
      simp only [T.get_set, if_true, Option.some.injEq] at hx
      exact absurd hx (hnb' _ _ _ _)
    · simp only [T.get_set, hxa, if_false] at hx
      exact h.fam x t f n c hx

theorem amapUpdate_ok (hA : A.Ok P) (hE : E.Ok P) (h : HR B0 w0 m H w) {t : TypeId} {x k v : AV} {H' : Heap} (hl : amapUpdate A E H t x k v = some H') {xv kv vv : Value} (hx : VR m x xv) (hk : VR m k kv) (hv : VR m v vv) :
    ∃ w', (Instr.mapUpdate t xv kv vv).run P w = .ok () w' ∧ HR B0 w0 m H' w' := by
  unfold amapUpdate at hl
  split at hl
  case h_2 => cases hl
  next kt et a hu =>
  split at hl
  case h_2 => cases hl
  next es clock hb =>
  split at hl
  case h_2 => cases hl
  next hc =>
  simp only [VR] at hx
  obtain ⟨l, hm, rfl⟩ := hx
  obtain ⟨l', h1, arr, h2, h3⟩ := h.blk a _ hb
  rw [hm] at h1
  cases h1
  have hck := acheck_ok (w := w) hA false 20 kt k kv 10000 hc hk (by omega)
  obtain ⟨d, hd⟩ := acheck_under hc
  have hget : (getObj l.blk).run P w = .ok (.map arr clock) w := by simp [getObj, Sem.run, h2]
  have hset : ∀ o', (setObj l.blk o').run P w = .ok () { w with heap := w.heap.setIfInBounds l.blk o' } := fun o' => by simp [setObj, Sem.run, h2]
  split at hl
  · next i u hf =>
    split at hl
    case h_2 => cases hl
    next e he =>
    split at hl
    case h_2 => cases hl
    next hs =>
    cases hl
    obtain ⟨r', r1, r2⟩ := findKey_ok (w := w) hA hE hd hk hf h3
    obtain ⟨z, rfl, hz⟩ := r2
    obtain ⟨y, y1, y2, y3⟩ := h3.get i e he
    have hsb := (asame_ok 20).1 _ _ _ _ 10000 hs y2 hk (by omega)
    have hy1 : arr[i]? = some y := by simpa using y1
    refine ⟨_, ?_, h.setObj (b' := .map (asetAt es i k v) clock) hb (by simp) (by simp) hm (o' := .map (arr.modify i fun e => { e with key := kv, val := vv }) clock) ⟨_, rfl, ?_⟩⟩
    · simp [Instr.mapUpdate, run_underlying (hA.under_ok hu), hget, hck, r1, Instr.keyThatStays, hy1, hsb, hset]
    · have := h3.setAt hk hv i
      simpa using this
  · next hf =>
    cases hl
    obtain ⟨r', r1, r2⟩ := findKey_ok (w := w) hA hE hd hk hf h3
    simp only [FR] at r2
    subst r2
    refine ⟨_, ?_, h.setObj (b' := .map (es ++ [(k, v, clock)]) (clock + 1)) hb (by simp) (by simp) hm (o' := .map (arr.push { key := kv, val := vv, born := clock }) (clock + 1)) ⟨_, rfl, ?_⟩⟩
    · simp [Instr.mapUpdate, run_underlying (hA.under_ok hu), hget, hck, r1, hset]
    · have := h3.snoc hk hv clock
      simpa using this
  · cases hl

theorem ER.setKey {es : List AEnt} {xs : List MapEntry} (h : ER m es xs) {k : AV} {kv : Value} (hk : VR m k kv) :
    ∀ (i : Nat), ER m (asetKey es i k) (xs.modify i fun e => { e with key := kv }) := by
  induction es generalizing xs with
  | nil => intro i; simp only [ER] at h; subst h; simp [asetKey, ER]
  | cons a as ih =>
    intro i
    simp only [ER] at h
    obtain ⟨y, ys, rfl, h1, h2, h3, h4⟩ := h
    cases i with
    | zero =>
      simp only [asetKey, List.modify_zero_cons, ER]
      exact ⟨_, _, rfl, hk, h2, h3, h4⟩
    | succ i =>
      simp only [asetKey, List.modify_succ_cons, ER]
      exact ⟨_, _, rfl, h1, h2, h3, ih h4 i⟩

theorem ER.setVal {es : List AEnt} {xs : List MapEntry} (h : ER m es xs) {v : AV} {vv : Value} (hv : VR m v vv) :
    ∀ (i : Nat), ER m (asetVal es i v) (xs.modify i fun e => { e with val := vv }) := by
  induction es generalizing xs with
  | nil => intro i; simp only [ER] at h; subst h; simp [asetVal, ER]
  | cons a as ih =>
    intro i
    simp only [ER] at h
    obtain ⟨y, ys, rfl, h1, h2, h3, h4⟩ := h
    cases i with
    | zero =>
      simp only [asetVal, List.modify_zero_cons, ER]
      exact ⟨_, _, rfl, h1, hv, h3, h4⟩
    | succ i =>
      simp only [asetVal, List.modify_succ_cons, ER]
      exact ⟨_, _, rfl, h1, h2, h3, ih h4 i⟩

theorem ER.born {es : List AEnt} {xs : List MapEntry} (h : ER m es xs) : ∀ (i : Nat) e, es[i]? = some e → ∃ y, xs[i]? = some y ∧ VR m e.1 y.key ∧ e.2.2 = y.born := by
  induction es generalizing xs with
  | nil => intro i e hi; simp at hi
  | cons a as ih =>
    intro i e hi
    simp only [ER] at h
    obtain ⟨y, ys, rfl, h1, _, h3, h4⟩ := h
    cases i with
    | zero => simp at hi; subst hi; exact ⟨y, rfl, h1, h3⟩
    | succ i => simp at hi ⊢; exact ih h4 i e hi

theorem ER.bornAt {es : List AEnt} {xs : List MapEntry} (h : ER m es xs) {n : Int} : ∀ {i j : Nat}, abornAt es n j = some i → ∃ k, i = j + k ∧ xs.findIdx? (fun e => (e.born : Int) == n) = some k := by
  induction es generalizing xs with
  | nil => intro i j hi; simp [abornAt] at hi
  | cons a as ih =>
    intro i j hi
    simp only [ER] at h
    obtain ⟨y, ys, rfl, h1, _, h3, h4⟩ := h
    simp only [abornAt] at hi
    split at hi
    · next hd =>
      cases hi
      have hd := of_decide_eq_true hd
      refine ⟨0, rfl, ?_⟩
      rw [h3] at hd
      simp [List.findIdx?_cons, hd]
    · next hd =>
      have hd := of_decide_eq_false hd
      obtain ⟨k, k1, k2⟩ := ih h4 hi
      refine ⟨k + 1, by omega, ?_⟩
      rw [h3] at hd
      simp [List.findIdx?_cons, hd, k2]

theorem amapEntry_ok (hA : A.Ok P) (hE : E.Ok P) (h : HR B0 w0 m H w) {t : TypeId} {x k v : AV} {H' : Heap} (hl : amapEntry A E H t x k = some (v, H')) {xv kv : Value} (hx : VR m x xv) (hk : VR m k kv) :
    ∃ r w', (Instr.mapEntry t xv kv).run P w = .ok r w' ∧ VR m v r ∧ HR B0 w0 m H' w' := by
  unfold amapEntry at hl
  split at hl
  case h_2 => cases hl
  next kt et a hu =>
  split at hl
  case h_2 => cases hl
  next es clock hb =>
  split at hl
  case h_2 => cases hl
  next hc =>
  simp only [VR] at hx
  obtain ⟨l, hm, rfl⟩ := hx
  obtain ⟨l', h1, arr, h2, h3⟩ := h.blk a _ hb
  rw [hm] at h1
  cases h1
  have hck := acheck_ok (w := w) hA false 20 kt k kv 10000 hc hk (by omega)
  obtain ⟨d, hd⟩ := acheck_under hc
  have hget : (getObj l.blk).run P w = .ok (.map arr clock) w := by simp [getObj, Sem.run, h2]
  have hset : ∀ o', (setObj l.blk o').run P w = .ok () { w with heap := w.heap.setIfInBounds l.blk o' } := fun o' => by simp [setObj, Sem.run, h2]
  have two : ∀ (u : AV) (z : Value) (n : Nat), VR m u z → VR m (.tup [u, .int .i64 (.ofNat n)]) (.tuple #[z, goInt n]) := by
    intro u z n hz
    simp only [VR]
    refine ⟨_, rfl, ?_⟩
    simp only [VRs, VR]
    exact ⟨_, _, rfl, hz, _, _, rfl, rfl, rfl⟩
  split at hl
  · next i u hf =>
    split at hl
    case h_2 => cases hl
    next e he =>
    split at hl
    case h_2 => cases hl
    next hs =>
    cases hl
    obtain ⟨r', r1, r2⟩ := findKey_ok (w := w) hA hE hd hk hf h3
    obtain ⟨z, rfl, hz⟩ := r2
    obtain ⟨y, y1, y2, y3⟩ := h3.born i e he
    have hsb := (asame_ok 20).1 _ _ _ _ 10000 hs y2 hk (by omega)
    have hy1 : arr[i]? = some y := by simpa using y1
    refine ⟨.tuple #[z, goInt y.born], _, ?_, by rw [y3]; exact two u z y.born hz, h.setObj (b' := .map (asetKey es i k) clock) hb (by simp) (by simp) hm (o' := .map (arr.modify i fun e => { e with key := kv }) clock) ⟨_, rfl, ?_⟩⟩
    · simp [Instr.mapEntry, run_underlying (hA.under_ok hu), hget, hck, r1, Instr.keyThatStays, hy1, hsb, hset]
    · have := h3.setKey hk i
      simpa using this
  · next hf =>
    split at hl
    case h_2 => cases hl
    next z hz =>
    cases hl
    obtain ⟨r', r1, r2⟩ := findKey_ok (w := w) hA hE hd hk hf h3
    simp only [FR] at r2
    subst r2
    unfold azeroOf at hz
    split at hz
    case h_2 => cases hz
    next ti hti =>
    split at hz
    case h_2 => cases hz
    next zv hzv =>
    refine ⟨.tuple #[zv, goInt clock], _, ?_, two z zv clock (ofValue_ok hz), h.setObj (b' := .map (es ++ [(k, z, clock)]) (clock + 1)) hb (by simp) (by simp) hm (o' := .map (arr.push { key := kv, val := zv, born := clock }) (clock + 1)) ⟨_, rfl, ?_⟩⟩
    · simp [Instr.mapEntry, run_underlying (hA.under_ok hu), hget, hck, r1, hset, zeroValue, run_typeInfo' (hA.info _ _ hti), hzv]
    · have := h3.snoc hk (ofValue_ok (m := m) hz) clock
      simpa using this
  · cases hl

theorem aentryStore_ok (h : HR B0 w0 m H w) {t : TypeId} {x s v : AV} {H' : Heap} (hl : aentryStore H x s v = some H') {xv sv vv : Value} (hx : VR m x xv) (hs : VR m s sv) (hv : VR m v vv) :
    ∃ w', (Instr.entryStore t xv sv vv).run P w = .ok () w' ∧ HR B0 w0 m H' w' := by
  unfold aentryStore at hl
  split at hl
  case h_2 => cases hl
  next a kk n =>
  split at hl
  case h_2 => cases hl
  next es clock hb =>
  split at hl
  case h_2 => cases hl
  next i hi =>
  cases hl
  simp only [VR] at hx hs
  obtain ⟨l, hm, rfl⟩ := hx
  subst hs
  obtain ⟨l', h1, arr, h2, h3⟩ := h.blk a _ hb
  rw [hm] at h1
  cases h1
  obtain ⟨k, rfl, hk⟩ := h3.bornAt hi
  have hget : (getObj l.blk).run P w = .ok (.map arr clock) w := by simp [getObj, Sem.run, h2]
  have hset : ∀ o', (setObj l.blk o').run P w = .ok () { w with heap := w.heap.setIfInBounds l.blk o' } := fun o' => by simp [setObj, Sem.run, h2]
  have hk' : arr.findIdx? (fun e => (e.born : Int) == n) = some k := by
    obtain ⟨ls⟩ := arr
    rw [List.findIdx?_toArray]
    exact hk
  refine ⟨_, ?_, h.setObj (b' := .map (asetVal es (0 + k) v) clock) hb (by simp) (by simp) hm (o' := .map (arr.modify k fun e => { e with val := vv }) clock) ⟨_, rfl, ?_⟩⟩
  · simp [Instr.entryStore, hget, run_asIntOf, asInt, hk', hset]
  · have := h3.setVal hv k
    rw [Nat.zero_add]
    simpa using this

end
end Go.Am
