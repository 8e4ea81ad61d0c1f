/- The abstract machine, part 2: the abstract heap, and what it says of a world. -/
import Derived.Test.YtkfoapjbfooneaaAm1
namespace Go.Am
open Go.RowKit

inductive ADef where
  | call (f : Fn) (cap args : List AV)
  | collected (r : Nat)

def DR (m : Env) : ADef → Deferred → Prop
  | .call f cap args, d => ∃ c a, d = { target := .fn f c, args := a } ∧ VRs m cap c.toList ∧ VRs m args a.toList
  | .collected r, d => ∃ l, m r = some l ∧ d = { target := .collected l.blk, args := #[] }

def DRs (m : Env) : List ADef → List Deferred → Prop
  | [], xs => xs = []
  | a :: as, xs => ∃ y ys, xs = y :: ys ∧ DR m a y ∧ DRs m as ys

inductive ABlk where
  | cells (t : TypeId) (fam n : Nat) (c : T AV)
  | map (es : List (AV × AV × Nat)) (clock : Nat)
  | loop (st : LoopState) (pend : Option Code) (fn : FuncId) (sz : Nat) (tmps : T AV) (params : Array Tmp) (assign body : Code) (defers : Nat)
  | dfr (ds : Option (List ADef))

def TR (m : Env) (sz : Nat) (t : T AV) (arr : Array Value) : Prop :=
  arr.size = sz ∧ ∀ i v, t.get i = some v → ∃ x, arr[i]? = some x ∧ VR m v x

def ER (m : Env) : List (AV × AV × Nat) → List MapEntry → Prop
  | [], xs => xs = []
  | e :: es, xs => ∃ y ys, xs = y :: ys ∧ VR m e.1 y.key ∧ VR m e.2.1 y.val ∧ e.2.2 = y.born ∧ ER m es ys

def BR (m : Env) : ABlk → Loc → Option Obj → Prop
  | .cells t _ n c, l, o => ∃ arr, o = some (.cells arr t (0, 0)) ∧ arr.size = l.size ∧ n + l.sh ≤ l.size ∧
      ∀ i v, c.get i = some v → i < n ∧ ∃ x, arr[i + l.sh]? = some x ∧ VR m v x
  | .map es clock, _, o => ∃ arr, o = some (.map arr clock) ∧ ER m es arr.toList
  | .loop st pend fn sz tmps ps asg body d, _, o => ∃ (a : Array Value) (ld : Loc), m d = some ld ∧
      o = some (.loop { state := st, pending := pend, fn, tmps := a, params := ps, assign := asg, body, defers := ld.blk }) ∧ TR m sz tmps a
  | .dfr none, _, o => o = some (.deferred none)
  | .dfr (some ds), _, o => ∃ xs, o = some (.deferred (some xs)) ∧ DRs m ds xs

structure Heap where
  blks : T ABlk
  next : Nat
  fams : T (List Nat)

/-- A block of which nothing is frozen. -/
def Cold (o : Obj) : Prop := ∀ arr t z, o = .cells arr t z → z.2 ≤ z.1

theorem BR.cold {m : Env} {b : ABlk} {l : Loc} {o : Obj} (h : BR m b l (some o)) : Cold o := by
  intro arr t z e
  subst e
  cases b with
  | cells =>
    obtain ⟨arr', h1, _⟩ := h
    cases h1
    exact Nat.le_refl _
  | map => obtain ⟨_, h1, _⟩ := h; cases h1
  | loop => obtain ⟨_, _, _, h1, _⟩ := h; cases h1
  | dfr ds =>
    cases ds with
    | none => cases h
    | some ds => obtain ⟨_, h1, _⟩ := h; cases h1

theorem Cold.frozen {w : World} {a : Addr} {o : Obj} (h : Cold o) (e : w.heap[a.block]? = some o) : w.frozen? a = false := by
  cases o with
  | cells arr t z =>
    have := h arr t z rfl
    obtain ⟨lo, hi⟩ := z
    simp only at this
    simp only [World.frozen?, e, Bool.and_eq_false_iff, decide_eq_false_iff_not]
    omega
  | _ => simp [World.frozen?, e]

theorem frozen_none {w : World} {a : Addr} (e : w.heap[a.block]? = none) : w.frozen? a = false := by simp [World.frozen?, e]

/-- What is kept apart: blocks of the world that nobody looks at, and numbers that nobody has yet. -/
structure Prot where
  blk : Nat → Prop
  ids : Nat → Prop

instance : CoeFun Prot fun _ => Nat → Prop := ⟨Prot.blk⟩

/-- What is kept of a world: blocks that are there, and the streams. -/
structure Keep (B0 : Prot) (w0 w : World) : Prop where
  os : w.os = w0.os
  tape : w.tape = w0.tape
  output : w.output = w0.output
  size : w0.heap.size ≤ w.heap.size
  block : ∀ k, B0 k → w.heap[k]? = w0.heap[k]?
  there : ∀ k, B0 k → k < w0.heap.size
  froz : ∀ a, w.frozen? a = w0.frozen? a

theorem Keep.refl {B0 : Prot} {w : World} (h : ∀ k, B0 k → k < w.heap.size) : Keep B0 w w := ⟨rfl, rfl, rfl, Nat.le_refl _, fun _ _ => rfl, h, fun _ => rfl⟩

theorem Keep.lt {B0 : Prot} {w0 w : World} (h : Keep B0 w0 w) {k : Nat} (hk : B0 k) : k < w.heap.size := Nat.lt_of_lt_of_le (h.there k hk) h.size

theorem Keep.drew {B0 : Prot} {w0 w : World} (h : Keep B0 w0 w) : Keep B0 w0 w.drew := ⟨h.os, h.tape, h.output, h.size, h.block, h.there, h.froz⟩

theorem Keep.alloc {B0 : Prot} {w0 w : World} (h : Keep B0 w0 w) (o : Obj) (hc : Cold o) : Keep B0 w0 (w.alloc o) :=
  ⟨h.os, h.tape, h.output, by have := h.size; simp; omega, fun k hk => by rw [Below.heap_alloc _ _ _ (h.lt hk)]; exact h.block k hk, h.there, fun a => by
    rw [← h.froz a]
    rcases Nat.lt_trichotomy a.block w.heap.size with h1 | h1 | h1
    · exact World.frozen?_of_block (Below.heap_alloc _ _ _ h1)
    · have h2 : (w.alloc o).heap[a.block]? = some o := by
        show (w.heap.push o)[a.block]? = some o
        rw [h1, Array.getElem?_push, if_pos rfl]
      rw [hc.frozen h2, frozen_none (Array.getElem?_eq_none (by omega))]
    · have h2 : (w.alloc o).heap[a.block]? = none := by
        show (w.heap.push o)[a.block]? = none
        exact Array.getElem?_eq_none (by simp; omega)
      rw [frozen_none h2, frozen_none (Array.getElem?_eq_none (by omega))]⟩

theorem Keep.new {B0 : Prot} {w0 w : World} (h : Keep B0 w0 w) {k : Nat} (hk : w.heap.size ≤ k) : ¬ B0 k := fun e => by have := h.lt e; omega

structure HR (B0 : Prot) (w0 : World) (m : Env) (H : Heap) (w : World) : Prop where
  below : Keep B0 w0 w
  fresh : ∀ a l, m a = some l → a < H.next ∧ ¬ B0.ids a
  inb : ∀ a l, m a = some l → l.blk < w.heap.size
  blk : ∀ a b, H.blks.get a = some b → ∃ l, m a = some l ∧ BR m b l (w.heap[l.blk]?)
  sep : ∀ a a' b b' l l', H.blks.get a = some b → H.blks.get a' = some b' → m a = some l → m a' = some l' → l.blk = l'.blk →
    a = a' ∨ ∃ t f n c t' n' c', b = .cells t f n c ∧ b' = .cells t' f n' c' ∧ l.sh = l'.sh
  fam : ∀ a t f n c, H.blks.get a = some (.cells t f n c) → f < H.next ∧ ∃ L, H.fams.get f = some L ∧ a ∈ L
  live : ∀ a b l, H.blks.get a = some b → m a = some l → ¬ B0 l.blk
  idsb : ∀ a, B0.ids a → a < H.next

section
variable {m m' : Env}

theorem DR.mono (h : m.le m') {d : ADef} {x : Deferred} (e : DR m d x) : DR m' d x := by
  cases d with
  | call f cap args =>
    obtain ⟨c, a, h1, h2, h3⟩ := e
    exact ⟨c, a, h1, VRs.mono h _ _ h2, VRs.mono h _ _ h3⟩
  | collected r =>
    obtain ⟨l, h1, h2⟩ := e
    exact ⟨l, h _ _ h1, h2⟩

theorem DRs.mono (h : m.le m') : ∀ {d : List ADef} {x : List Deferred}, DRs m d x → DRs m' d x
  | [], _, e => e
  | _ :: _, _, ⟨y, ys, h1, h2, h3⟩ => ⟨y, ys, h1, h2.mono h, DRs.mono h h3⟩

theorem ER.mono (h : m.le m') : ∀ {d : List (AV × AV × Nat)} {x : List MapEntry}, ER m d x → ER m' d x
  | [], _, e => e
  | _ :: _, _, ⟨y, ys, h1, h2, h3, h4, h5⟩ => ⟨y, ys, h1, VR.mono h _ _ h2, VR.mono h _ _ h3, h4, ER.mono h h5⟩

theorem TR.mono (h : m.le m') {sz : Nat} {t : T AV} {arr : Array Value} (e : TR m sz t arr) : TR m' sz t arr :=
  ⟨e.1, fun i v hi => let ⟨x, h1, h2⟩ := e.2 i v hi; ⟨x, h1, VR.mono h _ _ h2⟩⟩

theorem TR.set {sz : Nat} {t : T AV} {arr : Array Value} (e : TR m sz t arr) {d : Nat} (hd : d < sz) {v : AV} {x : Value} (hv : VR m v x) :
    TR m sz (t.set d v) (arr.setIfInBounds d x) := by
  refine ⟨by simp [e.1], fun i u hi => ?_⟩
  rw [T.get_set] at hi
  by_cases h : i = d
  · subst h
    simp only [if_true, Option.some.injEq] at hi
    subst hi
    exact ⟨x, by simp [e.1, hd], hv⟩
  · simp only [h, if_false] at hi
    obtain ⟨y, h1, h2⟩ := e.2 i u hi
    exact ⟨y, by rw [Array.getElem?_setIfInBounds_ne (fun e => h e.symm)]; exact h1, h2⟩

theorem BR.mono (h : m.le m') {b : ABlk} {l : Loc} {o : Option Obj} (e : BR m b l o) : BR m' b l o := by
  cases b with
  | cells t f n c =>
    obtain ⟨arr, h1, h2, h3, h4⟩ := e
    exact ⟨arr, h1, h2, h3, fun i v hi => let ⟨k1, x, k2, k3⟩ := h4 i v hi; ⟨k1, x, k2, VR.mono h _ _ k3⟩⟩
  | map es clock =>
    obtain ⟨arr, h1, h2⟩ := e
    exact ⟨arr, h1, h2.mono h⟩
  | loop =>
    obtain ⟨a, ld, h1, h2, h3⟩ := e
    exact ⟨a, ld, h _ _ h1, h2, h3.mono h⟩
  | dfr ds =>
    cases ds with
    | none => exact e
    | some ds =>
      obtain ⟨xs, h1, h2⟩ := e
      exact ⟨xs, h1, h2.mono h⟩
end

def Env.ext (m : Env) (a : Nat) (l : Loc) : Env := fun x => if x = a then some l else m x

theorem Env.ext_self (m : Env) (a : Nat) (l : Loc) : m.ext a l a = some l := by simp [Env.ext]
theorem Env.ext_ne (m : Env) {a x : Nat} (l : Loc) (h : x ≠ a) : m.ext a l x = m x := by simp [Env.ext, h]

theorem heap_alloc_new (w : World) (o : Obj) : (w.alloc o).heap[w.heap.size]? = some o := by
  show (w.heap.push o)[w.heap.size]? = some o
  rw [Array.getElem?_push, if_pos rfl]

section
variable {B0 : Prot} {w0 : World} {m : Env} {H : Heap} {w : World}

theorem HR.le_ext (h : HR B0 w0 m H w) (l : Loc) : m.le (m.ext H.next l) := by
  intro a k e
  have := (h.fresh a k e).1
  rw [Env.ext_ne _ _ (by omega)]
  exact e

theorem HR.drew (h : HR B0 w0 m H w) : HR B0 w0 m H w.drew :=
  ⟨h.below.drew, h.fresh, h.inb, h.blk, h.sep, h.fam, h.live, h.idsb⟩

/-- What lies in a world where one block has been laid anew. -/
structure Upd (w w' : World) (k : Nat) (o : Obj) : Prop where
  os : w'.os = w.os
  tape : w'.tape = w.tape
  output : w'.output = w.output
  size : w'.heap.size = w.heap.size
  new : w'.heap[k]? = some o
  old : ∀ i, i ≠ k → w'.heap[i]? = w.heap[i]?

theorem Upd.below {w w' : World} {k : Nat} {o : Obj} (u : Upd w w' k o) (hb : Keep B0 w0 w) (hk : ¬ B0 k) (hc : Cold o) (hc' : ∀ o', w.heap[k]? = some o' → Cold o') : Keep B0 w0 w' :=
  ⟨u.os.trans hb.os, u.tape.trans hb.tape, u.output.trans hb.output, by rw [u.size]; exact hb.size,
    fun i hi => (u.old i (fun e => hk (e ▸ hi))).trans (hb.block i hi), hb.there, fun a => by
      rw [← hb.froz a]
      by_cases h1 : a.block = k
      · rw [hc.frozen (by rw [h1]; exact u.new)]
        cases h2 : w.heap[a.block]? with
        | none => rw [frozen_none h2]
        | some o' => rw [(hc' o' (by rw [← h1]; exact h2)).frozen h2]
      · exact World.frozen?_of_block (u.old _ h1)⟩

theorem HR.cold (h : HR B0 w0 m H w) {a : Nat} {b : ABlk} {l : Loc} (hb : H.blks.get a = some b) (hl : m a = some l) (o : Obj) (ho : w.heap[l.blk]? = some o) : Cold o := by
  obtain ⟨l', h1, h2⟩ := h.blk a b hb
  rw [hl] at h1
  cases h1
  rw [ho] at h2
  exact h2.cold

theorem upd_setIf (w : World) (k : Nat) (o : Obj) (hk : k < w.heap.size) : Upd w { w with heap := w.heap.setIfInBounds k o } k o :=
  ⟨rfl, rfl, rfl, by simp, by simp [hk], fun i hi => by
    show (w.heap.setIfInBounds k o)[i]? = _
    rw [Array.getElem?_setIfInBounds_ne (fun e => hi e.symm)]⟩

/-- One block is laid anew; every other live block lies elsewhere. -/
theorem HR.upd (h : HR B0 w0 m H w) {a : Nat} {l : Loc} {b0 b' : ABlk} {o' : Obj} {w' : World} {H' : Heap} (hb0 : H.blks.get a = some b0) (ha : m a = some l) (hnp : ¬ B0 l.blk)
    (u : Upd w w' l.blk o') (hb : BR m b' l (some o')) (hn : H'.next = H.next) (hga : H'.blks.get a = some b')
    (hget : ∀ x b, x ≠ a → H'.blks.get x = some b → H.blks.get x = some b ∧ ∀ l', m x = some l' → l'.blk ≠ l.blk)
    (hfam : ∀ x t f n c, H'.blks.get x = some (.cells t f n c) → f < H.next ∧ ∃ L, H'.fams.get f = some L ∧ x ∈ L) : HR B0 w0 m H' w' := by
  refine ⟨u.below h.below hnp hb.cold (h.cold hb0 ha), fun x k e => by rw [hn]; exact h.fresh x k e, fun x k e => by rw [u.size]; exact h.inb x k e, ?_, ?_, ?_, ?_, fun x k => by rw [hn]; exact h.idsb x k⟩
  · intro x b hx
    by_cases hxa : x = a
    · subst hxa
      rw [hga] at hx
      cases hx
      exact ⟨l, ha, by rw [u.new]; exact hb⟩
    · obtain ⟨hx', hne⟩ := hget x b hxa hx
      obtain ⟨k, k1, k2⟩ := h.blk x b hx'
      refine ⟨k, k1, ?_⟩
      rw [u.old k.blk (hne k k1)]
      exact k2
  · intro x y bx byy lx ly hx hy hlx hly hblk
    by_cases hxy : x = y
    · exact .inl hxy
    by_cases hxa : x = a
    · subst hxa
      rw [ha] at hlx
      cases hlx
      exact absurd hblk.symm ((hget y byy (fun e => hxy e.symm) hy).2 ly hly)
    · obtain ⟨hx', hne⟩ := hget x bx hxa hx
      by_cases hya : y = a
      · subst hya
        rw [ha] at hly
        cases hly
        exact absurd hblk (hne lx hlx)
      · exact h.sep x y bx byy lx ly hx' (hget y byy hya hy).1 hlx hly hblk
  · intro x t f n c hx
    rw [hn]
    exact hfam x t f n c hx
  · intro x b k hx hk
    by_cases hxa : x = a
    · subst hxa
      rw [ha] at hk
      cases hk
      exact hnp
    · exact h.live x b k (hget x b hxa hx).1 hk

/-- A new block. -/
theorem HR.alloc (h : HR B0 w0 m H w) (l : Loc) (hl : l.blk = w.heap.size) (b : ABlk) (o : Obj) (hb : BR (m.ext H.next l) b l (some o))
    (F : T (List Nat)) (hF : (∃ t n c, b = .cells t H.next n c ∧ F = H.fams.set H.next [H.next]) ∨ ((∀ t f n c, b ≠ .cells t f n c) ∧ F = H.fams)) :
    HR B0 w0 (m.ext H.next l) { blks := H.blks.set H.next b, next := H.next + 1, fams := F } (w.alloc o) := by
  have hle := h.le_ext l
  have hold : ∀ a k, a ≠ H.next → m.ext H.next l a = some k → m a = some k := fun a k ha e => by rwa [Env.ext_ne _ _ ha] at e
  refine ⟨h.below.alloc o hb.cold, ?_, ?_, ?_, ?_, ?_, ?_, fun a ha => Nat.lt_succ_of_lt (h.idsb a ha)⟩
  · intro a k e
    by_cases ha : a = H.next
    · subst ha; exact ⟨Nat.lt_succ_self _, fun hc => Nat.lt_irrefl _ (h.idsb _ hc)⟩
    · exact ⟨Nat.lt_succ_of_lt (h.fresh a k (hold a k ha e)).1, (h.fresh a k (hold a k ha e)).2⟩
  · intro a k e
    by_cases ha : a = H.next
    · subst ha
      rw [Env.ext_self] at e
      cases e
      simp
      omega
    · have := h.inb a k (hold a k ha e)
      simp
      omega
  · intro a b' hg
    rw [T.get_set] at hg
    by_cases ha : a = H.next
    · subst ha
      simp only [if_true, Option.some.injEq] at hg
      subst hg
      refine ⟨l, Env.ext_self _ _ _, ?_⟩
      rw [hl, heap_alloc_new]
      exact hb
    · simp only [ha, if_false] at hg
      obtain ⟨k, k1, k2⟩ := h.blk a b' hg
      refine ⟨k, hle _ _ k1, ?_⟩
      rw [Below.heap_alloc _ _ _ (h.inb a k k1)]
      exact k2.mono hle
  · intro a a' b1 b2 l1 l2 h1 h2 e1 e2 hblk
    by_cases hxy : a = a'
    · exact .inl hxy
    rw [T.get_set] at h1 h2
    by_cases ha : a = H.next
    · subst ha
      rw [Env.ext_self] at e1
      cases e1
      have := h.inb a' l2 (hold a' l2 (fun e => hxy e.symm) e2)
      omega
    · by_cases ha' : a' = H.next
      · subst ha'
        rw [Env.ext_self] at e2
        cases e2
        have := h.inb a l1 (hold a l1 ha e1)
        omega
      · simp only [ha, if_false] at h1
        simp only [ha', if_false] at h2
        exact h.sep a a' b1 b2 l1 l2 h1 h2 (hold _ _ ha e1) (hold _ _ ha' e2) hblk
  · intro a t f n c hg
    rw [T.get_set] at hg
    by_cases ha : a = H.next
    · subst ha
      simp only [if_true, Option.some.injEq] at hg
      rcases hF with ⟨t', n', c', hb', hF⟩ | ⟨hb', _⟩
      · rw [hb'] at hg
        cases hg
        exact ⟨Nat.lt_succ_self _, [H.next], by rw [hF, T.get_set]; simp, by simp⟩
      · exact absurd hg (hb' _ _ _ _)
    · simp only [ha, if_false] at hg
      obtain ⟨h1, L, h2, h3⟩ := h.fam a t f n c hg
      refine ⟨Nat.lt_succ_of_lt h1, L, ?_, h3⟩
      rcases hF with ⟨_, _, _, _, hF⟩ | ⟨_, hF⟩
      · rw [hF, T.get_set, if_neg (by omega)]; exact h2
      · rw [hF]; exact h2
  · intro a b' k hg hk
    rw [T.get_set] at hg
    by_cases ha : a = H.next
    · subst ha
      rw [Env.ext_self] at hk
      cases hk
      exact h.below.new (by omega)
    · simp only [ha, if_false] at hg
      exact h.live a b' k hg (hold a k ha hk)

end
end Go.Am
