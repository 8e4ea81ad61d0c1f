/- The abstract machine, part 41: what a call did once it does again, under other names. -/
import Derived.Test.YtkfoapjbfooneaaAm40
namespace Go.Am
open Go.RowKit

/-- What a call did: of a function, with these arguments, where these blocks were; what it returned, and new blocks. -/
structure Ent where
  f : FuncId
  args : List AV
  bs : List Lit
  v : AV
  next : Nat
  new : List (Nat × Lit)

def lits : List Lit → Nat → List ABlk
  | [], _ => []
  | b :: bs, i => b.blk i :: lits bs (i + 1)

def ones : List Lit → Nat → List (List Nat)
  | [], _ => []
  | _ :: bs, i => [i] :: ones bs (i + 1)

/-- A heap of these blocks and no others. -/
def heapOf (bs : List Lit) : Heap := { blks := T.ofList (lits bs 0) 0 .nil, next := bs.length, fams := T.ofList (ones bs 0) 0 .nil }

/-- A block is as a text has it. -/
def Same : ABlk → Lit → Prop
  | .cells t _ n c, .cells t' cs => t = t' ∧ n = cs.length ∧ ∀ i u, cs[i]? = some u → c.get i = some u
  | .map es k, .map es' k' => es = es' ∧ k = k'
  | _, _ => False

def addB (τ : Nat → Nat) : List (Nat × Lit) → T ABlk → T ABlk
  | [], t => t
  | (j, b) :: l, t => addB τ l (t.set (τ j) ((b.ren τ).blk (τ j)))

def addF (τ : Nat → Nat) : List (Nat × Lit) → T (List Nat) → T (List Nat)
  | [], t => t
  | (j, _) :: l, t => addF τ l (t.set (τ j) [τ j])

def Ent.heap (e : Ent) (τ : Nat → Nat) (H : Heap) : Heap := { blks := addB τ e.new H.blks, next := H.next + (e.next - e.bs.length), fams := addF τ e.new H.fams }

structure EntOk (A : AP) (P : Program) (e : Ent) : Prop where
  run : ∃ fr fr' H1, AFr.enter A e.f e.args .normal = some fr ∧ RetV A fr' H1 e.v ∧ Lz P ⟨fr, [], heapOf e.bs⟩ ⟨fr', [], H1⟩ ∧ H1.next = e.next ∧
    (∀ a b, e.bs[a]? = some b → ∃ b1, H1.blks.get a = some b1 ∧ Same b1 b) ∧
    ∀ j b, (j, b) ∈ e.new → e.bs.length ≤ j ∧ ∃ b1, H1.blks.get j = some b1 ∧ Same b1 b ∧ ∀ t f n c, b1 = .cells t f n c → H1.fams.get f = some [j]

structure UseOk (e : Ent) (τ : Nat → Nat) (args : List AV) (H : Heap) : Prop where
  args : rens τ e.args = args
  inj : ∀ a a', a < e.bs.length → a' < e.bs.length → τ a = τ a' → a = a'
  blk : ∀ a b, e.bs[a]? = some b → ∃ b1, H.blks.get (τ a) = some b1 ∧ Same b1 (b.ren τ) ∧ ∀ t f n c, b1 = .cells t f n c → H.fams.get f = some [τ a]
  big : ∀ a, e.bs.length ≤ a → τ a = H.next + (a - e.bs.length)

section
variable {m : Env} {A : AP} {E : Eqs} {P : Program}

theorem lits_get : ∀ (bs : List Lit) (i k : Nat), (lits bs i)[k]? = bs[k]?.map (Lit.blk (i + k))
  | [], _, _ => rfl
  | b :: bs, i, 0 => rfl
  | b :: bs, i, k + 1 => by
    simp only [lits, List.getElem?_cons_succ, lits_get bs (i + 1) k]
    rw [show i + 1 + k = i + (k + 1) from by omega]

theorem ones_get : ∀ (bs : List Lit) (i k : Nat), (ones bs i)[k]? = bs[k]?.map fun _ => [i + k]
  | [], _, _ => rfl
  | b :: bs, i, 0 => rfl
  | b :: bs, i, k + 1 => by
    simp only [ones, List.getElem?_cons_succ, ones_get bs (i + 1) k]
    rw [show i + 1 + k = i + (k + 1) from by omega]

theorem get_ofList1 {α : Type} (l : List α) (i : Nat) : (T.ofList l 0 .nil).get i = l[i]? := by
  rw [T.get_ofList]
  split
  · rw [Nat.sub_zero]
  · next h =>
    rw [T.get_nil, List.getElem?_eq_none]
    omega

theorem heapOf_blk (bs : List Lit) (a : Nat) : (heapOf bs).blks.get a = bs[a]?.map (Lit.blk a) := by
  simp only [heapOf, get_ofList1, lits_get, Nat.zero_add]

theorem heapOf_fam (bs : List Lit) (a : Nat) : (heapOf bs).fams.get a = bs[a]?.map fun _ => [a] := by
  simp only [heapOf, get_ofList1, ones_get, Nat.zero_add]

theorem Same.to {b1 : ABlk} {b : Lit} (h : Same b1 b) {a : Nat} {l : Loc} {o : Option Obj} (e : BR m b1 l o) : BR m (b.blk a) l o := by
  cases b1 <;> cases b <;> first
    | exact h.elim
    | skip
  · obtain ⟨rfl, rfl, h⟩ := h
    obtain ⟨arr, h1, h2, h3, h4⟩ := e
    refine ⟨arr, h1, h2, h3, fun i v hi => ?_⟩
    rw [get_ofList1] at hi
    exact h4 i v (h i v hi)
  · obtain ⟨rfl, rfl⟩ := h
    exact e

theorem Same.from {b1 : ABlk} {b : Lit} (h : Same b1 b) {m0 : Env} {l0 : Loc} {o0 : Option Obj} (e0 : BR m0 b1 l0 o0) {a : Nat} {l : Loc} {o : Option Obj} (e : BR m (b.blk a) l o) : BR m b1 l o := by
  cases b1 with
  | cells t f n c =>
    cases b with
    | cells t' cs =>
      obtain ⟨rfl, rfl, h⟩ := h
      obtain ⟨arr, h1, h2, h3, h4⟩ := e
      obtain ⟨_, _, _, _, k4⟩ := e0
      refine ⟨arr, h1, h2, h3, fun i v hi => ?_⟩
      obtain ⟨hlt, _⟩ := k4 i v hi
      have hc : cs[i]? = some (cs[i]'hlt) := List.getElem?_eq_getElem hlt
      have hg := h i _ hc
      rw [hi] at hg
      rw [← Option.some.inj hg] at hc
      exact h4 i v (by rw [get_ofList1]; exact hc)
    | map => exact h.elim
  | map es k =>
    cases b with
    | cells => exact h.elim
    | map es' k' =>
      obtain ⟨rfl, rfl⟩ := h
      exact e
  | loop => exact h.elim
  | dfr => exact h.elim

theorem addB_get (τ : Nat → Nat) : ∀ (l : List (Nat × Lit)) (t : T ABlk) (x : Nat) (b : ABlk), (addB τ l t).get x = some b →
    (∃ j lit, (j, lit) ∈ l ∧ x = τ j ∧ b = (lit.ren τ).blk x) ∨ t.get x = some b
  | [], _, _, _, h => .inr h
  | (j, lit) :: l, t, x, b, h => by
    rcases addB_get τ l _ x b h with ⟨j', lit', h1, h2, h3⟩ | h1
    · exact .inl ⟨j', lit', List.mem_cons_of_mem _ h1, h2, h3⟩
    · rw [T.get_set] at h1
      by_cases hx : x = τ j
      · rw [if_pos hx] at h1
        cases h1
        exact .inl ⟨j, lit, List.mem_cons_self .., hx, by rw [hx]⟩
      · rw [if_neg hx] at h1
        exact .inr h1

theorem addB_old (τ : Nat → Nat) : ∀ (l : List (Nat × Lit)) (t : T ABlk) (x : Nat), (∀ j lit, (j, lit) ∈ l → x ≠ τ j) → (addB τ l t).get x = t.get x
  | [], _, _, _ => rfl
  | (j, lit) :: l, t, x, h => by
    simp only [addB]
    rw [addB_old τ l _ x fun j' lit' hm => h j' lit' (List.mem_cons_of_mem _ hm), T.get_set, if_neg (h j lit (List.mem_cons_self ..))]

theorem addF_old (τ : Nat → Nat) : ∀ (l : List (Nat × Lit)) (t : T (List Nat)) (x : Nat), (∀ j lit, (j, lit) ∈ l → x ≠ τ j) → (addF τ l t).get x = t.get x
  | [], _, _, _ => rfl
  | (j, lit) :: l, t, x, h => by
    simp only [addF]
    rw [addF_old τ l _ x fun j' lit' hm => h j' lit' (List.mem_cons_of_mem _ hm), T.get_set, if_neg (h j lit (List.mem_cons_self ..))]

theorem addF_new (τ : Nat → Nat) : ∀ (l : List (Nat × Lit)) (t : T (List Nat)) (j : Nat) (lit : Lit), (j, lit) ∈ l ∨ t.get (τ j) = some [τ j] → (addF τ l t).get (τ j) = some [τ j]
  | [], _, _, _, h => by
    rcases h with h | h
    · cases h
    · exact h
  | (i, b) :: l, t, j, lit, h => by
    simp only [addF]
    refine addF_new τ l _ j lit ?_
    by_cases hij : τ j = τ i
    · right
      rw [T.get_set, if_pos hij, hij]
    · rcases h with h | h
      · rcases List.mem_cons.1 h with h | h
        · cases h
          exact absurd rfl hij
        · exact .inl h
      · right
        rw [T.get_set, if_neg hij]
        exact h

/-- The call does again what it did. -/
theorem use_ok (hA : A.Ok P) {e : Ent} (he : EntOk A P e) {τ : Nat → Nat} {args : List AV} {H : Heap} (hu : UseOk e τ args H) {fr : AFr} (hfr : AFr.enter A e.f args .normal = some fr) :
    Back P fr H (ren τ e.v) (e.heap τ H) := by
  obtain ⟨f0, f1, H1, r1, r2, r3, r4, r5, r6⟩ := he.run
  intro c cs c' hc B0 w0 Z m f fs base w hS
  obtain ⟨hSf, hScs, h⟩ := hS
  replace h : HR B0 w0 m H w := h
  replace hSf : FrR Z m fr f := hSf
  obtain ⟨y, ys, rfl, hy, hys⟩ := hScs
  have hn : (heapOf e.bs).next = e.bs.length := rfl
  have bsome : ∀ a, a < e.bs.length → ∃ b, e.bs[a]? = some b := fun a ha => ⟨_, List.getElem?_eq_getElem ha⟩
  have hlt : ∀ a, a < e.bs.length → τ a < H.next := by
    intro a ha
    obtain ⟨b, hb⟩ := bsome a ha
    obtain ⟨b1, h1, _⟩ := hu.blk a b hb
    obtain ⟨l, h2, _⟩ := h.blk _ _ h1
    exact (h.fresh _ _ h2).1
  have hm0 : ∀ a l, m (τ a) = some l → a < e.bs.length := by
    intro a l hl
    rcases Nat.lt_or_ge a e.bs.length with h1 | h1
    · exact h1
    · have := (h.fresh _ _ hl).1
      rw [hu.big a h1] at this
      omega
  -- the blocks that nobody looks at
  let B1 : Prot := { blk := fun k => k < w.heap.size ∧ ∀ a l, m (τ a) = some l → l.blk ≠ k, ids := fun _ => False }
  have hB : ∀ k, B0 k → B1 k := by
    intro k hk
    refine ⟨h.below.lt hk, fun a l hl hkl => ?_⟩
    obtain ⟨b, hb⟩ := bsome a (hm0 a l hl)
    obtain ⟨b1, h1, _⟩ := hu.blk a b hb
    exact h.live _ _ _ h1 hl (by rw [hkl]; exact hk)
  -- a block of the others that isn't kept apart is one of those that are looked at
  have hin : ∀ x b l, H.blks.get x = some b → m x = some l → ¬ B1 l.blk → ∃ a, a < e.bs.length ∧ x = τ a := by
    intro x b l hx hl hnb
    have : ∃ a l', m (τ a) = some l' ∧ l'.blk = l.blk := by
      refine Classical.byContradiction fun hno => hnb ⟨h.inb _ _ hl, fun a l' hl' hc => hno ⟨a, l', hl', hc⟩⟩
    obtain ⟨a, l', h1, h2⟩ := this
    have ha := hm0 a l' h1
    refine ⟨a, ha, ?_⟩
    obtain ⟨b0, hb0⟩ := bsome a ha
    obtain ⟨b1, k1, _, k3⟩ := hu.blk a b0 hb0
    rcases h.sep _ _ _ _ _ _ hx k1 hl h1 h2.symm with h3 | ⟨t, f', n', c0, t', n'', c0', e1, e2, _⟩
    · exact h3
    · obtain ⟨_, L, h5, h6⟩ := h.fam x t f' n' c0 (by rw [hx, e1])
      rw [k3 _ _ _ _ e2] at h5
      cases h5
      simpa using h6
  have hR0 : HR B1 w (fun a => m (τ a)) (heapOf e.bs) w := by
    refine ⟨.refl fun k hk => hk.1, fun a l hl => ⟨hm0 a l hl, fun hc => hc⟩, fun a l hl => h.inb _ _ hl, ?_, ?_, ?_, ?_, fun _ hc => hc.elim⟩
    · intro a b hb
      rw [heapOf_blk] at hb
      obtain ⟨b0, hb0, rfl⟩ := Option.map_eq_some_iff.1 hb
      obtain ⟨b1, k1, k2, _⟩ := hu.blk a b0 hb0
      obtain ⟨l, h1, h2⟩ := h.blk _ _ k1
      exact ⟨l, h1, BR.lit_unren (k2.to (a := a) h2)⟩
    · intro a a' b b' l l' hb hb' hl hl' hll
      rw [heapOf_blk] at hb hb'
      obtain ⟨b0, hb0, rfl⟩ := Option.map_eq_some_iff.1 hb
      obtain ⟨b0', hb0', rfl⟩ := Option.map_eq_some_iff.1 hb'
      obtain ⟨b1, k1, _, k3⟩ := hu.blk a b0 hb0
      obtain ⟨b1', k1', _, k3'⟩ := hu.blk a' b0' hb0'
      left
      refine hu.inj a a' (hm0 _ _ hl) (hm0 _ _ hl') ?_
      rcases h.sep _ _ _ _ _ _ k1 k1' hl hl' hll with h3 | ⟨t, f', n', c0, t', n'', c0', e1, e2, _⟩
      · exact h3
      · have q1 := k3 _ _ _ _ e1
        have q2 := k3' _ _ _ _ e2
        rw [q1] at q2
        simpa using q2
    · intro a t f' n' c0 hb
      rw [heapOf_blk] at hb
      obtain ⟨b0, hb0, hb1⟩ := Option.map_eq_some_iff.1 hb
      cases b0 with
      | cells t' cs =>
        simp only [Lit.blk, ABlk.cells.injEq] at hb1
        obtain ⟨_, rfl, _, _⟩ := hb1
        refine ⟨?_, [a], by rw [heapOf_fam, hb0]; rfl, by simp⟩
        rcases Nat.lt_or_ge a e.bs.length with h1 | h1
        · exact h1
        · rw [List.getElem?_eq_none h1] at hb0; cases hb0
      | map es k => simp only [Lit.blk] at hb1; cases hb1
    · intro a b l hb hl hc
      exact hc.2 a l hl rfl
  -- the frame, by the names of the call that was
  have hfe : ∃ fn, A.funcs.get e.f = some fn ∧ ∃ cd, fn.body = some cd ∧ fr = { fn := e.f, sz := args.length + (fn.ntmps - args.length), tmps := T.ofList args 0 .nil, todo := [.code cd], defers := [], mode := .run, kind := .normal, rnd := none } ∧
      f0 = { fn := e.f, sz := e.args.length + (fn.ntmps - e.args.length), tmps := T.ofList e.args 0 .nil, todo := [.code cd], defers := [], mode := .run, kind := .normal, rnd := none } := by
    unfold AFr.enter at hfr r1
    split at hfr
    · next fn hfn =>
      rw [hfn] at r1
      simp only [] at r1
      split at hfr
      · next cd hcd =>
        rw [hcd] at r1
        cases hfr
        cases r1
        exact ⟨fn, hfn, cd, hcd, rfl, rfl⟩
      · cases hfr
    · cases hfr
  obtain ⟨fn, hfn, cd, hcd, hfr', hf0⟩ := hfe
  have hlen : args.length = e.args.length := by rw [← hu.args, rens_length]
  have hN : FrN m fr f := hSf.own (by rw [hfr']; rfl)
  have hN0 : FrN (fun a => m (τ a)) f0 f := by
    obtain ⟨n1, n2, n3, n4, n5, n6, n7⟩ := hN
    rw [hfr'] at n1 n2 n3 n4 n5 n6 n7
    rw [hf0]
    refine ⟨n1, ⟨by rw [n2.1]; show args.length + (fn.ntmps - args.length) = _; rw [hlen], fun i v hi => ?_⟩, ?_, n4, n5, n6, n7⟩
    · simp only [get_ofList1] at hi
      obtain ⟨x, q1, q2⟩ := n2.2 i (ren τ v) (by simp only [get_ofList1]; rw [← hu.args, rens_get, hi]; rfl)
      exact ⟨x, q1, VR.unren _ _ q2⟩
    · exact n3
  obtain ⟨m1, g1, gs, w1, s1, s2, s3⟩ := r3 B1 w none (fun a => m (τ a)) f [] (y :: ys ++ base) w ⟨.inl hN0, rfl, hR0⟩
  obtain ⟨hgs, x, x1, x2, h1⟩ := afinal_ok hA s3 r2.kind r2.final
  subst hgs
  have hm1 : ∀ a, a < e.bs.length → m1 a = m (τ a) := by
    intro a ha
    obtain ⟨b, hb⟩ := bsome a ha
    obtain ⟨b1, k1, _⟩ := hu.blk a b hb
    obtain ⟨l, h2, _⟩ := h.blk _ _ k1
    rw [h2]
    exact s2 a l h2
  let m' : Env := fun x => if x < H.next then m x else m1 (x - H.next + e.bs.length)
  have hm' : ∀ a l, m1 a = some l → m' (τ a) = some l := by
    intro a l hl
    rcases Nat.lt_or_ge a e.bs.length with ha | ha
    · show (if τ a < H.next then m (τ a) else _) = some l
      rw [if_pos (hlt a ha), ← hm1 a ha]
      exact hl
    · show (if τ a < H.next then _ else m1 (τ a - H.next + e.bs.length)) = some l
      rw [hu.big a ha, if_neg (by omega), show H.next + (a - e.bs.length) - H.next + e.bs.length = a from by omega]
      exact hl
  have hle : m.le m' := by
    intro x l hl
    show (if x < H.next then m x else _) = some l
    rw [if_pos (h.fresh _ _ hl).1]
    exact hl
  have hnew : ∀ j b, (j, b) ∈ e.new → H.next ≤ τ j ∧ m' (τ j) = m1 j := by
    intro j b hj
    have := (r6 j b hj).1
    refine ⟨by rw [hu.big j this]; omega, ?_⟩
    show (if τ j < H.next then _ else m1 (τ j - H.next + e.bs.length)) = m1 j
    rw [hu.big j this, if_neg (by omega), show H.next + (j - e.bs.length) - H.next + e.bs.length = j from by omega]
  have hold : ∀ x, x < H.next → m' x = m x := fun x hx => if_pos hx
  have hget : ∀ x b, (e.heap τ H).blks.get x = some b → (x < H.next ∧ H.blks.get x = some b) ∨ (∃ j lit, (j, lit) ∈ e.new ∧ x = τ j ∧ b = (lit.ren τ).blk x) := by
    intro x b hb
    rcases addB_get τ _ _ _ _ hb with hb | hb
    · exact .inr hb
    · obtain ⟨l, hl, _⟩ := h.blk _ _ hb
      exact .inl ⟨(h.fresh _ _ hl).1, hb⟩
  have hkeep1 : Keep B1 w w1 := h1.below
  have hkeep : Keep B0 w0 w1 :=
    ⟨hkeep1.os.trans h.below.os, hkeep1.tape.trans h.below.tape, hkeep1.output.trans h.below.output, Nat.le_trans h.below.size hkeep1.size, fun k hk => (hkeep1.block k (hB k hk)).trans (h.below.block k hk), h.below.there,
      fun a => (hkeep1.froz a).trans (h.below.froz a)⟩
  have hnext : (e.heap τ H).next = H.next + (e.next - e.bs.length) := rfl
  have hR : HR B0 w0 m' (e.heap τ H) w1 := by
    refine ⟨hkeep, ?_, ?_, ?_, ?_, ?_, ?_, ?_⟩
    · intro a l hl
      by_cases ha : a < H.next
      · rw [hold a ha] at hl
        have := h.fresh _ _ hl
        exact ⟨by rw [hnext]; omega, this.2⟩
      · have hl' : m1 (a - H.next + e.bs.length) = some l := by
          have : m' a = m1 (a - H.next + e.bs.length) := if_neg ha
          rw [← this]; exact hl
        have := (h1.fresh _ _ hl').1
        rw [r4] at this
        exact ⟨by rw [hnext]; omega, fun hc => ha (h.idsb a hc)⟩
    · intro a l hl
      by_cases ha : a < H.next
      · rw [hold a ha] at hl
        have := h.inb _ _ hl
        have := hkeep1.size
        omega
      · have hl' : m1 (a - H.next + e.bs.length) = some l := by
          have : m' a = m1 (a - H.next + e.bs.length) := if_neg ha
          rw [← this]; exact hl
        exact h1.inb _ _ hl'
    · intro x b hb
      rcases hget x b hb with ⟨hx, hb⟩ | ⟨j, lit, hj, rfl, rfl⟩
      · obtain ⟨l, hl, hbr⟩ := h.blk x b hb
        refine ⟨l, by rw [hold x hx]; exact hl, ?_⟩
        by_cases hp : B1 l.blk
        · rw [hkeep1.block _ hp]
          exact hbr.mono hle
        · obtain ⟨a, ha, rfl⟩ := hin x b l hb hl hp
          obtain ⟨b0, hb0⟩ := bsome a ha
          obtain ⟨b1, k1, k2, _⟩ := hu.blk a b0 hb0
          rw [hb] at k1
          cases k1
          obtain ⟨b2, q1, q2⟩ := r5 a b0 hb0
          obtain ⟨l2, q3, q4⟩ := h1.blk a b2 q1
          rw [hm1 a ha, hl] at q3
          cases q3
          exact k2.from hbr (a := τ a) (BR.lit_ren (a' := τ a) hm' (q2.to (a := a) q4))
      · obtain ⟨_, b1, q1, q2, _⟩ := r6 j lit hj
        obtain ⟨l, q3, q4⟩ := h1.blk j b1 q1
        exact ⟨l, by rw [(hnew j lit hj).2]; exact q3, BR.lit_ren hm' (q2.to (a := j) q4)⟩
    · -- an old block and a new one lie apart
      have mixed : ∀ x b l j lit l', x < H.next → H.blks.get x = some b → m x = some l → (j, lit) ∈ e.new → m1 j = some l' → l.blk = l'.blk → False := by
        intro x b l j lit l' hx hb hl hj hl' hll
        obtain ⟨hjn, b1, q1, q2, q3⟩ := r6 j lit hj
        have hnp : ¬ B1 l.blk := by rw [hll]; exact h1.live _ _ _ q1 hl'
        obtain ⟨a, ha, rfl⟩ := hin x b l hb hl hnp
        obtain ⟨b0, hb0⟩ := bsome a ha
        obtain ⟨b2, p1, p2⟩ := r5 a b0 hb0
        rcases h1.sep _ _ _ _ _ _ p1 q1 (by rw [hm1 a ha]; exact hl) hl' hll with h3 | ⟨t, f', n', c0, t', n'', c0', e1, e2, _⟩
        · omega
        · obtain ⟨_, L, h5, h6⟩ := h1.fam a t f' n' c0 (by rw [p1, e1])
          rw [q3 _ _ _ _ e2] at h5
          cases h5
          have : a = j := by simpa using h6
          omega
      intro x x' b b' l l' hb hb' hl hl' hll
      rcases hget x b hb with ⟨hx, hb0⟩ | ⟨j, lit, hj, rfl, rfl⟩
      · rcases hget x' b' hb' with ⟨hx', hb0'⟩ | ⟨j', lit', hj', rfl, rfl⟩
        · rw [hold x hx] at hl
          rw [hold x' hx'] at hl'
          exact h.sep _ _ _ _ _ _ hb0 hb0' hl hl' hll
        · rw [hold x hx] at hl
          rw [(hnew j' lit' hj').2] at hl'
          exact (mixed _ _ _ _ _ _ hx hb0 hl hj' hl' hll).elim
      · rcases hget x' b' hb' with ⟨hx', hb0'⟩ | ⟨j', lit', hj', rfl, rfl⟩
        · rw [hold x' hx'] at hl'
          rw [(hnew j lit hj).2] at hl
          exact (mixed _ _ _ _ _ _ hx' hb0' hl' hj hl hll.symm).elim
        · rw [(hnew j lit hj).2] at hl
          rw [(hnew j' lit' hj').2] at hl'
          obtain ⟨_, b1, q1, q2, q3⟩ := r6 j lit hj
          obtain ⟨_, b1', q1', q2', q3'⟩ := r6 j' lit' hj'
          left
          rcases h1.sep _ _ _ _ _ _ q1 q1' hl hl' hll with h3 | ⟨t, f', n', c0, t', n'', c0', e1, e2, _⟩
          · rw [h3]
          · have p1 := q3 _ _ _ _ e1
            have p2 := q3' _ _ _ _ e2
            rw [p1] at p2
            have : j = j' := by simpa using p2
            rw [this]
    · intro a t f' n' c0 hb
      rcases hget a _ hb with ⟨hx, hb0⟩ | ⟨j, lit, hj, rfl, hb1⟩
      · obtain ⟨q1, L, q2, q3⟩ := h.fam a t f' n' c0 hb0
        refine ⟨by rw [hnext]; omega, L, ?_, q3⟩
        show (addF τ e.new H.fams).get f' = some L
        rw [addF_old τ _ _ _ fun j lit hj hc => ?_]
        · exact q2
        · have := (hnew j lit hj).1
          omega
      · cases lit with
        | cells t' cs' =>
          simp only [Lit.ren, Lit.blk, ABlk.cells.injEq] at hb1
          obtain ⟨_, rfl, _, _⟩ := hb1
          obtain ⟨hjn, b1, q1, q2, q3⟩ := r6 j _ hj
          obtain ⟨l, q4, _⟩ := h1.blk j b1 q1
          have := (h1.fresh _ _ q4).1
          rw [r4] at this
          refine ⟨by rw [hnext, hu.big j hjn]; omega, [τ j], addF_new τ _ _ j _ (.inl hj), by simp⟩
        | map es k => simp only [Lit.ren, Lit.blk] at hb1; cases hb1
    · intro a b l hb hl hc
      rcases hget a b hb with ⟨hx, hb0⟩ | ⟨j, lit, hj, rfl, rfl⟩
      · rw [hold a hx] at hl
        exact h.live _ _ _ hb0 hl hc
      · rw [(hnew j lit hj).2] at hl
        obtain ⟨_, b1, q1, _, _⟩ := r6 j lit hj
        exact h1.live _ _ _ q1 hl (hB _ hc)
    · intro a ha
      have := h.idsb a ha
      rw [hnext]
      omega
  have hv : VR m' (ren τ e.v) x := VR.ren hm' _ _ x2
  refine ⟨m', y.finish x, ys, w1, ?_, hle, fin_ok (hy.mono hle) hc hv, hys.mono hle, hR⟩
  refine Steps.trans s1 (.one ?_)
  exact step_leave_returned x1

end
end Go.Am
