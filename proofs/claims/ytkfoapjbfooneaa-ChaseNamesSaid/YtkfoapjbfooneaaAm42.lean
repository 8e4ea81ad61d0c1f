/- The abstract machine, part 42: a table of calls that were run once. -/
import Derived.Test.YtkfoapjbfooneaaAm41
namespace Go.Am
open Go.RowKit

mutual
/-- The blocks that a value names, ahead of others. -/
def names : AV → List Nat → List Nat
  | .ptr a _, l => a :: l
  | .sl a _ _ _, l => a :: l
  | .map a, l => a :: l
  | .fn _ a b, l => namess a (namess b l)
  | .yld a, l => a :: l
  | .ifc _ v, l => names v l
  | .agg vs, l => namess vs l
  | .tup vs, l => namess vs l
  | .bool _, l => l
  | .int _ _, l => l
  | .str _, l => l
  | .nilptr, l => l
  | .zptr, l => l
  | .nilsl, l => l
  | .nilmap, l => l
  | .nilfn, l => l
  | .nilifc, l => l
def namess : List AV → List Nat → List Nat
  | [], l => l
  | v :: vs, l => names v (namess vs l)
end

def namesE : List (AV × AV × Nat) → List Nat → List Nat
  | [], l => l
  | (k, v, _) :: es, l => names k (names v (namesE es l))

/-- The first cells of a block. -/
def cellsUp (c : T AV) : Nat → List AV → List AV
  | 0, l => l
  | n + 1, l => match c.get n with
    | some v => cellsUp c n (v :: l)
    | none => cellsUp c n l

def namesB : ABlk → List Nat
  | .cells _ _ n c => namess (cellsUp c n []) []
  | .map es _ => namesE es []
  | _ => []

/-- What is reached: each block's number in the order in which it is met first, and the blocks by this. -/
def reach (H : Heap) : Nat → List Nat → T Nat → T Nat → Nat → T Nat × T Nat × Nat
  | 0, _, inv, s, n => (inv, s, n)
  | f + 1, todo, inv, s, n => match todo with
    | [] => (inv, s, n)
    | a :: l => match inv.get a with
      | some _ => reach H f l inv s n
      | none => match H.blks.get a with
        | some b => reach H f (l ++ namesB b) (inv.set a n) (s.set n a) (n + 1)
        | none => (inv, s, n)

/-- The names of now of the names of then. -/
def tau (s : T Nat) (n0 next a : Nat) : Nat :=
  match Nat.blt a n0 with
  | true => (s.get a).getD 0
  | false => next + (a - n0)

def cellsSame (c : T AV) : List AV → Nat → Bool
  | [], _ => true
  | u :: us, i => match c.get i with
    | some v => match AV.beq v u with
      | true => cellsSame c us (i + 1)
      | false => false
    | none => false

def entsSame : List (AV × AV × Nat) → List (AV × AV × Nat) → Bool
  | [], [] => true
  | (k, v, n) :: es, (k', v', n') :: es' => AV.beq k k' && AV.beq v v' && Nat.beq n n' && entsSame es es'
  | _, _ => false

def same : ABlk → Lit → Bool
  | .cells t _ n c, .cells t' cs => Nat.beq t t' && Nat.beq n cs.length && cellsSame c cs 0
  | .map es k, .map es' k' => entsSame es es' && Nat.beq k k'
  | _, _ => false

/-- Is a block alone in its family? -/
def aloneB (H : Heap) (a : Nat) : ABlk → Bool
  | .cells _ f _ _ => match H.fams.get f with
    | some [x] => Nat.beq x a
    | _ => false
  | _ => true

def injOk (inv : T Nat) (τ : Nat → Nat) : Nat → Bool
  | 0 => true
  | a + 1 => match inv.get (τ a) with
    | some x => Nat.beq x a && injOk inv τ a
    | none => false

def blksOk (H : Heap) (τ : Nat → Nat) : List Lit → Nat → Bool
  | [], _ => true
  | b :: bs, a => match H.blks.get (τ a) with
    | some b1 => same b1 (b.ren τ) && aloneB H (τ a) b1 && blksOk H τ bs (a + 1)
    | none => false

def useOk (e : Ent) (inv : T Nat) (τ : Nat → Nat) (args : List AV) (H : Heap) : Bool :=
  AV.beqs (rens τ e.args) args && injOk inv τ e.bs.length && blksOk H τ e.bs 0

/-- One of some calls that were, or by what runs the function. -/
def kuse (es : List Ent) (inv s : T Nat) (n : Nat) (args : List AV) (H : Heap) (k : AV → Heap → KR) (els : Unit → KR) : KR :=
  match es with
  | [] => els ()
  | e :: es => match Nat.beq n e.bs.length with
    | true => match useOk e inv (tau s n H.next) args H with
      | true => fAV (ren (tau s n H.next) e.v) fun v => fHeap (e.heap (tau s n H.next) H) fun H => k v H
      | false => kuse es inv s n args H k els
    | false => kuse es inv s n args H k els

def ktab (tb : T (List Ent)) (B : KB) : KB :=
  { B with fn := fun f => match tb.get f with
    | none => B.fn f
    | some es => ⟨fun args H k => match reach H 200 (namess args []) .nil .nil 0 with
      | (inv, s, n) => kuse es inv s n args H k fun _ => (B.fn f).run args H k⟩ }

/-- The functions, to some depth of calls, by a table. -/
def klevT (A : AP) (E : Eqs) (L : Nat) (slow : T Unit) (tb : T (List Ent)) : Nat → KB
  | 0 => ⟨fun _ => ⟨fun _ _ _ => none⟩, fun _ _ _ _ => ⟨fun _ _ _ _ => none⟩, fun _ _ _ => none⟩
  | n + 1 => ktab tb ⟨kfn A E L slow (klevT A E L slow tb n), kround A E (klevT A E L slow tb n), drawR A E (mone A E (klevT A E L slow tb n).dr slow (klevT A E L slow tb n).fn L)⟩

def kmainT (A : AP) (E : Eqs) (L : Nat) (slow : T Unit) (tb : T (List Ent)) (n : Nat) (f : FuncId) : KR :=
  (kfn A E L slow (klevT A E L slow tb n) f).run [] emptyHeap fun v H => some (v, H)

def oldsOk (H : Heap) : List Lit → Nat → Bool
  | [], _ => true
  | b :: bs, a => match H.blks.get a with
    | some b1 => same b1 b && oldsOk H bs (a + 1)
    | none => false

def newsOk (H : Heap) (n0 : Nat) : List (Nat × Lit) → Bool
  | [] => true
  | (j, b) :: l => match H.blks.get j with
    | some b1 => Nat.ble n0 j && same b1 b && aloneB H j b1 && newsOk H n0 l
    | none => false

def entOk (e : Ent) (v : AV) (H : Heap) : Bool := AV.beq v e.v && Nat.beq H.next e.next && oldsOk H e.bs 0 && newsOk H e.bs.length e.new

/-- A call is run, and looked at. -/
def kent (A : AP) (E : Eqs) (L : Nat) (slow : T Unit) (tb : T (List Ent)) (n : Nat) (e : Ent) : KR :=
  fHeap (heapOf e.bs) fun H => (kfn A E L slow (klevT A E L slow tb n) e.f).run e.args H fun v H => match entOk e v H with
    | true => some (.bool true, emptyHeap)
    | false => none

section
variable {A : AP} {E : Eqs} {P : Program} {B : KB} {slow : T Unit}

theorem cellsSame_ok (c : T AV) : ∀ (us : List AV) (i : Nat), cellsSame c us i = true → ∀ k u, us[k]? = some u → c.get (i + k) = some u
  | [], _, _, _, _, hu => by simp at hu
  | u :: us, i, h, k, u', hu => by
    simp only [cellsSame] at h
    split at h
    case h_2 => cases h
    next v hv =>
    split at h
    case h_2 => cases h
    next hb =>
    cases k with
    | zero =>
      simp only [List.getElem?_cons_zero, Option.some.injEq] at hu
      subst hu
      rw [Nat.add_zero, hv, AV.beq_eq _ _ hb]
    | succ k =>
      rw [List.getElem?_cons_succ] at hu
      have := cellsSame_ok c us (i + 1) h k u' hu
      rw [show i + (k + 1) = i + 1 + k from by omega]
      exact this

theorem entsSame_ok : ∀ (a b : List (AV × AV × Nat)), entsSame a b = true → a = b
  | [], [], _ => rfl
  | [], _ :: _, h => by cases h
  | _ :: _, [], h => by cases h
  | (k, v, n) :: es, (k', v', n') :: es', h => by
    simp only [entsSame, Bool.and_eq_true] at h
    obtain ⟨⟨⟨h1, h2⟩, h3⟩, h4⟩ := h
    rw [AV.beq_eq _ _ h1, AV.beq_eq _ _ h2, Nat.eq_of_beq_eq_true h3, entsSame_ok es es' h4]

theorem same_ok {b1 : ABlk} {b : Lit} (h : same b1 b = true) : Same b1 b := by
  cases b1 <;> cases b <;> simp only [same, Bool.false_eq_true, Bool.and_eq_true] at h
  · obtain ⟨⟨h1, h2⟩, h3⟩ := h
    exact ⟨Nat.eq_of_beq_eq_true h1, Nat.eq_of_beq_eq_true h2, fun i u hu => by
      have := cellsSame_ok _ _ 0 h3 i u hu
      rwa [Nat.zero_add] at this⟩
  · obtain ⟨h1, h2⟩ := h
    exact ⟨entsSame_ok _ _ h1, Nat.eq_of_beq_eq_true h2⟩

theorem aloneB_ok {H : Heap} {a : Nat} {b : ABlk} (h : aloneB H a b = true) : ∀ t f n c, b = .cells t f n c → H.fams.get f = some [a] := by
  intro t f n c e
  subst e
  simp only [aloneB] at h
  split at h
  · next x hx => rw [hx, Nat.eq_of_beq_eq_true h]
  · cases h

theorem injOk_ok {inv : T Nat} {τ : Nat → Nat} : ∀ (n : Nat), injOk inv τ n = true → ∀ a, a < n → inv.get (τ a) = some a
  | 0, _, a, ha => absurd ha (by omega)
  | n + 1, h, a, ha => by
    simp only [injOk] at h
    split at h
    case h_2 => cases h
    next x hx =>
    simp only [Bool.and_eq_true] at h
    rcases Nat.lt_or_ge a n with h1 | h1
    · exact injOk_ok n h.2 a h1
    · have : a = n := by omega
      subst this
      rw [hx, Nat.eq_of_beq_eq_true h.1]

theorem blksOk_ok {H : Heap} {τ : Nat → Nat} : ∀ (bs : List Lit) (i : Nat), blksOk H τ bs i = true → ∀ k b, bs[k]? = some b →
    ∃ b1, H.blks.get (τ (i + k)) = some b1 ∧ Same b1 (b.ren τ) ∧ ∀ t f n c, b1 = .cells t f n c → H.fams.get f = some [τ (i + k)]
  | [], _, _, _, _, hb => by simp at hb
  | b :: bs, i, h, k, b', hb => by
    simp only [blksOk] at h
    split at h
    case h_2 => cases h
    next b1 hb1 =>
    simp only [Bool.and_eq_true] at h
    obtain ⟨⟨h1, h2⟩, h3⟩ := h
    cases k with
    | zero =>
      simp only [List.getElem?_cons_zero, Option.some.injEq] at hb
      subst hb
      exact ⟨b1, hb1, same_ok h1, aloneB_ok h2⟩
    | succ k =>
      rw [List.getElem?_cons_succ] at hb
      have := blksOk_ok bs (i + 1) h3 k b' hb
      rw [show i + (k + 1) = i + 1 + k from by omega]
      exact this

theorem useOk_ok {e : Ent} {inv s : T Nat} {args : List AV} {H : Heap} (h : useOk e inv (tau s e.bs.length H.next) args H = true) : UseOk e (tau s e.bs.length H.next) args H := by
  simp only [useOk, Bool.and_eq_true] at h
  obtain ⟨⟨h1, h2⟩, h3⟩ := h
  refine ⟨AV.beqs_eq _ _ h1, fun a a' ha ha' he => ?_, fun a b hb => ?_, fun a ha => ?_⟩
  · have k1 := injOk_ok _ h2 a ha
    have k2 := injOk_ok _ h2 a' ha'
    rw [he, k2] at k1
    exact (Option.some.inj k1).symm
  · have := blksOk_ok _ 0 h3 a b hb
    rwa [Nat.zero_add] at this
  · unfold tau
    rw [T.blt_false a _ (by omega)]

theorem kuse_ok (hA : A.Ok P) {f : FuncId} {inv s : T Nat} {n : Nat} {args : List AV} {H : Heap} {k : AV → Heap → KR} {els : Unit → KR} {r : AV × Heap} {fn : Func} {c : Code} (hfn : A.funcs.get f = some fn) (hc : fn.body = some c) :
    ∀ (es : List Ent), (∀ e, e ∈ es → e.f = f ∧ EntOk A P e) → kuse es inv s n args H k els = some r →
    els () = some r ∨ ∃ v H' fr, k v H' = some r ∧ AFr.enter A f args .normal = some fr ∧ Back P fr H v H'
  | [], _, h => .inl h
  | e :: es, he, h => by
    simp only [kuse] at h
    have ih := kuse_ok hA (inv := inv) (s := s) (n := n) (args := args) (H := H) (k := k) (els := els) (r := r) hfn hc es fun e' h' => he e' (List.mem_cons_of_mem _ h')
    split at h
    case h_2 => exact ih h
    next hn =>
    split at h
    case h_2 => exact ih h
    next hu =>
    have hn' := Nat.eq_of_beq_eq_true hn
    subst hn'
    simp only [fAV_eq, fHeap_eq] at h
    obtain ⟨hf, hE⟩ := he e (List.mem_cons_self ..)
    subst hf
    refine .inr ⟨_, _, _, h, by simp only [AFr.enter, hfn, hc]; rfl, use_ok hA hE (useOk_ok hu) (by simp only [AFr.enter, hfn, hc])⟩

/-- All entries of a table are right. -/
def TabOk (A : AP) (P : Program) (tb : T (List Ent)) : Prop :=
  ∀ f es, tb.get f = some es → (∃ fn c, A.funcs.get f = some fn ∧ fn.body = some c) ∧ ∀ e, e ∈ es → e.f = f ∧ EntOk A P e

theorem ktab_ok (hA : A.Ok P) {tb : T (List Ent)} (ht : TabOk A P tb) (hB : BOk A P B) : BOk A P (ktab tb B) := by
  refine ⟨fun f args H k r h => ?_, hB.rd, hB.dr⟩
  simp only [ktab] at h
  split at h
  · exact hB.fn f args H k r h
  · next es hes =>
    obtain ⟨⟨fn, c, hfn, hc⟩, he⟩ := ht f es hes
    rcases kuse_ok hA hfn hc es he h with h1 | h1
    · exact hB.fn f args H k r h1
    · exact h1

theorem klevT_ok (hA : A.Ok P) (hE : E.Ok P) (hP : P.follows .mixedOrders = true) {tb : T (List Ent)} (ht : TabOk A P tb) {L : Nat} : ∀ n, BOk A P (klevT A E L slow tb n)
  | 0 => ⟨fun _ _ _ _ _ h => (by cases h), fun _ _ _ _ _ _ _ _ _ h => (by cases h), noD_ok⟩
  | n + 1 => by
    have ih := klevT_ok hA hE hP ht (L := L) n
    refine ktab_ok hA ht ⟨fun f args H k r h => ?_, fun f sz asg body l t H k r h => kround_ok hA hE hP ih h, drawR_ok hA hE hP (mone_rok hA hE ih ih.dr L)⟩
    obtain ⟨v, H', fr, fr', h1, h2, h3, _, h4⟩ := kfn_ok hA hE hP ih h
    exact ⟨v, H', fr, h1, h2, h3.back hA hE h4⟩

theorem kmainT_keep (hA : A.Ok P) (hE : E.Ok P) (hP : P.follows .mixedOrders = true) {tb : T (List Ent)} (ht : TabOk A P tb) {L n : Nat} {f : FuncId} {b : Bool} {H : Heap}
    (h : kmainT A E L slow tb n f = some (.bool b, H)) (w : World) : Calls P f #[] w fun e w' => e = .returned (.bool b) ∧ Kept w w' := by
  obtain ⟨v, H', fr, fr', h1, h2, h3, h4, h5⟩ := kfn_ok hA hE hP (klevT_ok hA hE hP ht n) h
  cases h1
  exact calls_keep hA h2 h5.leads h4 h3.kind h3.final w

theorem kmainT_ok (hA : A.Ok P) (hE : E.Ok P) (hP : P.follows .mixedOrders = true) {tb : T (List Ent)} (ht : TabOk A P tb) {L n : Nat} {f : FuncId} {b : Bool} {H : Heap}
    (h : kmainT A E L slow tb n f = some (.bool b, H)) (w : World) : Calls P f #[] w fun e w' => e = .returned (.bool b) ∧ Grown w w' := by
  obtain ⟨v, H', fr, fr', h1, h2, h3, h4, h5⟩ := kfn_ok hA hE hP (klevT_ok hA hE hP ht n) h
  cases h1
  exact calls_of hA h2 h5.leads h4 h3.kind h3.final w

theorem oldsOk_ok {H : Heap} : ∀ (bs : List Lit) (i : Nat), oldsOk H bs i = true → ∀ k b, bs[k]? = some b → ∃ b1, H.blks.get (i + k) = some b1 ∧ Same b1 b
  | [], _, _, _, _, hb => by simp at hb
  | b :: bs, i, h, k, b', hb => by
    simp only [oldsOk] at h
    split at h
    case h_2 => cases h
    next b1 hb1 =>
    simp only [Bool.and_eq_true] at h
    cases k with
    | zero =>
      simp only [List.getElem?_cons_zero, Option.some.injEq] at hb
      subst hb
      exact ⟨b1, hb1, same_ok h.1⟩
    | succ k =>
      rw [List.getElem?_cons_succ] at hb
      have := oldsOk_ok bs (i + 1) h.2 k b' hb
      rw [show i + (k + 1) = i + 1 + k from by omega]
      exact this

theorem newsOk_ok {H : Heap} {n0 : Nat} : ∀ (l : List (Nat × Lit)), newsOk H n0 l = true → ∀ j b, (j, b) ∈ l → n0 ≤ j ∧ ∃ b1, H.blks.get j = some b1 ∧ Same b1 b ∧ ∀ t f n c, b1 = .cells t f n c → H.fams.get f = some [j]
  | [], _, _, _, hm => by cases hm
  | (j, b) :: l, h, j', b', hm => by
    simp only [newsOk] at h
    split at h
    case h_2 => cases h
    next b1 hb1 =>
    simp only [Bool.and_eq_true] at h
    obtain ⟨⟨⟨h1, h2⟩, h3⟩, h4⟩ := h
    rcases List.mem_cons.1 hm with hm | hm
    · cases hm
      exact ⟨Nat.le_of_ble_eq_true h1, b1, hb1, same_ok h2, aloneB_ok h3⟩
    · exact newsOk_ok l h4 j' b' hm

theorem kent_ok (hA : A.Ok P) (hE : E.Ok P) (hP : P.follows .mixedOrders = true) {tb : T (List Ent)} (ht : TabOk A P tb) {L n : Nat} {e : Ent} (h : (kent A E L slow tb n e).isSome = true) : EntOk A P e := by
  obtain ⟨r, hr⟩ := Option.isSome_iff_exists.1 h
  simp only [kent, fHeap_eq] at hr
  obtain ⟨v, H', fr, fr', h1, h2, h3, h4, h5⟩ := kfn_ok hA hE hP (klevT_ok hA hE hP ht n) hr
  simp only [] at h1
  split at h1
  case h_2 => cases h1
  next hk =>
  simp only [entOk, Bool.and_eq_true] at hk
  obtain ⟨⟨⟨k1, k2⟩, k3⟩, k4⟩ := hk
  have hv := AV.beq_eq _ _ k1
  subst hv
  exact ⟨fr, fr', H', h2, h3, h5, Nat.eq_of_beq_eq_true k2, fun a b hb => by
    have := oldsOk_ok _ 0 k3 a b hb
    rwa [Nat.zero_add] at this, newsOk_ok _ k4⟩

/-- A table is added to. -/
theorem TabOk.nil : TabOk A P .nil := fun f es h => by rw [T.get_nil] at h; cases h

theorem TabOk.set {tb : T (List Ent)} (ht : TabOk A P tb) {f : FuncId} {es : List Ent} {fn : Func} {c : Code} (hfn : A.funcs.get f = some fn) (hc : fn.body = some c) (he : ∀ e, e ∈ es → e.f = f ∧ EntOk A P e) : TabOk A P (tb.set f es) := by
  intro g es' h
  rw [T.get_set] at h
  split at h
  · next hg =>
    cases h
    subst hg
    exact ⟨⟨fn, c, hfn, hc⟩, he⟩
  · exact ht g es' h

end
end Go.Am
