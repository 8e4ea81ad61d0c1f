/- The abstract machine, part 28: one operation of a region, whatever has come before it. -/
import Derived.Test.YtkfoapjbfooneaaAm27
namespace Go.Am
open Go.RowKit

section
variable {A : AP} {E : Eqs} {R : Runner} {a : AFr} {all : List Oper} {an : T Nat} {st : Nat → DSt}
variable {B0 : Prot} {w0 : World} {m : Env} {Dn : Nat → Prop} {k : Nat} {arr : Array Value} {w : World}

theorem low_le (h : Tr A E R a all an st) (I : Inv A a all an st B0 w0 m Dn k arr w) {i : Nat} (hanc : ∀ j, (anc an i).testBit j = true → Dn j) :
    ∀ (os : List Oper) (p c : Nat), all.drop p = os → c ≤ (st p).lev → c ≤ k → lowOf an i os p c ≤ k
  | [], p, c, _, _, hc => hc
  | o :: os, p, c, hos, hc1, hc2 => by
    have hlt : p < all.length := by
      rcases Nat.lt_or_ge p all.length with h1 | h1
      · exact h1
      · rw [List.drop_eq_nil_of_le h1] at hos; cases hos
    have hdr := List.drop_eq_getElem_cons hlt
    rw [hos] at hdr
    simp only [List.cons.injEq] at hdr
    obtain ⟨hd1, hd2⟩ := hdr
    have ho : all[p]? = some o := by rw [List.getElem?_eq_getElem hlt, hd1]
    have hmono := h.lev_le p (p + 1) (by omega) hlt
    simp only [lowOf]
    split
    · exact low_le h I hanc os (p + 1) c hd2.symm (by omega) hc2
    · exact low_le h I hanc os (p + 1) c hd2.symm (by omega) hc2
    · next hk =>
      have hlt2 := h.lev_lt ho hk (show p < p + 1 by omega) hlt
      split
      · next hb =>
        have := (I.rank p o ho hk).1 (hanc p hb)
        exact low_le h I hanc os (p + 1) (c + 1) hd2.symm (by omega) (by omega)
      · exact low_le h I hanc os (p + 1) c hd2.symm (by omega) hc2

theorem high_ge (h : Tr A E R a all an st) (I : Inv A a all an st B0 w0 m Dn k arr w) {i : Nat} (hn : ¬ Dn i) :
    ∀ (os : List Oper) (p c : Nat), all.drop p = os → p ≤ all.length → (k ≤ c ∨ (st p).lev ≤ c) → k ≤ highOf an i os p c
  | [], p, c, hos, hp, hc => by
    have hp2 : all.length ≤ p := by simpa using hos
    have hpe : p = all.length := by omega
    subst hpe
    have := I.kle
    simp only [highOf]
    omega
  | o :: os, p, c, hos, hp, hc => by
    have hlt : p < all.length := by
      rcases Nat.lt_or_ge p all.length with h1 | h1
      · exact h1
      · rw [List.drop_eq_nil_of_le h1] at hos; cases hos
    have hdr := List.drop_eq_getElem_cons hlt
    rw [hos] at hdr
    simp only [List.cons.injEq] at hdr
    obtain ⟨hd1, hd2⟩ := hdr
    have ho : all[p]? = some o := by rw [List.getElem?_eq_getElem hlt, hd1]
    obtain ⟨v, hds⟩ := h.step p o ho
    simp only [highOf]
    split
    · next hk =>
      have hl : (st (p + 1)).lev = (st p).lev := by
        rcases hds.lev with h1 | h1
        · rw [hk] at h1; cases h1.1
        · exact h1.2
      exact high_ge h I hn os (p + 1) c hd2.symm hlt (by omega)
    · next hk =>
      have hl : (st (p + 1)).lev = (st p).lev := by
        rcases hds.lev with h1 | h1
        · rw [hk] at h1; cases h1.1
        · exact h1.2
      exact high_ge h I hn os (p + 1) c hd2.symm hlt (by omega)
    · next hk =>
      have hl : (st (p + 1)).lev = (st p).lev + 1 := by
        rcases hds.lev with h1 | h1
        · exact h1.2
        · exact absurd hk h1.1
      split
      · next hb =>
        have h1 : ¬ Dn p := fun hc => hn ((I.down p hc).2 i hb)
        have h2 : ¬ (st p).lev < k := fun hc => h1 ((I.rank p o ho hk).2 hc)
        exact high_ge h I hn os (p + 1) c hd2.symm hlt (by omega)
      · exact high_ge h I hn os (p + 1) (c + 1) hd2.symm hlt (by omega)

/-- An operation that lays no block that waits. -/
theorem Inv.same (h : Tr A E R a all an st) (I : Inv A a all an st B0 w0 m Dn k arr w) {i : Nat} {o : Oper} (ho : all[i]? = some o) (hn : ¬ Dn i)
    (hanc : ∀ j, (anc an i).testBit j = true → Dn j) {v : AV} (hd : DS A E R a all an i o (st i) (st (i + 1)) v) {m' : Env} {x : Value} {w' : World} {k' : Nat}
    (hle : m.le m') (hx : VR m' v x) (hk : (kin o.op = .loud ∧ k' = k + 1) ∨ (kin o.op ≠ .loud ∧ k' = k)) (hN : ∀ r b, ¬ New A a all st i r b)
    (hL : ∀ j, Laid all an st k j → Laid all an st k' j) {H' : Heap} (hH : (st all.length).Hs.get k' = some H') (hr : HR (PB A a all an st B0 Dn k' m) w m' H' w') :
    Inv A a all an st B0 w0 m' (fun j => Dn j ∨ j = i) k' (putArr arr o.dst x) w' := by
  have old : ∀ i' r b, New A a all st i' r b → (Dn i' ∨ i' = i) → ¬ Laid all an st k' i' → Dn i' ∧ ¬ Laid all an st k i' := by
    intro i' r b h1 h2 h3
    rcases h2 with h2 | rfl
    · exact ⟨h2, fun hc => h3 (hL _ hc)⟩
    · exact absurd h1 (hN _ _)
  have same : ∀ i' r b l, New A a all st i' r b → (Dn i' ∨ i' = i) → ¬ Laid all an st k' i' → m' r = some l → m r = some l := by
    intro i' r b l h1 h2 h3 h4
    obtain ⟨q1, q2⟩ := old i' r b h1 h2 h3
    obtain ⟨l0, p1, _⟩ := I.pend i' r b h1 q1 q2
    have := hle _ _ p1
    rw [h4] at this
    cases this
    exact p1
  refine I.go h ho hn hanc hd hle hx hk ?_ ⟨H', hH, ?_⟩ ?_ ?_
  · exact I.keep.trans (hr.below.weaken fun q hq => .inl hq)
  · refine hr.here.weaken ?_ ?_
    · rintro q (hq | ⟨i', r, b, l, h1, h2, h3, h4, h5⟩)
      · exact .inl hq
      · exact .inr ⟨i', r, b, l, h1, (old i' r b h1 h2 h3).1, h3, same i' r b l h1 h2 h3 h4, h5⟩
    · rintro y (hy | ⟨i', b, h1, h2⟩)
      · exact .inl hy
      · exact .inr ⟨i', b, h1, fun hc => h2 (.inl hc)⟩
  · intro i' r b h1 h2 h3
    obtain ⟨q1, q2⟩ := old i' r b h1 h2 h3
    obtain ⟨l, p1, p2, p3, p4⟩ := I.pend i' r b h1 q1 q2
    refine ⟨l, hle _ _ p1, p2, ?_, p4⟩
    rw [hr.below.block l.blk (.inr ⟨i', r, b, l, h1, q1, h3, p1, rfl⟩)]
    exact p3.mono hle
  · intro i1 r b i' r' b' l l' h1 h2 h3 h4 h5 h6 h7 h8 h9
    obtain ⟨q1, q2⟩ := old i1 r b h1 h2 h3
    obtain ⟨q3, q4⟩ := old i' r' b' h4 h5 h6
    exact I.dist i1 r b i' r' b' l l' h1 q1 q2 h4 q3 q4 (same _ _ _ _ h1 h2 h3 h7) (same _ _ _ _ h4 h5 h6 h8) h9

theorem kin_quiet {o : Op} (h : kin o = .quiet) : quietOp o = true := by
  unfold kin at h
  split at h
  · assumption
  · split at h <;> cases h

theorem kin_new {o : Op} (h : kin o = .new) : newOp o = true := by
  unfold kin at h
  split at h
  · cases h
  · split at h
    · assumption
    · cases h

variable {P : Program} {f : Frame} {ops : Array Oper} {kk : List Item} {cs : List Frame}

/-- One operation. -/
theorem Inv.one (hA : A.Ok P) (hE : E.Ok P) (hR : ROk P R) (h : Tr A E R a all an st) (hrd : readsOk A E a an all (st all.length) all 0 = true)
    (hB : ∀ i r b, New A a all st i r b → ¬ B0.ids r) (I : Inv A a all an st B0 w0 m Dn k arr w) (hall : ops.toList = all) {i : Nat} {rest : List Nat} {o : Oper} (hops : ops[i]? = some o) (hn : ¬ Dn i)
    (hanc : ∀ j, (anc an i).testBit j = true → Dn j) (hfn : f.fn = a.fn) (hkind : f.kind = a.kind) (hrnd : RR m a.rnd f.roundOf) (hmode : f.mode = .run) :
    ∃ m' k' arr' w', Steps P (lone (atF f arr ops (i :: rest) kk) cs w) (lone (atF f arr' ops rest kk) cs w') ∧ m.le m' ∧ Inv A a all an st B0 w0 m' (fun j => Dn j ∨ j = i) k' arr' w' := by
  have ho : all[i]? = some o := by rw [← hall, Array.getElem?_toList]; exact hops
  obtain ⟨v, hd⟩ := h.step i o ho
  have hT := I.looked h ho hn hanc
  have hmode' : (atF f arr ops (i :: rest) kk).mode = .run := hmode
  obtain ⟨Hk, hHk, hHR⟩ := I.hr
  have skip : aguard all (restr (st i).t (looks all o)) o.guard = some false →
      Steps P (lone (atF f arr ops (i :: rest) kk) cs w) (lone (atF f (putArr arr o.dst undef) ops rest kk) cs w) ∧ (∀ r b, ¬ New A a all st i r b) ∧ ¬ Ran all st i o := by
    intro hg
    have hw := aguard_ok hall hT hg
    refine ⟨.one ?_, ?_, fun hc => by unfold Ran at hc; rw [hg] at hc; cases hc⟩
    · rw [← finish_atF hops]
      exact step_lone_go (by rw [stepG_run hmode', exec_unwanted (i := i) (is := rest) (k := kk) rfl hops hw]; rfl)
    · rintro r b ⟨o', _, k1, k2, _⟩
      rw [ho] at k1
      cases k1
      unfold Ran at k2
      rw [hg] at k2
      cases k2
  have hundef : VR m (.tup []) undef := by simp [VR, VRs, undef]
  rcases hd.is with c | c | c | c | c
  · obtain ⟨hg, hv, hk, _⟩ := c
    subst hv
    obtain ⟨s1, s2, s3⟩ := skip hg
    exact ⟨m, k, _, w, s1, m.le_refl, I.same h ho hn hanc hd m.le_refl hundef (.inr ⟨hk, rfl⟩) s2 (fun _ hj => hj) hHk hHR⟩
  · obtain ⟨hg, hv, hk, _, hH, _, _, hHs, hlev⟩ := c
    subst hv
    obtain ⟨s1, s2, s3⟩ := skip hg
    have hl := I.lev_eq h ho hk hn hanc
    have hHk' : (st all.length).Hs.get (k + 1) = some Hk := by
      have h1 := h.heap (i := i + 1) (lt_of_get ho)
      rw [hlev, hl, hH] at h1
      have h2 := h.heap (i := i) (Nat.le_of_lt (lt_of_get ho))
      rw [hl, hHk] at h2
      rw [h1, ← h2]
    refine ⟨m, k + 1, _, w, s1, m.le_refl, I.same h ho hn hanc hd m.le_refl hundef (.inl ⟨hk, rfl⟩) s2 (fun _ hj => hj.up) hHk' (hHR.weaken ?_ ?_)⟩
    · rintro q (hq | ⟨i', r, b, l, h1, h2, h3, h4, h5⟩)
      · exact .inl hq
      · exact .inr ⟨i', r, b, l, h1, h2, fun hc => h3 hc.up, h4, h5⟩
    · exact fun y hy => hy
  · obtain ⟨hg, hk, ⟨H1, hop⟩, hvs, _⟩ := c
    have hq := kin_quiet hk
    have hop' : ∃ H2, aop A E Hk { a with tmps := restr (st i).t (looks all o) }.ev o = some (.val v H2) := by
      cases hr : readOp o.op with
      | false => exact ⟨_, quiet_same hq hr hop⟩
      | true =>
        have h1 : (st all.length).vs.get (0 + i) = some v := by
          rw [Nat.zero_add, h.vs_eq (i := i + 1) _ (lt_of_get ho) (Nat.le_refl _) i (Nat.lt_succ_self i), hvs, T.get_set, if_pos rfl]
        have h2 := readsOk_ok all 0 hrd i o v ho hr h1
        rw [Nat.zero_add] at h2
        have h3 := low_le h I hanc all 0 0 rfl (Nat.zero_le _) (Nat.zero_le _)
        have h4 := high_ge h I hn all 0 0 rfl (Nat.zero_le _) (.inr (by rw [h.lev0]; exact Nat.le_refl _))
        obtain ⟨H2, H3, k1, k2⟩ := sameIn_ok _ _ h2 k h3 (by omega)
        rw [hHk] at k1
        cases k1
        rw [h.looks_eq ho hr]
        exact ⟨H3, k2⟩
    obtain ⟨H2, hop'⟩ := hop'
    have hH2 := quiet_heap hq hop'
    subst hH2
    have hw := aguard_ok hall hT hg
    have hO := aop_ok hA hE hHR (ev_ok (a := { a with tmps := restr (st i).t (looks all o) }) (f := atF f arr ops (i :: rest) kk) hT) hop'
    obtain ⟨x, m', w', r1, r2, r3, r4⟩ := hO
    have hndef : ∀ c, o.op ≠ .defer c := fun c hc => by rw [hc] at hq; cases hq
    refine ⟨m', k, _, w', .one ?_, r2, I.same (k' := k) h ho hn hanc hd r2 r3 (.inr ⟨by rw [hk]; simp, rfl⟩) ?_ (fun _ hj => hj) hHk r4⟩
    · rw [← finish_atF hops]
      exact step_lone_go (by rw [stepG_run hmode', exec_op (i := i) (is := rest) (k := kk) rfl hops hw (.inr hndef)]; exact apply_value r1)
    · rintro r b ⟨o', _, k1, _, k3, _⟩
      rw [ho] at k1
      cases k1
      rw [hk] at k3
      cases k3
  · obtain ⟨hg, hk, b, hnew, _⟩ := c
    have hw := aguard_ok hall hT hg
    have hnq := kin_new hk
    have hndef : ∀ c, o.op ≠ .defer c := fun c hc => by rw [hc] at hnq; cases hnq
    have hN : New A a all st i (st i).next b := ⟨o, v, ho, hg, hk, rfl, hnew⟩
    have hid : (PB A a all an st B0 Dn k m).ids (st i).next := .inr ⟨i, b, hN, hn⟩
    have hle : ∀ l, m.le (m.ext (st i).next l) := fun l => by
      have hnone : m (st i).next = none := by
        cases hm : m (st i).next with
        | none => rfl
        | some l' => exact absurd hid (hHR.fresh _ l' hm).2
      intro y z e
      rw [Env.ext_ne _ _ (fun hc => by subst hc; rw [hnone] at e; cases e)]
      exact e
    obtain ⟨x, ob, l, r1, r2, r3, r4, r5⟩ := anew_ok (w := w) hA (ev_ok (a := { a with tmps := restr (st i).t (looks all o) }) (f := atF f arr ops (i :: rest) kk) hT) hnew hle
    have case : ∀ i' r' b' l', New A a all st i' r' b' → (Dn i' ∨ i' = i) → (m.ext (st i).next l) r' = some l' → (i' = i ∧ r' = (st i).next ∧ l' = l) ∨ (Dn i' ∧ i' ≠ i ∧ m r' = some l') := by
      intro i' r' b' l' h1 h2 h3
      by_cases h4 : i' = i
      · subst h4
        obtain ⟨q1, _⟩ := h1.uniq hN
        subst q1
        rw [Env.ext_self] at h3
        cases h3
        exact .inl ⟨rfl, rfl, rfl⟩
      · have h5 : r' ≠ (st i).next := fun hc => by subst hc; exact h4 (h.new_inj h1 hN)
        rw [Env.ext_ne _ _ h5] at h3
        exact .inr ⟨h2.resolve_right h4, h4, h3⟩
    obtain ⟨k1, k2⟩ := hHR.wait (B1 := PB A a all an st B0 (fun j => Dn j ∨ j = i) k (m.ext (st i).next l)) hid ob l r2 (by
      rintro q (hq | ⟨i', r', b', l', h1, h2, h3, h4, h5⟩)
      · exact .inl (.inl hq)
      · rcases case i' r' b' l' h1 h2 h4 with ⟨_, _, c3⟩ | ⟨c1, _, c3⟩
        · subst c3
          exact .inr h5.symm
        · exact .inl (.inr ⟨i', r', b', l', h1, c1, h3, c3, h5⟩)) (by
      rintro y (hy | ⟨i', b', h1, h2⟩)
      · exact ⟨.inl hy, fun hc => hB i _ b hN (by rw [← hc]; exact hy)⟩
      · exact ⟨.inr ⟨i', b', h1, fun hc => h2 (.inl hc)⟩, fun hc => by subst hc; exact h2 (.inr (h.new_inj h1 hN))⟩)
    refine ⟨m.ext (st i).next l, k, _, w.alloc ob, .one ?_, k1, I.go h ho hn hanc hd k1 r3 (.inr ⟨by rw [hk]; simp, rfl⟩) (I.keep.alloc ob r4.cold) ⟨Hk, hHk, k2⟩ ?_ ?_⟩
    · rw [← finish_atF hops]
      exact step_lone_go (by rw [stepG_run hmode', exec_op (i := i) (is := rest) (k := kk) rfl hops hw (.inr hndef)]; exact apply_value r1)
    · intro i' r' b' h1 h2 h3
      by_cases h4 : i' = i
      · subst h4
        obtain ⟨q1, q2⟩ := h1.uniq hN
        subst q1 q2
        refine ⟨l, Env.ext_self _ _ _, I.keep.new (by omega), ?_, r5⟩
        rw [r2, heap_alloc_new]
        exact r4
      · obtain ⟨l', p1, p2, p3, p4⟩ := I.pend i' r' b' h1 (h2.resolve_right h4) h3
        refine ⟨l', k1 _ _ p1, p2, ?_, p4⟩
        rw [Below.heap_alloc _ _ _ (hHR.below.lt (.inr ⟨i', r', b', l', h1, h2.resolve_right h4, h3, p1, rfl⟩))]
        exact p3.mono k1
    · intro i1 r1' b1 i' r' b' l1 l' h1 h2 h3 h4 h5 h6 h7 h8 h9
      have small : ∀ i' r' b' l', New A a all st i' r' b' → Dn i' → ¬ Laid all an st k i' → m r' = some l' → l'.blk < w.heap.size :=
        fun i' r' b' l' h1 h2 h3 h4 => hHR.below.lt (.inr ⟨i', r', b', l', h1, h2, h3, h4, rfl⟩)
      rcases case i1 r1' b1 l1 h1 h2 h7 with ⟨c1, _, c3⟩ | ⟨c1, c2, c3⟩
      · rcases case i' r' b' l' h4 h5 h8 with ⟨e1, _, e3⟩ | ⟨e1, e2, e3⟩
        · rw [c1, e1]
        · have := small i' r' b' l' h4 e1 h6 e3
          rw [c3] at h9
          omega
      · rcases case i' r' b' l' h4 h5 h8 with ⟨e1, _, e3⟩ | ⟨e1, e2, e3⟩
        · have := small i1 r1' b1 l1 h1 c1 h3 c3
          rw [e3] at h9
          omega
        · exact I.dist i1 r1' b1 i' r' b' l1 l' h1 c1 h3 h4 e1 h6 c3 e3 h9
  · obtain ⟨hg, hk, hrun, _, _, _, _, hlev⟩ := c
    have hl := I.lev_eq h ho hk hn hanc
    have hHi : Hk = (st i).H := by
      have h2 := h.heap (i := i) (Nat.le_of_lt (lt_of_get ho))
      rw [hl, hHk] at h2
      exact Option.some.inj h2
    subst hHi
    obtain ⟨wt1, wt2⟩ := h.wait i (Nat.le_of_lt (lt_of_get ho))
    rw [hl] at wt1
    rw [parted_ok] at hrun
    have hes : ∀ e ∈ (st i).wait.filter (fun e => (anc an i).testBit e.1), New A a all st e.1 e.2.1 e.2.2 ∧ Dn e.1 ∧ ¬ Laid all an st k e.1 ∧ (anc an i).testBit e.1 = true := by
      intro e he
      obtain ⟨h1, h2⟩ := List.mem_filter.1 he
      obtain ⟨h3, _, h4⟩ := (wt1 e).1 h1
      exact ⟨h3, hanc _ h2, h4, h2⟩
    have hlay : HR (PB A a all an st B0 Dn (k + 1) m) w m (layAll ((st i).wait.filter (fun e => (anc an i).testBit e.1)) (st i).H) w := by
      refine layAll_ok _ hHR ?_ ?_ _ ?_ ?_
      · intro e he
        obtain ⟨h1, h2, h3, _⟩ := hes e he
        obtain ⟨l, p1, p2, p3, p4⟩ := I.pend _ _ _ h1 h2 h3
        exact ⟨l, p1, .inr ⟨_, _, _, l, h1, h2, h3, p1, rfl⟩, p3, p4⟩
      · refine List.Pairwise.imp_of_mem ?_ (wt2.filter _)
        intro e e' he he' hne l l' h1 h2 hc
        obtain ⟨q1, q2, q3, _⟩ := hes e he
        obtain ⟨q4, q5, q6, _⟩ := hes e' he'
        exact hne (I.dist _ _ _ _ _ _ l l' q1 q2 q3 q4 q5 q6 h1 h2 hc)
      · rintro q (hq | ⟨i', r, b, l, h1, h2, h3, h4, h5⟩)
        · refine ⟨.inl hq, fun e he l hl hc => ?_⟩
          obtain ⟨q1, q2, q3, _⟩ := hes e he
          obtain ⟨l0, p1, p2, _⟩ := I.pend _ _ _ q1 q2 q3
          rw [hl] at p1
          cases p1
          exact p2 (by rw [← hc]; exact hq)
        · have h3' : ¬ Laid all an st k i' := fun hc => h3 hc.up
          refine ⟨.inr ⟨i', r, b, l, h1, h2, h3', h4, h5⟩, fun e he l' hl' hc => ?_⟩
          obtain ⟨q1, q2, q3, q4⟩ := hes e he
          have := I.dist _ _ _ _ _ _ l l' h1 h2 h3' q1 q2 q3 h4 hl' (by rw [h5, hc])
          subst this
          refine h3 ?_
          rw [← hl]
          exact (h.laid ho hk).2 (.inr ⟨hg, q4⟩)
      · exact fun y hy => hy
    have hSR : SR (PB A a all an st B0 Dn (k + 1) m) w (some { f := { f with tmps := arr }, ops, i, rest, k := kk, mode := hmode }) m
        { fr := { a with tmps := restr (st i).t (looks all o), todo := [.one all o], defers := [], mode := .run }, cs := [], H := layAll ((st i).wait.filter (fun e => (anc an i).testBit e.1)) (st i).H }
        (atF f arr ops (i :: rest) kk) [] w :=
      ⟨.inr ⟨_, rfl, ⟨.inl ⟨o, by rw [← hall], hops, rfl, hT⟩, rfl, hfn, hkind, hrnd⟩⟩, rfl, hlay⟩
    obtain ⟨m', w', x, s1, s2, s3, s4⟩ := hR (base := cs) _ m (atF f arr ops (i :: rest) kk) [] w v _ hSR hrun
    have hfin : ({ ({ f with tmps := arr } : Frame) with todo := .inRegion ops (i :: rest) :: kk } : Frame).finish x = atF f (putArr arr o.dst x) ops rest kk := finish_atF (f := f) hops x
    simp only [hfin] at s1
    have hHk' : (st all.length).Hs.get (k + 1) = some (st (i + 1)).H := by
      have h1 := h.heap (i := i + 1) (lt_of_get ho)
      rw [hlev, hl] at h1
      exact h1
    refine ⟨m', k + 1, _, w', s1, s2, I.same h ho hn hanc hd s2 s3 (.inl ⟨hk, rfl⟩) ?_ (fun _ hj => hj.up) hHk' s4⟩
    rintro r b ⟨o', _, k1, _, k3, _⟩
    rw [ho] at k1
    cases k1
    rw [hk] at k3
    cases k3

end
end Go.Am
