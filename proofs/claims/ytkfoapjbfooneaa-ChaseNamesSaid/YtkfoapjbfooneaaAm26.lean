/- The abstract machine, part 26: operations that leave the heap; new blocks; one operation by itself. -/
import Derived.Test.YtkfoapjbfooneaaAm25
namespace Go.Am
open Go.RowKit

mutual
theorem AV.beq_eq : ∀ (a b : AV), AV.beq a b = true → a = b
  | .bool a, b, h => by cases b <;> simp_all [AV.beq]
  | .int j a, b, h => by cases b <;> simp_all [AV.beq]
  | .str a, b, h => by cases b <;> simp_all [AV.beq]
  | .ptr a o, b, h => by cases b <;> simp_all [AV.beq]
  | .nilptr, b, h => by cases b <;> simp_all [AV.beq]
  | .zptr, b, h => by cases b <;> simp_all [AV.beq]
  | .sl a o n c, b, h => by
    cases b <;> try (cases c <;> simp [AV.beq] at h; done)
    next a' o' n' c' => cases c <;> cases c' <;> simp_all [AV.beq]
  | .nilsl, b, h => by cases b <;> simp_all [AV.beq]
  | .map a, b, h => by cases b <;> simp_all [AV.beq]
  | .nilmap, b, h => by cases b <;> simp_all [AV.beq]
  | .fn f a c, b, h => by
    cases b <;> simp [AV.beq] at h
    next g d e =>
    obtain ⟨⟨h1, h2⟩, h3⟩ := h
    rw [h1, AV.beqs_eq a d h2, AV.beqs_eq c e h3]
  | .yld a, b, h => by cases b <;> simp_all [AV.beq]
  | .nilfn, b, h => by cases b <;> simp_all [AV.beq]
  | .ifc t a, b, h => by
    cases b <;> simp [AV.beq] at h
    next u d =>
    rw [h.1, AV.beq_eq a d h.2]
  | .nilifc, b, h => by cases b <;> simp_all [AV.beq]
  | .agg a, b, h => by
    cases b <;> simp [AV.beq] at h
    next d => rw [AV.beqs_eq a d h]
  | .tup a, b, h => by
    cases b <;> simp [AV.beq] at h
    next d => rw [AV.beqs_eq a d h]
theorem AV.beqs_eq : ∀ (a b : List AV), AV.beqs a b = true → a = b
  | [], b, h => by cases b <;> simp_all [AV.beqs]
  | x :: a, b, h => by
    cases b <;> simp [AV.beqs] at h
    next y b => rw [AV.beq_eq x y h.1, AV.beqs_eq a b h.2]
end

section
variable {A : AP} {E : Eqs} {ρ : Operand → Option AV}

theorem pure_quiet {H H1 : Heap} {x : Option AV} {v : AV} (e : (match x with | some v => some (AOut.val v H) | none => none) = some (.val v H1)) : H1 = H ∧ x = some v := by
  cases x with
  | none => cases e
  | some u => cases e; exact ⟨rfl, rfl⟩

theorem quiet_heap {H H1 : Heap} {o : Oper} {v : AV} (hq : quietOp o.op = true) (e : aop A E H ρ o = some (.val v H1)) : H1 = H := by
  unfold aop at e
  simp only [] at e
  cases ho : o.op <;> simp only [ho] at e hq <;> simp only [quietOp, Bool.false_eq_true] at hq <;>
    first
      | exact (pure_quiet e).1
      | ((repeat' split at e) <;> first | exact (pure_quiet e).1 | (cases e; rfl) | cases e)
      | skip
  case call c =>
    unfold acall at e
    split at e
    · cases e
    split at hq <;> simp only [*] at e
    · unfold abuiltin at e
      (repeat' split at e) <;> first | contradiction | (cases e; rfl) | cases e
    · unfold abuiltin at e
      (repeat' split at e) <;> first | contradiction | (cases e; rfl) | cases e
    · unfold abuiltin at e
      (repeat' split at e) <;> first | contradiction | (cases e; rfl) | cases e
    · cases hq

theorem quiet_same {H H' H1 : Heap} {o : Oper} {v : AV} (hq : quietOp o.op = true) (hr : readOp o.op = false) (e : aop A E H ρ o = some (.val v H1)) : aop A E H' ρ o = some (.val v H') := by
  have hH := quiet_heap hq e
  subst hH
  unfold aop at e ⊢
  simp only [] at e ⊢
  cases ho : o.op <;> simp only [ho] at e hq hr ⊢ <;> simp only [quietOp, Bool.false_eq_true] at hq <;> simp only [readOp, Bool.true_eq_false] at hr <;>
    first
      | (rw [(pure_quiet e).2]; done)
      | ((repeat' split at e) <;> simp_all <;> done)
      | skip
  case call c =>
    unfold acall at e ⊢
    cases hargs : aargs ρ c.args.toList with
    | none => simp [hargs] at e
    | some args =>
    simp only [hargs] at e ⊢
    split at hq
    · next hc => simp [hc] at hr
    · next hc =>
      simp only [hc] at e ⊢
      unfold abuiltin at e ⊢
      (repeat' split at e) <;> first | contradiction | (simp_all; done) | cases e
    · next hc =>
      simp only [hc] at e ⊢
      unfold abuiltin at e ⊢
      (repeat' split at e) <;> first | contradiction | (simp_all; done) | cases e
    · cases hq

theorem sameIn_ok {o : Oper} {v : AV} {Hs : T Heap} : ∀ (n k : Nat), sameIn A E ρ o v Hs k n = true → ∀ j, k ≤ j → j < k + n → ∃ H H1, Hs.get j = some H ∧ aop A E H ρ o = some (.val v H1)
  | 0, k, _, j, h1, h2 => by omega
  | n + 1, k, h, j, h1, h2 => by
    simp only [sameIn] at h
    split at h
    case h_2 => cases h
    next H hH =>
    split at h
    case h_2 => cases h
    next u H1 ho =>
    split at h
    case h_2 => cases h
    next hb =>
    rcases Nat.lt_or_ge k j with h3 | h3
    · exact sameIn_ok n (k + 1) h j (by omega) (by omega)
    · have : j = k := by omega
      subst this
      rw [AV.beq_eq u v hb] at ho
      exact ⟨H, H1, hH, ho⟩

theorem readsOk_ok {fr : AFr} {an : T Nat} {all : List Oper} {S : DSt} : ∀ (os : List Oper) (i : Nat), readsOk A E fr an all S os i = true → ∀ j o v, os[j]? = some o → readOp o.op = true → S.vs.get (i + j) = some v →
    sameIn A E { fr with tmps := restr S.t (looks all o) }.ev o v S.Hs (lowOf an (i + j) all 0 0) (highOf an (i + j) all 0 0 + 1 - lowOf an (i + j) all 0 0) = true
  | [], _, _, j, o, v, h => by simp at h
  | x :: os, i, hk, j, o, v, h => by
    intro hr hv
    simp only [readsOk] at hk
    cases j with
    | zero =>
      simp at h
      subst h
      simp only [Nat.add_zero] at hv ⊢
      split at hk
      · next u hr' hv' =>
        rw [hv] at hv'
        cases hv'
        split at hk
        · next hs => exact hs
        · cases hk
      · next hn => exact absurd hv (hn v hr)
    | succ j =>
      rw [show i + (j + 1) = i + 1 + j from by omega] at hv ⊢
      refine readsOk_ok os (i + 1) ?_ j o v (by simpa using h) hr hv
      split at hk
      · split at hk
        · exact hk
        · cases hk
      · exact hk

end

section
variable {m : Env} {w : World} {A : AP} {P : Program} {E : Eqs} {B0 B1 : Prot} {w0 w1 : World} {H : Heap}

theorem HR.weaken (h : HR B0 w0 m H w) (h1 : ∀ q, B1 q → B0 q) (h2 : ∀ a, B1.ids a → B0.ids a) : HR B1 w0 m H w :=
  ⟨⟨h.below.os, h.below.tape, h.below.output, h.below.size, fun k hk => h.below.block k (h1 k hk), fun k hk => h.below.there k (h1 k hk), h.below.froz⟩,
    fun a l e => ⟨(h.fresh a l e).1, fun hc => (h.fresh a l e).2 (h2 a hc)⟩, h.inb, h.blk, h.sep, h.fam, fun a b l e1 e2 hc => h.live a b l e1 e2 (h1 _ hc), fun a ha => h.idsb a (h2 a ha)⟩

/-- The same, told of another world at the start. -/
theorem HR.rebase (h : HR B0 w0 m H w) (hk : Keep B0 w1 w) : HR B0 w1 m H w := ⟨hk, h.fresh, h.inb, h.blk, h.sep, h.fam, h.live, h.idsb⟩

theorem HR.here (h : HR B0 w0 m H w) : HR B0 w m H w := h.rebase (.refl fun _ hk => h.below.lt hk)

theorem Keep.trans {w' : World} (h : Keep B0 w0 w) (h' : Keep B0 w w') : Keep B0 w0 w' :=
  ⟨h'.os.trans h.os, h'.tape.trans h.tape, h'.output.trans h.output, Nat.le_trans h.size h'.size, fun k hk => (h'.block k hk).trans (h.block k hk), h.there, fun a => (h'.froz a).trans (h.froz a)⟩

theorem Keep.weaken {w' : World} (h : Keep B0 w w') (h1 : ∀ q, B1 q → B0 q) : Keep B1 w w' :=
  ⟨h.os, h.tape, h.output, h.size, fun k hk => h.block k (h1 k hk), fun k hk => h.there k (h1 k hk), h.froz⟩

/-- A block that has waited is laid. -/
theorem HR.lay (h : HR B0 w0 m H w) {r : Nat} {b : ABlk} {l : Loc} (hl : m r = some l) (hB : B0 l.blk) (hb : BR m b l (w.heap[l.blk]?)) (hf : ∀ t f n c, b = .cells t f n c → f = r)
    (h1 : ∀ q, B1 q → B0 q ∧ q ≠ l.blk) (h2 : ∀ a, B1.ids a → B0.ids a) : HR B1 w0 m (H.lay r b) w := by
  have hw := h.weaken (fun q hq => (h1 q hq).1) h2
  have hblks : (H.lay r b).blks = H.blks.set r b := by unfold Heap.lay; split <;> rfl
  have hnext : (H.lay r b).next = H.next := by unfold Heap.lay; split <;> rfl
  have hne : ∀ a b' l', H.blks.get a = some b' → m a = some l' → l'.blk ≠ l.blk := fun a b' l' e1 e2 hc => h.live a b' l' e1 e2 (by rw [hc]; exact hB)
  have hnr : H.blks.get r = none := by
    cases hg : H.blks.get r with
    | none => rfl
    | some b' => exact absurd rfl (hne r b' l hg hl)
  refine ⟨hw.below, fun a k e => by rw [hnext]; exact hw.fresh a k e, hw.inb, ?_, ?_, ?_, ?_, fun a ha => by rw [hnext]; exact hw.idsb a ha⟩
  · intro a b' hg
    rw [hblks, T.get_set] at hg
    split at hg
    · next ha =>
      cases hg
      subst ha
      exact ⟨l, hl, hb⟩
    · exact h.blk a b' hg
  · intro a a' b1 b2 l1 l2 e1 e2 e3 e4 e5
    rw [hblks, T.get_set] at e1 e2
    by_cases ha : a = r
    · by_cases ha' : a' = r
      · exact .inl (by rw [ha, ha'])
      · rw [if_neg ha'] at e2
        subst ha
        rw [hl] at e3
        cases e3
        exact absurd e5.symm (hne a' b2 l2 e2 e4)
    · rw [if_neg ha] at e1
      by_cases ha' : a' = r
      · subst ha'
        rw [hl] at e4
        cases e4
        exact absurd e5 (hne a b1 l1 e1 e3)
      · rw [if_neg ha'] at e2
        exact h.sep a a' b1 b2 l1 l2 e1 e2 e3 e4 e5
  · intro a t f n c hg
    rw [hblks, T.get_set] at hg
    rw [hnext]
    by_cases ha : a = r
    · rw [if_pos ha] at hg
      cases hg
      have hfr := hf _ _ _ _ rfl
      subst hfr
      subst ha
      refine ⟨(h.fresh _ l hl).1, ?_⟩
      simp only [Heap.lay, T.get_set, if_true]
      exact ⟨_, rfl, by split <;> simp⟩
    · rw [if_neg ha] at hg
      obtain ⟨q1, L, q2, q3⟩ := h.fam a t f n c hg
      refine ⟨q1, ?_⟩
      unfold Heap.lay
      split
      · simp only [T.get_set]
        by_cases hfr : f = r
        · subst hfr
          rw [if_pos rfl, q2]
          exact ⟨_, rfl, by simp [q3]⟩
        · rw [if_neg hfr]
          exact ⟨L, q2, q3⟩
      · exact ⟨L, q2, q3⟩
  · intro a b' k hg hk hc
    rw [hblks, T.get_set] at hg
    by_cases ha : a = r
    · subst ha
      rw [hl] at hk
      cases hk
      exact (h1 _ hc).2 rfl
    · rw [if_neg ha] at hg
      exact h.live a b' k hg hk (h1 _ hc).1

theorem layAll_ok : ∀ (es : List (Nat × Nat × ABlk)) {H : Heap} {B0 : Prot}, HR B0 w0 m H w →
    (∀ e ∈ es, ∃ l, m e.2.1 = some l ∧ B0 l.blk ∧ BR m e.2.2 l (w.heap[l.blk]?) ∧ ∀ t f n c, e.2.2 = .cells t f n c → f = e.2.1) →
    es.Pairwise (fun e e' => ∀ l l', m e.2.1 = some l → m e'.2.1 = some l' → l.blk ≠ l'.blk) →
    ∀ (B1 : Prot), (∀ q, B1 q → B0 q ∧ ∀ e ∈ es, ∀ l, m e.2.1 = some l → q ≠ l.blk) → (∀ a, B1.ids a → B0.ids a) → HR B1 w0 m (layAll es H) w
  | [], H, B0, h, _, _, B1, h1, h2 => h.weaken (fun q hq => (h1 q hq).1) h2
  | (i, r, b) :: es, H, B0, h, he, hp, B1, h1, h2 => by
    obtain ⟨l, l1, l2, l3, l4⟩ := he _ (List.mem_cons_self ..)
    obtain ⟨p1, p2⟩ := List.pairwise_cons.1 hp
    simp only [layAll]
    refine layAll_ok es (B0 := { blk := fun q => B0 q ∧ q ≠ l.blk, ids := B0.ids }) (h.lay l1 l2 l3 l4 (fun q hq => hq) fun a ha => ha) (fun e hm => ?_) p2 B1 (fun q hq => ?_) h2
    · obtain ⟨l', k1, k2, k3⟩ := he e (List.mem_cons_of_mem _ hm)
      exact ⟨l', k1, ⟨k2, fun hc => p1 e hm l l' l1 k1 hc.symm⟩, k3⟩
    · obtain ⟨q1, q2⟩ := h1 q hq
      exact ⟨⟨q1, q2 _ (List.mem_cons_self ..) l l1⟩, fun e hm => q2 e (List.mem_cons_of_mem _ hm)⟩

/-- A new block is there, and waits. -/
theorem HR.wait (h : HR B0 w m H w) {r : Nat} (hr : B0.ids r) (o : Obj) (l : Loc) (hl : l.blk = w.heap.size) (h1 : ∀ q, B1 q → B0 q ∨ q = l.blk) (h2 : ∀ a, B1.ids a → B0.ids a ∧ a ≠ r) :
    m.le (m.ext r l) ∧ HR B1 (w.alloc o) (m.ext r l) H (w.alloc o) := by
  have hnone : m r = none := by
    cases hm : m r with
    | none => rfl
    | some l' => exact absurd hr (h.fresh r l' hm).2
  have hle : m.le (m.ext r l) := fun a k e => by
    rw [Env.ext_ne _ _ (fun hc => by subst hc; rw [hnone] at e; cases e)]
    exact e
  have hold : ∀ a k, a ≠ r → m.ext r l a = some k → m a = some k := fun a k ha e => by rwa [Env.ext_ne _ _ ha] at e
  have hnb : ∀ a b, H.blks.get a = some b → a ≠ r := fun a b hg hc => by
    subst hc
    obtain ⟨k, k1, _⟩ := h.blk a b hg
    rw [hnone] at k1
    cases k1
  refine ⟨hle, .refl fun q hq => ?_, ?_, ?_, ?_, ?_, h.fam, ?_, fun a ha => h.idsb a (h2 a ha).1⟩
  · rcases h1 q hq with hq | hq
    · have := h.below.lt hq
      simp
      omega
    · simp
      omega
  · intro a k e
    by_cases ha : a = r
    · subst ha
      exact ⟨h.idsb _ hr, fun hc => (h2 _ hc).2 rfl⟩
    · obtain ⟨q1, q2⟩ := h.fresh a k (hold a k ha e)
      exact ⟨q1, fun hc => q2 (h2 a hc).1⟩
  · intro a k e
    by_cases ha : a = r
    · subst ha
      rw [Env.ext_self] at e
      cases e
      simp
      omega
    · have := h.inb a k (hold a k ha e)
      simp
      omega
  · intro a b hg
    obtain ⟨k, k1, k2⟩ := h.blk a b hg
    refine ⟨k, hle _ _ k1, ?_⟩
    rw [Below.heap_alloc _ _ _ (h.inb a k k1)]
    exact k2.mono hle
  · intro a a' b1 b2 l1 l2 e1 e2 e3 e4 e5
    exact h.sep a a' b1 b2 l1 l2 e1 e2 (hold _ _ (hnb _ _ e1) e3) (hold _ _ (hnb _ _ e2) e4) e5
  · intro a b k e1 e2 hc
    have e3 := hold _ _ (hnb _ _ e1) e2
    rcases h1 _ hc with hq | hq
    · exact h.live a b k e1 e3 hq
    · have := h.inb a k e3
      omega

theorem BR.ofList {t : TypeId} {r : Nat} {vs : List AV} {xs : Array Value} (h : VRs m vs xs.toList) : BR m (.cells t r vs.length (T.ofList vs 0 .nil)) ⟨w.heap.size, 0, xs.size⟩ (some (.cells xs t)) := by
  have hlen := h.length
  refine ⟨xs, rfl, rfl, by simp at hlen; simp; omega, fun i v hi => ?_⟩
  rw [T.get_ofList] at hi
  split at hi
  · next hlt =>
    obtain ⟨x, x1, x2⟩ := h.get (i := i) (by simpa using hi)
    exact ⟨by omega, x, by simpa using x1, x2⟩
  · rw [T.get_nil] at hi
    cases hi

theorem anew_ok (hA : A.Ok P) {ρ : Operand → Option AV} {ρ' : Operand → Value} (hρ : ∀ x v, ρ x = some v → VR m v (ρ' x)) {o : Oper} {r : Nat} {v : AV} {b : ABlk} (e : anew A ρ r o.op = some (v, b)) (hle : ∀ l, m.le (m.ext r l)) :
    ∃ x ob l, (execOp ρ' o).run P w = .ok (.value x) (w.alloc ob) ∧ l.blk = w.heap.size ∧ VR (m.ext r l) v x ∧ BR (m.ext r l) b l (some ob) ∧ ∀ t f n c, b = .cells t f n c → f = r := by
  have newVar : ∀ (t : TypeId) (v : AV) (x : Value), VR m v x → (execOp ρ' o).run P w = .ok (.value (.pointer (some ⟨w.heap.size, 0, none⟩))) (w.alloc (.cells x.cells t)) →
      ∃ y ob l, (execOp ρ' o).run P w = .ok (.value y) (w.alloc ob) ∧ l.blk = w.heap.size ∧ VR (m.ext r l) (.ptr r 0) y ∧ BR (m.ext r l) (.cells t r v.cells.length (T.ofList v.cells 0 .nil)) l (some ob) ∧
        ∀ t' f n c, ABlk.cells t r v.cells.length (T.ofList v.cells 0 .nil) = .cells t' f n c → f = r := by
    intro t v x hv hrun
    refine ⟨_, _, ⟨w.heap.size, 0, x.cells.size⟩, hrun, rfl, ?_, (BR.ofList (w := w) hv.cells).mono (hle _), fun t' f n c hc => by cases hc; rfl⟩
    simp only [VR]
    exact ⟨_, Env.ext_self _ _ _, rfl⟩
  unfold anew at e
  split at e
  · next t ho =>
    split at e
    case h_2 => cases e
    next ti hti =>
    split at e
    case h_2 => cases e
    next z hz =>
    split at e
    case h_2 => cases e
    next u hu =>
    cases e
    exact newVar t u z (ofValue_ok hu) (by simp [execOp, ho, Instr.alloc, zeroValue, run_typeInfo' (hA.info _ _ hti), hz, Go.newVar, newRow])
  · next t x ho =>
    split at e
    case h_2 => cases e
    next u hu =>
    cases e
    exact newVar t u _ (hρ _ _ hu) (by simp [execOp, ho, Instr.box, Go.newVar, newRow])
  · next t len parts ho =>
    split at e
    case h_2 => cases e
    next ps hps =>
    split at e
    case h_2 => cases e
    next el cs hcs =>
    cases e
    have hpr := aparts_ok hρ _ _ hps
    obtain ⟨xs, x1, x2⟩ := abuildSlice_ok (w := w) hA hcs (ps := parts.map fun (i, x) => (i, ρ' x)) (by simpa using hpr)
    refine ⟨.slice (some ⟨w.heap.size, 0, none⟩) len len, .cells xs el, ⟨w.heap.size, 0, xs.size⟩, by simp only [execOp, ho, Sem.run_bind, x2]; rfl, rfl, ?_, (BR.ofList (w := w) x1).mono (hle _), fun t' f n c hc => by cases hc; rfl⟩
    simp only [VR]
    exact ⟨_, _, len, Env.ext_self _ _ _, rfl, Nat.le_refl _, rfl, by simp⟩
  · next t ho =>
    cases e
    refine ⟨.map (some w.heap.size), .map #[] 0, ⟨w.heap.size, 0, 0⟩, by simp [execOp, ho, Instr.makeMap], rfl, ?_, ⟨#[], rfl, rfl⟩, fun t' f n c hc => by cases hc⟩
    simp only [VR]
    exact ⟨_, Env.ext_self _ _ _, rfl⟩
  · cases e

/-- One operation by itself. -/
theorem arunOne_ok (hA : A.Ok P) (hE : E.Ok P) {D : Drawer} (hD : DSound P D) {Z : Lone} {base : List Frame} : ∀ (n : Nat) (S : ASt) (m : Env) (fr : Frame) (cs : List Frame) (w : World) (v : AV) (H' : Heap),
    SR B0 w0 (some Z) m S fr cs w → arunOne A E D n S = some (v, H') →
    ∃ m' w' x, Steps P (lone fr (cs ++ base) w) (lone (({ Z.f with todo := .inRegion Z.ops (Z.i :: Z.rest) :: Z.k } : Frame).finish x) base w') ∧ m.le m' ∧ VR m' v x ∧ HR B0 w0 m' H' w'
  | 0, _, _, _, _, _, _, _, _, e => by cases e
  | n + 1, S, m, fr, cs, w, v, H', h, e => by
    unfold arunOne at e
    split at e
    · next u hcs htd =>
      cases e
      have h2 := h.cs
      rw [hcs] at h2
      simp only [FrRs] at h2
      subst h2
      rcases h.fr with h1 | ⟨z, hz, h1⟩
      · have := h1.todo
        rw [htd] at this
        obtain ⟨y, ys, _, h3, _⟩ := this
        exact h3.elim
      · cases hz
        rcases h1.todo with ⟨o, h3, _⟩ | ⟨v', x, h3, h4, h5⟩
        · rw [htd] at h3
          cases h3
        · rw [htd] at h3
          cases h3
          exact ⟨m, w, x, by rw [← h5]; exact .refl _ _, m.le_refl, h4, h.H⟩
    · split at e
      case h_2 => cases e
      next S' hS =>
      rw [ASt.force_eq] at e
      obtain ⟨m1, fr1, cs1, w1, s1, s2, s3⟩ := astep_ok (base := base) hA hE hD h hS
      obtain ⟨m', w', x, r1, r2, r3, r4⟩ := arunOne_ok hA hE hD n S' m1 fr1 cs1 w1 v H' s3 e
      exact ⟨m', w', x, s1.trans r1, Env.le_trans s2 r2, r3, r4⟩

/-- What runs one operation by itself is right. -/
def ROk (P : Program) (R : Runner) : Prop :=
  ∀ {B0 : Prot} {w0 : World} {Z : Lone} {base : List Frame} (S : ASt) (m : Env) (fr : Frame) (cs : List Frame) (w : World) (v : AV) (H' : Heap),
    SR B0 w0 (some Z) m S fr cs w → R S = some (v, H') →
    ∃ m' w' x, Steps P (lone fr (cs ++ base) w) (lone (({ Z.f with todo := .inRegion Z.ops (Z.i :: Z.rest) :: Z.k } : Frame).finish x) base w') ∧ m.le m' ∧ VR m' v x ∧ HR B0 w0 m' H' w'

theorem arunOne_rok (hA : A.Ok P) (hE : E.Ok P) {D : Drawer} (hD : DSound P D) (n : Nat) : ROk P (arunOne A E D n) :=
  fun S m fr cs w v H' h e => arunOne_ok hA hE hD n S m fr cs w v H' h e

end
end Go.Am
