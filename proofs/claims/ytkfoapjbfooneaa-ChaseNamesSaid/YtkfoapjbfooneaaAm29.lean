/- The abstract machine, part 29: regions that draw their order. -/
import Derived.Test.YtkfoapjbfooneaaAm28
import Derived.Orders
namespace Go.Am
open Go.RowKit

theorem ready_spec {ops : Array Oper} {listed : Array Bool} {i : Nat} (h : i ∈ Region.ready .any ops listed) :
    i < ops.size ∧ listed.getD i true = false ∧ ∃ o, ops[i]? = some o ∧ ∀ e ∈ o.after.toList, Region.binds .any e = true → listed.getD e.on false = true := by
  unfold Region.ready at h
  simp only [List.mem_filter, List.mem_range, Bool.and_eq_true, Bool.not_eq_true'] at h
  obtain ⟨h1, h2, h3⟩ := h
  refine ⟨h1, h2, ?_⟩
  rw [Array.getElem?_eq_getElem h1] at h3 ⊢
  refine ⟨_, rfl, fun e he hb => ?_⟩
  simp only [Option.map_some, Option.getD_some, Array.all_eq_true_iff_forall_mem] at h3
  have := h3 e (by simpa using he)
  simpa [hb] using this

theorem ready_mem {ops : Array Oper} {listed : Array Bool} {i : Nat} {o : Oper} (ho : ops[i]? = some o) (h1 : listed.getD i true = false)
    (h2 : ∀ e ∈ o.after.toList, Region.binds .any e = true → listed.getD e.on false = true) : i ∈ Region.ready .any ops listed := by
  unfold Region.ready
  simp only [List.mem_filter, List.mem_range, Bool.and_eq_true, Bool.not_eq_true']
  refine ⟨(Array.getElem?_eq_some_iff.1 ho).1, h1, ?_⟩
  rw [ho]
  simp only [Option.map_some, Option.getD_some, Array.all_eq_true_iff_forall_mem]
  intro e he
  cases hb : Region.binds .any e with
  | false => rfl
  | true => simpa using h2 e (by simpa using he) hb

theorem count_set {l : List Bool} {i : Nat} (h : l[i]? = some false) : (l.set i true).count false + 1 = l.count false := by
  induction l generalizing i with
  | nil => simp at h
  | cons x l ih =>
    cases i with
    | zero =>
      simp at h
      subst h
      simp
    | succ i =>
      have := ih (i := i) (by simpa using h)
      simp only [List.set_cons_succ, List.count_cons]
      omega

section
variable {A : AP} {E : Eqs} {R : Runner} {a : AFr} {an : T Nat} {st : Nat → DSt} {B0 : Prot} {w0 : World} {P : Program} {f : Frame} {ops : Array Oper} {kk : List Item} {cs : List Frame}

theorem draw_go (hA : A.Ok P) (hE : E.Ok P) (hR : ROk P R) (h : Tr A E R a ops.toList an st) (hrd : readsOk A E a an ops.toList (st ops.toList.length) ops.toList 0 = true)
    (hB : ∀ i r b, New A a ops.toList st i r b → ¬ B0.ids r) (hfn : f.fn = a.fn) (hkind : f.kind = a.kind) (hmode : f.mode = .run) :
    ∀ (fl t : Nat) (listed : Array Bool) (m : Env) (Dn : Nat → Prop) (k : Nat) (arr : Array Value) (w : World), Inv A a ops.toList an st B0 w0 m Dn k arr w → RR m a.rnd f.roundOf →
      listed.size = ops.size → (∀ j, listed[j]? = some true ↔ Dn j) → listed.toList.count false ≤ fl →
      ∃ m' Dn' k' arr' w', Steps P (lone (atF f arr ops (Region.linearise.go .any ops fl t listed []) kk) cs w) (lone (atF f arr' ops [] kk) cs w') ∧ m.le m' ∧
        Inv A a ops.toList an st B0 w0 m' Dn' k' arr' w' ∧ ∀ j, j < ops.size → Dn' j := by
  intro fl
  induction fl with
  | zero =>
    intro t listed m Dn k arr w I hrnd hsz hl hc
    refine ⟨m, Dn, k, arr, w, by simp only [Region.linearise.go, List.reverse_nil]; exact .refl _ _, m.le_refl, I, fun j hj => (hl j).1 ?_⟩
    have h0 : listed.toList.count false = 0 := by omega
    have hj' : j < listed.size := by omega
    rw [Array.getElem?_eq_getElem hj']
    cases hv : listed[j] with
    | true => rfl
    | false =>
      have : false ∈ listed.toList := by rw [← hv]; simp
      exact absurd this (List.count_eq_zero.1 h0)
  | succ fl ih =>
    intro t listed m Dn k arr w I hrnd hsz hl hc
    have getDf : ∀ j, listed.getD j false = true → Dn j := by
      intro j hj
      refine (hl j).1 ?_
      rw [Array.getD_eq_getD_getElem?] at hj
      cases hv : listed[j]? with
      | none => rw [hv] at hj; cases hj
      | some b => rw [hv] at hj; simp at hj; rw [hj]
    simp only [Region.linearise.go]
    change ∃ m' Dn' k' arr' w', Steps P (lone (atF f arr ops (match (Region.ready .any ops listed)[t % (Region.ready .any ops listed).length]? with
      | some i => Region.linearise.go .any ops fl (t / (Region.ready .any ops listed).length) (listed.setIfInBounds i true) [i]
      | none => [].reverse) kk) cs w) _ ∧ _
    cases hi : (Region.ready .any ops listed)[t % (Region.ready .any ops listed).length]? with
    | none =>
      have hnil : Region.ready .any ops listed = [] := by
        cases hr : Region.ready .any ops listed with
        | nil => rfl
        | cons x xs =>
          rw [hr] at hi
          have hlt : t % (x :: xs).length < (x :: xs).length := Nat.mod_lt _ (by simp)
          simp at hi
          simp at hlt
          omega
      refine ⟨m, Dn, k, arr, w, .refl _ _, m.le_refl, I, fun j => ?_⟩
      induction j using Nat.strongRecOn with
      | _ j ihj =>
        intro hj
        refine Classical.byContradiction fun hn => ?_
        have ho := Array.getElem?_eq_getElem hj
        have hj' : j < listed.size := by omega
        have hlj : listed[j]? = some false := by
          rw [Array.getElem?_eq_getElem hj']
          cases hv : listed[j] with
          | false => rfl
          | true => exact absurd ((hl j).1 (by rw [Array.getElem?_eq_getElem hj', hv])) hn
        have : j ∈ Region.ready .any ops listed := by
          refine ready_mem ho (by rw [Array.getD_eq_getD_getElem?, hlj]; rfl) fun e he hb => ?_
          have h1 := h.stat.edge j _ (by rw [Array.getElem?_toList]; exact ho) e he hb
          have h2 := (hl e.on).2 (ihj e.on h1 (by omega))
          rw [Array.getD_eq_getD_getElem?, h2]
          rfl
        rw [hnil] at this
        cases this
    | some i =>
      obtain ⟨r1, r2, o, r3, r4⟩ := ready_spec (List.mem_of_getElem? hi)
      have ho : ops.toList[i]? = some o := by rw [Array.getElem?_toList]; exact r3
      have hi' : i < listed.size := by omega
      have hli : listed[i]? = some false := by
        rw [Array.getD_eq_getD_getElem?, Array.getElem?_eq_getElem hi'] at r2
        rw [Array.getElem?_eq_getElem hi']
        simpa using r2
      have hn : ¬ Dn i := fun hc => by rw [(hl i).2 hc] at hli; cases hli
      have hanc : ∀ j, (anc an i).testBit j = true → Dn j := by
        intro j hj
        obtain ⟨e, e1, e2, e3⟩ := h.stat.back i o ho j hj
        have e4 := getDf _ (r4 e e1 e2)
        rcases e3 with rfl | e3
        · exact e4
        · exact (I.down _ e4).2 j e3
      simp only []
      rw [linearise_go_acc, List.reverse_singleton, List.singleton_append]
      obtain ⟨m1, k1, arr1, w1, s1, s2, s3⟩ := I.one hA hE hR h hrd hB rfl r3 hn hanc hfn hkind hrnd hmode (kk := kk) (cs := cs)
        (rest := Region.linearise.go .any ops fl (t / (Region.ready .any ops listed).length) (listed.setIfInBounds i true) [])
      have hl' : ∀ j, (listed.setIfInBounds i true)[j]? = some true ↔ (Dn j ∨ j = i) := by
        intro j
        by_cases hij : i = j
        · subst hij
          simp [hi']
        · rw [Array.getElem?_setIfInBounds_ne hij, hl j]
          constructor
          · exact .inl
          · rintro (hj | hj)
            · exact hj
            · exact absurd hj.symm hij
      have hc' : (listed.setIfInBounds i true).toList.count false ≤ fl := by
        have h1 := count_set (l := listed.toList) (i := i) (by rw [Array.getElem?_toList]; exact hli)
        rw [Array.toList_setIfInBounds]
        omega
      obtain ⟨m2, Dn2, k2, arr2, w2, u1, u2, u3, u4⟩ := ih (t / (Region.ready .any ops listed).length) (listed.setIfInBounds i true) m1 _ k1 arr1 w1 s3 (hrnd.mono s2) (by simpa using hsz) hl' hc'
      exact ⟨m2, Dn2, k2, arr2, w2, s1.trans u1, Env.le_trans s2 u2, u3, u4⟩

/-- What runs regions that draw their order is right. -/
theorem drawR_ok (hA : A.Ok P) (hE : E.Ok P) (hP : P.follows .mixedOrders = true) {R : Runner} (hR : ROk P R) : DSound P (drawR A E R) := by
    intro B0 w0 m H H' w a f id ops t k cs e hHR hfn hkind hrnd hmode hT
    simp only [drawR] at e
    split at e
    · cases e
    next an hst =>
    split at e
    · cases e
    next S hcan =>
    split at e
    case h_2 => cases e
    next hrd =>
    cases e
    obtain ⟨st, q1, q2, q3⟩ := dcanon_ok _ _ _ _ hcan
    have hTr : Tr A E R a ops.toList an st := by
      refine ⟨dstat_ok hst, fun i o ho => ?_, by rw [q1], by rw [q1], by rw [q1]; simp [T.get_set], by rw [q1]⟩
      have := q3 i o ho
      simpa using this
    rw [Nat.zero_add] at q2
    have hge : ∀ i r b, New A a ops.toList st i r b → H.next ≤ r ∧ r < H.next + countNew ops.toList := by
      intro i r b hN
      have h1 := hTr.new_lt hN (j := ops.toList.length) (by obtain ⟨o, _, h1, _⟩ := hN; exact lt_of_get h1) (Nat.le_refl _)
      have h2 := hTr.next_top ops.toList 0 rfl (Nat.zero_le _)
      have h3 : (st 0).next = H.next := by rw [q1]
      obtain ⟨o, _, k1, _, _, k2, _⟩ := hN
      have h4 := hTr.next_le 0 i (Nat.zero_le _) (Nat.le_of_lt (lt_of_get k1))
      omega
    have hstep : Steps P (lone { f with todo := .code (.region id ops true) :: k } cs w)
        (lone (atF f f.tmps ops (Region.linearise.go .any ops ops.size (w.tape w.drawn (.order f.fn id)) (Array.replicate ops.size false) []) k) cs w.drew) := by
      refine .one (step_lone_go ?_)
      rw [stepG_run (fr := { f with todo := .code (.region id ops true) :: k }) hmode]
      simp [stepG.exec, choose, Sem.run, Question.forced, Question.cut, Region.schedule, hP, Region.linearise, atF]
    have I : Inv A a ops.toList an st B0 w0 m (fun _ => False) 0 f.tmps w.drew := by
      have hk0 : Keep B0 w0 w.drew := hHR.below.drew
      refine ⟨fun _ hc => hc.elim, fun i o _ _ => ⟨fun hc => hc.elim, fun hc => absurd hc (Nat.not_lt_zero _)⟩, Nat.zero_le _, hT.1, fun x v hx hw => ?_, fun x v hx _ => hT.2 x v (by rw [← hTr.t0]; exact hx), hk0,
        ⟨{ H with next := H.next + countNew ops.toList }, ?_, ?_⟩, fun _ _ _ _ hc => hc.elim, fun _ _ _ _ _ _ _ _ _ hc => hc.elim⟩
      · rw [hTr.free_eq fun j o ho hd => hw j o ho hd] at hx
        exact hT.2 x v hx
      · rw [hTr.Hs_eq (i := 0) (Nat.zero_le _) _ (Nat.zero_le _) (Nat.le_refl _), q1]
        simp [T.get_set]
      · have hd := hHR.drew
        refine ⟨.refl ?_, ?_, hd.inb, hd.blk, hd.sep, ?_, ?_, ?_⟩
        · rintro q (hq | ⟨_, _, _, _, _, hc, _⟩)
          · exact hk0.lt hq
          · exact hc.elim
        · intro x l hx
          have h1 := hHR.fresh x l hx
          refine ⟨Nat.lt_of_lt_of_le h1.1 (Nat.le_add_right _ _), ?_⟩
          rintro (hc | ⟨i, b, hN, _⟩)
          · exact h1.2 hc
          · have := hge i x b hN
            omega
        · intro x t' f' n' c' hx
          obtain ⟨p1, p2⟩ := hd.fam x t' f' n' c' hx
          exact ⟨Nat.lt_of_lt_of_le p1 (Nat.le_add_right _ _), p2⟩
        · rintro x b l hx hl (hc | ⟨_, _, _, _, _, hc, _⟩)
          · exact hd.live x b l hx hl hc
          · exact hc.elim
        · rintro x (hx | ⟨i, b, hN, _⟩)
          · exact Nat.lt_of_lt_of_le (hHR.idsb x hx) (Nat.le_add_right _ _)
          · exact (hge i x b hN).2
    obtain ⟨m', Dn', k', arr', w', s1, s2, s3, s4⟩ := draw_go (f := f) (kk := k) (cs := cs) hA hE hR hTr (by rw [q2]; exact hrd)
      (fun i r b hN hc => by have := hHR.idsb r hc; have := hge i r b hN; omega) hfn hkind hmode ops.size (w.tape w.drawn (.order f.fn id)) (Array.replicate ops.size false) m _ 0 f.tmps w.drew I hrnd
      (by simp) (fun j => by simp [Array.getElem?_replicate]) (by simp [List.count_replicate])
    have hall : ∀ (j : Nat) (o : Oper), ops.toList[j]? = some o → Dn' j := fun j o ho => s4 j (by simpa using lt_of_get ho)
    have hk' : k' = (st ops.toList.length).lev := by
      have h1 := s3.kle
      rcases Nat.lt_or_ge k' (st ops.toList.length).lev with h2 | h2
      · obtain ⟨i, o, k1, k2, k3, k4⟩ := hTr.lev_at _ (Nat.le_refl _) h2
        have := (s3.rank i o k2 k3).1 (hall i o k2)
        omega
      · omega
    subst hk'
    obtain ⟨Hk, hHk, hHR'⟩ := s3.hr
    rw [hTr.heap (Nat.le_refl _)] at hHk
    cases hHk
    obtain ⟨wt1, wt2⟩ := hTr.wait ops.toList.length (Nat.le_refl _)
    have hes : ∀ e ∈ (st ops.toList.length).wait, New A a ops.toList st e.1 e.2.1 e.2.2 ∧ Dn' e.1 ∧ ¬ Laid ops.toList an st (st ops.toList.length).lev e.1 := by
      intro e he
      obtain ⟨h1, h2, h3⟩ := (wt1 e).1 he
      exact ⟨h1, s4 _ (by simpa using h2), h3⟩
    have hfinal : HR B0 w' m' (layAll (st ops.toList.length).wait (st ops.toList.length).H) w' := by
      refine layAll_ok _ hHR' ?_ ?_ _ ?_ ?_
      · intro e he
        obtain ⟨h1, h2, h3⟩ := hes e he
        obtain ⟨l, p1, p2, p3, p4⟩ := s3.pend _ _ _ h1 h2 h3
        exact ⟨l, p1, .inr ⟨_, _, _, l, h1, h2, h3, p1, rfl⟩, p3, p4⟩
      · refine List.Pairwise.imp_of_mem ?_ wt2
        intro e e' he he' hne l l' h1 h2 hc
        obtain ⟨q1, q2, q3⟩ := hes e he
        obtain ⟨q4, q5, q6⟩ := hes e' he'
        exact hne (s3.dist _ _ _ _ _ _ l l' q1 q2 q3 q4 q5 q6 h1 h2 hc)
      · intro q hq
        refine ⟨.inl hq, fun e he l hl hc => ?_⟩
        obtain ⟨q1, q2, q3⟩ := hes e he
        obtain ⟨l0, p1, p2, _⟩ := s3.pend _ _ _ q1 q2 q3
        rw [hl] at p1
        cases p1
        exact p2 (by rw [← hc]; exact hq)
      · exact fun y hy => .inl hy
    rw [← q2]
    refine ⟨m', w', arr', (hstep.trans s1).trans (.one (step_lone_go ?_)), s2, ⟨s3.size, fun x v hx => s3.tm x v hx fun j o ho _ => hall j o ho⟩, hfinal.rebase s3.keep⟩
    rw [stepG_run (fr := atF f arr' ops [] k) hmode]
    simp [stepG.exec, atF]

theorem drawer_ok (hA : A.Ok P) (hE : E.Ok P) (hP : P.follows .mixedOrders = true) (fuel : Nat) : ∀ n, DSound P (drawer A E fuel n)
  | 0 => fun _ _ _ _ _ _ _ _ _ _ _ _ _ e => by cases e
  | n + 1 => drawR_ok hA hE hP (arunOne_rok hA hE (drawer_ok hA hE hP fuel n) fuel)

end
end Go.Am
