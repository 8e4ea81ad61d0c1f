/- The abstract machine, part 36: regions that draw their order, run quickly. -/
import Derived.Test.YtkfoapjbfooneaaAm35
namespace Go.Am
open Go.RowKit

section
variable {A : AP} {E : Eqs} {P : Program} {B : KB} {f : FuncId} {sz : Nat}

theorem aargs_congr {ρ ρ' : Operand → Option AV} : ∀ (l : List Operand), (∀ x ∈ l, ρ x = ρ' x) → aargs ρ l = aargs ρ' l
  | [], _ => rfl
  | x :: xs, h => by
    simp only [aargs, h x (List.mem_cons_self ..), aargs_congr xs fun y hy => h y (List.mem_cons_of_mem _ hy)]

theorem aparts_congr {ρ ρ' : Operand → Option AV} : ∀ (l : List (Nat × Operand)), (∀ x ∈ l.map (·.2), ρ x = ρ' x) → aparts ρ l = aparts ρ' l
  | [], _ => rfl
  | x :: xs, h => by
    simp only [aparts, h x.2 (by simp), aparts_congr xs fun y hy => h y (by simp only [List.map_cons, List.mem_cons]; exact .inr hy)]

theorem aop_congr {ρ ρ' : Operand → Option AV} {H : Heap} {o : Oper} (hq : quietOp o.op = true) (h : ∀ x ∈ o.op.operands.toList, ρ x = ρ' x) : aop A E H ρ o = aop A E H ρ' o := by
  unfold aop
  cases ho : o.op <;> simp only [ho] at hq h ⊢ <;> simp only [quietOp, Bool.false_eq_true] at hq
  case move x => rw [h x (by simp [Op.operands])]
  case assign x => rw [h x (by simp [Op.operands])]
  case pick c a b => rw [h c (by simp [Op.operands]), h a (by simp [Op.operands]), h b (by simp [Op.operands])]
  case build ty ps => rw [aparts_congr ps.toList fun x hx => h x (by simpa [Op.operands] using hx)]
  case load ty a => rw [h a (by simp [Op.operands])]
  case nilCheck x => rw [h x (by simp [Op.operands])]
  case binOp op ty x y yt => rw [h x (by simp [Op.operands]), h y (by simp [Op.operands])]
  case unOp op ty x => rw [h x (by simp [Op.operands])]
  case convert s d x => rw [h x (by simp [Op.operands])]
  case makeInterface ty x => rw [h x (by simp [Op.operands])]
  case makeFunc fn a b =>
    rw [aargs_congr a.toList fun x hx => h x (by simp only [Op.operands, Array.toList_append, List.mem_append]; exact .inl hx),
      aargs_congr b.toList fun x hx => h x (by simp only [Op.operands, Array.toList_append, List.mem_append]; exact .inr hx)]
  case slice ty x lo hi mx =>
    have hlo : aopt ρ lo = aopt ρ' lo := by
      cases lo with
      | none => rfl
      | some y => simp only [aopt]; rw [h y (by simp [Op.operands])]
    have hhi : aopt ρ hi = aopt ρ' hi := by
      cases hi with
      | none => rfl
      | some y => simp only [aopt]; rw [h y (by simp [Op.operands])]
    rw [h x (by simp [Op.operands]), hlo, hhi]
    cases mx with
    | none => cases ρ' x <;> cases aopt ρ' lo <;> cases aopt ρ' hi <;> rfl
    | some y =>
      have hy := h y (by simp [Op.operands])
      cases ρ' x <;> cases aopt ρ' lo <;> (try cases aopt ρ' hi) <;> (try rfl)
      next u => cases u <;> simp only [hy]
  case fieldAddr ty x i => rw [h x (by simp [Op.operands])]
  case field ty x i => rw [h x (by simp [Op.operands])]
  case indexAddr ty x i => rw [h x (by simp [Op.operands]), h i (by simp [Op.operands])]
  case index ty x i => rw [h x (by simp [Op.operands]), h i (by simp [Op.operands])]
  case lookup ty x i ok => rw [h x (by simp [Op.operands]), h i (by simp [Op.operands])]
  case typeAssert x ty ty' ok => rw [h x (by simp [Op.operands])]
  case extract x i => rw [h x (by simp [Op.operands])]
  case call c =>
    have ha : aargs ρ c.args.toList = aargs ρ' c.args.toList := aargs_congr _ fun x hx => h x (by simp only [Op.operands, Call.operands, Array.toList_append, List.mem_append]; exact .inr hx)
    unfold acall
    rw [ha]
    cases hc : c.callee <;> simp only [hc] at hq ⊢
    all_goals cases hq

theorem anew_congr {ρ ρ' : Operand → Option AV} {n : Nat} {o : Op} (h : ∀ x ∈ o.operands.toList, ρ x = ρ' x) : anew A ρ n o = anew A ρ' n o := by
  unfold anew
  split
  · rfl
  · next ty x => rw [h x (by simp [Op.operands])]
  · next ty len ps => rw [aparts_congr ps.toList fun x hx => h x (by simpa [Op.operands] using hx)]
  · rfl
  · rfl

theorem mem_looks {all : List Oper} {o : Oper} {y : Tmp} (h : Operand.tmp y ∈ o.op.operands.toList) : y ∈ looks all o := by
  have h1 : y ∈ tmpsOf o.op.operands.toList := List.mem_filterMap.2 ⟨_, h, rfl⟩
  unfold looks
  split
  · split
    · split
      · exact List.mem_cons_of_mem _ h1
      · exact h1
    · exact h1
  · exact h1

theorem ev_restr {all : List Oper} {o : Oper} {t : T AV} : ∀ x ∈ o.op.operands.toList, evT t x = evT (restr t (looks all o)) x := by
  intro x hx
  cases x with
  | tmp y => simp only [evT, get_restr, if_pos (mem_looks hx)]
  | const v => rfl
  | «global» g => rfl
  | func f => rfl

theorem guard_restr {all : List Oper} {o : Oper} {t : T AV} : aguard all (restr t (looks all o)) o.guard = aguard all t o.guard := by
  unfold aguard
  split
  · rfl
  · next j want hg =>
    split
    · next p hp =>
      split
      · next d hd =>
        have : d ∈ looks all o := by
          unfold looks
          rw [hg]
          simp only [hp, hd]
          exact List.mem_cons_self ..
        rw [get_restr, if_pos this]
      · rfl
    · rfl

theorem krestr_eq : ∀ (l : List Tmp) (t : T AV) (k : T AV → KR) (r : AV × Heap), krestr l t k = some r → k (restr t l) = some r
  | [], _, _, _, h => h
  | x :: xs, t, k, r, h => by
    simp only [krestr] at h
    have := krestr_eq xs t _ r h
    simp only [kat_eq, kput_eq] at this
    obtain ⟨v, hv, this⟩ := Option.bind_eq_some_iff.1 this
    simp only [restr, hv]
    exact this

theorem quiet_of {o : Op} (h : kin o = .quiet) : quietOp o = true := by
  unfold kin at h
  split at h
  · next e => exact e
  · split at h <;> cases h

theorem read_quiet {o : Op} (h : readOp o = true) : quietOp o = true := by
  cases o <;> simp only [readOp, Bool.false_eq_true] at h <;> try rfl
  next c =>
    simp only [quietOp]
    revert h
    cases c.callee with
    | builtin b => cases b <;> simp
    | _ => simp

theorem kdskip_ok {all : List Oper} {an : T Nat} {i : Nat} {o : Oper} {S : DSt} {k : DSt → KR} {r : AV × Heap} (hg : aguard all S.t o.guard = some false)
    (h : (kdskip sz o).run S k = some r) : ∃ S', (∀ fr : AFr, fr.sz = sz → dstep A E (kone A E B) fr all an i o S = some S') ∧ k S' = some r := by
  obtain ⟨t, vs, H, Hs, lev, wait, next⟩ := S
  unfold kdskip at h
  split at h
  · next hk =>
    obtain ⟨t', h1, h2⟩ := kfin_ok h
    simp only [fNat_eq, kput_eq] at h1
    refine ⟨_, fun fr hsz => ?_, h1⟩
    unfold dstep
    rw [guard_restr]
    simp only [hg, hsz, h2, hk]
  · next hk =>
    obtain ⟨t', h1, h2⟩ := kfin_ok h
    refine ⟨_, fun fr hsz => ?_, h1⟩
    unfold dstep
    rw [guard_restr]
    simp only [hg, hsz, h2]

theorem kdrun_ok {all : List Oper} {an : T Nat} {i : Nat} {o : Oper} {S : DSt} {k : DSt → KR} {r : AV × Heap} (hg : aguard all S.t o.guard = some true)
    (h : (kdrun A E B sz all ((an.get i).getD 0) i o).run S k = some r) : ∃ S', (∀ fr : AFr, fr.sz = sz → dstep A E (kone A E B) fr all an i o S = some S') ∧ k S' = some r := by
  obtain ⟨t, vs, H, Hs, lev, wait, next⟩ := S
  unfold kdrun at h
  split at h
  · next hk =>
    obtain ⟨v, H1, h1, h2⟩ := kq_ok h
    rw [aop_congr (quiet_of hk) (ev_restr (all := all))] at h1
    obtain ⟨t', h3, h4⟩ := kfin_ok h2
    simp only [kput_eq] at h3
    refine ⟨_, fun fr hsz => ?_, h3⟩
    subst hsz
    unfold dstep
    rw [guard_restr]
    simp only [hg, ev_eq, h1, h4, hk]
  · next hk =>
    simp only [KN.go, knew_eq] at h
    obtain ⟨⟨v, b⟩, h1, h2⟩ := Option.bind_eq_some_iff.1 h
    rw [anew_congr (ev_restr (all := all))] at h1
    obtain ⟨t', h3, h4⟩ := kfin_ok h2
    simp only [fNat_eq] at h3
    refine ⟨_, fun fr hsz => ?_, h3⟩
    subst hsz
    unfold dstep
    rw [guard_restr]
    simp only [hg, ev_eq, h1, h4, hk]
  · next hk =>
    simp only [] at h
    cases hp : parted ((an.get i).getD 0) wait with
    | mk now wait' =>
      simp only [hp] at h
      have h1 := krestr_eq _ _ _ _ h
      split at h1
      · next v H' hv =>
        obtain ⟨t', h3, h4⟩ := kfin_ok h1
        simp only [fHeap_eq, fNat_eq, kput_eq] at h3
        refine ⟨_, fun fr hsz => ?_, h3⟩
        subst hsz
        have hone : kone A E B { fr := { fr with tmps := restr t (looks all o), todo := [.one all o], defers := [], mode := .run }, cs := [], H := layAll now H } = some (v, H') := by
          simp only [kone, guard_restr, hg]
          exact hv
        unfold dstep
        rw [guard_restr]
        simp only [hg, ev_eq, hk, hp, hone, h4]
      · cases h1

theorem kdstep_ok {all : List Oper} {an : T Nat} {i : Nat} {o : Oper} {S : DSt} {k : DSt → KR} {r : AV × Heap}
    (h : (kdstep A E B sz all ((an.get i).getD 0) i o).run S k = some r) : ∃ S', (∀ fr : AFr, fr.sz = sz → dstep A E (kone A E B) fr all an i o S = some S') ∧ k S' = some r := by
  unfold kdstep at h
  split at h
  · next hg => exact kdrun_ok (by rw [hg]; rfl) h
  · next j want hg =>
    split at h
    · next p hp =>
      split at h
      · next d hd =>
        obtain ⟨t, vs, H, Hs, lev, wait, next⟩ := S
        simp only [kat_eq] at h
        obtain ⟨b, hb, h⟩ := Option.bind_eq_some_iff.1 h
        split at h
        · next b =>
          split at h
          · next hbw => exact kdrun_ok (by simp only [hg, aguard, hp, hd, hb, hbw]) h
          · next hbw => exact kdskip_ok (by simp only [hg, aguard, hp, hd, hb, hbw]) h
        · next hn => exact kdskip_ok (by simp only [hg, aguard, hp, hd, hb]) h
      · next hd => exact kdskip_ok (by simp only [hg, aguard, hp, hd]) h
    · next hp => exact kdskip_ok (by simp only [hg, aguard, hp]) h

theorem kdcanon_ok {all : List Oper} {an : T Nat} : ∀ (l : List Oper) (i : Nat) (S : DSt) (k : DSt → KR) (r : AV × Heap),
    (kdcanon A E B sz all an l i).run S k = some r → ∃ S', (∀ fr : AFr, fr.sz = sz → dcanon A E (kone A E B) fr all an l i S = some S') ∧ k S' = some r
  | [], _, S, _, _, h => ⟨S, fun _ _ => rfl, h⟩
  | o :: os, i, S, k, r, h => by
    obtain ⟨S1, h1, h2⟩ := kdstep_ok h
    obtain ⟨S2, h3, h4⟩ := kdcanon_ok os (i + 1) S1 k r h2
    exact ⟨S2, fun fr hsz => by simp only [dcanon, h1 fr hsz, h3 fr hsz], h4⟩

theorem ksames_ok {all : List Oper} {o : Oper} (hq : quietOp o.op = true) {t : T AV} {v : AV} {Hs : T Heap} : ∀ (n l : Nat) (k : Unit → KR) (r : AV × Heap), ksames A E o Hs t v l n k = some r →
    sameIn A E (evT (restr t (looks all o))) o v Hs l n = true ∧ k () = some r
  | 0, _, _, _, h => ⟨rfl, h⟩
  | n + 1, l, k, r, h => by
    simp only [ksames, kat_eq] at h
    obtain ⟨H, hH, h⟩ := Option.bind_eq_some_iff.1 h
    obtain ⟨u, H1, h1, h2⟩ := kq_ok h
    rw [aop_congr hq (ev_restr (all := all))] at h1
    simp only [sameIn, hH, h1]
    split at h2
    · next hb =>
      rw [hb]
      exact ksames_ok hq n (l + 1) k r h2
    · cases h2

theorem kreads_ok {fr : AFr} {all : List Oper} {an : T Nat} {S : DSt} : ∀ (l : List Oper) (i : Nat) (k : Unit → KR) (r : AV × Heap), (kreads A E all an l i).run S.t S.vs S.Hs k = some r →
    readsOk A E fr an all S l i = true ∧ k () = some r
  | [], _, _, _, h => ⟨rfl, h⟩
  | o :: os, i, k, r, h => by
    unfold kreads at h
    unfold readsOk
    split at h
    · next hr =>
      rw [hr]
      cases hv : S.vs.get i with
      | none =>
        simp only [hv] at h
        exact kreads_ok os (i + 1) k r h
      | some v =>
        simp only [hv] at h
        obtain ⟨h1, h2⟩ := ksames_ok (all := all) (read_quiet hr) _ _ _ _ h
        simp only [ev_eq, h1]
        exact kreads_ok os (i + 1) k r h2
    · next hr =>
      rw [hr]
      exact kreads_ok os (i + 1) k r h

/-- A region that draws its order. -/
theorem kregion_draw {t : T AV} {ops : Array Oper} {x : KX} {H : Heap} {kn : T AV → KX → Heap → KR} {ka : Code → T AV → KX → Heap → KR} {r : AV × Heap}
    (h : (kregion A E B sz ops.toList).run t x H kn ka = some r) : ∃ t' H', (∀ fr : AFr, fr.sz = sz → fr.tmps = t → drawR A E (kone A E B) fr ops H = some (t', H')) ∧ kn t' x H' = some r := by
  obtain ⟨blks, next, fams⟩ := H
  unfold kregion at h
  split at h
  · cases h
  · next an han =>
    simp only [fNat_eq, kput_eq] at h
    obtain ⟨S, h1, h2⟩ := kdcanon_ok _ _ _ _ _ h
    obtain ⟨t', vs, H', Hs, lev, wait, nx⟩ := S
    have h4 := (kreads_ok (fr := { fn := 0, sz, tmps := t, todo := [], defers := [], mode := .run, kind := .normal, rnd := none }) (S := ⟨t', vs, H', Hs, lev, wait, nx⟩) _ _ _ _ h2).2
    simp only [fHeap_eq] at h4
    refine ⟨_, _, fun fr hsz ht => ?_, h4⟩
    have h3 := (kreads_ok (fr := fr) (S := ⟨t', vs, H', Hs, lev, wait, nx⟩) _ _ _ _ h2).1
    unfold drawR
    simp only [han, ht, h1 fr hsz, h3]

end
end Go.Am
