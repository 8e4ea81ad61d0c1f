/- The abstract machine, part 16: one operation, whatever it is. -/
import Derived.Test.YtkfoapjbfooneaaAm15
namespace Go.Am
open Go.RowKit

def anilCheck (A : AP) (v : AV) : Bool :=
  match v with
  | .ptr _ _ => true
  | .zptr => true
  | .ifc _ _ => true
  | .fn f first _ => match f, first with
    | .func _, _ => true
    | .method name, .ifc t u :: _ => match amethod A t u name with
      | some _ => true
      | none => false
    | _, _ => false
  | _ => false

def bothNil : AV → AV → Bool
  | .nilifc, .nilifc => true
  | _, _ => false

def isConstB : Operand → Bool
  | .const _ => true
  | _ => false

/-- Two nil interface values, one of them the literal nil. -/
def anils (A : AP) (op : BinOp) (t : TypeId) (x y : Operand) : Option AV :=
  match A.under t, isConstB x || isConstB y with
  | some (.interface _), true => match op with
    | .eql => some (.bool true)
    | .neq => some (.bool false)
    | _ => none
  | _, _ => none

def aop (A : AP) (E : Eqs) (H : Heap) (ρ : Operand → Option AV) (o : Oper) : Option AOut :=
  let pure (v : Option AV) : Option AOut := match v with
    | some v => some (.val v H)
    | none => none
  match o.op with
  | .move x => pure (ρ x)
  | .assign x => pure (ρ x)
  | .pick c a b => match ρ c with
    | some (.bool true) => pure (ρ a)
    | some (.bool false) => pure (ρ b)
    | _ => none
  | .alloc t => match A.info t with
    | some ti => match ti.zero with
      | some z => match ofValue z with
        | some v => some (.val (.ptr H.next 0) (H.newB t v.cells))
        | none => none
      | none => none
    | none => none
  | .box t x => match ρ x with
    | some v => some (.val (.ptr H.next 0) (H.newB t v.cells))
    | none => none
  | .build t parts => match aparts ρ parts.toList with
    | some ps => pure (abuild A t ps)
    | none => none
  | .buildSlice t len parts => match aparts ρ parts.toList with
    | some ps => match abuildSlice A t len ps with
      | some (e, cs) => some (.val (.sl H.next 0 len (.ex len)) (H.newB e cs))
      | none => none
    | none => none
  | .load t a => match ρ a with
    | some (.ptr a o) => pure (H.load A t a o)
    | some .zptr => match A.info t, A.under t with
      | some ti, some (.struct _) => match ti.size with
        | 0 => some (.val (.agg []) H)
        | _ + 1 => none
      | _, _ => none
    | _ => none
  | .store t a x => match ρ a, ρ x with
    | some (.ptr a o), some v => match H.store A t a o v with
      | some H' => some (.skip H')
      | none => none
    | _, _ => none
  | .nilCheck x => match ρ x with
    | some v => match anilCheck A v with
      | true => some (.val v H)
      | false => none
    | none => none
  | .binOp op t x y _ => match ρ x, ρ y with
    | some a, some b => match bothNil a b with
      | true => pure (anils A op t x y)
      | false => pure (abin A E op t a b)
    | _, _ => none
  | .unOp op _ x => match ρ x with
    | some a => pure (aun op a)
    | none => none
  | .convert s d x => match ρ x with
    | some a => pure (aconv A s d a)
    | none => none
  | .makeInterface t x => match ρ x with
    | some a => pure (amakeInterface A t a)
    | none => none
  | .makeFunc f first cap => match aargs ρ first.toList, aargs ρ cap.toList with
    | some a, some b => some (.val (.fn f a b) H)
    | _, _ => none
  | .makeMap _ r => match r with
    | none => some (.val (.map H.next) { blks := H.blks.set H.next (.map [] 0), next := H.next + 1, fams := H.fams })
    | some _ => none
  | .makeSlice t l c => match ρ l, ρ c with
    | some l, some c => match amakeSlice A H t l c with
      | some (v, H') => some (.val v H')
      | none => none
    | _, _ => none
  | .slice t x lo hi mx => match mx, ρ x, aopt ρ lo, aopt ρ hi with
    | none, some v, some lo, some hi => pure (aslice A t v lo hi)
    | some mx, some v, some lo, some (some hi) => match ρ mx with
      | some mx => pure (aslice3 A t v lo hi mx)
      | none => none
    | _, _, _, _ => none
  | .fieldAddr t x f => match ρ x with
    | some v => pure (afieldAddr A H t v f)
    | none => none
  | .field t x f => match ρ x with
    | some v => pure (afield A t v f)
    | none => none
  | .indexAddr t x i => match ρ x, ρ i with
    | some v, some i => pure (aindexAddr A t v i)
    | _, _ => none
  | .index t x i => match ρ x, ρ i with
    | some v, some i => pure (aindex A t v i)
    | _, _ => none
  | .lookup t x k ok => match ρ x, ρ k with
    | some v, some k => pure (alookup A E H t v k ok)
    | _, _ => none
  | .mapUpdate t x k v => match ρ x, ρ k, ρ v with
    | some x, some k, some v => match amapUpdate A E H t x k v with
      | some H' => some (.skip H')
      | none => none
    | _, _, _ => none
  | .insert t x k v => match ρ x, ρ k, ρ v with
    | some x, some k, some v => match amapUpdate A E H t x k v with
      | some H' => some (.skip H')
      | none => none
    | _, _, _ => none
  | .mapEntry t x k => match ρ x, ρ k with
    | some x, some k => match amapEntry A E H t x k with
      | some (v, H') => some (.val v H')
      | none => none
    | _, _ => none
  | .entryStore _ x s v => match ρ x, ρ s, ρ v with
    | some x, some s, some v => match aentryStore H x s v with
      | some H' => some (.skip H')
      | none => none
    | _, _, _ => none
  | .typeAssert x _ t ok => match ρ x with
    | some v => pure (atypeAssert A v t ok)
    | none => none
  | .extract x i => match ρ x with
    | some v => pure (aextract v i)
    | none => none
  | .call c => acall A H ρ c
  | .defer c => match c.callee, aargs ρ c.args.toList with
    | .value f, some args => match ρ f with
      | some (.fn fn first cap) => some (.defer (.call fn cap (first ++ args)))
      | _ => none
    | _, _ => none
  | .panic x => match ρ x with
    | some (.ifc t v) => some (.panic (.ifc t v))
    | _ => none
  | _ => none

section
variable {m : Env} {w : World} {A : AP} {P : Program} {E : Eqs} {B0 : Prot} {w0 : World} {H : Heap}

theorem outR_pure (h : HR B0 w0 m H w) {v : Option AV} {out : AOut} (e : (match v with | some v => some (AOut.val v H) | none => none) = some out) {s : Sem Value}
    (hs : ∀ u, v = some u → ∃ r, s.run P w = .ok r w ∧ VR m u r) : OutR B0 w0 m H w out ((do let x ← s; pure (.value x) : Sem Next).run P w) := by
  cases v with
  | none => cases e
  | some u =>
    cases e
    obtain ⟨r, r1, r2⟩ := hs u rfl
    exact ⟨r, m, w, by simp [r1], m.le_refl, r2, h⟩

theorem anilCheck_ok (hA : A.Ok P) {v : AV} (h : anilCheck A v = true) {x : Value} (hx : VR m v x) (o : Oper) (y : Operand) (ho : o.op = .nilCheck y) (ρ' : Operand → Value) (hy : ρ' y = x) :
    (execOp ρ' o).run P w = .ok (.value x) w := by
  unfold anilCheck at h
  split at h
  · simp only [VR] at hx
    obtain ⟨l, _, rfl⟩ := hx
    simp [execOp, ho, hy]
  · simp only [VR] at hx
    obtain ⟨l, rfl⟩ := hx
    simp [execOp, ho, hy]
  · simp only [VR] at hx
    obtain ⟨z, rfl, _⟩ := hx
    simp [execOp, ho, hy]
  · next f first cap =>
    simp only [VR] at hx
    obtain ⟨xf, xc, rfl, h1, h2⟩ := hx
    split at h
    · simp [execOp, ho, hy]
    · next name t u rest =>
      split at h
      case h_2 => cases h
      next r hm =>
      obtain ⟨g, u'⟩ := r
      simp only [VRs, VR] at h1
      obtain ⟨y0, ys, hys, ⟨z, rfl, hz⟩, _⟩ := h1
      obtain ⟨y1, _, n2, _⟩ := amethod_ok (w := w) hA hm hz (P.types.size + 99)
      have h0 : xf[0]? = some (.iface t z) := by
        rw [← Array.getElem?_toList, hys]
        rfl
      simp only [execOp, ho, hy, h0, Sem.run_bind, run_program, Result.andThen_ok]
      rw [show P.types.size + Made.depth = P.types.size + 99 + 1 from rfl, n2]
      simp
    · cases h
  · cases h

theorem equal_nils {t : TypeId} {ms : Array (String × TypeId)} (hu : P.underlying t = some (.interface ms)) : (Op.equal t .nilIface .nilIface).run P w = .ok true w := by
  have gen : ∀ d, (Op.equalIn (d + 1) t .nilIface .nilIface).run P w = .ok true w := fun d => by
    simp only [Op.equalIn, Sem.run_bind, run_underlying hu, Result.andThen_ok]
    rfl
  exact gen 9999

theorem anils_ok (hA : A.Ok P) {op : BinOp} {t : TypeId} {x y : Operand} {u : AV} (hu : anils A op t x y = some u) :
    ∃ r, (do eqGuard op t x y .nilIface .nilIface; binOp op t .nilIface .nilIface : Sem Value).run P w = .ok r w ∧ VR m u r := by
  unfold anils at hu
  split at hu
  case h_2 => cases hu
  next ms hun hc =>
  have hg : (eqGuard op t x y .nilIface .nilIface).run P w = .ok () w := by
    cases x <;> cases y <;> simp only [isConstB, Bool.or_self, Bool.or_true, Bool.or_false, Bool.true_or, Bool.false_or, Bool.false_eq_true] at hc <;> cases op <;> rfl
  split at hu
  · cases hu
    refine ⟨.bool true, ?_, by simp only [VR]⟩
    simp only [Sem.run_bind, hg, Result.andThen_ok, binOp_eql (x := .nilIface) rfl, equal_nils (hA.under_ok hun), Sem.run_pure]
  · cases hu
    refine ⟨.bool false, ?_, by simp only [VR]⟩
    simp only [Sem.run_bind, hg, Result.andThen_ok, binOp_neq (x := .nilIface) rfl, equal_nils (hA.under_ok hun), Sem.run_pure, Bool.not_true]
  · cases hu

theorem aop_ok (hA : A.Ok P) (hE : E.Ok P) (h : HR B0 w0 m H w) {ρ : Operand → Option AV} {ρ' : Operand → Value} (hρ : ∀ x v, ρ x = some v → VR m v (ρ' x)) {o : Oper} {out : AOut}
    (e : aop A E H ρ o = some out) : OutR B0 w0 m H w out ((execOp ρ' o).run P w) := by
  unfold aop at e
  simp only [] at e
  have newVar : ∀ (t : TypeId) (v : AV) (x : Value), VR m v x → OutR B0 w0 m H w (.val (.ptr H.next 0) (H.newB t v.cells)) (.ok (.value (.pointer (some ⟨w.heap.size, 0, none⟩))) (w.alloc (.cells x.cells t))) := by
    intro t v x hv
    have hn := h.newB_of t (rest := []) hv.cells
    refine ⟨_, _, _, rfl, h.le_ext _, ?_, by simpa using hn⟩
    simp only [VR]
    exact ⟨_, Env.ext_self _ _ _, rfl⟩
  split at e
  · next x ho =>
    simp only [execOp, ho]
    cases hx : ρ x with
    | none => simp [hx] at e
    | some v => simp only [hx, Option.some.injEq] at e; subst e; exact ⟨_, m, w, rfl, m.le_refl, hρ x v hx, h⟩
  · next x ho =>
    simp only [execOp, ho]
    cases hx : ρ x with
    | none => simp [hx] at e
    | some v => simp only [hx, Option.some.injEq] at e; subst e; exact ⟨_, m, w, rfl, m.le_refl, hρ x v hx, h⟩
  · next c a b ho =>
    split at e
    · next hc =>
      have hcv := hρ _ _ hc
      simp only [VR] at hcv
      cases hx : ρ a with
      | none => simp [hx] at e
      | some v =>
        simp only [hx, Option.some.injEq] at e
        subst e
        exact ⟨_, m, w, by simp [execOp, ho, hcv, asBool], m.le_refl, hρ a v hx, h⟩
    · next hc =>
      have hcv := hρ _ _ hc
      simp only [VR] at hcv
      cases hx : ρ b with
      | none => simp [hx] at e
      | some v =>
        simp only [hx, Option.some.injEq] at e
        subst e
        exact ⟨_, m, w, by simp [execOp, ho, hcv, asBool], m.le_refl, hρ b v hx, h⟩
    · cases e
  · next t ho =>
    split at e
    case h_2 => cases e
    next ti hti =>
    split at e
    case h_2 => cases e
    next z hz =>
    split at e
    case h_2 => cases e
    next v hv =>
    cases e
    have := newVar t v z (ofValue_ok hv)
    have hrun : (execOp ρ' o).run P w = .ok (.value (.pointer (some ⟨w.heap.size, 0, none⟩))) (w.alloc (.cells z.cells t)) := by
      simp [execOp, ho, Instr.alloc, zeroValue, run_typeInfo' (hA.info _ _ hti), hz, Go.newVar, newRow]
    rw [hrun]
    exact this
  · next t x ho =>
    split at e
    case h_2 => cases e
    next v hv =>
    cases e
    have := newVar t v _ (hρ _ _ hv)
    have hrun : (execOp ρ' o).run P w = .ok (.value (.pointer (some ⟨w.heap.size, 0, none⟩))) (w.alloc (.cells (ρ' x).cells t)) := by
      simp [execOp, ho, Instr.box, Go.newVar, newRow]
    rw [hrun]
    exact this
  · next t parts ho =>
    split at e
    case h_2 => cases e
    next ps hps =>
    simp only [execOp, ho]
    refine outR_pure h e fun u hu => abuild_ok hA hu ?_
    have := aparts_ok hρ _ _ hps
    simpa using this
  · next t len parts ho =>
    split at e
    case h_2 => cases e
    next ps hps =>
    split at e
    case h_2 => cases e
    next el cs hcs =>
    cases e
    have hpr := aparts_ok hρ _ _ hps
    obtain ⟨xs, x1, x2⟩ := abuildSlice_ok (w := w) hA hcs (ps := parts.map fun (i, x) => (i, ρ' x)) (by simpa using hpr)
    have hn := h.newB_of el (rest := []) x1
    refine ⟨.slice (some ⟨w.heap.size, 0, none⟩) len len, _, w.alloc (.cells xs el), by simp only [execOp, ho, Sem.run_bind, x2]; rfl, h.le_ext _, ?_, by simpa using hn⟩
    simp only [VR]
    exact ⟨_, _, len, Env.ext_self _ _ _, rfl, Nat.le_refl _, rfl, by simp⟩
  · next t a ho =>
    split at e
    case h_3 => cases e
    · next a' o' ha =>
      have hav := hρ _ _ ha
      simp only [VR] at hav
      obtain ⟨l, hl, hp⟩ := hav
      simp only [execOp, ho]
      refine outR_pure h e fun u hu => ?_
      obtain ⟨x, x1, x2⟩ := h.load hA hu hl
      exact ⟨x, by simp [Instr.loadAt, hp, Instr.sureAddr, x1], x2⟩
    · next ha =>
      have hav := hρ _ _ ha
      simp only [VR] at hav
      obtain ⟨p, hp⟩ := hav
      split at e
      case h_2 => cases e
      next ti fs hti hu =>
      split at e
      case h_2 => cases e
      next hz =>
      cases e
      refine ⟨.agg #[], m, w, ?_, m.le_refl, by simp [VR, VRs], h⟩
      simp [execOp, ho, Instr.loadAt, hp, Instr.sureAddr, loadVar, isAgg, run_underlying (hA.under_ok hu), sizeOf, run_typeInfo' (hA.info _ _ hti), hz, loadCells, loadCellsFrom]
  · next t a x ho =>
    split at e
    case h_2 => cases e
    next a' o' v ha hv =>
    split at e
    case h_2 => cases e
    next H' hs =>
    cases e
    have hav := hρ _ _ ha
    simp only [VR] at hav
    obtain ⟨l, hl, hp⟩ := hav
    obtain ⟨w', r1, r2⟩ := h.store hA hs (hρ _ _ hv) hl
    exact ⟨m, w', by simp [execOp, ho, Instr.storeAt, hp, Instr.sureAddr, r1], m.le_refl, r2⟩
  · next x ho =>
    split at e
    case h_2 => cases e
    next v hv =>
    split at e
    case h_2 => cases e
    next hn =>
    cases e
    exact ⟨ρ' x, m, w, anilCheck_ok hA hn (hρ _ _ hv) o x ho ρ' rfl, m.le_refl, hρ _ _ hv, h⟩
  · next op t x y yt ho =>
    split at e
    case h_2 => cases e
    next a b ha hb =>
    simp only [execOp, ho]
    split at e
    · next hbn =>
      have hnn : ρ' x = .nilIface ∧ ρ' y = .nilIface := by
        have h1 := hρ _ _ ha
        have h2 := hρ _ _ hb
        cases a <;> cases b <;> simp only [bothNil, Bool.false_eq_true] at hbn
        simp only [VR] at h1 h2
        exact ⟨h1, h2⟩
      obtain ⟨hx, hy⟩ := hnn
      rw [hx, hy]
      exact outR_pure h e fun u hu => anils_ok hA hu
    · exact outR_pure h e fun u hu => abin_ok hA hE hu (hρ _ _ ha) (hρ _ _ hb) x y
  · next op t x ho =>
    split at e
    case h_2 => cases e
    next a ha =>
    simp only [execOp, ho]
    exact outR_pure h e fun u hu => aun_ok hu (hρ _ _ ha)
  · next s d x ho =>
    split at e
    case h_2 => cases e
    next a ha =>
    simp only [execOp, ho]
    exact outR_pure h e fun u hu => aconv_ok hA hu (hρ _ _ ha)
  · next t x ho =>
    split at e
    case h_2 => cases e
    next a ha =>
    simp only [execOp, ho]
    exact outR_pure h e fun u hu => amakeInterface_ok hA hu (hρ _ _ ha)
  · next f first cap ho =>
    split at e
    case h_2 => cases e
    next a b ha hb =>
    cases e
    refine ⟨.func f (first.map ρ') (cap.map ρ'), m, w, by simp [execOp, ho, Instr.makeFunc], m.le_refl, ?_, h⟩
    simp only [VR]
    exact ⟨_, _, rfl, by simpa using aargs_ok hρ _ _ ha, by simpa using aargs_ok hρ _ _ hb⟩
  · next t r ho =>
    split at e
    case h_2 => cases e
    cases e
    have hal := h.alloc ⟨w.heap.size, 0, 0⟩ rfl (.map [] 0) (.map #[] 0) ⟨#[], rfl, rfl⟩ H.fams (.inr ⟨by simp, rfl⟩)
    refine ⟨.map (some w.heap.size), _, w.alloc (.map #[] 0), by simp [execOp, ho, Instr.makeMap], h.le_ext _, ?_, hal⟩
    simp only [VR]
    exact ⟨_, Env.ext_self _ _ _, rfl⟩
  · next t l c ho =>
    split at e
    case h_2 => cases e
    next lv cv hl hc =>
    split at e
    case h_2 => cases e
    next v H' hm =>
    cases e
    obtain ⟨r, m', w', r1, r2, r3, r4⟩ := amakeSlice_ok hA h hm (hρ _ _ hl) (hρ _ _ hc)
    exact ⟨r, m', w', by simp [execOp, ho, r1], r2, r3, r4⟩
  · next t x lo hi mx ho =>
    split at e
    · next v lo' hi' hx hlo hhi =>
      simp only [execOp, ho, Option.map_none]
      exact outR_pure h e fun u hu => aslice_ok hA hu (hρ _ _ hx) (aopt_ok hρ hlo) (aopt_ok hρ hhi)
    · next mx v lo' hi' hx hlo hhi =>
      split at e
      case h_2 => cases e
      next mx' hmx =>
      obtain ⟨hiv, h1, h2⟩ := aopt_ok hρ hhi
      simp only [execOp, ho, Option.map_some, h1]
      exact outR_pure h e fun u hu => aslice3_ok hA hu (hρ _ _ hx) (aopt_ok hρ hlo) h2 (hρ _ _ hmx)
    · cases e
  · next t x f ho =>
    split at e
    case h_2 => cases e
    next v hv =>
    simp only [execOp, ho]
    exact outR_pure h e fun u hu => afieldAddr_ok hA h hu (hρ _ _ hv)
  · next t x f ho =>
    split at e
    case h_2 => cases e
    next v hv =>
    simp only [execOp, ho]
    exact outR_pure h e fun u hu => afield_ok hA hu (hρ _ _ hv)
  · next t x i ho =>
    split at e
    case h_2 => cases e
    next v iv hv hi =>
    simp only [execOp, ho]
    exact outR_pure h e fun u hu => aindexAddr_ok hA hu (hρ _ _ hv) (hρ _ _ hi)
  · next t x i ho =>
    split at e
    case h_2 => cases e
    next v iv hv hi =>
    simp only [execOp, ho]
    exact outR_pure h e fun u hu => aindex_ok hA hu (hρ _ _ hv) (hρ _ _ hi)
  · next t x k ok ho =>
    split at e
    case h_2 => cases e
    next v kv hv hk =>
    simp only [execOp, ho]
    exact outR_pure h e fun u hu => alookup_ok hA hE h hu (hρ _ _ hv) (hρ _ _ hk)
  · next t x k v ho =>
    split at e
    case h_2 => cases e
    next xv kv vv hx hk hv =>
    split at e
    case h_2 => cases e
    next H' hm =>
    cases e
    obtain ⟨w', r1, r2⟩ := amapUpdate_ok hA hE h hm (hρ _ _ hx) (hρ _ _ hk) (hρ _ _ hv)
    exact ⟨m, w', by simp [execOp, ho, r1], m.le_refl, r2⟩
  · next t x k v ho =>
    split at e
    case h_2 => cases e
    next xv kv vv hx hk hv =>
    split at e
    case h_2 => cases e
    next H' hm =>
    cases e
    obtain ⟨w', r1, r2⟩ := amapUpdate_ok hA hE h hm (hρ _ _ hx) (hρ _ _ hk) (hρ _ _ hv)
    exact ⟨m, w', by simp [execOp, ho, r1], m.le_refl, r2⟩
  · next t x k ho =>
    split at e
    case h_2 => cases e
    next xv kv hx hk =>
    split at e
    case h_2 => cases e
    next v H' hm =>
    cases e
    obtain ⟨r, w', r1, r2, r3⟩ := amapEntry_ok hA hE h hm (hρ _ _ hx) (hρ _ _ hk)
    exact ⟨r, m, w', by simp [execOp, ho, r1], m.le_refl, r2, r3⟩
  · next t x s v ho =>
    split at e
    case h_2 => cases e
    next xv sv vv hx hs hv =>
    split at e
    case h_2 => cases e
    next H' hm =>
    cases e
    obtain ⟨w', r1, r2⟩ := aentryStore_ok (P := P) (t := t) h hm (hρ _ _ hx) (hρ _ _ hs) (hρ _ _ hv)
    exact ⟨m, w', by simp [execOp, ho, r1], m.le_refl, r2⟩
  · next x xt t ok ho =>
    split at e
    case h_2 => cases e
    next v hv =>
    simp only [execOp, ho]
    exact outR_pure h e fun u hu => atypeAssert_ok hA hu (hρ _ _ hv)
  · next x i ho =>
    split at e
    case h_2 => cases e
    next v hv =>
    simp only [execOp, ho]
    exact outR_pure h e fun u hu => aextract_ok hu (hρ _ _ hv)
  · next c ho =>
    simp only [execOp, ho]
    exact acall_ok hA h hρ e
  · next c ho =>
    split at e
    case h_2 => cases e
    next f args hc hargs =>
    split at e
    case h_2 => cases e
    next fn first cap hf =>
    cases e
    have hfv := hρ _ _ hf
    simp only [VR] at hfv
    obtain ⟨xf, xc, hx, h1, h2⟩ := hfv
    have ha := aargs_ok hρ _ _ hargs
    refine ⟨{ target := .fn fn xc, args := xf ++ c.args.map ρ' }, by simp [execOp, ho, resolve, hc, Deferred.ofValue, hx], _, _, rfl, h2, ?_⟩
    simp only [Array.toList_append]
    exact h1.append (by simpa using ha)
  · next x ho =>
    split at e
    case h_2 => cases e
    next t v hv =>
    cases e
    have hxv := hρ _ _ hv
    have hxv' := hxv
    simp only [VR] at hxv
    obtain ⟨z, hz, _⟩ := hxv
    exact ⟨ρ' x, by simp [execOp, ho, hz, Instr.panic], hxv'⟩
  · cases e

end
end Go.Am
