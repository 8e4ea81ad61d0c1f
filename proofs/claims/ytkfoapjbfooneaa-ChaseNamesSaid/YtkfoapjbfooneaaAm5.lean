/- The abstract machine, part 5: append. -/
import Derived.Test.YtkfoapjbfooneaaAm4
import Derived.Laws.CopyRow
import Derived.Laws.OwnMore
namespace Go.Am
open Go.RowKit

/-- A block that goes on from another one: perhaps the same memory, perhaps new one. -/
def Heap.grow (H : Heap) (e : TypeId) (a o clen : Nat) (new : List AV) : Option Heap :=
  match H.blks.get a with
  | some (.cells t f n c) => match H.fams.get f with
    | none => none
    | some L => match t == e with
      | false => none
      | true => match o == 0 && n == clen with
        | true => some { blks := (kill (fun x _ => x == a) L H.blks).set H.next (.cells t f (clen + new.length) (T.ofList new clen c)),
                         next := H.next + 1, fams := H.fams.set f [H.next, a] }
        | false => match H.cellsAt a o clen with
          | none => none
          | some old => some { blks := (kill (fun _ _ => false) L H.blks).set H.next (.cells t f (clen + new.length) (T.ofList (old ++ new) 0 .nil)),
                               next := H.next + 1, fams := H.fams.set f [H.next] }
  | _ => none

def zeroOk (ti : TypeInfo) : Bool :=
  match ti.zero with
  | some z => z.cells.size == ti.size
  | none => false

def AV.allOne : List AV → Bool
  | [] => true
  | v :: vs => match v.one with
    | true => allOne vs
    | false => false

def Heap.append (A : AP) (H : Heap) (t tx : TypeId) (s x : AV) : Option (AV × Heap) :=
  match A.under t, A.under tx with
  | some (.slice e), some (.slice _) => match A.info e with
    | none => none
    | some ti =>
      let src : Option (Nat × List AV) := match x with
        | .nilsl => some (0, [])
        | .sl a o len _ => match H.cellsAt a o (len * ti.size) with
          | some vs => some (len, vs)
          | none => none
        | _ => none
      match src with
      | none => none
      | some (n, news) => match s with
        | .nilsl => match n with
          | 0 => some (.nilsl, H)
          | _ + 1 => match Nat.ble (n * ti.bytes) 140737488355328 && Nat.ble n 1000000000 && Nat.ble 1 ti.size && zeroOk ti with
            | true => some (.sl H.next 0 n (.un ti.size n), H.newB e news)
            | false => none
        | .sl a o len cap => match Nat.ble ((len + n) * ti.bytes) 140737488355328 && Nat.ble (len + n) 1000000000 && zeroOk ti with
          | false => none
          | true => match cap with
            | .ex c => match Nat.ble (len + n) c with
              | true => match H.puts a (o + len * ti.size) news with
                | some H' => some (.sl a o (len + n) (.ex c), H')
                | none => none
              | false => match Nat.ble 1 ti.size && Nat.ble (c + 1) (len + n), H.cellsAt a o (len * ti.size) with
                | true, some olds => some (.sl H.next 0 (len + n) (.un ti.size (len + n)), H.newB e (olds ++ news))
                | _, _ => none
            | .un esz lb => match esz == ti.size with
              | false => none
              | true => match n with
                | 0 => some (.sl a o len (.un esz lb), H)
                | _ + 1 => match AV.allOne news with
                  | false => none
                  | true => match Nat.ble (len + n) lb with
                    | true => match H.puts a (o + len * ti.size) news with
                      | some H' => some (.sl a o (len + n) (.un esz lb), H')
                      | none => none
                    | false => match H.grow e a o (len * ti.size) news with
                      | some H' => some (.sl H.next 0 (len + n) (.un ti.size (len + n)), H')
                      | none => none
        | _ => none
  | _, _ => none

theorem allOne_ok {m : Env} : ∀ {v : List AV} {x : List Value}, AV.allOne v = true → VRs m v x → ∀ y ∈ x, y.oneCell' = true
  | [], x, _, h => by simp only [VRs] at h; subst h; simp
  | v :: vs, x, e, h => by
    simp only [VRs] at h
    obtain ⟨y, ys, rfl, h1, h2⟩ := h
    simp only [AV.allOne] at e
    split at e
    · next hone =>
      intro z hz
      rcases List.mem_cons.1 hz with rfl | hz
      · exact h1.one hone
      · exact allOne_ok e h2 z hz
    · cases e

section
variable {B0 : Prot} {w0 : World} {m : Env} {H : Heap} {w : World} {A : AP} {P : Program}

theorem upd_setRow (w : World) (g : Nat) (old cs : Array Value) (t : TypeId) (hg : w.heap[g]? = some (.cells old t (0, 0))) : Upd w (w.setRow g cs) g (.cells cs t (0, 0)) :=
  ⟨rfl, rfl, rfl, by simp [World.setRow], setRow_heap w g old cs t _ hg, fun i hi => setRow_other w g i cs (by omega)⟩

/-- What both ways of growing share. l': where the new block lies; w': the world then. Of the old block's fellows only those of K stay, if they lie where they lay and at no other shift. -/
theorem HR.derive (h : HR B0 w0 m H w) {a f : Nat} {t : TypeId} {n : Nat} {c : T AV} (hb : H.blks.get a = some (.cells t f n c)) {L : List Nat} (hL : H.fams.get f = some L)
    {l : Loc} (hl : m a = some l) (l' : Loc) {w' : World} (hbelow : Keep B0 w0 w') (hsz : w.heap.size ≤ w'.heap.size) (hl1 : ¬ B0 l'.blk) (hl2 : l'.blk < w'.heap.size)
    (keep : Nat → ABlk → Bool) (K : List Nat) (hK : ∀ x, keep x (.cells t f n c) = true → x = a → x ∈ K) (hkeepa : ∀ x b, x ∈ L → keep x b = true → x = a)
    (old : ∀ i, i < w.heap.size → i ≠ l'.blk → w'.heap[i]? = w.heap[i]?)
    (hloc : l'.blk = l.blk ∨ w.heap.size ≤ l'.blk)
    (hsame : l'.blk = l.blk → keep a (.cells t f n c) = true → l'.sh = l.sh ∧ BR m (.cells t f n c) l (w'.heap[l.blk]?))
    {N : Nat} {c' : T AV} (hnew : BR m (.cells t f N c') l' (w'.heap[l'.blk]?)) :
    HR B0 w0 (m.ext H.next l') { blks := (kill keep L H.blks).set H.next (.cells t f N c'), next := H.next + 1, fams := H.fams.set f (H.next :: K) } w' := by
  have hle := h.le_ext l'
  have hold : ∀ x k, x ≠ H.next → m.ext H.next l' x = some k → m x = some k := fun x k hx e => by rwa [Env.ext_ne _ _ hx] at e
  obtain ⟨hfn, L', hL', hmem⟩ := h.fam a t f n c hb
  rw [hL] at hL'
  cases hL'
  -- a block that stays and is not the old one lies elsewhere
  have apart : ∀ x b, x ≠ H.next → (kill keep L H.blks).get x = some b → x ≠ a → ∀ k, m x = some k → k.blk ≠ l.blk := by
    intro x b hx hg hxa k hk
    obtain ⟨h1, h2⟩ := get_kill _ _ _ _ _ hg
    refine h.alone hb hl hL h1 hxa (fun _ _ _ _ hm => hxa (hkeepa x b hm (h2 hm))) k hk
  have keptA : ∀ b, (kill keep L H.blks).get a = some b → b = .cells t f n c ∧ keep a (.cells t f n c) = true := by
    intro b hg
    obtain ⟨h1, h2⟩ := get_kill _ _ _ _ _ hg
    rw [hb] at h1
    cases h1
    exact ⟨rfl, h2 hmem⟩
  refine ⟨hbelow, ?_, ?_, ?_, ?_, ?_, ?_, fun a ha => Nat.lt_succ_of_lt (h.idsb a ha)⟩
  · intro x k e
    by_cases hx : x = H.next
    · subst hx; exact ⟨Nat.lt_succ_self _, fun hc => Nat.lt_irrefl _ (h.idsb _ hc)⟩
    · exact ⟨Nat.lt_succ_of_lt (h.fresh x k (hold x k hx e)).1, (h.fresh x k (hold x k hx e)).2⟩
  · intro x k e
    by_cases hx : x = H.next
    · subst hx
      rw [Env.ext_self] at e
      cases e
      exact hl2
    · have := h.inb x k (hold x k hx e)
      omega
  · intro x b hg
    rw [T.get_set] at hg
    by_cases hx : x = H.next
    · subst hx
      simp only [if_true, Option.some.injEq] at hg
      subst hg
      exact ⟨l', Env.ext_self _ _ _, hnew.mono hle⟩
    · simp only [hx, if_false] at hg
      by_cases hxa : x = a
      · subst hxa
        obtain ⟨rfl, hkp⟩ := keptA b hg
        refine ⟨l, hle _ _ hl, ?_⟩
        by_cases hbl : l'.blk = l.blk
        · exact (hsame hbl hkp).2.mono hle
        · rw [old l.blk (h.inb _ l hl) (fun e => hbl e.symm)]
          obtain ⟨k, k1, k2⟩ := h.blk _ _ hb
          rw [hl] at k1
          cases k1
          exact k2.mono hle
      · have hne := apart x b hx hg hxa
        obtain ⟨h1, _⟩ := get_kill _ _ _ _ _ hg
        obtain ⟨k, k1, k2⟩ := h.blk x b h1
        refine ⟨k, hle _ _ k1, ?_⟩
        have hk2 := h.inb x k k1
        rw [old k.blk hk2 (fun e => by rcases hloc with e' | e' <;> first | exact hne k k1 (e.trans e') | omega)]
        exact k2.mono hle
  · intro x y bx byy lx ly hx hy hlx hly hblk
    by_cases hxy : x = y
    · exact .inl hxy
    rw [T.get_set] at hx hy
    -- the new block against one that stays
    have one : ∀ z bz lz, z ≠ H.next → (kill keep L H.blks).get z = some bz → m z = some lz → l'.blk = lz.blk →
        (∃ t1 f1 n1 c1, bz = .cells t1 f1 n1 c1 ∧ f1 = f) ∧ lz.sh = l'.sh := by
      intro z bz lz hz hg hlz e
      have hz2 := h.inb z lz hlz
      rcases hloc with e' | e'
      · by_cases hza : z = a
        · subst hza
          obtain ⟨rfl, hkp⟩ := keptA bz hg
          rw [hl] at hlz
          cases hlz
          exact ⟨⟨_, _, _, _, rfl, rfl⟩, (hsame e' hkp).1.symm⟩
        · exact absurd (e.symm.trans e') (apart z bz hz hg hza lz hlz)
      · omega
    by_cases hxn : x = H.next
    · subst hxn
      rw [Env.ext_self] at hlx
      cases hlx
      simp only [if_true, Option.some.injEq] at hx
      subst hx
      have hyn : y ≠ H.next := fun e => hxy e.symm
      simp only [hyn, if_false] at hy
      obtain ⟨⟨t1, f1, n1, c1, rfl, rfl⟩, hs⟩ := one y byy ly hyn hy (hold y ly hyn hly) hblk
      exact .inr ⟨_, _, _, _, _, _, _, rfl, rfl, hs.symm⟩
    · simp only [hxn, if_false] at hx
      by_cases hyn : y = H.next
      · subst hyn
        rw [Env.ext_self] at hly
        cases hly
        simp only [if_true, Option.some.injEq] at hy
        subst hy
        obtain ⟨⟨t1, f1, n1, c1, rfl, rfl⟩, hs⟩ := one x bx lx hxn hx (hold x lx hxn hlx) hblk.symm
        exact .inr ⟨_, _, _, _, _, _, _, rfl, rfl, hs⟩
      · simp only [hyn, if_false] at hy
        exact h.sep x y bx byy lx ly (get_kill _ _ _ _ _ hx).1 (get_kill _ _ _ _ _ hy).1 (hold _ _ hxn hlx) (hold _ _ hyn hly) hblk
  · intro x t1 f1 n1 c1 hg
    rw [T.get_set] at hg
    by_cases hx : x = H.next
    · subst hx
      simp only [if_true, Option.some.injEq, ABlk.cells.injEq] at hg
      obtain ⟨_, rfl, _⟩ := hg
      exact ⟨by show f < H.next + 1; omega, H.next :: K, by rw [T.get_set]; simp, by simp⟩
    · simp only [hx, if_false] at hg
      obtain ⟨h1, h2⟩ := get_kill _ _ _ _ _ hg
      obtain ⟨q1, L1, q2, q3⟩ := h.fam x t1 f1 n1 c1 h1
      by_cases hff : f1 = f
      · subst hff
        rw [hL] at q2
        cases q2
        have hxa := hkeepa x _ q3 (h2 q3)
        subst hxa
        obtain ⟨_, hkp⟩ := keptA _ hg
        exact ⟨by show _ < H.next + 1; omega, H.next :: K, by rw [T.get_set]; simp, List.mem_cons_of_mem _ (hK x hkp rfl)⟩
      · exact ⟨by show _ < H.next + 1; omega, L1, by rw [T.get_set, if_neg hff]; exact q2, q3⟩
  · intro x b k hg hk
    rw [T.get_set] at hg
    by_cases hx : x = H.next
    · subst hx
      rw [Env.ext_self] at hk
      cases hk
      exact hl1
    · simp only [hx, if_false] at hg
      exact h.live x b k (get_kill _ _ _ _ _ hg).1 (hold x k hx hk)

end
end Go.Am
