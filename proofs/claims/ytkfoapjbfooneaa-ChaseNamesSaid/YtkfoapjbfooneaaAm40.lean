/- The abstract machine, part 40: other names for blocks. -/
import Derived.Test.YtkfoapjbfooneaaAm39
namespace Go.Am
open Go.RowKit

mutual
/-- A value with other names. -/
def ren (σ : Nat → Nat) : AV → AV
  | .ptr a o => .ptr (σ a) o
  | .sl a o n c => .sl (σ a) o n c
  | .map a => .map (σ a)
  | .fn f a b => .fn f (rens σ a) (rens σ b)
  | .yld a => .yld (σ a)
  | .ifc t v => .ifc t (ren σ v)
  | .agg l => .agg (rens σ l)
  | .tup l => .tup (rens σ l)
  | .bool b => .bool b
  | .int k n => .int k n
  | .str s => .str s
  | .nilptr => .nilptr
  | .zptr => .zptr
  | .nilsl => .nilsl
  | .nilmap => .nilmap
  | .nilfn => .nilfn
  | .nilifc => .nilifc
def rens (σ : Nat → Nat) : List AV → List AV
  | [] => []
  | v :: vs => ren σ v :: rens σ vs
end

section
variable {m m' : Env} {σ : Nat → Nat}

mutual
theorem VR.ren (h : ∀ a l, m a = some l → m' (σ a) = some l) : ∀ (v : AV) (x : Value), VR m v x → VR m' (ren σ v) x
  | .bool _, _, e => by simpa only [Am.ren, VR] using e
  | .int _ _, _, e => by simpa only [Am.ren, VR] using e
  | .str _, _, e => by simpa only [Am.ren, VR] using e
  | .nilptr, _, e => by simpa only [Am.ren, VR] using e
  | .zptr, _, e => by simpa only [Am.ren, VR] using e
  | .nilsl, _, e => by simpa only [Am.ren, VR] using e
  | .nilmap, _, e => by simpa only [Am.ren, VR] using e
  | .nilfn, _, e => by simpa only [Am.ren, VR] using e
  | .nilifc, _, e => by simpa only [Am.ren, VR] using e
  | .ptr _ _, _, e => by
    simp only [Am.ren, VR] at e ⊢
    obtain ⟨l, h1, h2⟩ := e
    exact ⟨l, h _ _ h1, h2⟩
  | .sl a o n c, _, e => by
    simp only [Am.ren, VR] at e ⊢
    obtain ⟨l, p, cc, h1, h2⟩ := e
    exact ⟨l, p, cc, h _ _ h1, h2⟩
  | .map _, _, e => by
    simp only [Am.ren, VR] at e ⊢
    obtain ⟨l, h1, h2⟩ := e
    exact ⟨l, h _ _ h1, h2⟩
  | .yld _, _, e => by
    simp only [Am.ren, VR] at e ⊢
    obtain ⟨l, h1, h2⟩ := e
    exact ⟨l, h _ _ h1, h2⟩
  | .fn _ a b, _, e => by
    simp only [Am.ren, VR] at e ⊢
    obtain ⟨x, y, h1, h2, h3⟩ := e
    exact ⟨x, y, h1, VRs.ren h a _ h2, VRs.ren h b _ h3⟩
  | .ifc _ a, _, e => by
    simp only [Am.ren, VR] at e ⊢
    obtain ⟨x, h1, h2⟩ := e
    exact ⟨x, h1, VR.ren h a _ h2⟩
  | .agg l, _, e => by
    simp only [Am.ren, VR] at e ⊢
    obtain ⟨x, h1, h2⟩ := e
    exact ⟨x, h1, VRs.ren h l _ h2⟩
  | .tup l, _, e => by
    simp only [Am.ren, VR] at e ⊢
    obtain ⟨x, h1, h2⟩ := e
    exact ⟨x, h1, VRs.ren h l _ h2⟩
theorem VRs.ren (h : ∀ a l, m a = some l → m' (σ a) = some l) : ∀ (v : List AV) (x : List Value), VRs m v x → VRs m' (rens σ v) x
  | [], _, e => by simpa only [rens, VRs] using e
  | a :: as, _, e => by
    simp only [rens, VRs] at e ⊢
    obtain ⟨y, ys, h1, h2, h3⟩ := e
    exact ⟨y, ys, h1, VR.ren h a _ h2, VRs.ren h as _ h3⟩
end

mutual
/-- And back. -/
theorem VR.unren : ∀ (v : AV) (x : Value), VR m (ren σ v) x → VR (fun a => m (σ a)) v x
  | .bool _, _, e => by simpa only [Am.ren, VR] using e
  | .int _ _, _, e => by simpa only [Am.ren, VR] using e
  | .str _, _, e => by simpa only [Am.ren, VR] using e
  | .nilptr, _, e => by simpa only [Am.ren, VR] using e
  | .zptr, _, e => by simpa only [Am.ren, VR] using e
  | .nilsl, _, e => by simpa only [Am.ren, VR] using e
  | .nilmap, _, e => by simpa only [Am.ren, VR] using e
  | .nilfn, _, e => by simpa only [Am.ren, VR] using e
  | .nilifc, _, e => by simpa only [Am.ren, VR] using e
  | .ptr _ _, _, e => by simpa only [Am.ren, VR] using e
  | .sl a o n c, _, e => by simpa only [Am.ren, VR] using e
  | .map _, _, e => by simpa only [Am.ren, VR] using e
  | .yld _, _, e => by simpa only [Am.ren, VR] using e
  | .fn _ a b, _, e => by
    simp only [Am.ren, VR] at e ⊢
    obtain ⟨x, y, h1, h2, h3⟩ := e
    exact ⟨x, y, h1, VRs.unren a _ h2, VRs.unren b _ h3⟩
  | .ifc _ a, _, e => by
    simp only [Am.ren, VR] at e ⊢
    obtain ⟨x, h1, h2⟩ := e
    exact ⟨x, h1, VR.unren a _ h2⟩
  | .agg l, _, e => by
    simp only [Am.ren, VR] at e ⊢
    obtain ⟨x, h1, h2⟩ := e
    exact ⟨x, h1, VRs.unren l _ h2⟩
  | .tup l, _, e => by
    simp only [Am.ren, VR] at e ⊢
    obtain ⟨x, h1, h2⟩ := e
    exact ⟨x, h1, VRs.unren l _ h2⟩
theorem VRs.unren : ∀ (v : List AV) (x : List Value), VRs m (rens σ v) x → VRs (fun a => m (σ a)) v x
  | [], _, e => by simpa only [rens, VRs] using e
  | a :: as, _, e => by
    simp only [rens, VRs] at e ⊢
    obtain ⟨y, ys, h1, h2, h3⟩ := e
    exact ⟨y, ys, h1, VR.unren a _ h2, VRs.unren as _ h3⟩
end

/-- Entries of a map with other names. -/
def rene (σ : Nat → Nat) : List (AV × AV × Nat) → List (AV × AV × Nat)
  | [] => []
  | (k, v, n) :: es => (ren σ k, ren σ v, n) :: rene σ es

theorem ER.ren (h : ∀ a l, m a = some l → m' (σ a) = some l) : ∀ (e : List (AV × AV × Nat)) (x : List MapEntry), ER m e x → ER m' (rene σ e) x
  | [], _, e => e
  | (k, v, n) :: es, _, ⟨y, ys, h1, h2, h3, h4, h5⟩ => ⟨y, ys, h1, VR.ren h _ _ h2, VR.ren h _ _ h3, h4, ER.ren h es _ h5⟩

theorem ER.unren : ∀ (e : List (AV × AV × Nat)) (x : List MapEntry), ER m (rene σ e) x → ER (fun a => m (σ a)) e x
  | [], _, e => e
  | (k, v, n) :: es, _, ⟨y, ys, h1, h2, h3, h4, h5⟩ => ⟨y, ys, h1, VR.unren _ _ h2, VR.unren _ _ h3, h4, ER.unren es _ h5⟩

/-- A block as a text has it: cells, from the first one on; or a map. -/
inductive Lit where
  | cells (t : TypeId) (cs : List AV)
  | map (es : List (AV × AV × Nat)) (clock : Nat)

def Lit.ren (σ : Nat → Nat) : Lit → Lit
  | .cells t cs => .cells t (rens σ cs)
  | .map es clock => .map (rene σ es) clock

/-- The block of a text, alone in its family. -/
def Lit.blk (a : Nat) : Lit → ABlk
  | .cells t cs => .cells t a cs.length (T.ofList cs 0 .nil)
  | .map es clock => .map es clock

theorem rens_length (σ : Nat → Nat) : ∀ (l : List AV), (rens σ l).length = l.length
  | [] => rfl
  | _ :: l => by simp only [rens, List.length_cons, rens_length σ l]

theorem rens_get (σ : Nat → Nat) : ∀ (l : List AV) (i : Nat), (rens σ l)[i]? = l[i]?.map (ren σ)
  | [], _ => rfl
  | _ :: l, 0 => rfl
  | _ :: l, i + 1 => by simpa only [rens, List.getElem?_cons_succ] using rens_get σ l i

theorem get_ofList0 (l : List AV) (i : Nat) : (T.ofList l 0 .nil).get i = l[i]? := by
  rw [T.get_ofList]
  split
  · rw [Nat.sub_zero]
  · next h =>
    rw [T.get_nil, List.getElem?_eq_none]
    omega

theorem BR.lit_ren (h : ∀ a l, m a = some l → m' (σ a) = some l) {b : Lit} {a a' : Nat} {l : Loc} {o : Option Obj} (e : BR m (b.blk a) l o) : BR m' ((b.ren σ).blk a') l o := by
  cases b with
  | cells t cs =>
    obtain ⟨arr, h1, h2, h3, h4⟩ := e
    refine ⟨arr, h1, h2, by rw [rens_length]; exact h3, fun i v hi => ?_⟩
    rw [get_ofList0, rens_get] at hi
    obtain ⟨u, hu, rfl⟩ := Option.map_eq_some_iff.1 hi
    obtain ⟨k1, x, k2, k3⟩ := h4 i u (by rw [get_ofList0]; exact hu)
    exact ⟨by rw [rens_length]; exact k1, x, k2, VR.ren h _ _ k3⟩
  | map es clock =>
    obtain ⟨arr, h1, h2⟩ := e
    exact ⟨arr, h1, ER.ren h _ _ h2⟩

theorem BR.lit_unren {b : Lit} {a a' : Nat} {l : Loc} {o : Option Obj} (e : BR m ((b.ren σ).blk a') l o) : BR (fun a => m (σ a)) (b.blk a) l o := by
  cases b with
  | cells t cs =>
    obtain ⟨arr, h1, h2, h3, h4⟩ := e
    refine ⟨arr, h1, h2, by rw [rens_length] at h3; exact h3, fun i v hi => ?_⟩
    rw [get_ofList0] at hi
    obtain ⟨k1, x, k2, k3⟩ := h4 i (Am.ren σ v) (by rw [get_ofList0, rens_get, hi]; rfl)
    exact ⟨by rw [rens_length] at k1; exact k1, x, k2, VR.unren _ _ k3⟩
  | map es clock =>
    obtain ⟨arr, h1, h2⟩ := e
    exact ⟨arr, h1, ER.unren _ _ h2⟩

end
end Go.Am
