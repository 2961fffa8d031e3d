/-
  slices.Sort and slices.Compact on a slice of integers that the call owns.
-/
import Derived.Test.YtgekghlmkfkbjaaShelf
import Derived.Test.YtgekghlmkfkbjaaRec
import Derived.Lib.OwnBridge
namespace Go.Proofs.Ytgekghlmkfkbjaa
open Go.RowKit

/-- In rising order. -/
def sortL (xs : List Int) : List Int := xs.mergeSort fun x y => decide (x ≤ y)
/-- Runs of equal numbers become one. -/
def uniqL (xs : List Int) : List Int := Lib.compact xs

theorem sortL_len (xs : List Int) : (sortL xs).length = xs.length := by unfold sortL; exact List.length_mergeSort _
theorem sortL_mem {xs : List Int} {x : Int} : x ∈ sortL xs ↔ x ∈ xs := by unfold sortL; exact List.mem_mergeSort
theorem sortL_sorted (xs : List Int) : (sortL xs).Pairwise (· ≤ ·) := by
  have h := List.pairwise_mergeSort (le := fun x y : Int => decide (x ≤ y)) (by intro a b c h1 h2; simp at *; omega) (by intro a b; simp; omega) xs
  exact h.imp (by intro a b h; simpa using h)
theorem uniqL_len (xs : List Int) : (uniqL xs).length ≤ xs.length := Lib.compact_length_le xs

theorem Own.growB {k : IntKind} {e : TypeId} {w : World} {base : Nat} {v : Value} {xs : List Int} (h : Own k e w base v xs) (os : Array Obj) : Own k e (Go.Sort.grow w os) base v xs := by
  obtain ⟨⟨hl, h2⟩, hw⟩ := h
  refine ⟨⟨hl, ?_⟩, hw⟩
  rcases h2 with h0 | ⟨g, cap, cur, e0, hb, hg, r⟩
  · exact .inl h0
  · have hlt : g < w.heap.size := by
      rcases Nat.lt_or_ge g w.heap.size with h' | h'
      · exact h'
      · rw [Array.getElem?_eq_none h'] at hg; cases hg
    exact .inr ⟨g, cap, cur, e0, hb, by rw [Go.Sort.heap_grow_old w os hlt]; exact hg, r⟩
theorem below_growB {B : Nat} {a w : World} (h : Below B a w) (hB : B ≤ w.heap.size) (os : Array Obj) : Below B a (Go.Sort.grow w os) :=
  h.trans ⟨rfl, rfl, rfl, by simp, fun k hk => Go.Sort.heap_grow_old w os (by omega)⟩

theorem sortI_own (v : Value) (xs : List Int) (base : Nat) (w : World) (h : Own .i64 3 w base v xs) (hs : xs.length < 4611686018427387904) (hB : base ≤ w.heap.size) :
    Calls Try.prog 52 #[v] w fun e w' => e = .returned (.tuple #[]) ∧ Own .i64 3 w' base v (sortL xs) ∧ Below base w w' := by
  by_cases hv : v = .slice none 0 0
  · subst hv
    obtain ⟨A, c, e, _, _⟩ := h.arr
    injection e with e1 e2 e3
    have h0 : xs = [] := List.eq_nil_of_length_eq_zero e2.symm
    subst h0
    refine (Try.slices_Sort_int_none none 0 w).mono ?_
    rintro e w' ⟨rfl, rfl⟩
    exact ⟨rfl, by simpa [sortL] using h, Below.refl _ _⟩
  · obtain ⟨g, cap, rfl, hbg, hg, hnc, hcm, _, hH⟩ := Lib.holds_of_ownsRow (enc := Value.int .i64) h.1 hv
    refine (Try.slices_Sort_int g 0 cap xs w hH hg hs).mono ?_
    rintro e w' ⟨rfl, n, os, rfl⟩
    have hb : Below base w (Go.Sort.putRow (Value.int .i64) (Go.Sort.ahead w n) g 0 (sortL xs).toArray) := Lib.below_putRow (Below.refl _ _) hbg
    refine ⟨rfl, Own.growB ⟨?_, fun x hx => h.2 x (sortL_mem.1 hx)⟩ os, below_growB hb (Nat.le_trans hB hb.size) os⟩
    have := Lib.ownsRow_putRow (enc := Value.int .i64) (q := n) (k := xs.length) (ys := sortL xs) h.1 (sortL_len xs) (Nat.le_refl _)
    rw [List.take_of_length_le (by rw [sortL_len]; exact Nat.le_refl _)] at this
    rw [sortL_len]
    exact this

end Go.Proofs.Ytgekghlmkfkbjaa
