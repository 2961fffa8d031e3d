/-
  The numbers of a list, each once, in order. Over no program.
-/
import Derived.Test.YtknbbondofijeaaBase
namespace Go.Proofs.Ytknbbondofijeaa
open Go.RowKit

theorem nth_mem {l : List Int} {j : Nat} (h : j < l.length) : nth l j ∈ l := by rw [nth_get _ _ h]; exact List.getElem_mem _
/-- All numbers of words that are in the list, in rising order. -/
def risingTo (l : List Int) (k : Nat) : List Int := ((List.range k).map fun j : Nat => (j : Int)).filter fun j => decide (j ∈ l)
theorem risingTo_zero (l : List Int) : risingTo l 0 = [] := rfl
theorem risingTo_yes {l : List Int} {k : Nat} (h : (k : Int) ∈ l) : risingTo l (k + 1) = risingTo l k ++ [(k : Int)] := by
  simp [risingTo, List.range_succ, List.filter_append, h]
theorem risingTo_no {l : List Int} {k : Nat} (h : ¬ (k : Int) ∈ l) : risingTo l (k + 1) = risingTo l k := by
  simp [risingTo, List.range_succ, List.filter_append, h]
theorem risingTo_len (l : List Int) (k : Nat) : (risingTo l k).length ≤ k := by
  unfold risingTo
  exact Nat.le_trans (List.length_filter_le _ _) (by simp)
theorem risingTo_rises (l : List Int) (k : Nat) : (risingTo l k).Pairwise (· < ·) := by
  unfold risingTo
  refine List.Pairwise.filter _ ?_
  rw [List.pairwise_map]
  exact List.pairwise_lt_range.imp (by intro a b h; omega)
theorem risingTo_mem {l : List Int} {k : Nat} {x : Int} : x ∈ risingTo l k ↔ x ∈ l ∧ 0 ≤ x ∧ x < k := by
  unfold risingTo
  rw [List.mem_filter, List.mem_map]
  constructor
  · rintro ⟨⟨j, hj, rfl⟩, h⟩
    have := List.mem_range.1 hj
    exact ⟨by simpa using h, by omega, by omega⟩
  · rintro ⟨h1, h2, h3⟩
    exact ⟨⟨x.toNat, List.mem_range.2 (by omega), by omega⟩, by simpa using h1⟩
end Go.Proofs.Ytknbbondofijeaa
