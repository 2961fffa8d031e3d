/-
  The walk of WordMoves: whatever the arguments and the memory, the call returns true and changes nothing that was there.
-/
import Derived.Test.YtknbbondofijeaaReadsWalk
namespace Go.Proofs.Ytknbbondofijeaa
open Go.RowKit

theorem nth_splice_in (zs ys : List Int) (r k : Nat) (h1 : r ≤ k) (h2 : k < r + ys.length) (h3 : r ≤ zs.length) : nth (splice zs r ys) k = nth ys (k - r) := by
  unfold nth splice
  have e : (zs.take r).length = r := by simp; omega
  rw [List.getD_eq_getElem?_getD, List.getD_eq_getElem?_getD, List.getElem?_append_right (by omega), e, List.getElem?_append_left (by omega)]
theorem nth_splice_out (zs ys : List Int) (r k : Nat) (h1 : ¬ (r ≤ k ∧ k < r + ys.length)) (h3 : r + ys.length ≤ zs.length) : nth (splice zs r ys) k = nth zs k := by
  unfold nth splice
  have e : (zs.take r).length = r := by simp; omega
  rw [List.getD_eq_getElem?_getD, List.getD_eq_getElem?_getD]
  by_cases h : k < r
  · rw [List.getElem?_append_left (by omega), List.getElem?_take, if_pos h]
  · rw [List.getElem?_append_right (by omega), e, List.getElem?_append_right (by omega), List.getElem?_drop]
    congr 2
    omega
theorem nth_cut (zs : List Int) (p q j : Nat) (h : j < q) : nth ((zs.drop p).take q) j = nth zs (p + j) := by
  simp [nth, h, List.getElem?_drop]
theorem rangeE_zero {n : Nat} {i m : Int} (h : rangeE n i m = 0) : n ≤ 256 ∧ 0 ≤ i ∧ i ≤ n ∧ 0 ≤ m ∧ m ≤ n - i := by
  unfold rangeE at h
  split at h
  · omega
  · split at h <;> omega

end Go.Proofs.Ytknbbondofijeaa
