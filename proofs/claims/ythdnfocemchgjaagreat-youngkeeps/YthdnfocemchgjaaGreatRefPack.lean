/-
  Contract of the reference's MarksOf, and its words bit by bit.
-/
import Derived.Test.YthdnfocemchgjaaGreatSpot
namespace Go.Proofs.YthdnfocemchgjaaGreat
open Go.RowKit

/-- The number whose bits are the rule's answers from 't' on, 'r' of them. -/
def pack (f : Nat → Bool) : Nat → Nat → Nat
  | 0, _ => 0
  | r + 1, t => 2 * pack f r (t + 1) + if f t then 1 else 0
theorem pack_lt (f : Nat → Bool) : ∀ r t, pack f r t < 2 ^ r
  | 0, _ => by simp [pack]
  | r + 1, t => by
    have := pack_lt f r (t + 1)
    unfold pack
    rw [Nat.pow_succ]
    split <;> omega
theorem pack_bit (f : Nat → Bool) : ∀ r t j, (pack f r t).testBit j = (decide (j < r) && f (t + j))
  | 0, t, j => by simp [pack]
  | r + 1, t, 0 => by
    unfold pack
    rw [Nat.testBit_eq_decide_div_mod_eq, Bool.eq_iff_iff]
    cases f t <;> simp <;> omega
  | r + 1, t, j + 1 => by
    unfold pack
    rw [Nat.testBit_add_one, show (2 * pack f r (t + 1) + if f t then 1 else 0) / 2 = pack f r (t + 1) by split <;> omega, pack_bit f r (t + 1) j, show t + 1 + j = t + (j + 1) by omega]
    congr 1
    rw [Bool.eq_iff_iff]; simp
/-- The words of MarksOf when all numbers from 'j' on are in. -/
def packTo (f : Nat → Bool) (n j : Nat) : List Int := (List.range ((n + 63) / 64)).map fun i => ((pack f (min n (64 * (i + 1)) - max j (64 * i)) (max j (64 * i)) : Nat) : Int)
theorem packTo_length (f : Nat → Bool) (n j : Nat) : (packTo f n j).length = (n + 63) / 64 := by simp [packTo]
theorem packTo_nth (f : Nat → Bool) (n j i : Nat) (h : i < (n + 63) / 64) : nth (packTo f n j) i = ((pack f (min n (64 * (i + 1)) - max j (64 * i)) (max j (64 * i)) : Nat) : Int) := by
  rw [nth_get _ _ (by rw [packTo_length]; exact h)]; simp [packTo]
theorem packTo_end (f : Nat → Bool) (n : Nat) : packTo f n n = List.replicate ((n + 63) / 64) 0 := by
  apply List.ext_getElem
  · simp [packTo]
  · intro i h1 h2
    simp only [packTo, List.getElem_map, List.getElem_range, List.getElem_replicate]
    rw [show min n (64 * (i + 1)) - max n (64 * i) = 0 by omega]
    rfl
theorem packTo_u64 (f : Nat → Bool) (n j : Nat) : U64s (packTo f n j) := by
  intro z hz
  obtain ⟨i, _, rfl⟩ := List.mem_map.1 hz
  have h1 := pack_lt f (min n (64 * (i + 1)) - max j (64 * i)) (max j (64 * i))
  have h2 : 2 ^ (min n (64 * (i + 1)) - max j (64 * i)) ≤ 2 ^ 64 := Nat.pow_le_pow_right (by omega) (by omega)
  exact wf_u64.2 (by omega)
/-- What the word of number 'k' holds before and behind its round. -/
theorem packTo_round (f : Nat → Bool) (n k : Nat) (h : k < n) : ∃ x : Nat, nth (packTo f n (k + 1)) (k / 64) = (x : Int) ∧ x < 9223372036854775808 ∧
    (packTo f n (k + 1)).set (k / 64) ((2 * x + if f k then 1 else 0 : Nat) : Int) = packTo f n k := by
  have hi : k / 64 < (n + 63) / 64 := by omega
  have e1 : max (k + 1) (64 * (k / 64)) = k + 1 := by omega
  have e2 : max k (64 * (k / 64)) = k := by omega
  have hlt := pack_lt f (min n (64 * (k / 64 + 1)) - (k + 1)) (k + 1)
  have hpw : 2 ^ (min n (64 * (k / 64 + 1)) - (k + 1)) ≤ 2 ^ 63 := Nat.pow_le_pow_right (by omega) (by omega)
  refine ⟨pack f (min n (64 * (k / 64 + 1)) - (k + 1)) (k + 1), ?_, by omega, ?_⟩
  · rw [packTo_nth _ _ _ _ hi, e1]
  · apply List.ext_getElem
    · simp [packTo]
    · intro i h1 h2
      rw [List.getElem_set]
      by_cases e : k / 64 = i
      · subst e
        rw [if_pos rfl]
        simp only [packTo, List.getElem_map, List.getElem_range]
        rw [e2, show min n (64 * (k / 64 + 1)) - k = (min n (64 * (k / 64 + 1)) - (k + 1)) + 1 by omega]
        rfl
      · rw [if_neg e]
        simp only [packTo, List.getElem_map, List.getElem_range]
        by_cases h3 : i < k / 64
        · rw [show min n (64 * (i + 1)) - max (k + 1) (64 * i) = 0 by omega, show min n (64 * (i + 1)) - max k (64 * i) = 0 by omega]
          rfl
        · rw [show max (k + 1) (64 * i) = 64 * i by omega, show max k (64 * i) = 64 * i by omega]
theorem packTo_bit (f : Nat → Bool) (n k : Nat) (h : k < 64 * ((n + 63) / 64)) : bit (packTo f n 0) k = (decide (k < n) && f k) := by
  unfold bit
  rw [packTo_nth _ _ _ _ (by omega), Int.toNat_natCast, show max 0 (64 * (k / 64)) = 64 * (k / 64) by omega, pack_bit, show 64 * (k / 64) + k % 64 = k by omega]
  congr 1
  rw [Bool.eq_iff_iff]; simp; omega
/-- Words with the same marks are the same. -/
theorem bits_ext {xs ys : List Int} (hl : xs.length = ys.length) (hx : U64s xs) (hy : U64s ys) (h : ∀ k, k < 64 * xs.length → bit xs k = bit ys k) : xs = ys := by
  apply nth_ext hl
  intro i hi
  have h1 := nth_u64 hx i
  have h2 := nth_u64 hy i
  have : (nth xs i).toNat = (nth ys i).toNat := by
    apply Nat.eq_of_testBit_eq
    intro j
    rcases Nat.lt_or_ge j 64 with hj | hj
    · have := h (64 * i + j) (by omega)
      unfold bit at this
      rwa [show (64 * i + j) / 64 = i by omega, show (64 * i + j) % 64 = j by omega] at this
    · have hp : 2 ^ 64 ≤ 2 ^ j := Nat.pow_le_pow_right (by omega) hj
      rw [Nat.testBit_lt_two_pow (by omega), Nat.testBit_lt_two_pow (by omega)]
  omega

/-- What MarksOf answers. -/
def MarksOfP (f : Nat → Bool) (n : Nat) (w : World) (e : Ending) (w' : World) : Prop := ∃ A c, e = .returned (.slice A ((n + 63) / 64) c) ∧ Arr .u64 w' w'.heap.size A ((n + 63) / 64) (packTo f n 0) ∧ Below w.heap.size w w'
end Go.Proofs.YthdnfocemchgjaaGreat
