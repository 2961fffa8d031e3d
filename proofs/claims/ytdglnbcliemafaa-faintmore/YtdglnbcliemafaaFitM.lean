/-
  Plain mathematics of choosing one of a list of runs, over no program.
-/
import Derived.Test.YtdglnbcliemafaaRunM
namespace Go.Proofs.Ytdglnbcliemafaa
open Go.RowKit

/-- The number that is chosen of the first 'k' runs, -1 if none: one that is long enough replaces the one chosen before it, if it is better. -/
def pickTo (bt : Int × Int → Int × Int → Bool) (l : List (Int × Int)) (n : Int) : Nat → Int
  | 0 => -1
  | k + 1 => if n ≤ (nthG l k).2 ∧ (pickTo bt l n k < 0 ∨ bt (nthG l k) (nthG l (pickTo bt l n k).toNat) = true) then (k : Int) else pickTo bt l n k
def never (_ _ : Int × Int) : Bool := false
def less (x y : Int × Int) : Bool := decide (x.2 < y.2)
def badRun (r : Int × Int) : Bool := decide (r.1 < 0) || decide (r.2 < 1)
def invB (l : List (Int × Int)) : Bool := (List.range l.length).any fun j => badRun (nthG l j)
def chooseE (bt : Int × Int → Int × Int → Bool) (l : List (Int × Int)) (n : Int) : Int :=
  if n < 1 then 1 else if invB l then 4 else if pickTo bt l n l.length < 0 then 7 else 0
def chooseV (bt : Int × Int → Int × Int → Bool) (l : List (Int × Int)) (n : Int) : Int := if chooseE bt l n = 0 then pickTo bt l n l.length else 0

section
variable {bt : Int × Int → Int × Int → Bool} {l : List (Int × Int)} {n : Int}
theorem pickTo_small {k : Nat} (h : (nthG l k).2 < n) : pickTo bt l n (k + 1) = pickTo bt l n k := by
  rw [pickTo, if_neg (by rintro ⟨h1, _⟩; omega)]
theorem pickTo_new {k : Nat} (h : n ≤ (nthG l k).2) (hp : pickTo bt l n k < 0) : pickTo bt l n (k + 1) = k := by
  rw [pickTo, if_pos ⟨h, .inl hp⟩]
theorem pickTo_better {k p : Nat} (h : n ≤ (nthG l k).2) (hp : pickTo bt l n k = p) (hb : bt (nthG l k) (nthG l p) = true) : pickTo bt l n (k + 1) = k := by
  rw [pickTo, if_pos ⟨h, .inr (by rw [hp]; exact hb)⟩]
theorem pickTo_worse {k p : Nat} (hp : pickTo bt l n k = p) (hb : bt (nthG l k) (nthG l p) = false) : pickTo bt l n (k + 1) = p := by
  rw [pickTo, if_neg, hp]
  rintro ⟨_, h | h⟩
  · omega
  · rw [hp] at h
    simp only [Int.toNat_natCast] at h
    rw [hb] at h
    cases h
theorem pickTo_range : ∀ k : Nat, -1 ≤ pickTo bt l n k ∧ pickTo bt l n k < k
  | 0 => ⟨Int.le_refl _, by show (-1 : Int) < 0; omega⟩
  | k + 1 => by
    have := pickTo_range k
    rw [pickTo]
    split <;> omega
theorem pickTo_fits : ∀ k p : Nat, pickTo bt l n k = p → n ≤ (nthG l p).2
  | 0, p, h => by
    have : (-1 : Int) = p := h
    omega
  | k + 1, p, h => by
    rw [pickTo] at h
    split at h
    · rename_i hc
      obtain rfl : k = p := by omega
      exact hc.1
    · exact pickTo_fits k p h
theorem pickTo_none : ∀ k : Nat, (pickTo bt l n k < 0 ↔ ∀ j, j < k → (nthG l j).2 < n)
  | 0 => ⟨fun _ j hj => absurd hj (by omega), fun _ => by show (-1 : Int) < 0; omega⟩
  | k + 1 => by
    have ih := pickTo_none k
    by_cases hk : (nthG l k).2 < n
    · rw [pickTo_small hk, ih]
      refine ⟨fun h j hj => ?_, fun h j hj => h j (by omega)⟩
      rcases Nat.lt_succ_iff_lt_or_eq.1 hj with h1 | h1
      · exact h j h1
      · rw [h1]; exact hk
    · refine ⟨fun h => ?_, fun h => absurd (h k (by omega)) hk⟩
      rw [pickTo] at h
      split at h
      · omega
      · rename_i hc
        exact absurd ⟨by omega, .inl h⟩ hc
/-- The choice does not depend on what is better, if there is none. -/
theorem pickTo_alike {bt' : Int × Int → Int × Int → Bool} (k : Nat) : pickTo bt l n k < 0 ↔ pickTo bt' l n k < 0 := by rw [pickTo_none, pickTo_none]
theorem chooseE_alike {bt' : Int × Int → Int × Int → Bool} : chooseE bt l n = chooseE bt' l n := by
  unfold chooseE
  split
  · rfl
  · split
    · rfl
    · by_cases h : pickTo bt l n l.length < 0
      · rw [if_pos h, if_pos ((pickTo_alike _).1 h)]
      · rw [if_neg h, if_neg (fun h' => h ((pickTo_alike _).2 h'))]
/-- The first that fits stands first. -/
theorem pickTo_first : ∀ k p : Nat, pickTo never l n k = p → ∀ j, j < p → (nthG l j).2 < n
  | 0, p, h => by
    have : (-1 : Int) = p := h
    omega
  | k + 1, p, h => by
    rw [pickTo] at h
    split at h
    · rename_i hc
      obtain rfl : k = p := by omega
      rcases hc.2 with h1 | h1
      · exact (pickTo_none k).1 h1
      · cases h1
    · exact pickTo_first k p h
/-- The best that fits is the least. -/
theorem pickTo_best : ∀ k p : Nat, pickTo less l n k = p → ∀ j, j < k → n ≤ (nthG l j).2 → (nthG l p).2 ≤ (nthG l j).2
  | 0, p, _, j, hj, _ => absurd hj (by omega)
  | k + 1, p, h, j, hj, hf => by
    rw [pickTo] at h
    split at h
    · rename_i hc
      obtain rfl : k = p := by omega
      rcases Nat.lt_succ_iff_lt_or_eq.1 hj with h1 | h1
      · rcases hc.2 with h2 | h2
        · exact absurd hf (by have := (pickTo_none k).1 h2 j h1; omega)
        · have hr := pickTo_range (bt := less) (l := l) (n := n) k
          rcases Int.lt_or_le (pickTo less l n k) 0 with h3 | h3
          · exact absurd hf (by have := (pickTo_none k).1 h3 j h1; omega)
          · obtain ⟨q, hq⟩ := Int.eq_ofNat_of_zero_le h3
            have := pickTo_best k q hq j h1 hf
            rw [hq] at h2
            simp [less] at h2
            omega
      · rw [h1]; omega
    · rename_i hc
      rcases Nat.lt_succ_iff_lt_or_eq.1 hj with h1 | h1
      · exact pickTo_best k p h j h1 hf
      · subst h1
        rcases Int.lt_or_le (nthG l j).2 (nthG l p).2 with h2 | h2
        · refine absurd ⟨hf, .inr ?_⟩ hc
          rw [h]
          simp [less, h2]
        · exact h2
theorem invB_true {k : Nat} (h : k < l.length) (hb : badRun (nthG l k) = true) : invB l = true := List.any_eq_true.2 ⟨k, List.mem_range.2 h, hb⟩
theorem invB_false (h : ∀ j, j < l.length → badRun (nthG l j) = false) : invB l = false := by
  unfold invB
  rw [List.any_eq_false]; intro j hj; rw [h j (List.mem_range.1 hj)]; decide
theorem chooseE_zero (h : chooseE bt l n = 0) : 1 ≤ n ∧ invB l = false ∧ 0 ≤ pickTo bt l n l.length := by
  unfold chooseE at h
  split at h
  · cases h
  · split at h
    · cases h
    · split at h
      · cases h
      · rename_i h1 h2 h3
        exact ⟨by omega, by simpa using h2, by omega⟩
end
end Go.Proofs.Ytdglnbcliemafaa
