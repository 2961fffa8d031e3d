/-
  Plain mathematics of marks, over no program: one mark a bit, 64 a word.
-/
import Derived.Test.YtknbbondofijeaaPop
import Derived.Laws.ShiftsVarLaws
namespace Go.Proofs.Ytknbbondofijeaa
open Go.RowKit

/-- Mark 'k'. -/
def bit (zs : List Int) (k : Nat) : Bool := (nth zs (k / 64)).toNat.testBit (k % 64)
/-- Every number is a word of 64 bits. -/
def U64s (zs : List Int) : Prop := ∀ z ∈ zs, (Lit.int .u64 z).wf = true
theorem nth_u64 {zs : List Int} (h : U64s zs) (j : Nat) : 0 ≤ nth zs j ∧ nth zs j < 18446744073709551616 := by
  rcases Nat.lt_or_ge j zs.length with hj | hj
  · rw [nth_get _ _ hj]
    have := wf_u64.1 (h _ (List.getElem_mem hj))
    omega
  · have : nth zs j = 0 := by simp [nth, hj]
    omega
theorem toNat_lt {X : Int} (h : 0 ≤ X ∧ X < 18446744073709551616) : X.toNat < 18446744073709551616 := by omega
theorem shr_nat (X : Int) (j : Nat) (h0 : 0 ≤ X) : X / 2 ^ j = ((X.toNat / 2 ^ j : Nat) : Int) := by
  obtain ⟨x, rfl⟩ := Int.eq_ofNat_of_zero_le h0
  rw [Int.toNat_natCast]
  simp
theorem bit_test (X : Int) (j : Nat) (h : 0 ≤ X ∧ X < 18446744073709551616) : (bits .and .u64 (X / 2 ^ j) 1 == 1) = X.toNat.testBit j := by
  have hl : X.toNat / 2 ^ j ≤ X.toNat := Nat.div_le_self _ _
  have := u64_and_nat (X.toNat / 2 ^ j) 1 (by omega) (by omega)
  rw [shr_nat X j h.1, show (1 : Int) = ((1 : Nat) : Int) from rfl, this, nat_mask1, Nat.testBit_eq_decide_div_mod_eq]
  rcases Nat.mod_two_eq_zero_or_one (X.toNat / 2 ^ j) with e | e <;> rw [e] <;> rfl
theorem shr_zero (X : Int) (l : Nat) (h : 0 ≤ X ∧ X < 18446744073709551616) : X / 2 ^ l = 0 ↔ ∀ j, l ≤ j → j < 64 → X.toNat.testBit j = false := by
  rw [shr_nat X l h.1]
  constructor
  · intro e j hj hj2
    have e' : X.toNat / 2 ^ l = 0 := by omega
    have := Nat.testBit_div_two_pow (n := l) X.toNat (j - l)
    rw [e', Nat.zero_testBit] at this
    rw [show j - l + l = j by omega] at this
    exact this.symm
  · intro hh
    have : X.toNat / 2 ^ l = 0 := by
      apply Nat.eq_of_testBit_eq
      intro j
      rw [Nat.zero_testBit, Nat.testBit_div_two_pow]
      rcases Nat.lt_or_ge (j + l) 64 with hl | hl
      · exact hh _ (by omega) hl
      · apply Nat.testBit_lt_two_pow
        calc X.toNat < 2 ^ 64 := by omega
          _ ≤ 2 ^ (j + l) := Nat.pow_le_pow_right (by omega) hl
    rw [this]; rfl

/-- The lowest 'k' bits. -/
def lowN (k : Int) : Nat := if k ≤ 0 then 0 else if 64 ≤ k then 18446744073709551615 else 2 ^ k.toNat - 1
theorem lowN_lt (k : Int) : lowN k < 18446744073709551616 := by
  unfold lowN
  split
  · omega
  · split
    · omega
    · have : 2 ^ k.toNat ≤ 2 ^ 64 := Nat.pow_le_pow_right (by omega) (by omega)
      omega
theorem lowN_bit (k : Int) (j : Nat) : (lowN k).testBit j = decide (j < 64 ∧ (j : Int) < k) := by
  unfold lowN
  split
  · rw [Nat.zero_testBit, Bool.eq_iff_iff]; simp; omega
  · split
    · rw [show 18446744073709551615 = 2 ^ 64 - 1 from rfl, Nat.testBit_two_pow_sub_one, Bool.eq_iff_iff]; simp; omega
    · rw [Nat.testBit_two_pow_sub_one, Bool.eq_iff_iff]; simp; omega
theorem not_bit (y : Nat) (hy : y < 18446744073709551616) (j : Nat) : (18446744073709551615 - y).testBit j = (decide (j < 64) && !y.testBit j) := by
  have := Nat.testBit_two_pow_sub_succ (x := y) (n := 64) (by omega) j
  rwa [show 2 ^ 64 - (y + 1) = 18446744073709551615 - y by omega] at this
/-- The bits of word 'i' that belong to the 'l' marks from 'a' on. -/
def maskN (i a l : Nat) : Nat := lowN ((a : Int) + l - 64 * i) &&& (18446744073709551615 - lowN ((a : Int) - 64 * i))
theorem maskN_lt (i a l : Nat) : maskN i a l < 18446744073709551616 := by
  have := lowN_lt ((a : Int) + l - 64 * i)
  exact Nat.lt_of_le_of_lt Nat.and_le_left this
theorem maskN_bit (i a l j : Nat) : (maskN i a l).testBit j = decide (j < 64 ∧ a ≤ 64 * i + j ∧ 64 * i + j < a + l) := by
  unfold maskN
  rw [Nat.testBit_and, not_bit _ (lowN_lt _), lowN_bit, lowN_bit, Bool.eq_iff_iff]
  simp
  omega

/-- Word 'v' with the marks of 'm' set, or cleared. -/
def setN (v m : Nat) (on : Bool) : Nat := if on then v ||| m else v &&& (18446744073709551615 - m)
theorem setN_lt (v m : Nat) (on : Bool) (hv : v < 18446744073709551616) (hm : m < 18446744073709551616) : setN v m on < 18446744073709551616 := by
  unfold setN
  split
  · exact Nat.or_lt_two_pow (n := 64) (by omega) (by omega)
  · exact Nat.lt_of_le_of_lt Nat.and_le_left hv
/-- All words so. -/
def setL (zs : List Int) (a l : Nat) (on : Bool) : List Int := (List.range zs.length).map fun i => ((setN (nth zs i).toNat (maskN i a l) on : Nat) : Int)
theorem setL_length (zs : List Int) (a l : Nat) (on : Bool) : (setL zs a l on).length = zs.length := by simp [setL]
theorem setL_nth (zs : List Int) (a l : Nat) (on : Bool) (i : Nat) (h : i < zs.length) : nth (setL zs a l on) i = ((setN (nth zs i).toNat (maskN i a l) on : Nat) : Int) := by
  rw [nth_get _ _ (by rw [setL_length]; exact h)]; simp [setL]
theorem setL_bit {zs : List Int} (a l : Nat) (on : Bool) (k : Nat) (hk : k < 64 * zs.length) : bit (setL zs a l on) k = if a ≤ k ∧ k < a + l then on else bit zs k := by
  unfold bit
  rw [setL_nth _ _ _ _ _ (by omega), Int.toNat_natCast]
  have e : 64 * (k / 64) + k % 64 = k := by omega
  have hm : k % 64 < 64 := by omega
  unfold setN
  cases on
  · simp only [Bool.false_eq_true, if_false]
    rw [Nat.testBit_and, not_bit _ (maskN_lt _ _ _), maskN_bit, e]
    by_cases h : a ≤ k ∧ k < a + l
    · rw [if_pos h]; simp [h, hm]
    · rw [if_neg h]
      have : decide (k % 64 < 64 ∧ a ≤ k ∧ k < a + l) = false := by simp; omega
      rw [this]; simp [hm]
  · simp only [if_true]
    rw [Nat.testBit_or, maskN_bit, e]
    by_cases h : a ≤ k ∧ k < a + l
    · rw [if_pos h]; simp [h, hm]
    · rw [if_neg h]
      have : decide (k % 64 < 64 ∧ a ≤ k ∧ k < a + l) = false := by simp; omega
      rw [this]; simp
theorem setL_u64 {zs : List Int} (hz : U64s zs) (a l : Nat) (on : Bool) : U64s (setL zs a l on) := by
  intro z h
  obtain ⟨i, _, rfl⟩ := List.mem_map.1 h
  have h1 := nth_u64 hz i
  have := setN_lt (nth zs i).toNat (maskN i a l) on (by omega) (maskN_lt _ _ _)
  exact wf_u64.2 (by omega)

/-- Is there a bit that belongs to no word? -/
def stray (zs : List Int) (n : Int) : Bool := (List.range (64 * zs.length)).any fun k => decide (n ≤ (k : Int)) && bit zs k
theorem stray_true {zs : List Int} {n : Int} {k : Nat} (h1 : k < 64 * zs.length) (h2 : n ≤ k) (h3 : bit zs k = true) : stray zs n = true := by
  unfold stray
  rw [List.any_eq_true]
  exact ⟨k, List.mem_range.2 h1, by simp [h2, h3]⟩
theorem stray_false {zs : List Int} {n : Int} : stray zs n = false ↔ ∀ k : Nat, k < 64 * zs.length → n ≤ k → bit zs k = false := by
  unfold stray
  rw [List.any_eq_false]
  constructor
  · intro h k h1 h2
    have := h k (List.mem_range.2 h1)
    simpa [h2] using this
  · intro h k hk
    by_cases h2 : n ≤ (k : Int)
    · simp [h2, h k (List.mem_range.1 hk) h2]
    · simp [h2]
/-- The error of marks for 'n' words. -/
def marksE (zs : List Int) (n : Int) : Int := if n < 0 ∨ 256 < n then 4 else if (zs.length : Int) ≠ (n + 63) / 64 then 3 else if stray zs n then 3 else 0
theorem marksE_zero {zs : List Int} {n : Int} (h : marksE zs n = 0) : 0 ≤ n ∧ n ≤ 256 ∧ (zs.length : Int) = (n + 63) / 64 ∧ stray zs n = false := by
  unfold marksE at h
  split at h
  · omega
  · split at h
    · omega
    · split at h
      · omega
      · rename_i h1 h2 h3
        refine ⟨by omega, by omega, Classical.not_not.1 h2, by simpa using h3⟩
theorem marksE_four {zs : List Int} {n : Int} (h : n < 0 ∨ 256 < n) : marksE zs n = 4 := by unfold marksE; rw [if_pos h]
theorem marksE_len {zs : List Int} {n : Int} (h : ¬ (n < 0 ∨ 256 < n)) (hl : (zs.length : Int) ≠ (n + 63) / 64) : marksE zs n = 3 := by unfold marksE; rw [if_neg h, if_pos hl]
theorem marksE_stray {zs : List Int} {n : Int} (h : ¬ (n < 0 ∨ 256 < n)) (hl : (zs.length : Int) = (n + 63) / 64) (hs : stray zs n = true) : marksE zs n = 3 := by
  unfold marksE; rw [if_neg h, if_neg (by simpa using hl), if_pos hs]
theorem marksE_ok {zs : List Int} {n : Int} (h : ¬ (n < 0 ∨ 256 < n)) (hl : (zs.length : Int) = (n + 63) / 64) (hs : stray zs n = false) : marksE zs n = 0 := by
  unfold marksE; rw [if_neg h, if_neg (by simpa using hl), if_neg (by simp [hs])]
theorem marksE_set {zs : List Int} {n a l : Nat} {on : Bool} (h : marksE zs n = 0) (hr : a + l ≤ n) : marksE (setL zs a l on) n = 0 := by
  obtain ⟨h1, h2, h3, h4⟩ := marksE_zero h
  refine marksE_ok (by omega) (by rw [setL_length]; exact h3) (stray_false.2 fun k hk hn => ?_)
  rw [setL_length] at hk
  rw [setL_bit _ _ _ _ hk, if_neg (by omega)]
  exact stray_false.1 h4 k hk hn
/-- What the last word's high bits say. -/
theorem stray_last {zs : List Int} (hz : U64s zs) {n : Nat} (hl : zs.length = (n + 63) / 64) (hn : n % 64 ≠ 0) : nth zs (n / 64) / 2 ^ (n % 64) = 0 ↔ stray zs n = false := by
  rw [shr_zero _ _ (nth_u64 hz _), stray_false]
  constructor
  · intro h k hk hkn
    have e1 : k / 64 = n / 64 := by omega
    unfold bit
    rw [e1]
    exact h _ (by omega) (by omega)
  · intro h j hj hj2
    have := h (64 * (n / 64) + j) (by omega) (by omega)
    unfold bit at this
    rwa [show (64 * (n / 64) + j) / 64 = n / 64 by omega, show (64 * (n / 64) + j) % 64 = j by omega] at this

/-- The first number from 'a' on, of 'r', that the rule marks; 'a + r' if none. -/
def nextF (f : Nat → Bool) : Nat → Nat → Nat
  | 0, a => a
  | r + 1, a => if f a then a else nextF f r (a + 1)
theorem nextF_le (f : Nat → Bool) : ∀ r a, a ≤ nextF f r a ∧ nextF f r a ≤ a + r
  | 0, a => ⟨Nat.le_refl _, Nat.le_refl _⟩
  | r + 1, a => by
    unfold nextF
    split
    · omega
    · have := nextF_le f r (a + 1); omega
theorem nextF_none (f : Nat → Bool) : ∀ r a k, a ≤ k → k < nextF f r a → f k = false
  | 0, a, k, h1, h2 => by simp [nextF] at h2; omega
  | r + 1, a, k, h1, h2 => by
    unfold nextF at h2
    split at h2
    · omega
    · rename_i hf
      rcases Nat.eq_or_lt_of_le h1 with h | h
      · subst h; simpa using hf
      · exact nextF_none f r (a + 1) k h h2
theorem nextF_hit (f : Nat → Bool) : ∀ r a, nextF f r a < a + r → f (nextF f r a) = true
  | 0, a, h => by simp [nextF] at h
  | r + 1, a, h => by
    unfold nextF at h ⊢
    split
    · rename_i hf; exact hf
    · rename_i hf
      rw [if_neg hf] at h
      exact nextF_hit f r (a + 1) (by omega)
/-- The answer of Next. -/
def nextN (zs : List Int) (on : Bool) (n a : Nat) : Nat := nextF (fun k => bit zs k == on) (n - a) a
theorem nextN_step {zs : List Int} {on : Bool} {n k : Nat} (hk : k < n) (hb : bit zs k ≠ on) : nextN zs on n k = nextN zs on n (k + 1) := by
  unfold nextN
  rw [show n - k = (n - (k + 1)) + 1 by omega]
  conv => lhs; unfold nextF
  rw [if_neg (by simpa using hb)]
theorem nextN_stop {zs : List Int} {on : Bool} {n k : Nat} (hk : k < n) (hb : bit zs k = on) : nextN zs on n k = k := by
  unfold nextN
  rw [show n - k = (n - (k + 1)) + 1 by omega]
  unfold nextF
  rw [if_pos (by simpa using hb)]
theorem nextN_end {zs : List Int} {on : Bool} {n : Nat} : nextN zs on n n = n := by unfold nextN; rw [Nat.sub_self]; rfl
theorem nextN_le {zs : List Int} {on : Bool} {n a : Nat} (h : a ≤ n) : a ≤ nextN zs on n a ∧ nextN zs on n a ≤ n := by
  have := nextF_le (fun k => bit zs k == on) (n - a) a
  unfold nextN; omega
theorem nextN_none {zs : List Int} {on : Bool} {n a k : Nat} (h1 : a ≤ k) (h2 : k < nextN zs on n a) : bit zs k ≠ on := by
  have := nextF_none (fun k => bit zs k == on) (n - a) a k h1 h2
  simpa using this
theorem nextN_hit {zs : List Int} {on : Bool} {n a : Nat} (h : a ≤ n) (h2 : nextN zs on n a < n) : bit zs (nextN zs on n a) = on := by
  have := nextF_hit (fun k => bit zs k == on) (n - a) a (by unfold nextN at h2; omega)
  unfold nextN
  simpa using this

/-- One word's share of a count. -/
theorem pop_mask {zs : List Int} (i a l : Nat) : pop ((nth zs i).toNat &&& maskN i a l) = cnt (fun k => bit zs k && decide (a ≤ k ∧ k < a + l)) (64 * i) 64 := by
  unfold pop
  apply cnt_congr
  intro k hk
  rw [Nat.testBit_and, maskN_bit]
  unfold bit
  rw [show (64 * i + k) / 64 = i by omega, show (64 * i + k) % 64 = k by omega, Nat.zero_add]
  congr 1
  rw [Bool.eq_iff_iff]; simp; omega
theorem cnt_range {f : Nat → Bool} {a l N : Nat} (h : a + l ≤ N) : cnt (fun k => f k && decide (a ≤ k ∧ k < a + l)) 0 N = cnt f a l := by
  obtain ⟨r, rfl⟩ : ∃ r, N = a + (l + r) := ⟨N - a - l, by omega⟩
  rw [cnt_add, cnt_add, cnt_none a, cnt_none r, Nat.zero_add, Nat.zero_add, Nat.add_zero]
  · apply cnt_congr
    intro k hk
    have : decide (a ≤ a + k ∧ a + k < a + l) = true := by simp; omega
    rw [this]; simp
  · intro k hk
    have : decide (a ≤ 0 + a + l + k ∧ 0 + a + l + k < a + l) = false := by simp
    rw [this]; simp
  · intro k hk
    have : decide (a ≤ 0 + k ∧ 0 + k < a + l) = false := by simp; omega
    rw [this]; simp
end Go.Proofs.Ytknbbondofijeaa
