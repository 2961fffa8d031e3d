/-
  Parts of the proof of SameForms: RunM.
-/
import Derived.Laws.BitsAllLaws
import Derived.Laws.ShiftsVarLaws
import Derived.Test.YtjefbekdjgmmbaaSameFormsAb
namespace Go.Proofs.Ytjefbekdjgmmbaa
open Go.RowKit
/-- How many of the 'l' numbers from 'a' on the rule 'f' marks. -/
def cnt (f : Nat → Bool) (a : Nat) : Nat → Nat
  | 0 => 0
  | l + 1 => cnt f a l + if f (a + l) then 1 else 0
theorem and_step (q r M m : Nat) (hr : r < 256) (hm : m < 256) : (256 * q + r) &&& (256 * M + m) = 256 * (q &&& M) + (r &&& m) := by
  apply Nat.eq_of_testBit_eq
  intro j
  have hrm : r &&& m < 2 ^ 8 := Nat.and_lt_two_pow _ (by omega)
  rw [Nat.testBit_and, show 256 = 2 ^ 8 from rfl, Nat.testBit_two_pow_mul_add q (by omega), Nat.testBit_two_pow_mul_add M (by omega), Nat.testBit_two_pow_mul_add _ hrm]
  split <;> simp
/-- The byte 'c', 'n' times over. -/
def reps : Nat → Nat → Nat
  | 0, _ => 0
  | n + 1, c => 256 * reps n c + c
def sA (n x : Nat) : Nat := (x / 2 &&& reps n 85) + (x &&& reps n 85)
def sB (n x : Nat) : Nat := (x / 4 &&& reps n 51) + (x &&& reps n 51)
def sC (n x : Nat) : Nat := (x / 16 + x) &&& reps n 15
theorem lowA : ∀ c : Fin 2, ∀ r : Fin 256, (128 * c.val + r.val / 2) &&& 85 = r.val / 2 &&& 85 := by decide +kernel
theorem lowB : ∀ c : Fin 4, ∀ r : Fin 256, (64 * c.val + r.val / 4) &&& 51 = r.val / 4 &&& 51 := by decide +kernel
theorem sA_step (n q r : Nat) (hr : r < 256) : sA (n + 1) (256 * q + r) = 256 * sA n q + sA 1 r := by
  have e : (256 * q + r) / 2 = 256 * (q / 2) + (128 * (q % 2) + r / 2) := by omega
  have h := lowA ⟨q % 2, by omega⟩ ⟨r, hr⟩
  simp only at h
  simp only [sA, reps, Nat.mul_zero, Nat.zero_add]
  rw [e, and_step _ _ _ _ (by omega) (by omega), and_step _ _ _ _ hr (by omega), h]
  omega
theorem sB_step (n q r : Nat) (hr : r < 256) : sB (n + 1) (256 * q + r) = 256 * sB n q + sB 1 r := by
  have e : (256 * q + r) / 4 = 256 * (q / 4) + (64 * (q % 4) + r / 4) := by omega
  have h := lowB ⟨q % 4, by omega⟩ ⟨r, hr⟩
  simp only at h
  simp only [sB, reps, Nat.mul_zero, Nat.zero_add]
  rw [e, and_step _ _ _ _ (by omega) (by omega), and_step _ _ _ _ hr (by omega), h]
  omega
theorem sC_step (n q r : Nat) (hr : r ≤ 68) (hr' : r % 16 ≤ 4) (hq : q % 16 ≤ 4) : sC (n + 1) (256 * q + r) = 256 * sC n q + sC 1 r := by
  have e : (256 * q + r) / 16 + (256 * q + r) = 256 * (q / 16 + q) + (16 * (q % 16) + r / 16 + r) := by omega
  simp only [sC, reps, Nat.mul_zero, Nat.zero_add]
  rw [e, and_step _ _ _ _ (by omega) (by omega)]
  congr 1
  rw [nat_mask4, nat_mask4]
  omega
/-- Of one byte: all three steps give its number of set bits; what is between them is small. -/
theorem byteAll : ∀ r : Fin 256, sA 1 r.val < 256 ∧ sB 1 (sA 1 r.val) ≤ 68 ∧ sB 1 (sA 1 r.val) % 16 ≤ 4 ∧ sC 1 (sB 1 (sA 1 r.val)) = cnt r.val.testBit 0 8 ∧ cnt r.val.testBit 0 8 ≤ 8 := by decide +kernel
theorem sABC (n q r : Nat) (hr : r < 256) (hq : sB n (sA n q) % 16 ≤ 4) : sB (n + 1) (sA (n + 1) (256 * q + r)) % 16 ≤ 4 ∧ sC (n + 1) (sB (n + 1) (sA (n + 1) (256 * q + r))) = 256 * sC n (sB n (sA n q)) + cnt r.testBit 0 8 := by
  obtain ⟨h1, h2, h3, h4, h5⟩ := byteAll ⟨r, hr⟩
  simp only at h1 h2 h3 h4 h5
  rw [sA_step n q r hr, sB_step n _ _ h1, sC_step n _ _ h2 h3 hq, h4]
  exact ⟨by omega, rfl⟩
theorem sABC_zero (q : Nat) : sB 0 (sA 0 q) = 0 ∧ sC 0 (sB 0 (sA 0 q)) = 0 := by simp [sA, sB, sC, reps]
/-- The word behind the three first steps: the bytes' counts, a byte each. -/
theorem three (b0 b1 b2 b3 b4 b5 b6 b7 : Nat) (h0 : b0 < 256) (h1 : b1 < 256) (h2 : b2 < 256) (h3 : b3 < 256) (h4 : b4 < 256) (h5 : b5 < 256) (h6 : b6 < 256) (h7 : b7 < 256) :
    sC 8 (sB 8 (sA 8 (256 * (256 * (256 * (256 * (256 * (256 * (256 * (256 * 0 + b7) + b6) + b5) + b4) + b3) + b2) + b1) + b0))) =
      256 * (256 * (256 * (256 * (256 * (256 * (256 * (256 * 0 + cnt b7.testBit 0 8) + cnt b6.testBit 0 8) + cnt b5.testBit 0 8) + cnt b4.testBit 0 8) + cnt b3.testBit 0 8) + cnt b2.testBit 0 8) + cnt b1.testBit 0 8) + cnt b0.testBit 0 8 := by
  obtain ⟨z1, z2⟩ := sABC_zero 0
  have p7 := sABC 0 0 b7 h7 (by rw [z1]; omega)
  have p6 := sABC 1 _ b6 h6 p7.1
  have p5 := sABC 2 _ b5 h5 p6.1
  have p4 := sABC 3 _ b4 h4 p5.1
  have p3 := sABC 4 _ b3 h3 p4.1
  have p2 := sABC 5 _ b2 h2 p3.1
  have p1 := sABC 6 _ b1 h1 p2.1
  have p0 := sABC 7 _ b0 h0 p1.1
  rw [p0.2, p1.2, p2.2, p3.2, p4.2, p5.2, p6.2, p7.2, z2]
/-- Mark 'k'. -/
def bit (zs : List Int) (k : Nat) : Bool := (nth zs (k / 64)).toNat.testBit (k % 64)
/-- Every number is a word of 64 bits. -/
def U64s (zs : List Int) : Prop := ∀ z ∈ zs, (Lit.int .u64 z).wf = true
theorem nth_u64 {zs : List Int} (h : U64s zs) (j : Nat) : 0 ≤ nth zs j ∧ nth zs j < 18446744073709551616 := by
  rcases Nat.lt_or_ge j zs.length with hj | hj
  · rw [nth_get _ _ hj]
    have := wf_u64.1 (h _ (List.getElem_mem hj))
    omega
  · have : nth zs j = 0 := by simp [nth, hj]
    omega
theorem shr_nat (X : Int) (j : Nat) (h0 : 0 ≤ X) : X / 2 ^ j = ((X.toNat / 2 ^ j : Nat) : Int) := by
  obtain ⟨x, rfl⟩ := Int.eq_ofNat_of_zero_le h0
  rw [Int.toNat_natCast]
  simp
theorem bit_test (X : Int) (j : Nat) (h : 0 ≤ X ∧ X < 18446744073709551616) : (bits .and .u64 (X / 2 ^ j) 1 == 1) = X.toNat.testBit j := by
  have hl : X.toNat / 2 ^ j ≤ X.toNat := Nat.div_le_self _ _
  have := u64_and_nat (X.toNat / 2 ^ j) 1 (by omega) (by omega)
  rw [shr_nat X j h.1, show (1 : Int) = ((1 : Nat) : Int) from rfl, this, nat_mask1, Nat.testBit_eq_decide_div_mod_eq]
  rcases Nat.mod_two_eq_zero_or_one (X.toNat / 2 ^ j) with e | e <;> rw [e] <;> rfl
theorem shr_zero (X : Int) (l : Nat) (h : 0 ≤ X ∧ X < 18446744073709551616) : X / 2 ^ l = 0 ↔ ∀ j, l ≤ j → j < 64 → X.toNat.testBit j = false := by
  rw [shr_nat X l h.1]
  constructor
  · intro e j hj hj2
    have e' : X.toNat / 2 ^ l = 0 := by omega
    have := Nat.testBit_div_two_pow (n := l) X.toNat (j - l)
    rw [e', Nat.zero_testBit] at this
    rw [show j - l + l = j by omega] at this
    exact this.symm
  · intro hh
    have : X.toNat / 2 ^ l = 0 := by
      apply Nat.eq_of_testBit_eq
      intro j
      rw [Nat.zero_testBit, Nat.testBit_div_two_pow]
      rcases Nat.lt_or_ge (j + l) 64 with hl | hl
      · exact hh _ (by omega) hl
      · apply Nat.testBit_lt_two_pow
        calc X.toNat < 2 ^ 64 := by omega
          _ ≤ 2 ^ (j + l) := Nat.pow_le_pow_right (by omega) hl
    rw [this]; rfl
/-- The lowest 'k' bits. -/
def lowN (k : Int) : Nat := if k ≤ 0 then 0 else if 64 ≤ k then 18446744073709551615 else 2 ^ k.toNat - 1
theorem lowN_lt (k : Int) : lowN k < 18446744073709551616 := by
  unfold lowN
  split
  · omega
  · split
    · omega
    · have : 2 ^ k.toNat ≤ 2 ^ 64 := Nat.pow_le_pow_right (by omega) (by omega)
      omega
theorem lowN_bit (k : Int) (j : Nat) : (lowN k).testBit j = decide (j < 64 ∧ (j : Int) < k) := by
  unfold lowN
  split
  · rw [Nat.zero_testBit, Bool.eq_iff_iff]; simp; omega
  · split
    · rw [show 18446744073709551615 = 2 ^ 64 - 1 from rfl, Nat.testBit_two_pow_sub_one, Bool.eq_iff_iff]; simp; omega
    · rw [Nat.testBit_two_pow_sub_one, Bool.eq_iff_iff]; simp; omega
theorem not_bit (y : Nat) (hy : y < 18446744073709551616) (j : Nat) : (18446744073709551615 - y).testBit j = (decide (j < 64) && !y.testBit j) := by
  have := Nat.testBit_two_pow_sub_succ (x := y) (n := 64) (by omega) j
  rwa [show 2 ^ 64 - (y + 1) = 18446744073709551615 - y by omega] at this
/-- The bits of word 'i' that belong to the 'l' marks from 'a' on. -/
def maskN (i a l : Nat) : Nat := lowN ((a : Int) + l - 64 * i) &&& (18446744073709551615 - lowN ((a : Int) - 64 * i))
theorem maskN_lt (i a l : Nat) : maskN i a l < 18446744073709551616 := by
  have := lowN_lt ((a : Int) + l - 64 * i)
  exact Nat.lt_of_le_of_lt Nat.and_le_left this
theorem maskN_bit (i a l j : Nat) : (maskN i a l).testBit j = decide (j < 64 ∧ a ≤ 64 * i + j ∧ 64 * i + j < a + l) := by
  unfold maskN
  rw [Nat.testBit_and, not_bit _ (lowN_lt _), lowN_bit, lowN_bit, Bool.eq_iff_iff]
  simp
  omega
/-- Word 'v' with the marks of 'm' set, or cleared. -/
def setN (v m : Nat) (on : Bool) : Nat := if on then v ||| m else v &&& (18446744073709551615 - m)
theorem setN_lt (v m : Nat) (on : Bool) (hv : v < 18446744073709551616) (hm : m < 18446744073709551616) : setN v m on < 18446744073709551616 := by
  unfold setN
  split
  · exact Nat.or_lt_two_pow (n := 64) (by omega) (by omega)
  · exact Nat.lt_of_le_of_lt Nat.and_le_left hv
/-- All words so. -/
def setL (zs : List Int) (a l : Nat) (on : Bool) : List Int := (List.range zs.length).map fun i => ((setN (nth zs i).toNat (maskN i a l) on : Nat) : Int)
theorem setL_length (zs : List Int) (a l : Nat) (on : Bool) : (setL zs a l on).length = zs.length := by simp [setL]
theorem setL_nth (zs : List Int) (a l : Nat) (on : Bool) (i : Nat) (h : i < zs.length) : nth (setL zs a l on) i = ((setN (nth zs i).toNat (maskN i a l) on : Nat) : Int) := by
  rw [nth_get _ _ (by rw [setL_length]; exact h)]; simp [setL]
theorem setL_bit {zs : List Int} (a l : Nat) (on : Bool) (k : Nat) (hk : k < 64 * zs.length) : bit (setL zs a l on) k = if a ≤ k ∧ k < a + l then on else bit zs k := by
  unfold bit
  rw [setL_nth _ _ _ _ _ (by omega), Int.toNat_natCast]
  have e : 64 * (k / 64) + k % 64 = k := by omega
  have hm : k % 64 < 64 := by omega
  unfold setN
  cases on
  · simp only [Bool.false_eq_true, if_false]
    rw [Nat.testBit_and, not_bit _ (maskN_lt _ _ _), maskN_bit, e]
    by_cases h : a ≤ k ∧ k < a + l
    · rw [if_pos h]; simp [h, hm]
    · rw [if_neg h]
      have : decide (k % 64 < 64 ∧ a ≤ k ∧ k < a + l) = false := by simp; omega
      rw [this]; simp [hm]
  · simp only [if_true]
    rw [Nat.testBit_or, maskN_bit, e]
    by_cases h : a ≤ k ∧ k < a + l
    · rw [if_pos h]; simp [h, hm]
    · rw [if_neg h]
      have : decide (k % 64 < 64 ∧ a ≤ k ∧ k < a + l) = false := by simp; omega
      rw [this]; simp
/-- Is there a bit that belongs to no word? -/
def stray (zs : List Int) (n : Int) : Bool := (List.range (64 * zs.length)).any fun k => decide (n ≤ (k : Int)) && bit zs k
theorem stray_false {zs : List Int} {n : Int} : stray zs n = false ↔ ∀ k : Nat, k < 64 * zs.length → n ≤ k → bit zs k = false := by
  unfold stray
  rw [List.any_eq_false]
  constructor
  · intro h k h1 h2
    have := h k (List.mem_range.2 h1)
    simpa [h2] using this
  · intro h k hk
    by_cases h2 : n ≤ (k : Int)
    · simp [h2, h k (List.mem_range.1 hk) h2]
    · simp [h2]
/-- The error of marks for 'n' words. -/
def marksE (zs : List Int) (n : Int) : Int := if n < 0 ∨ 256 < n then 4 else if (zs.length : Int) ≠ (n + 63) / 64 then 3 else if stray zs n then 3 else 0
theorem marksE_zero {zs : List Int} {n : Int} (h : marksE zs n = 0) : 0 ≤ n ∧ n ≤ 256 ∧ (zs.length : Int) = (n + 63) / 64 ∧ stray zs n = false := by
  unfold marksE at h
  split at h
  · omega
  · split at h
    · omega
    · split at h
      · omega
      · rename_i h1 h2 h3
        refine ⟨by omega, by omega, Classical.not_not.1 h2, by simpa using h3⟩
theorem marksE_four {zs : List Int} {n : Int} (h : n < 0 ∨ 256 < n) : marksE zs n = 4 := by unfold marksE; rw [if_pos h]
theorem marksE_len {zs : List Int} {n : Int} (h : ¬ (n < 0 ∨ 256 < n)) (hl : (zs.length : Int) ≠ (n + 63) / 64) : marksE zs n = 3 := by unfold marksE; rw [if_neg h, if_pos hl]
theorem marksE_ok {zs : List Int} {n : Int} (h : ¬ (n < 0 ∨ 256 < n)) (hl : (zs.length : Int) = (n + 63) / 64) (hs : stray zs n = false) : marksE zs n = 0 := by
  unfold marksE; rw [if_neg h, if_neg (by simpa using hl), if_neg (by simp [hs])]
theorem marksE_set {zs : List Int} {n a l : Nat} {on : Bool} (h : marksE zs n = 0) (hr : a + l ≤ n) : marksE (setL zs a l on) n = 0 := by
  obtain ⟨h1, h2, h3, h4⟩ := marksE_zero h
  refine marksE_ok (by omega) (by rw [setL_length]; exact h3) (stray_false.2 fun k hk hn => ?_)
  rw [setL_length] at hk
  rw [setL_bit _ _ _ _ hk, if_neg (by omega)]
  exact stray_false.1 h4 k hk hn
/-- What the last word's high bits say. -/
theorem stray_last {zs : List Int} (hz : U64s zs) {n : Nat} (hl : zs.length = (n + 63) / 64) (hn : n % 64 ≠ 0) : nth zs (n / 64) / 2 ^ (n % 64) = 0 ↔ stray zs n = false := by
  rw [shr_zero _ _ (nth_u64 hz _), stray_false]
  constructor
  · intro h k hk hkn
    have e1 : k / 64 = n / 64 := by omega
    unfold bit
    rw [e1]
    exact h _ (by omega) (by omega)
  · intro h j hj hj2
    have := h (64 * (n / 64) + j) (by omega) (by omega)
    unfold bit at this
    rwa [show (64 * (n / 64) + j) / 64 = n / 64 by omega, show (64 * (n / 64) + j) % 64 = j by omega] at this
/-- A run's two cells. -/
def runC (r : Int × Int) : List Value := [.int .i64 r.1, .int .i64 r.2]
theorem nthG_append_left {α : Type} [Inhabited α] (l m : List α) (i : Nat) (h : i < l.length) : nthG (l ++ m) i = nthG l i := by
  simp [nthG, List.getElem?_append_left h]
end Go.Proofs.Ytjefbekdjgmmbaa
