/-
  Parts of the proof of CarrySlides: RunM.
-/
import Derived.Laws.BitsAllLaws
import Derived.Laws.ShiftsVarLaws
import Derived.Test.YtjefbekdjgmmbaaCarrySlidesAb
namespace Go.Proofs.Ytjefbekdjgmmbaa
open Go.RowKit
/-- How many of the 'l' numbers from 'a' on the rule 'f' marks. -/
def cnt (f : Nat → Bool) (a : Nat) : Nat → Nat
  | 0 => 0
  | l + 1 => cnt f a l + if f (a + l) then 1 else 0
theorem cnt_add (f : Nat → Bool) (a l m : Nat) : cnt f a (l + m) = cnt f a l + cnt f (a + l) m := by
  induction m with
  | zero => rfl
  | succ m ih => rw [← Nat.add_assoc]; simp only [cnt, ih, Nat.add_assoc]
theorem cnt_congr {f g : Nat → Bool} {a b : Nat} : ∀ l, (∀ k, k < l → f (a + k) = g (b + k)) → cnt f a l = cnt g b l
  | 0, _ => rfl
  | l + 1, h => by simp only [cnt]; rw [cnt_congr l (fun k hk => h k (by omega)), h l (by omega)]
theorem cnt_none {f : Nat → Bool} {a : Nat} : ∀ l, (∀ k, k < l → f (a + k) = false) → cnt f a l = 0
  | 0, _ => rfl
  | l + 1, h => by simp only [cnt]; rw [cnt_none l (fun k hk => h k (by omega)), h l (by omega)]; rfl
theorem and_step (q r M m : Nat) (hr : r < 256) (hm : m < 256) : (256 * q + r) &&& (256 * M + m) = 256 * (q &&& M) + (r &&& m) := by
  apply Nat.eq_of_testBit_eq
  intro j
  have hrm : r &&& m < 2 ^ 8 := Nat.and_lt_two_pow _ (by omega)
  rw [Nat.testBit_and, show 256 = 2 ^ 8 from rfl, Nat.testBit_two_pow_mul_add q (by omega), Nat.testBit_two_pow_mul_add M (by omega), Nat.testBit_two_pow_mul_add _ hrm]
  split <;> simp
/-- The byte 'c', 'n' times over. -/
def reps : Nat → Nat → Nat
  | 0, _ => 0
  | n + 1, c => 256 * reps n c + c
def sA (n x : Nat) : Nat := (x / 2 &&& reps n 85) + (x &&& reps n 85)
def sB (n x : Nat) : Nat := (x / 4 &&& reps n 51) + (x &&& reps n 51)
def sC (n x : Nat) : Nat := (x / 16 + x) &&& reps n 15
theorem lowA : ∀ c : Fin 2, ∀ r : Fin 256, (128 * c.val + r.val / 2) &&& 85 = r.val / 2 &&& 85 := by decide +kernel
theorem lowB : ∀ c : Fin 4, ∀ r : Fin 256, (64 * c.val + r.val / 4) &&& 51 = r.val / 4 &&& 51 := by decide +kernel
theorem sA_step (n q r : Nat) (hr : r < 256) : sA (n + 1) (256 * q + r) = 256 * sA n q + sA 1 r := by
  have e : (256 * q + r) / 2 = 256 * (q / 2) + (128 * (q % 2) + r / 2) := by omega
  have h := lowA ⟨q % 2, by omega⟩ ⟨r, hr⟩
  simp only at h
  simp only [sA, reps, Nat.mul_zero, Nat.zero_add]
  rw [e, and_step _ _ _ _ (by omega) (by omega), and_step _ _ _ _ hr (by omega), h]
  omega
theorem sB_step (n q r : Nat) (hr : r < 256) : sB (n + 1) (256 * q + r) = 256 * sB n q + sB 1 r := by
  have e : (256 * q + r) / 4 = 256 * (q / 4) + (64 * (q % 4) + r / 4) := by omega
  have h := lowB ⟨q % 4, by omega⟩ ⟨r, hr⟩
  simp only at h
  simp only [sB, reps, Nat.mul_zero, Nat.zero_add]
  rw [e, and_step _ _ _ _ (by omega) (by omega), and_step _ _ _ _ hr (by omega), h]
  omega
theorem sC_step (n q r : Nat) (hr : r ≤ 68) (hr' : r % 16 ≤ 4) (hq : q % 16 ≤ 4) : sC (n + 1) (256 * q + r) = 256 * sC n q + sC 1 r := by
  have e : (256 * q + r) / 16 + (256 * q + r) = 256 * (q / 16 + q) + (16 * (q % 16) + r / 16 + r) := by omega
  simp only [sC, reps, Nat.mul_zero, Nat.zero_add]
  rw [e, and_step _ _ _ _ (by omega) (by omega)]
  congr 1
  rw [nat_mask4, nat_mask4]
  omega
/-- Of one byte: all three steps give its number of set bits; what is between them is small. -/
theorem byteAll : ∀ r : Fin 256, sA 1 r.val < 256 ∧ sB 1 (sA 1 r.val) ≤ 68 ∧ sB 1 (sA 1 r.val) % 16 ≤ 4 ∧ sC 1 (sB 1 (sA 1 r.val)) = cnt r.val.testBit 0 8 ∧ cnt r.val.testBit 0 8 ≤ 8 := by decide +kernel
theorem sABC (n q r : Nat) (hr : r < 256) (hq : sB n (sA n q) % 16 ≤ 4) : sB (n + 1) (sA (n + 1) (256 * q + r)) % 16 ≤ 4 ∧ sC (n + 1) (sB (n + 1) (sA (n + 1) (256 * q + r))) = 256 * sC n (sB n (sA n q)) + cnt r.testBit 0 8 := by
  obtain ⟨h1, h2, h3, h4, h5⟩ := byteAll ⟨r, hr⟩
  simp only at h1 h2 h3 h4 h5
  rw [sA_step n q r hr, sB_step n _ _ h1, sC_step n _ _ h2 h3 hq, h4]
  exact ⟨by omega, rfl⟩
theorem sABC_zero (q : Nat) : sB 0 (sA 0 q) = 0 ∧ sC 0 (sB 0 (sA 0 q)) = 0 := by simp [sA, sB, sC, reps]
/-- The word behind the three first steps: the bytes' counts, a byte each. -/
theorem three (b0 b1 b2 b3 b4 b5 b6 b7 : Nat) (h0 : b0 < 256) (h1 : b1 < 256) (h2 : b2 < 256) (h3 : b3 < 256) (h4 : b4 < 256) (h5 : b5 < 256) (h6 : b6 < 256) (h7 : b7 < 256) :
    sC 8 (sB 8 (sA 8 (256 * (256 * (256 * (256 * (256 * (256 * (256 * (256 * 0 + b7) + b6) + b5) + b4) + b3) + b2) + b1) + b0))) =
      256 * (256 * (256 * (256 * (256 * (256 * (256 * (256 * 0 + cnt b7.testBit 0 8) + cnt b6.testBit 0 8) + cnt b5.testBit 0 8) + cnt b4.testBit 0 8) + cnt b3.testBit 0 8) + cnt b2.testBit 0 8) + cnt b1.testBit 0 8) + cnt b0.testBit 0 8 := by
  obtain ⟨z1, z2⟩ := sABC_zero 0
  have p7 := sABC 0 0 b7 h7 (by rw [z1]; omega)
  have p6 := sABC 1 _ b6 h6 p7.1
  have p5 := sABC 2 _ b5 h5 p6.1
  have p4 := sABC 3 _ b4 h4 p5.1
  have p3 := sABC 4 _ b3 h3 p4.1
  have p2 := sABC 5 _ b2 h2 p3.1
  have p1 := sABC 6 _ b1 h1 p2.1
  have p0 := sABC 7 _ b0 h0 p1.1
  rw [p0.2, p1.2, p2.2, p3.2, p4.2, p5.2, p6.2, p7.2, z2]
/-- Mark 'k'. -/
def bit (zs : List Int) (k : Nat) : Bool := (nth zs (k / 64)).toNat.testBit (k % 64)
/-- Every number is a word of 64 bits. -/
def U64s (zs : List Int) : Prop := ∀ z ∈ zs, (Lit.int .u64 z).wf = true
theorem nth_u64 {zs : List Int} (h : U64s zs) (j : Nat) : 0 ≤ nth zs j ∧ nth zs j < 18446744073709551616 := by
  rcases Nat.lt_or_ge j zs.length with hj | hj
  · rw [nth_get _ _ hj]
    have := wf_u64.1 (h _ (List.getElem_mem hj))
    omega
  · have : nth zs j = 0 := by simp [nth, hj]
    omega
theorem shr_nat (X : Int) (j : Nat) (h0 : 0 ≤ X) : X / 2 ^ j = ((X.toNat / 2 ^ j : Nat) : Int) := by
  obtain ⟨x, rfl⟩ := Int.eq_ofNat_of_zero_le h0
  rw [Int.toNat_natCast]
  simp
theorem bit_test (X : Int) (j : Nat) (h : 0 ≤ X ∧ X < 18446744073709551616) : (bits .and .u64 (X / 2 ^ j) 1 == 1) = X.toNat.testBit j := by
  have hl : X.toNat / 2 ^ j ≤ X.toNat := Nat.div_le_self _ _
  have := u64_and_nat (X.toNat / 2 ^ j) 1 (by omega) (by omega)
  rw [shr_nat X j h.1, show (1 : Int) = ((1 : Nat) : Int) from rfl, this, nat_mask1, Nat.testBit_eq_decide_div_mod_eq]
  rcases Nat.mod_two_eq_zero_or_one (X.toNat / 2 ^ j) with e | e <;> rw [e] <;> rfl
theorem shr_zero (X : Int) (l : Nat) (h : 0 ≤ X ∧ X < 18446744073709551616) : X / 2 ^ l = 0 ↔ ∀ j, l ≤ j → j < 64 → X.toNat.testBit j = false := by
  rw [shr_nat X l h.1]
  constructor
  · intro e j hj hj2
    have e' : X.toNat / 2 ^ l = 0 := by omega
    have := Nat.testBit_div_two_pow (n := l) X.toNat (j - l)
    rw [e', Nat.zero_testBit] at this
    rw [show j - l + l = j by omega] at this
    exact this.symm
  · intro hh
    have : X.toNat / 2 ^ l = 0 := by
      apply Nat.eq_of_testBit_eq
      intro j
      rw [Nat.zero_testBit, Nat.testBit_div_two_pow]
      rcases Nat.lt_or_ge (j + l) 64 with hl | hl
      · exact hh _ (by omega) hl
      · apply Nat.testBit_lt_two_pow
        calc X.toNat < 2 ^ 64 := by omega
          _ ≤ 2 ^ (j + l) := Nat.pow_le_pow_right (by omega) hl
    rw [this]; rfl
/-- The lowest 'k' bits. -/
def lowN (k : Int) : Nat := if k ≤ 0 then 0 else if 64 ≤ k then 18446744073709551615 else 2 ^ k.toNat - 1
theorem lowN_lt (k : Int) : lowN k < 18446744073709551616 := by
  unfold lowN
  split
  · omega
  · split
    · omega
    · have : 2 ^ k.toNat ≤ 2 ^ 64 := Nat.pow_le_pow_right (by omega) (by omega)
      omega
theorem lowN_bit (k : Int) (j : Nat) : (lowN k).testBit j = decide (j < 64 ∧ (j : Int) < k) := by
  unfold lowN
  split
  · rw [Nat.zero_testBit, Bool.eq_iff_iff]; simp; omega
  · split
    · rw [show 18446744073709551615 = 2 ^ 64 - 1 from rfl, Nat.testBit_two_pow_sub_one, Bool.eq_iff_iff]; simp; omega
    · rw [Nat.testBit_two_pow_sub_one, Bool.eq_iff_iff]; simp; omega
theorem not_bit (y : Nat) (hy : y < 18446744073709551616) (j : Nat) : (18446744073709551615 - y).testBit j = (decide (j < 64) && !y.testBit j) := by
  have := Nat.testBit_two_pow_sub_succ (x := y) (n := 64) (by omega) j
  rwa [show 2 ^ 64 - (y + 1) = 18446744073709551615 - y by omega] at this
/-- The bits of word 'i' that belong to the 'l' marks from 'a' on. -/
def maskN (i a l : Nat) : Nat := lowN ((a : Int) + l - 64 * i) &&& (18446744073709551615 - lowN ((a : Int) - 64 * i))
theorem maskN_lt (i a l : Nat) : maskN i a l < 18446744073709551616 := by
  have := lowN_lt ((a : Int) + l - 64 * i)
  exact Nat.lt_of_le_of_lt Nat.and_le_left this
theorem maskN_bit (i a l j : Nat) : (maskN i a l).testBit j = decide (j < 64 ∧ a ≤ 64 * i + j ∧ 64 * i + j < a + l) := by
  unfold maskN
  rw [Nat.testBit_and, not_bit _ (lowN_lt _), lowN_bit, lowN_bit, Bool.eq_iff_iff]
  simp
  omega
/-- Word 'v' with the marks of 'm' set, or cleared. -/
def setN (v m : Nat) (on : Bool) : Nat := if on then v ||| m else v &&& (18446744073709551615 - m)
theorem setN_lt (v m : Nat) (on : Bool) (hv : v < 18446744073709551616) (hm : m < 18446744073709551616) : setN v m on < 18446744073709551616 := by
  unfold setN
  split
  · exact Nat.or_lt_two_pow (n := 64) (by omega) (by omega)
  · exact Nat.lt_of_le_of_lt Nat.and_le_left hv
/-- All words so. -/
def setL (zs : List Int) (a l : Nat) (on : Bool) : List Int := (List.range zs.length).map fun i => ((setN (nth zs i).toNat (maskN i a l) on : Nat) : Int)
theorem setL_length (zs : List Int) (a l : Nat) (on : Bool) : (setL zs a l on).length = zs.length := by simp [setL]
theorem setL_nth (zs : List Int) (a l : Nat) (on : Bool) (i : Nat) (h : i < zs.length) : nth (setL zs a l on) i = ((setN (nth zs i).toNat (maskN i a l) on : Nat) : Int) := by
  rw [nth_get _ _ (by rw [setL_length]; exact h)]; simp [setL]
theorem setL_bit {zs : List Int} (a l : Nat) (on : Bool) (k : Nat) (hk : k < 64 * zs.length) : bit (setL zs a l on) k = if a ≤ k ∧ k < a + l then on else bit zs k := by
  unfold bit
  rw [setL_nth _ _ _ _ _ (by omega), Int.toNat_natCast]
  have e : 64 * (k / 64) + k % 64 = k := by omega
  have hm : k % 64 < 64 := by omega
  unfold setN
  cases on
  · simp only [Bool.false_eq_true, if_false]
    rw [Nat.testBit_and, not_bit _ (maskN_lt _ _ _), maskN_bit, e]
    by_cases h : a ≤ k ∧ k < a + l
    · rw [if_pos h]; simp [h, hm]
    · rw [if_neg h]
      have : decide (k % 64 < 64 ∧ a ≤ k ∧ k < a + l) = false := by simp; omega
      rw [this]; simp [hm]
  · simp only [if_true]
    rw [Nat.testBit_or, maskN_bit, e]
    by_cases h : a ≤ k ∧ k < a + l
    · rw [if_pos h]; simp [h, hm]
    · rw [if_neg h]
      have : decide (k % 64 < 64 ∧ a ≤ k ∧ k < a + l) = false := by simp; omega
      rw [this]; simp
/-- Is there a bit that belongs to no word? -/
def stray (zs : List Int) (n : Int) : Bool := (List.range (64 * zs.length)).any fun k => decide (n ≤ (k : Int)) && bit zs k
theorem stray_false {zs : List Int} {n : Int} : stray zs n = false ↔ ∀ k : Nat, k < 64 * zs.length → n ≤ k → bit zs k = false := by
  unfold stray
  rw [List.any_eq_false]
  constructor
  · intro h k h1 h2
    have := h k (List.mem_range.2 h1)
    simpa [h2] using this
  · intro h k hk
    by_cases h2 : n ≤ (k : Int)
    · simp [h2, h k (List.mem_range.1 hk) h2]
    · simp [h2]
/-- The error of marks for 'n' words. -/
def marksE (zs : List Int) (n : Int) : Int := if n < 0 ∨ 256 < n then 4 else if (zs.length : Int) ≠ (n + 63) / 64 then 3 else if stray zs n then 3 else 0
theorem marksE_zero {zs : List Int} {n : Int} (h : marksE zs n = 0) : 0 ≤ n ∧ n ≤ 256 ∧ (zs.length : Int) = (n + 63) / 64 ∧ stray zs n = false := by
  unfold marksE at h
  split at h
  · omega
  · split at h
    · omega
    · split at h
      · omega
      · rename_i h1 h2 h3
        refine ⟨by omega, by omega, Classical.not_not.1 h2, by simpa using h3⟩
theorem marksE_four {zs : List Int} {n : Int} (h : n < 0 ∨ 256 < n) : marksE zs n = 4 := by unfold marksE; rw [if_pos h]
theorem marksE_len {zs : List Int} {n : Int} (h : ¬ (n < 0 ∨ 256 < n)) (hl : (zs.length : Int) ≠ (n + 63) / 64) : marksE zs n = 3 := by unfold marksE; rw [if_neg h, if_pos hl]
theorem marksE_ok {zs : List Int} {n : Int} (h : ¬ (n < 0 ∨ 256 < n)) (hl : (zs.length : Int) = (n + 63) / 64) (hs : stray zs n = false) : marksE zs n = 0 := by
  unfold marksE; rw [if_neg h, if_neg (by simpa using hl), if_neg (by simp [hs])]
theorem marksE_set {zs : List Int} {n a l : Nat} {on : Bool} (h : marksE zs n = 0) (hr : a + l ≤ n) : marksE (setL zs a l on) n = 0 := by
  obtain ⟨h1, h2, h3, h4⟩ := marksE_zero h
  refine marksE_ok (by omega) (by rw [setL_length]; exact h3) (stray_false.2 fun k hk hn => ?_)
  rw [setL_length] at hk
  rw [setL_bit _ _ _ _ hk, if_neg (by omega)]
  exact stray_false.1 h4 k hk hn
/-- What the last word's high bits say. -/
theorem stray_last {zs : List Int} (hz : U64s zs) {n : Nat} (hl : zs.length = (n + 63) / 64) (hn : n % 64 ≠ 0) : nth zs (n / 64) / 2 ^ (n % 64) = 0 ↔ stray zs n = false := by
  rw [shr_zero _ _ (nth_u64 hz _), stray_false]
  constructor
  · intro h k hk hkn
    have e1 : k / 64 = n / 64 := by omega
    unfold bit
    rw [e1]
    exact h _ (by omega) (by omega)
  · intro h j hj hj2
    have := h (64 * (n / 64) + j) (by omega) (by omega)
    unfold bit at this
    rwa [show (64 * (n / 64) + j) / 64 = n / 64 by omega, show (64 * (n / 64) + j) % 64 = j by omega] at this
theorem cnt_range {f : Nat → Bool} {a l N : Nat} (h : a + l ≤ N) : cnt (fun k => f k && decide (a ≤ k ∧ k < a + l)) 0 N = cnt f a l := by
  obtain ⟨r, rfl⟩ : ∃ r, N = a + (l + r) := ⟨N - a - l, by omega⟩
  rw [cnt_add, cnt_add, cnt_none a, cnt_none r, Nat.zero_add, Nat.zero_add, Nat.add_zero]
  · apply cnt_congr
    intro k hk
    have : decide (a ≤ a + k ∧ a + k < a + l) = true := by simp; omega
    rw [this]; simp
  · intro k hk
    have : decide (a ≤ 0 + a + l + k ∧ 0 + a + l + k < a + l) = false := by simp
    rw [this]; simp
  · intro k hk
    have : decide (a ≤ 0 + k ∧ 0 + k < a + l) = false := by simp; omega
    rw [this]; simp
/-- A run's two cells. -/
def runC (r : Int × Int) : List Value := [.int .i64 r.1, .int .i64 r.2]
theorem runC_len (r : Int × Int) : (runC r).length = 2 := rfl
theorem runC_one (r : Int × Int) : ∀ u ∈ runC r, u.oneCell' = true := by
  intro u hu
  rcases List.mem_cons.1 hu with rfl | hu
  · rfl
  · rw [List.mem_singleton.1 hu]; rfl
/-- The last run one longer. -/
def bump (l : List (Int × Int)) : List (Int × Int) := l.set (l.length - 1) ((nthG l (l.length - 1)).1, (nthG l (l.length - 1)).2 + 1)
/-- The runs of the first 'k' numbers. -/
def runsTo (f : Nat → Bool) : Nat → List (Int × Int)
  | 0 => []
  | k + 1 => if f k = true then (if 0 < k ∧ f (k - 1) = true then bump (runsTo f k) else runsTo f k ++ [((k : Int), 1)]) else runsTo f k
theorem runsTo_off {f : Nat → Bool} {k : Nat} (h : f k = false) : runsTo f (k + 1) = runsTo f k := by
  conv => lhs; unfold runsTo
  rw [if_neg (by rw [h]; decide)]
theorem runsTo_new {f : Nat → Bool} {k : Nat} (h : f k = true) (h0 : ¬ (0 < k ∧ f (k - 1) = true)) : runsTo f (k + 1) = runsTo f k ++ [((k : Int), 1)] := by
  conv => lhs; unfold runsTo
  rw [if_pos h, if_neg h0]
theorem runsTo_on {f : Nat → Bool} {k : Nat} (h : f k = true) (h0 : 0 < k ∧ f (k - 1) = true) : runsTo f (k + 1) = bump (runsTo f k) := by
  conv => lhs; unfold runsTo
  rw [if_pos h, if_pos h0]
theorem bump_length (l : List (Int × Int)) : (bump l).length = l.length := by simp [bump]
theorem bump_snoc (l : List (Int × Int)) (a b : Int) : bump (l ++ [(a, b)]) = l ++ [(a, b + 1)] := by
  unfold bump
  rw [show (l ++ [(a, b)]).length - 1 = l.length by simp]
  simp [nthG, List.set_append_right]
/-- Nothing marked: nothing new. -/
theorem runsTo_gap {f : Nat → Bool} {a : Nat} : ∀ d, (∀ k, a ≤ k → k < a + d → f k = false) → runsTo f (a + d) = runsTo f a
  | 0, _ => rfl
  | d + 1, h => by rw [← Nat.add_assoc, runsTo_off (h (a + d) (by omega) (by omega)), runsTo_gap d fun k h1 h2 => h k h1 (by omega)]
/-- A whole run. -/
theorem runsTo_run {f : Nat → Bool} {a : Nat} (h0 : a = 0 ∨ f (a - 1) = false) : ∀ d, (∀ k, a ≤ k → k < a + (d + 1) → f k = true) → runsTo f (a + (d + 1)) = runsTo f a ++ [((a : Int), (d : Int) + 1)]
  | 0, h => by
    rw [Nat.zero_add, runsTo_new (h a (by omega) (by omega))]
    · rfl
    · rintro ⟨h1, h2⟩
      rcases h0 with h0 | h0
      · omega
      · rw [h0] at h2; cases h2
  | d + 1, h => by
    rw [show a + (d + 1 + 1) = a + (d + 1) + 1 by omega, runsTo_on (h (a + (d + 1)) (by omega) (by omega)) ⟨by omega, h _ (by omega) (by omega)⟩, runsTo_run h0 d fun k h1 h2 => h k h1 (by omega), bump_snoc]
    congr 3
/-- What is known of the runs of the first 'n' numbers: each is in range and not empty, they stand apart and in order, they hold just the marked numbers, and their lengths add up. -/
structure Runs (f : Nat → Bool) (n : Nat) (l : List (Int × Int)) : Prop where
  pos : ∀ i, i < l.length → 1 ≤ (nthG l i).2 ∧ 0 ≤ (nthG l i).1 ∧ (nthG l i).1 + (nthG l i).2 ≤ n
  apart : ∀ i, i + 1 < l.length → (nthG l i).1 + (nthG l i).2 < (nthG l (i + 1)).1
  sum : (l.map (·.2)).sum = (cnt f 0 n : Nat)
  all : ∀ k : Nat, k < n → (f k = true ↔ ∃ i, i < l.length ∧ (nthG l i).1 ≤ k ∧ (k : Int) < (nthG l i).1 + (nthG l i).2)
  last : 0 < n → f (n - 1) = true → 0 < l.length ∧ (nthG l (l.length - 1)).1 + (nthG l (l.length - 1)).2 = n
  edge : 0 < n → f (n - 1) = false → ∀ i, i < l.length → (nthG l i).1 + (nthG l i).2 < n
theorem nthG_append_left {α : Type} [Inhabited α] (l m : List α) (i : Nat) (h : i < l.length) : nthG (l ++ m) i = nthG l i := by
  simp [nthG, List.getElem?_append_left h]
theorem nthG_snoc {α : Type} [Inhabited α] (l : List α) (a : α) : nthG (l ++ [a]) l.length = a := by simp [nthG]
theorem nthG_set_same {α : Type} [Inhabited α] (l : List α) (i : Nat) (a : α) (h : i < l.length) : nthG (l.set i a) i = a := by simp [nthG, h]
theorem nthG_set_other {α : Type} [Inhabited α] (l : List α) (i j : Nat) (a : α) (h : i ≠ j) : nthG (l.set i a) j = nthG l j := by simp [nthG, h]
theorem sum_bump (l : List (Int × Int)) (h : 0 < l.length) : ((bump l).map (·.2)).sum = (l.map (·.2)).sum + 1 := by
  obtain ⟨m, x, rfl⟩ : ∃ m x, l = m ++ [x] := ⟨l.dropLast, l.getLast (by intro h0; simp [h0] at h), (List.dropLast_concat_getLast _).symm⟩
  rw [show x = (x.1, x.2) from rfl, bump_snoc]
  simp
  omega
theorem runs_ok (f : Nat → Bool) : ∀ n, Runs f n (runsTo f n)
  | 0 => ⟨fun i h => absurd h (by simp [runsTo]), fun i h => absurd h (by simp [runsTo]), rfl, fun k h => absurd h (by omega), fun h => absurd h (by omega), fun h => absurd h (by omega)⟩
  | n + 1 => by
    have ih := runs_ok f n
    cases hn : f n
    · rw [runsTo_off hn]
      refine ⟨fun i h => ?_, ih.apart, ?_, fun k hk => ?_, fun _ h => ?_, fun _ _ i h => ?_⟩
      · have := ih.pos i h; omega
      · rw [ih.sum]; simp [cnt, hn]
      · rcases Nat.lt_or_ge k n with h | h
        · exact ih.all k h
        · obtain rfl : k = n := by omega
          rw [hn]
          refine ⟨fun h => absurd h (by decide), ?_⟩
          rintro ⟨i, hi, h1, h2⟩
          have := ih.pos i hi; omega
      · rw [Nat.add_sub_cancel, hn] at h; cases h
      · have := ih.pos i h; omega
    · by_cases h0 : 0 < n ∧ f (n - 1) = true
      · rw [runsTo_on hn h0]
        obtain ⟨hl, hlast⟩ := ih.last h0.1 h0.2
        obtain ⟨L, hL⟩ : ∃ L, runsTo f n = L := ⟨_, rfl⟩
        rw [hL] at ih hl hlast ⊢
        have hb : ∀ i, i < L.length → (nthG (bump L) i).1 = (nthG L i).1 ∧ ((nthG (bump L) i).2 = (nthG L i).2 + if i = L.length - 1 then 1 else 0) := by
          intro i hi
          unfold bump
          by_cases he : i = L.length - 1
          · subst he; rw [nthG_set_same _ _ _ hi]; simp
          · rw [nthG_set_other _ _ _ _ (fun h => he h.symm), if_neg he]; simp
        refine ⟨fun i h => ?_, fun i h => ?_, ?_, fun k hk => ?_, fun _ _ => ⟨by rw [bump_length]; exact hl, ?_⟩, fun _ h => ?_⟩
        · rw [bump_length] at h
          obtain ⟨b1, b2⟩ := hb i h
          have := ih.pos i h
          rw [b1, b2]
          split <;> omega
        · rw [bump_length] at h
          obtain ⟨b1, b2⟩ := hb i (by omega)
          obtain ⟨c1, c2⟩ := hb (i + 1) h
          have := ih.apart i h
          rw [b1, b2, c1, if_neg (by omega)]
          omega
        · rw [sum_bump _ hl, ih.sum]; simp [cnt, hn]
        · constructor
          · intro hf
            rcases Nat.lt_or_ge k n with h | h
            · obtain ⟨i, hi, h1, h2⟩ := (ih.all k h).1 hf
              obtain ⟨b1, b2⟩ := hb i hi
              exact ⟨i, by rw [bump_length]; exact hi, by rw [b1]; exact h1, by rw [b1, b2]; split <;> omega⟩
            · have := ih.pos (L.length - 1) (by omega)
              obtain ⟨b1, b2⟩ := hb (L.length - 1) (by omega)
              exact ⟨L.length - 1, by rw [bump_length]; omega, by rw [b1]; omega, by rw [b1, b2, if_pos rfl]; omega⟩
          · rintro ⟨i, hi, h1, h2⟩
            rw [bump_length] at hi
            obtain ⟨b1, b2⟩ := hb i hi
            rw [b1] at h1 h2
            rw [b2] at h2
            rcases Nat.lt_or_ge k n with h | h
            · refine (ih.all k h).2 ⟨i, hi, h1, ?_⟩
              split at h2
              · rename_i he; subst he; omega
              · omega
            · obtain rfl : k = n := by omega
              exact hn
        · obtain ⟨b1, b2⟩ := hb (L.length - 1) (by omega)
          rw [bump_length, b1, b2, if_pos rfl]
          omega
        · rw [Nat.add_sub_cancel, hn] at h; cases h
      · rw [runsTo_new hn h0]
        obtain ⟨L, hL⟩ : ∃ L, runsTo f n = L := ⟨_, rfl⟩
        rw [hL] at ih ⊢
        have hed : ∀ i, i < L.length → (nthG L i).1 + (nthG L i).2 < n := by
          intro i hi
          have hp := ih.pos i hi
          refine ih.edge (by omega) ?_ i hi
          cases he : f (n - 1)
          · rfl
          · exact absurd ⟨by omega, he⟩ h0
        refine ⟨fun i h => ?_, fun i h => ?_, ?_, fun k hk => ?_, fun _ _ => ⟨by simp, ?_⟩, fun _ h => ?_⟩
        · rcases Nat.lt_or_ge i L.length with h1 | h1
          · rw [nthG_append_left _ _ _ h1]; have := ih.pos i h1; omega
          · obtain rfl : i = L.length := by simp at h; omega
            rw [nthG_snoc]; simp
        · have hi : i < L.length := by simp at h; omega
          rw [nthG_append_left _ _ _ hi]
          rcases Nat.lt_or_ge (i + 1) L.length with h1 | h1
          · rw [nthG_append_left _ _ _ h1]; exact ih.apart i h1
          · obtain e : i + 1 = L.length := by omega
            rw [e, nthG_snoc]
            have := hed i hi
            simpa using this
        · simp [ih.sum, cnt, hn]
        · constructor
          · intro hf
            rcases Nat.lt_or_ge k n with h | h
            · obtain ⟨i, hi, h1, h2⟩ := (ih.all k h).1 hf
              exact ⟨i, by simp; omega, by rw [nthG_append_left _ _ _ hi]; exact h1, by rw [nthG_append_left _ _ _ hi]; exact h2⟩
            · exact ⟨L.length, by simp, by rw [nthG_snoc]; simp; omega, by rw [nthG_snoc]; simp; omega⟩
          · rintro ⟨i, hi, h1, h2⟩
            rcases Nat.lt_or_ge i L.length with h | h
            · rw [nthG_append_left _ _ _ h] at h1 h2
              have := hed i h
              exact (ih.all k (by omega)).2 ⟨i, h, h1, h2⟩
            · obtain rfl : i = L.length := by simp at hi; omega
              rw [nthG_snoc] at h1 h2
              simp at h1 h2
              obtain rfl : k = n := by omega
              exact hn
        · simp only [List.length_append, List.length_singleton, Nat.add_sub_cancel]
          rw [nthG_snoc]; simp
        · rw [Nat.add_sub_cancel, hn] at h; cases h
end Go.Proofs.Ytjefbekdjgmmbaa
