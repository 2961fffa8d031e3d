/-
  Contracts of package word's functions (the checks, clone, New, Load, Store, Fill, Move), each for every argument.
-/
import Derived.Test.YtknbbondofijeaaEq
import Derived.OwnWalk
namespace Go.Proofs.Ytknbbondofijeaa
open Go.RowKit

/-- What checkWord answers. -/
def wordE (n : Nat) (i : Int) : Int := if 256 < n then 2 else if 0 ≤ i ∧ i < n then 0 else 4
/-- What checkRange answers. -/
def rangeE (n : Nat) (i m : Int) : Int := if 256 < n then 2 else if 0 ≤ i ∧ i ≤ n ∧ 0 ≤ m ∧ m ≤ n - i then 0 else 4

theorem wordE_large {n : Nat} {i : Int} (h : 256 < n) : wordE n i = 2 := by simp [wordE, h]
theorem wordE_out {n : Nat} {i : Int} (h : n ≤ 256) (hi : ¬ (0 ≤ i ∧ i < n)) : wordE n i = 4 := by
  unfold wordE; rw [if_neg (by omega), if_neg hi]
theorem wordE_ok {n : Nat} {i : Int} (h : n ≤ 256) (hi : 0 ≤ i ∧ i < n) : wordE n i = 0 := by
  unfold wordE; rw [if_neg (by omega), if_pos hi]
theorem rangeE_large {n : Nat} {i m : Int} (h : 256 < n) : rangeE n i m = 2 := by simp [rangeE, h]
theorem rangeE_out {n : Nat} {i m : Int} (h : n ≤ 256) (hi : ¬ (0 ≤ i ∧ i ≤ n ∧ 0 ≤ m ∧ m ≤ n - i)) : rangeE n i m = 4 := by
  unfold rangeE; rw [if_neg (by omega), if_neg hi]
theorem rangeE_ok {n : Nat} {i m : Int} (h : n ≤ 256) (hi : 0 ≤ i ∧ i ≤ n ∧ 0 ≤ m ∧ m ≤ n - i) : rangeE n i m = 0 := by
  unfold rangeE; rw [if_neg (by omega), if_pos hi]

theorem u64_info : (Try.prog.info? 52).map (fun i => (i.zero, i.size, i.bytes)) = some (some (.int .u64 0), 1, 8) := by kernel_rfl
theorem u64_one : (Try.prog.info? 52).map (·.size) = some 1 := by kernel_rfl

/-- Is the range of 'm' words from 'i' on valid for 'n' words? -/
def validB (n i m : Int) : Bool := decide (0 ≤ i ∧ i ≤ n ∧ 0 ≤ m ∧ m ≤ n - i)
theorem validB_true {n i m : Int} (h : 0 ≤ i ∧ i ≤ n ∧ 0 ≤ m ∧ m ≤ n - i) : validB n i m = true := by unfold validB; simpa using h
theorem validB_false {n i m : Int} (h : ¬ (0 ≤ i ∧ i ≤ n ∧ 0 ≤ m ∧ m ≤ n - i)) : validB n i m = false := by unfold validB; simpa using h

set_option maxHeartbeats 400000 in
theorem valid_any (n i m : Int) (w : World) (hn : -4611686018427387904 ≤ n ∧ n ≤ 9223372036854775807) (hi : (Lit.int .i64 i).wf = true) (hm : (Lit.int .i64 m).wf = true) :
    Calls Try.prog 93 #[.int .i64 n, .int .i64 i, .int .i64 m] w fun e w' => e = .returned (.bool (validB n i m)) ∧ w = w' := by
  rw [wf_i64] at hi hm
  obtain ⟨hn1, hn2⟩ := hn
  obtain ⟨hi1, hi2⟩ := hi
  obtain ⟨hm1, hm2⟩ := hm
  by_cases h0 : 0 ≤ i
  · by_cases h1 : i ≤ n
    · by_cases h2 : 0 ≤ m
      · by_cases h3 : m ≤ n - i
        · rw [validB_true ⟨h0, h1, h2, h3⟩]
          go_enter Try.func93, Try.ntmps93
          go_wp2
          go_ret
          exact ⟨rfl, rfl⟩
        · rw [validB_false (by omega)]
          have d3 : decide (m ≤ n - i) = false := by simp; omega
          go_enter Try.func93, Try.ntmps93
          go_wp2
          go_ret
          exact ⟨rfl, rfl⟩
      · rw [validB_false (by omega)]
        have d2 : decide (0 ≤ m) = false := by simp; omega
        go_enter Try.func93, Try.ntmps93
        go_wp2
        go_ret
        exact ⟨rfl, rfl⟩
    · rw [validB_false (by omega)]
      have d1 : decide (i ≤ n) = false := by simp; omega
      go_enter Try.func93, Try.ntmps93
      go_wp2
      go_ret
      exact ⟨rfl, rfl⟩
  · rw [validB_false (by omega)]
    have d0 : decide (0 ≤ i) = false := by simp; omega
    go_enter Try.func93, Try.ntmps93
    go_wp2
    go_ret
    exact ⟨rfl, rfl⟩

theorem splice_step (zs : List Int) (p q : Nat) (v : Int) (h : p + q < zs.length) : (splice zs p (List.replicate q v)).set (p + q) v = splice zs p (List.replicate (q + 1) v) := by
  apply List.ext_getElem
  · simp [splice]; omega
  · intro i h1 h2
    simp only [splice, List.length_replicate, List.getElem_set, List.getElem_append, List.length_take, List.getElem_take, List.getElem_replicate, List.getElem_drop]
    have e : min p zs.length = p := by omega
    simp only [e]
    by_cases c1 : i < p
    · have : ¬ p + q = i := by omega
      simp [c1, this]
    · by_cases c2 : p + q = i
      · have : i - p < q + 1 := by omega
        simp [c1, c2, this]
      · by_cases c3 : i - p < q
        · have : i - p < q + 1 := by omega
          simp [c1, c2, c3, this]
        · have : ¬ i - p < q + 1 := by omega
          simp [c1, c2, c3, this]
          congr 1
          omega

end Go.Proofs.Ytknbbondofijeaa
