/-
  Contracts of package word's functions (the checks, clone, New, Load, Store, Fill, Move), each for every argument.
-/
import Derived.Test.YtggjgcnmkkoheaaEq
import Derived.OwnWalk
namespace Go.Proofs.Ytggjgcnmkkoheaa
open Go.RowKit

/-- What checkWord answers. -/
def wordE (n : Nat) (i : Int) : Int := if 256 < n then 2 else if 0 ≤ i ∧ i < n then 0 else 4
/-- What checkRange answers. -/
def rangeE (n : Nat) (i m : Int) : Int := if 256 < n then 2 else if 0 ≤ i ∧ i ≤ n ∧ 0 ≤ m ∧ m ≤ n - i then 0 else 4

theorem wordE_large {n : Nat} {i : Int} (h : 256 < n) : wordE n i = 2 := by simp [wordE, h]
theorem wordE_out {n : Nat} {i : Int} (h : n ≤ 256) (hi : ¬ (0 ≤ i ∧ i < n)) : wordE n i = 4 := by
  unfold wordE; rw [if_neg (by omega), if_neg hi]
theorem wordE_ok {n : Nat} {i : Int} (h : n ≤ 256) (hi : 0 ≤ i ∧ i < n) : wordE n i = 0 := by
  unfold wordE; rw [if_neg (by omega), if_pos hi]
theorem rangeE_large {n : Nat} {i m : Int} (h : 256 < n) : rangeE n i m = 2 := by simp [rangeE, h]
theorem rangeE_out {n : Nat} {i m : Int} (h : n ≤ 256) (hi : ¬ (0 ≤ i ∧ i ≤ n ∧ 0 ≤ m ∧ m ≤ n - i)) : rangeE n i m = 4 := by
  unfold rangeE; rw [if_neg (by omega), if_neg hi]
theorem rangeE_ok {n : Nat} {i m : Int} (h : n ≤ 256) (hi : 0 ≤ i ∧ i ≤ n ∧ 0 ≤ m ∧ m ≤ n - i) : rangeE n i m = 0 := by
  unfold rangeE; rw [if_neg (by omega), if_pos hi]

theorem u64_info : (Try.prog.info? 42).map (fun i => (i.zero, i.size, i.bytes)) = some (some (.int .u64 0), 1, 8) := by kernel_rfl
theorem u64_one : (Try.prog.info? 42).map (·.size) = some 1 := by kernel_rfl

set_option maxHeartbeats 400000 in
theorem checkWord_any (A : Option Addr) (n c : Nat) (i : Int) (w : World) (hn : n ≤ maxLen) (hi : (Lit.int .i64 i).wf = true) :
    Calls Try.prog 87 #[.slice A n c, .int .i64 i] w fun e w' => e = .returned (.int .i64 (wordE n i)) ∧ w = w' := by
  unfold maxLen at hn
  rw [wf_i64] at hi
  obtain ⟨hi1, hi2⟩ := hi
  by_cases hl : 256 < n
  · rw [wordE_large hl]
    have hl' : (256 : Int) < n := by omega
    go_enter Try.func87, Try.ntmps87
    go_wp2
    go_ret
    exact ⟨rfl, rfl⟩
  · have hl' : ¬ (256 : Int) < n := by omega
    by_cases h0 : i < 0
    · rw [wordE_out (by omega) (by omega)]
      go_enter Try.func87, Try.ntmps87
      go_wp2
      go_ret
      exact ⟨rfl, rfl⟩
    · by_cases h1 : i < n
      · rw [wordE_ok (by omega) (by omega)]
        have h2 : decide ((n : Int) ≤ i) = false := by simp; omega
        go_enter Try.func87, Try.ntmps87
        go_wp2
        go_ret
        exact ⟨rfl, rfl⟩
      · rw [wordE_out (by omega) (by omega)]
        have h2 : (n : Int) ≤ i := by omega
        go_enter Try.func87, Try.ntmps87
        go_wp2
        go_ret
        exact ⟨rfl, rfl⟩

/-- Is the range of 'm' words from 'i' on valid for 'n' words? -/
def validB (n i m : Int) : Bool := decide (0 ≤ i ∧ i ≤ n ∧ 0 ≤ m ∧ m ≤ n - i)
theorem validB_true {n i m : Int} (h : 0 ≤ i ∧ i ≤ n ∧ 0 ≤ m ∧ m ≤ n - i) : validB n i m = true := by unfold validB; simpa using h
theorem validB_false {n i m : Int} (h : ¬ (0 ≤ i ∧ i ≤ n ∧ 0 ≤ m ∧ m ≤ n - i)) : validB n i m = false := by unfold validB; simpa using h

set_option maxHeartbeats 400000 in
theorem valid_any (n i m : Int) (w : World) (hn : -4611686018427387904 ≤ n ∧ n ≤ 9223372036854775807) (hi : (Lit.int .i64 i).wf = true) (hm : (Lit.int .i64 m).wf = true) :
    Calls Try.prog 65 #[.int .i64 n, .int .i64 i, .int .i64 m] w fun e w' => e = .returned (.bool (validB n i m)) ∧ w = w' := by
  rw [wf_i64] at hi hm
  obtain ⟨hn1, hn2⟩ := hn
  obtain ⟨hi1, hi2⟩ := hi
  obtain ⟨hm1, hm2⟩ := hm
  by_cases h0 : 0 ≤ i
  · by_cases h1 : i ≤ n
    · by_cases h2 : 0 ≤ m
      · by_cases h3 : m ≤ n - i
        · rw [validB_true ⟨h0, h1, h2, h3⟩]
          go_enter Try.func65, Try.ntmps65
          go_wp2
          go_ret
          exact ⟨rfl, rfl⟩
        · rw [validB_false (by omega)]
          have d3 : decide (m ≤ n - i) = false := by simp; omega
          go_enter Try.func65, Try.ntmps65
          go_wp2
          go_ret
          exact ⟨rfl, rfl⟩
      · rw [validB_false (by omega)]
        have d2 : decide (0 ≤ m) = false := by simp; omega
        go_enter Try.func65, Try.ntmps65
        go_wp2
        go_ret
        exact ⟨rfl, rfl⟩
    · rw [validB_false (by omega)]
      have d1 : decide (i ≤ n) = false := by simp; omega
      go_enter Try.func65, Try.ntmps65
      go_wp2
      go_ret
      exact ⟨rfl, rfl⟩
  · rw [validB_false (by omega)]
    have d0 : decide (0 ≤ i) = false := by simp; omega
    go_enter Try.func65, Try.ntmps65
    go_wp2
    go_ret
    exact ⟨rfl, rfl⟩

set_option maxHeartbeats 400000 in
theorem checkSize_any (A : Option Addr) (n c : Nat) (w : World) (hn : n ≤ maxLen) :
    Calls Try.prog 88 #[.slice A n c] w fun e w' => e = .returned (.int .i64 (if 256 < n then 2 else 0)) ∧ w = w' := by
  unfold maxLen at hn
  by_cases hl : 256 < n
  · rw [if_pos hl]
    have hl' : (256 : Int) < n := by omega
    go_enter Try.func88, Try.ntmps88
    go_wp2
    go_ret
    exact ⟨rfl, rfl⟩
  · rw [if_neg hl]
    have hl' : ¬ (256 : Int) < n := by omega
    go_enter Try.func88, Try.ntmps88
    go_wp2
    go_ret
    exact ⟨rfl, rfl⟩

set_option maxHeartbeats 400000 in
theorem checkRange_any (A : Option Addr) (n c : Nat) (i m : Int) (w : World) (hn : n ≤ maxLen) (hi : (Lit.int .i64 i).wf = true) (hm : (Lit.int .i64 m).wf = true) :
    Calls Try.prog 74 #[.slice A n c, .int .i64 i, .int .i64 m] w fun e w' => e = .returned (.int .i64 (rangeE n i m)) ∧ w = w' := by
  by_cases hl : 256 < n
  · rw [rangeE_large hl]
    go_enter Try.func74, Try.ntmps74
    go_wp2_with fail
    refine (checkSize_any A n c _ hn).mono ?_
    rintro e w' ⟨rfl, rfl⟩
    rw [if_pos hl]
    go_wp2
    go_ret
    exact ⟨rfl, rfl⟩
  · have hV := valid_any n i m w (by unfold maxLen at hn; omega) hi hm
    by_cases hr : 0 ≤ i ∧ i ≤ n ∧ 0 ≤ m ∧ m ≤ n - i
    · rw [rangeE_ok (by omega) hr]
      rw [validB_true hr] at hV
      have HV := Lib.hid hV
      clear hV hr
      go_enter Try.func74, Try.ntmps74
      go_wp2_with fail
      refine (checkSize_any A n c _ hn).mono ?_
      rintro e w' ⟨rfl, rfl⟩
      rw [if_neg hl]
      go_wp2_with fail
      refine HV.out.mono ?_
      rintro e w' ⟨rfl, rfl⟩
      go_wp2
      go_ret
      exact ⟨rfl, rfl⟩
    · rw [rangeE_out (by omega) hr]
      rw [validB_false hr] at hV
      have HV := Lib.hid hV
      clear hV hr
      go_enter Try.func74, Try.ntmps74
      go_wp2_with fail
      refine (checkSize_any A n c _ hn).mono ?_
      rintro e w' ⟨rfl, rfl⟩
      rw [if_neg hl]
      go_wp2_with fail
      refine HV.out.mono ?_
      rintro e w' ⟨rfl, rfl⟩
      go_wp2
      go_ret
      exact ⟨rfl, rfl⟩

set_option maxHeartbeats 400000 in
theorem clone_any (A : Option Addr) (n c : Nat) (zs : List Int) (w : World) (hn : n ≤ 256) (ha : Arr .u64 w w.heap.size A n zs) :
    Calls Try.prog 75 #[.slice A n c] w fun e w' => e = .returned (.slice (some ⟨w.heap.size, 0, none⟩) n n) ∧ Whole .u64 42 w' w.heap.size zs ∧ Below w.heap.size w w' := by
  obtain ⟨hl, hw, hc⟩ := ha
  have hmk := fun wx => run_make_row' (P := Try.prog) 22 42 (.int .u64 0) 8 Try.underlying22 u64_info rfl .i64 .i64 n (by omega) (by omega) wx
  have hW1 : Whole .u64 42 (w.alloc (.cells (madeCells #[Value.int .u64 0] n) 42)) w.heap.size (List.replicate n 0) := by
    rw [made_replicate]
    exact whole_new .u64 42 w _ (fun z hz => by rw [List.eq_of_mem_replicate hz]; rfl)
  have ha1 : Arr .u64 (w.alloc (.cells (madeCells #[Value.int .u64 0] n) 42)) w.heap.size A n zs := Arr.below ⟨hl, hw, hc⟩ ((Below.refl _ _).alloc (Nat.le_refl _) _) (Nat.le_refl _)
  have hcp := run_copy_ints (P := Try.prog) (sT := 22) (ty := 3) (dc := n) (sc := c) (off := 0) Try.underlying22 u64_one hW1 ha1 (fun _ => rfl) (by simp)
  rw [splice_all _ _ (by simp [hl])] at hcp
  have H1 := Lib.hid (hW1.setRow (ys := zs) hw)
  clear hl hW1 ha1 hc hw
  go_enter Try.func75, Try.ntmps75
  go_wp2
  go_ret
  exact ⟨rfl, H1.out, below_setRow ((Below.refl _ _).alloc (Nat.le_refl _) _) (Nat.le_refl _) _⟩

set_option maxHeartbeats 400000 in
theorem load_bad (A : Option Addr) (n c : Nat) (i : Int) (w : World) (hn : n ≤ maxLen) (hi : (Lit.int .i64 i).wf = true) (hE : wordE n i ≠ 0) :
    Calls Try.prog 73 #[.slice A n c, .int .i64 i] w fun e w' => e = .returned (.tuple #[.int .u64 0, .int .i64 (wordE n i)]) ∧ w = w' := by
  have hb : (wordE n i != 0) = true := by simpa using hE
  clear hE
  go_enter Try.func73, Try.ntmps73
  go_wp2_with fail
  refine (checkWord_any A n c i _ hn hi).mono ?_
  rintro e w' ⟨rfl, rfl⟩
  go_wp2
  go_ret2
  exact ⟨rfl, rfl⟩

set_option maxHeartbeats 400000 in
theorem load_ok (A : Option Addr) (n c B : Nat) (i : Int) (zs : List Int) (w : World) (hn : n ≤ 256) (h0 : 0 ≤ i) (h1 : i < n) (ha : Arr .u64 w B A n zs) :
    Calls Try.prog 73 #[.slice A n c, .int .i64 i] w fun e w' => e = .returned (.tuple #[.int .u64 (nth zs i.toNat), .int .i64 0]) ∧ w = w' := by
  obtain ⟨j, rfl⟩ := Int.eq_ofNat_of_zero_le h0
  rw [Int.toNat_natCast]
  obtain ⟨_, _, hc⟩ := ha
  obtain ⟨b, off, rfl, _, hc⟩ := hc (by omega)
  have hcj := hc j (by omega)
  clear hc
  go_enter Try.func73, Try.ntmps73
  go_wp2_with fail
  refine (checkWord_any _ n c j _ (by unfold maxLen; omega) (wf_i64.2 (by omega))).mono ?_
  rintro e w' ⟨rfl, rfl⟩
  rw [wordE_ok hn ⟨h0, h1⟩]
  go_wp2
  go_ret2
  exact ⟨rfl, rfl⟩

set_option maxHeartbeats 400000 in
theorem store_bad (A : Option Addr) (n c : Nat) (i v : Int) (w : World) (hn : n ≤ maxLen) (hi : (Lit.int .i64 i).wf = true) (hE : wordE n i ≠ 0) :
    Calls Try.prog 81 #[.slice A n c, .int .i64 i, .int .u64 v] w fun e w' => e = .returned (.tuple #[.slice none 0 0, .int .i64 (wordE n i)]) ∧ w = w' := by
  have hb : (wordE n i != 0) = true := by simpa using hE
  clear hE
  go_enter Try.func81, Try.ntmps81
  go_wp2_with fail
  refine (checkWord_any A n c i _ hn hi).mono ?_
  rintro e w' ⟨rfl, rfl⟩
  go_wp2
  go_ret2
  exact ⟨rfl, rfl⟩

set_option maxHeartbeats 400000 in
theorem store_ok (A : Option Addr) (n c : Nat) (i v : Int) (zs : List Int) (w : World) (hn : n ≤ 256) (h0 : 0 ≤ i) (h1 : i < n) (hv : (Lit.int .u64 v).wf = true) (ha : Arr .u64 w w.heap.size A n zs) :
    Calls Try.prog 81 #[.slice A n c, .int .i64 i, .int .u64 v] w fun e w' =>
      e = .returned (.tuple #[.slice (some ⟨w.heap.size, 0, none⟩) n n, .int .i64 0]) ∧ Whole .u64 42 w' w.heap.size (zs.set i.toNat v) ∧ Below w.heap.size w w' := by
  obtain ⟨j, rfl⟩ := Int.eq_ofNat_of_zero_le h0
  rw [Int.toNat_natCast]
  have HL := Lib.hid ha.1
  go_enter Try.func81, Try.ntmps81
  go_wp2_with fail
  refine (checkWord_any _ n c j _ (by unfold maxLen; omega) (wf_i64.2 (by omega))).mono ?_
  rintro e w' ⟨rfl, rfl⟩
  rw [wordE_ok hn ⟨h0, h1⟩]
  go_wp2_with fail
  refine (clone_any A n c zs _ hn ha).mono ?_
  rintro e w1 ⟨rfl, hW, hB⟩
  have hcj : w1.cell? ⟨w.heap.size, j, none⟩ = some (.int .u64 (nth zs j)) := hW.cell (by have := HL.out; omega)
  have hfj : w1.frozen? ⟨w.heap.size, j, none⟩ = false := hW.frozen j
  have H1 := Lib.hid (hW.set_ j v hv)
  have H2 := Lib.hid (hB.setCell (p := ⟨w.heap.size, j, none⟩) (Nat.le_refl _) (.int .u64 v))
  clear hW hB ha
  go_wp2
  go_ret2
  exact ⟨rfl, H1.out, H2.out⟩

theorem splice_step (zs : List Int) (p q : Nat) (v : Int) (h : p + q < zs.length) : (splice zs p (List.replicate q v)).set (p + q) v = splice zs p (List.replicate (q + 1) v) := by
  apply List.ext_getElem
  · simp [splice]; omega
  · intro i h1 h2
    simp only [splice, List.length_replicate, List.getElem_set, List.getElem_append, List.length_take, List.getElem_take, List.getElem_replicate, List.getElem_drop]
    have e : min p zs.length = p := by omega
    simp only [e]
    by_cases c1 : i < p
    · have : ¬ p + q = i := by omega
      simp [c1, this]
    · by_cases c2 : p + q = i
      · have : i - p < q + 1 := by omega
        simp [c1, c2, this]
      · by_cases c3 : i - p < q
        · have : i - p < q + 1 := by omega
          simp [c1, c2, c3, this]
        · have : ¬ i - p < q + 1 := by omega
          simp [c1, c2, c3, this]
          congr 1
          omega

set_option maxHeartbeats 400000 in
theorem fill_bad (A : Option Addr) (n c : Nat) (i m v : Int) (w : World) (hn : n ≤ maxLen) (hi : (Lit.int .i64 i).wf = true) (hm : (Lit.int .i64 m).wf = true) (hE : rangeE n i m ≠ 0) :
    Calls Try.prog 45 #[.slice A n c, .int .i64 i, .int .i64 m, .int .u64 v] w fun e w' => e = .returned (.tuple #[.slice none 0 0, .int .i64 (rangeE n i m)]) ∧ w = w' := by
  have hb : (rangeE n i m != 0) = true := by simpa using hE
  clear hE
  go_enter Try.func45, Try.ntmps45
  go_wp2_with fail
  refine (checkRange_any A n c i m _ hn hi hm).mono ?_
  rintro e w' ⟨rfl, rfl⟩
  go_wp2
  go_ret2
  exact ⟨rfl, rfl⟩

set_option maxHeartbeats 400000 in
theorem fill_ok (A : Option Addr) (n c : Nat) (i m v : Int) (zs : List Int) (w : World) (hn : n ≤ 256) (h0 : 0 ≤ i) (h1 : i ≤ n) (h2 : 0 ≤ m) (h3 : m ≤ n - i) (hv : (Lit.int .u64 v).wf = true) (ha : Arr .u64 w w.heap.size A n zs) :
    Calls Try.prog 45 #[.slice A n c, .int .i64 i, .int .i64 m, .int .u64 v] w fun e w' =>
      e = .returned (.tuple #[.slice (some ⟨w.heap.size, 0, none⟩) n n, .int .i64 0]) ∧ Whole .u64 42 w' w.heap.size (splice zs i.toNat (List.replicate m.toNat v)) ∧ Below w.heap.size w w' := by
  obtain ⟨p, rfl⟩ := Int.eq_ofNat_of_zero_le h0
  obtain ⟨q, rfl⟩ := Int.eq_ofNat_of_zero_le h2
  rw [Int.toNat_natCast, Int.toNat_natCast]
  have HL := Lib.hid ha.1
  go_enter Try.func45, Try.ntmps45
  go_wp2_with fail
  refine (checkRange_any _ n c p q _ (by unfold maxLen; omega) (wf_i64.2 (by omega)) (wf_i64.2 (by omega))).mono ?_
  rintro e w' ⟨rfl, rfl⟩
  rw [rangeE_ok hn ⟨h0, h1, h2, h3⟩]
  go_wp2_with fail
  refine (clone_any A n c zs _ hn ha).mono ?_
  rintro e w1 ⟨rfl, hW, hB⟩
  clear ha
  go_wp2_with fail
  go_loopw [12] (fun i wr => ∃ k : Nat, k ≤ q ∧ i = .int .i64 (p + k) ∧ Whole .u64 42 wr w.heap.size (splice zs p (List.replicate k v)) ∧ Below w.heap.size w wr) (fun i _ => p + q - (intOf i).toNat)
  case atStart => exact ⟨0, Nat.zero_le _, by simp, by simpa [splice] using hW, hB⟩
  case round =>
    obtain ⟨k, hk, rfl, hWr, hBr⟩ := hrel
    clear hW hB
    by_cases hlt : k < q
    · have hlen : (splice zs p (List.replicate k v)).length = zs.length := length_splice _ _ _ (by have := HL.out; simp; omega)
      have hcj : wr.cell? ⟨w.heap.size, p + k, none⟩ = some (.int .u64 (nth (splice zs p (List.replicate k v)) (p + k))) := hWr.cell (by have := HL.out; omega)
      have hfj : wr.frozen? ⟨w.heap.size, p + k, none⟩ = false := hWr.frozen _
      have H1 := hWr.set_ (p + k) v hv
      rw [splice_step zs p k v (by have := HL.out; omega)] at H1
      have H1 := Lib.hid H1
      have H2 := Lib.hid (hBr.setCell (p := ⟨w.heap.size, p + k, none⟩) (Nat.le_refl _) (.int .u64 v))
      clear hWr hBr hlen
      generalize nth (splice zs p (List.replicate k v)) (p + k) = X at hcj
      have hx1 : ((p : Int) + (k : Int)) < (n : Int) := by omega
      have hx2 : (0 : Int) ≤ (p : Int) + (k : Int) := by omega
      have hx3 : ((p : Int) + (k : Int)).toNat = p + k := by omega
      go_wp2
      go_roundw
      case rel => exact ⟨k + 1, by omega, by go_num, H1.out, H2.out⟩
      case measure => simp [intOf]; omega
    · obtain rfl : k = q := by omega
      have H1 := Lib.hid hWr
      have H2 := Lib.hid hBr
      clear hWr hBr
      go_wp2
      go_ret2
      exact ⟨rfl, H1.out, H2.out⟩
end Go.Proofs.Ytggjgcnmkkoheaa
