/-
  Contract of the reference's MarksOf, and its words bit by bit.
-/
import Derived.Test.YtcdlgohhjnpbmaaSpot
namespace Go.Proofs.Ytcdlgohhjnpbmaa
open Go.RowKit

/-- The number whose bits are the rule's answers from 't' on, 'r' of them. -/
def pack (f : Nat → Bool) : Nat → Nat → Nat
  | 0, _ => 0
  | r + 1, t => 2 * pack f r (t + 1) + if f t then 1 else 0
theorem pack_lt (f : Nat → Bool) : ∀ r t, pack f r t < 2 ^ r
  | 0, _ => by simp [pack]
  | r + 1, t => by
    have := pack_lt f r (t + 1)
    unfold pack
    rw [Nat.pow_succ]
    split <;> omega
theorem pack_bit (f : Nat → Bool) : ∀ r t j, (pack f r t).testBit j = (decide (j < r) && f (t + j))
  | 0, t, j => by simp [pack]
  | r + 1, t, 0 => by
    unfold pack
    rw [Nat.testBit_eq_decide_div_mod_eq, Bool.eq_iff_iff]
    cases f t <;> simp <;> omega
  | r + 1, t, j + 1 => by
    unfold pack
    rw [Nat.testBit_add_one, show (2 * pack f r (t + 1) + if f t then 1 else 0) / 2 = pack f r (t + 1) by split <;> omega, pack_bit f r (t + 1) j, show t + 1 + j = t + (j + 1) by omega]
    congr 1
    rw [Bool.eq_iff_iff]; simp
/-- The words of MarksOf when all numbers from 'j' on are in. -/
def packTo (f : Nat → Bool) (n j : Nat) : List Int := (List.range ((n + 63) / 64)).map fun i => ((pack f (min n (64 * (i + 1)) - max j (64 * i)) (max j (64 * i)) : Nat) : Int)
theorem packTo_length (f : Nat → Bool) (n j : Nat) : (packTo f n j).length = (n + 63) / 64 := by simp [packTo]
theorem packTo_nth (f : Nat → Bool) (n j i : Nat) (h : i < (n + 63) / 64) : nth (packTo f n j) i = ((pack f (min n (64 * (i + 1)) - max j (64 * i)) (max j (64 * i)) : Nat) : Int) := by
  rw [nth_get _ _ (by rw [packTo_length]; exact h)]; simp [packTo]
theorem packTo_end (f : Nat → Bool) (n : Nat) : packTo f n n = List.replicate ((n + 63) / 64) 0 := by
  apply List.ext_getElem
  · simp [packTo]
  · intro i h1 h2
    simp only [packTo, List.getElem_map, List.getElem_range, List.getElem_replicate]
    rw [show min n (64 * (i + 1)) - max n (64 * i) = 0 by omega]
    rfl
theorem packTo_u64 (f : Nat → Bool) (n j : Nat) : U64s (packTo f n j) := by
  intro z hz
  obtain ⟨i, _, rfl⟩ := List.mem_map.1 hz
  have h1 := pack_lt f (min n (64 * (i + 1)) - max j (64 * i)) (max j (64 * i))
  have h2 : 2 ^ (min n (64 * (i + 1)) - max j (64 * i)) ≤ 2 ^ 64 := Nat.pow_le_pow_right (by omega) (by omega)
  exact wf_u64.2 (by omega)
/-- What the word of number 'k' holds before and behind its round. -/
theorem packTo_round (f : Nat → Bool) (n k : Nat) (h : k < n) : ∃ x : Nat, nth (packTo f n (k + 1)) (k / 64) = (x : Int) ∧ x < 9223372036854775808 ∧
    (packTo f n (k + 1)).set (k / 64) ((2 * x + if f k then 1 else 0 : Nat) : Int) = packTo f n k := by
  have hi : k / 64 < (n + 63) / 64 := by omega
  have e1 : max (k + 1) (64 * (k / 64)) = k + 1 := by omega
  have e2 : max k (64 * (k / 64)) = k := by omega
  have hlt := pack_lt f (min n (64 * (k / 64 + 1)) - (k + 1)) (k + 1)
  have hpw : 2 ^ (min n (64 * (k / 64 + 1)) - (k + 1)) ≤ 2 ^ 63 := Nat.pow_le_pow_right (by omega) (by omega)
  refine ⟨pack f (min n (64 * (k / 64 + 1)) - (k + 1)) (k + 1), ?_, by omega, ?_⟩
  · rw [packTo_nth _ _ _ _ hi, e1]
  · apply List.ext_getElem
    · simp [packTo]
    · intro i h1 h2
      rw [List.getElem_set]
      by_cases e : k / 64 = i
      · subst e
        rw [if_pos rfl]
        simp only [packTo, List.getElem_map, List.getElem_range]
        rw [e2, show min n (64 * (k / 64 + 1)) - k = (min n (64 * (k / 64 + 1)) - (k + 1)) + 1 by omega]
        rfl
      · rw [if_neg e]
        simp only [packTo, List.getElem_map, List.getElem_range]
        by_cases h3 : i < k / 64
        · rw [show min n (64 * (i + 1)) - max (k + 1) (64 * i) = 0 by omega, show min n (64 * (i + 1)) - max k (64 * i) = 0 by omega]
          rfl
        · rw [show max (k + 1) (64 * i) = 64 * i by omega, show max k (64 * i) = 64 * i by omega]
theorem packTo_bit (f : Nat → Bool) (n k : Nat) (h : k < 64 * ((n + 63) / 64)) : bit (packTo f n 0) k = (decide (k < n) && f k) := by
  unfold bit
  rw [packTo_nth _ _ _ _ (by omega), Int.toNat_natCast, show max 0 (64 * (k / 64)) = 64 * (k / 64) by omega, pack_bit, show 64 * (k / 64) + k % 64 = k by omega]
  congr 1
  rw [Bool.eq_iff_iff]; simp; omega
/-- Words with the same marks are the same. -/
theorem bits_ext {xs ys : List Int} (hl : xs.length = ys.length) (hx : U64s xs) (hy : U64s ys) (h : ∀ k, k < 64 * xs.length → bit xs k = bit ys k) : xs = ys := by
  apply nth_ext hl
  intro i hi
  have h1 := nth_u64 hx i
  have h2 := nth_u64 hy i
  have : (nth xs i).toNat = (nth ys i).toNat := by
    apply Nat.eq_of_testBit_eq
    intro j
    rcases Nat.lt_or_ge j 64 with hj | hj
    · have := h (64 * i + j) (by omega)
      unfold bit at this
      rwa [show (64 * i + j) / 64 = i by omega, show (64 * i + j) % 64 = j by omega] at this
    · have hp : 2 ^ 64 ≤ 2 ^ j := Nat.pow_le_pow_right (by omega) hj
      rw [Nat.testBit_lt_two_pow (by omega), Nat.testBit_lt_two_pow (by omega)]
  omega

/-- What MarksOf answers. -/
def MarksOfP (f : Nat → Bool) (n : Nat) (w : World) (e : Ending) (w' : World) : Prop := ∃ A c, e = .returned (.slice A ((n + 63) / 64) c) ∧ Arr .u64 w' w'.heap.size A ((n + 63) / 64) (packTo f n 0) ∧ Below w.heap.size w w'
set_option maxHeartbeats 1000000 in
theorem marksOf_any (n fid : Nat) (caps : Array Value) (f : Nat → Bool) (w : World) (hn : n ≤ 256) (hcall : ∀ args wx, Sem.run Try.prog (callFunc fid args) wx = .ok (.enter fid args) wx)
    (hF : ∀ wx, Below w.heap.size w wx → ∀ k : Nat, k < n → Calls Try.prog fid (#[.int .i64 k] ++ caps) wx (fun e w' => e = .returned (.bool (f k)) ∧ Below wx.heap.size wx w')) :
    Calls Try.prog 27 #[.int .i64 n, .func (.func fid) #[] caps] w (MarksOfP f n w) := by
  have HF := Lib.hid hF
  clear hF
  obtain ⟨L, hL⟩ : ∃ L, (n + 63) / 64 = L := ⟨_, rfl⟩
  have hL' : ((n : Int) + 63) / 64 = (L : Int) := by omega
  have hL4 : L ≤ 4 := by omega
  have hmk := fun wx => run_make_row' (P := Try.prog) 22 44 (.int .u64 0) 8 Try.underlying22 u64_info rfl .i64 .i64 L (by omega) (by omega) wx
  have hW1 : Whole .u64 44 (w.alloc (.cells (madeCells #[Value.int .u64 0] L) 44)) w.heap.size (packTo f n n) := by
    rw [packTo_end, hL, made_replicate]
    exact whole_new .u64 44 w _ (fun z hz => by rw [List.eq_of_mem_replicate hz]; rfl)
  have HW1 := Lib.hid hW1
  have HB1 : Hid (Below w.heap.size w (w.alloc (.cells (madeCells #[Value.int .u64 0] L) 44))) := (Below.refl _ _).alloc (Nat.le_refl _) _
  have HLL := Lib.hid hL
  have hnL : n ≤ 64 * L := by omega
  clear hW1 hL
  go_enter Try.func27, Try.ntmps27
  go_wp2
  clear hL' hmk
  go_loopw [6] (fun i wr => ∃ k : Nat, k ≤ n ∧ i = .int .i64 ((k : Int) - 1) ∧ Whole .u64 44 wr w.heap.size (packTo f n k) ∧ Below w.heap.size w wr) (fun i _ => (intOf i + 1).toNat)
  case atStart => exact ⟨n, Nat.le_refl _, rfl, HW1.out, HB1.out⟩
  case round =>
    obtain ⟨k, hk, rfl, hW, hB⟩ := hrel
    by_cases hlt : 0 < k
    · obtain ⟨i, rfl⟩ : ∃ i, k = i + 1 := ⟨k - 1, by omega⟩
      rw [show (((i + 1 : Nat) : Int) - 1) = (i : Int) by omega]
      obtain ⟨x, hx1, hx2, hx3⟩ := packTo_round f n i (by omega)
      have hln := packTo_length f n (i + 1)
      have hcj : wr.cell? ⟨w.heap.size, i / 64, none⟩ = some (.int .u64 x) := by rw [hW.cell (by rw [hln]; omega), hx1]
      have hfj : wr.frozen? ⟨w.heap.size, i / 64, none⟩ = false := hW.frozen _
      have hW2 := hW.set_ (i / 64) ((x : Int) * 2) (wf_u64.2 (by omega))
      have hB2 := hB.setCell (p := ⟨w.heap.size, i / 64, none⟩) (Nat.le_refl _) (.int .u64 ((x : Int) * 2))
      have hiL : i / 64 < L := by omega
      have HC := Lib.hid (HF.out _ hB2 i (by omega))
      have hlt2 : w.heap.size < wr.heap.size := hW.lt
      have HX3 := Lib.hid hx3
      have HW2 := Lib.hid hW2
      have HB2 := Lib.hid hB2
      have hlen2 : i / 64 < ((packTo f n (i + 1)).set (i / 64) ((x : Int) * 2)).length := by rw [List.length_set, hln]; omega
      clear hx3 hW2 hB2 hW hB hx1 hln
      cases hf : f i
      · rw [hf] at HC
        have HE : Hid (packTo f n i = (packTo f n (i + 1)).set (i / 64) ((x : Int) * 2)) := by
          show _ = _
          rw [← HX3.out, hf]
          congr 1
          simp
          omega
        clear hf
        go_wp2_with fail
        refine HC.out.mono ?_
        rintro e w1 ⟨rfl, hb1⟩
        have HW3 := Lib.hid (HW2.out.below hb1 (by simpa [World.setCell] using hlt2))
        have HB3 := Lib.hid (HB2.out.trans (hb1.mono HB2.out.size))
        clear hb1
        go_wp2
        go_roundw
        case rel => exact ⟨i, by omega, by go_num, by rw [HE.out]; exact HW3.out, HB3.out⟩
        case measure => simp [intOf]
      · rw [hf] at HC
        have HE : Hid (packTo f n i = ((packTo f n (i + 1)).set (i / 64) ((x : Int) * 2)).set (i / 64) ((x : Int) * 2 + 1)) := by
          show _ = _
          rw [← HX3.out, hf, List.set_set]
          congr 1
          simp
          omega
        clear hf
        go_wp2_with fail
        refine HC.out.mono ?_
        rintro e w1 ⟨rfl, hb1⟩
        have hW3 := HW2.out.below hb1 (by simpa [World.setCell] using hlt2)
        have hB3 := HB2.out.trans (hb1.mono HB2.out.size)
        have hc1 : w1.cell? ⟨w.heap.size, i / 64, none⟩ = some (.int .u64 ((x : Int) * 2)) := by
          rw [hW3.cell hlen2]
          congr 2
          exact nth_set_same _ _ _ (by simpa using hlen2)
        have hf1 : w1.frozen? ⟨w.heap.size, i / 64, none⟩ = false := hW3.frozen _
        have HW4 := Lib.hid (hW3.set_ (i / 64) ((x : Int) * 2 + 1) (wf_u64.2 (by omega)))
        have HB4 := Lib.hid (hB3.setCell (p := ⟨w.heap.size, i / 64, none⟩) (Nat.le_refl _) (.int .u64 ((x : Int) * 2 + 1)))
        clear hb1 hW3 hB3
        go_wp2
        go_roundw
        case rel => exact ⟨i, by omega, by go_num, by rw [HE.out]; exact HW4.out, HB4.out⟩
        case measure => simp [intOf]
    · obtain rfl : k = 0 := by omega
      have hA := hW.arr (B := wr.heap.size) hW.lt
      rw [packTo_length] at hA
      have H1 := Lib.hid hA
      have H2 := Lib.hid hB
      clear hA hB hW
      go_wp2
      go_ret
      exact ⟨_, _, by rw [HLL.out]; rfl, H1.out, H2.out⟩
end Go.Proofs.Ytcdlgohhjnpbmaa
