/-
  Contract of word.Words: the words of a string's bytes, eight by eight.
-/
import Derived.Test.YtjngimjfofplpaaBytes
import Derived.Laws.Bits64b
namespace Go.Proofs.Ytjngimjfofplpaa
open Go.RowKit

/-- A string's bytes, as numbers. -/
def nums (s : ByteArray) : List Int := s.data.toList.map (fun b => (b.toNat : Int))
theorem nums_length (s : ByteArray) : (nums s).length = s.size := by simp [nums]
theorem nums_bound (s : ByteArray) : ∀ b ∈ nums s, 0 ≤ b ∧ b ≤ 255 := by
  intro b hb
  obtain ⟨u, _, rfl⟩ := List.mem_map.1 hb
  have := u.toNat_lt
  omega
theorem nums_drop (s : ByteArray) (j : Nat) (h : j < s.size) : (nums s).drop j = (s[j].toNat : Int) :: (nums s).drop (j + 1) := by
  have hl : j < (nums s).length := by rw [nums_length]; exact h
  rw [List.drop_eq_getElem_cons hl]
  congr 1
  simp [nums]
  rfl
theorem nums_extract (s : ByteArray) (a b : Nat) : nums (s.extract a b) = ((nums s).drop a).take (b - a) := by
  simp [nums]
theorem strOf_nums (s : ByteArray) : strOfNums (nums s) = s := by
  unfold strOfNums nums
  apply ByteArray.ext
  apply Array.toList_inj.1
  simp only [List.map_map]
  conv => rhs; rw [← List.map_id s.data.toList]
  apply List.map_congr_left
  intro b _
  simp
theorem or8 (x b : Int) (hx0 : 0 ≤ x) (hx1 : x < 72057594037927936) (hb0 : 0 ≤ b) (hb1 : b ≤ 255) : bits .or .u64 (x * 256) (IntKind.u64.wrap b) = b + 256 * x := by
  obtain ⟨X, rfl⟩ := Int.eq_ofNat_of_zero_le hx0
  obtain ⟨B, rfl⟩ := Int.eq_ofNat_of_zero_le hb0
  rw [IntWalk.u64_in _ (by omega)]
  have e : ((X : Int) * 256) = ((X * 256 : Nat) : Int) := by omega
  rw [e, bits_or_u64_nat _ _ (by omega) (by omega)]
  have h := Nat.shiftLeft_add_eq_or_of_lt (b := B) (i := 8) (by omega) X
  rw [Nat.shiftLeft_eq] at h
  rw [show (256 : Nat) = 2 ^ 8 from rfl, ← h]
  omega

theorem fill_step (L : List Int) (m k : Nat) (hlen : L.length = m) (hlt : k < m) : (splice (List.replicate m 0) 0 (L.take k)).set k (nth L k) = splice (List.replicate m 0) 0 (L.take (k + 1)) := by
  have e1 : (L.take k).length = k := by simp; omega
  have e2 : (L.take (k + 1)).length = k + 1 := by simp; omega
  have e3 : (List.replicate m (0 : Int)).drop k = 0 :: (List.replicate m (0 : Int)).drop (k + 1) := by
    rw [List.drop_eq_getElem_cons (by simpa using hlt)]
    simp
  unfold splice
  simp only [List.take_zero, List.nil_append, Nat.zero_add, e1, e2, e3]
  rw [List.set_append_right _ _ (by omega), e1, Nat.sub_self, List.set_cons_zero, take_snoc L k (by omega)]
  simp

set_option maxHeartbeats 400000 in
theorem oneWord_any (s : ByteArray) (w : World) (hs : s.size ≤ 8) :
    Calls Try.prog 51 #[.string s] w fun e w' => e = .returned (.int .u64 (leVal (nums s))) ∧ w = w' := by
  go_enter Try.func51, Try.ntmps51
  go_wp2
  go_loop [3, 4] (fun v i => ∃ k : Nat, ∃ x : Int, k ≤ s.size ∧ i = .int .i64 (k - 1) ∧ v = .int .u64 x ∧ Hid (x = leVal ((nums s).drop k))) (fun _ i => (intOf i + 1).toNat)
  case atStart => exact ⟨s.size, 0, Nat.le_refl _, rfl, rfl, (show _ = _ by rw [List.drop_of_length_le (by rw [nums_length]; omega)]; rfl)⟩
  case round =>
    obtain ⟨k, x, hk, rfl, rfl, HX⟩ := hrel
    by_cases h0 : 0 < k
    · obtain ⟨j, rfl⟩ : ∃ j, k = j + 1 := ⟨k - 1, by omega⟩
      have e : ((j + 1 : Nat) : Int) - 1 = j := by omega
      rw [e]
      clear e
      have hj : j < s.size := by omega
      have hx := leVal_bound ((nums s).drop (j + 1)) (fun b hb => nums_bound s b (List.mem_of_mem_drop hb))
      rw [← HX.out, List.length_drop, nums_length] at hx
      have hp : (256 : Int) ^ (s.size - (j + 1)) ≤ 72057594037927936 := by
        have h7 : s.size - (j + 1) ≤ 7 := by omega
        have : ∀ q : Nat, q ≤ 7 → (256 : Int) ^ q ≤ 72057594037927936 := by
          intro q hq
          have : q = 0 ∨ q = 1 ∨ q = 2 ∨ q = 3 ∨ q = 4 ∨ q = 5 ∨ q = 6 ∨ q = 7 := by omega
          rcases this with rfl | rfl | rfl | rfl | rfl | rfl | rfl | rfl <;> decide
        exact this _ h7
      obtain ⟨hx0, hx1⟩ := hx
      have hx2 : x < 72057594037927936 := by omega
      have HN := Lib.hid (nums_drop s j hj)
      clear hp hx1
      go_wp2
      go_round
      case rel =>
        refine ⟨j, _, by omega, rfl, rfl, ?_⟩
        show _ = _
        have hb := s[j].toNat_lt
        rw [or8 x _ hx0 hx2 (by omega) (by omega), HN.out, leVal, HX.out]
      case measure => simp [intOf]
    · obtain rfl : k = 0 := by omega
      go_wp2
      go_ret
      exact ⟨by rw [HX.out]; simp, rfl⟩

set_option maxHeartbeats 400000 in
theorem words_large (s : ByteArray) (w : World) (hs : s.size ≤ maxLen) (h : 2048 < s.size) :
    Calls Try.prog 25 #[.string s] w fun e w' => e = .returned (.tuple #[.slice none 0 0, .int .i64 2]) ∧ w = w' := by
  unfold maxLen at hs
  have h1 : (2048 : Int) < s.size := by omega
  go_enter Try.func25, Try.ntmps25
  go_wp2
  go_ret2
  exact ⟨rfl, rfl⟩
set_option maxHeartbeats 400000 in
theorem words_form (s : ByteArray) (w : World) (h : s.size ≤ 2048) (h8 : s.size % 8 ≠ 0) :
    Calls Try.prog 25 #[.string s] w fun e w' => e = .returned (.tuple #[.slice none 0 0, .int .i64 3]) ∧ w = w' := by
  have h1 : ¬ (2048 : Int) < s.size := by omega
  have h2 : ((s.size : Int) % 8 != 0) = true := by simp; omega
  go_enter Try.func25, Try.ntmps25
  go_wp2
  go_ret2
  exact ⟨rfl, rfl⟩

set_option maxHeartbeats 1000000 in
theorem words_ok (s : ByteArray) (w : World) (m : Nat) (h : s.size ≤ 2048) (h8 : s.size = 8 * m) :
    Calls Try.prog 25 #[.string s] w fun e w' => e = .returned (.tuple #[.slice (some ⟨w.heap.size, 0, none⟩) m m, .int .i64 0]) ∧
      Whole .u64 28 w' w.heap.size (wordsL m (nums s)) ∧ Below w.heap.size w w' := by
  have h1 : ¬ (2048 : Int) < s.size := by omega
  have h2 : ((s.size : Int) % 8 != 0) = false := by simp; omega
  have h3 : (s.size : Int) / 8 = m := by omega
  have hmk := fun wx => run_make_row' (P := Try.prog) 27 28 (.int .u64 0) 8 Try.underlying27 u64_info rfl .i64 .i64 m (by omega) (by omega) wx
  have hW1 : Whole .u64 28 (w.alloc (.cells (madeCells #[Value.int .u64 0] m) 28)) w.heap.size (List.replicate m 0) := by
    rw [made_replicate]
    exact whole_new .u64 28 w _ (fun z hz => by rw [List.eq_of_mem_replicate hz]; rfl)
  have H1 := Lib.hid hW1
  have H8 := Lib.hid h8
  have hm : m ≤ 256 := by omega
  clear hW1 h8
  go_enter Try.func25, Try.ntmps25
  go_wp2
  clear hmk
  go_loopw [19] (fun i wr => ∃ k : Nat, k ≤ m ∧ i = .int .i64 k ∧ Whole .u64 28 wr w.heap.size (splice (List.replicate m 0) 0 ((wordsL m (nums s)).take k)) ∧ Below w.heap.size w wr) (fun i _ => m - (intOf i).toNat)
  case atStart => exact ⟨0, Nat.zero_le _, rfl, by simpa [splice] using H1.out, (Below.refl _ _).alloc (Nat.le_refl _) _⟩
  case round =>
    obtain ⟨k, hk, rfl, hW, hB⟩ := hrel
    by_cases hlt : k < m
    · have hs8 : 8 * k + 8 ≤ s.size := by have := H8.out; omega
      have hlt' : (k : Int) < m := by omega
      have hsl : ∀ wx, Sem.run Try.prog (Instr.slice 9 (.string s) (some (.int .i64 (8 * (k : Int)))) (some (.int .i64 (8 * ((k : Int) + 1)))) none) wx = .ok (.string (s.extract (8 * k) (8 * k + 8))) wx := by
        intro wx
        rw [run_slice_string wx 9 s .i64 .i64 _ _ Try.underlying9 (by omega) (by omega) (by omega)]
        congr 3 <;> omega
      have hsz : (s.extract (8 * k) (8 * k + 8)).size ≤ 8 := by rw [ByteArray.size_extract]; omega
      have hval : leVal (nums (s.extract (8 * k) (8 * k + 8))) = nth (wordsL m (nums s)) k := by
        rw [nums_extract, wordsL_nth m (nums s) k hlt]
        congr 2
        omega
      have hlen : (wordsL m (nums s)).length = m := wordsL_length _ _
      have hxwf : (Lit.int .u64 (nth (wordsL m (nums s)) k)).wf = true := wordsL_wf m (nums s) (nums_bound s) _ (by rw [nth_get _ _ (by omega)]; exact List.getElem_mem _)
      have e1 : (splice (List.replicate m 0) 0 ((wordsL m (nums s)).take k)).set k (nth (wordsL m (nums s)) k) = splice (List.replicate m 0) 0 ((wordsL m (nums s)).take (k + 1)) := fill_step _ m k hlen hlt
      have hcj := hW.cell (j := k) (by simp [splice, hlen]; omega)
      have hfj : wr.frozen? ⟨w.heap.size, k, none⟩ = false := hW.frozen _
      have HW := hW.set_ k _ hxwf
      rw [e1] at HW
      have HW := Lib.hid HW
      have HB := Lib.hid (hB.setCell (p := ⟨w.heap.size, k, none⟩) (Nat.le_refl _) (.int .u64 (nth (wordsL m (nums s)) k)))
      have HV := Lib.hid hval
      generalize nth (splice (List.replicate m 0) 0 ((wordsL m (nums s)).take k)) k = Y at hcj
      clear hW hB e1 hval hlen
      go_wp2_with fail
      refine (oneWord_any _ _ hsz).mono ?_
      rintro e w' ⟨rfl, rfl⟩
      rw [HV.out]
      clear hsl hsz
      go_wp2
      go_roundw
      case rel => exact ⟨k + 1, by omega, by go_num, HW.out, HB.out⟩
      case measure => simp [intOf]; omega
    · obtain rfl : k = m := by omega
      have e1 : splice (List.replicate k 0) 0 ((wordsL k (nums s)).take k) = wordsL k (nums s) := by
        rw [List.take_of_length_le (by rw [wordsL_length]; omega)]
        exact splice_all _ _ (by simp [wordsL_length])
      rw [e1] at hW
      have HW := Lib.hid hW
      have HB := Lib.hid hB
      clear hW hB e1
      go_wp2
      go_ret2
      exact ⟨rfl, HW.out, HB.out⟩
end Go.Proofs.Ytjngimjfofplpaa
