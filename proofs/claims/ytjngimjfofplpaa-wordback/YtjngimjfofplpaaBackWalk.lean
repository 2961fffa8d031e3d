/-
  The walk of WordBack: whatever the arguments and the memory, the call returns true and changes nothing that was there.
-/
import Derived.Test.YtjngimjfofplpaaBytesWalk
namespace Go.Proofs.Ytjngimjfofplpaa
open Go.RowKit

theorem nums_strOf (xs : List Int) (h : ∀ b ∈ xs, 0 ≤ b ∧ b ≤ 255) : nums (strOfNums xs) = xs := by
  unfold strOfNums nums
  simp only [List.map_map]
  conv => rhs; rw [← List.map_id xs]
  apply List.map_congr_left
  intro b hb
  have := h b hb
  have e : (UInt8.ofNat b.toNat).toNat = b.toNat := by
    rw [UInt8.toNat_ofNat']
    exact Nat.mod_eq_of_lt (by omega)
  simp only [Function.comp, e, id]
  omega
theorem size_strOf (xs : List Int) : (strOfNums xs).size = xs.length := by
  unfold strOfNums
  simp [ByteArray.size]

set_option maxHeartbeats 1000000 in
theorem wback_big (A : Option Addr) (n c : Nat) (s : ByteArray) (w : World) (hn : n ≤ maxLen) (hs : s.size ≤ maxLen) (hl : 256 < n) :
    Calls Try.prog 9 #[.slice A n c, .string s] w fun e w' => e = .returned (.bool true) ∧ Below w.heap.size w w' := by
  by_cases h1 : 2048 < s.size
  · go_enter Try.func9, Try.ntmps9
    go_wp2_with fail
    refine (words_any _).mono ?_
    rintro e w1 ⟨rfl, hb1⟩
    go_wp2_with fail
    refine (bytes_large A n c _ hn hl).mono ?_
    rintro e w' ⟨rfl, rfl⟩
    go_wp2_with fail
    refine (words_large s _ hs h1).mono ?_
    rintro e w' ⟨rfl, rfl⟩
    have HB := Lib.hid hb1
    clear hb1
    go_wp2
    go_ret
    exact ⟨rfl, HB.out⟩
  · by_cases h2 : s.size % 8 = 0
    · obtain ⟨m, hm⟩ : ∃ m, s.size = 8 * m := ⟨s.size / 8, by omega⟩
      have hm256 : m ≤ 256 := by omega
      have HM := Lib.hid hm
      have HZ := Lib.hid (bytesL_wordsL m (nums s) (by rw [nums_length]; exact hm) (nums_bound s))
      clear hm h2
      go_enter Try.func9, Try.ntmps9
      go_wp2_with fail
      refine (words_any _).mono ?_
      rintro e w1 ⟨rfl, hb1⟩
      go_wp2_with fail
      refine (bytes_large A n c _ hn hl).mono ?_
      rintro e w' ⟨rfl, rfl⟩
      go_wp2_with fail
      refine (words_ok s _ m (by omega) HM.out).mono ?_
      rintro e w2 ⟨rfl, hW, hb2⟩
      have hB2 := hb1.trans (hb2.mono hb1.size)
      have hr := hW.arr (B := w2.heap.size) hW.lt
      rw [wordsL_length] at hr
      go_wp2_with fail
      refine (bytes_ok _ m m _ _ hm256 hr).mono ?_
      rintro e w3 ⟨rfl, hb3⟩
      rw [HZ.out, strOf_nums]
      have HB := Lib.hid (hB2.trans (hb3.mono hB2.size))
      clear hW hb1 hb2 hb3 hr hB2
      go_wp2
      go_ret
      exact ⟨rfl, HB.out⟩
    · go_enter Try.func9, Try.ntmps9
      go_wp2_with fail
      refine (words_any _).mono ?_
      rintro e w1 ⟨rfl, hb1⟩
      go_wp2_with fail
      refine (bytes_large A n c _ hn hl).mono ?_
      rintro e w' ⟨rfl, rfl⟩
      go_wp2_with fail
      refine (words_form s _ (by omega) h2).mono ?_
      rintro e w' ⟨rfl, rfl⟩
      have HB := Lib.hid hb1
      clear hb1
      go_wp2
      go_ret
      exact ⟨rfl, HB.out⟩

set_option maxHeartbeats 1000000 in
theorem wback_small (A : Option Addr) (n c : Nat) (s : ByteArray) (zs : List Int) (w : World) (hl : n ≤ 256) (hs : s.size ≤ maxLen) (ha : Arr .u64 w w.heap.size A n zs) :
    Calls Try.prog 9 #[.slice A n c, .string s] w fun e w' => e = .returned (.bool true) ∧ Below w.heap.size w w' := by
  have hT : (strOfNums (bytesL zs)).size = 8 * n := by rw [size_strOf, bytesL_length, ha.1]
  have HT2 : Hid (wordsL n (nums (strOfNums (bytesL zs))) = zs) := by
    show _ = _
    rw [nums_strOf _ (bytesL_bound zs), ← ha.1]
    exact wordsL_bytesL zs ha.2.1
  have hmax : n ≤ maxLen := by unfold maxLen; omega
  generalize hTT : strOfNums (bytesL zs) = T at *
  have HTT := Lib.hid hTT
  clear hTT
  have HT := Lib.hid hT
  have hlen : ((T.size : Int) != 8 * (n : Int)) = false := by simp; omega
  clear hT
  go_enter Try.func9, Try.ntmps9
  go_wp2_with fail
  refine (words_any _).mono ?_
  rintro e w1 ⟨rfl, hb1⟩
  go_wp2_with fail
  refine (bytes_ok A n c zs _ hl ((ha.below hb1 (Nat.le_refl _)).more hb1.size)).mono ?_
  rintro e w2 ⟨rfl, hb2⟩
  rw [HTT.out]
  have hB2 := hb1.trans (hb2.mono hb1.size)
  go_wp2_with fail
  refine (words_ok T _ n (by have := HT.out; omega) HT.out).mono ?_
  rintro e w3 ⟨rfl, hW3, hb3⟩
  rw [HT2.out] at hW3
  have hB3 := hB2.trans (hb3.mono hB2.size)
  have a3 := hW3.arr (B := w3.heap.size) hW3.lt
  rw [ha.1] at a3
  go_wp2_with fail
  refine (equalWords A _ n n c n w3.heap.size zs zs _ ((ha.below hB3 (Nat.le_refl _)).more hB3.size) a3 hmax hmax).mono ?_
  rintro e w4 ⟨rfl, q, rfl⟩
  rw [show decide (zs = zs) = true by simp]
  have HB3 := Lib.hid hB3
  clear hb1 hb2 hb3 hB2 hB3 hW3 a3 ha
  by_cases h1 : 2048 < s.size
  · go_wp2_with fail
    refine (words_large s _ hs h1).mono ?_
    rintro e w' ⟨rfl, rfl⟩
    go_wp2
    go_ret
    exact ⟨rfl, below_drewN HB3.out _⟩
  · by_cases h2 : s.size % 8 = 0
    · obtain ⟨m, hm⟩ : ∃ m, s.size = 8 * m := ⟨s.size / 8, by omega⟩
      have hm256 : m ≤ 256 := by omega
      have HM := Lib.hid hm
      have HZ := Lib.hid (bytesL_wordsL m (nums s) (by rw [nums_length]; exact hm) (nums_bound s))
      clear hm h2
      go_wp2_with fail
      refine (words_ok s _ m (by omega) HM.out).mono ?_
      rintro e w5 ⟨rfl, hW5, hb5⟩
      have hB5 := (below_drewN HB3.out q).trans (hb5.mono HB3.out.size)
      have hr := hW5.arr (B := w5.heap.size) hW5.lt
      rw [wordsL_length] at hr
      go_wp2_with fail
      refine (bytes_ok _ m m _ _ hm256 hr).mono ?_
      rintro e w6 ⟨rfl, hb6⟩
      rw [HZ.out, strOf_nums]
      have HB := Lib.hid (hB5.trans (hb6.mono hB5.size))
      clear hW5 hb5 hb6 hr hB5
      go_wp2
      go_ret
      exact ⟨rfl, HB.out⟩
    · go_wp2_with fail
      refine (words_form s _ (by omega) h2).mono ?_
      rintro e w' ⟨rfl, rfl⟩
      go_wp2
      go_ret
      exact ⟨rfl, below_drewN HB3.out _⟩

theorem wback_walk (A : Option Addr) (n c : Nat) (s : ByteArray) (zs : List Int) (w : World) (hn : n ≤ maxLen) (hs : s.size ≤ maxLen) (ha : Arr .u64 w w.heap.size A n zs) :
    Calls Try.prog 9 #[.slice A n c, .string s] w fun e w' => e = .returned (.bool true) ∧ Below w.heap.size w w' := by
  by_cases h : 256 < n
  · exact wback_big A n c s w hn hs h
  · exact wback_small A n c s zs w (by omega) hs ha
end Go.Proofs.Ytjngimjfofplpaa
