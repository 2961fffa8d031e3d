/-
  The walks of WordBytes and WordBack: whatever the arguments and the memory, each call returns true and changes nothing that was there.
-/
import Derived.Test.YtjngimjfofplpaaWords
import Derived.Test.YtjngimjfofplpaaMovesWalk
namespace Go.Proofs.Ytjngimjfofplpaa
open Go.RowKit

set_option maxHeartbeats 1000000 in
theorem wbytes_big (A : Option Addr) (n c : Nat) (s : ByteArray) (w : World) (hn : n ≤ maxLen) (hs : s.size ≤ maxLen) (hl : 256 < n) :
    Calls Try.prog 5 #[.slice A n c, .string s] w fun e w' => e = .returned (.bool true) ∧ Below w.heap.size w w' := by
  have hl' : (256 : Int) < n := by omega
  unfold maxLen at hs
  by_cases h1 : 2048 < s.size
  · have h1' : (2048 : Int) < s.size := by omega
    go_enter Try.func5, Try.ntmps5
    go_wp2_with fail
    refine (bytes_large A n c _ hn hl).mono ?_
    rintro e w' ⟨rfl, rfl⟩
    go_wp2_with fail
    refine (words_large s _ hs h1).mono ?_
    rintro e w' ⟨rfl, rfl⟩
    go_wp2
    go_ret
    exact ⟨rfl, Below.refl _ _⟩
  · have h1' : ¬ (2048 : Int) < s.size := by omega
    by_cases h2 : s.size % 8 = 0
    · obtain ⟨m, hm⟩ : ∃ m, s.size = 8 * m := ⟨s.size / 8, by omega⟩
      have h2' : ((s.size : Int) % 8 != 0) = false := by simp; omega
      have h3 : (s.size : Int) / 8 = m := by omega
      have hm256 : m ≤ 256 := by omega
      have HM := Lib.hid hm
      have HZ := Lib.hid (bytesL_wordsL m (nums s) (by rw [nums_length]; exact hm) (nums_bound s))
      clear hm h2
      go_enter Try.func5, Try.ntmps5
      go_wp2_with fail
      refine (bytes_large A n c _ hn hl).mono ?_
      rintro e w' ⟨rfl, rfl⟩
      go_wp2_with fail
      refine (words_ok s _ m (by omega) HM.out).mono ?_
      rintro e w1 ⟨rfl, hW, hB⟩
      have hr := hW.arr (B := w1.heap.size) hW.lt
      rw [wordsL_length] at hr
      go_wp2_with fail
      refine (text_ok _ m m _ _ hm256 hr).mono ?_
      rintro e w2 ⟨rfl, hB2⟩
      rw [HZ.out, strOf_nums]
      have HB := Lib.hid (hB.trans (hB2.mono hB.size))
      clear hW hB hr hB2
      go_wp2
      go_ret
      exact ⟨rfl, HB.out⟩
    · have h2' : ((s.size : Int) % 8 != 0) = true := by simp; omega
      go_enter Try.func5, Try.ntmps5
      go_wp2_with fail
      refine (bytes_large A n c _ hn hl).mono ?_
      rintro e w' ⟨rfl, rfl⟩
      go_wp2_with fail
      refine (words_form s _ (by omega) h2).mono ?_
      rintro e w' ⟨rfl, rfl⟩
      go_wp2
      go_ret
      exact ⟨rfl, Below.refl _ _⟩

set_option maxHeartbeats 1000000 in
theorem wbytes_small (A : Option Addr) (n c : Nat) (s : ByteArray) (zs : List Int) (w : World) (hl : n ≤ 256) (hs : s.size ≤ maxLen) (ha : Arr .u64 w w.heap.size A n zs) :
    Calls Try.prog 5 #[.slice A n c, .string s] w fun e w' => e = .returned (.bool true) ∧ Below w.heap.size w w' := by
  have hl' : ¬ (256 : Int) < n := by omega
  unfold maxLen at hs
  by_cases h1 : 2048 < s.size
  · have h1' : (2048 : Int) < s.size := by omega
    go_enter Try.func5, Try.ntmps5
    go_wp2_with fail
    refine (bytes_ok A n c zs _ hl ha).mono ?_
    rintro e w1 ⟨rfl, hb1⟩
    go_wp2_with fail
    refine (words_large s _ hs h1).mono ?_
    rintro e w' ⟨rfl, rfl⟩
    go_wp2_with fail
    refine (text_ok A n c zs _ hl ((ha.below hb1 (Nat.le_refl _)).more hb1.size)).mono ?_
    rintro e w2 ⟨rfl, hb2⟩
    have HB := Lib.hid (hb1.trans (hb2.mono hb1.size))
    clear hb1 hb2 ha
    generalize strOfNums (bytesL zs) = S
    go_wp2
    go_ret
    exact ⟨rfl, HB.out⟩
  · have h1' : ¬ (2048 : Int) < s.size := by omega
    by_cases h2 : s.size % 8 = 0
    · obtain ⟨m, hm⟩ : ∃ m, s.size = 8 * m := ⟨s.size / 8, by omega⟩
      have h2' : ((s.size : Int) % 8 != 0) = false := by simp; omega
      have h3 : (s.size : Int) / 8 = m := by omega
      have hm256 : m ≤ 256 := by omega
      have HM := Lib.hid hm
      have HZ := Lib.hid (bytesL_wordsL m (nums s) (by rw [nums_length]; exact hm) (nums_bound s))
      clear hm h2
      go_enter Try.func5, Try.ntmps5
      go_wp2_with fail
      refine (bytes_ok A n c zs _ hl ha).mono ?_
      rintro e w0 ⟨rfl, hb0⟩
      go_wp2_with fail
      refine (words_ok s _ m (by omega) HM.out).mono ?_
      rintro e w1 ⟨rfl, hW, hb1⟩
      have hB1 := hb0.trans (hb1.mono hb0.size)
      go_wp2_with fail
      refine (text_ok A n c zs _ hl ((ha.below hB1 (Nat.le_refl _)).more hB1.size)).mono ?_
      rintro e w2 ⟨rfl, hb2⟩
      have hB2 := hB1.trans (hb2.mono hB1.size)
      have hW2 := hW.below hb2 hW.lt
      have hr := hW2.arr (B := w2.heap.size) hW2.lt
      rw [wordsL_length] at hr
      generalize strOfNums (bytesL zs) = S
      go_wp2_with fail
      refine (text_ok _ m m _ _ hm256 hr).mono ?_
      rintro e w3 ⟨rfl, hb3⟩
      rw [HZ.out, strOf_nums]
      have HB := Lib.hid (hB2.trans (hb3.mono hB2.size))
      clear hW hB1 hB2 hr hb0 hb1 hb2 hb3 ha hW2
      go_wp2
      go_ret
      exact ⟨rfl, HB.out⟩
    · have h2' : ((s.size : Int) % 8 != 0) = true := by simp; omega
      go_enter Try.func5, Try.ntmps5
      go_wp2_with fail
      refine (bytes_ok A n c zs _ hl ha).mono ?_
      rintro e w1 ⟨rfl, hb1⟩
      go_wp2_with fail
      refine (words_form s _ (by omega) h2).mono ?_
      rintro e w' ⟨rfl, rfl⟩
      go_wp2_with fail
      refine (text_ok A n c zs _ hl ((ha.below hb1 (Nat.le_refl _)).more hb1.size)).mono ?_
      rintro e w2 ⟨rfl, hb2⟩
      have HB := Lib.hid (hb1.trans (hb2.mono hb1.size))
      clear hb1 hb2 ha
      generalize strOfNums (bytesL zs) = S
      go_wp2
      go_ret
      exact ⟨rfl, HB.out⟩

theorem wbytes_walk (A : Option Addr) (n c : Nat) (s : ByteArray) (zs : List Int) (w : World) (hn : n ≤ maxLen) (hs : s.size ≤ maxLen) (ha : Arr .u64 w w.heap.size A n zs) :
    Calls Try.prog 5 #[.slice A n c, .string s] w fun e w' => e = .returned (.bool true) ∧ Below w.heap.size w w' := by
  by_cases h : 256 < n
  · exact wbytes_big A n c s w hn hs h
  · exact wbytes_small A n c s zs w (by omega) hs ha
end Go.Proofs.Ytjngimjfofplpaa
