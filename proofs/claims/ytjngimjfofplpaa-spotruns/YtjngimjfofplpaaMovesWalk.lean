/-
  The walk of WordMoves: whatever the arguments and the memory, the call returns true and changes nothing that was there.
-/
import Derived.Test.YtjngimjfofplpaaReadsWalk
namespace Go.Proofs.Ytjngimjfofplpaa
open Go.RowKit

theorem nth_splice_in (zs ys : List Int) (r k : Nat) (h1 : r ≤ k) (h2 : k < r + ys.length) (h3 : r ≤ zs.length) : nth (splice zs r ys) k = nth ys (k - r) := by
  unfold nth splice
  have e : (zs.take r).length = r := by simp; omega
  rw [List.getD_eq_getElem?_getD, List.getD_eq_getElem?_getD, List.getElem?_append_right (by omega), e, List.getElem?_append_left (by omega)]
theorem nth_splice_out (zs ys : List Int) (r k : Nat) (h1 : ¬ (r ≤ k ∧ k < r + ys.length)) (h3 : r + ys.length ≤ zs.length) : nth (splice zs r ys) k = nth zs k := by
  unfold nth splice
  have e : (zs.take r).length = r := by simp; omega
  rw [List.getD_eq_getElem?_getD, List.getD_eq_getElem?_getD]
  by_cases h : k < r
  · rw [List.getElem?_append_left (by omega), List.getElem?_take, if_pos h]
  · rw [List.getElem?_append_right (by omega), e, List.getElem?_append_right (by omega), List.getElem?_drop]
    congr 2
    omega
theorem nth_cut (zs : List Int) (p q j : Nat) (h : j < q) : nth ((zs.drop p).take q) j = nth zs (p + j) := by
  simp [nth, h, List.getElem?_drop]
theorem rangeE_zero {n : Nat} {i m : Int} (h : rangeE n i m = 0) : n ≤ 256 ∧ 0 ≤ i ∧ i ≤ n ∧ 0 ≤ m ∧ m ≤ n - i := by
  unfold rangeE at h
  split at h
  · omega
  · split at h <;> omega

set_option maxHeartbeats 1000000 in
theorem moves_walk (A : Option Addr) (n c : Nat) (i j m k : Int) (zs : List Int) (w : World) (hn : n ≤ maxLen) (hnc : n ≤ c) (hi : (Lit.int .i64 i).wf = true) (hj : (Lit.int .i64 j).wf = true) (hm : (Lit.int .i64 m).wf = true)
    (hk : (Lit.int .i64 k).wf = true) (ha : Arr .u64 w w.heap.size A n zs) :
    Calls Try.prog 7 #[.slice A n c, .int .i64 i, .int .i64 j, .int .i64 m, .int .i64 k] w fun e w' => e = .returned (.bool true) ∧ Below w.heap.size w w' := by
  by_cases hE1 : rangeE n i m = 0
  · by_cases hE2 : rangeE n j m = 0
    · obtain ⟨h256, i0, i1, m0, m1⟩ := rangeE_zero hE1
      obtain ⟨_, j0, j1, _, m2⟩ := rangeE_zero hE2
      clear hE1 hE2
      obtain ⟨p, rfl⟩ := Int.eq_ofNat_of_zero_le i0
      obtain ⟨q, rfl⟩ := Int.eq_ofNat_of_zero_le m0
      obtain ⟨r, rfl⟩ := Int.eq_ofNat_of_zero_le j0
      have HL := Lib.hid ha.1
      have hnn : ((n : Int) != (n : Int)) = false := by simp
      go_enter Try.func7, Try.ntmps7
      go_wp2_with fail
      refine (words_any _).mono ?_
      rintro e w1 ⟨rfl, hb1⟩
      go_wp2_with fail
      refine (move_ok A n c p r q zs _ h256 hnc i0 i1 m0 m1 j0 j1 m2 ((ha.below hb1 (Nat.le_refl _)).more hb1.size)).mono ?_
      rintro e w2 ⟨rfl, hW, hb2⟩
      rw [Int.toNat_natCast, Int.toNat_natCast, Int.toNat_natCast] at hW
      have hb := (hb1.trans (hb2.mono hb1.size))
      have ha2 := ha.below hb (Nat.le_refl _)
      have HB := Lib.hid hb
      clear hb ha hb1 hb2
      by_cases hk0 : k < 0
      · clear ha2 hW
        go_wp2
        go_ret
        exact ⟨rfl, HB.out⟩
      · by_cases hk1 : (n : Int) ≤ k
        · clear ha2 hW
          go_wp2
          go_ret
          exact ⟨rfl, HB.out⟩
        · obtain ⟨t, rfl⟩ := Int.eq_ofNat_of_zero_le (by omega : 0 ≤ k)
          have hlen : (splice zs r ((zs.drop p).take q)).length = n := by rw [length_splice _ _ _ (by have := HL.out; simp; omega), HL.out]
          have hx := hW.cell (j := t) (by omega)
          obtain ⟨b, off, rfl, _, hcell⟩ := ha2.2.2 (by omega)
          have hd1 : decide ((n : Int) ≤ (t : Int)) = false := by simp; omega
          have htn : (t : Int) < (n : Int) := by omega
          by_cases hin : r ≤ t ∧ t < r + q
          · have hy := hcell (p + t - r) (by omega)
            have ee : nth (splice zs r ((zs.drop p).take q)) t = nth zs (p + t - r) := by
              rw [nth_splice_in _ _ _ _ hin.1 (by have := HL.out; simp; omega) (by have := HL.out; omega), nth_cut _ _ _ _ (by omega)]
              congr 1
              omega
            rw [ee] at hx
            generalize nth zs (p + t - r) = X at *
            clear hcell hW ha2 ee hlen
            have g1 : (r : Int) ≤ (t : Int) := by omega
            have g2 : (t : Int) < (r : Int) + (q : Int) := by omega
            have g3 : IntKind.i64.wrap ((p : Int) + (t : Int)) = p + t := IntWalk.i64_in _ (by omega)
            have g4 : IntKind.i64.wrap ((p : Int) + (t : Int) - r) = p + t - r := IntWalk.i64_in _ (by omega)
            have g5 : (0 : Int) ≤ (p : Int) + (t : Int) - r := by omega
            have g6 : ((p : Int) + (t : Int) - r) < n := by omega
            have g7 : ((p : Int) + (t : Int) - r).toNat = p + t - r := by omega
            have g8 : (X == X) = true := by simp
            go_wp2_with fail
            go_quiet (fail)
            go_wp2
            go_ret
            exact ⟨rfl, below_drewN HB.out _⟩
          · have hy := hcell t (by omega)
            have ee : nth (splice zs r ((zs.drop p).take q)) t = nth zs t := by
              rw [nth_splice_out _ _ _ _ (by have := HL.out; simp; omega) (by have := HL.out; simp; omega)]
            rw [ee] at hx
            generalize nth zs t = X at *
            clear hcell hW ha2 ee hlen
            have g8 : (X == X) = true := by simp
            by_cases hrt : (r : Int) ≤ (t : Int)
            · have g2 : decide ((t : Int) < (r : Int) + (q : Int)) = false := by simp; omega
              go_wp2_with fail
              go_quiet (fail)
              go_wp2
              go_ret
              exact ⟨rfl, below_drewN HB.out _⟩
            · go_wp2_with fail
              go_quiet (fail)
              go_wp2
              go_ret
              exact ⟨rfl, below_drewN HB.out _⟩
    · have hb : (rangeE n j m != 0) = true := by simpa using hE2
      go_enter Try.func7, Try.ntmps7
      go_wp2_with fail
      refine (words_any _).mono ?_
      rintro e w1 ⟨rfl, hb1⟩
      have HB := Lib.hid hb1
      have HE := Lib.hid hE1
      clear hb1 hE1
      go_wp2_with fail
      refine (move_bad2 A n c i j m _ hn hi hj hm HE.out hE2).mono ?_
      rintro e w' ⟨rfl, rfl⟩
      go_wp2
      go_ret
      exact ⟨rfl, HB.out⟩
  · have hb : (rangeE n i m != 0) = true := by simpa using hE1
    go_enter Try.func7, Try.ntmps7
    go_wp2_with fail
    refine (words_any _).mono ?_
    rintro e w1 ⟨rfl, hb1⟩
    have HB := Lib.hid hb1
    clear hb1
    go_wp2_with fail
    refine (move_bad1 A n c i j m _ hn hi hm hE1).mono ?_
    rintro e w' ⟨rfl, rfl⟩
    go_wp2
    go_ret
    exact ⟨rfl, HB.out⟩
end Go.Proofs.Ytjngimjfofplpaa
