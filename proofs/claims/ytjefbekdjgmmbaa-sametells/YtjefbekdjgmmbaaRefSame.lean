/-
  The reference's SameInts and SameWords: whether the two lists of numbers are one; nothing is written.
-/
import Derived.Test.YtjefbekdjgmmbaaRef
namespace Go.Proofs.Ytjefbekdjgmmbaa
open Go.RowKit

set_option maxHeartbeats 400000 in
theorem refInts (A A' : Option Addr) (n n' c c' B : Nat) (xs ys : List Int) (w : World) (hx : Arr .i64 w B A n xs) (hy : Arr .i64 w B A' n' ys) (hn : n ≤ maxLen) (hn' : n' ≤ maxLen) :
    Calls Try.prog 42 #[.slice A n c, .slice A' n' c'] w fun e w' => e = .returned (.bool (decide (xs = ys))) ∧ ∃ q, w.drewN q = w' := by
  unfold maxLen at hn hn'
  obtain ⟨hxl, _, hxc⟩ := hx
  obtain ⟨hyl, _, hyc⟩ := hy
  by_cases hne : n = n'
  · subst hne
    have HL : Hid (xs.length = ys.length) := hxl.trans hyl.symm
    have HX := Lib.hid hxl
    clear hxl hyl
    have ht : ((n : Int) != (n : Int)) = false := by simp
    go_enter Try.func42, Try.ntmps42
    go_wp2
    go_loopw [13] (fun i wr => ∃ k : Nat, k ≤ n ∧ i = .int .i64 k ∧ Hid (∀ j, j < k → nth xs j = nth ys j) ∧ ∃ q, w.drewN q = wr) (fun i _ => n - (intOf i).toNat)
    case atStart => exact ⟨0, Nat.zero_le _, rfl, (fun j hj => absurd hj (by omega)), 0, rfl⟩
    case round =>
      obtain ⟨k, hk, rfl, HE, q, rfl⟩ := hrel
      by_cases hlt : k < n
      · obtain ⟨b, off, rfl, _, hc⟩ := hxc (by omega)
        obtain ⟨b', off', rfl, _, hc'⟩ := hyc (by omega)
        have h1 : w.cell? ⟨b, off + k, none⟩ = some (.int .i64 (nth xs k)) := hc k hlt
        have h2 : w.cell? ⟨b', off' + k, none⟩ = some (.int .i64 (nth ys k)) := hc' k hlt
        clear hc hc' hxc hyc
        have hlt' : (k : Int) < (n : Int) := by omega
        generalize hX : nth xs k = X at *
        generalize hY : nth ys k = Y at *
        have HX' := Lib.hid hX
        have HY' := Lib.hid hY
        clear hX hY
        by_cases he : X = Y
        · have hb : (X != Y) = false := by simp [he]
          have HEQ := Lib.hid he
          clear he
          go_wp2
          go_quiet (fail)
          go_wp2
          go_roundw
          case rel => 
            refine ⟨k + 1, by omega, by go_num, fun j hj => ?_, _, rfl⟩
            rcases Nat.lt_succ_iff_lt_or_eq.1 hj with h | h
            · exact HE.out j h
            · rw [h, HX'.out, HY'.out]; exact HEQ.out
          case measure => simp [intOf]; omega
        · have hb : (X != Y) = true := by simp [he]
          have HR : Hid (decide (xs = ys) = false) := by
            have : xs ≠ ys := by
              intro e
              apply he
              rw [← HX'.out, ← HY'.out, e]
            show _ = _
            simpa using this
          go_wp2
          go_quiet (fail)
          go_wp2
          go_ret
          exact ⟨by rw [HR.out]; rfl, _, (World.drewN_drewN _ _ _).symm⟩
      · obtain rfl : k = n := by omega
        have HR : Hid (decide (xs = ys) = true) := by
          show _ = _
          have := nth_ext HL.out (fun j hj => HE.out j (by rw [HX.out] at hj; exact hj))
          simpa using this
        go_wp2
        go_ret
        exact ⟨by rw [HR.out]; rfl, _, rfl⟩
  · have ht : ((n : Int) != (n' : Int)) = true := by simp; omega
    have HR : Hid (decide (xs = ys) = false) := by
      show _ = _
      simp
      intro e
      rw [e] at hxl
      omega
    clear hxl hyl
    go_enter Try.func42, Try.ntmps42
    go_wp2
    go_ret
    exact ⟨by rw [HR.out]; rfl, 0, rfl⟩
set_option maxHeartbeats 400000 in
theorem refWords_ (A A' : Option Addr) (n n' c c' B : Nat) (xs ys : List Int) (w : World) (hx : Arr .u64 w B A n xs) (hy : Arr .u64 w B A' n' ys) (hn : n ≤ maxLen) (hn' : n' ≤ maxLen) :
    Calls Try.prog 72 #[.slice A n c, .slice A' n' c'] w fun e w' => e = .returned (.bool (decide (xs = ys))) ∧ ∃ q, w.drewN q = w' := by
  unfold maxLen at hn hn'
  obtain ⟨hxl, _, hxc⟩ := hx
  obtain ⟨hyl, _, hyc⟩ := hy
  by_cases hne : n = n'
  · subst hne
    have HL : Hid (xs.length = ys.length) := hxl.trans hyl.symm
    have HX := Lib.hid hxl
    clear hxl hyl
    have ht : ((n : Int) != (n : Int)) = false := by simp
    go_enter Try.func72, Try.ntmps72
    go_wp2
    go_loopw [13] (fun i wr => ∃ k : Nat, k ≤ n ∧ i = .int .i64 k ∧ Hid (∀ j, j < k → nth xs j = nth ys j) ∧ ∃ q, w.drewN q = wr) (fun i _ => n - (intOf i).toNat)
    case atStart => exact ⟨0, Nat.zero_le _, rfl, (fun j hj => absurd hj (by omega)), 0, rfl⟩
    case round =>
      obtain ⟨k, hk, rfl, HE, q, rfl⟩ := hrel
      by_cases hlt : k < n
      · obtain ⟨b, off, rfl, _, hc⟩ := hxc (by omega)
        obtain ⟨b', off', rfl, _, hc'⟩ := hyc (by omega)
        have h1 : w.cell? ⟨b, off + k, none⟩ = some (.int .u64 (nth xs k)) := hc k hlt
        have h2 : w.cell? ⟨b', off' + k, none⟩ = some (.int .u64 (nth ys k)) := hc' k hlt
        clear hc hc' hxc hyc
        have hlt' : (k : Int) < (n : Int) := by omega
        generalize hX : nth xs k = X at *
        generalize hY : nth ys k = Y at *
        have HX' := Lib.hid hX
        have HY' := Lib.hid hY
        clear hX hY
        by_cases he : X = Y
        · have hb : (X != Y) = false := by simp [he]
          have HEQ := Lib.hid he
          clear he
          go_wp2
          go_quiet (fail)
          go_wp2
          go_roundw
          case rel => 
            refine ⟨k + 1, by omega, by go_num, fun j hj => ?_, _, rfl⟩
            rcases Nat.lt_succ_iff_lt_or_eq.1 hj with h | h
            · exact HE.out j h
            · rw [h, HX'.out, HY'.out]; exact HEQ.out
          case measure => simp [intOf]; omega
        · have hb : (X != Y) = true := by simp [he]
          have HR : Hid (decide (xs = ys) = false) := by
            have : xs ≠ ys := by
              intro e
              apply he
              rw [← HX'.out, ← HY'.out, e]
            show _ = _
            simpa using this
          go_wp2
          go_quiet (fail)
          go_wp2
          go_ret
          exact ⟨by rw [HR.out]; rfl, _, (World.drewN_drewN _ _ _).symm⟩
      · obtain rfl : k = n := by omega
        have HR : Hid (decide (xs = ys) = true) := by
          show _ = _
          have := nth_ext HL.out (fun j hj => HE.out j (by rw [HX.out] at hj; exact hj))
          simpa using this
        go_wp2
        go_ret
        exact ⟨by rw [HR.out]; rfl, _, rfl⟩
  · have ht : ((n : Int) != (n' : Int)) = true := by simp; omega
    have HR : Hid (decide (xs = ys) = false) := by
      show _ = _
      simp
      intro e
      rw [e] at hxl
      omega
    clear hxl hyl
    go_enter Try.func72, Try.ntmps72
    go_wp2
    go_ret
    exact ⟨by rw [HR.out]; rfl, 0, rfl⟩

theorem refIntsOne (A A' : Option Addr) (n c c' B : Nat) (xs : List Int) (w : World) (hx : Arr .i64 w B A n xs) (hy : Arr .i64 w B A' n xs) (hn : n ≤ maxLen) :
    Calls Try.prog 42 #[.slice A n c, .slice A' n c'] w fun e w' => e = .returned (.bool true) ∧ ∃ q, w.drewN q = w' :=
  (refInts A A' n n c c' B xs xs w hx hy hn hn).mono fun e w' h => ⟨by rw [h.1]; simp, h.2⟩
theorem refWordsOne (A A' : Option Addr) (n c c' B : Nat) (xs : List Int) (w : World) (hx : Arr .u64 w B A n xs) (hy : Arr .u64 w B A' n xs) (hn : n ≤ maxLen) :
    Calls Try.prog 72 #[.slice A n c, .slice A' n c'] w fun e w' => e = .returned (.bool true) ∧ ∃ q, w.drewN q = w' :=
  (refWords_ A A' n n c c' B xs xs w hx hy hn hn).mono fun e w' h => ⟨by rw [h.1]; simp, h.2⟩
end Go.Proofs.Ytjefbekdjgmmbaa
