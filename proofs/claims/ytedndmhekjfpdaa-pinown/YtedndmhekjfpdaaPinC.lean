/-
  Contracts of pin.isWord, pin.Check, pin.checkWord.
-/
import Derived.Test.YtedndmhekjfpdaaPinM
import Derived.Test.YtedndmhekjfpdaaRoomG
namespace Go.Proofs.Ytedndmhekjfpdaa
open Go.RowKit

set_option maxHeartbeats 400000 in
theorem pinWord_any (a : Int) (w : World) : Calls Try.prog 46 #[.int .i64 a] w fun e w' => e = .returned (.bool (inWord a)) ∧ w = w' := by
  by_cases h1 : 0 ≤ a
  · have c1 : (0 ≤ a) = True := eq_true h1
    by_cases h2 : a < 256
    · have HR : Hid (inWord a = true) := inWord_iff.2 ⟨h1, h2⟩
      have c2 : (a < 256) = True := eq_true h2
      clear h1 h2
      go_enter Try.func46, Try.ntmps46
      go_wp2
      go_ret
      exact ⟨by rw [HR.out]; rfl, rfl⟩
    · have HR : Hid (inWord a = false) := by show _ = _; simp [inWord]; omega
      have c2 : (a < 256) = False := eq_false h2
      clear h1 h2
      go_enter Try.func46, Try.ntmps46
      go_wp2
      go_ret
      exact ⟨by rw [HR.out]; rfl, rfl⟩
  · have HR : Hid (inWord a = false) := by show _ = _; simp [inWord]; omega
    have c1 : (0 ≤ a) = False := eq_false h1
    clear h1
    go_enter Try.func46, Try.ntmps46
    go_wp2
    go_ret
    exact ⟨by rw [HR.out]; rfl, rfl⟩

set_option maxRecDepth 8000 in
set_option maxHeartbeats 1000000 in
theorem pinCheck_any (A : Option Addr) (n c : Nat) (l : List (Int × Int)) (w : World) (hn : n ≤ maxLen) (ha : ArrG runC 2 w w.heap.size A n l) :
    Calls Try.prog 45 #[.slice A n c] w fun e w' => e = .returned (.int .i64 (pinE l)) ∧ Below w.heap.size w w' := by
  unfold maxLen at hn
  have hl := ha.1
  by_cases h16 : 16 < n
  · have HR : Hid (pinE l = 2) := by show _ = _; unfold pinE; rw [if_pos (by omega)]
    have c1 : ((16 : Int) < (n : Int)) = True := eq_true (by omega)
    clear ha hl
    go_enter Try.func45, Try.ntmps45
    go_wp2
    go_ret
    exact ⟨by rw [HR.out]; rfl, Below.refl _ _⟩
  · have c1 : ((16 : Int) < (n : Int)) = False := eq_false (by omega)
    have HA := Lib.hid ha
    have HL := Lib.hid hl
    clear ha hl
    go_enter Try.func45, Try.ntmps45
    go_wp2_with fail
    go_loopw [10] (fun i wr => ∃ k : Nat, k ≤ n ∧ i = .int .i64 k ∧ Hid (pinTo l k = 0) ∧ Hid (Below w.heap.size w wr)) (fun i _ => n - (intOf i).toNat)
    case atStart => exact ⟨0, Nat.zero_le _, rfl, rfl, Below.refl _ _⟩
    case round =>
      obtain ⟨k, hk, rfl, HT, HB⟩ := hrel
      by_cases hlt : k < n
      · have haW := HA.out.below HB.out (Nat.le_refl _)
        obtain ⟨b, off, rfl, hbB, hc0, hc1⟩ := haW.run hlt
        have hbW : b < wr.heap.size := Nat.lt_of_lt_of_le hbB HB.out.size
        have HP : Hid (0 < k → wr.cell? ⟨b, off + (k - 1) * 2, none⟩ = some (.int .i64 (nthG l (k - 1)).1)) := fun h0 => by
          obtain ⟨b', off', e, _, h, _⟩ := haW.run (j := k - 1) (by omega)
          injection e with e
          injection e with e1 e2
          subst e1; subst e2
          exact h
        have HW := Lib.hid (fun wx => pinWord_any (nthG l k).1 wx)
        have HBAD : Hid (pinOk (nthG l k) = false → pinE l = 4) := fun h => by
          have e := pinAt_bad (l := l) (i := k) h
          rw [pinE_at (k := k) (by rw [HL.out]; omega) (by rw [HL.out]; exact hlt) HT.out (by rw [e]; decide), e]
        have HFORM : Hid (pinOk (nthG l k) = true → (0 < k ∧ (nthG l k).1 ≤ (nthG l (k - 1)).1) → pinE l = 3) := fun h h2 => by
          have e := pinAt_form (l := l) (i := k) h h2
          rw [pinE_at (k := k) (by rw [HL.out]; omega) (by rw [HL.out]; exact hlt) HT.out (by rw [e]; decide), e]
        have HGOOD : Hid (pinOk (nthG l k) = true → ¬ (0 < k ∧ (nthG l k).1 ≤ (nthG l (k - 1)).1) → pinTo l (k + 1) = 0) := fun h h2 => by
          rw [pinTo_next HT.out]; exact pinAt_ok h h2
        obtain ⟨X, hX⟩ : ∃ X, (nthG l k).1 = X := ⟨_, rfl⟩
        obtain ⟨Y, hY⟩ : ∃ Y, (nthG l k).2 = Y := ⟨_, rfl⟩
        have hok : pinOk (nthG l k) = decide (0 ≤ X ∧ X < 256 ∧ 1 ≤ Y ∧ Y ≤ 1000000) := by unfold pinOk; rw [hX, hY]
        rw [hX] at hc0 HW HFORM HGOOD
        rw [hY] at hc1
        rw [hok] at HBAD HFORM HGOOD
        have bx := Box.new wr 57 #[.int .i64 X, .int .i64 Y]
        have y0 : (wr.alloc (.cells #[.int .i64 X, .int .i64 Y] 57)).cell? ⟨wr.heap.size, 0, none⟩ = some (.int .i64 X) := bx.cell 0
        have y1 : (wr.alloc (.cells #[.int .i64 X, .int .i64 Y] 57)).cell? ⟨wr.heap.size, 1, none⟩ = some (.int .i64 Y) := bx.cell 1
        have HBw := Lib.hid (HB.out.alloc HB.out.size (.cells #[.int .i64 X, .int .i64 Y] 57))
        clear haW hok hX hY bx HT
        by_cases hx : 0 ≤ X ∧ X < 256
        · rw [inWord_iff.2 hx] at HW
          by_cases hy1 : Y < 1
          · have HR := Lib.hid (HBAD.out (by simp; omega))
            have c2 : (Y < 1) = True := eq_true hy1
            clear HBAD HFORM HGOOD hx hy1 HP
            go_wp2_with fail
            refine (HW.out _).mono ?_
            rintro e w1 ⟨rfl, rfl⟩
            go_wp2
            go_ret
            exact ⟨by rw [HR.out]; rfl, HBw.out⟩
          · have c2 : (Y < 1) = False := eq_false hy1
            by_cases hy2 : 1000000 < Y
            · have HR := Lib.hid (HBAD.out (by simp; omega))
              have c3 : (1000000 < Y) = True := eq_true hy2
              clear HBAD HFORM HGOOD hx hy1 hy2 HP
              go_wp2_with fail
              refine (HW.out _).mono ?_
              rintro e w1 ⟨rfl, rfl⟩
              go_wp2
              go_ret
              exact ⟨by rw [HR.out]; rfl, HBw.out⟩
            · have c3 : (1000000 < Y) = False := eq_false hy2
              have hgood : decide (0 ≤ X ∧ X < 256 ∧ 1 ≤ Y ∧ Y ≤ 1000000) = true := by simp; omega
              rw [hgood] at HFORM HGOOD
              clear HBAD hgood hx hy1 hy2
              rcases Nat.eq_zero_or_pos k with h0 | h0
              · subst h0
                rw [Nat.zero_mul, Nat.add_zero] at hc0 hc1
                have HN := Lib.hid (HGOOD.out rfl (by omega))
                clear HFORM HGOOD HP
                go_wp2_with fail
                refine (HW.out _).mono ?_
                rintro e w1 ⟨rfl, rfl⟩
                go_wp2_with fail
                generalize (wr.alloc (.cells #[.int .i64 X, .int .i64 Y] 57)) = V at *
                go_quiet (fail)
                go_wp2
                go_roundw
                case rel => exact ⟨1, by omega, by go_num, HN, Lib.hid (below_drewN HBw.out _)⟩
                case measure => simp [intOf]; omega
              · obtain ⟨i, rfl⟩ : ∃ i, k = i + 1 := ⟨k - 1, by omega⟩
                have hp := HP.out h0
                rw [show i + 1 - 1 = i by omega] at hp HFORM HGOOD
                have p0 : (wr.alloc (.cells #[.int .i64 X, .int .i64 Y] 57)).cell? ⟨b, off + i * 2, none⟩ = some (.int .i64 (nthG l i).1) := by
                  rw [((Below.refl _ wr).alloc (Nat.le_refl _) (.cells #[.int .i64 X, .int .i64 Y] 57)).cell (p := ⟨b, off + i * 2, none⟩) hbW]
                  exact hp
                generalize (nthG l i).1 = Q at *
                have hi1 : ((i + 1 : Nat) : Int) - 1 = (i : Int) := by omega
                by_cases hq : X ≤ Q
                · have HR := Lib.hid (HFORM.out rfl ⟨h0, hq⟩)
                  have c4 : (X ≤ Q) = True := eq_true hq
                  clear HFORM HGOOD HP hq hp
                  go_wp2_with fail
                  refine (HW.out _).mono ?_
                  rintro e w1 ⟨rfl, rfl⟩
                  go_wp2_with fail
                  generalize (wr.alloc (.cells #[.int .i64 X, .int .i64 Y] 57)) = V at *
                  go_quiet (fail)
                  go_wp2
                  go_ret
                  exact ⟨by rw [HR.out]; rfl, below_drewN HBw.out _⟩
                · have HN := Lib.hid (HGOOD.out rfl (by omega))
                  have c4 : (X ≤ Q) = False := eq_false hq
                  clear HFORM HGOOD HP hq hp
                  go_wp2_with fail
                  refine (HW.out _).mono ?_
                  rintro e w1 ⟨rfl, rfl⟩
                  go_wp2_with fail
                  generalize (wr.alloc (.cells #[.int .i64 X, .int .i64 Y] 57)) = V at *
                  go_quiet (fail)
                  go_wp2
                  go_roundw
                  case rel => exact ⟨i + 1 + 1, by omega, by go_num, HN, Lib.hid (below_drewN HBw.out _)⟩
                  case measure => simp [intOf]; omega
        · rw [show inWord X = false by simp [inWord]; omega] at HW
          have HR := Lib.hid (HBAD.out (by simp; omega))
          clear HBAD HFORM HGOOD hx HP
          go_wp2_with fail
          refine (HW.out _).mono ?_
          rintro e w1 ⟨rfl, rfl⟩
          go_wp2
          go_ret
          exact ⟨by rw [HR.out]; rfl, HBw.out⟩
      · obtain rfl : k = n := by omega
        have HR : Hid (pinE l = 0) := by
          show _ = _
          unfold pinE
          rw [if_neg (by rw [HL.out]; omega), HL.out]
          exact HT.out
        go_wp2
        go_ret
        exact ⟨by rw [HR.out]; rfl, HB.out⟩
set_option maxHeartbeats 400000 in
theorem checkWord_any (A : Option Addr) (n c : Nat) (l : List (Int × Int)) (a : Int) (w : World) (hn : n ≤ maxLen) (ha : ArrG runC 2 w w.heap.size A n l) :
    Calls Try.prog 41 #[.slice A n c, .int .i64 a] w fun e w' => e = .returned (.int .i64 (callE l a)) ∧ Below w.heap.size w w' := by
  have HC := Lib.hid (pinCheck_any A n c l w hn ha)
  have HW := Lib.hid (fun wx => pinWord_any a wx)
  unfold callE
  clear ha
  generalize pinE l = E at *
  by_cases h1 : E = 0
  · subst h1
    rw [if_pos rfl]
    cases h2 : inWord a
    · have HR : Hid (wordE a = 4) := by
        show _ = _
        unfold wordE
        rw [if_neg]
        intro h
        rw [inWord_iff.2 h] at h2; cases h2
      rw [h2] at HW
      clear h2
      go_enter Try.func41, Try.ntmps41
      go_wp2_with fail
      refine HC.out.mono ?_
      rintro e w1 ⟨rfl, b1⟩
      have HB := Lib.hid b1
      clear b1
      go_wp2_with fail
      refine (HW.out _).mono ?_
      rintro e w2 ⟨rfl, rfl⟩
      go_wp2
      go_ret
      exact ⟨by rw [HR.out]; rfl, HB.out⟩
    · have HR : Hid (wordE a = 0) := wordE_ok.2 (inWord_iff.1 h2)
      rw [h2] at HW
      clear h2
      go_enter Try.func41, Try.ntmps41
      go_wp2_with fail
      refine HC.out.mono ?_
      rintro e w1 ⟨rfl, b1⟩
      have HB := Lib.hid b1
      clear b1
      go_wp2_with fail
      refine (HW.out _).mono ?_
      rintro e w2 ⟨rfl, rfl⟩
      go_wp2
      go_ret
      exact ⟨by rw [HR.out]; rfl, HB.out⟩
  · have c1 : (E != 0) = true := by simpa using h1
    rw [if_neg h1]
    clear h1
    go_enter Try.func41, Try.ntmps41
    go_wp2_with fail
    refine HC.out.mono ?_
    rintro e w1 ⟨rfl, b1⟩
    have HB := Lib.hid b1
    clear b1
    go_wp2
    go_ret
    exact ⟨rfl, HB.out⟩
end Go.Proofs.Ytedndmhekjfpdaa
