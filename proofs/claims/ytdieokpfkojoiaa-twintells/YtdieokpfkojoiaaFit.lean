/-
  Contracts of gap.First and gap.Best, for every argument.
-/
import Derived.Test.YtdieokpfkojoiaaFitM
import Derived.Test.YtdieokpfkojoiaaRunFn2
import Derived.Test.YtdieokpfkojoiaaWalkB
import Derived.StillTailTactics
namespace Go.Proofs.Ytdieokpfkojoiaa
open Go.RowKit

set_option maxHeartbeats 400000 in
theorem invalid_any (x y : Int) (w : World) : Calls Try.prog 69 #[.agg #[.int .i64 x, .int .i64 y]] w fun e w' => e = .returned (.bool (badRun (x, y))) ∧ Below w.heap.size w w' := by
  have hb : badRun (x, y) = (decide (x < 0) || decide (y < 1)) := rfl
  rw [hb]
  clear hb
  have HB := Lib.hid ((Below.refl _ w).alloc (Nat.le_refl _) (.cells #[.int .i64 x, .int .i64 y] 29))
  by_cases h : x < 0
  · rw [show (decide (x < 0) || decide (y < 1)) = true by simp [h]]
    go_enter Try.func69, Try.ntmps69
    go_wp2
    go_ret
    exact ⟨rfl, HB.out⟩
  · by_cases h2 : y < 1
    · rw [show (decide (x < 0) || decide (y < 1)) = true by simp [h2]]
      go_enter Try.func69, Try.ntmps69
      go_wp2
      go_ret
      exact ⟨rfl, HB.out⟩
    · rw [show (decide (x < 0) || decide (y < 1)) = false by simp; omega]
      go_enter Try.func69, Try.ntmps69
      go_wp2
      go_ret
      exact ⟨rfl, HB.out⟩

set_option maxHeartbeats 400000 in
theorem less_any (x y x' y' : Int) (w : World) : Calls Try.prog 55 #[.agg #[.int .i64 x, .int .i64 y], .agg #[.int .i64 x', .int .i64 y']] w fun e w' => e = .returned (.bool (less (x, y) (x', y'))) ∧ Below w.heap.size w w' := by
  have HB := Lib.hid (((Below.refl _ w).alloc (Nat.le_refl _) (.cells #[.int .i64 x, .int .i64 y] 29)).alloc (Nat.le_of_lt (by simp)) (.cells #[.int .i64 x', .int .i64 y'] 29))
  go_enter Try.func55, Try.ntmps55
  go_wp2
  go_ret
  exact ⟨rfl, HB.out⟩

/-- What choose answers. -/
def ChooseP (bt : Int × Int → Int × Int → Bool) (l : List (Int × Int)) (m : Int) (w : World) (e : Ending) (w' : World) : Prop :=
  e = .returned (.tuple #[.int .i64 (chooseV bt l m), .int .i64 (chooseE bt l m)]) ∧ Below w.heap.size w w'

set_option maxHeartbeats 1000000 in
set_option maxRecDepth 8000 in
theorem choose_any (A : Option Addr) (n c fid : Nat) (bt : Int × Int → Int × Int → Bool) (l : List (Int × Int)) (m : Int) (w : World) (hn : n ≤ maxLen) (hx : ArrG runC 2 w w.heap.size A n l) (hcall : ∀ args wx, Sem.run Try.prog (callFunc fid args) wx = .ok (.enter fid args) wx)
    (hF : ∀ x y x' y' wx, Calls Try.prog fid #[.agg #[.int .i64 x, .int .i64 y], .agg #[.int .i64 x', .int .i64 y']] wx (fun e w' => e = .returned (.bool (bt (x, y) (x', y'))) ∧ Below wx.heap.size wx w')) :
    Calls Try.prog 54 #[.slice A n c, .int .i64 m, .func (.func fid) #[] #[]] w (ChooseP bt l m w) := by
  have hl := hx.1
  have hn' := hn
  unfold maxLen at hn'
  unfold ChooseP
  by_cases hm : m < 1
  · have he : chooseE bt l m = 1 := by simp [chooseE, hm]
    rw [show chooseV bt l m = 0 by simp [chooseV, he], he]
    clear hF hx hcall he
    go_enter Try.func54, Try.ntmps54
    go_wp2
    go_ret2
    exact ⟨rfl, Below.refl _ _⟩
  · have HI := Lib.hid (containsRunC A n c w.heap.size 69 #[] l (fun j => badRun (nthG l j)) w hn (Nat.le_refl _) hx (fun args wx => Try.call69 args wx) (fun wx _ j _ => invalid_any _ _ wx))
    have hI : (List.range n).any (fun j => badRun (nthG l j)) = invB l := by unfold invB; rw [hl]
    rw [hI] at HI
    clear hI
    cases hi : invB l
    · have HF := Lib.hid hF
      rw [hi] at HI
      have he : chooseE bt l m = if pickTo bt l m n < 0 then 7 else 0 := by simp [chooseE, hm, hi, hl]
      have HE := Lib.hid he
      clear he hF hi
      go_enter Try.func54, Try.ntmps54
      go_wp2_with fail
      refine HI.out.mono ?_
      rintro e w1 ⟨rfl, hb1⟩
      have hx1 := hx.below hb1 (Nat.le_refl _)
      have HB1 := Lib.hid hb1
      clear hb1 hx HI
      go_wp2_with fail
      go_loopw [8, 17] (fun v i wr => ∃ k : Nat, k ≤ n ∧ i = .int .i64 k ∧ v = .int .i64 (pickTo bt l m k) ∧ Below w1.heap.size w1 wr) (fun _ i _ => n - (intOf i).toNat)
      case atStart => exact ⟨0, Nat.zero_le _, rfl, rfl, Below.refl _ _⟩
      case round =>
        obtain ⟨k, hk, rfl, rfl, hB⟩ := hrel
        by_cases hlt : k < n
        · have hx2 := hx1.below hB HB1.out.size
          obtain ⟨b, off, rfl, hbB, hc0, hc1⟩ := hx2.run hlt
          have HB := Lib.hid hB
          have hr := pickTo_range (bt := bt) (l := l) (n := m) k
          by_cases hs : (nthG l k).2 < m
          · have HP := Lib.hid (pickTo_small (bt := bt) hs)
            clear hx2 hB hx1 hr
            generalize (nthG l k).1 = X at *
            generalize (nthG l k).2 = Y at *
            generalize pickTo bt l m k = P at *
            have HBa := Lib.hid ((HB.out.alloc HB.out.size (.cells #[.int .i64 X, .int .i64 Y] 29)))
            have hs' : (m ≤ Y) = False := eq_false (by omega)
            clear hs
            go_wp2
            go_quiet (fail)
            go_wp2
            go_roundw
            case rel => exact ⟨k + 1, by omega, by go_num, by rw [HP.out], below_drewN HBa.out _⟩
            case measure => simp [intOf]; omega
          · rcases Int.lt_or_le (pickTo bt l m k) 0 with hp | hp
            · have HP := Lib.hid (pickTo_new (bt := bt) (by omega) hp)
              have hs' : m ≤ (nthG l k).2 := by omega
              clear hx2 hB hx1 hr hs
              generalize (nthG l k).1 = X at *
              generalize (nthG l k).2 = Y at *
              generalize pickTo bt l m k = P at *
              have HBa := Lib.hid ((HB.out.alloc HB.out.size (.cells #[.int .i64 X, .int .i64 Y] 29)))
              go_wp2
              go_quiet (fail)
              go_wp2
              go_roundw
              case rel => exact ⟨k + 1, by omega, by go_num, by rw [HP.out], below_drewN HBa.out _⟩
              case measure => simp [intOf]; omega
            · obtain ⟨p, hp'⟩ := Int.eq_ofNat_of_zero_le hp
              obtain ⟨b', off', hAe, _, hd0, hd1⟩ := hx2.run (j := p) (by omega)
              injection hAe with hAe
              injection hAe with he1 he2
              subst he1 he2
              have hpk : p < k := by omega
              have hs' : m ≤ (nthG l k).2 := by omega
              have hC := fun wx => HF.out (nthG l k).1 (nthG l k).2 (nthG l p).1 (nthG l p).2 wx
              have HC := Lib.hid hC
              have HP1 : Hid (bt ((nthG l k).1, (nthG l k).2) ((nthG l p).1, (nthG l p).2) = true → pickTo bt l m (k + 1) = k) := fun h => pickTo_better hs' hp' h
              have HP2 : Hid (bt ((nthG l k).1, (nthG l k).2) ((nthG l p).1, (nthG l p).2) = false → pickTo bt l m (k + 1) = p) := fun h => pickTo_worse hp' h
              rw [hp']
              clear hx2 hB hx1 hr hs hC hp hp'
              generalize (nthG l k).1 = X at *
              generalize (nthG l k).2 = Y at *
              generalize (nthG l p).1 = X' at *
              generalize (nthG l p).2 = Y' at *
              generalize bt (X, Y) (X', Y') = R at *
              have HBa := Lib.hid ((HB.out.alloc HB.out.size (.cells #[.int .i64 X, .int .i64 Y] 29)))
              have hpn : ((p : Int) < 0) = False := eq_false (by omega)
              have hpn2 : p < n := by omega
              have hpn3 : (p : Int) < (n : Int) := by omega
              have bx := Box.new wr 29 #[.int .i64 X, .int .i64 Y]
              have g0 : (wr.alloc (.cells #[.int .i64 X, .int .i64 Y] 29)).cell? ⟨wr.heap.size, 0, none⟩ = some (.int .i64 X) := bx.cell 0
              have g1 : (wr.alloc (.cells #[.int .i64 X, .int .i64 Y] 29)).cell? ⟨wr.heap.size, 1, none⟩ = some (.int .i64 Y) := bx.cell 1
              have bw := (Below.refl wr.heap.size wr).alloc (Nat.le_refl _) (.cells #[.int .i64 X, .int .i64 Y] 29)
              have hbw : b < wr.heap.size := Nat.lt_of_lt_of_le hbB (Nat.le_trans HB1.out.size HB.out.size)
              have f0 := (bw.cell (p := ⟨b, off + p * 2, none⟩) hbw).trans hd0
              have f1 := (bw.cell (p := ⟨b, off + p * 2 + 1, none⟩) hbw).trans hd1
              clear bx bw hbw hd0 hd1
              go_wp2_with fail
              generalize (wr.alloc (.cells #[.int .i64 X, .int .i64 Y] 29)) = w2 at *
              go_still_tail 14, (by kernel_rfl)
              change wpList _ _ _ _ _ (w2.drewN 1)
              have hb2 := below_drewN HBa.out 1
              have HB2 := Lib.hid hb2
              clear g0 g1 f0 f1 hc0 hc1 hb2 HBa
              generalize w2.drewN 1 = w3 at *
              go_wp2_with fail
              refine (HC.out _).mono ?_
              rintro e w4 ⟨rfl, hb4⟩
              have HB4 := Lib.hid (HB2.out.trans (hb4.mono HB2.out.size))
              clear hb4
              cases R
              · have HQ := Lib.hid (HP2.out rfl)
                clear HP1 HP2
                go_wp2
                go_roundw
                case rel => exact ⟨k + 1, by omega, by go_num, by rw [HQ.out], HB4.out⟩
                case measure => simp [intOf]; omega
              · have HQ := Lib.hid (HP1.out rfl)
                clear HP1 HP2
                go_wp2
                go_roundw
                case rel => exact ⟨k + 1, by omega, by go_num, by rw [HQ.out], HB4.out⟩
                case measure => simp [intOf]; omega
        · obtain rfl : k = n := by omega
          have HB := Lib.hid (HB1.out.trans (hB.mono HB1.out.size))
          have hr := pickTo_range (bt := bt) (l := l) (n := m) k
          clear hB hx1
          rcases Int.lt_or_le (pickTo bt l m k) 0 with hp | hp
          · rw [if_pos hp] at HE
            have HV : Hid (chooseV bt l m = 0) := Lib.hid (by unfold chooseV; rw [HE.out]; rfl)
            generalize pickTo bt l m k = P at *
            go_wp2
            go_ret2
            exact ⟨by rw [HE.out, HV.out]; rfl, HB.out⟩
          · rw [if_neg (by omega)] at HE
            have HV : Hid (chooseV bt l m = pickTo bt l m k) := Lib.hid (by unfold chooseV; rw [HE.out, hl]; rfl)
            have hp' : ¬ (pickTo bt l m k < 0) := by omega
            generalize pickTo bt l m k = P at *
            go_wp2
            go_ret2
            exact ⟨by rw [HE.out, HV.out]; rfl, HB.out⟩
    · rw [hi] at HI
      have he : chooseE bt l m = 4 := by simp [chooseE, hm, hi]
      rw [show chooseV bt l m = 0 by simp [chooseV, he], he]
      clear hF hx hcall he
      go_enter Try.func54, Try.ntmps54
      go_wp2_with fail
      refine HI.out.mono ?_
      rintro e w1 ⟨rfl, hb1⟩
      have HB1 := Lib.hid hb1
      clear hb1
      go_wp2
      go_ret2
      exact ⟨rfl, HB1.out⟩

theorem Best_any (A : Option Addr) (n c : Nat) (l : List (Int × Int)) (m : Int) (w : World) (hn : n ≤ maxLen) (hx : ArrG runC 2 w w.heap.size A n l) :
    Calls Try.prog 34 #[.slice A n c, .int .i64 m] w (ChooseP less l m w) := by
  have HC := Lib.hid (choose_any A n c 55 less l m w hn hx (fun args wx => Try.call55 args wx) (fun x y x' y' wx => less_any x y x' y' wx))
  clear hx
  unfold ChooseP at *
  generalize chooseV less l m = V at *
  generalize chooseE less l m = E at *
  go_enter Try.func34, Try.ntmps34
  go_wp2_with fail
  refine HC.out.mono ?_
  rintro e w1 ⟨rfl, hb1⟩
  have HB1 := Lib.hid hb1
  clear hb1
  go_wp2
  go_ret2
  exact ⟨rfl, HB1.out⟩
end Go.Proofs.Ytdieokpfkojoiaa
