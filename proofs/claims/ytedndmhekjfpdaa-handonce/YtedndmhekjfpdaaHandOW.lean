/-
  HandOnce: the law's walk.
-/
import Derived.Test.YtedndmhekjfpdaaHandLW
namespace Go.Proofs.Ytedndmhekjfpdaa
open Go.RowKit

/-- What holds while HandOnce opens and closes. -/
def Onward (N : Int) (n : Nat) (base : Nat) (wr : World) (v : Value) : Prop := ∃ A c L, v = .slice A n c ∧ FullG slotC 3 41 wr base A n c L ∧ handE L = 0 ∧ Behind L N

set_option maxRecDepth 8000 in
set_option maxHeartbeats 4000000 in
theorem handOnce_walk (A : Option Addr) (n c : Nat) (N : Int) (A2 : Option Addr) (n2 c2 : Nat) (l : List Slt) (zs : List Int) (w : World) (hn : n ≤ maxLen) (ha : ArrG slotC 3 w w.heap.size A n l) (hn2 : n2 ≤ maxLen) (hz : Arr .i64 w w.heap.size A2 n2 zs) :
    Calls Try.prog 4 #[.slice A n c, .int .u64 N, .slice A2 n2 c2] w fun e w' => e = .returned (.bool true) ∧ Below w.heap.size w w' := by
  have HA : Hid (∀ wx, Below w.heap.size w wx → ArrG slotC 3 wx wx.heap.size A n l) := fun wx hb => (ha.below hb (Nat.le_refl _)).more hb.size
  have HCl := Lib.hid (fun wx hb => closeH_any A n c l N wx hn (HA.out wx hb))
  have HP := Lib.hid (handsAlive w)
  unfold GaveH closeR at HCl
  have hl := ha.1
  by_cases h0 : findE l N = 0
  · rw [if_pos h0, h0] at HCl
    have hcl : (closeL l N).length = n := by unfold closeL; rw [List.length_set]; exact hl
    have HC0 := Lib.hid (close_slot h0)
    have HBh := Lib.hid (behind_close h0)
    have HCL := Lib.hid hcl
    generalize closeL l N = L0 at *
    have HZ := Lib.hid hz
    have HN := Lib.hid hn
    have h63 := hn2
    unfold maxLen at h63
    clear ha hn hn2 hz hl h0 hcl
    go_enter Try.func4, Try.ntmps4
    go_wp2_with fail
    refine HP.out.mono ?_
    rintro e w1 ⟨rfl, b1⟩
    have HB1 := Lib.hid b1
    clear b1
    go_wp2_with fail
    refine (HCl.out _ HB1.out).mono ?_
    rintro e w2 ⟨A3, m3, c3, rfl, hF, b2⟩
    obtain rfl : m3 = n := by rw [← hF.1]; exact HCL.out
    have HB2 := Lib.hid (HB1.out.trans (b2.mono HB1.out.size))
    have HS : Hid (Onward N m3 w.heap.size w2 (.slice A3 m3 c3)) := ⟨A3, c3, L0, rfl, hF.less HB1.out.size, HC0.out, HBh.out⟩
    clear b2 hF HCl HP
    go_wp2_with fail
    go_loopw [0, 30] (fun v i wr => ∃ k : Nat, k ≤ n2 ∧ i = .int .i64 k ∧ Hid (Onward N m3 w.heap.size wr v) ∧ Hid (Below w.heap.size w wr)) (fun _ i _ => n2 - (intOf i).toNat)
    case atStart => exact ⟨0, Nat.zero_le _, rfl, HS, HB2⟩
    case round =>
      obtain ⟨k, hk, rfl, HO, HB⟩ := hrel
      clear HS HB2 HB1 HA
      by_cases hlt : k < n2
      · obtain ⟨b, off, rfl, hb2, hcs⟩ := (HZ.out.below HB.out (Nat.le_refl _)).2.2 (by omega)
        have hc := hcs k hlt
        clear hcs
        obtain ⟨A4, c4, L, rfl, hF, hE, hBe⟩ := HO.out
        by_cases h60 : 60 ≤ k
        · have c60 : ((60 : Int) ≤ (k : Int)) = True := eq_true (by omega)
          have HLk := Lib.hid (lookH_any A4 m3 c4 L N wr HN.out hF.arr)
          rw [behind_stale hE hBe] at HLk
          generalize nth zs k = X at *
          generalize lookV L N = V at *
          clear hF hE hBe HO
          go_wp2_with fail
          refine HLk.out.mono ?_
          rintro e w3 ⟨rfl, b3⟩
          have HB3 := Lib.hid (HB.out.trans (b3.mono HB.out.size))
          clear b3
          go_wp2
          go_ret
          exact ⟨rfl, HB3.out⟩
        · have c60 : ((60 : Int) ≤ (k : Int)) = False := eq_false (by omega)
          generalize nth zs k = X at *
          have HOp := Lib.hid (openH_any A4 m3 c4 L X wr HN.out hF.arr)
          unfold Opened openV openR at HOp
          by_cases hO : openE L X = 0
          · rw [if_pos hO, if_pos hO, hO] at HOp
            obtain ⟨hne, hBo⟩ := behind_open hO hBe
            obtain ⟨f1, _, _⟩ := find_open hO
            have hEo := (open_slot hO).2
            have hEc := close_slot f1
            have hBc := behind_close2 f1 hBo
            have hlo : (openL L X).length = m3 := by unfold openL; rw [List.length_set]; exact hF.1
            have hlc : (closeL (openL L X) (openN L X)).length = m3 := by unfold closeL; rw [List.length_set]; exact hlo
            have HClo := Lib.hid (fun A5 c5 wx (hx : ArrG slotC 3 wx wx.heap.size A5 m3 (openL L X)) => closeH_any A5 m3 c5 (openL L X) (openN L X) wx HN.out hx)
            unfold GaveH closeR at HClo
            rw [if_pos f1, f1] at HClo
            generalize closeL (openL L X) (openN L X) = LC at *
            generalize openL L X = LO at *
            generalize openN L X = M at *
            have HLO := Lib.hid hlo
            have HLC := Lib.hid hlc
            have HBo := Lib.hid hBo
            have HBc := Lib.hid hBc
            have HEo := Lib.hid hEo
            have HEc := Lib.hid hEc
            have cne : (M == N) = false := by simpa using hne
            clear hF hE hBe HO hO hne hBo f1 hEo hEc hBc hlo hlc
            by_cases hx2 : X.tmod 2 = 0
            · go_wp2_with fail
              refine HOp.out.mono ?_
              rintro e w3 ⟨A5, m5, c5, rfl, hF5, b3⟩
              obtain rfl : m5 = m3 := by rw [← hF5.1]; exact HLO.out
              have HB3 := Lib.hid (HB.out.trans (b3.mono HB.out.size))
              have HF5 := Lib.hid hF5
              clear b3 hF5 HOp
              go_wp2_with fail
              refine (HClo.out A5 c5 w3 HF5.out.arr).mono ?_
              rintro e w4 ⟨A6, m6, c6, rfl, hF6, b4⟩
              obtain rfl : m6 = m5 := by rw [← hF6.1]; exact HLC.out
              have HB4 := Lib.hid (HB3.out.trans (b4.mono HB3.out.size))
              have HS : Hid (Onward N m6 w.heap.size w4 (.slice A6 m6 c6)) := ⟨A6, c6, LC, rfl, hF6.less HB3.out.size, HEc.out, HBc.out⟩
              clear b4 hF6
              go_wp2
              go_roundw
              case rel => exact ⟨k + 1, by omega, by go_num, HS, HB4⟩
              case measure => simp [intOf]; omega
            · have cx : (X.tmod 2 == 0) = false := by simpa using hx2
              clear hx2
              go_wp2_with fail
              refine HOp.out.mono ?_
              rintro e w3 ⟨A5, m5, c5, rfl, hF5, b3⟩
              obtain rfl : m5 = m3 := by rw [← hF5.1]; exact HLO.out
              have HB3 := Lib.hid (HB.out.trans (b3.mono HB.out.size))
              have HS : Hid (Onward N m5 w.heap.size w3 (.slice A5 m5 c5)) := ⟨A5, c5, LO, rfl, hF5.less HB.out.size, HEo.out, HBo.out⟩
              clear b3 hF5 HOp
              go_wp2
              go_roundw
              case rel => exact ⟨k + 1, by omega, by go_num, HS, HB3⟩
              case measure => simp [intOf]; omega
          · rw [if_neg hO, if_neg hO] at HOp
            generalize openE L X = E at *
            have c1 : (E != 0) = true := by simpa using hO
            have HF := Lib.hid hF
            have HEE := Lib.hid hE
            have HBB := Lib.hid hBe
            clear hF hE hBe HO hO
            go_wp2_with fail
            refine HOp.out.mono ?_
            rintro e w3 ⟨A5, m5, c5, rfl, _, b3⟩
            have HB3 := Lib.hid (HB.out.trans (b3.mono HB.out.size))
            have HS : Hid (Onward N m3 w.heap.size w3 (.slice A4 m3 c4)) := ⟨A4, c4, L, rfl, HF.out.below b3, HEE.out, HBB.out⟩
            clear b3 HOp
            go_wp2
            go_roundw
            case rel => exact ⟨k + 1, by omega, by go_num, HS, HB3⟩
            case measure => simp [intOf]; omega
      · obtain rfl : k = n2 := by omega
        obtain ⟨A4, c4, L, rfl, hF, hE, hBe⟩ := HO.out
        have HLk := Lib.hid (lookH_any A4 m3 c4 L N wr HN.out hF.arr)
        rw [behind_stale hE hBe] at HLk
        generalize lookV L N = V at *
        clear hF hE hBe HO
        go_wp2_with fail
        refine HLk.out.mono ?_
        rintro e w3 ⟨rfl, b3⟩
        have HB3 := Lib.hid (HB.out.trans (b3.mono HB.out.size))
        clear b3
        go_wp2
        go_ret
        exact ⟨rfl, HB3.out⟩
  · rw [if_neg h0] at HCl
    obtain ⟨E, hE⟩ : ∃ E, findE l N = E := ⟨_, rfl⟩
    rw [hE] at HCl h0
    have c1 : (E != 0) = true := by simpa using h0
    clear ha hn h0 hE hl hz hn2
    go_enter Try.func4, Try.ntmps4
    go_wp2_with fail
    refine HP.out.mono ?_
    rintro e w1 ⟨rfl, b1⟩
    have HB1 := Lib.hid b1
    clear b1
    go_wp2_with fail
    refine (HCl.out _ HB1.out).mono ?_
    rintro e w2 ⟨A2, m2, c2, rfl, hF, b2⟩
    obtain rfl : m2 = 0 := hF.1.symm
    have HB2 := Lib.hid (HB1.out.trans (b2.mono HB1.out.size))
    clear b2 hF
    go_wp2
    go_ret
    exact ⟨rfl, HB2.out⟩
end Go.Proofs.Ytedndmhekjfpdaa
