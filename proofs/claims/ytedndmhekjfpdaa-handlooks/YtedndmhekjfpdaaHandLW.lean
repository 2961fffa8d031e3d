/-
  HandLooks and HandLive: the laws' walks.
-/
import Derived.Test.YtedndmhekjfpdaaHandR
namespace Go.Proofs.Ytedndmhekjfpdaa
open Go.RowKit

set_option maxRecDepth 8000 in
set_option maxHeartbeats 4000000 in
theorem handLooks_bad (A : Option Addr) (n c : Nat) (a o : Int) (l : List Slt) (w : World) (hn : n ≤ maxLen) (ha : ArrG slotC 3 w w.heap.size A n l) (hE : openE l a ≠ 0) :
    Calls Try.prog 5 #[.slice A n c, .int .i64 a, .int .u64 o] w fun e w' => e = .returned (.bool true) ∧ Below w.heap.size w w' := by
  have HA : Hid (∀ wx, Below w.heap.size w wx → ArrG slotC 3 wx wx.heap.size A n l) := fun wx hb => (ha.below hb (Nat.le_refl _)).more hb.size
  have HO := Lib.hid (fun wx hb => openH_any A n c l a wx hn (HA.out wx hb))
  have HP := Lib.hid (handsAlive w)
  unfold Opened openV openR at HO
  rw [if_neg hE, if_neg hE] at HO
  obtain ⟨E, hEE⟩ : ∃ E, openE l a = E := ⟨_, rfl⟩
  rw [hEE] at HO hE
  have c1 : (E != 0) = true := by simpa using hE
  clear ha hE hEE
  go_enter Try.func5, Try.ntmps5
  go_wp2_with fail
  refine HP.out.mono ?_
  rintro e w1 ⟨rfl, b1⟩
  have HB1 := Lib.hid b1
  clear b1
  go_wp2_with fail
  refine (HO.out _ HB1.out).mono ?_
  rintro e w2 ⟨A2, m2, c2, rfl, hF, b2⟩
  obtain rfl : m2 = 0 := hF.1.symm
  have HB2 := Lib.hid (HB1.out.trans (b2.mono HB1.out.size))
  clear b2 hF
  go_wp2
  go_ret
  exact ⟨rfl, HB2.out⟩

set_option maxRecDepth 8000 in
set_option maxHeartbeats 4000000 in
theorem handLooks_ok (A : Option Addr) (n c : Nat) (a o : Int) (l : List Slt) (w : World) (hn : n ≤ maxLen) (ha : ArrG slotC 3 w w.heap.size A n l) (hE : openE l a = 0) :
    Calls Try.prog 5 #[.slice A n c, .int .i64 a, .int .u64 o] w fun e w' => e = .returned (.bool true) ∧ Below w.heap.size w w' := by
  have HA : Hid (∀ wx, Below w.heap.size w wx → ArrG slotC 3 wx wx.heap.size A n l) := fun wx hb => (ha.below hb (Nat.le_refl _)).more hb.size
  have HO := Lib.hid (fun wx hb => openH_any A n c l a wx hn (HA.out wx hb))
  have HP := Lib.hid (handsAlive w)
  unfold Opened openV openR at HO
  rw [if_pos hE, if_pos hE, hE] at HO
  obtain ⟨f1, _, f3⟩ := find_open hE
  have hx := (open_slot hE).2
  have hy := close_slot f1
  have hst := find_close f1
  have hlo := fun h => look_open (name := o) hE h
  have hll : (openL l a).length = n := by unfold openL; rw [List.length_set]; exact ha.1
  have hlc : (closeL (openL l a) (openN l a)).length = n := by unfold closeL; rw [List.length_set]; exact hll
  have HLk := Lib.hid (fun A2 c2 N wx (hx : ArrG slotC 3 wx wx.heap.size A2 n (openL l a)) => lookH_any A2 n c2 (openL l a) N wx hn hx)
  have HLk1 := Lib.hid (fun A2 c2 wx hx => HLk.out A2 c2 (openN l a) wx hx)
  have HLk2 := Lib.hid (fun A2 c2 wx hx => HLk.out A2 c2 o wx hx)
  rw [f1, f3] at HLk1
  have HLw := Lib.hid (fun wx hb => lookH_any A n c l o wx hn (HA.out wx hb))
  have HCl := Lib.hid (fun A2 c2 wx (hx : ArrG slotC 3 wx wx.heap.size A2 n (openL l a)) => closeH_any A2 n c2 (openL l a) (openN l a) wx hn hx)
  unfold GaveH closeR at HCl
  rw [if_pos f1, f1] at HCl
  have HLy := Lib.hid (fun A2 c2 wx (hx : ArrG slotC 3 wx wx.heap.size A2 n (closeL (openL l a) (openN l a))) => lookH_any A2 n c2 (closeL (openL l a) (openN l a)) (openN l a) wx hn hx)
  rw [hst] at HLy
  have HCx := Lib.hid (fun A2 c2 wx (hx : ArrG slotC 3 wx wx.heap.size A2 n (openL l a)) => handCheck_any A2 n c2 (openL l a) wx hn hx)
  rw [hx] at HCx
  have HCy := Lib.hid (fun A2 c2 wx (hx : ArrG slotC 3 wx wx.heap.size A2 n (closeL (openL l a) (openN l a))) => handCheck_any A2 n c2 (closeL (openL l a) (openN l a)) wx hn hx)
  rw [hy] at HCy
  obtain ⟨V, hV⟩ : ∃ V, lookV (closeL (openL l a) (openN l a)) (openN l a) = V := ⟨_, rfl⟩
  rw [hV] at HLy
  generalize closeL (openL l a) (openN l a) = LC at *
  generalize openN l a = N at *
  generalize openL l a = LO at *
  have hLO : findE l o ≠ 0 ∨ (findE l o = 0 ∧ findE LO o = 0 ∧ lookV LO o = lookV l o) := by
    by_cases h : findE l o = 0
    · exact .inr ⟨h, hlo h⟩
    · exact .inl h
  generalize findE l o = G at *
  generalize findE LO o = I at *
  generalize lookV LO o = NW at *
  generalize lookV l o = WAS at *
  have HLO := Lib.hid hll
  have HLC := Lib.hid hlc
  have ca : (a == a) = true := by simp
  clear ha hE f1 f3 hx hy hst hlo hll hlc hV HLk
  go_enter Try.func5, Try.ntmps5
  go_wp2_with fail
  refine HP.out.mono ?_
  rintro e w1 ⟨rfl, b1⟩
  have HB1 := Lib.hid b1
  clear b1
  go_wp2_with fail
  refine (HO.out _ HB1.out).mono ?_
  rintro e w2 ⟨A2, m2, c2, rfl, hF, b2⟩
  obtain rfl : m2 = n := by rw [← hF.1]; exact HLO.out
  have HB2 := Lib.hid (HB1.out.trans (b2.mono HB1.out.size))
  have HF2 := Lib.hid hF
  clear b2 hF
  go_wp2_with fail
  refine (HLk1.out A2 c2 w2 HF2.out.arr).mono ?_
  rintro e w3 ⟨rfl, b3⟩
  have HB3 := Lib.hid (HB2.out.trans (b3.mono HB2.out.size))
  have HF3 := Lib.hid (HF2.out.below b3)
  clear b3
  go_wp2_with fail
  refine (HLw.out w3 HB3.out).mono ?_
  rintro e w4 ⟨rfl, b4⟩
  have HB4 := Lib.hid (HB3.out.trans (b4.mono HB3.out.size))
  have HF4 := Lib.hid (HF3.out.below b4)
  clear b4
  go_wp2_with fail
  refine (HLk2.out A2 c2 w4 HF4.out.arr).mono ?_
  rintro e w5 ⟨rfl, b5⟩
  have HB5 := Lib.hid (HB4.out.trans (b5.mono HB4.out.size))
  have HF5 := Lib.hid (HF4.out.below b5)
  clear b5
  go_wp2_with fail
  refine (HCl.out A2 c2 w5 HF5.out.arr).mono ?_
  rintro e w6 ⟨A3, m3, c3, rfl, hFc, b6⟩
  obtain rfl : m3 = m2 := by rw [← hFc.1]; exact HLC.out
  have HB6 := Lib.hid (HB5.out.trans (b6.mono HB5.out.size))
  have HF6 := Lib.hid (HF5.out.below b6)
  have HC6 := Lib.hid hFc
  clear b6 hFc
  go_wp2_with fail
  refine (HLy.out A3 c3 w6 HC6.out.arr).mono ?_
  rintro e w7 ⟨rfl, b7⟩
  have HB7 := Lib.hid (HB6.out.trans (b7.mono HB6.out.size))
  have HF7 := Lib.hid (HF6.out.below b7)
  have HC7 := Lib.hid (HC6.out.below b7)
  clear b7 HP HO HLk1 HLk2 HLw HCl HLy HB1 HB2 HB3 HB4 HB5 HB6 HF2 HF3 HF4 HF5 HF6 HC6
  rcases hLO with hg | ⟨rfl, rfl, rfl⟩
  · have g1 : (G != 0) = true := by simpa using hg
    clear hg
    go_wp2_with fail
    refine (HCx.out A2 c2 w7 HF7.out.arr).mono ?_
    rintro e w8 ⟨rfl, b8⟩
    have HB8 := Lib.hid (HB7.out.trans (b8.mono HB7.out.size))
    have HC8 := Lib.hid (HC7.out.below b8)
    clear b8
    go_wp2_with fail
    refine (HCy.out A3 c3 w8 HC8.out.arr).mono ?_
    rintro e w9 ⟨rfl, b9⟩
    have HB9 := Lib.hid (HB8.out.trans (b9.mono HB8.out.size))
    clear b9
    go_wp2
    go_ret
    exact ⟨rfl, HB9.out⟩
  · have g1 : (NW == NW) = true := by simp
    go_wp2_with fail
    refine (HCx.out A2 c2 w7 HF7.out.arr).mono ?_
    rintro e w8 ⟨rfl, b8⟩
    have HB8 := Lib.hid (HB7.out.trans (b8.mono HB7.out.size))
    have HC8 := Lib.hid (HC7.out.below b8)
    clear b8
    go_wp2_with fail
    refine (HCy.out A3 c3 w8 HC8.out.arr).mono ?_
    rintro e w9 ⟨rfl, b9⟩
    have HB9 := Lib.hid (HB8.out.trans (b9.mono HB8.out.size))
    clear b9
    go_wp2
    go_ret
    exact ⟨rfl, HB9.out⟩

theorem handLooks_walk (A : Option Addr) (n c : Nat) (a o : Int) (l : List Slt) (w : World) (hn : n ≤ maxLen) (ha : ArrG slotC 3 w w.heap.size A n l) :
    Calls Try.prog 5 #[.slice A n c, .int .i64 a, .int .u64 o] w fun e w' => e = .returned (.bool true) ∧ Below w.heap.size w w' := by
  by_cases hE : openE l a = 0
  · exact handLooks_ok A n c a o l w hn ha hE
  · exact handLooks_bad A n c a o l w hn ha hE

theorem nodup_take {xs : List Int} (h : xs.Nodup) {i : Nat} (hi : i < xs.length) : decide (nth xs i ∈ (xs.drop 0).take i) = false := by
  rw [List.drop_zero, decide_eq_false_iff_not, nth_get _ _ hi]
  intro hm
  obtain ⟨j, hj, he⟩ := List.getElem_of_mem hm
  rw [List.length_take] at hj
  rw [List.getElem_take] at he
  have := (List.getElem_inj h).1 he
  omega

set_option maxRecDepth 8000 in
set_option maxHeartbeats 4000000 in
theorem handLive_walk (A : Option Addr) (n c : Nat) (l : List Slt) (w : World) (hn : n ≤ maxLen) (ha : ArrG slotC 3 w w.heap.size A n l) :
    Calls Try.prog 6 #[.slice A n c] w fun e w' => e = .returned (.bool true) ∧ Below w.heap.size w w' := by
  have HA : Hid (∀ wx, Below w.heap.size w wx → ArrG slotC 3 wx wx.heap.size A n l) := fun wx hb => (ha.below hb (Nat.le_refl _)).more hb.size
  have HLv := Lib.hid (fun wx hb => liveH_any A n c l wx hn (HA.out wx hb))
  have HP := Lib.hid (handsAlive w)
  unfold LiveP at HLv
  have hl := ha.1
  by_cases h0 : handE l = 0
  · rw [h0] at HLv
    have h16 := (handE_ok.1 h0).1
    have hlen := liveN_len (l := l)
    have hnd : (liveN l).Nodup := by unfold liveN; rw [if_pos h0]; exact liveUp_nodup h16
    have HFD : Hid (∀ i, i < (liveN l).length → findE l (nth (liveN l) i) = 0) := fun i hi => liveN_found h0 (by rw [nth_get _ _ hi]; exact List.getElem_mem _)
    have HND : Hid (∀ i, i < (liveN l).length → decide (nth (liveN l) i ∈ ((liveN l).drop 0).take i) = false) := fun i hi => nodup_take hnd hi
    have HLk := Lib.hid (fun N wx hb => lookH_any A n c l N wx hn (HA.out wx hb))
    generalize liveN l = xs at *
    obtain ⟨m, hm⟩ : ∃ m, xs.length = m := ⟨_, rfl⟩
    rw [hm] at HLv HFD HND hlen
    have HM := Lib.hid hm
    have hmn : m ≤ n := by omega
    have hn16 : n ≤ 16 := by omega
    clear ha h0 hn h16 hlen hnd hm hl
    go_enter Try.func6, Try.ntmps6
    go_wp2_with fail
    refine HP.out.mono ?_
    rintro e w1 ⟨rfl, b1⟩
    have HB1 := Lib.hid b1
    clear b1
    go_wp2_with fail
    refine (HLv.out _ HB1.out).mono ?_
    rintro e w2 ⟨A2, c2, rfl, hO, b2⟩
    have HB2 := Lib.hid (HB1.out.trans (b2.mono HB1.out.size))
    obtain ⟨A2', c2', e1, hc2, harr⟩ := hO.arr
    injection e1 with e1 e2 e3
    subst e1; subst e3
    clear e2
    rw [HM.out] at harr hc2
    have HX := Lib.hid harr
    clear b2 hO harr HLv HP
    go_wp2_with fail
    go_loopw [23] (fun i wr => ∃ k : Nat, k ≤ m ∧ i = .int .i64 k ∧ Hid (Below w2.heap.size w2 wr)) (fun i _ => m - (intOf i).toNat)
    case atStart => exact ⟨0, Nat.zero_le _, rfl, Below.refl _ _⟩
    case round =>
      obtain ⟨k, hk, rfl, HB⟩ := hrel
      by_cases hlt : k < m
      · have hX := HX.out.below HB.out (Nat.le_refl _)
        obtain ⟨b, off, rfl, _, hcs⟩ := hX.2.2 (by omega)
        have hc := hcs k hlt
        clear hcs
        have HBw := Lib.hid (HB2.out.trans (HB.out.mono HB2.out.size))
        have HLk1 := Lib.hid (HLk.out (nth xs k) wr HBw.out)
        rw [HFD.out k hlt] at HLk1
        obtain ⟨D', hs1', hD'⟩ := run_upto (P := Try.prog) Try.underlying35 (by kernel_rfl) (some ⟨b, off, none⟩) m c2 k k rfl (by omega)
        obtain rfl := hD' b off rfl
        have HK := Lib.hid (fun wx (hb : Below wr.heap.size wr wx) => containsU_any (some ⟨b, off, none⟩) k c2 w2.heap.size (nth xs k) ((xs.drop 0).take k) wx (by unfold maxLen; omega) ((hX.below (hb.mono HB.out.size) (Nat.le_refl _)).cut (by omega) (fun b off e hq => e)))
        rw [HND.out k hlt] at HK
        obtain ⟨V, hV⟩ : ∃ V, lookV l (nth xs k) = V := ⟨_, rfl⟩
        rw [hV] at HLk1
        generalize nth xs k = X at *
        clear hX hD' hV
        go_wp2_with fail
        refine HLk1.out.mono ?_
        rintro e w3 ⟨rfl, b3⟩
        have HB3 := Lib.hid b3
        clear b3
        go_wp2_with fail
        refine (HK.out _ HB3.out).mono ?_
        rintro e w4 ⟨rfl, rfl⟩
        have HB4 := Lib.hid (HB.out.trans (HB3.out.mono HB.out.size))
        go_wp2
        go_roundw
        case rel => exact ⟨k + 1, by omega, by go_num, HB4⟩
        case measure => simp [intOf]; omega
      · obtain rfl : k = m := by omega
        have HBw := Lib.hid (HB2.out.trans (HB.out.mono HB2.out.size))
        have cmn : ((k : Int) ≤ (n : Int)) = True := eq_true (by omega)
        go_wp2
        go_ret
        exact ⟨rfl, HBw.out⟩
  · obtain ⟨E, hE⟩ : ∃ E, handE l = E := ⟨_, rfl⟩
    have hz : liveN l = [] := by unfold liveN; rw [if_neg h0]
    rw [hz, hE] at HLv
    rw [hE] at h0
    have c1 : (E != 0) = true := by simpa using h0
    clear ha hn h0 hE hl hz
    go_enter Try.func6, Try.ntmps6
    go_wp2_with fail
    refine HP.out.mono ?_
    rintro e w1 ⟨rfl, b1⟩
    have HB1 := Lib.hid b1
    clear b1
    go_wp2_with fail
    refine (HLv.out _ HB1.out).mono ?_
    rintro e w2 ⟨A2, c2, rfl, _, b2⟩
    have HB2 := Lib.hid (HB1.out.trans (b2.mono HB1.out.size))
    clear b2
    go_wp2
    go_ret
    exact ⟨rfl, HB2.out⟩
end Go.Proofs.Ytedndmhekjfpdaa
