/-
  Contract of the reference's SpotsOf, for every argument.
-/
import Derived.Test.YtcdlgohhjnpbmaaSpots
namespace Go.Proofs.Ytcdlgohhjnpbmaa
open Go.RowKit

set_option maxHeartbeats 400000 in
theorem spotsOf_big (A : Option Addr) (n c : Nat) (zs : List Int) (w : World) (hn : n ≤ maxLen) (ha : Arr .u64 w w.heap.size A n zs) (h : 256 < n) :
    Calls Try.prog 90 #[.slice A n c] w (SpotsP zs w) := by
  unfold maxLen at hn
  have hl := ha.1
  have he := spErr_big (zs := zs) (by omega)
  have hs := spList_bad (zs := zs) (by omega)
  have h' : (256 : Int) < n := by omega
  unfold SpotsP
  rw [hs, he]
  clear ha
  go_enter Try.func90, Try.ntmps90
  go_wp2
  go_ret2
  exact ⟨_, _, rfl, Below.refl _ _, Nat.le_refl _, ArrG.zero, High.zero⟩

set_option maxRecDepth 8000 in
set_option maxHeartbeats 2000000 in
theorem spotsOf_small (A : Option Addr) (n c : Nat) (zs : List Int) (w : World) (ha : Arr .u64 w w.heap.size A n zs) (h : n ≤ 256) :
    Calls Try.prog 90 #[.slice A n c] w (SpotsP zs w) := by
  have hl := ha.1
  have h' : ¬ (256 : Int) < n := by omega
  have hbad : fine zs 0 = false → spErr zs = 3 ∧ spList zs = [] := fun hf => by
    have h1 := spErr_bad (zs := zs) (by omega) hf
    exact ⟨h1, spList_bad (by omega)⟩
  have hgood : fine zs 0 = true → spErr zs = 0 ∧ spList zs = (begins zs 0).map (spOf zs) := fun hf => by
    have h1 := spErr_ok (zs := zs) (by omega) hf
    exact ⟨h1, spList_ok h1⟩
  have HBAD := Lib.hid hbad
  have HGOOD := Lib.hid hgood
  clear hbad hgood
  go_enter Try.func90, Try.ntmps90
  go_wp2_with fail
  go_loopw [4, 5, 14] (fun v nx i wr => ∃ (k a : Nat) (done : List Nat), k ≤ n ∧ i = .int .i64 k ∧ k ≤ a ∧ a ≤ n ∧ nx = .int .i64 a ∧ done ++ begins zs a = begins zs 0 ∧ fine zs a = fine zs 0 ∧ OwnG spotC 5 112 wr w.heap.size v (done.map (spOf zs)) ∧ Below w.heap.size w wr) (fun _ _ i _ => n - (intOf i).toNat)
  case atStart => exact ⟨0, 0, [], by omega, rfl, by omega, by omega, rfl, rfl, rfl, OwnG.nil, Below.refl _ _⟩
  case round =>
    obtain ⟨k, a, done, hkn, rfl, hka, haq, rfl, hd, hf, hO, hB⟩ := hrel
    by_cases hkl : k < n
    · by_cases hne : k = a
      · subst hne
        have hlt := hkl
        have hne : ((k : Int) != (k : Int)) = false := by simp
        have haW := ha.below hB (Nat.le_refl _)
        obtain ⟨b, off, rfl, hbW, hcell⟩ := haW.2.2 (by omega)
        have hc := hcell k hlt
        have hwf := haW.2.1 (nth zs k) (by rw [nth_get _ _ (by omega)]; exact List.getElem_mem _)
        rw [wf_u64] at hwf
        obtain ⟨v, hv⟩ := Int.eq_ofNat_of_zero_le hwf.1
        rw [hv] at hc
        have hv2 : v < 18446744073709551616 := by omega
        cases hbv : vBad v
        · obtain ⟨f1, f2, f3, f4, f5, f6, f7⟩ := head_fields (v := v) (by omega) hbv
          have hlong := sLong_int (v := v) (by omega) hbv
          have hE : (!vBad v) = true := by simp [hbv]
          have HR := Lib.hid (fun w => hE ▸ headRead_any v w hv2)
          have HL := Lib.hid (fun w => headLong_any (vR v) (vB v) (vT v) (vF v) w f1 (by omega) f2 (by omega))
          obtain ⟨R, hR⟩ : ∃ R, vR v = R := ⟨_, rfl⟩
          obtain ⟨Bd, hBd⟩ : ∃ R, vB v = R := ⟨_, rfl⟩
          obtain ⟨T, hT⟩ : ∃ R, vT v = R := ⟨_, rfl⟩
          obtain ⟨F, hF⟩ : ∃ R, vF v = R := ⟨_, rfl⟩
          have hsp : spOf zs k = ((k : Int), R, Bd, T, F) := by unfold spOf; rw [hv]; simp [hR, hBd, hT, hF]
          rw [hR, hBd, hT, hF] at HR HL
          rw [hR, hBd] at hlong
          rw [hR, hBd] at f5
          rw [hR] at f1
          rw [hBd] at f2
          clear hcell f3 f4 f6 f7 hE hwf hR hBd hT hF
          by_cases hfar : k + sLong v ≤ zs.length
          · have hst : stepOk zs k = true := stepOk_iff.2 ⟨by rw [hv]; exact hbv, by rw [hv]; exact hfar⟩
            have e1 := begins_step (zs := zs) (a := k) (by omega) hst
            have e2 := fine_step (zs := zs) (a := k) (by omega) hst
            have e3 := sLong_pos v
            rw [hv] at e1 e2
            obtain ⟨L, hL⟩ : ∃ L, sLong v = L := ⟨_, rfl⟩
            rw [hL] at e1 e2 e3 hlong hfar
            have H1 : Hid ((done ++ [k]) ++ begins zs (k + L) = begins zs 0) := Lib.hid (by rw [← hd, e1]; simp)
            have H2 : Hid (fine zs (k + L) = fine zs 0) := Lib.hid (by rw [← hf, e2])
            have hdl : done.length ≤ 256 := by
              have h1 := congrArg List.length hd
              have h2 := begins_len (zs := zs) (a := 0)
              rw [List.length_append] at h1
              omega
            have HD := Lib.hid hdl
            have HO := Lib.hid hO
            have HS := Lib.hid hsp
            have HB := Lib.hid hB
            clear hd hf hO hB hdl hsp hbv hv hst e1 e2 hL haW ha
            go_wp2_with fail
            refine (HR.out _).mono ?_
            rintro e w1 ⟨rfl, b1⟩
            have HB1 := Lib.hid b1
            clear b1
            go_wp2_with fail
            refine (HL.out _).mono ?_
            rintro e w2 ⟨rfl, b2⟩
            obtain ⟨bx, b2⟩ := one_box b2
            obtain ⟨c0, c1, c2, c3⟩ := bx.cells
            have BX := Lib.hid bx
            have HB2 := Lib.hid b2
            clear b2 bx
            have hb2 : Below wr.heap.size wr w2 := HB1.out.trans (HB2.out.mono HB1.out.size)
            have hO2 := HO.out.below hb2
            obtain ⟨v', w4, hrun, hO', hB', hK', _⟩ := hO2.pushK (P := Try.prog) (t := 108) (ty := 108) spotC_len spotC_one (by omega) Try.underlying108 spot_info rfl (by omega) ((k : Int), R, Bd, T, F) (by have := HD.out; simp; omega) (Nat.le_trans HB.out.size hb2.size)
            have hbx4 : Box4 w4 w1.heap.size (.int .i64 R) (.int .i64 Bd) (.int .i64 T) (.bool F) := (hK' _ BX.out.lt (fun e => by
              have h1 := HO.out.rowLt _ e
              have h2 := HB1.out.size
              omega)).trans BX.out
            obtain ⟨x0, x1, x2, x3⟩ := hbx4.cells
            have HR4 := Lib.hid hrun
            have HO4 : Hid (OwnG spotC 5 112 w4 w.heap.size v' ((done ++ [k]).map (spOf zs))) := Lib.hid (by
              rw [List.map_append, List.map_cons, List.map_nil, HS.out]; exact hO')
            have HB4 : Hid (Below w.heap.size w w4) := (HB.out.trans (hb2.mono HB.out.size)).trans hB'
            clear hb2 hO2 hrun hO' hB' hK' hbx4
            go_wp2_with (at_builtin; refine wpList_append_run rfl (.tmp 39) (.tmp 43) 108 rfl rfl rfl HR4.out ?_)
            refine (HL.out _).mono ?_
            rintro e w5 ⟨rfl, b5⟩
            have HO5 := Lib.hid (HO4.out.below b5)
            have HB5 := Lib.hid (HB4.out.trans (b5.mono HB4.out.size))
            clear b5 x0 x1 x2 x3 c0 c1 c2 c3
            go_wp2
            go_roundw
            case rel => exact ⟨k + 1, k + L, done ++ [k], by omega, by go_num, by omega, by omega, by rw [show ((k : Int) + (1 + R + Bd)) = ((k + L : Nat) : Int) by omega], H1.out, H2.out, HO5.out, HB5.out⟩
            case measure => simp [intOf]; omega
          · have hst : stepOk zs k = false := stepOk_far (by rw [hv]; omega)
            have e2 := fine_bad (zs := zs) (a := k) (by omega) hst
            obtain ⟨g1, g2⟩ := HBAD.out (by rw [← hf, e2])
            have HB := Lib.hid hB
            have G1 := Lib.hid g1
            have G2 := Lib.hid g2
            have hfar2 : (n : Int) < (k : Int) + (1 + R + Bd) := by omega
            clear hd hf hO hB hsp hbv hv hst e2 haW ha hlong hfar g1 g2
            go_wp2_with fail
            refine (HR.out _).mono ?_
            rintro e w1 ⟨rfl, b1⟩
            have HB1 := Lib.hid b1
            clear b1
            go_wp2_with fail
            refine (HL.out _).mono ?_
            rintro e w2 ⟨rfl, b2⟩
            obtain ⟨bx, b2⟩ := one_box b2
            have HB2 := Lib.hid b2
            clear b2 bx
            go_wp2
            go_ret2
            unfold SpotsP
            rw [G1.out, G2.out]
            exact ⟨_, _, rfl, HB.out.trans ((HB1.out.trans (HB2.out.mono HB1.out.size)).mono HB.out.size), Nat.le_refl _, ArrG.zero, High.zero⟩
        · have hst : stepOk zs k = false := stepOk_bad (by rw [hv]; exact hbv)
          have e2 := fine_bad (zs := zs) (a := k) (by omega) hst
          obtain ⟨g1, g2⟩ := HBAD.out (by rw [← hf, e2])
          have hE : (!vBad v) = false := by simp [hbv]
          have HR := Lib.hid (fun w => hE ▸ headRead_any v w hv2)
          have HB := Lib.hid hB
          have G1 := Lib.hid g1
          have G2 := Lib.hid g2
          clear hd hf hO hB hbv hv hst e2 haW ha g1 g2 hE hcell hwf
          go_wp2_with fail
          refine (HR.out _).mono ?_
          rintro e w1 ⟨rfl, b1⟩
          have HB1 := Lib.hid b1
          clear b1
          go_wp2
          go_ret2
          unfold SpotsP
          rw [G1.out, G2.out]
          exact ⟨_, _, rfl, HB.out.trans ((HB1.out.alloc HB1.out.size _).mono HB.out.size), Nat.le_refl _, ArrG.zero, High.zero⟩
      · have hne2 : ((k : Int) != (a : Int)) = true := by simp; omega
        have H1 := Lib.hid hd
        have H2 := Lib.hid hf
        have H3 := Lib.hid hO
        have H4 := Lib.hid hB
        clear hd hf hO hB ha
        go_wp2
        go_roundw
        case rel => exact ⟨k + 1, a, done, by omega, by go_num, by omega, by omega, rfl, H1.out, H2.out, H3.out, H4.out⟩
        case measure => simp [intOf]; omega
    · have hae : a = n := by omega
      have hfin : fine zs 0 = true := by rw [← hf]; exact fine_end (by omega)
      have hdo : done = begins zs 0 := by rw [← hd, begins_end (by omega)]; simp
      obtain ⟨g1, g2⟩ := HGOOD.out hfin
      rw [hdo, ← g2] at hO
      obtain ⟨A2, c2, rfl, hc2, hA⟩ := hO.arr spotC_len
      have H1 := Lib.hid hA
      have H4 := Lib.hid hO.high
      have H2 := Lib.hid hB
      have H3 := Lib.hid hc2
      have G1 := Lib.hid g1
      clear hO hA hB hd hf hfin hdo g1 g2 ha hc2
      go_wp2
      go_ret2
      unfold SpotsP
      rw [G1.out]
      exact ⟨_, _, rfl, H2.out, H3.out, H1.out, H4.out⟩

theorem SpotsOf_any (A : Option Addr) (n c : Nat) (zs : List Int) (w : World) (hn : n ≤ maxLen) (ha : Arr .u64 w w.heap.size A n zs) :
    Calls Try.prog 90 #[.slice A n c] w (SpotsP zs w) := by
  by_cases h : n ≤ 256
  · exact spotsOf_small A n c zs w ha h
  · exact spotsOf_big A n c zs w hn ha (by omega)
end Go.Proofs.Ytcdlgohhjnpbmaa
