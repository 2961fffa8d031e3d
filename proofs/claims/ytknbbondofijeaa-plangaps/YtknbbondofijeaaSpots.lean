/-
  Contract of walk.Spots, for every argument.
-/
import Derived.Test.YtknbbondofijeaaWalkM
import Derived.Test.YtknbbondofijeaaHead2
import Derived.Test.YtknbbondofijeaaWord
namespace Go.Proofs.Ytknbbondofijeaa
open Go.RowKit

theorem spot_info : (Try.prog.info? 98).map (fun i => (i.zero, i.size, i.bytes)) = some (some (.agg #[.int .i64 0, .int .i64 0, .int .i64 0, .int .i64 0, .bool false]), 5, 40) := by kernel_rfl

theorem one_box {w w' : World} {a0 a1 a2 a3 : Value} (h : Below (w.alloc (.cells #[a0, a1, a2, a3] 96)).heap.size (w.alloc (.cells #[a0, a1, a2, a3] 96)) w') :
    Box4 w' w.heap.size a0 a1 a2 a3 ∧ Below w.heap.size w w' :=
  have n0 := Box4.new w a0 a1 a2 a3
  ⟨n0.below h n0.lt, below_boxed w _ h⟩

/-- What Spots answers. -/
def SpotsP (zs : List Int) (w : World) (e : Ending) (w' : World) : Prop := ∃ A c, e = .returned (.tuple #[.slice A (spList zs).length c, .int .i64 (spErr zs)]) ∧ Below w.heap.size w w' ∧ (spList zs).length ≤ c ∧ ArrG spotC 5 w' w'.heap.size A (spList zs).length (spList zs) ∧ High w.heap.size A (spList zs).length

set_option maxHeartbeats 400000 in
theorem spots_big (A : Option Addr) (n c : Nat) (zs : List Int) (w : World) (hn : n ≤ maxLen) (ha : Arr .u64 w w.heap.size A n zs) (h : 256 < n) :
    Calls Try.prog 67 #[.slice A n c] w (SpotsP zs w) := by
  unfold maxLen at hn
  have hl := ha.1
  have he := spErr_big (zs := zs) (by omega)
  have hs := spList_bad (zs := zs) (by omega)
  have h' : (256 : Int) < n := by omega
  unfold SpotsP
  rw [hs, he]
  clear ha
  go_enter Try.func67, Try.ntmps67
  go_wp2
  go_ret2
  exact ⟨_, _, rfl, Below.refl _ _, Nat.le_refl _, ArrG.zero, High.zero⟩

set_option maxHeartbeats 2000000 in
theorem spots_small (A : Option Addr) (n c : Nat) (zs : List Int) (w : World) (ha : Arr .u64 w w.heap.size A n zs) (h : n ≤ 256) :
    Calls Try.prog 67 #[.slice A n c] w (SpotsP zs w) := by
  have hl := ha.1
  have h' : ¬ (256 : Int) < n := by omega
  have hbad : fine zs 0 = false → spErr zs = 3 ∧ spList zs = [] := fun hf => by
    have h1 := spErr_bad (zs := zs) (by omega) hf
    exact ⟨h1, spList_bad (by omega)⟩
  have hgood : fine zs 0 = true → spErr zs = 0 ∧ spList zs = (begins zs 0).map (spOf zs) := fun hf => by
    have h1 := spErr_ok (zs := zs) (by omega) hf
    exact ⟨h1, spList_ok h1⟩
  have HBAD := Lib.hid hbad
  have HGOOD := Lib.hid hgood
  clear hbad hgood
  go_enter Try.func67, Try.ntmps67
  go_wp2_with fail
  go_loopw [4, 5] (fun v i wr => ∃ (a : Nat) (done : List Nat), a ≤ n ∧ i = .int .i64 a ∧ done ++ begins zs a = begins zs 0 ∧ fine zs a = fine zs 0 ∧ OwnG spotC 5 98 wr w.heap.size v (done.map (spOf zs)) ∧ Below w.heap.size w wr) (fun _ i _ => n - (intOf i).toNat)
  case atStart => exact ⟨0, [], by omega, rfl, rfl, rfl, OwnG.nil, Below.refl _ _⟩
  case round =>
    obtain ⟨a, done, haq, rfl, hd, hf, hO, hB⟩ := hrel
    by_cases hlt : a < n
    · have haW := ha.below hB (Nat.le_refl _)
      obtain ⟨b, off, rfl, hbW, hcell⟩ := haW.2.2 (by omega)
      have hc := hcell a hlt
      have hwf := haW.2.1 (nth zs a) (by rw [nth_get _ _ (by omega)]; exact List.getElem_mem _)
      rw [wf_u64] at hwf
      obtain ⟨v, hv⟩ := Int.eq_ofNat_of_zero_le hwf.1
      rw [hv] at hc
      have hv2 : v < 18446744073709551616 := by omega
      cases hbv : vBad v
      · obtain ⟨f1, f2, f3, f4, f5, f6, f7⟩ := head_fields (v := v) (by omega) hbv
        have hlong := sLong_int (v := v) (by omega) hbv
        have hE : vErr v = 0 := by simp [vErr, hbv]
        have HR := Lib.hid (fun w => hE ▸ read_any v w hv2)
        have HL := Lib.hid (fun w => lengthOk (vR v) (vB v) (vT v) (vF v) w f7)
        obtain ⟨R, hR⟩ : ∃ R, vR v = R := ⟨_, rfl⟩
        obtain ⟨Bd, hBd⟩ : ∃ R, vB v = R := ⟨_, rfl⟩
        obtain ⟨T, hT⟩ : ∃ R, vT v = R := ⟨_, rfl⟩
        obtain ⟨F, hF⟩ : ∃ R, vF v = R := ⟨_, rfl⟩
        have hsp : spOf zs a = ((a : Int), R, Bd, T, F) := by unfold spOf; rw [hv]; simp [hR, hBd, hT, hF]
        rw [hR, hBd, hT, hF] at HR HL
        rw [hR, hBd] at hlong
        rw [hR, hBd] at f5
        rw [hR] at f1
        rw [hBd] at f2
        clear hcell f3 f4 f6 f7 hE hwf hR hBd hT hF
        by_cases hfar : a + sLong v ≤ zs.length
        · have hst : stepOk zs a = true := stepOk_iff.2 ⟨by rw [hv]; exact hbv, by rw [hv]; exact hfar⟩
          have e1 := begins_step (zs := zs) (a := a) (by omega) hst
          have e2 := fine_step (zs := zs) (a := a) (by omega) hst
          have e3 := sLong_pos v
          rw [hv] at e1 e2
          obtain ⟨L, hL⟩ : ∃ L, sLong v = L := ⟨_, rfl⟩
          rw [hL] at e1 e2 e3 hlong hfar
          have hval : validB n a (1 + R + Bd) = true := validB_true (by omega)
          have HV := Lib.hid (fun w => hval ▸ valid_any n a (1 + R + Bd) w (by omega) (wf_i64.2 (by omega)) (wf_i64.2 (by omega)))
          have H1 : Hid ((done ++ [a]) ++ begins zs (a + L) = begins zs 0) := Lib.hid (by rw [← hd, e1]; simp)
          have H2 : Hid (fine zs (a + L) = fine zs 0) := Lib.hid (by rw [← hf, e2])
          have hdl : done.length ≤ 256 := by
            have h1 := congrArg List.length hd
            have h2 := begins_len (zs := zs) (a := 0)
            rw [List.length_append] at h1
            omega
          have HD := Lib.hid hdl
          have HO := Lib.hid hO
          have HS := Lib.hid hsp
          have HB := Lib.hid hB
          clear hd hf hO hB hval hdl hsp hbv hv hst e1 e2 hL haW ha
          go_wp2_with fail
          refine (HR.out _).mono ?_
          rintro e w1 ⟨rfl, b1⟩
          have HB1 := Lib.hid b1
          clear b1
          go_wp2_with fail
          refine (HL.out _).mono ?_
          rintro e w2 ⟨rfl, b2⟩
          obtain ⟨bx, b2⟩ := one_box b2
          obtain ⟨c0, c1, c2, c3⟩ := bx.cells
          have HB2 := Lib.hid b2
          clear b2 bx
          go_wp2_with fail
          refine (HV.out _).mono ?_
          rintro e w3 ⟨rfl, rfl⟩
          have hb2 : Below wr.heap.size wr w2 := HB1.out.trans (HB2.out.mono HB1.out.size)
          have hO2 := HO.out.below hb2
          obtain ⟨v', w4, hrun, hO', hB'⟩ := hO2.push (P := Try.prog) (t := 92) (ty := 92) spotC_len spotC_one (by omega) Try.underlying92 spot_info rfl (by omega) ((a : Int), R, Bd, T, F) (by have := HD.out; simp; omega) (Nat.le_trans HB.out.size hb2.size)
          have HR4 := Lib.hid hrun
          have HO4 : Hid (OwnG spotC 5 98 w4 w.heap.size v' ((done ++ [a]).map (spOf zs))) := Lib.hid (by
            rw [List.map_append, List.map_cons, List.map_nil, HS.out]; exact hO')
          have HB4 : Hid (Below w.heap.size w w4) := (HB.out.trans (hb2.mono HB.out.size)).trans hB'
          clear hb2 hO2 hrun hO' hB'
          go_wp2_with (at_builtin; refine wpList_append_run rfl (.tmp 41) (.tmp 45) 92 rfl rfl rfl HR4.out ?_)
          go_roundw
          case rel => exact ⟨a + L, done ++ [a], by omega, by rw [show ((a : Int) + (1 + R + Bd)) = ((a + L : Nat) : Int) by omega], H1.out, H2.out, HO4.out, HB4.out⟩
          case measure => simp [intOf]; omega
        · have hst : stepOk zs a = false := stepOk_far (by rw [hv]; omega)
          have e2 := fine_bad (zs := zs) (a := a) (by omega) hst
          obtain ⟨g1, g2⟩ := HBAD.out (by rw [← hf, e2])
          have hval : validB n a (1 + R + Bd) = false := validB_false (by omega)
          have HV := Lib.hid (fun w => hval ▸ valid_any n a (1 + R + Bd) w (by omega) (wf_i64.2 (by omega)) (wf_i64.2 (by omega)))
          have HB := Lib.hid hB
          have G1 := Lib.hid g1
          have G2 := Lib.hid g2
          clear hd hf hO hB hval hsp hbv hv hst e2 haW ha hlong hfar g1 g2
          go_wp2_with fail
          refine (HR.out _).mono ?_
          rintro e w1 ⟨rfl, b1⟩
          have HB1 := Lib.hid b1
          clear b1
          go_wp2_with fail
          refine (HL.out _).mono ?_
          rintro e w2 ⟨rfl, b2⟩
          obtain ⟨bx, b2⟩ := one_box b2
          obtain ⟨c0, c1, c2, c3⟩ := bx.cells
          have HB2 := Lib.hid b2
          clear b2 bx
          go_wp2_with fail
          refine (HV.out _).mono ?_
          rintro e w3 ⟨rfl, rfl⟩
          go_wp2
          go_ret2
          unfold SpotsP
          rw [G1.out, G2.out]
          exact ⟨_, _, rfl, HB.out.trans ((HB1.out.trans (HB2.out.mono HB1.out.size)).mono HB.out.size), Nat.le_refl _, ArrG.zero, High.zero⟩
      · have hst : stepOk zs a = false := stepOk_bad (by rw [hv]; exact hbv)
        have e2 := fine_bad (zs := zs) (a := a) (by omega) hst
        obtain ⟨g1, g2⟩ := HBAD.out (by rw [← hf, e2])
        have hE : vErr v = 3 := by simp [vErr, hbv]
        have HR := Lib.hid (fun w => hE ▸ read_any v w hv2)
        have HB := Lib.hid hB
        have G1 := Lib.hid g1
        have G2 := Lib.hid g2
        clear hd hf hO hB hbv hv hst e2 haW ha g1 g2 hE hcell hwf
        go_wp2_with fail
        refine (HR.out _).mono ?_
        rintro e w1 ⟨rfl, b1⟩
        have HB1 := Lib.hid b1
        clear b1
        go_wp2
        go_ret2
        unfold SpotsP
        rw [G1.out, G2.out]
        exact ⟨_, _, rfl, HB.out.trans ((HB1.out.alloc HB1.out.size _).mono HB.out.size), Nat.le_refl _, ArrG.zero, High.zero⟩
    · have hae : a = n := by omega
      have hfin : fine zs 0 = true := by rw [← hf]; exact fine_end (by omega)
      have hdo : done = begins zs 0 := by rw [← hd, begins_end (by omega)]; simp
      obtain ⟨g1, g2⟩ := HGOOD.out hfin
      rw [hdo, ← g2] at hO
      obtain ⟨A2, c2, rfl, hc2, hA⟩ := hO.arr spotC_len
      have H1 := Lib.hid hA
      have H4 := Lib.hid hO.high
      have H2 := Lib.hid hB
      have H3 := Lib.hid hc2
      have G1 := Lib.hid g1
      clear hO hA hB hd hf hfin hdo g1 g2 ha hc2
      go_wp2
      go_ret2
      unfold SpotsP
      rw [G1.out]
      exact ⟨_, _, rfl, H2.out, H3.out, H1.out, H4.out⟩

theorem Spots_any (A : Option Addr) (n c : Nat) (zs : List Int) (w : World) (hn : n ≤ maxLen) (ha : Arr .u64 w w.heap.size A n zs) :
    Calls Try.prog 67 #[.slice A n c] w (SpotsP zs w) := by
  by_cases h : n ≤ 256
  · exact spots_small A n c zs w ha h
  · exact spots_big A n c zs w hn ha (by omega)
end Go.Proofs.Ytknbbondofijeaa
