/-
  Contracts of the reference's SpotsOf, Begins, In, Named, HeadAt, ArenaFault.
-/
import Derived.Test.YtjefbekdjgmmbaaObjects
import Derived.Test.YtjefbekdjgmmbaaWalkM
namespace Go.Proofs.Ytjefbekdjgmmbaa
open Go.RowKit

set_option maxHeartbeats 400000 in
theorem spotsOf_big (A : Option Addr) (n c : Nat) (zs : List Int) (w : World) (hn : n ≤ maxLen) (ha : Arr .u64 w w.heap.size A n zs) (h : 256 < n) :
    Calls Try.prog 71 #[.slice A n c] w (SpotsP zs w) := by
  unfold maxLen at hn
  have hl := ha.1
  have he := spErr_big (zs := zs) (by omega)
  have hs := spList_bad (zs := zs) (by omega)
  have h' : (256 : Int) < n := by omega
  unfold SpotsP
  rw [hs, he]
  clear ha
  go_enter Try.func71, Try.ntmps71
  go_wp2
  go_ret2
  exact ⟨_, _, rfl, Below.refl _ _, Nat.le_refl _, ArrG.zero, High.zero⟩

set_option maxRecDepth 8000 in
set_option maxHeartbeats 2000000 in
theorem spotsOf_small (A : Option Addr) (n c : Nat) (zs : List Int) (w : World) (ha : Arr .u64 w w.heap.size A n zs) (h : n ≤ 256) :
    Calls Try.prog 71 #[.slice A n c] w (SpotsP zs w) := by
  have hl := ha.1
  have h' : ¬ (256 : Int) < n := by omega
  have hbad : fine zs 0 = false → spErr zs = 3 ∧ spList zs = [] := fun hf => by
    have h1 := spErr_bad (zs := zs) (by omega) hf
    exact ⟨h1, spList_bad (by omega)⟩
  have hgood : fine zs 0 = true → spErr zs = 0 ∧ spList zs = (begins zs 0).map (spOf zs) := fun hf => by
    have h1 := spErr_ok (zs := zs) (by omega) hf
    exact ⟨h1, spList_ok h1⟩
  have HBAD := Lib.hid hbad
  have HGOOD := Lib.hid hgood
  clear hbad hgood
  go_enter Try.func71, Try.ntmps71
  go_wp2_with fail
  go_loopw [4, 5, 14] (fun v nx i wr => ∃ (k a : Nat) (done : List Nat), k ≤ n ∧ i = .int .i64 k ∧ k ≤ a ∧ a ≤ n ∧ nx = .int .i64 a ∧ done ++ begins zs a = begins zs 0 ∧ fine zs a = fine zs 0 ∧ OwnG spotC 5 80 wr w.heap.size v (done.map (spOf zs)) ∧ Below w.heap.size w wr) (fun _ _ i _ => n - (intOf i).toNat)
  case atStart => exact ⟨0, 0, [], by omega, rfl, by omega, by omega, rfl, rfl, rfl, OwnG.nil, Below.refl _ _⟩
  case round =>
    obtain ⟨k, a, done, hkn, rfl, hka, haq, rfl, hd, hf, hO, hB⟩ := hrel
    by_cases hkl : k < n
    · by_cases hne : k = a
      · subst hne
        have hlt := hkl
        have hne : ((k : Int) != (k : Int)) = false := by simp
        have haW := ha.below hB (Nat.le_refl _)
        obtain ⟨b, off, rfl, hbW, hcell⟩ := haW.2.2 (by omega)
        have hc := hcell k hlt
        have hwf := haW.2.1 (nth zs k) (by rw [nth_get _ _ (by omega)]; exact List.getElem_mem _)
        rw [wf_u64] at hwf
        obtain ⟨v, hv⟩ := Int.eq_ofNat_of_zero_le hwf.1
        rw [hv] at hc
        have hv2 : v < 18446744073709551616 := by omega
        cases hbv : vBad v
        · obtain ⟨f1, f2, f3, f4, f5, f6, f7⟩ := head_fields (v := v) (by omega) hbv
          have hlong := sLong_int (v := v) (by omega) hbv
          have hE : (!vBad v) = true := by simp [hbv]
          have HR := Lib.hid (fun w => hE ▸ headRead_any v w hv2)
          have HL := Lib.hid (fun w => headLong_any (vR v) (vB v) (vT v) (vF v) w f1 (by omega) f2 (by omega))
          obtain ⟨R, hR⟩ : ∃ R, vR v = R := ⟨_, rfl⟩
          obtain ⟨Bd, hBd⟩ : ∃ R, vB v = R := ⟨_, rfl⟩
          obtain ⟨T, hT⟩ : ∃ R, vT v = R := ⟨_, rfl⟩
          obtain ⟨F, hF⟩ : ∃ R, vF v = R := ⟨_, rfl⟩
          have hsp : spOf zs k = ((k : Int), R, Bd, T, F) := by unfold spOf; rw [hv]; simp [hR, hBd, hT, hF]
          rw [hR, hBd, hT, hF] at HR HL
          rw [hR, hBd] at hlong
          rw [hR, hBd] at f5
          rw [hR] at f1
          rw [hBd] at f2
          clear hcell f3 f4 f6 f7 hE hwf hR hBd hT hF
          by_cases hfar : k + sLong v ≤ zs.length
          · have hst : stepOk zs k = true := stepOk_iff.2 ⟨by rw [hv]; exact hbv, by rw [hv]; exact hfar⟩
            have e1 := begins_step (zs := zs) (a := k) (by omega) hst
            have e2 := fine_step (zs := zs) (a := k) (by omega) hst
            have e3 := sLong_pos v
            rw [hv] at e1 e2
            obtain ⟨L, hL⟩ : ∃ L, sLong v = L := ⟨_, rfl⟩
            rw [hL] at e1 e2 e3 hlong hfar
            have H1 : Hid ((done ++ [k]) ++ begins zs (k + L) = begins zs 0) := Lib.hid (by rw [← hd, e1]; simp)
            have H2 : Hid (fine zs (k + L) = fine zs 0) := Lib.hid (by rw [← hf, e2])
            have hdl : done.length ≤ 256 := by
              have h1 := congrArg List.length hd
              have h2 := begins_len (zs := zs) (a := 0)
              rw [List.length_append] at h1
              omega
            have HD := Lib.hid hdl
            have HO := Lib.hid hO
            have HS := Lib.hid hsp
            have HB := Lib.hid hB
            clear hd hf hO hB hdl hsp hbv hv hst e1 e2 hL haW ha
            go_wp2_with fail
            refine (HR.out _).mono ?_
            rintro e w1 ⟨rfl, b1⟩
            have HB1 := Lib.hid b1
            clear b1
            go_wp2_with fail
            refine (HL.out _).mono ?_
            rintro e w2 ⟨rfl, b2⟩
            obtain ⟨bx, b2⟩ := one_box b2
            obtain ⟨c0, c1, c2, c3⟩ := bx.cells
            have BX := Lib.hid bx
            have HB2 := Lib.hid b2
            clear b2 bx
            have hb2 : Below wr.heap.size wr w2 := HB1.out.trans (HB2.out.mono HB1.out.size)
            have hO2 := HO.out.below hb2
            obtain ⟨v', w4, hrun, hO', hB', hK', _⟩ := hO2.pushK (P := Try.prog) (t := 72) (ty := 72) spotC_len spotC_one (by omega) Try.underlying72 spot_info rfl (by omega) ((k : Int), R, Bd, T, F) (by have := HD.out; simp; omega) (Nat.le_trans HB.out.size hb2.size)
            have hbx4 : Box4 w4 w1.heap.size (.int .i64 R) (.int .i64 Bd) (.int .i64 T) (.bool F) := (hK' _ BX.out.lt (fun e => by
              have h1 := HO.out.rowLt _ e
              have h2 := HB1.out.size
              omega)).trans BX.out
            obtain ⟨x0, x1, x2, x3⟩ := hbx4.cells
            have HR4 := Lib.hid hrun
            have HO4 : Hid (OwnG spotC 5 80 w4 w.heap.size v' ((done ++ [k]).map (spOf zs))) := Lib.hid (by
              rw [List.map_append, List.map_cons, List.map_nil, HS.out]; exact hO')
            have HB4 : Hid (Below w.heap.size w w4) := (HB.out.trans (hb2.mono HB.out.size)).trans hB'
            clear hb2 hO2 hrun hO' hB' hK' hbx4
            go_wp2_with (at_builtin; refine wpList_append_run rfl (.tmp 39) (.tmp 43) 72 rfl rfl rfl HR4.out ?_)
            refine (HL.out _).mono ?_
            rintro e w5 ⟨rfl, b5⟩
            have HO5 := Lib.hid (HO4.out.below b5)
            have HB5 := Lib.hid (HB4.out.trans (b5.mono HB4.out.size))
            clear b5 x0 x1 x2 x3 c0 c1 c2 c3
            go_wp2
            go_roundw
            case rel => exact ⟨k + 1, k + L, done ++ [k], by omega, by go_num, by omega, by omega, by rw [show ((k : Int) + (1 + R + Bd)) = ((k + L : Nat) : Int) by omega], H1.out, H2.out, HO5.out, HB5.out⟩
            case measure => simp [intOf]; omega
          · have hst : stepOk zs k = false := stepOk_far (by rw [hv]; omega)
            have e2 := fine_bad (zs := zs) (a := k) (by omega) hst
            obtain ⟨g1, g2⟩ := HBAD.out (by rw [← hf, e2])
            have HB := Lib.hid hB
            have G1 := Lib.hid g1
            have G2 := Lib.hid g2
            have hfar2 : (n : Int) < (k : Int) + (1 + R + Bd) := by omega
            clear hd hf hO hB hsp hbv hv hst e2 haW ha hlong hfar g1 g2
            go_wp2_with fail
            refine (HR.out _).mono ?_
            rintro e w1 ⟨rfl, b1⟩
            have HB1 := Lib.hid b1
            clear b1
            go_wp2_with fail
            refine (HL.out _).mono ?_
            rintro e w2 ⟨rfl, b2⟩
            obtain ⟨bx, b2⟩ := one_box b2
            have HB2 := Lib.hid b2
            clear b2 bx
            go_wp2
            go_ret2
            unfold SpotsP
            rw [G1.out, G2.out]
            exact ⟨_, _, rfl, HB.out.trans ((HB1.out.trans (HB2.out.mono HB1.out.size)).mono HB.out.size), Nat.le_refl _, ArrG.zero, High.zero⟩
        · have hst : stepOk zs k = false := stepOk_bad (by rw [hv]; exact hbv)
          have e2 := fine_bad (zs := zs) (a := k) (by omega) hst
          obtain ⟨g1, g2⟩ := HBAD.out (by rw [← hf, e2])
          have hE : (!vBad v) = false := by simp [hbv]
          have HR := Lib.hid (fun w => hE ▸ headRead_any v w hv2)
          have HB := Lib.hid hB
          have G1 := Lib.hid g1
          have G2 := Lib.hid g2
          clear hd hf hO hB hbv hv hst e2 haW ha g1 g2 hE hcell hwf
          go_wp2_with fail
          refine (HR.out _).mono ?_
          rintro e w1 ⟨rfl, b1⟩
          have HB1 := Lib.hid b1
          clear b1
          go_wp2
          go_ret2
          unfold SpotsP
          rw [G1.out, G2.out]
          exact ⟨_, _, rfl, HB.out.trans ((HB1.out.alloc HB1.out.size _).mono HB.out.size), Nat.le_refl _, ArrG.zero, High.zero⟩
      · have hne2 : ((k : Int) != (a : Int)) = true := by simp; omega
        have H1 := Lib.hid hd
        have H2 := Lib.hid hf
        have H3 := Lib.hid hO
        have H4 := Lib.hid hB
        clear hd hf hO hB ha
        go_wp2
        go_roundw
        case rel => exact ⟨k + 1, a, done, by omega, by go_num, by omega, by omega, rfl, H1.out, H2.out, H3.out, H4.out⟩
        case measure => simp [intOf]; omega
    · have hae : a = n := by omega
      have hfin : fine zs 0 = true := by rw [← hf]; exact fine_end (by omega)
      have hdo : done = begins zs 0 := by rw [← hd, begins_end (by omega)]; simp
      obtain ⟨g1, g2⟩ := HGOOD.out hfin
      rw [hdo, ← g2] at hO
      obtain ⟨A2, c2, rfl, hc2, hA⟩ := hO.arr spotC_len
      have H1 := Lib.hid hA
      have H4 := Lib.hid hO.high
      have H2 := Lib.hid hB
      have H3 := Lib.hid hc2
      have G1 := Lib.hid g1
      clear hO hA hB hd hf hfin hdo g1 g2 ha hc2
      go_wp2
      go_ret2
      unfold SpotsP
      rw [G1.out]
      exact ⟨_, _, rfl, H2.out, H3.out, H1.out, H4.out⟩

theorem SpotsOf_any (A : Option Addr) (n c : Nat) (zs : List Int) (w : World) (hn : n ≤ maxLen) (ha : Arr .u64 w w.heap.size A n zs) :
    Calls Try.prog 71 #[.slice A n c] w (SpotsP zs w) := by
  by_cases h : n ≤ 256
  · exact spotsOf_small A n c zs w ha h
  · exact spotsOf_big A n c zs w hn ha (by omega)


theorem int_info : (Try.prog.info? 3).map (fun i => (i.zero, i.size, i.bytes)) = some (some (.int .i64 0), 1, 8) := by kernel_rfl

set_option maxHeartbeats 400000 in
theorem place_any (A : Option Addr) (n c B : Nat) (x : Int) (xs : List Int) (w : World) (hn : n ≤ maxLen) (ha : Arr .i64 w B A n xs) :
    Calls Try.prog 46 #[.slice A n c, .int .i64 x] w fun e w' => (∃ r, e = .returned (.int .i64 r) ∧ PlaceP xs x r) ∧ w = w' := by
  unfold maxLen at hn
  have hl := ha.1
  have HA := Lib.hid ha
  clear ha
  go_enter Try.func46, Try.ntmps46
  go_wp2
  go_loopw [9] (fun i wr => ∃ k : Nat, k ≤ n ∧ i = .int .i64 k ∧ Hid (∀ j, j < k → nth xs j ≠ x) ∧ w = wr) (fun i _ => n - (intOf i).toNat)
  case atStart => exact ⟨0, Nat.zero_le _, rfl, (fun j hj => absurd hj (by omega)), rfl⟩
  case round =>
    obtain ⟨k, hk, rfl, HE, rfl⟩ := hrel
    by_cases hlt : k < n
    · obtain ⟨b, off, rfl, _, hcs⟩ := HA.out.2.2 (by omega)
      have hc := hcs k hlt
      clear hcs
      by_cases he : nth xs k = x
      · have HQ := Lib.hid he
        rw [he] at hc
        have hb : (x == x) = true := by simp
        clear he
        go_wp2
        go_ret
        exact ⟨⟨_, rfl, .inl ⟨k, rfl, by omega, HQ.out⟩⟩, rfl⟩
      · have HQ := Lib.hid he
        have hb : (nth xs k == x) = false := by simpa using he
        have HEn : Hid (∀ j, j < k + 1 → nth xs j ≠ x) := fun j hj => by
          rcases Nat.lt_succ_iff_lt_or_eq.1 hj with h | h
          · exact HE.out j h
          · rw [h]; exact HQ.out
        clear he HQ
        generalize nth xs k = X at hb hc
        go_wp2
        go_roundw
        case rel => exact ⟨k + 1, by omega, by go_num, HEn, by trivial⟩
        case measure => simp [intOf]; omega
    · obtain rfl : k = n := by omega
      go_wp2
      go_ret
      exact ⟨⟨_, rfl, .inr ⟨rfl, by rw [hl]; exact HE.out⟩⟩, rfl⟩

set_option maxHeartbeats 400000 in
theorem in_ref (A : Option Addr) (n c B : Nat) (x : Int) (xs : List Int) (w : World) (hn : n ≤ maxLen) (ha : Arr .i64 w B A n xs) :
    Calls Try.prog 40 #[.slice A n c, .int .i64 x] w fun e w' => e = .returned (.bool (decide (x ∈ xs))) ∧ w = w' := by
  have HP := Lib.hid (place_any A n c B x xs w hn ha)
  clear ha
  go_enter Try.func40, Try.ntmps40
  go_wp2_with fail
  refine HP.out.mono ?_
  rintro e w' ⟨⟨r, rfl, hr⟩, rfl⟩
  have HR : Hid (decide (0 ≤ r) = decide (x ∈ xs)) := by
    show _ = _
    rcases hr with ⟨k, rfl, hk, he⟩ | ⟨rfl, hno⟩
    · have : x ∈ xs := by rw [← he, nth_get _ _ hk]; exact List.getElem_mem _
      simp [this]
    · have : ¬ x ∈ xs := fun h => by
        obtain ⟨i, hi, rfl⟩ := List.getElem_of_mem h
        exact hno i hi (nth_get _ _ hi)
      simp [this]
  clear hr HP
  go_wp2
  go_ret
  exact ⟨by rw [← HR.out]; rfl, rfl⟩

/-- The first 'k' of the objects that are not free. -/
def livesTo (zs : List Int) (k : Nat) : List Int := (((begins zs 0).take k).filter (isLive zs)).map (fun s : Nat => (s : Int))
theorem take_st {zs : List Int} {k : Nat} (hk : k < (begins zs 0).length) : (begins zs 0).take (k + 1) = (begins zs 0).take k ++ [st zs k] := by
  unfold st
  rw [nthG_get _ _ hk, List.take_succ_eq_append_getElem]
theorem livesTo_free {zs : List Int} {k : Nat} (hk : k < (begins zs 0).length) (hf : vF (nth zs (st zs k)) = true) : livesTo zs (k + 1) = livesTo zs k := by
  unfold livesTo
  rw [take_st hk, List.filter_append]
  simp [isLive, hf]
theorem livesTo_live {zs : List Int} {k : Nat} (hk : k < (begins zs 0).length) (hf : vF (nth zs (st zs k)) = false) : livesTo zs (k + 1) = livesTo zs k ++ [(st zs k : Int)] := by
  unfold livesTo
  rw [take_st hk, List.filter_append]
  simp [isLive, hf]
theorem livesTo_all {zs : List Int} : livesTo zs (begins zs 0).length = livesI zs := by unfold livesTo livesI; rw [List.take_length]
theorem livesTo_len {zs : List Int} (k : Nat) : (livesTo zs k).length ≤ k := by
  unfold livesTo
  rw [List.length_map]
  exact Nat.le_trans (List.length_filter_le _ _) (by simp; omega)

theorem Own.lessRF {k : IntKind} {e : TypeId} {w : World} {base base' : Nat} {v : Value} {xs : List Int} (h : Own k e w base v xs) (hb : base' ≤ base) : Own k e w base' v xs := by
  obtain ⟨⟨hl, h2⟩, hw⟩ := h
  refine ⟨⟨hl, h2.imp id ?_⟩, hw⟩
  rintro ⟨g', cap, cur, hv, hg, r⟩
  exact ⟨g', cap, cur, hv, Nat.le_trans hb hg, r⟩
set_option maxHeartbeats 1000000 in
theorem beginsO_any (A : Option Addr) (n c : Nat) (zs : List Int) (w : World) (ha : Arr .u64 w w.heap.size A n zs) (h : spErr zs = 0) :
    Calls Try.prog 39 #[.slice A n c] w fun e w' => ∃ A' c', e = .returned (.slice A' (livesI zs).length c') ∧ Below w.heap.size w w' ∧ (livesI zs).length ≤ c' ∧ Own .i64 3 w' w.heap.size (.slice A' (livesI zs).length c') (livesI zs) := by
  obtain ⟨h256, hfine⟩ := spErr_zero h
  have hl := ha.1
  have hL := spList_ok h
  have hbl := begins_len (zs := zs) (a := 0)
  have hlen : (spList zs).length = (begins zs 0).length := by rw [hL]; simp
  obtain ⟨m, hm⟩ : ∃ m, (begins zs 0).length = m := ⟨_, rfl⟩
  rw [hm] at hlen hbl
  have hspot : ∀ k, k < m → nthG (spList zs) k = spOf zs (st zs k) ∧ st zs k < n := fun k hk => by
    have h1 := begins_mem (st_mem (zs := zs) (k := k) (by omega))
    exact ⟨by rw [hL, nthG_map _ _ _ (by omega)]; rfl, by omega⟩
  have HS := Lib.hid hspot
  have HM := Lib.hid hm
  have HC := Lib.hid (SpotsOf_any A n c zs w (by unfold maxLen; omega) ha)
  have HLN := Lib.hid hlen
  clear ha h hfine hL hspot hm hlen
  go_enter Try.func39, Try.ntmps39
  go_wp2_with fail
  refine HC.out.mono ?_
  rintro e w1 ⟨A2, c2, rfl, b1, hc2, hA2, _⟩
  rw [HLN.out] at hA2 hc2 ⊢
  have HB1 := Lib.hid b1
  have HA2 := Lib.hid hA2
  clear b1 hA2 hc2 HC
  go_wp2_with fail
  go_loopw [5, 15] (fun v i wr => ∃ k : Nat, k ≤ m ∧ i = .int .i64 k ∧ Hid (Own .i64 3 wr w1.heap.size v (livesTo zs k)) ∧ Hid (Below w1.heap.size w1 wr)) (fun _ i _ => m - (intOf i).toNat)
  case atStart => exact ⟨0, by omega, rfl, Own.nil, Below.refl _ _⟩
  case round =>
    obtain ⟨k, hk, rfl, hO, hB⟩ := hrel
    by_cases hlt : k < m
    · obtain ⟨hs, hsn⟩ := HS.out k hlt
      obtain ⟨b, off, rfl, _, q0, q1, q2, q3, q4⟩ := (HA2.out.below hB.out (Nat.le_refl _)).spot hlt
      rw [hs] at q0 q1 q2 q3 q4
      unfold spOf at q0 q1 q2 q3 q4
      simp only at q0 q1 q2 q3 q4
      have hba := (Below.refl _ wr).alloc (Nat.le_refl _) (.cells #[.int .i64 (st zs k), .int .i64 (vR (nth zs (st zs k))), .int .i64 (vB (nth zs (st zs k))), .int .i64 (vT (nth zs (st zs k))), .bool (vF (nth zs (st zs k)))] 80)
      cases hf : vF (nth zs (st zs k))
      · rw [hf] at q4 hba
        have hO1 := hO.out.below hba
        have hB1 := hB.out.trans (hba.mono hB.out.size)
        obtain ⟨v', w4, hrun, hO', hB'⟩ := hO1.push (P := Try.prog) (t := 23) (ty := 23) Try.underlying23 int_info (by omega) (x := (st zs k : Int)) (wf_i64.2 (by omega)) (by have := livesTo_len (zs := zs) k; omega) hB1.size
        rw [← livesTo_live (by rw [HM.out]; exact hlt) hf] at hO'
        rw [show (wr.alloc (.cells #[.int .i64 (st zs k), .int .i64 (vR (nth zs (st zs k))), .int .i64 (vB (nth zs (st zs k))), .int .i64 (vT (nth zs (st zs k))), .bool false] 80)).heap.size = wr.heap.size + 1 by simp] at hrun
        have HR := Lib.hid hrun
        have HO := Lib.hid hO'
        have HB := Lib.hid (hB1.trans hB')
        clear hba hO1 hB1 hrun hO' hB' hs hf hO hB
        generalize vR (nth zs (st zs k)) = R at *
        generalize vB (nth zs (st zs k)) = Bd at *
        generalize vT (nth zs (st zs k)) = T at *
        generalize st zs k = s at *
        go_wp2_with (at_builtin; refine wpList_append_run rfl (.tmp 23) (.tmp 26) 23 rfl rfl rfl HR.out ?_)
        go_roundw
        case rel => exact ⟨k + 1, by omega, by go_num, HO.out, HB.out⟩
        case measure => simp [intOf]; omega
      · rw [hf] at q4 hba
        have HO := Lib.hid (hO.out.below hba)
        have HB := Lib.hid (hB.out.trans (hba.mono hB.out.size))
        rw [← livesTo_free (by rw [HM.out]; exact hlt) hf] at HO
        clear hba hs hf hO hB
        generalize vR (nth zs (st zs k)) = R at *
        generalize vB (nth zs (st zs k)) = Bd at *
        generalize vT (nth zs (st zs k)) = T at *
        generalize st zs k = s at *
        go_wp2
        go_roundw
        case rel => exact ⟨k + 1, by omega, by go_num, HO.out, HB.out⟩
        case measure => simp [intOf]; omega
    · obtain rfl : k = m := by omega
      have hO1 := hO.out
      rw [← HM.out, livesTo_all] at hO1
      obtain ⟨A3, c3, rfl, hc3, _⟩ := hO1.arr
      have HA3 := Lib.hid (hO1.lessRF HB1.out.size)
      have HC3 := Lib.hid hc3
      have HB := Lib.hid (HB1.out.trans (hB.out.mono HB1.out.size))
      clear hO1 hc3 hO hB
      go_wp2
      go_ret
      exact ⟨_, _, rfl, HB.out, HC3.out, HA3.out⟩
theorem begins_any (A : Option Addr) (n c : Nat) (zs : List Int) (w : World) (ha : Arr .u64 w w.heap.size A n zs) (h : spErr zs = 0) :
    Calls Try.prog 39 #[.slice A n c] w fun e w' => ∃ A' c', e = .returned (.slice A' (livesI zs).length c') ∧ Below w.heap.size w w' ∧ Arr .i64 w' w'.heap.size A' (livesI zs).length (livesI zs) :=
  (beginsO_any A n c zs w ha h).mono fun _ _ ⟨A', c', h1, h2, _, h3⟩ => ⟨A', c', h1, h2, by
    obtain ⟨A9, c9, hv, _, hA⟩ := h3.arr
    injection hv with e1 _ _
    rw [e1]; exact hA⟩


/-- What HeadAt answers of an arena whose objects fill it. -/
def HeadAtP (zs : List Int) (a : Int) (w : World) (e : Ending) (w' : World) : Prop := Below w.heap.size w w' ∧
  ((∃ j, j < (begins zs 0).length ∧ a = st zs j ∧ vF (nth zs (st zs j)) = false ∧ e = .returned (.tuple #[.agg #[.int .i64 (vR (nth zs (st zs j))), .int .i64 (vB (nth zs (st zs j))), .int .i64 (vT (nth zs (st zs j))), .bool false], .bool true])) ∨
   ((∀ j, j < (begins zs 0).length → a = st zs j → vF (nth zs (st zs j)) = true) ∧ e = .returned (.tuple #[.agg #[.int .i64 0, .int .i64 0, .int .i64 0, .bool false], .bool false])))

set_option maxRecDepth 8000 in
set_option maxHeartbeats 1000000 in
theorem headAt_any (A : Option Addr) (n c : Nat) (a : Int) (zs : List Int) (w : World) (ha : Arr .u64 w w.heap.size A n zs) (h : spErr zs = 0) :
    Calls Try.prog 44 #[.slice A n c, .int .i64 a] w (HeadAtP zs a w) := by
  obtain ⟨h256, hfine⟩ := spErr_zero h
  have hl := ha.1
  have hL := spList_ok h
  have hbl := begins_len (zs := zs) (a := 0)
  have hlen : (spList zs).length = (begins zs 0).length := by rw [hL]; simp
  obtain ⟨m, hm⟩ : ∃ m, (begins zs 0).length = m := ⟨_, rfl⟩
  rw [hm] at hlen hbl
  have hspot : ∀ k, k < m → nthG (spList zs) k = spOf zs (st zs k) := fun k hk => by rw [hL, nthG_map _ _ _ (by omega)]; rfl
  have HS := Lib.hid hspot
  have HM := Lib.hid hm
  have b0 := (Below.refl _ w).alloc (Nat.le_refl _) (.cells #[.int .i64 0, .int .i64 0, .int .i64 0, .bool false] 44)
  have HC := Lib.hid (SpotsOf_any A n c zs _ (by unfold maxLen; omega) ((ha.below b0 (Nat.le_refl _)).more b0.size))
  have HLN := Lib.hid hlen
  clear ha h hfine hL hspot hm hlen b0
  go_enter Try.func44, Try.ntmps44
  go_wp2_with fail
  refine HC.out.mono ?_
  rintro e w1 ⟨A2, c2, rfl, b1, hc2, hA2, _⟩
  rw [HLN.out] at hA2 hc2 ⊢
  obtain ⟨bx, b1⟩ := boxed_call b1
  have BX := Lib.hid bx
  have HB1 := Lib.hid b1
  have HA2 := Lib.hid hA2
  clear b1 hA2 hc2 HC bx
  go_wp2_with fail
  go_loopw [17] (fun i wr => ∃ k : Nat, k ≤ m ∧ i = .int .i64 k ∧ Hid (∀ j, j < k → a = st zs j → vF (nth zs (st zs j)) = true) ∧ Hid (Below w1.heap.size w1 wr)) (fun i _ => m - (intOf i).toNat)
  case atStart => exact ⟨0, by omega, rfl, (fun j hj => absurd hj (by omega)), Below.refl _ _⟩
  case round =>
    obtain ⟨k, hk, rfl, HP, hB⟩ := hrel
    by_cases hlt : k < m
    · have hs := HS.out k hlt
      obtain ⟨b, off, rfl, _, q0, q1, q2, q3, q4⟩ := (HA2.out.below hB.out (Nat.le_refl _)).spot hlt
      rw [hs] at q0 q1 q2 q3 q4
      unfold spOf at q0 q1 q2 q3 q4
      simp only at q0 q1 q2 q3 q4
      have HB := Lib.hid (hB.out.alloc hB.out.size (.cells #[.int .i64 (st zs k), .int .i64 (vR (nth zs (st zs k))), .int .i64 (vB (nth zs (st zs k))), .int .i64 (vT (nth zs (st zs k))), .bool (vF (nth zs (st zs k)))] 80))
      have HPn : Hid (a = st zs k → vF (nth zs (st zs k)) = true → True) := Lib.hid fun _ _ => trivial
      clear hs hB
      by_cases heq : (st zs k : Int) = a
      · have hbq : ((st zs k : Int) == a) = true := by simpa using heq
        cases hf : vF (nth zs (st zs k))
        · rw [hf] at q4 HB
          have HF := Lib.hid hf
          have HQ := Lib.hid heq
          have bx2 := BX.out.below HB.out BX.out.lt
          have BX2 := Lib.hid bx2
          clear hf heq
          obtain ⟨s, hse⟩ : ∃ s, st zs k = s := ⟨_, rfl⟩
          have HSE := Lib.hid hse
          rw [hse] at q0 q1 q2 q3 HB BX2 bx2 HF HQ hbq
          clear hse
          obtain ⟨R, hR⟩ : ∃ x, vR (nth zs s) = x := ⟨_, rfl⟩
          obtain ⟨Bd, hBd⟩ : ∃ x, vB (nth zs s) = x := ⟨_, rfl⟩
          obtain ⟨T, hT⟩ : ∃ x, vT (nth zs s) = x := ⟨_, rfl⟩
          rw [hR, hBd, hT] at HB BX2 bx2
          rw [hR] at q1
          rw [hBd] at q2
          rw [hT] at q3
          have HV : Hid (vR (nth zs s) = R ∧ vB (nth zs s) = Bd ∧ vT (nth zs s) = T) := ⟨hR, hBd, hT⟩
          clear hR hBd hT
          have d0 := bx2.cell 0
          have d1 := bx2.cell 1
          have d2 := bx2.cell 2
          have d3 := bx2.cell 3
          have s0 := bx2.soft 0
          have s1 := bx2.soft 1
          have s2 := bx2.soft 2
          have s3 := bx2.soft 3
          clear bx2
          rw [show (#[.int .i64 0, .int .i64 0, .int .i64 0, .bool false] : Array Value)[0]? = some (.int .i64 0) from rfl] at d0
          rw [show (#[.int .i64 0, .int .i64 0, .int .i64 0, .bool false] : Array Value)[1]? = some (.int .i64 0) from rfl] at d1
          rw [show (#[.int .i64 0, .int .i64 0, .int .i64 0, .bool false] : Array Value)[2]? = some (.int .i64 0) from rfl] at d2
          rw [show (#[.int .i64 0, .int .i64 0, .int .i64 0, .bool false] : Array Value)[3]? = some (.bool false) from rfl] at d3
          go_wp2
          generalize (wr.alloc (.cells #[.int .i64 s, .int .i64 R, .int .i64 Bd, .int .i64 T, .bool false] 80)) = W at *
          have BY := (BX2.out).set4 (.int .i64 R) (.int .i64 Bd) (.int .i64 T) (.bool false)
          have BB := below_set4 (HB1.out.trans (HB.out.mono HB1.out.size)) (g := w.heap.size) (by omega) 0 1 2 3 (.int .i64 R) (.int .i64 Bd) (.int .i64 T) (.bool false)
          generalize ((((W.setCell ⟨w.heap.size, 0, none⟩ (.int .i64 R)).setCell ⟨w.heap.size, 1, none⟩ (.int .i64 Bd)).setCell ⟨w.heap.size, 2, none⟩ (.int .i64 T)).setCell ⟨w.heap.size, 3, none⟩ (.bool false)) = W9 at *
          have x0 : W9.cell? ⟨w.heap.size, 0, none⟩ = some (.int .i64 R) := BY.cell 0
          have x1 : W9.cell? ⟨w.heap.size, 1, none⟩ = some (.int .i64 Bd) := BY.cell 1
          have x2 : W9.cell? ⟨w.heap.size, 2, none⟩ = some (.int .i64 T) := BY.cell 2
          have x3 : W9.cell? ⟨w.heap.size, 3, none⟩ = some (.bool false) := BY.cell 3
          refine bodyPost_ret (v := .tuple #[.agg #[.int .i64 R, .int .i64 Bd, .int .i64 T, .bool false], .bool true]) (by simp [results, Try.results44, go_sem, x0, x1, x2, x3]) rfl ⟨BB, .inl ⟨k, by rw [HM.out]; exact hlt, by rw [HSE.out]; exact HQ.out.symm, by rw [HSE.out]; exact HF.out, by rw [HSE.out, HV.out.1, HV.out.2.1, HV.out.2.2]⟩⟩
        · have HPn2 : Hid (∀ j, j < k + 1 → a = st zs j → vF (nth zs (st zs j)) = true) := fun j hj ha => by
            rcases Nat.lt_succ_iff_lt_or_eq.1 hj with h | h
            · exact HP.out j h ha
            · rw [h]; exact hf
          rw [hf] at q4 HB
          clear hf heq
          generalize vR (nth zs (st zs k)) = R at *
          generalize vB (nth zs (st zs k)) = Bd at *
          generalize vT (nth zs (st zs k)) = T at *
          generalize st zs k = s at q0 hbq HB
          go_wp2
          go_roundw
          case rel => exact ⟨k + 1, by omega, by go_num, HPn2, HB⟩
          case measure => simp [intOf]; omega
      · have hbq : ((st zs k : Int) == a) = false := by simpa using heq
        have HPn2 : Hid (∀ j, j < k + 1 → a = st zs j → vF (nth zs (st zs j)) = true) := fun j hj ha => by
          rcases Nat.lt_succ_iff_lt_or_eq.1 hj with h | h
          · exact HP.out j h ha
          · subst h; exact absurd ha.symm heq
        clear heq
        generalize vR (nth zs (st zs k)) = R at *
        generalize vB (nth zs (st zs k)) = Bd at *
        generalize vT (nth zs (st zs k)) = T at *
        generalize vF (nth zs (st zs k)) = F at q4 HB
        generalize st zs k = s at q0 hbq HB
        go_wp2
        go_roundw
        case rel => exact ⟨k + 1, by omega, by go_num, HPn2, HB⟩
        case measure => simp [intOf]; omega
    · obtain rfl : k = m := by omega
      have bx2 := BX.out.below hB.out BX.out.lt
      have d0 : wr.cell? ⟨w.heap.size, 0, none⟩ = some (.int .i64 0) := bx2.cell 0
      have d1 : wr.cell? ⟨w.heap.size, 1, none⟩ = some (.int .i64 0) := bx2.cell 1
      have d2 : wr.cell? ⟨w.heap.size, 2, none⟩ = some (.int .i64 0) := bx2.cell 2
      have d3 : wr.cell? ⟨w.heap.size, 3, none⟩ = some (.bool false) := bx2.cell 3
      have s0 := bx2.soft 0
      have s1 := bx2.soft 1
      have s2 := bx2.soft 2
      have s3 := bx2.soft 3
      have BX2 := Lib.hid bx2
      clear bx2
      go_wp2
      have BY := (BX2.out).set4 (.int .i64 0) (.int .i64 0) (.int .i64 0) (.bool false)
      have BB := below_set4 (HB1.out.trans (hB.out.mono HB1.out.size)) (g := w.heap.size) (by omega) 0 1 2 3 (.int .i64 0) (.int .i64 0) (.int .i64 0) (.bool false)
      generalize ((((wr.setCell ⟨w.heap.size, 0, none⟩ (.int .i64 0)).setCell ⟨w.heap.size, 1, none⟩ (.int .i64 0)).setCell ⟨w.heap.size, 2, none⟩ (.int .i64 0)).setCell ⟨w.heap.size, 3, none⟩ (.bool false)) = W9 at *
      have x0 : W9.cell? ⟨w.heap.size, 0, none⟩ = some (.int .i64 0) := BY.cell 0
      have x1 : W9.cell? ⟨w.heap.size, 1, none⟩ = some (.int .i64 0) := BY.cell 1
      have x2 : W9.cell? ⟨w.heap.size, 2, none⟩ = some (.int .i64 0) := BY.cell 2
      have x3 : W9.cell? ⟨w.heap.size, 3, none⟩ = some (.bool false) := BY.cell 3
      refine bodyPost_ret (v := .tuple #[.agg #[.int .i64 0, .int .i64 0, .int .i64 0, .bool false], .bool false]) (by simp [results, Try.results44, go_sem, x0, x1, x2, x3]) rfl ⟨BB, .inr ⟨by rw [HM.out]; exact HP.out, rfl⟩⟩

theorem nm_wf {v : Int} (hv : 0 ≤ v) : (Lit.int .i64 (nm v)).wf = true := wf_i64.2 (by unfold nm; split <;> omega)

set_option maxRecDepth 8000 in
set_option maxHeartbeats 1000000 in
theorem named_any (A : Option Addr) (n c : Nat) (j : Nat) (zs : List Int) (w : World) (ha : Arr .u64 w w.heap.size A n zs) (h : spErr zs = 0) (hj : j < (begins zs 0).length) (hf : vF (nth zs (st zs j)) = false) :
    Calls Try.prog 45 #[.slice A n c, .int .i64 (st zs j)] w fun e w' => ∃ A' c', e = .returned (.slice A' (named zs (st zs j)).length c') ∧ Below w.heap.size w w' ∧ Arr .i64 w' w'.heap.size A' (named zs (st zs j)).length (named zs (st zs j)) ∧ High w.heap.size A' (named zs (st zs j)).length := by
  obtain ⟨h256, _⟩ := spErr_zero h
  have hl := ha.1
  obtain ⟨_, hsn, hst⟩ := begins_mem (st_mem hj)
  obtain ⟨R, Bd, hR, hBd, f1, f2, _⟩ := spot_facts hst ha.2.1 hsn
  have hrl := refWords_len hst
  rw [hR] at hrl
  simp only [Int.toNat_natCast] at hrl
  have HC := Lib.hid (headAt_any A n c (st zs j) zs w ha h)
  have hword : ∀ k, k < R → nth (refWords zs (st zs j)) k = nth zs (st zs j + 1 + k) ∧ 0 ≤ nth (refWords zs (st zs j)) k ∧ nth (refWords zs (st zs j)) k ≤ 18446744073709551615 := fun k hk => by
    have e1 : nth (refWords zs (st zs j)) k = nth zs (st zs j + 1 + k) := by
      rw [nth_get _ _ (by omega), nth_get _ _ (by omega)]
      unfold refWords
      simp
    have hw := ha.2.1 (nth zs (st zs j + 1 + k)) (by rw [nth_get _ _ (by omega)]; exact List.getElem_mem _)
    rw [wf_u64] at hw
    rw [e1]
    exact ⟨rfl, hw⟩
  have HA := Lib.hid ha
  have HW := Lib.hid hword
  have HRL := Lib.hid hrl
  have HJ := Lib.hid hj
  have HF := Lib.hid hf
  have HRR := Lib.hid hR
  clear ha h hword hrl hj hf hst hBd hR
  go_enter Try.func45, Try.ntmps45
  go_wp2_with fail
  refine HC.out.mono ?_
  rintro e w1 ⟨b1, h1⟩
  obtain rfl : e = .returned (.tuple #[.agg #[.int .i64 (vR (nth zs (st zs j))), .int .i64 (vB (nth zs (st zs j))), .int .i64 (vT (nth zs (st zs j))), .bool false], .bool true]) := by
    rcases h1 with ⟨i, hi, he, _, h1⟩ | ⟨h1, _⟩
    · have : st zs j = st zs i := by omega
      rw [h1, this]
    · have := h1 j HJ.out rfl
      rw [HF.out] at this; cases this
  rw [HRR.out]
  have HB1 := Lib.hid b1
  clear b1 h1 HC
  obtain ⟨s, hse⟩ : ∃ s, st zs j = s := ⟨_, rfl⟩
  have HSE := Lib.hid hse
  rw [hse] at hsn f1 HW HRL HRR HF ⊢
  clear hse
  generalize vB (nth zs s) = x1 at *
  generalize vT (nth zs s) = x2 at *
  go_wp2_with fail
  have HB2 := Lib.hid (HB1.out.alloc HB1.out.size (.cells #[.int .i64 R, .int .i64 x1, .int .i64 x2, .bool false] 44))
  generalize (w1.alloc (.cells #[.int .i64 R, .int .i64 x1, .int .i64 x2, .bool false] 44)) = W at *
  go_loopw [7, 18] (fun v i wr => ∃ k : Nat, k ≤ R ∧ i = .int .i64 k ∧ Hid (Own .i64 3 wr w.heap.size v (((refWords zs s).take k).map nm)) ∧ Hid (Below w.heap.size w wr)) (fun _ i _ => R - (intOf i).toNat)
  case atStart => exact ⟨0, by omega, rfl, Own.nil, HB2⟩
  case round =>
    obtain ⟨k, hk, rfl, hO, hB⟩ := hrel
    clear HB2
    by_cases hlt : k < R
    · obtain ⟨e1, e2, e3⟩ := HW.out k hlt
      obtain ⟨b, off, rfl, _, hcs⟩ := (HA.out.below hB.out (Nat.le_refl _)).2.2 (by omega)
      have hc := hcs (s + 1 + k) (by omega)
      rw [← e1] at hc
      clear hcs e1
      have htk : (refWords zs s).take (k + 1) = (refWords zs s).take k ++ [nth (refWords zs s) k] := by
        rw [nth_get _ _ (by have := HRL.out; omega), List.take_succ_eq_append_getElem]
      obtain ⟨v', w4, hrun, hO', hB'⟩ := hO.out.push (P := Try.prog) (t := 23) (ty := 23) Try.underlying23 int_info (by omega) (x := nm (nth (refWords zs s) k)) (nm_wf e2) (by simp; omega) hB.out.size
      have HO : Hid (Own .i64 3 w4 w.heap.size v' (((refWords zs s).take (k + 1)).map nm)) := Lib.hid (by rw [htk, List.map_append]; exact hO')
      have HB := Lib.hid (hB.out.trans hB')
      have HR := Lib.hid hrun
      clear htk hrun hO' hB' hO hB
      generalize nth (refWords zs s) k = X at *
      obtain ⟨X, rfl⟩ := Int.eq_ofNat_of_zero_le e2
      by_cases hbig : (256 : Int) < X
      · have hnm : nm X = 9998 := by unfold nm; rw [if_pos hbig]
        rw [hnm] at HR
        clear hnm
        go_wp2_with (at_builtin; refine wpList_append_run rfl (.tmp 30) (.tmp 34) 23 rfl rfl rfl HR.out ?_)
        go_roundw
        case rel => exact ⟨k + 1, by omega, by go_num, HO, HB⟩
        case measure => simp [intOf]; omega
      · have hnm : nm X = X - 1 := by unfold nm; rw [if_neg hbig]
        rw [hnm] at HR
        clear hnm
        go_wp2_with (at_builtin; refine wpList_append_run rfl (.tmp 30) (.tmp 34) 23 rfl rfl rfl HR.out ?_)
        go_roundw
        case rel => exact ⟨k + 1, by omega, by go_num, HO, HB⟩
        case measure => simp [intOf]; omega
    · obtain rfl : k = R := by omega
      have hO1 := hO.out
      rw [List.take_of_length_le (by have := HRL.out; omega)] at hO1
      have hO2 : Own .i64 3 wr w.heap.size _ (named zs s) := hO1
      obtain ⟨A3, c3, rfl, _, hA3⟩ := hO2.arr
      have HA3 := Lib.hid hA3
      have HH3 := Lib.hid hO2.high
      clear hO1 hO2 hA3 hO
      go_wp2
      go_ret
      refine ⟨A3, c3, ?_⟩
      rw [HSE.out]
      exact ⟨rfl, hB.out, HA3.out, HH3.out⟩


set_option maxHeartbeats 400000 in
theorem fault_bad (A : Option Addr) (n c : Nat) (zs : List Int) (w : World) (hn : n ≤ maxLen) (ha : Arr .u64 w w.heap.size A n zs) (h : spErr zs ≠ 0) :
    Calls Try.prog 38 #[.slice A n c] w fun e w' => e = .returned (.int .i64 (arErr zs)) ∧ Below w.heap.size w w' := by
  have he := arErr_sp h
  have hb : (spErr zs != 0) = true := by simpa using h
  have HE := Lib.hid he
  have HC := Lib.hid (SpotsOf_any A n c zs w hn ha)
  clear h he hn ha
  go_enter Try.func38, Try.ntmps38
  go_wp2_with fail
  refine HC.out.mono ?_
  rintro e w1 ⟨A2, c2, rfl, b1, hc2, hA2, _⟩
  have HB1 := Lib.hid b1
  clear b1 hA2 hc2 HC
  generalize (spList zs).length = m at *
  go_wp2
  go_ret
  exact ⟨by rw [HE.out]; rfl, HB1.out⟩

theorem nth_lives {zs : List Int} {i : Nat} (hi : i < (livesI zs).length) : ∃ j, j < (begins zs 0).length ∧ nth (livesI zs) i = (st zs j : Int) ∧ vF (nth zs (st zs j)) = false := by
  have : nth (livesI zs) i ∈ livesI zs := by rw [nth_get _ _ hi]; exact List.getElem_mem _
  obtain ⟨j, hj, h1, h2⟩ := mem_lives.1 this
  exact ⟨j, hj, h1.symm, h2⟩

set_option maxRecDepth 8000 in
set_option maxHeartbeats 1000000 in
theorem fault_good (A : Option Addr) (n c : Nat) (zs : List Int) (w : World) (ha : Arr .u64 w w.heap.size A n zs) (h : spErr zs = 0) :
    Calls Try.prog 38 #[.slice A n c] w fun e w' => e = .returned (.int .i64 (arErr zs)) ∧ Below w.heap.size w w' := by
  obtain ⟨h256, _⟩ := spErr_zero h
  have hl := ha.1
  have hbl := begins_len (zs := zs) (a := 0)
  have HIFF := Lib.hid (refsOk_iff ha.2.1 h256)
  have hll : (livesI zs).length ≤ 256 := by
    have := livesTo_len (zs := zs) (begins zs 0).length
    rw [livesTo_all] at this
    omega
  obtain ⟨m, hm⟩ : ∃ m, (livesI zs).length = m := ⟨_, rfl⟩
  rw [hm] at hll
  have HM := Lib.hid hm
  have HA := Lib.hid ha
  have H0 := Lib.hid h
  have HC := Lib.hid (SpotsOf_any A n c zs w (by unfold maxLen; omega) ha)
  clear h ha hm
  go_enter Try.func38, Try.ntmps38
  go_wp2_with fail
  refine HC.out.mono ?_
  rintro e w1 ⟨A2, c2, rfl, b1, _, _, _⟩
  rw [H0.out]
  have HB1 := Lib.hid b1
  clear b1 HC
  generalize (spList zs).length = m2 at *
  go_wp2_with fail
  refine (begins_any A n c zs w1 ((HA.out.below HB1.out (Nat.le_refl _)).more HB1.out.size) H0.out).mono ?_
  rintro e w2 ⟨A3, c3, rfl, b2, hA3⟩
  rw [HM.out] at hA3 ⊢
  have HB2 := Lib.hid (HB1.out.trans (b2.mono HB1.out.size))
  have HA3 := Lib.hid hA3
  clear b2 hA3
  go_wp2_with fail
  go_loopw [22] (fun i wr => ∃ k : Nat, k ≤ m ∧ i = .int .i64 k ∧ Hid (∀ j, j < (begins zs 0).length → vF (nth zs (st zs j)) = false → (∃ i, i < k ∧ nth (livesI zs) i = (st zs j : Int)) → ∀ x ∈ named zs (st zs j), x = -1 ∨ x ∈ livesI zs) ∧ Hid (Below w2.heap.size w2 wr)) (fun i _ => m - (intOf i).toNat)
  case atStart => exact ⟨0, by omega, rfl, (fun j _ _ ⟨i, hi, _⟩ => absurd hi (by omega)), Below.refl _ _⟩
  case round =>
    obtain ⟨k, hk, rfl, HP, hB⟩ := hrel
    by_cases hlt : k < m
    · obtain ⟨j, hj, hjk, hfj⟩ := nth_lives (zs := zs) (i := k) (by rw [HM.out]; exact hlt)
      obtain ⟨b, off, rfl, _, hcs⟩ := (HA3.out.below hB.out (Nat.le_refl _)).2.2 (by omega)
      have hc := hcs k hlt
      rw [hjk] at hc
      clear hcs
      have hBw := HB2.out.trans (hB.out.mono HB2.out.size)
      have HN := Lib.hid (named_any A n c j zs wr ((HA.out.below hBw (Nat.le_refl _)).more hBw.size) H0.out hj hfj)
      have HJ : Hid (j < (begins zs 0).length ∧ nth (livesI zs) k = (st zs j : Int) ∧ vF (nth zs (st zs j)) = false) := ⟨hj, hjk, hfj⟩
      have HBW := Lib.hid hBw
      have hnl : (named zs (st zs j)).length ≤ 256 := by unfold named refWords; simp; omega
      obtain ⟨L, hL⟩ : ∃ L, (named zs (st zs j)).length = L := ⟨_, rfl⟩
      rw [hL] at hnl HN
      have HL := Lib.hid hL
      clear hj hjk hfj hBw hL
      obtain ⟨s, hse⟩ : ∃ s, st zs j = s := ⟨_, rfl⟩
      have HSE := Lib.hid hse
      rw [hse] at hc HN HL
      clear hse
      go_wp2_with fail
      refine HN.out.mono ?_
      rintro e w4 ⟨A5, c5, rfl, b4, hA5, _⟩
      have HA5 := Lib.hid hA5
      have HA34 := Lib.hid ((HA3.out.below hB.out (Nat.le_refl _)).below b4 hB.out.size)
      have HB4 := Lib.hid (hB.out.trans (b4.mono hB.out.size))
      clear b4 hA5 HN hB hc
      go_wp2_with fail
      go_loopw [30] (fun i wx => ∃ k' : Nat, k' ≤ L ∧ i = .int .i64 k' ∧ Hid (∀ i, i < k' → nth (named zs s) i = -1 ∨ nth (named zs s) i ∈ livesI zs) ∧ w4 = wx) (fun i _ => L - (intOf i).toNat)
      case atStart => exact ⟨0, by omega, rfl, (fun i hi => absurd hi (by omega)), rfl⟩
      case round =>
        obtain ⟨k', hk', rfl, HQ, rfl⟩ := hrel
        by_cases hlt' : k' < L
        · obtain ⟨b6, o6, rfl, _, hcs⟩ := HA5.out.2.2 (by omega)
          have hc := hcs k' hlt'
          clear hcs
          obtain ⟨X, hX⟩ : ∃ X, nth (named zs s) k' = X := ⟨_, rfl⟩
          have HX := Lib.hid hX
          rw [hX] at hc
          clear hX
          by_cases hneg : X = -1
          · have hb : (X != -1) = false := by simp [hneg]
            have HQn : Hid (∀ i, i < k' + 1 → nth (named zs s) i = -1 ∨ nth (named zs s) i ∈ livesI zs) := fun i hi => by
              rcases Nat.lt_succ_iff_lt_or_eq.1 hi with h | h
              · exact HQ.out i h
              · rw [h, HX.out]; exact .inl hneg
            clear hneg HQ
            go_wp2
            go_roundw
            case rel => exact ⟨k' + 1, by omega, by go_num, HQn, by trivial⟩
            case measure => simp [intOf]; omega
          · have hb : (X != -1) = true := by simpa using hneg
            have HI := Lib.hid (in_ref (some ⟨b, off, none⟩) m c3 w2.heap.size X (livesI zs) w4 (by unfold maxLen; omega) HA34.out)
            by_cases hin : X ∈ livesI zs
            · have HQn : Hid (∀ i, i < k' + 1 → nth (named zs s) i = -1 ∨ nth (named zs s) i ∈ livesI zs) := fun i hi => by
                rcases Nat.lt_succ_iff_lt_or_eq.1 hi with h | h
                · exact HQ.out i h
                · rw [h, HX.out]; exact .inr hin
              rw [show decide (X ∈ livesI zs) = true by simpa using hin] at HI
              clear hneg HQ hin
              go_wp2_with fail
              refine HI.out.mono ?_
              rintro e w5 ⟨rfl, rfl⟩
              go_wp2
              go_roundw
              case rel => exact ⟨k' + 1, by omega, by go_num, HQn, by trivial⟩
              case measure => simp [intOf]; omega
            · rw [show decide (X ∈ livesI zs) = false by simpa using hin] at HI
              have HAR : Hid (arErr zs = 5) := Lib.hid (arErr_none H0.out (by
                cases hr : refsOk zs
                · rfl
                · have h1 := HIFF.out.1 hr s (by rw [← HSE.out]; exact st_mem HJ.out.1) (by rw [← HSE.out]; exact HJ.out.2.2) X (by rw [← HX.out, nth_get _ _ (by rw [HL.out]; exact hlt')]; exact List.getElem_mem _)
                  rcases h1 with h1 | h1
                  · exact absurd h1 hneg
                  · exact absurd h1 hin))
              have HB5 := Lib.hid (HB2.out.trans (HB4.out.mono HB2.out.size))
              clear hneg HQ hin
              go_wp2_with fail
              refine HI.out.mono ?_
              rintro e w5 ⟨rfl, rfl⟩
              go_wp2
              go_ret
              exact ⟨by rw [HAR.out]; rfl, HB5.out⟩
        · obtain rfl : k' = L := by omega
          have HPn : Hid (∀ j, j < (begins zs 0).length → vF (nth zs (st zs j)) = false → (∃ i, i < k + 1 ∧ nth (livesI zs) i = (st zs j : Int)) → ∀ x ∈ named zs (st zs j), x = -1 ∨ x ∈ livesI zs) := fun j' hj' hf' ⟨i, hi, he⟩ => by
            rcases Nat.lt_succ_iff_lt_or_eq.1 hi with h | h
            · exact HP.out j' hj' hf' ⟨i, h, he⟩
            · rw [h, HJ.out.2.1] at he
              have he' : st zs j = st zs j' := by omega
              rw [← he', HSE.out]
              intro x hx
              obtain ⟨i, hi, rfl⟩ := List.getElem_of_mem hx
              have := HQ.out i (by rw [← HL.out]; exact hi)
              rwa [nth_get _ _ hi] at this
          clear HQ HP
          go_wp2
          go_roundw
          case rel => exact ⟨k + 1, by omega, by go_num, HPn, HB4⟩
          case measure => simp [intOf]; omega
    · obtain rfl : k = m := by omega
      have HAR : Hid (arErr zs = 0) := Lib.hid (arErr_ok H0.out (HIFF.out.2 (fun s hs hf => by
        obtain ⟨j, hj, rfl⟩ := mem_begins hs
        refine HP.out j hj hf ?_
        have hin : (st zs j : Int) ∈ livesI zs := mem_lives.2 ⟨j, hj, rfl, hf⟩
        obtain ⟨i, hi, he⟩ := List.getElem_of_mem hin
        exact ⟨i, by rw [← HM.out]; exact hi, by rw [nth_get _ _ hi]; exact he⟩)))
      clear HP
      go_wp2
      go_ret
      exact ⟨by rw [HAR.out]; rfl, HB2.out.trans (hB.out.mono HB2.out.size)⟩

theorem ArenaFault_any (A : Option Addr) (n c : Nat) (zs : List Int) (w : World) (hn : n ≤ maxLen) (ha : Arr .u64 w w.heap.size A n zs) :
    Calls Try.prog 38 #[.slice A n c] w fun e w' => e = .returned (.int .i64 (arErr zs)) ∧ Below w.heap.size w w' := by
  by_cases h : spErr zs = 0
  · exact fault_good A n c zs w ha h
  · exact fault_bad A n c zs w hn ha h

theorem below_of_drewN {B : Nat} {a w : World} {n : Nat} (h : Below B (a.drewN n) w) : Below B a w := ⟨h.os, h.tape, h.output, h.size, h.block⟩
theorem Own.drewN {k : IntKind} {e : TypeId} {w : World} {base : Nat} {v : Value} {xs : List Int} (h : Own k e w base v xs) (q : Nat) : Own k e (w.drewN q) base v xs := h
theorem raw_info : (Try.prog.info? 41).map (fun i => (i.zero, i.size, i.bytes)) = some (some (.agg #[.int .i64 0, .slice none 0 0, .slice none 0 0, .bool false]), 4, 64) := by kernel_rfl
theorem nthG_snoc_old {α : Type} [Inhabited α] (l : List α) (a : α) {j : Nat} (h : j < l.length) : nthG (l ++ [a]) j = nthG l j := by
  rw [nthG_get _ _ (by simp; omega), nthG_get _ _ h, List.getElem_append_left h]
theorem nthG_snoc_new {α : Type} [Inhabited α] (l : List α) (a : α) : nthG (l ++ [a]) l.length = a := by
  rw [nthG_get _ _ (by simp)]; simp
end Go.Proofs.Ytjefbekdjgmmbaa
