/-
  The walk of WalkTells (the good arena): whatever the arguments and the memory, the call returns true and changes nothing that was there.
-/
import Derived.Test.YtkhiofnihgichaaTellsWalk4
import Derived.Test.YtkhiofnihgichaaRefFault
import Derived.Test.YtkhiofnihgichaaRefObjects
import Derived.IntWalk
import Derived.Deep.RegionHeld3
import Derived.Test.YtkhiofnihgichaaRefSameObj
import Derived.Test.YtkhiofnihgichaaCutG
namespace Go.Proofs.Ytkhiofnihgichaa
open Go.RowKit

theorem obj_size : (Try.prog.info? 32).map (·.size) = some 4 := by kernel_rfl

set_option maxRecDepth 8000 in
set_option maxHeartbeats 4000000 in
theorem tells_good (A : Option Addr) (n c : Nat) (a : Int) (zs : List Int) (w : World) (hn : n ≤ maxLen) (hnc : n ≤ c) (ha : Arr .u64 w w.heap.size A n zs) (h0 : spErr zs = 0) (h1 : arErr zs = 0) :
    Calls Try.prog 3 #[.slice A n c, .int .i64 a] w fun e w' => e = .returned (.bool true) ∧ Below w.heap.size w w' := by
  obtain ⟨h256, _⟩ := spErr_zero h0
  have hl := ha.1
  have hL := spList_ok h0
  have hbl := begins_len (zs := zs) (a := 0)
  have hlen : (spList zs).length = (begins zs 0).length := by rw [hL]; simp
  obtain ⟨m, hm⟩ : ∃ m, (begins zs 0).length = m := ⟨_, rfl⟩
  rw [hm] at hlen hbl
  have hspot : ∀ k, k < m → nthG (spList zs) k = spOf zs (st zs k) := fun k hk => by rw [hL, nthG_map _ _ _ (by omega)]; rfl
  have HS := Lib.hid hspot
  have HLN := Lib.hid hlen
  have HM := Lib.hid hm
  clear hlen hm hspot hL
  have HN := Lib.hid hn
  have HA := Lib.hid ha
  have HSP := Lib.hid h0
  have HAR := Lib.hid h1
  clear ha hn h0 h1
  go_enter Try.func3, Try.ntmps3
  go_wp2_with fail
  refine (Spots_any A n c zs w HN.out HA.out).mono ?_
  rintro e w1 ⟨A1, c1, rfl, b1, hc1, hA1, _⟩
  rw [HLN.out] at hA1 ⊢
  rw [HSP.out]
  have HB1 := Lib.hid b1
  have H1 := Lib.hid hA1
  clear b1 hA1 hc1
  go_wp2_with fail
  refine (Objects_any A n c zs w1 HN.out hnc ((HA.out.below HB1.out (Nat.le_refl _)).more HB1.out.size)).mono ?_
  rintro e w2 ⟨A2, k2, c2, rfl, b2, hc2, h2⟩
  have HB2 := Lib.hid (HB1.out.trans (b2.mono HB1.out.size))
  have HB12 := Lib.hid b2
  have H2 := Lib.hid h2
  have HC2 := Lib.hid hc2
  clear b2 h2 hc2
  go_wp2_with fail
  refine (At_any A n c a zs w2 HN.out hnc ((HA.out.below HB2.out (Nat.le_refl _)).more HB2.out.size)).mono ?_
  rintro e w3 ⟨b3, h3⟩
  have HB3 := Lib.hid (HB2.out.trans (b3.mono HB2.out.size))
  have HB23 := Lib.hid b3
  clear b3
  obtain ⟨r, g, rfl, HF⟩ : ∃ r g, e = .returned (.tuple #[rawV r, .int .i64 g]) ∧ Hid ((g = 0 ∧ ∃ j, j < m ∧ a = st zs j ∧ ObV w3 w2.heap.size w3.heap.size r (obOf zs (st zs j))) ∨ (g = 5 ∧ r = zeroRaw ∧ ∀ j, j < m → a ≠ st zs j)) := by
    rcases h3 with h3 | ⟨_, j, hj, haj, r, he, hV⟩ | ⟨_, hno, he⟩
    · exact absurd HAR.out h3.1
    · exact ⟨r, 0, he, Lib.hid (.inl ⟨rfl, j, by rw [← HM.out]; exact hj, haj, hV⟩)⟩
    · exact ⟨zeroRaw, 5, he, Lib.hid (.inr ⟨rfl, rfl, by rw [← HM.out]; exact hno⟩)⟩
  obtain ⟨raws, hA2, hO2⟩ : ∃ raws, ArrG rawC 4 w2 w2.heap.size A2 k2 raws ∧ ∀ j, j < k2 → ObV w2 w1.heap.size w2.heap.size (nthG raws j) (obOf zs (st zs j)) := by
    rcases H2.out with h2 | h2
    · exact absurd HAR.out h2.1
    · exact h2.2.2
  obtain rfl : k2 = m := by
    rcases H2.out with h2 | h2
    · exact absurd HAR.out h2.1
    · exact h2.2.1.trans HM.out
  rw [HAR.out]
  have HA2 := Lib.hid hA2
  have HO2 := Lib.hid hO2
  clear h3 H2 hA2 hO2
  unfold rawV
  have b4 := HB3.out.alloc HB3.out.size (.cells #[.int .i64 r.t, .slice r.ra r.rn r.rc, .slice r.ba r.bn r.bc, .bool r.f] 32)
  have HC4 := Lib.hid (SpotsOf_any A n c zs _ HN.out ((HA.out.below b4 (Nat.le_refl _)).more b4.size))
  clear b4
  go_wp2_with fail
  refine HC4.out.mono ?_
  rintro e w4 ⟨A4, c4, rfl, b4, hc4, hA4, _⟩
  rw [HLN.out] at hA4 ⊢
  rw [HSP.out]
  obtain ⟨bx4, b4⟩ := boxed_call b4
  have HB4 := Lib.hid (HB3.out.trans (b4.mono HB3.out.size))
  have HB34 := Lib.hid b4
  have BX4 := Lib.hid bx4
  have H4 := Lib.hid hA4
  clear b4 bx4 hA4 hc4 HC4
  have l12 := HB12.out.size
  have l23 := HB23.out.size
  have l34 := HB34.out.size
  have HEQ := Lib.hid (sameSpots A1 A4 k2 c1 c4 w4.heap.size (spList zs) w4 (by unfold maxLen; omega) (((((H1.out.below HB12.out (Nat.le_refl _)).below HB23.out (by omega)).below HB34.out (by omega))).more (by omega)) H4.out)
  go_wp2_with fail
  refine HEQ.out.mono ?_
  rintro e w5 ⟨rfl, q5, rfl⟩
  go_wp2_with fail
  obtain ⟨W4, hW4⟩ : ∃ W, W = w4.drewN q5 := ⟨_, rfl⟩
  rw [← hW4]
  have HW4 : Hid (Below w.heap.size w W4) := by rw [hW4]; exact below_drewN HB4.out q5
  have BXW : Hid (Box W4 w3.heap.size 32 #[.int .i64 r.t, .slice r.ra r.rn r.rc, .slice r.ba r.bn r.bc, .bool r.f]) := by rw [hW4]; exact BX4
  have H4W : Hid (ArrG spotC 5 W4 W4.heap.size A4 k2 (spList zs)) := by rw [hW4]; exact H4
  have HB3W : Hid (Below w3.heap.size w3 W4) := by rw [hW4]; exact below_drewN HB34.out q5
  clear hW4 l34
  refine (ArenaFault_any A n c zs W4 HN.out ((HA.out.below HW4.out (Nat.le_refl _)).more HW4.out.size)).mono ?_
  rintro e w5 ⟨rfl, b5⟩
  rw [HAR.out]
  have HB5 := Lib.hid (HW4.out.trans (b5.mono HW4.out.size))
  have HB45 := Lib.hid b5
  clear b5
  go_wp2_with fail
  refine (Check_any A n c zs w5 HN.out hnc ((HA.out.below HB5.out (Nat.le_refl _)).more HB5.out.size)).mono ?_
  rintro e w6 ⟨rfl, b6⟩
  rw [HAR.out]
  have HB6 := Lib.hid (HB5.out.trans (b6.mono HB5.out.size))
  have b46 := HB45.out.trans (b6.mono HB45.out.size)
  have HB46 := Lib.hid b46
  have b7 := (Below.refl _ w6).alloc (Nat.le_refl _) (.cells #[.int .i64 0, .slice none 0 0, .slice none 0 0, .bool false] 32)
  have b67 := HB6.out.alloc HB6.out.size (.cells #[.int .i64 0, .slice none 0 0, .slice none 0 0, .bool false] 32)
  have HC8 := Lib.hid (objectsOf_any A n c zs _ ((HA.out.below b67 (Nat.le_refl _)).more b67.size) HAR.out)
  have n7 := (one_raw w6 32 zeroRaw)
  unfold zeroRaw at n7
  simp only at n7
  have HN7 := Lib.hid n7
  have HB67 := Lib.hid b67
  have HB7 := Lib.hid b7
  rw [HM.out] at HC8
  clear b6 b46 b7 b67 n7
  go_wp2_with fail
  refine HC8.out.mono ?_
  rintro e w8 ⟨A8, c8, raws8, rfl, hc8, b8, hA8, hO8⟩
  have HB8 := Lib.hid (HB67.out.trans (b8.mono HB67.out.size))
  have hb38 : Below w3.heap.size w3 w8 := (HB3W.out.trans ((HB46.out.trans ((HB7.out.trans (b8.mono HB7.out.size)).mono HB46.out.size)).mono HB3W.out.size))
  have HB48 := Lib.hid (HB46.out.trans ((HB7.out.trans (b8.mono HB7.out.size)).mono HB46.out.size))
  have HB38 := Lib.hid hb38
  have hb28 : Below w2.heap.size w2 w8 := HB23.out.trans (hb38.mono HB23.out.size)
  have z7 : (w6.alloc (.cells #[.int .i64 0, .slice none 0 0, .slice none 0 0, .bool false] 32)).heap.size = w6.heap.size + 1 := by simp
  rw [z7] at b8
  have HN8 := Lib.hid ((HN7.out.below b8 (Nat.le_refl _)))
  have HA8 := Lib.hid hA8
  have HO8 := Lib.hid hO8
  have HC8' := Lib.hid hc8
  have l8 := b8.size
  rw [z7] at l8
  have HL8 := Lib.hid l8
  have HSO := Lib.hid (sameObjects_any A2 A8 k2 c2 c8 w8.heap.size w1.heap.size (w6.alloc (.cells #[.int .i64 0, .slice none 0 0, .slice none 0 0, .bool false] 32)).heap.size raws raws8 (fun j => obOf zs (st zs j)) w8 (by unfold maxLen; omega) (Nat.le_refl _) ((HA2.out.below hb28 (Nat.le_refl _)).more hb28.size) hA8
    (fun j hj => ((HO2.out j hj).below hb28 (Nat.le_refl _)).more hb28.size) hO8 (fun j hj => obOf_small (HO2.out j hj) h256))
  clear b8 hA8 hO8 hc8 hb38 hb28 z7 l8 HC8
  go_wp2_with fail
  refine HSO.out.mono ?_
  rintro e w9 ⟨rfl, b9⟩
  have HB9 := Lib.hid b9
  clear b9 HSO
  go_wp2_with fail
  go_loopw [101] (fun i wr => ∃ k : Nat, k ≤ k2 ∧ i = .int .i64 k ∧ Hid (∀ j, j < k → a ≠ st zs j) ∧ Hid (Below w8.heap.size w8 wr)) (fun i _ => k2 - (intOf i).toNat)
  case atStart => exact ⟨0, by omega, rfl, (fun j hj => absurd hj (by omega)), HB9⟩
  case round =>
    obtain ⟨k, hk, rfl, HP, hB⟩ := hrel
    by_cases hlt : k < k2
    · have hs := HS.out k hlt
      have hb4 := HB48.out.trans (hB.out.mono HB48.out.size)
      obtain ⟨b, off, rfl, _, q0, q1, q2, q3, q4⟩ := (H4W.out.below hb4 (Nat.le_refl _)).spot hlt
      rw [hs] at q0 q1 q2 q3 q4
      unfold spOf at q0 q1 q2 q3 q4
      simp only at q0 q1 q2 q3 q4
      have HBr := Lib.hid (hB.out.alloc hB.out.size (.cells #[.int .i64 (st zs k), .int .i64 (vR (nth zs (st zs k))), .int .i64 (vB (nth zs (st zs k))), .int .i64 (vT (nth zs (st zs k))), .bool (vF (nth zs (st zs k)))] 39))
      have bxr := BXW.out.below hb4 BXW.out.lt
      have bxr2 := bxr.alloc (.cells #[.int .i64 (st zs k), .int .i64 (vR (nth zs (st zs k))), .int .i64 (vB (nth zs (st zs k))), .int .i64 (vT (nth zs (st zs k))), .bool (vF (nth zs (st zs k)))] 39)
      have BXR := Lib.hid bxr2
      clear hs bxr bxr2 hb4 hB
      by_cases heq : (st zs k : Int) = a
      · have hbq : ((st zs k : Int) == a) = true := by simpa using heq
        obtain ⟨rfl, hV⟩ : g = 0 ∧ ObV w3 w2.heap.size w3.heap.size r (obOf zs (st zs k)) := by
          rcases HF.out with ⟨h1, j, _, hj, h2⟩ | ⟨_, _, h2⟩
          · have : st zs j = st zs k := by omega
            rw [this] at h2
            exact ⟨h1, h2⟩
          · exact absurd heq.symm (h2 k hlt)
        have HV := Lib.hid hV
        clear heq hV HF
        obtain ⟨s, hse⟩ : ∃ s, st zs k = s := ⟨_, rfl⟩
        have HSE := Lib.hid hse
        rw [hse] at q0 q1 q2 q3 q4 HBr BXR hbq HV
        clear hse
        generalize vR (nth zs s) = R at *
        generalize vB (nth zs s) = Bd at *
        generalize vT (nth zs s) = T at *
        generalize vF (nth zs s) = F at *
        go_wp2_with fail
        obtain ⟨W, hW⟩ : ∃ W, W = wr.alloc (.cells #[.int .i64 s, .int .i64 R, .int .i64 Bd, .int .i64 T, .bool F] 39) := ⟨_, rfl⟩
        rw [← hW] at HBr BXR ⊢
        clear hW
        have p0 : W.cell? ⟨w3.heap.size, 0, none⟩ = some (.int .i64 r.t) := BXR.out.cell 0
        have p1 : W.cell? ⟨w3.heap.size, 1, none⟩ = some (.slice r.ra r.rn r.rc) := BXR.out.cell 1
        have p2 : W.cell? ⟨w3.heap.size, 2, none⟩ = some (.slice r.ba r.bn r.bc) := BXR.out.cell 2
        have p3 : W.cell? ⟨w3.heap.size, 3, none⟩ = some (.bool r.f) := BXR.out.cell 3
        obtain ⟨D, hD, hD2⟩ := run_cutG (P := Try.prog) (sz := 4) Try.underlying27 obj_size A8 k2 c8 k ((k : Int) + 1) k 1 rfl rfl (by have := HC8'.out; omega)
        have a10 := (Below.refl _ W).alloc (Nat.le_refl _) (.cells #[.int .i64 r.t, .slice r.ra r.rn r.rc, .slice r.ba r.bn r.bc, .bool r.f] 32)
        have h3W : Below w3.heap.size w3 (W.alloc (.cells #[.int .i64 r.t, .slice r.ra r.rn r.rc, .slice r.ba r.bn r.bc, .bool r.f] 32)) := (HB38.out.trans (HBr.out.mono HB38.out.size)).trans (a10.mono (Nat.le_trans HB38.out.size HBr.out.size))
        have h8W : Below w8.heap.size w8 (W.alloc (.cells #[.int .i64 r.t, .slice r.ra r.rn r.rc, .slice r.ba r.bn r.bc, .bool r.f] 32)) := HBr.out.trans (a10.mono HBr.out.size)
        have zW : (W.alloc (.cells #[.int .i64 r.t, .slice r.ra r.rn r.rc, .slice r.ba r.bn r.bc, .bool r.f] 32)).heap.size = W.heap.size + 1 := by simp
        have l3W := h3W.size
        have l8W := h8W.size
        rw [zW] at l3W l8W
        have hcut := (HA8.out.below h8W (Nat.le_refl _)).cut (p := k) (q := 1) (by omega) hD2
        have hnk : nthG ((raws8.drop k).take 1) 0 = nthG raws8 k := by
          have := HA8.out.1
          rw [nthG_get _ _ (by simp; omega), nthG_get _ _ (by omega)]
          simp
        have HSO := Lib.hid (sameObjects_any (some ⟨W.heap.size, 0, none⟩) D 1 1 (c8 - k) (W.heap.size + 1) 0 0 [r] ((raws8.drop k).take 1) (fun _ => obOf zs s) ((W.alloc (.cells #[.int .i64 r.t, .slice r.ra r.rn r.rc, .slice r.ba r.bn r.bc, .bool r.f] 32)).drew) (by unfold maxLen; omega) (by show W.heap.size + 1 ≤ (W.alloc (.cells #[.int .i64 r.t, .slice r.ra r.rn r.rc, .slice r.ba r.bn r.bc, .bool r.f] 32)).heap.size; rw [zW]; omega) ((one_raw W 32 r).drewN 1) ((hcut.more (by omega)).drewN 1)
          (fun j hj => by rw [show j = 0 by omega]; exact (((HV.out.below h3W (Nat.le_refl _)).more (by omega)).less (Nat.zero_le _)).drewN 1)
          (fun j hj => by
            rw [show j = 0 by omega, hnk]
            have := (((HO8.out k hlt).below h8W (Nat.le_refl _)).more (hi' := W.heap.size + 1) (by omega)).less (Nat.zero_le _)
            rw [HSE.out] at this
            exact this.drewN 1)
          (fun j hj => by rw [show j = 0 by omega]; exact obOf_small HV.out h256))
        have HBW := Lib.hid (HB8.out.trans (HBr.out.mono HB8.out.size))
        have lW : w3.heap.size < W.heap.size := BXR.out.lt
        have g1 : IntKind.i64.wrap ((k : Int) + 1) = k + 1 := IntWalk.i64_in _ (by omega)
        have HB10 := Lib.hid a10
        clear hcut hnk a10 h3W h8W l3W l8W hD2 zW q0 q1 q2 q3 q4
        obtain ⟨t1, ra1, rn1, rc1, ba1, bn1, bc1, f1⟩ := r
        simp only at p0 p1 p2 p3 HSO HB10 ⊢
        go_region_held3 (fun w' => w'.cell? ⟨w3.heap.size, 0, none⟩ = some (.int .i64 t1) ∧ w'.cell? ⟨w3.heap.size, 1, none⟩ = some (.slice ra1 rn1 rc1) ∧ w'.cell? ⟨w3.heap.size, 2, none⟩ = some (.slice ba1 bn1 bc1) ∧ w'.cell? ⟨w3.heap.size, 3, none⟩ = some (.bool f1))
          (first
            | go_keep
            | exact ⟨(HB10.out.cell (p := ⟨w3.heap.size, 0, none⟩) lW).trans p0, (HB10.out.cell (p := ⟨w3.heap.size, 1, none⟩) lW).trans p1, (HB10.out.cell (p := ⟨w3.heap.size, 2, none⟩) lW).trans p2, (HB10.out.cell (p := ⟨w3.heap.size, 3, none⟩) lW).trans p3⟩
            | exact ⟨(B11.out.cell (p := ⟨w3.heap.size, 0, none⟩) (by simp; omega)).trans ((HB10.out.cell (p := ⟨w3.heap.size, 0, none⟩) lW).trans p0), (B11.out.cell (p := ⟨w3.heap.size, 1, none⟩) (by simp; omega)).trans ((HB10.out.cell (p := ⟨w3.heap.size, 1, none⟩) lW).trans p1), (B11.out.cell (p := ⟨w3.heap.size, 2, none⟩) (by simp; omega)).trans ((HB10.out.cell (p := ⟨w3.heap.size, 2, none⟩) lW).trans p2), (B11.out.cell (p := ⟨w3.heap.size, 3, none⟩) (by simp; omega)).trans ((HB10.out.cell (p := ⟨w3.heap.size, 3, none⟩) lW).trans p3)⟩)
          (first
            | (go_at_call 15; refine HSO.out.mono ?_; rintro e w11 ⟨rfl, b11⟩; have B11 := Lib.hid (below_of_drew b11); clear b11))
        all_goals go_wp2
        all_goals go_ret
        all_goals exact ⟨rfl, (HBW.out.trans (HB10.out.mono HBW.out.size)).trans (B11.out.mono (Nat.le_trans HBW.out.size HB10.out.size))⟩
      · have hbq : ((st zs k : Int) == a) = false := by simpa using heq
        have HPn : Hid (∀ j, j < k + 1 → a ≠ st zs j) := fun j hj => by
          rcases Nat.lt_succ_iff_lt_or_eq.1 hj with h | h
          · exact HP.out j h
          · rw [h]; exact fun e => heq e.symm
        clear heq HP
        generalize vR (nth zs (st zs k)) = R at *
        generalize vB (nth zs (st zs k)) = Bd at *
        generalize vT (nth zs (st zs k)) = T at *
        generalize vF (nth zs (st zs k)) = F at *
        generalize st zs k = s at q0 hbq HBr
        go_wp2
        go_roundw
        case rel => exact ⟨k + 1, by omega, by go_num, HPn, HBr⟩
        case measure => simp [intOf]; omega
    · obtain rfl : k = k2 := by omega
      obtain ⟨rfl, rfl⟩ : g = 5 ∧ r = zeroRaw := by
        rcases HF.out with ⟨_, j, hj, h1, _⟩ | ⟨h1, h2, _⟩
        · exact absurd h1 (HP.out j hj)
        · exact ⟨h1, h2⟩
      unfold zeroRaw
      have hb4 := HB48.out.trans (hB.out.mono HB48.out.size)
      have bxr := BXW.out.below hb4 BXW.out.lt
      have p0 : wr.cell? ⟨w3.heap.size, 0, none⟩ = some (.int .i64 0) := bxr.cell 0
      have p1 : wr.cell? ⟨w3.heap.size, 1, none⟩ = some (.slice none 0 0) := bxr.cell 1
      have p2 : wr.cell? ⟨w3.heap.size, 2, none⟩ = some (.slice none 0 0) := bxr.cell 2
      have p3 : wr.cell? ⟨w3.heap.size, 3, none⟩ = some (.bool false) := bxr.cell 3
      have a10 := (Below.refl _ wr).alloc (Nat.le_refl _) (.cells #[.int .i64 0, .slice none 0 0, .slice none 0 0, .bool false] 32)
      have n8 := one_raw wr 32 zeroRaw
      unfold zeroRaw at n8
      simp only at n8
      have l8 := hB.out.size
      have HSO := Lib.hid (sameObjects_any (some ⟨wr.heap.size, 0, none⟩) (some ⟨w6.heap.size, 0, none⟩) 1 1 1 (wr.heap.size + 1) 0 0 _ _ (fun _ => (0, [], [], false)) (wr.alloc (.cells #[.int .i64 0, .slice none 0 0, .slice none 0 0, .bool false] 32)) (by unfold maxLen; omega) (by simp) n8 ((((HN8.out.below hB.out HL8.out).below a10 (by have := HL8.out; omega)).more (by have := HL8.out; omega)))
        (fun j hj => by rw [show j = 0 by omega]; exact zero_obv _ _ _) (fun j hj => by rw [show j = 0 by omega]; exact zero_obv _ _ _) (fun j hj => by rw [show j = 0 by omega]; exact ⟨Nat.zero_le _, Nat.zero_le _⟩))
      have HBW := Lib.hid ((HB8.out.trans (hB.out.mono HB8.out.size)).alloc (Nat.le_trans HB8.out.size hB.out.size) (.cells #[.int .i64 0, .slice none 0 0, .slice none 0 0, .bool false] 32))
      clear hb4 bxr a10 n8 l8
      go_wp2_with fail
      refine HSO.out.mono ?_
      rintro e w11 ⟨rfl, b11⟩
      have HB11 := Lib.hid (HBW.out.trans (b11.mono HBW.out.size))
      clear b11
      go_wp2
      go_ret
      exact ⟨rfl, HB11.out⟩

theorem walkTells_walk (A : Option Addr) (n c : Nat) (a : Int) (zs : List Int) (w : World) (hn : n ≤ maxLen) (hnc : n ≤ c) (ha : Arr .u64 w w.heap.size A n zs) :
    Calls Try.prog 3 #[.slice A n c, .int .i64 a] w fun e w' => e = .returned (.bool true) ∧ Below w.heap.size w w' := by
  by_cases h0 : spErr zs = 0
  · by_cases h1 : arErr zs = 0
    · exact tells_good A n c a zs w hn hnc ha h0 h1
    · exact tells_bad2 A n c a zs w hn hnc ha h0 h1
  · exact tells_bad1 A n c a zs w hn hnc ha h0 (by rw [arErr_sp h0]; exact h0)
end Go.Proofs.Ytkhiofnihgichaa
