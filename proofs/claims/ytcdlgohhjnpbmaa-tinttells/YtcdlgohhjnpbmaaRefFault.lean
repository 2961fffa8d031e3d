/-
  Contract of the reference's ArenaFault, for every argument.
-/
import Derived.Test.YtcdlgohhjnpbmaaRefHeadAt
namespace Go.Proofs.Ytcdlgohhjnpbmaa
open Go.RowKit

set_option maxHeartbeats 400000 in
theorem fault_bad (A : Option Addr) (n c : Nat) (zs : List Int) (w : World) (hn : n ≤ maxLen) (ha : Arr .u64 w w.heap.size A n zs) (h : spErr zs ≠ 0) :
    Calls Try.prog 62 #[.slice A n c] w fun e w' => e = .returned (.int .i64 (arErr zs)) ∧ Below w.heap.size w w' := by
  have he := arErr_sp h
  have hb : (spErr zs != 0) = true := by simpa using h
  have HE := Lib.hid he
  have HC := Lib.hid (SpotsOf_any A n c zs w hn ha)
  clear h he hn ha
  go_enter Try.func62, Try.ntmps62
  go_wp2_with fail
  refine HC.out.mono ?_
  rintro e w1 ⟨A2, c2, rfl, b1, hc2, hA2, _⟩
  have HB1 := Lib.hid b1
  clear b1 hA2 hc2 HC
  generalize (spList zs).length = m at *
  go_wp2
  go_ret
  exact ⟨by rw [HE.out]; rfl, HB1.out⟩

theorem nth_lives {zs : List Int} {i : Nat} (hi : i < (livesI zs).length) : ∃ j, j < (begins zs 0).length ∧ nth (livesI zs) i = (st zs j : Int) ∧ vF (nth zs (st zs j)) = false := by
  have : nth (livesI zs) i ∈ livesI zs := by rw [nth_get _ _ hi]; exact List.getElem_mem _
  obtain ⟨j, hj, h1, h2⟩ := mem_lives.1 this
  exact ⟨j, hj, h1.symm, h2⟩

set_option maxRecDepth 8000 in
set_option maxHeartbeats 1000000 in
theorem fault_good (A : Option Addr) (n c : Nat) (zs : List Int) (w : World) (ha : Arr .u64 w w.heap.size A n zs) (h : spErr zs = 0) :
    Calls Try.prog 62 #[.slice A n c] w fun e w' => e = .returned (.int .i64 (arErr zs)) ∧ Below w.heap.size w w' := by
  obtain ⟨h256, _⟩ := spErr_zero h
  have hl := ha.1
  have hbl := begins_len (zs := zs) (a := 0)
  have HIFF := Lib.hid (refsOk_iff ha.2.1 h256)
  have hll : (livesI zs).length ≤ 256 := by
    have := livesTo_len (zs := zs) (begins zs 0).length
    rw [livesTo_all] at this
    omega
  obtain ⟨m, hm⟩ : ∃ m, (livesI zs).length = m := ⟨_, rfl⟩
  rw [hm] at hll
  have HM := Lib.hid hm
  have HA := Lib.hid ha
  have H0 := Lib.hid h
  have HC := Lib.hid (SpotsOf_any A n c zs w (by unfold maxLen; omega) ha)
  clear h ha hm
  go_enter Try.func62, Try.ntmps62
  go_wp2_with fail
  refine HC.out.mono ?_
  rintro e w1 ⟨A2, c2, rfl, b1, _, _, _⟩
  rw [H0.out]
  have HB1 := Lib.hid b1
  clear b1 HC
  generalize (spList zs).length = m2 at *
  go_wp2_with fail
  refine (begins_any A n c zs w1 ((HA.out.below HB1.out (Nat.le_refl _)).more HB1.out.size) H0.out).mono ?_
  rintro e w2 ⟨A3, c3, rfl, b2, hA3⟩
  rw [HM.out] at hA3 ⊢
  have HB2 := Lib.hid (HB1.out.trans (b2.mono HB1.out.size))
  have HA3 := Lib.hid hA3
  clear b2 hA3
  go_wp2_with fail
  go_loopw [22] (fun i wr => ∃ k : Nat, k ≤ m ∧ i = .int .i64 k ∧ Hid (∀ j, j < (begins zs 0).length → vF (nth zs (st zs j)) = false → (∃ i, i < k ∧ nth (livesI zs) i = (st zs j : Int)) → ∀ x ∈ named zs (st zs j), x = -1 ∨ x ∈ livesI zs) ∧ Hid (Below w2.heap.size w2 wr)) (fun i _ => m - (intOf i).toNat)
  case atStart => exact ⟨0, by omega, rfl, (fun j _ _ ⟨i, hi, _⟩ => absurd hi (by omega)), Below.refl _ _⟩
  case round =>
    obtain ⟨k, hk, rfl, HP, hB⟩ := hrel
    by_cases hlt : k < m
    · obtain ⟨j, hj, hjk, hfj⟩ := nth_lives (zs := zs) (i := k) (by rw [HM.out]; exact hlt)
      obtain ⟨b, off, rfl, _, hcs⟩ := (HA3.out.below hB.out (Nat.le_refl _)).2.2 (by omega)
      have hc := hcs k hlt
      rw [hjk] at hc
      clear hcs
      have hBw := HB2.out.trans (hB.out.mono HB2.out.size)
      have HN := Lib.hid (named_any A n c j zs wr ((HA.out.below hBw (Nat.le_refl _)).more hBw.size) H0.out hj hfj)
      have HJ : Hid (j < (begins zs 0).length ∧ nth (livesI zs) k = (st zs j : Int) ∧ vF (nth zs (st zs j)) = false) := ⟨hj, hjk, hfj⟩
      have HBW := Lib.hid hBw
      have hnl : (named zs (st zs j)).length ≤ 256 := by unfold named refWords; simp; omega
      obtain ⟨L, hL⟩ : ∃ L, (named zs (st zs j)).length = L := ⟨_, rfl⟩
      rw [hL] at hnl HN
      have HL := Lib.hid hL
      clear hj hjk hfj hBw hL
      obtain ⟨s, hse⟩ : ∃ s, st zs j = s := ⟨_, rfl⟩
      have HSE := Lib.hid hse
      rw [hse] at hc HN HL
      clear hse
      go_wp2_with fail
      refine HN.out.mono ?_
      rintro e w4 ⟨A5, c5, rfl, b4, hA5, _⟩
      have HA5 := Lib.hid hA5
      have HA34 := Lib.hid ((HA3.out.below hB.out (Nat.le_refl _)).below b4 hB.out.size)
      have HB4 := Lib.hid (hB.out.trans (b4.mono hB.out.size))
      clear b4 hA5 HN hB hc
      go_wp2_with fail
      go_loopw [30] (fun i wx => ∃ k' : Nat, k' ≤ L ∧ i = .int .i64 k' ∧ Hid (∀ i, i < k' → nth (named zs s) i = -1 ∨ nth (named zs s) i ∈ livesI zs) ∧ w4 = wx) (fun i _ => L - (intOf i).toNat)
      case atStart => exact ⟨0, by omega, rfl, (fun i hi => absurd hi (by omega)), rfl⟩
      case round =>
        obtain ⟨k', hk', rfl, HQ, rfl⟩ := hrel
        by_cases hlt' : k' < L
        · obtain ⟨b6, o6, rfl, _, hcs⟩ := HA5.out.2.2 (by omega)
          have hc := hcs k' hlt'
          clear hcs
          obtain ⟨X, hX⟩ : ∃ X, nth (named zs s) k' = X := ⟨_, rfl⟩
          have HX := Lib.hid hX
          rw [hX] at hc
          clear hX
          by_cases hneg : X = -1
          · have hb : (X != -1) = false := by simp [hneg]
            have HQn : Hid (∀ i, i < k' + 1 → nth (named zs s) i = -1 ∨ nth (named zs s) i ∈ livesI zs) := fun i hi => by
              rcases Nat.lt_succ_iff_lt_or_eq.1 hi with h | h
              · exact HQ.out i h
              · rw [h, HX.out]; exact .inl hneg
            clear hneg HQ
            go_wp2
            go_roundw
            case rel => exact ⟨k' + 1, by omega, by go_num, HQn, by trivial⟩
            case measure => simp [intOf]; omega
          · have hb : (X != -1) = true := by simpa using hneg
            have HI := Lib.hid (in_ref (some ⟨b, off, none⟩) m c3 w2.heap.size X (livesI zs) w4 (by unfold maxLen; omega) HA34.out)
            by_cases hin : X ∈ livesI zs
            · have HQn : Hid (∀ i, i < k' + 1 → nth (named zs s) i = -1 ∨ nth (named zs s) i ∈ livesI zs) := fun i hi => by
                rcases Nat.lt_succ_iff_lt_or_eq.1 hi with h | h
                · exact HQ.out i h
                · rw [h, HX.out]; exact .inr hin
              rw [show decide (X ∈ livesI zs) = true by simpa using hin] at HI
              clear hneg HQ hin
              go_wp2_with fail
              refine HI.out.mono ?_
              rintro e w5 ⟨rfl, rfl⟩
              go_wp2
              go_roundw
              case rel => exact ⟨k' + 1, by omega, by go_num, HQn, by trivial⟩
              case measure => simp [intOf]; omega
            · rw [show decide (X ∈ livesI zs) = false by simpa using hin] at HI
              have HAR : Hid (arErr zs = 5) := Lib.hid (arErr_none H0.out (by
                cases hr : refsOk zs
                · rfl
                · have h1 := HIFF.out.1 hr s (by rw [← HSE.out]; exact st_mem HJ.out.1) (by rw [← HSE.out]; exact HJ.out.2.2) X (by rw [← HX.out, nth_get _ _ (by rw [HL.out]; exact hlt')]; exact List.getElem_mem _)
                  rcases h1 with h1 | h1
                  · exact absurd h1 hneg
                  · exact absurd h1 hin))
              have HB5 := Lib.hid (HB2.out.trans (HB4.out.mono HB2.out.size))
              clear hneg HQ hin
              go_wp2_with fail
              refine HI.out.mono ?_
              rintro e w5 ⟨rfl, rfl⟩
              go_wp2
              go_ret
              exact ⟨by rw [HAR.out]; rfl, HB5.out⟩
        · obtain rfl : k' = L := by omega
          have HPn : Hid (∀ j, j < (begins zs 0).length → vF (nth zs (st zs j)) = false → (∃ i, i < k + 1 ∧ nth (livesI zs) i = (st zs j : Int)) → ∀ x ∈ named zs (st zs j), x = -1 ∨ x ∈ livesI zs) := fun j' hj' hf' ⟨i, hi, he⟩ => by
            rcases Nat.lt_succ_iff_lt_or_eq.1 hi with h | h
            · exact HP.out j' hj' hf' ⟨i, h, he⟩
            · rw [h, HJ.out.2.1] at he
              have he' : st zs j = st zs j' := by omega
              rw [← he', HSE.out]
              intro x hx
              obtain ⟨i, hi, rfl⟩ := List.getElem_of_mem hx
              have := HQ.out i (by rw [← HL.out]; exact hi)
              rwa [nth_get _ _ hi] at this
          clear HQ HP
          go_wp2
          go_roundw
          case rel => exact ⟨k + 1, by omega, by go_num, HPn, HB4⟩
          case measure => simp [intOf]; omega
    · obtain rfl : k = m := by omega
      have HAR : Hid (arErr zs = 0) := Lib.hid (arErr_ok H0.out (HIFF.out.2 (fun s hs hf => by
        obtain ⟨j, hj, rfl⟩ := mem_begins hs
        refine HP.out j hj hf ?_
        have hin : (st zs j : Int) ∈ livesI zs := mem_lives.2 ⟨j, hj, rfl, hf⟩
        obtain ⟨i, hi, he⟩ := List.getElem_of_mem hin
        exact ⟨i, by rw [← HM.out]; exact hi, by rw [nth_get _ _ hi]; exact he⟩)))
      clear HP
      go_wp2
      go_ret
      exact ⟨by rw [HAR.out]; rfl, HB2.out.trans (hB.out.mono HB2.out.size)⟩

theorem ArenaFault_any (A : Option Addr) (n c : Nat) (zs : List Int) (w : World) (hn : n ≤ maxLen) (ha : Arr .u64 w w.heap.size A n zs) :
    Calls Try.prog 62 #[.slice A n c] w fun e w' => e = .returned (.int .i64 (arErr zs)) ∧ Below w.heap.size w w' := by
  by_cases h : spErr zs = 0
  · exact fault_good A n c zs w ha h
  · exact fault_bad A n c zs w hn ha h
end Go.Proofs.Ytcdlgohhjnpbmaa
