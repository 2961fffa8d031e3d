/-
  The walk of WalkTells: whatever the arguments and the memory, the call returns true and changes nothing that was there.
-/
import Derived.Test.YtkhiofnihgichaaAt
import Derived.Test.YtkhiofnihgichaaRefFault
import Derived.Test.YtkhiofnihgichaaRefSameObj
import Derived.Test.YtkhiofnihgichaaCutG
namespace Go.Proofs.Ytkhiofnihgichaa
open Go.RowKit

theorem obOf_small {w : World} {lo hi s : Nat} {r : Raw} {zs : List Int} (h : ObV w lo hi r (obOf zs s)) (hl : zs.length ≤ 256) : r.rn ≤ maxLen ∧ r.bn ≤ maxLen := by
  have h1 := h.refs.1
  have h2 := h.body.1
  have h3 : (refWords zs s).length ≤ zs.length := by unfold refWords; simp; omega
  have h4 : (bodyWords zs s).length ≤ zs.length := by unfold bodyWords; simp; omega
  unfold obOf at h1 h2
  simp only [List.length_map] at h1 h2
  unfold maxLen
  omega

set_option maxRecDepth 8000 in
set_option maxHeartbeats 4000000 in
theorem tells_bad1 (A : Option Addr) (n c : Nat) (a : Int) (zs : List Int) (w : World) (hn : n ≤ maxLen) (hnc : n ≤ c) (ha : Arr .u64 w w.heap.size A n zs) (h0 : spErr zs ≠ 0) (h1 : arErr zs ≠ 0) :
    Calls Try.prog 3 #[.slice A n c, .int .i64 a] w fun e w' => e = .returned (.bool true) ∧ Below w.heap.size w w' := by
  have hl0 := spList_bad h0
  have HL0 := Lib.hid hl0
  have hsb : (spErr zs == 0) = false := by simpa using h0
  have hsc : (spErr zs != 0) = true := by simpa using h0
  have hsd : (spErr zs != spErr zs) = false := by simp
  clear hl0
  have HN := Lib.hid hn
  have HA := Lib.hid ha
  have HSP := Lib.hid h0
  have HAR := Lib.hid h1
  clear ha hn h0 h1
  go_enter Try.func3, Try.ntmps3
  go_wp2_with fail
  refine (Spots_any A n c zs w HN.out HA.out).mono ?_
  rintro e w1 ⟨A1, c1, rfl, b1, hc1, hA1, _⟩
  rw [HL0.out] at hA1 ⊢
  have HB1 := Lib.hid b1
  have H1 := Lib.hid hA1
  clear b1 hA1 hc1
  go_wp2_with fail
  refine (Objects_any A n c zs w1 HN.out hnc ((HA.out.below HB1.out (Nat.le_refl _)).more HB1.out.size)).mono ?_
  rintro e w2 ⟨A2, k2, c2, rfl, b2, hc2, h2⟩
  have HB2 := Lib.hid (HB1.out.trans (b2.mono HB1.out.size))
  have HB12 := Lib.hid b2
  have H2 := Lib.hid h2
  have HC2 := Lib.hid hc2
  clear b2 h2 hc2
  go_wp2_with fail
  refine (At_any A n c a zs w2 HN.out hnc ((HA.out.below HB2.out (Nat.le_refl _)).more HB2.out.size)).mono ?_
  rintro e w3 ⟨b3, h3⟩
  have HB3 := Lib.hid (HB2.out.trans (b3.mono HB2.out.size))
  have HB23 := Lib.hid b3
  clear b3
  obtain ⟨_, rfl⟩ : arErr zs ≠ 0 ∧ e = .returned (.tuple #[rawV zeroRaw, .int .i64 (arErr zs)]) := by
    rcases h3 with h3 | h3 | h3
    · exact h3
    · exact absurd h3.1 HAR.out
    · exact absurd h3.1 HAR.out
  obtain ⟨_, rfl⟩ : arErr zs ≠ 0 ∧ k2 = 0 := by
    rcases H2.out with h2 | h2
    · exact h2
    · exact absurd h2.1 HAR.out
  clear h3 H2
  unfold rawV zeroRaw
  have b4 := HB3.out.alloc HB3.out.size (.cells #[.int .i64 0, .slice none 0 0, .slice none 0 0, .bool false] 32)
  have HC4 := Lib.hid (SpotsOf_any A n c zs _ HN.out ((HA.out.below b4 (Nat.le_refl _)).more b4.size))
  clear b4
  go_wp2_with fail
  refine HC4.out.mono ?_
  rintro e w4 ⟨A4, c4, rfl, b4, hc4, hA4, _⟩
  rw [HL0.out] at hA4 ⊢
  obtain ⟨bx4, b4⟩ := boxed_call b4
  have HB4 := Lib.hid (HB3.out.trans (b4.mono HB3.out.size))
  have HB34 := Lib.hid b4
  have BX4 := Lib.hid bx4
  have H4 := Lib.hid hA4
  clear b4 bx4 hA4 hc4 HC4
  go_wp2_with fail
  obtain ⟨W4, hW4⟩ : ∃ W, W = w4 := ⟨_, rfl⟩
  rw [← hW4]
  have HW4 : Hid (Below w.heap.size w W4) := by rw [hW4]; exact HB4
  have BXW : Hid (Box W4 w3.heap.size 32 #[.int .i64 0, .slice none 0 0, .slice none 0 0, .bool false]) := by rw [hW4]; exact BX4
  clear hW4
  refine (ArenaFault_any A n c zs W4 HN.out ((HA.out.below HW4.out (Nat.le_refl _)).more HW4.out.size)).mono ?_
  rintro e w5 ⟨rfl, b5⟩
  have HB5 := Lib.hid (HW4.out.trans (b5.mono HW4.out.size))
  have bx5 := BXW.out.below b5 BXW.out.lt
  have BX5 := Lib.hid bx5
  clear b5 bx5
  go_wp2_with fail
  refine (Check_any A n c zs w5 HN.out hnc ((HA.out.below HB5.out (Nat.le_refl _)).more HB5.out.size)).mono ?_
  rintro e w6 ⟨rfl, b6⟩
  have HB6 := Lib.hid (HB5.out.trans (b6.mono HB5.out.size))
  have bx6 := BX5.out.below b6 BX5.out.lt
  have hea : (arErr zs != arErr zs) = false := by simp
  have heb : (arErr zs != 0) = true := by simpa using HAR.out
  have hec : (arErr zs == arErr zs) = true := by simp
  have n7 := (one_raw w6 32 zeroRaw)
  have n8 := (one_raw (w6.alloc (.cells #[.int .i64 0, .slice none 0 0, .slice none 0 0, .bool false] 32)) 32 zeroRaw)
  have z6 : (w6.alloc (.cells #[.int .i64 0, .slice none 0 0, .slice none 0 0, .bool false] 32)).heap.size = w6.heap.size + 1 := by simp
  have z7 : ((w6.alloc (.cells #[.int .i64 0, .slice none 0 0, .slice none 0 0, .bool false] 32)).alloc (.cells #[.int .i64 0, .slice none 0 0, .slice none 0 0, .bool false] 32)).heap.size = w6.heap.size + 1 + 1 := by simp
  unfold zeroRaw at n7 n8
  simp only at n7 n8
  rw [z6] at n8
  have a8 := (Below.refl _ (w6.alloc (.cells #[.int .i64 0, .slice none 0 0, .slice none 0 0, .bool false] 32))).alloc (Nat.le_refl _) (.cells #[.int .i64 0, .slice none 0 0, .slice none 0 0, .bool false] 32)
  rw [z6] at a8
  have HSO := Lib.hid (sameObjects_any (some ⟨w6.heap.size + 1, 0, none⟩) (some ⟨w6.heap.size, 0, none⟩) 1 1 1 (w6.heap.size + 1 + 1) 0 0 _ _ (fun _ => (0, [], [], false)) _ (by unfold maxLen; omega) (by rw [z7]; omega) n8 ((n7.below a8 (Nat.le_refl _)).more (by omega))
    (fun j hj => by rw [show j = 0 by omega]; exact zero_obv _ _ _) (fun j hj => by rw [show j = 0 by omega]; exact zero_obv _ _ _) (fun j hj => by rw [show j = 0 by omega]; exact ⟨Nat.zero_le _, Nat.zero_le _⟩))
  have d0 : w6.cell? ⟨w3.heap.size, 0, none⟩ = some (.int .i64 0) := bx6.cell 0
  have d1 : w6.cell? ⟨w3.heap.size, 1, none⟩ = some (.slice none 0 0) := bx6.cell 1
  have d2 : w6.cell? ⟨w3.heap.size, 2, none⟩ = some (.slice none 0 0) := bx6.cell 2
  have d3 : w6.cell? ⟨w3.heap.size, 3, none⟩ = some (.bool false) := bx6.cell 3
  have a7 := (Below.refl _ w6).alloc (Nat.le_refl _) (.cells #[.int .i64 0, .slice none 0 0, .slice none 0 0, .bool false] 32)
  have l6 := bx6.lt
  have f0 := (a7.cell (p := ⟨w3.heap.size, 0, none⟩) l6).trans d0
  have f1 := (a7.cell (p := ⟨w3.heap.size, 1, none⟩) l6).trans d1
  have f2 := (a7.cell (p := ⟨w3.heap.size, 2, none⟩) l6).trans d2
  have f3 := (a7.cell (p := ⟨w3.heap.size, 3, none⟩) l6).trans d3
  have HB8 := Lib.hid ((HB6.out.alloc HB6.out.size (.cells #[.int .i64 0, .slice none 0 0, .slice none 0 0, .bool false] 32)).alloc (by have := HB6.out.size; simp; omega) (.cells #[.int .i64 0, .slice none 0 0, .slice none 0 0, .bool false] 32))
  clear b6 bx6 n7 n8 a7 a8 z6 z7 l6
  go_wp2_with fail
  refine HSO.out.mono ?_
  rintro e w9 ⟨rfl, b9⟩
  have HB9 := Lib.hid (HB8.out.trans (b9.mono HB8.out.size))
  clear b9 HSO
  go_wp2
  go_ret
  exact ⟨rfl, HB9.out⟩

set_option maxRecDepth 8000 in
set_option maxHeartbeats 4000000 in
theorem tells_bad2 (A : Option Addr) (n c : Nat) (a : Int) (zs : List Int) (w : World) (hn : n ≤ maxLen) (hnc : n ≤ c) (ha : Arr .u64 w w.heap.size A n zs) (h0 : spErr zs = 0) (h1 : arErr zs ≠ 0) :
    Calls Try.prog 3 #[.slice A n c, .int .i64 a] w fun e w' => e = .returned (.bool true) ∧ Below w.heap.size w w' := by
  obtain ⟨h256, _⟩ := spErr_zero h0
  have hl := ha.1
  have hbl := begins_len (zs := zs) (a := 0)
  have hlen : (spList zs).length = (begins zs 0).length := by rw [spList_ok h0]; simp
  obtain ⟨m, hm⟩ : ∃ m, (begins zs 0).length = m := ⟨_, rfl⟩
  rw [hm] at hlen hbl
  have HLN := Lib.hid hlen
  clear hlen hm
  have HN := Lib.hid hn
  have HA := Lib.hid ha
  have HSP := Lib.hid h0
  have HAR := Lib.hid h1
  clear ha hn h0 h1
  go_enter Try.func3, Try.ntmps3
  go_wp2_with fail
  refine (Spots_any A n c zs w HN.out HA.out).mono ?_
  rintro e w1 ⟨A1, c1, rfl, b1, hc1, hA1, _⟩
  rw [HLN.out] at hA1 ⊢
  rw [HSP.out]
  have HB1 := Lib.hid b1
  have H1 := Lib.hid hA1
  clear b1 hA1 hc1
  go_wp2_with fail
  refine (Objects_any A n c zs w1 HN.out hnc ((HA.out.below HB1.out (Nat.le_refl _)).more HB1.out.size)).mono ?_
  rintro e w2 ⟨A2, k2, c2, rfl, b2, hc2, h2⟩
  have HB2 := Lib.hid (HB1.out.trans (b2.mono HB1.out.size))
  have HB12 := Lib.hid b2
  have H2 := Lib.hid h2
  have HC2 := Lib.hid hc2
  clear b2 h2 hc2
  go_wp2_with fail
  refine (At_any A n c a zs w2 HN.out hnc ((HA.out.below HB2.out (Nat.le_refl _)).more HB2.out.size)).mono ?_
  rintro e w3 ⟨b3, h3⟩
  have HB3 := Lib.hid (HB2.out.trans (b3.mono HB2.out.size))
  have HB23 := Lib.hid b3
  clear b3
  obtain ⟨_, rfl⟩ : arErr zs ≠ 0 ∧ e = .returned (.tuple #[rawV zeroRaw, .int .i64 (arErr zs)]) := by
    rcases h3 with h3 | h3 | h3
    · exact h3
    · exact absurd h3.1 HAR.out
    · exact absurd h3.1 HAR.out
  obtain ⟨_, rfl⟩ : arErr zs ≠ 0 ∧ k2 = 0 := by
    rcases H2.out with h2 | h2
    · exact h2
    · exact absurd h2.1 HAR.out
  clear h3 H2
  unfold rawV zeroRaw
  have b4 := HB3.out.alloc HB3.out.size (.cells #[.int .i64 0, .slice none 0 0, .slice none 0 0, .bool false] 32)
  have HC4 := Lib.hid (SpotsOf_any A n c zs _ HN.out ((HA.out.below b4 (Nat.le_refl _)).more b4.size))
  clear b4
  go_wp2_with fail
  refine HC4.out.mono ?_
  rintro e w4 ⟨A4, c4, rfl, b4, hc4, hA4, _⟩
  rw [HLN.out] at hA4 ⊢
  rw [HSP.out]
  obtain ⟨bx4, b4⟩ := boxed_call b4
  have HB4 := Lib.hid (HB3.out.trans (b4.mono HB3.out.size))
  have HB34 := Lib.hid b4
  have BX4 := Lib.hid bx4
  have H4 := Lib.hid hA4
  clear b4 bx4 hA4 hc4 HC4
  have l12 := HB12.out.size
  have l23 := HB23.out.size
  have l34 := HB34.out.size
  have HEQ := Lib.hid (sameSpots A1 A4 m c1 c4 w4.heap.size (spList zs) w4 (by unfold maxLen; omega) (((((H1.out.below HB12.out (Nat.le_refl _)).below HB23.out (by omega)).below HB34.out (by omega))).more (by omega)) H4.out)
  clear l12 l23 l34
  go_wp2_with fail
  refine HEQ.out.mono ?_
  rintro e w5 ⟨rfl, q5, rfl⟩
  go_wp2_with fail
  obtain ⟨W4, hW4⟩ : ∃ W, W = w4.drewN q5 := ⟨_, rfl⟩
  rw [← hW4]
  have HW4 : Hid (Below w.heap.size w W4) := by rw [hW4]; exact below_drewN HB4.out q5
  have BXW : Hid (Box W4 w3.heap.size 32 #[.int .i64 0, .slice none 0 0, .slice none 0 0, .bool false]) := by rw [hW4]; exact BX4
  clear hW4
  refine (ArenaFault_any A n c zs W4 HN.out ((HA.out.below HW4.out (Nat.le_refl _)).more HW4.out.size)).mono ?_
  rintro e w5 ⟨rfl, b5⟩
  have HB5 := Lib.hid (HW4.out.trans (b5.mono HW4.out.size))
  have bx5 := BXW.out.below b5 BXW.out.lt
  have BX5 := Lib.hid bx5
  clear b5 bx5
  go_wp2_with fail
  refine (Check_any A n c zs w5 HN.out hnc ((HA.out.below HB5.out (Nat.le_refl _)).more HB5.out.size)).mono ?_
  rintro e w6 ⟨rfl, b6⟩
  have HB6 := Lib.hid (HB5.out.trans (b6.mono HB5.out.size))
  have bx6 := BX5.out.below b6 BX5.out.lt
  have hea : (arErr zs != arErr zs) = false := by simp
  have heb : (arErr zs != 0) = true := by simpa using HAR.out
  have hec : (arErr zs == arErr zs) = true := by simp
  have n7 := (one_raw w6 32 zeroRaw)
  have n8 := (one_raw (w6.alloc (.cells #[.int .i64 0, .slice none 0 0, .slice none 0 0, .bool false] 32)) 32 zeroRaw)
  have z6 : (w6.alloc (.cells #[.int .i64 0, .slice none 0 0, .slice none 0 0, .bool false] 32)).heap.size = w6.heap.size + 1 := by simp
  have z7 : ((w6.alloc (.cells #[.int .i64 0, .slice none 0 0, .slice none 0 0, .bool false] 32)).alloc (.cells #[.int .i64 0, .slice none 0 0, .slice none 0 0, .bool false] 32)).heap.size = w6.heap.size + 1 + 1 := by simp
  unfold zeroRaw at n7 n8
  simp only at n7 n8
  rw [z6] at n8
  have a8 := (Below.refl _ (w6.alloc (.cells #[.int .i64 0, .slice none 0 0, .slice none 0 0, .bool false] 32))).alloc (Nat.le_refl _) (.cells #[.int .i64 0, .slice none 0 0, .slice none 0 0, .bool false] 32)
  rw [z6] at a8
  have HSO := Lib.hid (sameObjects_any (some ⟨w6.heap.size + 1, 0, none⟩) (some ⟨w6.heap.size, 0, none⟩) 1 1 1 (w6.heap.size + 1 + 1) 0 0 _ _ (fun _ => (0, [], [], false)) _ (by unfold maxLen; omega) (by rw [z7]; omega) n8 ((n7.below a8 (Nat.le_refl _)).more (by omega))
    (fun j hj => by rw [show j = 0 by omega]; exact zero_obv _ _ _) (fun j hj => by rw [show j = 0 by omega]; exact zero_obv _ _ _) (fun j hj => by rw [show j = 0 by omega]; exact ⟨Nat.zero_le _, Nat.zero_le _⟩))
  have d0 : w6.cell? ⟨w3.heap.size, 0, none⟩ = some (.int .i64 0) := bx6.cell 0
  have d1 : w6.cell? ⟨w3.heap.size, 1, none⟩ = some (.slice none 0 0) := bx6.cell 1
  have d2 : w6.cell? ⟨w3.heap.size, 2, none⟩ = some (.slice none 0 0) := bx6.cell 2
  have d3 : w6.cell? ⟨w3.heap.size, 3, none⟩ = some (.bool false) := bx6.cell 3
  have a7 := (Below.refl _ w6).alloc (Nat.le_refl _) (.cells #[.int .i64 0, .slice none 0 0, .slice none 0 0, .bool false] 32)
  have l6 := bx6.lt
  have f0 := (a7.cell (p := ⟨w3.heap.size, 0, none⟩) l6).trans d0
  have f1 := (a7.cell (p := ⟨w3.heap.size, 1, none⟩) l6).trans d1
  have f2 := (a7.cell (p := ⟨w3.heap.size, 2, none⟩) l6).trans d2
  have f3 := (a7.cell (p := ⟨w3.heap.size, 3, none⟩) l6).trans d3
  have HB8 := Lib.hid ((HB6.out.alloc HB6.out.size (.cells #[.int .i64 0, .slice none 0 0, .slice none 0 0, .bool false] 32)).alloc (by have := HB6.out.size; simp; omega) (.cells #[.int .i64 0, .slice none 0 0, .slice none 0 0, .bool false] 32))
  clear b6 bx6 n7 n8 a7 a8 z6 z7 l6
  go_wp2_with fail
  refine HSO.out.mono ?_
  rintro e w9 ⟨rfl, b9⟩
  have HB9 := Lib.hid (HB8.out.trans (b9.mono HB8.out.size))
  clear b9 HSO
  go_wp2
  go_ret
  exact ⟨rfl, HB9.out⟩

end Go.Proofs.Ytkhiofnihgichaa
