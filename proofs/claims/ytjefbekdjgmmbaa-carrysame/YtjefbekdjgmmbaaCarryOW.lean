/-
  The walk of CarryOrder, given what Order answers ('OrderC').
-/
import Derived.Test.YtjefbekdjgmmbaaCarryE
import Derived.Test.YtjefbekdjgmmbaaTintCW
import Derived.StillTailTactics
namespace Go.Proofs.Ytjefbekdjgmmbaa
open Go.RowKit

theorem small_cam : (camL [1, 1] [0]).length = 1 := by decide
theorem names_mem {zs : List Int} {s : Nat} {y : Int} : y ∈ namesOf zs s ↔ y ∈ named zs s ∧ 0 ≤ y := by unfold namesOf; rw [List.mem_filter, decide_eq_true_eq]
/-- Who comes is one to begin with, or was named by one that came ahead. -/
theorem cam_named {zs fr : List Int} {i : Nat} (hi : i < (camL zs fr).length) (h : nth (camL zs fr) i ∉ fr) : (((camL zs fr).take i).any fun x => decide (nth (camL zs fr) i ∈ namesOf zs x.toNat)) = true := by
  obtain ⟨k, hk, h1⟩ := ((camT_ok (zs := zs) (fr := fr) zs.length).named i hi).resolve_left h
  rw [List.any_eq_true]
  refine ⟨nth (camL zs fr) k, ?_, ?_⟩
  · have hki : k < ((camL zs fr).take i).length := by rw [List.length_take]; omega
    have e : nth ((camL zs fr).take i) k = nth (camL zs fr) k := by
      rw [nth_get _ _ hki, nth_get _ _ (by omega), List.getElem_take]
    rw [← e]
    exact nth_mem hki
  · rw [decide_eq_true_eq]
    exact names_mem.2 ⟨h1, (camT_ok (zs := zs) (fr := fr) zs.length).pos _ (nth_mem hi)⟩
theorem cam_once {zs fr : List Int} {i : Nat} (hi : i < (camL zs fr).length) : nth (camL zs fr) i ∉ (camL zs fr).take i := fun h => by
  obtain ⟨k, hk, e⟩ := List.getElem_of_mem h
  rw [List.length_take] at hk
  rw [List.getElem_take, ← nth_get _ _ (by omega)] at e
  have := nodup_one (camL_nd (zs := zs) (fr := fr)) (by omega) hi e
  omega

set_option maxHeartbeats 400000 in
theorem carries_any (hC : OrderC) (w : World) : Calls Try.prog 24 #[] w fun e w' => e = .returned (.bool true) ∧ Below w.heap.size w w' := by
  have HS := Lib.hid (small_any w)
  have b1 := (Below.refl _ w).alloc (Nat.le_refl _) (.cells #[.int .u64 1, .int .u64 1] 47)
  have W1 : Whole .u64 47 (w.alloc (.cells #[.int .u64 1, .int .u64 1] 47)) w.heap.size [1, 1] := whole_new .u64 47 w [1, 1] small_wf
  obtain ⟨w1, hw1⟩ : ∃ w1, w.alloc (.cells #[.int .u64 1, .int .u64 1] 47) = w1 := ⟨_, rfl⟩
  have hsz : w1.heap.size = w.heap.size + 1 := by rw [← hw1]; simp
  rw [hw1] at b1 W1 HS
  have b2 := (Below.refl _ w1).alloc (Nat.le_refl _) (.cells #[.int .i64 0] 3)
  have W2 : Whole .i64 3 (w1.alloc (.cells #[.int .i64 0] 3)) w1.heap.size [0] := whole_new .i64 3 w1 [0] (by decide)
  have HK := Lib.hid (hC (some ⟨w.heap.size, 0, none⟩) (some ⟨w1.heap.size, 0, none⟩) 2 2 1 1 [1, 1] [0] _ (by unfold maxLen; omega) (by omega) ((W1.alloc _).arr (by simp; omega)) (by omega) (W2.arr W2.lt))
  have hE : fromE [1, 1] [0] = 0 := small_from
  have HEE := Lib.hid hE
  have HB := Lib.hid (b1.trans (b2.mono b1.size))
  clear b1 W1 b2 W2 hw1 hsz hE hC
  go_enter Try.func24, Try.ntmps24
  go_wp2_with fail
  refine HS.out.mono ?_
  rintro e w' ⟨rfl, rfl⟩
  go_wp2_with fail
  refine HK.out.mono ?_
  rintro e w3 ⟨B, m, c, rfl, hb3, _, hB⟩
  have HB3 := Lib.hid (HB.out.trans (hb3.mono HB.out.size))
  rw [HEE.out]
  obtain rfl : m = 1 := by
    have h1 := hB.1
    rw [orderO_ok HEE.out, small_cam] at h1
    exact h1.symm
  clear hB hb3 HK
  go_wp2
  go_ret
  exact ⟨rfl, HB3.out⟩

end Go.Proofs.Ytjefbekdjgmmbaa
