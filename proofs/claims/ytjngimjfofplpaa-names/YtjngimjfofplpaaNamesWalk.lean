/-
  The walk of Names: whatever the memory, the call returns true and changes nothing that was there.
-/
import Derived.Test.YtjngimjfofplpaaEq
namespace Go.Proofs.Ytjngimjfofplpaa
open Go.RowKit

set_option maxHeartbeats 4000000 in
set_option maxRecDepth 100000 in
theorem names_walk (w : World) :
    Calls Try.prog 3 #[] w fun e w' => e = .returned (.bool true) ∧ Grown w w' := by
  go_enter Try.func3, Try.ntmps3
  go_wp2
  go_loop [9] (fun i => ∃ k : Nat, k ≤ 10 ∧ i = .int .i64 k) (fun i => 10 - (intOf i).toNat)
  case atStart => exact ⟨0, Nat.zero_le _, rfl⟩
  case round =>
    obtain ⟨k, hk, rfl⟩ := hrel
    by_cases hlt : k < 10
    · have hcs : k = 0 ∨ k = 1 ∨ k = 2 ∨ k = 3 ∨ k = 4 ∨ k = 5 ∨ k = 6 ∨ k = 7 ∨ k = 8 ∨ k = 9 := by omega
      rcases hcs with rfl | rfl | rfl | rfl | rfl | rfl | rfl | rfl | rfl | rfl
      all_goals
        go_wp2
        go_round
        case rel => exact lit_le _ _ (by decide)
        case measure => simp [intOf]
    · obtain rfl : k = 10 := by omega
      go_wp2
      go_loop [22] (fun i => ∃ k : Nat, k ≤ 13 ∧ i = .int .i64 k) (fun i => 13 - (intOf i).toNat)
      case atStart => exact ⟨0, Nat.zero_le _, rfl⟩
      case round =>
        obtain ⟨k, hk, rfl⟩ := hrel
        by_cases hlt : k < 13
        · have hcs : k = 0 ∨ k = 1 ∨ k = 2 ∨ k = 3 ∨ k = 4 ∨ k = 5 ∨ k = 6 ∨ k = 7 ∨ k = 8 ∨ k = 9 ∨ k = 10 ∨ k = 11 ∨ k = 12 := by omega
          rcases hcs with rfl | rfl | rfl | rfl | rfl | rfl | rfl | rfl | rfl | rfl | rfl | rfl | rfl
          all_goals
            go_wp2
            go_round
            case rel => exact lit_le _ _ (by decide)
            case measure => simp [intOf]
        · obtain rfl : k = 13 := by omega
          have hz : ∀ z ∈ ([256, 32, 16, 1000000, 16, 65535, 32, 200, 100, 16, 60] : List Int), (Lit.int .i64 z).wf = true := by
            intro z hz
            rw [wf_i64]
            simp at hz
            omega
          go_wp2_with fail
          refine (equalInts _ _ 11 11 _ _ (w.heap.size + 4) [256, 32, 16, 1000000, 16, 65535, 32, 200, 100, 16, 60] [256, 32, 16, 1000000, 16, 65535, 32, 200, 100, 16, 60] _ ?_ ?_ (by decide) (by decide)).mono ?_
          · refine Whole.arr (t := 3) (Whole.alloc (whole_at .i64 3 _ hz ?_) _) ?_
            all_goals simp
          · refine Whole.arr (t := 3) (whole_at .i64 3 _ hz ?_) ?_
            all_goals simp
          rintro e w' ⟨rfl, q, rfl⟩
          go_wp2
          go_ret
          refine ⟨rfl, ?_⟩
          show Grown w ((World.alloc (World.alloc (World.alloc (World.alloc w _) _) _) _))
          exact ((((Grown.refl w).alloc _ _).alloc _ _).alloc _ _).alloc _ _
end Go.Proofs.Ytjngimjfofplpaa
