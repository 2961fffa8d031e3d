/-
  Contract of the reference's SameRuns.
-/
import Derived.Test.YtknbbondofijeaaRunFn
namespace Go.Proofs.Ytknbbondofijeaa
open Go.RowKit

set_option maxHeartbeats 400000 in
theorem sameRuns_same (A A' : Option Addr) (n c c' B : Nat) (xs : List (Int × Int)) (w : World) (hx : ArrG runC 2 w B A n xs) (hy : ArrG runC 2 w B A' n xs) (hn : n ≤ maxLen) :
    Calls Try.prog 40 #[.slice A n c, .slice A' n c'] w fun e w' => e = .returned (.bool true) ∧ ∃ q, w.drewN q = w' := by
  unfold maxLen at hn
  have ht : ((n : Int) != (n : Int)) = false := by simp
  go_enter Try.func40, Try.ntmps40
  go_wp2
  go_loopw [13] (fun i wr => ∃ k : Nat, k ≤ n ∧ i = .int .i64 k ∧ ∃ q, w.drewN q = wr) (fun i _ => n - (intOf i).toNat)
  case atStart => exact ⟨0, Nat.zero_le _, rfl, 0, rfl⟩
  case round =>
    obtain ⟨k, hk, rfl, q, rfl⟩ := hrel
    by_cases hlt : k < n
    · obtain ⟨b, off, rfl, _, hc0, hc1⟩ := hx.run hlt
      obtain ⟨b', off', rfl, _, hd0, hd1⟩ := hy.run hlt
      have hlt' : (k : Int) < (n : Int) := by omega
      clear hx hy
      generalize (nthG xs k).1 = X at *
      generalize (nthG xs k).2 = Y at *
      go_wp2
      go_quiet (fail)
      go_wp2
      go_roundw
      case rel => exact ⟨k + 1, by omega, by go_num, _, rfl⟩
      case measure => simp [intOf]; omega
    · obtain rfl : k = n := by omega
      clear hx hy
      go_wp2
      go_ret
      exact ⟨rfl, _, rfl⟩
end Go.Proofs.Ytknbbondofijeaa
