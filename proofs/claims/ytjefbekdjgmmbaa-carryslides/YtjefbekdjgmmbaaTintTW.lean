/-
  The walk of TintTwo: whatever the arguments and the memory, the call returns true and changes nothing that was there.
-/
import Derived.Test.YtjefbekdjgmmbaaTintCW
import Derived.Test.YtjefbekdjgmmbaaGood
import Derived.Test.YtjefbekdjgmmbaaIntCat
namespace Go.Proofs.Ytjefbekdjgmmbaa
open Go.RowKit

section
variable {zs xs ys : List Int}
theorem two_left (hz : ∀ z ∈ zs, (Lit.int .u64 z).wf = true) (h1 : fromE zs xs = 0) (h2 : fromE zs ys = 0) : inAll (reachL zs xs) (reachL zs (xs ++ ys)) = true := inAll_true fun x hx => by
  rw [reachL_mem hz h1] at hx
  rw [reachL_mem hz (fromE_app h1 h2), reach_two]; exact .inl hx
theorem two_right (hz : ∀ z ∈ zs, (Lit.int .u64 z).wf = true) (h1 : fromE zs xs = 0) (h2 : fromE zs ys = 0) : inAll (reachL zs ys) (reachL zs (xs ++ ys)) = true := inAll_true fun x hx => by
  rw [reachL_mem hz h2] at hx
  rw [reachL_mem hz (fromE_app h1 h2), reach_two]; exact .inr hx
theorem two_both (hz : ∀ z ∈ zs, (Lit.int .u64 z).wf = true) (h1 : fromE zs xs = 0) (h2 : fromE zs ys = 0) : inAll (reachL zs (xs ++ ys)) (reachL zs xs ++ reachL zs ys) = true := inAll_true fun x hx => by
  rw [reachL_mem hz (fromE_app h1 h2), reach_two] at hx
  rw [List.mem_append, reachL_mem hz h1, reachL_mem hz h2]; exact hx
end
theorem pair_arr (t : TypeId) (w : World) (x y : Int) (hx : (Lit.int .i64 x).wf = true) (hy : (Lit.int .i64 y).wf = true) : Arr .i64 (w.alloc (.cells #[.int .i64 x, .int .i64 y] t)) (w.heap.size + 1) (some ⟨w.heap.size, 0, none⟩) 2 [x, y] := by
  have h := (whole_new .i64 t w [x, y] (by intro z hz; simp at hz; rcases hz with rfl | rfl; exact hx; exact hy)).arr (B := w.heap.size + 1) (by omega)
  exact h
theorem fromE_wf (zs fr : List Int) : (Lit.int .i64 (fromE zs fr)).wf = true := by
  rw [wf_i64]
  unfold fromE
  have hs : -10 ≤ arErr zs ∧ arErr zs ≤ 10 := by
    unfold arErr spErr
    repeat' split
    all_goals omega
  split
  · split <;> omega
  · omega

end Go.Proofs.Ytjefbekdjgmmbaa
