/-
  Parts of the proof of CarrySlides: SameCW.
-/
import Derived.Test.YtjefbekdjgmmbaaCarrySlidesAq
import Derived.Test.YtjefbekdjgmmbaaCarrySlidesAr
namespace Go.Proofs.Ytjefbekdjgmmbaa
open Go.RowKit
theorem copyE_zero {zs fr : List Int} {n : Int} (h : copyE zs fr n = 0) : fromE zs fr = 0 ∧ ¬ (n < 0 ∨ 256 < n) ∧ ¬ n < takesN zs fr := by
  unfold copyE at h
  split at h
  · rename_i h1; exact absurd h h1
  · rename_i h1
    split at h
    · omega
    · rename_i h2
      split at h
      · omega
      · rename_i h3; exact ⟨by simpa using h1, h2, h3⟩
/-- Where the first 'j' of those one begins with go. -/
def thenL (zs fr : List Int) (n j : Nat) : List Int := (fr.take j).map (putF zs (camL zs fr) n)
theorem thenL_succ {zs fr : List Int} {n j : Nat} (h : j < fr.length) : thenL zs fr n (j + 1) = thenL zs fr n j ++ [putF zs (camL zs fr) n (nth fr j)] := by
  unfold thenL
  rw [List.take_succ_eq_append_getElem h, List.map_append, nth_get _ _ h]
  rfl
theorem thenL_all {zs fr : List Int} {n : Nat} : thenL zs fr n fr.length = fr.map (putF zs (camL zs fr) n) := by unfold thenL; rw [List.take_length]
theorem thenL_len {zs fr : List Int} {n j : Nat} (h : j ≤ fr.length) : (thenL zs fr n j).length = j := by unfold thenL; rw [List.length_map, List.length_take]; omega
end Go.Proofs.Ytjefbekdjgmmbaa
