/-
  Contract of package step's Step.
-/
import Derived.Test.YtgekghlmkfkbjaaStepG
namespace Go.Proofs.Ytgekghlmkfkbjaa
open Go.RowKit

theorem stepT_bad {zs g b : List Int} (h : triE zs g b ≠ 0) : stepT zs g b = ([], [], []) := if_neg h
theorem stepT_nil {zs b : List Int} (h : triE zs [] b = 0) : stepT zs [] b = (zs, [], b) := if_pos h
theorem stepT_cons {zs g b : List Int} {x : Int} (h : triE zs (x :: g) b = 0) : stepT zs (x :: g) b = (zs, stepG (nxOf zs) x g b, stepB x b) := if_pos h
theorem stepMore_bad {zs g b : List Int} (h : triE zs g b ≠ 0) : stepMore zs g b = false := by unfold stepMore; simp [h]
theorem stepMore_nil {zs b : List Int} : stepMore zs [] b = false := by unfold stepMore; simp
theorem stepMore_cons {zs g b : List Int} {x : Int} (h : triE zs (x :: g) b = 0) : stepMore zs (x :: g) b = true := by unfold stepMore; simp [h]

end Go.Proofs.Ytgekghlmkfkbjaa
