/-
  A slice of runs as it comes in: its cells, and what they say.
-/
import Derived.Test.YthdnfocemchgjaaRefGap
import Derived.Deep.Slices
import Derived.Deep.Fields
import Derived.ChangeSame
import Derived.ChangeSlices
namespace Go.Proofs.Ythdnfocemchgjaa
open Go.RowKit
open Go.ChangeShapes Go.WideShapes Go.Deep

/-- What is known of a slice of runs that came in. -/
def RunsIn (w : World) (A : Option Addr) (N : Nat) (l : List (Int × Int)) : Prop := N ≤ maxLen ∧ ArrG runC 2 w w.heap.size A N l

theorem list_of {α : Type} [Inhabited α] {Q : Nat → α → Prop} : ∀ n, (∀ i, i < n → ∃ a, Q i a) → ∃ la : List α, la.length = n ∧ ∀ i, i < n → Q i (nthG la i)
  | 0, _ => ⟨[], rfl, fun i hi => absurd hi (by omega)⟩
  | n + 1, h => by
    obtain ⟨la, h1, h3⟩ := list_of n (fun i hi => h i (by omega))
    obtain ⟨a, hab⟩ := h n (by omega)
    refine ⟨la ++ [a], by simp [h1], fun i hi => ?_⟩
    rcases Nat.lt_succ_iff_lt_or_eq.1 hi with hi | hi
    · rw [nthG_append_left _ _ _ (by omega)]; exact h3 i hi
    · subst hi
      have := nthG_snoc la a
      rw [h1] at this
      rw [this]; exact hab

section
variable {H : Type} {enc : TypeId × Value → H} {w : World}
end
end Go.Proofs.Ythdnfocemchgjaa
