/-
  Contract of the reference's Takes.
-/
import Derived.Test.YthdnfocemchgjaaGreatRefT
import Derived.Test.YthdnfocemchgjaaGreatCarryM
namespace Go.Proofs.YthdnfocemchgjaaGreat
open Go.RowKit

theorem tkL_le {zs l : List Int} (h : ∀ x ∈ l, longN zs x.toNat ≤ 256) : tkL zs l ≤ l.length * 256 := by
  induction l with
  | nil => exact Nat.le_refl _
  | cons a l ih =>
    have h1 := h a (by simp)
    have h2 := ih fun x hx => h x (by simp [hx])
    have e : tkL zs (a :: l) = longN zs a.toNat + tkL zs l := by unfold tkL; simp
    rw [e, List.length_cons]
    omega

end Go.Proofs.YthdnfocemchgjaaGreat
