/-
  Parts of the proof of SlideSame: LayParts.
-/
import Derived.Lib.AppendZeros
import Derived.Lib.SliceRun
import Derived.Test.YtjefbekdjgmmbaaSlideSameAh
namespace Go.Proofs.Ytjefbekdjgmmbaa
open Go.RowKit
/-- A slice of descriptions that reads as 'os'. -/
def ObsAt (w : World) (lo hi : Nat) (A : Option Addr) (n : Nat) (raws : List Raw) (os : List Ob) : Prop := os.length = n ∧ ArrG rawC 4 w hi A n raws ∧ ∀ j, j < n → ObV w lo hi (nthG raws j) (nthG os j)
end Go.Proofs.Ytjefbekdjgmmbaa
