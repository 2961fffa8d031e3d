/-
  The reference's SameInts and SameWords: whether the two lists of numbers are one; nothing is written.
-/
import Derived.Test.YtgekghlmkfkbjaaRef
namespace Go.Proofs.Ytgekghlmkfkbjaa
open Go.RowKit

end Go.Proofs.Ytgekghlmkfkbjaa
