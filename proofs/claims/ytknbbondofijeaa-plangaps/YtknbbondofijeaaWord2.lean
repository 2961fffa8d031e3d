/-
  Contracts of word.Move and of the first question that the statements on word arenas ask.
-/
import Derived.Test.YtknbbondofijeaaWord
import Derived.StillTailTactics
import Derived.IntWalk
namespace Go.Proofs.Ytknbbondofijeaa
open Go.RowKit

end Go.Proofs.Ytknbbondofijeaa
