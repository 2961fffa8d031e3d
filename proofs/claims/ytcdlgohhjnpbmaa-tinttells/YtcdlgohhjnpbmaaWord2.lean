/-
  Contracts of word.Move and of the first question that the statements on word arenas ask.
-/
import Derived.Test.YtcdlgohhjnpbmaaWord
import Derived.StillTailTactics
import Derived.IntWalk
namespace Go.Proofs.Ytcdlgohhjnpbmaa
open Go.RowKit

end Go.Proofs.Ytcdlgohhjnpbmaa
