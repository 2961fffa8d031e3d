/-
  Contracts of word.Move and of the first question that the statements on word arenas ask.
-/
import Derived.Test.YtkhiofnihgichaaWord
import Derived.StillTailTactics
import Derived.IntWalk
namespace Go.Proofs.Ytkhiofnihgichaa
open Go.RowKit

end Go.Proofs.Ytkhiofnihgichaa
