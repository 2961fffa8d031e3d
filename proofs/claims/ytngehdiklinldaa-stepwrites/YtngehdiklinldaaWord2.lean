/-
  Contracts of word.Move and of the first question that the statements on word arenas ask.
-/
import Derived.Test.YtngehdiklinldaaWord
import Derived.StillTailTactics
import Derived.IntWalk
namespace Go.Proofs.Ytngehdiklinldaa
open Go.RowKit

end Go.Proofs.Ytngehdiklinldaa
