/-
  Contracts of word.Move and of the first question that the statements on word arenas ask.
-/
import Derived.Test.YtgagjdhokkkkjaaWord
import Derived.StillTailTactics
import Derived.IntWalk
namespace Go.Proofs.Ytgagjdhokkkkjaa
open Go.RowKit

end Go.Proofs.Ytgagjdhokkkkjaa
