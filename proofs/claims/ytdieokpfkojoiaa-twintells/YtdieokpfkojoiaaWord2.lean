/-
  Contracts of word.Move and of the first question that the statements on word arenas ask.
-/
import Derived.Test.YtdieokpfkojoiaaWord
import Derived.StillTailTactics
import Derived.IntWalk
namespace Go.Proofs.Ytdieokpfkojoiaa
open Go.RowKit

end Go.Proofs.Ytdieokpfkojoiaa
