/-
  slices.IndexFunc and slices.ContainsFunc over []api.Run, with a function value of whatever captured variables.
-/
import Derived.Test.YtgekghlmkfkbjaaRefGap
namespace Go.Proofs.Ytgekghlmkfkbjaa
open Go.RowKit

end Go.Proofs.Ytgekghlmkfkbjaa
