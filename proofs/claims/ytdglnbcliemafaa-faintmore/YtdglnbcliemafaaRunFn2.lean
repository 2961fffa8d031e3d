/-
  slices.IndexFunc and slices.ContainsFunc over []api.Run, with a function value of whatever captured variables.
-/
import Derived.Test.YtdglnbcliemafaaRefGap
namespace Go.Proofs.Ytdglnbcliemafaa
open Go.RowKit

end Go.Proofs.Ytdglnbcliemafaa
