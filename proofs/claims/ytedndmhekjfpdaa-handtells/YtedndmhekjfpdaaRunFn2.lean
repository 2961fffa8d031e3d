/-
  slices.IndexFunc and slices.ContainsFunc over []api.Run, with a function value of whatever captured variables.
-/
import Derived.Test.YtedndmhekjfpdaaRunFn
namespace Go.Proofs.Ytedndmhekjfpdaa
open Go.RowKit

end Go.Proofs.Ytedndmhekjfpdaa
