/-
  slices.IndexFunc and slices.ContainsFunc over []api.Run, with a function value of whatever captured variables.
-/
import Derived.Test.YtkjaghalcoehgaaRunFn
namespace Go.Proofs.Ytkjaghalcoehgaa
open Go.RowKit

end Go.Proofs.Ytkjaghalcoehgaa
