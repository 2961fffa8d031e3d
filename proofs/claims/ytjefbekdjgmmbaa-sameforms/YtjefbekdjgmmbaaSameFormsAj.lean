/-
  Parts of the proof of SameForms: IntFn.
-/
import Derived.Lib.SliceRun
import Derived.Deep.RegionHeld3
import Derived.Test.YtjefbekdjgmmbaaSameFormsAc
import Derived.Test.YtjefbekdjgmmbaaSameFormsAe
namespace Go.Proofs.Ytjefbekdjgmmbaa
open Go.RowKit
theorem intI_info : (Try.prog.info? 3).map (fun i => (i.zero, i.size, i.bytes)) = some (some (.int .i64 0), 1, 8) := by kernel_rfl
end Go.Proofs.Ytjefbekdjgmmbaa
