/-
  Parts of the proof of CarrySlides: RefGap.
-/
import Derived.Test.YtjefbekdjgmmbaaCarrySlidesAf
import Derived.Test.YtjefbekdjgmmbaaCarrySlidesAg
namespace Go.Proofs.Ytjefbekdjgmmbaa
open Go.RowKit
theorem ArrG.run {w : World} {B n : Nat} {A : Option Addr} {l : List (Int × Int)} (h : ArrG runC 2 w B A n l) {j : Nat} (hj : j < n) :
    ∃ b off, A = some ⟨b, off, none⟩ ∧ b < B ∧ w.cell? ⟨b, off + j * 2, none⟩ = some (.int .i64 (nthG l j).1) ∧ w.cell? ⟨b, off + j * 2 + 1, none⟩ = some (.int .i64 (nthG l j).2) := by
  obtain ⟨b, off, e, hb, hc⟩ := h.at_ hj
  exact ⟨b, off, e, hb, hc 0 (by omega), hc 1 (by omega)⟩
end Go.Proofs.Ytjefbekdjgmmbaa
