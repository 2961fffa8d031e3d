/-
  slices.Equal at []int and at []uint64: it returns whether the two lists of numbers are one, and writes nothing.
-/
import Derived.Test.YtkjaghalcoehgaaProg
import Derived.Test.YtkjaghalcoehgaaBase
import Derived.Outline
namespace Go.Proofs.Ytkjaghalcoehgaa
open Go.RowKit

theorem nth_ext {xs ys : List Int} (hl : xs.length = ys.length) (h : ∀ j, j < xs.length → nth xs j = nth ys j) : xs = ys := by
  apply List.ext_getElem hl
  intro i h1 h2
  have := h i h1
  simpa [nth, h1, h2] using this

end Go.Proofs.Ytkjaghalcoehgaa
