/-
  Slices of numbers as they come in, and how large a slice in a struct can be.
-/
import Derived.Test.YtjefbekdjgmmbaaBase
import Derived.Deep.Slices
import Derived.Deep.Fields
import Derived.ChangeSame
import Derived.ChangeSlices
import Derived.SizedLaws
import Derived.Test.YtjefbekdjgmmbaaProg
namespace Go.Proofs.Ytjefbekdjgmmbaa
open Go.RowKit
open Go.ChangeShapes Go.WideShapes Go.Deep

section
variable {H : Type} {enc : TypeId × Value → H} {w : World}
/-- A slice of numbers as it comes in. -/
theorem open_row {k : IntKind} {t e : TypeId} (ht : Try.prog.underlying t = some (.slice e)) (he : Try.prog.underlying e = some (.int k)) (hc : Try.prog.cellsOf e = 1) {fuel : Nat} {cs : List Value} {x : DataW H × List MemPlace} (h : DataW.trod enc Try.prog w 0 (fun _ => true) true fuel t cs = some x) :
    ∃ A N c zs, cs = [.slice A N c] ∧ N ≤ maxLen ∧ N ≤ c ∧ Arr k w w.heap.size A N zs := by
  rcases open_ints ht he hc h with ⟨rfl, _⟩ | ⟨a, len, cap, zs, rfl, _, hl, hm, hz, _, hcell, hwz⟩
  · exact ⟨none, 0, 0, [], rfl, Nat.zero_le _, Nat.le_refl _, Arr.zero⟩
  · have := arr_of_row (k := k) (w := w) (a := some a) (len := len) (cap := cap) (zs := zs) (.inr ⟨a, rfl, hl, hm, by simpa using hz, hcell, hwz⟩)
    exact ⟨some a, len, cap, _, rfl, this.1, this.2.1, this.2.2⟩
/-- .. and how it lies in the datum. -/
theorem open_rowZ {k : IntKind} {t e : TypeId} (ht : Try.prog.underlying t = some (.slice e)) (he : Try.prog.underlying e = some (.int k)) (hc : Try.prog.cellsOf e = 1) {fuel : Nat} {cs : List Value} {x : DataW H × List MemPlace} (h : DataW.trod enc Try.prog w 0 (fun _ => true) true fuel t cs = some x) :
    ∃ A N c zs, cs = [.slice A N c] ∧ N ≤ maxLen ∧ N ≤ c ∧ Arr k w w.heap.size A N zs ∧ (N = 0 ∨ ∃ el sp, x.1 = .slice el sp ∧ N ≤ el.length + sp.length) := by
  rcases open_ints ht he hc h with ⟨rfl, _⟩ | ⟨a, len, cap, zs, rfl, _, hl, hm, hz, hx, hcell, hwz⟩
  · exact ⟨none, 0, 0, [], rfl, Nat.zero_le _, Nat.le_refl _, Arr.zero, .inl rfl⟩
  · have hzc : zs.length = cap := by simpa using hz
    have := arr_of_row (k := k) (w := w) (a := some a) (len := len) (cap := cap) (zs := zs) (.inr ⟨a, rfl, hl, hm, hzc, hcell, hwz⟩)
    refine ⟨some a, len, cap, _, rfl, this.1, this.2.1, this.2.2, .inr ⟨_, _, congrArg Prod.fst hx, ?_⟩⟩
    simp [lits]
    omega
/-- How large a slice in a struct can be. -/
theorem sized_field {P : Program} {ts : List TypeId} {ds : List (DataW H)} (h : (DataW.weightsEach P ts ds).all (· ≤ reachBytes) = true) {j i : Nat} {t ft e : TypeId} {fs : Array Field} {parts el sp : List (DataW H)} (ht : ts[j]? = some t) (hd : ds[j]? = some (.agg parts)) (hu : P.underlying t = some (.struct fs))
    (hft : (fs.toList.map (·.type))[i]? = some ft) (hp : parts[i]? = some (.slice el sp)) (hue : P.underlying ft = some (.slice e)) : (el.length + sp.length) * P.bytesOf e ≤ reachBytes := by
  have := List.all_eq_true.1 h _ (DataW.weights_mem_each ht hd _ (show (el.length + sp.length) * P.bytesOf e ∈ DataW.weights P t (.agg parts) by
    simp only [DataW.weights, hu]
    exact DataW.weights_mem_each hft hp _ (by simp [DataW.weights, hue])))
  simpa using this
end
end Go.Proofs.Ytjefbekdjgmmbaa
