/-
  A slice of slices of integers as it comes in.
-/
import Derived.Test.YtknbbondofijeaaTriArg
import Derived.Test.YtknbbondofijeaaRec
namespace Go.Proofs.Ytknbbondofijeaa
open Go.RowKit
open Go.ChangeShapes Go.WideShapes Go.Deep

/-- A row: where it lies, its length and capacity, its numbers. -/
abbrev Rw := Option Addr × Nat × Nat × List Int
/-- What is known of a slice of slices of integers that came in. -/
structure RowsIn (w : World) (A : Option Addr) (N : Nat) (l : List Rw) : Prop where
  hn : N ≤ maxLen
  cells : 0 < N → ∃ b off, A = some ⟨b, off, none⟩ ∧ b < w.heap.size ∧ ∀ j, j < N → w.cell? ⟨b, off + j, none⟩ = some (.slice (nthG l j).1 (nthG l j).2.1 (nthG l j).2.2.1)
  rows : ∀ j, j < N → (nthG l j).2.1 ≤ maxLen ∧ Arr .i64 w w.heap.size (nthG l j).1 (nthG l j).2.1 (nthG l j).2.2.2
theorem list_ofR {α : Type} [Inhabited α] {Q : Nat → α → Prop} : ∀ n, (∀ i, i < n → ∃ a, Q i a) → ∃ la : List α, la.length = n ∧ ∀ i, i < n → Q i (nthG la i)
  | 0, _ => ⟨[], rfl, fun i hi => absurd hi (by omega)⟩
  | n + 1, h => by
    obtain ⟨la, h1, h3⟩ := list_ofR n (fun i hi => h i (by omega))
    obtain ⟨a, hab⟩ := h n (by omega)
    refine ⟨la ++ [a], by simp [h1], fun i hi => ?_⟩
    rcases Nat.lt_succ_iff_lt_or_eq.1 hi with hi | hi
    · have e : nthG (la ++ [a]) i = nthG la i := by
        rw [nthG_get _ _ (by simp; omega), nthG_get _ _ (by omega), List.getElem_append_left (by omega)]
      rw [e]; exact h3 i hi
    · subst hi
      rw [nthG_get _ _ (by simp [h1]), List.getElem_append_right (by omega)]
      simpa [h1] using hab
section
variable {H : Type} {enc : TypeId × Value → H} {w : World}
theorem open_rows {fuel : Nat} {cs : List Value} {x : DataW H × List MemPlace} (h : DataW.trod enc Try.prog w 0 (fun _ => true) true fuel 54 cs = some x) :
    ∃ A N c l, cs = [.slice A N c] ∧ RowsIn w A N l := by
  have h2 : Try.prog.cellsOf 23 = 1 := by kernel_rfl
  rcases open_slice Try.underlying54 h with ⟨rfl, _⟩ | ⟨a, len, cap, m, n, D, Pl, rfl, _, hl, hm, hmm, rfl, hi⟩
  · exact ⟨none, 0, 0, [], rfl, ⟨Nat.zero_le _, fun h => absurd h (by omega), fun j hj => absurd hj (by omega)⟩⟩
  · rw [h2] at hi
    have hmc : m = cap := by simpa using hmm
    obtain ⟨l, hr, hall⟩ := list_ofR (α := Rw) (Q := fun i r => w.cell? (a.add i) = some (.slice r.1 r.2.1 r.2.2.1) ∧ r.2.1 ≤ maxLen ∧ Arr .i64 w w.heap.size r.1 r.2.1 r.2.2.2) len (fun i hil => by
      obtain ⟨cs', hc, ht⟩ := hi i (by omega)
      obtain ⟨A', N', c', zs', rfl, q1, _, q3⟩ := open_row Try.underlying23 Try.underlying3 (by kernel_rfl) ht
      refine ⟨(A', N', c', zs'), ?_, q1, q3⟩
      have := cell_of_cells?_one hc
      rwa [Nat.mul_one] at this)
    refine ⟨some a, len, cap, l, rfl, ⟨Nat.le_trans hl hm, fun h0 => ?_, fun j hj => (hall j hj).2⟩⟩
    have hc := (hall 0 h0).1
    obtain ⟨b, off, spot⟩ := a
    have hspot : spot = none := by simpa [Addr.add] using World.cell?_spot hc
    subst hspot
    have hadd : ∀ j, (⟨b, off, none⟩ : Addr).add j = ⟨b, off + j, none⟩ := fun j => by unfold Addr.add; split <;> simp_all
    refine ⟨b, off, rfl, ?_, fun j hj => ?_⟩
    · rw [hadd] at hc
      rcases Nat.lt_or_ge b w.heap.size with h | h
      · exact h
      · simp [World.cell?, Array.getElem?_eq_none h] at hc
    · rw [← hadd]; exact (hall j hj).1
end
end Go.Proofs.Ytknbbondofijeaa
