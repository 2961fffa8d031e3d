/-
  Words and small facts on memory, over no program: a slice of integers that reads as a list of numbers ('Arr'), and a block that is known whole ('Whole').
-/
import Derived.WalkKit
import Derived.Below
import Derived.Lib.Hide
import Derived.Laws.OwnMore
import Derived.Laws.Rows
import Derived.Laws.CopyOwn
import Derived.Deep.Draws
import Derived.Deep.OwnRows
import Derived.Deep.QuietTactic
import Derived.BigQuiet
namespace Go.Proofs.Ytkijgbjlipfikaa
open Go.RowKit

/-- The slice value ('A', 'n') reads in 'w' as the numbers 'zs', each fitting its kind, and lies below block 'B'. -/
def Arr (k : IntKind) (w : World) (B : Nat) (A : Option Addr) (n : Nat) (zs : List Int) : Prop :=
  zs.length = n ∧ (∀ z ∈ zs, (Lit.int k z).wf = true) ∧ (0 < n → ∃ b off, A = some ⟨b, off, none⟩ ∧ b < B ∧ ∀ j, j < n → w.cell? ⟨b, off + j, none⟩ = some (.int k (zs.getD j 0)))

/-- Block 'g' is just the numbers 'zs', none frozen. -/
def Whole (k : IntKind) (t : TypeId) (w : World) (g : Nat) (zs : List Int) : Prop :=
  w.heap[g]? = some (.cells (zs.map (Value.int k)).toArray t (0, 0)) ∧ ∀ z ∈ zs, (Lit.int k z).wf = true

section
variable {k : IntKind} {t : TypeId} {w w' : World} {B B' g n : Nat} {A : Option Addr} {zs : List Int}
theorem Arr.keep (h : Arr k w B A n zs) (hk : ∀ p : Addr, p.block < B → w'.cell? p = w.cell? p) : Arr k w' B A n zs :=
  ⟨h.1, h.2.1, fun hn => by
    obtain ⟨b, off, e, hb, hc⟩ := h.2.2 hn
    exact ⟨b, off, e, hb, fun j hj => (hk _ hb).trans (hc j hj)⟩⟩
theorem Arr.below (h : Arr k w B A n zs) (hb : Below B' w w') (hB : B ≤ B') : Arr k w' B A n zs := h.keep fun _ hp => hb.cell (by omega)
theorem Arr.more (h : Arr k w B A n zs) (hB : B ≤ B') : Arr k w B' A n zs :=
  ⟨h.1, h.2.1, fun hn => by
    obtain ⟨b, off, e, hb, hc⟩ := h.2.2 hn
    exact ⟨b, off, e, by omega, hc⟩⟩
theorem Arr.drewN (h : Arr k w B A n zs) (q : Nat) : Arr k (w.drewN q) B A n zs := h
theorem Arr.zero : Arr k w B A 0 [] := ⟨rfl, (fun z hz => by cases hz), fun h => absurd h (by omega)⟩
theorem Whole.lt (h : Whole k t w g zs) : g < w.heap.size := by
  rcases Nat.lt_or_ge g w.heap.size with hlt | hge
  · exact hlt
  · have := h.1; rw [Array.getElem?_eq_none hge] at this; cases this
theorem Whole.cell (h : Whole k t w g zs) {j : Nat} (hj : j < zs.length) : w.cell? ⟨g, j, none⟩ = some (.int k (zs.getD j 0)) := by
  rw [cell_of_row w g j _ t (0, 0) h.1]
  simp [List.getElem?_map, List.getElem?_eq_getElem hj]
theorem Whole.frozen (h : Whole k t w g zs) (j : Nat) : w.frozen? ⟨g, j, none⟩ = false := by
  have := h.1
  simp [World.frozen?, this]
theorem Whole.arr (h : Whole k t w g zs) (hB : g < B) : Arr k w B (some ⟨g, 0, none⟩) zs.length zs :=
  ⟨rfl, h.2, fun _ => ⟨g, 0, rfl, hB, fun j hj => by rw [Nat.zero_add]; exact h.cell hj⟩⟩
theorem Whole.below (h : Whole k t w g zs) (hb : Below B w w') (hg : g < B) : Whole k t w' g zs := ⟨(hb.block g hg).trans h.1, h.2⟩
theorem Whole.set_ (h : Whole k t w g zs) (j : Nat) (z : Int) (hz : (Lit.int k z).wf = true) : Whole k t (w.setCell ⟨g, j, none⟩ (.int k z)) g (zs.set j z) := by
  refine ⟨?_, fun y hy => ?_⟩
  · have h1 := h.1
    simp [World.setCell, Array.getElem?_modify, h1, List.map_set]
  · rcases List.mem_or_eq_of_mem_set hy with h1 | h1
    · exact h.2 y h1
    · rw [h1]; exact hz
end
theorem whole_new (k : IntKind) (t : TypeId) (w : World) (zs : List Int) (hz : ∀ z ∈ zs, (Lit.int k z).wf = true) : Whole k t (w.alloc (.cells (zs.map (Value.int k)).toArray t)) w.heap.size zs := ⟨heap_alloc_new w _, hz⟩
theorem Whole.alloc {k : IntKind} {t : TypeId} {w : World} {g : Nat} {zs : List Int} (h : Whole k t w g zs) (o : Obj) : Whole k t (w.alloc o) g zs := ⟨(Below.heap_alloc w o g h.lt).trans h.1, h.2⟩
theorem whole_at (k : IntKind) (t : TypeId) {w : World} {g : Nat} (zs : List Int) (hz : ∀ z ∈ zs, (Lit.int k z).wf = true) (hg : w.heap.size = g) : Whole k t (w.alloc (.cells (zs.map (Value.int k)).toArray t)) g zs := hg ▸ whole_new k t w zs hz
theorem lit_le (z : Int) (N : Nat) (h : 0 ≤ z ∧ z ≤ N) : ∃ k : Nat, k ≤ N ∧ Value.int .i64 z = .int .i64 k := ⟨z.toNat, by omega, by rw [Int.toNat_of_nonneg h.1]⟩
theorem below_drewN {B : Nat} {a w : World} (h : Below B a w) (n : Nat) : Below B a (w.drewN n) := ⟨h.os, h.tape, h.output, h.size, h.block⟩
theorem wf_u64 {z : Int} : (Lit.int .u64 z).wf = true ↔ 0 ≤ z ∧ z ≤ 18446744073709551615 := by
  simp [Lit.wf, IntKind.min, IntKind.max, IntKind.signed, IntKind.bits]
theorem wf_i64 {z : Int} : (Lit.int .i64 z).wf = true ↔ -9223372036854775808 ≤ z ∧ z ≤ 9223372036854775807 := by
  simp [Lit.wf, IntKind.min, IntKind.max, IntKind.signed, IntKind.bits]
end Go.Proofs.Ytkijgbjlipfikaa
