/-
  New rows of structs, all zero, over no program.
-/
import Derived.Test.YtknbbondofijeaaRec
namespace Go.Proofs.Ytknbbondofijeaa
open Go.RowKit

theorem zero_flat {α : Type} [Inhabited α] {enc : α → List Value} {size : Nat} (hs : ∀ a, (enc a).length = size) (h0 : 0 < size) {z : Array Value} (x : α) (hx : enc x = z.toList) (q : Nat) : Builtin.zeroCells z q = ((List.replicate q x).flatMap enc).toArray := by
  have hzs : z.size = size := by rw [← hs x, hx]; simp
  apply Array.ext
  · rw [size_zeroCells, hzs, List.size_toArray, flat_length hs, List.length_replicate]
  · intro i h1 h2
    have hi : i < q * size := by rwa [size_zeroCells, hzs] at h1
    have d1 : i / size < q := Nat.div_lt_of_lt_mul (by rw [Nat.mul_comm]; exact hi)
    have d2 := Nat.mod_lt i h0
    have d3 := Nat.div_add_mod' i size
    have h3 := flat_at hs (List.replicate q x) (i / size) (i % size) (by simpa using d1) d2
    rw [d3, nthG_get _ _ (by simpa using d1), List.getElem_replicate, hx, List.getElem?_eq_getElem (by rw [List.size_toArray] at h2; exact h2), List.getElem?_eq_getElem (by simp [hzs]; exact d2)] at h3
    injection h3 with h3
    refine Eq.trans ?_ h3.symm
    simp [Builtin.zeroCells, hzs, d2]
theorem OwnG.lessH {α : Type} {enc : α → List Value} {size : Nat} {e : TypeId} {w : World} {base : Nat} {l : List α} {v : Value} {base' : Nat} (h : OwnG enc size e w base v l) (hb : base' ≤ base) : OwnG enc size e w base' v l :=
  ⟨h.1, h.2.imp id fun ⟨g, cap, cur, h1, h2, r⟩ => ⟨g, cap, cur, h1, Nat.le_trans hb h2, r⟩⟩
/-- 'make([]T, n)' of structs. -/
theorem run_made_rows {α : Type} [Inhabited α] {enc : α → List Value} {size : Nat} (hs : ∀ a, (enc a).length = size) (h0 : 0 < size) {P : Program} {t e : TypeId} (ht : P.underlying t = some (.slice e)) {z : Value} {bytes : Nat}
    (hinfo : (P.info? e).map (fun i => (i.zero, i.size, i.bytes)) = some (some z, size, bytes)) {x0 : α} (hx0 : enc x0 = z.cells.toList) (n : Nat) (hn : n * bytes ≤ 281474976710656) (hm : n ≤ maxLen) (w : World) :
    ∃ w', Sem.run P (Instr.makeSlice t (.int .i64 (n : Int)) (.int .i64 (n : Int))) w = .ok (.slice (some ⟨w.heap.size, 0, none⟩) n n) w' ∧ OwnG enc size e w' w.heap.size (.slice (some ⟨w.heap.size, 0, none⟩) n n) (List.replicate n x0) ∧ Below w.heap.size w w' := by
  obtain ⟨i, hi, hz, hs', hby⟩ := info_parts hinfo
  have hb' : (i.bytes : Int) * (n : Int) ≤ 281474976710656 := by
    have h : ((i.bytes * n : Nat) : Int) ≤ 281474976710656 := by rw [hby, Nat.mul_comm]; omega
    rwa [Int.natCast_mul] at h
  have hr := run_make (P := P) w t e i z ht hi hz .i64 .i64 n n (by omega) (Int.le_refl _) hb' (by unfold maxLen at hm; omega)
  simp only [Int.toNat_natCast] at hr
  have e1 : madeCells z.cells (n * i.size) = ((List.replicate n x0).flatMap enc).toArray := by
    rw [← zero_flat hs h0 (z := z.cells) x0 hx0, hs', Builtin.zeroCells, madeCells]
    have : z.cells.size = size := by rw [← hs x0, hx0]; simp
    rw [this]
  rw [e1] at hr
  refine ⟨_, hr, ⟨flat_length hs _, .inr ⟨w.heap.size, n, ((List.replicate n x0).flatMap enc).toArray, by simp, Nat.le_refl _, heap_alloc_new w _, by simp, hm, ?_, ?_⟩⟩, (Below.refl _ w).alloc (Nat.le_refl _) _⟩
  · rw [List.size_toArray, flat_length hs, List.length_replicate]
  · rw [List.toList_toArray, List.take_of_length_le (by rw [flat_length hs]; exact Nat.le_refl _)]
end Go.Proofs.Ytknbbondofijeaa
