/-
  A block known whole, of whatever cells ('Box'); the cells of a spot in a slice. Over no program.
-/
import Derived.Test.YtknbbondofijeaaWalkM
namespace Go.Proofs.Ytknbbondofijeaa
open Go.RowKit

/-- Block 'g' is just the cells 'cs', none frozen. -/
def Box (w : World) (g : Nat) (t : TypeId) (cs : Array Value) : Prop := w.heap[g]? = some (.cells cs t (0, 0))
section
variable {w w' : World} {g B : Nat} {t : TypeId} {cs : Array Value}
theorem Box.new (w : World) (t : TypeId) (cs : Array Value) : Box (w.alloc (.cells cs t)) w.heap.size t cs := by
  show (w.heap.push _)[w.heap.size]? = _
  simp
theorem Box.lt (h : Box w g t cs) : g < w.heap.size := by
  rcases Nat.lt_or_ge g w.heap.size with hlt | hge
  · exact hlt
  · have := h; unfold Box at this; rw [Array.getElem?_eq_none hge] at this; cases this
theorem Box.below (h : Box w g t cs) (hb : Below B w w') (hg : g < B) : Box w' g t cs := (hb.block g hg).trans h
theorem Box.alloc (h : Box w g t cs) (o : Obj) : Box (w.alloc o) g t cs := (Below.heap_alloc w o g h.lt).trans h
theorem Box.cell (h : Box w g t cs) (j : Nat) : w.cell? ⟨g, j, none⟩ = cs[j]? := by
  unfold Box at h
  rw [cell_of_row w g _ _ t (0, 0) h]
theorem Box.soft (h : Box w g t cs) (j : Nat) : w.frozen? ⟨g, j, none⟩ = false := by
  unfold Box at h
  simp [World.frozen?, h]
theorem Box.set (h : Box w g t cs) (j : Nat) (d : Value) : Box (w.setCell ⟨g, j, none⟩ d) g t (cs.setIfInBounds j d) := by
  unfold Box at *
  simp [World.setCell, Array.getElem?_modify, h]
/-- A block that was laid ahead of a call. -/
theorem boxed_call (h : Below (w.alloc (.cells cs t)).heap.size (w.alloc (.cells cs t)) w') : Box w' w.heap.size t cs ∧ Below w.heap.size w w' :=
  have n0 := Box.new w t cs
  ⟨n0.below h n0.lt, ((Below.refl _ w).alloc (Nat.le_refl _) _).trans (h.mono (Nat.le_of_lt n0.lt))⟩
theorem Box.set4 {c0 c1 c2 c3 : Value} (h : Box w g t #[c0, c1, c2, c3]) (d0 d1 d2 d3 : Value) :
    Box ((((w.setCell ⟨g, 0, none⟩ d0).setCell ⟨g, 1, none⟩ d1).setCell ⟨g, 2, none⟩ d2).setCell ⟨g, 3, none⟩ d3) g t #[d0, d1, d2, d3] := by
  unfold Box at *
  simp [World.setCell, Array.getElem?_modify, h]
end
theorem below_of_drew {B : Nat} {a w : World} (h : Below B a.drew w) : Below B a w := ⟨h.os, h.tape, h.output, h.size, h.block⟩
theorem below_set {B : Nat} {a w : World} (h : Below B a w) {g : Nat} (hg : B ≤ g) (j : Nat) (d : Value) : Below B a (w.setCell ⟨g, j, none⟩ d) :=
  ⟨h.os, h.tape, h.output, by have := h.size; simpa [World.setCell] using this, fun i hi => by
    rw [← h.block i hi]
    show (w.heap.modify g _)[i]? = _
    rw [Array.getElem?_modify, if_neg (by omega)]⟩
theorem ArrG.spot {w : World} {B n : Nat} {A : Option Addr} {l : List Sp} (h : ArrG spotC 5 w B A n l) {j : Nat} (hj : j < n) :
    ∃ b off, A = some ⟨b, off, none⟩ ∧ b < B ∧ w.cell? ⟨b, off + j * 5, none⟩ = some (.int .i64 (nthG l j).1) ∧ w.cell? ⟨b, off + j * 5 + 1, none⟩ = some (.int .i64 (nthG l j).2.1) ∧ w.cell? ⟨b, off + j * 5 + 2, none⟩ = some (.int .i64 (nthG l j).2.2.1) ∧
      w.cell? ⟨b, off + j * 5 + 3, none⟩ = some (.int .i64 (nthG l j).2.2.2.1) ∧ w.cell? ⟨b, off + j * 5 + 4, none⟩ = some (.bool (nthG l j).2.2.2.2) := by
  obtain ⟨b, off, e, hb, hc⟩ := h.at_ hj
  exact ⟨b, off, e, hb, hc 0 (by omega), hc 1 (by omega), hc 2 (by omega), hc 3 (by omega), hc 4 (by omega)⟩
theorem nthG_map {α β : Type} [Inhabited α] [Inhabited β] (f : α → β) (l : List α) (j : Nat) (h : j < l.length) : nthG (l.map f) j = f (nthG l j) := by
  rw [nthG_get _ _ (by simpa using h), nthG_get _ _ h, List.getElem_map]
theorem begins_nil {zs : List Int} {a : Nat} (h : begins zs a = []) (hf : fine zs a = true) : zs.length ≤ a := by
  rcases Nat.lt_or_ge a zs.length with h1 | h1
  · cases hs : stepOk zs a
    · rw [fine_bad h1 hs] at hf; cases hf
    · rw [begins_step h1 hs] at h; cases h
  · exact h1
theorem begins_cons {zs : List Int} {a s : Nat} {l : List Nat} (h : begins zs a = s :: l) : s = a ∧ a < zs.length ∧ stepOk zs a = true ∧ l = begins zs (a + sLong (nth zs a)) := by
  rcases Nat.lt_or_ge a zs.length with h1 | h1
  · cases hs : stepOk zs a
    · rw [begins, if_pos h1, hs] at h; simp at h
    · rw [begins_step h1 hs] at h
      cases h
      exact ⟨rfl, h1, rfl, rfl⟩
  · rw [begins_end h1] at h; cases h
/-- The object after 'k' objects, where there is one. -/
theorem begins_drop {zs : List Int} {k a : Nat} (h : (begins zs 0).drop k = begins zs a) (hf : fine zs a = true) (hk : k < (begins zs 0).length) :
    nthG (begins zs 0) k = a ∧ a < zs.length ∧ stepOk zs a = true ∧ (begins zs 0).drop (k + 1) = begins zs (a + sLong (nth zs a)) ∧ fine zs (a + sLong (nth zs a)) = true := by
  rw [List.drop_eq_getElem_cons hk] at h
  obtain ⟨e1, e2, e3, e4⟩ := begins_cons h.symm
  refine ⟨by rw [nthG_get _ _ hk]; exact e1, e2, e3, e4, ?_⟩
  rw [← fine_step e2 e3]; exact hf
/-- 'x[p:]'. -/
theorem run_from {P : Program} {t e : TypeId} (ht : P.underlying t = some (.slice e)) (hs : (P.info? e).map (·.size) = some 1) (A : Option Addr) (len cap p : Nat) (l : Int) (hl : l = p) (hp : p ≤ len) (hc : len ≤ cap) :
    ∃ D, (∀ wx, Sem.run P (Instr.slice t (.slice A len cap) (some (.int .i64 l)) none none) wx = .ok (.slice D (len - p) (cap - p)) wx) ∧ ∀ b off, A = some ⟨b, off, none⟩ → 0 < len - p → D = some ⟨b, off + p, none⟩ := by
  have he : P.elem t = e := by simp [Program.elem, ht]
  have ht' : P.underlying t = some (.slice (P.elem t)) := by rw [he]; exact ht
  refine ⟨if cap = p then A else A.map (·.add p), fun wx => ?_, fun b off hA hq0 => ?_⟩
  · rw [run_slice_l wx t A len cap ht' .i64 l (by omega) (by omega)]
    cases hi : P.info? e with
    | none => simp [hi] at hs
    | some i =>
      have h1 : i.size = 1 := by simpa [hi] using hs
      have e1 : l.toNat = p := by omega
      simp [he, sizeOf, typeInfo, hi, h1, sliced, e1]
  · subst hA
    rw [if_neg (by omega)]
    simp only [Option.map_some]
    congr 1
    unfold Addr.add
    split <;> simp_all
/-- 'x[:q]'. -/
theorem run_upto {P : Program} {t e : TypeId} (ht : P.underlying t = some (.slice e)) (hs : (P.info? e).map (·.size) = some 1) (A : Option Addr) (len cap q : Nat) (h : Int) (hh : h = q) (hc : q ≤ cap) :
    ∃ D, (∀ wx, Sem.run P (Instr.slice t (.slice A len cap) none (some (.int .i64 h)) none) wx = .ok (.slice D q cap) wx) ∧ ∀ b off, A = some ⟨b, off, none⟩ → D = some ⟨b, off, none⟩ := by
  have he : P.elem t = e := by simp [Program.elem, ht]
  have ht' : P.underlying t = some (.slice (P.elem t)) := by rw [he]; exact ht
  refine ⟨if cap = 0 then A else A.map (·.add 0), fun wx => ?_, fun b off hA => ?_⟩
  · rw [run_slice_h wx t A len cap ht' .i64 h (by omega) (by omega)]
    cases hi : P.info? e with
    | none => simp [hi] at hs
    | some i =>
      have h1 : i.size = 1 := by simpa [hi] using hs
      have e1 : h.toNat = q := by omega
      simp [he, sizeOf, typeInfo, hi, h1, sliced, e1]
  · subst hA
    split
    · rfl
    · simp [Addr.add]
/-- 'x[p:][:q]': the two in one. -/
theorem Arr.cut2 {k : IntKind} {w : World} {B n : Nat} {A D E : Option Addr} {zs : List Int} (h : Arr k w B A n zs) {p q : Nat} (hpq : p + q ≤ n) (hD : ∀ b off, A = some ⟨b, off, none⟩ → 0 < n - p → D = some ⟨b, off + p, none⟩) (hE : ∀ b off, D = some ⟨b, off, none⟩ → E = some ⟨b, off, none⟩) :
    Arr k w B E q ((zs.drop p).take q) :=
  h.cut hpq fun b off hA hq => hE _ _ (hD b off hA (by omega))
end Go.Proofs.Ytknbbondofijeaa
