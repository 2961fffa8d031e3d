/-
  A region that copies the three slices of a struct into variables of their own, in whatever order. Over no program.
-/
import Derived.Test.YthdnfocemchgjaaCloneJ
namespace Go.Proofs.Ythdnfocemchgjaa
open Go.RowKit

/-- Fifteen operations as CloneJ's twelve: where a field lies is left out. -/
def virt3 (l : Array Bool) : Array Bool := #[l.getD 1 false, l.getD 2 false, l.getD 4 false, l.getD 5 false, l.getD 7 false, l.getD 8 false, l.getD 9 false, l.getD 10 false, l.getD 11 false, l.getD 12 false, l.getD 13 false, l.getD 14 false]
section
variable {l : Array Bool} {i : Nat}
theorem getD_set15 (h : l.size = 15) {p : Nat} (hp : p < 15) (q : Nat) : (l.setIfInBounds p true).getD q false = if q = p then true else l.getD q false := by
  by_cases e : q = p
  · subst e; rw [if_pos rfl]; exact listed_same (by omega)
  · rw [if_neg e]; exact listed_other (Ne.symm e)
theorem virtA (h : l.size = 15) (hi : i < 3) : virt3 (l.setIfInBounds (3 * i) true) = virt3 l := by
  unfold virt3
  simp only [getD_set15 h (show 3 * i < 15 by omega)]
  rcases (by omega : i = 0 ∨ i = 1 ∨ i = 2) with rfl | rfl | rfl <;> rfl
theorem virtL (h : l.size = 15) (hi : i < 3) : virt3 (l.setIfInBounds (3 * i + 1) true) = (virt3 l).setIfInBounds (2 * i) true := by
  unfold virt3
  simp only [getD_set15 h (show 3 * i + 1 < 15 by omega)]
  rcases (by omega : i = 0 ∨ i = 1 ∨ i = 2) with rfl | rfl | rfl <;> rfl
theorem virtC (h : l.size = 15) (hi : i < 3) : virt3 (l.setIfInBounds (3 * i + 2) true) = (virt3 l).setIfInBounds (2 * i + 1) true := by
  unfold virt3
  simp only [getD_set15 h (show 3 * i + 2 < 15 by omega)]
  rcases (by omega : i = 0 ∨ i = 1 ∨ i = 2) with rfl | rfl | rfl <;> rfl
theorem virtM (h : l.size = 15) (hi : i < 3) : virt3 (l.setIfInBounds (9 + i) true) = (virt3 l).setIfInBounds (2 * 3 + i) true := by
  unfold virt3
  simp only [getD_set15 h (show 9 + i < 15 by omega)]
  rcases (by omega : i = 0 ∨ i = 1 ∨ i = 2) with rfl | rfl | rfl <;> rfl
theorem virtP (h : l.size = 15) (hi : i < 3) : virt3 (l.setIfInBounds (12 + i) true) = (virt3 l).setIfInBounds (3 * 3 + i) true := by
  unfold virt3
  simp only [getD_set15 h (show 12 + i < 15 by omega)]
  rcases (by omega : i = 0 ∨ i = 1 ∨ i = 2) with rfl | rfl | rfl <;> rfl
theorem virt_l (hi : i < 3) : (virt3 l).getD (2 * i) false = l.getD (3 * i + 1) false := by
  rcases (by omega : i = 0 ∨ i = 1 ∨ i = 2) with rfl | rfl | rfl <;> rfl
theorem virt_c (hi : i < 3) : (virt3 l).getD (2 * i + 1) false = l.getD (3 * i + 2) false := by
  rcases (by omega : i = 0 ∨ i = 1 ∨ i = 2) with rfl | rfl | rfl <;> rfl
theorem virt_m (hi : i < 3) : (virt3 l).getD (2 * 3 + i) false = l.getD (9 + i) false := by
  rcases (by omega : i = 0 ∨ i = 1 ∨ i = 2) with rfl | rfl | rfl <;> rfl
theorem virt_all (h : ∀ j, j < 15 → l.getD j false = true) : ∀ j, j < 12 → (virt3 l).getD j false = true := fun j hj => by
  rcases (by omega : j = 0 ∨ j = 1 ∨ j = 2 ∨ j = 3 ∨ j = 4 ∨ j = 5 ∨ j = 6 ∨ j = 7 ∨ j = 8 ∨ j = 9 ∨ j = 10 ∨ j = 11) with rfl | rfl | rfl | rfl | rfl | rfl | rfl | rfl | rfl | rfl | rfl | rfl <;> exact h _ (by omega)
theorem unlisted (h : l.size = 15) {p : Nat} (hp : p < 15) (hu : l.getD p true = false) : l.getD p false = false := by
  have hp2 : p < l.size := by omega
  simp [Array.getD, hp2] at hu ⊢
  exact hu
end
/-- What holds in the middle of the region: where the fields lie, and the rest. -/
structure CloneK (W : World) (gx : Nat) (src : Nat → Value) (good : Nat → Value → World → Prop) (ty : Nat → TypeId) (listed : Array Bool) (vf vl vc va : Nat → Value) (w : World) : Prop where
  size : listed.size = 15
  j : CloneJ 3 W src good ty (virt3 listed) vl vc va w
  hf : ∀ i, i < 3 → listed.getD (3 * i) false = true → vf i = .pointer (some ⟨gx, i, none⟩)
section
variable {W : World} {gx : Nat} {src : Nat → Value} {good : Nat → Value → World → Prop} {ty : Nat → TypeId} {listed : Array Bool} {vf vl vc va : Nat → Value} {w w' : World} {i : Nat}
theorem CloneK.start : CloneK W gx src good ty (Array.replicate 15 false) vf vl vc va W.drew :=
  ⟨by simp, CloneJ.start (m := 3), fun i hi q => by simp [Array.getD] at q⟩
theorem CloneK.addr (h : CloneK W gx src good ty listed vf vl vc va w) (hi : i < 3) {vf' : Nat → Value} (h1 : vf' i = .pointer (some ⟨gx, i, none⟩)) (h2 : ∀ j, j < 3 → j ≠ i → vf' j = vf j) : CloneK W gx src good ty (listed.setIfInBounds (3 * i) true) vf' vl vc va w :=
  ⟨by simpa using h.size, by rw [virtA h.size hi]; exact h.j, fun j hj q => by
    by_cases e : j = i
    · subst e; exact h1
    · rw [h2 j hj e]; exact h.hf j hj ((listed_or q).resolve_left (by omega))⟩
theorem CloneK.load (h : CloneK W gx src good ty listed vf vl vc va w) (hi : i < 3) {vl' : Nat → Value} (h1 : vl' i = src i) (h2 : ∀ j, j < 3 → j ≠ i → vl' j = vl j) : CloneK W gx src good ty (listed.setIfInBounds (3 * i + 1) true) vf vl' vc va w :=
  ⟨by simpa using h.size, by rw [virtL h.size hi]; exact h.j.load hi h1 h2, fun j hj q => h.hf j hj ((listed_or q).resolve_left (by omega))⟩
theorem CloneK.loaded (h : CloneK W gx src good ty listed vf vl vc va w) (hi : i < 3) (q : listed.getD (3 * i + 1) false = true) : vl i = src i := h.j.hl i hi (by rw [virt_l hi]; exact q)
theorem CloneK.notYet (h : CloneK W gx src good ty listed vf vl vc va w) (hi : i < 3) (hu : listed.getD (9 + i) true = false ∨ listed.getD (3 * i + 2) true = false) : (virt3 listed).getD (3 * 3 + i) false = false := by
  cases hv : (virt3 listed).getD (3 * 3 + i) false
  · rfl
  · have hh := h.j.hr i hi hv
    rw [virt_m hi, virt_c hi] at hh
    rcases hu with hu | hu
    · rw [unlisted h.size (by omega) hu] at hh; cases hh.1
    · rw [unlisted h.size (by omega) hu] at hh; cases hh.2
theorem CloneK.call (hs : Stays good ty) (h : CloneK W gx src good ty listed vf vl vc va w) (hi : i < 3) (hn : (virt3 listed).getD (3 * 3 + i) false = false) (hb : Below w.heap.size w w') {vc' : Nat → Value} (h1 : good i (vc' i) w') (h2 : ∀ j, j < 3 → j ≠ i → vc' j = vc j) :
    CloneK W gx src good ty (listed.setIfInBounds (3 * i + 2) true) vf vl vc' va w' :=
  ⟨by simpa using h.size, by rw [virtC h.size hi]; exact h.j.call hs hi hn hb h1 h2, fun j hj q => h.hf j hj ((listed_or q).resolve_left (by omega))⟩
theorem CloneK.make (hs : Stays good ty) (h : CloneK W gx src good ty listed vf vl vc va w) (hi : i < 3) (hn : (virt3 listed).getD (3 * 3 + i) false = false) (z : Value) {va' : Nat → Value} (h1 : va' i = .pointer (some ⟨w.heap.size, 0, none⟩)) (h2 : ∀ j, j < 3 → j ≠ i → va' j = va j) :
    CloneK W gx src good ty (listed.setIfInBounds (9 + i) true) vf vl vc va' (w.alloc (.cells #[z] (ty i))) :=
  ⟨by simpa using h.size, by rw [virtM h.size hi]; exact h.j.make hs hi hn z h1 h2, fun j hj q => h.hf j hj ((listed_or q).resolve_left (by omega))⟩
theorem CloneK.made (h : CloneK W gx src good ty listed vf vl vc va w) (hi : i < 3) (q : listed.getD (9 + i) false = true) : ∃ g x, va i = .pointer (some ⟨g, 0, none⟩) ∧ W.heap.size ≤ g ∧ Box w g (ty i) #[x] := by
  obtain ⟨g, x, a1, a2, a3, _⟩ := h.j.ha i hi (by rw [virt_m hi]; exact q)
  exact ⟨g, x, a1, a2, a3⟩
theorem CloneK.copied (h : CloneK W gx src good ty listed vf vl vc va w) (hi : i < 3) (q : listed.getD (3 * i + 2) false = true) : good i (vc i) w := h.j.hc i hi (by rw [virt_c hi]; exact q)
theorem CloneK.put (hs : Stays good ty) (h : CloneK W gx src good ty listed vf vl vc va w) (hi : i < 3) {g : Nat} {x : Value} (hv : va i = .pointer (some ⟨g, 0, none⟩)) (hg : W.heap.size ≤ g) (hB : Box w g (ty i) #[x]) (d1 : listed.getD (9 + i) false = true) (d2 : listed.getD (3 * i + 2) false = true) :
    CloneK W gx src good ty (listed.setIfInBounds (12 + i) true) vf vl vc va (w.setCell ⟨g, 0, none⟩ (vc i)) :=
  ⟨by simpa using h.size, by rw [virtP h.size hi]; exact h.j.put hs hi hv hg hB (by rw [virt_m hi]; exact d1) (by rw [virt_c hi]; exact d2), fun j hj q => h.hf j hj ((listed_or q).resolve_left (by omega))⟩
theorem CloneK.done (h : CloneK W gx src good ty listed vf vl vc va w) (hall : ∀ j, j < 15 → listed.getD j false = true) : ∀ i, i < 3 → good i (vc i) w ∧ ∃ g, va i = .pointer (some ⟨g, 0, none⟩) ∧ W.heap.size ≤ g ∧ Box w g (ty i) #[vc i] :=
  h.j.done (virt_all hall)
end
end Go.Proofs.Ythdnfocemchgjaa
