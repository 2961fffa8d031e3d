/-
  A region that makes copies of some slices and stores them into variables of their own, in whatever order. Over no program.
-/
import Derived.Test.YthdnfocemchgjaaGreatPinOJ
import Derived.Test.YthdnfocemchgjaaGreatOwnF
namespace Go.Proofs.YthdnfocemchgjaaGreat
open Go.RowKit

def fn3 (a b c : Value) : Nat → Value
  | 0 => a
  | 1 => b
  | _ => c
/-- Of 'm' slices: number 'i' is loaded by operation 2 i, copied by 2 i + 1, its variable made by 2 m + i, and written by 3 m + i. -/
structure CloneJ (m : Nat) (W : World) (src : Nat → Value) (good : Nat → Value → World → Prop) (ty : Nat → TypeId) (listed : Array Bool) (vl vc va : Nat → Value) (w : World) : Prop where
  size : listed.size = 4 * m
  below : Below W.heap.size W w
  hl : ∀ i, i < m → listed.getD (2 * i) false = true → vl i = src i
  hc : ∀ i, i < m → listed.getD (2 * i + 1) false = true → good i (vc i) w
  ha : ∀ i, i < m → listed.getD (2 * m + i) false = true → ∃ g x, va i = .pointer (some ⟨g, 0, none⟩) ∧ W.heap.size ≤ g ∧ Box w g (ty i) #[x] ∧ (listed.getD (3 * m + i) false = true → x = vc i)
  hd : ∀ i j, i < m → j < m → i ≠ j → listed.getD (2 * m + i) false = true → listed.getD (2 * m + j) false = true → va i ≠ va j
  hr : ∀ i, i < m → listed.getD (3 * m + i) false = true → listed.getD (2 * m + i) false = true ∧ listed.getD (2 * i + 1) false = true
/-- What is kept: by later worlds, and by a store into such a variable. -/
structure Stays (good : Nat → Value → World → Prop) (ty : Nat → TypeId) : Prop where
  later : ∀ i v w w', good i v w → Below w.heap.size w w' → good i v w'
  store : ∀ i j g x v w d, good i v w → Box w g (ty j) #[x] → good i v (w.setCell ⟨g, 0, none⟩ d)
section
variable {m : Nat} {W : World} {src : Nat → Value} {good : Nat → Value → World → Prop} {ty : Nat → TypeId} {listed : Array Bool} {vl vc va : Nat → Value} {w w' : World} {i : Nat}
omit W src good ty vl vc va w w' i in
theorem listed_up {a q : Nat} (h : listed.getD q false = true) : (listed.setIfInBounds a true).getD q false = true := by
  by_cases he : a = q
  · subst he
    rcases Nat.lt_or_ge a listed.size with hl | hl
    · exact listed_same hl
    · simp [Array.getD, Nat.not_lt.2 hl] at h
  · rw [listed_other he]; exact h
omit W src good ty vl vc va w w' i in
theorem listed_or {a q : Nat} (h : (listed.setIfInBounds a true).getD q false = true) : q = a ∨ listed.getD q false = true := by
  by_cases he : a = q
  · exact .inl he.symm
  · rw [listed_other he] at h; exact .inr h
theorem CloneJ.start : CloneJ m W src good ty (Array.replicate (4 * m) false) vl vc va W.drew :=
  ⟨by simp, below_drewN (Below.refl _ W) 1, by simp [Array.getD], by simp [Array.getD], by simp [Array.getD], by simp [Array.getD], by simp [Array.getD]⟩
theorem CloneJ.later (hs : Stays good ty) (h : CloneJ m W src good ty listed vl vc va w) (hb : Below w.heap.size w w') : CloneJ m W src good ty listed vl vc va w' :=
  ⟨h.size, h.below.trans (hb.mono h.below.size), h.hl, fun i hi q => hs.later _ _ _ _ (h.hc i hi q) hb, fun i hi q => by
    obtain ⟨g, x, h1, h2, h3, h4⟩ := h.ha i hi q
    exact ⟨g, x, h1, h2, h3.below hb h3.lt, h4⟩, h.hd, h.hr⟩
theorem CloneJ.load (h : CloneJ m W src good ty listed vl vc va w) (hi : i < m) {vl' : Nat → Value} (h1 : vl' i = src i) (h2 : ∀ j, j < m → j ≠ i → vl' j = vl j) : CloneJ m W src good ty (listed.setIfInBounds (2 * i) true) vl' vc va w := by
  refine ⟨by simpa using h.size, h.below, fun j hj q => ?_, fun j hj q => ?_, fun j hj q => ?_, fun j k hj hk hne q q' => ?_, fun j hj q => ?_⟩
  · by_cases e : j = i
    · subst e; exact h1
    · rw [h2 j hj e]; exact h.hl j hj ((listed_or q).resolve_left (by omega))
  · exact h.hc j hj ((listed_or q).resolve_left (by omega))
  · obtain ⟨g, x, a1, a2, a3, a4⟩ := h.ha j hj ((listed_or q).resolve_left (by omega))
    exact ⟨g, x, a1, a2, a3, fun q' => a4 ((listed_or q').resolve_left (by omega))⟩
  · exact h.hd j k hj hk hne ((listed_or q).resolve_left (by omega)) ((listed_or q').resolve_left (by omega))
  · exact (h.hr j hj ((listed_or q).resolve_left (by omega))).imp listed_up listed_up
theorem CloneJ.call (hs : Stays good ty) (h : CloneJ m W src good ty listed vl vc va w) (hi : i < m) (hn : listed.getD (3 * m + i) false = false) (hb : Below w.heap.size w w') {vc' : Nat → Value} (h1 : good i (vc' i) w') (h2 : ∀ j, j < m → j ≠ i → vc' j = vc j) :
    CloneJ m W src good ty (listed.setIfInBounds (2 * i + 1) true) vl vc' va w' := by
  have h := h.later hs hb
  refine ⟨by simpa using h.size, h.below, fun j hj q => h.hl j hj ((listed_or q).resolve_left (by omega)), fun j hj q => ?_, fun j hj q => ?_, fun j k hj hk hne q q' => ?_, fun j hj q => ?_⟩
  · by_cases e : j = i
    · subst e; exact h1
    · rw [h2 j hj e]; exact h.hc j hj ((listed_or q).resolve_left (by omega))
  · obtain ⟨g, x, a1, a2, a3, a4⟩ := h.ha j hj ((listed_or q).resolve_left (by omega))
    refine ⟨g, x, a1, a2, a3, fun q' => ?_⟩
    have q2 := (listed_or q').resolve_left (by omega)
    by_cases e : j = i
    · subst e; rw [hn] at q2; cases q2
    · rw [h2 j hj e]; exact a4 q2
  · exact h.hd j k hj hk hne ((listed_or q).resolve_left (by omega)) ((listed_or q').resolve_left (by omega))
  · exact (h.hr j hj ((listed_or q).resolve_left (by omega))).imp listed_up listed_up
theorem CloneJ.make (hs : Stays good ty) (h : CloneJ m W src good ty listed vl vc va w) (hi : i < m) (hn : listed.getD (3 * m + i) false = false) (z : Value) {va' : Nat → Value} (h1 : va' i = .pointer (some ⟨w.heap.size, 0, none⟩)) (h2 : ∀ j, j < m → j ≠ i → va' j = va j) :
    CloneJ m W src good ty (listed.setIfInBounds (2 * m + i) true) vl vc va' (w.alloc (.cells #[z] (ty i))) := by
  have hsz := h.below.size
  have hold := h.ha
  have h := h.later hs ((Below.refl _ w).alloc (Nat.le_refl _) (.cells #[z] (ty i)))
  have hne' : ∀ j, j < m → j ≠ i → listed.getD (2 * m + j) false = true → va' j ≠ va' i := fun j hj e q => by
    obtain ⟨g, x, a1, a2, a3, a4⟩ := hold j hj q
    rw [h2 j hj e, h1, a1]
    intro e2
    injection e2 with e2
    injection e2 with e2
    injection e2 with e2
    have := a3.lt
    omega
  refine ⟨by simpa using h.size, h.below, fun j hj q => h.hl j hj ((listed_or q).resolve_left (by omega)), fun j hj q => h.hc j hj ((listed_or q).resolve_left (by omega)), fun j hj q => ?_, fun j k hj hk hne q q' => ?_, fun j hj q => ?_⟩
  · by_cases e : j = i
    · subst e
      refine ⟨_, z, h1, hsz, Box.new _ _ _, fun q' => ?_⟩
      have q2 := (listed_or q').resolve_left (by omega)
      rw [hn] at q2; cases q2
    · obtain ⟨g, x, a1, a2, a3, a4⟩ := h.ha j hj ((listed_or q).resolve_left (by omega))
      exact ⟨g, x, (h2 j hj e).trans a1, a2, a3, fun q' => a4 ((listed_or q').resolve_left (by omega))⟩
  · by_cases e : j = i
    · subst e
      exact (hne' k hk (Ne.symm hne) ((listed_or q').resolve_left (by omega))).symm
    · by_cases e' : k = i
      · subst e'
        exact hne' j hj hne ((listed_or q).resolve_left (by omega))
      · rw [h2 j hj e, h2 k hk e']
        exact h.hd j k hj hk hne ((listed_or q).resolve_left (by omega)) ((listed_or q').resolve_left (by omega))
  · exact (h.hr j hj ((listed_or q).resolve_left (by omega))).imp listed_up listed_up
theorem Box.setOffJ {w : World} {g g' : Nat} {t : TypeId} {cs : Array Value} (h : Box w g t cs) (hg : g ≠ g') (j : Nat) (d : Value) : Box (w.setCell ⟨g', j, none⟩ d) g t cs := by
  show (w.heap.modify g' _)[g]? = _
  rw [Array.getElem?_modify, if_neg (by omega)]; exact h
theorem CloneJ.put (hs : Stays good ty) (h : CloneJ m W src good ty listed vl vc va w) (hi : i < m) {g : Nat} {x : Value} (hv : va i = .pointer (some ⟨g, 0, none⟩)) (hg : W.heap.size ≤ g) (hB : Box w g (ty i) #[x]) (d1 : listed.getD (2 * m + i) false = true) (d2 : listed.getD (2 * i + 1) false = true) :
    CloneJ m W src good ty (listed.setIfInBounds (3 * m + i) true) vl vc va (w.setCell ⟨g, 0, none⟩ (vc i)) := by
  refine ⟨by simpa using h.size, below_set h.below hg _ _, fun j hj q => h.hl j hj ((listed_or q).resolve_left (by omega)), fun j hj q => hs.store _ _ _ _ _ _ _ (h.hc j hj ((listed_or q).resolve_left (by omega))) hB, fun j hj q => ?_, fun j k hj hk hne q q' => ?_, fun j hj q => ?_⟩
  · by_cases e : j = i
    · subst e
      exact ⟨g, vc j, hv, hg, hB.set 0 (vc j), fun _ => rfl⟩
    · have q2 := (listed_or q).resolve_left (by omega)
      obtain ⟨g', x', a1, a2, a3, a4⟩ := h.ha j hj q2
      have hne := h.hd j i hj hi e q2 d1
      have hgg : g' ≠ g := by
        rintro rfl
        exact hne (a1.trans hv.symm)
      exact ⟨g', x', a1, a2, a3.setOffJ hgg 0 (vc i), fun q' => a4 ((listed_or q').resolve_left (by omega))⟩
  · exact h.hd j k hj hk hne ((listed_or q).resolve_left (by omega)) ((listed_or q').resolve_left (by omega))
  · rcases listed_or q with e | q
    · obtain rfl : j = i := by omega
      exact ⟨listed_up d1, listed_up d2⟩
    · exact (h.hr j hj q).imp listed_up listed_up
/-- It is not written yet. -/
theorem CloneJ.notYet (h : CloneJ m W src good ty listed vl vc va w) (hi : i < m) (hu : listed.getD (2 * m + i) true = false ∨ listed.getD (2 * i + 1) true = false) : listed.getD (3 * m + i) false = false := by
  cases hv : listed.getD (3 * m + i) false
  · rfl
  · have hh := h.hr i hi hv
    have hsz := h.size
    have h1 : 2 * m + i < listed.size := by omega
    have h2 : 2 * i + 1 < listed.size := by omega
    rcases hu with hu | hu
    · have := hh.1; simp [Array.getD, h1] at hu this; rw [this] at hu; cases hu
    · have := hh.2; simp [Array.getD, h2] at hu this; rw [this] at hu; cases hu
/-- All is done. -/
theorem CloneJ.done (h : CloneJ m W src good ty listed vl vc va w) (hall : ∀ j, j < 4 * m → listed.getD j false = true) : ∀ i, i < m → good i (vc i) w ∧ ∃ g, va i = .pointer (some ⟨g, 0, none⟩) ∧ W.heap.size ≤ g ∧ Box w g (ty i) #[vc i] := fun i hi => by
  obtain ⟨g, x, a1, a2, a3, a4⟩ := h.ha i hi (hall _ (by omega))
  rw [a4 (hall _ (by omega))] at a3
  exact ⟨h.hc i hi (hall _ (by omega)), g, a1, a2, a3⟩
end
end Go.Proofs.YthdnfocemchgjaaGreat
