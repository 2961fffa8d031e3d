/-
  Headers, over no program: what is wrong with one ('hFault'), its word ('hWord'), the fields of a word.
-/
import Derived.Test.YtknbbondofijeaaBase
namespace Go.Proofs.Ytknbbondofijeaa
open Go.RowKit

/-- Is 'n' from 0 to 'm'? A closed word: the walk leaves it. -/
def within (n m : Int) : Bool := decide (0 ≤ n) && decide (n ≤ m)
theorem within_true {n m : Int} (h0 : 0 ≤ n) (h1 : n ≤ m) : within n m = true := by simp [within, h0, h1]
theorem within_low {n m : Int} (h0 : n < 0) : within n m = false := by simp [within]; omega
theorem within_high {n m : Int} (h0 : m < n) : within n m = false := by simp [within]; omega
theorem within_iff {n m : Int} : within n m = true ↔ 0 ≤ n ∧ n ≤ m := by simp [within]
theorem within_not {n m : Int} : within n m = false ↔ n < 0 ∨ m < n := by simp [within]; omega

/-- The error of a header. -/
def hFault (r b t : Int) (f : Bool) : Int :=
  if within r 256 && within b 256 && within t 65535 then (if f && (r != 0 || t != 0) then 3 else if 256 < 1 + r + b then 2 else 0) else 4
theorem hFault_r {r b t : Int} {f : Bool} (h : within r 256 = false) : hFault r b t f = 4 := by simp [hFault, h]
theorem hFault_b {r b t : Int} {f : Bool} (h : within b 256 = false) : hFault r b t f = 4 := by simp [hFault, h]
theorem hFault_t {r b t : Int} {f : Bool} (h : within t 65535 = false) : hFault r b t f = 4 := by simp [hFault, h]
theorem hFault_fr {r b t : Int} (h0 : within r 256 = true) (h1 : within b 256 = true) (h2 : within t 65535 = true) (h : r ≠ 0 ∨ t ≠ 0) : hFault r b t true = 3 := by
  simp [hFault, h0, h1, h2]; omega
theorem hFault_in {r b t : Int} {f : Bool} (h0 : within r 256 = true) (h1 : within b 256 = true) (h2 : within t 65535 = true) (h : f = true → r = 0 ∧ t = 0) : hFault r b t f = if 256 < 1 + r + b then 2 else 0 := by
  cases f
  · simp [hFault, h0, h1, h2]
  · obtain ⟨rfl, rfl⟩ := h rfl
    simp [hFault, h0, h1, h2]
theorem hFault_ok {r b t : Int} {f : Bool} (h : hFault r b t f = 0) : 0 ≤ r ∧ 0 ≤ b ∧ 0 ≤ t ∧ t ≤ 65535 ∧ r + b ≤ 255 ∧ (f = true → r = 0 ∧ t = 0) := by
  unfold hFault at h
  split at h
  · rename_i hw
    simp only [Bool.and_eq_true, within_iff] at hw
    split at h
    · cases h
    · rename_i hf
      split at h
      · cases h
      · simp at hf
        refine ⟨by omega, by omega, by omega, by omega, by omega, fun e => hf e⟩
  · cases h

/-- The word of a header. -/
def hWord (r b t : Int) (f : Bool) : Int := r + 65536 * b + 4294967296 * t + if f then 281474976710656 else 0
/-- The fields of a word. -/
def fR (v : Int) : Int := v % 65536
def fB (v : Int) : Int := v / 65536 % 65536
def fT (v : Int) : Int := v / 4294967296 % 65536
def fF (v : Int) : Bool := decide (v / 281474976710656 = 1)
/-- What is wrong with a word: is it the word of no header? -/
def vBad (v : Int) : Bool := decide (1 < v / 281474976710656) || hFault (fR v) (fB v) (fT v) (fF v) != 0
def vR (v : Int) : Int := if vBad v then 0 else fR v
def vB (v : Int) : Int := if vBad v then 0 else fB v
def vT (v : Int) : Int := if vBad v then 0 else fT v
def vF (v : Int) : Bool := if vBad v then false else fF v
theorem hWord_wf {r b t : Int} {f : Bool} (h : hFault r b t f = 0) : 0 ≤ hWord r b t f ∧ hWord r b t f < 18446744073709551616 := by
  obtain ⟨h1, h2, h3, h4, h5, h6⟩ := hFault_ok h
  unfold hWord
  split <;> omega
theorem fields_of_word {r b t : Int} {f : Bool} (h : hFault r b t f = 0) : fR (hWord r b t f) = r ∧ fB (hWord r b t f) = b ∧ fT (hWord r b t f) = t ∧ fF (hWord r b t f) = f ∧ ¬ 1 < hWord r b t f / 281474976710656 := by
  obtain ⟨h1, h2, h3, h4, h5, h6⟩ := hFault_ok h
  unfold fR fB fT fF hWord
  cases f
  · refine ⟨by simp; omega, by simp; omega, by simp; omega, by simp; omega, by simp; omega⟩
  · refine ⟨by simp; omega, by simp; omega, by simp; omega, by simp; omega, by simp; omega⟩
theorem word_of_header {r b t : Int} {f : Bool} (h : hFault r b t f = 0) : vBad (hWord r b t f) = false ∧ vR (hWord r b t f) = r ∧ vB (hWord r b t f) = b ∧ vT (hWord r b t f) = t ∧ vF (hWord r b t f) = f := by
  obtain ⟨h1, h2, h3, h4, h5⟩ := fields_of_word h
  have hb : vBad (hWord r b t f) = false := by
    unfold vBad
    rw [h1, h2, h3, h4, h]
    simp; omega
  exact ⟨hb, by unfold vR; rw [hb, h1]; rfl, by unfold vB; rw [hb, h2]; rfl, by unfold vT; rw [hb, h3]; rfl, by unfold vF; rw [hb, h4]; rfl⟩
theorem header_of_word {v : Int} (h0 : 0 ≤ v) (h : vBad v = false) : hFault (vR v) (vB v) (vT v) (vF v) = 0 ∧ hWord (vR v) (vB v) (vT v) (vF v) = v := by
  have h' := h
  unfold vBad at h'
  simp only [Bool.or_eq_false_iff, decide_eq_false_iff_not, bne_eq_false_iff_eq] at h'
  have e1 : vR v = fR v := by unfold vR; rw [h]; rfl
  have e2 : vB v = fB v := by unfold vB; rw [h]; rfl
  have e3 : vT v = fT v := by unfold vT; rw [h]; rfl
  have e4 : vF v = fF v := by unfold vF; rw [h]; rfl
  rw [e1, e2, e3, e4]
  refine ⟨h'.2, ?_⟩
  unfold hWord fR fB fT fF
  by_cases hc : v / 281474976710656 = 1
  · simp [hc]; omega
  · simp [hc]; omega
theorem header_none {v : Int} (h : vBad v = true) : vR v = 0 ∧ vB v = 0 ∧ vT v = 0 ∧ vF v = false := by
  refine ⟨by unfold vR; rw [h]; rfl, by unfold vB; rw [h]; rfl, by unfold vT; rw [h]; rfl, by unfold vF; rw [h]; rfl⟩
end Go.Proofs.Ytknbbondofijeaa
