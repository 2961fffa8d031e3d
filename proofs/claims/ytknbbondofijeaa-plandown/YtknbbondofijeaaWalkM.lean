/-
  An arena's objects, over no program: where they begin ('begins'), whether they fill the arena ('fine'), what is wrong with it ('spErr').
-/
import Derived.Test.YtknbbondofijeaaRec
import Derived.Test.YtknbbondofijeaaHeadM
namespace Go.Proofs.Ytknbbondofijeaa
open Go.RowKit

/-- A spot: where, and the header's fields. -/
abbrev Sp := Int × Int × Int × Int × Bool
def spotC (s : Sp) : List Value := [.int .i64 s.1, .int .i64 s.2.1, .int .i64 s.2.2.1, .int .i64 s.2.2.2.1, .bool s.2.2.2.2]
theorem spotC_len (s : Sp) : (spotC s).length = 5 := rfl
theorem spotC_one (s : Sp) : ∀ u ∈ spotC s, u.oneCell' = true := by
  intro u hu
  simp [spotC] at hu
  rcases hu with rfl | rfl | rfl | rfl | rfl <;> rfl
/-- How many words an object with this header has. -/
def sLong (v : Int) : Nat := 1 + (vR v).toNat + (vB v).toNat
theorem sLong_pos (v : Int) : 0 < sLong v := by unfold sLong; omega
def spOf (zs : List Int) (a : Nat) : Sp := ((a : Int), vR (nth zs a), vB (nth zs a), vT (nth zs a), vF (nth zs a))
/-- Is word 'a' a header, and does its object end within the arena? -/
def stepOk (zs : List Int) (a : Nat) : Bool := !vBad (nth zs a) && decide (a + sLong (nth zs a) ≤ zs.length)
/-- Where objects begin, from word 'a' on. -/
def begins (zs : List Int) (a : Nat) : List Nat := if a < zs.length then (if stepOk zs a then a :: begins zs (a + sLong (nth zs a)) else []) else []
termination_by zs.length - a
decreasing_by have := sLong_pos (nth zs a); omega
/-- Do objects fill the arena, from word 'a' on? -/
def fine (zs : List Int) (a : Nat) : Bool := if a < zs.length then (if stepOk zs a then fine zs (a + sLong (nth zs a)) else false) else true
termination_by zs.length - a
decreasing_by have := sLong_pos (nth zs a); omega
def spErr (zs : List Int) : Int := if 256 < zs.length then 2 else if fine zs 0 then 0 else 3
def spList (zs : List Int) : List Sp := if spErr zs = 0 then (begins zs 0).map (spOf zs) else []

section
variable {zs : List Int} {a : Nat}
theorem begins_end (h : zs.length ≤ a) : begins zs a = [] := by rw [begins, if_neg (by omega)]
theorem fine_end (h : zs.length ≤ a) : fine zs a = true := by rw [fine, if_neg (by omega)]
theorem begins_step (h : a < zs.length) (hs : stepOk zs a = true) : begins zs a = a :: begins zs (a + sLong (nth zs a)) := by rw [begins, if_pos h, if_pos hs]
theorem fine_step (h : a < zs.length) (hs : stepOk zs a = true) : fine zs a = fine zs (a + sLong (nth zs a)) := by rw [fine, if_pos h, if_pos hs]
theorem fine_bad (h : a < zs.length) (hs : stepOk zs a = false) : fine zs a = false := by rw [fine, if_pos h, hs]; rfl
theorem stepOk_iff : stepOk zs a = true ↔ vBad (nth zs a) = false ∧ a + sLong (nth zs a) ≤ zs.length := by simp [stepOk]
theorem stepOk_bad (h : vBad (nth zs a) = true) : stepOk zs a = false := by simp [stepOk, h]
theorem stepOk_far (h : zs.length < a + sLong (nth zs a)) : stepOk zs a = false := by simp [stepOk]; omega
theorem begins_mem : ∀ {a : Nat} {s : Nat}, s ∈ begins zs a → a ≤ s ∧ s < zs.length ∧ stepOk zs s = true := by
  intro a
  induction hk : zs.length - a using Nat.strongRecOn generalizing a with
  | ind k ih =>
    intro s hs
    by_cases h : a < zs.length
    · cases hst : stepOk zs a
      · rw [begins, if_pos h, hst] at hs; simp at hs
      · rw [begins_step h hst] at hs
        rcases List.mem_cons.1 hs with rfl | hs
        · exact ⟨Nat.le_refl _, h, hst⟩
        · have hp := sLong_pos (nth zs a)
          have := ih (zs.length - (a + sLong (nth zs a))) (by omega) rfl hs
          exact ⟨by omega, this.2⟩
    · rw [begins_end (by omega)] at hs; cases hs
theorem begins_sorted : ∀ {a : Nat}, (begins zs a).Pairwise (· < ·) := by
  intro a
  induction hk : zs.length - a using Nat.strongRecOn generalizing a with
  | ind k ih =>
    by_cases h : a < zs.length
    · cases hst : stepOk zs a
      · rw [begins, if_pos h, hst]; simp
      · rw [begins_step h hst]
        have hp := sLong_pos (nth zs a)
        refine List.pairwise_cons.2 ⟨fun s hs => ?_, ih (zs.length - (a + sLong (nth zs a))) (by omega) rfl⟩
        have := (begins_mem hs).1
        omega
    · rw [begins_end (by omega)]; exact List.Pairwise.nil
theorem begins_len : ∀ {a : Nat}, (begins zs a).length ≤ zs.length - a := by
  intro a
  induction hk : zs.length - a using Nat.strongRecOn generalizing a with
  | ind k ih =>
    by_cases h : a < zs.length
    · cases hst : stepOk zs a
      · rw [begins, if_pos h, hst]; simp
      · rw [begins_step h hst]
        have hp := sLong_pos (nth zs a)
        have := ih (zs.length - (a + sLong (nth zs a))) (by omega) rfl
        simp only [List.length_cons]
        omega
    · rw [begins_end (by omega)]; simp
theorem spErr_big (h : 256 < zs.length) : spErr zs = 2 := by simp [spErr, h]
theorem spErr_ok (h : zs.length ≤ 256) (hf : fine zs 0 = true) : spErr zs = 0 := by simp [spErr, hf]; omega
theorem spErr_bad (h : zs.length ≤ 256) (hf : fine zs 0 = false) : spErr zs = 3 := by simp [spErr, hf]; omega
theorem spErr_zero (h : spErr zs = 0) : zs.length ≤ 256 ∧ fine zs 0 = true := by
  unfold spErr at h
  split at h
  · cases h
  · split at h
    · rename_i h1 h2; exact ⟨by omega, h2⟩
    · cases h
theorem spList_bad (h : spErr zs ≠ 0) : spList zs = [] := by simp [spList, h]
theorem spList_ok (h : spErr zs = 0) : spList zs = (begins zs 0).map (spOf zs) := by simp [spList, h]
/-- A word that is a header: its fields. -/
theorem head_fields {v : Int} (h0 : 0 ≤ v) (h : vBad v = false) : 0 ≤ vR v ∧ 0 ≤ vB v ∧ 0 ≤ vT v ∧ vT v ≤ 65535 ∧ vR v + vB v ≤ 255 ∧ (vF v = true → vR v = 0 ∧ vT v = 0) ∧ hFault (vR v) (vB v) (vT v) (vF v) = 0 := by
  have h1 := (header_of_word h0 h).1
  obtain ⟨a1, a2, a3, a4, a5, a6⟩ := hFault_ok h1
  exact ⟨a1, a2, a3, a4, a5, a6, h1⟩
theorem sLong_int {v : Int} (h0 : 0 ≤ v) (h : vBad v = false) : (sLong v : Int) = 1 + vR v + vB v := by
  obtain ⟨a1, a2, _⟩ := head_fields h0 h
  unfold sLong
  omega
end
end Go.Proofs.Ytknbbondofijeaa
