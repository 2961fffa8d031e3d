/-
  Lists of descriptions, over no program: what is wrong with them, where each would begin, the map of places.
-/
import Derived.Test.YtjefbekdjgmmbaaWalkM
namespace Go.Proofs.Ytjefbekdjgmmbaa
open Go.RowKit

def oFault (o : Ob) : Int := hFault o.2.1.length o.2.2.1.length o.1 o.2.2.2
def oLong (o : Ob) : Nat := 1 + o.2.1.length + o.2.2.1.length
/-- Where object 'k' begins. -/
def offs (os : List Ob) (k : Nat) : Nat := ((os.take k).map oLong).sum
/-- The error of the first header that has one. -/
def fault : List Ob → Int
  | [] => 0
  | o :: l => if oFault o = 0 then fault l else oFault o
/-- The map of the first 'k' objects' places. -/
def pMap (os : List Ob) (n : Nat) : Nat → Int → Option Int
  | 0 => put (fun _ => none) (-1) 0
  | k + 1 => if (nthG os k).2.2.2 = false ∧ offs os k + oLong (nthG os k) ≤ n then put (pMap os n k) k ((offs os k : Int) + 1) else pMap os n k
/-- The error of place. -/
def pErr (os : List Ob) (n : Nat) : Int := if fault os = 0 then (if n < offs os os.length then 7 else 0) else fault os
section
variable {os : List Ob} {n k : Nat}
theorem offs_zero : offs os 0 = 0 := rfl
theorem offs_step (hk : k < os.length) : offs os (k + 1) = offs os k + oLong (nthG os k) := by
  unfold offs
  rw [List.take_succ_eq_append_getElem hk, List.map_append, List.sum_append, nthG_get _ _ hk]
  simp
theorem oLong_le {o : Ob} (h : oFault o = 0) : oLong o ≤ 256 := by
  have := hFault_ok h
  unfold oLong
  omega
theorem offs_le : ∀ k, k ≤ os.length → (∀ j, j < k → oFault (nthG os j) = 0) → offs os k ≤ 256 * k
  | 0, _, _ => by rw [offs_zero]; omega
  | k + 1, hk, h => by
    have h1 := offs_le k (by omega) (fun j hj => h j (by omega))
    have h2 := oLong_le (h k (by omega))
    rw [offs_step (by omega)]
    omega
theorem offs_ge : ∀ k, k ≤ os.length → k ≤ offs os k
  | 0, _ => by omega
  | k + 1, hk => by
    have h1 := offs_ge k (by omega)
    rw [offs_step (by omega)]
    unfold oLong
    omega
theorem offs_mono : ∀ {i j : Nat}, i ≤ j → j ≤ os.length → offs os i ≤ offs os j := by
  intro i j hij hj
  induction hij with
  | refl => exact Nat.le_refl _
  | step _ ih =>
    rw [offs_step (by omega)]
    have := ih (by omega)
    omega
theorem fault_ok : ∀ {os : List Ob}, (∀ j, j < os.length → oFault (nthG os j) = 0) → fault os = 0
  | [], _ => rfl
  | o :: l, h => by
    have h0 := h 0 (by simp)
    rw [show nthG (o :: l) 0 = o from rfl] at h0
    rw [fault, if_pos h0]
    refine fault_ok fun j hj => ?_
    have := h (j + 1) (by simp; omega)
    exact this
theorem fault_at : ∀ {os : List Ob} {k : Nat}, k < os.length → (∀ j, j < k → oFault (nthG os j) = 0) → oFault (nthG os k) ≠ 0 → fault os = oFault (nthG os k)
  | [], k, hk, _, _ => absurd hk (by simp)
  | o :: l, 0, _, _, h => by
    rw [show nthG (o :: l) 0 = o from rfl] at h ⊢
    rw [fault, if_neg h]
  | o :: l, k + 1, hk, h, hb => by
    have h0 := h 0 (by omega)
    rw [show nthG (o :: l) 0 = o from rfl] at h0
    rw [fault, if_pos h0]
    exact fault_at (os := l) (k := k) (by simpa using hk) (fun j hj => h (j + 1) (by omega)) hb
theorem fault_zero (h : fault os = 0) : ∀ j, j < os.length → oFault (nthG os j) = 0 := by
  intro j
  induction j using Nat.strongRecOn with
  | ind j ih =>
    intro hj
    by_cases hb : oFault (nthG os j) = 0
    · exact hb
    · have := fault_at hj (fun i hi => ih i hi (by omega)) hb
      rw [this] at h
      exact h
theorem pErr_fault (h : fault os ≠ 0) : pErr os n = fault os := by simp [pErr, h]
theorem pErr_full (h : fault os = 0) (hn : n < offs os os.length) : pErr os n = 7 := by simp [pErr, h, hn]
theorem pErr_ok (h : fault os = 0) (hn : offs os os.length ≤ n) : pErr os n = 0 := by simp [pErr, h]; omega
theorem pErr_zero (h : pErr os n = 0) : fault os = 0 ∧ offs os os.length ≤ n := by
  unfold pErr at h
  split at h
  · rename_i h1
    split at h
    · cases h
    · exact ⟨h1, by omega⟩
  · rename_i h1; exact absurd h h1
theorem pMap_in (h1 : (nthG os k).2.2.2 = false) (h2 : offs os k + oLong (nthG os k) ≤ n) : pMap os n (k + 1) = put (pMap os n k) k ((offs os k : Int) + 1) := by rw [pMap, if_pos ⟨h1, h2⟩]
theorem pMap_free (h1 : (nthG os k).2.2.2 = true) : pMap os n (k + 1) = pMap os n k := by rw [pMap, if_neg (by rw [h1]; simp)]
theorem pMap_out (h2 : n < offs os k + oLong (nthG os k)) : pMap os n (k + 1) = pMap os n k := by rw [pMap, if_neg (by omega)]
end
end Go.Proofs.Ytjefbekdjgmmbaa
