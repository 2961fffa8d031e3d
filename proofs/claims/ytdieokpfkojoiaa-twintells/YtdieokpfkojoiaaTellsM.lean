/-
  TwinTells: plain mathematics of its loops.
-/
import Derived.Test.YtdieokpfkojoiaaTellsB
namespace Go.Proofs.Ytdieokpfkojoiaa
open Go.RowKit

/-- The first 'j' rooms but those at 'x'. -/
def giveTo (l : List Room) (x : Int) : Nat → List Room
  | 0 => []
  | j + 1 => if (nthG l j).1 = x then giveTo l x j else giveTo l x j ++ [nthG l j]
def foundTo (l : List Room) (x : Int) : Nat → Bool
  | 0 => false
  | j + 1 => foundTo l x j || decide ((nthG l j).1 = x)
theorem giveTo_len (l : List Room) (x : Int) : ∀ j, (giveTo l x j).length ≤ j
  | 0 => Nat.le_refl _
  | j + 1 => by
    have := giveTo_len l x j
    rw [giveTo]
    split
    · omega
    · simp; omega
theorem giveTo_filter (l : List Room) (x : Int) : ∀ j, j ≤ l.length → giveTo l x j = (l.take j).filter fun r => r.1 != x
  | 0, _ => by simp [giveTo]
  | j + 1, hj => by
    rw [giveTo, giveTo_filter l x j (by omega), List.take_succ_eq_append_getElem (by omega), List.filter_append, nthG_get _ _ (by omega)]
    split
    · rename_i h; rw [List.filter_cons_of_neg (by simp [h])]; simp
    · rename_i h; rw [List.filter_cons_of_pos (by simpa using h)]; simp
theorem foundTo_has (l : List Room) (x : Int) : ∀ j, j ≤ l.length → foundTo l x j = hasB x (l.take j)
  | 0, _ => by simp [foundTo, hasB]
  | j + 1, hj => by
    rw [foundTo, foundTo_has l x j (by omega), List.take_succ_eq_append_getElem (by omega), nthG_get _ _ (by omega)]
    unfold hasB
    rw [List.any_append]
    simp
    rfl
theorem giveTo_all {k : Nat} {l : List Room} (h : Right k l) (x : Int) : giveTo l x l.length = eraseL x l := by
  rw [giveTo_filter l x _ (Nat.le_refl _), List.take_length, erase_filter h.apart fun r hr => (h.good r hr).pos.2.1]
theorem foundTo_all (l : List Room) (x : Int) : foundTo l x l.length = hasB x l := by
  rw [foundTo_has l x _ (Nat.le_refl _), List.take_length]
/-- What TwinTells asks of Give's answer. -/
theorem give_cases {k : Nat} {l : List Room} (h : Right k l) (x : Int) : (foundTo l x l.length = true ∧ giveE k l x = 0 ∧ giveO k l x = k ∧ giveL k l x = giveTo l x l.length) ∨ (foundTo l x l.length = false ∧ giveE k l x = 5 ∧ giveO k l x = 0 ∧ giveL k l x = []) := by
  rw [foundTo_all, giveTo_all h]
  unfold giveO giveL giveE
  rw [if_pos h.ok]
  cases hb : hasB x l
  · right; simp
  · left; simp
end Go.Proofs.Ytdieokpfkojoiaa
