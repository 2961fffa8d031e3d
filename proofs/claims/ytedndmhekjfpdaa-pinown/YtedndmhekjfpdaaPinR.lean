/-
  Contracts of the reference's PinsFault, Pinned, PinList, SamePins.
-/
import Derived.Test.YtedndmhekjfpdaaPinD
import Derived.Test.YtedndmhekjfpdaaMapM
namespace Go.Proofs.Ytedndmhekjfpdaa
open Go.RowKit

/-- Block 'b' is a map that says 'g' of each word. -/
def Says (w : World) (b n : Nat) (g : Int → Int) : Prop := ∃ f, MapF Try.prog .i64 .i64 3 3 w b n f ∧ ∀ x, (f x).getD 0 = g x
theorem Says.lt {w : World} {b n : Nat} {g : Int → Int} (h : Says w b n g) : b < w.heap.size := by
  obtain ⟨f, hM, _⟩ := h
  exact hM.lt
theorem Says.below {w w' : World} {b n B : Nat} {g : Int → Int} (h : Says w b n g) (hb : Below B w w') (hB : b < B) : Says w' b n g := by
  obtain ⟨f, hM, hf⟩ := h
  exact ⟨f, hM.below hb hB, hf⟩
theorem Says.eq {w : World} {b n : Nat} {g g' : Int → Int} (h : Says w b n g) (e : ∀ x, g x = g' x) : Says w b n g' := by
  obtain ⟨f, hM, hf⟩ := h
  exact ⟨f, hM, fun x => (hf x).trans (e x)⟩
/-- 'g' with 'y' at 'x'. -/
def sayAt (g : Int → Int) (x y : Int) : Int → Int := fun j => if j = x then y else g j
theorem many_snoc {s : List (Int × Int)} {a m : Int} (h : ∀ x ∈ s, x.1 < a) (b : Int) : manyL (s ++ [(a, m)]) b = if b = a then m else manyL s b := by
  by_cases hb : b = a
  · subst hb
    rw [if_pos rfl, many_in h]
  · rw [if_neg hb, manyL_other hb, List.append_nil]
theorem take_low {l : List (Int × Int)} (h : Rise l) {k : Nat} (hk : k < l.length) : ∀ x ∈ l.take k, x.1 < (nthG l k).1 := by
  intro x hx
  obtain ⟨i, hi, rfl⟩ := List.getElem_of_mem hx
  have hi2 : i < k := by rw [List.length_take] at hi; omega
  unfold Rise at h
  rw [List.pairwise_iff_getElem] at h
  rw [nthG_get _ _ hk, List.getElem_take]
  exact h _ _ _ _ hi2
theorem take_next (l : List (Int × Int)) {k : Nat} (hk : k < l.length) : l.take (k + 1) = l.take k ++ [((nthG l k).1, (nthG l k).2)] := by
  rw [List.take_succ_eq_append_getElem hk, nthG_get _ _ hk]

set_option maxHeartbeats 400000 in
theorem equalPins_same (A A' : Option Addr) (n c c' B : Nat) (xs : List (Int × Int)) (w : World) (hx : ArrG runC 2 w B A n xs) (hy : ArrG runC 2 w B A' n xs) (hn : n ≤ maxLen) :
    Calls Try.prog 28 #[.slice A n c, .slice A' n c'] w fun e w' => e = .returned (.bool true) ∧ ∃ q, w.drewN q = w' := by
  unfold maxLen at hn
  have ht : ((n : Int) != (n : Int)) = false := by simp
  go_enter Try.func28, Try.ntmps28
  go_wp2
  go_loopw [13] (fun i wr => ∃ k : Nat, k ≤ n ∧ i = .int .i64 k ∧ ∃ q, w.drewN q = wr) (fun i _ => n - (intOf i).toNat)
  case atStart => exact ⟨0, Nat.zero_le _, rfl, 0, rfl⟩
  case round =>
    obtain ⟨k, hk, rfl, q, rfl⟩ := hrel
    by_cases hlt : k < n
    · obtain ⟨b, off, rfl, _, hc0, hc1⟩ := hx.run hlt
      obtain ⟨b', off', rfl, _, hd0, hd1⟩ := hy.run hlt
      have hlt' : (k : Int) < (n : Int) := by omega
      clear hx hy
      generalize (nthG xs k).1 = X at *
      generalize (nthG xs k).2 = Y at *
      go_wp2
      go_quiet (fail)
      go_wp2
      go_roundw
      case rel => exact ⟨k + 1, by omega, by go_num, _, rfl⟩
      case measure => simp [intOf]; omega
    · obtain rfl : k = n := by omega
      clear hx hy
      go_wp2
      go_ret
      exact ⟨rfl, _, rfl⟩
end Go.Proofs.Ytedndmhekjfpdaa
