/-
  Contracts of the reference's Stretch and Clone, and of package word's calls in one form for every argument.
-/
import Derived.Test.YtcdlgohhjnpbmaaMovesWalk
import Derived.Test.YtcdlgohhjnpbmaaOwn
namespace Go.Proofs.Ytcdlgohhjnpbmaa
open Go.RowKit

/-- Are 'm' words from 'i' on there, of 'n'? -/
def strB (n : Nat) (i m : Int) : Bool := decide (0 ≤ m ∧ 0 ≤ i ∧ i ≤ n ∧ m ≤ n - i)

set_option maxHeartbeats 400000 in
theorem stretch_any (n : Nat) (i m : Int) (w : World) (hn : n ≤ maxLen) (hi : (Lit.int .i64 i).wf = true) (hm : (Lit.int .i64 m).wf = true) :
    Calls Try.prog 24 #[.int .i64 n, .int .i64 i, .int .i64 m] w fun e w' => e = .returned (.bool (strB n i m)) ∧ w = w' := by
  unfold maxLen at hn
  rw [wf_i64] at hi hm
  obtain ⟨hi1, hi2⟩ := hi
  obtain ⟨hm1, hm2⟩ := hm
  by_cases h0 : 0 ≤ m
  · by_cases h1 : 0 ≤ i
    · by_cases h2 : i ≤ n
      · by_cases h3 : m ≤ n - i
        · have H : Hid (strB n i m = true) := by show _ = _; unfold strB; simp; omega
          go_enter Try.func24, Try.ntmps24
          go_wp2
          go_ret
          exact ⟨by rw [H.out]; rfl, rfl⟩
        · have H : Hid (strB n i m = false) := by show _ = _; unfold strB; simp; omega
          have d3 : decide (m ≤ (n : Int) - i) = false := by simp; omega
          go_enter Try.func24, Try.ntmps24
          go_wp2
          go_ret
          exact ⟨by rw [H.out]; rfl, rfl⟩
      · have H : Hid (strB n i m = false) := by show _ = _; unfold strB; simp; omega
        have d2 : decide (i ≤ (n : Int)) = false := by simp; omega
        go_enter Try.func24, Try.ntmps24
        go_wp2
        go_ret
        exact ⟨by rw [H.out]; rfl, rfl⟩
    · have H : Hid (strB n i m = false) := by show _ = _; unfold strB; simp; omega
      have d1 : decide (0 ≤ i) = false := by simp; omega
      go_enter Try.func24, Try.ntmps24
      go_wp2
      go_ret
      exact ⟨by rw [H.out]; rfl, rfl⟩
  · have H : Hid (strB n i m = false) := by show _ = _; unfold strB; simp; omega
    have d0 : decide (0 ≤ m) = false := by simp; omega
    go_enter Try.func24, Try.ntmps24
    go_wp2
    go_ret
    exact ⟨by rw [H.out]; rfl, rfl⟩

/-- What the reference's Clone gives. -/
def Cloned (n : Nat) (zs : List Int) (w : World) (e : Ending) (w' : World) : Prop := ∃ A c, e = .returned (.slice A n c) ∧ Own .u64 44 w' w.heap.size (.slice A n c) zs ∧ Below w.heap.size w w'
/-- New, for every number. -/
def NewP (m : Int) (w : World) (e : Ending) (w' : World) : Prop := ∃ A k c E, e = .returned (.tuple #[.slice A k c, .int .i64 E]) ∧ Below w.heap.size w w' ∧
  (((m < 0 ∨ 256 < m) ∧ k = 0 ∧ E = 4) ∨ (0 ≤ m ∧ m ≤ 256 ∧ k = m.toNat ∧ E = 0 ∧ Arr .u64 w' w'.heap.size A k (List.replicate k 0)))
/-- What Load finds. -/
def loadV (n : Nat) (i : Int) (zs : List Int) : Int := if wordE n i = 0 then nth zs i.toNat else 0
theorem wordE_zero {n : Nat} {i : Int} (h : wordE n i = 0) : n ≤ 256 ∧ 0 ≤ i ∧ i < n := by
  unfold wordE at h
  split at h
  · omega
  · split at h <;> omega
/-- Store, for every argument. -/
def StoreP (n : Nat) (i v : Int) (zs : List Int) (w : World) (e : Ending) (w' : World) : Prop := ∃ A k c, e = .returned (.tuple #[.slice A k c, .int .i64 (wordE n i)]) ∧ Below w.heap.size w w' ∧
  ((wordE n i ≠ 0 ∧ k = 0) ∨ (wordE n i = 0 ∧ k = n ∧ Arr .u64 w' w'.heap.size A n (zs.set i.toNat v)))
/-- Move's error. -/
def moveE (n : Nat) (i j m : Int) : Int := if rangeE n i m = 0 then rangeE n j m else rangeE n i m
def MoveP (n : Nat) (i j m : Int) (zs : List Int) (w : World) (e : Ending) (w' : World) : Prop := ∃ A k c, e = .returned (.tuple #[.slice A k c, .int .i64 (moveE n i j m)]) ∧ Below w.heap.size w w' ∧
  ((moveE n i j m ≠ 0 ∧ k = 0) ∨ (moveE n i j m = 0 ∧ k = n ∧ Arr .u64 w' w'.heap.size A n (splice zs j.toNat ((zs.drop i.toNat).take m.toNat))))
def FillP (n : Nat) (i m v : Int) (zs : List Int) (w : World) (e : Ending) (w' : World) : Prop := ∃ A k c, e = .returned (.tuple #[.slice A k c, .int .i64 (rangeE n i m)]) ∧ Below w.heap.size w w' ∧
  ((rangeE n i m ≠ 0 ∧ k = 0) ∨ (rangeE n i m = 0 ∧ k = n ∧ Arr .u64 w' w'.heap.size A n (splice zs i.toNat (List.replicate m.toNat v))))
end Go.Proofs.Ytcdlgohhjnpbmaa
