/-
  Contracts of the reference's Stretch and Clone, and of package word's calls in one form for every argument.
-/
import Derived.Test.YtknbbondofijeaaMovesWalk
import Derived.Test.YtknbbondofijeaaOwn
namespace Go.Proofs.Ytknbbondofijeaa
open Go.RowKit

/-- Are 'm' words from 'i' on there, of 'n'? -/
def strB (n : Nat) (i m : Int) : Bool := decide (0 ≤ m ∧ 0 ≤ i ∧ i ≤ n ∧ m ≤ n - i)

/-- What the reference's Clone gives. -/
def Cloned (n : Nat) (zs : List Int) (w : World) (e : Ending) (w' : World) : Prop := ∃ A c, e = .returned (.slice A n c) ∧ Own .u64 52 w' w.heap.size (.slice A n c) zs ∧ Below w.heap.size w w'
set_option maxHeartbeats 400000 in
theorem refClone_any (A : Option Addr) (n c : Nat) (zs : List Int) (w : World) (hn : n ≤ 256) (ha : Arr .u64 w w.heap.size A n zs) :
    Calls Try.prog 60 #[.slice A n c] w (Cloned n zs w) := by
  obtain ⟨v', w', hrun, hO, hB⟩ := (Own.nil (k := .u64) (e := 52) (w := w) (base := w.heap.size)).cat (P := Try.prog) (t := 22) (ty := 22) (c := c) Try.underlying22 u64_info (by omega) ha (by simp; omega) (Nat.le_refl _)
  simp only [List.nil_append] at hO
  obtain ⟨A', c', rfl, _, _⟩ := hO.arr
  have hl := ha.1
  rw [hl] at hrun hO
  have HP := Lib.hid hrun
  have HO := Lib.hid hO
  have HB := Lib.hid hB
  clear hrun hO hB ha hl
  go_enter Try.func60, Try.ntmps60
  go_wp2_with (at_builtin; refine wpList_append_run rfl (.const (.slice none 0 0)) (.tmp 3) 22 rfl rfl rfl HP.out ?_)
  go_ret
  exact ⟨A', c', rfl, HO.out, HB.out⟩

/-- New, for every number. -/
def NewP (m : Int) (w : World) (e : Ending) (w' : World) : Prop := ∃ A k c E, e = .returned (.tuple #[.slice A k c, .int .i64 E]) ∧ Below w.heap.size w w' ∧
  (((m < 0 ∨ 256 < m) ∧ k = 0 ∧ E = 4) ∨ (0 ≤ m ∧ m ≤ 256 ∧ k = m.toNat ∧ E = 0 ∧ Arr .u64 w' w'.heap.size A k (List.replicate k 0)))
/-- What Load finds. -/
def loadV (n : Nat) (i : Int) (zs : List Int) : Int := if wordE n i = 0 then nth zs i.toNat else 0
theorem wordE_zero {n : Nat} {i : Int} (h : wordE n i = 0) : n ≤ 256 ∧ 0 ≤ i ∧ i < n := by
  unfold wordE at h
  split at h
  · omega
  · split at h <;> omega
/-- Store, for every argument. -/
def StoreP (n : Nat) (i v : Int) (zs : List Int) (w : World) (e : Ending) (w' : World) : Prop := ∃ A k c, e = .returned (.tuple #[.slice A k c, .int .i64 (wordE n i)]) ∧ Below w.heap.size w w' ∧
  ((wordE n i ≠ 0 ∧ k = 0) ∨ (wordE n i = 0 ∧ k = n ∧ Arr .u64 w' w'.heap.size A n (zs.set i.toNat v)))
/-- Move's error. -/
def moveE (n : Nat) (i j m : Int) : Int := if rangeE n i m = 0 then rangeE n j m else rangeE n i m
def MoveP (n : Nat) (i j m : Int) (zs : List Int) (w : World) (e : Ending) (w' : World) : Prop := ∃ A k c, e = .returned (.tuple #[.slice A k c, .int .i64 (moveE n i j m)]) ∧ Below w.heap.size w w' ∧
  ((moveE n i j m ≠ 0 ∧ k = 0) ∨ (moveE n i j m = 0 ∧ k = n ∧ Arr .u64 w' w'.heap.size A n (splice zs j.toNat ((zs.drop i.toNat).take m.toNat))))
def FillP (n : Nat) (i m v : Int) (zs : List Int) (w : World) (e : Ending) (w' : World) : Prop := ∃ A k c, e = .returned (.tuple #[.slice A k c, .int .i64 (rangeE n i m)]) ∧ Below w.heap.size w w' ∧
  ((rangeE n i m ≠ 0 ∧ k = 0) ∨ (rangeE n i m = 0 ∧ k = n ∧ Arr .u64 w' w'.heap.size A n (splice zs i.toNat (List.replicate m.toNat v))))
end Go.Proofs.Ytknbbondofijeaa
