/-
  Contracts of the reference's Stretch and Clone, and of package word's calls in one form for every argument.
-/
import Derived.Test.YtggjgcnmkkoheaaMovesWalk
import Derived.Test.YtggjgcnmkkoheaaOwn
namespace Go.Proofs.Ytggjgcnmkkoheaa
open Go.RowKit

/-- Are 'm' words from 'i' on there, of 'n'? -/
def strB (n : Nat) (i m : Int) : Bool := decide (0 ≤ m ∧ 0 ≤ i ∧ i ≤ n ∧ m ≤ n - i)

/-- What the reference's Clone gives. -/
def Cloned (n : Nat) (zs : List Int) (w : World) (e : Ending) (w' : World) : Prop := ∃ A c, e = .returned (.slice A n c) ∧ Own .u64 42 w' w.heap.size (.slice A n c) zs ∧ Below w.heap.size w w'
set_option maxHeartbeats 400000 in
theorem refClone_any (A : Option Addr) (n c : Nat) (zs : List Int) (w : World) (hn : n ≤ 256) (ha : Arr .u64 w w.heap.size A n zs) :
    Calls Try.prog 16 #[.slice A n c] w (Cloned n zs w) := by
  obtain ⟨v', w', hrun, hO, hB⟩ := (Own.nil (k := .u64) (e := 42) (w := w) (base := w.heap.size)).cat (P := Try.prog) (t := 22) (ty := 22) (c := c) Try.underlying22 u64_info (by omega) ha (by simp; omega) (Nat.le_refl _)
  simp only [List.nil_append] at hO
  obtain ⟨A', c', rfl, _, _⟩ := hO.arr
  have hl := ha.1
  rw [hl] at hrun hO
  have HP := Lib.hid hrun
  have HO := Lib.hid hO
  have HB := Lib.hid hB
  clear hrun hO hB ha hl
  go_enter Try.func16, Try.ntmps16
  go_wp2_with (at_builtin; refine wpList_append_run rfl (.const (.slice none 0 0)) (.tmp 3) 22 rfl rfl rfl HP.out ?_)
  go_ret
  exact ⟨A', c', rfl, HO.out, HB.out⟩

/-- New, for every number. -/
def NewP (m : Int) (w : World) (e : Ending) (w' : World) : Prop := ∃ A k c E, e = .returned (.tuple #[.slice A k c, .int .i64 E]) ∧ Below w.heap.size w w' ∧
  (((m < 0 ∨ 256 < m) ∧ k = 0 ∧ E = 4) ∨ (0 ≤ m ∧ m ≤ 256 ∧ k = m.toNat ∧ E = 0 ∧ Arr .u64 w' w'.heap.size A k (List.replicate k 0)))
/-- What Load finds. -/
def loadV (n : Nat) (i : Int) (zs : List Int) : Int := if wordE n i = 0 then nth zs i.toNat else 0
theorem wordE_zero {n : Nat} {i : Int} (h : wordE n i = 0) : n ≤ 256 ∧ 0 ≤ i ∧ i < n := by
  unfold wordE at h
  split at h
  · omega
  · split at h <;> omega
theorem load_any (A : Option Addr) (n c : Nat) (i : Int) (zs : List Int) (w : World) (hn : n ≤ maxLen) (hi : (Lit.int .i64 i).wf = true) (ha : Arr .u64 w w.heap.size A n zs) :
    Calls Try.prog 73 #[.slice A n c, .int .i64 i] w fun e w' => e = .returned (.tuple #[.int .u64 (loadV n i zs), .int .i64 (wordE n i)]) ∧ w = w' := by
  by_cases h : wordE n i = 0
  · obtain ⟨h1, h2, h3⟩ := wordE_zero h
    rw [loadV, if_pos h, h]
    exact load_ok A n c _ i zs w h1 h2 h3 ha
  · rw [loadV, if_neg h]
    exact load_bad A n c i w hn hi h

/-- Store, for every argument. -/
def StoreP (n : Nat) (i v : Int) (zs : List Int) (w : World) (e : Ending) (w' : World) : Prop := ∃ A k c, e = .returned (.tuple #[.slice A k c, .int .i64 (wordE n i)]) ∧ Below w.heap.size w w' ∧
  ((wordE n i ≠ 0 ∧ k = 0) ∨ (wordE n i = 0 ∧ k = n ∧ Arr .u64 w' w'.heap.size A n (zs.set i.toNat v)))
theorem store_any (A : Option Addr) (n c : Nat) (i v : Int) (zs : List Int) (w : World) (hn : n ≤ maxLen) (hi : (Lit.int .i64 i).wf = true) (hv : (Lit.int .u64 v).wf = true) (ha : Arr .u64 w w.heap.size A n zs) :
    Calls Try.prog 81 #[.slice A n c, .int .i64 i, .int .u64 v] w (StoreP n i v zs w) := by
  by_cases h : wordE n i = 0
  · obtain ⟨h1, h2, h3⟩ := wordE_zero h
    refine (store_ok A n c i v zs w h1 h2 h3 hv ha).mono ?_
    rintro e w' ⟨rfl, hW, hB⟩
    refine ⟨_, _, _, by rw [h], hB, .inr ⟨h, rfl, ?_⟩⟩
    have := hW.arr (B := w'.heap.size) hW.lt
    rwa [List.length_set, ha.1] at this
  · refine (store_bad A n c i v w hn hi h).mono ?_
    rintro e w' ⟨rfl, rfl⟩
    exact ⟨_, _, _, rfl, Below.refl _ _, .inl ⟨h, rfl⟩⟩

/-- Move's error. -/
def moveE (n : Nat) (i j m : Int) : Int := if rangeE n i m = 0 then rangeE n j m else rangeE n i m
def MoveP (n : Nat) (i j m : Int) (zs : List Int) (w : World) (e : Ending) (w' : World) : Prop := ∃ A k c, e = .returned (.tuple #[.slice A k c, .int .i64 (moveE n i j m)]) ∧ Below w.heap.size w w' ∧
  ((moveE n i j m ≠ 0 ∧ k = 0) ∨ (moveE n i j m = 0 ∧ k = n ∧ Arr .u64 w' w'.heap.size A n (splice zs j.toNat ((zs.drop i.toNat).take m.toNat))))
theorem move_any (A : Option Addr) (n c : Nat) (i j m : Int) (zs : List Int) (w : World) (hn : n ≤ maxLen) (hnc : n ≤ c) (hi : (Lit.int .i64 i).wf = true) (hj : (Lit.int .i64 j).wf = true) (hm : (Lit.int .i64 m).wf = true) (ha : Arr .u64 w w.heap.size A n zs) :
    Calls Try.prog 44 #[.slice A n c, .int .i64 i, .int .i64 j, .int .i64 m] w (MoveP n i j m zs w) := by
  by_cases h : rangeE n i m = 0
  · have e1 : moveE n i j m = rangeE n j m := by rw [moveE, if_pos h]
    by_cases h' : rangeE n j m = 0
    · obtain ⟨h256, i0, i1, m0, m1⟩ := rangeE_zero h
      obtain ⟨_, j0, j1, _, m2⟩ := rangeE_zero h'
      refine (move_ok A n c i j m zs w h256 hnc i0 i1 m0 m1 j0 j1 m2 ha).mono ?_
      rintro e w' ⟨rfl, hW, hB⟩
      refine ⟨_, _, _, by rw [e1, h'], hB, .inr ⟨by rw [e1, h'], rfl, ?_⟩⟩
      have := hW.arr (B := w'.heap.size) hW.lt
      rwa [length_splice _ _ _ (by have := ha.1; simp; omega), ha.1] at this
    · refine (move_bad2 A n c i j m w hn hi hj hm h h').mono ?_
      rintro e w' ⟨rfl, rfl⟩
      exact ⟨_, _, _, by rw [e1], Below.refl _ _, .inl ⟨by rw [e1]; exact h', rfl⟩⟩
  · have e1 : moveE n i j m = rangeE n i m := by rw [moveE, if_neg h]
    refine (move_bad1 A n c i j m w hn hi hm h).mono ?_
    rintro e w' ⟨rfl, rfl⟩
    exact ⟨_, _, _, by rw [e1], Below.refl _ _, .inl ⟨by rw [e1]; exact h, rfl⟩⟩

def FillP (n : Nat) (i m v : Int) (zs : List Int) (w : World) (e : Ending) (w' : World) : Prop := ∃ A k c, e = .returned (.tuple #[.slice A k c, .int .i64 (rangeE n i m)]) ∧ Below w.heap.size w w' ∧
  ((rangeE n i m ≠ 0 ∧ k = 0) ∨ (rangeE n i m = 0 ∧ k = n ∧ Arr .u64 w' w'.heap.size A n (splice zs i.toNat (List.replicate m.toNat v))))
theorem fill_any (A : Option Addr) (n c : Nat) (i m v : Int) (zs : List Int) (w : World) (hn : n ≤ maxLen) (hi : (Lit.int .i64 i).wf = true) (hm : (Lit.int .i64 m).wf = true) (hv : (Lit.int .u64 v).wf = true) (ha : Arr .u64 w w.heap.size A n zs) :
    Calls Try.prog 45 #[.slice A n c, .int .i64 i, .int .i64 m, .int .u64 v] w (FillP n i m v zs w) := by
  by_cases h : rangeE n i m = 0
  · obtain ⟨h256, i0, i1, m0, m1⟩ := rangeE_zero h
    refine (fill_ok A n c i m v zs w h256 i0 i1 m0 m1 hv ha).mono ?_
    rintro e w' ⟨rfl, hW, hB⟩
    refine ⟨_, _, _, by rw [h], hB, .inr ⟨h, rfl, ?_⟩⟩
    have := hW.arr (B := w'.heap.size) hW.lt
    rwa [length_splice _ _ _ (by have := ha.1; simp; omega), ha.1] at this
  · refine (fill_bad A n c i m v w hn hi hm h).mono ?_
    rintro e w' ⟨rfl, rfl⟩
    exact ⟨_, _, _, rfl, Below.refl _ _, .inl ⟨h, rfl⟩⟩
end Go.Proofs.Ytggjgcnmkkoheaa
