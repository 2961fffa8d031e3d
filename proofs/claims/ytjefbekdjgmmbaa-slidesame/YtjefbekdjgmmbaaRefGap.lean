/-
  Slices of runs, and the reference's runs and gaps.
-/
import Derived.Test.YtjefbekdjgmmbaaRunM
import Derived.Test.YtjefbekdjgmmbaaRef
import Derived.Test.YtjefbekdjgmmbaaGapM
import Derived.Test.YtjefbekdjgmmbaaHead
namespace Go.Proofs.Ytjefbekdjgmmbaa
open Go.RowKit

theorem ArrG.run {w : World} {B n : Nat} {A : Option Addr} {l : List (Int × Int)} (h : ArrG runC 2 w B A n l) {j : Nat} (hj : j < n) :
    ∃ b off, A = some ⟨b, off, none⟩ ∧ b < B ∧ w.cell? ⟨b, off + j * 2, none⟩ = some (.int .i64 (nthG l j).1) ∧ w.cell? ⟨b, off + j * 2 + 1, none⟩ = some (.int .i64 (nthG l j).2) := by
  obtain ⟨b, off, e, hb, hc⟩ := h.at_ hj
  exact ⟨b, off, e, hb, hc 0 (by omega), hc 1 (by omega)⟩
theorem any_true {f : Nat → Bool} {n k : Nat} (hk : k < n) (h : f k = true) : (List.range n).any f = true := List.any_eq_true.2 ⟨k, List.mem_range.2 hk, h⟩
theorem any_false {f : Nat → Bool} {n : Nat} (h : ∀ j, j < n → f j = false) : (List.range n).any f = false := by
  rw [List.any_eq_false]; intro j hj; rw [h j (List.mem_range.1 hj)]; decide

/-- The answer of IndexFunc: the first number that the rule marks, -1 if none. -/
def FoundAt (n : Nat) (f : Nat → Bool) (w : World) (e : Ending) (w' : World) : Prop := ∃ r : Int, e = .returned (.int .i64 r) ∧ Below w.heap.size w w' ∧
  ((∃ k : Nat, r = k ∧ k < n ∧ f k = true ∧ ∀ j, j < k → f j = false) ∨ (r = -1 ∧ ∀ j, j < n → f j = false))

theorem nthG_ext {α : Type} [Inhabited α] {xs ys : List α} (hl : xs.length = ys.length) (h : ∀ j, j < xs.length → nthG xs j = nthG ys j) : xs = ys := by
  apply List.ext_getElem hl
  intro i h1 h2
  have := h i h1
  simpa [nthG, h1, h2] using this

theorem runInfoR : (Try.prog.info? 64).map (fun i => (i.zero, i.size, i.bytes)) = some (some (.agg #[.int .i64 0, .int .i64 0]), 2, 16) := by kernel_rfl
/-- What RunsOf answers. -/
def RunsOfR (f : Nat → Bool) (n : Nat) (w : World) (e : Ending) (w' : World) : Prop := ∃ v, e = .returned v ∧ OwnG runC 2 64 w' w.heap.size v (runsTo f n) ∧ Below w.heap.size w w'
set_option maxHeartbeats 400000 in
theorem freeHead_any (n : Nat) (w : World) (h0 : 0 < n) (h1 : n ≤ 256) :
    Calls Try.prog 50 #[.int .i64 n] w fun e w' => e = .returned (.int .u64 (fWord n)) ∧ Below w.heap.size w w' := by
  have HW := Lib.hid (headWord_any 0 ((n : Int) - 1) 0 true w (fWord_fault h0 h1))
  change Hid (Calls _ _ _ w fun e w' => e = .returned (.int .u64 (fWord n)) ∧ Below w.heap.size w w') at HW
  generalize fWord n = V at *
  go_enter Try.func50, Try.ntmps50
  go_wp2_with fail
  refine HW.out.mono ?_
  rintro e w1 ⟨rfl, hb⟩
  have HB := Lib.hid hb
  clear hb
  go_wp2
  go_ret
  exact ⟨rfl, HB.out⟩

/-- What Emptied answers. -/
def EmptiedP (n : Nat) (ys : List Int) (w : World) (e : Ending) (w' : World) : Prop := ∃ A c, e = .returned (.slice A n c) ∧ Own .u64 47 w' w.heap.size (.slice A n c) ys ∧ Below w.heap.size w w'
theorem zero_step (zs : List Int) (p k : Nat) (h : p + k < zs.length) : (splice zs p (List.replicate k 0)).set (p + k) 0 = splice zs p (List.replicate (k + 1) 0) := splice_step zs p k 0 h
theorem splice_nil (zs : List Int) (p : Nat) : splice zs p [] = zs := by simp [splice]
theorem splice_len (zs : List Int) (p k : Nat) (h : p + k ≤ zs.length) : (splice zs p (List.replicate k (0 : Int))).length = zs.length := by unfold splice; simp; omega

end Go.Proofs.Ytjefbekdjgmmbaa
