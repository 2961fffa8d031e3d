/-
  Contracts of package spot's functions that make no runs, each for every argument; and of math/bits.OnesCount64 and slices.Clone at []uint64.
-/
import Derived.Test.YtdieokpfkojoiaaSpotM
import Derived.Test.YtdieokpfkojoiaaRef
import Derived.Deep.DeepCutAuto
namespace Go.Proofs.Ytdieokpfkojoiaa
open Go.RowKit

set_option maxHeartbeats 400000 in
theorem ones_any (x : Nat) (w : World) (hx : x < 18446744073709551616) :
    Calls Try.prog 71 #[.int .u64 x] w fun e w' => e = .returned (.int .i64 (pop x)) ∧ w = w' := by
  obtain ⟨h1, h2⟩ := walk_pop x hx
  have h3 := ones_pop x hx
  rw [← h3]
  have H1 := Lib.hid h1
  clear h1 h3
  generalize sF (sE (sD (sC 8 (sB 8 (sA 8 x))))) = y at H1 h2 ⊢
  have H2 := Lib.hid (i64_and_nat y 127 h2 (by omega))
  go_enter Try.func71, Try.ntmps71
  go_upto_region 6 with fail
  go_cut [0] (fun s wx => s = .int .u64 y ∧ w = wx)
  case first =>
    go_wp2
    go_meet
    exact ⟨by rw [← H1.out]; rfl, rfl⟩
  case rest =>
    obtain ⟨rfl, rfl⟩ := hcut
    go_wp2
    go_ret
    exact ⟨by rw [← nat_mask7, ← H2.out]; rfl, rfl⟩

theorem wrap_low (k : Nat) (h0 : 0 < k) (h : k < 64) : IntKind.u64.wrap (IntKind.u64.wrap (2 ^ k) - 1) = ((lowN k : Nat) : Int) := by
  have h1 : (2 : Nat) ^ k < 2 ^ 64 := Nat.pow_lt_pow_right (by omega) h
  have h2 : 0 < (2 : Nat) ^ k := Nat.pow_pos (by omega)
  have e : (2 : Int) ^ k = ((2 ^ k : Nat) : Int) := by simp
  rw [IntKind.wrap_u64, IntKind.wrap_u64, e]
  unfold lowN
  rw [if_neg (by omega), if_neg (by omega), Int.toNat_natCast]
  omega
theorem mask_bits (i a l : Nat) : bits .andNot .u64 ((lowN ((a : Int) + l - 64 * i) : Nat) : Int) ((lowN ((a : Int) - 64 * i) : Nat) : Int) = ((maskN i a l : Nat) : Int) :=
  u64_andNot_nat _ _ (lowN_lt _) (lowN_lt _)
theorem cast_ne {a b : Nat} (h : a ≠ b) : ((a : Int) != (b : Int)) = true := by simp; omega
/-- The error of a range of marks. -/
def spotE (zs : List Int) (n a l : Int) : Int := if marksE zs n = 0 then (if validB n a l then 0 else 4) else marksE zs n
theorem spotE_bad {zs : List Int} {n a l : Int} (h : marksE zs n ≠ 0) : spotE zs n a l = marksE zs n := by unfold spotE; rw [if_neg h]
theorem spotE_four {zs : List Int} {n a l : Int} (h : marksE zs n = 0) (hv : validB n a l = false) : spotE zs n a l = 4 := by unfold spotE; rw [if_pos h, hv]; rfl
theorem spotE_ok {zs : List Int} {n a l : Int} (h : marksE zs n = 0) (hv : validB n a l = true) : spotE zs n a l = 0 := by unfold spotE; rw [if_pos h, hv]; rfl
theorem spotE_zero {zs : List Int} {n a l : Int} (h : spotE zs n a l = 0) : marksE zs n = 0 ∧ 0 ≤ a ∧ a ≤ n ∧ 0 ≤ l ∧ l ≤ n - a := by
  unfold spotE at h
  split at h
  · rename_i h0
    cases hv : validB n a l
    · rw [hv] at h; simp at h
    · unfold validB at hv
      exact ⟨h0, by simpa using hv⟩
  · rename_i h0; exact absurd h h0
/-- Facts of marks that are right. -/
theorem marks_len {zs : List Int} {n : Nat} {m : Int} (h : marksE zs m = 0) (hl : zs.length = n) : n ≤ 4 ∧ n ≤ maxLen ∧ 0 ≤ m ∧ m ≤ 256 ∧ m ≤ 64 * n := by
  obtain ⟨h1, h2, h3, _⟩ := marksE_zero h
  unfold maxLen
  omega
/-- What Has answers. -/
def hasV (zs : List Int) (m a : Int) : Bool := if spotE zs m a 1 = 0 then bit zs a.toNat else false
/-- What Next answers: a number, and whether there is one. -/
def nextV (zs : List Int) (m a : Int) (on : Bool) : Int := if spotE zs m a 0 = 0 then (nextN zs on m.toNat a.toNat : Nat) else 0
def nextB (zs : List Int) (m a : Int) (on : Bool) : Bool := if spotE zs m a 0 = 0 then decide (nextN zs on m.toNat a.toNat < m.toNat) else false
/-- What Count answers. -/
def countV (zs : List Int) (m a l : Int) : Int := if spotE zs m a l = 0 then (cnt (bit zs) a.toNat l.toNat : Nat) else 0
end Go.Proofs.Ytdieokpfkojoiaa
