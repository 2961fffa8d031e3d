/-
  Contracts of functions over slices of spots: slices.IndexFunc (with a function that has one captured variable), slices.Equal; of sameObject.
-/
import Derived.Test.YtggjgcnmkkoheaaObjOwn
import Derived.Test.YtggjgcnmkkoheaaEq
import Derived.Test.YtggjgcnmkkoheaaProg
import Derived.StillTailTactics
import Derived.Deep.DeepCutAuto
namespace Go.Proofs.Ytggjgcnmkkoheaa
open Go.RowKit

/-- The answer of IndexFunc: the first number that the rule marks, -1 if none. -/
def FoundS (n : Nat) (f : Nat → Bool) (w : World) (e : Ending) (w' : World) : Prop := ∃ r : Int, e = .returned (.int .i64 r) ∧ Below w.heap.size w w' ∧
  ((∃ k : Nat, r = k ∧ k < n ∧ f k = true ∧ ∀ j, j < k → f j = false) ∨ (r = -1 ∧ ∀ j, j < n → f j = false))

set_option maxHeartbeats 400000 in
theorem indexSpot (A : Option Addr) (n c B fid : Nat) (p : Addr) (l : List Sp) (f : Nat → Bool) (w : World) (hn : n ≤ maxLen) (hB0 : B ≤ w.heap.size) (hx : ArrG spotC 5 w B A n l) (hcall : ∀ args wx, Sem.run Try.prog (callFunc fid args) wx = .ok (.enter fid args) wx)
    (hF : ∀ wx, Below w.heap.size w wx → ∀ j, j < n → Calls Try.prog fid #[.agg #[.int .i64 (nthG l j).1, .int .i64 (nthG l j).2.1, .int .i64 (nthG l j).2.2.1, .int .i64 (nthG l j).2.2.2.1, .bool (nthG l j).2.2.2.2], .pointer (some p)] wx (fun e w' => e = .returned (.bool (f j)) ∧ Below wx.heap.size wx w')) :
    Calls Try.prog 78 #[.slice A n c, .func (.func fid) #[] #[.pointer (some p)]] w (FoundS n f w) := by
  unfold maxLen at hn
  have HF := Lib.hid hF
  clear hF
  go_enter Try.func78, Try.ntmps78
  go_wp2
  go_loopw [8] (fun i wr => ∃ k : Nat, k ≤ n ∧ i = .int .i64 k ∧ Hid (∀ j, j < k → f j = false) ∧ Below w.heap.size w wr) (fun i _ => n - (intOf i).toNat)
  case atStart => exact ⟨0, Nat.zero_le _, rfl, (fun j hj => absurd hj (by omega)), Below.refl _ _⟩
  case round =>
    obtain ⟨k, hk, rfl, HE, hB⟩ := hrel
    by_cases hlt : k < n
    · obtain ⟨b, off, rfl, hbB, hc0, hc1, hc2, hc3, hc4⟩ := (hx.below hB hB0).spot hlt
      have hC := HF.out wr hB k hlt
      have HC := Lib.hid hC
      have HB := Lib.hid hB
      clear hC hB hx
      generalize (nthG l k).1 = X0 at *
      generalize (nthG l k).2.1 = X1 at *
      generalize (nthG l k).2.2.1 = X2 at *
      generalize (nthG l k).2.2.2.1 = X3 at *
      generalize (nthG l k).2.2.2.2 = X4 at *
      cases hf : f k
      · rw [hf] at HC
        have Hf := Lib.hid hf
        clear hf
        go_wp2_with fail
        refine HC.out.mono ?_
        rintro e w1 ⟨rfl, hb1⟩
        have HB1 := Lib.hid (HB.out.trans (hb1.mono HB.out.size))
        clear hb1
        go_wp2
        go_roundw
        case rel =>
          refine ⟨k + 1, by omega, by go_num, fun j hj => ?_, HB1.out⟩
          rcases Nat.lt_succ_iff_lt_or_eq.1 hj with h | h
          · exact HE.out j h
          · rw [h]; exact Hf.out
        case measure => simp [intOf]; omega
      · rw [hf] at HC
        have Hf := Lib.hid hf
        clear hf
        go_wp2_with fail
        refine HC.out.mono ?_
        rintro e w1 ⟨rfl, hb1⟩
        have HB1 := Lib.hid (HB.out.trans (hb1.mono HB.out.size))
        clear hb1
        go_wp2
        go_ret
        exact ⟨_, rfl, HB1.out, .inl ⟨k, rfl, hlt, Hf.out, HE.out⟩⟩
    · obtain rfl : k = n := by omega
      have HB := Lib.hid hB
      clear hB hx
      go_wp2
      go_ret
      exact ⟨_, rfl, HB.out, .inr ⟨rfl, HE.out⟩⟩

theorem sameWords (A A' : Option Addr) (n c c' B : Nat) (xs : List Int) (w : World) (hx : Arr .u64 w B A n xs) (hy : Arr .u64 w B A' n xs) (hn : n ≤ maxLen) :
    Calls Try.prog 19 #[.slice A n c, .slice A' n c'] w fun e w' => e = .returned (.bool true) ∧ ∃ q, w.drewN q = w' :=
  (equalWords A A' n n c c' B xs xs w hx hy hn hn).mono fun e w' h => ⟨by rw [h.1]; simp, h.2⟩

end Go.Proofs.Ytggjgcnmkkoheaa
