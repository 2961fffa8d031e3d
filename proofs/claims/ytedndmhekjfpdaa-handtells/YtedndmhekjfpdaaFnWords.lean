/-
  slices.IndexFunc and slices.ContainsFunc over []uint64 and []int, with a function that has no captured variables and only reads its argument.
-/
import Derived.Test.YtedndmhekjfpdaaEq
namespace Go.Proofs.Ytedndmhekjfpdaa
open Go.RowKit

set_option maxHeartbeats 400000 in
theorem indexFnInts (A : Option Addr) (n c B fid : Nat) (f : Int → Bool) (xs : List Int) (w : World) (hn : n ≤ maxLen) (hx : Arr .i64 w B A n xs) (hcall : ∀ args wx, Sem.run Try.prog (callFunc fid args) wx = .ok (.enter fid args) wx)
    (hF : ∀ x wx, Calls Try.prog fid #[.int .i64 x] wx (fun e w' => e = .returned (.bool (f x)) ∧ wx = w')) :
    Calls Try.prog 39 #[.slice A n c, .func (.func fid) #[] #[]] w fun e w' => (∃ r : Int, e = .returned (.int .i64 r) ∧ decide (0 ≤ r) = xs.any f) ∧ w = w' := by
  unfold maxLen at hn
  have hl := hx.1
  have HF := Lib.hid hF
  clear hF
  go_enter Try.func39, Try.ntmps39
  go_wp2
  go_loopw [8] (fun i wr => ∃ k : Nat, k ≤ n ∧ i = .int .i64 k ∧ Hid (∀ j, j < k → f (nth xs j) = false) ∧ w = wr) (fun i _ => n - (intOf i).toNat)
  case atStart => exact ⟨0, Nat.zero_le _, rfl, (fun j hj => absurd hj (by omega)), rfl⟩
  case round =>
    obtain ⟨k, hk, rfl, HE, rfl⟩ := hrel
    by_cases hlt : k < n
    · obtain ⟨b, off, rfl, hbB, hcs⟩ := hx.2.2 (by omega)
      have hc := hcs k hlt
      have HC := Lib.hid (HF.out (nth xs k) w)
      have HM : Hid (f (nth xs k) = true → xs.any f = true) := fun h => List.any_eq_true.2 ⟨_, by rw [nth_get _ _ (by omega)]; exact List.getElem_mem _, h⟩
      have HEn : Hid (f (nth xs k) = false → ∀ j, j < k + 1 → f (nth xs j) = false) := fun h j hj => by
        rcases Nat.lt_succ_iff_lt_or_eq.1 hj with h1 | h1
        · exact HE.out j h1
        · rw [h1]; exact h
      clear hcs hx
      generalize nth xs k = X at *
      cases hf : f X
      · rw [hf] at HC
        have HN := Lib.hid (HEn.out hf)
        clear hf HM HEn
        go_wp2_with fail
        refine HC.out.mono ?_
        rintro e w1 ⟨rfl, rfl⟩
        go_wp2
        go_roundw
        case rel => exact ⟨k + 1, by omega, by go_num, HN, by trivial⟩
        case measure => simp [intOf]; omega
      · rw [hf] at HC
        have HN := Lib.hid (HM.out hf)
        clear hf HM HEn
        go_wp2_with fail
        refine HC.out.mono ?_
        rintro e w1 ⟨rfl, rfl⟩
        go_wp2
        go_ret
        exact ⟨⟨_, rfl, by rw [HN.out]; simp⟩, rfl⟩
    · obtain rfl : k = n := by omega
      have HN : Hid (xs.any f = false) := by
        show _ = _
        rw [List.any_eq_false]
        intro x hx
        obtain ⟨j, hj, e⟩ := List.getElem_of_mem hx
        have := HE.out j (by omega)
        rw [nth_get _ _ hj, e] at this
        rw [this]; decide
      clear hx
      go_wp2
      go_ret
      exact ⟨⟨_, rfl, by rw [HN.out]; rfl⟩, rfl⟩

set_option maxHeartbeats 400000 in
theorem containsFnInts (A : Option Addr) (n c B fid : Nat) (f : Int → Bool) (xs : List Int) (w : World) (hn : n ≤ maxLen) (hx : Arr .i64 w B A n xs) (hcall : ∀ args wx, Sem.run Try.prog (callFunc fid args) wx = .ok (.enter fid args) wx)
    (hF : ∀ x wx, Calls Try.prog fid #[.int .i64 x] wx (fun e w' => e = .returned (.bool (f x)) ∧ wx = w')) :
    Calls Try.prog 21 #[.slice A n c, .func (.func fid) #[] #[]] w fun e w' => e = .returned (.bool (xs.any f)) ∧ w = w' := by
  have HI := Lib.hid (indexFnInts A n c B fid f xs w hn hx hcall hF)
  clear hF hx hcall
  go_enter Try.func21, Try.ntmps21
  go_wp2_with fail
  refine HI.out.mono ?_
  rintro e w' ⟨⟨r, rfl, hr⟩, rfl⟩
  have HR := Lib.hid hr
  clear hr HI
  go_wp2
  go_ret
  exact ⟨by rw [← HR.out]; rfl, rfl⟩
end Go.Proofs.Ytedndmhekjfpdaa
