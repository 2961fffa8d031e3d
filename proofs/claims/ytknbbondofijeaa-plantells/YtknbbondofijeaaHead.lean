/-
  Contracts of package head's functions and of the reference's own, each for every header.
-/
import Derived.Test.YtknbbondofijeaaProg
import Derived.Test.YtknbbondofijeaaHeadM
namespace Go.Proofs.Ytknbbondofijeaa
open Go.RowKit

set_option maxHeartbeats 400000 in
theorem within_any (n m : Int) (w : World) : Calls Try.prog 113 #[.int .i64 n, .int .i64 m] w fun e w' => e = .returned (.bool (within n m)) ∧ w = w' := by
  by_cases h0 : 0 ≤ n
  · by_cases h1 : n ≤ m
    · rw [within_true h0 h1]
      go_enter Try.func113, Try.ntmps113
      go_wp2
      go_ret
      exact ⟨rfl, rfl⟩
    · rw [within_high (by omega)]
      go_enter Try.func113, Try.ntmps113
      go_wp2
      go_ret
      exact ⟨rfl, rfl⟩
  · rw [within_low (by omega)]
    go_enter Try.func113, Try.ntmps113
    go_wp2
    go_ret
    exact ⟨rfl, rfl⟩

set_option maxHeartbeats 400000 in
theorem long_any (r b t : Int) (f : Bool) (w : World) (hr0 : 0 ≤ r) (hr : r ≤ 256) (hb0 : 0 ≤ b) (hb : b ≤ 256) :
    Calls Try.prog 109 #[.agg #[.int .i64 r, .int .i64 b, .int .i64 t, .bool f]] w fun e w' => e = .returned (.int .i64 (1 + r + b)) ∧ Below w.heap.size w w' := by
  go_enter Try.func109, Try.ntmps109
  go_wp2
  go_ret
  exact ⟨rfl, (Below.refl _ w).alloc (Nat.le_refl _) _⟩

set_option maxHeartbeats 400000 in
theorem check_any (r b t : Int) (f : Bool) (w : World) :
    Calls Try.prog 108 #[.agg #[.int .i64 r, .int .i64 b, .int .i64 t, .bool f]] w fun e w' => e = .returned (.int .i64 (hFault r b t f)) ∧ Below w.heap.size w w' := by
  cases h0 : within r 256
  · rw [hFault_r h0]
    go_enter Try.func108, Try.ntmps108
    go_wp2_with fail
    refine (within_any r 256 _).mono ?_
    rintro e w' ⟨rfl, rfl⟩
    go_wp2
    go_ret
    exact ⟨rfl, (Below.refl _ w).alloc (Nat.le_refl _) _⟩
  cases h1 : within b 256
  · rw [hFault_b h1]
    go_enter Try.func108, Try.ntmps108
    go_wp2_with fail
    refine (within_any r 256 _).mono ?_
    rintro e w' ⟨rfl, rfl⟩
    go_wp2_with fail
    refine (within_any b 256 _).mono ?_
    rintro e w' ⟨rfl, rfl⟩
    go_wp2
    go_ret
    exact ⟨rfl, (Below.refl _ w).alloc (Nat.le_refl _) _⟩
  cases h2 : within t 65535
  · rw [hFault_t h2]
    go_enter Try.func108, Try.ntmps108
    go_wp2_with fail
    refine (within_any r 256 _).mono ?_
    rintro e w' ⟨rfl, rfl⟩
    go_wp2_with fail
    refine (within_any b 256 _).mono ?_
    rintro e w' ⟨rfl, rfl⟩
    go_wp2_with fail
    refine (within_any t 65535 _).mono ?_
    rintro e w' ⟨rfl, rfl⟩
    go_wp2
    go_ret
    exact ⟨rfl, (Below.refl _ w).alloc (Nat.le_refl _) _⟩
  have hr := within_iff.1 h0
  have hb := within_iff.1 h1
  cases f
  · rw [hFault_in h0 h1 h2 (fun h => by cases h)]
    by_cases hl : 256 < 1 + r + b
    · rw [if_pos hl]
      go_enter Try.func108, Try.ntmps108
      go_wp2_with fail
      refine (within_any r 256 _).mono ?_
      rintro e w' ⟨rfl, rfl⟩
      go_wp2_with fail
      refine (within_any b 256 _).mono ?_
      rintro e w' ⟨rfl, rfl⟩
      go_wp2_with fail
      refine (within_any t 65535 _).mono ?_
      rintro e w' ⟨rfl, rfl⟩
      go_wp2_with fail
      refine (long_any r b t false _ hr.1 hr.2 hb.1 hb.2).mono ?_
      rintro e w' ⟨rfl, hb1⟩
      have HB := Lib.hid (((Below.refl _ w).alloc (Nat.le_refl _) _).trans (hb1.mono (Nat.le_of_lt (by rw [World.alloc]; simp))))
      clear hb1
      go_wp2
      go_ret
      exact ⟨rfl, HB.out⟩
    · rw [if_neg hl]
      go_enter Try.func108, Try.ntmps108
      go_wp2_with fail
      refine (within_any r 256 _).mono ?_
      rintro e w' ⟨rfl, rfl⟩
      go_wp2_with fail
      refine (within_any b 256 _).mono ?_
      rintro e w' ⟨rfl, rfl⟩
      go_wp2_with fail
      refine (within_any t 65535 _).mono ?_
      rintro e w' ⟨rfl, rfl⟩
      go_wp2_with fail
      refine (long_any r b t false _ hr.1 hr.2 hb.1 hb.2).mono ?_
      rintro e w' ⟨rfl, hb1⟩
      have HB := Lib.hid (((Below.refl _ w).alloc (Nat.le_refl _) _).trans (hb1.mono (Nat.le_of_lt (by rw [World.alloc]; simp))))
      clear hb1
      go_wp2
      go_ret
      exact ⟨rfl, HB.out⟩
  · by_cases e0 : r = 0
    · by_cases e1 : t = 0
      · rw [hFault_in h0 h1 h2 (fun _ => ⟨e0, e1⟩)]
        have n0 : (r != 0) = false := by simp [e0]
        have n1 : (t != 0) = false := by simp [e1]
        clear e0 e1
        by_cases hl : 256 < 1 + r + b
        · rw [if_pos hl]
          go_enter Try.func108, Try.ntmps108
          go_wp2_with fail
          refine (within_any r 256 _).mono ?_
          rintro e w' ⟨rfl, rfl⟩
          go_wp2_with fail
          refine (within_any b 256 _).mono ?_
          rintro e w' ⟨rfl, rfl⟩
          go_wp2_with fail
          refine (within_any t 65535 _).mono ?_
          rintro e w' ⟨rfl, rfl⟩
          go_wp2_with fail
          refine (long_any r b t true _ hr.1 hr.2 hb.1 hb.2).mono ?_
          rintro e w' ⟨rfl, hb1⟩
          have HB := Lib.hid (((Below.refl _ w).alloc (Nat.le_refl _) _).trans (hb1.mono (Nat.le_of_lt (by rw [World.alloc]; simp))))
          clear hb1
          go_wp2
          go_ret
          exact ⟨rfl, HB.out⟩
        · rw [if_neg hl]
          go_enter Try.func108, Try.ntmps108
          go_wp2_with fail
          refine (within_any r 256 _).mono ?_
          rintro e w' ⟨rfl, rfl⟩
          go_wp2_with fail
          refine (within_any b 256 _).mono ?_
          rintro e w' ⟨rfl, rfl⟩
          go_wp2_with fail
          refine (within_any t 65535 _).mono ?_
          rintro e w' ⟨rfl, rfl⟩
          go_wp2_with fail
          refine (long_any r b t true _ hr.1 hr.2 hb.1 hb.2).mono ?_
          rintro e w' ⟨rfl, hb1⟩
          have HB := Lib.hid (((Below.refl _ w).alloc (Nat.le_refl _) _).trans (hb1.mono (Nat.le_of_lt (by rw [World.alloc]; simp))))
          clear hb1
          go_wp2
          go_ret
          exact ⟨rfl, HB.out⟩
      · rw [hFault_fr h0 h1 h2 (.inr e1)]
        have n0 : (r != 0) = false := by simp [e0]
        have n1 : (t != 0) = true := by simp [e1]
        clear e0 e1
        go_enter Try.func108, Try.ntmps108
        go_wp2_with fail
        refine (within_any r 256 _).mono ?_
        rintro e w' ⟨rfl, rfl⟩
        go_wp2_with fail
        refine (within_any b 256 _).mono ?_
        rintro e w' ⟨rfl, rfl⟩
        go_wp2_with fail
        refine (within_any t 65535 _).mono ?_
        rintro e w' ⟨rfl, rfl⟩
        go_wp2
        go_ret
        exact ⟨rfl, (Below.refl _ w).alloc (Nat.le_refl _) _⟩
    · rw [hFault_fr h0 h1 h2 (.inl e0)]
      have n0 : (r != 0) = true := by simp [e0]
      clear e0
      go_enter Try.func108, Try.ntmps108
      go_wp2_with fail
      refine (within_any r 256 _).mono ?_
      rintro e w' ⟨rfl, rfl⟩
      go_wp2_with fail
      refine (within_any b 256 _).mono ?_
      rintro e w' ⟨rfl, rfl⟩
      go_wp2_with fail
      refine (within_any t 65535 _).mono ?_
      rintro e w' ⟨rfl, rfl⟩
      go_wp2
      go_ret
      exact ⟨rfl, (Below.refl _ w).alloc (Nat.le_refl _) _⟩

set_option maxHeartbeats 400000 in
theorem headFault_any (r b t : Int) (f : Bool) (w : World) :
    Calls Try.prog 101 #[.agg #[.int .i64 r, .int .i64 b, .int .i64 t, .bool f]] w fun e w' => e = .returned (.int .i64 (hFault r b t f)) ∧ Below w.heap.size w w' := by
  by_cases r0 : r < 0
  · rw [hFault_r (within_low r0)]
    go_enter Try.func101, Try.ntmps101
    go_wp2
    go_ret
    exact ⟨rfl, (Below.refl _ w).alloc (Nat.le_refl _) _⟩
  by_cases r1 : 256 < r
  · rw [hFault_r (within_high r1)]
    go_enter Try.func101, Try.ntmps101
    go_wp2
    go_ret
    exact ⟨rfl, (Below.refl _ w).alloc (Nat.le_refl _) _⟩
  by_cases b0 : b < 0
  · rw [hFault_b (within_low b0)]
    go_enter Try.func101, Try.ntmps101
    go_wp2
    go_ret
    exact ⟨rfl, (Below.refl _ w).alloc (Nat.le_refl _) _⟩
  by_cases b1 : 256 < b
  · rw [hFault_b (within_high b1)]
    go_enter Try.func101, Try.ntmps101
    go_wp2
    go_ret
    exact ⟨rfl, (Below.refl _ w).alloc (Nat.le_refl _) _⟩
  by_cases t0 : t < 0
  · rw [hFault_t (within_low t0)]
    go_enter Try.func101, Try.ntmps101
    go_wp2
    go_ret
    exact ⟨rfl, (Below.refl _ w).alloc (Nat.le_refl _) _⟩
  by_cases t1 : 65535 < t
  · rw [hFault_t (within_high t1)]
    go_enter Try.func101, Try.ntmps101
    go_wp2
    go_ret
    exact ⟨rfl, (Below.refl _ w).alloc (Nat.le_refl _) _⟩
  have h0 : within r 256 = true := within_true (by omega) (by omega)
  have h1 : within b 256 = true := within_true (by omega) (by omega)
  have h2 : within t 65535 = true := within_true (by omega) (by omega)
  cases f
  · rw [hFault_in h0 h1 h2 (fun h => by cases h)]
    clear h0 h1 h2
    by_cases hl : 256 < 1 + r + b
    · rw [if_pos hl]
      go_enter Try.func101, Try.ntmps101
      go_wp2
      go_ret
      exact ⟨rfl, (Below.refl _ w).alloc (Nat.le_refl _) _⟩
    · rw [if_neg hl]
      go_enter Try.func101, Try.ntmps101
      go_wp2
      go_ret
      exact ⟨rfl, (Below.refl _ w).alloc (Nat.le_refl _) _⟩
  · by_cases e0 : r = 0
    · by_cases e1 : t = 0
      · rw [hFault_in h0 h1 h2 (fun _ => ⟨e0, e1⟩)]
        subst e0 e1
        clear h0 h1 h2
        by_cases hl : 256 < 1 + 0 + b
        · rw [if_pos hl]
          go_enter Try.func101, Try.ntmps101
          go_wp2
          go_ret
          exact ⟨rfl, (Below.refl _ w).alloc (Nat.le_refl _) _⟩
        · rw [if_neg hl]
          go_enter Try.func101, Try.ntmps101
          go_wp2
          go_ret
          exact ⟨rfl, (Below.refl _ w).alloc (Nat.le_refl _) _⟩
      · rw [hFault_fr h0 h1 h2 (.inr e1)]
        have n1 : (t != 0) = true := by simp [e1]
        subst e0
        clear h0 h1 h2 e1
        go_enter Try.func101, Try.ntmps101
        go_wp2
        go_ret
        exact ⟨rfl, (Below.refl _ w).alloc (Nat.le_refl _) _⟩
    · rw [hFault_fr h0 h1 h2 (.inl e0)]
      have n0 : (r != 0) = true := by simp [e0]
      clear e0 h0 h1 h2
      go_enter Try.func101, Try.ntmps101
      go_wp2
      go_ret
      exact ⟨rfl, (Below.refl _ w).alloc (Nat.le_refl _) _⟩

set_option maxHeartbeats 400000 in
theorem headLong_any (r b t : Int) (f : Bool) (w : World) (hr0 : 0 ≤ r) (hr : r ≤ 256) (hb0 : 0 ≤ b) (hb : b ≤ 256) :
    Calls Try.prog 73 #[.agg #[.int .i64 r, .int .i64 b, .int .i64 t, .bool f]] w fun e w' => e = .returned (.int .i64 (1 + r + b)) ∧ Below w.heap.size w w' := by
  go_enter Try.func73, Try.ntmps73
  go_wp2
  go_ret
  exact ⟨rfl, (Below.refl _ w).alloc (Nat.le_refl _) _⟩
end Go.Proofs.Ytknbbondofijeaa
