/-
  Contracts of cmp.Compare, slices.BinarySearchFunc, pin.find, pin.Many.
-/
import Derived.Test.YtedndmhekjfpdaaPinC
import Derived.IntWalk
namespace Go.Proofs.Ytedndmhekjfpdaa
open Go.RowKit

/-- What cmp.Compare says. -/
def cmpI (x y : Int) : Int := if x < y then -1 else if y < x then 1 else 0

set_option maxHeartbeats 400000 in
theorem compare_any (x y : Int) (w : World) : Calls Try.prog 49 #[.int .i64 x, .int .i64 y] w fun e w' => e = .returned (.int .i64 (cmpI x y)) ∧ w = w' := by
  have n1 : (x != x) = false := by simp
  have n2 : (y != y) = false := by simp
  by_cases h1 : x < y
  · have HR : Hid (cmpI x y = -1) := if_pos h1
    have c1 : (x < y) = True := eq_true h1
    clear h1
    go_enter Try.func49, Try.ntmps49
    go_wp2
    go_ret
    exact ⟨by rw [HR.out]; rfl, rfl⟩
  · have c1 : (x < y) = False := eq_false h1
    by_cases h2 : y < x
    · have HR : Hid (cmpI x y = 1) := by show _ = _; unfold cmpI; rw [if_neg h1, if_pos h2]
      have c2 : (y < x) = True := eq_true h2
      clear h1 h2
      go_enter Try.func49, Try.ntmps49
      go_wp2
      go_ret
      exact ⟨by rw [HR.out]; rfl, rfl⟩
    · have HR : Hid (cmpI x y = 0) := by show _ = _; unfold cmpI; rw [if_neg h1, if_neg h2]
      have c2 : (y < x) = False := eq_false h2
      clear h1 h2
      go_enter Try.func49, Try.ntmps49
      go_wp2
      go_ret
      exact ⟨by rw [HR.out]; rfl, rfl⟩

set_option maxHeartbeats 400000 in
theorem findFn_any (X Y a : Int) (w : World) : Calls Try.prog 48 #[.agg #[.int .i64 X, .int .i64 Y], .int .i64 a] w fun e w' => e = .returned (.int .i64 (cmpI X a)) ∧ Below w.heap.size w w' := by
  have HC := Lib.hid (fun wx => compare_any X a wx)
  have HB := Lib.hid ((Below.refl _ w).alloc (Nat.le_refl _) (.cells #[.int .i64 X, .int .i64 Y] 57))
  generalize cmpI X a = R at *
  go_enter Try.func48, Try.ntmps48
  go_wp2_with fail
  refine (HC.out _).mono ?_
  rintro e w1 ⟨rfl, rfl⟩
  go_wp2
  go_ret
  exact ⟨rfl, HB.out⟩

/-- The word at 'p' is 'a'. -/
def hitB (l : List (Int × Int)) (a : Int) (p : Nat) : Bool := decide (p < l.length ∧ (nthG l p).1 = a)
theorem cmpI_neg {x y : Int} : cmpI x y < 0 ↔ x < y := by
  unfold cmpI
  split
  · rename_i h; simp [h]
  · split
    · rename_i h _; simp; omega
    · rename_i h _; simp; omega
theorem cmpI_zero {x y : Int} : cmpI x y = 0 ↔ x = y := by
  unfold cmpI
  split
  · rename_i h; simp; omega
  · split
    · rename_i h _; simp; omega
    · rename_i h _; simp; omega

set_option maxRecDepth 8000 in
set_option maxHeartbeats 1000000 in
theorem search_any (A : Option Addr) (n c p fid : Nat) (l : List (Int × Int)) (a : Int) (w : World) (hn : n ≤ 16) (ha : ArrG runC 2 w w.heap.size A n l) (hC : Cuts l a p) (hcall : ∀ args wx, Sem.run Try.prog (callFunc fid args) wx = .ok (.enter fid args) wx)
    (hF : ∀ X Y wx, Calls Try.prog fid #[.agg #[.int .i64 X, .int .i64 Y], .int .i64 a] wx (fun e w' => e = .returned (.int .i64 (cmpI X a)) ∧ Below wx.heap.size wx w')) :
    Calls Try.prog 47 #[.slice A n c, .int .i64 a, .func (.func fid) #[] #[]] w fun e w' => e = .returned (.tuple #[.int .i64 p, .bool (hitB l a p)]) ∧ Below w.heap.size w w' := by
  have hl := ha.1
  have HA := Lib.hid ha
  have HL := Lib.hid hl
  have HF := Lib.hid hF
  have hp := hC.1
  rw [hl] at hp
  have HC := Lib.hid hC.2
  clear ha hF hC hl
  go_enter Try.func47, Try.ntmps47
  go_wp2
  go_loopw [9, 10] (fun s t wr => ∃ lo hi : Nat, s = .int .i64 lo ∧ t = .int .i64 hi ∧ lo ≤ p ∧ p ≤ hi ∧ hi ≤ n ∧ Hid (Below w.heap.size w wr)) (fun s t _ => (intOf t).toNat - (intOf s).toNat)
  case atStart => exact ⟨0, n, rfl, rfl, Nat.zero_le _, hp, Nat.le_refl _, Below.refl _ _⟩
  case round =>
    obtain ⟨lo, hi, rfl, rfl, hlo, hhi, hin, HB⟩ := hrel
    by_cases hlt : lo < hi
    · obtain ⟨M, hM⟩ : ∃ M, (lo + hi) / 2 = M := ⟨_, rfl⟩
      have hM1 : ((lo : Int) + (hi : Int)) / 2 = (M : Int) := by omega
      have hMn : M < n := by omega
      have hMn' : (M : Int) < (n : Int) := by omega
      obtain ⟨b, off, rfl, hbB, hc0, hc1⟩ := (HA.out.below HB.out (Nat.le_refl _)).run hMn
      have hlow := HC.out M (by rw [HL.out]; exact hMn)
      obtain ⟨X, hX⟩ : ∃ X, (nthG l M).1 = X := ⟨_, rfl⟩
      obtain ⟨Y, hY⟩ : ∃ Y, (nthG l M).2 = Y := ⟨_, rfl⟩
      rw [hX] at hc0 hlow
      rw [hY] at hc1
      rw [← cmpI_neg] at hlow
      have HC1 := Lib.hid (HF.out X Y wr)
      have HMr := Lib.hid hM
      clear hX hY hM
      generalize cmpI X a = R at *
      by_cases hr : R < 0
      · have c1 : (R < 0) = True := eq_true hr
        have HMp := Lib.hid (hlow.1 hr)
        clear hr hlow
        go_wp2_with fail
        refine HC1.out.mono ?_
        rintro e w1 ⟨rfl, b1⟩
        have HB1 := Lib.hid (HB.out.trans (b1.mono HB.out.size))
        clear b1
        go_wp2
        go_roundw
        case rel => exact ⟨M + 1, hi, by go_num, rfl, by have := HMp.out; omega, hhi, hin, HB1⟩
        case measure => have := HMr.out; simp [intOf]; omega
      · have c1 : (R < 0) = False := eq_false hr
        have HMp : Hid (¬ M < p) := fun h => hr (hlow.2 h)
        clear hr hlow
        go_wp2_with fail
        refine HC1.out.mono ?_
        rintro e w1 ⟨rfl, b1⟩
        have HB1 := Lib.hid (HB.out.trans (b1.mono HB.out.size))
        clear b1
        go_wp2
        go_roundw
        case rel => exact ⟨lo, M, rfl, by go_num, hlo, by have := HMp.out; omega, by omega, HB1⟩
        case measure => have := HMr.out; simp [intOf]; omega
    · obtain rfl : lo = p := by omega
      obtain rfl : hi = lo := by omega
      by_cases hpn : hi < n
      · obtain ⟨b, off, rfl, hbB, hc0, hc1⟩ := (HA.out.below HB.out (Nat.le_refl _)).run hpn
        have hpn' : (hi : Int) < (n : Int) := by omega
        have hh : hitB l a hi = decide (cmpI (nthG l hi).1 a = 0) := by
          unfold hitB
          rw [HL.out]
          simp [hpn, cmpI_zero]
        obtain ⟨X, hX⟩ : ∃ X, (nthG l hi).1 = X := ⟨_, rfl⟩
        obtain ⟨Y, hY⟩ : ∃ Y, (nthG l hi).2 = Y := ⟨_, rfl⟩
        rw [hX] at hc0 hh
        rw [hY] at hc1
        have HC1 := Lib.hid (HF.out X Y wr)
        clear hX hY
        generalize cmpI X a = R at *
        by_cases hr : R = 0
        · subst hr
          have HR := Lib.hid hh
          clear hh
          go_wp2_with fail
          refine HC1.out.mono ?_
          rintro e w1 ⟨rfl, b1⟩
          have HB1 := Lib.hid (HB.out.trans (b1.mono HB.out.size))
          clear b1
          go_wp2
          go_ret2
          exact ⟨by rw [HR.out]; rfl, HB1.out⟩
        · have c1 : (R == 0) = false := by simpa using hr
          have HR : Hid (hitB l a hi = false) := by show _ = _; rw [hh]; simpa using hr
          clear hh hr
          go_wp2_with fail
          refine HC1.out.mono ?_
          rintro e w1 ⟨rfl, b1⟩
          have HB1 := Lib.hid (HB.out.trans (b1.mono HB.out.size))
          clear b1
          go_wp2
          go_ret2
          exact ⟨by rw [HR.out]; rfl, HB1.out⟩
      · have HR : Hid (hitB l a hi = false) := by
          show _ = _
          unfold hitB
          rw [HL.out]
          simp; omega
        have hpn' : ¬ (hi : Int) < (n : Int) := by omega
        go_wp2
        go_ret2
        exact ⟨by rw [HR.out]; rfl, HB.out⟩

set_option maxHeartbeats 400000 in
theorem find_any (A : Option Addr) (n c p : Nat) (l : List (Int × Int)) (a : Int) (w : World) (hn : n ≤ 16) (ha : ArrG runC 2 w w.heap.size A n l) (hC : Cuts l a p) :
    Calls Try.prog 42 #[.slice A n c, .int .i64 a] w fun e w' => e = .returned (.tuple #[.int .i64 p, .bool (hitB l a p)]) ∧ Below w.heap.size w w' := by
  have HS := Lib.hid (search_any A n c p 48 l a w hn ha hC Try.call48 (fun X Y wx => findFn_any X Y a wx))
  clear ha hC
  generalize hitB l a p = H at *
  go_enter Try.func42, Try.ntmps42
  go_wp2_with fail
  refine HS.out.mono ?_
  rintro e w1 ⟨rfl, b1⟩
  have HB := Lib.hid b1
  clear b1
  go_wp2
  go_ret2
  exact ⟨rfl, HB.out⟩

theorem nthG_mid (s r : List (Int × Int)) (x : Int × Int) : nthG (s ++ x :: r) s.length = x := by
  rw [nthG_get _ _ (by simp), List.getElem_append_right (Nat.le_refl _)]
  simp
/-- Right pins at a word that has none. -/
theorem pin_out {l : List (Int × Int)} {a : Int} (h : Rise l) (hm : ∀ x ∈ l, x.1 ≠ a) : ∃ p, p ≤ l.length ∧ Cuts l a p ∧ hitB l a p = false ∧ manyL l a = 0 ∧ addL l a = l.take p ++ (a, 1) :: l.drop p := by
  rcases two_ways (a := a) h with ⟨s, r, rfl, h1, h2⟩ | ⟨s, m, r, rfl, h1, h2⟩
  · refine ⟨s.length, by simp, cuts_of h1 fun x hx => Int.le_of_lt (h2 x hx), ?_, many_out h1 h2, ?_⟩
    · unfold hitB
      rw [decide_eq_false]
      rintro ⟨h3, h4⟩
      rw [nthG_get _ _ h3] at h4
      exact hm _ (List.getElem_mem _) h4
    · rw [add_out h1 h2]; simp
  · exact absurd rfl (hm (a, m) (by simp))
/-- Right pins at a word that has one. -/
theorem pin_in {l : List (Int × Int)} {a : Int} (h : Rise l) (hm : ¬ ∀ x ∈ l, x.1 ≠ a) : ∃ p, p < l.length ∧ Cuts l a p ∧ hitB l a p = true ∧ nthG l p = (a, manyL l a) ∧ (a, manyL l a) ∈ l ∧ addL l a = l.set p (a, manyL l a + 1) ∧
    (manyL l a = 1 → dropL l a = l.take p ++ l.drop (p + 1)) ∧ (manyL l a ≠ 1 → dropL l a = l.set p (a, manyL l a - 1)) := by
  rcases two_ways (a := a) h with ⟨s, r, rfl, h1, h2⟩ | ⟨s, m, r, rfl, h1, h2⟩
  · exfalso
    apply hm
    intro x hx
    rcases List.mem_append.1 hx with h | h
    · exact Int.ne_of_lt (h1 x h)
    · exact Int.ne_of_gt (h2 x h)
  · rw [many_in h1]
    refine ⟨s.length, by simp, cuts_of h1 fun x hx => ?_, ?_, nthG_mid s r _, by simp, ?_, fun h3 => ?_, fun h3 => ?_⟩
    · rcases List.mem_cons.1 hx with rfl | hx
      · exact Int.le_refl _
      · exact Int.le_of_lt (h2 x hx)
    · unfold hitB
      rw [nthG_mid]; simp
    · rw [add_in h1]; simp
    · subst h3
      rw [drop_last h1]; simp
    · rw [drop_in h1 h3]; simp

end Go.Proofs.Ytedndmhekjfpdaa
