/-
  The walk of GapFits.
-/
import Derived.Test.YtggjgcnmkkoheaaFit
namespace Go.Proofs.Ytggjgcnmkkoheaa
open Go.RowKit

def badTo (l : List (Int × Int)) (k : Nat) : Int := if (List.range k).any (fun j => badRun (nthG l j)) then 4 else 0
theorem badTo_next_bad (l : List (Int × Int)) (k : Nat) (h : badRun (nthG l k) = true) : badTo l (k + 1) = 4 := by
  unfold badTo
  rw [any_true (k := k) (by omega) h]; rfl
theorem badTo_next_ok (l : List (Int × Int)) (k : Nat) (h : badRun (nthG l k) = false) : badTo l (k + 1) = badTo l k := by
  unfold badTo
  rw [List.range_succ, List.any_append]
  simp [h]
theorem badTo_end (l : List (Int × Int)) : badTo l l.length = if invB l then 4 else 0 := rfl
theorem badTo_or (l : List (Int × Int)) (k : Nat) : badTo l k = 4 ∨ badTo l k = 0 := by unfold badTo; split <;> simp

/-- What holds while GapFits goes over the runs. -/
def FitsI (l : List (Int × Int)) (m : Int) (n : Nat) (w1 : World) (a b c i : Value) (wr : World) : Prop :=
  ∃ k : Nat, k ≤ n ∧ i = .int .i64 k ∧ a = .int .i64 (pickTo never l m k) ∧ b = .int .i64 (pickTo less l m k) ∧ c = .int .i64 (badTo l k) ∧ Below w1.heap.size w1 wr

set_option maxHeartbeats 4000000 in
set_option maxRecDepth 8000 in
theorem gapFits_walk (A : Option Addr) (n c : Nat) (m : Int) (l : List (Int × Int)) (w : World) (hn : n ≤ maxLen) (hx : ArrG runC 2 w w.heap.size A n l) :
    Calls Try.prog 4 #[.slice A n c, .int .i64 m] w fun e w' => e = .returned (.bool true) ∧ Below w.heap.size w w' := by
  have hl := hx.1
  have hn' := hn
  unfold maxLen at hn'
  have HF := Lib.hid (fun w (hx : ArrG runC 2 w w.heap.size A n l) => First_any A n c l m w hn hx)
  have HG := Lib.hid (fun w (hx : ArrG runC 2 w w.heap.size A n l) => Best_any A n c l m w hn hx)
  unfold ChooseP at HF HG
  rw [chooseE_alike (bt := less) (bt' := never)] at HG
  obtain ⟨E, hE⟩ : ∃ E, chooseE never l m = E := ⟨_, rfl⟩
  obtain ⟨V1, hV1⟩ : ∃ E, chooseV never l m = E := ⟨_, rfl⟩
  obtain ⟨V2, hV2⟩ : ∃ E, chooseV less l m = E := ⟨_, rfl⟩
  rw [hE, hV1] at HF
  rw [hE, hV2] at HG
  have h2 : chooseE less l m = E := by rw [chooseE_alike (bt' := never)]; exact hE
  have HALL : Hid ((m < 1 ∧ E = 1 ∧ V1 = 0 ∧ V2 = 0) ∨ (1 ≤ m ∧ badTo l n = 4 ∧ E = 4 ∧ V1 = 0 ∧ V2 = 0) ∨ (1 ≤ m ∧ badTo l n = 0 ∧ pickTo never l m n < 0 ∧ E = 7 ∧ V1 = 0 ∧ V2 = 0) ∨ (1 ≤ m ∧ badTo l n = 0 ∧ 0 ≤ pickTo never l m n ∧ E = 0 ∧ V1 = pickTo never l m n ∧ V2 = pickTo less l m n)) := by
    show _ ∨ _
    rw [← hl, badTo_end]
    unfold chooseV at hV1 hV2
    rw [hE] at hV1
    rw [h2] at hV2
    unfold chooseE at hE
    by_cases h : m < 1
    · rw [if_pos h] at hE
      subst hE
      exact .inl ⟨h, rfl, by simpa using hV1.symm, by simpa using hV2.symm⟩
    · rw [if_neg h] at hE
      cases hi : invB l
      · rw [hi, if_neg (by decide)] at hE
        by_cases hp : pickTo never l m l.length < 0
        · rw [if_pos hp] at hE
          subst hE
          exact .inr (.inr (.inl ⟨by omega, rfl, hp, rfl, by simpa using hV1.symm, by simpa using hV2.symm⟩))
        · rw [if_neg hp] at hE
          subst hE
          exact .inr (.inr (.inr ⟨by omega, rfl, by omega, rfl, by simpa using hV1.symm, by simpa using hV2.symm⟩))
      · rw [hi, if_pos rfl] at hE
        subst hE
        exact .inr (.inl ⟨by omega, rfl, rfl, by simpa using hV1.symm, by simpa using hV2.symm⟩)
  clear hE hV1 hV2 h2
  go_enter Try.func4, Try.ntmps4
  go_wp2_with fail
  refine (HF.out _ hx).mono ?_
  rintro e w1 ⟨rfl, hb1⟩
  have hx1 := (hx.below hb1 (Nat.le_refl _)).more hb1.size
  have HB1 := Lib.hid hb1
  clear hb1 hx HF
  go_wp2_with fail
  refine (HG.out _ hx1).mono ?_
  rintro e w2 ⟨rfl, hb2⟩
  have hx2 := (hx1.below hb2 (Nat.le_refl _)).more hb2.size
  have HB2 := Lib.hid (HB1.out.trans (hb2.mono HB1.out.size))
  clear hb2 hx1 HG HB1
  go_wp2_with fail
  go_loopw [9, 10, 11, 28] (fun a b c i wr => FitsI l m n w2 a b c i wr) (fun _ _ _ i _ => n - (intOf i).toNat)
  case atStart => exact ⟨0, Nat.zero_le _, rfl, rfl, rfl, rfl, Below.refl _ _⟩
  case round =>
    obtain ⟨k, hk, rfl, rfl, rfl, rfl, hB⟩ := hrel
    by_cases hlt : k < n
    · have hx3 := hx2.below hB (Nat.le_refl _)
      obtain ⟨b, off, rfl, hbB, hc0, hc1⟩ := hx3.run hlt
      have HB := Lib.hid hB
      have hr1 := pickTo_range (bt := never) (l := l) (n := m) k
      have hr2 := pickTo_range (bt := less) (l := l) (n := m) k
      have hal := pickTo_alike (bt := never) (bt' := less) (l := l) (n := m) k
      have HB0 : Hid ((((nthG l k).1 < 0) ∧ badTo l (k + 1) = 4) ∨ (((nthG l k).1 < 0) = False ∧ ((nthG l k).2 < 1) ∧ badTo l (k + 1) = 4) ∨ (((nthG l k).1 < 0) = False ∧ ((nthG l k).2 < 1) = False ∧ badTo l (k + 1) = badTo l k)) := by
        show _ ∨ _
        by_cases h1 : (nthG l k).1 < 0
        · exact .inl ⟨h1, badTo_next_bad l k (by simp [badRun, h1])⟩
        · by_cases h2 : (nthG l k).2 < 1
          · exact .inr (.inl ⟨eq_false h1, h2, badTo_next_bad l k (by simp [badRun, h2])⟩)
          · exact .inr (.inr ⟨eq_false h1, eq_false h2, badTo_next_ok l k (by simp [badRun, h1, h2])⟩)
      have HBa := Lib.hid (fun X Y => (HB.out.alloc HB.out.size (.cells #[.int .i64 X, .int .i64 Y] 38)))
      by_cases hs : (nthG l k).2 < m
      · have HP1 := Lib.hid (pickTo_small (bt := never) hs)
        have HP2 := Lib.hid (pickTo_small (bt := less) hs)
        clear hx3 hB hx2 hr1 hr2 hal HALL
        generalize badTo l k = Z at *
        generalize (nthG l k).1 = X at *
        generalize (nthG l k).2 = Y at *
        generalize pickTo never l m k = P at *
        generalize pickTo less l m k = Q at *
        rcases HB0.out with ⟨h1, h2⟩ | ⟨h0, h1, h2⟩ | ⟨h0, h1, h2⟩
        all_goals
          have HZ := Lib.hid h2
          clear h2 HB0
          go_wp2
          go_roundw
          case rel => exact ⟨k + 1, by omega, by go_num, by rw [HP1.out], by rw [HP2.out], by rw [HZ.out], HBa.out _ _⟩
          case measure => simp [intOf]; omega
      · rcases Int.lt_or_le (pickTo never l m k) 0 with hp | hp
        · have hq := hal.1 hp
          have HP1 := Lib.hid (pickTo_new (bt := never) (by omega) hp)
          have HP2 := Lib.hid (pickTo_new (bt := less) (by omega) hq)
          have hs' : ((nthG l k).2 < m) = False := eq_false hs
          clear hx3 hB hx2 hr1 hr2 hal HALL hs
          generalize badTo l k = Z at *
          generalize (nthG l k).1 = X at *
          generalize (nthG l k).2 = Y at *
          generalize pickTo never l m k = P at *
          generalize pickTo less l m k = Q at *
          rcases HB0.out with ⟨h1, h2⟩ | ⟨h0, h1, h2⟩ | ⟨h0, h1, h2⟩
          all_goals
            have HZ := Lib.hid h2
            clear h2 HB0
            go_wp2
            go_quiet (fail)
            go_wp2
            go_roundw
            case rel => exact ⟨k + 1, by omega, by go_num, by rw [HP1.out], by rw [HP2.out], by rw [HZ.out], below_drewN (HBa.out _ _) _⟩
            case measure => simp [intOf]; omega
        · have hq : 0 ≤ pickTo less l m k := by
            rcases Int.lt_or_le (pickTo less l m k) 0 with h | h
            · exact absurd (hal.2 h) (by omega)
            · exact h
          obtain ⟨p, hp'⟩ := Int.eq_ofNat_of_zero_le hp
          obtain ⟨q, hq'⟩ := Int.eq_ofNat_of_zero_le hq
          obtain ⟨b', off', hAe, _, _, hd1⟩ := hx3.run (j := q) (by omega)
          injection hAe with hAe
          injection hAe with he1 he2 he3
          subst he1 he2
          clear he3
          have HP1 := Lib.hid (pickTo_worse (bt := never) hp' rfl)
          have HP2 : Hid (((nthG l k).2 < (nthG l q).2 ∧ pickTo less l m (k + 1) = k) ∨ (((nthG l k).2 < (nthG l q).2) = False ∧ pickTo less l m (k + 1) = q)) := by
            show _ ∨ _
            by_cases h : (nthG l k).2 < (nthG l q).2
            · exact .inl ⟨h, pickTo_better (by omega) hq' (by simp [less, h])⟩
            · exact .inr ⟨eq_false h, pickTo_worse hq' (by simp [less]; omega)⟩
          have hs' : ((nthG l k).2 < m) = False := eq_false hs
          have hpn : ((p : Int) < 0) = False := eq_false (by omega)
          have hqn : ((q : Int) < 0) = False := eq_false (by omega)
          have hqn2 : q < n := by omega
          have hqn3 : (q : Int) < (n : Int) := by omega
          have hbw : b < wr.heap.size := Nat.lt_of_lt_of_le hbB HB.out.size
          rw [hp', hq']
          clear hx3 hB hx2 hr1 hr2 hal HALL hs hp hq hp' hq'
          generalize badTo l k = Z at *
          generalize (nthG l k).1 = X at *
          generalize (nthG l k).2 = Y at *
          generalize (nthG l q).2 = Y' at *
          have bx := Box.new wr 38 #[.int .i64 X, .int .i64 Y]
          have g0 : (wr.alloc (.cells #[.int .i64 X, .int .i64 Y] 38)).cell? ⟨wr.heap.size, 0, none⟩ = some (.int .i64 X) := bx.cell 0
          have g1 : (wr.alloc (.cells #[.int .i64 X, .int .i64 Y] 38)).cell? ⟨wr.heap.size, 1, none⟩ = some (.int .i64 Y) := bx.cell 1
          have bw := (Below.refl wr.heap.size wr).alloc (Nat.le_refl _) (.cells #[.int .i64 X, .int .i64 Y] 38)
          have f1 := (bw.cell (p := ⟨b, off + q * 2 + 1, none⟩) hbw).trans hd1
          have HBx := Lib.hid (HBa.out X Y)
          have G0 := Lib.hid g0
          have G1 := Lib.hid g1
          have F1 := Lib.hid f1
          clear bx bw hbw hd1 HBa g0 g1 f1
          rcases HB0.out with ⟨h1, h2⟩ | ⟨h0, h1, h2⟩ | ⟨h0, h1, h2⟩
          all_goals
            have HZ := Lib.hid h2
            clear h2 HB0
            rcases HP2.out with ⟨h3, h4⟩ | ⟨h3, h4⟩
            all_goals
              have HQ := Lib.hid h4
              clear h4 HP2
              go_wp2
              have g0 := G0.out
              have g1 := G1.out
              have f1 := F1.out
              clear G0 G1 F1
              generalize (wr.alloc (.cells #[.int .i64 X, .int .i64 Y] 38)) = w3 at *
              go_quiet (fail)
              go_wp2
              go_roundw
              case rel => exact ⟨k + 1, by omega, by go_num, by rw [HP1.out], by rw [HQ.out], by rw [HZ.out], below_drewN HBx.out _⟩
              case measure => simp [intOf]; omega
    · obtain rfl : k = n := by omega
      have HB := Lib.hid (HB2.out.trans (hB.mono HB2.out.size))
      have hr1 := pickTo_range (bt := never) (l := l) (n := m) k
      have hr2 := pickTo_range (bt := less) (l := l) (n := m) k
      clear hB hx2
      rcases HALL.out with ⟨h, rfl, rfl, rfl⟩ | ⟨h, hb, rfl, rfl, rfl⟩ | ⟨h, hb, hp, rfl, rfl, rfl⟩ | ⟨h, hb, hp, rfl, rfl, rfl⟩
      · clear HALL
        generalize pickTo never l m k = P at *
        generalize pickTo less l m k = Q at *
        generalize badTo l k = X at *
        go_wp2
        go_ret
        exact ⟨rfl, HB.out⟩
      · clear HALL
        rw [hb]
        generalize pickTo never l m k = P at *
        generalize pickTo less l m k = Q at *
        clear hb
        have h' : ¬ m < 1 := by omega
        go_wp2
        go_ret
        exact ⟨rfl, HB.out⟩
      · clear HALL
        rw [hb]
        generalize pickTo never l m k = P at *
        generalize pickTo less l m k = Q at *
        clear hb
        have h' : ¬ m < 1 := by omega
        go_wp2
        go_ret
        exact ⟨rfl, HB.out⟩
      · clear HALL
        rw [hb]
        generalize pickTo never l m k = P at *
        generalize pickTo less l m k = Q at *
        clear hb
        have h' : ¬ m < 1 := by omega
        have h'' : ¬ P < 0 := by omega
        go_wp2
        go_ret
        exact ⟨rfl, HB.out⟩
end Go.Proofs.Ytggjgcnmkkoheaa
