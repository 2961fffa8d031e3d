/-
  The walk of GapOrders, and the question that the statements on gaps ask first.
-/
import Derived.Test.YtggjgcnmkkoheaaFit
import Derived.Test.YtggjgcnmkkoheaaGap
namespace Go.Proofs.Ytggjgcnmkkoheaa
open Go.RowKit

theorem one_free_begins : begins [281474976710656] 0 = [0] := by
  have h : stepOk [281474976710656] 0 = true := by decide
  rw [begins_step (by decide) h, begins_end (by decide)]
theorem one_free_err : arErr [281474976710656] = 0 := by
  have h : stepOk [281474976710656] 0 = true := by decide
  have hs : spErr [281474976710656] = 0 := spErr_ok (by decide) (by rw [fine_step (by decide) h]; exact fine_end (by decide))
  refine arErr_ok hs ?_
  unfold refsOk
  rw [one_free_begins]
  rfl
theorem one_free_gaps : gapsL [281474976710656] = [(0, 1)] := by
  have h : freeAt [281474976710656] 0 = true := by
    unfold freeAt
    rw [one_free_begins]
    decide
  show runsTo _ (0 + 1) = _
  rw [runsTo_new h (by omega)]
  rfl
theorem two_runs_arr (w : World) (a b c d : Int) : ArrG runC 2 (w.alloc (.cells #[.int .i64 a, .int .i64 b, .int .i64 c, .int .i64 d] 38)) (w.heap.size + 1) (some ⟨w.heap.size, 0, none⟩) 2 [(a, b), (c, d)] := by
  have bx := Box.new w 38 #[.int .i64 a, .int .i64 b, .int .i64 c, .int .i64 d]
  refine ⟨rfl, fun _ => ⟨w.heap.size, 0, rfl, by omega, fun j hj i hi => ?_⟩⟩
  rw [bx.cell]
  match j, hj, i, hi with
  | 0, _, 0, _ => rfl
  | 0, _, 1, _ => rfl
  | 1, _, 0, _ => rfl
  | 1, _, 1, _ => rfl

set_option maxHeartbeats 1000000 in
theorem holes_any (w : World) : Calls Try.prog 29 #[] w fun e w' => e = .returned (.bool true) ∧ Below w.heap.size w w' := by
  have hz : ∀ z ∈ ([281474976710656] : List Int), (Lit.int .u64 z).wf = true := by
    intro z hz
    rw [wf_u64]
    simp at hz
    omega
  have HZ := Lib.hid hz
  have HBW := Lib.hid ((Below.refl w.heap.size w).alloc (Nat.le_refl _) (.cells #[.int .i64 0, .int .i64 1, .int .i64 2, .int .i64 3] 38))
  have HF := Lib.hid (First_any (some ⟨w.heap.size, 0, none⟩) 2 2 [(0, 1), (2, 3)] 2 (w.alloc (.cells #[.int .i64 0, .int .i64 1, .int .i64 2, .int .i64 3] 38)) (by decide) (by simpa using two_runs_arr w 0 1 2 3))
  have HG := Lib.hid (fun A w ha => Gaps_any A 1 1 [281474976710656] w (by decide) (by decide) ha)
  unfold ChooseP at HF
  unfold GapsP at HG
  rw [one_free_err, one_free_gaps] at HG
  rw [show chooseV never [(0, 1), (2, 3)] 2 = 1 by decide, show chooseE never [(0, 1), (2, 3)] 2 = 0 by decide] at HF
  clear hz
  go_enter Try.func29, Try.ntmps29
  go_wp2_with fail
  refine HF.out.mono ?_
  rintro e w1 ⟨rfl, hb1⟩
  have HB1 := Lib.hid (HBW.out.trans (hb1.mono HBW.out.size))
  clear hb1 HF
  go_wp2_with fail
  refine (HG.out _ _ ?_).mono ?_
  · exact Whole.arr (t := 42) (whole_at .u64 42 [281474976710656] HZ.out rfl) (by simp)
  rintro e w2 ⟨A, k, c, rfl, hb2, _, hr⟩
  rcases hr with ⟨hx, _⟩ | ⟨_, hk, _⟩
  · exact absurd rfl hx
  have hk1 : k = 1 := hk
  subst hk1
  have HB2 : Hid (Below w.heap.size w w2) := by
    have b2 := HB1.out.alloc HB1.out.size (.cells #[.int .u64 281474976710656] 42)
    exact b2.trans (hb2.mono b2.size)
  clear hb2 hk HG
  go_wp2
  go_ret
  exact ⟨rfl, HB2.out⟩

set_option maxHeartbeats 4000000 in
set_option maxRecDepth 16000 in
theorem gapOrders_walk (A : Option Addr) (n c : Nat) (m k : Int) (l : List (Int × Int)) (w : World) (hn : n ≤ maxLen) (hx : ArrG runC 2 w w.heap.size A n l) :
    Calls Try.prog 6 #[.slice A n c, .int .i64 m, .int .i64 k] w fun e w' => e = .returned (.bool true) ∧ Below w.heap.size w w' := by
  have hl := hx.1
  have hn' := hn
  unfold maxLen at hn'
  have HF := Lib.hid (fun w (hx : ArrG runC 2 w w.heap.size A n l) => First_any A n c l m w hn hx)
  have HG := Lib.hid (fun w (hx : ArrG runC 2 w w.heap.size A n l) => Best_any A n c l m w hn hx)
  have HH := Lib.hid (holes_any w)
  unfold ChooseP at HF HG
  rw [chooseE_alike (bt := less) (bt' := never)] at HG
  by_cases hE : chooseE never l m = 0
  · have hE2 : chooseE less l m = 0 := by rw [chooseE_alike (bt' := never)]; exact hE
    obtain ⟨p, hp⟩ := Int.eq_ofNat_of_zero_le (chooseE_zero hE).2.2
    obtain ⟨q, hq⟩ := Int.eq_ofNat_of_zero_le (chooseE_zero hE2).2.2
    rw [hE, show chooseV never l m = p by unfold chooseV; rw [if_pos hE, hp]] at HF
    rw [hE, show chooseV less l m = q by unfold chooseV; rw [if_pos hE2, hq]] at HG
    have r1 := pickTo_range (bt := never) (l := l) (n := m) l.length
    have r2 := pickTo_range (bt := less) (l := l) (n := m) l.length
    have f1 := pickTo_fits _ _ hp
    have f2 := pickTo_fits _ _ hq
    have g1 := pickTo_first _ _ hp
    have g2 := pickTo_best _ _ hq
    have hpn : p < n := by omega
    have hqn : q < n := by omega
    have hpq : p ≤ q := by
      rcases Nat.lt_or_ge q p with h | h
      · have := g1 q h; omega
      · exact h
    have hle : (nthG l q).2 ≤ (nthG l p).2 := g2 p (by omega) f1
    have HK : Hid (∀ j : Nat, j < n → m ≤ (nthG l j).2 → p ≤ j ∧ (nthG l q).2 ≤ (nthG l j).2) := fun j hj hf => by
      refine ⟨?_, g2 j (by omega) hf⟩
      rcases Nat.lt_or_ge j p with h | h
      · have := g1 j h; omega
      · exact h
    have HX := Lib.hid hx
    clear g1 g2 r1 r2 hE hE2 hp hq hx
    go_enter Try.func6, Try.ntmps6
    go_wp2_with fail
    refine HH.out.mono ?_
    rintro e w0 ⟨rfl, hb0⟩
    have HX0 := Lib.hid ((HX.out.below hb0 (Nat.le_refl _)).more hb0.size)
    have HB0 := Lib.hid hb0
    clear hb0 HX HH
    go_wp2_with fail
    refine (HF.out _ HX0.out).mono ?_
    rintro e w1 ⟨rfl, hb1⟩
    have HX1 := Lib.hid ((HX0.out.below hb1 (Nat.le_refl _)).more hb1.size)
    have HB1 := Lib.hid (HB0.out.trans (hb1.mono HB0.out.size))
    clear hb1 HX0 HF HB0
    go_wp2_with fail
    refine (HG.out _ HX1.out).mono ?_
    rintro e w2 ⟨rfl, hb2⟩
    have HX2 := Lib.hid ((HX1.out.below hb2 (Nat.le_refl _)).more hb2.size)
    have HB2 := Lib.hid (HB1.out.trans (hb2.mono HB1.out.size))
    clear hb2 HX1 HG HB1
    obtain ⟨b, off, hA, _, _, c1⟩ := HX2.out.run hpn
    obtain ⟨b', off', hA', _, _, d1⟩ := HX2.out.run hqn
    rw [hA] at hA'
    injection hA' with hA'
    injection hA' with z1 z2 z3
    subst z1 z2
    clear z3
    subst hA
    obtain ⟨Yp, hYp⟩ : ∃ Y, (nthG l p).2 = Y := ⟨_, rfl⟩
    obtain ⟨Yq, hYq⟩ : ∃ Y, (nthG l q).2 = Y := ⟨_, rfl⟩
    rw [hYp] at c1 f1 hle
    rw [hYq] at d1 f2 hle HK
    clear hYp hYq
    have y1 : ((p : Int) < 0) = False := eq_false (by omega)
    have y2 : ((n : Int) ≤ (p : Int)) = False := eq_false (by omega)
    have y3 : ((q : Int) < (p : Int)) = False := eq_false (by omega)
    have y4 : ((n : Int) ≤ (q : Int)) = False := eq_false (by omega)
    have y5 : (Yp < m) = False := eq_false (by omega)
    have y6 : (Yq < m) = False := eq_false (by omega)
    have y7 : (Yp < Yq) = False := eq_false (by omega)
    have y8 : (p : Int) < (n : Int) := by omega
    have y9 : (q : Int) < (n : Int) := by omega
    rcases Int.lt_or_le k 0 with hk | hk
    · clear HX2 HK
      go_wp2
      go_quiet (fail)
      go_wp2
      go_quiet (fail)
      go_wp2
      go_ret
      exact ⟨rfl, below_drewN (below_drewN HB2.out _) _⟩
    · rcases Int.lt_or_le k n with hk2 | hk2
      · obtain ⟨j, rfl⟩ := Int.eq_ofNat_of_zero_le hk
        have hjn : j < n := by omega
        obtain ⟨b', off', hA', _, _, e1⟩ := HX2.out.run hjn
        injection hA' with hA'
        injection hA' with z1 z2 z3
        subst z1 z2
        clear z3
        have hkk := HK.out j hjn
        have z1 : ((j : Int) < 0) = False := eq_false (by omega)
        have z2 : ((n : Int) ≤ (j : Int)) = False := eq_false (by omega)
        generalize (nthG l j).2 = Yj at *
        clear HX2 HK hk
        rcases Int.lt_or_le Yj m with hy | hy
        · clear hkk
          go_wp2
          go_quiet (fail)
          go_wp2
          go_quiet (fail)
          go_wp2
          go_ret
          exact ⟨rfl, below_drewN (below_drewN HB2.out _) _⟩
        · obtain ⟨h1, h2⟩ := hkk hy
          have z3 : (Yj < m) = False := eq_false (by omega)
          have z4 : (p : Int) ≤ (j : Int) := by omega
          clear hkk
          go_wp2
          go_quiet (fail)
          go_wp2
          go_quiet (fail)
          go_wp2
          go_ret
          exact ⟨rfl, below_drewN (below_drewN HB2.out _) _⟩
      · clear HX2 HK
        have z1 : (k < 0) = False := eq_false (by omega)
        go_wp2
        go_quiet (fail)
        go_wp2
        go_quiet (fail)
        go_wp2
        go_ret
        exact ⟨rfl, below_drewN (below_drewN HB2.out _) _⟩
  · have hE2 : chooseE less l m ≠ 0 := by rw [chooseE_alike (bt' := never)]; exact hE
    rw [show chooseV never l m = 0 by unfold chooseV; rw [if_neg hE]] at HF
    rw [show chooseV less l m = 0 by unfold chooseV; rw [if_neg hE2]] at HG
    have hne : (chooseE never l m != 0) = true := by simpa using hE
    generalize chooseE never l m = E at *
    have hee : (E == E) = true := by simp
    have HX := Lib.hid hx
    clear hE hE2 hx
    go_enter Try.func6, Try.ntmps6
    go_wp2_with fail
    refine HH.out.mono ?_
    rintro e w0 ⟨rfl, hb0⟩
    have HX0 := Lib.hid ((HX.out.below hb0 (Nat.le_refl _)).more hb0.size)
    have HB0 := Lib.hid hb0
    clear hb0 HX HH
    go_wp2_with fail
    refine (HF.out _ HX0.out).mono ?_
    rintro e w1 ⟨rfl, hb1⟩
    have HX1 := Lib.hid ((HX0.out.below hb1 (Nat.le_refl _)).more hb1.size)
    have HB1 := Lib.hid (HB0.out.trans (hb1.mono HB0.out.size))
    clear hb1 HX0 HF HB0
    go_wp2_with fail
    refine (HG.out _ HX1.out).mono ?_
    rintro e w2 ⟨rfl, hb2⟩
    have HB2 := Lib.hid (HB1.out.trans (hb2.mono HB1.out.size))
    clear hb2 HX1 HG HB1
    go_wp2
    go_ret
    exact ⟨rfl, HB2.out⟩
end Go.Proofs.Ytggjgcnmkkoheaa
