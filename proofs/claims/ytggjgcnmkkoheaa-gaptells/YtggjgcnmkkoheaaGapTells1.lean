/-
  The walk of GapTells where the arena is bad.
-/
import Derived.Test.YtggjgcnmkkoheaaGapTellM
import Derived.Test.YtggjgcnmkkoheaaGapJoin
import Derived.Test.YtggjgcnmkkoheaaGive
import Derived.Test.YtggjgcnmkkoheaaRefFault
namespace Go.Proofs.Ytggjgcnmkkoheaa
open Go.RowKit

set_option maxHeartbeats 4000000 in
set_option maxRecDepth 100000 in
theorem gapTells_bad (A : Option Addr) (n c : Nat) (a r b t : Int) (f : Bool) (zs : List Int) (w : World) (hn : n ≤ maxLen) (hnc : n ≤ c) (ha : Arr .u64 w w.heap.size A n zs) (h : arErr zs ≠ 0) :
    Calls Try.prog 3 #[.slice A n c, .int .i64 a, .agg #[.int .i64 r, .int .i64 b, .int .i64 t, .bool f]] w fun e w' => e = .returned (.bool true) ∧ Below w.heap.size w w' := by
  have H1 := Lib.hid (fun w ha => Gaps_any A n c zs w hn hnc ha)
  have H2 := Lib.hid (fun w ha => Join_any A n c zs w hn hnc ha)
  have H3 := Lib.hid (fun w ha => Take_any A n c a r b t f zs w hn hnc ha)
  have H4 := Lib.hid (fun w ha => Give_any A n c a zs w hn hnc ha)
  have H5 := Lib.hid (fun w ha => ArenaFault_any A n c zs w hn ha)
  have H6 := Lib.hid (fun w => headFault_any r b t f w)
  unfold GapsP at H1
  unfold JoinP at H2
  unfold TakeP at H3
  unfold GiveP at H4
  rw [giveE_bad h] at H4
  have hne : (arErr zs != 0) = true := by simpa using h
  have HE := Lib.hid h
  have HWAY : Hid ((hFault r b t f ≠ 0 ∧ takeE zs a r b t f = hFault r b t f) ∨ (hFault r b t f = 0 ∧ f = true ∧ takeE zs a r b t f = 3) ∨ (hFault r b t f = 0 ∧ f = false ∧ takeE zs a r b t f = arErr zs)) := by
    show _ ∨ _
    by_cases h0 : hFault r b t f = 0
    · cases f
      · exact .inr (.inr ⟨h0, rfl, takeE_bad h0 h⟩)
      · exact .inr (.inl ⟨h0, rfl, takeE_free h0⟩)
    · exact .inl ⟨h0, takeE_head h0⟩
  obtain ⟨TE, hTE⟩ : ∃ TE, takeE zs a r b t f = TE := ⟨_, rfl⟩
  rw [hTE] at H3 HWAY
  have HT0 : Hid (TE ≠ 0) := by
    show _ ≠ _
    rcases HWAY.out with ⟨h1, h2⟩ | ⟨_, _, h2⟩ | ⟨_, _, h2⟩
    · rw [h2]; exact h1
    · rw [h2]; decide
    · rw [h2]; exact h
  generalize arErr zs = E at *
  have hee : (E == E) = true := by simp
  have htt : (TE == TE) = true := by simp
  obtain ⟨HF, hHF⟩ : ∃ HF, hFault r b t f = HF := ⟨_, rfl⟩
  rw [hHF] at H6 HWAY
  have HA := Lib.hid ha
  have HX := Lib.hid (Box4.new w (.int .i64 r) (.int .i64 b) (.int .i64 t) (.bool f))
  have HBW := Lib.hid ((Below.refl w.heap.size w).alloc (Nat.le_refl _) (.cells #[.int .i64 r, .int .i64 b, .int .i64 t, .bool f] 24))
  clear ha h hTE hHF
  go_enter Try.func3, Try.ntmps3
  have HA0 := Lib.hid ((HA.out.below HBW.out (Nat.le_refl _)).more HBW.out.size)
  go_wp2_with fail
  refine (H1.out _ HA0.out).mono ?_
  rintro e w1 ⟨A1, k1, cc1, rfl, hb1, _, hr⟩
  have hk1 : k1 = 0 := by
    rcases hr with ⟨_, h⟩ | ⟨hx, _⟩
    · exact h
    · exact absurd hx HE.out
  subst hk1
  have HX1 := Lib.hid (HX.out.below hb1 HX.out.lt)
  have HB1 := Lib.hid (HBW.out.trans (hb1.mono HBW.out.size))
  have HA1 := Lib.hid ((HA0.out.below hb1 (Nat.le_refl _)).more hb1.size)
  clear hb1 HA0 HA HX HBW H1 hr
  go_wp2_with fail
  refine (H2.out _ HA1.out).mono ?_
  rintro e w2 ⟨A2, k2, cc2, rfl, hb2, hr⟩
  have hk2 : k2 = 0 := by
    rcases hr with ⟨_, _, h, _⟩ | ⟨hx, _⟩
    · exact h
    · exact absurd hx HE.out
  subst hk2
  have HX2 := Lib.hid (HX1.out.below hb2 HX1.out.lt)
  obtain ⟨c0, c1, c2, c3⟩ := HX2.out.cells
  have HB2 := Lib.hid (HB1.out.trans (hb2.mono HB1.out.size))
  have HA2 := Lib.hid ((HA1.out.below hb2 (Nat.le_refl _)).more hb2.size)
  clear hb2 HA1 HB1 HX1 H2 hr
  go_wp2_with fail
  refine (H3.out _ HA2.out).mono ?_
  rintro e w3 ⟨A3, k3, cc3, rfl, hb3, hr⟩
  have hk3 : k3 = 0 := by
    rcases hr with ⟨_, h⟩ | ⟨hx, _⟩
    · exact h
    · exact absurd hx HT0.out
  subst hk3
  have HX3 := Lib.hid (HX2.out.below hb3 HX2.out.lt)
  have HB3 := Lib.hid (HB2.out.trans (hb3.mono HB2.out.size))
  have HA3 := Lib.hid ((HA2.out.below hb3 (Nat.le_refl _)).more hb3.size)
  clear hb3 HA2 HB2 HX2 H3 hr c0 c1 c2 c3
  go_wp2_with fail
  refine (H4.out _ HA3.out).mono ?_
  rintro e w4 ⟨A4, k4, cc4, rfl, hb4, hr⟩
  have hk4 : k4 = 0 := by
    rcases hr with ⟨_, _, h, _⟩ | ⟨hx, _⟩
    · exact h
    · exact absurd hx HE.out
  subst hk4
  have HX4 := Lib.hid (HX3.out.below hb4 HX3.out.lt)
  have HB4 := Lib.hid (HB3.out.trans (hb4.mono HB3.out.size))
  have HA4 := Lib.hid ((HA3.out.below hb4 (Nat.le_refl _)).more hb4.size)
  clear hb4 HA3 HB3 HX3 H4 hr
  go_wp2_with fail
  refine (H5.out _ HA4.out).mono ?_
  rintro e w5 ⟨rfl, hb5⟩
  have HX5 := Lib.hid (HX4.out.below hb5 HX4.out.lt)
  obtain ⟨c0, c1, c2, c3⟩ := HX5.out.cells
  have HB5 := Lib.hid (HB4.out.trans (hb5.mono HB4.out.size))
  clear hb5 HA4 HB4 HX4 H5
  go_wp2_with fail
  refine (H6.out _).mono ?_
  rintro e w6 ⟨rfl, hb6⟩
  obtain ⟨d0, d1, d2, d3⟩ := (HX5.out.below hb6 HX5.out.lt).cells
  have HB6 := Lib.hid (HB5.out.trans (hb6.mono HB5.out.size))
  clear hb6 HB5 HX5 H6 c0 c1 c2 c3
  rcases HWAY.out with ⟨h1, rfl⟩ | ⟨rfl, rfl, rfl⟩ | ⟨rfl, rfl, rfl⟩
  · have hq : (TE == 0) = false := by simpa using h1
    have hq2 : (TE = 0) = False := eq_false h1
    clear HWAY h1
    go_wp2
    go_ret
    exact ⟨rfl, HB6.out⟩
  · clear HWAY
    go_wp2
    go_ret
    exact ⟨rfl, HB6.out⟩
  · clear HWAY
    go_wp2
    go_ret
    exact ⟨rfl, HB6.out⟩
end Go.Proofs.Ytggjgcnmkkoheaa
