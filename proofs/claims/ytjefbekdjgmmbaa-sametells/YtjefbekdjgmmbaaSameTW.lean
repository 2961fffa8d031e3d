/-
  The walk of SameTells, given what Form and Alike answer.
-/
import Derived.Test.YtjefbekdjgmmbaaSameP
import Derived.Test.YtjefbekdjgmmbaaRefFault
import Derived.Test.YtjefbekdjgmmbaaTintTW
import Derived.Test.YtjefbekdjgmmbaaSameH
namespace Go.Proofs.Ytjefbekdjgmmbaa
open Go.RowKit

theorem fromE_wfT (zs fr : List Int) : (Lit.int .i64 (fromE zs fr)).wf = true := fromE_wf zs fr
set_option maxRecDepth 8000 in
set_option maxHeartbeats 8000000 in
theorem sameTells_of (hF : FormC) (hL : AlikeC) (A F B G : Option Addr) (n c nf cf m d ng cg : Nat) (zs fr ys gr : List Int) (w : World) (h1 : ArenaFrom w A F n c nf cf zs fr) (h2 : ArenaFrom w B G m d ng cg ys gr) (hnf : nf * 8 ≤ 140737488351232) (hng : ng * 8 ≤ 140737488351232) :
    Calls Try.prog 3 #[.slice A n c, .slice F nf cf, .slice B m d, .slice G ng cg] w fun e w' => e = .returned (.bool true) ∧ Below w.heap.size w w' := by
  have HA1 := Lib.hid h1
  have HA2 := Lib.hid h2
  have HN : Hid (n ≤ maxLen ∧ nf ≤ maxLen ∧ m ≤ maxLen ∧ ng ≤ maxLen ∧ nf * 8 ≤ 140737488351232 ∧ ng * 8 ≤ 140737488351232) := by
    have a1 := h1.hn
    have a2 := h2.hn
    show _ ∧ _
    unfold maxLen
    omega
  have HQ1 := Lib.hid (hF A F n c nf cf zs fr w h1)
  have HQ2 := Lib.hid (fun wx (hb : Below w.heap.size w wx) => hL A F B G n c nf cf m d ng cg zs fr ys gr wx (h1.later hb) (h2.later hb))
  unfold SFormP at HQ1
  unfold AlikeP at HQ2
  clear h1 h2 hF hL hnf hng
  go_enter Try.func3, Try.ntmps3
  go_wp2_with fail
  refine HQ1.out.mono ?_
  rintro e w1 ⟨D, km, kc, P, kn, kd, raws, rfl, b1, hI⟩
  have bx := (Below.refl _ w1).alloc (Nat.le_refl _) (.cells #[.slice D km kc, .slice P kn kd] 26)
  have Y := Box.new w1 26 #[.slice D km kc, .slice P kn kd]
  have HB1 := Lib.hid (bthen b1 bx)
  have HI1 := Lib.hid (hI.later bx)
  have HX1 := Lib.hid Y
  have HC := Lib.hid (HQ2.out _ HB1.out)
  clear b1 hI HQ1 HQ2 bx Y
  go_wp2_with fail
  refine HC.out.mono ?_
  rintro e w2 ⟨rfl, b2⟩
  have HB2 := Lib.hid (bthen HB1.out b2)
  have bf := (Below.refl _ w2).alloc (Nat.le_refl _) (.cells #[.slice F nf cf] 23)
  have BF := Box.new w2 23 #[.slice F nf cf]
  have HB3 := Lib.hid (bthen HB2.out bf)
  have HI3 := Lib.hid ((HI1.out.later b2).later bf)
  have HX3 := Lib.hid ((HX1.out.below b2 HX1.out.lt).alloc (.cells #[.slice F nf cf] 23))
  have HFF := Lib.hid (fromFault_any A F n c nf cf w2.heap.size zs fr _ HN.out.1 (HA1.out.later HB3.out).arena HN.out.2.1 (HA1.out.later HB3.out).from_ BF.lt (BF.cell 0))
  clear b2 bf BF HB1 HB2 HI1 HX1 HC
  go_wp2_with fail
  refine HFF.out.mono ?_
  rintro e w4 ⟨rfl, b4⟩
  have HB4 := Lib.hid (bthen HB3.out b4)
  have HI4 := Lib.hid (HI3.out.later b4)
  have HX4 := Lib.hid (HX3.out.below b4 HX3.out.lt)
  clear b4 HB3 HI3 HX3 HFF
  by_cases h0 : fromE zs fr = 0
  · rw [sfO_ok h0, sfF_ok h0] at HI4
    have HA4 := Lib.hid (HA1.out.later HB4.out)
    have HFO := Lib.hid ((formOf_any A F n c nf cf zs fr w4 HA4.out.arena HN.out.2.2.2.2.1 HA4.out.from_ h0).mono fun e w' hp => FormP.inn HA1.out.arena.2.1 h0 (by rw [HA1.out.from_.1]; have := HN.out.2.2.2.2.1; omega) hp)
    rw [h0]
    go_wp2_with fail
    refine HFO.out.mono ?_
    rintro e w5 ⟨D5, m5, c5, F5, k5, d5, raws5, rfl, b5, hI5⟩
    have HB5 := Lib.hid (bthen HB4.out b5)
    have HI5 := Lib.hid (HI4.out.later b5)
    have HJ5 := Lib.hid hI5
    have HX5 := Lib.hid (HX4.out.below b5 HX4.out.lt)
    have x0 : w5.cell? ⟨w1.heap.size, 0, none⟩ = some (.slice D km kc) := HX5.out.cell 0
    have x1 : w5.cell? ⟨w1.heap.size, 1, none⟩ = some (.slice P kn kd) := HX5.out.cell 1
    have bw := (Below.refl _ w5).alloc (Nat.le_refl _) (.cells #[.slice D5 m5 c5, .slice F5 k5 d5] 26)
    have HBW := Lib.hid (bthen HB5.out bw)
    have HJW := Lib.hid (hI5.later bw)
    have hY := Box.new w5 26 #[.slice D5 m5 c5, .slice F5 k5 d5]
    have y0 := hY.cell 0
    have y1 := hY.cell 1
    have HY := Lib.hid hY
    have hX := HX5.out.alloc (.cells #[.slice D5 m5 c5, .slice F5 k5 d5] 26)
    have x2 := hX.cell 0
    have x3 := hX.cell 1
    have hlt := HX5.out.lt
    have HSF := Lib.hid (sameForm_any D P D5 F5 km kc kn kd m5 c5 k5 d5 raws raws5 _ _ _ _ _ (HI5.out.later bw) HJW.out)
    rw [decide_eq_true ⟨rfl, rfl⟩] at HSF
    clear b5 hI5 HB4 HI4 HA4 HFO bw hY hX
    go_wp2_with fail
    generalize (w5.alloc (.cells #[.slice D5 m5 c5, .slice F5 k5 d5] 26)) = W5 at *
    refine HSF.out.mono ?_
    rintro e w6 ⟨rfl, b6⟩
    have HB6 := Lib.hid (bthen HBW.out b6)
    have HJ6 := Lib.hid (HJW.out.later b6)
    have HY6 := Lib.hid (HY.out.below b6 HY.out.lt)
    have bf := (Below.refl _ w6).alloc (Nat.le_refl _) (.cells #[.slice G ng cg] 23)
    have BF := Box.new w6 23 #[.slice G ng cg]
    have HB7 := Lib.hid (bthen HB6.out bf)
    have HJ7 := Lib.hid (HJ6.out.later bf)
    have HFF := Lib.hid (fromFault_any B G m d ng cg w6.heap.size ys gr _ HN.out.2.2.1 (HA2.out.later HB7.out).arena HN.out.2.2.2.1 (HA2.out.later HB7.out).from_ BF.lt (BF.cell 0))
    have HY7 := Lib.hid (HY6.out.alloc (.cells #[.slice G ng cg] 23))
    clear b6 bf BF HB5 HB6 HI5 HJ5 HJ6 HSF x0 x1 x2 x3 y0 y1 hlt HX4 HX5 HY HY6 HBW HJW
    go_wp2_with fail
    refine HFF.out.mono ?_
    rintro e w8 ⟨rfl, b8⟩
    have HB8 := Lib.hid (bthen HB7.out b8)
    have HJ8 := Lib.hid (HJ7.out.later b8)
    have HY8 := Lib.hid (HY7.out.below b8 HY7.out.lt)
    clear b8 HB7 HJ7 HFF HY7
    have heE : aliE zs fr ys gr = fromE ys gr := aliE_two h0
    rw [heE]
    by_cases hg : fromE ys gr = 0
    · have HA8 := Lib.hid (HA2.out.later HB8.out)
      have HFO := Lib.hid ((formOf_any B G m d ng cg ys gr w8.drew (HA8.out.arena.drewN 1) HN.out.2.2.2.2.2 (HA8.out.from_.drewN 1) hg).mono fun e w' hp => FormP.inn HA2.out.arena.2.1 hg (by rw [HA2.out.from_.1]; have := HN.out.2.2.2.2.2; omega) hp)
      rw [aliB_ok (by rw [heE, hg])]
      rw [hg]
      have y0 : w8.cell? ⟨w5.heap.size, 0, none⟩ = some (.slice D5 m5 c5) := HY8.out.cell 0
      have y1 : w8.cell? ⟨w5.heap.size, 1, none⟩ = some (.slice F5 k5 d5) := HY8.out.cell 1
      have HSF := Lib.hid (fun D9 F9 m9 c9 k9 d9 raws9 w9 (hJ : FormIn w9 D5 m5 c5 F5 k5 d5 raws5 (formO zs fr) (formF zs fr)) (hI : FormIn w9 D9 m9 c9 F9 k9 d9 raws9 (formO ys gr) (formF ys gr)) => sameForm_any D5 F5 D9 F9 m5 c5 k5 d5 m9 c9 k9 d9 raws5 raws9 _ _ _ _ w9 hJ hI)
      simp only [show decide (formO zs fr = formO ys gr ∧ formF zs fr = formF ys gr) = sameB zs fr ys gr from rfl] at HSF
      clear heE HA8
      generalize sameB zs fr ys gr = X at *
      go_wp2_with fail
      go_region_held3 (fun w' => w'.cell? ⟨w5.heap.size, 0, none⟩ = some (.slice D5 m5 c5) ∧ w'.cell? ⟨w5.heap.size, 1, none⟩ = some (.slice F5 k5 d5))
        (first
          | go_keep
          | exact ⟨v0, v1⟩
          | exact ⟨u0, u1⟩)
        (first
          | (go_at_call 13; refine (HSF.out D9 F9 m9 c9 k9 d9 raws9 w9 J9 hI9).mono ?_; rintro e w10 ⟨rfl, b10⟩; have B10 := bthen B9 b10; have hY10 := hY9.below b10 hY9.lt; have v0 := hY10.cell 0; have v1 := hY10.cell 1)
          | (go_at_call 14; refine HFO.out.mono ?_; rintro e w9 ⟨D9, m9, c9, F9, k9, d9, raws9, rfl, b9, hI9⟩; have b9 : Below w8.heap.size w8 w9 := below_of_drew b9; have B9 := bthen HB8.out b9; have J9 := HJ8.out.later b9; have hY9 := HY8.out.below b9 HY8.out.lt; have u0 := hY9.cell 0; have u1 := hY9.cell 1))
      rename_i hHeld
      have HE := Lib.hid B10
      clear hHeld v0 v1 u0 u1 hY9 hY10 B9 B10 hI9 J9
      go_wp2
      go_ret
      exact ⟨rfl, HE.out⟩
    · rw [aliB_bad (by rw [heE]; exact hg)]
      generalize fromE ys gr = E at *
      go_wp2
      go_ret
      exact ⟨rfl, HB8.out⟩
  · rw [sfO_bad h0, sfF_bad h0] at HI4
    rw [aliE_one h0, aliB_bad (by rw [aliE_one h0]; exact h0)]
    have HZF : Hid (FormIn w4 none 0 0 none 0 0 [] [] []) := ⟨Nat.le_refl _, Nat.le_refl _, by omega, by omega, ⟨rfl, ArrG.zero, fun j hj => absurd hj (by omega)⟩, fun j hj => absurd hj (by omega), Arr.zero⟩
    have HSF := Lib.hid (sameForm_any D P none none km kc kn kd 0 0 0 0 raws [] _ _ _ _ w4 HI4.out HZF.out)
    rw [decide_eq_true ⟨rfl, rfl⟩] at HSF
    have x0 : w4.cell? ⟨w1.heap.size, 0, none⟩ = some (.slice D km kc) := HX4.out.cell 0
    have x1 : w4.cell? ⟨w1.heap.size, 1, none⟩ = some (.slice P kn kd) := HX4.out.cell 1
    clear HZF
    generalize fromE zs fr = E at *
    go_wp2_with fail
    refine HSF.out.mono ?_
    rintro e w5 ⟨rfl, b5⟩
    have HB5 := Lib.hid (bthen HB4.out b5)
    go_wp2
    go_ret
    exact ⟨rfl, HB5.out⟩
end Go.Proofs.Ytjefbekdjgmmbaa
