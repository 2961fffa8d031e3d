/-
  The walk of StepAll: whatever the arguments and the memory, the call returns true and changes nothing that was there.
-/
import Derived.Test.YtknbbondofijeaaStepK
import Derived.Test.YtknbbondofijeaaGood
namespace Go.Proofs.Ytknbbondofijeaa
open Go.RowKit

/-- Stepped to the end from where one began: just what is reached. -/
theorem all_black {zs fr bF : List Int} {k : Nat} (hz : ∀ z ∈ zs, (Lit.int .u64 z).wf = true) (h : fromE zs fr = 0) (hs : StI zs (risingTo fr 256) [] k [] bF) : bF = reachL zs fr ∧ k = (reachL zs fr).length := by
  obtain ⟨h0, h1⟩ := fromE_zero h
  have hr : ∀ y ∈ fr, y ∈ risingTo fr 256 := fun y hy => by
    have := lives_fit h0 y (h1 y hy)
    exact risingTo_mem.2 ⟨hy, this.1, this.2⟩
  have hf : ∀ y ∈ fr, y ∈ bF := fun y hy => (hs.keeps y (.inl (hr y hy))).resolve_left (by simp)
  have hsd : ∀ y ∈ bF, Reach (nxOf zs) fr y := fun y hy => hs.sound fr (fun y hy => by
    rcases hy with hy | hy
    · exact .base (risingTo_mem.1 hy).1
    · cases hy) y (.inr hy)
  have he : bF = reachL zs fr := rise_ext hs.ok.br reachL_rise fun y => by
    rw [reachL_mem hz h]
    exact tri_just hs.ok hf hsd y
  refine ⟨he, ?_⟩
  rw [← he, hs.len]
  simp

set_option maxRecDepth 16000 in
set_option maxHeartbeats 4000000 in
theorem stepAll_walk (A F : Option Addr) (n c nf cf : Nat) (zs fr : List Int) (w : World) (hn : n ≤ maxLen) (hnc : n ≤ c) (ha : Arr .u64 w w.heap.size A n zs) (hfr : Arr .i64 w w.heap.size F nf fr) (hsz : nf * 8 ≤ 140737488351232) :
    Calls Try.prog 5 #[.slice A n c, .slice F nf cf] w fun e w' => e = .returned (.bool true) ∧ Below w.heap.size w w' := by
  have HA := Lib.hid ha
  have HF := Lib.hid hfr
  have HN := Lib.hid hn
  have HSZ := Lib.hid hsz
  have HNF : Hid (nf ≤ maxLen) := by show _ ≤ _; unfold maxLen; omega
  have HT3 := Lib.hid (threes_any w)
  clear ha hfr hn hsz
  go_enter Try.func5, Try.ntmps5
  go_wp2_with fail
  refine HT3.out.mono ?_
  rintro e w1 ⟨rfl, b1⟩
  have HB1 := Lib.hid b1
  have HS := Lib.hid (Start_any A F n c nf cf zs fr w1 HN.out hnc (HA.out.later b1) (HF.out.later b1) HSZ.out)
  unfold StartP at HS
  clear b1 HT3
  go_wp2_with fail
  refine HS.out.mono ?_
  rintro e w2 ⟨A3, n3, c3, G3, g3, gc3, K3, k3, kc3, rfl, b2, hV⟩
  have HB2 := Lib.hid (HB1.out.trans (b2.mono HB1.out.size))
  have HV2 := Lib.hid hV
  clear b2 hV HS HB1
  by_cases h0 : fromE zs fr = 0
  · have H0 := Lib.hid h0
    rw [h0]
    have hv := HV2.out
    unfold TriV at hv
    rw [startT_ok h0] at hv
    have b3 := (Below.refl _ w2).alloc (Nat.le_refl _) (.cells #[.slice A3 n3 c3, .slice G3 g3 gc3, .slice K3 k3 kc3] 25)
    have HVV := Lib.hid (TriIn.next (show TriIn w2 A3 G3 K3 n3 c3 g3 k3 zs (risingTo fr 256) [] from hv) b3)
    have HB3 := Lib.hid (HB2.out.trans (b3.mono HB2.out.size))
    have HX3 := Lib.hid (Box.new w2 25 #[.slice A3 n3 c3, .slice G3 g3 gc3, .slice K3 k3 kc3])
    have HWS := Lib.hid HB2.out.size
    have htri : triE zs (risingTo fr 256) [] = 0 := (triE_iff HA.out.2.1).2 ⟨(fromE_zero h0).1, triStart_ok h0⟩
    have HST := Lib.hid (steps_any A3 G3 K3 n3 c3 g3 gc3 k3 kc3 zs (risingTo fr 256) [] _ HVV.out htri)
    unfold StepsP at HST
    have a0 : (w2.alloc (.cells #[.slice A3 n3 c3, .slice G3 g3 gc3, .slice K3 k3 kc3] 25)).cell? ⟨w2.heap.size, 0, none⟩ = some (.slice A3 n3 c3) := HX3.out.cell 0
    have a1 : (w2.alloc (.cells #[.slice A3 n3 c3, .slice G3 g3 gc3, .slice K3 k3 kc3] 25)).cell? ⟨w2.heap.size, 1, none⟩ = some (.slice G3 g3 gc3) := HX3.out.cell 1
    have a2 : (w2.alloc (.cells #[.slice A3 n3 c3, .slice G3 g3 gc3, .slice K3 k3 kc3] 25)).cell? ⟨w2.heap.size, 2, none⟩ = some (.slice K3 k3 kc3) := HX3.out.cell 2
    clear b3 hv HV2 h0 htri HB2
    go_wp2_with fail
    refine HST.out.mono ?_
    rintro e w4 ⟨A4, n4, c4, G4, g4, gc4, K4, k4, kc4, k, bF, rfl, b4, hT4, hS4⟩
    clear a0 a1 a2
    generalize (w2.alloc (.cells #[.slice A3 n3 c3, .slice G3 g3 gc3, .slice K3 k3 kc3] 25)) = w3 at *
    have HB4 := Lib.hid (HB3.out.trans (b4.mono HB3.out.size))
    have HX4 := Lib.hid (HX3.out.below b4 HX3.out.lt)
    have HT4 := Lib.hid hT4
    obtain ⟨hbF, hk⟩ := all_black HA.out.2.1 H0.out hS4
    have HBF := Lib.hid hbF
    have HKK := Lib.hid hk
    have HOK4 := Lib.hid hS4.ok
    clear b4 hT4 hS4 HST HB3 HX3 HVV hbF hk
    have r0 : w4.cell? ⟨w2.heap.size, 0, none⟩ = some (.slice A3 n3 c3) := HX4.out.cell 0
    have r1 : w4.cell? ⟨w2.heap.size, 1, none⟩ = some (.slice G3 g3 gc3) := HX4.out.cell 1
    have r2 : w4.cell? ⟨w2.heap.size, 2, none⟩ = some (.slice K3 k3 kc3) := HX4.out.cell 2
    have s0 := HX4.out.soft 0
    have s1 := HX4.out.soft 1
    have s2 := HX4.out.soft 2
    obtain ⟨z1, z2, z3, z4⟩ := set3 HB4.out HX4.out HWS.out (.slice A4 n4 c4) (.slice G4 g4 gc4) (.slice K4 k4 kc4)
    have HT5 := Lib.hid (show TriIn (((w4.setCell ⟨w2.heap.size, 0, none⟩ (.slice A4 n4 c4)).setCell ⟨w2.heap.size, 1, none⟩ (.slice G4 g4 gc4)).setCell ⟨w2.heap.size, 2, none⟩ (.slice K4 k4 kc4)) A4 G4 K4 n4 c4 g4 k4 zs [] bF from
      ⟨HT4.out.arena.set3 HX4.out z3 z4, HT4.out.grey.set3 HX4.out z3 z4, HT4.out.blk.set3 HX4.out z3 z4, HT4.out.hn, HT4.out.hnc, HT4.out.hg, HT4.out.hb⟩)
    have HB5 := Lib.hid z1
    have HX5 := Lib.hid z2
    have a0 : (((w4.setCell ⟨w2.heap.size, 0, none⟩ (.slice A4 n4 c4)).setCell ⟨w2.heap.size, 1, none⟩ (.slice G4 g4 gc4)).setCell ⟨w2.heap.size, 2, none⟩ (.slice K4 k4 kc4)).cell? ⟨w2.heap.size, 0, none⟩ = some (.slice A4 n4 c4) := z2.cell 0
    have a1 : (((w4.setCell ⟨w2.heap.size, 0, none⟩ (.slice A4 n4 c4)).setCell ⟨w2.heap.size, 1, none⟩ (.slice G4 g4 gc4)).setCell ⟨w2.heap.size, 2, none⟩ (.slice K4 k4 kc4)).cell? ⟨w2.heap.size, 1, none⟩ = some (.slice G4 g4 gc4) := z2.cell 1
    have a2 : (((w4.setCell ⟨w2.heap.size, 0, none⟩ (.slice A4 n4 c4)).setCell ⟨w2.heap.size, 1, none⟩ (.slice G4 g4 gc4)).setCell ⟨w2.heap.size, 2, none⟩ (.slice K4 k4 kc4)).cell? ⟨w2.heap.size, 2, none⟩ = some (.slice K4 k4 kc4) := z2.cell 2
    have htri : triE zs [] bF = 0 := (triE_iff HA.out.2.1).2 ⟨(fromE_zero H0.out).1, HOK4.out⟩
    have HD := Lib.hid (stepDone_any A4 G4 K4 n4 c4 g4 gc4 k4 kc4 zs [] bF _ HT5.out)
    unfold DoneP at HD
    rw [doneE_ok htri rfl] at HD
    have HDL : Hid (doneL zs [] bF = (livesI zs).filter fun x => decide (x ∉ bF)) := by
      show _ = _
      unfold doneL
      rw [if_pos (doneE_ok htri rfl)]
    clear z1 z2 z3 z4 HT4 HB4 HX4 htri
    go_wp2_with fail
    refine HD.out.mono ?_
    rintro e w6 ⟨L, lm, lc, rfl, b6, hlm, hL⟩
    clear r0 r1 r2 s0 s1 s2 a0 a1 a2
    generalize (((w4.setCell ⟨w2.heap.size, 0, none⟩ (.slice A4 n4 c4)).setCell ⟨w2.heap.size, 1, none⟩ (.slice G4 g4 gc4)).setCell ⟨w2.heap.size, 2, none⟩ (.slice K4 k4 kc4)) = w5 at *
    have HB6 := Lib.hid (HB5.out.trans (b6.mono HB5.out.size))
    have HX6 := Lib.hid (HX5.out.below b6 HX5.out.lt)
    have HT6 := Lib.hid (HT5.out.next b6)
    have HL6 := Lib.hid hL
    have HLM := Lib.hid hlm
    have HR := Lib.hid (Reach_any A F n c nf cf zs fr w6 HN.out hnc (HA.out.later HB6.out) HNF.out (HF.out.later HB6.out))
    unfold ReachP at HR
    rw [H0.out] at HR
    clear b6 hL hlm HD HB5 HX5 HT5
    go_wp2_with fail
    refine HR.out.mono ?_
    rintro e w7 ⟨R, rm, rc, rfl, b7, hcase⟩
    obtain ⟨hrm, hR⟩ : rm = (reachL zs fr).length ∧ Arr .i64 w7 w7.heap.size R rm (reachL zs fr) := by
      rcases hcase with ⟨h, _⟩ | ⟨_, h⟩
      · exact absurd rfl h
      · exact h
    have HR7 := Lib.hid hR
    have hkr : ((k : Int) != (rm : Int)) = false := by rw [hrm, ← HKK.out]; simp
    have HRM : Hid (rm ≤ 256) := by rw [hrm]; exact reachL_len (arena_len (fromE_zero H0.out).1)
    have HB7 := Lib.hid (HB6.out.trans (b7.mono HB6.out.size))
    have HX7 := Lib.hid (HX6.out.below b7 HX6.out.lt)
    have HT7 := Lib.hid (HT6.out.next b7)
    have HL7 := Lib.hid (HL6.out.later b7)
    clear b7 hcase hrm hR HR HB6 HX6 HT6 HL6
    have HGO := Lib.hid (good_any (some ⟨w7.heap.size, 0, none⟩) 2 2 _ [0, 0] _ (by decide) (two_arr w7 0 0 (by decide) (by decide)))
    rw [show bad [0, 0] = false from rfl] at HGO
    have b8 := (Below.refl _ w7).alloc (Nat.le_refl _) (.cells #[.int .i64 0, .int .i64 0] 26)
    have HB8 := Lib.hid (HB7.out.trans (b8.mono HB7.out.size))
    have HX8 := Lib.hid (HX7.out.below b8 HX7.out.lt)
    have HT8 := Lib.hid (HT7.out.next b8)
    have HL8 := Lib.hid (HL7.out.later b8)
    have HR8 := Lib.hid (HR7.out.later b8)
    clear b8 HB7 HX7 HT7 HL7 HR7
    go_wp2_with fail
    refine HGO.out.mono ?_
    rintro e w8 ⟨rfl, rfl⟩
    generalize (w7.alloc (.cells #[.int .i64 0, .int .i64 0] 26)) = w8 at *
    have a0 : w8.cell? ⟨w2.heap.size, 0, none⟩ = some (.slice A4 n4 c4) := HX8.out.cell 0
    have hA8 := HA.out.later HB8.out
    have HEQ := Lib.hid (equalWords A4 A n4 n c4 c _ zs zs w8 HT8.out.arena hA8 HT8.out.hn HN.out)
    rw [show decide (zs = zs) = true by simp] at HEQ
    clear HGO hA8
    go_wp2_with fail
    refine HEQ.out.mono ?_
    rintro e w9 ⟨rfl, q9, rfl⟩
    have HB9 : Hid (Below w.heap.size w (w8.drewN q9)) := below_drewN HB8.out q9
    have HL9 : Hid (Arr .i64 (w8.drewN q9) (w8.drewN q9).heap.size L lm (doneL zs [] bF)) := HL8.out.drewN q9
    have HR9 : Hid (Arr .i64 (w8.drewN q9) (w8.drewN q9).heap.size R rm (reachL zs fr)) := HR8.out.drewN q9
    clear HEQ HB8 HX8 HT8 HL8 HR8 a0 hkr
    generalize w8.drewN q9 = w9 at *
    have HG := Lib.hid (keepBegins_any A n c zs w9 HN.out (HA.out.later HB9.out) (arErr_zero (fromE_zero H0.out).1).1)
    go_wp2_with fail
    refine HG.out.mono ?_
    rintro e w10 ⟨A10, c10, rfl, b10, hA10⟩
    have HB10 := Lib.hid (HB9.out.trans (b10.mono HB9.out.size))
    have HL10 := Lib.hid (HL9.out.later b10)
    have HR10 := Lib.hid (HR9.out.later b10)
    have HA10 := Lib.hid hA10
    have hln256 := lives_len (arena_len (fromE_zero H0.out).1)
    clear b10 hA10 HG HB9 HL9 HR9
    obtain ⟨ln, hln⟩ : ∃ ln, (livesI zs).length = ln := ⟨_, rfl⟩
    have HLN := Lib.hid hln
    rw [hln] at HA10 hln256 ⊢
    clear hln
    go_wp2_with fail
    go_loopw [71] (fun i wr => w10 = wr ∧ ∃ j : Nat, j ≤ ln ∧ i = .int .i64 j) (fun i _ => ln - (intOf i).toNat)
    case atStart => exact ⟨rfl, 0, Nat.zero_le _, rfl⟩
    case round =>
      obtain ⟨rfl, j, hj, rfl⟩ := hrel
      by_cases hlt : j < ln
      · obtain ⟨bb, off, rfl, _, hcs⟩ := HA10.out.2.2 (by omega)
        have hc := hcs j hlt
        have hmem : nth (livesI zs) j ∈ livesI zs := nth_mem (by rw [HLN.out]; exact hlt)
        have HC1 := Lib.hid (containsR_any L lm lc _ (nth (livesI zs) j) (doneL zs [] bF) w10 HLM.out HL10.out)
        have HC2 := Lib.hid (containsR_any R rm rc _ (nth (livesI zs) j) (reachL zs fr) w10 (by have := HRM.out; unfold maxLen; omega) HR10.out)
        have hne : (decide (nth (livesI zs) j ∈ doneL zs [] bF) == decide (nth (livesI zs) j ∈ reachL zs fr)) = false := by
          rw [HDL.out, HBF.out]
          by_cases hr : nth (livesI zs) j ∈ reachL zs fr
          · simp [hr]
          · simp [hr, hmem]
        clear hcs hmem
        generalize nth (livesI zs) j = X at *
        generalize decide (X ∈ doneL zs [] bF) = D1 at *
        generalize decide (X ∈ reachL zs fr) = D2 at *
        go_wp2_with fail
        refine HC1.out.mono ?_
        rintro e w11 ⟨rfl, rfl⟩
        go_wp2_with fail
        refine HC2.out.mono ?_
        rintro e w11 ⟨rfl, rfl⟩
        go_wp2
        go_roundw
        case rel => exact ⟨by trivial, j + 1, by omega, by go_num⟩
        case measure => simp [intOf]; omega
      · obtain rfl : j = ln := by omega
        go_wp2
        go_ret
        exact ⟨rfl, HB10.out⟩
  · have hv := HV2.out
    unfold TriV at hv
    rw [startT_bad h0] at hv
    have hn3 : n3 = 0 := by have := hv.arena.1; simpa using this.symm
    subst hn3
    have hb : (fromE zs fr != 0) = true := by simpa using h0
    clear hv h0 HV2
    generalize fromE zs fr = E at *
    go_wp2
    go_ret
    exact ⟨rfl, HB2.out.alloc HB2.out.size _⟩
end Go.Proofs.Ytknbbondofijeaa
