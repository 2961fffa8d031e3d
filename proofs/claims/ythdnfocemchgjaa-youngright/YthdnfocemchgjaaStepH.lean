/-
  Contract of package step's Step.
-/
import Derived.Test.YthdnfocemchgjaaStepG
namespace Go.Proofs.Ythdnfocemchgjaa
open Go.RowKit

theorem stepT_bad {zs g b : List Int} (h : triE zs g b ≠ 0) : stepT zs g b = ([], [], []) := if_neg h
theorem stepT_nil {zs b : List Int} (h : triE zs [] b = 0) : stepT zs [] b = (zs, [], b) := if_pos h
theorem stepT_cons {zs g b : List Int} {x : Int} (h : triE zs (x :: g) b = 0) : stepT zs (x :: g) b = (zs, stepG (nxOf zs) x g b, stepB x b) := if_pos h
theorem stepMore_bad {zs g b : List Int} (h : triE zs g b ≠ 0) : stepMore zs g b = false := by unfold stepMore; simp [h]
theorem stepMore_nil {zs b : List Int} : stepMore zs [] b = false := by unfold stepMore; simp
theorem stepMore_cons {zs g b : List Int} {x : Int} (h : triE zs (x :: g) b = 0) : stepMore zs (x :: g) b = true := by unfold stepMore; simp [h]

set_option maxRecDepth 16000 in
set_option maxHeartbeats 4000000 in
theorem stepStepF_any (A G K : Option Addr) (n c ng cg nb cb : Nat) (zs g b : List Int) (w : World) (h : TriIn w A G K n c ng nb zs g b) :
    Calls Try.prog 29 #[.agg #[.slice A n c, .slice G ng cg, .slice K nb cb]] w (StepF zs g b w) := by
  have b1 := (Below.refl _ w).alloc (Nat.le_refl _) (.cells #[.slice A n c, .slice G ng cg, .slice K nb cb] 53)
  have BX := Box.new w 53 #[.slice A n c, .slice G ng cg, .slice K nb cb]
  have b2 := (Below.refl _ (w.alloc (.cells #[.slice A n c, .slice G ng cg, .slice K nb cb] 53))).alloc (Nat.le_refl _) (.cells #[.slice none 0 0, .slice none 0 0, .slice none 0 0] 53)
  have BY := Box.new (w.alloc (.cells #[.slice A n c, .slice G ng cg, .slice K nb cb] 53)) 53 #[.slice none 0 0, .slice none 0 0, .slice none 0 0]
  have hs1 : (w.alloc (.cells #[.slice A n c, .slice G ng cg, .slice K nb cb] 53)).heap.size = w.heap.size + 1 := by simp
  rw [hs1] at BY
  have BX2 := BX.below b2 BX.lt
  have HR := Lib.hid (stepRead_any A G K n c ng cg nb cb zs g b _ ((h.next b1).next b2))
  have HB := Lib.hid (b1.trans (b2.mono b1.size))
  have HX := Lib.hid BX2
  have HY := Lib.hid BY
  have HZ := Lib.hid h.arena.2.1
  have HN := Lib.hid h.hn
  clear b1 BX b2 BY hs1 BX2 h
  unfold RdP at HR
  unfold StepF
  go_enter Try.func29, Try.ntmps29
  go_wp2_with fail
  generalize ((w.alloc (.cells #[.slice A n c, .slice G ng cg, .slice K nb cb] 53)).alloc (.cells #[.slice none 0 0, .slice none 0 0, .slice none 0 0] 53)) = w1 at *
  have a0 : w1.cell? ⟨w.heap.size, 0, none⟩ = some (.slice A n c) := HX.out.cell 0
  have a1 : w1.cell? ⟨w.heap.size, 1, none⟩ = some (.slice G ng cg) := HX.out.cell 1
  have a2 : w1.cell? ⟨w.heap.size, 2, none⟩ = some (.slice K nb cb) := HX.out.cell 2
  go_wp2_with fail
  refine HR.out.mono ?_
  rintro e w2 ⟨b2, hcase⟩
  have HB2 := Lib.hid (HB.out.trans (b2.mono HB.out.size))
  have HY2 := Lib.hid (HY.out.below b2 HY.out.lt)
  have HS2 := Lib.hid HB2.out.size
  have HYL : Hid (w.heap.size + 1 < w1.heap.size) := HY.out.lt
  clear a0 a1 a2 b2 HR HX HY
  rcases hcase with ⟨h0, rfl⟩ | ⟨h0, W, cw, gm, S, q, sc, N, rfl, hM, hN, hgm, hO⟩
  · have HT := Lib.hid (stepT_bad h0)
    have HMo := Lib.hid (stepMore_bad h0)
    have hb : (triE zs g b != 0) = true := by simpa using h0
    have res3 := HY2.out.alloc (.cells #[.slice none 0 0, .map none, .slice none 0 0] 105)
    have HB3 := Lib.hid (HB2.out.alloc HS2.out (.cells #[.slice none 0 0, .map none, .slice none 0 0] 105))
    have HR3 := Lib.hid res3
    have e0 : (w2.alloc (.cells #[.slice none 0 0, .map none, .slice none 0 0] 105)).cell? ⟨w.heap.size + 1, 0, none⟩ = some (.slice none 0 0) := res3.cell 0
    have e1 : (w2.alloc (.cells #[.slice none 0 0, .map none, .slice none 0 0] 105)).cell? ⟨w.heap.size + 1, 1, none⟩ = some (.slice none 0 0) := res3.cell 1
    have e2 : (w2.alloc (.cells #[.slice none 0 0, .map none, .slice none 0 0] 105)).cell? ⟨w.heap.size + 1, 2, none⟩ = some (.slice none 0 0) := res3.cell 2
    have s0 := res3.soft 0
    have s1 := res3.soft 1
    have s2 := res3.soft 2
    unfold markZ
    clear h0 res3
    obtain ⟨E, hE⟩ : ∃ E, triE zs g b = E := ⟨_, rfl⟩
    rw [hE] at hb ⊢
    have HE := Lib.hid hE
    clear hE
    go_wp2
    obtain ⟨z1, z2, _, _⟩ := set3 HB3.out HR3.out (by omega : w.heap.size ≤ w.heap.size + 1) (.slice none 0 0) (.slice none 0 0) (.slice none 0 0)
    generalize ((((w2.alloc (.cells #[.slice none 0 0, .map none, .slice none 0 0] 105)).setCell ⟨w.heap.size + 1, 0, none⟩ (.slice none 0 0)).setCell ⟨w.heap.size + 1, 1, none⟩ (.slice none 0 0)).setCell ⟨w.heap.size + 1, 2, none⟩ (.slice none 0 0)) = W5 at *
    have x0 : W5.cell? ⟨w.heap.size + 1, 0, none⟩ = some (.slice none 0 0) := z2.cell 0
    have x1 : W5.cell? ⟨w.heap.size + 1, 1, none⟩ = some (.slice none 0 0) := z2.cell 1
    have x2 : W5.cell? ⟨w.heap.size + 1, 2, none⟩ = some (.slice none 0 0) := z2.cell 2
    refine bodyPost_ret (v := .tuple #[.agg #[.slice none 0 0, .slice none 0 0, .slice none 0 0], .bool false, .int .i64 E]) (by simp [results, Try.results29, go_sem, x0, x1, x2]) rfl ⟨none, 0, 0, none, 0, 0, none, 0, 0, by rw [HE.out, HMo.out], z1, by rw [HT.out]; exact TriV.zero, SpareI.nil, SpareI.nil, SpareI.nil⟩
  · have H0 := Lib.hid h0
    have HOK := Lib.hid ((triE_iff HZ.out).1 h0)
    have mk4 := Box.new w2 105 #[.slice W n cw, .map (some gm), .slice S q sc]
    have b4 := (Below.refl _ w2).alloc (Nat.le_refl _) (.cells #[.slice W n cw, .map (some gm), .slice S q sc] 105)
    have HM4 := Lib.hid (hM.next b4)
    have HB4 := Lib.hid (HB2.out.trans (b4.mono HS2.out))
    have HK4 := Lib.hid mk4
    have HY4 := Lib.hid (HY2.out.below b4 HY2.out.lt)
    have HO4 := Lib.hid (hO.below b4 (Nat.le_refl _))
    have HW1 := Lib.hid (show w.heap.size ≤ w1.heap.size by have := HYL.out; omega)
    have HNN := Lib.hid hN
    have HGM := Lib.hid (show w.heap.size + 1 < gm by have := HYL.out; omega)
    have HGL := Lib.hid (show gm < w2.heap.size from hM.map.lt)
    have hbig := hM.big
    have HBIG := Lib.hid hbig
    have HC := Lib.hid (stepColored_any W S n cw q sc gm N zs zs (colOf g b) 1 _ HM4.out)
    unfold ColP at HC
    rw [col_grey HOK.out.2] at HC
    have k0 : (w2.alloc (.cells #[.slice W n cw, .map (some gm), .slice S q sc] 105)).cell? ⟨w2.heap.size, 0, none⟩ = some (.slice W n cw) := mk4.cell 0
    have k1 : (w2.alloc (.cells #[.slice W n cw, .map (some gm), .slice S q sc] 105)).cell? ⟨w2.heap.size, 1, none⟩ = some (.map (some gm)) := mk4.cell 1
    have k2 : (w2.alloc (.cells #[.slice W n cw, .map (some gm), .slice S q sc] 105)).cell? ⟨w2.heap.size, 2, none⟩ = some (.slice S q sc) := mk4.cell 2
    have hnw : n ≤ cw := by
      obtain ⟨A', c', e1, e2, _⟩ := HO4.out.arr
      injection e1 with _ e3 e4
      omega
    have HNW := Lib.hid hnw
    clear h0 hM hN hgm hO mk4 b4 hbig HB2 HY2 HS2 hnw
    cases g with
    | nil =>
      have HT := Lib.hid (stepT_nil H0.out)
      have HMo : Hid (stepMore zs [] b = false) := stepMore_nil
      go_wp2_with fail
      refine HC.out.mono ?_
      rintro e w5 ⟨A5, c5, rfl, b5, _, _⟩
      have hkb := HK4.out.below b5 HK4.out.lt
      have HM5 := Lib.hid (HM4.out.next b5)
      have HB5 := Lib.hid (HB4.out.trans (b5.mono HB4.out.size))
      have HY5 := Lib.hid (HY4.out.below b5 HY4.out.lt)
      have HO5 := Lib.hid (HO4.out.below b5 (Nat.le_refl _))
      clear k0 k1 k2 HC HB4 HK4 HY4 HM4 HO4
      have k0 : w5.cell? ⟨w2.heap.size, 0, none⟩ = some (.slice W n cw) := hkb.cell 0
      have k1 : w5.cell? ⟨w2.heap.size, 1, none⟩ = some (.map (some gm)) := hkb.cell 1
      have k2 : w5.cell? ⟨w2.heap.size, 2, none⟩ = some (.slice S q sc) := hkb.cell 2
      have HS := Lib.hid (stepState_any W S n cw q sc gm N zs zs (colOf [] b) w5 HM5.out)
      unfold StateP at HS
      rw [col_grey HOK.out.2, col_black HOK.out.2] at HS
      clear b5 hkb
      simp only [List.length_nil]
      go_wp2_with fail
      refine HS.out.mono ?_
      rintro e w6 ⟨G6, g6, gc, K6, k6, kc, rfl, b6, hG, hK, hGS, hKS⟩
      have HB6 := Lib.hid (HB5.out.trans (b6.mono HB5.out.size))
      have HY6 := Lib.hid (HY5.out.below b6 HY5.out.lt)
      have HW6 := Lib.hid (HM5.out.words.later b6)
      have HG6 := Lib.hid hG
      have HO6 := Lib.hid ((HO5.out.below b6 (Nat.le_refl _)).spare.less HW1.out)
      have HGS := Lib.hid (hGS.less HB5.out.size)
      have HKS := Lib.hid (hKS.less HB5.out.size)
      have HK6 := Lib.hid hK
      have r0 : w6.cell? ⟨w.heap.size + 1, 0, none⟩ = some (.slice none 0 0) := HY6.out.cell 0
      have r1 : w6.cell? ⟨w.heap.size + 1, 1, none⟩ = some (.slice none 0 0) := HY6.out.cell 1
      have r2 : w6.cell? ⟨w.heap.size + 1, 2, none⟩ = some (.slice none 0 0) := HY6.out.cell 2
      have s0 := HY6.out.soft 0
      have s1 := HY6.out.soft 1
      have s2 := HY6.out.soft 2
      clear b6 hG hK hGS hKS HS k0 k1 k2 HB5 HY5 HM5 HO5
      go_wp2
      obtain ⟨z1, z2, z3, z4⟩ := set3 HB6.out HY6.out (by omega : w.heap.size ≤ w.heap.size + 1) (.slice W n cw) (.slice G6 g6 gc) (.slice K6 k6 kc)
      have y1 := HW6.out.set3 HY6.out z3 z4
      have y2 := HG6.out.set3 HY6.out z3 z4
      have y3 := HK6.out.set3 HY6.out z3 z4
      have t1 := HO6.out.set3 HY6.out (by decide) (.slice W n cw) (.slice G6 g6 gc) (.slice K6 k6 kc)
      have t2 := HGS.out.set3 HY6.out (by decide) (.slice W n cw) (.slice G6 g6 gc) (.slice K6 k6 kc)
      have t3 := HKS.out.set3 HY6.out (by decide) (.slice W n cw) (.slice G6 g6 gc) (.slice K6 k6 kc)
      generalize (((w6.setCell ⟨w.heap.size + 1, 0, none⟩ (.slice W n cw)).setCell ⟨w.heap.size + 1, 1, none⟩ (.slice G6 g6 gc)).setCell ⟨w.heap.size + 1, 2, none⟩ (.slice K6 k6 kc)) = W5 at *
      have x0 : W5.cell? ⟨w.heap.size + 1, 0, none⟩ = some (.slice W n cw) := z2.cell 0
      have x1 : W5.cell? ⟨w.heap.size + 1, 1, none⟩ = some (.slice G6 g6 gc) := z2.cell 1
      have x2 : W5.cell? ⟨w.heap.size + 1, 2, none⟩ = some (.slice K6 k6 kc) := z2.cell 2
      have hg2 := y2.1
      have hk2 := y3.1
      have hk3 := sub_length (rises_nodup HOK.out.2.br) HOK.out.2.bl
      have hk4 := lives_len HBIG.out
      refine bodyPost_ret (v := .tuple #[.agg #[.slice W n cw, .slice G6 g6 gc, .slice K6 k6 kc], .bool false, .int .i64 0]) (by simp [results, Try.results29, go_sem, x0, x1, x2]) rfl ⟨W, n, cw, G6, g6, gc, K6, k6, kc, by rw [H0.out, HMo.out], z1, by rw [HT.out]; exact ⟨y1, y2, y3, HN.out, HNW.out, by unfold maxLen; simp at hg2; omega, by unfold maxLen; omega⟩, t1, t2, t3⟩
    | cons x g =>
      have HT := Lib.hid (stepT_cons H0.out)
      have HMo : Hid (stepMore zs (x :: g) b = true) := stepMore_cons H0.out
      have hx := HOK.out.2.gl x (by simp)
      obtain ⟨t, rfl⟩ : ∃ t : Nat, x = t := ⟨x.toNat, by have := lives_pos x hx; omega⟩
      have HXL := Lib.hid hx
      clear hx
      have hgl : 0 < ((t : Int) :: g).length := by simp
      have HFST : Hid (nth ((t : Int) :: g) 0 = t) := rfl
      obtain ⟨ln, hln⟩ : ∃ ln, ((t : Int) :: g).length = ln := ⟨_, rfl⟩
      rw [hln] at HC hgl
      clear hln
      have hge : ((ln : Int) == 0) = false := by rw [beq_eq_false_iff_ne]; omega
      go_wp2_with fail
      refine HC.out.mono ?_
      rintro e w5 ⟨A5, c5, rfl, b5, hA5, _⟩
      have hkb := HK4.out.below b5 HK4.out.lt
      have HM5 := Lib.hid (HM4.out.next b5)
      have HB5 := Lib.hid (HB4.out.trans (b5.mono HB4.out.size))
      have HY5 := Lib.hid (HY4.out.below b5 HY4.out.lt)
      have HO5 := Lib.hid (HO4.out.below b5 (Nat.le_refl _))
      have HK5 := Lib.hid hkb
      have HA5 := Lib.hid hA5
      clear k0 k1 k2 HC HB4 HK4 HY4 HM4 HO4 hkb b5
      have k0 : w5.cell? ⟨w2.heap.size, 0, none⟩ = some (.slice W n cw) := HK5.out.cell 0
      have k1 : w5.cell? ⟨w2.heap.size, 1, none⟩ = some (.map (some gm)) := HK5.out.cell 1
      have k2 : w5.cell? ⟨w2.heap.size, 2, none⟩ = some (.slice S q sc) := HK5.out.cell 2
      obtain ⟨bb, off, rfl, _, hcs⟩ := hA5.2.2 hgl
      have k3 := hcs 0 hgl
      rw [HFST.out, Nat.add_zero] at k3
      have HSC := Lib.hid (stepScan_any W S n cw q sc gm N zs (colOf ((t : Int) :: g) b) t w5.drew (by have := HNN.out; omega) HNW.out HOK.out.1 HXL.out (HM5.out.next (below_drewN (Below.refl _ _) 1)))
      clear hcs hA5
      go_wp2_with fail
      go_region_held3 (fun w' => w'.cell? ⟨w2.heap.size, 0, none⟩ = some (.slice W n cw) ∧ w'.cell? ⟨w2.heap.size, 1, none⟩ = some (.map (some gm)) ∧ w'.cell? ⟨w2.heap.size, 2, none⟩ = some (.slice S q sc) ∧ w'.cell? ⟨bb, off, none⟩ = some (.int .i64 t))
        (first
          | go_keep
          | exact ⟨q0, q1, q2, e66⟩)
        (first
          | (go_at_call 62; refine HSC.out.mono ?_; rintro e w6 ⟨rfl, ho6, N6, hN6, hm6⟩; have ho6 : OnlyM gm w5 w6 := (OnlyM.of_below (Below.refl _ w5).drew).trans ho6; have ey := ho6.box HK5.out (by have := HGL.out; omega); have q0 : w6.cell? ⟨w2.heap.size, 0, none⟩ = some (.slice W n cw) := ey.cell 0; have q1 : w6.cell? ⟨w2.heap.size, 1, none⟩ = some (.map (some gm)) := ey.cell 1; have q2 : w6.cell? ⟨w2.heap.size, 2, none⟩ = some (.slice S q sc) := ey.cell 2; have a6 := HA5.out.onlyM HM5.out.map ho6; have e66 : w6.cell? ⟨bb, off, none⟩ = some (.int .i64 t) := (by obtain ⟨b', off', e1, _, hc'⟩ := a6.2.2 hgl; injection e1 with e1; injection e1 with e1 e2 _; subst e1 e2; have := hc' 0 hgl; rwa [HFST.out, Nat.add_zero] at this)))
      rename_i hHeld
      clear hHeld
      have HB6 := Lib.hid (HB5.out.trans (ho6.below (by have := HGM.out; omega) HB5.out.size))
      have HY6 := Lib.hid (ho6.box HY5.out (by have := HGM.out; omega))
      have HM6 := Lib.hid hm6
      have HO6 := Lib.hid (HO5.out.onlyM HM5.out.map ho6)
      clear k0 k1 k2 k3 HSC a6 e66 HB5 HY5 HK5 HA5
      have HS := Lib.hid (stepState_any W S n cw q sc gm N6 zs zs (scanC zs (colOf ((t : Int) :: g) b) t) w6 hm6)
      unfold StateP at HS
      rw [scan_grey HZ.out HOK.out.1 HOK.out.2, scan_black (lives_fit HOK.out.1) HOK.out.2] at HS
      clear ey hm6 ho6 HM5 HO5
      go_wp2_with fail
      refine HS.out.mono ?_
      rintro e w7 ⟨G7, g7, gc, K7, k7, kc, rfl, b7, hG, hK, hGS, hKS⟩
      have HB7 := Lib.hid (HB6.out.trans (b7.mono HB6.out.size))
      have HY7 := Lib.hid (HY6.out.below b7 HY6.out.lt)
      have HW7 := Lib.hid (HM6.out.words.later b7)
      have HG7 := Lib.hid hG
      have HO7 := Lib.hid ((HO6.out.below b7 (Nat.le_refl _)).spare.less HW1.out)
      have HGS := Lib.hid (hGS.less HB6.out.size)
      have HKS := Lib.hid (hKS.less HB6.out.size)
      have HK7 := Lib.hid hK
      have r0 : w7.cell? ⟨w.heap.size + 1, 0, none⟩ = some (.slice none 0 0) := HY7.out.cell 0
      have r1 : w7.cell? ⟨w.heap.size + 1, 1, none⟩ = some (.slice none 0 0) := HY7.out.cell 1
      have r2 : w7.cell? ⟨w.heap.size + 1, 2, none⟩ = some (.slice none 0 0) := HY7.out.cell 2
      have s0 := HY7.out.soft 0
      have s1 := HY7.out.soft 1
      have s2 := HY7.out.soft 2
      clear b7 hG hK hGS hKS HS q0 q1 q2 HB6 HY6 HM6 HO6
      go_wp2
      obtain ⟨z1, z2, z3, z4⟩ := set3 HB7.out HY7.out (by omega : w.heap.size ≤ w.heap.size + 1) (.slice W n cw) (.slice G7 g7 gc) (.slice K7 k7 kc)
      have y1 := HW7.out.set3 HY7.out z3 z4
      have y2 := HG7.out.set3 HY7.out z3 z4
      have y3 := HK7.out.set3 HY7.out z3 z4
      have t1 := HO7.out.set3 HY7.out (by decide) (.slice W n cw) (.slice G7 g7 gc) (.slice K7 k7 kc)
      have t2 := HGS.out.set3 HY7.out (by decide) (.slice W n cw) (.slice G7 g7 gc) (.slice K7 k7 kc)
      have t3 := HKS.out.set3 HY7.out (by decide) (.slice W n cw) (.slice G7 g7 gc) (.slice K7 k7 kc)
      generalize (((w7.setCell ⟨w.heap.size + 1, 0, none⟩ (.slice W n cw)).setCell ⟨w.heap.size + 1, 1, none⟩ (.slice G7 g7 gc)).setCell ⟨w.heap.size + 1, 2, none⟩ (.slice K7 k7 kc)) = W5 at *
      have x0 : W5.cell? ⟨w.heap.size + 1, 0, none⟩ = some (.slice W n cw) := z2.cell 0
      have x1 : W5.cell? ⟨w.heap.size + 1, 1, none⟩ = some (.slice G7 g7 gc) := z2.cell 1
      have x2 : W5.cell? ⟨w.heap.size + 1, 2, none⟩ = some (.slice K7 k7 kc) := z2.cell 2
      have hg2 := y2.1
      have hk2 := y3.1
      have hg3 : (stepG (nxOf zs) (t : Int) g b).length ≤ 256 := risingTo_len _ _
      have hk3 : (stepB (t : Int) b).length ≤ 256 := risingTo_len _ _
      refine bodyPost_ret (v := .tuple #[.agg #[.slice W n cw, .slice G7 g7 gc, .slice K7 k7 kc], .bool true, .int .i64 0]) (by simp [results, Try.results29, go_sem, x0, x1, x2]) rfl ⟨W, n, cw, G7, g7, gc, K7, k7, kc, by rw [H0.out, HMo.out], z1, by rw [HT.out]; exact ⟨y1, y2, y3, HN.out, HNW.out, by unfold maxLen; omega, by unfold maxLen; omega⟩, t1, t2, t3⟩
theorem stepStep_any (A G K : Option Addr) (n c ng cg nb cb : Nat) (zs g b : List Int) (w : World) (h : TriIn w A G K n c ng nb zs g b) :
    Calls Try.prog 29 #[.agg #[.slice A n c, .slice G ng cg, .slice K nb cb]] w (StepP zs g b w) :=
  (stepStepF_any A G K n c ng cg nb cb zs g b w h).mono fun _ _ ⟨A', n', c', G', ng', cg', K', nb', cb', h1, h2, h3, _⟩ => ⟨A', n', c', G', ng', cg', K', nb', cb', h1, h2, h3⟩
end Go.Proofs.Ythdnfocemchgjaa
