/-
  The walk of StepTells: where the state is not right, where no object is grey, and all of it: whatever the arguments and the memory, the call returns true and changes nothing that was there.
-/
import Derived.Test.YtknbbondofijeaaStepTM
import Derived.Test.YtknbbondofijeaaStepTC
namespace Go.Proofs.Ytknbbondofijeaa
open Go.RowKit

set_option maxRecDepth 32000 in
set_option maxHeartbeats 8000000 in
theorem stepTells_bad (A G K : Option Addr) (n c ng cg nb cb : Nat) (zs g b : List Int) (a r z : Int) (w : World) (wa : (Lit.int .i64 a).wf = true) (wz : (Lit.int .i64 z).wf = true) (hgc : ng ≤ cg) (h : TriIn w A G K n c ng nb zs g b) (hcond : triE zs g b ≠ 0) :
    Calls Try.prog 4 #[.agg #[.slice A n c, .slice G ng cg, .slice K nb cb], .int .i64 a, .int .i64 r, .int .i64 z] w fun e w' => e = .returned (.bool true) ∧ Below w.heap.size w w' := by
  have b1 := (Below.refl _ w).alloc (Nat.le_refl _) (.cells #[.slice A n c, .slice G ng cg, .slice K nb cb] 25)
  have HX1 := Lib.hid (Box.new w 25 #[.slice A n c, .slice G ng cg, .slice K nb cb])
  have HB1 := Lib.hid b1
  have HT1 := Lib.hid (h.next b1)
  have HZ := Lib.hid h.arena.2.1
  have WA := Lib.hid wa
  have WZ := Lib.hid wz
  have HGC := Lib.hid hgc
  have HCN := Lib.hid hcond
  clear b1 h wa wz hgc hcond
  go_enter Try.func4, Try.ntmps4
  go_wp2_with fail
  generalize (w.alloc (.cells #[.slice A n c, .slice G ng cg, .slice K nb cb] 25)) = w1 at *
  have a0 : w1.cell? ⟨w.heap.size, 0, none⟩ = some (.slice A n c) := HX1.out.cell 0
  have a1 : w1.cell? ⟨w.heap.size, 1, none⟩ = some (.slice G ng cg) := HX1.out.cell 1
  have a2 : w1.cell? ⟨w.heap.size, 2, none⟩ = some (.slice K nb cb) := HX1.out.cell 2
  have HS := Lib.hid (stepStep_any A G K n c ng cg nb cb zs g b w1 HT1.out)
  unfold StepP at HS
  go_wp2_with fail
  refine HS.out.mono ?_
  rintro e w2 ⟨A3, n3, c3, G3, g3, cg3, K3, k3, cb3, rfl, b2, hV⟩
  have b3 := (Below.refl _ w2).alloc (Nat.le_refl _) (.cells #[.slice A3 n3 c3, .slice G3 g3 cg3, .slice K3 k3 cb3] 25)
  have HB3 := Lib.hid ((HB1.out.trans (b2.mono HB1.out.size)).trans (b3.mono (by have := HB1.out.size; have := b2.size; omega)))
  have HX3 := Lib.hid ((HX1.out.below b2 HX1.out.lt).below b3 (by have := HX1.out.lt; have := b2.size; omega))
  have HT3 := Lib.hid ((HT1.out.next b2).next b3)
  have HP3 := Lib.hid (Box.new w2 25 #[.slice A3 n3 c3, .slice G3 g3 cg3, .slice K3 k3 cb3])
  have HV3 := Lib.hid (hV.next b3)
  clear a0 a1 a2 b2 b3 hV HS HB1 HX1 HT1
  have a0 : (w2.alloc (.cells #[.slice A3 n3 c3, .slice G3 g3 cg3, .slice K3 k3 cb3] 25)).cell? ⟨w.heap.size, 0, none⟩ = some (.slice A n c) := HX3.out.cell 0
  have a1 : (w2.alloc (.cells #[.slice A3 n3 c3, .slice G3 g3 cg3, .slice K3 k3 cb3] 25)).cell? ⟨w.heap.size, 1, none⟩ = some (.slice G ng cg) := HX3.out.cell 1
  have a2 : (w2.alloc (.cells #[.slice A3 n3 c3, .slice G3 g3 cg3, .slice K3 k3 cb3] 25)).cell? ⟨w.heap.size, 2, none⟩ = some (.slice K nb cb) := HX3.out.cell 2
  have HS := Lib.hid (stepWrite_any A G K n c ng cg nb cb zs g b a r z (w2.alloc (.cells #[.slice A3 n3 c3, .slice G3 g3 cg3, .slice K3 k3 cb3] 25)) WA.out WZ.out HT3.out)
  unfold WriteP at HS
  go_wp2_with fail
  refine HS.out.mono ?_
  rintro e w4 ⟨A5, n5, c5, G5, g5, cg5, K5, k5, cb5, rfl, b4, hV⟩
  clear a0 a1 a2
  generalize (w2.alloc (.cells #[.slice A3 n3 c3, .slice G3 g3 cg3, .slice K3 k3 cb3] 25)) = w3 at *
  have b5 := (Below.refl _ w4).alloc (Nat.le_refl _) (.cells #[.slice A5 n5 c5, .slice G5 g5 cg5, .slice K5 k5 cb5] 25)
  have HB5 := Lib.hid ((HB3.out.trans (b4.mono HB3.out.size)).trans (b5.mono (by have := HB3.out.size; have := b4.size; omega)))
  have HX5 := Lib.hid ((HX3.out.below b4 HX3.out.lt).below b5 (by have := HX3.out.lt; have := b4.size; omega))
  have HP5 := Lib.hid ((HP3.out.below b4 HP3.out.lt).below b5 (by have := HP3.out.lt; have := b4.size; omega))
  have HT5 := Lib.hid ((HT3.out.next b4).next b5)
  have HV5 := Lib.hid ((HV3.out.next b4).next b5)
  have HQ5 := Lib.hid (Box.new w4 25 #[.slice A5 n5 c5, .slice G5 g5 cg5, .slice K5 k5 cb5])
  have HU5 := Lib.hid (hV.next b5)
  clear b4 b5 hV HS HB3 HX3 HP3 HT3 HV3
  have a0 : (w4.alloc (.cells #[.slice A5 n5 c5, .slice G5 g5 cg5, .slice K5 k5 cb5] 25)).cell? ⟨w.heap.size, 0, none⟩ = some (.slice A n c) := HX5.out.cell 0
  have a1 : (w4.alloc (.cells #[.slice A5 n5 c5, .slice G5 g5 cg5, .slice K5 k5 cb5] 25)).cell? ⟨w.heap.size, 1, none⟩ = some (.slice G ng cg) := HX5.out.cell 1
  have a2 : (w4.alloc (.cells #[.slice A5 n5 c5, .slice G5 g5 cg5, .slice K5 k5 cb5] 25)).cell? ⟨w.heap.size, 2, none⟩ = some (.slice K nb cb) := HX5.out.cell 2
  have HS := Lib.hid (stepDone_any A G K n c ng cg nb cb zs g b (w4.alloc (.cells #[.slice A5 n5 c5, .slice G5 g5 cg5, .slice K5 k5 cb5] 25)) HT5.out)
  unfold DoneP at HS
  go_wp2_with fail
  refine HS.out.mono ?_
  rintro e w6 ⟨L, lm, lc, rfl, b6, hlm, hL⟩
  clear a0 a1 a2
  generalize (w4.alloc (.cells #[.slice A5 n5 c5, .slice G5 g5 cg5, .slice K5 k5 cb5] 25)) = w5 at *
  have b7 := (Below.refl _ w6).alloc (Nat.le_refl _) (.cells #[.slice none 0 0, .slice none 0 0, .slice none 0 0] 25)
  have HB7 := Lib.hid ((HB5.out.trans (b6.mono HB5.out.size)).trans (b7.mono (by have := HB5.out.size; have := b6.size; omega)))
  have HI := Lib.hid (show TtI w w2.heap.size w4.heap.size w6.heap.size A G K n c ng cg nb cb zs g b A3 G3 K3 n3 c3 g3 cg3 k3 cb3 (stepT zs g b) A5 G5 K5 n5 c5 g5 cg5 k5 cb5 (writeT zs g b a r z) L lm (doneL zs g b) (w6.alloc (.cells #[.slice none 0 0, .slice none 0 0, .slice none 0 0] 25)) from
    ⟨HB7.out, (HX5.out.below b6 HX5.out.lt).below b7 (by have := HX5.out.lt; have := b6.size; omega), (HP5.out.below b6 HP5.out.lt).below b7 (by have := HP5.out.lt; have := b6.size; omega), (HQ5.out.below b6 HQ5.out.lt).below b7 (by have := HQ5.out.lt; have := b6.size; omega), Box.new w6 25 #[.slice none 0 0, .slice none 0 0, .slice none 0 0], (HT5.out.next b6).next b7, (HV5.out.next b6).next b7, (HU5.out.next b6).next b7, hL.later b7, hlm⟩)
  clear b6 b7 hlm hL HS HB5 HX5 HP5 HT5 HV5 HQ5 HU5 HB7
  obtain ⟨a0, a1, a2⟩ := HI.out.acells
  have HF := Lib.hid (triFault_any A G K n c ng cg nb cb zs g b (w6.alloc (.cells #[.slice none 0 0, .slice none 0 0, .slice none 0 0] 25)) HI.out.tri)
  go_wp2_with fail
  refine HF.out.mono ?_
  rintro e w8 ⟨rfl, b8⟩
  clear a0 a1 a2
  generalize (w6.alloc (.cells #[.slice none 0 0, .slice none 0 0, .slice none 0 0] 25)) = w7 at *
  have HI := Lib.hid (HI.out.next b8)
  clear b8 HF
  generalize w2.heap.size = gX at *
  generalize w4.heap.size = gY at *
  generalize w6.heap.size = gN at *
  have h0 := HCN.out
  have hE1 := stepMore_bad (zs := zs) (g := g) (b := b) h0
  have hE2 := writeE_tri (a := a) (r := r) (z := z) h0
  have hE3 := doneE_bad h0
  have HX := Lib.hid (show TriV w8 A3 G3 K3 n3 c3 g3 k3 ([], [], []) by have := HI.out.xv; rwa [stepT_bad h0] at this)
  have HY := Lib.hid (show TriV w8 A5 G5 K5 n5 c5 g5 k5 ([], [], []) by have := HI.out.yv; rwa [writeT_bad (by rw [hE2]; exact h0)] at this)
  have hl0 : lm = 0 := by have := HI.out.dl.1; rw [doneL_bad (by rw [hE3]; exact h0)] at this; simpa using this.symm
  subst hl0
  rw [hE1, hE2, hE3]
  have hb : (triE zs g b != 0) = true := by simpa using h0
  clear h0 hE1 hE2 hE3 HCN
  generalize triE zs g b = E at *
  have hbe : (E == E) = true := by simp
  obtain ⟨x0, x1, x2⟩ := HI.out.xcells
  obtain ⟨m0, m1, m2⟩ := HI.out.ncells
  have HC := Lib.hid (sameNone_any A3 G3 K3 n3 c3 g3 cg3 k3 cb3 w8 HX.out)
  go_wp2_with fail
  refine HC.out.mono ?_
  rintro e w9 ⟨rfl, bw9⟩
  have HI := Lib.hid (HI.out.next bw9)
  have bk := bw9
  clear bw9 HC
  clear x0 x1 x2 m0 m1 m2 HX
  obtain ⟨y0, y1, y2⟩ := HI.out.ycells
  obtain ⟨m0, m1, m2⟩ := HI.out.ncells
  have HC := Lib.hid (sameNone_any A5 G5 K5 n5 c5 g5 cg5 k5 cb5 w9 (HY.out.next bk))
  go_wp2_with fail
  refine HC.out.mono ?_
  rintro e w10 ⟨rfl, bw10⟩
  have HI := Lib.hid (HI.out.next bw10)
  clear bw10 HC
  clear y0 y1 y2 m0 m1 m2 HY
  go_wp2
  go_ret
  exact ⟨rfl, HI.out.below⟩


set_option maxRecDepth 32000 in
set_option maxHeartbeats 8000000 in
theorem stepTells_nil (A G K : Option Addr) (n c ng cg nb cb : Nat) (zs g b : List Int) (a r z : Int) (w : World) (wa : (Lit.int .i64 a).wf = true) (wz : (Lit.int .i64 z).wf = true) (hgc : ng ≤ cg) (h : TriIn w A G K n c ng nb zs g b) (hcond : triE zs g b = 0 ∧ g = []) :
    Calls Try.prog 4 #[.agg #[.slice A n c, .slice G ng cg, .slice K nb cb], .int .i64 a, .int .i64 r, .int .i64 z] w fun e w' => e = .returned (.bool true) ∧ Below w.heap.size w w' := by
  have b1 := (Below.refl _ w).alloc (Nat.le_refl _) (.cells #[.slice A n c, .slice G ng cg, .slice K nb cb] 25)
  have HX1 := Lib.hid (Box.new w 25 #[.slice A n c, .slice G ng cg, .slice K nb cb])
  have HB1 := Lib.hid b1
  have HT1 := Lib.hid (h.next b1)
  have HZ := Lib.hid h.arena.2.1
  have WA := Lib.hid wa
  have WZ := Lib.hid wz
  have HGC := Lib.hid hgc
  have HCN := Lib.hid hcond
  clear b1 h wa wz hgc hcond
  go_enter Try.func4, Try.ntmps4
  go_wp2_with fail
  generalize (w.alloc (.cells #[.slice A n c, .slice G ng cg, .slice K nb cb] 25)) = w1 at *
  have a0 : w1.cell? ⟨w.heap.size, 0, none⟩ = some (.slice A n c) := HX1.out.cell 0
  have a1 : w1.cell? ⟨w.heap.size, 1, none⟩ = some (.slice G ng cg) := HX1.out.cell 1
  have a2 : w1.cell? ⟨w.heap.size, 2, none⟩ = some (.slice K nb cb) := HX1.out.cell 2
  have HS := Lib.hid (stepStep_any A G K n c ng cg nb cb zs g b w1 HT1.out)
  unfold StepP at HS
  go_wp2_with fail
  refine HS.out.mono ?_
  rintro e w2 ⟨A3, n3, c3, G3, g3, cg3, K3, k3, cb3, rfl, b2, hV⟩
  have b3 := (Below.refl _ w2).alloc (Nat.le_refl _) (.cells #[.slice A3 n3 c3, .slice G3 g3 cg3, .slice K3 k3 cb3] 25)
  have HB3 := Lib.hid ((HB1.out.trans (b2.mono HB1.out.size)).trans (b3.mono (by have := HB1.out.size; have := b2.size; omega)))
  have HX3 := Lib.hid ((HX1.out.below b2 HX1.out.lt).below b3 (by have := HX1.out.lt; have := b2.size; omega))
  have HT3 := Lib.hid ((HT1.out.next b2).next b3)
  have HP3 := Lib.hid (Box.new w2 25 #[.slice A3 n3 c3, .slice G3 g3 cg3, .slice K3 k3 cb3])
  have HV3 := Lib.hid (hV.next b3)
  clear a0 a1 a2 b2 b3 hV HS HB1 HX1 HT1
  have a0 : (w2.alloc (.cells #[.slice A3 n3 c3, .slice G3 g3 cg3, .slice K3 k3 cb3] 25)).cell? ⟨w.heap.size, 0, none⟩ = some (.slice A n c) := HX3.out.cell 0
  have a1 : (w2.alloc (.cells #[.slice A3 n3 c3, .slice G3 g3 cg3, .slice K3 k3 cb3] 25)).cell? ⟨w.heap.size, 1, none⟩ = some (.slice G ng cg) := HX3.out.cell 1
  have a2 : (w2.alloc (.cells #[.slice A3 n3 c3, .slice G3 g3 cg3, .slice K3 k3 cb3] 25)).cell? ⟨w.heap.size, 2, none⟩ = some (.slice K nb cb) := HX3.out.cell 2
  have HS := Lib.hid (stepWrite_any A G K n c ng cg nb cb zs g b a r z (w2.alloc (.cells #[.slice A3 n3 c3, .slice G3 g3 cg3, .slice K3 k3 cb3] 25)) WA.out WZ.out HT3.out)
  unfold WriteP at HS
  go_wp2_with fail
  refine HS.out.mono ?_
  rintro e w4 ⟨A5, n5, c5, G5, g5, cg5, K5, k5, cb5, rfl, b4, hV⟩
  clear a0 a1 a2
  generalize (w2.alloc (.cells #[.slice A3 n3 c3, .slice G3 g3 cg3, .slice K3 k3 cb3] 25)) = w3 at *
  have b5 := (Below.refl _ w4).alloc (Nat.le_refl _) (.cells #[.slice A5 n5 c5, .slice G5 g5 cg5, .slice K5 k5 cb5] 25)
  have HB5 := Lib.hid ((HB3.out.trans (b4.mono HB3.out.size)).trans (b5.mono (by have := HB3.out.size; have := b4.size; omega)))
  have HX5 := Lib.hid ((HX3.out.below b4 HX3.out.lt).below b5 (by have := HX3.out.lt; have := b4.size; omega))
  have HP5 := Lib.hid ((HP3.out.below b4 HP3.out.lt).below b5 (by have := HP3.out.lt; have := b4.size; omega))
  have HT5 := Lib.hid ((HT3.out.next b4).next b5)
  have HV5 := Lib.hid ((HV3.out.next b4).next b5)
  have HQ5 := Lib.hid (Box.new w4 25 #[.slice A5 n5 c5, .slice G5 g5 cg5, .slice K5 k5 cb5])
  have HU5 := Lib.hid (hV.next b5)
  clear b4 b5 hV HS HB3 HX3 HP3 HT3 HV3
  have a0 : (w4.alloc (.cells #[.slice A5 n5 c5, .slice G5 g5 cg5, .slice K5 k5 cb5] 25)).cell? ⟨w.heap.size, 0, none⟩ = some (.slice A n c) := HX5.out.cell 0
  have a1 : (w4.alloc (.cells #[.slice A5 n5 c5, .slice G5 g5 cg5, .slice K5 k5 cb5] 25)).cell? ⟨w.heap.size, 1, none⟩ = some (.slice G ng cg) := HX5.out.cell 1
  have a2 : (w4.alloc (.cells #[.slice A5 n5 c5, .slice G5 g5 cg5, .slice K5 k5 cb5] 25)).cell? ⟨w.heap.size, 2, none⟩ = some (.slice K nb cb) := HX5.out.cell 2
  have HS := Lib.hid (stepDone_any A G K n c ng cg nb cb zs g b (w4.alloc (.cells #[.slice A5 n5 c5, .slice G5 g5 cg5, .slice K5 k5 cb5] 25)) HT5.out)
  unfold DoneP at HS
  go_wp2_with fail
  refine HS.out.mono ?_
  rintro e w6 ⟨L, lm, lc, rfl, b6, hlm, hL⟩
  clear a0 a1 a2
  generalize (w4.alloc (.cells #[.slice A5 n5 c5, .slice G5 g5 cg5, .slice K5 k5 cb5] 25)) = w5 at *
  have b7 := (Below.refl _ w6).alloc (Nat.le_refl _) (.cells #[.slice none 0 0, .slice none 0 0, .slice none 0 0] 25)
  have HB7 := Lib.hid ((HB5.out.trans (b6.mono HB5.out.size)).trans (b7.mono (by have := HB5.out.size; have := b6.size; omega)))
  have HI := Lib.hid (show TtI w w2.heap.size w4.heap.size w6.heap.size A G K n c ng cg nb cb zs g b A3 G3 K3 n3 c3 g3 cg3 k3 cb3 (stepT zs g b) A5 G5 K5 n5 c5 g5 cg5 k5 cb5 (writeT zs g b a r z) L lm (doneL zs g b) (w6.alloc (.cells #[.slice none 0 0, .slice none 0 0, .slice none 0 0] 25)) from
    ⟨HB7.out, (HX5.out.below b6 HX5.out.lt).below b7 (by have := HX5.out.lt; have := b6.size; omega), (HP5.out.below b6 HP5.out.lt).below b7 (by have := HP5.out.lt; have := b6.size; omega), (HQ5.out.below b6 HQ5.out.lt).below b7 (by have := HQ5.out.lt; have := b6.size; omega), Box.new w6 25 #[.slice none 0 0, .slice none 0 0, .slice none 0 0], (HT5.out.next b6).next b7, (HV5.out.next b6).next b7, (HU5.out.next b6).next b7, hL.later b7, hlm⟩)
  clear b6 b7 hlm hL HS HB5 HX5 HP5 HT5 HV5 HQ5 HU5 HB7
  obtain ⟨a0, a1, a2⟩ := HI.out.acells
  have HF := Lib.hid (triFault_any A G K n c ng cg nb cb zs g b (w6.alloc (.cells #[.slice none 0 0, .slice none 0 0, .slice none 0 0] 25)) HI.out.tri)
  go_wp2_with fail
  refine HF.out.mono ?_
  rintro e w8 ⟨rfl, b8⟩
  clear a0 a1 a2
  generalize (w6.alloc (.cells #[.slice none 0 0, .slice none 0 0, .slice none 0 0] 25)) = w7 at *
  have HI := Lib.hid (HI.out.next b8)
  clear b8 HF
  generalize w2.heap.size = gX at *
  generalize w4.heap.size = gY at *
  generalize w6.heap.size = gN at *
  obtain ⟨h0, hg⟩ := HCN.out
  have hge : ((ng : Int) == 0) = true := by have := HI.out.tri.grey.1; rw [hg] at this; simp at this; simp [← this]
  have H0 := Lib.hid h0
  have HOK := Lib.hid ((triE_iff HZ.out).1 h0)
  have hst : stepT zs g b = (zs, [], b) := by rw [hg] at h0 ⊢; exact stepT_nil h0
  have hE1 : stepMore zs g b = false := by rw [hg]; exact stepMore_nil
  have hE3 := doneE_ok h0 hg
  have HX := Lib.hid (show TriIn w8 A3 G3 K3 n3 c3 g3 k3 zs [] b by have := HI.out.xv; rwa [hst] at this)
  have hnb : nb ≤ 256 := by
    have q2 := sub_length (rises_nodup HOK.out.2.br) HOK.out.2.bl
    have q3 := lives_len (arena_len HOK.out.1)
    have q4 := HI.out.tri.blk.1
    omega
  have hng : ng ≤ 256 := by have := HI.out.tri.grey.1; rw [hg] at this; simp at this; omega
  have hn3 : n = n3 := by have := HX.out.arena.1; have := HI.out.tri.arena.1; omega
  have hg3 : ng = g3 := by have := HX.out.grey.1; have := HI.out.tri.grey.1; rw [hg] at this; omega
  have hk3 : nb = k3 := by have := HX.out.blk.1; have := HI.out.tri.blk.1; omega
  subst hn3 hg3 hk3
  have HDL : Hid (doneL zs g b = (livesI zs).filter fun x => decide (x ∉ b)) := by
    show _ = _
    unfold doneL
    rw [if_pos hE3]
  rw [hE1, hE3, h0]
  have HGN := Lib.hid hg
  clear h0 HCN hg hst hE1 hE3
  obtain ⟨a0, a1, a2⟩ := HI.out.acells
  have HBG := Lib.hid (begins_any A n c zs w8 HI.out.tri.arena (arErr_zero HOK.out.1).1)
  go_wp2_with fail
  refine HBG.out.mono ?_
  rintro e w9 ⟨A9, c9, rfl, b9, hA9⟩
  have HI := Lib.hid (HI.out.next b9)
  have HX := Lib.hid (HX.out.next b9)
  have HA9 := Lib.hid hA9
  have hln256 := lives_len (arena_len HOK.out.1)
  clear b9 hA9 HBG a0 a1 a2
  obtain ⟨ln, hln⟩ : ∃ ln, (livesI zs).length = ln := ⟨_, rfl⟩
  have HLN := Lib.hid hln
  rw [hln] at HA9 hln256 ⊢
  clear hln
  go_wp2_with fail
  go_loopw [18, 92] (fun v i wr => ∃ j : Nat, j ≤ ln ∧ i = .int .i64 j ∧ Hid (Own .i64 3 wr w9.heap.size v (((livesI zs).take j).filter fun x => decide (x ∉ b))) ∧ Hid (Below w9.heap.size w9 wr)) (fun _ i _ => ln - (intOf i).toNat)
  case atStart => exact ⟨0, Nat.zero_le _, rfl, Own.nil, Below.refl _ _⟩
  case round =>
    obtain ⟨j, hj, rfl, HO, HB⟩ := hrel
    have HIj := Lib.hid (HI.out.next HB.out)
    obtain ⟨a0, a1, a2⟩ := HIj.out.acells
    by_cases hlt : j < ln
    · obtain ⟨bb, off, rfl, _, hcs⟩ := (HA9.out.later HB.out).2.2 (by omega)
      have hc := hcs j hlt
      have HIN := Lib.hid (in_ref K nb cb _ (nth (livesI zs) j) b wr HIj.out.tri.hb HIj.out.tri.blk)
      have hmem : nth (livesI zs) j ∈ livesI zs := nth_mem (by rw [HLN.out]; exact hlt)
      have HWF := Lib.hid (HA9.out.2.1 _ hmem)
      have hT : (((livesI zs).take (j + 1)).filter fun x => decide (x ∉ b)) = (((livesI zs).take j).filter fun x => decide (x ∉ b)) ++ (if decide (nth (livesI zs) j ∉ b) = true then [nth (livesI zs) j] else []) := by
        rw [List.take_succ_eq_append_getElem (by rw [HLN.out]; exact hlt), List.filter_append, nth_get _ _ (by rw [HLN.out]; exact hlt)]
        congr 1
        rw [List.filter_cons, List.filter_nil]
      have hfl : (((livesI zs).take j).filter fun x => decide (x ∉ b)).length ≤ 256 := Nat.le_trans (List.length_filter_le _ _) (by rw [List.length_take]; omega)
      clear hcs hmem
      by_cases hin : nth (livesI zs) j ∈ b
      · rw [show decide (nth (livesI zs) j ∈ b) = true by simpa using hin] at HIN
        rw [if_neg (by simpa using hin), List.append_nil] at hT
        have hO1 := HO.out
        rw [← hT] at hO1
        have HO1 := Lib.hid hO1
        clear hT hO1 hin HO
        generalize nth (livesI zs) j = X at *
        go_wp2_with fail
        refine HIN.out.mono ?_
        rintro e wx ⟨rfl, rfl⟩
        go_wp2
        go_roundw
        case rel => exact ⟨j + 1, by omega, by go_num, HO1.out, HB.out⟩
        case measure => simp [intOf]; omega
      · rw [show decide (nth (livesI zs) j ∈ b) = false by simpa using hin] at HIN
        rw [if_pos (by simpa using hin)] at hT
        obtain ⟨v', w11, hrun, hO', hB'⟩ := HO.out.push (P := Try.prog) (t := 23) (ty := 23) Try.underlying23 intI_info (by omega) (x := nth (livesI zs) j) HWF.out (by omega) HB.out.size
        rw [← hT] at hO'
        have HRN := Lib.hid hrun
        have HO1 := Lib.hid hO'
        have HB1 := Lib.hid (HB.out.trans hB')
        clear hT hrun hO' hB' hin HO HB hfl
        generalize nth (livesI zs) j = X at *
        go_wp2_with fail
        refine HIN.out.mono ?_
        rintro e wx ⟨rfl, rfl⟩
        go_wp2_with (at_builtin; refine wpList_append_run rfl (.tmp 101) (.tmp 103) 23 rfl rfl rfl HRN.out ?_)
        go_roundw
        case rel => exact ⟨j + 1, by omega, by go_num, HO1.out, HB1.out⟩
        case measure => simp [intOf]; omega
    · obtain rfl : j = ln := by omega
      have hO := HO.out
      rw [List.take_of_length_le (by rw [HLN.out]; exact Nat.le_refl _), ← HDL.out] at hO
      obtain ⟨A18, c18, rfl, _, hA18⟩ := hO.arr
      have hlm : (doneL zs g b).length = lm := HIj.out.dl.1
      rw [hlm] at hA18 ⊢
      have HI := Lib.hid HIj.out
      have HX := Lib.hid (HX.out.next HB.out)
      have HA18 := Lib.hid hA18
      clear hO hA18 HO HIj HB hlm
      obtain ⟨x0, x1, x2⟩ := HI.out.xcells
      have HC := Lib.hid (sameTri_any A3 G3 K3 A G K n c3 ng cg3 nb cb3 c cg cb zs [] b wr HX.out.arena HX.out.grey HX.out.blk HI.out.tri.arena (by have := HI.out.tri.grey; rwa [HGN.out] at this) HI.out.tri.blk HX.out.hn HX.out.hg HX.out.hb)
      go_wp2_with fail
      refine HC.out.mono ?_
      rintro e w12 ⟨rfl, bw12⟩
      have HI := Lib.hid (HI.out.next bw12)
      have HK12 := Lib.hid bw12
      clear bw12 HC
      clear x0 x1 x2 a0 a1 a2 HX
      have HA18 := Lib.hid (HA18.out.later HK12.out)
      have HEQ := Lib.hid (equalInts L A18 lm lm lc c18 _ (doneL zs g b) (doneL zs g b) w12 HI.out.dl HA18.out HI.out.hlm HI.out.hlm)
      rw [show decide (doneL zs g b = doneL zs g b) = true by simp] at HEQ
      go_wp2_with fail
      refine HEQ.out.mono ?_
      rintro e w13 ⟨rfl, q13, rfl⟩
      have HI := Lib.hid (HI.out.next (wx' := w12.drewN q13) (below_drewN (Below.refl _ _) q13))
      clear HEQ HA18 HK12
      generalize w12.drewN q13 = w13 at *
      obtain ⟨a0, a1, a2⟩ := HI.out.acells
      have HWR := Lib.hid (written_any A n c zs a r z w13 HI.out.tri.arena HOK.out.1)
      unfold WrittenP at HWR
      go_wp2_with fail
      refine HWR.out.mono ?_
      rintro e wa1 ⟨O, om, oc, rfl, ba1, hom, hO⟩
      have HI := Lib.hid (HI.out.next ba1)
      have HO := Lib.hid hO
      clear ba1 hO HWR a0 a1 a2
      obtain ⟨EW, hEW⟩ : ∃ EW, wrtE zs a r z = EW := ⟨_, rfl⟩
      have HEW := Lib.hid hEW
      have hwe : writeE zs g b a r z = EW := (writeE_wrtE H0.out).trans hEW
      rw [hEW, hwe]
      by_cases hw : EW = 0
      · subst hw
        have HY := Lib.hid (show TriIn wa1 A5 G5 K5 n5 c5 g5 k5 (wrL zs a.toNat r.toNat z) (writeG a z g b) b by have := HI.out.yv; rwa [writeT_ok hwe] at this)
        rw [wrtL_ok HEW.out] at HO
        have hk5 : nb = k5 := by have := HY.out.blk.1; have := HI.out.tri.blk.1; omega
        subst hk5
        have ho5 : n5 = om := by have := HY.out.arena.1; have := HO.out.1; omega
        subst ho5
        clear hwe hEW
        obtain ⟨a0, a1, a2⟩ := HI.out.acells
        have HCL := Lib.hid (cloneI_any G ng cg g wa1 hng HI.out.tri.grey)
        unfold ClonedI at HCL
        go_wp2_with fail
        refine HCL.out.mono ?_
        rintro e wb1 ⟨CA, cc, rfl, hCO, bb1⟩
        have HIa := Lib.hid HI.out
        have HOa := Lib.hid HO.out
        have HYa := Lib.hid HY.out
        have HBB := Lib.hid bb1
        clear HI HO HY
        have HI := Lib.hid (HIa.out.next bb1)
        have HO := Lib.hid (HOa.out.later bb1)
        have HY := Lib.hid (HYa.out.next bb1)
        have HCO := Lib.hid hCO
        have HWB := Lib.hid bb1.size
        clear bb1 hCO HCL a0 a1 a2
        obtain ⟨a0, a1, a2⟩ := HI.out.acells
        have HN1 := Lib.hid (in_ref K nb cb _ a b wb1 HI.out.tri.hb HI.out.tri.blk)
        have HN2 := Lib.hid (in_ref K nb cb _ z b wb1 HI.out.tri.hb HI.out.tri.blk)
        have HGL : Hid (Arr .i64 wb1 wb1.heap.size CA ng g) := by
          obtain ⟨A', c', e1, _, h1⟩ := HCO.out.arr
          injection e1 with v1 v2 _
          show Arr .i64 wb1 wb1.heap.size CA ng g
          rw [v1, v2]; exact h1
        by_cases hz0 : 0 ≤ z
        · have c1 : (0 ≤ z) = True := eq_true hz0
          have c2 : (z ≥ 0) = True := eq_true hz0
          by_cases hab : a ∈ b
          · rw [show decide (a ∈ b) = true by simpa using hab] at HN1
            by_cases hzb : z ∈ b
            · rw [show decide (z ∈ b) = true by simpa using hzb] at HN2
              go_wp2_with fail
              refine HN1.out.mono ?_
              rintro e wx ⟨rfl, rfl⟩
              go_wp2_with fail
              refine HN2.out.mono ?_
              rintro e wx ⟨rfl, rfl⟩
              have HRI := Lib.hid (rising_any CA ng cc g wb1.drew (by unfold maxLen; omega) (HGL.out.drewN 1))
              rw [wrG_no (a := a) (z := z) HOK.out.2 (lives_fit HOK.out.1) (by rintro ⟨q1, q2, q3⟩; exact q3 hzb)] at HRI
              have hg5 := HY.out.grey.1
              rw [hg5] at HRI
              obtain ⟨y0, y1, y2⟩ := HI.out.ycells
              obtain ⟨a0, a1, a2⟩ := HI.out.acells
              go_wp2_with fail
              go_region_held3 (fun w' => w'.cell? ⟨gY, 0, none⟩ = some (.slice A5 n5 c5) ∧ w'.cell? ⟨gY, 1, none⟩ = some (.slice G5 g5 cg5) ∧ w'.cell? ⟨gY, 2, none⟩ = some (.slice K5 nb cb5) ∧ w'.cell? ⟨w.heap.size, 2, none⟩ = some (.slice K nb cb))
                (first
                  | go_keep
                  | exact ⟨v0, v1, v2, v3⟩
                  | exact ⟨u0, u1, u2, u3⟩)
                (first
                  | (go_at_call 15; refine (sameTri_any A5 G5 K5 O A7 K n5 c5 g5 cg5 nb cb5 oc q7 cb (wrL zs a.toNat r.toNat z) (writeG a z g b) b w7 vv.arena vv.grey vv.blk oo hA7 tt.blk vv.hn vv.hg vv.hb).mono ?_; rintro e w8 ⟨rfl, b8⟩; have ey := ex.next b8; obtain ⟨v0, v1, v2⟩ := ey.ycells; have v3 := ey.arg.cell 2)
                  | (go_at_call 16; refine HRI.out.mono ?_; rintro e w7 ⟨A7, q7, rfl, b7, hA7⟩; have b7 : Below wb1.heap.size wb1 w7 := below_of_drew b7; have ex := HI.out.next b7; have vv := HY.out.next b7; have oo := HO.out.later b7; have tt := ex.tri; obtain ⟨u0, u1, u2⟩ := ex.ycells; have u3 := ex.arg.cell 2))
              rename_i hHeld
              have HE := Lib.hid ey.below
              clear hHeld v0 v1 v2 v3 u0 u1 u2 u3 ex ey
              go_wp2
              go_ret
              exact ⟨rfl, HE.out⟩
            · rw [show decide (z ∈ b) = false by simpa using hzb] at HN2
              obtain ⟨v', wd1, hrun, hO', hB'⟩ := HCO.out.push (P := Try.prog) (t := 23) (ty := 23) Try.underlying23 intI_info (by omega) (x := z) WZ.out (by have := HI.out.tri.grey.1; omega) HWB.out
              obtain ⟨DA, dc, rfl, _, hDA⟩ := hO'.arr
              have hdl : (g ++ [z]).length = ng + 1 := by rw [List.length_append, HI.out.tri.grey.1]; rfl
              rw [hdl] at hDA hrun
              have HRN := Lib.hid hrun
              have HZB := Lib.hid hzb
              have HAB := Lib.hid hab
              have HZ0 := Lib.hid hz0
              go_wp2_with fail
              refine HN1.out.mono ?_
              rintro e wx ⟨rfl, rfl⟩
              go_wp2_with fail
              refine HN2.out.mono ?_
              rintro e wx ⟨rfl, rfl⟩
              have hBW : Below wa1.heap.size wa1 wd1 := HBB.out.trans hB'
              have HGL := Lib.hid hDA
              have HId := Lib.hid (HIa.out.next hBW)
              have HOd := Lib.hid (HOa.out.later hBW)
              have HYd := Lib.hid (HYa.out.next hBW)
              clear hrun hO' hDA hB' hdl HN1 HN2 a0 a1 a2 HI HO HY HIa HOa HYa HBB hBW
              have HI := Lib.hid HId.out
              have HO := Lib.hid HOd.out
              have HY := Lib.hid HYd.out
              clear HId HOd HYd
              go_wp2_with (at_builtin; refine wpList_append_run rfl (.tmp 229) (.tmp 231) 23 rfl rfl rfl HRN.out ?_)
              have HRI := Lib.hid (rising_any DA (ng + 1) dc (g ++ [z]) wd1.drew (by unfold maxLen; omega) (HGL.out.drewN 1))
              rw [wrG_yes (a := a) HOK.out.2 (lives_fit HOK.out.1) HZ0.out HAB.out HZB.out] at HRI
              have hg5 := HY.out.grey.1
              rw [hg5] at HRI
              obtain ⟨y0, y1, y2⟩ := HI.out.ycells
              obtain ⟨a0, a1, a2⟩ := HI.out.acells
              go_wp2_with fail
              go_region_held3 (fun w' => w'.cell? ⟨gY, 0, none⟩ = some (.slice A5 n5 c5) ∧ w'.cell? ⟨gY, 1, none⟩ = some (.slice G5 g5 cg5) ∧ w'.cell? ⟨gY, 2, none⟩ = some (.slice K5 nb cb5) ∧ w'.cell? ⟨w.heap.size, 2, none⟩ = some (.slice K nb cb))
                (first
                  | go_keep
                  | exact ⟨v0, v1, v2, v3⟩
                  | exact ⟨u0, u1, u2, u3⟩)
                (first
                  | (go_at_call 15; refine (sameTri_any A5 G5 K5 O A7 K n5 c5 g5 cg5 nb cb5 oc q7 cb (wrL zs a.toNat r.toNat z) (writeG a z g b) b w7 vv.arena vv.grey vv.blk oo hA7 tt.blk vv.hn vv.hg vv.hb).mono ?_; rintro e w8 ⟨rfl, b8⟩; have ey := ex.next b8; obtain ⟨v0, v1, v2⟩ := ey.ycells; have v3 := ey.arg.cell 2)
                  | (go_at_call 16; refine HRI.out.mono ?_; rintro e w7 ⟨A7, q7, rfl, b7, hA7⟩; have b7 : Below wd1.heap.size wd1 w7 := below_of_drew b7; have ex := HI.out.next b7; have vv := HY.out.next b7; have oo := HO.out.later b7; have tt := ex.tri; obtain ⟨u0, u1, u2⟩ := ex.ycells; have u3 := ex.arg.cell 2))
              rename_i hHeld
              have HE := Lib.hid ey.below
              clear hHeld v0 v1 v2 v3 u0 u1 u2 u3 ex ey
              go_wp2
              go_ret
              exact ⟨rfl, HE.out⟩
          · rw [show decide (a ∈ b) = false by simpa using hab] at HN1
            go_wp2_with fail
            refine HN1.out.mono ?_
            rintro e wx ⟨rfl, rfl⟩
            have HRI := Lib.hid (rising_any CA ng cc g wb1.drew (by unfold maxLen; omega) (HGL.out.drewN 1))
            rw [wrG_no (a := a) (z := z) HOK.out.2 (lives_fit HOK.out.1) (by rintro ⟨q1, q2, q3⟩; exact hab q2)] at HRI
            have hg5 := HY.out.grey.1
            rw [hg5] at HRI
            obtain ⟨y0, y1, y2⟩ := HI.out.ycells
            obtain ⟨a0, a1, a2⟩ := HI.out.acells
            go_wp2_with fail
            go_region_held3 (fun w' => w'.cell? ⟨gY, 0, none⟩ = some (.slice A5 n5 c5) ∧ w'.cell? ⟨gY, 1, none⟩ = some (.slice G5 g5 cg5) ∧ w'.cell? ⟨gY, 2, none⟩ = some (.slice K5 nb cb5) ∧ w'.cell? ⟨w.heap.size, 2, none⟩ = some (.slice K nb cb))
              (first
                | go_keep
                | exact ⟨v0, v1, v2, v3⟩
                | exact ⟨u0, u1, u2, u3⟩)
              (first
                | (go_at_call 15; refine (sameTri_any A5 G5 K5 O A7 K n5 c5 g5 cg5 nb cb5 oc q7 cb (wrL zs a.toNat r.toNat z) (writeG a z g b) b w7 vv.arena vv.grey vv.blk oo hA7 tt.blk vv.hn vv.hg vv.hb).mono ?_; rintro e w8 ⟨rfl, b8⟩; have ey := ex.next b8; obtain ⟨v0, v1, v2⟩ := ey.ycells; have v3 := ey.arg.cell 2)
                | (go_at_call 16; refine HRI.out.mono ?_; rintro e w7 ⟨A7, q7, rfl, b7, hA7⟩; have b7 : Below wb1.heap.size wb1 w7 := below_of_drew b7; have ex := HI.out.next b7; have vv := HY.out.next b7; have oo := HO.out.later b7; have tt := ex.tri; obtain ⟨u0, u1, u2⟩ := ex.ycells; have u3 := ex.arg.cell 2))
            rename_i hHeld
            have HE := Lib.hid ey.below
            clear hHeld v0 v1 v2 v3 u0 u1 u2 u3 ex ey
            go_wp2
            go_ret
            exact ⟨rfl, HE.out⟩
        · have c1 : (0 ≤ z) = False := eq_false hz0
          have c2 : (z ≥ 0) = False := eq_false hz0
          have HRI := Lib.hid (rising_any CA ng cc g wb1.drew (by unfold maxLen; omega) (HGL.out.drewN 1))
          rw [wrG_no (a := a) (z := z) HOK.out.2 (lives_fit HOK.out.1) (by rintro ⟨q1, q2, q3⟩; exact hz0 q1)] at HRI
          have hg5 := HY.out.grey.1
          rw [hg5] at HRI
          obtain ⟨y0, y1, y2⟩ := HI.out.ycells
          obtain ⟨a0, a1, a2⟩ := HI.out.acells
          go_wp2_with fail
          go_region_held3 (fun w' => w'.cell? ⟨gY, 0, none⟩ = some (.slice A5 n5 c5) ∧ w'.cell? ⟨gY, 1, none⟩ = some (.slice G5 g5 cg5) ∧ w'.cell? ⟨gY, 2, none⟩ = some (.slice K5 nb cb5) ∧ w'.cell? ⟨w.heap.size, 2, none⟩ = some (.slice K nb cb))
            (first
              | go_keep
              | exact ⟨v0, v1, v2, v3⟩
              | exact ⟨u0, u1, u2, u3⟩)
            (first
              | (go_at_call 15; refine (sameTri_any A5 G5 K5 O A7 K n5 c5 g5 cg5 nb cb5 oc q7 cb (wrL zs a.toNat r.toNat z) (writeG a z g b) b w7 vv.arena vv.grey vv.blk oo hA7 tt.blk vv.hn vv.hg vv.hb).mono ?_; rintro e w8 ⟨rfl, b8⟩; have ey := ex.next b8; obtain ⟨v0, v1, v2⟩ := ey.ycells; have v3 := ey.arg.cell 2)
              | (go_at_call 16; refine HRI.out.mono ?_; rintro e w7 ⟨A7, q7, rfl, b7, hA7⟩; have b7 : Below wb1.heap.size wb1 w7 := below_of_drew b7; have ex := HI.out.next b7; have vv := HY.out.next b7; have oo := HO.out.later b7; have tt := ex.tri; obtain ⟨u0, u1, u2⟩ := ex.ycells; have u3 := ex.arg.cell 2))
          rename_i hHeld
          have HE := Lib.hid ey.below
          clear hHeld v0 v1 v2 v3 u0 u1 u2 u3 ex ey
          go_wp2
          go_ret
          exact ⟨rfl, HE.out⟩
      · have HY := Lib.hid (show TriV wa1 A5 G5 K5 n5 c5 g5 k5 ([], [], []) by have := HI.out.yv; rwa [writeT_bad (by rw [hwe]; exact hw)] at this)
        have hb : (EW != 0) = true := by simpa using hw
        have hbe : (EW == EW) = true := by simp
        clear hwe hEW hw
        obtain ⟨y0, y1, y2⟩ := HI.out.ycells
        obtain ⟨m0, m1, m2⟩ := HI.out.ncells
        have HC := Lib.hid (sameNone_any A5 G5 K5 n5 c5 g5 cg5 k5 cb5 wa1 HY.out)
        go_wp2_with fail
        refine HC.out.mono ?_
        rintro e wb2 ⟨rfl, bwb2⟩
        have HI := Lib.hid (HI.out.next bwb2)
        clear bwb2 HC
        clear y0 y1 y2 m0 m1 m2 HY
        go_wp2
        go_ret
        exact ⟨rfl, HI.out.below⟩


theorem stepTells_walk (A G K : Option Addr) (n c ng cg nb cb : Nat) (zs g b : List Int) (a r z : Int) (w : World) (wa : (Lit.int .i64 a).wf = true) (wz : (Lit.int .i64 z).wf = true) (hgc : ng ≤ cg) (h : TriIn w A G K n c ng nb zs g b) :
    Calls Try.prog 4 #[.agg #[.slice A n c, .slice G ng cg, .slice K nb cb], .int .i64 a, .int .i64 r, .int .i64 z] w fun e w' => e = .returned (.bool true) ∧ Below w.heap.size w w' := by
  by_cases h0 : triE zs g b = 0
  · by_cases hg : g = []
    · exact stepTells_nil A G K n c ng cg nb cb zs g b a r z w wa wz hgc h ⟨h0, hg⟩
    · exact stepTells_cons A G K n c ng cg nb cb zs g b a r z w wa wz hgc h ⟨h0, hg⟩
  · exact stepTells_bad A G K n c ng cg nb cb zs g b a r z w wa wz hgc h h0

end Go.Proofs.Ytknbbondofijeaa
