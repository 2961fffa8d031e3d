/-
  The walk of StepEnds: whatever the arguments and the memory, the call returns true and changes nothing that was there.
-/
import Derived.Test.YtknbbondofijeaaStepK
namespace Go.Proofs.Ytknbbondofijeaa
open Go.RowKit

/-- What a step leaves. -/
theorem step_sum {zs g b : List Int} (hz : ∀ z ∈ zs, (Lit.int .u64 z).wf = true) (h : triE zs g b = 0) : ∃ g1 b1, stepT zs g b = (zs, g1, b1) ∧ triE zs g1 b1 = 0 ∧ b1.length = b.length + (if stepMore zs g b = true then 1 else 0) ∧ ∀ y ∈ b, y ∈ b1 := by
  obtain ⟨h0, hok⟩ := (triE_iff hz).1 h
  cases g with
  | nil => exact ⟨[], b, stepT_nil h, h, by rw [stepMore_nil]; simp, fun _ h => h⟩
  | cons x g =>
    have hL := lives_fit h0
    obtain ⟨h1, h2⟩ := step_ok hL (lives_closed hz h0) hok
    exact ⟨_, _, stepT_cons h, (triE_iff hz).2 ⟨h0, h1⟩, by rw [stepMore_cons h, h2]; simp, fun y hy => (stepB_mem hL hok.bl (hok.gl x (by simp))).2 (.inl hy)⟩

set_option maxRecDepth 16000 in
set_option maxHeartbeats 4000000 in
theorem stepEnds_walk (A G K : Option Addr) (n c ng cg nb cb : Nat) (zs g b : List Int) (w : World) (h : TriIn w A G K n c ng nb zs g b) :
    Calls Try.prog 7 #[.agg #[.slice A n c, .slice G ng cg, .slice K nb cb]] w fun e w' => e = .returned (.bool true) ∧ Below w.heap.size w w' := by
  have b1 := (Below.refl _ w).alloc (Nat.le_refl _) (.cells #[.slice A n c, .slice G ng cg, .slice K nb cb] 25)
  have HX := Lib.hid (Box.new w 25 #[.slice A n c, .slice G ng cg, .slice K nb cb])
  have HB1 := Lib.hid b1
  have HT1 := Lib.hid (h.next b1)
  have HZ := Lib.hid h.arena.2.1
  have HT3 := Lib.hid (threes_any (w.alloc (.cells #[.slice A n c, .slice G ng cg, .slice K nb cb] 25)))
  clear b1 h
  go_enter Try.func7, Try.ntmps7
  go_wp2_with fail
  refine HT3.out.mono ?_
  rintro e w2 ⟨rfl, b2⟩
  generalize (w.alloc (.cells #[.slice A n c, .slice G ng cg, .slice K nb cb] 25)) = w1 at *
  have HB2 := Lib.hid (HB1.out.trans (b2.mono HB1.out.size))
  have HX2 := Lib.hid (HX.out.below b2 HX.out.lt)
  have HT2 := Lib.hid (HT1.out.next b2)
  clear b2 HT3 HB1 HX HT1
  have a0 : w2.cell? ⟨w.heap.size, 0, none⟩ = some (.slice A n c) := HX2.out.cell 0
  have a1 : w2.cell? ⟨w.heap.size, 1, none⟩ = some (.slice G ng cg) := HX2.out.cell 1
  have a2 : w2.cell? ⟨w.heap.size, 2, none⟩ = some (.slice K nb cb) := HX2.out.cell 2
  have HS := Lib.hid (stepStep_any A G K n c ng cg nb cb zs g b w2 HT2.out)
  unfold StepP at HS
  go_wp2_with fail
  refine HS.out.mono ?_
  rintro e w3 ⟨A3, n3, c3, G3, g3, cg3, K3, k3, cb3, rfl, b3, hV⟩
  have b4 := (Below.refl _ w3).alloc (Nat.le_refl _) (.cells #[.slice A3 n3 c3, .slice G3 g3 cg3, .slice K3 k3 cb3] 25)
  have HB4 := Lib.hid ((HB2.out.trans (b3.mono HB2.out.size)).trans (b4.mono (by have := HB2.out.size; have := b3.size; omega)))
  have HX4 := Lib.hid ((HX2.out.below b3 HX2.out.lt).below b4 (by have := HX2.out.lt; have := b3.size; omega))
  have HT4 := Lib.hid ((HT2.out.next b3).next b4)
  have HV4 := Lib.hid (hV.next b4)
  have HY4 := Lib.hid (Box.new w3 25 #[.slice A3 n3 c3, .slice G3 g3 cg3, .slice K3 k3 cb3])
  clear a0 a1 a2 b3 b4 hV HS HB2 HX2 HT2
  have a0 : (w3.alloc (.cells #[.slice A3 n3 c3, .slice G3 g3 cg3, .slice K3 k3 cb3] 25)).cell? ⟨w.heap.size, 0, none⟩ = some (.slice A n c) := HX4.out.cell 0
  have a1 : (w3.alloc (.cells #[.slice A3 n3 c3, .slice G3 g3 cg3, .slice K3 k3 cb3] 25)).cell? ⟨w.heap.size, 1, none⟩ = some (.slice G ng cg) := HX4.out.cell 1
  have a2 : (w3.alloc (.cells #[.slice A3 n3 c3, .slice G3 g3 cg3, .slice K3 k3 cb3] 25)).cell? ⟨w.heap.size, 2, none⟩ = some (.slice K nb cb) := HX4.out.cell 2
  by_cases h0 : triE zs g b = 0
  · have H0 := Lib.hid h0
    obtain ⟨g1, b1, hst, hE1, hlen, hsub⟩ := step_sum HZ.out h0
    rw [h0]
    have hv := HV4.out
    unfold TriV at hv
    rw [hst] at hv
    have HVV := Lib.hid (show TriIn (w3.alloc (.cells #[.slice A3 n3 c3, .slice G3 g3 cg3, .slice K3 k3 cb3] 25)) A3 G3 K3 n3 c3 g3 k3 zs g1 b1 from hv)
    have HE1 := Lib.hid hE1
    have HSUB := Lib.hid (inAll_true hsub)
    have hnb : nb ≤ 256 := by
      obtain ⟨q0, q1⟩ := (triE_iff HZ.out).1 h0
      have q2 := sub_length (rises_nodup q1.br) q1.bl
      have q3 := lives_len (arena_len q0)
      have q4 := HT4.out.blk.1
      omega
    have hk3 : k3 = nb + (if stepMore zs g b = true then 1 else 0) := by
      have q1 := HVV.out.blk.1
      have q2 := HT4.out.blk.1
      omega
    have HST := Lib.hid (steps_any A G K n c ng cg nb cb zs g b _ HT4.out h0)
    unfold StepsP at HST
    clear h0 hst hE1 hlen hsub hv HV4
    cases hmo : stepMore zs g b
    · rw [hmo] at hk3
      simp only [Bool.false_eq_true, if_false, Nat.add_zero] at hk3
      have c1 : ((k3 : Int) == (nb : Int)) = true := by rw [hk3]; simp
      have c2 : ((k3 : Int) == (k3 : Int)) = true := by simp
      have HK3 := Lib.hid hk3
      clear hk3
      go_wp2_with fail
      refine HST.out.mono ?_
      rintro e w5 ⟨A5, n5, c5, G5, g5, cg5, K5, k5, cb5, k, bF, rfl, b5, hT5, hS5⟩
      have b6 := (Below.refl _ w5).alloc (Nat.le_refl _) (.cells #[.slice A5 n5 c5, .slice G5 g5 cg5, .slice K5 k5 cb5] 25)
      have HB6 := Lib.hid ((HB4.out.trans (b5.mono HB4.out.size)).trans (b6.mono (by have := HB4.out.size; have := b5.size; omega)))
      have HX6 := Lib.hid ((HX4.out.below b5 HX4.out.lt).below b6 (by have := HX4.out.lt; have := b5.size; omega))
      have HY6 := Lib.hid ((HY4.out.below b5 HY4.out.lt).below b6 (by have := HY4.out.lt; have := b5.size; omega))
      have HT6 := Lib.hid ((HT4.out.next b5).next b6)
      have HV6 := Lib.hid ((HVV.out.next b5).next b6)
      have HS5 := Lib.hid hS5
      clear a0 a1 a2 b5 b6 hT5 hS5 HST HB4 HX4 HY4 HT4 HVV
      have a0 : (w5.alloc (.cells #[.slice A5 n5 c5, .slice G5 g5 cg5, .slice K5 k5 cb5] 25)).cell? ⟨w.heap.size, 0, none⟩ = some (.slice A n c) := HX6.out.cell 0
      have a2 : (w5.alloc (.cells #[.slice A5 n5 c5, .slice G5 g5 cg5, .slice K5 k5 cb5] 25)).cell? ⟨w.heap.size, 2, none⟩ = some (.slice K nb cb) := HX6.out.cell 2
      have y2 : (w5.alloc (.cells #[.slice A5 n5 c5, .slice G5 g5 cg5, .slice K5 k5 cb5] 25)).cell? ⟨w3.heap.size, 2, none⟩ = some (.slice K3 k3 cb3) := HY6.out.cell 2
      have HW := Lib.hid (keepWithin_any K K3 nb cb k3 cb3 b b1 _ HT6.out.hb HV6.out.hb HT6.out.blk HV6.out.blk)
      rw [HSUB.out] at HW
      go_wp2_with fail
      refine HW.out.mono ?_
      rintro e w7 ⟨rfl, b7⟩
      clear a0 a2 y2 HW
      generalize (w5.alloc (.cells #[.slice A5 n5 c5, .slice G5 g5 cg5, .slice K5 k5 cb5] 25)) = w6 at *
      have HB7 := Lib.hid (HB6.out.trans (b7.mono HB6.out.size))
      have HX7 := Lib.hid (HX6.out.below b7 HX6.out.lt)
      have HY7 := Lib.hid (HY6.out.below b7 HY6.out.lt)
      have HT7 := Lib.hid (HT6.out.next b7)
      have HV7 := Lib.hid (HV6.out.next b7)
      clear b7 HB6 HX6 HY6 HT6 HV6
      have y0 : w7.cell? ⟨w3.heap.size, 0, none⟩ = some (.slice A3 n3 c3) := HY7.out.cell 0
      have y1 : w7.cell? ⟨w3.heap.size, 1, none⟩ = some (.slice G3 g3 cg3) := HY7.out.cell 1
      have y2 : w7.cell? ⟨w3.heap.size, 2, none⟩ = some (.slice K3 k3 cb3) := HY7.out.cell 2
      have HC := Lib.hid (stepCheck_any A3 G3 K3 n3 c3 g3 cg3 k3 cb3 zs g1 b1 w7 HV7.out)
      rw [HE1.out] at HC
      go_wp2_with fail
      refine HC.out.mono ?_
      rintro e w8 ⟨rfl, b8⟩
      have HB8 := Lib.hid (HB7.out.trans (b8.mono HB7.out.size))
      have HX8 := Lib.hid (HX7.out.below b8 HX7.out.lt)
      have HT8 := Lib.hid (HT7.out.next b8)
      clear b8 HB7 HX7 HY7 HT7 HV7 y0 y1 y2 HC
      have a0 : w8.cell? ⟨w.heap.size, 0, none⟩ = some (.slice A n c) := HX8.out.cell 0
      have HG := Lib.hid (keepBegins_any A n c zs w8 HT8.out.hn HT8.out.arena (arErr_zero ((triE_iff HZ.out).1 H0.out).1).1)
      have HKL : Hid (((k : Int) ≤ ((livesI zs).length : Int)) = True) := by
        have q1 := tri_len HS5.out.ok
        have q2 := HS5.out.len
        exact eq_true (by omega)
      go_wp2_with fail
      refine HG.out.mono ?_
      rintro e w9 ⟨A9, c9, rfl, b9, _⟩
      have HB9 := Lib.hid (HB8.out.trans (b9.mono HB8.out.size))
      have hkl := HKL.out
      obtain ⟨ln, hln⟩ : ∃ ln, (livesI zs).length = ln := ⟨_, rfl⟩
      rw [hln] at hkl ⊢
      clear b9 HG HB8 HX8 HT8 a0 hln HKL
      go_wp2
      go_ret
      exact ⟨rfl, HB9.out⟩
    · rw [hmo] at hk3
      simp only [if_true] at hk3
      have c1 : IntKind.i64.wrap ((nb : Int) + 1) = (k3 : Int) := by rw [hk3, IntWalk.i64_in _ (by omega)]; omega
      have c2 : ((k3 : Int) == (k3 : Int)) = true := by simp
      have HK3 := Lib.hid hk3
      clear hk3
      go_wp2_with fail
      refine HST.out.mono ?_
      rintro e w5 ⟨A5, n5, c5, G5, g5, cg5, K5, k5, cb5, k, bF, rfl, b5, hT5, hS5⟩
      have b6 := (Below.refl _ w5).alloc (Nat.le_refl _) (.cells #[.slice A5 n5 c5, .slice G5 g5 cg5, .slice K5 k5 cb5] 25)
      have HB6 := Lib.hid ((HB4.out.trans (b5.mono HB4.out.size)).trans (b6.mono (by have := HB4.out.size; have := b5.size; omega)))
      have HX6 := Lib.hid ((HX4.out.below b5 HX4.out.lt).below b6 (by have := HX4.out.lt; have := b5.size; omega))
      have HY6 := Lib.hid ((HY4.out.below b5 HY4.out.lt).below b6 (by have := HY4.out.lt; have := b5.size; omega))
      have HT6 := Lib.hid ((HT4.out.next b5).next b6)
      have HV6 := Lib.hid ((HVV.out.next b5).next b6)
      have HS5 := Lib.hid hS5
      clear a0 a1 a2 b5 b6 hT5 hS5 HST HB4 HX4 HY4 HT4 HVV
      have a0 : (w5.alloc (.cells #[.slice A5 n5 c5, .slice G5 g5 cg5, .slice K5 k5 cb5] 25)).cell? ⟨w.heap.size, 0, none⟩ = some (.slice A n c) := HX6.out.cell 0
      have a2 : (w5.alloc (.cells #[.slice A5 n5 c5, .slice G5 g5 cg5, .slice K5 k5 cb5] 25)).cell? ⟨w.heap.size, 2, none⟩ = some (.slice K nb cb) := HX6.out.cell 2
      have y2 : (w5.alloc (.cells #[.slice A5 n5 c5, .slice G5 g5 cg5, .slice K5 k5 cb5] 25)).cell? ⟨w3.heap.size, 2, none⟩ = some (.slice K3 k3 cb3) := HY6.out.cell 2
      have HW := Lib.hid (keepWithin_any K K3 nb cb k3 cb3 b b1 _ HT6.out.hb HV6.out.hb HT6.out.blk HV6.out.blk)
      rw [HSUB.out] at HW
      go_wp2_with fail
      refine HW.out.mono ?_
      rintro e w7 ⟨rfl, b7⟩
      clear a0 a2 y2 HW
      generalize (w5.alloc (.cells #[.slice A5 n5 c5, .slice G5 g5 cg5, .slice K5 k5 cb5] 25)) = w6 at *
      have HB7 := Lib.hid (HB6.out.trans (b7.mono HB6.out.size))
      have HX7 := Lib.hid (HX6.out.below b7 HX6.out.lt)
      have HY7 := Lib.hid (HY6.out.below b7 HY6.out.lt)
      have HT7 := Lib.hid (HT6.out.next b7)
      have HV7 := Lib.hid (HV6.out.next b7)
      clear b7 HB6 HX6 HY6 HT6 HV6
      have y0 : w7.cell? ⟨w3.heap.size, 0, none⟩ = some (.slice A3 n3 c3) := HY7.out.cell 0
      have y1 : w7.cell? ⟨w3.heap.size, 1, none⟩ = some (.slice G3 g3 cg3) := HY7.out.cell 1
      have y2 : w7.cell? ⟨w3.heap.size, 2, none⟩ = some (.slice K3 k3 cb3) := HY7.out.cell 2
      have HC := Lib.hid (stepCheck_any A3 G3 K3 n3 c3 g3 cg3 k3 cb3 zs g1 b1 w7 HV7.out)
      rw [HE1.out] at HC
      go_wp2_with fail
      refine HC.out.mono ?_
      rintro e w8 ⟨rfl, b8⟩
      have HB8 := Lib.hid (HB7.out.trans (b8.mono HB7.out.size))
      have HX8 := Lib.hid (HX7.out.below b8 HX7.out.lt)
      have HT8 := Lib.hid (HT7.out.next b8)
      clear b8 HB7 HX7 HY7 HT7 HV7 y0 y1 y2 HC
      have a0 : w8.cell? ⟨w.heap.size, 0, none⟩ = some (.slice A n c) := HX8.out.cell 0
      have HG := Lib.hid (keepBegins_any A n c zs w8 HT8.out.hn HT8.out.arena (arErr_zero ((triE_iff HZ.out).1 H0.out).1).1)
      have HKL : Hid (((k : Int) ≤ ((livesI zs).length : Int)) = True) := by
        have q1 := tri_len HS5.out.ok
        have q2 := HS5.out.len
        exact eq_true (by omega)
      go_wp2_with fail
      refine HG.out.mono ?_
      rintro e w9 ⟨A9, c9, rfl, b9, _⟩
      have HB9 := Lib.hid (HB8.out.trans (b9.mono HB8.out.size))
      have hkl := HKL.out
      obtain ⟨ln, hln⟩ : ∃ ln, (livesI zs).length = ln := ⟨_, rfl⟩
      rw [hln] at hkl ⊢
      clear b9 HG HB8 HX8 HT8 a0 hln HKL
      go_wp2
      go_ret
      exact ⟨rfl, HB9.out⟩
  · have hv := HV4.out
    unfold TriV at hv
    rw [stepT_bad h0] at hv
    have hk3 : k3 = 0 := by have := hv.blk.1; simpa using this.symm
    subst hk3
    rw [stepMore_bad h0]
    have hb : (triE zs g b != 0) = true := by simpa using h0
    have y2 : (w3.alloc (.cells #[.slice A3 n3 c3, .slice G3 g3 cg3, .slice K3 0 cb3] 25)).cell? ⟨w3.heap.size, 2, none⟩ = some (.slice K3 0 cb3) := HY4.out.cell 2
    clear hv h0 HV4
    generalize triE zs g b = E at *
    go_wp2
    go_ret
    exact ⟨rfl, HB4.out⟩
end Go.Proofs.Ytknbbondofijeaa
