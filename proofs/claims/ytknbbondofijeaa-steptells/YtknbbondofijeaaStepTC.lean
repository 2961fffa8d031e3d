/-
  The walk of StepTells where an object is grey.
-/
import Derived.Test.YtknbbondofijeaaStepTM
namespace Go.Proofs.Ytknbbondofijeaa
open Go.RowKit

set_option maxRecDepth 32000 in
set_option maxHeartbeats 8000000 in
theorem stepTells_cons (A G K : Option Addr) (n c ng cg nb cb : Nat) (zs g b : List Int) (a r z : Int) (w : World) (wa : (Lit.int .i64 a).wf = true) (wz : (Lit.int .i64 z).wf = true) (hgc : ng ≤ cg) (h : TriIn w A G K n c ng nb zs g b) (hcond : triE zs g b = 0 ∧ g ≠ []) :
    Calls Try.prog 4 #[.agg #[.slice A n c, .slice G ng cg, .slice K nb cb], .int .i64 a, .int .i64 r, .int .i64 z] w fun e w' => e = .returned (.bool true) ∧ Below w.heap.size w w' := by
  have b1 := (Below.refl _ w).alloc (Nat.le_refl _) (.cells #[.slice A n c, .slice G ng cg, .slice K nb cb] 25)
  have HX1 := Lib.hid (Box.new w 25 #[.slice A n c, .slice G ng cg, .slice K nb cb])
  have HB1 := Lib.hid b1
  have HT1 := Lib.hid (h.next b1)
  have HZ := Lib.hid h.arena.2.1
  have WA := Lib.hid wa
  have WZ := Lib.hid wz
  have HGC := Lib.hid hgc
  have HCN := Lib.hid hcond
  clear b1 h wa wz hgc hcond
  go_enter Try.func4, Try.ntmps4
  go_wp2_with fail
  generalize (w.alloc (.cells #[.slice A n c, .slice G ng cg, .slice K nb cb] 25)) = w1 at *
  have a0 : w1.cell? ⟨w.heap.size, 0, none⟩ = some (.slice A n c) := HX1.out.cell 0
  have a1 : w1.cell? ⟨w.heap.size, 1, none⟩ = some (.slice G ng cg) := HX1.out.cell 1
  have a2 : w1.cell? ⟨w.heap.size, 2, none⟩ = some (.slice K nb cb) := HX1.out.cell 2
  have HS := Lib.hid (stepStep_any A G K n c ng cg nb cb zs g b w1 HT1.out)
  unfold StepP at HS
  go_wp2_with fail
  refine HS.out.mono ?_
  rintro e w2 ⟨A3, n3, c3, G3, g3, cg3, K3, k3, cb3, rfl, b2, hV⟩
  have b3 := (Below.refl _ w2).alloc (Nat.le_refl _) (.cells #[.slice A3 n3 c3, .slice G3 g3 cg3, .slice K3 k3 cb3] 25)
  have HB3 := Lib.hid ((HB1.out.trans (b2.mono HB1.out.size)).trans (b3.mono (by have := HB1.out.size; have := b2.size; omega)))
  have HX3 := Lib.hid ((HX1.out.below b2 HX1.out.lt).below b3 (by have := HX1.out.lt; have := b2.size; omega))
  have HT3 := Lib.hid ((HT1.out.next b2).next b3)
  have HP3 := Lib.hid (Box.new w2 25 #[.slice A3 n3 c3, .slice G3 g3 cg3, .slice K3 k3 cb3])
  have HV3 := Lib.hid (hV.next b3)
  clear a0 a1 a2 b2 b3 hV HS HB1 HX1 HT1
  have a0 : (w2.alloc (.cells #[.slice A3 n3 c3, .slice G3 g3 cg3, .slice K3 k3 cb3] 25)).cell? ⟨w.heap.size, 0, none⟩ = some (.slice A n c) := HX3.out.cell 0
  have a1 : (w2.alloc (.cells #[.slice A3 n3 c3, .slice G3 g3 cg3, .slice K3 k3 cb3] 25)).cell? ⟨w.heap.size, 1, none⟩ = some (.slice G ng cg) := HX3.out.cell 1
  have a2 : (w2.alloc (.cells #[.slice A3 n3 c3, .slice G3 g3 cg3, .slice K3 k3 cb3] 25)).cell? ⟨w.heap.size, 2, none⟩ = some (.slice K nb cb) := HX3.out.cell 2
  have HS := Lib.hid (stepWrite_any A G K n c ng cg nb cb zs g b a r z (w2.alloc (.cells #[.slice A3 n3 c3, .slice G3 g3 cg3, .slice K3 k3 cb3] 25)) WA.out WZ.out HT3.out)
  unfold WriteP at HS
  go_wp2_with fail
  refine HS.out.mono ?_
  rintro e w4 ⟨A5, n5, c5, G5, g5, cg5, K5, k5, cb5, rfl, b4, hV⟩
  clear a0 a1 a2
  generalize (w2.alloc (.cells #[.slice A3 n3 c3, .slice G3 g3 cg3, .slice K3 k3 cb3] 25)) = w3 at *
  have b5 := (Below.refl _ w4).alloc (Nat.le_refl _) (.cells #[.slice A5 n5 c5, .slice G5 g5 cg5, .slice K5 k5 cb5] 25)
  have HB5 := Lib.hid ((HB3.out.trans (b4.mono HB3.out.size)).trans (b5.mono (by have := HB3.out.size; have := b4.size; omega)))
  have HX5 := Lib.hid ((HX3.out.below b4 HX3.out.lt).below b5 (by have := HX3.out.lt; have := b4.size; omega))
  have HP5 := Lib.hid ((HP3.out.below b4 HP3.out.lt).below b5 (by have := HP3.out.lt; have := b4.size; omega))
  have HT5 := Lib.hid ((HT3.out.next b4).next b5)
  have HV5 := Lib.hid ((HV3.out.next b4).next b5)
  have HQ5 := Lib.hid (Box.new w4 25 #[.slice A5 n5 c5, .slice G5 g5 cg5, .slice K5 k5 cb5])
  have HU5 := Lib.hid (hV.next b5)
  clear b4 b5 hV HS HB3 HX3 HP3 HT3 HV3
  have a0 : (w4.alloc (.cells #[.slice A5 n5 c5, .slice G5 g5 cg5, .slice K5 k5 cb5] 25)).cell? ⟨w.heap.size, 0, none⟩ = some (.slice A n c) := HX5.out.cell 0
  have a1 : (w4.alloc (.cells #[.slice A5 n5 c5, .slice G5 g5 cg5, .slice K5 k5 cb5] 25)).cell? ⟨w.heap.size, 1, none⟩ = some (.slice G ng cg) := HX5.out.cell 1
  have a2 : (w4.alloc (.cells #[.slice A5 n5 c5, .slice G5 g5 cg5, .slice K5 k5 cb5] 25)).cell? ⟨w.heap.size, 2, none⟩ = some (.slice K nb cb) := HX5.out.cell 2
  have HS := Lib.hid (stepDone_any A G K n c ng cg nb cb zs g b (w4.alloc (.cells #[.slice A5 n5 c5, .slice G5 g5 cg5, .slice K5 k5 cb5] 25)) HT5.out)
  unfold DoneP at HS
  go_wp2_with fail
  refine HS.out.mono ?_
  rintro e w6 ⟨L, lm, lc, rfl, b6, hlm, hL⟩
  clear a0 a1 a2
  generalize (w4.alloc (.cells #[.slice A5 n5 c5, .slice G5 g5 cg5, .slice K5 k5 cb5] 25)) = w5 at *
  have b7 := (Below.refl _ w6).alloc (Nat.le_refl _) (.cells #[.slice none 0 0, .slice none 0 0, .slice none 0 0] 25)
  have HB7 := Lib.hid ((HB5.out.trans (b6.mono HB5.out.size)).trans (b7.mono (by have := HB5.out.size; have := b6.size; omega)))
  have HI := Lib.hid (show TtI w w2.heap.size w4.heap.size w6.heap.size A G K n c ng cg nb cb zs g b A3 G3 K3 n3 c3 g3 cg3 k3 cb3 (stepT zs g b) A5 G5 K5 n5 c5 g5 cg5 k5 cb5 (writeT zs g b a r z) L lm (doneL zs g b) (w6.alloc (.cells #[.slice none 0 0, .slice none 0 0, .slice none 0 0] 25)) from
    ⟨HB7.out, (HX5.out.below b6 HX5.out.lt).below b7 (by have := HX5.out.lt; have := b6.size; omega), (HP5.out.below b6 HP5.out.lt).below b7 (by have := HP5.out.lt; have := b6.size; omega), (HQ5.out.below b6 HQ5.out.lt).below b7 (by have := HQ5.out.lt; have := b6.size; omega), Box.new w6 25 #[.slice none 0 0, .slice none 0 0, .slice none 0 0], (HT5.out.next b6).next b7, (HV5.out.next b6).next b7, (HU5.out.next b6).next b7, hL.later b7, hlm⟩)
  clear b6 b7 hlm hL HS HB5 HX5 HP5 HT5 HV5 HQ5 HU5 HB7
  obtain ⟨a0, a1, a2⟩ := HI.out.acells
  have HF := Lib.hid (triFault_any A G K n c ng cg nb cb zs g b (w6.alloc (.cells #[.slice none 0 0, .slice none 0 0, .slice none 0 0] 25)) HI.out.tri)
  go_wp2_with fail
  refine HF.out.mono ?_
  rintro e w8 ⟨rfl, b8⟩
  clear a0 a1 a2
  generalize (w6.alloc (.cells #[.slice none 0 0, .slice none 0 0, .slice none 0 0] 25)) = w7 at *
  have HI := Lib.hid (HI.out.next b8)
  clear b8 HF
  generalize w2.heap.size = gX at *
  generalize w4.heap.size = gY at *
  generalize w6.heap.size = gN at *
  obtain ⟨h0, hgn⟩ := HCN.out
  obtain ⟨t, g', hg⟩ : ∃ (t : Nat) (g' : List Int), g = (t : Int) :: g' := by
    cases g with
    | nil => exact absurd rfl hgn
    | cons x g' => exact ⟨x.toNat, g', by rw [Int.toNat_of_nonneg (lives_pos x (((triE_iff HZ.out).1 h0).2.gl x (by simp)))]⟩
  have H0 := Lib.hid h0
  have HOK := Lib.hid ((triE_iff HZ.out).1 h0)
  have hst : stepT zs g b = (zs, stepG (nxOf zs) (t : Int) g' b, stepB (t : Int) b) := by rw [hg] at h0 ⊢; exact stepT_cons h0
  have hE1 : stepMore zs g b = true := by rw [hg] at h0 ⊢; exact stepMore_cons h0
  have hE3 := doneE_grey h0 hgn
  have HX := Lib.hid (show TriIn w8 A3 G3 K3 n3 c3 g3 k3 zs (stepG (nxOf zs) (t : Int) g' b) (stepB (t : Int) b) by have := HI.out.xv; rwa [hst] at this)
  have hnb : nb ≤ 256 := by
    have q2 := sub_length (rises_nodup HOK.out.2.br) HOK.out.2.bl
    have q3 := lives_len (arena_len HOK.out.1)
    have q4 := HI.out.tri.blk.1
    omega
  have hng : ng ≤ 256 := by
    have q2 := sub_length (rises_nodup HOK.out.2.gr) HOK.out.2.gl
    have q3 := lives_len (arena_len HOK.out.1)
    have q4 := HI.out.tri.grey.1
    omega
  have hgl := HI.out.tri.grey.1
  obtain ⟨m1, hm1⟩ : ∃ m1, ng = m1 + 1 := ⟨g'.length, by rw [← hgl, hg]; rfl⟩
  have hge : ((ng : Int) == 0) = false := by rw [beq_eq_false_iff_ne]; omega
  have hl0 : 0 = lm := by have := HI.out.dl.1; rw [doneL_bad (by rw [hE3]; decide)] at this; simpa using this
  subst hl0
  have hn3 : n = n3 := by have := HX.out.arena.1; have := HI.out.tri.arena.1; omega
  subst hn3
  rw [hE1, hE3, h0]
  have HG0 := Lib.hid hg
  have HTL := Lib.hid (HOK.out.2.gl (t : Int) (by rw [hg]; simp))
  clear h0 HCN hgn hst hE1 hE3
  obtain ⟨a0, a1, a2⟩ := HI.out.acells
  obtain ⟨D, hD, hD2⟩ := run_from (P := Try.prog) Try.underlying23 (by kernel_rfl) G ng cg 1 1 rfl (by omega) HGC.out
  have hcut : Arr .i64 w8 w8.heap.size D m1 g' := by
    have := HI.out.tri.grey.cut (D := D) (p := 1) (q := m1) (by omega) (fun b off hA hq => hD2 b off hA (by omega))
    rw [hg] at this
    simp only [List.drop_succ_cons, List.drop_zero] at this
    rwa [List.take_of_length_le (by have := hgl; rw [hg] at this; simp at this; omega)] at this
  rw [show ng - 1 = m1 by omega] at hD
  obtain ⟨bg, og, hGa, hbg, hgcs⟩ := HI.out.tri.grey.2.2 (by omega)
  have hg0 := hgcs 0 (by omega)
  rw [hg, show nth ((t : Int) :: g') 0 = t from rfl, Nat.add_zero] at hg0
  have HG0C := Lib.hid hg0
  have HBG := Lib.hid hbg
  obtain ⟨c1, hc1⟩ : ∃ c1, cg - 1 = c1 := ⟨_, rfl⟩
  rw [hc1] at hD
  have HCL := Lib.hid (cloneI_any D m1 c1 g' w8 (by omega) hcut)
  unfold ClonedI at HCL
  have HGA := Lib.hid hGa
  have HM1 := Lib.hid hm1
  clear hD2 hcut hgcs hg0 hg hgl hc1 hbg hGa hm1
  go_wp2_with fail
  refine HCL.out.mono ?_
  rintro e w9 ⟨CA, cca, rfl, hCA, b9⟩
  have HI8 := Lib.hid HI.out
  have HX8 := Lib.hid HX.out
  have HB9 := Lib.hid b9
  clear HI HX
  have HI := Lib.hid (HI8.out.next b9)
  have HX := Lib.hid (HX8.out.next b9)
  have HCA := Lib.hid hCA
  have HG9 : Hid (w9.cell? ⟨bg, og, none⟩ = some (.int .i64 t)) := (b9.cell (p := ⟨bg, og, none⟩) HBG.out).trans HG0C.out
  have HBG9 : Hid (bg < w9.heap.size) := Nat.lt_of_lt_of_le HBG.out b9.size
  obtain rfl := HGA.out
  clear b9 hCA HCL a0 a1 a2 hD
  obtain ⟨a0, a1, a2⟩ := HI.out.acells
  have a3 := HG9.out
  have hngp : 0 < ng := by have := HM1.out; omega
  go_wp2_with fail
  go_cut [22] (fun s wx => Hid (∃ A22 c22, s = .slice A22 (stepB (t : Int) b).length c22 ∧ Below w9.heap.size w9 wx ∧ Arr .i64 wx wx.heap.size A22 (stepB (t : Int) b).length (stepB (t : Int) b) ∧ High w9.heap.size A22 (stepB (t : Int) b).length))
  case first => as_aux_lemma =>
    have HCK := Lib.hid (fun wx (hb : Below w9.heap.size w9 wx) => cloneI_any K nb cb b wx hnb (HI.out.tri.blk.later hb))
    unfold ClonedI at HCK
    have hbl := HI.out.tri.blk.1
    have hll : (b ++ [(t : Int)]).length = nb + 1 := by rw [List.length_append, hbl]; rfl
    have htw : (Lit.int .i64 (t : Int)).wf = true := wf_i64.2 (by have := lives_fit HOK.out.1 _ HTL.out; omega)
    have HAL := Lib.hid HI.out.arg.lt
    go_region_held3 (fun w' => w'.cell? ⟨w.heap.size, 1, none⟩ = some (.slice (some ⟨bg, og, none⟩) ng cg) ∧ w'.cell? ⟨w.heap.size, 2, none⟩ = some (.slice K nb cb) ∧ w'.cell? ⟨bg, og, none⟩ = some (.int .i64 t))
      (first
        | go_keep
        | exact ⟨s1, s2, s3⟩
        | exact ⟨r1, r2, r3⟩
        )
      (first
        | (refine step_append_run rfl (.tmp 133) (.tmp 138) 23 rfl rfl rfl HRN.out ?_)
        | (go_at_call 16; refine (risingH_any DA (nb + 1) dc (b ++ [(t : Int)]) wd (by unfold maxLen; omega) hDA).mono ?_; rintro e wz ⟨A7, q7, rfl, b7, hA7, hH7⟩; have hbz : Below w9.heap.size w9 wz := hbd.trans (b7.mono hbd.size); have s1 := (hbz.cell (p := ⟨w.heap.size, 1, none⟩) HAL.out).trans a1; have s2 := (hbz.cell (p := ⟨w.heap.size, 2, none⟩) HAL.out).trans a2; have s3 := (hbz.cell (p := ⟨bg, og, none⟩) HBG9.out).trans a3)
        | (go_at_call 23; refine (HCK.out w9.drew (Below.refl _ _).drew).mono ?_; rintro e wk ⟨CB, cB, rfl, hOB, bB⟩; have hbk : Below w9.heap.size w9 wk := below_of_drew bB; obtain ⟨v', wd, hrun, hO', hB'⟩ := hOB.push (P := Try.prog) (t := 23) (ty := 23) Try.underlying23 intI_info (by omega) (x := (t : Int)) htw (by omega) bB.size; obtain ⟨DA, dc, rfl, _, hDA⟩ := hO'.arr; rw [hll] at hDA hrun; have HRN := Lib.hid hrun; have hbd : Below w9.heap.size w9 wd := hbk.trans hB'; clear hrun; have s1 := (hbd.cell (p := ⟨w.heap.size, 1, none⟩) HAL.out).trans a1; have s2 := (hbd.cell (p := ⟨w.heap.size, 2, none⟩) HAL.out).trans a2; have s3 := (hbd.cell (p := ⟨bg, og, none⟩) HBG9.out).trans a3; have r1 := (hbk.cell (p := ⟨w.heap.size, 1, none⟩) HAL.out).trans a1; have r2 := (hbk.cell (p := ⟨w.heap.size, 2, none⟩) HAL.out).trans a2; have r3 := (hbk.cell (p := ⟨bg, og, none⟩) HBG9.out).trans a3)
        | (go_at_call 23; refine (HCK.out (w9.alloc (.cells #[.int .i64 (t : Int)] 3)).drew ((Below.refl _ _).alloc (Nat.le_refl _) _).drew).mono ?_; rintro e wk ⟨CB, cB, rfl, hOB, bB⟩; have bB2 : Below (w9.alloc (.cells #[.int .i64 (t : Int)] 3)).heap.size (w9.alloc (.cells #[.int .i64 (t : Int)] 3)) wk := below_of_drew bB; have hbk : Below w9.heap.size w9 wk := ((Below.refl _ w9).alloc (Nat.le_refl _) _).trans (bB2.mono (by simp)); have hWT : Whole .i64 3 wk w9.heap.size [(t : Int)] := (whole_new .i64 3 w9 [(t : Int)] (fun q hq => by rw [List.mem_singleton.1 hq]; exact htw)).below bB2 (by simp); obtain ⟨v', wd, hrun, hO', hB'⟩ := hOB.cat (P := Try.prog) (t := 23) (ty := 23) (c := 1) Try.underlying23 intI_info (by omega) (hWT.arr (B := wk.heap.size) hWT.lt) (by simp; omega) bB2.size; obtain ⟨DA, dc, rfl, _, hDA⟩ := hO'.arr; rw [hll] at hDA hrun; have HRN := Lib.hid hrun; have hbd : Below w9.heap.size w9 wd := hbk.trans (hB'.mono (by show w9.heap.size ≤ (w9.alloc _).heap.size; simp)); clear hrun; have s1 := (hbd.cell (p := ⟨w.heap.size, 1, none⟩) HAL.out).trans a1; have s2 := (hbd.cell (p := ⟨w.heap.size, 2, none⟩) HAL.out).trans a2; have s3 := (hbd.cell (p := ⟨bg, og, none⟩) HBG9.out).trans a3; have r1 := (hbk.cell (p := ⟨w.heap.size, 1, none⟩) HAL.out).trans a1; have r2 := (hbk.cell (p := ⟨w.heap.size, 2, none⟩) HAL.out).trans a2; have r3 := (hbk.cell (p := ⟨bg, og, none⟩) HBG9.out).trans a3))
    · go_wp2_with fail
      go_meet
      exact ⟨_, _, rfl, hbz, hA7, hH7.less hbd.size⟩
    · go_wp2_with fail
      go_meet
      exact ⟨_, _, rfl, hbz, hA7, hH7.less hbd.size⟩
  case rest => as_aux_lemma =>
    obtain ⟨A22, c22, rfl, hcz⟩ := hcut.out
    have HCZ := Lib.hid hcz
    clear hcut hcz
    generalize wc = w10 at *
    have hbz := HCZ.out.1
    have HIz := Lib.hid (HI.out.next hbz)
    have HXz := Lib.hid (HX.out.next hbz)
    have HA22 := Lib.hid HCZ.out.2.1
    have HOF2 := Lib.hid (Off.of_high HCZ.out.2.2 HCA.out.rowLt)
    have HCR := Lib.hid (fun b e => Nat.lt_of_lt_of_le (HCA.out.rowLt b e) hbz.size)
    have HCZ2 := Lib.hid (HCA.out.below hbz)
    have HGZ : Hid (w10.cell? ⟨bg, og, none⟩ = some (.int .i64 t)) := (hbz.cell (p := ⟨bg, og, none⟩) HBG9.out).trans HG9.out
    have HBGZ : Hid (bg < w10.heap.size) := Nat.lt_of_lt_of_le HBG9.out hbz.size
    have HW8 : Hid (w8.heap.size ≤ w10.heap.size) := Nat.le_trans HB9.out.size hbz.size
    have HB10 := Lib.hid (HB9.out.trans (hbz.mono HB9.out.size))
    clear a0 a1 a2 a3 HCZ HI HX HCA HG9 HBG9 hbz
    have HI := Lib.hid HIz.out
    have HX := Lib.hid HXz.out
    clear HIz HXz
    obtain ⟨a0, a1, a2⟩ := HI.out.acells
    have a3 := HGZ.out
    have HNM := Lib.hid (namedAt_any A n c t zs w10.drew (HI.out.tri.arena.drewN 1) HOK.out.1 HTL.out)
    have HAL := Lib.hid HI.out.arg.lt
    obtain ⟨nm1, hnm1⟩ : ∃ q, (named zs t).length = q := ⟨_, rfl⟩
    have HNM1 := Lib.hid hnm1
    rw [hnm1] at HNM
    have hnm256 : nm1 ≤ 256 := by rw [← hnm1]; exact Nat.le_trans named_len (arena_len HOK.out.1)
    clear hnm1
    go_wp2_with fail
    go_region_held3 (fun w' => w'.cell? ⟨w.heap.size, 0, none⟩ = some (.slice A n c) ∧ w'.cell? ⟨w.heap.size, 1, none⟩ = some (.slice (some ⟨bg, og, none⟩) ng cg) ∧ w'.cell? ⟨bg, og, none⟩ = some (.int .i64 t))
      (first
        | go_keep
        | exact ⟨s1, s2, s3⟩)
      (first
        | (go_at_call 24; refine HNM.out.mono ?_; rintro e w11 ⟨A11, c11, rfl, b11, hA11, hH11⟩; have b11 : Below w10.heap.size w10 w11 := below_of_drew b11; have s1 := (b11.cell (p := ⟨w.heap.size, 0, none⟩) HAL.out).trans a0; have s2 := (b11.cell (p := ⟨w.heap.size, 1, none⟩) HAL.out).trans a1; have s3 := (b11.cell (p := ⟨bg, og, none⟩) HBGZ.out).trans a3))
    rename_i hHeld
    have HIz := Lib.hid (HI.out.next b11)
    have HXz := Lib.hid (HX.out.next b11)
    have HA22z := Lib.hid (HA22.out.later b11)
    have HCA := Lib.hid (HCZ2.out.below b11)
    have HA11 := Lib.hid hA11
    have HOF1 := Lib.hid (Off.of_high (show High w10.heap.size A11 nm1 from hH11) HCR.out)
    have HW8z : Hid (w8.heap.size ≤ w11.heap.size) := Nat.le_trans HW8.out b11.size
    have HB11 := Lib.hid (HB10.out.trans (b11.mono HB10.out.size))
    clear hHeld s1 s2 s3 a0 a1 a2 a3 HI HX HA22 HCZ2 HGZ HBGZ HW8 HNM HAL b11 hA11 HB10
    have HI := Lib.hid HIz.out
    have HX := Lib.hid HXz.out
    have HA22 := Lib.hid HA22z.out
    have HW8 := Lib.hid HW8z.out
    clear HIz HXz HA22z HW8z
    have hlg : g'.length = m1 := by
      have h1 := HG0.out
      have h2 := HI.out.tri.grey.1
      rw [h1] at h2
      have h3 := HM1.out
      simp at h2
      omega
    obtain ⟨sbl, hsbl⟩ : ∃ q, (stepB (t : Int) b).length = q := ⟨_, rfl⟩
    have HSBL := Lib.hid hsbl
    have hsb256 : sbl ≤ 256 := by rw [← hsbl]; exact risingTo_len _ _
    rw [hsbl] at HA22 HOF2 ⊢
    clear hsbl
    go_wp2_with fail
    go_loopw [21, 149] (fun v i wr => ∃ j : Nat, j ≤ nm1 ∧ i = .int .i64 j ∧ Hid (Own .i64 3 wr w8.heap.size v (g' ++ ((named zs t).take j).filter fun y => decide (0 ≤ y ∧ y ∉ stepB (t : Int) b))) ∧ Hid (Below w8.heap.size w8 wr) ∧ Hid (Arr .i64 wr wr.heap.size A11 nm1 (named zs t)) ∧ Hid (Arr .i64 wr wr.heap.size A22 sbl (stepB (t : Int) b)) ∧ Hid (Off v.ownBlock A11 nm1) ∧ Hid (Off v.ownBlock A22 sbl)) (fun _ i _ => nm1 - (intOf i).toNat)
    case atStart => exact ⟨0, Nat.zero_le _, rfl, by rw [List.take_zero, List.filter_nil, List.append_nil]; exact HCA.out, HB11.out, HA11.out, HA22.out, HOF1.out, HOF2.out⟩
    case round =>
      obtain ⟨j, hj, rfl, HO, HB, HNj, HSj, HF1, HF2⟩ := hrel
      clear HA11 HA22 HCA HI HX
      by_cases hlt : j < nm1
      · obtain ⟨bb, off, rfl, _, hcs⟩ := HNj.out.2.2 (by omega)
        have hc := hcs j hlt
        have hwf := HNj.out.2.1 _ (nth_mem (l := named zs t) (j := j) (by rw [HNM1.out]; exact hlt))
        have HWF := Lib.hid hwf
        have HIN := Lib.hid (in_ref A22 sbl c22 _ (nth (named zs t) j) (stepB (t : Int) b) wr (by unfold maxLen; omega) HSj.out)
        have hT : (g' ++ ((named zs t).take (j + 1)).filter fun y => decide (0 ≤ y ∧ y ∉ stepB (t : Int) b)) = (g' ++ ((named zs t).take j).filter fun y => decide (0 ≤ y ∧ y ∉ stepB (t : Int) b)) ++ (if decide (0 ≤ nth (named zs t) j ∧ nth (named zs t) j ∉ stepB (t : Int) b) = true then [nth (named zs t) j] else []) := by
          rw [List.take_succ_eq_append_getElem (by rw [HNM1.out]; exact hlt), List.filter_append, ← List.append_assoc, nth_get _ _ (by rw [HNM1.out]; exact hlt)]
          congr 1
          rw [List.filter_cons, List.filter_nil]
        have hfl : (g' ++ ((named zs t).take j).filter fun y => decide (0 ≤ y ∧ y ∉ stepB (t : Int) b)).length ≤ 512 := by
          rw [List.length_append]
          have := List.length_filter_le (fun y => decide (0 ≤ y ∧ y ∉ stepB (t : Int) b)) ((named zs t).take j)
          rw [List.length_take] at this
          have := HM1.out
          omega
        clear hcs hwf
        generalize nth (named zs t) j = X at *
        by_cases hx0 : 0 ≤ X
        · have c1 : (0 ≤ X) = True := eq_true hx0
          have c2 : (X ≥ 0) = True := eq_true hx0
          by_cases hin : X ∈ stepB (t : Int) b
          · rw [show decide (X ∈ stepB (t : Int) b) = true by simpa using hin] at HIN
            rw [if_neg (by rw [decide_eq_true_eq]; exact fun h => h.2 hin), List.append_nil] at hT
            have hO1 := HO.out
            rw [← hT] at hO1
            have HO1 := Lib.hid hO1
            clear hT hO1 hin HO hfl hx0
            go_wp2_with fail
            refine HIN.out.mono ?_
            rintro e wx ⟨rfl, rfl⟩
            go_wp2
            go_roundw
            case rel => exact ⟨j + 1, by omega, by go_num, HO1.out, HB.out, HNj.out, HSj.out, HF1.out, HF2.out⟩
            case measure => simp [intOf]; omega
          · rw [show decide (X ∈ stepB (t : Int) b) = false by simpa using hin] at HIN
            rw [if_pos (by rw [decide_eq_true_eq]; exact ⟨hx0, hin⟩)] at hT
            obtain ⟨v', w12, hrun, hO', hG⟩ := HO.out.pushG (P := Try.prog) (t := 23) (ty := 23) Try.underlying23 intI_info (by omega) (x := X) HWF.out (by omega) HB.out.size
            rw [← hT] at hO'
            have HRN := Lib.hid hrun
            have HO1 := Lib.hid hO'
            have HB1 := Lib.hid (HB.out.trans (hG.below HB.out.size HO.out.row))
            obtain ⟨n1, n2⟩ := HNj.out.grew hG HF1.out (Nat.le_refl _)
            obtain ⟨n3, n4⟩ := HSj.out.grew hG HF2.out (Nat.le_refl _)
            have HN2 := Lib.hid (n1.more hG.size)
            have HS2 := Lib.hid (n3.more hG.size)
            have HF3 := Lib.hid n2
            have HF4 := Lib.hid n4
            clear hT hrun hO' hG hin hfl hx0 n1 n2 n3 n4 HO HB HF1 HF2
            go_wp2_with fail
            refine HIN.out.mono ?_
            rintro e wx ⟨rfl, rfl⟩
            go_wp2_with (at_builtin; refine wpList_append_run rfl (.tmp 161) (.tmp 163) 23 rfl rfl rfl HRN.out ?_)
            go_roundw
            case rel => exact ⟨j + 1, by omega, by go_num, HO1.out, HB1.out, HN2.out, HS2.out, HF3.out, HF4.out⟩
            case measure => simp [intOf]; omega
        · have c1 : (0 ≤ X) = False := eq_false hx0
          have c2 : (X ≥ 0) = False := eq_false hx0
          rw [if_neg (by rw [decide_eq_true_eq]; exact fun h => hx0 h.1), List.append_nil] at hT
          have hO1 := HO.out
          rw [← hT] at hO1
          have HO1 := Lib.hid hO1
          clear hT hO1 HO hfl hx0 HIN
          go_wp2
          go_roundw
          case rel => exact ⟨j + 1, by omega, by go_num, HO1.out, HB.out, HNj.out, HSj.out, HF1.out, HF2.out⟩
          case measure => simp [intOf]; omega
      · obtain rfl : j = nm1 := by omega
        have hO := HO.out
        rw [List.take_of_length_le (by rw [HNM1.out]; exact Nat.le_refl _)] at hO
        obtain ⟨A21, c21, rfl, _, hA21⟩ := hO.arr
        have hl21 : (g' ++ (named zs t).filter fun y => decide (0 ≤ y ∧ y ∉ stepB (t : Int) b)).length ≤ 512 := by
          rw [List.length_append]
          have := List.length_filter_le (fun y => decide (0 ≤ y ∧ y ∉ stepB (t : Int) b)) (named zs t)
          have := HNM1.out
          have := HM1.out
          omega
        have HEQ : Hid (risingTo (g' ++ (named zs t).filter fun y => decide (0 ≤ y ∧ y ∉ stepB (t : Int) b)) 256 = stepG (nxOf zs) (t : Int) g' b) := by
          show _ = _
          unfold stepG nxOf
          rw [Int.toNat_natCast]
        have HI := Lib.hid (HI8.out.next HB.out)
        have HX := Lib.hid (HX8.out.next HB.out)
        have HSQ := Lib.hid HSj.out
        have hg3 := HX.out.grey.1
        have hk3 : sbl = k3 := by have := HX.out.blk.1; have := HSBL.out; omega
        subst hk3
        obtain ⟨Lst, hLst⟩ : ∃ Lst, (g' ++ (named zs t).filter fun y => decide (0 ≤ y ∧ y ∉ stepB (t : Int) b)) = Lst := ⟨_, rfl⟩
        rw [hLst] at hA21 HEQ hl21 ⊢
        obtain ⟨l21, hl⟩ : ∃ l21, Lst.length = l21 := ⟨_, rfl⟩
        rw [hl] at hA21 hl21 ⊢
        have HRI := Lib.hid (rising_any A21 l21 c21 Lst wr.drew (by unfold maxLen; omega) (hA21.drewN 1))
        rw [HEQ.out, hg3] at HRI
        clear hO hA21 HO HB HNj HSj HF1 HF2 hlt hLst hl hg3
        obtain ⟨x0, x1, x2⟩ := HI.out.xcells
        obtain ⟨a0, a1, a2⟩ := HI.out.acells
        go_wp2_with fail
        go_region_held3 (fun w' => w'.cell? ⟨gX, 0, none⟩ = some (.slice A3 n c3) ∧ w'.cell? ⟨gX, 1, none⟩ = some (.slice G3 g3 cg3) ∧ w'.cell? ⟨gX, 2, none⟩ = some (.slice K3 sbl cb3) ∧ w'.cell? ⟨w.heap.size, 0, none⟩ = some (.slice A n c))
          (first
            | go_keep
            | exact ⟨v0, v1, v2, v3⟩
            | exact ⟨u0, u1, u2, u3⟩)
          (first
            | (go_at_call 15; refine (sameTri_any A3 G3 K3 A A7 A22 n c3 g3 cg3 sbl cb3 c q7 c22 zs (stepG (nxOf zs) (t : Int) g' b) (stepB (t : Int) b) w12 vv.arena vv.grey vv.blk tt.arena hA7 ss vv.hn vv.hg vv.hb).mono ?_; rintro e w13 ⟨rfl, b13⟩; have ey := ex.next b13; obtain ⟨v0, v1, v2⟩ := ey.xcells; have v3 := ey.arg.cell 0)
            | (go_at_call 16; refine HRI.out.mono ?_; rintro e w12 ⟨A7, q7, rfl, b12, hA7⟩; have b12 : Below wr.heap.size wr w12 := below_of_drew b12; have ex := HI.out.next b12; have vv := HX.out.next b12; have ss := HSQ.out.later b12; have tt := ex.tri; obtain ⟨u0, u1, u2⟩ := ex.xcells; have u3 := ex.arg.cell 0))
        rename_i hHeld
        have HIq := Lib.hid ey
        clear hHeld v0 v1 v2 v3 u0 u1 u2 u3 ex ey vv ss tt hA7 b12 b13 HI HX HRI x0 x1 x2 a0 a1 a2
        have HI := Lib.hid HIq.out
        clear HIq
        obtain ⟨a0, a1, a2⟩ := HI.out.acells
        have HWR := Lib.hid (written_any A n c zs a r z w13 HI.out.tri.arena HOK.out.1)
        unfold WrittenP at HWR
        go_wp2_with fail
        refine HWR.out.mono ?_
        rintro e wa1 ⟨O, om, oc, rfl, ba1, hom, hO⟩
        have HI := Lib.hid (HI.out.next ba1)
        have HO := Lib.hid hO
        clear ba1 hO HWR a0 a1 a2
        obtain ⟨EW, hEW⟩ : ∃ EW, wrtE zs a r z = EW := ⟨_, rfl⟩
        have HEW := Lib.hid hEW
        have hwe : writeE zs g b a r z = EW := (writeE_wrtE H0.out).trans hEW
        rw [hEW, hwe]
        by_cases hw : EW = 0
        · subst hw
          have HY := Lib.hid (show TriIn wa1 A5 G5 K5 n5 c5 g5 k5 (wrL zs a.toNat r.toNat z) (writeG a z g b) b by have := HI.out.yv; rwa [writeT_ok hwe] at this)
          rw [wrtL_ok HEW.out] at HO
          have hk5 : nb = k5 := by have := HY.out.blk.1; have := HI.out.tri.blk.1; omega
          subst hk5
          have ho5 : n5 = om := by have := HY.out.arena.1; have := HO.out.1; omega
          subst ho5
          clear hwe hEW
          obtain ⟨a0, a1, a2⟩ := HI.out.acells
          have HCL := Lib.hid (cloneI_any (some ⟨bg, og, none⟩) ng cg g wa1 hng HI.out.tri.grey)
          unfold ClonedI at HCL
          go_wp2_with fail
          refine HCL.out.mono ?_
          rintro e wb1 ⟨CA, cc, rfl, hCO, bb1⟩
          have HIa := Lib.hid HI.out
          have HOa := Lib.hid HO.out
          have HYa := Lib.hid HY.out
          have HBB := Lib.hid bb1
          clear HI HO HY
          have HI := Lib.hid (HIa.out.next bb1)
          have HO := Lib.hid (HOa.out.later bb1)
          have HY := Lib.hid (HYa.out.next bb1)
          have HCO := Lib.hid hCO
          have HWB := Lib.hid bb1.size
          clear bb1 hCO HCL a0 a1 a2
          obtain ⟨a0, a1, a2⟩ := HI.out.acells
          have HN1 := Lib.hid (in_ref K nb cb _ a b wb1 HI.out.tri.hb HI.out.tri.blk)
          have HN2 := Lib.hid (in_ref K nb cb _ z b wb1 HI.out.tri.hb HI.out.tri.blk)
          have HGL : Hid (Arr .i64 wb1 wb1.heap.size CA ng g) := by
            obtain ⟨A', c', e1, _, h1⟩ := HCO.out.arr
            injection e1 with v1 v2 _
            show Arr .i64 wb1 wb1.heap.size CA ng g
            rw [v1, v2]; exact h1
          by_cases hz0 : 0 ≤ z
          · have c1 : (0 ≤ z) = True := eq_true hz0
            have c2 : (z ≥ 0) = True := eq_true hz0
            by_cases hab : a ∈ b
            · rw [show decide (a ∈ b) = true by simpa using hab] at HN1
              by_cases hzb : z ∈ b
              · rw [show decide (z ∈ b) = true by simpa using hzb] at HN2
                go_wp2_with fail
                refine HN1.out.mono ?_
                rintro e wx ⟨rfl, rfl⟩
                go_wp2_with fail
                refine HN2.out.mono ?_
                rintro e wx ⟨rfl, rfl⟩
                have HRI := Lib.hid (rising_any CA ng cc g wb1.drew (by unfold maxLen; omega) (HGL.out.drewN 1))
                rw [wrG_no (a := a) (z := z) HOK.out.2 (lives_fit HOK.out.1) (by rintro ⟨q1, q2, q3⟩; exact q3 hzb)] at HRI
                have hg5 := HY.out.grey.1
                rw [hg5] at HRI
                obtain ⟨y0, y1, y2⟩ := HI.out.ycells
                obtain ⟨a0, a1, a2⟩ := HI.out.acells
                go_wp2_with fail
                go_region_held3 (fun w' => w'.cell? ⟨gY, 0, none⟩ = some (.slice A5 n5 c5) ∧ w'.cell? ⟨gY, 1, none⟩ = some (.slice G5 g5 cg5) ∧ w'.cell? ⟨gY, 2, none⟩ = some (.slice K5 nb cb5) ∧ w'.cell? ⟨w.heap.size, 2, none⟩ = some (.slice K nb cb))
                  (first
                    | go_keep
                    | exact ⟨v0, v1, v2, v3⟩
                    | exact ⟨u0, u1, u2, u3⟩)
                  (first
                    | (go_at_call 15; refine (sameTri_any A5 G5 K5 O A7 K n5 c5 g5 cg5 nb cb5 oc q7 cb (wrL zs a.toNat r.toNat z) (writeG a z g b) b w7 vv.arena vv.grey vv.blk oo hA7 tt.blk vv.hn vv.hg vv.hb).mono ?_; rintro e w8 ⟨rfl, b8⟩; have ey := ex.next b8; obtain ⟨v0, v1, v2⟩ := ey.ycells; have v3 := ey.arg.cell 2)
                    | (go_at_call 16; refine HRI.out.mono ?_; rintro e w7 ⟨A7, q7, rfl, b7, hA7⟩; have b7 : Below wb1.heap.size wb1 w7 := below_of_drew b7; have ex := HI.out.next b7; have vv := HY.out.next b7; have oo := HO.out.later b7; have tt := ex.tri; obtain ⟨u0, u1, u2⟩ := ex.ycells; have u3 := ex.arg.cell 2))
                rename_i hHeld
                have HE := Lib.hid ey.below
                clear hHeld v0 v1 v2 v3 u0 u1 u2 u3 ex ey
                go_wp2
                go_ret
                exact ⟨rfl, HE.out⟩
              · rw [show decide (z ∈ b) = false by simpa using hzb] at HN2
                obtain ⟨v', wd1, hrun, hO', hB'⟩ := HCO.out.push (P := Try.prog) (t := 23) (ty := 23) Try.underlying23 intI_info (by omega) (x := z) WZ.out (by have := HI.out.tri.grey.1; omega) HWB.out
                obtain ⟨DA, dc, rfl, _, hDA⟩ := hO'.arr
                have hdl : (g ++ [z]).length = ng + 1 := by rw [List.length_append, HI.out.tri.grey.1]; rfl
                rw [hdl] at hDA hrun
                have HRN := Lib.hid hrun
                have HZB := Lib.hid hzb
                have HAB := Lib.hid hab
                have HZ0 := Lib.hid hz0
                go_wp2_with fail
                refine HN1.out.mono ?_
                rintro e wx ⟨rfl, rfl⟩
                go_wp2_with fail
                refine HN2.out.mono ?_
                rintro e wx ⟨rfl, rfl⟩
                have hBW : Below wa1.heap.size wa1 wd1 := HBB.out.trans hB'
                have HGL := Lib.hid hDA
                have HId := Lib.hid (HIa.out.next hBW)
                have HOd := Lib.hid (HOa.out.later hBW)
                have HYd := Lib.hid (HYa.out.next hBW)
                clear hrun hO' hDA hB' hdl HN1 HN2 a0 a1 a2 HI HO HY HIa HOa HYa HBB hBW
                have HI := Lib.hid HId.out
                have HO := Lib.hid HOd.out
                have HY := Lib.hid HYd.out
                clear HId HOd HYd
                go_wp2_with (at_builtin; refine wpList_append_run rfl (.tmp 229) (.tmp 231) 23 rfl rfl rfl HRN.out ?_)
                have HRI := Lib.hid (rising_any DA (ng + 1) dc (g ++ [z]) wd1.drew (by unfold maxLen; omega) (HGL.out.drewN 1))
                rw [wrG_yes (a := a) HOK.out.2 (lives_fit HOK.out.1) HZ0.out HAB.out HZB.out] at HRI
                have hg5 := HY.out.grey.1
                rw [hg5] at HRI
                obtain ⟨y0, y1, y2⟩ := HI.out.ycells
                obtain ⟨a0, a1, a2⟩ := HI.out.acells
                go_wp2_with fail
                go_region_held3 (fun w' => w'.cell? ⟨gY, 0, none⟩ = some (.slice A5 n5 c5) ∧ w'.cell? ⟨gY, 1, none⟩ = some (.slice G5 g5 cg5) ∧ w'.cell? ⟨gY, 2, none⟩ = some (.slice K5 nb cb5) ∧ w'.cell? ⟨w.heap.size, 2, none⟩ = some (.slice K nb cb))
                  (first
                    | go_keep
                    | exact ⟨v0, v1, v2, v3⟩
                    | exact ⟨u0, u1, u2, u3⟩)
                  (first
                    | (go_at_call 15; refine (sameTri_any A5 G5 K5 O A7 K n5 c5 g5 cg5 nb cb5 oc q7 cb (wrL zs a.toNat r.toNat z) (writeG a z g b) b w7 vv.arena vv.grey vv.blk oo hA7 tt.blk vv.hn vv.hg vv.hb).mono ?_; rintro e w8 ⟨rfl, b8⟩; have ey := ex.next b8; obtain ⟨v0, v1, v2⟩ := ey.ycells; have v3 := ey.arg.cell 2)
                    | (go_at_call 16; refine HRI.out.mono ?_; rintro e w7 ⟨A7, q7, rfl, b7, hA7⟩; have b7 : Below wd1.heap.size wd1 w7 := below_of_drew b7; have ex := HI.out.next b7; have vv := HY.out.next b7; have oo := HO.out.later b7; have tt := ex.tri; obtain ⟨u0, u1, u2⟩ := ex.ycells; have u3 := ex.arg.cell 2))
                rename_i hHeld
                have HE := Lib.hid ey.below
                clear hHeld v0 v1 v2 v3 u0 u1 u2 u3 ex ey
                go_wp2
                go_ret
                exact ⟨rfl, HE.out⟩
            · rw [show decide (a ∈ b) = false by simpa using hab] at HN1
              go_wp2_with fail
              refine HN1.out.mono ?_
              rintro e wx ⟨rfl, rfl⟩
              have HRI := Lib.hid (rising_any CA ng cc g wb1.drew (by unfold maxLen; omega) (HGL.out.drewN 1))
              rw [wrG_no (a := a) (z := z) HOK.out.2 (lives_fit HOK.out.1) (by rintro ⟨q1, q2, q3⟩; exact hab q2)] at HRI
              have hg5 := HY.out.grey.1
              rw [hg5] at HRI
              obtain ⟨y0, y1, y2⟩ := HI.out.ycells
              obtain ⟨a0, a1, a2⟩ := HI.out.acells
              go_wp2_with fail
              go_region_held3 (fun w' => w'.cell? ⟨gY, 0, none⟩ = some (.slice A5 n5 c5) ∧ w'.cell? ⟨gY, 1, none⟩ = some (.slice G5 g5 cg5) ∧ w'.cell? ⟨gY, 2, none⟩ = some (.slice K5 nb cb5) ∧ w'.cell? ⟨w.heap.size, 2, none⟩ = some (.slice K nb cb))
                (first
                  | go_keep
                  | exact ⟨v0, v1, v2, v3⟩
                  | exact ⟨u0, u1, u2, u3⟩)
                (first
                  | (go_at_call 15; refine (sameTri_any A5 G5 K5 O A7 K n5 c5 g5 cg5 nb cb5 oc q7 cb (wrL zs a.toNat r.toNat z) (writeG a z g b) b w7 vv.arena vv.grey vv.blk oo hA7 tt.blk vv.hn vv.hg vv.hb).mono ?_; rintro e w8 ⟨rfl, b8⟩; have ey := ex.next b8; obtain ⟨v0, v1, v2⟩ := ey.ycells; have v3 := ey.arg.cell 2)
                  | (go_at_call 16; refine HRI.out.mono ?_; rintro e w7 ⟨A7, q7, rfl, b7, hA7⟩; have b7 : Below wb1.heap.size wb1 w7 := below_of_drew b7; have ex := HI.out.next b7; have vv := HY.out.next b7; have oo := HO.out.later b7; have tt := ex.tri; obtain ⟨u0, u1, u2⟩ := ex.ycells; have u3 := ex.arg.cell 2))
              rename_i hHeld
              have HE := Lib.hid ey.below
              clear hHeld v0 v1 v2 v3 u0 u1 u2 u3 ex ey
              go_wp2
              go_ret
              exact ⟨rfl, HE.out⟩
          · have c1 : (0 ≤ z) = False := eq_false hz0
            have c2 : (z ≥ 0) = False := eq_false hz0
            have HRI := Lib.hid (rising_any CA ng cc g wb1.drew (by unfold maxLen; omega) (HGL.out.drewN 1))
            rw [wrG_no (a := a) (z := z) HOK.out.2 (lives_fit HOK.out.1) (by rintro ⟨q1, q2, q3⟩; exact hz0 q1)] at HRI
            have hg5 := HY.out.grey.1
            rw [hg5] at HRI
            obtain ⟨y0, y1, y2⟩ := HI.out.ycells
            obtain ⟨a0, a1, a2⟩ := HI.out.acells
            go_wp2_with fail
            go_region_held3 (fun w' => w'.cell? ⟨gY, 0, none⟩ = some (.slice A5 n5 c5) ∧ w'.cell? ⟨gY, 1, none⟩ = some (.slice G5 g5 cg5) ∧ w'.cell? ⟨gY, 2, none⟩ = some (.slice K5 nb cb5) ∧ w'.cell? ⟨w.heap.size, 2, none⟩ = some (.slice K nb cb))
              (first
                | go_keep
                | exact ⟨v0, v1, v2, v3⟩
                | exact ⟨u0, u1, u2, u3⟩)
              (first
                | (go_at_call 15; refine (sameTri_any A5 G5 K5 O A7 K n5 c5 g5 cg5 nb cb5 oc q7 cb (wrL zs a.toNat r.toNat z) (writeG a z g b) b w7 vv.arena vv.grey vv.blk oo hA7 tt.blk vv.hn vv.hg vv.hb).mono ?_; rintro e w8 ⟨rfl, b8⟩; have ey := ex.next b8; obtain ⟨v0, v1, v2⟩ := ey.ycells; have v3 := ey.arg.cell 2)
                | (go_at_call 16; refine HRI.out.mono ?_; rintro e w7 ⟨A7, q7, rfl, b7, hA7⟩; have b7 : Below wb1.heap.size wb1 w7 := below_of_drew b7; have ex := HI.out.next b7; have vv := HY.out.next b7; have oo := HO.out.later b7; have tt := ex.tri; obtain ⟨u0, u1, u2⟩ := ex.ycells; have u3 := ex.arg.cell 2))
            rename_i hHeld
            have HE := Lib.hid ey.below
            clear hHeld v0 v1 v2 v3 u0 u1 u2 u3 ex ey
            go_wp2
            go_ret
            exact ⟨rfl, HE.out⟩
        · have HY := Lib.hid (show TriV wa1 A5 G5 K5 n5 c5 g5 k5 ([], [], []) by have := HI.out.yv; rwa [writeT_bad (by rw [hwe]; exact hw)] at this)
          have hb : (EW != 0) = true := by simpa using hw
          have hbe : (EW == EW) = true := by simp
          clear hwe hEW hw
          obtain ⟨y0, y1, y2⟩ := HI.out.ycells
          obtain ⟨m0, m1, m2⟩ := HI.out.ncells
          have HC := Lib.hid (sameNone_any A5 G5 K5 n5 c5 g5 cg5 k5 cb5 wa1 HY.out)
          go_wp2_with fail
          refine HC.out.mono ?_
          rintro e wb2 ⟨rfl, bwb2⟩
          have HI := Lib.hid (HI.out.next bwb2)
          clear bwb2 HC
          clear y0 y1 y2 m0 m1 m2 HY
          go_wp2
          go_ret
          exact ⟨rfl, HI.out.below⟩
end Go.Proofs.Ytknbbondofijeaa
