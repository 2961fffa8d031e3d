/-
  Parts of the proof of SlideSame: SlideE, SameSW.
-/
import Derived.Test.YtjefbekdjgmmbaaSlideSameAp
import Derived.Test.YtjefbekdjgmmbaaSlideSameAq
import Derived.Test.YtjefbekdjgmmbaaSlideSameAt
namespace Go.Proofs.Ytjefbekdjgmmbaa
open Go.RowKit
/-- The new positions of the first 'i' elements. -/
def nowAt (zs fr ps : List Int) (i : Nat) : List Int := (fr.take i).map (trI zs (keepL zs fr ps) ps) ++ List.replicate (fr.length - i) 0
section
variable {zs fr ps : List Int} {i : Nat}
theorem nowAt_zero : nowAt zs fr ps 0 = List.replicate fr.length 0 := by unfold nowAt; simp
theorem nowAt_all : nowAt zs fr ps fr.length = fr.map (trI zs (keepL zs fr ps) ps) := by unfold nowAt; simp
theorem nowAt_len (h : i ≤ fr.length) : (nowAt zs fr ps i).length = fr.length := by unfold nowAt; simp; omega
theorem nowAt_set (h : i < fr.length) : (nowAt zs fr ps i).set i (trI zs (keepL zs fr ps) ps (nth fr i)) = nowAt zs fr ps (i + 1) := by
  unfold nowAt
  have e1 : ((fr.take i).map (trI zs (keepL zs fr ps) ps)).length = i := by simp; omega
  rw [List.set_append_right _ _ (by omega), e1, Nat.sub_self, show fr.length - i = (fr.length - (i + 1)) + 1 by omega, List.replicate_succ, List.set_cons_zero, List.take_succ_eq_append_getElem h, List.map_append, List.append_assoc, ← nth_get _ _ h]
  rfl
end
theorem cleanI64 : (Try.prog.info? 3).map (fun i => (i.zero, i.size, i.bytes)) = some (some (.int .i64 0), 1, 8) := by kernel_rfl
/-- Of what is reached, only the pinned words' order can be wrong. -/
theorem clean_slide {zs fr ps : List Int} (hz : ∀ z ∈ zs, (Lit.int .u64 z).wf = true) (h0 : fromE zs (fr ++ ps) = 0) : slideE zs (keepL zs fr ps) ps = cleanE zs fr ps := by
  cases hr : riseB ps
  · have hc : cleanE zs fr ps = 3 := by unfold cleanE; rw [if_pos h0, hr]; rfl
    have hp : planE zs (keepL zs fr ps) ps = 3 := planE_form (fromE_zero h0).1 (by rw [hr, Bool.and_false])
    rw [hc, slideE_plan (by rw [hp]; decide), hp]
  · have hc : cleanE zs fr ps = 0 := cleanE_zero.2 ⟨h0, hr⟩
    have ho := clean_ok hz hc
    rw [hc, slideE_ok (planE_zero.2 ho.ok) ho.held]
/-- What holds while the new positions are stored. -/
structure ClI (zs fr ps : List Int) (w3 : World) (g i : Nat) (wr : World) : Prop where
  whole : Whole .i64 3 wr g (nowAt zs fr ps i)
  below : Below g w3 wr
/-- What Clean answers, its memory up to the capacity. -/
def CleanF (zs fr ps : List Int) (w : World) (e : Ending) (w' : World) : Prop := ∃ B m c D q d, e = .returned (.tuple #[.slice B m c, .slice D q d, .int .i64 (cleanE zs fr ps)]) ∧ Below w.heap.size w w' ∧ m ≤ c ∧ Arr .u64 w' w'.heap.size B m (cleanB zs fr ps) ∧ Arr .i64 w' w'.heap.size D q (cleanN zs fr ps) ∧ SpareI .u64 47 w.heap.size w' B c ∧ SpareI .i64 3 w.heap.size w' D d
set_option maxRecDepth 8000 in
set_option maxHeartbeats 4000000 in
theorem cleanF_any (A F P : Option Addr) (n c nf cf np cp : Nat) (zs fr ps : List Int) (w : World) (hn : n ≤ maxLen) (hnc : n ≤ c) (ha : Arr .u64 w w.heap.size A n zs) (hnf : nf * 8 ≤ 140737488351232) (hf : Arr .i64 w w.heap.size F nf fr) (hnp : np * 8 ≤ 140737488351232) (hp : Arr .i64 w w.heap.size P np ps) :
    Calls Try.prog 22 #[.slice A n c, .slice F nf cf, .slice P np cp] w (CleanF zs fr ps w) := by
  have b0 := (Below.refl _ w).alloc (Nat.le_refl _) (.cells #[.slice F nf cf, .slice P np cp] 23)
  have bx := Box.new w 23 #[.slice F nf cf, .slice P np cp]
  have HCT := Lib.hid (concat2 F P nf cf np cp w.heap.size fr ps _ (by omega) bx.lt ((hf.below b0 (Nat.le_refl _)).more b0.size) ((hp.below b0 (Nat.le_refl _)).more b0.size) (bx.cell 0) (bx.cell 1))
  have HB0 := Lib.hid b0
  have HA := Lib.hid ha
  have HF := Lib.hid hf
  have HP := Lib.hid hp
  have HAL := Lib.hid ha.1
  have HFL := Lib.hid hf.1
  have HWF := Lib.hid ha.2.1
  have HN : Hid (n ≤ maxLen ∧ nf * 8 ≤ 140737488351232 ∧ np * 8 ≤ 140737488351232) := ⟨hn, hnf, hnp⟩
  unfold CleanF
  clear ha hf hp hn hnp b0 bx
  go_enter Try.func22, Try.ntmps22
  go_wp2_with fail
  refine HCT.out.mono ?_
  rintro e w1 ⟨A1, c1, rfl, hA1, b1⟩
  have HB1 := Lib.hid (HB0.out.trans (b1.mono HB0.out.size))
  have HRC := Lib.hid (Reach_any A A1 n c (nf + np) c1 zs (fr ++ ps) w1 HN.out.1 hnc ((HA.out.below HB1.out (Nat.le_refl _)).more HB1.out.size) (by unfold maxLen; have := HN.out; omega) hA1)
  clear hA1 b1 HCT HB0
  go_wp2_with fail
  refine HRC.out.mono ?_
  rintro e w2 ⟨A2, m2, c2, rfl, b2, h2⟩
  have HB2 := Lib.hid (HB1.out.trans (b2.mono HB1.out.size))
  clear b2 HB1 HRC
  by_cases h0 : fromE zs (fr ++ ps) = 0
  · obtain ⟨_, hm2, hA2⟩ := h2.resolve_left fun h => h.1 h0
    change Arr .i64 w2 w2.heap.size A2 m2 (keepL zs fr ps) at hA2
    have HA2 := Lib.hid hA2
    have hm256 : m2 ≤ 256 := by rw [hm2]; exact reachL_len (arena_len (fromE_zero h0).1)
    have hcs := clean_slide HWF.out h0
    rw [h0]
    have HSL := Lib.hid (slideF_any A A2 P n c m2 c2 np cp zs (keepL zs fr ps) ps w2 HN.out.1 hnc ((HA.out.below HB2.out (Nat.le_refl _)).more HB2.out.size) (by unfold maxLen; omega) hA2 (by unfold maxLen; have := HN.out; omega) ((HP.out.below HB2.out (Nat.le_refl _)).more HB2.out.size))
    unfold SlideF at HSL
    rw [hcs] at HSL
    have HCS := Lib.hid hcs
    have H0 := Lib.hid h0
    clear hA2 h2 hcs h0 hm2
    obtain ⟨E, hE⟩ : ∃ E, cleanE zs fr ps = E := ⟨_, rfl⟩
    rw [hE] at HSL
    have HE := Lib.hid hE
    clear hE
    go_wp2_with fail
    refine HSL.out.mono ?_
    rintro e w3 ⟨B, m, cb, D, q, d, rfl, b3, hmc, hB, hD, hsp⟩
    have HSB := Lib.hid (hsp.less HB2.out.size)
    clear hsp
    have HB3 := Lib.hid (HB2.out.trans (b3.mono HB2.out.size))
    by_cases hE0 : E = 0
    · subst hE0
      have HOK := Lib.hid (clean_ok HWF.out HE.out)
      have hse := HCS.out.trans HE.out
      rw [slideB_ok hse] at hB
      rw [slideT_ok hse] at hD
      have hq : q = m2 := by have h1 := hD.1; rw [toL_len] at h1; rw [← h1]; exact HA2.out.1
      subst hq
      have HBB := Lib.hid hB
      have HDD := Lib.hid hD
      have HA3 := Lib.hid ((HA2.out.below b3 (Nat.le_refl _)).more b3.size)
      have hmk := fun wx => run_make_row' (P := Try.prog) 23 3 (.int .i64 0) 8 Try.underlying23 cleanI64 rfl .i64 .i64 nf (by have := HN.out; omega) (by have := HN.out; omega) wx
      have bm : Below w3.heap.size w3 (w3.alloc (.cells (madeCells #[Value.int .i64 0] nf) 3)) := (Below.refl _ _).alloc (Nat.le_refl _) _
      have HI : Hid (ClI zs fr ps w3 w3.heap.size 0 (w3.alloc (.cells (madeCells #[Value.int .i64 0] nf) 3))) := by
        refine ⟨?_, bm⟩
        rw [nowAt_zero, HFL.out, made_replicate]
        exact whole_new .i64 3 w3 _ (fun z hz => by rw [List.eq_of_mem_replicate hz]; rfl)
      clear hB hD b3 bm HSL HA2 hse
      go_wp2_with fail
      clear hmk
      generalize (w3.alloc (.cells (madeCells #[Value.int .i64 0] nf) 3)) = W4 at *
      obtain ⟨g, hg⟩ : ∃ g, w3.heap.size = g := ⟨_, rfl⟩
      have HG : Hid (w3.heap.size = g) := hg
      rw [hg] at HI
      rw [hg]
      clear hg
      go_loopw [46] (fun x wr => ∃ i : Nat, i ≤ nf ∧ x = .int .i64 i ∧ Hid (ClI zs fr ps w3 g i wr)) (fun x _ => nf - (intOf x).toNat)
      case atStart => exact ⟨0, Nat.zero_le _, rfl, HI⟩
      case round =>
        obtain ⟨i, hin, rfl, HI'⟩ := hrel
        clear HI
        have hsz : w3.heap.size ≤ wr.heap.size := by rw [HG.out]; exact Nat.le_of_lt HI'.out.whole.lt
        by_cases hlt : i < nf
        · have hif : i < fr.length := by have := HFL.out; omega
          have hbw : Below w.heap.size w wr := HB3.out.trans (HI'.out.below.mono (by rw [← HG.out]; exact HB3.out.size))
          obtain ⟨b, off, rfl, _, hcs⟩ := (HF.out.below hbw (Nat.le_refl _)).2.2 (by omega)
          have hc := hcs i hlt
          have hxk : nth fr i ∈ keepL zs fr ps := HOK.out.sub _ (List.mem_append_left _ (nth_mem hif))
          have HBI := Lib.hid (binI_any A2 q c2 wr.heap.size (keepL zs fr ps) (nth fr i) wr (by unfold maxLen; omega) ((HA3.out.below HI'.out.below (by rw [HG.out]; exact Nat.le_refl _)).more hsz) reachL_rise)
          have HXK := Lib.hid hxk
          have HST := Lib.hid (nowAt_set (zs := zs) (ps := ps) hif)
          have hw : (Lit.int .i64 (nth fr i)).wf = true := HF.out.2.1 _ (nth_mem hif)
          clear hcs hxk hbw
          obtain ⟨X, hX⟩ : ∃ X, nth fr i = X := ⟨_, rfl⟩
          rw [hX] at hc HBI HXK HST
          clear hX hw
          go_wp2_with fail
          refine HBI.out.mono ?_
          rintro e w5 ⟨p, rfl, rfl, hp⟩
          obtain ⟨k, rfl, hk, hkx⟩ := hp HXK.out
          have hkq : k < q := by have := HA3.out.1; omega
          have hD2 : Arr .i64 wr w3.heap.size D q (toL zs (keepL zs fr ps) ps) := HDD.out.below HI'.out.below (by rw [HG.out]; exact Nat.le_refl _)
          obtain ⟨b2, off2, rfl, _, hts⟩ := hD2.2.2 (by omega)
          have hd := hts k hkq
          have hT : nth (toL zs (keepL zs fr ps) ps) k = trI zs (keepL zs fr ps) ps X := by rw [nth_toL hk, ← hkx, HOK.out.ok.tr_to hk]
          have hwt := hD2.2.1 _ (nth_mem (l := toL zs (keepL zs fr ps) ps) (j := k) (by rw [toL_len]; exact hk))
          rw [hT] at hd hwt
          have hlen := nowAt_len (zs := zs) (ps := ps) (Nat.le_of_lt hif)
          have d0 := HI'.out.whole.cell (j := i) (by rw [hlen]; exact hif)
          have f0 := HI'.out.whole.frozen i
          have hN := HI'.out.whole.set_ i _ hwt
          rw [HST.out] at hN
          have HN2 : Hid (ClI zs fr ps w3 g (i + 1) (wr.setCell ⟨g, i, none⟩ (.int .i64 (trI zs (keepL zs fr ps) ps X)))) := ⟨hN, below_set HI'.out.below (Nat.le_refl _) _ _⟩
          clear hts hT hwt hlen hN hD2 hp hk hkx HBI HI'
          generalize trI zs (keepL zs fr ps) ps X = T at *
          generalize nth (nowAt zs fr ps i) i = O at *
          generalize decide (X ∈ keepL zs fr ps) = BB at *
          go_wp2
          go_roundw
          case rel => exact ⟨i + 1, by omega, by go_num, HN2⟩
          case measure => simp [intOf]; omega
        · obtain rfl : i = nf := by omega
          have hW := HI'.out.whole
          have HNL : Hid (Arr .i64 wr wr.heap.size (some ⟨g, 0, none⟩) i (fr.map (trI zs (keepL zs fr ps) ps))) := by
            have h1 := hW.arr hW.lt
            rw [nowAt_len (by rw [HFL.out]; exact Nat.le_refl _), HFL.out] at h1
            have h2 := nowAt_all (zs := zs) (fr := fr) (ps := ps)
            rw [HFL.out] at h2
            rw [h2] at h1
            exact h1
          have HRB := Lib.hid ((HBB.out.below HI'.out.below (by rw [HG.out]; exact Nat.le_refl _)).more hsz)
          have HAB := Lib.hid (HB3.out.trans (HI'.out.below.mono (by rw [← HG.out]; exact HB3.out.size)))
          have HSB2 := Lib.hid (HSB.out.below HI'.out.below (by rw [HG.out]; exact Nat.le_refl _))
          have HSD : Hid (SpareI .i64 3 w.heap.size wr (some ⟨g, 0, none⟩) i) := .inr ⟨g, _, rfl, by rw [← HG.out]; exact HB3.out.size, by rw [nowAt_len (by rw [HFL.out]; exact Nat.le_refl _), HFL.out], by unfold maxLen; omega, hW⟩
          clear hW HI'
          go_wp2
          go_ret3
          exact ⟨_, _, _, _, _, _, by rw [HE.out]; rfl, HAB.out, hmc, by rw [cleanB_ok HE.out]; exact HRB.out, by rw [cleanN_ok HE.out]; exact HNL.out, HSB2.out, HSD.out⟩
    · have hb : (E != 0) = true := by simpa using hE0
      have HE0 := Lib.hid hE0
      clear hB hD b3 HSL HA2 hE0
      go_wp2
      go_ret3
      exact ⟨none, 0, 0, none, 0, 0, by rw [HE.out]; rfl, HB3.out, Nat.le_refl _, by rw [cleanB_bad (by rw [HE.out]; exact HE0.out)]; exact Arr.zero, by rw [cleanN_bad (by rw [HE.out]; exact HE0.out)]; exact Arr.zero, SpareI.nil, SpareI.nil⟩
  · have HE : Hid (cleanE zs fr ps = fromE zs (fr ++ ps)) := if_neg h0
    have HE0 := Lib.hid h0
    obtain ⟨E, hE⟩ : ∃ E, fromE zs (fr ++ ps) = E := ⟨_, rfl⟩
    rw [hE] at HE HE0 h0 ⊢
    have hb : (E != 0) = true := by simpa using h0
    clear h2 hE h0
    go_wp2
    go_ret3
    exact ⟨none, 0, 0, none, 0, 0, by rw [HE.out]; rfl, HB2.out, Nat.le_refl _, by rw [cleanB_bad (by rw [HE.out]; exact HE0.out)]; exact Arr.zero, by rw [cleanN_bad (by rw [HE.out]; exact HE0.out)]; exact Arr.zero, SpareI.nil, SpareI.nil⟩
theorem clean_any : CleanC := fun A F P n c nf cf np cp zs fr ps w hn hnc ha hnf hf hnp hp =>
  (cleanF_any A F P n c nf cf np cp zs fr ps w hn hnc ha hnf hf hnp hp).mono fun _ _ ⟨B, m, c, D, q, d, h1, h2, h3, h4, h5, _⟩ => ⟨B, m, c, D, q, d, h1, h2, h3, h4, h5⟩
end Go.Proofs.Ytjefbekdjgmmbaa
namespace Go.Proofs.Ytjefbekdjgmmbaa
open Go.RowKit
set_option maxRecDepth 8000 in
set_option maxHeartbeats 4000000 in
theorem slideSame_of (hC : CleanC) (hL : AlikeC) (A F P : Option Addr) (n c nf cf np cp : Nat) (zs fr ps : List Int) (w : World) (hn : n * 8 ≤ 140737488355328) (hnc : n ≤ c) (ha : Arr .u64 w w.heap.size A n zs) (hnf : nf * 8 ≤ 140737488351232) (hf : Arr .i64 w w.heap.size F nf fr) (hnp : np * 8 ≤ 140737488351232) (hp : Arr .i64 w w.heap.size P np ps) :
    Calls Try.prog 5 #[.slice A n c, .slice F nf cf, .slice P np cp] w fun e w' => e = .returned (.bool true) ∧ Below w.heap.size w w' := by
  have HA := Lib.hid ha
  have HF := Lib.hid hf
  have HP := Lib.hid hp
  have HN : Hid (n * 8 ≤ 140737488355328 ∧ n ≤ c) := ⟨hn, hnc⟩
  have HT := Lib.hid (slides_any hC w)
  have HCN := Lib.hid (fun wx (hb : Below w.heap.size w wx) => hC A F P n c nf cf np cp zs fr ps wx (by unfold maxLen; omega) hnc (HA.out.later hb) hnf (HF.out.later hb) hnp (HP.out.later hb))
  have HL := Lib.hid hL
  clear ha hf hp hC hL hn hnc
  go_enter Try.func5, Try.ntmps5
  go_wp2_with fail
  refine HT.out.mono ?_
  rintro e w1 ⟨rfl, b1⟩
  have HB1 := Lib.hid b1
  have HC1 := Lib.hid (HCN.out w1 b1)
  clear b1 HT HCN
  go_wp2_with fail
  refine HC1.out.mono ?_
  rintro e w2 ⟨B, m, bc, D, q, dc, rfl, b2, hmc, hB, hD⟩
  have HB2 := Lib.hid (bthen HB1.out b2)
  have HBA := Lib.hid hB
  have HDA := Lib.hid hD
  have HMC := Lib.hid hmc
  clear b2 hB hD HC1 HB1 hmc
  by_cases h0 : cleanE zs fr ps = 0
  · have HCO := Lib.hid (clean_ok HA.out.2.1 h0)
    rw [cleanB_ok h0] at HBA
    rw [cleanN_ok h0] at HDA
    rw [h0]
    have hal := HA.out.1
    have hn256 := arena_len HCO.out.ok.arena
    rw [hal] at hn256
    obtain rfl : m = n := by
      have hm := HBA.out.1
      rw [HCO.out.ok.slid_len, hal] at hm
      exact hm.symm
    obtain rfl : q = nf := by
      have hm := HDA.out.1
      rw [List.length_map, HF.out.1] at hm
      exact hm.symm
    have hpl := HP.out.1
    have hpn := HCO.out.ok.plen
    rw [hpl] at hpn
    have HNP : Hid (q * 8 ≤ 140737488351232 ∧ np ≤ 256) := ⟨hnf, by omega⟩
    obtain ⟨hs1, hs2⟩ := HCO.out.same HA.out.2.1
    have HS1 := Lib.hid hs1
    have HS2 := Lib.hid hs2
    have bf := (Below.refl _ w2).alloc (Nat.le_refl _) (.cells #[.slice F q cf, .slice P np cp] 23)
    have BF := Box.new w2 23 #[.slice F q cf, .slice P np cp]
    have HB3 := Lib.hid (bthen HB2.out bf)
    have HBA3 := Lib.hid (HBA.out.later bf)
    have HDA3 := Lib.hid (HDA.out.later bf)
    have HCT := Lib.hid (concat2C F P q cf np cp w2.heap.size fr ps _ (by omega) BF.lt (HF.out.later HB3.out) (HP.out.later HB3.out) (BF.cell 0) (BF.cell 1))
    clear h0 hs1 hs2 hn256 hal hpl hpn bf BF HB2 HBA HDA
    go_wp2_with fail
    refine HCT.out.mono ?_
    rintro e w4 ⟨C, cc, rfl, hcc, hCC, b4⟩
    have HB4 := Lib.hid (bthen HB3.out b4)
    have bf := (Below.refl _ w4).alloc (Nat.le_refl _) (.cells #[.slice D q dc, .slice P np cp] 23)
    have BF := Box.new w4 23 #[.slice D q dc, .slice P np cp]
    have HB5 := Lib.hid (bthen HB4.out bf)
    have HBA5 := Lib.hid ((HBA3.out.later b4).later bf)
    have HDA5 := Lib.hid ((HDA3.out.later b4).later bf)
    have HCC5 := Lib.hid (hCC.later bf)
    have HCN := Lib.hid hcc
    have HCT2 := Lib.hid (concat2C D P q dc np cp w4.heap.size _ ps _ (by have := HNP.out; omega) BF.lt HDA5.out (HP.out.later HB5.out) (BF.cell 0) (BF.cell 1))
    clear b4 hcc hCC bf BF HB3 HB4 HBA3 HDA3 HCT
    go_wp2_with fail
    refine HCT2.out.mono ?_
    rintro e w6 ⟨C2, cc2, rfl, hcc2, hC2, b6⟩
    have HB6 := Lib.hid (bthen HB5.out b6)
    have hnp2 := HNP.out
    have HQ := Lib.hid (HL.out A C B C2 m c (q + np) cc m bc (q + np) cc2 _ _ _ _ w6 ⟨HA.out.later HB6.out, HCC5.out.later b6, HN.out.1, HN.out.2, by omega, HCN.out⟩ ⟨HBA5.out.later b6, hC2, HN.out.1, HMC.out, by omega, hcc2⟩)
    unfold AlikeP at HQ
    have hE : aliE zs (fr ++ ps) (slidL zs (keepL zs fr ps) ps) (List.map (trI zs (keepL zs fr ps) ps) fr ++ ps) = 0 := aliE_zero.2 ⟨HCO.out.from_, HS1.out⟩
    rw [aliB_ok hE, hE, HS2.out] at HQ
    clear hE hnp2 hcc2 hC2 b6 HB5 HBA5 HDA5 HCC5 HCT2 HS1 HS2 HCO
    go_wp2_with fail
    refine HQ.out.mono ?_
    rintro e w7 ⟨rfl, b7⟩
    have HB7 := Lib.hid (bthen HB6.out b7)
    clear b7 HQ HB6
    go_wp2
    go_ret
    exact ⟨rfl, HB7.out⟩
  · have hb := HBA.out.1
    have hd := HDA.out.1
    rw [cleanB_bad h0] at hb
    rw [cleanN_bad h0] at hd
    obtain rfl : m = 0 := hb.symm
    obtain rfl : q = 0 := hd.symm
    clear hb hd HBA HDA
    generalize cleanE zs fr ps = E at *
    go_wp2
    go_ret
    exact ⟨rfl, HB2.out⟩
end Go.Proofs.Ytjefbekdjgmmbaa
