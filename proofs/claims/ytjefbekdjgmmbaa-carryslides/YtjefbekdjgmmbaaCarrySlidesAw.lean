/-
  Parts of the proof of CarrySlides: SlideE, SameDW.
-/
import Derived.Test.YtjefbekdjgmmbaaCarrySlidesAs
import Derived.Test.YtjefbekdjgmmbaaCarrySlidesAv
namespace Go.Proofs.Ytjefbekdjgmmbaa
open Go.RowKit
/-- The new positions of the first 'i' elements. -/
def nowAt (zs fr ps : List Int) (i : Nat) : List Int := (fr.take i).map (trI zs (keepL zs fr ps) ps) ++ List.replicate (fr.length - i) 0
section
variable {zs fr ps : List Int} {i : Nat}
theorem nowAt_zero : nowAt zs fr ps 0 = List.replicate fr.length 0 := by unfold nowAt; simp
theorem nowAt_all : nowAt zs fr ps fr.length = fr.map (trI zs (keepL zs fr ps) ps) := by unfold nowAt; simp
theorem nowAt_len (h : i ≤ fr.length) : (nowAt zs fr ps i).length = fr.length := by unfold nowAt; simp; omega
theorem nowAt_set (h : i < fr.length) : (nowAt zs fr ps i).set i (trI zs (keepL zs fr ps) ps (nth fr i)) = nowAt zs fr ps (i + 1) := by
  unfold nowAt
  have e1 : ((fr.take i).map (trI zs (keepL zs fr ps) ps)).length = i := by simp; omega
  rw [List.set_append_right _ _ (by omega), e1, Nat.sub_self, show fr.length - i = (fr.length - (i + 1)) + 1 by omega, List.replicate_succ, List.set_cons_zero, List.take_succ_eq_append_getElem h, List.map_append, List.append_assoc, ← nth_get _ _ h]
  rfl
end
theorem cleanI64 : (Try.prog.info? 3).map (fun i => (i.zero, i.size, i.bytes)) = some (some (.int .i64 0), 1, 8) := by kernel_rfl
/-- Of what is reached, only the pinned words' order can be wrong. -/
theorem clean_slide {zs fr ps : List Int} (hz : ∀ z ∈ zs, (Lit.int .u64 z).wf = true) (h0 : fromE zs (fr ++ ps) = 0) : slideE zs (keepL zs fr ps) ps = cleanE zs fr ps := by
  cases hr : riseB ps
  · have hc : cleanE zs fr ps = 3 := by unfold cleanE; rw [if_pos h0, hr]; rfl
    have hp : planE zs (keepL zs fr ps) ps = 3 := planE_form (fromE_zero h0).1 (by rw [hr, Bool.and_false])
    rw [hc, slideE_plan (by rw [hp]; decide), hp]
  · have hc : cleanE zs fr ps = 0 := cleanE_zero.2 ⟨h0, hr⟩
    have ho := clean_ok hz hc
    rw [hc, slideE_ok (planE_zero.2 ho.ok) ho.held]
/-- What holds while the new positions are stored. -/
structure ClI (zs fr ps : List Int) (w3 : World) (g i : Nat) (wr : World) : Prop where
  whole : Whole .i64 3 wr g (nowAt zs fr ps i)
  below : Below g w3 wr
/-- What Clean answers, its memory up to the capacity. -/
def CleanF (zs fr ps : List Int) (w : World) (e : Ending) (w' : World) : Prop := ∃ B m c D q d, e = .returned (.tuple #[.slice B m c, .slice D q d, .int .i64 (cleanE zs fr ps)]) ∧ Below w.heap.size w w' ∧ m ≤ c ∧ Arr .u64 w' w'.heap.size B m (cleanB zs fr ps) ∧ Arr .i64 w' w'.heap.size D q (cleanN zs fr ps) ∧ SpareI .u64 47 w.heap.size w' B c ∧ SpareI .i64 3 w.heap.size w' D d
set_option maxRecDepth 8000 in
set_option maxHeartbeats 4000000 in
theorem cleanF_any (A F P : Option Addr) (n c nf cf np cp : Nat) (zs fr ps : List Int) (w : World) (hn : n ≤ maxLen) (hnc : n ≤ c) (ha : Arr .u64 w w.heap.size A n zs) (hnf : nf * 8 ≤ 140737488351232) (hf : Arr .i64 w w.heap.size F nf fr) (hnp : np * 8 ≤ 140737488351232) (hp : Arr .i64 w w.heap.size P np ps) :
    Calls Try.prog 22 #[.slice A n c, .slice F nf cf, .slice P np cp] w (CleanF zs fr ps w) := by
  have b0 := (Below.refl _ w).alloc (Nat.le_refl _) (.cells #[.slice F nf cf, .slice P np cp] 23)
  have bx := Box.new w 23 #[.slice F nf cf, .slice P np cp]
  have HCT := Lib.hid (concat2 F P nf cf np cp w.heap.size fr ps _ (by omega) bx.lt ((hf.below b0 (Nat.le_refl _)).more b0.size) ((hp.below b0 (Nat.le_refl _)).more b0.size) (bx.cell 0) (bx.cell 1))
  have HB0 := Lib.hid b0
  have HA := Lib.hid ha
  have HF := Lib.hid hf
  have HP := Lib.hid hp
  have HAL := Lib.hid ha.1
  have HFL := Lib.hid hf.1
  have HWF := Lib.hid ha.2.1
  have HN : Hid (n ≤ maxLen ∧ nf * 8 ≤ 140737488351232 ∧ np * 8 ≤ 140737488351232) := ⟨hn, hnf, hnp⟩
  unfold CleanF
  clear ha hf hp hn hnp b0 bx
  go_enter Try.func22, Try.ntmps22
  go_wp2_with fail
  refine HCT.out.mono ?_
  rintro e w1 ⟨A1, c1, rfl, hA1, b1⟩
  have HB1 := Lib.hid (HB0.out.trans (b1.mono HB0.out.size))
  have HRC := Lib.hid (Reach_any A A1 n c (nf + np) c1 zs (fr ++ ps) w1 HN.out.1 hnc ((HA.out.below HB1.out (Nat.le_refl _)).more HB1.out.size) (by unfold maxLen; have := HN.out; omega) hA1)
  clear hA1 b1 HCT HB0
  go_wp2_with fail
  refine HRC.out.mono ?_
  rintro e w2 ⟨A2, m2, c2, rfl, b2, h2⟩
  have HB2 := Lib.hid (HB1.out.trans (b2.mono HB1.out.size))
  clear b2 HB1 HRC
  by_cases h0 : fromE zs (fr ++ ps) = 0
  · obtain ⟨_, hm2, hA2⟩ := h2.resolve_left fun h => h.1 h0
    change Arr .i64 w2 w2.heap.size A2 m2 (keepL zs fr ps) at hA2
    have HA2 := Lib.hid hA2
    have hm256 : m2 ≤ 256 := by rw [hm2]; exact reachL_len (arena_len (fromE_zero h0).1)
    have hcs := clean_slide HWF.out h0
    rw [h0]
    have HSL := Lib.hid (slideF_any A A2 P n c m2 c2 np cp zs (keepL zs fr ps) ps w2 HN.out.1 hnc ((HA.out.below HB2.out (Nat.le_refl _)).more HB2.out.size) (by unfold maxLen; omega) hA2 (by unfold maxLen; have := HN.out; omega) ((HP.out.below HB2.out (Nat.le_refl _)).more HB2.out.size))
    unfold SlideF at HSL
    rw [hcs] at HSL
    have HCS := Lib.hid hcs
    have H0 := Lib.hid h0
    clear hA2 h2 hcs h0 hm2
    obtain ⟨E, hE⟩ : ∃ E, cleanE zs fr ps = E := ⟨_, rfl⟩
    rw [hE] at HSL
    have HE := Lib.hid hE
    clear hE
    go_wp2_with fail
    refine HSL.out.mono ?_
    rintro e w3 ⟨B, m, cb, D, q, d, rfl, b3, hmc, hB, hD, hsp⟩
    have HSB := Lib.hid (hsp.less HB2.out.size)
    clear hsp
    have HB3 := Lib.hid (HB2.out.trans (b3.mono HB2.out.size))
    by_cases hE0 : E = 0
    · subst hE0
      have HOK := Lib.hid (clean_ok HWF.out HE.out)
      have hse := HCS.out.trans HE.out
      rw [slideB_ok hse] at hB
      rw [slideT_ok hse] at hD
      have hq : q = m2 := by have h1 := hD.1; rw [toL_len] at h1; rw [← h1]; exact HA2.out.1
      subst hq
      have HBB := Lib.hid hB
      have HDD := Lib.hid hD
      have HA3 := Lib.hid ((HA2.out.below b3 (Nat.le_refl _)).more b3.size)
      have hmk := fun wx => run_make_row' (P := Try.prog) 23 3 (.int .i64 0) 8 Try.underlying23 cleanI64 rfl .i64 .i64 nf (by have := HN.out; omega) (by have := HN.out; omega) wx
      have bm : Below w3.heap.size w3 (w3.alloc (.cells (madeCells #[Value.int .i64 0] nf) 3)) := (Below.refl _ _).alloc (Nat.le_refl _) _
      have HI : Hid (ClI zs fr ps w3 w3.heap.size 0 (w3.alloc (.cells (madeCells #[Value.int .i64 0] nf) 3))) := by
        refine ⟨?_, bm⟩
        rw [nowAt_zero, HFL.out, made_replicate]
        exact whole_new .i64 3 w3 _ (fun z hz => by rw [List.eq_of_mem_replicate hz]; rfl)
      clear hB hD b3 bm HSL HA2 hse
      go_wp2_with fail
      clear hmk
      generalize (w3.alloc (.cells (madeCells #[Value.int .i64 0] nf) 3)) = W4 at *
      obtain ⟨g, hg⟩ : ∃ g, w3.heap.size = g := ⟨_, rfl⟩
      have HG : Hid (w3.heap.size = g) := hg
      rw [hg] at HI
      rw [hg]
      clear hg
      go_loopw [46] (fun x wr => ∃ i : Nat, i ≤ nf ∧ x = .int .i64 i ∧ Hid (ClI zs fr ps w3 g i wr)) (fun x _ => nf - (intOf x).toNat)
      case atStart => exact ⟨0, Nat.zero_le _, rfl, HI⟩
      case round =>
        obtain ⟨i, hin, rfl, HI'⟩ := hrel
        clear HI
        have hsz : w3.heap.size ≤ wr.heap.size := by rw [HG.out]; exact Nat.le_of_lt HI'.out.whole.lt
        by_cases hlt : i < nf
        · have hif : i < fr.length := by have := HFL.out; omega
          have hbw : Below w.heap.size w wr := HB3.out.trans (HI'.out.below.mono (by rw [← HG.out]; exact HB3.out.size))
          obtain ⟨b, off, rfl, _, hcs⟩ := (HF.out.below hbw (Nat.le_refl _)).2.2 (by omega)
          have hc := hcs i hlt
          have hxk : nth fr i ∈ keepL zs fr ps := HOK.out.sub _ (List.mem_append_left _ (nth_mem hif))
          have HBI := Lib.hid (binI_any A2 q c2 wr.heap.size (keepL zs fr ps) (nth fr i) wr (by unfold maxLen; omega) ((HA3.out.below HI'.out.below (by rw [HG.out]; exact Nat.le_refl _)).more hsz) reachL_rise)
          have HXK := Lib.hid hxk
          have HST := Lib.hid (nowAt_set (zs := zs) (ps := ps) hif)
          have hw : (Lit.int .i64 (nth fr i)).wf = true := HF.out.2.1 _ (nth_mem hif)
          clear hcs hxk hbw
          obtain ⟨X, hX⟩ : ∃ X, nth fr i = X := ⟨_, rfl⟩
          rw [hX] at hc HBI HXK HST
          clear hX hw
          go_wp2_with fail
          refine HBI.out.mono ?_
          rintro e w5 ⟨p, rfl, rfl, hp⟩
          obtain ⟨k, rfl, hk, hkx⟩ := hp HXK.out
          have hkq : k < q := by have := HA3.out.1; omega
          have hD2 : Arr .i64 wr w3.heap.size D q (toL zs (keepL zs fr ps) ps) := HDD.out.below HI'.out.below (by rw [HG.out]; exact Nat.le_refl _)
          obtain ⟨b2, off2, rfl, _, hts⟩ := hD2.2.2 (by omega)
          have hd := hts k hkq
          have hT : nth (toL zs (keepL zs fr ps) ps) k = trI zs (keepL zs fr ps) ps X := by rw [nth_toL hk, ← hkx, HOK.out.ok.tr_to hk]
          have hwt := hD2.2.1 _ (nth_mem (l := toL zs (keepL zs fr ps) ps) (j := k) (by rw [toL_len]; exact hk))
          rw [hT] at hd hwt
          have hlen := nowAt_len (zs := zs) (ps := ps) (Nat.le_of_lt hif)
          have d0 := HI'.out.whole.cell (j := i) (by rw [hlen]; exact hif)
          have f0 := HI'.out.whole.frozen i
          have hN := HI'.out.whole.set_ i _ hwt
          rw [HST.out] at hN
          have HN2 : Hid (ClI zs fr ps w3 g (i + 1) (wr.setCell ⟨g, i, none⟩ (.int .i64 (trI zs (keepL zs fr ps) ps X)))) := ⟨hN, below_set HI'.out.below (Nat.le_refl _) _ _⟩
          clear hts hT hwt hlen hN hD2 hp hk hkx HBI HI'
          generalize trI zs (keepL zs fr ps) ps X = T at *
          generalize nth (nowAt zs fr ps i) i = O at *
          generalize decide (X ∈ keepL zs fr ps) = BB at *
          go_wp2
          go_roundw
          case rel => exact ⟨i + 1, by omega, by go_num, HN2⟩
          case measure => simp [intOf]; omega
        · obtain rfl : i = nf := by omega
          have hW := HI'.out.whole
          have HNL : Hid (Arr .i64 wr wr.heap.size (some ⟨g, 0, none⟩) i (fr.map (trI zs (keepL zs fr ps) ps))) := by
            have h1 := hW.arr hW.lt
            rw [nowAt_len (by rw [HFL.out]; exact Nat.le_refl _), HFL.out] at h1
            have h2 := nowAt_all (zs := zs) (fr := fr) (ps := ps)
            rw [HFL.out] at h2
            rw [h2] at h1
            exact h1
          have HRB := Lib.hid ((HBB.out.below HI'.out.below (by rw [HG.out]; exact Nat.le_refl _)).more hsz)
          have HAB := Lib.hid (HB3.out.trans (HI'.out.below.mono (by rw [← HG.out]; exact HB3.out.size)))
          have HSB2 := Lib.hid (HSB.out.below HI'.out.below (by rw [HG.out]; exact Nat.le_refl _))
          have HSD : Hid (SpareI .i64 3 w.heap.size wr (some ⟨g, 0, none⟩) i) := .inr ⟨g, _, rfl, by rw [← HG.out]; exact HB3.out.size, by rw [nowAt_len (by rw [HFL.out]; exact Nat.le_refl _), HFL.out], by unfold maxLen; omega, hW⟩
          clear hW HI'
          go_wp2
          go_ret3
          exact ⟨_, _, _, _, _, _, by rw [HE.out]; rfl, HAB.out, hmc, by rw [cleanB_ok HE.out]; exact HRB.out, by rw [cleanN_ok HE.out]; exact HNL.out, HSB2.out, HSD.out⟩
    · have hb : (E != 0) = true := by simpa using hE0
      have HE0 := Lib.hid hE0
      clear hB hD b3 HSL HA2 hE0
      go_wp2
      go_ret3
      exact ⟨none, 0, 0, none, 0, 0, by rw [HE.out]; rfl, HB3.out, Nat.le_refl _, by rw [cleanB_bad (by rw [HE.out]; exact HE0.out)]; exact Arr.zero, by rw [cleanN_bad (by rw [HE.out]; exact HE0.out)]; exact Arr.zero, SpareI.nil, SpareI.nil⟩
  · have HE : Hid (cleanE zs fr ps = fromE zs (fr ++ ps)) := if_neg h0
    have HE0 := Lib.hid h0
    obtain ⟨E, hE⟩ : ∃ E, fromE zs (fr ++ ps) = E := ⟨_, rfl⟩
    rw [hE] at HE HE0 h0 ⊢
    have hb : (E != 0) = true := by simpa using h0
    clear h2 hE h0
    go_wp2
    go_ret3
    exact ⟨none, 0, 0, none, 0, 0, by rw [HE.out]; rfl, HB2.out, Nat.le_refl _, by rw [cleanB_bad (by rw [HE.out]; exact HE0.out)]; exact Arr.zero, by rw [cleanN_bad (by rw [HE.out]; exact HE0.out)]; exact Arr.zero, SpareI.nil, SpareI.nil⟩
end Go.Proofs.Ytjefbekdjgmmbaa
namespace Go.Proofs.Ytjefbekdjgmmbaa
open Go.RowKit
/-- What is read lies within what was laid. -/
theorem spare_le {k : IntKind} {t : TypeId} {base B n c : Nat} {w : World} {A : Option Addr} {xs : List Int} (h : SpareI k t base w A c) (ha : Arr k w B A n xs) : n ≤ c := by
  rcases Nat.eq_zero_or_pos n with h0 | h0
  · omega
  · obtain ⟨b, off, e, _, hc⟩ := ha.2.2 h0
    rcases h with ⟨rfl, _⟩ | ⟨g, ys, e2, _, hl, _, hW⟩
    · cases e
    · rw [e] at e2
      injection e2 with e2
      injection e2 with e3 e4
      subst e3 e4
      have h1 := hc (n - 1) (by omega)
      rw [cell_of_row w b _ _ t (0, 0) hW.1] at h1
      rw [Nat.zero_add, List.getElem?_toArray] at h1
      have := (List.getElem?_eq_some_iff.1 h1).1
      rw [List.length_map] at this
      omega
theorem takes_le {zs fr : List Int} (hz : ∀ z ∈ zs, (Lit.int .u64 z).wf = true) (h0 : fromE zs fr = 0) : takesN zs fr ≤ zs.length := by
  have hc : CleanOk zs fr [] := clean_ok hz (cleanE_zero.2 ⟨by rw [List.append_nil]; exact h0, by decide⟩)
  have hw := hc.ok.whole
  have ht := takes_sum (zs := zs) (fr := fr ++ [])
  have hp := gapS_pos (l := gapP zs (keepL zs fr []) []) (gapsB_pos _ _) (i := (gapP zs (keepL zs fr []) []).length) (Nat.le_refl _) (Nat.le_refl _)
  have hp := hp.2
  rw [gapS_all] at hp
  change sumL zs (reachL zs (fr ++ [])) (reachL zs (fr ++ [])).length + _ = _ at hw
  rw [List.append_nil] at ht
  rw [List.append_nil] at hw
  omega
theorem copyE_self {zs fr : List Int} (hz : ∀ z ∈ zs, (Lit.int .u64 z).wf = true) : copyE zs fr (zs.length : Int) = cleanE zs fr [] := by
  have hr : riseB [] = true := by decide
  by_cases h0 : fromE zs fr = 0
  · have h1 := takes_le hz h0
    have h2 := arena_len (fromE_zero h0).1
    rw [copyE_ok h0 (by omega) (by omega)]
    exact (cleanE_zero.2 ⟨by rw [List.append_nil]; exact h0, hr⟩).symm
  · rw [copyE_from h0]
    unfold cleanE
    rw [List.append_nil, if_neg h0]
/-- What is copied is alike to what is slid. -/
theorem copy_slid {zs fr : List Int} {n : Nat} (hz : ∀ z ∈ zs, (Lit.int .u64 z).wf = true) (h0 : fromE zs fr = 0) (hn : n ≤ 256) (ht : tkL zs (camL zs fr) ≤ n) (hzy : ∀ z ∈ copyL zs fr n, (Lit.int .u64 z).wf = true) :
    fromE (slidL zs (keepL zs fr []) []) (fr.map (trI zs (keepL zs fr []) [])) = 0 ∧ sameB (copyL zs fr n) (fr.map (putF zs (camL zs fr) n)) (slidL zs (keepL zs fr []) []) (fr.map (trI zs (keepL zs fr []) [])) = true := by
  have hc : CleanOk zs fr [] := clean_ok hz (cleanE_zero.2 ⟨by rw [List.append_nil]; exact h0, by decide⟩)
  obtain ⟨h1, h2⟩ := hc.same hz
  obtain ⟨h3, h4⟩ := copy_same hz h0 hn ht hzy
  rw [List.append_nil] at h1 h2
  rw [List.append_nil] at h2
  rw [sameB_comm] at h4
  exact ⟨h1, sameB_trans h4 h2⟩
set_option maxRecDepth 8000 in
set_option maxHeartbeats 4000000 in
theorem carrySlides_of (hO : OrderC) (hC : CopyC) (hL : AlikeC) (A F : Option Addr) (n c nf cf : Nat) (zs fr : List Int) (w : World) (h : ArenaFrom w A F n c nf cf zs fr) (hnf : nf * 8 ≤ 140737488351232) :
    Calls Try.prog 7 #[.slice A n c, .slice F nf cf] w fun e w' => e = .returned (.bool true) ∧ Below w.heap.size w w' := by
  have HAF := Lib.hid h
  have HZ := Lib.hid h.arena.2.1
  have HFL := Lib.hid h.from_.1
  have HAL := Lib.hid h.arena.1
  have HN : Hid (n ≤ maxLen ∧ nf * 8 ≤ 140737488351232) := ⟨by have := h.hn; unfold maxLen; omega, hnf⟩
  have HT := Lib.hid (carries_any hO w)
  have HCN := Lib.hid (fun wx (hb : Below w.heap.size w wx) => hC A F n c nf cf n zs fr wx HN.out.1 h.hnc (h.later hb).arena hnf (h.later hb).from_ (wf_i64.2 (by have := HN.out.1; unfold maxLen at this; omega)))
  have HSN := Lib.hid (fun wx (hb : Below w.heap.size w wx) => cleanF_any A F none n c nf cf 0 0 zs fr [] wx HN.out.1 h.hnc (h.later hb).arena hnf (h.later hb).from_ (by omega) Arr.zero)
  have HL := Lib.hid hL
  have hceq := copyE_self (zs := zs) (fr := fr) h.arena.2.1
  rw [h.arena.1] at hceq
  have HCE := Lib.hid hceq
  clear h hnf hO hC hL hceq
  unfold CopyP at HCN
  unfold CleanF at HSN
  go_enter Try.func7, Try.ntmps7
  go_wp2_with fail
  refine HT.out.mono ?_
  rintro e w1 ⟨rfl, b1⟩
  have HB1 := Lib.hid b1
  have HC1 := Lib.hid (HCN.out w1 b1)
  clear b1 HT HCN
  go_wp2_with fail
  refine HC1.out.mono ?_
  rintro e w2 ⟨B, m, bc, O, p, oc, D, q, dc, rfl, b2, hmc, _, _, hB, hO, hD, _, _, _⟩
  have HB2 := Lib.hid (bthen HB1.out b2)
  have HBA := Lib.hid hB
  have HOA := Lib.hid hO
  have HDA := Lib.hid hD
  have HMC := Lib.hid hmc
  have HC2 := Lib.hid (HSN.out w2 HB2.out)
  clear b2 hB hO hD hmc HC1 HB1 HSN
  go_wp2_with fail
  refine HC2.out.mono ?_
  rintro e w3 ⟨B3, m3, bc3, D3, q3, dc3, rfl, b3, hmc3, hB3, hD3, _, hsp3⟩
  have HB3 := Lib.hid (bthen HB2.out b3)
  have HBA3 := Lib.hid (HBA.out.later b3)
  have HOA3 := Lib.hid (HOA.out.later b3)
  have HDA3 := Lib.hid (HDA.out.later b3)
  have HCA := Lib.hid hB3
  have HNA := Lib.hid hD3
  have HMC3 := Lib.hid hmc3
  have HND : Hid (q3 ≤ dc3) := spare_le hsp3 hD3
  clear b3 hB3 hD3 hmc3 hsp3 HC2 HB2 HBA HOA HDA
  by_cases hE : copyE zs fr n = 0
  · obtain ⟨h0, hkr, hkt⟩ := copyE_zero hE
    have hE3 := hE
    rw [HCE.out] at hE3
    rw [copyB_ok hE] at HBA3
    rw [copyO_ok hE] at HOA3
    rw [copyT_ok hE] at HDA3
    rw [cleanB_ok hE3] at HCA
    rw [cleanN_ok hE3] at HNA
    rw [hE, hE3]
    simp only [Int.toNat_natCast] at HBA3
    have htk : tkL zs (camL zs fr) ≤ n := by rw [cam_takes HZ.out h0]; omega
    have hK : n ≤ 256 := by omega
    have HOK : Hid (fromE zs fr = 0 ∧ n ≤ 256 ∧ tkL zs (camL zs fr) ≤ n) := ⟨h0, hK, htk⟩
    obtain rfl : m = n := by rw [← HBA3.out.1]; exact copy_len HZ.out h0 htk
    obtain rfl : m3 = m := by
      rw [← HCA.out.1, (clean_ok HZ.out hE3).ok.slid_len, HAL.out]
    obtain rfl : q3 = nf := by
      rw [← HNA.out.1, List.length_map, HFL.out]
    obtain rfl : q = p := by
      have hp := HOA3.out.1
      have hq := HDA3.out.1
      rw [begC_len] at hq
      omega
    have HP256 : Hid (q ≤ 256) := by
      show _ ≤ _
      rw [← HOA3.out.1]
      exact camL_len HZ.out h0
    have HFIND : Hid (∀ j, j < q3 → ∃ r, r < q ∧ nth (camL zs fr) r = nth fr j ∧ nth (begC zs (camL zs fr)) r = putF zs (camL zs fr) m3 (nth fr j) ∧ ∀ x, PlaceI (camL zs fr) (nth fr j) x → x = (r : Int)) := fun j hj => by
      have hin : nth fr j ∈ camL zs fr := camL_fr h0 _ (nth_mem (by rw [HFL.out]; exact hj))
      obtain ⟨r, hr, e⟩ := List.getElem_of_mem hin
      have er : nth (camL zs fr) r = nth fr j := by rw [nth_get _ _ hr]; exact e
      refine ⟨r, by rw [← HOA3.out.1]; exact hr, er, by rw [← putF_beg HZ.out h0 hK htk hr, er], fun x hx => ?_⟩
      rcases hx with ⟨r', rfl, hr', e'⟩ | ⟨_, hno⟩
      · rw [nodup_one camL_nd hr' hr (e'.trans er.symm)]
      · exact absurd er (hno r hr)
    clear hE hE3 HCE h0 hkr hkt htk hK
    have HOW0 : Hid (Own .i64 3 w3 w3.heap.size (.slice none 0 0) (thenL zs fr m3 0)) := Own.nil
    go_wp2_with fail
    go_loopw [12, 50] (fun v i wx => ∃ (j : Nat) (u : Value), j ≤ q3 ∧ i = .int .i64 j ∧ u = v ∧ Hid (Own .i64 3 wx w3.heap.size u (thenL zs fr m3 j)) ∧ Hid (Below w3.heap.size w3 wx)) (fun _ i _ => q3 - (intOf i).toNat)
    case atStart => exact ⟨0, _, Nat.zero_le _, rfl, rfl, HOW0, Below.refl _ _⟩
    case round =>
      obtain ⟨j, u, hjn, rfl, hu, HO, HB⟩ := hrel
      subst hu
      clear HOW0
      by_cases hlt : j < q3
      · have HBw := Lib.hid (bthen HB3.out HB.out)
        obtain ⟨b, off, rfl, _, hcs⟩ := (HAF.out.later HBw.out).from_.2.2 (by omega)
        have hc := hcs j hlt
        have hjf : j < fr.length := by rw [HFL.out]; exact hlt
        obtain ⟨r, hrq, her, hbr, hxr⟩ := HFIND.out j hlt
        obtain ⟨b2, off2, rfl, _, hds⟩ := (HDA3.out.later HB.out).2.2 (by omega)
        have hd := hds r hrq
        have hwf : (Lit.int .i64 (nth (begC zs (camL zs fr)) r)).wf = true := HDA3.out.2.1 _ (nth_mem (by rw [HDA3.out.1]; exact hrq))
        have HPC := Lib.hid (indexR_any O q oc _ (nth fr j) (camL zs fr) wr (by have := HP256.out; unfold maxLen; omega) (HOA3.out.later HB.out))
        have HPR := Lib.hid hxr
        have hnn := HN.out.2
        obtain ⟨v', w', hrun, hO', hB'⟩ := HO.out.pushB (P := Try.prog) (t := 23) (ty := 23) Try.underlying23 intI_info (x := nth (begC zs (camL zs fr)) r) hwf (by rw [thenL_len (by omega)]; omega) HB.out.size
        rw [hbr, ← thenL_succ hjf] at hO'
        have HR := Lib.hid hrun
        have HO' := Lib.hid hO'
        have HB' := Lib.hid (HB.out.trans hB')
        have hq256 := HP256.out
        clear hcs hds her hbr hxr hwf hrun hO' hB' hjf HO HB HFIND
        generalize nth (begC zs (camL zs fr)) r = T at *
        generalize nth fr j = X at *
        go_wp2_with fail
        refine HPC.out.mono ?_
        rintro e w9 ⟨⟨x, rfl, hx⟩, rfl⟩
        have hxr := HPR.out x hx
        subst hxr
        clear hx HPC HPR
        go_wp2_with (at_builtin; refine wpList_append_run rfl (.tmp 65) (.tmp 70) 23 rfl rfl rfl HR.out ?_)
        go_roundw
        case rel => exact ⟨j + 1, _, hlt, by go_num, rfl, HO', HB'⟩
        case measure => simp [intOf]; omega
      · obtain rfl : j = q3 := by omega
        have HBw := Lib.hid (bthen HB3.out HB.out)
        obtain ⟨N, nc, rfl, hnc, hN⟩ := HO.out.arr
        rw [thenL_len (by rw [HFL.out]; omega)] at hN hnc ⊢
        rw [show thenL zs fr m3 j = fr.map (putF zs (camL zs fr) m3) by rw [← HFL.out, thenL_all]] at hN
        obtain ⟨hs1, _⟩ := copy_same HZ.out HOK.out.1 HOK.out.2.1 HOK.out.2.2 HBA3.out.2.1
        obtain ⟨hs3, hs2⟩ := copy_slid HZ.out HOK.out.1 HOK.out.2.1 HOK.out.2.2 HBA3.out.2.1
        have hj8 := HN.out.2
        have hm256 := HOK.out.2.1
        have HQ := Lib.hid (HL.out B N B3 D3 m3 bc j nc m3 bc3 j dc3 _ _ _ _ wr ⟨HBA3.out.later HB.out, hN, by omega, HMC.out, by omega, hnc⟩ ⟨HCA.out.later HB.out, HNA.out.later HB.out, by omega, HMC3.out, by omega, HND.out⟩)
        have hE : aliE (copyL zs fr m3) (fr.map (putF zs (camL zs fr) m3)) (slidL zs (keepL zs fr []) []) (fr.map (trI zs (keepL zs fr []) [])) = 0 := aliE_zero.2 ⟨hs1, hs3⟩
        unfold AlikeP at HQ
        rw [aliB_ok hE, hE, hs2] at HQ
        clear hs1 hs2 hs3 hE hN HO HB HDA3 HOA3 HFIND
        go_wp2_with fail
        refine HQ.out.mono ?_
        rintro e w10 ⟨rfl, b10⟩
        have HB10 := Lib.hid (bthen HBw.out b10)
        go_wp2
        go_ret
        exact ⟨rfl, HB10.out⟩
  · have hE3 := hE
    rw [HCE.out] at hE3
    have heq := HCE.out
    rw [← heq]
    clear heq hE3 HCE HBA3 HOA3 HDA3 HCA HNA
    generalize copyE zs fr n = E at *
    have hb : (E != 0) = true := by simpa using hE
    have hb2 : (E == 0) = false := by simpa using hE
    clear hE
    go_wp2
    go_ret
    exact ⟨rfl, HB3.out⟩
end Go.Proofs.Ytjefbekdjgmmbaa
