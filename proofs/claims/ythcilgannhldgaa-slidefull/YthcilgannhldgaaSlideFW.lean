/-
  The walk of SlideFull, given what Clean answers.
-/
import Derived.Test.YthcilgannhldgaaSlideE
import Derived.Test.YthcilgannhldgaaIntCat
import Derived.Test.YthcilgannhldgaaGood
import Derived.Test.YthcilgannhldgaaGap
import Derived.Test.YthcilgannhldgaaRefGap
namespace Go.Proofs.Ythcilgannhldgaa
open Go.RowKit

set_option maxRecDepth 8000 in
set_option maxHeartbeats 4000000 in
theorem slideFull_of (hC : CleanC) (A F P : Option Addr) (n c nf cf np cp : Nat) (zs fr ps : List Int) (w : World) (hn : n ≤ maxLen) (hnc : n ≤ c) (ha : Arr .u64 w w.heap.size A n zs) (hnf : nf * 8 ≤ 140737488351232) (hf : Arr .i64 w w.heap.size F nf fr) (hnp : np * 8 ≤ 140737488351232) (hp : Arr .i64 w w.heap.size P np ps) :
    Calls Try.prog 5 #[.slice A n c, .slice F nf cf, .slice P np cp] w fun e w' => e = .returned (.bool true) ∧ Below w.heap.size w w' := by
  have HA := Lib.hid ha
  have HF := Lib.hid hf
  have HP := Lib.hid hp
  have HT := Lib.hid (slides_any hC w)
  have HCN := Lib.hid (fun wx (hb : Below w.heap.size w wx) => hC A F P n c nf cf np cp zs fr ps wx hn hnc (HA.out.later hb) hnf (HF.out.later hb) hnp (HP.out.later hb))
  have HNN : Hid (n ≤ maxLen) := hn
  clear ha hf hp hn hC
  go_enter Try.func5, Try.ntmps5
  go_wp2_with fail
  refine HT.out.mono ?_
  rintro e w1 ⟨rfl, b1⟩
  have HB1 := Lib.hid b1
  have HC1 := Lib.hid (HCN.out w1 b1)
  clear b1 HT HCN
  go_wp2_with fail
  refine HC1.out.mono ?_
  rintro e w2 ⟨B, m, bc, D, q, dc, rfl, b2, hmc, hB, hD⟩
  have HB2 := Lib.hid (bthen HB1.out b2)
  have HBA := Lib.hid hB
  clear b2 hB hD HC1 HB1
  by_cases h0 : cleanE zs fr ps = 0
  · have HCO := Lib.hid (clean_ok HA.out.2.1 h0)
    rw [cleanB_ok h0] at HBA
    rw [h0]
    have hal := HA.out.1
    have hn256 := arena_len HCO.out.ok.arena
    rw [hal] at hn256
    have hm := HBA.out.1
    rw [HCO.out.ok.slid_len, hal] at hm
    subst hm
    have HAL := Lib.hid hal
    have HAR := Lib.hid (HCO.out.ok.slid_arena HCO.out.held)
    have HWHO := Lib.hid (HCO.out.ok.whole)
    have HGP := Lib.hid (HCO.out.ok.slid_gaps)
    have hfew := HCO.out.ok.few
    have hpl := HP.out.1
    have hpn := HCO.out.ok.plen
    rw [hpl] at hfew hpn
    have HNC : Hid (nf + np ≤ maxLen) := by show _ ≤ _; unfold maxLen; omega
    have bf := (Below.refl _ w2).alloc (Nat.le_refl _) (.cells #[.slice F nf cf, .slice P np cp] 23)
    have BF := Box.new w2 23 #[.slice F nf cf, .slice P np cp]
    have HB5 := Lib.hid (bthen HB2.out bf)
    have HBA5 := Lib.hid (HBA.out.later bf)
    have HCT := Lib.hid (concat2 F P nf cf np cp w2.heap.size fr ps _ (by omega) BF.lt (HF.out.later HB5.out) (HP.out.later HB5.out) (BF.cell 0) (BF.cell 1))
    clear h0 hal hpl bf BF HB2 HBA
    go_wp2_with fail
    refine HCT.out.mono ?_
    rintro e w3 ⟨C, cc, rfl, hCC, b3⟩
    have HB3 := Lib.hid (bthen HB5.out b3)
    have HBA3 := Lib.hid (HBA5.out.later b3)
    have HWD := Lib.hid (Words_any A C n c (nf + np) cc zs (fr ++ ps) w3 HNN.out hnc (HA.out.later HB3.out) HNC.out hCC)
    clear b3 hCC HCT HB5 HBA5
    go_wp2_with fail
    refine HWD.out.mono ?_
    rintro e w4 ⟨v, rfl, b4, hv⟩
    rw [HCO.out.from_]
    have HV : Hid (v = takesN zs (fr ++ ps)) := hv.resolve_left (fun h => h.1 HCO.out.from_) |>.2
    have HB4 := Lib.hid (bthen HB3.out b4)
    have HBA4 := Lib.hid (HBA3.out.later b4)
    have HGG := Lib.hid (Gaps_any B n bc (slidL zs (keepL zs fr ps) ps) w4 HNN.out hmc HBA4.out)
    clear b4 hv HWD HB3 HBA3
    go_wp2_with fail
    refine HGG.out.mono ?_
    rintro e w5 ⟨G, r, gc, rfl, b5, _, hg⟩
    rw [HAR.out]
    obtain ⟨_, hrl, hgA⟩ := hg.resolve_left (fun h => h.1 HAR.out)
    rw [HGP.out] at hrl hgA
    have HG5 := Lib.hid hgA
    have HB5 := Lib.hid (bthen HB4.out b5)
    have HBA5 := Lib.hid (HBA4.out.later b5)
    have HRL := Lib.hid hrl.symm
    have hr1 : r ≤ np + 1 := by omega
    have hrz : (r : Int) ≤ (np : Int) + 1 := by omega
    have hr257 : r ≤ 257 := by omega
    have hwh := HWHO.out
    have htk := takes_sum (zs := zs) (fr := fr ++ ps)
    rw [← HV.out] at htk
    rw [← gapS_all, HRL.out, HAL.out] at hwh
    have HSUM : Hid ((v : Int) + gapS (gapP zs (keepL zs fr ps) ps) r = (n : Int)) := by
      show _ = _
      rw [htk]; exact hwh
    have HPOS : Hid (∀ x ∈ gapP zs (keepL zs fr ps) ps, 0 ≤ x.2) := gapsB_pos _ _
    clear b5 hg hrl hgA HGG HB4 HBA4 hr1 hfew hwh htk HCO HWHO HV
    generalize gapP zs (keepL zs fr ps) ps = L at *
    generalize slidL zs (keepL zs fr ps) ps = Z at *
    go_wp2_with fail
    go_loopw [14, 45] (fun f i wx => ∃ (p : Nat) (fv : Int), p ≤ r ∧ i = .int .i64 p ∧ f = .int .i64 fv ∧ Hid (fv = gapS L p) ∧ Hid (Below w5.heap.size w5 wx)) (fun _ i _ => r - (intOf i).toNat)
    case atStart => exact ⟨0, 0, Nat.zero_le _, rfl, rfl, rfl, Below.refl _ _⟩
    case round =>
      obtain ⟨p, fv, hp, rfl, rfl, HFV, HB⟩ := hrel
      by_cases hlt : p < r
      · obtain ⟨b, off, rfl, _, hc0, hc1⟩ := (HG5.out.below HB.out (Nat.le_refl _)).run hlt
        have hp1 := gapS_pos HPOS.out (i := p) (j := r) hp (by rw [HRL.out]; exact Nat.le_refl _)
        have hp2 := gapS_pos HPOS.out (i := p + 1) (j := r) hlt (by rw [HRL.out]; exact Nat.le_refl _)
        have hp3 : gapS L (p + 1) = gapS L p + (nthG L p).2 := rfl
        have hs := HSUM.out
        have hf := HFV.out
        have HFN : Hid (fv + (nthG L p).2 = gapS L (p + 1)) := by show _ = _; rw [hp3, hf]
        rw [hp3] at hp2
        have e1 : wrap64 (fv + (nthG L p).2) = fv + (nthG L p).2 := by unfold wrap64; omega
        have HBN := Lib.hid (HB.out.alloc (by have := HB.out.size; omega) (.cells #[.int .i64 (nthG L p).1, .int .i64 (nthG L p).2] 47))
        clear hp1 hp2 hp3 hs hf HFV HB
        generalize (nthG L p).1 = X at *
        generalize (nthG L p).2 = Y at *
        go_wp2
        go_roundw
        case rel => exact ⟨p + 1, _, hlt, by go_num, rfl, (by show _ = _; first | (rw [e1]; exact HFN.out) | exact HFN.out), HBN⟩
        case measure => simp [intOf]; omega
      · obtain rfl : p = r := by omega
        have hs := HSUM.out
        have hp1 := gapS_pos HPOS.out (i := p) (j := p) (Nat.le_refl _) (by rw [HRL.out]; exact Nat.le_refl _)
        rw [← HFV.out] at hs hp1
        have e1 : wrap64 ((v : Int) + fv) = (n : Int) := by unfold wrap64; omega
        have e1' : (v : Int) + fv = (n : Int) := hs
        have HBx := Lib.hid (bthen HB5.out HB.out)
        have HBAx := Lib.hid (HBA5.out.later HB.out)
        have bz := (Below.refl _ wr).alloc (Nat.le_refl _) (.cells #[.int .i64 0, .int .i64 0] 24)
        have HBz := Lib.hid (bthen HBx.out bz)
        have HGO := Lib.hid (good_any (some ⟨wr.heap.size, 0, none⟩) 2 2 _ [0, 0] _ (by unfold maxLen; omega) (zeros_good 24 wr 2 #[.int .i64 0, .int .i64 0] rfl))
        rw [show (!bad [0, 0]) = true by decide] at HGO
        have HCK := Lib.hid (Check_any B n bc Z _ HNN.out hmc (HBAx.out.later bz))
        rw [HAR.out] at HCK
        clear hs hp1 HFV HB bz
        go_wp2_with fail
        refine HGO.out.mono ?_
        rintro e w7 ⟨rfl, rfl⟩
        go_wp2_with fail
        refine HCK.out.mono ?_
        rintro e w8 ⟨rfl, b8⟩
        have HB8 := Lib.hid (bthen HBz.out b8)
        clear b8
        go_wp2
        go_ret
        exact ⟨rfl, HB8.out⟩
  · generalize cleanE zs fr ps = E at *
    have hb : (E != 0) = true := by simpa using h0
    clear h0 HBA
    go_wp2
    go_ret
    exact ⟨rfl, HB2.out⟩
end Go.Proofs.Ythcilgannhldgaa
