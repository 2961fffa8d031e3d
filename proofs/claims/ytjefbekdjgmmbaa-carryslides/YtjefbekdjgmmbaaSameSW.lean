/-
  The walk of SlideSame, given what Clean and Alike answer.
-/
import Derived.Test.YtjefbekdjgmmbaaSameC
import Derived.Test.YtjefbekdjgmmbaaSameV
import Derived.Test.YtjefbekdjgmmbaaIntCat
import Derived.Test.YtjefbekdjgmmbaaGood
import Derived.Test.YtjefbekdjgmmbaaSameH
import Derived.Test.YtjefbekdjgmmbaaSlideE
namespace Go.Proofs.Ytjefbekdjgmmbaa
open Go.RowKit

set_option maxRecDepth 8000 in
set_option maxHeartbeats 4000000 in
theorem slideSame_of (hC : CleanC) (hL : AlikeC) (A F P : Option Addr) (n c nf cf np cp : Nat) (zs fr ps : List Int) (w : World) (hn : n * 8 ≤ 140737488355328) (hnc : n ≤ c) (ha : Arr .u64 w w.heap.size A n zs) (hnf : nf * 8 ≤ 140737488351232) (hf : Arr .i64 w w.heap.size F nf fr) (hnp : np * 8 ≤ 140737488351232) (hp : Arr .i64 w w.heap.size P np ps) :
    Calls Try.prog 5 #[.slice A n c, .slice F nf cf, .slice P np cp] w fun e w' => e = .returned (.bool true) ∧ Below w.heap.size w w' := by
  have HA := Lib.hid ha
  have HF := Lib.hid hf
  have HP := Lib.hid hp
  have HN : Hid (n * 8 ≤ 140737488355328 ∧ n ≤ c) := ⟨hn, hnc⟩
  have HT := Lib.hid (slides_any hC w)
  have HCN := Lib.hid (fun wx (hb : Below w.heap.size w wx) => hC A F P n c nf cf np cp zs fr ps wx (by unfold maxLen; omega) hnc (HA.out.later hb) hnf (HF.out.later hb) hnp (HP.out.later hb))
  have HL := Lib.hid hL
  clear ha hf hp hC hL hn hnc
  go_enter Try.func5, Try.ntmps5
  go_wp2_with fail
  refine HT.out.mono ?_
  rintro e w1 ⟨rfl, b1⟩
  have HB1 := Lib.hid b1
  have HC1 := Lib.hid (HCN.out w1 b1)
  clear b1 HT HCN
  go_wp2_with fail
  refine HC1.out.mono ?_
  rintro e w2 ⟨B, m, bc, D, q, dc, rfl, b2, hmc, hB, hD⟩
  have HB2 := Lib.hid (bthen HB1.out b2)
  have HBA := Lib.hid hB
  have HDA := Lib.hid hD
  have HMC := Lib.hid hmc
  clear b2 hB hD HC1 HB1 hmc
  by_cases h0 : cleanE zs fr ps = 0
  · have HCO := Lib.hid (clean_ok HA.out.2.1 h0)
    rw [cleanB_ok h0] at HBA
    rw [cleanN_ok h0] at HDA
    rw [h0]
    have hal := HA.out.1
    have hn256 := arena_len HCO.out.ok.arena
    rw [hal] at hn256
    obtain rfl : m = n := by
      have hm := HBA.out.1
      rw [HCO.out.ok.slid_len, hal] at hm
      exact hm.symm
    obtain rfl : q = nf := by
      have hm := HDA.out.1
      rw [List.length_map, HF.out.1] at hm
      exact hm.symm
    have hpl := HP.out.1
    have hpn := HCO.out.ok.plen
    rw [hpl] at hpn
    have HNP : Hid (q * 8 ≤ 140737488351232 ∧ np ≤ 256) := ⟨hnf, by omega⟩
    obtain ⟨hs1, hs2⟩ := HCO.out.same HA.out.2.1
    have HS1 := Lib.hid hs1
    have HS2 := Lib.hid hs2
    have bf := (Below.refl _ w2).alloc (Nat.le_refl _) (.cells #[.slice F q cf, .slice P np cp] 23)
    have BF := Box.new w2 23 #[.slice F q cf, .slice P np cp]
    have HB3 := Lib.hid (bthen HB2.out bf)
    have HBA3 := Lib.hid (HBA.out.later bf)
    have HDA3 := Lib.hid (HDA.out.later bf)
    have HCT := Lib.hid (concat2C F P q cf np cp w2.heap.size fr ps _ (by omega) BF.lt (HF.out.later HB3.out) (HP.out.later HB3.out) (BF.cell 0) (BF.cell 1))
    clear h0 hs1 hs2 hn256 hal hpl hpn bf BF HB2 HBA HDA
    go_wp2_with fail
    refine HCT.out.mono ?_
    rintro e w4 ⟨C, cc, rfl, hcc, hCC, b4⟩
    have HB4 := Lib.hid (bthen HB3.out b4)
    have bf := (Below.refl _ w4).alloc (Nat.le_refl _) (.cells #[.slice D q dc, .slice P np cp] 23)
    have BF := Box.new w4 23 #[.slice D q dc, .slice P np cp]
    have HB5 := Lib.hid (bthen HB4.out bf)
    have HBA5 := Lib.hid ((HBA3.out.later b4).later bf)
    have HDA5 := Lib.hid ((HDA3.out.later b4).later bf)
    have HCC5 := Lib.hid (hCC.later bf)
    have HCN := Lib.hid hcc
    have HCT2 := Lib.hid (concat2C D P q dc np cp w4.heap.size _ ps _ (by have := HNP.out; omega) BF.lt HDA5.out (HP.out.later HB5.out) (BF.cell 0) (BF.cell 1))
    clear b4 hcc hCC bf BF HB3 HB4 HBA3 HDA3 HCT
    go_wp2_with fail
    refine HCT2.out.mono ?_
    rintro e w6 ⟨C2, cc2, rfl, hcc2, hC2, b6⟩
    have HB6 := Lib.hid (bthen HB5.out b6)
    have hnp2 := HNP.out
    have HQ := Lib.hid (HL.out A C B C2 m c (q + np) cc m bc (q + np) cc2 _ _ _ _ w6 ⟨HA.out.later HB6.out, HCC5.out.later b6, HN.out.1, HN.out.2, by omega, HCN.out⟩ ⟨HBA5.out.later b6, hC2, HN.out.1, HMC.out, by omega, hcc2⟩)
    unfold AlikeP at HQ
    have hE : aliE zs (fr ++ ps) (slidL zs (keepL zs fr ps) ps) (List.map (trI zs (keepL zs fr ps) ps) fr ++ ps) = 0 := aliE_zero.2 ⟨HCO.out.from_, HS1.out⟩
    rw [aliB_ok hE, hE, HS2.out] at HQ
    clear hE hnp2 hcc2 hC2 b6 HB5 HBA5 HDA5 HCC5 HCT2 HS1 HS2 HCO
    go_wp2_with fail
    refine HQ.out.mono ?_
    rintro e w7 ⟨rfl, b7⟩
    have HB7 := Lib.hid (bthen HB6.out b7)
    clear b7 HQ HB6
    go_wp2
    go_ret
    exact ⟨rfl, HB7.out⟩
  · have hb := HBA.out.1
    have hd := HDA.out.1
    rw [cleanB_bad h0] at hb
    rw [cleanN_bad h0] at hd
    obtain rfl : m = 0 := hb.symm
    obtain rfl : q = 0 := hd.symm
    clear hb hd HBA HDA
    generalize cleanE zs fr ps = E at *
    go_wp2
    go_ret
    exact ⟨rfl, HB2.out⟩
end Go.Proofs.Ytjefbekdjgmmbaa
