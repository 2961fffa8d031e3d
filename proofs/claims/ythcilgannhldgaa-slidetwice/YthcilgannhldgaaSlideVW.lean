/-
  The walk of SlideTwice, given what Clean answers.
-/
import Derived.Test.YthcilgannhldgaaSlideE
import Derived.Test.YthcilgannhldgaaRef
namespace Go.Proofs.Ythcilgannhldgaa
open Go.RowKit

set_option maxRecDepth 8000 in
set_option maxHeartbeats 4000000 in
theorem slideTwice_of (hC : CleanC) (A F P : Option Addr) (n c nf cf np cp : Nat) (zs fr ps : List Int) (w : World) (hn : n ≤ maxLen) (hnc : n ≤ c) (ha : Arr .u64 w w.heap.size A n zs) (hnf : nf * 8 ≤ 140737488351232) (hf : Arr .i64 w w.heap.size F nf fr) (hnp : np * 8 ≤ 140737488351232) (hp : Arr .i64 w w.heap.size P np ps) :
    Calls Try.prog 6 #[.slice A n c, .slice F nf cf, .slice P np cp] w fun e w' => e = .returned (.bool true) ∧ Below w.heap.size w w' := by
  have HA := Lib.hid ha
  have HF := Lib.hid hf
  have HP := Lib.hid hp
  have HNP := Lib.hid hnp
  have HNF := Lib.hid hnf
  have HT := Lib.hid (slides_any hC w)
  have HCN := Lib.hid (fun wx (hb : Below w.heap.size w wx) => hC A F P n c nf cf np cp zs fr ps wx hn hnc (HA.out.later hb) hnf (HF.out.later hb) hnp (HP.out.later hb))
  have HCC : Hid CleanC := hC
  clear ha hf hp hn hnf hnp hC
  go_enter Try.func6, Try.ntmps6
  go_wp2_with fail
  refine HT.out.mono ?_
  rintro e w1 ⟨rfl, b1⟩
  have HB1 := Lib.hid b1
  have HC1 := Lib.hid (HCN.out w1 b1)
  clear b1 HT HCN
  go_wp2_with fail
  refine HC1.out.mono ?_
  rintro e w2 ⟨B, m, bc, D, q, dc, rfl, b2, hmc, hB, hD⟩
  have HB2 := Lib.hid (bthen HB1.out b2)
  have HBA := Lib.hid hB
  have HDA := Lib.hid hD
  clear b2 hB hD HC1 HB1
  by_cases h0 : cleanE zs fr ps = 0
  · have HCO := Lib.hid (clean_ok HA.out.2.1 h0)
    have htw := HCO.out.twice HA.out.2.1
    have hk2 := (HCO.out.keep2 HA.out.2.1).1
    rw [cleanB_ok h0] at HBA
    rw [cleanN_ok h0] at HDA
    rw [h0]
    have hm := HBA.out.1
    rw [HCO.out.ok.slid_len] at hm
    have hq := HDA.out.1
    rw [List.length_map] at hq
    have hm256 : m ≤ 256 := by have := arena_len HCO.out.ok.arena; omega
    have hqn : q = nf := by have := HF.out.1; omega
    subst hqn
    have HC2 := Lib.hid (HCC.out B D P m bc q dc np cp _ _ ps w2 (by unfold maxLen; omega) hmc HBA.out HNF.out HDA.out HNP.out (HP.out.later HB2.out))
    have HTW := Lib.hid htw
    have HK2 := Lib.hid hk2
    have HM : Hid (m ≤ maxLen ∧ q ≤ maxLen) := ⟨by unfold maxLen; omega, by have := HNF.out; unfold maxLen; omega⟩
    clear h0 htw hk2 hm hq hm256
    go_wp2_with fail
    refine HC2.out.mono ?_
    rintro e w3 ⟨B2, m2, bc2, D2, q2, dc2, rfl, b3, _, hB2, hD2⟩
    rw [HK2.out]
    rw [HTW.out.1] at hB2
    rw [HTW.out.2] at hD2
    obtain rfl : m2 = m := by have := hB2.1; have := HBA.out.1; omega
    obtain rfl : q2 = q := by have := hD2.1; have := HDA.out.1; omega
    have HB3 := Lib.hid (bthen HB2.out b3)
    have HEW := Lib.hid (equalWords B B2 m2 m2 bc bc2 w3.heap.size _ _ w3 (HBA.out.later b3) hB2 HM.out.1 HM.out.1)
    have HEI := Lib.hid (fun x => equalInts D D2 q2 q2 dc dc2 w3.heap.size _ _ (w3.drewN x) ((HDA.out.later b3).drewN x) (hD2.drewN x) HM.out.2 HM.out.2)
    simp only [decide_true] at HEW HEI
    clear b3 hB2 hD2 HC2
    go_wp2_with fail
    refine HEW.out.mono ?_
    rintro e w4 ⟨rfl, x, rfl⟩
    have HE2 := Lib.hid (HEI.out x)
    go_wp2_with fail
    refine HE2.out.mono ?_
    rintro e w5 ⟨rfl, y, rfl⟩
    have HB5 : Hid (Below w.heap.size w (w3.drewN (x + y))) := below_drewN HB3.out (x + y)
    go_wp2
    go_ret
    exact ⟨rfl, HB5.out⟩
  · generalize cleanE zs fr ps = E at *
    have hb : (E != 0) = true := by simpa using h0
    clear h0 HBA HDA
    go_wp2
    go_ret
    exact ⟨rfl, HB2.out⟩
end Go.Proofs.Ythcilgannhldgaa
