/-
  The walk of PlanTells: whatever the arguments and the memory, the call returns true and changes nothing that was there.
-/
import Derived.Test.YtknbbondofijeaaPlanD
import Derived.Test.YtknbbondofijeaaPlanR
import Derived.Test.YtknbbondofijeaaRefSameR
import Derived.Test.YtknbbondofijeaaEq
namespace Go.Proofs.Ytknbbondofijeaa
open Go.RowKit

set_option maxRecDepth 8000 in
set_option maxHeartbeats 4000000 in
theorem planTells_walk (A K P : Option Addr) (n c nk ck np cp : Nat) (zs ks ps : List Int) (w : World) (hn : n ≤ maxLen) (hnc : n ≤ c) (ha : Arr .u64 w w.heap.size A n zs) (hnk : nk ≤ maxLen) (hk : Arr .i64 w w.heap.size K nk ks) (hnp : np ≤ maxLen) (hp : Arr .i64 w w.heap.size P np ps) :
    Calls Try.prog 8 #[.slice A n c, .slice K nk ck, .slice P np cp] w fun e w' => e = .returned (.bool true) ∧ Below w.heap.size w w' := by
  have HA := Lib.hid ha
  have HK := Lib.hid hk
  have HP := Lib.hid hp
  have HN : Hid (n ≤ maxLen ∧ nk ≤ maxLen ∧ np ≤ maxLen) := ⟨hn, hnk, hnp⟩
  have HT := Lib.hid (planTo_any A K P n c nk ck np cp zs ks ps w hn hnc ha hnk hk hnp hp)
  clear ha hk hp hn hnk hnp
  go_enter Try.func8, Try.ntmps8
  go_wp2_with fail
  refine HT.out.mono ?_
  rintro e w1 ⟨D, m, d, rfl, b1, hD⟩
  have HB1 := Lib.hid b1
  have HD1 := Lib.hid hD
  have HG := Lib.hid (planGaps_any A K P n c nk ck np cp zs ks ps w1 HN.out.1 hnc (HA.out.later b1) HN.out.2.1 (HK.out.later b1) HN.out.2.2 (HP.out.later b1))
  clear b1 hD HT
  go_wp2_with fail
  refine HG.out.mono ?_
  rintro e w2 ⟨G, q, gc, rfl, b2, hG⟩
  have HB2 := Lib.hid (bthen HB1.out b2)
  have HD2 := Lib.hid (HD1.out.later b2)
  have HG2 := Lib.hid hG
  have HF := Lib.hid (planFault_any A K P n c nk ck np cp zs ks ps w2 HN.out.1 (HA.out.later HB2.out) HN.out.2.1 (HK.out.later HB2.out) HN.out.2.2 (HP.out.later HB2.out))
  clear b2 hG HG HB1 HD1
  go_wp2_with fail
  refine HF.out.mono ?_
  rintro e w3 ⟨rfl, b3⟩
  have HB3 := Lib.hid (bthen HB2.out b3)
  have HD3 := Lib.hid (HD2.out.later b3)
  have HG3 := Lib.hid ((HG2.out.below b3 (Nat.le_refl _)).more b3.size)
  clear b3 HF HB2 HD2 HG2
  by_cases h0 : planE zs ks ps = 0
  · have HOK := Lib.hid (planE_zero.1 h0)
    rw [toR_ok h0] at HD3
    rw [gapR_ok h0] at HG3
    rw [h0]
    have hm := HD3.out.1
    rw [toL_len] at hm
    have hq := HG3.out.1
    have hlen := HOK.out.len
    have hqlen := HOK.out.few
    have hplen := HOK.out.plen
    have HPL := Lib.hid (planned_any A K P n c nk ck np cp zs ks ps w3 (HA.out.later HB3.out) (HK.out.later HB3.out) HN.out.2.2 (HP.out.later HB3.out) HOK.out)
    have HML : Hid (m ≤ maxLen) := by show m ≤ maxLen; unfold maxLen; omega
    have HQL : Hid (q ≤ maxLen) := by show q ≤ maxLen; unfold maxLen; omega
    clear h0 hlen hqlen hplen
    go_wp2_with fail
    refine HPL.out.mono ?_
    rintro e w4 ⟨v, rfl, hO, b4⟩
    obtain ⟨E, ec, rfl, _, hE⟩ := hO.arr
    rw [toL_len, hm] at hE ⊢
    have HB4 := Lib.hid (bthen HB3.out b4)
    have HG4 := Lib.hid ((HG3.out.below b4 (Nat.le_refl _)).more b4.size)
    have HEQ := Lib.hid (equalInts D E m m d ec w4.heap.size _ _ w4 (HD3.out.later b4) hE HML.out HML.out)
    rw [show decide (toL zs ks ps = toL zs ks ps) = true by simp] at HEQ
    clear hO hE b4 HPL HB3 HG3 HD3 hm
    go_wp2_with fail
    refine HEQ.out.mono ?_
    rintro e w5 ⟨rfl, x, hx⟩
    have HB5 : Hid (Below w.heap.size w w5) := by show Below _ _ _; rw [← hx]; exact below_drewN HB4.out x
    have HG5 : Hid (ArrG runC 2 w5 w5.heap.size G q (gapP zs ks ps)) := by show ArrG _ _ _ _ _ _ _; rw [← hx]; exact HG4.out.drewN x
    have HPG := Lib.hid (planGapsRef_any A K P n c nk ck np cp zs ks ps w5 (HA.out.later HB5.out) (HK.out.later HB5.out) HN.out.2.2 (HP.out.later HB5.out) HOK.out)
    clear hx HEQ HB4 HG4
    go_wp2_with fail
    refine HPG.out.mono ?_
    rintro e w6 ⟨F, r, fc, rfl, hF, b6⟩
    have hr : r = q := by rw [← hq]; exact hF.1.symm
    subst hr
    have HB6 := Lib.hid (bthen HB5.out b6)
    have HSR := Lib.hid (sameRuns_same G F r gc fc w6.heap.size (gapP zs ks ps) w6 ((HG5.out.below b6 (Nat.le_refl _)).more b6.size) hF HQL.out)
    clear hF b6 HPG HB5 HG5 hq
    go_wp2_with fail
    refine HSR.out.mono ?_
    rintro e w7 ⟨rfl, x, rfl⟩
    have HB7 : Hid (Below w.heap.size w (w6.drewN x)) := below_drewN HB6.out x
    go_wp2
    go_ret
    exact ⟨rfl, HB7.out⟩
  · rw [toR_bad h0] at HD3
    rw [gapR_bad h0] at HG3
    obtain rfl : m = 0 := by have := HD3.out.1; simpa using this.symm
    obtain rfl : q = 0 := by have := HG3.out.1; simpa using this.symm
    generalize planE zs ks ps = E at *
    have hb : (E != 0) = true := by simpa using h0
    have he : (E == E) = true := by simp
    clear h0 HD3 HG3
    go_wp2
    go_ret
    exact ⟨rfl, HB3.out⟩
end Go.Proofs.Ytknbbondofijeaa
