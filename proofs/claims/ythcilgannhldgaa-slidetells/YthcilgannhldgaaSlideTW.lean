/-
  The walk of SlideTells, given what Slide answers.
-/
import Derived.Test.YthcilgannhldgaaSlideD
import Derived.Test.YthcilgannhldgaaSlideR
import Derived.Test.YthcilgannhldgaaRef
namespace Go.Proofs.Ythcilgannhldgaa
open Go.RowKit

set_option maxRecDepth 8000 in
set_option maxHeartbeats 4000000 in
theorem slideTells_of (hC : SlideC) (A K P : Option Addr) (n c nk ck np cp : Nat) (zs ks ps : List Int) (w : World) (hn : n ≤ maxLen) (hnc : n ≤ c) (ha : Arr .u64 w w.heap.size A n zs) (hnk : nk ≤ maxLen) (hk : Arr .i64 w w.heap.size K nk ks) (hnp : np ≤ maxLen) (hp : Arr .i64 w w.heap.size P np ps) :
    Calls Try.prog 3 #[.slice A n c, .slice K nk ck, .slice P np cp] w fun e w' => e = .returned (.bool true) ∧ Below w.heap.size w w' := by
  have HA := Lib.hid ha
  have HK := Lib.hid hk
  have HP := Lib.hid hp
  have HN : Hid (n ≤ maxLen ∧ nk ≤ maxLen ∧ np ≤ maxLen) := ⟨hn, hnk, hnp⟩
  have HT := Lib.hid (hC A K P n c nk ck np cp zs ks ps w hn hnc ha hnk hk hnp hp)
  clear ha hk hp hn hnk hnp hC
  go_enter Try.func3, Try.ntmps3
  go_wp2_with fail
  refine HT.out.mono ?_
  rintro e w1 ⟨B, m, bc, D, q, dc, rfl, b1, _, hB, hD⟩
  have HB1 := Lib.hid b1
  have HBA := Lib.hid hB
  have HDA := Lib.hid hD
  have HF := Lib.hid (planFault_any A K P n c nk ck np cp zs ks ps w1 HN.out.1 (HA.out.later b1) HN.out.2.1 (HK.out.later b1) HN.out.2.2 (HP.out.later b1))
  clear b1 hB hD HT
  go_wp2_with fail
  refine HF.out.mono ?_
  rintro e w2 ⟨rfl, b2⟩
  have HB2 := Lib.hid (bthen HB1.out b2)
  have HBA2 := Lib.hid (HBA.out.later b2)
  have HDA2 := Lib.hid (HDA.out.later b2)
  clear b2 HF HB1 HBA HDA
  by_cases h0 : planE zs ks ps = 0
  · have HOK := Lib.hid (planE_zero.1 h0)
    have HS := Lib.hid (slid_any A K P n c nk ck np cp zs ks ps w2 (HA.out.later HB2.out) HN.out.2.1 (HK.out.later HB2.out) HN.out.2.2 (HP.out.later HB2.out) HOK.out)
    rw [h0]
    cases hh : heldB zs ks
    · have he : slideE zs ks ps = 8 := slideE_held h0 hh
      have hb : slideB zs ks ps = [] := slideB_bad (by rw [he]; decide)
      have ht : slideT zs ks ps = [] := slideT_bad (by rw [he]; decide)
      rw [hb] at HBA2
      rw [ht] at HDA2
      rw [he]
      obtain rfl : m = 0 := by have := HBA2.out.1; simpa using this.symm
      obtain rfl : q = 0 := by have := HDA2.out.1; simpa using this.symm
      have HH := Lib.hid hh
      clear h0 hh he hb ht HBA2 HDA2
      go_wp2_with fail
      refine HS.out.mono ?_
      rintro e w3 ⟨b3, h3⟩
      have HB3 := Lib.hid (bthen HB2.out b3)
      clear b3 HS
      rcases h3 with ⟨hx, _⟩ | ⟨_, rfl⟩
      · rw [HH.out] at hx; cases hx
      · go_wp2
        go_ret
        exact ⟨rfl, HB3.out⟩
    · have he : slideE zs ks ps = 0 := slideE_ok h0 hh
      rw [slideB_ok he] at HBA2
      rw [slideT_ok he] at HDA2
      rw [he]
      have hn256 := arena_len HOK.out.arena
      have hlen := HOK.out.len
      have hm := HBA2.out.1
      rw [HOK.out.slid_len] at hm
      have hq := HDA2.out.1
      rw [toL_len] at hq
      have HM : Hid (m ≤ maxLen ∧ q ≤ maxLen) := ⟨by unfold maxLen; omega, by unfold maxLen; omega⟩
      have HH := Lib.hid hh
      have HML := Lib.hid hm
      have HQL := Lib.hid hq
      clear h0 hh he hm hq hn256 hlen
      go_wp2_with fail
      refine HS.out.mono ?_
      rintro e w3 ⟨b3, h3⟩
      have HB3 := Lib.hid (bthen HB2.out b3)
      have HBA3 := Lib.hid (HBA2.out.later b3)
      have HDA3 := Lib.hid (HDA2.out.later b3)
      clear b3 HS HB2 HBA2 HDA2
      rcases h3 with ⟨_, B2, m2, bc2, rfl, hB2⟩ | ⟨hx, _⟩
      · obtain rfl : m2 = m := by have := hB2.1; have := HBA3.out.1; omega
        have HEW := Lib.hid (equalWords B B2 m2 m2 bc bc2 w3.heap.size _ _ w3 HBA3.out hB2 HM.out.1 HM.out.1)
        rw [show decide (slidL zs ks ps = slidL zs ks ps) = true by simp] at HEW
        clear hB2
        go_wp2_with fail
        refine HEW.out.mono ?_
        rintro e w4 ⟨rfl, x, hx⟩
        have HB4 : Hid (Below w.heap.size w w4) := by show Below _ _ _; rw [← hx]; exact below_drewN HB3.out x
        have HDA4 : Hid (Arr .i64 w4 w4.heap.size D q (toL zs ks ps)) := by show Arr _ _ _ _ _ _; rw [← hx]; exact HDA3.out.drewN x
        have HPL := Lib.hid (planned_any A K P n c nk ck np cp zs ks ps w4 (HA.out.later HB4.out) (HK.out.later HB4.out) HN.out.2.2 (HP.out.later HB4.out) HOK.out)
        clear hx HEW HB3 HDA3 HBA3
        go_wp2_with fail
        refine HPL.out.mono ?_
        rintro e w5 ⟨v, rfl, hO, b5⟩
        obtain ⟨E, ec, rfl, _, hE⟩ := hO.arr
        rw [toL_len, HQL.out] at hE ⊢
        have HB5 := Lib.hid (bthen HB4.out b5)
        have HEI := Lib.hid (equalInts D E q q dc ec w5.heap.size _ _ w5 (HDA4.out.later b5) hE HM.out.2 HM.out.2)
        rw [show decide (toL zs ks ps = toL zs ks ps) = true by simp] at HEI
        clear hO hE b5 HPL HB4 HDA4
        go_wp2_with fail
        refine HEI.out.mono ?_
        rintro e w6 ⟨rfl, x, rfl⟩
        have HB6 : Hid (Below w.heap.size w (w5.drewN x)) := below_drewN HB5.out x
        go_wp2
        go_ret
        exact ⟨rfl, HB6.out⟩
      · rw [HH.out] at hx; cases hx
  · have he := slideE_plan h0
    rw [slideB_bad (by rw [he]; exact h0)] at HBA2
    rw [slideT_bad (by rw [he]; exact h0)] at HDA2
    rw [he]
    obtain rfl : m = 0 := by have := HBA2.out.1; simpa using this.symm
    obtain rfl : q = 0 := by have := HDA2.out.1; simpa using this.symm
    clear he HBA2 HDA2
    generalize planE zs ks ps = E at *
    have hb : (E != 0) = true := by simpa using h0
    have hee : (E == E) = true := by simp
    clear h0
    go_wp2
    go_ret
    exact ⟨rfl, HB2.out⟩
end Go.Proofs.Ythcilgannhldgaa
