/-
  The law's plans; the walk of PlanGaps: whatever the arguments and the memory, the call returns true and changes nothing that was there.
-/
import Derived.Test.YtknbbondofijeaaPlanK
namespace Go.Proofs.Ytknbbondofijeaa
open Go.RowKit

/-- What the first 'j' gaps take. -/
def gapS (l : List (Int × Int)) : Nat → Int
  | 0 => 0
  | j + 1 => gapS l j + (nthG l j).2
theorem gapS_take (l : List (Int × Int)) : ∀ j, j ≤ l.length → gapS l j = ((l.take j).map (·.2)).sum
  | 0, _ => rfl
  | j + 1, hj => by
    rw [List.take_succ_eq_append_getElem (by omega), sum_app, ← gapS_take l j (by omega), ← nthG_get _ _ (by omega)]
    show gapS l j + (nthG l j).2 = _
    simp
theorem gapS_all (l : List (Int × Int)) : gapS l l.length = (l.map (·.2)).sum := by rw [gapS_take l _ (Nat.le_refl _), List.take_length]
section
variable {zs ks ps : List Int}
theorem PlanOk.some_ (h : PlanOk zs ks ps) : ∀ i, i ≤ ks.length → 0 ≤ sumL zs ks i ∧ sumL zs ks i ≤ endN zs ks ps i
  | 0, _ => ⟨Int.le_refl _, Int.le_refl _⟩
  | i + 1, hi => by
    have ih := PlanOk.some_ h i (by omega)
    have h1 := h.to (i := i) (by omega)
    have h2 := h.fits (i := i) (by omega)
    show 0 ≤ sumL zs ks i + lgI zs (nth ks i) ∧ sumL zs ks i + lgI zs (nth ks i) ≤ _
    rw [endN_succ]
    omega
theorem gapsB_pos (l : List (Int × Int)) : ∀ i, ∀ x ∈ gapsB l i, 0 ≤ x.2
  | 0, x, hx => by cases hx
  | i + 1, x, hx => by
    rcases List.mem_append.1 hx with h | h
    · exact gapsB_pos l i x h
    · split at h
      · rename_i h1
        rw [List.mem_singleton.1 h]
        show 0 ≤ (nthG l i).1 - bEnd l i
        omega
      · cases h
theorem gapS_pos {l : List (Int × Int)} (h : ∀ x ∈ l, 0 ≤ x.2) : ∀ {i j : Nat}, i ≤ j → j ≤ l.length → gapS l i ≤ gapS l j ∧ 0 ≤ gapS l i
  | i, 0, hij, _ => by obtain rfl : i = 0 := by omega
                       exact ⟨Int.le_refl _, Int.le_refl _⟩
  | i, j + 1, hij, hj => by
    have hz : 0 ≤ (nthG l j).2 := h _ (by rw [nthG_get _ _ (by omega)]; exact List.getElem_mem _)
    rcases Nat.lt_or_ge i (j + 1) with h1 | h1
    · have := gapS_pos h (i := i) (j := j) (by omega) (by omega)
      show gapS l i ≤ gapS l j + (nthG l j).2 ∧ _
      omega
    · obtain rfl : i = j + 1 := by omega
      have := gapS_pos h (i := j) (j := j) (Nat.le_refl _) (by omega)
      show _ ∧ 0 ≤ gapS l j + (nthG l j).2
      exact ⟨Int.le_refl _, by omega⟩
end

set_option maxRecDepth 8000 in
set_option maxHeartbeats 4000000 in
theorem planGaps_walk (A K P : Option Addr) (n c nk ck np cp : Nat) (zs ks ps : List Int) (w : World) (hn : n ≤ maxLen) (hnc : n ≤ c) (ha : Arr .u64 w w.heap.size A n zs) (hnk : nk ≤ maxLen) (hk : Arr .i64 w w.heap.size K nk ks) (hnp : np ≤ maxLen) (hp : Arr .i64 w w.heap.size P np ps) :
    Calls Try.prog 10 #[.slice A n c, .slice K nk ck, .slice P np cp] w fun e w' => e = .returned (.bool true) ∧ Below w.heap.size w w' := by
  have HA := Lib.hid ha
  have HK := Lib.hid hk
  have HP := Lib.hid hp
  have HN : Hid (n ≤ maxLen ∧ nk ≤ maxLen ∧ np ≤ maxLen) := ⟨hn, hnk, hnp⟩
  have HT := Lib.hid (plans_any w)
  have hal := ha.1
  have hkl := hk.1
  have hpl := hp.1
  clear ha hk hp hn hnk hnp
  go_enter Try.func10, Try.ntmps10
  go_wp2_with fail
  refine HT.out.mono ?_
  rintro e w1 ⟨rfl, b1⟩
  have HB1 := Lib.hid b1
  have HG := Lib.hid (planGaps_any A K P n c nk ck np cp zs ks ps w1 HN.out.1 hnc (HA.out.later b1) HN.out.2.1 (HK.out.later b1) HN.out.2.2 (HP.out.later b1))
  clear b1 HT
  go_wp2_with fail
  refine HG.out.mono ?_
  rintro e w2 ⟨G, q, gc, rfl, b2, hG⟩
  have HB2 := Lib.hid (bthen HB1.out b2)
  have HG2 := Lib.hid hG
  clear b2 hG HG HB1
  by_cases h0 : planE zs ks ps = 0
  · have HOK := Lib.hid (planE_zero.1 h0)
    rw [gapR_ok h0] at HG2
    rw [h0]
    have hql := HG2.out.1
    have hlen := HOK.out.len
    have hn256 := arena_len HOK.out.arena
    have hfew := HOK.out.few
    have hwh := HOK.out.whole
    rw [← gapS_all, hql, hal, hkl] at hwh
    rw [hql, hpl] at hfew
    rw [hkl] at hlen
    have hplen := HOK.out.plen
    rw [hpl] at hplen
    rw [hal] at hn256
    have HWH := Lib.hid hwh
    have HPOS : Hid (∀ x ∈ gapP zs ks ps, 0 ≤ x.2) := gapsB_pos _ _
    have hq256 : q ≤ 257 := by omega
    have hfew' : (q : Int) ≤ (np : Int) + 1 := by omega
    have HKL := Lib.hid hkl
    have HQL := Lib.hid hql
    clear h0 hwh hfew hql hkl hal hpl
    go_wp2_with fail
    go_loopw [9, 34] (fun f i wr => ∃ (j : Nat) (fv : Int), j ≤ nk ∧ i = .int .i64 j ∧ f = .int .i64 fv ∧ Hid (fv = (n : Int) - sumL zs ks j) ∧ Hid (Below w2.heap.size w2 wr)) (fun _ i _ => nk - (intOf i).toNat)
    case atStart => exact ⟨0, n, Nat.zero_le _, rfl, rfl, by show (n : Int) = _ - 0; omega, Below.refl _ _⟩
    case round =>
      obtain ⟨j, fv, hj, rfl, rfl, HF, HB⟩ := hrel
      have HBw := Lib.hid (bthen HB2.out HB.out)
      by_cases hlt : j < nk
      · obtain ⟨b, off, rfl, _, hcs⟩ := (HK.out.later HBw.out).2.2 (by omega)
        have hc := hcs j hlt
        have hjk : j < ks.length := by have := HKL.out; omega
        have HAT := Lib.hid (atLive_any A n c (nth ks j) zs wr HN.out.1 hnc (HA.out.later HBw.out) HOK.out.arena (HOK.out.live hjk))
        have hs0 := HOK.out.some_ j (by omega)
        have hs1 := HOK.out.some_ (j + 1) (by omega)
        have hs2 := (HOK.out.ends (j + 1) (by omega)).2.2
        have hs3 := HA.out.1
        have hfv := HF.out
        have hes : sumL zs ks (j + 1) = sumL zs ks j + lgI zs (nth ks j) := rfl
        rw [hes] at hs1
        have HFN : Hid (fv - lgI zs (nth ks j) = (n : Int) - sumL zs ks (j + 1)) := by show _ = _; rw [hes]; omega
        have hlv := (live_lg (HOK.out.live hjk)).2.1
        obtain ⟨L, hL⟩ : ∃ L, lgI zs (nth ks j) = L := ⟨_, rfl⟩
        rw [hL] at HAT HFN hlv hs1
        have e1 : wrap64 (fv - L) = fv - L := by unfold wrap64; omega
        have hL1 : L ≤ 256 := by omega
        clear hcs hL hs0 hs1 hs2 hs3 hfv hes hjk HF
        generalize nth ks j = X at *
        go_wp2_with fail
        refine HAT.out.mono ?_
        rintro e w3 ⟨tg, RA, rn, rc, BA, bn, bc, fr, rfl, hrb, b3⟩
        have e0 : (1 : Int) + (rn : Int) + (bn : Int) = L := hrb
        have HB3 := Lib.hid ((HB.out.trans (b3.mono HB.out.size)).alloc (by have := HB.out.size; have := b3.size; omega) (.cells #[.int .i64 tg, .slice RA rn rc, .slice BA bn bc, .bool fr] 69))
        clear b3 hrb HAT
        go_wp2
        go_roundw
        case rel => exact ⟨j + 1, _, by omega, by go_num, rfl, (by show _ = _; first | (rw [e1]; exact HFN.out) | (rw [e0, e1]; exact HFN.out)), HB3⟩
        case measure => simp [intOf]; omega
      · obtain rfl : j = nk := by omega
        have hf0 := HF.out
        have hwh := HWH.out
        have HG3 := Lib.hid ((HG2.out.below HB.out (Nat.le_refl _)).more HB.out.size)
        have HFV : Hid (fv = gapS (gapP zs ks ps) q) := by show _ = _; omega
        clear HB hf0 hwh HF
        go_wp2_with fail
        generalize wr = W0 at *
        go_loopw [9, 59] (fun f i wr => ∃ (p : Nat) (fv : Int), p ≤ q ∧ i = .int .i64 p ∧ f = .int .i64 fv ∧ Hid (fv = gapS (gapP zs ks ps) q - gapS (gapP zs ks ps) p) ∧ Hid (Below W0.heap.size W0 wr)) (fun _ i _ => q - (intOf i).toNat)
        case atStart => exact ⟨0, fv, Nat.zero_le _, rfl, rfl, by show _ = _ - 0; rw [HFV.out]; omega, Below.refl _ _⟩
        case round =>
          obtain ⟨p, fv', hp, rfl, rfl, HF, HB⟩ := hrel
          clear HFV
          by_cases hlt2 : p < q
          · obtain ⟨b, off, rfl, _, hc0, hc1⟩ := (HG3.out.below HB.out (Nat.le_refl _)).run hlt2
            have hz := HWH.out
            have hp1 := gapS_pos HPOS.out (i := p) (j := q) hp (by rw [HQL.out]; exact Nat.le_refl _)
            have hp2 := gapS_pos HPOS.out (i := p + 1) (j := q) hlt2 (by rw [HQL.out]; exact Nat.le_refl _)
            have hp3 : gapS (gapP zs ks ps) (p + 1) = gapS (gapP zs ks ps) p + (nthG (gapP zs ks ps) p).2 := rfl
            have hp4 := HPOS.out (nthG (gapP zs ks ps) p) (by rw [nthG_get _ _ (by rw [HQL.out]; exact hlt2)]; exact List.getElem_mem _)
            have hp5 := (HOK.out.some_ j (by have := HKL.out; omega)).1
            have hfv := HF.out
            have HFN : Hid (fv' - (nthG (gapP zs ks ps) p).2 = gapS (gapP zs ks ps) q - gapS (gapP zs ks ps) (p + 1)) := by show _ = _; omega
            rw [hp3] at hp2
            have e1 : wrap64 (fv' - (nthG (gapP zs ks ps) p).2) = fv' - (nthG (gapP zs ks ps) p).2 := by unfold wrap64; omega
            have HBN := Lib.hid (HB.out.alloc (by have := HB.out.size; omega) (.cells #[.int .i64 (nthG (gapP zs ks ps) p).1, .int .i64 (nthG (gapP zs ks ps) p).2] 73))
            clear hz hp1 hp2 hp3 hp4 hp5 hfv HF HB
            generalize (nthG (gapP zs ks ps) p).1 = X at *
            generalize (nthG (gapP zs ks ps) p).2 = Y at *
            go_wp2
            go_roundw
            case rel => exact ⟨p + 1, _, by omega, by go_num, rfl, (by show _ = _; rw [e1]; exact HFN.out), HBN⟩
            case measure => simp [intOf]; omega
          · obtain rfl : p = q := by omega
            have hfv := HF.out
            obtain rfl : fv' = 0 := by omega
            have HBB := Lib.hid (bthen HBw.out HB.out)
            clear hfv HF HB
            go_wp2
            go_ret
            exact ⟨rfl, HBB.out⟩
  · rw [gapR_bad h0] at HG2
    obtain rfl : q = 0 := by have := HG2.out.1; simpa using this.symm
    generalize planE zs ks ps = E at *
    have hb : (E != 0) = true := by simpa using h0
    clear h0 HG2
    go_wp2
    go_ret
    exact ⟨rfl, HB2.out⟩
end Go.Proofs.Ytknbbondofijeaa
