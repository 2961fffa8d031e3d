/-
  The walk of PlanDown: whatever the arguments and the memory, the call returns true and changes nothing that was there.
-/
import Derived.Test.YtknbbondofijeaaPlanK
import Derived.Test.YtknbbondofijeaaIntFn
namespace Go.Proofs.Ytknbbondofijeaa
open Go.RowKit

set_option maxRecDepth 8000 in
set_option maxHeartbeats 4000000 in
theorem planDown_walk (A K P : Option Addr) (n c nk ck np cp : Nat) (zs ks ps : List Int) (w : World) (hn : n ≤ maxLen) (hnc : n ≤ c) (ha : Arr .u64 w w.heap.size A n zs) (hnk : nk ≤ maxLen) (hk : Arr .i64 w w.heap.size K nk ks) (hnp : np ≤ maxLen) (hp : Arr .i64 w w.heap.size P np ps) :
    Calls Try.prog 9 #[.slice A n c, .slice K nk ck, .slice P np cp] w fun e w' => e = .returned (.bool true) ∧ Below w.heap.size w w' := by
  have HA := Lib.hid ha
  have HK := Lib.hid hk
  have HP := Lib.hid hp
  have HN : Hid (n ≤ maxLen ∧ nk ≤ maxLen ∧ np ≤ maxLen) := ⟨hn, hnk, hnp⟩
  have HT := Lib.hid (plans_any w)
  have hal := ha.1
  have hkl := hk.1
  clear ha hk hp hn hnk hnp
  go_enter Try.func9, Try.ntmps9
  go_wp2_with fail
  refine HT.out.mono ?_
  rintro e w1 ⟨rfl, b1⟩
  have HB1 := Lib.hid b1
  have HG := Lib.hid (planTo_any A K P n c nk ck np cp zs ks ps w1 HN.out.1 hnc (HA.out.later b1) HN.out.2.1 (HK.out.later b1) HN.out.2.2 (HP.out.later b1))
  clear b1 HT
  go_wp2_with fail
  refine HG.out.mono ?_
  rintro e w2 ⟨D, m, dc, rfl, b2, hD⟩
  have HB2 := Lib.hid (bthen HB1.out b2)
  have HD2 := Lib.hid hD
  clear b2 hD HG HB1
  by_cases h0 : planE zs ks ps = 0
  · have HOK := Lib.hid (planE_zero.1 h0)
    rw [toR_ok h0] at HD2
    rw [h0]
    have hm := HD2.out.1
    rw [toL_len, hkl] at hm
    subst hm
    have hlen := HOK.out.len
    have hn256 := arena_len HOK.out.arena
    rw [hkl] at hlen
    rw [hal] at hn256
    have HKL := Lib.hid hkl
    have HAL := Lib.hid hal
    clear h0 hkl hal
    go_wp2_with fail
    go_loopw [9, 35] (fun f i wr => ∃ (j : Nat) (ev : Int), j ≤ nk ∧ i = .int .i64 j ∧ f = .int .i64 ev ∧ Hid (ev = endN zs ks ps j) ∧ Hid (Below w2.heap.size w2 wr)) (fun _ i _ => nk - (intOf i).toNat)
    case atStart => exact ⟨0, 0, Nat.zero_le _, rfl, rfl, rfl, Below.refl _ _⟩
    case round =>
      obtain ⟨j, ev, hj, rfl, rfl, HF, HB⟩ := hrel
      have HBw := Lib.hid (bthen HB2.out HB.out)
      by_cases hlt : j < nk
      · obtain ⟨b, off, rfl, _, hcs⟩ := (HK.out.later HBw.out).2.2 (by omega)
        have hc := hcs j hlt
        have hjk : j < ks.length := by have := HKL.out; omega
        obtain ⟨b2, off2, rfl, hlt2, hts⟩ := HD2.out.2.2 (by omega)
        have HCT : Hid (∀ wx, Below w2.heap.size w2 wx → wx.cell? ⟨b2, off2 + j, none⟩ = some (.int .i64 (toN zs ks ps j))) := fun wx hb => by
          have h1 := (hb.cell (p := ⟨b2, off2 + j, none⟩) hlt2).trans (hts j hlt)
          rwa [show toL zs ks ps = toTo zs ks ps ks.length from rfl, toTo_nth hjk] at h1
        have HAT := Lib.hid (atLive_any A n c (nth ks j) zs wr HN.out.1 hnc (HA.out.later HBw.out) HOK.out.arena (HOK.out.live hjk))
        have HCN := Lib.hid (fun wx (hb : Below w.heap.size w wx) => containsR_any P np cp _ (nth ks j) ps wx HN.out.2.2 (HP.out.later hb))
        have hft := HOK.out.fits hjk
        have hto := HOK.out.to hjk
        have hae := HAL.out
        have hev := HF.out
        have hes := endN_succ (zs := zs) (ks := ks) (ps := ps) (i := j)
        rw [← hev] at hto
        have hTp := toN_pin (zs := zs) (ks := ks) (ps := ps) (i := j)
        obtain ⟨L, hL⟩ : ∃ L, lgI zs (nth ks j) = L := ⟨_, rfl⟩
        obtain ⟨T, hT⟩ : ∃ T, toN zs ks ps j = T := ⟨_, rfl⟩
        rw [hL] at HAT hft hes
        rw [hT] at HCT hft hto hes hTp
        have HES := Lib.hid hes
        have hT1 : T + L ≤ 256 := by omega
        obtain ⟨hf1, hf2, _⟩ := hft
        obtain ⟨ht1, ht2⟩ := hto
        clear hcs hts hL hT hev hes hae HF
        have c1 : (nth ks j < T) = False := eq_false (by omega)
        have c1' : (T > nth ks j) = False := eq_false (by omega)
        have c2 : (T < ev) = False := eq_false (by omega)
        by_cases hin : nth ks j ∈ ps
        · rw [show decide (nth ks j ∈ ps) = true by simpa using hin] at HCN
          have hTX := hTp hin
          have c3 : (T != nth ks j) = false := by simp [hTX]
          clear hin hTp hTX hjk
          generalize nth ks j = X at *
          go_wp2_with fail
          refine HAT.out.mono ?_
          rintro e w3 ⟨tg, RA, rn, rc, BA, bn, bc, fr, rfl, hrb, b3⟩
          have HB3 := Lib.hid ((HB.out.trans (b3.mono HB.out.size)).alloc (by have := HB.out.size; have := b3.size; omega) (.cells #[.int .i64 tg, .slice RA rn rc, .slice BA bn bc, .bool fr] 69))
          have ht8 := HCT.out _ HB3.out
          have HC8 := Lib.hid (HCN.out _ (bthen HB2.out HB3.out))
          have HO := Box.new w3 69 #[.int .i64 tg, .slice RA rn rc, .slice BA bn bc, .bool fr]
          have o1 : (w3.alloc (.cells #[.int .i64 tg, .slice RA rn rc, .slice BA bn bc, .bool fr] 69)).cell? ⟨w3.heap.size, 1, none⟩ = some (.slice RA rn rc) := HO.cell 1
          have o2 : (w3.alloc (.cells #[.int .i64 tg, .slice RA rn rc, .slice BA bn bc, .bool fr] 69)).cell? ⟨w3.heap.size, 2, none⟩ = some (.slice BA bn bc) := HO.cell 2
          have HNE : Hid (T + 1 + (rn : Int) + (bn : Int) = endN zs ks ps (j + 1)) := by show _ = _; rw [HES.out]; omega
          have e1 : wrap64 (T + 1) = T + 1 := by unfold wrap64; omega
          have e2 : wrap64 (T + 1 + (rn : Int)) = T + 1 + (rn : Int) := by unfold wrap64; omega
          have e3 : wrap64 (T + 1 + (rn : Int) + (bn : Int)) = T + 1 + (rn : Int) + (bn : Int) := by unfold wrap64; omega
          clear b3 hrb HAT hc HO HCT
          go_wp2_with fail
          refine HC8.out.mono ?_
          rintro e w4 ⟨rfl, rfl⟩
          go_wp2_with fail
          go_quiet (fail)
          go_wp2
          go_roundw
          case rel => exact ⟨j + 1, _, by omega, by go_num, rfl, (by show _ = _; rw [e3]; exact HNE.out), below_drewN HB3.out _⟩
          case measure => simp [intOf]; omega
        · rw [show decide (nth ks j ∈ ps) = false by simpa using hin] at HCN
          clear hin hTp hjk
          generalize nth ks j = X at *
          go_wp2_with fail
          refine HAT.out.mono ?_
          rintro e w3 ⟨tg, RA, rn, rc, BA, bn, bc, fr, rfl, hrb, b3⟩
          have HB3 := Lib.hid ((HB.out.trans (b3.mono HB.out.size)).alloc (by have := HB.out.size; have := b3.size; omega) (.cells #[.int .i64 tg, .slice RA rn rc, .slice BA bn bc, .bool fr] 69))
          have ht8 := HCT.out _ HB3.out
          have HC8 := Lib.hid (HCN.out _ (bthen HB2.out HB3.out))
          have HO := Box.new w3 69 #[.int .i64 tg, .slice RA rn rc, .slice BA bn bc, .bool fr]
          have o1 : (w3.alloc (.cells #[.int .i64 tg, .slice RA rn rc, .slice BA bn bc, .bool fr] 69)).cell? ⟨w3.heap.size, 1, none⟩ = some (.slice RA rn rc) := HO.cell 1
          have o2 : (w3.alloc (.cells #[.int .i64 tg, .slice RA rn rc, .slice BA bn bc, .bool fr] 69)).cell? ⟨w3.heap.size, 2, none⟩ = some (.slice BA bn bc) := HO.cell 2
          have HNE : Hid (T + 1 + (rn : Int) + (bn : Int) = endN zs ks ps (j + 1)) := by show _ = _; rw [HES.out]; omega
          have e1 : wrap64 (T + 1) = T + 1 := by unfold wrap64; omega
          have e2 : wrap64 (T + 1 + (rn : Int)) = T + 1 + (rn : Int) := by unfold wrap64; omega
          have e3 : wrap64 (T + 1 + (rn : Int) + (bn : Int)) = T + 1 + (rn : Int) + (bn : Int) := by unfold wrap64; omega
          clear b3 hrb HAT hc HO HCT
          go_wp2_with fail
          refine HC8.out.mono ?_
          rintro e w4 ⟨rfl, rfl⟩
          go_wp2_with fail
          go_quiet (fail)
          go_wp2
          go_roundw
          case rel => exact ⟨j + 1, _, by omega, by go_num, rfl, (by show _ = _; rw [e3]; exact HNE.out), below_drewN HB3.out _⟩
          case measure => simp [intOf]; omega
      · obtain rfl : j = nk := by omega
        have hev := HF.out
        have hle := (HOK.out.ends j (by have := HKL.out; omega)).2.2
        rw [← hev, HAL.out] at hle
        have c1 : (ev ≤ (n : Int)) = True := eq_true hle
        clear hev hle HF HB
        go_wp2
        go_ret
        exact ⟨rfl, HBw.out⟩
  · rw [toR_bad h0] at HD2
    obtain rfl : m = 0 := by have := HD2.out.1; simpa using this.symm
    generalize planE zs ks ps = E at *
    have hb : (E != 0) = true := by simpa using h0
    clear h0 HD2
    go_wp2
    go_ret
    exact ⟨rfl, HB2.out⟩
end Go.Proofs.Ytknbbondofijeaa
