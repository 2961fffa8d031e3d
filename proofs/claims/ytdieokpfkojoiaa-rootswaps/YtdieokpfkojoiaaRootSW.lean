/-
  The walk of RootSwaps: whatever the arguments and the memory, the call returns true and changes nothing that was there.
-/
import Derived.Test.YtdieokpfkojoiaaRootNW
namespace Go.Proofs.Ytdieokpfkojoiaa
open Go.RowKit

/-- The first 'j' numbers of 'to', turned about: no two are one, none is null. -/
structure Turned (n : Nat) (to back : List Int) (j : Nat) : Prop where
  len : back.length = n
  inn : ∀ x ∈ back, -1 ≤ x ∧ x < j
  at_ : ∀ i, i < j → 0 ≤ nth to i ∧ nth back (nth to i).toNat = i
theorem nth_setI (zs : List Int) (i j : Nat) (v : Int) (h : i ≠ j) : nth (zs.set i v) j = nth zs j := by
  simp [nth, h]
theorem Turned.start (n : Nat) (to : List Int) : Turned n to (List.replicate n (-1)) 0 :=
  ⟨by simp, fun x hx => by rw [List.eq_of_mem_replicate hx]; omega, fun i hi => absurd hi (by omega)⟩
theorem Turned.step {n : Nat} {to back : List Int} {j : Nat} (h : Turned n to back j) (h0 : 0 ≤ nth to j) (hn : nth to j < n) (hfree : nth back (nth to j).toNat < 0) : Turned n to (back.set (nth to j).toNat j) (j + 1) := by
  refine ⟨by rw [List.length_set]; exact h.len, fun x hx => ?_, fun i hi => ?_⟩
  · rcases List.mem_or_eq_of_mem_set hx with h1 | h1
    · have := h.inn x h1; omega
    · omega
  · have hl := h.len
    rcases Nat.lt_succ_iff_lt_or_eq.1 hi with h1 | h1
    · obtain ⟨a, b⟩ := h.at_ i h1
      refine ⟨a, ?_⟩
      have hne : (nth to j).toNat ≠ (nth to i).toNat := by
        intro e
        rw [e, b] at hfree
        omega
      rw [nth_setI _ _ _ _ hne]
      exact b
    · subst h1
      refine ⟨h0, ?_⟩
      rw [nth_get _ _ (by rw [List.length_set]; omega)]
      simp
theorem Turned.back {n : Nat} {to back l : List Int} (h : Turned n to back n) (hl : ∀ v ∈ l, -1 ≤ v ∧ v < n) : swapL (swapL l to) back = l := by
  unfold swapL
  rw [List.map_map]
  conv => rhs; rw [← List.map_id l]
  apply List.map_congr_left
  intro k hk
  have := hl k hk
  show swapTo back (swapTo to k) = k
  by_cases e : k = -1
  · subst e
    simp [swapTo]
  · have e1 : swapTo to k = nth to k.toNat := if_neg e
    rw [e1]
    obtain ⟨a, b⟩ := h.at_ k.toNat (by omega)
    unfold swapTo
    rw [if_neg (by omega), b]
    omega
theorem Turned.ok {n : Nat} {to back l : List Int} (hE : swapE n l to = 0) (h : Turned n to back n) : swapE n (swapL l to) back = 0 := by
  obtain ⟨h0, _, _⟩ := swapE_ok.1 hE
  obtain ⟨h1, h2, h3⟩ := rootE_ok.1 h0
  exact swapE_ok.2 ⟨rootE_ok.2 ⟨h1, by rw [swapL_len]; exact h2, swapL_in hE⟩, by rw [h.len], h.inn⟩

set_option maxHeartbeats 1000000 in
theorem rootSwaps_walk (A A' : Option Addr) (k c k' c' : Nat) (n : Int) (zs to : List Int) (w : World) (hk : k ≤ maxLen) (hk' : k' ≤ maxLen) (ha : Arr .i64 w w.heap.size A k zs) (ht : Arr .i64 w w.heap.size A' k' to) :
    Calls Try.prog 6 #[.slice A k c, .int .i64 n, .slice A' k' c'] w fun e w' => e = .returned (.bool true) ∧ Below w.heap.size w w' := by
  have HA := Lib.hid ha
  have HT := Lib.hid ht
  have HK := Lib.hid hk
  have HK' := Lib.hid hk'
  clear ha ht hk hk'
  go_enter Try.func6, Try.ntmps6
  go_wp2_with fail
  refine (roots_any _).mono ?_
  rintro e w1 ⟨rfl, hb1⟩
  have HB1 := Lib.hid hb1
  have HA1 := Lib.hid ((HA.out.below hb1 (Nat.le_refl _)).more hb1.size)
  have HT1 := Lib.hid ((HT.out.below hb1 (Nat.le_refl _)).more hb1.size)
  clear hb1
  by_cases hE : swapE n zs to = 0
  · obtain ⟨h0, hlt, hin'⟩ := swapE_ok.1 hE
    obtain ⟨hn, h32, hin⟩ := rootE_ok.1 h0
    rw [HT.out.1] at hlt
    have HE := Lib.hid hE
    have HIN := Lib.hid hin
    have HIN' := Lib.hid hin'
    subst hlt
    have hk256 : k' ≤ 256 := by omega
    clear hE h0 hin hin' h32 hn
    go_wp2_with fail
    refine (rootSwap_ok A A' k c k' c' k' zs to _ HA1.out HT1.out HE.out).mono ?_
    rintro e w2 ⟨A2, m2, c2, rfl, hm2, hO2, hb2⟩
    rw [swapL_len, HA.out.1] at hm2
    subst hm2
    have HB2 := Lib.hid (HB1.out.trans (hb2.mono HB1.out.size))
    have HO2 := Lib.hid hO2.arrM.2.2
    clear hb2 hO2 HA1 HT1 HB1
    have hbA := (Below.refl _ w2).alloc (Nat.le_refl _) (.cells #[.int .i64 (-1)] 3)
    have hzA : (w2.alloc (.cells #[.int .i64 (-1)] 3)).heap.size = w2.heap.size + 1 := by simp
    have hR := repeat_one w2.heap.size k' (-1) (w2.alloc (.cells #[.int .i64 (-1)] 3)) hk256 (by decide) (by rw [hzA]; omega) (by simp)
    have HR := Lib.hid hR
    have HBA := Lib.hid hbA
    have HZA := Lib.hid hzA
    clear hR hbA hzA
    go_wp2_with fail
    refine HR.out.mono ?_
    rintro e w3 ⟨rfl, hW3, hb3⟩
    rw [HZA.out] at hW3 hb3 ⊢
    have hb3' : Below w2.heap.size w2 w3 := HBA.out.trans (hb3.mono (by omega))
    have HB3 := Lib.hid (HB2.out.trans (hb3'.mono HB2.out.size))
    have HO3 := Lib.hid ((HO2.out.below hb3' (Nat.le_refl _)).more (Nat.le_refl _))
    have HG : Hid (w2.heap.size + 1 < w3.heap.size ∧ w.heap.size ≤ w2.heap.size) := ⟨hW3.lt, HB2.out.size⟩
    have HW3 := Lib.hid hW3
    clear hb3 hb3' hW3 HR HBA HZA HO2
    obtain ⟨g, hg⟩ : ∃ g, w2.heap.size + 1 = g := ⟨_, rfl⟩
    rw [hg] at HW3 ⊢
    have HGG := Lib.hid hg
    clear hg
    go_wp2_with fail
    go_loopw [33] (fun i wr => ∃ j : Nat, j ≤ k' ∧ i = .int .i64 j ∧ ∃ back, Hid (Whole .i64 3 wr g back) ∧ Hid (Turned k' to back j) ∧ Hid (Below w.heap.size w wr) ∧ Hid (Arr .i64 wr g A2 k (swapL zs to))) (fun i _ => k' - (intOf i).toNat)
    case atStart => exact ⟨0, by omega, rfl, _, HW3, Turned.start _ _, HB3.out, (HO3.out.more (by have := HGG.out; omega))⟩
    case round =>
      obtain ⟨j, hj, rfl, back, HW, HTn, HB, HO⟩ := hrel
      have HLb := Lib.hid HTn.out.len
      by_cases hlt : j < k'
      · obtain ⟨b, off, rfl, _, hcs⟩ := (HT.out.below HB.out (Nat.le_refl _)).2.2 (by omega)
        have hc := hcs j hlt
        clear hcs
        by_cases hneg : nth to j < 0
        · have c1 : (nth to j < 0) = True := eq_true hneg
          clear hneg
          generalize nth to j = X at *
          go_wp2
          go_ret
          exact ⟨rfl, HB.out⟩
        · have hx1 := HIN'.out _ (nth_mem (l := to) (j := j) (by rw [HT.out.1]; exact hlt))
          have HNEG := Lib.hid hneg
          obtain ⟨x, hx⟩ : ∃ x : Nat, nth to j = x := ⟨(nth to j).toNat, by omega⟩
          have hxk : x < k' := by omega
          have hcb : wr.cell? ⟨g, x, none⟩ = some (.int .i64 (nth back x)) := HW.out.cell (by rw [HLb.out]; exact hxk)
          have hfb := HW.out.frozen x
          have HX := Lib.hid hx
          rw [hx] at hc
          clear hx hneg hx1
          by_cases hfree : 0 ≤ nth back x
          · have c1 : (0 ≤ nth back x) = True := eq_true hfree
            clear hfree
            generalize nth back x = Y at *
            go_wp2
            go_ret
            exact ⟨rfl, HB.out⟩
          · have c1 : (0 ≤ nth back x) = False := eq_false hfree
            have HS := Lib.hid (HTn.out.step (by have := HX.out; omega) (by have := HX.out; omega) (by rw [HX.out, Int.toNat_natCast]; omega))
            rw [HX.out, Int.toNat_natCast] at HS
            have HWs := Lib.hid (HW.out.set_ x (j : Int) (wf_i64.2 (by omega)))
            have HBs := Lib.hid (HB.out.setCell (p := ⟨g, x, none⟩) (by have := HGG.out; have := HG.out; show w.heap.size ≤ g; omega) (.int .i64 j))
            have HOs : Hid (Arr .i64 (wr.setCell ⟨g, x, none⟩ (.int .i64 j)) g A2 k (swapL zs to)) := HO.out.keep fun p hp => by
              have hbb : Below g wr (wr.setCell ⟨g, x, none⟩ (.int .i64 j)) := (Below.refl g wr).setCell (p := ⟨g, x, none⟩) (Nat.le_refl _) _
              exact hbb.cell hp
            clear hfree HW HB HO HTn
            generalize nth back x = Y at *
            go_wp2
            go_roundw
            case rel => exact ⟨j + 1, by omega, by go_num, _, HWs, HS, HBs, HOs⟩
            case measure => simp [intOf]; omega
      · obtain rfl : j = k' := by omega
        have hgs := HW.out.lt
        have HAr := Lib.hid ((HA.out.below HB.out (Nat.le_refl _)).more HB.out.size)
        have hbk := HW.out.arr hgs
        rw [HTn.out.len] at hbk
        have HBK := Lib.hid hbk
        have HOr := Lib.hid (HO.out.more (Nat.le_of_lt hgs))
        clear hbk hgs
        go_wp2_with fail
        refine (rootSwap_ok A2 (some ⟨g, 0, none⟩) k c2 j j j (swapL zs to) back _ HOr.out HBK.out (Turned.ok HE.out HTn.out)).mono ?_
        rintro e w5 ⟨A5, m5, c5, rfl, hm5, hO5, hb5⟩
        rw [swapL_len, swapL_len, HA.out.1] at hm5
        subst hm5
        rw [HTn.out.back HIN.out] at hO5
        have HB5 := Lib.hid (HB.out.trans (hb5.mono HB.out.size))
        have HA5 := Lib.hid ((HA.out.below HB5.out (Nat.le_refl _)).more HB5.out.size)
        have HO5 := Lib.hid hO5.arrM.2.2
        clear hb5 hO5
        go_wp2_with fail
        refine (equalInts A5 A k k c5 c _ zs zs _ HO5.out HA5.out HK.out HK.out).mono ?_
        rintro e w9 ⟨rfl, q, rfl⟩
        rw [show decide (zs = zs) = true by simp]
        have HB9 := Lib.hid (below_drewN HB5.out q)
        go_wp2
        go_ret
        exact ⟨rfl, HB9.out⟩
  · have c2 : (swapE n zs to != 0) = true := by simpa using hE
    go_wp2_with fail
    refine (rootSwap_bad A A' k c k' c' n zs to _ HK.out HK'.out HA1.out HT1.out hE).mono ?_
    rintro e w2 ⟨rfl, rfl⟩
    clear hE
    generalize swapE n zs to = E at *
    go_wp2
    go_ret
    exact ⟨rfl, HB1.out⟩
end Go.Proofs.Ytdieokpfkojoiaa
