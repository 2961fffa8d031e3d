/-
  The walk of TintLeast where the two lists are not too long: the call returns true and changes nothing that was there.
-/
import Derived.Test.YtcdlgohhjnpbmaaTintCW
namespace Go.Proofs.Ytcdlgohhjnpbmaa
open Go.RowKit

set_option maxHeartbeats 400000 in
theorem cloneM_any (A : Option Addr) (n c : Nat) (zs : List Int) (w : World) (hn : n ≤ 1048576) (ha : Arr .i64 w w.heap.size A n zs) :
    Calls Try.prog 46 #[.slice A n c] w (ClonedI n zs w) := by
  have hq := fun wx => Lib.run_eql_slice_nil (P := Try.prog) wx 54 3 A n c 0 0 Try.underlying54
  rcases A with _ | x
  · have h0 : n = 0 := by
      rcases Nat.eq_zero_or_pos n with h | h
      · exact h
      · obtain ⟨_, _, h, _⟩ := ha.2.2 h; cases h
    subst h0
    have h1 : zs = [] := List.eq_nil_of_length_eq_zero ha.1
    subst h1
    clear ha
    go_enter Try.func46, Try.ntmps46
    go_wp2
    go_ret
    exact ⟨none, 0, rfl, Own.nil, Below.refl _ _⟩
  · have hb1 : Below w.heap.size w (w.alloc (.cells #[] 3)) := (Below.refl _ _).alloc (Nat.le_refl _) _
    obtain ⟨v', w', hrun, hO, hB⟩ := (Own.emptyI (w := w) (base := w.heap.size) (Nat.le_refl _)).cat (P := Try.prog) (t := 54) (ty := 54) (c := c) Try.underlying54 intI_info (by omega)
      (ha.below hb1 (Nat.le_refl _)) (by simp; omega) (by simp)
    simp only [List.nil_append] at hO
    obtain ⟨A', c', rfl, _, _⟩ := hO.arr
    have hl := ha.1
    rw [hl] at hrun hO
    have HP := Lib.hid hrun
    have HO := Lib.hid hO
    have HB := Lib.hid (hb1.trans hB)
    clear hrun hO hB ha hl hb1
    go_enter Try.func46, Try.ntmps46
    go_wp2_with (at_builtin; refine wpList_append_run rfl (.tmp 5) (.tmp 6) 54 rfl rfl rfl HP.out ?_)
    go_ret
    exact ⟨A', c', rfl, HO.out, HB.out⟩

/-- What is reached is in each set that has what one begins with and is closed. -/
theorem least_in {zs fr X : List Int} (hz : ∀ z ∈ zs, (Lit.int .u64 z).wf = true) (h : fromE zs fr = 0) (h0 : ∀ x ∈ fr, x ∈ X) (hc : ∀ j, j < (livesI zs).length → nth (livesI zs) j ∈ X → inAll (namesOf zs (nth (livesI zs) j).toNat) X = true) : inAll (reachL zs fr) X = true := inAll_true fun x hx => by
  obtain ⟨h1, h2⟩ := fromE_zero h
  rw [reachL_mem hz h] at hx
  refine (reach_least (S := fun x => x ∈ X ∧ x ∈ livesI zs) (fun x hx => ⟨h0 x hx, h2 x hx⟩) (fun x hS y hy hp => ?_) hx).1
  obtain ⟨j, hj, e⟩ := List.getElem_of_mem hS.2
  have e' : nth (livesI zs) j = x := by rw [nth_get _ _ hj]; exact e
  have hin := hc j hj (by rw [e']; exact hS.1)
  rw [e'] at hin
  refine ⟨inAll_iff.1 hin y (List.mem_filter.2 ⟨hy, by simpa using hp⟩), ?_⟩
  rcases lives_closed hz h1 x hS.2 y hy with h3 | h3
  · omega
  · exact h3

set_option maxRecDepth 16000 in
set_option maxHeartbeats 4000000 in
theorem tintLeast_walk (A F X : Option Addr) (n c nf cf nx cx : Nat) (zs fr xs : List Int) (w : World) (hn : n ≤ maxLen) (hnc : n ≤ c) (ha : Arr .u64 w w.heap.size A n zs) (hfr : Arr .i64 w w.heap.size F nf fr) (hx : Arr .i64 w w.heap.size X nx xs) (u1 : nf ≤ 1048576) (u2 : nx ≤ 1048576) :
    Calls Try.prog 10 #[.slice A n c, .slice F nf cf, .slice X nx cx] w fun e w' => e = .returned (.bool true) ∧ Below w.heap.size w w' := by
  have HA := Lib.hid ha
  have HF := Lib.hid hfr
  have HX := Lib.hid hx
  have HN := Lib.hid hn
  have HT := Lib.hid (tints_any w)
  clear ha hfr hx hn
  go_enter Try.func10, Try.ntmps10
  go_wp2_with fail
  refine HT.out.mono ?_
  rintro e w1 ⟨rfl, b1⟩
  have HB1 := Lib.hid b1
  have HR := Lib.hid (Reach_any A F n c nf cf zs fr w1 HN.out hnc (HA.out.later b1) (by unfold maxLen; omega) (HF.out.later b1))
  clear b1 HT
  go_wp2_with fail
  refine HR.out.mono ?_
  rintro e w2 ⟨L, m, lc, rfl, b2, hcase⟩
  have HB2 := Lib.hid (bthen HB1.out b2)
  clear b2 HR HB1
  rcases hcase with ⟨h0, rfl⟩ | ⟨h0, hm, hL⟩
  · have hb : (fromE zs fr != 0) = true := by simpa using h0
    clear h0
    go_wp2
    go_ret
    exact ⟨rfl, HB2.out⟩
  · rw [h0]
    have H0 := Lib.hid h0
    have h256 := arena_len (fromE_zero h0).1
    have hm256 : m ≤ 256 := by rw [hm]; exact reachL_len h256
    have HC := Lib.hid (cloneM_any X nx cx xs w2 u2 (HX.out.later HB2.out))
    have HL := Lib.hid hL
    clear hm hL h0
    go_wp2_with fail
    refine HC.out.mono ?_
    rintro e w3 ⟨A3, c3, rfl, hO3, b3⟩
    have hlx := HX.out.1
    obtain ⟨v4, w4, hrun, hO4, hB4⟩ := hO3.cat (P := Try.prog) (t := 54) (ty := 54) (c := cf) Try.underlying54 intI_info (by omega) (HF.out.later (bthen HB2.out b3)) (by omega) b3.size
    obtain ⟨A4, c4, rfl, _, hA4⟩ := hO4.arr
    have hl4 : (xs ++ fr).length = nx + nf := by rw [List.length_append, hlx, HF.out.1]
    rw [hl4] at hA4 hrun
    have HA4 := Lib.hid hA4
    have HRN := Lib.hid hrun
    have hb4 : Below w2.heap.size w2 w4 := b3.trans hB4
    have HL4 := Lib.hid (HL.out.later hb4)
    have HB4 := Lib.hid (bthen HB2.out hb4)
    have HG := Lib.hid (keepBegins_any A n c zs w4 HN.out (HA.out.later (bthen HB2.out hb4)) (arErr_zero (fromE_zero H0.out).1).1)
    clear hrun hO4 hB4 hA4 hO3 b3 hb4 HC HL HB2 hl4 hlx
    obtain ⟨N, hN⟩ : ∃ N, nx + nf = N := ⟨_, rfl⟩
    rw [hN] at HA4 HRN
    have hN2 : N ≤ 2097152 := by omega
    clear hN
    go_wp2_with (at_builtin; refine wpList_append_run rfl (.tmp 22) (.tmp 23) 54 rfl rfl rfl HRN.out ?_)
    refine HG.out.mono ?_
    rintro e w5 ⟨A5, c5, rfl, b5, hA5⟩
    have HA5 := Lib.hid hA5
    have HX5 := Lib.hid (HA4.out.later b5)
    have HL5 := Lib.hid (HL4.out.later b5)
    have HB5 := Lib.hid (bthen HB4.out b5)
    clear b5 hA5 HA4 HL4 HB4 HG HRN
    obtain ⟨ln, hln⟩ : ∃ q, (livesI zs).length = q := ⟨_, rfl⟩
    rw [hln] at HA5 ⊢
    have hln2 : ln ≤ 256 := by rw [← hln]; exact lives_len h256
    have HLN := Lib.hid hln
    clear hln
    go_wp2_with fail
    go_loopw [28] (fun i wr => ∃ k : Nat, k ≤ ln ∧ i = .int .i64 k ∧ Hid (∀ j, j < k → nth (livesI zs) j ∈ xs ++ fr → inAll (namesOf zs (nth (livesI zs) j).toNat) (xs ++ fr) = true) ∧ Hid (Below w5.heap.size w5 wr)) (fun i _ => ln - (intOf i).toNat)
    case atStart => exact ⟨0, Nat.zero_le _, rfl, (fun j hj => absurd hj (by omega)), Below.refl _ _⟩
    case round =>
      obtain ⟨k, hk, rfl, HP, HBk⟩ := hrel
      by_cases hlt : k < ln
      · have hmem : nth (livesI zs) k ∈ livesI zs := nth_mem (by rw [HLN.out]; exact hlt)
        obtain ⟨t, ht, _⟩ := live_facts HA.out.2.1 hmem
        obtain ⟨b, off, rfl, _, hcs⟩ := (HA5.out.later HBk.out).2.2 (by omega)
        have hc := hcs k hlt
        have HCT := Lib.hid (containsR_any A4 N c4 _ (nth (livesI zs) k) (xs ++ fr) wr (by unfold maxLen; omega) (HX5.out.later HBk.out))
        have HPN : Hid ((nth (livesI zs) k ∈ xs ++ fr → inAll (namesOf zs (nth (livesI zs) k).toNat) (xs ++ fr) = true) → ∀ j, j < k + 1 → nth (livesI zs) j ∈ xs ++ fr → inAll (namesOf zs (nth (livesI zs) j).toNat) (xs ++ fr) = true) := fun h j hj => by
          rcases Nat.lt_succ_iff_lt_or_eq.1 hj with h1 | h1
          · exact HP.out j h1
          · rw [h1]; exact h
        rw [ht] at hc hmem HCT HPN
        rw [Int.toNat_natCast] at HPN
        by_cases hin : (t : Int) ∈ xs ++ fr
        · rw [show decide ((t : Int) ∈ xs ++ fr) = true by simpa using hin] at HCT
          have HQ := Lib.hid (refsAt_any A n c zs wr HN.out hnc (HA.out.later (bthen HB5.out HBk.out)) (fromE_zero H0.out).1 hmem)
          have hq256 : (namesOf zs t).length ≤ maxLen := by
            have h1 : (namesOf zs t).length ≤ (named zs t).length := List.length_filter_le _ _
            have h2 : (named zs t).length ≤ zs.length := by unfold named refWords; rw [List.length_map, List.length_take, List.length_drop]; omega
            unfold maxLen; omega
          clear hcs ht hmem hin HP
          go_wp2_with fail
          refine HCT.out.mono ?_
          rintro e w6 ⟨rfl, rfl⟩
          go_wp2_with fail
          refine HQ.out.mono ?_
          rintro e w6 ⟨A6, c6, rfl, b6, hA6⟩
          have HW := Lib.hid (keepWithin_any A6 A4 (namesOf zs t).length c6 N c4 (namesOf zs t) (xs ++ fr) w6 hq256 (by unfold maxLen; omega) hA6 (HX5.out.later (bthen HBk.out b6)))
          have HB6 := Lib.hid (bthen HBk.out b6)
          clear b6 hA6 HQ HBk HCT hc
          obtain ⟨q, hq⟩ : ∃ q, (namesOf zs t).length = q := ⟨_, rfl⟩
          rw [hq] at HW ⊢
          clear hq hq256
          cases hv : inAll (namesOf zs t) (xs ++ fr)
          · rw [hv] at HW
            clear hv HPN
            go_wp2_with fail
            refine HW.out.mono ?_
            rintro e w7 ⟨rfl, b7⟩
            have HB7 := Lib.hid (bthen HB5.out (bthen HB6.out b7))
            clear b7 HW HB6
            go_wp2
            go_ret
            exact ⟨rfl, HB7.out⟩
          · rw [hv] at HW
            have HPM := Lib.hid (HPN.out fun _ => hv)
            clear hv HPN
            go_wp2_with fail
            refine HW.out.mono ?_
            rintro e w7 ⟨rfl, b7⟩
            have HB7 := Lib.hid (bthen HB6.out b7)
            clear b7 HW HB6
            go_wp2
            go_roundw
            case rel => exact ⟨k + 1, by omega, by go_num, HPM.out, HB7.out⟩
            case measure => simp [intOf]; omega
        · rw [show decide ((t : Int) ∈ xs ++ fr) = false by simpa using hin] at HCT
          have HPM := Lib.hid (HPN.out fun h => absurd h hin)
          clear hcs ht hmem hin HP HPN
          go_wp2_with fail
          refine HCT.out.mono ?_
          rintro e w6 ⟨rfl, rfl⟩
          clear HCT hc
          go_wp2
          go_roundw
          case rel => exact ⟨k + 1, by omega, by go_num, HPM.out, HBk.out⟩
          case measure => simp [intOf]; omega
      · obtain rfl : k = ln := by omega
        have HW := Lib.hid (keepWithin_any L A4 m lc N c4 (reachL zs fr) (xs ++ fr) wr (by unfold maxLen; omega) (by unfold maxLen; omega) (HL5.out.later HBk.out) (HX5.out.later HBk.out))
        rw [least_in HA.out.2.1 H0.out (fun x hx => List.mem_append_right _ hx) (fun j hj => HP.out j (by rw [HLN.out] at hj; exact hj))] at HW
        clear HP
        go_wp2_with fail
        refine HW.out.mono ?_
        rintro e w7 ⟨rfl, b7⟩
        have HB7 := Lib.hid (bthen HB5.out (bthen HBk.out b7))
        clear b7 HW HBk
        go_wp2
        go_ret
        exact ⟨rfl, HB7.out⟩
end Go.Proofs.Ytcdlgohhjnpbmaa
