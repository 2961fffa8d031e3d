/-
  The walk of TintClosed: whatever the arguments and the memory, the call returns true and changes nothing that was there.
-/
import Derived.Test.YtcdlgohhjnpbmaaKeepT
namespace Go.Proofs.Ytcdlgohhjnpbmaa
open Go.RowKit

theorem Arr.later {k : IntKind} {w w' : World} {A : Option Addr} {n : Nat} {zs : List Int} (h : Arr k w w.heap.size A n zs) (hb : Below w.heap.size w w') : Arr k w' w'.heap.size A n zs := (h.below hb (Nat.le_refl _)).more hb.size
theorem bthen {w w1 w2 : World} (h : Below w.heap.size w w1) (h' : Below w1.heap.size w1 w2) : Below w.heap.size w w2 := h.trans (h'.mono h.size)
section
variable {zs fr : List Int}
theorem names_in (hz : ∀ z ∈ zs, (Lit.int .u64 z).wf = true) (h : fromE zs fr = 0) {t : Nat} (ht : (t : Int) ∈ reachL zs fr) : inAll (namesOf zs t) (reachL zs fr) = true := inAll_true fun y hy => by
  obtain ⟨h1, h2⟩ := List.mem_filter.1 hy
  rw [reachL_mem hz h] at ht ⊢
  exact .step ht (by unfold nxOf; rw [Int.toNat_natCast]; exact h1) (by simpa using h2)
theorem from_in (hz : ∀ z ∈ zs, (Lit.int .u64 z).wf = true) (h : fromE zs fr = 0) : inAll fr (reachL zs fr) = true := inAll_true fun y hy => by
  rw [reachL_mem hz h]; exact .base hy
end

set_option maxRecDepth 8000 in
set_option maxHeartbeats 2000000 in
theorem tintClosed_walk (A F : Option Addr) (n c nf cf : Nat) (zs fr : List Int) (w : World) (hn : n ≤ maxLen) (hnc : n ≤ c) (ha : Arr .u64 w w.heap.size A n zs) (hnf : nf ≤ maxLen) (hfr : Arr .i64 w w.heap.size F nf fr) :
    Calls Try.prog 9 #[.slice A n c, .slice F nf cf] w fun e w' => e = .returned (.bool true) ∧ Below w.heap.size w w' := by
  have HA := Lib.hid ha
  have HF := Lib.hid hfr
  have HN := Lib.hid hn
  have HNF := Lib.hid hnf
  have HT := Lib.hid (tints_any w)
  clear ha hfr hn hnf
  go_enter Try.func9, Try.ntmps9
  go_wp2_with fail
  refine HT.out.mono ?_
  rintro e w1 ⟨rfl, b1⟩
  have HB1 := Lib.hid b1
  have HR := Lib.hid (Reach_any A F n c nf cf zs fr w1 HN.out hnc (HA.out.later b1) HNF.out (HF.out.later b1))
  clear b1 HT
  go_wp2_with fail
  refine HR.out.mono ?_
  rintro e w2 ⟨L, m, lc, rfl, b2, hcase⟩
  have HB2 := Lib.hid (bthen HB1.out b2)
  clear b2 HR HB1
  rcases hcase with ⟨h0, rfl⟩ | ⟨h0, hm, hL⟩
  · have hb : (fromE zs fr != 0) = true := by simpa using h0
    clear h0
    go_wp2
    go_ret
    exact ⟨rfl, HB2.out⟩
  · rw [h0]
    have H0 := Lib.hid h0
    have HL := Lib.hid hL
    have hm256 : m ≤ 256 := by rw [hm]; exact reachL_len (arena_len (fromE_zero h0).1)
    have HMM := Lib.hid hm
    clear hm hL h0
    go_wp2_with fail
    go_loopw [24] (fun i wr => ∃ k : Nat, k ≤ m ∧ i = .int .i64 k ∧ Hid (Below w2.heap.size w2 wr)) (fun i _ => m - (intOf i).toNat)
    case atStart => exact ⟨0, Nat.zero_le _, rfl, Below.refl _ _⟩
    case round =>
      obtain ⟨k, hk, rfl, HBk⟩ := hrel
      by_cases hlt : k < m
      · have hmem : nth (reachL zs fr) k ∈ reachL zs fr := nth_mem (by rw [← HMM.out]; exact hlt)
        obtain ⟨t, ht, _⟩ := live_facts HA.out.2.1 (reachL_lives _ hmem)
        have hbw := bthen HB2.out HBk.out
        obtain ⟨b, off, rfl, _, hcs⟩ := (HL.out.later HBk.out).2.2 (by omega)
        have hc := hcs k hlt
        rw [ht] at hc hmem
        have HQ := Lib.hid (refsAt_any A n c zs wr HN.out hnc (HA.out.later hbw) (fromE_zero H0.out).1 (reachL_lives _ hmem))
        have HI := Lib.hid (names_in HA.out.2.1 H0.out hmem)
        have hq256 : (namesOf zs t).length ≤ maxLen := by
          have h1 : (namesOf zs t).length ≤ (named zs t).length := List.length_filter_le _ _
          have h2 : (named zs t).length ≤ zs.length := by unfold named refWords; rw [List.length_map, List.length_take, List.length_drop]; omega
          have h3 := arena_len (fromE_zero H0.out).1
          unfold maxLen; omega
        clear hcs ht hmem hbw
        go_wp2_with fail
        refine HQ.out.mono ?_
        rintro e w3 ⟨A', c', rfl, b3, hA'⟩
        have HW := Lib.hid (keepWithin_any A' (some ⟨b, off, none⟩) (namesOf zs t).length c' m lc (namesOf zs t) (reachL zs fr) w3 hq256 (by unfold maxLen; omega) hA' (HL.out.later (bthen HBk.out b3)))
        rw [HI.out] at HW
        have HB3 := Lib.hid (bthen HBk.out b3)
        clear b3 hA' HQ HI HBk
        obtain ⟨q, hq⟩ : ∃ q, (namesOf zs t).length = q := ⟨_, rfl⟩
        rw [hq] at HW ⊢
        clear hq hq256
        go_wp2_with fail
        refine HW.out.mono ?_
        rintro e w4 ⟨rfl, b4⟩
        have HB4 := Lib.hid (bthen HB3.out b4)
        clear b4 HW HB3
        go_wp2
        go_roundw
        case rel => exact ⟨k + 1, by omega, by go_num, HB4.out⟩
        case measure => simp [intOf]; omega
      · obtain rfl : k = m := by omega
        have hbw := bthen HB2.out HBk.out
        have hmx : k ≤ maxLen := by unfold maxLen; omega
        have HW := Lib.hid (keepWithin_any F L nf cf k lc fr (reachL zs fr) wr HNF.out hmx (HF.out.later hbw) (HL.out.later HBk.out))
        rw [from_in HA.out.2.1 H0.out] at HW
        clear hbw
        go_wp2_with fail
        refine HW.out.mono ?_
        rintro e w4 ⟨rfl, b4⟩
        have HB4 := Lib.hid (bthen HBk.out b4)
        have HS := Lib.hid (isSorted_yes L k lc _ (reachL zs fr) w4 hmx (HL.out.later (bthen HBk.out b4)) (reachL_rise.imp fun h => by omega))
        clear b4 HW HBk
        go_wp2_with fail
        refine HS.out.mono ?_
        rintro e w5 ⟨rfl, q, rfl⟩
        have HB5 : Hid (Below w2.heap.size w2 (w4.drewN q)) := below_drewN HB4.out q
        clear HB4 HS
        generalize w4.drewN q = W5 at *
        have HG := Lib.hid (keepBegins_any A n c zs W5 HN.out (HA.out.later (bthen HB2.out HB5.out)) (arErr_zero (fromE_zero H0.out).1).1)
        go_wp2_with fail
        refine HG.out.mono ?_
        rintro e w6 ⟨A6, c6, rfl, b6, hA6⟩
        have HB6 := Lib.hid (bthen HB5.out b6)
        have HV := Lib.hid (keepWithin_any L A6 k lc (livesI zs).length c6 (reachL zs fr) (livesI zs) w6 hmx (by have := lives_len (arena_len (fromE_zero H0.out).1); unfold maxLen; omega) (HL.out.later HB6.out) hA6)
        rw [inAll_true reachL_lives] at HV
        clear b6 hA6 HG HB5
        obtain ⟨ln, hln⟩ : ∃ q, (livesI zs).length = q := ⟨_, rfl⟩
        rw [hln] at HV ⊢
        clear hln
        go_wp2_with fail
        refine HV.out.mono ?_
        rintro e w7 ⟨rfl, b7⟩
        have HB7 := Lib.hid (bthen HB2.out (bthen HB6.out b7))
        clear b7 HV HB6
        go_wp2
        go_ret
        exact ⟨rfl, HB7.out⟩
end Go.Proofs.Ytcdlgohhjnpbmaa
