/-
  The walk of TintTells: whatever the arguments and the memory, the call returns true and changes nothing that was there.
-/
import Derived.Test.YtcdlgohhjnpbmaaRefT
import Derived.Test.YtcdlgohhjnpbmaaRefV
namespace Go.Proofs.Ytcdlgohhjnpbmaa
open Go.RowKit

theorem sum_takes {zs fr : List Int} : sumL zs (reachL zs fr) = takesN zs fr := by
  unfold sumL takesN
  refine (cnt_covers ?_ (toNat_begins reachL_lives)).symm
  rw [List.Nodup, List.pairwise_map]
  refine List.Pairwise.imp_of_mem ?_ reachL_rise
  intro a b ha hb hlt e
  have h1 := lives_pos a (reachL_lives a ha)
  have h2 := lives_pos b (reachL_lives b hb)
  omega
theorem marks_pack {zs ms on : List Int} (h : OnMarks zs ms on) (u : U64s ms) (u' : U64s (packTo (coversN zs (on.map Int.toNat)) zs.length 0)) : ms = packTo (coversN zs (on.map Int.toNat)) zs.length 0 := by
  obtain ⟨_, _, h3, h4⟩ := marksE_zero h.form
  have hl : ms.length = (zs.length + 63) / 64 := by omega
  refine bits_ext (by rw [packTo_length]; exact hl) u u' fun k hk => ?_
  rw [packTo_bit _ _ _ (by rw [hl] at hk; exact hk)]
  rcases Nat.lt_or_ge k zs.length with hlt | hge
  · rw [h.bits k hlt]; simp [hlt]
  · rw [stray_false.1 h4 k hk (by omega)]; simp; omega
theorem markE_bad {zs fr : List Int} {st : Int} (h : fromE zs fr ≠ 0) : markE zs fr st = fromE zs fr := by unfold markE; rw [if_neg h]
theorem markE_arg {zs fr : List Int} {st : Int} (h : fromE zs fr = 0) (hs : st < 1 ∨ 256 < st) : markE zs fr st = 1 := by unfold markE; rw [if_pos h, if_pos hs]
theorem markE_ok {zs fr : List Int} {st : Int} (h : fromE zs fr = 0) (hs : ¬ (st < 1 ∨ 256 < st)) : markE zs fr st = 0 := by unfold markE; rw [if_pos h, if_neg hs]

set_option maxRecDepth 16000 in
set_option maxHeartbeats 4000000 in
theorem tintTells_walk (A F : Option Addr) (n c nf cf : Nat) (st : Int) (zs fr : List Int) (w : World) (hn : n ≤ maxLen) (hnc : n ≤ c) (ha : Arr .u64 w w.heap.size A n zs) (hnf : nf ≤ maxLen) (hfr : Arr .i64 w w.heap.size F nf fr) (hsz : nf * 8 ≤ 140737488351232) :
    Calls Try.prog 8 #[.slice A n c, .slice F nf cf, .int .i64 st] w fun e w' => e = .returned (.bool true) ∧ Below w.heap.size w w' := by
  have HA := Lib.hid ha
  have HF := Lib.hid hfr
  have HN := Lib.hid hn
  have HNF := Lib.hid hnf
  have HR := Lib.hid (Reach_any A F n c nf cf zs fr w hn hnc ha hnf hfr)
  have hl := ha.1
  have HL := Lib.hid hl
  clear ha hfr hn hnf hl
  go_enter Try.func8, Try.ntmps8
  go_wp2_with fail
  refine HR.out.mono ?_
  rintro e w1 ⟨L, m, lc, rfl, b1, h1⟩
  have HB1 := Lib.hid b1
  have HC1 := Lib.hid h1
  have HW := Lib.hid (Words_any A F n c nf cf zs fr w1 HN.out hnc (HA.out.later b1) HNF.out (HF.out.later b1))
  clear b1 h1 HR
  go_wp2_with fail
  refine HW.out.mono ?_
  rintro e w2 ⟨v, rfl, b2, h2⟩
  have HB2 := Lib.hid (bthen HB1.out b2)
  have HB12 := Lib.hid b2
  have HC2 := Lib.hid h2
  have HMK := Lib.hid (Mark_any A F n c nf cf st zs fr w2 HN.out hnc (HA.out.later HB2.out) HNF.out (HF.out.later HB2.out))
  clear b2 h2 HW HB1
  go_wp2_with fail
  refine HMK.out.mono ?_
  rintro e w3 ⟨M, k, mc, p, d, rfl, b3, h3⟩
  have ba := (Below.refl _ w3).alloc (Nat.le_refl _) (.cells #[.slice M k mc, .int .i64 p, .int .i64 d] 59)
  have bx := Box.new w3 59 #[.slice M k mc, .int .i64 p, .int .i64 d]
  have bf := (Below.refl _ (w3.alloc (.cells #[.slice M k mc, .int .i64 p, .int .i64 d] 59))).alloc (Nat.le_refl _) (.cells #[.slice F nf cf] 54)
  have by' := Box.new (w3.alloc (.cells #[.slice M k mc, .int .i64 p, .int .i64 d] 59)) 54 #[.slice F nf cf]
  have hsz3 : (w3.alloc (.cells #[.slice M k mc, .int .i64 p, .int .i64 d] 59)).heap.size = w3.heap.size + 1 := by simp
  have hb := bthen (bthen HB2.out b3) (bthen ba bf)
  have HFF := Lib.hid (fromFault_any A F n c nf cf (w3.heap.size + 1) zs fr _ HN.out (HA.out.later hb) HNF.out (HF.out.later hb) (by rw [← hsz3]; exact by'.lt) (by rw [hsz3] at by'; exact by'.cell 0))
  have BX := Lib.hid (bx.alloc (.cells #[.slice F nf cf] 54))
  have HB3 := Lib.hid hb
  have HB23 := Lib.hid (bthen b3 (bthen ba bf))
  have HBA := Lib.hid (bthen ba bf)
  have HC3 := Lib.hid h3
  clear b3 h3 ba bx bf by' hb hsz3 HMK HB2
  go_wp2_with fail
  refine HFF.out.mono ?_
  rintro e w5 ⟨rfl, b5⟩
  have HB5 := Lib.hid (bthen HB3.out b5)
  have BX5 := Lib.hid (BX.out.below b5 BX.out.lt)
  have HBA5 := Lib.hid (bthen HBA.out b5)
  have HB25 := Lib.hid (bthen HB23.out b5)
  clear b5 HFF HB3 BX HBA HB23
  obtain ⟨g, hg⟩ : ∃ g, w3.heap.size = g := ⟨_, rfl⟩
  rw [hg] at BX5 ⊢
  clear hg
  by_cases h0 : fromE zs fr = 0
  · obtain ⟨_, hm, hLA⟩ := HC1.out.resolve_left fun h => h.1 h0
    obtain ⟨_, hv⟩ := HC2.out.resolve_left fun h => h.1 h0
    have H0 := Lib.hid h0
    have h256 := arena_len (fromE_zero h0).1
    have hm256 : m ≤ 256 := by rw [hm]; exact reachL_len h256
    have HRC := Lib.hid (reached_any A F n c nf cf zs fr w5 (HA.out.later HB5.out) (HF.out.later HB5.out) hsz h0)
    rw [h0]
    have HV := Lib.hid hv
    have HL5 := Lib.hid (hLA.later (bthen HB12.out HB25.out))
    have HMM := Lib.hid hm
    clear hm hLA hv h0 HC1 HC2 HB12 HB25
    rw [← HMM.out] at HRC
    go_wp2_with fail
    refine HRC.out.mono ?_
    rintro e w6 ⟨A6, c6, rfl, b6, hA6⟩
    have HB6 := Lib.hid (bthen HB5.out b6)
    have BX6 := Lib.hid (BX5.out.below b6 BX5.out.lt)
    have HBA6 := Lib.hid (bthen HBA5.out b6)
    have HEQ := Lib.hid (equalInts L A6 m m lc c6 w6.heap.size (reachL zs fr) (reachL zs fr) w6 (HL5.out.later b6) hA6 (by unfold maxLen; omega) (by unfold maxLen; omega))
    rw [show decide (reachL zs fr = reachL zs fr) = true by simp] at HEQ
    have HA6 := Lib.hid hA6
    clear b6 hA6 HRC HB5 BX5 HL5 HBA5
    go_wp2_with fail
    refine HEQ.out.mono ?_
    rintro e w7 ⟨rfl, q, rfl⟩
    have HA7 := Lib.hid (HA6.out.later (below_drewN (Below.refl _ w6) q))
    have HB7 : Hid (Below w.heap.size w (w6.drewN q)) := below_drewN HB6.out q
    have BX7 : Hid (Box (w6.drewN q) g 59 #[.slice M k mc, .int .i64 p, .int .i64 d]) := BX6.out
    have HBA7 : Hid (Below w3.heap.size w3 (w6.drewN q)) := below_drewN HBA6.out q
    clear HEQ HA6 HB6 BX6 HBA6
    generalize w6.drewN q = W7 at *
    have HTK := Lib.hid (takes_any A A6 n c m c6 zs (reachL zs fr) W7 (HA.out.later HB7.out) (fromE_zero H0.out).1 hm256 HA7.out reachL_lives)
    rw [sum_takes, ← HV.out] at HTK
    have cv : ((v : Int) != (v : Int)) = false := by simp
    go_wp2_with fail
    refine HTK.out.mono ?_
    rintro e w8 ⟨rfl, b8⟩
    have HB8 := Lib.hid (bthen HB7.out b8)
    have BX8 := Lib.hid (BX7.out.below b8 BX7.out.lt)
    have HBA8 := Lib.hid (bthen HBA7.out b8)
    clear b8 HTK HA7 HB7 BX7 HBA7
    by_cases hs : st < 1 ∨ 256 < st
    · rw [markE_arg H0.out hs] at HC3 ⊢
      obtain ⟨_, rfl, rfl, rfl⟩ := HC3.out.resolve_right fun h => by have := h.1; omega
      have d0 : w8.cell? ⟨g, 0, none⟩ = some (.slice M 0 mc) := BX8.out.cell 0
      have d1 : w8.cell? ⟨g, 1, none⟩ = some (.int .i64 0) := BX8.out.cell 1
      have d2 : w8.cell? ⟨g, 2, none⟩ = some (.int .i64 0) := BX8.out.cell 2
      clear HC3 BX8
      rcases hs with hs | hs
      · have c1 : (st < 1) = True := eq_true hs
        clear hs
        go_wp2
        go_ret
        exact ⟨rfl, HB8.out⟩
      · have c1 : (st < 1) = False := eq_false (by omega)
        have c2 : (256 < st) = True := eq_true hs
        clear hs
        go_wp2
        go_ret
        exact ⟨rfl, HB8.out⟩
    · rw [markE_ok H0.out hs] at HC3 ⊢
      obtain ⟨_, hp, hd, ms, hms, hmo⟩ := HC3.out.resolve_left fun h => h.1 rfl
      have c1 : (st < 1) = False := eq_false fun h => hs (.inl h)
      have c2 : (256 < st) = False := eq_false fun h => hs (.inr h)
      obtain ⟨room, rfl⟩ := Int.eq_ofNat_of_zero_le (by omega : 0 ≤ st)
      rw [Int.toNat_natCast] at hp hd hmo
      have HMR := Lib.hid (markRun_any A F n c nf cf room zs fr w8 (HA.out.later HB8.out) HNF.out (HF.out.later HB8.out) H0.out (by omega))
      have HMS := Lib.hid (hms.later HBA8.out)
      have HMO := Lib.hid hmo
      have HP := Lib.hid hp
      have HD := Lib.hid hd
      clear hms hmo hp hd hs HC3 HBA8
      go_wp2_with fail
      refine HMR.out.mono ?_
      rintro e w9 ⟨D, dc, p', d', rfl, hp', hd', hDA, b9⟩
      obtain rfl : p = p' := by rw [HP.out, hp']
      obtain rfl : d = d' := by rw [HD.out, hd']
      have ba := (Below.refl _ w9).alloc (Nat.le_refl _) (.cells #[.slice D ((n + 63) / 64) dc, .int .i64 p, .int .i64 d] 59)
      have bx := Box.new w9 59 #[.slice D ((n + 63) / 64) dc, .int .i64 p, .int .i64 d]
      have hb := bthen b9 ba
      have hM9 := HMS.out.later hb
      have hD9 := hDA.later ba
      have hkn : k = (n + 63) / 64 := by
        obtain ⟨_, _, h3, _⟩ := marksE_zero HMO.out.form
        have := HMS.out.1
        have := HL.out
        omega
      have hms : ms = packTo (coversN zs ((marking (nxOf zs) room (livesI zs) fr).1.on.map Int.toNat)) n 0 := by
        have h1 := marks_pack HMO.out HMS.out.2.1 (by rw [HL.out]; exact hDA.2.1)
        rw [HL.out] at h1
        exact h1
      rw [← hms] at hD9
      rw [← hkn] at hD9 bx hM9 ba hb ⊢
      have hk4 : k ≤ maxLen := by have := HL.out; unfold maxLen; omega
      have HEW := Lib.hid (equalWords M D k k mc dc _ ms ms _ hM9 hD9 hk4 hk4)
      rw [show decide (ms = ms) = true by simp] at HEW
      have HB9 := Lib.hid (bthen HB8.out hb)
      have BX9 := Lib.hid (BX8.out.below hb BX8.out.lt)
      have BY9 := Lib.hid bx
      have d0 : (w9.alloc (.cells #[.slice D k dc, .int .i64 p, .int .i64 d] 59)).cell? ⟨g, 0, none⟩ = some (.slice M k mc) := BX9.out.cell 0
      clear hp' hd' hDA b9 ba bx hb hM9 hD9 hkn hms HMR HMS HMO HP HD BX8 HB8
      have cp : ((p : Int) == (p : Int)) = true := by simp
      have cd : ((d : Int) == (d : Int)) = true := by simp
      go_wp2_with fail
      refine HEW.out.mono ?_
      rintro e w10 ⟨rfl, q, rfl⟩
      have HBE : Hid (Below w.heap.size w ((w9.alloc (.cells #[.slice D k dc, .int .i64 p, .int .i64 d] 59)).drewN q)) := below_drewN HB9.out q
      have e1 : ((w9.alloc (.cells #[.slice D k dc, .int .i64 p, .int .i64 d] 59)).drewN q).cell? ⟨g, 1, none⟩ = some (.int .i64 p) := BX9.out.cell 1
      have e2 : ((w9.alloc (.cells #[.slice D k dc, .int .i64 p, .int .i64 d] 59)).drewN q).cell? ⟨g, 2, none⟩ = some (.int .i64 d) := BX9.out.cell 2
      have e3 : ((w9.alloc (.cells #[.slice D k dc, .int .i64 p, .int .i64 d] 59)).drewN q).cell? ⟨w9.heap.size, 1, none⟩ = some (.int .i64 p) := BY9.out.cell 1
      have e4 : ((w9.alloc (.cells #[.slice D k dc, .int .i64 p, .int .i64 d] 59)).drewN q).cell? ⟨w9.heap.size, 2, none⟩ = some (.int .i64 d) := BY9.out.cell 2
      clear HEW d0 HB9 BX9 BY9
      generalize ((w9.alloc (.cells #[.slice D k dc, .int .i64 p, .int .i64 d] 59)).drewN q) = W10 at *
      go_wp2
      go_ret
      exact ⟨rfl, HBE.out⟩
  · rw [markE_bad h0] at HC3 ⊢
    obtain ⟨_, rfl⟩ := HC1.out.resolve_right fun h => h0 h.1
    obtain ⟨_, rfl⟩ := HC2.out.resolve_right fun h => h0 h.1
    obtain ⟨_, rfl, rfl, rfl⟩ := HC3.out.resolve_right fun h => h0 h.1
    have d0 : w5.cell? ⟨g, 0, none⟩ = some (.slice M 0 mc) := BX5.out.cell 0
    have d1 : w5.cell? ⟨g, 1, none⟩ = some (.int .i64 0) := BX5.out.cell 1
    have d2 : w5.cell? ⟨g, 2, none⟩ = some (.int .i64 0) := BX5.out.cell 2
    have c1 : (fromE zs fr != 0) = true := by simpa using h0
    clear HC1 HC2 HC3 BX5 h0
    generalize fromE zs fr = E at *
    have c2 : (E == E) = true := by simp
    go_wp2
    go_ret
    exact ⟨rfl, HB5.out⟩
end Go.Proofs.Ytcdlgohhjnpbmaa
