/-
  The walk of CarryOrder, given what Order answers ('OrderC').
-/
import Derived.Test.YtdpbdnnghcbaaaaCarryE
import Derived.Test.YtdpbdnnghcbaaaaTintCW
import Derived.StillTailTactics
namespace Go.Proofs.Ytdpbdnnghcbaaaa
open Go.RowKit

theorem small_cam : (camL [1, 1] [0]).length = 1 := by decide
theorem names_mem {zs : List Int} {s : Nat} {y : Int} : y ∈ namesOf zs s ↔ y ∈ named zs s ∧ 0 ≤ y := by unfold namesOf; rw [List.mem_filter, decide_eq_true_eq]
/-- Who comes is one to begin with, or was named by one that came ahead. -/
theorem cam_named {zs fr : List Int} {i : Nat} (hi : i < (camL zs fr).length) (h : nth (camL zs fr) i ∉ fr) : (((camL zs fr).take i).any fun x => decide (nth (camL zs fr) i ∈ namesOf zs x.toNat)) = true := by
  obtain ⟨k, hk, h1⟩ := ((camT_ok (zs := zs) (fr := fr) zs.length).named i hi).resolve_left h
  rw [List.any_eq_true]
  refine ⟨nth (camL zs fr) k, ?_, ?_⟩
  · have hki : k < ((camL zs fr).take i).length := by rw [List.length_take]; omega
    have e : nth ((camL zs fr).take i) k = nth (camL zs fr) k := by
      rw [nth_get _ _ hki, nth_get _ _ (by omega), List.getElem_take]
    rw [← e]
    exact nth_mem hki
  · rw [decide_eq_true_eq]
    exact names_mem.2 ⟨h1, (camT_ok (zs := zs) (fr := fr) zs.length).pos _ (nth_mem hi)⟩
theorem cam_once {zs fr : List Int} {i : Nat} (hi : i < (camL zs fr).length) : nth (camL zs fr) i ∉ (camL zs fr).take i := fun h => by
  obtain ⟨k, hk, e⟩ := List.getElem_of_mem h
  rw [List.length_take] at hk
  rw [List.getElem_take, ← nth_get _ _ (by omega)] at e
  have := nodup_one (camL_nd (zs := zs) (fr := fr)) (by omega) hi e
  omega

set_option maxHeartbeats 400000 in
theorem carries_any (hC : OrderC) (w : World) : Calls Try.prog 15 #[] w fun e w' => e = .returned (.bool true) ∧ Below w.heap.size w w' := by
  have HS := Lib.hid (small_any w)
  have b1 := (Below.refl _ w).alloc (Nat.le_refl _) (.cells #[.int .u64 1, .int .u64 1] 40)
  have W1 : Whole .u64 40 (w.alloc (.cells #[.int .u64 1, .int .u64 1] 40)) w.heap.size [1, 1] := whole_new .u64 40 w [1, 1] small_wf
  obtain ⟨w1, hw1⟩ : ∃ w1, w.alloc (.cells #[.int .u64 1, .int .u64 1] 40) = w1 := ⟨_, rfl⟩
  have hsz : w1.heap.size = w.heap.size + 1 := by rw [← hw1]; simp
  rw [hw1] at b1 W1 HS
  have b2 := (Below.refl _ w1).alloc (Nat.le_refl _) (.cells #[.int .i64 0] 3)
  have W2 : Whole .i64 3 (w1.alloc (.cells #[.int .i64 0] 3)) w1.heap.size [0] := whole_new .i64 3 w1 [0] (by decide)
  have HK := Lib.hid (hC (some ⟨w.heap.size, 0, none⟩) (some ⟨w1.heap.size, 0, none⟩) 2 2 1 1 [1, 1] [0] _ (by unfold maxLen; omega) (by omega) ((W1.alloc _).arr (by simp; omega)) (by omega) (W2.arr W2.lt))
  have hE : fromE [1, 1] [0] = 0 := small_from
  have HEE := Lib.hid hE
  have HB := Lib.hid (b1.trans (b2.mono b1.size))
  clear b1 W1 b2 W2 hw1 hsz hE hC
  go_enter Try.func15, Try.ntmps15
  go_wp2_with fail
  refine HS.out.mono ?_
  rintro e w' ⟨rfl, rfl⟩
  go_wp2_with fail
  refine HK.out.mono ?_
  rintro e w3 ⟨B, m, c, rfl, hb3, _, hB⟩
  have HB3 := Lib.hid (HB.out.trans (hb3.mono HB.out.size))
  rw [HEE.out]
  obtain rfl : m = 1 := by
    have h1 := hB.1
    rw [orderO_ok HEE.out, small_cam] at h1
    exact h1.symm
  clear hB hb3 HK
  go_wp2
  go_ret
  exact ⟨rfl, HB3.out⟩

set_option maxRecDepth 8000 in
set_option maxHeartbeats 1000000 in
/-- Does an object name another? -/
theorem carryNames_any (A : Option Addr) (n c g1 g2 : Nat) (zs : List Int) (x X : Int) (w : World) (hn : n ≤ maxLen) (hnc : n ≤ c) (ha : Arr .u64 w w.heap.size A n zs) (h : arErr zs = 0) (hx : x ∈ livesI zs) (d1 : w.cell? ⟨g1, 0, none⟩ = some (.slice A n c)) (d2 : w.cell? ⟨g2, 0, none⟩ = some (.int .i64 X)) (l1 : g1 < w.heap.size) (l2 : g2 < w.heap.size) :
    Calls Try.prog 19 #[.int .i64 x, .pointer (some ⟨g1, 0, none⟩), .pointer (some ⟨g2, 0, none⟩)] w fun e w' => e = .returned (.bool (decide (X ∈ namesOf zs x.toNat))) ∧ Below w.heap.size w w' := by
  obtain ⟨t, rfl⟩ := Int.eq_ofNat_of_zero_le (lives_lt hx).1
  rw [Int.toNat_natCast]
  have HQ := Lib.hid (refsAt_any A n c zs w.drew hn hnc (ha.drewN 1) h hx)
  have hnl : (namesOf zs t).length ≤ maxLen := by
    have h1 : (namesOf zs t).length ≤ (named zs t).length := List.length_filter_le _ _
    have h2 : (named zs t).length ≤ zs.length := by unfold named refWords; rw [List.length_map, List.length_take, List.length_drop]; omega
    have := arena_len h
    unfold maxLen
    omega
  have HNL : Hid ((namesOf zs t).length ≤ maxLen) := hnl
  clear ha h hx hnl
  go_enter Try.func19, Try.ntmps19
  go_wp2_with fail
  go_region_held3 (fun w' => w'.cell? ⟨g1, 0, none⟩ = some (.slice A n c) ∧ w'.cell? ⟨g2, 0, none⟩ = some (.int .i64 X))
    (first
      | go_keep
      | exact ⟨y1, y2⟩)
    (first
      | (go_at_call 17; refine (containsR_any A7 (namesOf zs t).length c7 _ X (namesOf zs t) w7 HNL.out hA7).mono ?_; rintro e w8 ⟨rfl, rfl⟩)
      | (go_at_call 20; refine HQ.out.mono ?_; rintro e w7 ⟨A7, c7, rfl, b7, hA7⟩; have b7 : Below w.heap.size w w7 := below_of_drew b7; have y1 := (b7.cell (p := ⟨g1, 0, none⟩) l1).trans d1; have y2 := (b7.cell (p := ⟨g2, 0, none⟩) l2).trans d2))
  rename_i hHeld
  have HB := Lib.hid b7
  clear hHeld y1 y2 b7 hA7
  obtain ⟨V, hV⟩ : ∃ V, decide (X ∈ namesOf zs t) = V := ⟨_, rfl⟩
  have HV := Lib.hid hV
  rw [hV]
  clear hV
  go_wp2
  go_ret
  exact ⟨by rw [HV.out]; rfl, HB.out⟩

set_option maxRecDepth 8000 in
set_option maxHeartbeats 4000000 in
theorem carryOrder_of (hC : OrderC) (A F : Option Addr) (n c nf cf : Nat) (zs fr : List Int) (w : World) (hn : n ≤ maxLen) (hnc : n ≤ c) (ha : Arr .u64 w w.heap.size A n zs) (hnf : nf * 8 ≤ 140737488351232) (hf : Arr .i64 w w.heap.size F nf fr) :
    Calls Try.prog 4 #[.slice A n c, .slice F nf cf] w fun e w' => e = .returned (.bool true) ∧ Below w.heap.size w w' := by
  have HA := Lib.hid ha
  have HF := Lib.hid hf
  have HN : Hid (n ≤ maxLen ∧ nf ≤ maxLen) := ⟨hn, by unfold maxLen; omega⟩
  have HWF := Lib.hid ha.2.1
  have HCC := Lib.hid (fun wx => carries_any hC wx)
  have HC := Lib.hid (fun wx (hb : Below w.heap.size w wx) => hC A F n c nf cf zs fr wx hn hnc (ha.later hb) hnf (hf.later hb))
  have b0 := (Below.refl _ w).alloc (Nat.le_refl _) (.cells #[.slice A n c] 22)
  have HX0 := Lib.hid (Box.new w 22 #[.slice A n c])
  have HB0 := Lib.hid b0
  clear ha hf hn hnf hC b0
  go_enter Try.func4, Try.ntmps4
  go_wp2_with fail
  refine (HCC.out _).mono ?_
  rintro e w1 ⟨rfl, b1⟩
  have HB1 := Lib.hid (bthen HB0.out b1)
  have HX1 := Lib.hid (HX0.out.below b1 HX0.out.lt)
  obtain ⟨ga, hga⟩ : ∃ g, w.heap.size = g := ⟨_, rfl⟩
  have HGA := Lib.hid hga
  have x0 : w1.cell? ⟨ga, 0, none⟩ = some (.slice A n c) := by rw [← hga]; exact HX1.out.cell 0
  have HT := Lib.hid (HC.out w1 HB1.out)
  rw [hga] at HX1
  clear b1 HB0 HX0 HCC HC
  go_wp2_with fail
  clear hga x0
  refine HT.out.mono ?_
  rintro e w2 ⟨L, lk, lc, rfl, b2, hlc, hL⟩
  have HB2 := Lib.hid (bthen HB1.out b2)
  have HL2 := Lib.hid hL
  have HX2 := Lib.hid (HX1.out.below b2 HX1.out.lt)
  clear b2 hL HT HB1 HX1
  by_cases h0 : fromE zs fr = 0
  · have H0 := Lib.hid h0
    rw [h0]
    rw [orderO_ok h0] at HL2
    have hlk := HL2.out.1
    have hlen := camL_len HWF.out h0
    rw [hlk] at hlen
    have HLK := Lib.hid hlk
    have HLV := Lib.hid (camL_lives HWF.out h0)
    have HRC := Lib.hid (Reach_any A F n c nf cf zs fr w2 HN.out.1 hnc (HA.out.later HB2.out) HN.out.2 (HF.out.later HB2.out))
    have HPM := Lib.hid (camL_perm HWF.out h0)
    have x0 : w2.cell? ⟨ga, 0, none⟩ = some (.slice A n c) := HX2.out.cell 0
    clear hlk h0
    go_wp2_with fail
    clear x0
    refine HRC.out.mono ?_
    rintro e w3 ⟨R, rk, rc, rfl, b3, h3⟩
    rw [H0.out]
    obtain ⟨_, hrk, hR⟩ := h3.resolve_left fun h => h.1 H0.out
    obtain rfl : rk = lk := by rw [hrk, ← HPM.out.length_eq, HLK.out]
    have HR3 := Lib.hid hR
    have HB3 := Lib.hid (bthen HB2.out b3)
    have HL3 := Lib.hid (HL2.out.later b3)
    have HX3 := Lib.hid (HX2.out.below b3 HX2.out.lt)
    clear b3 h3 hrk hR HRC HB2 HL2 HX2
    go_wp2_with fail
    go_loopw [33] (fun x wr => ∃ i : Nat, i ≤ rk ∧ x = .int .i64 i ∧ Hid (Below w3.heap.size w3 wr)) (fun x _ => rk - (intOf x).toNat)
    case atStart => exact ⟨0, Nat.zero_le _, rfl, Below.refl _ _⟩
    case round =>
      obtain ⟨i, hi, rfl, HBw⟩ := hrel
      by_cases hlt : i < rk
      · have hil : i < (camL zs fr).length := by rw [HLK.out]; exact hlt
        obtain ⟨b, off, rfl, hb, hcs⟩ := (HL3.out.below HBw.out (Nat.le_refl _)).2.2 (by omega)
        have hc := hcs i hlt
        have hbw : Below w.heap.size w wr := HB3.out.trans (HBw.out.mono HB3.out.size)
        have hNM := cam_named (zs := zs) (fr := fr) hil
        have hON := cam_once (zs := zs) (fr := fr) hil
        have ba := (Below.refl _ wr).alloc (Nat.le_refl _) (.cells #[.int .i64 (nth (camL zs fr) i)] 3)
        have HBA := Lib.hid (bthen hbw ba)
        have HB3A := Lib.hid (HBw.out.trans (ba.mono HBw.out.size))
        have HBX := Lib.hid (Box.new wr 3 #[.int .i64 (nth (camL zs fr) i)])
        have hXA := (HX3.out.below HBw.out HX3.out.lt).below ba (Nat.lt_of_lt_of_le HX3.out.lt HBw.out.size)
        have HXA := Lib.hid hXA
        obtain ⟨E, hs1, hE1⟩ := run_upto (P := Try.prog) Try.underlying23 (by kernel_rfl) (some ⟨b, off, none⟩) rk lc i i rfl (by omega)
        have hE := hE1 _ _ rfl
        subst hE
        have hLA := (HL3.out.below HBw.out (Nat.le_refl _)).below ba (Nat.le_trans (Nat.le_refl _) HBw.out.size)
        have hcut : Arr .i64 (wr.alloc (.cells #[.int .i64 (nth (camL zs fr) i)] 3)) (wr.alloc (.cells #[.int .i64 (nth (camL zs fr) i)] 3)).heap.size (some ⟨b, off, none⟩) i ((camL zs fr).take i) := by
          have h1 := (hLA.cut (p := 0) (q := i) (D := some ⟨b, off, none⟩) (by omega) (fun b' off' e _ => by injection e with e; injection e with e1 e2; subst e1; subst e2; rfl)).more (Nat.le_trans HBw.out.size ba.size)
          rwa [List.drop_zero] at h1
        have HCUT := Lib.hid hcut
        have HLV2 : Hid (∀ x ∈ (camL zs fr).take i, x ∈ livesI zs) := fun x hx => HLV.out x (List.mem_of_mem_take hx)
        have HNX := Lib.hid hNM
        have HOX := Lib.hid hON
        clear hE1 hLA hcut hNM hON hcs ba hXA hbw
        obtain ⟨X, hX⟩ : ∃ X, nth (camL zs fr) i = X := ⟨_, rfl⟩
        rw [hX] at hc HBA HB3A HBX HXA HCUT HNX HOX
        clear hX
        obtain ⟨wa, hwa⟩ : ∃ wa, wr.alloc (.cells #[.int .i64 X] 3) = wa := ⟨_, rfl⟩
        obtain ⟨gx, hgx⟩ : ∃ gx, wr.heap.size = gx := ⟨_, rfl⟩
        have HCF : Hid (Calls Try.prog 17 #[.slice F nf cf, .int .i64 X] wa fun e w' => e = .returned (.bool (decide (X ∈ fr))) ∧ wa = w') := containsR_any F nf cf _ X fr wa HN.out.2 (by rw [← hwa]; exact HF.out.later HBA.out)
        rw [hwa] at HBA HB3A HBX HXA HCUT
        rw [hgx] at HBX
        have HGW : Hid (w3.heap.size ≤ wa.heap.size) := HB3A.out.size
        have HCN : Hid (Calls Try.prog 18 #[.slice (some ⟨b, off, none⟩) i lc, .func (.func 19) #[] #[.pointer (some ⟨ga, 0, none⟩), .pointer (some ⟨gx, 0, none⟩)]] wa fun e w' => e = .returned (.bool (((camL zs fr).take i).any fun x => decide (X ∈ namesOf zs x.toNat))) ∧ Below wa.heap.size wa w') :=
          containsFnIn (some ⟨b, off, none⟩) i lc 19 #[.pointer (some ⟨ga, 0, none⟩), .pointer (some ⟨gx, 0, none⟩)] (fun x => decide (X ∈ namesOf zs x.toNat)) ((camL zs fr).take i) wa (by unfold maxLen; omega) HCUT.out Try.call19 fun x hx wx hb =>
            carryNames_any A n c ga gx zs x X wx HN.out.1 hnc (HA.out.later (bthen HBA.out hb)) (fromE_zero H0.out).1 (HLV2.out x hx) ((HXA.out.below hb HXA.out.lt).cell 0) ((HBX.out.below hb HBX.out.lt).cell 0) (HXA.out.below hb HXA.out.lt).lt (HBX.out.below hb HBX.out.lt).lt
        have x0 : wa.cell? ⟨gx, 0, none⟩ = some (.int .i64 X) := HBX.out.cell 0
        have HWA := Lib.hid hwa
        clear hwa
        by_cases hin : X ∈ fr
        · rw [show decide (X ∈ fr) = true by simpa using hin] at HCF
          have HCUT9 := HCUT
          clear hin
          go_wp2_with fail
          rw [HWA.out]
          clear hgx
          refine HCF.out.mono ?_
          rintro e w5 ⟨rfl, rfl⟩
          go_wp2_with fail
          have HON : Hid (Calls Try.prog 17 #[.slice (some ⟨b, off, none⟩) i lc, .int .i64 X] (wa.drewN 1) fun e w' => e = .returned (.bool false) ∧ wa.drewN 1 = w') := by
            have h1 := containsR_any (some ⟨b, off, none⟩) i lc _ X ((camL zs fr).take i) (wa.drewN 1) (by unfold maxLen; omega) (HCUT9.out.drewN 1)
            rw [show decide (X ∈ (camL zs fr).take i) = false by simpa using HOX.out] at h1
            exact h1
          refine wp_region_still_lit (by kernel_rfl) (by kernel_rfl) ?_
          iterate 7 still_step
          still_call (HON.out.mono fun _ _ h => ⟨h.1, h.2.symm⟩)
          iterate 1 still_step
          refine wpStill_nil ?_
          have HBN : Hid (Below w3.heap.size w3 (wa.drewN 1)) := below_drewN HB3A.out 1
          go_wp2
          go_roundw
          case rel => exact ⟨i + 1, by omega, by go_num, HBN⟩
          case measure => simp [intOf]; omega
        · rw [show decide (X ∈ fr) = false by simpa using hin] at HCF
          rw [HNX.out hin] at HCN
          clear hin
          go_wp2_with fail
          rw [HWA.out]
          clear hgx
          refine HCF.out.mono ?_
          rintro e w5 ⟨rfl, rfl⟩
          go_wp2_with fail
          clear x0
          refine HCN.out.mono ?_
          rintro e w6 ⟨rfl, b6⟩
          have HCUT9 := Lib.hid (HCUT.out.later b6)
          have HB6 := Lib.hid (HB3A.out.trans (b6.mono HB3A.out.size))
          have x0 : w6.cell? ⟨gx, 0, none⟩ = some (.int .i64 X) := (HBX.out.below b6 HBX.out.lt).cell 0
          clear b6
          go_wp2_with fail
          have HON : Hid (Calls Try.prog 17 #[.slice (some ⟨b, off, none⟩) i lc, .int .i64 X] (w6.drewN 1) fun e w' => e = .returned (.bool false) ∧ w6.drewN 1 = w') := by
            have h1 := containsR_any (some ⟨b, off, none⟩) i lc _ X ((camL zs fr).take i) (w6.drewN 1) (by unfold maxLen; omega) (HCUT9.out.drewN 1)
            rw [show decide (X ∈ (camL zs fr).take i) = false by simpa using HOX.out] at h1
            exact h1
          refine wp_region_still_lit (by kernel_rfl) (by kernel_rfl) ?_
          iterate 7 still_step
          still_call (HON.out.mono fun _ _ h => ⟨h.1, h.2.symm⟩)
          iterate 1 still_step
          refine wpStill_nil ?_
          have HBN : Hid (Below w3.heap.size w3 (w6.drewN 1)) := below_drewN HB6.out 1
          go_wp2
          go_roundw
          case rel => exact ⟨i + 1, by omega, by go_num, HBN⟩
          case measure => simp [intOf]; omega
      · obtain rfl : i = rk := by omega
        have hin : inAll (camL zs fr) (reachL zs fr) = true := inAll_true fun x hx => HPM.out.mem_iff.1 hx
        have HWI := Lib.hid (keepWithin_any L R i lc i rc (camL zs fr) (reachL zs fr) wr (by unfold maxLen; omega) (by unfold maxLen; omega) ((HL3.out.below HBw.out (Nat.le_refl _)).more HBw.out.size) ((HR3.out.below HBw.out (Nat.le_refl _)).more HBw.out.size))
        rw [hin] at HWI
        have HBE := Lib.hid (HB3.out.trans (HBw.out.mono HB3.out.size))
        have hee : ((i : Int) == (i : Int)) = true := by simp
        clear hin HBw hlt
        go_wp2_with fail
        refine HWI.out.mono ?_
        rintro e w9 ⟨rfl, b9⟩
        have HB9 := Lib.hid (bthen HBE.out b9)
        clear b9 HWI
        go_wp2
        go_ret
        exact ⟨rfl, HB9.out⟩
  · rw [orderO_bad h0] at HL2
    obtain rfl : lk = 0 := by have := HL2.out.1; simpa using this.symm
    generalize fromE zs fr = E at *
    have hb : (E != 0) = true := by simpa using h0
    clear h0 HL2
    go_wp2
    go_ret
    exact ⟨rfl, HB2.out⟩
end Go.Proofs.Ytdpbdnnghcbaaaa
