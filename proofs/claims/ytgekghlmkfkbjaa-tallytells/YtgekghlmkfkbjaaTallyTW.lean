/-
  The walk of TallyTells, given what Counts, Drop, Rings answer ('CountsC', 'DropC', 'RingsC').
-/
import Derived.Test.YtgekghlmkfkbjaaTallyR
import Derived.Test.YtgekghlmkfkbjaaTallyD
namespace Go.Proofs.Ytgekghlmkfkbjaa
open Go.RowKit

/-- The first counts; the first of those that go round. -/
def cntsTo (zs fr : List Int) (k : Nat) : List Int := ((livesI zs).take k).map fun x => (cntO zs fr (livesI zs) x : Int)
def ringTo (zs fr : List Int) (k : Nat) : List Int := ((livesI zs).take k).filter fun x => decide (x ∉ reachL zs fr ∧ cntO zs fr (livesI zs) x ≠ 0)
section
variable {zs fr : List Int} {k : Nat}
theorem cntsTo_next (h : k < (livesI zs).length) : cntsTo zs fr (k + 1) = cntsTo zs fr k ++ [(cntO zs fr (livesI zs) (nth (livesI zs) k) : Int)] := by
  unfold cntsTo; rw [List.take_succ_eq_append_getElem h, List.map_append, nth_get _ _ h]; rfl
theorem cntsTo_len (h : k ≤ (livesI zs).length) : (cntsTo zs fr k).length = k := by unfold cntsTo; rw [List.length_map, List.length_take]; omega
theorem cntsTo_all : cntsTo zs fr (livesI zs).length = countsL zs fr := by unfold cntsTo countsL; rw [List.take_length]
theorem ringTo_yes (h : k < (livesI zs).length) (h1 : nth (livesI zs) k ∉ reachL zs fr) (h2 : cntO zs fr (livesI zs) (nth (livesI zs) k) ≠ 0) : ringTo zs fr (k + 1) = ringTo zs fr k ++ [nth (livesI zs) k] := by
  unfold ringTo
  rw [nth_get _ _ h] at *
  rw [List.take_succ_eq_append_getElem h, List.filter_append, List.filter_cons, if_pos (by simp [h1, h2]), List.filter_nil]
theorem ringTo_no (h : k < (livesI zs).length) (h1 : ¬ (nth (livesI zs) k ∉ reachL zs fr ∧ cntO zs fr (livesI zs) (nth (livesI zs) k) ≠ 0)) : ringTo zs fr (k + 1) = ringTo zs fr k := by
  unfold ringTo
  rw [nth_get _ _ h] at *
  rw [List.take_succ_eq_append_getElem h, List.filter_append, List.filter_cons, if_neg (by simpa using h1), List.filter_nil, List.append_nil]
theorem ringTo_len : (ringTo zs fr k).length ≤ k := Nat.le_trans (List.length_filter_le _ _) (by rw [List.length_take]; omega)
theorem ringTo_all : ringTo zs fr (livesI zs).length = ringsL zs fr := by unfold ringTo ringsL; rw [List.take_length]
end

theorem Own.grewOther {k : IntKind} {e : TypeId} {w w' : World} {base : Nat} {v v' u : Value} {xs : List Int} (h : Own k e w base u xs) (hg : Grew w v w' v') (hne : ∀ b, v.ownBlock = some b → u.ownBlock ≠ some b) : Own k e w' base u xs := by
  have hlt := h.rowLt
  obtain ⟨⟨hl, h2⟩, hw⟩ := h
  refine ⟨⟨hl, h2.imp id ?_⟩, hw⟩
  rintro ⟨g, cap, cur, hv, hb, hh, r⟩
  refine ⟨g, cap, cur, hv, hb, ?_, r⟩
  have hu : u.ownBlock = some g := by rw [hv]; rfl
  rw [hg.block g (hlt g hu) (fun e => hne g e hu)]
  exact hh
/-- Two lists that the call makes: an append to one leaves the other. -/
theorem push_two {w : World} {base : Nat} {v u : Value} {xs ys : List Int} {x : Int} (h : Own .i64 3 w base v xs) (hu : Own .i64 3 w base u ys) (hx : ∀ b, v.ownBlock = some b → u.ownBlock ≠ some b) (hwf : (Lit.int .i64 x).wf = true) (hn : xs.length + 1 ≤ 1073741824) (hb : base ≤ w.heap.size) :
    ∃ v' w', Sem.run Try.prog (Builtin.append_ #[23, 23] 23 #[v, .slice (some ⟨w.heap.size, 0, none⟩) 1 1]) (w.alloc (.cells #[.int .i64 x] 3)) = .ok v' w' ∧ Own .i64 3 w' base v' (xs ++ [x]) ∧ Own .i64 3 w' base u ys ∧ (∀ b, v'.ownBlock = some b → u.ownBlock ≠ some b) ∧ Below base w w' := by
  obtain ⟨v', w', h1, h2, h3⟩ := h.pushG (P := Try.prog) (t := 23) (ty := 23) Try.underlying23 tallyI64 (by omega) hwf hn hb
  refine ⟨v', w', h1, h2, hu.grewOther h3 hx, fun b e e2 => ?_, h3.below hb h.row⟩
  rcases h3.loc with hl | hl
  · exact hx b (hl ▸ e) e2
  · have := hl b e
    have := hu.rowLt b e2
    omega

set_option maxRecDepth 16000 in
set_option maxHeartbeats 8000000 in
theorem tallyTells_of (hC : CountsC) (hD : DropC) (hR : RingsC) (A F : Option Addr) (n c nf cf : Nat) (k : Int) (zs fr : List Int) (w : World) (hn : n ≤ maxLen) (hnc : n ≤ c) (ha : Arr .u64 w w.heap.size A n zs) (hnf : nf * 8 ≤ 140737488351232) (hfc : nf ≤ cf) (hf : Arr .i64 w w.heap.size F nf fr) (hk : (Lit.int .i64 k).wf = true) :
    Calls Try.prog 3 #[.slice A n c, .slice F nf cf, .int .i64 k] w fun e w' => e = .returned (.bool true) ∧ Below w.heap.size w w' := by
  have HA := Lib.hid ha
  have HF := Lib.hid hf
  have HN : Hid (n ≤ maxLen ∧ nf ≤ maxLen) := ⟨hn, by unfold maxLen; omega⟩
  have HFL := Lib.hid hf.1
  have HK := Lib.hid hk
  have H1 := Lib.hid (hC A F n c nf cf zs fr w hn hnc ha hnf hfc hf)
  have H2 := Lib.hid (fun wx (hb : Below w.heap.size w wx) => hD A F n c nf cf k zs fr wx hn hnc (ha.later hb) hnf hfc (hf.later hb) hk)
  have H3 := Lib.hid (fun wx (hb : Below w.heap.size w wx) => hR A F n c nf cf zs fr wx hn hnc (ha.later hb) hnf hfc (hf.later hb))
  clear ha hf hn hC hD hR hk
  go_enter Try.func3, Try.ntmps3
  go_wp2_with fail
  refine H1.out.mono ?_
  rintro e w1 ⟨L, l, lc, rfl, b1, _, hL⟩
  have HB1 := Lib.hid b1
  have HL1 := Lib.hid hL
  have H2 := Lib.hid (H2.out w1 b1)
  clear b1 hL H1
  go_wp2_with fail
  refine H2.out.mono ?_
  rintro e w2 ⟨M, m, mc, rfl, b2, _, hM⟩
  have HB2 := Lib.hid (bthen HB1.out b2)
  have HL2 := Lib.hid (HL1.out.later b2)
  have HM2 := Lib.hid hM
  have H3 := Lib.hid (H3.out w2 HB2.out)
  clear b2 hM H2 HB1 HL1
  go_wp2_with fail
  refine H3.out.mono ?_
  rintro e w3 ⟨R, r, rc, rfl, b3, _, hR⟩
  have HB3 := Lib.hid (bthen HB2.out b3)
  have b4 := (Below.refl _ w3).alloc (Nat.le_refl _) (.cells #[.slice F nf cf] 23)
  have bf := Box.new w3 23 #[.slice F nf cf]
  have HB4 := Lib.hid (bthen HB3.out b4)
  have HFF := Lib.hid (fromFault_any A F n c nf cf w3.heap.size zs fr _ HN.out.1 (HA.out.later HB4.out) HN.out.2 (HF.out.later HB4.out) bf.lt (bf.cell 0))
  have HL4 := Lib.hid ((HL2.out.later b3).later b4)
  have HM4 := Lib.hid ((HM2.out.later b3).later b4)
  have HR4 := Lib.hid (hR.later b4)
  clear b3 b4 bf hR H3 HB2 HB3 HL2 HM2
  go_wp2_with fail
  refine HFF.out.mono ?_
  rintro e w4 ⟨rfl, b5⟩
  have HB5 := Lib.hid (bthen HB4.out b5)
  have HL5 := Lib.hid (HL4.out.later b5)
  have HM5 := Lib.hid (HM4.out.later b5)
  have HR5 := Lib.hid (HR4.out.later b5)
  clear b5 HFF HB4 HL4 HM4 HR4
  by_cases h0 : fromE zs fr = 0
  · have H0 := Lib.hid h0
    have hao := (fromE_zero h0).1
    have h256 := arena_len hao
    rw [h0]
    rw [countsO_ok h0] at HL5
    rw [ringsO_ok h0] at HR5
    have hll : l = (livesI zs).length := by have := HL5.out.1; rw [countsL_len] at this; exact this.symm
    have hl256 : l ≤ 256 := by rw [hll]; exact lives_len h256
    have HLLV := Lib.hid hll
    have HBG := Lib.hid (begins_any A n c zs w4 (HA.out.later HB5.out) (arErr_zero hao).1)
    rw [← hll] at HBG
    have HRE := Lib.hid (fun wx (hb : Below w.heap.size w wx) => reached_any A F n c nf cf zs fr wx (HA.out.later hb) (HF.out.later hb) hnf h0)
    have HLF := Lib.hid (fun x (hx : x ∈ livesI zs) => lives_lt hx)
    have hr256 : (reachL zs fr).length ≤ 256 := Nat.le_trans (sub_length (reachL_rise.imp fun h e => by omega) reachL_lives) (lives_len h256)
    clear h0 hll
    go_wp2_with fail
    refine HBG.out.mono ?_
    rintro e w5 ⟨G, gc, rfl, b6, hG⟩
    have HB6 := Lib.hid (bthen HB5.out b6)
    have HL6 := Lib.hid (HL5.out.later b6)
    have HM6 := Lib.hid (HM5.out.later b6)
    have HR6 := Lib.hid (HR5.out.later b6)
    have HG6 := Lib.hid hG
    have HRE1 := Lib.hid (HRE.out w5 HB6.out)
    clear b6 hG HBG HB5 HL5 HM5 HR5 HRE
    obtain ⟨q, hq⟩ : ∃ q, (reachL zs fr).length = q := ⟨_, rfl⟩
    rw [hq] at HRE1 hr256
    clear hq
    go_wp2_with fail
    refine HRE1.out.mono ?_
    rintro e w6 ⟨V, vc, rfl, b7, hV⟩
    have HB7 := Lib.hid (bthen HB6.out b7)
    have HL7 := Lib.hid (HL6.out.later b7)
    have HM7 := Lib.hid (HM6.out.later b7)
    have HR7 := Lib.hid (HR6.out.later b7)
    have HG7 := Lib.hid (HG6.out.later b7)
    have HV7 := Lib.hid hV
    clear b7 hV HRE1 HB6 HL6 HM6 HR6 HG6
    go_wp2_with fail
    go_loopw [16, 17, 77] (fun vc' vr i wr => ∃ j : Nat, j ≤ l ∧ i = .int .i64 j ∧ Hid (Own .i64 3 wr w6.heap.size vc' (cntsTo zs fr j)) ∧ Hid (Own .i64 3 wr w6.heap.size vr (ringTo zs fr j)) ∧ Hid (∀ b, vc'.ownBlock = some b → vr.ownBlock ≠ some b) ∧ Hid (Below w6.heap.size w6 wr)) (fun _ _ i _ => l - (intOf i).toNat)
    case atStart => exact ⟨0, Nat.zero_le _, rfl, Own.nil, Own.nil, (fun b h => by cases h), Below.refl _ _⟩
    case round =>
      obtain ⟨j, hj, rfl, hC, hR, hX, hB⟩ := hrel
      by_cases hlt : j < l
      · have hGw := HG7.out.below hB.out (Nat.le_refl _)
        obtain ⟨b, off, rfl, _, hcs⟩ := hGw.2.2 (by omega)
        have c1 := hcs j hlt
        have hjl : j < (livesI zs).length := by have := HLLV.out; omega
        have hxm := nth_mem hjl
        have hxr := HLF.out _ hxm
        have hbw := bthen HB7.out hB.out
        have HCO := Lib.hid (countOf_any A F (some ⟨b, off, none⟩) n c nf cf l gc (nth (livesI zs) j) zs fr (livesI zs) wr (HA.out.later hbw) (HF.out.later hbw) hnf (hGw.more hB.out.size) (fromE_zero H0.out).1 (fun _ h => h) hl256)
        have hcb : cntO zs fr (livesI zs) (nth (livesI zs) j) ≤ nf + 65536 := by
          rw [cn_all]
          have h1 := cnF_le (fr := fr) (x := nth (livesI zs) j) (k := fr.length)
          have h2 := cnB_le (bl := livesI zs) (x := nth (livesI zs) j) h256 (k := (livesI zs).length) (Nat.le_refl _)
          have h3 := HFL.out
          have h4 := HLLV.out
          omega
        have HCN := Lib.hid (cntsTo_next (fr := fr) hjl)
        have HYES := Lib.hid (ringTo_yes (fr := fr) hjl)
        have HNO := Lib.hid (ringTo_no (fr := fr) hjl)
        have hcl := cntsTo_len (fr := fr) (k := j) (by omega : j ≤ (livesI zs).length)
        have hrl := ringTo_len (zs := zs) (fr := fr) (k := j)
        have hwx : (Lit.int .i64 (nth (livesI zs) j)).wf = true := wf_i64.2 (by omega)
        clear hcs hGw hbw hxm
        generalize hXX : nth (livesI zs) j = X at *
        clear hXX
        obtain ⟨Cn, hCn⟩ : ∃ C, cntO zs fr (livesI zs) X = C := ⟨_, rfl⟩
        rw [hCn] at HCO hcb HCN HYES HNO
        clear hCn
        have hwc : (Lit.int .i64 (Cn : Int)).wf = true := wf_i64.2 (by omega)
        go_wp2_with fail
        refine HCO.out.mono ?_
        rintro e w8 ⟨rfl, b8⟩
        have HB8 := Lib.hid (bthen hB.out b8)
        obtain ⟨v9, w9, hrun, hO9, hR9, hX9, hb9⟩ := push_two (hC.out.below b8) (hR.out.below b8) hX.out hwc (by omega) HB8.out.size
        rw [← HCN.out] at hO9
        have HRN := Lib.hid hrun
        have HB9 := Lib.hid (HB8.out.trans hb9)
        have HO9 := Lib.hid hO9
        have HR9 := Lib.hid hR9
        have HX9 := Lib.hid hX9
        have HIN := Lib.hid (in_ref V q vc _ X (reachL zs fr) w9 (by unfold maxLen; omega) (HV7.out.below HB9.out (Nat.le_refl _)))
        clear b8 hrun hO9 hR9 hX9 hb9 HCO HB8 HCN c1 hB hC
        by_cases h0 : Cn = 0
        · have hgt : ¬ (0 < (Cn : Int)) := by omega
          have hgt2 : ¬ (0 < Cn) := by omega
          have hNO := HNO.out (by rintro ⟨_, h2⟩; exact h2 h0)
          rw [← hNO] at HR9
          clear hNO HNO HYES HIN hR h0
          go_wp2_with (at_builtin; refine wpList_append_run rfl (.tmp 86) (.tmp 88) 23 rfl rfl rfl HRN.out ?_)
          go_roundw
          case rel => exact ⟨j + 1, by omega, by go_num, HO9, HR9, HX9, HB9⟩
          case measure => simp [intOf]; omega
        · have hgt : (Cn : Int) > 0 := by omega
          by_cases hin : X ∈ reachL zs fr
          · rw [decide_eq_true hin] at HIN
            have hNO := HNO.out (by rintro ⟨h1, _⟩; exact h1 hin)
            rw [← hNO] at HR9
            clear hNO HNO HYES hin hR
            go_wp2_with (at_builtin; refine wpList_append_run rfl (.tmp 86) (.tmp 88) 23 rfl rfl rfl HRN.out ?_)
            refine HIN.out.mono ?_
            rintro e w10 ⟨rfl, rfl⟩
            go_wp2
            go_roundw
            case rel => exact ⟨j + 1, by omega, by go_num, HO9, HR9, HX9, HB9⟩
            case measure => simp [intOf]; omega
          · rw [decide_eq_false hin] at HIN
            have hYES := HYES.out hin h0
            obtain ⟨v10, w10, hrun, hR10, hO10, hX10, hb10⟩ := push_two HR9.out HO9.out (fun b e e2 => HX9.out b e2 e) hwx (by omega) HB9.out.size
            rw [← hYES] at hR10
            have HRN2 := Lib.hid hrun
            have HB10 := Lib.hid (HB9.out.trans hb10)
            have HO10 := Lib.hid hO10
            have HR10 := Lib.hid hR10
            have HX10 : Hid (∀ b, v9.ownBlock = some b → v10.ownBlock ≠ some b) := fun b e e2 => hX10 b e2 e
            clear hYES HNO HYES hin hR hrun hO10 hR10 hX10 hb10
            go_wp2_with (at_builtin; refine wpList_append_run rfl (.tmp 86) (.tmp 88) 23 rfl rfl rfl HRN.out ?_)
            refine HIN.out.mono ?_
            rintro e w11 ⟨rfl, rfl⟩
            go_wp2_with (at_builtin; refine wpList_append_run rfl (.tmp 98) (.tmp 100) 23 rfl rfl rfl HRN2.out ?_)
            go_roundw
            case rel => exact ⟨j + 1, by omega, by go_num, HO10, HR10, HX10, HB10⟩
            case measure => simp [intOf]; omega
      · obtain rfl : j = l := by omega
        have hbw := bthen HB7.out hB.out
        have hCo := hC.out
        have hRo := hR.out
        rw [HLLV.out, cntsTo_all] at hCo
        rw [HLLV.out, ringTo_all] at hRo
        obtain ⟨C9, cc, hv1, _, hC9⟩ := hCo.arr
        obtain ⟨R9, rc9, hv2, _, hR9⟩ := hRo.arr
        subst hv1 hv2
        have hL9 := HL7.out.later hB.out
        have hRR9 := HR7.out.later hB.out
        have hM9 := HM7.out.later hB.out
        have hcl := hL9.1
        have hrl := hRR9.1
        rw [hcl] at hC9 ⊢
        rw [hrl] at hR9 ⊢
        have hr9 : r ≤ 256 := by rw [← hrl]; exact Nat.le_trans (List.length_filter_le _ _) (lives_len h256)
        have HE1 := Lib.hid (equalInts L C9 j j lc cc wr.heap.size _ _ wr hL9 hC9 (by unfold maxLen; omega) (by unfold maxLen; omega))
        rw [show decide (countsL zs fr = countsL zs fr) = true by simp] at HE1
        have HE2 := Lib.hid (fun x => equalInts R R9 r r rc rc9 wr.heap.size _ _ (wr.drewN x) (hRR9.drewN x) (hR9.drewN x) (by unfold maxLen; omega) (by unfold maxLen; omega))
        rw [show decide (ringsL zs fr = ringsL zs fr) = true by simp] at HE2
        have HBW := Lib.hid hbw
        have HM9 := Lib.hid hM9
        clear hC hR hX hB hCo hRo hC9 hR9 hL9 hRR9 hM9 hcl hrl hbw HL7 HM7 HR7 HG7 HV7
        go_wp2_with fail
        refine HE1.out.mono ?_
        rintro e w9 ⟨rfl, x1, rfl⟩
        go_wp2_with fail
        refine (HE2.out x1).mono ?_
        rintro e w9 ⟨rfl, x2, rfl⟩
        have HB9 := Lib.hid (below_drewN (below_drewN HBW.out x1) x2)
        have HM10 : Hid (Arr .i64 ((wr.drewN x1).drewN x2) ((wr.drewN x1).drewN x2).heap.size M m (dropO zs fr k)) := (HM9.out.drewN x1).drewN x2
        clear HE1 HE2 HBW HM9
        generalize (wr.drewN x1).drewN x2 = W9 at *
        by_cases hkr : k < 0 ∨ (nf : Int) ≤ k
        · have hE := dropE_range H0.out (k := k) (by rw [HFL.out]; exact hkr)
          rw [dropO_bad (by rw [hE]; decide)] at HM10
          obtain rfl : m = 0 := HM10.out.1.symm
          rw [hE]
          clear hE
          by_cases hk0 : k < 0
          · go_wp2
            go_ret
            exact ⟨rfl, HB9.out⟩
          · have hkn : (nf : Int) ≤ k := by omega
            have hkn2 : k ≥ (nf : Int) := hkn
            go_wp2
            go_ret
            exact ⟨rfl, HB9.out⟩
        · have hE := dropE_ok H0.out (k := k) (by rw [HFL.out]; exact hkr)
          rw [dropO_ok hE] at HM10
          rw [hE]
          obtain ⟨K, rfl⟩ : ∃ K : Nat, (K : Int) = k := ⟨k.toNat, by omega⟩
          rw [Int.toNat_natCast] at HM10
          have hKn : K < nf := by omega
          have hk1 : ¬ ((K : Int) < 0) := by omega
          have hk2 : ¬ ((K : Int) ≥ (nf : Int)) := by omega
          have HWO := Lib.hid (without_any F nf cf K fr W9 hnf hfc hKn (HF.out.later HB9.out))
          clear hE hkr
          go_wp2_with fail
          refine HWO.out.mono ?_
          rintro e w10 ⟨F2, f2, rfl, _, _, b10, hF2, _⟩
          have HB10 := Lib.hid (bthen HB9.out b10)
          have HM11 := Lib.hid (HM10.out.later b10)
          have HGO := Lib.hid (gone_any A F2 n c (nf - 1) f2 zs (withoutL fr K) w10 (HA.out.later HB10.out) hF2 (by omega) (without_from H0.out))
          have hgl := HM11.out.1
          rw [hgl] at HGO
          clear b10 hF2 HWO HB9 HM10
          go_wp2_with fail
          refine HGO.out.mono ?_
          rintro e w11 ⟨G2, g2, rfl, b11, hG2⟩
          have HB11 := Lib.hid (bthen HB10.out b11)
          have hm256 : m ≤ 256 := by rw [← hgl]; exact Nat.le_trans (List.length_filter_le _ _) (lives_len h256)
          have HE3 := Lib.hid (equalInts M G2 m m mc g2 w11.heap.size _ _ w11 (HM11.out.later b11) hG2 (by unfold maxLen; omega) (by unfold maxLen; omega))
          rw [show decide (goneL zs (withoutL fr K) = goneL zs (withoutL fr K)) = true by simp] at HE3
          clear b11 hG2 HGO HB10 HM11 hgl
          go_wp2_with fail
          refine HE3.out.mono ?_
          rintro e w12 ⟨rfl, x3, rfl⟩
          go_wp2
          go_ret
          exact ⟨rfl, below_drewN HB11.out x3⟩
  · have HE := Lib.hid (dropE_from (k := k) h0)
    have hb : (fromE zs fr != 0) = true := by simpa using h0
    rw [countsO_bad h0] at HL5
    rw [ringsO_bad h0] at HR5
    rw [dropO_bad (by rw [dropE_from h0]; exact h0)] at HM5
    obtain rfl : l = 0 := HL5.out.1.symm
    obtain rfl : m = 0 := HM5.out.1.symm
    obtain rfl : r = 0 := HR5.out.1.symm
    rw [HE.out]
    clear h0
    go_wp2
    go_ret
    exact ⟨rfl, HB5.out⟩
end Go.Proofs.Ytgekghlmkfkbjaa
