/-
  Contracts of package carry: Order, Copy.
-/
import Derived.Test.YtjefbekdjgmmbaaCarryD
namespace Go.Proofs.Ytjefbekdjgmmbaa
open Go.RowKit

theorem traverse_any (A F : Option Addr) (n c nf cf : Nat) (zs fr : List Int) (w : World) (hn : n ≤ maxLen) (hnc : n ≤ c) (ha : Arr .u64 w w.heap.size A n zs) (hnf : nf ≤ maxLen) (hfr : Arr .i64 w w.heap.size F nf fr) :
    Calls Try.prog 56 #[.slice A n c, .slice F nf cf] w (TravP zs fr w) := by
  by_cases h : fromE zs fr = 0
  · exact traverse_good A F n c nf cf zs fr w hn hnc ha hnf hfr h
  · exact traverse_bad A F n c nf cf zs fr w hn hnc ha hnf hfr h
theorem results_tmp4C {fn : Func} {t u v x : Tmp} (h : fn.results = #[.tmp t, .tmp u, .tmp v, .tmp x]) (tmps : Array Value) (P : Program) (w : World) :
    (results fn tmps).run P w = .ok (.tuple #[tmps.getD t undef, tmps.getD u undef, tmps.getD v undef, tmps.getD x undef]) w := by
  simp [results, h]
/-- The error of laying the copies. -/
theorem lay_copyE {zs fr : List Int} {k : Int} (hz : ∀ z ∈ zs, (Lit.int .u64 z).wf = true) (h0 : fromE zs fr = 0) : layErr (obsC zs (camL zs fr)) k = copyE zs fr k := by
  have hl := camL_lives hz h0
  have ht := cam_takes hz h0
  by_cases hk : k < 0 ∨ 256 < k
  · rw [copyE_range h0 hk, layErr_range hk]
  · obtain ⟨n, rfl⟩ := Int.eq_ofNat_of_zero_le (show 0 ≤ k by omega)
    by_cases hf : n < takesN zs fr
    · rw [copyE_full h0 hk (by omega), copy_full hz hl (by omega) (by rw [ht]; exact hf)]
    · rw [copyE_ok h0 hk (by omega), obsC_lay hz hl (by omega) (by rw [ht]; omega)]
theorem SpareI.of_whole {k : IntKind} {t : TypeId} {base g n : Nat} {w : World} {xs : List Int} (h : Whole k t w g xs) (hg : base ≤ g) (hl : xs.length = n) (hn : n ≤ maxLen) : SpareI k t base w (some ⟨g, 0, none⟩) n := .inr ⟨g, xs, rfl, hg, hl, hn, h⟩

set_option maxRecDepth 8000 in
set_option maxHeartbeats 1000000 in
theorem order_any : OrderC := by
  intro A F n c nf cf zs fr w hn hnc ha hnf hfr
  have hnf' : nf ≤ maxLen := by unfold maxLen; omega
  have HT := Lib.hid (traverse_any A F n c nf cf zs fr w hn hnc ha hnf' hfr)
  have HWF := Lib.hid ha.2.1
  clear ha hfr hn hnc hnf hnf'
  go_enter Try.func33, Try.ntmps33
  go_wp2_with fail
  refine HT.out.mono ?_
  rintro e w1 ⟨b1, ⟨h0, rfl⟩ | ⟨h0, gT, gp, m, oc, sc, nd, dc, N, OA, S, D, raws, ord, rfl, _, hbox, _, _, _, hS, hD, _, hall, hcam⟩⟩
  · have HB := Lib.hid b1
    have HZ := Lib.hid h0
    have hbz : (fromE zs fr != 0) = true := by simpa using h0
    clear b1 h0 HT
    go_wp2
    go_ret2
    exact ⟨_, _, _, rfl, HB.out, Nat.le_refl _, by rw [orderO_bad HZ.out]; exact Arr.zero⟩
  · have h256 := arena_len (fromE_zero h0).1
    have hnd : nd ≤ 256 := by
      rw [← hD.1, show ord.length = (camL zs fr).length by rw [← hcam, List.length_map]]
      exact camL_len HWF.out h0
    have HW := Lib.hid (carryWords_any _ S D m sc nd dc gT gp zs ord w1 hbox hS hD hall hnd h256)
    have HB := Lib.hid b1
    have HZ := Lib.hid h0
    have HC := Lib.hid hcam
    have HDL := Lib.hid hD.1
    clear b1 h0 HT hbox hS hD hall hcam
    go_wp2_with fail
    refine HW.out.mono ?_
    rintro e w2 ⟨g, rfl, hg, b2, hW⟩
    have HB2 := Lib.hid (bthen HB.out b2)
    have hA := hW.arr hW.lt
    rw [HC.out] at hA
    rw [show (camL zs fr).length = nd by rw [← HC.out, List.length_map]; exact HDL.out] at hA
    have HA := Lib.hid hA
    clear hg b2 hW hA HW
    go_wp2
    go_ret2
    exact ⟨_, _, _, by rw [HZ.out]; rfl, HB2.out, Nat.le_refl _, by rw [orderO_ok HZ.out]; exact HA.out⟩

/-- What holds while places of copies are noted. -/
structure CtI (L : List Int) (n g : Nat) (w : World) (k : Nat) (wr : World) : Prop where
  row : Whole .i64 3 wr g (fillTo L n k)
  below : Below w.heap.size w wr

set_option maxRecDepth 8000 in
set_option maxHeartbeats 2000000 in
theorem copy_any : CopyC := by
  intro A F n c nf cf k zs fr w hn hnc ha hnf hfr hk
  have hnf' : nf ≤ maxLen := by unfold maxLen; omega
  have HT := Lib.hid (traverse_any A F n c nf cf zs fr w hn hnc ha hnf' hfr)
  have HWF := Lib.hid ha.2.1
  clear ha hfr hn hnc hnf hnf'
  go_enter Try.func25, Try.ntmps25
  go_wp2_with fail
  refine HT.out.mono ?_
  rintro e w1 ⟨b1, ⟨h0, rfl⟩ | ⟨h0, gT, gp, m, oc, sc, nd, dc, N, OA, S, D, raws, ord, rfl, _, hbox, hm, hraws, hobv, hS, hD, hM, hall, hcam⟩⟩
  · have HB := Lib.hid b1
    have HE := Lib.hid (copyE_from (n := k) h0)
    have hne : copyE zs fr k ≠ 0 := by rw [HE.out]; exact h0
    have HNE := Lib.hid hne
    have hbz : (fromE zs fr != 0) = true := by simpa using h0
    clear b1 h0 HT hne
    go_wp2
    refine bodyPost_ret (v := .tuple #[.slice none 0 0, .slice none 0 0, .slice none 0 0, .int .i64 (fromE zs fr)]) (by simp [results, Try.results25, go_sem]) rfl ?_
    exact ⟨none, 0, 0, none, 0, 0, none, 0, 0, by rw [HE.out], HB.out, Nat.le_refl _, Nat.le_refl _, Nat.le_refl _, by rw [copyB_bad HNE.out]; exact Arr.zero, by rw [copyO_bad HNE.out]; exact Arr.zero, by rw [copyT_bad HNE.out]; exact Arr.zero, SpareI.nil, SpareI.nil, SpareI.nil⟩
  · have h256 := arena_len (fromE_zero h0).1
    have hlv := camL_lives HWF.out h0
    have hlen : ord.length = nd := hD.1
    have hcl0 : (camL zs fr).length = nd := by rw [← hcam, List.length_map]; exact hlen
    have hnd : nd ≤ 256 := by rw [← hcl0]; exact camL_len HWF.out h0
    have hli : ∀ x ∈ ord, atI zs x ∈ livesI zs := fun x hx => hlv _ (by rw [← hcam]; exact List.mem_map.2 ⟨x, hx, rfl⟩)
    have hcl : ∀ x ∈ ord, ∀ r ∈ refsX zs (st zs x.toNat), InR zs r ∧ (r = -1 ∨ r ∈ ord) := fun x hx r hr => by
      have h1 := hli x hx
      have h2 := atI_pos (zs := zs) (hall x hx).1
      rw [h2] at h1
      obtain ⟨r1, r2⟩ := refs_at HWF.out (fromE_zero h0).1 h1
      have h3 := r2 r hr
      refine ⟨h3, ?_⟩
      rcases h3 with h3 | h3
      · exact .inl h3
      · refine .inr ((at_mem hall.inR (.inr h3)).1 ?_)
        rw [hcam]
        obtain ⟨t, ht, e⟩ := List.getElem_of_mem hx
        have hmem : atI zs r ∈ nxOf zs (nth (camL zs fr) t) := by
          rw [← hcam, nth_at ht, nth_get _ _ ht, e, h2]
          unfold nxOf
          rw [Int.toNat_natCast, ← r1]
          exact List.mem_map.2 ⟨r, hr, rfl⟩
        have h4 := camL_closed HWF.out h0 t (by rw [← hcam, List.length_map]; exact ht) _ hmem
        refine h4.resolve_left ?_
        rw [atI_pos h3.1]; omega
    have hobs := obsX_obsC HWF.out (fromE_zero h0).1 hall hli
    rw [hcam] at hobs
    have HCP := Lib.hid (copies_any OA D (.slice S m sc) m oc nd dc gT gp N raws zs ord w1 hbox hraws hobv hM hD hall hm hnd h256 hcl HWF.out)
    rw [hobs] at HCP
    have HB := Lib.hid b1
    have HZ := Lib.hid h0
    have HC := Lib.hid hcam
    have HCL := Lib.hid hcl0
    have HLV := Lib.hid hlv
    have HS := Lib.hid hS
    have HD := Lib.hid hD
    have HAL := Lib.hid hall
    have HBX := Lib.hid hbox
    have HLE := Lib.hid (lay_copyE (k := k) HWF.out h0)
    clear b1 h0 HT hbox hraws hobv hS hD hM hall hcam hm hlv hlen hcl0 hli hcl hobs
    go_wp2_with fail
    refine HCP.out.mono ?_
    rintro e w2 ⟨A2, c2, raws2, rfl, b2, hobs2, hsm⟩
    have HB2 := Lib.hid (bthen HB.out b2)
    have HLY := Lib.hid (layF_any A2 nd c2 w2.heap.size 0 k raws2 _ w2 hk (by omega) (Nat.le_refl _) hobs2 hsm)
    have HB12 := Lib.hid b2
    unfold LayF at HLY
    rw [HLE.out] at HLY
    clear b2 HCP hobs2 hsm
    go_wp2_with fail
    refine HLY.out.mono ?_
    rintro e w3 ⟨b3, B, q, bc, rfl, hqc, hl, hsp⟩
    have HB3 := Lib.hid (bthen HB2.out b3)
    have HB13 := Lib.hid (bthen HB12.out b3)
    have HQC := Lib.hid hqc
    have HSP := Lib.hid (hsp.less HB2.out.size)
    clear HLY b3 hsp hqc HB2 HB12
    by_cases hE : copyE zs fr k = 0
    · rcases hl with ⟨hl, _⟩ | ⟨_, hq, hB⟩
      · exact absurd hE hl
      rw [hE] at HLE
      obtain ⟨K, rfl⟩ : ∃ K : Nat, (K : Int) = k := by
        refine ⟨k.toNat, Int.toNat_of_nonneg ?_⟩
        rcases Int.lt_or_le k 0 with h | h
        · rw [copyE_range HZ.out (.inl h)] at hE; cases hE
        · exact h
      have hK : K ≤ 256 := by
        rcases Nat.lt_or_ge 256 K with h | h
        · rw [copyE_range HZ.out (.inr (by omega))] at hE; cases hE
        · exact h
      have htk : tkL zs (camL zs fr) ≤ K := by
        rw [cam_takes HWF.out HZ.out]
        rcases Nat.lt_or_ge K (takesN zs fr) with h | h
        · rw [copyE_full HZ.out (by omega) (by omega)] at hE; cases hE
        · exact h
      rw [Int.toNat_natCast] at hq hB
      obtain ⟨sp0, sp1, sp2⟩ := copy_begins HWF.out HLV.out hK htk
      have hlen := copyL_len HWF.out HLV.out htk
      have hqK : q = K := by rw [hq, hlen]
      have HSC := Lib.hid (Spots_any B q bc _ w3 (by unfold maxLen; omega) hB)
      unfold SpotsP at HSC
      have hL := spList_ok sp0
      obtain ⟨sn, hsn⟩ : ∃ sn, (spList (layWords (obsC zs (camL zs fr)) K)).length = sn := ⟨_, rfl⟩
      have hsn2 : nd ≤ sn := by rw [← hsn, hL, List.length_map, ← HCL.out]; exact sp1
      have hspot : ∀ i, i < nd → (nthG (spList (layWords (obsC zs (camL zs fr)) K)) i).1 = (nth (begC zs (camL zs fr)) i) := fun i hi => by
        have hi2 : i < (camL zs fr).length := by rw [HCL.out]; exact hi
        rw [hL, nthG_map _ _ _ (by omega), begC_nth hi2, ← sp2 i hi2]
        rfl
      rw [hsn, sp0] at HSC
      have HSPT := Lib.hid hspot
      have HBW := Lib.hid hB
      have HKK := Lib.hid hqK
      have HTK : Hid (tkL zs (camL zs fr) ≤ 256) := Nat.le_trans htk hK
      have HE0 := Lib.hid hE
      rw [hE]
      clear hE hB hq sp0 sp1 sp2 hlen hL hsn hspot hqK hK htk
      go_wp2_with fail
      refine HSC.out.mono ?_
      rintro e w4 ⟨A4, c4, rfl, b4, _, hA4, _⟩
      have HB4 := Lib.hid (bthen HB3.out b4)
      have HB14 := Lib.hid (bthen HB13.out b4)
      have HBW4 := Lib.hid (HBW.out.later b4)
      have HSP4 := Lib.hid (HSP.out.below b4 (Nat.le_refl _))
      have HA4 := Lib.hid hA4
      have q2 : w4.cell? ⟨gT, 2, none⟩ = some (.slice D nd dc) := (HBX.out.below HB14.out HBX.out.lt).cell 2
      have hmk := fun wx => run_make_row' (P := Try.prog) 23 3 (.int .i64 0) 8 Try.underlying23 carryI64 rfl .i64 .i64 nd (by omega) (by omega) wx
      have hW : Whole .i64 3 (w4.alloc (.cells (madeCells #[Value.int .i64 0] nd) 3)) w4.heap.size (List.replicate nd 0) := by
        rw [made_replicate]
        exact whole_new .i64 3 w4 _ (fun z hz => by rw [List.eq_of_mem_replicate hz]; rfl)
      have bm : Below w4.heap.size w4 (w4.alloc (.cells (madeCells #[Value.int .i64 0] nd) 3)) := (Below.refl _ _).alloc (Nat.le_refl _) _
      have HLL : Hid ((begC zs (camL zs fr)).length = nd) := by show _ = _; rw [begC_len]; exact HCL.out
      have HI : Hid (CtI (begC zs (camL zs fr)) nd w4.heap.size w4 0 (w4.alloc (.cells (madeCells #[Value.int .i64 0] nd) 3))) := ⟨by rw [fillTo_zero]; exact hW, bm⟩
      clear b4 hA4 hW bm HSC HB3 HB13 HBW HSP HLE
      go_wp2_with fail
      generalize (w4.alloc (.cells (madeCells #[Value.int .i64 0] nd) 3)) = W5 at *
      obtain ⟨g, hg⟩ : ∃ g, w4.heap.size = g := ⟨_, rfl⟩
      have HG := Lib.hid hg
      rw [hg] at HI
      rw [hg]
      clear hg hmk q2
      go_loopw [51] (fun i wr => ∃ t : Nat, t ≤ nd ∧ i = .int .i64 t ∧ Hid (CtI (begC zs (camL zs fr)) nd g w4 t wr)) (fun i _ => nd - (intOf i).toNat)
      case atStart => exact ⟨0, Nat.zero_le _, rfl, HI⟩
      case round =>
        obtain ⟨t, ht, rfl, hI⟩ := hrel
        clear HI
        by_cases hlt : t < nd
        · obtain ⟨b5, off5, rfl, _, q0, _, _, _, _⟩ := (HA4.out.below hI.out.below (Nat.le_refl _)).spot (j := t) (by omega)
          rw [HSPT.out t hlt] at q0
          have hwx : (Lit.int .i64 (nth (begC zs (camL zs fr)) t)).wf = true := by
            rw [begC_nth (by rw [HCL.out]; exact hlt)]
            have h1 := tkL_mono (zs := zs) (l := camL zs fr) (i := t) (j := (camL zs fr).length) (by rw [HCL.out]; omega) (Nat.le_refl _)
            rw [List.take_length] at h1
            exact wf_i64.2 (by have := HTK.out; omega)
          have hW2 := hI.out.row.set_ t _ hwx
          rw [fillTo_set HLL.out hlt] at hW2
          have HN : Hid (CtI (begC zs (camL zs fr)) nd g w4 (t + 1) (wr.setCell ⟨g, t, none⟩ (.int .i64 (nth (begC zs (camL zs fr)) t)))) := ⟨hW2, below_set hI.out.below (by rw [HG.out]; exact Nat.le_refl _) _ _⟩
          have d0 := hI.out.row.cell (j := t) (by rw [fillTo_len HLL.out (by omega)]; exact hlt)
          have f0 := hI.out.row.frozen t
          clear hI hW2 hwx
          generalize nth (fillTo (begC zs (camL zs fr)) nd t) t = X at *
          generalize nth (begC zs (camL zs fr)) t = Y at *
          go_wp2
          go_roundw
          case rel => exact ⟨t + 1, by omega, by go_num, HN⟩
          case measure => simp [intOf]; omega
        · obtain rfl : t = nd := by omega
          have hrow := hI.out.row
          rw [fillTo_all HLL.out] at hrow
          have HR := Lib.hid hrow
          have HB5 := Lib.hid (bthen HB4.out hI.out.below)
          have hb15 := bthen HB14.out hI.out.below
          have hBW5 := HBW4.out.later hI.out.below
          have hSP5 := HSP4.out.below hI.out.below (Nat.le_refl _)
          have HW := Lib.hid (carryWords_any _ S D m sc t dc gT gp zs ord wr (HBX.out.below hb15 HBX.out.lt) (HS.out.later hb15) (HD.out.later hb15) HAL.out hnd h256)
          have HBW5 := Lib.hid hBW5
          have HSP5 := Lib.hid hSP5
          have HGW : Hid (w.heap.size ≤ g) := by show _ ≤ _; rw [← HG.out]; exact HB4.out.size
          clear hI hrow hb15 hBW5 hSP5
          go_wp2_with fail
          refine HW.out.mono ?_
          rintro e w6 ⟨g6, rfl, hg6, b6, hW6⟩
          have hlt6 := hW6.lt
          have ho := hW6.arr hlt6
          rw [HC.out] at hW6 ho
          rw [HCL.out] at ho
          have hr6 := HR.out.below b6 HR.out.lt
          have hd := hr6.arr hr6.lt
          rw [HLL.out] at hd
          have HRES : Hid (Below w.heap.size w w6 ∧ q ≤ bc ∧ Arr .u64 w6 w6.heap.size B q (copyL zs fr K) ∧ Arr .i64 w6 w6.heap.size (some ⟨g6, 0, none⟩) t (camL zs fr) ∧ Arr .i64 w6 w6.heap.size (some ⟨g, 0, none⟩) t (begC zs (camL zs fr)) ∧ SpareI .u64 47 w.heap.size w6 B bc ∧ SpareI .i64 3 w.heap.size w6 (some ⟨g6, 0, none⟩) t ∧ SpareI .i64 3 w.heap.size w6 (some ⟨g, 0, none⟩) t) :=
            ⟨bthen HB5.out b6, HQC.out, HBW5.out.later b6, ho, hd, HSP5.out.below b6 (Nat.le_refl _), SpareI.of_whole hW6 (Nat.le_trans HB5.out.size hg6) HCL.out (by unfold maxLen; omega), SpareI.of_whole hr6 HGW.out HLL.out (by unfold maxLen; omega)⟩
          clear hlt6 ho hr6 hd hW6 b6 hg6 HW
          go_wp2
          try simp only [Exit.inBlock, Exit.then]
          refine bodyPost_ret (results_tmp4C rfl _ _ _) rfl ?_
          obtain ⟨r1, r2, r3, r4, r5, r6, r7, r8⟩ := HRES.out
          exact ⟨_, _, _, _, _, _, _, _, _, by rw [HE0.out]; rfl, r1, r2, Nat.le_refl _, Nat.le_refl _, by rw [copyB_ok HE0.out]; exact r3, by rw [copyO_ok HE0.out]; exact r4, by rw [copyT_ok HE0.out]; exact r5, r6, r7, r8⟩
    · have HNE := Lib.hid hE
      have hbz : (copyE zs fr k != 0) = true := by simpa using hE
      clear hE hl
      go_wp2
      refine bodyPost_ret (v := .tuple #[.slice none 0 0, .slice none 0 0, .slice none 0 0, .int .i64 (copyE zs fr k)]) (by simp [results, Try.results25, go_sem]) rfl ?_
      exact ⟨none, 0, 0, none, 0, 0, none, 0, 0, rfl, HB3.out, Nat.le_refl _, Nat.le_refl _, Nat.le_refl _, by rw [copyB_bad HNE.out]; exact Arr.zero, by rw [copyO_bad HNE.out]; exact Arr.zero, by rw [copyT_bad HNE.out]; exact Arr.zero, SpareI.nil, SpareI.nil, SpareI.nil⟩
end Go.Proofs.Ytjefbekdjgmmbaa
