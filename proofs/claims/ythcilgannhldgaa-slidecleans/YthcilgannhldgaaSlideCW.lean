/-
  The walk of SlideCleans, given what Clean answers.
-/
import Derived.Test.YthcilgannhldgaaSlideE
import Derived.Test.YthcilgannhldgaaSlideR
import Derived.Test.YthcilgannhldgaaIntCat
import Derived.Test.YthcilgannhldgaaRef
namespace Go.Proofs.Ythcilgannhldgaa
open Go.RowKit

/-- Where the first 'i' of the list go. -/
def nowTo (zs fr ps : List Int) (i : Nat) : List Int := (fr.take i).map (trI zs (keepL zs fr ps) ps)
theorem nowTo_succ {zs fr ps : List Int} {i : Nat} (h : i < fr.length) : nowTo zs fr ps (i + 1) = nowTo zs fr ps i ++ [trI zs (keepL zs fr ps) ps (nth fr i)] := by
  unfold nowTo
  rw [List.take_succ_eq_append_getElem h, List.map_append, nth_get _ _ h]
  rfl
theorem nowTo_all {zs fr ps : List Int} : nowTo zs fr ps fr.length = fr.map (trI zs (keepL zs fr ps) ps) := by unfold nowTo; rw [List.take_length]
theorem nowTo_len {zs fr ps : List Int} {i : Nat} (h : i ≤ fr.length) : (nowTo zs fr ps i).length = i := by unfold nowTo; rw [List.length_map, List.length_take]; omega
theorem cleanE_from {zs fr ps : List Int} (h : fromE zs (fr ++ ps) ≠ 0) : cleanE zs fr ps = fromE zs (fr ++ ps) := if_neg h
theorem cleanE_form {zs fr ps : List Int} (h : fromE zs (fr ++ ps) = 0) (h1 : riseB ps = false) : cleanE zs fr ps = 3 := by unfold cleanE; rw [if_pos h, if_neg (by simp [h1])]

set_option maxRecDepth 8000 in
set_option maxHeartbeats 4000000 in
theorem slideCleans_of (hC : CleanC) (A F P : Option Addr) (n c nf cf np cp : Nat) (zs fr ps : List Int) (w : World) (hn : n ≤ maxLen) (hnc : n ≤ c) (ha : Arr .u64 w w.heap.size A n zs) (hnf : nf * 8 ≤ 140737488351232) (hf : Arr .i64 w w.heap.size F nf fr) (hnp : np * 8 ≤ 140737488351232) (hp : Arr .i64 w w.heap.size P np ps) :
    Calls Try.prog 4 #[.slice A n c, .slice F nf cf, .slice P np cp] w fun e w' => e = .returned (.bool true) ∧ Below w.heap.size w w' := by
  have HA := Lib.hid ha
  have HF := Lib.hid hf
  have HP := Lib.hid hp
  have hfl := hf.1
  have hpl := hp.1
  have HT := Lib.hid (hC A F P n c nf cf np cp zs fr ps w hn hnc ha hnf hf hnp hp)
  have HNM : Hid (n ≤ maxLen ∧ nf ≤ maxLen ∧ np ≤ maxLen) := ⟨hn, by unfold maxLen; omega, by unfold maxLen; omega⟩
  clear ha hf hp hn hC
  go_enter Try.func4, Try.ntmps4
  go_wp2_with fail
  refine HT.out.mono ?_
  rintro e w1 ⟨B, m, bc, D, q, dc, rfl, b1, hmc, hB, hD⟩
  have HBA := Lib.hid hB
  have HDA := Lib.hid hD
  have HB1 := Lib.hid b1
  have bf := (Below.refl _ w1).alloc (Nat.le_refl _) (.cells #[.slice F nf cf, .slice P np cp] 23)
  have BF := Box.new w1 23 #[.slice F nf cf, .slice P np cp]
  have HB2 := Lib.hid (bthen b1 bf)
  have HBA2 := Lib.hid (hB.later bf)
  have HDA2 := Lib.hid (hD.later bf)
  have HFF := Lib.hid (fromFaults_any A n c 2 w1.heap.size (fun i => if i = 0 then F else P) (fun i => if i = 0 then nf else np) (fun i => if i = 0 then cf else cp) (fun i => if i = 0 then fr else ps) zs (fr ++ ps) _ HNM.out.1 (HA.out.later HB2.out) (by omega)
    (fun i hi => by rcases i with _ | i; exact HNM.out.2.1; exact HNM.out.2.2) (fun i hi => by rcases i with _ | i; exact HF.out.later HB2.out; exact HP.out.later HB2.out) BF.lt (fun i hi => by rcases i with _ | _ | i; exact BF.cell 0; exact BF.cell 1; omega) (fun x => two_lists x))
  clear b1 hB hD HT bf BF HBA HDA HB1
  go_wp2_with fail
  refine HFF.out.mono ?_
  rintro e w3 ⟨rfl, b3⟩
  have HB3 := Lib.hid (bthen HB2.out b3)
  have HBA3 := Lib.hid (HBA2.out.later b3)
  have HDA3 := Lib.hid (HDA2.out.later b3)
  clear b3 HFF HB2 HBA2 HDA2
  by_cases h0 : fromE zs (fr ++ ps) = 0
  · rw [h0]
    have HRS := Lib.hid (rises_any P np cp _ ps w3 HNM.out.2.2 (HP.out.later HB3.out))
    cases hr : riseB ps
    · rw [hr] at HRS
      have he := cleanE_form h0 hr
      rw [cleanB_bad (by rw [he]; decide)] at HBA3
      rw [cleanN_bad (by rw [he]; decide)] at HDA3
      rw [he]
      obtain rfl : m = 0 := by have := HBA3.out.1; simpa using this.symm
      obtain rfl : q = 0 := by have := HDA3.out.1; simpa using this.symm
      clear h0 hr he HBA3 HDA3
      go_wp2_with fail
      refine HRS.out.mono ?_
      rintro e w4 ⟨rfl, x, rfl⟩
      have HB4 : Hid (Below w.heap.size w (w3.drewN x)) := below_drewN HB3.out x
      go_wp2
      go_ret
      exact ⟨rfl, HB4.out⟩
    · rw [hr] at HRS
      have he : cleanE zs fr ps = 0 := cleanE_zero.2 ⟨h0, hr⟩
      have HCO := Lib.hid (clean_ok HA.out.2.1 he)
      rw [cleanB_ok he] at HBA3
      rw [cleanN_ok he] at HDA3
      rw [he]
      have hpn := HCO.out.ok.plen
      rw [hpl] at hpn
      have hal := HA.out.1
      have hn256 := arena_len HCO.out.ok.arena
      have hm := HBA3.out.1
      rw [HCO.out.ok.slid_len] at hm
      have hq := HDA3.out.1
      rw [List.length_map, hfl] at hq
      have HM : Hid (m ≤ maxLen ∧ q ≤ maxLen) := ⟨by unfold maxLen; omega, by unfold maxLen; omega⟩
      have H0 := Lib.hid h0
      have hko := HCO.out.ok.len
      obtain ⟨nk, hnk⟩ : ∃ nk, (keepL zs fr ps).length = nk := ⟨_, rfl⟩
      have HNKL := Lib.hid hnk
      rw [hnk] at hko
      clear h0 hr he hm hal hn256 hnk
      subst hq
      go_wp2_with fail
      refine HRS.out.mono ?_
      rintro e w4 ⟨rfl, x, hx⟩
      have HB4 : Hid (Below w.heap.size w w4) := by show Below _ _ _; rw [← hx]; exact below_drewN HB3.out x
      have HBA4 : Hid (Arr .u64 w4 w4.heap.size B m (slidL zs (keepL zs fr ps) ps)) := by show Arr _ _ _ _ _ _; rw [← hx]; exact HBA3.out.drewN x
      have HDA4 : Hid (Arr .i64 w4 w4.heap.size D nf (fr.map (trI zs (keepL zs fr ps) ps))) := by show Arr _ _ _ _ _ _; rw [← hx]; exact HDA3.out.drewN x
      have bf := (Below.refl _ w4).alloc (Nat.le_refl _) (.cells #[.slice F nf cf, .slice P np cp] 23)
      have BF := Box.new w4 23 #[.slice F nf cf, .slice P np cp]
      have HB5 := Lib.hid (bthen HB4.out bf)
      have HBA5 := Lib.hid (HBA4.out.later bf)
      have HDA5 := Lib.hid (HDA4.out.later bf)
      have HCT := Lib.hid (concat2 F P nf cf np cp w4.heap.size fr ps _ (by omega) BF.lt (HF.out.later HB5.out) (HP.out.later HB5.out) (BF.cell 0) (BF.cell 1))
      clear hx bf BF HRS HB3 HBA3 HDA3 HB4 HBA4 HDA4
      go_wp2_with fail
      refine HCT.out.mono ?_
      rintro e w6 ⟨C, cc, rfl, hCC, b6⟩
      have HB6 := Lib.hid (bthen HB5.out b6)
      have HBA6 := Lib.hid (HBA5.out.later b6)
      have HDA6 := Lib.hid (HDA5.out.later b6)
      have HRC := Lib.hid (reached_gen A C n c (nf + np) cc zs (fr ++ ps) w6 (HA.out.later HB6.out) hCC (fun ext h1 h2 => by
        have h3 : (ps ++ ext).Nodup := by
          rw [List.nodup_append]
          refine ⟨HCO.out.ok.pr.imp fun h e => by omega, h1, fun a ha b hb hab => ?_⟩
          subst hab
          exact (h2 a hb).2 (List.mem_append_right _ ha)
        have h4 := sub_length h3 (L := livesI zs) fun x hx => by
          rcases List.mem_append.1 hx with hx | hx
          · exact HCO.out.ok.kl x (HCO.out.ok.pk x hx)
          · exact (h2 x hx).1
        rw [List.length_append] at h4
        have h5 := lives_len (arena_len HCO.out.ok.arena)
        omega) H0.out)
      clear b6 hCC HCT HB5 HBA5 HDA5
      go_wp2_with fail
      refine HRC.out.mono ?_
      rintro e w7 ⟨K, ck, rfl, b7, hK⟩
      change Arr .i64 w7 w7.heap.size K (keepL zs fr ps).length (keepL zs fr ps) at hK
      rw [show (reachL zs (fr ++ ps)).length = nk from HNKL.out]
      rw [HNKL.out] at hK
      have HB7 := Lib.hid (bthen HB6.out b7)
      have HBA7 := Lib.hid (HBA6.out.later b7)
      have HDA7 := Lib.hid (HDA6.out.later b7)
      have HK7 := Lib.hid hK
      have HPL := Lib.hid (planned_any A K P n c nk ck np cp zs (keepL zs fr ps) ps w7 (HA.out.later HB7.out) hK HNM.out.2.2 (HP.out.later HB7.out) HCO.out.ok)
      clear b7 hK HRC HB6 HBA6 HDA6
      go_wp2_with fail
      refine HPL.out.mono ?_
      rintro e w8 ⟨v, rfl, hO, b8⟩
      obtain ⟨E, ec, rfl, _, hE⟩ := hO.arr
      rw [toL_len, HNKL.out] at hE ⊢
      have HB8 := Lib.hid (bthen HB7.out b8)
      have HBA8 := Lib.hid (HBA7.out.later b8)
      have HDA8 := Lib.hid (HDA7.out.later b8)
      have HK8 := Lib.hid (HK7.out.later b8)
      have HE8 := Lib.hid hE
      clear b8 hO hE HPL HB7 HBA7 HDA7 HK7
      have HOW0 : Hid (Own .i64 3 w8 w8.heap.size (.slice none 0 0) (nowTo zs fr ps 0)) := Own.nil
      go_wp2_with fail
      go_loopw [13, 63] (fun v i wx => ∃ (j : Nat) (u : Value), j ≤ nf ∧ i = .int .i64 j ∧ u = v ∧ Hid (Own .i64 3 wx w8.heap.size u (nowTo zs fr ps j)) ∧ Hid (Below w8.heap.size w8 wx)) (fun _ i _ => nf - (intOf i).toNat)
      case atStart => exact ⟨0, _, Nat.zero_le _, rfl, rfl, HOW0, Below.refl _ _⟩
      case round =>
        obtain ⟨j, u, hjn, rfl, hu, HO, HB⟩ := hrel
        subst hu
        clear HOW0
        by_cases hlt : j < nf
        · have HBw := Lib.hid (bthen HB8.out HB.out)
          obtain ⟨b, off, rfl, _, hcs⟩ := (HF.out.later HBw.out).2.2 (by omega)
          have hc := hcs j hlt
          have hjf : j < fr.length := by omega
          have hin : nth fr j ∈ keepL zs fr ps := HCO.out.sub _ (List.mem_append_left _ (nth_mem hjf))
          obtain ⟨hq1, hq2⟩ := plN_in hin
          obtain ⟨r, hr⟩ : ∃ r, plN (keepL zs fr ps) (nth fr j) = r := ⟨_, rfl⟩
          rw [hr] at hq1 hq2
          have htr := HCO.out.ok.tr_to hq1
          rw [hq2] at htr
          have hrk : r < nk := by have := HNKL.out; omega
          obtain ⟨b2, off2, rfl, _, hes⟩ := (HE8.out.later HB.out).2.2 (by omega)
          have he := hes r hrk
          rw [nth_toL hq1] at he
          have HPC := Lib.hid (place_any K nk ck _ (nth fr j) (keepL zs fr ps) wr (by unfold maxLen; omega) (HK8.out.later HB.out))
          have HPR : Hid (∀ x, PlaceP (keepL zs fr ps) (nth fr j) x → x = (r : Int)) := fun x hx => by
            rcases hx with ⟨q', rfl, hq', e⟩ | ⟨_, hno⟩
            · have h1 := HCO.out.ok.pl hq'
              rw [e, hr] at h1
              rw [h1]
            · exact absurd hq2 (hno r hq1)
          have hft := HCO.out.ok.fits hq1
          have hn256 := arena_len HCO.out.ok.arena
          obtain ⟨v', w', hrun, hO', hB'⟩ := HO.out.pushB (P := Try.prog) (t := 23) (ty := 23) Try.underlying23 intI_info (x := toN zs (keepL zs fr ps) ps r) (wf_i64.2 (by omega)) (by rw [nowTo_len (by omega)]; omega) HB.out.size
          rw [← htr, ← nowTo_succ hjf] at hO'
          have HR := Lib.hid hrun
          have HO' := Lib.hid hO'
          have HB' := Lib.hid (HB.out.trans hB')
          clear hcs hes hin hq1 hq2 hr htr hft hn256 hrun hO' hB' hjf HO HB
          generalize toN zs (keepL zs fr ps) ps r = T at *
          generalize nth fr j = X at *
          go_wp2_with fail
          refine HPC.out.mono ?_
          rintro e w9 ⟨⟨x, rfl, hx⟩, rfl⟩
          have hxr := HPR.out x hx
          subst hxr
          clear hx HPC HPR
          go_wp2_with (at_builtin; refine wpList_append_run rfl (.tmp 67) (.tmp 74) 23 rfl rfl rfl HR.out ?_)
          go_roundw
          case rel => exact ⟨j + 1, _, hlt, by go_num, rfl, HO', HB'⟩
          case measure => simp [intOf]; omega
        · obtain rfl : j = nf := by omega
          have HBw := Lib.hid (bthen HB8.out HB.out)
          obtain ⟨Q, qc, rfl, _, hQ⟩ := HO.out.arr
          rw [nowTo_len (by omega)] at hQ ⊢
          rw [show nowTo zs fr ps j = fr.map (trI zs (keepL zs fr ps) ps) by rw [← nowTo_all, hfl]] at hQ
          have HQ := Lib.hid hQ
          have HBAw := Lib.hid (HBA8.out.later HB.out)
          have HDAw := Lib.hid (HDA8.out.later HB.out)
          have HSL := Lib.hid (slid_any A K P n c nk ck np cp zs (keepL zs fr ps) ps wr (HA.out.later HBw.out) (by unfold maxLen; omega) (HK8.out.later HB.out) HNM.out.2.2 (HP.out.later HBw.out) HCO.out.ok)
          clear hQ HO HB HB8 HBA8 HDA8 HK8 HE8
          go_wp2_with fail
          refine HSL.out.mono ?_
          rintro e w9 ⟨b9, h9⟩
          rcases h9 with ⟨_, Z, mz, zc, rfl, hZ⟩ | ⟨hx, _⟩
          · obtain rfl : mz = m := by have := hZ.1; have := HBAw.out.1; omega
            have HB9 := Lib.hid (bthen HBw.out b9)
            have HEW := Lib.hid (equalWords B Z mz mz bc zc w9.heap.size _ _ w9 (HBAw.out.later b9) hZ HM.out.1 HM.out.1)
            have HEI := Lib.hid (fun x => equalInts D Q j j dc qc w9.heap.size _ _ (w9.drewN x) ((HDAw.out.later b9).drewN x) ((HQ.out.later b9).drewN x) HM.out.2 HM.out.2)
            simp only [decide_true] at HEW HEI
            clear hZ b9 HSL HBw HBAw HDAw HQ
            go_wp2_with fail
            refine HEW.out.mono ?_
            rintro e w10 ⟨rfl, x, rfl⟩
            have HE2 := Lib.hid (HEI.out x)
            go_wp2_with fail
            refine HE2.out.mono ?_
            rintro e w11 ⟨rfl, y, rfl⟩
            have HB11 : Hid (Below w.heap.size w (w9.drewN (x + y))) := below_drewN HB9.out (x + y)
            go_wp2
            go_ret
            exact ⟨rfl, HB11.out⟩
          · rw [HCO.out.held] at hx; cases hx
  · have he := cleanE_from h0
    rw [cleanB_bad (by rw [he]; exact h0)] at HBA3
    rw [cleanN_bad (by rw [he]; exact h0)] at HDA3
    rw [he]
    obtain rfl : m = 0 := by have := HBA3.out.1; simpa using this.symm
    obtain rfl : q = 0 := by have := HDA3.out.1; simpa using this.symm
    clear he HBA3 HDA3
    generalize fromE zs (fr ++ ps) = E at *
    have hb : (E != 0) = true := by simpa using h0
    have hb2 : (E == 0) = false := by simpa using h0
    have hee : (E == E) = true := by simp
    clear h0
    go_wp2
    go_ret
    exact ⟨rfl, HB3.out⟩
end Go.Proofs.Ythcilgannhldgaa
