/-
  The walk of CarryTells, given what Order and Copy answer ('OrderC', 'CopyC').
-/
import Derived.Test.YtdpbdnnghcbaaaaCarryE
import Derived.Test.YtdpbdnnghcbaaaaRefForm
import Derived.Test.YtdpbdnnghcbaaaaRefTk
namespace Go.Proofs.Ytdpbdnnghcbaaaa
open Go.RowKit

/-- Where the first 'i' of them begin. -/
def begTo (zs l : List Int) (i : Nat) : List Int := (List.range i).map fun i => (tkL zs (l.take i) : Int)
theorem begTo_len {zs l : List Int} {i : Nat} : (begTo zs l i).length = i := by simp [begTo]
theorem begTo_next {zs l : List Int} {i : Nat} : begTo zs l (i + 1) = begTo zs l i ++ [(tkL zs (l.take i) : Int)] := by unfold begTo; rw [List.range_succ, List.map_append]; rfl
theorem begTo_all {zs l : List Int} : begTo zs l l.length = begC zs l := rfl

set_option maxRecDepth 16000 in
set_option maxHeartbeats 8000000 in
theorem carryTells_of (hO : OrderC) (hC : CopyC) (A F : Option Addr) (n c nf cf : Nat) (k : Int) (zs fr : List Int) (w : World) (hn : n ≤ maxLen) (hnc : n ≤ c) (ha : Arr .u64 w w.heap.size A n zs) (hnf : nf * 8 ≤ 140737488351232) (hf : Arr .i64 w w.heap.size F nf fr) (hk : (Lit.int .i64 k).wf = true) :
    Calls Try.prog 3 #[.slice A n c, .slice F nf cf, .int .i64 k] w fun e w' => e = .returned (.bool true) ∧ Below w.heap.size w w' := by
  have HA := Lib.hid ha
  have HF := Lib.hid hf
  have HN : Hid (n ≤ maxLen ∧ nf ≤ maxLen ∧ nf * 8 ≤ 140737488351232) := ⟨hn, by unfold maxLen; omega, hnf⟩
  have HK := Lib.hid hk
  have HWF := Lib.hid ha.2.1
  have HT := Lib.hid (hO A F n c nf cf zs fr w hn hnc ha hnf hf)
  have HC := Lib.hid (fun wx (hb : Below w.heap.size w wx) => hC A F n c nf cf k zs fr wx hn hnc (ha.later hb) hnf (hf.later hb) hk)
  clear ha hf hn hnf hO hC
  go_enter Try.func3, Try.ntmps3
  go_wp2_with fail
  refine HT.out.mono ?_
  rintro e w1 ⟨L, lk, lc, rfl, b1, _, hL⟩
  have HB1 := Lib.hid b1
  have HL1 := Lib.hid hL
  have HC1 := Lib.hid (HC.out w1 b1)
  clear b1 hL HT HC
  go_wp2_with fail
  refine HC1.out.mono ?_
  rintro e w2 ⟨B, m, bc, O, p, oc, D, q, dc, rfl, b2, _, _, _, hB, hO, hD, _⟩
  have HB2 := Lib.hid (bthen HB1.out b2)
  have b3 := (Below.refl _ w2).alloc (Nat.le_refl _) (.cells #[.slice F nf cf] 23)
  have bf := Box.new w2 23 #[.slice F nf cf]
  have HB3 := Lib.hid (bthen HB2.out b3)
  have HFF := Lib.hid (fromFault_any A F n c nf cf w2.heap.size zs fr _ HN.out.1 (HA.out.later HB3.out) HN.out.2.1 (HF.out.later HB3.out) bf.lt (bf.cell 0))
  have HL2 := Lib.hid ((HL1.out.later b2).later b3)
  have HBA := Lib.hid (hB.later b3)
  have HOA := Lib.hid (hO.later b3)
  have HDA := Lib.hid (hD.later b3)
  clear b2 b3 bf hB hO hD HL1 HB1 HC1 HB2
  go_wp2_with fail
  refine HFF.out.mono ?_
  rintro e w3 ⟨rfl, b4⟩
  have HB4 := Lib.hid (bthen HB3.out b4)
  have HL4 := Lib.hid (HL2.out.later b4)
  have HBA4 := Lib.hid (HBA.out.later b4)
  have HOA4 := Lib.hid (HOA.out.later b4)
  have HDA4 := Lib.hid (HDA.out.later b4)
  clear b4 HFF HB3 HL2 HBA HOA HDA
  by_cases h0 : fromE zs fr = 0
  · have H0 := Lib.hid h0
    rw [h0]
    rw [orderO_ok h0] at HL4
    have hlen := camL_len HWF.out h0
    have HCM := Lib.hid (cameTo_any A F n c nf cf zs fr w3 (HA.out.later HB4.out) HN.out.2.1 (HF.out.later HB4.out) h0)
    have hlk := HL4.out.1
    have HLV := Lib.hid (camL_lives HWF.out h0)
    have HTK : Hid (tkL zs (camL zs fr) = takesN zs fr) := cam_takes HWF.out h0
    clear h0
    unfold CameP at HCM
    rw [hlk] at HCM hlen
    have HLK := Lib.hid hlk
    clear hlk
    go_wp2_with fail
    refine HCM.out.mono ?_
    rintro e w5 ⟨W, wc, rfl, b5, hW⟩
    obtain ⟨_, _, hv, hwc, hW'⟩ := hW.arr
    injection hv with e1 e2 e3
    subst e1
    rw [← e2, ← e3] at hwc
    have hWW : Arr .i64 w5 w5.heap.size W lk (camL zs fr) := by rw [← e2] at hW'; exact hW'
    have HB5 := Lib.hid (bthen HB4.out b5)
    have HL5 := Lib.hid (HL4.out.later b5)
    have HBA5 := Lib.hid (HBA4.out.later b5)
    have HOA5 := Lib.hid (HOA4.out.later b5)
    have HDA5 := Lib.hid (HDA4.out.later b5)
    have HWW := Lib.hid hWW
    have HEQ := Lib.hid (equalInts L W lk lk lc wc w5.heap.size _ _ w5 HL5.out hWW (by unfold maxLen; omega) (by unfold maxLen; omega))
    rw [show decide (camL zs fr = camL zs fr) = true by simp] at HEQ
    clear hW e2 e3 hW' hWW b5 HCM HB4 HL4 HBA4 HOA4 HDA4
    go_wp2_with fail
    refine HEQ.out.mono ?_
    rintro e w6 ⟨rfl, x, hx⟩
    have HB6 : Hid (Below w.heap.size w w6) := by show Below _ _ _; rw [← hx]; exact below_drewN HB5.out x
    have b6 : Below w5.heap.size w5 w6 := by rw [← hx]; exact below_drewN (Below.refl _ _) x
    have HBA6 := Lib.hid (HBA5.out.later b6)
    have HOA6 := Lib.hid (HOA5.out.later b6)
    have HDA6 := Lib.hid (HDA5.out.later b6)
    have HWW6 := Lib.hid (HWW.out.later b6)
    clear hx b6 HEQ HB5 HL5 HBA5 HOA5 HDA5 HWW
    by_cases hr : k < 0 ∨ 256 < k
    · have hE := copyE_range H0.out hr
      have hz : copyE zs fr k ≠ 0 := by rw [hE]; decide
      rw [copyB_bad hz] at HBA6
      rw [copyO_bad hz] at HOA6
      rw [copyT_bad hz] at HDA6
      rw [hE]
      obtain rfl : m = 0 := by have := HBA6.out.1; simpa using this.symm
      obtain rfl : p = 0 := by have := HOA6.out.1; simpa using this.symm
      obtain rfl : q = 0 := by have := HDA6.out.1; simpa using this.symm
      clear hE hz HBA6 HOA6 HDA6
      by_cases h1 : k < 0
      · clear hr
        go_wp2
        go_ret
        exact ⟨rfl, HB6.out⟩
      · have h2 : 256 < k := by omega
        clear hr
        go_wp2
        go_ret
        exact ⟨rfl, HB6.out⟩
    · have hk0 : 0 ≤ k := by omega
      obtain ⟨K, rfl⟩ := Int.eq_ofNat_of_zero_le hk0
      have hK : K ≤ 256 := by omega
      have HTA := Lib.hid (takes_any A W n c lk wc zs (camL zs fr) w6 (HA.out.later HB6.out) (fromE_zero H0.out).1 (by omega) HWW6.out HLV.out)
      rw [HTK.out] at HTA
      have h1 : ¬ (K : Int) < 0 := by omega
      have h2 : ¬ (256 : Int) < (K : Int) := by omega
      have HR : Hid (¬ ((K : Int) < 0 ∨ 256 < (K : Int))) := hr
      clear hr hk0
      go_wp2_with fail
      refine HTA.out.mono ?_
      rintro e w7 ⟨rfl, b7⟩
      have HB7 := Lib.hid (bthen HB6.out b7)
      have HBA7 := Lib.hid (HBA6.out.later b7)
      have HOA7 := Lib.hid (HOA6.out.later b7)
      have HDA7 := Lib.hid (HDA6.out.later b7)
      have HWW7 := Lib.hid (HWW6.out.later b7)
      clear b7 HTA HB6 HBA6 HOA6 HDA6 HWW6
      by_cases ht : (K : Int) < takesN zs fr
      · have hE := copyE_full H0.out HR.out ht
        have hz : copyE zs fr K ≠ 0 := by rw [hE]; decide
        rw [copyB_bad hz] at HBA7
        rw [copyO_bad hz] at HOA7
        rw [copyT_bad hz] at HDA7
        rw [hE]
        obtain rfl : m = 0 := by have := HBA7.out.1; simpa using this.symm
        obtain rfl : p = 0 := by have := HOA7.out.1; simpa using this.symm
        obtain rfl : q = 0 := by have := HDA7.out.1; simpa using this.symm
        clear hE hz HBA7 HOA7 HDA7
        go_wp2
        go_ret
        exact ⟨rfl, HB7.out⟩
      · have hE := copyE_ok H0.out HR.out ht
        rw [copyB_ok hE] at HBA7
        rw [copyO_ok hE] at HOA7
        rw [copyT_ok hE] at HDA7
        rw [hE]
        have HT2 : Hid (tkL zs (camL zs fr) ≤ K) := by show _ ≤ _; rw [HTK.out]; omega
        have hfl := HF.out.1
        have HFO := Lib.hid (formOf_any A F n c nf cf zs fr w7 (HA.out.later HB7.out) HN.out.2.2 (HF.out.later HB7.out) H0.out)
        unfold FormP at HFO
        rw [HLK.out, hfl] at HFO
        clear hE hfl
        go_wp2_with fail
        refine HFO.out.mono ?_
        rintro e w8 ⟨D8, c8, raws, F8, fc8, rfl, hc8, b8, hA8, hV8, _, _⟩
        have HB8 := Lib.hid (bthen HB7.out b8)
        have HBA8 := Lib.hid (HBA7.out.later b8)
        have HOA8 := Lib.hid (HOA7.out.later b8)
        have HDA8 := Lib.hid (HDA7.out.later b8)
        have HWW8 := Lib.hid (HWW7.out.later b8)
        have HLY := Lib.hid (Laid_any D8 lk c8 w8.heap.size w7.heap.size K raws (obsC zs (camL zs fr)) w8 hlen (Nat.le_refl _) ⟨by rw [obsC_len]; exact HLK.out, hA8, fun j hj => by rw [obsC_nth (by rw [HLK.out]; exact hj)]; exact hV8 j hj⟩ (fun j hj => by
          have h1 := hV8 j hj
          obtain ⟨_, _, h4, h5⟩ := obC_ok (l := camL zs fr) HWF.out (HLV.out _ (nth_mem (l := camL zs fr) (j := j) (by rw [HLK.out]; exact hj)))
          have h2 := h1.refs.1
          have h3 := h1.body.1
          have hal := arena_len (fromE_zero H0.out).1
          rw [h4] at h2
          rw [h5] at h3
          have h6 : (named zs (nth (camL zs fr) j).toNat).length ≤ zs.length := by unfold named refWords; rw [List.length_map, List.length_take, List.length_drop]; omega
          have h7 : (bodyWords zs (nth (camL zs fr) j).toNat).length ≤ zs.length := by unfold bodyWords; rw [List.length_take, List.length_drop]; omega
          unfold maxLen
          omega))
        have HLE := Lib.hid (obsC_lay HWF.out HLV.out hK HT2.out)
        have hfd : ∀ wx, Sem.run Try.prog (Instr.field 37 (.agg #[.slice D8 lk c8, .slice F8 nf fc8]) 0) wx = .ok (.slice D8 lk c8) wx := fun wx => by kernel_rfl
        clear b8 hA8 hV8 hc8 HFO HB7 HBA7 HOA7 HDA7 HWW7
        go_wp2_with fail
        refine HLY.out.mono ?_
        rintro e w9 ⟨b9, D9, m9, c9, rfl, _, h9⟩
        rw [HLE.out]
        obtain ⟨_, hm9, hA9⟩ := h9.resolve_left fun h => h.1 HLE.out
        rw [Int.toNat_natCast] at hm9 hA9
        have HB9 := Lib.hid (bthen HB8.out b9)
        have HBA9 : Hid (Arr .u64 w9 w9.heap.size B m (copyL zs fr K)) := by have := HBA8.out.later b9; rw [Int.toNat_natCast] at this; exact this
        have HOA9 := Lib.hid (HOA8.out.later b9)
        have HDA9 := Lib.hid (HDA8.out.later b9)
        have HWW9 := Lib.hid (HWW8.out.later b9)
        obtain rfl : m9 = m := by rw [hm9, ← HBA9.out.1]; rfl
        have hm256 : m9 ≤ maxLen := by
          have h1 := HBA9.out.1
          unfold copyL at h1
          rw [copyL_len HWF.out HLV.out HT2.out] at h1
          unfold maxLen
          omega
        have HA9 : Hid (Arr .u64 w9 w9.heap.size D9 m9 (copyL zs fr K)) := hA9
        have hp9 : p = lk := by have := HOA9.out.1; rw [HLK.out] at this; exact this.symm
        have hq9 : q = lk := by have := HDA9.out.1; rw [begC_len, HLK.out] at this; exact this.symm
        subst hp9
        subst hq9
        clear b9 h9 hm9 hA9 HLY HB8 HBA8 HOA8 HDA8 HWW8
        go_wp2_with fail
        go_loopw [17, 113] (fun v x wr => ∃ i : Nat, i ≤ q ∧ x = .int .i64 i ∧ Hid (Own .i64 3 wr w9.heap.size v (begTo zs (camL zs fr) i)) ∧ Hid (Below w9.heap.size w9 wr)) (fun _ x _ => q - (intOf x).toNat)
        case atStart => exact ⟨0, Nat.zero_le _, rfl, (by show Own _ _ _ _ _ _; simpa [begTo] using Own.nil), Below.refl _ _⟩
        case round =>
          obtain ⟨i, hi, rfl, HO, HBw⟩ := hrel
          by_cases hlt : i < q
          · have hbw : Below w.heap.size w wr := HB9.out.trans (HBw.out.mono HB9.out.size)
            obtain ⟨E, hs1, hE1⟩ := run_upto (P := Try.prog) Try.underlying23 (by kernel_rfl) W q wc i i rfl (Nat.le_trans hi hwc)
            have hWr := HWW9.out.below HBw.out (Nat.le_refl _)
            have hcut : Arr .i64 wr wr.heap.size E i ((camL zs fr).take i) := by
              have h1 := (hWr.cut (p := 0) (q := i) (D := E) (by omega) (fun b off e _ => by rw [hE1 b off e]; rfl)).more HBw.out.size
              rwa [List.drop_zero] at h1
            have HTA := Lib.hid (takes_any A E n c i wc zs ((camL zs fr).take i) wr (HA.out.later hbw) (fromE_zero H0.out).1 (by omega) hcut (fun x hx => HLV.out x (List.mem_of_mem_take hx)))
            have htk : tkL zs ((camL zs fr).take i) ≤ 256 := by
              have h1 := tkL_mono (zs := zs) (l := camL zs fr) (i := i) (j := (camL zs fr).length) (by rw [HLK.out]; exact hi) (Nat.le_refl _)
              rw [List.take_length] at h1
              have := HT2.out
              omega
            have HNX := Lib.hid (begTo_next (zs := zs) (l := camL zs fr) (i := i))
            have HBWw := Lib.hid hbw
            clear hE1 hWr hcut hbw
            generalize tkL zs ((camL zs fr).take i) = T at *
            go_wp2_with fail
            refine HTA.out.mono ?_
            rintro e w10 ⟨rfl, b10⟩
            obtain ⟨v', w11, hrun, hO', hB'⟩ := (HO.out.below b10).push (P := Try.prog) (t := 23) (ty := 23) Try.underlying23 intI_info (by omega) (x := (T : Int)) (wf_i64.2 (by omega)) (by rw [begTo_len]; omega) (Nat.le_trans HBw.out.size b10.size)
            rw [← HNX.out] at hO'
            have HO2 := Lib.hid hO'
            have HB2 := Lib.hid ((HBw.out.trans (b10.mono HBw.out.size)).trans hB')
            have HR := Lib.hid hrun
            clear hs1 HTA b10 hrun hO' hB' HO HBw htk
            go_wp2_with (at_builtin; refine wpList_append_run rfl (.tmp 116) (.tmp 122) 23 rfl rfl rfl HR.out ?_)
            go_roundw
            case rel => exact ⟨i + 1, by omega, by go_num, HO2, HB2⟩
            case measure => simp [intOf]; omega
          · obtain rfl : i = q := by omega
            have hO9 := HO.out
            rw [← HLK.out, begTo_all] at hO9
            obtain ⟨G, gc, rfl, _, hG⟩ := hO9.arr
            rw [begC_len, HLK.out] at hG
            have HBR := Lib.hid (HB9.out.trans (HBw.out.mono HB9.out.size))
            have hq2 : i ≤ maxLen := by unfold maxLen; omega
            have HE1 := Lib.hid (equalWords B D9 m9 m9 bc c9 wr.heap.size _ _ wr ((HBA9.out.below HBw.out (Nat.le_refl _)).more HBw.out.size) ((HA9.out.below HBw.out (Nat.le_refl _)).more HBw.out.size) hm256 hm256)
            rw [show decide (copyL zs fr K = copyL zs fr K) = true by simp] at HE1
            have HE2 := Lib.hid (fun x => equalInts O W i i oc wc wr.heap.size _ _ (wr.drewN x) (((HOA9.out.below HBw.out (Nat.le_refl _)).more HBw.out.size).drewN x) (((HWW9.out.below HBw.out (Nat.le_refl _)).more HBw.out.size).drewN x) hq2 hq2)
            rw [show decide (camL zs fr = camL zs fr) = true by simp] at HE2
            have HE3 := Lib.hid (fun x => equalInts D G i i dc gc wr.heap.size _ _ (wr.drewN x) (((HDA9.out.below HBw.out (Nat.le_refl _)).more HBw.out.size).drewN x) (hG.drewN x) hq2 hq2)
            rw [show decide (begC zs (camL zs fr) = begC zs (camL zs fr)) = true by simp] at HE3
            have HGL : Hid ((begC zs (camL zs fr)).length = i) := by show _ = _; rw [begC_len, HLK.out]
            rw [HGL.out]
            clear hO9 hG HO HBw hlt
            go_wp2_with fail
            refine HE1.out.mono ?_
            rintro e w11 ⟨rfl, x, rfl⟩
            go_wp2_with fail
            refine (HE2.out x).mono ?_
            rintro e w12 ⟨rfl, y, rfl⟩
            go_wp2_with fail
            refine (HE3.out (x + y)).mono ?_
            rintro e w13 ⟨rfl, z, rfl⟩
            have HBZ : Hid (Below w.heap.size w (wr.drewN (x + y + z))) := below_drewN HBR.out _
            go_wp2
            go_ret
            exact ⟨rfl, HBZ.out⟩
  · have hz : copyE zs fr k ≠ 0 := by rw [copyE_from h0]; exact h0
    rw [orderO_bad h0] at HL4
    rw [copyB_bad hz] at HBA4
    rw [copyO_bad hz] at HOA4
    rw [copyT_bad hz] at HDA4
    rw [copyE_from h0]
    obtain rfl : lk = 0 := by have := HL4.out.1; simpa using this.symm
    obtain rfl : m = 0 := by have := HBA4.out.1; simpa using this.symm
    obtain rfl : p = 0 := by have := HOA4.out.1; simpa using this.symm
    obtain rfl : q = 0 := by have := HDA4.out.1; simpa using this.symm
    generalize fromE zs fr = E at *
    have hb : (E != 0) = true := by simpa using h0
    have hee : (E == E) = true := by simp
    clear h0 hz HL4 HBA4 HOA4 HDA4
    go_wp2
    go_ret
    exact ⟨rfl, HB4.out⟩
end Go.Proofs.Ytdpbdnnghcbaaaa
