/-
  Contract of the reference's CameTo.
-/
import Derived.Test.YtjefbekdjgmmbaaRefT
import Derived.Test.YtjefbekdjgmmbaaCarryM
namespace Go.Proofs.Ytjefbekdjgmmbaa
open Go.RowKit

/-- The list, while it grows. -/
structure CmI (w : World) (l : List Int) (v : Value) (wr : World) : Prop where
  own : Own .i64 3 wr w.heap.size v l
  below : Below w.heap.size w wr
theorem CmI.next {w wr wr' : World} {l : List Int} {v : Value} (h : CmI w l v wr) (hb : Below wr.heap.size wr wr') : CmI w l v wr' := ⟨h.own.below hb, h.below.trans (hb.mono h.below.size)⟩
theorem CmI.push {w wr w' : World} {l : List Int} {v v' : Value} {y : Int} (h : CmI w l v wr) (ho : Own .i64 3 w' w.heap.size v' (l ++ [y])) (hg : Grew wr v w' v') : CmI w (l ++ [y]) v' w' :=
  ⟨ho, h.below.trans (hg.below h.below.size h.own.row)⟩
/-- What CameTo answers. -/
def CameP (zs fr : List Int) (w : World) (e : Ending) (w' : World) : Prop := ∃ D c, e = .returned (.slice D (camL zs fr).length c) ∧ Below w.heap.size w w' ∧ Own .i64 3 w' w.heap.size (.slice D (camL zs fr).length c) (camL zs fr)

set_option maxRecDepth 8000 in
set_option maxHeartbeats 4000000 in
theorem cameTo_any (A F : Option Addr) (n c nf cf : Nat) (zs fr : List Int) (w : World) (ha : Arr .u64 w w.heap.size A n zs) (hnf : nf ≤ maxLen) (hfr : Arr .i64 w w.heap.size F nf fr) (h0 : fromE zs fr = 0) :
    Calls Try.prog 43 #[.slice A n c, .slice F nf cf] w (CameP zs fr w) := by
  have HA := Lib.hid ha
  have HF := Lib.hid hfr
  have H0 := Lib.hid h0
  have HFL := Lib.hid hfr.1
  have HWF := Lib.hid ha.2.1
  have HAL := Lib.hid ha.1
  have hn256 : zs.length ≤ 256 := arena_len (fromE_zero h0).1
  have HFP : Hid (∀ x ∈ fr, x ∈ livesI zs) := (fromE_zero h0).2
  unfold maxLen at hnf
  unfold CameP
  clear ha hfr h0
  go_enter Try.func43, Try.ntmps43
  go_wp2_with fail
  go_loopw [5, 13] (fun v i wr => ∃ k : Nat, k ≤ nf ∧ i = .int .i64 k ∧ Hid (CmI w (addL [] (fr.take k)) v wr)) (fun _ i _ => nf - (intOf i).toNat)
  case atStart => exact ⟨0, Nat.zero_le _, rfl, ⟨Own.nil, Below.refl _ _⟩⟩
  case round =>
    obtain ⟨k, hk, rfl, HI⟩ := hrel
    by_cases hlt : k < nf
    · have hkf : k < fr.length := by have := HFL.out; omega
      obtain ⟨b, off, rfl, _, hcs⟩ := (HF.out.below HI.out.below (Nat.le_refl _)).2.2 (by omega)
      have hc := hcs k hlt
      obtain ⟨A6, c6, hv, _, hA6⟩ := HI.out.own.arr
      subst hv
      have hmem := HFP.out _ (nth_mem hkf)
      have hlv := lives_lt hmem
      have HST := Lib.hid (addL_take (out := []) hkf)
      have hLn : (addL [] (fr.take k)).length ≤ 256 := by
        have h1 := (camT_ok (zs := zs) (fr := fr.take k) 0).nd
        have h2 := sub_length h1 (L := livesI zs) fun x hx => by
          rcases addL_mem.1 hx with h | ⟨h, _⟩
          · cases h
          · exact HFP.out x (List.mem_of_mem_take h)
        have h3 := lives_len hn256
        exact Nat.le_trans h2 h3
      have HIN := Lib.hid (in_ref A6 (addL [] (fr.take k)).length c6 _ (nth fr k) (addL [] (fr.take k)) wr (by unfold maxLen; omega) hA6)
      have HLN : Hid ((addL [] (fr.take k)).length ≤ 256) := hLn
      clear hcs hA6 hmem hLn
      generalize nth fr k = Y at *
      generalize addL [] (fr.take k) = L at *
      by_cases hin : Y ∈ L
      · rw [show decide (Y ∈ L) = true by simpa using hin] at HIN
        have HN : Hid (CmI w (addL [] (fr.take (k + 1))) (.slice A6 L.length c6) wr) := by show CmI _ _ _ _; rw [HST.out, addN_no (.inr hin)]; exact HI.out
        clear hin HI
        generalize L.length = N at *
        go_wp2_with fail
        refine HIN.out.mono ?_
        rintro e w5 ⟨rfl, rfl⟩
        go_wp2
        go_roundw
        case rel => exact ⟨k + 1, by omega, by go_num, HN⟩
        case measure => simp [intOf]; omega
      · rw [show decide (Y ∈ L) = false by simpa using hin] at HIN
        obtain ⟨v', w6, hrun, hO', hG⟩ := HI.out.own.pushG (P := Try.prog) (t := 23) (ty := 23) Try.underlying23 intI_info (by omega) (x := Y) (wf_i64.2 (by omega)) (by have := HLN.out; omega) HI.out.below.size
        have hN := HI.out.push hO' hG
        have HN : Hid (CmI w (addL [] (fr.take (k + 1))) v' w6) := by show CmI _ _ _ _; rw [HST.out, addN_yes (fun h => h.elim (fun h => by omega) hin)]; exact hN
        have HRN := Lib.hid hrun
        clear hrun hO' hG hN hin HI
        generalize L.length = N at *
        go_wp2_with fail
        refine HIN.out.mono ?_
        rintro e w5 ⟨rfl, rfl⟩
        go_wp2_with (at_builtin; refine wpList_append_run rfl (.tmp 21) (.tmp 23) 23 rfl rfl rfl HRN.out ?_)
        go_roundw
        case rel => exact ⟨k + 1, by omega, by go_num, HN⟩
        case measure => simp [intOf]; omega
    · obtain rfl : k = nf := by omega
      have HX0 : Hid (CmI w (camT zs fr 0) u5 wr) := by
        have := HI.out
        rw [List.take_of_length_le (by rw [HFL.out]; exact Nat.le_refl _)] at this
        exact this
      clear HI
      go_wp2_with fail
      generalize wr = W1 at *
      go_loopw [5, 8] (fun v i wr => ∃ k : Nat, k ≤ zs.length ∧ i = .int .i64 k ∧ Hid (CmI w (camT zs fr k) v wr)) (fun _ i _ => zs.length + 1 - (intOf i).toNat)
      case atStart => exact ⟨0, Nat.zero_le _, rfl, HX0⟩
      case round =>
        clear HX0
        obtain ⟨i, hi, rfl, HI⟩ := hrel
        have hLn := camT_len HWF.out H0.out i
        obtain ⟨A6, c6, hv, _, hA6⟩ := HI.out.own.arr
        subst hv
        by_cases hlt2 : i < (camT zs fr i).length
        · have hmem := camT_lives HWF.out H0.out i _ (nth_mem hlt2)
          have hc0 := (hA6.2.2 (by omega))
          obtain ⟨b, off, rfl, _, hcs⟩ := hc0
          have hc := hcs i hlt2
          have HST := Lib.hid (camT_more hlt2)
          have hLn2 := camT_len HWF.out H0.out (i + 1)
          obtain ⟨t, ht⟩ := Int.eq_ofNat_of_zero_le (lives_lt hmem).1
          have hnx : nxOf zs (nth (camT zs fr i) i) = named zs t := by rw [ht]; unfold nxOf; rw [Int.toNat_natCast]
          rw [hnx] at HST
          rw [ht] at hc hmem
          have HNM := Lib.hid (namedAt_any A n c t zs wr (HA.out.later HI.out.below) (fromE_zero H0.out).1 hmem)
          have hnb : (named zs t).length ≤ 256 := by
            have h2 : (named zs t).length ≤ zs.length := by unfold named refWords; rw [List.length_map, List.length_take, List.length_drop]; omega
            omega
          have HNS := Lib.hid (named_sub HA.out.2.1 (fromE_zero H0.out).1 hmem)
          have HLT2 : Hid (i < (camT zs fr i).length) := hlt2
          have hlt2' : (i : Int) < ((camT zs fr i).length : Int) := by omega
          clear hcs hA6 hmem ht hnx
          rw [HST.out] at hLn2
          generalize camT zs fr i = L at *
          obtain ⟨N, hN⟩ : ∃ N, L.length = N := ⟨_, rfl⟩
          have HNN := Lib.hid hN
          rw [hN] at HI hlt2 hlt2' hLn ⊢
          clear hN
          go_wp2_with fail
          refine HNM.out.mono ?_
          rintro e w4 ⟨A4, c4, rfl, b4, hA4, hi4⟩
          have HX4 := Lib.hid (HI.out.next b4)
          have HA4 := Lib.hid hA4
          have HO4 : Hid (Off (Value.slice (some ⟨b, off, none⟩) N c6).ownBlock A4 (named zs t).length) := Off.of_high hi4 fun b e => HI.out.own.rowLt b e
          clear b4 hA4 hi4 HNM HI hc
          obtain ⟨nn, hnn⟩ : ∃ q, (named zs t).length = q := ⟨_, rfl⟩
          rw [hnn] at HA4 HO4 hnb ⊢
          have HNQ := Lib.hid hnn
          clear hnn
          generalize wr = W2 at *
          go_wp2_with fail
          go_loopw [5, 39] (fun v j wr => ∃ q : Nat, q ≤ nn ∧ j = .int .i64 q ∧ Hid (CmI w (addL L ((named zs t).take q)) v wr) ∧ Hid (Arr .i64 wr w4.heap.size A4 nn (named zs t)) ∧ Hid (Off v.ownBlock A4 nn) ∧ Hid (w4.heap.size ≤ wr.heap.size)) (fun _ j _ => nn - (intOf j).toNat)
          case atStart => exact ⟨0, Nat.zero_le _, rfl, HX4, HA4, HO4, Nat.le_refl _⟩
          case round =>
            obtain ⟨q, hq, rfl, HXq, HAq, HOq, HSq⟩ := hrel
            clear HX4 HA4 HO4
            by_cases hlq : q < nn
            · have hqn : q < (named zs t).length := by rw [HNQ.out]; exact hlq
              have hym := HNS.out _ (nth_mem hqn)
              have HST2 := Lib.hid (addL_take (out := L) hqn)
              have hlen2 := Nat.le_trans (addL_take_len (out := L) (l := named zs t) q) hLn2
              obtain ⟨b', off', rfl, _, hcs⟩ := HAq.out.2.2 (by omega)
              have hc := hcs q hlq
              obtain ⟨A7, c7, hv, _, hA7⟩ := HXq.out.own.arr
              subst hv
              have HIN := Lib.hid (in_ref A7 (addL L ((named zs t).take q)).length c7 _ (nth (named zs t) q) (addL L ((named zs t).take q)) wr (by unfold maxLen; omega) hA7)
              have HLN2 : Hid ((addL L ((named zs t).take q)).length ≤ zs.length) := hlen2
              clear hcs hA7 hqn hlen2
              generalize nth (named zs t) q = Y at *
              generalize addL L ((named zs t).take q) = M at *
              by_cases hp : 0 ≤ Y
              · have cp : (0 ≤ Y) = True := eq_true hp
                by_cases hin : Y ∈ M
                · rw [show decide (Y ∈ M) = true by simpa using hin] at HIN
                  have HN : Hid (CmI w (addL L ((named zs t).take (q + 1))) (.slice A7 M.length c7) wr) := by show CmI _ _ _ _; rw [HST2.out, addN_no (.inr hin)]; exact HXq.out
                  clear hin HXq hp hym
                  generalize M.length = N7 at *
                  go_wp2_with fail
                  refine HIN.out.mono ?_
                  rintro e w5 ⟨rfl, rfl⟩
                  go_wp2
                  go_roundw
                  case rel => exact ⟨q + 1, by omega, by go_num, HN, HAq, HOq, HSq⟩
                  case measure => simp [intOf]; omega
                · rw [show decide (Y ∈ M) = false by simpa using hin] at HIN
                  have hyw := lives_lt (hym.resolve_left (by omega))
                  obtain ⟨v', w6, hrun, hO', hG⟩ := HXq.out.own.pushG (P := Try.prog) (t := 23) (ty := 23) Try.underlying23 intI_info (by omega) (x := Y) (wf_i64.2 (by omega)) (by have := HLN2.out; omega) HXq.out.below.size
                  have hN := HXq.out.push hO' hG
                  have HN : Hid (CmI w (addL L ((named zs t).take (q + 1))) v' w6) := by show CmI _ _ _ _; rw [HST2.out, addN_yes (fun h => h.elim (fun h => by omega) hin)]; exact hN
                  obtain ⟨hA6', hO6⟩ := HAq.out.grew hG HOq.out HSq.out
                  have HA6 := Lib.hid hA6'
                  have HO6 := Lib.hid hO6
                  have HS6 : Hid (w4.heap.size ≤ w6.heap.size) := Nat.le_trans HSq.out hG.size
                  have HRN := Lib.hid hrun
                  clear hrun hO' hG hN hin hA6' hO6 HXq HAq HOq HSq hp hym
                  generalize M.length = N7 at *
                  go_wp2_with fail
                  refine HIN.out.mono ?_
                  rintro e w5 ⟨rfl, rfl⟩
                  go_wp2_with (at_builtin; refine wpList_append_run rfl (.tmp 51) (.tmp 53) 23 rfl rfl rfl HRN.out ?_)
                  go_roundw
                  case rel => exact ⟨q + 1, by omega, by go_num, HN, HA6, HO6, HS6⟩
                  case measure => simp [intOf]; omega
              · have cp : (0 ≤ Y) = False := eq_false hp
                have HN : Hid (CmI w (addL L ((named zs t).take (q + 1))) (.slice A7 M.length c7) wr) := by show CmI _ _ _ _; rw [HST2.out, addN_no (.inl (by omega))]; exact HXq.out
                clear hp hym HIN HXq
                generalize M.length = N7 at *
                go_wp2
                go_roundw
                case rel => exact ⟨q + 1, by omega, by go_num, HN, HAq, HOq, HSq⟩
                case measure => simp [intOf]; omega
            · obtain rfl : q = nn := by omega
              have HN : Hid (CmI w (camT zs fr (i + 1)) u5 wr) := by
                have := HXq.out
                rw [List.take_of_length_le (by rw [HNQ.out]; exact Nat.le_refl _)] at this
                show CmI _ _ _ _
                rw [HST.out]; exact this
              clear HXq HAq HOq
              go_wp2
              go_roundw
              case rel => exact ⟨i + 1, by omega, by go_num, HN⟩
              case measure => simp [intOf]; omega
        · have hge : (camT zs fr i).length ≤ i := by omega
          have HCE := Lib.hid (camL_at hge hi)
          have hlt3 : ¬ (i : Int) < ((camT zs fr i).length : Int) := by omega
          obtain ⟨NL, hNL⟩ : ∃ N, (camT zs fr i).length = N := ⟨_, rfl⟩
          have HNL := Lib.hid hNL
          rw [hNL] at HI hLn hlt3 ⊢
          clear hNL hA6 hlt2 hge
          go_wp2
          go_ret
          exact ⟨_, _, by rw [HCE.out, HNL.out]; rfl, HI.out.below, by rw [HCE.out, HNL.out]; exact HI.out.own⟩
end Go.Proofs.Ytjefbekdjgmmbaa
