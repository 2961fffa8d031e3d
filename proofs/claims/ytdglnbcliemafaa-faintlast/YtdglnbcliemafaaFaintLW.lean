/-
  The walk of FaintLast, given what Last answers ('FLastC').
-/
import Derived.Test.YtdglnbcliemafaaFaintD
import Derived.Test.YtdglnbcliemafaaFaintR
import Derived.Test.YtdglnbcliemafaaIntCat
import Derived.Deep.DeepCutAuto
namespace Go.Proofs.Ytdglnbcliemafaa
open Go.RowKit

set_option maxRecDepth 8000 in
set_option maxHeartbeats 4000000 in
theorem faintLast_of (hL : FLastC) (A F Q : Option Addr) (n c nf cf nq cq : Nat) (zs fr q : List Int) (w : World) (h : ArenaFrom w A F n c nf cf zs fr) (hnf : nf * 8 ≤ 140737488351232) (hq : Arr .i64 w w.heap.size Q nq q) (hqz : nq * 8 ≤ 140737488351232) (hqc : nq ≤ cq) :
    Calls Try.prog 4 #[.slice A n c, .slice F nf cf, .slice Q nq cq] w fun e w' => e = .returned (.bool true) ∧ Below w.heap.size w w' := by
  have HQL := Lib.hid hq.1
  have HQM := Lib.hid hqz
  have HLA := Lib.hid (fun wx (hb : Below w.heap.size w wx) => hL A F Q n c nf cf nq cq zs fr q wx (h.later hb) (hq.later hb) (by omega) hqc)
  have HFF := Lib.hid (fun wx (hb : Below w.heap.size w wx) g (hg : g < wx.heap.size) hc => fromFault_any A F n c nf cf g zs fr wx (by have := h.hn; unfold maxLen; omega) (h.later hb).arena (by unfold maxLen; omega) (h.later hb).from_ hg hc)
  have HFQ := Lib.hid (fun wx (hb : Below w.heap.size w wx) g (hg : g < wx.heap.size) hc => fromFault_any A Q n c nq cq g zs q wx (by have := h.hn; unfold maxLen; omega) (h.later hb).arena (by unfold maxLen; omega) (hq.later hb) hg hc)
  have HRE := Lib.hid (fun wx (hb : Below w.heap.size w wx) h0 => reached_any A F n c nf cf zs fr wx (h.later hb).arena (h.later hb).from_ hnf h0)
  have HRG := Lib.hid (fun wx (hb : Below w.heap.size w wx) (X : Option Addr) m d xs hx hm h0 => reached_gen A X n c m d zs xs wx (h.later hb).arena hx (fun ext h1 h2 => by
    have h3 := Nat.le_trans (sub_length h1 fun x hx => (h2 x hx).1) (lives_len (arena_len (fromE_zero h0).1))
    have h4 : m ≤ nf + 32 := hm
    omega) h0)
  have HFR := Lib.hid (fun wx (hb : Below w.heap.size w wx) => (h.later hb).from_)
  have HQR := Lib.hid (fun wx (hb : Below w.heap.size w wx) => hq.later hb)
  have HNF := Lib.hid hnf
  have HEH := Lib.hid (lastE_head (zs := zs) (fr := fr) (q := q))
  have HWQ := Lib.hid hq.2.1
  rw [HQL.out] at HEH
  clear hL h hnf hq
  unfold FLastP at HLA
  go_enter Try.func4, Try.ntmps4
  go_wp2_with fail
  refine (HLA.out w (Below.refl _ _)).mono ?_
  rintro e w1 ⟨K, m, d, M, mm, md, rfl, b1, _, _, hK1, hM1⟩
  have HB1 := Lib.hid b1
  have HK1 := Lib.hid hK1
  have HM1 := Lib.hid hM1
  clear b1 hK1 hM1 HLA
  have ba := (Below.refl _ w1).alloc (Nat.le_refl _) (.cells #[.slice F nf cf] 23)
  have bx := Box.new w1 23 #[.slice F nf cf]
  have HQ := Lib.hid (HFF.out _ (bthen HB1.out ba) w1.heap.size bx.lt (bx.cell 0))
  have HBA2 := Lib.hid ba
  clear ba bx HFF
  go_wp2_with fail
  refine HQ.out.mono ?_
  rintro e w3 ⟨rfl, b3⟩
  have b23 := bthen HBA2.out b3
  have HB3 := Lib.hid (bthen HB1.out b23)
  have HK3 := Lib.hid (HK1.out.later b23)
  have HM3 := Lib.hid (HM1.out.later b23)
  clear b23 b3 HB1 HK1 HM1 HQ HBA2
  obtain ⟨E0, hE0⟩ : ∃ E0, fromE zs fr = E0 := ⟨_, rfl⟩
  obtain ⟨E1, hE1⟩ : ∃ E1, headE zs fr nq = E1 := ⟨_, rfl⟩
  obtain ⟨FE, hFE⟩ : ∃ FE, lastE zs fr q = FE := ⟨_, rfl⟩
  rw [hE1, hFE] at HEH
  rw [hE0, hFE]
  have HH : Hid (E1 = if E0 = 0 ∧ 32 < nq then 2 else E0) := by show _ = _; rw [← hE1, ← hE0]; rfl
  have HFE := Lib.hid hFE
  clear hE0 hE1 hFE
  obtain ⟨CC, hCC⟩ : ∃ CC, (decide (E0 = 0) && decide (32 < nq)) = CC := ⟨_, rfl⟩
  have HCC := Lib.hid hCC
  clear hCC
  go_upto_region 3 with fail
  go_cut [33] (fun s wx => s = .bool CC ∧ w3 = wx)
  case first =>
    by_cases h0 : E0 = 0
    · have hb : (E0 == 0) = true := by simpa using h0
      have HF : Hid (CC = decide (32 < nq)) := by show _ = _; rw [← HCC.out]; simp [h0]
      clear h0
      go_wp2
      go_meet
      exact ⟨by rw [HF.out]; congr 1; simp; omega, rfl⟩
    · have hb : (E0 == 0) = false := by simpa using h0
      have HF : Hid (CC = false) := by show _ = _; rw [← HCC.out]; simp [h0]
      clear h0
      go_wp2
      go_meet
      exact ⟨by rw [HF.out], rfl⟩
  case rest =>
    obtain ⟨rfl, rfl⟩ := hcut
    go_upto_if 33 with fail
    go_cut [10] (fun s wx => s = .int .i64 E1 ∧ w3 = wx)
    case first =>
      rcases (by cases CC <;> simp : CC = false ∨ CC = true) with rfl | rfl
      · have HF : Hid (E1 = E0) := by
          have h1 := HCC.out
          show _ = _
          rw [HH.out, if_neg (by rintro ⟨h2, h3⟩; simp [h2, h3] at h1)]
        go_wp2
        go_meet
        exact ⟨by rw [HF.out], rfl⟩
      · have HF : Hid (E1 = 2) := by
          have h1 := HCC.out
          simp at h1
          show _ = _
          rw [HH.out, if_pos h1]
        go_wp2
        go_meet
        exact ⟨by rw [HF.out], rfl⟩
    case rest =>
      obtain ⟨rfl, rfl⟩ := hcut
      clear HH HCC
      obtain ⟨C1, hC1⟩ : ∃ C1, decide (E1 = 0) = C1 := ⟨_, rfl⟩
      have HC1 := Lib.hid hC1
      have hb1 : (E1 == 0) = C1 := by rw [← hC1]; by_cases h0 : E1 = 0 <;> simp [h0]
      clear hC1
      go_upto_if 35 with fail
      go_cut [10] (fun s wx => s = .int .i64 FE ∧ Hid (Below w3.heap.size w3 wx))
      case first =>
        rcases (by cases C1 <;> simp : C1 = false ∨ C1 = true) with rfl | rfl
        · have HF : Hid (FE = E1) := by
            have h1 := HC1.out
            simp at h1
            show _ = _
            rw [HEH.out, if_neg h1]
          go_wp2
          go_meet
          exact ⟨by rw [HF.out], Below.refl _ _⟩
        · have HF : Hid (FE = fromE zs q) := by
            have h1 := HC1.out
            simp at h1
            show _ = _
            rw [HEH.out, if_pos h1]
          have ba := (Below.refl _ w3).alloc (Nat.le_refl _) (.cells #[.slice Q nq cq] 23)
          have bx := Box.new w3 23 #[.slice Q nq cq]
          have HQ := Lib.hid (HFQ.out _ (bthen HB3.out ba) w3.heap.size bx.lt (bx.cell 0))
          rw [← HF.out] at HQ
          have HBA2 := Lib.hid ba
          clear ba bx HF
          go_wp2_with fail
          refine HQ.out.mono ?_
          rintro e w4 ⟨rfl, b4⟩
          have HB4 := Lib.hid (bthen HBA2.out b4)
          clear b4 HQ HBA2
          go_wp2
          go_meet
          exact ⟨rfl, HB4⟩
      case rest =>
        obtain ⟨rfl, hB⟩ := hcut
        have HB4 := Lib.hid (bthen HB3.out hB.out)
        have HK4 := Lib.hid (HK3.out.later hB.out)
        have HM4 := Lib.hid (HM3.out.later hB.out)
        clear hB HB3 HK3 HM3 HEH HC1 hb1 HFQ
        generalize wc = W4 at *
        by_cases hF : FE = 0
        · subst hF
          obtain ⟨h0, h32, hq0⟩ := lastE_zero HFE.out
          have HN32 : Hid (nq ≤ 32) := by show _ ≤ _; rw [← HQL.out]; exact h32
          have HH0 := Lib.hid h0
          have HHQ := Lib.hid hq0
          have HAR := Lib.hid (arena_len (fromE_zero h0).1)
          have hk0 := HK4.out
          have hm0 := HM4.out
          rw [lastT_ok HFE.out] at hk0
          rw [lastA_ok HFE.out] at hm0
          have HQ := Lib.hid (HRE.out W4 HB4.out h0)
          have HK4 := Lib.hid hk0
          have HM4 := Lib.hid hm0
          clear hk0 hm0 HRE h0 h32 hq0
          go_wp2_with fail
          refine HQ.out.mono ?_
          rintro e w5 ⟨A5, c5, rfl, b5, hA5⟩
          have HB5 := Lib.hid (bthen HB4.out b5)
          have HK5 := Lib.hid (HK4.out.later b5)
          have HM5 := Lib.hid (HM4.out.later b5)
          have HA5 := Lib.hid hA5
          clear b5 hA5 HQ HK4 HM4 HB4
          obtain ⟨r, hr⟩ : ∃ r, (reachL zs fr).length = r := ⟨_, rfl⟩
          have HR256 : Hid (r ≤ 256) := by show _ ≤ _; rw [← hr]; exact reachL_len HAR.out
          rw [hr] at HA5 ⊢
          clear hr
          go_wp2_with fail
          go_loopw [12, 58] (fun v i wr => ∃ k : Nat, k ≤ nq ∧ i = .int .i64 k ∧ Hid (Own .i64 3 wr w5.heap.size v (toldTo (reachL zs fr) q k)) ∧ Hid (Below w5.heap.size w5 wr)) (fun _ i _ => nq - (intOf i).toNat)
          case atStart => exact ⟨0, Nat.zero_le _, rfl, Own.nil, Below.refl _ _⟩
          case round =>
            obtain ⟨k, hk, rfl, HO, HB⟩ := hrel
            have hn32 := HN32.out
            have hr256 := HR256.out
            by_cases hkl : k < nq
            · have hkp : k < q.length := by have := HQL.out; omega
              obtain ⟨b, off, hP, _, hcs⟩ := (HQR.out wr (bthen HB5.out HB.out)).2.2 (by omega)
              subst hP
              have hc := hcs k hkl
              have hwx := HWQ.out _ (nth_mem hkp)
              have HIN := Lib.hid (in_ref A5 r c5 _ (nth q k) (reachL zs fr) wr (by unfold maxLen; omega) (HA5.out.later HB.out))
              clear hcs
              by_cases hin : nth q k ∈ reachL zs fr
              · rw [show decide (nth q k ∈ reachL zs fr) = true by simpa using hin] at HIN
                rw [← toldTo_skip hkp hin] at HO
                clear hin hkp hwx
                generalize nth q k = X at *
                go_wp2_with fail
                refine HIN.out.mono ?_
                rintro e w6 ⟨rfl, rfl⟩
                go_wp2
                go_roundw
                case rel => exact ⟨k + 1, by omega, by go_num, HO, HB⟩
                case measure => simp [intOf]; omega
              · rw [show decide (nth q k ∈ reachL zs fr) = false by simpa using hin] at HIN
                have hll : (toldTo (reachL zs fr) q k).length ≤ q.length := toldTo_len
                obtain ⟨v', w6, hrun, hO', hG⟩ := HO.out.push (P := Try.prog) (t := 23) (ty := 23) Try.underlying23 intI_info (by omega) (x := nth q k) hwx (by have := HQL.out; omega) HB.out.size
                rw [← toldTo_more hkp hin] at hO'
                have HR := Lib.hid hrun
                have HO' := Lib.hid hO'
                have HB' := Lib.hid (HB.out.trans hG)
                clear hin hkp hrun hO' hG hll HO hwx
                generalize nth q k = X at *
                go_wp2_with fail
                refine HIN.out.mono ?_
                rintro e w7 ⟨rfl, rfl⟩
                go_wp2_with (at_builtin; refine wpList_append_run rfl (.tmp 66) (.tmp 68) 23 rfl rfl rfl HR.out ?_)
                go_roundw
                case rel => exact ⟨k + 1, by omega, by go_num, HO', HB'⟩
                case measure => simp [intOf]; omega
            · obtain rfl : nq = k := by omega
              have hO := HO.out
              rw [← HQL.out, toldTo_all] at hO
              obtain ⟨T, tc, hv, _, hT⟩ := hO.arr
              subst hv
              have hT32 : (toldL zs fr q).length ≤ 32 := Nat.le_trans toldL_len (by have := HQL.out; omega)
              have hmt : m = (toldL zs fr q).length := HK5.out.1.symm
              rw [← hmt] at hT hT32 ⊢
              have HE := Lib.hid (equalInts K T m m d tc _ _ _ wr (HK5.out.later HB.out) hT (by unfold maxLen; omega) (by unfold maxLen; omega))
              rw [show decide (toldL zs fr q = toldL zs fr q) = true by simp] at HE
              have HT := Lib.hid hT
              have HM6 := Lib.hid (HM5.out.later HB.out)
              have HBZ := Lib.hid (bthen HB5.out HB.out)
              have HT32 := Lib.hid hT32
              clear hO hT hmt HO HK5 HA5 HM5 HB HB5 hn32 hr256 hT32 HQR HQM
              go_wp2_with fail
              refine HE.out.mono ?_
              rintro e w6 ⟨rfl, q6, rfl⟩
              obtain ⟨W6, hW6⟩ : ∃ W6, wr.drewN q6 = W6 := ⟨_, rfl⟩
              have b66 : Below wr.heap.size wr W6 := by rw [← hW6]; exact below_drewN (Below.refl _ _) q6
              have HB6 := Lib.hid (bthen HBZ.out b66)
              have HT6 := Lib.hid (HT.out.later b66)
              have HM7 := Lib.hid (HM6.out.later b66)
              rw [hW6]
              clear hW6 b66 HBZ HT HM6 HE
              have ba := (Below.refl _ W6).alloc (Nat.le_refl _) (.cells #[.slice F nf cf, .slice T m tc] 23)
              have bx := Box.new W6 23 #[.slice F nf cf, .slice T m tc]
              have HCC := Lib.hid (concat2 F T nf cf m tc W6.heap.size fr (toldL zs fr q) _ (by have := HNF.out; have := HT32.out; omega) bx.lt (HFR.out _ (bthen HB6.out ba)) (HT6.out.later ba) (bx.cell 0) (bx.cell 1))
              have HBA := Lib.hid ba
              clear ba bx
              go_wp2_with fail
              refine HCC.out.mono ?_
              rintro e w8 ⟨C, cc, rfl, hC, b8⟩
              have hb8 := bthen HBA.out b8
              have HB8 := Lib.hid (bthen HB6.out hb8)
              have HM8 := Lib.hid (HM7.out.later hb8)
              have hfe : fromE zs (fr ++ toldL zs fr q) = 0 := fromE_ok (fromE_zero HH0.out).1 fun x hx => by
                rcases List.mem_append.1 hx with hx | hx
                · exact (fromE_zero HH0.out).2 x hx
                · exact (fromE_zero HHQ.out).2 x (toldL_mem.1 hx).1
              have HRR := Lib.hid (HRG.out w8 HB8.out C (nf + m) cc _ hC (by have := HT32.out; omega) hfe)
              clear hb8 b8 hC hfe HCC HBA HB6 HT6 HM7
              obtain ⟨N, hN⟩ : ∃ N, nf + m = N := ⟨_, rfl⟩
              rw [hN] at HRR ⊢
              clear hN
              go_wp2_with fail
              refine HRR.out.mono ?_
              rintro e w9 ⟨D, dc, rfl, b9, hD⟩
              have hmm : mm = (reachL zs (fr ++ toldL zs fr q)).length := HM8.out.1.symm
              rw [← hmm] at hD ⊢
              have hmm256 : mm ≤ 256 := by rw [hmm]; exact reachL_len HAR.out
              have HE2 := Lib.hid (equalInts M D mm mm md dc _ _ _ w9 (HM8.out.later b9) hD (by unfold maxLen; omega) (by unfold maxLen; omega))
              rw [show decide (reachL zs (fr ++ toldL zs fr q) = reachL zs (fr ++ toldL zs fr q)) = true by simp] at HE2
              have HB9 := Lib.hid (bthen HB8.out b9)
              clear b9 hD hmm hmm256 HRR HM8 HB8
              go_wp2_with fail
              refine HE2.out.mono ?_
              rintro e w10 ⟨rfl, q10, rfl⟩
              go_wp2
              go_ret
              exact ⟨rfl, below_drewN HB9.out _⟩
        · have hb : (FE != 0) = true := by simpa using hF
          have hb2 : (FE == FE) = true := by simp
          have hk0 := HK4.out.1
          rw [lastT_bad (by rw [HFE.out]; exact hF)] at hk0
          have hm0 := HM4.out.1
          rw [lastA_bad (by rw [HFE.out]; exact hF)] at hm0
          obtain rfl : m = 0 := hk0.symm
          obtain rfl : mm = 0 := hm0.symm
          clear hk0 hm0 hF HK4 HM4
          go_wp2
          go_ret
          exact ⟨rfl, HB4.out⟩
end Go.Proofs.Ytdglnbcliemafaa
