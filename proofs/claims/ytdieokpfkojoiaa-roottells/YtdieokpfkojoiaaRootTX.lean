/-
  The walk of RootTells where the roots are right, and both cases together.
-/
import Derived.Test.YtdieokpfkojoiaaRootTW
import Derived.Deep.CutBlock
namespace Go.Proofs.Ytdieokpfkojoiaa
open Go.RowKit

set_option maxHeartbeats 4000000 in
set_option maxRecDepth 8000 in
theorem rootTells_ok (A A' : Option Addr) (k c k' c' : Nat) (n slot v : Int) (zs ts : List Int) (w : World) (hk : k ≤ maxLen) (hk' : k' ≤ maxLen) (hkc' : k' ≤ c') (ha : Arr .i64 w w.heap.size A k zs) (ht : Arr .i64 w w.heap.size A' k' ts) (hE : rootE n zs = 0) :
    Calls Try.prog 4 #[.slice A k c, .int .i64 n, .int .i64 slot, .int .i64 v, .slice A' k' c'] w fun e w' => e = .returned (.bool true) ∧ Below w.heap.size w w' := by
  have hb0 := (Below.refl _ w).alloc (Nat.le_refl _) (.cells #[.int .i64 n] 3)
  have bx0 := Box.new w 3 #[.int .i64 n]
  have c0 : (w.alloc (.cells #[.int .i64 n] 3)).cell? ⟨w.heap.size, 0, none⟩ = some (.int .i64 n) := bx0.cell 0
  have HX0 := Lib.hid bx0
  have HK := Lib.hid hk
  have HK' := Lib.hid hk'
  have HKC' := Lib.hid hkc'
  have HA := Lib.hid ha
  have HT := Lib.hid ht
  have HB0 := Lib.hid hb0
  obtain ⟨hn, h32, hin⟩ := rootE_ok.1 hE
  have HN := Lib.hid hn
  rw [ha.1] at h32
  have HK32 := Lib.hid h32
  have HIN := Lib.hid hin
  have HE := Lib.hid hE
  have HLK := Lib.hid ha.1
  have HLT := Lib.hid ht.1
  clear ha ht hb0 bx0 hn h32 hin hE hk hk' hkc'
  go_enter Try.func4, Try.ntmps4
  go_wp2_with fail
  refine (rootSet_r A k c n slot v zs _ HK.out ((HA.out.below HB0.out (Nat.le_refl _)).more HB0.out.size)).mono ?_
  rintro e w1 ⟨A1, m1, c1, rfl, h1, hb1⟩
  have HX1 := Lib.hid (HX0.out.below hb1 HX0.out.lt)
  have HB1 := Lib.hid (HB0.out.trans (hb1.mono HB0.out.size))
  have x1 : w1.cell? ⟨w.heap.size, 0, none⟩ = some (.int .i64 n) := HX1.out.cell 0
  have H1 := Lib.hid h1
  clear hb1 h1 c0 HX0 HB0
  obtain ⟨E1, hE1⟩ : ∃ E, setE n slot v zs = E := ⟨_, rfl⟩
  rw [hE1] at H1 ⊢
  have HE1 := Lib.hid hE1
  clear hE1
  go_wp2_with fail
  refine (rootNamed_ok A k c n zs _ ((HA.out.below HB1.out (Nat.le_refl _)).more HB1.out.size) HE.out).mono ?_
  rintro e w2 ⟨A2, m2, c2, rfl, hm2, hO2, hb2⟩
  have HX2 := Lib.hid (HX1.out.below hb2 HX1.out.lt)
  have HB2 := Lib.hid (HB1.out.trans (hb2.mono HB1.out.size))
  have x2 : w2.cell? ⟨w.heap.size, 0, none⟩ = some (.int .i64 n) := HX2.out.cell 0
  have H1' : Hid ((E1 ≠ 0 ∧ m1 = 0) ∨ (E1 = 0 ∧ m1 = k ∧ Arr .i64 w2 w2.heap.size A1 k (zs.set slot.toNat v))) := H1.out.imp id fun ⟨a, b, d⟩ => ⟨a, b, (d.below hb2 (Nat.le_refl _)).more hb2.size⟩
  have HO2 := Lib.hid hO2.arrM.2.2
  have hm2' : m2 ≤ 32 := by have := namedL_len zs; have := HLK.out; have := HK32.out; omega
  have HM2 := Lib.hid hm2'
  clear hb2 hO2 x1 HX1 HB1 H1 hm2 hm2'
  go_wp2_with fail
  refine (rootSwap_r A A' k c k' c' n zs ts _ HK.out HK'.out ((HA.out.below HB2.out (Nat.le_refl _)).more HB2.out.size) ((HT.out.below HB2.out (Nat.le_refl _)).more HB2.out.size)).mono ?_
  rintro e w3 ⟨A3, m3, c3, rfl, h3, hb3⟩
  have HX3 := Lib.hid (HX2.out.below hb3 HX2.out.lt)
  have HB3 := Lib.hid (HB2.out.trans (hb3.mono HB2.out.size))
  have x3 : w3.cell? ⟨w.heap.size, 0, none⟩ = some (.int .i64 n) := HX3.out.cell 0
  have H1 : Hid ((E1 ≠ 0 ∧ m1 = 0) ∨ (E1 = 0 ∧ m1 = k ∧ Arr .i64 w3 w3.heap.size A1 k (zs.set slot.toNat v))) := H1'.out.imp id fun ⟨a, b, d⟩ => ⟨a, b, (d.below hb3 (Nat.le_refl _)).more hb3.size⟩
  have HO3 := Lib.hid ((HO2.out.below hb3 (Nat.le_refl _)).more hb3.size)
  have H3 := Lib.hid h3
  clear hb3 h3 x2 HX2 HB2 H1' HO2
  obtain ⟨E3, hE3⟩ : ∃ E, swapE n zs ts = E := ⟨_, rfl⟩
  rw [hE3] at H3 ⊢
  have HE3 := Lib.hid hE3
  clear hE3
  have HF := Lib.hid (rootsFault_any A k c _ n zs w3 HK.out (HA.out.below HB3.out (Nat.le_refl _)))
  have HC := Lib.hid (rootCheck_any A k c _ n zs w3 HK.out (HA.out.below HB3.out (Nat.le_refl _)))
  rw [HE.out] at HF HC
  go_wp2_with fail
  refine HF.out.mono ?_
  rintro e w' ⟨rfl, rfl⟩
  go_wp2_with fail
  refine HC.out.mono ?_
  rintro e w' ⟨rfl, rfl⟩
  go_wp2_with fail
  refine (rising_any A k c zs _ HK.out ((HA.out.below HB3.out (Nat.le_refl _)).more HB3.out.size)).mono ?_
  rintro e w4 ⟨A4, c4, rfl, hb4, hO4⟩
  have HR4 : Hid ((risingTo zs 256).length ≤ maxLen) := by have := risingTo_len zs 256; show _ ≤ _; unfold maxLen; omega
  clear HF HC
  go_wp2_with fail
  refine (equalInts A2 A4 m2 _ c2 c4 _ (namedL zs) (risingTo zs 256) _ ((HO3.out.below hb4 (Nat.le_refl _)).more hb4.size) hO4 (by have := HM2.out; unfold maxLen; omega) HR4.out).mono ?_
  rintro e w5 ⟨rfl, q, rfl⟩
  rw [show decide (namedL zs = risingTo zs 256) = true by simpa using named_rising HE.out]
  have hb5 : Below w3.heap.size w3 (w4.drewN q) := below_drewN hb4 q
  have HX5 := Lib.hid (HX3.out.below hb5 HX3.out.lt)
  have HB5 := Lib.hid (HB3.out.trans (hb5.mono HB3.out.size))
  have H1' : Hid ((E1 ≠ 0 ∧ m1 = 0) ∨ (E1 = 0 ∧ m1 = k ∧ Arr .i64 (w4.drewN q) (w4.drewN q).heap.size A1 k (zs.set slot.toNat v))) := H1.out.imp id fun ⟨a, b, d⟩ => ⟨a, b, (d.below hb5 (Nat.le_refl _)).more hb5.size⟩
  have H3' : Hid ((E3 ≠ 0 ∧ m3 = 0) ∨ (E3 = 0 ∧ m3 = k ∧ Arr .i64 (w4.drewN q) (w4.drewN q).heap.size A3 k (swapL zs ts))) := H3.out.imp id fun ⟨a, b, d⟩ => ⟨a, b, (d.below hb5 (Nat.le_refl _)).more hb5.size⟩
  clear hb5 hb4 hO4 x3 HX3 HB3 H1 H3 HO3 HR4
  generalize w4.drewN q = w5 at *
  generalize (risingTo zs 256).length = m4 at *
  have x5 : w5.cell? ⟨w.heap.size, 0, none⟩ = some (.int .i64 n) := HX5.out.cell 0
  have HA5 := Lib.hid ((HA.out.below HB5.out (Nat.le_refl _)).more HB5.out.size)
  have HT5 := Lib.hid ((HT.out.below HB5.out (Nat.le_refl _)).more HB5.out.size)
  go_upto_block 0 with fail
  go_cut [18] (fun s wx => s = .int .i64 E1 ∧ w5 = wx)
  case first => as_aux_lemma =>
    have h := HE1.out
    unfold setE at h
    rw [if_neg (by rw [HE.out]; decide), HLK.out] at h
    by_cases h1 : slot < 0
    · have d1 : (slot < 0) = True := eq_true h1
      rw [if_pos (.inl h1)] at h
      subst h
      clear h1
      go_wp2
      go_meet
      exact ⟨rfl, rfl⟩
    · have d1 : (slot < 0) = False := eq_false h1
      by_cases h2 : (k : Int) ≤ slot
      · have d2 : ((k : Int) ≤ slot) = True := eq_true h2
        rw [if_pos (.inr h2)] at h
        subst h
        clear h1 h2
        go_wp2
        go_meet
        exact ⟨rfl, rfl⟩
      · have d2 : ((k : Int) ≤ slot) = False := eq_false h2
        rw [if_neg (by omega)] at h
        clear h1 h2
        by_cases h3 : v < -1
        · have d3 : (v < -1) = True := eq_true h3
          rw [if_neg (by rw [inRoot_iff]; omega)] at h
          subst h
          clear h3
          go_wp2
          go_meet
          exact ⟨rfl, rfl⟩
        · have d3 : (v < -1) = False := eq_false h3
          by_cases h4 : n ≤ v
          · have d4 : (n ≤ v) = True := eq_true h4
            rw [if_neg (by rw [inRoot_iff]; omega)] at h
            subst h
            clear h3 h4
            go_wp2
            go_meet
            exact ⟨rfl, rfl⟩
          · have d4 : (n ≤ v) = False := eq_false h4
            rw [if_pos (by rw [inRoot_iff]; omega)] at h
            subst h
            clear h3 h4
            go_wp2
            go_meet
            exact ⟨rfl, rfl⟩
  case rest => as_aux_lemma =>
    obtain ⟨rfl, rfl⟩ := hcut
    go_upto_region 16 with fail
    go_cut [115] (fun s wx => s = .bool false ∧ w5 = wx)
    case first => as_aux_lemma =>
      have d0 : (E1 != E1) = false := by simp
      rcases H1'.out with ⟨h1, rfl⟩ | ⟨rfl, rfl, _⟩
      · have d1 : (E1 != 0) = true := by simpa using h1
        clear h1
        go_wp2
        go_meet
        exact ⟨rfl, rfl⟩
      · go_wp2
        go_meet
        exact ⟨rfl, rfl⟩
    case rest => as_aux_lemma =>
      obtain ⟨rfl, rfl⟩ := hcut
      go_wp2_with fail
      have hk32 := HK32.out
      go_loopw [118] (fun i wr => ∃ j : Nat, j ≤ k ∧ i = .int .i64 j ∧ ∃ q, w5.drewN q = wr) (fun i _ => k - (intOf i).toNat)
      case atStart => exact ⟨0, by omega, rfl, 0, rfl⟩
      case round => as_aux_lemma =>
        obtain ⟨j, hj, rfl, q, rfl⟩ := hrel
        by_cases hlt : j < k
        · rcases H1'.out with ⟨h1, rfl⟩ | ⟨rfl, rfl, hA1⟩
          · have d1 : (E1 == 0) = false := by simpa using h1
            clear h1
            go_wp2_with fail
            go_quiet (fail)
            go_wp2
            go_roundw
            case rel => exact ⟨j + 1, by omega, by go_num, _, rfl⟩
            case measure => simp [intOf]; omega
          · obtain ⟨_, hs, _⟩ := setE_ok.1 HE1.out
            rw [HLK.out] at hs
            obtain ⟨s, rfl⟩ : ∃ s : Nat, slot = s := ⟨slot.toNat, by omega⟩
            rw [Int.toNat_natCast] at hA1
            obtain ⟨b1, o1, rfl, _, hc1⟩ := hA1.2.2 (by omega)
            obtain ⟨b, off, rfl, _, hc⟩ := HA5.out.2.2 (by omega)
            have f1 := hc1 j hlt
            have f0 := hc j hlt
            have d0 : ((m1 : Int) != (m1 : Int)) = false := by simp
            clear hc1 hc hA1
            by_cases hjs : j = s
            · subst hjs
              have e1 : nth (zs.set j v) j = v := by rw [nth_get _ _ (by rw [List.length_set, HLK.out]; exact hlt)]; simp
              rw [e1] at f1
              have d1 : ((j : Int) == (j : Int)) = true := by simp
              have d2 : ((j : Int) != (j : Int)) = false := by simp
              have d3 : (v != v) = false := by simp
              clear e1
              generalize nth zs j = X at *
              go_wp2_with fail
              go_quiet (fail)
              go_wp2
              go_roundw
              case rel => exact ⟨j + 1, by omega, by go_num, _, rfl⟩
              case measure => simp [intOf]; omega
            · have e1 : nth (zs.set s v) j = nth zs j := by simp [nth, Ne.symm hjs]
              rw [e1] at f1
              have d1 : ((j : Int) == (s : Int)) = false := by simpa using (by omega : (j : Int) ≠ s)
              have d2 : ((j : Int) != (s : Int)) = true := by simpa using (by omega : (j : Int) ≠ s)
              have d3 : (nth zs j != nth zs j) = false := by simp
              clear e1 hjs
              generalize nth zs j = X at *
              go_wp2_with fail
              go_quiet (fail)
              go_wp2
              go_roundw
              case rel => exact ⟨j + 1, by omega, by go_num, _, rfl⟩
              case measure => simp [intOf]; omega
        · obtain rfl : j = k := by omega
          clear hj hlt
          have HB6 := Lib.hid (below_drewN HB5.out q)
          have x6 : (w5.drewN q).cell? ⟨w.heap.size, 0, none⟩ = some (.int .i64 n) := x5
          have H3 : Hid ((E3 ≠ 0 ∧ m3 = 0) ∨ (E3 = 0 ∧ m3 = j ∧ Arr .i64 (w5.drewN q) (w5.drewN q).heap.size A3 j (swapL zs ts))) := H3'.out
          have HA6 : Hid (Arr .i64 (w5.drewN q) (w5.drewN q).heap.size A j zs) := HA5.out
          have HT6 : Hid (Arr .i64 (w5.drewN q) (w5.drewN q).heap.size A' k' ts) := HT5.out
          clear x5 HB5 HX5 H1' H3' HA5 HT5
          generalize w5.drewN q = w6 at *
          go_upto_if 163 with (fail)
          go_cut [20] (fun s wx => s = .int .i64 E3 ∧ ∃ q, w6.drewN q = wx)
          case first => as_aux_lemma =>
            have h := HE3.out
            unfold swapE at h
            rw [if_neg (by rw [HE.out]; decide), HLT.out] at h
            by_cases hkn : (k' : Int) ≠ n
            · have d1 : ((k' : Int) != n) = true := by simpa using hkn
              rw [if_pos hkn] at h
              subst h
              clear hkn
              go_wp2
              go_meet
              exact ⟨rfl, 0, rfl⟩
            · rw [if_neg hkn] at h
              obtain rfl : n = k' := by omega
              have d1 : ((k' : Int) != (k' : Int)) = false := by simp
              have hk256 : k' ≤ 256 := by have := HN.out; omega
              have HCF := Lib.hid (fun nq => containsFnQ A' k' c' _ 26 #[.pointer (some ⟨w.heap.size, 0, none⟩)] (offR k') ts (w6.drewN nq) HK'.out (HT6.out.drewN nq) (fun args wx => Try.call26 args wx) (fun x => offR_any x k' w.heap.size (w6.drewN nq) x6))
              clear hkn
              by_cases hq : 32 < k'
              · have dq : min (k' : Int) 32 = 32 := by omega
                have dc : (32 : Int) ≤ (c' : Int) := by have := HKC'.out; omega
                have hAD : Arr .i64 w6 w6.heap.size A' 32 (ts.take 32) := by
                  have h1 := HT6.out.cut (D := A') (p := 0) (q := 32) (by omega) (fun b off h _ => by simpa using h)
                  have e1 : (ts.drop 0).take 32 = ts.take 32 := by
                    rw [List.drop_zero]
                  rwa [e1] at h1
                have HRF := Lib.hid (fun nq => rootsFault_any A' 32 c' _ k' (ts.take 32) (w6.drewN nq) (by unfold maxLen; omega) (hAD.drewN nq))
                clear hAD hq
                by_cases hF : rootE k' (ts.take 32) = 0
                · rw [hF] at HRF
                  clear hF
                  by_cases hW : wordsE k' ts = 0
                  · rw [hW] at h
                    rw [offR_ok hW] at HCF
                    subst h
                    clear hW
                    go_wp2_with fail
                    go_quiet (first
                      | (go_at_call 21; exact quiet_sameI (HRF.out _))
                      | (go_at_call 25; exact quiet_sameI (HCF.out _)))
                    go_wp2
                    go_meet
                    exact ⟨rfl, _, rfl⟩
                  · rw [offR_no hW] at HCF
                    rw [(wordsE_or _ _).resolve_left hW] at h
                    subst h
                    clear hW
                    go_wp2_with fail
                    go_quiet (first
                      | (go_at_call 21; exact quiet_sameI (HRF.out _))
                      | (go_at_call 25; exact quiet_sameI (HCF.out _)))
                    go_wp2
                    go_meet
                    exact ⟨rfl, _, rfl⟩
                · have hW : wordsE k' ts ≠ 0 := fun e => hF (take_ok HN.out e)
                  rw [(wordsE_or _ _).resolve_left hW] at h
                  subst h
                  have dF : (rootE k' (ts.take 32) != 0) = true := by simpa using hF
                  clear hF hW
                  generalize rootE k' (ts.take 32) = F at *
                  go_wp2_with fail
                  go_quiet (first
                    | (go_at_call 21; exact quiet_sameI (HRF.out _))
                    | (go_at_call 25; exact quiet_sameI (HCF.out _)))
                  go_wp2
                  go_meet
                  exact ⟨rfl, _, rfl⟩
              · have dq : min (k' : Int) 32 = k' := by omega
                have dc : (k' : Int) ≤ (c' : Int) := by have := HKC'.out; omega
                have hAD : Arr .i64 w6 w6.heap.size A' k' (ts.take 32) := by
                  have h1 := HT6.out.cut (D := A') (p := 0) (q := k') (by omega) (fun b off h _ => by simpa using h)
                  have e1 : (ts.drop 0).take k' = ts.take 32 := by
                    rw [List.drop_zero]
                    rw [List.take_of_length_le (by rw [HLT.out]; exact Nat.le_refl _), List.take_of_length_le (by rw [HLT.out]; omega)]
                  rwa [e1] at h1
                have HRF := Lib.hid (fun nq => rootsFault_any A' k' c' _ k' (ts.take 32) (w6.drewN nq) (by unfold maxLen; omega) (hAD.drewN nq))
                clear hAD hq
                by_cases hF : rootE k' (ts.take 32) = 0
                · rw [hF] at HRF
                  clear hF
                  by_cases hW : wordsE k' ts = 0
                  · rw [hW] at h
                    rw [offR_ok hW] at HCF
                    subst h
                    clear hW
                    go_wp2_with fail
                    go_quiet (first
                      | (go_at_call 21; exact quiet_sameI (HRF.out _))
                      | (go_at_call 25; exact quiet_sameI (HCF.out _)))
                    go_wp2
                    go_meet
                    exact ⟨rfl, _, rfl⟩
                  · rw [offR_no hW] at HCF
                    rw [(wordsE_or _ _).resolve_left hW] at h
                    subst h
                    clear hW
                    go_wp2_with fail
                    go_quiet (first
                      | (go_at_call 21; exact quiet_sameI (HRF.out _))
                      | (go_at_call 25; exact quiet_sameI (HCF.out _)))
                    go_wp2
                    go_meet
                    exact ⟨rfl, _, rfl⟩
                · have hW : wordsE k' ts ≠ 0 := fun e => hF (take_ok HN.out e)
                  rw [(wordsE_or _ _).resolve_left hW] at h
                  subst h
                  have dF : (rootE k' (ts.take 32) != 0) = true := by simpa using hF
                  clear hF hW
                  generalize rootE k' (ts.take 32) = F at *
                  go_wp2_with fail
                  go_quiet (first
                    | (go_at_call 21; exact quiet_sameI (HRF.out _))
                    | (go_at_call 25; exact quiet_sameI (HCF.out _)))
                  go_wp2
                  go_meet
                  exact ⟨rfl, _, rfl⟩
          case rest => as_aux_lemma =>
            obtain ⟨rfl, q, rfl⟩ := hcut
            have HB7 := Lib.hid (below_drewN HB6.out q)
            have H7 : Hid ((E3 ≠ 0 ∧ m3 = 0) ∨ (E3 = 0 ∧ m3 = j ∧ Arr .i64 (w6.drewN q) (w6.drewN q).heap.size A3 j (swapL zs ts))) := H3.out
            have HA7 : Hid (Arr .i64 (w6.drewN q) (w6.drewN q).heap.size A j zs) := HA6.out
            have HT7 : Hid (Arr .i64 (w6.drewN q) (w6.drewN q).heap.size A' k' ts) := HT6.out
            clear x6 HB6 H3 HA6 HT6
            generalize w6.drewN q = w7 at *
            rcases H7.out with ⟨h1, rfl⟩ | ⟨rfl, rfl, hA3⟩
            · have d1 : (E3 != 0) = true := by simpa using h1
              have d2 : (E3 == E3) = true := by simp
              clear h1
              go_wp2
              go_ret
              exact ⟨rfl, HB7.out⟩
            · have d0 : ((m3 : Int) != (m3 : Int)) = false := by simp
              obtain ⟨_, hkn, _⟩ := swapE_ok.1 HE3.out
              rw [HLT.out] at hkn
              have HKN := Lib.hid hkn
              have HA3 := Lib.hid hA3
              clear hkn hA3 H7
              go_wp2_with fail
              go_loopw [198] (fun i wr => ∃ i' : Nat, i' ≤ m3 ∧ i = .int .i64 i' ∧ ∃ q, w7.drewN q = wr) (fun i _ => m3 - (intOf i).toNat)
              case atStart => exact ⟨0, by omega, rfl, 0, rfl⟩
              case round => as_aux_lemma =>
                obtain ⟨i, hi, rfl, q, rfl⟩ := hrel
                by_cases hlt : i < m3
                · obtain ⟨b3, o3, rfl, _, hc3⟩ := HA3.out.2.2 (by omega)
                  obtain ⟨b, off, rfl, _, hc⟩ := HA7.out.2.2 (by omega)
                  have f3 := hc3 i hlt
                  have f0 := hc i hlt
                  clear hc3 hc
                  have hx := HIN.out _ (nth_mem (l := zs) (j := i) (by rw [HLK.out]; exact hlt))
                  rw [swapL_nth (by rw [HLK.out]; exact hlt)] at f3
                  by_cases hneg : nth zs i = -1
                  · rw [hneg] at f0 f3
                    rw [show swapTo ts (-1) = -1 by simp [swapTo]] at f3
                    clear hneg hx
                    go_wp2_with fail
                    go_quiet (fail)
                    go_wp2
                    go_roundw
                    case rel => exact ⟨i + 1, by omega, by go_num, _, rfl⟩
                    case measure => simp [intOf]; omega
                  · obtain ⟨x, hxe⟩ : ∃ x : Nat, nth zs i = x := ⟨(nth zs i).toNat, by omega⟩
                    have hxk : x < k' := by have := HKN.out; omega
                    obtain ⟨bt, ot, rfl, _, hct⟩ := HT7.out.2.2 (by omega)
                    have ft := hct x hxk
                    rw [show swapTo ts (nth zs i) = nth ts x by simp [swapTo, hxe]] at f3
                    rw [hxe] at f0
                    have hk' : k' ≤ 9223372036854775807 := by have := HK'.out; unfold maxLen at this; exact this
                    clear hct hneg hx hxe
                    generalize nth ts x = Y at *
                    have d1 : (Y != Y) = false := by simp
                    have d2 : ((x : Int) < 0) = False := eq_false (by omega)
                    have d3 : (0 ≤ (x : Int)) = True := eq_true (by omega)
                    go_wp2_with fail
                    go_quiet (fail)
                    go_wp2
                    go_roundw
                    case rel => exact ⟨i + 1, by omega, by go_num, _, rfl⟩
                    case measure => simp [intOf]; omega
                · obtain rfl : i = m3 := by omega
                  go_wp2
                  go_ret
                  exact ⟨rfl, below_drewN HB7.out q⟩

theorem rootTells_walk (A A' : Option Addr) (k c k' c' : Nat) (n slot v : Int) (zs ts : List Int) (w : World) (hk : k ≤ maxLen) (hk' : k' ≤ maxLen) (hkc' : k' ≤ c') (ha : Arr .i64 w w.heap.size A k zs) (ht : Arr .i64 w w.heap.size A' k' ts) :
    Calls Try.prog 4 #[.slice A k c, .int .i64 n, .int .i64 slot, .int .i64 v, .slice A' k' c'] w fun e w' => e = .returned (.bool true) ∧ Below w.heap.size w w' := by
  by_cases hE : rootE n zs = 0
  · exact rootTells_ok A A' k c k' c' n slot v zs ts w hk hk' hkc' ha ht hE
  · exact rootTells_bad A A' k c k' c' n slot v zs ts w hk hk' ha ht hE
end Go.Proofs.Ytdieokpfkojoiaa
