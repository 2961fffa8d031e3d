/-
  The walk of TintBounded: whatever the arguments and the memory, the call returns true and changes nothing that was there.
-/
import Derived.Test.YtcdlgohhjnpbmaaTintCW
import Derived.Test.YtcdlgohhjnpbmaaGood
import Derived.Test.YtcdlgohhjnpbmaaRefPack
namespace Go.Proofs.Ytcdlgohhjnpbmaa
open Go.RowKit

section
variable {zs fr ms ms' : List Int}
theorem marks_same {on on' : List Int} (h : OnMarks zs ms on) (h' : OnMarks zs ms' on') (he : ∀ x, x ∈ on ↔ x ∈ on') (u : U64s ms) (u' : U64s ms') : ms = ms' := by
  obtain ⟨_, _, h3, h4⟩ := marksE_zero h.form
  obtain ⟨_, _, h3', h4'⟩ := marksE_zero h'.form
  have hl : ms.length = ms'.length := by omega
  refine bits_ext hl u u' fun k hk => ?_
  rcases Nat.lt_or_ge k zs.length with hlt | hge
  · rw [h.bits k hlt, (h'.same (on' := on) fun x => (he x).symm).bits k hlt]
  · rw [stray_false.1 h4 k hk (by omega), stray_false.1 h4' k (by omega) (by omega)]
theorem count_any {room : Nat} (hz : ∀ z ∈ zs, (Lit.int .u64 z).wf = true) (h : fromE zs fr = 0) (hm : OnMarks zs ms (marking (nxOf zs) room (livesI zs) fr).1.on) : cnt (bit ms) 0 zs.length = takesN zs fr := by
  unfold takesN
  have h1 := (hm.same (on' := reachL zs fr) fun x => by rw [(marks_on hz h).1, reachL_mem hz h]).bits
  exact cnt_congr _ fun k hk => by simpa using h1 k hk
theorem on_reach {room : Nat} (hz : ∀ z ∈ zs, (Lit.int .u64 z).wf = true) (h : fromE zs fr = 0) (x : Int) : x ∈ (marking (nxOf zs) room (livesI zs) fr).1.on ↔ x ∈ reachL zs fr := by rw [(marks_on hz h).1, reachL_mem hz h]
theorem passes_le {room : Nat} (hz : ∀ z ∈ zs, (Lit.int .u64 z).wf = true) (h : fromE zs fr = 0) : (marking (nxOf zs) room (livesI zs) fr).2 ≤ (reachL zs fr).length := by
  obtain ⟨_, h2, _, h4⟩ := marks_on (room := room) hz h
  exact Nat.le_trans h4 (sub_length h2 fun x hx => (on_reach hz h x).1 hx)
theorem passes_wide (hz : ∀ z ∈ zs, (Lit.int .u64 z).wf = true) (h : fromE zs fr = 0) : (marking (nxOf zs) 256 (livesI zs) fr).2 = 0 := by
  obtain ⟨h1, h2⟩ := fromE_zero h
  rw [marking_wide (lives_len (arena_len h1)) (lives_closed hz h1) h2]
theorem markE_zero {st : Int} (h : markE zs fr st = 0) : fromE zs fr = 0 ∧ 1 ≤ st ∧ st ≤ 256 := by
  unfold markE at h
  split at h
  · rename_i h0
    split at h
    · omega
    · exact ⟨h0, by omega, by omega⟩
  · rename_i h0; exact absurd h h0
theorem markE_wide (h : fromE zs fr = 0) : markE zs fr 256 = 0 := by unfold markE; rw [if_pos h, if_neg (by omega)]
end

set_option maxRecDepth 16000 in
set_option maxHeartbeats 4000000 in
theorem tintBounded_walk (A F : Option Addr) (n c nf cf : Nat) (st : Int) (zs fr : List Int) (w : World) (hn : n ≤ maxLen) (hnc : n ≤ c) (ha : Arr .u64 w w.heap.size A n zs) (hnf : nf ≤ maxLen) (hfr : Arr .i64 w w.heap.size F nf fr) :
    Calls Try.prog 11 #[.slice A n c, .slice F nf cf, .int .i64 st] w fun e w' => e = .returned (.bool true) ∧ Below w.heap.size w w' := by
  have HA := Lib.hid ha
  have HF := Lib.hid hfr
  have HN := Lib.hid hn
  have HNF := Lib.hid hnf
  have HT := Lib.hid (tints_any w)
  have hl := ha.1
  clear ha hfr hn hnf
  go_enter Try.func11, Try.ntmps11
  go_wp2_with fail
  refine HT.out.mono ?_
  rintro e w1 ⟨rfl, b1⟩
  have HB1 := Lib.hid b1
  have HR := Lib.hid (Mark_any A F n c nf cf st zs fr w1 HN.out hnc (HA.out.later b1) HNF.out (HF.out.later b1))
  clear b1 HT
  go_wp2_with fail
  refine HR.out.mono ?_
  rintro e w2 ⟨A1, k1, c1, p, d, rfl, b2, hcase⟩
  have HB2 := Lib.hid (bthen HB1.out b2)
  have ba := (Below.refl _ w2).alloc (Nat.le_refl _) (.cells #[.slice A1 k1 c1, .int .i64 p, .int .i64 d] 59)
  have BX := Box.new w2 59 #[.slice A1 k1 c1, .int .i64 p, .int .i64 d]
  have HB3 := Lib.hid (bthen HB2.out ba)
  clear b2 HR HB1
  rcases hcase with ⟨h0, rfl, rfl, rfl⟩ | ⟨h0, hp, hd, ms, hms, hon⟩
  · have hb : (markE zs fr st != 0) = true := by simpa using h0
    clear h0 BX ba
    go_wp2
    go_ret
    exact ⟨rfl, HB3.out⟩
  · rw [h0]
    obtain ⟨hf0, hs1, hs2⟩ := markE_zero h0
    obtain ⟨room, rfl⟩ := Int.eq_ofNat_of_zero_le (by omega : 0 ≤ st)
    rw [Int.toNat_natCast] at hp hd hon
    have H0 := Lib.hid hf0
    have HMS := Lib.hid (hms.later ba)
    have HON := Lib.hid hon
    have HP : Hid (p ≤ (reachL zs fr).length) := by rw [hp]; exact passes_le HA.out.2.1 hf0
    have HD : Hid (d ≤ room) := by rw [hd]; exact marking_deep
    have BX3 := Lib.hid BX
    have hr256 := reachL_len (fr := fr) (arena_len (fromE_zero hf0).1)
    have h256 := arena_len (fromE_zero hf0).1
    have d0 : (w2.alloc (.cells #[.slice A1 k1 c1, .int .i64 p, .int .i64 d] 59)).cell? ⟨w2.heap.size, 0, none⟩ = some (.slice A1 k1 c1) := BX.cell 0
    clear hp hd hon hms ba BX h0 hf0 HB2 d0
    have HR := Lib.hid (Reach_any A F n c nf cf zs fr _ HN.out hnc (HA.out.later HB3.out) HNF.out (HF.out.later HB3.out))
    go_wp2_with fail
    obtain ⟨g, hg⟩ : ∃ g, w2.heap.size = g := ⟨_, rfl⟩
    rw [hg] at BX3 ⊢
    clear hg
    generalize (w2.alloc (.cells #[.slice A1 k1 c1, .int .i64 p, .int .i64 d] 59)) = W3 at *
    refine HR.out.mono ?_
    rintro e w4 ⟨L, m, lc, rfl, b4, hcase⟩
    rcases hcase with ⟨h0, _⟩ | ⟨_, hm, hL⟩
    · exact absurd H0.out h0
    rw [H0.out]
    have HL := Lib.hid hL
    have HMM := Lib.hid hm
    have hm256 : m ≤ 256 := by rw [hm]; exact hr256
    have HB4 := Lib.hid (bthen HB3.out b4)
    have HMS4 := Lib.hid (HMS.out.later b4)
    have BX4 := Lib.hid (BX3.out.below b4 BX3.out.lt)
    clear hm hL b4 HR HMS BX3 HB3
    have HWD := Lib.hid (Words_any A F n c nf cf zs fr w4 HN.out hnc (HA.out.later HB4.out) HNF.out (HF.out.later HB4.out))
    go_wp2_with fail
    refine HWD.out.mono ?_
    rintro e w5 ⟨v, rfl, b5, hcase⟩
    rcases hcase with ⟨h0, _⟩ | ⟨_, hv⟩
    · exact absurd H0.out h0
    rw [H0.out]
    have HV := Lib.hid hv
    have HB5 := Lib.hid (bthen HB4.out b5)
    have HMS5 := Lib.hid (HMS4.out.later b5)
    have BX5 := Lib.hid (BX4.out.below b5 BX4.out.lt)
    have HL5 := Lib.hid (HL.out.later b5)
    clear hv b5 HWD HMS4 BX4 HB4 HL
    have hE : spotE ms (n : Int) 0 (n : Int) = 0 := spotE_ok (by rw [← hl]; exact HON.out.form) (validB_true (by omega))
    have hk4 : k1 ≤ maxLen := by
      obtain ⟨_, _, h3, _⟩ := marksE_zero HON.out.form
      have := HMS5.out.1
      unfold maxLen; omega
    have HCT := Lib.hid (Count_any A1 k1 c1 _ (n : Int) 0 (n : Int) ms w5 hk4 (wf_i64.2 (by omega)) (by decide) (wf_i64.2 (by omega)) HMS5.out)
    have HCV : Hid (countV ms (n : Int) 0 (n : Int) = (v : Int)) := by
      show _ = _
      unfold countV
      rw [if_pos hE, HV.out, ← count_any HA.out.2.1 H0.out HON.out, hl]
      simp
    rw [hE, HCV.out] at HCT
    have d0 : w5.cell? ⟨g, 0, none⟩ = some (.slice A1 k1 c1) := BX5.out.cell 0
    clear hE HCV HV
    go_wp2_with fail
    refine HCT.out.mono ?_
    rintro e w6 ⟨rfl, rfl⟩
    have HR2 := Lib.hid (Mark_any A F n c nf cf 256 zs fr w5 HN.out hnc (HA.out.later HB5.out) HNF.out (HF.out.later HB5.out))
    clear HCT d0
    go_wp2_with fail
    refine HR2.out.mono ?_
    rintro e w7 ⟨A7, k7, c7, p7, d7, rfl, b7, hcase⟩
    rcases hcase with ⟨h0, _⟩ | ⟨_, hp7, hd7, ms7, hms7, hon7⟩
    · exact absurd (markE_wide H0.out) h0
    rw [markE_wide H0.out]
    clear hd7
    obtain rfl : p7 = 0 := by rw [hp7]; exact passes_wide HA.out.2.1 H0.out
    have ba := (Below.refl _ w7).alloc (Nat.le_refl _) (.cells #[.slice A7 k7 c7, .int .i64 0, .int .i64 d7] 59)
    have bx7 := Box.new w7 59 #[.slice A7 k7 c7, .int .i64 0, .int .i64 d7]
    obtain rfl : ms = ms7 := marks_same HON.out hon7 (fun x => by rw [on_reach HA.out.2.1 H0.out]; exact (on_reach (room := 256) HA.out.2.1 H0.out x).symm) HMS5.out.2.1 hms7.2.1
    obtain rfl : k1 = k7 := by rw [← HMS5.out.1, hms7.1]
    have BX7 := Lib.hid bx7
    have hb7 := bthen b7 ba
    have HMS7 := Lib.hid (hms7.later ba)
    have HM17 := Lib.hid (HMS5.out.later hb7)
    have BX17 := Lib.hid (BX5.out.below hb7 BX5.out.lt)
    have HL7 := Lib.hid (HL5.out.later hb7)
    have HB7 := Lib.hid (bthen HB5.out hb7)
    have HG := Lib.hid (keepBegins_any A n c zs _ HN.out (HA.out.later (bthen HB5.out hb7)) (arErr_zero (fromE_zero H0.out).1).1)
    clear b7 hp7 hms7 hon7 bx7 ba hb7 HMS5 BX5 HL5 HB5 HR2
    go_wp2_with fail
    obtain ⟨g7, hg7⟩ : ∃ g, w7.heap.size = g := ⟨_, rfl⟩
    rw [hg7] at BX7 ⊢
    clear hg7
    generalize (w7.alloc (.cells #[.slice A7 k1 c7, .int .i64 0, .int .i64 d7] 59)) = W7 at *
    refine HG.out.mono ?_
    rintro e w8 ⟨A8, c8, rfl, b8, hA8⟩
    have HA8 := Lib.hid hA8
    have HMS8 := Lib.hid (HMS7.out.later b8)
    have HM18 := Lib.hid (HM17.out.later b8)
    have BX18 := Lib.hid (BX17.out.below b8 BX17.out.lt)
    have BX8 := Lib.hid (BX7.out.below b8 BX7.out.lt)
    have HL8 := Lib.hid (HL7.out.later b8)
    have HB8 := Lib.hid (bthen HB7.out b8)
    clear b8 hA8 HMS7 HM17 BX17 BX7 HL7 HB7 HG
    obtain ⟨ln, hln⟩ : ∃ q, (livesI zs).length = q := ⟨_, rfl⟩
    rw [hln] at HA8 ⊢
    have hln2 : ln ≤ 256 := by rw [← hln]; exact lives_len h256
    have HLN := Lib.hid hln
    clear hln
    go_wp2_with fail
    go_loopw [72] (fun i wr => ∃ k : Nat, k ≤ ln ∧ i = .int .i64 k ∧ w8 = wr) (fun i _ => ln - (intOf i).toNat)
    case atStart => exact ⟨0, Nat.zero_le _, rfl, rfl⟩
    case round =>
      obtain ⟨k, hk, rfl, rfl⟩ := hrel
      have d0 : w8.cell? ⟨g, 0, none⟩ = some (.slice A1 k1 c1) := BX18.out.cell 0
      by_cases hlt : k < ln
      · have hmem : nth (livesI zs) k ∈ livesI zs := nth_mem (by rw [HLN.out]; exact hlt)
        have hlv := lives_lt hmem
        obtain ⟨b, off, rfl, _, hcs⟩ := HA8.out.2.2 (by omega)
        have hc := hcs k hlt
        have hE : spotE ms (n : Int) (nth (livesI zs) k) 1 = 0 := spotE_ok (by rw [← hl]; exact HON.out.form) (validB_true (by omega))
        have HH := Lib.hid (hasOk_any A1 k1 c1 _ (n : Int) (nth (livesI zs) k) ms w8 HM18.out hE)
        rw [HON.out.has (marks_on (room := room) HA.out.2.1 H0.out).2.2.1 hmem] at HH
        have HC := Lib.hid (containsR_any L m lc _ (nth (livesI zs) k) (reachL zs fr) w8 (by unfold maxLen; omega) HL8.out)
        have HEQ : Hid (decide (nth (livesI zs) k ∈ (marking (nxOf zs) room (livesI zs) fr).1.on) = decide (nth (livesI zs) k ∈ reachL zs fr)) := by
          show _ = _
          rw [Bool.eq_iff_iff]
          simp [on_reach HA.out.2.1 H0.out]
        rw [HEQ.out] at HH
        clear hcs hmem hlv hE HEQ
        generalize decide (nth (livesI zs) k ∈ reachL zs fr) = V at *
        generalize nth (livesI zs) k = X at *
        have c1 : (V != V) = false := by simp
        go_wp2_with fail
        refine HH.out.mono ?_
        rintro e w9 ⟨rfl, rfl⟩
        go_wp2_with fail
        refine HC.out.mono ?_
        rintro e w9 ⟨rfl, rfl⟩
        go_wp2
        go_roundw
        case rel => exact ⟨k + 1, by omega, by go_num, by trivial⟩
        case measure => simp [intOf]; omega
      · obtain rfl : k = ln := by omega
        have bw := (Below.refl w8.heap.size w8).alloc (Nat.le_refl _) (.cells #[.int .i64 0, .int .i64 0, .int .i64 0, .int .i64 0] 23)
        have HGO := Lib.hid (good_any (some ⟨w8.heap.size, 0, none⟩) 4 4 _ _ _ (by decide) (zeros_good 23 w8 4 #[.int .i64 0, .int .i64 0, .int .i64 0, .int .i64 0] rfl))
        rw [zeros_fine] at HGO
        have hM1 := HM18.out.later bw
        have hM2 := HMS8.out.later bw
        have hX1 := BX18.out.below bw BX18.out.lt
        have hX2 := BX8.out.below bw BX8.out.lt
        have HB9 := Lib.hid (bthen HB8.out bw)
        have HM1 := Lib.hid hM1
        have HM2 := Lib.hid hM2
        have HX1 := Lib.hid hX1
        have HX2 := Lib.hid hX2
        clear hM1 hM2 bw HM18 HMS8 HB8 d0 hX1 hX2
        go_wp2_with fail
        refine HGO.out.mono ?_
        rintro e w9 ⟨rfl, rfl⟩
        generalize (w8.alloc (.cells #[.int .i64 0, .int .i64 0, .int .i64 0, .int .i64 0] 23)) = W9 at *
        have HEQ := Lib.hid (equalWords A1 A7 k1 k1 c1 c7 _ ms ms W9 HM1.out HM2.out hk4 hk4)
        rw [show decide (ms = ms) = true by simp] at HEQ
        have e0 : W9.cell? ⟨g, 0, none⟩ = some (.slice A1 k1 c1) := HX1.out.cell 0
        have e1 : W9.cell? ⟨g7, 0, none⟩ = some (.slice A7 k1 c7) := HX2.out.cell 0
        have cv : ((v : Int) == (v : Int)) = true := by simp
        clear HGO HM1 HM2
        go_wp2_with fail
        refine HEQ.out.mono ?_
        rintro e w10 ⟨rfl, q, rfl⟩
        have HB10 : Hid (Below w.heap.size w (W9.drewN q)) := below_drewN HB9.out q
        have f0 : (W9.drewN q).cell? ⟨g, 1, none⟩ = some (.int .i64 p) := HX1.out.cell 1
        have f1 : (W9.drewN q).cell? ⟨g, 2, none⟩ = some (.int .i64 d) := HX1.out.cell 2
        have f2 : (W9.drewN q).cell? ⟨g7, 1, none⟩ = some (.int .i64 0) := HX2.out.cell 1
        have cp : (p : Int) ≤ (m : Int) := by have := HP.out; have := HMM.out; omega
        have cd : (d : Int) ≤ (room : Int) := by have := HD.out; omega
        clear HEQ HB9 e0 e1 HX1 HX2
        generalize W9.drewN q = W10 at *
        go_wp2
        go_ret
        exact ⟨rfl, HB10.out⟩
end Go.Proofs.Ytcdlgohhjnpbmaa
