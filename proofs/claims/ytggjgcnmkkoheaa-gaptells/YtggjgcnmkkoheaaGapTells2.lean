/-
  The walk of GapTells where the arena is good.
-/
import Derived.Test.YtggjgcnmkkoheaaGapTells1
import Derived.Test.YtggjgcnmkkoheaaRefGaps
import Derived.Test.YtggjgcnmkkoheaaRefHeadAt
import Derived.Deep.DeepCutAuto
import Derived.Deep.CutBlock
namespace Go.Proofs.Ytggjgcnmkkoheaa
open Go.RowKit

set_option maxHeartbeats 400000 in
theorem headLong_raw (r b t : Int) (f : Bool) (w : World) :
    Calls Try.prog 21 #[.agg #[.int .i64 r, .int .i64 b, .int .i64 t, .bool f]] w fun e w' => (∃ x, e = .returned (.int .i64 x)) ∧ Below w.heap.size w w' := by
  go_enter Try.func21, Try.ntmps21
  go_wp2
  go_ret
  exact ⟨⟨_, rfl⟩, (Below.refl _ w).alloc (Nat.le_refl _) _⟩
theorem headLong_all (r b t : Int) (f : Bool) (w : World) :
    Calls Try.prog 21 #[.agg #[.int .i64 r, .int .i64 b, .int .i64 t, .bool f]] w fun e w' => (∃ x, e = .returned (.int .i64 x) ∧ (tk0 r b t f = 0 → x = 1 + r + b)) ∧ Below w.heap.size w w' := by
  by_cases h : tk0 r b t f = 0
  · obtain ⟨h1, _⟩ := tk0_none h
    obtain ⟨g1, g2, _, _, g5, _⟩ := hFault_ok h1
    exact (headLong_any r b t f w g1 (by omega) g2 (by omega)).mono fun e w' hh => ⟨⟨_, hh.1, fun _ => rfl⟩, hh.2⟩
  · exact (headLong_raw r b t f w).mono fun e w' hh => ⟨⟨hh.1.choose, hh.1.choose_spec, fun h' => absurd h' h⟩, hh.2⟩
/-- What is known of a result of words: none, or these. -/
def Gave (E : Int) (w : World) (A : Option Addr) (k n : Nat) (ys : List Int) : Prop := (E ≠ 0 ∧ k = 0) ∨ (E = 0 ∧ k = n ∧ Arr .u64 w w.heap.size A k ys)
theorem Gave.below {E : Int} {w w' : World} {A : Option Addr} {k n : Nat} {ys : List Int} (h : Gave E w A k n ys) (hb : Below w.heap.size w w') : Gave E w' A k n ys :=
  h.imp id fun ⟨h1, h2, h3⟩ => ⟨h1, h2, (h3.below hb (Nat.le_refl _)).more hb.size⟩

set_option maxHeartbeats 8000000 in
set_option maxRecDepth 100000 in
theorem gapTells_good (A : Option Addr) (n c : Nat) (a r b t : Int) (f : Bool) (zs : List Int) (w : World) (hn : n ≤ maxLen) (hnc : n ≤ c) (ha : Arr .u64 w w.heap.size A n zs) (h : arErr zs = 0) :
    Calls Try.prog 3 #[.slice A n c, .int .i64 a, .agg #[.int .i64 r, .int .i64 b, .int .i64 t, .bool f]] w fun e w' => e = .returned (.bool true) ∧ Below w.heap.size w w' := by
  have hlen := ha.1
  have hs := (arErr_zero h).1
  obtain ⟨h256, hfin⟩ := spErr_zero hs
  have H1 := Lib.hid (fun w ha => Gaps_any A n c zs w hn hnc ha)
  have H2 := Lib.hid (fun w ha => Join_any A n c zs w hn hnc ha)
  have H3 := Lib.hid (fun w ha => Take_any A n c a r b t f zs w hn hnc ha)
  have H4 := Lib.hid (fun w ha => Give_any A n c a zs w hn hnc ha)
  have H5 := Lib.hid (fun w ha => ArenaFault_any A n c zs w hn ha)
  have H6 := Lib.hid (fun w => headFault_any r b t f w)
  unfold GapsP at H1
  unfold JoinP at H2
  unfold TakeP at H3
  unfold GiveP at H4
  rw [h] at H1 H2 H5
  have HEQ := Lib.hid h
  have HZ := Lib.hid ha.2.1
  obtain ⟨TE, hTE⟩ : ∃ TE, takeE zs a r b t f = TE := ⟨_, rfl⟩
  obtain ⟨GE, hGE⟩ : ∃ GE, giveE zs a = GE := ⟨_, rfl⟩
  obtain ⟨HF, hHF⟩ : ∃ HF, hFault r b t f = HF := ⟨_, rfl⟩
  obtain ⟨TK, hTK⟩ : ∃ TK, tk0 r b t f = TK := ⟨_, rfl⟩
  rw [hTE] at H3
  rw [hGE] at H4
  rw [hHF] at H6
  have HWAY : Hid ((HF ≠ 0 ∧ TK = HF) ∨ (HF = 0 ∧ f = true ∧ TK = 3) ∨ (HF = 0 ∧ f = false ∧ TK = 0)) := by
    show _ ∨ _
    rw [← hTK, ← hHF]
    unfold tk0
    by_cases h0 : hFault r b t f = 0
    · cases f
      · exact .inr (.inr ⟨h0, rfl, by rw [if_pos h0]; rfl⟩)
      · exact .inr (.inl ⟨h0, rfl, by rw [if_pos h0]; rfl⟩)
    · exact .inl ⟨h0, by rw [if_neg h0]⟩
  have HTE := Lib.hid hTE
  have HGE := Lib.hid hGE
  have HHF := Lib.hid hHF
  have HTK := Lib.hid hTK
  have HA := Lib.hid ha
  have HX := Lib.hid (Box4.new w (.int .i64 r) (.int .i64 b) (.int .i64 t) (.bool f))
  have HBW := Lib.hid ((Below.refl w.heap.size w).alloc (Nat.le_refl _) (.cells #[.int .i64 r, .int .i64 b, .int .i64 t, .bool f] 24))
  have hgl := runsTo_len (f := freeAt zs) zs.length
  change (gapsL zs).length ≤ _ at hgl
  have hbl := begins_len (zs := zs) (a := 0)
  clear ha h hTE hGE hHF hTK hs hfin
  go_enter Try.func3, Try.ntmps3
  have HA0 := Lib.hid ((HA.out.below HBW.out (Nat.le_refl _)).more HBW.out.size)
  go_wp2_with fail
  refine (H1.out _ HA0.out).mono ?_
  rintro e w1 ⟨A1, k1, cc1, rfl, hb1, _, hr⟩
  have hr1 : k1 = (gapsL zs).length ∧ ArrG runC 2 w1 w1.heap.size A1 k1 (gapsL zs) := by
    rcases hr with ⟨hx, _⟩ | ⟨_, h1, h2⟩
    · exact absurd rfl hx
    · exact ⟨h1, h2⟩
  obtain ⟨rfl, hL1⟩ := hr1
  have HL1 := Lib.hid hL1
  have HX1 := Lib.hid (HX.out.below hb1 HX.out.lt)
  have HB1 := Lib.hid (HBW.out.trans (hb1.mono HBW.out.size))
  have HA1 := Lib.hid ((HA0.out.below hb1 (Nat.le_refl _)).more hb1.size)
  clear hb1 HA0 HA HX HBW H1 hr hL1
  go_wp2_with fail
  refine (H2.out _ HA1.out).mono ?_
  rintro e w2 ⟨A2, k2, cc2, rfl, hb2, hr⟩
  have hr2 : n = k2 ∧ Arr .u64 w2 w2.heap.size A2 k2 (joinL zs) := by
    rcases hr with ⟨hx, _⟩ | ⟨_, h1, h2⟩
    · exact absurd rfl hx
    · exact ⟨by rw [h1]; exact hlen.symm, h2.arr⟩
  obtain ⟨rfl, hJ2⟩ := hr2
  have HJ2 := Lib.hid hJ2
  have HL2 := Lib.hid ((HL1.out.below hb2 (Nat.le_refl _)).more hb2.size)
  have HX2 := Lib.hid (HX1.out.below hb2 HX1.out.lt)
  obtain ⟨c0, c1, c2, c3⟩ := HX2.out.cells
  have HB2 := Lib.hid (HB1.out.trans (hb2.mono HB1.out.size))
  have HA2 := Lib.hid ((HA1.out.below hb2 (Nat.le_refl _)).more hb2.size)
  clear hb2 HA1 HB1 HX1 H2 hr hJ2 HL1
  go_wp2_with fail
  refine (H3.out _ HA2.out).mono ?_
  rintro e w3 ⟨A3, k3, cc3, rfl, hb3, hr⟩
  have HT3 : Hid (Gave TE w3 A3 k3 n (takeL zs a.toNat (1 + r + b).toNat (sLong (nth zs a.toNat)) (hWord r b t f))) := hr.imp id fun ⟨h1, h2, h3⟩ => ⟨h1, by rw [h2]; exact hlen, h3.arr⟩
  have HJ3 := Lib.hid ((HJ2.out.below hb3 (Nat.le_refl _)).more hb3.size)
  have HL3 := Lib.hid ((HL2.out.below hb3 (Nat.le_refl _)).more hb3.size)
  have HX3 := Lib.hid (HX2.out.below hb3 HX2.out.lt)
  have HB3 := Lib.hid (HB2.out.trans (hb3.mono HB2.out.size))
  have HA3 := Lib.hid ((HA2.out.below hb3 (Nat.le_refl _)).more hb3.size)
  clear hb3 HA2 HB2 HX2 H3 hr c0 c1 c2 c3 HJ2 HL2
  go_wp2_with fail
  refine (H4.out _ HA3.out).mono ?_
  rintro e w4 ⟨A4, k4, cc4, rfl, hb4, hr⟩
  have HG4 : Hid (Gave GE w4 A4 k4 n (giveL zs a.toNat)) := hr.imp (fun ⟨h1, _, h2, _⟩ => ⟨h1, h2⟩) fun ⟨h1, h2, h3⟩ => ⟨h1, by rw [h2]; exact hlen, h3.arr⟩
  have HT4 := Lib.hid (HT3.out.below hb4)
  have HJ4 := Lib.hid ((HJ3.out.below hb4 (Nat.le_refl _)).more hb4.size)
  have HL4 := Lib.hid ((HL3.out.below hb4 (Nat.le_refl _)).more hb4.size)
  have HX4 := Lib.hid (HX3.out.below hb4 HX3.out.lt)
  have HB4 := Lib.hid (HB3.out.trans (hb4.mono HB3.out.size))
  have HA4 := Lib.hid ((HA3.out.below hb4 (Nat.le_refl _)).more hb4.size)
  clear hb4 HA3 HB3 HX3 H4 hr HJ3 HL3 HT3
  go_wp2_with fail
  refine (H5.out _ HA4.out).mono ?_
  rintro e w5 ⟨rfl, hb5⟩
  have HG5 := Lib.hid (HG4.out.below hb5)
  have HT5 := Lib.hid (HT4.out.below hb5)
  have HJ5 := Lib.hid ((HJ4.out.below hb5 (Nat.le_refl _)).more hb5.size)
  have HL5 := Lib.hid ((HL4.out.below hb5 (Nat.le_refl _)).more hb5.size)
  have HX5 := Lib.hid (HX4.out.below hb5 HX4.out.lt)
  obtain ⟨c0, c1, c2, c3⟩ := HX5.out.cells
  have HB5 := Lib.hid (HB4.out.trans (hb5.mono HB4.out.size))
  have HA5 := Lib.hid ((HA4.out.below hb5 (Nat.le_refl _)).more hb5.size)
  clear hb5 HA4 HB4 HX4 H5 HJ4 HL4 HT4 HG4
  go_wp2_with fail
  refine (H6.out _).mono ?_
  rintro e w6 ⟨rfl, hb6⟩
  have HG6 := Lib.hid (HG5.out.below hb6)
  have HT6 := Lib.hid (HT5.out.below hb6)
  have HJ6 := Lib.hid ((HJ5.out.below hb6 (Nat.le_refl _)).more hb6.size)
  have HL6 := Lib.hid ((HL5.out.below hb6 (Nat.le_refl _)).more hb6.size)
  have HX6 := Lib.hid (HX5.out.below hb6 HX5.out.lt)
  have HB6 := Lib.hid (HB5.out.trans (hb6.mono HB5.out.size))
  have HA6 := Lib.hid ((HA5.out.below hb6 (Nat.le_refl _)).more hb6.size)
  clear hb6 HA5 HB5 HX5 H6 HJ5 HL5 HT5 HG5 c0 c1 c2 c3
  go_upto_region 7 with fail
  go_cut [65] (fun s wx => s = .bool (tkF r b t f) ∧ w6 = wx)
  case first => as_aux_lemma =>
    obtain ⟨d0, d1, d2, d3⟩ := HX6.out.cells
    rcases HWAY.out with ⟨h1, h2⟩ | ⟨h1, h2, h3⟩ | ⟨h1, h2, h3⟩
    · have hq : (HF == 0) = false := by simpa using h1
      have hq2 : (HF = 0) = False := eq_false h1
      have e : Hid (tkF r b t f = false) := by show _ = _; unfold tkF; rw [HHF.out, hq]; rfl
      clear h1 h2
      go_wp2_with fail
      go_meet
      exact ⟨by rw [e.out], rfl⟩
    · have e : Hid (tkF r b t f = true) := by show _ = _; unfold tkF; rw [HHF.out, h1, h2]; rfl
      have hq : (HF == 0) = true := by simp [h1]
      rw [h2] at d3
      clear h3
      go_wp2_with fail
      go_meet
      exact ⟨by rw [e.out], rfl⟩
    · have e : Hid (tkF r b t f = false) := by show _ = _; unfold tkF; rw [HHF.out, h1, h2]; rfl
      have hq : (HF == 0) = true := by simp [h1]
      rw [h2] at d3
      clear h3
      go_wp2_with fail
      go_meet
      exact ⟨by rw [e.out], rfl⟩
  case rest => as_aux_lemma =>
    obtain ⟨rfl, rfl⟩ := hcut
    have HF1 : Hid (tkF r b t f = true → TK = 3) := by
      show _ → _
      intro hh
      unfold tkF at hh
      rw [HHF.out] at hh
      rcases HWAY.out with ⟨h1, h2⟩ | ⟨h1, h2, h3⟩ | ⟨h1, h2, h3⟩
      · simp [h1] at hh
      · exact h3
      · rw [h2] at hh; simp at hh
    have HF2 : Hid (tkF r b t f = false → TK = HF) := by
      show _ → _
      intro hh
      unfold tkF at hh
      rw [HHF.out] at hh
      rcases HWAY.out with ⟨h1, h2⟩ | ⟨h1, h2, h3⟩ | ⟨h1, h2, h3⟩
      · exact h2
      · rw [h1, h2] at hh; simp at hh
      · rw [h3, h1]
    go_upto_if 65 with (fail)
    go_cut [16] (fun s wx => s = .int .i64 TK ∧ w6 = wx)
    case first => as_aux_lemma =>
      cases hF : tkF r b t f
      · have e := Lib.hid (HF2.out hF)
        clear HF1 HF2
        go_wp2_with fail
        go_meet
        exact ⟨by rw [e.out], rfl⟩
      · have e := Lib.hid (HF1.out hF)
        clear HF1 HF2
        go_wp2_with fail
        go_meet
        exact ⟨by rw [e.out], rfl⟩
    case rest => as_aux_lemma =>
      obtain ⟨rfl, rfl⟩ := hcut
      clear HF1 HF2
      go_upto_if 67 with (fail)
      go_cut [16] (fun s wx => s = .int .i64 TK ∧ w6 = wx)
      case first => as_aux_lemma =>
        by_cases hT : TK = 0
        · have hq : (TK == 0) = true := by simp [hT]
          rw [hq]
          have e := Lib.hid hT
          clear hT hq
          go_wp2_with fail
          go_meet
          exact ⟨by rw [e.out], rfl⟩
        · have hq : (TK == 0) = false := by simpa using hT
          rw [hq]
          clear hT hq
          go_wp2_with fail
          go_meet
          exact ⟨rfl, rfl⟩
      case rest => as_aux_lemma =>
        obtain ⟨rfl, rfl⟩ := hcut
        have K1 := Lib.hid (fun w ha => gapsOf_any A n c zs w ha (arErr_zero HEQ.out).1)
        have K2 := Lib.hid (fun w ha => refClone_any A n c zs w (by omega) ha)
        unfold GapsOfP at K1
        unfold Cloned at K2
        obtain ⟨G, hG⟩ : ∃ G, gapsL zs = G := ⟨_, rfl⟩
        have HJOIN : Hid (joinL zs = joinTo zs G) := by show _ = _; rw [← hG]; rfl
        have HGP := Lib.hid (fun r (hr : r ∈ gapsL zs) => gaps_pos hr)
        have HJL := Lib.hid (fun k => joinTo_len (l := (gapsL zs).take k) (zs := zs) (fun r hr => by have := gaps_pos (List.mem_of_mem_take hr); omega))
        rw [hG] at K1 HL6 hgl HGP HJL
        rw [hG]
        clear hG
        go_wp2_with fail
        refine (K1.out _ HA6.out).mono ?_
        rintro e w7 ⟨A7, c7, rfl, hb7, hL7⟩
        have HM7 := Lib.hid hL7
        have HG7 := Lib.hid (HG6.out.below hb7)
        have HT7 := Lib.hid (HT6.out.below hb7)
        have HJ7 := Lib.hid ((HJ6.out.below hb7 (Nat.le_refl _)).more hb7.size)
        have HL7 := Lib.hid ((HL6.out.below hb7 (Nat.le_refl _)).more hb7.size)
        have HX7 := Lib.hid (HX6.out.below hb7 HX6.out.lt)
        have HB7 := Lib.hid (HB6.out.trans (hb7.mono HB6.out.size))
        have HA7 := Lib.hid ((HA6.out.below hb7 (Nat.le_refl _)).more hb7.size)
        clear hb7 HA6 HB6 HX6 HJ6 HL6 HT6 HG6 K1 hL7
        go_wp2_with fail
        refine (K2.out _ HA7.out).mono ?_
        rintro e w8 ⟨A8, c8, rfl, hO8, hb8⟩
        obtain ⟨A8', c8', hv8, _, hC8⟩ := hO8.arr
        injection hv8 with hv1 hv2 hv3
        subst hv1 hv3
        rw [← hv2] at hC8
        have HC8 := Lib.hid hC8
        have HM8 := Lib.hid ((HM7.out.below hb8 (Nat.le_refl _)).more hb8.size)
        have HG8 := Lib.hid (HG7.out.below hb8)
        have HT8 := Lib.hid (HT7.out.below hb8)
        have HJ8 := Lib.hid ((HJ7.out.below hb8 (Nat.le_refl _)).more hb8.size)
        have HL8 := Lib.hid ((HL7.out.below hb8 (Nat.le_refl _)).more hb8.size)
        have HX8 := Lib.hid (HX7.out.below hb8 HX7.out.lt)
        have HB8 := Lib.hid (HB7.out.trans (hb8.mono HB7.out.size))
        have HA8 := Lib.hid ((HA7.out.below hb8 (Nat.le_refl _)).more hb8.size)
        clear hb8 HA7 HB7 HX7 HJ7 HL7 HT7 HG7 HM7 K2 hO8 hC8 hv2
        have hg256 : G.length ≤ 256 := by omega
        go_wp2_with fail
        go_loopw [18, 109] (fun v i wr => ∃ k : Nat, k ≤ G.length ∧ i = .int .i64 k ∧ (∃ A' c', v = .slice A' n c' ∧ Arr .u64 wr wr.heap.size A' n (joinTo zs (G.take k))) ∧ Below w8.heap.size w8 wr) (fun _ i _ => G.length - (intOf i).toNat)
        case atStart => exact ⟨0, Nat.zero_le _, rfl, ⟨_, _, rfl, HC8.out⟩, Below.refl _ _⟩
        case round => as_aux_lemma =>
          obtain ⟨k, hk, rfl, ⟨A9, c9, rfl, hA9⟩, hB⟩ := hrel
          by_cases hlt : k < G.length
          · obtain ⟨bb, off, rfl, hbB, d0, d1⟩ := (HM8.out.below hB (Nat.le_refl _)).run hlt
            have hmem : nthG G k ∈ G := by rw [nthG_get _ _ hlt]; exact List.getElem_mem _
            obtain ⟨r1, r2, r3⟩ := HGP.out _ hmem
            obtain ⟨p, hp⟩ := Int.eq_ofNat_of_zero_le r1
            obtain ⟨L, hL⟩ := Int.eq_ofNat_of_zero_le (by omega : 0 ≤ (nthG G k).2)
            rw [hp] at d0
            rw [hL] at d1
            have hstep : joinTo zs (G.take (k + 1)) = emptyL (joinTo zs (G.take k)) p L := by
              rw [take_next G k hlt, joinTo_snoc, hp, hL]
              rfl
            have HST := Lib.hid hstep
            have HEm := Lib.hid (fun w ha => emptied_any A9 n c9 p L (joinTo zs (G.take k)) w (by omega) (by omega) ha)
            unfold EmptiedP at HEm
            have bw := (Below.refl wr.heap.size wr).alloc (Nat.le_refl _) (.cells #[.int .i64 p, .int .i64 L] 38)
            have HA9 := Lib.hid ((hA9.below bw (Nat.le_refl _)).more bw.size)
            have HBW := Lib.hid (hB.trans (bw.mono hB.size))
            clear bw hA9 hB hmem r1 r2 r3 hp hL hstep hbB
            go_wp2_with fail
            refine (HEm.out _ HA9.out).mono ?_
            rintro e w9 ⟨A10, c10, rfl, hO9, hb9⟩
            obtain ⟨A10', c10', hv9, _, hC9⟩ := hO9.arr
            injection hv9 with hv1 hv2 hv3
            subst hv1 hv3
            rw [← hv2] at hC9
            have HC9 := Lib.hid hC9
            have HB9 := Lib.hid (HBW.out.trans (hb9.mono HBW.out.size))
            clear hO9 hC9 hb9 hv2 d0 d1
            go_wp2
            go_roundw
            case rel => exact ⟨k + 1, by omega, by go_num, ⟨_, _, rfl, by rw [HST.out]; exact HC9.out⟩, HB9.out⟩
            case measure => simp [intOf]; omega
          · obtain rfl : k = G.length := by omega
            rw [List.take_length, ← HJOIN.out] at hA9
            have HC9 := Lib.hid hA9
            have HM9 := Lib.hid ((HM8.out.below hB (Nat.le_refl _)).more hB.size)
            have HG9 := Lib.hid (HG8.out.below hB)
            have HT9 := Lib.hid (HT8.out.below hB)
            have HJ9 := Lib.hid ((HJ8.out.below hB (Nat.le_refl _)).more hB.size)
            have HL9 := Lib.hid ((HL8.out.below hB (Nat.le_refl _)).more hB.size)
            have HX9 := Lib.hid (HX8.out.below hB HX8.out.lt)
            have HB9 := Lib.hid (HB8.out.trans (hB.mono HB8.out.size))
            have HA9 := Lib.hid ((HA8.out.below hB (Nat.le_refl _)).more hB.size)
            clear hB HA8 HB8 HX8 HJ8 HL8 HT8 HG8 HM8 HC8 hA9 HJOIN HGP HJL
            generalize wr = w9 at *
            have HR9 := Lib.hid (sameRuns_same A1 A7 G.length cc1 c7 w9.heap.size G _ HL9.out HM9.out (by unfold maxLen; omega))
            have HW9 := Lib.hid (fun q => equalWords A2 A9 n n cc2 c9 w9.heap.size (joinL zs) (joinL zs) _ (HJ9.out.drewN q) (HC9.out.drewN q) hn hn)
            rw [show decide (joinL zs = joinL zs) = true by simp] at HW9
            clear HL9 HM9 HJ9 HC9
            go_wp2_with fail
            refine HR9.out.mono ?_
            rintro e w10 ⟨rfl, q10, rfl⟩
            have HW10 := Lib.hid (HW9.out q10)
            clear HR9 HW9
            go_wp2_with fail
            refine HW10.out.mono ?_
            rintro e w11 ⟨rfl, q11, rfl⟩
            clear HW10
            have HG11 : Hid (Gave GE ((w9.drewN q10).drewN q11) A4 k4 n (giveL zs a.toNat)) := HG9.out
            have HT11 : Hid (Gave TE ((w9.drewN q10).drewN q11) A3 k3 n (takeL zs a.toNat (1 + r + b).toNat (sLong (nth zs a.toNat)) (hWord r b t f))) := HT9.out
            have HX11 : Hid (Box4 ((w9.drewN q10).drewN q11) w.heap.size (.int .i64 r) (.int .i64 b) (.int .i64 t) (.bool f)) := HX9.out
            have HB11 := Lib.hid (below_drewN (below_drewN HB9.out q10) q11)
            have HA11 : Hid (Arr .u64 ((w9.drewN q10).drewN q11) ((w9.drewN q10).drewN q11).heap.size A n zs) := HA9.out
            clear HG9 HT9 HX9 HB9 HA9
            generalize (w9.drewN q10).drewN q11 = w11 at *
            have K3 := Lib.hid (fun w ha => SpotsOf_any A n c zs w hn ha)
            unfold SpotsP at K3
            rw [(arErr_zero HEQ.out).1, spList_len (arErr_zero HEQ.out).1] at K3
            have HSP := Lib.hid (fun k (hk : k < (begins zs 0).length) => (show nthG (spList zs) k = spOf zs (st zs k) by rw [spList_ok (arErr_zero HEQ.out).1, nthG_map _ _ _ hk]; rfl))
            have HRE := Lib.hid (roomTo_all (zs := zs) (a := a))
            have HFA : Hid (∀ k, k < (begins zs 0).length → ∃ R Bd : Nat, vR (nth zs (st zs k)) = R ∧ vB (nth zs (st zs k)) = Bd ∧ R + Bd ≤ 255 ∧ sLong (nth zs (st zs k)) = 1 + R + Bd) := fun k hk => by
              have hm := begins_mem (st_mem hk)
              obtain ⟨R, Bd, q1, q2, _, q4, _, _, _, _, q9, _⟩ := spot_facts hm.2.2 HZ.out hm.2.1
              exact ⟨R, Bd, q1, q2, q4, q9⟩
            obtain ⟨m, hm⟩ : ∃ m, (begins zs 0).length = m := ⟨_, rfl⟩
            rw [hm] at K3 HSP HRE HFA hbl
            go_wp2_with fail
            refine (K3.out _ HA11.out).mono ?_
            rintro e w12 ⟨A12, c12, rfl, hb12, _, hS12, _⟩
            have HS12 := Lib.hid hS12
            have HG12 := Lib.hid (HG11.out.below hb12)
            have HT12 := Lib.hid (HT11.out.below hb12)
            have HX12 := Lib.hid (HX11.out.below hb12 HX11.out.lt)
            have HB12 := Lib.hid (HB11.out.trans (hb12.mono HB11.out.size))
            have HA12 := Lib.hid ((HA11.out.below hb12 (Nat.le_refl _)).more hb12.size)
            clear hb12 HA11 HB11 HX11 HT11 HG11 K3 hS12
            go_wp2_with fail
            go_loopw [23, 145] (fun v i wr => ∃ k : Nat, k ≤ m ∧ i = .int .i64 k ∧ v = .int .i64 (roomTo zs a k : Nat) ∧ Below w12.heap.size w12 wr) (fun _ i _ => m - (intOf i).toNat)
            case atStart => exact ⟨0, Nat.zero_le _, rfl, rfl, Below.refl _ _⟩
            case round => as_aux_lemma =>
              obtain ⟨k, hk, rfl, rfl, hB⟩ := hrel
              by_cases hlt : k < m
              · obtain ⟨bb, off, rfl, hbB, d0, d1, d2, d3, d4⟩ := (HS12.out.below hB (Nat.le_refl _)).spot hlt
                rw [HSP.out k hlt] at d0 d1 d2 d3 d4
                unfold spOf at d0 d1 d2 d3 d4
                dsimp only at d0 d1 d2 d3 d4
                obtain ⟨R, Bd, v1, v2, v3, v4⟩ := HFA.out k hlt
                rw [v1] at d1
                rw [v2] at d2
                have HRn : Hid (roomTo zs a (k + 1) = if (st zs k : Int) = a ∧ vF (nth zs (st zs k)) = true then sLong (nth zs (st zs k)) else roomTo zs a k) := rfl
                rw [v4] at HRn
                generalize vT (nth zs (st zs k)) = T at *
                generalize vF (nth zs (st zs k)) = F at *
                generalize st zs k = s at *
                generalize roomTo zs a k = RM at *
                have HBa := Lib.hid (hB.alloc hB.size (.cells #[.int .i64 (s : Int), .int .i64 R, .int .i64 Bd, .int .i64 T, .bool F] 47))
                have HLn := Lib.hid (fun w => headLong_any R Bd T F w (by omega) (by omega) (by omega) (by omega))
                clear hB v1 v2 v4 hbB
                by_cases hsa : (s : Int) = a
                · have hq : ((s : Int) == a) = true := by simp [hsa]
                  cases F
                  · have HN : Hid (roomTo zs a (k + 1) = RM) := Lib.hid (by rw [HRn.out, if_neg (by rintro ⟨_, h⟩; cases h)])
                    clear HRn hsa
                    go_wp2
                    go_roundw
                    case rel => exact ⟨k + 1, by omega, by go_num, by rw [HN.out], HBa.out⟩
                    case measure => simp [intOf]; omega
                  · have HN : Hid (roomTo zs a (k + 1) = 1 + R + Bd) := Lib.hid (by rw [HRn.out, if_pos ⟨hsa, rfl⟩])
                    clear HRn hsa
                    go_wp2_with fail
                    refine (HLn.out _).mono ?_
                    rintro e w13 ⟨rfl, hb13⟩
                    have HB13 := Lib.hid (HBa.out.trans (hb13.mono HBa.out.size))
                    clear hb13 d0 d1 d2 d3 d4 HLn
                    go_wp2
                    go_roundw
                    case rel => exact ⟨k + 1, by omega, by go_num, by rw [HN.out]; push_cast; rfl, HB13.out⟩
                    case measure => simp [intOf]; omega
                · have hq : ((s : Int) == a) = false := by simpa using hsa
                  have HN : Hid (roomTo zs a (k + 1) = RM) := Lib.hid (by rw [HRn.out, if_neg (fun h => hsa h.1)])
                  clear HRn hsa
                  go_wp2
                  go_roundw
                  case rel => exact ⟨k + 1, by omega, by go_num, by rw [HN.out], HBa.out⟩
                  case measure => simp [intOf]; omega
              · obtain rfl : k = m := by omega
                rw [HRE.out]
                have HS13 := Lib.hid ((HS12.out.below hB (Nat.le_refl _)).more hB.size)
                have HG13 := Lib.hid (HG12.out.below hB)
                have HT13 := Lib.hid (HT12.out.below hB)
                have HX13 := Lib.hid (HX12.out.below hB HX12.out.lt)
                have HB13 := Lib.hid (HB12.out.trans (hB.mono HB12.out.size))
                have HA13 := Lib.hid ((HA12.out.below hB (Nat.le_refl _)).more hB.size)
                clear hB HA12 HB12 HX12 HT12 HG12 HS12 HSP HRE
                generalize wr = w13 at *
                have HLA := Lib.hid (fun w => headLong_all r b t f w)
                rw [HTK.out] at HLA
                obtain ⟨RM, hRM⟩ : ∃ RM, roomAt zs a = RM := ⟨_, rfl⟩
                rw [hRM]
                have HRM := Lib.hid hRM
                clear hRM HFA hm
                obtain ⟨c0, c1, c2, c3⟩ := HX13.out.cells
                go_wp2_with fail
                refine (HLA.out _).mono ?_
                rintro e w14 ⟨⟨NN, rfl, hNN⟩, hb14⟩
                have HNN := Lib.hid hNN
                have HG14 := Lib.hid (HG13.out.below hb14)
                have HT14 := Lib.hid (HT13.out.below hb14)
                have HX14 := Lib.hid (HX13.out.below hb14 HX13.out.lt)
                have HB14 := Lib.hid (HB13.out.trans (hb14.mono HB13.out.size))
                have HA14 := Lib.hid ((HA13.out.below hb14 (Nat.le_refl _)).more hb14.size)
                clear hb14 HA13 HB13 HX13 HT13 HG13 HLA hNN HS13 c0 c1 c2 c3
                have HSW : Hid ((TK ≠ 0 ∧ TE = TK) ∨ (TK = 0 ∧ RM = 0 ∧ TE = 5) ∨ (TK = 0 ∧ RM ≠ 0 ∧ (RM : Int) < NN ∧ TE = 7) ∨ (TK = 0 ∧ RM ≠ 0 ∧ ¬ (RM : Int) < NN ∧ TE = 0)) := by
                  show _ ∨ _
                  by_cases h0 : TK = 0
                  · right
                    obtain ⟨g1, g2⟩ := tk0_none (HTK.out.trans h0)
                    have hN := HNN.out h0
                    have hE := HTE.out
                    have hR := HRM.out
                    unfold roomAt at hR
                    subst g2
                    cases hf : freeStart zs a
                    · rw [hf] at hR
                      rw [takeE_none g1 HEQ.out hf] at hE
                      exact .inl ⟨h0, hR.symm, hE.symm⟩
                    · rw [hf, if_pos rfl] at hR
                      have hpos := sLong_pos (nth zs a.toNat)
                      right
                      by_cases hlt : (RM : Int) < NN
                      · rw [takeE_full g1 HEQ.out hf (by omega)] at hE
                        exact .inl ⟨h0, by omega, hlt, hE.symm⟩
                      · rw [takeE_ok g1 HEQ.out hf (by omega)] at hE
                        exact .inr ⟨h0, by omega, hlt, hE.symm⟩
                  · left
                    refine ⟨h0, ?_⟩
                    rw [← HTE.out, tk0_some (by rw [HTK.out]; exact h0), HTK.out]
                go_upto_block 4 with fail
                go_cut [16] (fun s wx => s = .int .i64 TE ∧ w14 = wx)
                case first => as_aux_lemma =>
                  rcases HSW.out with ⟨h1, h2⟩ | ⟨h1, h2, h3⟩ | ⟨h1, h2, h3, h4⟩ | ⟨h1, h2, h3, h4⟩
                  · have hq : (TK != 0) = true := by simpa using h1
                    have e := Lib.hid h2
                    clear h1 h2 HSW
                    go_wp2_with fail
                    go_meet
                    exact ⟨by rw [e.out], rfl⟩
                  · have hq : (TK != 0) = false := by simp [h1]
                    have hq2 : ((RM : Int) == 0) = true := by simp [h2]
                    have e := Lib.hid h3
                    clear h1 h2 h3 HSW
                    go_wp2_with fail
                    go_meet
                    exact ⟨by rw [e.out], rfl⟩
                  · have hq : (TK != 0) = false := by simp [h1]
                    have hq2 : ((RM : Int) == 0) = false := by simp [h2]
                    have e := Lib.hid h4
                    clear h1 h2 h4 HSW
                    go_wp2_with fail
                    go_meet
                    exact ⟨by rw [e.out], rfl⟩
                  · have hq : (TK != 0) = false := by simp [h1]
                    have hq2 : ((RM : Int) == 0) = false := by simp [h2]
                    have hq3 : ((RM : Int) < NN) = False := eq_false (by omega)
                    have e : Hid (TE = TK) := Lib.hid (by rw [h4, h1])
                    clear h1 h2 h3 h4 HSW
                    go_wp2_with fail
                    go_meet
                    exact ⟨by rw [e.out], rfl⟩
                case rest => as_aux_lemma =>
                  obtain ⟨rfl, rfl⟩ := hcut
                  go_upto_if 175 with (fail)
                  go_cut [] (fun wx => Below w14.heap.size w14 wx)
                  case first => as_aux_lemma =>
                    by_cases hT : TE = 0
                    · obtain ⟨g1, g2, _, g4, g5⟩ := takeE_zero (HTE.out.trans hT)
                      obtain ⟨s, hsa, hsm, hsf⟩ := freeStart_iff.1 g4
                      subst hsa g2
                      obtain ⟨r1, r2, r3, r4, r5, _⟩ := hFault_ok g1
                      have hT14 : k3 = n ∧ Arr .u64 w14 w14.heap.size A3 k3 (takeL zs (s : Int).toNat (1 + r + b).toNat (sLong (nth zs (s : Int).toNat)) (hWord r b t false)) := by
                        rcases HT14.out with ⟨h1, _⟩ | ⟨_, h2, h3⟩
                        · exact absurd hT h1
                        · exact ⟨h2, h3⟩
                      obtain ⟨hk3, hC3⟩ := hT14
                      have htk : TK = 0 := by
                        rcases HSW.out with ⟨h1, h2⟩ | ⟨h1, _⟩ | ⟨h1, _⟩ | ⟨h1, _⟩
                        · exact absurd (h2 ▸ hT) h1
                        · exact h1
                        · exact h1
                        · exact h1
                      have hNv := HNN.out htk
                      have hRM := HRM.out
                      unfold roomAt at hRM
                      rw [g4, if_pos rfl] at hRM
                      rw [Int.toNat_natCast] at hRM hC3 g5
                      obtain ⟨N, hN⟩ := Int.eq_ofNat_of_zero_le (by omega : 0 ≤ 1 + r + b)
                      have hsL : s + sLong (nth zs s) ≤ zs.length := (stepOk_iff.1 (begins_mem hsm).2.2).2
                      rw [hRM] at hsL hC3 g5
                      rw [show (1 + r + b).toNat = N by omega] at hC3
                      rw [hN] at hNv g5
                      have HWD := Lib.hid (fun w => headWord_any r b t false w g1)
                      have HVW : Hid ((Lit.int .u64 (hWord r b t false)).wf = true) := wf_u64.2 ⟨(hWord_wf g1).1, by have := (hWord_wf g1).2; omega⟩
                      have HWQ := Lib.hid (want_eq (zs := zs) (s := s) (N := N) (L := RM) (V := hWord r b t false) (by omega) (by omega) hsL)
                      have HWZ := Lib.hid (fun k h1 h2 => want_zero (zs := zs) (s := s) (N := N) (L := RM) (V := hWord r b t false) (by omega) (by omega) hsL (k := k) h1 h2)
                      have hwl : (takeL zs s N RM (hWord r b t false)).length = n := by rw [(takeL_cut (zs := zs) (s := s) (N := N) (L := RM) (V := hWord r b t false) (by omega) (by omega) hsL).len]; exact hlen
                      have HWL := Lib.hid hwl
                      have HE1 := Lib.hid (fun w ha => emptied_any A n c s RM zs w (by omega) (by omega) ha)
                      have HE2 := Lib.hid (fun A c w ha => emptied_any A n c (s + N) (RM - N) (emptyL zs s RM) w (by omega) (by omega) ha)
                      unfold EmptiedP at HE1 HE2
                      generalize hWord r b t false = V at *
                      generalize takeL zs s N RM V = ys at *
                      subst hNv hT htk
                      obtain rfl : n = k3 := hk3.symm
                      have HC3 := Lib.hid hC3
                      have hNR : N ≤ RM := by omega
                      have hN0 : 0 < N := by omega
                      have E1 : Hid ((s : Int) + (N : Int) = ((s + N : Nat) : Int)) := Lib.hid (by omega)
                      have E2 : Hid ((RM : Int) - (N : Int) = ((RM - N : Nat) : Int)) := Lib.hid (by omega)
                      clear hC3 g1 g4 g5 hsm hsf r1 r2 r3 r4 r5 hRM hN hwl HSW HNN HRM HTE HTK HGE HHF HWAY HG14 HT14 HB14
                      go_wp2_with fail
                      refine (HE1.out _ HA14.out).mono ?_
                      rintro e w15 ⟨A15, c15, rfl, hO15, hb15⟩
                      obtain ⟨A15', c15', hv15, _, hC15⟩ := hO15.arr
                      injection hv15 with hv1 hv2 hv3
                      subst hv1 hv3
                      rw [← hv2] at hC15
                      have HC15 := Lib.hid hC15
                      have HB15 := Lib.hid hb15
                      have HX15 := Lib.hid (HX14.out.below hb15 HX14.out.lt)
                      clear hO15 hC15 hv2 hb15 HE1 HX14
                      go_wp2_with fail
                      rw [E1.out, E2.out]
                      refine (HE2.out _ _ _ HC15.out).mono ?_
                      rintro e w16 ⟨A16, c16, rfl, hO16, hb16⟩
                      have HO16 := Lib.hid hO16
                      have HB16 := Lib.hid (HB15.out.trans (hb16.mono HB15.out.size))
                      have HX16 := Lib.hid (HX15.out.below hb16 HX15.out.lt)
                      obtain ⟨c0, c1, c2, c3⟩ := HX16.out.cells
                      clear hO16 hb16 HE2 HX15 HC15
                      go_wp2_with fail
                      refine (HWD.out _).mono ?_
                      rintro e w17 ⟨rfl, hb17⟩
                      have hO17 := HO16.out.below hb17
                      have hl17 : (emptyL (emptyL zs s RM) (s + N) (RM - N)).length = n := by
                        have := congrArg List.length HWQ.out
                        rw [List.length_set, HWL.out] at this
                        exact this
                      obtain ⟨g, cap, hv, hg, hgl17, hcells, hset⟩ := hO17.form (by omega)
                      injection hv with hv1 hv2 hv3
                      subst hv1 hv3
                      obtain ⟨d0, d1⟩ := hcells s (by omega)
                      have hsn : s < n := by omega
                      have hsn2 : (s : Int) < (n : Int) := by omega
                      have HO17 := Lib.hid (hset s V (by omega) HVW.out)
                      rw [HWQ.out] at HO17
                      have hg14 : w14.heap.size ≤ g := Nat.le_trans HB15.out.size hg
                      have HB17 := Lib.hid (below_set (HB16.out.trans (hb17.mono HB16.out.size)) hg14 s (.int .u64 V))
                      generalize nth (emptyL (emptyL zs s RM) (s + N) (RM - N)) s = X0 at *
                      clear hO17 hcells hset hv2 hb17 HO16 HB16 HX16 c0 c1 c2 c3 hl17 HWD HWQ
                      go_wp2_with fail
                      generalize w17.setCell ⟨g, s, none⟩ (.int .u64 V) = w18 at *
                      clear d0 d1
                      go_loopw [28] (fun v wr => ∃ k : Nat, 1 ≤ k ∧ k ≤ N ∧ v = .int .i64 k ∧ Own .u64 42 wr w15.heap.size (.slice (some ⟨g, 0, none⟩) n c16) ys ∧ Below w14.heap.size w14 wr) (fun v _ => N - (intOf v).toNat)
                      case atStart => exact ⟨1, Nat.le_refl _, by omega, rfl, HO17.out, HB17.out⟩
                      case round => as_aux_lemma =>
                        obtain ⟨k, hk1, hk, rfl, hO, hB⟩ := hrel
                        by_cases hlt : k < N
                        · obtain ⟨g', cap', hv', _, _, hcells, hset⟩ := hO.form (by have := HWL.out; omega)
                          injection hv' with hv1 hv2 hv3
                          injection hv1 with hv1
                          injection hv1 with hv1 _ _
                          subst hv1
                          obtain ⟨d0, d1⟩ := hcells (s + k) (by have := HWL.out; omega)
                          have HN := Lib.hid (hset (s + k) 0 (by have := HWL.out; omega) (by decide))
                          rw [HWZ.out k hk1 hlt] at HN
                          have HBn := Lib.hid (below_set hB hg14 (s + k) (.int .u64 0))
                          have hsk : (s : Int) + (k : Int) < (n : Int) := by omega
                          have hsk2 : s + k < n := by omega
                          generalize nth ys (s + k) = X at *
                          clear hO hB hcells hset hv2 hv3 HO17 HB17 HWZ
                          go_wp2
                          go_roundw
                          case rel => exact ⟨k + 1, by omega, by omega, by go_num, HN.out, HBn.out⟩
                          case measure => simp [intOf]; omega
                        · obtain rfl : k = N := by omega
                          obtain ⟨A19, c19, hv19, _, hC19⟩ := hO.arr
                          injection hv19 with hv1 hv2 hv3
                          rw [← hv1, HWL.out] at hC19
                          have HEQW := Lib.hid (equalWords A3 (some ⟨g, 0, none⟩) n n cc3 c16 wr.heap.size ys ys wr ((HC3.out.below hB (Nat.le_refl _)).more hB.size) hC19 hn hn)
                          rw [show decide (ys = ys) = true by simp] at HEQW
                          have HBn := Lib.hid hB
                          clear hO hB hC19 hv1 hv2 hv3 HO17 HB17 HWZ
                          go_wp2_with fail
                          refine HEQW.out.mono ?_
                          rintro e w20 ⟨rfl, q20, rfl⟩
                          clear HEQW
                          go_wp2_with fail
                          go_meet
                          exact below_drewN HBn.out q20
                    · have hk3 : k3 = 0 := by
                        rcases HT14.out with ⟨_, h1⟩ | ⟨h1, _⟩
                        · exact h1
                        · exact absurd h1 hT
                      subst hk3
                      have hq : (TE != 0) = true := by simpa using hT
                      have hq2 : (TE != TE) = false := by simp
                      clear hT
                      go_wp2_with fail
                      go_meet
                      exact Below.refl _ _
                  case rest => as_aux_lemma =>
                    have hb15 : Below w14.heap.size w14 wc := hcut
                    have HG15 := Lib.hid (HG14.out.below hb15)
                    have HB15 := Lib.hid (HB14.out.trans (hb15.mono HB14.out.size))
                    have HA15 := Lib.hid ((HA14.out.below hb15 (Nat.le_refl _)).more hb15.size)
                    clear hcut hb15 HG14 HB14 HA14 HT14 HX14 HSW HNN HRM HTE HTK HHF HWAY
                    generalize wc = w15 at *
                    have K5 := Lib.hid (fun w ha => headAt_any A n c a zs w ha (arErr_zero HEQ.out).1)
                    unfold HeadAtP at K5
                    go_wp2_with fail
                    refine (K5.out _ HA15.out).mono ?_
                    rintro e w16 ⟨hb16, hr⟩
                    have HG16 := Lib.hid (HG15.out.below hb16)
                    have HB16 := Lib.hid (HB15.out.trans (hb16.mono HB15.out.size))
                    have HA16 := Lib.hid ((HA15.out.below hb16 (Nat.le_refl _)).more hb16.size)
                    clear hb16 HG15 HB15 HA15 K5
                    rcases hr with ⟨j, hj, hja, hjf, rfl⟩ | ⟨hno, rfl⟩
                    · subst hja
                      have hmj := begins_mem (st_mem hj)
                      obtain ⟨R, Bd, v1, v2, _, v4, _, _, _, _, v9, _⟩ := spot_facts hmj.2.2 HZ.out hmj.2.1
                      have hsl := (stepOk_iff.1 hmj.2.2).2
                      have HLV := Lib.hid (liveStart_iff.2 ⟨st zs j, rfl, st_mem hj, hjf⟩)
                      have HHE := Lib.hid (heldR_eq HZ.out h256 hmj.2.1)
                      have HGE2 := HGE
                      have K6 := Lib.hid (fun w ha => begins_any A n c zs w ha (arErr_zero HEQ.out).1)
                      have K7 := Lib.hid (fun i (hi : i < (begins zs 0).length) hf w ha => named_any A n c i zs w ha (arErr_zero HEQ.out).1 hi hf)
                      have K8 := Lib.hid (fun w ha => emptied_any A n c (st zs j) (sLong (nth zs (st zs j))) zs w (by omega) (by omega) ha)
                      rw [give_empty] at K8
                      unfold EmptiedP at K8
                      have K9 := Lib.hid (fun w => headLong_any R Bd (vT (nth zs (st zs j))) false w (by omega) (by omega) (by omega) (by omega))
                      rw [show (1 + (R : Int) + Bd) = ((sLong (nth zs (st zs j)) : Nat) : Int) by omega] at K9
                      have HGIV : Hid (heldAt zs (st zs j) = true → GE = 8) := fun hh => by rw [← HGE.out]; exact giveE_held HEQ.out HLV.out (by rw [Int.toNat_natCast]; exact hh)
                      have HGIV2 : Hid (heldAt zs (st zs j) = false → GE = 0) := fun hh => by rw [← HGE.out]; exact giveE_ok HEQ.out HLV.out (by rw [Int.toNat_natCast]; exact hh)
                      rw [Int.toNat_natCast] at HG16
                      rw [v1, v2]
                      have HNL : Hid (∀ s, s ∈ begins zs 0 → (named zs s).length ≤ 256) := fun s hs => by
                        show _ ≤ _
                        have hm := begins_mem hs
                        obtain ⟨R', B', u1, u2, u3, u4, _⟩ := spot_facts hm.2.2 HZ.out hm.2.1
                        unfold named
                        rw [List.length_map, refWords_len hm.2.2, u1]; omega
                      have HLL : Hid ((livesI zs).length ≤ 256) := by
                        show _ ≤ _
                        have : (livesI zs).length ≤ (begins zs 0).length := by unfold livesI; rw [List.length_map]; exact List.length_filter_le _ _
                        have := begins_len (zs := zs) (a := 0)
                        omega
                      have HLM : Hid (∀ i, i < (livesI zs).length → ∃ i', i' < (begins zs 0).length ∧ nth (livesI zs) i = (st zs i' : Int) ∧ vF (nth zs (st zs i')) = false) := fun i hi => nth_lives hi
                      generalize sLong (nth zs (st zs j)) = L at *
                      generalize vT (nth zs (st zs j)) = T at *
                      clear hmj v1 v2 v4 v9 hsl hjf
                      have bw := (Below.refl w16.heap.size w16).alloc (Nat.le_refl _) (.cells #[.int .i64 R, .int .i64 Bd, .int .i64 T, .bool false] 24)
                      have HX17 := Lib.hid (Box4.new w16 (.int .i64 R) (.int .i64 Bd) (.int .i64 T) (.bool false))
                      have HG17 := Lib.hid (HG16.out.below bw)
                      have HB17 := Lib.hid (HB16.out.trans (bw.mono HB16.out.size))
                      have HA17 := Lib.hid ((HA16.out.below bw (Nat.le_refl _)).more bw.size)
                      clear bw HG16 HB16 HA16
                      go_wp2_with fail
                      generalize (w16.alloc (.cells #[.int .i64 R, .int .i64 Bd, .int .i64 T, .bool false] 24)) = w17 at *
                      refine (K6.out _ HA17.out).mono ?_
                      rintro e w18 ⟨A18, c18, rfl, hb18, hLi⟩
                      have HLI := Lib.hid hLi
                      have HX18 := Lib.hid (HX17.out.below hb18 HX17.out.lt)
                      have HG18 := Lib.hid (HG17.out.below hb18)
                      have HB18 := Lib.hid (HB17.out.trans (hb18.mono HB17.out.size))
                      have HA18 := Lib.hid ((HA17.out.below hb18 (Nat.le_refl _)).more hb18.size)
                      clear hb18 hLi HG17 HB17 HA17 HX17 K6
                      obtain ⟨LI, hLI⟩ : ∃ LI, livesI zs = LI := ⟨_, rfl⟩
                      have HHR : Hid (heldR zs (st zs j) = (List.range LI.length).any fun i => nth LI i != (st zs j : Int) && decide ((st zs j : Int) ∈ named zs (nth LI i).toNat)) := by show _ = _; rw [← hLI]; rfl
                      rw [hLI] at HLI HLL HLM ⊢
                      clear hLI
                      have hll := HLL.out
                      go_wp2_with fail
                      go_loopw [236] (fun v wr => ∃ k : Nat, k ≤ LI.length ∧ v = .int .i64 k ∧ Hid (∀ i, i < k → (nth LI i != (st zs j : Int) && decide ((st zs j : Int) ∈ named zs (nth LI i).toNat)) = false) ∧ Below w18.heap.size w18 wr) (fun v _ => LI.length - (intOf v).toNat)
                      case atStart => exact ⟨0, Nat.zero_le _, rfl, (fun i hi => absurd hi (by omega)), Below.refl _ _⟩
                      case round => as_aux_lemma =>
                        obtain ⟨k, hk, rfl, HEX, hB⟩ := hrel
                        by_cases hlt : k < LI.length
                        · obtain ⟨i', hi', hni, hif⟩ := HLM.out k hlt
                          obtain ⟨bb, off, rfl, hbB, hcs⟩ := (HLI.out.below hB (Nat.le_refl _)).2.2 (by omega)
                          have d0 := hcs k hlt
                          rw [hni] at d0
                          have HNK := Lib.hid (K7.out i' hi' hif wr ((HA18.out.below hB (Nat.le_refl _)).more hB.size))
                          have hnl := HNL.out (st zs i') (st_mem hi')
                          have HEN : Hid ((nth LI k != (st zs j : Int) && decide ((st zs j : Int) ∈ named zs (nth LI k).toNat)) = false → ∀ i, i < k + 1 → (nth LI i != (st zs j : Int) && decide ((st zs j : Int) ∈ named zs (nth LI i).toNat)) = false) := fun hh i hi => by
                            rcases Nat.lt_succ_iff_lt_or_eq.1 hi with h1 | h1
                            · exact HEX.out i h1
                            · rw [h1]; exact hh
                          have HEY : Hid ((nth LI k != (st zs j : Int) && decide ((st zs j : Int) ∈ named zs (nth LI k).toNat)) = true → GE = 8) := fun hh => HGIV.out (by
                            rw [← HHE.out, HHR.out]
                            exact List.any_eq_true.2 ⟨k, List.mem_range.2 hlt, hh⟩)
                          rw [hni, Int.toNat_natCast] at HEN HEY
                          have HBr := Lib.hid hB
                          generalize st zs i' = x at *
                          generalize st zs j = s at *
                          clear hcs hB hbB hni hif HEX
                          by_cases hxs : x = s
                          · have hq : ((x : Int) != (s : Int)) = false := by simp [hxs]
                            have HN := Lib.hid (HEN.out (by rw [hq]; rfl))
                            clear HEN HEY hxs
                            go_wp2
                            go_roundw
                            case rel => exact ⟨k + 1, by omega, by go_num, HN, HBr.out⟩
                            case measure => simp [intOf]; omega
                          · have hq : ((x : Int) != (s : Int)) = true := by simp; omega
                            rw [hq, Bool.true_and] at HEN HEY
                            generalize named zs x = NM at *
                            clear hxs
                            go_wp2_with fail
                            refine HNK.out.mono ?_
                            rintro e w19 ⟨A19, c19, rfl, hb19, hN19, _⟩
                            have HIN := Lib.hid (in_ref A19 NM.length c19 w19.heap.size s NM w19 (by unfold maxLen; omega) hN19)
                            have HB19 := Lib.hid (HBr.out.trans (hb19.mono HBr.out.size))
                            clear hb19 hN19 HNK d0
                            generalize decide ((s : Int) ∈ NM) = DD at *
                            cases DD
                            · have HN := Lib.hid (HEN.out rfl)
                              clear HEN HEY
                              go_wp2_with fail
                              refine HIN.out.mono ?_
                              rintro e w20 ⟨rfl, rfl⟩
                              clear HIN
                              go_wp2
                              go_roundw
                              case rel => exact ⟨k + 1, by omega, by go_num, HN, HB19.out⟩
                              case measure => simp [intOf]; omega
                            · have hge := HEY.out rfl
                              have hk4 : k4 = 0 := by
                                rcases HG18.out with ⟨_, h1⟩ | ⟨h1, _⟩
                                · exact h1
                                · omega
                              subst hge hk4
                              have HBz := Lib.hid (HB18.out.trans (HB19.out.mono HB18.out.size))
                              clear HEN HEY
                              go_wp2_with fail
                              refine HIN.out.mono ?_
                              rintro e w20 ⟨rfl, rfl⟩
                              clear HIN
                              go_wp2
                              go_ret
                              exact ⟨rfl, HBz.out⟩
                        · obtain rfl : k = LI.length := by omega
                          have hge : GE = 0 := HGIV2.out (by
                            rw [← HHE.out, HHR.out, List.any_eq_false]
                            intro i hi
                            rw [HEX.out i (List.mem_range.1 hi)]; decide)
                          have hG20 : k4 = n ∧ Arr .u64 w18 w18.heap.size A4 k4 (giveL zs (st zs j)) := by
                            rcases HG18.out with ⟨h1, _⟩ | ⟨_, h2, h3⟩
                            · exact absurd hge h1
                            · exact ⟨h2, h3⟩
                          obtain ⟨hk4, hD⟩ := hG20
                          obtain rfl : n = k4 := hk4.symm
                          subst hge
                          have HD20 := Lib.hid ((hD.below hB (Nat.le_refl _)).more hB.size)
                          have HX20 := Lib.hid (HX18.out.below hB HX18.out.lt)
                          obtain ⟨c0, c1, c2, c3⟩ := HX20.out.cells
                          have HB20 := Lib.hid (HB18.out.trans (hB.mono HB18.out.size))
                          have HA20 := Lib.hid ((HA18.out.below hB (Nat.le_refl _)).more hB.size)
                          generalize giveL zs (st zs j) = ds at *
                          generalize st zs j = s at *
                          clear hB hD HEX HG18 HX18 HB18 HA18 hk4
                          go_wp2_with fail
                          refine (K9.out _).mono ?_
                          rintro e w21 ⟨rfl, hb21⟩
                          have HD21 := Lib.hid ((HD20.out.below hb21 (Nat.le_refl _)).more hb21.size)
                          have HB21 := Lib.hid (HB20.out.trans (hb21.mono HB20.out.size))
                          have HA21 := Lib.hid ((HA20.out.below hb21 (Nat.le_refl _)).more hb21.size)
                          clear hb21 HD20 HB20 HA20 c0 c1 c2 c3 HX20 K9
                          go_wp2_with fail
                          refine (K8.out _ HA21.out).mono ?_
                          rintro e w22 ⟨A22, c22, rfl, hO22, hb22⟩
                          obtain ⟨A22', c22', hv22, _, hC22⟩ := hO22.arr
                          injection hv22 with hv1 hv2 hv3
                          subst hv1 hv3
                          rw [← hv2] at hC22
                          have HEQW := Lib.hid (equalWords A4 A22 n n cc4 c22 w22.heap.size ds ds w22 ((HD21.out.below hb22 (Nat.le_refl _)).more hb22.size) hC22 hn hn)
                          rw [show decide (ds = ds) = true by simp] at HEQW
                          have HB22 := Lib.hid (HB21.out.trans (hb22.mono HB21.out.size))
                          clear hO22 hC22 hb22 hv2 HD21 HB21 HA21 K8
                          go_wp2_with fail
                          refine HEQW.out.mono ?_
                          rintro e w23 ⟨rfl, q23, rfl⟩
                          clear HEQW
                          go_wp2
                          go_ret
                          exact ⟨rfl, below_drewN HB22.out q23⟩
                    · have hge : GE = 5 := by
                        rw [← HGE.out]
                        refine giveE_none HEQ.out (bool_not fun hh => ?_)
                        obtain ⟨s, hsa, hsm, hsf⟩ := liveStart_iff.1 hh
                        obtain ⟨j, hj, hst⟩ := mem_begins hsm
                        have := hno j hj (by rw [hst]; exact hsa)
                        rw [hst, hsf] at this; cases this
                      have hk4 : k4 = 0 := by
                        rcases HG16.out with ⟨_, h1⟩ | ⟨h1, _⟩
                        · exact h1
                        · omega
                      subst hge hk4
                      have HB17 := Lib.hid (HB16.out.alloc HB16.out.size (.cells #[.int .i64 0, .int .i64 0, .int .i64 0, .bool false] 24))
                      clear hno HG16 HB16 HA16
                      go_wp2
                      go_ret
                      exact ⟨rfl, HB17.out⟩

theorem gapTells_walk (A : Option Addr) (n c : Nat) (a r b t : Int) (f : Bool) (zs : List Int) (w : World) (hn : n ≤ maxLen) (hnc : n ≤ c) (ha : Arr .u64 w w.heap.size A n zs) :
    Calls Try.prog 3 #[.slice A n c, .int .i64 a, .agg #[.int .i64 r, .int .i64 b, .int .i64 t, .bool f]] w fun e w' => e = .returned (.bool true) ∧ Below w.heap.size w w' := by
  by_cases h : arErr zs = 0
  · exact gapTells_good A n c a r b t f zs w hn hnc ha h
  · exact gapTells_bad A n c a r b t f zs w hn hnc ha h
end Go.Proofs.Ytggjgcnmkkoheaa
