/-
  HandTells: the law's walk.
-/
import Derived.Test.YtedndmhekjfpdaaHandTM
import Derived.Deep.DeepCutAuto
import Derived.Deep.CutBlock
namespace Go.Proofs.Ytedndmhekjfpdaa
open Go.RowKit

set_option maxRecDepth 16000 in
set_option maxHeartbeats 8000000 in
theorem handTells_walk (A : Option Addr) (n c : Nat) (nn a N : Int) (A4 : Option Addr) (n4 c4 : Nat) (l : List Slt) (zs : List Int) (w : World) (hn : n ≤ maxLen) (ha : ArrG slotC 3 w w.heap.size A n l) (hn4 : n4 ≤ maxLen) (hz : Arr .i64 w w.heap.size A4 n4 zs) :
    Calls Try.prog 3 #[.slice A n c, .int .i64 nn, .int .i64 a, .int .u64 N, .slice A4 n4 c4] w fun e w' => e = .returned (.bool true) ∧ Below w.heap.size w w' := by
  have HA : Hid (∀ wx, Below w.heap.size w wx → ArrG slotC 3 wx wx.heap.size A n l) := fun wx hb => (ha.below hb (Nat.le_refl _)).more hb.size
  have HZ : Hid (∀ wx, Below w.heap.size w wx → Arr .i64 wx wx.heap.size A4 n4 zs) := fun wx hb => (hz.below hb (Nat.le_refl _)).more hb.size
  have HN := Lib.hid hn
  have HN4 := Lib.hid hn4
  have HL := Lib.hid ha.1
  have HL4 := Lib.hid hz.1
  have h1 := Lib.hid (newH_any nn w)
  have h2 := Lib.hid (fun wx hb => openH_any A n c l a wx hn (HA.out wx hb))
  have h3 := Lib.hid (fun wx hb => lookH_any A n c l N wx hn (HA.out wx hb))
  have h4 := Lib.hid (fun wx hb => closeH_any A n c l N wx hn (HA.out wx hb))
  have h5 := Lib.hid (fun wx hb => swapH_any A A4 n c n4 c4 l zs wx hn hn4 (HA.out wx hb) (HZ.out wx hb))
  have h6 := Lib.hid (fun wx hb => liveH_any A n c l wx hn (HA.out wx hb))
  have h7 := Lib.hid (fun wx hb => handsFault_any A n c l wx hn (HA.out wx hb))
  have h8 := Lib.hid (fun wx hb => handCheck_any A n c l wx hn (HA.out wx hb))
  unfold Opened at h2
  unfold GaveH at h4 h5
  unfold LiveP at h6
  have HBad := Lib.hid (fun h => tells_bad (l := l) (a := a) (N := N) (f := zs) h)
  have HOpen := Lib.hid (fun h => tells_open (l := l) (a := a) h)
  have HFind := Lib.hid (fun h => tells_find (l := l) (N := N) h)
  have HSwap := Lib.hid (fun h => tells_swap (l := l) (f := zs) h)
  have HLive : Hid (handE l = 0 → liveN l = liveUp l n) := fun h => by unfold liveN; rw [if_pos h, HL.out]
  have HSlot : Hid (handE l = 0 → n ≤ 16 ∧ ∀ i, i < n → slotE (nthG l i) = 0) := fun h => by have := handE_ok.1 h; rw [HL.out] at this; exact this
  have HOf := Lib.hid (fun h wx hb => handOf_any A n c l N wx h (HA.out wx hb))
  have HNY := Lib.hid (fun h => newBad_yes (n := nn) h)
  have HNN := Lib.hid (fun h => newBad_no (n := nn) h)
  rw [HL.out] at HOpen HFind
  rw [HL4.out] at HSwap
  generalize openE l a = OE at *
  generalize openV l a = OV at *
  generalize openR l a = RO at *
  generalize findE l N = FE at *
  generalize lookV l N = LV at *
  generalize closeR l N = RC at *
  generalize ofI l N = OI at *
  generalize swapHE l zs = SE at *
  generalize swapR l zs = RS at *
  generalize handE l = F at *
  generalize liveN l = LN at *
  generalize newE nn = NE at *
  generalize newR nn = RN at *
  clear ha hz hn hn4
  go_enter Try.func3, Try.ntmps3
  go_wp2_with fail
  refine h1.out.mono ?_
  rintro e w1 ⟨A1, m1, c1, rfl, hF1, b1⟩
  have HB1 := Lib.hid b1
  have HF1 := Lib.hid hF1
  clear b1 hF1 h1
  go_wp2_with fail
  refine (h2.out w1 HB1.out).mono ?_
  rintro e w2 ⟨A2, m2, c2, rfl, hF2, b2⟩
  have HB2 := Lib.hid (HB1.out.trans (b2.mono HB1.out.size))
  have HF1b := Lib.hid (HF1.out.below b2)
  have HF2 := Lib.hid hF2
  clear b2 hF2 h2 HF1 HB1
  go_wp2_with fail
  refine (h3.out w2 HB2.out).mono ?_
  rintro e w3 ⟨rfl, b3⟩
  have HB3 := Lib.hid (HB2.out.trans (b3.mono HB2.out.size))
  have HF1c := Lib.hid (HF1b.out.below b3)
  have HF2c := Lib.hid (HF2.out.below b3)
  clear b3 h3 HF1b HF2 HB2
  go_wp2_with fail
  refine (h4.out w3 HB3.out).mono ?_
  rintro e w4 ⟨A3, m3, c3, rfl, hF3, b4⟩
  have HB4 := Lib.hid (HB3.out.trans (b4.mono HB3.out.size))
  have HF1d := Lib.hid (HF1c.out.below b4)
  have HF2d := Lib.hid (HF2c.out.below b4)
  have HF3 := Lib.hid hF3
  clear b4 hF3 h4 HF1c HF2c HB3
  go_wp2_with fail
  refine (h5.out w4 HB4.out).mono ?_
  rintro e w5 ⟨A5, m5, c5, rfl, hF5, b5⟩
  have HB5 := Lib.hid (HB4.out.trans (b5.mono HB4.out.size))
  have HF1e := Lib.hid (HF1d.out.below b5)
  have HF2e := Lib.hid (HF2d.out.below b5)
  have HF3e := Lib.hid (HF3.out.below b5)
  have HF5 := Lib.hid hF5
  clear b5 hF5 h5 HF1d HF2d HF3 HB4
  go_wp2_with fail
  refine (h6.out w5 HB5.out).mono ?_
  rintro e w6 ⟨A6, c6, rfl, hO6, b6⟩
  have HB6 := Lib.hid (HB5.out.trans (b6.mono HB5.out.size))
  have m1e := (HF1e.out.below b6).1
  have HG1 : Hid (∀ wx, Below w6.heap.size w6 wx → ArrG slotC 3 wx wx.heap.size A1 m1 RN) := fun wx hb => ((HF1e.out.below b6).arr.below hb (Nat.le_refl _)).more hb.size
  have HG2 : Hid (∀ wx, Below w6.heap.size w6 wx → ArrG slotC 3 wx wx.heap.size A2 m2 RO) := fun wx hb => ((HF2e.out.below b6).arr.below hb (Nat.le_refl _)).more hb.size
  have HG3 : Hid (∀ wx, Below w6.heap.size w6 wx → ArrG slotC 3 wx wx.heap.size A3 m3 RC) := fun wx hb => ((HF3e.out.below b6).arr.below hb (Nat.le_refl _)).more hb.size
  have HG5 : Hid (∀ wx, Below w6.heap.size w6 wx → ArrG slotC 3 wx wx.heap.size A5 m5 RS) := fun wx hb => ((HF5.out.below b6).arr.below hb (Nat.le_refl _)).more hb.size
  have HM1 := Lib.hid HF1e.out.1
  have HM2 := Lib.hid HF2e.out.1
  have HM3 := Lib.hid HF3e.out.1
  have HM5 := Lib.hid HF5.out.1
  obtain ⟨A6', c6', e6, hc6, ha6⟩ := hO6.arr
  injection e6 with e6 _ e63
  subst e6; subst e63
  obtain ⟨m6, hm6⟩ : ∃ m6, LN.length = m6 := ⟨_, rfl⟩
  have HM6 := Lib.hid hm6
  rw [hm6] at ha6 ⊢
  have HG6 : Hid (∀ wx, Below w6.heap.size w6 wx → Arr .u64 wx wx.heap.size A6 m6 LN) := fun wx hb => (ha6.below hb (Nat.le_refl _)).more hb.size
  have HA6 : Hid (∀ wx, Below w6.heap.size w6 wx → ArrG slotC 3 wx wx.heap.size A n l) := fun wx hb => HA.out wx (HB6.out.trans (hb.mono HB6.out.size))
  have HZ6 : Hid (∀ wx, Below w6.heap.size w6 wx → Arr .i64 wx wx.heap.size A4 n4 zs) := fun wx hb => HZ.out wx (HB6.out.trans (hb.mono HB6.out.size))
  have HOf6 := Lib.hid (fun h wx (hb : Below w6.heap.size w6 wx) => HOf.out h wx (HB6.out.trans (hb.mono HB6.out.size)))
  have H7 := Lib.hid (fun wx (hb : Below w6.heap.size w6 wx) => h7.out wx (HB6.out.trans (hb.mono HB6.out.size)))
  have H8 := Lib.hid (fun wx (hb : Below w6.heap.size w6 wx) => h8.out wx (HB6.out.trans (hb.mono HB6.out.size)))
  clear b6 hO6 h6 h7 h8 HF1e HF2e HF3e HF5 HB5 HA HZ HOf hm6 ha6 hc6 m1e
  -- New
  go_upto_region 7 with fail
  go_cut [75] (fun s wx => s = .bool (newBad nn) ∧ w6 = wx)
  case first => as_aux_lemma =>
    by_cases q1 : nn < 0
    · have e : Hid (newBad nn = true) := decide_eq_true (.inl q1)
      have d1 : (nn < 0) = True := eq_true q1
      clear q1
      go_wp2_with fail
      go_meet
      exact ⟨by rw [e.out], rfl⟩
    · have d1 : (nn < 0) = False := eq_false q1
      by_cases q2 : 16 < nn
      · have e : Hid (newBad nn = true) := decide_eq_true (.inr q2)
        have d2 : (16 < nn) = True := eq_true q2
        clear q1 q2
        go_wp2_with fail
        go_meet
        exact ⟨by rw [e.out], rfl⟩
      · have e : Hid (newBad nn = false) := decide_eq_false (by omega)
        have d2 : (16 < nn) = False := eq_false q2
        clear q1 q2
        go_wp2_with fail
        go_meet
        exact ⟨by rw [e.out], rfl⟩
  case rest => as_aux_lemma =>
    obtain ⟨rfl, rfl⟩ := hcut
    go_upto_if 75 with (fail)
    go_cut [] (fun wx => Below w6.heap.size w6 wx)
    case first => as_aux_lemma =>
      cases hb : newBad nn
      · obtain ⟨rfl, k, rfl, hk, rfl⟩ := HNN.out hb
        obtain rfl : m1 = k := by rw [← HM1.out]; simp
        obtain ⟨w', hr, hF, hB⟩ := run_make_slots Try.underlying23 m1 hk w6
        have HS := Lib.hid (sameHands_same A1 (some ⟨w6.heap.size, 0, none⟩) m1 c1 m1 w'.heap.size _ w' (HG1.out w' hB) hF.arr (by unfold maxLen; omega))
        have HBm := Lib.hid hB
        clear hF hB hb HNY HNN
        go_wp2_with fail
        refine HS.out.mono ?_
        rintro e w7 ⟨rfl, q, rfl⟩
        go_wp2_with fail
        go_meet
        exact below_drewN HBm.out q
      · obtain ⟨rfl, rfl⟩ := HNY.out hb
        obtain rfl : m1 = 0 := HM1.out.symm
        clear hb HNY HNN
        go_wp2_with fail
        go_meet
        exact Below.refl _ _
    case rest => as_aux_lemma =>
      have HBc := Lib.hid hcut
      clear hcut HNY HNN HG1 HM1
      generalize wc = W0 at *
      go_wp2_with fail
      refine (H7.out _ HBc.out).mono ?_
      rintro e w7 ⟨rfl, b7⟩
      have HB7 := Lib.hid (HBc.out.trans (b7.mono HBc.out.size))
      clear b7
      go_wp2_with fail
      refine (H8.out _ HB7.out).mono ?_
      rintro e w8 ⟨rfl, b8⟩
      have HB8 := Lib.hid (HB7.out.trans (b8.mono HB7.out.size))
      have d0 : (F != F) = false := by simp
      clear b8 H7 H8 HB7 HBc
      by_cases hF : F = 0
      · subst hF
        obtain ⟨hn16, hok⟩ := HSlot.out rfl
        have HOK := Lib.hid hok
        obtain rfl := HLive.out rfl
        have HOpq := Lib.hid (HOpen.out rfl)
        have HFiq := Lib.hid (HFind.out rfl)
        have HSwq := Lib.hid (HSwap.out rfl)
        have HOfq := Lib.hid (HOf6.out rfl)
        clear hok HSlot HLive HBad d0 HOpen HFind HSwap HOf6
        go_wp2_with fail
        go_loopw [25, 26, 149] (fun v f i wr => ∃ k : Nat, k ≤ n ∧ i = .int .i64 k ∧ f = .int .i64 (freeTo l k) ∧ Hid (Own .u64 24 wr w8.heap.size v (liveUp l k)) ∧ Hid (Below w8.heap.size w8 wr)) (fun _ _ i _ => n - (intOf i).toNat)
        case atStart => exact ⟨0, Nat.zero_le _, rfl, rfl, Own.nil, Below.refl _ _⟩
        case round => as_aux_lemma =>
          obtain ⟨k, hk, rfl, rfl, HO, HB⟩ := hrel
          by_cases hlt : k < n
          · as_aux_lemma =>
              have hbw := HB8.out.trans (HB.out.mono HB8.out.size)
              obtain ⟨b, off, rfl, hbB, hc0, hc1, hc2⟩ := (HA6.out wr hbw).slot hlt
              have hs := HOK.out k hlt
              have HOn : Hid ((nthG l k).2.1 = true → liveUp l (k + 1) = liveUp l k ++ [nameN k (nthG l k)]) := fun h => liveUp_on h
              have HOff : Hid ((nthG l k).2.1 = false → liveUp l (k + 1) = liveUp l k) := fun h => liveUp_off h
              have HFy : Hid (freeTo l k < 0 → (nthG l k).2.1 = false → (nthG l k).1 < 65535 → freeTo l (k + 1) = k) := fun h h2 h3 => freeTo_yes h (freeN_iff.2 ⟨h2, h3⟩)
              have HFh : Hid (¬ freeTo l k < 0 → freeTo l (k + 1) = freeTo l k) := fun h => freeTo_had h
              have HFo : Hid (((nthG l k).2.1 = true ∨ ¬ (nthG l k).1 < 65535) → freeTo l (k + 1) = freeTo l k) := fun h => freeTo_off (by
                cases hf : freeN l k
                · rfl
                · obtain ⟨g1, g2⟩ := freeN_iff.1 hf
                  rcases h with h | h
                  · rw [h] at g1; cases g1
                  · exact absurd g2 h)
              have hlen := liveUp_len (l := l) k
              obtain ⟨X, O, Z, hX⟩ : ∃ X O Z, nthG l k = (X, O, Z) := ⟨_, _, _, rfl⟩
              rw [hX] at hc0 hc1 hc2 hs HOn HOff HFy HFo
              simp only at hc0 hc1 hc2 HOn HOff HFy HFo
              have hwf := name_wf (i := k) (by omega) hs
              have hsl := slotE_ok.1 hs
              simp only at hsl
              have bl : Below wr.heap.size wr (wr.alloc (.cells #[.int .i64 X, .bool O, .int .i64 Z] 41)) := (Below.refl _ _).alloc (Nat.le_refl _) _
              have bx := Box.new wr 41 #[.int .i64 X, .bool O, .int .i64 Z]
              have y0 : (wr.alloc (.cells #[.int .i64 X, .bool O, .int .i64 Z] 41)).cell? ⟨wr.heap.size, 0, none⟩ = some (.int .i64 X) := bx.cell 0
              have y1 : (wr.alloc (.cells #[.int .i64 X, .bool O, .int .i64 Z] 41)).cell? ⟨wr.heap.size, 1, none⟩ = some (.bool O) := bx.cell 1
              have y2 : (wr.alloc (.cells #[.int .i64 X, .bool O, .int .i64 Z] 41)).cell? ⟨wr.heap.size, 2, none⟩ = some (.int .i64 Z) := bx.cell 2
              have HBw := Lib.hid (HB.out.alloc HB.out.size (.cells #[.int .i64 X, .bool O, .int .i64 Z] 41))
              have HOw := Lib.hid (own_below HO.out bl)
              cases O
              · have hN := HOw.out
                rw [← HOff.out rfl] at hN
                have HN9 := Lib.hid hN
                generalize freeTo l k = FR at *
                clear HOn HOff hs hX hwf hsl bl bx HO HOw hlen hN hbw
                by_cases h1 : FR < 0
                · have d1 : (FR < 0) = True := eq_true h1
                  by_cases h2 : X < 65535
                  · have d2 : (X < 65535) = True := eq_true h2
                    have HE := Lib.hid (HFy.out h1 rfl h2)
                    clear h1 h2 HFy HFh HFo
                    go_wp2
                    go_roundw
                    case rel => exact ⟨k + 1, by omega, by go_num, by rw [HE.out], HN9, HBw⟩
                    case measure => simp [intOf]; omega
                  · have d2 : (X < 65535) = False := eq_false h2
                    have HE := Lib.hid (HFo.out (.inr h2))
                    clear h1 h2 HFy HFh HFo
                    go_wp2
                    go_roundw
                    case rel => exact ⟨k + 1, by omega, by go_num, by rw [HE.out], HN9, HBw⟩
                    case measure => simp [intOf]; omega
                · have d1 : (FR < 0) = False := eq_false h1
                  have HE := Lib.hid (HFh.out h1)
                  clear h1 HFy HFh HFo
                  go_wp2
                  go_roundw
                  case rel => exact ⟨k + 1, by omega, by go_num, by rw [HE.out], HN9, HBw⟩
                  case measure => simp [intOf]; omega
              · have HNm := Lib.hid (handName_any k X true Z (wr.alloc (.cells #[.int .i64 X, .bool true, .int .i64 Z] 41)) (by omega) hsl.1 hsl.2.1)
                have HE := Lib.hid (HOn.out rfl)
                have HE2 := Lib.hid (HFo.out (.inl rfl))
                have HWF := Lib.hid hwf
                have HLN := Lib.hid hlen
                generalize nameN k (X, true, Z) = M at *
                generalize freeTo l k = FR at *
                clear HOn HOff hs hX hwf hsl bl bx HO hlen HFy HFh HFo hbw
                go_wp2_with fail
                refine HNm.out.mono ?_
                rintro e w2 ⟨rfl, b2⟩
                have hB2 := HBw.out.trans (b2.mono HBw.out.size)
                obtain ⟨v', w4, hrun, hO', hB'⟩ := (own_below HOw.out b2).push (P := Try.prog) (t := 35) (ty := 35) Try.underlying35 u64H (by omega) (x := M) HWF.out (by have := HLN.out; omega) hB2.size
                rw [← HE.out] at hO'
                have HR := Lib.hid hrun
                have HO' := Lib.hid hO'
                have HB' := Lib.hid (hB2.trans hB')
                clear hrun hO' hB' hB2 b2
                go_wp2_with (at_builtin; refine wpList_append_run rfl (.tmp 156) (.tmp 160) 35 rfl rfl rfl HR.out ?_)
                go_roundw
                case rel => exact ⟨k + 1, by omega, by go_num, by rw [HE2.out], HO', HB'⟩
                case measure => simp [intOf]; omega
          · obtain rfl : k = n := by omega
            have hO := HO.out
            obtain ⟨A7, c7, rfl, hc7, ha7⟩ := hO.arr
            have hbw := HB8.out.trans (HB.out.mono HB8.out.size)
            have hm6 := HM6.out
            rw [hm6] at ha7
            have HEq := Lib.hid (equalWords A6 A7 m6 m6 c6 c7 wr.heap.size (liveUp l k) (liveUp l k) wr (HG6.out wr hbw) ha7 (by have := liveUp_len (l := l) k; unfold maxLen; omega) (by have := liveUp_len (l := l) k; unfold maxLen; omega))
            rw [show decide (liveUp l k = liveUp l k) = true by simp] at HEq
            have HB9' := Lib.hid hbw
            rw [hm6]
            generalize freeTo l k = FR at *
            clear hO hc7 ha7 hbw HO HB hm6 HG6 HM6 HB8
            go_wp2_with fail
            refine HEq.out.mono ?_
            rintro e w9 ⟨rfl, q, rfl⟩
            have HB9 := Lib.hid (below_drewN HB9'.out q)
            clear HB9' HEq
            generalize wr.drewN q = W9 at *
            go_upto_block 2 with fail
            go_cut [29] (fun s wx => s = .int .i64 OE ∧ W9 = wx)
            case first => as_aux_lemma =>
              rcases HOpq.out with ⟨h1, rfl, _, _⟩ | ⟨h1, hfr, rfl, _⟩ | ⟨p, _, h1, hfr, rfl, _⟩
              · have h2 : ¬ (0 ≤ a ∧ a < 256) := fun h => by rw [inHand_iff.2 h] at h1; cases h1
                clear HOpq h1
                by_cases h3 : a < 0
                · have d1 : (a < 0) = True := eq_true h3
                  clear h2 h3
                  go_wp2_with fail
                  go_meet
                  exact ⟨rfl, rfl⟩
                · have d1 : (a < 0) = False := eq_false h3
                  have d2 : (255 < a) = True := eq_true (by omega)
                  clear h2 h3
                  go_wp2_with fail
                  go_meet
                  exact ⟨rfl, rfl⟩
              · have h2 := inHand_iff.1 h1
                have d1 : (a < 0) = False := eq_false (by omega)
                have d2 : (255 < a) = False := eq_false (by omega)
                have d3 : (FR < 0) = True := eq_true (by omega)
                clear HOpq h1 hfr h2
                go_wp2_with fail
                go_meet
                exact ⟨rfl, rfl⟩
              · have h2 := inHand_iff.1 h1
                have d1 : (a < 0) = False := eq_false (by omega)
                have d2 : (255 < a) = False := eq_false (by omega)
                have d3 : (FR < 0) = False := eq_false (by omega)
                clear HOpq h1 hfr h2
                go_wp2_with fail
                go_meet
                exact ⟨rfl, rfl⟩
            case rest => as_aux_lemma =>
              obtain ⟨rfl, rfl⟩ := hcut
              go_upto_if 190 with (fail)
              go_cut [30] (fun _ wx => Below W9.heap.size W9 wx)
              case first => as_aux_lemma =>
                rcases HOpq.out with ⟨_, rfl, rfl, rfl⟩ | ⟨_, _, rfl, rfl, rfl⟩ | ⟨p, hpn, _, rfl, rfl, rfl, hOV, hg0, hg1⟩
                · obtain rfl : m2 = 0 := HM2.out.symm
                  clear HOpq
                  go_wp2_with fail
                  go_meet
                  exact Below.refl _ _
                · obtain rfl : m2 = 0 := HM2.out.symm
                  clear HOpq
                  go_wp2_with fail
                  go_meet
                  exact Below.refl _ _
                · obtain ⟨G, hG⟩ : ∃ G, (nthG l p).1 = G := ⟨_, rfl⟩
                  rw [hG] at hg0 hg1 HG2 HM2 hOV
                  have HGG := Lib.hid hG
                  obtain rfl : m2 = k := by rw [← HM2.out, List.length_set]; exact HL.out
                  have HK := Lib.hid (cloneS_any A m2 c l W9 (by omega) (HA6.out W9 HB9.out))
                  unfold ClonedS at HK
                  rw [HL.out] at HK
                  have HNm := Lib.hid (fun wx => handName_any p (G + 1) true a wx (by omega) (by omega) (by omega))
                  have hpn' : (p : Int) < (m2 : Int) := by omega
                  rw [← hOV] at HNm
                  have dM : (OV != OV) = false := by simp
                  clear HOpq hG hOV
                  go_wp2_with fail
                  refine HK.out.mono ?_
                  rintro e w10 ⟨A9, c9, rfl, hF, b10⟩
                  obtain ⟨b, off, rfl, hbB, hc0, _, _⟩ := (HA6.out w10 (HB9.out.trans (b10.mono HB9.out.size))).slot hpn
                  rw [HGG.out] at hc0
                  obtain ⟨g, rfl, hbg, hglt, ⟨d0, d1, d2⟩, f0, f1, f2⟩ := hF.at_ hpn
                  have hFp := hF.put3 p (G + 1, true, a) hpn
                  have hBp := put3_below (g := g) b10 hbg p (G + 1, true, a)
                  have HQ := Lib.hid (put3_arr hF (G + 1, true, a) hpn)
                  have HS := Lib.hid (sameHands_same A2 (some ⟨g, 0, none⟩) m2 c2 c9 (put3 w10 g p (G + 1, true, a)).heap.size (l.set p (G + 1, true, a)) (put3 w10 g p (G + 1, true, a)) (HG2.out _ (HB9.out.trans (hBp.mono HB9.out.size))) hFp.arr HN.out)
                  unfold put3 at HS
                  simp only at HS
                  have HBp := Lib.hid hBp
                  clear hF hFp hBp b10 HK
                  go_wp2_with fail
                  refine HS.out.mono ?_
                  rintro e w12 ⟨rfl, q, rfl⟩
                  have z0 : ((put3 w10 g p (G + 1, true, a)).drewN q).cell? ⟨g, p * 3, none⟩ = some (.int .i64 (G + 1)) := HQ.out.1
                  have z1 : ((put3 w10 g p (G + 1, true, a)).drewN q).cell? ⟨g, p * 3 + 1, none⟩ = some (.bool true) := HQ.out.2.1
                  have z2 : ((put3 w10 g p (G + 1, true, a)).drewN q).cell? ⟨g, p * 3 + 2, none⟩ = some (.int .i64 a) := HQ.out.2.2
                  have HBq : Hid (Below W9.heap.size W9 ((put3 w10 g p (G + 1, true, a)).drewN q)) := below_drewN HBp.out q
                  unfold put3 at z0 z1 z2 HBq
                  simp only at z0 z1 z2 HBq
                  clear HQ HBp HS d0 d1 d2 f0 f1 f2 hc0
                  generalize (((w10.setCell ⟨g, p * 3, none⟩ (.int .i64 (G + 1))).setCell ⟨g, p * 3 + 1, none⟩ (.bool true)).setCell ⟨g, p * 3 + 2, none⟩ (.int .i64 a)).drewN q = W12 at *
                  go_wp2_with fail
                  refine (HNm.out W12).mono ?_
                  rintro e w13 ⟨rfl, b13⟩
                  have HB13 := Lib.hid (HBq.out.trans (b13.mono HBq.out.size))
                  clear b13
                  go_wp2_with fail
                  go_meet
                  exact HB13.out
              case rest => as_aux_lemma =>
                have HB10 := Lib.hid (HB9.out.trans (hcut.mono HB9.out.size))
                clear hcut HOpq HG2 HM2 HB9
                generalize wc = W10 at *
                go_wp2_with fail
                refine (HOfq.out W10 HB10.out).mono ?_
                rintro e w11 ⟨rfl, b11⟩
                have HB11 := Lib.hid (HB10.out.trans (b11.mono HB10.out.size))
                clear b11 HB10 HOfq
                go_upto_if 238 with (fail)
                go_cut [32] (fun _ wx => Below w11.heap.size w11 wx)
                case first => as_aux_lemma =>
                  rcases HFiq.out with ⟨rfl, rfl, rfl, rfl⟩ | ⟨p, hpn, rfl, rfl, hZ, rfl⟩
                  · obtain rfl : m3 = 0 := HM3.out.symm
                    clear HFiq
                    go_wp2_with fail
                    go_meet
                    exact Below.refl _ _
                  · obtain ⟨G, hG⟩ : ∃ G, (nthG l p).1 = G := ⟨_, rfl⟩
                    rw [hG] at HG3 HM3
                    have HGG := Lib.hid hG
                    have HZZ := Lib.hid hZ.symm
                    obtain rfl : m3 = k := by rw [← HM3.out, List.length_set]; exact HL.out
                    have HK := Lib.hid (cloneS_any A m3 c l w11 (by omega) (HA6.out w11 HB11.out))
                    unfold ClonedS at HK
                    rw [HL.out] at HK
                    have hpn' : (p : Int) < (m3 : Int) := by omega
                    have dp : ((p : Int) < 0) = False := eq_false (by omega)
                    have dZ : (LV != LV) = false := by simp
                    clear HFiq hG hZ
                    go_wp2_with fail
                    refine HK.out.mono ?_
                    rintro e w10 ⟨A9, c9, rfl, hF, b10⟩
                    obtain ⟨b, off, rfl, hbB, hc0, _, _⟩ := (HA6.out w10 (HB11.out.trans (b10.mono HB11.out.size))).slot hpn
                    rw [HGG.out] at hc0
                    obtain ⟨g, rfl, hbg, hglt, ⟨d0, d1, d2⟩, f0, f1, f2⟩ := hF.at_ hpn
                    have hFp := hF.put3 p (G, false, 0) hpn
                    have hBp := put3_below (g := g) b10 hbg p (G, false, 0)
                    have hc2 : (put3 w10 g p (G, false, 0)).cell? ⟨b, off + p * 3 + 2, none⟩ = some (.int .i64 LV) := by
                      obtain ⟨b', off', e1, _, _, _, h⟩ := (HA6.out _ (HB11.out.trans (hBp.mono HB11.out.size))).slot hpn
                      injection e1 with e1
                      injection e1 with e1 e2
                      subst e1; subst e2
                      rw [HZZ.out] at h
                      exact h
                    have HS := Lib.hid (sameHands_same A3 (some ⟨g, 0, none⟩) m3 c3 c9 (put3 w10 g p (G, false, 0)).heap.size (l.set p (G, false, 0)) (put3 w10 g p (G, false, 0)) (HG3.out _ (HB11.out.trans (hBp.mono HB11.out.size))) hFp.arr HN.out)
                    unfold put3 at HS hc2
                    simp only at HS hc2
                    have HBp := Lib.hid hBp
                    clear hF hFp hBp b10 HK
                    go_wp2_with fail
                    refine HS.out.mono ?_
                    rintro e w12 ⟨rfl, q, rfl⟩
                    have HBq : Hid (Below w11.heap.size w11 ((put3 w10 g p (G, false, 0)).drewN q)) := below_drewN HBp.out q
                    unfold put3 at HBq
                    simp only at HBq
                    clear HBp HS d0 d1 d2 f0 f1 f2 hc0 hc2
                    generalize (((w10.setCell ⟨g, p * 3, none⟩ (.int .i64 G)).setCell ⟨g, p * 3 + 1, none⟩ (.bool false)).setCell ⟨g, p * 3 + 2, none⟩ (.int .i64 0)).drewN q = W12 at *
                    go_wp2_with fail
                    go_meet
                    exact HBq.out
                case rest => as_aux_lemma =>
                  have HB14 := Lib.hid (HB11.out.trans (hcut.mono HB11.out.size))
                  clear hcut HFiq HG3 HM3 HB11
                  generalize wc = W14 at *
                  rcases HSwq.out with ⟨h, rfl, rfl⟩ | ⟨h, hw, rfl, rfl⟩ | ⟨h, hw, rfl, rfl⟩
                  · obtain rfl : m5 = 0 := HM5.out.symm
                    have d1 : ((n4 : Int) != 256) = true := by simp; omega
                    clear HSwq h
                    go_wp2
                    go_ret
                    exact ⟨rfl, HB6.out.trans (HB14.out.mono HB6.out.size)⟩
                  · obtain rfl : m5 = 0 := HM5.out.symm
                    have d1 : ((n4 : Int) != 256) = false := by simp [h]
                    have HW := Lib.hid (wordsOf_any A4 n4 c4 _ zs W14 HN4.out (HZ6.out W14 HB14.out))
                    rw [hw] at HW
                    clear HSwq h hw
                    go_wp2_with fail
                    refine HW.out.mono ?_
                    rintro e w15 ⟨rfl, rfl⟩
                    go_wp2
                    go_ret
                    exact ⟨rfl, HB6.out.trans (HB14.out.mono HB6.out.size)⟩
                  · obtain rfl : m5 = k := by rw [← HM5.out]; unfold swapHL; rw [List.length_map]; exact HL.out
                    have d1 : ((n4 : Int) != 256) = false := by simp [h]
                    have HW := Lib.hid (wordsOf_any A4 n4 c4 _ zs W14 HN4.out (HZ6.out W14 HB14.out))
                    rw [hw] at HW
                    have HK := Lib.hid (cloneS_any A m5 c l W14 (by omega) (HA6.out W14 HB14.out))
                    unfold ClonedS at HK
                    rw [HL.out] at HK
                    have H256 := Lib.hid h
                    clear HSwq h hw
                    go_wp2_with fail
                    refine HW.out.mono ?_
                    rintro e w15 ⟨rfl, rfl⟩
                    go_wp2_with fail
                    refine HK.out.mono ?_
                    rintro e w16 ⟨A9, c9, rfl, hF, b16⟩
                    have HB16 := Lib.hid b16
                    have HF16 := Lib.hid hF
                    clear hF b16 HW HK
                    go_wp2_with fail
                    go_loopw [309] (fun i wr => ∃ k : Nat, k ≤ m5 ∧ i = .int .i64 k ∧ Hid (FullG slotC 3 41 wr W14.heap.size A9 m5 c9 (swapTo l zs k)) ∧ Hid (Below W14.heap.size W14 wr)) (fun i _ => m5 - (intOf i).toNat)
                    case atStart => exact ⟨0, Nat.zero_le _, rfl, by rw [swapTo_zero]; exact HF16, HB16⟩
                    case round => as_aux_lemma =>
                      obtain ⟨k, hk, rfl, HF, HB⟩ := hrel
                      clear HF16 HB16
                      by_cases hlt : k < m5
                      · obtain ⟨g, rfl, hbg, hglt, ⟨d0, d1, d2⟩, f0, f1, f2⟩ := HF.out.at_ hlt
                        have hsl := slotE_ok.1 (HOK.out k hlt)
                        rw [swapTo_at (by rw [HL.out]; exact hlt)] at d0 d1 d2
                        have HNx : Hid (swapTo l zs (k + 1) = (swapTo l zs k).set k (swapX zs (nthG l k))) := swapTo_next (by rw [HL.out]; exact hlt)
                        have HAt : Hid (nthG (swapTo l zs k) k = nthG l k) := swapTo_at (by rw [HL.out]; exact hlt)
                        have HOff : Hid ((nthG l k).2.1 = false → swapTo l zs (k + 1) = swapTo l zs k) := fun h => swapTo_off (by rw [HL.out]; exact hlt) h
                        obtain ⟨X, O, Z, hX⟩ : ∃ X O Z, nthG l k = (X, O, Z) := ⟨_, _, _, rfl⟩
                        rw [hX] at d0 d1 d2 hsl HNx HAt HOff
                        simp only at d0 d1 d2 hsl HOff
                        have hlt' : (k : Int) < (m5 : Int) := by omega
                        cases O
                        · have hN := HF.out
                          rw [← HOff.out rfl] at hN
                          have HN9 := Lib.hid hN
                          clear HOff HNx HAt hX hN HF hsl
                          go_wp2
                          go_roundw
                          case rel => exact ⟨k + 1, by omega, by go_num, HN9, HB⟩
                          case measure => simp [intOf]; omega
                        · obtain ⟨z, rfl⟩ : ∃ z : Nat, Z = z := ⟨Z.toNat, by omega⟩
                          have hzn : z < n4 := by have := H256.out; omega
                          obtain ⟨b2, off2, rfl, hb2, hcs⟩ := (HZ6.out wr (HB14.out.trans (HB.out.mono HB14.out.size))).2.2 (by omega)
                          have t0 := hcs z hzn
                          have hN := HF.out.oneS k 2 (swapX zs (X, true, (z : Int))) (.int .i64 (nth zs z)) hlt (by omega) (by rw [HAt.out]; simp [swapX, slotC])
                          rw [← HNx.out] at hN
                          have HN9 := Lib.hid hN
                          have HBn := Lib.hid (below_set HB.out hbg (k * 3 + 2) (.int .i64 (nth zs z)))
                          generalize nth zs z = V at *
                          have hz1 : (z : Int) < (n4 : Int) := by omega
                          clear HOff HNx HAt hX hN HF hsl hcs
                          go_wp2
                          go_roundw
                          case rel => exact ⟨k + 1, by omega, by go_num, HN9, HBn⟩
                          case measure => simp [intOf]; omega
                      · obtain rfl : k = m5 := by omega
                        have hN := HF.out
                        have hls := HL.out
                        rw [← hls, swapTo_all, hls] at hN
                        have HBe := Lib.hid (HB14.out.trans (HB.out.mono HB14.out.size))
                        have HS := Lib.hid (sameHands_same A5 A9 k c5 c9 wr.heap.size (swapHL l zs) wr (HG5.out wr HBe.out) hN.arr HN.out)
                        clear hN hls HF
                        go_wp2_with fail
                        refine HS.out.mono ?_
                        rintro e w17 ⟨rfl, q, rfl⟩
                        go_wp2
                        go_ret
                        exact ⟨rfl, below_drewN (HB6.out.trans (HBe.out.mono HB6.out.size)) q⟩
      · as_aux_lemma =>
          obtain ⟨rfl, rfl, rfl, rfl, rfl, rfl, rfl, rfl, rfl⟩ := HBad.out hF
          obtain rfl : m2 = 0 := HM2.out.symm
          obtain rfl : m3 = 0 := HM3.out.symm
          obtain rfl : m5 = 0 := HM5.out.symm
          obtain rfl : m6 = 0 := HM6.out.symm
          have d1 : (SE != 0) = true := by simpa using hF
          have d2 : (SE == SE) = true := by simp
          clear hF HBad HOpen HFind HSwap HLive HSlot HOf6
          go_wp2
          go_ret
          exact ⟨rfl, HB6.out.trans (HB8.out.mono HB6.out.size)⟩
end Go.Proofs.Ytedndmhekjfpdaa
