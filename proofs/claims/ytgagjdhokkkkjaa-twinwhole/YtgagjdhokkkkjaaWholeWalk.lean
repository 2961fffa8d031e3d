/-
  The walk of TwinWhole.
-/
import Derived.Test.YtgagjdhokkkkjaaWholeM
import Derived.Test.YtgagjdhokkkkjaaTwinN
namespace Go.Proofs.Ytgagjdhokkkkjaa
open Go.RowKit

theorem waste_or {WW S X Y : Int} {j : Nat} (h : 2 * WW + j ≤ S) (h2 : j = 0 → WW = 0) (hx : X = S + Y) (hy : 0 ≤ Y) : WW = 0 ∨ 2 * WW < X := by
  rcases Nat.eq_zero_or_pos j with h3 | h3
  · exact .inl (h2 h3)
  · right; omega

set_option maxRecDepth 16000 in
set_option maxHeartbeats 4000000 in
theorem twinWhole_walk (o : Int) (A : Option Addr) (n c : Nat) (l : List Room) (w : World) (hH : HalvesIn w A n c l) :
    Calls Try.prog 6 #[.agg #[.int .i64 o, .slice A n c]] w fun e w' => e = .returned (.bool true) ∧ Below w.heap.size w w' := by
  obtain ⟨hnc, hR⟩ := hH
  have b0 := (Below.refl _ w).alloc (Nat.le_refl _) (.cells #[.int .i64 o, .slice A n c] 24)
  have x0 := Box.new w 24 #[.int .i64 o, .slice A n c]
  have HT := Lib.hid (twins_any (w.alloc (.cells #[.int .i64 o, .slice A n c] 24)))
  have HB0 := Lib.hid b0
  have HX0 := Lib.hid x0
  have HR := Lib.hid hR
  clear b0 x0 hR hnc
  go_enter Try.func6, Try.ntmps6
  go_wp2_with fail
  refine HT.out.mono ?_
  rintro e w1 ⟨rfl, hb1⟩
  have B0 := HX0.out.below hb1 HX0.out.lt
  have hb := HB0.out.trans (hb1.mono HB0.out.size)
  have HG := Lib.hid (gapsT_any o A n c l w1 (HR.out.below hb))
  unfold GapsP at HG
  have c0 : w1.cell? ⟨w.heap.size, 0, none⟩ = some (.int .i64 o) := B0.cell 0
  have c1 : w1.cell? ⟨w.heap.size, 1, none⟩ = some (.slice A n c) := B0.cell 1
  have HB := Lib.hid hb
  have HB1 := Lib.hid B0
  clear hb1 HT HX0 HB0 B0 hb
  go_wp2_with fail
  refine HG.out.mono ?_
  rintro e w2 ⟨v, rfl, hO, hb2⟩
  obtain ⟨A2, c2, rfl, _, hA2⟩ := hO.arr runC_len
  have B0 := HB1.out.below hb2 HB1.out.lt
  have hb := HB.out.trans (hb2.mono HB.out.size)
  have HW := Lib.hid (waste_any o A n c l w2 (HR.out.below hb))
  clear c0 c1
  have c0 : w2.cell? ⟨w.heap.size, 0, none⟩ = some (.int .i64 o) := B0.cell 0
  have c1 : w2.cell? ⟨w.heap.size, 1, none⟩ = some (.slice A n c) := B0.cell 1
  have HB2 := Lib.hid B0
  have HBb := Lib.hid hb
  have HA2 := Lib.hid hA2
  clear hb2 HG HB HB1 B0 hb hA2 hO
  rcases hErr_cases o l with ⟨h0, k, rfl, hk, hok⟩ | ⟨h0, _⟩
  · have hrt := (right_iff hk).1 hok
    have hg : gapsH (k : Int) l = freeL l k 0 := by unfold gapsH; rw [if_pos h0]; rfl
    have hws : wasteH (k : Int) l = wasteTo l n := by unfold wasteH; rw [if_pos h0, HR.out.2.1.1]
    rw [hg] at HA2 ⊢
    rw [h0, hws] at HW
    rw [h0]
    have hl := HR.out.2.1.1
    have h256 := pw_256 hk
    have hn256 : n ≤ 256 := by have := hrt.len; omega
    have hgl := freeL_len l k 0
    have hgl2 : (freeL l k 0).length ≤ 256 := by omega
    have HRt := Lib.hid hrt
    have HL := Lib.hid hl
    have HK := Lib.hid hk
    have HRm : Hid (∀ j, j < n → ∃ x y z : Nat, (nthG l j).1 = x ∧ (nthG l j).2.1 = y ∧ (nthG l j).2.2 = z ∧ x ≤ 256 ∧ y ≤ 256 ∧ z ≤ y) := fun j hj => by
      rw [nthG_get _ _ (by omega)]
      have hp := (hrt.good _ (List.getElem_mem (by omega : j < l.length))).pos
      exact ⟨_, _, _, (Int.toNat_of_nonneg hp.1).symm, (Int.toNat_of_nonneg (by omega)).symm, (Int.toNat_of_nonneg (by omega)).symm, by omega, by omega, by omega⟩
    have HWp := Lib.hid (wrap_pw hk)
    clear hrt hl hk hok h0 hg hws hgl
    go_wp2_with fail
    refine HW.out.mono ?_
    rintro e w3 ⟨rfl, hb3⟩
    have B0 := HB2.out.below hb3 HB2.out.lt
    have hb := HBb.out.trans (hb3.mono HBb.out.size)
    have HA3 := Lib.hid ((HA2.out.below hb3 (Nat.le_refl _)).more hb3.size)
    clear c0 c1
    have c0 : w3.cell? ⟨w.heap.size, 0, none⟩ = some (.int .i64 k) := B0.cell 0
    have c1 : w3.cell? ⟨w.heap.size, 1, none⟩ = some (.slice A n c) := B0.cell 1
    have HB3 := Lib.hid B0
    have HBc := Lib.hid hb
    clear hb3 HW HB2 HBb HA2 B0 hb
    obtain ⟨WW, hWW⟩ : ∃ WW, wasteTo l n = WW := ⟨_, rfl⟩
    have HWW := Lib.hid hWW
    rw [hWW]
    clear hWW
    go_wp2_with fail
    go_loopw [7, 8, 46] (fun s t i wr => ∃ j : Nat, j ≤ n ∧ i = .int .i64 j ∧ s = .int .i64 (sumTo l j) ∧ t = .int .i64 (wasteTo l j) ∧ Hid (Below w3.heap.size w3 wr)) (fun _ _ i _ => n - (intOf i).toNat)
    case atStart => exact ⟨0, Nat.zero_le _, rfl, rfl, rfl, Below.refl _ _⟩
    case round => as_aux_lemma =>
      obtain ⟨j, hj, rfl, rfl, rfl, HBr⟩ := hrel
      clear c0 c1
      by_cases hlt : j < n
      · obtain ⟨b, off, rfl, hbB, hc0, hc1, hc2⟩ := ((HR.out.2.1.below HBc.out (Nat.le_refl _)).below HBr.out HBc.out.size).room hlt
        obtain ⟨x, y, z, e1, e2, e3, h1, h2, h3⟩ := HRm.out j hlt
        obtain ⟨t1, t2, _⟩ := sumTo_le HRt.out j (by rw [HL.out]; omega)
        obtain ⟨t3, t4⟩ := wasteTo_le HRt.out j (by rw [HL.out]; omega)
        have HS1 : Hid (sumTo l (j + 1) = sumTo l j + (y : Int)) := by show _ = _; rw [sumTo, e2]
        have HS2 : Hid (wasteTo l (j + 1) = wasteTo l j + ((y : Int) - z)) := by show _ = _; rw [wasteTo, e2, e3]
        rw [e1] at hc0
        rw [e2] at hc1
        rw [e3] at hc2
        have HBn := Lib.hid (HBr.out.alloc HBr.out.size (.cells #[.int .i64 x, .int .i64 y, .int .i64 z] 42))
        have t5 : sumTo l j ≤ 65536 := by omega
        have t6 : wasteTo l j ≤ 65536 := by omega
        clear e1 e2 e3 hbB t2 t4 HRm HRt HA3 HB3 HBc HR
        generalize sumTo l j = S at *
        generalize wasteTo l j = T at *
        go_wp2
        go_roundw
        case rel => exact ⟨j + 1, by omega, by go_num, by rw [HS1.out], by rw [HS2.out], HBn⟩
        case measure => simp [intOf]; omega
      · obtain rfl : j = n := by omega
        have hA4 := HA3.out.below HBr.out (Nat.le_refl _)
        have B0 := HB3.out.below HBr.out HB3.out.lt
        have HA4 := Lib.hid hA4
        have HB4 := Lib.hid B0
        have HBd := Lib.hid (HBc.out.trans (HBr.out.mono HBc.out.size))
        have hsz := HBr.out.size
        obtain ⟨t1, t2, t7⟩ := sumTo_le HRt.out j (by rw [HL.out]; omega)
        obtain ⟨t3, t4⟩ := wasteTo_le HRt.out j (by rw [HL.out]; omega)
        have hwh := HRt.out.whole
        rw [← sumTo_all, ← sumGTo_all, HL.out] at hwh
        have HWH := Lib.hid hwh
        have t5 : sumTo l j ≤ 65536 := by omega
        rw [HWW.out] at t3 t4 t7 ⊢
        have t6 : WW ≤ 65536 := by omega
        have HT7 := Lib.hid t7
        have HJ0 : Hid (j = 0 → WW = 0) := fun h => by rw [← HWW.out, h]; rfl
        clear hA4 HBr HBc HB3 HA3 hwh B0 t2 t4 HRm t7 HWW HL
        generalize sumTo l j = S0 at *
        generalize hwr : wr = w4 at *
        clear hwr
        obtain ⟨gn, hgn⟩ : ∃ gn, (freeL l k 0).length = gn := ⟨_, rfl⟩
        have HGN := Lib.hid hgn
        rw [hgn] at HA4 hgl2 HWH ⊢
        clear hgn
        have c0 : w4.cell? ⟨w.heap.size, 0, none⟩ = some (.int .i64 k) := HB4.out.cell 0
        have hlt4 := HB4.out.lt
        have hend : ¬ (j : Int) < (j : Int) := by omega
        go_wp2_with fail
        go_loopw [7, 64] (fun s i wr => ∃ t : Nat, t ≤ gn ∧ i = .int .i64 t ∧ s = .int .i64 (S0 + sumGTo (freeL l k 0) t) ∧ Hid (Below w4.heap.size w4 wr)) (fun _ i _ => gn - (intOf i).toNat)
        case atStart => exact ⟨0, Nat.zero_le _, rfl, by simp [sumGTo], Below.refl _ _⟩
        case round => as_aux_lemma =>
          obtain ⟨t, ht, rfl, rfl, HBr⟩ := hrel
          obtain ⟨g1, g2⟩ := sumGTo_le (l := l) HK.out t (by rw [HGN.out]; exact ht)
          have g3 : S0 + sumGTo (freeL l k 0) t ≤ 200000 := by omega
          have g4 : 0 ≤ S0 + sumGTo (freeL l k 0) t := by omega
          by_cases htl : t < gn
          · match t, htl with
            | 0, htl => as_aux_lemma =>
              obtain ⟨b, i, _, N1⟩ := next_of (l := l) HK.out (j := 0) (by rw [HGN.out]; exact htl)
              obtain ⟨bb, off, rfl, hbB, hc0, hc1⟩ := (HA4.out.below HBr.out hsz).run htl
              have hb1 := N1.pos
              have hb2 := N1.small
              have hb3 := N1.place
              have hb4 := N1.align
              have HS : Hid (sumGTo (freeL l k 0) (0 + 1) = ((pw i : Nat) : Int)) := by show _ = _; rw [sumGTo, N1.gap]; simp [sumGTo]
              rw [N1.gap, Nat.zero_mul, Nat.add_zero] at hc0 hc1
              simp only at hc0 hc1
              have hgn0 : (0 : Int) < (gn : Int) := by omega
              clear N1 g1 g2
              generalize pw i = L at *
              have htm : (b : Int).tmod (L : Int) = 0 := by show ((b % L : Nat) : Int) = 0; rw [hb4]; rfl
              have hl1 : ((L : Int) < 1) = False := eq_false (by omega)
              have hL0 : ¬ L = 0 := by omega
              have HBn := Lib.hid (HBr.out.alloc HBr.out.size (.cells #[.int .i64 b, .int .i64 L] 29))
              have bx := Box.new wr 29 #[.int .i64 b, .int .i64 L]
              have y0 : (wr.alloc (.cells #[.int .i64 b, .int .i64 L] 29)).cell? ⟨wr.heap.size, 0, none⟩ = some (.int .i64 b) := bx.cell 0
              have y1 : (wr.alloc (.cells #[.int .i64 b, .int .i64 L] 29)).cell? ⟨wr.heap.size, 1, none⟩ = some (.int .i64 L) := bx.cell 1
              have HZ : Hid (sumGTo (freeL l k 0) 0 = 0) := rfl
              rw [HZ.out] at g3 g4 ⊢
              clear bx hb4 hbB HRt HA4 HB4 HR HWH HWp
              go_wp2_with fail
              generalize (wr.alloc (.cells #[.int .i64 b, .int .i64 L] 29)) = V at *
              clear hc0 hc1
              go_quiet (fail)
              go_wp2_with fail
              go_quiet (fail)
              go_wp2
              go_roundw
              case rel => exact ⟨0 + 1, by omega, by go_num, by rw [HS.out], below_drewN HBn.out _⟩
              case measure => simp [intOf]; omega
            | s + 1, htl => as_aux_lemma =>
              obtain ⟨b, L, b', L', N1, N2, hs1, hs2⟩ := two_of HRt.out (j := s) (by rw [HGN.out]; exact htl)
              have hA5 := HA4.out.below HBr.out hsz
              obtain ⟨bb, off, rfl, hbB, hc0, hc1⟩ := hA5.run htl
              obtain ⟨bb', off', hAe, _, hd0, hd1⟩ := hA5.run (j := s) (by omega)
              injection hAe with hAe
              injection hAe with he1 he2
              subst he1 he2
              have hb1 := N2.pos
              have hb2 := N2.small
              have hb3 := N2.place
              have hb4 := N2.align
              have ha1 := N1.pos
              have ha2 := N1.small
              have ha3 := N1.place
              have HS : Hid (sumGTo (freeL l k 0) (s + 1 + 1) = sumGTo (freeL l k 0) (s + 1) + (L' : Int)) := by show _ = _; rw [sumGTo, N2.gap]
              rw [N2.gap] at hc0 hc1
              rw [N1.gap] at hd0 hd1
              simp only at hc0 hc1 hd0 hd1
              have HS2 := Lib.hid hs2
              clear N1 N2 g1 g2 hA5 hs2
              have htm : (b' : Int).tmod (L' : Int) = 0 := by show ((b' % L' : Nat) : Int) = 0; rw [hb4]; rfl
              have hl1 : ((L' : Int) < 1) = False := eq_false (by omega)
              have hL0 : ¬ L' = 0 := by omega
              have hpos : (0 : Int) < (s : Int) + 1 := by omega
              have hwi : IntKind.i64.wrap ((s : Int) + 1 - 1) = (s : Int) := by rw [show (s : Int) + 1 - 1 = s by omega]; exact IntWalk.i64_in _ (by omega)
              have hsg : (s : Int) < (gn : Int) := by omega
              have hsg2 : (s : Int) + 1 < (gn : Int) := by omega
              have hsum : ((b' : Int) < (b : Int) + (L : Int)) = False := eq_false (by omega)
              have hwb : IntKind.i64.wrap ((b : Int) + (L : Int)) = (b : Int) + L := IntWalk.i64_in _ (by omega)
              have hwb2 : IntKind.i64.wrap ((b : Int) + (L' : Int)) = (b : Int) + L' := IntWalk.i64_in _ (by omega)
              have hw2 : IntKind.i64.wrap (2 * (L' : Int)) = 2 * (L' : Int) := IntWalk.i64_in _ (by omega)
              have HBn := Lib.hid (HBr.out.alloc HBr.out.size (.cells #[.int .i64 b', .int .i64 L'] 29))
              have bx := Box.new wr 29 #[.int .i64 b', .int .i64 L']
              have bw := (Below.refl wr.heap.size wr).alloc (Nat.le_refl _) (.cells #[.int .i64 b', .int .i64 L'] 29)
              have hbw : bb < wr.heap.size := by have := HBr.out.size; omega
              have y0 : (wr.alloc (.cells #[.int .i64 b', .int .i64 L'] 29)).cell? ⟨wr.heap.size, 0, none⟩ = some (.int .i64 b') := bx.cell 0
              have y1 : (wr.alloc (.cells #[.int .i64 b', .int .i64 L'] 29)).cell? ⟨wr.heap.size, 1, none⟩ = some (.int .i64 L') := bx.cell 1
              have f0 := (bw.cell (p := ⟨bb, off + s * 2, none⟩) hbw).trans hd0
              have f1 := (bw.cell (p := ⟨bb, off + s * 2 + 1, none⟩) hbw).trans hd1
              obtain ⟨SG, hSG⟩ : ∃ SG, sumGTo (freeL l k 0) (s + 1) = SG := ⟨_, rfl⟩
              rw [hSG] at HS g3 g4 ⊢
              clear bx bw hbw hb4 hbB HRt HA4 HB4 HR HWH HWp hSG hd0 hd1
              go_wp2_with fail
              generalize (wr.alloc (.cells #[.int .i64 b', .int .i64 L'] 29)) = V at *
              clear hc0 hc1
              go_quiet (fail)
              go_wp2_with fail
              by_cases h1 : L = L'
              · subst h1
                by_cases h2 : b + L = b'
                · have hm := HS2.out rfl h2
                  subst h2
                  have hm2 : ∃ M : Nat, (b : Int).tmod (2 * (L : Int)) = (M : Int) ∧ M ≠ 0 := ⟨b % (2 * L), rfl, hm⟩
                  obtain ⟨M, hM1, hM2⟩ := hm2
                  have hM3 : ((M : Int) == 0) = false := by simp; omega
                  clear HS2 hm
                  go_quiet (fail)
                  go_wp2
                  go_roundw
                  case rel => exact ⟨s + 1 + 1, by omega, by go_num, by rw [HS.out, ← Int.add_assoc], below_drewN HBn.out _⟩
                  case measure => simp [intOf]; omega
                · have h3 : ((b : Int) + (L : Int) == (b' : Int)) = false := by simp; omega
                  clear HS2 h2
                  go_quiet (fail)
                  go_wp2
                  go_roundw
                  case rel => exact ⟨s + 1 + 1, by omega, by go_num, by rw [HS.out, ← Int.add_assoc], below_drewN HBn.out _⟩
                  case measure => simp [intOf]; omega
              · have h3 : ((L : Int) == (L' : Int)) = false := by simp; omega
                clear HS2 h1
                go_quiet (fail)
                go_wp2
                go_roundw
                case rel => exact ⟨s + 1 + 1, by omega, by go_num, by rw [HS.out, ← Int.add_assoc], below_drewN HBn.out _⟩
                case measure => simp [intOf]; omega
          · obtain rfl : t = gn := by omega
            have hsm : ((pw k : Nat) : Int) = S0 + sumGTo (freeL l k 0) t := HWH.out.symm
            have B0 := HB4.out.below HBr.out HB4.out.lt
            have c0 : wr.cell? ⟨w.heap.size, 0, none⟩ = some (.int .i64 k) := B0.cell 0
            have HBe := Lib.hid (HBd.out.trans (HBr.out.mono HBd.out.size))
            have hk8 := HK.out
            have hW2 := HWp.out
            have hor := waste_or HT7.out HJ0.out hsm g1
            rw [← hsm]
            have hkn : ¬ (k : Int) < 0 := by omega
            have e1 : (((pw k : Nat) : Int) == ((pw k : Nat) : Int)) = true := by simp
            have e2 : (WW == WW) = true := by simp
            clear hsm B0 HBr HBd HB4 HA4 HRt HR HWH HWp HT7 HJ0 g1 g2 g3 g4
            generalize pw k = PK at *
            rcases hor with h | h
            · subst h
              go_wp2
              go_ret
              exact ⟨rfl, HBe.out⟩
            · by_cases hw0 : WW = 0
              · subst hw0
                go_wp2
                go_ret
                exact ⟨rfl, HBe.out⟩
              · have e3 : (WW == 0) = false := by simpa using hw0
                go_wp2
                go_ret
                exact ⟨rfl, HBe.out⟩
  · have hg : gapsH o l = [] := by unfold gapsH; rw [if_neg h0]
    have hws : wasteH o l = 0 := by unfold wasteH; rw [if_neg h0]
    rw [hg]
    rw [hws] at HW
    have hne : (hErr o l != 0) = true := by simpa using h0
    have hee : (hErr o l == hErr o l) = true := by simp
    clear hg hws HA2 HB2
    generalize hErr o l = E at *
    simp only [List.length_nil]
    go_wp2_with fail
    refine HW.out.mono ?_
    rintro e w3 ⟨rfl, hb3⟩
    have HBe := Lib.hid (HBb.out.trans (hb3.mono HBb.out.size))
    clear hb3 HW
    go_wp2
    go_ret
    exact ⟨rfl, HBe.out⟩
end Go.Proofs.Ytgagjdhokkkkjaa
