/-
  Package young: Write.
-/
import Derived.Test.YthdnfocemchgjaaYoungD
namespace Go.Proofs.Ythdnfocemchgjaa
open Go.RowKit

theorem AgesR.zero {base : Nat} {w : World} : AgesR base w none none none 0 0 0 0 0 0 ([], [], []) :=
  ⟨⟨TriV.zero, Nat.le_refl _, Nat.le_refl _, ⟨by decide, by decide, by decide⟩⟩, SpareI.nil, SpareI.nil, SpareI.nil⟩
/-- What holds in the middle of Write, of Grow: what came in, and the result that is still zero. -/
structure YI (w : World) (A G K : Option Addr) (n c ng cg nb cb : Nat) (zs g b : List Int) (wx : World) : Prop where
  below : Below w.heap.size w wx
  arg : Box wx w.heap.size 25 #[.slice A n c, .slice G ng cg, .slice K nb cb]
  res : Box wx (w.heap.size + 1) 25 #[.slice none 0 0, .slice none 0 0, .slice none 0 0]
  ages : AgesIn wx A G K n c ng cg nb cb zs g b
section
variable {w wx wx' : World} {A G K : Option Addr} {n c ng cg nb cb : Nat} {zs g b : List Int}
theorem YI.next (h : YI w A G K n c ng cg nb cb zs g b wx) (hb : Below wx.heap.size wx wx') : YI w A G K n c ng cg nb cb zs g b wx' :=
  ⟨h.below.trans (hb.mono h.below.size), h.arg.below hb h.arg.lt, h.res.below hb h.res.lt, h.ages.next hb⟩
theorem YI.cells (h : YI w A G K n c ng cg nb cb zs g b wx) : wx.cell? ⟨w.heap.size, 0, none⟩ = some (.slice A n c) ∧ wx.cell? ⟨w.heap.size, 1, none⟩ = some (.slice G ng cg) ∧ wx.cell? ⟨w.heap.size, 2, none⟩ = some (.slice K nb cb) := ⟨h.arg.cell 0, h.arg.cell 1, h.arg.cell 2⟩
theorem YI.rcells (h : YI w A G K n c ng cg nb cb zs g b wx) : wx.cell? ⟨w.heap.size + 1, 0, none⟩ = some (.slice none 0 0) ∧ wx.cell? ⟨w.heap.size + 1, 1, none⟩ = some (.slice none 0 0) ∧ wx.cell? ⟨w.heap.size + 1, 2, none⟩ = some (.slice none 0 0) ∧
    wx.frozen? ⟨w.heap.size + 1, 0, none⟩ = false ∧ wx.frozen? ⟨w.heap.size + 1, 1, none⟩ = false ∧ wx.frozen? ⟨w.heap.size + 1, 2, none⟩ = false := ⟨h.res.cell 0, h.res.cell 1, h.res.cell 2, h.res.soft 0, h.res.soft 1, h.res.soft 2⟩
theorem YI.new (h : AgesIn w A G K n c ng cg nb cb zs g b) : YI w A G K n c ng cg nb cb zs g b ((w.alloc (.cells #[.slice A n c, .slice G ng cg, .slice K nb cb] 25)).alloc (.cells #[.slice none 0 0, .slice none 0 0, .slice none 0 0] 25)) := by
  have b1 := (Below.refl _ w).alloc (Nat.le_refl _) (.cells #[.slice A n c, .slice G ng cg, .slice K nb cb] 25)
  have hs1 : (w.alloc (.cells #[.slice A n c, .slice G ng cg, .slice K nb cb] 25)).heap.size = w.heap.size + 1 := by simp
  have b2 := (Below.refl _ (w.alloc (.cells #[.slice A n c, .slice G ng cg, .slice K nb cb] 25))).alloc (Nat.le_refl _) (.cells #[.slice none 0 0, .slice none 0 0, .slice none 0 0] 25)
  have BX := Box.new w 25 #[.slice A n c, .slice G ng cg, .slice K nb cb]
  have BY := Box.new (w.alloc (.cells #[.slice A n c, .slice G ng cg, .slice K nb cb] 25)) 25 #[.slice none 0 0, .slice none 0 0, .slice none 0 0]
  rw [hs1] at BY
  exact ⟨bthen b1 b2, BX.below b2 BX.lt, BY, (h.next b1).next b2⟩
theorem wNoted_len (h : zs.length ≤ 256) {a z : Int} : (wNoted zs g b a z).length ≤ 256 := Nat.le_trans (List.length_filter_le _ _) (lives_len h)
end
set_option maxRecDepth 16000 in
set_option maxHeartbeats 4000000 in
theorem yWrite_any : YWriteC := by
  intro A G K n c ng cg nb cb zs g b a r z w wa wr wz h
  have HI := Lib.hid (YI.new h)
  have HZ := Lib.hid h.tri.arena.2.1
  have HA := Lib.hid wa
  have HWZ := Lib.hid wz
  have HSZ := Lib.hid h.sz
  have HCK := Lib.hid (fun wx (t : AgesIn wx A G K n c ng cg nb cb zs g b) => yCheck_any A G K n c ng cg nb cb zs g b wx t)
  have HSW := Lib.hid (fun wx (t : AgesIn wx A G K n c ng cg nb cb zs g b) => stepWriteF_any A none none n c 0 0 0 0 zs [] [] a r z wx wa wz ⟨t.tri.arena, Arr.zero, Arr.zero, t.tri.hn, t.tri.hnc, Nat.zero_le _, Nat.zero_le _⟩)
  have HCL := Lib.hid (fun wx (t : AgesIn wx A G K n c ng cg nb cb zs g b) => cloneIntsF K nb cb b wx (by have := h.sz.2.2; omega) t.tri.blk)
  have HCG := Lib.hid (fun wx (t : AgesIn wx A G K n c ng cg nb cb zs g b) => cloneIntsF G ng cg g wx (by have := h.sz.2.1; omega) t.tri.grey)
  have HHG := Lib.hid (fun wx (t : AgesIn wx A G K n c ng cg nb cb zs g b) (hr : g.Pairwise (· < ·)) x => youngHas_any G ng cg wx.heap.size g x wx t.tri.hg t.tri.grey hr)
  clear h wa wr wz
  unfold YWriteP
  unfold ClonedOf at HCL HCG
  unfold WriteF at HSW
  go_enter Try.func7, Try.ntmps7
  go_wp2_with fail
  generalize ((w.alloc (.cells #[.slice A n c, .slice G ng cg, .slice K nb cb] 25)).alloc (.cells #[.slice none 0 0, .slice none 0 0, .slice none 0 0] 25)) = w1 at *
  obtain ⟨a0, a1, a2⟩ := HI.out.cells
  go_wp2_with fail
  refine (HCK.out _ HI.out.ages).mono ?_
  rintro e w2 ⟨rfl, b2⟩
  have HI2 := Lib.hid (HI.out.next b2)
  clear b2 a0 a1 a2 HI HCK
  by_cases h0 : agesE zs g b = 0
  · have H0 := Lib.hid h0
    have HOK := Lib.hid (agesE_zero.1 h0)
    rw [h0]
    clear h0
    have HQ := Lib.hid (HSW.out w2 HI2.out.ages)
    rw [writeE_wrtE (tri_nil HZ.out HOK.out.arena)] at HQ
    have HT := Lib.hid (fun h => writeT_ok (zs := zs) (g := []) (b := []) (a := a) (r := r) (z := z) (by rw [writeE_wrtE (tri_nil HZ.out HOK.out.arena)]; exact h))
    have HEE := Lib.hid (yWrE_ok (a := a) (r := r) (z := z) H0.out)
    clear HSW
    obtain ⟨a0, a1, a2⟩ := HI2.out.cells
    go_wp2_with fail
    refine HQ.out.mono ?_
    rintro e w3 ⟨A', n', c', G', ng', cg', K', nb', cb', rfl, b3, hT, hSA, _, _⟩
    have HI3 := Lib.hid (HI2.out.next b3)
    have HT3 := Lib.hid hT
    have HS3 := Lib.hid (hSA.less HI2.out.below.size)
    clear b3 hT hSA a0 a1 a2 HI2 HQ
    have bt := (Below.refl _ w3).alloc (Nat.le_refl _) (.cells #[.slice A' n' c', .slice G' ng' cg', .slice K' nb' cb'] 53)
    have BT := Lib.hid (Box.new w3 53 #[.slice A' n' c', .slice G' ng' cg', .slice K' nb' cb'])
    have HI4 := Lib.hid (HI3.out.next bt)
    by_cases hE0 : wrtE zs a r z = 0
    · have HE0 := Lib.hid hE0
      rw [HT.out hE0] at HT3
      rw [hE0]
      clear hE0
      obtain ⟨h1, h2, h3, h4⟩ := wrtE_zero HE0.out
      have HZZ := Lib.hid h4
      have HNL : Hid (n' = (wrL zs a.toNat r.toNat z).length) := HT3.out.arena.1.symm
      have HA4 := Lib.hid (HT3.out.arena.later bt)
      have HS4 := Lib.hid (HS3.out.below bt (Nat.le_refl _))
      have HN4 := Lib.hid (And.intro HT3.out.hn HT3.out.hnc)
      have hs4 : (w3.alloc (.cells #[.slice A' n' c', .slice G' ng' cg', .slice K' nb' cb'] 53)).heap.size = w3.heap.size + 1 := by simp
      have HL3 : Hid (w3.heap.size < (w3.alloc (.cells #[.slice A' n' c', .slice G' ng' cg', .slice K' nb' cb'] 53)).heap.size) := by show _ < _; omega
      have HW3 := Lib.hid HI3.out.res.lt
      have HQ := Lib.hid (HCL.out _ HI4.out.ages)
      obtain ⟨a0, a1, a2⟩ := HI4.out.cells
      clear h1 h2 h3 h4 hs4 HT HT3 HS3 HI3 bt HCL
      go_wp2_with fail
      refine HQ.out.mono ?_
      rintro e w5 ⟨N5, c5, rfl, hO5, b5⟩
      have HI5 := Lib.hid (HI4.out.next b5)
      have HT5 := Lib.hid (BT.out.below b5 HL3.out)
      have HA5 := Lib.hid (HA4.out.later b5)
      have HS5 := Lib.hid (HS4.out.below b5 (Nat.le_refl _))
      have HO5 := Lib.hid (hO5.lessF HI4.out.below.size)
      have HL5 := Lib.hid (Nat.lt_of_lt_of_le HL3.out b5.size)
      clear b5 hO5 a0 a1 a2 HI4 HQ HL3 HA4 HS4 BT
      generalize w3.heap.size = gt at *
      obtain ⟨a0, a1, a2⟩ := HI5.out.cells
      obtain ⟨TY, hTY⟩ : ∃ TY, decide (z ≠ -1 ∧ z ∉ g) = TY := ⟨_, rfl⟩
      have HTY := Lib.hid hTY
      clear hTY
      have HH := Lib.hid (HHG.out w5 HI5.out.ages HOK.out.or_)
      have HHB := Lib.hid (fun wx B (hx : Arr .i64 wx B N5 nb b) => youngHas_any N5 nb c5 B b a wx HI5.out.ages.tri.hb hx HOK.out.nr)
      obtain ⟨_, _, hv5, _, hN5, _⟩ := HO5.out.arr
      injection hv5 with e1 e2 e3
      rw [← e1, ← e2] at hN5
      have HN5 := Lib.hid hN5
      clear hN5 e1 e2 e3
      obtain ⟨FG, hFG⟩ : ∃ FG, decide (a ∈ g) = FG := ⟨_, rfl⟩
      have HFG := Lib.hid hFG
      clear hFG
      go_upto_region 8 with fail
      go_cut [14, 15] (fun s t wx => s = .bool FG ∧ t = .bool TY ∧ w5 = wx)
      case first =>
        go_wp2_with fail
        refine (HH.out a).mono ?_
        rintro e w6 ⟨rfl, rfl⟩
        by_cases hz : z = -1
        · have hb : (z != -1) = false := by simpa using hz
          have HF : Hid (TY = false) := by show _ = _; rw [← HTY.out]; simp [hz]
          clear hz
          go_wp2
          go_meet
          exact ⟨by rw [HFG.out], by rw [HF.out], rfl⟩
        · have hb : (z != -1) = true := by simpa using hz
          have HF : Hid (TY = !decide (z ∈ g)) := by show _ = _; rw [← HTY.out]; simp [hz]
          clear hz
          go_wp2_with fail
          refine (HH.out z).mono ?_
          rintro e w6 ⟨rfl, rfl⟩
          go_wp2
          go_meet
          exact ⟨by rw [HFG.out], by rw [HF.out], rfl⟩
      case rest =>
        obtain ⟨rfl, rfl, rfl⟩ := hcut
        clear HH
        obtain ⟨CC, hCC⟩ : ∃ CC, (FG && TY && !decide (a ∈ b)) = CC := ⟨_, rfl⟩
        have HCC := Lib.hid hCC
        clear hCC
        go_upto_region 9 with fail
        go_cut [61] (fun s wx => s = .bool CC ∧ w5 = wx)
        case first =>
          rcases (by cases FG <;> simp : FG = false ∨ FG = true) with rfl | rfl
          · have HF : Hid (CC = false) := HCC.out.symm
            go_wp2
            go_meet
            exact ⟨by rw [HF.out], rfl⟩
          · rcases (by cases TY <;> simp : TY = false ∨ TY = true) with rfl | rfl
            · have HF : Hid (CC = false) := HCC.out.symm
              go_wp2
              go_meet
              exact ⟨by rw [HF.out], rfl⟩
            · have HF : Hid (CC = !decide (a ∈ b)) := HCC.out.symm
              go_wp2_with fail
              refine (HHB.out _ _ HN5.out).mono ?_
              rintro e w6 ⟨rfl, rfl⟩
              go_wp2
              go_meet
              exact ⟨by rw [HF.out], rfl⟩
        case rest =>
          obtain ⟨rfl, rfl⟩ := hcut
          clear HHB
          go_upto_if 61 with fail
          go_cut [13] (fun v wx => Hid (Below w5.heap.size w5 wx) ∧ ∃ N m cc, v = .slice N m cc ∧ Hid (m = (wNoted zs g b a z).length) ∧ Hid (OwnF .i64 3 wx w.heap.size (.slice N m cc) (wNoted zs g b a z)))
          case first =>
            rcases (by cases CC <;> simp : CC = false ∨ CC = true) with rfl | rfl
            · have HS : Hid (b = wNoted zs g b a z) := noted_same HOK.out (by
                by_cases hab : a ∈ b
                · exact .inr hab
                · left
                  rintro ⟨h1, h2, h3⟩
                  have h4 := HTY.out
                  have h5 := HCC.out
                  rw [← h4, ← HFG.out] at h5
                  simp [h1, h2, h3, hab] at h5)
              go_wp2
              go_meet
              exact ⟨Lib.hid (Below.refl _ _), N5, nb, c5, rfl, by rw [← HS.out]; exact HI5.out.ages.tri.blk.1.symm, by rw [← HS.out]; exact HO5.out⟩
            · have HC3 : a ∈ g ∧ (z ≠ -1 ∧ z ∉ g) ∧ a ∉ b := by
                have h5 := HCC.out
                rw [← HTY.out, ← HFG.out] at h5
                simpa [and_assoc] using h5
              have HS := Lib.hid (noted_more HOK.out HZZ.out HC3.1 HC3.2.1.1 HC3.2.1.2 HC3.2.2)
              clear HC3
              have bx := (Below.refl _ w5).alloc (Nat.le_refl _) (.cells #[.int .i64 a] 3)
              have hw : Whole .i64 3 (w5.alloc (.cells #[.int .i64 a] 3)) w5.heap.size [a] := whole_new .i64 3 w5 [a] (by simpa using HA.out)
              have hbl : nb ≤ 256 := by
                have h1 := sub_length (rises_nodup HOK.out.nr) (fun x hx => HOK.out.ol x (HOK.out.no x hx))
                have h2 := lives_len (arena_len HOK.out.arena)
                have h3 := HI5.out.ages.tri.blk.1
                omega
              have HQ := Lib.hid (youngWith_any N5 (some ⟨w5.heap.size, 0, none⟩) nb c5 1 1 b [a] _ (by omega) (HN5.out.later bx) (hw.arr hw.lt))
              unfold WithP at HQ
              rw [HS.out] at HQ
              have HBX := Lib.hid bx
              clear hw bx hbl HS
              go_wp2_with fail
              refine HQ.out.mono ?_
              rintro e w6 ⟨N6, m6, c6, rfl, hm, hO, hb⟩
              have HO := Lib.hid (hO.lessF (Nat.le_trans HI5.out.below.size HBX.out.size))
              have HB := Lib.hid (bthen HBX.out hb)
              have HM := Lib.hid hm
              clear hm hO hb HQ HBX
              go_wp2
              go_meet
              exact ⟨HB, N6, m6, c6, rfl, HM, HO⟩
          case rest =>
            obtain ⟨HB6, N, m, cc, rfl, HML, HON⟩ := hcut
            have HI6 := Lib.hid (HI5.out.next HB6.out)
            have HT6 := Lib.hid (HT5.out.below HB6.out HL5.out)
            have HA6 := Lib.hid (HA5.out.later HB6.out)
            have HS6 := Lib.hid (HS5.out.below HB6.out (Nat.le_refl _))
            have HL6 := Lib.hid (Nat.lt_of_lt_of_le HL5.out HB6.out.size)
            have HQ := Lib.hid (fun wx (hb : Below wc.heap.size wc wx) => HCG.out wx (HI6.out.ages.next hb))
            clear HB6 HI5 HT5 HA5 HS5 HL5 a0 a1 a2 HO5 HN5 HTY HFG HCC HHG HCG
            generalize wc = W6 at *
            obtain ⟨a0, a1, a2⟩ := HI6.out.cells
            have t0 : W6.cell? ⟨gt, 0, none⟩ = some (.slice A' n' c') := HT6.out.cell 0
            have t1 : W6.cell? ⟨gt, 1, none⟩ = some (.slice G' ng' cg') := HT6.out.cell 1
            have hgt := HW3.out
            have HR := Lib.hid (fun wx (hb : Below W6.heap.size W6 wx) => (HI6.out.next hb).rcells)
            go_wp2_with fail
            go_region_held3 (fun w' => w'.cell? ⟨w.heap.size, 1, none⟩ = some (.slice G ng cg) ∧ w'.cell? ⟨gt, 0, none⟩ = some (.slice A' n' c'))
              (first
                | exact ⟨y0, y1⟩
                | exact ⟨(cell_setOther _ (by omega) 2 _ _).trans ((cell_setOther _ (by omega) 1 _ _).trans ((cell_setOther _ (by omega) 0 _ _).trans y0)), (cell_setOther _ (Nat.ne_of_gt hgt) 2 _ _).trans ((cell_setOther _ (Nat.ne_of_gt hgt) 1 _ _).trans ((cell_setOther _ (Nat.ne_of_gt hgt) 0 _ _).trans y1))⟩
                | go_keep)
              (first
                | (go_at_call 12; refine (HQ.out _ (below_drewN (Below.refl _ _) 1)).mono ?_; rintro e w7 ⟨O7, c7, rfl, hO7, b7⟩; have b7 : Below W6.heap.size W6 w7 := below_of_drew b7; have y0 := (b7.cell (p := ⟨w.heap.size, 1, none⟩) HI6.out.arg.lt).trans a1; have y1 := (b7.cell (p := ⟨gt, 0, none⟩) HL6.out).trans t0; obtain ⟨r0, r1, r2, s0, s1, s2⟩ := HR.out w7 b7))
            rename_i hHeld
            clear hHeld
            have HI7 := Lib.hid (HI6.out.next b7)
            have HO7 := Lib.hid (hO7.lessF HI6.out.below.size)
            have HA7 := Lib.hid (HA6.out.later b7)
            have HS7 := Lib.hid (HS6.out.below b7 (Nat.le_refl _))
            have HON7 := Lib.hid (HON.out.below b7 (Nat.le_refl _))
            clear b7 hO7 y0 y1 HI6 HT6 HA6 HS6 HON
            go_wp2
            obtain ⟨z1, z2, z3, z4⟩ := set3 HI7.out.below HI7.out.res (by omega : w.heap.size ≤ w.heap.size + 1) (.slice A' n' c') (.slice O7 ng c7) (.slice N m cc)
            obtain ⟨_, _, e1, hlo, ho, hso⟩ := HO7.out.arr
            injection e1 with e11 e12 e13
            obtain ⟨_, _, e2, hln, hn2, hsn⟩ := HON7.out.arr
            injection e2 with e21 e22 e23
            rw [← e11, ← e12] at ho
            rw [← e11, ← e13] at hso
            rw [← e12, ← e13] at hlo
            rw [← e21, ← e22] at hn2
            rw [← e21, ← e23] at hsn
            rw [← e22, ← e23] at hln
            clear e11 e12 e13 e21 e23
            have y1 := HA7.out.set3 HI7.out.res z3 z4
            have y2 := ho.set3 HI7.out.res z3 z4
            have y3 := hn2.set3 HI7.out.res z3 z4
            have q1 := HS7.out.set3 HI7.out.res (by decide) (.slice A' n' c') (.slice O7 ng c7) (.slice N m cc)
            have q2 := hso.set3 HI7.out.res (by decide) (.slice A' n' c') (.slice O7 ng c7) (.slice N m cc)
            have q3 := hsn.set3 HI7.out.res (by decide) (.slice A' n' c') (.slice O7 ng c7) (.slice N m cc)
            generalize (((w7.setCell ⟨w.heap.size + 1, 0, none⟩ (.slice A' n' c')).setCell ⟨w.heap.size + 1, 1, none⟩ (.slice O7 ng c7)).setCell ⟨w.heap.size + 1, 2, none⟩ (.slice N m cc)) = W8 at *
            have x0 : W8.cell? ⟨w.heap.size + 1, 0, none⟩ = some (.slice A' n' c') := z2.cell 0
            have x1 : W8.cell? ⟨w.heap.size + 1, 1, none⟩ = some (.slice O7 ng c7) := z2.cell 1
            have x2 : W8.cell? ⟨w.heap.size + 1, 2, none⟩ = some (.slice N m cc) := z2.cell 2
            have hal := arena_len HOK.out.arena
            have hm256 : m ≤ 256 := by rw [e22]; exact wNoted_len hal
            have hn256 : n' ≤ 256 := by rw [HNL.out, wr_len]; exact hal
            have hg := HSZ.out.2.1
            refine bodyPost_ret (v := .tuple #[.agg #[.slice A' n' c', .slice O7 ng c7, .slice N m cc], .int .i64 0]) (by simp [results, Try.results7, go_sem, x0, x1, x2]) rfl ⟨A', n', c', O7, ng, c7, N, m, cc, by rw [HEE.out, HE0.out], z1, ?_⟩
            rw [yWrT_ok (by rw [HEE.out, HE0.out])]
            exact ⟨⟨⟨y1, y2, y3, HN4.out.1, HN4.out.2, by unfold maxLen; omega, by unfold maxLen; omega⟩, hlo, hln, ⟨by omega, hg, by omega⟩⟩, q1, q2, q3⟩
    · have HYT := Lib.hid (yWrT_bad (zs := zs) (g := g) (b := b) (a := a) (r := r) (z := z) (by rw [HEE.out]; exact hE0))
      obtain ⟨E, hE⟩ : ∃ E, wrtE zs a r z = E := ⟨_, rfl⟩
      rw [hE] at hE0 HEE ⊢
      clear hE HCL HCG HHG HT HT3 HS3 BT HI3 bt
      have hb : (E != 0) = true := by simpa using hE0
      clear hE0
      obtain ⟨r0, r1, r2, s0, s1, s2⟩ := HI4.out.rcells
      go_wp2
      obtain ⟨z1, z2, _, _⟩ := set3 HI4.out.below HI4.out.res (by omega : w.heap.size ≤ w.heap.size + 1) (.slice none 0 0) (.slice none 0 0) (.slice none 0 0)
      generalize ((((w3.alloc (.cells #[.slice A' n' c', .slice G' ng' cg', .slice K' nb' cb'] 53)).setCell ⟨w.heap.size + 1, 0, none⟩ (.slice none 0 0)).setCell ⟨w.heap.size + 1, 1, none⟩ (.slice none 0 0)).setCell ⟨w.heap.size + 1, 2, none⟩ (.slice none 0 0)) = W5 at *
      have x0 : W5.cell? ⟨w.heap.size + 1, 0, none⟩ = some (.slice none 0 0) := z2.cell 0
      have x1 : W5.cell? ⟨w.heap.size + 1, 1, none⟩ = some (.slice none 0 0) := z2.cell 1
      have x2 : W5.cell? ⟨w.heap.size + 1, 2, none⟩ = some (.slice none 0 0) := z2.cell 2
      refine bodyPost_ret (v := .tuple #[.agg #[.slice none 0 0, .slice none 0 0, .slice none 0 0], .int .i64 E]) (by simp [results, Try.results7, go_sem, x0, x1, x2]) rfl ⟨none, 0, 0, none, 0, 0, none, 0, 0, by rw [HEE.out], z1, by rw [HYT.out]; exact AgesR.zero⟩
  · have HE := Lib.hid (yWrE_bad (a := a) (r := r) (z := z) h0)
    have HT := Lib.hid (yWrT_bad (zs := zs) (g := g) (b := b) (a := a) (r := r) (z := z) (by rw [HE.out]; exact h0))
    obtain ⟨E, hE⟩ : ∃ E, agesE zs g b = E := ⟨_, rfl⟩
    rw [hE] at h0 HE ⊢
    clear hE HSW HCL HCG HHG
    have hb : (E != 0) = true := by simpa using h0
    clear h0
    obtain ⟨r0, r1, r2, s0, s1, s2⟩ := HI2.out.rcells
    go_wp2
    obtain ⟨z1, z2, _, _⟩ := set3 HI2.out.below HI2.out.res (by omega : w.heap.size ≤ w.heap.size + 1) (.slice none 0 0) (.slice none 0 0) (.slice none 0 0)
    generalize (((w2.setCell ⟨w.heap.size + 1, 0, none⟩ (.slice none 0 0)).setCell ⟨w.heap.size + 1, 1, none⟩ (.slice none 0 0)).setCell ⟨w.heap.size + 1, 2, none⟩ (.slice none 0 0)) = W5 at *
    have x0 : W5.cell? ⟨w.heap.size + 1, 0, none⟩ = some (.slice none 0 0) := z2.cell 0
    have x1 : W5.cell? ⟨w.heap.size + 1, 1, none⟩ = some (.slice none 0 0) := z2.cell 1
    have x2 : W5.cell? ⟨w.heap.size + 1, 2, none⟩ = some (.slice none 0 0) := z2.cell 2
    refine bodyPost_ret (v := .tuple #[.agg #[.slice none 0 0, .slice none 0 0, .slice none 0 0], .int .i64 E]) (by simp [results, Try.results7, go_sem, x0, x1, x2]) rfl ⟨none, 0, 0, none, 0, 0, none, 0, 0, by rw [HE.out], z1, by rw [HT.out]; exact AgesR.zero⟩
end Go.Proofs.Ythdnfocemchgjaa
