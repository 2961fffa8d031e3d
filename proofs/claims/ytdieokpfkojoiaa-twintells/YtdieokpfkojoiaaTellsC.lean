/-
  TwinTells: halves that are not right.
-/
import Derived.Test.YtdieokpfkojoiaaTellsB
namespace Go.Proofs.Ytdieokpfkojoiaa
open Go.RowKit

set_option maxRecDepth 100000 in
set_option maxHeartbeats 40000000 in
theorem tells_bad (o : Int) (A : Option Addr) (n c : Nat) (l : List Room) (ord m at_ : Int) (w : World) (hH : HalvesIn w A n c l) (hbad : hErr o l ≠ 0) :
    Calls Try.prog 3 #[.agg #[.int .i64 o, .slice A n c], .int .i64 ord, .int .i64 m, .int .i64 at_] w fun e w' => e = .returned (.bool true) ∧ Below w.heap.size w w' := by
  obtain ⟨hnc, hR⟩ := hH
  have hs1 : (w.alloc (.cells #[.int .i64 o, .slice A n c] 24)).heap.size = w.heap.size + 1 := by simp
  have b0 := ((Below.refl _ w).alloc (Nat.le_refl _) (.cells #[.int .i64 o, .slice A n c] 24)).alloc (by omega) (.cells #[.int .i64 m] 3)
  have x4 := (Box.new w 24 #[.int .i64 o, .slice A n c]).alloc (.cells #[.int .i64 m] 3)
  have x6 := Box.new (w.alloc (.cells #[.int .i64 o, .slice A n c] 24)) 3 #[.int .i64 m]
  rw [hs1] at x6
  have HN := Lib.hid (newH_any ord ((w.alloc (.cells #[.int .i64 o, .slice A n c] 24)).alloc (.cells #[.int .i64 m] 3)))
  have HB0 := Lib.hid b0
  have X4 := Lib.hid x4
  have X6 := Lib.hid x6
  have HR := Lib.hid hR
  have hNO1 := newO_out (x := ord)
  have hNO2 := newO_in (x := ord)
  have HNO1 := Lib.hid hNO1
  have HNO2 := Lib.hid hNO2
  clear b0 x4 x6 hs1 hR hNO1 hNO2
  generalize newO ord = X9 at *
  generalize hErr ord [] = E1 at *
  go_enter Try.func3, Try.ntmps3
  go_wp2_with fail
  refine HN.out.mono ?_
  rintro e w1 ⟨rfl, hb1⟩
  have a1 := (Below.refl _ w1).alloc (Nat.le_refl _) (.cells #[.int .i64 X9, .slice none 0 0] 24)
  have hbv := hb1.trans (a1.mono hb1.size)
  have y4 := X4.out.below hbv X4.out.lt
  have y6 := X6.out.below hbv X6.out.lt
  have y9 := Box.new w1 24 #[.int .i64 X9, .slice none 0 0]
  have hb := HB0.out.trans (hbv.mono HB0.out.size)
  have HT := Lib.hid (takeH_any o A n c l m _ hnc (HR.out.below hb))
  unfold TakePH at HT
  have c0 : (w1.alloc (.cells #[.int .i64 X9, .slice none 0 0] 24)).cell? ⟨w.heap.size, 0, none⟩ = some (.int .i64 o) := y4.cell 0
  have c1 : (w1.alloc (.cells #[.int .i64 X9, .slice none 0 0] 24)).cell? ⟨w.heap.size, 1, none⟩ = some (.slice A n c) := y4.cell 1
  have c6 : (w1.alloc (.cells #[.int .i64 X9, .slice none 0 0] 24)).cell? ⟨w.heap.size + 1, 0, none⟩ = some (.int .i64 m) := y6.cell 0
  have HB1 := Lib.hid hb
  have Y4 := Lib.hid y4
  have Y6 := Lib.hid y6
  have Y9 := Lib.hid y9
  clear a1 hbv hb hb1 y4 y6 y9 HN X4 X6 HB0
  obtain ⟨O11, hO11⟩ : ∃ L, takeO o l m = L := ⟨_, rfl⟩
  obtain ⟨A12, hA12⟩ : ∃ L, takeA o l m = L := ⟨_, rfl⟩
  obtain ⟨B12, hB12⟩ : ∃ L, takeB o l m = L := ⟨_, rfl⟩
  rw [hO11, hA12, hB12] at HT
  have HO11 := Lib.hid hO11
  have HA12 := Lib.hid hA12
  have HB12 := Lib.hid hB12
  clear hO11 hA12 hB12
  obtain ⟨L11, hL11⟩ : ∃ L, takeLH o l m = L := ⟨_, rfl⟩
  rw [hL11] at HT
  have HL11 := Lib.hid hL11
  obtain ⟨TE, hTE⟩ : ∃ L, takeE o l m = L := ⟨_, rfl⟩
  rw [hTE] at HT
  have HTE := Lib.hid hTE
  clear hL11 hTE
  go_wp2_with fail
  refine HT.out.mono ?_
  rintro e w2 ⟨v, rfl, hO, hb2⟩
  obtain ⟨A11, c11, rfl, _, hA11⟩ := hO.arr roomC_len
  have a1 := (Below.refl _ w2).alloc (Nat.le_refl _) (.cells #[.int .i64 O11, .slice A11 L11.length c11] 24)
  have hsa : (w2.alloc (.cells #[.int .i64 O11, .slice A11 L11.length c11] 24)).heap.size = w2.heap.size + 1 := by simp
  have a2 := a1.alloc (by omega) (.cells #[.int .i64 A12, .int .i64 B12] 29)
  have z11 := (Box.new w2 24 #[.int .i64 O11, .slice A11 L11.length c11]).alloc (.cells #[.int .i64 A12, .int .i64 B12] 29)
  have z12 := Box.new (w2.alloc (.cells #[.int .i64 O11, .slice A11 L11.length c11] 24)) 29 #[.int .i64 A12, .int .i64 B12]
  rw [hsa] at z12
  have hbv := hb2.trans (a2.mono hb2.size)
  have z4 := Y4.out.below hbv Y4.out.lt
  have z6 := Y6.out.below hbv Y6.out.lt
  have z9 := Y9.out.below hbv Y9.out.lt
  have q11 := (hA11.below a2 (Nat.le_refl _)).more a2.size
  have hb := HB1.out.trans (hbv.mono HB1.out.size)
  have HG := Lib.hid (give_any o A n c l at_ _ hnc (HR.out.below hb))
  unfold GiveP at HG
  clear c0 c1 c6
  have c0 : ((w2.alloc (.cells #[.int .i64 O11, .slice A11 L11.length c11] 24)).alloc (.cells #[.int .i64 A12, .int .i64 B12] 29)).cell? ⟨w.heap.size, 0, none⟩ = some (.int .i64 o) := z4.cell 0
  have c1 : ((w2.alloc (.cells #[.int .i64 O11, .slice A11 L11.length c11] 24)).alloc (.cells #[.int .i64 A12, .int .i64 B12] 29)).cell? ⟨w.heap.size, 1, none⟩ = some (.slice A n c) := z4.cell 1
  have HB2 := Lib.hid hb
  have Z4 := Lib.hid z4
  have Z6 := Lib.hid z6
  have Z9 := Lib.hid z9
  have Z11 := Lib.hid z11
  have Z12 := Lib.hid z12
  have Q11 := Lib.hid q11
  clear a1 a2 hsa hbv hb hb2 z4 z6 z9 z11 z12 q11 HT Y4 Y6 Y9 HB1 hA11 hO
  generalize L11.length = N11 at *
  obtain ⟨O14, hO14⟩ : ∃ L, giveO o l at_ = L := ⟨_, rfl⟩
  rw [hO14] at HG
  have HO14 := Lib.hid hO14
  clear hO14
  obtain ⟨L14, hL14⟩ : ∃ L, giveL o l at_ = L := ⟨_, rfl⟩
  rw [hL14] at HG
  have HL14 := Lib.hid hL14
  obtain ⟨GE, hGE⟩ : ∃ L, giveE o l at_ = L := ⟨_, rfl⟩
  rw [hGE] at HG
  have HGE := Lib.hid hGE
  clear hL14 hGE
  go_wp2_with fail
  generalize ((w2.alloc (.cells #[.int .i64 O11, .slice A11 N11 c11] 24)).alloc (.cells #[.int .i64 A12, .int .i64 B12] 29)) = W2 at *
  refine HG.out.mono ?_
  rintro e w3 ⟨v, rfl, hO, hb3⟩
  obtain ⟨A14, c14, rfl, _, hA14⟩ := hO.arr roomC_len
  have a1 := (Below.refl _ w3).alloc (Nat.le_refl _) (.cells #[.int .i64 O14, .slice A14 L14.length c14] 24)
  have y14 := Box.new w3 24 #[.int .i64 O14, .slice A14 L14.length c14]
  have hbv := hb3.trans (a1.mono hb3.size)
  have y4 := Z4.out.below hbv Z4.out.lt
  have y6 := Z6.out.below hbv Z6.out.lt
  have y9 := Z9.out.below hbv Z9.out.lt
  have y11 := Z11.out.below hbv Z11.out.lt
  have y12 := Z12.out.below hbv Z12.out.lt
  have q11 := (Q11.out.below hbv (Nat.le_refl _)).more hbv.size
  have q14 := (hA14.below a1 (Nat.le_refl _)).more a1.size
  have hb := HB2.out.trans (hbv.mono HB2.out.size)
  have HP := Lib.hid (gapsT_any o A n c l _ (HR.out.below hb))
  unfold GapsP at HP
  clear c0 c1
  have c0 : (w3.alloc (.cells #[.int .i64 O14, .slice A14 L14.length c14] 24)).cell? ⟨w.heap.size, 0, none⟩ = some (.int .i64 o) := y4.cell 0
  have c1 : (w3.alloc (.cells #[.int .i64 O14, .slice A14 L14.length c14] 24)).cell? ⟨w.heap.size, 1, none⟩ = some (.slice A n c) := y4.cell 1
  have HB3 := Lib.hid hb
  have Y4 := Lib.hid y4
  have Y6 := Lib.hid y6
  have Y9 := Lib.hid y9
  have Y11 := Lib.hid y11
  have Y12 := Lib.hid y12
  have Y14 := Lib.hid y14
  have P11 := Lib.hid q11
  have P14 := Lib.hid q14
  clear a1 hbv hb hb3 y4 y6 y9 y11 y12 y14 q11 q14 HG Z4 Z6 Z9 Z11 Z12 Q11 HB2 hA14 hO
  generalize L14.length = N14 at *
  obtain ⟨L16, hL16⟩ : ∃ L, gapsH o l = L := ⟨_, rfl⟩
  rw [hL16] at HP
  have HL16 := Lib.hid hL16
  obtain ⟨E, hE⟩ : ∃ L, hErr o l = L := ⟨_, rfl⟩
  rw [hE] at HP
  have HE := Lib.hid hE
  clear hL16 hE
  go_wp2_with fail
  generalize (w3.alloc (.cells #[.int .i64 O14, .slice A14 N14 c14] 24)) = W3 at *
  refine HP.out.mono ?_
  rintro e w4 ⟨v, rfl, hO, hb4⟩
  obtain ⟨A16, c16, rfl, _, hA16⟩ := hO.arr runC_len
  have y4 := Y4.out.below hb4 Y4.out.lt
  have hb := HB3.out.trans (hb4.mono HB3.out.size)
  have HW := Lib.hid (waste_any o A n c l _ (HR.out.below hb))
  rw [HE.out] at HW
  clear c0 c1
  have c0 : w4.cell? ⟨w.heap.size, 0, none⟩ = some (.int .i64 o) := y4.cell 0
  have c1 : w4.cell? ⟨w.heap.size, 1, none⟩ = some (.slice A n c) := y4.cell 1
  have HB4 := Lib.hid hb
  have HB34 := Lib.hid hb4
  have R16 := Lib.hid hA16
  obtain ⟨WS, hWS⟩ : ∃ L, wasteH o l = L := ⟨_, rfl⟩
  rw [hWS] at HW
  have HWS := Lib.hid hWS
  clear hWS hb hb4 y4 HP hA16 hO
  obtain ⟨N16, hN16⟩ : ∃ L, L16.length = L := ⟨_, rfl⟩
  have HN16 := Lib.hid hN16
  rw [hN16] at R16 ⊢
  clear hN16
  go_wp2_with fail
  refine HW.out.mono ?_
  rintro e w5 ⟨rfl, hb5⟩
  have a1 := (Below.refl _ w5).alloc (Nat.le_refl _) (.cells #[.int .i64 0, .slice none 0 0] 24)
  have y20 := Box.new w5 24 #[.int .i64 0, .slice none 0 0]
  have hbu := hb5.trans (a1.mono hb5.size)
  have hbv := HB34.out.trans (hbu.mono HB34.out.size)
  have hTB : TBx A n c o m X9 O11 A12 B12 O14 A11 A14 A16 N11 c11 N14 c14 N16 l L11 L14 L16 w.heap.size w1.heap.size w2.heap.size w3.heap.size w5.heap.size (w5.alloc (.cells #[.int .i64 0, .slice none 0 0] 24)) :=
    ⟨Y4.out.below hbv Y4.out.lt, Y6.out.below hbv Y6.out.lt, Y9.out.below hbv Y9.out.lt, Y11.out.below hbv Y11.out.lt, Y12.out.below hbv Y12.out.lt, Y14.out.below hbv Y14.out.lt, y20,
      (HR.out.below (HB4.out.trans (hbu.mono HB4.out.size))).2.1, (P11.out.below hbv (Nat.le_refl _)).more hbv.size, (P14.out.below hbv (Nat.le_refl _)).more hbv.size, (R16.out.below hbu (Nat.le_refl _)).more hbu.size⟩
  have HTB := Lib.hid hTB
  have HBB := Lib.hid (HB4.out.trans (hbu.mono HB4.out.size))
  clear a1 y20 hbu hbv hTB c0 c1 hb5 HW Y4 Y6 Y9 Y11 Y12 Y14 P11 P14 R16 HB3 HB4 HB34
  have hHF := fun wx hwx => halvesFault_any o A n c l wx (HR.out.below hwx)
  have hHC := fun wx hwx => checkH_any o A n c l wx (HR.out.below hwx)
  rw [HE.out] at hHF hHC
  have HHF := Lib.hid hHF
  have HHC := Lib.hid hHC
  clear hHF hHC
  go_upto_region 7 with fail
  generalize (w5.alloc (.cells #[.int .i64 0, .slice none 0 0] 24)) = W5 at *
  generalize w1.heap.size = G9 at *
  generalize w2.heap.size = G11 at *
  generalize w3.heap.size = G14 at *
  generalize w5.heap.size = G20 at *
  go_cut [71] (fun s wx => s = .bool (decide (ord < 0 ∨ 8 < ord)) ∧ W5 = wx)
  case first => as_aux_lemma =>
    clear HTB HBB HHF HHC HL11 HL14 HL16 HR
    by_cases h1 : ord < 0
    · have e : Hid (decide (ord < 0 ∨ 8 < ord) = true) := by show _ = _; simp [h1]
      go_wp2_with fail
      go_meet
      exact ⟨by rw [e.out], rfl⟩
    · by_cases h2 : 8 < ord
      · have e : Hid (decide (ord < 0 ∨ 8 < ord) = true) := by show _ = _; simp [h2]
        go_wp2_with fail
        go_meet
        exact ⟨by rw [e.out], rfl⟩
      · have e : Hid (decide (ord < 0 ∨ 8 < ord) = false) := by show _ = _; simp [h1, h2]
        go_wp2_with fail
        go_meet
        exact ⟨by rw [e.out], rfl⟩
  case rest => as_aux_lemma =>
    obtain ⟨rfl, rfl⟩ := hcut
    go_upto_if 71 with (fail)
    go_cut [8] (fun s wx => s = .bool false ∧ Below W5.heap.size W5 wx)
    case first => as_aux_lemma =>
      have c9a : W5.cell? ⟨G9, 0, none⟩ = some (.int .i64 X9) := HTB.out.b9.cell 0
      have c9b : W5.cell? ⟨G9, 1, none⟩ = some (.slice none 0 0) := HTB.out.b9.cell 1
      have c20a : W5.cell? ⟨G20, 0, none⟩ = some (.int .i64 0) := HTB.out.b20.cell 0
      have c20b : W5.cell? ⟨G20, 1, none⟩ = some (.slice none 0 0) := HTB.out.b20.cell 1
      have HSm := Lib.hid (fun x => sameHalves_same x none none 0 0 0 [] W5 ArrG.zero ArrG.zero (Nat.zero_le _))
      clear HTB HBB HHF HHC HL11 HL14 HL16 HR
      by_cases h1 : ord < 0 ∨ 8 < ord
      · obtain ⟨e1, e2⟩ := HNO1.out h1
        subst e1 e2
        rw [decide_eq_true h1]
        go_wp2_with fail
        refine (HSm.out 0).mono ?_
        rintro e w' ⟨rfl, hb⟩
        have HBq := Lib.hid hb
        clear hb HSm c9a c9b c20a c20b
        go_wp2_with fail
        go_meet
        exact ⟨rfl, HBq.out⟩
      · obtain ⟨e1, e2⟩ := HNO2.out h1
        obtain rfl : X9 = ord := e1
        subst e2
        rw [decide_eq_false h1]
        go_wp2_with fail
        refine (HSm.out X9).mono ?_
        rintro e w' ⟨rfl, hb⟩
        have HBq := Lib.hid hb
        clear hb HSm c9a c9b c20a c20b
        go_wp2_with fail
        go_meet
        exact ⟨rfl, HBq.out⟩
    case rest => as_aux_lemma =>
      obtain ⟨rfl, hbc⟩ := hcut
      have HTC := Lib.hid (HTB.out.below hbc)
      have HBC := Lib.hid (HBB.out.trans (hbc.mono HBB.out.size))
      clear HTB HBB hbc HNO1 HNO2
      have c0 : wc.cell? ⟨w.heap.size, 0, none⟩ = some (.int .i64 o) := HTC.out.b4.cell 0
      have c1 : wc.cell? ⟨w.heap.size, 1, none⟩ = some (.slice A n c) := HTC.out.b4.cell 1
      have HQ1 := Lib.hid (HHF.out wc HBC.out)
      clear HHF
      go_wp2_with fail
      refine HQ1.out.mono ?_
      rintro e w6 ⟨rfl, hb6⟩
      have HTD := Lib.hid (HTC.out.below hb6)
      have HBD := Lib.hid (HBC.out.trans (hb6.mono HBC.out.size))
      clear HTC HBC hb6 c0 c1 HQ1
      have c0 : w6.cell? ⟨w.heap.size, 0, none⟩ = some (.int .i64 o) := HTD.out.b4.cell 0
      have c1 : w6.cell? ⟨w.heap.size, 1, none⟩ = some (.slice A n c) := HTD.out.b4.cell 1
      have HQ1 := Lib.hid (HHC.out w6 HBD.out)
      clear HHC
      go_wp2_with fail
      refine HQ1.out.mono ?_
      rintro e w7 ⟨rfl, hb7⟩
      have HTE7 := Lib.hid (HTD.out.below hb7)
      have HBE7 := Lib.hid (HBD.out.trans (hb7.mono HBD.out.size))
      clear HTD HBD hb7 c0 c1 HQ1
      have hEE : (E != E) = false := by simp
      have hE0 : E ≠ 0 := by rw [← HE.out]; exact hbad
      have hne : (E != 0) = true := by simpa using hE0
      have heq : (E == E) = true := by simp
      have hTE1 : TE = E := by rw [← HTE.out, ← HE.out]; unfold takeE; rw [if_neg hbad]
      have hGE1 : GE = E := by rw [← HGE.out, ← HE.out]; unfold giveE; rw [if_neg hbad]
      have hWS1 : WS = 0 := by rw [← HWS.out]; unfold wasteH; rw [if_neg hbad]
      obtain ⟨u1, u2, u3, u4⟩ := take_none (o := o) (l := l) (n := m) (by rw [HTE.out, hTE1]; exact hE0)
      rw [HO11.out] at u1
      rw [HA12.out] at u2
      rw [HB12.out] at u3
      rw [HL11.out] at u4
      have hO14 : O14 = 0 := by rw [← HO14.out]; unfold giveO; rw [HGE.out, hGE1, if_neg hE0]
      have hL14 : L14 = [] := by rw [← HL14.out]; unfold giveL; rw [HGE.out, hGE1, if_neg hE0]
      have hL16 : L16 = [] := by rw [← HL16.out]; unfold gapsH; rw [if_neg hbad]
      have n11 : N11 = 0 := by rw [← HTE7.out.r11.1, u4]; rfl
      have n14 : N14 = 0 := by rw [← HTE7.out.r14.1, hL14]; rfl
      have n16 : N16 = 0 := by rw [← HTE7.out.r16.1, hL16]; rfl
      clear HTE HGE HWS HO11 HA12 HB12 HL11 HO14 HL14 HL16 HN16 HE HR hbad hE0
      obtain rfl : E = TE := hTE1.symm
      obtain rfl : E = GE := hGE1.symm
      subst hWS1 u1 u2 u3 u4 hO14 hL14 hL16 n11 n14 n16
      have HS1 := Lib.hid (sameHalves_same 0 A11 none 0 c11 0 [] w7 HTE7.out.r11 ArrG.zero (Nat.zero_le _))
      have d1 : w7.cell? ⟨G11, 0, none⟩ = some (.int .i64 0) := HTE7.out.b11.cell 0
      have d2 : w7.cell? ⟨G11, 1, none⟩ = some (.slice A11 0 c11) := HTE7.out.b11.cell 1
      have d3 : w7.cell? ⟨G20, 0, none⟩ = some (.int .i64 0) := HTE7.out.b20.cell 0
      have d4 : w7.cell? ⟨G20, 1, none⟩ = some (.slice none 0 0) := HTE7.out.b20.cell 1
      go_wp2_with fail
      refine HS1.out.mono ?_
      rintro e w8 ⟨rfl, hb8⟩
      have HT8 := Lib.hid (HTE7.out.below hb8)
      have HB8 := Lib.hid (HBE7.out.trans (hb8.mono HBE7.out.size))
      clear HTE7 HBE7 hb8 d1 d2 d3 d4 HS1
      have d1 : w8.cell? ⟨G11 + 1, 0, none⟩ = some (.int .i64 0) := HT8.out.b12.cell 0
      have d2 : w8.cell? ⟨G11 + 1, 1, none⟩ = some (.int .i64 0) := HT8.out.b12.cell 1
      have d3 : w8.cell? ⟨G14, 0, none⟩ = some (.int .i64 0) := HT8.out.b14.cell 0
      have d4 : w8.cell? ⟨G14, 1, none⟩ = some (.slice A14 0 c14) := HT8.out.b14.cell 1
      have d5 : w8.cell? ⟨G20, 0, none⟩ = some (.int .i64 0) := HT8.out.b20.cell 0
      have d6 : w8.cell? ⟨G20, 1, none⟩ = some (.slice none 0 0) := HT8.out.b20.cell 1
      have HS2 := Lib.hid (sameHalves_same 0 A14 none 0 c14 0 [] w8 HT8.out.r14 ArrG.zero (Nat.zero_le _))
      clear HT8
      go_wp2_with fail
      refine HS2.out.mono ?_
      rintro e w9 ⟨rfl, hb9⟩
      have HB9 := Lib.hid (HB8.out.trans (hb9.mono HB8.out.size))
      clear HB8 hb9 d1 d2 d3 d4 d5 d6 HS2
      go_wp2
      go_ret
      exact ⟨rfl, HB9.out⟩
end Go.Proofs.Ytdieokpfkojoiaa
