/-
  TwinTells: a number that is out of range.
-/
import Derived.Test.YtdieokpfkojoiaaTellsM
namespace Go.Proofs.Ytdieokpfkojoiaa
open Go.RowKit

set_option maxRecDepth 100000 in
set_option maxHeartbeats 40000000 in
theorem tells_range (o : Int) (A : Option Addr) (n c : Nat) (l : List Room) (ord m at_ : Int) (w : World) (hH : HalvesIn w A n c l) (k : Nat) (ho : o = k) (hrt : Right k l) (hm : m < 1 ∨ (pw k : Int) < m) :
    Calls Try.prog 3 #[.agg #[.int .i64 o, .slice A n c], .int .i64 ord, .int .i64 m, .int .i64 at_] w fun e w' => e = .returned (.bool true) ∧ Below w.heap.size w w' := by
  have HHO := Lib.hid ho
  have HHR := Lib.hid hrt
  have HM := Lib.hid hm
  clear ho hrt hm
  obtain ⟨hnc, hR⟩ := hH
  have hs1 : (w.alloc (.cells #[.int .i64 o, .slice A n c] 24)).heap.size = w.heap.size + 1 := by simp
  have b0 := ((Below.refl _ w).alloc (Nat.le_refl _) (.cells #[.int .i64 o, .slice A n c] 24)).alloc (by omega) (.cells #[.int .i64 m] 3)
  have x4 := (Box.new w 24 #[.int .i64 o, .slice A n c]).alloc (.cells #[.int .i64 m] 3)
  have x6 := Box.new (w.alloc (.cells #[.int .i64 o, .slice A n c] 24)) 3 #[.int .i64 m]
  rw [hs1] at x6
  have HN := Lib.hid (newH_any ord ((w.alloc (.cells #[.int .i64 o, .slice A n c] 24)).alloc (.cells #[.int .i64 m] 3)))
  have HB0 := Lib.hid b0
  have X4 := Lib.hid x4
  have X6 := Lib.hid x6
  have HR := Lib.hid hR
  have hNO1 := newO_out (x := ord)
  have hNO2 := newO_in (x := ord)
  have HNO1 := Lib.hid hNO1
  have HNO2 := Lib.hid hNO2
  clear b0 x4 x6 hs1 hR hNO1 hNO2
  generalize newO ord = X9 at *
  generalize hErr ord [] = E1 at *
  go_enter Try.func3, Try.ntmps3
  go_wp2_with fail
  refine HN.out.mono ?_
  rintro e w1 ⟨rfl, hb1⟩
  have a1 := (Below.refl _ w1).alloc (Nat.le_refl _) (.cells #[.int .i64 X9, .slice none 0 0] 24)
  have hbv := hb1.trans (a1.mono hb1.size)
  have y4 := X4.out.below hbv X4.out.lt
  have y6 := X6.out.below hbv X6.out.lt
  have y9 := Box.new w1 24 #[.int .i64 X9, .slice none 0 0]
  have hb := HB0.out.trans (hbv.mono HB0.out.size)
  have HT := Lib.hid (takeH_any o A n c l m _ hnc (HR.out.below hb))
  unfold TakePH at HT
  have c0 : (w1.alloc (.cells #[.int .i64 X9, .slice none 0 0] 24)).cell? ⟨w.heap.size, 0, none⟩ = some (.int .i64 o) := y4.cell 0
  have c1 : (w1.alloc (.cells #[.int .i64 X9, .slice none 0 0] 24)).cell? ⟨w.heap.size, 1, none⟩ = some (.slice A n c) := y4.cell 1
  have c6 : (w1.alloc (.cells #[.int .i64 X9, .slice none 0 0] 24)).cell? ⟨w.heap.size + 1, 0, none⟩ = some (.int .i64 m) := y6.cell 0
  have HB1 := Lib.hid hb
  have Y4 := Lib.hid y4
  have Y6 := Lib.hid y6
  have Y9 := Lib.hid y9
  clear a1 hbv hb hb1 y4 y6 y9 HN X4 X6 HB0
  obtain ⟨O11, hO11⟩ : ∃ L, takeO o l m = L := ⟨_, rfl⟩
  obtain ⟨A12, hA12⟩ : ∃ L, takeA o l m = L := ⟨_, rfl⟩
  obtain ⟨B12, hB12⟩ : ∃ L, takeB o l m = L := ⟨_, rfl⟩
  rw [hO11, hA12, hB12] at HT
  have HO11 := Lib.hid hO11
  have HA12 := Lib.hid hA12
  have HB12 := Lib.hid hB12
  clear hO11 hA12 hB12
  obtain ⟨L11, hL11⟩ : ∃ L, takeLH o l m = L := ⟨_, rfl⟩
  rw [hL11] at HT
  have HL11 := Lib.hid hL11
  obtain ⟨TE, hTE⟩ : ∃ L, takeE o l m = L := ⟨_, rfl⟩
  rw [hTE] at HT
  have HTE := Lib.hid hTE
  clear hL11 hTE
  go_wp2_with fail
  refine HT.out.mono ?_
  rintro e w2 ⟨v, rfl, hO, hb2⟩
  obtain ⟨A11, c11, rfl, _, hA11⟩ := hO.arr roomC_len
  have a1 := (Below.refl _ w2).alloc (Nat.le_refl _) (.cells #[.int .i64 O11, .slice A11 L11.length c11] 24)
  have hsa : (w2.alloc (.cells #[.int .i64 O11, .slice A11 L11.length c11] 24)).heap.size = w2.heap.size + 1 := by simp
  have a2 := a1.alloc (by omega) (.cells #[.int .i64 A12, .int .i64 B12] 29)
  have z11 := (Box.new w2 24 #[.int .i64 O11, .slice A11 L11.length c11]).alloc (.cells #[.int .i64 A12, .int .i64 B12] 29)
  have z12 := Box.new (w2.alloc (.cells #[.int .i64 O11, .slice A11 L11.length c11] 24)) 29 #[.int .i64 A12, .int .i64 B12]
  rw [hsa] at z12
  have hbv := hb2.trans (a2.mono hb2.size)
  have z4 := Y4.out.below hbv Y4.out.lt
  have z6 := Y6.out.below hbv Y6.out.lt
  have z9 := Y9.out.below hbv Y9.out.lt
  have q11 := (hA11.below a2 (Nat.le_refl _)).more a2.size
  have hb := HB1.out.trans (hbv.mono HB1.out.size)
  have HG := Lib.hid (give_any o A n c l at_ _ hnc (HR.out.below hb))
  unfold GiveP at HG
  clear c0 c1 c6
  have c0 : ((w2.alloc (.cells #[.int .i64 O11, .slice A11 L11.length c11] 24)).alloc (.cells #[.int .i64 A12, .int .i64 B12] 29)).cell? ⟨w.heap.size, 0, none⟩ = some (.int .i64 o) := z4.cell 0
  have c1 : ((w2.alloc (.cells #[.int .i64 O11, .slice A11 L11.length c11] 24)).alloc (.cells #[.int .i64 A12, .int .i64 B12] 29)).cell? ⟨w.heap.size, 1, none⟩ = some (.slice A n c) := z4.cell 1
  have HB2 := Lib.hid hb
  have Z4 := Lib.hid z4
  have Z6 := Lib.hid z6
  have Z9 := Lib.hid z9
  have Z11 := Lib.hid z11
  have Z12 := Lib.hid z12
  have Q11 := Lib.hid q11
  clear a1 a2 hsa hbv hb hb2 z4 z6 z9 z11 z12 q11 HT Y4 Y6 Y9 HB1 hA11 hO
  generalize L11.length = N11 at *
  obtain ⟨O14, hO14⟩ : ∃ L, giveO o l at_ = L := ⟨_, rfl⟩
  rw [hO14] at HG
  have HO14 := Lib.hid hO14
  clear hO14
  obtain ⟨L14, hL14⟩ : ∃ L, giveL o l at_ = L := ⟨_, rfl⟩
  rw [hL14] at HG
  have HL14 := Lib.hid hL14
  obtain ⟨GE, hGE⟩ : ∃ L, giveE o l at_ = L := ⟨_, rfl⟩
  rw [hGE] at HG
  have HGE := Lib.hid hGE
  clear hL14 hGE
  go_wp2_with fail
  generalize ((w2.alloc (.cells #[.int .i64 O11, .slice A11 N11 c11] 24)).alloc (.cells #[.int .i64 A12, .int .i64 B12] 29)) = W2 at *
  refine HG.out.mono ?_
  rintro e w3 ⟨v, rfl, hO, hb3⟩
  obtain ⟨A14, c14, rfl, _, hA14⟩ := hO.arr roomC_len
  have a1 := (Below.refl _ w3).alloc (Nat.le_refl _) (.cells #[.int .i64 O14, .slice A14 L14.length c14] 24)
  have y14 := Box.new w3 24 #[.int .i64 O14, .slice A14 L14.length c14]
  have hbv := hb3.trans (a1.mono hb3.size)
  have y4 := Z4.out.below hbv Z4.out.lt
  have y6 := Z6.out.below hbv Z6.out.lt
  have y9 := Z9.out.below hbv Z9.out.lt
  have y11 := Z11.out.below hbv Z11.out.lt
  have y12 := Z12.out.below hbv Z12.out.lt
  have q11 := (Q11.out.below hbv (Nat.le_refl _)).more hbv.size
  have q14 := (hA14.below a1 (Nat.le_refl _)).more a1.size
  have hb := HB2.out.trans (hbv.mono HB2.out.size)
  have HP := Lib.hid (gapsT_any o A n c l _ (HR.out.below hb))
  unfold GapsP at HP
  clear c0 c1
  have c0 : (w3.alloc (.cells #[.int .i64 O14, .slice A14 L14.length c14] 24)).cell? ⟨w.heap.size, 0, none⟩ = some (.int .i64 o) := y4.cell 0
  have c1 : (w3.alloc (.cells #[.int .i64 O14, .slice A14 L14.length c14] 24)).cell? ⟨w.heap.size, 1, none⟩ = some (.slice A n c) := y4.cell 1
  have HB3 := Lib.hid hb
  have Y4 := Lib.hid y4
  have Y6 := Lib.hid y6
  have Y9 := Lib.hid y9
  have Y11 := Lib.hid y11
  have Y12 := Lib.hid y12
  have Y14 := Lib.hid y14
  have P11 := Lib.hid q11
  have P14 := Lib.hid q14
  clear a1 hbv hb hb3 y4 y6 y9 y11 y12 y14 q11 q14 HG Z4 Z6 Z9 Z11 Z12 Q11 HB2 hA14 hO
  generalize L14.length = N14 at *
  obtain ⟨L16, hL16⟩ : ∃ L, gapsH o l = L := ⟨_, rfl⟩
  rw [hL16] at HP
  have HL16 := Lib.hid hL16
  obtain ⟨E, hE⟩ : ∃ L, hErr o l = L := ⟨_, rfl⟩
  rw [hE] at HP
  have HE := Lib.hid hE
  clear hL16 hE
  go_wp2_with fail
  generalize (w3.alloc (.cells #[.int .i64 O14, .slice A14 N14 c14] 24)) = W3 at *
  refine HP.out.mono ?_
  rintro e w4 ⟨v, rfl, hO, hb4⟩
  obtain ⟨A16, c16, rfl, _, hA16⟩ := hO.arr runC_len
  have y4 := Y4.out.below hb4 Y4.out.lt
  have hb := HB3.out.trans (hb4.mono HB3.out.size)
  have HW := Lib.hid (waste_any o A n c l _ (HR.out.below hb))
  rw [HE.out] at HW
  clear c0 c1
  have c0 : w4.cell? ⟨w.heap.size, 0, none⟩ = some (.int .i64 o) := y4.cell 0
  have c1 : w4.cell? ⟨w.heap.size, 1, none⟩ = some (.slice A n c) := y4.cell 1
  have HB4 := Lib.hid hb
  have HB34 := Lib.hid hb4
  have R16 := Lib.hid hA16
  obtain ⟨WS, hWS⟩ : ∃ L, wasteH o l = L := ⟨_, rfl⟩
  rw [hWS] at HW
  have HWS := Lib.hid hWS
  clear hWS hb hb4 y4 HP hA16 hO
  obtain ⟨N16, hN16⟩ : ∃ L, L16.length = L := ⟨_, rfl⟩
  have HN16 := Lib.hid hN16
  rw [hN16] at R16 ⊢
  clear hN16
  go_wp2_with fail
  refine HW.out.mono ?_
  rintro e w5 ⟨rfl, hb5⟩
  have a1 := (Below.refl _ w5).alloc (Nat.le_refl _) (.cells #[.int .i64 0, .slice none 0 0] 24)
  have y20 := Box.new w5 24 #[.int .i64 0, .slice none 0 0]
  have hbu := hb5.trans (a1.mono hb5.size)
  have hbv := HB34.out.trans (hbu.mono HB34.out.size)
  have hTB : TBx A n c o m X9 O11 A12 B12 O14 A11 A14 A16 N11 c11 N14 c14 N16 l L11 L14 L16 w.heap.size w1.heap.size w2.heap.size w3.heap.size w5.heap.size (w5.alloc (.cells #[.int .i64 0, .slice none 0 0] 24)) :=
    ⟨Y4.out.below hbv Y4.out.lt, Y6.out.below hbv Y6.out.lt, Y9.out.below hbv Y9.out.lt, Y11.out.below hbv Y11.out.lt, Y12.out.below hbv Y12.out.lt, Y14.out.below hbv Y14.out.lt, y20,
      (HR.out.below (HB4.out.trans (hbu.mono HB4.out.size))).2.1, (P11.out.below hbv (Nat.le_refl _)).more hbv.size, (P14.out.below hbv (Nat.le_refl _)).more hbv.size, (R16.out.below hbu (Nat.le_refl _)).more hbu.size⟩
  have HTB := Lib.hid hTB
  have HBB := Lib.hid (HB4.out.trans (hbu.mono HB4.out.size))
  clear a1 y20 hbu hbv hTB c0 c1 hb5 HW Y4 Y6 Y9 Y11 Y12 Y14 P11 P14 R16 HB3 HB4 HB34
  have hHF := fun wx hwx => halvesFault_any o A n c l wx (HR.out.below hwx)
  have hHC := fun wx hwx => checkH_any o A n c l wx (HR.out.below hwx)
  rw [HE.out] at hHF hHC
  have HHF := Lib.hid hHF
  have HHC := Lib.hid hHC
  clear hHF hHC
  go_upto_region 7 with fail
  generalize (w5.alloc (.cells #[.int .i64 0, .slice none 0 0] 24)) = W5 at *
  generalize w1.heap.size = G9 at *
  generalize w2.heap.size = G11 at *
  generalize w3.heap.size = G14 at *
  generalize w5.heap.size = G20 at *
  go_cut [71] (fun s wx => s = .bool (decide (ord < 0 ∨ 8 < ord)) ∧ W5 = wx)
  case first => as_aux_lemma =>
    clear HTB HBB HHF HHC HL11 HL14 HL16 HR
    by_cases h1 : ord < 0
    · have e : Hid (decide (ord < 0 ∨ 8 < ord) = true) := by show _ = _; simp [h1]
      go_wp2_with fail
      go_meet
      exact ⟨by rw [e.out], rfl⟩
    · by_cases h2 : 8 < ord
      · have e : Hid (decide (ord < 0 ∨ 8 < ord) = true) := by show _ = _; simp [h2]
        go_wp2_with fail
        go_meet
        exact ⟨by rw [e.out], rfl⟩
      · have e : Hid (decide (ord < 0 ∨ 8 < ord) = false) := by show _ = _; simp [h1, h2]
        go_wp2_with fail
        go_meet
        exact ⟨by rw [e.out], rfl⟩
  case rest => as_aux_lemma =>
    obtain ⟨rfl, rfl⟩ := hcut
    go_upto_if 71 with (fail)
    go_cut [8] (fun s wx => s = .bool false ∧ Below W5.heap.size W5 wx)
    case first => as_aux_lemma =>
      have c9a : W5.cell? ⟨G9, 0, none⟩ = some (.int .i64 X9) := HTB.out.b9.cell 0
      have c9b : W5.cell? ⟨G9, 1, none⟩ = some (.slice none 0 0) := HTB.out.b9.cell 1
      have c20a : W5.cell? ⟨G20, 0, none⟩ = some (.int .i64 0) := HTB.out.b20.cell 0
      have c20b : W5.cell? ⟨G20, 1, none⟩ = some (.slice none 0 0) := HTB.out.b20.cell 1
      have HSm := Lib.hid (fun x => sameHalves_same x none none 0 0 0 [] W5 ArrG.zero ArrG.zero (Nat.zero_le _))
      clear HTB HBB HHF HHC HL11 HL14 HL16 HR
      by_cases h1 : ord < 0 ∨ 8 < ord
      · obtain ⟨e1, e2⟩ := HNO1.out h1
        subst e1 e2
        rw [decide_eq_true h1]
        go_wp2_with fail
        refine (HSm.out 0).mono ?_
        rintro e w' ⟨rfl, hb⟩
        have HBq := Lib.hid hb
        clear hb HSm c9a c9b c20a c20b
        go_wp2_with fail
        go_meet
        exact ⟨rfl, HBq.out⟩
      · obtain ⟨e1, e2⟩ := HNO2.out h1
        obtain rfl : X9 = ord := e1
        subst e2
        rw [decide_eq_false h1]
        go_wp2_with fail
        refine (HSm.out X9).mono ?_
        rintro e w' ⟨rfl, hb⟩
        have HBq := Lib.hid hb
        clear hb HSm c9a c9b c20a c20b
        go_wp2_with fail
        go_meet
        exact ⟨rfl, HBq.out⟩
    case rest => as_aux_lemma =>
      obtain ⟨rfl, hbc⟩ := hcut
      have HTC := Lib.hid (HTB.out.below hbc)
      have HBC := Lib.hid (HBB.out.trans (hbc.mono HBB.out.size))
      clear HTB HBB hbc HNO1 HNO2
      have c0 : wc.cell? ⟨w.heap.size, 0, none⟩ = some (.int .i64 o) := HTC.out.b4.cell 0
      have c1 : wc.cell? ⟨w.heap.size, 1, none⟩ = some (.slice A n c) := HTC.out.b4.cell 1
      have HQ1 := Lib.hid (HHF.out wc HBC.out)
      clear HHF
      go_wp2_with fail
      refine HQ1.out.mono ?_
      rintro e w6 ⟨rfl, hb6⟩
      have HTD := Lib.hid (HTC.out.below hb6)
      have HBD := Lib.hid (HBC.out.trans (hb6.mono HBC.out.size))
      clear HTC HBC hb6 c0 c1 HQ1
      have c0 : w6.cell? ⟨w.heap.size, 0, none⟩ = some (.int .i64 o) := HTD.out.b4.cell 0
      have c1 : w6.cell? ⟨w.heap.size, 1, none⟩ = some (.slice A n c) := HTD.out.b4.cell 1
      have HQ1 := Lib.hid (HHC.out w6 HBD.out)
      clear HHC
      go_wp2_with fail
      refine HQ1.out.mono ?_
      rintro e w7 ⟨rfl, hb7⟩
      have HTE7 := Lib.hid (HTD.out.below hb7)
      have HBE7 := Lib.hid (HBD.out.trans (hb7.mono HBD.out.size))
      clear HTD HBD hb7 c0 c1 HQ1
      have hEE : (E != E) = false := by simp
      have ho := HHO.out
      have hrt := HHR.out
      clear HHO HHR
      subst ho
      have hok : hErr (k : Int) l = 0 := hrt.ok
      have hE0 : E = 0 := by rw [← HE.out]; exact hok
      subst hE0
      have hl := HTE7.out.r.1
      have hk8 := hrt.small
      have h256 := pw_256 hk8
      have hn256 : n ≤ 256 := by have := hrt.len; omega
      have hG16 : L16 = freeL l k 0 := by rw [← HL16.out]; unfold gapsH; rw [if_pos hok]; rfl
      have hWS1 : WS = wasteTo l n := by rw [← HWS.out]; unfold wasteH; rw [if_pos hok, hl]
      have hGV := give_cases hrt at_
      rw [HGE.out, HO14.out, HL14.out, hl] at hGV
      have HGV := Lib.hid hGV
      have hgl := freeL_len l k 0
      have hNG := HN16.out
      rw [hG16] at hNG
      have HRm : Hid (∀ j, j < n → ∃ x y z : Nat, nthG l j = ((x : Int), (y : Int), (z : Int)) ∧ x ≤ 256 ∧ y ≤ 256 ∧ z ≤ y) := fun j hj => by
        rw [nthG_get _ _ (by omega)]
        have hp := (hrt.good _ (List.getElem_mem (by omega : j < l.length))).pos
        exact ⟨_, _, _, Prod.ext (Int.toNat_of_nonneg hp.1).symm (Prod.ext (Int.toNat_of_nonneg (by omega)).symm (Int.toNat_of_nonneg (by omega)).symm), by omega, by omega, by omega⟩
      have HWT := Lib.hid (wasteTo_le hrt)
      have HRT := Lib.hid hrt
      have hN256 : N16 ≤ 256 := by omega
      have HL := Lib.hid hl
      have HHG := Lib.hid (halfGaps_any k A n c l w7 hrt HR.out.1 HTE7.out.r)
      have c0 : w7.cell? ⟨w.heap.size, 0, none⟩ = some (.int .i64 k) := HTE7.out.b4.cell 0
      have c1 : w7.cell? ⟨w.heap.size, 1, none⟩ = some (.slice A n c) := HTE7.out.b4.cell 1
      have HNG := Lib.hid hNG
      have HG16 := Lib.hid hG16
      have HWS1 := Lib.hid hWS1
      clear hok hl hrt hG16 hWS1 hGV hgl hNG HE HGE HWS HO14 HL14 HL16 HR
      go_wp2_with fail
      refine HHG.out.mono ?_
      rintro e w8 ⟨v, rfl, hO8, hb8⟩
      obtain ⟨A22, c22, rfl, _, hA22⟩ := hO8.arr runC_len
      rw [HNG.out] at hA22 ⊢
      have HT8 := Lib.hid (HTE7.out.below hb8)
      have HB8 := Lib.hid (HBE7.out.trans (hb8.mono HBE7.out.size))
      have HA22 := Lib.hid hA22
      clear HTE7 HBE7 hb8 hO8 hA22 HHG c0 c1
      have a1 := (Below.refl _ w8).alloc (Nat.le_refl _) (.cells #[.slice A22 N16 c22] 33)
      have hs8 : (w8.alloc (.cells #[.slice A22 N16 c22] 33)).heap.size = w8.heap.size + 1 := by simp
      have a2 := a1.alloc (by omega) (.cells #[.int .i64 k, .slice none 0 0] 24)
      have b22 := (Box.new w8 33 #[.slice A22 N16 c22]).alloc (.cells #[.int .i64 k, .slice none 0 0] 24)
      have b24 := Box.new (w8.alloc (.cells #[.slice A22 N16 c22] 33)) 24 #[.int .i64 k, .slice none 0 0]
      rw [hs8] at b24
      have hs9 : ((w8.alloc (.cells #[.slice A22 N16 c22] 33)).alloc (.cells #[.int .i64 k, .slice none 0 0] 24)).heap.size = w8.heap.size + 1 + 1 := by simp
      have c0 : (w8.alloc (.cells #[.slice A22 N16 c22] 33)).cell? ⟨w.heap.size, 0, none⟩ = some (.int .i64 k) := (HT8.out.b4.below a1 HT8.out.b4.lt).cell 0
      have c1 : ((w8.alloc (.cells #[.slice A22 N16 c22] 33)).alloc (.cells #[.int .i64 k, .slice none 0 0] 24)).cell? ⟨w.heap.size, 1, none⟩ = some (.slice A n c) := (HT8.out.b4.below a2 HT8.out.b4.lt).cell 1
      have HA2 := Lib.hid a2
      have B22 := Lib.hid b22
      have B24 := Lib.hid b24
      have HS9 := Lib.hid hs9
      clear a1 a2 b22 b24 hs8 hs9
      go_wp2_with fail
      generalize ((w8.alloc (.cells #[.slice A22 N16 c22] 33)).alloc (.cells #[.int .i64 k, .slice none 0 0] 24)) = W9 at *
      obtain ⟨g, hg⟩ : ∃ g, w8.heap.size = g := ⟨_, rfl⟩
      rw [hg] at B22 B24 HA2 HS9 ⊢
      have HG8 := Lib.hid hg
      clear hg c0 c1
      go_loopw [23, 25, 147] (fun s f i wr => ∃ j : Nat, j ≤ n ∧ i = .int .i64 j ∧ s = .int .i64 (wasteTo l j) ∧ f = .bool (foundTo l at_ j) ∧ ∃ A24 N24 c24, Hid (Box wr (g + 1) 24 #[.int .i64 k, .slice A24 N24 c24]) ∧ Hid (OwnG roomC 3 42 wr (g + 1 + 1) (.slice A24 N24 c24) (giveTo l at_ j)) ∧ Hid (Below (g + 1) W9 wr)) (fun _ _ i _ => n - (intOf i).toNat)
      case atStart => exact ⟨0, Nat.zero_le _, rfl, rfl, rfl, none, 0, 0, B24, OwnG.nil, Below.refl _ _⟩
      case round => as_aux_lemma =>
        obtain ⟨j, hj, rfl, rfl, rfl, A24, N24, c24, B24r, HO24, HB24⟩ := hrel
        clear B24
        have hb8r := HA2.out.trans (HB24.out.mono (by omega : g ≤ g + 1))
        have hTr := HT8.out.below (by rw [HG8.out]; exact hb8r)
        by_cases hlt : j < n
        · obtain ⟨b, off, rfl, hbB, hc0, hc1, hc2⟩ := hTr.r.room hlt
          obtain ⟨x, y, z, e0, h1, h2, h3⟩ := HRm.out j hlt
          obtain ⟨t3, t4⟩ := HWT.out j (by rw [HL.out]; omega)
          have HS1 : Hid (wasteTo l (j + 1) = wasteTo l j + ((y : Int) - z)) := by show _ = _; rw [wasteTo, e0]
          have HF1 : Hid (foundTo l at_ (j + 1) = (foundTo l at_ j || decide ((x : Int) = at_))) := by show _ = _; rw [foundTo, e0]
          have HG1 : Hid (giveTo l at_ (j + 1) = if (x : Int) = at_ then giveTo l at_ j else giveTo l at_ j ++ [((x : Int), (y : Int), (z : Int))]) := by show _ = _; rw [giveTo, e0]
          have hgl := giveTo_len l at_ j
          rw [e0] at hc0 hc1 hc2
          simp only at hc0 hc1 hc2
          have t5 : wasteTo l j ≤ 65536 := by omega
          have hj' : (j : Int) < (n : Int) := by omega
          have va := (Below.refl _ wr).alloc (Nat.le_refl _) (.cells #[.int .i64 x, .int .i64 y, .int .i64 z] 42)
          have hsw : (wr.alloc (.cells #[.int .i64 x, .int .i64 y, .int .i64 z] 42)).heap.size = wr.heap.size + 1 := by simp
          have hlw := B24r.out.lt
          have HBn := Lib.hid (HB24.out.trans (va.mono (by omega : g + 1 ≤ wr.heap.size)))
          have k24 := B24r.out.below va hlw
          have hOV := HO24.out.below va
          clear e0 hbB hTr t4 HRm HWT HT8 HA22 HL11 HTE HO11 HA12 HB12 HL HB8 HGV HRT HNG HG16 HWS1 HN16 hb8r HG8 HA2 B22 HS9
          generalize foundTo l at_ j = FB at *
          by_cases hxa : (x : Int) = at_
          · rw [if_pos hxa] at HG1
            rw [decide_eq_true hxa, Bool.or_true] at HF1
            subst hxa
            have K24 := Lib.hid k24
            have KO := Lib.hid hOV
            have hxx : ((x : Int) == (x : Int)) = true := by simp
            clear k24 hOV va B24r HO24 HB24
            generalize wasteTo l j = S at *
            go_wp2
            go_roundw
            case rel => exact ⟨j + 1, by omega, by go_num, by rw [HS1.out], by rw [HF1.out], A24, N24, c24, K24, by rw [HG1.out]; exact KO, HBn⟩
            case measure => simp [intOf]; omega
          · rw [if_neg hxa] at HG1
            rw [decide_eq_false hxa, Bool.or_false] at HF1
            obtain ⟨v', w', hrun, hO', hB'⟩ := hOV.push (P := Try.prog) (t := 22) (ty := 22) roomC_len roomC_one (by omega) Try.underlying22 roomI rfl (by omega) ((x : Int), (y : Int), (z : Int)) (by omega) (by omega)
            obtain ⟨A', c', rfl, _, _⟩ := hO'.arr roomC_len
            rw [hsw] at hrun
            obtain ⟨N', hN'⟩ : ∃ N', (giveTo l at_ j ++ [((x : Int), (y : Int), (z : Int))]).length = N' := ⟨_, rfl⟩
            rw [hN'] at hrun hO'
            rw [← HG1.out] at hO'
            have q24 := k24.below hB' (by omega)
            have x24 : w'.cell? ⟨g + 1, 1, none⟩ = some (.slice A24 N24 c24) := q24.cell 1
            have y24 := q24.soft 1
            have d24 : (wr.alloc (.cells #[.int .i64 x, .int .i64 y, .int .i64 z] 42)).cell? ⟨g + 1, 1, none⟩ = some (.slice A24 N24 c24) := k24.cell 1
            have Q24 : Hid (Box (w'.setCell ⟨g + 1, 1, none⟩ (.slice A' N' c')) (g + 1) 24 #[.int .i64 k, .slice A' N' c']) := q24.set 1 (.slice A' N' c')
            have QO := Lib.hid (hO'.setOther (g := g + 1) (by omega) 1 (.slice A' N' c'))
            have QB := Lib.hid (below_set (HBn.out.trans (hB'.mono (by omega : g + 1 ≤ g + 1 + 1))) (g := g + 1) (Nat.le_refl _) 1 (.slice A' N' c'))
            have HR9 := Lib.hid hrun
            have hxx : ((x : Int) == at_) = false := by simpa using hxa
            have bv := Box.new wr 42 #[.int .i64 x, .int .i64 y, .int .i64 z]
            clear bv k24 q24 hOV va B24r HO24 HB24 hrun hO' hB' hN' HG1 hxa HBn
            generalize wasteTo l j = S at *
            go_wp2_with (at_builtin; refine wpList_append_run rfl (.tmp 163) (.tmp 165) 22 rfl rfl rfl HR9.out ?_)
            go_roundw
            case rel => exact ⟨j + 1, by omega, by go_num, by rw [HS1.out], by rw [HF1.out], A', N', c', Q24, QO, QB⟩
            case measure => simp [intOf]; omega
        · obtain rfl : j = n := by omega
          have hend : ¬ (j : Int) < (j : Int) := by omega
          have b22 := B22.out.below HB24.out (by omega)
          have c22a : wr.cell? ⟨g, 0, none⟩ = some (.slice A22 N16 c22) := b22.cell 0
          have ha22 := HA22.out.below hb8r (by rw [HG8.out]; exact Nat.le_refl _)
          have hlw := B24r.out.lt
          have ha22' := ha22.more (B' := wr.heap.size) (by have := HG8.out; omega)
          have hr16 := hTr.r16
          rw [HG16.out] at hr16
          have HSR := Lib.hid (sameRuns_same A16 A22 N16 c16 c22 wr.heap.size (freeL l k 0) wr hr16 ha22' (by unfold maxLen; omega))
          have HTr := Lib.hid hTr
          have HBr := Lib.hid (HB8.out.trans ((show Below w8.heap.size w8 wr by rw [HG8.out]; exact hb8r).mono HB8.out.size))
          have H22 := Lib.hid b22
          have HA22' := Lib.hid ha22'
          obtain ⟨WT, hWT⟩ : ∃ WT, wasteTo l j = WT := ⟨_, rfl⟩
          rw [HWS1.out, hWT]
          have hww : (WT != WT) = false := by simp
          clear hTr hb8r b22 ha22 ha22' hr16 HT8 HB8 HA2 B22 HA22 HB24 HS9 HWS1 hWT HRm HWT
          go_wp2_with fail
          refine HSR.out.mono ?_
          rintro e w' ⟨rfl, q, rfl⟩
          clear HSR c22a
          go_upto_region 30 with fail
          have bq := below_drewN (Below.refl wr.heap.size wr) q
          have HT11 := Lib.hid (HTr.out.below bq)
          have HB11 := Lib.hid (below_drewN HBr.out q)
          have b24q : Box (wr.drewN q) (g + 1) 24 #[.int .i64 k, .slice A24 N24 c24] := B24r.out
          have o24q : OwnG roomC 3 42 (wr.drewN q) (g + 1 + 1) (.slice A24 N24 c24) (giveTo l at_ j) := HO24.out
          have H22q : Hid (Box (wr.drewN q) g 33 #[.slice A22 N16 c22]) := H22
          have HA22q : Hid (ArrG runC 2 (wr.drewN q) (wr.drewN q).heap.size A22 N16 (freeL l k 0)) := HA22'
          obtain ⟨A24', c24', hv24, _, ha24⟩ := o24q.arr roomC_len
          injection hv24 with v1 v2 v3
          subst v1 v3
          have HN24 := Lib.hid v2
          rw [← v2] at ha24
          have HA24 := Lib.hid ha24
          have HB24q := Lib.hid b24q
          clear v2 b24q o24q ha24 bq HTr HBr B24r HO24 H22 HA22' hlw
          generalize wr.drewN q = W11 at *
          obtain ⟨FB, hFB⟩ : ∃ FB, foundTo l at_ j = FB := ⟨_, rfl⟩
          rw [hFB]
          have HFB := Lib.hid hFB
          clear hFB
          go_cut [210] (fun s wx => s = .bool false ∧ Below W11.heap.size W11 wx)
          case first => as_aux_lemma =>
            have d14a : W11.cell? ⟨G14, 0, none⟩ = some (.int .i64 O14) := HT11.out.b14.cell 0
            have d14b : W11.cell? ⟨G14, 1, none⟩ = some (.slice A14 N14 c14) := HT11.out.b14.cell 1
            rcases HGV.out with ⟨f1, f2, f3, f4⟩ | ⟨f1, f2, f3, f4⟩
            · rw [HFB.out] at f1
              have n14 := HT11.out.r14.1
              rw [f4, ← HN24.out] at n14
              have hr14 := HT11.out.r14
              rw [f4] at hr14
              have d24a : W11.cell? ⟨g + 1, 0, none⟩ = some (.int .i64 k) := HB24q.out.cell 0
              have d24b : W11.cell? ⟨g + 1, 1, none⟩ = some (.slice A24 N24 c24) := HB24q.out.cell 1
              have hng : N14 ≤ maxLen := by have := giveTo_len l at_ j; have := HN24.out; unfold maxLen; omega
              subst f1 f2 f3 n14
              have HSm := Lib.hid (sameHalves_same k A14 A24 N24 c14 c24 (giveTo l at_ j) W11 hr14 HA24.out hng)
              clear hr14 f4 HT11 HB11 HGV HA24 HB24q HN24 H22q HA22q hng
              go_wp2_with fail
              refine HSm.out.mono ?_
              rintro e w' ⟨rfl, hb⟩
              have HBq := Lib.hid hb
              clear hb HSm d14a d14b d24a d24b
              go_wp2_with fail
              go_meet
              exact ⟨rfl, HBq.out⟩
            · rw [HFB.out] at f1
              have n14 := HT11.out.r14.1
              rw [f4] at n14
              have n14' : N14 = 0 := n14.symm
              have hr14 := HT11.out.r14
              rw [f4] at hr14
              have d20a : W11.cell? ⟨G20, 0, none⟩ = some (.int .i64 0) := HT11.out.b20.cell 0
              have d20b : W11.cell? ⟨G20, 1, none⟩ = some (.slice none 0 0) := HT11.out.b20.cell 1
              clear n14
              subst f1 f2 f3 n14'
              have HSm := Lib.hid (sameHalves_same 0 A14 none 0 c14 0 [] W11 hr14 ArrG.zero (Nat.zero_le _))
              clear hr14 f4 HT11 HB11 HGV HA24 HB24q HN24 H22q HA22q
              go_wp2_with fail
              refine HSm.out.mono ?_
              rintro e w' ⟨rfl, hb⟩
              have HBq := Lib.hid hb
              clear hb HSm d14a d14b d20a d20b
              go_wp2_with fail
              go_meet
              exact ⟨rfl, HBq.out⟩
          case rest => as_aux_lemma =>
            obtain ⟨rfl, hbc⟩ := hcut
            have HTC := Lib.hid (HT11.out.below hbc)
            have HBC := Lib.hid (HB11.out.trans (hbc.mono HB11.out.size))
            have H22c := Lib.hid (H22q.out.below hbc H22q.out.lt)
            have HA22c := Lib.hid ((HA22q.out.below hbc (Nat.le_refl _)).more hbc.size)
            clear HT11 HB11 H22q HA22q hbc HGV HA24 HB24q HN24
            have c0 : wc.cell? ⟨w.heap.size, 0, none⟩ = some (.int .i64 k) := HTC.out.b4.cell 0
            have c6 : wc.cell? ⟨w.heap.size + 1, 0, none⟩ = some (.int .i64 m) := HTC.out.b6.cell 0
            have HW2 := Lib.hid (wrap_pw hk8)
            have hm := HM.out
            clear HM
            have hTE1 : TE = 4 := by rw [← HTE.out, takeE_ok HRT.out.ok, if_pos hm]
            obtain ⟨u1, u2, u3, u4⟩ := take_none (o := (k : Int)) (l := l) (n := m) (by rw [HTE.out, hTE1]; decide)
            rw [HO11.out] at u1
            rw [HA12.out] at u2
            rw [HB12.out] at u3
            rw [HL11.out] at u4
            have n11 : N11 = 0 := by rw [← HTC.out.r11.1, u4]; rfl
            clear HTE HO11 HA12 HB12 HL11
            subst hTE1 u1 u2 u3 u4 n11
            clear HA22c H22c HRT
            generalize pw k = PK at *
            rcases Int.lt_or_le m 1 with h1 | h1
            · clear hm
              have hW2 := HW2.out
              go_wp2_with fail
              go_quiet (fail)
              have HTz := Lib.hid (HTC.out.below (below_drewN (Below.refl _ wc) nq))
              have HBz := Lib.hid (below_drewN HBC.out nq)
              clear HTC HBC c0 c6 hW2 HW2
              generalize wc.drewN nq = Wz at *
              have HS1 := Lib.hid (sameHalves_same 0 A11 none 0 c11 0 [] Wz HTz.out.r11 ArrG.zero (Nat.zero_le _))
              have d1 : Wz.cell? ⟨G11, 0, none⟩ = some (.int .i64 0) := HTz.out.b11.cell 0
              have d2 : Wz.cell? ⟨G11, 1, none⟩ = some (.slice A11 0 c11) := HTz.out.b11.cell 1
              have d3 : Wz.cell? ⟨G20, 0, none⟩ = some (.int .i64 0) := HTz.out.b20.cell 0
              have d4 : Wz.cell? ⟨G20, 1, none⟩ = some (.slice none 0 0) := HTz.out.b20.cell 1
              go_wp2_with fail
              refine HS1.out.mono ?_
              rintro e wz ⟨rfl, hbz⟩
              have d5 : wz.cell? ⟨G11 + 1, 0, none⟩ = some (.int .i64 0) := (HTz.out.b12.below hbz HTz.out.b12.lt).cell 0
              have d6 : wz.cell? ⟨G11 + 1, 1, none⟩ = some (.int .i64 0) := (HTz.out.b12.below hbz HTz.out.b12.lt).cell 1
              have HBz2 := Lib.hid (HBz.out.trans (hbz.mono HBz.out.size))
              clear hbz HS1 d1 d2 d3 d4 HTz HBz
              go_wp2
              go_ret
              exact ⟨rfl, HBz2.out⟩
            · have h2 : (PK : Int) < m := by omega
              have h3 : (m < 1) = False := eq_false (by omega)
              clear hm h1
              have hW2 := HW2.out
              go_wp2_with fail
              go_quiet (fail)
              have HTz := Lib.hid (HTC.out.below (below_drewN (Below.refl _ wc) nq))
              have HBz := Lib.hid (below_drewN HBC.out nq)
              clear HTC HBC c0 c6 hW2 HW2
              generalize wc.drewN nq = Wz at *
              have HS1 := Lib.hid (sameHalves_same 0 A11 none 0 c11 0 [] Wz HTz.out.r11 ArrG.zero (Nat.zero_le _))
              have d1 : Wz.cell? ⟨G11, 0, none⟩ = some (.int .i64 0) := HTz.out.b11.cell 0
              have d2 : Wz.cell? ⟨G11, 1, none⟩ = some (.slice A11 0 c11) := HTz.out.b11.cell 1
              have d3 : Wz.cell? ⟨G20, 0, none⟩ = some (.int .i64 0) := HTz.out.b20.cell 0
              have d4 : Wz.cell? ⟨G20, 1, none⟩ = some (.slice none 0 0) := HTz.out.b20.cell 1
              go_wp2_with fail
              refine HS1.out.mono ?_
              rintro e wz ⟨rfl, hbz⟩
              have d5 : wz.cell? ⟨G11 + 1, 0, none⟩ = some (.int .i64 0) := (HTz.out.b12.below hbz HTz.out.b12.lt).cell 0
              have d6 : wz.cell? ⟨G11 + 1, 1, none⟩ = some (.int .i64 0) := (HTz.out.b12.below hbz HTz.out.b12.lt).cell 1
              have HBz2 := Lib.hid (HBz.out.trans (hbz.mono HBz.out.size))
              clear hbz HS1 d1 d2 d3 d4 HTz HBz
              go_wp2
              go_ret
              exact ⟨rfl, HBz2.out⟩
end Go.Proofs.Ytdieokpfkojoiaa
