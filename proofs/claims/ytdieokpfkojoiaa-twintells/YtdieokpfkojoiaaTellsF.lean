/-
  TwinTells: a block is taken.
-/
import Derived.Test.YtdieokpfkojoiaaTellsN
namespace Go.Proofs.Ytdieokpfkojoiaa
open Go.RowKit

set_option maxRecDepth 100000 in
set_option maxHeartbeats 40000000 in
theorem tells_ok (o : Int) (A : Option Addr) (n c : Nat) (l : List Room) (ord m at_ : Int) (w : World) (hH : HalvesIn w A n c l) (k : Nat) (ho : o = k) (hrt : Right k l) (hm : ¬ (m < 1 ∨ (pw k : Int) < m)) (pk bb ii mm : Nat) (hT : Taking o l m k pk bb ii mm) :
    Calls Try.prog 3 #[.agg #[.int .i64 o, .slice A n c], .int .i64 ord, .int .i64 m, .int .i64 at_] w fun e w' => e = .returned (.bool true) ∧ Below w.heap.size w w' := by
  have HF := Lib.hid hT
  clear hT
  have HHO := Lib.hid ho
  have HHR := Lib.hid hrt
  have HM := Lib.hid hm
  clear ho hrt hm
  obtain ⟨hnc, hR⟩ := hH
  have hs1 : (w.alloc (.cells #[.int .i64 o, .slice A n c] 24)).heap.size = w.heap.size + 1 := by simp
  have b0 := ((Below.refl _ w).alloc (Nat.le_refl _) (.cells #[.int .i64 o, .slice A n c] 24)).alloc (by omega) (.cells #[.int .i64 m] 3)
  have x4 := (Box.new w 24 #[.int .i64 o, .slice A n c]).alloc (.cells #[.int .i64 m] 3)
  have x6 := Box.new (w.alloc (.cells #[.int .i64 o, .slice A n c] 24)) 3 #[.int .i64 m]
  rw [hs1] at x6
  have HN := Lib.hid (newH_any ord ((w.alloc (.cells #[.int .i64 o, .slice A n c] 24)).alloc (.cells #[.int .i64 m] 3)))
  have HB0 := Lib.hid b0
  have X4 := Lib.hid x4
  have X6 := Lib.hid x6
  have HR := Lib.hid hR
  have hNO1 := newO_out (x := ord)
  have hNO2 := newO_in (x := ord)
  have HNO1 := Lib.hid hNO1
  have HNO2 := Lib.hid hNO2
  clear b0 x4 x6 hs1 hR hNO1 hNO2
  generalize newO ord = X9 at *
  generalize hErr ord [] = E1 at *
  go_enter Try.func3, Try.ntmps3
  go_wp2_with fail
  refine HN.out.mono ?_
  rintro e w1 ⟨rfl, hb1⟩
  have a1 := (Below.refl _ w1).alloc (Nat.le_refl _) (.cells #[.int .i64 X9, .slice none 0 0] 24)
  have hbv := hb1.trans (a1.mono hb1.size)
  have y4 := X4.out.below hbv X4.out.lt
  have y6 := X6.out.below hbv X6.out.lt
  have y9 := Box.new w1 24 #[.int .i64 X9, .slice none 0 0]
  have hb := HB0.out.trans (hbv.mono HB0.out.size)
  have HT := Lib.hid (takeH_any o A n c l m _ hnc (HR.out.below hb))
  unfold TakePH at HT
  have c0 : (w1.alloc (.cells #[.int .i64 X9, .slice none 0 0] 24)).cell? ⟨w.heap.size, 0, none⟩ = some (.int .i64 o) := y4.cell 0
  have c1 : (w1.alloc (.cells #[.int .i64 X9, .slice none 0 0] 24)).cell? ⟨w.heap.size, 1, none⟩ = some (.slice A n c) := y4.cell 1
  have c6 : (w1.alloc (.cells #[.int .i64 X9, .slice none 0 0] 24)).cell? ⟨w.heap.size + 1, 0, none⟩ = some (.int .i64 m) := y6.cell 0
  have HB1 := Lib.hid hb
  have Y4 := Lib.hid y4
  have Y6 := Lib.hid y6
  have Y9 := Lib.hid y9
  clear a1 hbv hb hb1 y4 y6 y9 HN X4 X6 HB0
  obtain ⟨O11, hO11⟩ : ∃ L, takeO o l m = L := ⟨_, rfl⟩
  obtain ⟨A12, hA12⟩ : ∃ L, takeA o l m = L := ⟨_, rfl⟩
  obtain ⟨B12, hB12⟩ : ∃ L, takeB o l m = L := ⟨_, rfl⟩
  rw [hO11, hA12, hB12] at HT
  have HO11 := Lib.hid hO11
  have HA12 := Lib.hid hA12
  have HB12 := Lib.hid hB12
  clear hO11 hA12 hB12
  obtain ⟨L11, hL11⟩ : ∃ L, takeLH o l m = L := ⟨_, rfl⟩
  rw [hL11] at HT
  have HL11 := Lib.hid hL11
  obtain ⟨TE, hTE⟩ : ∃ L, takeE o l m = L := ⟨_, rfl⟩
  rw [hTE] at HT
  have HTE := Lib.hid hTE
  clear hL11 hTE
  go_wp2_with fail
  refine HT.out.mono ?_
  rintro e w2 ⟨v, rfl, hO, hb2⟩
  obtain ⟨A11, c11, rfl, _, hA11⟩ := hO.arr roomC_len
  have a1 := (Below.refl _ w2).alloc (Nat.le_refl _) (.cells #[.int .i64 O11, .slice A11 L11.length c11] 24)
  have hsa : (w2.alloc (.cells #[.int .i64 O11, .slice A11 L11.length c11] 24)).heap.size = w2.heap.size + 1 := by simp
  have a2 := a1.alloc (by omega) (.cells #[.int .i64 A12, .int .i64 B12] 29)
  have z11 := (Box.new w2 24 #[.int .i64 O11, .slice A11 L11.length c11]).alloc (.cells #[.int .i64 A12, .int .i64 B12] 29)
  have z12 := Box.new (w2.alloc (.cells #[.int .i64 O11, .slice A11 L11.length c11] 24)) 29 #[.int .i64 A12, .int .i64 B12]
  rw [hsa] at z12
  have hbv := hb2.trans (a2.mono hb2.size)
  have z4 := Y4.out.below hbv Y4.out.lt
  have z6 := Y6.out.below hbv Y6.out.lt
  have z9 := Y9.out.below hbv Y9.out.lt
  have q11 := (hA11.below a2 (Nat.le_refl _)).more a2.size
  have hb := HB1.out.trans (hbv.mono HB1.out.size)
  have HG := Lib.hid (give_any o A n c l at_ _ hnc (HR.out.below hb))
  unfold GiveP at HG
  clear c0 c1 c6
  have c0 : ((w2.alloc (.cells #[.int .i64 O11, .slice A11 L11.length c11] 24)).alloc (.cells #[.int .i64 A12, .int .i64 B12] 29)).cell? ⟨w.heap.size, 0, none⟩ = some (.int .i64 o) := z4.cell 0
  have c1 : ((w2.alloc (.cells #[.int .i64 O11, .slice A11 L11.length c11] 24)).alloc (.cells #[.int .i64 A12, .int .i64 B12] 29)).cell? ⟨w.heap.size, 1, none⟩ = some (.slice A n c) := z4.cell 1
  have HB2 := Lib.hid hb
  have Z4 := Lib.hid z4
  have Z6 := Lib.hid z6
  have Z9 := Lib.hid z9
  have Z11 := Lib.hid z11
  have Z12 := Lib.hid z12
  have Q11 := Lib.hid q11
  clear a1 a2 hsa hbv hb hb2 z4 z6 z9 z11 z12 q11 HT Y4 Y6 Y9 HB1 hA11 hO
  generalize L11.length = N11 at *
  obtain ⟨O14, hO14⟩ : ∃ L, giveO o l at_ = L := ⟨_, rfl⟩
  rw [hO14] at HG
  have HO14 := Lib.hid hO14
  clear hO14
  obtain ⟨L14, hL14⟩ : ∃ L, giveL o l at_ = L := ⟨_, rfl⟩
  rw [hL14] at HG
  have HL14 := Lib.hid hL14
  obtain ⟨GE, hGE⟩ : ∃ L, giveE o l at_ = L := ⟨_, rfl⟩
  rw [hGE] at HG
  have HGE := Lib.hid hGE
  clear hL14 hGE
  go_wp2_with fail
  generalize ((w2.alloc (.cells #[.int .i64 O11, .slice A11 N11 c11] 24)).alloc (.cells #[.int .i64 A12, .int .i64 B12] 29)) = W2 at *
  refine HG.out.mono ?_
  rintro e w3 ⟨v, rfl, hO, hb3⟩
  obtain ⟨A14, c14, rfl, _, hA14⟩ := hO.arr roomC_len
  have a1 := (Below.refl _ w3).alloc (Nat.le_refl _) (.cells #[.int .i64 O14, .slice A14 L14.length c14] 24)
  have y14 := Box.new w3 24 #[.int .i64 O14, .slice A14 L14.length c14]
  have hbv := hb3.trans (a1.mono hb3.size)
  have y4 := Z4.out.below hbv Z4.out.lt
  have y6 := Z6.out.below hbv Z6.out.lt
  have y9 := Z9.out.below hbv Z9.out.lt
  have y11 := Z11.out.below hbv Z11.out.lt
  have y12 := Z12.out.below hbv Z12.out.lt
  have q11 := (Q11.out.below hbv (Nat.le_refl _)).more hbv.size
  have q14 := (hA14.below a1 (Nat.le_refl _)).more a1.size
  have hb := HB2.out.trans (hbv.mono HB2.out.size)
  have HP := Lib.hid (gapsT_any o A n c l _ (HR.out.below hb))
  unfold GapsP at HP
  clear c0 c1
  have c0 : (w3.alloc (.cells #[.int .i64 O14, .slice A14 L14.length c14] 24)).cell? ⟨w.heap.size, 0, none⟩ = some (.int .i64 o) := y4.cell 0
  have c1 : (w3.alloc (.cells #[.int .i64 O14, .slice A14 L14.length c14] 24)).cell? ⟨w.heap.size, 1, none⟩ = some (.slice A n c) := y4.cell 1
  have HB3 := Lib.hid hb
  have Y4 := Lib.hid y4
  have Y6 := Lib.hid y6
  have Y9 := Lib.hid y9
  have Y11 := Lib.hid y11
  have Y12 := Lib.hid y12
  have Y14 := Lib.hid y14
  have P11 := Lib.hid q11
  have P14 := Lib.hid q14
  clear a1 hbv hb hb3 y4 y6 y9 y11 y12 y14 q11 q14 HG Z4 Z6 Z9 Z11 Z12 Q11 HB2 hA14 hO
  generalize L14.length = N14 at *
  obtain ⟨L16, hL16⟩ : ∃ L, gapsH o l = L := ⟨_, rfl⟩
  rw [hL16] at HP
  have HL16 := Lib.hid hL16
  obtain ⟨E, hE⟩ : ∃ L, hErr o l = L := ⟨_, rfl⟩
  rw [hE] at HP
  have HE := Lib.hid hE
  clear hL16 hE
  go_wp2_with fail
  generalize (w3.alloc (.cells #[.int .i64 O14, .slice A14 N14 c14] 24)) = W3 at *
  refine HP.out.mono ?_
  rintro e w4 ⟨v, rfl, hO, hb4⟩
  obtain ⟨A16, c16, rfl, _, hA16⟩ := hO.arr runC_len
  have y4 := Y4.out.below hb4 Y4.out.lt
  have hb := HB3.out.trans (hb4.mono HB3.out.size)
  have HW := Lib.hid (waste_any o A n c l _ (HR.out.below hb))
  rw [HE.out] at HW
  clear c0 c1
  have c0 : w4.cell? ⟨w.heap.size, 0, none⟩ = some (.int .i64 o) := y4.cell 0
  have c1 : w4.cell? ⟨w.heap.size, 1, none⟩ = some (.slice A n c) := y4.cell 1
  have HB4 := Lib.hid hb
  have HB34 := Lib.hid hb4
  have R16 := Lib.hid hA16
  obtain ⟨WS, hWS⟩ : ∃ L, wasteH o l = L := ⟨_, rfl⟩
  rw [hWS] at HW
  have HWS := Lib.hid hWS
  clear hWS hb hb4 y4 HP hA16 hO
  obtain ⟨N16, hN16⟩ : ∃ L, L16.length = L := ⟨_, rfl⟩
  have HN16 := Lib.hid hN16
  rw [hN16] at R16 ⊢
  clear hN16
  go_wp2_with fail
  refine HW.out.mono ?_
  rintro e w5 ⟨rfl, hb5⟩
  have a1 := (Below.refl _ w5).alloc (Nat.le_refl _) (.cells #[.int .i64 0, .slice none 0 0] 24)
  have y20 := Box.new w5 24 #[.int .i64 0, .slice none 0 0]
  have hbu := hb5.trans (a1.mono hb5.size)
  have hbv := HB34.out.trans (hbu.mono HB34.out.size)
  have hTB : TBx A n c o m X9 O11 A12 B12 O14 A11 A14 A16 N11 c11 N14 c14 N16 l L11 L14 L16 w.heap.size w1.heap.size w2.heap.size w3.heap.size w5.heap.size (w5.alloc (.cells #[.int .i64 0, .slice none 0 0] 24)) :=
    ⟨Y4.out.below hbv Y4.out.lt, Y6.out.below hbv Y6.out.lt, Y9.out.below hbv Y9.out.lt, Y11.out.below hbv Y11.out.lt, Y12.out.below hbv Y12.out.lt, Y14.out.below hbv Y14.out.lt, y20,
      (HR.out.below (HB4.out.trans (hbu.mono HB4.out.size))).2.1, (P11.out.below hbv (Nat.le_refl _)).more hbv.size, (P14.out.below hbv (Nat.le_refl _)).more hbv.size, (R16.out.below hbu (Nat.le_refl _)).more hbu.size⟩
  have HTB := Lib.hid hTB
  have HBB := Lib.hid (HB4.out.trans (hbu.mono HB4.out.size))
  clear a1 y20 hbu hbv hTB c0 c1 hb5 HW Y4 Y6 Y9 Y11 Y12 Y14 P11 P14 R16 HB3 HB4 HB34
  have hHF := fun wx hwx => halvesFault_any o A n c l wx (HR.out.below hwx)
  have hHC := fun wx hwx => checkH_any o A n c l wx (HR.out.below hwx)
  rw [HE.out] at hHF hHC
  have HHF := Lib.hid hHF
  have HHC := Lib.hid hHC
  clear hHF hHC
  go_upto_region 7 with fail
  generalize (w5.alloc (.cells #[.int .i64 0, .slice none 0 0] 24)) = W5 at *
  generalize w1.heap.size = G9 at *
  generalize w2.heap.size = G11 at *
  generalize w3.heap.size = G14 at *
  generalize w5.heap.size = G20 at *
  go_cut [71] (fun s wx => s = .bool (decide (ord < 0 ∨ 8 < ord)) ∧ W5 = wx)
  case first => as_aux_lemma =>
    clear HTB HBB HHF HHC HL11 HL14 HL16 HR
    by_cases h1 : ord < 0
    · have e : Hid (decide (ord < 0 ∨ 8 < ord) = true) := by show _ = _; simp [h1]
      go_wp2_with fail
      go_meet
      exact ⟨by rw [e.out], rfl⟩
    · by_cases h2 : 8 < ord
      · have e : Hid (decide (ord < 0 ∨ 8 < ord) = true) := by show _ = _; simp [h2]
        go_wp2_with fail
        go_meet
        exact ⟨by rw [e.out], rfl⟩
      · have e : Hid (decide (ord < 0 ∨ 8 < ord) = false) := by show _ = _; simp [h1, h2]
        go_wp2_with fail
        go_meet
        exact ⟨by rw [e.out], rfl⟩
  case rest => as_aux_lemma =>
    obtain ⟨rfl, rfl⟩ := hcut
    go_upto_if 71 with (fail)
    go_cut [8] (fun s wx => s = .bool false ∧ Below W5.heap.size W5 wx)
    case first => as_aux_lemma =>
      have c9a : W5.cell? ⟨G9, 0, none⟩ = some (.int .i64 X9) := HTB.out.b9.cell 0
      have c9b : W5.cell? ⟨G9, 1, none⟩ = some (.slice none 0 0) := HTB.out.b9.cell 1
      have c20a : W5.cell? ⟨G20, 0, none⟩ = some (.int .i64 0) := HTB.out.b20.cell 0
      have c20b : W5.cell? ⟨G20, 1, none⟩ = some (.slice none 0 0) := HTB.out.b20.cell 1
      have HSm := Lib.hid (fun x => sameHalves_same x none none 0 0 0 [] W5 ArrG.zero ArrG.zero (Nat.zero_le _))
      clear HTB HBB HHF HHC HL11 HL14 HL16 HR
      by_cases h1 : ord < 0 ∨ 8 < ord
      · obtain ⟨e1, e2⟩ := HNO1.out h1
        subst e1 e2
        rw [decide_eq_true h1]
        go_wp2_with fail
        refine (HSm.out 0).mono ?_
        rintro e w' ⟨rfl, hb⟩
        have HBq := Lib.hid hb
        clear hb HSm c9a c9b c20a c20b
        go_wp2_with fail
        go_meet
        exact ⟨rfl, HBq.out⟩
      · obtain ⟨e1, e2⟩ := HNO2.out h1
        obtain rfl : X9 = ord := e1
        subst e2
        rw [decide_eq_false h1]
        go_wp2_with fail
        refine (HSm.out X9).mono ?_
        rintro e w' ⟨rfl, hb⟩
        have HBq := Lib.hid hb
        clear hb HSm c9a c9b c20a c20b
        go_wp2_with fail
        go_meet
        exact ⟨rfl, HBq.out⟩
    case rest => as_aux_lemma =>
      obtain ⟨rfl, hbc⟩ := hcut
      have HTC := Lib.hid (HTB.out.below hbc)
      have HBC := Lib.hid (HBB.out.trans (hbc.mono HBB.out.size))
      clear HTB HBB hbc HNO1 HNO2
      have c0 : wc.cell? ⟨w.heap.size, 0, none⟩ = some (.int .i64 o) := HTC.out.b4.cell 0
      have c1 : wc.cell? ⟨w.heap.size, 1, none⟩ = some (.slice A n c) := HTC.out.b4.cell 1
      have HQ1 := Lib.hid (HHF.out wc HBC.out)
      clear HHF
      go_wp2_with fail
      refine HQ1.out.mono ?_
      rintro e w6 ⟨rfl, hb6⟩
      have HTD := Lib.hid (HTC.out.below hb6)
      have HBD := Lib.hid (HBC.out.trans (hb6.mono HBC.out.size))
      clear HTC HBC hb6 c0 c1 HQ1
      have c0 : w6.cell? ⟨w.heap.size, 0, none⟩ = some (.int .i64 o) := HTD.out.b4.cell 0
      have c1 : w6.cell? ⟨w.heap.size, 1, none⟩ = some (.slice A n c) := HTD.out.b4.cell 1
      have HQ1 := Lib.hid (HHC.out w6 HBD.out)
      clear HHC
      go_wp2_with fail
      refine HQ1.out.mono ?_
      rintro e w7 ⟨rfl, hb7⟩
      have HTE7 := Lib.hid (HTD.out.below hb7)
      have HBE7 := Lib.hid (HBD.out.trans (hb7.mono HBD.out.size))
      clear HTD HBD hb7 c0 c1 HQ1
      have hEE : (E != E) = false := by simp
      have ho := HHO.out
      have hrt := HHR.out
      clear HHO HHR
      subst ho
      have hok : hErr (k : Int) l = 0 := hrt.ok
      have hE0 : E = 0 := by rw [← HE.out]; exact hok
      subst hE0
      have hl := HTE7.out.r.1
      have hk8 := hrt.small
      have h256 := pw_256 hk8
      have hn256 : n ≤ 256 := by have := hrt.len; omega
      have hG16 : L16 = freeL l k 0 := by rw [← HL16.out]; unfold gapsH; rw [if_pos hok]; rfl
      have hWS1 : WS = wasteTo l n := by rw [← HWS.out]; unfold wasteH; rw [if_pos hok, hl]
      have hGV := give_cases hrt at_
      rw [HGE.out, HO14.out, HL14.out, hl] at hGV
      have HGV := Lib.hid hGV
      have hgl := freeL_len l k 0
      have hNG := HN16.out
      rw [hG16] at hNG
      have HRm : Hid (∀ j, j < n → ∃ x y z : Nat, nthG l j = ((x : Int), (y : Int), (z : Int)) ∧ x ≤ 256 ∧ y ≤ 256 ∧ z ≤ y) := fun j hj => by
        rw [nthG_get _ _ (by omega)]
        have hp := (hrt.good _ (List.getElem_mem (by omega : j < l.length))).pos
        exact ⟨_, _, _, Prod.ext (Int.toNat_of_nonneg hp.1).symm (Prod.ext (Int.toNat_of_nonneg (by omega)).symm (Int.toNat_of_nonneg (by omega)).symm), by omega, by omega, by omega⟩
      have HWT := Lib.hid (wasteTo_le hrt)
      have HRT := Lib.hid hrt
      have hN256 : N16 ≤ 256 := by omega
      have HL := Lib.hid hl
      have HHG := Lib.hid (halfGaps_any k A n c l w7 hrt HR.out.1 HTE7.out.r)
      have c0 : w7.cell? ⟨w.heap.size, 0, none⟩ = some (.int .i64 k) := HTE7.out.b4.cell 0
      have c1 : w7.cell? ⟨w.heap.size, 1, none⟩ = some (.slice A n c) := HTE7.out.b4.cell 1
      have HNG := Lib.hid hNG
      have HG16 := Lib.hid hG16
      have HWS1 := Lib.hid hWS1
      clear hok hl hrt hG16 hWS1 hGV hgl hNG HE HGE HWS HO14 HL14 HL16 HR
      go_wp2_with fail
      refine HHG.out.mono ?_
      rintro e w8 ⟨v, rfl, hO8, hb8⟩
      obtain ⟨A22, c22, rfl, _, hA22⟩ := hO8.arr runC_len
      rw [HNG.out] at hA22 ⊢
      have HT8 := Lib.hid (HTE7.out.below hb8)
      have HB8 := Lib.hid (HBE7.out.trans (hb8.mono HBE7.out.size))
      have HA22 := Lib.hid hA22
      clear HTE7 HBE7 hb8 hO8 hA22 HHG c0 c1
      have a1 := (Below.refl _ w8).alloc (Nat.le_refl _) (.cells #[.slice A22 N16 c22] 33)
      have hs8 : (w8.alloc (.cells #[.slice A22 N16 c22] 33)).heap.size = w8.heap.size + 1 := by simp
      have a2 := a1.alloc (by omega) (.cells #[.int .i64 k, .slice none 0 0] 24)
      have b22 := (Box.new w8 33 #[.slice A22 N16 c22]).alloc (.cells #[.int .i64 k, .slice none 0 0] 24)
      have b24 := Box.new (w8.alloc (.cells #[.slice A22 N16 c22] 33)) 24 #[.int .i64 k, .slice none 0 0]
      rw [hs8] at b24
      have hs9 : ((w8.alloc (.cells #[.slice A22 N16 c22] 33)).alloc (.cells #[.int .i64 k, .slice none 0 0] 24)).heap.size = w8.heap.size + 1 + 1 := by simp
      have c0 : (w8.alloc (.cells #[.slice A22 N16 c22] 33)).cell? ⟨w.heap.size, 0, none⟩ = some (.int .i64 k) := (HT8.out.b4.below a1 HT8.out.b4.lt).cell 0
      have c1 : ((w8.alloc (.cells #[.slice A22 N16 c22] 33)).alloc (.cells #[.int .i64 k, .slice none 0 0] 24)).cell? ⟨w.heap.size, 1, none⟩ = some (.slice A n c) := (HT8.out.b4.below a2 HT8.out.b4.lt).cell 1
      have HA2 := Lib.hid a2
      have B22 := Lib.hid b22
      have B24 := Lib.hid b24
      have HS9 := Lib.hid hs9
      clear a1 a2 b22 b24 hs8 hs9
      go_wp2_with fail
      generalize ((w8.alloc (.cells #[.slice A22 N16 c22] 33)).alloc (.cells #[.int .i64 k, .slice none 0 0] 24)) = W9 at *
      obtain ⟨g, hg⟩ : ∃ g, w8.heap.size = g := ⟨_, rfl⟩
      rw [hg] at B22 B24 HA2 HS9 ⊢
      have HG8 := Lib.hid hg
      clear hg c0 c1
      go_loopw [23, 25, 147] (fun s f i wr => ∃ j : Nat, j ≤ n ∧ i = .int .i64 j ∧ s = .int .i64 (wasteTo l j) ∧ f = .bool (foundTo l at_ j) ∧ ∃ A24 N24 c24, Hid (Box wr (g + 1) 24 #[.int .i64 k, .slice A24 N24 c24]) ∧ Hid (OwnG roomC 3 42 wr (g + 1 + 1) (.slice A24 N24 c24) (giveTo l at_ j)) ∧ Hid (Below (g + 1) W9 wr)) (fun _ _ i _ => n - (intOf i).toNat)
      case atStart => exact ⟨0, Nat.zero_le _, rfl, rfl, rfl, none, 0, 0, B24, OwnG.nil, Below.refl _ _⟩
      case round => as_aux_lemma =>
        obtain ⟨j, hj, rfl, rfl, rfl, A24, N24, c24, B24r, HO24, HB24⟩ := hrel
        clear B24
        have hb8r := HA2.out.trans (HB24.out.mono (by omega : g ≤ g + 1))
        have hTr := HT8.out.below (by rw [HG8.out]; exact hb8r)
        by_cases hlt : j < n
        · obtain ⟨b, off, rfl, hbB, hc0, hc1, hc2⟩ := hTr.r.room hlt
          obtain ⟨x, y, z, e0, h1, h2, h3⟩ := HRm.out j hlt
          obtain ⟨t3, t4⟩ := HWT.out j (by rw [HL.out]; omega)
          have HS1 : Hid (wasteTo l (j + 1) = wasteTo l j + ((y : Int) - z)) := by show _ = _; rw [wasteTo, e0]
          have HF1 : Hid (foundTo l at_ (j + 1) = (foundTo l at_ j || decide ((x : Int) = at_))) := by show _ = _; rw [foundTo, e0]
          have HG1 : Hid (giveTo l at_ (j + 1) = if (x : Int) = at_ then giveTo l at_ j else giveTo l at_ j ++ [((x : Int), (y : Int), (z : Int))]) := by show _ = _; rw [giveTo, e0]
          have hgl := giveTo_len l at_ j
          rw [e0] at hc0 hc1 hc2
          simp only at hc0 hc1 hc2
          have t5 : wasteTo l j ≤ 65536 := by omega
          have hj' : (j : Int) < (n : Int) := by omega
          have va := (Below.refl _ wr).alloc (Nat.le_refl _) (.cells #[.int .i64 x, .int .i64 y, .int .i64 z] 42)
          have hsw : (wr.alloc (.cells #[.int .i64 x, .int .i64 y, .int .i64 z] 42)).heap.size = wr.heap.size + 1 := by simp
          have hlw := B24r.out.lt
          have HBn := Lib.hid (HB24.out.trans (va.mono (by omega : g + 1 ≤ wr.heap.size)))
          have k24 := B24r.out.below va hlw
          have hOV := HO24.out.below va
          clear e0 hbB hTr t4 HRm HWT HT8 HA22 HL11 HTE HO11 HA12 HB12 HL HB8 HGV HRT HNG HG16 HWS1 HN16 hb8r HG8 HA2 B22 HS9
          generalize foundTo l at_ j = FB at *
          by_cases hxa : (x : Int) = at_
          · rw [if_pos hxa] at HG1
            rw [decide_eq_true hxa, Bool.or_true] at HF1
            subst hxa
            have K24 := Lib.hid k24
            have KO := Lib.hid hOV
            have hxx : ((x : Int) == (x : Int)) = true := by simp
            clear k24 hOV va B24r HO24 HB24
            generalize wasteTo l j = S at *
            go_wp2
            go_roundw
            case rel => exact ⟨j + 1, by omega, by go_num, by rw [HS1.out], by rw [HF1.out], A24, N24, c24, K24, by rw [HG1.out]; exact KO, HBn⟩
            case measure => simp [intOf]; omega
          · rw [if_neg hxa] at HG1
            rw [decide_eq_false hxa, Bool.or_false] at HF1
            obtain ⟨v', w', hrun, hO', hB'⟩ := hOV.push (P := Try.prog) (t := 22) (ty := 22) roomC_len roomC_one (by omega) Try.underlying22 roomI rfl (by omega) ((x : Int), (y : Int), (z : Int)) (by omega) (by omega)
            obtain ⟨A', c', rfl, _, _⟩ := hO'.arr roomC_len
            rw [hsw] at hrun
            obtain ⟨N', hN'⟩ : ∃ N', (giveTo l at_ j ++ [((x : Int), (y : Int), (z : Int))]).length = N' := ⟨_, rfl⟩
            rw [hN'] at hrun hO'
            rw [← HG1.out] at hO'
            have q24 := k24.below hB' (by omega)
            have x24 : w'.cell? ⟨g + 1, 1, none⟩ = some (.slice A24 N24 c24) := q24.cell 1
            have y24 := q24.soft 1
            have d24 : (wr.alloc (.cells #[.int .i64 x, .int .i64 y, .int .i64 z] 42)).cell? ⟨g + 1, 1, none⟩ = some (.slice A24 N24 c24) := k24.cell 1
            have Q24 : Hid (Box (w'.setCell ⟨g + 1, 1, none⟩ (.slice A' N' c')) (g + 1) 24 #[.int .i64 k, .slice A' N' c']) := q24.set 1 (.slice A' N' c')
            have QO := Lib.hid (hO'.setOther (g := g + 1) (by omega) 1 (.slice A' N' c'))
            have QB := Lib.hid (below_set (HBn.out.trans (hB'.mono (by omega : g + 1 ≤ g + 1 + 1))) (g := g + 1) (Nat.le_refl _) 1 (.slice A' N' c'))
            have HR9 := Lib.hid hrun
            have hxx : ((x : Int) == at_) = false := by simpa using hxa
            have bv := Box.new wr 42 #[.int .i64 x, .int .i64 y, .int .i64 z]
            clear bv k24 q24 hOV va B24r HO24 HB24 hrun hO' hB' hN' HG1 hxa HBn
            generalize wasteTo l j = S at *
            go_wp2_with (at_builtin; refine wpList_append_run rfl (.tmp 163) (.tmp 165) 22 rfl rfl rfl HR9.out ?_)
            go_roundw
            case rel => exact ⟨j + 1, by omega, by go_num, by rw [HS1.out], by rw [HF1.out], A', N', c', Q24, QO, QB⟩
            case measure => simp [intOf]; omega
        · obtain rfl : j = n := by omega
          have hend : ¬ (j : Int) < (j : Int) := by omega
          have b22 := B22.out.below HB24.out (by omega)
          have c22a : wr.cell? ⟨g, 0, none⟩ = some (.slice A22 N16 c22) := b22.cell 0
          have ha22 := HA22.out.below hb8r (by rw [HG8.out]; exact Nat.le_refl _)
          have hlw := B24r.out.lt
          have ha22' := ha22.more (B' := wr.heap.size) (by have := HG8.out; omega)
          have hr16 := hTr.r16
          rw [HG16.out] at hr16
          have HSR := Lib.hid (sameRuns_same A16 A22 N16 c16 c22 wr.heap.size (freeL l k 0) wr hr16 ha22' (by unfold maxLen; omega))
          have HTr := Lib.hid hTr
          have HBr := Lib.hid (HB8.out.trans ((show Below w8.heap.size w8 wr by rw [HG8.out]; exact hb8r).mono HB8.out.size))
          have H22 := Lib.hid b22
          have HA22' := Lib.hid ha22'
          obtain ⟨WT, hWT⟩ : ∃ WT, wasteTo l j = WT := ⟨_, rfl⟩
          rw [HWS1.out, hWT]
          have hww : (WT != WT) = false := by simp
          clear hTr hb8r b22 ha22 ha22' hr16 HT8 HB8 HA2 B22 HA22 HB24 HS9 HWS1 hWT HRm HWT
          go_wp2_with fail
          refine HSR.out.mono ?_
          rintro e w' ⟨rfl, q, rfl⟩
          clear HSR c22a
          go_upto_region 30 with fail
          have bq := below_drewN (Below.refl wr.heap.size wr) q
          have HT11 := Lib.hid (HTr.out.below bq)
          have HB11 := Lib.hid (below_drewN HBr.out q)
          have b24q : Box (wr.drewN q) (g + 1) 24 #[.int .i64 k, .slice A24 N24 c24] := B24r.out
          have o24q : OwnG roomC 3 42 (wr.drewN q) (g + 1 + 1) (.slice A24 N24 c24) (giveTo l at_ j) := HO24.out
          have H22q : Hid (Box (wr.drewN q) g 33 #[.slice A22 N16 c22]) := H22
          have HA22q : Hid (ArrG runC 2 (wr.drewN q) (wr.drewN q).heap.size A22 N16 (freeL l k 0)) := HA22'
          obtain ⟨A24', c24', hv24, _, ha24⟩ := o24q.arr roomC_len
          injection hv24 with v1 v2 v3
          subst v1 v3
          have HN24 := Lib.hid v2
          rw [← v2] at ha24
          have HA24 := Lib.hid ha24
          have HB24q := Lib.hid b24q
          clear v2 b24q o24q ha24 bq HTr HBr B24r HO24 H22 HA22' hlw
          generalize wr.drewN q = W11 at *
          obtain ⟨FB, hFB⟩ : ∃ FB, foundTo l at_ j = FB := ⟨_, rfl⟩
          rw [hFB]
          have HFB := Lib.hid hFB
          clear hFB
          go_cut [210] (fun s wx => s = .bool false ∧ Below W11.heap.size W11 wx)
          case first => as_aux_lemma =>
            have d14a : W11.cell? ⟨G14, 0, none⟩ = some (.int .i64 O14) := HT11.out.b14.cell 0
            have d14b : W11.cell? ⟨G14, 1, none⟩ = some (.slice A14 N14 c14) := HT11.out.b14.cell 1
            rcases HGV.out with ⟨f1, f2, f3, f4⟩ | ⟨f1, f2, f3, f4⟩
            · rw [HFB.out] at f1
              have n14 := HT11.out.r14.1
              rw [f4, ← HN24.out] at n14
              have hr14 := HT11.out.r14
              rw [f4] at hr14
              have d24a : W11.cell? ⟨g + 1, 0, none⟩ = some (.int .i64 k) := HB24q.out.cell 0
              have d24b : W11.cell? ⟨g + 1, 1, none⟩ = some (.slice A24 N24 c24) := HB24q.out.cell 1
              have hng : N14 ≤ maxLen := by have := giveTo_len l at_ j; have := HN24.out; unfold maxLen; omega
              subst f1 f2 f3 n14
              have HSm := Lib.hid (sameHalves_same k A14 A24 N24 c14 c24 (giveTo l at_ j) W11 hr14 HA24.out hng)
              clear hr14 f4 HT11 HB11 HGV HA24 HB24q HN24 H22q HA22q hng
              go_wp2_with fail
              refine HSm.out.mono ?_
              rintro e w' ⟨rfl, hb⟩
              have HBq := Lib.hid hb
              clear hb HSm d14a d14b d24a d24b
              go_wp2_with fail
              go_meet
              exact ⟨rfl, HBq.out⟩
            · rw [HFB.out] at f1
              have n14 := HT11.out.r14.1
              rw [f4] at n14
              have n14' : N14 = 0 := n14.symm
              have hr14 := HT11.out.r14
              rw [f4] at hr14
              have d20a : W11.cell? ⟨G20, 0, none⟩ = some (.int .i64 0) := HT11.out.b20.cell 0
              have d20b : W11.cell? ⟨G20, 1, none⟩ = some (.slice none 0 0) := HT11.out.b20.cell 1
              clear n14
              subst f1 f2 f3 n14'
              have HSm := Lib.hid (sameHalves_same 0 A14 none 0 c14 0 [] W11 hr14 ArrG.zero (Nat.zero_le _))
              clear hr14 f4 HT11 HB11 HGV HA24 HB24q HN24 H22q HA22q
              go_wp2_with fail
              refine HSm.out.mono ?_
              rintro e w' ⟨rfl, hb⟩
              have HBq := Lib.hid hb
              clear hb HSm d14a d14b d20a d20b
              go_wp2_with fail
              go_meet
              exact ⟨rfl, HBq.out⟩
          case rest => as_aux_lemma =>
            obtain ⟨rfl, hbc⟩ := hcut
            have HTC := Lib.hid (HT11.out.below hbc)
            have HBC := Lib.hid (HB11.out.trans (hbc.mono HB11.out.size))
            have H22c := Lib.hid (H22q.out.below hbc H22q.out.lt)
            have HA22c := Lib.hid ((HA22q.out.below hbc (Nat.le_refl _)).more hbc.size)
            clear HT11 HB11 H22q HA22q hbc HGV HA24 HB24q HN24
            have c0 : wc.cell? ⟨w.heap.size, 0, none⟩ = some (.int .i64 k) := HTC.out.b4.cell 0
            have c6 : wc.cell? ⟨w.heap.size + 1, 0, none⟩ = some (.int .i64 m) := HTC.out.b6.cell 0
            have HW2 := Lib.hid (wrap_pw hk8)
            have hm := HM.out
            clear HM
            obtain ⟨M, hM⟩ := Int.eq_ofNat_of_zero_le (by omega : 0 ≤ m)
            subst hM
            have hM1 : 1 ≤ M := by omega
            have hM2 : (M : Int) ≤ ((pw k : Nat) : Int) := by omega
            have h3 : ((M : Int) < 1) = False := eq_false (by omega)
            have h4 : (((pw k : Nat) : Int) < (M : Int)) = False := eq_false (by omega)
            have HM2 := Lib.hid hm
            clear hm
            have HPW := Lib.hid hM2
            obtain ⟨PK, hPK⟩ : ∃ PK, pw k = PK := ⟨_, rfl⟩
            have HPK := Lib.hid hPK
            rw [hPK] at HW2 h4 h256 hM2
            clear hPK
            have hW2 := HW2.out
            go_wp2_with fail
            go_quiet (fail)
            have HTz := Lib.hid (HTC.out.below (below_drewN (Below.refl _ wc) nq))
            have HBz := Lib.hid (below_drewN HBC.out nq)
            have H22z : Hid (Box (wc.drewN nq) g 33 #[.slice A22 N16 c22]) := H22c
            have HA22z : Hid (ArrG runC 2 (wc.drewN nq) (wc.drewN nq).heap.size A22 N16 (freeL l k 0)) := HA22c
            clear HTC HBC c0 c6 H22c HA22c hW2 HW2 h4
            generalize wc.drewN nq = Wz at *
            have a1 := (Below.refl _ Wz).alloc (Nat.le_refl _) (.cells #[.int .i64 (-1)] 3)
            have b28 := Box.new Wz 3 #[.int .i64 (-1)]
            have c22a : (Wz.alloc (.cells #[.int .i64 (-1)] 3)).cell? ⟨g, 0, none⟩ = some (.slice A22 N16 c22) := (H22z.out.below a1 H22z.out.lt).cell 0
            have HA1 := Lib.hid a1
            have B28 := Lib.hid b28
            have hsz : (Wz.alloc (.cells #[.int .i64 (-1)] 3)).heap.size = Wz.heap.size + 1 := by simp
            have HSZ := Lib.hid hsz
            clear a1 b28 hsz
            go_wp2_with fail
            clear c22a
            generalize (Wz.alloc (.cells #[.int .i64 (-1)] 3)) = Wy at *
            go_loopw [234] (fun i wr => ∃ t : Nat, t ≤ N16 ∧ i = .int .i64 t ∧ Hid (Box wr Wz.heap.size 3 #[.int .i64 (pickTo less (freeL l k 0) M t)]) ∧ Hid (Below Wz.heap.size Wz wr)) (fun i _ => N16 - (intOf i).toNat)
            case atStart => exact ⟨0, Nat.zero_le _, rfl, B28, HA1⟩
            case round => as_aux_lemma =>
              obtain ⟨t, ht, rfl, B28r, HBr⟩ := hrel
              clear B28 HA1
              have hTr := HTz.out.below HBr.out
              have c6 : wr.cell? ⟨w.heap.size + 1, 0, none⟩ = some (.int .i64 (M : Int)) := hTr.b6.cell 0
              have c22a : wr.cell? ⟨g, 0, none⟩ = some (.slice A22 N16 c22) := (H22z.out.below HBr.out H22z.out.lt).cell 0
              have hA := HA22z.out.below HBr.out (Nat.le_refl _)
              have hpr := pickTo_range (bt := less) (l := freeL l k 0) (n := (M : Int)) t
              have hlw := B28r.out.lt
              have lt6 := hTr.b6.lt
              have lt22 := H22z.out.lt
              by_cases hlt : t < N16
              · obtain ⟨bg, og, rfl, hbg, hv0, hv1⟩ := hA.run hlt
                obtain ⟨P, hP⟩ : ∃ P, pickTo less (freeL l k 0) M t = P := ⟨_, rfl⟩
                rw [hP] at B28r hpr
                have hnx : (nthG (freeL l k 0) t).2 < (M : Int) → pickTo less (freeL l k 0) M (t + 1) = P := fun h => by rw [pickTo_small h, hP]
                have hny : (M : Int) ≤ (nthG (freeL l k 0) t).2 → P < 0 → pickTo less (freeL l k 0) M (t + 1) = t := fun h h' => pickTo_new h (by rw [hP]; exact h')
                have hnz : ∀ p : Nat, P = p → (M : Int) ≤ (nthG (freeL l k 0) t).2 → (nthG (freeL l k 0) t).2 < (nthG (freeL l k 0) p).2 → pickTo less (freeL l k 0) M (t + 1) = t := fun p h1 h2 h3 => pickTo_better h2 (by rw [hP]; exact h1) (by unfold less; simpa using h3)
                have hnw : ∀ p : Nat, P = p → ¬ (nthG (freeL l k 0) t).2 < (nthG (freeL l k 0) p).2 → pickTo less (freeL l k 0) M (t + 1) = p := fun p h1 h2 => pickTo_worse (by rw [hP]; exact h1) (by unfold less; simpa using h2)
                have HNX := Lib.hid hnx
                have HNY := Lib.hid hny
                have HNZ := Lib.hid hnz
                have HNW := Lib.hid hnw
                have hcp : ∀ p : Nat, P = p → wr.cell? ⟨bg, og + p * 2 + 1, none⟩ = some (.int .i64 (nthG (freeL l k 0) p).2) := fun p h1 => by
                  obtain ⟨b', o', hAe, _, _, h2⟩ := hA.run (j := p) (by omega)
                  injection hAe with hAe
                  injection hAe with e1 e2
                  subst e1 e2
                  exact h2
                have HCP := Lib.hid hcp
                obtain ⟨X, hX⟩ : ∃ X, (nthG (freeL l k 0) t).1 = X := ⟨_, rfl⟩
                obtain ⟨Y, hY⟩ : ∃ Y, (nthG (freeL l k 0) t).2 = Y := ⟨_, rfl⟩
                rw [hX] at hv0
                rw [hY] at hv1 HNX HNY HNZ HNW
                have va := (Below.refl _ wr).alloc (Nat.le_refl _) (.cells #[.int .i64 X, .int .i64 Y] 29)
                have bx := Box.new wr 29 #[.int .i64 X, .int .i64 Y]
                have hsw : (wr.alloc (.cells #[.int .i64 X, .int .i64 Y] 29)).heap.size = wr.heap.size + 1 := by simp
                have hwz := HBr.out.size
                have HBn := Lib.hid (HBr.out.trans (va.mono hwz))
                have b28v := B28r.out.below va hlw
                have B28v := Lib.hid b28v
                have y1 : (wr.alloc (.cells #[.int .i64 X, .int .i64 Y] 29)).cell? ⟨wr.heap.size, 1, none⟩ = some (.int .i64 Y) := bx.cell 1
                have y6 : (wr.alloc (.cells #[.int .i64 X, .int .i64 Y] 29)).cell? ⟨w.heap.size + 1, 0, none⟩ = some (.int .i64 (M : Int)) := (va.cell (p := ⟨w.heap.size + 1, 0, none⟩) lt6).trans c6
                have y22 : (wr.alloc (.cells #[.int .i64 X, .int .i64 Y] 29)).cell? ⟨g, 0, none⟩ = some (.slice (some ⟨bg, og, none⟩) N16 c22) := (va.cell (p := ⟨g, 0, none⟩) (by show g < _; omega)).trans c22a
                have y28 : (wr.alloc (.cells #[.int .i64 X, .int .i64 Y] 29)).cell? ⟨Wz.heap.size, 0, none⟩ = some (.int .i64 P) := b28v.cell 0
                have s28 := b28v.soft 0
                have hbgw : bg < wr.heap.size := by omega
                have HCV : Hid (∀ p : Nat, P = p → (wr.alloc (.cells #[.int .i64 X, .int .i64 Y] 29)).cell? ⟨bg, og + p * 2 + 1, none⟩ = some (.int .i64 (nthG (freeL l k 0) p).2)) := fun p h1 => (va.cell (p := ⟨bg, og + p * 2 + 1, none⟩) hbgw).trans (HCP.out p h1)
                have HPn : Hid (pickTo less (freeL l k 0) M t = P) := hP
                have ht' : (t : Int) < (N16 : Int) := by omega
                clear va bx hA hTr hnx hny hnz hnw hcp HCP hX hY b28v B28r HTz HBz H22z HA22z c6 c22a hP HRT HTE HO11 HA12 HB12 HL11 HNG HG16 HN16 HL HBr HPK
                go_wp2_with fail
                generalize (wr.alloc (.cells #[.int .i64 X, .int .i64 Y] 29)) = V at *
                clear hv0 hv1
                by_cases hf : (M : Int) ≤ Y
                · rcases Int.lt_or_le P 0 with hP0 | hP0
                  · have HQ := Lib.hid (HNY.out hf hP0)
                    clear HNX HNY HNZ HNW HCV y22
                    go_quiet (fail)
                    have B28q : Hid (Box ((V.drewN nq).setCell ⟨Wz.heap.size, 0, none⟩ (.int .i64 t)) Wz.heap.size 3 #[.int .i64 t]) := (show Box (V.drewN nq) Wz.heap.size 3 #[.int .i64 P] from B28v.out).set 0 (.int .i64 t)
                    have HBq := Lib.hid (below_set (below_drewN HBn.out nq) (g := Wz.heap.size) (Nat.le_refl _) 0 (.int .i64 t))
                    have z28 : (V.drewN nq).cell? ⟨Wz.heap.size, 0, none⟩ = some (.int .i64 P) := y28
                    have zs28 : (V.drewN nq).frozen? ⟨Wz.heap.size, 0, none⟩ = false := s28
                    clear y1 y6 y28 s28 B28v HBn
                    generalize V.drewN nq = Vq at *
                    go_wp2
                    go_roundw
                    case rel => exact ⟨t + 1, by omega, by go_num, by rw [HQ.out]; exact B28q, HBq⟩
                    case measure => simp [intOf]; omega
                  · obtain ⟨p, hp⟩ := Int.eq_ofNat_of_zero_le hP0
                    have ycp := HCV.out p hp
                    have hq0 : ((p : Int) < 0) = False := eq_false (by omega)
                    have hpN : (p : Int) < (N16 : Int) := by omega
                    subst hp
                    by_cases hb : Y < (nthG (freeL l k 0) p).2
                    · have HQ := Lib.hid (HNZ.out p rfl hf hb)
                      clear HNX HNY HNZ HNW HCV hP0
                      generalize (nthG (freeL l k 0) p).2 = Yp at *
                      go_quiet (fail)
                      have B28q : Hid (Box ((V.drewN nq).setCell ⟨Wz.heap.size, 0, none⟩ (.int .i64 t)) Wz.heap.size 3 #[.int .i64 t]) := (show Box (V.drewN nq) Wz.heap.size 3 #[.int .i64 (p : Int)] from B28v.out).set 0 (.int .i64 t)
                      have HBq := Lib.hid (below_set (below_drewN HBn.out nq) (g := Wz.heap.size) (Nat.le_refl _) 0 (.int .i64 t))
                      have z28 : (V.drewN nq).cell? ⟨Wz.heap.size, 0, none⟩ = some (.int .i64 (p : Int)) := y28
                      have zs28 : (V.drewN nq).frozen? ⟨Wz.heap.size, 0, none⟩ = false := s28
                      clear y1 y6 y28 s28 B28v HBn y22 ycp
                      generalize V.drewN nq = Vq at *
                      go_wp2
                      go_roundw
                      case rel => exact ⟨t + 1, by omega, by go_num, by rw [HQ.out]; exact B28q, HBq⟩
                      case measure => simp [intOf]; omega
                    · have HQ := Lib.hid (HNW.out p rfl (by omega))
                      have hb' : (Y < (nthG (freeL l k 0) p).2) = False := eq_false hb
                      clear HNX HNY HNZ HNW HCV hb hP0
                      generalize (nthG (freeL l k 0) p).2 = Yp at *
                      go_quiet (fail)
                      have HBq := Lib.hid (below_drewN HBn.out nq)
                      have B28q : Hid (Box (V.drewN nq) Wz.heap.size 3 #[.int .i64 (p : Int)]) := B28v
                      clear y1 y6 y28 s28 B28v HBn y22 ycp
                      generalize V.drewN nq = Vq at *
                      go_wp2
                      go_roundw
                      case rel => exact ⟨t + 1, by omega, by go_num, by rw [HQ.out]; exact B28q, HBq⟩
                      case measure => simp [intOf]; omega
                · have HQ := Lib.hid (HNX.out (by omega))
                  have hf' : ((M : Int) ≤ Y) = False := eq_false hf
                  clear HNX HNY HNZ HNW HCV y22 hf
                  go_quiet (fail)
                  have HBq := Lib.hid (below_drewN HBn.out nq)
                  have B28q : Hid (Box (V.drewN nq) Wz.heap.size 3 #[.int .i64 P]) := B28v
                  clear y1 y6 y28 s28 B28v HBn
                  generalize V.drewN nq = Vq at *
                  go_wp2
                  go_roundw
                  case rel => exact ⟨t + 1, by omega, by go_num, by rw [HQ.out]; exact B28q, HBq⟩
                  case measure => simp [intOf]; omega
              · obtain rfl : t = N16 := by omega
                have htend : ¬ (t : Int) < (t : Int) := by omega
                have hT := HF.out
                have hpk : pickTo less (freeL l k 0) (M : Int) t = pk := by
                  have := hT.pick
                  rw [HNG.out] at this
                  exact this
                have hpkt : pk < t := by
                  have := hT.lt
                  rw [HNG.out] at this
                  exact this
                rw [hpk] at B28r
                have hgap := hT.gap
                obtain ⟨hz1, hz2⟩ := hT.size
                have hmm : pw mm ≤ 256 := pw_256 (Nat.le_trans hT.le (Nat.le_trans hT.free.le HRT.out.small))
                have hTE1 : TE = 0 := by
                  rw [← HTE.out, takeE_ok HRT.out.ok, if_neg HM2.out]
                  unfold chooseE
                  rw [if_neg (by omega), if_neg (by rw [freeL_valid]; decide), HNG.out, hpk, if_neg (by omega)]
                obtain ⟨u1, u2, u3, u4⟩ := take_some (k := k) (l := l) (n := (M : Int)) (by rw [HTE.out, hTE1])
                rw [HO11.out] at u1
                rw [HA12.out, hT.taken] at u2
                rw [HB12.out, hT.taken] at u3
                rw [HL11.out, hT.taken] at u4
                simp only at u2 u3
                have hins := hT.inside
                have hbb : bb ≤ 256 := by have := pw_256 HRT.out.small; omega
                have hoth := hT.other
                obtain ⟨L, hL⟩ : ∃ L, pw mm = L := ⟨_, rfl⟩
                rw [hL] at u3 u4 hz1 hz2 hmm
                have HLm := Lib.hid hL
                have n11 : N11 = (insL ((bb : Int), (L : Int), (M : Int)) l).length := by rw [← hTr.r11.1, u4]
                have HRm : Hid (∀ q, q < j → ∃ x y z : Nat, nthG l q = ((x : Int), (y : Int), (z : Int)) ∧ x ≤ 256 ∧ y ≤ 256 ∧ z ≤ y) := fun q hq => by
                  have hl := HL.out
                  have := pw_256 HRT.out.small
                  rw [nthG_get _ _ (by omega)]
                  have hp := (HRT.out.good _ (List.getElem_mem (by omega : q < l.length))).pos
                  exact ⟨_, _, _, Prod.ext (Int.toNat_of_nonneg hp.1).symm (Prod.ext (Int.toNat_of_nonneg (by omega)).symm (Int.toNat_of_nonneg (by omega)).symm), by omega, by omega, by omega⟩
                have HOTH : Hid (∀ r ∈ l, r.1 ≠ (((bb : Int), (L : Int), (M : Int)) : Room).1) := hoth
                have HZ2 := Lib.hid hz2
                have HZ1 := Lib.hid hz1
                have HGAP := Lib.hid hgap
                have b22 := H22z.out.below HBr.out H22z.out.lt
                have hA20 := hA.more (B' := wr.heap.size) HBr.out.size
                have HB20 := Lib.hid (HBz.out.trans (HBr.out.mono HBz.out.size))
                have hTr2 := hTr
                subst u1 u2 u3 u4 n11
                have HT20 := Lib.hid hTr2
                have H22 := Lib.hid b22
                have H28 := B28r
                have HA20 := Lib.hid hA20
                have hg28 := B28r.out.lt
                have c28 : wr.cell? ⟨Wz.heap.size, 0, none⟩ = some (.int .i64 (pk : Int)) := B28r.out.cell 0
                have hpk0 : ((pk : Int) < 0) = False := eq_false (by omega)
                have B31 := Lib.hid (Box.new wr 3 #[.int .i64 1])
                have a31 := (Below.refl _ wr).alloc (Nat.le_refl _) (.cells #[.int .i64 1] 3)
                have HA31 := Lib.hid a31
                obtain ⟨N11, hN11⟩ : ∃ N11, (insL ((bb : Int), (L : Int), (M : Int)) l).length = N11 := ⟨_, rfl⟩
                rw [hN11] at HT20
                have HN11 := Lib.hid hN11
                subst hTE1
                obtain ⟨g28, hg28e⟩ : ∃ g28, Wz.heap.size = g28 := ⟨_, rfl⟩
                rw [hg28e] at H28 c28 hg28 ⊢
                clear hg28e hTr hTr2 hA hA20 b22 hN11 hT hgap hz1 hz2 hoth hL HTz HBz H22z HA22z B28r HBr HF HTE HO11 HA12 HB12 HL11 HNG HG16 HN16 hpr c6 c22a hlw lt6 lt22 a31 HPK HM2 hpk hins h3
                generalize wr = W20 at *
                go_wp2_with fail
                generalize (W20.alloc (.cells #[.int .i64 1] 3)) = W31 at *
                clear c28
                go_loopw [273] (fun _ wx => ∃ q : Nat, q ≤ mm ∧ Hid (Box wx W20.heap.size 3 #[.int .i64 ((pw q : Nat) : Int)]) ∧ Hid (Below W20.heap.size W20 wx)) (fun _ wx => 512 - cellN wx ⟨W20.heap.size, 0, none⟩)
                case atStart => exact ⟨0, Nat.zero_le _, B31, HA31⟩
                case round => as_aux_lemma =>
                  obtain ⟨q, hq, B31r, HB31⟩ := hrel
                  clear B31 HA31
                  have hT31 := HT20.out.below HB31.out
                  have c31 : wr.cell? ⟨W20.heap.size, 0, none⟩ = some (.int .i64 ((pw q : Nat) : Int)) := B31r.out.cell 0
                  have s31 := B31r.out.soft 0
                  have c6 : wr.cell? ⟨w.heap.size + 1, 0, none⟩ = some (.int .i64 (M : Int)) := hT31.b6.cell 0
                  by_cases hlt : q < mm
                  · have hP := pw_short (M := (M : Int)) (q := q) (mm := mm) (by rw [HLm.out]; exact HZ2.out) hlt
                    have hT256 : pw q ≤ 256 := by have := pw_le (Nat.le_of_lt hlt); have := HLm.out; omega
                    have hTp := pw_pos q
                    have HS : Hid (((pw (q + 1) : Nat) : Int) = ((pw q : Nat) : Int) * 2) := by show _ = _; rw [pw_succ]; omega
                    have B31s : Hid (Box (wr.setCell ⟨W20.heap.size, 0, none⟩ (.int .i64 (((pw q : Nat) : Int) * 2))) W20.heap.size 3 #[.int .i64 (((pw q : Nat) : Int) * 2)]) := B31r.out.set 0 (.int .i64 (((pw q : Nat) : Int) * 2))
                    have HB31s := Lib.hid (below_set HB31.out (g := W20.heap.size) (Nat.le_refl _) 0 (.int .i64 (((pw q : Nat) : Int) * 2)))
                    have N1 := Lib.hid (cellN_box B31r.out)
                    have N2 := Lib.hid (cellN_box B31s.out)
                    have HT5 : Hid (pw q ≤ 256 ∧ 0 < pw q) := ⟨hT256, hTp⟩
                    clear hT31 HT20 H22 H28 HA20 HB20
                    generalize pw q = T at *
                    go_wp2
                    go_roundw
                    case rel => exact ⟨q + 1, by omega, by rw [HS.out]; exact B31s, HB31s⟩
                    case measure =>
                      have h1 := N1.out
                      have h2 := N2.out
                      have h3 := HT5.out
                      rw [h1, h2]
                      omega
                  · obtain rfl : q = mm := by omega
                    have hle : ¬ (((pw q : Nat) : Int) < (M : Int)) := by rw [HLm.out]; have := HZ1.out; omega
                    rw [HLm.out] at B31r c31 hle
                    have HT30 := Lib.hid hT31
                    have H22' := Lib.hid (H22.out.below HB31.out H22.out.lt)
                    have H28' := Lib.hid (H28.out.below HB31.out H28.out.lt)
                    have HA30 := Lib.hid ((HA20.out.below HB31.out (Nat.le_refl _)).more HB31.out.size)
                    have HB30 := Lib.hid (HB20.out.trans (HB31.out.mono HB20.out.size))
                    have H31' := B31r
                    obtain ⟨g31, hg31⟩ : ∃ g31, W20.heap.size = g31 := ⟨_, rfl⟩
                    rw [hg31] at H31' c31 s31 B31r ⊢
                    have ce : ((L : Int) < (M : Int)) = False := eq_false hle
                    clear hle HT20 H22 H28 HA20 HB20 HB31 hg31 hT31 B31r hg28 HZ1 HZ2
                    generalize wr = W30 at *
                    have c0 : W30.cell? ⟨w.heap.size, 0, none⟩ = some (.int .i64 k) := HT30.out.b4.cell 0
                    have a1 := (Below.refl _ W30).alloc (Nat.le_refl _) (.cells #[.int .i64 k, .slice none 0 0] 24)
                    have hs1 : (W30.alloc (.cells #[.int .i64 k, .slice none 0 0] 24)).heap.size = W30.heap.size + 1 := by simp
                    have a2 := a1.alloc (by omega) (.cells #[.bool false] 4)
                    have b32 := (Box.new W30 24 #[.int .i64 k, .slice none 0 0]).alloc (.cells #[.bool false] 4)
                    have b33 := Box.new (W30.alloc (.cells #[.int .i64 k, .slice none 0 0] 24)) 4 #[.bool false]
                    rw [hs1] at b33
                    have hs2 : ((W30.alloc (.cells #[.int .i64 k, .slice none 0 0] 24)).alloc (.cells #[.bool false] 4)).heap.size = W30.heap.size + 1 + 1 := by simp
                    have c1 : ((W30.alloc (.cells #[.int .i64 k, .slice none 0 0] 24)).alloc (.cells #[.bool false] 4)).cell? ⟨w.heap.size, 1, none⟩ = some (.slice A j c) := (HT30.out.b4.below a2 HT30.out.b4.lt).cell 1
                    have HA2 := Lib.hid a2
                    have B32 := Lib.hid b32
                    have B33 := Lib.hid b33
                    have HS2 := Lib.hid hs2
                    clear a1 a2 b32 b33 hs1 hs2
                    go_wp2_with fail
                    generalize ((W30.alloc (.cells #[.int .i64 k, .slice none 0 0] 24)).alloc (.cells #[.bool false] 4)) = W33 at *
                    obtain ⟨g32, hg32⟩ : ∃ g32, W30.heap.size = g32 := ⟨_, rfl⟩
                    rw [hg32] at B32 B33 HA2 HS2 HA30 ⊢
                    have HG32 := Lib.hid hg32
                    clear hg32 c0 c1 c6 c31 s31
                    obtain ⟨X, hX⟩ : ∃ X : Room, ((bb : Int), (L : Int), (M : Int)) = X := ⟨_, rfl⟩
                    have HX1 : Hid (X.1 = (bb : Int)) := by show _ = _; rw [← hX]
                    have HOTH2 : Hid (∀ r ∈ l, r.1 ≠ X.1) := fun r hr => by rw [HX1.out]; exact HOTH.out r hr
                    clear HOTH
                    rw [hX] at HN11 HT30
                    have HX := Lib.hid hX
                    have lt22 := H22'.out.lt
                    have lt28 := H28'.out.lt
                    have lt31 := H31'.out.lt
                    have lt6 := HT30.out.b6.lt
                    rw [HG32.out] at lt22 lt28 lt31 lt6
                    clear hX
                    go_loopw [285] (fun i wx => ∃ q : Nat, q ≤ j ∧ i = .int .i64 q ∧ ∃ A32 N32 c32, Hid (Box wx (g32 + 1) 4 #[.bool (putTo l X q)]) ∧ Hid (Box wx g32 24 #[.int .i64 k, .slice A32 N32 c32]) ∧ Hid (OwnG roomC 3 42 wx (g32 + 1 + 1) (.slice A32 N32 c32) (takeTo l X q)) ∧ Hid (Below g32 W30 wx)) (fun i _ => j - (intOf i).toNat)
                    case atStart => exact ⟨0, Nat.zero_le _, rfl, none, 0, 0, B33, B32, OwnG.nil, HA2⟩
                    case round => as_aux_lemma =>
                      obtain ⟨q, hq, rfl, A32, N32, c32, B33r, B32r, HO32, HBr⟩ := hrel
                      clear B33 B32 HA2 HS2
                      have hTr := HT30.out.below (by rw [HG32.out]; exact HBr.out)
                      have b22 := H22'.out.below (by exact HBr.out) lt22
                      have b28 := H28'.out.below (by exact HBr.out) lt28
                      have b31 := H31'.out.below (by exact HBr.out) lt31
                      have hA := HA30.out.below HBr.out (Nat.le_refl _)
                      have hl33 := B33r.out.lt
                      by_cases hlt : q < j
                      · obtain ⟨b, off, rfl, hbB, hc0, hc1, hc2⟩ := hTr.r.room hlt
                        obtain ⟨x, y, z, e0, h1, h2, h3⟩ := HRm.out q hlt
                        rw [e0] at hc0 hc1 hc2
                        simp only at hc0 hc1 hc2
                        obtain ⟨bg, og, rfl, hbg, hv0, hv1⟩ := hA.run hpkt
                        rw [HGAP.out] at hv0
                        simp only at hv0
                        have hq' : (q : Int) < (j : Int) := by omega
                        have hpk' : (pk : Int) < (t : Int) := by omega
                        have va := (Below.refl _ wr).alloc (Nat.le_refl _) (.cells #[.int .i64 x, .int .i64 y, .int .i64 z] 42)
                        have bx := Box.new wr 42 #[.int .i64 x, .int .i64 y, .int .i64 z]
                        have hsw : (wr.alloc (.cells #[.int .i64 x, .int .i64 y, .int .i64 z] 42)).heap.size = wr.heap.size + 1 := by simp
                        have hrow := HO32.out.rowLt
                        have V33 := Lib.hid (B33r.out.below va B33r.out.lt)
                        have V32 := Lib.hid (B32r.out.below va B32r.out.lt)
                        have VO := Lib.hid (HO32.out.below va)
                        have VB := Lib.hid (HBr.out.trans (va.mono (by omega : g32 ≤ wr.heap.size)))
                        have V22 := Lib.hid (b22.below va b22.lt)
                        have V28 := Lib.hid (b28.below va b28.lt)
                        have V31 := Lib.hid (b31.below va b31.lt)
                        have V6 := Lib.hid (hTr.b6.below va hTr.b6.lt)
                        have V36 := Lib.hid bx
                        have VG := Lib.hid (hA.below va (by omega))
                        have d36 : (wr.alloc (.cells #[.int .i64 x, .int .i64 y, .int .i64 z] 42)).cell? ⟨wr.heap.size, 0, none⟩ = some (.int .i64 x) := bx.cell 0
                        have d22 : (wr.alloc (.cells #[.int .i64 x, .int .i64 y, .int .i64 z] 42)).cell? ⟨g, 0, none⟩ = some (.slice (some ⟨bg, og, none⟩) t c22) := V22.out.cell 0
                        have d28 : (wr.alloc (.cells #[.int .i64 x, .int .i64 y, .int .i64 z] 42)).cell? ⟨g28, 0, none⟩ = some (.int .i64 pk) := V28.out.cell 0
                        have dg : (wr.alloc (.cells #[.int .i64 x, .int .i64 y, .int .i64 z] 42)).cell? ⟨bg, og + pk * 2, none⟩ = some (.int .i64 bb) := (va.cell (p := ⟨bg, og + pk * 2, none⟩) (by show bg < _; omega)).trans hv0
                        have HROW : Hid (∀ i, (Value.slice A32 N32 c32).ownBlock = some i → i < wr.heap.size) := hrow
                        have HE0 := Lib.hid e0
                        have HJ256 : Hid ((takeTo l X q).length ≤ 600) := by have := takeTo_len (l := l) (x := X) q; show _ ≤ _; omega
                        clear hTr b22 b28 b31 hA va bx hrow e0 hbB hbg hv1 B33r B32r HO32 HBr HT30 H22' H28' H31' HA30
                        go_wp2_with fail
                        generalize hVe : (wr.alloc (.cells #[.int .i64 x, .int .i64 y, .int .i64 z] 42)) = V at *
                        clear hVe hc0 hc1 hc2 hv0
                        by_cases hgt : (bb : Int) < (x : Int)
                        · have HGT : Hid (X.1 < (nthG l q).1) := by show _ < _; rw [HE0.out, HX1.out]; exact hgt
                          go_quiet (fail)
                          have Q33 : Hid (Box (V.drewN nq) (g32 + 1) 4 #[.bool (putTo l X q)]) := V33
                          have Q32 : Hid (Box (V.drewN nq) g32 24 #[.int .i64 k, .slice A32 N32 c32]) := V32
                          have QO : Hid (OwnG roomC 3 42 (V.drewN nq) (g32 + 1 + 1) (.slice A32 N32 c32) (takeTo l X q)) := VO
                          have QB : Hid (Below g32 W30 (V.drewN nq)) := below_drewN VB.out nq
                          have Q22 : Hid (Box (V.drewN nq) g 33 #[.slice (some ⟨bg, og, none⟩) t c22]) := V22
                          have Q28 : Hid (Box (V.drewN nq) g28 3 #[.int .i64 pk]) := V28
                          have Q31 : Hid (Box (V.drewN nq) g31 3 #[.int .i64 L]) := V31
                          have Q6 : Hid (Box (V.drewN nq) (w.heap.size + 1) 3 #[.int .i64 M]) := V6
                          have Q36 : Hid (Box (V.drewN nq) wr.heap.size 42 #[.int .i64 x, .int .i64 y, .int .i64 z]) := V36
                          have QG : Hid (ArrG runC 2 (V.drewN nq) (g32 + 1 + 1) (some ⟨bg, og, none⟩) t (freeL l k 0)) := VG.out.more (by omega)
                          have hsq : (V.drewN nq).heap.size = wr.heap.size + 1 := hsw
                          clear V33 V32 VO VB V22 V28 V31 V6 V36 VG d36 d22 d28 dg hsw
                          generalize V.drewN nq = Vq at *
                          cases hput : putTo l X q
                          · obtain ⟨e1, e2⟩ := step_gt_no HGT.out hput
                            have HP1 := Lib.hid e1
                            have HP2 := Lib.hid e2
                            rw [hput] at Q33
                            clear hput e1 e2
                            have HAN := Lib.hid (add_no (k : Int) A32 (some ⟨bg, og, none⟩) N32 c32 t c22 (g32 + 1) g32 g g28 g31 (w.heap.size + 1) (g32 + 1 + 1) pk L M (takeTo l X q) (freeL l k 0) Vq Q33.out Q32.out Q22.out Q28.out Q31.out Q6.out QG.out (by omega) hpkt (by omega) QO.out (by have := HJ256.out; omega) (by omega) (by omega) (by omega))
                            go_wp2_with fail
                            refine HAN.out.mono ?_
                            rintro e w7 ⟨⟨r7, rfl⟩, A7, N7, c7, hO7, hb33, hb32, hb7, hK7⟩
                            rw [HGAP.out, show (((bb : Int), ((pw ii : Nat) : Int)) : Int × Int).1 = (bb : Int) from rfl, HX.out] at hO7
                            have k36 : Box w7 wr.heap.size 42 #[.int .i64 x, .int .i64 y, .int .i64 z] := (hK7 wr.heap.size (by omega) (by omega) (by omega) (fun h => by have := HROW.out _ h; omega)).trans Q36.out
                            have f0 : w7.cell? ⟨wr.heap.size, 0, none⟩ = some (.int .i64 x) := k36.cell 0
                            have f1 : w7.cell? ⟨wr.heap.size, 1, none⟩ = some (.int .i64 y) := k36.cell 1
                            have f2 : w7.cell? ⟨wr.heap.size, 2, none⟩ = some (.int .i64 z) := k36.cell 2
                            have f32 : w7.cell? ⟨g32, 1, none⟩ = some (.slice A7 N7 c7) := hb32.cell 1
                            obtain ⟨A8, N8, c8, w8, hrun, x8, y8, P32, PO, PB, PK8⟩ := push_room (k : Int) A7 N7 c7 g32 (g32 + 1 + 1) _ ((x : Int), (y : Int), (z : Int)) w7 hb32 hO7 (by omega) (by have := hb7.size; omega) (by have := HJ256.out; simp; omega)
                            have P33 := Lib.hid (PK8 (g32 + 1) _ _ hb33 (by omega) (by omega))
                            have HR8 := Lib.hid hrun
                            have S32 := Lib.hid P32
                            have SO := Lib.hid PO
                            have SB := Lib.hid (QB.out.trans (hb7.trans PB))
                            rw [← HE0.out, ← HP2.out] at SO
                            clear hrun P32 PO PB PK8 hO7 hb33 hb32 hb7 hK7 k36 HAN Q33 Q32 QO QB Q22 Q28 Q31 Q6 Q36 QG
                            go_wp2_with (at_builtin; refine wpList_append_run rfl (.tmp 300) (.tmp 302) 22 rfl rfl rfl HR8.out ?_)
                            go_roundw
                            case rel => exact ⟨q + 1, by omega, by go_num, A8, N8, c8, by rw [HP1.out]; exact P33, S32, SO, SB⟩
                            case measure => simp [intOf]; omega
                          · obtain ⟨e1, e2⟩ := step_gt_put (x := X) (l := l) (j := q) hput
                            have HP1 := Lib.hid e1
                            have HP2 := Lib.hid e2
                            rw [hput] at Q33
                            clear hput e1 e2
                            have HAY := Lib.hid (add_yes (g32 + 1) (.pointer (some ⟨g32, 0, none⟩)) (.pointer (some ⟨g, 0, none⟩)) (.pointer (some ⟨g28, 0, none⟩)) (.pointer (some ⟨g31, 0, none⟩)) (.pointer (some ⟨w.heap.size + 1, 0, none⟩)) Vq Q33.out)
                            go_wp2_with fail
                            refine HAY.out.mono ?_
                            rintro e w7 ⟨⟨r7, rfl⟩, rfl⟩
                            clear HAY
                            have f0 : Vq.cell? ⟨wr.heap.size, 0, none⟩ = some (.int .i64 x) := Q36.out.cell 0
                            have f1 : Vq.cell? ⟨wr.heap.size, 1, none⟩ = some (.int .i64 y) := Q36.out.cell 1
                            have f2 : Vq.cell? ⟨wr.heap.size, 2, none⟩ = some (.int .i64 z) := Q36.out.cell 2
                            have f32 : Vq.cell? ⟨g32, 1, none⟩ = some (.slice A32 N32 c32) := Q32.out.cell 1
                            obtain ⟨A8, N8, c8, w8, hrun, x8, y8, P32, PO, PB, PK8⟩ := push_room (k : Int) A32 N32 c32 g32 (g32 + 1 + 1) _ ((x : Int), (y : Int), (z : Int)) Vq Q32.out QO.out (by omega) (by omega) (by have := HJ256.out; omega)
                            have P33 := Lib.hid (PK8 (g32 + 1) _ _ Q33.out (by omega) (by omega))
                            rw [hsq] at hrun
                            have HR8 := Lib.hid hrun
                            have S32 := Lib.hid P32
                            have SO := Lib.hid PO
                            have SB := Lib.hid (QB.out.trans PB)
                            rw [← HE0.out, ← HP2.out] at SO
                            clear hrun P32 PO PB PK8 Q33 Q32 QO QB Q22 Q28 Q31 Q6 Q36 QG
                            go_wp2_with (at_builtin; refine wpList_append_run rfl (.tmp 300) (.tmp 302) 22 rfl rfl rfl HR8.out ?_)
                            go_roundw
                            case rel => exact ⟨q + 1, by omega, by go_num, A8, N8, c8, by rw [HP1.out]; exact P33, S32, SO, SB⟩
                            case measure => simp [intOf]; omega
                        · have HGT : Hid (¬ X.1 < (nthG l q).1) := by show ¬ _; rw [HE0.out, HX1.out]; exact hgt
                          have hgt' : ((bb : Int) < (x : Int)) = False := eq_false hgt
                          go_quiet (fail)
                          have Q33 : Hid (Box (V.drewN nq) (g32 + 1) 4 #[.bool (putTo l X q)]) := V33
                          have Q32 : Hid (Box (V.drewN nq) g32 24 #[.int .i64 k, .slice A32 N32 c32]) := V32
                          have QO : Hid (OwnG roomC 3 42 (V.drewN nq) (g32 + 1 + 1) (.slice A32 N32 c32) (takeTo l X q)) := VO
                          have QB : Hid (Below g32 W30 (V.drewN nq)) := below_drewN VB.out nq
                          have Q22 : Hid (Box (V.drewN nq) g 33 #[.slice (some ⟨bg, og, none⟩) t c22]) := V22
                          have Q28 : Hid (Box (V.drewN nq) g28 3 #[.int .i64 pk]) := V28
                          have Q31 : Hid (Box (V.drewN nq) g31 3 #[.int .i64 L]) := V31
                          have Q6 : Hid (Box (V.drewN nq) (w.heap.size + 1) 3 #[.int .i64 M]) := V6
                          have Q36 : Hid (Box (V.drewN nq) wr.heap.size 42 #[.int .i64 x, .int .i64 y, .int .i64 z]) := V36
                          have QG : Hid (ArrG runC 2 (V.drewN nq) (g32 + 1 + 1) (some ⟨bg, og, none⟩) t (freeL l k 0)) := VG.out.more (by omega)
                          have hsq : (V.drewN nq).heap.size = wr.heap.size + 1 := hsw
                          clear V33 V32 VO VB V22 V28 V31 V6 V36 VG d36 d22 d28 dg hsw
                          generalize V.drewN nq = Vq at *
                          obtain ⟨e1, e2⟩ := step_le HGT.out
                          have HP1 := Lib.hid e1
                          have HP2 := Lib.hid e2
                          clear e1 e2
                          have f0 : Vq.cell? ⟨wr.heap.size, 0, none⟩ = some (.int .i64 x) := Q36.out.cell 0
                          have f1 : Vq.cell? ⟨wr.heap.size, 1, none⟩ = some (.int .i64 y) := Q36.out.cell 1
                          have f2 : Vq.cell? ⟨wr.heap.size, 2, none⟩ = some (.int .i64 z) := Q36.out.cell 2
                          have f32 : Vq.cell? ⟨g32, 1, none⟩ = some (.slice A32 N32 c32) := Q32.out.cell 1
                          obtain ⟨A8, N8, c8, w8, hrun, x8, y8, P32, PO, PB, PK8⟩ := push_room (k : Int) A32 N32 c32 g32 (g32 + 1 + 1) _ ((x : Int), (y : Int), (z : Int)) Vq Q32.out QO.out (by omega) (by omega) (by have := HJ256.out; omega)
                          have P33 := Lib.hid (PK8 (g32 + 1) _ _ Q33.out (by omega) (by omega))
                          rw [hsq] at hrun
                          have HR8 := Lib.hid hrun
                          have S32 := Lib.hid P32
                          have SO := Lib.hid PO
                          have SB := Lib.hid (QB.out.trans PB)
                          rw [← HE0.out, ← HP2.out] at SO
                          clear hrun P32 PO PB PK8 Q33 Q32 QO QB Q22 Q28 Q31 Q6 Q36 QG
                          go_wp2_with (at_builtin; refine wpList_append_run rfl (.tmp 300) (.tmp 302) 22 rfl rfl rfl HR8.out ?_)
                          go_roundw
                          case rel => exact ⟨q + 1, by omega, by go_num, A8, N8, c8, by rw [HP1.out]; exact P33, S32, SO, SB⟩
                          case measure => simp [intOf]; omega
                      · obtain rfl : q = j := by omega
                        have hqend : ¬ (q : Int) < (q : Int) := by omega
                        cases hput : putTo l X q
                        · have hend := takeEnd_no (l := l) (x := X) HOTH2.out (by rw [HL.out]; exact hput)
                          rw [HL.out] at hend
                          rw [hput] at B33r
                          have hJ := takeTo_len (l := l) (x := X) q
                          have HAN := Lib.hid (add_no (k : Int) A32 A22 N32 c32 t c22 (g32 + 1) g32 g g28 g31 (w.heap.size + 1) (g32 + 1 + 1) pk L M (takeTo l X q) (freeL l k 0) wr B33r.out B32r.out b22 b28 b31 hTr.b6 (hA.more (by omega)) (by omega) hpkt (by omega) HO32.out (by omega) (by omega) (by omega) (by omega))
                          clear hput hJ
                          go_wp2_with fail
                          refine HAN.out.mono ?_
                          rintro e We ⟨⟨r7, rfl⟩, A7, N7, c7, hO7, hb33, hb32, hb7, _⟩
                          rw [HGAP.out, show (((bb : Int), ((pw ii : Nat) : Int)) : Int × Int).1 = (bb : Int) from rfl, HX.out, hend] at hO7
                          have HOe := Lib.hid hO7
                          have B32e := Lib.hid hb32
                          have HBe := Lib.hid (HBr.out.trans hb7)
                          clear hO7 hb33 hb32 hb7 HAN hend
                          clear B33r B32r HO32 HBr hTr b22 b28 b31 hA
                          obtain ⟨A32, rfl⟩ : ∃ a, a = A7 := ⟨_, rfl⟩
                          obtain ⟨c32, rfl⟩ : ∃ a, a = c7 := ⟨_, rfl⟩
                          have hT7 := HT30.out.below (by rw [HG32.out]; exact HBe.out)
                          have e22 := H22'.out.below HBe.out lt22
                          have e28 := H28'.out.below HBe.out lt28
                          have e31 := H31'.out.below HBe.out lt31
                          have hA7 := HA30.out.below HBe.out (Nat.le_refl _)
                          obtain ⟨bg, og, rfl, hbg, hv0, hv1⟩ := hA7.run hpkt
                          rw [HGAP.out] at hv0
                          simp only at hv0
                          have hpk' : (pk : Int) < (t : Int) := by omega
                          obtain ⟨A33, c33, hv33, _, ha33⟩ := HOe.out.arr roomC_len
                          injection hv33 with v1 v2 v3
                          subst v1 v3
                          rw [HN11.out] at v2 ha33
                          obtain rfl : N11 = _ := v2.symm
                          clear v2
                          have hge := hT7.b12.lt
                          have z12a : ∀ p : Later We, p.w.cell? ⟨G11 + 1, 0, none⟩ = some (.int .i64 (bb : Int)) := fun p => Later.cell (W := We) (a := ⟨G11 + 1, 0, none⟩) hT7.b12.lt (hT7.b12.cell 0) p
                          have z12b : ∀ p : Later We, p.w.cell? ⟨G11 + 1, 1, none⟩ = some (.int .i64 (L : Int)) := fun p => Later.cell (W := We) (a := ⟨G11 + 1, 1, none⟩) hT7.b12.lt (hT7.b12.cell 1) p
                          have z22 : ∀ p : Later We, p.w.cell? ⟨g, 0, none⟩ = some (.slice (some ⟨bg, og, none⟩) t c22) := fun p => Later.cell (W := We) (a := ⟨g, 0, none⟩) e22.lt (e22.cell 0) p
                          have z28 : ∀ p : Later We, p.w.cell? ⟨g28, 0, none⟩ = some (.int .i64 (pk : Int)) := fun p => Later.cell (W := We) (a := ⟨g28, 0, none⟩) e28.lt (e28.cell 0) p
                          have z31 : ∀ p : Later We, p.w.cell? ⟨g31, 0, none⟩ = some (.int .i64 (L : Int)) := fun p => Later.cell (W := We) (a := ⟨g31, 0, none⟩) e31.lt (e31.cell 0) p
                          have zg : ∀ p : Later We, p.w.cell? ⟨bg, og + pk * 2, none⟩ = some (.int .i64 (bb : Int)) := fun p => Later.cell (W := We) (a := ⟨bg, og + pk * 2, none⟩) (by have := B32e.out.lt; show bg < _; omega) hv0 p
                          have z11a : ∀ p : Later We, p.w.cell? ⟨G11, 0, none⟩ = some (.int .i64 (k : Int)) := fun p => Later.cell (W := We) (a := ⟨G11, 0, none⟩) hT7.b11.lt (hT7.b11.cell 0) p
                          have z11b : ∀ p : Later We, p.w.cell? ⟨G11, 1, none⟩ = some (.slice A11 N11 c11) := fun p => Later.cell (W := We) (a := ⟨G11, 1, none⟩) hT7.b11.lt (hT7.b11.cell 1) p
                          have z32a : ∀ p : Later We, p.w.cell? ⟨g32, 0, none⟩ = some (.int .i64 (k : Int)) := fun p => Later.cell (W := We) (a := ⟨g32, 0, none⟩) B32e.out.lt (B32e.out.cell 0) p
                          have z32b : ∀ p : Later We, p.w.cell? ⟨g32, 1, none⟩ = some (.slice A32 N11 c32) := fun p => Later.cell (W := We) (a := ⟨g32, 1, none⟩) B32e.out.lt (B32e.out.cell 1) p
                          have HSq : Hid (∀ p : Later We, Calls Try.prog 12 #[.agg #[.int .i64 k, .slice A11 N11 c11], .agg #[.int .i64 k, .slice A32 N11 c32]] p.w fun e w' => e = .returned (.bool true) ∧ Below p.w.heap.size p.w w') := fun p =>
                            sameHalves_same k A11 A32 N11 c11 c32 (insL X l) p.w ((hT7.r11.below p.below (Nat.le_refl _)).more p.below.size) ((ha33.below p.below (Nat.le_refl _)).more p.below.size) (by have h1 := HN11.out; rw [insL_length] at h1; have := HL.out; unfold maxLen; omega)
                          have HBw := Lib.hid (HB30.out.trans (HBe.out.mono (by have := HB30.out.size; have := HG32.out; omega)))
                          have q1 : ((bb : Int) == (bb : Int)) = true := by simp
                          have q2 : ((L : Int) == (L : Int)) = true := by simp
                          clear hT7 e22 e28 e31 hA7 hbg hv0 hv1 ha33 hge HBe HOe B32e HT30 H22' H28' H31' HA30 HB30
                          go_wp2_with fail
                          refine wp_region_later (by kernel_rfl) (by kernel_rfl) ?_
                          repeat (go_big_quiet_step ((go_at_call 12; exact Later.call (HSq.out _))))
                          refine wpQuiet_nil ?_
                          rintro _ ⟨p, rfl⟩
                          clear z12a z12b z22 z28 z31 zg z11a z11b z32a z32b HSq
                          go_wp2
                          go_ret
                          exact ⟨rfl, HBw.out.trans (p.below.mono HBw.out.size)⟩
                        · have hend := takeEnd_put (l := l) (x := X) HOTH2.out (by rw [HL.out]; exact hput)
                          rw [HL.out] at hend
                          rw [hput] at B33r
                          have HAY := Lib.hid (add_yes (g32 + 1) (.pointer (some ⟨g32, 0, none⟩)) (.pointer (some ⟨g, 0, none⟩)) (.pointer (some ⟨g28, 0, none⟩)) (.pointer (some ⟨g31, 0, none⟩)) (.pointer (some ⟨w.heap.size + 1, 0, none⟩)) wr B33r.out)
                          rw [hend] at HO32
                          clear hput hend
                          go_wp2_with fail
                          refine HAY.out.mono ?_
                          rintro e w7 ⟨⟨r7, rfl⟩, rfl⟩
                          have HOe := HO32
                          have B32e := B32r
                          have HBe := HBr
                          clear HAY
                          clear B33r B32r HO32 HBr hTr b22 b28 b31 hA
                          have hT7 := HT30.out.below (by rw [HG32.out]; exact HBe.out)
                          have e22 := H22'.out.below HBe.out lt22
                          have e28 := H28'.out.below HBe.out lt28
                          have e31 := H31'.out.below HBe.out lt31
                          have hA7 := HA30.out.below HBe.out (Nat.le_refl _)
                          obtain ⟨bg, og, rfl, hbg, hv0, hv1⟩ := hA7.run hpkt
                          rw [HGAP.out] at hv0
                          simp only at hv0
                          have hpk' : (pk : Int) < (t : Int) := by omega
                          obtain ⟨A33, c33, hv33, _, ha33⟩ := HOe.out.arr roomC_len
                          injection hv33 with v1 v2 v3
                          subst v1 v3
                          rw [HN11.out] at v2 ha33
                          obtain rfl : N11 = _ := v2.symm
                          clear v2
                          have hge := hT7.b12.lt
                          have z12a : ∀ p : Later wr, p.w.cell? ⟨G11 + 1, 0, none⟩ = some (.int .i64 (bb : Int)) := fun p => Later.cell (W := wr) (a := ⟨G11 + 1, 0, none⟩) hT7.b12.lt (hT7.b12.cell 0) p
                          have z12b : ∀ p : Later wr, p.w.cell? ⟨G11 + 1, 1, none⟩ = some (.int .i64 (L : Int)) := fun p => Later.cell (W := wr) (a := ⟨G11 + 1, 1, none⟩) hT7.b12.lt (hT7.b12.cell 1) p
                          have z22 : ∀ p : Later wr, p.w.cell? ⟨g, 0, none⟩ = some (.slice (some ⟨bg, og, none⟩) t c22) := fun p => Later.cell (W := wr) (a := ⟨g, 0, none⟩) e22.lt (e22.cell 0) p
                          have z28 : ∀ p : Later wr, p.w.cell? ⟨g28, 0, none⟩ = some (.int .i64 (pk : Int)) := fun p => Later.cell (W := wr) (a := ⟨g28, 0, none⟩) e28.lt (e28.cell 0) p
                          have z31 : ∀ p : Later wr, p.w.cell? ⟨g31, 0, none⟩ = some (.int .i64 (L : Int)) := fun p => Later.cell (W := wr) (a := ⟨g31, 0, none⟩) e31.lt (e31.cell 0) p
                          have zg : ∀ p : Later wr, p.w.cell? ⟨bg, og + pk * 2, none⟩ = some (.int .i64 (bb : Int)) := fun p => Later.cell (W := wr) (a := ⟨bg, og + pk * 2, none⟩) (by have := B32e.out.lt; show bg < _; omega) hv0 p
                          have z11a : ∀ p : Later wr, p.w.cell? ⟨G11, 0, none⟩ = some (.int .i64 (k : Int)) := fun p => Later.cell (W := wr) (a := ⟨G11, 0, none⟩) hT7.b11.lt (hT7.b11.cell 0) p
                          have z11b : ∀ p : Later wr, p.w.cell? ⟨G11, 1, none⟩ = some (.slice A11 N11 c11) := fun p => Later.cell (W := wr) (a := ⟨G11, 1, none⟩) hT7.b11.lt (hT7.b11.cell 1) p
                          have z32a : ∀ p : Later wr, p.w.cell? ⟨g32, 0, none⟩ = some (.int .i64 (k : Int)) := fun p => Later.cell (W := wr) (a := ⟨g32, 0, none⟩) B32e.out.lt (B32e.out.cell 0) p
                          have z32b : ∀ p : Later wr, p.w.cell? ⟨g32, 1, none⟩ = some (.slice A32 N11 c32) := fun p => Later.cell (W := wr) (a := ⟨g32, 1, none⟩) B32e.out.lt (B32e.out.cell 1) p
                          have HSq : Hid (∀ p : Later wr, Calls Try.prog 12 #[.agg #[.int .i64 k, .slice A11 N11 c11], .agg #[.int .i64 k, .slice A32 N11 c32]] p.w fun e w' => e = .returned (.bool true) ∧ Below p.w.heap.size p.w w') := fun p =>
                            sameHalves_same k A11 A32 N11 c11 c32 (insL X l) p.w ((hT7.r11.below p.below (Nat.le_refl _)).more p.below.size) ((ha33.below p.below (Nat.le_refl _)).more p.below.size) (by have h1 := HN11.out; rw [insL_length] at h1; have := HL.out; unfold maxLen; omega)
                          have HBw := Lib.hid (HB30.out.trans (HBe.out.mono (by have := HB30.out.size; have := HG32.out; omega)))
                          have q1 : ((bb : Int) == (bb : Int)) = true := by simp
                          have q2 : ((L : Int) == (L : Int)) = true := by simp
                          clear hT7 e22 e28 e31 hA7 hbg hv0 hv1 ha33 hge HBe HOe B32e HT30 H22' H28' H31' HA30 HB30
                          go_wp2_with fail
                          refine wp_region_later (by kernel_rfl) (by kernel_rfl) ?_
                          repeat (go_big_quiet_step ((go_at_call 12; exact Later.call (HSq.out _))))
                          refine wpQuiet_nil ?_
                          rintro _ ⟨p, rfl⟩
                          clear z12a z12b z22 z28 z31 zg z11a z11b z32a z32b HSq
                          go_wp2
                          go_ret
                          exact ⟨rfl, HBw.out.trans (p.below.mono HBw.out.size)⟩
end Go.Proofs.Ytdieokpfkojoiaa
