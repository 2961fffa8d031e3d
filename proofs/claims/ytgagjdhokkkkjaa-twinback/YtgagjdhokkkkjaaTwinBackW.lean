/-
  The walk of TwinBack.
-/
import Derived.Test.YtgagjdhokkkkjaaTwinN
import Derived.Test.YtgagjdhokkkkjaaGood
namespace Go.Proofs.Ytgagjdhokkkkjaa
open Go.RowKit

theorem gives_back {o : Int} {l : List Room} {n : Int} {k p b i m : Nat} (T : Taking o l n k p b i m) : giveE (k : Int) (insL ((b : Int), ((pw m : Nat) : Int), n) l) b = 0 ∧ giveO (k : Int) (insL ((b : Int), ((pw m : Nat) : Int), n) l) b = k ∧ giveL (k : Int) (insL ((b : Int), ((pw m : Nat) : Int), n) l) b = l := by
  have h1 : giveE (k : Int) (insL ((b : Int), ((pw m : Nat) : Int), n) l) b = 0 := by
    unfold giveE
    rw [if_pos T.after.ok, if_pos]
    exact List.any_eq_true.2 ⟨_, mem_insL.2 (.inl rfl), by simp⟩
  refine ⟨h1, by unfold giveO; rw [if_pos h1], ?_⟩
  unfold giveL
  rw [if_pos h1]
  exact erase_ins (x := ((b : Int), ((pw m : Nat) : Int), n)) T.other

set_option maxRecDepth 8000 in
set_option maxHeartbeats 2000000 in
theorem twinBack_walk (o : Int) (A : Option Addr) (n c : Nat) (l : List Room) (m : Int) (w : World) (hH : HalvesIn w A n c l) :
    Calls Try.prog 5 #[.agg #[.int .i64 o, .slice A n c], .int .i64 m] w fun e w' => e = .returned (.bool true) ∧ Below w.heap.size w w' := by
  obtain ⟨hnc, hR⟩ := hH
  have b0 := (Below.refl _ w).alloc (Nat.le_refl _) (.cells #[.int .i64 o, .slice A n c] 24)
  have x0 := Box.new w 24 #[.int .i64 o, .slice A n c]
  have HT := Lib.hid (twins_any (w.alloc (.cells #[.int .i64 o, .slice A n c] 24)))
  have HB0 := Lib.hid b0
  have HX0 := Lib.hid x0
  have HR := Lib.hid hR
  clear b0 x0 hR
  go_enter Try.func5, Try.ntmps5
  go_wp2_with fail
  refine HT.out.mono ?_
  rintro e w1 ⟨rfl, hb1⟩
  have B0 := HX0.out.below hb1 HX0.out.lt
  have hb := HB0.out.trans (hb1.mono HB0.out.size)
  have HTk := Lib.hid (takeH_any o A n c l m w1 hnc (HR.out.below hb))
  unfold TakePH at HTk
  have c0 : w1.cell? ⟨w.heap.size, 0, none⟩ = some (.int .i64 o) := B0.cell 0
  have c1 : w1.cell? ⟨w.heap.size, 1, none⟩ = some (.slice A n c) := B0.cell 1
  have HB := Lib.hid hb
  have HB1 := Lib.hid B0
  clear hb1 HT HX0 HB0 B0 hb
  go_wp2_with fail
  refine HTk.out.mono ?_
  rintro e w2 ⟨v, rfl, hO, hb2⟩
  obtain ⟨A2, c2, rfl, _, _⟩ := hO.arr roomC_len
  have B0 := HB1.out.below hb2 HB1.out.lt
  have hb := HB.out.trans (hb2.mono HB.out.size)
  clear HTk c0 c1 HB1 HB hb2
  by_cases hE : takeE o l m = 0
  · obtain ⟨k, p, b, i, j, T⟩ := takeE_zero hE
    obtain rfl := T.order
    obtain ⟨u1, u2, u3, u4⟩ := take_some hE
    rw [T.taken] at u2 u3 u4
    rw [u4] at hO ⊢
    simp only at u2 u3
    rw [u1, u2, u3, hE]
    obtain ⟨hN, hNc, hRm⟩ := hO.rooms T.after
    have hlen := insL_length ((b : Int), ((pw j : Nat) : Int), m) l
    have hln := HR.out.2.1.1
    have hN1 : (insL ((b : Int), ((pw j : Nat) : Int), m) l).length = n + 1 := by rw [hlen, hln]
    have hn256 : n ≤ 256 := by have := T.right.len; have := pw_256 T.right.small; omega
    have y1 := (B0.alloc (.cells #[.int .i64 k, .slice A2 (n + 1) c2] 24)).alloc (.cells #[.int .i64 b, .int .i64 (pw j)] 29)
    have z1 : (w2.alloc (.cells #[.int .i64 k, .slice A2 (n + 1) c2] 24)).heap.size = w2.heap.size + 1 := by simp
    have v1 := ((Below.refl _ w2).alloc (Nat.le_refl _) (.cells #[.int .i64 k, .slice A2 (n + 1) c2] 24)).alloc (by omega) (.cells #[.int .i64 b, .int .i64 (pw j)] 29)
    rw [hN1] at hRm hNc ⊢
    have HG := Lib.hid (give_any k A2 (n + 1) c2 (insL ((b : Int), ((pw j : Nat) : Int), m) l) b _ hNc (hRm.below v1))
    obtain ⟨g1, g2, g3⟩ := gives_back T
    unfold GiveP at HG
    rw [g1, g2, g3] at HG
    have HBv := Lib.hid (hb.trans (v1.mono hb.size))
    have Y1 := Lib.hid y1
    have HGp : Hid (∀ A' c' wx, RoomsIn wx A' n l → Calls Try.prog 10 #[.agg #[.int .i64 k, .slice A' n c']] wx fun e w' => ∃ v, e = .returned (.tuple #[v, .int .i64 0]) ∧ OwnG runC 2 29 w' wx.heap.size v (freeL l k 0) ∧ Below wx.heap.size wx w') := fun A' c' wx h => by
      have := gapsT_any k A' n c' l wx h
      unfold GapsP at this
      have hg : gapsH (k : Int) l = freeL l k 0 := by unfold gapsH; rw [if_pos T.ok]; rfl
      rw [T.ok, hg] at this
      exact this
    have HRt := Lib.hid T.right
    have hgl := freeL_len l k 0
    have h256 := pw_256 T.right.small
    have hgl2 : (freeL l k 0).length ≤ 256 := by omega
    clear hO hRm hN hNc u1 u2 u3 u4 T hlen hN1 y1 v1 z1 hb B0 hE g1 g2 g3 hgl h256
    generalize pw j = L at *
    generalize freeL l k 0 = G at *
    go_wp2_with fail
    refine HG.out.mono ?_
    rintro e w3 ⟨v3, rfl, hO3, hb3⟩
    obtain ⟨A3, c3, rfl, hc3, hA3⟩ := hO3.arr roomC_len
    obtain ⟨_, _, hR3⟩ := hO3.rooms HRt.out
    rw [hln] at hR3 hA3 hc3 ⊢
    have D1 := (Y1.out.below hb3 Y1.out.lt).alloc (.cells #[.int .i64 k, .slice A3 n c3] 24)
    have D8 := Box.new w3 24 #[.int .i64 k, .slice A3 n c3]
    have v3 := (Below.refl _ w3).alloc (Nat.le_refl _) (.cells #[.int .i64 k, .slice A3 n c3] 24)
    have hb := HBv.out.trans (hb3.mono HBv.out.size)
    have hbv := hb.trans (v3.mono hb.size)
    have HR3 := Lib.hid (hR3.below v3)
    have HQ1 := Lib.hid (HGp.out A c _ (HR.out.below hbv))
    have HB := Lib.hid hbv
    have c0 : (w3.alloc (.cells #[.int .i64 k, .slice A3 n c3] 24)).cell? ⟨w.heap.size, 0, none⟩ = some (.int .i64 k) := D1.cell 0
    have c1 : (w3.alloc (.cells #[.int .i64 k, .slice A3 n c3] 24)).cell? ⟨w.heap.size, 1, none⟩ = some (.slice A n c) := D1.cell 1
    have E1 := Lib.hid D1
    have E8 := Lib.hid D8
    clear hb hbv hb3 v3 hR3 hA3 hc3 hO3 D1 D8 HG Y1 HBv
    go_wp2_with fail
    refine HQ1.out.mono ?_
    rintro e w4 ⟨v4, rfl, hO4, hb4⟩
    obtain ⟨A4, c4, rfl, hc4, hA4⟩ := hO4.arr runC_len
    have F1 := E1.out.below hb4 E1.out.lt
    have F8 := E8.out.below hb4 E8.out.lt
    have hbv := HB.out.trans (hb4.mono HB.out.size)
    have HR4 := Lib.hid (HR3.out.below hb4)
    have HQ2 := Lib.hid (HGp.out A3 c3 _ HR4.out)
    have HB4 := Lib.hid hbv
    have HA4 := Lib.hid hA4
    have d0 : w4.cell? ⟨w3.heap.size, 0, none⟩ = some (.int .i64 k) := F8.cell 0
    have d1 : w4.cell? ⟨w3.heap.size, 1, none⟩ = some (.slice A3 n c3) := F8.cell 1
    have G1 := Lib.hid F1
    have G8 := Lib.hid F8
    clear hbv hb4 hc4 hA4 hO4 F1 F8 HQ1 E1 E8 HB c0 c1 HR3
    go_wp2_with fail
    refine HQ2.out.mono ?_
    rintro e w5 ⟨v5, rfl, hO5, hb5⟩
    obtain ⟨A5, c5, rfl, hc5, hA5⟩ := hO5.arr runC_len
    have F1 := G1.out.below hb5 G1.out.lt
    have F8 := G8.out.below hb5 G8.out.lt
    have hbv := HB4.out.trans (hb5.mono HB4.out.size)
    have W := whole_new .i64 25 w5 [0, 0, 0] (by decide)
    have a6 := (Below.refl _ w5).alloc (Nat.le_refl _) (.cells (([0, 0, 0] : List Int).map (Value.int .i64)).toArray 25)
    have hbw := hbv.trans (a6.mono hbv.size)
    have P1 := F1.below a6 F1.lt
    have P8 := F8.below a6 F8.lt
    have M1 := ((HA4.out.below hb5 (Nat.le_refl _)).more hb5.size).below a6 (Nat.le_refl _)
    have M2 := hA5.below a6 (Nat.le_refl _)
    have R1 := (HR4.out.below hb5).below a6
    have R0 := HR.out.below hbw
    simp only [List.map_cons, List.map_nil] at W a6 P1 P8 M1 M2 R1 R0 hbw
    have hgood := good_any (some ⟨w5.heap.size, 0, none⟩) 3 3 (w5.heap.size + 1) [0, 0, 0] _ (by decide) (W.arr (Nat.lt_succ_self _))
    have hbad : (!bad [0, 0, 0]) = true := by decide
    rw [hbad] at hgood
    have HGo := Lib.hid hgood
    have c0 : (w5.alloc (.cells #[.int .i64 0, .int .i64 0, .int .i64 0] 25)).cell? ⟨w.heap.size, 0, none⟩ = some (.int .i64 k) := P1.cell 0
    have c1 : (w5.alloc (.cells #[.int .i64 0, .int .i64 0, .int .i64 0] 25)).cell? ⟨w.heap.size, 1, none⟩ = some (.slice A n c) := P1.cell 1
    have e0 : (w5.alloc (.cells #[.int .i64 0, .int .i64 0, .int .i64 0] 25)).cell? ⟨w3.heap.size, 0, none⟩ = some (.int .i64 k) := P8.cell 0
    have e1 : (w5.alloc (.cells #[.int .i64 0, .int .i64 0, .int .i64 0] 25)).cell? ⟨w3.heap.size, 1, none⟩ = some (.slice A3 n c3) := P8.cell 1
    have HS1 := Lib.hid (equalRooms_same A3 A n c3 c (w5.alloc (.cells #[.int .i64 0, .int .i64 0, .int .i64 0] 25)).heap.size l _ R1.2.1 R0.2.1 R0.1)
    have HS2 : Hid (∀ q, Calls Try.prog 23 #[.slice A4 G.length c4, .slice A5 G.length c5] ((w5.alloc (.cells #[.int .i64 0, .int .i64 0, .int .i64 0] 25)).drewN q) fun e w' => e = .returned (.bool true) ∧ ∃ q', ((w5.alloc (.cells #[.int .i64 0, .int .i64 0, .int .i64 0] 25)).drewN q).drewN q' = w') := fun q => by
      have := equalRuns A4 A5 G.length G.length c4 c5 _ G G _ (M1.drewN q) (M2.drewN q) (by unfold maxLen; omega) (by unfold maxLen; omega)
      rw [show decide (G = G) = true by simp] at this
      exact this
    have HBw := Lib.hid hbw
    clear hbv hbw hb5 hc5 hA5 hO5 F1 F8 HQ2 G1 G8 HB4 d0 d1 HR4 HA4 W a6 P1 P8 M1 M2 R1 R0 hgood hbad HR HRt HGp
    generalize G.length = gn at *
    go_wp2_with fail
    generalize (w5.alloc (.cells #[.int .i64 0, .int .i64 0, .int .i64 0] 25)) = w6 at *
    refine HGo.out.mono ?_
    rintro e w' ⟨rfl, rfl⟩
    go_wp2_with fail
    refine HS1.out.mono ?_
    rintro e w' ⟨rfl, q, rfl⟩
    have HQ := Lib.hid (HS2.out q)
    have HBq := Lib.hid (below_drewN HBw.out q)
    clear HS1 HS2 HGo c0 c1 e0 e1
    generalize w6.drewN q = w7 at *
    go_wp2_with fail
    refine HQ.out.mono ?_
    rintro e w' ⟨rfl, q', rfl⟩
    go_wp2
    go_ret
    exact ⟨rfl, below_drewN HBq.out q'⟩
  · have hne : (takeE o l m != 0) = true := by simpa using hE
    generalize takeO o l m = x1 at *
    generalize takeA o l m = x2 at *
    generalize takeB o l m = x3 at *
    generalize (takeLH o l m).length = x4 at *
    have v1 := ((Below.refl _ w2).alloc (Nat.le_refl _) (.cells #[.int .i64 x1, .slice A2 x4 c2] 24)).alloc (Nat.le_of_lt (by simp)) (.cells #[.int .i64 x2, .int .i64 x3] 29)
    have HBe := Lib.hid (hb.trans (v1.mono hb.size))
    clear hO v1 hb HR B0
    generalize takeE o l m = E at *
    go_wp2
    go_ret
    exact ⟨rfl, HBe.out⟩
end Go.Proofs.Ytgagjdhokkkkjaa
