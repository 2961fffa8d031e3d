/-
  PinTurns: the law's walk.
-/
import Derived.Test.YtkjaghalcoehgaaPinTW
namespace Go.Proofs.Ytkjaghalcoehgaa
open Go.RowKit

set_option maxHeartbeats 400000 in
theorem pinsAlive (w : World) : Calls Try.prog 13 #[] w fun e w' => e = .returned (.bool true) ∧ Below w.heap.size w w' := by
  have HA := Lib.hid (add_good none 0 0 [] 4 w ArrG.zero (by decide))
  unfold NewPins at HA
  rw [show manyL [] 4 + 1 = 1 from rfl, show addL [] 4 = [(4, 1)] from rfl] at HA
  go_enter Try.func13, Try.ntmps13
  go_wp2_with fail
  refine HA.out.mono ?_
  rintro e w1 ⟨A, m, c, rfl, hm, _, b1⟩
  obtain rfl : m = 1 := by first | exact hm.symm | (simp at hm; omega)
  have HB := Lib.hid b1
  clear b1 hm
  go_wp2
  go_ret
  exact ⟨rfl, HB.out⟩

set_option maxRecDepth 8000 in
set_option maxHeartbeats 1000000 in
theorem pinTurns_bad (A : Option Addr) (n c : Nat) (a o : Int) (l : List (Int × Int)) (w : World) (hn : n ≤ maxLen) (ha : ArrG runC 2 w w.heap.size A n l) (hE : addE l a ≠ 0) :
    Calls Try.prog 4 #[.slice A n c, .int .i64 a, .int .i64 o] w fun e w' => e = .returned (.bool true) ∧ Below w.heap.size w w' := by
  have HA : Hid (∀ wx, Below w.heap.size w wx → ArrG runC 2 wx wx.heap.size A n l) := fun wx hb => (ha.below hb (Nat.le_refl _)).more hb.size
  have HAdd := Lib.hid (fun wx hb => add_bad A n c l a wx hn (HA.out wx hb) hE)
  have HP := Lib.hid (pinsAlive w)
  unfold NoPins at HAdd
  obtain ⟨E, hEE⟩ : ∃ E, addE l a = E := ⟨_, rfl⟩
  rw [hEE] at HAdd hE
  have c1 : (E != 0) = true := by simpa using hE
  clear ha hE hEE
  go_enter Try.func4, Try.ntmps4
  go_wp2_with fail
  refine HP.out.mono ?_
  rintro e w1 ⟨rfl, b1⟩
  have HB1 := Lib.hid b1
  clear b1
  go_wp2_with fail
  refine (HAdd.out _ HB1.out).mono ?_
  rintro e w2 ⟨rfl, b2⟩
  have HB2 := Lib.hid (HB1.out.trans (b2.mono HB1.out.size))
  clear b2
  go_wp2
  go_ret
  exact ⟨rfl, HB2.out⟩

theorem dropE_add {l : List (Int × Int)} {a : Int} (h : pinE l = 0) (ha : 0 ≤ a ∧ a < 256) (hf : pinFull l a = false) (hm : 0 ≤ manyL l a) : dropE (addL l a) a = 0 := by
  have h1 : callE (addL l a) a = 0 := callE_ok.2 ⟨add_ok h ha hf, ha⟩
  have h2 := many_add (a := a) (pinE_ok.1 h).2.2 a
  rw [if_pos rfl] at h2
  unfold dropE
  rw [if_pos h1, if_neg (by omega)]

set_option maxRecDepth 8000 in
set_option maxHeartbeats 4000000 in
theorem pinTurns_ok (A : Option Addr) (n c : Nat) (a o : Int) (l : List (Int × Int)) (w : World) (ha : ArrG runC 2 w w.heap.size A n l) (hE : addE l a = 0) :
    Calls Try.prog 4 #[.slice A n c, .int .i64 a, .int .i64 o] w fun e w' => e = .returned (.bool true) ∧ Below w.heap.size w w' := by
  have h0 : callE l a = 0 := by
    unfold addE at hE
    by_cases h : callE l a = 0
    · exact h
    · rw [if_neg h] at hE; exact hE
  have hf : pinFull l a = false := by
    unfold addE at hE
    rw [if_pos h0] at hE
    cases h : pinFull l a
    · rfl
    · rw [h] at hE; exact absurd hE (by decide)
  obtain ⟨hp, hw⟩ := callE_ok.1 h0
  obtain ⟨h16, _, hrise⟩ := pinE_ok.1 hp
  have hl := ha.1
  have hn16 : n ≤ 16 := by omega
  have hn : n ≤ maxLen := by unfold maxLen; omega
  have hb : 0 ≤ manyL l a ∧ manyL l a ≤ 1000000 := by
    by_cases hm : ∀ x ∈ l, x.1 ≠ a
    · obtain ⟨_, _, _, _, h, _⟩ := pin_out hrise hm
      omega
    · obtain ⟨_, _, _, _, _, h, _⟩ := pin_in hrise hm
      have := many_pos hp h
      omega
  have hq := add_ok hp hw hf
  have hdr := dropE_add hp hw hf hb.1
  have hma := many_add (a := a) hrise a
  rw [if_pos rfl] at hma
  have hmo := many_add (a := a) hrise o
  have hback := drop_add (a := a) (pins_of hp)
  have hq16 := (pinE_ok.1 hq).1
  have hco : callE (addL l a) o = callE l o := by unfold callE; rw [hp, hq]
  have HA : Hid (∀ wx, Below w.heap.size w wx → ArrG runC 2 wx wx.heap.size A n l) := fun wx hb => (ha.below hb (Nat.le_refl _)).more hb.size
  have HAdd := Lib.hid (fun wx hb => add_good A n c l a wx (HA.out wx hb) hE)
  have HP := Lib.hid (pinsAlive w)
  have HDrop := Lib.hid (fun A2 m2 c2 wx (hx : ArrG runC 2 wx wx.heap.size A2 m2 (addL l a)) => drop_good A2 m2 c2 (addL l a) a wx hx hdr)
  have HMx := Lib.hid (fun wx hb => many_any A n c l o wx hn (HA.out wx hb))
  have HMy := Lib.hid (fun A2 m2 c2 wx (hx : ArrG runC 2 wx wx.heap.size A2 m2 (addL l a)) => many_any A2 m2 c2 (addL l a) o wx (by have := hx.1; unfold maxLen; omega) hx)
  have HCk := Lib.hid (fun A2 m2 c2 wx (hx : ArrG runC 2 wx wx.heap.size A2 m2 (addL l a)) => pinCheck_any A2 m2 c2 (addL l a) wx (by have := hx.1; unfold maxLen; omega) hx)
  have HEq := Lib.hid (fun A3 c3 wx (hx : ArrG runC 2 wx wx.heap.size A3 n l) hb => equalPins_same A3 A n c3 c wx.heap.size l wx hx (HA.out wx hb) hn)
  rw [hq] at HCk
  rw [hback, hma] at HDrop
  rw [hco] at HMy
  unfold NewPins at HAdd HDrop
  obtain ⟨X, hX⟩ : ∃ X, (if callE l o = 0 then manyL l o else 0) = X := ⟨_, rfl⟩
  obtain ⟨Y, hY⟩ : ∃ Y, (if callE l o = 0 then manyL (addL l a) o else 0) = Y := ⟨_, rfl⟩
  obtain ⟨G, hG⟩ : ∃ G, callE l o = G := ⟨_, rfl⟩
  obtain ⟨M, hM⟩ : ∃ M, manyL l a = M := ⟨_, rfl⟩
  have hXY : G ≠ 0 ∨ (G = 0 ∧ o = a ∧ X = M ∧ Y = M + 1) ∨ (G = 0 ∧ o ≠ a ∧ Y = X) := by
    by_cases hg : G = 0
    · right
      rw [hG, if_pos hg] at hX hY
      by_cases ho : o = a
      · left
        rw [if_pos ho] at hmo
        subst ho
        exact ⟨hg, rfl, by omega, by omega⟩
      · right
        rw [if_neg ho] at hmo
        exact ⟨hg, ho, by omega⟩
    · exact .inl hg
  rw [hX] at HMx
  rw [hY] at HMy
  rw [hG] at HMx HMy
  rw [hM] at HAdd HDrop hb
  have HL := Lib.hid hl
  have n1 : (G != G) = false := by simp
  have n2 : (M != M) = false := by simp
  have n3 : (M + 1 != M + 1) = false := by simp
  clear ha hE h0 hf hp hw h16 hrise hl hn hq hdr hma hmo hback hq16 hco hX hY hG hM
  go_enter Try.func4, Try.ntmps4
  go_wp2_with fail
  refine HP.out.mono ?_
  rintro e w1 ⟨rfl, b1⟩
  have HB1 := Lib.hid b1
  clear b1
  go_wp2_with fail
  refine (HAdd.out _ HB1.out).mono ?_
  rintro e w2 ⟨A2, m2, c2, rfl, hm2, hO2, b2⟩
  have HB2 := Lib.hid (HB1.out.trans (b2.mono HB1.out.size))
  have HO2 := Lib.hid hO2
  clear b2 hm2 hO2
  go_wp2_with fail
  refine (HDrop.out A2 m2 c2 w2 (arr_own runC_len HO2.out)).mono ?_
  rintro e w3 ⟨A3, m3, c3, rfl, hm3, hO3, b3⟩
  obtain rfl : m3 = n := by rw [← hm3]; exact HL.out
  have HB3 := Lib.hid (HB2.out.trans (b3.mono HB2.out.size))
  have HO2b := Lib.hid (HO2.out.below b3)
  have HO3 := Lib.hid hO3
  clear b3 hm3 hO3
  go_wp2_with fail
  refine (HMx.out w3 HB3.out).mono ?_
  rintro e w4 ⟨rfl, b4⟩
  have HB4 := Lib.hid (HB3.out.trans (b4.mono HB3.out.size))
  have HO2c := Lib.hid (HO2b.out.below b4)
  have HO3c := Lib.hid (HO3.out.below b4)
  clear b4
  go_wp2_with fail
  refine (HMy.out A2 m2 c2 w4 (arr_own runC_len HO2c.out)).mono ?_
  rintro e w5 ⟨rfl, b5⟩
  have HB5 := Lib.hid (HB4.out.trans (b5.mono HB4.out.size))
  have HO2d := Lib.hid (HO2c.out.below b5)
  have HO3d := Lib.hid (HO3c.out.below b5)
  clear b5
  go_wp2_with fail
  refine (HCk.out A2 m2 c2 w5 (arr_own runC_len HO2d.out)).mono ?_
  rintro e w6 ⟨rfl, b6⟩
  have HB6 := Lib.hid (HB5.out.trans (b6.mono HB5.out.size))
  have HO3e := Lib.hid (HO3d.out.below b6)
  clear b6
  go_wp2_with fail
  refine (HEq.out A3 c3 w6 (arr_own runC_len HO3e.out) HB6.out).mono ?_
  rintro e w7 ⟨rfl, q, rfl⟩
  have HB7 := Lib.hid (below_drewN HB6.out q)
  clear HP HAdd HDrop HMx HMy HCk HEq HB1 HB2 HB3 HB4 HB5 HB6 HO2 HO2b HO2c HO2d HO3 HO3c HO3d HO3e
  generalize (w6.drewN q) = W at *
  rcases hXY with hg | ⟨rfl, rfl, rfl, rfl⟩ | ⟨rfl, ho, rfl⟩
  · have g1 : (G != 0) = true := by simpa using hg
    clear hg
    go_wp2
    go_ret
    exact ⟨rfl, HB7.out⟩
  · have g2 : (o == o) = true := by simp
    have g3 : (X + 1 == X + 1) = true := by simp
    go_wp2
    go_ret
    exact ⟨rfl, HB7.out⟩
  · have g2 : (o == a) = false := by simpa using ho
    have g3 : (o != a) = true := by simpa using ho
    have g4 : (Y == Y) = true := by simp
    clear ho
    go_wp2
    go_ret
    exact ⟨rfl, HB7.out⟩

theorem pinTurns_walk (A : Option Addr) (n c : Nat) (a o : Int) (l : List (Int × Int)) (w : World) (hn : n ≤ maxLen) (ha : ArrG runC 2 w w.heap.size A n l) :
    Calls Try.prog 4 #[.slice A n c, .int .i64 a, .int .i64 o] w fun e w' => e = .returned (.bool true) ∧ Below w.heap.size w w' := by
  by_cases hE : addE l a = 0
  · exact pinTurns_ok A n c a o l w ha hE
  · exact pinTurns_bad A n c a o l w hn ha hE
end Go.Proofs.Ytkjaghalcoehgaa
