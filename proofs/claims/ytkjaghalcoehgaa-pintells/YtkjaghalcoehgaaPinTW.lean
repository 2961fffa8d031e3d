/-
  PinTells: the law's walk.
-/
import Derived.Test.YtkjaghalcoehgaaPinR
import Derived.OwnWalk
namespace Go.Proofs.Ytkjaghalcoehgaa
open Go.RowKit

/-- What Add answers, whatever it is. -/
def AddP (l : List (Int × Int)) (a : Int) (w : World) (e : Ending) (w' : World) : Prop := ∃ A m c k, e = .returned (.tuple #[.slice A m c, .int .i64 k, .int .i64 (addE l a)]) ∧ Below w.heap.size w w' ∧ (addE l a ≠ 0 → m = 0 ∧ k = 0) ∧
  (addE l a = 0 → k = manyL l a + 1 ∧ (addL l a).length = m ∧ OwnG runC 2 36 w' w.heap.size (.slice A m c) (addL l a))
def DropP (l : List (Int × Int)) (a : Int) (w : World) (e : Ending) (w' : World) : Prop := ∃ A m c k, e = .returned (.tuple #[.slice A m c, .int .i64 k, .int .i64 (dropE l a)]) ∧ Below w.heap.size w w' ∧ (dropE l a ≠ 0 → m = 0 ∧ k = 0) ∧
  (dropE l a = 0 → k = manyL l a - 1 ∧ (dropL l a).length = m ∧ OwnG runC 2 36 w' w.heap.size (.slice A m c) (dropL l a))
theorem add_any (A : Option Addr) (n c : Nat) (l : List (Int × Int)) (a : Int) (w : World) (hn : n ≤ maxLen) (ha : ArrG runC 2 w w.heap.size A n l) :
    Calls Try.prog 6 #[.slice A n c, .int .i64 a] w (AddP l a w) := by
  by_cases h : addE l a = 0
  · refine (add_good A n c l a w ha h).mono ?_
    rintro e w' ⟨A', m, c', he, hm, hO, hB⟩
    exact ⟨A', m, c', _, by rw [h]; exact he, hB, fun h1 => absurd h h1, fun _ => ⟨rfl, hm, hO⟩⟩
  · refine (add_bad A n c l a w hn ha h).mono ?_
    rintro e w' ⟨he, hB⟩
    exact ⟨none, 0, 0, 0, he, hB, fun _ => ⟨rfl, rfl⟩, fun h1 => absurd h1 h⟩
theorem drop_any (A : Option Addr) (n c : Nat) (l : List (Int × Int)) (a : Int) (w : World) (hn : n ≤ maxLen) (ha : ArrG runC 2 w w.heap.size A n l) :
    Calls Try.prog 7 #[.slice A n c, .int .i64 a] w (DropP l a w) := by
  by_cases h : dropE l a = 0
  · refine (drop_good A n c l a w ha h).mono ?_
    rintro e w' ⟨A', m, c', he, hm, hO, hB⟩
    exact ⟨A', m, c', _, by rw [h]; exact he, hB, fun h1 => absurd h h1, fun _ => ⟨rfl, hm, hO⟩⟩
  · refine (drop_bad A n c l a w hn ha h).mono ?_
    rintro e w' ⟨he, hB⟩
    exact ⟨none, 0, 0, 0, he, hB, fun _ => ⟨rfl, rfl⟩, fun h1 => absurd h1 h⟩

theorem own_grown {α : Type} {enc : α → List Value} {size : Nat} {e : TypeId} {w w' : World} {base gm : Nat} {v : Value} {l : List α} (h : OwnG enc size e w base v l) (hg : w.grownBy w' (some gm)) (hne : ∀ g, v.ownBlock = some g → g ≠ gm) : OwnG enc size e w' base v l := by
  have hlt := h.rowLt
  obtain ⟨hl, h2⟩ := h
  refine ⟨hl, h2.imp id ?_⟩
  rintro ⟨g, cap, cur, rfl, hb, hh, r⟩
  have h1 : (Value.slice (some ⟨g, 0, none⟩) l.length cap).ownBlock = some g := rfl
  refine ⟨g, cap, cur, rfl, hb, ?_, r⟩
  rw [hg.block g (hlt g h1) (by intro e; injection e with e; exact hne g h1 e)]
  exact hh
theorem arr_own {α : Type} [Inhabited α] {enc : α → List Value} {size : Nat} (hs : ∀ a, (enc a).length = size) {e : TypeId} {w : World} {base m c : Nat} {A : Option Addr} {l : List α} (h : OwnG enc size e w base (.slice A m c) l) : ArrG enc size w w.heap.size A m l := by
  obtain ⟨A', c', e1, _, h2⟩ := h.arr hs
  injection e1 with e1 e2 e3
  subst e1; subst e2; subst e3
  exact h2

set_option maxRecDepth 8000 in
set_option maxHeartbeats 2000000 in
theorem pinTells_bad (A : Option Addr) (n c : Nat) (a : Int) (l : List (Int × Int)) (w : World) (hn : n ≤ maxLen) (ha : ArrG runC 2 w w.heap.size A n l) (hE : callE l a ≠ 0) :
    Calls Try.prog 3 #[.slice A n c, .int .i64 a] w fun e w' => e = .returned (.bool true) ∧ Below w.heap.size w w' := by
  have HA : Hid (∀ wx, Below w.heap.size w wx → ArrG runC 2 wx wx.heap.size A n l) := fun wx hb => (ha.below hb (Nat.le_refl _)).more hb.size
  have HM := Lib.hid (many_any A n c l a w hn ha)
  have HAdd := Lib.hid (fun wx hb => add_any A n c l a wx hn (HA.out wx hb))
  have HDrop := Lib.hid (fun wx hb => drop_any A n c l a wx hn (HA.out wx hb))
  have HF := Lib.hid (fun wx hb => pinsFault_any A n c l wx hn (HA.out wx hb))
  have HC := Lib.hid (fun wx hb => pinCheck_any A n c l wx hn (HA.out wx hb))
  have hadd : addE l a = callE l a := by unfold addE; rw [if_neg hE]
  have hdrop : dropE l a = callE l a := by unfold dropE; rw [if_neg hE]
  rw [if_neg hE] at HM
  unfold AddP at HAdd
  unfold DropP at HDrop
  rw [hadd] at HAdd
  rw [hdrop] at HDrop
  obtain ⟨E, hEE⟩ : ∃ E, callE l a = E := ⟨_, rfl⟩
  obtain ⟨F, hFF⟩ : ∃ F, pinE l = F := ⟨_, rfl⟩
  rw [hEE] at HM HAdd HDrop hE
  rw [hFF] at HF HC
  have hcase : (F ≠ 0 ∧ E = F) ∨ (F = 0 ∧ E = 4 ∧ (a < 0 ∨ 255 < a)) := by
    unfold callE at hEE
    rw [hFF] at hEE
    by_cases h : F = 0
    · rw [if_pos h] at hEE
      unfold wordE at hEE
      split at hEE
      · omega
      · right; omega
    · rw [if_neg h] at hEE
      left; exact ⟨h, hEE.symm⟩
  clear ha hadd hdrop hEE hFF
  have n1 : (F != F) = false := by simp
  have n2 : (E == E) = true := by simp
  have HE := Lib.hid hE
  clear hE
  go_enter Try.func3, Try.ntmps3
  go_wp2_with fail
  refine HM.out.mono ?_
  rintro e w1 ⟨rfl, b1⟩
  have HB1 := Lib.hid b1
  clear b1
  go_wp2_with fail
  refine (HAdd.out _ HB1.out).mono ?_
  rintro e w2 ⟨A2, m2, c2, k2, rfl, b2, h2, _⟩
  obtain ⟨rfl, rfl⟩ := h2 HE.out
  have HB2 := Lib.hid (HB1.out.trans (b2.mono HB1.out.size))
  clear b2 h2
  go_wp2_with fail
  refine (HDrop.out _ HB2.out).mono ?_
  rintro e w3 ⟨A3, m3, c3, k3, rfl, b3, h3, _⟩
  obtain ⟨rfl, rfl⟩ := h3 HE.out
  have HB3 := Lib.hid (HB2.out.trans (b3.mono HB2.out.size))
  clear b3 h3
  go_wp2_with fail
  refine (HF.out _ HB3.out).mono ?_
  rintro e w4 ⟨rfl, b4⟩
  have HB4 := Lib.hid (HB3.out.trans (b4.mono HB3.out.size))
  clear b4
  go_wp2_with fail
  refine (HC.out _ HB4.out).mono ?_
  rintro e w5 ⟨rfl, b5⟩
  have HB5 := Lib.hid (HB4.out.trans (b5.mono HB4.out.size))
  clear b5 HB1 HB2 HB3 HB4 HM HAdd HDrop HF HC
  rcases hcase with ⟨hf, rfl⟩ | ⟨rfl, rfl, hr⟩
  · have f1 : (E == 0) = false := by simpa using hf
    have f2 : (E != 0) = true := by simpa using hf
    clear hf
    go_wp2
    go_ret
    exact ⟨rfl, HB5.out⟩
  · by_cases h0 : a < 0
    · have x1 : (a < 0) = True := eq_true h0
      clear hr h0
      go_wp2
      go_ret
      exact ⟨rfl, HB5.out⟩
    · have x1 : (a < 0) = False := eq_false h0
      have x2 : (255 < a) = True := eq_true (by omega)
      clear hr h0
      go_wp2
      go_ret
      exact ⟨rfl, HB5.out⟩

set_option maxRecDepth 8000 in
set_option maxHeartbeats 4000000 in
theorem pinTells_full_none (A : Option Addr) (n c : Nat) (a : Int) (l : List (Int × Int)) (w : World) (ha : ArrG runC 2 w w.heap.size A n l) (hE : callE l a = 0) (hFu : pinFull l a = true) (hM0 : manyL l a = 0) :
    Calls Try.prog 3 #[.slice A n c, .int .i64 a] w fun e w' => e = .returned (.bool true) ∧ Below w.heap.size w w' := by
  have hl := ha.1
  obtain ⟨hp, ha0, ha1⟩ := callE_ok.1 hE
  obtain ⟨h16, _, hrise⟩ := pinE_ok.1 hp
  have hn16 : n ≤ 16 := by omega
  have hn : n ≤ maxLen := by unfold maxLen; omega
  have hpins := pins_of hp
  have HA : Hid (∀ wx, Below w.heap.size w wx → ArrG runC 2 wx wx.heap.size A n l) := fun wx hb => (ha.below hb (Nat.le_refl _)).more hb.size
  have HM := Lib.hid (many_any A n c l a w hn ha)
  have HAdd := Lib.hid (fun wx hb => add_any A n c l a wx hn (HA.out wx hb))
  have HDrop := Lib.hid (fun wx hb => drop_any A n c l a wx hn (HA.out wx hb))
  have HF := Lib.hid (fun wx hb => pinsFault_any A n c l wx hn (HA.out wx hb))
  have HC := Lib.hid (fun wx hb => pinCheck_any A n c l wx hn (HA.out wx hb))
  have HP := Lib.hid (fun wx hb => pinned_any A n c l wx (HA.out wx hb) hp)
  rw [hp] at HF HC
  rw [hE, if_pos rfl] at HM
  have hadd : addE l a = 7 := by unfold addE; rw [if_pos hE, hFu]; rfl
  have hdrop : dropE l a = 5 := by unfold dropE; rw [if_pos hE, if_pos hM0]
  unfold AddP at HAdd
  unfold DropP at HDrop
  rw [hadd] at HAdd
  rw [hdrop] at HDrop
  have hb : 0 ≤ manyL l a ∧ manyL l a ≤ 1000000 := by
    by_cases hm : ∀ x ∈ l, x.1 ≠ a
    · obtain ⟨_, _, _, _, h, _⟩ := pin_out hrise hm
      omega
    · obtain ⟨_, _, _, _, _, h, _⟩ := pin_in hrise hm
      have := many_pos hp h
      omega
  have hfu : manyL l a = 1000000 ∨ (manyL l a = 0 ∧ n = 16) := by rw [← hl]; simpa [pinFull] using hFu
  have HGa : Hid (∀ x, sayAt (manyL l) a (manyL l a + 1) x = manyL (addL l a) x) := fun x => (many_add hrise x).symm
  have HGb : Hid (∀ x, sayAt (sayAt (manyL l) a (manyL l a + 1)) a (manyL l a) x = manyL l x) := fun x => by
    unfold sayAt
    by_cases h : x = a
    · rw [if_pos h, h]
    · rw [if_neg h, if_neg h]
  have HTa : Hid (tabTo (manyL (addL l a)) 256 = addL l a) := tab_pins (add_pins hpins ⟨ha0, ha1⟩)
  have HLa : Hid ((addL l a).length ≤ maxLen) := Nat.le_trans (pins_len (add_pins hpins ⟨ha0, ha1⟩)) (by unfold maxLen; omega)
  have HLd : Hid ((dropL l a).length ≤ maxLen) := Nat.le_trans (pins_len (drop_pins hpins)) (by unfold maxLen; omega)
  have HWa : Hid ((Lit.int .i64 a).wf = true) := wf_i64.2 (by omega)
  obtain ⟨M, hMM⟩ : ∃ M, manyL l a = M := ⟨_, rfl⟩
  rw [hMM] at HM HAdd HDrop hb hfu HGa HGb hM0
  have HMM := Lib.hid hMM
  have HW0 : Hid ((Lit.int .i64 M).wf = true) := wf_i64.2 (by omega)
  have HWp : Hid ((Lit.int .i64 (M + 1)).wf = true) := wf_i64.2 (by omega)
  have HWn : Hid ((Lit.int .i64 (M - 1)).wf = true) := wf_i64.2 (by omega)
  have n1 : (M != M) = false := by simp
  have x1 : (a < 0) = False := eq_false (by omega)
  have x2 : (255 < a) = False := eq_false (by omega)
  have y1 : (M == 0) = true := by simpa using hM0
  have y2 : (M == 1000000) = false := by simp; omega
  have y3 : ((n : Int) == 16) = true := by simp; omega
  clear ha hadd hdrop hMM hE hFu hp h16 hrise hpins hl hn hfu ha0 ha1 hM0
  go_enter Try.func3, Try.ntmps3
  go_wp2_with fail
  refine HM.out.mono ?_
  rintro e w1 ⟨rfl, b1⟩
  have HB1 := Lib.hid b1
  clear b1
  go_wp2_with fail
  refine (HAdd.out _ HB1.out).mono ?_
  rintro e w2 ⟨A2, m2, c2, k2, rfl, b2, h2, _⟩
  obtain ⟨rfl, rfl⟩ := h2 (by first | decide | trivial)
  have HB2 := Lib.hid (HB1.out.trans (b2.mono HB1.out.size))
  clear b2 h2
  go_wp2_with fail
  refine (HDrop.out _ HB2.out).mono ?_
  rintro e w3 ⟨A3, m3, c3, k3, rfl, b3, h3, _⟩
  obtain ⟨rfl, rfl⟩ := h3 (by first | decide | trivial)
  have HB3 := Lib.hid (HB2.out.trans (b3.mono HB2.out.size))
  clear b3 h3
  go_wp2_with fail
  refine (HF.out _ HB3.out).mono ?_
  rintro e w4 ⟨rfl, b4⟩
  have HB4 := Lib.hid (HB3.out.trans (b4.mono HB3.out.size))
  clear b4
  go_wp2_with fail
  refine (HC.out _ HB4.out).mono ?_
  rintro e w5 ⟨rfl, b5⟩
  have HB5 := Lib.hid (HB4.out.trans (b5.mono HB4.out.size))
  clear b5
  go_wp2_with fail
  refine (HP.out _ HB5.out).mono ?_
  rintro e w6 ⟨gm, rfl, hgm, hS6, b6⟩
  have hlk := hS6.look HWa.out
  rw [HMM.out] at hlk
  have HB6 := Lib.hid (HB5.out.trans (b6.mono HB5.out.size))
  have HS6 := Lib.hid hS6
  have HGM := Lib.hid (Nat.le_trans HB5.out.size hgm)
  clear b6 hS6 hgm HB1 HB2 HB3 HB4 HB5 HM HAdd HDrop HF HC HP HA
  go_wp2
  go_ret
  exact ⟨rfl, HB6.out⟩

set_option maxRecDepth 8000 in
set_option maxHeartbeats 4000000 in
theorem pinTells_full_drop (A : Option Addr) (n c : Nat) (a : Int) (l : List (Int × Int)) (w : World) (ha : ArrG runC 2 w w.heap.size A n l) (hE : callE l a = 0) (hFu : pinFull l a = true) (hM0 : manyL l a ≠ 0) :
    Calls Try.prog 3 #[.slice A n c, .int .i64 a] w fun e w' => e = .returned (.bool true) ∧ Below w.heap.size w w' := by
  have hl := ha.1
  obtain ⟨hp, ha0, ha1⟩ := callE_ok.1 hE
  obtain ⟨h16, _, hrise⟩ := pinE_ok.1 hp
  have hn16 : n ≤ 16 := by omega
  have hn : n ≤ maxLen := by unfold maxLen; omega
  have hpins := pins_of hp
  have HA : Hid (∀ wx, Below w.heap.size w wx → ArrG runC 2 wx wx.heap.size A n l) := fun wx hb => (ha.below hb (Nat.le_refl _)).more hb.size
  have HM := Lib.hid (many_any A n c l a w hn ha)
  have HAdd := Lib.hid (fun wx hb => add_any A n c l a wx hn (HA.out wx hb))
  have HDrop := Lib.hid (fun wx hb => drop_any A n c l a wx hn (HA.out wx hb))
  have HF := Lib.hid (fun wx hb => pinsFault_any A n c l wx hn (HA.out wx hb))
  have HC := Lib.hid (fun wx hb => pinCheck_any A n c l wx hn (HA.out wx hb))
  have HP := Lib.hid (fun wx hb => pinned_any A n c l wx (HA.out wx hb) hp)
  rw [hp] at HF HC
  rw [hE, if_pos rfl] at HM
  have hadd : addE l a = 7 := by unfold addE; rw [if_pos hE, hFu]; rfl
  have hdrop : dropE l a = 0 := by unfold dropE; rw [if_pos hE, if_neg hM0]
  unfold AddP at HAdd
  unfold DropP at HDrop
  rw [hadd] at HAdd
  rw [hdrop] at HDrop
  have hb : 0 ≤ manyL l a ∧ manyL l a ≤ 1000000 := by
    by_cases hm : ∀ x ∈ l, x.1 ≠ a
    · obtain ⟨_, _, _, _, h, _⟩ := pin_out hrise hm
      omega
    · obtain ⟨_, _, _, _, _, h, _⟩ := pin_in hrise hm
      have := many_pos hp h
      omega
  have hfu : manyL l a = 1000000 ∨ (manyL l a = 0 ∧ n = 16) := by rw [← hl]; simpa [pinFull] using hFu
  have HGa : Hid (∀ x, sayAt (manyL l) a (manyL l a + 1) x = manyL (addL l a) x) := fun x => (many_add hrise x).symm
  have HGb : Hid (∀ x, sayAt (sayAt (manyL l) a (manyL l a + 1)) a (manyL l a) x = manyL l x) := fun x => by
    unfold sayAt
    by_cases h : x = a
    · rw [if_pos h, h]
    · rw [if_neg h, if_neg h]
  have HTa : Hid (tabTo (manyL (addL l a)) 256 = addL l a) := tab_pins (add_pins hpins ⟨ha0, ha1⟩)
  have HGd : Hid (∀ x, sayAt (manyL l) a (manyL l a - 1) x = manyL (dropL l a) x) := fun x => (many_drop hrise hM0 x).symm
  have HTd : Hid (tabTo (manyL (dropL l a)) 256 = dropL l a) := tab_pins (drop_pins hpins)
  have HLa : Hid ((addL l a).length ≤ maxLen) := Nat.le_trans (pins_len (add_pins hpins ⟨ha0, ha1⟩)) (by unfold maxLen; omega)
  have HLd : Hid ((dropL l a).length ≤ maxLen) := Nat.le_trans (pins_len (drop_pins hpins)) (by unfold maxLen; omega)
  have HWa : Hid ((Lit.int .i64 a).wf = true) := wf_i64.2 (by omega)
  obtain ⟨M, hMM⟩ : ∃ M, manyL l a = M := ⟨_, rfl⟩
  rw [hMM] at HM HAdd HDrop hb hfu HGa HGb hM0 HGd
  have HMM := Lib.hid hMM
  have HW0 : Hid ((Lit.int .i64 M).wf = true) := wf_i64.2 (by omega)
  have HWp : Hid ((Lit.int .i64 (M + 1)).wf = true) := wf_i64.2 (by omega)
  have HWn : Hid ((Lit.int .i64 (M - 1)).wf = true) := wf_i64.2 (by omega)
  have n1 : (M != M) = false := by simp
  have x1 : (a < 0) = False := eq_false (by omega)
  have x2 : (255 < a) = False := eq_false (by omega)
  have y1 : (M == 0) = false := by simpa using hM0
  have y2 : (M == 1000000) = true := by simp; omega
  clear ha hadd hdrop hMM hE hFu hp h16 hrise hpins hl hn hfu ha0 ha1 hM0
  go_enter Try.func3, Try.ntmps3
  go_wp2_with fail
  refine HM.out.mono ?_
  rintro e w1 ⟨rfl, b1⟩
  have HB1 := Lib.hid b1
  clear b1
  go_wp2_with fail
  refine (HAdd.out _ HB1.out).mono ?_
  rintro e w2 ⟨A2, m2, c2, k2, rfl, b2, h2, _⟩
  obtain ⟨rfl, rfl⟩ := h2 (by first | decide | trivial)
  have HB2 := Lib.hid (HB1.out.trans (b2.mono HB1.out.size))
  clear b2 h2
  go_wp2_with fail
  refine (HDrop.out _ HB2.out).mono ?_
  rintro e w3 ⟨A3, m3, c3, k3, rfl, b3, _, h3⟩
  obtain ⟨rfl, hm3, hO3⟩ := h3 (by first | rfl | trivial)
  have HO3 := Lib.hid hO3
  have HM3 := Lib.hid hm3
  clear hm3 hO3
  have HB3 := Lib.hid (HB2.out.trans (b3.mono HB2.out.size))
  clear b3 h3
  go_wp2_with fail
  refine (HF.out _ HB3.out).mono ?_
  rintro e w4 ⟨rfl, b4⟩
  have HO3c := Lib.hid (HO3.out.below b4)
  have HB4 := Lib.hid (HB3.out.trans (b4.mono HB3.out.size))
  clear b4
  go_wp2_with fail
  refine (HC.out _ HB4.out).mono ?_
  rintro e w5 ⟨rfl, b5⟩
  have HO3d := Lib.hid (HO3c.out.below b5)
  have HB5 := Lib.hid (HB4.out.trans (b5.mono HB4.out.size))
  clear b5
  go_wp2_with fail
  refine (HP.out _ HB5.out).mono ?_
  rintro e w6 ⟨gm, rfl, hgm, hS6, b6⟩
  have HO3e := Lib.hid (HO3d.out.below b6)
  have hlk := hS6.look HWa.out
  rw [HMM.out] at hlk
  have HB6 := Lib.hid (HB5.out.trans (b6.mono HB5.out.size))
  have HS6 := Lib.hid hS6
  have HGM := Lib.hid (Nat.le_trans HB5.out.size hgm)
  have HR3 : Hid (∀ g, (Value.slice A3 m3 c3).ownBlock = some g → g < gm) := fun g hg => Nat.lt_of_lt_of_le (HO3d.out.rowLt g hg) hgm
  clear b6 hS6 hgm HB1 HB2 HB3 HB4 HB5 HM HAdd HDrop HF HC HP HA HO3 HO3c HO3d
  go_wp2_with (refine wpList_says _ rfl _ _ _ rfl rfl rfl rfl HS6.out (by omega) HWa.out HWn.out ?_; intro w11 hS11 hg11)
  have HS11 := Lib.hid (hS11.eq HGd.out)
  have HB11 := Lib.hid (HB6.out.trans (grown_below hg11 HGM.out HB6.out.size))
  have HO11 := Lib.hid (own_grown HO3e.out hg11 (fun g hg e => by have := HR3.out g hg; omega))
  clear hS11 hg11 hlk
  go_wp2_with fail
  refine (pinList_any gm _ _ w11 HS11.out).mono ?_
  rintro e w12 ⟨v12, rfl, hO12, b12⟩
  rw [HTd.out] at hO12
  obtain ⟨A12, c12, rfl, _, hr12⟩ := hO12.arr runC_len
  have HS12 := Lib.hid (HS11.out.below b12 HS11.out.lt)
  have HB12 := Lib.hid (HB11.out.trans (b12.mono HB11.out.size))
  have hr3 := arr_own runC_len (HO11.out.below b12)
  rw [HM3.out] at hr12
  have HSame2 := Lib.hid (samePins_same A3 A12 m3 c3 c12 w12.heap.size (dropL l a) w12 hr3 hr12 (by rw [← HM3.out]; exact HLd.out))
  rw [HM3.out]
  clear hO12 b12 hr12 hr3 HB11 HO11
  have n4 : (M - 1 == M - 1) = true := by simp
  go_wp2_with fail
  refine HSame2.out.mono ?_
  rintro e w13 ⟨rfl, q13, rfl⟩
  have hlk13 : Sem.run Try.prog (Instr.lookup 29 (.map (some gm)) (.int .i64 a) false) (w12.drewN q13) = .ok (.int .i64 (M - 1)) (w12.drewN q13) := by
    have h9 := (HS12.out.below (below_drewN (Below.refl w12.heap.size w12) q13) HS12.out.lt).look HWa.out
    rwa [← HGd.out a, show sayAt (manyL l) a (M - 1) a = M - 1 from if_pos rfl] at h9
  have HB13 := Lib.hid (below_drewN HB12.out q13)
  clear HSame2 HB12 HS12
  generalize (w12.drewN q13) = W13 at *
  go_wp2
  go_ret
  exact ⟨rfl, HB13.out⟩

set_option maxRecDepth 8000 in
set_option maxHeartbeats 4000000 in
theorem pinTells_add_none (A : Option Addr) (n c : Nat) (a : Int) (l : List (Int × Int)) (w : World) (ha : ArrG runC 2 w w.heap.size A n l) (hE : callE l a = 0) (hFu : pinFull l a = false) (hM0 : manyL l a = 0) :
    Calls Try.prog 3 #[.slice A n c, .int .i64 a] w fun e w' => e = .returned (.bool true) ∧ Below w.heap.size w w' := by
  have hl := ha.1
  obtain ⟨hp, ha0, ha1⟩ := callE_ok.1 hE
  obtain ⟨h16, _, hrise⟩ := pinE_ok.1 hp
  have hn16 : n ≤ 16 := by omega
  have hn : n ≤ maxLen := by unfold maxLen; omega
  have hpins := pins_of hp
  have HA : Hid (∀ wx, Below w.heap.size w wx → ArrG runC 2 wx wx.heap.size A n l) := fun wx hb => (ha.below hb (Nat.le_refl _)).more hb.size
  have HM := Lib.hid (many_any A n c l a w hn ha)
  have HAdd := Lib.hid (fun wx hb => add_any A n c l a wx hn (HA.out wx hb))
  have HDrop := Lib.hid (fun wx hb => drop_any A n c l a wx hn (HA.out wx hb))
  have HF := Lib.hid (fun wx hb => pinsFault_any A n c l wx hn (HA.out wx hb))
  have HC := Lib.hid (fun wx hb => pinCheck_any A n c l wx hn (HA.out wx hb))
  have HP := Lib.hid (fun wx hb => pinned_any A n c l wx (HA.out wx hb) hp)
  rw [hp] at HF HC
  rw [hE, if_pos rfl] at HM
  have hadd : addE l a = 0 := by unfold addE; rw [if_pos hE, hFu]; rfl
  have hdrop : dropE l a = 5 := by unfold dropE; rw [if_pos hE, if_pos hM0]
  unfold AddP at HAdd
  unfold DropP at HDrop
  rw [hadd] at HAdd
  rw [hdrop] at HDrop
  have hb : 0 ≤ manyL l a ∧ manyL l a ≤ 1000000 := by
    by_cases hm : ∀ x ∈ l, x.1 ≠ a
    · obtain ⟨_, _, _, _, h, _⟩ := pin_out hrise hm
      omega
    · obtain ⟨_, _, _, _, _, h, _⟩ := pin_in hrise hm
      have := many_pos hp h
      omega
  have hfu : manyL l a ≠ 1000000 ∧ ¬ (manyL l a = 0 ∧ n = 16) := by rw [← hl]; simpa [pinFull] using hFu
  have HGa : Hid (∀ x, sayAt (manyL l) a (manyL l a + 1) x = manyL (addL l a) x) := fun x => (many_add hrise x).symm
  have HGb : Hid (∀ x, sayAt (sayAt (manyL l) a (manyL l a + 1)) a (manyL l a) x = manyL l x) := fun x => by
    unfold sayAt
    by_cases h : x = a
    · rw [if_pos h, h]
    · rw [if_neg h, if_neg h]
  have HTa : Hid (tabTo (manyL (addL l a)) 256 = addL l a) := tab_pins (add_pins hpins ⟨ha0, ha1⟩)
  have HLa : Hid ((addL l a).length ≤ maxLen) := Nat.le_trans (pins_len (add_pins hpins ⟨ha0, ha1⟩)) (by unfold maxLen; omega)
  have HLd : Hid ((dropL l a).length ≤ maxLen) := Nat.le_trans (pins_len (drop_pins hpins)) (by unfold maxLen; omega)
  have HWa : Hid ((Lit.int .i64 a).wf = true) := wf_i64.2 (by omega)
  obtain ⟨M, hMM⟩ : ∃ M, manyL l a = M := ⟨_, rfl⟩
  rw [hMM] at HM HAdd HDrop hb hfu HGa HGb hM0
  have HMM := Lib.hid hMM
  have HW0 : Hid ((Lit.int .i64 M).wf = true) := wf_i64.2 (by omega)
  have HWp : Hid ((Lit.int .i64 (M + 1)).wf = true) := wf_i64.2 (by omega)
  have HWn : Hid ((Lit.int .i64 (M - 1)).wf = true) := wf_i64.2 (by omega)
  have n1 : (M != M) = false := by simp
  have x1 : (a < 0) = False := eq_false (by omega)
  have x2 : (255 < a) = False := eq_false (by omega)
  have y1 : (M == 0) = true := by simpa using hM0
  have y2 : (M == 1000000) = false := by simp; omega
  have y3 : ((n : Int) == 16) = false := by simp; omega
  clear ha hadd hdrop hMM hE hFu hp h16 hrise hpins hl hn hfu ha0 ha1 hM0
  go_enter Try.func3, Try.ntmps3
  go_wp2_with fail
  refine HM.out.mono ?_
  rintro e w1 ⟨rfl, b1⟩
  have HB1 := Lib.hid b1
  clear b1
  go_wp2_with fail
  refine (HAdd.out _ HB1.out).mono ?_
  rintro e w2 ⟨A2, m2, c2, k2, rfl, b2, _, h2⟩
  obtain ⟨rfl, hm2, hO2⟩ := h2 (by first | rfl | trivial)
  have HB2 := Lib.hid (HB1.out.trans (b2.mono HB1.out.size))
  have HO2 := Lib.hid hO2
  have HM2 := Lib.hid hm2
  clear b2 h2 hm2 hO2
  go_wp2_with fail
  refine (HDrop.out _ HB2.out).mono ?_
  rintro e w3 ⟨A3, m3, c3, k3, rfl, b3, h3, _⟩
  obtain ⟨rfl, rfl⟩ := h3 (by first | decide | trivial)
  have HO2b := Lib.hid (HO2.out.below b3)
  have HB3 := Lib.hid (HB2.out.trans (b3.mono HB2.out.size))
  clear b3 h3
  go_wp2_with fail
  refine (HF.out _ HB3.out).mono ?_
  rintro e w4 ⟨rfl, b4⟩
  have HO2c := Lib.hid (HO2b.out.below b4)
  have HB4 := Lib.hid (HB3.out.trans (b4.mono HB3.out.size))
  clear b4
  go_wp2_with fail
  refine (HC.out _ HB4.out).mono ?_
  rintro e w5 ⟨rfl, b5⟩
  have HO2d := Lib.hid (HO2c.out.below b5)
  have HB5 := Lib.hid (HB4.out.trans (b5.mono HB4.out.size))
  clear b5
  go_wp2_with fail
  refine (HP.out _ HB5.out).mono ?_
  rintro e w6 ⟨gm, rfl, hgm, hS6, b6⟩
  have HO2e := Lib.hid (HO2d.out.below b6)
  have hlk := hS6.look HWa.out
  rw [HMM.out] at hlk
  have HB6 := Lib.hid (HB5.out.trans (b6.mono HB5.out.size))
  have HS6 := Lib.hid hS6
  have HGM := Lib.hid (Nat.le_trans HB5.out.size hgm)
  have HR2 : Hid (∀ g, (Value.slice A2 m2 c2).ownBlock = some g → g < gm) := fun g hg => Nat.lt_of_lt_of_le (HO2d.out.rowLt g hg) hgm
  clear b6 hS6 hgm HB1 HB2 HB3 HB4 HB5 HM HAdd HDrop HF HC HP HA HO2 HO2b HO2c HO2d
  go_wp2_with (refine wpList_says _ rfl _ _ _ rfl rfl rfl rfl HS6.out (by omega) HWa.out HWp.out ?_; intro w7 hS7 hg7)
  have hlk7 := (hS7.eq HGa.out).look HWa.out
  rw [← HGa.out a, show sayAt (manyL l) a (M + 1) a = M + 1 from if_pos rfl] at hlk7
  have HS7a := Lib.hid (hS7.eq HGa.out)
  have HS7 := Lib.hid hS7
  have HB7 := Lib.hid (HB6.out.trans (grown_below hg7 HGM.out HB6.out.size))
  have HO2f := Lib.hid (own_grown HO2e.out hg7 (fun g hg e => by have := HR2.out g hg; omega))
  clear hS7 hg7 hlk
  go_wp2_with fail
  refine (pinList_any gm (n + 1) _ w7 HS7a.out).mono ?_
  rintro e w8 ⟨v8, rfl, hO8, b8⟩
  rw [HTa.out] at hO8
  have HO2g := Lib.hid (HO2f.out.below b8)
  obtain ⟨A8, c8, rfl, _, hr8⟩ := hO8.arr runC_len
  have hlk8 := ((HS7a.out.below b8 HS7a.out.lt)).look HWa.out
  rw [← HGa.out a, show sayAt (manyL l) a (M + 1) a = M + 1 from if_pos rfl] at hlk8
  have HS8 := Lib.hid (HS7.out.below b8 HS7.out.lt)
  have HB8 := Lib.hid (HB7.out.trans (b8.mono HB7.out.size))
  have hr2 := arr_own runC_len HO2g.out
  rw [HM2.out] at hr8
  have HSame := Lib.hid (samePins_same A2 A8 m2 c2 c8 w8.heap.size (addL l a) w8 hr2 hr8 (by rw [← HM2.out]; exact HLa.out))
  rw [HM2.out]
  clear hO8 b8 hr8 hr2 HB7 HO2f HO2e HS7 HS7a hlk7
  have n3 : (M + 1 != M + 1) = false := by simp
  go_wp2_with fail
  refine HSame.out.mono ?_
  rintro e w9 ⟨rfl, q9, rfl⟩
  have hlk9 : Sem.run Try.prog (Instr.lookup 29 (.map (some gm)) (.int .i64 a) false) (w8.drewN q9) = .ok (.int .i64 (M + 1)) (w8.drewN q9) := by
    have h9 : Says (w8.drewN q9) gm (n + 1) (sayAt (manyL l) a (M + 1)) := HS8.out.below (below_drewN (Below.refl w8.heap.size w8) q9) HS8.out.lt
    have := h9.look HWa.out
    rwa [show sayAt (manyL l) a (M + 1) a = M + 1 from if_pos rfl] at this
  have HS9 : Hid (Says (w8.drewN q9) gm (n + 1) (sayAt (manyL l) a (M + 1))) := Lib.hid (HS8.out.below (below_drewN (Below.refl w8.heap.size w8) q9) HS8.out.lt)
  have HB9 := Lib.hid (below_drewN HB8.out q9)
  clear hlk8 HSame HB8 HS8 HO2g
  generalize (w8.drewN q9) = W9 at *
  have HLK : Hid (∀ w', Says w' gm (n + 1 + 1) (manyL l) → Sem.run Try.prog (Instr.lookup 29 (.map (some gm)) (.int .i64 a) false) w' = .ok (.int .i64 M) w') := fun w' h => by rw [← HMM.out]; exact h.look HWa.out
  have HE10 : Hid (∀ w', Says w' gm (n + 1 + 1) (sayAt (sayAt (manyL l) a (M + 1)) a M) → Says w' gm (n + 1 + 1) (manyL l)) := fun w' h => h.eq HGb.out
  go_wp2_with (refine wpList_says _ rfl _ _ _ rfl rfl rfl rfl HS9.out (by omega) HWa.out HW0.out ?_; intro w10 hS10 hg10; have hlk := HLK.out _ (HE10.out _ hS10))
  have hSa : Says w10 gm (n + 1 + 1) (manyL l) := HE10.out _ hS10
  have HS10 := Lib.hid hSa
  have HB10 := Lib.hid (HB9.out.trans (grown_below hg10 HGM.out HB9.out.size))
  clear hlk9 HS9 HB9 hS10 hSa hg10
  go_wp2
  go_ret
  exact ⟨rfl, HB10.out⟩

set_option maxRecDepth 8000 in
set_option maxHeartbeats 4000000 in
theorem pinTells_add_drop (A : Option Addr) (n c : Nat) (a : Int) (l : List (Int × Int)) (w : World) (ha : ArrG runC 2 w w.heap.size A n l) (hE : callE l a = 0) (hFu : pinFull l a = false) (hM0 : manyL l a ≠ 0) :
    Calls Try.prog 3 #[.slice A n c, .int .i64 a] w fun e w' => e = .returned (.bool true) ∧ Below w.heap.size w w' := by
  have hl := ha.1
  obtain ⟨hp, ha0, ha1⟩ := callE_ok.1 hE
  obtain ⟨h16, _, hrise⟩ := pinE_ok.1 hp
  have hn16 : n ≤ 16 := by omega
  have hn : n ≤ maxLen := by unfold maxLen; omega
  have hpins := pins_of hp
  have HA : Hid (∀ wx, Below w.heap.size w wx → ArrG runC 2 wx wx.heap.size A n l) := fun wx hb => (ha.below hb (Nat.le_refl _)).more hb.size
  have HM := Lib.hid (many_any A n c l a w hn ha)
  have HAdd := Lib.hid (fun wx hb => add_any A n c l a wx hn (HA.out wx hb))
  have HDrop := Lib.hid (fun wx hb => drop_any A n c l a wx hn (HA.out wx hb))
  have HF := Lib.hid (fun wx hb => pinsFault_any A n c l wx hn (HA.out wx hb))
  have HC := Lib.hid (fun wx hb => pinCheck_any A n c l wx hn (HA.out wx hb))
  have HP := Lib.hid (fun wx hb => pinned_any A n c l wx (HA.out wx hb) hp)
  rw [hp] at HF HC
  rw [hE, if_pos rfl] at HM
  have hadd : addE l a = 0 := by unfold addE; rw [if_pos hE, hFu]; rfl
  have hdrop : dropE l a = 0 := by unfold dropE; rw [if_pos hE, if_neg hM0]
  unfold AddP at HAdd
  unfold DropP at HDrop
  rw [hadd] at HAdd
  rw [hdrop] at HDrop
  have hb : 0 ≤ manyL l a ∧ manyL l a ≤ 1000000 := by
    by_cases hm : ∀ x ∈ l, x.1 ≠ a
    · obtain ⟨_, _, _, _, h, _⟩ := pin_out hrise hm
      omega
    · obtain ⟨_, _, _, _, _, h, _⟩ := pin_in hrise hm
      have := many_pos hp h
      omega
  have hfu : manyL l a ≠ 1000000 ∧ ¬ (manyL l a = 0 ∧ n = 16) := by rw [← hl]; simpa [pinFull] using hFu
  have HGa : Hid (∀ x, sayAt (manyL l) a (manyL l a + 1) x = manyL (addL l a) x) := fun x => (many_add hrise x).symm
  have HGb : Hid (∀ x, sayAt (sayAt (manyL l) a (manyL l a + 1)) a (manyL l a) x = manyL l x) := fun x => by
    unfold sayAt
    by_cases h : x = a
    · rw [if_pos h, h]
    · rw [if_neg h, if_neg h]
  have HTa : Hid (tabTo (manyL (addL l a)) 256 = addL l a) := tab_pins (add_pins hpins ⟨ha0, ha1⟩)
  have HGd : Hid (∀ x, sayAt (manyL l) a (manyL l a - 1) x = manyL (dropL l a) x) := fun x => (many_drop hrise hM0 x).symm
  have HTd : Hid (tabTo (manyL (dropL l a)) 256 = dropL l a) := tab_pins (drop_pins hpins)
  have HLa : Hid ((addL l a).length ≤ maxLen) := Nat.le_trans (pins_len (add_pins hpins ⟨ha0, ha1⟩)) (by unfold maxLen; omega)
  have HLd : Hid ((dropL l a).length ≤ maxLen) := Nat.le_trans (pins_len (drop_pins hpins)) (by unfold maxLen; omega)
  have HWa : Hid ((Lit.int .i64 a).wf = true) := wf_i64.2 (by omega)
  obtain ⟨M, hMM⟩ : ∃ M, manyL l a = M := ⟨_, rfl⟩
  rw [hMM] at HM HAdd HDrop hb hfu HGa HGb hM0 HGd
  have HMM := Lib.hid hMM
  have HW0 : Hid ((Lit.int .i64 M).wf = true) := wf_i64.2 (by omega)
  have HWp : Hid ((Lit.int .i64 (M + 1)).wf = true) := wf_i64.2 (by omega)
  have HWn : Hid ((Lit.int .i64 (M - 1)).wf = true) := wf_i64.2 (by omega)
  have n1 : (M != M) = false := by simp
  have x1 : (a < 0) = False := eq_false (by omega)
  have x2 : (255 < a) = False := eq_false (by omega)
  have y1 : (M == 0) = false := by simpa using hM0
  have y2 : (M == 1000000) = false := by simp; omega
  clear ha hadd hdrop hMM hE hFu hp h16 hrise hpins hl hn hfu ha0 ha1 hM0
  go_enter Try.func3, Try.ntmps3
  go_wp2_with fail
  refine HM.out.mono ?_
  rintro e w1 ⟨rfl, b1⟩
  have HB1 := Lib.hid b1
  clear b1
  go_wp2_with fail
  refine (HAdd.out _ HB1.out).mono ?_
  rintro e w2 ⟨A2, m2, c2, k2, rfl, b2, _, h2⟩
  obtain ⟨rfl, hm2, hO2⟩ := h2 (by first | rfl | trivial)
  have HB2 := Lib.hid (HB1.out.trans (b2.mono HB1.out.size))
  have HO2 := Lib.hid hO2
  have HM2 := Lib.hid hm2
  clear b2 h2 hm2 hO2
  go_wp2_with fail
  refine (HDrop.out _ HB2.out).mono ?_
  rintro e w3 ⟨A3, m3, c3, k3, rfl, b3, _, h3⟩
  obtain ⟨rfl, hm3, hO3⟩ := h3 (by first | rfl | trivial)
  have HO3 := Lib.hid hO3
  have HM3 := Lib.hid hm3
  clear hm3 hO3
  have HO2b := Lib.hid (HO2.out.below b3)
  have HB3 := Lib.hid (HB2.out.trans (b3.mono HB2.out.size))
  clear b3 h3
  go_wp2_with fail
  refine (HF.out _ HB3.out).mono ?_
  rintro e w4 ⟨rfl, b4⟩
  have HO2c := Lib.hid (HO2b.out.below b4)
  have HO3c := Lib.hid (HO3.out.below b4)
  have HB4 := Lib.hid (HB3.out.trans (b4.mono HB3.out.size))
  clear b4
  go_wp2_with fail
  refine (HC.out _ HB4.out).mono ?_
  rintro e w5 ⟨rfl, b5⟩
  have HO2d := Lib.hid (HO2c.out.below b5)
  have HO3d := Lib.hid (HO3c.out.below b5)
  have HB5 := Lib.hid (HB4.out.trans (b5.mono HB4.out.size))
  clear b5
  go_wp2_with fail
  refine (HP.out _ HB5.out).mono ?_
  rintro e w6 ⟨gm, rfl, hgm, hS6, b6⟩
  have HO2e := Lib.hid (HO2d.out.below b6)
  have HO3e := Lib.hid (HO3d.out.below b6)
  have hlk := hS6.look HWa.out
  rw [HMM.out] at hlk
  have HB6 := Lib.hid (HB5.out.trans (b6.mono HB5.out.size))
  have HS6 := Lib.hid hS6
  have HGM := Lib.hid (Nat.le_trans HB5.out.size hgm)
  have HR2 : Hid (∀ g, (Value.slice A2 m2 c2).ownBlock = some g → g < gm) := fun g hg => Nat.lt_of_lt_of_le (HO2d.out.rowLt g hg) hgm
  have HR3 : Hid (∀ g, (Value.slice A3 m3 c3).ownBlock = some g → g < gm) := fun g hg => Nat.lt_of_lt_of_le (HO3d.out.rowLt g hg) hgm
  clear b6 hS6 hgm HB1 HB2 HB3 HB4 HB5 HM HAdd HDrop HF HC HP HA HO2 HO2b HO2c HO2d HO3 HO3c HO3d
  go_wp2_with (refine wpList_says _ rfl _ _ _ rfl rfl rfl rfl HS6.out (by omega) HWa.out HWp.out ?_; intro w7 hS7 hg7)
  have hlk7 := (hS7.eq HGa.out).look HWa.out
  rw [← HGa.out a, show sayAt (manyL l) a (M + 1) a = M + 1 from if_pos rfl] at hlk7
  have HS7a := Lib.hid (hS7.eq HGa.out)
  have HS7 := Lib.hid hS7
  have HB7 := Lib.hid (HB6.out.trans (grown_below hg7 HGM.out HB6.out.size))
  have HO2f := Lib.hid (own_grown HO2e.out hg7 (fun g hg e => by have := HR2.out g hg; omega))
  have HO3f := Lib.hid (own_grown HO3e.out hg7 (fun g hg e => by have := HR3.out g hg; omega))
  clear hS7 hg7 hlk
  go_wp2_with fail
  refine (pinList_any gm (n + 1) _ w7 HS7a.out).mono ?_
  rintro e w8 ⟨v8, rfl, hO8, b8⟩
  rw [HTa.out] at hO8
  have HO2g := Lib.hid (HO2f.out.below b8)
  have HO3g := Lib.hid (HO3f.out.below b8)
  obtain ⟨A8, c8, rfl, _, hr8⟩ := hO8.arr runC_len
  have hlk8 := ((HS7a.out.below b8 HS7a.out.lt)).look HWa.out
  rw [← HGa.out a, show sayAt (manyL l) a (M + 1) a = M + 1 from if_pos rfl] at hlk8
  have HS8 := Lib.hid (HS7.out.below b8 HS7.out.lt)
  have HB8 := Lib.hid (HB7.out.trans (b8.mono HB7.out.size))
  have hr2 := arr_own runC_len HO2g.out
  rw [HM2.out] at hr8
  have HSame := Lib.hid (samePins_same A2 A8 m2 c2 c8 w8.heap.size (addL l a) w8 hr2 hr8 (by rw [← HM2.out]; exact HLa.out))
  rw [HM2.out]
  clear hO8 b8 hr8 hr2 HB7 HO2f HO2e HS7 HS7a hlk7 HO3f HO3e
  have n3 : (M + 1 != M + 1) = false := by simp
  go_wp2_with fail
  refine HSame.out.mono ?_
  rintro e w9 ⟨rfl, q9, rfl⟩
  have hlk9 : Sem.run Try.prog (Instr.lookup 29 (.map (some gm)) (.int .i64 a) false) (w8.drewN q9) = .ok (.int .i64 (M + 1)) (w8.drewN q9) := by
    have h9 : Says (w8.drewN q9) gm (n + 1) (sayAt (manyL l) a (M + 1)) := HS8.out.below (below_drewN (Below.refl w8.heap.size w8) q9) HS8.out.lt
    have := h9.look HWa.out
    rwa [show sayAt (manyL l) a (M + 1) a = M + 1 from if_pos rfl] at this
  have HS9 : Hid (Says (w8.drewN q9) gm (n + 1) (sayAt (manyL l) a (M + 1))) := Lib.hid (HS8.out.below (below_drewN (Below.refl w8.heap.size w8) q9) HS8.out.lt)
  have HB9 := Lib.hid (below_drewN HB8.out q9)
  have HO3h : Hid (OwnG runC 2 36 (w8.drewN q9) w2.heap.size (.slice A3 m3 c3) (dropL l a)) := Lib.hid (HO3g.out.drewN q9)
  clear hlk8 HSame HB8 HS8 HO2g HO3g
  generalize (w8.drewN q9) = W9 at *
  have HLK : Hid (∀ w', Says w' gm (n + 1 + 1) (manyL l) → Sem.run Try.prog (Instr.lookup 29 (.map (some gm)) (.int .i64 a) false) w' = .ok (.int .i64 M) w') := fun w' h => by rw [← HMM.out]; exact h.look HWa.out
  have HE10 : Hid (∀ w', Says w' gm (n + 1 + 1) (sayAt (sayAt (manyL l) a (M + 1)) a M) → Says w' gm (n + 1 + 1) (manyL l)) := fun w' h => h.eq HGb.out
  go_wp2_with (first
    | (refine wpList_says _ rfl _ _ _ rfl rfl rfl rfl HS9.out (by omega) HWa.out HW0.out ?_; intro w10 hS10 hg10; have hlk := HLK.out _ (HE10.out _ hS10))
    | (refine wpList_says _ rfl _ _ _ rfl rfl rfl rfl (HE10.out _ hS10) (by omega) HWa.out HWn.out ?_; intro w11 hS11 hg11))
  have hSa : Says w10 gm (n + 1 + 1) (manyL l) := HE10.out _ hS10
  have HS10 := Lib.hid hSa
  have HB10 := Lib.hid (HB9.out.trans (grown_below hg10 HGM.out HB9.out.size))
  have HO3i := Lib.hid (own_grown HO3h.out hg10 (fun g hg e => by have := HR3.out g hg; omega))
  clear hlk9 HS9 HB9 hS10 hSa hg10 HO3h
  have HS11 := Lib.hid (hS11.eq HGd.out)
  have HB11 := Lib.hid (HB10.out.trans (grown_below hg11 HGM.out HB10.out.size))
  have HO11 := Lib.hid (own_grown HO3i.out hg11 (fun g hg e => by have := HR3.out g hg; omega))
  clear hS11 hg11 hlk
  go_wp2_with fail
  refine (pinList_any gm _ _ w11 HS11.out).mono ?_
  rintro e w12 ⟨v12, rfl, hO12, b12⟩
  rw [HTd.out] at hO12
  obtain ⟨A12, c12, rfl, _, hr12⟩ := hO12.arr runC_len
  have HS12 := Lib.hid (HS11.out.below b12 HS11.out.lt)
  have HB12 := Lib.hid (HB11.out.trans (b12.mono HB11.out.size))
  have hr3 := arr_own runC_len (HO11.out.below b12)
  rw [HM3.out] at hr12
  have HSame2 := Lib.hid (samePins_same A3 A12 m3 c3 c12 w12.heap.size (dropL l a) w12 hr3 hr12 (by rw [← HM3.out]; exact HLd.out))
  rw [HM3.out]
  clear hO12 b12 hr12 hr3 HB11 HO11
  have n4 : (M - 1 == M - 1) = true := by simp
  go_wp2_with fail
  refine HSame2.out.mono ?_
  rintro e w13 ⟨rfl, q13, rfl⟩
  have hlk13 : Sem.run Try.prog (Instr.lookup 29 (.map (some gm)) (.int .i64 a) false) (w12.drewN q13) = .ok (.int .i64 (M - 1)) (w12.drewN q13) := by
    have h9 := (HS12.out.below (below_drewN (Below.refl w12.heap.size w12) q13) HS12.out.lt).look HWa.out
    rwa [← HGd.out a, show sayAt (manyL l) a (M - 1) a = M - 1 from if_pos rfl] at h9
  have HB13 := Lib.hid (below_drewN HB12.out q13)
  clear HSame2 HB12 HS12
  generalize (w12.drewN q13) = W13 at *
  go_wp2
  go_ret
  exact ⟨rfl, HB13.out⟩

theorem pinTells_walk (A : Option Addr) (n c : Nat) (a : Int) (l : List (Int × Int)) (w : World) (hn : n ≤ maxLen) (ha : ArrG runC 2 w w.heap.size A n l) :
    Calls Try.prog 3 #[.slice A n c, .int .i64 a] w fun e w' => e = .returned (.bool true) ∧ Below w.heap.size w w' := by
  by_cases hE : callE l a = 0
  · cases hF : pinFull l a
    · by_cases hM : manyL l a = 0
      · exact pinTells_add_none A n c a l w ha hE hF hM
      · exact pinTells_add_drop A n c a l w ha hE hF hM
    · by_cases hM : manyL l a = 0
      · exact pinTells_full_none A n c a l w ha hE hF hM
      · exact pinTells_full_drop A n c a l w ha hE hF hM
  · exact pinTells_bad A n c a l w hn ha hE
end Go.Proofs.Ytkjaghalcoehgaa
