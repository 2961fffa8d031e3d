/-
  Contracts of pin.Add and pin.Drop.
-/
import Derived.Test.YtedndmhekjfpdaaPinI
import Derived.OwnWalk
namespace Go.Proofs.Ytedndmhekjfpdaa
open Go.RowKit

theorem OwnG.lessP {α : Type} {enc : α → List Value} {size : Nat} {e : TypeId} {w : World} {base base' : Nat} {v : Value} {l : List α} (h : OwnG enc size e w base v l) (hb : base' ≤ base) : OwnG enc size e w base' v l :=
  ⟨h.1, h.2.imp id fun ⟨g, cap, cur, h1, h2, r⟩ => ⟨g, cap, cur, h1, Nat.le_trans hb h2, r⟩⟩
/-- An error, and no pins. -/
def NoPins (E : Int) (w : World) (e : Ending) (w' : World) : Prop := e = .returned (.tuple #[.slice none 0 0, .int .i64 0, .int .i64 E]) ∧ Below w.heap.size w w'
/-- Pins of the call's own, and no error. -/
def NewPins (l : List (Int × Int)) (k : Int) (w : World) (e : Ending) (w' : World) : Prop := ∃ A m c, e = .returned (.tuple #[.slice A m c, .int .i64 k, .int .i64 0]) ∧ l.length = m ∧ OwnG runC 2 57 w' w.heap.size (.slice A m c) l ∧ Below w.heap.size w w'
/-- .. known up to their capacity. -/
def NewPinsF (l : List (Int × Int)) (k : Int) (w : World) (e : Ending) (w' : World) : Prop := ∃ A m c, e = .returned (.tuple #[.slice A m c, .int .i64 k, .int .i64 0]) ∧ FullG runC 2 57 w' w.heap.size A m c l ∧ Below w.heap.size w w'
theorem NewPinsF.less {l : List (Int × Int)} {k : Int} {w w' : World} {e : Ending} (h : NewPinsF l k w e w') : NewPins l k w e w' := by
  obtain ⟨A, m, c, he, hF, hB⟩ := h
  exact ⟨A, m, c, he, hF.1, hF.own, hB⟩
theorem FullG.oneP {e : TypeId} {w : World} {base g n c : Nat} {l : List (Int × Int)} (h : FullG runC 2 e w base (some ⟨g, 0, none⟩) n c l) (j i : Nat) (a : Int × Int) (u : Value) (hj : j < n) (hi : i < 2) (he : runC a = (runC (nthG l j)).set i u) : FullG runC 2 e (w.setCell ⟨g, j * 2 + i, none⟩ u) base (some ⟨g, 0, none⟩) n c (l.set j a) := by
  obtain ⟨h1, h2, h3, h4, sp, h5, h6⟩ := h
  have key : ∀ {m : Nat} {xs : List (Int × Int)}, OwnG runC 2 e w base (.slice (some ⟨g, 0, none⟩) m c) xs → j < xs.length → runC a = (runC (nthG xs j)).set i u → OwnG runC 2 e (w.setCell ⟨g, j * 2 + i, none⟩ u) base (.slice (some ⟨g, 0, none⟩) m c) (xs.set j a) := by
    intro m xs hO hjx hex
    obtain ⟨g', cap', hv, _, _, _, _, hs⟩ := hO.form runC_len (by omega)
    injection hv with e1 e2 e3
    injection e1 with e1
    injection e1 with e1
    subst e1
    exact hs j i a u hjx hi hex
  refine ⟨by rw [List.length_set]; exact h1, h2, h3, key h4 (by omega) he, sp, by rw [List.length_append, List.length_set] at *; exact h5, ?_⟩
  have := key h6 (by rw [List.length_append]; omega) (by
    have : nthG (l ++ sp) j = nthG l j := by unfold nthG; rw [List.getD_eq_getElem?_getD, List.getD_eq_getElem?_getD, List.getElem?_append_left (by omega)]
    rw [this]; exact he)
  rwa [List.set_append_left _ _ (by omega)] at this
/-- Where the row lies, and the cells of pin 'p'. -/
theorem FullG.atP {e : TypeId} {w : World} {base n c : Nat} {A : Option Addr} {l : List (Int × Int)} (h : FullG runC 2 e w base A n c l) {p : Nat} (hp : p < n) : ∃ g, A = some ⟨g, 0, none⟩ ∧ base ≤ g ∧ g < w.heap.size ∧
    w.cell? ⟨g, p * 2, none⟩ = some (.int .i64 (nthG l p).1) ∧ w.cell? ⟨g, p * 2 + 1, none⟩ = some (.int .i64 (nthG l p).2) ∧ w.frozen? ⟨g, p * 2, none⟩ = false ∧ w.frozen? ⟨g, p * 2 + 1, none⟩ = false := by
  obtain ⟨h1, h2, h3, h4, _⟩ := h
  obtain ⟨g, cap, hv, _, hb, hlt, hc, _⟩ := h4.form runC_len (by omega)
  injection hv with e1 e2 e3
  exact ⟨g, e1, hb, hlt, (hc p (by omega) 0 (by omega)).1, (hc p (by omega) 1 (by omega)).1, (hc p (by omega) 0 (by omega)).2, (hc p (by omega) 1 (by omega)).2⟩
theorem FullG.allocP {α : Type} {enc : α → List Value} {size : Nat} {e : TypeId} {w : World} {base n c : Nat} {A : Option Addr} {l : List α} (h : FullG enc size e w base A n c l) (o : Obj) : FullG enc size e (w.alloc o) base A n c l := h.below ((Below.refl _ w).alloc (Nat.le_refl _) o)
/-- Add's fault. -/
def addE (l : List (Int × Int)) (a : Int) : Int := if callE l a = 0 then (if pinFull l a = true then 7 else 0) else callE l a
/-- Drop's fault. -/
def dropE (l : List (Int × Int)) (a : Int) : Int := if callE l a = 0 then (if manyL l a = 0 then 5 else 0) else callE l a
theorem many_pos {l : List (Int × Int)} {a : Int} (h : pinE l = 0) (hm : (a, manyL l a) ∈ l) : 1 ≤ manyL l a ∧ manyL l a ≤ 1000000 := by
  have := pinOk_iff.1 ((pinE_ok.1 h).2.1 _ hm)
  exact ⟨this.2.2.1, this.2.2.2⟩

set_option maxRecDepth 8000 in
set_option maxHeartbeats 1000000 in
theorem add_bad (A : Option Addr) (n c : Nat) (l : List (Int × Int)) (a : Int) (w : World) (hn : n ≤ maxLen) (ha : ArrG runC 2 w w.heap.size A n l) (hE : addE l a ≠ 0) :
    Calls Try.prog 30 #[.slice A n c, .int .i64 a] w (NoPins (addE l a) w) := by
  have HC := Lib.hid (checkWord_any A n c l a w hn ha)
  unfold NoPins
  by_cases h0 : callE l a = 0
  · have hf : pinFull l a = true := by
      unfold addE at hE
      rw [if_pos h0] at hE
      cases h : pinFull l a
      · rw [h] at hE; exact absurd rfl hE
      · rfl
    have he : addE l a = 7 := by unfold addE; rw [if_pos h0, if_pos hf]
    rw [he]
    rw [h0] at HC
    have hp := (callE_ok.1 h0).1
    obtain ⟨h16, hok, hr⟩ := pinE_ok.1 hp
    have hl := ha.1
    have hn16 : n ≤ 16 := by omega
    have HA := Lib.hid ha
    clear ha hE
    by_cases hm : ∀ x ∈ l, x.1 ≠ a
    · obtain ⟨p, hpl, hcut, hhit, hmany, _⟩ := pin_out hr hm
      have HFi := Lib.hid (fun wx hb => hhit ▸ find_any A n c p l a wx hn16 ((HA.out.below hb (Nat.le_refl _)).more (Below.size hb)) hcut)
      have hn2 : n = 16 := by simp [pinFull, hmany] at hf; omega
      have c16 : ((n : Int) == 16) = true := by simp; omega
      clear hm hcut hhit hmany hok hr hf he h0 hp hn2
      go_enter Try.func30, Try.ntmps30
      go_wp2_with fail
      refine HC.out.mono ?_
      rintro e w1 ⟨rfl, b1⟩
      have HB := Lib.hid b1
      clear b1
      go_wp2_with fail
      refine (HFi.out _ HB.out).mono ?_
      rintro e w2 ⟨rfl, b2⟩
      have HB2 := Lib.hid (HB.out.trans (b2.mono HB.out.size))
      clear b2
      go_wp2
      go_ret3
      exact ⟨rfl, HB2.out⟩
    · obtain ⟨p, hpl, hcut, hhit, hnth, hmem, _⟩ := pin_in hr hm
      have HFi := Lib.hid (fun wx hb => hhit ▸ find_any A n c p l a wx hn16 ((HA.out.below hb (Nat.le_refl _)).more (Below.size hb)) hcut)
      have hb := many_pos hp hmem
      have hM : manyL l a = 1000000 := by simp [pinFull] at hf; omega
      rw [hM] at hnth
      have HN := Lib.hid hnth
      have hpn : p < n := by omega
      have hpn' : (p : Int) < (n : Int) := by omega
      clear hm hcut hhit hnth hok hr hpl hl h16 hf he h0 hp hmem hb hM
      go_enter Try.func30, Try.ntmps30
      go_wp2_with fail
      refine HC.out.mono ?_
      rintro e w1 ⟨rfl, b1⟩
      have HB := Lib.hid b1
      clear b1
      go_wp2_with fail
      refine (HFi.out _ HB.out).mono ?_
      rintro e w2 ⟨rfl, b2⟩
      have HB2 := Lib.hid (HB.out.trans (b2.mono HB.out.size))
      clear b2
      obtain ⟨b, off, rfl, hbB, hc0, hc1⟩ := (HA.out.below HB2.out (Nat.le_refl _)).run hpn
      rw [HN.out] at hc0 hc1
      simp only at hc0 hc1
      go_wp2
      go_ret3
      exact ⟨rfl, HB2.out⟩
  · have he : addE l a = callE l a := by unfold addE; rw [if_neg h0]
    rw [he]
    have c1 : (callE l a != 0) = true := by simpa using h0
    clear ha hE he h0
    generalize callE l a = E at *
    go_enter Try.func30, Try.ntmps30
    go_wp2_with fail
    refine HC.out.mono ?_
    rintro e w1 ⟨rfl, b1⟩
    have HB := Lib.hid b1
    clear b1
    go_wp2
    go_ret3
    exact ⟨rfl, HB.out⟩

set_option maxRecDepth 8000 in
set_option maxHeartbeats 1000000 in
theorem add_full (A : Option Addr) (n c : Nat) (l : List (Int × Int)) (a : Int) (w : World) (ha : ArrG runC 2 w w.heap.size A n l) (hE : addE l a = 0) :
    Calls Try.prog 30 #[.slice A n c, .int .i64 a] w (NewPinsF (addL l a) (manyL l a + 1) w) := by
  have h0 : callE l a = 0 := by
    unfold addE at hE
    by_cases h : callE l a = 0
    · exact h
    · rw [if_neg h] at hE; exact hE
  have hf : pinFull l a = false := by
    unfold addE at hE
    rw [if_pos h0] at hE
    cases h : pinFull l a
    · rfl
    · rw [h] at hE; exact absurd hE (by decide)
  have hp := (callE_ok.1 h0).1
  obtain ⟨h16, hok, hr⟩ := pinE_ok.1 hp
  have hl := ha.1
  have hn16 : n ≤ 16 := by omega
  have HC := Lib.hid (checkWord_any A n c l a w (by unfold maxLen; omega) ha)
  rw [h0] at HC
  have HA := Lib.hid ha
  have HL := Lib.hid hl
  unfold NewPinsF
  clear ha hE
  by_cases hm : ∀ x ∈ l, x.1 ≠ a
  · obtain ⟨p, hpl, hcut, hhit, hmany, hadd⟩ := pin_out hr hm
    have HFi := Lib.hid (fun wx hb => hhit ▸ find_any A n c p l a wx hn16 ((HA.out.below hb (Nat.le_refl _)).more (Below.size hb)) hcut)
    have HK := Lib.hid (fun wx hb => cloneP_any A n c l wx (by omega) ((HA.out.below hb (Nat.le_refl _)).more (Below.size hb)))
    have hn15 : n ≤ 15 := by simp [pinFull, hmany] at hf; omega
    have c16 : ((n : Int) == 16) = false := by simp; omega
    rw [hmany, hadd]
    have hpn : p ≤ n := by omega
    clear hm hcut hhit hmany hadd hok hr hf h0 hp hl hpl h16
    go_enter Try.func30, Try.ntmps30
    go_wp2_with fail
    refine HC.out.mono ?_
    rintro e w1 ⟨rfl, b1⟩
    have HB := Lib.hid b1
    clear b1
    go_wp2_with fail
    refine (HFi.out _ HB.out).mono ?_
    rintro e w2 ⟨rfl, b2⟩
    have HB2 := Lib.hid (HB.out.trans (b2.mono HB.out.size))
    clear b2
    go_wp2_with fail
    refine (HK.out _ HB2.out).mono ?_
    rintro e w3 ⟨A3, c3, rfl, hO, b3⟩
    rw [HL.out] at hO ⊢
    have HB3 := Lib.hid (HB2.out.trans (b3.mono HB2.out.size))
    have hO3 := hO.less HB2.out.size
    have hlt3 : ∀ g off, A3 = some ⟨g, off, none⟩ → w3.heap.size ≠ g := fun g off e h => by
      have := hO3.own.rowLt g (by rw [e]; rfl)
      omega
    have HI := Lib.hid (insertP_any A3 n c3 p w3.heap.size a 0 l (w3.alloc (.cells #[.int .i64 a, .int .i64 0] 57)) w.heap.size (hO3.allocP _) HL.out hn15 hpn (Box.new w3 57 #[.int .i64 a, .int .i64 0]) hlt3 (by have := HB3.out.size; simp; omega))
    have HBA := Lib.hid (HB3.out.alloc HB3.out.size (.cells #[.int .i64 a, .int .i64 0] 57))
    clear hO hO3 hlt3 b3
    go_wp2_with fail
    refine HI.out.mono ?_
    rintro e w4 ⟨A4, c4, rfl, hO4, b4⟩
    rw [HL.out] at hO4 ⊢
    have hB4 := HBA.out.trans b4
    have hlen : (l.take p ++ (a, 0) :: l.drop p).length = n + 1 := hO4.1
    have htp : (l.take p).length = p := by rw [List.length_take, HL.out]; omega
    have hmid : nthG (l.take p ++ (a, 0) :: l.drop p) p = (a, 0) := by
      have := nthG_mid (l.take p) (l.drop p) (a, 0)
      rwa [htp] at this
    obtain ⟨g, rfl, hbg, hglt, _, hca, _, hfa⟩ := hO4.atP (p := p) (by omega)
    rw [hmid] at hca
    have hca' : w4.cell? ⟨g, p * 2 + 1, none⟩ = some (.int .i64 0) := hca
    have hS := hO4.oneP p 1 (a, 1) (.int .i64 1) (by omega) (by omega) (by rw [hmid]; rfl)
    rw [List.set_append_right _ _ (by omega), htp, Nat.sub_self, List.set_cons_zero] at hS
    have HS := Lib.hid hS
    have HB5 := Lib.hid (hB4.setCell (p := ⟨g, p * 2 + 1, none⟩) hbg (.int .i64 1))
    have hcs : (w4.setCell ⟨g, p * 2 + 1, none⟩ (.int .i64 1)).cell? ⟨g, p * 2 + 1, none⟩ = some (.int .i64 1) := World.cell?_setCell_same _ _ _ (by rw [hca'])
    have HCS := Lib.hid hcs
    have hpn1 : (p : Int) < ((n + 1 : Nat) : Int) := by omega
    clear hO4 b4 hB4 hca hS hlen htp hmid hcs
    go_wp2_with fail
    have hcs := HCS.out
    generalize (w4.setCell ⟨g, p * 2 + 1, none⟩ (.int .i64 1)) = W at *
    go_quiet (fail)
    go_wp2
    go_ret3
    exact ⟨_, _, _, rfl, HS.out, below_drewN HB5.out _⟩
  · obtain ⟨p, hpl, hcut, hhit, hnth, hmem, hadd, _⟩ := pin_in hr hm
    have HFi := Lib.hid (fun wx hb => hhit ▸ find_any A n c p l a wx hn16 ((HA.out.below hb (Nat.le_refl _)).more (Below.size hb)) hcut)
    have HK := Lib.hid (fun wx hb => cloneP_any A n c l wx (by omega) ((HA.out.below hb (Nat.le_refl _)).more (Below.size hb)))
    have hb := many_pos hp hmem
    have hM : manyL l a ≠ 1000000 := by simp [pinFull] at hf; exact hf.1
    rw [hadd]
    obtain ⟨M, hMM⟩ : ∃ M, manyL l a = M := ⟨_, rfl⟩
    rw [hMM] at hnth hb hM ⊢
    have HN := Lib.hid hnth
    have hpn : p < n := by omega
    have hpn' : (p : Int) < (n : Int) := by omega
    have cM : (M == 1000000) = false := by simpa using hM
    clear hm hcut hhit hnth hok hr hpl hl h16 hf h0 hp hmem hMM hadd hM
    go_enter Try.func30, Try.ntmps30
    go_wp2_with fail
    refine HC.out.mono ?_
    rintro e w1 ⟨rfl, b1⟩
    have HB := Lib.hid b1
    clear b1
    go_wp2_with fail
    refine (HFi.out _ HB.out).mono ?_
    rintro e w2 ⟨rfl, b2⟩
    have HB2 := Lib.hid (HB.out.trans (b2.mono HB.out.size))
    clear b2
    obtain ⟨b, off, rfl, hbB, hc0, hc1⟩ := (HA.out.below HB2.out (Nat.le_refl _)).run hpn
    rw [HN.out] at hc0 hc1
    simp only at hc0 hc1
    go_wp2_with fail
    refine (HK.out _ HB2.out).mono ?_
    rintro e w3 ⟨A3, c3, rfl, hO, b3⟩
    have hB3 := HB2.out.trans (b3.mono HB2.out.size)
    have hO3 := hO.less HB2.out.size
    rw [HL.out] at hO3 ⊢
    obtain ⟨g, rfl, hbg, hglt, _, hca, _, hfa⟩ := hO3.atP hpn
    rw [HN.out] at hca
    have hca' : w3.cell? ⟨g, p * 2 + 1, none⟩ = some (.int .i64 M) := hca
    have HS := Lib.hid (hO3.oneP p 1 (a, M + 1) (.int .i64 (M + 1)) hpn (by omega) (by rw [HN.out]; rfl))
    have HB5 := Lib.hid (hB3.setCell (p := ⟨g, p * 2 + 1, none⟩) hbg (.int .i64 (M + 1)))
    have HCS : Hid ((w3.setCell ⟨g, p * 2 + 1, none⟩ (.int .i64 (M + 1))).cell? ⟨g, p * 2 + 1, none⟩ = some (.int .i64 (M + 1))) := World.cell?_setCell_same _ _ _ (by rw [hca'])
    clear hO hO3 b3 hB3 hca hc0 hc1
    go_wp2_with fail
    have hcs := HCS.out
    generalize (w3.setCell ⟨g, p * 2 + 1, none⟩ (.int .i64 (M + 1))) = W at *
    go_quiet (fail)
    go_wp2
    go_ret3
    exact ⟨_, _, _, rfl, HS.out, below_drewN HB5.out _⟩
theorem add_good (A : Option Addr) (n c : Nat) (l : List (Int × Int)) (a : Int) (w : World) (ha : ArrG runC 2 w w.heap.size A n l) (hE : addE l a = 0) :
    Calls Try.prog 30 #[.slice A n c, .int .i64 a] w (NewPins (addL l a) (manyL l a + 1) w) := (add_full A n c l a w ha hE).mono fun _ _ h => h.less

set_option maxRecDepth 8000 in
set_option maxHeartbeats 1000000 in
theorem drop_bad (A : Option Addr) (n c : Nat) (l : List (Int × Int)) (a : Int) (w : World) (hn : n ≤ maxLen) (ha : ArrG runC 2 w w.heap.size A n l) (hE : dropE l a ≠ 0) :
    Calls Try.prog 31 #[.slice A n c, .int .i64 a] w (NoPins (dropE l a) w) := by
  have HC := Lib.hid (checkWord_any A n c l a w hn ha)
  unfold NoPins
  by_cases h0 : callE l a = 0
  · have hf : manyL l a = 0 := by
      unfold dropE at hE
      rw [if_pos h0] at hE
      by_cases h : manyL l a = 0
      · exact h
      · rw [if_neg h] at hE; exact absurd rfl hE
    have he : dropE l a = 5 := by unfold dropE; rw [if_pos h0, if_pos hf]
    rw [he]
    rw [h0] at HC
    have hp := (callE_ok.1 h0).1
    obtain ⟨h16, hok, hr⟩ := pinE_ok.1 hp
    have hl := ha.1
    have hn16 : n ≤ 16 := by omega
    have HA := Lib.hid ha
    clear ha hE
    by_cases hm : ∀ x ∈ l, x.1 ≠ a
    · obtain ⟨p, hpl, hcut, hhit, hmany, _⟩ := pin_out hr hm
      have HFi := Lib.hid (fun wx hb => hhit ▸ find_any A n c p l a wx hn16 ((HA.out.below hb (Nat.le_refl _)).more (Below.size hb)) hcut)
      clear hm hcut hhit hmany hok hr hf he h0 hp
      go_enter Try.func31, Try.ntmps31
      go_wp2_with fail
      refine HC.out.mono ?_
      rintro e w1 ⟨rfl, b1⟩
      have HB := Lib.hid b1
      clear b1
      go_wp2_with fail
      refine (HFi.out _ HB.out).mono ?_
      rintro e w2 ⟨rfl, b2⟩
      have HB2 := Lib.hid (HB.out.trans (b2.mono HB.out.size))
      clear b2
      go_wp2
      go_ret3
      exact ⟨rfl, HB2.out⟩
    · obtain ⟨p, _, _, _, _, hmem, _⟩ := pin_in hr hm
      have hb := many_pos hp hmem
      omega
  · have he : dropE l a = callE l a := by unfold dropE; rw [if_neg h0]
    rw [he]
    have c1 : (callE l a != 0) = true := by simpa using h0
    clear ha hE he h0
    generalize callE l a = E at *
    go_enter Try.func31, Try.ntmps31
    go_wp2_with fail
    refine HC.out.mono ?_
    rintro e w1 ⟨rfl, b1⟩
    have HB := Lib.hid b1
    clear b1
    go_wp2
    go_ret3
    exact ⟨rfl, HB.out⟩

set_option maxRecDepth 8000 in
set_option maxHeartbeats 1000000 in
theorem drop_full (A : Option Addr) (n c : Nat) (l : List (Int × Int)) (a : Int) (w : World) (ha : ArrG runC 2 w w.heap.size A n l) (hE : dropE l a = 0) :
    Calls Try.prog 31 #[.slice A n c, .int .i64 a] w (NewPinsF (dropL l a) (manyL l a - 1) w) := by
  have h0 : callE l a = 0 := by
    unfold dropE at hE
    by_cases h : callE l a = 0
    · exact h
    · rw [if_neg h] at hE; exact hE
  have hf : manyL l a ≠ 0 := by
    unfold dropE at hE
    rw [if_pos h0] at hE
    intro h
    rw [if_pos h] at hE; exact absurd hE (by decide)
  have hp := (callE_ok.1 h0).1
  obtain ⟨h16, hok, hr⟩ := pinE_ok.1 hp
  have hl := ha.1
  have hn16 : n ≤ 16 := by omega
  have HC := Lib.hid (checkWord_any A n c l a w (by unfold maxLen; omega) ha)
  rw [h0] at HC
  have HA := Lib.hid ha
  have HL := Lib.hid hl
  unfold NewPinsF
  clear ha hE
  by_cases hm : ∀ x ∈ l, x.1 ≠ a
  · obtain ⟨p, _, _, _, hmany, _⟩ := pin_out hr hm
    exact absurd hmany hf
  · obtain ⟨p, hpl, hcut, hhit, hnth, hmem, _, hd1, hd2⟩ := pin_in hr hm
    have HFi := Lib.hid (fun wx hb => hhit ▸ find_any A n c p l a wx hn16 ((HA.out.below hb (Nat.le_refl _)).more (Below.size hb)) hcut)
    have HK := Lib.hid (fun wx hb => cloneP_any A n c l wx (by omega) ((HA.out.below hb (Nat.le_refl _)).more (Below.size hb)))
    have hb := many_pos hp hmem
    have HD1 := Lib.hid hd1
    have HD2 := Lib.hid hd2
    obtain ⟨M, hMM⟩ : ∃ M, manyL l a = M := ⟨_, rfl⟩
    rw [hMM] at hnth hb HD1 HD2 ⊢
    have HN := Lib.hid hnth
    have hpn : p < n := by omega
    have hpn' : (p : Int) < (n : Int) := by omega
    clear hm hcut hhit hnth hok hr hpl hl h16 hf h0 hp hmem hMM hd1 hd2
    go_enter Try.func31, Try.ntmps31
    go_wp2_with fail
    refine HC.out.mono ?_
    rintro e w1 ⟨rfl, b1⟩
    have HB := Lib.hid b1
    clear b1
    go_wp2_with fail
    refine (HFi.out _ HB.out).mono ?_
    rintro e w2 ⟨rfl, b2⟩
    have HB2 := Lib.hid (HB.out.trans (b2.mono HB.out.size))
    clear b2
    go_wp2_with fail
    refine (HK.out _ HB2.out).mono ?_
    rintro e w3 ⟨A3, c3, rfl, hO, b3⟩
    have hB3 := HB2.out.trans (b3.mono HB2.out.size)
    have hO3 := hO.less HB2.out.size
    rw [HL.out] at hO3 ⊢
    obtain ⟨g, rfl, hbg, hglt, _, hca, _, hfa⟩ := hO3.atP hpn
    rw [HN.out] at hca
    have hca' : w3.cell? ⟨g, p * 2 + 1, none⟩ = some (.int .i64 M) := hca
    have hS := hO3.oneP p 1 (a, M - 1) (.int .i64 (M - 1)) hpn (by omega) (by rw [HN.out]; rfl)
    have HS := Lib.hid hS
    have HB5 := Lib.hid (hB3.setCell (p := ⟨g, p * 2 + 1, none⟩) hbg (.int .i64 (M - 1)))
    have HCS : Hid ((w3.setCell ⟨g, p * 2 + 1, none⟩ (.int .i64 (M - 1))).cell? ⟨g, p * 2 + 1, none⟩ = some (.int .i64 (M - 1))) := World.cell?_setCell_same _ _ _ (by rw [hca'])
    have hset' : Hid ((l.set p (a, M - 1)).take p ++ (l.set p (a, M - 1)).drop (p + 1) = l.take p ++ l.drop (p + 1)) := by
      show _ = _
      rw [List.take_set_of_le (by omega), List.drop_set_of_lt (by omega)]
    clear hO hO3 b3 hB3 hca hS
    by_cases h1 : M = 1
    · subst h1
      have HDL := Lib.hid (HD1.out rfl)
      have HDe := Lib.hid (fun w' hOw => deleteP_any (some ⟨g, 0, none⟩) n c3 p ((p : Int) + 1) (l.set p (a, 1 - 1)) w' w.heap.size hOw (by rw [List.length_set]; exact HL.out) hpn rfl hn16)
      have e5 : ((1 : Int) - 1) = 0 := rfl
      rw [e5] at HS HB5 HCS hset' HDe
      clear e5 HD1 HD2
      go_wp2_with fail
      refine (HDe.out _ HS.out).mono ?_
      rintro e w5 ⟨A5, c5, rfl, hO5, b5⟩
      rw [hset'.out] at hO5
      have HO5 := Lib.hid hO5
      have HB6 := Lib.hid (HB5.out.trans b5)
      clear hO5 b5
      go_wp2
      go_ret3
      exact ⟨_, _, _, rfl, by rw [HDL.out]; exact HO5.out, HB6.out⟩
    · have cM : (M - 1 == 0) = false := by simp; omega
      have HDL := Lib.hid (HD2.out h1)
      clear HD1 HD2
      go_wp2
      go_ret3
      exact ⟨_, _, _, rfl, by rw [HDL.out]; exact HS.out, HB5.out⟩
theorem drop_good (A : Option Addr) (n c : Nat) (l : List (Int × Int)) (a : Int) (w : World) (ha : ArrG runC 2 w w.heap.size A n l) (hE : dropE l a = 0) :
    Calls Try.prog 31 #[.slice A n c, .int .i64 a] w (NewPins (dropL l a) (manyL l a - 1) w) := (drop_full A n c l a w ha hE).mono fun _ _ h => h.less
end Go.Proofs.Ytedndmhekjfpdaa
