/-
  Contracts of package hand's parts: isWord, checkSlot, Check, canOpen, nameOf, allWords; of slices.IndexFunc, slices.Clone at api.Hands.
-/
import Derived.Test.YtedndmhekjfpdaaHandM
import Derived.Test.YtedndmhekjfpdaaFullG
namespace Go.Proofs.Ytedndmhekjfpdaa
open Go.RowKit

theorem slotI : (Try.prog.info? 41).map (fun i => (i.zero, i.size, i.bytes)) = some (some (.agg #[.int .i64 0, .bool false, .int .i64 0]), 3, 24) := by kernel_rfl
theorem slotS : (Try.prog.info? 41).map (·.size) = some 3 := by kernel_rfl

set_option maxHeartbeats 400000 in
theorem handWord_any (a : Int) (w : World) : Calls Try.prog 32 #[.int .i64 a] w fun e w' => e = .returned (.bool (inHand a)) ∧ w = w' := by
  by_cases h1 : 0 ≤ a
  · have c1 : (0 ≤ a) = True := eq_true h1
    by_cases h2 : a < 256
    · have HR : Hid (inHand a = true) := inHand_iff.2 ⟨h1, h2⟩
      have c2 : (a < 256) = True := eq_true h2
      clear h1 h2
      go_enter Try.func32, Try.ntmps32
      go_wp2
      go_ret
      exact ⟨by rw [HR.out]; rfl, rfl⟩
    · have HR : Hid (inHand a = false) := by show _ = _; simp [inHand]; omega
      have c2 : (a < 256) = False := eq_false h2
      clear h1 h2
      go_enter Try.func32, Try.ntmps32
      go_wp2
      go_ret
      exact ⟨by rw [HR.out]; rfl, rfl⟩
  · have HR : Hid (inHand a = false) := by show _ = _; simp [inHand]; omega
    have c1 : (0 ≤ a) = False := eq_false h1
    clear h1
    go_enter Try.func32, Try.ntmps32
    go_wp2
    go_ret
    exact ⟨by rw [HR.out]; rfl, rfl⟩

set_option maxRecDepth 8000 in
set_option maxHeartbeats 1000000 in
theorem checkSlot_any (X : Int) (O : Bool) (Z : Int) (w : World) : Calls Try.prog 38 #[.agg #[.int .i64 X, .bool O, .int .i64 Z]] w fun e w' => e = .returned (.int .i64 (slotE (X, O, Z))) ∧ Below w.heap.size w w' := by
  have HW := Lib.hid (fun wx => handWord_any Z wx)
  have HB := Lib.hid ((Below.refl w.heap.size w).alloc (Nat.le_refl _) (.cells #[.int .i64 X, .bool O, .int .i64 Z] 41))
  have bx := Box.new w 41 #[.int .i64 X, .bool O, .int .i64 Z]
  have y0 : (w.alloc (.cells #[.int .i64 X, .bool O, .int .i64 Z] 41)).cell? ⟨w.heap.size, 0, none⟩ = some (.int .i64 X) := bx.cell 0
  have y1 : (w.alloc (.cells #[.int .i64 X, .bool O, .int .i64 Z] 41)).cell? ⟨w.heap.size, 1, none⟩ = some (.bool O) := bx.cell 1
  have y2 : (w.alloc (.cells #[.int .i64 X, .bool O, .int .i64 Z] 41)).cell? ⟨w.heap.size, 2, none⟩ = some (.int .i64 Z) := bx.cell 2
  clear bx
  by_cases h1 : X < 0
  · have HR : Hid (slotE (X, O, Z) = 4) := slotE_range (.inl h1)
    have c1 : (X < 0) = True := eq_true h1
    clear h1
    go_enter Try.func38, Try.ntmps38
    go_wp2
    go_ret
    exact ⟨by rw [HR.out]; rfl, HB.out⟩
  · have c1 : (X < 0) = False := eq_false h1
    by_cases h2 : 65535 < X
    · have HR : Hid (slotE (X, O, Z) = 4) := slotE_range (.inr (.inl h2))
      have c2 : (65535 < X) = True := eq_true h2
      clear h1 h2
      go_enter Try.func38, Try.ntmps38
      go_wp2
      go_ret
      exact ⟨by rw [HR.out]; rfl, HB.out⟩
    · have c2 : (65535 < X) = False := eq_false h2
      cases hz : inHand Z
      · have hz' : ¬ (0 ≤ Z ∧ Z < 256) := fun h => by rw [inHand_iff.2 h] at hz; cases hz
        have HR : Hid (slotE (X, O, Z) = 4) := slotE_range (by simp only; omega)
        rw [hz] at HW
        clear h1 h2 hz hz'
        go_enter Try.func38, Try.ntmps38
        go_wp2_with fail
        refine (HW.out _).mono ?_
        rintro e w1 ⟨rfl, rfl⟩
        go_wp2
        go_ret
        exact ⟨by rw [HR.out]; rfl, HB.out⟩
      · have hz' := inHand_iff.1 hz
        have hr : ¬ ((X, O, Z).1 < 0 ∨ 65535 < (X, O, Z).1 ∨ (X, O, Z).2.2 < 0 ∨ 255 < (X, O, Z).2.2) := by simp only; omega
        rw [hz] at HW
        cases O
        · by_cases h3 : Z = 0
          · have HR : Hid (slotE (X, false, Z) = 0) := slotE_ok.2 ⟨by simp only; omega, by simp only; omega, by simp only; omega, by simp only; omega, (fun hc => by cases hc), fun _ => h3⟩
            have c3 : (Z != 0) = false := by simp [h3]
            clear h1 h2 h3 hz hz' hr
            go_enter Try.func38, Try.ntmps38
            go_wp2_with fail
            refine (HW.out _).mono ?_
            rintro e w1 ⟨rfl, rfl⟩
            go_wp2
            go_ret
            exact ⟨by rw [HR.out]; rfl, HB.out⟩
          · have HR : Hid (slotE (X, false, Z) = 3) := slotE_form hr (.inr ⟨rfl, h3⟩)
            have c3 : (Z != 0) = true := by simpa using h3
            clear h1 h2 h3 hz hz' hr
            go_enter Try.func38, Try.ntmps38
            go_wp2_with fail
            refine (HW.out _).mono ?_
            rintro e w1 ⟨rfl, rfl⟩
            go_wp2
            go_ret
            exact ⟨by rw [HR.out]; rfl, HB.out⟩
        · by_cases h3 : X = 0
          · have HR : Hid (slotE (X, true, Z) = 3) := slotE_form hr (.inl ⟨rfl, h3⟩)
            have c3 : (X == 0) = true := by simp [h3]
            clear h1 h2 h3 hz hz' hr
            go_enter Try.func38, Try.ntmps38
            go_wp2_with fail
            refine (HW.out _).mono ?_
            rintro e w1 ⟨rfl, rfl⟩
            go_wp2
            go_ret
            exact ⟨by rw [HR.out]; rfl, HB.out⟩
          · have HR : Hid (slotE (X, true, Z) = 0) := slotE_ok.2 ⟨by simp only; omega, by simp only; omega, by simp only; omega, by simp only; omega, (fun _ => h3), fun hc => by cases hc⟩
            have c3 : (X == 0) = false := by simpa using h3
            clear h1 h2 h3 hz hz' hr
            go_enter Try.func38, Try.ntmps38
            go_wp2_with fail
            refine (HW.out _).mono ?_
            rintro e w1 ⟨rfl, rfl⟩
            go_wp2
            go_ret
            exact ⟨by rw [HR.out]; rfl, HB.out⟩

set_option maxRecDepth 8000 in
set_option maxHeartbeats 1000000 in
theorem handCheck_any (A : Option Addr) (n c : Nat) (l : List Slt) (w : World) (hn : n ≤ maxLen) (ha : ArrG slotC 3 w w.heap.size A n l) :
    Calls Try.prog 16 #[.slice A n c] w fun e w' => e = .returned (.int .i64 (handE l)) ∧ Below w.heap.size w w' := by
  unfold maxLen at hn
  have hl := ha.1
  by_cases h16 : 16 < n
  · have HR : Hid (handE l = 2) := by show _ = _; unfold handE; rw [if_pos (by omega)]
    have c1 : ((16 : Int) < (n : Int)) = True := eq_true (by omega)
    clear ha hl
    go_enter Try.func16, Try.ntmps16
    go_wp2
    go_ret
    exact ⟨by rw [HR.out]; rfl, Below.refl _ _⟩
  · have c1 : ((16 : Int) < (n : Int)) = False := eq_false (by omega)
    have HA := Lib.hid ha
    have HL := Lib.hid hl
    clear ha hl
    go_enter Try.func16, Try.ntmps16
    go_wp2_with fail
    go_loopw [11] (fun i wr => ∃ k : Nat, k ≤ n ∧ i = .int .i64 k ∧ Hid (handTo l k = 0) ∧ Hid (Below w.heap.size w wr)) (fun i _ => n - (intOf i).toNat)
    case atStart => exact ⟨0, Nat.zero_le _, rfl, rfl, Below.refl _ _⟩
    case round =>
      obtain ⟨k, hk, rfl, HT, HB⟩ := hrel
      by_cases hlt : k < n
      · obtain ⟨b, off, rfl, hbB, hc0, hc1, hc2⟩ := (HA.out.below HB.out (Nat.le_refl _)).slot hlt
        have HBAD : Hid (slotE (nthG l k) ≠ 0 → handE l = slotE (nthG l k)) := fun h => handE_at (by rw [HL.out]; omega) (by rw [HL.out]; exact hlt) HT.out h
        have HGOOD : Hid (slotE (nthG l k) = 0 → handTo l (k + 1) = 0) := fun h => by rw [handTo_next HT.out]; exact h
        obtain ⟨X, O, Z, hX⟩ : ∃ X O Z, nthG l k = (X, O, Z) := ⟨_, _, _, rfl⟩
        rw [hX] at hc0 hc1 hc2 HBAD HGOOD
        simp only at hc0 hc1 hc2
        have bx := Box.new wr 41 #[.int .i64 X, .bool O, .int .i64 Z]
        have y0 : (wr.alloc (.cells #[.int .i64 X, .bool O, .int .i64 Z] 41)).cell? ⟨wr.heap.size, 0, none⟩ = some (.int .i64 X) := bx.cell 0
        have y1 : (wr.alloc (.cells #[.int .i64 X, .bool O, .int .i64 Z] 41)).cell? ⟨wr.heap.size, 1, none⟩ = some (.bool O) := bx.cell 1
        have y2 : (wr.alloc (.cells #[.int .i64 X, .bool O, .int .i64 Z] 41)).cell? ⟨wr.heap.size, 2, none⟩ = some (.int .i64 Z) := bx.cell 2
        have HBw := Lib.hid (HB.out.alloc HB.out.size (.cells #[.int .i64 X, .bool O, .int .i64 Z] 41))
        have HC := Lib.hid (checkSlot_any X O Z (wr.alloc (.cells #[.int .i64 X, .bool O, .int .i64 Z] 41)))
        obtain ⟨E, hE⟩ : ∃ E, slotE (X, O, Z) = E := ⟨_, rfl⟩
        rw [hE] at HBAD HGOOD HC
        clear bx hX hE HT
        by_cases h0 : E = 0
        · subst h0
          have HN := Lib.hid (HGOOD.out rfl)
          clear HBAD HGOOD
          go_wp2_with fail
          refine HC.out.mono ?_
          rintro e w1 ⟨rfl, b1⟩
          have HB1 := Lib.hid (HBw.out.trans (b1.mono HBw.out.size))
          clear b1
          go_wp2
          go_roundw
          case rel => exact ⟨k + 1, by omega, by go_num, HN, HB1⟩
          case measure => simp [intOf]; omega
        · have HR := Lib.hid (HBAD.out h0)
          have c2 : (E != 0) = true := by simpa using h0
          clear HBAD HGOOD h0
          go_wp2_with fail
          refine HC.out.mono ?_
          rintro e w1 ⟨rfl, b1⟩
          have HB1 := Lib.hid (HBw.out.trans (b1.mono HBw.out.size))
          clear b1
          go_wp2
          go_ret
          exact ⟨by rw [HR.out]; rfl, HB1.out⟩
      · obtain rfl : k = n := by omega
        have HR : Hid (handE l = 0) := by
          show _ = _
          unfold handE
          rw [if_neg (by rw [HL.out]; omega), HL.out]
          exact HT.out
        go_wp2
        go_ret
        exact ⟨by rw [HR.out]; rfl, HB.out⟩

set_option maxHeartbeats 400000 in
theorem canOpen_any (X : Int) (O : Bool) (Z : Int) (w : World) : Calls Try.prog 34 #[.agg #[.int .i64 X, .bool O, .int .i64 Z]] w fun e w' => e = .returned (.bool (canO (X, O, Z))) ∧ Below w.heap.size w w' := by
  have HB := Lib.hid ((Below.refl w.heap.size w).alloc (Nat.le_refl _) (.cells #[.int .i64 X, .bool O, .int .i64 Z] 41))
  have bx := Box.new w 41 #[.int .i64 X, .bool O, .int .i64 Z]
  have y0 : (w.alloc (.cells #[.int .i64 X, .bool O, .int .i64 Z] 41)).cell? ⟨w.heap.size, 0, none⟩ = some (.int .i64 X) := bx.cell 0
  have y1 : (w.alloc (.cells #[.int .i64 X, .bool O, .int .i64 Z] 41)).cell? ⟨w.heap.size, 1, none⟩ = some (.bool O) := bx.cell 1
  clear bx
  cases O
  · by_cases h : X < 65535
    · have HR : Hid (canO (X, false, Z) = true) := by show _ = _; simp [canO, h]
      have c1 : (X < 65535) = True := eq_true h
      clear h
      go_enter Try.func34, Try.ntmps34
      go_wp2
      go_ret
      exact ⟨by rw [HR.out]; rfl, HB.out⟩
    · have HR : Hid (canO (X, false, Z) = false) := by show _ = _; simp [canO, h]
      have c1 : (X < 65535) = False := eq_false h
      clear h
      go_enter Try.func34, Try.ntmps34
      go_wp2
      go_ret
      exact ⟨by rw [HR.out]; rfl, HB.out⟩
  · have HR : Hid (canO (X, true, Z) = false) := rfl
    go_enter Try.func34, Try.ntmps34
    go_wp2
    go_ret
    exact ⟨by rw [HR.out]; rfl, HB.out⟩

set_option maxHeartbeats 400000 in
theorem nameOf_any (i : Nat) (X : Int) (O : Bool) (Z : Int) (w : World) (hi : i ≤ 16) (h0 : 0 ≤ X) (h1 : X ≤ 65535) : Calls Try.prog 35 #[.int .i64 i, .agg #[.int .i64 X, .bool O, .int .i64 Z]] w fun e w' => e = .returned (.int .u64 (nameN i (X, O, Z))) ∧ Below w.heap.size w w' := by
  have HB := Lib.hid ((Below.refl w.heap.size w).alloc (Nat.le_refl _) (.cells #[.int .i64 X, .bool O, .int .i64 Z] 41))
  have bx := Box.new w 41 #[.int .i64 X, .bool O, .int .i64 Z]
  have y0 : (w.alloc (.cells #[.int .i64 X, .bool O, .int .i64 Z] 41)).cell? ⟨w.heap.size, 0, none⟩ = some (.int .i64 X) := bx.cell 0
  clear bx
  go_enter Try.func35, Try.ntmps35
  go_wp2
  go_ret
  exact ⟨congrArg (fun z => Ending.returned (Value.int .u64 z)) (by unfold nameN; first | rfl | (simp only; omega)), HB.out⟩
set_option maxHeartbeats 400000 in
theorem handName_any (i : Nat) (X : Int) (O : Bool) (Z : Int) (w : World) (hi : i ≤ 16) (h0 : 0 ≤ X) (h1 : X ≤ 65535) : Calls Try.prog 17 #[.int .i64 i, .agg #[.int .i64 X, .bool O, .int .i64 Z]] w fun e w' => e = .returned (.int .u64 (nameN i (X, O, Z))) ∧ Below w.heap.size w w' := by
  have HB := Lib.hid ((Below.refl w.heap.size w).alloc (Nat.le_refl _) (.cells #[.int .i64 X, .bool O, .int .i64 Z] 41))
  have bx := Box.new w 41 #[.int .i64 X, .bool O, .int .i64 Z]
  have y0 : (w.alloc (.cells #[.int .i64 X, .bool O, .int .i64 Z] 41)).cell? ⟨w.heap.size, 0, none⟩ = some (.int .i64 X) := bx.cell 0
  clear bx
  go_enter Try.func17, Try.ntmps17
  go_wp2
  go_ret
  exact ⟨congrArg (fun z => Ending.returned (Value.int .u64 z)) (by unfold nameN; first | rfl | (simp only; omega)), HB.out⟩

set_option maxHeartbeats 400000 in
theorem indexSlot (A : Option Addr) (n c B fid : Nat) (caps : Array Value) (l : List Slt) (f : Nat → Bool) (w : World) (hn : n ≤ maxLen) (hB0 : B ≤ w.heap.size) (hx : ArrG slotC 3 w B A n l) (hcall : ∀ args wx, Sem.run Try.prog (callFunc fid args) wx = .ok (.enter fid args) wx)
    (hF : ∀ wx, Below w.heap.size w wx → ∀ j, j < n → Calls Try.prog fid (#[.agg #[.int .i64 (nthG l j).1, .bool (nthG l j).2.1, .int .i64 (nthG l j).2.2]] ++ caps) wx (fun e w' => e = .returned (.bool (f j)) ∧ Below wx.heap.size wx w')) :
    Calls Try.prog 33 #[.slice A n c, .func (.func fid) #[] caps] w (FoundAt n f w) := by
  unfold maxLen at hn
  have HF := Lib.hid hF
  clear hF
  go_enter Try.func33, Try.ntmps33
  go_wp2
  go_loopw [8] (fun i wr => ∃ k : Nat, k ≤ n ∧ i = .int .i64 k ∧ Hid (∀ j, j < k → f j = false) ∧ Below w.heap.size w wr) (fun i _ => n - (intOf i).toNat)
  case atStart => exact ⟨0, Nat.zero_le _, rfl, (fun j hj => absurd hj (by omega)), Below.refl _ _⟩
  case round =>
    obtain ⟨k, hk, rfl, HE, hB⟩ := hrel
    by_cases hlt : k < n
    · obtain ⟨b, off, rfl, hbB, hc0, hc1, hc2⟩ := (hx.below hB hB0).slot hlt
      have hC := HF.out wr hB k hlt
      have HC := Lib.hid hC
      have HB := Lib.hid hB
      clear hC hB hx
      generalize (nthG l k).1 = X at *
      generalize (nthG l k).2.1 = Y at *
      generalize (nthG l k).2.2 = Z at *
      cases hf : f k
      · rw [hf] at HC
        have Hf := Lib.hid hf
        clear hf
        go_wp2_with fail
        refine HC.out.mono ?_
        rintro e w1 ⟨rfl, hb1⟩
        have HB1 := Lib.hid (HB.out.trans (hb1.mono HB.out.size))
        clear hb1
        go_wp2
        go_roundw
        case rel =>
          refine ⟨k + 1, by omega, by go_num, fun j hj => ?_, HB1.out⟩
          rcases Nat.lt_succ_iff_lt_or_eq.1 hj with h | h
          · exact HE.out j h
          · rw [h]; exact Hf.out
        case measure => simp [intOf]; omega
      · rw [hf] at HC
        have Hf := Lib.hid hf
        clear hf
        go_wp2_with fail
        refine HC.out.mono ?_
        rintro e w1 ⟨rfl, hb1⟩
        have HB1 := Lib.hid (HB.out.trans (hb1.mono HB.out.size))
        clear hb1
        go_wp2
        go_ret
        exact ⟨_, rfl, HB1.out, .inl ⟨k, rfl, hlt, Hf.out, HE.out⟩⟩
    · obtain rfl : k = n := by omega
      have HB := Lib.hid hB
      clear hB hx
      go_wp2
      go_ret
      exact ⟨_, rfl, HB.out, .inr ⟨rfl, HE.out⟩⟩

set_option maxRecDepth 8000 in
/-- The first slot that may be opened. -/
theorem indexFree (A : Option Addr) (n c : Nat) (l : List Slt) (w : World) (hn : n ≤ maxLen) (hx : ArrG slotC 3 w w.heap.size A n l) :
    Calls Try.prog 33 #[.slice A n c, .func (.func 34) #[] #[]] w (FoundAt n (freeN l) w) :=
  indexSlot A n c w.heap.size 34 #[] l (freeN l) w hn (Nat.le_refl _) hx (fun args wx => Try.call34 args wx) fun wx _ j _ => canOpen_any (nthG l j).1 (nthG l j).2.1 (nthG l j).2.2 wx

set_option maxHeartbeats 400000 in
theorem allWords_any (A : Option Addr) (n c B : Nat) (zs : List Int) (w : World) (hn : n ≤ maxLen) (ha : Arr .i64 w B A n zs) :
    Calls Try.prog 37 #[.slice A n c] w fun e w' => e = .returned (.bool (wordsIn zs)) ∧ w = w' := by
  unfold maxLen at hn
  have hl := ha.1
  have HA := Lib.hid ha
  have HL := Lib.hid hl
  clear ha hl
  go_enter Try.func37, Try.ntmps37
  go_wp2
  go_loopw [7] (fun i wr => ∃ k : Nat, k ≤ n ∧ i = .int .i64 k ∧ Hid (∀ j, j < k → inHand (nth zs j) = true) ∧ w = wr) (fun i _ => n - (intOf i).toNat)
  case atStart => exact ⟨0, Nat.zero_le _, rfl, (fun j hj => absurd hj (by omega)), rfl⟩
  case round =>
    obtain ⟨k, hk, rfl, HE, rfl⟩ := hrel
    by_cases hlt : k < n
    · obtain ⟨b, off, rfl, _, hcs⟩ := HA.out.2.2 (by omega)
      have hc := hcs k hlt
      clear hcs
      have HW := Lib.hid (fun wx => handWord_any (nth zs k) wx)
      cases h : inHand (nth zs k)
      · have HR : Hid (wordsIn zs = false) := by
          show _ = _
          unfold wordsIn
          rw [List.all_eq_false]
          exact ⟨nth zs k, by rw [nth_get _ _ (by rw [HL.out]; exact hlt)]; exact List.getElem_mem _, by rw [h]; decide⟩
        rw [h] at HW
        clear h
        generalize nth zs k = X at *
        go_wp2_with fail
        refine (HW.out _).mono ?_
        rintro e w1 ⟨rfl, rfl⟩
        go_wp2
        go_ret
        exact ⟨by rw [HR.out]; rfl, rfl⟩
      · have HEn : Hid (∀ j, j < k + 1 → inHand (nth zs j) = true) := fun j hj => by
          rcases Nat.lt_succ_iff_lt_or_eq.1 hj with h2 | h2
          · exact HE.out j h2
          · rw [h2]; exact h
        rw [h] at HW
        clear h
        generalize nth zs k = X at *
        go_wp2_with fail
        refine (HW.out _).mono ?_
        rintro e w1 ⟨rfl, rfl⟩
        go_wp2
        go_roundw
        case rel => exact ⟨k + 1, by omega, by go_num, HEn, by trivial⟩
        case measure => simp [intOf]; omega
    · obtain rfl : k = n := by omega
      have HR : Hid (wordsIn zs = true) := by
        show _ = _
        unfold wordsIn
        rw [List.all_eq_true]
        intro x hx
        obtain ⟨i, hi, rfl⟩ := List.getElem_of_mem hx
        have := HE.out i (by rw [← HL.out]; exact hi)
        rwa [nth_get _ _ hi] at this
      go_wp2
      go_ret
      exact ⟨by rw [HR.out]; rfl, rfl⟩

/-- What slices.Clone answers. -/
def ClonedS (l : List Slt) (w : World) (e : Ending) (w' : World) : Prop := ∃ A c, e = .returned (.slice A l.length c) ∧ FullG slotC 3 41 w' w.heap.size A l.length c l ∧ Below w.heap.size w w'

set_option maxHeartbeats 400000 in
theorem cloneS_any (A : Option Addr) (n c : Nat) (l : List Slt) (w : World) (hn : n * 24 ≤ 281474976710656) (ha : ArrG slotC 3 w w.heap.size A n l) :
    Calls Try.prog 19 #[.slice A n c] w (ClonedS l w) := by
  have hq := fun wx => Lib.run_eql_slice_nil (P := Try.prog) wx 23 41 A n c 0 0 Try.underlying23
  rcases A with _ | x
  · have h0 : n = 0 := ha.none_len
    subst h0
    have h1 : l = [] := List.eq_nil_of_length_eq_zero ha.1
    subst h1
    clear ha
    go_enter Try.func19, Try.ntmps19
    go_wp2
    go_ret
    exact ⟨none, 0, rfl, FullG.nil, Below.refl _ _⟩
  · obtain ⟨A', c', w', hrun, hF, hB⟩ := run_clone_full slotC_len (by omega) (P := Try.prog) (t := 23) (ty := 23) (c := c) Try.underlying23 slotI (by omega) (x0 := (0, false, 0)) rfl ha hn
    have hl := ha.1
    subst hl
    have HP := Lib.hid hrun
    have HF := Lib.hid hF
    have HB := Lib.hid hB
    clear hrun hF hB ha
    go_enter Try.func19, Try.ntmps19
    go_wp2_with (at_builtin; refine wpList_append_run rfl (.tmp 5) (.tmp 6) 23 rfl rfl rfl HP.out ?_)
    go_ret
    exact ⟨A', c', rfl, HF.out, HB.out⟩

set_option maxRecDepth 8000 in
set_option maxHeartbeats 1000000 in
theorem findH_any (A : Option Addr) (n c : Nat) (l : List Slt) (N : Int) (w : World) (hn : n ≤ maxLen) (ha : ArrG slotC 3 w w.heap.size A n l) :
    Calls Try.prog 36 #[.slice A n c, .int .u64 N] w fun e w' => e = .returned (.tuple #[.int .i64 (if findE l N = 0 then (findI l N : Int) else 0), .int .i64 (findE l N)]) ∧ Below w.heap.size w w' := by
  have HC := Lib.hid (handCheck_any A n c l w hn ha)
  by_cases h0 : handE l = 0
  · have hl := ha.1
    have h16 := (handE_ok.1 h0).1
    have hok := (handE_ok.1 h0).2
    rw [h0] at HC
    have HS : Hid (∀ p, p < n → hitN l N p = true → (∀ j, j < p → hitN l N j = false) → (if findE l N = 0 then (findI l N : Int) else 0) = p ∧ findE l N = 0) := fun p hp hf hb => by
      obtain ⟨e1, e2⟩ := find_some h0 (by omega) hf hb
      rw [e1, e2]; exact ⟨if_pos rfl, rfl⟩
    have HNo : Hid ((∀ j, j < n → hitN l N j = false) → (if findE l N = 0 then (findI l N : Int) else 0) = 0 ∧ findE l N = 9) := fun hb => by
      have e1 := find_none h0 (by rw [hl]; exact hb)
      rw [e1]; exact ⟨if_neg (by decide), rfl⟩
    have HA := Lib.hid ha
    have HOK : Hid (∀ i, i < n → slotE (nthG l i) = 0) := by rw [hl] at hok; exact hok
    have hn16 : n ≤ 16 := by omega
    generalize (if findE l N = 0 then (findI l N : Int) else 0) = R at *
    generalize findE l N = E at *
    clear ha hl h16 hok h0 hn
    go_enter Try.func36, Try.ntmps36
    go_wp2_with fail
    refine HC.out.mono ?_
    rintro e w1 ⟨rfl, b1⟩
    have HB0 := Lib.hid b1
    clear b1 HC
    go_wp2_with fail
    go_loopw [16] (fun i wr => ∃ k : Nat, k ≤ n ∧ i = .int .i64 k ∧ Hid (∀ j, j < k → hitN l N j = false) ∧ Hid (Below w.heap.size w wr)) (fun i _ => n - (intOf i).toNat)
    case atStart => exact ⟨0, Nat.zero_le _, rfl, (fun j hj => absurd hj (by omega)), HB0⟩
    case round =>
      obtain ⟨k, hk, rfl, HT, HB⟩ := hrel
      by_cases hlt : k < n
      · obtain ⟨b, off, rfl, hbB, hc0, hc1, hc2⟩ := (HA.out.below HB.out (Nat.le_refl _)).slot hlt
        have HNext : Hid (hitN l N k = false → ∀ j, j < k + 1 → hitN l N j = false) := fun h j hj => by
          rcases Nat.lt_succ_iff_lt_or_eq.1 hj with h2 | h2
          · exact HT.out j h2
          · rw [h2]; exact h
        have HYes : Hid (hitN l N k = true → R = k ∧ E = 0) := fun h => HS.out k hlt h HT.out
        have hsl := slotE_ok.1 (HOK.out k hlt)
        unfold hitN at HNext HYes
        obtain ⟨X, O, Z, hX⟩ : ∃ X O Z, nthG l k = (X, O, Z) := ⟨_, _, _, rfl⟩
        rw [hX] at hc0 hc1 hc2 hsl HYes
        have HNext : Hid ((O && decide (nameN k (X, O, Z) = N)) = false → ∀ j, j < k + 1 → hitN l N j = false) := fun h => HNext.out (by rw [hX]; exact h)
        simp only at hc0 hc1 hc2 hsl
        have bx := Box.new wr 41 #[.int .i64 X, .bool O, .int .i64 Z]
        have y0 : (wr.alloc (.cells #[.int .i64 X, .bool O, .int .i64 Z] 41)).cell? ⟨wr.heap.size, 0, none⟩ = some (.int .i64 X) := bx.cell 0
        have y1 : (wr.alloc (.cells #[.int .i64 X, .bool O, .int .i64 Z] 41)).cell? ⟨wr.heap.size, 1, none⟩ = some (.bool O) := bx.cell 1
        have y2 : (wr.alloc (.cells #[.int .i64 X, .bool O, .int .i64 Z] 41)).cell? ⟨wr.heap.size, 2, none⟩ = some (.int .i64 Z) := bx.cell 2
        have HBw := Lib.hid (HB.out.alloc HB.out.size (.cells #[.int .i64 X, .bool O, .int .i64 Z] 41))
        have HNm := Lib.hid (nameOf_any k X O Z (wr.alloc (.cells #[.int .i64 X, .bool O, .int .i64 Z] 41)) (by omega) hsl.1 hsl.2.1)
        clear bx hX hsl HT
        cases O
        · have HN := Lib.hid (HNext.out rfl)
          clear HNext HYes HNm
          go_wp2
          go_roundw
          case rel => exact ⟨k + 1, by omega, by go_num, HN, HBw⟩
          case measure => simp [intOf]; omega
        · by_cases he : nameN k (X, true, Z) = N
          · obtain ⟨rfl, rfl⟩ := HYes.out (by simp [he])
            rw [he] at HNm
            have cN : (N == N) = true := by simp
            clear HNext HYes he
            go_wp2_with fail
            refine HNm.out.mono ?_
            rintro e w1 ⟨rfl, b1⟩
            have HB1 := Lib.hid (HBw.out.trans (b1.mono HBw.out.size))
            clear b1
            go_wp2
            go_ret2
            exact ⟨rfl, HB1.out⟩
          · have HN := Lib.hid (HNext.out (by simp [he]))
            generalize nameN k (X, true, Z) = M at *
            have cN : (M == N) = false := by simpa using he
            clear HNext HYes he
            go_wp2_with fail
            refine HNm.out.mono ?_
            rintro e w1 ⟨rfl, b1⟩
            have HB1 := Lib.hid (HBw.out.trans (b1.mono HBw.out.size))
            clear b1
            go_wp2
            go_roundw
            case rel => exact ⟨k + 1, by omega, by go_num, HN, HB1⟩
            case measure => simp [intOf]; omega
      · obtain rfl : k = n := by omega
        obtain ⟨rfl, rfl⟩ := HNo.out HT.out
        go_wp2
        go_ret2
        exact ⟨rfl, HB.out⟩
  · have e1 := find_bad (name := N) h0
    have e2 : (if findE l N = 0 then (findI l N : Int) else 0) = 0 := by rw [if_neg (by rw [e1]; exact h0)]
    rw [e2, e1]
    obtain ⟨E, hE⟩ : ∃ E, handE l = E := ⟨_, rfl⟩
    rw [hE] at HC h0 ⊢
    have c1 : (E != 0) = true := by simpa using h0
    clear ha hn h0 hE e1 e2
    go_enter Try.func36, Try.ntmps36
    go_wp2_with fail
    refine HC.out.mono ?_
    rintro e w1 ⟨rfl, b1⟩
    have HB := Lib.hid b1
    clear b1
    go_wp2
    go_ret2
    exact ⟨rfl, HB.out⟩
end Go.Proofs.Ytedndmhekjfpdaa
