/-
  Contracts of the reference's HandsFault, HandOf, SameHands; of slices.Equal at api.Hands; of slices.Index, Contains at []uint64; of the law's own 'hands'.
-/
import Derived.Test.YtedndmhekjfpdaaHandE
namespace Go.Proofs.Ytedndmhekjfpdaa
open Go.RowKit

set_option maxRecDepth 8000 in
set_option maxHeartbeats 1000000 in
theorem handsAlive (w : World) : Calls Try.prog 23 #[] w fun e w' => e = .returned (.bool true) ∧ Below w.heap.size w w' := by
  have hB := (Below.refl w.heap.size w).alloc (Nat.le_refl _) (.cells #[.int .i64 0, .bool false, .int .i64 0] 41)
  have bx := Box.new w 41 #[.int .i64 0, .bool false, .int .i64 0]
  have ha : ArrG slotC 3 (w.alloc (.cells #[.int .i64 0, .bool false, .int .i64 0] 41)) (w.alloc (.cells #[.int .i64 0, .bool false, .int .i64 0] 41)).heap.size (some ⟨w.heap.size, 0, none⟩) 1 [(0, false, 0)] := by
    refine ⟨rfl, fun _ => ⟨w.heap.size, 0, rfl, bx.lt, fun j hj i hi => ?_⟩⟩
    obtain rfl : j = 0 := by omega
    rw [Nat.zero_mul, Nat.zero_add, bx.cell i]
    have : i = 0 ∨ i = 1 ∨ i = 2 := by omega
    rcases this with rfl | rfl | rfl <;> rfl
  have HO := Lib.hid (openH_any (some ⟨w.heap.size, 0, none⟩) 1 1 [(0, false, 0)] 3 _ (by unfold maxLen; omega) ha)
  unfold Opened at HO
  rw [show openV [(0, false, 0)] 3 = 65536 by decide, show openE [(0, false, 0)] 3 = 0 by decide, show openR [(0, false, 0)] 3 = [(1, true, 3)] by decide] at HO
  have HB := Lib.hid hB
  clear hB bx ha
  go_enter Try.func23, Try.ntmps23
  go_wp2_with fail
  refine HO.out.mono ?_
  rintro e w1 ⟨A, m, c, rfl, hF, b1⟩
  obtain rfl : m = 1 := hF.1.symm
  have HB1 := Lib.hid (HB.out.trans (b1.mono HB.out.size))
  clear b1 hF
  go_wp2
  go_ret
  exact ⟨rfl, HB1.out⟩

set_option maxRecDepth 8000 in
set_option maxHeartbeats 1000000 in
theorem handsFault_any (A : Option Addr) (n c : Nat) (l : List Slt) (w : World) (hn : n ≤ maxLen) (ha : ArrG slotC 3 w w.heap.size A n l) :
    Calls Try.prog 15 #[.slice A n c] w fun e w' => e = .returned (.int .i64 (handE l)) ∧ Below w.heap.size w w' := by
  unfold maxLen at hn
  have hl := ha.1
  by_cases h16 : 16 < n
  · have HR : Hid (handE l = 2) := by show _ = _; unfold handE; rw [if_pos (by omega)]
    have c1 : ((16 : Int) < (n : Int)) = True := eq_true (by omega)
    clear ha hl
    go_enter Try.func15, Try.ntmps15
    go_wp2
    go_ret
    exact ⟨by rw [HR.out]; rfl, Below.refl _ _⟩
  · have c1 : ((16 : Int) < (n : Int)) = False := eq_false (by omega)
    have HA := Lib.hid ha
    have HL := Lib.hid hl
    clear ha hl
    go_enter Try.func15, Try.ntmps15
    go_wp2_with fail
    go_loopw [10] (fun i wr => ∃ k : Nat, k ≤ n ∧ i = .int .i64 k ∧ Hid (handTo l k = 0) ∧ Hid (Below w.heap.size w wr)) (fun i _ => n - (intOf i).toNat)
    case atStart => exact ⟨0, Nat.zero_le _, rfl, rfl, Below.refl _ _⟩
    case round =>
      obtain ⟨k, hk, rfl, HT, HB⟩ := hrel
      by_cases hlt : k < n
      · obtain ⟨b, off, rfl, hbB, hc0, hc1, hc2⟩ := (HA.out.below HB.out (Nat.le_refl _)).slot hlt
        have HBAD : Hid (slotE (nthG l k) ≠ 0 → handE l = slotE (nthG l k)) := fun h => handE_at (by rw [HL.out]; omega) (by rw [HL.out]; exact hlt) HT.out h
        have HGOOD : Hid (slotE (nthG l k) = 0 → handTo l (k + 1) = 0) := fun h => by rw [handTo_next HT.out]; exact h
        obtain ⟨X, O, Z, hX⟩ : ∃ X O Z, nthG l k = (X, O, Z) := ⟨_, _, _, rfl⟩
        rw [hX] at hc0 hc1 hc2 HBAD HGOOD
        simp only at hc0 hc1 hc2
        have bx := Box.new wr 41 #[.int .i64 X, .bool O, .int .i64 Z]
        have y0 : (wr.alloc (.cells #[.int .i64 X, .bool O, .int .i64 Z] 41)).cell? ⟨wr.heap.size, 0, none⟩ = some (.int .i64 X) := bx.cell 0
        have y1 : (wr.alloc (.cells #[.int .i64 X, .bool O, .int .i64 Z] 41)).cell? ⟨wr.heap.size, 1, none⟩ = some (.bool O) := bx.cell 1
        have y2 : (wr.alloc (.cells #[.int .i64 X, .bool O, .int .i64 Z] 41)).cell? ⟨wr.heap.size, 2, none⟩ = some (.int .i64 Z) := bx.cell 2
        have HBw := Lib.hid (HB.out.alloc HB.out.size (.cells #[.int .i64 X, .bool O, .int .i64 Z] 41))
        clear bx hX HT
        by_cases h1 : X < 0
        · have HR : Hid (handE l = 4) := by
            have e := slotE_range (x := (X, O, Z)) (.inl h1)
            show _ = _; rw [← e]; exact HBAD.out (by rw [e]; decide)
          have e1 : (X < 0) = True := eq_true h1
          clear HBAD HGOOD h1
          go_wp2
          go_ret
          exact ⟨by rw [HR.out]; rfl, HBw.out⟩
        · have e1 : (X < 0) = False := eq_false h1
          by_cases h2 : 65535 < X
          · have HR : Hid (handE l = 4) := by
              have e := slotE_range (x := (X, O, Z)) (.inr (.inl h2))
              show _ = _; rw [← e]; exact HBAD.out (by rw [e]; decide)
            have e2 : (65535 < X) = True := eq_true h2
            clear HBAD HGOOD h1 h2
            go_wp2
            go_ret
            exact ⟨by rw [HR.out]; rfl, HBw.out⟩
          · have e2 : (65535 < X) = False := eq_false h2
            by_cases h3 : Z < 0
            · have HR : Hid (handE l = 4) := by
                have e := slotE_range (x := (X, O, Z)) (.inr (.inr (.inl h3)))
                show _ = _; rw [← e]; exact HBAD.out (by rw [e]; decide)
              have e3 : (Z < 0) = True := eq_true h3
              clear HBAD HGOOD h1 h2 h3
              go_wp2
              go_ret
              exact ⟨by rw [HR.out]; rfl, HBw.out⟩
            · have e3 : (Z < 0) = False := eq_false h3
              by_cases h4 : 255 < Z
              · have HR : Hid (handE l = 4) := by
                  have e := slotE_range (x := (X, O, Z)) (.inr (.inr (.inr h4)))
                  show _ = _; rw [← e]; exact HBAD.out (by rw [e]; decide)
                have e4 : (255 < Z) = True := eq_true h4
                clear HBAD HGOOD h1 h2 h3 h4
                go_wp2
                go_ret
                exact ⟨by rw [HR.out]; rfl, HBw.out⟩
              · have e4 : (255 < Z) = False := eq_false h4
                have hr : ¬ ((X, O, Z).1 < 0 ∨ 65535 < (X, O, Z).1 ∨ (X, O, Z).2.2 < 0 ∨ 255 < (X, O, Z).2.2) := by simp only; omega
                cases O
                · by_cases h5 : Z = 0
                  · have HN := Lib.hid (HGOOD.out (slotE_ok.2 ⟨by simp only; omega, by simp only; omega, by simp only; omega, by simp only; omega, (fun hc => by cases hc), fun _ => h5⟩))
                    have e5 : (Z != 0) = false := by simp [h5]
                    clear HBAD HGOOD h1 h2 h3 h4 h5 hr
                    go_wp2
                    go_roundw
                    case rel => exact ⟨k + 1, by omega, by go_num, HN, HBw⟩
                    case measure => simp [intOf]; omega
                  · have HR : Hid (handE l = 3) := by
                      have e := slotE_form hr (.inr ⟨rfl, h5⟩)
                      show _ = _; rw [← e]; exact HBAD.out (by rw [e]; decide)
                    have e5 : (Z != 0) = true := by simpa using h5
                    clear HBAD HGOOD h1 h2 h3 h4 h5 hr
                    go_wp2
                    go_ret
                    exact ⟨by rw [HR.out]; rfl, HBw.out⟩
                · by_cases h5 : X = 0
                  · have HR : Hid (handE l = 3) := by
                      have e := slotE_form hr (.inl ⟨rfl, h5⟩)
                      show _ = _; rw [← e]; exact HBAD.out (by rw [e]; decide)
                    have e5 : (X == 0) = true := by simp [h5]
                    clear HBAD HGOOD h1 h2 h3 h4 h5 hr
                    go_wp2
                    go_ret
                    exact ⟨by rw [HR.out]; rfl, HBw.out⟩
                  · have HN := Lib.hid (HGOOD.out (slotE_ok.2 ⟨by simp only; omega, by simp only; omega, by simp only; omega, by simp only; omega, (fun _ => h5), fun hc => by cases hc⟩))
                    have e5 : (X == 0) = false := by simpa using h5
                    clear HBAD HGOOD h1 h2 h3 h4 h5 hr
                    go_wp2
                    go_roundw
                    case rel => exact ⟨k + 1, by omega, by go_num, HN, HBw⟩
                    case measure => simp [intOf]; omega
      · obtain rfl : k = n := by omega
        have HR : Hid (handE l = 0) := by
          show _ = _
          unfold handE
          rw [if_neg (by rw [HL.out]; omega), HL.out]
          exact HT.out
        go_wp2
        go_ret
        exact ⟨by rw [HR.out]; rfl, HB.out⟩

/-- What HandOf answers: the slot with the name, or -1. -/
def ofI (l : List Slt) (N : Int) : Int := if findE l N = 0 then (findI l N : Int) else -1
set_option maxRecDepth 8000 in
set_option maxHeartbeats 1000000 in
theorem handOf_any (A : Option Addr) (n c : Nat) (l : List Slt) (N : Int) (w : World) (h0 : handE l = 0) (ha : ArrG slotC 3 w w.heap.size A n l) :
    Calls Try.prog 20 #[.slice A n c, .int .u64 N] w fun e w' => e = .returned (.int .i64 (ofI l N)) ∧ Below w.heap.size w w' := by
  have hl := ha.1
  have h16 := (handE_ok.1 h0).1
  have hok := (handE_ok.1 h0).2
  have HS : Hid (∀ p, p < n → hitN l N p = true → (∀ j, j < p → hitN l N j = false) → ofI l N = p) := fun p hp hf hb => by
    obtain ⟨e1, e2⟩ := find_some h0 (by omega) hf hb
    unfold ofI
    rw [if_pos e1, e2]
  have HNo : Hid ((∀ j, j < n → hitN l N j = false) → ofI l N = -1) := fun hb => by
    have e1 := find_none h0 (by rw [hl]; exact hb)
    unfold ofI
    rw [if_neg (by rw [e1]; decide)]
  have HA := Lib.hid ha
  have HOK : Hid (∀ i, i < n → slotE (nthG l i) = 0) := by rw [hl] at hok; exact hok
  have hn16 : n ≤ 16 := by omega
  generalize ofI l N = R at *
  clear ha hl h16 hok h0
  go_enter Try.func20, Try.ntmps20
  go_wp2_with fail
  go_loopw [9] (fun i wr => ∃ k : Nat, k ≤ n ∧ i = .int .i64 k ∧ Hid (∀ j, j < k → hitN l N j = false) ∧ Hid (Below w.heap.size w wr)) (fun i _ => n - (intOf i).toNat)
  case atStart => exact ⟨0, Nat.zero_le _, rfl, (fun j hj => absurd hj (by omega)), Below.refl _ _⟩
  case round =>
    obtain ⟨k, hk, rfl, HT, HB⟩ := hrel
    by_cases hlt : k < n
    · obtain ⟨b, off, rfl, hbB, hc0, hc1, hc2⟩ := (HA.out.below HB.out (Nat.le_refl _)).slot hlt
      have HNext : Hid (hitN l N k = false → ∀ j, j < k + 1 → hitN l N j = false) := fun h j hj => by
        rcases Nat.lt_succ_iff_lt_or_eq.1 hj with h2 | h2
        · exact HT.out j h2
        · rw [h2]; exact h
      have HYes : Hid (hitN l N k = true → R = k) := fun h => HS.out k hlt h HT.out
      have hsl := slotE_ok.1 (HOK.out k hlt)
      unfold hitN at HNext HYes
      obtain ⟨X, O, Z, hX⟩ : ∃ X O Z, nthG l k = (X, O, Z) := ⟨_, _, _, rfl⟩
      rw [hX] at hc0 hc1 hc2 hsl HYes
      have HNext : Hid ((O && decide (nameN k (X, O, Z) = N)) = false → ∀ j, j < k + 1 → hitN l N j = false) := fun h => HNext.out (by rw [hX]; exact h)
      simp only at hc0 hc1 hc2 hsl
      have bx := Box.new wr 41 #[.int .i64 X, .bool O, .int .i64 Z]
      have y0 : (wr.alloc (.cells #[.int .i64 X, .bool O, .int .i64 Z] 41)).cell? ⟨wr.heap.size, 0, none⟩ = some (.int .i64 X) := bx.cell 0
      have y1 : (wr.alloc (.cells #[.int .i64 X, .bool O, .int .i64 Z] 41)).cell? ⟨wr.heap.size, 1, none⟩ = some (.bool O) := bx.cell 1
      have y2 : (wr.alloc (.cells #[.int .i64 X, .bool O, .int .i64 Z] 41)).cell? ⟨wr.heap.size, 2, none⟩ = some (.int .i64 Z) := bx.cell 2
      have HBw := Lib.hid (HB.out.alloc HB.out.size (.cells #[.int .i64 X, .bool O, .int .i64 Z] 41))
      have HNm := Lib.hid (handName_any k X O Z (wr.alloc (.cells #[.int .i64 X, .bool O, .int .i64 Z] 41)) (by omega) hsl.1 hsl.2.1)
      clear bx hX hsl HT
      cases O
      · have HN := Lib.hid (HNext.out rfl)
        clear HNext HYes HNm
        go_wp2
        go_roundw
        case rel => exact ⟨k + 1, by omega, by go_num, HN, HBw⟩
        case measure => simp [intOf]; omega
      · by_cases he : nameN k (X, true, Z) = N
        · obtain rfl := HYes.out (by simp [he])
          rw [he] at HNm
          have cN : (N == N) = true := by simp
          clear HNext HYes he
          go_wp2_with fail
          refine HNm.out.mono ?_
          rintro e w1 ⟨rfl, b1⟩
          have HB1 := Lib.hid (HBw.out.trans (b1.mono HBw.out.size))
          clear b1
          go_wp2
          go_ret
          exact ⟨rfl, HB1.out⟩
        · have HN := Lib.hid (HNext.out (by simp [he]))
          generalize nameN k (X, true, Z) = M at *
          have cN : (M == N) = false := by simpa using he
          clear HNext HYes he
          go_wp2_with fail
          refine HNm.out.mono ?_
          rintro e w1 ⟨rfl, b1⟩
          have HB1 := Lib.hid (HBw.out.trans (b1.mono HBw.out.size))
          clear b1
          go_wp2
          go_roundw
          case rel => exact ⟨k + 1, by omega, by go_num, HN, HB1⟩
          case measure => simp [intOf]; omega
    · obtain rfl : k = n := by omega
      obtain rfl := HNo.out HT.out
      go_wp2
      go_ret
      exact ⟨rfl, HB.out⟩

set_option maxHeartbeats 400000 in
theorem sameHands_same (A A' : Option Addr) (n c c' B : Nat) (xs : List Slt) (w : World) (hx : ArrG slotC 3 w B A n xs) (hy : ArrG slotC 3 w B A' n xs) (hn : n ≤ maxLen) :
    Calls Try.prog 14 #[.slice A n c, .slice A' n c'] w fun e w' => e = .returned (.bool true) ∧ ∃ q, w.drewN q = w' := by
  unfold maxLen at hn
  have ht : ((n : Int) != (n : Int)) = false := by simp
  go_enter Try.func14, Try.ntmps14
  go_wp2
  go_loopw [13] (fun i wr => ∃ k : Nat, k ≤ n ∧ i = .int .i64 k ∧ ∃ q, w.drewN q = wr) (fun i _ => n - (intOf i).toNat)
  case atStart => exact ⟨0, Nat.zero_le _, rfl, 0, rfl⟩
  case round =>
    obtain ⟨k, hk, rfl, q, rfl⟩ := hrel
    by_cases hlt : k < n
    · obtain ⟨b, off, rfl, _, hc0, hc1, hc2⟩ := hx.slot hlt
      obtain ⟨b', off', rfl, _, hd0, hd1, hd2⟩ := hy.slot hlt
      have hlt' : (k : Int) < (n : Int) := by omega
      clear hx hy
      generalize (nthG xs k).1 = X at *
      generalize (nthG xs k).2.1 = Y at *
      generalize (nthG xs k).2.2 = Z at *
      go_wp2
      go_quiet (fail)
      go_wp2
      go_roundw
      case rel => exact ⟨k + 1, by omega, by go_num, _, rfl⟩
      case measure => simp [intOf]; omega
    · obtain rfl : k = n := by omega
      clear hx hy
      go_wp2
      go_ret
      exact ⟨rfl, _, rfl⟩
set_option maxHeartbeats 400000 in
theorem equalHands_same (A A' : Option Addr) (n c c' B : Nat) (xs : List Slt) (w : World) (hx : ArrG slotC 3 w B A n xs) (hy : ArrG slotC 3 w B A' n xs) (hn : n ≤ maxLen) :
    Calls Try.prog 29 #[.slice A n c, .slice A' n c'] w fun e w' => e = .returned (.bool true) ∧ ∃ q, w.drewN q = w' := by
  unfold maxLen at hn
  have ht : ((n : Int) != (n : Int)) = false := by simp
  go_enter Try.func29, Try.ntmps29
  go_wp2
  go_loopw [13] (fun i wr => ∃ k : Nat, k ≤ n ∧ i = .int .i64 k ∧ ∃ q, w.drewN q = wr) (fun i _ => n - (intOf i).toNat)
  case atStart => exact ⟨0, Nat.zero_le _, rfl, 0, rfl⟩
  case round =>
    obtain ⟨k, hk, rfl, q, rfl⟩ := hrel
    by_cases hlt : k < n
    · obtain ⟨b, off, rfl, _, hc0, hc1, hc2⟩ := hx.slot hlt
      obtain ⟨b', off', rfl, _, hd0, hd1, hd2⟩ := hy.slot hlt
      have hlt' : (k : Int) < (n : Int) := by omega
      clear hx hy
      generalize (nthG xs k).1 = X at *
      generalize (nthG xs k).2.1 = Y at *
      generalize (nthG xs k).2.2 = Z at *
      go_wp2
      go_quiet (fail)
      go_wp2
      go_roundw
      case rel => exact ⟨k + 1, by omega, by go_num, _, rfl⟩
      case measure => simp [intOf]; omega
    · obtain rfl : k = n := by omega
      clear hx hy
      go_wp2
      go_ret
      exact ⟨rfl, _, rfl⟩

/-- The place of 'x' in a list. -/
def PlaceU (xs : List Int) (x r : Int) : Prop := (∃ k : Nat, r = k ∧ k < xs.length ∧ nth xs k = x) ∨ (r = -1 ∧ ∀ j, j < xs.length → nth xs j ≠ x)
theorem placeU_mem {xs : List Int} {x r : Int} (h : PlaceU xs x r) : decide (0 ≤ r) = decide (x ∈ xs) := by
  rcases h with ⟨k, rfl, hk, he⟩ | ⟨rfl, hno⟩
  · have : x ∈ xs := by rw [← he, nth_get _ _ hk]; exact List.getElem_mem _
    simp [this]
  · have : ¬ x ∈ xs := fun h => by
      obtain ⟨i, hi, rfl⟩ := List.getElem_of_mem h
      exact hno i hi (nth_get _ _ hi)
    simp [this]
set_option maxHeartbeats 400000 in
theorem indexU_any (A : Option Addr) (n c B : Nat) (x : Int) (xs : List Int) (w : World) (hn : n ≤ maxLen) (ha : Arr .u64 w B A n xs) :
    Calls Try.prog 40 #[.slice A n c, .int .u64 x] w fun e w' => (∃ r, e = .returned (.int .i64 r) ∧ PlaceU xs x r) ∧ w = w' := by
  unfold maxLen at hn
  have hl := ha.1
  have HA := Lib.hid ha
  clear ha
  go_enter Try.func40, Try.ntmps40
  go_wp2
  go_loopw [8] (fun i wr => ∃ k : Nat, k ≤ n ∧ i = .int .i64 k ∧ Hid (∀ j, j < k → nth xs j ≠ x) ∧ w = wr) (fun i _ => n - (intOf i).toNat)
  case atStart => exact ⟨0, Nat.zero_le _, rfl, (fun j hj => absurd hj (by omega)), rfl⟩
  case round =>
    obtain ⟨k, hk, rfl, HE, rfl⟩ := hrel
    by_cases hlt : k < n
    · obtain ⟨b, off, rfl, _, hcs⟩ := HA.out.2.2 (by omega)
      have hc := hcs k hlt
      clear hcs
      by_cases he : nth xs k = x
      · have HQ := Lib.hid he
        rw [he] at hc
        have hb : (x == x) = true := by simp
        clear he
        go_wp2
        go_ret
        exact ⟨⟨_, rfl, .inl ⟨k, rfl, by omega, HQ.out⟩⟩, rfl⟩
      · have HQ := Lib.hid he
        have HEn : Hid (∀ j, j < k + 1 → nth xs j ≠ x) := fun j hj => by
          rcases Nat.lt_succ_iff_lt_or_eq.1 hj with h | h
          · exact HE.out j h
          · rw [h]; exact HQ.out
        clear HQ
        generalize nth xs k = X at *
        have hb : (x == X) = false := by
          rw [beq_eq_false_iff_ne]
          omega
        clear he
        go_wp2
        go_roundw
        case rel => exact ⟨k + 1, by omega, by go_num, HEn, by trivial⟩
        case measure => simp [intOf]; omega
    · obtain rfl : k = n := by omega
      go_wp2
      go_ret
      exact ⟨⟨_, rfl, .inr ⟨rfl, by rw [hl]; exact HE.out⟩⟩, rfl⟩
set_option maxHeartbeats 400000 in
theorem containsU_any (A : Option Addr) (n c B : Nat) (x : Int) (xs : List Int) (w : World) (hn : n ≤ maxLen) (ha : Arr .u64 w B A n xs) :
    Calls Try.prog 24 #[.slice A n c, .int .u64 x] w fun e w' => e = .returned (.bool (decide (x ∈ xs))) ∧ w = w' := by
  have HP := Lib.hid (indexU_any A n c B x xs w hn ha)
  clear ha
  go_enter Try.func24, Try.ntmps24
  go_wp2_with fail
  refine HP.out.mono ?_
  rintro e w' ⟨⟨r, rfl, hr⟩, rfl⟩
  have HR := Lib.hid (placeU_mem hr)
  clear hr HP
  go_wp2
  go_ret
  exact ⟨by rw [← HR.out]; rfl, rfl⟩
end Go.Proofs.Ytedndmhekjfpdaa
