/-
  Contracts of the reference's SameHalves and Open.
-/
import Derived.Test.YtdieokpfkojoiaaRefTwinM
namespace Go.Proofs.Ytdieokpfkojoiaa
open Go.RowKit

set_option maxRecDepth 8000 in
set_option maxHeartbeats 1000000 in
theorem sameHalves_same (o : Int) (A A' : Option Addr) (n c c' : Nat) (xs : List Room) (w : World) (hx : ArrG roomC 3 w w.heap.size A n xs) (hy : ArrG roomC 3 w w.heap.size A' n xs) (hn : n ≤ maxLen) :
    Calls Try.prog 12 #[.agg #[.int .i64 o, .slice A n c], .agg #[.int .i64 o, .slice A' n c']] w fun e w' => e = .returned (.bool true) ∧ Below w.heap.size w w' := by
  unfold maxLen at hn
  have hsz : (w.alloc (.cells #[.int .i64 o, .slice A n c] 24)).heap.size = w.heap.size + 1 := by simp
  have b0 := ((Below.refl _ w).alloc (Nat.le_refl _) (.cells #[.int .i64 o, .slice A n c] 24)).alloc (by omega) (.cells #[.int .i64 o, .slice A' n c'] 24)
  have x1 := (Box.new w 24 #[.int .i64 o, .slice A n c]).alloc (.cells #[.int .i64 o, .slice A' n c'] 24)
  have x2 := Box.new (w.alloc (.cells #[.int .i64 o, .slice A n c] 24)) 24 #[.int .i64 o, .slice A' n c']
  rw [hsz] at x2
  have ht : ((n : Int) != (n : Int)) = false := by simp
  have hto : (o != o) = false := by simp
  have c1 : ((w.alloc (.cells #[.int .i64 o, .slice A n c] 24)).alloc (.cells #[.int .i64 o, .slice A' n c'] 24)).cell? ⟨w.heap.size, 1, none⟩ = some (.slice A n c) := x1.cell 1
  have d1 : ((w.alloc (.cells #[.int .i64 o, .slice A n c] 24)).alloc (.cells #[.int .i64 o, .slice A' n c'] 24)).cell? ⟨w.heap.size + 1, 1, none⟩ = some (.slice A' n c') := x2.cell 1
  have HX := Lib.hid (hx.below b0 (Nat.le_refl _))
  have HY := Lib.hid (hy.below b0 (Nat.le_refl _))
  have HB := Lib.hid b0
  clear b0 x1 x2 hx hy hsz
  go_enter Try.func12, Try.ntmps12
  go_wp2_with fail
  generalize ((w.alloc (.cells #[.int .i64 o, .slice A n c] 24)).alloc (.cells #[.int .i64 o, .slice A' n c'] 24)) = W at *
  go_loopw [23] (fun i wr => ∃ k : Nat, k ≤ n ∧ i = .int .i64 k ∧ ∃ q, W.drewN q = wr) (fun i _ => n - (intOf i).toNat)
  case atStart => exact ⟨0, Nat.zero_le _, rfl, 0, rfl⟩
  case round =>
    obtain ⟨k, hk, rfl, q, rfl⟩ := hrel
    by_cases hlt : k < n
    · obtain ⟨b, off, rfl, _, hc0, hc1, hc2⟩ := HX.out.room hlt
      obtain ⟨b', off', rfl, _, hd0, hd1, hd2⟩ := HY.out.room hlt
      have hlt' : (k : Int) < (n : Int) := by omega
      clear HX HY
      generalize (nthG xs k).1 = X at *
      generalize (nthG xs k).2.1 = Y at *
      generalize (nthG xs k).2.2 = Z at *
      go_wp2
      go_quiet (fail)
      go_wp2
      go_roundw
      case rel => exact ⟨k + 1, by omega, by go_num, _, rfl⟩
      case measure => simp [intOf]; omega
    · obtain rfl : k = n := by omega
      clear HX HY
      go_wp2
      go_ret
      exact ⟨rfl, below_drewN HB.out q⟩

set_option maxRecDepth 8000 in
set_option maxHeartbeats 1000000 in
theorem open_any (o : Int) (A : Option Addr) (n c : Nat) (l : List Room) (a L : Nat) (w : World) (hn : n ≤ maxLen) (hx : ArrG roomC 3 w w.heap.size A n l) (hs : Small l) (hp : ∀ j, j < l.length → 1 ≤ (nthG l j).2.1) (ha : a ≤ 1000) (hL : L ≤ 1000) (hL1 : 1 ≤ L) :
    Calls Try.prog 43 #[.agg #[.int .i64 o, .slice A n c], .int .i64 a, .int .i64 L] w fun e w' => e = .returned (.bool (!hit l a L)) ∧ Below w.heap.size w w' := by
  unfold maxLen at hn
  have b0 := (Below.refl _ w).alloc (Nat.le_refl _) (.cells #[.int .i64 o, .slice A n c] 24)
  have HX := Lib.hid (hx.below b0 (Nat.le_refl _))
  have HB := Lib.hid b0
  have HL := Lib.hid hx.1
  have HS := Lib.hid hs
  have HP := Lib.hid hp
  have HT : Hid (∀ j, j < l.length → meets (nthG l j) a L = true → (!hit l a L) = false) := fun j hj h => by rw [hit_at hj h]; rfl
  have HN : Hid ((∀ j, j < l.length → meets (nthG l j) a L = false) → (!hit l a L) = true) := fun h => by rw [hit_never h]; rfl
  clear b0 hx hs hp
  generalize (!hit l a L) = R at *
  go_enter Try.func43, Try.ntmps43
  go_wp2_with fail
  generalize (w.alloc (.cells #[.int .i64 o, .slice A n c] 24)) = W at *
  go_loopw [13] (fun i wr => ∃ j : Nat, j ≤ n ∧ i = .int .i64 j ∧ Hid (∀ t, t < j → meets (nthG l t) a L = false) ∧ Hid (Below w.heap.size w wr) ∧ Hid (ArrG roomC 3 wr w.heap.size A n l)) (fun i _ => n - (intOf i).toNat)
  case atStart => exact ⟨0, Nat.zero_le _, rfl, (fun t ht => absurd ht (by omega)), HB, HX⟩
  case round =>
    obtain ⟨j, hj, rfl, HM, HBr, HXr⟩ := hrel
    clear HB HX
    by_cases hlt : j < n
    · have hjl : j < l.length := by rw [HL.out]; exact hlt
      obtain ⟨b, off, rfl, hbB, hc0, hc1, hc2⟩ := HXr.out.room hlt
      obtain ⟨x, y, e1, e2, h1, h2⟩ := HS.out j hjl
      have hy1 := HP.out j hjl
      rw [e2] at hy1
      have HTj := Lib.hid (HT.out j hjl)
      obtain ⟨z, hz⟩ : ∃ z, (nthG l j).2.2 = z := ⟨_, rfl⟩
      have hEq : nthG l j = ((x : Int), (y : Int), z) := Prod.ext e1 (Prod.ext e2 hz)
      rw [hEq] at HTj
      have HEq := Lib.hid hEq
      rw [e1] at hc0
      rw [e2] at hc1
      rw [hz] at hc2
      have hy1' : 1 ≤ y := by omega
      have HBn := Lib.hid (HBr.out.alloc HBr.out.size (.cells #[.int .i64 x, .int .i64 y, .int .i64 z] 42))
      have HXn := Lib.hid (HXr.out.below ((Below.refl _ wr).alloc (Nat.le_refl _) (.cells #[.int .i64 x, .int .i64 y, .int .i64 z] 42)) HBr.out.size)
      have bx := Box.new wr 42 #[.int .i64 x, .int .i64 y, .int .i64 z]
      have y0 : (wr.alloc (.cells #[.int .i64 x, .int .i64 y, .int .i64 z] 42)).cell? ⟨wr.heap.size, 0, none⟩ = some (.int .i64 x) := bx.cell 0
      have y1 : (wr.alloc (.cells #[.int .i64 x, .int .i64 y, .int .i64 z] 42)).cell? ⟨wr.heap.size, 1, none⟩ = some (.int .i64 y) := bx.cell 1
      clear bx hEq hz e1 e2 hy1 HT HN HS HP hbB
      go_wp2_with fail
      generalize wr.heap.size = g at *
      generalize (wr.alloc (.cells #[.int .i64 x, .int .i64 y, .int .i64 z] 42)) = V at *
      clear hc0 hc1 hc2 HBr HXr
      go_loopw [19] (fun i wr => V = wr ∧ ∃ u : Nat, u ≤ y ∧ i = .int .i64 u ∧ Hid (∀ t, t < u → ¬ (a ≤ x + t ∧ x + t < a + L))) (fun i _ => y - (intOf i).toNat)
      case atStart => exact ⟨rfl, 0, Nat.zero_le _, rfl, (fun t ht => absurd ht (by omega))⟩
      case round =>
        obtain ⟨rfl, u, hu, rfl, HU⟩ := hrel
        by_cases hlu : u < y
        · by_cases hin : a ≤ x + u ∧ x + u < a + L
          · obtain ⟨hi1, hi2⟩ := hin
            have HRf := Lib.hid (HTj.out (meets_word z hlu ⟨hi1, hi2⟩))
            have q1 : (a : Int) ≤ (x : Int) + (u : Int) := by omega
            have q2 : (x : Int) + (u : Int) < (a : Int) + (L : Int) := by omega
            clear HTj HU HM HEq
            go_wp2
            go_ret
            exact ⟨by rw [HRf.out]; rfl, HBn.out⟩
          · have HU2 : Hid (∀ t, t < u + 1 → ¬ (a ≤ x + t ∧ x + t < a + L)) := fun t ht => by
              rcases Nat.lt_succ_iff_lt_or_eq.1 ht with h | h
              · exact HU.out t h
              · rw [h]; exact hin
            rcases Nat.lt_or_ge (x + u) a with hq | hq
            · have q1 : ¬ (a : Int) ≤ (x : Int) + (u : Int) := by omega
              clear HTj HU HM HEq hin
              go_wp2
              go_roundw
              case rel => exact ⟨by trivial, u + 1, by omega, by go_num, HU2⟩
              case measure => simp [intOf]; omega
            · have q1 : (a : Int) ≤ (x : Int) + (u : Int) := by omega
              have q2 : ¬ (x : Int) + (u : Int) < (a : Int) + (L : Int) := by omega
              clear HTj HU HM HEq hin
              go_wp2
              go_roundw
              case rel => exact ⟨by trivial, u + 1, by omega, by go_num, HU2⟩
              case measure => simp [intOf]; omega
        · obtain rfl : u = y := by omega
          have HM2 : Hid (∀ t, t < j + 1 → meets (nthG l t) a L = false) := fun t ht => by
            rcases Nat.lt_succ_iff_lt_or_eq.1 ht with h | h
            · exact HM.out t h
            · rw [h, HEq.out]; exact meets_words z hy1' hL1 HU.out
          clear HTj HU HM HEq
          go_wp2
          go_roundw
          case rel => exact ⟨j + 1, by omega, by go_num, HM2, HBn, HXn⟩
          case measure => simp [intOf]; omega
    · obtain rfl : j = n := by omega
      have HRt := Lib.hid (HN.out (by rw [HL.out]; exact HM.out))
      clear HT HN HS HP HXr HM
      go_wp2
      go_ret
      exact ⟨by rw [HRt.out]; rfl, HBr.out⟩
end Go.Proofs.Ytdieokpfkojoiaa
