/-
  Parts of the proof of SameForms: Head.
-/
import Derived.Test.YtjefbekdjgmmbaaProg
import Derived.Laws.BitsAllLaws
import Derived.Test.YtjefbekdjgmmbaaSameFormsAc
namespace Go.Proofs.Ytjefbekdjgmmbaa
open Go.RowKit
set_option maxHeartbeats 400000 in
theorem within_any (n m : Int) (w : World) : Calls Try.prog 115 #[.int .i64 n, .int .i64 m] w fun e w' => e = .returned (.bool (within n m)) ∧ w = w' := by
  by_cases h0 : 0 ≤ n
  · by_cases h1 : n ≤ m
    · rw [within_true h0 h1]
      go_enter Try.func115, Try.ntmps115
      go_wp2
      go_ret
      exact ⟨rfl, rfl⟩
    · rw [within_high (by omega)]
      go_enter Try.func115, Try.ntmps115
      go_wp2
      go_ret
      exact ⟨rfl, rfl⟩
  · rw [within_low (by omega)]
    go_enter Try.func115, Try.ntmps115
    go_wp2
    go_ret
    exact ⟨rfl, rfl⟩
set_option maxHeartbeats 400000 in
theorem long_any (r b t : Int) (f : Bool) (w : World) (hr0 : 0 ≤ r) (hr : r ≤ 256) (hb0 : 0 ≤ b) (hb : b ≤ 256) :
    Calls Try.prog 96 #[.agg #[.int .i64 r, .int .i64 b, .int .i64 t, .bool f]] w fun e w' => e = .returned (.int .i64 (1 + r + b)) ∧ Below w.heap.size w w' := by
  go_enter Try.func96, Try.ntmps96
  go_wp2
  go_ret
  exact ⟨rfl, (Below.refl _ w).alloc (Nat.le_refl _) _⟩
set_option maxHeartbeats 400000 in
theorem check_any (r b t : Int) (f : Bool) (w : World) :
    Calls Try.prog 95 #[.agg #[.int .i64 r, .int .i64 b, .int .i64 t, .bool f]] w fun e w' => e = .returned (.int .i64 (hFault r b t f)) ∧ Below w.heap.size w w' := by
  cases h0 : within r 256
  · rw [hFault_r h0]
    go_enter Try.func95, Try.ntmps95
    go_wp2_with fail
    refine (within_any r 256 _).mono ?_
    rintro e w' ⟨rfl, rfl⟩
    go_wp2
    go_ret
    exact ⟨rfl, (Below.refl _ w).alloc (Nat.le_refl _) _⟩
  cases h1 : within b 256
  · rw [hFault_b h1]
    go_enter Try.func95, Try.ntmps95
    go_wp2_with fail
    refine (within_any r 256 _).mono ?_
    rintro e w' ⟨rfl, rfl⟩
    go_wp2_with fail
    refine (within_any b 256 _).mono ?_
    rintro e w' ⟨rfl, rfl⟩
    go_wp2
    go_ret
    exact ⟨rfl, (Below.refl _ w).alloc (Nat.le_refl _) _⟩
  cases h2 : within t 65535
  · rw [hFault_t h2]
    go_enter Try.func95, Try.ntmps95
    go_wp2_with fail
    refine (within_any r 256 _).mono ?_
    rintro e w' ⟨rfl, rfl⟩
    go_wp2_with fail
    refine (within_any b 256 _).mono ?_
    rintro e w' ⟨rfl, rfl⟩
    go_wp2_with fail
    refine (within_any t 65535 _).mono ?_
    rintro e w' ⟨rfl, rfl⟩
    go_wp2
    go_ret
    exact ⟨rfl, (Below.refl _ w).alloc (Nat.le_refl _) _⟩
  have hr := within_iff.1 h0
  have hb := within_iff.1 h1
  cases f
  · rw [hFault_in h0 h1 h2 (fun h => by cases h)]
    by_cases hl : 256 < 1 + r + b
    · rw [if_pos hl]
      go_enter Try.func95, Try.ntmps95
      go_wp2_with fail
      refine (within_any r 256 _).mono ?_
      rintro e w' ⟨rfl, rfl⟩
      go_wp2_with fail
      refine (within_any b 256 _).mono ?_
      rintro e w' ⟨rfl, rfl⟩
      go_wp2_with fail
      refine (within_any t 65535 _).mono ?_
      rintro e w' ⟨rfl, rfl⟩
      go_wp2_with fail
      refine (long_any r b t false _ hr.1 hr.2 hb.1 hb.2).mono ?_
      rintro e w' ⟨rfl, hb1⟩
      have HB := Lib.hid (((Below.refl _ w).alloc (Nat.le_refl _) _).trans (hb1.mono (Nat.le_of_lt (by rw [World.alloc]; simp))))
      clear hb1
      go_wp2
      go_ret
      exact ⟨rfl, HB.out⟩
    · rw [if_neg hl]
      go_enter Try.func95, Try.ntmps95
      go_wp2_with fail
      refine (within_any r 256 _).mono ?_
      rintro e w' ⟨rfl, rfl⟩
      go_wp2_with fail
      refine (within_any b 256 _).mono ?_
      rintro e w' ⟨rfl, rfl⟩
      go_wp2_with fail
      refine (within_any t 65535 _).mono ?_
      rintro e w' ⟨rfl, rfl⟩
      go_wp2_with fail
      refine (long_any r b t false _ hr.1 hr.2 hb.1 hb.2).mono ?_
      rintro e w' ⟨rfl, hb1⟩
      have HB := Lib.hid (((Below.refl _ w).alloc (Nat.le_refl _) _).trans (hb1.mono (Nat.le_of_lt (by rw [World.alloc]; simp))))
      clear hb1
      go_wp2
      go_ret
      exact ⟨rfl, HB.out⟩
  · by_cases e0 : r = 0
    · by_cases e1 : t = 0
      · rw [hFault_in h0 h1 h2 (fun _ => ⟨e0, e1⟩)]
        have n0 : (r != 0) = false := by simp [e0]
        have n1 : (t != 0) = false := by simp [e1]
        clear e0 e1
        by_cases hl : 256 < 1 + r + b
        · rw [if_pos hl]
          go_enter Try.func95, Try.ntmps95
          go_wp2_with fail
          refine (within_any r 256 _).mono ?_
          rintro e w' ⟨rfl, rfl⟩
          go_wp2_with fail
          refine (within_any b 256 _).mono ?_
          rintro e w' ⟨rfl, rfl⟩
          go_wp2_with fail
          refine (within_any t 65535 _).mono ?_
          rintro e w' ⟨rfl, rfl⟩
          go_wp2_with fail
          refine (long_any r b t true _ hr.1 hr.2 hb.1 hb.2).mono ?_
          rintro e w' ⟨rfl, hb1⟩
          have HB := Lib.hid (((Below.refl _ w).alloc (Nat.le_refl _) _).trans (hb1.mono (Nat.le_of_lt (by rw [World.alloc]; simp))))
          clear hb1
          go_wp2
          go_ret
          exact ⟨rfl, HB.out⟩
        · rw [if_neg hl]
          go_enter Try.func95, Try.ntmps95
          go_wp2_with fail
          refine (within_any r 256 _).mono ?_
          rintro e w' ⟨rfl, rfl⟩
          go_wp2_with fail
          refine (within_any b 256 _).mono ?_
          rintro e w' ⟨rfl, rfl⟩
          go_wp2_with fail
          refine (within_any t 65535 _).mono ?_
          rintro e w' ⟨rfl, rfl⟩
          go_wp2_with fail
          refine (long_any r b t true _ hr.1 hr.2 hb.1 hb.2).mono ?_
          rintro e w' ⟨rfl, hb1⟩
          have HB := Lib.hid (((Below.refl _ w).alloc (Nat.le_refl _) _).trans (hb1.mono (Nat.le_of_lt (by rw [World.alloc]; simp))))
          clear hb1
          go_wp2
          go_ret
          exact ⟨rfl, HB.out⟩
      · rw [hFault_fr h0 h1 h2 (.inr e1)]
        have n0 : (r != 0) = false := by simp [e0]
        have n1 : (t != 0) = true := by simp [e1]
        clear e0 e1
        go_enter Try.func95, Try.ntmps95
        go_wp2_with fail
        refine (within_any r 256 _).mono ?_
        rintro e w' ⟨rfl, rfl⟩
        go_wp2_with fail
        refine (within_any b 256 _).mono ?_
        rintro e w' ⟨rfl, rfl⟩
        go_wp2_with fail
        refine (within_any t 65535 _).mono ?_
        rintro e w' ⟨rfl, rfl⟩
        go_wp2
        go_ret
        exact ⟨rfl, (Below.refl _ w).alloc (Nat.le_refl _) _⟩
    · rw [hFault_fr h0 h1 h2 (.inl e0)]
      have n0 : (r != 0) = true := by simp [e0]
      clear e0
      go_enter Try.func95, Try.ntmps95
      go_wp2_with fail
      refine (within_any r 256 _).mono ?_
      rintro e w' ⟨rfl, rfl⟩
      go_wp2_with fail
      refine (within_any b 256 _).mono ?_
      rintro e w' ⟨rfl, rfl⟩
      go_wp2_with fail
      refine (within_any t 65535 _).mono ?_
      rintro e w' ⟨rfl, rfl⟩
      go_wp2
      go_ret
      exact ⟨rfl, (Below.refl _ w).alloc (Nat.le_refl _) _⟩
theorem below_boxed (w : World) (o : Obj) {w' : World} (h : Below (w.alloc o).heap.size (w.alloc o) w') : Below w.heap.size w w' :=
  ((Below.refl _ w).alloc (Nat.le_refl _) _).trans (h.mono (Nat.le_of_lt (by rw [World.alloc]; simp)))
/-- A box of four cells, known whole. -/
def Box4 (w : World) (g : Nat) (c0 c1 c2 c3 : Value) : Prop := w.heap[g]? = some (.cells #[c0, c1, c2, c3] 44 (0, 0))
theorem Box4.new (w : World) (c0 c1 c2 c3 : Value) : Box4 (w.alloc (.cells #[c0, c1, c2, c3] 44)) w.heap.size c0 c1 c2 c3 := by
  show (w.heap.push _)[w.heap.size]? = _
  simp
theorem Box4.lt {w : World} {g : Nat} {c0 c1 c2 c3 : Value} (h : Box4 w g c0 c1 c2 c3) : g < w.heap.size := by
  rcases Nat.lt_or_ge g w.heap.size with hlt | hge
  · exact hlt
  · have := h; unfold Box4 at this; rw [Array.getElem?_eq_none hge] at this; cases this
theorem Box4.below {w w' : World} {g B : Nat} {c0 c1 c2 c3 : Value} (h : Box4 w g c0 c1 c2 c3) (hb : Below B w w') (hg : g < B) : Box4 w' g c0 c1 c2 c3 := (hb.block g hg).trans h
theorem Box4.cells {w : World} {g : Nat} {c0 c1 c2 c3 : Value} (h : Box4 w g c0 c1 c2 c3) :
    w.cell? ⟨g, 0, none⟩ = some c0 ∧ w.cell? ⟨g, 1, none⟩ = some c1 ∧ w.cell? ⟨g, 2, none⟩ = some c2 ∧ w.cell? ⟨g, 3, none⟩ = some c3 := by
  unfold Box4 at h
  refine ⟨?_, ?_, ?_, ?_⟩ <;> (rw [cell_of_row w g _ _ 44 (0, 0) h]; rfl)
theorem Box4.soft {w : World} {g : Nat} {c0 c1 c2 c3 : Value} (h : Box4 w g c0 c1 c2 c3) (j : Nat) : w.frozen? ⟨g, j, none⟩ = false := by
  unfold Box4 at h
  simp [World.frozen?, h]
theorem two_boxes {w w' : World} {a0 a1 a2 a3 b0 b1 b2 b3 : Value} (h : Below (((w.alloc (.cells #[a0, a1, a2, a3] 44)).alloc (.cells #[b0, b1, b2, b3] 44))).heap.size ((w.alloc (.cells #[a0, a1, a2, a3] 44)).alloc (.cells #[b0, b1, b2, b3] 44)) w') :
    Box4 w' w.heap.size a0 a1 a2 a3 ∧ Box4 w' (w.heap.size + 1) b0 b1 b2 b3 ∧ Below w.heap.size w w' := by
  have e1 : (w.alloc (.cells #[a0, a1, a2, a3] 44)).heap.size = w.heap.size + 1 := by show (w.heap.push _).size = _; simp
  have n0 := Box4.new w a0 a1 a2 a3
  have n1 := Box4.new (w.alloc (.cells #[a0, a1, a2, a3] 44)) b0 b1 b2 b3
  have k1 := n1.below h n1.lt
  rw [e1] at k1
  have n2 := n0.below ((Below.refl _ _).alloc (Nat.le_refl _) (.cells #[b0, b1, b2, b3] 44)) n0.lt
  exact ⟨n2.below h n2.lt, k1, below_boxed w _ (below_boxed _ _ h)⟩
theorem Box4.set {w : World} {g : Nat} {c0 c1 c2 c3 : Value} (h : Box4 w g c0 c1 c2 c3) (d0 d1 d2 d3 : Value) :
    Box4 ((((w.setCell ⟨g, 0, none⟩ d0).setCell ⟨g, 1, none⟩ d1).setCell ⟨g, 2, none⟩ d2).setCell ⟨g, 3, none⟩ d3) g d0 d1 d2 d3 := by
  unfold Box4 at *
  simp [World.setCell, Array.getElem?_modify, h]
theorem Below.set4 {B : Nat} {a w : World} (h : Below B a w) {g : Nat} (hg : B ≤ g) (d0 d1 d2 d3 : Value) :
    Below B a ((((w.setCell ⟨g, 0, none⟩ d0).setCell ⟨g, 1, none⟩ d1).setCell ⟨g, 2, none⟩ d2).setCell ⟨g, 3, none⟩ d3) :=
  (((h.setCell hg d0).setCell hg d1).setCell hg d2).setCell hg d3
set_option maxHeartbeats 400000 in
theorem lengthBad (r b t : Int) (f : Bool) (w : World) (h : hFault r b t f ≠ 0) :
    Calls Try.prog 63 #[.agg #[.int .i64 r, .int .i64 b, .int .i64 t, .bool f]] w fun e w' => e = .returned (.tuple #[.int .i64 0, .int .i64 (hFault r b t f)]) ∧ Below w.heap.size w w' := by
  have hn : (hFault r b t f != 0) = true := by simp [h]
  have HC := Lib.hid (check_any r b t f)
  generalize hFault r b t f = c at *
  clear h
  go_enter Try.func63, Try.ntmps63
  go_wp2_with fail
  refine (HC.out _).mono ?_
  rintro e w' ⟨rfl, hb⟩
  have HB := Lib.hid (below_boxed w _ hb)
  clear hb
  go_wp2
  go_ret2
  exact ⟨rfl, HB.out⟩
set_option maxHeartbeats 400000 in
theorem lengthOk (r b t : Int) (f : Bool) (w : World) (h : hFault r b t f = 0) :
    Calls Try.prog 63 #[.agg #[.int .i64 r, .int .i64 b, .int .i64 t, .bool f]] w fun e w' => e = .returned (.tuple #[.int .i64 (1 + r + b), .int .i64 0]) ∧ Below w.heap.size w w' := by
  obtain ⟨h1, h2, h3, h4, h5, h6⟩ := hFault_ok h
  have HC := Lib.hid (fun w => h ▸ check_any r b t f w)
  clear h h6
  go_enter Try.func63, Try.ntmps63
  go_wp2_with fail
  refine (HC.out _).mono ?_
  rintro e w' ⟨rfl, hb⟩
  obtain ⟨c0, c1, c2, c3⟩ := ((Box4.new w _ _ _ _).below hb (Box4.new w _ _ _ _).lt).cells
  have HB := Lib.hid (below_boxed w _ hb)
  clear hb
  go_wp2_with fail
  refine (long_any r b t f _ h1 (by omega) h2 (by omega)).mono ?_
  rintro e w2 ⟨rfl, hb⟩
  have HB2 := Lib.hid (HB.out.trans (hb.mono HB.out.size))
  clear hb
  go_wp2
  go_ret2
  exact ⟨rfl, HB2.out⟩
set_option maxHeartbeats 400000 in
theorem wordBad (r b t : Int) (f : Bool) (w : World) (h : hFault r b t f ≠ 0) :
    Calls Try.prog 83 #[.agg #[.int .i64 r, .int .i64 b, .int .i64 t, .bool f]] w fun e w' => e = .returned (.tuple #[.int .u64 0, .int .i64 (hFault r b t f)]) ∧ Below w.heap.size w w' := by
  have hn : (hFault r b t f != 0) = true := by simp [h]
  have HC := Lib.hid (check_any r b t f)
  generalize hFault r b t f = c at *
  clear h
  go_enter Try.func83, Try.ntmps83
  go_wp2_with fail
  refine (HC.out _).mono ?_
  rintro e w' ⟨rfl, hb⟩
  have HB := Lib.hid (below_boxed w _ hb)
  clear hb
  go_wp2
  go_ret2
  exact ⟨rfl, HB.out⟩
theorem or_add (a b k : Nat) (ha : a < 2 ^ k) : a ||| b * 2 ^ k = a + b * 2 ^ k := by
  have := Nat.shiftLeft_add_eq_or_of_lt ha b
  rw [Nat.shiftLeft_eq] at this
  rw [Nat.or_comm, ← this, Nat.add_comm]
theorem or16 (a b : Nat) (ha : a < 65536) (hb : b < 65536) : bits .or .u64 (a : Int) (b * 65536) = ((a + b * 65536 : Nat) : Int) := by
  have e : (b : Int) * 65536 = ((b * 65536 : Nat) : Int) := by omega
  rw [e, u64_or_nat a (b * 65536) (by omega) (by omega)]
  exact congrArg _ (or_add a b 16 ha)
theorem or32 (a b : Nat) (ha : a < 4294967296) (hb : b < 65536) : bits .or .u64 (a : Int) (b * 4294967296) = ((a + b * 4294967296 : Nat) : Int) := by
  have e : (b : Int) * 4294967296 = ((b * 4294967296 : Nat) : Int) := by omega
  rw [e, u64_or_nat a (b * 4294967296) (by omega) (by omega)]
  exact congrArg _ (or_add a b 32 ha)
theorem or48 (a : Nat) (ha : a < 281474976710656) : bits .or .u64 (a : Int) 281474976710656 = ((a + 281474976710656 : Nat) : Int) := by
  have e : (281474976710656 : Int) = ((1 * 281474976710656 : Nat) : Int) := by omega
  rw [e, u64_or_nat a (1 * 281474976710656) (by omega) (by omega)]
  have := or_add a 1 48 ha
  exact congrArg _ this
theorem word_bits (r b t : Nat) (h0 : r ≤ 255) (h1 : b ≤ 255) (h2 : t ≤ 65535) :
    bits .or .u64 (bits .or .u64 (r : Int) (b * 65536)) (t * 4294967296) = hWord r b t false := by
  rw [or16 r b (by omega) (by omega), or32 _ t (by omega) (by omega)]
  unfold hWord
  simp only [Bool.false_eq_true, if_false]
  omega
theorem word_bits_free (r b t : Nat) (h0 : r ≤ 255) (h1 : b ≤ 255) (h2 : t ≤ 65535) :
    bits .or .u64 (bits .or .u64 (bits .or .u64 (r : Int) (b * 65536)) (t * 4294967296)) 281474976710656 = hWord r b t true := by
  rw [or16 r b (by omega) (by omega), or32 _ t (by omega) (by omega), or48 _ (by omega)]
  unfold hWord
  simp only [if_true]
  omega
set_option maxHeartbeats 400000 in
theorem wordOk_false (r b t : Nat) (w : World) (h : hFault r b t false = 0) (h0 : r ≤ 255) (h1 : b ≤ 255) (h2 : t ≤ 65535) :
    Calls Try.prog 83 #[.agg #[.int .i64 r, .int .i64 b, .int .i64 t, .bool false]] w fun e w' => e = .returned (.tuple #[.int .u64 (hWord r b t false), .int .i64 0]) ∧ Below w.heap.size w w' := by
  have HC := Lib.hid (fun w => h ▸ check_any r b t false w)
  have E := Lib.hid (word_bits r b t h0 h1 h2)
  clear h
  go_enter Try.func83, Try.ntmps83
  go_wp2_with fail
  refine (HC.out _).mono ?_
  rintro e w' ⟨rfl, hb⟩
  obtain ⟨c0, c1, c2, c3⟩ := ((Box4.new w _ _ _ _).below hb (Box4.new w _ _ _ _).lt).cells
  have HB := Lib.hid (below_boxed w _ hb)
  clear hb
  go_wp2
  go_ret2
  exact ⟨by rw [← E.out]; rfl, HB.out⟩
set_option maxHeartbeats 400000 in
theorem wordOk_true (r b t : Nat) (w : World) (h : hFault r b t true = 0) (h0 : r ≤ 255) (h1 : b ≤ 255) (h2 : t ≤ 65535) :
    Calls Try.prog 83 #[.agg #[.int .i64 r, .int .i64 b, .int .i64 t, .bool true]] w fun e w' => e = .returned (.tuple #[.int .u64 (hWord r b t true), .int .i64 0]) ∧ Below w.heap.size w w' := by
  have HC := Lib.hid (fun w => h ▸ check_any r b t true w)
  have E := Lib.hid (word_bits_free r b t h0 h1 h2)
  clear h
  go_enter Try.func83, Try.ntmps83
  go_wp2_with fail
  refine (HC.out _).mono ?_
  rintro e w' ⟨rfl, hb⟩
  obtain ⟨c0, c1, c2, c3⟩ := ((Box4.new w _ _ _ _).below hb (Box4.new w _ _ _ _).lt).cells
  have HB := Lib.hid (below_boxed w _ hb)
  clear hb
  go_wp2
  go_ret2
  exact ⟨by rw [← E.out]; rfl, HB.out⟩
/-- What Word and Long return beside the error. -/
def wordOr (r b t : Int) (f : Bool) : Int := if hFault r b t f = 0 then hWord r b t f else 0
theorem word_any (r b t : Int) (f : Bool) (w : World) :
    Calls Try.prog 83 #[.agg #[.int .i64 r, .int .i64 b, .int .i64 t, .bool f]] w fun e w' => e = .returned (.tuple #[.int .u64 (wordOr r b t f), .int .i64 (hFault r b t f)]) ∧ Below w.heap.size w w' := by
  by_cases h : hFault r b t f = 0
  · have e : wordOr r b t f = hWord r b t f := by unfold wordOr; rw [if_pos h]
    rw [e, h]
    obtain ⟨h1, h2, h3, h4, h5, h6⟩ := hFault_ok h
    obtain ⟨r, rfl⟩ := Int.eq_ofNat_of_zero_le h1
    obtain ⟨b, rfl⟩ := Int.eq_ofNat_of_zero_le h2
    obtain ⟨t, rfl⟩ := Int.eq_ofNat_of_zero_le h3
    cases f
    · exact wordOk_false r b t w h (by omega) (by omega) (by omega)
    · exact wordOk_true r b t w h (by omega) (by omega) (by omega)
  · have e : wordOr r b t f = 0 := by unfold wordOr; rw [if_neg h]
    rw [e]
    exact wordBad r b t f w h
/-- What Read returns beside the header. -/
def vErr (v : Int) : Int := if vBad v then 3 else 0
set_option maxHeartbeats 400000 in
theorem read_top (v : Nat) (w : World) (_h0 : v < 18446744073709551616) (h1 : 1 < v / 281474976710656) :
    Calls Try.prog 67 #[.int .u64 v] w fun e w' => e = .returned (.tuple #[.agg #[.int .i64 0, .int .i64 0, .int .i64 0, .bool false], .int .i64 3]) ∧ Below w.heap.size w w' := by
  go_enter Try.func67, Try.ntmps67
  go_wp2
  obtain ⟨x0, x1, x2, x3⟩ := (Box4.new w (.int .i64 0) (.int .i64 0) (.int .i64 0) (.bool false)).cells
  have BX := (Below.refl _ w).alloc (Nat.le_refl _) (.cells #[.int .i64 0, .int .i64 0, .int .i64 0, .bool false] 44)
  generalize (w.alloc (.cells #[.int .i64 0, .int .i64 0, .int .i64 0, .bool false] 44)) = W at *
  refine bodyPost_ret (v := .tuple #[.agg #[.int .i64 0, .int .i64 0, .int .i64 0, .bool false], .int .i64 3]) (by simp [results, Try.results67, go_sem, x0, x1, x2, x3]) rfl ⟨rfl, BX⟩
set_option maxHeartbeats 400000 in
theorem read_bad (v : Nat) (w : World) (_h0 : v < 18446744073709551616) (h1 : v / 281474976710656 ≤ 1) (c : Int) (hc : (c != 0) = true) (HF : Hid (hFault (fR v) (fB v) (fT v) (fF v) = c)) :
    Calls Try.prog 67 #[.int .u64 v] w fun e w' => e = .returned (.tuple #[.agg #[.int .i64 0, .int .i64 0, .int .i64 0, .bool false], .int .i64 3]) ∧ Below w.heap.size w w' := by
  have e1 : wrap64 (IntKind.u16.wrap v) = fR v := by unfold fR wrap64; rw [IntKind.wrap_u16]; omega
  have e2 : wrap64 (IntKind.u16.wrap (v / 65536)) = fB v := by unfold fB wrap64; rw [IntKind.wrap_u16]; omega
  have e3 : wrap64 (IntKind.u16.wrap (v / 4294967296)) = fT v := by unfold fT wrap64; rw [IntKind.wrap_u16]; omega
  have e4 : ((v : Int) / 281474976710656 == 1) = fF v := by unfold fF; rfl
  have HC := Lib.hid (fun w => HF.out ▸ check_any (fR v) (fB v) (fT v) (fF v) w)
  generalize fR v = R at *
  generalize fB v = B at *
  generalize fT v = T at *
  generalize fF v = F at *
  clear HF
  go_enter Try.func67, Try.ntmps67
  go_wp2_with fail
  refine (HC.out _).mono ?_
  rintro e w' ⟨rfl, hb⟩
  obtain ⟨b0, b1, hb⟩ := two_boxes hb
  obtain ⟨c0, c1, c2, c3⟩ := b1.cells
  obtain ⟨d0, d1, d2, d3⟩ := b0.cells
  have s0 := b0.soft 0
  have s1 := b0.soft 1
  have s2 := b0.soft 2
  have s3 := b0.soft 3
  have HB := Lib.hid hb
  have B0 := Lib.hid b0
  clear hb b0 b1
  go_wp2
  have BX := Below.set4 (HB.out) (g := w.heap.size) (Nat.le_refl _) (.int .i64 0) (.int .i64 0) (.int .i64 0) (.bool false)
  obtain ⟨x0, x1, x2, x3⟩ := ((B0.out).set (.int .i64 0) (.int .i64 0) (.int .i64 0) (.bool false)).cells
  generalize (((((w').setCell ⟨w.heap.size, 0, none⟩ (.int .i64 0)).setCell ⟨w.heap.size, 1, none⟩ (.int .i64 0)).setCell ⟨w.heap.size, 2, none⟩ (.int .i64 0)).setCell ⟨w.heap.size, 3, none⟩ (.bool false)) = W at *
  refine bodyPost_ret (v := .tuple #[.agg #[.int .i64 0, .int .i64 0, .int .i64 0, .bool false], .int .i64 3]) (by simp [results, Try.results67, go_sem, x0, x1, x2, x3]) rfl ⟨rfl, BX⟩
set_option maxHeartbeats 400000 in
theorem read_ok (v : Nat) (w : World) (_h0 : v < 18446744073709551616) (h1 : v / 281474976710656 ≤ 1) (c : Int) (hc : (c != 0) = false) (HF : Hid (hFault (fR v) (fB v) (fT v) (fF v) = c)) :
    Calls Try.prog 67 #[.int .u64 v] w fun e w' => e = .returned (.tuple #[.agg #[.int .i64 (fR v), .int .i64 (fB v), .int .i64 (fT v), .bool (fF v)], .int .i64 0]) ∧ Below w.heap.size w w' := by
  have e1 : wrap64 (IntKind.u16.wrap v) = fR v := by unfold fR wrap64; rw [IntKind.wrap_u16]; omega
  have e2 : wrap64 (IntKind.u16.wrap (v / 65536)) = fB v := by unfold fB wrap64; rw [IntKind.wrap_u16]; omega
  have e3 : wrap64 (IntKind.u16.wrap (v / 4294967296)) = fT v := by unfold fT wrap64; rw [IntKind.wrap_u16]; omega
  have e4 : ((v : Int) / 281474976710656 == 1) = fF v := by unfold fF; rfl
  have HC := Lib.hid (fun w => HF.out ▸ check_any (fR v) (fB v) (fT v) (fF v) w)
  generalize fR v = R at *
  generalize fB v = B at *
  generalize fT v = T at *
  generalize fF v = F at *
  clear HF
  go_enter Try.func67, Try.ntmps67
  go_wp2_with fail
  refine (HC.out _).mono ?_
  rintro e w' ⟨rfl, hb⟩
  obtain ⟨b0, b1, hb⟩ := two_boxes hb
  obtain ⟨c0, c1, c2, c3⟩ := b1.cells
  obtain ⟨d0, d1, d2, d3⟩ := b0.cells
  have s0 := b0.soft 0
  have s1 := b0.soft 1
  have s2 := b0.soft 2
  have s3 := b0.soft 3
  have HB := Lib.hid hb
  have B0 := Lib.hid b0
  clear hb b0 b1
  go_wp2
  have BX := Below.set4 (HB.out) (g := w.heap.size) (Nat.le_refl _) (.int .i64 R) (.int .i64 B) (.int .i64 T) (.bool F)
  obtain ⟨x0, x1, x2, x3⟩ := ((B0.out).set (.int .i64 R) (.int .i64 B) (.int .i64 T) (.bool F)).cells
  generalize (((((w').setCell ⟨w.heap.size, 0, none⟩ (.int .i64 R)).setCell ⟨w.heap.size, 1, none⟩ (.int .i64 B)).setCell ⟨w.heap.size, 2, none⟩ (.int .i64 T)).setCell ⟨w.heap.size, 3, none⟩ (.bool F)) = W at *
  refine bodyPost_ret (v := .tuple #[.agg #[.int .i64 R, .int .i64 B, .int .i64 T, .bool F], .int .i64 0]) (by simp [results, Try.results67, go_sem, x0, x1, x2, x3]) rfl ⟨rfl, BX⟩
theorem read_any (v : Nat) (w : World) (h0 : v < 18446744073709551616) :
    Calls Try.prog 67 #[.int .u64 v] w fun e w' => e = .returned (.tuple #[.agg #[.int .i64 (vR v), .int .i64 (vB v), .int .i64 (vT v), .bool (vF v)], .int .i64 (vErr v)]) ∧ Below w.heap.size w w' := by
  cases hv : vBad v
  · have hv' := hv
    unfold vBad at hv'
    simp only [Bool.or_eq_false_iff, decide_eq_false_iff_not, bne_eq_false_iff_eq] at hv'
    have e1 : vR v = fR v := by unfold vR; rw [hv]; rfl
    have e2 : vB v = fB v := by unfold vB; rw [hv]; rfl
    have e3 : vT v = fT v := by unfold vT; rw [hv]; rfl
    have e4 : vF v = fF v := by unfold vF; rw [hv]; rfl
    rw [e1, e2, e3, e4]
    rw [show vErr v = 0 by unfold vErr; rw [hv]; rfl]
    exact read_ok v w h0 (by omega) 0 rfl hv'.2
  · obtain ⟨e1, e2, e3, e4⟩ := header_none hv
    rw [e1, e2, e3, e4]
    rw [show vErr v = 3 by unfold vErr; rw [hv]; rfl]
    by_cases h1 : v / 281474976710656 ≤ 1
    · refine read_bad v w h0 h1 _ ?_ rfl
      unfold vBad at hv
      simp only [Bool.or_eq_true, decide_eq_true_eq] at hv
      rcases hv with hv | hv
      · omega
      · exact hv
    · exact read_top v w h0 (by omega)
end Go.Proofs.Ytjefbekdjgmmbaa
