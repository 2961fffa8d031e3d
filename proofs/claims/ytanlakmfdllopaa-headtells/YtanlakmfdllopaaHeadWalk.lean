/-
  The statements on headers, walked: HeadTells, HeadBack.
-/
import Derived.Test.YtanlakmfdllopaaHead2
import Derived.Test.YtanlakmfdllopaaGood
namespace Go.Proofs.Ytanlakmfdllopaa
open Go.RowKit

theorem Box4.more {w w' : World} {g : Nat} {c0 c1 c2 c3 : Value} (h : Box4 w g c0 c1 c2 c3) (hb : Below w.heap.size w w') : Box4 w' g c0 c1 c2 c3 := h.below hb h.lt
theorem below_more {B : Nat} {a w w' : World} (h : Below B a w) (hs : B ≤ w.heap.size) (hb : Below w.heap.size w w') : Below B a w' := h.trans (hb.mono hs)
theorem boxed_below (w : World) (o : Obj) : Below w.heap.size w (w.alloc o) := (Below.refl _ w).alloc (Nat.le_refl _) o

set_option maxHeartbeats 400000 in
theorem headTells_ok_ok (r b t : Int) (f : Bool) (v : Nat) (w : World) (h : hFault r b t f = 0) (hv : v < 18446744073709551616) (hb : vBad v = false) :
    Calls Try.prog 3 #[.agg #[.int .i64 r, .int .i64 b, .int .i64 t, .bool f], .int .u64 v] w fun e w' => e = .returned (.bool true) ∧ Below w.heap.size w w' := by
  have HW := Lib.hid (word_any r b t f)
  have HL := Lib.hid (length_any r b t f)
  have HC := Lib.hid (check_any r b t f)
  have HF := Lib.hid (headFault_any r b t f)
  have HR := Lib.hid (fun w => read_any v w hv)
  have HG := Lib.hid (fun w => headRead_any v w hv)
  obtain ⟨h1, h2, h3, h4, h5, h6⟩ := hFault_ok h
  have HH := Lib.hid (fun w => headWord_any r b t f w h)
  have HN := Lib.hid (fun w => headLong_any r b t f w h1 (by omega) h2 (by omega))
  rw [show wordOr r b t f = hWord r b t f by unfold wordOr; rw [if_pos h]] at HW
  rw [show longOr r b t f = 1 + r + b by unfold longOr; rw [if_pos h]] at HL
  rw [h] at HW HL HC HF
  generalize hWord r b t f = W at *
  generalize 1 + r + b = L at *
  clear h h1 h2 h3 h4 h5 h6
  rw [show vErr v = 0 by unfold vErr; rw [hb]; rfl] at HR
  rw [hb] at HG
  generalize vR v = xr at *
  generalize vB v = xb at *
  generalize vT v = xt at *
  generalize vF v = xf at *
  clear hb
  go_enter Try.func3, Try.ntmps3
  go_wp2_with fail
  refine (HW.out _).mono ?_
  rintro e w1 ⟨rfl, hb⟩
  have A1 := Lib.hid ((Box4.new w _ _ _ _).more hb)
  have HB1 := Lib.hid (below_boxed w _ hb)
  clear hb
  obtain ⟨a0, a1, a2, a3⟩ := A1.out.cells
  go_wp2_with fail
  refine (HL.out _).mono ?_
  rintro e w2 ⟨rfl, hb⟩
  have A2 := Lib.hid (A1.out.more hb)
  have HB2 := Lib.hid (below_more HB1.out HB1.out.size hb)
  clear hb a0 a1 a2 a3 A1 HB1
  obtain ⟨a0, a1, a2, a3⟩ := A2.out.cells
  go_wp2_with fail
  refine (HR.out _).mono ?_
  rintro e w3 ⟨rfl, hb⟩
  have A3 := Lib.hid (A2.out.more hb)
  have HB3 := Lib.hid (below_more HB2.out HB2.out.size hb)
  clear hb a0 a1 a2 a3 A2 HB2
  obtain ⟨a0, a1, a2, a3⟩ := A3.out.cells
  clear a0 a1 a2 a3
  obtain ⟨a0, a1, a2, a3⟩ := (A3.out.more (boxed_below w3 (.cells #[.int .i64 xr, .int .i64 xb, .int .i64 xt, .bool xf] 23))).cells
  go_wp2_with fail
  refine (HF.out _).mono ?_
  rintro e w4 ⟨rfl, hb⟩
  have A4 := Lib.hid ((A3.out.more (boxed_below _ _)).more hb)
  have X4 := Lib.hid ((Box4.new w3 (.int .i64 xr) (.int .i64 xb) (.int .i64 xt) (.bool xf)).more hb)
  have HB4 := Lib.hid (below_more HB3.out HB3.out.size (below_boxed w3 _ hb))
  clear hb a0 a1 a2 a3 A3 HB3
  obtain ⟨a0, a1, a2, a3⟩ := A4.out.cells
  obtain ⟨x0, x1, x2, x3⟩ := X4.out.cells
  go_wp2_with fail
  refine (HC.out _).mono ?_
  rintro e w5 ⟨rfl, hb⟩
  have A5 := Lib.hid (A4.out.more hb)
  have X5 := Lib.hid (X4.out.more hb)
  have HB5 := Lib.hid (below_more HB4.out HB4.out.size hb)
  clear hb a0 a1 a2 a3 A4 x0 x1 x2 x3 X4 HB4
  obtain ⟨a0, a1, a2, a3⟩ := A5.out.cells
  obtain ⟨x0, x1, x2, x3⟩ := X5.out.cells
  go_wp2_with fail
  refine (HH.out _).mono ?_
  rintro e w6 ⟨rfl, hb⟩
  have A6 := Lib.hid (A5.out.more hb)
  have X6 := Lib.hid (X5.out.more hb)
  have HB6 := Lib.hid (below_more HB5.out HB5.out.size hb)
  clear hb a0 a1 a2 a3 A5 x0 x1 x2 x3 X5 HB5
  obtain ⟨a0, a1, a2, a3⟩ := A6.out.cells
  obtain ⟨x0, x1, x2, x3⟩ := X6.out.cells
  go_wp2_with fail
  refine (HN.out _).mono ?_
  rintro e w7 ⟨rfl, hb⟩
  have A7 := Lib.hid (A6.out.more hb)
  have X7 := Lib.hid (X6.out.more hb)
  have HB7 := Lib.hid (below_more HB6.out HB6.out.size hb)
  clear hb a0 a1 a2 a3 A6 x0 x1 x2 x3 X6 HB6
  obtain ⟨a0, a1, a2, a3⟩ := A7.out.cells
  obtain ⟨x0, x1, x2, x3⟩ := X7.out.cells
  go_wp2_with fail
  refine (HG.out _).mono ?_
  rintro e w8 ⟨rfl, hb⟩
  have A8 := Lib.hid (A7.out.more hb)
  have X8 := Lib.hid (X7.out.more hb)
  have HB8 := Lib.hid (below_more HB7.out HB7.out.size hb)
  clear hb a0 a1 a2 a3 A7 x0 x1 x2 x3 X7 HB7
  obtain ⟨a0, a1, a2, a3⟩ := A8.out.cells
  obtain ⟨x0, x1, x2, x3⟩ := X8.out.cells
  have AX := Lib.hid (X8.out.more (boxed_below w8 (.cells #[.int .i64 xr, .int .i64 xb, .int .i64 xt, .bool xf] 23)))
  have HB := Lib.hid (below_more HB8.out HB8.out.size (boxed_below w8 (.cells #[.int .i64 xr, .int .i64 xb, .int .i64 xt, .bool xf] 23)))
  clear x0 x1 x2 x3
  obtain ⟨x0, x1, x2, x3⟩ := AX.out.cells
  go_wp2
  go_ret
  exact ⟨rfl, HB.out⟩

set_option maxHeartbeats 400000 in
theorem headTells_ok_bad (r b t : Int) (f : Bool) (v : Nat) (w : World) (h : hFault r b t f = 0) (hv : v < 18446744073709551616) (hb : vBad v = true) :
    Calls Try.prog 3 #[.agg #[.int .i64 r, .int .i64 b, .int .i64 t, .bool f], .int .u64 v] w fun e w' => e = .returned (.bool true) ∧ Below w.heap.size w w' := by
  have HW := Lib.hid (word_any r b t f)
  have HL := Lib.hid (length_any r b t f)
  have HC := Lib.hid (check_any r b t f)
  have HF := Lib.hid (headFault_any r b t f)
  have HR := Lib.hid (fun w => read_any v w hv)
  have HG := Lib.hid (fun w => headRead_any v w hv)
  obtain ⟨h1, h2, h3, h4, h5, h6⟩ := hFault_ok h
  have HH := Lib.hid (fun w => headWord_any r b t f w h)
  have HN := Lib.hid (fun w => headLong_any r b t f w h1 (by omega) h2 (by omega))
  rw [show wordOr r b t f = hWord r b t f by unfold wordOr; rw [if_pos h]] at HW
  rw [show longOr r b t f = 1 + r + b by unfold longOr; rw [if_pos h]] at HL
  rw [h] at HW HL HC HF
  generalize hWord r b t f = W at *
  generalize 1 + r + b = L at *
  clear h h1 h2 h3 h4 h5 h6
  rw [show vErr v = 3 by unfold vErr; rw [hb]; rfl] at HR
  rw [hb] at HG
  generalize vR v = xr at *
  generalize vB v = xb at *
  generalize vT v = xt at *
  generalize vF v = xf at *
  clear hb
  go_enter Try.func3, Try.ntmps3
  go_wp2_with fail
  refine (HW.out _).mono ?_
  rintro e w1 ⟨rfl, hb⟩
  have A1 := Lib.hid ((Box4.new w _ _ _ _).more hb)
  have HB1 := Lib.hid (below_boxed w _ hb)
  clear hb
  obtain ⟨a0, a1, a2, a3⟩ := A1.out.cells
  go_wp2_with fail
  refine (HL.out _).mono ?_
  rintro e w2 ⟨rfl, hb⟩
  have A2 := Lib.hid (A1.out.more hb)
  have HB2 := Lib.hid (below_more HB1.out HB1.out.size hb)
  clear hb a0 a1 a2 a3 A1 HB1
  obtain ⟨a0, a1, a2, a3⟩ := A2.out.cells
  go_wp2_with fail
  refine (HR.out _).mono ?_
  rintro e w3 ⟨rfl, hb⟩
  have A3 := Lib.hid (A2.out.more hb)
  have HB3 := Lib.hid (below_more HB2.out HB2.out.size hb)
  clear hb a0 a1 a2 a3 A2 HB2
  obtain ⟨a0, a1, a2, a3⟩ := A3.out.cells
  clear a0 a1 a2 a3
  obtain ⟨a0, a1, a2, a3⟩ := (A3.out.more (boxed_below w3 (.cells #[.int .i64 xr, .int .i64 xb, .int .i64 xt, .bool xf] 23))).cells
  go_wp2_with fail
  refine (HF.out _).mono ?_
  rintro e w4 ⟨rfl, hb⟩
  have A4 := Lib.hid ((A3.out.more (boxed_below _ _)).more hb)
  have X4 := Lib.hid ((Box4.new w3 (.int .i64 xr) (.int .i64 xb) (.int .i64 xt) (.bool xf)).more hb)
  have HB4 := Lib.hid (below_more HB3.out HB3.out.size (below_boxed w3 _ hb))
  clear hb a0 a1 a2 a3 A3 HB3
  obtain ⟨a0, a1, a2, a3⟩ := A4.out.cells
  obtain ⟨x0, x1, x2, x3⟩ := X4.out.cells
  go_wp2_with fail
  refine (HC.out _).mono ?_
  rintro e w5 ⟨rfl, hb⟩
  have A5 := Lib.hid (A4.out.more hb)
  have X5 := Lib.hid (X4.out.more hb)
  have HB5 := Lib.hid (below_more HB4.out HB4.out.size hb)
  clear hb a0 a1 a2 a3 A4 x0 x1 x2 x3 X4 HB4
  obtain ⟨a0, a1, a2, a3⟩ := A5.out.cells
  obtain ⟨x0, x1, x2, x3⟩ := X5.out.cells
  go_wp2_with fail
  refine (HH.out _).mono ?_
  rintro e w6 ⟨rfl, hb⟩
  have A6 := Lib.hid (A5.out.more hb)
  have X6 := Lib.hid (X5.out.more hb)
  have HB6 := Lib.hid (below_more HB5.out HB5.out.size hb)
  clear hb a0 a1 a2 a3 A5 x0 x1 x2 x3 X5 HB5
  obtain ⟨a0, a1, a2, a3⟩ := A6.out.cells
  obtain ⟨x0, x1, x2, x3⟩ := X6.out.cells
  go_wp2_with fail
  refine (HN.out _).mono ?_
  rintro e w7 ⟨rfl, hb⟩
  have A7 := Lib.hid (A6.out.more hb)
  have X7 := Lib.hid (X6.out.more hb)
  have HB7 := Lib.hid (below_more HB6.out HB6.out.size hb)
  clear hb a0 a1 a2 a3 A6 x0 x1 x2 x3 X6 HB6
  obtain ⟨a0, a1, a2, a3⟩ := A7.out.cells
  obtain ⟨x0, x1, x2, x3⟩ := X7.out.cells
  go_wp2_with fail
  refine (HG.out _).mono ?_
  rintro e w8 ⟨rfl, hb⟩
  have A8 := Lib.hid (A7.out.more hb)
  have X8 := Lib.hid (X7.out.more hb)
  have HB8 := Lib.hid (below_more HB7.out HB7.out.size hb)
  clear hb a0 a1 a2 a3 A7 x0 x1 x2 x3 X7 HB7
  obtain ⟨a0, a1, a2, a3⟩ := A8.out.cells
  obtain ⟨x0, x1, x2, x3⟩ := X8.out.cells
  have AX := Lib.hid (X8.out.more (boxed_below w8 (.cells #[.int .i64 xr, .int .i64 xb, .int .i64 xt, .bool xf] 23)))
  have HB := Lib.hid (below_more HB8.out HB8.out.size (boxed_below w8 (.cells #[.int .i64 xr, .int .i64 xb, .int .i64 xt, .bool xf] 23)))
  clear x0 x1 x2 x3
  obtain ⟨x0, x1, x2, x3⟩ := AX.out.cells
  go_wp2
  go_ret
  exact ⟨rfl, HB.out⟩

set_option maxHeartbeats 400000 in
theorem headTells_bad_ok (r b t : Int) (f : Bool) (v : Nat) (w : World) (h : hFault r b t f ≠ 0) (hv : v < 18446744073709551616) (hb : vBad v = false) :
    Calls Try.prog 3 #[.agg #[.int .i64 r, .int .i64 b, .int .i64 t, .bool f], .int .u64 v] w fun e w' => e = .returned (.bool true) ∧ Below w.heap.size w w' := by
  have HW := Lib.hid (word_any r b t f)
  have HL := Lib.hid (length_any r b t f)
  have HC := Lib.hid (check_any r b t f)
  have HF := Lib.hid (headFault_any r b t f)
  have HR := Lib.hid (fun w => read_any v w hv)
  have HG := Lib.hid (fun w => headRead_any v w hv)
  rw [show wordOr r b t f = 0 by unfold wordOr; rw [if_neg h]] at HW
  rw [show longOr r b t f = 0 by unfold longOr; rw [if_neg h]] at HL
  have hn : (hFault r b t f != 0) = true := by simp [h]
  have hn' : (hFault r b t f == 0) = false := by simp [h]
  generalize hFault r b t f = c at *
  clear h
  rw [show vErr v = 0 by unfold vErr; rw [hb]; rfl] at HR
  rw [hb] at HG
  generalize vR v = xr at *
  generalize vB v = xb at *
  generalize vT v = xt at *
  generalize vF v = xf at *
  clear hb
  go_enter Try.func3, Try.ntmps3
  go_wp2_with fail
  refine (HW.out _).mono ?_
  rintro e w1 ⟨rfl, hb⟩
  have A1 := Lib.hid ((Box4.new w _ _ _ _).more hb)
  have HB1 := Lib.hid (below_boxed w _ hb)
  clear hb
  obtain ⟨a0, a1, a2, a3⟩ := A1.out.cells
  go_wp2_with fail
  refine (HL.out _).mono ?_
  rintro e w2 ⟨rfl, hb⟩
  have A2 := Lib.hid (A1.out.more hb)
  have HB2 := Lib.hid (below_more HB1.out HB1.out.size hb)
  clear hb a0 a1 a2 a3 A1 HB1
  obtain ⟨a0, a1, a2, a3⟩ := A2.out.cells
  go_wp2_with fail
  refine (HR.out _).mono ?_
  rintro e w3 ⟨rfl, hb⟩
  have A3 := Lib.hid (A2.out.more hb)
  have HB3 := Lib.hid (below_more HB2.out HB2.out.size hb)
  clear hb a0 a1 a2 a3 A2 HB2
  obtain ⟨a0, a1, a2, a3⟩ := A3.out.cells
  clear a0 a1 a2 a3
  obtain ⟨a0, a1, a2, a3⟩ := (A3.out.more (boxed_below w3 (.cells #[.int .i64 xr, .int .i64 xb, .int .i64 xt, .bool xf] 23))).cells
  go_wp2_with fail
  refine (HF.out _).mono ?_
  rintro e w4 ⟨rfl, hb⟩
  have A4 := Lib.hid ((A3.out.more (boxed_below _ _)).more hb)
  have X4 := Lib.hid ((Box4.new w3 (.int .i64 xr) (.int .i64 xb) (.int .i64 xt) (.bool xf)).more hb)
  have HB4 := Lib.hid (below_more HB3.out HB3.out.size (below_boxed w3 _ hb))
  clear hb a0 a1 a2 a3 A3 HB3
  obtain ⟨a0, a1, a2, a3⟩ := A4.out.cells
  obtain ⟨x0, x1, x2, x3⟩ := X4.out.cells
  go_wp2_with fail
  refine (HC.out _).mono ?_
  rintro e w5 ⟨rfl, hb⟩
  have A5 := Lib.hid (A4.out.more hb)
  have X5 := Lib.hid (X4.out.more hb)
  have HB5 := Lib.hid (below_more HB4.out HB4.out.size hb)
  clear hb a0 a1 a2 a3 A4 x0 x1 x2 x3 X4 HB4
  obtain ⟨a0, a1, a2, a3⟩ := A5.out.cells
  obtain ⟨x0, x1, x2, x3⟩ := X5.out.cells
  go_wp2_with fail
  refine (HG.out _).mono ?_
  rintro e w6 ⟨rfl, hb⟩
  have A6 := Lib.hid (A5.out.more hb)
  have X6 := Lib.hid (X5.out.more hb)
  have HB6 := Lib.hid (below_more HB5.out HB5.out.size hb)
  clear hb a0 a1 a2 a3 A5 x0 x1 x2 x3 X5 HB5
  obtain ⟨a0, a1, a2, a3⟩ := A6.out.cells
  obtain ⟨x0, x1, x2, x3⟩ := X6.out.cells
  have AX := Lib.hid (X6.out.more (boxed_below w6 (.cells #[.int .i64 xr, .int .i64 xb, .int .i64 xt, .bool xf] 23)))
  have HB := Lib.hid (below_more HB6.out HB6.out.size (boxed_below w6 (.cells #[.int .i64 xr, .int .i64 xb, .int .i64 xt, .bool xf] 23)))
  clear x0 x1 x2 x3
  obtain ⟨x0, x1, x2, x3⟩ := AX.out.cells
  go_wp2
  go_ret
  exact ⟨rfl, HB.out⟩

set_option maxHeartbeats 400000 in
theorem headTells_bad_bad (r b t : Int) (f : Bool) (v : Nat) (w : World) (h : hFault r b t f ≠ 0) (hv : v < 18446744073709551616) (hb : vBad v = true) :
    Calls Try.prog 3 #[.agg #[.int .i64 r, .int .i64 b, .int .i64 t, .bool f], .int .u64 v] w fun e w' => e = .returned (.bool true) ∧ Below w.heap.size w w' := by
  have HW := Lib.hid (word_any r b t f)
  have HL := Lib.hid (length_any r b t f)
  have HC := Lib.hid (check_any r b t f)
  have HF := Lib.hid (headFault_any r b t f)
  have HR := Lib.hid (fun w => read_any v w hv)
  have HG := Lib.hid (fun w => headRead_any v w hv)
  rw [show wordOr r b t f = 0 by unfold wordOr; rw [if_neg h]] at HW
  rw [show longOr r b t f = 0 by unfold longOr; rw [if_neg h]] at HL
  have hn : (hFault r b t f != 0) = true := by simp [h]
  have hn' : (hFault r b t f == 0) = false := by simp [h]
  generalize hFault r b t f = c at *
  clear h
  rw [show vErr v = 3 by unfold vErr; rw [hb]; rfl] at HR
  rw [hb] at HG
  generalize vR v = xr at *
  generalize vB v = xb at *
  generalize vT v = xt at *
  generalize vF v = xf at *
  clear hb
  go_enter Try.func3, Try.ntmps3
  go_wp2_with fail
  refine (HW.out _).mono ?_
  rintro e w1 ⟨rfl, hb⟩
  have A1 := Lib.hid ((Box4.new w _ _ _ _).more hb)
  have HB1 := Lib.hid (below_boxed w _ hb)
  clear hb
  obtain ⟨a0, a1, a2, a3⟩ := A1.out.cells
  go_wp2_with fail
  refine (HL.out _).mono ?_
  rintro e w2 ⟨rfl, hb⟩
  have A2 := Lib.hid (A1.out.more hb)
  have HB2 := Lib.hid (below_more HB1.out HB1.out.size hb)
  clear hb a0 a1 a2 a3 A1 HB1
  obtain ⟨a0, a1, a2, a3⟩ := A2.out.cells
  go_wp2_with fail
  refine (HR.out _).mono ?_
  rintro e w3 ⟨rfl, hb⟩
  have A3 := Lib.hid (A2.out.more hb)
  have HB3 := Lib.hid (below_more HB2.out HB2.out.size hb)
  clear hb a0 a1 a2 a3 A2 HB2
  obtain ⟨a0, a1, a2, a3⟩ := A3.out.cells
  clear a0 a1 a2 a3
  obtain ⟨a0, a1, a2, a3⟩ := (A3.out.more (boxed_below w3 (.cells #[.int .i64 xr, .int .i64 xb, .int .i64 xt, .bool xf] 23))).cells
  go_wp2_with fail
  refine (HF.out _).mono ?_
  rintro e w4 ⟨rfl, hb⟩
  have A4 := Lib.hid ((A3.out.more (boxed_below _ _)).more hb)
  have X4 := Lib.hid ((Box4.new w3 (.int .i64 xr) (.int .i64 xb) (.int .i64 xt) (.bool xf)).more hb)
  have HB4 := Lib.hid (below_more HB3.out HB3.out.size (below_boxed w3 _ hb))
  clear hb a0 a1 a2 a3 A3 HB3
  obtain ⟨a0, a1, a2, a3⟩ := A4.out.cells
  obtain ⟨x0, x1, x2, x3⟩ := X4.out.cells
  go_wp2_with fail
  refine (HC.out _).mono ?_
  rintro e w5 ⟨rfl, hb⟩
  have A5 := Lib.hid (A4.out.more hb)
  have X5 := Lib.hid (X4.out.more hb)
  have HB5 := Lib.hid (below_more HB4.out HB4.out.size hb)
  clear hb a0 a1 a2 a3 A4 x0 x1 x2 x3 X4 HB4
  obtain ⟨a0, a1, a2, a3⟩ := A5.out.cells
  obtain ⟨x0, x1, x2, x3⟩ := X5.out.cells
  go_wp2_with fail
  refine (HG.out _).mono ?_
  rintro e w6 ⟨rfl, hb⟩
  have A6 := Lib.hid (A5.out.more hb)
  have X6 := Lib.hid (X5.out.more hb)
  have HB6 := Lib.hid (below_more HB5.out HB5.out.size hb)
  clear hb a0 a1 a2 a3 A5 x0 x1 x2 x3 X5 HB5
  obtain ⟨a0, a1, a2, a3⟩ := A6.out.cells
  obtain ⟨x0, x1, x2, x3⟩ := X6.out.cells
  have AX := Lib.hid (X6.out.more (boxed_below w6 (.cells #[.int .i64 xr, .int .i64 xb, .int .i64 xt, .bool xf] 23)))
  have HB := Lib.hid (below_more HB6.out HB6.out.size (boxed_below w6 (.cells #[.int .i64 xr, .int .i64 xb, .int .i64 xt, .bool xf] 23)))
  clear x0 x1 x2 x3
  obtain ⟨x0, x1, x2, x3⟩ := AX.out.cells
  go_wp2
  go_ret
  exact ⟨rfl, HB.out⟩

theorem headTells_walk (r b t : Int) (f : Bool) (v : Int) (w : World) (hv : (Lit.int .u64 v).wf = true) :
    Calls Try.prog 3 #[.agg #[.int .i64 r, .int .i64 b, .int .i64 t, .bool f], .int .u64 v] w fun e w' => e = .returned (.bool true) ∧ Below w.heap.size w w' := by
  obtain ⟨h0, h1⟩ := wf_u64.1 hv
  obtain ⟨v, rfl⟩ := Int.eq_ofNat_of_zero_le h0
  have h2 : v < 18446744073709551616 := by omega
  by_cases h : hFault r b t f = 0
  · cases hb : vBad v
    · exact headTells_ok_ok r b t f v w h h2 hb
    · exact headTells_ok_bad r b t f v w h h2 hb
  · cases hb : vBad v
    · exact headTells_bad_ok r b t f v w h h2 hb
    · exact headTells_bad_bad r b t f v w h h2 hb

set_option maxHeartbeats 400000 in
theorem headBack_ok_ok (r b t : Int) (f : Bool) (v : Nat) (w : World) (h : hFault r b t f = 0) (hv : v < 18446744073709551616) (hb : vBad v = false) :
    Calls Try.prog 4 #[.agg #[.int .i64 r, .int .i64 b, .int .i64 t, .bool f], .int .u64 v] w fun e w' => e = .returned (.bool true) ∧ Below w.heap.size w w' := by
  have HW := Lib.hid (word_any r b t f)
  have HR := Lib.hid (fun w => read_any v w hv)
  rw [show wordOr r b t f = hWord r b t f by unfold wordOr; rw [if_pos h]] at HW
  obtain ⟨g1, g2, g3, g4, g5⟩ := word_of_header h
  obtain ⟨h1, h2⟩ := hWord_wf h
  rw [h] at HW
  generalize hWord r b t f = W at *
  obtain ⟨V, rfl⟩ := Int.eq_ofNat_of_zero_le h1
  have HV := Lib.hid (fun w => read_any V w (by omega))
  rw [g2, g3, g4, g5, show vErr V = 0 by unfold vErr; rw [g1]; rfl] at HV
  clear g1 g2 g3 g4 g5 h h1 h2
  obtain ⟨k1, k2⟩ := header_of_word (by omega) hb
  rw [show vErr v = 0 by unfold vErr; rw [hb]; rfl] at HR
  have HX := Lib.hid (word_any (vR v) (vB v) (vT v) (vF v))
  have HL := Lib.hid (length_any (vR v) (vB v) (vT v) (vF v))
  rw [show wordOr (vR v) (vB v) (vT v) (vF v) = v by unfold wordOr; rw [if_pos k1, k2], k1] at HX
  rw [show longOr (vR v) (vB v) (vT v) (vF v) = 1 + vR v + vB v by unfold longOr; rw [if_pos k1], k1] at HL
  obtain ⟨q1, q2, q3, q4, q5, q6⟩ := hFault_ok k1
  have l1 : 1 ≤ 1 + vR v + vB v := by omega
  have l2 : 1 + vR v + vB v ≤ 256 := by omega
  generalize 1 + vR v + vB v = L at *
  generalize vR v = xr at *
  generalize vB v = xb at *
  generalize vT v = xt at *
  generalize vF v = xf at *
  clear k1 k2 hb q1 q2 q3 q4 q5 q6
  go_enter Try.func4, Try.ntmps4
  go_wp2_with fail
  refine (heads_any _).mono ?_
  rintro e w1 ⟨rfl, hb⟩
  have A1 := Lib.hid ((Box4.new w _ _ _ _).more hb)
  have HB1 := Lib.hid (below_boxed w _ hb)
  clear hb
  obtain ⟨a0, a1, a2, a3⟩ := A1.out.cells
  go_wp2_with fail
  refine (HW.out _).mono ?_
  rintro e w2 ⟨rfl, hb⟩
  have A2 := Lib.hid (A1.out.more hb)
  have HB2 := Lib.hid (below_more HB1.out HB1.out.size hb)
  clear hb a0 a1 a2 a3 A1 HB1
  obtain ⟨a0, a1, a2, a3⟩ := A2.out.cells
  go_wp2_with fail
  refine (HV.out _).mono ?_
  rintro e w3 ⟨rfl, hb⟩
  have A3 := Lib.hid (A2.out.more hb)
  have HB3 := Lib.hid (below_more HB2.out HB2.out.size hb)
  clear hb a0 a1 a2 a3 A2 HB2
  obtain ⟨a0, a1, a2, a3⟩ := A3.out.cells
  have HD := boxed_below w3 (.cells #[.int .i64 r, .int .i64 b, .int .i64 t, .bool f] 23)
  have A3a := Lib.hid (A3.out.more HD)
  clear a0 a1 a2 a3 A3
  obtain ⟨a0, a1, a2, a3⟩ := A3a.out.cells
  have HB3a := Lib.hid (below_more HB3.out HB3.out.size HD)
  clear HD HB3
  go_wp2_with fail
  refine (HR.out _).mono ?_
  rintro e w4 ⟨rfl, hb⟩
  have A4 := Lib.hid (A3a.out.more hb)
  have HB4 := Lib.hid (below_more HB3a.out HB3a.out.size hb)
  clear hb a0 a1 a2 a3 A3a HB3a
  obtain ⟨a0, a1, a2, a3⟩ := A4.out.cells
  have HD := boxed_below w4 (.cells #[.int .i64 xr, .int .i64 xb, .int .i64 xt, .bool xf] 23)
  have A4a := Lib.hid (A4.out.more HD)
  clear a0 a1 a2 a3 A4
  obtain ⟨a0, a1, a2, a3⟩ := A4a.out.cells
  have X4a := Lib.hid (Box4.new w4 (.int .i64 xr) (.int .i64 xb) (.int .i64 xt) (.bool xf))
  have HB4a := Lib.hid (below_more HB4.out HB4.out.size HD)
  clear HD HB4
  go_wp2_with fail
  refine (HX.out _).mono ?_
  rintro e w5 ⟨rfl, hb⟩
  have A5 := Lib.hid (A4a.out.more hb)
  have X5 := Lib.hid (X4a.out.more hb)
  have HB5 := Lib.hid (below_more HB4a.out HB4a.out.size hb)
  clear hb a0 a1 a2 a3 A4a X4a HB4a
  obtain ⟨a0, a1, a2, a3⟩ := A5.out.cells
  obtain ⟨x0, x1, x2, x3⟩ := X5.out.cells
  go_wp2_with fail
  refine (HL.out _).mono ?_
  rintro e w6 ⟨rfl, hb⟩
  have A6 := Lib.hid (A5.out.more hb)
  have X6 := Lib.hid (X5.out.more hb)
  have HB6 := Lib.hid (below_more HB5.out HB5.out.size hb)
  clear hb a0 a1 a2 a3 A5 x0 x1 x2 x3 X5 HB5
  obtain ⟨a0, a1, a2, a3⟩ := A6.out.cells
  obtain ⟨x0, x1, x2, x3⟩ := X6.out.cells
  go_wp2_with fail
  refine (good_any _ 2 2 _ [0, 0] _ (by decide) (two_arr w6 0 0 (by decide) (by decide))).mono ?_
  rintro e w9 ⟨rfl, rfl⟩
  rw [show (!bad [0, 0]) = true by decide]
  have HB := Lib.hid (below_more HB6.out HB6.out.size (boxed_below w6 (.cells #[.int .i64 0, .int .i64 0] 25)))
  go_wp2
  go_ret
  exact ⟨rfl, HB.out⟩


set_option maxHeartbeats 400000 in
theorem headBack_ok_bad (r b t : Int) (f : Bool) (v : Nat) (w : World) (h : hFault r b t f = 0) (hv : v < 18446744073709551616) (hb : vBad v = true) :
    Calls Try.prog 4 #[.agg #[.int .i64 r, .int .i64 b, .int .i64 t, .bool f], .int .u64 v] w fun e w' => e = .returned (.bool true) ∧ Below w.heap.size w w' := by
  have HW := Lib.hid (word_any r b t f)
  have HR := Lib.hid (fun w => read_any v w hv)
  rw [show wordOr r b t f = hWord r b t f by unfold wordOr; rw [if_pos h]] at HW
  obtain ⟨g1, g2, g3, g4, g5⟩ := word_of_header h
  obtain ⟨h1, h2⟩ := hWord_wf h
  rw [h] at HW
  generalize hWord r b t f = W at *
  obtain ⟨V, rfl⟩ := Int.eq_ofNat_of_zero_le h1
  have HV := Lib.hid (fun w => read_any V w (by omega))
  rw [g2, g3, g4, g5, show vErr V = 0 by unfold vErr; rw [g1]; rfl] at HV
  clear g1 g2 g3 g4 g5 h h1 h2
  obtain ⟨k1, k2, k3, k4⟩ := header_none hb
  rw [k1, k2, k3, k4, show vErr v = 3 by unfold vErr; rw [hb]; rfl] at HR
  clear k1 k2 k3 k4 hb
  go_enter Try.func4, Try.ntmps4
  go_wp2_with fail
  refine (heads_any _).mono ?_
  rintro e w1 ⟨rfl, hb⟩
  have A1 := Lib.hid ((Box4.new w _ _ _ _).more hb)
  have HB1 := Lib.hid (below_boxed w _ hb)
  clear hb
  obtain ⟨a0, a1, a2, a3⟩ := A1.out.cells
  go_wp2_with fail
  refine (HW.out _).mono ?_
  rintro e w2 ⟨rfl, hb⟩
  have A2 := Lib.hid (A1.out.more hb)
  have HB2 := Lib.hid (below_more HB1.out HB1.out.size hb)
  clear hb a0 a1 a2 a3 A1 HB1
  obtain ⟨a0, a1, a2, a3⟩ := A2.out.cells
  go_wp2_with fail
  refine (HV.out _).mono ?_
  rintro e w3 ⟨rfl, hb⟩
  have A3 := Lib.hid (A2.out.more hb)
  have HB3 := Lib.hid (below_more HB2.out HB2.out.size hb)
  clear hb a0 a1 a2 a3 A2 HB2
  obtain ⟨a0, a1, a2, a3⟩ := A3.out.cells
  have HD := boxed_below w3 (.cells #[.int .i64 r, .int .i64 b, .int .i64 t, .bool f] 23)
  have A3a := Lib.hid (A3.out.more HD)
  clear a0 a1 a2 a3 A3
  obtain ⟨a0, a1, a2, a3⟩ := A3a.out.cells
  have HB3a := Lib.hid (below_more HB3.out HB3.out.size HD)
  clear HD HB3
  go_wp2_with fail
  refine (HR.out _).mono ?_
  rintro e w4 ⟨rfl, hb⟩
  have A4 := Lib.hid (A3a.out.more hb)
  have HB4 := Lib.hid (below_more HB3a.out HB3a.out.size hb)
  clear hb a0 a1 a2 a3 A3a HB3a
  obtain ⟨a0, a1, a2, a3⟩ := A4.out.cells
  have HD := boxed_below w4 (.cells #[.int .i64 0, .int .i64 0, .int .i64 0, .bool false] 23)
  have A4a := Lib.hid (A4.out.more HD)
  clear a0 a1 a2 a3 A4
  obtain ⟨a0, a1, a2, a3⟩ := A4a.out.cells
  have HB4a := Lib.hid (below_more HB4.out HB4.out.size HD)
  clear HD HB4
  go_wp2
  go_ret
  exact ⟨rfl, HB4a.out⟩


set_option maxHeartbeats 400000 in
theorem headBack_bad_ok (r b t : Int) (f : Bool) (v : Nat) (w : World) (h : hFault r b t f ≠ 0) (hv : v < 18446744073709551616) (hb : vBad v = false) :
    Calls Try.prog 4 #[.agg #[.int .i64 r, .int .i64 b, .int .i64 t, .bool f], .int .u64 v] w fun e w' => e = .returned (.bool true) ∧ Below w.heap.size w w' := by
  have HW := Lib.hid (word_any r b t f)
  have HR := Lib.hid (fun w => read_any v w hv)
  rw [show wordOr r b t f = 0 by unfold wordOr; rw [if_neg h]] at HW
  have hn : (hFault r b t f == 0) = false := by simp [h]
  generalize hFault r b t f = c at *
  clear h
  obtain ⟨k1, k2⟩ := header_of_word (by omega) hb
  rw [show vErr v = 0 by unfold vErr; rw [hb]; rfl] at HR
  have HX := Lib.hid (word_any (vR v) (vB v) (vT v) (vF v))
  have HL := Lib.hid (length_any (vR v) (vB v) (vT v) (vF v))
  rw [show wordOr (vR v) (vB v) (vT v) (vF v) = v by unfold wordOr; rw [if_pos k1, k2], k1] at HX
  rw [show longOr (vR v) (vB v) (vT v) (vF v) = 1 + vR v + vB v by unfold longOr; rw [if_pos k1], k1] at HL
  obtain ⟨q1, q2, q3, q4, q5, q6⟩ := hFault_ok k1
  have l1 : 1 ≤ 1 + vR v + vB v := by omega
  have l2 : 1 + vR v + vB v ≤ 256 := by omega
  generalize 1 + vR v + vB v = L at *
  generalize vR v = xr at *
  generalize vB v = xb at *
  generalize vT v = xt at *
  generalize vF v = xf at *
  clear k1 k2 hb q1 q2 q3 q4 q5 q6
  go_enter Try.func4, Try.ntmps4
  go_wp2_with fail
  refine (heads_any _).mono ?_
  rintro e w1 ⟨rfl, hb⟩
  have A1 := Lib.hid ((Box4.new w _ _ _ _).more hb)
  have HB1 := Lib.hid (below_boxed w _ hb)
  clear hb
  obtain ⟨a0, a1, a2, a3⟩ := A1.out.cells
  go_wp2_with fail
  refine (HW.out _).mono ?_
  rintro e w2 ⟨rfl, hb⟩
  have A2 := Lib.hid (A1.out.more hb)
  have HB2 := Lib.hid (below_more HB1.out HB1.out.size hb)
  clear hb a0 a1 a2 a3 A1 HB1
  obtain ⟨a0, a1, a2, a3⟩ := A2.out.cells
  go_wp2_with fail
  refine (HR.out _).mono ?_
  rintro e w3 ⟨rfl, hb⟩
  have A3 := Lib.hid (A2.out.more hb)
  have HB3 := Lib.hid (below_more HB2.out HB2.out.size hb)
  clear hb a0 a1 a2 a3 A2 HB2
  obtain ⟨a0, a1, a2, a3⟩ := A3.out.cells
  have HD := boxed_below w3 (.cells #[.int .i64 xr, .int .i64 xb, .int .i64 xt, .bool xf] 23)
  have A3a := Lib.hid (A3.out.more HD)
  clear a0 a1 a2 a3 A3
  obtain ⟨a0, a1, a2, a3⟩ := A3a.out.cells
  have X3a := Lib.hid (Box4.new w3 (.int .i64 xr) (.int .i64 xb) (.int .i64 xt) (.bool xf))
  have HB3a := Lib.hid (below_more HB3.out HB3.out.size HD)
  clear HD HB3
  go_wp2_with fail
  refine (HX.out _).mono ?_
  rintro e w4 ⟨rfl, hb⟩
  have A4 := Lib.hid (A3a.out.more hb)
  have X4 := Lib.hid (X3a.out.more hb)
  have HB4 := Lib.hid (below_more HB3a.out HB3a.out.size hb)
  clear hb a0 a1 a2 a3 A3a X3a HB3a
  obtain ⟨a0, a1, a2, a3⟩ := A4.out.cells
  obtain ⟨x0, x1, x2, x3⟩ := X4.out.cells
  go_wp2_with fail
  refine (HL.out _).mono ?_
  rintro e w5 ⟨rfl, hb⟩
  have A5 := Lib.hid (A4.out.more hb)
  have X5 := Lib.hid (X4.out.more hb)
  have HB5 := Lib.hid (below_more HB4.out HB4.out.size hb)
  clear hb a0 a1 a2 a3 A4 x0 x1 x2 x3 X4 HB4
  obtain ⟨a0, a1, a2, a3⟩ := A5.out.cells
  obtain ⟨x0, x1, x2, x3⟩ := X5.out.cells
  go_wp2_with fail
  refine (good_any _ 2 2 _ [0, 0] _ (by decide) (two_arr w5 0 0 (by decide) (by decide))).mono ?_
  rintro e w9 ⟨rfl, rfl⟩
  rw [show (!bad [0, 0]) = true by decide]
  have HB := Lib.hid (below_more HB5.out HB5.out.size (boxed_below w5 (.cells #[.int .i64 0, .int .i64 0] 25)))
  go_wp2
  go_ret
  exact ⟨rfl, HB.out⟩


set_option maxHeartbeats 400000 in
theorem headBack_bad_bad (r b t : Int) (f : Bool) (v : Nat) (w : World) (h : hFault r b t f ≠ 0) (hv : v < 18446744073709551616) (hb : vBad v = true) :
    Calls Try.prog 4 #[.agg #[.int .i64 r, .int .i64 b, .int .i64 t, .bool f], .int .u64 v] w fun e w' => e = .returned (.bool true) ∧ Below w.heap.size w w' := by
  have HW := Lib.hid (word_any r b t f)
  have HR := Lib.hid (fun w => read_any v w hv)
  rw [show wordOr r b t f = 0 by unfold wordOr; rw [if_neg h]] at HW
  have hn : (hFault r b t f == 0) = false := by simp [h]
  generalize hFault r b t f = c at *
  clear h
  obtain ⟨k1, k2, k3, k4⟩ := header_none hb
  rw [k1, k2, k3, k4, show vErr v = 3 by unfold vErr; rw [hb]; rfl] at HR
  clear k1 k2 k3 k4 hb
  go_enter Try.func4, Try.ntmps4
  go_wp2_with fail
  refine (heads_any _).mono ?_
  rintro e w1 ⟨rfl, hb⟩
  have A1 := Lib.hid ((Box4.new w _ _ _ _).more hb)
  have HB1 := Lib.hid (below_boxed w _ hb)
  clear hb
  obtain ⟨a0, a1, a2, a3⟩ := A1.out.cells
  go_wp2_with fail
  refine (HW.out _).mono ?_
  rintro e w2 ⟨rfl, hb⟩
  have A2 := Lib.hid (A1.out.more hb)
  have HB2 := Lib.hid (below_more HB1.out HB1.out.size hb)
  clear hb a0 a1 a2 a3 A1 HB1
  obtain ⟨a0, a1, a2, a3⟩ := A2.out.cells
  go_wp2_with fail
  refine (HR.out _).mono ?_
  rintro e w3 ⟨rfl, hb⟩
  have A3 := Lib.hid (A2.out.more hb)
  have HB3 := Lib.hid (below_more HB2.out HB2.out.size hb)
  clear hb a0 a1 a2 a3 A2 HB2
  obtain ⟨a0, a1, a2, a3⟩ := A3.out.cells
  have HD := boxed_below w3 (.cells #[.int .i64 0, .int .i64 0, .int .i64 0, .bool false] 23)
  have A3a := Lib.hid (A3.out.more HD)
  clear a0 a1 a2 a3 A3
  obtain ⟨a0, a1, a2, a3⟩ := A3a.out.cells
  have HB3a := Lib.hid (below_more HB3.out HB3.out.size HD)
  clear HD HB3
  go_wp2
  go_ret
  exact ⟨rfl, HB3a.out⟩

theorem headBack_walk (r b t : Int) (f : Bool) (v : Int) (w : World) (hv : (Lit.int .u64 v).wf = true) :
    Calls Try.prog 4 #[.agg #[.int .i64 r, .int .i64 b, .int .i64 t, .bool f], .int .u64 v] w fun e w' => e = .returned (.bool true) ∧ Below w.heap.size w w' := by
  obtain ⟨h0, h1⟩ := wf_u64.1 hv
  obtain ⟨v, rfl⟩ := Int.eq_ofNat_of_zero_le h0
  have h2 : v < 18446744073709551616 := by omega
  by_cases h : hFault r b t f = 0
  · cases hb : vBad v
    · exact headBack_ok_ok r b t f v w h h2 hb
    · exact headBack_ok_bad r b t f v w h h2 hb
  · cases hb : vBad v
    · exact headBack_bad_ok r b t f v w h h2 hb
    · exact headBack_bad_bad r b t f v w h h2 hb
end Go.Proofs.Ytanlakmfdllopaa
