/-
  Contracts of package twin: halve, with, New.
-/
import Derived.Test.YtdieokpfkojoiaaTwinD
namespace Go.Proofs.Ytdieokpfkojoiaa
open Go.RowKit

theorem OwnG.setOther {α : Type} {enc : α → List Value} {size : Nat} {e : TypeId} {w : World} {base g : Nat} {v : Value} {l : List α} (h : OwnG enc size e w base v l) (hg : g < base) (j : Nat) (d : Value) : OwnG enc size e (w.setCell ⟨g, j, none⟩ d) base v l := by
  obtain ⟨hl, h2⟩ := h
  refine ⟨hl, h2.imp id ?_⟩
  rintro ⟨g', cap, cur, hv, hg', hh, r⟩
  refine ⟨g', cap, cur, hv, hg', ?_, r⟩
  show (w.heap.modify g _)[g']? = _
  rw [Array.getElem?_modify, if_neg (by omega)]
  exact hh
theorem Box.setOther {w : World} {g g' : Nat} {t : TypeId} {cs : Array Value} (h : Box w g t cs) (hg : g ≠ g') (j : Nat) (d : Value) : Box (w.setCell ⟨g', j, none⟩ d) g t cs := by
  unfold Box at *
  show (w.heap.modify g' _)[g]? = _
  rw [Array.getElem?_modify, if_neg (by omega)]
  exact h
theorem Box.set2 {w : World} {g : Nat} {t : TypeId} {c0 c1 : Value} (h : Box w g t #[c0, c1]) (d0 d1 : Value) : Box ((w.setCell ⟨g, 0, none⟩ d0).setCell ⟨g, 1, none⟩ d1) g t #[d0, d1] := by
  unfold Box at *
  simp [World.setCell, Array.getElem?_modify, h]
theorem below_set2 {B : Nat} {a w : World} (h : Below B a w) {g : Nat} (hg : B ≤ g) (o0 o1 : Nat) (d0 d1 : Value) : Below B a ((w.setCell ⟨g, o0, none⟩ d0).setCell ⟨g, o1, none⟩ d1) := below_set (below_set h hg _ _) hg _ _
/-- The number in a cell. -/
def cellNat (w : World) (g j : Nat) : Nat := match w.cell? ⟨g, j, none⟩ with
  | some (.int _ z) => z.toNat
  | _ => 0
theorem cellNat_of {w : World} {g j : Nat} {k : IntKind} {z : Nat} (h : w.cell? ⟨g, j, none⟩ = some (.int k z)) : cellNat w g j = z := by
  unfold cellNat; rw [h]; simp

set_option maxRecDepth 8000 in
set_option maxHeartbeats 1000000 in
theorem halve_any (b i n : Nat) (w : World) (hi : i ≤ 8) (hn : 1 ≤ n) (hn2 : n ≤ 1000) :
    Calls Try.prog 35 #[.agg #[.int .i64 b, .int .i64 (pw i)], .int .i64 n] w fun e w' => e = .returned (.agg #[.int .i64 b, .int .i64 (pw (halveL n i))]) ∧ Below w.heap.size w w' := by
  have h256 := pw_256 hi
  have b0 := ((Below.refl _ w).alloc (Nat.le_refl _) (.cells #[.int .i64 b, .int .i64 (pw i)] 29)).alloc (Nat.le_of_lt (by simp)) (.cells #[.int .i64 0, .int .i64 0] 29)
  have x1 := (Box.new w 29 #[.int .i64 b, .int .i64 (pw i)]).alloc (.cells #[.int .i64 0, .int .i64 0] 29)
  have x2 := Box.new (w.alloc (.cells #[.int .i64 b, .int .i64 (pw i)] 29)) 29 #[.int .i64 0, .int .i64 0]
  have hsz : (w.alloc (.cells #[.int .i64 b, .int .i64 (pw i)] 29)).heap.size = w.heap.size + 1 := by simp
  rw [hsz] at x2
  have HB0 := Lib.hid b0
  have HX1 := Lib.hid x1
  have HX2 := Lib.hid x2
  clear b0 x1 x2 hsz
  go_enter Try.func35, Try.ntmps35
  go_wp2_with fail
  generalize ((w.alloc (.cells #[.int .i64 b, .int .i64 (pw i)] 29)).alloc (.cells #[.int .i64 0, .int .i64 0] 29)) = W0 at *
  go_loopw [8] (fun _ wr => ∃ j : Nat, j ≤ i ∧ Hid (halveL n i = halveL n j) ∧ Hid (Box wr w.heap.size 29 #[.int .i64 b, .int .i64 (pw j)]) ∧ Hid (Box wr (w.heap.size + 1) 29 #[.int .i64 0, .int .i64 0]) ∧ Hid (Below w.heap.size w wr)) (fun _ wr => cellNat wr w.heap.size 1)
  case atStart => exact ⟨i, Nat.le_refl _, rfl, HX1, HX2, HB0⟩
  case round =>
    obtain ⟨j, hj, HH, B1, B2, HB⟩ := hrel
    clear HX1 HX2 HB0
    have c0 : wr.cell? ⟨w.heap.size, 0, none⟩ = some (.int .i64 b) := B1.out.cell 0
    have c1 : wr.cell? ⟨w.heap.size, 1, none⟩ = some (.int .i64 (pw j)) := B1.out.cell 1
    have s1 := B1.out.soft 1
    have d0 : wr.cell? ⟨w.heap.size + 1, 0, none⟩ = some (.int .i64 0) := B2.out.cell 0
    have d1 : wr.cell? ⟨w.heap.size + 1, 1, none⟩ = some (.int .i64 0) := B2.out.cell 1
    have t0 := B2.out.soft 0
    have t1 := B2.out.soft 1
    have hj256 : pw j ≤ 256 := pw_256 (by omega)
    have HM := Lib.hid (cellNat_of c1)
    by_cases hgo : ∃ m, j = m + 1 ∧ n ≤ pw m
    · obtain ⟨m, rfl, hm⟩ := hgo
      have hs := pw_succ m
      have hp := pw_pos m
      have htd : ((pw (m + 1) : Nat) : Int).tdiv 2 = ((pw m : Nat) : Int) := by rw [hs]; show ((2 * pw m / 2 : Nat) : Int) = _; congr 1; omega
      have HH2 : Hid (halveL n i = halveL n m) := by show _ = _; rw [HH.out, halveL, if_pos (by omega)]
      have hm256 : pw m ≤ 256 := by omega
      have HLT := Lib.hid (show pw m < pw (m + 1) by omega)
      have hwm : wrap64 ((pw m : Nat) : Int) = ((pw m : Nat) : Int) := by unfold wrap64; omega
      have BX : Hid (Box (wr.setCell ⟨w.heap.size, 1, none⟩ (.int .i64 (pw m))) w.heap.size 29 #[.int .i64 b, .int .i64 (pw m)]) := Lib.hid (B1.out.set 1 (.int .i64 (pw m)))
      have BY := Lib.hid (B2.out.setOther (g' := w.heap.size) (by omega) 1 (.int .i64 (pw m)))
      have BB := Lib.hid (below_set HB.out (g := w.heap.size) (Nat.le_refl _) 1 (.int .i64 (pw m)))
      clear hs
      go_wp2
      go_roundw
      case rel => exact ⟨m, by omega, HH2, BX, BY, BB⟩
      case measure =>
        have e1 : cellNat (wr.setCell ⟨w.heap.size, 1, none⟩ (.int .i64 (pw m))) w.heap.size 1 = pw m := cellNat_of (k := .i64) (BX.out.cell 1)
        have e2 := HM.out
        have e3 := HLT.out
        simp only [e1, e2]
        exact e3
    · have HF : Hid (halveL n i = j) := by
        show _ = _
        rw [HH.out]
        match j, hgo with
        | 0, _ => rfl
        | m + 1, hgo => rw [halveL, if_neg (by intro h; exact hgo ⟨m, rfl, by omega⟩)]
      have htd : ∃ H : Nat, ((pw j : Nat) : Int).tdiv 2 = (H : Int) ∧ H < n ∧ H ≤ 256 := by
        refine ⟨pw j / 2, rfl, ?_, by omega⟩
        match j, hgo with
        | 0, _ => rw [pw_zero]; omega
        | m + 1, hgo =>
          rw [pw_succ]
          rcases Nat.lt_or_ge (pw m) n with h | h
          · omega
          · exact absurd ⟨m, rfl, h⟩ hgo
      obtain ⟨H, htd, hHn, hH2⟩ := htd
      have hwm : wrap64 (H : Int) = (H : Int) := by unfold wrap64; omega
      have HPL : Hid (pw (halveL n i) = pw j) := by show _ = _; rw [HF.out]
      have BX := Lib.hid (B2.out.set2 (.int .i64 b) (.int .i64 (pw j)))
      have BB := Lib.hid (below_set2 HB.out (g := w.heap.size + 1) (by omega) 0 1 (.int .i64 b) (.int .i64 (pw j)))
      clear hgo HH HF HM
      generalize pw j = L at *
      go_wp2
      generalize ((wr.setCell ⟨w.heap.size + 1, 0, none⟩ (.int .i64 b)).setCell ⟨w.heap.size + 1, 1, none⟩ (.int .i64 L)) = W9 at *
      have y0 : W9.cell? ⟨w.heap.size + 1, 0, none⟩ = some (.int .i64 b) := BX.out.cell 0
      have y1 : W9.cell? ⟨w.heap.size + 1, 1, none⟩ = some (.int .i64 L) := BX.out.cell 1
      refine bodyPost_ret (v := .agg #[.int .i64 b, .int .i64 L]) (by simp [results, Try.results35, go_sem, y0, y1]) rfl ⟨by rw [HPL.out], BB.out⟩

def newO (o : Int) : Int := if hErr o [] = 0 then o else 0
set_option maxRecDepth 8000 in
set_option maxHeartbeats 1000000 in
theorem newH_any (o : Int) (w : World) :
    Calls Try.prog 7 #[.int .i64 o] w fun e w' => e = .returned (.tuple #[.agg #[.int .i64 (newO o), .slice none 0 0], .int .i64 (hErr o [])]) ∧ Below w.heap.size w w' := by
  have b0 := ((Below.refl _ w).alloc (Nat.le_refl _) (.cells #[.int .i64 0, .slice none 0 0] 24)).alloc (Nat.le_of_lt (by simp)) (.cells #[.int .i64 o, .slice none 0 0] 24)
  have x1 := (Box.new w 24 #[.int .i64 0, .slice none 0 0]).alloc (.cells #[.int .i64 o, .slice none 0 0] 24)
  have x2 := Box.new (w.alloc (.cells #[.int .i64 0, .slice none 0 0] 24)) 24 #[.int .i64 o, .slice none 0 0]
  have hsz : (w.alloc (.cells #[.int .i64 0, .slice none 0 0] 24)).heap.size = w.heap.size + 1 := by simp
  rw [hsz] at x2
  have HC := Lib.hid (checkH_any o none 0 0 [] ((w.alloc (.cells #[.int .i64 0, .slice none 0 0] 24)).alloc (.cells #[.int .i64 o, .slice none 0 0] 24)) ⟨Nat.zero_le _, ArrG.zero, fun j hj => absurd hj (by omega)⟩)
  have HB0 := Lib.hid b0
  have HX1 := Lib.hid x1
  have HX2 := Lib.hid x2
  clear b0 x1 x2 hsz
  go_enter Try.func7, Try.ntmps7
  go_wp2_with fail
  refine HC.out.mono ?_
  rintro e w2 ⟨rfl, hb2⟩
  have B1 := HX1.out.below hb2 HX1.out.lt
  have B2 := HX2.out.below hb2 HX2.out.lt
  have HB := Lib.hid (HB0.out.trans (hb2.mono HB0.out.size))
  clear hb2 HC HX1 HX2 HB0
  have c0 : w2.cell? ⟨w.heap.size, 0, none⟩ = some (.int .i64 0) := B1.cell 0
  have c1 : w2.cell? ⟨w.heap.size, 1, none⟩ = some (.slice none 0 0) := B1.cell 1
  have s0 := B1.soft 0
  have s1 := B1.soft 1
  have d0 : w2.cell? ⟨w.heap.size + 1, 0, none⟩ = some (.int .i64 o) := B2.cell 0
  have d1 : w2.cell? ⟨w.heap.size + 1, 1, none⟩ = some (.slice none 0 0) := B2.cell 1
  have HB1 := Lib.hid B1
  clear B1 B2
  by_cases h0 : hErr o [] = 0
  · have HN : Hid (newO o = o) := by show _ = _; unfold newO; rw [if_pos h0]
    have H0 := Lib.hid h0
    rw [h0]
    have BX := Lib.hid (HB1.out.set2 (.int .i64 o) (.slice none 0 0))
    have BB := Lib.hid (below_set2 HB.out (g := w.heap.size) (Nat.le_refl _) 0 1 (.int .i64 o) (.slice none 0 0))
    clear h0
    go_wp2
    generalize ((w2.setCell ⟨w.heap.size, 0, none⟩ (.int .i64 o)).setCell ⟨w.heap.size, 1, none⟩ (.slice none 0 0)) = W9 at *
    have y0 : W9.cell? ⟨w.heap.size, 0, none⟩ = some (.int .i64 o) := BX.out.cell 0
    have y1 : W9.cell? ⟨w.heap.size, 1, none⟩ = some (.slice none 0 0) := BX.out.cell 1
    refine bodyPost_ret (v := .tuple #[.agg #[.int .i64 o, .slice none 0 0], .int .i64 0]) (by simp [results, Try.results7, go_sem, y0, y1]) rfl ⟨by rw [HN.out, H0.out], BB.out⟩
  · have HN : Hid (newO o = 0) := by show _ = _; unfold newO; rw [if_neg h0]
    have hne : (hErr o [] != 0) = true := by simpa using h0
    have BX := Lib.hid (HB1.out.set2 (.int .i64 0) (.slice none 0 0))
    have BB := Lib.hid (below_set2 HB.out (g := w.heap.size) (Nat.le_refl _) 0 1 (.int .i64 0) (.slice none 0 0))
    obtain ⟨E, hE⟩ : ∃ E, hErr o [] = E := ⟨_, rfl⟩
    have H0 := Lib.hid hE
    rw [hE] at hne h0 ⊢
    clear hE
    go_wp2
    generalize ((w2.setCell ⟨w.heap.size, 0, none⟩ (.int .i64 0)).setCell ⟨w.heap.size, 1, none⟩ (.slice none 0 0)) = W9 at *
    have y0 : W9.cell? ⟨w.heap.size, 0, none⟩ = some (.int .i64 0) := BX.out.cell 0
    have y1 : W9.cell? ⟨w.heap.size, 1, none⟩ = some (.slice none 0 0) := BX.out.cell 1
    refine bodyPost_ret (v := .tuple #[.agg #[.int .i64 0, .slice none 0 0], .int .i64 E]) (by simp [results, Try.results7, go_sem, y0, y1]) rfl ⟨by rw [HN.out, H0.out], BB.out⟩
end Go.Proofs.Ytdieokpfkojoiaa
