/-
  Contracts of package twin: with, Give.
-/
import Derived.Test.YtdieokpfkojoiaaTwinE
namespace Go.Proofs.Ytdieokpfkojoiaa
open Go.RowKit

/-- Up to three lists, by number. -/
def sel3 {α : Type} (a b c : α) (j : Nat) : α := match j with
  | 0 => a
  | 1 => b
  | _ => c
theorem below_drew {B : Nat} {a w : World} (h : Below B a w) : Below B a w.drew := ⟨h.os, h.tape, h.output, h.size, h.block⟩
theorem catTo_three (a b c : List Room) : catTo (sel3 a b c) 3 = a ++ b ++ c := by simp [catTo, sel3]
theorem catTo_two (a b c : List Room) : catTo (sel3 a b c) 2 = a ++ b := by simp [catTo, sel3]
/-- What 'with' answers. -/
def WithP (k : Int) (l : List Room) (r : Room) (w : World) (e : Ending) (w' : World) : Prop := ∃ v, e = .returned (.agg #[.int .i64 k, v]) ∧ OwnG roomC 3 42 w' w.heap.size v (insL r l) ∧ Below w.heap.size w w'

set_option maxRecDepth 8000 in
set_option maxHeartbeats 2000000 in
theorem with_any (k : Int) (A : Option Addr) (n c : Nat) (l : List Room) (x y z : Int) (w : World) (hn : n ≤ 256) (hnc : n ≤ c) (hx : ArrG roomC 3 w w.heap.size A n l) :
    Calls Try.prog 36 #[.agg #[.int .i64 k, .slice A n c], .agg #[.int .i64 x, .int .i64 y, .int .i64 z]] w (WithP k l (x, y, z) w) := by
  have hsz : (w.alloc (.cells #[.int .i64 k, .slice A n c] 24)).heap.size = w.heap.size + 1 := by simp
  have hsz2 : ((w.alloc (.cells #[.int .i64 k, .slice A n c] 24)).alloc (.cells #[.int .i64 x, .int .i64 y, .int .i64 z] 42)).heap.size = w.heap.size + 1 + 1 := by simp
  have hsz3 : (((w.alloc (.cells #[.int .i64 k, .slice A n c] 24)).alloc (.cells #[.int .i64 x, .int .i64 y, .int .i64 z] 42)).alloc (.cells #[.int .i64 0, .slice none 0 0] 24)).heap.size = w.heap.size + 1 + 1 + 1 := by simp
  have b0 := (((Below.refl _ w).alloc (Nat.le_refl _) (.cells #[.int .i64 k, .slice A n c] 24)).alloc (by omega) (.cells #[.int .i64 x, .int .i64 y, .int .i64 z] 42)).alloc (by omega) (.cells #[.int .i64 0, .slice none 0 0] 24)
  have x1 := ((Box.new w 24 #[.int .i64 k, .slice A n c]).alloc (.cells #[.int .i64 x, .int .i64 y, .int .i64 z] 42)).alloc (.cells #[.int .i64 0, .slice none 0 0] 24)
  have x2 := (Box.new (w.alloc (.cells #[.int .i64 k, .slice A n c] 24)) 42 #[.int .i64 x, .int .i64 y, .int .i64 z]).alloc (.cells #[.int .i64 0, .slice none 0 0] 24)
  have x3 := Box.new ((w.alloc (.cells #[.int .i64 k, .slice A n c] 24)).alloc (.cells #[.int .i64 x, .int .i64 y, .int .i64 z] 42)) 24 #[.int .i64 0, .slice none 0 0]
  rw [hsz] at x2
  rw [hsz2] at x3
  have HB0 := Lib.hid b0
  have HX1 := Lib.hid x1
  have HX2 := Lib.hid x2
  have HX3 := Lib.hid x3
  have HA := Lib.hid hx
  have HSZ := Lib.hid hsz3
  clear b0 x1 x2 x3 hsz hsz2 hsz3 hx
  unfold WithP
  go_enter Try.func36, Try.ntmps36
  go_wp2_with fail
  generalize (((w.alloc (.cells #[.int .i64 k, .slice A n c] 24)).alloc (.cells #[.int .i64 x, .int .i64 y, .int .i64 z] 42)).alloc (.cells #[.int .i64 0, .slice none 0 0] 24)) = W0 at *
  go_loopw [5] (fun i wr => ∃ j : Nat, j ≤ n ∧ i = .int .i64 j ∧ Hid (∀ t, t < j → (nthG l t).1 < x) ∧ Hid (Box wr w.heap.size 24 #[.int .i64 k, .slice A n c]) ∧ Hid (Box wr (w.heap.size + 1) 42 #[.int .i64 x, .int .i64 y, .int .i64 z]) ∧ Hid (Box wr (w.heap.size + 1 + 1) 24 #[.int .i64 0, .slice none 0 0]) ∧ Hid (Below w.heap.size w wr)) (fun i _ => n - (intOf i).toNat)
  case atStart => exact ⟨0, Nat.zero_le _, rfl, (fun t ht => absurd ht (by omega)), HX1, HX2, HX3, HB0⟩
  case round =>
    obtain ⟨j, hj, rfl, HL, HB1, HB2, HB3, HBB⟩ := hrel
    have B1 := HB1.out
    have B2 := HB2.out
    have B3 := HB3.out
    have HB := HBB.out
    have c0 : wr.cell? ⟨w.heap.size, 0, none⟩ = some (.int .i64 k) := B1.cell 0
    have c1 : wr.cell? ⟨w.heap.size, 1, none⟩ = some (.slice A n c) := B1.cell 1
    have d0 : wr.cell? ⟨w.heap.size + 1, 0, none⟩ = some (.int .i64 x) := B2.cell 0
    have d1 : wr.cell? ⟨w.heap.size + 1, 1, none⟩ = some (.int .i64 y) := B2.cell 1
    have d2 : wr.cell? ⟨w.heap.size + 1, 2, none⟩ = some (.int .i64 z) := B2.cell 2
    have hex : (∃ b off, A = some ⟨b, off, none⟩ ∧ wr.cell? ⟨b, off + j * 3, none⟩ = some (.int .i64 (nthG l j).1) ∧ j < n) ∨ j = n := by
      by_cases hlt : j < n
      · obtain ⟨b, off, h1, _, h2, _⟩ := (HA.out.below HB (Nat.le_refl _)).room hlt
        exact .inl ⟨b, off, h1, h2, hlt⟩
      · exact .inr (by omega)
    obtain ⟨D1, hD1, hD1'⟩ := run_uptoG (P := Try.prog) Try.underlying22 roomS A n c j j rfl (by omega)
    obtain ⟨D2, hD2, hD2'⟩ := run_fromG (P := Try.prog) Try.underlying22 roomS A n c j j rfl hj hnc
    have ha1 : ArrG roomC 3 wr w.heap.size D1 j (l.take j) := by
      have := (HA.out.below HB (Nat.le_refl _)).cutG (p := 0) (q := j) (D := D1) (by omega) (fun b off h _ => by rw [hD1' b off h]; simp)
      simpa using this
    have ha2 : ArrG roomC 3 wr w.heap.size D2 (n - j) (l.drop j) := by
      have := (HA.out.below HB (Nat.le_refl _)).cutG (p := j) (q := n - j) (D := D2) (by omega) hD2'
      rwa [List.take_of_length_le (by simp; have := HA.out.1; omega)] at this
    have HFin : Hid (j = n ∨ (j < n ∧ x ≤ (nthG l j).1) → l.take j ++ [(x, y, z)] ++ l.drop j = insL (x, y, z) l) := by
      intro h
      rw [List.append_assoc]
      refine insL_at (by rw [HA.out.1]; exact hj) HL.out ?_
      rcases h with h | h
      · exact .inl (by rw [HA.out.1]; exact h)
      · exact .inr h.2
    have HCC : Hid (∀ W : World, ArrG roomC 3 W w.heap.size D1 j (l.take j) → ArrG roomC 3 W w.heap.size D2 (n - j) (l.drop j) → w.heap.size ≤ W.heap.size → Calls Try.prog 39 #[.slice (some ⟨W.heap.size + 1, 0, none⟩) 3 3]
        (((W.alloc (.cells #[.int .i64 x, .int .i64 y, .int .i64 z] 42)).alloc (.cells #[.slice D1 j c, .slice (some ⟨W.heap.size, 0, none⟩) 1 1, .slice D2 (n - j) (c - j)] 22)).drew)
        fun e w' => ∃ v, e = .returned v ∧ OwnG roomC 3 42 w' W.heap.size v (l.take j ++ [(x, y, z)] ++ l.drop j) ∧ Below W.heap.size W w') := fun W ha1 ha2 hW => by
      have u1 : Below W.heap.size W (W.alloc (.cells #[.int .i64 x, .int .i64 y, .int .i64 z] 42)) := (Below.refl _ W).alloc (Nat.le_refl _) _
      have r1 := one_room W 42 (x, y, z)
      have z1 : (W.alloc (.cells #[.int .i64 x, .int .i64 y, .int .i64 z] 42)).heap.size = W.heap.size + 1 := by simp
      have r1' : ArrG roomC 3 (W.alloc (.cells #[.int .i64 x, .int .i64 y, .int .i64 z] 42)) (W.heap.size + 1) (some ⟨W.heap.size, 0, none⟩) 1 [(x, y, z)] := r1
      generalize (W.alloc (.cells #[.int .i64 x, .int .i64 y, .int .i64 z] 42)) = w5 at *
      have u2 := (Below.refl _ w5).alloc (Nat.le_refl _) (.cells #[.slice D1 j c, .slice (some ⟨W.heap.size, 0, none⟩) 1 1, .slice D2 (n - j) (c - j)] 22)
      have bx := Box.new w5 22 #[.slice D1 j c, .slice (some ⟨W.heap.size, 0, none⟩) 1 1, .slice D2 (n - j) (c - j)]
      rw [z1] at bx
      have a1 := ((ha1.below u1 hW).more (Nat.le_trans hW u1.size)).below u2 (Nat.le_refl _)
      have a2 := ((ha2.below u1 hW).more (Nat.le_trans hW u1.size)).below u2 (Nat.le_refl _)
      have a3 := r1'.below u2 (by omega)
      have u3 := u1.trans (u2.mono u1.size)
      generalize (w5.alloc (.cells #[.slice D1 j c, .slice (some ⟨W.heap.size, 0, none⟩) 1 1, .slice D2 (n - j) (c - j)] 22)) = w6 at *
      have hlt := bx.lt
      have := concatRooms (sel3 D1 (some ⟨W.heap.size, 0, none⟩) D2) (sel3 j 1 (n - j)) (sel3 c 1 (c - j)) (sel3 (l.take j) [(x, y, z)] (l.drop j)) 3 3 (W.heap.size + 1) (W.heap.size + 1) w6.drew (by omega) (fun i hi => by
          have : i = 0 ∨ i = 1 ∨ i = 2 := by omega
          rcases this with rfl | rfl | rfl
          · show j ≤ 300; omega
          · show 1 ≤ 300; omega
          · show n - j ≤ 300; omega) (Nat.le_of_lt hlt) hlt (fun i hi => by
          have : i = 0 ∨ i = 1 ∨ i = 2 := by omega
          rcases this with rfl | rfl | rfl
          · exact (a1 : ArrG roomC 3 w6 _ _ _ _).more (by omega)
          · exact (a3 : ArrG roomC 3 w6 _ _ _ _)
          · exact (a2 : ArrG roomC 3 w6 _ _ _ _).more (by omega)) (fun i hi => by
          have : i = 0 ∨ i = 1 ∨ i = 2 := by omega
          rcases this with rfl | rfl | rfl
          · exact bx.cell 0
          · exact bx.cell 1
          · exact bx.cell 2)
      rw [catTo_three] at this
      exact this.mono fun e w' ⟨v, he, hO, hb⟩ => ⟨v, he, hO.less u3.size, (below_drew u3).trans (hb.mono u3.size)⟩
    have HA1 := Lib.hid ha1
    have HA2 := Lib.hid ha2
    have hlt3 := B3.lt
    clear B1 B2 B3 HB ha1 ha2 hD1' hD2' HX1 HX2 HX3 HB0 HA HSZ
    by_cases hgo : j < n ∧ (nthG l j).1 < x
    · obtain ⟨hlt, hX⟩ := hgo
      have HL2 : Hid (∀ t, t < j + 1 → (nthG l t).1 < x) := fun t ht => by
        rcases Nat.lt_succ_iff_lt_or_eq.1 ht with h | h
        · exact HL.out t h
        · rw [h]; exact hX
      rcases hex with ⟨b, off, rfl, hc, _⟩ | h
      · have hlt' : (j : Int) < (n : Int) := by omega
        clear HFin HCC hD1 hD2 HL
        generalize (nthG l j).1 = X at *
        go_wp2
        go_quiet (fail)
        go_wp2
        go_roundw
        case rel => exact ⟨j + 1, by omega, by go_num, HL2, HB1, HB2, HB3, below_drewN HBB.out _⟩
        case measure => simp [intOf]; omega
      · omega
    · rcases hex with ⟨b, off, rfl, hc, hlt⟩ | rfl
      · have HF := Lib.hid (HFin.out (.inr ⟨hlt, by omega⟩))
        have hX : ((nthG l j).1 < x) = False := eq_false (by omega)
        have hlt' : (j : Int) < (n : Int) := by omega
        clear HFin HL hgo
        go_wp2
        go_quiet (fail)
        have e1 : (wr.drewN nq).cell? ⟨w.heap.size, 1, none⟩ = some (.slice (some ⟨b, off, none⟩) n c) := c1
        have f0 : (wr.drewN nq).cell? ⟨w.heap.size + 1, 0, none⟩ = some (.int .i64 x) := d0
        have f1 : (wr.drewN nq).cell? ⟨w.heap.size + 1, 1, none⟩ = some (.int .i64 y) := d1
        have f2 : (wr.drewN nq).cell? ⟨w.heap.size + 1, 2, none⟩ = some (.int .i64 z) := d2
        have G1 : Hid (Box (wr.drewN nq) w.heap.size 24 #[.int .i64 k, .slice (some ⟨b, off, none⟩) n c]) := HB1
        have G3 : Hid (Box (wr.drewN nq) (w.heap.size + 1 + 1) 24 #[.int .i64 0, .slice none 0 0]) := HB3
        have GB : Hid (Below w.heap.size w (wr.drewN nq)) := below_drewN HBB.out nq
        have hlt4 : w.heap.size + 1 + 1 < (wr.drewN nq).heap.size := hlt3
        have HC3 := Lib.hid (HCC.out (wr.drewN nq) HA1.out HA2.out (by omega))
        rw [HF.out] at HC3
        clear c0 c1 d0 d1 d2 HB1 HB2 HB3 HBB hlt3 HCC HA1 HA2 hc
        generalize wr.drewN nq = w3 at *
        go_wp2_with fail
        go_region_held3 (fun w' => w'.cell? ⟨w.heap.size, 1, none⟩ = some (.slice (some ⟨b, off, none⟩) n c) ∧ w'.cell? ⟨w.heap.size + 1, 0, none⟩ = some (.int .i64 x) ∧ w'.cell? ⟨w.heap.size + 1, 1, none⟩ = some (.int .i64 y) ∧ w'.cell? ⟨w.heap.size + 1, 2, none⟩ = some (.int .i64 z))
          (first
            | go_keep
            | exact ⟨(hb4.cell (p := ⟨w.heap.size, 1, none⟩) (by show w.heap.size < _; omega)).trans e1, (hb4.cell (p := ⟨w.heap.size + 1, 0, none⟩) (by show w.heap.size + 1 < _; omega)).trans f0, (hb4.cell (p := ⟨w.heap.size + 1, 1, none⟩) (by show w.heap.size + 1 < _; omega)).trans f1, (hb4.cell (p := ⟨w.heap.size + 1, 2, none⟩) (by show w.heap.size + 1 < _; omega)).trans f2⟩)
          (first
            | (go_at_call 39; refine HC3.out.mono ?_; rintro e w4 ⟨v, rfl, hO, hb4⟩))
        obtain ⟨A4, c4, rfl, hc4, _⟩ := hO.arr roomC_len
        have x1 := G1.out.below hb4 (by omega)
        have x3 := G3.out.below hb4 (by omega)
        have hbe := GB.out.trans (hb4.mono GB.out.size)
        have y0 : w4.cell? ⟨w.heap.size, 0, none⟩ = some (.int .i64 k) := x1.cell 0
        have z0 : w4.cell? ⟨w.heap.size + 1 + 1, 0, none⟩ = some (.int .i64 0) := x3.cell 0
        have z1 : w4.cell? ⟨w.heap.size + 1 + 1, 1, none⟩ = some (.slice none 0 0) := x3.cell 1
        have s0 := x3.soft 0
        have s1 := x3.soft 1
        generalize hlen : (insL (x, y, z) l).length = N at *
        have BX := Lib.hid (x3.set2 (.int .i64 k) (.slice A4 N c4))
        have BO := Lib.hid (((hO.setOther (g := w.heap.size + 1 + 1) hlt4 0 (.int .i64 k)).setOther (g := w.heap.size + 1 + 1) hlt4 1 (.slice A4 N c4)).less (base' := w.heap.size) (by omega))
        have BB := Lib.hid (below_set2 hbe (g := w.heap.size + 1 + 1) (by omega) 0 1 (.int .i64 k) (.slice A4 N c4))
        clear hb4 hO hbe x1 x3 G1 G3 GB HC3 e1 f0 f1 f2 HF hc4 hlen hD1 hD2
        go_wp2
        generalize ((w4.setCell ⟨w.heap.size + 1 + 1, 0, none⟩ (.int .i64 k)).setCell ⟨w.heap.size + 1 + 1, 1, none⟩ (.slice A4 N c4)) = W9 at *
        have q0 : W9.cell? ⟨w.heap.size + 1 + 1, 0, none⟩ = some (.int .i64 k) := BX.out.cell 0
        have q1 : W9.cell? ⟨w.heap.size + 1 + 1, 1, none⟩ = some (.slice A4 N c4) := BX.out.cell 1
        refine bodyPost_ret (v := .agg #[.int .i64 k, .slice A4 N c4]) (by simp [results, Try.results36, go_sem, q0, q1]) rfl ⟨_, rfl, BO.out, BB.out⟩
      · have HF := Lib.hid (HFin.out (.inl rfl))
        clear HFin HL hgo
        go_wp2
        go_quiet (fail)
        have e1 : (wr.drewN nq).cell? ⟨w.heap.size, 1, none⟩ = some (.slice A j c) := c1
        have f0 : (wr.drewN nq).cell? ⟨w.heap.size + 1, 0, none⟩ = some (.int .i64 x) := d0
        have f1 : (wr.drewN nq).cell? ⟨w.heap.size + 1, 1, none⟩ = some (.int .i64 y) := d1
        have f2 : (wr.drewN nq).cell? ⟨w.heap.size + 1, 2, none⟩ = some (.int .i64 z) := d2
        have G1 : Hid (Box (wr.drewN nq) w.heap.size 24 #[.int .i64 k, .slice A j c]) := HB1
        have G3 : Hid (Box (wr.drewN nq) (w.heap.size + 1 + 1) 24 #[.int .i64 0, .slice none 0 0]) := HB3
        have GB : Hid (Below w.heap.size w (wr.drewN nq)) := below_drewN HBB.out nq
        have hlt4 : w.heap.size + 1 + 1 < (wr.drewN nq).heap.size := hlt3
        have HC3 := Lib.hid (HCC.out (wr.drewN nq) HA1.out HA2.out (by omega))
        rw [HF.out] at HC3
        simp only [Nat.sub_self] at HC3
        clear c0 c1 d0 d1 d2 HB1 HB2 HB3 HBB hlt3 HCC HA1 HA2
        generalize wr.drewN nq = w3 at *
        go_wp2_with fail
        go_region_held3 (fun w' => w'.cell? ⟨w.heap.size, 1, none⟩ = some (.slice A j c) ∧ w'.cell? ⟨w.heap.size + 1, 0, none⟩ = some (.int .i64 x) ∧ w'.cell? ⟨w.heap.size + 1, 1, none⟩ = some (.int .i64 y) ∧ w'.cell? ⟨w.heap.size + 1, 2, none⟩ = some (.int .i64 z))
          (first
            | go_keep
            | exact ⟨(hb4.cell (p := ⟨w.heap.size, 1, none⟩) (by show w.heap.size < _; omega)).trans e1, (hb4.cell (p := ⟨w.heap.size + 1, 0, none⟩) (by show w.heap.size + 1 < _; omega)).trans f0, (hb4.cell (p := ⟨w.heap.size + 1, 1, none⟩) (by show w.heap.size + 1 < _; omega)).trans f1, (hb4.cell (p := ⟨w.heap.size + 1, 2, none⟩) (by show w.heap.size + 1 < _; omega)).trans f2⟩)
          (first
            | (go_at_call 39; refine HC3.out.mono ?_; rintro e w4 ⟨v, rfl, hO, hb4⟩))
        obtain ⟨A4, c4, rfl, hc4, _⟩ := hO.arr roomC_len
        have x1 := G1.out.below hb4 (by omega)
        have x3 := G3.out.below hb4 (by omega)
        have hbe := GB.out.trans (hb4.mono GB.out.size)
        have y0 : w4.cell? ⟨w.heap.size, 0, none⟩ = some (.int .i64 k) := x1.cell 0
        have z0 : w4.cell? ⟨w.heap.size + 1 + 1, 0, none⟩ = some (.int .i64 0) := x3.cell 0
        have z1 : w4.cell? ⟨w.heap.size + 1 + 1, 1, none⟩ = some (.slice none 0 0) := x3.cell 1
        have s0 := x3.soft 0
        have s1 := x3.soft 1
        generalize hlen : (insL (x, y, z) l).length = N at *
        have BX := Lib.hid (x3.set2 (.int .i64 k) (.slice A4 N c4))
        have BO := Lib.hid (((hO.setOther (g := w.heap.size + 1 + 1) hlt4 0 (.int .i64 k)).setOther (g := w.heap.size + 1 + 1) hlt4 1 (.slice A4 N c4)).less (base' := w.heap.size) (by omega))
        have BB := Lib.hid (below_set2 hbe (g := w.heap.size + 1 + 1) (by omega) 0 1 (.int .i64 k) (.slice A4 N c4))
        clear hb4 hO hbe x1 x3 G1 G3 GB HC3 e1 f0 f1 f2 HF hc4 hlen hD1 hD2
        go_wp2
        generalize ((w4.setCell ⟨w.heap.size + 1 + 1, 0, none⟩ (.int .i64 k)).setCell ⟨w.heap.size + 1 + 1, 1, none⟩ (.slice A4 N c4)) = W9 at *
        have q0 : W9.cell? ⟨w.heap.size + 1 + 1, 0, none⟩ = some (.int .i64 k) := BX.out.cell 0
        have q1 : W9.cell? ⟨w.heap.size + 1 + 1, 1, none⟩ = some (.slice A4 N c4) := BX.out.cell 1
        refine bodyPost_ret (v := .agg #[.int .i64 k, .slice A4 N c4]) (by simp [results, Try.results36, go_sem, q0, q1]) rfl ⟨_, rfl, BO.out, BB.out⟩
end Go.Proofs.Ytdieokpfkojoiaa
