/-
  Package young: release.
-/
import Derived.Test.YthdnfocemchgjaaGreatYoungG
namespace Go.Proofs.YthdnfocemchgjaaGreat
open Go.RowKit

theorem splice_app {xs sp : List Int} {p q : Nat} (h : p + q ≤ xs.length) : splice (xs ++ sp) p (List.replicate q (0 : Int)) = splice xs p (List.replicate q 0) ++ sp := by
  unfold splice
  rw [List.take_append_of_le_length (by omega), List.length_replicate, List.drop_append_of_le_length (by omega)]
  simp [List.append_assoc]
theorem empty_app {xs sp : List Int} {p q : Nat} (h : p + q ≤ xs.length) (hq : 0 < q) : (splice (xs ++ sp) p (List.replicate q (0 : Int))).set p (fWord q) = emptyL xs p q ++ sp := by
  rw [splice_app h]
  unfold emptyL putL
  rw [if_neg (by omega), List.set_append_left _ _ (by unfold splice; simp; omega)]

set_option maxRecDepth 8000 in
set_option maxHeartbeats 2000000 in
theorem youngRelease_any (g p L c : Nat) (zs sp : List Int) (r b t : Int) (w : World) (hL : 0 < L) (hp : p + L ≤ zs.length) (h256 : zs.length ≤ 256) (hf : hFault r b t false = 0) (hl : 1 + r + b = (L : Int)) (hc : zs.length ≤ c) (hw : Whole .u64 54 w g (zs ++ sp)) :
    Calls Tryz.prog 26 #[.slice (some ⟨g, p, none⟩) (zs.length - p) (c - p), .agg #[.int .i64 r, .int .i64 b, .int .i64 t, .bool false]] w fun e w' => e = .returned (.int .i64 0) ∧ Whole .u64 54 w' g (emptyL zs p L ++ sp) ∧ Below g w w' := by
  have bx := Lib.hid (Box4.new w (.int .i64 r) (.int .i64 b) (.int .i64 t) (.bool false))
  have b1 := (Below.refl w.heap.size w).alloc (Nat.le_refl _) (.cells #[.int .i64 r, .int .i64 b, .int .i64 t, .bool false] 42)
  have HB1 := Lib.hid (b1.mono (Nat.le_of_lt hw.lt))
  have HW1 := Lib.hid (hw.below b1 hw.lt)
  have HL : Hid (∀ w, Calls Tryz.prog 43 #[.agg #[.int .i64 r, .int .i64 b, .int .i64 t, .bool false]] w fun e w' => e = .returned (.tuple #[.int .i64 (L : Int), .int .i64 0]) ∧ Below w.heap.size w w') := by
    intro w
    rw [← hl]
    exact lengthOk r b t false w hf
  have hfw := fWord_fault (n := L) hL (by omega)
  have hfw2 := (fWord_facts (n := L) hL (by omega)).2.2.2
  have HWD : Hid (∀ w, Calls Tryz.prog 47 #[.agg #[.int .i64 0, .int .i64 ((L : Int) - 1), .int .i64 0, .bool true]] w fun e w' => e = .returned (.tuple #[.int .u64 (fWord L), .int .i64 0]) ∧ Below w.heap.size w w') := by
    intro w
    have := word_any 0 ((L : Int) - 1) 0 true w
    rw [hfw] at this
    unfold wordOr at this
    rw [if_pos hfw] at this
    exact this
  have HV := Lib.hid hfw2
  have HEQ := Lib.hid (empty_app (sp := sp) hp hL)
  have hwr : IntKind.i64.wrap ((L : Int) - 1) = (L : Int) - 1 := IntWalk.i64_in _ (by omega)
  obtain ⟨D, hs1, hD⟩ := run_upto (P := Tryz.prog) Tryz.underlying22 u64_one (some ⟨g, p, none⟩) (zs.length - p) (c - p) L (L : Int) rfl (by omega)
  obtain rfl := hD _ _ rfl
  clear hD hfw hfw2 hl b1 hf
  generalize fWord L = V at *
  generalize emptyL zs p L = ys at *
  have HWL : Hid ((splice (zs ++ sp) p (List.replicate L (0 : Int))).length = (zs ++ sp).length) := by show _ = _; unfold splice; simp; omega
  have HCLR := Lib.hid (fun (wx : World) (hx : Whole .u64 54 wx g (zs ++ sp)) => clear_whole (P := Tryz.prog) (sT := 22) (ty := 0) (elem := 54) (o := p) (n := L) (c := c - p) hx Tryz.underlying22 (fun _ => by kernel_rfl) hL (by rw [List.length_append]; omega))
  have hpl : p < (zs ++ sp).length := by rw [List.length_append]; omega
  have hn0 : 0 < zs.length - p := by omega
  have hn1 : (0 : Int) < ((zs.length - p : Nat) : Int) := by omega
  obtain ⟨q, hq⟩ : ∃ q, zs.length - p = q := ⟨_, rfl⟩
  rw [hq] at hs1 hn0 hn1 ⊢
  clear hq hw
  go_enter Tryz.func26, Tryz.ntmps26
  go_wp2_with fail
  generalize (w.alloc (.cells #[.int .i64 r, .int .i64 b, .int .i64 t, .bool false] 42)) = w1 at *
  obtain ⟨c0, c1, c2, c3⟩ := bx.out.cells
  go_wp2_with fail
  refine (HL.out _).mono ?_
  rintro e w2 ⟨rfl, b2⟩
  have HW2 := Lib.hid (HW1.out.below b2 HW1.out.lt)
  have HB2 := Lib.hid (HB1.out.trans (b2.mono (Nat.le_of_lt HW1.out.lt)))
  clear b2 c0 c1 c2 c3 bx HW1 HB1
  go_wp2_with fail
  refine (HWD.out _).mono ?_
  rintro e w3 ⟨rfl, b3⟩
  have HW3 := Lib.hid (HW2.out.below b3 HW2.out.lt)
  have HB3 := Lib.hid (HB2.out.trans (b3.mono (Nat.le_of_lt HW2.out.lt)))
  clear b3 HW2 HB2
  obtain ⟨w4, hcl, hW4, b4, _⟩ := HCLR.out w3 HW3.out
  have HB4 := Lib.hid (HB3.out.trans b4)
  have hc0 := hW4.frozen p
  have hc1 := hW4.cell (j := p) (by rw [HWL.out]; exact hpl)
  have HW4 := Lib.hid hW4
  clear hW4 b4 HW3 HB3 HCLR
  go_wp2
  go_ret
  have hW5 := HW4.out.set_ p V HV.out
  rw [HEQ.out] at hW5
  exact ⟨rfl, hW5, below_set HB4.out (Nat.le_refl _) p _⟩
end Go.Proofs.YthdnfocemchgjaaGreat
