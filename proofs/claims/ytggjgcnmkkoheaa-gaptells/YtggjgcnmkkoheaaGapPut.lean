/-
  Contracts of gap.put, gap.release and gap.Join.
-/
import Derived.Test.YtggjgcnmkkoheaaGap
import Derived.Test.YtggjgcnmkkoheaaFresh
import Derived.Test.YtggjgcnmkkoheaaRunFn
namespace Go.Proofs.Ytggjgcnmkkoheaa
open Go.RowKit

/-- What put answers where it serves. -/
def PutP (zs : List Int) (w : World) (e : Ending) (w' : World) : Prop := ∃ g, e = .returned (.tuple #[.slice (some ⟨g, 0, none⟩) zs.length zs.length, .int .i64 0]) ∧ w.heap.size ≤ g ∧ Whole .u64 42 w' g zs ∧ Below w.heap.size w w'

set_option maxHeartbeats 1000000 in
theorem put_ok (A : Option Addr) (n c p : Nat) (r b t : Int) (f : Bool) (L : Nat) (zs : List Int) (w : World) (hn : n ≤ 256) (h : hFault r b t f = 0) (hL : 1 + r + b = (L : Int)) (hp : p + L ≤ n) (ha : Arr .u64 w w.heap.size A n zs) :
    Calls Try.prog 52 #[.slice A n c, .int .i64 p, .agg #[.int .i64 r, .int .i64 b, .int .i64 t, .bool f]] w (PutP (putL zs p L (hWord r b t f)) w) := by
  obtain ⟨h1, h2, _⟩ := hFault_ok h
  have hl := ha.1
  have hL0 : 0 < L := by omega
  have hlen : (putL zs p L (hWord r b t f)).length = n := by rw [putL_len (by omega)]; exact hl
  have HW : Hid (∀ w, Calls Try.prog 80 #[.agg #[.int .i64 r, .int .i64 b, .int .i64 t, .bool f]] w fun e w' => e = .returned (.tuple #[.int .u64 (hWord r b t f), .int .i64 0]) ∧ Below w.heap.size w w') := by
    intro w
    have := word_any r b t f w
    rw [h] at this
    unfold wordOr at this
    rw [if_pos h] at this
    exact this
  have HL : Hid (∀ w, Calls Try.prog 47 #[.agg #[.int .i64 r, .int .i64 b, .int .i64 t, .bool f]] w fun e w' => e = .returned (.tuple #[.int .i64 (L : Int), .int .i64 0]) ∧ Below w.heap.size w w') := by
    intro w
    rw [← hL]
    exact lengthOk r b t f w h
  have hwv : (Lit.int .u64 (hWord r b t f)).wf = true := wf_u64.2 ⟨(hWord_wf h).1, by have := (hWord_wf h).2; omega⟩
  unfold PutP
  rw [hlen]
  unfold putL
  generalize hWord r b t f = V at *
  have HA := Lib.hid ha
  have HV := Lib.hid hwv
  clear ha h hwv hlen
  have bx := Box4.new w (.int .i64 r) (.int .i64 b) (.int .i64 t) (.bool f)
  have bw := (Below.refl w.heap.size w).alloc (Nat.le_refl _) (.cells #[.int .i64 r, .int .i64 b, .int .i64 t, .bool f] 24)
  have HX := Lib.hid bx
  have HBW := Lib.hid bw
  clear bx bw
  go_enter Try.func52, Try.ntmps52
  go_wp2_with fail
  refine (HW.out _).mono ?_
  rintro e w1 ⟨rfl, hb1⟩
  have bx := HX.out.below hb1 HX.out.lt
  obtain ⟨c0, c1, c2, c3⟩ := bx.cells
  have HX1 := Lib.hid bx
  have HB1 := Lib.hid (HBW.out.trans (hb1.mono HBW.out.size))
  clear hb1 bx HX HBW
  go_wp2_with fail
  refine (HL.out _).mono ?_
  rintro e w2 ⟨rfl, hb2⟩
  have HB2 := Lib.hid (HB1.out.trans (hb2.mono HB1.out.size))
  have HA2 := Lib.hid ((HA.out.below HB2.out (Nat.le_refl _)).more HB2.out.size)
  clear hb2 HB1 c0 c1 c2 c3 HX1
  go_wp2_with fail
  refine (fill_ok A n c (p : Int) (L : Int) 0 zs w2 hn (by omega) (by omega) (by omega) (by omega) (by decide) HA2.out).mono ?_
  rintro e w3 ⟨rfl, hW3, hb3⟩
  rw [Int.toNat_natCast, Int.toNat_natCast] at hW3
  have hl3 : (splice zs p (List.replicate L (0 : Int))).length = n := by unfold splice; simp; omega
  have hA3 := hW3.arr hW3.lt
  rw [hl3] at hA3
  have HA3 := Lib.hid hA3
  have HB3 := Lib.hid (HB2.out.trans (hb3.mono HB2.out.size))
  clear hb3 HA2 hW3 hA3
  go_wp2_with fail
  refine (store_ok (some ⟨w2.heap.size, 0, none⟩) n n (p : Int) V _ w3 hn (by omega) (by omega) HV.out HA3.out).mono ?_
  rintro e w4 ⟨rfl, hW4, hb4⟩
  rw [Int.toNat_natCast] at hW4
  have HW4 := Lib.hid hW4
  have HB4 := Lib.hid (HB3.out.trans (hb4.mono HB3.out.size))
  clear hb4 hW4
  go_wp2
  go_ret2
  exact ⟨w3.heap.size, rfl, HB3.out.size, HW4.out, HB4.out⟩

set_option maxHeartbeats 400000 in
theorem release_ok (A : Option Addr) (n c p L : Nat) (zs : List Int) (w : World) (hn : n ≤ 256) (hL : 0 < L) (hp : p + L ≤ n) (ha : Arr .u64 w w.heap.size A n zs) :
    Calls Try.prog 49 #[.slice A n c, .agg #[.int .i64 p, .int .i64 L]] w (PutP (putL zs p L (fWord L)) w) := by
  have HP := Lib.hid (fun w ha => put_ok A n c p 0 ((L : Int) - 1) 0 true L zs w hn (fWord_fault hL (by omega)) (by omega) hp ha)
  have HA := Lib.hid ha
  have bw := (Below.refl w.heap.size w).alloc (Nat.le_refl _) (.cells #[.int .i64 p, .int .i64 L] 38)
  have HBW := Lib.hid bw
  unfold PutP at *
  change Hid (∀ w, _ → Calls _ _ _ w fun e w' => ∃ g, e = .returned (.tuple #[.slice (some ⟨g, 0, none⟩) (putL zs p L (fWord L)).length (putL zs p L (fWord L)).length, .int .i64 0]) ∧ w.heap.size ≤ g ∧ Whole .u64 42 w' g (putL zs p L (fWord L)) ∧ Below w.heap.size w w') at HP
  generalize putL zs p L (fWord L) = ys at *
  clear ha bw
  go_enter Try.func49, Try.ntmps49
  go_wp2_with fail
  refine (HP.out _ ((HA.out.below HBW.out (Nat.le_refl _)).more HBW.out.size)).mono ?_
  rintro e w1 ⟨g, rfl, hg, hW, hb⟩
  have HG := Lib.hid (Nat.le_trans HBW.out.size hg)
  have HW := Lib.hid hW
  have HB := Lib.hid (HBW.out.trans (hb.mono HBW.out.size))
  clear hg hW hb
  go_wp2
  go_ret2
  exact ⟨g, rfl, HG.out, HW.out, HB.out⟩
end Go.Proofs.Ytggjgcnmkkoheaa
