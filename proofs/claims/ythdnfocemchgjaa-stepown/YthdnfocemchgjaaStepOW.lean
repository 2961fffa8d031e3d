/-
  The walk of StepOwn, given what young's Write and Grow answer ('YWriteC', 'YGrowC'). Written by wip/gens/stepown.py.
-/
import Derived.Test.YthdnfocemchgjaaStepH
import Derived.Test.YthdnfocemchgjaaStepI
import Derived.Test.YthdnfocemchgjaaStepK
import Derived.Test.YthdnfocemchgjaaYoungN
import Derived.Test.YthdnfocemchgjaaYoungI
import Derived.Test.YthdnfocemchgjaaCloneK
import Derived.Test.YthdnfocemchgjaaCloneF
import Derived.OpenShut
namespace Go.Proofs.Ythdnfocemchgjaa
open Go.RowKit

/-- What is left as it was: six slices are compared with their copies. -/
theorem stepSame_any (S0 S1 S2 S3 S4 S5 T0 T1 T2 T3 T4 T5 : Option Addr) (n0 n1 n2 n3 n4 n5 c0 c1 c2 c3 c4 c5 e0 e1 e2 e3 e4 e5 gX gY g0 g1 g2 g3 g4 g5 B : Nat) (z0 z1 z2 z3 z4 z5 : List Int) (w : World) (hn : n0 ≤ maxLen ∧ n1 ≤ maxLen ∧ n2 ≤ maxLen ∧ n3 ≤ maxLen ∧ n4 ≤ maxLen ∧ n5 ≤ maxLen)
    (x0 : w.cell? ⟨gX, 0, none⟩ = some (.slice S0 n0 c0)) (y0 : w.cell? ⟨g0, 0, none⟩ = some (.slice T0 n0 e0))
    (x1 : w.cell? ⟨gX, 1, none⟩ = some (.slice S1 n1 c1)) (y1 : w.cell? ⟨g1, 0, none⟩ = some (.slice T1 n1 e1))
    (x2 : w.cell? ⟨gX, 2, none⟩ = some (.slice S2 n2 c2)) (y2 : w.cell? ⟨g2, 0, none⟩ = some (.slice T2 n2 e2))
    (x3 : w.cell? ⟨gY, 0, none⟩ = some (.slice S3 n3 c3)) (y3 : w.cell? ⟨g3, 0, none⟩ = some (.slice T3 n3 e3))
    (x4 : w.cell? ⟨gY, 1, none⟩ = some (.slice S4 n4 c4)) (y4 : w.cell? ⟨g4, 0, none⟩ = some (.slice T4 n4 e4))
    (x5 : w.cell? ⟨gY, 2, none⟩ = some (.slice S5 n5 c5)) (y5 : w.cell? ⟨g5, 0, none⟩ = some (.slice T5 n5 e5))
    (a0 : Arr .u64 w B S0 n0 z0) (b0 : Arr .u64 w B T0 n0 z0) (a1 : Arr .i64 w B S1 n1 z1) (b1 : Arr .i64 w B T1 n1 z1) (a2 : Arr .i64 w B S2 n2 z2) (b2 : Arr .i64 w B T2 n2 z2) (a3 : Arr .u64 w B S3 n3 z3) (b3 : Arr .u64 w B T3 n3 z3) (a4 : Arr .i64 w B S4 n4 z4) (b4 : Arr .i64 w B T4 n4 z4) (a5 : Arr .i64 w B S5 n5 z5) (b5 : Arr .i64 w B T5 n5 z5) :
    Calls Try.prog 26 #[.pointer (some ⟨gX, 0, none⟩), .pointer (some ⟨g0, 0, none⟩), .pointer (some ⟨g1, 0, none⟩), .pointer (some ⟨g2, 0, none⟩), .pointer (some ⟨gY, 0, none⟩), .pointer (some ⟨g3, 0, none⟩), .pointer (some ⟨g4, 0, none⟩), .pointer (some ⟨g5, 0, none⟩)] w fun e w' => e = .returned (.bool true) ∧ ∃ q, w.drewN q = w' := by
  obtain ⟨h0, h1, h2, h3, h4, h5⟩ := hn
  have HE0 := Lib.hid (fun x => equalWords S0 T0 n0 n0 c0 e0 B z0 z0 (w.drewN x) (a0.drewN x) (b0.drewN x) h0 h0)
  rw [show decide (z0 = z0) = true by simp] at HE0
  have HE1 := Lib.hid (fun x => equalInts S1 T1 n1 n1 c1 e1 B z1 z1 (w.drewN x) (a1.drewN x) (b1.drewN x) h1 h1)
  rw [show decide (z1 = z1) = true by simp] at HE1
  have HE2 := Lib.hid (fun x => equalInts S2 T2 n2 n2 c2 e2 B z2 z2 (w.drewN x) (a2.drewN x) (b2.drewN x) h2 h2)
  rw [show decide (z2 = z2) = true by simp] at HE2
  have HE3 := Lib.hid (fun x => equalWords S3 T3 n3 n3 c3 e3 B z3 z3 (w.drewN x) (a3.drewN x) (b3.drewN x) h3 h3)
  rw [show decide (z3 = z3) = true by simp] at HE3
  have HE4 := Lib.hid (fun x => equalInts S4 T4 n4 n4 c4 e4 B z4 z4 (w.drewN x) (a4.drewN x) (b4.drewN x) h4 h4)
  rw [show decide (z4 = z4) = true by simp] at HE4
  have HE5 := Lib.hid (fun x => equalInts S5 T5 n5 n5 c5 e5 B z5 z5 (w.drewN x) (a5.drewN x) (b5.drewN x) h5 h5)
  rw [show decide (z5 = z5) = true by simp] at HE5
  clear a0 a1 a2 a3 a4 a5 b0 b1 b2 b3 b4 b5 h0 h1 h2 h3 h4 h5
  go_enter Try.func26, Try.ntmps26
  go_wp2_with fail
  refine (HE0.out 0).mono ?_
  rintro e w0 ⟨rfl, q0, rfl⟩
  go_wp2_with fail
  refine (HE1.out q0).mono ?_
  rintro e w1 ⟨rfl, q1, rfl⟩
  go_wp2_with fail
  refine (HE2.out (q0 + q1)).mono ?_
  rintro e w2 ⟨rfl, q2, rfl⟩
  go_wp2_with fail
  refine (HE3.out ((q0 + q1) + q2)).mono ?_
  rintro e w3 ⟨rfl, q3, rfl⟩
  go_wp2_with fail
  refine (HE4.out (((q0 + q1) + q2) + q3)).mono ?_
  rintro e w4 ⟨rfl, q4, rfl⟩
  go_wp2_with fail
  refine (HE5.out ((((q0 + q1) + q2) + q3) + q4)).mono ?_
  rintro e w5 ⟨rfl, q5, rfl⟩
  go_wp2
  go_ret
  exact ⟨rfl, _, rfl⟩

/-- What holds while StepOwn writes into what was told. -/
structure StO (W : World) (B0 B1 B2 B3 D0 D1 D2 D3 D4 D5 D6 D7 : Option Addr) (b0 b1 b2 b3 d0 d1 d2 d3 d4 d5 d6 d7 : Nat) (k0 k1 k2 k3 : Nat) (u0 u1 u2 u3 : Array Value) (wr : World) : Prop where
  below : Below W.heap.size W wr
  x0 : Box wr k0 53 u0
  x1 : Box wr k1 53 u1
  x2 : Box wr k2 25 u2
  x3 : Box wr k3 25 u3
  i0 : SpareI .u64 55 W.heap.size wr B0 b0
  i1 : SpareI .u64 55 W.heap.size wr B1 b1
  i2 : SpareI .u64 55 W.heap.size wr B2 b2
  i3 : SpareI .u64 55 W.heap.size wr B3 b3
  j0 : SpareI .i64 3 W.heap.size wr D0 d0
  j1 : SpareI .i64 3 W.heap.size wr D1 d1
  j2 : SpareI .i64 3 W.heap.size wr D2 d2
  j3 : SpareI .i64 3 W.heap.size wr D3 d3
  j4 : SpareI .i64 3 W.heap.size wr D4 d4
  j5 : SpareI .i64 3 W.heap.size wr D5 d5
  j6 : SpareI .i64 3 W.heap.size wr D6 d6
  j7 : SpareI .i64 3 W.heap.size wr D7 d7
structure StT (W : World) (D0 D1 D2 D3 D4 D5 D6 D7 : Option Addr) (d0 d1 d2 d3 d4 d5 d6 d7 : Nat) (wr : World) : Prop where
  below : Below W.heap.size W wr
  j0 : SpareI .i64 3 W.heap.size wr D0 d0
  j1 : SpareI .i64 3 W.heap.size wr D1 d1
  j2 : SpareI .i64 3 W.heap.size wr D2 d2
  j3 : SpareI .i64 3 W.heap.size wr D3 d3
  j4 : SpareI .i64 3 W.heap.size wr D4 d4
  j5 : SpareI .i64 3 W.heap.size wr D5 d5
  j6 : SpareI .i64 3 W.heap.size wr D6 d6
  j7 : SpareI .i64 3 W.heap.size wr D7 d7
section
variable {W wr : World} {B0 B1 B2 B3 D0 D1 D2 D3 D4 D5 D6 D7 : Option Addr} {b0 b1 b2 b3 d0 d1 d2 d3 d4 d5 d6 d7 k0 k1 k2 k3 g : Nat} {u0 u1 u2 u3 : Array Value}
theorem boxW {w : World} {g g' : Nat} {t e : TypeId} {k : IntKind} {cs : Array Value} {xs : List Int} (h : Box w g t cs) (hW : Whole k e w g' xs) (ht : t ≠ e) (j : Nat) (d : Value) : Box (w.setCell ⟨g', j, none⟩ d) g t cs := by
  have hne : g ≠ g' := by
    rintro rfl
    have h5 := h.symm.trans hW.1
    injection h5 with h5
    injection h5 with _ h6
    exact ht h6
  exact h.setOffJ hne j d
theorem StO.set {xs : List Int} (h : StO W B0 B1 B2 B3 D0 D1 D2 D3 D4 D5 D6 D7 b0 b1 b2 b3 d0 d1 d2 d3 d4 d5 d6 d7 k0 k1 k2 k3 u0 u1 u2 u3 wr) (hg : W.heap.size ≤ g) (hW : Whole .u64 55 wr g xs) (j : Nat) (z : Int) (hz : (Lit.int .u64 z).wf = true) : StO W B0 B1 B2 B3 D0 D1 D2 D3 D4 D5 D6 D7 b0 b1 b2 b3 d0 d1 d2 d3 d4 d5 d6 d7 k0 k1 k2 k3 u0 u1 u2 u3 (wr.setCell ⟨g, j, none⟩ (.int .u64 z)) :=
  ⟨below_set h.below hg _ _, boxW h.x0 hW (by decide) j _, boxW h.x1 hW (by decide) j _, boxW h.x2 hW (by decide) j _, boxW h.x3 hW (by decide) j _, h.i0.set g j z hz, h.i1.set g j z hz, h.i2.set g j z hz, h.i3.set g j z hz, h.j0.other hW (by decide) j _, h.j1.other hW (by decide) j _, h.j2.other hW (by decide) j _, h.j3.other hW (by decide) j _, h.j4.other hW (by decide) j _, h.j5.other hW (by decide) j _, h.j6.other hW (by decide) j _, h.j7.other hW (by decide) j _⟩
theorem StT.set (h : StT W D0 D1 D2 D3 D4 D5 D6 D7 d0 d1 d2 d3 d4 d5 d6 d7 wr) (hg : W.heap.size ≤ g) (j : Nat) (z : Int) (hz : (Lit.int .i64 z).wf = true) : StT W D0 D1 D2 D3 D4 D5 D6 D7 d0 d1 d2 d3 d4 d5 d6 d7 (wr.setCell ⟨g, j, none⟩ (.int .i64 z)) :=
  ⟨below_set h.below hg _ _, h.j0.set g j z hz, h.j1.set g j z hz, h.j2.set g j z hz, h.j3.set g j z hz, h.j4.set g j z hz, h.j5.set g j z hz, h.j6.set g j z hz, h.j7.set g j z hz⟩
end
theorem four_slices : Try.prog.underlying 61 = some (.array 4 22) := by kernel_rfl
theorem eight_ints : Try.prog.underlying 62 = some (.array 8 23) := by kernel_rfl
theorem pickF0 (A0 A1 A2 A3 : Option Addr) (m0 m1 m2 m3 e0 e1 e2 e3 : Nat) (wx : World) : Sem.run Try.prog (Instr.index 61 (.agg #[.slice A0 m0 e0, .slice A1 m1 e1, .slice A2 m2 e2, .slice A3 m3 e3]) (.int .i64 0)) wx = .ok (.slice A0 m0 e0) wx := by
  simp [Instr.index, run_underlying four_slices, asIntOf, go_sem]
theorem pickF1 (A0 A1 A2 A3 : Option Addr) (m0 m1 m2 m3 e0 e1 e2 e3 : Nat) (wx : World) : Sem.run Try.prog (Instr.index 61 (.agg #[.slice A0 m0 e0, .slice A1 m1 e1, .slice A2 m2 e2, .slice A3 m3 e3]) (.int .i64 1)) wx = .ok (.slice A1 m1 e1) wx := by
  simp [Instr.index, run_underlying four_slices, asIntOf, go_sem]
theorem pickF2 (A0 A1 A2 A3 : Option Addr) (m0 m1 m2 m3 e0 e1 e2 e3 : Nat) (wx : World) : Sem.run Try.prog (Instr.index 61 (.agg #[.slice A0 m0 e0, .slice A1 m1 e1, .slice A2 m2 e2, .slice A3 m3 e3]) (.int .i64 2)) wx = .ok (.slice A2 m2 e2) wx := by
  simp [Instr.index, run_underlying four_slices, asIntOf, go_sem]
theorem pickF3 (A0 A1 A2 A3 : Option Addr) (m0 m1 m2 m3 e0 e1 e2 e3 : Nat) (wx : World) : Sem.run Try.prog (Instr.index 61 (.agg #[.slice A0 m0 e0, .slice A1 m1 e1, .slice A2 m2 e2, .slice A3 m3 e3]) (.int .i64 3)) wx = .ok (.slice A3 m3 e3) wx := by
  simp [Instr.index, run_underlying four_slices, asIntOf, go_sem]
theorem pickE0 (A0 A1 A2 A3 A4 A5 A6 A7 : Option Addr) (m0 m1 m2 m3 m4 m5 m6 m7 e0 e1 e2 e3 e4 e5 e6 e7 : Nat) (wx : World) : Sem.run Try.prog (Instr.index 62 (.agg #[.slice A0 m0 e0, .slice A1 m1 e1, .slice A2 m2 e2, .slice A3 m3 e3, .slice A4 m4 e4, .slice A5 m5 e5, .slice A6 m6 e6, .slice A7 m7 e7]) (.int .i64 0)) wx = .ok (.slice A0 m0 e0) wx := by
  simp [Instr.index, run_underlying eight_ints, asIntOf, go_sem]
theorem pickE1 (A0 A1 A2 A3 A4 A5 A6 A7 : Option Addr) (m0 m1 m2 m3 m4 m5 m6 m7 e0 e1 e2 e3 e4 e5 e6 e7 : Nat) (wx : World) : Sem.run Try.prog (Instr.index 62 (.agg #[.slice A0 m0 e0, .slice A1 m1 e1, .slice A2 m2 e2, .slice A3 m3 e3, .slice A4 m4 e4, .slice A5 m5 e5, .slice A6 m6 e6, .slice A7 m7 e7]) (.int .i64 1)) wx = .ok (.slice A1 m1 e1) wx := by
  simp [Instr.index, run_underlying eight_ints, asIntOf, go_sem]
theorem pickE2 (A0 A1 A2 A3 A4 A5 A6 A7 : Option Addr) (m0 m1 m2 m3 m4 m5 m6 m7 e0 e1 e2 e3 e4 e5 e6 e7 : Nat) (wx : World) : Sem.run Try.prog (Instr.index 62 (.agg #[.slice A0 m0 e0, .slice A1 m1 e1, .slice A2 m2 e2, .slice A3 m3 e3, .slice A4 m4 e4, .slice A5 m5 e5, .slice A6 m6 e6, .slice A7 m7 e7]) (.int .i64 2)) wx = .ok (.slice A2 m2 e2) wx := by
  simp [Instr.index, run_underlying eight_ints, asIntOf, go_sem]
theorem pickE3 (A0 A1 A2 A3 A4 A5 A6 A7 : Option Addr) (m0 m1 m2 m3 m4 m5 m6 m7 e0 e1 e2 e3 e4 e5 e6 e7 : Nat) (wx : World) : Sem.run Try.prog (Instr.index 62 (.agg #[.slice A0 m0 e0, .slice A1 m1 e1, .slice A2 m2 e2, .slice A3 m3 e3, .slice A4 m4 e4, .slice A5 m5 e5, .slice A6 m6 e6, .slice A7 m7 e7]) (.int .i64 3)) wx = .ok (.slice A3 m3 e3) wx := by
  simp [Instr.index, run_underlying eight_ints, asIntOf, go_sem]
theorem pickE4 (A0 A1 A2 A3 A4 A5 A6 A7 : Option Addr) (m0 m1 m2 m3 m4 m5 m6 m7 e0 e1 e2 e3 e4 e5 e6 e7 : Nat) (wx : World) : Sem.run Try.prog (Instr.index 62 (.agg #[.slice A0 m0 e0, .slice A1 m1 e1, .slice A2 m2 e2, .slice A3 m3 e3, .slice A4 m4 e4, .slice A5 m5 e5, .slice A6 m6 e6, .slice A7 m7 e7]) (.int .i64 4)) wx = .ok (.slice A4 m4 e4) wx := by
  simp [Instr.index, run_underlying eight_ints, asIntOf, go_sem]
theorem pickE5 (A0 A1 A2 A3 A4 A5 A6 A7 : Option Addr) (m0 m1 m2 m3 m4 m5 m6 m7 e0 e1 e2 e3 e4 e5 e6 e7 : Nat) (wx : World) : Sem.run Try.prog (Instr.index 62 (.agg #[.slice A0 m0 e0, .slice A1 m1 e1, .slice A2 m2 e2, .slice A3 m3 e3, .slice A4 m4 e4, .slice A5 m5 e5, .slice A6 m6 e6, .slice A7 m7 e7]) (.int .i64 5)) wx = .ok (.slice A5 m5 e5) wx := by
  simp [Instr.index, run_underlying eight_ints, asIntOf, go_sem]
theorem pickE6 (A0 A1 A2 A3 A4 A5 A6 A7 : Option Addr) (m0 m1 m2 m3 m4 m5 m6 m7 e0 e1 e2 e3 e4 e5 e6 e7 : Nat) (wx : World) : Sem.run Try.prog (Instr.index 62 (.agg #[.slice A0 m0 e0, .slice A1 m1 e1, .slice A2 m2 e2, .slice A3 m3 e3, .slice A4 m4 e4, .slice A5 m5 e5, .slice A6 m6 e6, .slice A7 m7 e7]) (.int .i64 6)) wx = .ok (.slice A6 m6 e6) wx := by
  simp [Instr.index, run_underlying eight_ints, asIntOf, go_sem]
theorem pickE7 (A0 A1 A2 A3 A4 A5 A6 A7 : Option Addr) (m0 m1 m2 m3 m4 m5 m6 m7 e0 e1 e2 e3 e4 e5 e6 e7 : Nat) (wx : World) : Sem.run Try.prog (Instr.index 62 (.agg #[.slice A0 m0 e0, .slice A1 m1 e1, .slice A2 m2 e2, .slice A3 m3 e3, .slice A4 m4 e4, .slice A5 m5 e5, .slice A6 m6 e6, .slice A7 m7 e7]) (.int .i64 7)) wx = .ok (.slice A7 m7 e7) wx := by
  simp [Instr.index, run_underlying eight_ints, asIntOf, go_sem]
/-- The copies are what is copied. -/
def goodP (za zb zc : List Int) (B : Nat) : Nat → Value → World → Prop
  | 0 => fun v w => OwnF .u64 55 w B v za
  | 1 => fun v w => OwnF .i64 3 w B v zb
  | _ => fun v w => OwnF .i64 3 w B v zc
def tyP : Nat → TypeId
  | 0 => 22
  | _ => 23
theorem OwnF.otherP {k : IntKind} {e t : TypeId} {w : World} {base g : Nat} {v x : Value} {xs : List Int} (h : OwnF k e w base v xs) (hB : Box w g t #[x]) (ht : t ≠ e) (d : Value) : OwnF k e (w.setCell ⟨g, 0, none⟩ d) base v xs := by
  rcases h with h | ⟨g', c, sp, h1, h2, h3, h4, hW⟩
  · exact .inl h
  · refine .inr ⟨g', c, sp, h1, h2, h3, h4, ?_, hW.2⟩
    have hne : g ≠ g' := by
      rintro rfl
      have h5 := hB.symm.trans hW.1
      injection h5 with h5
      injection h5 with _ h6
      exact ht h6
    rw [← hW.1]
    show (w.heap.modify g _)[g']? = _
    rw [Array.getElem?_modify, if_neg hne]
theorem stayP (za zb zc : List Int) (B : Nat) : Stays (goodP za zb zc B) tyP :=
  ⟨fun i v w w' h hb => by
    rcases i with _ | _ | i
    · exact OwnF.below h hb (Nat.le_refl _)
    · exact OwnF.below h hb (Nat.le_refl _)
    · exact OwnF.below h hb (Nat.le_refl _), fun i j g x v w d h hB => by
    rcases i with _ | _ | i <;> rcases j with _ | j
    · exact OwnF.otherP h hB (by decide) d
    · exact OwnF.otherP h hB (show 23 ≠ 55 by decide) d
    · exact OwnF.otherP h hB (by decide) d
    · exact OwnF.otherP h hB (show 23 ≠ 3 by decide) d
    · exact OwnF.otherP h hB (by decide) d
    · exact OwnF.otherP h hB (show 23 ≠ 3 by decide) d⟩

set_option maxRecDepth 16000 in
set_option maxHeartbeats 16000000 in
theorem stepOwn_of (hYW : YWriteC) (hYG : YGrowC) (S0 S1 S2 S3 S4 S5 : Option Addr) (n0 n1 n2 n3 n4 n5 c0 c1 c2 c3 c4 c5 : Nat) (z0 z1 z2 z3 z4 z5 : List Int) (a r z : Int) (w : World) (h0 : TriIn w S0 S1 S2 n0 c0 n1 n2 z0 z1 z2) (h1 : AgesIn w S3 S4 S5 n3 c3 n4 c4 n5 c5 z3 z4 z5)
    (hs : n0 * 8 ≤ 140737488351232 ∧ n1 * 8 ≤ 140737488351232 ∧ n2 * 8 ≤ 140737488351232 ∧ n3 * 8 ≤ 140737488351232 ∧ n4 * 8 ≤ 140737488351232 ∧ n5 * 8 ≤ 140737488351232) (wa : (Lit.int .i64 a).wf = true) (wr : (Lit.int .i64 r).wf = true) (wz : (Lit.int .i64 z).wf = true) :
    Calls Try.prog 6 #[.agg #[.slice S0 n0 c0, .slice S1 n1 c1, .slice S2 n2 c2], .agg #[.slice S3 n3 c3, .slice S4 n4 c4, .slice S5 n5 c5], .int .i64 a, .int .i64 r, .int .i64 z] w fun e w' => e = .returned (.bool true) ∧ Below w.heap.size w w' := by
  obtain ⟨s0, s1, s2, s3, s4, s5⟩ := hs
  have HA0 := Lib.hid h0.arena
  have HN0 := Lib.hid s0
  have HA1 := Lib.hid h0.grey
  have HN1 := Lib.hid s1
  have HA2 := Lib.hid h0.blk
  have HN2 := Lib.hid s2
  have HA3 := Lib.hid h1.tri.arena
  have HN3 := Lib.hid s3
  have HA4 := Lib.hid h1.tri.grey
  have HN4 := Lib.hid s4
  have HA5 := Lib.hid h1.tri.blk
  have HN5 := Lib.hid s5
  have HT0 := Lib.hid h0
  have HT1 := Lib.hid h1
  have HM : Hid (n0 ≤ maxLen ∧ n1 ≤ maxLen ∧ n2 ≤ maxLen ∧ n3 ≤ maxLen ∧ n4 ≤ maxLen ∧ n5 ≤ maxLen) := by refine ⟨?_, ?_, ?_, ?_, ?_, ?_⟩ <;> (unfold maxLen; omega)
  have HST := Lib.hid (fun wx (hb : Below w.heap.size w wx) => stepStepF_any S0 S1 S2 n0 c0 n1 c1 n2 c2 z0 z1 z2 wx (h0.next hb))
  have HSW := Lib.hid (fun wx (hb : Below w.heap.size w wx) => stepWriteF_any S0 S1 S2 n0 c0 n1 c1 n2 c2 z0 z1 z2 a r z wx wa wz (h0.next hb))
  have HYW := Lib.hid (fun wx (hb : Below w.heap.size w wx) => hYW S3 S4 S5 n3 c3 n4 c4 n5 c5 z3 z4 z5 a r z wx wa wr wz (h1.next hb))
  have HYG := Lib.hid (fun wx (hb : Below w.heap.size w wx) => hYG S3 S4 S5 none n3 c3 n4 c4 n5 c5 0 0 z3 z4 z5 [] wx (h1.next hb) (by omega) Arr.zero)
  have y0 := (Box.new w 53 #[.slice S0 n0 c0, .slice S1 n1 c1, .slice S2 n2 c2]).alloc (.cells #[.slice S3 n3 c3, .slice S4 n4 c4, .slice S5 n5 c5] 25)
  have y1 := Box.new (w.alloc (.cells #[.slice S0 n0 c0, .slice S1 n1 c1, .slice S2 n2 c2] 53)) 25 #[.slice S3 n3 c3, .slice S4 n4 c4, .slice S5 n5 c5]
  have e1 : (w.alloc (.cells #[.slice S0 n0 c0, .slice S1 n1 c1, .slice S2 n2 c2] 53)).heap.size = w.heap.size + 1 := by simp
  rw [e1] at y1
  have b1 := (Below.refl w.heap.size w).alloc (Nat.le_refl _) (.cells #[.slice S0 n0 c0, .slice S1 n1 c1, .slice S2 n2 c2] 53)
  have HB0 := Lib.hid (b1.alloc b1.size (.cells #[.slice S3 n3 c3, .slice S4 n4 c4, .slice S5 n5 c5] 25))
  have HY0 := Lib.hid y0
  have HY1 := Lib.hid y1
  clear h0 h1 hYW hYG s0 s1 s2 s3 s4 s5 wa wr wz y0 y1 e1 b1
  go_enter Try.func6, Try.ntmps6
  go_wp2_with fail
  refine (threes_any _).mono ?_
  rintro e w1 ⟨rfl, b1⟩
  have HB1 := Lib.hid (bthen HB0.out b1)
  have HZ0 := Lib.hid (HY0.out.below b1 HY0.out.lt)
  have HZ1 := Lib.hid (HY1.out.below b1 HY1.out.lt)
  have z00 : w1.cell? ⟨w.heap.size, 0, none⟩ = some (.slice S0 n0 c0) := HZ0.out.cell 0
  have z01 : w1.cell? ⟨w.heap.size, 1, none⟩ = some (.slice S1 n1 c1) := HZ0.out.cell 1
  have z02 : w1.cell? ⟨w.heap.size, 2, none⟩ = some (.slice S2 n2 c2) := HZ0.out.cell 2
  clear b1 HB0 HY0 HY1
  go_wp2_with fail
  refine wp_region_inv (fun listed a' w' => ∃ v11 v12 v13 v36 v37 v38 v39 v40 v41 v42 v43 v44, a' = { tmps := #[.agg #[.slice S0 n0 c0, .slice S1 n1 c1, .slice S2 n2 c2], .agg #[.slice S3 n3 c3, .slice S4 n4 c4, .slice S5 n5 c5], .int .i64 a, .int .i64 r, .int .i64 z, .pointer (some ⟨w.heap.size, 0, none⟩), .pointer (some ⟨w.heap.size + 1, 0, none⟩), undef, undef, undef, .bool false, v11, v12, v13, undef, undef, undef, undef, undef, undef, undef, undef, undef, undef, undef, undef, undef, undef, undef, undef, undef, undef, undef, undef, .bool true, .bool false, v36, v37, v38, v39, v40, v41, v42, v43, v44, undef, undef, undef, undef, undef, undef, undef, undef, undef, undef, undef, undef, undef, undef, undef, undef, undef, undef, undef, undef, undef, undef, undef, undef, undef, undef, undef, undef, undef, undef, undef, undef, undef, undef, undef, undef, undef, undef, undef, undef, undef, undef, undef, undef, undef, undef, undef, undef, undef, undef, undef, undef, undef, undef, undef, undef, undef, undef, undef, undef, undef, undef, undef, undef, undef, undef, undef, undef, undef, undef, undef, undef, undef, undef, undef, undef, undef, undef, undef, undef, undef, undef, undef, undef, undef, undef, undef, undef, undef, undef, undef, undef, undef, undef, undef, undef, undef, undef, undef, undef, undef, undef, undef, undef, undef, undef, undef, undef, undef, undef], defers := [] } ∧ CloneK w1 (w.heap.size) (fn3 (.slice S0 n0 c0) (.slice S1 n1 c1) (.slice S2 n2 c2)) (goodP z0 z1 z2 w1.heap.size) tyP listed (fn3 v36 v39 v42) (fn3 v37 v40 v43) (fn3 v38 v41 v44) (fn3 v11 v12 v13) w') (by kernel_rfl) ⟨_, _, _, _, _, _, _, _, _, _, _, _, rfl, CloneK.start⟩ ?_ ?_
  · rintro listed a' w' ⟨v11, v12, v13, v36, v37, v38, v39, v40, v41, v42, v43, v44, rfl, hJ⟩ i hi
    obtain ⟨hun, o, ho, hd⟩ := mem_ready.1 hi
    have hi8 : i < 15 := (Array.getElem?_eq_some_iff.1 ho).1
    have hst := stayP z0 z1 z2 w1.heap.size
    have hbw : Below w.heap.size w w' := HB1.out.trans (hJ.j.below.mono HB1.out.size)
    rcases (by omega : i = 0 ∨ i = 1 ∨ i = 2 ∨ i = 3 ∨ i = 4 ∨ i = 5 ∨ i = 6 ∨ i = 7 ∨ i = 8 ∨ i = 9 ∨ i = 10 ∨ i = 11 ∨ i = 12 ∨ i = 13 ∨ i = 14) with rfl | rfl | rfl | rfl | rfl | rfl | rfl | rfl | rfl | rfl | rfl | rfl | rfl | rfl | rfl
    · refine wpOp_step rfl fun K' hK => ?_
      go_simp
      exact hK _ _ ⟨_, _, _, _, _, _, _, _, _, _, _, _, rfl, hJ.addr (i := 0) (by omega) rfl (fun j hl hj => by rcases j with _ | _ | _ | j <;> first | rfl | exact absurd rfl hj | omega)⟩
    · have d0 := hd ⟨0, .data⟩ (by obtain rfl := Option.some.inj ho; simp) rfl
      have e0 : v36 = .pointer (some ⟨w.heap.size, 0, none⟩) := hJ.hf 0 (by omega) d0
      subst e0
      have q := (hJ.j.below.cell (p := ⟨w.heap.size, 0, none⟩) HZ0.out.lt).trans z00
      refine wpOp_step rfl fun K' hK => ?_
      go_simp
      exact hK _ _ ⟨_, _, _, _, _, _, _, _, _, _, _, _, rfl, hJ.load (i := 0) (by omega) rfl (fun j hl hj => by rcases j with _ | _ | _ | j <;> first | rfl | exact absurd rfl hj | omega)⟩
    · have d0 := hd ⟨1, .data⟩ (by obtain rfl := Option.some.inj ho; simp) rfl
      have e0 : v37 = .slice S0 n0 c0 := hJ.loaded (i := 0) (by omega) d0
      subst e0
      have nY := hJ.notYet (i := 0) (by omega) (.inr hun)
      have HK := Lib.hid (cloneWordsF S0 n0 c0 z0 w' (by have := HN0.out; omega) (HA0.out.later hbw))
      refine wpOp_step rfl fun K' hK => ?_
      go_simp
      refine HK.out.mono ?_
      rintro e w3 ⟨A3, c3, rfl, hF, b3⟩
      exact hK _ _ ⟨_, _, _, _, _, _, _, _, _, _, _, _, rfl, hJ.call hst (i := 0) (by omega) nY b3 (show OwnF _ _ _ _ _ _ from hF.lessF hJ.j.below.size) (fun j hl hj => by rcases j with _ | _ | _ | j <;> first | rfl | exact absurd rfl hj | omega)⟩
    · refine wpOp_step rfl fun K' hK => ?_
      go_simp
      exact hK _ _ ⟨_, _, _, _, _, _, _, _, _, _, _, _, rfl, hJ.addr (i := 1) (by omega) rfl (fun j hl hj => by rcases j with _ | _ | _ | j <;> first | rfl | exact absurd rfl hj | omega)⟩
    · have d0 := hd ⟨3, .data⟩ (by obtain rfl := Option.some.inj ho; simp) rfl
      have e0 : v39 = .pointer (some ⟨w.heap.size, 1, none⟩) := hJ.hf 1 (by omega) d0
      subst e0
      have q := (hJ.j.below.cell (p := ⟨w.heap.size, 1, none⟩) HZ0.out.lt).trans z01
      refine wpOp_step rfl fun K' hK => ?_
      go_simp
      exact hK _ _ ⟨_, _, _, _, _, _, _, _, _, _, _, _, rfl, hJ.load (i := 1) (by omega) rfl (fun j hl hj => by rcases j with _ | _ | _ | j <;> first | rfl | exact absurd rfl hj | omega)⟩
    · have d0 := hd ⟨4, .data⟩ (by obtain rfl := Option.some.inj ho; simp) rfl
      have e0 : v40 = .slice S1 n1 c1 := hJ.loaded (i := 1) (by omega) d0
      subst e0
      have nY := hJ.notYet (i := 1) (by omega) (.inr hun)
      have HK := Lib.hid (cloneIntsF S1 n1 c1 z1 w' (by have := HN1.out; omega) (HA1.out.later hbw))
      refine wpOp_step rfl fun K' hK => ?_
      go_simp
      refine HK.out.mono ?_
      rintro e w3 ⟨A3, c3, rfl, hF, b3⟩
      exact hK _ _ ⟨_, _, _, _, _, _, _, _, _, _, _, _, rfl, hJ.call hst (i := 1) (by omega) nY b3 (show OwnF _ _ _ _ _ _ from hF.lessF hJ.j.below.size) (fun j hl hj => by rcases j with _ | _ | _ | j <;> first | rfl | exact absurd rfl hj | omega)⟩
    · refine wpOp_step rfl fun K' hK => ?_
      go_simp
      exact hK _ _ ⟨_, _, _, _, _, _, _, _, _, _, _, _, rfl, hJ.addr (i := 2) (by omega) rfl (fun j hl hj => by rcases j with _ | _ | _ | j <;> first | rfl | exact absurd rfl hj | omega)⟩
    · have d0 := hd ⟨6, .data⟩ (by obtain rfl := Option.some.inj ho; simp) rfl
      have e0 : v42 = .pointer (some ⟨w.heap.size, 2, none⟩) := hJ.hf 2 (by omega) d0
      subst e0
      have q := (hJ.j.below.cell (p := ⟨w.heap.size, 2, none⟩) HZ0.out.lt).trans z02
      refine wpOp_step rfl fun K' hK => ?_
      go_simp
      exact hK _ _ ⟨_, _, _, _, _, _, _, _, _, _, _, _, rfl, hJ.load (i := 2) (by omega) rfl (fun j hl hj => by rcases j with _ | _ | _ | j <;> first | rfl | exact absurd rfl hj | omega)⟩
    · have d0 := hd ⟨7, .data⟩ (by obtain rfl := Option.some.inj ho; simp) rfl
      have e0 : v43 = .slice S2 n2 c2 := hJ.loaded (i := 2) (by omega) d0
      subst e0
      have nY := hJ.notYet (i := 2) (by omega) (.inr hun)
      have HK := Lib.hid (cloneIntsF S2 n2 c2 z2 w' (by have := HN2.out; omega) (HA2.out.later hbw))
      refine wpOp_step rfl fun K' hK => ?_
      go_simp
      refine HK.out.mono ?_
      rintro e w3 ⟨A3, c3, rfl, hF, b3⟩
      exact hK _ _ ⟨_, _, _, _, _, _, _, _, _, _, _, _, rfl, hJ.call hst (i := 2) (by omega) nY b3 (show OwnF _ _ _ _ _ _ from hF.lessF hJ.j.below.size) (fun j hl hj => by rcases j with _ | _ | _ | j <;> first | rfl | exact absurd rfl hj | omega)⟩
    · have nY := hJ.notYet (i := 0) (by omega) (.inl hun)
      refine wpOp_step rfl fun K' hK => ?_
      go_simp
      exact hK _ _ ⟨_, _, _, _, _, _, _, _, _, _, _, _, rfl, hJ.make hst (i := 0) (by omega) nY (.slice none 0 0) rfl (fun j hl hj => by rcases j with _ | _ | _ | j <;> first | rfl | exact absurd rfl hj | omega)⟩
    · have nY := hJ.notYet (i := 1) (by omega) (.inl hun)
      refine wpOp_step rfl fun K' hK => ?_
      go_simp
      exact hK _ _ ⟨_, _, _, _, _, _, _, _, _, _, _, _, rfl, hJ.make hst (i := 1) (by omega) nY (.slice none 0 0) rfl (fun j hl hj => by rcases j with _ | _ | _ | j <;> first | rfl | exact absurd rfl hj | omega)⟩
    · have nY := hJ.notYet (i := 2) (by omega) (.inl hun)
      refine wpOp_step rfl fun K' hK => ?_
      go_simp
      exact hK _ _ ⟨_, _, _, _, _, _, _, _, _, _, _, _, rfl, hJ.make hst (i := 2) (by omega) nY (.slice none 0 0) rfl (fun j hl hj => by rcases j with _ | _ | _ | j <;> first | rfl | exact absurd rfl hj | omega)⟩
    · have d6 := hd ⟨9, .data⟩ (by obtain rfl := Option.some.inj ho; simp) rfl
      have d1 := hd ⟨2, .data⟩ (by obtain rfl := Option.some.inj ho; simp) rfl
      obtain ⟨g, x, e0, hg, hB⟩ := hJ.made (i := 0) (by omega) d6
      have e0 : v11 = .pointer (some ⟨g, 0, none⟩) := e0
      subst e0
      obtain ⟨A3, c3, e3, _⟩ := OwnF.arr (hJ.copied (i := 0) (by omega) d1)
      have e3 : v38 = _ := e3
      subst e3
      have t0 : w'.cell? ⟨g, 0, none⟩ = some x := hB.cell 0
      have t1 := hB.soft 0
      refine wpOp_step rfl fun K' hK => ?_
      go_simp
      exact hK _ _ ⟨_, _, _, _, _, _, _, _, _, _, _, _, rfl, hJ.put hst (i := 0) (by omega) rfl hg hB d6 d1⟩
    · have d6 := hd ⟨10, .data⟩ (by obtain rfl := Option.some.inj ho; simp) rfl
      have d1 := hd ⟨5, .data⟩ (by obtain rfl := Option.some.inj ho; simp) rfl
      obtain ⟨g, x, e0, hg, hB⟩ := hJ.made (i := 1) (by omega) d6
      have e0 : v12 = .pointer (some ⟨g, 0, none⟩) := e0
      subst e0
      obtain ⟨A3, c3, e3, _⟩ := OwnF.arr (hJ.copied (i := 1) (by omega) d1)
      have e3 : v41 = _ := e3
      subst e3
      have t0 : w'.cell? ⟨g, 0, none⟩ = some x := hB.cell 0
      have t1 := hB.soft 0
      refine wpOp_step rfl fun K' hK => ?_
      go_simp
      exact hK _ _ ⟨_, _, _, _, _, _, _, _, _, _, _, _, rfl, hJ.put hst (i := 1) (by omega) rfl hg hB d6 d1⟩
    · have d6 := hd ⟨11, .data⟩ (by obtain rfl := Option.some.inj ho; simp) rfl
      have d1 := hd ⟨8, .data⟩ (by obtain rfl := Option.some.inj ho; simp) rfl
      obtain ⟨g, x, e0, hg, hB⟩ := hJ.made (i := 2) (by omega) d6
      have e0 : v13 = .pointer (some ⟨g, 0, none⟩) := e0
      subst e0
      obtain ⟨A3, c3, e3, _⟩ := OwnF.arr (hJ.copied (i := 2) (by omega) d1)
      have e3 : v44 = _ := e3
      subst e3
      have t0 : w'.cell? ⟨g, 0, none⟩ = some x := hB.cell 0
      have t1 := hB.soft 0
      refine wpOp_step rfl fun K' hK => ?_
      go_simp
      exact hK _ _ ⟨_, _, _, _, _, _, _, _, _, _, _, _, rfl, hJ.put hst (i := 2) (by omega) rfl hg hB d6 d1⟩
  · rintro listed a' w' ⟨v11, v12, v13, v36, v37, v38, v39, v40, v41, v42, v43, v44, rfl, hJ⟩ hr
    have hall := all_listed (by rw [hJ.size]; rfl) (by kernel_rfl) hr
    have hD := hJ.done fun j hj => hall j hj
    have r0 : v36 = .pointer (some ⟨w.heap.size, 0, none⟩) := hJ.hf 0 (by omega) (hall 0 (by simp))
    subst r0
    have r1 : v37 = .slice S0 n0 c0 := hJ.loaded (i := 0) (by omega) (hall 1 (by simp))
    subst r1
    obtain ⟨hG0, g0, e0, hg0, hX0⟩ := hD 0 (by omega)
    have e0 : v11 = .pointer (some ⟨g0, 0, none⟩) := e0
    subst e0
    obtain ⟨T0, f0, e0, _, hT0, _⟩ := OwnF.arr hG0
    have e0 : v38 = _ := e0
    subst e0
    have r0 : v39 = .pointer (some ⟨w.heap.size, 1, none⟩) := hJ.hf 1 (by omega) (hall 3 (by simp))
    subst r0
    have r1 : v40 = .slice S1 n1 c1 := hJ.loaded (i := 1) (by omega) (hall 4 (by simp))
    subst r1
    obtain ⟨hG1, g1, e0, hg1, hX1⟩ := hD 1 (by omega)
    have e0 : v12 = .pointer (some ⟨g1, 0, none⟩) := e0
    subst e0
    obtain ⟨T1, f1, e0, _, hT1, _⟩ := OwnF.arr hG1
    have e0 : v41 = _ := e0
    subst e0
    have r0 : v42 = .pointer (some ⟨w.heap.size, 2, none⟩) := hJ.hf 2 (by omega) (hall 6 (by simp))
    subst r0
    have r1 : v43 = .slice S2 n2 c2 := hJ.loaded (i := 2) (by omega) (hall 7 (by simp))
    subst r1
    obtain ⟨hG2, g2, e0, hg2, hX2⟩ := hD 2 (by omega)
    have e0 : v13 = .pointer (some ⟨g2, 0, none⟩) := e0
    subst e0
    obtain ⟨T2, f2, e0, _, hT2, _⟩ := OwnF.arr hG2
    have e0 : v44 = _ := e0
    subst e0
    have hbw := hJ.j.below
    clear hr hall hD hJ hG0 hG1 hG2
    dsimp (config := { zeta := true }) only
    have hl0 := HA0.out.1
    have hl1 := HA1.out.1
    have hl2 := HA2.out.1
    rw [hl0] at hT0 hX0 hX1 hX2 ⊢
    rw [hl1] at hT1 hX0 hX1 hX2 ⊢
    rw [hl2] at hT2 hX0 hX1 hX2 ⊢
    have hX0 : Box w' g0 22 #[.slice T0 n0 f0] := hX0
    have hX1 : Box w' g1 23 #[.slice T1 n1 f1] := hX1
    have hX2 : Box w' g2 23 #[.slice T2 n2 f2] := hX2
    have HB2 := Lib.hid (HB1.out.trans (hbw.mono HB1.out.size))
    have HX0 := Lib.hid hX0
    have HX1 := Lib.hid hX1
    have HX2 := Lib.hid hX2
    have HC0 := Lib.hid hT0
    have HC1 := Lib.hid hT1
    have HC2 := Lib.hid hT2
    have HV0 := Lib.hid (HZ0.out.below hbw HZ0.out.lt)
    have HV1 := Lib.hid (HZ1.out.below hbw HZ1.out.lt)
    clear hX0 hX1 hX2 hT0 hT1 hT2 hbw hg0 hg1 hg2 z00 z01 z02 hl0 hl1 hl2 HB1 HZ0 HZ1
    generalize w' = W1 at *
    have z10 : W1.cell? ⟨w.heap.size + 1, 0, none⟩ = some (.slice S3 n3 c3) := HV1.out.cell 0
    have z11 : W1.cell? ⟨w.heap.size + 1, 1, none⟩ = some (.slice S4 n4 c4) := HV1.out.cell 1
    have z12 : W1.cell? ⟨w.heap.size + 1, 2, none⟩ = some (.slice S5 n5 c5) := HV1.out.cell 2
    go_wp2_with fail
    refine wp_region_inv (fun listed a' w' => ∃ v14 v15 v16 v45 v46 v47 v48 v49 v50 v51 v52 v53, a' = { tmps := #[.agg #[.slice S0 n0 c0, .slice S1 n1 c1, .slice S2 n2 c2], .agg #[.slice S3 n3 c3, .slice S4 n4 c4, .slice S5 n5 c5], .int .i64 a, .int .i64 r, .int .i64 z, .pointer (some ⟨w.heap.size, 0, none⟩), .pointer (some ⟨w.heap.size + 1, 0, none⟩), undef, undef, undef, .bool false, .pointer (some ⟨g0, 0, none⟩), .pointer (some ⟨g1, 0, none⟩), .pointer (some ⟨g2, 0, none⟩), v14, v15, v16, undef, undef, undef, undef, undef, undef, undef, undef, undef, undef, undef, undef, undef, undef, undef, undef, undef, .bool true, .bool false, .pointer (some ⟨w.heap.size, 0, none⟩), .slice S0 n0 c0, .slice T0 n0 f0, .pointer (some ⟨w.heap.size, 1, none⟩), .slice S1 n1 c1, .slice T1 n1 f1, .pointer (some ⟨w.heap.size, 2, none⟩), .slice S2 n2 c2, .slice T2 n2 f2, v45, v46, v47, v48, v49, v50, v51, v52, v53, undef, undef, undef, undef, undef, undef, undef, undef, undef, undef, undef, undef, undef, undef, undef, undef, undef, undef, undef, undef, undef, undef, undef, undef, undef, undef, undef, undef, undef, undef, undef, undef, undef, undef, undef, undef, undef, undef, undef, undef, undef, undef, undef, undef, undef, undef, undef, undef, undef, undef, undef, undef, undef, undef, undef, undef, undef, undef, undef, undef, undef, undef, undef, undef, undef, undef, undef, undef, undef, undef, undef, undef, undef, undef, undef, undef, undef, undef, undef, undef, undef, undef, undef, undef, undef, undef, undef, undef, undef, undef, undef, undef, undef, undef, undef, undef, undef, undef, undef, undef, undef], defers := [] } ∧ CloneK W1 (w.heap.size + 1) (fn3 (.slice S3 n3 c3) (.slice S4 n4 c4) (.slice S5 n5 c5)) (goodP z3 z4 z5 W1.heap.size) tyP listed (fn3 v45 v48 v51) (fn3 v46 v49 v52) (fn3 v47 v50 v53) (fn3 v14 v15 v16) w') (by kernel_rfl) ⟨_, _, _, _, _, _, _, _, _, _, _, _, rfl, CloneK.start⟩ ?_ ?_
    · rintro listed a' w' ⟨v14, v15, v16, v45, v46, v47, v48, v49, v50, v51, v52, v53, rfl, hJ⟩ i hi
      obtain ⟨hun, o, ho, hd⟩ := mem_ready.1 hi
      have hi8 : i < 15 := (Array.getElem?_eq_some_iff.1 ho).1
      have hst := stayP z3 z4 z5 W1.heap.size
      have hbw : Below w.heap.size w w' := HB2.out.trans (hJ.j.below.mono HB2.out.size)
      rcases (by omega : i = 0 ∨ i = 1 ∨ i = 2 ∨ i = 3 ∨ i = 4 ∨ i = 5 ∨ i = 6 ∨ i = 7 ∨ i = 8 ∨ i = 9 ∨ i = 10 ∨ i = 11 ∨ i = 12 ∨ i = 13 ∨ i = 14) with rfl | rfl | rfl | rfl | rfl | rfl | rfl | rfl | rfl | rfl | rfl | rfl | rfl | rfl | rfl
      · refine wpOp_step rfl fun K' hK => ?_
        go_simp
        exact hK _ _ ⟨_, _, _, _, _, _, _, _, _, _, _, _, rfl, hJ.addr (i := 0) (by omega) rfl (fun j hl hj => by rcases j with _ | _ | _ | j <;> first | rfl | exact absurd rfl hj | omega)⟩
      · have d0 := hd ⟨0, .data⟩ (by obtain rfl := Option.some.inj ho; simp) rfl
        have e0 : v45 = .pointer (some ⟨w.heap.size + 1, 0, none⟩) := hJ.hf 0 (by omega) d0
        subst e0
        have q := (hJ.j.below.cell (p := ⟨w.heap.size + 1, 0, none⟩) HV1.out.lt).trans z10
        refine wpOp_step rfl fun K' hK => ?_
        go_simp
        exact hK _ _ ⟨_, _, _, _, _, _, _, _, _, _, _, _, rfl, hJ.load (i := 0) (by omega) rfl (fun j hl hj => by rcases j with _ | _ | _ | j <;> first | rfl | exact absurd rfl hj | omega)⟩
      · have d0 := hd ⟨1, .data⟩ (by obtain rfl := Option.some.inj ho; simp) rfl
        have e0 : v46 = .slice S3 n3 c3 := hJ.loaded (i := 0) (by omega) d0
        subst e0
        have nY := hJ.notYet (i := 0) (by omega) (.inr hun)
        have HK := Lib.hid (cloneWordsF S3 n3 c3 z3 w' (by have := HN3.out; omega) (HA3.out.later hbw))
        refine wpOp_step rfl fun K' hK => ?_
        go_simp
        refine HK.out.mono ?_
        rintro e w3 ⟨A3, c3, rfl, hF, b3⟩
        exact hK _ _ ⟨_, _, _, _, _, _, _, _, _, _, _, _, rfl, hJ.call hst (i := 0) (by omega) nY b3 (show OwnF _ _ _ _ _ _ from hF.lessF hJ.j.below.size) (fun j hl hj => by rcases j with _ | _ | _ | j <;> first | rfl | exact absurd rfl hj | omega)⟩
      · refine wpOp_step rfl fun K' hK => ?_
        go_simp
        exact hK _ _ ⟨_, _, _, _, _, _, _, _, _, _, _, _, rfl, hJ.addr (i := 1) (by omega) rfl (fun j hl hj => by rcases j with _ | _ | _ | j <;> first | rfl | exact absurd rfl hj | omega)⟩
      · have d0 := hd ⟨3, .data⟩ (by obtain rfl := Option.some.inj ho; simp) rfl
        have e0 : v48 = .pointer (some ⟨w.heap.size + 1, 1, none⟩) := hJ.hf 1 (by omega) d0
        subst e0
        have q := (hJ.j.below.cell (p := ⟨w.heap.size + 1, 1, none⟩) HV1.out.lt).trans z11
        refine wpOp_step rfl fun K' hK => ?_
        go_simp
        exact hK _ _ ⟨_, _, _, _, _, _, _, _, _, _, _, _, rfl, hJ.load (i := 1) (by omega) rfl (fun j hl hj => by rcases j with _ | _ | _ | j <;> first | rfl | exact absurd rfl hj | omega)⟩
      · have d0 := hd ⟨4, .data⟩ (by obtain rfl := Option.some.inj ho; simp) rfl
        have e0 : v49 = .slice S4 n4 c4 := hJ.loaded (i := 1) (by omega) d0
        subst e0
        have nY := hJ.notYet (i := 1) (by omega) (.inr hun)
        have HK := Lib.hid (cloneIntsF S4 n4 c4 z4 w' (by have := HN4.out; omega) (HA4.out.later hbw))
        refine wpOp_step rfl fun K' hK => ?_
        go_simp
        refine HK.out.mono ?_
        rintro e w3 ⟨A3, c3, rfl, hF, b3⟩
        exact hK _ _ ⟨_, _, _, _, _, _, _, _, _, _, _, _, rfl, hJ.call hst (i := 1) (by omega) nY b3 (show OwnF _ _ _ _ _ _ from hF.lessF hJ.j.below.size) (fun j hl hj => by rcases j with _ | _ | _ | j <;> first | rfl | exact absurd rfl hj | omega)⟩
      · refine wpOp_step rfl fun K' hK => ?_
        go_simp
        exact hK _ _ ⟨_, _, _, _, _, _, _, _, _, _, _, _, rfl, hJ.addr (i := 2) (by omega) rfl (fun j hl hj => by rcases j with _ | _ | _ | j <;> first | rfl | exact absurd rfl hj | omega)⟩
      · have d0 := hd ⟨6, .data⟩ (by obtain rfl := Option.some.inj ho; simp) rfl
        have e0 : v51 = .pointer (some ⟨w.heap.size + 1, 2, none⟩) := hJ.hf 2 (by omega) d0
        subst e0
        have q := (hJ.j.below.cell (p := ⟨w.heap.size + 1, 2, none⟩) HV1.out.lt).trans z12
        refine wpOp_step rfl fun K' hK => ?_
        go_simp
        exact hK _ _ ⟨_, _, _, _, _, _, _, _, _, _, _, _, rfl, hJ.load (i := 2) (by omega) rfl (fun j hl hj => by rcases j with _ | _ | _ | j <;> first | rfl | exact absurd rfl hj | omega)⟩
      · have d0 := hd ⟨7, .data⟩ (by obtain rfl := Option.some.inj ho; simp) rfl
        have e0 : v52 = .slice S5 n5 c5 := hJ.loaded (i := 2) (by omega) d0
        subst e0
        have nY := hJ.notYet (i := 2) (by omega) (.inr hun)
        have HK := Lib.hid (cloneIntsF S5 n5 c5 z5 w' (by have := HN5.out; omega) (HA5.out.later hbw))
        refine wpOp_step rfl fun K' hK => ?_
        go_simp
        refine HK.out.mono ?_
        rintro e w3 ⟨A3, c3, rfl, hF, b3⟩
        exact hK _ _ ⟨_, _, _, _, _, _, _, _, _, _, _, _, rfl, hJ.call hst (i := 2) (by omega) nY b3 (show OwnF _ _ _ _ _ _ from hF.lessF hJ.j.below.size) (fun j hl hj => by rcases j with _ | _ | _ | j <;> first | rfl | exact absurd rfl hj | omega)⟩
      · have nY := hJ.notYet (i := 0) (by omega) (.inl hun)
        refine wpOp_step rfl fun K' hK => ?_
        go_simp
        exact hK _ _ ⟨_, _, _, _, _, _, _, _, _, _, _, _, rfl, hJ.make hst (i := 0) (by omega) nY (.slice none 0 0) rfl (fun j hl hj => by rcases j with _ | _ | _ | j <;> first | rfl | exact absurd rfl hj | omega)⟩
      · have nY := hJ.notYet (i := 1) (by omega) (.inl hun)
        refine wpOp_step rfl fun K' hK => ?_
        go_simp
        exact hK _ _ ⟨_, _, _, _, _, _, _, _, _, _, _, _, rfl, hJ.make hst (i := 1) (by omega) nY (.slice none 0 0) rfl (fun j hl hj => by rcases j with _ | _ | _ | j <;> first | rfl | exact absurd rfl hj | omega)⟩
      · have nY := hJ.notYet (i := 2) (by omega) (.inl hun)
        refine wpOp_step rfl fun K' hK => ?_
        go_simp
        exact hK _ _ ⟨_, _, _, _, _, _, _, _, _, _, _, _, rfl, hJ.make hst (i := 2) (by omega) nY (.slice none 0 0) rfl (fun j hl hj => by rcases j with _ | _ | _ | j <;> first | rfl | exact absurd rfl hj | omega)⟩
      · have d6 := hd ⟨9, .data⟩ (by obtain rfl := Option.some.inj ho; simp) rfl
        have d1 := hd ⟨2, .data⟩ (by obtain rfl := Option.some.inj ho; simp) rfl
        obtain ⟨g, x, e0, hg, hB⟩ := hJ.made (i := 0) (by omega) d6
        have e0 : v14 = .pointer (some ⟨g, 0, none⟩) := e0
        subst e0
        obtain ⟨A3, c3, e3, _⟩ := OwnF.arr (hJ.copied (i := 0) (by omega) d1)
        have e3 : v47 = _ := e3
        subst e3
        have t0 : w'.cell? ⟨g, 0, none⟩ = some x := hB.cell 0
        have t1 := hB.soft 0
        refine wpOp_step rfl fun K' hK => ?_
        go_simp
        exact hK _ _ ⟨_, _, _, _, _, _, _, _, _, _, _, _, rfl, hJ.put hst (i := 0) (by omega) rfl hg hB d6 d1⟩
      · have d6 := hd ⟨10, .data⟩ (by obtain rfl := Option.some.inj ho; simp) rfl
        have d1 := hd ⟨5, .data⟩ (by obtain rfl := Option.some.inj ho; simp) rfl
        obtain ⟨g, x, e0, hg, hB⟩ := hJ.made (i := 1) (by omega) d6
        have e0 : v15 = .pointer (some ⟨g, 0, none⟩) := e0
        subst e0
        obtain ⟨A3, c3, e3, _⟩ := OwnF.arr (hJ.copied (i := 1) (by omega) d1)
        have e3 : v50 = _ := e3
        subst e3
        have t0 : w'.cell? ⟨g, 0, none⟩ = some x := hB.cell 0
        have t1 := hB.soft 0
        refine wpOp_step rfl fun K' hK => ?_
        go_simp
        exact hK _ _ ⟨_, _, _, _, _, _, _, _, _, _, _, _, rfl, hJ.put hst (i := 1) (by omega) rfl hg hB d6 d1⟩
      · have d6 := hd ⟨11, .data⟩ (by obtain rfl := Option.some.inj ho; simp) rfl
        have d1 := hd ⟨8, .data⟩ (by obtain rfl := Option.some.inj ho; simp) rfl
        obtain ⟨g, x, e0, hg, hB⟩ := hJ.made (i := 2) (by omega) d6
        have e0 : v16 = .pointer (some ⟨g, 0, none⟩) := e0
        subst e0
        obtain ⟨A3, c3, e3, _⟩ := OwnF.arr (hJ.copied (i := 2) (by omega) d1)
        have e3 : v53 = _ := e3
        subst e3
        have t0 : w'.cell? ⟨g, 0, none⟩ = some x := hB.cell 0
        have t1 := hB.soft 0
        refine wpOp_step rfl fun K' hK => ?_
        go_simp
        exact hK _ _ ⟨_, _, _, _, _, _, _, _, _, _, _, _, rfl, hJ.put hst (i := 2) (by omega) rfl hg hB d6 d1⟩
    · rintro listed a' w' ⟨v14, v15, v16, v45, v46, v47, v48, v49, v50, v51, v52, v53, rfl, hJ⟩ hr
      have hall := all_listed (by rw [hJ.size]; rfl) (by kernel_rfl) hr
      have hD := hJ.done fun j hj => hall j hj
      have r0 : v45 = .pointer (some ⟨w.heap.size + 1, 0, none⟩) := hJ.hf 0 (by omega) (hall 0 (by simp))
      subst r0
      have r1 : v46 = .slice S3 n3 c3 := hJ.loaded (i := 0) (by omega) (hall 1 (by simp))
      subst r1
      obtain ⟨hG3, g3, e0, hg3, hX3⟩ := hD 0 (by omega)
      have e0 : v14 = .pointer (some ⟨g3, 0, none⟩) := e0
      subst e0
      obtain ⟨T3, f3, e0, _, hT3, _⟩ := OwnF.arr hG3
      have e0 : v47 = _ := e0
      subst e0
      have r0 : v48 = .pointer (some ⟨w.heap.size + 1, 1, none⟩) := hJ.hf 1 (by omega) (hall 3 (by simp))
      subst r0
      have r1 : v49 = .slice S4 n4 c4 := hJ.loaded (i := 1) (by omega) (hall 4 (by simp))
      subst r1
      obtain ⟨hG4, g4, e0, hg4, hX4⟩ := hD 1 (by omega)
      have e0 : v15 = .pointer (some ⟨g4, 0, none⟩) := e0
      subst e0
      obtain ⟨T4, f4, e0, _, hT4, _⟩ := OwnF.arr hG4
      have e0 : v50 = _ := e0
      subst e0
      have r0 : v51 = .pointer (some ⟨w.heap.size + 1, 2, none⟩) := hJ.hf 2 (by omega) (hall 6 (by simp))
      subst r0
      have r1 : v52 = .slice S5 n5 c5 := hJ.loaded (i := 2) (by omega) (hall 7 (by simp))
      subst r1
      obtain ⟨hG5, g5, e0, hg5, hX5⟩ := hD 2 (by omega)
      have e0 : v16 = .pointer (some ⟨g5, 0, none⟩) := e0
      subst e0
      obtain ⟨T5, f5, e0, _, hT5, _⟩ := OwnF.arr hG5
      have e0 : v53 = _ := e0
      subst e0
      have hbw := hJ.j.below
      clear hr hall hD hJ hG3 hG4 hG5
      dsimp (config := { zeta := true }) only
      have hl3 := HA3.out.1
      have hl4 := HA4.out.1
      have hl5 := HA5.out.1
      rw [hl3] at hT3 hX3 hX4 hX5 ⊢
      rw [hl4] at hT4 hX3 hX4 hX5 ⊢
      rw [hl5] at hT5 hX3 hX4 hX5 ⊢
      have hX3 : Box w' g3 22 #[.slice T3 n3 f3] := hX3
      have hX4 : Box w' g4 23 #[.slice T4 n4 f4] := hX4
      have hX5 : Box w' g5 23 #[.slice T5 n5 f5] := hX5
      have HB3 := Lib.hid (HB2.out.trans (hbw.mono HB2.out.size))
      have HX0 := Lib.hid (HX0.out.below hbw HX0.out.lt)
      have HX1 := Lib.hid (HX1.out.below hbw HX1.out.lt)
      have HX2 := Lib.hid (HX2.out.below hbw HX2.out.lt)
      have HC0 := Lib.hid (HC0.out.later hbw)
      have HC1 := Lib.hid (HC1.out.later hbw)
      have HC2 := Lib.hid (HC2.out.later hbw)
      have HV0 := Lib.hid (HV0.out.below hbw HV0.out.lt)
      have HV1 := Lib.hid (HV1.out.below hbw HV1.out.lt)
      have HSM := Lib.hid (fun wx (hb : Below w'.heap.size w' wx) => stepSame_any S0 S1 S2 S3 S4 S5 T0 T1 T2 T3 T4 T5 n0 n1 n2 n3 n4 n5 c0 c1 c2 c3 c4 c5 f0 f1 f2 f3 f4 f5 w.heap.size (w.heap.size + 1) g0 g1 g2 g3 g4 g5 wx.heap.size z0 z1 z2 z3 z4 z5 wx HM.out
        ((HV0.out.below hb HV0.out.lt).cell 0) ((HX0.out.below hb HX0.out.lt).cell 0) ((HV0.out.below hb HV0.out.lt).cell 1) ((HX1.out.below hb HX1.out.lt).cell 0) ((HV0.out.below hb HV0.out.lt).cell 2) ((HX2.out.below hb HX2.out.lt).cell 0)
        ((HV1.out.below hb HV1.out.lt).cell 0) ((hX3.below hb hX3.lt).cell 0) ((HV1.out.below hb HV1.out.lt).cell 1) ((hX4.below hb hX4.lt).cell 0) ((HV1.out.below hb HV1.out.lt).cell 2) ((hX5.below hb hX5.lt).cell 0)
        (HA0.out.later (bthen HB3.out hb)) (HC0.out.later hb) (HA1.out.later (bthen HB3.out hb)) (HC1.out.later hb) (HA2.out.later (bthen HB3.out hb)) (HC2.out.later hb)
        (HA3.out.later (bthen HB3.out hb)) (hT3.later hb) (HA4.out.later (bthen HB3.out hb)) (hT4.later hb) (HA5.out.later (bthen HB3.out hb)) (hT5.later hb))
      have HY : Hid (∀ wx, Below w'.heap.size w' wx → (wx.cell? ⟨w.heap.size, 0, none⟩ = some (.slice S0 n0 c0) ∧ wx.cell? ⟨w.heap.size, 1, none⟩ = some (.slice S1 n1 c1) ∧ wx.cell? ⟨w.heap.size, 2, none⟩ = some (.slice S2 n2 c2)) ∧
          wx.cell? ⟨w.heap.size + 1, 0, none⟩ = some (.slice S3 n3 c3) ∧ wx.cell? ⟨w.heap.size + 1, 1, none⟩ = some (.slice S4 n4 c4) ∧ wx.cell? ⟨w.heap.size + 1, 2, none⟩ = some (.slice S5 n5 c5)) := fun wx hb =>
        ⟨⟨(HV0.out.below hb HV0.out.lt).cell 0, (HV0.out.below hb HV0.out.lt).cell 1, (HV0.out.below hb HV0.out.lt).cell 2⟩, (HV1.out.below hb HV1.out.lt).cell 0, (HV1.out.below hb HV1.out.lt).cell 1, (HV1.out.below hb HV1.out.lt).cell 2⟩
      have HLT : Hid (w.heap.size + 1 < w'.heap.size) := HV1.out.lt
      clear hX3 hX4 hX5 hT3 hT4 hT5 hbw hg3 hg4 hg5 hl3 hl4 hl5 z10 z11 z12 HB2 HX0 HX1 HX2 HC0 HC1 HC2 HV0 HV1
      generalize w' = W at *
      have H1 := Lib.hid (HST.out W HB3.out)
      obtain ⟨⟨y0, y1, y2⟩, _⟩ := HY.out W (Below.refl _ _)
      clear HST
      go_wp2_with fail
      clear y0 y1 y2
      refine H1.out.mono ?_
      rintro e w2 ⟨B0, m0, b0, D0, p0, d0, D1, p1, d1, rfl, b2, _, sB0, sD0, sD1⟩
      have HBa := Lib.hid (b2.alloc b2.size (.cells #[.slice B0 m0 b0, .slice D0 p0 d0, .slice D1 p1 d1] 53))
      have HK0 := Lib.hid (Box.new w2 53 #[.slice B0 m0 b0, .slice D0 p0 d0, .slice D1 p1 d1])
      have ha2 : Below w2.heap.size w2 (w2.alloc (.cells #[.slice B0 m0 b0, .slice D0 p0 d0, .slice D1 p1 d1] 53)) := (Below.refl _ w2).alloc (Nat.le_refl _) _
      have HB0 := Lib.hid (sB0.below ha2 (Nat.le_refl _))
      have HD0 := Lib.hid (sD0.below ha2 (Nat.le_refl _))
      have HD1 := Lib.hid (sD1.below ha2 (Nat.le_refl _))
      have hlt2 : w.heap.size + 1 < w2.heap.size := Nat.lt_of_lt_of_le HLT.out b2.size
      obtain ⟨⟨y0, y1, y2⟩, _⟩ := HY.out _ HBa.out
      have H2 := Lib.hid (HSW.out _ (bthen HB3.out HBa.out))
      clear ha2 sB0 sD0 sD1 H1 HSW b2
      go_wp2_with fail
      clear y0 y1 y2 hlt2
      generalize (w2.alloc (.cells #[.slice B0 m0 b0, .slice D0 p0 d0, .slice D1 p1 d1] 53)) = W2 at *
      refine H2.out.mono ?_
      rintro e w3 ⟨B1, m1, b1, D2, p2, d2, D3, p3, d3, rfl, b3, _, sB1, sD2, sD3⟩
      have ha3 : Below w3.heap.size w3 (w3.alloc (.cells #[.slice B1 m1 b1, .slice D2 p2 d2, .slice D3 p3 d3] 53)) := (Below.refl _ w3).alloc (Nat.le_refl _) _
      have HBb := Lib.hid (bthen HBa.out (b3.alloc b3.size (.cells #[.slice B1 m1 b1, .slice D2 p2 d2, .slice D3 p3 d3] 53)))
      have b32 := bthen b3 ha3
      have HK0 := Lib.hid (HK0.out.below b32 HK0.out.lt)
      have HK1 := Lib.hid (Box.new w3 53 #[.slice B1 m1 b1, .slice D2 p2 d2, .slice D3 p3 d3])
      have HB0 := Lib.hid (HB0.out.below b32 (Nat.le_refl _))
      have HD0 := Lib.hid (HD0.out.below b32 (Nat.le_refl _))
      have HD1 := Lib.hid (HD1.out.below b32 (Nat.le_refl _))
      have HB1 := Lib.hid ((sB1.below ha3 (Nat.le_refl _)).less HBa.out.size)
      have HD2 := Lib.hid ((sD2.below ha3 (Nat.le_refl _)).less HBa.out.size)
      have HD3 := Lib.hid ((sD3.below ha3 (Nat.le_refl _)).less HBa.out.size)
      obtain ⟨_, y0, y1, y2⟩ := HY.out _ HBb.out
      have H3 := Lib.hid (HYW.out _ (bthen HB3.out HBb.out))
      clear ha3 b32 sB1 sD2 sD3 H2 HYW b3
      obtain ⟨k0, hk0⟩ : ∃ k, w2.heap.size = k := ⟨_, rfl⟩
      rw [hk0] at HK0
      rw [hk0]
      clear hk0
      go_wp2_with fail
      clear y0 y1 y2
      generalize (w3.alloc (.cells #[.slice B1 m1 b1, .slice D2 p2 d2, .slice D3 p3 d3] 53)) = W3 at *
      refine H3.out.mono ?_
      rintro e w4 ⟨B2, m2, b2, D4, p4, d4, D5, p5, d5, rfl, b4, ⟨_, sB2, sD4, sD5⟩⟩
      have ha4 : Below w4.heap.size w4 (w4.alloc (.cells #[.slice B2 m2 b2, .slice D4 p4 d4, .slice D5 p5 d5] 25)) := (Below.refl _ w4).alloc (Nat.le_refl _) _
      have HBc := Lib.hid (bthen HBb.out (b4.alloc b4.size (.cells #[.slice B2 m2 b2, .slice D4 p4 d4, .slice D5 p5 d5] 25)))
      have b42 := bthen b4 ha4
      have HK0 := Lib.hid (HK0.out.below b42 HK0.out.lt)
      have HK1 := Lib.hid (HK1.out.below b42 HK1.out.lt)
      have HK2 := Lib.hid (Box.new w4 25 #[.slice B2 m2 b2, .slice D4 p4 d4, .slice D5 p5 d5])
      have HB0 := Lib.hid (HB0.out.below b42 (Nat.le_refl _))
      have HD0 := Lib.hid (HD0.out.below b42 (Nat.le_refl _))
      have HD1 := Lib.hid (HD1.out.below b42 (Nat.le_refl _))
      have HB1 := Lib.hid (HB1.out.below b42 (Nat.le_refl _))
      have HD2 := Lib.hid (HD2.out.below b42 (Nat.le_refl _))
      have HD3 := Lib.hid (HD3.out.below b42 (Nat.le_refl _))
      have HB2 := Lib.hid ((sB2.below ha4 (Nat.le_refl _)).less HBb.out.size)
      have HD4 := Lib.hid ((sD4.below ha4 (Nat.le_refl _)).less HBb.out.size)
      have HD5 := Lib.hid ((sD5.below ha4 (Nat.le_refl _)).less HBb.out.size)
      obtain ⟨_, y0, y1, y2⟩ := HY.out _ HBc.out
      have H4 := Lib.hid (HYG.out _ (bthen HB3.out HBc.out))
      clear ha4 b42 sB2 sD4 sD5 H3 HYG b4
      obtain ⟨k1, hk1⟩ : ∃ k, w3.heap.size = k := ⟨_, rfl⟩
      rw [hk1] at HK1
      rw [hk1]
      clear hk1
      go_wp2_with fail
      clear y0 y1 y2
      generalize (w4.alloc (.cells #[.slice B2 m2 b2, .slice D4 p4 d4, .slice D5 p5 d5] 25)) = W4 at *
      refine H4.out.mono ?_
      rintro e w5 ⟨B3, m3, b3, D6, p6, d6, D7, p7, d7, rfl, b5, ⟨_, sB3, sD6, sD7⟩⟩
      have ha5 : Below w5.heap.size w5 (w5.alloc (.cells #[.slice B3 m3 b3, .slice D6 p6 d6, .slice D7 p7 d7] 25)) := (Below.refl _ w5).alloc (Nat.le_refl _) _
      have b52 := bthen b5 ha5
      have HBd := Lib.hid (bthen HBc.out b52)
      obtain ⟨k2, hk2⟩ : ∃ k, w4.heap.size = k := ⟨_, rfl⟩
      rw [hk2] at HK2
      rw [hk2]
      clear hk2
      have HO : Hid (StO W B0 B1 B2 B3 D0 D1 D2 D3 D4 D5 D6 D7 b0 b1 b2 b3 d0 d1 d2 d3 d4 d5 d6 d7 k0 k1 k2 w5.heap.size _ _ _ _ (w5.alloc (.cells #[.slice B3 m3 b3, .slice D6 p6 d6, .slice D7 p7 d7] 25))) :=
        ⟨HBd.out, HK0.out.below b52 HK0.out.lt, HK1.out.below b52 HK1.out.lt, HK2.out.below b52 HK2.out.lt, Box.new w5 25 #[.slice B3 m3 b3, .slice D6 p6 d6, .slice D7 p7 d7],
          HB0.out.below b52 (Nat.le_refl _), HB1.out.below b52 (Nat.le_refl _), HB2.out.below b52 (Nat.le_refl _), (sB3.below ha5 (Nat.le_refl _)).less HBc.out.size,
          HD0.out.below b52 (Nat.le_refl _), HD1.out.below b52 (Nat.le_refl _), HD2.out.below b52 (Nat.le_refl _), HD3.out.below b52 (Nat.le_refl _), HD4.out.below b52 (Nat.le_refl _), HD5.out.below b52 (Nat.le_refl _), (sD6.below ha5 (Nat.le_refl _)).less HBc.out.size, (sD7.below ha5 (Nat.le_refl _)).less HBc.out.size⟩
      have H5 := Lib.hid (HSM.out _ HBd.out)
      clear ha5 b52 sB3 sD6 sD7 H4 HB0 HD0 HD1 HB1 HD2 HD3 HB2 HD4 HD5 HK0 HK1 HK2 b5
      go_wp2_with fail
      refine H5.out.mono ?_
      rintro e w6 ⟨rfl, q5, rfl⟩
      obtain ⟨k3, hk3⟩ : ∃ k, w5.heap.size = k := ⟨_, rfl⟩
      rw [hk3] at HO
      rw [hk3]
      clear hk3 H5 HBd
      have HO5 : Hid (StO W B0 B1 B2 B3 D0 D1 D2 D3 D4 D5 D6 D7 b0 b1 b2 b3 d0 d1 d2 d3 d4 d5 d6 d7 k0 k1 k2 k3 #[.slice B0 m0 b0, .slice D0 p0 d0, .slice D1 p1 d1] #[.slice B1 m1 b1, .slice D2 p2 d2, .slice D3 p3 d3] #[.slice B2 m2 b2, .slice D4 p4 d4, .slice D5 p5 d5] #[.slice B3 m3 b3, .slice D6 p6 d6, .slice D7 p7 d7] ((w5.alloc (.cells #[.slice B3 m3 b3, .slice D6 p6 d6, .slice D7 p7 d7] 25)).drewN q5)) :=
        ⟨below_drewN HO.out.below q5, HO.out.x0, HO.out.x1, HO.out.x2, HO.out.x3, HO.out.i0, HO.out.i1, HO.out.i2, HO.out.i3, HO.out.j0, HO.out.j1, HO.out.j2, HO.out.j3, HO.out.j4, HO.out.j5, HO.out.j6, HO.out.j7⟩
      clear HO
      generalize ((w5.alloc (.cells #[.slice B3 m3 b3, .slice D6 p6 d6, .slice D7 p7 d7] 25)).drewN q5) = W5 at *
      have hm0 := HO5.out.i0.cap
      have hm1 := HO5.out.i1.cap
      have hm2 := HO5.out.i2.cap
      have hm3 := HO5.out.i3.cap
      unfold maxLen at hm0 hm1 hm2 hm3
      obtain ⟨E0, hs0, hE0⟩ := run_upto (P := Try.prog) Try.underlying22 u64_one B0 m0 b0 b0 (b0 : Int) rfl (Nat.le_refl _)
      have HE0 := Lib.hid hE0
      obtain ⟨E1, hs1, hE1⟩ := run_upto (P := Try.prog) Try.underlying22 u64_one B1 m1 b1 b1 (b1 : Int) rfl (Nat.le_refl _)
      have HE1 := Lib.hid hE1
      obtain ⟨E2, hs2, hE2⟩ := run_upto (P := Try.prog) Try.underlying22 u64_one B2 m2 b2 b2 (b2 : Int) rfl (Nat.le_refl _)
      have HE2 := Lib.hid hE2
      obtain ⟨E3, hs3, hE3⟩ := run_upto (P := Try.prog) Try.underlying22 u64_one B3 m3 b3 b3 (b3 : Int) rfl (Nat.le_refl _)
      have HE3 := Lib.hid hE3
      clear hE0 hE1 hE2 hE3
      have u0 : W5.cell? ⟨k0, 0, none⟩ = some (.slice B0 m0 b0) := HO5.out.x0.cell 0
      have u1 : W5.cell? ⟨k1, 0, none⟩ = some (.slice B1 m1 b1) := HO5.out.x1.cell 0
      have u2 : W5.cell? ⟨k2, 0, none⟩ = some (.slice B2 m2 b2) := HO5.out.x2.cell 0
      have u3 : W5.cell? ⟨k3, 0, none⟩ = some (.slice B3 m3 b3) := HO5.out.x3.cell 0
      go_wp2_with fail
      clear u0 u1 u2 u3
      go_loopw [93] (fun v wr => ∃ k : Nat, k ≤ 4 ∧ v = .int .i64 k ∧ Hid (StO W B0 B1 B2 B3 D0 D1 D2 D3 D4 D5 D6 D7 b0 b1 b2 b3 d0 d1 d2 d3 d4 d5 d6 d7 k0 k1 k2 k3 #[.slice B0 m0 b0, .slice D0 p0 d0, .slice D1 p1 d1] #[.slice B1 m1 b1, .slice D2 p2 d2, .slice D3 p3 d3] #[.slice B2 m2 b2, .slice D4 p4 d4, .slice D5 p5 d5] #[.slice B3 m3 b3, .slice D6 p6 d6, .slice D7 p7 d7] wr)) (fun v _ => 4 - (intOf v).toNat)
      case atStart => exact ⟨0, by omega, rfl, HO5⟩
      case round =>
        obtain ⟨k, hk, rfl, HO⟩ := hrel
        clear HO5
        generalize wr = W6 at *
        rcases (by omega : k = 0 ∨ k = 1 ∨ k = 2 ∨ k = 3 ∨ k = 4) with rfl | rfl | rfl | rfl | rfl
        · have hix := pickF0 B0 B1 B2 B3 m0 m1 m2 m3 b0 b1 b2 b3
          go_wp2_with fail
          clear hix
          go_loopw [102] (fun v wr => ∃ k : Nat, k ≤ b0 ∧ v = .int .i64 k ∧ Hid (StO W B0 B1 B2 B3 D0 D1 D2 D3 D4 D5 D6 D7 b0 b1 b2 b3 d0 d1 d2 d3 d4 d5 d6 d7 k0 k1 k2 k3 #[.slice B0 m0 b0, .slice D0 p0 d0, .slice D1 p1 d1] #[.slice B1 m1 b1, .slice D2 p2 d2, .slice D3 p3 d3] #[.slice B2 m2 b2, .slice D4 p4 d4, .slice D5 p5 d5] #[.slice B3 m3 b3, .slice D6 p6 d6, .slice D7 p7 d7] wr)) (fun v _ => b0 - (intOf v).toNat)
          case atStart => exact ⟨0, by omega, rfl, HO⟩
          case round =>
            obtain ⟨p, hp, rfl, HJ⟩ := hrel
            clear HO
            by_cases hlt : p < b0
            · rcases HJ.out.i0 with ⟨_, h0⟩ | ⟨g, xs, hA, hg, hxl, _, hW⟩
              · omega
              · have hDD := HE0.out g 0 hA
                have hc := hW.cell (j := p) (by omega)
                have hf := hW.frozen p
                have HNX := Lib.hid (fun z hz => HJ.out.set hg hW p z hz)
                clear hW HJ
                generalize nth xs p = X at *
                rw [hDD]
                clear hDD
                have hplt : (p : Int) < (b0 : Int) := by omega
                go_wp2
                go_roundw
                case rel => exact ⟨p + 1, by omega, by go_num, HNX.out _ (wf_wrap _ _)⟩
                case measure => simp [intOf]; omega
            · obtain rfl : p = b0 := by omega
              have HO2 := HJ
              clear HJ
              go_wp2
              go_roundw
              case rel => exact ⟨1, by omega, by go_num, HO2⟩
              case measure => simp [intOf]
        · have hix := pickF1 B0 B1 B2 B3 m0 m1 m2 m3 b0 b1 b2 b3
          go_wp2_with fail
          clear hix
          go_loopw [102] (fun v wr => ∃ k : Nat, k ≤ b1 ∧ v = .int .i64 k ∧ Hid (StO W B0 B1 B2 B3 D0 D1 D2 D3 D4 D5 D6 D7 b0 b1 b2 b3 d0 d1 d2 d3 d4 d5 d6 d7 k0 k1 k2 k3 #[.slice B0 m0 b0, .slice D0 p0 d0, .slice D1 p1 d1] #[.slice B1 m1 b1, .slice D2 p2 d2, .slice D3 p3 d3] #[.slice B2 m2 b2, .slice D4 p4 d4, .slice D5 p5 d5] #[.slice B3 m3 b3, .slice D6 p6 d6, .slice D7 p7 d7] wr)) (fun v _ => b1 - (intOf v).toNat)
          case atStart => exact ⟨0, by omega, rfl, HO⟩
          case round =>
            obtain ⟨p, hp, rfl, HJ⟩ := hrel
            clear HO
            by_cases hlt : p < b1
            · rcases HJ.out.i1 with ⟨_, h0⟩ | ⟨g, xs, hA, hg, hxl, _, hW⟩
              · omega
              · have hDD := HE1.out g 0 hA
                have hc := hW.cell (j := p) (by omega)
                have hf := hW.frozen p
                have HNX := Lib.hid (fun z hz => HJ.out.set hg hW p z hz)
                clear hW HJ
                generalize nth xs p = X at *
                rw [hDD]
                clear hDD
                have hplt : (p : Int) < (b1 : Int) := by omega
                go_wp2
                go_roundw
                case rel => exact ⟨p + 1, by omega, by go_num, HNX.out _ (wf_wrap _ _)⟩
                case measure => simp [intOf]; omega
            · obtain rfl : p = b1 := by omega
              have HO2 := HJ
              clear HJ
              go_wp2
              go_roundw
              case rel => exact ⟨2, by omega, by go_num, HO2⟩
              case measure => simp [intOf]
        · have hix := pickF2 B0 B1 B2 B3 m0 m1 m2 m3 b0 b1 b2 b3
          go_wp2_with fail
          clear hix
          go_loopw [102] (fun v wr => ∃ k : Nat, k ≤ b2 ∧ v = .int .i64 k ∧ Hid (StO W B0 B1 B2 B3 D0 D1 D2 D3 D4 D5 D6 D7 b0 b1 b2 b3 d0 d1 d2 d3 d4 d5 d6 d7 k0 k1 k2 k3 #[.slice B0 m0 b0, .slice D0 p0 d0, .slice D1 p1 d1] #[.slice B1 m1 b1, .slice D2 p2 d2, .slice D3 p3 d3] #[.slice B2 m2 b2, .slice D4 p4 d4, .slice D5 p5 d5] #[.slice B3 m3 b3, .slice D6 p6 d6, .slice D7 p7 d7] wr)) (fun v _ => b2 - (intOf v).toNat)
          case atStart => exact ⟨0, by omega, rfl, HO⟩
          case round =>
            obtain ⟨p, hp, rfl, HJ⟩ := hrel
            clear HO
            by_cases hlt : p < b2
            · rcases HJ.out.i2 with ⟨_, h0⟩ | ⟨g, xs, hA, hg, hxl, _, hW⟩
              · omega
              · have hDD := HE2.out g 0 hA
                have hc := hW.cell (j := p) (by omega)
                have hf := hW.frozen p
                have HNX := Lib.hid (fun z hz => HJ.out.set hg hW p z hz)
                clear hW HJ
                generalize nth xs p = X at *
                rw [hDD]
                clear hDD
                have hplt : (p : Int) < (b2 : Int) := by omega
                go_wp2
                go_roundw
                case rel => exact ⟨p + 1, by omega, by go_num, HNX.out _ (wf_wrap _ _)⟩
                case measure => simp [intOf]; omega
            · obtain rfl : p = b2 := by omega
              have HO2 := HJ
              clear HJ
              go_wp2
              go_roundw
              case rel => exact ⟨3, by omega, by go_num, HO2⟩
              case measure => simp [intOf]
        · have hix := pickF3 B0 B1 B2 B3 m0 m1 m2 m3 b0 b1 b2 b3
          go_wp2_with fail
          clear hix
          go_loopw [102] (fun v wr => ∃ k : Nat, k ≤ b3 ∧ v = .int .i64 k ∧ Hid (StO W B0 B1 B2 B3 D0 D1 D2 D3 D4 D5 D6 D7 b0 b1 b2 b3 d0 d1 d2 d3 d4 d5 d6 d7 k0 k1 k2 k3 #[.slice B0 m0 b0, .slice D0 p0 d0, .slice D1 p1 d1] #[.slice B1 m1 b1, .slice D2 p2 d2, .slice D3 p3 d3] #[.slice B2 m2 b2, .slice D4 p4 d4, .slice D5 p5 d5] #[.slice B3 m3 b3, .slice D6 p6 d6, .slice D7 p7 d7] wr)) (fun v _ => b3 - (intOf v).toNat)
          case atStart => exact ⟨0, by omega, rfl, HO⟩
          case round =>
            obtain ⟨p, hp, rfl, HJ⟩ := hrel
            clear HO
            by_cases hlt : p < b3
            · rcases HJ.out.i3 with ⟨_, h0⟩ | ⟨g, xs, hA, hg, hxl, _, hW⟩
              · omega
              · have hDD := HE3.out g 0 hA
                have hc := hW.cell (j := p) (by omega)
                have hf := hW.frozen p
                have HNX := Lib.hid (fun z hz => HJ.out.set hg hW p z hz)
                clear hW HJ
                generalize nth xs p = X at *
                rw [hDD]
                clear hDD
                have hplt : (p : Int) < (b3 : Int) := by omega
                go_wp2
                go_roundw
                case rel => exact ⟨p + 1, by omega, by go_num, HNX.out _ (wf_wrap _ _)⟩
                case measure => simp [intOf]; omega
            · obtain rfl : p = b3 := by omega
              have HO2 := HJ
              clear HJ
              go_wp2
              go_roundw
              case rel => exact ⟨4, by omega, by go_num, HO2⟩
              case measure => simp [intOf]
        · have HT : Hid (StT W D0 D1 D2 D3 D4 D5 D6 D7 d0 d1 d2 d3 d4 d5 d6 d7 W6) := ⟨HO.out.below, HO.out.j0, HO.out.j1, HO.out.j2, HO.out.j3, HO.out.j4, HO.out.j5, HO.out.j6, HO.out.j7⟩
          have hn0 := HO.out.j0.cap
          have hn1 := HO.out.j1.cap
          have hn2 := HO.out.j2.cap
          have hn3 := HO.out.j3.cap
          have hn4 := HO.out.j4.cap
          have hn5 := HO.out.j5.cap
          have hn6 := HO.out.j6.cap
          have hn7 := HO.out.j7.cap
          unfold maxLen at hn0 hn1 hn2 hn3 hn4 hn5 hn6 hn7
          have u0 : W6.cell? ⟨k0, 1, none⟩ = some (.slice D0 p0 d0) := HO.out.x0.cell 1
          have u1 : W6.cell? ⟨k0, 2, none⟩ = some (.slice D1 p1 d1) := HO.out.x0.cell 2
          have u2 : W6.cell? ⟨k1, 1, none⟩ = some (.slice D2 p2 d2) := HO.out.x1.cell 1
          have u3 : W6.cell? ⟨k1, 2, none⟩ = some (.slice D3 p3 d3) := HO.out.x1.cell 2
          have u4 : W6.cell? ⟨k2, 1, none⟩ = some (.slice D4 p4 d4) := HO.out.x2.cell 1
          have u5 : W6.cell? ⟨k2, 2, none⟩ = some (.slice D5 p5 d5) := HO.out.x2.cell 2
          have u6 : W6.cell? ⟨k3, 1, none⟩ = some (.slice D6 p6 d6) := HO.out.x3.cell 1
          have u7 : W6.cell? ⟨k3, 2, none⟩ = some (.slice D7 p7 d7) := HO.out.x3.cell 2
          clear HO hs0 hs1 hs2 hs3 HE0 HE1 HE2 HE3 hm0 hm1 hm2 hm3
          obtain ⟨E0, ht0, hE0⟩ := run_upto (P := Try.prog) Try.underlying23 (by kernel_rfl) D0 p0 d0 d0 (d0 : Int) rfl (Nat.le_refl _)
          have HE0 := Lib.hid hE0
          clear hE0
          obtain ⟨E1, ht1, hE1⟩ := run_upto (P := Try.prog) Try.underlying23 (by kernel_rfl) D1 p1 d1 d1 (d1 : Int) rfl (Nat.le_refl _)
          have HE1 := Lib.hid hE1
          clear hE1
          obtain ⟨E2, ht2, hE2⟩ := run_upto (P := Try.prog) Try.underlying23 (by kernel_rfl) D2 p2 d2 d2 (d2 : Int) rfl (Nat.le_refl _)
          have HE2 := Lib.hid hE2
          clear hE2
          obtain ⟨E3, ht3, hE3⟩ := run_upto (P := Try.prog) Try.underlying23 (by kernel_rfl) D3 p3 d3 d3 (d3 : Int) rfl (Nat.le_refl _)
          have HE3 := Lib.hid hE3
          clear hE3
          obtain ⟨E4, ht4, hE4⟩ := run_upto (P := Try.prog) Try.underlying23 (by kernel_rfl) D4 p4 d4 d4 (d4 : Int) rfl (Nat.le_refl _)
          have HE4 := Lib.hid hE4
          clear hE4
          obtain ⟨E5, ht5, hE5⟩ := run_upto (P := Try.prog) Try.underlying23 (by kernel_rfl) D5 p5 d5 d5 (d5 : Int) rfl (Nat.le_refl _)
          have HE5 := Lib.hid hE5
          clear hE5
          obtain ⟨E6, ht6, hE6⟩ := run_upto (P := Try.prog) Try.underlying23 (by kernel_rfl) D6 p6 d6 d6 (d6 : Int) rfl (Nat.le_refl _)
          have HE6 := Lib.hid hE6
          clear hE6
          obtain ⟨E7, ht7, hE7⟩ := run_upto (P := Try.prog) Try.underlying23 (by kernel_rfl) D7 p7 d7 d7 (d7 : Int) rfl (Nat.le_refl _)
          have HE7 := Lib.hid hE7
          clear hE7
          go_wp2_with fail
          clear u0 u1 u2 u3 u4 u5 u6 u7
          go_loopw [130] (fun v wr => ∃ k : Nat, k ≤ 8 ∧ v = .int .i64 k ∧ Hid (StT W D0 D1 D2 D3 D4 D5 D6 D7 d0 d1 d2 d3 d4 d5 d6 d7 wr)) (fun v _ => 8 - (intOf v).toNat)
          case atStart => exact ⟨0, by omega, rfl, HT⟩
          case round =>
            obtain ⟨k, hk, rfl, HO⟩ := hrel
            clear HT
            generalize wr = W7 at *
            rcases (by omega : k = 0 ∨ k = 1 ∨ k = 2 ∨ k = 3 ∨ k = 4 ∨ k = 5 ∨ k = 6 ∨ k = 7 ∨ k = 8) with rfl | rfl | rfl | rfl | rfl | rfl | rfl | rfl | rfl
            · have hix := pickE0 D0 D1 D2 D3 D4 D5 D6 D7 p0 p1 p2 p3 p4 p5 p6 p7 d0 d1 d2 d3 d4 d5 d6 d7
              go_wp2_with fail
              clear hix
              go_loopw [139] (fun v wr => ∃ k : Nat, k ≤ d0 ∧ v = .int .i64 k ∧ Hid (StT W D0 D1 D2 D3 D4 D5 D6 D7 d0 d1 d2 d3 d4 d5 d6 d7 wr)) (fun v _ => d0 - (intOf v).toNat)
              case atStart => exact ⟨0, by omega, rfl, HO⟩
              case round =>
                obtain ⟨p, hp, rfl, HJ⟩ := hrel
                clear HO
                by_cases hlt : p < d0
                · rcases HJ.out.j0 with ⟨_, h0⟩ | ⟨g, xs, hA, hg, hxl, _, hW⟩
                  · omega
                  · have hDD := HE0.out g 0 hA
                    have hc := hW.cell (j := p) (by omega)
                    have hf := hW.frozen p
                    have HNX := Lib.hid (fun z hz => HJ.out.set hg p z hz)
                    clear hW HJ
                    generalize nth xs p = X at *
                    rw [hDD]
                    clear hDD
                    have hplt : (p : Int) < (d0 : Int) := by omega
                    go_wp2
                    go_roundw
                    case rel => exact ⟨p + 1, by omega, by go_num, HNX.out _ (wf_i64.2 (by unfold wrap64; omega))⟩
                    case measure => simp [intOf]; omega
                · obtain rfl : p = d0 := by omega
                  have HO2 := HJ
                  clear HJ
                  go_wp2
                  go_roundw
                  case rel => exact ⟨1, by omega, by go_num, HO2⟩
                  case measure => simp [intOf]
            · have hix := pickE1 D0 D1 D2 D3 D4 D5 D6 D7 p0 p1 p2 p3 p4 p5 p6 p7 d0 d1 d2 d3 d4 d5 d6 d7
              go_wp2_with fail
              clear hix
              go_loopw [139] (fun v wr => ∃ k : Nat, k ≤ d1 ∧ v = .int .i64 k ∧ Hid (StT W D0 D1 D2 D3 D4 D5 D6 D7 d0 d1 d2 d3 d4 d5 d6 d7 wr)) (fun v _ => d1 - (intOf v).toNat)
              case atStart => exact ⟨0, by omega, rfl, HO⟩
              case round =>
                obtain ⟨p, hp, rfl, HJ⟩ := hrel
                clear HO
                by_cases hlt : p < d1
                · rcases HJ.out.j1 with ⟨_, h0⟩ | ⟨g, xs, hA, hg, hxl, _, hW⟩
                  · omega
                  · have hDD := HE1.out g 0 hA
                    have hc := hW.cell (j := p) (by omega)
                    have hf := hW.frozen p
                    have HNX := Lib.hid (fun z hz => HJ.out.set hg p z hz)
                    clear hW HJ
                    generalize nth xs p = X at *
                    rw [hDD]
                    clear hDD
                    have hplt : (p : Int) < (d1 : Int) := by omega
                    go_wp2
                    go_roundw
                    case rel => exact ⟨p + 1, by omega, by go_num, HNX.out _ (wf_i64.2 (by unfold wrap64; omega))⟩
                    case measure => simp [intOf]; omega
                · obtain rfl : p = d1 := by omega
                  have HO2 := HJ
                  clear HJ
                  go_wp2
                  go_roundw
                  case rel => exact ⟨2, by omega, by go_num, HO2⟩
                  case measure => simp [intOf]
            · have hix := pickE2 D0 D1 D2 D3 D4 D5 D6 D7 p0 p1 p2 p3 p4 p5 p6 p7 d0 d1 d2 d3 d4 d5 d6 d7
              go_wp2_with fail
              clear hix
              go_loopw [139] (fun v wr => ∃ k : Nat, k ≤ d2 ∧ v = .int .i64 k ∧ Hid (StT W D0 D1 D2 D3 D4 D5 D6 D7 d0 d1 d2 d3 d4 d5 d6 d7 wr)) (fun v _ => d2 - (intOf v).toNat)
              case atStart => exact ⟨0, by omega, rfl, HO⟩
              case round =>
                obtain ⟨p, hp, rfl, HJ⟩ := hrel
                clear HO
                by_cases hlt : p < d2
                · rcases HJ.out.j2 with ⟨_, h0⟩ | ⟨g, xs, hA, hg, hxl, _, hW⟩
                  · omega
                  · have hDD := HE2.out g 0 hA
                    have hc := hW.cell (j := p) (by omega)
                    have hf := hW.frozen p
                    have HNX := Lib.hid (fun z hz => HJ.out.set hg p z hz)
                    clear hW HJ
                    generalize nth xs p = X at *
                    rw [hDD]
                    clear hDD
                    have hplt : (p : Int) < (d2 : Int) := by omega
                    go_wp2
                    go_roundw
                    case rel => exact ⟨p + 1, by omega, by go_num, HNX.out _ (wf_i64.2 (by unfold wrap64; omega))⟩
                    case measure => simp [intOf]; omega
                · obtain rfl : p = d2 := by omega
                  have HO2 := HJ
                  clear HJ
                  go_wp2
                  go_roundw
                  case rel => exact ⟨3, by omega, by go_num, HO2⟩
                  case measure => simp [intOf]
            · have hix := pickE3 D0 D1 D2 D3 D4 D5 D6 D7 p0 p1 p2 p3 p4 p5 p6 p7 d0 d1 d2 d3 d4 d5 d6 d7
              go_wp2_with fail
              clear hix
              go_loopw [139] (fun v wr => ∃ k : Nat, k ≤ d3 ∧ v = .int .i64 k ∧ Hid (StT W D0 D1 D2 D3 D4 D5 D6 D7 d0 d1 d2 d3 d4 d5 d6 d7 wr)) (fun v _ => d3 - (intOf v).toNat)
              case atStart => exact ⟨0, by omega, rfl, HO⟩
              case round =>
                obtain ⟨p, hp, rfl, HJ⟩ := hrel
                clear HO
                by_cases hlt : p < d3
                · rcases HJ.out.j3 with ⟨_, h0⟩ | ⟨g, xs, hA, hg, hxl, _, hW⟩
                  · omega
                  · have hDD := HE3.out g 0 hA
                    have hc := hW.cell (j := p) (by omega)
                    have hf := hW.frozen p
                    have HNX := Lib.hid (fun z hz => HJ.out.set hg p z hz)
                    clear hW HJ
                    generalize nth xs p = X at *
                    rw [hDD]
                    clear hDD
                    have hplt : (p : Int) < (d3 : Int) := by omega
                    go_wp2
                    go_roundw
                    case rel => exact ⟨p + 1, by omega, by go_num, HNX.out _ (wf_i64.2 (by unfold wrap64; omega))⟩
                    case measure => simp [intOf]; omega
                · obtain rfl : p = d3 := by omega
                  have HO2 := HJ
                  clear HJ
                  go_wp2
                  go_roundw
                  case rel => exact ⟨4, by omega, by go_num, HO2⟩
                  case measure => simp [intOf]
            · have hix := pickE4 D0 D1 D2 D3 D4 D5 D6 D7 p0 p1 p2 p3 p4 p5 p6 p7 d0 d1 d2 d3 d4 d5 d6 d7
              go_wp2_with fail
              clear hix
              go_loopw [139] (fun v wr => ∃ k : Nat, k ≤ d4 ∧ v = .int .i64 k ∧ Hid (StT W D0 D1 D2 D3 D4 D5 D6 D7 d0 d1 d2 d3 d4 d5 d6 d7 wr)) (fun v _ => d4 - (intOf v).toNat)
              case atStart => exact ⟨0, by omega, rfl, HO⟩
              case round =>
                obtain ⟨p, hp, rfl, HJ⟩ := hrel
                clear HO
                by_cases hlt : p < d4
                · rcases HJ.out.j4 with ⟨_, h0⟩ | ⟨g, xs, hA, hg, hxl, _, hW⟩
                  · omega
                  · have hDD := HE4.out g 0 hA
                    have hc := hW.cell (j := p) (by omega)
                    have hf := hW.frozen p
                    have HNX := Lib.hid (fun z hz => HJ.out.set hg p z hz)
                    clear hW HJ
                    generalize nth xs p = X at *
                    rw [hDD]
                    clear hDD
                    have hplt : (p : Int) < (d4 : Int) := by omega
                    go_wp2
                    go_roundw
                    case rel => exact ⟨p + 1, by omega, by go_num, HNX.out _ (wf_i64.2 (by unfold wrap64; omega))⟩
                    case measure => simp [intOf]; omega
                · obtain rfl : p = d4 := by omega
                  have HO2 := HJ
                  clear HJ
                  go_wp2
                  go_roundw
                  case rel => exact ⟨5, by omega, by go_num, HO2⟩
                  case measure => simp [intOf]
            · have hix := pickE5 D0 D1 D2 D3 D4 D5 D6 D7 p0 p1 p2 p3 p4 p5 p6 p7 d0 d1 d2 d3 d4 d5 d6 d7
              go_wp2_with fail
              clear hix
              go_loopw [139] (fun v wr => ∃ k : Nat, k ≤ d5 ∧ v = .int .i64 k ∧ Hid (StT W D0 D1 D2 D3 D4 D5 D6 D7 d0 d1 d2 d3 d4 d5 d6 d7 wr)) (fun v _ => d5 - (intOf v).toNat)
              case atStart => exact ⟨0, by omega, rfl, HO⟩
              case round =>
                obtain ⟨p, hp, rfl, HJ⟩ := hrel
                clear HO
                by_cases hlt : p < d5
                · rcases HJ.out.j5 with ⟨_, h0⟩ | ⟨g, xs, hA, hg, hxl, _, hW⟩
                  · omega
                  · have hDD := HE5.out g 0 hA
                    have hc := hW.cell (j := p) (by omega)
                    have hf := hW.frozen p
                    have HNX := Lib.hid (fun z hz => HJ.out.set hg p z hz)
                    clear hW HJ
                    generalize nth xs p = X at *
                    rw [hDD]
                    clear hDD
                    have hplt : (p : Int) < (d5 : Int) := by omega
                    go_wp2
                    go_roundw
                    case rel => exact ⟨p + 1, by omega, by go_num, HNX.out _ (wf_i64.2 (by unfold wrap64; omega))⟩
                    case measure => simp [intOf]; omega
                · obtain rfl : p = d5 := by omega
                  have HO2 := HJ
                  clear HJ
                  go_wp2
                  go_roundw
                  case rel => exact ⟨6, by omega, by go_num, HO2⟩
                  case measure => simp [intOf]
            · have hix := pickE6 D0 D1 D2 D3 D4 D5 D6 D7 p0 p1 p2 p3 p4 p5 p6 p7 d0 d1 d2 d3 d4 d5 d6 d7
              go_wp2_with fail
              clear hix
              go_loopw [139] (fun v wr => ∃ k : Nat, k ≤ d6 ∧ v = .int .i64 k ∧ Hid (StT W D0 D1 D2 D3 D4 D5 D6 D7 d0 d1 d2 d3 d4 d5 d6 d7 wr)) (fun v _ => d6 - (intOf v).toNat)
              case atStart => exact ⟨0, by omega, rfl, HO⟩
              case round =>
                obtain ⟨p, hp, rfl, HJ⟩ := hrel
                clear HO
                by_cases hlt : p < d6
                · rcases HJ.out.j6 with ⟨_, h0⟩ | ⟨g, xs, hA, hg, hxl, _, hW⟩
                  · omega
                  · have hDD := HE6.out g 0 hA
                    have hc := hW.cell (j := p) (by omega)
                    have hf := hW.frozen p
                    have HNX := Lib.hid (fun z hz => HJ.out.set hg p z hz)
                    clear hW HJ
                    generalize nth xs p = X at *
                    rw [hDD]
                    clear hDD
                    have hplt : (p : Int) < (d6 : Int) := by omega
                    go_wp2
                    go_roundw
                    case rel => exact ⟨p + 1, by omega, by go_num, HNX.out _ (wf_i64.2 (by unfold wrap64; omega))⟩
                    case measure => simp [intOf]; omega
                · obtain rfl : p = d6 := by omega
                  have HO2 := HJ
                  clear HJ
                  go_wp2
                  go_roundw
                  case rel => exact ⟨7, by omega, by go_num, HO2⟩
                  case measure => simp [intOf]
            · have hix := pickE7 D0 D1 D2 D3 D4 D5 D6 D7 p0 p1 p2 p3 p4 p5 p6 p7 d0 d1 d2 d3 d4 d5 d6 d7
              go_wp2_with fail
              clear hix
              go_loopw [139] (fun v wr => ∃ k : Nat, k ≤ d7 ∧ v = .int .i64 k ∧ Hid (StT W D0 D1 D2 D3 D4 D5 D6 D7 d0 d1 d2 d3 d4 d5 d6 d7 wr)) (fun v _ => d7 - (intOf v).toNat)
              case atStart => exact ⟨0, by omega, rfl, HO⟩
              case round =>
                obtain ⟨p, hp, rfl, HJ⟩ := hrel
                clear HO
                by_cases hlt : p < d7
                · rcases HJ.out.j7 with ⟨_, h0⟩ | ⟨g, xs, hA, hg, hxl, _, hW⟩
                  · omega
                  · have hDD := HE7.out g 0 hA
                    have hc := hW.cell (j := p) (by omega)
                    have hf := hW.frozen p
                    have HNX := Lib.hid (fun z hz => HJ.out.set hg p z hz)
                    clear hW HJ
                    generalize nth xs p = X at *
                    rw [hDD]
                    clear hDD
                    have hplt : (p : Int) < (d7 : Int) := by omega
                    go_wp2
                    go_roundw
                    case rel => exact ⟨p + 1, by omega, by go_num, HNX.out _ (wf_i64.2 (by unfold wrap64; omega))⟩
                    case measure => simp [intOf]; omega
                · obtain rfl : p = d7 := by omega
                  have HO2 := HJ
                  clear HJ
                  go_wp2
                  go_roundw
                  case rel => exact ⟨8, by omega, by go_num, HO2⟩
                  case measure => simp [intOf]
            · have H5 := Lib.hid (HSM.out W7 HO.out.below)
              have HBE := Lib.hid (HB3.out.trans (HO.out.below.mono HB3.out.size))
              clear HO
              go_wp2_with fail
              refine H5.out.mono ?_
              rintro e w9 ⟨rfl, q9, rfl⟩
              go_wp2
              go_ret
              exact ⟨rfl, below_drewN HBE.out q9⟩
end Go.Proofs.Ythdnfocemchgjaa
