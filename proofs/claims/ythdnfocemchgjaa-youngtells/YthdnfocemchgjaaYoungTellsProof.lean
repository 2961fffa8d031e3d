/- YoungTells returns true for every generational heap (a slice of words and two slices of integers that a machine can hold) and every three numbers, whatever memory holds, and changes nothing that was there. Conditions: none. -/
import Derived.Test.YthdnfocemchgjaaRows
import Derived.Test.YthdnfocemchgjaaYoungTW
import Derived.Test.YthdnfocemchgjaaTriArg
import Derived.WalkKit
import Derived.ProofKit
import Derived.OpenShut
import Derived.ShutString
import Derived.ChangeOld
import Derived.Below
import Derived.Carry
import Derived.Lib.SmallJoins
import Derived.SizedLaws
namespace Go.Proofs.Ythdnfocemchgjaa.youngTells
open Go.ChangeShapes Go.WideShapes Go.ChangeAt Go.RowKit
open Go.ChangeMaps (open_string shut_string)
open Go.Joins (open_agg4 open_agg3 open_agg2)
set_option linter.unusedVariables false

theorem own : ownKnob Try.prog.godebug = none := by kernel_rfl
theorem laidOut : laidOutB Try.prog = true := by kernel_rfl

theorem walk (a0_0 : Option Addr) (len0_0 cap0_0 : Nat) (z0_0 : List Int) (a0_1 : Option Addr) (len0_1 cap0_1 : Nat) (z0_1 : List Int) (a0_2 : Option Addr) (len0_2 cap0_2 : Nat) (z0_2 : List Int) (a1 : Int) (a2 : Int) (a3 : Int) (w : World) (w0 : AgesIn w a0_0 a0_1 a0_2 len0_0 cap0_0 len0_1 cap0_1 len0_2 cap0_2 z0_0 z0_1 z0_2) (sb0 : len0_0 * 8 ≤ 140737488351232 ∧ len0_1 * 8 ≤ 140737488351232 ∧ len0_2 * 8 ≤ 140737488351232) (w1 : (Lit.int .i64 a1).wf = true) (w2 : (Lit.int .i64 a2).wf = true) (w3 : (Lit.int .i64 a3).wf = true) :
    Calls Try.prog 3 #[.agg #[.slice a0_0 len0_0 cap0_0, .slice a0_1 len0_1 cap0_1, .slice a0_2 len0_2 cap0_2], .int .i64 a1, .int .i64 a2, .int .i64 a3] w fun e w' => e = .returned (.bool true) ∧ Below w.heap.size w w' := by
  exact (youngTells_of yCheck_any yWrite_any a0_0 a0_1 a0_2 len0_0 cap0_0 len0_1 cap0_1 len0_2 cap0_2 z0_0 z0_1 z0_2 a1 a2 a3 w w1 w2 w3 w0)

set_option maxRecDepth 100000 in
theorem lifted (os : Os) (started : os.Started) (H : Type) (enc : TypeId × Value → H) :
    ReturnsInHanded {} Try.checked os 3 .any (Rows.youngTellsSpec.pre6 enc Try.prog Try.f3 Rows.youngTellsRow.domain false) (Rows.youngTellsSpec.post enc Try.prog Try.f3 false true false false) := by
  refine returnsInHanded_of_change_sized (C := Try.checked) own started (by kernel_rfl) Try.func3
    (ChangeSpec.witness6 (enc := enc) (C := Try.checked) false ⟨#[], #[.agg #[.slice none 0 0, .slice none 0 0, .slice none 0 0], .int .i64 0, .int .i64 0, .int .i64 0], []⟩ 8 (by kernel_rfl) (by kernel_rfl) (by kernel_rfl) (by kernel_rfl)) ?_
  intro W base args ds gs before hval0 hW hcnd hsz0 _
  have hval : ∀ (j : Nat) t v, Try.f3.params[j]? = some t → args[j]? = some v → Value.okWide Try.prog W .any base t v := hval0
  have hW' := hW
  obtain ⟨p, q, hA0, hV, rfl, hfz, hnd⟩ := hW
  have hA : DataW.TrodAll enc Try.prog W 0 (fun _ => true) true Try.f3.params.toList args.toList ds p := hA0
  rw [Try.params3] at hA hval
  obtain ⟨v0, vs0, d0, ds0, p0, q0, hargs, rfl, rfl, h0, r0⟩ := trodAll_cons hA
  obtain ⟨v1, vs1, d1, ds1, p1, q1, rfl, rfl, rfl, h1, r1⟩ := trodAll_cons r0
  obtain ⟨v2, vs2, d2, ds2, p2, q2, rfl, rfl, rfl, h2, r2⟩ := trodAll_cons r1
  obtain ⟨v3, vs3, d3, ds3, p3, q3, rfl, rfl, rfl, h3, r3⟩ := trodAll_cons r2
  obtain ⟨rfl, rfl, rfl⟩ := trodAll_nil r3
  obtain rfl : args = #[v0, v1, v2, v3] := by cases args; simp_all
  obtain ⟨rfl, rfl⟩ := trodVars_none hV
  have k0 := h0
  have lt0 : ∀ x ∈ p0, x.block < W.heap.size := by obtain ⟨m, hm⟩ := k0; exact DataW.trod_lt m _ _ _ hm
  obtain ⟨c0_0, c0_1, c0_2, y0_0, y0_1, y0_2, n0, rfl, hd0, _, g0_0, g0_1, g0_2⟩ := open_agg3 Try.underlying25 (by kernel_rfl) (by kernel_rfl) (hval 0 25 v0 rfl rfl) h0
  obtain ⟨a0_0, len0_0, cap0_0, z0_0, e0_0, m0_0, l0_0, r0_0, zz0_0⟩ := open_rowZ Try.underlying22 Try.underlying55 (by kernel_rfl) g0_0
  obtain rfl := (List.cons.inj e0_0).1
  have sb0_0 : len0_0 * 8 ≤ 140737488351232 := by
    rcases zz0_0 with hz | ⟨el, sp, hy, hle⟩
    · omega
    · have hb : Try.checked.prog.bytesOf 55 = 8 := by kernel_rfl
      have hw := sized_field hsz0 (j := 0) (i := 0) (t := 25) (ft := 22) (e := 55) (parts := [y0_0.1, y0_1.1, y0_2.1]) (el := el) (sp := sp) (by rw [Try.params3]; rfl) (by rw [hd0]; rfl) Try.underlying25 rfl (congrArg some hy) Try.underlying22
      rw [hb] at hw
      unfold reachBytes at hw
      omega
  obtain ⟨a0_1, len0_1, cap0_1, z0_1, e0_1, m0_1, l0_1, r0_1, zz0_1⟩ := open_rowZ Try.underlying23 Try.underlying3 (by kernel_rfl) g0_1
  obtain rfl := (List.cons.inj e0_1).1
  have sb0_1 : len0_1 * 8 ≤ 140737488351232 := by
    rcases zz0_1 with hz | ⟨el, sp, hy, hle⟩
    · omega
    · have hb : Try.checked.prog.bytesOf 3 = 8 := by kernel_rfl
      have hw := sized_field hsz0 (j := 0) (i := 1) (t := 25) (ft := 23) (e := 3) (parts := [y0_0.1, y0_1.1, y0_2.1]) (el := el) (sp := sp) (by rw [Try.params3]; rfl) (by rw [hd0]; rfl) Try.underlying25 rfl (congrArg some hy) Try.underlying23
      rw [hb] at hw
      unfold reachBytes at hw
      omega
  obtain ⟨a0_2, len0_2, cap0_2, z0_2, e0_2, m0_2, l0_2, r0_2, zz0_2⟩ := open_rowZ Try.underlying23 Try.underlying3 (by kernel_rfl) g0_2
  obtain rfl := (List.cons.inj e0_2).1
  have sb0_2 : len0_2 * 8 ≤ 140737488351232 := by
    rcases zz0_2 with hz | ⟨el, sp, hy, hle⟩
    · omega
    · have hb : Try.checked.prog.bytesOf 3 = 8 := by kernel_rfl
      have hw := sized_field hsz0 (j := 0) (i := 2) (t := 25) (ft := 23) (e := 3) (parts := [y0_0.1, y0_1.1, y0_2.1]) (el := el) (sp := sp) (by rw [Try.params3]; rfl) (by rw [hd0]; rfl) Try.underlying25 rfl (congrArg some hy) Try.underlying23
      rw [hb] at hw
      unfold reachBytes at hw
      omega
  have w0 : AgesIn W a0_0 a0_1 a0_2 len0_0 cap0_0 len0_1 cap0_1 len0_2 cap0_2 z0_0 z0_1 z0_2 := ⟨⟨r0_0, r0_1, r0_2, m0_0, l0_0, m0_1, m0_2⟩, l0_1, l0_2, ⟨sb0_0, sb0_1, sb0_2⟩⟩
  obtain ⟨a1, rfl, rfl, rfl, w1⟩ := open_int Try.underlying3 (hval 1 3 v1 rfl rfl) h1
  obtain ⟨a2, rfl, rfl, rfl, w2⟩ := open_int Try.underlying3 (hval 2 3 v2 rfl rfl) h2
  obtain ⟨a3, rfl, rfl, rfl, w3⟩ := open_int Try.underlying3 (hval 3 3 v3 rfl rfl) h3
  clear hA0 hval0
  refine (walk a0_0 len0_0 cap0_0 z0_0 a0_1 len0_1 cap0_1 z0_1 a0_2 len0_2 cap0_2 z0_2 a1 a2 a3 W w0 ⟨sb0_0, sb0_1, sb0_2⟩ w1 w2 w3).mono fun e W' ⟨he, bel⟩ => ?_
  subst he
  exact ⟨_, rfl, _, _, _, [], _, [], hW', trodAll_mk1 (shut_bool Try.underlying4 _), (trodAll_cons_mk (Below.trod laidOut (by kernel_rfl) (of_decide_eq_true (by kernel_rfl)) k0 bel lt0) (trodAll_cons_mk (shut_int Try.underlying3 w1) (trodAll_cons_mk (shut_int Try.underlying3 w2) (trodAll_cons_mk (shut_int Try.underlying3 w3) trodAll_mk0)))), rfl, bel.frame _, fun h => by cases h⟩

theorem over : Rows.youngTellsRow.holds Try.pinned (OpenSpec.ofChange Rows.youngTellsSpec) :=
  OpenClaim.holds_of_wide 3 Try.f3 rfl rfl rfl rfl rfl rfl rfl ⟨rfl, rfl, rfl, rfl, rfl⟩ rfl rfl rfl rfl rfl (by kernel_rfl) Try.func3 (by kernel_rfl)
    (of_decide_eq_true (by kernel_rfl)) (by unfold Func.isWrapper; first | (rw [if_pos (by decide +kernel)]; kernel_rfl) | (rw [if_neg (by decide +kernel)]; exact ⟨rfl, rfl⟩))
    (fun os started H enc _ => lifted os started H enc)

theorem youngTells_proved : Rows.YoungTellsSaid := over
#print axioms youngTells_proved
end Go.Proofs.Ythdnfocemchgjaa.youngTells
