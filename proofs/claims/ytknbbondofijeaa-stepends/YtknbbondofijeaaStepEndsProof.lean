/- StepEnds returns true for every marking state, whatever memory holds, and changes nothing that was there. Conditions: none. -/
import Derived.Test.YtknbbondofijeaaRows
import Derived.Test.YtknbbondofijeaaStepEW
import Derived.Test.YtknbbondofijeaaTriArg
import Derived.WalkKit
import Derived.ProofKit
import Derived.OpenShut
import Derived.ShutString
import Derived.ChangeOld
import Derived.Below
import Derived.Carry
import Derived.Lib.SmallJoins
import Derived.SizedLaws
namespace Go.Proofs.Ytknbbondofijeaa.stepEnds
open Go.ChangeShapes Go.WideShapes Go.ChangeAt Go.RowKit
open Go.ChangeMaps (open_string shut_string)
open Go.Joins (open_agg4 open_agg3 open_agg2)
set_option linter.unusedVariables false

theorem own : ownKnob Try.prog.godebug = none := by kernel_rfl
theorem laidOut : laidOutB Try.prog = true := by kernel_rfl

theorem walk (a0_0 : Option Addr) (len0_0 cap0_0 : Nat) (z0_0 : List Int) (a0_1 : Option Addr) (len0_1 cap0_1 : Nat) (z0_1 : List Int) (a0_2 : Option Addr) (len0_2 cap0_2 : Nat) (z0_2 : List Int) (w : World) (w0 : TriIn w a0_0 a0_1 a0_2 len0_0 cap0_0 len0_1 len0_2 z0_0 z0_1 z0_2) (lg0 : len0_1 ≤ cap0_1) :
    Calls Try.prog 7 #[.agg #[.slice a0_0 len0_0 cap0_0, .slice a0_1 len0_1 cap0_1, .slice a0_2 len0_2 cap0_2]] w fun e w' => e = .returned (.bool true) ∧ Below w.heap.size w w' := by
  exact (stepEnds_walk a0_0 a0_1 a0_2 len0_0 cap0_0 len0_1 cap0_1 len0_2 cap0_2 z0_0 z0_1 z0_2 w w0)

set_option maxRecDepth 100000 in
theorem lifted (os : Os) (started : os.Started) (H : Type) (enc : TypeId × Value → H) :
    ReturnsInHanded {} Try.checked os 7 .any (Rows.stepEndsSpec.pre6 enc Try.prog Try.f7 Rows.stepEndsRow.domain false) (Rows.stepEndsSpec.post enc Try.prog Try.f7 false true false false) := by
  refine returnsInHanded_of_change (C := Try.checked) own started (by kernel_rfl) Try.func7
    (ChangeSpec.witness6 (enc := enc) (C := Try.checked) false ⟨#[], #[.agg #[.slice none 0 0, .slice none 0 0, .slice none 0 0]], []⟩ 8 (by kernel_rfl) (by kernel_rfl) (by kernel_rfl) (by kernel_rfl)) ?_
  intro W base args ds gs before hval0 hW hcnd _
  have hval : ∀ (j : Nat) t v, Try.f7.params[j]? = some t → args[j]? = some v → Value.okWide Try.prog W .any base t v := hval0
  have hW' := hW
  obtain ⟨p, q, hA0, hV, rfl, hfz, hnd⟩ := hW
  have hA : DataW.TrodAll enc Try.prog W 0 (fun _ => true) true Try.f7.params.toList args.toList ds p := hA0
  rw [Try.params7] at hA hval
  obtain ⟨v0, vs0, d0, ds0, p0, q0, hargs, rfl, rfl, h0, r0⟩ := trodAll_cons hA
  obtain ⟨rfl, rfl, rfl⟩ := trodAll_nil r0
  obtain rfl : args = #[v0] := by cases args; simp_all
  obtain ⟨rfl, rfl⟩ := trodVars_none hV
  have k0 := h0
  have lt0 : ∀ x ∈ p0, x.block < W.heap.size := by obtain ⟨m, hm⟩ := k0; exact DataW.trod_lt m _ _ _ hm
  obtain ⟨c0_0, c0_1, c0_2, y0_0, y0_1, y0_2, n0, rfl, _, _, g0_0, g0_1, g0_2⟩ := open_agg3 Try.underlying25 (by kernel_rfl) (by kernel_rfl) (hval 0 25 v0 rfl rfl) h0
  obtain ⟨a0_0, len0_0, cap0_0, z0_0, e0_0, m0_0, l0_0, r0_0⟩ := open_row Try.underlying22 Try.underlying52 (by kernel_rfl) g0_0
  obtain rfl := (List.cons.inj e0_0).1
  obtain ⟨a0_1, len0_1, cap0_1, z0_1, e0_1, m0_1, l0_1, r0_1⟩ := open_row Try.underlying23 Try.underlying3 (by kernel_rfl) g0_1
  obtain rfl := (List.cons.inj e0_1).1
  obtain ⟨a0_2, len0_2, cap0_2, z0_2, e0_2, m0_2, l0_2, r0_2⟩ := open_row Try.underlying23 Try.underlying3 (by kernel_rfl) g0_2
  obtain rfl := (List.cons.inj e0_2).1
  have w0 : TriIn W a0_0 a0_1 a0_2 len0_0 cap0_0 len0_1 len0_2 z0_0 z0_1 z0_2 := ⟨r0_0, r0_1, r0_2, m0_0, l0_0, m0_1, m0_2⟩
  clear hA0 hval0
  refine (walk a0_0 len0_0 cap0_0 z0_0 a0_1 len0_1 cap0_1 z0_1 a0_2 len0_2 cap0_2 z0_2 W w0 l0_1).mono fun e W' ⟨he, bel⟩ => ?_
  subst he
  exact ⟨_, rfl, _, _, _, [], _, [], hW', trodAll_mk1 (shut_bool Try.underlying4 _), (trodAll_cons_mk (Below.trod laidOut (by kernel_rfl) (of_decide_eq_true (by kernel_rfl)) k0 bel lt0) trodAll_mk0), rfl, bel.frame _, fun h => by cases h⟩

theorem over : Rows.stepEndsRow.holds Try.pinned (OpenSpec.ofChange Rows.stepEndsSpec) :=
  OpenClaim.holds_of_wide 7 Try.f7 rfl rfl rfl rfl rfl rfl rfl ⟨rfl, rfl, rfl, rfl, rfl⟩ rfl rfl rfl rfl rfl (by kernel_rfl) Try.func7 (by kernel_rfl)
    (of_decide_eq_true (by kernel_rfl)) (by unfold Func.isWrapper; first | (rw [if_pos (by decide +kernel)]; kernel_rfl) | (rw [if_neg (by decide +kernel)]; exact ⟨rfl, rfl⟩))
    (fun os started H enc _ => lifted os started H enc)

theorem stepEnds_proved : Rows.StepEndsSaid := over
#print axioms stepEnds_proved
end Go.Proofs.Ytknbbondofijeaa.stepEnds
