/- SameBuilds returns true for every form (a slice of descriptions and a slice of integers that a machine can hold) and every number, whatever memory holds, and changes nothing that was there. Conditions: none. -/
import Derived.Test.YtjefbekdjgmmbaaRows
import Derived.Test.YtjefbekdjgmmbaaSameBW
import Derived.Test.YtjefbekdjgmmbaaFormArg
import Derived.WalkKit
import Derived.ProofKit
import Derived.OpenShut
import Derived.ShutString
import Derived.ChangeOld
import Derived.Below
import Derived.Carry
import Derived.Lib.SmallJoins
import Derived.SizedLaws
namespace Go.Proofs.Ytjefbekdjgmmbaa.sameBuilds
open Go.ChangeShapes Go.WideShapes Go.ChangeAt Go.RowKit
open Go.ChangeMaps (open_string shut_string)
open Go.Joins (open_agg4 open_agg3 open_agg2)
set_option linter.unusedVariables false

theorem own : ownKnob Try.prog.godebug = none := by kernel_rfl
theorem laidOut : laidOutB Try.prog = true := by kernel_rfl

theorem walk (a0_0 : Option Addr) (len0_0 cap0_0 : Nat) (raws0 : List Raw) (os0 : List Ob) (a0_1 : Option Addr) (len0_1 cap0_1 : Nat) (z0 : List Int) (a1 : Int) (w : World) (w0 : FormIn w a0_0 len0_0 cap0_0 a0_1 len0_1 cap0_1 raws0 os0 z0) (w1 : (Lit.int .i64 a1).wf = true) :
    Calls Try.prog 4 #[.agg #[.slice a0_0 len0_0 cap0_0, .slice a0_1 len0_1 cap0_1], .int .i64 a1] w fun e w' => e = .returned (.bool true) ∧ Below w.heap.size w w' := by
  exact (sameBuilds_of build_any a0_0 a0_1 len0_0 cap0_0 len0_1 cap0_1 raws0 os0 z0 a1 w w0 w1)

set_option maxRecDepth 100000 in
theorem lifted (os : Os) (started : os.Started) (H : Type) (enc : TypeId × Value → H) :
    ReturnsInHanded {} Try.checked os 4 .any (Rows.sameBuildsSpec.pre6 enc Try.prog Try.f4 Rows.sameBuildsRow.domain false) (Rows.sameBuildsSpec.post enc Try.prog Try.f4 false true false false) := by
  refine returnsInHanded_of_change_sized (C := Try.checked) own started (by kernel_rfl) Try.func4
    (ChangeSpec.witness6 (enc := enc) (C := Try.checked) false ⟨#[], #[.agg #[.slice none 0 0, .slice none 0 0], .int .i64 0], []⟩ 8 (by kernel_rfl) (by kernel_rfl) (by kernel_rfl) (by kernel_rfl)) ?_
  intro W base args ds gs before hval0 hW hcnd hsz0 _
  have hval : ∀ (j : Nat) t v, Try.f4.params[j]? = some t → args[j]? = some v → Value.okWide Try.prog W .any base t v := hval0
  have hW' := hW
  obtain ⟨p, q, hA0, hV, rfl, hfz, hnd⟩ := hW
  have hA : DataW.TrodAll enc Try.prog W 0 (fun _ => true) true Try.f4.params.toList args.toList ds p := hA0
  rw [Try.params4] at hA hval
  obtain ⟨v0, vs0, d0, ds0, p0, q0, hargs, rfl, rfl, h0, r0⟩ := trodAll_cons hA
  obtain ⟨v1, vs1, d1, ds1, p1, q1, rfl, rfl, rfl, h1, r1⟩ := trodAll_cons r0
  obtain ⟨rfl, rfl, rfl⟩ := trodAll_nil r1
  obtain rfl : args = #[v0, v1] := by cases args; simp_all
  obtain ⟨rfl, rfl⟩ := trodVars_none hV
  have k0 := h0
  have lt0 : ∀ x ∈ p0, x.block < W.heap.size := by obtain ⟨m, hm⟩ := k0; exact DataW.trod_lt m _ _ _ hm
  obtain ⟨c0_0, c0_1, y0_0, y0_1, n0, rfl, hd0, _, g0_0, g0_1⟩ := open_agg2 Try.underlying26 (by kernel_rfl) (by kernel_rfl) (hval 0 26 v0 rfl rfl) h0
  obtain ⟨a0_0, len0_0, cap0_0, raws0, os0, e0_0, m0_0, ob0, ol0, zz0_0⟩ := open_objects g0_0
  obtain rfl := (List.cons.inj e0_0).1
  have so0 : len0_0 ≤ 140737488355328 := by
    rcases zz0_0 with hz | ⟨el, sp, hy, hle⟩
    · omega
    · have hb : Try.checked.prog.bytesOf 41 = 64 := by kernel_rfl
      have hw := sized_field hsz0 (j := 0) (i := 0) (t := 26) (ft := 24) (e := 41) (parts := [y0_0.1, y0_1.1]) (el := el) (sp := sp) (by rw [Try.params4]; rfl) (by rw [hd0]; rfl) Try.underlying26 rfl (congrArg some hy) Try.underlying24
      rw [hb] at hw
      unfold reachBytes at hw
      omega
  obtain ⟨a0_1, len0_1, cap0_1, z0, e0_1, m0_1, l0_1, r0_1, zz0_1⟩ := open_rowZ Try.underlying23 Try.underlying3 (by kernel_rfl) g0_1
  obtain rfl := (List.cons.inj e0_1).1
  have sb0 : len0_1 * 8 ≤ 140737488355328 := by
    rcases zz0_1 with hz | ⟨el, sp, hy, hle⟩
    · omega
    · have hb : Try.checked.prog.bytesOf 3 = 8 := by kernel_rfl
      have hw := sized_field hsz0 (j := 0) (i := 1) (t := 26) (ft := 23) (e := 3) (parts := [y0_0.1, y0_1.1]) (el := el) (sp := sp) (by rw [Try.params4]; rfl) (by rw [hd0]; rfl) Try.underlying26 rfl (congrArg some hy) Try.underlying23
      rw [hb] at hw
      unfold reachBytes at hw
      omega
  have w0 : FormIn W a0_0 len0_0 cap0_0 a0_1 len0_1 cap0_1 raws0 os0 z0 := ⟨m0_0, l0_1, so0, sb0, ob0, ol0, r0_1⟩
  obtain ⟨a1, rfl, rfl, rfl, w1⟩ := open_int Try.underlying3 (hval 1 3 v1 rfl rfl) h1
  clear hA0 hval0
  refine (walk a0_0 len0_0 cap0_0 raws0 os0 a0_1 len0_1 cap0_1 z0 a1 W w0 w1).mono fun e W' ⟨he, bel⟩ => ?_
  subst he
  exact ⟨_, rfl, _, _, _, [], _, [], hW', trodAll_mk1 (shut_bool Try.underlying4 _), (trodAll_cons_mk (Below.trod laidOut (by kernel_rfl) (of_decide_eq_true (by kernel_rfl)) k0 bel lt0) (trodAll_cons_mk (shut_int Try.underlying3 w1) trodAll_mk0)), rfl, bel.frame _, fun h => by cases h⟩

theorem over : Rows.sameBuildsRow.holds Try.pinned (OpenSpec.ofChange Rows.sameBuildsSpec) :=
  OpenClaim.holds_of_wide 4 Try.f4 rfl rfl rfl rfl rfl rfl rfl ⟨rfl, rfl, rfl, rfl, rfl⟩ rfl rfl rfl rfl rfl (by kernel_rfl) Try.func4 (by kernel_rfl)
    (of_decide_eq_true (by kernel_rfl)) (by unfold Func.isWrapper; first | (rw [if_pos (by decide +kernel)]; kernel_rfl) | (rw [if_neg (by decide +kernel)]; exact ⟨rfl, rfl⟩))
    (fun os started H enc _ => lifted os started H enc)

theorem sameBuilds_proved : Rows.SameBuildsSaid := over
#print axioms sameBuilds_proved
end Go.Proofs.Ytjefbekdjgmmbaa.sameBuilds
