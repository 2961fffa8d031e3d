/- PinOwn returns true for every slice of pins, all handles and every two integers, whatever memory holds, and changes nothing that was there. Conditions: none. -/
import Derived.Test.YtedndmhekjfpdaaRows
import Derived.Test.YtedndmhekjfpdaaPinOW
import Derived.Test.YtedndmhekjfpdaaHandArg
import Derived.Test.YtedndmhekjfpdaaPinArg
import Derived.WalkKit
import Derived.ProofKit
import Derived.OpenShut
import Derived.ShutString
import Derived.ChangeOld
import Derived.Below
import Derived.Carry
import Derived.Lib.SmallJoins
import Derived.SizedLaws
namespace Go.Proofs.Ytedndmhekjfpdaa.pinOwn
open Go.ChangeShapes Go.WideShapes Go.ChangeAt Go.RowKit
open Go.ChangeMaps (open_string shut_string)
open Go.Joins (open_agg4 open_agg2)
set_option linter.unusedVariables false

theorem own : ownKnob Try.prog.godebug = none := by kernel_rfl
theorem laidOut : laidOutB Try.prog = true := by kernel_rfl

theorem walk (a0 : Option Addr) (len0 cap0 : Nat) (l0 : List (Int × Int)) (a1 : Option Addr) (len1 cap1 : Nat) (l1 : List Slt) (a2 : Int) (a3 : Int) (w : World) (w0 : PinsIn w a0 len0 l0) (sz0 : len0 * 16 ≤ 281474976710656) (w1 : HandsIn w a1 len1 l1) (sz1 : len1 * 24 ≤ 281474976710656) (w2 : (Lit.int .i64 a2).wf = true) (w3 : (Lit.int .u64 a3).wf = true) :
    Calls Try.prog 7 #[.slice a0 len0 cap0, .slice a1 len1 cap1, .int .i64 a2, .int .u64 a3] w fun e w' => e = .returned (.bool true) ∧ Below w.heap.size w w' := by
  exact (pinOwn_walk a0 len0 cap0 a1 len1 cap1 a2 a3 l0 l1 w w0.1 w0.2 w1.1 w1.2 sz0 sz1)

set_option maxRecDepth 100000 in
theorem lifted (os : Os) (started : os.Started) (H : Type) (enc : TypeId × Value → H) :
    ReturnsInHanded {} Try.checked os 7 .any (Rows.pinOwnSpec.pre6 enc Try.prog Try.f7 Rows.pinOwnRow.domain false) (Rows.pinOwnSpec.post enc Try.prog Try.f7 false true false false) := by
  refine returnsInHanded_of_change_sized (C := Try.checked) own started (by kernel_rfl) Try.func7
    (ChangeSpec.witness6 (enc := enc) (C := Try.checked) false ⟨#[], #[.slice none 0 0, .slice none 0 0, .int .i64 0, .int .u64 0], []⟩ 8 (by kernel_rfl) (by kernel_rfl) (by kernel_rfl) (by kernel_rfl)) ?_
  intro W base args ds gs before hval0 hW hcnd hsz0 _
  have hval : ∀ (j : Nat) t v, Try.f7.params[j]? = some t → args[j]? = some v → Value.okWide Try.prog W .any base t v := hval0
  have hW' := hW
  obtain ⟨p, q, hA0, hV, rfl, hfz, hnd⟩ := hW
  have hA : DataW.TrodAll enc Try.prog W 0 (fun _ => true) true Try.f7.params.toList args.toList ds p := hA0
  rw [Try.params7] at hA hval
  obtain ⟨v0, vs0, d0, ds0, p0, q0, hargs, rfl, rfl, h0, r0⟩ := trodAll_cons hA
  obtain ⟨v1, vs1, d1, ds1, p1, q1, rfl, rfl, rfl, h1, r1⟩ := trodAll_cons r0
  obtain ⟨v2, vs2, d2, ds2, p2, q2, rfl, rfl, rfl, h2, r2⟩ := trodAll_cons r1
  obtain ⟨v3, vs3, d3, ds3, p3, q3, rfl, rfl, rfl, h3, r3⟩ := trodAll_cons r2
  obtain ⟨rfl, rfl, rfl⟩ := trodAll_nil r3
  obtain rfl : args = #[v0, v1, v2, v3] := by cases args; simp_all
  obtain ⟨rfl, rfl⟩ := trodVars_none hV
  obtain ⟨a0, len0, cap0, rfl⟩ := okWide_slice Try.underlying54 (hval 0 54 v0 rfl rfl)
  have k0 := h0
  have lt0 : ∀ x ∈ p0, x.block < W.heap.size := by obtain ⟨m, hm⟩ := k0; exact DataW.trod_lt m _ _ _ hm
  obtain ⟨l0, w0, sz0⟩ : ∃ l, PinsIn W a0 len0 l ∧ len0 * 16 ≤ 281474976710656 := by
    obtain ⟨fuel, hf⟩ := h0
    obtain ⟨A, N, c, l, hcs, hl, hz⟩ := open_pinsZ hf
    simp [Value.cells] at hcs
    obtain ⟨rfl, rfl, rfl⟩ := hcs
    refine ⟨l, hl, ?_⟩
    rcases hz with hz | ⟨el, sp, hd, hle⟩
    · omega
    · have hdd : d0 = .slice el sp := hd
      have hb : Try.checked.prog.bytesOf 57 = 16 := by kernel_rfl
      have hw := sized_slice hsz0 (j := 0) (t := 54) (e := 57) (elems := el) (spare := sp) (by rw [Try.params7]; rfl) (by rw [hdd]; rfl) Try.underlying54
      rw [hb] at hw
      unfold reachBytes at hw
      omega
  obtain ⟨a1, len1, cap1, rfl⟩ := okWide_slice Try.underlying23 (hval 1 23 v1 rfl rfl)
  have k1 := h1
  have lt1 : ∀ x ∈ p1, x.block < W.heap.size := by obtain ⟨m, hm⟩ := k1; exact DataW.trod_lt m _ _ _ hm
  obtain ⟨l1, w1, sz1⟩ : ∃ l, HandsIn W a1 len1 l ∧ len1 * 24 ≤ 281474976710656 := by
    obtain ⟨fuel, hf⟩ := h1
    obtain ⟨A, N, c, l, hcs, hl, hz⟩ := open_hands hf
    simp [Value.cells] at hcs
    obtain ⟨rfl, rfl, rfl⟩ := hcs
    refine ⟨l, hl, ?_⟩
    rcases hz with hz | ⟨el, sp, hd, hle⟩
    · omega
    · have hdd : d1 = .slice el sp := hd
      have hb : Try.checked.prog.bytesOf 41 = 24 := by kernel_rfl
      have hw := sized_slice hsz0 (j := 1) (t := 23) (e := 41) (elems := el) (spare := sp) (by rw [Try.params7]; rfl) (by rw [hdd]; rfl) Try.underlying23
      rw [hb] at hw
      unfold reachBytes at hw
      omega
  obtain ⟨a2, rfl, rfl, rfl, w2⟩ := open_int Try.underlying3 (hval 2 3 v2 rfl rfl) h2
  obtain ⟨a3, rfl, rfl, rfl, w3⟩ := open_int Try.underlying24 (hval 3 24 v3 rfl rfl) h3
  clear hA0 hval0
  refine (walk a0 len0 cap0 l0 a1 len1 cap1 l1 a2 a3 W w0 sz0 w1 sz1 w2 w3).mono fun e W' ⟨he, bel⟩ => ?_
  subst he
  exact ⟨_, rfl, _, _, _, [], _, [], hW', trodAll_mk1 (shut_bool Try.underlying4 _), (trodAll_cons_mk (Below.trod laidOut (by kernel_rfl) (of_decide_eq_true (by kernel_rfl)) k0 bel lt0) (trodAll_cons_mk (Below.trod laidOut (by kernel_rfl) (of_decide_eq_true (by kernel_rfl)) k1 bel lt1) (trodAll_cons_mk (shut_int Try.underlying3 w2) (trodAll_cons_mk (shut_int Try.underlying24 w3) trodAll_mk0)))), rfl, bel.frame _, fun h => by cases h⟩

theorem over : Rows.pinOwnRow.holds Try.pinned (OpenSpec.ofChange Rows.pinOwnSpec) :=
  OpenClaim.holds_of_wide 7 Try.f7 rfl rfl rfl rfl rfl rfl rfl ⟨rfl, rfl, rfl, rfl, rfl⟩ rfl rfl rfl rfl rfl (by kernel_rfl) Try.func7 (by kernel_rfl)
    (of_decide_eq_true (by kernel_rfl)) (by unfold Func.isWrapper; first | (rw [if_pos (by decide +kernel)]; kernel_rfl) | (rw [if_neg (by decide +kernel)]; exact ⟨rfl, rfl⟩))
    (fun os started H enc _ => lifted os started H enc)

theorem pinOwn_proved : Rows.PinOwnSaid := over
#print axioms pinOwn_proved
end Go.Proofs.Ytedndmhekjfpdaa.pinOwn
