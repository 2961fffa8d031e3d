/- YoungOld returns true for every generational heap (a slice of words and two slices of integers that a machine can hold) and every slice of integers that a machine can hold, whatever memory holds, and changes nothing that was there. Conditions: none. -/
import Derived.Test.YthdnfocemchgjaaRows
import Derived.Test.YthdnfocemchgjaaYoungOW
import Derived.Test.YthdnfocemchgjaaTriArg
import Derived.WalkKit
import Derived.ProofKit
import Derived.OpenShut
import Derived.ShutString
import Derived.ChangeOld
import Derived.Below
import Derived.Carry
import Derived.Lib.SmallJoins
import Derived.SizedLaws
namespace Go.Proofs.Ythdnfocemchgjaa.youngOld
open Go.ChangeShapes Go.WideShapes Go.ChangeAt Go.RowKit
open Go.ChangeMaps (open_string shut_string)
open Go.Joins (open_agg4 open_agg3 open_agg2)
set_option linter.unusedVariables false

theorem own : ownKnob Try.prog.godebug = none := by kernel_rfl
theorem laidOut : laidOutB Try.prog = true := by kernel_rfl

def IsRow (k : IntKind) (w : World) (a : Option Addr) (len cap : Nat) (zs : List Int) : Prop :=
  (a = none ∧ len = 0 ∧ cap = 0 ∧ zs = []) ∨
  ∃ x, a = some x ∧ len ≤ cap ∧ cap ≤ maxLen ∧ zs.length = cap ∧ (∀ i, i < zs.length → w.cell? (x.add i) = some (.int k (zs.getD i 0))) ∧ ∀ n ∈ zs, (Lit.int k n).wf = true

theorem walk (a0_0 : Option Addr) (len0_0 cap0_0 : Nat) (z0_0 : List Int) (a0_1 : Option Addr) (len0_1 cap0_1 : Nat) (z0_1 : List Int) (a0_2 : Option Addr) (len0_2 cap0_2 : Nat) (z0_2 : List Int) (a1 : Option Addr) (len1 cap1 : Nat) (z1 : List Int) (w : World) (w0 : AgesIn w a0_0 a0_1 a0_2 len0_0 cap0_0 len0_1 cap0_1 len0_2 cap0_2 z0_0 z0_1 z0_2) (sb0 : len0_0 * 8 ≤ 140737488351232 ∧ len0_1 * 8 ≤ 140737488351232 ∧ len0_2 * 8 ≤ 140737488351232) (w1 : IsRow .i64 w a1 len1 cap1 z1) (sr1 : len1 * 8 ≤ 140737488351232) :
    Calls Try.prog 5 #[.agg #[.slice a0_0 len0_0 cap0_0, .slice a0_1 len0_1 cap0_1, .slice a0_2 len0_2 cap0_2], .slice a1 len1 cap1] w fun e w' => e = .returned (.bool true) ∧ Below w.heap.size w w' := by
  exact (youngOld_of yKeep_any yGrow_any a0_0 a0_1 a0_2 a1 len0_0 cap0_0 len0_1 cap0_1 len0_2 cap0_2 len1 cap1 z0_0 z0_1 z0_2 (z1.take len1) w w0 sr1 (arr_of_row w1).2.2)

set_option maxRecDepth 100000 in
theorem lifted (os : Os) (started : os.Started) (H : Type) (enc : TypeId × Value → H) :
    ReturnsInHanded {} Try.checked os 5 .any (Rows.youngOldSpec.pre6 enc Try.prog Try.f5 Rows.youngOldRow.domain false) (Rows.youngOldSpec.post enc Try.prog Try.f5 false true false false) := by
  refine returnsInHanded_of_change_sized (C := Try.checked) own started (by kernel_rfl) Try.func5
    (ChangeSpec.witness6 (enc := enc) (C := Try.checked) false ⟨#[], #[.agg #[.slice none 0 0, .slice none 0 0, .slice none 0 0], .slice none 0 0], []⟩ 8 (by kernel_rfl) (by kernel_rfl) (by kernel_rfl) (by kernel_rfl)) ?_
  intro W base args ds gs before hval0 hW hcnd hsz0 _
  have hval : ∀ (j : Nat) t v, Try.f5.params[j]? = some t → args[j]? = some v → Value.okWide Try.prog W .any base t v := hval0
  have hW' := hW
  obtain ⟨p, q, hA0, hV, rfl, hfz, hnd⟩ := hW
  have hA : DataW.TrodAll enc Try.prog W 0 (fun _ => true) true Try.f5.params.toList args.toList ds p := hA0
  rw [Try.params5] at hA hval
  obtain ⟨v0, vs0, d0, ds0, p0, q0, hargs, rfl, rfl, h0, r0⟩ := trodAll_cons hA
  obtain ⟨v1, vs1, d1, ds1, p1, q1, rfl, rfl, rfl, h1, r1⟩ := trodAll_cons r0
  obtain ⟨rfl, rfl, rfl⟩ := trodAll_nil r1
  obtain rfl : args = #[v0, v1] := by cases args; simp_all
  obtain ⟨rfl, rfl⟩ := trodVars_none hV
  have k0 := h0
  have lt0 : ∀ x ∈ p0, x.block < W.heap.size := by obtain ⟨m, hm⟩ := k0; exact DataW.trod_lt m _ _ _ hm
  obtain ⟨c0_0, c0_1, c0_2, y0_0, y0_1, y0_2, n0, rfl, hd0, _, g0_0, g0_1, g0_2⟩ := open_agg3 Try.underlying25 (by kernel_rfl) (by kernel_rfl) (hval 0 25 v0 rfl rfl) h0
  obtain ⟨a0_0, len0_0, cap0_0, z0_0, e0_0, m0_0, l0_0, r0_0, zz0_0⟩ := open_rowZ Try.underlying22 Try.underlying55 (by kernel_rfl) g0_0
  obtain rfl := (List.cons.inj e0_0).1
  have sb0_0 : len0_0 * 8 ≤ 140737488351232 := by
    rcases zz0_0 with hz | ⟨el, sp, hy, hle⟩
    · omega
    · have hb : Try.checked.prog.bytesOf 55 = 8 := by kernel_rfl
      have hw := sized_field hsz0 (j := 0) (i := 0) (t := 25) (ft := 22) (e := 55) (parts := [y0_0.1, y0_1.1, y0_2.1]) (el := el) (sp := sp) (by rw [Try.params5]; rfl) (by rw [hd0]; rfl) Try.underlying25 rfl (congrArg some hy) Try.underlying22
      rw [hb] at hw
      unfold reachBytes at hw
      omega
  obtain ⟨a0_1, len0_1, cap0_1, z0_1, e0_1, m0_1, l0_1, r0_1, zz0_1⟩ := open_rowZ Try.underlying23 Try.underlying3 (by kernel_rfl) g0_1
  obtain rfl := (List.cons.inj e0_1).1
  have sb0_1 : len0_1 * 8 ≤ 140737488351232 := by
    rcases zz0_1 with hz | ⟨el, sp, hy, hle⟩
    · omega
    · have hb : Try.checked.prog.bytesOf 3 = 8 := by kernel_rfl
      have hw := sized_field hsz0 (j := 0) (i := 1) (t := 25) (ft := 23) (e := 3) (parts := [y0_0.1, y0_1.1, y0_2.1]) (el := el) (sp := sp) (by rw [Try.params5]; rfl) (by rw [hd0]; rfl) Try.underlying25 rfl (congrArg some hy) Try.underlying23
      rw [hb] at hw
      unfold reachBytes at hw
      omega
  obtain ⟨a0_2, len0_2, cap0_2, z0_2, e0_2, m0_2, l0_2, r0_2, zz0_2⟩ := open_rowZ Try.underlying23 Try.underlying3 (by kernel_rfl) g0_2
  obtain rfl := (List.cons.inj e0_2).1
  have sb0_2 : len0_2 * 8 ≤ 140737488351232 := by
    rcases zz0_2 with hz | ⟨el, sp, hy, hle⟩
    · omega
    · have hb : Try.checked.prog.bytesOf 3 = 8 := by kernel_rfl
      have hw := sized_field hsz0 (j := 0) (i := 2) (t := 25) (ft := 23) (e := 3) (parts := [y0_0.1, y0_1.1, y0_2.1]) (el := el) (sp := sp) (by rw [Try.params5]; rfl) (by rw [hd0]; rfl) Try.underlying25 rfl (congrArg some hy) Try.underlying23
      rw [hb] at hw
      unfold reachBytes at hw
      omega
  have w0 : AgesIn W a0_0 a0_1 a0_2 len0_0 cap0_0 len0_1 cap0_1 len0_2 cap0_2 z0_0 z0_1 z0_2 := ⟨⟨r0_0, r0_1, r0_2, m0_0, l0_0, m0_1, m0_2⟩, l0_1, l0_2, ⟨sb0_0, sb0_1, sb0_2⟩⟩
  obtain ⟨a1, len1, cap1, rfl⟩ := okWide_slice Try.underlying23 (hval 1 23 v1 rfl rfl)
  have k1 := h1
  have lt1 : ∀ x ∈ p1, x.block < W.heap.size := by obtain ⟨m, hm⟩ := k1; exact DataW.trod_lt m _ _ _ hm
  obtain ⟨z1, w1, sr1⟩ : ∃ zs, IsRow .i64 W a1 len1 cap1 zs ∧ len1 * 8 ≤ 140737488351232 := by
    obtain ⟨fuel, hf⟩ := h1
    rcases open_ints Try.underlying23 Try.underlying3 (by kernel_rfl) hf with ⟨hcs, _⟩ | ⟨x, l, c, zs, hcs, _, hl, hm, hz, hx, hcell, hwz⟩
    · simp [Value.cells] at hcs
      obtain ⟨rfl, rfl, rfl⟩ := hcs
      exact ⟨[], .inl ⟨rfl, rfl, rfl, rfl⟩, by omega⟩
    · simp [Value.cells] at hcs
      obtain ⟨rfl, rfl, rfl⟩ := hcs
      have hdd : d1 = _ := congrArg Prod.fst hx
      have hb : Try.checked.prog.bytesOf 3 = 8 := by kernel_rfl
      have hw := sized_slice hsz0 (j := 1) (t := 23) (e := 3) (by rw [Try.params5]; rfl) (by rw [hdd]; rfl) Try.underlying23
      rw [hb] at hw
      unfold reachBytes at hw
      have hzc : zs.length = cap1 := by simpa using hz
      exact ⟨zs, .inr ⟨_, rfl, hl, hm, hzc, hcell, hwz⟩, by simp [lits] at hw; omega⟩
  clear hA0 hval0
  refine (walk a0_0 len0_0 cap0_0 z0_0 a0_1 len0_1 cap0_1 z0_1 a0_2 len0_2 cap0_2 z0_2 a1 len1 cap1 z1 W w0 ⟨sb0_0, sb0_1, sb0_2⟩ w1 sr1).mono fun e W' ⟨he, bel⟩ => ?_
  subst he
  exact ⟨_, rfl, _, _, _, [], _, [], hW', trodAll_mk1 (shut_bool Try.underlying4 _), (trodAll_cons_mk (Below.trod laidOut (by kernel_rfl) (of_decide_eq_true (by kernel_rfl)) k0 bel lt0) (trodAll_cons_mk (Below.trod laidOut (by kernel_rfl) (of_decide_eq_true (by kernel_rfl)) k1 bel lt1) trodAll_mk0)), rfl, bel.frame _, fun h => by cases h⟩

theorem over : Rows.youngOldRow.holds Try.pinned (OpenSpec.ofChange Rows.youngOldSpec) :=
  OpenClaim.holds_of_wide 5 Try.f5 rfl rfl rfl rfl rfl rfl rfl ⟨rfl, rfl, rfl, rfl, rfl⟩ rfl rfl rfl rfl rfl (by kernel_rfl) Try.func5 (by kernel_rfl)
    (of_decide_eq_true (by kernel_rfl)) (by unfold Func.isWrapper; first | (rw [if_pos (by decide +kernel)]; kernel_rfl) | (rw [if_neg (by decide +kernel)]; exact ⟨rfl, rfl⟩))
    (fun os started H enc _ => lifted os started H enc)

theorem youngOld_proved : Rows.YoungOldSaid := over
#print axioms youngOld_proved
end Go.Proofs.Ythdnfocemchgjaa.youngOld
