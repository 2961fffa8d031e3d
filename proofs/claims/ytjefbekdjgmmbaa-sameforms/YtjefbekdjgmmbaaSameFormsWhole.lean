/- SameForms returns true for every slice of words and every slice of integers that a machine can hold, and every number, whatever memory holds, and changes nothing that was there. Conditions: none. -/
import Derived.Test.YtjefbekdjgmmbaaRows
import Derived.WalkKit
import Derived.ProofKit
import Derived.OpenShut
import Derived.ShutString
import Derived.ChangeOld
import Derived.Below
import Derived.Carry
import Derived.Lib.SmallJoins
import Derived.SizedLaws
import Derived.Test.YtjefbekdjgmmbaaSameFormsAa
import Derived.Test.YtjefbekdjgmmbaaSameFormsAb
import Derived.Test.YtjefbekdjgmmbaaSameFormsAc
import Derived.Test.YtjefbekdjgmmbaaSameFormsAd
import Derived.Test.YtjefbekdjgmmbaaSameFormsAe
import Derived.Test.YtjefbekdjgmmbaaSameFormsAf
import Derived.Test.YtjefbekdjgmmbaaSameFormsAg
import Derived.Test.YtjefbekdjgmmbaaSameFormsAh
import Derived.Test.YtjefbekdjgmmbaaSameFormsAi
import Derived.Test.YtjefbekdjgmmbaaSameFormsAj
import Derived.Test.YtjefbekdjgmmbaaSameFormsAk
import Derived.Test.YtjefbekdjgmmbaaSameFormsAl
import Derived.Test.YtjefbekdjgmmbaaSameFormsAm
import Derived.Test.YtjefbekdjgmmbaaSameFormsAn
import Derived.Test.YtjefbekdjgmmbaaSameFormsAo
import Derived.Test.YtjefbekdjgmmbaaSameFormsAp
import Derived.Test.YtjefbekdjgmmbaaSameFormsAq
import Derived.Test.YtjefbekdjgmmbaaSameFormsAr
import Derived.Test.YtjefbekdjgmmbaaSameFormsAs
import Derived.Test.YtjefbekdjgmmbaaSameFormsAt
import Derived.Test.YtjefbekdjgmmbaaSameFormsAu
import Derived.Test.YtjefbekdjgmmbaaSameFormsAv
import Derived.Test.YtjefbekdjgmmbaaSameFormsAw
import Derived.Test.YtjefbekdjgmmbaaSameFormsAx
namespace Go.Proofs.Ytjefbekdjgmmbaa.sameForms
open Go.ChangeShapes Go.WideShapes Go.ChangeAt Go.RowKit
open Go.ChangeMaps (open_string shut_string)
open Go.Joins (open_agg4 open_agg3 open_agg2)
set_option linter.unusedVariables false

theorem own : ownKnob Try.prog.godebug = none := by kernel_rfl
theorem laidOut : laidOutB Try.prog = true := by kernel_rfl

def IsRow (k : IntKind) (w : World) (a : Option Addr) (len cap : Nat) (zs : List Int) : Prop :=
  (a = none ∧ len = 0 ∧ cap = 0 ∧ zs = []) ∨
  ∃ x, a = some x ∧ len ≤ cap ∧ cap ≤ maxLen ∧ zs.length = cap ∧ (∀ i, i < zs.length → w.cell? (x.add i) = some (.int k (zs.getD i 0))) ∧ ∀ n ∈ zs, (Lit.int k n).wf = true

theorem walk (a0 : Option Addr) (len0 cap0 : Nat) (z0 : List Int) (a1 : Option Addr) (len1 cap1 : Nat) (z1 : List Int) (a2 : Int) (w : World) (w0 : IsRow .u64 w a0 len0 cap0 z0) (sr0 : len0 * 8 ≤ 140737488351232) (w1 : IsRow .i64 w a1 len1 cap1 z1) (sr1 : len1 * 8 ≤ 140737488351232) (w2 : (Lit.int .i64 a2).wf = true) :
    Calls Try.prog 8 #[.slice a0 len0 cap0, .slice a1 len1 cap1, .int .i64 a2] w fun e w' => e = .returned (.bool true) ∧ Below w.heap.size w w' := by
  exact (sameForms_of form_any build_any alike_any a0 a1 len0 cap0 len1 cap1 a2 (z0.take len0) (z1.take len1) w ⟨(arr_of_row w0).2.2, (arr_of_row w1).2.2, Nat.le_trans sr0 (by decide), (arr_of_row w0).2.1, Nat.le_trans sr1 (by decide), (arr_of_row w1).2.1⟩ w2)

set_option maxRecDepth 100000 in
theorem lifted (os : Os) (started : os.Started) (H : Type) (enc : TypeId × Value → H) :
    ReturnsInHanded {} Try.checked os 8 .any (Rows.sameFormsSpec.pre6 enc Try.prog Try.f8 Rows.sameFormsRow.domain false) (Rows.sameFormsSpec.post enc Try.prog Try.f8 false true false false) := by
  refine returnsInHanded_of_change_sized (C := Try.checked) own started (by kernel_rfl) Try.func8
    (ChangeSpec.witness6 (enc := enc) (C := Try.checked) false ⟨#[], #[.slice none 0 0, .slice none 0 0, .int .i64 0], []⟩ 8 (by kernel_rfl) (by kernel_rfl) (by kernel_rfl) (by kernel_rfl)) ?_
  intro W base args ds gs before hval0 hW hcnd hsz0 _
  have hval : ∀ (j : Nat) t v, Try.f8.params[j]? = some t → args[j]? = some v → Value.okWide Try.prog W .any base t v := hval0
  have hW' := hW
  obtain ⟨p, q, hA0, hV, rfl, hfz, hnd⟩ := hW
  have hA : DataW.TrodAll enc Try.prog W 0 (fun _ => true) true Try.f8.params.toList args.toList ds p := hA0
  rw [Try.params8] at hA hval
  obtain ⟨v0, vs0, d0, ds0, p0, q0, hargs, rfl, rfl, h0, r0⟩ := trodAll_cons hA
  obtain ⟨v1, vs1, d1, ds1, p1, q1, rfl, rfl, rfl, h1, r1⟩ := trodAll_cons r0
  obtain ⟨v2, vs2, d2, ds2, p2, q2, rfl, rfl, rfl, h2, r2⟩ := trodAll_cons r1
  obtain ⟨rfl, rfl, rfl⟩ := trodAll_nil r2
  obtain rfl : args = #[v0, v1, v2] := by cases args; simp_all
  obtain ⟨rfl, rfl⟩ := trodVars_none hV
  obtain ⟨a0, len0, cap0, rfl⟩ := okWide_slice Try.underlying22 (hval 0 22 v0 rfl rfl)
  have k0 := h0
  have lt0 : ∀ x ∈ p0, x.block < W.heap.size := by obtain ⟨m, hm⟩ := k0; exact DataW.trod_lt m _ _ _ hm
  obtain ⟨z0, w0, sr0⟩ : ∃ zs, IsRow .u64 W a0 len0 cap0 zs ∧ len0 * 8 ≤ 140737488351232 := by
    obtain ⟨fuel, hf⟩ := h0
    rcases open_ints Try.underlying22 Try.underlying47 (by kernel_rfl) hf with ⟨hcs, _⟩ | ⟨x, l, c, zs, hcs, _, hl, hm, hz, hx, hcell, hwz⟩
    · simp [Value.cells] at hcs
      obtain ⟨rfl, rfl, rfl⟩ := hcs
      exact ⟨[], .inl ⟨rfl, rfl, rfl, rfl⟩, by omega⟩
    · simp [Value.cells] at hcs
      obtain ⟨rfl, rfl, rfl⟩ := hcs
      have hdd : d0 = _ := congrArg Prod.fst hx
      have hb : Try.checked.prog.bytesOf 47 = 8 := by kernel_rfl
      have hw := sized_slice hsz0 (j := 0) (t := 22) (e := 47) (by rw [Try.params8]; rfl) (by rw [hdd]; rfl) Try.underlying22
      rw [hb] at hw
      unfold reachBytes at hw
      have hzc : zs.length = cap0 := by simpa using hz
      exact ⟨zs, .inr ⟨_, rfl, hl, hm, hzc, hcell, hwz⟩, by simp [lits] at hw; omega⟩
  obtain ⟨a1, len1, cap1, rfl⟩ := okWide_slice Try.underlying23 (hval 1 23 v1 rfl rfl)
  have k1 := h1
  have lt1 : ∀ x ∈ p1, x.block < W.heap.size := by obtain ⟨m, hm⟩ := k1; exact DataW.trod_lt m _ _ _ hm
  obtain ⟨z1, w1, sr1⟩ : ∃ zs, IsRow .i64 W a1 len1 cap1 zs ∧ len1 * 8 ≤ 140737488351232 := by
    obtain ⟨fuel, hf⟩ := h1
    rcases open_ints Try.underlying23 Try.underlying3 (by kernel_rfl) hf with ⟨hcs, _⟩ | ⟨x, l, c, zs, hcs, _, hl, hm, hz, hx, hcell, hwz⟩
    · simp [Value.cells] at hcs
      obtain ⟨rfl, rfl, rfl⟩ := hcs
      exact ⟨[], .inl ⟨rfl, rfl, rfl, rfl⟩, by omega⟩
    · simp [Value.cells] at hcs
      obtain ⟨rfl, rfl, rfl⟩ := hcs
      have hdd : d1 = _ := congrArg Prod.fst hx
      have hb : Try.checked.prog.bytesOf 3 = 8 := by kernel_rfl
      have hw := sized_slice hsz0 (j := 1) (t := 23) (e := 3) (by rw [Try.params8]; rfl) (by rw [hdd]; rfl) Try.underlying23
      rw [hb] at hw
      unfold reachBytes at hw
      have hzc : zs.length = cap1 := by simpa using hz
      exact ⟨zs, .inr ⟨_, rfl, hl, hm, hzc, hcell, hwz⟩, by simp [lits] at hw; omega⟩
  obtain ⟨a2, rfl, rfl, rfl, w2⟩ := open_int Try.underlying3 (hval 2 3 v2 rfl rfl) h2
  clear hA0 hval0
  refine (walk a0 len0 cap0 z0 a1 len1 cap1 z1 a2 W w0 sr0 w1 sr1 w2).mono fun e W' ⟨he, bel⟩ => ?_
  subst he
  exact ⟨_, rfl, _, _, _, [], _, [], hW', trodAll_mk1 (shut_bool Try.underlying4 _), (trodAll_cons_mk (Below.trod laidOut (by kernel_rfl) (of_decide_eq_true (by kernel_rfl)) k0 bel lt0) (trodAll_cons_mk (Below.trod laidOut (by kernel_rfl) (of_decide_eq_true (by kernel_rfl)) k1 bel lt1) (trodAll_cons_mk (shut_int Try.underlying3 w2) trodAll_mk0))), rfl, bel.frame _, fun h => by cases h⟩

theorem over : Rows.sameFormsRow.holds Try.pinned (OpenSpec.ofChange Rows.sameFormsSpec) :=
  OpenClaim.holds_of_wide 8 Try.f8 rfl rfl rfl rfl rfl rfl rfl ⟨rfl, rfl, rfl, rfl, rfl⟩ rfl rfl rfl rfl rfl (by kernel_rfl) Try.func8 (by kernel_rfl)
    (of_decide_eq_true (by kernel_rfl)) (by unfold Func.isWrapper; first | (rw [if_pos (by decide +kernel)]; kernel_rfl) | (rw [if_neg (by decide +kernel)]; exact ⟨rfl, rfl⟩))
    (fun os started H enc _ => lifted os started H enc)

theorem sameForms_proved : Rows.SameFormsSaid := over
#print axioms sameForms_proved
end Go.Proofs.Ytjefbekdjgmmbaa.sameForms
