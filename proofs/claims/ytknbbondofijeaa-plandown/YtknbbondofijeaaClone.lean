/-
  Contract of slices.Clone at []uint64.
-/
import Derived.Test.YtknbbondofijeaaRef
import Derived.Lib.SliceRun
namespace Go.Proofs.Ytknbbondofijeaa
open Go.RowKit

theorem Own.empty {k : IntKind} {e : TypeId} {w : World} {base : Nat} (hb : base ≤ w.heap.size) : Own k e (w.alloc (.cells #[] e)) base (.slice (some ⟨w.heap.size, 0, none⟩) 0 0) [] :=
  ⟨⟨by simp, .inr ⟨w.heap.size, 0, #[], rfl, hb, heap_alloc_new w _, Nat.le_refl _, by omega, by simp, by simp⟩⟩, fun x hx => by cases hx⟩

set_option maxHeartbeats 400000 in
theorem slicesClone_any (A : Option Addr) (n c : Nat) (zs : List Int) (w : World) (hn : n ≤ 256) (ha : Arr .u64 w w.heap.size A n zs) :
    Calls Try.prog 79 #[.slice A n c] w (Cloned n zs w) := by
  have hq := fun wx => Lib.run_eql_slice_nil (P := Try.prog) wx 22 52 A n c 0 0 Try.underlying22
  rcases A with _ | x
  · have h0 : n = 0 := by
      rcases Nat.eq_zero_or_pos n with h | h
      · exact h
      · obtain ⟨_, _, h, _⟩ := ha.2.2 h; cases h
    subst h0
    have h1 : zs = [] := List.eq_nil_of_length_eq_zero ha.1
    subst h1
    clear ha
    go_enter Try.func79, Try.ntmps79
    go_wp2
    go_ret
    exact ⟨none, 0, rfl, Own.nil, Below.refl _ _⟩
  · have hb1 : Below w.heap.size w (w.alloc (.cells #[] 52)) := (Below.refl _ _).alloc (Nat.le_refl _) _
    obtain ⟨v', w', hrun, hO, hB⟩ := (Own.empty (k := .u64) (e := 52) (w := w) (base := w.heap.size) (Nat.le_refl _)).cat (P := Try.prog) (t := 22) (ty := 22) (c := c) Try.underlying22 u64_info (by omega)
      (ha.below hb1 (Nat.le_refl _)) (by simp; omega) (by simp)
    simp only [List.nil_append] at hO
    obtain ⟨A', c', rfl, _, _⟩ := hO.arr
    have hl := ha.1
    rw [hl] at hrun hO
    have HP := Lib.hid hrun
    have HO := Lib.hid hO
    have HB := Lib.hid (hb1.trans hB)
    clear hrun hO hB ha hl hb1
    go_enter Try.func79, Try.ntmps79
    go_wp2_with (at_builtin; refine wpList_append_run rfl (.tmp 5) (.tmp 6) 22 rfl rfl rfl HP.out ?_)
    go_ret
    exact ⟨A', c', rfl, HO.out, HB.out⟩
end Go.Proofs.Ytknbbondofijeaa
