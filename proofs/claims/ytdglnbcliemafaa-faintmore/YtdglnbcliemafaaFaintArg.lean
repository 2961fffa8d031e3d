/-
  A slice of ephemerons as it comes in: its cells, and what they say.
-/
import Derived.Test.YtdglnbcliemafaaFaintN
import Derived.Deep.Slices
import Derived.Deep.Fields
import Derived.ChangeSame
import Derived.ChangeSlices
namespace Go.Proofs.Ytdglnbcliemafaa
open Go.RowKit
open Go.ChangeShapes Go.WideShapes Go.Deep

theorem list_ofF {α : Type} [Inhabited α] {Q : Nat → α → Prop} : ∀ n, (∀ i, i < n → ∃ a, Q i a) → ∃ la : List α, la.length = n ∧ ∀ i, i < n → Q i (nthG la i)
  | 0, _ => ⟨[], rfl, fun i hi => absurd hi (by omega)⟩
  | n + 1, h => by
    obtain ⟨la, h1, h3⟩ := list_ofF n (fun i hi => h i (by omega))
    obtain ⟨a, hab⟩ := h n (by omega)
    refine ⟨la ++ [a], by simp [h1], fun i hi => ?_⟩
    rcases Nat.lt_succ_iff_lt_or_eq.1 hi with hi | hi
    · rw [nthG_append_left _ _ _ (by omega)]; exact h3 i hi
    · subst hi
      have := nthG_snoc la a
      rw [h1] at this
      rw [this]; exact hab

section
variable {H : Type} {enc : TypeId × Value → H} {w : World}
set_option maxRecDepth 20000 in
theorem elem_faint {n : Nat} {cs : List Value} {y : DataW H × List MemPlace} (h : DataW.trod enc Try.prog w 0 (fun _ => true) true n 32 cs = some y) (hlen : cs.length = 2) :
    ∃ r : Int × Int, cs = runC r ∧ (Lit.int .i64 r.1).wf = true ∧ (Lit.int .i64 r.2).wf = true := by
  have k0 : Try.prog.cellsOf 3 = 1 := by kernel_rfl
  obtain ⟨xs, n', _, _, _, hxl, hf⟩ := DataW.trod_struct Try.underlying32 h
  match cs, hlen with
  | [c0, c1], _ =>
    match xs, hxl with
    | [y0, y1], _ =>
      have g0 : DataW.trod enc Try.prog w 0 (fun _ => true) true n' 3 [c0] = some y0 := by simpa [k0] using hf 0 _ rfl
      have g1 : DataW.trod enc Try.prog w 0 (fun _ => true) true n' 3 [c1] = some y1 := by simpa [k0] using hf 1 _ rfl
      obtain ⟨t0, e0, _, f0⟩ := DataW.trod_int Try.underlying3 g0
      obtain rfl := (List.cons.inj e0).1
      obtain ⟨t1, e1, _, f1⟩ := DataW.trod_int Try.underlying3 g1
      obtain rfl := (List.cons.inj e1).1
      exact ⟨(t0, t1), rfl, f0, f1⟩

theorem open_faints {fuel : Nat} {cs : List Value} {x : DataW H × List MemPlace} (h : DataW.trod enc Try.prog w 0 (fun _ => true) true fuel 24 cs = some x) :
    ∃ A N c l, cs = [.slice A N c] ∧ FaintsIn w A N c l ∧ (N = 0 ∨ ∃ elems spare, x.1 = .slice elems spare ∧ N ≤ elems.length) := by
  have h2 : Try.prog.cellsOf 32 = 2 := by kernel_rfl
  rcases open_slice Try.underlying24 h with ⟨rfl, _⟩ | ⟨a, len, cap, m, n, D, Pl, rfl, _, hl, hm, hmm, rfl, hi⟩
  · exact ⟨none, 0, 0, [], rfl, ⟨Nat.le_refl _, ArrG.zero, by simp⟩, .inl rfl⟩
  · rw [h2] at hi
    have hmc : m = cap := by simpa using hmm
    obtain ⟨l, hr, hall⟩ := list_ofF (Q := fun i (r : Int × Int) => (∀ j, j < 2 → w.cell? (a.add (i * 2 + j)) = (runC r)[j]?) ∧ (Lit.int .i64 r.1).wf = true ∧ (Lit.int .i64 r.2).wf = true) len (fun i hil => by
      obtain ⟨cs', hc, ht⟩ := hi i (by omega)
      obtain ⟨_, hcl, hat⟩ := World.cells?_some hc
      obtain ⟨r, rfl, f⟩ := elem_faint ht hcl
      exact ⟨r, fun j hj => by rw [← Go.Deep.add_add, hat j hj], f⟩)
    refine ⟨some a, len, cap, l, rfl, ⟨by omega, ⟨hr, fun h0 => ?_⟩, fun p hp => ?_⟩, .inr ⟨_, _, rfl, by simp⟩⟩
    · have hc := (hall 0 h0).1 0 (by omega)
      obtain ⟨b, off, spot⟩ := a
      have hspot : spot = none := by simpa [Addr.add, runC] using World.cell?_spot (hc.trans (by rfl))
      subst hspot
      have hadd : ∀ j, (⟨b, off, none⟩ : Addr).add j = ⟨b, off + j, none⟩ := fun j => by unfold Addr.add; split <;> simp_all
      refine ⟨b, off, rfl, ?_, fun j hj i hi => ?_⟩
      · rw [hadd] at hc
        rcases Nat.lt_or_ge b w.heap.size with h | h
        · exact h
        · simp [World.cell?, Array.getElem?_eq_none h, runC] at hc
      · have := (hall j hj).1 i hi
        rw [hadd] at this
        rw [Nat.add_assoc]
        exact this
    · obtain ⟨j, hj, e⟩ := List.getElem_of_mem hp
      have := (hall j (by omega)).2
      rwa [nthG_get _ _ hj, e] at this
end
end Go.Proofs.Ytdglnbcliemafaa
