/-
  A slice of descriptions as it comes in: its cells, and what they say.
-/
import Derived.Test.YtjefbekdjgmmbaaLayParts
import Derived.Deep.Slices
import Derived.Deep.Fields
import Derived.ChangeSame
import Derived.ChangeSlices
namespace Go.Proofs.Ytjefbekdjgmmbaa
open Go.RowKit
open Go.ChangeShapes Go.WideShapes Go.Deep

theorem lists_of {α β : Type} [Inhabited α] [Inhabited β] {Q : Nat → α → β → Prop} : ∀ n, (∀ i, i < n → ∃ a b, Q i a b) → ∃ (la : List α) (lb : List β), la.length = n ∧ lb.length = n ∧ ∀ i, i < n → Q i (nthG la i) (nthG lb i)
  | 0, _ => ⟨[], [], rfl, rfl, fun i hi => absurd hi (by omega)⟩
  | n + 1, h => by
    obtain ⟨la, lb, h1, h2, h3⟩ := lists_of n (fun i hi => h i (by omega))
    obtain ⟨a, b, hab⟩ := h n (by omega)
    refine ⟨la ++ [a], lb ++ [b], by simp [h1], by simp [h2], fun i hi => ?_⟩
    rcases Nat.lt_succ_iff_lt_or_eq.1 hi with hi | hi
    · rw [nthG_get _ _ (by simp; omega), nthG_get _ _ (by simp; omega), List.getElem_append_left (by omega), List.getElem_append_left (by omega)]
      have := h3 i hi
      rwa [nthG_get _ _ (by omega), nthG_get _ _ (by omega)] at this
    · subst hi
      rw [nthG_get _ _ (by simp; omega), nthG_get _ _ (by simp; omega), List.getElem_append_right (by omega), List.getElem_append_right (by omega)]
      simpa [h1, h2] using hab

section
variable {H : Type} {enc : TypeId × Value → H} {w : World}
set_option maxRecDepth 20000 in
theorem elem_obj {n : Nat} {cs : List Value} {y : DataW H × List MemPlace} (h : DataW.trod enc Try.prog w 0 (fun _ => true) true n 41 cs = some y) (hlen : cs.length = 4) :
    ∃ (r : Raw) (o : Ob), cs = rawC r ∧ ObV w 0 w.heap.size r o ∧ r.rn ≤ maxLen ∧ r.bn ≤ maxLen := by
  have k0 : Try.prog.cellsOf 3 = 1 := by kernel_rfl
  have k1 : Try.prog.cellsOf 23 = 1 := by kernel_rfl
  have k2 : Try.prog.cellsOf 22 = 1 := by kernel_rfl
  have k3 : Try.prog.cellsOf 4 = 1 := by kernel_rfl
  obtain ⟨xs, n', _, _, _, hxl, hf⟩ := DataW.trod_struct Try.underlying41 h
  match cs, hlen with
  | [c0, c1, c2, c3], _ =>
    match xs, hxl with
    | [y0, y1, y2, y3], _ =>
      have g0 : DataW.trod enc Try.prog w 0 (fun _ => true) true n' 3 [c0] = some y0 := by simpa [k0] using hf 0 _ rfl
      have g1 : DataW.trod enc Try.prog w 0 (fun _ => true) true n' 23 [c1] = some y1 := by simpa [k1] using hf 1 _ rfl
      have g2 : DataW.trod enc Try.prog w 0 (fun _ => true) true n' 22 [c2] = some y2 := by simpa [k2] using hf 2 _ rfl
      have g3 : DataW.trod enc Try.prog w 0 (fun _ => true) true n' 4 [c3] = some y3 := by simpa [k3] using hf 3 _ rfl
      obtain ⟨t, e0, _, _⟩ := DataW.trod_int Try.underlying3 g0
      obtain rfl := (List.cons.inj e0).1
      obtain ⟨f, e3, _⟩ := DataW.trod_bool Try.underlying4 g3
      obtain rfl := (List.cons.inj e3).1
      obtain ⟨ra, rn, rc, z1, hc1, w1⟩ : ∃ (a : Option Addr) (l c : Nat) (zs : List Int), c1 = .slice a l c ∧ ((a = none ∧ l = 0 ∧ c = 0 ∧ zs = []) ∨ ∃ x, a = some x ∧ l ≤ c ∧ c ≤ maxLen ∧ zs.length = c ∧ (∀ i, i < zs.length → w.cell? (x.add i) = some (.int .i64 (zs.getD i 0))) ∧ ∀ n ∈ zs, (Lit.int .i64 n).wf = true) := by
        rcases open_ints Try.underlying23 Try.underlying3 (by kernel_rfl) g1 with ⟨hcs, _⟩ | ⟨x, l, c, zs, hcs, _, hl, hm, hz, _, hcell, hwz⟩
        · exact ⟨none, 0, 0, [], (List.cons.inj hcs).1, .inl ⟨rfl, rfl, rfl, rfl⟩⟩
        · exact ⟨some x, l, c, zs, (List.cons.inj hcs).1, .inr ⟨x, rfl, hl, hm, by simpa using hz, hcell, hwz⟩⟩
      obtain ⟨ba, bn, bc, z2, hc2, w2⟩ : ∃ (a : Option Addr) (l c : Nat) (zs : List Int), c2 = .slice a l c ∧ ((a = none ∧ l = 0 ∧ c = 0 ∧ zs = []) ∨ ∃ x, a = some x ∧ l ≤ c ∧ c ≤ maxLen ∧ zs.length = c ∧ (∀ i, i < zs.length → w.cell? (x.add i) = some (.int .u64 (zs.getD i 0))) ∧ ∀ n ∈ zs, (Lit.int .u64 n).wf = true) := by
        rcases open_ints Try.underlying22 Try.underlying47 (by kernel_rfl) g2 with ⟨hcs, _⟩ | ⟨x, l, c, zs, hcs, _, hl, hm, hz, _, hcell, hwz⟩
        · exact ⟨none, 0, 0, [], (List.cons.inj hcs).1, .inl ⟨rfl, rfl, rfl, rfl⟩⟩
        · exact ⟨some x, l, c, zs, (List.cons.inj hcs).1, .inr ⟨x, rfl, hl, hm, by simpa using hz, hcell, hwz⟩⟩
      subst hc1 hc2
      obtain ⟨m1, l1, a1⟩ := arr_of_row w1
      obtain ⟨m2, l2, a2⟩ := arr_of_row w2
      exact ⟨⟨t, ra, rn, rc, ba, bn, bc, f⟩, (t, z1.take rn, z2.take bn, f), rfl, ⟨rfl, rfl, l1, l2, a1, fun _ _ _ _ => Nat.zero_le _, a2, fun _ _ _ _ => Nat.zero_le _⟩, m1, m2⟩

set_option maxRecDepth 20000 in
theorem open_objects {fuel : Nat} {cs : List Value} {x : DataW H × List MemPlace} (h : DataW.trod enc Try.prog w 0 (fun _ => true) true fuel 24 cs = some x) :
    ∃ A N c raws os, cs = [.slice A N c] ∧ N ≤ c ∧ ObsAt w 0 w.heap.size A N raws os ∧ (∀ j, j < N → (nthG raws j).rn ≤ maxLen ∧ (nthG raws j).bn ≤ maxLen) ∧ (N = 0 ∨ ∃ elems spare, x.1 = .slice elems spare ∧ N ≤ elems.length) := by
  have h4 : Try.prog.cellsOf 41 = 4 := by kernel_rfl
  rcases open_slice Try.underlying24 h with ⟨rfl, _⟩ | ⟨a, len, cap, m, n, D, Pl, rfl, _, hl, hm, hmm, rfl, hi⟩
  · exact ⟨none, 0, 0, [], [], rfl, Nat.le_refl _, ⟨rfl, ArrG.zero, fun j hj => absurd hj (by omega)⟩, fun j hj => absurd hj (by omega), .inl rfl⟩
  · rw [h4] at hi
    have hmc : m = cap := by simpa using hmm
    obtain ⟨raws, os, hr, ho, hall⟩ := lists_of (Q := fun i (r : Raw) (o : Ob) => (∀ j, j < 4 → w.cell? (a.add (i * 4 + j)) = (rawC r)[j]?) ∧ ObV w 0 w.heap.size r o ∧ r.rn ≤ maxLen ∧ r.bn ≤ maxLen) len (fun i hil => by
      obtain ⟨cs', hc, ht⟩ := hi i (by omega)
      obtain ⟨_, hcl, hat⟩ := World.cells?_some hc
      obtain ⟨r, o, rfl, hV, h1, h2⟩ := elem_obj ht hcl
      exact ⟨r, o, fun j hj => by rw [← Go.Deep.add_add, hat j hj], hV, h1, h2⟩)
    refine ⟨some a, len, cap, raws, os, rfl, hl, ⟨ho, ⟨hr, fun h0 => ?_⟩, fun j hj => (hall j hj).2.1⟩, fun j hj => (hall j hj).2.2, .inr ⟨_, _, rfl, by simp⟩⟩
    have hc := (hall 0 h0).1 0 (by omega)
    obtain ⟨b, off, spot⟩ := a
    have hspot : spot = none := by simpa [Addr.add, rawC] using World.cell?_spot (hc.trans (by rfl))
    subst hspot
    have hadd : ∀ j, (⟨b, off, none⟩ : Addr).add j = ⟨b, off + j, none⟩ := fun j => by unfold Addr.add; split <;> simp_all
    refine ⟨b, off, rfl, ?_, fun j hj i hi => ?_⟩
    · rw [hadd] at hc
      rcases Nat.lt_or_ge b w.heap.size with h | h
      · exact h
      · simp [World.cell?, Array.getElem?_eq_none h, rawC] at hc
    · have := (hall j hj).1 i hi
      rw [hadd] at this
      rw [Nat.add_assoc]
      exact this
end
/-- What is known of a slice of descriptions that came in. -/
def ObsIn (w : World) (A : Option Addr) (N c : Nat) (raws : List Raw) (os : List Ob) : Prop := N ≤ c ∧ N ≤ 140737488355328 ∧ ObsAt w 0 w.heap.size A N raws os ∧ ∀ j, j < N → (nthG raws j).rn ≤ maxLen ∧ (nthG raws j).bn ≤ maxLen
end Go.Proofs.Ytjefbekdjgmmbaa
