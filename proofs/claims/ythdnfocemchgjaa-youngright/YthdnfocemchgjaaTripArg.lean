/-
  A slice of arrays of three integers as it comes in.
-/
import Derived.Test.YthdnfocemchgjaaRunArg
import Derived.Test.YthdnfocemchgjaaTwinM
import Derived.OpenShut
namespace Go.Proofs.Ythdnfocemchgjaa
open Go.RowKit
open Go.ChangeShapes Go.WideShapes Go.Deep

/-- What is known of a slice of triples that came in. -/
def TripsIn (w : World) (A : Option Addr) (N : Nat) (l : List Room) : Prop := N ≤ maxLen ∧ ArrG roomC 3 w w.heap.size A N l ∧ ∀ p ∈ l, (Lit.int .i64 p.1).wf = true ∧ (Lit.int .i64 p.2.1).wf = true ∧ (Lit.int .i64 p.2.2).wf = true
section
variable {H : Type} {enc : TypeId × Value → H} {w : World}
set_option maxRecDepth 20000 in
theorem elem_trip {n : Nat} {cs : List Value} {y : DataW H × List MemPlace} (h : DataW.trod enc Try.prog w 0 (fun _ => true) true n 38 cs = some y) (hlen : cs.length = 3) :
    ∃ r : Room, cs = roomC r ∧ (Lit.int .i64 r.1).wf = true ∧ (Lit.int .i64 r.2.1).wf = true ∧ (Lit.int .i64 r.2.2).wf = true := by
  have k0 : Try.prog.cellsOf 3 = 1 := by kernel_rfl
  obtain ⟨xs, n', _, _, _, hxl, hf⟩ := DataW.trod_array Try.underlying38 h
  match cs, hlen with
  | [c0, c1, c2], _ =>
    match xs, hxl with
    | [y0, y1, y2], _ =>
      have g0 : DataW.trod enc Try.prog w 0 (fun _ => true) true n' 3 [c0] = some y0 := by simpa [k0] using hf 0 (by omega)
      have g1 : DataW.trod enc Try.prog w 0 (fun _ => true) true n' 3 [c1] = some y1 := by simpa [k0] using hf 1 (by omega)
      have g2 : DataW.trod enc Try.prog w 0 (fun _ => true) true n' 3 [c2] = some y2 := by simpa [k0] using hf 2 (by omega)
      obtain ⟨t0, e0, _, w0⟩ := DataW.trod_int Try.underlying3 g0
      obtain rfl := (List.cons.inj e0).1
      obtain ⟨t1, e1, _, w1⟩ := DataW.trod_int Try.underlying3 g1
      obtain rfl := (List.cons.inj e1).1
      obtain ⟨t2, e2, _, w2⟩ := DataW.trod_int Try.underlying3 g2
      obtain rfl := (List.cons.inj e2).1
      exact ⟨(t0, t1, t2), rfl, w0, w1, w2⟩

theorem open_trips {fuel : Nat} {cs : List Value} {x : DataW H × List MemPlace} (h : DataW.trod enc Try.prog w 0 (fun _ => true) true fuel 36 cs = some x) :
    ∃ A N c l, cs = [.slice A N c] ∧ TripsIn w A N l := by
  have h2 : Try.prog.cellsOf 38 = 3 := by kernel_rfl
  rcases open_slice Try.underlying36 h with ⟨rfl, _⟩ | ⟨a, len, cap, m, n, D, Pl, rfl, _, hl, hm, hmm, rfl, hi⟩
  · exact ⟨none, 0, 0, [], rfl, Nat.zero_le _, ArrG.zero, fun p hp => by cases hp⟩
  · rw [h2] at hi
    have hmc : m = cap := by simpa using hmm
    obtain ⟨l, hr, hall⟩ := list_of (Q := fun i (r : Room) => (∀ j, j < 3 → w.cell? (a.add (i * 3 + j)) = (roomC r)[j]?) ∧ (Lit.int .i64 r.1).wf = true ∧ (Lit.int .i64 r.2.1).wf = true ∧ (Lit.int .i64 r.2.2).wf = true) len (fun i hil => by
      obtain ⟨cs', hc, ht⟩ := hi i (by omega)
      obtain ⟨_, hcl, hat⟩ := World.cells?_some hc
      obtain ⟨r, rfl, hw⟩ := elem_trip ht hcl
      exact ⟨r, fun j hj => by rw [← Go.Deep.add_add, hat j hj], hw⟩)
    refine ⟨some a, len, cap, l, rfl, Nat.le_trans hl hm, ⟨hr, fun h0 => ?_⟩, fun p hp => ?_⟩
    · have hc := (hall 0 h0).1 0 (by omega)
      obtain ⟨b, off, spot⟩ := a
      have hspot : spot = none := by simpa [Addr.add, roomC] using World.cell?_spot (hc.trans (by rfl))
      subst hspot
      have hadd : ∀ j, (⟨b, off, none⟩ : Addr).add j = ⟨b, off + j, none⟩ := fun j => by unfold Addr.add; split <;> simp_all
      refine ⟨b, off, rfl, ?_, fun j hj i hi => ?_⟩
      · rw [hadd] at hc
        rcases Nat.lt_or_ge b w.heap.size with h | h
        · exact h
        · simp [World.cell?, Array.getElem?_eq_none h, roomC] at hc
      · have := (hall j hj).1 i hi
        rw [hadd] at this
        rw [Nat.add_assoc]
        exact this
    · obtain ⟨i, hi', e⟩ := List.getElem_of_mem hp
      have := (hall i (by omega)).2
      rw [nthG_get l i hi', e] at this
      exact this
end
end Go.Proofs.Ythdnfocemchgjaa
