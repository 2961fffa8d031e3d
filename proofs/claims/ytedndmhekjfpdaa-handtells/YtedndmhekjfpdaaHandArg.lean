/-
  Handles as they come in: its cells, and what they say.
-/
import Derived.Test.YtedndmhekjfpdaaHandM
import Derived.Test.YtedndmhekjfpdaaPinArg
import Derived.Deep.Slices
import Derived.Deep.Fields
import Derived.ChangeSame
import Derived.ChangeSlices
namespace Go.Proofs.Ytedndmhekjfpdaa
open Go.RowKit
open Go.ChangeShapes Go.WideShapes Go.Deep

/-- What is known of handles that came in. -/
def HandsIn (w : World) (A : Option Addr) (N : Nat) (l : List Slt) : Prop := N ≤ maxLen ∧ ArrG slotC 3 w w.heap.size A N l

section
variable {H : Type} {enc : TypeId × Value → H} {w : World}
set_option maxRecDepth 20000 in
theorem elem_slot {n : Nat} {cs : List Value} {y : DataW H × List MemPlace} (h : DataW.trod enc Try.prog w 0 (fun _ => true) true n 41 cs = some y) (hlen : cs.length = 3) :
    ∃ r : Slt, cs = slotC r := by
  have k0 : Try.prog.cellsOf 3 = 1 := by kernel_rfl
  have k1 : Try.prog.cellsOf 4 = 1 := by kernel_rfl
  obtain ⟨xs, n', _, _, _, hxl, hf⟩ := DataW.trod_struct Try.underlying41 h
  match cs, hlen with
  | [c0, c1, c2], _ =>
    match xs, hxl with
    | [y0, y1, y2], _ =>
      have g0 : DataW.trod enc Try.prog w 0 (fun _ => true) true n' 3 [c0] = some y0 := by simpa [k0] using hf 0 _ rfl
      have g1 : DataW.trod enc Try.prog w 0 (fun _ => true) true n' 4 [c1] = some y1 := by simpa [k1] using hf 1 _ rfl
      have g2 : DataW.trod enc Try.prog w 0 (fun _ => true) true n' 3 [c2] = some y2 := by simpa [k0] using hf 2 _ rfl
      obtain ⟨t0, e0, _, _⟩ := DataW.trod_int Try.underlying3 g0
      obtain rfl := (List.cons.inj e0).1
      obtain ⟨t1, e1, _⟩ := DataW.trod_bool Try.underlying4 g1
      obtain rfl := (List.cons.inj e1).1
      obtain ⟨t2, e2, _, _⟩ := DataW.trod_int Try.underlying3 g2
      obtain rfl := (List.cons.inj e2).1
      exact ⟨(t0, t1, t2), rfl⟩

theorem open_hands {fuel : Nat} {cs : List Value} {x : DataW H × List MemPlace} (h : DataW.trod enc Try.prog w 0 (fun _ => true) true fuel 23 cs = some x) :
    ∃ A N c l, cs = [.slice A N c] ∧ HandsIn w A N l ∧ (N = 0 ∨ ∃ elems spare, x.1 = .slice elems spare ∧ N ≤ elems.length) := by
  have h2 : Try.prog.cellsOf 41 = 3 := by kernel_rfl
  rcases open_slice Try.underlying23 h with ⟨rfl, _⟩ | ⟨a, len, cap, m, n, D, Pl, rfl, _, hl, hm, hmm, rfl, hi⟩
  · exact ⟨none, 0, 0, [], rfl, ⟨Nat.zero_le _, ArrG.zero⟩, .inl rfl⟩
  · rw [h2] at hi
    have hmc : m = cap := by simpa using hmm
    obtain ⟨l, hr, hall⟩ := list_ofP (Q := fun i (r : Slt) => ∀ j, j < 3 → w.cell? (a.add (i * 3 + j)) = (slotC r)[j]?) len (fun i hil => by
      obtain ⟨cs', hc, ht⟩ := hi i (by omega)
      obtain ⟨_, hcl, hat⟩ := World.cells?_some hc
      obtain ⟨r, rfl⟩ := elem_slot ht hcl
      exact ⟨r, fun j hj => by rw [← Go.Deep.add_add, hat j hj]⟩)
    refine ⟨some a, len, cap, l, rfl, ⟨Nat.le_trans hl hm, hr, fun h0 => ?_⟩, .inr ⟨_, _, rfl, by simp⟩⟩
    have hc := hall 0 h0 0 (by omega)
    obtain ⟨b, off, spot⟩ := a
    have hspot : spot = none := by simpa [Addr.add, slotC] using World.cell?_spot (hc.trans (by rfl))
    subst hspot
    have hadd : ∀ j, (⟨b, off, none⟩ : Addr).add j = ⟨b, off + j, none⟩ := fun j => by unfold Addr.add; split <;> simp_all
    refine ⟨b, off, rfl, ?_, fun j hj i hi => ?_⟩
    · rw [hadd] at hc
      rcases Nat.lt_or_ge b w.heap.size with h | h
      · exact h
      · simp [World.cell?, Array.getElem?_eq_none h, slotC] at hc
    · have := hall j hj i hi
      rw [hadd] at this
      rw [Nat.add_assoc]
      exact this
theorem open_pinsZ {fuel : Nat} {cs : List Value} {x : DataW H × List MemPlace} (h : DataW.trod enc Try.prog w 0 (fun _ => true) true fuel 54 cs = some x) :
    ∃ A N c l, cs = [.slice A N c] ∧ PinsIn w A N l ∧ (N = 0 ∨ ∃ elems spare, x.1 = .slice elems spare ∧ N ≤ elems.length) := by
  obtain ⟨A, N, c, l, hcs, hl⟩ := open_pins h
  refine ⟨A, N, c, l, hcs, hl, ?_⟩
  rcases open_slice Try.underlying54 h with ⟨h1, _⟩ | ⟨a, len, cap, m, n, D, Pl, h1, _, hl, hm, hmm, rfl, hi⟩
  · rw [h1] at hcs
    injection hcs with h2
    injection h2 with _ h3
    exact .inl h3.symm
  · rw [h1] at hcs
    injection hcs with h2
    injection h2 with _ h3
    subst h3
    exact .inr ⟨_, _, rfl, by simp⟩
end
end Go.Proofs.Ytedndmhekjfpdaa
