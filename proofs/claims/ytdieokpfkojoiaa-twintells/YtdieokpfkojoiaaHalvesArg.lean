/-
  Halves as they come in: an order and a slice of rooms.
-/
import Derived.Test.YtdieokpfkojoiaaTwinC
import Derived.Test.YtdieokpfkojoiaaRunArg
namespace Go.Proofs.Ytdieokpfkojoiaa
open Go.RowKit
open Go.ChangeShapes Go.WideShapes Go.Deep

/-- What is known of a slice of rooms that came in. -/
def HalvesIn (w : World) (A : Option Addr) (N c : Nat) (l : List Room) : Prop := N ≤ c ∧ RoomsIn w A N l

section
variable {H : Type} {enc : TypeId × Value → H} {w : World}
set_option maxRecDepth 20000 in
theorem elem_room {n : Nat} {cs : List Value} {y : DataW H × List MemPlace} (h : DataW.trod enc Try.prog w 0 (fun _ => true) true n 42 cs = some y) (hlen : cs.length = 3) :
    ∃ r : Room, cs = roomC r ∧ wf3 r := by
  have k0 : Try.prog.cellsOf 3 = 1 := by kernel_rfl
  obtain ⟨xs, n', _, _, _, hxl, hf⟩ := DataW.trod_struct Try.underlying42 h
  match cs, hlen with
  | [c0, c1, c2], _ =>
    match xs, hxl with
    | [y0, y1, y2], _ =>
      have g0 : DataW.trod enc Try.prog w 0 (fun _ => true) true n' 3 [c0] = some y0 := by simpa [k0] using hf 0 _ rfl
      have g1 : DataW.trod enc Try.prog w 0 (fun _ => true) true n' 3 [c1] = some y1 := by simpa [k0] using hf 1 _ rfl
      have g2 : DataW.trod enc Try.prog w 0 (fun _ => true) true n' 3 [c2] = some y2 := by simpa [k0] using hf 2 _ rfl
      obtain ⟨t0, e0, _, v0⟩ := DataW.trod_int Try.underlying3 g0
      obtain rfl := (List.cons.inj e0).1
      obtain ⟨t1, e1, _, v1⟩ := DataW.trod_int Try.underlying3 g1
      obtain rfl := (List.cons.inj e1).1
      obtain ⟨t2, e2, _, v2⟩ := DataW.trod_int Try.underlying3 g2
      obtain rfl := (List.cons.inj e2).1
      exact ⟨(t0, t1, t2), rfl, v0, v1, v2⟩

theorem open_rooms {fuel : Nat} {cs : List Value} {x : DataW H × List MemPlace} (h : DataW.trod enc Try.prog w 0 (fun _ => true) true fuel 22 cs = some x) :
    ∃ A N c l, cs = [.slice A N c] ∧ HalvesIn w A N c l := by
  have h2 : Try.prog.cellsOf 42 = 3 := by kernel_rfl
  rcases open_slice Try.underlying22 h with ⟨rfl, _⟩ | ⟨a, len, cap, m, n, D, Pl, rfl, _, hl, hm, hmm, rfl, hi⟩
  · exact ⟨none, 0, 0, [], rfl, Nat.le_refl _, Nat.zero_le _, ArrG.zero, fun j hj => absurd hj (by omega)⟩
  · rw [h2] at hi
    have hmc : m = cap := by simpa using hmm
    obtain ⟨l, hr, hall⟩ := list_of (Q := fun i (r : Room) => wf3 r ∧ ∀ j, j < 3 → w.cell? (a.add (i * 3 + j)) = (roomC r)[j]?) len (fun i hil => by
      obtain ⟨cs', hc, ht⟩ := hi i (by omega)
      obtain ⟨_, hcl, hat⟩ := World.cells?_some hc
      obtain ⟨r, rfl, hw⟩ := elem_room ht hcl
      exact ⟨r, hw, fun j hj => by rw [← Go.Deep.add_add, hat j hj]⟩)
    refine ⟨some a, len, cap, l, rfl, hl, Nat.le_trans hl hm, ⟨hr, fun h0 => ?_⟩, fun j hj => (hall j hj).1⟩
    have hc := (hall 0 h0).2 0 (by omega)
    obtain ⟨b, off, spot⟩ := a
    have hspot : spot = none := by simpa [Addr.add, roomC] using World.cell?_spot (hc.trans (by rfl))
    subst hspot
    have hadd : ∀ j, (⟨b, off, none⟩ : Addr).add j = ⟨b, off + j, none⟩ := fun j => by unfold Addr.add; split <;> simp_all
    refine ⟨b, off, rfl, ?_, fun j hj i hi => ?_⟩
    · rw [hadd] at hc
      rcases Nat.lt_or_ge b w.heap.size with h | h
      · exact h
      · simp [World.cell?, Array.getElem?_eq_none h, roomC] at hc
    · have := (hall j hj).2 i hi
      rw [hadd] at this
      rw [Nat.add_assoc]
      exact this
end
end Go.Proofs.Ytdieokpfkojoiaa
