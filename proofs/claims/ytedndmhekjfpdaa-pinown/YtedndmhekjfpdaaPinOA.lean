/-
  PinOwn: what is told up to its capacity, while it is written into; the law's closure; the calls whose answers are written into.
-/
import Derived.Test.YtedndmhekjfpdaaPinR
import Derived.Test.YtedndmhekjfpdaaHandR
import Derived.Test.YtedndmhekjfpdaaPinOJ
import Derived.OpenShut
namespace Go.Proofs.Ytedndmhekjfpdaa
open Go.RowKit

/-- All the memory of a slice, up to its capacity, is a row from 'base' on. -/
def SpareG {α : Type} (enc : α → List Value) (size : Nat) (e : TypeId) (w : World) (base : Nat) (A : Option Addr) (c : Nat) : Prop := ∃ xs : List α, xs.length = c ∧ c ≤ maxLen ∧ OwnG enc size e w base (.slice A c c) xs
section
variable {α : Type} {enc : α → List Value} {size : Nat} {e : TypeId} {w w' : World} {base n c : Nat} {A : Option Addr} {l : List α}
theorem FullG.spare (h : FullG enc size e w base A n c l) : SpareG enc size e w base A c := by
  obtain ⟨_, _, h3, _, sp, h5, h6⟩ := h
  exact ⟨_, h5, h3, h6⟩
theorem SpareG.nil : SpareG enc size e w base none 0 := ⟨[], rfl, Nat.zero_le _, OwnG.nil⟩
theorem SpareG.below (h : SpareG enc size e w base A c) (hb : Below w.heap.size w w') : SpareG enc size e w' base A c := by
  obtain ⟨xs, h1, h2, h3⟩ := h
  exact ⟨xs, h1, h2, h3.below hb⟩
theorem SpareG.less {base' : Nat} (h : SpareG enc size e w base A c) (hb : base' ≤ base) : SpareG enc size e w base' A c := by
  obtain ⟨xs, h1, h2, h3⟩ := h
  exact ⟨xs, h1, h2, h3.lessH hb⟩
/-- A store into a block of another type. -/
theorem SpareG.other {g : Nat} {cs : Array Value} {t : TypeId} (h : SpareG enc size e w base A c) (hg : w.heap[g]? = some (.cells cs t (0, 0))) (ht : t ≠ e) (j : Nat) (d : Value) : SpareG enc size e (w.setCell ⟨g, j, none⟩ d) base A c := by
  obtain ⟨xs, h1, h2, h3, h4⟩ := h
  refine ⟨xs, h1, h2, h3, h4.imp id ?_⟩
  rintro ⟨g', cap, cur, hv, hb, hh, r⟩
  refine ⟨g', cap, cur, hv, hb, ?_, r⟩
  have hne : g ≠ g' := by
    rintro rfl
    rw [hg] at hh
    injection hh with hh
    injection hh with _ hh
    exact ht hh
  show (w.heap.modify g _)[g']? = _
  rw [Array.getElem?_modify, if_neg hne]
  exact hh
end
theorem SpareG.setP {e : TypeId} {w : World} {base c : Nat} {A : Option Addr} (h : SpareG runC 2 e w base A c) (g j : Nat) (z : Int) : SpareG runC 2 e (w.setCell ⟨g, j, none⟩ (.int .i64 z)) base A c := by
  obtain ⟨xs, h1, h2, h3, h4⟩ := h
  rcases h4 with h4 | ⟨g', cap, cur, hv, hb, hh, hc, hcm, hsz, ht⟩
  · exact ⟨xs, h1, h2, h3, .inl h4⟩
  · by_cases hg : g = g'
    · subst hg
      have e3 : c = cap := by injection hv
      subst e3
      have hcur : cur.toList = xs.flatMap runC := by rw [← ht, List.take_of_length_le (by simp [hsz, h1])]
      have hI : allI (cur.setIfInBounds j (.int .i64 z)).toList := by
        rw [Array.toList_setIfInBounds]
        intro v hv
        rcases List.mem_or_eq_of_mem_set hv with h | h
        · rw [hcur] at h; exact allI_flat xs v h
        · exact ⟨z, h⟩
      obtain ⟨ys, hy, hyr⟩ := pairs_of (c := c) (cur := (cur.setIfInBounds j (.int .i64 z)).toList) (by simp [hsz]) hI
      refine ⟨ys, hy, h2, flat_length runC_len ys, .inr ⟨g, c, cur.setIfInBounds j (.int .i64 z), by rw [hv, hy, h1], hb, by simp [World.setCell, Array.getElem?_modify, hh], by omega, hcm, by simp [hsz], ?_⟩⟩
      rw [hyr, List.take_of_length_le (by rw [flat_length runC_len]; exact Nat.le_refl _)]
    · refine ⟨xs, h1, h2, h3, .inr ⟨g', cap, cur, hv, hb, ?_, hc, hcm, hsz, ht⟩⟩
      show (w.heap.modify g _)[g']? = _
      rw [Array.getElem?_modify, if_neg hg]
      exact hh
theorem SpareG.setS {e : TypeId} {w : World} {base c : Nat} {A : Option Addr} (h : SpareG slotC 3 e w base A c) (g i : Nat) (z : Int) : SpareG slotC 3 e (w.setCell ⟨g, i * 3, none⟩ (.int .i64 z)) base A c := by
  obtain ⟨xs, h1, h2, h3⟩ := h
  rcases h3.2 with h4 | ⟨g', cap, cur, hv, hb, hh, hc, hcm, hsz, ht⟩
  · exact ⟨xs, h1, h2, h3.1, .inl h4⟩
  · by_cases hg : g = g'
    · subst hg
      have e1 : A = some ⟨g, 0, none⟩ := by injection hv
      subst e1
      by_cases hi : i < xs.length
      · exact ⟨_, by rw [List.length_set]; exact h1, h2, h3.oneS i 0 (z, (nthG xs i).2.1, (nthG xs i).2.2) (.int .i64 z) hi (by omega) rfl⟩
      · refine ⟨xs, h1, h2, h3.1, .inr ⟨g, cap, cur, hv, hb, ?_, hc, hcm, hsz, ht⟩⟩
        have e3 : c = cap := by injection hv
        have hno : cur.setIfInBounds (i * 3) (.int .i64 z) = cur := by
          apply Array.ext'
          rw [Array.toList_setIfInBounds, List.set_eq_of_length_le (by simp [hsz]; omega)]
        simp [World.setCell, Array.getElem?_modify, hh, hno]
    · refine ⟨xs, h1, h2, h3.1, .inr ⟨g', cap, cur, hv, hb, ?_, hc, hcm, hsz, ht⟩⟩
      show (w.heap.modify g _)[g']? = _
      rw [Array.getElem?_modify, if_neg hg]
      exact hh
/-- The cells of element 'p'. -/
theorem SpareG.atP {e : TypeId} {w : World} {base c : Nat} {A : Option Addr} (h : SpareG runC 2 e w base A c) {p : Nat} (hp : p < c) :
    ∃ g z cs, A = some ⟨g, 0, none⟩ ∧ base ≤ g ∧ w.heap[g]? = some (.cells cs e (0, 0)) ∧ w.cell? ⟨g, p * 2 + 1, none⟩ = some (.int .i64 z) ∧ w.frozen? ⟨g, p * 2 + 1, none⟩ = false := by
  obtain ⟨xs, h1, h2, h3⟩ := h
  obtain ⟨g, cap, hv, _, hb, hlt, hc, _⟩ := h3.form runC_len (by omega)
  have e1 : A = some ⟨g, 0, none⟩ := by injection hv
  rcases h3.2 with ⟨_, h4⟩ | ⟨g', cap', cur, hv', _, hh, _⟩
  · omega
  · have e2 : A = some ⟨g', 0, none⟩ := by injection hv'
    rw [e1] at e2
    injection e2 with e2
    injection e2 with e2
    subst e2
    exact ⟨g, _, _, e1, hb, hh, (hc p (by omega) 1 (by omega)).1, (hc p (by omega) 1 (by omega)).2⟩
theorem SpareG.atS {e : TypeId} {w : World} {base c : Nat} {A : Option Addr} (h : SpareG slotC 3 e w base A c) {p : Nat} (hp : p < c) :
    ∃ g z cs, A = some ⟨g, 0, none⟩ ∧ base ≤ g ∧ w.heap[g]? = some (.cells cs e (0, 0)) ∧ w.cell? ⟨g, p * 3, none⟩ = some (.int .i64 z) ∧ w.frozen? ⟨g, p * 3, none⟩ = false := by
  obtain ⟨xs, h1, h2, h3⟩ := h
  obtain ⟨g, cap, hv, _, hb, hlt, hc, _⟩ := h3.form slotC_len (by omega)
  have e1 : A = some ⟨g, 0, none⟩ := by injection hv
  rcases h3.2 with ⟨_, h4⟩ | ⟨g', cap', cur, hv', _, hh, _⟩
  · omega
  · have e2 : A = some ⟨g', 0, none⟩ := by injection hv'
    rw [e1] at e2
    injection e2 with e2
    injection e2 with e2
    subst e2
    exact ⟨g, _, _, e1, hb, hh, (hc p (by omega) 0 (by omega)).1, (hc p (by omega) 0 (by omega)).2⟩

/-- A call that tells pins of its own. -/
def GivesPins (w : World) (e : Ending) (w' : World) : Prop := ∃ A m c k E, e = .returned (.tuple #[.slice A m c, .int .i64 k, .int .i64 E]) ∧ Below w.heap.size w w' ∧ m ≤ c ∧ c ≤ maxLen ∧ SpareG runC 2 57 w' w.heap.size A c
theorem NoPins.gives {E : Int} {w w' : World} {e : Ending} (h : NoPins E w e w') : GivesPins w e w' := by
  obtain ⟨he, hb⟩ := h
  exact ⟨none, 0, 0, 0, E, he, hb, Nat.le_refl _, Nat.zero_le _, SpareG.nil⟩
theorem NewPinsF.gives {l : List (Int × Int)} {k : Int} {w w' : World} {e : Ending} (h : NewPinsF l k w e w') : GivesPins w e w' := by
  obtain ⟨A, m, c, he, hF, hb⟩ := h
  exact ⟨A, m, c, k, 0, he, hb, hF.2.1, hF.2.2.1, hF.spare⟩
theorem add_gives (A : Option Addr) (n c : Nat) (l : List (Int × Int)) (a : Int) (w : World) (hn : n ≤ maxLen) (ha : ArrG runC 2 w w.heap.size A n l) : Calls Try.prog 30 #[.slice A n c, .int .i64 a] w (GivesPins w) := by
  by_cases hE : addE l a = 0
  · exact (add_full A n c l a w ha hE).mono fun _ _ h => h.gives
  · exact (add_bad A n c l a w hn ha hE).mono fun _ _ h => h.gives
theorem drop_gives (A : Option Addr) (n c : Nat) (l : List (Int × Int)) (a : Int) (w : World) (hn : n ≤ maxLen) (ha : ArrG runC 2 w w.heap.size A n l) : Calls Try.prog 31 #[.slice A n c, .int .i64 a] w (GivesPins w) := by
  by_cases hE : dropE l a = 0
  · exact (drop_full A n c l a w ha hE).mono fun _ _ h => h.gives
  · exact (drop_bad A n c l a w hn ha hE).mono fun _ _ h => h.gives

set_option maxHeartbeats 400000 in
theorem pinsAliveO (w : World) : Calls Try.prog 25 #[] w fun e w' => e = .returned (.bool true) ∧ Below w.heap.size w w' := by
  have HA := Lib.hid (add_good none 0 0 [] 4 w ArrG.zero (by decide))
  unfold NewPins at HA
  rw [show manyL [] 4 + 1 = 1 from rfl, show addL [] 4 = [(4, 1)] from rfl] at HA
  go_enter Try.func25, Try.ntmps25
  go_wp2_with fail
  refine HA.out.mono ?_
  rintro e w1 ⟨A, m, c, rfl, hm, _, b1⟩
  obtain rfl : m = 1 := by first | exact hm.symm | (simp at hm; omega)
  have HB := Lib.hid b1
  clear b1 hm
  go_wp2
  go_ret
  exact ⟨rfl, HB.out⟩

set_option maxHeartbeats 400000 in
theorem ownSame_any (A A1 A2 A3 : Option Addr) (n c c1 n2 c2 c3 b0 b1 b2 b3 B : Nat) (l : List (Int × Int)) (l2 : List Slt) (w : World) (hn : n ≤ maxLen) (hn2 : n2 ≤ maxLen)
    (h0 : Box w b0 54 #[.slice A n c]) (h1 : Box w b1 54 #[.slice A1 n c1]) (h2 : Box w b2 23 #[.slice A2 n2 c2]) (h3 : Box w b3 23 #[.slice A3 n2 c3])
    (p0 : ArrG runC 2 w B A n l) (p1 : ArrG runC 2 w B A1 n l) (p2 : ArrG slotC 3 w B A2 n2 l2) (p3 : ArrG slotC 3 w B A3 n2 l2) :
    Calls Try.prog 27 #[.pointer (some ⟨b0, 0, none⟩), .pointer (some ⟨b1, 0, none⟩), .pointer (some ⟨b2, 0, none⟩), .pointer (some ⟨b3, 0, none⟩)] w fun e w' => e = .returned (.bool true) ∧ ∃ q, w.drewN q = w' := by
  have HP := Lib.hid (equalPins_same A A1 n c c1 B l w p0 p1 hn)
  have HH := Lib.hid (fun q => equalHands_same A2 A3 n2 c2 c3 B l2 (w.drewN q) p2 p3 hn2)
  have y0 : w.cell? ⟨b0, 0, none⟩ = some (.slice A n c) := h0.cell 0
  have y1 : w.cell? ⟨b1, 0, none⟩ = some (.slice A1 n c1) := h1.cell 0
  have y2 : ∀ q, (w.drewN q).cell? ⟨b2, 0, none⟩ = some (.slice A2 n2 c2) := fun _ => h2.cell 0
  have y3 : ∀ q, (w.drewN q).cell? ⟨b3, 0, none⟩ = some (.slice A3 n2 c3) := fun _ => h3.cell 0
  have HY2 := Lib.hid y2
  have HY3 := Lib.hid y3
  clear p0 p1 p2 p3 h0 h1 h2 h3 y2 y3
  go_enter Try.func27, Try.ntmps27
  go_wp2_with fail
  refine HP.out.mono ?_
  rintro e w1 ⟨rfl, q, rfl⟩
  have z2 := HY2.out q
  have z3 := HY3.out q
  have HHq := Lib.hid (HH.out q)
  have HD : Hid (∀ q2, ∃ q3, w.drewN q3 = (w.drewN q).drewN q2) := fun q2 => ⟨q + q2, by first | rfl | (simp [World.drewN, Nat.add_assoc])⟩
  generalize w.drewN q = W at *
  clear HH HY2 HY3
  go_wp2_with fail
  refine HHq.out.mono ?_
  rintro e w2 ⟨rfl, q2, rfl⟩
  obtain ⟨q3, hq3⟩ := HD.out q2
  go_wp2
  go_ret
  exact ⟨rfl, q3, hq3⟩
theorem two_pins : Try.prog.underlying 61 = some (.array 2 54) := by kernel_rfl
theorem two_hands : Try.prog.underlying 62 = some (.array 2 23) := by kernel_rfl
theorem pick_pins0 (A0 A1 : Option Addr) (n0 c0 n1 c1 : Nat) (wx : World) : Sem.run Try.prog (Instr.index 61 (.agg #[.slice A0 n0 c0, .slice A1 n1 c1]) (.int .i64 0)) wx = .ok (.slice A0 n0 c0) wx := by
  simp [Instr.index, run_underlying two_pins, asIntOf, go_sem]
theorem pick_hands0 (A0 A1 : Option Addr) (n0 c0 n1 c1 : Nat) (wx : World) : Sem.run Try.prog (Instr.index 62 (.agg #[.slice A0 n0 c0, .slice A1 n1 c1]) (.int .i64 0)) wx = .ok (.slice A0 n0 c0) wx := by
  simp [Instr.index, run_underlying two_hands, asIntOf, go_sem]
theorem pick_pins1 (A0 A1 : Option Addr) (n0 c0 n1 c1 : Nat) (wx : World) : Sem.run Try.prog (Instr.index 61 (.agg #[.slice A0 n0 c0, .slice A1 n1 c1]) (.int .i64 1)) wx = .ok (.slice A1 n1 c1) wx := by
  simp [Instr.index, run_underlying two_pins, asIntOf, go_sem]
theorem pick_hands1 (A0 A1 : Option Addr) (n0 c0 n1 c1 : Nat) (wx : World) : Sem.run Try.prog (Instr.index 62 (.agg #[.slice A0 n0 c0, .slice A1 n1 c1]) (.int .i64 1)) wx = .ok (.slice A1 n1 c1) wx := by
  simp [Instr.index, run_underlying two_hands, asIntOf, go_sem]
end Go.Proofs.Ytedndmhekjfpdaa
