/-
  PinOwn: the law's walk.
-/
import Derived.Test.YtedndmhekjfpdaaPinOA
namespace Go.Proofs.Ytedndmhekjfpdaa
open Go.RowKit

/-- What holds while the region of PinOwn that clones is under way, whatever order is drawn. -/
structure OwnJ (W : World) (A : Option Addr) (n c : Nat) (A2 : Option Addr) (n2 c2 : Nat) (l : List (Int × Int)) (l2 : List Slt) (listed : Array Bool) (v9 v10 v32 v33 v34 v35 : Value) (w : World) : Prop where
  size : listed.size = 8
  below : Below W.heap.size W w
  q0 : listed.getD 0 false = true → v32 = .slice A n c
  q1 : listed.getD 1 false = true → ∃ A1 c1, v33 = .slice A1 n c1 ∧ FullG runC 2 57 w W.heap.size A1 n c1 l
  q2 : listed.getD 2 false = true → v34 = .slice A2 n2 c2
  q3 : listed.getD 3 false = true → ∃ A3 c3, v35 = .slice A3 n2 c3 ∧ FullG slotC 3 41 w W.heap.size A3 n2 c3 l2
  q4 : listed.getD 4 false = true → ∃ g x, v9 = .pointer (some ⟨g, 0, none⟩) ∧ W.heap.size ≤ g ∧ Box w g 54 #[x] ∧ (listed.getD 6 false = true → x = v33)
  q5 : listed.getD 5 false = true → ∃ g x, v10 = .pointer (some ⟨g, 0, none⟩) ∧ W.heap.size ≤ g ∧ Box w g 23 #[x] ∧ (listed.getD 7 false = true → x = v35)
  r6 : listed.getD 6 false = true → listed.getD 4 false = true ∧ listed.getD 1 false = true
  r7 : listed.getD 7 false = true → listed.getD 5 false = true ∧ listed.getD 3 false = true
theorem FullG.arrP {e : TypeId} {w : World} {base n c : Nat} {A : Option Addr} {l : List (Int × Int)} (h : FullG runC 2 e w base A n c l) : ArrG runC 2 w w.heap.size A n l := by
  obtain ⟨h1, _, _, h4, _⟩ := h
  obtain ⟨A', c', hv, _, ha⟩ := h4.arr runC_len
  injection hv with e1 e2 e3
  subst e1
  rw [h1] at ha
  exact ha
/-- What holds while PinOwn writes into what was told. -/
structure OwnK (W : World) (A5 A6 A7 A8 : Option Addr) (c5 c6 c7 c8 : Nat) (wr : World) : Prop where
  below : Below W.heap.size W wr
  i5 : SpareG runC 2 57 wr W.heap.size A5 c5
  i6 : SpareG runC 2 57 wr W.heap.size A6 c6
  i7 : SpareG slotC 3 41 wr W.heap.size A7 c7
  i8 : SpareG slotC 3 41 wr W.heap.size A8 c8
theorem OwnK.setP {W : World} {A5 A6 A7 A8 : Option Addr} {c5 c6 c7 c8 : Nat} {wr : World} (h : OwnK W A5 A6 A7 A8 c5 c6 c7 c8 wr) {g : Nat} {cs : Array Value} (hg : W.heap.size ≤ g) (hh : wr.heap[g]? = some (.cells cs 57 (0, 0))) (j : Nat) (z : Int) : OwnK W A5 A6 A7 A8 c5 c6 c7 c8 (wr.setCell ⟨g, j, none⟩ (.int .i64 z)) :=
  ⟨below_set h.below hg j _, h.i5.setP g j z, h.i6.setP g j z, h.i7.other hh (by decide) j _, h.i8.other hh (by decide) j _⟩
theorem OwnK.setS {W : World} {A5 A6 A7 A8 : Option Addr} {c5 c6 c7 c8 : Nat} {wr : World} (h : OwnK W A5 A6 A7 A8 c5 c6 c7 c8 wr) {g : Nat} (hg : W.heap.size ≤ g) (i : Nat) (z : Int) : OwnK W A5 A6 A7 A8 c5 c6 c7 c8 (wr.setCell ⟨g, i * 3, none⟩ (.int .i64 z)) :=
  ⟨below_set h.below hg _ _, h.i5.setP g _ z, h.i6.setP g _ z, h.i7.setS g i z, h.i8.setS g i z⟩
/-- A store into a block of another type. -/
theorem FullG.other {α : Type} {enc : α → List Value} {size : Nat} {e : TypeId} {w : World} {base n c : Nat} {A : Option Addr} {l : List α} {g : Nat} {cs : Array Value} {t : TypeId} (h : FullG enc size e w base A n c l) (hg : w.heap[g]? = some (.cells cs t (0, 0))) (ht : t ≠ e) (j : Nat) (d : Value) : FullG enc size e (w.setCell ⟨g, j, none⟩ d) base A n c l := by
  have key : ∀ {v : Value} {xs : List α}, OwnG enc size e w base v xs → OwnG enc size e (w.setCell ⟨g, j, none⟩ d) base v xs := by
    rintro v xs ⟨h3, h4⟩
    refine ⟨h3, h4.imp id ?_⟩
    rintro ⟨g', cap, cur, hv, hb, hh, r⟩
    refine ⟨g', cap, cur, hv, hb, ?_, r⟩
    have hne : g ≠ g' := by
      rintro rfl
      rw [hg] at hh
      injection hh with hh
      injection hh with _ hh
      exact ht hh
    show (w.heap.modify g _)[g']? = _
    rw [Array.getElem?_modify, if_neg hne]
    exact hh
  obtain ⟨h1, h2, h3, h4, sp, h5, h6⟩ := h
  exact ⟨h1, h2, h3, key h4, sp, h5, key h6⟩
theorem Box.other {w : World} {g g' : Nat} {t t' : TypeId} {cs cs' : Array Value} (h : Box w g t cs) (hg : Box w g' t' cs') (ht : t' ≠ t) (j : Nat) (d : Value) : Box (w.setCell ⟨g', j, none⟩ d) g t cs := by
  have hne : g' ≠ g := by
    rintro rfl
    unfold Box at h hg
    rw [h] at hg
    injection hg with hg
    injection hg with _ hg
    exact ht hg.symm
  unfold Box
  show (w.heap.modify g' _)[g]? = _
  rw [Array.getElem?_modify, if_neg hne]
  exact h
section
variable {W : World} {A : Option Addr} {n c : Nat} {A2 : Option Addr} {n2 c2 : Nat} {l : List (Int × Int)} {l2 : List Slt} {listed : Array Bool} {v9 v10 v32 v33 v34 v35 : Value} {w w' : World}
omit W A n c A2 n2 c2 l l2 v9 v10 v32 v33 v34 v35 w w' in
theorem listed_mono {i k : Nat} (h : listed.getD k false = true) : (listed.setIfInBounds i true).getD k false = true := by
  by_cases he : i = k
  · subst he
    rcases Nat.lt_or_ge i listed.size with hl | hl
    · exact listed_same hl
    · simp [Array.getD, Nat.not_lt.2 hl] at h
  · rw [listed_other he]; exact h
omit W A n c A2 n2 c2 l l2 v9 v10 v32 v33 v34 v35 w w' in
theorem keep_two {i a b d : Nat} (hi : i ≠ a) (h : listed.getD a false = true → listed.getD b false = true ∧ listed.getD d false = true) : (listed.setIfInBounds i true).getD a false = true → (listed.setIfInBounds i true).getD b false = true ∧ (listed.setIfInBounds i true).getD d false = true := by
  rw [listed_other hi]
  exact fun q => ⟨listed_mono (h q).1, listed_mono (h q).2⟩
theorem OwnJ.start : OwnJ W A n c A2 n2 c2 l l2 (Array.replicate 8 false) v9 v10 v32 v33 v34 v35 W.drew :=
  ⟨by simp, below_drewN (Below.refl _ W) 1, by simp [Array.getD], by simp [Array.getD], by simp [Array.getD], by simp [Array.getD], by simp [Array.getD], by simp [Array.getD], by simp [Array.getD], by simp [Array.getD]⟩
theorem OwnJ.step0 (h : OwnJ W A n c A2 n2 c2 l l2 listed v9 v10 v32 v33 v34 v35 w) : OwnJ W A n c A2 n2 c2 l l2 (listed.setIfInBounds 0 true) v9 v10 (.slice A n c) v33 v34 v35 w := by
  obtain ⟨hs, hb, h0, h1, h2, h3, h4, h5, r6, r7⟩ := h
  refine ⟨by simpa using hs, hb, fun _ => rfl, ?_, ?_, ?_, ?_, ?_, keep_two (by omega) r6, keep_two (by omega) r7⟩ <;> simpa only [listed_other (show (0 : Nat) ≠ 1 by omega), listed_other (show (0 : Nat) ≠ 2 by omega), listed_other (show (0 : Nat) ≠ 3 by omega), listed_other (show (0 : Nat) ≠ 4 by omega), listed_other (show (0 : Nat) ≠ 5 by omega), listed_other (show (0 : Nat) ≠ 6 by omega), listed_other (show (0 : Nat) ≠ 7 by omega)]
theorem OwnJ.step2 (h : OwnJ W A n c A2 n2 c2 l l2 listed v9 v10 v32 v33 v34 v35 w) : OwnJ W A n c A2 n2 c2 l l2 (listed.setIfInBounds 2 true) v9 v10 v32 v33 (.slice A2 n2 c2) v35 w := by
  obtain ⟨hs, hb, h0, h1, h2, h3, h4, h5, r6, r7⟩ := h
  refine ⟨by simpa using hs, hb, ?_, ?_, fun _ => rfl, ?_, ?_, ?_, keep_two (by omega) r6, keep_two (by omega) r7⟩ <;> simpa only [listed_other (show (2 : Nat) ≠ 0 by omega), listed_other (show (2 : Nat) ≠ 1 by omega), listed_other (show (2 : Nat) ≠ 3 by omega), listed_other (show (2 : Nat) ≠ 4 by omega), listed_other (show (2 : Nat) ≠ 5 by omega), listed_other (show (2 : Nat) ≠ 6 by omega), listed_other (show (2 : Nat) ≠ 7 by omega)]
/-- A later world. -/
theorem OwnJ.later (h : OwnJ W A n c A2 n2 c2 l l2 listed v9 v10 v32 v33 v34 v35 w) (hl : Below w.heap.size w w') : OwnJ W A n c A2 n2 c2 l l2 listed v9 v10 v32 v33 v34 v35 w' := by
  obtain ⟨hs, hb, h0, h1, h2, h3, h4, h5, r6, r7⟩ := h
  refine ⟨hs, hb.trans (hl.mono hb.size), h0, fun q => ?_, h2, fun q => ?_, fun q => ?_, fun q => ?_, r6, r7⟩
  · obtain ⟨A1, c1, e, hF⟩ := h1 q
    exact ⟨A1, c1, e, hF.below hl⟩
  · obtain ⟨A1, c1, e, hF⟩ := h3 q
    exact ⟨A1, c1, e, hF.below hl⟩
  · obtain ⟨g, x, e, hg, hB, hx⟩ := h4 q
    exact ⟨g, x, e, hg, hB.below hl hB.lt, hx⟩
  · obtain ⟨g, x, e, hg, hB, hx⟩ := h5 q
    exact ⟨g, x, e, hg, hB.below hl hB.lt, hx⟩
theorem OwnJ.step1 (h : OwnJ W A n c A2 n2 c2 l l2 listed v9 v10 v32 v33 v34 v35 w) (h6 : listed.getD 6 false = false) {A1 : Option Addr} {c1 : Nat} (hF : FullG runC 2 57 w W.heap.size A1 n c1 l) : OwnJ W A n c A2 n2 c2 l l2 (listed.setIfInBounds 1 true) v9 v10 v32 (.slice A1 n c1) v34 v35 w := by
  obtain ⟨hs, hb, h0, h1, h2, h3, h4, h5, r6, r7⟩ := h
  refine ⟨by simpa using hs, hb, ?_, fun _ => ⟨A1, c1, rfl, hF⟩, ?_, ?_, ?_, ?_, keep_two (by omega) r6, keep_two (by omega) r7⟩
  · simpa only [listed_other (show (1 : Nat) ≠ 0 by omega)]
  · simpa only [listed_other (show (1 : Nat) ≠ 2 by omega)]
  · simpa only [listed_other (show (1 : Nat) ≠ 3 by omega)]
  · rw [listed_other (show (1 : Nat) ≠ 4 by omega), listed_other (show (1 : Nat) ≠ 6 by omega)]
    intro q
    obtain ⟨g, x, e, hg, hB, hx⟩ := h4 q
    exact ⟨g, x, e, hg, hB, fun q6 => by rw [h6] at q6; cases q6⟩
  · simpa only [listed_other (show (1 : Nat) ≠ 5 by omega), listed_other (show (1 : Nat) ≠ 7 by omega)]
theorem OwnJ.step3 (h : OwnJ W A n c A2 n2 c2 l l2 listed v9 v10 v32 v33 v34 v35 w) (h7 : listed.getD 7 false = false) {A3 : Option Addr} {c3 : Nat} (hF : FullG slotC 3 41 w W.heap.size A3 n2 c3 l2) : OwnJ W A n c A2 n2 c2 l l2 (listed.setIfInBounds 3 true) v9 v10 v32 v33 v34 (.slice A3 n2 c3) w := by
  obtain ⟨hs, hb, h0, h1, h2, h3, h4, h5, r6, r7⟩ := h
  refine ⟨by simpa using hs, hb, ?_, ?_, ?_, fun _ => ⟨A3, c3, rfl, hF⟩, ?_, ?_, keep_two (by omega) r6, keep_two (by omega) r7⟩
  · simpa only [listed_other (show (3 : Nat) ≠ 0 by omega)]
  · simpa only [listed_other (show (3 : Nat) ≠ 1 by omega)]
  · simpa only [listed_other (show (3 : Nat) ≠ 2 by omega)]
  · simpa only [listed_other (show (3 : Nat) ≠ 4 by omega), listed_other (show (3 : Nat) ≠ 6 by omega)]
  · rw [listed_other (show (3 : Nat) ≠ 5 by omega), listed_other (show (3 : Nat) ≠ 7 by omega)]
    intro q
    obtain ⟨g, x, e, hg, hB, hx⟩ := h5 q
    exact ⟨g, x, e, hg, hB, fun q7 => by rw [h7] at q7; cases q7⟩
theorem OwnJ.step4 (h : OwnJ W A n c A2 n2 c2 l l2 listed v9 v10 v32 v33 v34 v35 w) (h6 : listed.getD 6 false = false) : OwnJ W A n c A2 n2 c2 l l2 (listed.setIfInBounds 4 true) (.pointer (some ⟨w.heap.size, 0, none⟩)) v10 v32 v33 v34 v35 (w.alloc (.cells #[.slice none 0 0] 54)) := by
  have hbx := Box.new w 54 #[.slice none 0 0]
  have hsz := h.below.size
  obtain ⟨hs, hb, h0, h1, h2, h3, h4, h5, r6, r7⟩ := h.later ((Below.refl _ w).alloc (Nat.le_refl _) (.cells #[.slice none 0 0] 54))
  refine ⟨by simpa using hs, hb, ?_, ?_, ?_, ?_, fun _ => ⟨_, _, rfl, hsz, hbx, fun q6 => ?_⟩, ?_, keep_two (by omega) r6, keep_two (by omega) r7⟩
  · simpa only [listed_other (show (4 : Nat) ≠ 0 by omega)]
  · simpa only [listed_other (show (4 : Nat) ≠ 1 by omega)]
  · simpa only [listed_other (show (4 : Nat) ≠ 2 by omega)]
  · simpa only [listed_other (show (4 : Nat) ≠ 3 by omega)]
  · rw [listed_other (show (4 : Nat) ≠ 6 by omega), h6] at q6; cases q6
  · simpa only [listed_other (show (4 : Nat) ≠ 5 by omega), listed_other (show (4 : Nat) ≠ 7 by omega)]
theorem OwnJ.step5 (h : OwnJ W A n c A2 n2 c2 l l2 listed v9 v10 v32 v33 v34 v35 w) (h7 : listed.getD 7 false = false) : OwnJ W A n c A2 n2 c2 l l2 (listed.setIfInBounds 5 true) v9 (.pointer (some ⟨w.heap.size, 0, none⟩)) v32 v33 v34 v35 (w.alloc (.cells #[.slice none 0 0] 23)) := by
  have hbx := Box.new w 23 #[.slice none 0 0]
  have hsz := h.below.size
  obtain ⟨hs, hb, h0, h1, h2, h3, h4, h5, r6, r7⟩ := h.later ((Below.refl _ w).alloc (Nat.le_refl _) (.cells #[.slice none 0 0] 23))
  refine ⟨by simpa using hs, hb, ?_, ?_, ?_, ?_, ?_, fun _ => ⟨_, _, rfl, hsz, hbx, fun q7 => ?_⟩, keep_two (by omega) r6, keep_two (by omega) r7⟩
  · simpa only [listed_other (show (5 : Nat) ≠ 0 by omega)]
  · simpa only [listed_other (show (5 : Nat) ≠ 1 by omega)]
  · simpa only [listed_other (show (5 : Nat) ≠ 2 by omega)]
  · simpa only [listed_other (show (5 : Nat) ≠ 3 by omega)]
  · simpa only [listed_other (show (5 : Nat) ≠ 4 by omega), listed_other (show (5 : Nat) ≠ 6 by omega)]
  · rw [listed_other (show (5 : Nat) ≠ 7 by omega), h7] at q7; cases q7
theorem OwnJ.step6 {g : Nat} {x : Value} (h : OwnJ W A n c A2 n2 c2 l l2 listed (.pointer (some ⟨g, 0, none⟩)) v10 v32 v33 v34 v35 w) (hg : W.heap.size ≤ g) (hB : Box w g 54 #[x]) (f4 : listed.getD 4 false = true) (f1 : listed.getD 1 false = true) : OwnJ W A n c A2 n2 c2 l l2 (listed.setIfInBounds 6 true) (.pointer (some ⟨g, 0, none⟩)) v10 v32 v33 v34 v35 (w.setCell ⟨g, 0, none⟩ v33) := by
  obtain ⟨hs, hb, h0, h1, h2, h3, h4, h5, r6, r7⟩ := h
  refine ⟨by simpa using hs, below_set hb hg 0 v33, ?_, ?_, ?_, ?_, fun _ => ⟨g, v33, rfl, hg, by simpa using hB.set 0 v33, fun _ => rfl⟩, ?_, fun _ => ⟨listed_mono f4, listed_mono f1⟩, keep_two (by omega) r7⟩
  · simpa only [listed_other (show (6 : Nat) ≠ 0 by omega)]
  · rw [listed_other (show (6 : Nat) ≠ 1 by omega)]
    intro q
    obtain ⟨A1, c1, e, hF⟩ := h1 q
    exact ⟨A1, c1, e, hF.other hB (by decide) 0 v33⟩
  · simpa only [listed_other (show (6 : Nat) ≠ 2 by omega)]
  · rw [listed_other (show (6 : Nat) ≠ 3 by omega)]
    intro q
    obtain ⟨A1, c1, e, hF⟩ := h3 q
    exact ⟨A1, c1, e, hF.other hB (by decide) 0 v33⟩
  · rw [listed_other (show (6 : Nat) ≠ 5 by omega), listed_other (show (6 : Nat) ≠ 7 by omega)]
    intro q
    obtain ⟨g', x', e, hg', hB', hx⟩ := h5 q
    exact ⟨g', x', e, hg', hB'.other hB (by decide) 0 v33, hx⟩
theorem OwnJ.step7 {g : Nat} {x : Value} (h : OwnJ W A n c A2 n2 c2 l l2 listed v9 (.pointer (some ⟨g, 0, none⟩)) v32 v33 v34 v35 w) (hg : W.heap.size ≤ g) (hB : Box w g 23 #[x]) (f5 : listed.getD 5 false = true) (f3 : listed.getD 3 false = true) : OwnJ W A n c A2 n2 c2 l l2 (listed.setIfInBounds 7 true) v9 (.pointer (some ⟨g, 0, none⟩)) v32 v33 v34 v35 (w.setCell ⟨g, 0, none⟩ v35) := by
  obtain ⟨hs, hb, h0, h1, h2, h3, h4, h5, r6, r7⟩ := h
  refine ⟨by simpa using hs, below_set hb hg 0 v35, ?_, ?_, ?_, ?_, ?_, fun _ => ⟨g, v35, rfl, hg, by simpa using hB.set 0 v35, fun _ => rfl⟩, keep_two (by omega) r6, fun _ => ⟨listed_mono f5, listed_mono f3⟩⟩
  · simpa only [listed_other (show (7 : Nat) ≠ 0 by omega)]
  · rw [listed_other (show (7 : Nat) ≠ 1 by omega)]
    intro q
    obtain ⟨A1, c1, e, hF⟩ := h1 q
    exact ⟨A1, c1, e, hF.other hB (by decide) 0 v35⟩
  · simpa only [listed_other (show (7 : Nat) ≠ 2 by omega)]
  · rw [listed_other (show (7 : Nat) ≠ 3 by omega)]
    intro q
    obtain ⟨A1, c1, e, hF⟩ := h3 q
    exact ⟨A1, c1, e, hF.other hB (by decide) 0 v35⟩
  · rw [listed_other (show (7 : Nat) ≠ 4 by omega), listed_other (show (7 : Nat) ≠ 6 by omega)]
    intro q
    obtain ⟨g', x', e, hg', hB', hx⟩ := h4 q
    exact ⟨g', x', e, hg', hB'.other hB (by decide) 0 v35, hx⟩
end

set_option maxRecDepth 16000 in
set_option maxHeartbeats 4000000 in
theorem pinOwn_walk (A : Option Addr) (n c : Nat) (A2 : Option Addr) (n2 c2 : Nat) (a N : Int) (l : List (Int × Int)) (l2 : List Slt) (w : World) (hn : n ≤ maxLen) (ha : ArrG runC 2 w w.heap.size A n l) (hn2 : n2 ≤ maxLen) (hh : ArrG slotC 3 w w.heap.size A2 n2 l2) (sz0 : n * 16 ≤ 281474976710656) (sz1 : n2 * 24 ≤ 281474976710656) :
    Calls Try.prog 7 #[.slice A n c, .slice A2 n2 c2, .int .i64 a, .int .u64 N] w fun e w' => e = .returned (.bool true) ∧ Below w.heap.size w w' := by
  have hb1 := (Below.refl w.heap.size w).alloc (Nat.le_refl _) (.cells #[.slice A n c] 54)
  have hb2 := hb1.alloc hb1.size (.cells #[.slice A2 n2 c2] 23)
  have x0 := (Box.new w 54 #[.slice A n c]).alloc (.cells #[.slice A2 n2 c2] 23)
  have x1 := Box.new (w.alloc (.cells #[.slice A n c] 54)) 23 #[.slice A2 n2 c2]
  have e1 : (w.alloc (.cells #[.slice A n c] 54)).heap.size = w.heap.size + 1 := by simp
  rw [e1] at x1
  have HX0 := Lib.hid x0
  have HX1 := Lib.hid x1
  have HB0 := Lib.hid hb2
  have HP := Lib.hid (pinsAliveO ((w.alloc (.cells #[.slice A n c] 54)).alloc (.cells #[.slice A2 n2 c2] 23)))
  have HA := Lib.hid ha
  have HH := Lib.hid hh
  have HN := Lib.hid hn
  have HN2 := Lib.hid hn2
  have HS0 := Lib.hid sz0
  have HS1 := Lib.hid sz1
  clear hb1 hb2 x0 x1 e1 ha hh hn hn2 sz0 sz1
  go_enter Try.func7, Try.ntmps7
  go_wp2_with fail
  refine HP.out.mono ?_
  rintro e w1 ⟨rfl, b1⟩
  have HB1 := Lib.hid (HB0.out.trans (b1.mono HB0.out.size))
  have HY0 := Lib.hid (HX0.out.below b1 HX0.out.lt)
  have HY1 := Lib.hid (HX1.out.below b1 HX1.out.lt)
  have y0 : w1.cell? ⟨w.heap.size, 0, none⟩ = some (.slice A n c) := HY0.out.cell 0
  have y1 : w1.cell? ⟨w.heap.size + 1, 0, none⟩ = some (.slice A2 n2 c2) := HY1.out.cell 0
  clear b1 HX0 HX1 HB0 HP
  go_wp2_with fail
  refine wp_region_inv (fun listed a' w' => ∃ v9 v10 v32 v33 v34 v35, a' = { tmps := #[.slice A n c, .slice A2 n2 c2, .int .i64 a, .int .u64 N, .pointer (some ⟨w.heap.size, 0, none⟩), .pointer (some ⟨w.heap.size + 1, 0, none⟩), undef, undef, .bool false, v9, v10, undef, undef, undef, undef, undef, undef, undef, undef, undef, undef, undef, undef, undef, undef, undef, undef, undef, undef, undef, .bool true, .bool false, v32, v33, v34, v35, undef, undef, undef, undef, undef, undef, undef, undef, undef, undef, undef, undef, undef, undef, undef, undef, undef, undef, undef, undef, undef, undef, undef, undef, undef, undef, undef, undef, undef, undef, undef, undef, undef, undef, undef, undef, undef, undef, undef, undef, undef, undef, undef, undef, undef, undef, undef, undef, undef, undef, undef, undef, undef, undef, undef, undef, undef, undef, undef, undef, undef, undef, undef, undef, undef, undef, undef, undef, undef, undef, undef, undef, undef, undef, undef, undef, undef, undef, undef, undef, undef, undef, undef, undef, undef], defers := [] } ∧ OwnJ w1 A n c A2 n2 c2 l l2 listed v9 v10 v32 v33 v34 v35 w') (by kernel_rfl) ⟨_, _, _, _, _, _, rfl, OwnJ.start⟩ ?_ ?_
  · rintro listed a' w' ⟨v9, v10, v32, v33, v34, v35, rfl, hJ⟩ i hi
    obtain ⟨hun, o, ho, hd⟩ := mem_ready.1 hi
    have hi8 : i < 8 := (Array.getElem?_eq_some_iff.1 ho).1
    rcases (by omega : i = 0 ∨ i = 1 ∨ i = 2 ∨ i = 3 ∨ i = 4 ∨ i = 5 ∨ i = 6 ∨ i = 7) with rfl | rfl | rfl | rfl | rfl | rfl | rfl | rfl
    · refine wpOp_step rfl fun K' hK => ?_
      have z0 := (hJ.below.cell (p := ⟨w.heap.size, 0, none⟩) HY0.out.lt).trans y0
      go_simp
      exact hK _ _ ⟨_, _, _, _, _, _, rfl, hJ.step0⟩
    · have d0 := hd ⟨0, .data⟩ (by obtain rfl := Option.some.inj ho; simp) rfl
      obtain rfl := hJ.q0 d0
      have n6 : listed.getD 6 false = false := by
        cases h6 : listed.getD 6 false
        · rfl
        · have := (hJ.r6 h6).2
          simp [Array.getD, hJ.size] at hun this
          rw [this] at hun; cases hun
      have HK := Lib.hid (cloneP_any A n c l w' HS0.out ((HA.out.below (HB1.out.trans (hJ.below.mono HB1.out.size)) (Nat.le_refl _)).more (HB1.out.trans (hJ.below.mono HB1.out.size)).size))
      unfold ClonedP at HK
      rw [HA.out.1] at HK
      refine wpOp_step rfl fun K' hK => ?_
      go_simp
      refine HK.out.mono ?_
      rintro e w3 ⟨A3, c3, rfl, hF, b3⟩
      exact hK _ _ ⟨_, _, _, _, _, _, rfl, (hJ.later b3).step1 n6 (hF.less hJ.below.size)⟩
    · refine wpOp_step rfl fun K' hK => ?_
      have z0 := (hJ.below.cell (p := ⟨w.heap.size + 1, 0, none⟩) HY1.out.lt).trans y1
      go_simp
      exact hK _ _ ⟨_, _, _, _, _, _, rfl, hJ.step2⟩
    · have d0 := hd ⟨2, .data⟩ (by obtain rfl := Option.some.inj ho; simp) rfl
      obtain rfl := hJ.q2 d0
      have n7 : listed.getD 7 false = false := by
        cases h6 : listed.getD 7 false
        · rfl
        · have := (hJ.r7 h6).2
          simp [Array.getD, hJ.size] at hun this
          rw [this] at hun; cases hun
      have HK := Lib.hid (cloneS_any A2 n2 c2 l2 w' HS1.out ((HH.out.below (HB1.out.trans (hJ.below.mono HB1.out.size)) (Nat.le_refl _)).more (HB1.out.trans (hJ.below.mono HB1.out.size)).size))
      unfold ClonedS at HK
      rw [HH.out.1] at HK
      refine wpOp_step rfl fun K' hK => ?_
      go_simp
      refine HK.out.mono ?_
      rintro e w3 ⟨A3, c3, rfl, hF, b3⟩
      exact hK _ _ ⟨_, _, _, _, _, _, rfl, (hJ.later b3).step3 n7 (hF.less hJ.below.size)⟩
    · have n6 : listed.getD 6 false = false := by
        cases h6 : listed.getD 6 false
        · rfl
        · have := (hJ.r6 h6).1
          simp [Array.getD, hJ.size] at hun this
          rw [this] at hun; cases hun
      refine wpOp_step rfl fun K' hK => ?_
      go_simp
      exact hK _ _ ⟨_, _, _, _, _, _, rfl, hJ.step4 n6⟩
    · have n7 : listed.getD 7 false = false := by
        cases h6 : listed.getD 7 false
        · rfl
        · have := (hJ.r7 h6).1
          simp [Array.getD, hJ.size] at hun this
          rw [this] at hun; cases hun
      refine wpOp_step rfl fun K' hK => ?_
      go_simp
      exact hK _ _ ⟨_, _, _, _, _, _, rfl, hJ.step5 n7⟩
    · have d4 := hd ⟨4, .data⟩ (by obtain rfl := Option.some.inj ho; simp) rfl
      have d1 := hd ⟨1, .data⟩ (by obtain rfl := Option.some.inj ho; simp) rfl
      obtain ⟨g, x, rfl, hg, hB, _⟩ := hJ.q4 d4
      obtain ⟨A3, c3, rfl, _⟩ := hJ.q1 d1
      have t0 : w'.cell? ⟨g, 0, none⟩ = some x := hB.cell 0
      have t1 := hB.soft 0
      refine wpOp_step rfl fun K' hK => ?_
      go_simp
      exact hK _ _ ⟨_, _, _, _, _, _, rfl, hJ.step6 hg hB d4 d1⟩
    · have d5 := hd ⟨5, .data⟩ (by obtain rfl := Option.some.inj ho; simp) rfl
      have d3 := hd ⟨3, .data⟩ (by obtain rfl := Option.some.inj ho; simp) rfl
      obtain ⟨g, x, rfl, hg, hB, _⟩ := hJ.q5 d5
      obtain ⟨A3, c3, rfl, _⟩ := hJ.q3 d3
      have t0 : w'.cell? ⟨g, 0, none⟩ = some x := hB.cell 0
      have t1 := hB.soft 0
      refine wpOp_step rfl fun K' hK => ?_
      go_simp
      exact hK _ _ ⟨_, _, _, _, _, _, rfl, hJ.step7 hg hB d5 d3⟩
  · rintro listed a' w' ⟨v9, v10, v32, v33, v34, v35, rfl, hJ⟩ hr
    have hall := all_listed (by rw [hJ.size]; rfl) (by kernel_rfl) hr
    obtain rfl := hJ.q0 (hall 0 (by decide))
    obtain rfl := hJ.q2 (hall 2 (by decide))
    obtain ⟨A3, c3, rfl, hF3⟩ := hJ.q1 (hall 1 (by decide))
    obtain ⟨A4, c4, rfl, hF4⟩ := hJ.q3 (hall 3 (by decide))
    obtain ⟨g9, x9, rfl, hg9, hB9, hx9⟩ := hJ.q4 (hall 4 (by decide))
    obtain ⟨g10, x10, rfl, hg10, hB10, hx10⟩ := hJ.q5 (hall 5 (by decide))
    obtain rfl := hx9 (hall 6 (by decide))
    obtain rfl := hx10 (hall 7 (by decide))
    have hbw := hJ.below
    clear hr hall hJ hx9 hx10 y0 y1
    dsimp (config := { zeta := true }) only
    -- from here on: the world W
    have HBW := Lib.hid (HB1.out.trans (hbw.mono HB1.out.size))
    have HZ0 := Lib.hid (HY0.out.below hbw HY0.out.lt)
    have HZ1 := Lib.hid (HY1.out.below hbw HY1.out.lt)
    have HZ9 := Lib.hid hB9
    have HZ10 := Lib.hid hB10
    have HF3 := Lib.hid hF3.arrP
    have HF4 := Lib.hid hF4.arr
    have HAW := Lib.hid ((HA.out.below HBW.out (Nat.le_refl _)).more HBW.out.size)
    have HHW := Lib.hid ((HH.out.below HBW.out (Nat.le_refl _)).more HBW.out.size)
    clear hbw hB9 hB10 hF3 hF4 HY0 HY1 hg9 hg10 HS0 HS1 HA HH HB1
    generalize w' = W at *
    have H1 := Lib.hid (fun wx (hb : Below W.heap.size W wx) => add_gives A n c l a wx HN.out ((HAW.out.below hb (Nat.le_refl _)).more hb.size))
    have H2 := Lib.hid (fun wx (hb : Below W.heap.size W wx) => drop_gives A n c l a wx HN.out ((HAW.out.below hb (Nat.le_refl _)).more hb.size))
    have H3 := Lib.hid (fun wx (hb : Below W.heap.size W wx) => openH_any A2 n2 c2 l2 a wx HN2.out ((HHW.out.below hb (Nat.le_refl _)).more hb.size))
    have H4 := Lib.hid (fun wx (hb : Below W.heap.size W wx) => closeH_any A2 n2 c2 l2 N wx HN2.out ((HHW.out.below hb (Nat.le_refl _)).more hb.size))
    have H5 := Lib.hid (fun wx (hb : Below W.heap.size W wx) => ownSame_any A A3 A2 A4 n c c3 n2 c2 c4 w.heap.size g9 (w.heap.size + 1) g10 W.heap.size l l2 wx HN.out HN2.out (HZ0.out.below hb HZ0.out.lt) (HZ9.out.below hb HZ9.out.lt) (HZ1.out.below hb HZ1.out.lt) (HZ10.out.below hb HZ10.out.lt)
      (HAW.out.below hb (Nat.le_refl _)) (HF3.out.below hb (Nat.le_refl _)) (HHW.out.below hb (Nat.le_refl _)) (HF4.out.below hb (Nat.le_refl _)))
    have HC0 : Hid (∀ wx, Below W.heap.size W wx → wx.cell? ⟨w.heap.size, 0, none⟩ = some (.slice A n c)) := fun wx hb => (HZ0.out.below hb HZ0.out.lt).cell 0
    have HC1 : Hid (∀ wx, Below W.heap.size W wx → wx.cell? ⟨w.heap.size + 1, 0, none⟩ = some (.slice A2 n2 c2)) := fun wx hb => (HZ1.out.below hb HZ1.out.lt).cell 0
    unfold GivesPins at H1 H2
    unfold Opened at H3
    unfold GaveH at H4
    generalize openV l2 a = OV at *
    generalize openE l2 a = OE at *
    generalize findE l2 N = FE at *
    clear HZ0 HZ1 HZ9 HZ10 HF3 HF4 HAW HHW HN HN2
    have y0 := HC0.out W (Below.refl _ _)
    go_wp2_with fail
    refine (H1.out W (Below.refl _ _)).mono ?_
    rintro e w2 ⟨A5, m5, c5, k5, E5, rfl, b2, hm5, hc5, hS5⟩
    have HB2 := Lib.hid b2
    have HS5 := Lib.hid hS5
    clear b2 hS5 H1 y0
    have y0 := HC0.out w2 HB2.out
    go_wp2_with fail
    refine (H2.out w2 HB2.out).mono ?_
    rintro e w3 ⟨A6, m6, c6, k6, E6, rfl, b3, hm6, hc6, hS6⟩
    have HB3 := Lib.hid (HB2.out.trans (b3.mono HB2.out.size))
    have HS6 := Lib.hid (hS6.less HB2.out.size)
    have HS5b := Lib.hid (HS5.out.below b3)
    clear b3 hS6 H2 HS5 y0
    have y0 := HC1.out w3 HB3.out
    go_wp2_with fail
    refine (H3.out w3 HB3.out).mono ?_
    rintro e w4 ⟨A7, m7, c7, rfl, hF7, b4⟩
    have HB4 := Lib.hid (HB3.out.trans (b4.mono HB3.out.size))
    have HS7 := Lib.hid (hF7.spare.less HB3.out.size)
    have hm7 := hF7.2.1
    have hc7 := hF7.2.2.1
    have HS5c := Lib.hid (HS5b.out.below b4)
    have HS6c := Lib.hid (HS6.out.below b4)
    clear b4 hF7 H3 HS5b HS6 y0
    have y0 := HC1.out w4 HB4.out
    go_wp2_with fail
    refine (H4.out w4 HB4.out).mono ?_
    rintro e w5 ⟨A8, m8, c8, rfl, hF8, b5⟩
    have HB5 := Lib.hid (HB4.out.trans (b5.mono HB4.out.size))
    have HS8 := Lib.hid (hF8.spare.less HB4.out.size)
    have hm8 := hF8.2.1
    have hc8 := hF8.2.2.1
    have HS5d := Lib.hid (HS5c.out.below b5)
    have HS6d := Lib.hid (HS6c.out.below b5)
    have HS7d := Lib.hid (HS7.out.below b5)
    clear b5 hF8 H4 HS5c HS6c HS7 y0
    have hcall := Try.call27
    go_wp2_with fail
    refine (H5.out w5 HB5.out).mono ?_
    rintro e w6 ⟨rfl, q, rfl⟩
    have HK : Hid (OwnK W A5 A6 A7 A8 c5 c6 c7 c8 (w5.drewN q)) := ⟨below_drewN HB5.out q, HS5d.out, HS6d.out, HS7d.out, HS8.out⟩
    clear HS5d HS6d HS7d HS8 HB2 HB3 HB4 HB5 HC0 HC1
    generalize w5.drewN q = w6 at *
    unfold maxLen at hc5 hc6 hc7 hc8
    obtain ⟨D5, hs5, hD5⟩ := run_uptoG (P := Try.prog) Try.underlying54 pinS A5 m5 c5 c5 (c5 : Int) rfl (Nat.le_refl _)
    obtain ⟨D6, hs6, hD6⟩ := run_uptoG (P := Try.prog) Try.underlying54 pinS A6 m6 c6 c6 (c6 : Int) rfl (Nat.le_refl _)
    obtain ⟨D7, hs7, hD7⟩ := run_uptoG (P := Try.prog) Try.underlying23 slotS A7 m7 c7 c7 (c7 : Int) rfl (Nat.le_refl _)
    obtain ⟨D8, hs8, hD8⟩ := run_uptoG (P := Try.prog) Try.underlying23 slotS A8 m8 c8 c8 (c8 : Int) rfl (Nat.le_refl _)
    have HD5 := Lib.hid hD5
    have HD6 := Lib.hid hD6
    have HD7 := Lib.hid hD7
    have HD8 := Lib.hid hD8
    clear hD5 hD6 hD7 hD8
    go_wp2_with fail
    go_loopw [69] (fun v wr => ∃ k : Nat, k ≤ 2 ∧ v = .int .i64 k ∧ OwnK W A5 A6 A7 A8 c5 c6 c7 c8 wr) (fun v _ => 2 - (intOf v).toNat)
    case atStart => exact ⟨0, by omega, rfl, HK.out⟩
    case round =>
      obtain ⟨k, hk, rfl, hO⟩ := hrel
      have HO := Lib.hid hO
      clear hO HK
      generalize wr = W0 at *
      rcases (by omega : k = 0 ∨ k = 1 ∨ k = 2) with rfl | rfl | rfl
      · have hix := pick_pins0 A5 A6 m5 c5 m6 c6
        go_wp2_with fail
        clear hix
        go_loopw [78] (fun v wr => ∃ k : Nat, k ≤ c5 ∧ v = .int .i64 k ∧ OwnK W A5 A6 A7 A8 c5 c6 c7 c8 wr) (fun v _ => c5 - (intOf v).toNat)
        case atStart => exact ⟨0, by omega, rfl, HO.out⟩
        case round =>
          obtain ⟨p, hp, rfl, hO⟩ := hrel
          by_cases hlt : p < c5
          · obtain ⟨g, z, cs, hA, hg, hh, hc, hf⟩ := hO.i5.atP hlt
            have hDD := HD5.out g 0 hA
            have HN := Lib.hid (fun z => hO.setP hg hh (p * 2 + 1) z)
            clear hO hh HO
            rw [hDD]
            clear hDD
            have hplt : (p : Int) < (c5 : Int) := by omega
            go_wp2
            go_roundw
            case rel => exact ⟨p + 1, by omega, by go_num, HN.out _⟩
            case measure => simp [intOf]; omega
          · obtain rfl : p = c5 := by omega
            have HO2 := Lib.hid hO
            clear hO HO
            go_wp2
            go_roundw
            case rel => exact ⟨0 + 1, by omega, by go_num, HO2.out⟩
            case measure => simp [intOf]
      · have hix := pick_pins1 A5 A6 m5 c5 m6 c6
        go_wp2_with fail
        clear hix
        go_loopw [78] (fun v wr => ∃ k : Nat, k ≤ c6 ∧ v = .int .i64 k ∧ OwnK W A5 A6 A7 A8 c5 c6 c7 c8 wr) (fun v _ => c6 - (intOf v).toNat)
        case atStart => exact ⟨0, by omega, rfl, HO.out⟩
        case round =>
          obtain ⟨p, hp, rfl, hO⟩ := hrel
          by_cases hlt : p < c6
          · obtain ⟨g, z, cs, hA, hg, hh, hc, hf⟩ := hO.i6.atP hlt
            have hDD := HD6.out g 0 hA
            have HN := Lib.hid (fun z => hO.setP hg hh (p * 2 + 1) z)
            clear hO hh HO
            rw [hDD]
            clear hDD
            have hplt : (p : Int) < (c6 : Int) := by omega
            go_wp2
            go_roundw
            case rel => exact ⟨p + 1, by omega, by go_num, HN.out _⟩
            case measure => simp [intOf]; omega
          · obtain rfl : p = c6 := by omega
            have HO2 := Lib.hid hO
            clear hO HO
            go_wp2
            go_roundw
            case rel => exact ⟨1 + 1, by omega, by go_num, HO2.out⟩
            case measure => simp [intOf]
      · go_wp2_with fail
        go_loopw [94] (fun v wr => ∃ k : Nat, k ≤ 2 ∧ v = .int .i64 k ∧ OwnK W A5 A6 A7 A8 c5 c6 c7 c8 wr) (fun v _ => 2 - (intOf v).toNat)
        case atStart => exact ⟨0, by omega, rfl, HO.out⟩
        case round =>
          obtain ⟨k, hk, rfl, hO⟩ := hrel
          have HO1 := Lib.hid hO
          clear hO HO
          generalize wr = W1 at *
          rcases (by omega : k = 0 ∨ k = 1 ∨ k = 2) with rfl | rfl | rfl
          · have hix := pick_hands0 A7 A8 m7 c7 m8 c8
            go_wp2_with fail
            clear hix
            go_loopw [103] (fun v wr => ∃ k : Nat, k ≤ c7 ∧ v = .int .i64 k ∧ OwnK W A5 A6 A7 A8 c5 c6 c7 c8 wr) (fun v _ => c7 - (intOf v).toNat)
            case atStart => exact ⟨0, by omega, rfl, HO1.out⟩
            case round =>
              obtain ⟨p, hp, rfl, hO⟩ := hrel
              by_cases hlt : p < c7
              · obtain ⟨g, z, cs, hA, hg, _, hc, hf⟩ := hO.i7.atS hlt
                have hDD := HD7.out g 0 hA
                have HN := Lib.hid (fun z => hO.setS hg p z)
                clear hO HO1
                rw [hDD]
                clear hDD
                have hplt : (p : Int) < (c7 : Int) := by omega
                go_wp2
                go_roundw
                case rel => exact ⟨p + 1, by omega, by go_num, HN.out _⟩
                case measure => simp [intOf]; omega
              · obtain rfl : p = c7 := by omega
                have HO2 := Lib.hid hO
                clear hO HO1
                go_wp2
                go_roundw
                case rel => exact ⟨0 + 1, by omega, by go_num, HO2.out⟩
                case measure => simp [intOf]
          · have hix := pick_hands1 A7 A8 m7 c7 m8 c8
            go_wp2_with fail
            clear hix
            go_loopw [103] (fun v wr => ∃ k : Nat, k ≤ c8 ∧ v = .int .i64 k ∧ OwnK W A5 A6 A7 A8 c5 c6 c7 c8 wr) (fun v _ => c8 - (intOf v).toNat)
            case atStart => exact ⟨0, by omega, rfl, HO1.out⟩
            case round =>
              obtain ⟨p, hp, rfl, hO⟩ := hrel
              by_cases hlt : p < c8
              · obtain ⟨g, z, cs, hA, hg, _, hc, hf⟩ := hO.i8.atS hlt
                have hDD := HD8.out g 0 hA
                have HN := Lib.hid (fun z => hO.setS hg p z)
                clear hO HO1
                rw [hDD]
                clear hDD
                have hplt : (p : Int) < (c8 : Int) := by omega
                go_wp2
                go_roundw
                case rel => exact ⟨p + 1, by omega, by go_num, HN.out _⟩
                case measure => simp [intOf]; omega
              · obtain rfl : p = c8 := by omega
                have HO2 := Lib.hid hO
                clear hO HO1
                go_wp2
                go_roundw
                case rel => exact ⟨1 + 1, by omega, by go_num, HO2.out⟩
                case measure => simp [intOf]
          · have HB := Lib.hid (HBW.out.trans (HO1.out.below.mono HBW.out.size))
            have H6 := Lib.hid (H5.out W1 HO1.out.below)
            clear H5 HO1
            go_wp2_with fail
            refine H6.out.mono ?_
            rintro e w7 ⟨rfl, q7, rfl⟩
            go_wp2
            go_ret
            exact ⟨rfl, below_drewN HB.out q7⟩
end Go.Proofs.Ytedndmhekjfpdaa
