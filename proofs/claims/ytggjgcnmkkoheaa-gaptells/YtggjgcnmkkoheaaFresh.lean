/-
  A slice of words whose memory, up to its capacity, is a block of its own ('Fresh'); slices.Clone gives one.
-/
import Derived.Test.YtggjgcnmkkoheaaClone
import Derived.Deep.Upon
namespace Go.Proofs.Ytggjgcnmkkoheaa
open Go.RowKit

/-- The slice is nil, or all its memory, up to its capacity, is a block from 'base' on that begins with 'zs'. -/
def Fresh (t : TypeId) (w : World) (base : Nat) (A : Option Addr) (n c : Nat) (zs : List Int) : Prop :=
  (A = none ∧ n = 0 ∧ c = 0 ∧ zs = []) ∨ ∃ g sp, A = some ⟨g, 0, none⟩ ∧ base ≤ g ∧ zs.length = n ∧ (zs ++ sp).length = c ∧ c ≤ maxLen ∧ Whole .u64 t w g (zs ++ sp)
section
variable {t : TypeId} {w w' : World} {base n c : Nat} {A : Option Addr} {zs : List Int}
theorem Fresh.nil : Fresh t w base none 0 0 [] := .inl ⟨rfl, rfl, rfl, rfl⟩
theorem Fresh.of {g : Nat} (h : Whole .u64 t w g zs) (hg : base ≤ g) (hl : zs.length ≤ maxLen) : Fresh t w base (some ⟨g, 0, none⟩) zs.length zs.length zs :=
  .inr ⟨g, [], rfl, hg, rfl, by simp, hl, by simpa using h⟩
theorem Fresh.cap (h : Fresh t w base A n c zs) : n ≤ c ∧ c ≤ maxLen := by
  rcases h with ⟨_, rfl, rfl, _⟩ | ⟨g, sp, _, _, h1, h2, h3, _⟩
  · exact ⟨Nat.le_refl _, by unfold maxLen; omega⟩
  · rw [List.length_append] at h2; exact ⟨by omega, h3⟩
theorem Fresh.len (h : Fresh t w base A n c zs) : zs.length = n := by
  rcases h with ⟨_, rfl, rfl, rfl⟩ | ⟨g, sp, _, _, h1, _⟩
  · rfl
  · exact h1
theorem Fresh.arr (h : Fresh t w base A n c zs) : Arr .u64 w w.heap.size A n zs := by
  rcases h with ⟨_, rfl, rfl, rfl⟩ | ⟨g, sp, rfl, _, h1, h2, _, hW⟩
  · exact Arr.zero
  · have ha := hW.arr hW.lt
    refine ⟨h1, fun z hz => ha.2.1 z (List.mem_append_left _ hz), fun hn => ?_⟩
    obtain ⟨b, off, e, hb, hc⟩ := ha.2.2 (by rw [List.length_append]; omega)
    refine ⟨b, off, e, hb, fun j hj => ?_⟩
    rw [hc j (by rw [List.length_append]; omega)]
    simp [nth, List.getElem?_append_left (by omega : j < zs.length)]
theorem Fresh.below {B : Nat} (h : Fresh t w base A n c zs) (hb : Below B w w') (hB : w.heap.size ≤ B) : Fresh t w' base A n c zs := by
  rcases h with h | ⟨g, sp, h1, h2, h3, h4, h5, hW⟩
  · exact .inl h
  · exact .inr ⟨g, sp, h1, h2, h3, h4, h5, hW.below hb (Nat.lt_of_lt_of_le hW.lt hB)⟩
theorem Fresh.less {base' : Nat} (h : Fresh t w base A n c zs) (hb : base' ≤ base) : Fresh t w base' A n c zs := by
  rcases h with h | ⟨g, sp, h1, h2, r⟩
  · exact .inl h
  · exact .inr ⟨g, sp, h1, Nat.le_trans hb h2, r⟩
end

/-- What slices.Clone answers. -/
def ClonedF (n : Nat) (zs : List Int) (w : World) (e : Ending) (w' : World) : Prop := ∃ A c, e = .returned (.slice A n c) ∧ Fresh 42 w' w.heap.size A n c zs ∧ Below w.heap.size w w'

theorem zeros_words (q : Nat) : (Builtin.zeroCells (Value.int IntKind.u64 0).cells q) = ((List.replicate q (0 : Int)).map (Value.int .u64)).toArray := by
  apply Array.ext'
  simp [Builtin.zeroCells, Value.cells, Nat.mod_one]
  apply List.ext_getElem
  · simp
  · intro i h1 h2
    simp

set_option maxHeartbeats 400000 in
theorem slicesClone_fresh (A : Option Addr) (n c : Nat) (zs : List Int) (w : World) (hn : n * 8 ≤ 281474976710656) (ha : Arr .u64 w w.heap.size A n zs) :
    Calls Try.prog 43 #[.slice A n c] w (ClonedF n zs w) := by
  have hq := fun wx => Lib.run_eql_slice_nil (P := Try.prog) wx 22 42 A n c 0 0 Try.underlying22
  rcases A with _ | x
  · have h0 : n = 0 := by
      rcases Nat.eq_zero_or_pos n with h | h
      · exact h
      · obtain ⟨_, _, h, _⟩ := ha.2.2 h; cases h
    subst h0
    have h1 : zs = [] := List.eq_nil_of_length_eq_zero ha.1
    subst h1
    clear ha
    go_enter Try.func43, Try.ntmps43
    go_wp2
    go_ret
    exact ⟨none, 0, rfl, Fresh.nil, Below.refl _ _⟩
  · have hb1 : Below w.heap.size w (w.alloc (.cells #[] 42)) := (Below.refl _ _).alloc (Nat.le_refl _) _
    obtain ⟨i, hi, hz, hs, hby⟩ := info_parts u64_info
    have hmain : ∃ A' c' w', Sem.run Try.prog (Builtin.append_ #[22, 22] 22 #[.slice (some ⟨w.heap.size, 0, none⟩) 0 0, .slice (some x) n c]) (w.alloc (.cells #[] 42)) = .ok (.slice A' n c') w' ∧ Fresh 42 w' w.heap.size A' n c' zs ∧ Below w.heap.size w w' := by
      rcases Nat.eq_zero_or_pos n with h0 | h0
      · subst h0
        have h1 : zs = [] := List.eq_nil_of_length_eq_zero ha.1
        subst h1
        have hr := run_append_nothing (P := Try.prog) (w.alloc (.cells #[] 42)) 22 22 22 42 i Try.underlying22 hi (some ⟨w.heap.size, 0, none⟩) 0 0 (Nat.le_refl _) (.slice (some x) 0 c) (Src.ofSlice _ Try.underlying22 x 0 c [] (by simp) (by intro j v hj; simp at hj) (by intro u hu; cases hu))
        exact ⟨_, _, _, hr, .inr ⟨w.heap.size, [], rfl, Nat.le_refl _, rfl, rfl, by unfold maxLen; omega, whole_new .u64 42 w [] (by intro z hz; cases hz)⟩, hb1⟩
      · have ha1 := ha.below hb1 (Nat.le_refl _)
        obtain ⟨b, o, hx, hb, hcell⟩ := ha1.2.2 h0
        injection hx with hx
        subst hx
        have hl := ha.1
        have hr := run_append_grow (P := Try.prog) (w.alloc (.cells #[] 42)) 22 22 42 i (.int .u64 0) Try.underlying22 hi hz ⟨w.heap.size, 0, none⟩ 0 0 [] (by simp) (by intro j v hj; simp at hj) ⟨b, o, none⟩ n c (zs.map (Value.int .u64)) (by rw [List.length_map, hs, Nat.mul_one, hl])
          (fun j v hj => by
            have hj' : j < n := by
              have := (List.getElem?_eq_some_iff.1 hj).1
              rw [List.length_map] at this; omega
            have e1 : (⟨b, o, none⟩ : Addr).add j = ⟨b, o + j, none⟩ := by unfold Addr.add; split <;> simp_all
            rw [e1, hcell j hj', ← hj]
            simp [nth, List.getElem?_eq_getElem (by omega : j < zs.length)])
          (by omega) (by omega) (by rw [Nat.zero_add, nextslicecap_zero h0, hby]; exact hn)
        simp only [Nat.zero_add] at hr
        have hge := grownCap_ge (w.alloc (.cells #[] 42)) n 0 42
        have hcm : grownCap (w.alloc (.cells #[] 42)) n 0 42 ≤ maxLen := grownCap_le_maxLen _ n 0 42 (by unfold maxLen; omega)
        generalize grownCap (w.alloc (.cells #[] 42)) n 0 42 = cap at hr hge hcm
        rw [zeros_words] at hr
        have hsz : (w.alloc (.cells #[] 42)).heap.size = w.heap.size + 1 := by simp
        have hcs : (#[] : Array Value) ++ (zs.map (Value.int .u64)).toArray ++ ((List.replicate (cap - n) (0 : Int)).map (Value.int .u64)).toArray = ((zs ++ List.replicate (cap - n) 0).map (Value.int .u64)).toArray := by
          apply Array.ext'; simp
        rw [show ([] : List Value).toArray = #[] from rfl, hcs] at hr
        have hwz : ∀ z ∈ zs ++ List.replicate (cap - n) 0, (Lit.int .u64 z).wf = true := by
          intro z hz
          rcases List.mem_append.1 hz with h | h
          · exact ha.2.1 z h
          · rw [(List.mem_replicate.1 h).2]; decide
        refine ⟨_, _, _, hr, .inr ⟨_, List.replicate (cap - n) 0, rfl, by omega, hl, by simp; omega, hcm, ?_⟩, ?_⟩
        · exact whole_new .u64 42 (w.alloc (.cells #[] 42)).drew _ hwz
        · have : Below w.heap.size w (w.alloc (.cells #[] 42)).drew := below_drewN hb1 1
          exact this.alloc this.size _
    obtain ⟨A', c', w', hrun, hF, hB⟩ := hmain
    have HP := Lib.hid hrun
    have HF := Lib.hid hF
    have HB := Lib.hid hB
    clear hrun hF hB ha hb1 hi hz hs hby
    go_enter Try.func43, Try.ntmps43
    go_wp2_with (at_builtin; refine wpList_append_run rfl (.tmp 5) (.tmp 6) 22 rfl rfl rfl HP.out ?_)
    go_ret
    exact ⟨A', c', rfl, HF.out, HB.out⟩
end Go.Proofs.Ytggjgcnmkkoheaa
