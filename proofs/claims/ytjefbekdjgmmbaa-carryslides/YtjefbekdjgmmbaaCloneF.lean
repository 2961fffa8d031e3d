/-
  slices.Clone of words and of integers, of any length, known up to the capacity.
-/
import Derived.Test.YtjefbekdjgmmbaaRef
import Derived.Test.YtjefbekdjgmmbaaOwnF
import Derived.Deep.Upon
import Derived.Lib.SliceRun
namespace Go.Proofs.Ytjefbekdjgmmbaa
open Go.RowKit

/-- What slices.Clone answers. -/
def ClonedOf (k : IntKind) (e : TypeId) (n : Nat) (zs : List Int) (w : World) (r : Ending) (w' : World) : Prop := ∃ A c, r = .returned (.slice A n c) ∧ OwnF k e w' w.heap.size (.slice A n c) zs ∧ Below w.heap.size w w'

set_option maxHeartbeats 400000 in
theorem cloneWordsF (A : Option Addr) (n c : Nat) (zs : List Int) (w : World) (hn : n * 8 ≤ 281474976710656) (ha : Arr .u64 w w.heap.size A n zs) :
    Calls Try.prog 100 #[.slice A n c] w (ClonedOf .u64 47 n zs w) := by
  have hq := fun wx => Lib.run_eql_slice_nil (P := Try.prog) wx 22 47 A n c 0 0 Try.underlying22
  have hinf : (Try.prog.info? 47).map (fun i => (i.zero, i.size, i.bytes)) = some (some (.int .u64 0), 1, 8) := by kernel_rfl
  rcases A with _ | x
  · have h0 : n = 0 := by
      rcases Nat.eq_zero_or_pos n with h | h
      · exact h
      · obtain ⟨_, _, h, _⟩ := ha.2.2 h; cases h
    subst h0
    have h1 : zs = [] := List.eq_nil_of_length_eq_zero ha.1
    subst h1
    clear ha
    go_enter Try.func100, Try.ntmps100
    go_wp2
    go_ret
    exact ⟨none, 0, rfl, OwnF.nil, Below.refl _ _⟩
  · have hb1 : Below w.heap.size w (w.alloc (.cells #[] 47)) := (Below.refl _ _).alloc (Nat.le_refl _) _
    obtain ⟨i, hi, hz, hs, hby⟩ := info_parts hinf
    have hmain : ∃ A' c' w', Sem.run Try.prog (Builtin.append_ #[22, 22] 22 #[.slice (some ⟨w.heap.size, 0, none⟩) 0 0, .slice (some x) n c]) (w.alloc (.cells #[] 47)) = .ok (.slice A' n c') w' ∧ OwnF .u64 47 w' w.heap.size (.slice A' n c') zs ∧ Below w.heap.size w w' := by
      rcases Nat.eq_zero_or_pos n with h0 | h0
      · subst h0
        have h1 : zs = [] := List.eq_nil_of_length_eq_zero ha.1
        subst h1
        have hr := run_append_nothing (P := Try.prog) (w.alloc (.cells #[] 47)) 22 22 22 47 i Try.underlying22 hi (some ⟨w.heap.size, 0, none⟩) 0 0 (Nat.le_refl _) (.slice (some x) 0 c) (Src.ofSlice _ Try.underlying22 x 0 c [] (by simp) (by intro j v hj; simp at hj) (by intro u hu; cases hu))
        exact ⟨_, _, _, hr, .inr ⟨w.heap.size, 0, [], rfl, Nat.le_refl _, rfl, by unfold maxLen; omega, whole_new .u64 47 w [] (by intro z hz; cases hz)⟩, hb1⟩
      · have ha1 := ha.below hb1 (Nat.le_refl _)
        obtain ⟨b, o, hx, hb, hcell⟩ := ha1.2.2 h0
        injection hx with hx
        subst hx
        have hl := ha.1
        have hr := run_append_grow (P := Try.prog) (w.alloc (.cells #[] 47)) 22 22 47 i (.int .u64 0) Try.underlying22 hi hz ⟨w.heap.size, 0, none⟩ 0 0 [] (by simp) (by intro j v hj; simp at hj) ⟨b, o, none⟩ n c (zs.map (Value.int .u64)) (by rw [List.length_map, hs, Nat.mul_one, hl])
          (fun j v hj => by
            have hj' : j < n := by
              have := (List.getElem?_eq_some_iff.1 hj).1
              rw [List.length_map] at this; omega
            have e1 : (⟨b, o, none⟩ : Addr).add j = ⟨b, o + j, none⟩ := by unfold Addr.add; split <;> simp_all
            rw [e1, hcell j hj', ← hj]
            simp [nth, List.getElem?_eq_getElem (by omega : j < zs.length)])
          (by omega) (by omega) (by rw [Nat.zero_add, nextslicecap_zero h0, hby]; exact hn)
        simp only [Nat.zero_add] at hr
        have hge := grownCap_ge (w.alloc (.cells #[] 47)) n 0 47
        have hcm : grownCap (w.alloc (.cells #[] 47)) n 0 47 ≤ maxLen := grownCap_le_maxLen _ n 0 47 (by unfold maxLen; omega)
        generalize grownCap (w.alloc (.cells #[] 47)) n 0 47 = cap at hr hge hcm
        rw [zeros_ints] at hr
        have hsz : (w.alloc (.cells #[] 47)).heap.size = w.heap.size + 1 := by simp
        have hcs : (#[] : Array Value) ++ (zs.map (Value.int .u64)).toArray ++ ((List.replicate (cap - n) (0 : Int)).map (Value.int .u64)).toArray = ((zs ++ List.replicate (cap - n) 0).map (Value.int .u64)).toArray := by
          apply Array.ext'; simp
        rw [show ([] : List Value).toArray = #[] from rfl, hcs] at hr
        have hwz : ∀ z ∈ zs ++ List.replicate (cap - n) 0, (Lit.int .u64 z).wf = true := by
          intro z hz
          rcases List.mem_append.1 hz with h | h
          · exact ha.2.1 z h
          · rw [(List.mem_replicate.1 h).2]; decide
        refine ⟨_, _, _, hr, .inr ⟨_, cap, List.replicate (cap - n) 0, by rw [hl], by omega, by simp; omega, hcm, ?_⟩, ?_⟩
        · exact whole_new .u64 47 (w.alloc (.cells #[] 47)).drew _ hwz
        · have : Below w.heap.size w (w.alloc (.cells #[] 47)).drew := below_drewN hb1 1
          exact this.alloc this.size _
    obtain ⟨A', c', w', hrun, hF, hB⟩ := hmain
    have HP := Lib.hid hrun
    have HF := Lib.hid hF
    have HB := Lib.hid hB
    clear hrun hF hB ha hb1 hi hz hs hby hinf
    go_enter Try.func100, Try.ntmps100
    go_wp2_with (at_builtin; refine wpList_append_run rfl (.tmp 5) (.tmp 6) 22 rfl rfl rfl HP.out ?_)
    go_ret
    exact ⟨A', c', rfl, HF.out, HB.out⟩
end Go.Proofs.Ytjefbekdjgmmbaa
