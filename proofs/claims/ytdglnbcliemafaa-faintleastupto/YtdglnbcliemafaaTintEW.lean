/-
  The walk of TintLeast where the two lists are not too long: the call returns true and changes nothing that was there.
-/
import Derived.Test.YtdglnbcliemafaaTintCW
namespace Go.Proofs.Ytdglnbcliemafaa
open Go.RowKit

set_option maxHeartbeats 400000 in
theorem cloneM_any (A : Option Addr) (n c : Nat) (zs : List Int) (w : World) (hn : n ≤ 1048576) (ha : Arr .i64 w w.heap.size A n zs) :
    Calls Try.prog 26 #[.slice A n c] w (ClonedI n zs w) := by
  have hq := fun wx => Lib.run_eql_slice_nil (P := Try.prog) wx 23 3 A n c 0 0 Try.underlying23
  rcases A with _ | x
  · have h0 : n = 0 := by
      rcases Nat.eq_zero_or_pos n with h | h
      · exact h
      · obtain ⟨_, _, h, _⟩ := ha.2.2 h; cases h
    subst h0
    have h1 : zs = [] := List.eq_nil_of_length_eq_zero ha.1
    subst h1
    clear ha
    go_enter Try.func26, Try.ntmps26
    go_wp2
    go_ret
    exact ⟨none, 0, rfl, Own.nil, Below.refl _ _⟩
  · have hb1 : Below w.heap.size w (w.alloc (.cells #[] 3)) := (Below.refl _ _).alloc (Nat.le_refl _) _
    obtain ⟨v', w', hrun, hO, hB⟩ := (Own.emptyI (w := w) (base := w.heap.size) (Nat.le_refl _)).cat (P := Try.prog) (t := 23) (ty := 23) (c := c) Try.underlying23 intI_info (by omega)
      (ha.below hb1 (Nat.le_refl _)) (by simp; omega) (by simp)
    simp only [List.nil_append] at hO
    obtain ⟨A', c', rfl, _, _⟩ := hO.arr
    have hl := ha.1
    rw [hl] at hrun hO
    have HP := Lib.hid hrun
    have HO := Lib.hid hO
    have HB := Lib.hid (hb1.trans hB)
    clear hrun hO hB ha hl hb1
    go_enter Try.func26, Try.ntmps26
    go_wp2_with (at_builtin; refine wpList_append_run rfl (.tmp 5) (.tmp 6) 23 rfl rfl rfl HP.out ?_)
    go_ret
    exact ⟨A', c', rfl, HO.out, HB.out⟩

/-- What is reached is in each set that has what one begins with and is closed. -/
theorem least_in {zs fr X : List Int} (hz : ∀ z ∈ zs, (Lit.int .u64 z).wf = true) (h : fromE zs fr = 0) (h0 : ∀ x ∈ fr, x ∈ X) (hc : ∀ j, j < (livesI zs).length → nth (livesI zs) j ∈ X → inAll (namesOf zs (nth (livesI zs) j).toNat) X = true) : inAll (reachL zs fr) X = true := inAll_true fun x hx => by
  obtain ⟨h1, h2⟩ := fromE_zero h
  rw [reachL_mem hz h] at hx
  refine (reach_least (S := fun x => x ∈ X ∧ x ∈ livesI zs) (fun x hx => ⟨h0 x hx, h2 x hx⟩) (fun x hS y hy hp => ?_) hx).1
  obtain ⟨j, hj, e⟩ := List.getElem_of_mem hS.2
  have e' : nth (livesI zs) j = x := by rw [nth_get _ _ hj]; exact e
  have hin := hc j hj (by rw [e']; exact hS.1)
  rw [e'] at hin
  refine ⟨inAll_iff.1 hin y (List.mem_filter.2 ⟨hy, by simpa using hp⟩), ?_⟩
  rcases lives_closed hz h1 x hS.2 y hy with h3 | h3
  · omega
  · exact h3

end Go.Proofs.Ytdglnbcliemafaa
