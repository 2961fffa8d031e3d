/-
  Counting who names whom, over no program of its own: counts; what stays when all that nobody names goes, however it is taken away.
-/
import Derived.Test.YtgekghlmkfkbjaaTintP
namespace Go.Proofs.Ytgekghlmkfkbjaa
open Go.RowKit

/-- How often an object is named: by a list, and by some objects. -/
def cntO (zs fr bl : List Int) (x : Int) : Nat := fr.count x + (bl.map fun y => (nxOf zs y).count x).sum
def countsL (zs fr : List Int) : List Int := (livesI zs).map fun x => (cntO zs fr (livesI zs) x : Int)
/-- What is left after some rounds. -/
def stayT (zs fr : List Int) : Nat → List Int
  | 0 => livesI zs
  | i + 1 => (stayT zs fr i).filter fun x => decide (cntO zs fr (stayT zs fr i) x ≠ 0)
def stayL (zs fr : List Int) : List Int := stayT zs fr (livesI zs).length
def goneL (zs fr : List Int) : List Int := (livesI zs).filter fun x => decide (x ∉ stayL zs fr)
def ringsL (zs fr : List Int) : List Int := (livesI zs).filter fun x => decide (x ∉ reachL zs fr ∧ cntO zs fr (livesI zs) x ≠ 0)
def withoutL (l : List Int) (k : Nat) : List Int := l.take k ++ l.drop (k + 1)
/-- The error of Drop. -/
def dropE (zs fr : List Int) (k : Int) : Int := if fromE zs fr ≠ 0 then fromE zs fr else if k < 0 ∨ (fr.length : Int) ≤ k then 4 else 0
def countsO (zs fr : List Int) : List Int := if fromE zs fr = 0 then countsL zs fr else []
def ringsO (zs fr : List Int) : List Int := if fromE zs fr = 0 then ringsL zs fr else []
def dropO (zs fr : List Int) (k : Int) : List Int := if dropE zs fr k = 0 then goneL zs (withoutL fr k.toNat) else []
section
variable {zs fr bl cl : List Int} {x y : Int} {i j : Nat} {k : Int}
theorem sum_zero : ∀ {l : List Nat}, l.sum = 0 ↔ ∀ n ∈ l, n = 0
  | [] => by simp
  | a :: l => by
    rw [List.sum_cons, Nat.add_eq_zero_iff, sum_zero]
    simp
/-- Named by none. -/
theorem cnt_zero : cntO zs fr bl x = 0 ↔ x ∉ fr ∧ ∀ y ∈ bl, x ∉ nxOf zs y := by
  unfold cntO
  rw [Nat.add_eq_zero_iff, List.count_eq_zero, sum_zero]
  constructor
  · rintro ⟨h1, h2⟩
    exact ⟨h1, fun y hy => List.count_eq_zero.1 (h2 _ (List.mem_map.2 ⟨y, hy, rfl⟩))⟩
  · rintro ⟨h1, h2⟩
    refine ⟨h1, fun n hn => ?_⟩
    obtain ⟨y, hy, rfl⟩ := List.mem_map.1 hn
    exact List.count_eq_zero.2 (h2 y hy)
theorem cnt_pos : cntO zs fr bl x ≠ 0 ↔ x ∈ fr ∨ ∃ y ∈ bl, x ∈ nxOf zs y := by
  rw [Ne, cnt_zero]
  constructor
  · intro h
    by_cases h1 : x ∈ fr
    · exact .inl h1
    · refine .inr ?_
      by_cases h2 : ∃ y ∈ bl, x ∈ nxOf zs y
      · exact h2
      · exact absurd ⟨h1, fun y hy hx => h2 ⟨y, hy, hx⟩⟩ h
  · rintro (h | ⟨y, hy, h⟩) ⟨h1, h2⟩
    · exact h1 h
    · exact h2 y hy h
theorem cnt_more (h : ∀ y ∈ bl, y ∈ cl) (hx : cntO zs fr bl x ≠ 0) : cntO zs fr cl x ≠ 0 := by
  rw [cnt_pos] at hx ⊢
  exact hx.imp id fun ⟨y, hy, h2⟩ => ⟨y, h y hy, h2⟩
theorem stayT_step : ∀ y ∈ stayT zs fr (i + 1), y ∈ stayT zs fr i := fun _ hy => (List.mem_filter.1 hy).1
theorem stayT_lives : ∀ i, ∀ y ∈ stayT zs fr i, y ∈ livesI zs
  | 0, _, h => h
  | i + 1, y, h => stayT_lives i y (stayT_step y h)
theorem stayT_rise : ∀ i, (stayT zs fr i).Pairwise (· < ·)
  | 0 => lives_rise
  | i + 1 => List.Pairwise.filter _ (stayT_rise i)
/-- What is named by its own is never taken away. -/
theorem stayT_holds {S : List Int} (hl : ∀ y ∈ S, y ∈ livesI zs) (hs : ∀ y ∈ S, cntO zs fr S y ≠ 0) : ∀ i, ∀ y ∈ S, y ∈ stayT zs fr i
  | 0, y, h => hl y h
  | i + 1, y, h => List.mem_filter.2 ⟨stayT_holds hl hs i y h, by simpa using cnt_more (stayT_holds hl hs i) (hs y h)⟩
theorem stayT_fix (h : stayT zs fr (i + 1) = stayT zs fr i) : ∀ {j}, i ≤ j → stayT zs fr j = stayT zs fr i
  | 0, hj => by
    obtain rfl : i = 0 := by omega
    rfl
  | j + 1, hj => by
    rcases Nat.lt_or_eq_of_le hj with h1 | h1
    · have h2 := stayT_fix h (Nat.le_of_lt_succ h1)
      show (stayT zs fr j).filter _ = _
      rw [h2]
      exact h
    · subst h1; rfl
theorem stayT_len : ∀ i, (stayT zs fr i).length + i ≤ (livesI zs).length ∨ ∃ j, j < i ∧ stayT zs fr (j + 1) = stayT zs fr j
  | 0 => .inl (Nat.le_refl _)
  | i + 1 => by
    rcases stayT_len i with h | ⟨j, hj, h⟩
    · by_cases he : stayT zs fr (i + 1) = stayT zs fr i
      · exact .inr ⟨i, Nat.lt_succ_self _, he⟩
      · refine .inl ?_
        have h1 : (stayT zs fr (i + 1)).length < (stayT zs fr i).length := by
          rcases Nat.lt_or_ge (stayT zs fr (i + 1)).length (stayT zs fr i).length with h2 | h2
          · exact h2
          · exact absurd (List.Sublist.eq_of_length_le (List.filter_sublist (l := stayT zs fr i)) h2) he
        omega
    · exact .inr ⟨j, by omega, h⟩
theorem stayL_fix : stayT zs fr ((livesI zs).length + 1) = stayL zs fr := by
  rcases stayT_len (zs := zs) (fr := fr) ((livesI zs).length + 1) with h | ⟨j, hj, h⟩
  · omega
  · unfold stayL
    rw [stayT_fix h (show j ≤ (livesI zs).length + 1 by omega), stayT_fix h (show j ≤ (livesI zs).length by omega)]
theorem stayL_named (hx : x ∈ stayL zs fr) : cntO zs fr (stayL zs fr) x ≠ 0 := by
  rw [← stayL_fix] at hx
  have := (List.mem_filter.1 hx).2
  simpa [stayL] using this
theorem stayL_lives (hx : x ∈ stayL zs fr) : x ∈ livesI zs := stayT_lives _ x hx
theorem stayL_rise : (stayL zs fr).Pairwise (· < ·) := stayT_rise _
theorem stayL_holds {S : List Int} (hl : ∀ y ∈ S, y ∈ livesI zs) (hs : ∀ y ∈ S, cntO zs fr S y ≠ 0) : ∀ y ∈ S, y ∈ stayL zs fr := stayT_holds hl hs _
/-- Whoever is not named by what is left is none of those that stay. -/
theorem stay_keep {S : List Int} (h : ∀ y ∈ stayL zs fr, y ∈ S) (hx : cntO zs fr S x = 0) : x ∉ stayL zs fr := fun hm => cnt_more h (stayL_named hm) hx
theorem gone_mem : x ∈ goneL zs fr ↔ x ∈ livesI zs ∧ x ∉ stayL zs fr := by unfold goneL; rw [List.mem_filter]; simp
theorem gone_rise : (goneL zs fr).Pairwise (· < ·) := List.Pairwise.filter _ lives_rise
/-- What is reached stays. -/
theorem reach_stays (hz : ∀ z ∈ zs, (Lit.int .u64 z).wf = true) (h0 : fromE zs fr = 0) : ∀ x ∈ reachL zs fr, x ∈ stayL zs fr := by
  refine stayL_holds reachL_lives fun x hx => ?_
  rw [cnt_pos]
  have h1 := (reachL_mem hz h0).1 hx
  cases h1 with
  | base h => exact .inl h
  | step h h2 h3 => exact .inr ⟨_, (reachL_mem hz h0).2 h, h2⟩
theorem rings_mem : x ∈ ringsL zs fr ↔ x ∈ livesI zs ∧ x ∉ reachL zs fr ∧ cntO zs fr (livesI zs) x ≠ 0 := by unfold ringsL; rw [List.mem_filter]; simp
theorem rings_rise : (ringsL zs fr).Pairwise (· < ·) := List.Pairwise.filter _ lives_rise
theorem countsL_len : (countsL zs fr).length = (livesI zs).length := by simp [countsL]
theorem countsL_nth (h : i < (livesI zs).length) : nth (countsL zs fr) i = (cntO zs fr (livesI zs) (nth (livesI zs) i) : Int) := by
  rw [nth_get _ _ (by rw [countsL_len]; exact h), nth_get _ _ h]; simp [countsL]
theorem without_len {l : List Int} {k : Nat} (h : k < l.length) : (withoutL l k).length = l.length - 1 := by unfold withoutL; rw [List.length_append, List.length_take, List.length_drop]; omega
theorem without_sub {l : List Int} {k : Nat} (h : x ∈ withoutL l k) : x ∈ l := by
  unfold withoutL at h
  rcases List.mem_append.1 h with h | h
  · exact List.mem_of_mem_take h
  · exact List.mem_of_mem_drop h
theorem without_from {k : Nat} (h : fromE zs fr = 0) : fromE zs (withoutL fr k) = 0 := fromE_ok (fromE_zero h).1 fun x hx => (fromE_zero h).2 x (without_sub hx)
theorem dropE_from (h : fromE zs fr ≠ 0) : dropE zs fr k = fromE zs fr := if_pos h
theorem dropE_range (h : fromE zs fr = 0) (hk : k < 0 ∨ (fr.length : Int) ≤ k) : dropE zs fr k = 4 := by unfold dropE; rw [if_neg (by simp [h]), if_pos hk]
theorem dropE_ok (h : fromE zs fr = 0) (hk : ¬ (k < 0 ∨ (fr.length : Int) ≤ k)) : dropE zs fr k = 0 := by unfold dropE; rw [if_neg (by simp [h]), if_neg hk]
theorem dropE_zero (h : dropE zs fr k = 0) : fromE zs fr = 0 ∧ 0 ≤ k ∧ k < fr.length := by
  unfold dropE at h
  split at h
  · rename_i h1; exact absurd h h1
  · rename_i h1
    split at h
    · cases h
    · rename_i h2; exact ⟨by simpa using h1, by omega, by omega⟩
theorem dropO_bad (h : dropE zs fr k ≠ 0) : dropO zs fr k = [] := if_neg h
theorem dropO_ok (h : dropE zs fr k = 0) : dropO zs fr k = goneL zs (withoutL fr k.toNat) := if_pos h
theorem countsO_bad (h : fromE zs fr ≠ 0) : countsO zs fr = [] := if_neg h
theorem countsO_ok (h : fromE zs fr = 0) : countsO zs fr = countsL zs fr := if_pos h
theorem ringsO_bad (h : fromE zs fr ≠ 0) : ringsO zs fr = [] := if_neg h
theorem ringsO_ok (h : fromE zs fr = 0) : ringsO zs fr = ringsL zs fr := if_pos h
end
end Go.Proofs.Ytgekghlmkfkbjaa
