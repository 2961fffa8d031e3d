/-
  Compaction plans, over no program of their own: where each goes ('toN', 'endN'), what is left ('gapP'), the first error ('planE').
-/
import Derived.Test.YtjefbekdjgmmbaaStepD
import Derived.Test.YtjefbekdjgmmbaaRunM
namespace Go.Proofs.Ytjefbekdjgmmbaa
open Go.RowKit

/-- How many words the object at 'x' takes. -/
def lgI (zs : List Int) (x : Int) : Int := (longN zs x.toNat : Int)
/-- Where the first 'i' of them end, once moved. -/
def endN (zs ks ps : List Int) : Nat → Int
  | 0 => 0
  | i + 1 => (if nth ks i ∈ ps then nth ks i else endN zs ks ps i) + lgI zs (nth ks i)
/-- Where number 'i' goes. -/
def toN (zs ks ps : List Int) (i : Nat) : Int := if nth ks i ∈ ps then nth ks i else endN zs ks ps i
/-- The first 'i' of them, moved. -/
def moveTo (zs ks ps : List Int) (i : Nat) : List (Int × Int) := (List.range i).map fun j => (toN zs ks ps j, lgI zs (nth ks j))
def moveL (zs ks ps : List Int) : List (Int × Int) := moveTo zs ks ps ks.length
def toTo (zs ks ps : List Int) (i : Nat) : List Int := (List.range i).map (toN zs ks ps)
def toL (zs ks ps : List Int) : List Int := toTo zs ks ps ks.length
/-- Where range number 'i - 1' ends. -/
def bEnd (l : List (Int × Int)) : Nat → Int
  | 0 => 0
  | i + 1 => (nthG l i).1 + (nthG l i).2
/-- What is ahead of the first 'i' ranges. -/
def gapsB (l : List (Int × Int)) : Nat → List (Int × Int)
  | 0 => []
  | i + 1 => gapsB l i ++ if bEnd l i < (nthG l i).1 then [(bEnd l i, (nthG l i).1 - bEnd l i)] else []
/-- What is between, ahead of and behind the ranges. -/
def betwL (l : List (Int × Int)) (n : Int) : List (Int × Int) := gapsB (l ++ [(n, 0)]) (l.length + 1)
/-- The gaps that are left. -/
def gapP (zs ks ps : List Int) : List (Int × Int) := betwL (moveL zs ks ps) zs.length
/-- All of 'ps' are in 'ks'. -/
def subB (ks ps : List Int) : Bool := ps.all fun x => decide (x ∈ ks)
/-- The first error. -/
def planE (zs ks ps : List Int) : Int := if arErr zs ≠ 0 then arErr zs else if (riseB ks && riseB ps) = false then 3 else if (allIn zs ks && subB ks ps) = false then 5 else 0
/-- What To, Gaps answer. -/
def toR (zs ks ps : List Int) : List Int := if planE zs ks ps = 0 then toL zs ks ps else []
def gapR (zs ks ps : List Int) : List (Int × Int) := if planE zs ks ps = 0 then gapP zs ks ps else []
/-- Is word 'k' taken by none of them? -/
def freeP (zs ks ps : List Int) (k : Nat) : Bool := !(List.range ks.length).any fun i => decide (toN zs ks ps i ≤ k ∧ (k : Int) < endN zs ks ps (i + 1))

section
variable {zs ks ps : List Int} {i j : Nat}
theorem planE_arena (h : arErr zs ≠ 0) : planE zs ks ps = arErr zs := by unfold planE; rw [if_pos h]
theorem planE_form (h : arErr zs = 0) (h1 : (riseB ks && riseB ps) = false) : planE zs ks ps = 3 := by unfold planE; rw [if_neg (by simp [h]), if_pos h1]
theorem planE_none (h : arErr zs = 0) (h1 : (riseB ks && riseB ps) = true) (h2 : (allIn zs ks && subB ks ps) = false) : planE zs ks ps = 5 := by unfold planE; rw [if_neg (by simp [h]), if_neg (by simp [h1]), if_pos h2]
theorem planE_ok (h : arErr zs = 0) (h1 : (riseB ks && riseB ps) = true) (h2 : (allIn zs ks && subB ks ps) = true) : planE zs ks ps = 0 := by unfold planE; rw [if_neg (by simp [h]), if_neg (by simp [h1]), if_neg (by simp [h2])]
theorem subB_iff : subB ks ps = true ↔ ∀ x ∈ ps, x ∈ ks := by unfold subB; simp
/-- What keeps the rules. -/
structure PlanOk (zs ks ps : List Int) : Prop where
  arena : arErr zs = 0
  kr : ks.Pairwise (· < ·)
  pr : ps.Pairwise (· < ·)
  kl : ∀ x ∈ ks, x ∈ livesI zs
  pk : ∀ x ∈ ps, x ∈ ks
theorem planE_zero : planE zs ks ps = 0 ↔ PlanOk zs ks ps := by
  constructor
  · intro h
    by_cases h0 : arErr zs = 0
    · cases h1 : (riseB ks && riseB ps)
      · rw [planE_form h0 h1] at h; omega
      · cases h2 : (allIn zs ks && subB ks ps)
        · rw [planE_none h0 h1 h2] at h; omega
        · rw [Bool.and_eq_true] at h1 h2
          exact ⟨h0, riseB_iff.1 h1.1, riseB_iff.1 h1.2, allIn_iff.1 h2.1, subB_iff.1 h2.2⟩
    · rw [planE_arena h0] at h; exact absurd h h0
  · rintro ⟨h0, h1, h2, h3, h4⟩
    exact planE_ok h0 (by rw [riseB_iff.2 h1, riseB_iff.2 h2]; rfl) (by rw [allIn_iff.2 h3, subB_iff.2 h4]; rfl)
theorem toR_ok (h : planE zs ks ps = 0) : toR zs ks ps = toL zs ks ps := if_pos h
theorem toR_bad (h : planE zs ks ps ≠ 0) : toR zs ks ps = [] := if_neg h
theorem gapR_ok (h : planE zs ks ps = 0) : gapR zs ks ps = gapP zs ks ps := if_pos h
theorem gapR_bad (h : planE zs ks ps ≠ 0) : gapR zs ks ps = [] := if_neg h

theorem endN_succ : endN zs ks ps (i + 1) = toN zs ks ps i + lgI zs (nth ks i) := rfl
theorem toN_pin (h : nth ks i ∈ ps) : toN zs ks ps i = nth ks i := if_pos h
theorem toN_move (h : nth ks i ∉ ps) : toN zs ks ps i = endN zs ks ps i := if_neg h
theorem moveTo_succ : moveTo zs ks ps (i + 1) = moveTo zs ks ps i ++ [(toN zs ks ps i, lgI zs (nth ks i))] := by unfold moveTo; rw [List.range_succ, List.map_append]; rfl
theorem moveTo_len : (moveTo zs ks ps i).length = i := by simp [moveTo]
theorem toTo_succ : toTo zs ks ps (i + 1) = toTo zs ks ps i ++ [toN zs ks ps i] := by unfold toTo; rw [List.range_succ, List.map_append]; rfl
theorem toTo_len : (toTo zs ks ps i).length = i := by simp [toTo]
theorem toTo_nth (h : j < i) : nth (toTo zs ks ps i) j = toN zs ks ps j := by
  rw [nth_get _ _ (by rw [toTo_len]; exact h)]; simp [toTo]
theorem moveTo_nth (h : j < i) : nthG (moveTo zs ks ps i) j = (toN zs ks ps j, lgI zs (nth ks j)) := by
  rw [nthG_get _ _ (by rw [moveTo_len]; exact h)]; simp [moveTo]
theorem moveL_len : (moveL zs ks ps).length = ks.length := moveTo_len
theorem toL_len : (toL zs ks ps).length = ks.length := toTo_len

/-- An object that is not free. -/
theorem live_lg {x : Int} (h : x ∈ livesI zs) : 0 ≤ x ∧ 1 ≤ lgI zs x ∧ x + lgI zs x ≤ zs.length := by
  obtain ⟨s, hs, _, rfl⟩ := lives_mem.1 h
  have h1 := sLong_pos (nth zs s)
  have h3 := (begins_mem hs).2.2
  unfold stepOk at h3
  simp only [Bool.and_eq_true, decide_eq_true_eq] at h3
  unfold lgI longN
  rw [Int.toNat_natCast]
  omega
theorem live_apart {x y : Int} (hx : x ∈ livesI zs) (hy : y ∈ livesI zs) (h : x < y) : x + lgI zs x ≤ y := by
  obtain ⟨s, hs, _, rfl⟩ := lives_mem.1 hx
  obtain ⟨t, ht, _, rfl⟩ := lives_mem.1 hy
  have := begins_apart hs ht (by omega)
  unfold lgI longN
  rw [Int.toNat_natCast]
  omega
section
variable (h : PlanOk zs ks ps)
include h
theorem PlanOk.live (hi : i < ks.length) : nth ks i ∈ livesI zs := h.kl _ (nth_mem hi)
theorem PlanOk.rise (hij : i < j) (hj : j < ks.length) : nth ks i < nth ks j := by
  rw [nth_get _ _ (by omega), nth_get _ _ hj]
  exact List.pairwise_iff_getElem.1 h.kr i j (by omega) hj hij
theorem PlanOk.len : ks.length ≤ 256 := Nat.le_trans (sub_length (h.kr.imp fun h e => by omega) h.kl) (lives_len (arena_len h.arena))
theorem PlanOk.plen : ps.length ≤ 256 := Nat.le_trans (sub_length (h.pr.imp fun h e => by omega) h.pk) h.len
/-- None goes up. -/
theorem PlanOk.ends : ∀ i, i ≤ ks.length → 0 ≤ endN zs ks ps i ∧ (i < ks.length → endN zs ks ps i ≤ nth ks i) ∧ endN zs ks ps i ≤ zs.length
  | 0, _ => ⟨Int.le_refl _, fun hi => (live_lg (h.live hi)).1, Int.natCast_nonneg _⟩
  | i + 1, hi => by
    obtain ⟨h1, h2, h3⟩ := PlanOk.ends i (by omega)
    obtain ⟨l1, l2, l3⟩ := live_lg (h.live (i := i) (by omega))
    have h2 := h2 (by omega)
    have h4 : endN zs ks ps (i + 1) ≤ nth ks i + lgI zs (nth ks i) ∧ 0 ≤ endN zs ks ps (i + 1) := by
      rw [endN_succ]
      unfold toN
      split <;> omega
    refine ⟨h4.2, fun hlt => ?_, by omega⟩
    have := live_apart (h.live (i := i) (by omega)) (h.live hlt) (h.rise (Nat.lt_succ_self i) hlt)
    omega
theorem PlanOk.to (hi : i < ks.length) : endN zs ks ps i ≤ toN zs ks ps i ∧ toN zs ks ps i ≤ nth ks i := by
  have h1 := (h.ends i (by omega)).2.1 hi
  unfold toN
  split <;> omega
theorem PlanOk.fits (hi : i < ks.length) : 0 ≤ toN zs ks ps i ∧ 1 ≤ lgI zs (nth ks i) ∧ toN zs ks ps i + lgI zs (nth ks i) ≤ zs.length := by
  have h1 := h.to hi
  have h2 := (h.ends i (by omega)).1
  have h3 := live_lg (h.live hi)
  omega
theorem PlanOk.up : ∀ {j i : Nat}, i ≤ j → j ≤ ks.length → endN zs ks ps i ≤ endN zs ks ps j
  | 0, i, hij, _ => by obtain rfl : i = 0 := by omega
                       exact Int.le_refl _
  | j + 1, i, hij, hj => by
    rcases Nat.lt_or_ge i (j + 1) with h1 | h1
    · have h2 := PlanOk.up (j := j) (i := i) (by omega) (by omega)
      have h3 := h.to (i := j) (by omega)
      have h4 := h.fits (i := j) (by omega)
      rw [endN_succ]
      omega
    · obtain rfl : i = j + 1 := by omega
      exact Int.le_refl _
/-- Ahead of number 'i' all is ahead, behind it all is behind. -/
theorem PlanOk.free {i k : Nat} (hi : i ≤ ks.length) (h1 : endN zs ks ps i ≤ k) (h2 : i < ks.length → (k : Int) < toN zs ks ps i) : freeP zs ks ps k = true := by
  unfold freeP
  rw [Bool.not_eq_true', List.any_eq_false]
  intro j hj
  rw [List.mem_range] at hj
  rw [decide_eq_true_eq]
  rintro ⟨q1, q2⟩
  rcases Nat.lt_or_ge j i with h3 | h3
  · have := h.up (i := j + 1) (j := i) (by omega) hi
    omega
  · have h4 := h2 (by omega)
    rcases Nat.lt_or_ge i j with h5 | h5
    · have := h.up (i := i + 1) (j := j) (by omega) (by omega)
      have h6 := h.to hj
      have h7 := h.fits (i := i) (by omega)
      rw [endN_succ] at this
      omega
    · obtain rfl : i = j := by omega
      omega
omit h in
theorem plan_taken {i k : Nat} (hi : i < ks.length) (h1 : toN zs ks ps i ≤ k) (h2 : (k : Int) < endN zs ks ps (i + 1)) : freeP zs ks ps k = false := by
  unfold freeP
  rw [Bool.not_eq_false', List.any_eq_true]
  exact ⟨i, List.mem_range.2 hi, by rw [decide_eq_true_eq]; exact ⟨h1, h2⟩⟩
omit h in
/-- What a stretch of free words adds. -/
theorem runs_stretch {f : Nat → Bool} {a b : Nat} (hab : a ≤ b) (h0 : a = 0 ∨ f (a - 1) = false) (hf : ∀ k, a ≤ k → k < b → f k = true) : runsTo f b = runsTo f a ++ if (a : Int) < b then [((a : Int), (b : Int) - a)] else [] := by
  rcases Nat.lt_or_ge a b with h1 | h1
  · obtain ⟨d, rfl⟩ : ∃ d, b = a + (d + 1) := ⟨b - a - 1, by omega⟩
    rw [runsTo_run h0 d hf, if_pos (by omega)]
    congr 3
    omega
  · obtain rfl : a = b := by omega
    rw [if_neg (by omega), List.append_nil]
theorem PlanOk.before {a : Nat} (hi : i ≤ ks.length) (ha : (a : Int) = endN zs ks ps i) : a = 0 ∨ freeP zs ks ps (a - 1) = false := by
  rcases i with _ | i
  · left
    have : endN zs ks ps 0 = 0 := rfl
    omega
  · rcases Nat.eq_zero_or_pos a with h0 | h0
    · exact .inl h0
    · right
      have h1 := h.fits (i := i) (by omega)
      rw [endN_succ] at ha
      exact plan_taken (i := i) (by omega) (by omega) (by rw [endN_succ]; omega)
omit h in
theorem move_nth {n : Int} (hi : i < ks.length) : nthG (moveL zs ks ps ++ [(n, 0)]) i = (toN zs ks ps i, lgI zs (nth ks i)) := by
  rw [nthG_append_left _ _ _ (by rw [moveL_len]; exact hi)]
  exact moveTo_nth hi
omit h in
theorem move_last {n : Int} : nthG (moveL zs ks ps ++ [(n, 0)]) ks.length = (n, 0) := by
  have := nthG_snoc (moveL zs ks ps) (n, (0 : Int))
  rwa [moveL_len] at this
omit h in
theorem move_end {n : Int} : ∀ {i : Nat}, i ≤ ks.length → bEnd (moveL zs ks ps ++ [(n, 0)]) i = endN zs ks ps i
  | 0, _ => rfl
  | i + 1, hi => by
    show (nthG (moveL zs ks ps ++ [(n, 0)]) i).1 + (nthG (moveL zs ks ps ++ [(n, 0)]) i).2 = _
    rw [move_nth (by omega)]
    rfl
/-- The runs of free words up to where number 'i' ends are the gaps ahead of it. -/
theorem PlanOk.gaps {n : Int} : ∀ i, i ≤ ks.length → ∀ a : Nat, (a : Int) = endN zs ks ps i → runsTo (freeP zs ks ps) a = gapsB (moveL zs ks ps ++ [(n, 0)]) i
  | 0, _, a, ha => by
    have : endN zs ks ps 0 = 0 := rfl
    obtain rfl : a = 0 := by omega
    rfl
  | i + 1, hi, a, ha => by
    obtain ⟨e1, _, _⟩ := h.ends i (by omega)
    have h1 := h.to (i := i) (by omega)
    have h2 := h.fits (i := i) (by omega)
    obtain ⟨b, hb⟩ : ∃ b : Nat, (b : Int) = endN zs ks ps i := ⟨(endN zs ks ps i).toNat, by omega⟩
    obtain ⟨c, hc⟩ : ∃ c : Nat, (c : Int) = toN zs ks ps i := ⟨(toN zs ks ps i).toNat, by omega⟩
    have ih := PlanOk.gaps (n := n) i (by omega) b hb
    have h3 := runs_stretch (f := freeP zs ks ps) (a := b) (b := c) (by omega) (h.before (i := i) (by omega) hb) fun k q1 q2 => h.free (i := i) (by omega) (by omega) (fun _ => by omega)
    have h4 : runsTo (freeP zs ks ps) a = runsTo (freeP zs ks ps) c := by
      obtain ⟨d, rfl⟩ : ∃ d, a = c + d := ⟨a - c, by rw [endN_succ] at ha; omega⟩
      exact runsTo_gap d fun k q1 q2 => plan_taken (i := i) (by omega) (by omega) (by omega)
    rw [h4, h3, ih]
    have e : gapsB (moveL zs ks ps ++ [(n, 0)]) (i + 1) = gapsB (moveL zs ks ps ++ [(n, 0)]) i ++ if endN zs ks ps i < toN zs ks ps i then [(endN zs ks ps i, toN zs ks ps i - endN zs ks ps i)] else [] := by
      show gapsB _ i ++ _ = _
      rw [move_end (by omega), move_nth (by omega)]
    rw [e, hb, hc]
theorem PlanOk.all : runsTo (freeP zs ks ps) zs.length = gapP zs ks ps := by
  obtain ⟨e1, _, e3⟩ := h.ends ks.length (Nat.le_refl _)
  obtain ⟨b, hb⟩ : ∃ b : Nat, (b : Int) = endN zs ks ps ks.length := ⟨(endN zs ks ps ks.length).toNat, by omega⟩
  have h3 := runs_stretch (f := freeP zs ks ps) (a := b) (b := zs.length) (by omega) (h.before (Nat.le_refl _) hb) fun k q1 q2 => h.free (i := ks.length) (Nat.le_refl _) (by omega) (fun q => absurd q (by omega))
  rw [h3, h.gaps (n := (zs.length : Int)) ks.length (Nat.le_refl _) b hb]
  unfold gapP betwL
  rw [moveL_len]
  show _ = gapsB _ ks.length ++ _
  rw [move_end (Nat.le_refl _), move_last, ← hb]

/-- What the first 'i' of them take. -/
def sumL (zs ks : List Int) : Nat → Int
  | 0 => 0
  | i + 1 => sumL zs ks i + lgI zs (nth ks i)
omit h in
theorem sum_app (l m : List (Int × Int)) : ((l ++ m).map (·.2)).sum = (l.map (·.2)).sum + (m.map (·.2)).sum := by simp
theorem PlanOk.room : ∀ i, i ≤ ks.length → sumL zs ks i + ((gapsB (moveL zs ks ps ++ [((zs.length : Int), 0)]) i).map (·.2)).sum = endN zs ks ps i
  | 0, _ => rfl
  | i + 1, hi => by
    have ih := PlanOk.room i (by omega)
    have h1 := h.to (i := i) (by omega)
    show sumL zs ks i + lgI zs (nth ks i) + ((gapsB _ i ++ _).map (·.2)).sum = _
    rw [sum_app, move_end (by omega), move_nth (by omega), endN_succ]
    show _ + (_ + (List.map (·.2) (if endN zs ks ps i < toN zs ks ps i then [(endN zs ks ps i, toN zs ks ps i - endN zs ks ps i)] else [])).sum) = _
    split
    · simp; omega
    · simp; omega
theorem PlanOk.whole : sumL zs ks ks.length + ((gapP zs ks ps).map (·.2)).sum = zs.length := by
  have h1 := h.room ks.length (Nat.le_refl _)
  have h2 := (h.ends ks.length (Nat.le_refl _)).2.2
  unfold gapP betwL
  rw [moveL_len]
  show _ + ((gapsB _ ks.length ++ _).map (·.2)).sum = _
  rw [sum_app, move_end (Nat.le_refl _), move_last]
  show _ + (_ + (List.map (·.2) (if endN zs ks ps ks.length < (zs.length : Int) then [(endN zs ks ps ks.length, (zs.length : Int) - endN zs ks ps ks.length)] else [])).sum) = _
  split
  · simp; omega
  · simp; omega
omit h in
theorem plan_count : ∀ i, i ≤ ks.length → (gapsB (moveL zs ks ps ++ [((zs.length : Int), 0)]) i).length ≤ ((ks.take i).filter fun x => decide (x ∈ ps)).length
  | 0, _ => Nat.zero_le _
  | i + 1, hi => by
    have ih := plan_count i (by omega)
    have e1 : ks.take (i + 1) = ks.take i ++ [nth ks i] := by rw [nth_get _ _ (by omega)]; exact List.take_succ_eq_append_getElem (by omega)
    show (gapsB _ i ++ _).length ≤ _
    rw [move_end (by omega), move_nth (by omega), e1, List.filter_append, List.length_append, List.length_append]
    show _ + (if endN zs ks ps i < toN zs ks ps i then [(endN zs ks ps i, toN zs ks ps i - endN zs ks ps i)] else []).length ≤ _
    split
    · rename_i h1
      have h2 : nth ks i ∈ ps := by
        by_cases h2 : nth ks i ∈ ps
        · exact h2
        · rw [toN_move h2] at h1; omega
      rw [List.filter_cons_of_pos (by simpa using h2)]
      simp; omega
    · simp; omega
/-- At most as many gaps as pinned ones, and one. -/
theorem PlanOk.few : (gapP zs ks ps).length ≤ ps.length + 1 := by
  have h1 := plan_count (zs := zs) (ks := ks) (ps := ps) ks.length (Nat.le_refl _)
  rw [List.take_length] at h1
  have h2 : (ks.filter fun x => decide (x ∈ ps)).length ≤ ps.length :=
    sub_length ((h.kr.imp fun h e => by omega : ks.Nodup).filter _) fun x hx => by simpa using (List.mem_filter.1 hx).2
  unfold gapP betwL
  rw [moveL_len]
  show (gapsB _ ks.length ++ _).length ≤ _
  rw [List.length_append]
  split
  · simp; omega
  · simp; omega
end
end
/-- What the first 'j' gaps take. -/
def gapS (l : List (Int × Int)) : Nat → Int
  | 0 => 0
  | j + 1 => gapS l j + (nthG l j).2
theorem gapS_take (l : List (Int × Int)) : ∀ j, j ≤ l.length → gapS l j = ((l.take j).map (·.2)).sum
  | 0, _ => rfl
  | j + 1, hj => by
    rw [List.take_succ_eq_append_getElem (by omega), sum_app, ← gapS_take l j (by omega), ← nthG_get _ _ (by omega)]
    show gapS l j + (nthG l j).2 = _
    simp
theorem gapS_all (l : List (Int × Int)) : gapS l l.length = (l.map (·.2)).sum := by rw [gapS_take l _ (Nat.le_refl _), List.take_length]
section
variable {zs ks ps : List Int}
theorem PlanOk.some_ (h : PlanOk zs ks ps) : ∀ i, i ≤ ks.length → 0 ≤ sumL zs ks i ∧ sumL zs ks i ≤ endN zs ks ps i
  | 0, _ => ⟨Int.le_refl _, Int.le_refl _⟩
  | i + 1, hi => by
    have ih := PlanOk.some_ h i (by omega)
    have h1 := h.to (i := i) (by omega)
    have h2 := h.fits (i := i) (by omega)
    show 0 ≤ sumL zs ks i + lgI zs (nth ks i) ∧ sumL zs ks i + lgI zs (nth ks i) ≤ _
    rw [endN_succ]
    omega
theorem gapsB_pos (l : List (Int × Int)) : ∀ i, ∀ x ∈ gapsB l i, 0 ≤ x.2
  | 0, x, hx => by cases hx
  | i + 1, x, hx => by
    rcases List.mem_append.1 hx with h | h
    · exact gapsB_pos l i x h
    · split at h
      · rename_i h1
        rw [List.mem_singleton.1 h]
        show 0 ≤ (nthG l i).1 - bEnd l i
        omega
      · cases h
theorem gapS_pos {l : List (Int × Int)} (h : ∀ x ∈ l, 0 ≤ x.2) : ∀ {i j : Nat}, i ≤ j → j ≤ l.length → gapS l i ≤ gapS l j ∧ 0 ≤ gapS l i
  | i, 0, hij, _ => by obtain rfl : i = 0 := by omega
                       exact ⟨Int.le_refl _, Int.le_refl _⟩
  | i, j + 1, hij, hj => by
    have hz : 0 ≤ (nthG l j).2 := h _ (by rw [nthG_get _ _ (by omega)]; exact List.getElem_mem _)
    rcases Nat.lt_or_ge i (j + 1) with h1 | h1
    · have := gapS_pos h (i := i) (j := j) (by omega) (by omega)
      show gapS l i ≤ gapS l j + (nthG l j).2 ∧ _
      omega
    · obtain rfl : i = j + 1 := by omega
      have := gapS_pos h (i := j) (j := j) (Nat.le_refl _) (by omega)
      show _ ∧ 0 ≤ gapS l j + (nthG l j).2
      exact ⟨Int.le_refl _, by omega⟩
end
end Go.Proofs.Ytjefbekdjgmmbaa
