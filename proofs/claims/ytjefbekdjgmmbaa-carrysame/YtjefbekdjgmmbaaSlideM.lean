/-
  Sliding, over no program of its own: the arena that is left ('slidL'), word by word; its objects, gaps and references; what is reached in it; sliding twice.
-/
import Derived.Test.YtjefbekdjgmmbaaPlanM
import Derived.Test.YtjefbekdjgmmbaaJoinM
namespace Go.Proofs.Ytjefbekdjgmmbaa
open Go.RowKit

/-- The number of a word in a list. -/
def plN : List Int → Int → Nat
  | [], _ => 0
  | y :: ys, x => if y = x then 0 else plN ys x + 1
theorem plN_in : ∀ {ks : List Int} {x : Int}, x ∈ ks → plN ks x < ks.length ∧ nth ks (plN ks x) = x
  | [], _, h => by cases h
  | y :: ys, x, h => by
    unfold plN
    by_cases e : y = x
    · rw [if_pos e]; exact ⟨by simp, e⟩
    · rw [if_neg e]
      obtain ⟨h1, h2⟩ := plN_in (ks := ys) ((List.mem_cons.1 h).resolve_left fun h => e h.symm)
      exact ⟨by simp; omega, h2⟩
/-- Where a reference, a reference's word goes. -/
def trI (zs ks ps : List Int) (y : Int) : Int := if y < 0 then y else toN zs ks ps (plN ks y)
def trW (zs ks ps : List Int) (v : Int) : Int := if v = 0 then 0 else toN zs ks ps (plN ks (v - 1)) + 1
/-- The old, the new word of number 'i'. -/
def kn (ks : List Int) (i : Nat) : Nat := (nth ks i).toNat
def tn (zs ks ps : List Int) (i : Nat) : Nat := (toN zs ks ps i).toNat
/-- Word 'd' of object number 'i', moved. -/
def objW (zs ks ps : List Int) (i d : Nat) : Int := if 1 ≤ d ∧ d ≤ (vR (nth zs (kn ks i))).toNat then trW zs ks ps (nth zs (kn ks i + d)) else nth zs (kn ks i + d)
/-- Which of them takes word 'k' in the end. -/
def owner (zs ks ps : List Int) (k : Nat) : Option Nat := (List.range ks.length).find? fun j => decide (toN zs ks ps j ≤ k ∧ (k : Int) < endN zs ks ps (j + 1))
/-- Word 'k' when the first 'i' of them and 'd' words of the next are laid. -/
def wAt (zs ks ps : List Int) (i d k : Nat) : Int :=
  match owner zs ks ps k with
  | some j => if j < i ∨ (j = i ∧ k < tn zs ks ps i + d) then objW zs ks ps j (k - tn zs ks ps j) else 0
  | none => 0
def slidAt (zs ks ps : List Int) (i d : Nat) : List Int := (List.range zs.length).map (wAt zs ks ps i d)
/-- All of them are laid; the gaps are one object each. -/
def slidL (zs ks ps : List Int) : List Int := joinTo (slidAt zs ks ps ks.length 0) (gapP zs ks ps)
/-- All references are kept. -/
def heldB (zs ks : List Int) : Bool := ks.all fun x => (nxOf zs x).all fun y => decide (y < 0 ∨ y ∈ ks)
/-- The first error. -/
def slideE (zs ks ps : List Int) : Int := if planE zs ks ps = 0 then (if heldB zs ks = true then 0 else 8) else planE zs ks ps

section
variable {zs ks ps : List Int} {i j d k : Nat}
theorem heldB_iff : heldB zs ks = true ↔ ∀ x ∈ ks, ∀ y ∈ nxOf zs x, y < 0 ∨ y ∈ ks := by unfold heldB; simp
theorem slideE_plan (h : planE zs ks ps ≠ 0) : slideE zs ks ps = planE zs ks ps := if_neg h
theorem slideE_held (h : planE zs ks ps = 0) (h1 : heldB zs ks = false) : slideE zs ks ps = 8 := by unfold slideE; rw [if_pos h, if_neg (by simp [h1])]
theorem slideE_ok (h : planE zs ks ps = 0) (h1 : heldB zs ks = true) : slideE zs ks ps = 0 := by unfold slideE; rw [if_pos h, if_pos h1]
theorem slidAt_len : (slidAt zs ks ps i d).length = zs.length := by simp [slidAt]
theorem slidAt_nth (hk : k < zs.length) : nth (slidAt zs ks ps i d) k = wAt zs ks ps i d k := by
  rw [nth_get _ _ (by rw [slidAt_len]; exact hk)]; simp [slidAt]
theorem wAt_some (h : owner zs ks ps k = some j) : wAt zs ks ps i d k = if j < i ∨ (j = i ∧ k < tn zs ks ps i + d) then objW zs ks ps j (k - tn zs ks ps j) else 0 := by unfold wAt; rw [h]
theorem wAt_none (h : owner zs ks ps k = none) : wAt zs ks ps i d k = 0 := by unfold wAt; rw [h]
theorem owner_some (h : owner zs ks ps k = some j) : j < ks.length ∧ toN zs ks ps j ≤ k ∧ (k : Int) < endN zs ks ps (j + 1) := by
  have h1 := List.mem_of_find?_eq_some h
  have h2 := List.find?_some h
  rw [List.mem_range] at h1
  rw [decide_eq_true_eq] at h2
  exact ⟨h1, h2⟩
section
variable (h : PlanOk zs ks ps)
include h
/-- The numbers of an object. -/
theorem PlanOk.nat (hi : i < ks.length) : (tn zs ks ps i : Int) = toN zs ks ps i ∧ (kn ks i : Int) = nth ks i ∧ kn ks i ∈ begins zs 0 ∧ vF (nth zs (kn ks i)) = false ∧ 1 ≤ longN zs (kn ks i) ∧ tn zs ks ps i + longN zs (kn ks i) ≤ zs.length ∧ kn ks i + longN zs (kn ks i) ≤ zs.length ∧ endN zs ks ps (i + 1) = (tn zs ks ps i + longN zs (kn ks i) : Nat) := by
  have h1 := h.fits hi
  have h2 := h.live hi
  have h3 := live_lg h2
  obtain ⟨s, hs, hf, e⟩ := lives_mem.1 h2
  have e1 : kn ks i = s := by unfold kn; omega
  have e2 : lgI zs (nth ks i) = (longN zs (kn ks i) : Int) := rfl
  have e3 : (tn zs ks ps i : Int) = toN zs ks ps i := by unfold tn; omega
  rw [e2] at h1 h3
  refine ⟨e3, by omega, by rw [e1]; exact hs, by rw [e1]; exact hf, by omega, by omega, by omega, ?_⟩
  rw [endN_succ, e2]
  omega
theorem PlanOk.one (hi : i < ks.length) (hj : j < ks.length) (h1 : tn zs ks ps i ≤ k) (h2 : k < tn zs ks ps i + longN zs (kn ks i)) (h3 : tn zs ks ps j ≤ k) (h4 : k < tn zs ks ps j + longN zs (kn ks j)) : i = j := by
  obtain ⟨a1, _, _, _, _, _, _, a2⟩ := h.nat hi
  obtain ⟨b1, _, _, _, _, _, _, b2⟩ := h.nat hj
  rcases Nat.lt_trichotomy i j with hh | hh | hh
  · have := h.up (i := i + 1) (j := j) hh (by omega)
    have := h.to hj
    omega
  · exact hh
  · have := h.up (i := j + 1) (j := i) hh (by omega)
    have := h.to hi
    omega
theorem PlanOk.owner_at (hi : i < ks.length) (h1 : tn zs ks ps i ≤ k) (h2 : k < tn zs ks ps i + longN zs (kn ks i)) : owner zs ks ps k = some i := by
  obtain ⟨a1, _, _, _, _, _, _, a2⟩ := h.nat hi
  cases ho : owner zs ks ps k with
  | none =>
    have := (List.find?_eq_none.1 ho) i (List.mem_range.2 hi)
    rw [decide_eq_true_eq] at this
    exact absurd ⟨by omega, by omega⟩ this
  | some j =>
    obtain ⟨hj, h3, h4⟩ := owner_some ho
    obtain ⟨b1, _, _, _, _, _, _, b2⟩ := h.nat hj
    rw [h.one hi hj h1 h2 (by omega) (by omega)]
theorem PlanOk.owner_in (ho : owner zs ks ps k = some j) : j < ks.length ∧ tn zs ks ps j ≤ k ∧ k < tn zs ks ps j + longN zs (kn ks j) := by
  obtain ⟨hj, h3, h4⟩ := owner_some ho
  obtain ⟨b1, _, _, _, _, _, _, b2⟩ := h.nat hj
  exact ⟨hj, by omega, by omega⟩
omit h in
theorem plan_free_iff : freeP zs ks ps k = true ↔ owner zs ks ps k = none := by
  cases ho : owner zs ks ps k with
  | none =>
    refine ⟨fun _ => rfl, fun _ => ?_⟩
    unfold freeP
    rw [Bool.not_eq_true', List.any_eq_false]
    exact fun j hj => (List.find?_eq_none.1 ho) j hj
  | some j =>
    obtain ⟨hj, h3, h4⟩ := owner_some ho
    rw [plan_taken hj h3 h4]
    exact ⟨(fun hc => by cases hc), (fun hc => by cases hc)⟩
/-- One more word. -/
theorem PlanOk.lay (hi : i < ks.length) (hd : d < longN zs (kn ks i)) : (slidAt zs ks ps i d).set (tn zs ks ps i + d) (objW zs ks ps i d) = slidAt zs ks ps i (d + 1) := by
  obtain ⟨a1, _, _, _, _, a3, _, a2⟩ := h.nat hi
  refine list_ext (by rw [List.length_set, slidAt_len, slidAt_len]) fun k => ?_
  by_cases hk : k < zs.length
  · rw [nth_set _ (by rw [slidAt_len]; omega), slidAt_nth hk, slidAt_nth hk]
    by_cases hkk : k = tn zs ks ps i + d
    · rw [if_pos hkk]
      have ho := h.owner_at hi (k := k) (by omega) (by omega)
      rw [wAt_some ho, if_pos (.inr ⟨rfl, by omega⟩)]
      congr 1
      omega
    · rw [if_neg hkk]
      cases ho : owner zs ks ps k with
      | none => rw [wAt_none ho, wAt_none ho]
      | some j =>
        rw [wAt_some ho, wAt_some ho]
        by_cases hc : j < i ∨ (j = i ∧ k < tn zs ks ps i + d)
        · rw [if_pos hc, if_pos (hc.imp id fun hc => ⟨hc.1, by omega⟩)]
        · rw [if_neg hc, if_neg]
          rintro (hc2 | hc2)
          · exact hc (.inl hc2)
          · exact hc (.inr ⟨hc2.1, by omega⟩)
  · rw [nth_out (by rw [List.length_set, slidAt_len]; omega), nth_out (by rw [slidAt_len]; omega)]
/-- .. that is 0 already. -/
theorem PlanOk.lay0 (hi : i < ks.length) (hd : d < longN zs (kn ks i)) (h0 : objW zs ks ps i d = 0) : slidAt zs ks ps i d = slidAt zs ks ps i (d + 1) := by
  obtain ⟨a1, _, _, _, _, a3, _, a2⟩ := h.nat hi
  rw [← h.lay hi hd, h0]
  refine list_ext (by rw [List.length_set]) fun k => ?_
  by_cases hk : k < zs.length
  · rw [nth_set _ (by rw [slidAt_len]; omega)]
    by_cases hkk : k = tn zs ks ps i + d
    · rw [if_pos hkk, slidAt_nth hk]
      have ho := h.owner_at hi (k := k) (by omega) (by omega)
      rw [wAt_some ho, if_neg]
      rintro (hc | hc) <;> omega
    · rw [if_neg hkk]
  · rw [nth_out (by rw [slidAt_len]; omega), nth_out (by rw [List.length_set, slidAt_len]; omega)]
/-- An object is laid. -/
theorem PlanOk.laid (hi : i < ks.length) : slidAt zs ks ps i (longN zs (kn ks i)) = slidAt zs ks ps (i + 1) 0 := by
  refine list_ext (by rw [slidAt_len, slidAt_len]) fun k => ?_
  by_cases hk : k < zs.length
  · rw [slidAt_nth hk, slidAt_nth hk]
    cases ho : owner zs ks ps k with
    | none => rw [wAt_none ho, wAt_none ho]
    | some j =>
      obtain ⟨hj, h1, h2⟩ := h.owner_in ho
      rw [wAt_some ho, wAt_some ho]
      by_cases hc : j ≤ i
      · rw [if_pos, if_pos (.inl (by omega))]
        rcases Nat.lt_or_eq_of_le hc with hc | hc
        · exact .inl hc
        · subst hc; exact .inr ⟨rfl, h2⟩
      · rw [if_neg, if_neg]
        · rintro (hc2 | hc2)
          · omega
          · obtain ⟨rfl, hc3⟩ := hc2
            omega
        · rintro (hc2 | hc2) <;> omega
  · rw [nth_out (by rw [slidAt_len]; omega), nth_out (by rw [slidAt_len]; omega)]
omit h in
theorem slidAt_zero : slidAt zs ks ps 0 0 = List.replicate zs.length 0 := by
  refine list_ext (by rw [slidAt_len, List.length_replicate]) fun k => ?_
  rw [nth_replicate]
  by_cases hk : k < zs.length
  · rw [slidAt_nth hk]
    cases ho : owner zs ks ps k with
    | none => rw [wAt_none ho]
    | some j =>
      rw [wAt_some ho, if_neg]
      rintro (hc | ⟨rfl, hc⟩)
      · omega
      · obtain ⟨_, h1, _⟩ := owner_some ho
        unfold tn at hc
        omega
  · rw [nth_out (by rw [slidAt_len]; omega)]

theorem PlanOk.runs : Runs (freeP zs ks ps) zs.length (gapP zs ks ps) := by rw [← h.all]; exact runs_ok _ _
theorem PlanOk.gap_in (hj : j < (gapP zs ks ps).length) (h1 : (nthG (gapP zs ks ps) j).1 ≤ k) (h2 : (k : Int) < (nthG (gapP zs ks ps) j).1 + (nthG (gapP zs ks ps) j).2) : k < zs.length ∧ freeP zs ks ps k = true := by
  have hp := h.runs.pos j hj
  have hk : k < zs.length := by omega
  exact ⟨hk, (h.runs.all k hk).2 ⟨j, hj, h1, h2⟩⟩
theorem PlanOk.gaps_fit : ∀ r ∈ gapP zs ks ps, 0 ≤ r.1 ∧ 0 ≤ r.2 ∧ r.1 + r.2 ≤ (slidAt zs ks ps ks.length 0).length := fun r hr => by
  obtain ⟨j, hj, e⟩ := List.getElem_of_mem hr
  have := h.runs.pos j hj
  rw [nthG_get _ _ hj, e] at this
  rw [slidAt_len]
  omega
theorem PlanOk.slid_len : (slidL zs ks ps).length = zs.length := by
  have : ∀ {m : List (Int × Int)} {us : List Int}, (∀ r ∈ m, 0 ≤ r.1 ∧ 0 ≤ r.2 ∧ r.1 + r.2 ≤ us.length) → (joinTo us m).length = us.length := by
    intro m
    unfold joinTo
    induction m with
    | nil => intro us _; rfl
    | cons r m ih =>
      intro us h
      have h0 := h r List.mem_cons_self
      have e : (emptyL us r.1.toNat r.2.toNat).length = us.length := emptyL_len (by omega)
      rw [List.foldl_cons, ih (fun s hs => by rw [e]; exact h s (List.mem_cons_of_mem _ hs)), e]
  unfold slidL
  rw [this h.gaps_fit, slidAt_len]
/-- The words of the objects. -/
theorem PlanOk.slid_obj (hi : i < ks.length) (hd : d < longN zs (kn ks i)) : nth (slidL zs ks ps) (tn zs ks ps i + d) = objW zs ks ps i d := by
  obtain ⟨a1, _, _, _, _, a3, _, a2⟩ := h.nat hi
  have ho := h.owner_at hi (k := tn zs ks ps i + d) (by omega) (by omega)
  unfold slidL
  rw [joinTo_keep h.gaps_fit, slidAt_nth (by omega), wAt_some ho, if_pos (.inl hi)]
  · congr 1; omega
  · intro r hr hc
    obtain ⟨j, hj, e⟩ := List.getElem_of_mem hr
    rw [← e, ← nthG_get _ _ hj] at hc
    have := (h.gap_in hj hc.1 hc.2).2
    rw [plan_free_iff, ho] at this
    cases this
/-- The words of the gaps. -/
theorem PlanOk.slid_gap (hj : j < (gapP zs ks ps).length) (h1 : (nthG (gapP zs ks ps) j).1 ≤ k) (h2 : (k : Int) < (nthG (gapP zs ks ps) j).1 + (nthG (gapP zs ks ps) j).2) :
    nth (slidL zs ks ps) k = if (nthG (gapP zs ks ps) j).1 = k then fWord (nthG (gapP zs ks ps) j).2.toNat else 0 := by
  unfold slidL
  exact joinTo_in (f := freeP zs ks ps) (by rw [slidAt_len]; exact h.runs) hj h1 h2
/-- A word lies in an object or in a gap. -/
theorem PlanOk.cover (hk : k < zs.length) : (∃ i d, i < ks.length ∧ d < longN zs (kn ks i) ∧ k = tn zs ks ps i + d) ∨ (∃ j, j < (gapP zs ks ps).length ∧ (nthG (gapP zs ks ps) j).1 ≤ k ∧ (k : Int) < (nthG (gapP zs ks ps) j).1 + (nthG (gapP zs ks ps) j).2) := by
  cases ho : owner zs ks ps k with
  | none => exact .inr ((h.runs.all k hk).1 (plan_free_iff.2 ho))
  | some j =>
    obtain ⟨hj, h1, h2⟩ := h.owner_in ho
    exact .inl ⟨j, k - tn zs ks ps j, hj, by omega, by omega⟩
/-- What has these words is the slid arena. -/
theorem PlanOk.slid_ext {ys : List Int} (hl : ys.length = zs.length) (ho : ∀ i d, i < ks.length → d < longN zs (kn ks i) → nth ys (tn zs ks ps i + d) = objW zs ks ps i d)
    (hg : ∀ j k : Nat, j < (gapP zs ks ps).length → (nthG (gapP zs ks ps) j).1 ≤ k → (k : Int) < (nthG (gapP zs ks ps) j).1 + (nthG (gapP zs ks ps) j).2 → nth ys k = if (nthG (gapP zs ks ps) j).1 = k then fWord (nthG (gapP zs ks ps) j).2.toNat else 0) : ys = slidL zs ks ps := by
  refine list_ext (by rw [hl, h.slid_len]) fun k => ?_
  by_cases hk : k < zs.length
  · rcases h.cover hk with ⟨i, d, hi, hd, rfl⟩ | ⟨j, hj, h1, h2⟩
    · rw [ho i d hi hd, h.slid_obj hi hd]
    · rw [hg j k hj h1 h2, h.slid_gap hj h1 h2]
  · rw [nth_out (by omega), nth_out (by rw [h.slid_len]; omega)]
theorem PlanOk.gap_len (_ : j < (gapP zs ks ps).length) : (joinTo (slidAt zs ks ps ks.length 0) ((gapP zs ks ps).take j)).length = zs.length := by
  have : ∀ {m : List (Int × Int)} {us : List Int}, (∀ r ∈ m, 0 ≤ r.1 ∧ 0 ≤ r.2 ∧ r.1 + r.2 ≤ us.length) → (joinTo us m).length = us.length := by
    intro m
    unfold joinTo
    induction m with
    | nil => intro us _; rfl
    | cons r m ih =>
      intro us h
      have h0 := h r List.mem_cons_self
      have e : (emptyL us r.1.toNat r.2.toNat).length = us.length := emptyL_len (by omega)
      rw [List.foldl_cons, ih (fun s hs => by rw [e]; exact h s (List.mem_cons_of_mem _ hs)), e]
  rw [this fun r hr => h.gaps_fit r (List.mem_of_mem_take hr), slidAt_len]
/-- The first gaps are one object each. -/
theorem PlanOk.gapAt (hj : j < (gapP zs ks ps).length) : (joinTo (slidAt zs ks ps ks.length 0) ((gapP zs ks ps).take j)).set (nthG (gapP zs ks ps) j).1.toNat (fWord (nthG (gapP zs ks ps) j).2.toNat) = joinTo (slidAt zs ks ps ks.length 0) ((gapP zs ks ps).take (j + 1)) := by
  have hp := h.runs.pos j hj
  have hlen : (joinTo (slidAt zs ks ps ks.length 0) ((gapP zs ks ps).take j)).length = zs.length := by
    have : ∀ {m : List (Int × Int)} {us : List Int}, (∀ r ∈ m, 0 ≤ r.1 ∧ 0 ≤ r.2 ∧ r.1 + r.2 ≤ us.length) → (joinTo us m).length = us.length := by
      intro m
      unfold joinTo
      induction m with
      | nil => intro us _; rfl
      | cons r m ih =>
        intro us h
        have h0 := h r List.mem_cons_self
        have e : (emptyL us r.1.toNat r.2.toNat).length = us.length := emptyL_len (by omega)
        rw [List.foldl_cons, ih (fun s hs => by rw [e]; exact h s (List.mem_cons_of_mem _ hs)), e]
    rw [this fun r hr => h.gaps_fit r (List.mem_of_mem_take hr), slidAt_len]
  have e1 : (gapP zs ks ps).take (j + 1) = (gapP zs ks ps).take j ++ [nthG (gapP zs ks ps) j] := by rw [nthG_get _ _ hj]; exact List.take_succ_eq_append_getElem hj
  have e2 : joinTo (slidAt zs ks ps ks.length 0) ((gapP zs ks ps).take (j + 1)) = emptyL (joinTo (slidAt zs ks ps ks.length 0) ((gapP zs ks ps).take j)) (nthG (gapP zs ks ps) j).1.toNat (nthG (gapP zs ks ps) j).2.toNat := by
    rw [e1]; unfold joinTo; rw [List.foldl_append]; rfl
  rw [e2]
  unfold emptyL
  rw [if_neg (by omega)]
  refine list_ext (by rw [List.length_set, putL_len (by rw [hlen]; omega)]) fun k => ?_
  rw [nth_putL _ (by omega) (by rw [hlen]; omega), nth_set _ (by rw [hlen]; omega)]
  by_cases hk : k = (nthG (gapP zs ks ps) j).1.toNat
  · rw [if_pos hk, if_pos hk]
  · rw [if_neg hk, if_neg hk]
    by_cases hkk : (nthG (gapP zs ks ps) j).1.toNat ≤ k ∧ k < (nthG (gapP zs ks ps) j).1.toNat + (nthG (gapP zs ks ps) j).2.toNat
    · rw [if_pos hkk]
      obtain ⟨hkn, hfr⟩ := h.gap_in (k := k) hj (by omega) (by omega)
      rw [joinTo_keep (fun r hr => h.gaps_fit r (List.mem_of_mem_take hr)), slidAt_nth hkn, wAt_none (plan_free_iff.1 hfr)]
      intro r hr hc
      obtain ⟨q, hq, e⟩ := List.getElem_of_mem hr
      have hq' : q < (gapP zs ks ps).length ∧ q < j := by rw [List.length_take] at hq; omega
      rw [List.getElem_take] at e
      have e' : nthG (gapP zs ks ps) q = r := by rw [nthG_get _ _ hq'.1]; exact e
      rw [← e'] at hc
      have := runs_one h.runs hj hq'.1 (k := (k : Int)) (by omega) (by omega) hc.1 (by omega)
      omega
    · rw [if_neg hkk]
omit h in
theorem slid_gaps_all : joinTo (slidAt zs ks ps ks.length 0) ((gapP zs ks ps).take (gapP zs ks ps).length) = slidL zs ks ps := by rw [List.take_length]; rfl
/-- Where its objects begin. -/
def SlidS (zs ks ps : List Int) (s : Nat) : Prop := (∃ i, i < ks.length ∧ tn zs ks ps i = s) ∨ ∃ j, j < (gapP zs ks ps).length ∧ (nthG (gapP zs ks ps) j).1 = s
theorem PlanOk.taken_obj (hi : i < ks.length) (h1 : tn zs ks ps i ≤ k) (h2 : k < tn zs ks ps i + longN zs (kn ks i)) : freeP zs ks ps k = false := by
  cases hf : freeP zs ks ps k
  · rfl
  · rw [plan_free_iff, h.owner_at hi h1 h2] at hf; cases hf
omit h in
theorem objW_head : objW zs ks ps i 0 = nth zs (kn ks i) := by unfold objW; rw [if_neg (by omega)]; rfl
theorem PlanOk.slid_head (hi : i < ks.length) : nth (slidL zs ks ps) (tn zs ks ps i) = nth zs (kn ks i) := by
  obtain ⟨_, _, _, _, a5, _, _, _⟩ := h.nat hi
  have := h.slid_obj hi (d := 0) (by omega)
  rwa [objW_head] at this
theorem PlanOk.slid_gap0 (hj : j < (gapP zs ks ps).length) : ∃ s L : Nat, (nthG (gapP zs ks ps) j).1 = s ∧ (nthG (gapP zs ks ps) j).2 = L ∧ 0 < L ∧ s + L ≤ zs.length ∧ nth (slidL zs ks ps) s = fWord L := by
  have hp := h.runs.pos j hj
  obtain ⟨s, hs⟩ := Int.eq_ofNat_of_zero_le hp.2.1
  obtain ⟨L, hL⟩ := Int.eq_ofNat_of_zero_le (by omega : 0 ≤ (nthG (gapP zs ks ps) j).2)
  refine ⟨s, L, hs, hL, by omega, by omega, ?_⟩
  rw [h.slid_gap hj (by omega) (by omega), if_pos hs, hL]
  rfl
theorem PlanOk.slid_tiles : Tiles (slidL zs ks ps) (SlidS zs ks ps) := by
  have h256 := arena_len h.arena
  have hR := h.runs
  have part : ∀ {s : Nat}, SlidS zs ks ps s → s < zs.length → ∃ L : Nat, sLong (nth (slidL zs ks ps) s) = L ∧ vBad (nth (slidL zs ks ps) s) = false ∧ s + L ≤ zs.length ∧ 0 < L ∧
      ((∃ i, i < ks.length ∧ tn zs ks ps i = s ∧ L = longN zs (kn ks i)) ∨ ∃ j, j < (gapP zs ks ps).length ∧ (nthG (gapP zs ks ps) j).1 = s ∧ (nthG (gapP zs ks ps) j).2 = L) := by
    intro s hS hs
    rcases hS with ⟨i, hi, rfl⟩ | ⟨j, hj, he⟩
    · obtain ⟨_, _, a3, _, a5, a6, _, _⟩ := h.nat hi
      rw [h.slid_head hi]
      exact ⟨_, rfl, (stepOk_iff.1 (begins_mem a3).2.2).1, a6, a5, .inl ⟨i, hi, rfl, rfl⟩⟩
    · obtain ⟨s', L, e1, e2, hL, hsl, hw⟩ := h.slid_gap0 hj
      obtain rfl : s' = s := by omega
      obtain ⟨f1, f2, f3, f4⟩ := fWord_facts hL (by omega)
      rw [hw]
      exact ⟨L, f3, f1, hsl, hL, .inr ⟨j, hj, he, e2⟩⟩
  refine ⟨fun h0 => ?_, fun s hS hs => ?_, fun s hS hs hn => ?_, fun s t hS h1 h2 h3 hT => ?_⟩
  · rw [h.slid_len] at h0
    rcases h.cover h0 with ⟨i, d, hi, hd, he⟩ | ⟨j, hj, h1, h2⟩
    · exact .inl ⟨i, hi, by omega⟩
    · exact .inr ⟨j, hj, by have := hR.pos j hj; omega⟩
  · rw [h.slid_len] at hs
    obtain ⟨L, e, hb, hl, _⟩ := part hS hs
    exact stepOk_iff.2 ⟨hb, by rw [e, h.slid_len]; exact hl⟩
  · rw [h.slid_len] at hs hn
    obtain ⟨L, e, hb, hl, hL, hp⟩ := part hS hs
    rw [e] at hn ⊢
    rcases h.cover hn with ⟨i', d', hi', hd', he⟩ | ⟨j', hj', g1, g2⟩
    · rcases Nat.eq_zero_or_pos d' with hz | hz
      · exact .inl ⟨i', hi', by omega⟩
      · exfalso
        have ho := h.taken_obj hi' (k := s + L - 1) (by omega) (by omega)
        rcases hp with ⟨i, hi, rfl, rfl⟩ | ⟨j, hj, e1, e2⟩
        · have := h.one hi hi' (k := tn zs ks ps i + longN zs (kn ks i) - 1) (by omega) (by omega) (by omega) (by omega)
          subst this
          omega
        · have := (h.gap_in (k := s + L - 1) hj (by omega) (by omega)).2
          rw [ho] at this; cases this
    · by_cases hz : (nthG (gapP zs ks ps) j').1 = ((s + L : Nat) : Int)
      · exact .inr ⟨j', hj', hz⟩
      · exfalso
        have hf := (h.gap_in (k := s + L - 1) hj' (by omega) (by omega)).2
        rcases hp with ⟨i, hi, rfl, rfl⟩ | ⟨j, hj, e1, e2⟩
        · rw [h.taken_obj hi (by omega) (by omega)] at hf; cases hf
        · have := runs_one hR hj hj' (k := ((s + L - 1 : Nat) : Int)) (by omega) (by omega) (by omega) (by omega)
          subst this
          omega
  · rw [h.slid_len] at h3
    obtain ⟨L, e, hb, hl, hL, hp⟩ := part hS (by omega)
    rw [e] at h2
    obtain ⟨L', e', hb', hl', hL', hp'⟩ := part hT h3
    rcases hp with ⟨i, hi, rfl, rfl⟩ | ⟨j, hj, e1, e2⟩
    · rcases hp' with ⟨i', hi', rfl, rfl⟩ | ⟨j', hj', e3, e4⟩
      · have := h.one hi hi' (k := tn zs ks ps i') (by omega) (by omega) (by omega) (by omega)
        subst this
        omega
      · have hf := (h.gap_in (k := t) hj' (by omega) (by omega)).2
        rw [h.taken_obj hi (by omega) (by omega)] at hf; cases hf
    · have hf := (h.gap_in (k := t) hj (by omega) (by omega)).2
      rcases hp' with ⟨i', hi', rfl, rfl⟩ | ⟨j', hj', e3, e4⟩
      · rw [h.taken_obj hi' (by omega) (by omega)] at hf; cases hf
      · have := runs_one hR hj hj' (k := (t : Int)) (by omega) (by omega) (by omega) (by omega)
        subst this
        omega
theorem PlanOk.slid_begins (s : Nat) : s ∈ begins (slidL zs ks ps) 0 ↔ SlidS zs ks ps s ∧ s < zs.length := by
  rw [h.slid_tiles.mem, h.slid_len]
/-- Its objects that are not free. -/
theorem PlanOk.slid_live (x : Int) : x ∈ livesI (slidL zs ks ps) ↔ x ∈ toL zs ks ps := by
  have h256 := arena_len h.arena
  rw [lives_mem]
  constructor
  · rintro ⟨s, hs, hf, rfl⟩
    obtain ⟨hS, hl⟩ := (h.slid_begins s).1 hs
    rcases hS with ⟨i, hi, rfl⟩ | ⟨j, hj, he⟩
    · obtain ⟨a1, _⟩ := h.nat hi
      rw [a1]
      exact List.mem_map.2 ⟨i, List.mem_range.2 hi, rfl⟩
    · obtain ⟨s', L, e1, e2, hL, hsl, hw⟩ := h.slid_gap0 hj
      obtain rfl : s' = s := by omega
      rw [hw, (fWord_facts hL (by omega)).2.1] at hf
      cases hf
  · intro hx
    obtain ⟨i, hi, rfl⟩ := List.mem_map.1 hx
    rw [List.mem_range] at hi
    obtain ⟨a1, _, _, a4, _, a6, _, _⟩ := h.nat hi
    exact ⟨tn zs ks ps i, (h.slid_begins _).2 ⟨.inl ⟨i, hi, rfl⟩, by omega⟩, by rw [h.slid_head hi]; exact a4, a1.symm⟩
theorem PlanOk.to_lt (hij : i < j) (hj : j < ks.length) : toN zs ks ps i < toN zs ks ps j := by
  have h1 := h.up (i := i + 1) (j := j) hij (by omega)
  have h2 := h.to hj
  have h3 := h.fits (i := i) (by omega)
  rw [endN_succ] at h1
  omega
theorem PlanOk.to_one (hi : i < ks.length) (hj : j < ks.length) (e : toN zs ks ps i = toN zs ks ps j) : i = j := by
  rcases Nat.lt_trichotomy i j with hh | hh | hh
  · have := h.to_lt hh hj; omega
  · exact hh
  · have := h.to_lt hh hi; omega
theorem PlanOk.to_rise : (toL zs ks ps).Pairwise (· < ·) := by
  rw [List.pairwise_iff_getElem]
  intro a b ha hb hab
  rw [toL_len] at ha hb
  rw [← nth_get _ _ (by rw [toL_len]; exact ha), ← nth_get _ _ (by rw [toL_len]; exact hb)]
  show nth (toTo zs ks ps ks.length) a < nth (toTo zs ks ps ks.length) b
  rw [toTo_nth ha, toTo_nth hb]
  exact h.to_lt hab hb
omit h in
theorem rises_same : ∀ {xs ys : List Int}, xs.Pairwise (· < ·) → ys.Pairwise (· < ·) → (∀ a, a ∈ xs ↔ a ∈ ys) → xs = ys
  | [], [], _, _, _ => rfl
  | [], y :: ys, _, _, h => by have := (h y).2 List.mem_cons_self; cases this
  | x :: xs, [], _, _, h => by have := (h x).1 List.mem_cons_self; cases this
  | x :: xs, y :: ys, hx, hy, h => by
    obtain ⟨hx1, hx2⟩ := List.pairwise_cons.1 hx
    obtain ⟨hy1, hy2⟩ := List.pairwise_cons.1 hy
    have e : x = y := by
      rcases List.mem_cons.1 ((h x).1 List.mem_cons_self) with h1 | h1
      · exact h1
      · rcases List.mem_cons.1 ((h y).2 List.mem_cons_self) with h2 | h2
        · exact h2.symm
        · have := hx1 y h2
          have := hy1 x h1
          omega
    subst e
    rw [rises_same hx2 hy2 fun a => ⟨fun ha => ?_, fun ha => ?_⟩]
    · rcases List.mem_cons.1 ((h a).1 (List.mem_cons_of_mem _ ha)) with h1 | h1
      · have := hx1 a ha; omega
      · exact h1
    · rcases List.mem_cons.1 ((h a).2 (List.mem_cons_of_mem _ ha)) with h1 | h1
      · have := hy1 a ha; omega
      · exact h1
theorem PlanOk.slid_lives : livesI (slidL zs ks ps) = toL zs ks ps := rises_same lives_rise h.to_rise h.slid_live
theorem PlanOk.slid_long (hi : i < ks.length) : lgI (slidL zs ks ps) (toN zs ks ps i) = lgI zs (nth ks i) := by
  show (longN (slidL zs ks ps) (tn zs ks ps i) : Int) = (longN zs (kn ks i) : Int)
  unfold longN
  rw [h.slid_head hi]
theorem PlanOk.slid_free (hk : k < zs.length) : freeAt (slidL zs ks ps) k = freeP zs ks ps k := by
  have h256 := arena_len h.arena
  rcases h.cover hk with ⟨i, d, hi, hd, rfl⟩ | ⟨j, hj, h1, h2⟩
  · obtain ⟨_, _, _, a4, _, a6, _, _⟩ := h.nat hi
    rw [h.taken_obj hi (by omega) (by omega), freeAt_in ((h.slid_begins (tn zs ks ps i)).2 ⟨.inl ⟨i, hi, rfl⟩, by omega⟩) (by omega) (by rw [h.slid_head hi]; show _ < _ + longN zs (kn ks i); omega), h.slid_head hi, a4]
  · obtain ⟨s, L, e1, e2, hL, hsl, hw⟩ := h.slid_gap0 hj
    obtain ⟨f1, f2, f3, f4⟩ := fWord_facts hL (by omega)
    rw [(h.gap_in hj h1 h2).2, freeAt_in ((h.slid_begins s).2 ⟨.inr ⟨j, hj, e1⟩, by omega⟩) (by omega) (by rw [hw, f3]; omega), hw, f2]
theorem PlanOk.slid_gaps : gapsL (slidL zs ks ps) = gapP zs ks ps := by
  unfold gapsL
  rw [h.slid_len, ← h.all]
  exact runsTo_congr _ fun k hk => h.slid_free hk
omit h in
/-- Its references. -/
theorem trW_zero : trW zs ks ps 0 = 0 := if_pos rfl
omit h in
theorem trW_ref {q : Nat} (hp : plN ks (nth ks q) = q) (h0 : 0 ≤ nth ks q) : trW zs ks ps (nth ks q + 1) = toN zs ks ps q + 1 := by
  unfold trW
  rw [if_neg (by omega), show nth ks q + 1 - 1 = nth ks q by omega, hp]
theorem PlanOk.pl (hi : i < ks.length) : plN ks (nth ks i) = i := by
  obtain ⟨h1, h2⟩ := plN_in (nth_mem (l := ks) hi)
  rcases Nat.lt_trichotomy (plN ks (nth ks i)) i with hh | hh | hh
  · have := h.rise hh hi; omega
  · exact hh
  · have := h.rise hh h1; omega
omit h in
theorem nth_mapS (f : Int → Int) {l : List Int} {k : Nat} (h : k < l.length) : nth (l.map f) k = f (nth l k) := by
  rw [nth_get _ _ h, nth_get _ _ (by simpa using h), List.getElem_map]
theorem PlanOk.slid_refs (hi : i < ks.length) : refWords (slidL zs ks ps) (tn zs ks ps i) = (refWords zs (kn ks i)).map (trW zs ks ps) := by
  obtain ⟨a1, a2, a3, a4, a5, a6, a7, a8⟩ := h.nat hi
  have hst := (begins_mem a3).2.2
  have hst2 : stepOk (slidL zs ks ps) (tn zs ks ps i) = true := (begins_mem ((h.slid_begins (tn zs ks ps i)).2 ⟨.inl ⟨i, hi, rfl⟩, by omega⟩)).2.2
  have hl := refWords_len hst
  have hl2 := refWords_len hst2
  rw [h.slid_head hi] at hl2
  refine nth_ext (by rw [List.length_map, hl, hl2]) fun d hd => ?_
  rw [hl2] at hd
  have hdl : 1 + d < longN zs (kn ks i) := by show _ < sLong _; unfold sLong; omega
  rw [refWords_at (by rw [h.slid_head hi]; exact hd)]
  have e1 := h.slid_obj hi hdl
  rw [← Nat.add_assoc] at e1
  rw [e1]
  unfold objW
  rw [if_pos ⟨by omega, by omega⟩, ← Nat.add_assoc, ← refWords_at hd, nth_mapS _ (by rw [hl]; exact hd)]
/-- What a kept reference is. -/
theorem PlanOk.kept (hh : heldB zs ks = true) (hi : i < ks.length) {u : Int} (hu : u ∈ refWords zs (kn ks i)) : u = 0 ∨ ∃ q, q < ks.length ∧ u = nth ks q + 1 := by
  obtain ⟨a1, a2, a3, a4, _⟩ := h.nat hi
  obtain ⟨h256, hf, hr⟩ := arErr_iff.1 h.arena
  rcases refsOk_char.1 hr (kn ks i) a3 u hu with h0 | ⟨t, ht, hft, e⟩
  · exact .inl h0
  · right
    have htl := (begins_mem ht).2.1
    have hn : nm u = (t : Int) := by unfold nm; rw [if_neg (by omega)]; omega
    have hy : (t : Int) ∈ nxOf zs (nth ks i) := by
      rw [← hn]
      exact List.mem_map.2 ⟨u, hu, rfl⟩
    have hk := (heldB_iff.1 hh (nth ks i) (nth_mem hi) (t : Int) hy).resolve_left (by omega)
    obtain ⟨q1, q2⟩ := plN_in hk
    exact ⟨_, q1, by rw [q2]; exact e⟩
theorem PlanOk.slid_named (hh : heldB zs ks = true) (hi : i < ks.length) : nxOf (slidL zs ks ps) (toN zs ks ps i) = (nxOf zs (nth ks i)).map (trI zs ks ps) := by
  have h256 := arena_len h.arena
  show (refWords (slidL zs ks ps) (tn zs ks ps i)).map nm = ((refWords zs (kn ks i)).map nm).map (trI zs ks ps)
  rw [h.slid_refs hi, List.map_map, List.map_map]
  refine List.map_congr_left fun u hu => ?_
  show nm (trW zs ks ps u) = trI zs ks ps (nm u)
  rcases h.kept hh hi hu with rfl | ⟨q, hq, rfl⟩
  · rw [trW_zero]
    have : nm 0 = -1 := by decide
    rw [this]
    exact (if_pos (by omega)).symm
  · have h1 := live_lg (h.live hq)
    have h2 := h.fits hq
    have e1 : nm (nth ks q + 1) = nth ks q := by unfold nm; rw [if_neg (by omega)]; omega
    rw [trW_ref (h.pl hq) h1.1, e1]
    have e2 : nm (toN zs ks ps q + 1) = toN zs ks ps q := by unfold nm; rw [if_neg (by omega)]; omega
    rw [e2]
    unfold trI
    rw [if_neg (by omega), h.pl hq]
/-- It is right. -/
theorem PlanOk.slid_arena (hh : heldB zs ks = true) : arErr (slidL zs ks ps) = 0 := by
  have h256 := arena_len h.arena
  refine arErr_iff.2 ⟨by rw [h.slid_len]; exact h256, h.slid_tiles.fine, refsOk_char.2 fun s hs v hv => ?_⟩
  rcases ((h.slid_begins s).1 hs).1 with ⟨i, hi, rfl⟩ | ⟨j, hj, he⟩
  · rw [h.slid_refs hi] at hv
    obtain ⟨u, hu, rfl⟩ := List.mem_map.1 hv
    rcases h.kept hh hi hu with rfl | ⟨q, hq, rfl⟩
    · exact .inl trW_zero
    · right
      obtain ⟨a1, _, _, a4, _, a6, _, _⟩ := h.nat hq
      refine ⟨tn zs ks ps q, (h.slid_begins _).2 ⟨.inl ⟨q, hq, rfl⟩, by omega⟩, by rw [h.slid_head hq]; exact a4, ?_⟩
      rw [trW_ref (h.pl hq) (live_lg (h.live hq)).1, a1]
  · obtain ⟨s', L, e1, e2, hL, hsl, hw⟩ := h.slid_gap0 hj
    obtain rfl : s' = s := by omega
    unfold refWords at hv
    have hR : vR (fWord L) = 0 := (word_of_header (fWord_fault hL (by omega))).2.1
    rw [hw, hR] at hv
    simp at hv
theorem PlanOk.obj_wf (hz : ∀ z ∈ zs, (Lit.int .u64 z).wf = true) (hh : heldB zs ks = true) (hi : i < ks.length) (hd : d < longN zs (kn ks i)) : (Lit.int .u64 (objW zs ks ps i d)).wf = true := by
  have h256 := arena_len h.arena
  obtain ⟨_, _, a3, _, _, _, a7, _⟩ := h.nat hi
  unfold objW
  split
  · rename_i hc
    have hst := (begins_mem a3).2.2
    have hl := refWords_len hst
    have hu : nth zs (kn ks i + d) ∈ refWords zs (kn ks i) := by
      have h1 := refWords_at (zs := zs) (s := kn ks i) (j := d - 1) (by omega)
      rw [show kn ks i + 1 + (d - 1) = kn ks i + d by omega] at h1
      rw [← h1]
      exact nth_mem (by rw [hl]; omega)
    rcases h.kept hh hi hu with e | ⟨q, hq, e⟩
    · rw [e, trW_zero]; decide
    · rw [e, trW_ref (h.pl hq) (live_lg (h.live hq)).1]
      have := h.fits hq
      exact wf_u64.2 (by omega)
  · exact hz _ (nth_mem (by omega))
theorem PlanOk.slid_wf (hz : ∀ z ∈ zs, (Lit.int .u64 z).wf = true) (hh : heldB zs ks = true) : ∀ z ∈ slidL zs ks ps, (Lit.int .u64 z).wf = true := fun z hm => by
  have h256 := arena_len h.arena
  obtain ⟨k, hk, rfl⟩ := mem_nth hm
  rw [h.slid_len] at hk
  rcases h.cover hk with ⟨i, d, hi, hd, rfl⟩ | ⟨j, hj, h1, h2⟩
  · rw [h.slid_obj hi hd]; exact h.obj_wf hz hh hi hd
  · have hp := h.runs.pos j hj
    rw [h.slid_gap hj h1 h2]
    split
    · exact (fWord_facts (n := (nthG (gapP zs ks ps) j).2.toNat) (by omega) (by omega)).2.2.2
    · decide

omit h in
/-- Slid again, with what is there. -/
theorem nth_toL (hi : i < ks.length) : nth (toL zs ks ps) i = toN zs ks ps i := toTo_nth hi
theorem PlanOk.pin_to (hi : i < ks.length) : toN zs ks ps i ∈ ps ↔ nth ks i ∈ ps := by
  constructor
  · intro hp
    obtain ⟨q1, q2⟩ := plN_in (h.pk _ hp)
    have e : toN zs ks ps (plN ks (toN zs ks ps i)) = toN zs ks ps i := by rw [toN_pin (by rw [q2]; exact hp), q2]
    have := h.to_one q1 hi e
    rw [← this, q2]; exact hp
  · intro hp
    rw [toN_pin hp]; exact hp
theorem PlanOk.again (hh : heldB zs ks = true) : PlanOk (slidL zs ks ps) (toL zs ks ps) ps :=
  ⟨h.slid_arena hh, h.to_rise, h.pr, fun x hx => (h.slid_live x).2 hx, fun p hp => by
    obtain ⟨q1, q2⟩ := plN_in (h.pk _ hp)
    have e : toN zs ks ps (plN ks p) = p := by rw [toN_pin (by rw [q2]; exact hp), q2]
    exact List.mem_map.2 ⟨plN ks p, List.mem_range.2 q1, e⟩⟩
theorem PlanOk.end_again : ∀ i, i ≤ ks.length → endN (slidL zs ks ps) (toL zs ks ps) ps i = endN zs ks ps i
  | 0, _ => rfl
  | i + 1, hi => by
    have ih := PlanOk.end_again i (by omega)
    rw [endN_succ, endN_succ, nth_toL (by omega), h.slid_long (by omega)]
    congr 1
    by_cases hp : nth ks i ∈ ps
    · rw [toN_pin (by rw [nth_toL (by omega)]; exact (h.pin_to (by omega)).2 hp), nth_toL (by omega)]
    · rw [toN_move (by rw [nth_toL (by omega)]; exact fun hc => hp ((h.pin_to (by omega)).1 hc)), ih, toN_move hp]
theorem PlanOk.to_again (hi : i < ks.length) : toN (slidL zs ks ps) (toL zs ks ps) ps i = toN zs ks ps i := by
  by_cases hp : nth ks i ∈ ps
  · rw [toN_pin (by rw [nth_toL hi]; exact (h.pin_to hi).2 hp), nth_toL hi]
  · rw [toN_move (by rw [nth_toL hi]; exact fun hc => hp ((h.pin_to hi).1 hc)), h.end_again i (by omega), toN_move hp]
theorem PlanOk.toL_again : toL (slidL zs ks ps) (toL zs ks ps) ps = toL zs ks ps := by
  show (List.range (toL zs ks ps).length).map _ = (List.range ks.length).map _
  rw [toL_len]
  exact List.map_congr_left fun i hi => h.to_again (List.mem_range.1 hi)
theorem PlanOk.gap_again : gapP (slidL zs ks ps) (toL zs ks ps) ps = gapP zs ks ps := by
  have e : moveL (slidL zs ks ps) (toL zs ks ps) ps = moveL zs ks ps := by
    show (List.range (toL zs ks ps).length).map _ = (List.range ks.length).map _
    rw [toL_len]
    refine List.map_congr_left fun i hi => ?_
    have hi := List.mem_range.1 hi
    rw [h.to_again hi, nth_toL hi, h.slid_long hi]
  unfold gapP
  rw [e, h.slid_len]
theorem PlanOk.twice (hh : heldB zs ks = true) : slidL (slidL zs ks ps) (toL zs ks ps) ps = slidL zs ks ps := by
  have h2 := h.again hh
  have hg := h.gap_again
  have hkn : ∀ {i}, i < ks.length → kn (toL zs ks ps) i = tn zs ks ps i := fun hi => by unfold kn tn; rw [nth_toL hi]
  have htn : ∀ {i}, i < ks.length → tn (slidL zs ks ps) (toL zs ks ps) ps i = tn zs ks ps i := fun hi => by unfold tn; rw [h.to_again hi]
  have hlg : ∀ {i}, i < ks.length → longN (slidL zs ks ps) (kn (toL zs ks ps) i) = longN zs (kn ks i) := fun hi => by
    rw [hkn hi]; show sLong _ = sLong _; rw [h.slid_head hi]
  refine h.slid_ext (by rw [h2.slid_len, h.slid_len]) (fun i d hi hd => ?_) fun j k hj h1 hk2 => ?_
  · have hi' : i < (toL zs ks ps).length := by rw [toL_len]; exact hi
    have e := h2.slid_obj hi' (d := d) (by rw [hlg hi]; exact hd)
    rw [htn hi] at e
    rw [e]
    have hw := h.slid_obj hi hd
    unfold objW at hw
    unfold objW
    rw [hkn hi, h.slid_head hi]
    by_cases hc : 1 ≤ d ∧ d ≤ (vR (nth zs (kn ks i))).toNat
    · rw [if_pos hc] at hw ⊢
      rw [if_pos hc, hw]
      obtain ⟨_, _, a3, _⟩ := h.nat hi
      have hl := refWords_len (begins_mem a3).2.2
      have hu : nth zs (kn ks i + d) ∈ refWords zs (kn ks i) := by
        have h1 := refWords_at (zs := zs) (s := kn ks i) (j := d - 1) (by omega)
        rw [show kn ks i + 1 + (d - 1) = kn ks i + d by omega] at h1
        rw [← h1]
        exact nth_mem (by rw [hl]; omega)
      rcases h.kept hh hi hu with e | ⟨q, hq, e⟩
      · rw [e, trW_zero, trW_zero]
      · have hq' : q < (toL zs ks ps).length := by rw [toL_len]; exact hq
        rw [e, trW_ref (h.pl hq) (live_lg (h.live hq)).1]
        have e2 := trW_ref (zs := slidL zs ks ps) (ps := ps) (h2.pl hq') (by rw [nth_toL hq]; exact (h.fits hq).1)
        rw [nth_toL hq, h.to_again hq] at e2
        exact e2
    · rw [if_neg hc] at hw ⊢
      rw [if_neg hc, hw]
  · have := h2.slid_gap (j := j) (k := k) (by rw [hg]; exact hj) (by rw [hg]; exact h1) (by rw [hg]; exact hk2)
    rwa [hg] at this
/-- What is reached stays reached. -/
theorem PlanOk.tr_to (hi : i < ks.length) : trI zs ks ps (nth ks i) = toN zs ks ps i := by
  unfold trI
  rw [if_neg (by have := (live_lg (h.live hi)).1; omega), h.pl hi]
theorem PlanOk.tr_pin {p : Int} (hp : p ∈ ps) : trI zs ks ps p = p := by
  obtain ⟨q1, q2⟩ := plN_in (h.pk _ hp)
  have := h.tr_to q1
  rw [q2, toN_pin (by rw [q2]; exact hp), q2] at this
  exact this
theorem PlanOk.reach (hh : heldB zs ks = true) {fr : List Int} (hfr : ∀ x ∈ fr, x ∈ ks) {x : Int} (hx : Reach (nxOf zs) fr x) : x ∈ ks ∧ Reach (nxOf (slidL zs ks ps)) (fr.map (trI zs ks ps)) (trI zs ks ps x) := by
  refine reach_least (S := fun x => x ∈ ks ∧ Reach (nxOf (slidL zs ks ps)) (fr.map (trI zs ks ps)) (trI zs ks ps x)) (fun x hx => ⟨hfr x hx, .base (List.mem_map.2 ⟨x, hx, rfl⟩)⟩) (fun x hx y hy h0 => ?_) hx
  obtain ⟨hxk, hr⟩ := hx
  have hyk := (heldB_iff.1 hh x hxk y hy).resolve_left (by omega)
  refine ⟨hyk, ?_⟩
  obtain ⟨q1, q2⟩ := plN_in hxk
  obtain ⟨r1, r2⟩ := plN_in hyk
  have e := h.slid_named hh q1
  rw [q2] at e
  have et := h.tr_to q1
  rw [q2] at et
  rw [et] at hr
  refine .step hr ?_ ?_
  · rw [e]; exact List.mem_map.2 ⟨y, hy, rfl⟩
  · have := h.tr_to r1
    rw [r2] at this
    rw [this]
    exact (h.fits r1).1
theorem PlanOk.slid_reach (hz : ∀ z ∈ zs, (Lit.int .u64 z).wf = true) (hh : heldB zs ks = true) {fr : List Int} (hfr : ∀ x ∈ fr, x ∈ ks) (hall : ∀ x ∈ ks, Reach (nxOf zs) fr x) : fromE (slidL zs ks ps) (fr.map (trI zs ks ps)) = 0 ∧ reachL (slidL zs ks ps) (fr.map (trI zs ks ps)) = toL zs ks ps := by
  have hf : fromE (slidL zs ks ps) (fr.map (trI zs ks ps)) = 0 := fromE_ok (h.slid_arena hh) fun y hy => by
    obtain ⟨x, hx, rfl⟩ := List.mem_map.1 hy
    obtain ⟨q1, q2⟩ := plN_in (hfr x hx)
    have := h.tr_to q1
    rw [q2] at this
    rw [this, h.slid_live]
    exact List.mem_map.2 ⟨_, List.mem_range.2 q1, rfl⟩
  refine ⟨hf, rises_same reachL_rise h.to_rise fun y => ⟨fun hy => (h.slid_live y).1 (reachL_lives y hy), fun hy => ?_⟩⟩
  obtain ⟨i, hi, rfl⟩ := List.mem_map.1 hy
  have hi := List.mem_range.1 hi
  rw [reachL_mem (h.slid_wf hz hh) hf, ← h.tr_to hi]
  exact (h.reach hh hfr (hall _ (nth_mem hi))).2
omit h in
/-- A word of an object that may refer to another. -/
theorem ref_word {zs : List Int} (h : arErr zs = 0) {s k : Nat} (hs : s ∈ begins zs 0) (hk : k < (vR (nth zs s)).toNat) : (named zs s).length = (vR (nth zs s)).toNat ∧ ((nth zs (s + 1 + k) = 0 ∧ nth (named zs s) k = -1) ∨ (0 ≤ nth (named zs s) k ∧ nth zs (s + 1 + k) = nth (named zs s) k + 1)) := by
  obtain ⟨h256, hf, hr⟩ := arErr_iff.1 h
  have hl := refWords_len (begins_mem hs).2.2
  have hu : nth (refWords zs s) k = nth zs (s + 1 + k) := refWords_at hk
  have hn : nth (named zs s) k = nm (nth zs (s + 1 + k)) := by
    rw [← hu]
    exact nth_mapS nm (by rw [hl]; exact hk)
  refine ⟨by unfold named; rw [List.length_map, hl], ?_⟩
  rw [hn]
  rcases refsOk_char.1 hr s hs _ (nth_mem (l := refWords zs s) (j := k) (by rw [hl]; exact hk)) with e | ⟨t, ht, _, e⟩
  · rw [hu] at e
    rw [e]
    exact .inl ⟨rfl, by decide⟩
  · rw [hu] at e
    have htl := (begins_mem ht).2.1
    have : nm ((t : Int) + 1) = t := by unfold nm; rw [if_neg (by omega)]; omega
    rw [e, this]
    exact .inr ⟨by omega, rfl⟩
omit h in
/-- What is reached keeps its references. -/
theorem reach_held (hz : ∀ z ∈ zs, (Lit.int .u64 z).wf = true) {fr : List Int} (hf : fromE zs fr = 0) : heldB zs (reachL zs fr) = true := heldB_iff.2 fun x hx y hy => by
  rcases Int.lt_or_le y 0 with h0 | h0
  · exact .inl h0
  · exact .inr ((reachL_mem hz hf).2 (.step ((reachL_mem hz hf).1 hx) hy h0))
omit h in
theorem sumL_all {zs : List Int} : ∀ {ks : List Int} (i : Nat), i ≤ ks.length → sumL zs ks i = (((ks.take i).map Int.toNat).map (longN zs)).sum
  | _, 0, _ => rfl
  | ks, i + 1, hi => by
    rw [List.take_succ_eq_append_getElem (by omega), List.map_append, List.map_append, List.sum_append, Int.natCast_add, ← sumL_all i (by omega), ← nth_get _ _ (by omega)]
    show sumL zs ks i + lgI zs (nth ks i) = _
    simp [lgI]
omit h in
theorem takes_sum {zs fr : List Int} : (takesN zs fr : Int) = sumL zs (reachL zs fr) (reachL zs fr).length := by
  rw [sumL_all _ (Nat.le_refl _), List.take_length]
  unfold takesN
  rw [cnt_covers]
  · rw [List.nodup_iff_pairwise_ne, List.pairwise_map]
    exact List.Pairwise.imp_of_mem (fun {a b} ha hb hab => by have := lives_pos a (reachL_lives a ha); omega) reachL_rise
  · intro s hs
    obtain ⟨x, hx, rfl⟩ := List.mem_map.1 hs
    obtain ⟨t, ht, _, rfl⟩ := lives_mem.1 (reachL_lives x hx)
    rw [Int.toNat_natCast]; exact ht
end
end
/-- The references of the first 'i' are kept. -/
def heldTo (zs ks : List Int) (i : Nat) : Prop := ∀ j, j < i → ∀ y ∈ nxOf zs (nth ks j), y < 0 ∨ y ∈ ks
theorem heldTo_all {zs ks : List Int} (h : heldTo zs ks ks.length) : heldB zs ks = true := heldB_iff.2 fun x hx y hy => by
  obtain ⟨j, hj, rfl⟩ := mem_nth hx
  exact h j hj y hy
theorem heldTo_not {zs ks : List Int} {i : Nat} {y : Int} (hi : i < ks.length) (hy : y ∈ nxOf zs (nth ks i)) (h0 : ¬ y < 0) (hn : y ∉ ks) : heldB zs ks = false := by
  cases hb : heldB zs ks
  · rfl
  · rcases heldB_iff.1 hb _ (nth_mem hi) y hy with h | h
    · exact absurd h h0
    · exact absurd h hn
end Go.Proofs.Ytjefbekdjgmmbaa
