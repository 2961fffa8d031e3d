/-
  Old and young, over no program of its own: what is wrong with ages, what of the young is kept, the arena that is left, what a write does.
-/
import Derived.Test.YthdnfocemchgjaaGreatPlanM
import Derived.Test.YthdnfocemchgjaaGreatStepI
import Derived.Test.YthdnfocemchgjaaGreatJoinM
namespace Go.Proofs.YthdnfocemchgjaaGreat
open Go.RowKit

/-- No old object that is not noted names a young one. -/
def oldB (zs os ns : List Int) : Bool := os.all fun x => decide (x ∈ ns) || (nxOf zs x).all fun y => decide (y < 0 ∨ y ∈ os)
/-- The error of ages. -/
def agesE (zs os ns : List Int) : Int := if arErr zs ≠ 0 then arErr zs else if (riseB os && riseB ns) = false then 3 else if allIn zs os = false then 5 else if subB os ns = false then 5 else if oldB zs os ns = false then 8 else 0
structure AgesOk (zs os ns : List Int) : Prop where
  arena : arErr zs = 0
  or_ : os.Pairwise (· < ·)
  nr : ns.Pairwise (· < ·)
  ol : ∀ x ∈ os, x ∈ livesI zs
  no : ∀ x ∈ ns, x ∈ os
  held : ∀ x ∈ os, x ∉ ns → ∀ y ∈ nxOf zs x, y < 0 ∨ y ∈ os
/-- What a young object names among the young; what one begins with. -/
def yNx (zs os : List Int) (x : Int) : List Int := (nxOf zs x).filter fun y => decide (y ∉ os)
def yFr (zs os ns fr : List Int) : List Int := (fr ++ ns.flatMap (nxOf zs)).filter fun y => decide (0 ≤ y ∧ y ∉ os)
/-- The young that are kept. -/
def yOn (zs os ns fr : List Int) : List Int := (marking (yNx zs os) 256 (livesI zs) (yFr zs os ns fr)).1.on
def keptL (zs os ns fr : List Int) : List Int := (livesI zs).filter fun x => decide (x ∈ yOn zs os ns fr)
/-- Who is old then. -/
def newO (zs os ns fr : List Int) : List Int := (livesI zs).filter fun x => decide (x ∈ os ∨ x ∈ keptL zs os ns fr)
/-- The arena when the first 'i' objects were gone over: who is not old is free. -/
def growTo (zs old : List Int) : Nat → List Int
  | 0 => zs
  | i + 1 => if nth (livesI zs) i ∈ old then growTo zs old i else emptyL (growTo zs old i) (nth (livesI zs) i).toNat (longN zs (nth (livesI zs) i).toNat)
def growL (zs old : List Int) : List Int := growTo zs old (livesI zs).length

section
variable {zs os ns fr old : List Int} {i k : Nat}
theorem oldB_iff : oldB zs os ns = true ↔ ∀ x ∈ os, x ∉ ns → ∀ y ∈ nxOf zs x, y < 0 ∨ y ∈ os := by
  unfold oldB
  rw [List.all_eq_true]
  constructor
  · intro h x hx hn y hy
    have h1 := h x hx
    rw [Bool.or_eq_true, decide_eq_true_eq, List.all_eq_true] at h1
    exact of_decide_eq_true ((h1.resolve_left hn) y hy)
  · intro h x hx
    rw [Bool.or_eq_true, decide_eq_true_eq, List.all_eq_true]
    by_cases hn : x ∈ ns
    · exact .inl hn
    · exact .inr fun y hy => decide_eq_true (h x hx hn y hy)
theorem agesE_arena (h : arErr zs ≠ 0) : agesE zs os ns = arErr zs := if_pos h
theorem agesE_form (h : arErr zs = 0) (h1 : (riseB os && riseB ns) = false) : agesE zs os ns = 3 := by unfold agesE; rw [if_neg (by simp [h]), if_pos h1]
theorem agesE_none (h : arErr zs = 0) (h1 : (riseB os && riseB ns) = true) (h2 : allIn zs os = false) : agesE zs os ns = 5 := by unfold agesE; rw [if_neg (by simp [h]), if_neg (by simp [h1]), if_pos h2]
theorem agesE_sub (h : arErr zs = 0) (h1 : (riseB os && riseB ns) = true) (h2 : allIn zs os = true) (h3 : subB os ns = false) : agesE zs os ns = 5 := by unfold agesE; rw [if_neg (by simp [h]), if_neg (by simp [h1]), if_neg (by simp [h2]), if_pos h3]
theorem agesE_held (h : arErr zs = 0) (h1 : (riseB os && riseB ns) = true) (h2 : allIn zs os = true) (h3 : subB os ns = true) (h4 : oldB zs os ns = false) : agesE zs os ns = 8 := by unfold agesE; rw [if_neg (by simp [h]), if_neg (by simp [h1]), if_neg (by simp [h2]), if_neg (by simp [h3]), if_pos h4]
theorem agesE_ok (h : arErr zs = 0) (h1 : (riseB os && riseB ns) = true) (h2 : allIn zs os = true) (h3 : subB os ns = true) (h4 : oldB zs os ns = true) : agesE zs os ns = 0 := by unfold agesE; rw [if_neg (by simp [h]), if_neg (by simp [h1]), if_neg (by simp [h2]), if_neg (by simp [h3]), if_neg (by simp [h4])]
theorem agesE_zero : agesE zs os ns = 0 ↔ AgesOk zs os ns := by
  constructor
  · intro h
    unfold agesE at h
    split at h
    · rename_i h0; exact absurd h h0
    · rename_i h0
      split at h
      · omega
      · rename_i h1
        split at h
        · omega
        · rename_i h2
          split at h
          · omega
          · rename_i h3
            split at h
            · omega
            · rename_i h4
              simp only [Bool.not_eq_false, Bool.and_eq_true] at h1 h2 h3 h4
              exact ⟨by simpa using h0, riseB_iff.1 h1.1, riseB_iff.1 h1.2, allIn_iff.1 h2, subB_iff.1 h3, oldB_iff.1 h4⟩
  · intro h
    exact agesE_ok h.arena (by rw [riseB_iff.2 h.or_, riseB_iff.2 h.nr]; rfl) (allIn_iff.2 h.ol) (subB_iff.2 h.no) (oldB_iff.2 h.held)

theorem yFr_mem {x : Int} : x ∈ yFr zs os ns fr ↔ (x ∈ fr ∨ ∃ y ∈ ns, x ∈ nxOf zs y) ∧ 0 ≤ x ∧ x ∉ os := by
  unfold yFr
  rw [List.mem_filter, List.mem_append, List.mem_flatMap, decide_eq_true_eq]
theorem yNx_mem {x y : Int} : y ∈ yNx zs os x ↔ y ∈ nxOf zs x ∧ y ∉ os := by unfold yNx; rw [List.mem_filter, decide_eq_true_eq]
section
variable (hz : ∀ z ∈ zs, (Lit.int .u64 z).wf = true) (h : AgesOk zs os ns) (hf : ∀ x ∈ fr, x ∈ livesI zs)
include hz h hf
theorem yFr_live : ∀ x ∈ yFr zs os ns fr, x ∈ livesI zs := fun x hx => by
  obtain ⟨h1, h2, h3⟩ := yFr_mem.1 hx
  rcases h1 with h1 | ⟨y, hy, h1⟩
  · exact hf x h1
  · exact ((lives_closed hz h.arena) y (h.ol y (h.no y hy)) x h1).resolve_left (by omega)
omit hf in
theorem yNx_closed : Closed (yNx zs os) (livesI zs) := fun x hx y hy => (lives_closed hz h.arena) x hx y (yNx_mem.1 hy).1
theorem yOn_mem {x : Int} : x ∈ yOn zs os ns fr ↔ Reach (yNx zs os) (yFr zs os ns fr) x := (marking_tells (room := 256) (lives_len (arena_len h.arena)) (yNx_closed hz h) (yFr_live hz h hf) lives_pos).1 x
theorem kept_mem {x : Int} : x ∈ keptL zs os ns fr ↔ Reach (yNx zs os) (yFr zs os ns fr) x := by
  unfold keptL
  rw [List.mem_filter, decide_eq_true_eq, yOn_mem hz h hf]
  constructor
  · exact fun h => h.2
  · intro hr
    refine ⟨reach_least (S := fun x => x ∈ livesI zs) (yFr_live hz h hf) (fun x hx y hy h0 => ?_) hr, hr⟩
    exact ((yNx_closed hz h) x hx y hy).resolve_left (by omega)
theorem kept_young {x : Int} (hx : x ∈ keptL zs os ns fr) : x ∈ livesI zs ∧ x ∉ os := by
  refine ⟨(List.mem_filter.1 hx).1, ?_⟩
  refine reach_least (S := fun x => x ∉ os) (fun x hx => (yFr_mem.1 hx).2.2) (fun x _ y hy _ => (yNx_mem.1 hy).2) ((kept_mem hz h hf).1 hx)
omit hz h hf in
theorem newO_mem {x : Int} : x ∈ newO zs os ns fr ↔ x ∈ livesI zs ∧ (x ∈ os ∨ x ∈ keptL zs os ns fr) := by unfold newO; rw [List.mem_filter, decide_eq_true_eq]
/-- Who is old then is closed. -/
theorem newO_closed {x y : Int} (hx : x ∈ newO zs os ns fr) (hy : y ∈ nxOf zs x) : y < 0 ∨ y ∈ newO zs os ns fr := by
  obtain ⟨hl, hx⟩ := newO_mem.1 hx
  have hyl := (lives_closed hz h.arena) x hl y hy
  rcases Int.lt_or_le y 0 with h0 | h0
  · exact .inl h0
  · have hyl := hyl.resolve_left (by omega)
    right
    by_cases ho : y ∈ os
    · exact newO_mem.2 ⟨hyl, .inl ho⟩
    · refine newO_mem.2 ⟨hyl, .inr ?_⟩
      rw [kept_mem hz h hf]
      rcases hx with hx | hx
      · by_cases hn : x ∈ ns
        · exact .base (yFr_mem.2 ⟨.inr ⟨x, hn, hy⟩, h0, ho⟩)
        · rcases h.held x hx hn y hy with h1 | h1
          · omega
          · exact absurd h1 ho
      · rw [kept_mem hz h hf] at hx
        exact .step hx (yNx_mem.2 ⟨hy, ho⟩) h0
/-- What is reached is old then. -/
theorem reach_newO {x : Int} (hr : Reach (nxOf zs) fr x) : x ∈ newO zs os ns fr := by
  refine reach_least (S := fun x => x ∈ newO zs os ns fr) (fun x hx => ?_) (fun x hx y hy h0 => (newO_closed hz h hf hx hy).resolve_left (by omega)) hr
  by_cases ho : x ∈ os
  · exact newO_mem.2 ⟨hf x hx, .inl ho⟩
  · exact newO_mem.2 ⟨hf x hx, .inr ((kept_mem hz h hf).2 (.base (yFr_mem.2 ⟨.inl hx, lives_pos x (hf x hx), ho⟩)))⟩
end
theorem newO_rise : (newO zs os ns fr).Pairwise (· < ·) := List.Pairwise.filter _ lives_rise
theorem kept_rise : (keptL zs os ns fr).Pairwise (· < ·) := List.Pairwise.filter _ lives_rise

/-- The arena that is left. -/
theorem growTo_yes (h : nth (livesI zs) i ∈ old) : growTo zs old (i + 1) = growTo zs old i := if_pos h
theorem growTo_no (h : nth (livesI zs) i ∉ old) : growTo zs old (i + 1) = emptyL (growTo zs old i) (nth (livesI zs) i).toNat (longN zs (nth (livesI zs) i).toNat) := if_neg h
/-- The place of an object. -/
theorem live_place (hi : i < (livesI zs).length) : ∃ s : Nat, nth (livesI zs) i = s ∧ s ∈ begins zs 0 ∧ vF (nth zs s) = false ∧ 0 < longN zs s ∧ s + longN zs s ≤ zs.length := by
  obtain ⟨s, hs, hf, e⟩ := lives_mem.1 (nth_mem hi)
  have h1 := live_lg (nth_mem (l := livesI zs) hi)
  rw [e] at h1
  have e2 : lgI zs (s : Int) = (longN zs s : Int) := by unfold lgI; rw [Int.toNat_natCast]
  rw [e2] at h1
  exact ⟨s, e, hs, hf, by omega, by omega⟩
theorem growTo_len : ∀ i, i ≤ (livesI zs).length → (growTo zs old i).length = zs.length
  | 0, _ => rfl
  | i + 1, hi => by
    have ih := growTo_len i (by omega)
    by_cases h : nth (livesI zs) i ∈ old
    · rw [growTo_yes h, ih]
    · rw [growTo_no h]
      obtain ⟨s, e, _, _, h1, h2⟩ := live_place (zs := zs) (i := i) (by omega)
      rw [e, Int.toNat_natCast, emptyL_len (by rw [ih]; exact h2), ih]
theorem growTo_step_nth (hi : i < (livesI zs).length) {s : Nat} (e : nth (livesI zs) i = s) (h : nth (livesI zs) i ∉ old) (k : Nat) : nth (growTo zs old (i + 1)) k = if k = s then fWord (longN zs s) else if s ≤ k ∧ k < s + longN zs s then 0 else nth (growTo zs old i) k := by
  rw [growTo_no h, e, Int.toNat_natCast]
  obtain ⟨s', e', _, _, h1, h2⟩ := live_place hi
  obtain rfl : s' = s := by omega
  unfold emptyL
  rw [if_neg (by omega), nth_putL _ h1 (by rw [growTo_len i (by omega)]; exact h2)]
/-- A word of an object that is not gone over yet, or is old, or of none. -/
theorem growTo_out : ∀ i, i ≤ (livesI zs).length → (∀ j, j < i → nth (livesI zs) j ∉ old → ∀ s : Nat, nth (livesI zs) j = s → ¬ (s ≤ k ∧ k < s + longN zs s)) → nth (growTo zs old i) k = nth zs k
  | 0, _, _ => rfl
  | i + 1, hi, h => by
    have ih := growTo_out i (by omega) fun j hj => h j (by omega)
    by_cases ho : nth (livesI zs) i ∈ old
    · rw [growTo_yes ho, ih]
    · obtain ⟨s, e, _, _, h1, h2⟩ := live_place (zs := zs) (i := i) (by omega)
      have := h i (by omega) ho s e
      rw [growTo_step_nth (by omega) e ho, if_neg (by omega), if_neg this, ih]
theorem growTo_in : ∀ i, i ≤ (livesI zs).length → ∀ j, j < i → nth (livesI zs) j ∉ old → ∀ s : Nat, nth (livesI zs) j = s → s ≤ k → k < s + longN zs s → nth (growTo zs old i) k = if k = s then fWord (longN zs s) else 0
  | 0, _, j, hj, _, _, _, _, _ => absurd hj (by omega)
  | i + 1, hi, j, hj, ho, s, e, h1, h2 => by
    by_cases hji : j = i
    · subst hji
      rw [growTo_step_nth (by omega) e ho]
      by_cases hk : k = s
      · rw [if_pos hk, if_pos hk]
      · rw [if_neg hk, if_neg hk, if_pos ⟨h1, h2⟩]
    · have ih := growTo_in i (by omega) j (by omega) ho s e h1 h2
      by_cases ho2 : nth (livesI zs) i ∈ old
      · rw [growTo_yes ho2, ih]
      · obtain ⟨t, et, htb, _, h3, h4⟩ := live_place (zs := zs) (i := i) (by omega)
        obtain ⟨s', es, hsb, _, _, _⟩ := live_place (zs := zs) (i := j) (by omega)
        obtain rfl : s' = s := by omega
        have hlt : s' < t := by
          have := List.pairwise_iff_getElem.1 (lives_rise (zs := zs)) j i (by omega) (by omega) (by omega)
          rw [← nth_get _ _ (by omega), ← nth_get _ _ (by omega), es, et] at this
          omega
        have := begins_apart hsb htb hlt
        have : s' + longN zs s' ≤ t := this
        rw [growTo_step_nth (by omega) et ho2, if_neg (by omega), if_neg (by omega), ih]
theorem growL_len : (growL zs old).length = zs.length := growTo_len _ (Nat.le_refl _)
theorem live_index {x : Int} (h : x ∈ livesI zs) : ∃ j, j < (livesI zs).length ∧ nth (livesI zs) j = x := mem_nth h
/-- The words of who is old, or free already. -/
theorem growL_keep {s : Nat} (hs : s ∈ begins zs 0) (h : vF (nth zs s) = true ∨ (s : Int) ∈ old) (h1 : s ≤ k) (h2 : k < s + longN zs s) : nth (growL zs old) k = nth zs k := by
  refine growTo_out _ (Nat.le_refl _) fun j hj ho t et hc => ?_
  obtain ⟨t', e', htb, hf, _, _⟩ := live_place hj
  obtain rfl : t' = t := by omega
  have hst : s = t' := by
    rcases Nat.lt_trichotomy s t' with hh | hh | hh
    · have := begins_apart hs htb hh
      have : s + longN zs s ≤ t' := this
      omega
    · exact hh
    · have := begins_apart htb hs hh
      have : t' + longN zs t' ≤ s := this
      omega
  subst hst
  rcases h with h | h
  · rw [hf] at h; cases h
  · rw [et] at ho; exact ho h
/-- The words of who goes. -/
theorem growL_gone {s : Nat} (hs : (s : Int) ∈ livesI zs) (h : (s : Int) ∉ old) (h1 : s ≤ k) (h2 : k < s + longN zs s) : nth (growL zs old) k = if k = s then fWord (longN zs s) else 0 := by
  obtain ⟨j, hj, e⟩ := live_index hs
  exact growTo_in _ (Nat.le_refl _) j hj (by rw [e]; exact h) s e h1 h2
end
theorem begins_long {zs ys : List Int} (hl : ys.length = zs.length) : ∀ {a : Nat}, fine zs a = true → (∀ s ∈ begins zs a, stepOk ys s = true ∧ sLong (nth ys s) = sLong (nth zs s)) → begins ys a = begins zs a ∧ fine ys a = true := by
  intro a
  induction hk : zs.length - a using Nat.strongRecOn generalizing a with
  | ind k ih =>
    intro hf hs
    by_cases h : a < zs.length
    · cases hst : stepOk zs a
      · rw [fine_bad h hst] at hf; cases hf
      · obtain ⟨hst', h0⟩ := hs a (by rw [begins_step h hst]; exact List.mem_cons_self)
        have hp := sLong_pos (nth zs a)
        obtain ⟨i1, i2⟩ := ih (zs.length - (a + sLong (nth zs a))) (by omega) (a := a + sLong (nth zs a)) rfl (by rw [← fine_step h hst]; exact hf) (fun s hm => hs s (by rw [begins_step h hst]; exact List.mem_cons_of_mem _ hm))
        rw [begins_step (by omega) hst', fine_step (by omega) hst', h0, begins_step h hst]
        exact ⟨by rw [i1], i2⟩
    · rw [begins_end (by omega), begins_end (by omega), fine_end (by omega)]
      exact ⟨rfl, rfl⟩
section
variable {zs old : List Int} {k : Nat} (hz : ∀ z ∈ zs, (Lit.int .u64 z).wf = true) (ok : arErr zs = 0)
include ok in
theorem start_fits {s : Nat} (hs : s ∈ begins zs 0) : 0 < longN zs s ∧ longN zs s ≤ 256 ∧ s + longN zs s ≤ zs.length := by
  obtain ⟨_, h1, h2⟩ := begins_mem hs
  have h3 := (stepOk_iff.1 h2).2
  have h4 := arena_len ok
  have h5 : 0 < longN zs s := sLong_pos _
  have h6 : s + longN zs s ≤ zs.length := h3
  omega
/-- Where an object begins. -/
theorem growL_start {s : Nat} (hs : s ∈ begins zs 0) : nth (growL zs old) s = if vF (nth zs s) = true ∨ (s : Int) ∈ old then nth zs s else fWord (longN zs s) := by
  have hp : 0 < longN zs s := sLong_pos _
  by_cases h : vF (nth zs s) = true ∨ (s : Int) ∈ old
  · rw [if_pos h]; exact growL_keep hs h (Nat.le_refl _) (by omega)
  · rw [if_neg h]
    have hf : vF (nth zs s) = false := bool_not fun hf => h (.inl hf)
    rw [growL_gone (lives_mem.2 ⟨s, hs, hf, rfl⟩) (fun ho => h (.inr ho)) (Nat.le_refl _) (by omega), if_pos rfl]
include ok in
theorem growL_head {s : Nat} (hs : s ∈ begins zs 0) : stepOk (growL zs old) s = true ∧ sLong (nth (growL zs old) s) = sLong (nth zs s) ∧ (vF (nth (growL zs old) s) = false ↔ vF (nth zs s) = false ∧ (s : Int) ∈ old) := by
  obtain ⟨h1, h2, h3⟩ := start_fits ok hs
  have hst := (begins_mem hs).2.2
  have e := growL_start (old := old) hs
  by_cases h : vF (nth zs s) = true ∨ (s : Int) ∈ old
  · rw [if_pos h] at e
    refine ⟨?_, by rw [e], ?_⟩
    · unfold stepOk at hst ⊢; rw [e, growL_len]; exact hst
    · rw [e]
      constructor
      · intro hf; exact ⟨hf, h.resolve_left (by rw [hf]; decide)⟩
      · exact fun h => h.1
  · rw [if_neg h] at e
    obtain ⟨f1, f2, f3, _⟩ := fWord_facts h1 h2
    refine ⟨?_, by rw [e, f3]; rfl, ?_⟩
    · rw [stepOk_iff, e, growL_len, f3]; exact ⟨f1, h3⟩
    · rw [e, f2]
      constructor
      · intro hc; cases hc
      · exact fun hc => absurd (.inr hc.2) h
include ok in
theorem growL_begins : begins (growL zs old) 0 = begins zs 0 ∧ fine (growL zs old) 0 = true :=
  begins_long growL_len (spErr_zero (arErr_zero ok).1).2 fun _ hs => ⟨(growL_head ok hs).1, (growL_head ok hs).2.1⟩
include ok in
theorem growL_live {x : Int} : x ∈ livesI (growL zs old) ↔ x ∈ livesI zs ∧ x ∈ old := by
  rw [lives_mem, lives_mem, (growL_begins ok).1]
  constructor
  · rintro ⟨s, hs, hf, rfl⟩
    have := (growL_head ok hs).2.2.1 hf
    exact ⟨⟨s, hs, this.1, rfl⟩, this.2⟩
  · rintro ⟨⟨s, hs, hf, rfl⟩, ho⟩
    exact ⟨s, hs, (growL_head ok hs).2.2.2 ⟨hf, ho⟩, rfl⟩
theorem growL_refs {s : Nat} (hs : s ∈ begins zs 0) (ho : (s : Int) ∈ old) : refWords (growL zs old) s = refWords zs s :=
  refWords_same growL_len fun _ h1 h2 => growL_keep hs (.inr ho) h1 h2
theorem growL_next {x : Int} (hx : x ∈ livesI zs) (ho : x ∈ old) : nxOf (growL zs old) x = nxOf zs x := by
  obtain ⟨s, hs, _, rfl⟩ := lives_mem.1 hx
  unfold nxOf named
  rw [Int.toNat_natCast, growL_refs hs ho]
include hz ok
theorem growTo_wf : ∀ i, i ≤ (livesI zs).length → ∀ z ∈ growTo zs old i, (Lit.int .u64 z).wf = true
  | 0, _ => hz
  | i + 1, hi => by
    have ih := growTo_wf i (by omega)
    by_cases h : nth (livesI zs) i ∈ old
    · rw [growTo_yes h]; exact ih
    · obtain ⟨s, e, hs, _, _, _⟩ := live_place (zs := zs) (i := i) (by omega)
      obtain ⟨h1, h2, h3⟩ := start_fits ok hs
      rw [growTo_no h, e, Int.toNat_natCast]
      unfold emptyL
      rw [if_neg (by omega)]
      exact putL_wf ih (fWord_facts h1 h2).2.2.2
theorem growL_wf : ∀ z ∈ growL zs old, (Lit.int .u64 z).wf = true := growTo_wf hz ok _ (Nat.le_refl _)
theorem growL_ok (hc : ∀ x ∈ livesI zs, x ∈ old → ∀ y ∈ nxOf zs x, y < 0 ∨ y ∈ old) : arErr (growL zs old) = 0 := by
  obtain ⟨a1, a2, a3⟩ := arErr_iff.1 ok
  refine arErr_iff.2 ⟨by rw [growL_len]; exact a1, (growL_begins ok).2, refsOk_char.2 fun s hs v hv => ?_⟩
  rw [(growL_begins ok).1] at hs ⊢
  cases hf : vF (nth (growL zs old) s)
  · obtain ⟨hf, ho⟩ := (growL_head ok hs).2.2.1 hf
    rw [growL_refs hs ho] at hv
    rcases (refsOk_char.1 a3) s hs v hv with h | ⟨t, ht, hft, e⟩
    · exact .inl h
    · refine .inr ⟨t, ht, (growL_head ok ht).2.2.2 ⟨hft, ?_⟩, e⟩
      have hy : (t : Int) ∈ nxOf zs (s : Int) := by
        unfold nxOf named
        rw [Int.toNat_natCast, List.mem_map]
        exact ⟨v, hv, by have := (begins_mem ht).2.1; unfold nm; rw [e]; split <;> omega⟩
      exact (hc s (lives_mem.2 ⟨s, hs, hf, rfl⟩) ho t hy).resolve_left (by omega)
  · rw [free_refs (growL_wf hz ok) (by rw [(growL_begins ok).1]; exact hs) hf] at hv
    cases hv
end
section
variable {zs os ns fr : List Int} (hz : ∀ z ∈ zs, (Lit.int .u64 z).wf = true) (h : AgesOk zs os ns) (hf : ∀ x ∈ fr, x ∈ livesI zs)
include hz h hf
/-- What is left is right. -/
theorem grow_right : AgesOk (growL zs (newO zs os ns fr)) (newO zs os ns fr) [] where
  arena := growL_ok hz h.arena fun _ _ ho _ hy => newO_closed hz h hf ho hy
  or_ := newO_rise
  nr := .nil
  ol := fun _ hx => (growL_live h.arena).2 ⟨(newO_mem.1 hx).1, hx⟩
  no := fun x hx => by cases hx
  held := fun x hx _ y hy => by
    rw [growL_next (newO_mem.1 hx).1 hx] at hy
    exact newO_closed hz h hf hx hy
end
/-- Who is noted behind a write. -/
def wNoted (zs os ns : List Int) (t z : Int) : List Int := (livesI zs).filter fun x => decide (x ∈ ns ∨ (x = t ∧ 0 ≤ z ∧ t ∈ os ∧ z ∉ os))
section
variable {zs os ns : List Int} {t r : Nat} {z : Int}
theorem wNoted_mem {t x : Int} (h : AgesOk zs os ns) : x ∈ wNoted zs os ns t z ↔ x ∈ ns ∨ (x = t ∧ 0 ≤ z ∧ t ∈ os ∧ z ∉ os) := by
  unfold wNoted
  rw [List.mem_filter, decide_eq_true_eq]
  constructor
  · exact fun h => h.2
  · intro hx
    refine ⟨?_, hx⟩
    rcases hx with hx | ⟨rfl, _, hx, _⟩
    · exact h.ol x (h.no x hx)
    · exact h.ol x hx
theorem wNoted_rise {t : Int} : (wNoted zs os ns t z).Pairwise (· < ·) := List.Pairwise.filter _ lives_rise
theorem wr_ages (hw : WrOk zs t r z) (h : AgesOk zs os ns) : AgesOk (wrL zs t r z) os (wNoted zs os ns (t : Int) z) where
  arena := wr_ok hw
  or_ := h.or_
  nr := wNoted_rise
  ol := fun x hx => by rw [wr_lives hw]; exact h.ol x hx
  no := fun x hx => by
    rcases (wNoted_mem h).1 hx with hx | ⟨rfl, _, hx, _⟩
    · exact h.no x hx
    · exact hx
  held := fun x hx hn y hy => by
    by_cases e : x = (t : Int)
    · subst e
      have hn1 : (t : Int) ∉ ns := fun hc => hn ((wNoted_mem h).2 (.inl hc))
      rcases wr_next hw y hy with h1 | h1
      · exact h.held _ hx hn1 y h1
      · subst h1
        rcases Int.lt_or_le y 0 with h0 | h0
        · exact .inl h0
        · by_cases ho : y ∈ os
          · exact .inr ho
          · exact absurd ((wNoted_mem h).2 (.inr ⟨rfl, h0, hx, ho⟩)) hn
    · rw [wr_next_other hw (h.ol x hx) e] at hy
      exact h.held x hx (fun hc => hn ((wNoted_mem h).2 (.inl hc))) y hy
end
end Go.Proofs.YthdnfocemchgjaaGreat
