/-
  Package young, over no program of its own: a list without what is in another, the error of ages as a marking state's, what is kept and who is old then, the noted behind a write, the arena spot by spot.
-/
import Derived.Test.YthdnfocemchgjaaYoungN
import Derived.Test.YthdnfocemchgjaaSortI
namespace Go.Proofs.Ythdnfocemchgjaa
open Go.RowKit

/-- A list without what is in another. -/
def outL (l o : List Int) : List Int := l.filter fun x => decide (x ∉ o)
/-- The arena when the first 'k' spots were gone over. -/
def growS (zs old : List Int) (k : Nat) : List Int := growTo zs old (liveTo zs k).length
section
variable {zs g b fr l o old : List Int} {a z x : Int} {k : Nat}
theorem outL_mem : x ∈ outL l o ↔ x ∈ l ∧ x ∉ o := by unfold outL; rw [List.mem_filter, decide_eq_true_eq]
theorem outL_rise (h : l.Pairwise (· < ·)) : (outL l o).Pairwise (· < ·) := List.Pairwise.filter _ h
theorem outL_len : (outL l o).length ≤ l.length := List.length_filter_le _ _
theorem outL_nil : (outL l o).length = 0 ↔ subB o l = true := by
  rw [List.length_eq_zero_iff, List.eq_nil_iff_forall_not_mem, subB_iff]
  constructor
  · intro h x hx
    by_cases ho : x ∈ o
    · exact ho
    · exact absurd (outL_mem.2 ⟨hx, ho⟩) (h x)
  · intro h x hx
    exact (outL_mem.1 hx).2 (h x (outL_mem.1 hx).1)
theorem outL_zero : outL (l.take 0) o = [] := rfl
theorem outL_more (h : k < l.length) (hn : nth l k ∉ o) : outL (l.take (k + 1)) o = outL (l.take k) o ++ [nth l k] := by
  unfold outL
  rw [List.take_succ_eq_append_getElem h, List.filter_append, ← nth_get _ _ h]
  simp [hn]
theorem outL_skip (h : k < l.length) (hn : nth l k ∈ o) : outL (l.take (k + 1)) o = outL (l.take k) o := by
  unfold outL
  rw [List.take_succ_eq_append_getElem h, List.filter_append, ← nth_get _ _ h]
  simp [hn]

/-- The error of ages. -/
theorem ages_sub (h : arErr zs = 0) (h1 : (riseB g && riseB b) = true) (h2 : subB g b = false) : agesE zs g b = 5 := by
  cases h3 : allIn zs g
  · exact agesE_none h h1 h3
  · exact agesE_sub h h1 h3 h2
theorem ages_tri (hz : ∀ z ∈ zs, (Lit.int .u64 z).wf = true) (h : arErr zs = 0) (h1 : (riseB g && riseB b) = true) (h2 : subB g b = true) : triE zs b (outL g b) = agesE zs g b := by
  have hr : (riseB b && riseB (outL g b)) = true := by
    rw [Bool.and_eq_true] at h1 ⊢
    exact ⟨h1.2, riseB_iff.2 (outL_rise (riseB_iff.1 h1.1))⟩
  have hs := subB_iff.1 h2
  cases h3 : allIn zs g
  · have h4 : (allIn zs b && allIn zs (outL g b)) = false := by
      cases h4 : (allIn zs b && allIn zs (outL g b))
      · rfl
      · rw [Bool.and_eq_true] at h4
        have : allIn zs g = true := allIn_iff.2 fun x hx => by
          by_cases hb : x ∈ b
          · exact allIn_iff.1 h4.1 x hb
          · exact allIn_iff.1 h4.2 x (outL_mem.2 ⟨hx, hb⟩)
        rw [this] at h3; cases h3
    rw [agesE_none h h1 h3, triE_none h hr h4]
  · have ho := allIn_iff.1 h3
    have hi : (allIn zs b && allIn zs (outL g b)) = true := by
      rw [Bool.and_eq_true]
      exact ⟨allIn_iff.2 fun x hx => ho x (hs x hx), allIn_iff.2 fun x hx => ho x (outL_mem.1 hx).1⟩
    have ht : thereB b (outL g b) = false := thereB_false.2 fun x hx hy => (outL_mem.1 hy).2 hx
    have hbr := brokenB_false (g := b) (b := outL g b) hz h (fun x hx => ho x (outL_mem.1 hx).1)
    cases h4 : oldB zs g b
    · have h5 : brokenB zs (colOf b (outL g b)) (outL g b) = true := by
        cases h5 : brokenB zs (colOf b (outL g b)) (outL g b)
        · exfalso
          have : oldB zs g b = true := oldB_iff.2 fun x hx hn y hy => by
            rcases Int.lt_or_le y 0 with h6 | h6
            · exact .inl h6
            · right
              rcases hbr.1 h5 x (outL_mem.2 ⟨hx, hn⟩) y hy h6 with h7 | h7
              · exact hs y h7
              · exact (outL_mem.1 h7).1
          rw [this] at h4; cases h4
        · rfl
      rw [agesE_held h h1 h3 h2 h4, triE_held h hr hi ht h5]
    · rw [agesE_ok h h1 h3 h2 h4]
      refine triE_ok h hr hi ht (hbr.2 fun x hx y hy h0 => ?_)
      obtain ⟨hx, hn⟩ := outL_mem.1 hx
      have := (oldB_iff.1 h4 x hx hn y hy).resolve_left (by omega)
      by_cases hb : y ∈ b
      · exact .inl hb
      · exact .inr (outL_mem.2 ⟨this, hb⟩)
theorem tri_nil (hz : ∀ z ∈ zs, (Lit.int .u64 z).wf = true) (h : arErr zs = 0) : triE zs [] [] = 0 :=
  (triE_iff hz).2 ⟨h, .nil, .nil, by simp, by simp, by simp, by simp⟩

/-- What is kept. -/
theorem keep_from (h : AgesOk zs g b) : fromE zs (fr ++ b) = fromE zs fr := by
  by_cases hf : ∀ x ∈ fr, x ∈ livesI zs
  · rw [fromE_ok h.arena hf]
    exact fromE_ok h.arena fun x hx => (List.mem_append.1 hx).elim (hf x) fun hx => h.ol x (h.no x hx)
  · obtain ⟨x, hx, hn⟩ : ∃ x, x ∈ fr ∧ x ∉ livesI zs := by simpa using hf
    rw [fromE_none h.arena hx hn]
    exact fromE_none h.arena (List.mem_append_left _ hx) hn
theorem keep_out (hz : ∀ z ∈ zs, (Lit.int .u64 z).wf = true) (h : AgesOk zs g b) (hf : fromE zs fr = 0) : outL (reachL zs (fr ++ b)) g = keptL zs g b fr := rise_ext (outL_rise reachL_rise) kept_rise fun x => by
  have hfl := (fromE_zero hf).2
  rw [outL_mem, reachL_mem hz (by rw [keep_from h]; exact hf), kept_mem hz h hfl]
  constructor
  · rintro ⟨hr, hn⟩
    refine (reach_least (S := fun x => x ∈ g ∨ Reach (yNx zs g) (yFr zs g b fr) x) (fun x hx => ?_) (fun x hx y hy h0 => ?_) hr).resolve_left hn
    · by_cases hg : x ∈ g
      · exact .inl hg
      · rcases List.mem_append.1 hx with hx | hx
        · exact .inr (.base (yFr_mem.2 ⟨.inl hx, lives_pos x (hfl x hx), hg⟩))
        · exact absurd (h.no x hx) hg
    · by_cases hg : y ∈ g
      · exact .inl hg
      · right
        rcases hx with hx | hx
        · by_cases hn : x ∈ b
          · exact .base (yFr_mem.2 ⟨.inr ⟨x, hn, hy⟩, h0, hg⟩)
          · rcases h.held x hx hn y hy with h1 | h1
            · omega
            · exact absurd h1 hg
        · exact .step hx (yNx_mem.2 ⟨hy, hg⟩) h0
  · intro hr
    refine ⟨reach_least (S := fun x => Reach (nxOf zs) (fr ++ b) x) (fun x hx => ?_) (fun x hx y hy h0 => .step hx (yNx_mem.1 hy).1 h0) hr, (kept_young hz h hfl ((kept_mem hz h hfl).2 hr)).2⟩
    obtain ⟨h1, h2, _⟩ := yFr_mem.1 hx
    rcases h1 with h1 | ⟨y, hy, h1⟩
    · exact .base (List.mem_append_left _ h1)
    · exact .step (.base (List.mem_append_right _ hy)) h1 h2

/-- A list of different numbers in rising order. -/
theorem sort_ext {xs ys : List Int} (hn : xs.Nodup) (hr : ys.Pairwise (· < ·)) (h : ∀ x, x ∈ xs ↔ x ∈ ys) : sortL xs = ys := by
  refine rise_ext ?_ hr fun x => by rw [sortL_mem]; exact h x
  have h1 := sortL_sorted xs
  have h2 : (sortL xs).Nodup := (List.mergeSort_perm xs _).nodup_iff.2 hn
  exact List.pairwise_iff_getElem.2 fun i j hi hj hij => by
    have h3 := List.pairwise_iff_getElem.1 h1 i j hi hj hij
    have h4 := List.pairwise_iff_getElem.1 h2 i j hi hj hij
    omega
theorem grow_old (hz : ∀ z ∈ zs, (Lit.int .u64 z).wf = true) (h : AgesOk zs g b) (hf : fromE zs fr = 0) : sortL (g ++ keptL zs g b fr) = newO zs g b fr := by
  have hfl := (fromE_zero hf).2
  refine sort_ext (List.nodup_append.2 ⟨rises_nodup h.or_, rises_nodup kept_rise, fun x hx y hy e => ?_⟩) newO_rise fun x => ?_
  · subst e
    exact (kept_young hz h hfl hy).2 hx
  · rw [List.mem_append, newO_mem]
    constructor
    · rintro (hx | hx)
      · exact ⟨h.ol x hx, .inl hx⟩
      · exact ⟨(kept_young hz h hfl hx).1, .inr hx⟩
    · exact fun h => h.2
/-- The noted behind a write. -/
theorem noted_same (h : AgesOk zs g b) (hc : ¬ (a ∈ g ∧ z ≠ -1 ∧ z ∉ g) ∨ a ∈ b) : b = wNoted zs g b a z := rise_ext h.nr wNoted_rise fun x => by
  rw [wNoted_mem h]
  constructor
  · exact .inl
  · rintro (hx | ⟨rfl, h0, h1, h2⟩)
    · exact hx
    · rcases hc with hc | hc
      · exact absurd ⟨h1, by omega, h2⟩ hc
      · exact hc
theorem noted_more (h : AgesOk zs g b) (hz : z = -1 ∨ z ∈ livesI zs) (h1 : a ∈ g) (h2 : z ≠ -1) (h3 : z ∉ g) (h4 : a ∉ b) : sortL (b ++ [a]) = wNoted zs g b a z := by
  have h0 := lives_pos z (hz.resolve_left h2)
  refine sort_ext (List.nodup_append.2 ⟨rises_nodup h.nr, by simp, fun x hx y hy e => ?_⟩) wNoted_rise fun x => ?_
  · rw [List.mem_singleton] at hy
    subst e hy
    exact h4 hx
  · rw [wNoted_mem h, List.mem_append, List.mem_singleton]
    constructor
    · rintro (hx | rfl)
      · exact .inl hx
      · exact .inr ⟨rfl, h0, h1, h3⟩
    · rintro (hx | ⟨rfl, _⟩)
      · exact .inl hx
      · exact .inr rfl

/-- The arena spot by spot. -/
theorem growS_zero : growS zs old 0 = zs := rfl
theorem growS_all : growS zs old (begins zs 0).length = growL zs old := by unfold growS growL; rw [liveTo_all]
theorem growS_free (h : k < (begins zs 0).length) (hf : vF (nth zs (st zs k)) = true) : growS zs old (k + 1) = growS zs old k := by unfold growS; rw [liveTo_no h hf]
theorem live_at (h : k < (begins zs 0).length) (hf : vF (nth zs (st zs k)) = false) : nth (livesI zs) (liveTo zs k).length = (st zs k : Int) ∧ (liveTo zs k).length < (livesI zs).length := by
  have h1 : liveTo zs (k + 1) <+: livesI zs := by
    unfold liveTo livesI
    exact ((List.take_prefix _ _).filter _).map _
  rw [liveTo_yes h hf] at h1
  obtain ⟨t, ht⟩ := h1
  rw [← ht]
  constructor
  · unfold nth
    simp
  · simp
theorem growS_old (h : k < (begins zs 0).length) (hf : vF (nth zs (st zs k)) = false) (ho : (st zs k : Int) ∈ old) : growS zs old (k + 1) = growS zs old k := by
  unfold growS
  rw [liveTo_yes h hf, List.length_append, List.length_singleton, growTo_yes (by rw [(live_at h hf).1]; exact ho)]
theorem growS_gone (h : k < (begins zs 0).length) (hf : vF (nth zs (st zs k)) = false) (ho : (st zs k : Int) ∉ old) : growS zs old (k + 1) = emptyL (growS zs old k) (st zs k) (longN zs (st zs k)) := by
  unfold growS
  rw [liveTo_yes h hf, List.length_append, List.length_singleton, growTo_no (by rw [(live_at h hf).1]; exact ho), (live_at h hf).1, Int.toNat_natCast]
theorem growS_len : (growS zs old k).length = zs.length := growTo_len _ (by
  have h1 : liveTo zs k <+: livesI zs := by
    unfold liveTo livesI
    exact ((List.take_prefix _ _).filter _).map _
  exact h1.length_le)
end
end Go.Proofs.Ythdnfocemchgjaa
