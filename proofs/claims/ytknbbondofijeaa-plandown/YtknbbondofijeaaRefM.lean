/-
  What the reference reckons of references, over no program, and that it is what the map of words says.
-/
import Derived.Test.YtknbbondofijeaaObjM
namespace Go.Proofs.Ytknbbondofijeaa
open Go.RowKit

/-- What a reference word names, by the reference. -/
def nm (v : Int) : Int := if 256 < v then 9998 else v - 1
def named (zs : List Int) (s : Nat) : List Int := (refWords zs s).map nm
def isLive (zs : List Int) (s : Nat) : Bool := !vF (nth zs s)
/-- Where objects begin, as numbers. -/
def startsI (zs : List Int) : List Int := (begins zs 0).map (fun s : Nat => (s : Int))
/-- Where objects that are not free begin, as numbers. -/
def livesI (zs : List Int) : List Int := ((begins zs 0).filter (isLive zs)).map (fun s : Nat => (s : Int))
/-- What Place answers. -/
def PlaceP (xs : List Int) (x r : Int) : Prop := (∃ k : Nat, r = k ∧ k < xs.length ∧ nth xs k = x) ∨ (r = -1 ∧ ∀ j, j < xs.length → nth xs j ≠ x)

section
variable {zs : List Int}
theorem st_lt {i j : Nat} (hij : i < j) (hj : j < (begins zs 0).length) : st zs i < st zs j := by
  unfold st
  rw [nthG_get _ _ (by omega), nthG_get _ _ hj]
  exact List.pairwise_iff_getElem.1 begins_sorted i j (by omega) hj hij
theorem st_inj {i j : Nat} (hi : i < (begins zs 0).length) (hj : j < (begins zs 0).length) (h : st zs i = st zs j) : i = j := by
  rcases Nat.lt_trichotomy i j with h1 | h1 | h1
  · have := st_lt h1 hj; omega
  · exact h1
  · have := st_lt h1 hi; omega
theorem mapTo_null : ∀ k, mapTo zs k 0 = some (-1)
  | 0 => rfl
  | k + 1 => by
    cases h : vF (nth zs (st zs k))
    · rw [mapTo_live h, put_other _ (by omega)]; exact mapTo_null k
    · rw [mapTo_free h]; exact mapTo_null k
theorem mapTo_some : ∀ (k : Nat) {v i : Int}, v ≠ 0 → mapTo zs k v = some i → ∃ j : Nat, j < k ∧ i = j ∧ (st zs j : Int) + 1 = v ∧ vF (nth zs (st zs j)) = false
  | 0, v, i, hv, h => by
    unfold mapTo at h
    rw [put_other _ hv] at h; cases h
  | k + 1, v, i, hv, h => by
    cases hf : vF (nth zs (st zs k))
    · rw [mapTo_live hf] at h
      by_cases he : v = (st zs k : Int) + 1
      · rw [he, put_same] at h
        injection h with h
        exact ⟨k, by omega, h.symm, he.symm, hf⟩
      · rw [put_other _ he] at h
        obtain ⟨j, h1, h2⟩ := mapTo_some k hv h
        exact ⟨j, by omega, h2⟩
    · rw [mapTo_free hf] at h
      obtain ⟨j, h1, h2⟩ := mapTo_some k hv h
      exact ⟨j, by omega, h2⟩
theorem mapTo_hit : ∀ (k : Nat) {j : Nat}, k ≤ (begins zs 0).length → j < k → vF (nth zs (st zs j)) = false → mapTo zs k ((st zs j : Int) + 1) = some (j : Int)
  | 0, j, _, hj, _ => absurd hj (by omega)
  | k + 1, j, hk, hj, hf => by
    by_cases he : j = k
    · subst he
      rw [mapTo_live hf, put_same]
    · have ih := mapTo_hit k (j := j) (by omega) (by omega) hf
      cases hg : vF (nth zs (st zs k))
      · rw [mapTo_live hg, put_other _ (by
          intro e
          have : st zs j = st zs k := by omega
          have := st_inj (zs := zs) (by omega) (by omega) this
          omega)]
        exact ih
      · rw [mapTo_free hg]; exact ih
theorem ixOf_null : ixOf zs 0 = some (-1) := mapTo_null _
theorem ixOf_some {v i : Int} (hv : v ≠ 0) (h : ixOf zs v = some i) : ∃ j : Nat, j < (begins zs 0).length ∧ i = j ∧ (st zs j : Int) + 1 = v ∧ vF (nth zs (st zs j)) = false := mapTo_some _ hv h
theorem ixOf_hit {j : Nat} (hj : j < (begins zs 0).length) (hf : vF (nth zs (st zs j)) = false) : ixOf zs ((st zs j : Int) + 1) = some (j : Int) := mapTo_hit _ (Nat.le_refl _) hj hf
theorem mem_begins {s : Nat} (h : s ∈ begins zs 0) : ∃ j, j < (begins zs 0).length ∧ st zs j = s := by
  obtain ⟨j, hj, rfl⟩ := List.getElem_of_mem h
  exact ⟨j, hj, by unfold st; rw [nthG_get _ _ hj]⟩
theorem mem_lives {x : Int} : x ∈ livesI zs ↔ ∃ j, j < (begins zs 0).length ∧ (st zs j : Int) = x ∧ vF (nth zs (st zs j)) = false := by
  unfold livesI
  rw [List.mem_map]
  constructor
  · rintro ⟨s, hs, rfl⟩
    obtain ⟨h1, h2⟩ := List.mem_filter.1 hs
    obtain ⟨j, hj, rfl⟩ := mem_begins h1
    exact ⟨j, hj, rfl, by simpa [isLive] using h2⟩
  · rintro ⟨j, hj, rfl, hf⟩
    exact ⟨st zs j, List.mem_filter.2 ⟨st_mem hj, by simp [isLive, hf]⟩, rfl⟩
theorem nth_starts {j : Nat} (hj : j < (begins zs 0).length) : nth (startsI zs) j = (st zs j : Int) := by
  unfold startsI st
  rw [nth_get _ _ (by simpa using hj), nthG_get _ _ hj]
  simp
theorem starts_len : (startsI zs).length = (begins zs 0).length := by simp [startsI]
/-- A word refers to an object just if the reference finds what it names. -/
theorem ix_iff {v : Int} (hv : 0 ≤ v) (hl : zs.length ≤ 256) : (ixOf zs v).isSome = true ↔ nm v = -1 ∨ nm v ∈ livesI zs := by
  by_cases h0 : v = 0
  · subst h0
    rw [ixOf_null]
    simp [nm]
  · constructor
    · intro h
      obtain ⟨i, hi⟩ := Option.isSome_iff_exists.1 h
      obtain ⟨j, hj, _, he, hf⟩ := ixOf_some h0 hi
      have hlt := (begins_mem (st_mem hj)).2.1
      refine .inr (mem_lives.2 ⟨j, hj, ?_, hf⟩)
      unfold nm
      rw [if_neg (by omega)]
      omega
    · rintro (h | h)
      · unfold nm at h
        split at h <;> omega
      · obtain ⟨j, hj, he, hf⟩ := mem_lives.1 h
        have hlt := (begins_mem (st_mem hj)).2.1
        have hv : v = (st zs j : Int) + 1 := by
          unfold nm at he
          split at he <;> omega
        rw [hv, ixOf_hit hj hf]; rfl
/-- What Place finds of what a word names is what the map says. -/
theorem place_ix {v r : Int} (hl : zs.length ≤ 256) (h : (ixOf zs v).isSome = true) (hp : PlaceP (startsI zs) (nm v) r) : r = (ixOf zs v).getD 0 := by
  by_cases h0 : v = 0
  · subst h0
    rw [ixOf_null]
    rcases hp with ⟨k, rfl, hk, he⟩ | ⟨rfl, _⟩
    · rw [starts_len] at hk
      rw [nth_starts hk] at he
      unfold nm at he
      rw [if_neg (by omega)] at he
      omega
    · rfl
  · obtain ⟨i, hi⟩ := Option.isSome_iff_exists.1 h
    obtain ⟨j, hj, rfl, he, hf⟩ := ixOf_some h0 hi
    have hlt := (begins_mem (st_mem hj)).2.1
    have hn : nm v = (st zs j : Int) := by unfold nm; rw [if_neg (by omega)]; omega
    rw [hi]
    rw [hn] at hp
    rcases hp with ⟨k, rfl, hk, hek⟩ | ⟨_, hno⟩
    · rw [starts_len] at hk
      rw [nth_starts hk] at hek
      have := st_inj hk hj (by omega)
      rw [this]; rfl
    · exact absurd (nth_starts hj) (hno j (by rw [starts_len]; exact hj))
/-- Every reference of a free object: there is none. -/
theorem free_refs {s : Nat} (hz : ∀ z ∈ zs, (Lit.int .u64 z).wf = true) (hs : s ∈ begins zs 0) (hf : vF (nth zs s) = true) : refWords zs s = [] := by
  obtain ⟨_, h1, h2⟩ := begins_mem hs
  obtain ⟨R, Bd, hR, _, _, _, _, _, f5, _⟩ := spot_facts h2 hz h1
  have := (f5 hf).1
  subst this
  unfold refWords
  rw [hR]; simp
theorem refs_wf {s : Nat} (hz : ∀ z ∈ zs, (Lit.int .u64 z).wf = true) : ∀ v ∈ refWords zs s, 0 ≤ v := fun v hv => (wf_u64.1 (hz v (List.mem_of_mem_drop (List.mem_of_mem_take hv)))).1
/-- Whether all references are good, as the reference asks it. -/
theorem refsOk_iff (hz : ∀ z ∈ zs, (Lit.int .u64 z).wf = true) (hl : zs.length ≤ 256) : refsOk zs = true ↔ ∀ s ∈ begins zs 0, vF (nth zs s) = false → ∀ x ∈ named zs s, x = -1 ∨ x ∈ livesI zs := by
  unfold refsOk refsIn named
  simp only [List.all_eq_true, List.mem_map]
  constructor
  · rintro h s hs _ x ⟨v, hv, rfl⟩
    exact (ix_iff (refs_wf hz v hv) hl).1 (h s hs v hv)
  · intro h s hs v hv
    cases hf : vF (nth zs s)
    · exact (ix_iff (refs_wf hz v hv) hl).2 (h s hs hf _ ⟨v, hv, rfl⟩)
    · rw [free_refs hz hs hf] at hv; cases hv
end
end Go.Proofs.Ytknbbondofijeaa
