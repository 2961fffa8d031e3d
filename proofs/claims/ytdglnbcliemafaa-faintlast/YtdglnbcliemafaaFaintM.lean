/-
  Ephemerons and who is told, over no program of their own: what is kept, what is left, the errors; the reference's rounds; with fewer, with none, with those that are left.
-/
import Derived.Test.YtdglnbcliemafaaTintP
import Derived.Test.YtdglnbcliemafaaRefT
namespace Go.Proofs.Ytdglnbcliemafaa
open Go.RowKit

/-- The values of the pairs with this key; what one keeps with pairs. -/
def pairV (ps : List (Int × Int)) (x : Int) : List Int := (ps.filter fun p => decide (p.1 = x)).map (·.2)
def fNx (zs : List Int) (ps : List (Int × Int)) (x : Int) : List Int := nxOf zs x ++ pairV ps x
/-- What is kept, in order. -/
def faintL (zs fr : List Int) (ps : List (Int × Int)) : List Int := (livesI zs).filter fun x => decide (x ∈ (marking (fNx zs ps) 256 (livesI zs) fr).1.on)
/-- The words that pairs name. -/
def pairW (ps : List (Int × Int)) : List Int := ps.flatMap fun p => [p.1, p.2]
/-- The error; what Keep, Clear answer. -/
def faintE (zs fr : List Int) (ps : List (Int × Int)) : Int := if fromE zs fr ≠ 0 then fromE zs fr else if 32 < ps.length then 2 else fromE zs (pairW ps)
def faintO (zs fr : List Int) (ps : List (Int × Int)) : List Int := if faintE zs fr ps = 0 then faintL zs fr ps else []
def clearL (zs fr : List Int) (ps : List (Int × Int)) : List (Int × Int) := ps.filter fun p => decide (p.1 ∈ faintL zs fr ps)
def clearO (zs fr : List Int) (ps : List (Int × Int)) : List (Int × Int) := if faintE zs fr ps = 0 then clearL zs fr ps else []
/-- Who is told; Last's error and answers. -/
def toldL (zs fr q : List Int) : List Int := q.filter fun x => decide (x ∉ reachL zs fr)
def lastE (zs fr q : List Int) : Int := if fromE zs fr ≠ 0 then fromE zs fr else if 32 < q.length then 2 else fromE zs q
def lastT (zs fr q : List Int) : List Int := if lastE zs fr q = 0 then toldL zs fr q else []
def lastA (zs fr q : List Int) : List Int := if lastE zs fr q = 0 then reachL zs (fr ++ toldL zs fr q) else []

section
variable {zs fr q : List Int} {ps : List (Int × Int)} {x y : Int}
theorem pairV_mem : y ∈ pairV ps x ↔ (x, y) ∈ ps := by
  unfold pairV
  rw [List.mem_map]
  constructor
  · rintro ⟨⟨u, v⟩, h, rfl⟩
    obtain ⟨h1, h2⟩ := List.mem_filter.1 h
    simp at h2
    subst h2
    exact h1
  · exact fun h => ⟨(x, y), List.mem_filter.2 ⟨h, by simp⟩, rfl⟩
theorem fNx_mem : y ∈ fNx zs ps x ↔ y ∈ nxOf zs x ∨ (x, y) ∈ ps := by unfold fNx; rw [List.mem_append, pairV_mem]
theorem pairW_mem : x ∈ pairW ps ↔ ∃ p ∈ ps, x = p.1 ∨ x = p.2 := by
  unfold pairW
  rw [List.mem_flatMap]
  simp
theorem faintE_from (h : fromE zs fr ≠ 0) : faintE zs fr ps = fromE zs fr := if_pos h
theorem faintE_many (h : fromE zs fr = 0) (h1 : 32 < ps.length) : faintE zs fr ps = 2 := by unfold faintE; rw [if_neg (by simp [h]), if_pos h1]
theorem faintE_ok (h : fromE zs fr = 0) (h1 : ¬ 32 < ps.length) : faintE zs fr ps = fromE zs (pairW ps) := by unfold faintE; rw [if_neg (by simp [h]), if_neg h1]
theorem faintE_zero (h : faintE zs fr ps = 0) : fromE zs fr = 0 ∧ ps.length ≤ 32 ∧ fromE zs (pairW ps) = 0 := by
  unfold faintE at h
  split at h
  · rename_i h0; exact absurd h h0
  · rename_i h0
    split at h
    · omega
    · rename_i h1
      exact ⟨by simpa using h0, by omega, h⟩
theorem faintO_bad (h : faintE zs fr ps ≠ 0) : faintO zs fr ps = [] := if_neg h
theorem faintO_ok (h : faintE zs fr ps = 0) : faintO zs fr ps = faintL zs fr ps := if_pos h
theorem clearO_bad (h : faintE zs fr ps ≠ 0) : clearO zs fr ps = [] := if_neg h
theorem clearO_ok (h : faintE zs fr ps = 0) : clearO zs fr ps = clearL zs fr ps := if_pos h
theorem lastE_from (h : fromE zs fr ≠ 0) : lastE zs fr q = fromE zs fr := if_pos h
theorem lastE_many (h : fromE zs fr = 0) (h1 : 32 < q.length) : lastE zs fr q = 2 := by unfold lastE; rw [if_neg (by simp [h]), if_pos h1]
theorem lastE_ok (h : fromE zs fr = 0) (h1 : ¬ 32 < q.length) : lastE zs fr q = fromE zs q := by unfold lastE; rw [if_neg (by simp [h]), if_neg h1]
theorem lastE_zero (h : lastE zs fr q = 0) : fromE zs fr = 0 ∧ q.length ≤ 32 ∧ fromE zs q = 0 := by
  unfold lastE at h
  split at h
  · rename_i h0; exact absurd h h0
  · rename_i h0
    split at h
    · omega
    · rename_i h1
      exact ⟨by simpa using h0, by omega, h⟩
theorem lastT_bad (h : lastE zs fr q ≠ 0) : lastT zs fr q = [] := if_neg h
theorem lastT_ok (h : lastE zs fr q = 0) : lastT zs fr q = toldL zs fr q := if_pos h
theorem lastA_bad (h : lastE zs fr q ≠ 0) : lastA zs fr q = [] := if_neg h
theorem lastA_ok (h : lastE zs fr q = 0) : lastA zs fr q = reachL zs (fr ++ toldL zs fr q) := if_pos h
theorem toldL_mem : x ∈ toldL zs fr q ↔ x ∈ q ∧ x ∉ reachL zs fr := by unfold toldL; rw [List.mem_filter, decide_eq_true_eq]
theorem toldL_len : (toldL zs fr q).length ≤ q.length := List.length_filter_le _ _
theorem clearL_mem {p : Int × Int} : p ∈ clearL zs fr ps ↔ p ∈ ps ∧ p.1 ∈ faintL zs fr ps := by unfold clearL; rw [List.mem_filter, decide_eq_true_eq]
theorem clearL_len : (clearL zs fr ps).length ≤ ps.length := List.length_filter_le _ _
theorem faintL_rise : (faintL zs fr ps).Pairwise (· < ·) := List.Pairwise.filter _ lives_rise
theorem faintL_lives (h : x ∈ faintL zs fr ps) : x ∈ livesI zs := (List.mem_filter.1 h).1
theorem faintL_len (h : zs.length ≤ 256) : (faintL zs fr ps).length ≤ 256 := Nat.le_trans (List.length_filter_le _ _) (lives_len h)
section
variable (hz : ∀ z ∈ zs, (Lit.int .u64 z).wf = true)
include hz
theorem fNx_closed (hp : fromE zs (pairW ps) = 0) : Closed (fNx zs ps) (livesI zs) := fun x hx y hy => by
  obtain ⟨h1, h2⟩ := fromE_zero hp
  rcases fNx_mem.1 hy with hy | hy
  · exact lives_closed hz h1 x hx y hy
  · exact .inr (h2 y (pairW_mem.2 ⟨_, hy, .inr rfl⟩))
theorem faintL_mem (h : fromE zs fr = 0) (hp : fromE zs (pairW ps) = 0) : x ∈ faintL zs fr ps ↔ Reach (fNx zs ps) fr x := by
  obtain ⟨h1, h2⟩ := fromE_zero h
  obtain ⟨h3, _, h4, _⟩ := marking_tells (room := 256) (lives_len (arena_len h1)) (fNx_closed hz hp) h2 lives_pos
  unfold faintL
  rw [List.mem_filter, decide_eq_true_eq, h3]
  exact ⟨fun h => h.2, fun h => ⟨h4 x ((h3 x).2 h), h⟩⟩
/-- With none: what is reached. -/
theorem faint_none (h : fromE zs fr = 0) : faintL zs fr [] = reachL zs fr := rise_ext faintL_rise reachL_rise fun x => by
  have hp : fromE zs (pairW []) = 0 := fromE_ok (fromE_zero h).1 (by intro x hx; cases hx)
  rw [faintL_mem hz h hp, reachL_mem hz h]
  constructor
  · exact reach_least (fun x hx => .base hx) fun x hx y hy h0 => by
      rcases fNx_mem.1 hy with hy | hy
      · exact .step hx hy h0
      · cases hy
  · exact reach_least (fun x hx => .base hx) fun x hx y hy h0 => .step hx (fNx_mem.2 (.inl hy)) h0
/-- With more pairs no less. -/
theorem faint_more {ps' : List (Int × Int)} (h : fromE zs fr = 0) (hp : fromE zs (pairW ps) = 0) (hs : ∀ p ∈ ps', p ∈ ps) (hx : x ∈ faintL zs fr ps') : x ∈ faintL zs fr ps := by
  have hp' : fromE zs (pairW ps') = 0 := fromE_ok (fromE_zero h).1 fun x hx => by
    obtain ⟨p, h1, h2⟩ := pairW_mem.1 hx
    exact (fromE_zero hp).2 x (pairW_mem.2 ⟨p, hs p h1, h2⟩)
  rw [faintL_mem hz h hp'] at hx
  rw [faintL_mem hz h hp]
  exact reach_least (fun x hx => .base hx) (fun x hx y hy h0 => .step hx (fNx_mem.2 ((fNx_mem.1 hy).imp id (hs _))) h0) hx
omit hz in
theorem pairs_sub {ps' : List (Int × Int)} (hp : fromE zs (pairW ps) = 0) (hs : ∀ p ∈ ps', p ∈ ps) : fromE zs (pairW ps') = 0 := fromE_ok (fromE_zero hp).1 fun x hx => by
  obtain ⟨p, h1, h2⟩ := pairW_mem.1 hx
  exact (fromE_zero hp).2 x (pairW_mem.2 ⟨p, hs p h1, h2⟩)
/-- What is kept is closed. -/
theorem faint_from (h : fromE zs fr = 0) (hp : fromE zs (pairW ps) = 0) (hx : x ∈ fr) : x ∈ faintL zs fr ps := (faintL_mem hz h hp).2 (.base hx)
theorem faint_next (h : fromE zs fr = 0) (hp : fromE zs (pairW ps) = 0) (hx : x ∈ faintL zs fr ps) (hy : y ∈ nxOf zs x) (h0 : 0 ≤ y) : y ∈ faintL zs fr ps := (faintL_mem hz h hp).2 (.step ((faintL_mem hz h hp).1 hx) (fNx_mem.2 (.inl hy)) h0)
theorem faint_pair (h : fromE zs fr = 0) (hp : fromE zs (pairW ps) = 0) {p : Int × Int} (hm : p ∈ ps) (hx : p.1 ∈ faintL zs fr ps) : p.2 ∈ faintL zs fr ps :=
  (faintL_mem hz h hp).2 (.step ((faintL_mem hz h hp).1 hx) (fNx_mem.2 (.inr hm)) (lives_pos _ ((fromE_zero hp).2 _ (pairW_mem.2 ⟨p, hm, .inr rfl⟩))))
theorem faint_least (h : fromE zs fr = 0) (hp : fromE zs (pairW ps) = 0) {S : Int → Prop} (h1 : ∀ x ∈ fr, S x) (h2 : ∀ x ∈ livesI zs, S x → ∀ y ∈ nxOf zs x, 0 ≤ y → S y) (h3 : ∀ p ∈ ps, S p.1 → S p.2) (hx : x ∈ faintL zs fr ps) : S x := by
  have h4 := (faintL_mem hz h hp).1 hx
  have : S x ∧ x ∈ livesI zs := reach_least (S := fun x => S x ∧ x ∈ livesI zs) (fun x hx => ⟨h1 x hx, (fromE_zero h).2 x hx⟩) (fun x hx y hy h0 => by
    have hl := (fNx_closed hz hp x hx.2 y hy).resolve_left (by omega)
    rcases fNx_mem.1 hy with hy | hy
    · exact ⟨h2 x hx.2 hx.1 y hy h0, hl⟩
    · exact ⟨h3 (x, y) hy hx.1, hl⟩) h4
  exact this.1
/-- With those that are left: the same. -/
theorem faint_left (h : fromE zs fr = 0) (hp : fromE zs (pairW ps) = 0) : faintL zs fr (clearL zs fr ps) = faintL zs fr ps := rise_ext faintL_rise faintL_rise fun x => by
  have hs : ∀ p ∈ clearL zs fr ps, p ∈ ps := fun p hp => (clearL_mem.1 hp).1
  have hp' := pairs_sub hp hs
  constructor
  · exact faint_more hz h hp hs
  · intro hx
    have : x ∈ faintL zs fr (clearL zs fr ps) ∧ x ∈ faintL zs fr ps := faint_least hz h hp (S := fun x => x ∈ faintL zs fr (clearL zs fr ps) ∧ x ∈ faintL zs fr ps) (fun x hx => ⟨faint_from hz h hp' hx, faint_from hz h hp hx⟩)
      (fun x _ hx y hy h0 => ⟨faint_next hz h hp' hx.1 hy h0, faint_next hz h hp hx.2 hy h0⟩) (fun p hm hx => ⟨faint_pair hz h hp' (clearL_mem.2 ⟨hm, hx.2⟩) hx.1, faint_pair hz h hp hm hx.2⟩) hx
    exact this.1
end

/-- Who is told of the first 'k'. -/
def toldTo (L q : List Int) (k : Nat) : List Int := (q.take k).filter fun x => decide (x ∉ L)
theorem toldTo_more {L : List Int} {k : Nat} (h : k < q.length) (hk : nth q k ∉ L) : toldTo L q (k + 1) = toldTo L q k ++ [nth q k] := by
  unfold toldTo
  rw [List.take_succ_eq_append_getElem h, List.filter_append, ← nth_get _ _ h]
  simp [hk]
theorem toldTo_skip {L : List Int} {k : Nat} (h : k < q.length) (hk : nth q k ∈ L) : toldTo L q (k + 1) = toldTo L q k := by
  unfold toldTo
  rw [List.take_succ_eq_append_getElem h, List.filter_append, ← nth_get _ _ h]
  simp [hk]
theorem toldTo_all : toldTo (reachL zs fr) q q.length = toldL zs fr q := by unfold toldTo toldL; rw [List.take_length]
theorem toldTo_len {L : List Int} {k : Nat} : (toldTo L q k).length ≤ q.length := Nat.le_trans (List.length_filter_le _ _) (List.length_take_le' _ _)
/-- The error as a law finds it. -/
def headE (zs fr : List Int) (np : Nat) : Int := if fromE zs fr = 0 ∧ 32 < np then 2 else fromE zs fr
theorem lastE_head : lastE zs fr q = if headE zs fr q.length = 0 then fromE zs q else headE zs fr q.length := by
  by_cases h : fromE zs fr = 0
  · by_cases h1 : 32 < q.length
    · have e : headE zs fr q.length = 2 := if_pos ⟨h, h1⟩
      rw [e, lastE_many h h1]; rfl
    · have e : headE zs fr q.length = fromE zs fr := if_neg fun h => h1 h.2
      rw [e, lastE_ok h h1, if_pos h]
  · have e : headE zs fr q.length = fromE zs fr := if_neg fun h' => h h'.1
    rw [e, lastE_from h, if_neg h]
/-- Told once more: nobody. -/
theorem told_again (hz : ∀ z ∈ zs, (Lit.int .u64 z).wf = true) (h : lastE zs fr q = 0) : lastE zs (fr ++ toldL zs fr q) q = 0 ∧ toldL zs (fr ++ toldL zs fr q) q = [] := by
  obtain ⟨h1, h2, h3⟩ := lastE_zero h
  have hf : fromE zs (fr ++ toldL zs fr q) = 0 := fromE_ok (fromE_zero h1).1 fun x hx => by
    rcases List.mem_append.1 hx with hx | hx
    · exact (fromE_zero h1).2 x hx
    · exact (fromE_zero h3).2 x (toldL_mem.1 hx).1
  refine ⟨by rw [lastE_ok hf (by omega)]; exact h3, List.eq_nil_iff_forall_not_mem.2 fun x hx => ?_⟩
  obtain ⟨hx, hn⟩ := toldL_mem.1 hx
  refine hn ((reachL_mem hz hf).2 ?_)
  by_cases hr : x ∈ reachL zs fr
  · exact reach_more (fun x hx => List.mem_append_left _ hx) ((reachL_mem hz h1).1 hr)
  · exact .base (List.mem_append_right _ (toldL_mem.2 ⟨hx, hr⟩))

/-- The reference's rounds. -/
def addF (zs X : List Int) (p : Int × Int) : List Int := if p.1 ∈ X then reachL zs (X ++ [p.2]) else X
def inTo (zs : List Int) (ps : List (Int × Int)) (X : List Int) : Nat → List Int
  | 0 => X
  | i + 1 => addF zs (inTo zs ps X i) (nthG ps i)
def roundF (zs : List Int) (ps : List (Int × Int)) (fr : List Int) : Nat → List Int
  | 0 => reachL zs fr
  | r + 1 => inTo zs ps (roundF zs ps fr r) ps.length
/-- A list as it is between. -/
structure FOk (zs fr : List Int) (ps : List (Int × Int)) (X : List Int) : Prop where
  rise : X.Pairwise (· < ·)
  live : ∀ x ∈ X, x ∈ livesI zs
  has : ∀ x ∈ fr, x ∈ X
  next : ∀ x ∈ X, ∀ y ∈ nxOf zs x, 0 ≤ y → y ∈ X
  sound : ∀ x ∈ X, x ∈ faintL zs fr ps
section
variable (hz : ∀ z ∈ zs, (Lit.int .u64 z).wf = true) (h : fromE zs fr = 0) (hp : fromE zs (pairW ps) = 0)
include hz h hp
theorem FOk.zero : FOk zs fr ps (reachL zs fr) where
  rise := reachL_rise
  live := reachL_lives
  has := fun x hx => (reachL_mem hz h).2 (.base hx)
  next := fun x hx y hy h0 => (reachL_mem hz h).2 (.step ((reachL_mem hz h).1 hx) hy h0)
  sound := fun x hx => by
    rw [← faint_none hz h] at hx
    exact faint_more hz h hp (by intro p hp; cases hp) hx
theorem FOk.add {X : List Int} (hX : FOk zs fr ps X) {p : Int × Int} (hm : p ∈ ps) : FOk zs fr ps (addF zs X p) ∧ (∀ x ∈ X, x ∈ addF zs X p) ∧ (p.1 ∈ X → p.2 ∈ addF zs X p) ∧ ((p.1 ∈ X → p.2 ∈ X) → addF zs X p = X) := by
  unfold addF
  by_cases hk : p.1 ∈ X
  · rw [if_pos hk]
    have hl2 : p.2 ∈ livesI zs := (fromE_zero hp).2 _ (pairW_mem.2 ⟨p, hm, .inr rfl⟩)
    have hf : fromE zs (X ++ [p.2]) = 0 := fromE_ok (fromE_zero h).1 fun x hx => by
      rcases List.mem_append.1 hx with hx | hx
      · exact hX.live x hx
      · rw [List.mem_singleton.1 hx]; exact hl2
    have hsub : ∀ x ∈ X, x ∈ reachL zs (X ++ [p.2]) := fun x hx => (reachL_mem hz hf).2 (.base (List.mem_append_left _ hx))
    refine ⟨⟨reachL_rise, reachL_lives, fun x hx => hsub x (hX.has x hx), fun x hx y hy h0 => (reachL_mem hz hf).2 (.step ((reachL_mem hz hf).1 hx) hy h0), fun x hx => ?_⟩, hsub, fun _ => (reachL_mem hz hf).2 (.base (by simp)), fun hc => ?_⟩
    · refine reach_least (S := fun x => x ∈ faintL zs fr ps) (fun x hx => ?_) (fun x hx y hy h0 => faint_next hz h hp hx hy h0) ((reachL_mem hz hf).1 hx)
      rcases List.mem_append.1 hx with hx | hx
      · exact hX.sound x hx
      · rw [List.mem_singleton.1 hx]; exact faint_pair hz h hp hm (hX.sound _ hk)
    · refine rise_ext reachL_rise hX.rise fun x => ⟨fun hx => ?_, hsub x⟩
      refine reach_least (S := fun x => x ∈ X) (fun x hx => ?_) (fun x hx y hy h0 => hX.next x hx y hy h0) ((reachL_mem hz hf).1 hx)
      rcases List.mem_append.1 hx with hx | hx
      · exact hx
      · rw [List.mem_singleton.1 hx]; exact hc hk
  · rw [if_neg hk]
    exact ⟨hX, fun x hx => hx, fun h => absurd h hk, fun _ => rfl⟩
theorem FOk.inTo {X : List Int} (hX : FOk zs fr ps X) : ∀ i, i ≤ ps.length → FOk zs fr ps (inTo zs ps X i) ∧ (∀ x ∈ X, x ∈ inTo zs ps X i) ∧ (∀ j, j < i → (nthG ps j).1 ∈ X → (nthG ps j).2 ∈ inTo zs ps X i) ∧ ((∀ p ∈ ps, p.1 ∈ X → p.2 ∈ X) → inTo zs ps X i = X)
  | 0, _ => ⟨hX, fun x hx => hx, fun j hj => absurd hj (by omega), fun _ => rfl⟩
  | i + 1, hi => by
    obtain ⟨h1, h2, h3, h4⟩ := FOk.inTo hX i (by omega)
    have hm : nthG ps i ∈ ps := by rw [nthG_get _ _ (by omega)]; exact List.getElem_mem _
    obtain ⟨a1, a2, a3, a4⟩ := h1.add hz h hp hm
    refine ⟨a1, fun x hx => a2 x (h2 x hx), fun j hj hk => ?_, fun hc => ?_⟩
    · rcases Nat.lt_succ_iff_lt_or_eq.1 hj with hj | rfl
      · exact a2 _ (h3 j hj hk)
      · exact a3 (h2 _ hk)
    · show addF zs (Go.Proofs.Ytdglnbcliemafaa.inTo zs ps X i) (nthG ps i) = X
      rw [h4 hc] at a4 ⊢
      exact a4 (hc _ hm)
/-- How many keys are in it. -/
def keysN (ps : List (Int × Int)) (X : List Int) : Nat := (ps.filter fun p => decide (p.1 ∈ X)).length
omit hz h hp in
theorem keysN_le {X : List Int} : keysN ps X ≤ ps.length := List.length_filter_le _ _
omit hz h hp in
theorem keysN_lt : ∀ {ps : List (Int × Int)} {X Y : List Int}, (∀ x ∈ X, x ∈ Y) → ∀ p ∈ ps, p.1 ∈ Y → p.1 ∉ X → keysN ps X < keysN ps Y
  | [], _, _, _, p, hp, _, _ => by cases hp
  | p :: ps, X, Y, hs, q, hq, h1, h2 => by
    have hle : ∀ ps : List (Int × Int), keysN ps X ≤ keysN ps Y := fun ps => by
      induction ps with
      | nil => exact Nat.le_refl _
      | cons p ps ih =>
        unfold keysN at *
        rw [List.filter_cons, List.filter_cons]
        by_cases hx : p.1 ∈ X
        · rw [if_pos (by simpa using hx), if_pos (by simpa using hs _ hx)]
          simp; omega
        · rw [if_neg (by simpa using hx)]
          split
          · simp; omega
          · exact ih
    have hl := hle ps
    rcases List.mem_cons.1 hq with rfl | hq
    · unfold keysN at *
      rw [List.filter_cons, List.filter_cons, if_neg (by simpa using h2), if_pos (by simpa using h1)]
      simp; omega
    · have ih := keysN_lt hs q hq h1 h2
      unfold keysN at *
      rw [List.filter_cons, List.filter_cons]
      by_cases hx : p.1 ∈ X
      · rw [if_pos (by simpa using hx), if_pos (by simpa using hs _ hx)]
        simp; omega
      · rw [if_neg (by simpa using hx)]
        split
        · simp; omega
        · exact ih
theorem round_ok : ∀ r, FOk zs fr ps (roundF zs ps fr r) ∧ ((∀ p ∈ ps, p.1 ∈ roundF zs ps fr r → p.2 ∈ roundF zs ps fr r) ∨ r < keysN ps (roundF zs ps fr r))
  | 0 => by
    refine ⟨FOk.zero hz h hp, ?_⟩
    by_cases hc : ∀ p ∈ ps, p.1 ∈ roundF zs ps fr 0 → p.2 ∈ roundF zs ps fr 0
    · exact .inl hc
    · right
      obtain ⟨p, hm, hk, _⟩ : ∃ p, p ∈ ps ∧ p.1 ∈ roundF zs ps fr 0 ∧ p.2 ∉ roundF zs ps fr 0 := by
        by_cases hc' : ∃ p, p ∈ ps ∧ p.1 ∈ roundF zs ps fr 0 ∧ p.2 ∉ roundF zs ps fr 0
        · exact hc'
        · exact absurd (fun p hm hk => Classical.byContradiction fun hn => hc' ⟨p, hm, hk, hn⟩) hc
      unfold keysN
      exact List.length_pos_of_mem (List.mem_filter.2 ⟨hm, by simpa using hk⟩)
  | r + 1 => by
    obtain ⟨h1, h2⟩ := round_ok r
    obtain ⟨a1, a2, a3, a4⟩ := h1.inTo hz h hp ps.length (Nat.le_refl _)
    refine ⟨a1, ?_⟩
    rcases h2 with h2 | h2
    · left
      show ∀ p ∈ ps, p.1 ∈ inTo zs ps (roundF zs ps fr r) ps.length → _ ∈ inTo zs ps (roundF zs ps fr r) ps.length
      rw [a4 h2]
      exact h2
    · by_cases hc : ∀ p ∈ ps, p.1 ∈ roundF zs ps fr (r + 1) → p.2 ∈ roundF zs ps fr (r + 1)
      · exact .inl hc
      · right
        obtain ⟨p, hm, hk, hv⟩ : ∃ p, p ∈ ps ∧ p.1 ∈ roundF zs ps fr (r + 1) ∧ p.2 ∉ roundF zs ps fr (r + 1) := by
          by_cases hc' : ∃ p, p ∈ ps ∧ p.1 ∈ roundF zs ps fr (r + 1) ∧ p.2 ∉ roundF zs ps fr (r + 1)
          · exact hc'
          · exact absurd (fun p hm hk => Classical.byContradiction fun hn => hc' ⟨p, hm, hk, hn⟩) hc
        obtain ⟨j, hj, e⟩ := List.getElem_of_mem hm
        have hn : p.1 ∉ roundF zs ps fr r := fun hk' => hv (by
          have := a3 j hj
          rw [nthG_get _ _ hj, e] at this
          exact this hk')
        have := keysN_lt a2 p hm hk hn
        exact Nat.lt_of_le_of_lt h2 this
/-- In as many rounds as there are pairs all is kept that must be. -/
theorem rounds_all : roundF zs ps fr ps.length = faintL zs fr ps := by
  obtain ⟨h1, h2⟩ := round_ok hz h hp ps.length
  have h3 : ∀ p ∈ ps, p.1 ∈ roundF zs ps fr ps.length → p.2 ∈ roundF zs ps fr ps.length := h2.resolve_right (by have := keysN_le (ps := ps) (X := roundF zs ps fr ps.length); omega)
  exact rise_ext h1.rise faintL_rise fun x => ⟨h1.sound x, faint_least hz h hp (S := fun x => x ∈ roundF zs ps fr ps.length) h1.has (fun x _ hx y hy h0 => h1.next x hx y hy h0) h3⟩
end
end
end Go.Proofs.Ytdglnbcliemafaa
