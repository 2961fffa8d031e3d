/-
  What a write makes of an arena and of its marking; the contract of package step's Write.
-/
import Derived.Test.YtgekghlmkfkbjaaStepG
import Derived.Test.YtgekghlmkfkbjaaJoinM
namespace Go.Proofs.Ytgekghlmkfkbjaa
open Go.RowKit

/-- Reference number 'r' of the object at 't' names 'z'. -/
def wrL (zs : List Int) (t r : Nat) (z : Int) : List Int := zs.set (t + 1 + r) (z + 1)
theorem begins_same {zs ys : List Int} (hl : ys.length = zs.length) : ∀ {a : Nat}, fine zs a = true → (∀ s ∈ begins zs a, nth ys s = nth zs s) → begins ys a = begins zs a ∧ fine ys a = true := by
  intro a
  induction hk : zs.length - a using Nat.strongRecOn generalizing a with
  | ind k ih =>
    intro hf hs
    by_cases h : a < zs.length
    · cases hst : stepOk zs a
      · rw [fine_bad h hst] at hf; cases hf
      · have h0 := hs a (by rw [begins_step h hst]; exact List.mem_cons_self)
        have hst' : stepOk ys a = true := by unfold stepOk at hst ⊢; rw [h0, hl]; exact hst
        have hp := sLong_pos (nth zs a)
        obtain ⟨i1, i2⟩ := ih (zs.length - (a + sLong (nth zs a))) (by omega) (a := a + sLong (nth zs a)) rfl (by rw [← fine_step h hst]; exact hf) (fun s hm => hs s (by rw [begins_step h hst]; exact List.mem_cons_of_mem _ hm))
        rw [begins_step (by omega) hst', fine_step (by omega) hst', h0, begins_step h hst]
        exact ⟨by rw [i1], i2⟩
    · rw [begins_end (by omega), begins_end (by omega), fine_end (by omega)]
      exact ⟨rfl, rfl⟩
section
variable {zs g b : List Int} {t r : Nat} {z : Int}
/-- What is known of a write that is right. -/
structure WrOk (zs : List Int) (t r : Nat) (z : Int) : Prop where
  hz : ∀ z ∈ zs, (Lit.int .u64 z).wf = true
  ok : arErr zs = 0
  at_ : (t : Int) ∈ livesI zs
  ref : (r : Int) < vR (nth zs t)
  to_ : z = -1 ∨ z ∈ livesI zs
theorem WrOk.facts (h : WrOk zs t r z) : t ∈ begins zs 0 ∧ t + 1 + r < t + sLong (nth zs t) ∧ t + 1 + r < zs.length ∧ r < (refWords zs t).length ∧ -1 ≤ z ∧ z < 256 := by
  obtain ⟨t', e, h1, h2, h3, h4, h5, h6, h7, h8, h9⟩ := live_facts h.hz h.at_
  obtain rfl : t' = t := by omega
  have hr := h.ref
  have h10 := refWords_len (begins_mem h8).2.2
  have h11 : sLong (nth zs t') = longN zs t' := rfl
  refine ⟨h8, by omega, by omega, by rw [h10]; omega, ?_⟩
  rcases h.to_ with h | hz
  · omega
  · have := lives_fit h.ok z hz
    omega
theorem wr_len : (wrL zs t r z).length = zs.length := by unfold wrL; rw [List.length_set]
theorem wr_nth (h : WrOk zs t r z) (k : Nat) : nth (wrL zs t r z) k = if k = t + 1 + r then z + 1 else nth zs k := by
  unfold wrL
  exact nth_set k h.facts.2.2.1
theorem wr_start (h : WrOk zs t r z) {s : Nat} (hs : s ∈ begins zs 0) : nth (wrL zs t r z) s = nth zs s := by
  obtain ⟨h1, h2, h3, _⟩ := h.facts
  rw [wr_nth h, if_neg]
  rintro rfl
  have := begins_one h1 hs (k := t + 1 + r) (by omega) h2 (Nat.le_refl _) (by have := sLong_pos (nth zs (t + 1 + r)); omega)
  omega
theorem wr_begins (h : WrOk zs t r z) : begins (wrL zs t r z) 0 = begins zs 0 ∧ fine (wrL zs t r z) 0 = true :=
  begins_same wr_len (spErr_zero (arErr_zero h.ok).1).2 fun _ hs => wr_start h hs
theorem wr_lives (h : WrOk zs t r z) : livesI (wrL zs t r z) = livesI zs := by
  unfold livesI
  rw [(wr_begins h).1]
  congr 1
  refine List.filter_congr fun s hs => ?_
  unfold isLive
  rw [wr_start h hs]
theorem wr_refs_other (h : WrOk zs t r z) {s : Nat} (hs : s ∈ begins zs 0) (hne : s ≠ t) : refWords (wrL zs t r z) s = refWords zs s := by
  obtain ⟨h1, h2, h3, _⟩ := h.facts
  refine refWords_same wr_len fun k hk1 hk2 => ?_
  rw [wr_nth h, if_neg]
  rintro rfl
  exact hne (begins_one hs h1 hk1 hk2 (by omega) h2)
theorem wr_refs (h : WrOk zs t r z) : refWords (wrL zs t r z) t = (refWords zs t).set r (z + 1) := by
  obtain ⟨h1, h2, h3, h4, _⟩ := h.facts
  have hw := wr_start h h1
  have e1 : (refWords (wrL zs t r z) t).length = (refWords zs t).length := by unfold refWords; rw [hw]; simp [wr_len]
  refine nth_ext (by rw [List.length_set]; exact e1) fun j hj => ?_
  rw [e1] at hj
  have hj' : j < (vR (nth zs t)).toNat := by unfold refWords at hj; simp at hj; omega
  rw [refWords_at (by rw [hw]; exact hj'), wr_nth h, nth_set _ h4, refWords_at hj']
  by_cases e : j = r
  · subst e; simp
  · rw [if_neg e, if_neg (by omega)]
theorem wr_ok (h : WrOk zs t r z) : arErr (wrL zs t r z) = 0 := by
  obtain ⟨h1, h2, h3, h4, h5, h6⟩ := h.facts
  obtain ⟨a1, a2, a3⟩ := arErr_iff.1 h.ok
  refine arErr_iff.2 ⟨by rw [wr_len]; exact a1, (wr_begins h).2, refsOk_char.2 fun s hs v hv => ?_⟩
  rw [(wr_begins h).1] at hs ⊢
  have old : ∀ v, (v = 0 ∨ ∃ t ∈ begins zs 0, vF (nth zs t) = false ∧ v = (t : Int) + 1) → (v = 0 ∨ ∃ u ∈ begins zs 0, vF (nth (wrL zs t r z) u) = false ∧ v = (u : Int) + 1) := fun v hv => hv.imp id fun ⟨u, hu, hf, e⟩ => ⟨u, hu, by rw [wr_start h hu]; exact hf, e⟩
  by_cases e : s = t
  · subst e
    rw [wr_refs h] at hv
    rcases List.mem_or_eq_of_mem_set hv with hv | hv
    · exact old v (refsOk_char.1 a3 s hs v hv)
    · refine old v ?_
      rcases h.to_ with hz | hz
      · exact .inl (by omega)
      · obtain ⟨u, hu, hf, e⟩ := lives_mem.1 hz
        exact .inr ⟨u, hu, hf, by omega⟩
  · rw [wr_refs_other h hs e] at hv
    exact old v (refsOk_char.1 a3 s hs v hv)
theorem wr_wf (h : WrOk zs t r z) : ∀ y ∈ wrL zs t r z, (Lit.int .u64 y).wf = true := fun y hy => by
  obtain ⟨_, _, _, _, h5, h6⟩ := h.facts
  unfold wrL at hy
  rcases List.mem_or_eq_of_mem_set hy with hy | hy
  · exact h.hz y hy
  · rw [hy]; exact wf_u64.2 (by omega)
theorem wr_next_other (h : WrOk zs t r z) {y : Int} (hy : y ∈ livesI zs) (hne : y ≠ t) : nxOf (wrL zs t r z) y = nxOf zs y := by
  obtain ⟨s, hs, _, rfl⟩ := lives_mem.1 hy
  unfold nxOf named
  rw [Int.toNat_natCast, wr_refs_other h hs (by omega)]
theorem wr_named (h : WrOk zs t r z) : named (wrL zs t r z) t = (named zs t).set r z := by
  obtain ⟨_, _, _, _, h5, h6⟩ := h.facts
  have e : nm (z + 1) = z := by unfold nm; split <;> omega
  unfold named
  rw [wr_refs h]
  show ((refWords zs t).set r (z + 1)).map nm = ((refWords zs t).map nm).set r z
  rw [List.map_set, e]
theorem wr_next (h : WrOk zs t r z) : ∀ y ∈ nxOf (wrL zs t r z) (t : Int), y ∈ nxOf zs (t : Int) ∨ y = z := fun y hy => by
  unfold nxOf at hy ⊢
  rw [Int.toNat_natCast, wr_named h] at hy
  rw [Int.toNat_natCast]
  exact List.mem_or_eq_of_mem_set hy
/-- A write keeps all right. -/
theorem wr_tri (h : WrOk zs t r z) (ht : TriOk (nxOf zs) (livesI zs) g b) : TriOk (nxOf (wrL zs t r z)) (livesI (wrL zs t r z)) (writeG (t : Int) z g b) b := by
  rw [wr_lives h]
  exact write_ok (lives_fit h.ok) (h.to_.imp (fun h => by omega) id) (fun y hy hne => wr_next_other h hy hne) (wr_next h) ht
end

/-- The error of a write. -/
def writeE (zs g b : List Int) (a r z : Int) : Int :=
  if triE zs g b ≠ 0 then triE zs g b else if a ∉ livesI zs then 5 else if r < 0 ∨ vR (nth zs a.toNat) ≤ r ∨ (z ≠ -1 ∧ z ∉ livesI zs) then 4 else 0
/-- The state behind it. -/
def writeT (zs g b : List Int) (a r z : Int) : Tri3 := if writeE zs g b a r z = 0 then (wrL zs a.toNat r.toNat z, writeG a z g b, b) else ([], [], [])
section
variable {zs g b : List Int} {a r z : Int}
theorem writeE_tri (h : triE zs g b ≠ 0) : writeE zs g b a r z = triE zs g b := if_pos h
theorem writeE_none (h : triE zs g b = 0) (ha : a ∉ livesI zs) : writeE zs g b a r z = 5 := by unfold writeE; rw [if_neg (by simp [h]), if_pos ha]
theorem writeE_range (h : triE zs g b = 0) (ha : a ∈ livesI zs) (hr : r < 0 ∨ vR (nth zs a.toNat) ≤ r ∨ (z ≠ -1 ∧ z ∉ livesI zs)) : writeE zs g b a r z = 4 := by unfold writeE; rw [if_neg (by simp [h]), if_neg (by simpa using ha), if_pos hr]
theorem writeE_ok (h : triE zs g b = 0) (ha : a ∈ livesI zs) (hr : ¬ (r < 0 ∨ vR (nth zs a.toNat) ≤ r ∨ (z ≠ -1 ∧ z ∉ livesI zs))) : writeE zs g b a r z = 0 := by unfold writeE; rw [if_neg (by simp [h]), if_neg (by simpa using ha), if_neg hr]
theorem writeE_zero (h : writeE zs g b a r z = 0) : triE zs g b = 0 ∧ a ∈ livesI zs ∧ 0 ≤ r ∧ r < vR (nth zs a.toNat) ∧ (z = -1 ∨ z ∈ livesI zs) := by
  unfold writeE at h
  split at h
  · rename_i h0; exact absurd h h0
  · rename_i h0
    split at h
    · omega
    · rename_i h1
      split at h
      · omega
      · rename_i h2
        rw [not_or, not_or] at h2
        refine ⟨by simpa using h0, by simpa using h1, by omega, by omega, ?_⟩
        by_cases e : z = -1
        · exact .inl e
        · right
          by_cases e2 : z ∈ livesI zs
          · exact e2
          · exact absurd ⟨e, e2⟩ h2.2.2
theorem writeT_bad (h : writeE zs g b a r z ≠ 0) : writeT zs g b a r z = ([], [], []) := if_neg h
theorem writeT_ok (h : writeE zs g b a r z = 0) : writeT zs g b a r z = (wrL zs a.toNat r.toNat z, writeG a z g b, b) := if_pos h
theorem write_facts (hz : ∀ z ∈ zs, (Lit.int .u64 z).wf = true) (h : writeE zs g b a r z = 0) : ∃ t k : Nat, a = t ∧ r = k ∧ WrOk zs t k z ∧ TriOk (nxOf zs) (livesI zs) g b := by
  obtain ⟨h1, h2, h3, h4, h5⟩ := writeE_zero h
  have h6 := (triE_iff hz).1 h1
  obtain ⟨t, rfl⟩ : ∃ t : Nat, a = t := ⟨a.toNat, by have := lives_pos a h2; omega⟩
  obtain ⟨k, rfl⟩ : ∃ k : Nat, r = k := ⟨r.toNat, by omega⟩
  rw [Int.toNat_natCast] at h4
  exact ⟨t, k, rfl, rfl, ⟨hz, h6.1, h2, h4, h5⟩, h6.2⟩
/-- The colours behind a write. -/
theorem col_paint_grey (h : TriOk (nxOf zs) (livesI zs) g b) (hfit : ∀ y ∈ livesI zs, 0 ≤ y ∧ y < 256) (hz : z ∈ livesI zs) (hb : z ∉ b) : colL zs (paintC (colOf g b) [z] 1) 1 = risingTo (g ++ [z]) 256 := rise_ext colL_rise (risingTo_rises _ _) fun x => by
  rw [colL_mem, risingTo_mem, List.mem_append, List.mem_singleton]
  unfold paintC
  constructor
  · rintro ⟨h1, h2⟩
    refine ⟨?_, hfit x h1⟩
    by_cases e : x = z
    · exact .inr e
    · rw [if_neg (by simpa using e), co_of] at h2
      by_cases e2 : x ∈ b
      · rw [if_pos e2] at h2; omega
      · rw [if_neg e2] at h2
        by_cases e3 : x ∈ g
        · exact .inl e3
        · rw [if_neg e3] at h2; omega
  · rintro ⟨h1, _⟩
    rcases h1 with h1 | h1
    · refine ⟨h.gl x h1, ?_⟩
      by_cases e : x = z
      · simp [e]
      · rw [if_neg (by simpa using e), co_of, if_neg (h.apart x h1), if_pos h1]
    · subst h1
      exact ⟨hz, by simp⟩
theorem col_paint_black (h : TriOk (nxOf zs) (livesI zs) g b) (hb : z ∉ b) : colL zs (paintC (colOf g b) [z] 1) 2 = b := rise_ext colL_rise h.br fun x => by
  rw [colL_mem]
  unfold paintC
  constructor
  · rintro ⟨_, h2⟩
    by_cases e : x = z
    · simp [e] at h2
    · rw [if_neg (by simpa using e), co_of] at h2
      by_cases e2 : x ∈ b
      · exact e2
      · rw [if_neg e2] at h2
        split at h2 <;> omega
  · intro h1
    refine ⟨h.bl x h1, ?_⟩
    rw [if_neg (by rintro hm; rw [List.mem_singleton] at hm; exact hb (hm ▸ h1)), co_of, if_pos h1]
end

/-- A word of a row of the call's own is written. -/
theorem Own.setWord {k : IntKind} {e : TypeId} {w : World} {base n c j : Nat} {A : Option Addr} {xs : List Int} (h : Own k e w base (.slice A n c) xs) (hj : j < n) {x : Int} (hx : (Lit.int k x).wf = true) :
    ∃ g, A = some ⟨g, 0, none⟩ ∧ base ≤ g ∧ g < w.heap.size ∧ w.cell? ⟨g, j, none⟩ = some (.int k (nth xs j)) ∧ w.frozen? ⟨g, j, none⟩ = false ∧ Own k e (w.setCell ⟨g, j, none⟩ (.int k x)) base (.slice A n c) (xs.set j x) ∧
      (∀ g' t cs, t ≠ e → Box w g' t cs → g' ≠ g) ∧ ∀ (P : Program) q kk gm N f, MapV P q kk w gm N f → gm ≠ g := by
  obtain ⟨A', c', hv, hxc, harr⟩ := h.arr
  injection hv with hA hn hc
  subst hA hc
  obtain ⟨⟨hl, h2⟩, hw⟩ := h
  rcases h2 with ⟨he, h0⟩ | ⟨g, cap, cur, he, hg, hh, hnc, hcm, hcs, htk⟩
  · exfalso; omega
  · injection he with he1 he2 he3
    subst he1 he3
    rw [hn] at hj
    have hlt : g < w.heap.size := by
      rcases Nat.lt_or_ge g w.heap.size with h | h
      · exact h
      · rw [Array.getElem?_eq_none h] at hh; cases hh
    obtain ⟨b, off, e1, _, hcell⟩ := harr.2.2 (by omega)
    injection e1 with e1
    injection e1 with e1 e2 _
    subst e1 e2
    have h3 := hcell j hj
    rw [Nat.zero_add] at h3
    have hjc : j < cur.size := by omega
    refine ⟨g, rfl, hg, hlt, h3, by simp [World.frozen?, hh], ⟨⟨by simp, .inr ⟨g, c, cur.setIfInBounds j (.int k x), by rw [hn, List.length_set], hg, ?_, by rw [List.length_set]; exact hnc, hcm, by simpa using hcs, ?_⟩⟩, fun y hy => ?_⟩, fun g' t cs hne hb e => ?_, fun P q kk gm N f hm e => ?_⟩
    · simp [World.setCell, Array.getElem?_modify, hh]
    · rw [List.length_set, Array.toList_setIfInBounds, List.map_set, ← htk, Nat.mul_one, List.take_set]
    · rcases List.mem_or_eq_of_mem_set hy with h | h
      · exact hw y h
      · rw [h]; exact hx
    · subst e
      unfold Box at hb
      rw [hh] at hb
      injection hb with hb
      injection hb with _ hb
      exact hne hb.symm
    · subst e
      obtain ⟨D, ⟨es, c, h1, _⟩, _⟩ := hm
      rw [hh] at h1
      cases h1


/-- What Write answers. -/
def WriteP (zs g b : List Int) (a r z : Int) (w : World) (e : Ending) (w' : World) : Prop := ∃ A n c G ng cg K nb cb, e = .returned (.tuple #[.agg #[.slice A n c, .slice G ng cg, .slice K nb cb], .int .i64 (writeE zs g b a r z)]) ∧ Below w.heap.size w w' ∧ TriV w' A G K n c ng nb (writeT zs g b a r z)
def WriteF (zs g b : List Int) (a r z : Int) (w : World) (e : Ending) (w' : World) : Prop := ∃ A n c G ng cg K nb cb, e = .returned (.tuple #[.agg #[.slice A n c, .slice G ng cg, .slice K nb cb], .int .i64 (writeE zs g b a r z)]) ∧ Below w.heap.size w w' ∧ TriV w' A G K n c ng nb (writeT zs g b a r z) ∧
  SpareI .u64 69 w.heap.size w' A c ∧ SpareI .i64 3 w.heap.size w' G cg ∧ SpareI .i64 3 w.heap.size w' K cb
section
variable {w wx wx' : World} {g4 n : Nat} {W S : Option Addr} {cw gm q sc N N' : Nat} {ws zs : List Int} {co co' : Int → Int}
end
theorem writeG_yes {a z : Int} {g b : List Int} (h1 : a ∈ b) (h2 : 0 ≤ z) (h3 : z ∉ g) (h4 : z ∉ b) : writeG a z g b = risingTo (g ++ [z]) 256 := if_pos ⟨h1, h2, h3, h4⟩
theorem writeG_no {a z : Int} {g b : List Int} (h : ¬ (a ∈ b ∧ 0 ≤ z ∧ z ∉ g ∧ z ∉ b)) : writeG a z g b = g := if_neg h

end Go.Proofs.Ytgekghlmkfkbjaa
