/-
  What a write makes of an arena and of its marking; the contract of package step's Write.
-/
import Derived.Test.YthdnfocemchgjaaStepG
import Derived.Test.YthdnfocemchgjaaJoinM
namespace Go.Proofs.Ythdnfocemchgjaa
open Go.RowKit

/-- Reference number 'r' of the object at 't' names 'z'. -/
def wrL (zs : List Int) (t r : Nat) (z : Int) : List Int := zs.set (t + 1 + r) (z + 1)
theorem begins_same {zs ys : List Int} (hl : ys.length = zs.length) : ∀ {a : Nat}, fine zs a = true → (∀ s ∈ begins zs a, nth ys s = nth zs s) → begins ys a = begins zs a ∧ fine ys a = true := by
  intro a
  induction hk : zs.length - a using Nat.strongRecOn generalizing a with
  | ind k ih =>
    intro hf hs
    by_cases h : a < zs.length
    · cases hst : stepOk zs a
      · rw [fine_bad h hst] at hf; cases hf
      · have h0 := hs a (by rw [begins_step h hst]; exact List.mem_cons_self)
        have hst' : stepOk ys a = true := by unfold stepOk at hst ⊢; rw [h0, hl]; exact hst
        have hp := sLong_pos (nth zs a)
        obtain ⟨i1, i2⟩ := ih (zs.length - (a + sLong (nth zs a))) (by omega) (a := a + sLong (nth zs a)) rfl (by rw [← fine_step h hst]; exact hf) (fun s hm => hs s (by rw [begins_step h hst]; exact List.mem_cons_of_mem _ hm))
        rw [begins_step (by omega) hst', fine_step (by omega) hst', h0, begins_step h hst]
        exact ⟨by rw [i1], i2⟩
    · rw [begins_end (by omega), begins_end (by omega), fine_end (by omega)]
      exact ⟨rfl, rfl⟩
section
variable {zs g b : List Int} {t r : Nat} {z : Int}
/-- What is known of a write that is right. -/
structure WrOk (zs : List Int) (t r : Nat) (z : Int) : Prop where
  hz : ∀ z ∈ zs, (Lit.int .u64 z).wf = true
  ok : arErr zs = 0
  at_ : (t : Int) ∈ livesI zs
  ref : (r : Int) < vR (nth zs t)
  to_ : z = -1 ∨ z ∈ livesI zs
theorem WrOk.facts (h : WrOk zs t r z) : t ∈ begins zs 0 ∧ t + 1 + r < t + sLong (nth zs t) ∧ t + 1 + r < zs.length ∧ r < (refWords zs t).length ∧ -1 ≤ z ∧ z < 256 := by
  obtain ⟨t', e, h1, h2, h3, h4, h5, h6, h7, h8, h9⟩ := live_facts h.hz h.at_
  obtain rfl : t' = t := by omega
  have hr := h.ref
  have h10 := refWords_len (begins_mem h8).2.2
  have h11 : sLong (nth zs t') = longN zs t' := rfl
  refine ⟨h8, by omega, by omega, by rw [h10]; omega, ?_⟩
  rcases h.to_ with h | hz
  · omega
  · have := lives_fit h.ok z hz
    omega
theorem wr_len : (wrL zs t r z).length = zs.length := by unfold wrL; rw [List.length_set]
theorem wr_nth (h : WrOk zs t r z) (k : Nat) : nth (wrL zs t r z) k = if k = t + 1 + r then z + 1 else nth zs k := by
  unfold wrL
  exact nth_set k h.facts.2.2.1
theorem wr_start (h : WrOk zs t r z) {s : Nat} (hs : s ∈ begins zs 0) : nth (wrL zs t r z) s = nth zs s := by
  obtain ⟨h1, h2, h3, _⟩ := h.facts
  rw [wr_nth h, if_neg]
  rintro rfl
  have := begins_one h1 hs (k := t + 1 + r) (by omega) h2 (Nat.le_refl _) (by have := sLong_pos (nth zs (t + 1 + r)); omega)
  omega
theorem wr_begins (h : WrOk zs t r z) : begins (wrL zs t r z) 0 = begins zs 0 ∧ fine (wrL zs t r z) 0 = true :=
  begins_same wr_len (spErr_zero (arErr_zero h.ok).1).2 fun _ hs => wr_start h hs
theorem wr_lives (h : WrOk zs t r z) : livesI (wrL zs t r z) = livesI zs := by
  unfold livesI
  rw [(wr_begins h).1]
  congr 1
  refine List.filter_congr fun s hs => ?_
  unfold isLive
  rw [wr_start h hs]
theorem wr_refs_other (h : WrOk zs t r z) {s : Nat} (hs : s ∈ begins zs 0) (hne : s ≠ t) : refWords (wrL zs t r z) s = refWords zs s := by
  obtain ⟨h1, h2, h3, _⟩ := h.facts
  refine refWords_same wr_len fun k hk1 hk2 => ?_
  rw [wr_nth h, if_neg]
  rintro rfl
  exact hne (begins_one hs h1 hk1 hk2 (by omega) h2)
theorem wr_refs (h : WrOk zs t r z) : refWords (wrL zs t r z) t = (refWords zs t).set r (z + 1) := by
  obtain ⟨h1, h2, h3, h4, _⟩ := h.facts
  have hw := wr_start h h1
  have e1 : (refWords (wrL zs t r z) t).length = (refWords zs t).length := by unfold refWords; rw [hw]; simp [wr_len]
  refine nth_ext (by rw [List.length_set]; exact e1) fun j hj => ?_
  rw [e1] at hj
  have hj' : j < (vR (nth zs t)).toNat := by unfold refWords at hj; simp at hj; omega
  rw [refWords_at (by rw [hw]; exact hj'), wr_nth h, nth_set _ h4, refWords_at hj']
  by_cases e : j = r
  · subst e; simp
  · rw [if_neg e, if_neg (by omega)]
theorem wr_ok (h : WrOk zs t r z) : arErr (wrL zs t r z) = 0 := by
  obtain ⟨h1, h2, h3, h4, h5, h6⟩ := h.facts
  obtain ⟨a1, a2, a3⟩ := arErr_iff.1 h.ok
  refine arErr_iff.2 ⟨by rw [wr_len]; exact a1, (wr_begins h).2, refsOk_char.2 fun s hs v hv => ?_⟩
  rw [(wr_begins h).1] at hs ⊢
  have old : ∀ v, (v = 0 ∨ ∃ t ∈ begins zs 0, vF (nth zs t) = false ∧ v = (t : Int) + 1) → (v = 0 ∨ ∃ u ∈ begins zs 0, vF (nth (wrL zs t r z) u) = false ∧ v = (u : Int) + 1) := fun v hv => hv.imp id fun ⟨u, hu, hf, e⟩ => ⟨u, hu, by rw [wr_start h hu]; exact hf, e⟩
  by_cases e : s = t
  · subst e
    rw [wr_refs h] at hv
    rcases List.mem_or_eq_of_mem_set hv with hv | hv
    · exact old v (refsOk_char.1 a3 s hs v hv)
    · refine old v ?_
      rcases h.to_ with hz | hz
      · exact .inl (by omega)
      · obtain ⟨u, hu, hf, e⟩ := lives_mem.1 hz
        exact .inr ⟨u, hu, hf, by omega⟩
  · rw [wr_refs_other h hs e] at hv
    exact old v (refsOk_char.1 a3 s hs v hv)
theorem wr_wf (h : WrOk zs t r z) : ∀ y ∈ wrL zs t r z, (Lit.int .u64 y).wf = true := fun y hy => by
  obtain ⟨_, _, _, _, h5, h6⟩ := h.facts
  unfold wrL at hy
  rcases List.mem_or_eq_of_mem_set hy with hy | hy
  · exact h.hz y hy
  · rw [hy]; exact wf_u64.2 (by omega)
theorem wr_next_other (h : WrOk zs t r z) {y : Int} (hy : y ∈ livesI zs) (hne : y ≠ t) : nxOf (wrL zs t r z) y = nxOf zs y := by
  obtain ⟨s, hs, _, rfl⟩ := lives_mem.1 hy
  unfold nxOf named
  rw [Int.toNat_natCast, wr_refs_other h hs (by omega)]
theorem wr_named (h : WrOk zs t r z) : named (wrL zs t r z) t = (named zs t).set r z := by
  obtain ⟨_, _, _, _, h5, h6⟩ := h.facts
  have e : nm (z + 1) = z := by unfold nm; split <;> omega
  unfold named
  rw [wr_refs h]
  show ((refWords zs t).set r (z + 1)).map nm = ((refWords zs t).map nm).set r z
  rw [List.map_set, e]
theorem wr_next (h : WrOk zs t r z) : ∀ y ∈ nxOf (wrL zs t r z) (t : Int), y ∈ nxOf zs (t : Int) ∨ y = z := fun y hy => by
  unfold nxOf at hy ⊢
  rw [Int.toNat_natCast, wr_named h] at hy
  rw [Int.toNat_natCast]
  exact List.mem_or_eq_of_mem_set hy
/-- A write keeps all right. -/
theorem wr_tri (h : WrOk zs t r z) (ht : TriOk (nxOf zs) (livesI zs) g b) : TriOk (nxOf (wrL zs t r z)) (livesI (wrL zs t r z)) (writeG (t : Int) z g b) b := by
  rw [wr_lives h]
  exact write_ok (lives_fit h.ok) (h.to_.imp (fun h => by omega) id) (fun y hy hne => wr_next_other h hy hne) (wr_next h) ht
end

/-- The error of a write. -/
def writeE (zs g b : List Int) (a r z : Int) : Int :=
  if triE zs g b ≠ 0 then triE zs g b else if a ∉ livesI zs then 5 else if r < 0 ∨ vR (nth zs a.toNat) ≤ r ∨ (z ≠ -1 ∧ z ∉ livesI zs) then 4 else 0
/-- The state behind it. -/
def writeT (zs g b : List Int) (a r z : Int) : Tri3 := if writeE zs g b a r z = 0 then (wrL zs a.toNat r.toNat z, writeG a z g b, b) else ([], [], [])
section
variable {zs g b : List Int} {a r z : Int}
theorem writeE_tri (h : triE zs g b ≠ 0) : writeE zs g b a r z = triE zs g b := if_pos h
theorem writeE_none (h : triE zs g b = 0) (ha : a ∉ livesI zs) : writeE zs g b a r z = 5 := by unfold writeE; rw [if_neg (by simp [h]), if_pos ha]
theorem writeE_range (h : triE zs g b = 0) (ha : a ∈ livesI zs) (hr : r < 0 ∨ vR (nth zs a.toNat) ≤ r ∨ (z ≠ -1 ∧ z ∉ livesI zs)) : writeE zs g b a r z = 4 := by unfold writeE; rw [if_neg (by simp [h]), if_neg (by simpa using ha), if_pos hr]
theorem writeE_ok (h : triE zs g b = 0) (ha : a ∈ livesI zs) (hr : ¬ (r < 0 ∨ vR (nth zs a.toNat) ≤ r ∨ (z ≠ -1 ∧ z ∉ livesI zs))) : writeE zs g b a r z = 0 := by unfold writeE; rw [if_neg (by simp [h]), if_neg (by simpa using ha), if_neg hr]
theorem writeE_zero (h : writeE zs g b a r z = 0) : triE zs g b = 0 ∧ a ∈ livesI zs ∧ 0 ≤ r ∧ r < vR (nth zs a.toNat) ∧ (z = -1 ∨ z ∈ livesI zs) := by
  unfold writeE at h
  split at h
  · rename_i h0; exact absurd h h0
  · rename_i h0
    split at h
    · omega
    · rename_i h1
      split at h
      · omega
      · rename_i h2
        rw [not_or, not_or] at h2
        refine ⟨by simpa using h0, by simpa using h1, by omega, by omega, ?_⟩
        by_cases e : z = -1
        · exact .inl e
        · right
          by_cases e2 : z ∈ livesI zs
          · exact e2
          · exact absurd ⟨e, e2⟩ h2.2.2
theorem writeT_bad (h : writeE zs g b a r z ≠ 0) : writeT zs g b a r z = ([], [], []) := if_neg h
theorem writeT_ok (h : writeE zs g b a r z = 0) : writeT zs g b a r z = (wrL zs a.toNat r.toNat z, writeG a z g b, b) := if_pos h
theorem write_facts (hz : ∀ z ∈ zs, (Lit.int .u64 z).wf = true) (h : writeE zs g b a r z = 0) : ∃ t k : Nat, a = t ∧ r = k ∧ WrOk zs t k z ∧ TriOk (nxOf zs) (livesI zs) g b := by
  obtain ⟨h1, h2, h3, h4, h5⟩ := writeE_zero h
  have h6 := (triE_iff hz).1 h1
  obtain ⟨t, rfl⟩ : ∃ t : Nat, a = t := ⟨a.toNat, by have := lives_pos a h2; omega⟩
  obtain ⟨k, rfl⟩ : ∃ k : Nat, r = k := ⟨r.toNat, by omega⟩
  rw [Int.toNat_natCast] at h4
  exact ⟨t, k, rfl, rfl, ⟨hz, h6.1, h2, h4, h5⟩, h6.2⟩
/-- The colours behind a write. -/
theorem col_paint_grey (h : TriOk (nxOf zs) (livesI zs) g b) (hfit : ∀ y ∈ livesI zs, 0 ≤ y ∧ y < 256) (hz : z ∈ livesI zs) (hb : z ∉ b) : colL zs (paintC (colOf g b) [z] 1) 1 = risingTo (g ++ [z]) 256 := rise_ext colL_rise (risingTo_rises _ _) fun x => by
  rw [colL_mem, risingTo_mem, List.mem_append, List.mem_singleton]
  unfold paintC
  constructor
  · rintro ⟨h1, h2⟩
    refine ⟨?_, hfit x h1⟩
    by_cases e : x = z
    · exact .inr e
    · rw [if_neg (by simpa using e), co_of] at h2
      by_cases e2 : x ∈ b
      · rw [if_pos e2] at h2; omega
      · rw [if_neg e2] at h2
        by_cases e3 : x ∈ g
        · exact .inl e3
        · rw [if_neg e3] at h2; omega
  · rintro ⟨h1, _⟩
    rcases h1 with h1 | h1
    · refine ⟨h.gl x h1, ?_⟩
      by_cases e : x = z
      · simp [e]
      · rw [if_neg (by simpa using e), co_of, if_neg (h.apart x h1), if_pos h1]
    · subst h1
      exact ⟨hz, by simp⟩
theorem col_paint_black (h : TriOk (nxOf zs) (livesI zs) g b) (hb : z ∉ b) : colL zs (paintC (colOf g b) [z] 1) 2 = b := rise_ext colL_rise h.br fun x => by
  rw [colL_mem]
  unfold paintC
  constructor
  · rintro ⟨_, h2⟩
    by_cases e : x = z
    · simp [e] at h2
    · rw [if_neg (by simpa using e), co_of] at h2
      by_cases e2 : x ∈ b
      · exact e2
      · rw [if_neg e2] at h2
        split at h2 <;> omega
  · intro h1
    refine ⟨h.bl x h1, ?_⟩
    rw [if_neg (by rintro hm; rw [List.mem_singleton] at hm; exact hb (hm ▸ h1)), co_of, if_pos h1]
end

/-- A word of a row of the call's own is written. -/
theorem Own.setWord {k : IntKind} {e : TypeId} {w : World} {base n c j : Nat} {A : Option Addr} {xs : List Int} (h : Own k e w base (.slice A n c) xs) (hj : j < n) {x : Int} (hx : (Lit.int k x).wf = true) :
    ∃ g, A = some ⟨g, 0, none⟩ ∧ base ≤ g ∧ g < w.heap.size ∧ w.cell? ⟨g, j, none⟩ = some (.int k (nth xs j)) ∧ w.frozen? ⟨g, j, none⟩ = false ∧ Own k e (w.setCell ⟨g, j, none⟩ (.int k x)) base (.slice A n c) (xs.set j x) ∧
      (∀ g' t cs, t ≠ e → Box w g' t cs → g' ≠ g) ∧ ∀ (P : Program) q kk gm N f, MapV P q kk w gm N f → gm ≠ g := by
  obtain ⟨A', c', hv, hxc, harr⟩ := h.arr
  injection hv with hA hn hc
  subst hA hc
  obtain ⟨⟨hl, h2⟩, hw⟩ := h
  rcases h2 with ⟨he, h0⟩ | ⟨g, cap, cur, he, hg, hh, hnc, hcm, hcs, htk⟩
  · exfalso; omega
  · injection he with he1 he2 he3
    subst he1 he3
    rw [hn] at hj
    have hlt : g < w.heap.size := by
      rcases Nat.lt_or_ge g w.heap.size with h | h
      · exact h
      · rw [Array.getElem?_eq_none h] at hh; cases hh
    obtain ⟨b, off, e1, _, hcell⟩ := harr.2.2 (by omega)
    injection e1 with e1
    injection e1 with e1 e2 _
    subst e1 e2
    have h3 := hcell j hj
    rw [Nat.zero_add] at h3
    have hjc : j < cur.size := by omega
    refine ⟨g, rfl, hg, hlt, h3, by simp [World.frozen?, hh], ⟨⟨by simp, .inr ⟨g, c, cur.setIfInBounds j (.int k x), by rw [hn, List.length_set], hg, ?_, by rw [List.length_set]; exact hnc, hcm, by simpa using hcs, ?_⟩⟩, fun y hy => ?_⟩, fun g' t cs hne hb e => ?_, fun P q kk gm N f hm e => ?_⟩
    · simp [World.setCell, Array.getElem?_modify, hh]
    · rw [List.length_set, Array.toList_setIfInBounds, List.map_set, ← htk, Nat.mul_one, List.take_set]
    · rcases List.mem_or_eq_of_mem_set hy with h | h
      · exact hw y h
      · rw [h]; exact hx
    · subst e
      unfold Box at hb
      rw [hh] at hb
      injection hb with hb
      injection hb with _ hb
      exact hne hb.symm
    · subst e
      obtain ⟨D, ⟨es, c, h1, _⟩, _⟩ := hm
      rw [hh] at h1
      cases h1


/-- What Write answers. -/
def WriteP (zs g b : List Int) (a r z : Int) (w : World) (e : Ending) (w' : World) : Prop := ∃ A n c G ng cg K nb cb, e = .returned (.tuple #[.agg #[.slice A n c, .slice G ng cg, .slice K nb cb], .int .i64 (writeE zs g b a r z)]) ∧ Below w.heap.size w w' ∧ TriV w' A G K n c ng nb (writeT zs g b a r z)
def WriteF (zs g b : List Int) (a r z : Int) (w : World) (e : Ending) (w' : World) : Prop := ∃ A n c G ng cg K nb cb, e = .returned (.tuple #[.agg #[.slice A n c, .slice G ng cg, .slice K nb cb], .int .i64 (writeE zs g b a r z)]) ∧ Below w.heap.size w w' ∧ TriV w' A G K n c ng nb (writeT zs g b a r z) ∧
  SpareI .u64 55 w.heap.size w' A c ∧ SpareI .i64 3 w.heap.size w' G cg ∧ SpareI .i64 3 w.heap.size w' K cb
/-- What holds in the middle of Write. -/
structure WrI (w : World) (g4 n : Nat) (W S : Option Addr) (cw gm q sc N : Nat) (ws zs : List Int) (co : Int → Int) (wx : World) : Prop where
  below : Below w.heap.size w wx
  res : Box wx (w.heap.size + 1) 53 #[.slice none 0 0, .slice none 0 0, .slice none 0 0]
  mkb : Box wx g4 105 #[.slice W n cw, .map (some gm), .slice S q sc]
  mks : MkS wx W S n q gm N ws zs co
  own : OwnF .u64 55 wx (w.heap.size + 2) (.slice W n cw) ws
  o1 : w.heap.size + 2 ≤ gm
  o2 : gm < g4
section
variable {w wx wx' : World} {g4 n : Nat} {W S : Option Addr} {cw gm q sc N N' : Nat} {ws zs : List Int} {co co' : Int → Int}
theorem WrI.next (h : WrI w g4 n W S cw gm q sc N ws zs co wx) (hb : Below wx.heap.size wx wx') : WrI w g4 n W S cw gm q sc N ws zs co wx' :=
  ⟨h.below.trans (hb.mono h.below.size), h.res.below hb h.res.lt, h.mkb.below hb h.mkb.lt, h.mks.next hb, h.own.below hb (Nat.le_refl _), h.o1, h.o2⟩
theorem WrI.only (h : WrI w g4 n W S cw gm q sc N ws zs co wx) (ho : OnlyM gm wx wx') (hm : MkS wx' W S n q gm N' ws zs co') : WrI w g4 n W S cw gm q sc N' ws zs co' wx' := by
  have o1 := h.o1
  have o2 := h.o2
  exact ⟨h.below.trans (ho.below (by omega) h.below.size), ho.box h.res (by omega), ho.box h.mkb (by omega), hm, h.own.onlyM h.mks.map ho, o1, o2⟩
theorem WrI.cells (h : WrI w g4 n W S cw gm q sc N ws zs co wx) : wx.cell? ⟨g4, 0, none⟩ = some (.slice W n cw) ∧ wx.cell? ⟨g4, 1, none⟩ = some (.map (some gm)) ∧ wx.cell? ⟨g4, 2, none⟩ = some (.slice S q sc) := ⟨h.mkb.cell 0, h.mkb.cell 1, h.mkb.cell 2⟩
theorem WrI.rcells (h : WrI w g4 n W S cw gm q sc N ws zs co wx) : wx.cell? ⟨w.heap.size + 1, 0, none⟩ = some (.slice none 0 0) ∧ wx.cell? ⟨w.heap.size + 1, 1, none⟩ = some (.slice none 0 0) ∧ wx.cell? ⟨w.heap.size + 1, 2, none⟩ = some (.slice none 0 0) ∧
    wx.frozen? ⟨w.heap.size + 1, 0, none⟩ = false ∧ wx.frozen? ⟨w.heap.size + 1, 1, none⟩ = false ∧ wx.frozen? ⟨w.heap.size + 1, 2, none⟩ = false := ⟨h.res.cell 0, h.res.cell 1, h.res.cell 2, h.res.soft 0, h.res.soft 1, h.res.soft 2⟩
/-- A word of the marking's own is written. -/
theorem WrI.word (h : WrI w g4 n W S cw gm q sc N ws zs co wx) {j : Nat} (hj : j < n) {x : Int} (hx : (Lit.int .u64 x).wf = true) :
    ∃ gW, W = some ⟨gW, 0, none⟩ ∧ wx.cell? ⟨gW, j, none⟩ = some (.int .u64 (nth ws j)) ∧ wx.frozen? ⟨gW, j, none⟩ = false ∧ WrI w g4 n W S cw gm q sc N (ws.set j x) zs co (wx.setCell ⟨gW, j, none⟩ (.int .u64 x)) ∧
      ∀ g' t cs, t ≠ 55 → Box wx g' t cs → Box (wx.setCell ⟨gW, j, none⟩ (.int .u64 x)) g' t cs := by
  obtain ⟨gW, hA, hb, hlt, hc, hf, ho, hbx, hmp⟩ := h.own.own.setWord hj hx
  obtain ⟨gW2, hA2, _, _, _, _, hoF⟩ := h.own.setWordF hj hx
  rw [hA] at hA2
  injection hA2 with hA2
  injection hA2 with hA2
  subst hA2
  have hk : ∀ g' t cs, t ≠ 55 → Box wx g' t cs → Box (wx.setCell ⟨gW, j, none⟩ (.int .u64 x)) g' t cs := fun g' t cs ht hg => hg.setOther (hbx g' t cs ht hg) _ _
  have hgm := hmp _ _ _ _ _ _ h.mks.map
  refine ⟨gW, hA, hc, hf, ⟨below_set h.below (by omega) _ _, hk _ _ _ (by decide) h.res, hk _ _ _ (by decide) h.mkb, ?_, hoF, h.o1, h.o2⟩, hk⟩
  obtain ⟨W', c', hv, _, hW⟩ := ho.arr
  injection hv with e1 e2 e3
  rw [← e1, ← e2] at hW
  refine ⟨hW, h.mks.map.setOther (fun e => hgm e.symm) _ _, ⟨h.mks.starts.1, h.mks.starts.2.1, fun hn => ?_⟩, h.mks.big⟩
  obtain ⟨bb, off, e, hlt2, hcs⟩ := h.mks.starts.2.2 hn
  refine ⟨bb, off, e, by simpa [World.setCell] using hlt2, fun i hi => ?_⟩
  have h1 := hcs i hi
  rw [World.cell?_setCell_other]
  · exact h1
  · intro e'
    rw [← e', hc] at h1
    injection h1 with h1
    injection h1 with h1
    cases h1
end
theorem writeG_yes {a z : Int} {g b : List Int} (h1 : a ∈ b) (h2 : 0 ≤ z) (h3 : z ∉ g) (h4 : z ∉ b) : writeG a z g b = risingTo (g ++ [z]) 256 := if_pos ⟨h1, h2, h3, h4⟩
theorem writeG_no {a z : Int} {g b : List Int} (h : ¬ (a ∈ b ∧ 0 ≤ z ∧ z ∉ g ∧ z ∉ b)) : writeG a z g b = g := if_neg h

set_option maxRecDepth 16000 in
set_option maxHeartbeats 8000000 in
theorem stepWriteF_any (A G K : Option Addr) (n c ng cg nb cb : Nat) (zs g b : List Int) (a r z : Int) (w : World) (wa : (Lit.int .i64 a).wf = true) (wz : (Lit.int .i64 z).wf = true) (h : TriIn w A G K n c ng nb zs g b) :
    Calls Try.prog 30 #[.agg #[.slice A n c, .slice G ng cg, .slice K nb cb], .int .i64 a, .int .i64 r, .int .i64 z] w (WriteF zs g b a r z w) := by
  have b1 := (Below.refl _ w).alloc (Nat.le_refl _) (.cells #[.slice A n c, .slice G ng cg, .slice K nb cb] 53)
  have BX := Box.new w 53 #[.slice A n c, .slice G ng cg, .slice K nb cb]
  have b2 := (Below.refl _ (w.alloc (.cells #[.slice A n c, .slice G ng cg, .slice K nb cb] 53))).alloc (Nat.le_refl _) (.cells #[.slice none 0 0, .slice none 0 0, .slice none 0 0] 53)
  have BY := Box.new (w.alloc (.cells #[.slice A n c, .slice G ng cg, .slice K nb cb] 53)) 53 #[.slice none 0 0, .slice none 0 0, .slice none 0 0]
  have hs1 : (w.alloc (.cells #[.slice A n c, .slice G ng cg, .slice K nb cb] 53)).heap.size = w.heap.size + 1 := by simp
  have hs2 : ((w.alloc (.cells #[.slice A n c, .slice G ng cg, .slice K nb cb] 53)).alloc (.cells #[.slice none 0 0, .slice none 0 0, .slice none 0 0] 53)).heap.size = w.heap.size + 2 := by simp
  rw [hs1] at BY
  have BX2 := BX.below b2 BX.lt
  have HR := Lib.hid (stepRead_any A G K n c ng cg nb cb zs g b _ ((h.next b1).next b2))
  have HB := Lib.hid (b1.trans (b2.mono b1.size))
  have HX := Lib.hid BX2
  have HY := Lib.hid BY
  have HZ := Lib.hid h.arena.2.1
  have HN := Lib.hid h.hn
  have HS2 := Lib.hid hs2
  have WA := Lib.hid wa
  have WZ := Lib.hid wz
  clear b1 BX b2 BY hs1 BX2 h hs2 wa wz
  unfold RdP at HR
  unfold WriteF
  go_enter Try.func30, Try.ntmps30
  go_wp2_with fail
  generalize ((w.alloc (.cells #[.slice A n c, .slice G ng cg, .slice K nb cb] 53)).alloc (.cells #[.slice none 0 0, .slice none 0 0, .slice none 0 0] 53)) = w1 at *
  have a0 : w1.cell? ⟨w.heap.size, 0, none⟩ = some (.slice A n c) := HX.out.cell 0
  have a1 : w1.cell? ⟨w.heap.size, 1, none⟩ = some (.slice G ng cg) := HX.out.cell 1
  have a2 : w1.cell? ⟨w.heap.size, 2, none⟩ = some (.slice K nb cb) := HX.out.cell 2
  go_wp2_with fail
  refine HR.out.mono ?_
  rintro e w2 ⟨b2, hcase⟩
  have HB2 := Lib.hid (HB.out.trans (b2.mono HB.out.size))
  have HY2 := Lib.hid (HY.out.below b2 HY.out.lt)
  have HSZ := Lib.hid HB2.out.size
  have HS12 := Lib.hid b2.size
  clear a0 a1 a2 b2 HR HX HY
  rcases hcase with ⟨h0, rfl⟩ | ⟨h0, W, cw, gm, S, q, sc, N, rfl, hM, hN, hgm, hO⟩
  · have HE0 := Lib.hid (writeE_tri (a := a) (r := r) (z := z) h0)
    have HT := Lib.hid (writeT_bad (zs := zs) (g := g) (b := b) (a := a) (r := r) (z := z) (by rw [HE0.out]; exact h0))
    have hb : (triE zs g b != 0) = true := by simpa using h0
    have res3 := HY2.out.alloc (.cells #[.slice none 0 0, .map none, .slice none 0 0] 105)
    have HB3 := Lib.hid (HB2.out.alloc HSZ.out (.cells #[.slice none 0 0, .map none, .slice none 0 0] 105))
    have HR3 := Lib.hid res3
    have e0 : (w2.alloc (.cells #[.slice none 0 0, .map none, .slice none 0 0] 105)).cell? ⟨w.heap.size + 1, 0, none⟩ = some (.slice none 0 0) := res3.cell 0
    have e1 : (w2.alloc (.cells #[.slice none 0 0, .map none, .slice none 0 0] 105)).cell? ⟨w.heap.size + 1, 1, none⟩ = some (.slice none 0 0) := res3.cell 1
    have e2 : (w2.alloc (.cells #[.slice none 0 0, .map none, .slice none 0 0] 105)).cell? ⟨w.heap.size + 1, 2, none⟩ = some (.slice none 0 0) := res3.cell 2
    have s0 := res3.soft 0
    have s1 := res3.soft 1
    have s2 := res3.soft 2
    unfold markZ
    clear h0 res3
    obtain ⟨E, hE⟩ : ∃ E, triE zs g b = E := ⟨_, rfl⟩
    rw [hE] at hb ⊢
    have HE := Lib.hid (HE0.out.trans hE)
    clear hE
    go_wp2
    obtain ⟨z1, z2, _, _⟩ := set3 HB3.out HR3.out (by omega : w.heap.size ≤ w.heap.size + 1) (.slice none 0 0) (.slice none 0 0) (.slice none 0 0)
    generalize ((((w2.alloc (.cells #[.slice none 0 0, .map none, .slice none 0 0] 105)).setCell ⟨w.heap.size + 1, 0, none⟩ (.slice none 0 0)).setCell ⟨w.heap.size + 1, 1, none⟩ (.slice none 0 0)).setCell ⟨w.heap.size + 1, 2, none⟩ (.slice none 0 0)) = W5 at *
    have x0 : W5.cell? ⟨w.heap.size + 1, 0, none⟩ = some (.slice none 0 0) := z2.cell 0
    have x1 : W5.cell? ⟨w.heap.size + 1, 1, none⟩ = some (.slice none 0 0) := z2.cell 1
    have x2 : W5.cell? ⟨w.heap.size + 1, 2, none⟩ = some (.slice none 0 0) := z2.cell 2
    refine bodyPost_ret (v := .tuple #[.agg #[.slice none 0 0, .slice none 0 0, .slice none 0 0], .int .i64 E]) (by simp [results, Try.results30, go_sem, x0, x1, x2]) rfl ⟨none, 0, 0, none, 0, 0, none, 0, 0, by rw [HE.out], z1, by rw [HT.out]; exact TriV.zero, SpareI.nil, SpareI.nil, SpareI.nil⟩
  · have H0 := Lib.hid h0
    have HOK := Lib.hid ((triE_iff HZ.out).1 h0)
    have mk3 := Box.new w2 105 #[.slice W n cw, .map (some gm), .slice S q sc]
    have b3 := (Below.refl _ w2).alloc (Nat.le_refl _) (.cells #[.slice W n cw, .map (some gm), .slice S q sc] 105)
    have HI := Lib.hid (show WrI w w2.heap.size n W S cw gm q sc N zs zs (colOf g b) (w2.alloc (.cells #[.slice W n cw, .map (some gm), .slice S q sc] 105)) from
      ⟨HB2.out.trans (b3.mono HSZ.out), HY2.out.below b3 HY2.out.lt, mk3, hM.next b3, (hO.lessF (by have := HS2.out; omega)).below b3 (Nat.le_refl _), by have := HS2.out; omega, hM.map.lt⟩)
    have HNN := Lib.hid hN
    have hlk := HI.out.mks.map.lookOk objT WA.out
    obtain ⟨k0, k1, k2⟩ := HI.out.cells
    rw [mobOf_isSome] at hlk
    clear h0 hM hN hgm hO mk3 b3 HB2 HY2 HB
    by_cases ha : a ∈ livesI zs
    · have HA := Lib.hid ha
      rw [mobOf_in ha, show decide (a ∈ livesI zs) = true by simpa using ha] at hlk
      unfold mobV at hlk
      simp only [Option.getD_some] at hlk
      obtain ⟨t, ht, ht1, ht2, ht3, ht4, ht5, ht6, ht7, ht8, ht9⟩ := live_facts HZ.out ha
      subst ht
      have hn := HI.out.mks.words.1
      have HBIG := Lib.hid HI.out.mks.big
      have HNZ := Lib.hid hn
      rw [Int.toNat_natCast] at hlk
      obtain ⟨R, hR⟩ : ∃ R, vR (nth zs t) = R := ⟨_, rfl⟩
      have HRR := Lib.hid hR
      rw [hR] at hlk ht2 ht4 ht6
      obtain ⟨CC, hCC⟩ : ∃ CC, colOf g b (t : Int) = CC := ⟨_, rfl⟩
      have HCC := Lib.hid hCC
      rw [hCC] at hlk
      clear hR hCC ht5 ht8 ht9 ha
      have b4 := (Below.refl _ (w2.alloc (.cells #[.slice W n cw, .map (some gm), .slice S q sc] 105))).alloc (Nat.le_refl _) (.cells #[.int .i64 R, .int .i64 CC] 113)
      have ob4 := Box.new (w2.alloc (.cells #[.slice W n cw, .map (some gm), .slice S q sc] 105)) 113 #[.int .i64 R, .int .i64 CC]
      have HI4 := Lib.hid (HI.out.next b4)
      have HOB := Lib.hid ob4
      have hs3 : (w2.alloc (.cells #[.slice W n cw, .map (some gm), .slice S q sc] 105)).heap.size = w2.heap.size + 1 := by simp
      rw [hs3] at HOB
      clear b4 ob4 hs3
      by_cases hr0 : r < 0
      · have c1 : (r < 0) = True := eq_true hr0
        have HE := Lib.hid (writeE_range (r := r) (z := z) H0.out HA.out (by rw [Int.toNat_natCast, HRR.out]; exact .inl hr0))
        have HT := Lib.hid (writeT_bad (zs := zs) (g := g) (b := b) (a := (t : Int)) (r := r) (z := z) (by rw [HE.out]; decide))
        obtain ⟨r0, r1, r2, s0, s1, s2⟩ := HI4.out.rcells
        clear HI
        go_wp2
        obtain ⟨z1, z2, _, _⟩ := set3 HI4.out.below HI4.out.res (by omega : w.heap.size ≤ w.heap.size + 1) (.slice none 0 0) (.slice none 0 0) (.slice none 0 0)
        generalize (((((w2.alloc (.cells #[.slice W n cw, .map (some gm), .slice S q sc] 105)).alloc (.cells #[.int .i64 R, .int .i64 CC] 113)).setCell ⟨w.heap.size + 1, 0, none⟩ (.slice none 0 0)).setCell ⟨w.heap.size + 1, 1, none⟩ (.slice none 0 0)).setCell ⟨w.heap.size + 1, 2, none⟩ (.slice none 0 0)) = W5 at *
        have x0 : W5.cell? ⟨w.heap.size + 1, 0, none⟩ = some (.slice none 0 0) := z2.cell 0
        have x1 : W5.cell? ⟨w.heap.size + 1, 1, none⟩ = some (.slice none 0 0) := z2.cell 1
        have x2 : W5.cell? ⟨w.heap.size + 1, 2, none⟩ = some (.slice none 0 0) := z2.cell 2
        refine bodyPost_ret (v := .tuple #[.agg #[.slice none 0 0, .slice none 0 0, .slice none 0 0], .int .i64 4]) (by simp [results, Try.results30, go_sem, x0, x1, x2]) rfl ⟨none, 0, 0, none, 0, 0, none, 0, 0, by rw [HE.out], z1, by rw [HT.out]; exact TriV.zero, SpareI.nil, SpareI.nil, SpareI.nil⟩
      · have c1 : (r < 0) = False := eq_false hr0
        have d0 : ((w2.alloc (.cells #[.slice W n cw, .map (some gm), .slice S q sc] 105)).alloc (.cells #[.int .i64 R, .int .i64 CC] 113)).cell? ⟨w2.heap.size + 1, 0, none⟩ = some (.int .i64 R) := HOB.out.cell 0
        by_cases hrR : R ≤ r
        · have c2 : (R ≤ r) = True := eq_true hrR
          have c3 : (r ≥ R) = True := eq_true hrR
          have HE := Lib.hid (writeE_range (r := r) (z := z) H0.out HA.out (by rw [Int.toNat_natCast, HRR.out]; exact .inr (.inl hrR)))
          have HT := Lib.hid (writeT_bad (zs := zs) (g := g) (b := b) (a := (t : Int)) (r := r) (z := z) (by rw [HE.out]; decide))
          obtain ⟨r0, r1, r2, s0, s1, s2⟩ := HI4.out.rcells
          clear HI
          go_wp2
          obtain ⟨z1, z2, _, _⟩ := set3 HI4.out.below HI4.out.res (by omega : w.heap.size ≤ w.heap.size + 1) (.slice none 0 0) (.slice none 0 0) (.slice none 0 0)
          generalize (((((w2.alloc (.cells #[.slice W n cw, .map (some gm), .slice S q sc] 105)).alloc (.cells #[.int .i64 R, .int .i64 CC] 113)).setCell ⟨w.heap.size + 1, 0, none⟩ (.slice none 0 0)).setCell ⟨w.heap.size + 1, 1, none⟩ (.slice none 0 0)).setCell ⟨w.heap.size + 1, 2, none⟩ (.slice none 0 0)) = W5 at *
          have x0 : W5.cell? ⟨w.heap.size + 1, 0, none⟩ = some (.slice none 0 0) := z2.cell 0
          have x1 : W5.cell? ⟨w.heap.size + 1, 1, none⟩ = some (.slice none 0 0) := z2.cell 1
          have x2 : W5.cell? ⟨w.heap.size + 1, 2, none⟩ = some (.slice none 0 0) := z2.cell 2
          refine bodyPost_ret (v := .tuple #[.agg #[.slice none 0 0, .slice none 0 0, .slice none 0 0], .int .i64 4]) (by simp [results, Try.results30, go_sem, x0, x1, x2]) rfl ⟨none, 0, 0, none, 0, 0, none, 0, 0, by rw [HE.out], z1, by rw [HT.out]; exact TriV.zero, SpareI.nil, SpareI.nil, SpareI.nil⟩
        · have c2 : (R ≤ r) = False := eq_false hrR
          have c3 : (r ≥ R) = False := eq_false hrR
          obtain ⟨k, hk⟩ : ∃ k : Nat, r = k := ⟨r.toNat, by omega⟩
          subst hk
          by_cases hz : z = -1
          · have c4 : (z != -1) = false := by simp [hz]
            subst hz
            clear HI k0 k1 k2
            have HE := Lib.hid (writeE_ok (a := (t : Int)) (r := (k : Int)) (z := (-1)) H0.out HA.out (by rw [Int.toNat_natCast, HRR.out]; rintro (h | h | h); omega; omega; exact h.1 rfl))
            have HT := Lib.hid (writeT_ok HE.out)
            have hwok : WrOk zs t k (-1) := ⟨HZ.out, HOK.out.1, HA.out, by rw [HRR.out]; omega, .inl rfl⟩
            have hzf := hwok.facts.2.2.2.2
            have HWO := Lib.hid hwok
            rw [Int.toNat_natCast, Int.toNat_natCast] at HT
            have hn256 : n ≤ 256 := by have := HBIG.out; omega
            have hjn : t + 1 + k < n := by omega
            obtain ⟨gW, rfl, hcw, hfw, hI5, hkeep⟩ := HI4.out.word (j := t + 1 + k) hjn (x := 0) (wf_u64.2 (by omega))
            rw [show zs.set (t + 1 + k) 0 = wrL zs t k (-1) from rfl] at hI5
            have hob5 := hkeep _ _ _ (by decide) HOB.out
            have HJ5 := Lib.hid hI5
            have HOB5 := Lib.hid hob5
            have d1 : (((w2.alloc (.cells #[.slice (some ⟨gW, 0, none⟩) n cw, .map (some gm), .slice S q sc] 105)).alloc (.cells #[.int .i64 R, .int .i64 CC] 113)).setCell ⟨gW, t + 1 + k, none⟩ (.int .u64 0)).cell? ⟨w2.heap.size + 1, 1, none⟩ = some (.int .i64 CC) := hob5.cell 1
            have g1 : IntKind.i64.wrap ((t : Int) + 1) = t + 1 := IntWalk.i64_in _ (by omega)
            have g2 : IntKind.i64.wrap ((t : Int) + 1 + (k : Int)) = t + 1 + k := IntWalk.i64_in _ (by omega)
            have g3 : IntKind.i64.wrap 0 = 0 := IntWalk.i64_in _ (by omega)
            have g4 : IntKind.u64.wrap 0 = 0 := IntWalk.u64_in _ (by omega)
            have g5 : ((t : Int) + 1 + (k : Int)).toNat = t + 1 + k := by omega
            have g6 : (t : Int) + 1 + (k : Int) < (n : Int) := by omega
            have hnw : n ≤ cw := by
              obtain ⟨A', c', e1, e2, _⟩ := HI4.out.own.arr
              injection e1 with _ e3 e4
              omega
            have HNW := Lib.hid hnw
            have HNC := Lib.hid (col_grey HOK.out.2)
            obtain ⟨k0, k1, k2⟩ := HI4.out.cells
            obtain ⟨k3, k4, k5⟩ := hI5.cells
            clear hwok hI5 hkeep hob5 hnw HOB
            by_cases hab : (t : Int) ∈ b
            · have hC2 : CC = 2 := by rw [← HCC.out, co_of, if_pos hab]
              subst hC2
              have HIS := Lib.hid (stepIs_any (some ⟨gW, 0, none⟩) S n cw q sc gm N (wrL zs t k (-1)) zs (colOf g b) (-1) 0 (((w2.alloc (.cells #[.slice (some ⟨gW, 0, none⟩) n cw, .map (some gm), .slice S q sc] 105)).alloc (.cells #[.int .i64 R, .int .i64 2] 113)).setCell ⟨gW, t + 1 + k, none⟩ (.int .u64 0)) WZ.out HJ5.out.mks)
              rw [show isC zs (colOf g b) (-1) 0 = false by unfold isC; rw [decide_eq_false_iff_not]; rintro ⟨h1, _⟩; have := lives_pos _ h1; omega] at HIS
              go_wp2_with fail
              refine HIS.out.mono ?_
              rintro e w6 ⟨rfl, b6⟩
              have HI6 := Lib.hid (HJ5.out.next b6)
              clear k0 k1 k2 k3 k4 k5 b6 HIS d1 hcw hfw
              obtain ⟨k0, k1, k2⟩ := HI6.out.cells
              have HS := Lib.hid (stepState_any (some ⟨gW, 0, none⟩) S n cw q sc gm _ (wrL zs t k (-1)) zs (colOf g b) w6 HI6.out.mks)
              unfold StateP at HS
              rw [HNC.out, col_black HOK.out.2] at HS
              have HWG := Lib.hid (writeG_no (a := (t : Int)) (z := (-1)) (g := g) (b := b) (by rintro ⟨_, h, _⟩; omega))
              go_wp2_with fail
              refine HS.out.mono ?_
              rintro e w9 ⟨G9, g9, gc, K9, k9, kc, rfl, b9, hG, hK, hGS, hKS⟩
              have HI9 := Lib.hid (HI6.out.next b9)
              have HGS := Lib.hid (hGS.less HI6.out.below.size)
              have HKS := Lib.hid (hKS.less HI6.out.below.size)
              have HG9 := Lib.hid hG
              have HK9 := Lib.hid hK
              obtain ⟨r0, r1, r2, s0, s1, s2⟩ := HI9.out.rcells
              clear b9 hG hK hGS hKS HS
              go_wp2
              obtain ⟨z1, z2, z3, z4⟩ := set3 HI9.out.below HI9.out.res (by omega : w.heap.size ≤ w.heap.size + 1) (.slice (some ⟨gW, 0, none⟩) n cw) (.slice G9 g9 gc) (.slice K9 k9 kc)
              have y1 := HI9.out.mks.words.set3 HI9.out.res z3 z4
              have y2 := HG9.out.set3 HI9.out.res z3 z4
              have y3 := HK9.out.set3 HI9.out.res z3 z4
              have t1 := (HI9.out.own.spare.less (by omega : w.heap.size ≤ w.heap.size + 2)).set3 HI9.out.res (by decide) (.slice (some ⟨gW, 0, none⟩) n cw) (.slice G9 g9 gc) (.slice K9 k9 kc)
              have t2 := HGS.out.set3 HI9.out.res (by decide) (.slice (some ⟨gW, 0, none⟩) n cw) (.slice G9 g9 gc) (.slice K9 k9 kc)
              have t3 := HKS.out.set3 HI9.out.res (by decide) (.slice (some ⟨gW, 0, none⟩) n cw) (.slice G9 g9 gc) (.slice K9 k9 kc)
              generalize (((w9.setCell ⟨w.heap.size + 1, 0, none⟩ (.slice (some ⟨gW, 0, none⟩) n cw)).setCell ⟨w.heap.size + 1, 1, none⟩ (.slice G9 g9 gc)).setCell ⟨w.heap.size + 1, 2, none⟩ (.slice K9 k9 kc)) = W5 at *
              have x0 : W5.cell? ⟨w.heap.size + 1, 0, none⟩ = some (.slice (some ⟨gW, 0, none⟩) n cw) := z2.cell 0
              have x1 : W5.cell? ⟨w.heap.size + 1, 1, none⟩ = some (.slice G9 g9 gc) := z2.cell 1
              have x2 : W5.cell? ⟨w.heap.size + 1, 2, none⟩ = some (.slice K9 k9 kc) := z2.cell 2
              have hg9 := y2.1
              have hk9 := y3.1
              have hgl := sub_length (rises_nodup HOK.out.2.gr) HOK.out.2.gl
              have hbl := sub_length (rises_nodup HOK.out.2.br) HOK.out.2.bl
              have hll := lives_len HBIG.out
              have hrl := risingTo_len (g ++ [(-1)]) 256
              refine bodyPost_ret (v := .tuple #[.agg #[.slice (some ⟨gW, 0, none⟩) n cw, .slice G9 g9 gc, .slice K9 k9 kc], .int .i64 0]) (by simp [results, Try.results30, go_sem, x0, x1, x2]) rfl ⟨_, n, cw, G9, g9, gc, K9, k9, kc, by rw [HE.out], z1, by rw [HT.out, HWG.out]; exact ⟨y1, y2, y3, HN.out, HNW.out, by unfold maxLen; omega, by unfold maxLen; omega⟩, t1, t2, t3⟩
            · have hC2 : (CC == 2) = false := by rw [beq_eq_false_iff_ne, ← HCC.out, co_of, if_neg hab]; split <;> omega
              have HS := Lib.hid (stepState_any (some ⟨gW, 0, none⟩) S n cw q sc gm _ (wrL zs t k (-1)) zs (colOf g b) (((w2.alloc (.cells #[.slice (some ⟨gW, 0, none⟩) n cw, .map (some gm), .slice S q sc] 105)).alloc (.cells #[.int .i64 R, .int .i64 CC] 113)).setCell ⟨gW, t + 1 + k, none⟩ (.int .u64 0)) HJ5.out.mks)
              unfold StateP at HS
              rw [HNC.out, col_black HOK.out.2] at HS
              have HWG := Lib.hid (writeG_no (a := (t : Int)) (z := (-1)) (g := g) (b := b) (by rintro ⟨h, _⟩; exact hab h))
              go_wp2_with fail
              refine HS.out.mono ?_
              rintro e w9 ⟨G9, g9, gc, K9, k9, kc, rfl, b9, hG, hK, hGS, hKS⟩
              have HI9 := Lib.hid (HJ5.out.next b9)
              have HGS := Lib.hid (hGS.less HJ5.out.below.size)
              have HKS := Lib.hid (hKS.less HJ5.out.below.size)
              have HG9 := Lib.hid hG
              have HK9 := Lib.hid hK
              obtain ⟨r0, r1, r2, s0, s1, s2⟩ := HI9.out.rcells
              clear b9 hG hK hGS hKS HS
              go_wp2
              obtain ⟨z1, z2, z3, z4⟩ := set3 HI9.out.below HI9.out.res (by omega : w.heap.size ≤ w.heap.size + 1) (.slice (some ⟨gW, 0, none⟩) n cw) (.slice G9 g9 gc) (.slice K9 k9 kc)
              have y1 := HI9.out.mks.words.set3 HI9.out.res z3 z4
              have y2 := HG9.out.set3 HI9.out.res z3 z4
              have y3 := HK9.out.set3 HI9.out.res z3 z4
              have t1 := (HI9.out.own.spare.less (by omega : w.heap.size ≤ w.heap.size + 2)).set3 HI9.out.res (by decide) (.slice (some ⟨gW, 0, none⟩) n cw) (.slice G9 g9 gc) (.slice K9 k9 kc)
              have t2 := HGS.out.set3 HI9.out.res (by decide) (.slice (some ⟨gW, 0, none⟩) n cw) (.slice G9 g9 gc) (.slice K9 k9 kc)
              have t3 := HKS.out.set3 HI9.out.res (by decide) (.slice (some ⟨gW, 0, none⟩) n cw) (.slice G9 g9 gc) (.slice K9 k9 kc)
              generalize (((w9.setCell ⟨w.heap.size + 1, 0, none⟩ (.slice (some ⟨gW, 0, none⟩) n cw)).setCell ⟨w.heap.size + 1, 1, none⟩ (.slice G9 g9 gc)).setCell ⟨w.heap.size + 1, 2, none⟩ (.slice K9 k9 kc)) = W5 at *
              have x0 : W5.cell? ⟨w.heap.size + 1, 0, none⟩ = some (.slice (some ⟨gW, 0, none⟩) n cw) := z2.cell 0
              have x1 : W5.cell? ⟨w.heap.size + 1, 1, none⟩ = some (.slice G9 g9 gc) := z2.cell 1
              have x2 : W5.cell? ⟨w.heap.size + 1, 2, none⟩ = some (.slice K9 k9 kc) := z2.cell 2
              have hg9 := y2.1
              have hk9 := y3.1
              have hgl := sub_length (rises_nodup HOK.out.2.gr) HOK.out.2.gl
              have hbl := sub_length (rises_nodup HOK.out.2.br) HOK.out.2.bl
              have hll := lives_len HBIG.out
              have hrl := risingTo_len (g ++ [(-1)]) 256
              refine bodyPost_ret (v := .tuple #[.agg #[.slice (some ⟨gW, 0, none⟩) n cw, .slice G9 g9 gc, .slice K9 k9 kc], .int .i64 0]) (by simp [results, Try.results30, go_sem, x0, x1, x2]) rfl ⟨_, n, cw, G9, g9, gc, K9, k9, kc, by rw [HE.out], z1, by rw [HT.out, HWG.out]; exact ⟨y1, y2, y3, HN.out, HNW.out, by unfold maxLen; omega, by unfold maxLen; omega⟩, t1, t2, t3⟩
          · have c4 : (z != -1) = true := by simpa using hz
            have HHS := Lib.hid (stepHas_any W S n cw q sc gm N zs zs (colOf g b) z ((w2.alloc (.cells #[.slice W n cw, .map (some gm), .slice S q sc] 105)).alloc (.cells #[.int .i64 R, .int .i64 CC] 113)) WZ.out HI4.out.mks)
            obtain ⟨m0, m1, m2⟩ := HI4.out.cells
            by_cases hzl : z ∈ livesI zs
            · rw [show decide (z ∈ livesI zs) = true by simpa using hzl] at HHS
              go_wp2_with fail
              refine HHS.out.mono ?_
              rintro e w5 ⟨rfl, b5⟩
              have HI5 := Lib.hid (HI4.out.next b5)
              have HOB5 := Lib.hid (HOB.out.below b5 HOB.out.lt)
              clear k0 k1 k2 m0 m1 m2 d0 HHS HI HI4 HOB b5 c4
              have HE := Lib.hid (writeE_ok (a := (t : Int)) (r := (k : Int)) (z := z) H0.out HA.out (by rw [Int.toNat_natCast, HRR.out]; rintro (h | h | h); omega; omega; exact h.2 hzl))
              have HT := Lib.hid (writeT_ok HE.out)
              have hwok : WrOk zs t k z := ⟨HZ.out, HOK.out.1, HA.out, by rw [HRR.out]; omega, .inr hzl⟩
              have hzf := hwok.facts.2.2.2.2
              have HWO := Lib.hid hwok
              rw [Int.toNat_natCast, Int.toNat_natCast] at HT
              have hn256 : n ≤ 256 := by have := HBIG.out; omega
              have hjn : t + 1 + k < n := by omega
              obtain ⟨gW, rfl, hcw, hfw, hI5, hkeep⟩ := HI5.out.word (j := t + 1 + k) hjn (x := (z + 1)) (wf_u64.2 (by omega))
              rw [show zs.set (t + 1 + k) (z + 1) = wrL zs t k z from rfl] at hI5
              have hob5 := hkeep _ _ _ (by decide) HOB5.out
              have HJ5 := Lib.hid hI5
              have HOB5 := Lib.hid hob5
              have d1 : (w5.setCell ⟨gW, t + 1 + k, none⟩ (.int .u64 (z + 1))).cell? ⟨w2.heap.size + 1, 1, none⟩ = some (.int .i64 CC) := hob5.cell 1
              have g1 : IntKind.i64.wrap ((t : Int) + 1) = t + 1 := IntWalk.i64_in _ (by omega)
              have g2 : IntKind.i64.wrap ((t : Int) + 1 + (k : Int)) = t + 1 + k := IntWalk.i64_in _ (by omega)
              have g3 : IntKind.i64.wrap (z + 1) = (z + 1) := IntWalk.i64_in _ (by omega)
              have g4 : IntKind.u64.wrap (z + 1) = (z + 1) := IntWalk.u64_in _ (by omega)
              have g5 : ((t : Int) + 1 + (k : Int)).toNat = t + 1 + k := by omega
              have g6 : (t : Int) + 1 + (k : Int) < (n : Int) := by omega
              have hnw : n ≤ cw := by
                obtain ⟨A', c', e1, e2, _⟩ := HI5.out.own.arr
                injection e1 with _ e3 e4
                omega
              have HNW := Lib.hid hnw
              have HNC := Lib.hid (col_grey HOK.out.2)
              obtain ⟨k0, k1, k2⟩ := HI5.out.cells
              obtain ⟨k3, k4, k5⟩ := hI5.cells
              clear hwok hI5 hkeep hob5 hnw HOB5
              by_cases hab : (t : Int) ∈ b
              · have hC2 : CC = 2 := by rw [← HCC.out, co_of, if_pos hab]
                subst hC2
                have HIS := Lib.hid (stepIs_any (some ⟨gW, 0, none⟩) S n cw q sc gm N (wrL zs t k z) zs (colOf g b) z 0 (w5.setCell ⟨gW, t + 1 + k, none⟩ (.int .u64 (z + 1))) WZ.out HJ5.out.mks)
                by_cases hw : z ∉ g ∧ z ∉ b
                · have HW := Lib.hid hw
                  rw [show isC zs (colOf g b) z 0 = true by unfold isC; rw [decide_eq_true_eq, co_of, if_neg hw.2, if_neg hw.1]; exact ⟨hzl, rfl⟩] at HIS
                  have hz0 := lives_pos z hzl
                  clear hw
                  go_wp2_with fail
                  refine HIS.out.mono ?_
                  rintro e w6 ⟨rfl, b6⟩
                  have HI6 := Lib.hid (HJ5.out.next b6)
                  clear k0 k1 k2 k3 k4 k5 b6 HIS d1 hcw hfw
                  obtain ⟨k0, k1, k2⟩ := HI6.out.cells
                  have HST := Lib.hid (stepSet_any (some ⟨gW, 0, none⟩) S n cw q sc gm N (wrL zs t k z) zs (colOf g b) z 1 w6 (by have := HNN.out; unfold maxLen; omega) hzl HI6.out.mks)
                  go_wp2_with fail
                  refine HST.out.mono ?_
                  rintro e w7 ⟨rfl, ho7, hm7⟩
                  have HI7 := Lib.hid (HI6.out.only ho7 hm7)
                  clear k0 k1 k2 ho7 hm7 HST
                  obtain ⟨k0, k1, k2⟩ := HI7.out.cells
                  have HS := Lib.hid (stepState_any (some ⟨gW, 0, none⟩) S n cw q sc gm _ (wrL zs t k z) zs (paintC (colOf g b) [z] 1) w7 HI7.out.mks)
                  unfold StateP at HS
                  rw [col_paint_grey HOK.out.2 (lives_fit HOK.out.1) hzl HW.out.2, col_paint_black HOK.out.2 HW.out.2] at HS
                  have HWG := Lib.hid (writeG_yes (a := (t : Int)) (z := z) (g := g) (b := b) hab hz0 HW.out.1 HW.out.2)
                  go_wp2_with fail
                  refine HS.out.mono ?_
                  rintro e w9 ⟨G9, g9, gc, K9, k9, kc, rfl, b9, hG, hK, hGS, hKS⟩
                  have HI9 := Lib.hid (HI7.out.next b9)
                  have HGS := Lib.hid (hGS.less HI7.out.below.size)
                  have HKS := Lib.hid (hKS.less HI7.out.below.size)
                  have HG9 := Lib.hid hG
                  have HK9 := Lib.hid hK
                  obtain ⟨r0, r1, r2, s0, s1, s2⟩ := HI9.out.rcells
                  clear b9 hG hK hGS hKS HS
                  go_wp2
                  obtain ⟨z1, z2, z3, z4⟩ := set3 HI9.out.below HI9.out.res (by omega : w.heap.size ≤ w.heap.size + 1) (.slice (some ⟨gW, 0, none⟩) n cw) (.slice G9 g9 gc) (.slice K9 k9 kc)
                  have y1 := HI9.out.mks.words.set3 HI9.out.res z3 z4
                  have y2 := HG9.out.set3 HI9.out.res z3 z4
                  have y3 := HK9.out.set3 HI9.out.res z3 z4
                  have t1 := (HI9.out.own.spare.less (by omega : w.heap.size ≤ w.heap.size + 2)).set3 HI9.out.res (by decide) (.slice (some ⟨gW, 0, none⟩) n cw) (.slice G9 g9 gc) (.slice K9 k9 kc)
                  have t2 := HGS.out.set3 HI9.out.res (by decide) (.slice (some ⟨gW, 0, none⟩) n cw) (.slice G9 g9 gc) (.slice K9 k9 kc)
                  have t3 := HKS.out.set3 HI9.out.res (by decide) (.slice (some ⟨gW, 0, none⟩) n cw) (.slice G9 g9 gc) (.slice K9 k9 kc)
                  generalize (((w9.setCell ⟨w.heap.size + 1, 0, none⟩ (.slice (some ⟨gW, 0, none⟩) n cw)).setCell ⟨w.heap.size + 1, 1, none⟩ (.slice G9 g9 gc)).setCell ⟨w.heap.size + 1, 2, none⟩ (.slice K9 k9 kc)) = W5 at *
                  have x0 : W5.cell? ⟨w.heap.size + 1, 0, none⟩ = some (.slice (some ⟨gW, 0, none⟩) n cw) := z2.cell 0
                  have x1 : W5.cell? ⟨w.heap.size + 1, 1, none⟩ = some (.slice G9 g9 gc) := z2.cell 1
                  have x2 : W5.cell? ⟨w.heap.size + 1, 2, none⟩ = some (.slice K9 k9 kc) := z2.cell 2
                  have hg9 := y2.1
                  have hk9 := y3.1
                  have hgl := sub_length (rises_nodup HOK.out.2.gr) HOK.out.2.gl
                  have hbl := sub_length (rises_nodup HOK.out.2.br) HOK.out.2.bl
                  have hll := lives_len HBIG.out
                  have hrl := risingTo_len (g ++ [z]) 256
                  refine bodyPost_ret (v := .tuple #[.agg #[.slice (some ⟨gW, 0, none⟩) n cw, .slice G9 g9 gc, .slice K9 k9 kc], .int .i64 0]) (by simp [results, Try.results30, go_sem, x0, x1, x2]) rfl ⟨_, n, cw, G9, g9, gc, K9, k9, kc, by rw [HE.out], z1, by rw [HT.out, HWG.out]; exact ⟨y1, y2, y3, HN.out, HNW.out, by unfold maxLen; omega, by unfold maxLen; omega⟩, t1, t2, t3⟩
                · have HW := Lib.hid hw
                  rw [show isC zs (colOf g b) z 0 = false by unfold isC; rw [decide_eq_false_iff_not, co_of]; rintro ⟨_, h2⟩; by_cases e1 : z ∈ b; rw [if_pos e1] at h2; omega; rw [if_neg e1] at h2; by_cases e2 : z ∈ g; rw [if_pos e2] at h2; omega; exact hw ⟨e2, e1⟩] at HIS
                  clear hw
                  go_wp2_with fail
                  refine HIS.out.mono ?_
                  rintro e w6 ⟨rfl, b6⟩
                  have HI6 := Lib.hid (HJ5.out.next b6)
                  clear k0 k1 k2 k3 k4 k5 b6 HIS d1 hcw hfw
                  obtain ⟨k0, k1, k2⟩ := HI6.out.cells
                  have HS := Lib.hid (stepState_any (some ⟨gW, 0, none⟩) S n cw q sc gm _ (wrL zs t k z) zs (colOf g b) w6 HI6.out.mks)
                  unfold StateP at HS
                  rw [HNC.out, col_black HOK.out.2] at HS
                  have HWG := Lib.hid (writeG_no (a := (t : Int)) (z := z) (g := g) (b := b) (by rintro ⟨_, _, h⟩; exact HW.out h))
                  go_wp2_with fail
                  refine HS.out.mono ?_
                  rintro e w9 ⟨G9, g9, gc, K9, k9, kc, rfl, b9, hG, hK, hGS, hKS⟩
                  have HI9 := Lib.hid (HI6.out.next b9)
                  have HGS := Lib.hid (hGS.less HI6.out.below.size)
                  have HKS := Lib.hid (hKS.less HI6.out.below.size)
                  have HG9 := Lib.hid hG
                  have HK9 := Lib.hid hK
                  obtain ⟨r0, r1, r2, s0, s1, s2⟩ := HI9.out.rcells
                  clear b9 hG hK hGS hKS HS
                  go_wp2
                  obtain ⟨z1, z2, z3, z4⟩ := set3 HI9.out.below HI9.out.res (by omega : w.heap.size ≤ w.heap.size + 1) (.slice (some ⟨gW, 0, none⟩) n cw) (.slice G9 g9 gc) (.slice K9 k9 kc)
                  have y1 := HI9.out.mks.words.set3 HI9.out.res z3 z4
                  have y2 := HG9.out.set3 HI9.out.res z3 z4
                  have y3 := HK9.out.set3 HI9.out.res z3 z4
                  have t1 := (HI9.out.own.spare.less (by omega : w.heap.size ≤ w.heap.size + 2)).set3 HI9.out.res (by decide) (.slice (some ⟨gW, 0, none⟩) n cw) (.slice G9 g9 gc) (.slice K9 k9 kc)
                  have t2 := HGS.out.set3 HI9.out.res (by decide) (.slice (some ⟨gW, 0, none⟩) n cw) (.slice G9 g9 gc) (.slice K9 k9 kc)
                  have t3 := HKS.out.set3 HI9.out.res (by decide) (.slice (some ⟨gW, 0, none⟩) n cw) (.slice G9 g9 gc) (.slice K9 k9 kc)
                  generalize (((w9.setCell ⟨w.heap.size + 1, 0, none⟩ (.slice (some ⟨gW, 0, none⟩) n cw)).setCell ⟨w.heap.size + 1, 1, none⟩ (.slice G9 g9 gc)).setCell ⟨w.heap.size + 1, 2, none⟩ (.slice K9 k9 kc)) = W5 at *
                  have x0 : W5.cell? ⟨w.heap.size + 1, 0, none⟩ = some (.slice (some ⟨gW, 0, none⟩) n cw) := z2.cell 0
                  have x1 : W5.cell? ⟨w.heap.size + 1, 1, none⟩ = some (.slice G9 g9 gc) := z2.cell 1
                  have x2 : W5.cell? ⟨w.heap.size + 1, 2, none⟩ = some (.slice K9 k9 kc) := z2.cell 2
                  have hg9 := y2.1
                  have hk9 := y3.1
                  have hgl := sub_length (rises_nodup HOK.out.2.gr) HOK.out.2.gl
                  have hbl := sub_length (rises_nodup HOK.out.2.br) HOK.out.2.bl
                  have hll := lives_len HBIG.out
                  have hrl := risingTo_len (g ++ [z]) 256
                  refine bodyPost_ret (v := .tuple #[.agg #[.slice (some ⟨gW, 0, none⟩) n cw, .slice G9 g9 gc, .slice K9 k9 kc], .int .i64 0]) (by simp [results, Try.results30, go_sem, x0, x1, x2]) rfl ⟨_, n, cw, G9, g9, gc, K9, k9, kc, by rw [HE.out], z1, by rw [HT.out, HWG.out]; exact ⟨y1, y2, y3, HN.out, HNW.out, by unfold maxLen; omega, by unfold maxLen; omega⟩, t1, t2, t3⟩
              · have hC2 : (CC == 2) = false := by rw [beq_eq_false_iff_ne, ← HCC.out, co_of, if_neg hab]; split <;> omega
                have HS := Lib.hid (stepState_any (some ⟨gW, 0, none⟩) S n cw q sc gm _ (wrL zs t k z) zs (colOf g b) (w5.setCell ⟨gW, t + 1 + k, none⟩ (.int .u64 (z + 1))) HJ5.out.mks)
                unfold StateP at HS
                rw [HNC.out, col_black HOK.out.2] at HS
                have HWG := Lib.hid (writeG_no (a := (t : Int)) (z := z) (g := g) (b := b) (by rintro ⟨h, _⟩; exact hab h))
                go_wp2_with fail
                refine HS.out.mono ?_
                rintro e w9 ⟨G9, g9, gc, K9, k9, kc, rfl, b9, hG, hK, hGS, hKS⟩
                have HI9 := Lib.hid (HJ5.out.next b9)
                have HGS := Lib.hid (hGS.less HJ5.out.below.size)
                have HKS := Lib.hid (hKS.less HJ5.out.below.size)
                have HG9 := Lib.hid hG
                have HK9 := Lib.hid hK
                obtain ⟨r0, r1, r2, s0, s1, s2⟩ := HI9.out.rcells
                clear b9 hG hK hGS hKS HS
                go_wp2
                obtain ⟨z1, z2, z3, z4⟩ := set3 HI9.out.below HI9.out.res (by omega : w.heap.size ≤ w.heap.size + 1) (.slice (some ⟨gW, 0, none⟩) n cw) (.slice G9 g9 gc) (.slice K9 k9 kc)
                have y1 := HI9.out.mks.words.set3 HI9.out.res z3 z4
                have y2 := HG9.out.set3 HI9.out.res z3 z4
                have y3 := HK9.out.set3 HI9.out.res z3 z4
                have t1 := (HI9.out.own.spare.less (by omega : w.heap.size ≤ w.heap.size + 2)).set3 HI9.out.res (by decide) (.slice (some ⟨gW, 0, none⟩) n cw) (.slice G9 g9 gc) (.slice K9 k9 kc)
                have t2 := HGS.out.set3 HI9.out.res (by decide) (.slice (some ⟨gW, 0, none⟩) n cw) (.slice G9 g9 gc) (.slice K9 k9 kc)
                have t3 := HKS.out.set3 HI9.out.res (by decide) (.slice (some ⟨gW, 0, none⟩) n cw) (.slice G9 g9 gc) (.slice K9 k9 kc)
                generalize (((w9.setCell ⟨w.heap.size + 1, 0, none⟩ (.slice (some ⟨gW, 0, none⟩) n cw)).setCell ⟨w.heap.size + 1, 1, none⟩ (.slice G9 g9 gc)).setCell ⟨w.heap.size + 1, 2, none⟩ (.slice K9 k9 kc)) = W5 at *
                have x0 : W5.cell? ⟨w.heap.size + 1, 0, none⟩ = some (.slice (some ⟨gW, 0, none⟩) n cw) := z2.cell 0
                have x1 : W5.cell? ⟨w.heap.size + 1, 1, none⟩ = some (.slice G9 g9 gc) := z2.cell 1
                have x2 : W5.cell? ⟨w.heap.size + 1, 2, none⟩ = some (.slice K9 k9 kc) := z2.cell 2
                have hg9 := y2.1
                have hk9 := y3.1
                have hgl := sub_length (rises_nodup HOK.out.2.gr) HOK.out.2.gl
                have hbl := sub_length (rises_nodup HOK.out.2.br) HOK.out.2.bl
                have hll := lives_len HBIG.out
                have hrl := risingTo_len (g ++ [z]) 256
                refine bodyPost_ret (v := .tuple #[.agg #[.slice (some ⟨gW, 0, none⟩) n cw, .slice G9 g9 gc, .slice K9 k9 kc], .int .i64 0]) (by simp [results, Try.results30, go_sem, x0, x1, x2]) rfl ⟨_, n, cw, G9, g9, gc, K9, k9, kc, by rw [HE.out], z1, by rw [HT.out, HWG.out]; exact ⟨y1, y2, y3, HN.out, HNW.out, by unfold maxLen; omega, by unfold maxLen; omega⟩, t1, t2, t3⟩
            · rw [show decide (z ∈ livesI zs) = false by simpa using hzl] at HHS
              have HE := Lib.hid (writeE_range (r := (k : Int)) (z := z) H0.out HA.out (by rw [Int.toNat_natCast, HRR.out]; exact .inr (.inr ⟨hz, hzl⟩)))
              have HT := Lib.hid (writeT_bad (zs := zs) (g := g) (b := b) (a := (t : Int)) (r := (k : Int)) (z := z) (by rw [HE.out]; decide))

              go_wp2_with fail
              refine HHS.out.mono ?_
              rintro e w5 ⟨rfl, b5⟩
              have HI5 := Lib.hid (HI4.out.next b5)
              clear k0 k1 k2 m0 m1 m2 d0 HHS HI HI4 HOB b5 c4
              obtain ⟨r0, r1, r2, s0, s1, s2⟩ := HI5.out.rcells
              go_wp2
              obtain ⟨z1, z2, _, _⟩ := set3 HI5.out.below HI5.out.res (by omega : w.heap.size ≤ w.heap.size + 1) (.slice none 0 0) (.slice none 0 0) (.slice none 0 0)
              generalize (((w5.setCell ⟨w.heap.size + 1, 0, none⟩ (.slice none 0 0)).setCell ⟨w.heap.size + 1, 1, none⟩ (.slice none 0 0)).setCell ⟨w.heap.size + 1, 2, none⟩ (.slice none 0 0)) = W5 at *
              have x0 : W5.cell? ⟨w.heap.size + 1, 0, none⟩ = some (.slice none 0 0) := z2.cell 0
              have x1 : W5.cell? ⟨w.heap.size + 1, 1, none⟩ = some (.slice none 0 0) := z2.cell 1
              have x2 : W5.cell? ⟨w.heap.size + 1, 2, none⟩ = some (.slice none 0 0) := z2.cell 2
              refine bodyPost_ret (v := .tuple #[.agg #[.slice none 0 0, .slice none 0 0, .slice none 0 0], .int .i64 4]) (by simp [results, Try.results30, go_sem, x0, x1, x2]) rfl ⟨none, 0, 0, none, 0, 0, none, 0, 0, by rw [HE.out], z1, by rw [HT.out]; exact TriV.zero, SpareI.nil, SpareI.nil, SpareI.nil⟩
    · rw [mobOf_none ha, show decide (a ∈ livesI zs) = false by simpa using ha] at hlk
      simp only [Option.getD_none] at hlk
      have HE := Lib.hid (writeE_none (r := r) (z := z) H0.out ha)
      have HT := Lib.hid (writeT_bad (zs := zs) (g := g) (b := b) (a := a) (r := r) (z := z) (by rw [HE.out]; decide))
      have HI4 := Lib.hid (HI.out.next ((Below.refl _ (w2.alloc (.cells #[.slice W n cw, .map (some gm), .slice S q sc] 105))).alloc (Nat.le_refl _) (.cells #[.int .i64 0, .int .i64 0] 113)))
      obtain ⟨r0, r1, r2, s0, s1, s2⟩ := HI4.out.rcells
      clear HI ha
      go_wp2
      obtain ⟨z1, z2, _, _⟩ := set3 HI4.out.below HI4.out.res (by omega : w.heap.size ≤ w.heap.size + 1) (.slice none 0 0) (.slice none 0 0) (.slice none 0 0)
      generalize (((((w2.alloc (.cells #[.slice W n cw, .map (some gm), .slice S q sc] 105)).alloc (.cells #[.int .i64 0, .int .i64 0] 113)).setCell ⟨w.heap.size + 1, 0, none⟩ (.slice none 0 0)).setCell ⟨w.heap.size + 1, 1, none⟩ (.slice none 0 0)).setCell ⟨w.heap.size + 1, 2, none⟩ (.slice none 0 0)) = W5 at *
      have x0 : W5.cell? ⟨w.heap.size + 1, 0, none⟩ = some (.slice none 0 0) := z2.cell 0
      have x1 : W5.cell? ⟨w.heap.size + 1, 1, none⟩ = some (.slice none 0 0) := z2.cell 1
      have x2 : W5.cell? ⟨w.heap.size + 1, 2, none⟩ = some (.slice none 0 0) := z2.cell 2
      refine bodyPost_ret (v := .tuple #[.agg #[.slice none 0 0, .slice none 0 0, .slice none 0 0], .int .i64 5]) (by simp [results, Try.results30, go_sem, x0, x1, x2]) rfl ⟨none, 0, 0, none, 0, 0, none, 0, 0, by rw [HE.out], z1, by rw [HT.out]; exact TriV.zero, SpareI.nil, SpareI.nil, SpareI.nil⟩

theorem stepWrite_any (A G K : Option Addr) (n c ng cg nb cb : Nat) (zs g b : List Int) (a r z : Int) (w : World) (wa : (Lit.int .i64 a).wf = true) (wz : (Lit.int .i64 z).wf = true) (h : TriIn w A G K n c ng nb zs g b) :
    Calls Try.prog 30 #[.agg #[.slice A n c, .slice G ng cg, .slice K nb cb], .int .i64 a, .int .i64 r, .int .i64 z] w (WriteP zs g b a r z w) :=
  (stepWriteF_any A G K n c ng cg nb cb zs g b a r z w wa wz h).mono fun _ _ ⟨A', n', c', G', ng', cg', K', nb', cb', h1, h2, h3, _⟩ => ⟨A', n', c', G', ng', cg', K', nb', cb', h1, h2, h3⟩
end Go.Proofs.Ythdnfocemchgjaa
