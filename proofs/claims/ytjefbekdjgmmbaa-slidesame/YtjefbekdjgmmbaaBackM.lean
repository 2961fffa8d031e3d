/-
  What is laid is told as it was, and what is told is laid as it was. Over no program's run.
-/
import Derived.Test.YtjefbekdjgmmbaaRefLaid
import Derived.Test.YtjefbekdjgmmbaaWalkM
import Derived.Test.YtjefbekdjgmmbaaObjects
namespace Go.Proofs.Ytjefbekdjgmmbaa
open Go.RowKit

theorem nth_drop (zs : List Int) (a i : Nat) : nth (zs.drop a) i = nth zs (a + i) := by simp [nth, List.getD]
theorem chunk {zs rest rs bs : List Int} {a R Bd : Nat} {h : Int} (e : zs.drop a = (h :: (rs ++ bs)) ++ rest) (hr : rs.length = R) (hb : bs.length = Bd) :
    nth zs a = h ∧ (zs.drop (a + 1)).take R = rs ∧ (zs.drop (a + 1 + R)).take Bd = bs := by
  subst hr hb
  refine ⟨?_, ?_, ?_⟩
  · have := nth_drop zs a 0
    rw [e] at this
    simpa [nth] using this.symm
  · rw [← List.drop_drop, e]
    simp
  · rw [Nat.add_assoc, ← List.drop_drop, e, Nat.add_comm, ← List.drop_drop]
    simp [List.append_assoc]

section
variable {f : Int → Option Int} {L : List Ob}
theorem flat_len : (L.flatMap (obWords f)).length = offs L L.length := by rw [flat_words_len]; unfold offs; rw [List.take_length]
theorem flat_drop (k : Nat) : (L.flatMap (obWords f)).drop (offs L k) = (L.drop k).flatMap (obWords f) := by
  have e : L.flatMap (obWords f) = (L.take k).flatMap (obWords f) ++ (L.drop k).flatMap (obWords f) := by rw [← List.flatMap_append, List.take_append_drop]
  rw [e]
  exact List.drop_left' (by rw [flat_words_len]; rfl)
theorem flat_chunk {k : Nat} (hk : k < L.length) : (L.flatMap (obWords f)).drop (offs L k) = obWords f (nthG L k) ++ (L.flatMap (obWords f)).drop (offs L (k + 1)) := by
  rw [flat_drop, flat_drop, List.drop_eq_getElem_cons hk, List.flatMap_cons, nthG_get _ _ hk]
/-- The object that begins where description 'k' was laid. -/
theorem flat_obj {k : Nat} (hk : k < L.length) (hz : oFault (nthG L k) = 0) :
    let zs := L.flatMap (obWords f)
    vBad (nth zs (offs L k)) = false ∧ sLong (nth zs (offs L k)) = oLong (nthG L k) ∧ vT (nth zs (offs L k)) = (nthG L k).1 ∧ vF (nth zs (offs L k)) = (nthG L k).2.2.2 ∧
      refWords zs (offs L k) = (nthG L k).2.1.map (fun i => (f i).getD 0) ∧ bodyWords zs (offs L k) = (nthG L k).2.2.1 := by
  intro zs
  have hc := chunk (flat_chunk (f := f) hk) (R := (nthG L k).2.1.length) (Bd := (nthG L k).2.2.1.length) (by simp) rfl
  obtain ⟨h1, h2, h3⟩ := hc
  obtain ⟨g1, g2, g3, g4, g5⟩ := word_of_header hz
  have e0 : nth zs (offs L k) = hWord (nthG L k).2.1.length (nthG L k).2.2.1.length (nthG L k).1 (nthG L k).2.2.2 := h1
  have e1 : vR (nth zs (offs L k)) = (nthG L k).2.1.length := by rw [e0, g2]
  have e2 : vB (nth zs (offs L k)) = (nthG L k).2.2.1.length := by rw [e0, g3]
  refine ⟨by rw [e0, g1], ?_, by rw [e0, g4], by rw [e0, g5], ?_, ?_⟩
  · unfold sLong oLong
    rw [e1, e2]; simp
  · unfold refWords
    rw [e1, Int.toNat_natCast]; exact h2
  · unfold bodyWords
    rw [e1, e2, Int.toNat_natCast, Int.toNat_natCast]; exact h3
theorem begins_flat (hL : ∀ j, j < L.length → oFault (nthG L j) = 0) : ∀ (d k : Nat), k + d = L.length →
    begins (L.flatMap (obWords f)) (offs L k) = (List.range d).map (fun i => offs L (k + i)) ∧ fine (L.flatMap (obWords f)) (offs L k) = true
  | 0, k, h => by
    have hk : k = L.length := by omega
    subst hk
    exact ⟨begins_end (by rw [flat_len]; omega), fine_end (by rw [flat_len]; omega)⟩
  | d + 1, k, h => by
    have hk : k < L.length := by omega
    obtain ⟨h1, h2, _⟩ := flat_obj (f := f) hk (hL k hk)
    have h3 := offs_step (os := L) hk
    have h4 := offs_mono (os := L) (i := k + 1) (j := L.length) (by omega) (Nat.le_refl _)
    have h5 : 0 < oLong (nthG L k) := by unfold oLong; omega
    have hlt : offs L k < (L.flatMap (obWords f)).length := by rw [flat_len]; omega
    have hs : stepOk (L.flatMap (obWords f)) (offs L k) = true := stepOk_iff.2 ⟨h1, by rw [h2, flat_len]; omega⟩
    obtain ⟨i1, i2⟩ := begins_flat hL d (k + 1) (by omega)
    have he : offs L k + sLong (nth (L.flatMap (obWords f)) (offs L k)) = offs L (k + 1) := by rw [h2, h3]
    rw [begins_step hlt hs, fine_step hlt hs, he, i1, i2]
    refine ⟨?_, rfl⟩
    rw [List.range_succ_eq_map, List.map_cons, List.map_map]
    simp [Function.comp_def, Nat.add_assoc, Nat.add_comm 1]
theorem begins_all (hL : ∀ j, j < L.length → oFault (nthG L j) = 0) : (begins (L.flatMap (obWords f)) 0).length = L.length ∧ fine (L.flatMap (obWords f)) 0 = true ∧ ∀ k, k < L.length → st (L.flatMap (obWords f)) k = offs L k := by
  obtain ⟨h1, h2⟩ := begins_flat (f := f) hL L.length 0 (by omega)
  rw [offs_zero] at h1 h2
  refine ⟨by rw [h1]; simp, h2, fun k hk => ?_⟩
  unfold st
  rw [h1, nthG_get _ _ (by simpa using hk)]
  simp
end

section
variable {os : List Ob} {n : Nat}
theorem lay_total (hp : pErr os n = 0) : offs (layObs os n) (layObs os n).length = n := by
  obtain ⟨_, ht⟩ := pErr_zero hp
  unfold offs
  rw [List.take_length]
  unfold layObs
  rw [List.map_append, List.sum_append]
  have e1 : (os.map oLong).sum = offs os os.length := by unfold offs; rw [List.take_length]
  rw [e1]
  unfold restObs
  split
  · simp; omega
  · simp [oLong]; omega
theorem lay_faults (hn : n ≤ 256) (hp : pErr os n = 0) : ∀ j, j < (layObs os n).length → oFault (nthG (layObs os n) j) = 0 := by
  intro j hj
  obtain ⟨hf, ht⟩ := pErr_zero hp
  unfold layObs at hj ⊢
  rw [List.length_append] at hj
  by_cases h : j < os.length
  · rw [nthG_app_left _ _ h]; exact fault_zero hf j h
  · rw [nthG_app_right _ _ (by omega) hj]
    exact rest_fault (k := n - offs os os.length) (by omega) (by rw [nthG_get _ _ (by omega)]; exact List.getElem_mem _)
theorem lay_offs {j : Nat} (hj : j ≤ os.length) : offs (layObs os n) j = offs os j := by
  unfold offs layObs
  rw [List.take_append_of_le_length hj]
theorem lay_zero (h : layErr os (n : Int) = 0) : n ≤ 256 ∧ pErr os n = 0 ∧ ∀ j, j < os.length → refsFit (pMap os n os.length) (nthG os j) = true := by
  unfold layErr at h
  split at h
  · cases h
  · rename_i h0
    rw [Int.toNat_natCast] at h
    split at h
    · rename_i h1
      split at h
      · rename_i h2
        rw [List.all_eq_true] at h2
        exact ⟨by omega, h1, fun j hj => h2 _ (by rw [nthG_get _ _ hj]; exact List.getElem_mem _)⟩
      · cases h
    · rename_i h1; exact absurd h h1
/-- Every reference of what is laid finds its object. -/
theorem lay_ix (hn : n ≤ 256) (hp : pErr os n = 0) {i : Int} (hi : (pMap os n os.length i).isSome = true) : ixOf (layWords os n) ((pMap os n os.length i).getD 0) = some i := by
  obtain ⟨_, ht⟩ := pErr_zero hp
  obtain ⟨b1, _, b3⟩ := begins_all (f := pMap os n os.length) (lay_faults hn hp)
  by_cases h1 : i = -1
  · subst h1
    rw [pMap_null]
    exact ixOf_null
  · obtain ⟨y, hy⟩ := Option.isSome_iff_exists.1 hi
    obtain ⟨j, hj, rfl, hf⟩ := pMap_some os.length h1 hy
    rw [pMap_hit os.length ht (Nat.le_refl _) hj hf]
    have hjL : j < (layObs os n).length := by unfold layObs; simp; omega
    have e1 : st (layWords os n) j = offs os j := by
      have := b3 j hjL
      rw [lay_offs (by omega)] at this
      exact this
    have hfz := lay_faults hn hp j hjL
    have hvf : vF (nth (layWords os n) (st (layWords os n) j)) = false := by
      have h4 := (flat_obj (f := pMap os n os.length) hjL hfz).2.2.2.1
      rw [lay_offs (by omega)] at h4
      rw [e1]
      have h5 : nthG (layObs os n) j = nthG os j := by unfold layObs; exact nthG_app_left _ _ hj
      rw [h5, hf] at h4
      exact h4
    have := ixOf_hit (zs := layWords os n) (j := j) (by show j < (begins (layWords os n) 0).length; rw [show (begins (layWords os n) 0).length = (layObs os n).length from b1]; exact hjL) hvf
    rw [e1] at this
    exact this
theorem lay_fit (h : ∀ j, j < os.length → refsFit (pMap os n os.length) (nthG os j) = true) {j : Nat} (hj : j < (layObs os n).length) : refsFit (pMap os n os.length) (nthG (layObs os n) j) = true := by
  unfold layObs at hj ⊢
  rw [List.length_append] at hj
  by_cases hl : j < os.length
  · rw [nthG_app_left _ _ hl]; exact h j hl
  · rw [nthG_app_right _ _ (by omega) hj]
    exact rest_fit _ (by rw [nthG_get _ _ (by omega)]; exact List.getElem_mem _)
/-- What is laid is told as it was. -/
theorem lay_told (h : layErr os (n : Int) = 0) : (layWords os n).length = n ∧ arErr (layWords os n) = 0 ∧ (begins (layWords os n) 0).length = (layObs os n).length ∧ ∀ j, j < (layObs os n).length → obOf (layWords os n) (st (layWords os n) j) = nthG (layObs os n) j := by
  obtain ⟨hn, hp, hfit⟩ := lay_zero h
  have hfz := lay_faults hn hp
  obtain ⟨b1, b2, b3⟩ := begins_all (f := pMap os n os.length) hfz
  have hlen : (layWords os n).length = n := by
    show ((layObs os n).flatMap _).length = n
    rw [flat_len, lay_total hp]
  have hrefs : ∀ j, j < (layObs os n).length → refWords (layWords os n) (st (layWords os n) j) = (nthG (layObs os n) j).2.1.map (fun i => (pMap os n os.length i).getD 0) := fun j hj => by
    rw [show st (layWords os n) j = offs (layObs os n) j from b3 j hj]
    exact (flat_obj (f := pMap os n os.length) hj (hfz j hj)).2.2.2.2.1
  refine ⟨hlen, ?_, b1, fun j hj => ?_⟩
  · refine arErr_ok (spErr_ok (by omega) b2) ?_
    unfold refsOk
    refine all_of fun j hj => ?_
    have hj' : j < (layObs os n).length := by rw [← b1]; exact hj
    show refsIn (layWords os n) (st (layWords os n) j) = true
    unfold refsIn
    rw [hrefs j hj', List.all_eq_true]
    intro v hv
    obtain ⟨i, hi, rfl⟩ := List.mem_map.1 hv
    have hf := lay_fit hfit hj'
    unfold refsFit at hf
    rw [List.all_eq_true] at hf
    rw [lay_ix hn hp (hf i hi)]; rfl
  · obtain ⟨_, _, h3, h4, _, h6⟩ := flat_obj (f := pMap os n os.length) hj (hfz j hj)
    unfold obOf
    rw [hrefs j hj]
    rw [show st (layWords os n) j = offs (layObs os n) j from b3 j hj]
    have e1 : vT (nth (layWords os n) (offs (layObs os n) j)) = (nthG (layObs os n) j).1 := h3
    have e2 : vF (nth (layWords os n) (offs (layObs os n) j)) = (nthG (layObs os n) j).2.2.2 := h4
    have e3 : bodyWords (layWords os n) (offs (layObs os n) j) = (nthG (layObs os n) j).2.2.1 := h6
    rw [e1, e2, e3, List.map_map]
    have e4 : (nthG (layObs os n) j).2.1.map ((fun v => (ixOf (layWords os n) v).getD 0) ∘ (fun i => (pMap os n os.length i).getD 0)) = (nthG (layObs os n) j).2.1 := by
      have hf := lay_fit hfit hj
      unfold refsFit at hf
      rw [List.all_eq_true] at hf
      refine (List.map_congr_left (g := id) fun i hi => ?_).trans (List.map_id _)
      show (ixOf (layWords os n) ((pMap os n os.length i).getD 0)).getD 0 = i
      rw [lay_ix hn hp (hf i hi)]; rfl
    rw [e4]
end

section
variable {zs : List Int}
/-- The descriptions of an arena that is right: where they would be laid is where they lie. -/
def toldObs (zs : List Int) : List Ob := (begins zs 0).map (obOf zs)
theorem told_len : (toldObs zs).length = (begins zs 0).length := by simp [toldObs]
theorem told_nth {k : Nat} (hk : k < (begins zs 0).length) : nthG (toldObs zs) k = obOf zs (st zs k) := by
  unfold toldObs
  rw [nthG_map _ _ _ hk]; rfl
theorem told_oLong {s : Nat} (hs : stepOk zs s = true) : oLong (obOf zs s) = sLong (nth zs s) := by
  unfold oLong obOf
  simp only [List.length_map]
  rw [refWords_len hs, bodyWords_len hs]
  rfl
theorem told_offs (hf : fine zs 0 = true) : ∀ k, k ≤ (begins zs 0).length → (begins zs 0).drop k = begins zs (offs (toldObs zs) k) ∧ fine zs (offs (toldObs zs) k) = true
  | 0, _ => ⟨rfl, hf⟩
  | k + 1, hk => by
    obtain ⟨i1, i2⟩ := told_offs hf k (by omega)
    obtain ⟨g1, g2, g3, g4, g5⟩ := begins_drop i1 i2 (by omega)
    have e1 : st zs k = offs (toldObs zs) k := g1
    have e2 : offs (toldObs zs) (k + 1) = offs (toldObs zs) k + sLong (nth zs (offs (toldObs zs) k)) := by
      rw [offs_step (by rw [told_len]; omega), told_nth (by omega), e1, told_oLong g3]
    rw [e2]
    exact ⟨g4, g5⟩
theorem told_st (hf : fine zs 0 = true) {k : Nat} (hk : k < (begins zs 0).length) : st zs k = offs (toldObs zs) k ∧ offs (toldObs zs) k < zs.length ∧ stepOk zs (offs (toldObs zs) k) = true := by
  obtain ⟨i1, i2⟩ := told_offs hf k (by omega)
  obtain ⟨g1, g2, g3, _⟩ := begins_drop i1 i2 hk
  exact ⟨g1, g2, g3⟩
theorem told_total (hf : fine zs 0 = true) : offs (toldObs zs) (begins zs 0).length = zs.length := by
  obtain ⟨i1, i2⟩ := told_offs hf _ (Nat.le_refl _)
  rw [List.drop_length] at i1
  have h1 := begins_nil i1.symm i2
  rcases Nat.eq_zero_or_pos (begins zs 0).length with h0 | h0
  · rw [h0] at h1 ⊢
    rw [offs_zero] at h1 ⊢
    omega
  · obtain ⟨g1, g2, g3⟩ := told_st hf (k := (begins zs 0).length - 1) (by omega)
    have e2 : offs (toldObs zs) (begins zs 0).length = offs (toldObs zs) ((begins zs 0).length - 1) + sLong (nth zs (offs (toldObs zs) ((begins zs 0).length - 1))) := by
      have := offs_step (os := toldObs zs) (k := (begins zs 0).length - 1) (by rw [told_len]; omega)
      rw [show (begins zs 0).length - 1 + 1 = (begins zs 0).length by omega, told_nth (by omega), g1, told_oLong g3] at this
      exact this
    have := (stepOk_iff.1 g3).2
    omega
/-- What is told is laid as it was. -/
theorem told_laid (hz : ∀ z ∈ zs, (Lit.int .u64 z).wf = true) (h : arErr zs = 0) : layErr (toldObs zs) (zs.length : Int) = 0 ∧ layWords (toldObs zs) zs.length = zs := by
  obtain ⟨hsp, hrf⟩ := arErr_zero h
  obtain ⟨h256, hf⟩ := spErr_zero hsp
  have hlen : (toldObs zs).length = (begins zs 0).length := told_len
  have hfz : ∀ j, j < (toldObs zs).length → oFault (nthG (toldObs zs) j) = 0 := fun j hj => by
    rw [hlen] at hj
    rw [told_nth hj]
    obtain ⟨e1, g2, g3⟩ := told_st hf hj
    rw [← e1] at g2 g3
    obtain ⟨R, Bd, hR, hBd, _, _, _, _, _, f6, _⟩ := spot_facts g3 hz g2
    unfold oFault obOf
    simp only [List.length_map]
    rw [refWords_len g3, bodyWords_len g3, hR, hBd, Int.toNat_natCast, Int.toNat_natCast]
    exact f6
  have htot : offs (toldObs zs) (toldObs zs).length = zs.length := by rw [hlen]; exact told_total hf
  have hp : pErr (toldObs zs) zs.length = 0 := pErr_ok (fault_ok hfz) (by omega)
  have hgood : ∀ k, k < (begins zs 0).length → ∀ v ∈ refWords zs (st zs k), (ixOf zs v).isSome = true := fun k hk v hv => by
    unfold refsOk refsIn at hrf
    simp only [List.all_eq_true] at hrf
    exact hrf _ (st_mem hk) v hv
  have hback : ∀ v, (ixOf zs v).isSome = true → pMap (toldObs zs) zs.length (toldObs zs).length ((ixOf zs v).getD 0) = some v := fun v hv => by
    by_cases h0 : v = 0
    · subst h0
      rw [ixOf_null]
      exact pMap_null _
    · obtain ⟨i, hi⟩ := Option.isSome_iff_exists.1 hv
      obtain ⟨j, hj, rfl, he, hfj⟩ := ixOf_some h0 hi
      rw [hi]
      show pMap (toldObs zs) zs.length (toldObs zs).length (j : Int) = some v
      rw [pMap_hit _ (by omega) (Nat.le_refl _) (by rw [hlen]; exact hj) (by rw [told_nth hj]; exact hfj), ← (told_st hf hj).1, he]
  have hfit : ∀ j, j < (toldObs zs).length → refsFit (pMap (toldObs zs) zs.length (toldObs zs).length) (nthG (toldObs zs) j) = true := fun j hj => by
    rw [hlen] at hj
    rw [told_nth hj]
    unfold refsFit obOf
    rw [List.all_eq_true]
    intro i hi
    obtain ⟨v, hv, rfl⟩ := List.mem_map.1 hi
    rw [hback v (hgood j hj v hv)]; rfl
  refine ⟨fit_all h256 hp hfit, ?_⟩
  have hobs : layObs (toldObs zs) zs.length = toldObs zs := by unfold layObs; rw [htot]; simp [restObs]
  show (layObs (toldObs zs) zs.length).flatMap (obWords (pMap (toldObs zs) zs.length (toldObs zs).length)) = zs
  rw [hobs]
  have main : ∀ d k, k + d = (toldObs zs).length → ((toldObs zs).drop k).flatMap (obWords (pMap (toldObs zs) zs.length (toldObs zs).length)) = zs.drop (offs (toldObs zs) k) := by
    intro d
    induction d with
    | zero =>
      intro k hk
      rw [List.drop_eq_nil_of_le (by omega), show k = (toldObs zs).length by omega, htot, List.drop_length]; rfl
    | succ d ih =>
      intro k hk
      have hkl : k < (toldObs zs).length := by omega
      have hkb : k < (begins zs 0).length := by omega
      rw [List.drop_eq_getElem_cons hkl, List.flatMap_cons, ih (k + 1) (by omega), ← nthG_get _ _ hkl, told_nth hkb]
      obtain ⟨e1, g2, g3⟩ := told_st hf hkb
      have g2' := g2
      have g3' := g3
      rw [← e1] at g2 g3
      obtain ⟨R, Bd, hR, hBd, f1, _, _, _, _, _, f7, f8⟩ := spot_facts g3 hz g2
      have hst : offs (toldObs zs) (k + 1) = st zs k + (1 + R + Bd) := by rw [offs_step hkl, told_nth hkb, told_oLong g3, f7, ← e1]
      rw [hst, ← e1]
      have hw : obWords (pMap (toldObs zs) zs.length (toldObs zs).length) (obOf zs (st zs k)) = nth zs (st zs k) :: (refWords zs (st zs k) ++ bodyWords zs (st zs k)) := by
        unfold obWords obOf
        simp only [List.length_map]
        rw [refWords_len g3, bodyWords_len g3, hR, hBd, Int.toNat_natCast, Int.toNat_natCast, f8, List.map_map]
        congr 2
        refine (List.map_congr_left (g := id) fun v hv => ?_).trans (List.map_id _)
        show (pMap (toldObs zs) zs.length (toldObs zs).length ((ixOf zs v).getD 0)).getD 0 = v
        rw [hback v (hgood k hkb v hv)]; rfl
      rw [hw]
      unfold refWords bodyWords
      rw [hR, hBd, Int.toNat_natCast, Int.toNat_natCast]
      have c1 : zs.drop (st zs k) = nth zs (st zs k) :: zs.drop (st zs k + 1) := by rw [nth_get _ _ g2]; exact List.drop_eq_getElem_cons g2
      have c2 : zs.drop (st zs k + 1) = (zs.drop (st zs k + 1)).take R ++ zs.drop (st zs k + 1 + R) := by
        rw [show zs.drop (st zs k + 1 + R) = (zs.drop (st zs k + 1)).drop R by rw [List.drop_drop]]
        exact (List.take_append_drop R _).symm
      have c3 : zs.drop (st zs k + 1 + R) = (zs.drop (st zs k + 1 + R)).take Bd ++ zs.drop (st zs k + (1 + R + Bd)) := by
        rw [show zs.drop (st zs k + (1 + R + Bd)) = (zs.drop (st zs k + 1 + R)).drop Bd by rw [List.drop_drop]; congr 1; omega]
        exact (List.take_append_drop Bd _).symm
      rw [c1]
      simp only [List.cons_append, List.append_assoc]
      rw [← c3, ← c2]
  have := main (toldObs zs).length 0 (by omega)
  rw [offs_zero] at this
  simpa using this
end
end Go.Proofs.Ytjefbekdjgmmbaa
