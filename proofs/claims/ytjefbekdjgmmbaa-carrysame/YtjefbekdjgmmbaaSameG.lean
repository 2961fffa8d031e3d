/-
  The gaps of what is copied: none, or one behind all.
-/
import Derived.Test.YtjefbekdjgmmbaaSameC
import Derived.Test.YtjefbekdjgmmbaaGapM
namespace Go.Proofs.Ytjefbekdjgmmbaa
open Go.RowKit

theorem oLong_of {zs : List Int} {s : Nat} (hst : stepOk zs s = true) : oLong (obOf zs s) = sLong (nth zs s) := by
  unfold oLong obOf sLong
  rw [List.length_map, refWords_len hst, bodyWords_len hst]
theorem layObs_rest {os : List Ob} {n : Nat} (h : os.length < (layObs os n).length) : (nthG (layObs os n) os.length).2.2.2 = true := by
  have e : layObs os n = os ++ restObs (n - offs os os.length) := rfl
  rw [e] at h ⊢
  generalize n - offs os os.length = d at *
  rcases Nat.eq_zero_or_pos d with rfl | hd
  · rw [show restObs 0 = [] from rfl, List.append_nil] at h
    omega
  · rw [nthG_get _ _ h, List.getElem_append_right (Nat.le_refl _)]
    have e2 : restObs d = [(0, [], List.replicate (d - 1) 0, true)] := by unfold restObs; rw [if_neg (by omega)]
    simp [e2]
section
variable {zs fr : List Int} {n k : Nat} (hz : ∀ z ∈ zs, (Lit.int .u64 z).wf = true) (h0 : fromE zs fr = 0) (hn : n ≤ 256) (ht : tkL zs (camL zs fr) ≤ n)
include hz h0 hn ht
omit hn in
theorem copy_len : (copyL zs fr n).length = n := copyL_len hz (camL_lives hz h0) ht
theorem copy_free (hk : k < n) : freeAt (copyL zs fr n) k = decide (tkL zs (camL zs fr) ≤ k) := by
  have hl := camL_lives hz h0
  have hlay := obsC_lay hz hl hn ht
  obtain ⟨a1, a2, a3, a4⟩ := lay_told hlay
  have hlen := copy_len hz h0 ht
  obtain ⟨_, hp, _⟩ := lay_zero hlay
  obtain ⟨_, hfine, hoff⟩ := begins_all (f := pMap (obsC zs (camL zs fr)) n (obsC zs (camL zs fr)).length) (lay_faults hn hp)
  change fine (copyL zs fr n) 0 = true at hfine
  obtain ⟨s, hs, h1, h2⟩ := begins_cover hfine (Nat.zero_le k) (by rw [hlen]; exact hk)
  rw [freeAt_in hs h1 h2]
  obtain ⟨j, hj, rfl⟩ := List.getElem_of_mem hs
  have hst := (begins_mem hs).2.2
  have e0 : (begins (copyL zs fr n) 0)[j] = st (copyL zs fr n) j := by unfold st; rw [nthG_get _ _ hj]
  rw [e0] at hst h1 h2 ⊢
  have hjl : j < (layObs (obsC zs (camL zs fr)) n).length := a3 ▸ hj
  by_cases hc : j < (camL zs fr).length
  · obtain ⟨b1, b2, b3⟩ := copy_obj hz h0 hn ht hc
    have hf : vF (nth (copyL zs fr n) (st (copyL zs fr n) j)) = false := congrArg (fun o : Ob => o.2.2.2) b3
    have hL := oLong_of hst
    rw [b3, (obC_ok hz (hl _ (nth_mem hc))).2.1] at hL
    have hb := (copy_begins hz hl hn ht).2.2 j hc
    have hb' : st (copyL zs fr n) j = tkL zs ((camL zs fr).take j) := hb
    have hnx := tkL_next (zs := zs) hc
    have hle : tkL zs ((camL zs fr).take (j + 1)) ≤ tkL zs (camL zs fr) := by
      have e1 := obsC_offs hz hl (j + 1) (by omega)
      have e2 := obsC_offs hz hl (camL zs fr).length (Nat.le_refl _)
      rw [List.take_length] at e2
      rw [← e1, ← e2]
      exact offs_mono (by omega) (by rw [obsC_len]; omega)
    rw [hf]
    symm
    rw [decide_eq_false_iff_not]
    omega
  · have hjj : j = (camL zs fr).length := by
      unfold layObs restObs at hjl
      rw [List.length_append, obsC_len] at hjl
      split at hjl
      · simp at hjl; omega
      · simp at hjl; omega
    have hf : vF (nth (copyL zs fr n) (st (copyL zs fr n) j)) = true := by
      have e := congrArg (fun o : Ob => o.2.2.2) (a4 j hjl)
      have e2 : (nthG (layObs (obsC zs (camL zs fr)) n) j).2.2.2 = true := by
        have h1 := layObs_rest (os := obsC zs (camL zs fr)) (n := n) (by rw [obsC_len]; exact hjj ▸ hjl)
        rw [obsC_len, ← hjj] at h1
        exact h1
      exact e.trans e2
    have hb : st (copyL zs fr n) j = tkL zs (camL zs fr) := by
      have e1 := hoff j hjl
      change st (copyL zs fr n) j = _ at e1
      rw [e1, hjj]
      have e2 := obsC_offs hz hl (camL zs fr).length (Nat.le_refl _)
      rw [List.take_length] at e2
      rw [← e2]
      unfold layObs offs
      rw [List.take_append_of_le_length (by rw [obsC_len]; omega)]
    rw [hf]
    symm
    rw [decide_eq_true_eq]
    omega
theorem copy_gaps : gapsL (copyL zs fr n) = if tkL zs (camL zs fr) = n then [] else [((tkL zs (camL zs fr) : Int), (n : Int) - (tkL zs (camL zs fr) : Int))] := by
  unfold gapsL
  rw [copy_len hz h0 ht]
  have hf := fun {k} (hk : k < n) => copy_free hz h0 hn ht (k := k) hk
  generalize tkL zs (camL zs fr) = T at *
  have hT : runsTo (freeAt (copyL zs fr n)) T = [] := by
    have := runsTo_gap (f := freeAt (copyL zs fr n)) (a := 0) T fun k _ hk => by
      rw [hf (by omega), decide_eq_false_iff_not]; omega
    rw [Nat.zero_add] at this
    exact this
  by_cases h : T = n
  · rw [if_pos h]; subst h; exact hT
  · rw [if_neg h]
    have hd : T + ((n - T - 1) + 1) = n := by omega
    have := runsTo_run (f := freeAt (copyL zs fr n)) (a := T) (by
      rcases Nat.eq_zero_or_pos T with h1 | h1
      · exact .inl h1
      · right; rw [hf (by omega), decide_eq_false_iff_not]; omega) (n - T - 1) fun k h1 h2 => by
        rw [hf (by omega), decide_eq_true_eq]; exact h1
    rw [hd, hT] at this
    rw [this, List.nil_append]
    congr 2
    omega
end
end Go.Proofs.Ytjefbekdjgmmbaa
