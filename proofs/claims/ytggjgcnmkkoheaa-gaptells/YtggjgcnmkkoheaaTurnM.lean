/-
  What taking and giving make of an arena, over no program.
-/
import Derived.Test.YtggjgcnmkkoheaaJoinM
namespace Go.Proofs.Ytggjgcnmkkoheaa
open Go.RowKit

/-- 'ys' is 'zs' with the 'L' words from 's' on made an object of 'N' words, with the header 'V', and a free one of the rest. -/
structure Cut (zs ys : List Int) (s N L : Nat) (V : Int) : Prop where
  len : ys.length = zs.length
  at_ : nth ys s = V
  in_ : ∀ k, s < k → k < s + N → nth ys k = 0
  mid : N < L → nth ys (s + N) = fWord (L - N)
  rest : ∀ k, s + N < k → k < s + L → nth ys k = 0
  out : ∀ k, k < s ∨ s + L ≤ k → nth ys k = nth zs k

theorem takeL_cut {zs : List Int} {s N L : Nat} {V : Int} (hN : 0 < N) (hNL : N ≤ L) (hL : s + L ≤ zs.length) : Cut zs (takeL zs s N L V) s N L V := by
  unfold takeL
  by_cases h : N = L
  · subst h
    rw [if_pos rfl]
    refine ⟨putL_len hL, ?_, fun k h1 h2 => ?_, fun h => absurd h (by omega), fun k h1 h2 => absurd h2 (by omega), fun k h1 => ?_⟩
    · rw [nth_putL _ hN hL, if_pos rfl]
    · rw [nth_putL _ hN hL, if_neg (by omega), if_pos (by omega)]
    · rw [nth_putL _ hN hL, if_neg (by omega), if_neg (by omega)]
  · rw [if_neg h]
    have e1 : (putL zs s N V).length = zs.length := putL_len (by omega)
    have h2 : s + N + (L - N) ≤ (putL zs s N V).length := by omega
    have key : ∀ k, nth (putL (putL zs s N V) (s + N) (L - N) (fWord (L - N))) k = if k = s + N then fWord (L - N) else if s + N ≤ k ∧ k < s + N + (L - N) then 0 else if k = s then V else if s ≤ k ∧ k < s + N then 0 else nth zs k := fun k => by
      rw [nth_putL _ (by omega) h2, nth_putL _ hN (by omega)]
    refine ⟨by rw [putL_len h2, e1], ?_, fun k h1 h2 => ?_, fun h => ?_, fun k h1 h2 => ?_, fun k h1 => ?_⟩
    · rw [key, if_neg (by omega), if_neg (by omega), if_pos rfl]
    · rw [key, if_neg (by omega), if_neg (by omega), if_neg (by omega), if_pos (by omega)]
    · rw [key, if_pos rfl]
    · rw [key, if_neg (by omega), if_pos (by omega)]
    · rw [key, if_neg (by omega), if_neg (by omega), if_neg (by omega), if_neg (by omega)]
/-- .. and given back. -/
theorem giveL_cut {zs ys : List Int} {s N L : Nat} {V : Int} (h : Cut zs ys s N L V) (hN : 0 < N) (hNL : N ≤ L) (hL : s + L ≤ zs.length) : Cut zs (putL ys s N (fWord N)) s N L (fWord N) := by
  have hl : s + N ≤ ys.length := by rw [h.len]; omega
  have key := fun k => nth_putL (zs := ys) (v := fWord N) k hN hl
  refine ⟨by rw [putL_len hl, h.len], ?_, fun k h1 h2 => ?_, fun h' => ?_, fun k h1 h2 => ?_, fun k h1 => ?_⟩
  · rw [key, if_pos rfl]
  · rw [key, if_neg (by omega), if_pos (by omega)]
  · rw [key, if_neg (by omega), if_neg (by omega)]; exact h.mid h'
  · rw [key, if_neg (by omega), if_neg (by omega)]; exact h.rest k h1 h2
  · rw [key, if_neg (by omega), if_neg (by omega)]; exact h.out k h1

section
variable {zs ys : List Int} {s N L : Nat} {V : Int}
theorem other_out {x k : Nat} (hs : s ∈ begins zs 0) (hL : sLong (nth zs s) = L) (hx : x ∈ begins zs 0) (hne : x ≠ s) (h1 : x ≤ k) (h2 : k < x + sLong (nth zs x)) : k < s ∨ s + L ≤ k := by
  rcases Nat.lt_or_ge k s with h | h
  · exact .inl h
  · right
    rcases Nat.lt_or_ge k (s + L) with h3 | h3
    · exact absurd (begins_one hx hs h1 h2 h (by omega)) hne
    · exact h3
theorem cut_other {x k : Nat} (h : Cut zs ys s N L V) (hs : s ∈ begins zs 0) (hL : sLong (nth zs s) = L) (hx : x ∈ begins zs 0) (hne : x ≠ s) (h1 : x ≤ k) (h2 : k < x + sLong (nth zs x)) : nth ys k = nth zs k :=
  h.out k (other_out hs hL hx hne h1 h2)
theorem cut_word {x : Nat} (h : Cut zs ys s N L V) (hs : s ∈ begins zs 0) (hL : sLong (nth zs s) = L) (hx : x ∈ begins zs 0) (hne : x ≠ s) : nth ys x = nth zs x :=
  cut_other h hs hL hx hne (Nat.le_refl _) (by have := sLong_pos (nth zs x); omega)
def CutS (zs : List Int) (s N L : Nat) (x : Nat) : Prop := x ∈ begins zs 0 ∨ (x = s + N ∧ N < L)
theorem cut_tiles (h : Cut zs ys s N L V) (hl : zs.length ≤ 256) (hf : fine zs 0 = true) (hs : s ∈ begins zs 0) (hL : sLong (nth zs s) = L) (hV : vBad V = false) (hN : sLong V = N) (hNL : N ≤ L) : Tiles ys (CutS zs s N L) := by
  have hN0 : 0 < N := by have := sLong_pos V; omega
  have hsL : s + L ≤ zs.length := by have := (stepOk_iff.1 (begins_mem hs).2.2).2; omega
  refine ⟨fun h0 => ?_, fun x hS hx => ?_, fun x hS hx hn => ?_, fun x t hS h1 h2 h3 hT => ?_⟩
  · rw [h.len] at h0
    exact .inl (begins_zero hf h0)
  · rw [h.len] at hx
    rcases hS with hm | ⟨rfl, hlt⟩
    · by_cases hne : x = s
      · subst hne
        rw [stepOk_iff, h.at_, h.len]
        exact ⟨hV, by omega⟩
      · have hst := (begins_mem hm).2.2
        rw [stepOk_iff] at hst ⊢
        rw [cut_word h hs hL hm hne, h.len]
        exact hst
    · obtain ⟨f1, f2, f3, f4⟩ := fWord_facts (n := L - N) (by omega) (by omega)
      rw [stepOk_iff, h.mid hlt, f3, h.len]
      exact ⟨f1, by omega⟩
  · rw [h.len] at hx hn
    rcases hS with hm | ⟨rfl, hlt⟩
    · by_cases hne : x = s
      · subst hne
        rw [h.at_, hN] at hn ⊢
        rcases Nat.lt_or_ge N L with hlt | hge
        · exact .inr ⟨rfl, hlt⟩
        · have e : N = L := by omega
          subst e
          left
          have := begins_next hf hm (by rw [hL]; exact hn)
          rwa [hL] at this
      · rw [cut_word h hs hL hm hne] at hn ⊢
        exact .inl (begins_next hf hm hn)
    · obtain ⟨f1, f2, f3, f4⟩ := fWord_facts (n := L - N) (by omega) (by omega)
      rw [h.mid hlt, f3] at hn ⊢
      rw [show s + N + (L - N) = s + L by omega] at hn ⊢
      left
      have := begins_next hf hs (by rw [hL]; exact hn)
      rwa [hL] at this
  · rw [h.len] at h3
    rcases hS with hm | ⟨rfl, hlt⟩
    · by_cases hne : x = s
      · subst hne
        rw [h.at_, hN] at h2
        rcases hT with hm2 | ⟨rfl, _⟩
        · have := begins_apart hm hm2 h1; omega
        · omega
      · rw [cut_word h hs hL hm hne] at h2
        rcases hT with hm2 | ⟨rfl, hlt⟩
        · have := begins_apart hm hm2 h1; omega
        · have := other_out hs hL hm hne (by omega) h2; omega
    · obtain ⟨f1, f2, f3, f4⟩ := fWord_facts (n := L - N) (by omega) (by omega)
      rw [h.mid hlt, f3] at h2
      rcases hT with hm2 | ⟨rfl, _⟩
      · have := begins_apart hs hm2 (by omega); omega
      · omega
theorem cut_refs {x : Nat} (h : Cut zs ys s N L V) (hs : s ∈ begins zs 0) (hL : sLong (nth zs s) = L) (hx : x ∈ begins zs 0) (hne : x ≠ s) : refWords ys x = refWords zs x :=
  refWords_same h.len fun _ h1 h2 => cut_other h hs hL hx hne h1 h2
theorem cut_own (h : Cut zs ys s N L V) (hN : sLong V = N) : refWords ys s = List.replicate (refWords ys s).length 0 := by
  refine nth_ext (by simp) fun j hj => ?_
  rw [nth_replicate]
  have hj' : j < (vR V).toNat := by
    unfold refWords at hj
    rw [h.at_] at hj
    simp at hj
    omega
  rw [refWords_at (by rw [h.at_]; exact hj')]
  exact h.in_ _ (by omega) (by have : sLong V = 1 + (vR V).toNat + (vB V).toNat := rfl; omega)
theorem cut_mid (h : Cut zs ys s N L V) (hl : zs.length ≤ 256) (hlt : N < L) (hsL : s + L ≤ zs.length) : refWords ys (s + N) = [] := by
  have hR : vR (fWord (L - N)) = 0 := (word_of_header (fWord_fault (n := L - N) (by omega) (by omega))).2.1
  unfold refWords
  rw [h.mid hlt, hR]
  simp
theorem cut_fine (h : Cut zs ys s N L V) (he : arErr zs = 0) (hs : s ∈ begins zs 0) (hfs : vF (nth zs s) = true) (hL : sLong (nth zs s) = L) (hV : vBad V = false) (hN : sLong V = N) (hNL : N ≤ L) : arErr ys = 0 := by
  obtain ⟨hl, hf, hr⟩ := arErr_iff.1 he
  have hT := cut_tiles h hl hf hs hL hV hN hNL
  have hsL : s + L ≤ zs.length := by have := (stepOk_iff.1 (begins_mem hs).2.2).2; omega
  refine arErr_iff.2 ⟨by rw [h.len]; exact hl, hT.fine, refsOk_char.2 fun x hx v hv => ?_⟩
  rcases ((hT.mem x).1 hx).1 with hm | ⟨rfl, hlt⟩
  · by_cases hne : x = s
    · subst hne
      rw [cut_own h hN] at hv
      exact .inl (List.mem_replicate.1 hv).2
    · rw [cut_refs h hs hL hm hne] at hv
      rcases refsOk_char.1 hr x hm v hv with h0 | ⟨t, ht, hft, hvt⟩
      · exact .inl h0
      · have hts : t ≠ s := fun e => by rw [e, hfs] at hft; cases hft
        exact .inr ⟨t, (hT.mem t).2 ⟨.inl ht, by rw [h.len]; exact (begins_mem ht).2.1⟩, by rw [cut_word h hs hL ht hts]; exact hft, hvt⟩
  · rw [cut_mid h hl hlt hsL] at hv; cases hv
theorem cut_held (h : Cut zs ys s N L V) (he : arErr zs = 0) (hs : s ∈ begins zs 0) (hfs : vF (nth zs s) = true) (hL : sLong (nth zs s) = L) (hV : vBad V = false) (hN : sLong V = N) (hNL : N ≤ L) : heldAt ys s = false := by
  obtain ⟨hl, hf, hr⟩ := arErr_iff.1 he
  have hT := cut_tiles h hl hf hs hL hV hN hNL
  have hsL : s + L ≤ zs.length := by have := (stepOk_iff.1 (begins_mem hs).2.2).2; omega
  refine bool_not fun hh => ?_
  unfold heldAt at hh
  simp only [List.any_eq_true, Bool.and_eq_true, bne_iff_ne, beq_iff_eq, ne_eq] at hh
  obtain ⟨x, hx, hne, v, hv, rfl⟩ := hh
  rcases ((hT.mem x).1 hx).1 with hm | ⟨rfl, hlt⟩
  · rw [cut_refs h hs hL hm hne] at hv
    rcases refsOk_char.1 hr x hm _ hv with h0 | ⟨t, ht, hft, hvt⟩
    · omega
    · obtain rfl : s = t := by omega
      rw [hfs] at hft; cases hft
  · rw [cut_mid h hl hlt hsL] at hv; cases hv
theorem cut_live (h : Cut zs ys s N L V) (he : arErr zs = 0) (hs : s ∈ begins zs 0) (hL : sLong (nth zs s) = L) (hV : vBad V = false) (hN : sLong V = N) (hNL : N ≤ L) : s ∈ begins ys 0 := by
  obtain ⟨hl, hf, _⟩ := arErr_iff.1 he
  exact ((cut_tiles h hl hf hs hL hV hN hNL).mem s).2 ⟨.inl hs, by rw [h.len]; exact (begins_mem hs).2.1⟩
/-- Given back, the same words are free. -/
theorem cut_free (h : Cut zs ys s N L V) (he : arErr zs = 0) (hs : s ∈ begins zs 0) (hfs : vF (nth zs s) = true) (hL : sLong (nth zs s) = L) (hV : vBad V = false) (hN : sLong V = N) (hNL : N ≤ L) (hVF : vF V = true) (k : Nat) : freeAt ys k = freeAt zs k := by
  obtain ⟨hl, hf, _⟩ := arErr_iff.1 he
  have hT := cut_tiles h hl hf hs hL hV hN hNL
  have hsL : s + L ≤ zs.length := by have := (stepOk_iff.1 (begins_mem hs).2.2).2; omega
  by_cases hk : k < zs.length
  · obtain ⟨x, hx, h1, h2⟩ := begins_cover hf (Nat.zero_le _) hk
    by_cases hne : x = s
    · subst hne
      rw [freeAt_in hx h1 h2, hfs]
      rw [hL] at h2
      rcases Nat.lt_or_ge k (x + N) with h3 | h3
      · rw [freeAt_in (cut_live h he hx hL hV hN hNL) h1 (by rw [h.at_, hN]; exact h3), h.at_]; exact hVF
      · have hlt : N < L := by omega
        obtain ⟨f1, f2, f3, f4⟩ := fWord_facts (n := L - N) (by omega) (by omega)
        have hm : x + N ∈ begins ys 0 := (hT.mem _).2 ⟨.inr ⟨rfl, hlt⟩, by rw [h.len]; omega⟩
        rw [freeAt_in hm h3 (by rw [h.mid hlt, f3]; omega), h.mid hlt]; exact f2
    · have hm : x ∈ begins ys 0 := (hT.mem _).2 ⟨.inl hx, by rw [h.len]; exact (begins_mem hx).2.1⟩
      have e := cut_word h hs hL hx hne
      rw [freeAt_in hx h1 h2, freeAt_in hm h1 (by rw [e]; exact h2), e]
  · rw [freeAt_out (by rw [h.len]; omega), freeAt_out (by omega)]
theorem cut_gaps (h : Cut zs ys s N L V) (he : arErr zs = 0) (hs : s ∈ begins zs 0) (hfs : vF (nth zs s) = true) (hL : sLong (nth zs s) = L) (hV : vBad V = false) (hN : sLong V = N) (hNL : N ≤ L) (hVF : vF V = true) : gapsL ys = gapsL zs := by
  unfold gapsL
  rw [h.len]
  exact runsTo_congr _ fun k _ => cut_free h he hs hfs hL hV hN hNL hVF k
theorem cut_join (h : Cut zs ys s N L V) (he : arErr zs = 0) (hs : s ∈ begins zs 0) (hfs : vF (nth zs s) = true) (hL : sLong (nth zs s) = L) (hV : vBad V = false) (hN : sLong V = N) (hNL : N ≤ L) (hVF : vF V = true) : joinL ys = joinL zs := by
  refine join_eq h.len (cut_gaps h he hs hfs hL hV hN hNL hVF) fun k hk => h.out k ?_
  rcases Nat.lt_or_ge k s with h1 | h1
  · exact .inl h1
  · right
    rcases Nat.lt_or_ge k (s + L) with h2 | h2
    · rw [freeAt_in hs h1 (by rw [hL]; exact h2), hfs] at hk; cases hk
    · exact h2
/-- The description of the object that was taken. -/
theorem cut_ob {r b t : Int} (h : Cut zs ys s N L (hWord r b t false)) (hh : hFault r b t false = 0) (hN : sLong (hWord r b t false) = N) (hsN : s + N ≤ zs.length) : obOf ys s = (t, List.replicate r.toNat (-1), List.replicate b.toNat 0, false) := by
  obtain ⟨w1, w2, w3, w4, w5⟩ := word_of_header hh
  have hst : stepOk ys s = true := stepOk_iff.2 ⟨by rw [h.at_]; exact w1, by rw [h.at_, hN, h.len]; exact hsN⟩
  have e1 : refWords ys s = List.replicate r.toNat 0 := by
    rw [cut_own h hN, refWords_len hst, h.at_, w2]
  have e2 : bodyWords ys s = List.replicate b.toNat 0 := by
    have hbl := bodyWords_len hst
    rw [h.at_, w3] at hbl
    refine nth_ext (by rw [hbl]; simp) fun j hj => ?_
    rw [hbl] at hj
    rw [nth_replicate]
    unfold bodyWords
    rw [h.at_, w2, w3, nth_take_drop _ _ _ hj]
    have : sLong (hWord r b t false) = 1 + r.toNat + b.toNat := by unfold sLong; rw [w2, w3]
    exact h.in_ _ (by omega) (by omega)
  unfold obOf
  rw [e1, e2, h.at_, w4, w5, List.map_replicate, ixOf_null]
  rfl
end
end Go.Proofs.Ytggjgcnmkkoheaa
