/-
  What the law GapTells compares, over no program.
-/
import Derived.Test.YtggjgcnmkkoheaaTurnM
namespace Go.Proofs.Ytggjgcnmkkoheaa
open Go.RowKit

def tk0 (r b t : Int) (f : Bool) : Int := if hFault r b t f = 0 then (if f then 3 else 0) else hFault r b t f
def tkF (r b t : Int) (f : Bool) : Bool := hFault r b t f == 0 && f
/-- The room of the free object at 'a', among the first 'k' objects. -/
def roomTo (zs : List Int) (a : Int) : Nat → Nat
  | 0 => 0
  | k + 1 => if (st zs k : Int) = a ∧ vF (nth zs (st zs k)) = true then sLong (nth zs (st zs k)) else roomTo zs a k
def roomAt (zs : List Int) (a : Int) : Nat := if freeStart zs a then sLong (nth zs a.toNat) else 0
def heldR (zs : List Int) (s : Nat) : Bool := (List.range (livesI zs).length).any fun i => nth (livesI zs) i != (s : Int) && decide ((s : Int) ∈ named zs (nth (livesI zs) i).toNat)

section
variable {zs : List Int} {a r b t : Int} {f : Bool}
theorem tk0_some (h : tk0 r b t f ≠ 0) : takeE zs a r b t f = tk0 r b t f := by
  unfold tk0 at *
  unfold takeE
  by_cases h0 : hFault r b t f = 0
  · rw [if_pos h0] at h ⊢
    rw [if_pos h0]
    cases f
    · rw [if_neg (by decide)] at h; exact absurd rfl h
    · rw [if_pos rfl, if_pos rfl]
  · rw [if_neg h0, if_neg h0]
theorem tk0_none (h : tk0 r b t f = 0) : hFault r b t f = 0 ∧ f = false := by
  unfold tk0 at h
  by_cases h0 : hFault r b t f = 0
  · rw [if_pos h0] at h
    cases f
    · exact ⟨h0, rfl⟩
    · rw [if_pos rfl] at h; cases h
  · rw [if_neg h0] at h; exact absurd h h0
theorem roomTo_eq : ∀ k, k ≤ (begins zs 0).length → roomTo zs a k = if (∃ j, j < k ∧ (st zs j : Int) = a ∧ vF (nth zs (st zs j)) = true) then sLong (nth zs a.toNat) else 0
  | 0, _ => by rw [if_neg (by rintro ⟨j, hj, _⟩; omega)]; rfl
  | k + 1, hk => by
    have ih := roomTo_eq k (by omega)
    unfold roomTo
    by_cases h : (st zs k : Int) = a ∧ vF (nth zs (st zs k)) = true
    · rw [if_pos h, if_pos ⟨k, by omega, h⟩]
      have : a.toNat = st zs k := by omega
      rw [this]
    · rw [if_neg h, ih]
      by_cases h2 : ∃ j, j < k ∧ (st zs j : Int) = a ∧ vF (nth zs (st zs j)) = true
      · obtain ⟨j, hj, hh⟩ := h2
        rw [if_pos ⟨j, hj, hh⟩, if_pos ⟨j, by omega, hh⟩]
      · rw [if_neg h2, if_neg]
        rintro ⟨j, hj, hh⟩
        rcases Nat.lt_succ_iff_lt_or_eq.1 hj with h3 | h3
        · exact h2 ⟨j, h3, hh⟩
        · rw [h3] at hh; exact h hh
theorem roomTo_all : roomTo zs a (begins zs 0).length = roomAt zs a := by
  rw [roomTo_eq _ (Nat.le_refl _)]
  unfold roomAt
  by_cases h : freeStart zs a = true
  · obtain ⟨s, rfl, hs, hf⟩ := freeStart_iff.1 h
    obtain ⟨j, hj, hst⟩ := mem_begins hs
    rw [if_pos h, if_pos ⟨j, hj, by rw [hst], by rw [hst]; exact hf⟩]
  · rw [if_neg h, if_neg]
    rintro ⟨j, hj, h1, h2⟩
    exact h (freeStart_iff.2 ⟨st zs j, h1.symm, st_mem hj, h2⟩)
theorem nth_emptyL {us : List Int} {p m : Nat} (k : Nat) (h : p + m ≤ us.length) : nth (emptyL us p m) k = if m = 0 then nth us k else if k = p then fWord m else if p ≤ k ∧ k < p + m then 0 else nth us k := by
  unfold emptyL
  by_cases hz : m = 0
  · rw [if_pos hz, if_pos hz]
  · rw [if_neg hz, if_neg hz, nth_putL _ (by omega) h]
theorem want_eq {s N L : Nat} {V : Int} (hN : 0 < N) (hNL : N ≤ L) (hL : s + L ≤ zs.length) : (emptyL (emptyL zs s L) (s + N) (L - N)).set s V = takeL zs s N L V := by
  have hc := takeL_cut (zs := zs) (V := V) hN hNL hL
  have l1 : (emptyL zs s L).length = zs.length := emptyL_len hL
  have l2 : (emptyL (emptyL zs s L) (s + N) (L - N)).length = zs.length := by rw [emptyL_len (by omega), l1]
  have e1 : ∀ k, nth (emptyL zs s L) k = if k = s then fWord L else if s ≤ k ∧ k < s + L then 0 else nth zs k := fun k => by
    unfold emptyL; rw [if_neg (by omega), nth_putL _ (by omega) hL]
  refine list_ext (by rw [List.length_set, l2, hc.len]) fun k => ?_
  rw [nth_set _ (by omega)]
  by_cases hk : k = s
  · rw [if_pos hk, hk, hc.at_]
  · rw [if_neg hk]
    have e2 : nth (emptyL (emptyL zs s L) (s + N) (L - N)) k = if L - N = 0 then nth (emptyL zs s L) k else if k = s + N then fWord (L - N) else if s + N ≤ k ∧ k < s + N + (L - N) then 0 else nth (emptyL zs s L) k := by
      exact nth_emptyL k (by rw [l1]; omega)
    rw [e2, e1, if_neg hk]
    rcases Nat.lt_or_ge k s with h1 | h1
    · rw [hc.out k (.inl h1)]
      split
      · rw [if_neg (by omega)]
      · rw [if_neg (by omega), if_neg (by omega), if_neg (by omega)]
    · rcases Nat.lt_or_ge k (s + N) with h2 | h2
      · rw [hc.in_ k (by omega) h2]
        split
        · rw [if_pos (by omega)]
        · rw [if_neg (by omega), if_neg (by omega), if_pos (by omega)]
      · rcases Nat.lt_or_ge k (s + L) with h3 | h3
        · rw [if_neg (by omega)]
          by_cases h4 : k = s + N
          · rw [if_pos h4, h4, hc.mid (by omega)]
          · rw [if_neg h4, if_pos (by omega), hc.rest k (by omega) h3]
        · rw [hc.out k (.inr h3)]
          split
          · rw [if_neg (by omega)]
          · rw [if_neg (by omega), if_neg (by omega), if_neg (by omega)]
theorem want_zero {s N L : Nat} {V : Int} (hN : 0 < N) (hNL : N ≤ L) (hL : s + L ≤ zs.length) {k : Nat} (h1 : 0 < k) (h2 : k < N) : (takeL zs s N L V).set (s + k) 0 = takeL zs s N L V := by
  have hc := takeL_cut (zs := zs) (V := V) hN hNL hL
  refine list_ext (by simp) fun j => ?_
  rw [nth_set _ (by rw [hc.len]; omega)]
  by_cases hj : j = s + k
  · rw [if_pos hj, hj, hc.in_ _ (by omega) (by omega)]
  · rw [if_neg hj]
theorem heldR_eq {s : Nat} (hz : ∀ z ∈ zs, (Lit.int .u64 z).wf = true) (hl : zs.length ≤ 256) (hs : s < zs.length) : heldR zs s = heldAt zs s := by
  unfold heldR heldAt
  rw [Bool.eq_iff_iff]
  simp only [List.any_eq_true, Bool.and_eq_true, bne_iff_ne, decide_eq_true_eq, List.mem_range, beq_iff_eq, ne_eq]
  constructor
  · rintro ⟨i, hi, h1, h2⟩
    have hm : nth (livesI zs) i ∈ livesI zs := by rw [nth_get _ _ hi]; exact List.getElem_mem _
    obtain ⟨j, hj, hst, hf⟩ := mem_lives.1 hm
    rw [← hst] at h1 h2
    rw [Int.toNat_natCast] at h2
    refine ⟨st zs j, st_mem hj, fun e => h1 (by rw [e]), ?_⟩
    obtain ⟨v, hv, he⟩ := List.mem_map.1 h2
    refine ⟨v, hv, ?_⟩
    have := refs_wf hz v hv
    unfold nm at he
    split at he <;> omega
  · rintro ⟨x, hx, h1, v, hv, rfl⟩
    have hlv : vF (nth zs x) = false := bool_not fun hf => by rw [free_refs hz hx hf] at hv; cases hv
    obtain ⟨j, hj, hst⟩ := mem_begins hx
    have hm : (x : Int) ∈ livesI zs := mem_lives.2 ⟨j, hj, by rw [hst], by rw [hst]; exact hlv⟩
    obtain ⟨i, hi, e⟩ := List.getElem_of_mem hm
    have e' : nth (livesI zs) i = x := by rw [nth_get _ _ hi]; exact e
    refine ⟨i, hi, ?_, ?_⟩
    · rw [e']; omega
    · rw [e', Int.toNat_natCast]
      refine List.mem_map.2 ⟨_, hv, ?_⟩
      unfold nm
      rw [if_neg (by omega)]
      omega
theorem give_empty {s : Nat} : emptyL zs s (sLong (nth zs s)) = giveL zs s := by
  unfold emptyL giveL
  rw [if_neg (by have := sLong_pos (nth zs s); omega)]
end
end Go.Proofs.Ytggjgcnmkkoheaa
