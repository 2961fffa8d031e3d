/-
  Taking, giving and joining, over no program.
-/
import Derived.Test.YtjefbekdjgmmbaaGapM
import Derived.Test.YtjefbekdjgmmbaaWalkM
namespace Go.Proofs.Ytjefbekdjgmmbaa
open Go.RowKit

def freeStart (zs : List Int) (a : Int) : Bool := decide (0 ≤ a) && decide (a.toNat ∈ begins zs 0) && vF (nth zs a.toNat)
def liveStart (zs : List Int) (a : Int) : Bool := decide (0 ≤ a) && decide (a.toNat ∈ begins zs 0) && !vF (nth zs a.toNat)
def takeE (zs : List Int) (a r b t : Int) (f : Bool) : Int :=
  if hFault r b t f = 0 then (if f then 3 else if arErr zs = 0 then (if freeStart zs a then (if (sLong (nth zs a.toNat) : Int) < 1 + r + b then 7 else 0) else 5) else arErr zs) else hFault r b t f
def takeL (zs : List Int) (p n room : Nat) (v : Int) : List Int := if n = room then putL zs p n v else putL (putL zs p n v) (p + n) (room - n) (fWord (room - n))
/-- Does an object other than the one at 's' refer to it? -/
def heldAt (zs : List Int) (s : Nat) : Bool := (begins zs 0).any fun t => t != s && (refWords zs t).any fun v => v == (s : Int) + 1
def giveE (zs : List Int) (a : Int) : Int := if arErr zs = 0 then (if liveStart zs a then (if heldAt zs a.toNat then 8 else 0) else 5) else arErr zs
def giveL (zs : List Int) (p : Nat) : List Int := putL zs p (sLong (nth zs p)) (fWord (sLong (nth zs p)))

section
variable {zs : List Int} {a r b t : Int} {f : Bool}
theorem takeE_head (h : hFault r b t f ≠ 0) : takeE zs a r b t f = hFault r b t f := by unfold takeE; rw [if_neg h]
theorem takeE_free (h : hFault r b t true = 0) : takeE zs a r b t true = 3 := by unfold takeE; rw [if_pos h, if_pos rfl]
theorem takeE_bad (h : hFault r b t false = 0) (h1 : arErr zs ≠ 0) : takeE zs a r b t false = arErr zs := by unfold takeE; rw [if_pos h, if_neg (by decide), if_neg h1]
theorem takeE_none (h : hFault r b t false = 0) (h1 : arErr zs = 0) (h2 : freeStart zs a = false) : takeE zs a r b t false = 5 := by unfold takeE; rw [if_pos h, if_neg (by decide), if_pos h1, h2]; rfl
theorem takeE_full (h : hFault r b t false = 0) (h1 : arErr zs = 0) (h2 : freeStart zs a = true) (h3 : (sLong (nth zs a.toNat) : Int) < 1 + r + b) : takeE zs a r b t false = 7 := by unfold takeE; rw [if_pos h, if_neg (by decide), if_pos h1, h2, if_pos rfl, if_pos h3]
theorem takeE_ok (h : hFault r b t false = 0) (h1 : arErr zs = 0) (h2 : freeStart zs a = true) (h3 : ¬ (sLong (nth zs a.toNat) : Int) < 1 + r + b) : takeE zs a r b t false = 0 := by unfold takeE; rw [if_pos h, if_neg (by decide), if_pos h1, h2, if_pos rfl, if_neg h3]
theorem takeE_zero (h : takeE zs a r b t f = 0) : hFault r b t f = 0 ∧ f = false ∧ arErr zs = 0 ∧ freeStart zs a = true ∧ 1 + r + b ≤ (sLong (nth zs a.toNat) : Int) := by
  unfold takeE at h
  split at h
  · rename_i h1
    split at h
    · cases h
    · rename_i h2
      split at h
      · rename_i h3
        split at h
        · rename_i h4
          split at h
          · cases h
          · rename_i h5
            exact ⟨h1, by simpa using h2, h3, h4, by omega⟩
        · cases h
      · rename_i h3; exact absurd h h3
  · rename_i h1; exact absurd h h1
theorem giveE_bad (h1 : arErr zs ≠ 0) : giveE zs a = arErr zs := by unfold giveE; rw [if_neg h1]
theorem giveE_none (h1 : arErr zs = 0) (h2 : liveStart zs a = false) : giveE zs a = 5 := by unfold giveE; rw [if_pos h1, h2]; rfl
theorem giveE_held (h1 : arErr zs = 0) (h2 : liveStart zs a = true) (h3 : heldAt zs a.toNat = true) : giveE zs a = 8 := by unfold giveE; rw [if_pos h1, h2, h3]; rfl
theorem giveE_ok (h1 : arErr zs = 0) (h2 : liveStart zs a = true) (h3 : heldAt zs a.toNat = false) : giveE zs a = 0 := by unfold giveE; rw [if_pos h1, h2, h3]; rfl
theorem giveE_zero (h : giveE zs a = 0) : arErr zs = 0 ∧ liveStart zs a = true ∧ heldAt zs a.toNat = false := by
  unfold giveE at h
  split at h
  · rename_i h1
    split at h
    · rename_i h2
      split at h
      · cases h
      · rename_i h3; exact ⟨h1, h2, by simpa using h3⟩
    · cases h
  · rename_i h1; exact absurd h h1
theorem freeStart_iff : freeStart zs a = true ↔ ∃ s : Nat, a = s ∧ s ∈ begins zs 0 ∧ vF (nth zs s) = true := by
  unfold freeStart
  constructor
  · intro h
    simp only [Bool.and_eq_true, decide_eq_true_eq] at h
    exact ⟨a.toNat, by omega, h.1.2, h.2⟩
  · rintro ⟨s, rfl, h1, h2⟩
    simp [h1, h2]
theorem liveStart_iff : liveStart zs a = true ↔ ∃ s : Nat, a = s ∧ s ∈ begins zs 0 ∧ vF (nth zs s) = false := by
  unfold liveStart
  constructor
  · intro h
    simp only [Bool.and_eq_true, decide_eq_true_eq] at h
    exact ⟨a.toNat, by omega, h.1.2, by simpa using h.2⟩
  · rintro ⟨s, rfl, h1, h2⟩
    simp [h1, h2]
theorem bool_not {x : Bool} (h : ¬ x = true) : x = false := by cases x; rfl; exact absurd rfl h
/-- The program's way of asking who holds an object. -/
theorem held_link {i : Nat} (hr : refsOk zs = true) (hi : i < (begins zs 0).length) (hf : vF (nth zs (st zs i)) = false) :
    ((List.range (begins zs 0).length).any fun k => k != i && decide ((i : Int) ∈ (obOf zs (st zs k)).2.1)) = heldAt zs (st zs i) := by
  have key : ∀ k, k < (begins zs 0).length → (((i : Int) ∈ (obOf zs (st zs k)).2.1) ↔ ((st zs i : Int) + 1) ∈ refWords zs (st zs k)) := by
    intro k hk
    have hall : ∀ v ∈ refWords zs (st zs k), (ixOf zs v).isSome = true := by
      have := List.all_eq_true.1 hr (st zs k) (st_mem hk)
      exact fun v hv => List.all_eq_true.1 this v hv
    constructor
    · intro h
      obtain ⟨v, hv, he⟩ := List.mem_map.1 h
      obtain ⟨x, hx⟩ := Option.isSome_iff_exists.1 (hall v hv)
      rw [hx] at he
      simp only [Option.getD_some] at he
      subst he
      by_cases h0 : v = 0
      · subst h0
        rw [ixOf_null] at hx
        injection hx with hx
        omega
      · obtain ⟨j, hj, hij, hst, _⟩ := ixOf_some h0 hx
        obtain rfl : i = j := by omega
        rw [hst]; exact hv
    · intro h
      refine List.mem_map.2 ⟨_, h, ?_⟩
      rw [ixOf_hit hi hf]; rfl
  unfold heldAt
  rw [Bool.eq_iff_iff]
  simp only [List.any_eq_true, Bool.and_eq_true, bne_iff_ne, decide_eq_true_eq, List.mem_range, beq_iff_eq, ne_eq]
  constructor
  · rintro ⟨k, hk, h1, h2⟩
    exact ⟨st zs k, st_mem hk, fun e => h1 (st_inj hk hi e), _, (key k hk).1 h2, rfl⟩
  · rintro ⟨s, hs, h1, v, hv, rfl⟩
    obtain ⟨k, hk, rfl⟩ := mem_begins hs
    exact ⟨k, hk, fun e => h1 (by rw [e]), (key k hk).2 hv⟩
end


section
variable {zs ys : List Int}
theorem refsOk_char : refsOk zs = true ↔ ∀ s ∈ begins zs 0, ∀ v ∈ refWords zs s, v = 0 ∨ ∃ t ∈ begins zs 0, vF (nth zs t) = false ∧ v = (t : Int) + 1 := by
  have key : ∀ v, (ixOf zs v).isSome = true ↔ (v = 0 ∨ ∃ t ∈ begins zs 0, vF (nth zs t) = false ∧ v = (t : Int) + 1) := by
    intro v
    constructor
    · intro h
      by_cases h0 : v = 0
      · exact .inl h0
      · obtain ⟨x, hx⟩ := Option.isSome_iff_exists.1 h
        obtain ⟨j, hj, _, h1, h2⟩ := ixOf_some h0 hx
        exact .inr ⟨st zs j, st_mem hj, h2, h1.symm⟩
    · rintro (rfl | ⟨t, ht, hf, rfl⟩)
      · rw [ixOf_null]; rfl
      · obtain ⟨j, hj, rfl⟩ := mem_begins ht
        rw [ixOf_hit hj hf]; rfl
  unfold refsOk refsIn
  simp only [List.all_eq_true]
  exact ⟨fun h s hs v hv => (key v).1 (h s hs v hv), fun h s hs v hv => (key v).2 (h s hs v hv)⟩

theorem arErr_iff : arErr zs = 0 ↔ zs.length ≤ 256 ∧ fine zs 0 = true ∧ refsOk zs = true :=
  ⟨fun h => let ⟨h1, h2⟩ := arErr_zero h; ⟨(spErr_zero h1).1, (spErr_zero h1).2, h2⟩, fun h => arErr_ok (spErr_ok h.1 h.2.1) h.2.2⟩

theorem nth_take_drop (a q k : Nat) (h : k < q) : nth ((zs.drop a).take q) k = nth zs (a + k) := by
  unfold nth
  simp [List.getD, h, List.getElem?_drop]
theorem refWords_at {s j : Nat} (h : j < (vR (nth zs s)).toNat) : nth (refWords zs s) j = nth zs (s + 1 + j) := nth_take_drop _ _ _ h
/-- Objects with the same words have the same references. -/
theorem refWords_same {s : Nat} (hl : ys.length = zs.length) (h : ∀ k, s ≤ k → k < s + sLong (nth zs s) → nth ys k = nth zs k) : refWords ys s = refWords zs s := by
  have hs : nth ys s = nth zs s := h s (Nat.le_refl _) (by have := sLong_pos (nth zs s); omega)
  have e : (refWords ys s).length = (refWords zs s).length := by unfold refWords; rw [hs]; simp [hl]
  refine nth_ext e fun j hj => ?_
  have hj' : j < (vR (nth zs s)).toNat := by
    rw [e] at hj
    unfold refWords at hj
    simp at hj
    omega
  rw [refWords_at (by rw [hs]; exact hj'), refWords_at hj']
  exact h _ (by omega) (by unfold sLong; omega)
theorem mem_nth {xs : List Int} {v : Int} (h : v ∈ xs) : ∃ j, j < xs.length ∧ nth xs j = v := by
  obtain ⟨j, hj, e⟩ := List.getElem_of_mem h
  exact ⟨j, hj, by rw [nth_get _ _ hj]; exact e⟩

/-- The runs stand apart, however far. -/
theorem runs_apart {f : Nat → Bool} {n : Nat} {l : List (Int × Int)} (h : Runs f n l) : ∀ d i, i + d + 1 < l.length → (nthG l i).1 + (nthG l i).2 < (nthG l (i + d + 1)).1
  | 0, i, hi => h.apart i hi
  | d + 1, i, hi => by
    have h1 := runs_apart h d i (by omega)
    have h2 := h.apart (i + d + 1) (by omega)
    have h3 := h.pos (i + d + 1) (by omega)
    rw [show i + (d + 1) + 1 = i + d + 1 + 1 by omega]
    omega
theorem runs_one {f : Nat → Bool} {n : Nat} {l : List (Int × Int)} (h : Runs f n l) {i j : Nat} (hi : i < l.length) (hj : j < l.length) {k : Int} (h1 : (nthG l i).1 ≤ k) (h2 : k < (nthG l i).1 + (nthG l i).2) (h3 : (nthG l j).1 ≤ k) (h4 : k ≤ (nthG l j).1 + (nthG l j).2) : i = j := by
  rcases Nat.lt_trichotomy i j with h | h | h
  · obtain ⟨d, rfl⟩ : ∃ d, j = i + d + 1 := ⟨j - i - 1, by omega⟩
    have := runs_apart ‹_› d i hj
    omega
  · exact h
  · obtain ⟨d, rfl⟩ : ∃ d, i = j + d + 1 := ⟨i - j - 1, by omega⟩
    have := runs_apart ‹_› d j hi
    omega

/-- Words that no run holds stay. -/
theorem joinTo_keep {l : List (Int × Int)} : ∀ {zs : List Int} {k : Nat}, (∀ r ∈ l, 0 ≤ r.1 ∧ 0 ≤ r.2 ∧ r.1 + r.2 ≤ zs.length) → (∀ r ∈ l, ¬ (r.1 ≤ k ∧ (k : Int) < r.1 + r.2)) → nth (joinTo zs l) k = nth zs k := by
  unfold joinTo
  induction l with
  | nil => intro zs k _ _; rfl
  | cons r l ih =>
    intro zs k h hk
    have h0 := h r List.mem_cons_self
    have hk0 := hk r List.mem_cons_self
    have e : (emptyL zs r.1.toNat r.2.toNat).length = zs.length := emptyL_len (by omega)
    rw [List.foldl_cons, ih (fun s hs => by rw [e]; exact h s (List.mem_cons_of_mem _ hs)) (fun s hs => hk s (List.mem_cons_of_mem _ hs))]
    unfold emptyL
    split
    · rfl
    · rw [nth_putL _ (by omega) (by omega), if_neg (by omega), if_neg (by omega)]
/-- What the words of the gaps become. -/
theorem joinTo_in {l : List (Int × Int)} {f : Nat → Bool} (hR : Runs f zs.length l) {i k : Nat} (hi : i < l.length) (h1 : (nthG l i).1 ≤ k) (h2 : (k : Int) < (nthG l i).1 + (nthG l i).2) :
    nth (joinTo zs l) k = if (nthG l i).1 = k then fWord (nthG l i).2.toNat else 0 := by
  have hpos : ∀ r ∈ l, 1 ≤ r.2 ∧ 0 ≤ r.1 ∧ r.1 + r.2 ≤ zs.length := fun r hr => by
    obtain ⟨j, hj, e⟩ := List.getElem_of_mem hr
    have := hR.pos j hj
    rw [nthG_get _ _ hj, e] at this
    exact this
  have hsplit : l = l.take i ++ (nthG l i :: l.drop (i + 1)) := by
    rw [nthG_get _ _ hi, ← List.drop_eq_getElem_cons hi, List.take_append_drop]
  have hlen : (joinTo zs (l.take i)).length = zs.length := by
    have : ∀ {m : List (Int × Int)} {us : List Int}, (∀ r ∈ m, 0 ≤ r.1 ∧ 0 ≤ r.2 ∧ r.1 + r.2 ≤ us.length) → (joinTo us m).length = us.length := by
      intro m
      unfold joinTo
      induction m with
      | nil => intro us _; rfl
      | cons r m ih =>
        intro us h
        have h0 := h r List.mem_cons_self
        have e : (emptyL us r.1.toNat r.2.toNat).length = us.length := emptyL_len (by omega)
        rw [List.foldl_cons, ih (fun s hs => by rw [e]; exact h s (List.mem_cons_of_mem _ hs)), e]
    exact this fun r hr => by have := hpos r (List.mem_of_mem_take hr); omega
  have hp := hR.pos i hi
  have he : joinTo zs l = joinTo (emptyL (joinTo zs (l.take i)) (nthG l i).1.toNat (nthG l i).2.toNat) (l.drop (i + 1)) := by
    conv => lhs; rw [hsplit]
    unfold joinTo
    rw [List.foldl_append, List.foldl_cons]
  rw [he]
  have hel : (emptyL (joinTo zs (l.take i)) (nthG l i).1.toNat (nthG l i).2.toNat).length = zs.length := by rw [emptyL_len (by omega), hlen]
  rw [joinTo_keep (fun r hr => by rw [hel]; have := hpos r (List.mem_of_mem_drop hr); omega) (fun r hr hc => by
    obtain ⟨j, hj, e⟩ := List.getElem_of_mem hr
    have hj' : i + 1 + j < l.length := by simp at hj; omega
    rw [List.getElem_drop] at e
    have hr' : nthG l (i + 1 + j) = r := by rw [nthG_get _ _ hj']; exact e
    rw [← hr'] at hc
    have := runs_one hR hi hj' h1 h2 hc.1 (by omega)
    omega)]
  unfold emptyL
  rw [if_neg (by omega), nth_putL _ (by omega) (by rw [hlen]; omega)]
  by_cases hk : (nthG l i).1 = k
  · rw [if_pos (by omega), if_pos hk]
  · rw [if_neg (by omega), if_neg hk, if_pos (by omega)]

/-- The gap that holds a free word. -/
theorem gap_of {k : Nat} (hk : k < zs.length) (hf : freeAt zs k = true) : ∃ i, i < (gapsL zs).length ∧ (nthG (gapsL zs) i).1 ≤ k ∧ (k : Int) < (nthG (gapsL zs) i).1 + (nthG (gapsL zs) i).2 :=
  ((runs_ok (freeAt zs) zs.length).all k hk).1 hf
theorem gap_free {k i : Nat} (hk : k < zs.length) (hi : i < (gapsL zs).length) (h1 : (nthG (gapsL zs) i).1 ≤ k) (h2 : (k : Int) < (nthG (gapsL zs) i).1 + (nthG (gapsL zs) i).2) : freeAt zs k = true :=
  ((runs_ok (freeAt zs) zs.length).all k hk).2 ⟨i, hi, h1, h2⟩
theorem gap_pos {i : Nat} (hi : i < (gapsL zs).length) : 1 ≤ (nthG (gapsL zs) i).2 ∧ 0 ≤ (nthG (gapsL zs) i).1 ∧ (nthG (gapsL zs) i).1 + (nthG (gapsL zs) i).2 ≤ zs.length := (runs_ok (freeAt zs) zs.length).pos i hi
theorem joinL_len' (zs : List Int) : (joinL zs).length = zs.length := by
  have : ∀ {m : List (Int × Int)} {us : List Int}, (∀ r ∈ m, 0 ≤ r.1 ∧ 0 ≤ r.2 ∧ r.1 + r.2 ≤ us.length) → (joinTo us m).length = us.length := by
    intro m
    unfold joinTo
    induction m with
    | nil => intro us _; rfl
    | cons r m ih =>
      intro us h
      have h0 := h r List.mem_cons_self
      have e : (emptyL us r.1.toNat r.2.toNat).length = us.length := emptyL_len (by omega)
      rw [List.foldl_cons, ih (fun s hs => by rw [e]; exact h s (List.mem_cons_of_mem _ hs)), e]
  refine this fun r hr => ?_
  obtain ⟨j, hj, e⟩ := List.getElem_of_mem hr
  have := gap_pos hj
  rw [nthG_get _ _ hj, e] at this
  omega
theorem joinL_keep {k : Nat} (hf : freeAt zs k = false) : nth (joinL zs) k = nth zs k := by
  by_cases hk : k < zs.length
  · refine joinTo_keep (fun r hr => ?_) (fun r hr hc => ?_)
    · obtain ⟨j, hj, e⟩ := List.getElem_of_mem hr
      have := gap_pos hj
      rw [nthG_get _ _ hj, e] at this
      omega
    · obtain ⟨j, hj, e⟩ := List.getElem_of_mem hr
      have h := gap_free (zs := zs) hk hj (by rw [nthG_get _ _ hj, e]; exact hc.1) (by rw [nthG_get _ _ hj, e]; exact hc.2)
      rw [hf] at h; cases h
  · rw [nth_out (by rw [joinL_len']; omega), nth_out (by omega)]
theorem joinL_in {i k : Nat} (hi : i < (gapsL zs).length) (h1 : (nthG (gapsL zs) i).1 ≤ k) (h2 : (k : Int) < (nthG (gapsL zs) i).1 + (nthG (gapsL zs) i).2) : nth (joinL zs) k = if (nthG (gapsL zs) i).1 = k then fWord (nthG (gapsL zs) i).2.toNat else 0 :=
  joinTo_in (runs_ok (freeAt zs) zs.length) hi h1 h2
/-- Arenas with the same gaps and the same words elsewhere are joined alike. -/
theorem join_eq (hl : ys.length = zs.length) (hg : gapsL ys = gapsL zs) (h : ∀ k, freeAt zs k = false → nth ys k = nth zs k) : joinL ys = joinL zs := by
  refine list_ext (by rw [joinL_len', joinL_len', hl]) fun k => ?_
  cases hf : freeAt zs k
  · have hy : freeAt ys k = false := by
      refine bool_not fun hy => ?_
      by_cases hk : k < ys.length
      · obtain ⟨i, hi, h1, h2⟩ := gap_of hk hy
        rw [hg] at hi h1 h2
        have := gap_free (by omega) hi h1 h2
        rw [hf] at this; cases this
      · rw [freeAt_out (by omega)] at hy; cases hy
    rw [joinL_keep hy, joinL_keep hf]
    exact h k hf
  · by_cases hk : k < zs.length
    · obtain ⟨i, hi, h1, h2⟩ := gap_of hk hf
      rw [joinL_in hi h1 h2, joinL_in (zs := ys) (by rw [hg]; exact hi) (by rw [hg]; exact h1) (by rw [hg]; exact h2), hg]
    · rw [freeAt_out (by omega)] at hf; cases hf

/-- Where the joined arena's objects begin. -/
def JoinS (zs : List Int) (s : Nat) : Prop := (s ∈ begins zs 0 ∧ vF (nth zs s) = false) ∨ ∃ i, i < (gapsL zs).length ∧ (nthG (gapsL zs) i).1 = s
theorem live_not_free {s k : Nat} (hs : s ∈ begins zs 0) (hf : vF (nth zs s) = false) (h1 : s ≤ k) (h2 : k < s + sLong (nth zs s)) : freeAt zs k = false := by rw [freeAt_in hs h1 h2]; exact hf
theorem join_live {s : Nat} (hs : s ∈ begins zs 0) (hf : vF (nth zs s) = false) : nth (joinL zs) s = nth zs s := joinL_keep (live_not_free hs hf (Nat.le_refl _) (by have := sLong_pos (nth zs s); omega))
theorem join_start {i s : Nat} (hi : i < (gapsL zs).length) (hs : (nthG (gapsL zs) i).1 = s) : ∃ L : Nat, (nthG (gapsL zs) i).2 = L ∧ 0 < L ∧ s + L ≤ zs.length ∧ nth (joinL zs) s = fWord L := by
  have hp := gap_pos hi
  obtain ⟨L, hL⟩ := Int.eq_ofNat_of_zero_le (by omega : 0 ≤ (nthG (gapsL zs) i).2)
  refine ⟨L, hL, by omega, by omega, ?_⟩
  rw [joinL_in hi (by omega) (by omega), if_pos hs, hL]
  rfl
theorem gap_begins {i e : Nat} (hi : i < (gapsL zs).length) (h1 : (nthG (gapsL zs) i).1 ≤ e) (h2 : (e : Int) < (nthG (gapsL zs) i).1 + (nthG (gapsL zs) i).2) (he : e < zs.length) (h : e = 0 ∨ freeAt zs (e - 1) = false) : (nthG (gapsL zs) i).1 = e := by
  have hp := gap_pos hi
  by_cases hh : (nthG (gapsL zs) i).1 = e
  · exact hh
  · rcases h with h | h
    · omega
    · have := gap_free (zs := zs) (k := e - 1) (by omega) hi (by omega) (by omega)
      rw [h] at this; cases this
theorem join_tiles (hl : zs.length ≤ 256) (hf : fine zs 0 = true) : Tiles (joinL zs) (JoinS zs) := by
  have hR := runs_ok (freeAt zs) zs.length
  refine ⟨fun h0 => ?_, fun s hS hs => ?_, fun s hS hs hn => ?_, fun s t hS h1 h2 h3 hT => ?_⟩
  · rw [joinL_len'] at h0
    have hm := begins_zero hf h0
    cases hv : vF (nth zs 0)
    · exact .inl ⟨hm, hv⟩
    · right
      have hfr : freeAt zs 0 = true := by rw [freeAt_in hm (Nat.le_refl _) (by have := sLong_pos (nth zs 0); omega)]; exact hv
      obtain ⟨i, hi, h1, h2⟩ := gap_of h0 hfr
      exact ⟨i, hi, gap_begins hi h1 h2 h0 (.inl rfl)⟩
  · rw [joinL_len'] at hs
    rcases hS with ⟨hm, hv⟩ | ⟨i, hi, he⟩
    · have hst := (begins_mem hm).2.2
      rw [stepOk_iff] at hst ⊢
      rw [join_live hm hv, joinL_len']
      exact hst
    · obtain ⟨L, hL, h0, hle, hw⟩ := join_start hi he
      obtain ⟨f1, f2, f3, f4⟩ := fWord_facts h0 (by omega)
      rw [stepOk_iff, hw, joinL_len', f3]
      exact ⟨f1, hle⟩
  · rw [joinL_len'] at hs hn
    rcases hS with ⟨hm, hv⟩ | ⟨i, hi, he⟩
    · rw [join_live hm hv] at hn ⊢
      have hm2 := begins_next hf hm hn
      cases hv2 : vF (nth zs (s + sLong (nth zs s)))
      · exact .inl ⟨hm2, hv2⟩
      · right
        have hp := sLong_pos (nth zs s)
        have hfr : freeAt zs (s + sLong (nth zs s)) = true := by rw [freeAt_in hm2 (Nat.le_refl _) (by have := sLong_pos (nth zs (s + sLong (nth zs s))); omega)]; exact hv2
        obtain ⟨i, hi, h1, h2⟩ := gap_of hn hfr
        exact ⟨i, hi, gap_begins hi h1 h2 hn (.inr (live_not_free hm hv (by omega) (by omega)))⟩
    · obtain ⟨L, hL, h0, hle, hw⟩ := join_start hi he
      obtain ⟨f1, f2, f3, f4⟩ := fWord_facts h0 (by omega)
      rw [hw, f3] at hn ⊢
      left
      have hnf : freeAt zs (s + L) = false := by
        refine bool_not fun hfr => ?_
        obtain ⟨j, hj, h1, h2⟩ := gap_of hn hfr
        have := runs_one hR hj hi h1 h2 (by show (nthG (gapsL zs) i).1 ≤ _; omega) (by show _ ≤ (nthG (gapsL zs) i).1 + (nthG (gapsL zs) i).2; omega)
        subst this
        omega
      have hfr : freeAt zs (s + L - 1) = true := gap_free (by omega) hi (by omega) (by omega)
      obtain ⟨t, ht, h1, h2⟩ := begins_cover hf (Nat.zero_le _) hn
      rw [freeAt_in ht h1 h2] at hnf
      have : t = s + L := by
        rcases Nat.lt_or_ge t (s + L) with h3 | h3
        · have := live_not_free ht hnf (k := s + L - 1) (by omega) (by omega)
          rw [hfr] at this; cases this
        · omega
      subst this
      exact ⟨ht, hnf⟩
  · rw [joinL_len'] at h3
    rcases hS with ⟨hm, hv⟩ | ⟨i, hi, he⟩
    · rw [join_live hm hv] at h2
      rcases hT with ⟨hm2, hv2⟩ | ⟨j, hj, he2⟩
      · have := begins_apart hm hm2 h1; omega
      · have hp := gap_pos hj
        have h5 := gap_free h3 hj (by omega) (by omega)
        rw [live_not_free hm hv (by omega) h2] at h5; cases h5
    · obtain ⟨L, hL, h0, hle, hw⟩ := join_start hi he
      obtain ⟨f1, f2, f3, f4⟩ := fWord_facts h0 (by omega)
      rw [hw, f3] at h2
      have hfr : freeAt zs t = true := gap_free h3 hi (by omega) (by omega)
      rcases hT with ⟨hm2, hv2⟩ | ⟨j, hj, he2⟩
      · rw [live_not_free hm2 hv2 (Nat.le_refl _) (by have := sLong_pos (nth zs t); omega)] at hfr; cases hfr
      · have := runs_one hR hi hj (k := t) (by show (nthG (gapsL zs) i).1 ≤ _; omega) (by show _ < (nthG (gapsL zs) i).1 + (nthG (gapsL zs) i).2; omega) (by show (nthG (gapsL zs) j).1 ≤ _; omega) (by have := gap_pos hj; show _ ≤ (nthG (gapsL zs) j).1 + (nthG (gapsL zs) j).2; omega)
        subst this
        omega
theorem join_free (hl : zs.length ≤ 256) (hf : fine zs 0 = true) (k : Nat) : freeAt (joinL zs) k = freeAt zs k := by
  have hT := join_tiles hl hf
  by_cases hk : k < zs.length
  · cases hfr : freeAt zs k
    · obtain ⟨t, ht, h1, h2⟩ := begins_cover hf (Nat.zero_le _) hk
      rw [freeAt_in ht h1 h2] at hfr
      have hm : t ∈ begins (joinL zs) 0 := (hT.mem t).2 ⟨.inl ⟨ht, hfr⟩, by rw [joinL_len']; exact (begins_mem ht).2.1⟩
      have e := join_live ht hfr
      rw [freeAt_in hm h1 (by rw [e]; exact h2), e]
      exact hfr
    · obtain ⟨i, hi, h1, h2⟩ := gap_of hk hfr
      have hp := gap_pos hi
      obtain ⟨s, hs⟩ := Int.eq_ofNat_of_zero_le hp.2.1
      obtain ⟨L, hL, h0, hle, hw⟩ := join_start hi hs
      obtain ⟨f1, f2, f3, f4⟩ := fWord_facts h0 (by omega)
      have hm : s ∈ begins (joinL zs) 0 := (hT.mem s).2 ⟨.inr ⟨i, hi, hs⟩, by rw [joinL_len']; omega⟩
      rw [freeAt_in hm (by omega) (by rw [hw, f3]; omega), hw]
      exact f2
  · rw [freeAt_out (by rw [joinL_len']; omega), freeAt_out (by omega)]
theorem join_gaps (hl : zs.length ≤ 256) (hf : fine zs 0 = true) : gapsL (joinL zs) = gapsL zs := by
  unfold gapsL
  rw [joinL_len']
  exact runsTo_congr _ fun k _ => join_free hl hf k
theorem join_twice (hl : zs.length ≤ 256) (hf : fine zs 0 = true) : joinL (joinL zs) = joinL zs :=
  join_eq (joinL_len' zs) (join_gaps hl hf) fun _ h => joinL_keep h
theorem join_fine (h : arErr zs = 0) : arErr (joinL zs) = 0 := by
  obtain ⟨hl, hf, hr⟩ := arErr_iff.1 h
  have hT := join_tiles hl hf
  refine arErr_iff.2 ⟨by rw [joinL_len']; exact hl, hT.fine, refsOk_char.2 fun s hs v hv => ?_⟩
  rcases ((hT.mem s).1 hs).1 with ⟨hm, hlv⟩ | ⟨i, hi, he⟩
  · rw [refWords_same (joinL_len' zs) (fun k h1 h2 => joinL_keep (live_not_free hm hlv h1 h2))] at hv
    rcases refsOk_char.1 hr s hm v hv with h0 | ⟨t, ht, hft, hvt⟩
    · exact .inl h0
    · exact .inr ⟨t, (hT.mem t).2 ⟨.inl ⟨ht, hft⟩, by rw [joinL_len']; exact (begins_mem ht).2.1⟩, by rw [join_live ht hft]; exact hft, hvt⟩
  · obtain ⟨L, hL, h0, hle, hw⟩ := join_start hi he
    unfold refWords at hv
    have hR : vR (fWord L) = 0 := (word_of_header (fWord_fault h0 (by omega))).2.1
    rw [hw, hR] at hv
    simp at hv
/-- Two rising lists with the same members are the same. -/
theorem rising_ext : ∀ {xs ys : List Nat}, xs.Pairwise (· < ·) → ys.Pairwise (· < ·) → (∀ a, a ∈ xs ↔ a ∈ ys) → xs = ys
  | [], [], _, _, _ => rfl
  | [], y :: ys, _, _, h => by have := (h y).2 List.mem_cons_self; cases this
  | x :: xs, [], _, _, h => by have := (h x).1 List.mem_cons_self; cases this
  | x :: xs, y :: ys, hx, hy, h => by
    obtain ⟨hx1, hx2⟩ := List.pairwise_cons.1 hx
    obtain ⟨hy1, hy2⟩ := List.pairwise_cons.1 hy
    have e : x = y := by
      rcases List.mem_cons.1 ((h x).1 List.mem_cons_self) with h1 | h1
      · exact h1
      · rcases List.mem_cons.1 ((h y).2 List.mem_cons_self) with h2 | h2
        · exact h2.symm
        · have := hx1 y h2
          have := hy1 x h1
          omega
    subst e
    rw [rising_ext hx2 hy2 fun a => ⟨fun ha => ?_, fun ha => ?_⟩]
    · rcases List.mem_cons.1 ((h a).1 (List.mem_cons_of_mem _ ha)) with h1 | h1
      · have := hx1 a ha; omega
      · exact h1
    · rcases List.mem_cons.1 ((h a).2 (List.mem_cons_of_mem _ ha)) with h1 | h1
      · have := hy1 a ha; omega
      · exact h1
/-- The joined arena has one free object a gap. -/
theorem join_count (hl : zs.length ≤ 256) (hf : fine zs 0 = true) : ((begins (joinL zs) 0).filter fun s => vF (nth (joinL zs) s)).length = (gapsL zs).length := by
  have hT := join_tiles hl hf
  have e : ((begins (joinL zs) 0).filter fun s => vF (nth (joinL zs) s)) = (gapsL zs).map fun r => r.1.toNat := by
    refine rising_ext (begins_sorted.filter _) ?_ fun s => ?_
    · rw [List.pairwise_map, List.pairwise_iff_getElem]
      intro i j hi hj hij
      obtain ⟨d, rfl⟩ : ∃ d, j = i + d + 1 := ⟨j - i - 1, by omega⟩
      have h1 := runs_apart (runs_ok (freeAt zs) zs.length) d i hj
      have h2 := gap_pos hi
      change (nthG (gapsL zs) i).1 + (nthG (gapsL zs) i).2 < (nthG (gapsL zs) (i + d + 1)).1 at h1
      rw [nthG_get _ _ hi, nthG_get _ _ hj] at h1
      rw [nthG_get _ _ hi] at h2
      omega
    · rw [List.mem_filter, hT.mem, List.mem_map]
      constructor
      · rintro ⟨⟨hS, hs⟩, hfr⟩
        rcases hS with ⟨hm, hv⟩ | ⟨i, hi, he⟩
        · rw [join_live hm hv, hv] at hfr; cases hfr
        · exact ⟨nthG (gapsL zs) i, by rw [nthG_get _ _ hi]; exact List.getElem_mem _, by omega⟩
      · rintro ⟨r, hr, rfl⟩
        obtain ⟨i, hi, e⟩ := List.getElem_of_mem hr
        have hp := gap_pos hi
        have hri : nthG (gapsL zs) i = r := by rw [nthG_get _ _ hi]; exact e
        rw [hri] at hp
        have hs : (nthG (gapsL zs) i).1 = (r.1.toNat : Int) := by rw [hri]; omega
        obtain ⟨L, hL, h0, hle, hw⟩ := join_start hi hs
        refine ⟨⟨.inr ⟨i, hi, hs⟩, by rw [joinL_len']; omega⟩, ?_⟩
        show vF (nth (joinL zs) r.1.toNat) = true
        rw [hw]
        exact (fWord_facts h0 (by omega)).2.1
  rw [e]; simp
end

end Go.Proofs.Ytjefbekdjgmmbaa
