/-
  An arena's gaps, over no program: which words are free, what joining, taking and giving make of the words.
-/
import Derived.Test.YtjefbekdjgmmbaaWalkM
import Derived.Test.YtjefbekdjgmmbaaRunM
import Derived.Test.YtjefbekdjgmmbaaRef
namespace Go.Proofs.Ytjefbekdjgmmbaa
open Go.RowKit

/-- Does word 'k' belong to a free object? -/
def freeAt (zs : List Int) (k : Nat) : Bool := (begins zs 0).any fun s => vF (nth zs s) && decide (s ≤ k) && decide (k < s + sLong (nth zs s))
def gapsL (zs : List Int) : List (Int × Int) := runsTo (freeAt zs) zs.length
/-- An object of 'n' words at word 'a': its header, the rest 0. -/
def putL (zs : List Int) (a n : Nat) (v : Int) : List Int := (splice zs a (List.replicate n 0)).set a v
def fWord (n : Nat) : Int := hWord 0 ((n : Int) - 1) 0 true
def emptyL (zs : List Int) (a n : Nat) : List Int := if n = 0 then zs else putL zs a n (fWord n)
def joinTo (zs : List Int) (l : List (Int × Int)) : List Int := l.foldl (fun b r => emptyL b r.1.toNat r.2.toNat) zs
def joinL (zs : List Int) : List Int := joinTo zs (gapsL zs)

section
variable {zs : List Int}
/-- Objects do not overlap. -/
theorem begins_apart : ∀ {a s t : Nat}, s ∈ begins zs a → t ∈ begins zs a → s < t → s + sLong (nth zs s) ≤ t := by
  intro a
  induction hk : zs.length - a using Nat.strongRecOn generalizing a with
  | ind k ih =>
    intro s t hs ht hlt
    by_cases h : a < zs.length
    · cases hst : stepOk zs a
      · rw [begins, if_pos h, hst] at hs; simp at hs
      · rw [begins_step h hst] at hs ht
        have hp := sLong_pos (nth zs a)
        rcases List.mem_cons.1 hs with hs | hs
        · subst hs
          rcases List.mem_cons.1 ht with ht | ht
          · omega
          · exact (begins_mem ht).1
        · rcases List.mem_cons.1 ht with ht | ht
          · have := (begins_mem hs).1; omega
          · exact ih (zs.length - (a + sLong (nth zs a))) (by omega) rfl hs ht hlt
    · rw [begins_end (by omega)] at hs; cases hs
/-- Every word belongs to an object. -/
theorem begins_cover : ∀ {a k : Nat}, fine zs a = true → a ≤ k → k < zs.length → ∃ s ∈ begins zs a, s ≤ k ∧ k < s + sLong (nth zs s) := by
  intro a
  induction hk : zs.length - a using Nat.strongRecOn generalizing a with
  | ind j ih =>
    intro k hf h1 h2
    have h : a < zs.length := by omega
    cases hst : stepOk zs a
    · rw [fine_bad h hst] at hf; cases hf
    · rw [begins_step h hst]
      have hp := sLong_pos (nth zs a)
      rw [fine_step h hst] at hf
      rcases Nat.lt_or_ge k (a + sLong (nth zs a)) with h3 | h3
      · exact ⟨a, List.mem_cons_self, h1, h3⟩
      · obtain ⟨s, hs, h4, h5⟩ := ih (zs.length - (a + sLong (nth zs a))) (by omega) rfl hf h3 h2
        exact ⟨s, List.mem_cons_of_mem _ hs, h4, h5⟩
theorem begins_one {s t k : Nat} (hs : s ∈ begins zs 0) (ht : t ∈ begins zs 0) (h1 : s ≤ k) (h2 : k < s + sLong (nth zs s)) (h3 : t ≤ k) (h4 : k < t + sLong (nth zs t)) : s = t := by
  rcases Nat.lt_trichotomy s t with h | h | h
  · have := begins_apart hs ht h; omega
  · exact h
  · have := begins_apart ht hs h; omega
theorem freeAt_in {s k : Nat} (hs : s ∈ begins zs 0) (h1 : s ≤ k) (h2 : k < s + sLong (nth zs s)) : freeAt zs k = vF (nth zs s) := by
  cases hf : vF (nth zs s)
  · unfold freeAt
    rw [List.any_eq_false]
    intro t ht h
    simp only [Bool.and_eq_true, decide_eq_true_eq] at h
    have := begins_one hs ht h1 h2 h.1.2 h.2
    subst this
    rw [hf] at h
    exact absurd h.1.1 (by decide)
  · unfold freeAt
    rw [List.any_eq_true]
    exact ⟨s, hs, by simp [hf, h1, h2]⟩
theorem freeAt_out {k : Nat} (h : zs.length ≤ k) : freeAt zs k = false := by
  unfold freeAt
  rw [List.any_eq_false]
  intro t ht h'
  simp only [Bool.and_eq_true, decide_eq_true_eq] at h'
  have := (stepOk_iff.1 (begins_mem ht).2.2).2
  omega

/-- The runs up to the end of an object. -/
def ext (l : List (Int × Int)) (r : Int × Int) : List (Int × Int) :=
  if l.length = 0 ∨ (nthG l (l.length - 1)).1 + (nthG l (l.length - 1)).2 ≠ r.1 then l ++ [r] else l.set (l.length - 1) ((nthG l (l.length - 1)).1, (nthG l (l.length - 1)).2 + r.2)
theorem runsTo_live {s : Nat} (hs : s ∈ begins zs 0) (hf : vF (nth zs s) = false) : runsTo (freeAt zs) (s + sLong (nth zs s)) = runsTo (freeAt zs) s :=
  runsTo_gap _ fun k h1 h2 => by rw [freeAt_in hs h1 h2]; exact hf
end
theorem set_last (m : List (Int × Int)) (a b c d : Int) : (m ++ [(a, b)]).set m.length (c, d) = m ++ [(c, d)] := by simp
theorem runsTo_more {f : Nat → Bool} {a : Nat} {m : List (Int × Int)} {x y : Int} (h0 : 0 < a) (hl : f (a - 1) = true) (hm : runsTo f a = m ++ [(x, y)]) : ∀ d, (∀ k, a ≤ k → k < a + d → f k = true) → runsTo f (a + d) = m ++ [(x, y + d)]
  | 0, _ => by rw [Nat.add_zero, hm]; simp
  | d + 1, h => by
    have ih := runsTo_more h0 hl hm d fun k h1 h2 => h k h1 (by omega)
    rw [← Nat.add_assoc, runsTo_on (h (a + d) (by omega) (by omega)) ⟨by omega, ?_⟩, ih, bump_snoc]
    · congr 3; omega
    · rcases Nat.eq_zero_or_pos d with hd | hd
      · subst hd; exact hl
      · exact h _ (by omega) (by omega)
theorem snoc_of {α : Type} [Inhabited α] (l : List α) (h : 0 < l.length) : ∃ m x, l = m ++ [x] ∧ m.length = l.length - 1 ∧ nthG l (l.length - 1) = x := by
  refine ⟨l.dropLast, l.getLast (by intro h0; simp [h0] at h), (List.dropLast_concat_getLast _).symm, by simp, ?_⟩
  rw [nthG_get _ _ (by omega), List.getLast_eq_getElem]
/-- A run that goes on from 'a'. -/
theorem runsTo_ext {f : Nat → Bool} {a L : Nat} (hL : 0 < L) (h : ∀ k, a ≤ k → k < a + L → f k = true) : ext (runsTo f a) ((a : Int), (L : Int)) = runsTo f (a + L) := by
  have hR := runs_ok f a
  by_cases h0 : 0 < a ∧ f (a - 1) = true
  · obtain ⟨hl, he⟩ := hR.last h0.1 h0.2
    unfold ext
    rw [if_neg (by rintro (h1 | h1) <;> omega)]
    obtain ⟨m, ⟨x, y⟩, hm, hml, hx⟩ := snoc_of _ hl
    rw [runsTo_more h0.1 h0.2 hm L h, hx, ← hml, hm]
    exact set_last m x y x (y + L)
  · obtain ⟨d, rfl⟩ : ∃ d, L = d + 1 := ⟨L - 1, by omega⟩
    have h1 : a = 0 ∨ f (a - 1) = false := by
      rcases Nat.eq_zero_or_pos a with ha | ha
      · exact .inl ha
      · right
        cases hf : f (a - 1)
        · rfl
        · exact absurd ⟨ha, hf⟩ h0
    rw [runsTo_run h1 d h]
    unfold ext
    rw [if_pos]
    · simp
    · rcases Nat.eq_zero_or_pos (runsTo f a).length with hz | hz
      · exact .inl hz
      · right
        rcases h1 with h1 | h1
        · subst h1; simp [runsTo] at hz
        · rcases Nat.eq_zero_or_pos a with ha | ha
          · subst ha; simp [runsTo] at hz
          · have := hR.edge ha h1 _ (by omega : (runsTo f a).length - 1 < (runsTo f a).length)
            simp only []
            omega
theorem runsTo_free {zs : List Int} {s : Nat} (hs : s ∈ begins zs 0) (hf : vF (nth zs s) = true) : ext (runsTo (freeAt zs) s) ((s : Int), (sLong (nth zs s) : Int)) = runsTo (freeAt zs) (s + sLong (nth zs s)) :=
  runsTo_ext (sLong_pos _) fun k h1 h2 => by rw [freeAt_in hs h1 h2]; exact hf

section
variable {zs ys : List Int} {a n : Nat} {v : Int}
theorem putL_len (h : a + n ≤ zs.length) : (putL zs a n v).length = zs.length := by
  unfold putL splice
  simp; omega
theorem nth_set (k : Nat) (h : a < zs.length) : nth (zs.set a v) k = if k = a then v else nth zs k := by
  unfold nth
  by_cases hk : k = a
  · subst hk; simp [h]
  · rw [if_neg hk]
    simp [List.getD, List.getElem?_set_ne (fun e : a = k => hk e.symm)]
theorem nth_splice (cs : List Int) (k : Nat) (h : a + cs.length ≤ zs.length) : nth (splice zs a cs) k = if a ≤ k ∧ k < a + cs.length then nth cs (k - a) else nth zs k := by
  unfold nth splice
  simp only [List.getD]
  by_cases h1 : k < a
  · rw [if_neg (by omega), List.getElem?_append_left (by simp; omega), List.getElem?_take, if_pos h1]
  · rw [List.getElem?_append_right (by simp; omega)]
    have e : (zs.take a).length = a := by simp; omega
    rw [e]
    by_cases h2 : k < a + cs.length
    · rw [if_pos ⟨by omega, h2⟩, List.getElem?_append_left (by omega)]
    · rw [if_neg (by omega), List.getElem?_append_right (by omega), List.getElem?_drop]
      congr 2
      omega
theorem nth_replicate (n k : Nat) : nth (List.replicate n (0 : Int)) k = 0 := by
  unfold nth
  simp [List.getD, List.getElem?_replicate]
  split <;> rfl
theorem nth_putL (k : Nat) (hn : 0 < n) (h : a + n ≤ zs.length) : nth (putL zs a n v) k = if k = a then v else if a ≤ k ∧ k < a + n then 0 else nth zs k := by
  unfold putL
  rw [nth_set _ (by unfold splice; simp; omega), nth_splice _ _ (by simpa using h)]
  simp only [List.length_replicate, nth_replicate]
theorem nth_out {k : Nat} (h : zs.length ≤ k) : nth zs k = 0 := by unfold nth; simp [List.getD, List.getElem?_eq_none h]
theorem emptyL_len (h : a + n ≤ zs.length) : (emptyL zs a n).length = zs.length := by
  unfold emptyL; split
  · rfl
  · exact putL_len h
theorem list_ext {xs ys : List Int} (hl : xs.length = ys.length) (h : ∀ k, nth xs k = nth ys k) : xs = ys := nth_ext hl fun k _ => h k
theorem fWord_fault (hn : 0 < n) (h : n ≤ 256) : hFault 0 ((n : Int) - 1) 0 true = 0 := by
  rw [hFault_in (within_true (by omega) (by omega)) (within_true (by omega) (by omega)) (within_true (by omega) (by omega)) (fun _ => ⟨rfl, rfl⟩), if_neg (by omega)]
theorem fWord_facts (hn : 0 < n) (h : n ≤ 256) : vBad (fWord n) = false ∧ vF (fWord n) = true ∧ sLong (fWord n) = n ∧ (Lit.int .u64 (fWord n)).wf = true := by
  have hf := fWord_fault hn h
  obtain ⟨h1, h2, h3, h4, h5⟩ := word_of_header hf
  have h6 := hWord_wf hf
  refine ⟨h1, h5, ?_, wf_u64.2 ⟨h6.1, by have := h6.2; unfold fWord; omega⟩⟩
  unfold sLong fWord
  rw [h2, h3]
  omega
theorem putL_wf (hz : ∀ z ∈ zs, (Lit.int .u64 z).wf = true) (hv : (Lit.int .u64 v).wf = true) : ∀ z ∈ putL zs a n v, (Lit.int .u64 z).wf = true := by
  intro z hz'
  rcases List.mem_or_eq_of_mem_set hz' with h | h
  · rcases mem_splice h with h | h
    · exact hz z h
    · rw [(List.mem_replicate.1 h).2]; decide
  · rw [h]; exact hv
end

/-- Which words start an object, told by a rule. -/
structure Tiles (ys : List Int) (S : Nat → Prop) : Prop where
  zero : 0 < ys.length → S 0
  ok : ∀ s, S s → s < ys.length → stepOk ys s = true
  next : ∀ s, S s → s < ys.length → s + sLong (nth ys s) < ys.length → S (s + sLong (nth ys s))
  none : ∀ s t, S s → s < t → t < s + sLong (nth ys s) → t < ys.length → ¬ S t
theorem Tiles.from {ys : List Int} {S : Nat → Prop} (h : Tiles ys S) : ∀ a, (a < ys.length → S a) → fine ys a = true ∧ ∀ s, a ≤ s → (s ∈ begins ys a ↔ S s ∧ s < ys.length) := by
  intro a
  induction hk : ys.length - a using Nat.strongRecOn generalizing a with
  | ind k ih =>
    intro ha
    by_cases hlt : a < ys.length
    · have hSa := ha hlt
      have hst := h.ok a hSa hlt
      have hp := sLong_pos (nth ys a)
      obtain ⟨i1, i2⟩ := ih (ys.length - (a + sLong (nth ys a))) (by omega) (a + sLong (nth ys a)) rfl (fun h' => h.next a hSa hlt h')
      rw [fine_step hlt hst, begins_step hlt hst]
      refine ⟨i1, fun s hs => ?_⟩
      rw [List.mem_cons]
      by_cases he : s = a
      · subst he
        exact ⟨fun _ => ⟨hSa, hlt⟩, fun _ => .inl rfl⟩
      · rcases Nat.lt_or_ge s (a + sLong (nth ys a)) with h1 | h1
        · refine ⟨fun h2 => ?_, fun h2 => absurd h2.1 (h.none a s hSa (by omega) h1 h2.2)⟩
          rcases h2 with h2 | h2
          · exact absurd h2 he
          · have := (begins_mem h2).1; omega
        · rw [← i2 s h1]
          exact ⟨fun h2 => h2.resolve_left he, .inr⟩
    · rw [fine_end (by omega), begins_end (by omega)]
      exact ⟨rfl, fun s hs => ⟨(fun h' => nomatch h'), (fun h' => absurd h'.2 (by omega))⟩⟩
theorem Tiles.fine {ys : List Int} {S : Nat → Prop} (h : Tiles ys S) : fine ys 0 = true := (h.from 0 h.zero).1
theorem Tiles.mem {ys : List Int} {S : Nat → Prop} (h : Tiles ys S) (s : Nat) : s ∈ begins ys 0 ↔ S s ∧ s < ys.length := (h.from 0 h.zero).2 s (Nat.zero_le _)
/-- The next object begins where this one ends. -/
theorem begins_next : ∀ {zs : List Int} {a s : Nat}, fine zs a = true → s ∈ begins zs a → s + sLong (nth zs s) < zs.length → s + sLong (nth zs s) ∈ begins zs a := by
  intro zs a
  induction hk : zs.length - a using Nat.strongRecOn generalizing a with
  | ind j ih =>
    intro s hf hs hlt
    by_cases h : a < zs.length
    · cases hst : stepOk zs a
      · rw [fine_bad h hst] at hf; cases hf
      · rw [begins_step h hst] at hs ⊢
        rw [fine_step h hst] at hf
        have hp := sLong_pos (nth zs a)
        rcases List.mem_cons.1 hs with hs | hs
        · subst hs
          refine List.mem_cons_of_mem _ ?_
          cases hst2 : stepOk zs (s + sLong (nth zs s))
          · rw [fine_bad hlt hst2] at hf; cases hf
          · rw [begins_step hlt hst2]; exact List.mem_cons_self
        · exact List.mem_cons_of_mem _ (ih (zs.length - (a + sLong (nth zs a))) (by omega) rfl hf hs hlt)
    · rw [begins_end (by omega)] at hs; cases hs
theorem begins_zero {zs : List Int} (hf : fine zs 0 = true) (h : 0 < zs.length) : 0 ∈ begins zs 0 := by
  cases hst : stepOk zs 0
  · rw [fine_bad h hst] at hf; cases hf
  · rw [begins_step h hst]; exact List.mem_cons_self
end Go.Proofs.Ytjefbekdjgmmbaa
