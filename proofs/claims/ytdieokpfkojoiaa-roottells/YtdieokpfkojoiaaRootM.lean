/-
  Roots, over no program: the faults of a list of slots, the words that it names, slots swapped there and back.
-/
import Derived.Test.YtdieokpfkojoiaaSortI
namespace Go.Proofs.Ytdieokpfkojoiaa
open Go.RowKit

/-- May a slot hold 'v', in a heap of 'n' words? -/
def inRoot (n v : Int) : Bool := decide (-1 ≤ v ∧ v < n)
def wordsE (n : Int) (l : List Int) : Int := if l.all (inRoot n) = true then 0 else 4
def rootE (n : Int) (l : List Int) : Int := if n < 0 ∨ 256 < n then 4 else if 32 < l.length then 2 else wordsE n l
def setE (n slot v : Int) (l : List Int) : Int := if rootE n l ≠ 0 then rootE n l else if slot < 0 ∨ (l.length : Int) ≤ slot then 5 else if inRoot n v = true then 0 else 4
def swapE (n : Int) (l to : List Int) : Int := if rootE n l ≠ 0 then rootE n l else if (to.length : Int) ≠ n then 3 else wordsE n to
/-- The words in the slots, without null. -/
def liveL (l : List Int) : List Int := l.filter fun k => k != -1
def namedL (l : List Int) : List Int := uniqL (sortL (liveL l))
/-- What becomes of a slot. -/
def swapTo (to : List Int) (k : Int) : Int := if k = -1 then -1 else nth to k.toNat
def swapL (l to : List Int) : List Int := l.map (swapTo to)
/-- All numbers of words that are in the list, in rising order. -/
def risingTo (l : List Int) (k : Nat) : List Int := ((List.range k).map fun j : Nat => (j : Int)).filter fun j => decide (j ∈ l)

theorem inRoot_iff {n v : Int} : inRoot n v = true ↔ -1 ≤ v ∧ v < n := by simp [inRoot]
theorem wordsE_ok {n : Int} {l : List Int} : wordsE n l = 0 ↔ ∀ v ∈ l, -1 ≤ v ∧ v < n := by
  unfold wordsE
  split
  · rename_i h
    simp only [true_iff]
    intro v hv
    exact inRoot_iff.1 (List.all_eq_true.1 h v hv)
  · rename_i h
    constructor
    · intro h0; omega
    · intro h1
      exact absurd (List.all_eq_true.2 fun v hv => inRoot_iff.2 (h1 v hv)) h
theorem wordsE_or (n : Int) (l : List Int) : wordsE n l = 0 ∨ wordsE n l = 4 := by
  unfold wordsE; split
  · exact .inl rfl
  · exact .inr rfl
theorem rootE_ok {n : Int} {l : List Int} : rootE n l = 0 ↔ (0 ≤ n ∧ n ≤ 256) ∧ l.length ≤ 32 ∧ ∀ v ∈ l, -1 ≤ v ∧ v < n := by
  unfold rootE
  split
  · constructor
    · intro h; omega
    · intro h; omega
  · split
    · constructor
      · intro h; omega
      · intro h; omega
    · rw [wordsE_ok]
      constructor
      · intro h; exact ⟨by omega, by omega, h⟩
      · intro h; exact h.2.2
theorem nth_mem {l : List Int} {j : Nat} (h : j < l.length) : nth l j ∈ l := by rw [nth_get _ _ h]; exact List.getElem_mem _

/-! What slices.Compact leaves of a rising list. -/
theorem uniq_inv (d : Array Int) (hs : ∀ i j, i ≤ j → j < d.size → d[i]! ≤ d[j]!) : ∀ m, m ≤ d.size →
    (Lib.compactUpTo d m).Pairwise (· < ·) ∧ ∀ x, x ∈ Lib.compactUpTo d m ↔ ∃ j, j < m ∧ d[j]! = x
  | 0, _ => ⟨by simp [Lib.compactUpTo], fun x => by simp [Lib.compactUpTo]⟩
  | m + 1, hm => by
    obtain ⟨h1, h2⟩ := uniq_inv d hs m (by omega)
    rw [Lib.compactUpTo_succ]
    by_cases hk : Lib.keeps d m = true
    · rw [if_pos hk]
      constructor
      · rw [List.pairwise_append]
        refine ⟨h1, List.pairwise_singleton _ _, fun a ha b hb => ?_⟩
        rw [List.mem_singleton.1 hb]
        obtain ⟨j, hj, rfl⟩ := (h2 a).1 ha
        have hne : m = 0 ∨ d[m]! ≠ d[m - 1]! := by simpa [Lib.keeps] using hk
        have e1 := hs j (m - 1) (by omega) (by omega)
        have e2 := hs (m - 1) m (by omega) (by omega)
        rcases hne with h | h
        · omega
        · omega
      · intro x
        rw [List.mem_append, h2, List.mem_singleton]
        constructor
        · rintro (⟨j, hj, e⟩ | e)
          · exact ⟨j, by omega, e⟩
          · exact ⟨m, by omega, e.symm⟩
        · rintro ⟨j, hj, e⟩
          rcases Nat.lt_succ_iff_lt_or_eq.1 hj with h | h
          · exact .inl ⟨j, h, e⟩
          · exact .inr (by rw [← e, h])
    · rw [if_neg hk, List.append_nil]
      refine ⟨h1, fun x => ?_⟩
      rw [h2]
      have he : m ≠ 0 ∧ d[m]! = d[m - 1]! := by
        have : ¬ (m = 0 ∨ d[m]! ≠ d[m - 1]!) := by simpa [Lib.keeps] using hk
        refine ⟨fun h => this (.inl h), ?_⟩
        rcases Decidable.em (d[m]! = d[m - 1]!) with h | h
        · exact h
        · exact absurd (.inr h) this
      constructor
      · rintro ⟨j, hj, e⟩; exact ⟨j, by omega, e⟩
      · rintro ⟨j, hj, e⟩
        rcases Nat.lt_succ_iff_lt_or_eq.1 hj with h | h
        · exact ⟨j, h, e⟩
        · exact ⟨m - 1, by omega, by rw [← e, h, he.2]⟩

theorem uniqL_sorted {xs : List Int} (h : xs.Pairwise (· ≤ ·)) : (uniqL xs).Pairwise (· < ·) ∧ ∀ x, x ∈ uniqL xs ↔ x ∈ xs := by
  have hs : ∀ i j, i ≤ j → j < xs.toArray.size → xs.toArray[i]! ≤ xs.toArray[j]! := by
    intro i j hij hj
    have hj' : j < xs.length := by simpa using hj
    rcases Nat.lt_or_eq_of_le hij with h1 | h1
    · have := List.pairwise_iff_getElem.1 h i j (by omega) hj' h1
      simpa [getElem!_pos, hj', show i < xs.length by omega] using this
    · subst h1; exact Int.le_refl _
  obtain ⟨h1, h2⟩ := uniq_inv xs.toArray hs xs.length (by simp)
  refine ⟨h1, fun x => ?_⟩
  refine (h2 x).trans ⟨?_, fun hx => ?_⟩
  · rintro ⟨j, hj, rfl⟩
    simp [getElem!_pos, hj]
  · obtain ⟨i, hi, rfl⟩ := List.getElem_of_mem hx
    exact ⟨i, hi, by simp [getElem!_pos, hi]⟩

theorem namedL_rises (l : List Int) : (namedL l).Pairwise (· < ·) := (uniqL_sorted (sortL_sorted _)).1
theorem namedL_mem {l : List Int} {x : Int} : x ∈ namedL l ↔ x ∈ l ∧ x ≠ -1 := by
  unfold namedL
  rw [(uniqL_sorted (sortL_sorted _)).2, sortL_mem]
  simp [liveL, List.mem_filter]
theorem liveL_len (l : List Int) : (liveL l).length ≤ l.length := List.length_filter_le _ _
theorem namedL_len (l : List Int) : (namedL l).length ≤ l.length := by
  unfold namedL
  refine Nat.le_trans (uniqL_len _) ?_
  rw [sortL_len]
  exact liveL_len l

theorem risesI_ext : ∀ {xs ys : List Int}, xs.Pairwise (· < ·) → ys.Pairwise (· < ·) → (∀ a, a ∈ xs ↔ a ∈ ys) → xs = ys
  | [], [], _, _, _ => rfl
  | [], y :: ys, _, _, h => by have := (h y).2 List.mem_cons_self; cases this
  | x :: xs, [], _, _, h => by have := (h x).1 List.mem_cons_self; cases this
  | x :: xs, y :: ys, hx, hy, h => by
    obtain ⟨hx1, hx2⟩ := List.pairwise_cons.1 hx
    obtain ⟨hy1, hy2⟩ := List.pairwise_cons.1 hy
    have e : x = y := by
      rcases List.mem_cons.1 ((h x).1 List.mem_cons_self) with h1 | h1
      · exact h1
      · rcases List.mem_cons.1 ((h y).2 List.mem_cons_self) with h2 | h2
        · exact h2.symm
        · have := hx1 y h2
          have := hy1 x h1
          omega
    subst e
    rw [risesI_ext hx2 hy2 fun a => ⟨fun ha => ?_, fun ha => ?_⟩]
    · rcases List.mem_cons.1 ((h a).1 (List.mem_cons_of_mem _ ha)) with h1 | h1
      · have := hx1 a ha; omega
      · exact h1
    · rcases List.mem_cons.1 ((h a).2 (List.mem_cons_of_mem _ ha)) with h1 | h1
      · have := hy1 a ha; omega
      · exact h1

theorem risingTo_zero (l : List Int) : risingTo l 0 = [] := rfl
theorem risingTo_yes {l : List Int} {k : Nat} (h : (k : Int) ∈ l) : risingTo l (k + 1) = risingTo l k ++ [(k : Int)] := by
  simp [risingTo, List.range_succ, List.filter_append, h]
theorem risingTo_no {l : List Int} {k : Nat} (h : ¬ (k : Int) ∈ l) : risingTo l (k + 1) = risingTo l k := by
  simp [risingTo, List.range_succ, List.filter_append, h]
theorem risingTo_len (l : List Int) (k : Nat) : (risingTo l k).length ≤ k := by
  unfold risingTo
  exact Nat.le_trans (List.length_filter_le _ _) (by simp)
theorem risingTo_rises (l : List Int) (k : Nat) : (risingTo l k).Pairwise (· < ·) := by
  unfold risingTo
  refine List.Pairwise.filter _ ?_
  rw [List.pairwise_map]
  exact List.pairwise_lt_range.imp (by intro a b h; omega)
theorem risingTo_mem {l : List Int} {k : Nat} {x : Int} : x ∈ risingTo l k ↔ x ∈ l ∧ 0 ≤ x ∧ x < k := by
  unfold risingTo
  rw [List.mem_filter, List.mem_map]
  constructor
  · rintro ⟨⟨j, hj, rfl⟩, h⟩
    have := List.mem_range.1 hj
    exact ⟨by simpa using h, by omega, by omega⟩
  · rintro ⟨h1, h2, h3⟩
    exact ⟨⟨x.toNat, List.mem_range.2 (by omega), by omega⟩, by simpa using h1⟩
theorem named_rising {n : Int} {l : List Int} (h : rootE n l = 0) : namedL l = risingTo l 256 := by
  obtain ⟨h1, _, h3⟩ := rootE_ok.1 h
  refine risesI_ext (namedL_rises l) (risingTo_rises l _) fun a => ?_
  rw [namedL_mem, risingTo_mem]
  constructor
  · rintro ⟨ha, hne⟩
    have := h3 a ha
    exact ⟨ha, by omega, by omega⟩
  · rintro ⟨ha, h0, _⟩
    exact ⟨ha, by omega⟩

/-! Swapped. -/
theorem swapL_len (l to : List Int) : (swapL l to).length = l.length := by simp [swapL]
theorem swapL_nth {l to : List Int} {j : Nat} (h : j < l.length) : nth (swapL l to) j = swapTo to (nth l j) := by
  rw [nth_get _ _ (by rw [swapL_len]; exact h), nth_get _ _ h]
  simp [swapL]
theorem swapTo_in {n k : Int} {to : List Int} (hk : -1 ≤ k ∧ k < n) (hl : (to.length : Int) = n) (ht : ∀ v ∈ to, -1 ≤ v ∧ v < n) : -1 ≤ swapTo to k ∧ swapTo to k < n := by
  unfold swapTo
  split
  · omega
  · exact ht _ (nth_mem (by omega))
theorem swapL_in {n : Int} {l to : List Int} (h : swapE n l to = 0) : ∀ v ∈ swapL l to, -1 ≤ v ∧ v < n := by
  unfold swapE at h
  split at h
  · omega
  · rename_i h0
    split at h
    · omega
    · rename_i hl
      intro v hv
      obtain ⟨k, hk, rfl⟩ := List.mem_map.1 hv
      exact swapTo_in ((rootE_ok.1 (by omega)).2.2 k hk) (by omega) (wordsE_ok.1 h)
end Go.Proofs.Ytdieokpfkojoiaa
