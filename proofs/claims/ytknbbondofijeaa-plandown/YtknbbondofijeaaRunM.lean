/-
  Plain mathematics of runs, over no program: the maximal stretches of numbers that a rule marks.
-/
import Derived.Test.YtknbbondofijeaaSpotM
import Derived.Test.YtknbbondofijeaaRec
namespace Go.Proofs.Ytknbbondofijeaa
open Go.RowKit

/-- A run's two cells. -/
def runC (r : Int × Int) : List Value := [.int .i64 r.1, .int .i64 r.2]
theorem runC_len (r : Int × Int) : (runC r).length = 2 := rfl
theorem runC_one (r : Int × Int) : ∀ u ∈ runC r, u.oneCell' = true := by
  intro u hu
  rcases List.mem_cons.1 hu with rfl | hu
  · rfl
  · rw [List.mem_singleton.1 hu]; rfl
/-- The last run one longer. -/
def bump (l : List (Int × Int)) : List (Int × Int) := l.set (l.length - 1) ((nthG l (l.length - 1)).1, (nthG l (l.length - 1)).2 + 1)
/-- The runs of the first 'k' numbers. -/
def runsTo (f : Nat → Bool) : Nat → List (Int × Int)
  | 0 => []
  | k + 1 => if f k = true then (if 0 < k ∧ f (k - 1) = true then bump (runsTo f k) else runsTo f k ++ [((k : Int), 1)]) else runsTo f k
theorem runsTo_off {f : Nat → Bool} {k : Nat} (h : f k = false) : runsTo f (k + 1) = runsTo f k := by
  conv => lhs; unfold runsTo
  rw [if_neg (by rw [h]; decide)]
theorem runsTo_new {f : Nat → Bool} {k : Nat} (h : f k = true) (h0 : ¬ (0 < k ∧ f (k - 1) = true)) : runsTo f (k + 1) = runsTo f k ++ [((k : Int), 1)] := by
  conv => lhs; unfold runsTo
  rw [if_pos h, if_neg h0]
theorem runsTo_on {f : Nat → Bool} {k : Nat} (h : f k = true) (h0 : 0 < k ∧ f (k - 1) = true) : runsTo f (k + 1) = bump (runsTo f k) := by
  conv => lhs; unfold runsTo
  rw [if_pos h, if_pos h0]
theorem bump_length (l : List (Int × Int)) : (bump l).length = l.length := by simp [bump]
theorem bump_snoc (l : List (Int × Int)) (a b : Int) : bump (l ++ [(a, b)]) = l ++ [(a, b + 1)] := by
  unfold bump
  rw [show (l ++ [(a, b)]).length - 1 = l.length by simp]
  simp [nthG, List.set_append_right]
/-- Nothing marked: nothing new. -/
theorem runsTo_gap {f : Nat → Bool} {a : Nat} : ∀ d, (∀ k, a ≤ k → k < a + d → f k = false) → runsTo f (a + d) = runsTo f a
  | 0, _ => rfl
  | d + 1, h => by rw [← Nat.add_assoc, runsTo_off (h (a + d) (by omega) (by omega)), runsTo_gap d fun k h1 h2 => h k h1 (by omega)]
/-- A whole run. -/
theorem runsTo_run {f : Nat → Bool} {a : Nat} (h0 : a = 0 ∨ f (a - 1) = false) : ∀ d, (∀ k, a ≤ k → k < a + (d + 1) → f k = true) → runsTo f (a + (d + 1)) = runsTo f a ++ [((a : Int), (d : Int) + 1)]
  | 0, h => by
    rw [Nat.zero_add, runsTo_new (h a (by omega) (by omega))]
    · rfl
    · rintro ⟨h1, h2⟩
      rcases h0 with h0 | h0
      · omega
      · rw [h0] at h2; cases h2
  | d + 1, h => by
    rw [show a + (d + 1 + 1) = a + (d + 1) + 1 by omega, runsTo_on (h (a + (d + 1)) (by omega) (by omega)) ⟨by omega, h _ (by omega) (by omega)⟩, runsTo_run h0 d fun k h1 h2 => h k h1 (by omega), bump_snoc]
    congr 3
theorem runsTo_len {f : Nat → Bool} : ∀ k, (runsTo f k).length ≤ k
  | 0 => Nat.le_refl _
  | k + 1 => by
    have := runsTo_len (f := f) k
    unfold runsTo
    split
    · split
      · rw [bump_length]; omega
      · simp; omega
    · omega
/-- Where the number before is marked there is a run. -/
theorem runsTo_some {f : Nat → Bool} : ∀ k, f k = true → 0 < (runsTo f (k + 1)).length
  | 0, h => by rw [runsTo_new h (by omega)]; simp
  | k + 1, h => by
    by_cases hk : f k = true
    · rw [runsTo_on h ⟨by omega, by simpa using hk⟩, bump_length]
      exact runsTo_some k hk
    · rw [runsTo_new h (by rintro ⟨_, h2⟩; exact hk (by simpa using h2))]; simp
theorem runsTo_congr {f g : Nat → Bool} : ∀ n, (∀ k, k < n → f k = g k) → runsTo f n = runsTo g n
  | 0, _ => rfl
  | n + 1, h => by
    unfold runsTo
    rw [runsTo_congr n (fun k hk => h k (by omega)), h n (by omega)]
    split
    · split
      · rename_i h1
        rw [if_pos ⟨h1.1, by rw [← h (n - 1) (by omega)]; exact h1.2⟩]
      · rename_i h1
        rw [if_neg (fun h2 => h1 ⟨h2.1, by rw [h (n - 1) (by omega)]; exact h2.2⟩)]
    · rfl

/-- What is known of the runs of the first 'n' numbers: each is in range and not empty, they stand apart and in order, they hold just the marked numbers, and their lengths add up. -/
structure Runs (f : Nat → Bool) (n : Nat) (l : List (Int × Int)) : Prop where
  pos : ∀ i, i < l.length → 1 ≤ (nthG l i).2 ∧ 0 ≤ (nthG l i).1 ∧ (nthG l i).1 + (nthG l i).2 ≤ n
  apart : ∀ i, i + 1 < l.length → (nthG l i).1 + (nthG l i).2 < (nthG l (i + 1)).1
  sum : (l.map (·.2)).sum = (cnt f 0 n : Nat)
  all : ∀ k : Nat, k < n → (f k = true ↔ ∃ i, i < l.length ∧ (nthG l i).1 ≤ k ∧ (k : Int) < (nthG l i).1 + (nthG l i).2)
  last : 0 < n → f (n - 1) = true → 0 < l.length ∧ (nthG l (l.length - 1)).1 + (nthG l (l.length - 1)).2 = n
  edge : 0 < n → f (n - 1) = false → ∀ i, i < l.length → (nthG l i).1 + (nthG l i).2 < n

theorem nthG_append_left {α : Type} [Inhabited α] (l m : List α) (i : Nat) (h : i < l.length) : nthG (l ++ m) i = nthG l i := by
  simp [nthG, List.getElem?_append_left h]
theorem nthG_snoc {α : Type} [Inhabited α] (l : List α) (a : α) : nthG (l ++ [a]) l.length = a := by simp [nthG]
theorem nthG_set_same {α : Type} [Inhabited α] (l : List α) (i : Nat) (a : α) (h : i < l.length) : nthG (l.set i a) i = a := by simp [nthG, h]
theorem nthG_set_other {α : Type} [Inhabited α] (l : List α) (i j : Nat) (a : α) (h : i ≠ j) : nthG (l.set i a) j = nthG l j := by simp [nthG, h]
theorem sum_bump (l : List (Int × Int)) (h : 0 < l.length) : ((bump l).map (·.2)).sum = (l.map (·.2)).sum + 1 := by
  obtain ⟨m, x, rfl⟩ : ∃ m x, l = m ++ [x] := ⟨l.dropLast, l.getLast (by intro h0; simp [h0] at h), (List.dropLast_concat_getLast _).symm⟩
  rw [show x = (x.1, x.2) from rfl, bump_snoc]
  simp
  omega

theorem runs_ok (f : Nat → Bool) : ∀ n, Runs f n (runsTo f n)
  | 0 => ⟨fun i h => absurd h (by simp [runsTo]), fun i h => absurd h (by simp [runsTo]), rfl, fun k h => absurd h (by omega), fun h => absurd h (by omega), fun h => absurd h (by omega)⟩
  | n + 1 => by
    have ih := runs_ok f n
    cases hn : f n
    · rw [runsTo_off hn]
      refine ⟨fun i h => ?_, ih.apart, ?_, fun k hk => ?_, fun _ h => ?_, fun _ _ i h => ?_⟩
      · have := ih.pos i h; omega
      · rw [ih.sum]; simp [cnt, hn]
      · rcases Nat.lt_or_ge k n with h | h
        · exact ih.all k h
        · obtain rfl : k = n := by omega
          rw [hn]
          refine ⟨fun h => absurd h (by decide), ?_⟩
          rintro ⟨i, hi, h1, h2⟩
          have := ih.pos i hi; omega
      · rw [Nat.add_sub_cancel, hn] at h; cases h
      · have := ih.pos i h; omega
    · by_cases h0 : 0 < n ∧ f (n - 1) = true
      · rw [runsTo_on hn h0]
        obtain ⟨hl, hlast⟩ := ih.last h0.1 h0.2
        obtain ⟨L, hL⟩ : ∃ L, runsTo f n = L := ⟨_, rfl⟩
        rw [hL] at ih hl hlast ⊢
        have hb : ∀ i, i < L.length → (nthG (bump L) i).1 = (nthG L i).1 ∧ ((nthG (bump L) i).2 = (nthG L i).2 + if i = L.length - 1 then 1 else 0) := by
          intro i hi
          unfold bump
          by_cases he : i = L.length - 1
          · subst he; rw [nthG_set_same _ _ _ hi]; simp
          · rw [nthG_set_other _ _ _ _ (fun h => he h.symm), if_neg he]; simp
        refine ⟨fun i h => ?_, fun i h => ?_, ?_, fun k hk => ?_, fun _ _ => ⟨by rw [bump_length]; exact hl, ?_⟩, fun _ h => ?_⟩
        · rw [bump_length] at h
          obtain ⟨b1, b2⟩ := hb i h
          have := ih.pos i h
          rw [b1, b2]
          split <;> omega
        · rw [bump_length] at h
          obtain ⟨b1, b2⟩ := hb i (by omega)
          obtain ⟨c1, c2⟩ := hb (i + 1) h
          have := ih.apart i h
          rw [b1, b2, c1, if_neg (by omega)]
          omega
        · rw [sum_bump _ hl, ih.sum]; simp [cnt, hn]
        · constructor
          · intro hf
            rcases Nat.lt_or_ge k n with h | h
            · obtain ⟨i, hi, h1, h2⟩ := (ih.all k h).1 hf
              obtain ⟨b1, b2⟩ := hb i hi
              exact ⟨i, by rw [bump_length]; exact hi, by rw [b1]; exact h1, by rw [b1, b2]; split <;> omega⟩
            · have := ih.pos (L.length - 1) (by omega)
              obtain ⟨b1, b2⟩ := hb (L.length - 1) (by omega)
              exact ⟨L.length - 1, by rw [bump_length]; omega, by rw [b1]; omega, by rw [b1, b2, if_pos rfl]; omega⟩
          · rintro ⟨i, hi, h1, h2⟩
            rw [bump_length] at hi
            obtain ⟨b1, b2⟩ := hb i hi
            rw [b1] at h1 h2
            rw [b2] at h2
            rcases Nat.lt_or_ge k n with h | h
            · refine (ih.all k h).2 ⟨i, hi, h1, ?_⟩
              split at h2
              · rename_i he; subst he; omega
              · omega
            · obtain rfl : k = n := by omega
              exact hn
        · obtain ⟨b1, b2⟩ := hb (L.length - 1) (by omega)
          rw [bump_length, b1, b2, if_pos rfl]
          omega
        · rw [Nat.add_sub_cancel, hn] at h; cases h
      · rw [runsTo_new hn h0]
        obtain ⟨L, hL⟩ : ∃ L, runsTo f n = L := ⟨_, rfl⟩
        rw [hL] at ih ⊢
        have hed : ∀ i, i < L.length → (nthG L i).1 + (nthG L i).2 < n := by
          intro i hi
          have hp := ih.pos i hi
          refine ih.edge (by omega) ?_ i hi
          cases he : f (n - 1)
          · rfl
          · exact absurd ⟨by omega, he⟩ h0
        refine ⟨fun i h => ?_, fun i h => ?_, ?_, fun k hk => ?_, fun _ _ => ⟨by simp, ?_⟩, fun _ h => ?_⟩
        · rcases Nat.lt_or_ge i L.length with h1 | h1
          · rw [nthG_append_left _ _ _ h1]; have := ih.pos i h1; omega
          · obtain rfl : i = L.length := by simp at h; omega
            rw [nthG_snoc]; simp
        · have hi : i < L.length := by simp at h; omega
          rw [nthG_append_left _ _ _ hi]
          rcases Nat.lt_or_ge (i + 1) L.length with h1 | h1
          · rw [nthG_append_left _ _ _ h1]; exact ih.apart i h1
          · obtain e : i + 1 = L.length := by omega
            rw [e, nthG_snoc]
            have := hed i hi
            simpa using this
        · simp [ih.sum, cnt, hn]
        · constructor
          · intro hf
            rcases Nat.lt_or_ge k n with h | h
            · obtain ⟨i, hi, h1, h2⟩ := (ih.all k h).1 hf
              exact ⟨i, by simp; omega, by rw [nthG_append_left _ _ _ hi]; exact h1, by rw [nthG_append_left _ _ _ hi]; exact h2⟩
            · exact ⟨L.length, by simp, by rw [nthG_snoc]; simp; omega, by rw [nthG_snoc]; simp; omega⟩
          · rintro ⟨i, hi, h1, h2⟩
            rcases Nat.lt_or_ge i L.length with h | h
            · rw [nthG_append_left _ _ _ h] at h1 h2
              have := hed i h
              exact (ih.all k (by omega)).2 ⟨i, h, h1, h2⟩
            · obtain rfl : i = L.length := by simp at hi; omega
              rw [nthG_snoc] at h1 h2
              simp at h1 h2
              obtain rfl : k = n := by omega
              exact hn
        · simp only [List.length_append, List.length_singleton, Nat.add_sub_cancel]
          rw [nthG_snoc]; simp
        · rw [Nat.add_sub_cancel, hn] at h; cases h
end Go.Proofs.Ytknbbondofijeaa
