/-
  Pins (at, many), over no program: their faults, and what Many, Add and Drop say of them.
-/
import Derived.Test.YtedndmhekjfpdaaRunM
namespace Go.Proofs.Ytedndmhekjfpdaa
open Go.RowKit

/-- A pin's own numbers are right. -/
def pinOk (x : Int × Int) : Bool := decide (0 ≤ x.1 ∧ x.1 < 256 ∧ 1 ≤ x.2 ∧ x.2 ≤ 1000000)
theorem pinOk_iff {x : Int × Int} : pinOk x = true ↔ 0 ≤ x.1 ∧ x.1 < 256 ∧ 1 ≤ x.2 ∧ x.2 ≤ 1000000 := by simp [pinOk]
/-- The fault of pin 'i'. -/
def pinAt (l : List (Int × Int)) (i : Nat) : Int := if pinOk (nthG l i) = true then (if 0 < i ∧ (nthG l i).1 ≤ (nthG l (i - 1)).1 then 3 else 0) else 4
/-- The first fault of the first 'k' pins. -/
def pinTo (l : List (Int × Int)) : Nat → Int
  | 0 => 0
  | k + 1 => if pinTo l k = 0 then pinAt l k else pinTo l k
def pinE (l : List (Int × Int)) : Int := if 16 < l.length then 2 else pinTo l l.length
theorem pinTo_next {l : List (Int × Int)} {k : Nat} (h : pinTo l k = 0) : pinTo l (k + 1) = pinAt l k := by
  conv => lhs; unfold pinTo
  rw [if_pos h]
theorem pinTo_stays {l : List (Int × Int)} {k : Nat} (h : pinTo l k ≠ 0) : ∀ d, pinTo l (k + d) = pinTo l k
  | 0 => rfl
  | d + 1 => by
    rw [← Nat.add_assoc]
    conv => lhs; unfold pinTo
    rw [pinTo_stays h d, if_neg h]
theorem pinTo_zero {l : List (Int × Int)} : ∀ {k : Nat}, pinTo l k = 0 ↔ ∀ i, i < k → pinAt l i = 0
  | 0 => ⟨fun _ i hi => absurd hi (by omega), fun _ => rfl⟩
  | k + 1 => by
    have ih := pinTo_zero (l := l) (k := k)
    by_cases h : pinTo l k = 0
    · rw [pinTo_next h]
      constructor
      · intro h1 i hi
        rcases Nat.lt_succ_iff_lt_or_eq.1 hi with h2 | h2
        · exact ih.1 h i h2
        · rw [h2]; exact h1
      · intro h1; exact h1 k (by omega)
    · rw [pinTo_stays h 1]
      constructor
      · intro h1; exact absurd h1 h
      · intro h1; exact ih.2 fun i hi => h1 i (by omega)
/-- A fault found at pin 'k', none ahead of it. -/
theorem pinE_at {l : List (Int × Int)} {k : Nat} (h16 : l.length ≤ 16) (hk : k < l.length) (h : pinTo l k = 0) (ha : pinAt l k ≠ 0) : pinE l = pinAt l k := by
  have h1 := pinTo_next h
  have h2 := pinTo_stays (l := l) (k := k + 1) (by rw [h1]; exact ha) (l.length - (k + 1))
  unfold pinE
  rw [if_neg (by omega), ← h1, ← h2]
  congr 1
  omega
theorem pinAt_bad {l : List (Int × Int)} {i : Nat} (h : pinOk (nthG l i) = false) : pinAt l i = 4 := by
  unfold pinAt
  rw [h]; rfl
theorem pinAt_form {l : List (Int × Int)} {i : Nat} (h : pinOk (nthG l i) = true) (h2 : 0 < i ∧ (nthG l i).1 ≤ (nthG l (i - 1)).1) : pinAt l i = 3 := by
  unfold pinAt
  rw [if_pos h, if_pos h2]
theorem pinAt_ok {l : List (Int × Int)} {i : Nat} (h : pinOk (nthG l i) = true) (h2 : ¬ (0 < i ∧ (nthG l i).1 ≤ (nthG l (i - 1)).1)) : pinAt l i = 0 := by
  unfold pinAt
  rw [if_pos h, if_neg h2]
theorem pinAt_zero {l : List (Int × Int)} {i : Nat} : pinAt l i = 0 ↔ pinOk (nthG l i) = true ∧ ¬ (0 < i ∧ (nthG l i).1 ≤ (nthG l (i - 1)).1) := by
  unfold pinAt
  split
  · rename_i h
    split
    · rename_i h2; simp [h2]
    · rename_i h2; simp [h, h2]
  · rename_i h; simp [h]

/-- The words rise. -/
def Rise (l : List (Int × Int)) : Prop := l.Pairwise (fun a b => a.1 < b.1)
theorem rise_of {l : List (Int × Int)} (h : ∀ i, 0 < i → i < l.length → (nthG l (i - 1)).1 < (nthG l i).1) : Rise l := by
  have key : ∀ d i, i + d + 1 < l.length → (nthG l i).1 < (nthG l (i + d + 1)).1 := by
    intro d
    induction d with
    | zero => intro i hi; exact h (i + 1) (by omega) hi
    | succ d ih =>
      intro i hi
      have h1 := ih i (by omega)
      have h2 := h (i + d + 1 + 1) (by omega) (by omega)
      rw [show i + d + 1 + 1 - 1 = i + d + 1 by omega] at h2
      have e : i + (d + 1) + 1 = i + d + 1 + 1 := by omega
      rw [e]; omega
  unfold Rise
  rw [List.pairwise_iff_getElem]
  intro i j hi hj hij
  obtain ⟨d, rfl⟩ : ∃ d, j = i + d + 1 := ⟨j - i - 1, by omega⟩
  have := key d i hj
  rwa [nthG_get _ _ hi, nthG_get _ _ hj] at this
theorem rise_at {l : List (Int × Int)} (h : Rise l) {i : Nat} (h0 : 0 < i) (hi : i < l.length) : (nthG l (i - 1)).1 < (nthG l i).1 := by
  unfold Rise at h
  rw [List.pairwise_iff_getElem] at h
  rw [nthG_get _ _ hi, nthG_get _ _ (by omega : i - 1 < l.length)]
  exact h _ _ _ _ (by omega)
theorem pinE_ok {l : List (Int × Int)} : pinE l = 0 ↔ l.length ≤ 16 ∧ (∀ x ∈ l, pinOk x = true) ∧ Rise l := by
  unfold pinE
  by_cases h : 16 < l.length
  · rw [if_pos h]
    exact ⟨fun h1 => absurd h1 (by omega), fun h1 => absurd h1.1 (by omega)⟩
  · rw [if_neg h, pinTo_zero]
    constructor
    · intro h1
      refine ⟨by omega, fun x hx => ?_, rise_of fun i h0 hi => ?_⟩
      · obtain ⟨i, hi, rfl⟩ := List.getElem_of_mem hx
        have := (pinAt_zero.1 (h1 i hi)).1
        rwa [nthG_get _ _ hi] at this
      · have := (pinAt_zero.1 (h1 i hi)).2
        omega
    · rintro ⟨_, h2, h3⟩ i hi
      refine pinAt_zero.2 ⟨?_, fun h4 => ?_⟩
      · rw [nthG_get _ _ hi]; exact h2 _ (List.getElem_mem _)
      · have := rise_at h3 h4.1 hi
        omega
/-- A word of the arena. -/
def inWord (a : Int) : Bool := decide (0 ≤ a ∧ a < 256)
theorem inWord_iff {a : Int} : inWord a = true ↔ 0 ≤ a ∧ a < 256 := by simp [inWord]
/-- The fault of a word. -/
def wordE (a : Int) : Int := if 0 ≤ a ∧ a < 256 then 0 else 4
/-- The fault of pins and a word. -/
def callE (l : List (Int × Int)) (a : Int) : Int := if pinE l = 0 then wordE a else pinE l
theorem wordE_ok {a : Int} : wordE a = 0 ↔ 0 ≤ a ∧ a < 256 := by
  unfold wordE
  split
  · rename_i h; simp [h]
  · rename_i h; simp; omega
theorem callE_ok {l : List (Int × Int)} {a : Int} : callE l a = 0 ↔ pinE l = 0 ∧ 0 ≤ a ∧ a < 256 := by
  unfold callE
  split
  · rename_i h; simp [h, wordE_ok]
  · rename_i h; simp [h]

/-- How many requests for 'a'. -/
def manyL : List (Int × Int) → Int → Int
  | [], _ => 0
  | x :: r, a => if x.1 = a then x.2 else manyL r a
/-- One more for 'a'. -/
def addL : List (Int × Int) → Int → List (Int × Int)
  | [], a => [(a, 1)]
  | x :: r, a => if x.1 < a then x :: addL r a else if x.1 = a then (a, x.2 + 1) :: r else (a, 1) :: x :: r
/-- One less for 'a'. -/
def dropL : List (Int × Int) → Int → List (Int × Int)
  | [], _ => []
  | x :: r, a => if x.1 = a then (if x.2 = 1 then r else (a, x.2 - 1) :: r) else x :: dropL r a

section
variable {a : Int}
theorem manyL_skip : ∀ {s : List (Int × Int)} (r : List (Int × Int)), (∀ x ∈ s, x.1 ≠ a) → manyL (s ++ r) a = manyL r a
  | [], _, _ => rfl
  | x :: s, r, h => by
    rw [List.cons_append, manyL, if_neg (h x (by simp)), manyL_skip r fun y hy => h y (by simp [hy])]
theorem manyL_none {s : List (Int × Int)} (h : ∀ x ∈ s, x.1 ≠ a) : manyL s a = 0 := by
  have := manyL_skip (a := a) (s := s) [] h
  rwa [List.append_nil] at this
theorem addL_skip : ∀ {s : List (Int × Int)} (r : List (Int × Int)), (∀ x ∈ s, x.1 < a) → addL (s ++ r) a = s ++ addL r a
  | [], _, _ => rfl
  | x :: s, r, h => by
    rw [List.cons_append, addL, if_pos (h x (by simp)), addL_skip r fun y hy => h y (by simp [hy])]; rfl
theorem addL_high {r : List (Int × Int)} (h : ∀ x ∈ r, a < x.1) : addL r a = (a, 1) :: r := by
  cases r with
  | nil => rfl
  | cons x r =>
    have := h x (by simp)
    rw [addL, if_neg (by omega), if_neg (by omega)]
theorem dropL_skip : ∀ {s : List (Int × Int)} (r : List (Int × Int)), (∀ x ∈ s, x.1 ≠ a) → dropL (s ++ r) a = s ++ dropL r a
  | [], _, _ => rfl
  | x :: s, r, h => by
    rw [List.cons_append, dropL, if_neg (h x (by simp)), dropL_skip r fun y hy => h y (by simp [hy])]; rfl
/-- The pins that rise, at a word: it has none, or one. -/
theorem two_ways : ∀ {l : List (Int × Int)}, Rise l → (∃ s r, l = s ++ r ∧ (∀ x ∈ s, x.1 < a) ∧ ∀ x ∈ r, a < x.1) ∨ ∃ s m r, l = s ++ (a, m) :: r ∧ (∀ x ∈ s, x.1 < a) ∧ ∀ x ∈ r, a < x.1
  | [], _ => .inl ⟨[], [], rfl, by simp, by simp⟩
  | x :: l, h => by
    obtain ⟨h1, h2⟩ := List.pairwise_cons.1 h
    rcases Int.lt_trichotomy x.1 a with hx | hx | hx
    · rcases two_ways (l := l) h2 with ⟨s, r, rfl, h3, h4⟩ | ⟨s, m, r, rfl, h3, h4⟩
      · exact .inl ⟨x :: s, r, rfl, List.forall_mem_cons.2 ⟨hx, h3⟩, h4⟩
      · exact .inr ⟨x :: s, m, r, rfl, List.forall_mem_cons.2 ⟨hx, h3⟩, h4⟩
    · exact .inr ⟨[], x.2, l, by rw [← hx]; rfl, by simp, fun y hy => by rw [← hx]; exact h1 y hy⟩
    · exact .inl ⟨[], x :: l, rfl, by simp, List.forall_mem_cons.2 ⟨hx, fun y hy => Int.lt_trans hx (h1 y hy)⟩⟩

variable {s r : List (Int × Int)} {m : Int}
theorem many_out (hs : ∀ x ∈ s, x.1 < a) (hr : ∀ x ∈ r, a < x.1) : manyL (s ++ r) a = 0 := by
  rw [manyL_skip _ fun x hx => Int.ne_of_lt (hs x hx), manyL_none fun x hx => Int.ne_of_gt (hr x hx)]
theorem many_in (hs : ∀ x ∈ s, x.1 < a) : manyL (s ++ (a, m) :: r) a = m := by
  rw [manyL_skip _ fun x hx => Int.ne_of_lt (hs x hx), manyL, if_pos rfl]
theorem add_out (hs : ∀ x ∈ s, x.1 < a) (hr : ∀ x ∈ r, a < x.1) : addL (s ++ r) a = s ++ (a, 1) :: r := by
  rw [addL_skip _ hs, addL_high hr]
theorem add_in (hs : ∀ x ∈ s, x.1 < a) : addL (s ++ (a, m) :: r) a = s ++ (a, m + 1) :: r := by
  rw [addL_skip _ hs, addL, if_neg (by omega), if_pos rfl]
theorem drop_last (hs : ∀ x ∈ s, x.1 < a) : dropL (s ++ (a, 1) :: r) a = s ++ r := by
  rw [dropL_skip _ fun x hx => Int.ne_of_lt (hs x hx), dropL, if_pos rfl, if_pos rfl]
theorem drop_in (hs : ∀ x ∈ s, x.1 < a) (hm : m ≠ 1) : dropL (s ++ (a, m) :: r) a = s ++ (a, m - 1) :: r := by
  rw [dropL_skip _ fun x hx => Int.ne_of_lt (hs x hx), dropL, if_pos rfl, if_neg hm]

/-- Pins that rise, of words, with requests. -/
def Pins (l : List (Int × Int)) : Prop := Rise l ∧ ∀ x ∈ l, 0 ≤ x.1 ∧ x.1 < 256 ∧ 1 ≤ x.2
theorem pins_of {l : List (Int × Int)} (h : pinE l = 0) : Pins l := by
  obtain ⟨_, h2, h3⟩ := pinE_ok.1 h
  exact ⟨h3, fun x hx => by have := pinOk_iff.1 (h2 x hx); omega⟩
theorem rise_mid : Rise (s ++ (a, m) :: r) ↔ Rise (s ++ r) ∧ (∀ x ∈ s, x.1 < a) ∧ ∀ x ∈ r, a < x.1 := by
  unfold Rise
  rw [List.pairwise_append, List.pairwise_append, List.pairwise_cons]
  constructor
  · rintro ⟨h1, ⟨h2, h3⟩, h4⟩
    exact ⟨⟨h1, h3, fun x hx y hy => h4 x hx y (by simp [hy])⟩, fun x hx => h4 x hx (a, m) (by simp), h2⟩
  · rintro ⟨⟨h1, h2, h3⟩, h4, h5⟩
    refine ⟨h1, ⟨h5, h2⟩, fun x hx y hy => ?_⟩
    rcases List.mem_cons.1 hy with rfl | hy
    · exact h4 x hx
    · exact h3 x hx y hy
theorem pins_mid : Pins (s ++ (a, m) :: r) ↔ Pins (s ++ r) ∧ (∀ x ∈ s, x.1 < a) ∧ (∀ x ∈ r, a < x.1) ∧ 0 ≤ a ∧ a < 256 ∧ 1 ≤ m := by
  unfold Pins
  rw [rise_mid]
  constructor
  · rintro ⟨⟨h1, h2, h3⟩, h4⟩
    refine ⟨⟨h1, fun x hx => h4 x ?_⟩, h2, h3, h4 (a, m) (by simp)⟩
    rcases List.mem_append.1 hx with h | h <;> simp [h]
  · rintro ⟨⟨h1, h2⟩, h3, h4, h5⟩
    refine ⟨⟨h1, h3, h4⟩, fun x hx => ?_⟩
    rcases List.mem_append.1 hx with h | h
    · exact h2 x (by simp [h])
    · rcases List.mem_cons.1 h with rfl | h
      · exact h5
      · exact h2 x (by simp [h])
theorem manyL_other {b : Int} (h : b ≠ a) : manyL (s ++ (a, m) :: r) b = manyL (s ++ r) b := by
  induction s with
  | nil => rw [List.nil_append, manyL, if_neg (fun e => h e.symm)]; rfl
  | cons x s ih => rw [List.cons_append, List.cons_append, manyL, manyL, ih]
end

theorem add_pins {l : List (Int × Int)} {a : Int} (h : Pins l) (ha : 0 ≤ a ∧ a < 256) : Pins (addL l a) := by
  rcases two_ways (a := a) h.1 with ⟨s, r, rfl, h1, h2⟩ | ⟨s, m, r, rfl, h1, h2⟩
  · rw [add_out h1 h2]
    exact pins_mid.2 ⟨h, h1, h2, ha.1, ha.2, by omega⟩
  · rw [add_in h1]
    obtain ⟨h3, _, _, _, _, h4⟩ := pins_mid.1 h
    exact pins_mid.2 ⟨h3, h1, h2, ha.1, ha.2, by omega⟩
theorem drop_pins {l : List (Int × Int)} {a : Int} (h : Pins l) : Pins (dropL l a) := by
  rcases two_ways (a := a) h.1 with ⟨s, r, rfl, h1, h2⟩ | ⟨s, m, r, rfl, h1, h2⟩
  · rw [dropL_skip _ fun x hx => Int.ne_of_lt (h1 x hx)]
    have : dropL (r ++ []) a = r ++ dropL [] a := dropL_skip [] fun x hx => Int.ne_of_gt (h2 x hx)
    rw [List.append_nil] at this
    rw [this, dropL, List.append_nil]
    exact h
  · obtain ⟨h3, _, _, h4, h5, h6⟩ := pins_mid.1 h
    by_cases hm : m = 1
    · subst hm
      rw [drop_last h1]; exact h3
    · rw [drop_in h1 hm]
      exact pins_mid.2 ⟨h3, h1, h2, h4, h5, by omega⟩
theorem many_add {l : List (Int × Int)} {a : Int} (h : Rise l) (b : Int) : manyL (addL l a) b = if b = a then manyL l a + 1 else manyL l b := by
  rcases two_ways (a := a) h with ⟨s, r, rfl, h1, h2⟩ | ⟨s, m, r, rfl, h1, h2⟩
  · rw [add_out h1 h2]
    by_cases hb : b = a
    · subst hb
      rw [if_pos rfl, many_in h1, many_out h1 h2]; rfl
    · rw [if_neg hb, manyL_other hb]
  · rw [add_in h1]
    by_cases hb : b = a
    · subst hb
      rw [if_pos rfl, many_in h1, many_in h1]
    · rw [if_neg hb, manyL_other hb, manyL_other hb]
theorem many_drop {l : List (Int × Int)} {a : Int} (h : Rise l) (hm : manyL l a ≠ 0) (b : Int) : manyL (dropL l a) b = if b = a then manyL l a - 1 else manyL l b := by
  rcases two_ways (a := a) h with ⟨s, r, rfl, h1, h2⟩ | ⟨s, m, r, rfl, h1, h2⟩
  · exact absurd (many_out h1 h2) hm
  · rw [many_in h1]
    by_cases hm : m = 1
    · subst hm
      rw [drop_last h1]
      by_cases hb : b = a
      · subst hb
        rw [if_pos rfl, many_out h1 h2]; rfl
      · rw [if_neg hb, manyL_other hb]
    · rw [drop_in h1 hm]
      by_cases hb : b = a
      · subst hb
        rw [if_pos rfl, many_in h1]
      · rw [if_neg hb, manyL_other hb, manyL_other hb]
theorem drop_add {l : List (Int × Int)} {a : Int} (h : Pins l) : dropL (addL l a) a = l := by
  rcases two_ways (a := a) h.1 with ⟨s, r, rfl, h1, h2⟩ | ⟨s, m, r, rfl, h1, h2⟩
  · rw [add_out h1 h2, drop_last h1]
  · obtain ⟨_, _, _, _, _, h4⟩ := pins_mid.1 h
    rw [add_in h1, drop_in h1 (by omega)]
    congr 3
    omega
/-- A pin of each of the first 'k' words that has requests. -/
def tabTo (g : Int → Int) : Nat → List (Int × Int)
  | 0 => []
  | k + 1 => if 0 < g k then tabTo g k ++ [((k : Int), g k)] else tabTo g k
theorem tabTo_len (g : Int → Int) : ∀ k, (tabTo g k).length ≤ k
  | 0 => Nat.le_refl _
  | k + 1 => by
    have := tabTo_len g k
    rw [tabTo]
    split
    · simp; omega
    · omega
theorem tabTo_ext {g h : Int → Int} : ∀ k : Nat, (∀ j : Nat, j < k → g j = h j) → tabTo g k = tabTo h k
  | 0, _ => rfl
  | k + 1, e => by rw [tabTo, tabTo, e k (by omega), tabTo_ext k fun j hj => e j (by omega)]
theorem tab_filter {l : List (Int × Int)} (h : Pins l) : ∀ k : Nat, tabTo (manyL l) k = l.filter (fun x => decide (x.1 < (k : Int)))
  | 0 => by
    rw [tabTo]
    symm
    rw [List.filter_eq_nil_iff]
    intro x hx
    have := h.2 x hx
    simp; omega
  | k + 1 => by
    rw [tabTo, tab_filter h k]
    rcases two_ways (a := (k : Int)) h.1 with ⟨s, r, e, h1, h2⟩ | ⟨s, m, r, e, h1, h2⟩
    · have e1 : manyL l k = 0 := by rw [e]; exact many_out h1 h2
      rw [e1, if_neg (by omega)]
      apply List.filter_congr
      intro x hx
      rw [e] at hx
      rcases List.mem_append.1 hx with hx | hx
      · have := h1 x hx
        rw [decide_eq_true this, decide_eq_true (by omega)]
      · have := h2 x hx
        rw [decide_eq_false (by omega), decide_eq_false (by omega)]
    · have e1 : manyL l k = m := by rw [e]; exact many_in h1
      have hm : 1 ≤ m := by
        have := h.2 ((k : Int), m) (by rw [e]; simp)
        exact this.2.2
      rw [e1, if_pos (by omega), e, List.filter_append, List.filter_append, List.filter_cons_of_neg (by simp), List.filter_cons_of_pos (by simp; omega)]
      have n1 : r.filter (fun x => decide (x.1 < (k : Int))) = [] := by
        rw [List.filter_eq_nil_iff]; intro x hx; have := h2 x hx; simp; omega
      have n2 : r.filter (fun x => decide (x.1 < ((k + 1 : Nat) : Int))) = [] := by
        rw [List.filter_eq_nil_iff]; intro x hx; have := h2 x hx; simp; omega
      have n3 : s.filter (fun x => decide (x.1 < (k : Int))) = s := by
        rw [List.filter_eq_self]; intro x hx; have := h1 x hx; simp; omega
      have n4 : s.filter (fun x => decide (x.1 < ((k + 1 : Nat) : Int))) = s := by
        rw [List.filter_eq_self]; intro x hx; have := h1 x hx; simp; omega
      rw [n1, n2, n3, n4, List.append_nil]
theorem tab_pins {l : List (Int × Int)} (h : Pins l) : tabTo (manyL l) 256 = l := by
  rw [tab_filter h 256, List.filter_eq_self]
  intro x hx
  have := h.2 x hx
  simp; omega
theorem pins_len {l : List (Int × Int)} (h : Pins l) : l.length ≤ 256 := by
  have := tabTo_len (manyL l) 256
  rwa [tab_pins h] at this
/-- No more may be added. -/
def pinFull (l : List (Int × Int)) (a : Int) : Bool := decide (manyL l a = 1000000 ∨ (manyL l a = 0 ∧ l.length = 16))
theorem add_ok {l : List (Int × Int)} {a : Int} (h : pinE l = 0) (ha : 0 ≤ a ∧ a < 256) (hf : pinFull l a = false) : pinE (addL l a) = 0 := by
  have hp := pins_of h
  obtain ⟨h1, h2, _⟩ := pinE_ok.1 h
  have hq := add_pins hp ha
  refine pinE_ok.2 ⟨?_, ?_, hq.1⟩
  · rcases two_ways (a := a) hp.1 with ⟨s, r, rfl, h3, h4⟩ | ⟨s, m, r, rfl, h3, h4⟩
    · have hm := many_out h3 h4
      simp [pinFull, hm] at hf
      rw [add_out h3 h4, List.length_append, List.length_cons]
      rw [List.length_append] at h1
      omega
    · rw [add_in h3]
      simpa using h1
  · intro x hx
    rcases two_ways (a := a) hp.1 with ⟨s, r, rfl, h3, h4⟩ | ⟨s, m, r, rfl, h3, h4⟩
    · rw [add_out h3 h4] at hx
      rcases List.mem_append.1 hx with h | h
      · exact h2 x (by simp [h])
      · rcases List.mem_cons.1 h with rfl | h
        · exact pinOk_iff.2 ⟨ha.1, ha.2, by simp⟩
        · exact h2 x (by simp [h])
    · have hm := many_in (m := m) (r := r) h3
      simp [pinFull, hm] at hf
      have ho := pinOk_iff.1 (h2 (a, m) (by simp))
      simp only at ho
      rw [add_in h3] at hx
      rcases List.mem_append.1 hx with h | h
      · exact h2 x (by simp [h])
      · rcases List.mem_cons.1 h with rfl | h
        · exact pinOk_iff.2 ⟨ha.1, ha.2, by show 1 ≤ m + 1; omega, by show m + 1 ≤ 1000000; omega⟩
        · exact h2 x (by simp [h])
/-- The first 'p' words, and no other, are less than 'a'. -/
def Cuts (l : List (Int × Int)) (a : Int) (p : Nat) : Prop := p ≤ l.length ∧ ∀ t, t < l.length → ((nthG l t).1 < a ↔ t < p)
theorem cuts_of {s r : List (Int × Int)} {a : Int} (hs : ∀ x ∈ s, x.1 < a) (hr : ∀ x ∈ r, a ≤ x.1) : Cuts (s ++ r) a s.length := by
  refine ⟨by simp, fun t ht => ?_⟩
  rw [nthG_get _ _ ht]
  rcases Nat.lt_or_ge t s.length with h | h
  · rw [List.getElem_append_left h]
    exact ⟨fun _ => h, fun _ => hs _ (List.getElem_mem _)⟩
  · rw [List.getElem_append_right h]
    have := hr _ (List.getElem_mem (by rw [List.length_append] at ht; omega : t - s.length < r.length))
    constructor
    · intro h1; omega
    · intro h1; omega
end Go.Proofs.Ytedndmhekjfpdaa
