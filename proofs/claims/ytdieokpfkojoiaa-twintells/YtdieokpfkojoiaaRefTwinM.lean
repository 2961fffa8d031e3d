/-
  Plain mathematics: each block that is open and whose double is not, word by word and size by size, are the free blocks.
-/
import Derived.Test.YtdieokpfkojoiaaTwinD
namespace Go.Proofs.Ytdieokpfkojoiaa
open Go.RowKit

theorem meets_words {x y a L : Nat} (z : Int) (hy : 1 ≤ y) (hL : 1 ≤ L) (h : ∀ u, u < y → ¬ (a ≤ x + u ∧ x + u < a + L)) : meets ((x : Int), (y : Int), z) a L = false := by
  simp only [meets, Bool.and_eq_false_iff, decide_eq_false_iff_not]
  rcases Nat.lt_or_ge x a with h1 | h1
  · rcases Nat.lt_or_ge a (x + y) with h2 | h2
    · exact absurd ⟨by omega, by omega⟩ (h (a - x) (by omega))
    · right; omega
  · rcases Nat.lt_or_ge x (a + L) with h2 | h2
    · exact absurd ⟨by omega, by omega⟩ (h 0 (by omega))
    · left; omega
theorem meets_word {x y a L : Nat} (z : Int) {u : Nat} (hu : u < y) (h : a ≤ x + u ∧ x + u < a + L) : meets ((x : Int), (y : Int), z) a L = true := by
  simp only [meets, Bool.and_eq_true, decide_eq_true_eq]
  omega
theorem hit_at {l : List Room} {a L : Int} {j : Nat} (hj : j < l.length) (h : meets (nthG l j) a L = true) : hit l a L = true := by
  rw [← hit_range]
  exact List.any_eq_true.2 ⟨j, List.mem_range.2 hj, h⟩
theorem hit_never {l : List Room} {a L : Int} (h : ∀ j, j < l.length → meets (nthG l j) a L = false) : hit l a L = false := by
  rw [← hit_range, List.any_eq_false]
  intro j hj
  rw [h j (List.mem_range.1 hj)]; decide

/-- The block of twice the size. -/
def twice (a t : Nat) : Nat := a / pw (t + 1) * pw (t + 1)
/-- Is the block of 'pw t' words at 'a' a free one? -/
def gapB (l : List Room) (k a t : Nat) : Bool := decide (a % pw t = 0) && !hit l a (pw t) && (decide (k < t + 1) || hit l (twice a t) (pw (t + 1)))
def levG (l : List Room) (k a t : Nat) : List (Int × Int) := if gapB l k a t = true then [((a : Int), ((pw t : Nat) : Int))] else []
def levTo (l : List Room) (k a : Nat) : Nat → List (Int × Int)
  | 0 => []
  | t + 1 => levTo l k a t ++ levG l k a t
def segL (l : List Room) (k a : Nat) : Nat → List (Int × Int)
  | 0 => []
  | n + 1 => segL l k a n ++ levTo l k (a + n) (k + 1)
section
variable {l : List Room} {k a : Nat}
theorem levTo_nil : ∀ {n : Nat}, (∀ t, t < n → gapB l k a t = false) → levTo l k a n = []
  | 0, _ => rfl
  | n + 1, h => by
    rw [levTo, levTo_nil fun t ht => h t (by omega), levG, if_neg (by rw [h n (by omega)]; decide)]
    rfl
theorem levTo_one {t0 : Nat} (h0 : gapB l k a t0 = true) : ∀ {n : Nat}, t0 < n → (∀ t, t < n → t ≠ t0 → gapB l k a t = false) → levTo l k a n = [((a : Int), ((pw t0 : Nat) : Int))]
  | 0, h, _ => absurd h (by omega)
  | n + 1, h, hh => by
    rw [levTo]
    by_cases e : n = t0
    · subst e
      rw [levTo_nil fun t ht => hh t (by omega) (by omega), levG, if_pos h0]
      rfl
    · rw [levTo_one h0 (by omega) fun t ht => hh t (by omega), levG, if_neg (by rw [hh n (by omega) e]; decide)]
      rfl
theorem levTo_len : ∀ n, (levTo l k a n).length ≤ n
  | 0 => Nat.le_refl _
  | n + 1 => by
    have := levTo_len n
    rw [levTo, List.length_append, levG]
    split
    · simp; omega
    · simp; omega
theorem segL_len : ∀ n, (segL l k a n).length ≤ n * (k + 1)
  | 0 => Nat.zero_le _
  | n + 1 => by
    have h1 := segL_len n
    have h2 := levTo_len (l := l) (k := k) (a := a + n) (k + 1)
    rw [segL, List.length_append, Nat.succ_mul]
    omega
theorem segL_add (n : Nat) : ∀ m, segL l k a (n + m) = segL l k a n ++ segL l k (a + n) m
  | 0 => by simp [segL]
  | m + 1 => by
    rw [← Nat.add_assoc, segL, segL_add n m, segL, List.append_assoc, Nat.add_assoc]
theorem segL_one {x : Int × Int} (h0 : levTo l k a (k + 1) = [x]) : ∀ {n : Nat}, (∀ u, 0 < u → u < n + 1 → levTo l k (a + u) (k + 1) = []) → segL l k a (n + 1) = [x]
  | 0, _ => by simp [segL, h0]
  | n + 1, h => by
    rw [segL, segL_one h0 (n := n) fun u h1 h2 => h u h1 (by omega), h (n + 1) (by omega) (by omega)]
    rfl
end
theorem aligned_eq {a b P : Nat} (hP : 0 < P) (ha : P ∣ a) (hb : P ∣ b) (h1 : a ≤ b) (h2 : b < a + P) : b = a := by
  obtain ⟨x, rfl⟩ := ha
  obtain ⟨y, rfl⟩ := hb
  have hxy : y = x := by
    have h3 : x ≤ y := Nat.le_of_mul_le_mul_left h1 hP
    have h4 : P * y < P * (x + 1) := by rw [Nat.mul_add, Nat.mul_one]; exact h2
    have := Nat.lt_of_mul_lt_mul_left h4
    omega
  rw [hxy]
theorem twice_self {a t : Nat} (h : pw (t + 1) ∣ a) : twice a t = a := by
  unfold twice
  exact Nat.div_mul_cancel h
theorem twice_half {a t : Nat} (h : pw (t + 1) ∣ a) : twice (a + pw t) t = a := by
  unfold twice
  obtain ⟨x, rfl⟩ := h
  have h1 := pw_succ t
  have h2 := pw_pos t
  have : (pw (t + 1) * x + pw t) / pw (t + 1) = x := by
    rw [Nat.mul_add_div (pw_pos _), Nat.div_eq_of_lt (by omega), Nat.add_zero]
  rw [this, Nat.mul_comm]
theorem twice_in {a b t i : Nat} (ht : t < i) (ha : pw i ∣ a) (h1 : a ≤ b) (h2 : b < a + pw i) : a ≤ twice b t ∧ twice b t + pw (t + 1) ≤ a + pw i := by
  have hd := pw_dvd (Nat.succ_le_of_lt ht)
  have hP := pw_pos (t + 1)
  obtain ⟨q, hq⟩ := Nat.dvd_trans hd ha
  obtain ⟨r, hr⟩ := hd
  unfold twice
  have hm := Nat.div_add_mod b (pw (t + 1))
  have hml := Nat.mod_lt b hP
  generalize pw (t + 1) = P at *
  rw [Nat.mul_comm (b / P) P]
  generalize b / P = y at *
  constructor
  · rw [hq] at h1 ⊢
    refine Nat.mul_le_mul_left _ ?_
    have : P * q < P * (y + 1) := by rw [Nat.mul_add, Nat.mul_one]; omega
    have := Nat.lt_of_mul_lt_mul_left this
    omega
  · rw [hq, hr, ← Nat.mul_add]
    rw [hq, hr, ← Nat.mul_add] at h2
    have : P * y < P * (q + r) := by omega
    have := Nat.lt_of_mul_lt_mul_left this
    calc P * y + P = P * (y + 1) := by rw [Nat.mul_add, Nat.mul_one]
      _ ≤ P * (q + r) := Nat.mul_le_mul_left _ (by omega)
theorem gapB_hit {l : List Room} {k a t : Nat} (h : hit l a (pw t) = true) : gapB l k a t = false := by simp [gapB, h]
theorem segL_free {l : List Room} {k : Nat} : ∀ i a : Nat, i ≤ k → pw i ∣ a → (i = k ∨ hit l (twice a i) (pw (i + 1)) = true) → segL l k a (pw i) = freeL l i a := by
  have hopen : ∀ i a : Nat, i ≤ k → pw i ∣ a → (i = k ∨ hit l (twice a i) (pw (i + 1)) = true) → hit l a (pw i) = false → segL l k a (pw i) = freeL l i a := by
    intro i a hi ha htop hh
    rw [freeL_open hh]
    have hpi := pw_pos i
    obtain ⟨n, hn⟩ : ∃ n, pw i = n + 1 := ⟨pw i - 1, by omega⟩
    have hother : ∀ u t, u < pw i → t < k + 1 → ¬ (u = 0 ∧ t = i) → gapB l k (a + u) t = false := by
      intro u t hu ht hne
      cases hg : gapB l k (a + u) t
      · rfl
      · exfalso
        simp only [gapB, Bool.and_eq_true, Bool.not_eq_true', decide_eq_true_eq, Bool.or_eq_true] at hg
        obtain ⟨⟨h1, h2⟩, h3⟩ := hg
        rcases Nat.lt_trichotomy t i with hc | hc | hc
        · rcases h3 with h3 | h3
          · omega
          · obtain ⟨h4, h5⟩ := twice_in hc ha (by omega : a ≤ a + u) (by omega)
            rw [hit_none hh (by omega) (by omega)] at h3
            cases h3
        · subst hc
          have := aligned_eq hpi ha (Nat.dvd_of_mod_eq_zero h1) (by omega) (by omega)
          exact hne ⟨by omega, rfl⟩
        · have hdt := Nat.dvd_of_mod_eq_zero h1
          have he := aligned_eq hpi ha (Nat.dvd_trans (pw_dvd (by omega)) hdt) (by omega) (by omega)
          have hu0 : u = 0 := by omega
          subst hu0
          rw [Nat.add_zero] at *
          have hd1 : pw (i + 1) ∣ a := Nat.dvd_trans (pw_dvd hc) hdt
          rcases htop with h4 | h4
          · omega
          · rw [twice_self hd1] at h4
            have := pw_le (Nat.succ_le_of_lt hc)
            rw [hit_sub h4 (by omega) (by simp only [Nat.succ_eq_add_one] at this; omega)] at h2
            cases h2
    have hself : gapB l k a i = true := by
      simp only [gapB, Bool.and_eq_true, Bool.not_eq_true', decide_eq_true_eq, Bool.or_eq_true]
      refine ⟨⟨Nat.mod_eq_zero_of_dvd ha, hh⟩, ?_⟩
      rcases htop with h | h
      · left; omega
      · exact .inr h
    rw [hn, segL_one (levTo_one hself (by omega) fun t ht hne => by have := hother 0 t hpi ht (by omega); rwa [Nat.add_zero] at this)]
    · rw [hn]
    · intro u h1 h2
      exact levTo_nil fun t ht => hother u t (by omega) ht (by omega)
  intro i
  induction i with
  | zero =>
    intro a hi ha htop
    cases hh : hit l a (pw 0)
    · exact hopen 0 a hi ha htop hh
    · rw [freeL_one hh, pw_zero]
      simp only [segL, List.nil_append, Nat.add_zero]
      refine levTo_nil fun t _ => gapB_hit (hit_sub hh (by omega) ?_)
      have := pw_pos t
      rw [pw_zero]; omega
  | succ i ih =>
    intro a hi ha htop
    cases hh : hit l a (pw (i + 1))
    · exact hopen (i + 1) a hi ha htop hh
    · have hd : pw i ∣ a := Nat.dvd_trans (pw_dvd (by omega)) ha
      rw [freeL_half hh, pw_succ, Nat.two_mul, segL_add, ih a (by omega) hd (.inr (by rw [twice_self ha]; exact hh)), ih (a + pw i) (by omega) (Nat.dvd_add hd (Nat.dvd_refl _)) (.inr (by rw [twice_half ha]; exact hh))]
theorem halfGaps_free (l : List Room) (k : Nat) : segL l k 0 (pw k) = freeL l k 0 := segL_free k 0 (Nat.le_refl _) (Nat.dvd_zero _) (.inl rfl)
end Go.Proofs.Ytdieokpfkojoiaa
