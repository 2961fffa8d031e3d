/-
  Plain mathematics of rooms that are halved, over no program: which lists of rooms are right ('roomsOk'), the free blocks ('freeL'), where a room is put in ('insL') and taken out ('eraseL').
-/
import Derived.Test.YtdglnbcliemafaaFitM
namespace Go.Proofs.Ytdglnbcliemafaa
open Go.RowKit

/-- A power of two. A word of its own: the walk leaves it as it stands. -/
def pw (i : Nat) : Nat := 2 ^ i
theorem pw_zero : pw 0 = 1 := rfl
theorem pw_succ (i : Nat) : pw (i + 1) = 2 * pw i := by unfold pw; rw [Nat.pow_succ]; omega
theorem pw_pos (i : Nat) : 0 < pw i := Nat.pow_pos (by omega)
theorem pw_dvd {i j : Nat} (h : i ≤ j) : pw i ∣ pw j := Nat.pow_dvd_pow 2 h
theorem pw_le {i j : Nat} (h : i ≤ j) : pw i ≤ pw j := Nat.pow_le_pow_right (by omega) h
theorem pw_lt {i j : Nat} (h : i < j) : pw i < pw j := Nat.pow_lt_pow_right (by omega) h
theorem pw_inj {i j : Nat} (h : pw i = pw j) : i = j := by
  rcases Nat.lt_trichotomy i j with h1 | h1 | h1
  · have := pw_lt h1; omega
  · exact h1
  · have := pw_lt h1; omega
theorem pw_256 {i : Nat} (h : i ≤ 8) : pw i ≤ 256 := pw_le h

/-- A room: where, how long, how much of it is used. -/
abbrev Room := Int × Int × Int
def roomC (r : Room) : List Value := [.int .i64 r.1, .int .i64 r.2.1, .int .i64 r.2.2]
theorem roomC_len (r : Room) : (roomC r).length = 3 := rfl
theorem roomC_one (r : Room) : ∀ u ∈ roomC r, u.oneCell' = true := by
  intro u hu
  simp [roomC] at hu
  rcases hu with rfl | rfl | rfl <;> rfl
def wf3 (r : Room) : Prop := (Lit.int .i64 r.1).wf = true ∧ (Lit.int .i64 r.2.1).wf = true ∧ (Lit.int .i64 r.2.2).wf = true

def isPow (L : Int) : Bool := decide (L = 1 ∨ L = 2 ∨ L = 4 ∨ L = 8 ∨ L = 16 ∨ L = 32 ∨ L = 64 ∨ L = 128 ∨ L = 256)
def blockB (r : Room) (W : Int) : Bool := decide (0 ≤ r.1 ∧ r.1 ≤ W ∧ 0 ≤ r.2.1 ∧ r.2.1 ≤ W - r.1) && isPow r.2.1 && decide (r.1 % r.2.1 = 0)
def filledB (r : Room) : Bool := decide (r.2.1 < 2 * r.2.2) && decide (r.2.2 ≤ r.2.1)
def okRoom (k : Nat) (e : Int) (r : Room) : Bool := blockB r (pw k) && filledB r && decide (e ≤ r.1)
def roomsOk (k : Nat) : Int → List Room → Bool
  | _, [] => true
  | e, r :: l => okRoom k e r && roomsOk k (r.1 + r.2.1) l
/-- The error of halves. -/
def hErr (o : Int) (l : List Room) : Int := if o < 0 ∨ 8 < o then 4 else if roomsOk o.toNat 0 l = true then 0 else 3
theorem hErr_order {o : Int} {l : List Room} (h : o < 0 ∨ 8 < o) : hErr o l = 4 := by unfold hErr; rw [if_pos h]
theorem hErr_ok {k : Nat} (hk : k ≤ 8) {l : List Room} (h : roomsOk k 0 l = true) : hErr k l = 0 := by
  unfold hErr; rw [if_neg (by omega), Int.toNat_natCast, if_pos h]
theorem hErr_bad {k : Nat} (hk : k ≤ 8) {l : List Room} (h : roomsOk k 0 l = false) : hErr k l = 3 := by
  unfold hErr; rw [if_neg (by omega), Int.toNat_natCast, if_neg (by rw [h]; decide)]
theorem hErr_cases (o : Int) (l : List Room) : (hErr o l = 0 ∧ ∃ k : Nat, o = k ∧ k ≤ 8 ∧ roomsOk k 0 l = true) ∨ (hErr o l ≠ 0 ∧ (hErr o l = 3 ∨ hErr o l = 4)) := by
  by_cases h : o < 0 ∨ 8 < o
  · rw [hErr_order h]; exact .inr ⟨by decide, .inr rfl⟩
  · obtain ⟨k, rfl⟩ := Int.eq_ofNat_of_zero_le (by omega : 0 ≤ o)
    cases hr : roomsOk k 0 l
    · rw [hErr_bad (by omega) hr]; exact .inr ⟨by decide, .inl rfl⟩
    · rw [hErr_ok (by omega) hr]; exact .inl ⟨rfl, k, rfl, by omega, hr⟩
theorem roomsOk_cons {k : Nat} {e : Int} {r : Room} {l : List Room} : roomsOk k e (r :: l) = (okRoom k e r && roomsOk k (r.1 + r.2.1) l) := rfl
/-- One more room of the list. -/
theorem drop_nthG {l : List Room} {j : Nat} (h : j < l.length) : l.drop j = nthG l j :: l.drop (j + 1) := by
  rw [List.drop_eq_getElem_cons h, nthG_get _ _ h]
theorem roomsOk_step {k : Nat} {e : Int} {l : List Room} {j : Nat} (h : j < l.length) : roomsOk k e (l.drop j) = (okRoom k e (nthG l j) && roomsOk k ((nthG l j).1 + (nthG l j).2.1) (l.drop (j + 1))) := by
  rw [drop_nthG h, roomsOk_cons]

theorem isPow_pw {i : Nat} (h : i ≤ 8) : isPow (pw i) = true := by
  have : ∀ i : Fin 9, isPow (pw i.1) = true := by decide
  exact this ⟨i, by omega⟩
theorem isPow_some {L : Int} (h : isPow L = true) : ∃ i, i ≤ 8 ∧ L = pw i := by
  simp [isPow] at h
  rcases h with rfl | rfl | rfl | rfl | rfl | rfl | rfl | rfl | rfl
  · exact ⟨0, by omega, rfl⟩
  · exact ⟨1, by omega, rfl⟩
  · exact ⟨2, by omega, rfl⟩
  · exact ⟨3, by omega, rfl⟩
  · exact ⟨4, by omega, rfl⟩
  · exact ⟨5, by omega, rfl⟩
  · exact ⟨6, by omega, rfl⟩
  · exact ⟨7, by omega, rfl⟩
  · exact ⟨8, by omega, rfl⟩
/-- A room as the document describes it. -/
def Good (k : Nat) (r : Room) : Prop := ∃ a i : Nat, r.1 = a ∧ r.2.1 = pw i ∧ i ≤ k ∧ pw i ∣ a ∧ a + pw i ≤ pw k ∧ r.2.2 ≤ pw i ∧ (pw i : Int) < 2 * r.2.2
theorem okRoom_iff {k : Nat} (hk : k ≤ 8) {e : Int} {r : Room} : okRoom k e r = true ↔ Good k r ∧ e ≤ r.1 := by
  obtain ⟨at_, L, U⟩ := r
  simp only [okRoom, blockB, filledB, Bool.and_eq_true, decide_eq_true_eq, Good]
  constructor
  · rintro ⟨⟨⟨⟨⟨h1, h2, h3, h4⟩, h5⟩, h6⟩, h7, h8⟩, h9⟩
    obtain ⟨i, hi, rfl⟩ := isPow_some h5
    obtain ⟨a, rfl⟩ := Int.eq_ofNat_of_zero_le h1
    refine ⟨⟨a, i, rfl, rfl, ?_, ?_, by omega, by omega, by omega⟩, h9⟩
    · rcases Nat.lt_or_ge k i with h | h
      · have := pw_lt h; omega
      · exact h
    · exact Nat.dvd_of_mod_eq_zero (by omega)
  · rintro ⟨⟨a, i, rfl, rfl, h1, h2, h3, h4, h5⟩, h6⟩
    have := Nat.mod_eq_zero_of_dvd h2
    exact ⟨⟨⟨⟨⟨by omega, by omega, by omega, by omega⟩, isPow_pw (by omega)⟩, by omega⟩, by omega, h4⟩, h6⟩
theorem roomsOk_iff {k : Nat} (hk : k ≤ 8) : ∀ (l : List Room) (e : Int), roomsOk k e l = true ↔ (∀ r ∈ l, Good k r ∧ e ≤ r.1) ∧ l.Pairwise fun r s => r.1 + r.2.1 ≤ s.1
  | [], e => by simp [roomsOk]
  | r :: l, e => by
    rw [roomsOk_cons, Bool.and_eq_true, okRoom_iff hk, roomsOk_iff hk l]
    constructor
    · rintro ⟨⟨h1, h2⟩, h3, h4⟩
      refine ⟨fun s hs => ?_, List.pairwise_cons.2 ⟨fun s hs => (h3 s hs).2, h4⟩⟩
      rcases List.mem_cons.1 hs with rfl | hs
      · exact ⟨h1, h2⟩
      · obtain ⟨h5, h6⟩ := h3 s hs
        obtain ⟨a, i, h7, h8, _⟩ := h1
        have := pw_pos i
        exact ⟨h5, by omega⟩
    · rintro ⟨h1, h2⟩
      obtain ⟨h3, h4⟩ := List.pairwise_cons.1 h2
      exact ⟨h1 r (List.mem_cons_self ..), fun s hs => ⟨(h1 s (List.mem_cons_of_mem _ hs)).1, h3 s hs⟩, h4⟩
structure Right (k : Nat) (l : List Room) : Prop where
  small : k ≤ 8
  good : ∀ r ∈ l, Good k r
  apart : l.Pairwise fun r s => r.1 + r.2.1 ≤ s.1
theorem Good.pos {k : Nat} {r : Room} (h : Good k r) : 0 ≤ r.1 ∧ 1 ≤ r.2.1 ∧ r.1 + r.2.1 ≤ pw k ∧ 1 ≤ r.2.2 ∧ r.2.2 ≤ r.2.1 ∧ r.2.1 < 2 * r.2.2 := by
  obtain ⟨a, i, h1, h2, h3, h4, h5, h6, h7⟩ := h
  have := pw_pos i
  omega
theorem right_iff {k : Nat} {l : List Room} (hk : k ≤ 8) : roomsOk k 0 l = true ↔ Right k l := by
  rw [roomsOk_iff hk]
  exact ⟨fun h => ⟨hk, fun r hr => (h.1 r hr).1, h.2⟩, fun h => ⟨fun r hr => ⟨h.good r hr, (h.good r hr).pos.1⟩, h.apart⟩⟩
theorem right_len_aux {k : Nat} : ∀ (l : List Room) (e : Int), (∀ r ∈ l, Good k r ∧ e ≤ r.1) → (l.Pairwise fun r s => r.1 + r.2.1 ≤ s.1) → e ≤ pw k → e + l.length ≤ pw k
  | [], e, _, _, h => by simpa using h
  | r :: l, e, h1, h2, _ => by
    obtain ⟨h3, h4⟩ := List.pairwise_cons.1 h2
    have hr := h1 r (List.mem_cons_self ..)
    have hp := hr.1.pos
    have := right_len_aux l (r.1 + r.2.1) (fun s hs => ⟨(h1 s (List.mem_cons_of_mem _ hs)).1, h3 s hs⟩) h4 (by omega)
    simp only [List.length_cons]
    omega
theorem Right.len {k : Nat} {l : List Room} (h : Right k l) : l.length ≤ pw k := by
  have := right_len_aux l 0 (fun r hr => ⟨h.good r hr, (h.good r hr).pos.1⟩) h.apart (by omega)
  omega

/-- Does a room meet the words from 'a' on? -/
def meets (r : Room) (a L : Int) : Bool := decide (r.1 < a + L) && decide (a < r.1 + r.2.1)
def hit (l : List Room) (a L : Int) : Bool := l.any fun r => meets r a L
theorem hit_true {l : List Room} {a L : Int} : hit l a L = true ↔ ∃ r ∈ l, r.1 < a + L ∧ a < r.1 + r.2.1 := by
  simp [hit, meets, List.any_eq_true]
theorem hit_false {l : List Room} {a L : Int} : hit l a L = false ↔ ∀ r ∈ l, a + L ≤ r.1 ∨ r.1 + r.2.1 ≤ a := by
  simp only [hit, meets, List.any_eq_false, Bool.and_eq_true, decide_eq_true_eq]
  exact ⟨fun h r hr => by have := h r hr; omega, fun h r hr => by have := h r hr; omega⟩
theorem hit_range (l : List Room) (a L : Int) : ((List.range l.length).any fun j => meets (nthG l j) a L) = hit l a L := by
  rw [Bool.eq_iff_iff, List.any_eq_true]
  unfold hit
  rw [List.any_eq_true]
  constructor
  · rintro ⟨j, hj, h⟩
    have hj := List.mem_range.1 hj
    rw [nthG_get _ _ hj] at h
    exact ⟨_, List.getElem_mem hj, h⟩
  · rintro ⟨r, hr, h⟩
    obtain ⟨j, hj, rfl⟩ := List.getElem_of_mem hr
    exact ⟨j, List.mem_range.2 hj, by rw [nthG_get _ _ hj]; exact h⟩
theorem hit_sub {l : List Room} {a L a' L' : Int} (h : hit l a L = true) (h1 : a' ≤ a) (h2 : a + L ≤ a' + L') : hit l a' L' = true := by
  rw [hit_true] at *
  obtain ⟨r, hr, h3, h4⟩ := h
  exact ⟨r, hr, by omega, by omega⟩
theorem hit_none {l : List Room} {a L a' L' : Int} (h : hit l a' L' = false) (h1 : a' ≤ a) (h2 : a + L ≤ a' + L') : hit l a L = false := by
  cases h3 : hit l a L
  · rfl
  · rw [hit_sub h3 h1 h2] at h; cases h
theorem hit_two {l : List Room} {a L M : Int} (hl : ∀ r ∈ l, 1 ≤ r.2.1) (h1 : hit l a L = false) (h2 : hit l (a + L) M = false) : hit l a (L + M) = false := by
  rw [hit_false] at *
  intro r hr
  have := h1 r hr
  have := h2 r hr
  have := hl r hr
  omega

/-- The free blocks among the words of a block. -/
def freeL (l : List Room) : Nat → Nat → List (Int × Int)
  | 0, a => if hit l a 1 = true then [] else [((a : Int), 1)]
  | i + 1, a => if hit l a (pw (i + 1)) = true then freeL l i a ++ freeL l i (a + pw i) else [((a : Int), (pw (i + 1) : Int))]
theorem freeL_open {l : List Room} : ∀ {i a : Nat}, hit l a (pw i) = false → freeL l i a = [((a : Int), (pw i : Int))]
  | 0, a, h => by
    have h' : hit l a 1 = false := h
    rw [freeL, if_neg (by rw [h']; decide)]; rfl
  | i + 1, a, h => by rw [freeL, if_neg (by rw [h]; decide)]
theorem freeL_one {l : List Room} {a : Nat} (h : hit l a (pw 0) = true) : freeL l 0 a = [] := by
  have h' : hit l a 1 = true := h
  rw [freeL, if_pos h']
theorem freeL_half {l : List Room} {i a : Nat} (h : hit l a (pw (i + 1)) = true) : freeL l (i + 1) a = freeL l i a ++ freeL l i (a + pw i) := by rw [freeL, if_pos h]
theorem freeL_len (l : List Room) : ∀ i a : Nat, (freeL l i a).length ≤ pw i
  | 0, a => by
    rw [freeL]; split
    · simp
    · simp [pw_zero]
  | i + 1, a => by
    have h1 := freeL_len l i a
    have h2 := freeL_len l i (a + pw i)
    have := pw_pos (i + 1)
    rw [freeL]; split
    · rw [List.length_append, pw_succ]; omega
    · simp; omega

/-- A free block: its place, its size, and why it is no part of a greater one. -/
structure Free (l : List Room) (i a : Nat) (p : Int × Int) (b j : Nat) : Prop where
  at_ : p.1 = b
  long : p.2 = pw j
  le : j ≤ i
  lo : a ≤ b
  hi : b + pw j ≤ a + pw i
  align : pw i ∣ a → pw j ∣ b
  free : hit l b (pw j) = false
  top : (j = i ∧ b = a) ∨ (j < i ∧ ∃ c, (pw i ∣ a → pw (j + 1) ∣ c) ∧ hit l c (pw (j + 1)) = true ∧ (b = c ∨ b = c + pw j))
theorem mem_freeL {l : List Room} {p : Int × Int} : ∀ {i a : Nat}, p ∈ freeL l i a → ∃ b j, Free l i a p b j
  | 0, a, h => by
    rw [freeL] at h
    split at h
    · cases h
    · rename_i hh
      obtain rfl := List.mem_singleton.1 h
      exact ⟨a, 0, rfl, rfl, Nat.le_refl _, Nat.le_refl _, Nat.le_refl _, id, by simpa [pw_zero] using hh, .inl ⟨rfl, rfl⟩⟩
  | i + 1, a, h => by
    have hs := pw_succ i
    rw [freeL] at h
    split at h
    · rename_i hh
      have d1 : pw (i + 1) ∣ a → pw i ∣ a := fun h => Nat.dvd_trans (pw_dvd (by omega)) h
      rcases List.mem_append.1 h with h | h
      · obtain ⟨b, j, f⟩ := mem_freeL h
        refine ⟨b, j, f.at_, f.long, Nat.le_succ_of_le f.le, f.lo, by have := f.hi; omega, fun h => f.align (d1 h), f.free, .inr ⟨Nat.lt_succ_of_le f.le, ?_⟩⟩
        rcases f.top with ⟨rfl, rfl⟩ | ⟨_, c, h1, h2, h3⟩
        · exact ⟨b, id, hh, .inl rfl⟩
        · exact ⟨c, fun h => h1 (d1 h), h2, h3⟩
      · obtain ⟨b, j, f⟩ := mem_freeL h
        have d2 : pw (i + 1) ∣ a → pw i ∣ a + pw i := fun h => Nat.dvd_add (d1 h) (Nat.dvd_refl _)
        refine ⟨b, j, f.at_, f.long, Nat.le_succ_of_le f.le, by have := f.lo; omega, by have := f.hi; omega, fun h => f.align (d2 h), f.free, .inr ⟨Nat.lt_succ_of_le f.le, ?_⟩⟩
        rcases f.top with ⟨rfl, rfl⟩ | ⟨_, c, h1, h2, h3⟩
        · exact ⟨a, id, hh, .inr rfl⟩
        · exact ⟨c, fun h => h1 (d2 h), h2, h3⟩
    · rename_i hh
      obtain rfl := List.mem_singleton.1 h
      exact ⟨a, i + 1, rfl, rfl, Nat.le_refl _, Nat.le_refl _, Nat.le_refl _, id, by simpa using hh, .inl ⟨rfl, rfl⟩⟩
theorem freeL_apart (l : List Room) : ∀ i a : Nat, (freeL l i a).Pairwise fun p q => p.1 + p.2 ≤ q.1
  | 0, a => by
    rw [freeL]; split
    · exact .nil
    · exact List.pairwise_singleton _ _
  | i + 1, a => by
    rw [freeL]; split
    · refine List.pairwise_append.2 ⟨freeL_apart l i a, freeL_apart l i _, fun p hp q hq => ?_⟩
      obtain ⟨b, j, f⟩ := mem_freeL hp
      obtain ⟨b', j', f'⟩ := mem_freeL hq
      have := f.at_; have := f.long; have := f.hi; have := f'.at_; have := f'.lo
      omega
    · exact List.pairwise_singleton _ _
/-- Every run of free blocks is a right run. -/
theorem freeL_valid {l : List Room} {i a : Nat} : invB (freeL l i a) = false := by
  refine invB_false fun j hj => ?_
  rw [nthG_get _ _ hj]
  obtain ⟨b, m, f⟩ := mem_freeL (List.getElem_mem hj)
  have h1 := f.at_; have h2 := f.long; have := pw_pos m
  generalize (freeL l i a)[j] = p at *
  obtain ⟨x, y⟩ := p
  simp only at h1 h2
  simp [badRun]
  omega

/-- Put in, in its place. -/
def insL (x : Room) : List Room → List Room
  | [] => [x]
  | s :: l => if s.1 < x.1 then s :: insL x l else x :: s :: l
theorem insL_at {x : Room} : ∀ {l : List Room} {j : Nat}, j ≤ l.length → (∀ t, t < j → (nthG l t).1 < x.1) → (j = l.length ∨ x.1 ≤ (nthG l j).1) → l.take j ++ x :: l.drop j = insL x l
  | [], j, hj, _, _ => by
    have : j = 0 := by simpa using hj
    subst this; rfl
  | s :: l, 0, _, _, h => by
    have : x.1 ≤ s.1 := by
      rcases h with h | h
      · simp at h
      · exact h
    rw [insL, if_neg (by omega)]; rfl
  | s :: l, j + 1, hj, h1, h => by
    have h0 : s.1 < x.1 := h1 0 (by omega)
    rw [insL, if_pos h0, ← insL_at (l := l) (j := j) (by simpa using hj) (fun t ht => h1 (t + 1) (by omega)) (by
      rcases h with h | h
      · left; simpa using h
      · exact .inr h)]
    rfl
theorem mem_insL {x r : Room} : ∀ {l : List Room}, r ∈ insL x l ↔ r = x ∨ r ∈ l
  | [] => by simp [insL]
  | s :: l => by
    rw [insL]
    split
    · rw [List.mem_cons, mem_insL (l := l), List.mem_cons]
      constructor
      · rintro (h | h | h)
        · exact .inr (.inl h)
        · exact .inl h
        · exact .inr (.inr h)
      · rintro (h | h | h)
        · exact .inr (.inl h)
        · exact .inl h
        · exact .inr (.inr h)
    · simp
theorem insL_length (x : Room) : ∀ l : List Room, (insL x l).length = l.length + 1
  | [] => rfl
  | s :: l => by
    rw [insL]; split
    · simp [insL_length x l]
    · simp
theorem insL_apart {x : Room} : ∀ {l : List Room}, (l.Pairwise fun r s => r.1 + r.2.1 ≤ s.1) → (∀ r ∈ l, 1 ≤ r.2.1) → 1 ≤ x.2.1 → (∀ r ∈ l, x.1 + x.2.1 ≤ r.1 ∨ r.1 + r.2.1 ≤ x.1) → (insL x l).Pairwise fun r s => r.1 + r.2.1 ≤ s.1
  | [], _, _, _, _ => List.pairwise_singleton _ _
  | s :: l, h, hp, hx, ha => by
    obtain ⟨h1, h2⟩ := List.pairwise_cons.1 h
    have hs := ha s (List.mem_cons_self ..)
    have hsp := hp s (List.mem_cons_self ..)
    rw [insL]
    split
    · refine List.pairwise_cons.2 ⟨fun r hr => ?_, insL_apart h2 (fun r hr => hp r (List.mem_cons_of_mem _ hr)) hx fun r hr => ha r (List.mem_cons_of_mem _ hr)⟩
      rcases mem_insL.1 hr with rfl | hr
      · omega
      · exact h1 r hr
    · refine List.pairwise_cons.2 ⟨fun r hr => ?_, h⟩
      rcases List.mem_cons.1 hr with rfl | hr
      · omega
      · have := h1 r hr
        omega
/-- Taken out. -/
def eraseL (x : Int) : List Room → List Room
  | [] => []
  | s :: l => if s.1 = x then l else s :: eraseL x l
theorem eraseL_at {x : Int} : ∀ {l : List Room} {j : Nat}, j < l.length → (nthG l j).1 = x → (∀ t, t < j → (nthG l t).1 ≠ x) → l.take j ++ l.drop (j + 1) = eraseL x l
  | [], j, hj, _, _ => absurd hj (by simp)
  | s :: l, 0, _, h, _ => by
    have : s.1 = x := h
    rw [eraseL, if_pos this]; rfl
  | s :: l, j + 1, hj, h, h1 => by
    have h0 : s.1 ≠ x := h1 0 (by omega)
    rw [eraseL, if_neg h0, ← eraseL_at (l := l) (j := j) (by simpa using hj) h (fun t ht => h1 (t + 1) (by omega))]
    rfl
theorem erase_ins {x : Room} : ∀ {l : List Room}, (∀ r ∈ l, r.1 ≠ x.1) → eraseL x.1 (insL x l) = l
  | [], _ => by simp [insL, eraseL]
  | s :: l, h => by
    have h0 := h s (List.mem_cons_self ..)
    rw [insL]
    split
    · rw [eraseL, if_neg h0, erase_ins fun r hr => h r (List.mem_cons_of_mem _ hr)]
    · rw [eraseL, if_pos rfl]
theorem erase_filter {x : Int} : ∀ {l : List Room}, (l.Pairwise fun r s => r.1 + r.2.1 ≤ s.1) → (∀ r ∈ l, 1 ≤ r.2.1) → eraseL x l = l.filter fun r => r.1 != x
  | [], _, _ => rfl
  | s :: l, h, hp => by
    obtain ⟨h1, h2⟩ := List.pairwise_cons.1 h
    have hsp := hp s (List.mem_cons_self ..)
    rw [eraseL]
    split
    · rename_i he
      rw [List.filter_cons_of_neg (by simp [he])]
      symm
      rw [List.filter_eq_self]
      intro r hr
      have := h1 r hr
      simp
      omega
    · rename_i he
      rw [List.filter_cons_of_pos (by simpa using he), erase_filter h2 fun r hr => hp r (List.mem_cons_of_mem _ hr)]

/-- A block of 'pw i' words, halved as long as the half has 'n' words. -/
def halveL (n : Int) : Nat → Nat
  | 0 => 0
  | i + 1 => if n ≤ pw i then halveL n i else i + 1
theorem halveL_le (n : Int) : ∀ i, halveL n i ≤ i
  | 0 => Nat.le_refl _
  | i + 1 => by
    rw [halveL]; split
    · exact Nat.le_succ_of_le (halveL_le n i)
    · exact Nat.le_refl _
theorem halveL_fits {n : Int} (hn : 1 ≤ n) : ∀ i, n ≤ pw i → n ≤ pw (halveL n i) ∧ (pw (halveL n i) : Int) < 2 * n
  | 0, h => by rw [halveL]; exact ⟨h, by rw [pw_zero]; omega⟩
  | i + 1, h => by
    rw [halveL]; split
    · rename_i h1; exact halveL_fits hn i h1
    · refine ⟨h, ?_⟩
      rw [pw_succ]; omega
theorem fits_one {n : Int} {i j : Nat} (h1 : n ≤ pw i) (h2 : (pw i : Int) < 2 * n) (h3 : n ≤ pw j) (h4 : (pw j : Int) < 2 * n) : i = j := by
  rcases Nat.lt_trichotomy i j with h | h | h
  · have := pw_le (Nat.succ_le_of_lt h)
    rw [pw_succ] at this
    omega
  · exact h
  · have := pw_le (Nat.succ_le_of_lt h)
    rw [pw_succ] at this
    omega
/-- The room that is taken of a free block. -/
def takeR (l : List Room) (k : Nat) (n : Int) (p : Nat) : Room := ((nthG (freeL l k 0) p).1, ((pw (halveL n (Nat.log2 (nthG (freeL l k 0) p).2.toNat)) : Nat) : Int), n)
end Go.Proofs.Ytdglnbcliemafaa
