/-
  Plain mathematics: rooms and free blocks are all words, each once; no two free blocks are halves of one.
-/
import Derived.Test.YtgagjdhokkkkjaaTwinD
namespace Go.Proofs.Ytgagjdhokkkkjaa
open Go.RowKit

/-- How many words of a stretch a room has. -/
def inter (r : Room) (a L : Int) : Int := max 0 (min (r.1 + r.2.1) (a + L) - max r.1 a)
def interL (a L : Int) : List Room → Int
  | [] => 0
  | r :: l => inter r a L + interL a L l
def sumR : List Room → Int
  | [] => 0
  | r :: l => r.2.1 + sumR l
def sumG : List (Int × Int) → Int
  | [] => 0
  | p :: l => p.2 + sumG l
theorem sumG_append : ∀ l m : List (Int × Int), sumG (l ++ m) = sumG l + sumG m
  | [], m => by simp [sumG]
  | p :: l, m => by
    rw [List.cons_append, sumG, sumG, sumG_append l m]
    omega
theorem interL_none {a L : Int} : ∀ {l : List Room}, (∀ r ∈ l, a + L ≤ r.1 ∨ r.1 + r.2.1 ≤ a) → interL a L l = 0
  | [], _ => rfl
  | r :: l, h => by
    rw [interL, interL_none fun s hs => h s (List.mem_cons_of_mem _ hs)]
    have := h r (List.mem_cons_self ..)
    unfold inter
    omega
theorem interL_two {a L : Int} (hL : 0 ≤ L) : ∀ {l : List Room}, (∀ r ∈ l, 1 ≤ r.2.1) → interL a (2 * L) l = interL a L l + interL (a + L) L l
  | [], _ => rfl
  | r :: l, h => by
    rw [interL, interL, interL, interL_two hL fun s hs => h s (List.mem_cons_of_mem _ hs)]
    have := h r (List.mem_cons_self ..)
    unfold inter
    omega
theorem interL_one {a : Int} : ∀ {l : List Room}, (l.Pairwise fun r s => r.1 + r.2.1 ≤ s.1) → (∀ r ∈ l, 1 ≤ r.2.1) → (∃ r ∈ l, r.1 < a + 1 ∧ a < r.1 + r.2.1) → interL a 1 l = 1
  | [], _, _, h => by obtain ⟨r, hr, _⟩ := h; cases hr
  | r :: l, hp, hl, h => by
    obtain ⟨h1, h2⟩ := List.pairwise_cons.1 hp
    have hr := hl r (List.mem_cons_self ..)
    rw [interL]
    by_cases hc : r.1 < a + 1 ∧ a < r.1 + r.2.1
    · rw [interL_none fun s hs => by have := h1 s hs; omega]
      unfold inter
      omega
    · have e : inter r a 1 = 0 := by unfold inter; omega
      rw [e, interL_one h2 (fun s hs => hl s (List.mem_cons_of_mem _ hs))]
      · rfl
      · obtain ⟨s, hs, h3⟩ := h
        rcases List.mem_cons.1 hs with rfl | hs
        · exact absurd h3 hc
        · exact ⟨s, hs, h3⟩
theorem freeL_sum {l : List Room} (hp : l.Pairwise fun r s => r.1 + r.2.1 ≤ s.1) (hl : ∀ r ∈ l, 1 ≤ r.2.1) : ∀ i a : Nat, sumG (freeL l i a) + interL a (pw i) l = pw i
  | 0, a => by
    cases h : hit l a (pw 0)
    · rw [freeL_open h, interL_none (hit_false.1 h)]
      simp [sumG]
    · rw [freeL_one h]
      have := interL_one hp hl (hit_true.1 h)
      have e : ((pw 0 : Nat) : Int) = 1 := rfl
      rw [e, this]
      rfl
  | i + 1, a => by
    cases h : hit l a (pw (i + 1))
    · rw [freeL_open h, interL_none (hit_false.1 h)]
      simp [sumG]
    · rw [freeL_half h, sumG_append]
      have h1 := freeL_sum hp hl i a
      have h2 := freeL_sum hp hl i (a + pw i)
      have h3 := interL_two (a := a) (L := pw i) (by omega) hl
      have h4 := pw_succ i
      have e : ((pw (i + 1) : Nat) : Int) = 2 * (pw i : Int) := by omega
      have e2 : ((a + pw i : Nat) : Int) = (a : Int) + (pw i : Int) := by omega
      rw [e2] at h2
      rw [e, h3]
      omega
theorem interL_all {k : Nat} : ∀ {l : List Room}, (∀ r ∈ l, Good k r) → interL 0 (pw k) l = sumR l
  | [], _ => rfl
  | r :: l, h => by
    rw [interL, sumR, interL_all fun s hs => h s (List.mem_cons_of_mem _ hs)]
    have := (h r (List.mem_cons_self ..)).pos
    unfold inter
    omega
theorem Right.whole {k : Nat} {l : List Room} (h : Right k l) : sumR l + sumG (freeL l k 0) = pw k := by
  have h1 := freeL_sum h.apart (fun r hr => (h.good r hr).pos.2.1) k 0
  have h2 := interL_all h.good
  have e : ((0 : Nat) : Int) = 0 := rfl
  rw [e] at h1
  omega
theorem Right.noTwins {k : Nat} {l : List Room} (h : Right k l) {b b' j : Nat} {p q : Int × Int} (hp : Free l k 0 p b j) (hq : Free l k 0 q b' j) (he : b + pw j = b') (hm : b % (2 * pw j) = 0) : False := by
  subst he
  rcases hp.top with ⟨rfl, rfl⟩ | ⟨_, c, h1, h2, h3⟩
  · have := hq.hi
    have := pw_pos j
    omega
  · have hc := h1 (Nat.dvd_zero _)
    rw [pw_succ] at hc
    have hcm := Nat.mod_eq_zero_of_dvd hc
    have := pw_pos j
    have hbc : b = c := by
      rcases h3 with h3 | h3
      · exact h3
      · obtain ⟨x, hx⟩ := hc
        obtain ⟨y, hy⟩ := Nat.dvd_of_mod_eq_zero hm
        have h5 : 2 * pw j * y = 2 * pw j * x + pw j := by rw [← hx, ← hy]; exact h3
        have h6 : pw j * (2 * y) = pw j * (2 * x + 1) := by
          rw [Nat.mul_add, Nat.mul_one, ← Nat.mul_assoc, ← Nat.mul_assoc, Nat.mul_comm (pw j) 2]
          exact h5
        have := Nat.eq_of_mul_eq_mul_left (pw_pos j) h6
        omega
    subst hbc
    have e : ((pw (j + 1) : Nat) : Int) = (pw j : Int) + (pw j : Int) := by have := pw_succ j; omega
    have e2 : ((b + pw j : Nat) : Int) = (b : Int) + (pw j : Int) := by omega
    have h5 := hq.free
    rw [e2] at h5
    rw [e, hit_two (fun r hr => (h.good r hr).pos.2.1) hp.free h5] at h2
    cases h2

/-- The words of the first 'j' rooms. -/
def sumTo (l : List Room) : Nat → Int
  | 0 => 0
  | j + 1 => sumTo l j + (nthG l j).2.1
theorem sumTo_drop (l : List Room) : ∀ j, j ≤ l.length → sumTo l j + sumR (l.drop j) = sumR l
  | 0, _ => by simp [sumTo]
  | j + 1, hj => by
    have h := sumTo_drop l j (by omega)
    rw [drop_nthG (by omega : j < l.length), sumR] at h
    rw [sumTo]
    omega
theorem sumTo_all (l : List Room) : sumTo l l.length = sumR l := by
  have := sumTo_drop l l.length (Nat.le_refl _)
  rw [List.drop_eq_nil_of_le (Nat.le_refl _), sumR] at this
  omega
/-- The words of the first 'j' runs. -/
def sumGTo (l : List (Int × Int)) : Nat → Int
  | 0 => 0
  | j + 1 => sumGTo l j + (nthG l j).2
theorem sumGTo_drop (l : List (Int × Int)) : ∀ j, j ≤ l.length → sumGTo l j + sumG (l.drop j) = sumG l
  | 0, _ => by simp [sumGTo]
  | j + 1, hj => by
    have h := sumGTo_drop l j (by omega)
    rw [List.drop_eq_getElem_cons (by omega : j < l.length), sumG] at h
    rw [sumGTo, nthG_get _ _ (by omega)]
    omega
theorem sumGTo_all (l : List (Int × Int)) : sumGTo l l.length = sumG l := by
  have := sumGTo_drop l l.length (Nat.le_refl _)
  rw [List.drop_eq_nil_of_le (Nat.le_refl _), sumG] at this
  omega
theorem sumTo_le {k : Nat} {l : List Room} (h : Right k l) : ∀ j, j ≤ l.length → 0 ≤ sumTo l j ∧ sumTo l j ≤ j * 256 ∧ 2 * wasteTo l j + j ≤ sumTo l j
  | 0, _ => ⟨Int.le_refl _, Int.le_refl _, by simp [sumTo, wasteTo]⟩
  | j + 1, hj => by
    have := sumTo_le h j (by omega)
    have hg := (h.good _ (List.getElem_mem (by omega : j < l.length))).pos
    have := pw_256 h.small
    rw [sumTo, wasteTo, nthG_get _ _ (by omega)]
    omega
theorem sumGTo_le {l : List Room} {k : Nat} (hk : k ≤ 8) : ∀ j, j ≤ (freeL l k 0).length → 0 ≤ sumGTo (freeL l k 0) j ∧ sumGTo (freeL l k 0) j ≤ j * 256
  | 0, _ => ⟨Int.le_refl _, Int.le_refl _⟩
  | j + 1, hj => by
    have := sumGTo_le (l := l) hk j (by omega)
    obtain ⟨b, i, f⟩ := mem_freeL (List.getElem_mem (by omega : j < (freeL l k 0).length))
    have h1 := f.long
    have := pw_256 (Nat.le_trans f.le hk)
    rw [sumGTo, nthG_get _ _ (by omega), h1]
    omega
/-- What TwinWhole asks of a free block and the one ahead of it. -/
structure Next (l : List Room) (k : Nat) (j : Nat) (b L : Nat) : Prop where
  gap : nthG (freeL l k 0) j = ((b : Int), (L : Int))
  pos : 1 ≤ L
  small : L ≤ 256
  place : b ≤ 256
  align : b % L = 0
theorem next_of {l : List Room} {k : Nat} (hk : k ≤ 8) {j : Nat} (hj : j < (freeL l k 0).length) : ∃ b i, Free l k 0 (nthG (freeL l k 0) j) b i ∧ Next l k j b (pw i) := by
  obtain ⟨b, i, f⟩ := mem_freeL (List.getElem_mem hj)
  rw [← nthG_get _ _ hj] at f
  have := f.hi
  have := pw_256 hk
  exact ⟨b, i, f, Prod.ext f.at_ f.long, pw_pos i, pw_256 (Nat.le_trans f.le hk), by omega, Nat.mod_eq_zero_of_dvd (f.align (Nat.dvd_zero _))⟩
theorem two_of {l : List Room} {k : Nat} (h : Right k l) {j : Nat} (hj : j + 1 < (freeL l k 0).length) : ∃ b L b' L', Next l k j b L ∧ Next l k (j + 1) b' L' ∧ b + L ≤ b' ∧ (L = L' → b + L' = b' → b % (2 * L') ≠ 0) := by
  obtain ⟨b, i, f, n1⟩ := next_of (l := l) h.small (j := j) (by omega)
  obtain ⟨b', i', f', n2⟩ := next_of (l := l) h.small (j := j + 1) hj
  have hs := List.pairwise_iff_getElem.1 (freeL_apart l k 0) j (j + 1) (by omega) hj (by omega)
  rw [← nthG_get _ _ (by omega : j < (freeL l k 0).length), ← nthG_get _ _ hj, f.at_, f.long, f'.at_] at hs
  refine ⟨b, pw i, b', pw i', n1, n2, by omega, fun h1 h2 h3 => ?_⟩
  obtain rfl := pw_inj h1
  exact h.noTwins f f' h2 h3
end Go.Proofs.Ytgagjdhokkkkjaa
