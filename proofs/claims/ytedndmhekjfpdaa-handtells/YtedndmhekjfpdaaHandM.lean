/-
  Handles, over no program: slots (generation, open, word), their faults, their names, and what Open, Look, Close, Swap and Live say of them.
-/
import Derived.Test.YtedndmhekjfpdaaRunM
namespace Go.Proofs.Ytedndmhekjfpdaa
open Go.RowKit

abbrev Slt := Int × Bool × Int
/-- A slot's three cells. -/
def slotC (x : Slt) : List Value := [.int .i64 x.1, .bool x.2.1, .int .i64 x.2.2]
theorem slotC_len (x : Slt) : (slotC x).length = 3 := rfl
theorem slotC_one (x : Slt) : ∀ u ∈ slotC x, u.oneCell' = true := by
  intro u hu
  simp [slotC] at hu
  rcases hu with rfl | rfl | rfl <;> rfl
theorem ArrG.slot {w : World} {B n : Nat} {A : Option Addr} {l : List Slt} (h : ArrG slotC 3 w B A n l) {j : Nat} (hj : j < n) :
    ∃ b off, A = some ⟨b, off, none⟩ ∧ b < B ∧ w.cell? ⟨b, off + j * 3, none⟩ = some (.int .i64 (nthG l j).1) ∧ w.cell? ⟨b, off + j * 3 + 1, none⟩ = some (.bool (nthG l j).2.1) ∧ w.cell? ⟨b, off + j * 3 + 2, none⟩ = some (.int .i64 (nthG l j).2.2) := by
  obtain ⟨b, off, e, hb, hc⟩ := h.at_ hj
  exact ⟨b, off, e, hb, hc 0 (by omega), hc 1 (by omega), hc 2 (by omega)⟩

/-- A slot's fault. -/
def slotE (x : Slt) : Int := if x.1 < 0 ∨ 65535 < x.1 ∨ x.2.2 < 0 ∨ 255 < x.2.2 then 4 else if (x.2.1 = true ∧ x.1 = 0) ∨ (x.2.1 = false ∧ x.2.2 ≠ 0) then 3 else 0
theorem slotE_range {x : Slt} (h : x.1 < 0 ∨ 65535 < x.1 ∨ x.2.2 < 0 ∨ 255 < x.2.2) : slotE x = 4 := by unfold slotE; rw [if_pos h]
theorem slotE_form {x : Slt} (h : ¬ (x.1 < 0 ∨ 65535 < x.1 ∨ x.2.2 < 0 ∨ 255 < x.2.2)) (h2 : (x.2.1 = true ∧ x.1 = 0) ∨ (x.2.1 = false ∧ x.2.2 ≠ 0)) : slotE x = 3 := by unfold slotE; rw [if_neg h, if_pos h2]
theorem slotE_ok {x : Slt} : slotE x = 0 ↔ 0 ≤ x.1 ∧ x.1 ≤ 65535 ∧ 0 ≤ x.2.2 ∧ x.2.2 ≤ 255 ∧ (x.2.1 = true → x.1 ≠ 0) ∧ (x.2.1 = false → x.2.2 = 0) := by
  unfold slotE
  split
  · rename_i h
    constructor
    · intro h1; cases h1
    · intro h1; omega
  · rename_i h
    split
    · rename_i h2
      constructor
      · intro h1; cases h1
      · rintro ⟨_, _, _, _, h3, h4⟩
        rcases h2 with ⟨h5, h6⟩ | ⟨h5, h6⟩
        · exact absurd h6 (h3 h5)
        · exact absurd (h4 h5) h6
    · rename_i h2
      refine ⟨fun _ => ⟨by omega, by omega, by omega, by omega, fun h3 h4 => h2 (.inl ⟨h3, h4⟩), fun h3 => ?_⟩, fun _ => rfl⟩
      by_cases h4 : x.2.2 = 0
      · exact h4
      · exact absurd (.inr ⟨h3, h4⟩) h2
/-- The first fault of the first 'k' slots. -/
def handTo (l : List Slt) : Nat → Int
  | 0 => 0
  | k + 1 => if handTo l k = 0 then slotE (nthG l k) else handTo l k
def handE (l : List Slt) : Int := if 16 < l.length then 2 else handTo l l.length
theorem handTo_next {l : List Slt} {k : Nat} (h : handTo l k = 0) : handTo l (k + 1) = slotE (nthG l k) := by
  conv => lhs; unfold handTo
  rw [if_pos h]
theorem handTo_stays {l : List Slt} {k : Nat} (h : handTo l k ≠ 0) : ∀ d, handTo l (k + d) = handTo l k
  | 0 => rfl
  | d + 1 => by
    rw [← Nat.add_assoc]
    conv => lhs; unfold handTo
    rw [handTo_stays h d, if_neg h]
theorem handTo_zero {l : List Slt} : ∀ {k : Nat}, handTo l k = 0 ↔ ∀ i, i < k → slotE (nthG l i) = 0
  | 0 => ⟨fun _ i hi => absurd hi (by omega), fun _ => rfl⟩
  | k + 1 => by
    have ih := handTo_zero (l := l) (k := k)
    by_cases h : handTo l k = 0
    · rw [handTo_next h]
      constructor
      · intro h1 i hi
        rcases Nat.lt_succ_iff_lt_or_eq.1 hi with h2 | h2
        · exact ih.1 h i h2
        · rw [h2]; exact h1
      · intro h1; exact h1 k (by omega)
    · rw [handTo_stays h 1]
      constructor
      · intro h1; exact absurd h1 h
      · intro h1; exact ih.2 fun i hi => h1 i (by omega)
/-- A fault found at slot 'k', none ahead of it. -/
theorem handE_at {l : List Slt} {k : Nat} (h16 : l.length ≤ 16) (hk : k < l.length) (h : handTo l k = 0) (ha : slotE (nthG l k) ≠ 0) : handE l = slotE (nthG l k) := by
  have h1 := handTo_next h
  have h2 := handTo_stays (l := l) (k := k + 1) (by rw [h1]; exact ha) (l.length - (k + 1))
  unfold handE
  rw [if_neg (by omega), ← h1, ← h2]
  congr 1
  omega
theorem handE_ok {l : List Slt} : handE l = 0 ↔ l.length ≤ 16 ∧ ∀ i, i < l.length → slotE (nthG l i) = 0 := by
  unfold handE
  by_cases h : 16 < l.length
  · rw [if_pos h]
    exact ⟨fun h1 => absurd h1 (by omega), fun h1 => absurd h1.1 (by omega)⟩
  · rw [if_neg h, handTo_zero]
    exact ⟨fun h1 => ⟨by omega, h1⟩, fun h1 => h1.2⟩
theorem hand_set {l : List Slt} (h : handE l = 0) {p : Nat} (hp : p < l.length) {x : Slt} (hx : slotE x = 0) : handE (l.set p x) = 0 := by
  obtain ⟨h1, h2⟩ := handE_ok.1 h
  refine handE_ok.2 ⟨by rw [List.length_set]; exact h1, fun i hi => ?_⟩
  rw [List.length_set] at hi
  by_cases he : p = i
  · subst he; rw [nthG_set_same _ _ _ hp]; exact hx
  · rw [nthG_set_other _ _ _ _ he]; exact h2 i hi

/-- The first number below 'n' that the rule takes. -/
def firstO (f : Nat → Bool) (n : Nat) : Option Nat := (List.range n).find? f
theorem first_some {f : Nat → Bool} {n p : Nat} (hp : p < n) (h : f p = true) (hb : ∀ j, j < p → f j = false) : firstO f n = some p := by
  unfold firstO
  rw [List.find?_range_eq_some]
  exact ⟨h, by simpa using hp, fun j hj => by rw [hb j hj]; rfl⟩
theorem first_none {f : Nat → Bool} {n : Nat} (h : ∀ j, j < n → f j = false) : firstO f n = none := by
  unfold firstO
  rw [List.find?_range_eq_none]
  exact fun j hj => by rw [h j hj]; rfl
theorem first_cases (f : Nat → Bool) (n : Nat) : (∃ p, p < n ∧ f p = true ∧ (∀ j, j < p → f j = false) ∧ firstO f n = some p) ∨ ((∀ j, j < n → f j = false) ∧ firstO f n = none) := by
  cases h : firstO f n with
  | none =>
    right
    have h1 := h
    unfold firstO at h1
    rw [List.find?_range_eq_none] at h1
    exact ⟨fun j hj => by simpa using h1 j hj, rfl⟩
  | some p =>
    left
    have h1 := h
    unfold firstO at h1
    rw [List.find?_range_eq_some] at h1
    obtain ⟨h2, h3, h4⟩ := h1
    exact ⟨p, by simpa using h3, h2, fun j hj => by simpa using h4 j hj, rfl⟩

/-- A slot that may be opened. -/
def canO (x : Slt) : Bool := !x.2.1 && decide (x.1 < 65535)
/-- The name of slot 'i'. -/
def nameN (i : Nat) (x : Slt) : Int := x.1 * 65536 + i
/-- Slot 'i' is open and has the name. -/
def hitN (l : List Slt) (name : Int) (i : Nat) : Bool := (nthG l i).2.1 && decide (nameN i (nthG l i) = name)
def freeN (l : List Slt) (i : Nat) : Bool := canO (nthG l i)
def inHand (a : Int) : Bool := decide (0 ≤ a ∧ a < 256)
theorem inHand_iff {a : Int} : inHand a = true ↔ 0 ≤ a ∧ a < 256 := by simp [inHand]
/-- Look's and Close's fault. -/
def findE (l : List Slt) (name : Int) : Int := if handE l = 0 then (match firstO (hitN l name) l.length with | some _ => 0 | none => 9) else handE l
def findI (l : List Slt) (name : Int) : Nat := (firstO (hitN l name) l.length).getD 0
def lookV (l : List Slt) (name : Int) : Int := if findE l name = 0 then (nthG l (findI l name)).2.2 else 0
def closeL (l : List Slt) (name : Int) : List Slt := l.set (findI l name) ((nthG l (findI l name)).1, false, 0)
/-- Open's fault. -/
def openE (l : List Slt) (a : Int) : Int := if handE l = 0 then (if inHand a = true then (match firstO (freeN l) l.length with | some _ => 0 | none => 7) else 4) else handE l
def openI (l : List Slt) : Nat := (firstO (freeN l) l.length).getD 0
def openX (l : List Slt) (a : Int) : Slt := ((nthG l (openI l)).1 + 1, true, a)
def openL (l : List Slt) (a : Int) : List Slt := l.set (openI l) (openX l a)
def openN (l : List Slt) (a : Int) : Int := nameN (openI l) (openX l a)

section
variable {l : List Slt} {name a : Int}
theorem find_bad (h : handE l ≠ 0) : findE l name = handE l := by unfold findE; rw [if_neg h]
theorem find_some (h : handE l = 0) {p : Nat} (hp : p < l.length) (hf : hitN l name p = true) (hb : ∀ j, j < p → hitN l name j = false) : findE l name = 0 ∧ findI l name = p := by
  have := first_some hp hf hb
  unfold findE findI
  rw [if_pos h, this]
  exact ⟨rfl, rfl⟩
theorem find_none (h : handE l = 0) (hb : ∀ j, j < l.length → hitN l name j = false) : findE l name = 9 := by
  unfold findE
  rw [if_pos h, first_none hb]
/-- What a name without fault is. -/
theorem find_ok (h : findE l name = 0) : handE l = 0 ∧ findI l name < l.length ∧ hitN l name (findI l name) = true ∧ ∀ j, j < findI l name → hitN l name j = false := by
  by_cases h0 : handE l = 0
  · rcases first_cases (hitN l name) l.length with ⟨p, hp, hf, hb, _⟩ | ⟨hb, _⟩
    · obtain ⟨_, e⟩ := find_some h0 hp hf hb
      rw [e]
      exact ⟨h0, hp, hf, hb⟩
    · rw [find_none h0 hb] at h; cases h
  · rw [find_bad h0] at h; exact absurd h h0
theorem find_ways (h : handE l = 0) : (∃ p, p < l.length ∧ hitN l name p = true ∧ (∀ j, j < p → hitN l name j = false) ∧ findE l name = 0 ∧ findI l name = p) ∨ ((∀ j, j < l.length → hitN l name j = false) ∧ findE l name = 9) := by
  rcases first_cases (hitN l name) l.length with ⟨p, hp, hf, hb, _⟩ | ⟨hb, _⟩
  · obtain ⟨e1, e2⟩ := find_some h hp hf hb
    exact .inl ⟨p, hp, hf, hb, e1, e2⟩
  · exact .inr ⟨hb, find_none h hb⟩
theorem open_ways (h : handE l = 0) (ha : inHand a = true) : (∃ p, p < l.length ∧ freeN l p = true ∧ (∀ j, j < p → freeN l j = false) ∧ openE l a = 0 ∧ openI l = p) ∨ ((∀ j, j < l.length → freeN l j = false) ∧ openE l a = 7) := by
  rcases first_cases (freeN l) l.length with ⟨p, hp, hf, hb, e⟩ | ⟨hb, e⟩
  · exact .inl ⟨p, hp, hf, hb, by unfold openE; rw [if_pos h, if_pos ha, e], by unfold openI; rw [e]; rfl⟩
  · exact .inr ⟨hb, by unfold openE; rw [if_pos h, if_pos ha, e]⟩
theorem open_bad (h : handE l ≠ 0) : openE l a = handE l := by unfold openE; rw [if_neg h]
theorem open_word (h : handE l = 0) (ha : inHand a = false) : openE l a = 4 := by unfold openE; rw [if_pos h, ha]; rfl
theorem open_ok (h : openE l a = 0) : handE l = 0 ∧ inHand a = true ∧ openI l < l.length ∧ freeN l (openI l) = true ∧ ∀ j, j < openI l → freeN l j = false := by
  by_cases h0 : handE l = 0
  · cases ha : inHand a
    · rw [open_word h0 ha] at h; cases h
    · rcases open_ways h0 ha with ⟨p, hp, hf, hb, _, e⟩ | ⟨_, e⟩
      · rw [e]; exact ⟨h0, rfl, hp, hf, hb⟩
      · rw [e] at h; cases h
  · rw [open_bad h0] at h; exact absurd h h0
theorem hitN_iff {i : Nat} : hitN l name i = true ↔ (nthG l i).2.1 = true ∧ nameN i (nthG l i) = name := by simp [hitN]
theorem freeN_iff {i : Nat} : freeN l i = true ↔ (nthG l i).2.1 = false ∧ (nthG l i).1 < 65535 := by simp [freeN, canO]
/-- A name tells its slot. -/
theorem hit_one {i j : Nat} (hi : i < 16) (hj : j < 16) (h1 : hitN l name i = true) (h2 : hitN l name j = true) : i = j := by
  have e1 := (hitN_iff.1 h1).2
  have e2 := (hitN_iff.1 h2).2
  unfold nameN at e1 e2
  omega
theorem open_slot (h : openE l a = 0) : slotE (openX l a) = 0 ∧ handE (openL l a) = 0 := by
  obtain ⟨h0, ha, hp, hf, _⟩ := open_ok h
  have h1 := slotE_ok.1 ((handE_ok.1 h0).2 _ hp)
  have h2 := (freeN_iff.1 hf).2
  have h3 := inHand_iff.1 ha
  have hx : slotE (openX l a) = 0 := by
    refine slotE_ok.2 ?_
    unfold openX
    refine ⟨by simp only; omega, by simp only; omega, by simp only; omega, by simp only; omega, fun _ => by simp only; omega, fun hc => by cases hc⟩
  exact ⟨hx, hand_set h0 hp hx⟩
theorem close_slot (h : findE l name = 0) : handE (closeL l name) = 0 := by
  obtain ⟨h0, hp, hf, _⟩ := find_ok h
  have h1 := slotE_ok.1 ((handE_ok.1 h0).2 _ hp)
  refine hand_set h0 hp (slotE_ok.2 ?_)
  exact ⟨h1.1, h1.2.1, by simp only; omega, by simp only; omega, (fun hc => by cases hc), fun _ => rfl⟩
/-- Whoever is found in one list and not shut or turned is found in another. -/
theorem find_at (h : handE l = 0) {p : Nat} (hp : p < l.length) (hf : hitN l name p = true) : findE l name = 0 ∧ findI l name = p := by
  have h16 := (handE_ok.1 h).1
  refine find_some h hp hf fun j hj => ?_
  cases h1 : hitN l name j
  · rfl
  · have := hit_one (by omega) (by omega) h1 hf
    omega
/-- What was opened is found. -/
theorem find_open (h : openE l a = 0) : findE (openL l a) (openN l a) = 0 ∧ findI (openL l a) (openN l a) = openI l ∧ lookV (openL l a) (openN l a) = a := by
  obtain ⟨h0, ha, hp, hf, _⟩ := open_ok h
  have hn : nthG (openL l a) (openI l) = openX l a := nthG_set_same _ _ _ hp
  have := find_at (name := openN l a) (open_slot h).2 (p := openI l) (by unfold openL; rw [List.length_set]; exact hp) (hitN_iff.2 (by rw [hn]; exact ⟨rfl, rfl⟩))
  refine ⟨this.1, this.2, ?_⟩
  unfold lookV
  rw [if_pos this.1, this.2, hn]
  rfl
/-- What was found ahead is found still. -/
theorem look_open (h : openE l a = 0) (hn : findE l name = 0) : findE (openL l a) name = 0 ∧ lookV (openL l a) name = lookV l name := by
  obtain ⟨h0, ha, hp, hf, _⟩ := open_ok h
  obtain ⟨_, hq, hg, _⟩ := find_ok hn
  have hne : openI l ≠ findI l name := fun e => by
    rw [e] at hf
    have := (hitN_iff.1 hg).1
    rw [(freeN_iff.1 hf).1] at this
    cases this
  have hnt : nthG (openL l a) (findI l name) = nthG l (findI l name) := nthG_set_other _ _ _ _ hne
  have := find_at (name := name) (open_slot h).2 (p := findI l name) (by unfold openL; rw [List.length_set]; exact hq) (hitN_iff.2 (by rw [hnt]; exact hitN_iff.1 hg))
  refine ⟨this.1, ?_⟩
  unfold lookV
  rw [if_pos this.1, if_pos hn, this.2, hnt]
/-- What is shut is stale. -/
theorem find_close (h : findE l name = 0) : findE (closeL l name) name = 9 := by
  obtain ⟨h0, hp, hf, _⟩ := find_ok h
  have h16 := (handE_ok.1 h0).1
  refine find_none (close_slot h) fun j hj => ?_
  unfold closeL at hj
  rw [List.length_set] at hj
  cases h1 : hitN (closeL l name) name j
  · rfl
  · exfalso
    by_cases he : findI l name = j
    · have hn : nthG (closeL l name) j = ((nthG l (findI l name)).1, false, 0) := by subst he; exact nthG_set_same _ _ _ hp
      have := (hitN_iff.1 h1).1
      rw [hn] at this
      cases this
    · have hn : nthG (closeL l name) j = nthG l j := nthG_set_other _ _ _ _ he
      have h2 := hitN_iff.1 h1
      rw [hn] at h2
      exact he (hit_one (by omega) (by omega) hf (hitN_iff.2 h2))

/-- The name is behind: its slot is shut, or of a later generation. -/
def Behind (l : List Slt) (name : Int) : Prop := ∃ p g, p < l.length ∧ nameN p (g, false, 0) = name ∧ g ≤ (nthG l p).1 ∧ ((nthG l p).2.1 = true → g < (nthG l p).1)
theorem behind_close (h : findE l name = 0) : Behind (closeL l name) name := by
  obtain ⟨h0, hp, hf, _⟩ := find_ok h
  have hn : nthG (closeL l name) (findI l name) = ((nthG l (findI l name)).1, false, 0) := nthG_set_same _ _ _ hp
  refine ⟨findI l name, (nthG l (findI l name)).1, by unfold closeL; rw [List.length_set]; exact hp, (hitN_iff.1 hf).2, ?_, ?_⟩
  · rw [hn]; exact Int.le_refl _
  · rw [hn]; intro hc; cases hc
theorem behind_stale (h : handE l = 0) (hb : Behind l name) : findE l name = 9 := by
  obtain ⟨p, g, hp, hn, hg, ho⟩ := hb
  have h16 := (handE_ok.1 h).1
  refine find_none h fun j hj => ?_
  cases h1 : hitN l name j
  · rfl
  · exfalso
    have h2 := hitN_iff.1 h1
    have h3 := h2.2
    unfold nameN at h3 hn
    simp only at hn
    have hpj : p = j := by omega
    subst hpj
    have := ho h2.1
    omega
theorem behind_open (h : openE l a = 0) (hb : Behind l name) : openN l a ≠ name ∧ Behind (openL l a) name := by
  obtain ⟨h0, ha, hp, hf, _⟩ := open_ok h
  obtain ⟨p, g, hq, hn, hg, ho⟩ := hb
  have h16 := (handE_ok.1 h0).1
  unfold nameN at hn
  simp only at hn
  constructor
  · intro he
    unfold openN nameN openX at he
    simp only at he
    have : openI l = p := by omega
    rw [this] at he
    omega
  · by_cases he : openI l = p
    · have hnt : nthG (openL l a) p = openX l a := by rw [← he]; exact nthG_set_same _ _ _ hp
      refine ⟨p, g, by unfold openL; rw [List.length_set]; exact hq, hn, ?_, fun _ => ?_⟩
      · rw [hnt]; unfold openX; rw [he]; simp only; omega
      · rw [hnt]; unfold openX; rw [he]; simp only; omega
    · have hnt : nthG (openL l a) p = nthG l p := nthG_set_other _ _ _ _ he
      exact ⟨p, g, by unfold openL; rw [List.length_set]; exact hq, hn, by rw [hnt]; exact hg, by rw [hnt]; exact ho⟩
theorem behind_close2 {other : Int} (h : findE l other = 0) (hb : Behind l name) : Behind (closeL l other) name := by
  obtain ⟨h0, hp, hf, _⟩ := find_ok h
  obtain ⟨p, g, hq, hn, hg, ho⟩ := hb
  by_cases he : findI l other = p
  · have hnt : nthG (closeL l other) p = ((nthG l p).1, false, 0) := by subst he; exact nthG_set_same _ _ _ hp
    exact ⟨p, g, by unfold closeL; rw [List.length_set]; exact hq, hn, by rw [hnt]; exact hg, by rw [hnt]; intro hc; cases hc⟩
  · have hnt : nthG (closeL l other) p = nthG l p := nthG_set_other _ _ _ _ he
    exact ⟨p, g, by unfold closeL; rw [List.length_set]; exact hq, hn, by rw [hnt]; exact hg, by rw [hnt]; exact ho⟩
end

/-- The names of the open slots among the first 'k'. -/
def liveUp (l : List Slt) : Nat → List Int
  | 0 => []
  | k + 1 => if (nthG l k).2.1 = true then liveUp l k ++ [nameN k (nthG l k)] else liveUp l k
def liveN (l : List Slt) : List Int := if handE l = 0 then liveUp l l.length else []
theorem liveUp_on {l : List Slt} {k : Nat} (h : (nthG l k).2.1 = true) : liveUp l (k + 1) = liveUp l k ++ [nameN k (nthG l k)] := by
  conv => lhs; unfold liveUp
  rw [if_pos h]
theorem liveUp_off {l : List Slt} {k : Nat} (h : (nthG l k).2.1 = false) : liveUp l (k + 1) = liveUp l k := by
  conv => lhs; unfold liveUp
  rw [if_neg (by rw [h]; decide)]
theorem liveUp_len {l : List Slt} : ∀ k, (liveUp l k).length ≤ k
  | 0 => Nat.le_refl _
  | k + 1 => by
    have := liveUp_len (l := l) k
    unfold liveUp
    split
    · simp; omega
    · omega
theorem liveUp_mem {l : List Slt} {x : Int} : ∀ {k : Nat}, x ∈ liveUp l k → ∃ i, i < k ∧ hitN l x i = true
  | 0, h => by cases h
  | k + 1, h => by
    unfold liveUp at h
    split at h
    · rename_i ho
      rcases List.mem_append.1 h with h | h
      · obtain ⟨i, hi, hh⟩ := liveUp_mem h
        exact ⟨i, by omega, hh⟩
      · rw [List.mem_singleton.1 h]
        exact ⟨k, by omega, hitN_iff.2 ⟨ho, rfl⟩⟩
    · obtain ⟨i, hi, hh⟩ := liveUp_mem h
      exact ⟨i, by omega, hh⟩
theorem liveUp_nodup {l : List Slt} : ∀ {k : Nat}, k ≤ 16 → (liveUp l k).Nodup
  | 0, _ => List.nodup_nil
  | k + 1, hk => by
    have ih := liveUp_nodup (l := l) (k := k) (by omega)
    unfold liveUp
    split
    · rename_i ho
      rw [List.nodup_append]
      refine ⟨ih, by simp, fun a ha b hb => ?_⟩
      rw [List.mem_singleton.1 hb]
      intro he
      obtain ⟨i, hi, hh⟩ := liveUp_mem ha
      have := hit_one (by omega) (by omega) hh (hitN_iff.2 ⟨ho, he.symm⟩)
      omega
    · exact ih
theorem liveN_found {l : List Slt} (h : handE l = 0) {x : Int} (hx : x ∈ liveN l) : findE l x = 0 := by
  unfold liveN at hx
  rw [if_pos h] at hx
  obtain ⟨i, hi, hh⟩ := liveUp_mem hx
  exact (find_at h hi hh).1
theorem liveN_len {l : List Slt} : (liveN l).length ≤ l.length := by
  unfold liveN
  split
  · exact liveUp_len _
  · exact Nat.zero_le _

/-- What Swap makes of a slot. -/
def swapX (f : List Int) (x : Slt) : Slt := if x.2.1 = true then (x.1, true, nth f x.2.2.toNat) else x
def wordsIn (f : List Int) : Bool := f.all inHand
def swapHE (l : List Slt) (f : List Int) : Int := if handE l = 0 then (if f.length = 256 then (if wordsIn f = true then 0 else 4) else 3) else handE l
def swapHL (l : List Slt) (f : List Int) : List Slt := l.map (swapX f)
/-- .. the first 'k' done. -/
def swapTo (l : List Slt) (f : List Int) (k : Nat) : List Slt := (l.take k).map (swapX f) ++ l.drop k
theorem swapTo_zero (l : List Slt) (f : List Int) : swapTo l f 0 = l := by simp [swapTo]
theorem swapTo_all (l : List Slt) (f : List Int) : swapTo l f l.length = swapHL l f := by simp [swapTo, swapHL]
theorem swapTo_len (l : List Slt) (f : List Int) (k : Nat) : (swapTo l f k).length = l.length := by
  simp [swapTo]; omega
theorem swapTo_at {l : List Slt} {f : List Int} {k : Nat} (hk : k < l.length) : nthG (swapTo l f k) k = nthG l k := by
  unfold swapTo nthG
  rw [List.getD_eq_getElem?_getD, List.getD_eq_getElem?_getD, List.getElem?_append_right (by simp; omega)]
  simp [Nat.min_eq_left (Nat.le_of_lt hk)]
theorem swapTo_next {l : List Slt} {f : List Int} {k : Nat} (hk : k < l.length) : swapTo l f (k + 1) = (swapTo l f k).set k (swapX f (nthG l k)) := by
  unfold swapTo
  have hl : ((l.take k).map (swapX f)).length = k := by simp; omega
  rw [List.set_append_right _ _ (by omega), hl, Nat.sub_self, List.drop_eq_getElem_cons hk, List.set_cons_zero, List.take_succ_eq_append_getElem hk, List.map_append, List.append_assoc, nthG_get _ _ hk]
  rfl
theorem swapX_off {f : List Int} {x : Slt} (h : x.2.1 = false) : swapX f x = x := by unfold swapX; rw [h]; rfl
theorem swapTo_off {l : List Slt} {f : List Int} {k : Nat} (hk : k < l.length) (h : (nthG l k).2.1 = false) : swapTo l f (k + 1) = swapTo l f k := by
  rw [swapTo_next hk, swapX_off h]
  apply List.ext_getElem?
  intro i
  by_cases he : k = i
  · subst he
    rw [List.getElem?_set_self (by rw [swapTo_len]; exact hk)]
    have := swapTo_at (f := f) hk
    rw [← this, nthG_get _ _ (by rw [swapTo_len]; exact hk), List.getElem?_eq_getElem (by rw [swapTo_len]; exact hk)]
  · rw [List.getElem?_set_ne he]
end Go.Proofs.Ytedndmhekjfpdaa
