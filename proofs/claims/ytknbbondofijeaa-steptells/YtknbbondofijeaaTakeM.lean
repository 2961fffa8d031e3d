/-
  What Take and Give answer, over no program.
-/
import Derived.Test.YtknbbondofijeaaGapM
import Derived.Test.YtknbbondofijeaaObjM
namespace Go.Proofs.Ytknbbondofijeaa
open Go.RowKit

def freeStart (zs : List Int) (a : Int) : Bool := decide (0 ≤ a) && decide (a.toNat ∈ begins zs 0) && vF (nth zs a.toNat)
def liveStart (zs : List Int) (a : Int) : Bool := decide (0 ≤ a) && decide (a.toNat ∈ begins zs 0) && !vF (nth zs a.toNat)
def takeE (zs : List Int) (a r b t : Int) (f : Bool) : Int :=
  if hFault r b t f = 0 then (if f then 3 else if arErr zs = 0 then (if freeStart zs a then (if (sLong (nth zs a.toNat) : Int) < 1 + r + b then 7 else 0) else 5) else arErr zs) else hFault r b t f
def takeL (zs : List Int) (p n room : Nat) (v : Int) : List Int := if n = room then putL zs p n v else putL (putL zs p n v) (p + n) (room - n) (fWord (room - n))
/-- Does an object other than the one at 's' refer to it? -/
def heldAt (zs : List Int) (s : Nat) : Bool := (begins zs 0).any fun t => t != s && (refWords zs t).any fun v => v == (s : Int) + 1
def giveE (zs : List Int) (a : Int) : Int := if arErr zs = 0 then (if liveStart zs a then (if heldAt zs a.toNat then 8 else 0) else 5) else arErr zs
def giveL (zs : List Int) (p : Nat) : List Int := putL zs p (sLong (nth zs p)) (fWord (sLong (nth zs p)))

section
variable {zs : List Int} {a r b t : Int} {f : Bool}
theorem takeE_head (h : hFault r b t f ≠ 0) : takeE zs a r b t f = hFault r b t f := by unfold takeE; rw [if_neg h]
theorem takeE_free (h : hFault r b t true = 0) : takeE zs a r b t true = 3 := by unfold takeE; rw [if_pos h, if_pos rfl]
theorem takeE_bad (h : hFault r b t false = 0) (h1 : arErr zs ≠ 0) : takeE zs a r b t false = arErr zs := by unfold takeE; rw [if_pos h, if_neg (by decide), if_neg h1]
theorem takeE_none (h : hFault r b t false = 0) (h1 : arErr zs = 0) (h2 : freeStart zs a = false) : takeE zs a r b t false = 5 := by unfold takeE; rw [if_pos h, if_neg (by decide), if_pos h1, h2]; rfl
theorem takeE_full (h : hFault r b t false = 0) (h1 : arErr zs = 0) (h2 : freeStart zs a = true) (h3 : (sLong (nth zs a.toNat) : Int) < 1 + r + b) : takeE zs a r b t false = 7 := by unfold takeE; rw [if_pos h, if_neg (by decide), if_pos h1, h2, if_pos rfl, if_pos h3]
theorem takeE_ok (h : hFault r b t false = 0) (h1 : arErr zs = 0) (h2 : freeStart zs a = true) (h3 : ¬ (sLong (nth zs a.toNat) : Int) < 1 + r + b) : takeE zs a r b t false = 0 := by unfold takeE; rw [if_pos h, if_neg (by decide), if_pos h1, h2, if_pos rfl, if_neg h3]
theorem takeE_zero (h : takeE zs a r b t f = 0) : hFault r b t f = 0 ∧ f = false ∧ arErr zs = 0 ∧ freeStart zs a = true ∧ 1 + r + b ≤ (sLong (nth zs a.toNat) : Int) := by
  unfold takeE at h
  split at h
  · rename_i h1
    split at h
    · cases h
    · rename_i h2
      split at h
      · rename_i h3
        split at h
        · rename_i h4
          split at h
          · cases h
          · rename_i h5
            exact ⟨h1, by simpa using h2, h3, h4, by omega⟩
        · cases h
      · rename_i h3; exact absurd h h3
  · rename_i h1; exact absurd h h1
theorem giveE_bad (h1 : arErr zs ≠ 0) : giveE zs a = arErr zs := by unfold giveE; rw [if_neg h1]
theorem giveE_none (h1 : arErr zs = 0) (h2 : liveStart zs a = false) : giveE zs a = 5 := by unfold giveE; rw [if_pos h1, h2]; rfl
theorem giveE_held (h1 : arErr zs = 0) (h2 : liveStart zs a = true) (h3 : heldAt zs a.toNat = true) : giveE zs a = 8 := by unfold giveE; rw [if_pos h1, h2, h3]; rfl
theorem giveE_ok (h1 : arErr zs = 0) (h2 : liveStart zs a = true) (h3 : heldAt zs a.toNat = false) : giveE zs a = 0 := by unfold giveE; rw [if_pos h1, h2, h3]; rfl
theorem giveE_zero (h : giveE zs a = 0) : arErr zs = 0 ∧ liveStart zs a = true ∧ heldAt zs a.toNat = false := by
  unfold giveE at h
  split at h
  · rename_i h1
    split at h
    · rename_i h2
      split at h
      · cases h
      · rename_i h3; exact ⟨h1, h2, by simpa using h3⟩
    · cases h
  · rename_i h1; exact absurd h h1
theorem freeStart_iff : freeStart zs a = true ↔ ∃ s : Nat, a = s ∧ s ∈ begins zs 0 ∧ vF (nth zs s) = true := by
  unfold freeStart
  constructor
  · intro h
    simp only [Bool.and_eq_true, decide_eq_true_eq] at h
    exact ⟨a.toNat, by omega, h.1.2, h.2⟩
  · rintro ⟨s, rfl, h1, h2⟩
    simp [h1, h2]
theorem liveStart_iff : liveStart zs a = true ↔ ∃ s : Nat, a = s ∧ s ∈ begins zs 0 ∧ vF (nth zs s) = false := by
  unfold liveStart
  constructor
  · intro h
    simp only [Bool.and_eq_true, decide_eq_true_eq] at h
    exact ⟨a.toNat, by omega, h.1.2, by simpa using h.2⟩
  · rintro ⟨s, rfl, h1, h2⟩
    simp [h1, h2]
theorem bool_not {x : Bool} (h : ¬ x = true) : x = false := by cases x; rfl; exact absurd rfl h
/-- The program's way of asking who holds an object. -/
theorem held_link {i : Nat} (hr : refsOk zs = true) (hi : i < (begins zs 0).length) (hf : vF (nth zs (st zs i)) = false) :
    ((List.range (begins zs 0).length).any fun k => k != i && decide ((i : Int) ∈ (obOf zs (st zs k)).2.1)) = heldAt zs (st zs i) := by
  have key : ∀ k, k < (begins zs 0).length → (((i : Int) ∈ (obOf zs (st zs k)).2.1) ↔ ((st zs i : Int) + 1) ∈ refWords zs (st zs k)) := by
    intro k hk
    have hall : ∀ v ∈ refWords zs (st zs k), (ixOf zs v).isSome = true := by
      have := List.all_eq_true.1 hr (st zs k) (st_mem hk)
      exact fun v hv => List.all_eq_true.1 this v hv
    constructor
    · intro h
      obtain ⟨v, hv, he⟩ := List.mem_map.1 h
      obtain ⟨x, hx⟩ := Option.isSome_iff_exists.1 (hall v hv)
      rw [hx] at he
      simp only [Option.getD_some] at he
      subst he
      by_cases h0 : v = 0
      · subst h0
        rw [ixOf_null] at hx
        injection hx with hx
        omega
      · obtain ⟨j, hj, hij, hst, _⟩ := ixOf_some h0 hx
        obtain rfl : i = j := by omega
        rw [hst]; exact hv
    · intro h
      refine List.mem_map.2 ⟨_, h, ?_⟩
      rw [ixOf_hit hi hf]; rfl
  unfold heldAt
  rw [Bool.eq_iff_iff]
  simp only [List.any_eq_true, Bool.and_eq_true, bne_iff_ne, decide_eq_true_eq, List.mem_range, beq_iff_eq, ne_eq]
  constructor
  · rintro ⟨k, hk, h1, h2⟩
    exact ⟨st zs k, st_mem hk, fun e => h1 (st_inj hk hi e), _, (key k hk).1 h2, rfl⟩
  · rintro ⟨s, hs, h1, v, hv, rfl⟩
    obtain ⟨k, hk, rfl⟩ := mem_begins hs
    exact ⟨k, hk, fun e => h1 (by rw [e]), (key k hk).2 hv⟩
end
end Go.Proofs.Ytknbbondofijeaa
