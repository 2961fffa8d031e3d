/-
  References of an arena, over no program: the words of an object, the map from words to numbers of objects, what is wrong with an arena ('arErr').
-/
import Derived.Test.YtknbbondofijeaaMapM
namespace Go.Proofs.Ytknbbondofijeaa
open Go.RowKit

def refWords (zs : List Int) (s : Nat) : List Int := (zs.drop (s + 1)).take (vR (nth zs s)).toNat
def bodyWords (zs : List Int) (s : Nat) : List Int := (zs.drop (s + 1 + (vR (nth zs s)).toNat)).take (vB (nth zs s)).toNat
/-- Where object 'k' begins. -/
def st (zs : List Int) (k : Nat) : Nat := nthG (begins zs 0) k
def mapTo (zs : List Int) : Nat → Int → Option Int
  | 0 => put (fun _ => none) 0 (-1)
  | k + 1 => if vF (nth zs (st zs k)) then mapTo zs k else put (mapTo zs k) ((st zs k : Int) + 1) k
def ixOf (zs : List Int) : Int → Option Int := mapTo zs (begins zs 0).length
def refsIn (zs : List Int) (s : Nat) : Bool := (refWords zs s).all fun v => (ixOf zs v).isSome
def refsOk (zs : List Int) : Bool := (begins zs 0).all (refsIn zs)
def arErr (zs : List Int) : Int := if spErr zs = 0 then (if refsOk zs then 0 else 5) else spErr zs
section
variable {zs : List Int}
theorem mapTo_free {k : Nat} (h : vF (nth zs (st zs k)) = true) : mapTo zs (k + 1) = mapTo zs k := by rw [mapTo, h]; rfl
theorem mapTo_live {k : Nat} (h : vF (nth zs (st zs k)) = false) : mapTo zs (k + 1) = put (mapTo zs k) ((st zs k : Int) + 1) k := by rw [mapTo, h]; rfl
theorem st_mem {k : Nat} (h : k < (begins zs 0).length) : st zs k ∈ begins zs 0 := by unfold st; rw [nthG_get _ _ h]; exact List.getElem_mem _
theorem arErr_sp (h : spErr zs ≠ 0) : arErr zs = spErr zs := by simp [arErr, h]
theorem arErr_none (h : spErr zs = 0) (hr : refsOk zs = false) : arErr zs = 5 := by simp [arErr, h, hr]
theorem arErr_ok (h : spErr zs = 0) (hr : refsOk zs = true) : arErr zs = 0 := by simp [arErr, h, hr]
theorem arErr_zero (h : arErr zs = 0) : spErr zs = 0 ∧ refsOk zs = true := by
  unfold arErr at h
  split at h
  · rename_i h1
    split at h
    · rename_i h2; exact ⟨h1, h2⟩
    · cases h
  · rename_i h1; exact absurd h h1
theorem refWords_len {s : Nat} (h : stepOk zs s = true) : (refWords zs s).length = (vR (nth zs s)).toNat := by
  have := (stepOk_iff.1 h).2
  unfold sLong at this
  unfold refWords
  simp; omega
theorem bodyWords_len {s : Nat} (h : stepOk zs s = true) : (bodyWords zs s).length = (vB (nth zs s)).toNat := by
  have := (stepOk_iff.1 h).2
  unfold sLong at this
  unfold bodyWords
  simp; omega
/-- What is known of a word at which an object begins. -/
theorem spot_facts {s : Nat} (h : stepOk zs s = true) (hz : ∀ z ∈ zs, (Lit.int .u64 z).wf = true) (hs : s < zs.length) :
    ∃ R Bd : Nat, vR (nth zs s) = R ∧ vB (nth zs s) = Bd ∧ s + 1 + R + Bd ≤ zs.length ∧ R + Bd ≤ 255 ∧ 0 ≤ vT (nth zs s) ∧ vT (nth zs s) ≤ 65535 ∧ (vF (nth zs s) = true → R = 0 ∧ vT (nth zs s) = 0) ∧
      hFault R Bd (vT (nth zs s)) (vF (nth zs s)) = 0 ∧ sLong (nth zs s) = 1 + R + Bd ∧ hWord R Bd (vT (nth zs s)) (vF (nth zs s)) = nth zs s := by
  obtain ⟨h1, h2⟩ := stepOk_iff.1 h
  have hw := hz (nth zs s) (by rw [nth_get _ _ hs]; exact List.getElem_mem _)
  rw [wf_u64] at hw
  obtain ⟨f1, f2, f3, f4, f5, f6, f7⟩ := head_fields hw.1 h1
  obtain ⟨R, hR⟩ := Int.eq_ofNat_of_zero_le f1
  obtain ⟨Bd, hB⟩ := Int.eq_ofNat_of_zero_le f2
  have hw2 := (header_of_word hw.1 h1).2
  rw [hR, hB] at hw2
  rw [hR, hB] at f7
  have hL : sLong (nth zs s) = 1 + R + Bd := by unfold sLong; rw [hR, hB]; simp
  refine ⟨R, Bd, hR, hB, by omega, by omega, f3, f4, fun h => ⟨by have := (f6 h).1; omega, (f6 h).2⟩, f7, hL, hw2⟩
end
end Go.Proofs.Ytknbbondofijeaa
