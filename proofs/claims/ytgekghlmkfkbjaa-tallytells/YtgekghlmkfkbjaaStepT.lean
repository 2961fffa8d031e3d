/-
  Contracts of the reference's FromFault of several lists, SameTri and TriFault.
-/
import Derived.Test.YtgekghlmkfkbjaaStepG
import Derived.Test.YtgekghlmkfkbjaaRefT
import Derived.Test.YtgekghlmkfkbjaaRefSame
namespace Go.Proofs.Ytgekghlmkfkbjaa
open Go.RowKit

section
variable {w wx wx' : World} {A G K : Option Addr} {n c ng cg nb cb : Nat} {zs g b : List Int}
end
theorem fromE_two {zs g b : List Int} (h : arErr zs = 0) : fromE zs (g ++ b) = if (allIn zs g && allIn zs b) = true then 0 else 5 := by
  by_cases h1 : (allIn zs g && allIn zs b) = true
  · rw [if_pos h1]
    rw [Bool.and_eq_true, allIn_iff, allIn_iff] at h1
    exact fromE_ok h fun x hx => (List.mem_append.1 hx).elim (h1.1 x) (h1.2 x)
  · rw [if_neg h1]
    rw [Bool.and_eq_true, allIn_iff, allIn_iff] at h1
    unfold fromE
    rw [if_pos h, if_neg]
    exact fun hall => h1 ⟨fun x hx => hall x (List.mem_append_left _ hx), fun x hx => hall x (List.mem_append_right _ hx)⟩
theorem thereB_sym {g b : List Int} : thereB g b = g.any fun x => decide (x ∈ b) := by
  unfold thereB
  rw [Bool.eq_iff_iff, List.any_eq_true, List.any_eq_true]
  constructor
  · rintro ⟨x, hx, h⟩; exact ⟨x, by simpa using h, by simpa using hx⟩
  · rintro ⟨x, hx, h⟩; exact ⟨x, by simpa using h, by simpa using hx⟩
theorem brokenB_true {zs g b : List Int} (hz : ∀ z ∈ zs, (Lit.int .u64 z).wf = true) (h : arErr zs = 0) (hb : ∀ x ∈ b, x ∈ livesI zs) {x y : Int} (hx : x ∈ b) (hy : y ∈ nxOf zs x) (h0 : 0 ≤ y) (hg : y ∉ g) (hbb : y ∉ b) : brokenB zs (colOf g b) b = true := by
  cases hc : brokenB zs (colOf g b) b
  · exact absurd ((brokenB_false hz h hb).1 hc x hx y hy h0) (fun h => h.elim hg hbb)
  · rfl

end Go.Proofs.Ytgekghlmkfkbjaa
