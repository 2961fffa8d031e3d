/-
  A region that draws its order, walked by what holds behind each operation ('wp_region_inv'). Over no program.
-/
import Derived.OrdersHeld
import Derived.RegionTactic
import Derived.Test.YthdnfocemchgjaaBase
namespace Go.Proofs.Ythdnfocemchgjaa
open Go.RowKit

theorem cnt_less {f g : Nat → Bool} {i : Nat} (hf : f i = true) (hg : g i = false) (ho : ∀ j, j ≠ i → g j = f j) : ∀ n, i < n → ((List.range n).filter g).length + 1 = ((List.range n).filter f).length
  | 0, h => absurd h (by omega)
  | n + 1, h => by
    rw [List.range_succ, List.filter_append, List.filter_append, List.length_append, List.length_append]
    by_cases he : i = n
    · subst he
      have e1 : (List.range i).filter g = (List.range i).filter f := List.filter_congr fun j hj => ho j (by have := List.mem_range.1 hj; omega)
      rw [e1]
      simp [hf, hg]
    · have ih := cnt_less hf hg ho n (by omega)
      have e1 : [n].filter g = [n].filter f := List.filter_congr fun j hj => ho j (by have := List.mem_singleton.1 hj; omega)
      rw [e1]
      omega
section
variable {P : Program} {ops : Array Oper} {Q : Exit → Act → World → Prop}
theorem any_inv (J : Array Bool → Act → World → Prop) (hstep : ∀ listed a w, J listed a w → ∀ i ∈ Region.ready .any ops listed, wpOp P ops Q i (J (listed.setIfInBounds i true)) a w) (hend : ∀ listed a w, J listed a w → Region.ready .any ops listed = [] → Q .normal a w) :
    ∀ (fuel : Nat) (listed : Array Bool) (a : Act) (w : World), ((List.range ops.size).filter fun j => !listed.getD j true).length ≤ fuel → J listed a w → wpAny P .any ops Q fuel listed a w
  | 0, listed, a, w, hc, h => by
    have hr : Region.ready .any ops listed = [] := by
      cases hr : Region.ready .any ops listed with
      | nil => rfl
      | cons i r =>
        exfalso
        obtain ⟨h1, o, ho, _⟩ := mem_ready.1 (show i ∈ Region.ready .any ops listed by rw [hr]; simp)
        have hi : i < ops.size := (Array.getElem?_eq_some_iff.1 ho).1
        have hm : i ∈ (List.range ops.size).filter fun j => !listed.getD j true := List.mem_filter.2 ⟨List.mem_range.2 hi, by rw [h1]; rfl⟩
        rw [List.eq_nil_of_length_eq_zero (Nat.le_zero.1 hc)] at hm
        cases hm
    exact ⟨hr, hend _ _ _ h hr⟩
  | fuel + 1, listed, a, w, hc, h => by
    refine ⟨fun hr => hend _ _ _ h hr, fun i hi => wpOp_mono (fun a' w' h' => any_inv J hstep hend fuel _ a' w' ?_ h') (hstep _ _ _ h i hi)⟩
    obtain ⟨h1, o, ho, _⟩ := mem_ready.1 hi
    have hlt : i < ops.size := (Array.getElem?_eq_some_iff.1 ho).1
    have hls : i < listed.size := by
      rcases Nat.lt_or_ge i listed.size with h | h
      · exact h
      · simp [Array.getD, Nat.not_lt.2 h] at h1
    have := cnt_less (f := fun j => !listed.getD j true) (g := fun j => !(listed.setIfInBounds i true).getD j true) (i := i) (by rw [h1]; rfl) (by simp [Array.getD, hls]) (fun j hj => by rw [getD_set_ne true (Ne.symm hj)]) ops.size hlt
    omega
/-- What holds ahead of the region, is kept by each operation that may come up, and gives the end. -/
theorem wp_region_inv {id : Nat} {a : Act} {w : World} (J : Array Bool → Act → World → Prop) (hm : P.follows .mixedOrders = true) (h0 : J (Array.replicate ops.size false) a { w with drawn := w.drawn + 1 })
    (hstep : ∀ listed a w, J listed a w → ∀ i ∈ Region.ready .any ops listed, wpOp P ops Q i (J (listed.setIfInBounds i true)) a w) (hend : ∀ listed a w, J listed a w → Region.ready .any ops listed = [] → Q .normal a w) : (Code.region id ops true).wp P Q a w :=
  wp_region_any hm (any_inv J hstep hend _ _ _ _ (Nat.le_trans (List.length_filter_le _ _) (by simp)) h0)
/-- Every operation waits for earlier ones only: none may come up, so all are done. -/
theorem all_listed {listed : Array Bool} (hs : listed.size = ops.size) (hlow : ((List.range ops.size).all fun j => ((ops[j]?).map fun o => o.after.toList.all fun e => decide (e.on < j)).getD true) = true) (hr : Region.ready .any ops listed = []) (j : Nat) : j < ops.size → listed.getD j false = true := by
  induction j using Nat.strongRecOn with
  | ind j ih =>
    intro hj
    have hlt : j < listed.size := by omega
    cases hv : listed.getD j true with
    | true => simpa [Array.getD, hlt] using hv
    | false =>
      exfalso
      have hm : j ∈ Region.ready .any ops listed := by
        refine mem_ready.2 ⟨hv, ops[j], Array.getElem?_eq_getElem hj, fun e he _ => ?_⟩
        have h1 := List.all_eq_true.1 hlow j (List.mem_range.2 hj)
        rw [Array.getElem?_eq_getElem hj] at h1
        simp only [Option.map_some, Option.getD_some] at h1
        have h2 := of_decide_eq_true (List.all_eq_true.1 h1 e (by simpa using he))
        exact ih e.on h2 (by omega)
      rw [hr] at hm
      cases hm
theorem listed_same {listed : Array Bool} {i : Nat} (h : i < listed.size) : (listed.setIfInBounds i true).getD i false = true := by simp [Array.getD, h]
theorem listed_other {listed : Array Bool} {i j : Nat} (h : i ≠ j) : (listed.setIfInBounds i true).getD j false = listed.getD j false := getD_set_ne false h
end
end Go.Proofs.Ythdnfocemchgjaa
