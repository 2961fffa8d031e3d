/-
  What package carry's functions answer ('OrderC', 'CopyC': to be proved of the code that lands).
-/
import Derived.Test.YtjefbekdjgmmbaaCarryM
import Derived.Test.YtjefbekdjgmmbaaRefLaid
namespace Go.Proofs.Ytjefbekdjgmmbaa
open Go.RowKit

/-- The error of Copy. -/
def copyE (zs fr : List Int) (n : Int) : Int := if fromE zs fr ≠ 0 then fromE zs fr else if n < 0 ∨ 256 < n then 4 else if n < takesN zs fr then 7 else 0
/-- What Order, Copy answer. -/
def orderO (zs fr : List Int) : List Int := if fromE zs fr = 0 then camL zs fr else []
def copyL (zs fr : List Int) (n : Nat) : List Int := layWords (obsC zs (camL zs fr)) n
def copyB (zs fr : List Int) (n : Int) : List Int := if copyE zs fr n = 0 then copyL zs fr n.toNat else []
def copyO (zs fr : List Int) (n : Int) : List Int := if copyE zs fr n = 0 then camL zs fr else []
def copyT (zs fr : List Int) (n : Int) : List Int := if copyE zs fr n = 0 then begC zs (camL zs fr) else []
def OrderP (zs fr : List Int) (w : World) (e : Ending) (w' : World) : Prop := ∃ A k c, e = .returned (.tuple #[.slice A k c, .int .i64 (fromE zs fr)]) ∧ Below w.heap.size w w' ∧ k ≤ c ∧ Arr .i64 w' w'.heap.size A k (orderO zs fr)
def CopyP (zs fr : List Int) (n : Int) (w : World) (e : Ending) (w' : World) : Prop := ∃ B m c O p oc D q dc, e = .returned (.tuple #[.slice B m c, .slice O p oc, .slice D q dc, .int .i64 (copyE zs fr n)]) ∧ Below w.heap.size w w' ∧ m ≤ c ∧ p ≤ oc ∧ q ≤ dc ∧
  Arr .u64 w' w'.heap.size B m (copyB zs fr n) ∧ Arr .i64 w' w'.heap.size O p (copyO zs fr n) ∧ Arr .i64 w' w'.heap.size D q (copyT zs fr n) ∧
  SpareI .u64 47 w.heap.size w' B c ∧ SpareI .i64 3 w.heap.size w' O oc ∧ SpareI .i64 3 w.heap.size w' D dc
/-- The contracts. -/
def OrderC : Prop := ∀ (A F : Option Addr) (n c nf cf : Nat) (zs fr : List Int) (w : World), n ≤ maxLen → n ≤ c → Arr .u64 w w.heap.size A n zs → nf * 8 ≤ 140737488351232 → Arr .i64 w w.heap.size F nf fr →
  Calls Try.prog 33 #[.slice A n c, .slice F nf cf] w (OrderP zs fr w)
def CopyC : Prop := ∀ (A F : Option Addr) (n c nf cf : Nat) (k : Int) (zs fr : List Int) (w : World), n ≤ maxLen → n ≤ c → Arr .u64 w w.heap.size A n zs → nf * 8 ≤ 140737488351232 → Arr .i64 w w.heap.size F nf fr → (Lit.int .i64 k).wf = true →
  Calls Try.prog 25 #[.slice A n c, .slice F nf cf, .int .i64 k] w (CopyP zs fr k w)

section
variable {zs fr : List Int} {n : Int}
theorem copyE_from (h : fromE zs fr ≠ 0) : copyE zs fr n = fromE zs fr := if_pos h
theorem copyE_range (h : fromE zs fr = 0) (hn : n < 0 ∨ 256 < n) : copyE zs fr n = 4 := by unfold copyE; rw [if_neg (by simp [h]), if_pos hn]
theorem copyE_full (h : fromE zs fr = 0) (hn : ¬ (n < 0 ∨ 256 < n)) (ht : n < takesN zs fr) : copyE zs fr n = 7 := by unfold copyE; rw [if_neg (by simp [h]), if_neg hn, if_pos ht]
theorem copyE_ok (h : fromE zs fr = 0) (hn : ¬ (n < 0 ∨ 256 < n)) (ht : ¬ n < takesN zs fr) : copyE zs fr n = 0 := by unfold copyE; rw [if_neg (by simp [h]), if_neg hn, if_neg ht]
theorem copyB_bad (h : copyE zs fr n ≠ 0) : copyB zs fr n = [] := if_neg h
theorem copyO_bad (h : copyE zs fr n ≠ 0) : copyO zs fr n = [] := if_neg h
theorem copyT_bad (h : copyE zs fr n ≠ 0) : copyT zs fr n = [] := if_neg h
theorem copyB_ok (h : copyE zs fr n = 0) : copyB zs fr n = copyL zs fr n.toNat := if_pos h
theorem copyO_ok (h : copyE zs fr n = 0) : copyO zs fr n = camL zs fr := if_pos h
theorem copyT_ok (h : copyE zs fr n = 0) : copyT zs fr n = begC zs (camL zs fr) := if_pos h
theorem orderO_bad (h : fromE zs fr ≠ 0) : orderO zs fr = [] := if_neg h
theorem orderO_ok (h : fromE zs fr = 0) : orderO zs fr = camL zs fr := if_pos h
end
/-- Laid words are as many as are asked for. -/
theorem layWords_len {os : List Ob} {n : Nat} (h : offs os os.length ≤ n) : (layWords os n).length = n := by
  unfold layWords layObs
  rw [flat_words_len, List.map_append, List.sum_append]
  have e : (os.map oLong).sum = offs os os.length := by unfold offs; rw [List.take_length]
  rw [e]
  unfold restObs
  split
  · simp; omega
  · simp [oLong]; omega
/-- The descriptions are right. -/
theorem obC_ok {zs l : List Int} {x : Int} (hz : ∀ z ∈ zs, (Lit.int .u64 z).wf = true) (hx : x ∈ livesI zs) : oFault (obC zs l x) = 0 ∧ oLong (obC zs l x) = longN zs x.toNat ∧ (obC zs l x).2.1.length = (named zs x.toNat).length ∧ (obC zs l x).2.2.1.length = (bodyWords zs x.toNat).length := by
  obtain ⟨s, hs, hf, rfl⟩ := lives_mem.1 hx
  obtain ⟨_, hsl, hst⟩ := begins_mem hs
  obtain ⟨R, Bd, hR, hBd, f1, f2, f3, f4, f5, f6, f7, f8⟩ := spot_facts hst hz hsl
  have hrl := refWords_len hst
  have hbl := bodyWords_len hst
  rw [hR] at hrl
  rw [hBd] at hbl
  simp only [Int.toNat_natCast] at hrl hbl
  rw [hf] at f6
  have hnl : (named zs s).length = R := by unfold named; rw [List.length_map]; exact hrl
  unfold obC oFault oLong
  simp only [Int.toNat_natCast, List.length_map, hnl, hbl]
  exact ⟨f6, f7.symm, trivial, trivial⟩
section
variable {zs l : List Int} (hz : ∀ z ∈ zs, (Lit.int .u64 z).wf = true) (hl : ∀ x ∈ l, x ∈ livesI zs)
include hz hl
theorem obsC_fault : fault (obsC zs l) = 0 := fault_ok fun j hj => by
  rw [obsC_len] at hj
  rw [obsC_nth hj]
  exact (obC_ok hz (hl _ (nth_mem hj))).1
theorem obsC_offs : ∀ i, i ≤ l.length → offs (obsC zs l) i = tkL zs (l.take i)
  | 0, _ => by rw [List.take_zero]; rfl
  | i + 1, hi => by
    rw [offs_step (by rw [obsC_len]; omega), obsC_offs i (by omega), tkL_next (by omega), obsC_nth (by omega), (obC_ok hz (hl _ (nth_mem (by omega)))).2.1]
theorem copyL_len {n : Nat} (ht : tkL zs l ≤ n) : (layWords (obsC zs l) n).length = n := by
  have hof := obsC_offs hz hl l.length (Nat.le_refl _)
  rw [List.take_length] at hof
  exact layWords_len (by rw [obsC_len, hof]; exact ht)
/-- Laid, they fit. -/
theorem obsC_lay {n : Nat} (hn : n ≤ 256) (ht : tkL zs l ≤ n) : layErr (obsC zs l) n = 0 := by
  have hof := obsC_offs hz hl l.length (Nat.le_refl _)
  rw [List.take_length] at hof
  have htot : offs (obsC zs l) (obsC zs l).length ≤ n := by rw [obsC_len, hof]; exact ht
  have hp := pErr_ok (obsC_fault hz hl) htot
  refine layErr_fit hn hp ?_
  rw [List.all_eq_true]
  intro o ho
  obtain ⟨x, hx, rfl⟩ := List.mem_map.1 ho
  unfold refsFit
  rw [List.all_eq_true]
  intro r hr
  obtain ⟨y, hy, rfl⟩ := List.mem_map.1 hr
  by_cases hin : y ∈ l
  · obtain ⟨k, e, hk, _⟩ := plI_in hin
    rw [e, pMap_hit _ htot (Nat.le_refl _) (by rw [obsC_len]; exact hk) (by rw [obsC_nth hk]; rfl)]
    rfl
  · rw [plI_out hin, pMap_null]; rfl
end
end Go.Proofs.Ytjefbekdjgmmbaa
