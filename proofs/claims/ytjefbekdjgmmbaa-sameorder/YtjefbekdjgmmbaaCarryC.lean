/-
  Package carry: objects by their numbers.
-/
import Derived.Test.YtjefbekdjgmmbaaCarryN
import Derived.Test.YtjefbekdjgmmbaaBackM
namespace Go.Proofs.Ytjefbekdjgmmbaa
open Go.RowKit

/-- The word of an object, by its number; -1 names none. -/
def atI (zs : List Int) (j : Int) : Int := if j < 0 then -1 else (st zs j.toNat : Int)
/-- A number of an object, or -1; of an object. -/
def InR (zs : List Int) (j : Int) : Prop := j = -1 ∨ (0 ≤ j ∧ j < (begins zs 0).length)
def AllIn (zs l : List Int) : Prop := ∀ x ∈ l, 0 ≤ x ∧ x < (begins zs 0).length
section
variable {zs l m : List Int} {x y : Int} {k : Nat}
theorem atI_null : atI zs (-1) = -1 := rfl
theorem atI_nat : atI zs (k : Int) = st zs k := by unfold atI; rw [if_neg (by omega), Int.toNat_natCast]
theorem atI_pos (h : 0 ≤ x) : atI zs x = st zs x.toNat := by unfold atI; rw [if_neg (by omega)]
theorem atI_neg (hx : InR zs x) : atI zs x < 0 ↔ x < 0 := by
  rcases hx with rfl | ⟨h1, _⟩
  · simp [atI_null]
  · rw [atI_pos h1]; omega
theorem atI_inj (hx : InR zs x) (hy : InR zs y) (h : atI zs x = atI zs y) : x = y := by
  have n1 := atI_neg hx
  have n2 := atI_neg hy
  rcases hx with rfl | ⟨h1, h2⟩ <;> rcases hy with rfl | ⟨h3, h4⟩
  · rfl
  · omega
  · omega
  · rw [atI_pos h1, atI_pos h3] at h
    have := st_inj (zs := zs) (i := x.toNat) (j := y.toNat) (by omega) (by omega) (by omega)
    omega
theorem AllIn.inR (h : AllIn zs l) : ∀ x ∈ l, InR zs x := fun x hx => .inr (h x hx)
theorem InR.wf (h : InR zs x) (hl : zs.length ≤ 256) : (Lit.int .i64 x).wf = true := by
  have := begins_len (zs := zs) (a := 0)
  refine wf_i64.2 ?_
  rcases h with rfl | h <;> omega
theorem at_mem (hl : ∀ x ∈ l, InR zs x) (hy : InR zs y) : atI zs y ∈ l.map (atI zs) ↔ y ∈ l := by
  rw [List.mem_map]
  constructor
  · rintro ⟨x, hx, e⟩
    rw [← atI_inj (hl x hx) hy e]; exact hx
  · exact fun h => ⟨y, h, rfl⟩
theorem at_add (hl : AllIn zs l) (hy : InR zs y) : (addN l y).map (atI zs) = addN (l.map (atI zs)) (atI zs y) := by
  have h1 := atI_neg hy
  have h2 := at_mem hl.inR hy
  unfold addN
  by_cases hc : y < 0 ∨ y ∈ l
  · rw [if_pos hc, if_pos (by rw [h1, h2]; exact hc)]
  · rw [if_neg hc, if_neg (by rw [h1, h2]; exact hc), List.map_append]; rfl
theorem AllIn.add (hl : AllIn zs l) (hy : InR zs y) : AllIn zs (addN l y) := fun x hx => by
  rcases addN_mem.1 hx with h | ⟨rfl, h⟩
  · exact hl x h
  · rcases hy with rfl | hy
    · omega
    · exact hy
theorem AllIn.nil : AllIn zs [] := fun x hx => by cases hx
theorem idxOf_map_inj {f : Int → Int} : ∀ {l : List Int}, (∀ x ∈ l, f x = f y → x = y) → (l.map f).idxOf (f y) = l.idxOf y
  | [], _ => rfl
  | a :: l, h => by
    rw [List.map_cons, List.idxOf_cons, List.idxOf_cons, idxOf_map_inj fun x hx => h x (List.mem_cons_of_mem _ hx)]
    by_cases e : a = y
    · subst e; simp only [beq_self_eq_true]
    · have : f a ≠ f y := fun e2 => e (h a List.mem_cons_self e2)
      rw [beq_false_of_ne e, beq_false_of_ne this]
theorem at_plI (hl : AllIn zs l) (hy : InR zs y) : plI (l.map (atI zs)) (atI zs y) = plI l y := by
  unfold plI
  have h2 := at_mem hl.inR hy
  by_cases hc : y ∈ l
  · rw [if_pos hc, if_pos (h2.2 hc), idxOf_map_inj fun x hx => atI_inj (hl.inR x hx) hy]
  · rw [if_neg hc, if_neg (fun h => hc (h2.1 h))]
theorem AllIn.len (hl : AllIn zs l) (hn : l.Nodup) : l.length ≤ (begins zs 0).length := by
  have h2 := sub_length hn (L := (List.range (begins zs 0).length).map fun k : Nat => (k : Int)) (fun x hx => by
    have := hl x hx
    exact List.mem_map.2 ⟨x.toNat, List.mem_range.2 (by omega), by omega⟩)
  simpa using h2
theorem AllIn.atIn (hl : AllIn zs l) (hk : k < l.length) : ∃ j : Nat, nth l k = j ∧ j < (begins zs 0).length := by
  have := hl _ (nth_mem hk)
  exact ⟨(nth l k).toNat, by omega, by omega⟩
theorem nth_at (hk : k < l.length) : nth (l.map (atI zs)) k = atI zs (nth l k) := by
  rw [nth_get _ _ (by simpa using hk), nth_get _ _ hk]; simp
/-- The references of an object, by their numbers. -/
def refsX (zs : List Int) (s : Nat) : List Int := (refWords zs s).map fun v => (ixOf zs v).getD 0
theorem refs_at (hz : ∀ z ∈ zs, (Lit.int .u64 z).wf = true) (h : arErr zs = 0) {s : Nat} (hs : (s : Int) ∈ livesI zs) : (refsX zs s).map (atI zs) = named zs s ∧ ∀ r ∈ refsX zs s, InR zs r := by
  have key : ∀ v ∈ refWords zs s, InR zs ((ixOf zs v).getD 0) ∧ atI zs ((ixOf zs v).getD 0) = nm v := by
    intro v hv
    obtain ⟨k, hk, rfl⟩ := List.getElem_of_mem hv
    have h1 := refs_named hz h hs hk
    rw [nth_get _ _ hk] at h1
    generalize (refWords zs s)[k] = v at *
    rcases h1 with rfl | ⟨h1, h2, h3⟩
    · rw [ixOf_null]; exact ⟨.inl rfl, rfl⟩
    · obtain ⟨t, ht, hf, e⟩ := lives_mem.1 h3
      obtain ⟨j, hj, rfl⟩ := mem_begins ht
      have h4 := ixOf_hit hj hf
      rw [← e, show v - 1 + 1 = v by omega] at h4
      rw [h4]
      refine ⟨.inr ⟨by simp, by simpa using hj⟩, ?_⟩
      show atI zs (j : Int) = _
      rw [atI_nat]
      unfold nm
      rw [if_neg (by omega)]
      exact e.symm
  constructor
  · unfold refsX named
    rw [List.map_map]
    exact List.map_congr_left fun v hv => (key v hv).2
  · intro r hr
    obtain ⟨v, hv, rfl⟩ := List.mem_map.1 hr
    exact (key v hv).1
theorem refsX_len {s : Nat} : (refsX zs s).length = (named zs s).length := by unfold refsX named; simp
/-- The map of places. -/
def plF (ord : List Int) (y : Int) : Option Int := if y = -1 ∨ y ∈ ord then some (plI ord y) else none
theorem plF_nil : plF [] = put (fun _ => none) (-1) (-1) := by
  funext y
  unfold plF put plI
  by_cases h : y = -1
  · subst h; rfl
  · rw [if_neg (by simp [h]), if_neg h]
theorem plF_snoc (h1 : y ≠ -1) (h2 : y ∉ l) : plF (l ++ [y]) = put (plF l) y l.length := by
  funext x
  show plF (l ++ [y]) x = if x = y then some (l.length : Int) else plF l x
  have hp : ∀ z, z ∈ l ++ [y] ↔ z ∈ l ∨ z = y := fun z => by simp
  unfold plF plI
  by_cases e : x = y
  · subst e
    rw [if_pos (.inr ((hp x).2 (.inr rfl))), if_pos rfl, if_pos ((hp x).2 (.inr rfl)), List.idxOf_append, if_neg h2, List.idxOf_cons_self, Nat.zero_add]
  · rw [if_neg e]
    by_cases h3 : x ∈ l
    · rw [if_pos (show x = -1 ∨ x ∈ l ++ [y] from .inr ((hp x).2 (.inl h3))), if_pos (show x ∈ l ++ [y] from (hp x).2 (.inl h3)), if_pos (show x = -1 ∨ x ∈ l from .inr h3), if_pos h3, List.idxOf_append, if_pos h3]
    · have h4 : x ∉ l ++ [y] := fun h => ((hp x).1 h).elim h3 e
      rw [if_neg h4, if_neg h3]
      by_cases h5 : x = -1
      · rw [if_pos (.inl h5), if_pos (.inl h5)]
      · rw [if_neg (fun h => h.elim h5 h4), if_neg (fun h => h.elim h5 h3)]
theorem plF_isSome : (plF l y).isSome = decide (y = -1 ∨ y ∈ l) := by
  unfold plF
  split <;> simp_all
theorem plF_ref (hy : y = -1 ∨ y ∈ l) : (plF l y).getD 0 = plI l y := by unfold plF; rw [if_pos hy]; rfl
/-- The numbers of the words at which objects start. -/
def numTo (zs : List Int) : Nat → Int → Option Int
  | 0 => fun _ => none
  | i + 1 => put (numTo zs i) (st zs i) i
theorem numTo_hit : ∀ {i j : Nat}, j < i → i ≤ (begins zs 0).length → numTo zs i (st zs j) = some (j : Int)
  | 0, j, h, _ => absurd h (by omega)
  | i + 1, j, h, hi => by
    show put _ _ _ _ = _
    by_cases e : j = i
    · subst e; exact put_same _ _ _
    · rw [put_other _ (fun e2 => e (st_inj (zs := zs) (by omega) (by omega) (by omega)))]
      exact numTo_hit (by omega) (by omega)
theorem numTo_live (hx : x ∈ livesI zs) : ∃ j : Nat, numTo zs (begins zs 0).length x = some (j : Int) ∧ j < (begins zs 0).length ∧ (st zs j : Int) = x := by
  obtain ⟨s, hs, _, rfl⟩ := lives_mem.1 hx
  obtain ⟨j, hj, rfl⟩ := mem_begins hs
  exact ⟨j, numTo_hit hj (Nat.le_refl _), hj, rfl⟩
/-- The descriptions by numbers are those by words. -/
def obX (zs ord : List Int) (j : Int) : Ob := (vT (nth zs (st zs j.toNat)), (refsX zs (st zs j.toNat)).map (plI ord), bodyWords zs (st zs j.toNat), false)
theorem obX_obC (hz : ∀ z ∈ zs, (Lit.int .u64 z).wf = true) (h : arErr zs = 0) (ho : AllIn zs l) (hx : 0 ≤ x) (hs : atI zs x ∈ livesI zs) : obX zs l x = obC zs (l.map (atI zs)) (atI zs x) := by
  rw [atI_pos hx] at *
  obtain ⟨h1, h2⟩ := refs_at hz h hs
  unfold obX obC
  rw [Int.toNat_natCast, ← h1, List.map_map]
  congr 2
  exact List.map_congr_left fun r hr => (at_plI ho (h2 r hr)).symm
theorem obsX_obsC (hz : ∀ z ∈ zs, (Lit.int .u64 z).wf = true) (h : arErr zs = 0) (ho : AllIn zs l) (hs : ∀ x ∈ l, atI zs x ∈ livesI zs) : l.map (obX zs l) = obsC zs (l.map (atI zs)) := by
  unfold obsC
  rw [List.map_map]
  exact List.map_congr_left fun x hx => obX_obC hz h ho (ho x hx).1 (hs x hx)
end
/-- Where the copies begin. -/
theorem copy_begins {zs l : List Int} {n : Nat} (hz : ∀ z ∈ zs, (Lit.int .u64 z).wf = true) (hl : ∀ x ∈ l, x ∈ livesI zs) (hn : n ≤ 256) (ht : tkL zs l ≤ n) :
    spErr (layWords (obsC zs l) n) = 0 ∧ l.length ≤ (begins (layWords (obsC zs l) n) 0).length ∧ ∀ i, i < l.length → st (layWords (obsC zs l) n) i = tkL zs (l.take i) := by
  have hlen := copyL_len hz hl ht
  have h0 := obsC_lay hz hl hn ht
  have hp := (lay_zero h0).2.1
  obtain ⟨h1, h2, h3⟩ := begins_all (f := pMap (obsC zs l) n (obsC zs l).length) (lay_faults hn hp)
  have hL : l.length ≤ (layObs (obsC zs l) n).length := by unfold layObs; rw [List.length_append, obsC_len]; omega
  refine ⟨?_, by unfold layWords; rw [h1]; exact hL, fun i hi => ?_⟩
  · unfold spErr
    rw [if_neg (by rw [hlen]; omega), if_pos (by unfold layWords; exact h2)]
  · unfold layWords
    rw [h3 i (by omega), lay_offs (by rw [obsC_len]; omega)]
    exact obsC_offs hz hl i (by omega)
/-- Copies that don't fit. -/
theorem copy_full {zs l : List Int} {n : Nat} (hz : ∀ z ∈ zs, (Lit.int .u64 z).wf = true) (hl : ∀ x ∈ l, x ∈ livesI zs) (hn : n ≤ 256) (ht : n < tkL zs l) : layErr (obsC zs l) n = 7 := by
  have hof := obsC_offs hz hl l.length (Nat.le_refl _)
  rw [List.take_length] at hof
  have hp := pErr_full (os := obsC zs l) (n := n) (obsC_fault hz hl) (by rw [obsC_len, hof]; exact ht)
  rw [layErr_place hn (by rw [hp]; decide), hp]
end Go.Proofs.Ytjefbekdjgmmbaa
