/-
  Parts of the proof of CarrySlides: CarryN, CarryC, SameC, SameG, SameN, CarryV, CarryW, CarryD, CarryE, CarryOW, SameD, SameF, SameH.
-/
import Derived.StillTailTactics
import Derived.Test.YtjefbekdjgmmbaaCarrySlidesAn
import Derived.Test.YtjefbekdjgmmbaaCarrySlidesAp
namespace Go.Proofs.Ytjefbekdjgmmbaa
open Go.RowKit
/-- The error of Copy. -/
def copyE (zs fr : List Int) (n : Int) : Int := if fromE zs fr ≠ 0 then fromE zs fr else if n < 0 ∨ 256 < n then 4 else if n < takesN zs fr then 7 else 0
/-- What Order, Copy answer. -/
def orderO (zs fr : List Int) : List Int := if fromE zs fr = 0 then camL zs fr else []
def copyL (zs fr : List Int) (n : Nat) : List Int := layWords (obsC zs (camL zs fr)) n
def copyB (zs fr : List Int) (n : Int) : List Int := if copyE zs fr n = 0 then copyL zs fr n.toNat else []
def copyO (zs fr : List Int) (n : Int) : List Int := if copyE zs fr n = 0 then camL zs fr else []
def copyT (zs fr : List Int) (n : Int) : List Int := if copyE zs fr n = 0 then begC zs (camL zs fr) else []
def OrderP (zs fr : List Int) (w : World) (e : Ending) (w' : World) : Prop := ∃ A k c, e = .returned (.tuple #[.slice A k c, .int .i64 (fromE zs fr)]) ∧ Below w.heap.size w w' ∧ k ≤ c ∧ Arr .i64 w' w'.heap.size A k (orderO zs fr)
def CopyP (zs fr : List Int) (n : Int) (w : World) (e : Ending) (w' : World) : Prop := ∃ B m c O p oc D q dc, e = .returned (.tuple #[.slice B m c, .slice O p oc, .slice D q dc, .int .i64 (copyE zs fr n)]) ∧ Below w.heap.size w w' ∧ m ≤ c ∧ p ≤ oc ∧ q ≤ dc ∧
  Arr .u64 w' w'.heap.size B m (copyB zs fr n) ∧ Arr .i64 w' w'.heap.size O p (copyO zs fr n) ∧ Arr .i64 w' w'.heap.size D q (copyT zs fr n) ∧
  SpareI .u64 47 w.heap.size w' B c ∧ SpareI .i64 3 w.heap.size w' O oc ∧ SpareI .i64 3 w.heap.size w' D dc
/-- The contracts. -/
def OrderC : Prop := ∀ (A F : Option Addr) (n c nf cf : Nat) (zs fr : List Int) (w : World), n ≤ maxLen → n ≤ c → Arr .u64 w w.heap.size A n zs → nf * 8 ≤ 140737488351232 → Arr .i64 w w.heap.size F nf fr →
  Calls Try.prog 33 #[.slice A n c, .slice F nf cf] w (OrderP zs fr w)
def CopyC : Prop := ∀ (A F : Option Addr) (n c nf cf : Nat) (k : Int) (zs fr : List Int) (w : World), n ≤ maxLen → n ≤ c → Arr .u64 w w.heap.size A n zs → nf * 8 ≤ 140737488351232 → Arr .i64 w w.heap.size F nf fr → (Lit.int .i64 k).wf = true →
  Calls Try.prog 25 #[.slice A n c, .slice F nf cf, .int .i64 k] w (CopyP zs fr k w)
section
variable {zs fr : List Int} {n : Int}
theorem copyE_from (h : fromE zs fr ≠ 0) : copyE zs fr n = fromE zs fr := if_pos h
theorem copyE_range (h : fromE zs fr = 0) (hn : n < 0 ∨ 256 < n) : copyE zs fr n = 4 := by unfold copyE; rw [if_neg (by simp [h]), if_pos hn]
theorem copyE_full (h : fromE zs fr = 0) (hn : ¬ (n < 0 ∨ 256 < n)) (ht : n < takesN zs fr) : copyE zs fr n = 7 := by unfold copyE; rw [if_neg (by simp [h]), if_neg hn, if_pos ht]
theorem copyE_ok (h : fromE zs fr = 0) (hn : ¬ (n < 0 ∨ 256 < n)) (ht : ¬ n < takesN zs fr) : copyE zs fr n = 0 := by unfold copyE; rw [if_neg (by simp [h]), if_neg hn, if_neg ht]
theorem copyB_bad (h : copyE zs fr n ≠ 0) : copyB zs fr n = [] := if_neg h
theorem copyO_bad (h : copyE zs fr n ≠ 0) : copyO zs fr n = [] := if_neg h
theorem copyT_bad (h : copyE zs fr n ≠ 0) : copyT zs fr n = [] := if_neg h
theorem copyB_ok (h : copyE zs fr n = 0) : copyB zs fr n = copyL zs fr n.toNat := if_pos h
theorem copyO_ok (h : copyE zs fr n = 0) : copyO zs fr n = camL zs fr := if_pos h
theorem copyT_ok (h : copyE zs fr n = 0) : copyT zs fr n = begC zs (camL zs fr) := if_pos h
theorem orderO_bad (h : fromE zs fr ≠ 0) : orderO zs fr = [] := if_neg h
theorem orderO_ok (h : fromE zs fr = 0) : orderO zs fr = camL zs fr := if_pos h
end
/-- Laid words are as many as are asked for. -/
theorem layWords_len {os : List Ob} {n : Nat} (h : offs os os.length ≤ n) : (layWords os n).length = n := by
  unfold layWords layObs
  rw [flat_words_len, List.map_append, List.sum_append]
  have e : (os.map oLong).sum = offs os os.length := by unfold offs; rw [List.take_length]
  rw [e]
  unfold restObs
  split
  · simp; omega
  · simp [oLong]; omega
/-- The descriptions are right. -/
theorem obC_ok {zs l : List Int} {x : Int} (hz : ∀ z ∈ zs, (Lit.int .u64 z).wf = true) (hx : x ∈ livesI zs) : oFault (obC zs l x) = 0 ∧ oLong (obC zs l x) = longN zs x.toNat ∧ (obC zs l x).2.1.length = (named zs x.toNat).length ∧ (obC zs l x).2.2.1.length = (bodyWords zs x.toNat).length := by
  obtain ⟨s, hs, hf, rfl⟩ := lives_mem.1 hx
  obtain ⟨_, hsl, hst⟩ := begins_mem hs
  obtain ⟨R, Bd, hR, hBd, f1, f2, f3, f4, f5, f6, f7, f8⟩ := spot_facts hst hz hsl
  have hrl := refWords_len hst
  have hbl := bodyWords_len hst
  rw [hR] at hrl
  rw [hBd] at hbl
  simp only [Int.toNat_natCast] at hrl hbl
  rw [hf] at f6
  have hnl : (named zs s).length = R := by unfold named; rw [List.length_map]; exact hrl
  unfold obC oFault oLong
  simp only [Int.toNat_natCast, List.length_map, hnl, hbl]
  exact ⟨f6, f7.symm, trivial, trivial⟩
section
variable {zs l : List Int} (hz : ∀ z ∈ zs, (Lit.int .u64 z).wf = true) (hl : ∀ x ∈ l, x ∈ livesI zs)
include hz hl
theorem obsC_fault : fault (obsC zs l) = 0 := fault_ok fun j hj => by
  rw [obsC_len] at hj
  rw [obsC_nth hj]
  exact (obC_ok hz (hl _ (nth_mem hj))).1
theorem obsC_offs : ∀ i, i ≤ l.length → offs (obsC zs l) i = tkL zs (l.take i)
  | 0, _ => by rw [List.take_zero]; rfl
  | i + 1, hi => by
    rw [offs_step (by rw [obsC_len]; omega), obsC_offs i (by omega), tkL_next (by omega), obsC_nth (by omega), (obC_ok hz (hl _ (nth_mem (by omega)))).2.1]
theorem copyL_len {n : Nat} (ht : tkL zs l ≤ n) : (layWords (obsC zs l) n).length = n := by
  have hof := obsC_offs hz hl l.length (Nat.le_refl _)
  rw [List.take_length] at hof
  exact layWords_len (by rw [obsC_len, hof]; exact ht)
/-- Laid, they fit. -/
theorem obsC_lay {n : Nat} (hn : n ≤ 256) (ht : tkL zs l ≤ n) : layErr (obsC zs l) n = 0 := by
  have hof := obsC_offs hz hl l.length (Nat.le_refl _)
  rw [List.take_length] at hof
  have htot : offs (obsC zs l) (obsC zs l).length ≤ n := by rw [obsC_len, hof]; exact ht
  have hp := pErr_ok (obsC_fault hz hl) htot
  refine layErr_fit hn hp ?_
  rw [List.all_eq_true]
  intro o ho
  obtain ⟨x, hx, rfl⟩ := List.mem_map.1 ho
  unfold refsFit
  rw [List.all_eq_true]
  intro r hr
  obtain ⟨y, hy, rfl⟩ := List.mem_map.1 hr
  by_cases hin : y ∈ l
  · obtain ⟨k, e, hk, _⟩ := plI_in hin
    rw [e, pMap_hit _ htot (Nat.le_refl _) (by rw [obsC_len]; exact hk) (by rw [obsC_nth hk]; rfl)]
    rfl
  · rw [plI_out hin, pMap_null]; rfl
end
end Go.Proofs.Ytjefbekdjgmmbaa
namespace Go.Proofs.Ytjefbekdjgmmbaa
open Go.RowKit
/-- The word of an object, by its number; -1 names none. -/
def atI (zs : List Int) (j : Int) : Int := if j < 0 then -1 else (st zs j.toNat : Int)
/-- A number of an object, or -1; of an object. -/
def InR (zs : List Int) (j : Int) : Prop := j = -1 ∨ (0 ≤ j ∧ j < (begins zs 0).length)
def AllIn (zs l : List Int) : Prop := ∀ x ∈ l, 0 ≤ x ∧ x < (begins zs 0).length
section
variable {zs l m : List Int} {x y : Int} {k : Nat}
theorem atI_null : atI zs (-1) = -1 := rfl
theorem atI_nat : atI zs (k : Int) = st zs k := by unfold atI; rw [if_neg (by omega), Int.toNat_natCast]
theorem atI_pos (h : 0 ≤ x) : atI zs x = st zs x.toNat := by unfold atI; rw [if_neg (by omega)]
theorem atI_neg (hx : InR zs x) : atI zs x < 0 ↔ x < 0 := by
  rcases hx with rfl | ⟨h1, _⟩
  · simp [atI_null]
  · rw [atI_pos h1]; omega
theorem atI_inj (hx : InR zs x) (hy : InR zs y) (h : atI zs x = atI zs y) : x = y := by
  have n1 := atI_neg hx
  have n2 := atI_neg hy
  rcases hx with rfl | ⟨h1, h2⟩ <;> rcases hy with rfl | ⟨h3, h4⟩
  · rfl
  · omega
  · omega
  · rw [atI_pos h1, atI_pos h3] at h
    have := st_inj (zs := zs) (i := x.toNat) (j := y.toNat) (by omega) (by omega) (by omega)
    omega
theorem AllIn.inR (h : AllIn zs l) : ∀ x ∈ l, InR zs x := fun x hx => .inr (h x hx)
theorem InR.wf (h : InR zs x) (hl : zs.length ≤ 256) : (Lit.int .i64 x).wf = true := by
  have := begins_len (zs := zs) (a := 0)
  refine wf_i64.2 ?_
  rcases h with rfl | h <;> omega
theorem at_mem (hl : ∀ x ∈ l, InR zs x) (hy : InR zs y) : atI zs y ∈ l.map (atI zs) ↔ y ∈ l := by
  rw [List.mem_map]
  constructor
  · rintro ⟨x, hx, e⟩
    rw [← atI_inj (hl x hx) hy e]; exact hx
  · exact fun h => ⟨y, h, rfl⟩
theorem at_add (hl : AllIn zs l) (hy : InR zs y) : (addN l y).map (atI zs) = addN (l.map (atI zs)) (atI zs y) := by
  have h1 := atI_neg hy
  have h2 := at_mem hl.inR hy
  unfold addN
  by_cases hc : y < 0 ∨ y ∈ l
  · rw [if_pos hc, if_pos (by rw [h1, h2]; exact hc)]
  · rw [if_neg hc, if_neg (by rw [h1, h2]; exact hc), List.map_append]; rfl
theorem AllIn.add (hl : AllIn zs l) (hy : InR zs y) : AllIn zs (addN l y) := fun x hx => by
  rcases addN_mem.1 hx with h | ⟨rfl, h⟩
  · exact hl x h
  · rcases hy with rfl | hy
    · omega
    · exact hy
theorem AllIn.nil : AllIn zs [] := fun x hx => by cases hx
theorem idxOf_map_inj {f : Int → Int} : ∀ {l : List Int}, (∀ x ∈ l, f x = f y → x = y) → (l.map f).idxOf (f y) = l.idxOf y
  | [], _ => rfl
  | a :: l, h => by
    rw [List.map_cons, List.idxOf_cons, List.idxOf_cons, idxOf_map_inj fun x hx => h x (List.mem_cons_of_mem _ hx)]
    by_cases e : a = y
    · subst e; simp only [beq_self_eq_true]
    · have : f a ≠ f y := fun e2 => e (h a List.mem_cons_self e2)
      rw [beq_false_of_ne e, beq_false_of_ne this]
theorem at_plI (hl : AllIn zs l) (hy : InR zs y) : plI (l.map (atI zs)) (atI zs y) = plI l y := by
  unfold plI
  have h2 := at_mem hl.inR hy
  by_cases hc : y ∈ l
  · rw [if_pos hc, if_pos (h2.2 hc), idxOf_map_inj fun x hx => atI_inj (hl.inR x hx) hy]
  · rw [if_neg hc, if_neg (fun h => hc (h2.1 h))]
theorem AllIn.len (hl : AllIn zs l) (hn : l.Nodup) : l.length ≤ (begins zs 0).length := by
  have h2 := sub_length hn (L := (List.range (begins zs 0).length).map fun k : Nat => (k : Int)) (fun x hx => by
    have := hl x hx
    exact List.mem_map.2 ⟨x.toNat, List.mem_range.2 (by omega), by omega⟩)
  simpa using h2
theorem AllIn.atIn (hl : AllIn zs l) (hk : k < l.length) : ∃ j : Nat, nth l k = j ∧ j < (begins zs 0).length := by
  have := hl _ (nth_mem hk)
  exact ⟨(nth l k).toNat, by omega, by omega⟩
theorem nth_at (hk : k < l.length) : nth (l.map (atI zs)) k = atI zs (nth l k) := by
  rw [nth_get _ _ (by simpa using hk), nth_get _ _ hk]; simp
/-- The references of an object, by their numbers. -/
def refsX (zs : List Int) (s : Nat) : List Int := (refWords zs s).map fun v => (ixOf zs v).getD 0
theorem refs_at (hz : ∀ z ∈ zs, (Lit.int .u64 z).wf = true) (h : arErr zs = 0) {s : Nat} (hs : (s : Int) ∈ livesI zs) : (refsX zs s).map (atI zs) = named zs s ∧ ∀ r ∈ refsX zs s, InR zs r := by
  have key : ∀ v ∈ refWords zs s, InR zs ((ixOf zs v).getD 0) ∧ atI zs ((ixOf zs v).getD 0) = nm v := by
    intro v hv
    obtain ⟨k, hk, rfl⟩ := List.getElem_of_mem hv
    have h1 := refs_named hz h hs hk
    rw [nth_get _ _ hk] at h1
    generalize (refWords zs s)[k] = v at *
    rcases h1 with rfl | ⟨h1, h2, h3⟩
    · rw [ixOf_null]; exact ⟨.inl rfl, rfl⟩
    · obtain ⟨t, ht, hf, e⟩ := lives_mem.1 h3
      obtain ⟨j, hj, rfl⟩ := mem_begins ht
      have h4 := ixOf_hit hj hf
      rw [← e, show v - 1 + 1 = v by omega] at h4
      rw [h4]
      refine ⟨.inr ⟨by simp, by simpa using hj⟩, ?_⟩
      show atI zs (j : Int) = _
      rw [atI_nat]
      unfold nm
      rw [if_neg (by omega)]
      exact e.symm
  constructor
  · unfold refsX named
    rw [List.map_map]
    exact List.map_congr_left fun v hv => (key v hv).2
  · intro r hr
    obtain ⟨v, hv, rfl⟩ := List.mem_map.1 hr
    exact (key v hv).1
/-- The map of places. -/
def plF (ord : List Int) (y : Int) : Option Int := if y = -1 ∨ y ∈ ord then some (plI ord y) else none
theorem plF_nil : plF [] = put (fun _ => none) (-1) (-1) := by
  funext y
  unfold plF put plI
  by_cases h : y = -1
  · subst h; rfl
  · rw [if_neg (by simp [h]), if_neg h]
theorem plF_snoc (h1 : y ≠ -1) (h2 : y ∉ l) : plF (l ++ [y]) = put (plF l) y l.length := by
  funext x
  show plF (l ++ [y]) x = if x = y then some (l.length : Int) else plF l x
  have hp : ∀ z, z ∈ l ++ [y] ↔ z ∈ l ∨ z = y := fun z => by simp
  unfold plF plI
  by_cases e : x = y
  · subst e
    rw [if_pos (.inr ((hp x).2 (.inr rfl))), if_pos rfl, if_pos ((hp x).2 (.inr rfl)), List.idxOf_append, if_neg h2, List.idxOf_cons_self, Nat.zero_add]
  · rw [if_neg e]
    by_cases h3 : x ∈ l
    · rw [if_pos (show x = -1 ∨ x ∈ l ++ [y] from .inr ((hp x).2 (.inl h3))), if_pos (show x ∈ l ++ [y] from (hp x).2 (.inl h3)), if_pos (show x = -1 ∨ x ∈ l from .inr h3), if_pos h3, List.idxOf_append, if_pos h3]
    · have h4 : x ∉ l ++ [y] := fun h => ((hp x).1 h).elim h3 e
      rw [if_neg h4, if_neg h3]
      by_cases h5 : x = -1
      · rw [if_pos (.inl h5), if_pos (.inl h5)]
      · rw [if_neg (fun h => h.elim h5 h4), if_neg (fun h => h.elim h5 h3)]
theorem plF_isSome : (plF l y).isSome = decide (y = -1 ∨ y ∈ l) := by
  unfold plF
  split <;> simp_all
theorem plF_ref (hy : y = -1 ∨ y ∈ l) : (plF l y).getD 0 = plI l y := by unfold plF; rw [if_pos hy]; rfl
/-- The numbers of the words at which objects start. -/
def numTo (zs : List Int) : Nat → Int → Option Int
  | 0 => fun _ => none
  | i + 1 => put (numTo zs i) (st zs i) i
theorem numTo_hit : ∀ {i j : Nat}, j < i → i ≤ (begins zs 0).length → numTo zs i (st zs j) = some (j : Int)
  | 0, j, h, _ => absurd h (by omega)
  | i + 1, j, h, hi => by
    show put _ _ _ _ = _
    by_cases e : j = i
    · subst e; exact put_same _ _ _
    · rw [put_other _ (fun e2 => e (st_inj (zs := zs) (by omega) (by omega) (by omega)))]
      exact numTo_hit (by omega) (by omega)
theorem numTo_live (hx : x ∈ livesI zs) : ∃ j : Nat, numTo zs (begins zs 0).length x = some (j : Int) ∧ j < (begins zs 0).length ∧ (st zs j : Int) = x := by
  obtain ⟨s, hs, _, rfl⟩ := lives_mem.1 hx
  obtain ⟨j, hj, rfl⟩ := mem_begins hs
  exact ⟨j, numTo_hit hj (Nat.le_refl _), hj, rfl⟩
/-- The descriptions by numbers are those by words. -/
def obX (zs ord : List Int) (j : Int) : Ob := (vT (nth zs (st zs j.toNat)), (refsX zs (st zs j.toNat)).map (plI ord), bodyWords zs (st zs j.toNat), false)
theorem obX_obC (hz : ∀ z ∈ zs, (Lit.int .u64 z).wf = true) (h : arErr zs = 0) (ho : AllIn zs l) (hx : 0 ≤ x) (hs : atI zs x ∈ livesI zs) : obX zs l x = obC zs (l.map (atI zs)) (atI zs x) := by
  rw [atI_pos hx] at *
  obtain ⟨h1, h2⟩ := refs_at hz h hs
  unfold obX obC
  rw [Int.toNat_natCast, ← h1, List.map_map]
  congr 2
  exact List.map_congr_left fun r hr => (at_plI ho (h2 r hr)).symm
theorem obsX_obsC (hz : ∀ z ∈ zs, (Lit.int .u64 z).wf = true) (h : arErr zs = 0) (ho : AllIn zs l) (hs : ∀ x ∈ l, atI zs x ∈ livesI zs) : l.map (obX zs l) = obsC zs (l.map (atI zs)) := by
  unfold obsC
  rw [List.map_map]
  exact List.map_congr_left fun x hx => obX_obC hz h ho (ho x hx).1 (hs x hx)
end
/-- Where the copies begin. -/
theorem copy_begins {zs l : List Int} {n : Nat} (hz : ∀ z ∈ zs, (Lit.int .u64 z).wf = true) (hl : ∀ x ∈ l, x ∈ livesI zs) (hn : n ≤ 256) (ht : tkL zs l ≤ n) :
    spErr (layWords (obsC zs l) n) = 0 ∧ l.length ≤ (begins (layWords (obsC zs l) n) 0).length ∧ ∀ i, i < l.length → st (layWords (obsC zs l) n) i = tkL zs (l.take i) := by
  have hlen := copyL_len hz hl ht
  have h0 := obsC_lay hz hl hn ht
  have hp := (lay_zero h0).2.1
  obtain ⟨h1, h2, h3⟩ := begins_all (f := pMap (obsC zs l) n (obsC zs l).length) (lay_faults hn hp)
  have hL : l.length ≤ (layObs (obsC zs l) n).length := by unfold layObs; rw [List.length_append, obsC_len]; omega
  refine ⟨?_, by unfold layWords; rw [h1]; exact hL, fun i hi => ?_⟩
  · unfold spErr
    rw [if_neg (by rw [hlen]; omega), if_pos (by unfold layWords; exact h2)]
  · unfold layWords
    rw [h3 i (by omega), lay_offs (by rw [obsC_len]; omega)]
    exact obsC_offs hz hl i (by omega)
/-- Copies that don't fit. -/
theorem copy_full {zs l : List Int} {n : Nat} (hz : ∀ z ∈ zs, (Lit.int .u64 z).wf = true) (hl : ∀ x ∈ l, x ∈ livesI zs) (hn : n ≤ 256) (ht : n < tkL zs l) : layErr (obsC zs l) n = 7 := by
  have hof := obsC_offs hz hl l.length (Nat.le_refl _)
  rw [List.take_length] at hof
  have hp := pErr_full (os := obsC zs l) (n := n) (obsC_fault hz hl) (by rw [obsC_len, hof]; exact ht)
  rw [layErr_place hn (by rw [hp]; decide), hp]
end Go.Proofs.Ytjefbekdjgmmbaa
namespace Go.Proofs.Ytjefbekdjgmmbaa
open Go.RowKit
section
variable {zs fr ps ks : List Int}
theorem PlanOk.slid_body (h : PlanOk zs ks ps) {i : Nat} (hi : i < ks.length) : bodyWords (slidL zs ks ps) (tn zs ks ps i) = bodyWords zs (kn ks i) := by
  obtain ⟨a1, a2, a3, a4, a5, a6, a7, a8⟩ := h.nat hi
  have hl : longN zs (kn ks i) = 1 + (vR (nth zs (kn ks i))).toNat + (vB (nth zs (kn ks i))).toNat := rfl
  have hlen := h.slid_len
  unfold bodyWords
  rw [h.slid_head hi]
  refine nth_ext (by rw [List.length_take, List.length_take, List.length_drop, List.length_drop, hlen]; omega) fun d hd => ?_
  rw [List.length_take] at hd
  have hdb : d < (vB (nth zs (kn ks i))).toNat := by omega
  have hn : ∀ (l : List Int) (a : Nat), nth ((l.drop a).take (vB (nth zs (kn ks i))).toNat) d = nth l (a + d) := fun l a => by
    generalize (vB (nth zs (kn ks i))).toNat = q at hdb
    unfold nth
    rw [List.getD_eq_getElem?_getD, List.getD_eq_getElem?_getD, List.getElem?_take, if_pos hdb, List.getElem?_drop]
  rw [hn, hn]
  have e1 := h.slid_obj hi (d := 1 + (vR (nth zs (kn ks i))).toNat + d) (by omega)
  unfold objW at e1
  rw [if_neg (by omega)] at e1
  rw [show tn zs ks ps i + 1 + (vR (nth zs (kn ks i))).toNat + d = tn zs ks ps i + (1 + (vR (nth zs (kn ks i))).toNat + d) by omega, e1]
  congr 1
  omega
theorem CleanOk.iso (hz : ∀ z ∈ zs, (Lit.int .u64 z).wf = true) (h : CleanOk zs fr ps) : Iso zs (slidL zs (keepL zs fr ps) ps) (fr ++ ps) (trI zs (keepL zs fr ps) ps) := by
  have hk : ∀ x ∈ camL zs (fr ++ ps), ∃ i, i < (keepL zs fr ps).length ∧ nth (keepL zs fr ps) i = x := fun x hx => by
    obtain ⟨i, hi, e⟩ := List.getElem_of_mem (show x ∈ keepL zs fr ps from (camL_mem hz h.from_).1 hx)
    exact ⟨i, hi, (nth_get _ _ hi).trans e⟩
  have hto : ∀ {i}, i < (keepL zs fr ps).length → (trI zs (keepL zs fr ps) ps (nth (keepL zs fr ps) i)).toNat = tn zs (keepL zs fr ps) ps i := fun hi => by rw [h.ok.tr_to hi]; rfl
  refine ⟨fun y hy => ?_, fun x hx => ?_, fun x hx y hy e => ?_, fun x hx => ?_, fun x hx => ?_, fun x hx => ?_⟩
  · unfold trI; rw [if_pos hy]; exact hy
  · obtain ⟨i, hi, rfl⟩ := hk x hx
    rw [h.ok.tr_to hi]
    exact (h.ok.fits hi).1
  · obtain ⟨i, hi, rfl⟩ := hk x hx
    obtain ⟨j, hj, rfl⟩ := hk y hy
    rw [h.ok.tr_to hi, h.ok.tr_to hj] at e
    rw [h.ok.to_one hi hj e]
  · obtain ⟨i, hi, rfl⟩ := hk x hx
    have := h.ok.slid_named h.held hi
    rw [← h.ok.tr_to hi] at this
    exact this
  · obtain ⟨i, hi, rfl⟩ := hk x hx
    rw [hto hi, h.ok.slid_head hi]; rfl
  · obtain ⟨i, hi, rfl⟩ := hk x hx
    rw [hto hi, h.ok.slid_body hi]; rfl
/-- What is slid is alike. -/
theorem CleanOk.same (hz : ∀ z ∈ zs, (Lit.int .u64 z).wf = true) (h : CleanOk zs fr ps) : fromE (slidL zs (keepL zs fr ps) ps) (fr.map (trI zs (keepL zs fr ps) ps) ++ ps) = 0 ∧ sameB zs (fr ++ ps) (slidL zs (keepL zs fr ps) ps) (fr.map (trI zs (keepL zs fr ps) ps) ++ ps) = true := by
  have h1 := (h.ok.slid_reach hz h.held h.sub h.all).1
  have h2 := (h.iso hz).same hz h.from_ (h.ok.slid_wf hz h.held) h1
  rw [h.tr_app] at h1 h2
  exact ⟨h1, h2⟩
end
/-- Where an object goes when it is copied. -/
def putF (zs l : List Int) (n : Nat) (y : Int) : Int := if y < 0 then y else atI (layWords (obsC zs l) n) (plI l y)
section
variable {zs fr : List Int} {n : Nat}
/-- A copied object. -/
theorem copy_obj (hz : ∀ z ∈ zs, (Lit.int .u64 z).wf = true) (h0 : fromE zs fr = 0) (hn : n ≤ 256) (ht : tkL zs (camL zs fr) ≤ n) {i : Nat} (hi : i < (camL zs fr).length) :
    i < (begins (copyL zs fr n) 0).length ∧ putF zs (camL zs fr) n (nth (camL zs fr) i) = (st (copyL zs fr n) i : Int) ∧ obOf (copyL zs fr n) (st (copyL zs fr n) i) = obC zs (camL zs fr) (nth (camL zs fr) i) := by
  have hl := camL_lives hz h0
  have hx0 : 0 ≤ nth (camL zs fr) i := (camT_ok _).pos _ (nth_mem hi)
  obtain ⟨_, h2, h3⟩ := copy_begins hz hl hn ht
  obtain ⟨_, _, h5, h6⟩ := lay_told (obsC_lay hz hl hn ht)
  have hL : (camL zs fr).length ≤ (layObs (obsC zs (camL zs fr)) n).length := by unfold layObs; rw [List.length_append, obsC_len]; omega
  refine ⟨Nat.lt_of_lt_of_le hi h2, ?_, ?_⟩
  · unfold putF
    rw [if_neg (by omega), plI_at camL_nd hi, atI_nat]
    rfl
  · have h7 := h6 i (by omega)
    have e : nthG (layObs (obsC zs (camL zs fr)) n) i = nthG (obsC zs (camL zs fr)) i := by
      unfold layObs
      rw [nthG_append_left _ _ _ (by rw [obsC_len]; exact hi)]
    rw [e, obsC_nth hi] at h7
    exact h7
theorem copy_iso (hz : ∀ z ∈ zs, (Lit.int .u64 z).wf = true) (h0 : fromE zs fr = 0) (hn : n ≤ 256) (ht : tkL zs (camL zs fr) ≤ n) (hzy : ∀ z ∈ copyL zs fr n, (Lit.int .u64 z).wf = true) :
    Iso zs (copyL zs fr n) fr (putF zs (camL zs fr) n) ∧ fromE (copyL zs fr n) (fr.map (putF zs (camL zs fr) n)) = 0 := by
  have hl := camL_lives hz h0
  have hae : arErr (copyL zs fr n) = 0 := (lay_told (obsC_lay hz hl hn ht)).2.1
  have hk : ∀ x ∈ camL zs fr, ∃ i, i < (camL zs fr).length ∧ nth (camL zs fr) i = x := fun x hx => by
    obtain ⟨i, hi, e⟩ := List.getElem_of_mem hx
    exact ⟨i, hi, by rw [nth_get _ _ hi]; exact e⟩
  have hob := fun {i} (hi : i < (camL zs fr).length) => copy_obj hz h0 hn ht hi
  have hlive : ∀ {i}, i < (camL zs fr).length → (st (copyL zs fr n) i : Int) ∈ livesI (copyL zs fr n) := fun hi => by
    obtain ⟨a1, _, a3⟩ := hob hi
    exact mem_lives.2 ⟨_, a1, rfl, congrArg (fun o : Ob => o.2.2.2) a3⟩
  refine ⟨⟨fun y hy => by unfold putF; rw [if_pos hy]; exact hy, fun x hx => ?_, fun x hx y hy e => ?_, fun x hx => ?_, fun x hx => ?_, fun x hx => ?_⟩, fromE_ok hae fun y hy => ?_⟩
  · obtain ⟨i, hi, rfl⟩ := hk x hx
    rw [(hob hi).2.1]; omega
  · obtain ⟨i, hi, rfl⟩ := hk x hx
    obtain ⟨j, hj, rfl⟩ := hk y hy
    rw [(hob hi).2.1, (hob hj).2.1] at e
    rw [st_inj (hob hi).1 (hob hj).1 (by omega)]
  · obtain ⟨i, hi, rfl⟩ := hk x hx
    obtain ⟨a1, a2, a3⟩ := hob hi
    obtain ⟨b1, _⟩ := refs_at hzy hae (hlive hi)
    have hr : refsX (copyL zs fr n) (st (copyL zs fr n) i) = (named zs (nth (camL zs fr) i).toNat).map (plI (camL zs fr)) := congrArg (fun o : Ob => o.2.1) a3
    rw [a2, Int.toNat_natCast, ← b1, hr, List.map_map]
    refine List.map_congr_left fun y hy => ?_
    show atI (copyL zs fr n) (plI (camL zs fr) y) = putF zs (camL zs fr) n y
    unfold putF
    by_cases hy0 : y < 0
    · rw [if_pos hy0]
      -- what names nothing is -1
      have hxl := hl _ (nth_mem hi)
      obtain ⟨s, hs, hf, es⟩ := lives_mem.1 hxl
      have es2 : (nth (camL zs fr) i).toNat = s := by omega
      rw [es2] at hy
      obtain ⟨c1, c2⟩ := refs_at hz (fromE_zero h0).1 (s := s) (by rw [← es]; exact hxl)
      rw [← c1] at hy
      obtain ⟨r, hr2, rfl⟩ := List.mem_map.1 hy
      rcases c2 r hr2 with rfl | ⟨hr0, _⟩
      · rw [plI_out (fun hc => by have := (camT_ok (zs := zs) (fr := fr) zs.length).pos _ hc; rw [atI_null] at this; omega)]
        rfl
      · rw [atI_pos hr0] at hy0; omega
    · rw [if_neg hy0]; rfl
  · obtain ⟨i, hi, rfl⟩ := hk x hx
    obtain ⟨a1, a2, a3⟩ := hob hi
    rw [a2, Int.toNat_natCast]
    exact congrArg (fun o : Ob => o.1) a3
  · obtain ⟨i, hi, rfl⟩ := hk x hx
    obtain ⟨a1, a2, a3⟩ := hob hi
    rw [a2, Int.toNat_natCast]
    exact congrArg (fun o : Ob => o.2.2.1) a3
  · obtain ⟨x, hx, rfl⟩ := List.mem_map.1 hy
    obtain ⟨i, hi, rfl⟩ := hk x (camL_fr h0 x hx)
    rw [(hob hi).2.1]
    exact hlive hi
/-- What is copied is alike. -/
theorem copy_same (hz : ∀ z ∈ zs, (Lit.int .u64 z).wf = true) (h0 : fromE zs fr = 0) (hn : n ≤ 256) (ht : tkL zs (camL zs fr) ≤ n) (hzy : ∀ z ∈ copyL zs fr n, (Lit.int .u64 z).wf = true) :
    fromE (copyL zs fr n) (fr.map (putF zs (camL zs fr) n)) = 0 ∧ sameB zs fr (copyL zs fr n) (fr.map (putF zs (camL zs fr) n)) = true := by
  obtain ⟨h1, h2⟩ := copy_iso hz h0 hn ht hzy
  exact ⟨h2, h1.same hz h0 hzy h2⟩
/-- Where it goes, as the copy tells it. -/
theorem putF_beg (hz : ∀ z ∈ zs, (Lit.int .u64 z).wf = true) (h0 : fromE zs fr = 0) (hn : n ≤ 256) (ht : tkL zs (camL zs fr) ≤ n) {i : Nat} (hi : i < (camL zs fr).length) : putF zs (camL zs fr) n (nth (camL zs fr) i) = nth (begC zs (camL zs fr)) i := by
  rw [(copy_obj hz h0 hn ht hi).2.1, begC_nth hi]
  have := (copy_begins hz (camL_lives hz h0) hn ht).2.2 i hi
  exact congrArg (fun q : Nat => (q : Int)) this
end
end Go.Proofs.Ytjefbekdjgmmbaa
namespace Go.Proofs.Ytjefbekdjgmmbaa
open Go.RowKit
section
variable {zs fr : List Int} {n k : Nat} (hz : ∀ z ∈ zs, (Lit.int .u64 z).wf = true) (h0 : fromE zs fr = 0) (hn : n ≤ 256) (ht : tkL zs (camL zs fr) ≤ n)
include hz h0 hn ht
omit hn in
theorem copy_len : (copyL zs fr n).length = n := copyL_len hz (camL_lives hz h0) ht
end
end Go.Proofs.Ytjefbekdjgmmbaa
namespace Go.Proofs.Ytjefbekdjgmmbaa
open Go.RowKit
/-- A form in memory: its objects and its places. -/
structure FormIn (w : World) (D : Option Addr) (m c : Nat) (F : Option Addr) (k d : Nat) (raws : List Raw) (os : List Ob) (ps : List Int) : Prop where
  mc : m ≤ c
  kd : k ≤ d
  mz : m ≤ 140737488355328
  kz : k * 8 ≤ 140737488355328
  objs : ObsAt w 0 w.heap.size D m raws os
  lens : ∀ j, j < m → (nthG raws j).rn ≤ maxLen ∧ (nthG raws j).bn ≤ maxLen
  places : Arr .i64 w w.heap.size F k ps
theorem ObsAt.laterS {w w' : World} {lo : Nat} {A : Option Addr} {n : Nat} {raws : List Raw} {os : List Ob} (h : ObsAt w lo w.heap.size A n raws os) (hb : Below w.heap.size w w') : ObsAt w' lo w'.heap.size A n raws os :=
  ⟨h.1, (h.2.1.below hb (Nat.le_refl _)).more hb.size, fun j hj => ((h.2.2 j hj).below hb (Nat.le_refl _)).more hb.size⟩
theorem FormIn.later {w w' : World} {D F : Option Addr} {m c k d : Nat} {raws : List Raw} {os : List Ob} {ps : List Int} (h : FormIn w D m c F k d raws os ps) (hb : Below w.heap.size w w') : FormIn w' D m c F k d raws os ps :=
  ⟨h.mc, h.kd, h.mz, h.kz, h.objs.laterS hb, h.lens, (h.places.below hb (Nat.le_refl _)).more hb.size⟩
/-- What Form, Alike, Build answer. -/
def sfO (zs fr : List Int) : List Ob := if fromE zs fr = 0 then formO zs fr else []
def sfF (zs fr : List Int) : List Int := if fromE zs fr = 0 then formF zs fr else []
def aliE (zs fr ys gr : List Int) : Int := if fromE zs fr ≠ 0 then fromE zs fr else fromE ys gr
def aliB (zs fr ys gr : List Int) : Bool := decide (aliE zs fr ys gr = 0) && sameB zs fr ys gr
def SFormP (zs fr : List Int) (w : World) (e : Ending) (w' : World) : Prop := ∃ D m c F k d raws, e = .returned (.tuple #[.agg #[.slice D m c, .slice F k d], .int .i64 (fromE zs fr)]) ∧ Below w.heap.size w w' ∧ FormIn w' D m c F k d raws (sfO zs fr) (sfF zs fr)
def AlikeP (zs fr ys gr : List Int) (w : World) (e : Ending) (w' : World) : Prop := e = .returned (.tuple #[.bool (aliB zs fr ys gr), .int .i64 (aliE zs fr ys gr)]) ∧ Below w.heap.size w w'
/-- The contracts. -/
def FormC : Prop := ∀ (A F : Option Addr) (n c nf cf : Nat) (zs fr : List Int) (w : World), ArenaFrom w A F n c nf cf zs fr →
  Calls Try.prog 10 #[.slice A n c, .slice F nf cf] w (SFormP zs fr w)
def AlikeC : Prop := ∀ (A F B G : Option Addr) (n c nf cf m d ng cg : Nat) (zs fr ys gr : List Int) (w : World), ArenaFrom w A F n c nf cf zs fr → ArenaFrom w B G m d ng cg ys gr →
  Calls Try.prog 11 #[.slice A n c, .slice F nf cf, .slice B m d, .slice G ng cg] w (AlikeP zs fr ys gr w)
section
variable {zs fr ys gr ps : List Int} {os : List Ob} {n : Int}
theorem sfO_ok (h : fromE zs fr = 0) : sfO zs fr = formO zs fr := if_pos h
theorem sfF_ok (h : fromE zs fr = 0) : sfF zs fr = formF zs fr := if_pos h
theorem sfO_bad (h : fromE zs fr ≠ 0) : sfO zs fr = [] := if_neg h
theorem sfF_bad (h : fromE zs fr ≠ 0) : sfF zs fr = [] := if_neg h
theorem aliE_one (h : fromE zs fr ≠ 0) : aliE zs fr ys gr = fromE zs fr := if_pos h
theorem aliE_two (h : fromE zs fr = 0) : aliE zs fr ys gr = fromE ys gr := if_neg (by simp [h])
theorem aliE_zero : aliE zs fr ys gr = 0 ↔ fromE zs fr = 0 ∧ fromE ys gr = 0 := by
  unfold aliE
  constructor
  · intro h
    split at h
    · rename_i h0; exact absurd h h0
    · rename_i h0; exact ⟨by simpa using h0, h⟩
  · rintro ⟨h1, h2⟩
    rw [if_neg (by simp [h1]), h2]
theorem aliB_ok (h : aliE zs fr ys gr = 0) : aliB zs fr ys gr = sameB zs fr ys gr := by unfold aliB; rw [decide_eq_true h]; rfl
theorem aliB_bad (h : aliE zs fr ys gr ≠ 0) : aliB zs fr ys gr = false := by unfold aliB; rw [decide_eq_false h]; rfl
end
end Go.Proofs.Ytjefbekdjgmmbaa
namespace Go.Proofs.Ytjefbekdjgmmbaa
open Go.RowKit
theorem placesT : MapT Try.prog .i64 .i64 77 3 3 := ⟨Try.underlying77, Try.underlying3, Try.underlying3, fun _ => by kernel_rfl⟩
theorem carryI64 : (Try.prog.info? 3).map (fun i => (i.zero, i.size, i.bytes)) = some (some (.int .i64 0), 1, 8) := by kernel_rfl
/-- A traversal in memory: the objects, their words, the order, the places. -/
structure TrV (O S : Value) (gT gp base : Nat) (ord : List Int) (v : Value) (w : World) : Prop where
  box : Box w gT 102 #[O, S, v, .map (some gp)]
  own : Own .i64 3 w base v ord
  map : MapF Try.prog .i64 .i64 3 3 w gp (ord.length + 1) (plF ord)
  lt1 : gT < base
  lt2 : gp < base
  ne : gp ≠ gT
  hb : base ≤ w.heap.size
/-- All but the traversal stays. -/
structure TrF (gT gp base : Nat) (w w' : World) : Prop where
  os : w'.os = w.os
  tape : w'.tape = w.tape
  output : w'.output = w.output
  size : w.heap.size ≤ w'.heap.size
  block : ∀ i, i < base → i ≠ gT → i ≠ gp → w'.heap[i]? = w.heap[i]?
section
variable {O S v : Value} {gT gp base : Nat} {ord : List Int} {w w' w'' : World}
theorem TrF.refl : TrF gT gp base w w := ⟨rfl, rfl, rfl, Nat.le_refl _, fun _ _ _ _ => rfl⟩
theorem TrF.trans (h : TrF gT gp base w w') (h' : TrF gT gp base w' w'') : TrF gT gp base w w'' :=
  ⟨h'.os.trans h.os, h'.tape.trans h.tape, h'.output.trans h.output, Nat.le_trans h.size h'.size, fun i a b c => (h'.block i a b c).trans (h.block i a b c)⟩
theorem TrF.of_below (h : Below base w w') : TrF gT gp base w w' := ⟨h.os, h.tape, h.output, h.size, fun i hi _ _ => h.block i hi⟩
theorem TrF.below (h : TrF gT gp base w w') {B : Nat} (h1 : B ≤ gT) (h2 : B ≤ gp) (h3 : B ≤ base) : Below B w w' := ⟨h.os, h.tape, h.output, h.size, fun i hi => h.block i (by omega) (by omega) (by omega)⟩
theorem Arr.trF {k : IntKind} {lo n : Nat} {A : Option Addr} {zs : List Int} (h : Arr k w base A n zs) (hi : High lo A n) (h1 : gT < lo) (h2 : gp < lo) (f : TrF gT gp base w w') : Arr k w' base A n zs :=
  ⟨h.1, h.2.1, fun hn => by
    obtain ⟨b, off, e, hb, hc⟩ := h.2.2 hn
    have := hi b off hn e
    refine ⟨b, off, e, hb, fun i hi => ?_⟩
    rw [← hc i hi]
    have hbl := f.block b hb (by omega) (by omega)
    unfold World.cell?
    rw [hbl]⟩
theorem TrV.next (h : TrV O S gT gp base ord v w) (hb : Below w.heap.size w w') : TrV O S gT gp base ord v w' :=
  ⟨h.box.below hb h.box.lt, h.own.below hb, h.map.below hb h.map.lt, h.lt1, h.lt2, h.ne, Nat.le_trans h.hb hb.size⟩
end
set_option maxRecDepth 8000 in
set_option maxHeartbeats 2000000 in
theorem visit_any (O S v : Value) (gT gp base : Nat) (zs ord : List Int) (y : Int) (w : World) (h : TrV O S gT gp base ord v w) (hy : InR zs y) (hwf : (Lit.int .i64 y).wf = true) (hl : ord.length ≤ 1000) :
    Calls Try.prog 86 #[.pointer (some ⟨gT, 0, none⟩), .int .i64 y] w fun e w' => e = .returned (.tuple #[]) ∧ ∃ v', TrV O S gT gp base (addN ord y) v' w' ∧ TrF gT gp base w w' := by
  have hlk := h.map.lookOk placesT hwf
  rw [plF_isSome] at hlk
  obtain ⟨A, c, rfl, hc, _⟩ := h.own.arr
  have q2 : w.cell? ⟨gT, 2, none⟩ = some (.slice A ord.length c) := h.box.cell 2
  have q3 : w.cell? ⟨gT, 3, none⟩ = some (.map (some gp)) := h.box.cell 3
  by_cases hin : y = -1 ∨ y ∈ ord
  · rw [decide_eq_true hin] at hlk
    have HE : Hid (addN ord y = ord) := addN_no (by rcases hin with rfl | hin; exact .inl (by decide); exact .inr hin)
    have H := Lib.hid h
    clear h hin hy hc q2
    generalize (plF ord y).getD 0 = X at *
    go_enter Try.func86, Try.ntmps86
    go_wp2
    refine bodyPost_ret (v := .tuple #[]) (by simp [results, Try.results86, go_sem]) rfl ⟨rfl, _, by rw [HE.out]; exact H.out, TrF.refl⟩
  · rw [decide_eq_false hin] at hlk
    have h1 : y ≠ -1 := fun e => hin (.inl e)
    have h2 : y ∉ ord := fun e => hin (.inr e)
    have h0 : 0 ≤ y := by
      rcases hy with rfl | hy
      · exact absurd rfl h1
      · exact hy.1
    have HE : Hid (addN ord y = ord ++ [y]) := addN_yes (by rintro (h3 | h3); omega; exact h2 h3)
    have HP : Hid (plF (ord ++ [y]) = put (plF ord) y ord.length) := plF_snoc h1 h2
    have H := Lib.hid h
    clear h hin hy h1 h2 h0
    generalize (plF ord y).getD 0 = X at *
    obtain ⟨n, hn⟩ : ∃ n, ord.length = n := ⟨_, rfl⟩
    have HN := Lib.hid hn
    rw [hn] at q2 hl HP H hc
    have hwn : (Lit.int .i64 (n : Int)).wf = true := wf_i64.2 (by omega)
    clear hn
    go_enter Try.func86, Try.ntmps86
    go_wp2_with fail
    go_still_tail 10, (by kernel_rfl)
    change wpList _ _ _ _ _ (w.drewN 1)
    have hm : MapF Try.prog .i64 .i64 3 3 (w.drewN 1) gp (n + 1) (plF ord) := by have := H.out.map; rw [HN.out] at this; exact this.drewN 1
    refine wpList_store_map placesT _ rfl _ _ _ rfl rfl rfl rfl hm (by unfold maxLen; omega) hwf hwn ?_
    intro w2 hm2 hg2
    have hb2 : Box w2 gT 102 #[O, S, .slice A n c, .map (some gp)] := Box.grown (w := w.drewN 1) H.out.box hg2 H.out.ne.symm
    have ho2 : Own .i64 3 w2 base (.slice A n c) ord := H.out.own.keepB fun i h3 h4 => hg2.block i h4 (by intro e; injection e with e; have := H.out.lt2; omega)
    obtain ⟨v', w3, hrun, ho3, hg3⟩ := ho2.pushG (P := Try.prog) (t := 23) (ty := 23) Try.underlying23 carryI64 (by omega) hwf (by rw [HN.out]; omega) (Nat.le_trans H.out.hb hg2.size)
    have hro := ho2.row
    obtain ⟨hb3, hv3⟩ := hb2.grew hg3 (fun e => by have := hro _ e; have := H.out.lt1; omega)
    obtain ⟨hm3, hv4⟩ := hm2.grew hg3 (fun e => by have := hro _ e; have := H.out.lt2; omega)
    have HNX : Hid (TrV O S gT gp base (addN ord y) v' (w3.setCell ⟨gT, 2, none⟩ v')) := by
      refine ⟨hb3.set 2 v', ?_, ?_, H.out.lt1, H.out.lt2, H.out.ne, ?_⟩
      · rw [HE.out]; exact ho3.setOff hv3 _ _
      · rw [HE.out, HP.out, List.length_append, List.length_singleton, HN.out]
        exact hm3.setOther H.out.ne.symm _ _
      · rw [size_setCell]; exact Nat.le_trans H.out.hb (Nat.le_trans hg2.size hg3.size)
    have HF : Hid (TrF gT gp base w (w3.setCell ⟨gT, 2, none⟩ v')) :=
      ⟨hg3.os.trans hg2.os, hg3.tape.trans hg2.tape, hg3.output.trans hg2.output, by rw [size_setCell]; exact Nat.le_trans hg2.size hg3.size, fun i a1 a2 a3 => by
        have hlt : i < w.heap.size := Nat.lt_of_lt_of_le a1 H.out.hb
        rw [heap_setOther _ a2]
        rw [hg3.block i (Nat.lt_of_lt_of_le hlt hg2.size) (fun e => by have := hro _ e; omega)]
        exact hg2.block i hlt (by intro e; injection e with e; exact a3 e)⟩
    have d2 : w2.cell? ⟨gT, 2, none⟩ = some (.slice A n c) := hb2.cell 2
    have e2 : w3.cell? ⟨gT, 2, none⟩ = some (.slice A n c) := hb3.cell 2
    have f2 := hb3.soft 2
    have HR := Lib.hid hrun
    obtain ⟨A', c', rfl, _, _⟩ := ho3.arr
    clear hrun hb2 hb3 hm hm2 hm3 ho2 ho3 hg2 hg3 hro hv3 hv4 H HP HE q2 q3 hlk
    generalize (ord ++ [y]).length = N' at *
    go_wp2_with (at_builtin; refine wpList_append_run rfl (.tmp 30) (.tmp 32) 23 rfl rfl rfl HR.out ?_)
    refine bodyPost_end (v := .tuple #[]) (by simp [results, Try.results86, go_sem]) rfl ⟨rfl, _, HNX.out, HF.out⟩
/-- A list of 'n' zeros whose first 'k' are those of 'L'. -/
def fillTo (L : List Int) (n k : Nat) : List Int := L.take k ++ List.replicate (n - k) 0
section
variable {L : List Int} {n k : Nat}
theorem fillTo_len (hn : L.length = n) (h : k ≤ n) : (fillTo L n k).length = n := by unfold fillTo; rw [List.length_append, List.length_take, List.length_replicate]; omega
theorem fillTo_zero : fillTo L n 0 = List.replicate n 0 := by unfold fillTo; simp
theorem fillTo_all (hn : L.length = n) : fillTo L n n = L := by unfold fillTo; rw [List.take_of_length_le (by omega)]; simp
theorem fillTo_set (hn : L.length = n) (h : k < n) : (fillTo L n k).set k (nth L k) = fillTo L n (k + 1) := by
  have hk : k < L.length := by omega
  unfold fillTo
  rw [List.set_append_right _ _ (by rw [List.length_take]; omega), List.length_take, show k - min k L.length = 0 by omega, show n - k = (n - (k + 1)) + 1 by omega, List.replicate_succ, List.set_cons_zero, List.take_succ_eq_append_getElem hk, nth_get _ _ hk, List.append_assoc]
  rfl
end
/-- What holds while words go over the order. -/
structure WdI (L : List Int) (n g : Nat) (w : World) (k : Nat) (wr : World) : Prop where
  row : Whole .i64 3 wr g (fillTo L n k)
  below : Below w.heap.size w wr
theorem words_wf {zs : List Int} (hl : zs.length ≤ 256) {x : Int} (h : 0 ≤ x ∧ x < (begins zs 0).length) : (Lit.int .i64 (atI zs x)).wf = true := by
  rw [atI_pos h.1]
  have := (begins_mem (st_mem (zs := zs) (k := x.toNat) (by omega))).2.1
  exact wf_i64.2 (by omega)
set_option maxRecDepth 8000 in
set_option maxHeartbeats 2000000 in
theorem carryWords_any (O : Value) (S D : Option Addr) (m sc n dc gT gp : Nat) (zs ord : List Int) (w : World) (hb : Box w gT 102 #[O, .slice S m sc, .slice D n dc, .map (some gp)]) (hS : Arr .i64 w w.heap.size S m (startsI zs)) (hD : Arr .i64 w w.heap.size D n ord) (hi : AllIn zs ord) (hn : n ≤ 256) (hl : zs.length ≤ 256) :
    Calls Try.prog 58 #[.pointer (some ⟨gT, 0, none⟩)] w fun e w' => ∃ g, e = .returned (.slice (some ⟨g, 0, none⟩) n n) ∧ w.heap.size ≤ g ∧ Below w.heap.size w w' ∧ Whole .i64 3 w' g (ord.map (atI zs)) := by
  have q1 : w.cell? ⟨gT, 1, none⟩ = some (.slice S m sc) := hb.cell 1
  have q2 : w.cell? ⟨gT, 2, none⟩ = some (.slice D n dc) := hb.cell 2
  have hmk := fun wx => run_make_row' (P := Try.prog) 23 3 (.int .i64 0) 8 Try.underlying23 carryI64 rfl .i64 .i64 n (by omega) (by omega) wx
  have hW : Whole .i64 3 (w.alloc (.cells (madeCells #[Value.int .i64 0] n) 3)) w.heap.size (List.replicate n 0) := by
    rw [made_replicate]
    exact whole_new .i64 3 w _ (fun z hz => by rw [List.eq_of_mem_replicate hz]; rfl)
  have bm : Below w.heap.size w (w.alloc (.cells (madeCells #[Value.int .i64 0] n) 3)) := (Below.refl _ _).alloc (Nat.le_refl _) _
  have hdl := hD.1
  have HLL : Hid ((ord.map (atI zs)).length = n) := by show _ = _; rw [List.length_map]; exact hdl
  have HI : Hid (WdI (ord.map (atI zs)) n w.heap.size w 0 (w.alloc (.cells (madeCells #[Value.int .i64 0] n) 3))) := ⟨by rw [fillTo_zero]; exact hW, bm⟩
  have HB := Lib.hid hb
  have HS := Lib.hid hS
  have HD := Lib.hid hD
  have HA := Lib.hid hi
  have HDL := Lib.hid hdl
  have b1 : (w.alloc (.cells (madeCells #[Value.int .i64 0] n) 3)).cell? ⟨gT, 2, none⟩ = some (.slice D n dc) := (bm.cell (p := ⟨gT, 2, none⟩) hb.lt).trans q2
  clear hb hS hD hi hW bm hdl
  go_enter Try.func58, Try.ntmps58
  go_wp2_with fail
  clear b1
  generalize (w.alloc (.cells (madeCells #[Value.int .i64 0] n) 3)) = W1 at *
  obtain ⟨g, hg⟩ : ∃ g, w.heap.size = g := ⟨_, rfl⟩
  have HG := Lib.hid hg
  rw [hg] at HI
  rw [hg]
  clear hmk hg
  go_loopw [17] (fun i wr => ∃ k : Nat, k ≤ n ∧ i = .int .i64 k ∧ Hid (WdI (ord.map (atI zs)) n g w k wr)) (fun i _ => n - (intOf i).toNat)
  case atStart => exact ⟨0, Nat.zero_le _, rfl, HI⟩
  case round =>
    obtain ⟨k, hkn, rfl, hI⟩ := hrel
    clear HI q1 q2
    by_cases hlt : k < n
    · have hD := HD.out.below hI.out.below (Nat.le_refl _)
      have hS := HS.out.below hI.out.below (Nat.le_refl _)
      obtain ⟨b, off, rfl, _, hc⟩ := hD.2.2 (by omega)
      have c1 := hc k hlt
      obtain ⟨j, hj, hjm⟩ := HA.out.atIn (k := k) (by have := HDL.out; omega)
      have hm := HS.out.1
      have hml : m = (begins zs 0).length := by rw [← hm]; unfold startsI; simp
      obtain ⟨b2, off2, rfl, _, hc2⟩ := hS.2.2 (by omega)
      have c2 := hc2 j (by omega)
      rw [nth_starts hjm] at c2
      rw [hj] at c1
      have hjlt : j < m := by omega
      have q1 : wr.cell? ⟨gT, 1, none⟩ = some (.slice (some ⟨b2, off2, none⟩) m sc) := (HB.out.below hI.out.below HB.out.lt).cell 1
      have hx := nth_at (zs := zs) (l := ord) (k := k) (by have := HDL.out; omega)
      rw [hj, atI_nat] at hx
      have hW2 := hI.out.row.set_ k (st zs j) (by
        have := words_wf hl (HA.out _ (nth_mem (l := ord) (j := k) (by have := HDL.out; omega)))
        rwa [hj, atI_nat] at this)
      rw [← hx, fillTo_set HLL.out hlt, hx] at hW2
      have HN : Hid (WdI (ord.map (atI zs)) n g w (k + 1) (wr.setCell ⟨g, k, none⟩ (.int .i64 (st zs j)))) := ⟨hW2, below_set hI.out.below (by rw [HG.out]; exact Nat.le_refl _) _ _⟩
      have d0 := hI.out.row.cell (j := k) (by rw [fillTo_len HLL.out (by omega)]; exact hlt)
      have f0 := hI.out.row.frozen k
      clear hI hW2 hc hc2 hD hS hj hjm hx hm hml
      generalize nth (fillTo (ord.map (atI zs)) n k) k = X at *
      generalize (st zs j : Int) = Y at *
      go_wp2
      go_roundw
      case rel => exact ⟨k + 1, by omega, by go_num, HN⟩
      case measure => simp [intOf]; omega
    · obtain rfl : k = n := by omega
      have hrow := hI.out.row
      rw [fillTo_all HLL.out] at hrow
      have HR := Lib.hid hrow
      have HBB := Lib.hid hI.out.below
      clear hI hrow
      go_wp2
      go_ret
      exact ⟨g, rfl, by rw [HG.out]; exact Nat.le_refl _, HBB.out, HR.out⟩
end Go.Proofs.Ytjefbekdjgmmbaa
namespace Go.Proofs.Ytjefbekdjgmmbaa
open Go.RowKit
theorem OwnG.keepAt {α : Type} {enc : α → List Value} {size : Nat} {e : TypeId} {w w' : World} {base g n c : Nat} {l : List α} (h : OwnG enc size e w base (.slice (some ⟨g, 0, none⟩) n c) l) (hb : w'.heap[g]? = w.heap[g]?) : OwnG enc size e w' base (.slice (some ⟨g, 0, none⟩) n c) l := by
  obtain ⟨hl, h2⟩ := h
  refine ⟨hl, h2.imp id ?_⟩
  rintro ⟨g', cap, cur, hv, hg, hh, r⟩
  refine ⟨g', cap, cur, hv, hg, ?_, r⟩
  injection hv with e1
  injection e1 with e1
  injection e1 with e1
  subst e1
  rw [hb]; exact hh
/-- What holds while copies goes over the order: 'k' objects are described. -/
structure CpI (zs ord : List Int) (g n : Nat) (w : World) (k : Nat) (cur : List Raw) (wr : World) : Prop where
  own : OwnG rawC 4 41 wr g (.slice (some ⟨g, 0, none⟩) n n) cur
  len : cur.length = n
  obs : ∀ j, j < k → ObV wr 0 wr.heap.size (nthG cur j) (obX zs ord (nth ord j)) ∧ Off (some g) (nthG cur j).ra (nthG cur j).rn ∧ Off (some g) (nthG cur j).ba (nthG cur j).bn
  below : Below w.heap.size w wr
  lt : g < wr.heap.size
/-- .. while it goes over the references of object 'k': 'q' of them are in. -/
structure CqI (ord refs : List Int) (g n bk k : Nat) (cur : List Raw) (r : Raw) (wb : World) (q : Nat) (A : Option Addr) (c : Nat) (wx : World) : Prop where
  own : OwnG rawC 4 41 wx g (.slice (some ⟨g, 0, none⟩) n n) (cur.set k { r with ra := A, rn := q, rc := c })
  row : Own .i64 3 wx bk (.slice A q c) ((refs.take q).map (plI ord))
  fr : TrF g g bk wb wx
  hb : bk ≤ wx.heap.size
  lt : g < bk
section
variable {ord refs : List Int} {g n bk k : Nat} {cur : List Raw} {r : Raw} {wb wx w8 : World} {q : Nat} {A A' : Option Addr} {c c' : Nat}
theorem CqI.off (h : CqI ord refs g n bk k cur r wb q A c wx) : (Value.slice A q c).ownBlock ≠ some g := fun e => by
  have h1 := h.row.row _ e
  have h2 := h.lt
  omega
theorem CqI.next (h : CqI ord refs g n bk k cur r wb q A c wx) (hk : k < cur.length) (hO : Own .i64 3 w8 bk (.slice A' (q + 1) c') ((refs.take (q + 1)).map (plI ord))) (hG : Grew (wx.drewN 1) (.slice A q c) w8 (.slice A' (q + 1) c')) :
    CqI ord refs g n bk k cur r wb (q + 1) A' c' (w8.setCell ⟨g, k * 4 + 1, none⟩ (.slice A' (q + 1) c')) := by
  have hg8 : w8.heap[g]? = wx.heap[g]? := hG.block g (Nat.lt_of_lt_of_le h.lt h.hb) h.off
  have ho8 := h.own.keepAt hg8
  have hn : nthG (cur.set k { r with ra := A, rn := q, rc := c }) k = { r with ra := A, rn := q, rc := c } := nthG_put_same _ _ _ hk
  have ho9 := ho8.setOne k 1 { r with ra := A', rn := q + 1, rc := c' } (.slice A' (q + 1) c') (by simpa using hk) (by omega) (by rw [hn]; rfl)
  rw [List.set_set] at ho9
  refine ⟨ho9, hO.setOff (fun e => by have h1 := hO.row _ e; have h2 := h.lt; omega) _ _, ⟨hG.os.trans h.fr.os, hG.tape.trans h.fr.tape, hG.output.trans h.fr.output, ?_, fun i a1 a2 a3 => ?_⟩, ?_, h.lt⟩
  · rw [size_setCell]; exact Nat.le_trans h.fr.size hG.size
  · rw [heap_setOther _ a2, ← h.fr.block i a1 a2 a3]
    exact hG.block i (Nat.lt_of_lt_of_le a1 h.hb) (fun e => by have := h.row.row _ e; omega)
  · rw [size_setCell]; exact Nat.le_trans h.hb hG.size
end
theorem refs_take {ord refs : List Int} {q : Nat} (hq : q < refs.length) : (refs.take (q + 1)).map (plI ord) = (refs.take q).map (plI ord) ++ [plI ord (nth refs q)] := by
  rw [nth_get _ _ hq, List.take_succ_eq_append_getElem hq, List.map_append]; rfl
theorem plI_wf {l : List Int} {y : Int} (hl : l.length ≤ 256) : (Lit.int .i64 (plI l y)).wf = true := by
  by_cases h : y ∈ l
  · obtain ⟨k, e, hk, _⟩ := plI_in h
    rw [e]; exact wf_i64.2 (by omega)
  · rw [plI_out h]; decide
set_option maxRecDepth 8000 in
set_option maxHeartbeats 4000000 in
theorem copies_any (OA D : Option Addr) (SV : Value) (m oc n dc gT gp N : Nat) (raws : List Raw) (zs ord : List Int) (w : World) (hb : Box w gT 102 #[.slice OA m oc, SV, .slice D n dc, .map (some gp)]) (hO : ArrG rawC 4 w w.heap.size OA m raws)
    (hV : ∀ j, j < m → ObV w 0 w.heap.size (nthG raws j) (obOf zs (st zs j))) (hM : MapF Try.prog .i64 .i64 3 3 w gp N (plF ord)) (hD : Arr .i64 w w.heap.size D n ord) (hi : AllIn zs ord) (hm : m = (begins zs 0).length) (hn : n ≤ 256) (hl : zs.length ≤ 256)
    (hcl : ∀ x ∈ ord, ∀ r ∈ refsX zs (st zs x.toNat), InR zs r ∧ (r = -1 ∨ r ∈ ord)) (hz : ∀ z ∈ zs, (Lit.int .u64 z).wf = true) :
    Calls Try.prog 57 #[.pointer (some ⟨gT, 0, none⟩)] w fun e w' => ∃ A c raws', e = .returned (.slice A n c) ∧ Below w.heap.size w w' ∧ ObsAt w' 0 w'.heap.size A n raws' (ord.map (obX zs ord)) ∧ ∀ j, j < n → (nthG raws' j).rn ≤ maxLen ∧ (nthG raws' j).bn ≤ maxLen := by
  have q2 : w.cell? ⟨gT, 2, none⟩ = some (.slice D n dc) := hb.cell 2
  have hdl := hD.1
  obtain ⟨w2, hmk, hO2, hb2, hlt2⟩ := run_make_raws (P := Try.prog) (t := 24) Try.underlying24 obj_info (by omega) n (by omega) w
  have HI : Hid (CpI zs ord w.heap.size n w 0 (List.replicate n zeroRaw) w2) := ⟨hO2, by simp, fun j hj => absurd hj (by omega), hb2, hlt2⟩
  have HB := Lib.hid hb
  have HO := Lib.hid hO
  have HV := Lib.hid hV
  have HM := Lib.hid hM
  have HD := Lib.hid hD
  have HA := Lib.hid hi
  have HDL := Lib.hid hdl
  have HMM := Lib.hid hm
  have HCL := Lib.hid hcl
  have HZ := Lib.hid hz
  have b1 : w2.cell? ⟨gT, 2, none⟩ = some (.slice D n dc) := (hb2.cell (p := ⟨gT, 2, none⟩) hb.lt).trans q2
  clear hb hO hV hM hD hi hdl hm hcl hz hO2 hb2 hlt2
  go_enter Try.func57, Try.ntmps57
  go_wp2_with fail
  clear b1 hmk
  obtain ⟨g, hg⟩ : ∃ g, w.heap.size = g := ⟨_, rfl⟩
  have HG := Lib.hid hg
  rw [hg] at HI
  rw [hg]
  clear hg
  go_loopw [20] (fun i wr => ∃ (k : Nat) (cur : List Raw), k ≤ n ∧ i = .int .i64 k ∧ Hid (CpI zs ord g n w k cur wr)) (fun i _ => n - (intOf i).toNat)
  case atStart => exact ⟨0, _, Nat.zero_le _, rfl, HI⟩
  case round =>
    obtain ⟨k, cur, hkn, rfl, hI⟩ := hrel
    clear HI q2
    by_cases hlt : k < n
    · obtain ⟨j, hj, hjm⟩ := HA.out.atIn (k := k) (by have := HDL.out; omega)
      have hjlt : j < m := by have := HMM.out; omega
      obtain ⟨bd, od, rfl, _, hcd⟩ := (HD.out.below hI.out.below (Nat.le_refl _)).2.2 (by omega)
      have c1 := hcd k hlt
      rw [hj] at c1
      obtain ⟨bo, oo, rfl, _, x0, x1, x2, x3⟩ := (HO.out.below hI.out.below (Nat.le_refl _)).raw hjlt
      have hVj := ((HV.out j hjlt).below hI.out.below (Nat.le_refl _))
      have q0 : wr.cell? ⟨gT, 0, none⟩ = some (.slice (some ⟨bo, oo, none⟩) m oc) := (HB.out.below hI.out.below HB.out.lt).cell 0
      have hXW : obX zs ord (nth ord k) = (vT (nth zs (st zs j)), (refsX zs (st zs j)).map (plI ord), bodyWords zs (st zs j), false) := by rw [hj]; rfl
      have HX := Lib.hid hXW
      have HCJ := Lib.hid (HCL.out (nth ord k) (nth_mem (by have := HDL.out; omega)))
      rw [hj, Int.toNat_natCast] at HCJ
      clear hXW hcd
      obtain ⟨r, hr⟩ : ∃ r, nthG raws j = r := ⟨_, rfl⟩
      rw [hr] at hVj x0 x1 x2 x3
      clear hr
      have htag : r.t = vT (nth zs (st zs j)) := hVj.tag
      have hrefs : Arr .i64 wr w.heap.size r.ra r.rn (refsX zs (st zs j)) := hVj.refs
      have hbody : Arr .u64 wr w.heap.size r.ba r.bn (bodyWords zs (st zs j)) := hVj.body
      have hbcap := hVj.bcap
      have hRL := hrefs.1
      have HRE := Lib.hid hrefs
      have HBO := Lib.hid hbody
      have HTG := Lib.hid htag
      have HBC := Lib.hid hbcap
      have hR256 : r.rn ≤ 256 := by
        rw [← hRL]
        unfold refsX refWords
        simp only [List.length_map, List.length_take, List.length_drop]
        omega
      have HRL := Lib.hid hRL
      clear hVj htag hrefs hbody hbcap hRL
      generalize refsX zs (st zs j) = refs at *
      generalize bodyWords zs (st zs j) = body at *
      generalize vT (nth zs (st zs j)) = T0 at *
      obtain ⟨T, ra, rn, rc, ba, bn, bc, fr⟩ := r
      simp only at x0 x1 x2 x3 HRE HBO HTG HBC HRL hR256
      have hO4 := hI.out.own.put4 k ⟨T, none, 0, 0, ba, bn, bc, false⟩ (by have := hI.out.len; omega)
      obtain ⟨⟨d0, d1, d2, d3⟩, hfz⟩ := hI.out.own.cells4 (j := k) (by rw [hI.out.len]; exact hlt)
      have z0 : wr.frozen? ⟨g, k * 4, none⟩ = false := hfz 0 (by omega)
      have z1 := hfz 1 (by omega)
      have z2 := hfz 2 (by omega)
      have z3 := hfz 3 (by omega)
      have hI5 := hI.out
      have hgl := hI.out.lt
      have hne : wr.heap.size ≠ g := by omega
      have hs4 : ((((wr.setCell ⟨g, k * 4, none⟩ (.int .i64 T)).setCell ⟨g, k * 4 + 1, none⟩ (.slice none 0 0)).setCell ⟨g, k * 4 + 2, none⟩ (.slice ba bn bc)).setCell ⟨g, k * 4 + 3, none⟩ (.bool false)).heap.size = wr.heap.size := by simp [World.setCell]
      have ba2 := (Below.refl _ ((((wr.setCell ⟨g, k * 4, none⟩ (.int .i64 T)).setCell ⟨g, k * 4 + 1, none⟩ (.slice none 0 0)).setCell ⟨g, k * 4 + 2, none⟩ (.slice ba bn bc)).setCell ⟨g, k * 4 + 3, none⟩ (.bool false))).alloc (Nat.le_refl _) (.cells #[.int .i64 T, .slice ra rn rc, .slice ba bn bc, .bool fr] 41)
      have hsz : (((((wr.setCell ⟨g, k * 4, none⟩ (.int .i64 T)).setCell ⟨g, k * 4 + 1, none⟩ (.slice none 0 0)).setCell ⟨g, k * 4 + 2, none⟩ (.slice ba bn bc)).setCell ⟨g, k * 4 + 3, none⟩ (.bool false)).alloc (.cells #[.int .i64 T, .slice ra rn rc, .slice ba bn bc, .bool fr] 41)).heap.size = wr.heap.size + 1 := by rw [← hs4]; simp
      have HQ0 : Hid (CqI ord refs g n wr.heap.size k cur ⟨T, none, 0, 0, ba, bn, bc, false⟩ wr 0 none 0 (((((wr.setCell ⟨g, k * 4, none⟩ (.int .i64 T)).setCell ⟨g, k * 4 + 1, none⟩ (.slice none 0 0)).setCell ⟨g, k * 4 + 2, none⟩ (.slice ba bn bc)).setCell ⟨g, k * 4 + 3, none⟩ (.bool false)).alloc (.cells #[.int .i64 T, .slice ra rn rc, .slice ba bn bc, .bool fr] 41))) := by
        refine ⟨hO4.below ba2, Own.nil, ⟨rfl, rfl, rfl, by rw [hsz]; omega, fun i a1 a2 _ => ?_⟩, by rw [hsz]; omega, hgl⟩
        rw [ba2.block i (by rw [hs4]; exact a1), heap_setOther _ a2, heap_setOther _ a2, heap_setOther _ a2, heap_setOther _ a2]
      clear hO4 hfz ba2 hI5 hsz hne hs4
      generalize (nthG cur k).t = t0 at *
      generalize (nthG cur k).f = t1 at *
      go_wp2_with fail
      clear x0 x1 x2 x3 c1 d0 d1 d2 d3 z0 z1 z2 z3 q0
      generalize hWN : (((((wr.setCell ⟨g, k * 4, none⟩ (.int .i64 T)).setCell ⟨g, k * 4 + 1, none⟩ (.slice none 0 0)).setCell ⟨g, k * 4 + 2, none⟩ (.slice ba bn bc)).setCell ⟨g, k * 4 + 3, none⟩ (.bool false)).alloc (.cells #[.int .i64 T, .slice ra rn rc, .slice ba bn bc, .bool fr] 41)) = W4 at *
      clear hWN
      generalize wr = W0 at *
      go_loopw [43] (fun i wx => ∃ (q : Nat) (A : Option Addr) (c : Nat), q ≤ rn ∧ i = .int .i64 q ∧ Hid (CqI ord refs g n W0.heap.size k cur ⟨T, none, 0, 0, ba, bn, bc, false⟩ W0 q A c wx)) (fun i _ => rn - (intOf i).toNat)
      case atStart => exact ⟨0, _, _, Nat.zero_le _, rfl, HQ0⟩
      case round =>
        obtain ⟨q, A, c, hqr, rfl, hJ⟩ := hrel
        clear HQ0
        by_cases hlq : q < rn
        · have hbI : Below w.heap.size w wr := hI.out.below.trans (hJ.out.fr.below (by rw [HG.out]; exact Nat.le_refl _) (by rw [HG.out]; exact Nat.le_refl _) hI.out.below.size)
          obtain ⟨b6, o6, rfl, _, hc6⟩ := (HRE.out.below (hJ.out.fr.below (B := w.heap.size) (by rw [HG.out]; exact Nat.le_refl _) (by rw [HG.out]; exact Nat.le_refl _) hI.out.below.size) (Nat.le_refl _)).2.2 (by omega)
          have c6 := hc6 q hlq
          have hql : q < refs.length := by have := HRL.out; omega
          obtain ⟨hin, hor⟩ := HCJ.out (nth refs q) (nth_mem hql)
          have hwf := hin.wf hl
          have hor6 : ord.length ≤ 256 := by have := HDL.out; omega
          have hmap := HM.out.below hbI HM.out.lt
          have HLK : Hid (∀ wx, Below w.heap.size w wx → Sem.run Try.prog (Instr.lookup 77 (.map (some gp)) (.int .i64 (nth refs q)) false) wx = .ok (.int .i64 (plI ord (nth refs q))) wx) := fun wx hb => by
            have := (HM.out.below hb HM.out.lt).look placesT hwf
            rwa [plF_ref hor] at this
          obtain ⟨v', w8, hrun, hO8, hG8⟩ := (hJ.out.row.drewN 1).pushG (P := Try.prog) (t := 23) (ty := 23) Try.underlying23 carryI64 (by omega) (plI_wf hor6) (by rw [List.length_map, List.length_take]; omega) (show W0.heap.size ≤ (wr.drewN 1).heap.size from hJ.out.hb)
          rw [← refs_take hql] at hO8
          obtain ⟨A', c', rfl, _, _⟩ := hO8.arr
          have hlen8 : ((refs.take (q + 1)).map (plI ord)).length = q + 1 := by rw [List.length_map, List.length_take]; omega
          rw [hlen8] at hO8 hG8 hrun
          have hck : k < cur.length := by have := hI.out.len; omega
          have HN := Lib.hid (hJ.out.next hck hO8 hG8)
          have hn8 : nthG (cur.set k ⟨T, A, q, c, ba, bn, bc, false⟩) k = ⟨T, A, q, c, ba, bn, bc, false⟩ := nthG_put_same _ _ _ hck
          obtain ⟨⟨_, e1, _, _⟩, _⟩ := hJ.out.own.cells4 (j := k) (by simpa using hck)
          obtain ⟨⟨_, e8, _, _⟩, hf8⟩ := (hJ.out.own.keepAt (w' := w8) (hG8.block g (Nat.lt_of_lt_of_le hJ.out.lt hJ.out.hb) hJ.out.off)).cells4 (j := k) (by simpa using hck)
          have f8 := hf8 1 (by omega)
          rw [hn8] at e1 e8
          have hbx := HB.out.below hbI HB.out.lt
          have hS0 : (wr.drewN 1).cell? ⟨g, k * 4 + 1, none⟩ = some (.slice A q c) ∧ (wr.drewN 1).cell? ⟨gT, 3, none⟩ = some (.map (some gp)) ∧ Sem.run Try.prog (Instr.lookup 77 (.map (some gp)) (.int .i64 (nth refs q)) false) (wr.drewN 1) = .ok (.int .i64 (plI ord (nth refs q))) (wr.drewN 1) := ⟨e1, hbx.cell 3, HLK.out _ (below_drewN hbI 1)⟩
          have hb1 := (Below.refl _ (wr.drewN 1)).alloc (Nat.le_refl _) (.cells #[.int .i64 (plI ord (nth refs q))] 3)
          have hbI1 := (below_drewN hbI 1).trans (hb1.mono hbI.size)
          have hS1 : ((wr.drewN 1).alloc (.cells #[.int .i64 (plI ord (nth refs q))] 3)).cell? ⟨g, k * 4 + 1, none⟩ = some (.slice A q c) ∧ ((wr.drewN 1).alloc (.cells #[.int .i64 (plI ord (nth refs q))] 3)).cell? ⟨gT, 3, none⟩ = some (.map (some gp)) ∧ Sem.run Try.prog (Instr.lookup 77 (.map (some gp)) (.int .i64 (nth refs q)) false) ((wr.drewN 1).alloc (.cells #[.int .i64 (plI ord (nth refs q))] 3)) = .ok (.int .i64 (plI ord (nth refs q))) ((wr.drewN 1).alloc (.cells #[.int .i64 (plI ord (nth refs q))] 3)) :=
            ⟨(hb1.cell (p := ⟨g, k * 4 + 1, none⟩) (Nat.lt_of_lt_of_le hJ.out.lt hJ.out.hb)).trans e1, (HB.out.below hbI1 HB.out.lt).cell 3, HLK.out _ hbI1⟩
          have hbI8 : Below w.heap.size w w8 := (below_drewN hbI 1).trans (hG8.below hbI.size (fun b hb => by have h1 := hJ.out.row.row _ hb; have h2 := hI.out.below.size; omega))
          have hS8 : w8.cell? ⟨g, k * 4 + 1, none⟩ = some (.slice A q c) ∧ w8.cell? ⟨gT, 3, none⟩ = some (.map (some gp)) ∧ Sem.run Try.prog (Instr.lookup 77 (.map (some gp)) (.int .i64 (nth refs q)) false) w8 = .ok (.int .i64 (plI ord (nth refs q))) w8 := ⟨e8, (HB.out.below hbI8 HB.out.lt).cell 3, HLK.out _ hbI8⟩
          have HR := Lib.hid hrun
          clear hc6 hwf hmap hrun hO8 hG8 hf8 hbx hb1 hbI hbI1 hbI8 hin hor HLK hn8 hck hlen8
          generalize plI ord (nth refs q) = V at *
          generalize nth refs q = X at *
          go_wp2_with fail
          refine wp_region_Y 17 (fun w' => w'.cell? ⟨g, k * 4 + 1, none⟩ = some (.slice A q c) ∧ w'.cell? ⟨gT, 3, none⟩ = some (.map (some gp)) ∧ Sem.run Try.prog (Instr.lookup 77 (.map (some gp)) (.int .i64 X) false) w' = .ok (.int .i64 V) w') (by kernel_rfl) ?_
          change anyY _ _ _ _ _ _ _ _ _ (wr.drewN 1)
          refine anyY_pure (i := 0) (v := .slice (some ⟨g, 0, none⟩) n n) rfl rfl rfl (by kernel_rfl) (by kernel_rfl) (by kernel_rfl) (fun _ _ _ h => h) (Or.inl ⟨by rfl, fun wx _ => ?_⟩) (.inr hS0) ?_
          · go_simp
          refine anyY_pure (i := 1) (v := .int .i64 (k : Int)) rfl rfl rfl (by kernel_rfl) (by kernel_rfl) (by kernel_rfl) (fun _ _ _ h => h) (Or.inl ⟨by rfl, fun wx _ => ?_⟩) (.inr hS0) ?_
          · go_simp
          refine anyY_pure (i := 2) (v := .slice (some ⟨g, 0, none⟩) n n) rfl rfl rfl (by kernel_rfl) (by kernel_rfl) (by kernel_rfl) (fun _ _ _ h => h) (Or.inl ⟨by rfl, fun wx _ => ?_⟩) (.inr hS0) ?_
          · go_simp
          refine anyY_pure (i := 3) (v := .int .i64 (k : Int)) rfl rfl rfl (by kernel_rfl) (by kernel_rfl) (by kernel_rfl) (fun _ _ _ h => h) (Or.inl ⟨by rfl, fun wx _ => ?_⟩) (.inr hS0) ?_
          · go_simp
          refine anyY_pure (i := 4) (v := .pointer (some ⟨g, k * 4, none⟩)) rfl rfl rfl (by kernel_rfl) (by kernel_rfl) (by kernel_rfl) (fun _ _ _ h => h) (Or.inl ⟨by rfl, fun wx _ => ?_⟩) (.inr hS0) ?_
          · go_simp
          refine anyY_pure (i := 5) (v := .pointer (some ⟨g, k * 4 + 1, none⟩)) rfl rfl rfl (by kernel_rfl) (by kernel_rfl) (by kernel_rfl) (fun _ _ _ h => h) (Or.inl ⟨by rfl, fun wx _ => ?_⟩) (.inr hS0) ?_
          · go_simp
          refine anyY_take (i := 6) (v := .slice A q c) rfl rfl (by kernel_rfl) rfl (by kernel_rfl) (by kernel_rfl) (by kernel_rfl) (by kernel_rfl) (fun _ _ _ h => h) (Or.inl ⟨by rfl, fun wx hS => ?_⟩) hS0 ?_
          · obtain ⟨p1, p2, p3⟩ := hS
            go_simp
          refine anyY_pure (i := 7) (v := .pointer (some ⟨gT, 0, none⟩)) rfl rfl rfl (by kernel_rfl) (by kernel_rfl) (by kernel_rfl) (fun _ _ _ h => h) (Or.inl ⟨by rfl, fun wx _ => ?_⟩) (.inr hS0) ?_
          · go_simp
          refine anyY_pure (i := 8) (v := .pointer (some ⟨gT, 0, none⟩)) rfl rfl rfl (by kernel_rfl) (by kernel_rfl) (by kernel_rfl) (fun _ _ _ h => h) (Or.inl ⟨by rfl, fun wx _ => ?_⟩) (.inr hS0) ?_
          · go_simp
          refine anyY_pure (i := 9) (v := .pointer (some ⟨gT, 3, none⟩)) rfl rfl rfl (by kernel_rfl) (by kernel_rfl) (by kernel_rfl) (fun _ _ _ h => h) (Or.inl ⟨by rfl, fun wx _ => ?_⟩) (.inr hS0) ?_
          · go_simp
          refine anyY_take (i := 10) (v := .map (some gp)) rfl rfl (by kernel_rfl) rfl (by kernel_rfl) (by kernel_rfl) (by kernel_rfl) (by kernel_rfl) (fun _ _ _ h => h) (Or.inl ⟨by rfl, fun wx hS => ?_⟩) hS0 ?_
          · obtain ⟨p1, p2, p3⟩ := hS
            go_simp
          refine anyY_pure (i := 11) (v := .int .i64 X) rfl rfl rfl (by kernel_rfl) (by kernel_rfl) (by kernel_rfl) (fun _ _ _ h => h) (Or.inl ⟨by rfl, fun wx _ => ?_⟩) (.inr hS0) ?_
          · go_simp
          refine anyY_take (i := 12) (v := .int .i64 V) rfl rfl (by kernel_rfl) rfl (by kernel_rfl) (by kernel_rfl) (by kernel_rfl) (by kernel_rfl) (fun _ _ _ h => h) (Or.inl ⟨by rfl, fun wx hS => ?_⟩) hS0 ?_
          · obtain ⟨p1, p2, p3⟩ := hS
            go_simp
          refine anyY_only (i := 13) (by kernel_rfl) ?_
          refine wpOp_step rfl fun K' hK' => ?_
          go_simp
          refine hK' _ _ ⟨.inr (.inr hS1), ?_⟩
          clear hK'
          refine anyY_only (i := 14) (by kernel_rfl) ?_
          refine wpOp_step rfl fun K' hK' => ?_
          refine step_append_run rfl (.tmp 53) (.tmp 60) 23 rfl rfl rfl HR.out ?_
          refine hK' _ _ ⟨.inr (.inr hS8), ?_⟩
          clear hK'
          refine anyY_pure (i := 15) (v := .pointer (some ⟨g, k * 4, none⟩)) rfl rfl rfl (by kernel_rfl) (by kernel_rfl) (by kernel_rfl) (fun _ _ _ h => h) (Or.inl ⟨by rfl, fun wx _ => ?_⟩) (.inr hS8) ?_
          · go_simp
          refine anyY_pure (i := 16) (v := .pointer (some ⟨g, k * 4 + 1, none⟩)) rfl rfl rfl (by kernel_rfl) (by kernel_rfl) (by kernel_rfl) (fun _ _ _ h => h) (Or.inl ⟨by rfl, fun wx _ => ?_⟩) (.inr hS8) ?_
          · go_simp
          refine anyY_only (i := 17) (by kernel_rfl) ?_
          refine wpOp_step rfl fun K' hK' => ?_
          go_simp
          refine hK' _ _ ⟨.inr (.inl rfl), anyY_done (by kernel_rfl) ?_ _⟩
          clear hK' hS0 hS1 hS8 e1 e8 f8
          go_wp2
          go_roundw
          case rel => exact ⟨q + 1, _, _, by omega, by go_num, HN⟩
          case measure => simp [intOf]; omega
        · obtain rfl : q = rn := by omega
          have hJ' := hJ.out
          have hck : k < cur.length := by have := hI.out.len; omega
          have hbI : Below w.heap.size w wr := hI.out.below.trans (hJ'.fr.below (by rw [HG.out]; exact Nat.le_refl _) (by rw [HG.out]; exact Nat.le_refl _) hI.out.below.size)
          have HN : Hid (CpI zs ord g n w (k + 1) (cur.set k ⟨T, A, q, c, ba, bn, bc, false⟩) wr) := by
            refine ⟨hJ'.own, by rw [List.length_set]; exact hI.out.len, fun j2 hj2 => ?_, hbI, Nat.lt_of_lt_of_le hJ'.lt hJ'.hb⟩
            rcases Nat.lt_succ_iff_lt_or_eq.1 hj2 with h3 | h3
            · rw [nthG_put_other _ _ (by omega)]
              obtain ⟨o1, o2, o3⟩ := hI.out.obs j2 h3
              exact ⟨(o1.keepOff o2 o3 (fun i a1 a2 => hJ'.fr.block i a1 (fun e => a2 (by rw [e])) (fun e => a2 (by rw [e])))).more hJ'.hb, o2, o3⟩
            · subst h3
              rw [nthG_put_same _ _ _ hck, HX.out]
              have hrow := hJ'.row
              rw [List.take_of_length_le (by have := HRL.out; omega)] at hrow
              obtain ⟨A0, c0, hv0, h2, h4⟩ := hrow.arr
              rw [show (refs.map (plI ord)).length = q by rw [List.length_map]; exact HRL.out] at hv0 h2 h4
              injection hv0 with g1 g2 g3
              rw [← g1] at h4
              rw [← g3] at h2
              have hb9 := HBO.out.below (hJ'.fr.below (B := w.heap.size) (by rw [HG.out]; exact Nat.le_refl _) (by rw [HG.out]; exact Nat.le_refl _) hI.out.below.size) (Nat.le_refl _)
              exact ⟨⟨HTG.out, rfl, h2, HBC.out, h4, fun _ _ _ _ => Nat.zero_le _, hb9.more hbI.size, fun _ _ _ _ => Nat.zero_le _⟩, Off.of_high hJ'.row.high (fun b e => by injection e with e; have := hJ'.lt; omega), HBO.out.off (fun b e => by injection e with e; have := HG.out; omega)⟩
          clear hJ hJ' hbI hck
          go_wp2
          go_roundw
          case rel => exact ⟨k + 1, _, by omega, by go_num, HN⟩
          case measure => simp [intOf]; omega
    · obtain rfl : k = n := by omega
      have hcl := hI.out.len
      obtain ⟨A9, c9, hv9, _, hA9⟩ := hI.out.own.arr rawC_len
      injection hv9 with e1 e2 e3
      rw [← e1, hcl] at hA9
      have HA9 : Hid (ObsAt wr 0 wr.heap.size (some ⟨g, 0, none⟩) k cur (ord.map (obX zs ord))) := ⟨by rw [List.length_map]; exact HDL.out, hA9, fun j hj => by
        rw [nthG_map _ _ _ (by have := HDL.out; omega)]
        exact (hI.out.obs j hj).1⟩
      have HBB := Lib.hid hI.out.below
      clear hI hA9 e1 e2 e3
      go_wp2
      go_ret
      exact ⟨_, _, cur, rfl, HBB.out, HA9.out, fun j hj => by
        have h1 := HA9.out.2.2 j hj
        rw [nthG_map _ _ _ (by have := HDL.out; omega)] at h1
        have h2 := h1.refs.1
        have h3 := h1.body.1
        unfold obX refsX refWords at h2
        unfold obX bodyWords at h3
        simp only [List.length_map, List.length_take, List.length_drop] at h2 h3
        unfold maxLen
        omega⟩
end Go.Proofs.Ytjefbekdjgmmbaa
namespace Go.Proofs.Ytjefbekdjgmmbaa
open Go.RowKit
/-- What holds while objects are visited: those that were come to, by their words, are 'l'. -/
structure TvI (O S : Value) (gT gp base : Nat) (zs l : List Int) (W : World) (ord : List Int) (v : Value) (wr : World) : Prop where
  tr : TrV O S gT gp base ord v wr
  fr : TrF gT gp base W wr
  all : AllIn zs ord
  nd : ord.Nodup
  at_ : ord.map (atI zs) = l
section
variable {O S v : Value} {gT gp base : Nat} {zs l ord : List Int} {W w w' : World} {y : Int}
theorem addN_nodup (h : ord.Nodup) : (addN ord y).Nodup := by
  unfold addN
  split
  · exact h
  · rename_i hc
    rw [List.nodup_append]
    refine ⟨h, by simp, fun a ha b hb e => ?_⟩
    rw [List.mem_singleton] at hb
    subst hb e
    exact hc (.inr ha)
theorem TvI.visit (h : TvI O S gT gp base zs l W ord v w) (hy : InR zs y) (hl : zs.length ≤ 256) :
    Calls Try.prog 86 #[.pointer (some ⟨gT, 0, none⟩), .int .i64 y] w fun e w' => e = .returned (.tuple #[]) ∧ ∃ ord' v', TvI O S gT gp base zs (addN l (atI zs y)) W ord' v' w' := by
  have h1 := h.all.len h.nd
  have h2 := begins_len (zs := zs) (a := 0)
  refine (visit_any O S v gT gp base zs ord y w h.tr hy (hy.wf hl) (by omega)).mono ?_
  rintro e w' ⟨rfl, v', h3, h4⟩
  exact ⟨rfl, _, v', h3, h.fr.trans h4, h.all.add hy, addN_nodup h.nd, by rw [at_add h.all hy, h.at_]⟩
theorem TvI.len (h : TvI O S gT gp base zs l W ord v w) : ord.length = l.length := by rw [← h.at_, List.length_map]
end
/-- What holds while the words of the objects are noted: 'k' of them, and 'j' numbers. -/
structure T1I (O : Value) (gT gp gn base : Nat) (zs : List Int) (w3 : World) (k j : Nat) (v : Value) (wr : World) : Prop where
  box : Box wr gT 102 #[O, v, .slice none 0 0, .map (some gp)]
  own : Own .i64 3 wr base v ((startsI zs).take k)
  plc : MapF Try.prog .i64 .i64 3 3 wr gp 1 (plF [])
  num : MapF Try.prog .i64 .i64 3 3 wr gn j (numTo zs j)
  below : Below w3.heap.size w3 wr
  o1 : w3.heap.size ≤ gp
  o2 : gp < gT
  o3 : gT < gn
  o4 : gn < base
  hb : base ≤ wr.heap.size
section
variable {O v v' : Value} {gT gp gn base : Nat} {zs : List Int} {w3 wr w8 w10 : World} {k j : Nat}
theorem T1I.off (h : T1I O gT gp gn base zs w3 k j v wr) {g : Nat} (hg : g < base) : v.ownBlock ≠ some g := fun e => by have := h.own.row _ e; omega
theorem T1I.alloc (h : T1I O gT gp gn base zs w3 k j v wr) {w' : World} (hb : Below wr.heap.size wr w') : T1I O gT gp gn base zs w3 k j v w' :=
  ⟨h.box.below hb h.box.lt, h.own.below hb, h.plc.below hb h.plc.lt, h.num.below hb h.num.lt, h.below.trans (hb.mono h.below.size), h.o1, h.o2, h.o3, h.o4, Nat.le_trans h.hb hb.size⟩
theorem T1I.next (h : T1I O gT gp gn base zs w3 k j v wr) (hO : Own .i64 3 w8 base v' ((startsI zs).take (k + 1))) (hG : Grew wr v w8 v') : T1I O gT gp gn base zs w3 (k + 1) j v' (w8.setCell ⟨gT, 1, none⟩ v') := by
  have o1 := h.o1
  have o2 := h.o2
  have o3 := h.o3
  have o4 := h.o4
  obtain ⟨b1, b2⟩ := h.box.grew hG (h.off (by omega))
  obtain ⟨m1, _⟩ := h.plc.grew hG (h.off (by omega))
  obtain ⟨n1, _⟩ := h.num.grew hG (h.off (by omega))
  exact ⟨b1.set 1 v', hO.setOff b2 _ _, m1.setOther (by omega) _ _, n1.setOther (by omega) _ _, below_set (h.below.trans (hG.below h.below.size (fun b e => by have := h.own.row _ e; omega))) (by omega) _ _, o1, o2, o3, o4, by rw [size_setCell]; exact Nat.le_trans h.hb hG.size⟩
theorem T1I.store (h : T1I O gT gp gn base zs w3 k j v wr) (hm : MapF Try.prog .i64 .i64 3 3 w10 gn (j + 1) (put (numTo zs j) (st zs j) j)) (hg : wr.grownBy w10 (some gn)) : T1I O gT gp gn base zs w3 k (j + 1) v w10 := by
  have o1 := h.o1
  have o2 := h.o2
  have o3 := h.o3
  have o4 := h.o4
  refine ⟨h.box.grown hg (by omega), h.own.keepB fun i a1 a2 => hg.block i a2 (by intro e; injection e with e; omega), h.plc.keep (hg.block gp h.plc.lt (by intro e; injection e with e; omega)), hm, h.below.trans (grown_below hg (by omega) h.below.size), o1, o2, o3, o4, Nat.le_trans h.hb hg.size⟩
end
/-- What traverse answers. -/
def TravP (zs fr : List Int) (w : World) (e : Ending) (w' : World) : Prop := Below w.heap.size w w' ∧
  ((fromE zs fr ≠ 0 ∧ e = .returned (.tuple #[.pointer none, .int .i64 (fromE zs fr)])) ∨
   (fromE zs fr = 0 ∧ ∃ (gT gp m oc sc n dc N : Nat) (OA S D : Option Addr) (raws : List Raw) (ord : List Int),
      e = .returned (.tuple #[.pointer (some ⟨gT, 0, none⟩), .int .i64 0]) ∧ w.heap.size ≤ gT ∧ Box w' gT 102 #[.slice OA m oc, .slice S m sc, .slice D n dc, .map (some gp)] ∧
      m = (begins zs 0).length ∧ ArrG rawC 4 w' w'.heap.size OA m raws ∧ (∀ j, j < m → ObV w' 0 w'.heap.size (nthG raws j) (obOf zs (st zs j))) ∧ Arr .i64 w' w'.heap.size S m (startsI zs) ∧ Arr .i64 w' w'.heap.size D n ord ∧
      MapF Try.prog .i64 .i64 3 3 w' gp N (plF ord) ∧ AllIn zs ord ∧ ord.map (atI zs) = camL zs fr))
set_option maxRecDepth 8000 in
set_option maxHeartbeats 1000000 in
theorem traverse_bad (A F : Option Addr) (n c nf cf : Nat) (zs fr : List Int) (w : World) (hn : n ≤ maxLen) (hnc : n ≤ c) (ha : Arr .u64 w w.heap.size A n zs) (hnf : nf ≤ maxLen) (hfr : Arr .i64 w w.heap.size F nf fr) (h0 : fromE zs fr ≠ 0) :
    Calls Try.prog 56 #[.slice A n c, .slice F nf cf] w (TravP zs fr w) := by
  have HR := Lib.hid (Reach_any A F n c nf cf zs fr w hn hnc ha hnf hfr)
  have HZ := Lib.hid h0
  have hbz : (fromE zs fr != 0) = true := by simpa using h0
  clear ha hfr h0 hn hnc hnf
  go_enter Try.func56, Try.ntmps56
  go_wp2_with fail
  refine HR.out.mono ?_
  rintro e w1 ⟨A', k, c', rfl, b1, _⟩
  have HB := Lib.hid b1
  clear b1 HR
  go_wp2
  go_ret2
  exact ⟨HB.out, .inl ⟨HZ.out, rfl⟩⟩
set_option maxRecDepth 8000 in
set_option maxHeartbeats 4000000 in
theorem traverse_good (A F : Option Addr) (n c nf cf : Nat) (zs fr : List Int) (w : World) (hn : n ≤ maxLen) (hnc : n ≤ c) (ha : Arr .u64 w w.heap.size A n zs) (hnf : nf ≤ maxLen) (hfr : Arr .i64 w w.heap.size F nf fr) (h0 : fromE zs fr = 0) :
    Calls Try.prog 56 #[.slice A n c, .slice F nf cf] w (TravP zs fr w) := by
  obtain ⟨hao, hfo⟩ := fromE_zero h0
  have h256 := arena_len hao
  have hsp := (arErr_zero hao).1
  have hL := spList_ok hsp
  obtain ⟨m, hm⟩ : ∃ m, (begins zs 0).length = m := ⟨_, rfl⟩
  have hbl := begins_len (zs := zs) (a := 0)
  have hLl : (spList zs).length = m := by rw [hL, List.length_map, hm]
  have hspot : ∀ k, k < m → nthG (spList zs) k = spOf zs (st zs k) ∧ st zs k < 256 := fun k hk => by
    have h1 := begins_mem (st_mem (zs := zs) (k := k) (by omega))
    exact ⟨by rw [hL, nthG_map _ _ _ (by omega)]; rfl, by omega⟩
  have HS := Lib.hid hspot
  have HM := Lib.hid hm
  have HZ0 := Lib.hid h0
  have HAO := Lib.hid hao
  have HFO := Lib.hid hfo
  have HWF := Lib.hid ha.2.1
  have HF := Lib.hid hfr
  have HR := Lib.hid (Reach_any A F n c nf cf zs fr w hn hnc ha hnf hfr)
  have HSP := Lib.hid (fun wx (hb : Below w.heap.size w wx) => Spots_any A n c zs wx hn (ha.later hb))
  have HOB := Lib.hid (fun wx (hb : Below w.heap.size w wx) => Objects_any A n c zs wx hn hnc (ha.later hb))
  have hm256 : m ≤ 256 := by omega
  unfold SpotsP at HSP
  rw [hLl] at HSP
  rw [hsp] at HSP
  unfold ObjectsP at HOB
  rw [hao] at HOB
  unfold ReachP at HR
  rw [h0] at HR
  have hmm := @run_makeMap Try.prog
  have h1wf : (Lit.int .i64 (-1)).wf = true := by decide
  clear ha hfr h0 hao hfo h256 hsp hL hm hbl hLl hspot hn hnc
  go_enter Try.func56, Try.ntmps56
  go_wp2_with fail
  refine HR.out.mono ?_
  rintro e w1 ⟨A', k', c', rfl, b1, _⟩
  have HB1 := Lib.hid b1
  have HS1 := Lib.hid (HSP.out w1 b1)
  clear b1 HR HSP
  go_wp2_with fail
  refine HS1.out.mono ?_
  rintro e w2 ⟨A2, c2, rfl, b2, _, hA2, _⟩
  have HB2 := Lib.hid (bthen HB1.out b2)
  have HO2 := Lib.hid (HOB.out w2 HB2.out)
  have HA2 := Lib.hid hA2
  clear b2 HS1 HOB hA2 HB1
  go_wp2_with fail
  refine HO2.out.mono ?_
  rintro e w3 ⟨OA, k3, oc, rfl, b3, _, hob⟩
  have HB3 := Lib.hid (bthen HB2.out b3)
  have HA3 := Lib.hid (HA2.out.below b3 (Nat.le_refl _))
  have HSZ := Lib.hid b3.size
  rcases hob with ⟨hob, _⟩ | ⟨_, hk3, raws, hraws, hobv⟩
  · exact absurd rfl hob
  rw [HM.out] at hk3
  have hk3 := hk3.symm
  subst hk3
  have HRW := Lib.hid hraws
  have HOV := Lib.hid hobv
  clear b3 HO2 hraws hobv HB2 HA2
  go_wp2_with (refine wpList_insert_map placesT _ rfl _ _ _ rfl rfl rfl rfl (MapF.made Try.prog .i64 .i64 3 3 w3) (by unfold maxLen; omega) h1wf h1wf ?_; intro w4 hm4 hg4)
  have hgp := hm4.lt
  have bm : Below w3.heap.size w3 w4 := ((Below.refl _ w3).alloc (Nat.le_refl _) _).trans (grown_below hg4 (Nat.le_refl _) (by simp))
  have HI : Hid (T1I (.slice OA m oc) w4.heap.size w3.heap.size (w4.heap.size + 1) (w4.heap.size + 2) zs w3 0 0 (.slice none 0 0) ((w4.alloc (.cells #[.slice OA m oc, .slice none 0 0, .slice none 0 0, .map (some w3.heap.size)] 102)).alloc (.map #[] 0))) := by
    have b5 := bm.alloc (Nat.le_of_lt hgp) (.cells #[.slice OA m oc, .slice none 0 0, .slice none 0 0, .map (some w3.heap.size)] 102)
    have hs5 : (w4.alloc (.cells #[.slice OA m oc, .slice none 0 0, .slice none 0 0, .map (some w3.heap.size)] 102)).heap.size = w4.heap.size + 1 := by simp
    have n5 := MapF.made Try.prog .i64 .i64 3 3 (w4.alloc (.cells #[.slice OA m oc, .slice none 0 0, .slice none 0 0, .map (some w3.heap.size)] 102))
    rw [hs5] at n5
    exact ⟨(Box.new w4 102 _).alloc _, Own.nil, (by rw [plF_nil]; exact (hm4.alloc _).alloc _), n5, b5.alloc (by rw [hs5]; omega) _, Nat.le_refl _, hgp, Nat.lt_succ_self _, Nat.lt_succ_self _, by simp⟩
  generalize ((w4.alloc (.cells #[.slice OA m oc, .slice none 0 0, .slice none 0 0, .map (some w3.heap.size)] 102)).alloc (.map #[] 0)) = W6 at *
  clear hmm hm4 hg4 bm
  obtain ⟨gT, hgT⟩ : ∃ gT, w4.heap.size = gT := ⟨_, rfl⟩
  obtain ⟨gp, hgp3⟩ : ∃ gp, w3.heap.size = gp := ⟨_, rfl⟩
  obtain ⟨gn, hgn⟩ : ∃ gn, gT + 1 = gn := ⟨_, rfl⟩
  have HGP := Lib.hid hgp3
  rw [hgT, hgp3] at HI
  rw [show gT + 2 = gn + 1 by omega, hgn] at HI
  rw [hgT, hgp3, hgn]
  clear hgT hgp3 hgn hgp
  go_loopw [53] (fun i wr => ∃ (k : Nat) (v : Value), k ≤ m ∧ i = .int .i64 k ∧ Hid (T1I (.slice OA m oc) gT gp gn (gn + 1) zs w3 k k v wr)) (fun i _ => m - (intOf i).toNat)
  case atStart => exact ⟨0, _, Nat.zero_le _, rfl, HI⟩
  case round =>
    obtain ⟨k, v, hk, rfl, hI⟩ := hrel
    clear HI
    by_cases hlt : k < m
    · obtain ⟨hs, hsn⟩ := HS.out k hlt
      have hkb : k < (begins zs 0).length := by rw [HM.out]; exact hlt
      obtain ⟨b, off, rfl, _, q0, q1, q2, q3, q4⟩ := (HA3.out.below hI.out.below HSZ.out).spot hlt
      rw [hs] at q0 q1 q2 q3 q4
      unfold spOf at q0 q1 q2 q3 q4
      simp only at q0 q1 q2 q3 q4
      have hwk : (Lit.int .i64 (k : Int)).wf = true := wf_i64.2 (by omega)
      have hws : (Lit.int .i64 (st zs k : Int)).wf = true := wf_i64.2 (by omega)
      have hst : (startsI zs).take (k + 1) = (startsI zs).take k ++ [(st zs k : Int)] := by
        rw [← nth_starts hkb, nth_get _ _ (by unfold startsI; simpa using hkb), List.take_succ_eq_append_getElem (by unfold startsI; simpa using hkb)]
      have hX := ((hI.out.alloc ((Below.refl _ wr).alloc (Nat.le_refl _) (.cells #[.int .i64 (st zs k), .int .i64 (vR (nth zs (st zs k))), .int .i64 (vB (nth zs (st zs k))), .int .i64 (vT (nth zs (st zs k))), .bool (vF (nth zs (st zs k)))] 80))).alloc (below_drewN (Below.refl _ _) 1))
      have bX : Box ((wr.alloc (.cells #[.int .i64 (st zs k), .int .i64 (vR (nth zs (st zs k))), .int .i64 (vB (nth zs (st zs k))), .int .i64 (vT (nth zs (st zs k))), .bool (vF (nth zs (st zs k)))] 80)).drewN 1) wr.heap.size 80 #[.int .i64 (st zs k), .int .i64 (vR (nth zs (st zs k))), .int .i64 (vB (nth zs (st zs k))), .int .i64 (vT (nth zs (st zs k))), .bool (vF (nth zs (st zs k)))] := Box.new wr 80 _
      have hwz : gn + 1 ≤ wr.heap.size := hI.out.hb
      have hrl := hI.out.own.rowLt
      clear hI hs
      obtain ⟨s, hse⟩ : ∃ s, st zs k = s := ⟨_, rfl⟩
      have HSE := Lib.hid hse
      rw [hse] at q0 q1 q2 q3 q4 hws hst hX bX hsn
      clear hse
      generalize vR (nth zs s) = R at *
      generalize vB (nth zs s) = Bd at *
      generalize vT (nth zs s) = T at *
      generalize vF (nth zs s) = Fr at *
      go_wp2_with fail
      clear q0 q1 q2 q3 q4
      obtain ⟨gx, hgx⟩ : ∃ gx, wr.heap.size = gx := ⟨_, rfl⟩
      rw [hgx] at bX hwz hrl
      rw [hgx]
      clear hgx
      refine wp_region_Y 11 (fun w' => w'.cell? ⟨gT, 1, none⟩ = some v ∧ w'.cell? ⟨gx, 0, none⟩ = some (.int .i64 s)) (by kernel_rfl) ?_
      change anyY _ _ _ _ _ _ _ _ _ ((wr.alloc (.cells #[.int .i64 s, .int .i64 R, .int .i64 Bd, .int .i64 T, .bool Fr] 80)).drewN 1)
      generalize ((wr.alloc (.cells #[.int .i64 s, .int .i64 R, .int .i64 Bd, .int .i64 T, .bool Fr] 80)).drewN 1) = W at *
      have o3 := hX.o3
      obtain ⟨v', w8, hrun, hO8, hG8⟩ := hX.own.pushG (P := Try.prog) (t := 23) (ty := 23) Try.underlying23 carryI64 (by omega) hws (by rw [List.length_take]; omega) hX.hb
      rw [← hst] at hO8
      have hN := hX.next hO8 hG8
      have hoff : v.ownBlock ≠ some gx := fun e => by have := hrl _ e; omega
      have hbT := (hX.box.grew hG8 (hX.off (by omega))).1
      obtain ⟨hbx8, _⟩ := bX.grew hG8 hoff
      have hS0 : W.cell? ⟨gT, 1, none⟩ = some v ∧ W.cell? ⟨gx, 0, none⟩ = some (.int .i64 s) := ⟨hX.box.cell 1, bX.cell 0⟩
      have hb1 := (Below.refl _ W).alloc (Nat.le_refl _) (.cells #[.int .i64 s] 3)
      have hS1 : (W.alloc (.cells #[.int .i64 s] 3)).cell? ⟨gT, 1, none⟩ = some v ∧ (W.alloc (.cells #[.int .i64 s] 3)).cell? ⟨gx, 0, none⟩ = some (.int .i64 s) :=
        ⟨(hb1.cell (p := ⟨gT, 1, none⟩) hX.box.lt).trans hS0.1, (hb1.cell (p := ⟨gx, 0, none⟩) bX.lt).trans hS0.2⟩
      have hS8 : w8.cell? ⟨gT, 1, none⟩ = some v ∧ w8.cell? ⟨gx, 0, none⟩ = some (.int .i64 s) := ⟨hbT.cell 1, hbx8.cell 0⟩
      have f8 := hbT.soft 1
      have hx9 : (w8.setCell ⟨gT, 1, none⟩ v').cell? ⟨gx, 0, none⟩ = some (.int .i64 s) := (cell_setOther _ (by omega) _ _ _).trans hS8.2
      have HN := Lib.hid hN
      have HR := Lib.hid hrun
      obtain ⟨A8, c8, rfl, _, _⟩ := hO8.arr
      obtain ⟨Av, cv, rfl, _, _⟩ := hX.own.arr
      clear hrun hO8 hG8 hN hoff hbT hbx8 hb1 hX bX
      generalize ((startsI zs).take k).length = L0 at *
      generalize ((startsI zs).take (k + 1)).length = L1 at *
      refine anyY_pure (i := 0) (v := .pointer (some ⟨gT, 0, none⟩)) rfl rfl rfl (by kernel_rfl) (by kernel_rfl) (by kernel_rfl) (fun _ _ _ h => h) (Or.inl ⟨by rfl, fun wx _ => ?_⟩) (.inr hS0) ?_
      · go_simp
      refine anyY_pure (i := 1) (v := .pointer (some ⟨gT, 0, none⟩)) rfl rfl rfl (by kernel_rfl) (by kernel_rfl) (by kernel_rfl) (fun _ _ _ h => h) (Or.inl ⟨by rfl, fun wx _ => ?_⟩) (.inr hS0) ?_
      · go_simp
      refine anyY_pure (i := 2) (v := .pointer (some ⟨gT, 0, none⟩)) rfl rfl rfl (by kernel_rfl) (by kernel_rfl) (by kernel_rfl) (fun _ _ _ h => h) (Or.inl ⟨by rfl, fun wx _ => ?_⟩) (.inr hS0) ?_
      · go_simp
      refine anyY_pure (i := 3) (v := .pointer (some ⟨gT, 1, none⟩)) rfl rfl rfl (by kernel_rfl) (by kernel_rfl) (by kernel_rfl) (fun _ _ _ h => h) (Or.inl ⟨by rfl, fun wx _ => ?_⟩) (.inr hS0) ?_
      · go_simp
      refine anyY_take (i := 4) (v := .slice Av L0 cv) rfl rfl (by kernel_rfl) rfl (by kernel_rfl) (by kernel_rfl) (by kernel_rfl) (by kernel_rfl) (fun _ _ _ h => h) (Or.inl ⟨by rfl, fun wx hS => ?_⟩) hS0 ?_
      · obtain ⟨p1, p2⟩ := hS
        go_simp
      refine anyY_pure (i := 5) (v := .pointer (some ⟨gx, 0, none⟩)) rfl rfl rfl (by kernel_rfl) (by kernel_rfl) (by kernel_rfl) (fun _ _ _ h => h) (Or.inl ⟨by rfl, fun wx _ => ?_⟩) (.inr hS0) ?_
      · go_simp
      refine anyY_take (i := 6) (v := .int .i64 s) rfl rfl (by kernel_rfl) rfl (by kernel_rfl) (by kernel_rfl) (by kernel_rfl) (by kernel_rfl) (fun _ _ _ h => h) (Or.inl ⟨by rfl, fun wx hS => ?_⟩) hS0 ?_
      · obtain ⟨p1, p2⟩ := hS
        go_simp
      refine anyY_only (i := 7) (by kernel_rfl) ?_
      refine wpOp_step rfl fun K' hK' => ?_
      go_simp
      refine hK' _ _ ⟨.inr (.inr hS1), ?_⟩
      clear hK'
      refine anyY_only (i := 8) (by kernel_rfl) ?_
      refine wpOp_step rfl fun K' hK' => ?_
      refine step_append_run rfl (.tmp 62) (.tmp 65) 23 rfl rfl rfl HR.out ?_
      refine hK' _ _ ⟨.inr (.inr hS8), ?_⟩
      clear hK'
      refine anyY_pure (i := 9) (v := .pointer (some ⟨gT, 0, none⟩)) rfl rfl rfl (by kernel_rfl) (by kernel_rfl) (by kernel_rfl) (fun _ _ _ h => h) (Or.inl ⟨by rfl, fun wx _ => ?_⟩) (.inr hS8) ?_
      · go_simp
      refine anyY_pure (i := 10) (v := .pointer (some ⟨gT, 1, none⟩)) rfl rfl rfl (by kernel_rfl) (by kernel_rfl) (by kernel_rfl) (fun _ _ _ h => h) (Or.inl ⟨by rfl, fun wx _ => ?_⟩) (.inr hS8) ?_
      · go_simp
      refine anyY_only (i := 11) (by kernel_rfl) ?_
      obtain ⟨e8, _⟩ := hS8
      refine wpOp_step rfl fun K' hK' => ?_
      go_simp
      refine hK' _ _ ⟨.inr (.inl rfl), anyY_done (by kernel_rfl) ?_ _⟩
      clear hK' hS0 hS1 e8 f8
      generalize (w8.setCell ⟨gT, 1, none⟩ (.slice A8 L1 c8)) = W9 at *
      go_wp2_with (refine wpList_store_map placesT _ rfl _ _ _ rfl rfl rfl rfl HN.out.num (by unfold maxLen; omega) hws hwk ?_; intro w10 hm10 hg10)
      have HN2 : Hid (T1I (.slice OA m oc) gT gp gn (gn + 1) zs w3 (k + 1) (k + 1) (.slice A8 L1 c8) w10) := HN.out.store (by rw [HSE.out]; exact hm10) hg10
      clear hm10 hg10
      go_roundw
      case rel => exact ⟨k + 1, _, by omega, by go_num, HN2⟩
      case measure => simp [intOf]; omega
    · obtain rfl : k = m := by omega
      have hkS : (startsI zs).take k = startsI zs := List.take_of_length_le (by unfold startsI; rw [List.length_map, HM.out]; exact Nat.le_refl _)
      have hown := hI.out.own
      rw [hkS] at hown
      obtain ⟨S, sc, hv, hsc, hS⟩ := hown.arr
      have hsl : (startsI zs).length = k := by unfold startsI; rw [List.length_map, HM.out]
      rw [hsl] at hv hsc hS
      have hhi : High (gn + 1) S k := by rw [hv] at hown; exact hown.high
      subst hv
      have HS0 := Lib.hid hS
      have HHI := Lib.hid hhi
      have HT1 := Lib.hid hI.out
      have o1 := hI.out.o1
      have o2 := hI.out.o2
      have o3 := hI.out.o3
      have o5 := hI.out.hb
      have HTV : Hid (TvI (.slice OA k oc) (.slice S k sc) gT gp wr.heap.size zs (addL [] (fr.take 0)) wr [] (.slice none 0 0) wr) :=
        ⟨⟨hI.out.box, Own.nil, hI.out.plc, by omega, by omega, by omega, Nat.le_refl _⟩, TrF.refl, AllIn.nil, List.nodup_nil, by rw [List.take_zero]; rfl⟩
      have HB4 := Lib.hid (HB3.out.trans (hI.out.below.mono HB3.out.size))
      have HW3 := Lib.hid hI.out.below
      have hmz : w3.heap.size ≤ gp := o1
      clear hI hown hkS hsl hS hhi HS HA3 HSZ
      go_wp2_with fail
      generalize wr = W0 at *
      go_loopw [76] (fun i wx => ∃ (q : Nat) (ord : List Int) (v : Value), q ≤ nf ∧ i = .int .i64 q ∧ Hid (TvI (.slice OA k oc) (.slice S k sc) gT gp W0.heap.size zs (addL [] (fr.take q)) W0 ord v wx)) (fun i _ => nf - (intOf i).toNat)
      case atStart => exact ⟨0, _, _, Nat.zero_le _, rfl, HTV⟩
      case round =>
        obtain ⟨q, ord, v, hq, rfl, hJ⟩ := hrel
        clear HTV
        have hwz : w.heap.size ≤ gp := Nat.le_trans HB3.out.size o1
        by_cases hlq : q < nf
        · have hbw : Below w.heap.size w wr := HB4.out.trans (hJ.out.fr.below (by omega) (by omega) (by omega))
          obtain ⟨bf, of, rfl, _, hcf⟩ := (HF.out.below hbw (Nat.le_refl _)).2.2 (by omega)
          have c1 := hcf q hlq
          have hqf : q < fr.length := by have := HF.out.1; omega
          have hxl := HFO.out (nth fr q) (nth_mem hqf)
          have hx2 := lives_lt hxl
          obtain ⟨j, hj1, hj2, hj3⟩ := numTo_live hxl
          rw [HM.out] at hj1
          have h256 := arena_len HAO.out
          have hwx : (Lit.int .i64 (nth fr q)).wf = true := wf_i64.2 (by omega)
          have hlk := (HT1.out.num.keep (hJ.out.fr.block gn (by omega) (by omega) (by omega))).look placesT hwx
          rw [hj1] at hlk
          simp only [Option.getD_some] at hlk
          have HV := Lib.hid (hJ.out.visit (y := (j : Int)) (.inr ⟨by omega, by omega⟩) h256)
          rw [atI_nat, hj3, ← addL_take hqf] at HV
          clear hcf hqf hxl hx2 hj1 hj2 hj3 hbw hJ
          generalize nth fr q = X at *
          have hnf2 := hnf
          unfold maxLen at hnf2
          go_wp2_with fail
          refine HV.out.mono ?_
          rintro e w7 ⟨rfl, ord', v', hN⟩
          have HN := Lib.hid hN
          clear hN HV hlk c1
          go_wp2
          go_roundw
          case rel => exact ⟨q + 1, _, _, by omega, by go_num, HN⟩
          case measure => simp [intOf]; omega
        · obtain rfl : q = nf := by omega
          have HT3 : Hid (TvI (.slice OA k oc) (.slice S k sc) gT gp W0.heap.size zs (camT zs fr 0) W0 ord v wr) := by
            have h1 := hJ.out
            rw [List.take_of_length_le (by have := HF.out.1; omega)] at h1
            exact h1
          clear hJ
          have h256 := arena_len HAO.out
          have HB0 := HB4.out
          go_wp2_with fail
          clear HF
          go_loopw [17] (fun i wx => ∃ (q : Nat) (ord : List Int) (v : Value), q ≤ ord.length ∧ i = .int .i64 q ∧ Hid (TvI (.slice OA k oc) (.slice S k sc) gT gp W0.heap.size zs (camT zs fr q) W0 ord v wx)) (fun i _ => 300 - (intOf i).toNat)
          case atStart => exact ⟨0, _, _, Nat.zero_le _, rfl, HT3⟩
          case round =>
            obtain ⟨q, ord, v, hq, rfl, hJ⟩ := hrel
            clear HT3
            have hom : ord.length ≤ k := by have := hJ.out.all.len hJ.out.nd; rw [HM.out] at this; exact this
            obtain ⟨D, dc, rfl, hdc, hD⟩ := hJ.out.tr.own.arr
            have q2 : wr.cell? ⟨gT, 2, none⟩ = some (.slice D ord.length dc) := hJ.out.tr.box.cell 2
            by_cases hlq : q < ord.length
            · have hb3 : Below w3.heap.size w3 wr := HW3.out.trans (hJ.out.fr.below (by omega) (by omega) (by omega))
              have c2' := hD.2.2 (by omega)
              obtain ⟨bd, od, rfl, _, hcd⟩ := c2'
              have c1 := hcd q hlq
              obtain ⟨j, hj, hjm⟩ := hJ.out.all.atIn hlq
              rw [HM.out] at hjm
              rw [hj] at c1
              obtain ⟨bo, oo, rfl, _, _, x1, _, _⟩ := (HRW.out.below hb3 (Nat.le_refl _)).raw hjm
              have hVj := HOV.out j hjm
              have q0 : wr.cell? ⟨gT, 0, none⟩ = some (.slice (some ⟨bo, oo, none⟩) k oc) := hJ.out.tr.box.cell 0
              have hql : q < (camT zs fr q).length := by rw [← hJ.out.len]; exact hlq
              have hnt : nth (camT zs fr q) q = (st zs j : Int) := by
                rw [← hJ.out.at_, nth_at hlq, hj, atI_nat]
              have hli : (st zs j : Int) ∈ livesI zs := by rw [← hnt]; exact camT_lives HWF.out HZ0.out q _ (nth_mem hql)
              obtain ⟨hr1, hr2⟩ := refs_at HWF.out HAO.out hli
              have hmore := camT_more hql
              rw [hnt] at hmore
              unfold nxOf at hmore
              rw [Int.toNat_natCast] at hmore
              obtain ⟨r, hr⟩ : ∃ r, nthG raws j = r := ⟨_, rfl⟩
              rw [hr] at hVj x1
              have hrefs : Arr .i64 w3 w3.heap.size r.ra r.rn (refsX zs (st zs j)) := hVj.refs
              have hRL := hrefs.1
              have HRE := Lib.hid hrefs
              have HR1 := Lib.hid hr1
              have HR2 := Lib.hid hr2
              have HMO := Lib.hid hmore
              have HRL := Lib.hid hRL
              have hR256 : r.rn ≤ 256 := by
                rw [← hRL]
                unfold refsX refWords
                simp only [List.length_map, List.length_take, List.length_drop]
                omega
              have HJ0 : Hid (TvI (.slice (some ⟨bo, oo, none⟩) k oc) (.slice S k sc) gT gp W0.heap.size zs (addL (camT zs fr q) ((named zs (st zs j)).take 0)) W0 ord (.slice (some ⟨bd, od, none⟩) ord.length dc) wr) := hJ.out
              have hq256 : q < 256 := by omega
              have hfr := hJ.out.fr
              have HLE : Hid (q + 1 ≤ (camT zs fr q).length) := hql
              clear hJ hb3 hcd hj hVj hr hrefs hRL hr1 hr2 hmore hnt hli hql hD
              generalize named zs (st zs j) = nm at *
              generalize refsX zs (st zs j) = refs at *
              obtain ⟨T, ra, rn, rc, ba, bn, bc, frr⟩ := r
              simp only at x1 HRE HRL hR256
              obtain ⟨n0, hn0⟩ : ∃ n0, ord.length = n0 := ⟨_, rfl⟩
              rw [hn0] at q2 hlq hom hq hdc
              clear hn0
              go_wp2_with fail
              clear c1 x1 q0 q2
              generalize wr = W1 at *
              go_loopw [107] (fun i wx => ∃ (t : Nat) (ord : List Int) (v : Value), t ≤ rn ∧ i = .int .i64 t ∧ Hid (TvI (.slice (some ⟨bo, oo, none⟩) k oc) (.slice S k sc) gT gp W0.heap.size zs (addL (camT zs fr q) (nm.take t)) W0 ord v wx)) (fun i _ => rn - (intOf i).toNat)
              case atStart => exact ⟨0, _, _, Nat.zero_le _, rfl, HJ0⟩
              case round =>
                obtain ⟨t, ord3, v3, ht, rfl, hJ⟩ := hrel
                clear HJ0
                by_cases hlt : t < rn
                · obtain ⟨bf, of, rfl, _, hcf⟩ := (HRE.out.below (HW3.out.trans (hJ.out.fr.below (by omega) (by omega) (by omega))) (Nat.le_refl _)).2.2 (by omega)
                  have c1 := hcf t hlt
                  have htr : t < refs.length := by have := HRL.out; omega
                  have htn : t < nm.length := by rw [← HR1.out, List.length_map]; exact htr
                  have hin := HR2.out (nth refs t) (nth_mem htr)
                  have hat : atI zs (nth refs t) = nth nm t := by rw [← HR1.out, nth_at htr]
                  have HV := Lib.hid (hJ.out.visit hin h256)
                  rw [hat, ← addL_take htn] at HV
                  clear hcf htr htn hin hat hJ
                  generalize nth refs t = X at *
                  go_wp2_with fail
                  refine HV.out.mono ?_
                  rintro e w7 ⟨rfl, ord', v', hN⟩
                  have HN := Lib.hid hN
                  clear hN HV c1
                  go_wp2
                  go_roundw
                  case rel => exact ⟨t + 1, _, _, by omega, by go_num, HN⟩
                  case measure => simp [intOf]; omega
                · obtain rfl : t = rn := by omega
                  have hlen : nm.length = t := by rw [← HR1.out, List.length_map]; exact HRL.out
                  have HT4 : Hid (TvI (.slice (some ⟨bo, oo, none⟩) k oc) (.slice S k sc) gT gp W0.heap.size zs (camT zs fr (q + 1)) W0 ord3 v3 wr) := by
                    have h1 := hJ.out
                    rw [List.take_of_length_le (by omega), ← HMO.out] at h1
                    exact h1
                  have hq1 : q + 1 ≤ ord3.length := by
                    rw [HT4.out.len, HMO.out]
                    exact Nat.le_trans HLE.out addL_len
                  clear hJ hlen
                  go_wp2
                  go_roundw
                  case rel => exact ⟨q + 1, ord3, v3, hq1, by go_num, HT4⟩
                  case measure => simp [intOf]; omega
            · obtain hqe : q = ord.length := by omega
              have hcl : (camT zs fr q).length = q := by rw [← hJ.out.len, hqe]
              have hz := begins_len (zs := zs) (a := 0)
              rw [HM.out] at hz
              have hcam := camL_at (zs := zs) (fr := fr) (i := q) (by omega) (by omega)
              have hb3 : Below w3.heap.size w3 wr := HW3.out.trans (hJ.out.fr.below (by omega) (by omega) (by omega))
              have HRES : Hid (Below w.heap.size w wr ∧ Box wr gT 102 #[.slice OA k oc, .slice S k sc, .slice D ord.length dc, .map (some gp)] ∧ ArrG rawC 4 wr wr.heap.size OA k raws ∧ (∀ j, j < k → ObV wr 0 wr.heap.size (nthG raws j) (obOf zs (st zs j))) ∧ Arr .i64 wr wr.heap.size S k (startsI zs) ∧ Arr .i64 wr wr.heap.size D ord.length ord ∧
                  MapF Try.prog .i64 .i64 3 3 wr gp (ord.length + 1) (plF ord) ∧ AllIn zs ord ∧ ord.map (atI zs) = camL zs fr) := by
                refine ⟨HB4.out.trans (hJ.out.fr.below (by omega) (by omega) (by omega)), hJ.out.tr.box, (HRW.out.below hb3 (Nat.le_refl _)).more hb3.size, fun j hj => (((HOV.out j hj).below hb3 (Nat.le_refl _)).more hb3.size).less (Nat.zero_le _), ?_, hD, hJ.out.tr.map, hJ.out.all, by rw [hcam]; exact hJ.out.at_⟩
                exact (HS0.out.trF HHI.out (by omega) (by omega) hJ.out.fr).more hJ.out.fr.size
              have HGT : Hid (w.heap.size ≤ gT) := Nat.le_trans hwz (by omega)
              clear hJ hqe hcl hz hcam hb3 hD
              go_wp2
              go_ret2
              obtain ⟨r1, r2, r3, r4, r5, r6, r7, r8, r9⟩ := HRES.out
              exact ⟨r1, .inr ⟨HZ0.out, _, _, _, _, _, _, _, _, _, _, _, raws, ord, rfl, HGT.out, r2, HM.out.symm, r3, r4, r5, r6, r7, r8, r9⟩⟩
end Go.Proofs.Ytjefbekdjgmmbaa
namespace Go.Proofs.Ytjefbekdjgmmbaa
open Go.RowKit
theorem traverse_any (A F : Option Addr) (n c nf cf : Nat) (zs fr : List Int) (w : World) (hn : n ≤ maxLen) (hnc : n ≤ c) (ha : Arr .u64 w w.heap.size A n zs) (hnf : nf ≤ maxLen) (hfr : Arr .i64 w w.heap.size F nf fr) :
    Calls Try.prog 56 #[.slice A n c, .slice F nf cf] w (TravP zs fr w) := by
  by_cases h : fromE zs fr = 0
  · exact traverse_good A F n c nf cf zs fr w hn hnc ha hnf hfr h
  · exact traverse_bad A F n c nf cf zs fr w hn hnc ha hnf hfr h
theorem results_tmp4C {fn : Func} {t u v x : Tmp} (h : fn.results = #[.tmp t, .tmp u, .tmp v, .tmp x]) (tmps : Array Value) (P : Program) (w : World) :
    (results fn tmps).run P w = .ok (.tuple #[tmps.getD t undef, tmps.getD u undef, tmps.getD v undef, tmps.getD x undef]) w := by
  simp [results, h]
/-- The error of laying the copies. -/
theorem lay_copyE {zs fr : List Int} {k : Int} (hz : ∀ z ∈ zs, (Lit.int .u64 z).wf = true) (h0 : fromE zs fr = 0) : layErr (obsC zs (camL zs fr)) k = copyE zs fr k := by
  have hl := camL_lives hz h0
  have ht := cam_takes hz h0
  by_cases hk : k < 0 ∨ 256 < k
  · rw [copyE_range h0 hk, layErr_range hk]
  · obtain ⟨n, rfl⟩ := Int.eq_ofNat_of_zero_le (show 0 ≤ k by omega)
    by_cases hf : n < takesN zs fr
    · rw [copyE_full h0 hk (by omega), copy_full hz hl (by omega) (by rw [ht]; exact hf)]
    · rw [copyE_ok h0 hk (by omega), obsC_lay hz hl (by omega) (by rw [ht]; omega)]
theorem SpareI.of_whole {k : IntKind} {t : TypeId} {base g n : Nat} {w : World} {xs : List Int} (h : Whole k t w g xs) (hg : base ≤ g) (hl : xs.length = n) (hn : n ≤ maxLen) : SpareI k t base w (some ⟨g, 0, none⟩) n := .inr ⟨g, xs, rfl, hg, hl, hn, h⟩
set_option maxRecDepth 8000 in
set_option maxHeartbeats 1000000 in
theorem order_any : OrderC := by
  intro A F n c nf cf zs fr w hn hnc ha hnf hfr
  have hnf' : nf ≤ maxLen := by unfold maxLen; omega
  have HT := Lib.hid (traverse_any A F n c nf cf zs fr w hn hnc ha hnf' hfr)
  have HWF := Lib.hid ha.2.1
  clear ha hfr hn hnc hnf hnf'
  go_enter Try.func33, Try.ntmps33
  go_wp2_with fail
  refine HT.out.mono ?_
  rintro e w1 ⟨b1, ⟨h0, rfl⟩ | ⟨h0, gT, gp, m, oc, sc, nd, dc, N, OA, S, D, raws, ord, rfl, _, hbox, _, _, _, hS, hD, _, hall, hcam⟩⟩
  · have HB := Lib.hid b1
    have HZ := Lib.hid h0
    have hbz : (fromE zs fr != 0) = true := by simpa using h0
    clear b1 h0 HT
    go_wp2
    go_ret2
    exact ⟨_, _, _, rfl, HB.out, Nat.le_refl _, by rw [orderO_bad HZ.out]; exact Arr.zero⟩
  · have h256 := arena_len (fromE_zero h0).1
    have hnd : nd ≤ 256 := by
      rw [← hD.1, show ord.length = (camL zs fr).length by rw [← hcam, List.length_map]]
      exact camL_len HWF.out h0
    have HW := Lib.hid (carryWords_any _ S D m sc nd dc gT gp zs ord w1 hbox hS hD hall hnd h256)
    have HB := Lib.hid b1
    have HZ := Lib.hid h0
    have HC := Lib.hid hcam
    have HDL := Lib.hid hD.1
    clear b1 h0 HT hbox hS hD hall hcam
    go_wp2_with fail
    refine HW.out.mono ?_
    rintro e w2 ⟨g, rfl, hg, b2, hW⟩
    have HB2 := Lib.hid (bthen HB.out b2)
    have hA := hW.arr hW.lt
    rw [HC.out] at hA
    rw [show (camL zs fr).length = nd by rw [← HC.out, List.length_map]; exact HDL.out] at hA
    have HA := Lib.hid hA
    clear hg b2 hW hA HW
    go_wp2
    go_ret2
    exact ⟨_, _, _, by rw [HZ.out]; rfl, HB2.out, Nat.le_refl _, by rw [orderO_ok HZ.out]; exact HA.out⟩
/-- What holds while places of copies are noted. -/
structure CtI (L : List Int) (n g : Nat) (w : World) (k : Nat) (wr : World) : Prop where
  row : Whole .i64 3 wr g (fillTo L n k)
  below : Below w.heap.size w wr
set_option maxRecDepth 8000 in
set_option maxHeartbeats 2000000 in
theorem copy_any : CopyC := by
  intro A F n c nf cf k zs fr w hn hnc ha hnf hfr hk
  have hnf' : nf ≤ maxLen := by unfold maxLen; omega
  have HT := Lib.hid (traverse_any A F n c nf cf zs fr w hn hnc ha hnf' hfr)
  have HWF := Lib.hid ha.2.1
  clear ha hfr hn hnc hnf hnf'
  go_enter Try.func25, Try.ntmps25
  go_wp2_with fail
  refine HT.out.mono ?_
  rintro e w1 ⟨b1, ⟨h0, rfl⟩ | ⟨h0, gT, gp, m, oc, sc, nd, dc, N, OA, S, D, raws, ord, rfl, _, hbox, hm, hraws, hobv, hS, hD, hM, hall, hcam⟩⟩
  · have HB := Lib.hid b1
    have HE := Lib.hid (copyE_from (n := k) h0)
    have hne : copyE zs fr k ≠ 0 := by rw [HE.out]; exact h0
    have HNE := Lib.hid hne
    have hbz : (fromE zs fr != 0) = true := by simpa using h0
    clear b1 h0 HT hne
    go_wp2
    refine bodyPost_ret (v := .tuple #[.slice none 0 0, .slice none 0 0, .slice none 0 0, .int .i64 (fromE zs fr)]) (by simp [results, Try.results25, go_sem]) rfl ?_
    exact ⟨none, 0, 0, none, 0, 0, none, 0, 0, by rw [HE.out], HB.out, Nat.le_refl _, Nat.le_refl _, Nat.le_refl _, by rw [copyB_bad HNE.out]; exact Arr.zero, by rw [copyO_bad HNE.out]; exact Arr.zero, by rw [copyT_bad HNE.out]; exact Arr.zero, SpareI.nil, SpareI.nil, SpareI.nil⟩
  · have h256 := arena_len (fromE_zero h0).1
    have hlv := camL_lives HWF.out h0
    have hlen : ord.length = nd := hD.1
    have hcl0 : (camL zs fr).length = nd := by rw [← hcam, List.length_map]; exact hlen
    have hnd : nd ≤ 256 := by rw [← hcl0]; exact camL_len HWF.out h0
    have hli : ∀ x ∈ ord, atI zs x ∈ livesI zs := fun x hx => hlv _ (by rw [← hcam]; exact List.mem_map.2 ⟨x, hx, rfl⟩)
    have hcl : ∀ x ∈ ord, ∀ r ∈ refsX zs (st zs x.toNat), InR zs r ∧ (r = -1 ∨ r ∈ ord) := fun x hx r hr => by
      have h1 := hli x hx
      have h2 := atI_pos (zs := zs) (hall x hx).1
      rw [h2] at h1
      obtain ⟨r1, r2⟩ := refs_at HWF.out (fromE_zero h0).1 h1
      have h3 := r2 r hr
      refine ⟨h3, ?_⟩
      rcases h3 with h3 | h3
      · exact .inl h3
      · refine .inr ((at_mem hall.inR (.inr h3)).1 ?_)
        rw [hcam]
        obtain ⟨t, ht, e⟩ := List.getElem_of_mem hx
        have hmem : atI zs r ∈ nxOf zs (nth (camL zs fr) t) := by
          rw [← hcam, nth_at ht, nth_get _ _ ht, e, h2]
          unfold nxOf
          rw [Int.toNat_natCast, ← r1]
          exact List.mem_map.2 ⟨r, hr, rfl⟩
        have h4 := camL_closed HWF.out h0 t (by rw [← hcam, List.length_map]; exact ht) _ hmem
        refine h4.resolve_left ?_
        rw [atI_pos h3.1]; omega
    have hobs := obsX_obsC HWF.out (fromE_zero h0).1 hall hli
    rw [hcam] at hobs
    have HCP := Lib.hid (copies_any OA D (.slice S m sc) m oc nd dc gT gp N raws zs ord w1 hbox hraws hobv hM hD hall hm hnd h256 hcl HWF.out)
    rw [hobs] at HCP
    have HB := Lib.hid b1
    have HZ := Lib.hid h0
    have HC := Lib.hid hcam
    have HCL := Lib.hid hcl0
    have HLV := Lib.hid hlv
    have HS := Lib.hid hS
    have HD := Lib.hid hD
    have HAL := Lib.hid hall
    have HBX := Lib.hid hbox
    have HLE := Lib.hid (lay_copyE (k := k) HWF.out h0)
    clear b1 h0 HT hbox hraws hobv hS hD hM hall hcam hm hlv hlen hcl0 hli hcl hobs
    go_wp2_with fail
    refine HCP.out.mono ?_
    rintro e w2 ⟨A2, c2, raws2, rfl, b2, hobs2, hsm⟩
    have HB2 := Lib.hid (bthen HB.out b2)
    have HLY := Lib.hid (layF_any A2 nd c2 w2.heap.size 0 k raws2 _ w2 hk (by omega) (Nat.le_refl _) hobs2 hsm)
    have HB12 := Lib.hid b2
    unfold LayF at HLY
    rw [HLE.out] at HLY
    clear b2 HCP hobs2 hsm
    go_wp2_with fail
    refine HLY.out.mono ?_
    rintro e w3 ⟨b3, B, q, bc, rfl, hqc, hl, hsp⟩
    have HB3 := Lib.hid (bthen HB2.out b3)
    have HB13 := Lib.hid (bthen HB12.out b3)
    have HQC := Lib.hid hqc
    have HSP := Lib.hid (hsp.less HB2.out.size)
    clear HLY b3 hsp hqc HB2 HB12
    by_cases hE : copyE zs fr k = 0
    · rcases hl with ⟨hl, _⟩ | ⟨_, hq, hB⟩
      · exact absurd hE hl
      rw [hE] at HLE
      obtain ⟨K, rfl⟩ : ∃ K : Nat, (K : Int) = k := by
        refine ⟨k.toNat, Int.toNat_of_nonneg ?_⟩
        rcases Int.lt_or_le k 0 with h | h
        · rw [copyE_range HZ.out (.inl h)] at hE; cases hE
        · exact h
      have hK : K ≤ 256 := by
        rcases Nat.lt_or_ge 256 K with h | h
        · rw [copyE_range HZ.out (.inr (by omega))] at hE; cases hE
        · exact h
      have htk : tkL zs (camL zs fr) ≤ K := by
        rw [cam_takes HWF.out HZ.out]
        rcases Nat.lt_or_ge K (takesN zs fr) with h | h
        · rw [copyE_full HZ.out (by omega) (by omega)] at hE; cases hE
        · exact h
      rw [Int.toNat_natCast] at hq hB
      obtain ⟨sp0, sp1, sp2⟩ := copy_begins HWF.out HLV.out hK htk
      have hlen := copyL_len HWF.out HLV.out htk
      have hqK : q = K := by rw [hq, hlen]
      have HSC := Lib.hid (Spots_any B q bc _ w3 (by unfold maxLen; omega) hB)
      unfold SpotsP at HSC
      have hL := spList_ok sp0
      obtain ⟨sn, hsn⟩ : ∃ sn, (spList (layWords (obsC zs (camL zs fr)) K)).length = sn := ⟨_, rfl⟩
      have hsn2 : nd ≤ sn := by rw [← hsn, hL, List.length_map, ← HCL.out]; exact sp1
      have hspot : ∀ i, i < nd → (nthG (spList (layWords (obsC zs (camL zs fr)) K)) i).1 = (nth (begC zs (camL zs fr)) i) := fun i hi => by
        have hi2 : i < (camL zs fr).length := by rw [HCL.out]; exact hi
        rw [hL, nthG_map _ _ _ (by omega), begC_nth hi2, ← sp2 i hi2]
        rfl
      rw [hsn, sp0] at HSC
      have HSPT := Lib.hid hspot
      have HBW := Lib.hid hB
      have HKK := Lib.hid hqK
      have HTK : Hid (tkL zs (camL zs fr) ≤ 256) := Nat.le_trans htk hK
      have HE0 := Lib.hid hE
      rw [hE]
      clear hE hB hq sp0 sp1 sp2 hlen hL hsn hspot hqK hK htk
      go_wp2_with fail
      refine HSC.out.mono ?_
      rintro e w4 ⟨A4, c4, rfl, b4, _, hA4, _⟩
      have HB4 := Lib.hid (bthen HB3.out b4)
      have HB14 := Lib.hid (bthen HB13.out b4)
      have HBW4 := Lib.hid (HBW.out.later b4)
      have HSP4 := Lib.hid (HSP.out.below b4 (Nat.le_refl _))
      have HA4 := Lib.hid hA4
      have q2 : w4.cell? ⟨gT, 2, none⟩ = some (.slice D nd dc) := (HBX.out.below HB14.out HBX.out.lt).cell 2
      have hmk := fun wx => run_make_row' (P := Try.prog) 23 3 (.int .i64 0) 8 Try.underlying23 carryI64 rfl .i64 .i64 nd (by omega) (by omega) wx
      have hW : Whole .i64 3 (w4.alloc (.cells (madeCells #[Value.int .i64 0] nd) 3)) w4.heap.size (List.replicate nd 0) := by
        rw [made_replicate]
        exact whole_new .i64 3 w4 _ (fun z hz => by rw [List.eq_of_mem_replicate hz]; rfl)
      have bm : Below w4.heap.size w4 (w4.alloc (.cells (madeCells #[Value.int .i64 0] nd) 3)) := (Below.refl _ _).alloc (Nat.le_refl _) _
      have HLL : Hid ((begC zs (camL zs fr)).length = nd) := by show _ = _; rw [begC_len]; exact HCL.out
      have HI : Hid (CtI (begC zs (camL zs fr)) nd w4.heap.size w4 0 (w4.alloc (.cells (madeCells #[Value.int .i64 0] nd) 3))) := ⟨by rw [fillTo_zero]; exact hW, bm⟩
      clear b4 hA4 hW bm HSC HB3 HB13 HBW HSP HLE
      go_wp2_with fail
      generalize (w4.alloc (.cells (madeCells #[Value.int .i64 0] nd) 3)) = W5 at *
      obtain ⟨g, hg⟩ : ∃ g, w4.heap.size = g := ⟨_, rfl⟩
      have HG := Lib.hid hg
      rw [hg] at HI
      rw [hg]
      clear hg hmk q2
      go_loopw [51] (fun i wr => ∃ t : Nat, t ≤ nd ∧ i = .int .i64 t ∧ Hid (CtI (begC zs (camL zs fr)) nd g w4 t wr)) (fun i _ => nd - (intOf i).toNat)
      case atStart => exact ⟨0, Nat.zero_le _, rfl, HI⟩
      case round =>
        obtain ⟨t, ht, rfl, hI⟩ := hrel
        clear HI
        by_cases hlt : t < nd
        · obtain ⟨b5, off5, rfl, _, q0, _, _, _, _⟩ := (HA4.out.below hI.out.below (Nat.le_refl _)).spot (j := t) (by omega)
          rw [HSPT.out t hlt] at q0
          have hwx : (Lit.int .i64 (nth (begC zs (camL zs fr)) t)).wf = true := by
            rw [begC_nth (by rw [HCL.out]; exact hlt)]
            have h1 := tkL_mono (zs := zs) (l := camL zs fr) (i := t) (j := (camL zs fr).length) (by rw [HCL.out]; omega) (Nat.le_refl _)
            rw [List.take_length] at h1
            exact wf_i64.2 (by have := HTK.out; omega)
          have hW2 := hI.out.row.set_ t _ hwx
          rw [fillTo_set HLL.out hlt] at hW2
          have HN : Hid (CtI (begC zs (camL zs fr)) nd g w4 (t + 1) (wr.setCell ⟨g, t, none⟩ (.int .i64 (nth (begC zs (camL zs fr)) t)))) := ⟨hW2, below_set hI.out.below (by rw [HG.out]; exact Nat.le_refl _) _ _⟩
          have d0 := hI.out.row.cell (j := t) (by rw [fillTo_len HLL.out (by omega)]; exact hlt)
          have f0 := hI.out.row.frozen t
          clear hI hW2 hwx
          generalize nth (fillTo (begC zs (camL zs fr)) nd t) t = X at *
          generalize nth (begC zs (camL zs fr)) t = Y at *
          go_wp2
          go_roundw
          case rel => exact ⟨t + 1, by omega, by go_num, HN⟩
          case measure => simp [intOf]; omega
        · obtain rfl : t = nd := by omega
          have hrow := hI.out.row
          rw [fillTo_all HLL.out] at hrow
          have HR := Lib.hid hrow
          have HB5 := Lib.hid (bthen HB4.out hI.out.below)
          have hb15 := bthen HB14.out hI.out.below
          have hBW5 := HBW4.out.later hI.out.below
          have hSP5 := HSP4.out.below hI.out.below (Nat.le_refl _)
          have HW := Lib.hid (carryWords_any _ S D m sc t dc gT gp zs ord wr (HBX.out.below hb15 HBX.out.lt) (HS.out.later hb15) (HD.out.later hb15) HAL.out hnd h256)
          have HBW5 := Lib.hid hBW5
          have HSP5 := Lib.hid hSP5
          have HGW : Hid (w.heap.size ≤ g) := by show _ ≤ _; rw [← HG.out]; exact HB4.out.size
          clear hI hrow hb15 hBW5 hSP5
          go_wp2_with fail
          refine HW.out.mono ?_
          rintro e w6 ⟨g6, rfl, hg6, b6, hW6⟩
          have hlt6 := hW6.lt
          have ho := hW6.arr hlt6
          rw [HC.out] at hW6 ho
          rw [HCL.out] at ho
          have hr6 := HR.out.below b6 HR.out.lt
          have hd := hr6.arr hr6.lt
          rw [HLL.out] at hd
          have HRES : Hid (Below w.heap.size w w6 ∧ q ≤ bc ∧ Arr .u64 w6 w6.heap.size B q (copyL zs fr K) ∧ Arr .i64 w6 w6.heap.size (some ⟨g6, 0, none⟩) t (camL zs fr) ∧ Arr .i64 w6 w6.heap.size (some ⟨g, 0, none⟩) t (begC zs (camL zs fr)) ∧ SpareI .u64 47 w.heap.size w6 B bc ∧ SpareI .i64 3 w.heap.size w6 (some ⟨g6, 0, none⟩) t ∧ SpareI .i64 3 w.heap.size w6 (some ⟨g, 0, none⟩) t) :=
            ⟨bthen HB5.out b6, HQC.out, HBW5.out.later b6, ho, hd, HSP5.out.below b6 (Nat.le_refl _), SpareI.of_whole hW6 (Nat.le_trans HB5.out.size hg6) HCL.out (by unfold maxLen; omega), SpareI.of_whole hr6 HGW.out HLL.out (by unfold maxLen; omega)⟩
          clear hlt6 ho hr6 hd hW6 b6 hg6 HW
          go_wp2
          try simp only [Exit.inBlock, Exit.then]
          refine bodyPost_ret (results_tmp4C rfl _ _ _) rfl ?_
          obtain ⟨r1, r2, r3, r4, r5, r6, r7, r8⟩ := HRES.out
          exact ⟨_, _, _, _, _, _, _, _, _, by rw [HE0.out]; rfl, r1, r2, Nat.le_refl _, Nat.le_refl _, by rw [copyB_ok HE0.out]; exact r3, by rw [copyO_ok HE0.out]; exact r4, by rw [copyT_ok HE0.out]; exact r5, r6, r7, r8⟩
    · have HNE := Lib.hid hE
      have hbz : (copyE zs fr k != 0) = true := by simpa using hE
      clear hE hl
      go_wp2
      refine bodyPost_ret (v := .tuple #[.slice none 0 0, .slice none 0 0, .slice none 0 0, .int .i64 (copyE zs fr k)]) (by simp [results, Try.results25, go_sem]) rfl ?_
      exact ⟨none, 0, 0, none, 0, 0, none, 0, 0, rfl, HB3.out, Nat.le_refl _, Nat.le_refl _, Nat.le_refl _, by rw [copyB_bad HNE.out]; exact Arr.zero, by rw [copyO_bad HNE.out]; exact Arr.zero, by rw [copyT_bad HNE.out]; exact Arr.zero, SpareI.nil, SpareI.nil, SpareI.nil⟩
end Go.Proofs.Ytjefbekdjgmmbaa
namespace Go.Proofs.Ytjefbekdjgmmbaa
open Go.RowKit
theorem small_cam : (camL [1, 1] [0]).length = 1 := by decide
set_option maxHeartbeats 400000 in
theorem carries_any (hC : OrderC) (w : World) : Calls Try.prog 24 #[] w fun e w' => e = .returned (.bool true) ∧ Below w.heap.size w w' := by
  have HS := Lib.hid (small_any w)
  have b1 := (Below.refl _ w).alloc (Nat.le_refl _) (.cells #[.int .u64 1, .int .u64 1] 47)
  have W1 : Whole .u64 47 (w.alloc (.cells #[.int .u64 1, .int .u64 1] 47)) w.heap.size [1, 1] := whole_new .u64 47 w [1, 1] small_wf
  obtain ⟨w1, hw1⟩ : ∃ w1, w.alloc (.cells #[.int .u64 1, .int .u64 1] 47) = w1 := ⟨_, rfl⟩
  have hsz : w1.heap.size = w.heap.size + 1 := by rw [← hw1]; simp
  rw [hw1] at b1 W1 HS
  have b2 := (Below.refl _ w1).alloc (Nat.le_refl _) (.cells #[.int .i64 0] 3)
  have W2 : Whole .i64 3 (w1.alloc (.cells #[.int .i64 0] 3)) w1.heap.size [0] := whole_new .i64 3 w1 [0] (by decide)
  have HK := Lib.hid (hC (some ⟨w.heap.size, 0, none⟩) (some ⟨w1.heap.size, 0, none⟩) 2 2 1 1 [1, 1] [0] _ (by unfold maxLen; omega) (by omega) ((W1.alloc _).arr (by simp; omega)) (by omega) (W2.arr W2.lt))
  have hE : fromE [1, 1] [0] = 0 := small_from
  have HEE := Lib.hid hE
  have HB := Lib.hid (b1.trans (b2.mono b1.size))
  clear b1 W1 b2 W2 hw1 hsz hE hC
  go_enter Try.func24, Try.ntmps24
  go_wp2_with fail
  refine HS.out.mono ?_
  rintro e w' ⟨rfl, rfl⟩
  go_wp2_with fail
  refine HK.out.mono ?_
  rintro e w3 ⟨B, m, c, rfl, hb3, _, hB⟩
  have HB3 := Lib.hid (HB.out.trans (hb3.mono HB.out.size))
  rw [HEE.out]
  obtain rfl : m = 1 := by
    have h1 := hB.1
    rw [orderO_ok HEE.out, small_cam] at h1
    exact h1.symm
  clear hB hb3 HK
  go_wp2
  go_ret
  exact ⟨rfl, HB3.out⟩
end Go.Proofs.Ytjefbekdjgmmbaa
namespace Go.Proofs.Ytjefbekdjgmmbaa
open Go.RowKit
set_option maxRecDepth 8000 in
set_option maxHeartbeats 2000000 in
theorem renamed_any (F : Option Addr) (nf cf gm N : Nat) (l : List Int) (f : Int → Option Int) (w : World) (hn : nf * 8 ≤ 140737488355328) (hl : Arr .i64 w w.heap.size F nf l) (hm : MapF Try.prog .i64 .i64 3 3 w gm N f) :
    Calls Try.prog 36 #[.slice F nf cf, .map (some gm)] w fun e w' => ∃ g, e = .returned (.slice (some ⟨g, 0, none⟩) nf nf) ∧ w.heap.size ≤ g ∧ Below w.heap.size w w' ∧ Whole .i64 3 w' g (l.map fun v => (f v).getD 0) := by
  have hmk := fun wx => run_make_row' (P := Try.prog) 23 3 (.int .i64 0) 8 Try.underlying23 carryI64 rfl .i64 .i64 nf (by omega) (by omega) wx
  have hW : Whole .i64 3 (w.alloc (.cells (madeCells #[Value.int .i64 0] nf) 3)) w.heap.size (List.replicate nf 0) := by
    rw [made_replicate]
    exact whole_new .i64 3 w _ (fun z hz => by rw [List.eq_of_mem_replicate hz]; rfl)
  have bm : Below w.heap.size w (w.alloc (.cells (madeCells #[Value.int .i64 0] nf) 3)) := (Below.refl _ _).alloc (Nat.le_refl _) _
  have hll := hl.1
  have hLL : (l.map fun v => (f v).getD 0).length = nf := by rw [List.length_map]; exact hll
  have hLV : ∀ k, k < nf → nth (l.map fun v => (f v).getD 0) k = (f (nth l k)).getD 0 := fun k hk => by rw [nth_get _ _ (by omega), List.getElem_map, nth_get _ _ (by omega)]
  obtain ⟨L, hL⟩ : ∃ L, (l.map fun v => (f v).getD 0) = L := ⟨_, rfl⟩
  rw [hL] at hLL hLV
  have HLL := Lib.hid hLL
  have HLV := Lib.hid hLV
  have HLN := Lib.hid hll
  have HI : Hid (WdI L nf w.heap.size w 0 (w.alloc (.cells (madeCells #[Value.int .i64 0] nf) 3))) := ⟨by rw [fillTo_zero]; exact hW, bm⟩
  have HL := Lib.hid hl
  have HM := Lib.hid hm
  rw [hL]
  clear hl hm hW bm hL hLL hLV hll
  go_enter Try.func36, Try.ntmps36
  go_wp2_with fail
  generalize (w.alloc (.cells (madeCells #[Value.int .i64 0] nf) 3)) = W1 at *
  obtain ⟨g, hg⟩ : ∃ g, w.heap.size = g := ⟨_, rfl⟩
  have HG := Lib.hid hg
  rw [hg] at HI
  rw [hg]
  clear hmk hg
  go_loopw [13] (fun i wr => ∃ k : Nat, k ≤ nf ∧ i = .int .i64 k ∧ Hid (WdI L nf g w k wr)) (fun i _ => nf - (intOf i).toNat)
  case atStart => exact ⟨0, Nat.zero_le _, rfl, HI⟩
  case round =>
    obtain ⟨k, hkn, rfl, hI⟩ := hrel
    clear HI
    by_cases hlt : k < nf
    · obtain ⟨b, off, rfl, _, hc⟩ := (HL.out.below hI.out.below (Nat.le_refl _)).2.2 (by omega)
      have c1 := hc k hlt
      have hx : (Lit.int .i64 (nth l k)).wf = true := HL.out.2.1 _ (nth_mem (by have := HLN.out; omega))
      have hM := HM.out.below hI.out.below HM.out.lt
      have hlk := hM.look placesT (x := nth l k) hx
      have hy := hM.wf placesT hx
      rw [← HLV.out k hlt] at hlk hy
      have hW2 := hI.out.row.set_ k _ hy
      rw [fillTo_set HLL.out hlt] at hW2
      have HN : Hid (WdI L nf g w (k + 1) (wr.setCell ⟨g, k, none⟩ (.int .i64 (nth L k)))) := ⟨hW2, below_set hI.out.below (by rw [HG.out]; exact Nat.le_refl _) _ _⟩
      have d0 := hI.out.row.cell (j := k) (by rw [fillTo_len HLL.out (by omega)]; exact hlt)
      have f0 := hI.out.row.frozen k
      clear hI hW2 hx hM hy hc
      generalize nth (fillTo L nf k) k = X at *
      generalize nth L k = Y at *
      generalize nth l k = Z at *
      go_wp2
      go_roundw
      case rel => exact ⟨k + 1, by omega, by go_num, HN⟩
      case measure => simp [intOf]; omega
    · obtain rfl : k = nf := by omega
      have hrow := hI.out.row
      rw [fillTo_all HLL.out] at hrow
      have HR := Lib.hid hrow
      have HB := Lib.hid hI.out.below
      clear hI hrow
      go_wp2
      go_ret
      exact ⟨g, rfl, by rw [HG.out]; exact Nat.le_refl _, HB.out, HR.out⟩
/-- The order of what is reached, of lists as long as a machine holds. -/
theorem sameOrd_any (A F : Option Addr) (n c nf cf : Nat) (zs fr : List Int) (w : World) (hn : n ≤ maxLen) (hnc : n ≤ c) (ha : Arr .u64 w w.heap.size A n zs) (hnf : nf ≤ maxLen) (hfr : Arr .i64 w w.heap.size F nf fr) :
    Calls Try.prog 33 #[.slice A n c, .slice F nf cf] w (OrderP zs fr w) := by
  have HT := Lib.hid (traverse_any A F n c nf cf zs fr w hn hnc ha hnf hfr)
  have HWF := Lib.hid ha.2.1
  clear ha hfr hn hnc hnf
  go_enter Try.func33, Try.ntmps33
  go_wp2_with fail
  refine HT.out.mono ?_
  rintro e w1 ⟨b1, ⟨h0, rfl⟩ | ⟨h0, gT, gp, m, oc, sc, nd, dc, N, OA, S, D, raws, ord, rfl, _, hbox, _, _, _, hS, hD, _, hall, hcam⟩⟩
  · have HB := Lib.hid b1
    have HZ := Lib.hid h0
    have hbz : (fromE zs fr != 0) = true := by simpa using h0
    clear b1 h0 HT
    go_wp2
    go_ret2
    exact ⟨_, _, _, rfl, HB.out, Nat.le_refl _, by rw [orderO_bad HZ.out]; exact Arr.zero⟩
  · have h256 := arena_len (fromE_zero h0).1
    have hnd : nd ≤ 256 := by
      rw [← hD.1, show ord.length = (camL zs fr).length by rw [← hcam, List.length_map]]
      exact camL_len HWF.out h0
    have HW := Lib.hid (carryWords_any _ S D m sc nd dc gT gp zs ord w1 hbox hS hD hall hnd h256)
    have HB := Lib.hid b1
    have HZ := Lib.hid h0
    have HC := Lib.hid hcam
    have HDL := Lib.hid hD.1
    clear b1 h0 HT hbox hS hD hall hcam
    go_wp2_with fail
    refine HW.out.mono ?_
    rintro e w2 ⟨g, rfl, hg, b2, hW⟩
    have HB2 := Lib.hid (bthen HB.out b2)
    have hA := hW.arr hW.lt
    rw [HC.out] at hA
    rw [show (camL zs fr).length = nd by rw [← HC.out, List.length_map]; exact HDL.out] at hA
    have HA := Lib.hid hA
    clear hg b2 hW hA HW
    go_wp2
    go_ret2
    exact ⟨_, _, _, by rw [HZ.out]; rfl, HB2.out, Nat.le_refl _, by rw [orderO_ok HZ.out]; exact HA.out⟩
/-- Places of the words in the order. -/
def plT (ord : List Int) (k : Nat) : Int → Option Int := fun x => if x ∈ ord.take k then some (plI ord x) else none
/-- New names of the objects: of -1, and of those among the first 'k' that are reached. -/
def nmT (zs ord : List Int) (k : Nat) : Int → Option Int := fun r => if r = -1 then some (-1) else if 0 ≤ r ∧ r < k ∧ atI zs r ∈ ord then some (plI ord (atI zs r)) else none
section
variable {zs fr ord : List Int} {k : Nat} {x r : Int}
theorem plT_zero : plT ord 0 = fun _ => none := by funext x; simp [plT]
theorem plT_next (hd : ord.Nodup) (h : k < ord.length) : plT ord (k + 1) = put (plT ord k) (nth ord k) k := by
  funext x
  unfold plT put
  rw [List.take_succ_eq_append_getElem h, ← nth_get _ _ h]
  by_cases e : x = nth ord k
  · subst e
    rw [if_pos (by simp), if_pos rfl, plI_at hd h]
  · rw [if_neg e]
    have : x ∈ ord.take k ++ [nth ord k] ↔ x ∈ ord.take k := by simp [e]
    simp only [this]
theorem plT_all : plT ord ord.length = fun x => if x ∈ ord then some (plI ord x) else none := by unfold plT; rw [List.take_length]
theorem nmT_zero : nmT zs ord 0 = put (fun _ => none) (-1) (-1) := by
  funext r
  unfold nmT put
  by_cases h : r = -1
  · rw [if_pos h, if_pos h]
  · rw [if_neg h, if_neg h, if_neg (by omega)]
theorem nmT_hit (h : (st zs k : Int) ∈ ord) : nmT zs ord (k + 1) = put (nmT zs ord k) k (plI ord (st zs k)) := by
  funext r
  unfold nmT put
  by_cases e : r = (k : Int)
  · subst e
    rw [if_neg (by omega), if_pos (by rw [atI_nat]; exact ⟨by omega, by omega, h⟩), if_pos rfl, atI_nat]
  · rw [if_neg e]
    have : (0 ≤ r ∧ r < (k + 1 : Nat) ∧ atI zs r ∈ ord) ↔ (0 ≤ r ∧ r < k ∧ atI zs r ∈ ord) := ⟨fun ⟨a, b, c⟩ => ⟨a, by omega, c⟩, fun ⟨a, b, c⟩ => ⟨a, by omega, c⟩⟩
    simp only [this]
theorem nmT_miss (h : (st zs k : Int) ∉ ord) : nmT zs ord (k + 1) = nmT zs ord k := by
  funext r
  unfold nmT
  by_cases e : r = (k : Int)
  · subst e
    rw [if_neg (by omega), if_neg (by rw [atI_nat]; exact fun q => h q.2.2), if_neg (by omega), if_neg (by omega)]
  · have : (0 ≤ r ∧ r < (k + 1 : Nat) ∧ atI zs r ∈ ord) ↔ (0 ≤ r ∧ r < k ∧ atI zs r ∈ ord) := ⟨fun ⟨a, b, c⟩ => ⟨a, by omega, c⟩, fun ⟨a, b, c⟩ => ⟨a, by omega, c⟩⟩
    simp only [this]
theorem nmT_ref (hi : InR zs r) (hin : r = -1 ∨ atI zs r ∈ ord) (hneg : (-1 : Int) ∉ ord) : (nmT zs ord (begins zs 0).length r).getD 0 = plI ord (atI zs r) := by
  unfold nmT
  by_cases e : r = -1
  · subst e
    rw [if_pos rfl, atI_null, plI_out hneg]; rfl
  · rcases hi with hi | ⟨h1, h2⟩
    · exact absurd hi e
    · rw [if_neg e, if_pos ⟨h1, h2, hin.resolve_left e⟩]; rfl
end
end Go.Proofs.Ytjefbekdjgmmbaa
namespace Go.Proofs.Ytjefbekdjgmmbaa
open Go.RowKit
theorem ObV.lens {w : World} {lo hi : Nat} {r : Raw} {zs l : List Int} {x : Int} (h : ObV w lo hi r (obC zs l x)) (hz : zs.length ≤ 256) : r.rn ≤ maxLen ∧ r.bn ≤ maxLen := by
  have h2 := h.refs.1
  have h3 := h.body.1
  unfold obC named refWords at h2
  unfold obC bodyWords at h3
  simp only [List.length_map, List.length_take, List.length_drop] at h2 h3
  unfold maxLen
  omega
theorem FormIn.zero (w : World) : FormIn w none 0 0 none 0 0 [] [] [] :=
  ⟨Nat.le_refl _, Nat.le_refl _, by omega, by omega, ⟨rfl, ⟨rfl, fun h => absurd h (by omega)⟩, fun j hj => absurd hj (by omega)⟩, fun j hj => absurd hj (by omega), Arr.zero⟩
/-- Two cells of a result are written. -/
theorem set2 {w w5 : World} {B g : Nat} {t : TypeId} {c0 c1 : Value} (hb : Below B w w5) (bx : Box w5 g t #[c0, c1]) (hg : B ≤ g) (a0 a1 : Value) :
    Below B w ((w5.setCell ⟨g, 0, none⟩ a0).setCell ⟨g, 1, none⟩ a1) ∧ Box ((w5.setCell ⟨g, 0, none⟩ a0).setCell ⟨g, 1, none⟩ a1) g t #[a0, a1] ∧ ((w5.setCell ⟨g, 0, none⟩ a0).setCell ⟨g, 1, none⟩ a1).heap.size = w5.heap.size ∧
      ∀ i, i ≠ g → ((w5.setCell ⟨g, 0, none⟩ a0).setCell ⟨g, 1, none⟩ a1).heap[i]? = w5.heap[i]? :=
  ⟨below_set (below_set hb hg _ _) hg _ _, (bx.set 0 a0).set 1 a1, by simp [World.setCell], fun i hi => by rw [heap_setOther _ hi, heap_setOther _ hi]⟩
set_option maxRecDepth 8000 in
set_option maxHeartbeats 1000000 in
theorem sameForm_bad (A F : Option Addr) (n c nf cf : Nat) (zs fr : List Int) (w : World) (h : ArenaFrom w A F n c nf cf zs fr) (h0 : fromE zs fr ≠ 0) :
    Calls Try.prog 10 #[.slice A n c, .slice F nf cf] w (SFormP zs fr w) := by
  have b0 := (Below.refl _ w).alloc (Nat.le_refl _) (.cells #[.slice none 0 0, .slice none 0 0] 26)
  have HX := Lib.hid (Box.new w 26 #[.slice none 0 0, .slice none 0 0])
  have h1 := h.later b0
  have HO := Lib.hid (sameOrd_any A F n c nf cf zs fr (w.alloc (.cells #[.slice none 0 0, .slice none 0 0] 26)) (by unfold maxLen; have := h.hn; omega) h.hnc h1.arena (by unfold maxLen; have := h.hnf; omega) h1.from_)
  unfold OrderP at HO
  have HB := Lib.hid b0
  have hbz : (fromE zs fr != 0) = true := by simpa using h0
  have H0 := Lib.hid h0
  clear b0 h h1 h0
  go_enter Try.func10, Try.ntmps10
  go_wp2_with fail
  refine HO.out.mono ?_
  rintro e w1 ⟨A1, k1, c1, rfl, b1, _, _⟩
  have HB1 := Lib.hid (bthen HB.out b1)
  have HX1 := Lib.hid (HX.out.below b1 HX.out.lt)
  have s0 : w1.frozen? ⟨w.heap.size, 0, none⟩ = false := HX1.out.soft 0
  have s1 : w1.frozen? ⟨w.heap.size, 1, none⟩ = false := HX1.out.soft 1
  have r0 : w1.cell? ⟨w.heap.size, 0, none⟩ = some (.slice none 0 0) := HX1.out.cell 0
  have r1 : w1.cell? ⟨w.heap.size, 1, none⟩ = some (.slice none 0 0) := HX1.out.cell 1
  clear b1 HB HX HO
  go_wp2
  obtain ⟨z1, z2, _, _⟩ := set2 HB1.out HX1.out (Nat.le_refl _) (.slice none 0 0) (.slice none 0 0)
  generalize ((w1.setCell ⟨w.heap.size, 0, none⟩ (.slice none 0 0)).setCell ⟨w.heap.size, 1, none⟩ (.slice none 0 0)) = W5 at *
  have x0 : W5.cell? ⟨w.heap.size, 0, none⟩ = some (.slice none 0 0) := z2.cell 0
  have x1 : W5.cell? ⟨w.heap.size, 1, none⟩ = some (.slice none 0 0) := z2.cell 1
  refine bodyPost_ret (v := .tuple #[.agg #[.slice none 0 0, .slice none 0 0], .int .i64 (fromE zs fr)]) (by simp [results, Try.results10, go_sem, x0, x1]) rfl ⟨none, 0, 0, none, 0, 0, [], rfl, z1, ?_⟩
  rw [sfO_bad H0.out, sfF_bad H0.out]
  exact FormIn.zero _
section
variable {P : Program} {md : Region.Mode} {ops : Array Oper} {Q : Exit → Act → World → Prop} {S : World → Prop} {z : Nat}
/-- Two may come up; three. -/
theorem anyY_2 {i j : Nat} {fuel : Nat} {listed : Array Bool} {a : Act} {w : World} (hr : Region.ready md ops listed = [i, j])
    (hi : wpOp P ops Q i (fun a' w' => (listed.getD z true = true ∨ i = z ∨ S w') ∧ anyY P md ops Q S z fuel (listed.setIfInBounds i true) a' w') a w)
    (hj : wpOp P ops Q j (fun a' w' => (listed.getD z true = true ∨ j = z ∨ S w') ∧ anyY P md ops Q S z fuel (listed.setIfInBounds j true) a' w') a w) : anyY P md ops Q S z (fuel + 1) listed a w := by
  refine ⟨fun h0 => absurd (hr.symm.trans h0) (by simp), fun k hk => ?_⟩
  rw [hr] at hk
  rcases List.mem_cons.1 hk with rfl | hk
  · exact hi
  · obtain rfl := List.mem_singleton.1 hk
    exact hj
theorem anyY_3 {i j k : Nat} {fuel : Nat} {listed : Array Bool} {a : Act} {w : World} (hr : Region.ready md ops listed = [i, j, k])
    (hi : wpOp P ops Q i (fun a' w' => (listed.getD z true = true ∨ i = z ∨ S w') ∧ anyY P md ops Q S z fuel (listed.setIfInBounds i true) a' w') a w)
    (hj : wpOp P ops Q j (fun a' w' => (listed.getD z true = true ∨ j = z ∨ S w') ∧ anyY P md ops Q S z fuel (listed.setIfInBounds j true) a' w') a w)
    (hk : wpOp P ops Q k (fun a' w' => (listed.getD z true = true ∨ k = z ∨ S w') ∧ anyY P md ops Q S z fuel (listed.setIfInBounds k true) a' w') a w) : anyY P md ops Q S z (fuel + 1) listed a w := by
  refine ⟨fun h0 => absurd (hr.symm.trans h0) (by simp), fun q hq => ?_⟩
  rw [hr] at hq
  rcases List.mem_cons.1 hq with rfl | hq
  · exact hi
  rcases List.mem_cons.1 hq with rfl | hq
  · exact hj
  · obtain rfl := List.mem_singleton.1 hq
    exact hk
end
def BelowW (W w : World) : Prop := Below W.heap.size W w
/-- What a form's rows, its places and its variable are, each as soon as it is made. -/
structure F17 (W : World) (nd nf : Nat) (L : List Int) (ga gb gc : Option Nat) (w : World) : Prop where
  below : BelowW W w
  ha : ∀ g, ga = some g → W.heap.size ≤ g ∧ g < w.heap.size ∧ OwnG rawC 4 41 w g (.slice (some ⟨g, 0, none⟩) nd nd) (List.replicate nd zeroRaw)
  hb : ∀ g, gb = some g → W.heap.size ≤ g ∧ g < w.heap.size ∧ Whole .i64 3 w g L
  hc : ∀ g, gc = some g → W.heap.size ≤ g ∧ g < w.heap.size ∧ Box w g 26 #[.slice none 0 0, .slice none 0 0]
  ab : ∀ g g', ga = some g → gb = some g' → g ≠ g'
  ac : ∀ g g', ga = some g → gc = some g' → g ≠ g'
  bc : ∀ g g', gb = some g → gc = some g' → g ≠ g'
/-- .. all of it, and the variable written. -/
structure F18 (W : World) (nd nf : Nat) (L : List Int) (ga gb gc : Nat) (w : World) : Prop where
  below : BelowW W w
  own : OwnG rawC 4 41 w ga (.slice (some ⟨ga, 0, none⟩) nd nd) (List.replicate nd zeroRaw)
  row : Whole .i64 3 w gb L
  box : Box w gc 26 #[.slice (some ⟨ga, 0, none⟩) nd nd, .slice (some ⟨gb, 0, none⟩) nf nf]
  oa : W.heap.size ≤ ga
  ob : W.heap.size ≤ gb
  oc : W.heap.size ≤ gc
  la : ga < w.heap.size
  ab : ga ≠ gb
  ac : ga ≠ gc
section
variable {W w w' : World} {nd nf : Nat} {L : List Int} {ga gb gc : Option Nat} {g a b : Nat}
theorem F17.later (h : F17 W nd nf L ga gb gc w) (hb : Below w.heap.size w w') : F17 W nd nf L ga gb gc w' :=
  ⟨Below.trans h.below (hb.mono (Below.size h.below)), fun g e => let ⟨p1, p2, p3⟩ := h.ha g e; ⟨p1, Nat.lt_of_lt_of_le p2 hb.size, p3.below hb⟩, fun g e => let ⟨p1, p2, p3⟩ := h.hb g e; ⟨p1, Nat.lt_of_lt_of_le p2 hb.size, p3.below hb p2⟩, fun g e => let ⟨p1, p2, p3⟩ := h.hc g e; ⟨p1, Nat.lt_of_lt_of_le p2 hb.size, p3.below hb p2⟩, h.ab, h.ac, h.bc⟩
theorem F17.make (h : F17 W nd nf L none gb gc w) (hb : Below w.heap.size w w') (ho : OwnG rawC 4 41 w' w.heap.size (.slice (some ⟨w.heap.size, 0, none⟩) nd nd) (List.replicate nd zeroRaw)) (hl : w.heap.size < w'.heap.size) : F17 W nd nf L (some w.heap.size) gb gc w' := by
  have h' := h.later hb
  have hs := Below.size h.below
  refine ⟨h'.below, ?_, h'.hb, h'.hc, ?_, ?_, h'.bc⟩
  · rintro g ⟨⟩
    exact ⟨hs, hl, ho⟩
  · rintro g g' ⟨⟩ e
    have := (h.hb g' e).2.1
    omega
  · rintro g g' ⟨⟩ e
    have := (h.hc g' e).2.1
    omega
theorem F17.call (h : F17 W nd nf L ga none gc w) (hb : Below w.heap.size w w') (hg : w.heap.size ≤ g) (hW : Whole .i64 3 w' g L) : F17 W nd nf L ga (some g) gc w' := by
  have h' := h.later hb
  have hs := Below.size h.below
  refine ⟨h'.below, h'.ha, ?_, h'.hc, ?_, h'.ac, ?_⟩
  · rintro g ⟨⟩
    exact ⟨Nat.le_trans hs hg, hW.lt, hW⟩
  · rintro g1 g' e ⟨⟩
    have := (h.ha g1 e).2.1
    omega
  · rintro g1 g' ⟨⟩ e
    have := (h.hc g' e).2.1
    omega
theorem F17.alloc (h : F17 W nd nf L ga gb none w) : F17 W nd nf L ga gb (some w.heap.size) (w.alloc (.cells #[.slice none 0 0, .slice none 0 0] 26)) := by
  have hb := (Below.refl _ w).alloc (Nat.le_refl _) (.cells #[.slice none 0 0, .slice none 0 0] 26)
  have h' := h.later hb
  have hs := Below.size h.below
  have hx := Box.new w 26 #[.slice none 0 0, .slice none 0 0]
  refine ⟨h'.below, h'.ha, h'.hb, ?_, h'.ab, ?_, ?_⟩
  · rintro g ⟨⟩
    exact ⟨hs, hx.lt, hx⟩
  · rintro g1 g' e ⟨⟩
    have := (h.ha g1 e).2.1
    omega
  · rintro g1 g' e ⟨⟩
    have := (h.hb g1 e).2.1
    omega
theorem F17.box (h : F17 W nd nf L (some a) (some b) (some g) w) : w.cell? ⟨g, 0, none⟩ = some (.slice none 0 0) ∧ w.cell? ⟨g, 1, none⟩ = some (.slice none 0 0) ∧ w.frozen? ⟨g, 0, none⟩ = false ∧ w.frozen? ⟨g, 1, none⟩ = false ∧ True :=
  let ⟨_, _, p⟩ := h.hc g rfl
  ⟨p.cell 0, p.cell 1, p.soft 0, p.soft 1, trivial⟩
theorem F17.done (h : F17 W nd nf L (some a) (some b) (some g) w) : F18 W nd nf L a b g ((w.setCell ⟨g, 0, none⟩ (.slice (some ⟨a, 0, none⟩) nd nd)).setCell ⟨g, 1, none⟩ (.slice (some ⟨b, 0, none⟩) nf nf)) := by
  obtain ⟨p1, p2, p3⟩ := h.hc g rfl
  obtain ⟨a1, a2, a3⟩ := h.ha a rfl
  obtain ⟨b1, b2, b3⟩ := h.hb b rfl
  have hab := h.ab _ _ rfl rfl
  have hac := h.ac _ _ rfl rfl
  have hbc := h.bc _ _ rfl rfl
  refine ⟨below_set (below_set h.below p1 _ _) p1 _ _, a3.keepAt (by rw [heap_setOther _ hac, heap_setOther _ hac]), ⟨by rw [heap_setOther _ hbc, heap_setOther _ hbc]; exact b3.1, b3.2⟩, (p3.set 0 _).set 1 _, a1, b1, p1, by rw [size_setCell, size_setCell]; exact a2, hab, hac⟩
end
/-- What holds while the spots are gone over: 'k' of them. -/
structure F2I (zs ord : List Int) (raws : List Raw) (gn ga nd : Nat) (w6 : World) (k : Nat) (cur : List Raw) (wr : World) : Prop where
  own : OwnG rawC 4 41 wr ga (.slice (some ⟨ga, 0, none⟩) nd nd) cur
  len : cur.length = nd
  put : ∀ j, j < k → (st zs j : Int) ∈ ord → nthG cur (plI ord (st zs j)).toNat = nthG raws j
  map : MapF Try.prog .i64 .i64 3 3 wr gn (k + 1) (nmT zs ord k)
  fr : TrF gn ga w6.heap.size w6 wr
/-- .. while the objects get their references' new names: 'i' of them. -/
structure F3I (zs ord : List Int) (ga nd B0 : Nat) (w7 : World) (old : List Raw) (i : Nat) (cur : List Raw) (wr : World) : Prop where
  own : OwnG rawC 4 41 wr ga (.slice (some ⟨ga, 0, none⟩) nd nd) cur
  len : cur.length = nd
  obs : ∀ j, j < i → ObV wr B0 wr.heap.size (nthG cur j) (obC zs ord (nth ord j)) ∧ Off (some ga) (nthG cur j).ra (nthG cur j).rn ∧ Off (some ga) (nthG cur j).ba (nthG cur j).bn
  old : ∀ j, i ≤ j → nthG cur j = nthG old j
  fr : TrF ga ga w7.heap.size w7 wr
theorem plI_one {ord : List Int} {x y : Int} (hx : x ∈ ord) (hy : y ∈ ord) (h : plI ord x = plI ord y) : x = y := by
  obtain ⟨a, ha, _, h1⟩ := plI_in hx
  obtain ⟨b, hb, _, h2⟩ := plI_in hy
  obtain rfl : a = b := by omega
  rw [← h1, h2]
section
variable {zs ord : List Int} {raws cur old : List Raw} {gn ga nd k p i B0 : Nat} {w6 w7 w8 wr wr' : World}
theorem F2I.next (h : F2I zs ord raws gn ga nd w6 k cur wr) (hb : Below wr.heap.size wr wr') : F2I zs ord raws gn ga nd w6 k cur wr' :=
  ⟨h.own.below hb, h.len, h.put, h.map.below hb h.map.lt, h.fr.trans (TrF.of_below (hb.mono h.fr.size))⟩
theorem F2I.skip (h : F2I zs ord raws gn ga nd w6 k cur wr) (hn : (st zs k : Int) ∉ ord) : F2I zs ord raws gn ga nd w6 (k + 1) cur wr :=
  ⟨h.own, h.len, fun j hj hin => by
    rcases Nat.lt_succ_iff_lt_or_eq.1 hj with h1 | h1
    · exact h.put j h1 hin
    · subst h1; exact absurd hin hn, by rw [nmT_miss hn]; exact h.map.mono (by omega), h.fr⟩
theorem F2I.note (h : F2I zs ord raws gn ga nd w6 k cur wr) (hg : wr.grownBy w8 (some gn)) (hne : gn ≠ ga) : OwnG rawC 4 41 w8 ga (.slice (some ⟨ga, 0, none⟩) nd nd) cur ∧ TrF gn ga w6.heap.size w6 w8 := by
  have hl := h.own.form
  refine ⟨?_, h.fr.trans ⟨hg.os, hg.tape, hg.output, hg.size, fun i hi h1 _ => hg.block i (Nat.lt_of_lt_of_le hi h.fr.size) (by intro e; injection e with e; exact h1 e)⟩⟩
  rcases Nat.lt_or_ge ga wr.heap.size with h1 | h1
  · exact h.own.keepAt (hg.block ga h1 (by intro e; injection e with e; exact hne e.symm))
  · exfalso
    rcases h.own.2 with ⟨h2, _⟩ | ⟨g', cap, c, h2, _, hh, _⟩
    · cases h2
    · injection h2 with h2
      injection h2 with h2
      injection h2 with h2
      subst h2
      rw [Array.getElem?_eq_none h1] at hh
      cases hh
theorem F2I.store (h : F2I zs ord raws gn ga nd w6 k cur wr) (hin : (st zs k : Int) ∈ ord) (hb : k < (begins zs 0).length) (hm : MapF Try.prog .i64 .i64 3 3 w8 gn (k + 1 + 1) (Go.Proofs.Ytjefbekdjgmmbaa.put (nmT zs ord k) k (plI ord (st zs k)))) (hg : wr.grownBy w8 (some gn)) (hne : gn ≠ ga) (hp : plI ord (st zs k) = p) (hpn : p < nd) {r : Raw} (hr : nthG raws k = r) :
    F2I zs ord raws gn ga nd w6 (k + 1) (cur.set p r) ((((w8.setCell ⟨ga, p * 4, none⟩ (.int .i64 r.t)).setCell ⟨ga, p * 4 + 1, none⟩ (.slice r.ra r.rn r.rc)).setCell ⟨ga, p * 4 + 2, none⟩ (.slice r.ba r.bn r.bc)).setCell ⟨ga, p * 4 + 3, none⟩ (.bool r.f)) := by
  obtain ⟨h1, h2⟩ := h.note hg hne
  refine ⟨h1.put4 p r (by rw [h.len]; exact hpn), by simpa using h.len, fun j hj hin2 => ?_, ?_, h2.trans ⟨rfl, rfl, rfl, by simp [World.setCell], fun i _ _ h3 => by rw [heap_setOther _ h3, heap_setOther _ h3, heap_setOther _ h3, heap_setOther _ h3]⟩⟩
  · rcases Nat.lt_succ_iff_lt_or_eq.1 hj with h3 | h3
    · obtain ⟨a, ha, hal, _⟩ := plI_in hin2
      have hap : p ≠ a := fun e => by
        have h4 := plI_one hin2 hin (by omega)
        have := st_inj (zs := zs) (i := j) (j := k) (by omega) hb (by omega)
        omega
      have := h.put j h3 hin2
      rw [ha, Int.toNat_natCast] at *
      rw [nthG_put_other _ _ hap]
      exact this
    · subst h3
      rw [hp, Int.toNat_natCast, nthG_put_same _ _ _ (by rw [h.len]; exact hpn), hr]
  · rw [nmT_hit hin]
    exact (((hm.setOther (Ne.symm hne) _ _).setOther (Ne.symm hne) _ _).setOther (Ne.symm hne) _ _).setOther (Ne.symm hne) _ _
theorem F3I.next (h : F3I zs ord ga nd B0 w7 old i cur wr) (hb : Below wr.heap.size wr wr') : F3I zs ord ga nd B0 w7 old i cur wr' :=
  ⟨h.own.below hb, h.len, fun j hj => let ⟨a, b, c⟩ := h.obs j hj; ⟨(a.below hb (Nat.le_refl _)).more hb.size, b, c⟩, h.old, h.fr.trans (TrF.of_below (hb.mono h.fr.size))⟩
theorem F3I.store (h : F3I zs ord ga nd B0 w7 old i cur wr) (hi : i < nd) {g rn : Nat} {r : Raw} (hr : nthG old i = r)
    (hV : ObV wr B0 wr.heap.size { r with ra := some ⟨g, 0, none⟩, rn := rn, rc := rn } (obC zs ord (nth ord i))) (h1 : Off (some ga) (some ⟨g, 0, none⟩) rn) (h2 : Off (some ga) r.ba r.bn) :
    F3I zs ord ga nd B0 w7 old (i + 1) (cur.set i { r with ra := some ⟨g, 0, none⟩, rn := rn, rc := rn }) (wr.setCell ⟨ga, i * 4 + 1, none⟩ (.slice (some ⟨g, 0, none⟩) rn rn)) := by
  have hl := h.len
  have hri : nthG cur i = r := by rw [h.old i (Nat.le_refl _), hr]
  have hk : ∀ q, q < wr.heap.size → some ga ≠ some q → (wr.setCell ⟨ga, i * 4 + 1, none⟩ (.slice (some ⟨g, 0, none⟩) rn rn)).heap[q]? = wr.heap[q]? := fun q _ hq => heap_setOther _ (fun e => hq (by rw [e])) _ _
  refine ⟨h.own.setOne i 1 _ _ (by omega) (by omega) (by rw [hri]; rfl), by simpa using hl, fun j hj => ?_, fun j hj => ?_, h.fr.trans ⟨rfl, rfl, rfl, by simp [World.setCell], fun q _ h3 _ => heap_setOther _ h3 _ _⟩⟩
  · rw [size_setCell]
    rcases Nat.lt_succ_iff_lt_or_eq.1 hj with h3 | h3
    · rw [nthG_put_other _ _ (by omega)]
      obtain ⟨a, b, c⟩ := h.obs j h3
      exact ⟨a.keepOff b c hk, b, c⟩
    · subst h3
      rw [nthG_put_same _ _ _ (by omega)]
      exact ⟨hV.keepOff h1 h2 hk, h1, h2⟩
  · rw [nthG_put_other _ _ (by omega)]
    exact h.old j (by omega)
end
/-- The references of an object that is reached, by their new names. -/
theorem refs_new {zs ord : List Int} {s : Nat} (hz : ∀ z ∈ zs, (Lit.int .u64 z).wf = true) (h : arErr zs = 0) (hs : (s : Int) ∈ livesI zs) (hcl : ∀ y ∈ nxOf zs s, y < 0 ∨ y ∈ ord) (hneg : (-1 : Int) ∉ ord) :
    (refsX zs s).map (fun r => (nmT zs ord (begins zs 0).length r).getD 0) = (named zs s).map (plI ord) := by
  obtain ⟨h1, h2⟩ := refs_at hz h hs
  rw [← h1, List.map_map]
  refine List.map_congr_left fun r hr => ?_
  have hi := h2 r hr
  refine nmT_ref hi ?_ hneg
  rcases hcl (atI zs r) (by unfold nxOf; rw [Int.toNat_natCast, ← h1]; exact List.mem_map.2 ⟨r, hr, rfl⟩) with h3 | h3
  · exact .inl (hi.resolve_right fun h4 => by have := (atI_neg hi).1 h3; omega)
  · exact .inr h3
/-- What holds while the words in the order get their places. -/
structure F1I (ord : List Int) (gp : Nat) (w : World) (k : Nat) (wr : World) : Prop where
  map : MapF Try.prog .i64 .i64 3 3 wr gp k (plT ord k)
  below : Below gp w wr
set_option maxRecDepth 8000 in
set_option maxHeartbeats 4000000 in
theorem sameForm_good (A F : Option Addr) (n c nf cf : Nat) (zs fr : List Int) (w : World) (h : ArenaFrom w A F n c nf cf zs fr) (h0 : fromE zs fr = 0) :
    Calls Try.prog 10 #[.slice A n c, .slice F nf cf] w (SFormP zs fr w) := by
  obtain ⟨hao, hfo⟩ := fromE_zero h0
  have h256 := arena_len hao
  have hsp := (arErr_zero hao).1
  have hL := spList_ok hsp
  obtain ⟨m, hm⟩ : ∃ m, (begins zs 0).length = m := ⟨_, rfl⟩
  have hbl := begins_len (zs := zs) (a := 0)
  have hLl : (spList zs).length = m := by rw [hL, List.length_map, hm]
  have hspot : ∀ k, k < m → nthG (spList zs) k = spOf zs (st zs k) ∧ st zs k < 256 := fun k hk => by
    have h1 := begins_mem (st_mem (zs := zs) (k := k) (by omega))
    exact ⟨by rw [hL, nthG_map _ _ _ (by omega)]; rfl, by omega⟩
  have hn : n ≤ maxLen := by unfold maxLen; have := h.hn; omega
  have ha := h.arena
  have HWF := Lib.hid ha.2.1
  have b0 := (Below.refl _ w).alloc (Nat.le_refl _) (.cells #[.slice none 0 0, .slice none 0 0] 26)
  have HX := Lib.hid (Box.new w 26 #[.slice none 0 0, .slice none 0 0])
  have h1 := h.later b0
  have HO := Lib.hid (sameOrd_any A F n c nf cf zs fr (w.alloc (.cells #[.slice none 0 0, .slice none 0 0] 26)) hn h.hnc h1.arena (by unfold maxLen; have := h.hnf; omega) h1.from_)
  unfold OrderP at HO
  rw [orderO_ok h0, h0] at HO
  obtain ⟨ord, hord⟩ : ∃ l, camL zs fr = l := ⟨_, rfl⟩
  rw [hord] at HO
  have HND : Hid ord.Nodup := by show ord.Nodup; rw [← hord]; exact camL_nd
  have HLV : Hid (∀ x ∈ ord, x ∈ livesI zs) := by show ∀ x ∈ ord, _; rw [← hord]; exact camL_lives ha.2.1 h0
  have hm256 : ord.length ≤ 256 := by rw [← hord]; exact camL_len ha.2.1 h0
  have HB := Lib.hid b0
  have HOR := Lib.hid hord
  have HS := Lib.hid hspot
  have HM := Lib.hid hm
  have HZ0 := Lib.hid h0
  have HAO := Lib.hid hao
  have HNF := Lib.hid h.hnf
  have HF := Lib.hid h.from_
  have HSP := Lib.hid (fun wx (hb : Below w.heap.size w wx) => Spots_any A n c zs wx hn (ha.later hb))
  have HOB := Lib.hid (fun wx (hb : Below w.heap.size w wx) => Objects_any A n c zs wx hn h.hnc (ha.later hb))
  have hm2 : m ≤ 256 := by omega
  unfold SpotsP at HSP
  rw [hLl, hsp] at HSP
  unfold ObjectsP at HOB
  rw [hao] at HOB
  have hmm := @run_makeMap Try.prog
  have h1wf : (Lit.int .i64 (-1)).wf = true := by decide
  clear b0 h h1 h0 ha hn hao hfo h256 hsp hL hm hbl hLl hspot hord
  go_enter Try.func10, Try.ntmps10
  go_wp2_with fail
  refine HO.out.mono ?_
  rintro e w1 ⟨A1, nd, c1, rfl, b1, _, hA1⟩
  have HB1 := Lib.hid (bthen HB.out b1)
  have HX1 := Lib.hid (HX.out.below b1 HX.out.lt)
  have hndl : ord.length = nd := hA1.1
  have hnd : nd ≤ 256 := by omega
  have HNL := Lib.hid hndl
  have HA1 := Lib.hid hA1
  have HS1 := Lib.hid (HSP.out w1 HB1.out)
  clear b1 HB HX HO hndl hm256 hA1
  go_wp2_with fail
  refine HS1.out.mono ?_
  rintro e w2 ⟨A2, c2, rfl, b2, _, hA2, _⟩
  have HB2 := Lib.hid (bthen HB1.out b2)
  have HX2 := Lib.hid (HX1.out.below b2 HX1.out.lt)
  have HA1 := Lib.hid (HA1.out.later b2)
  have HA2 := Lib.hid hA2
  have HO2 := Lib.hid (HOB.out w2 HB2.out)
  clear b2 HS1 HSP HB1 HX1 hA2 HOB
  go_wp2_with fail
  refine HO2.out.mono ?_
  rintro e w3 ⟨OA, k3, oc, rfl, b3, _, hob⟩
  rcases hob with ⟨hob, _⟩ | ⟨_, hk3, raws, hraws, hobv⟩
  · exact absurd rfl hob
  rw [HM.out] at hk3
  have hk3 := hk3.symm
  subst hk3
  have HB3 := Lib.hid (bthen HB2.out b3)
  have HX3 := Lib.hid (HX2.out.below b3 HX2.out.lt)
  have HA1 := Lib.hid (HA1.out.later b3)
  have HA2 := Lib.hid ((HA2.out.below b3 (Nat.le_refl _)).more b3.size)
  have HRW := Lib.hid hraws
  have HOV : Hid (∀ j, j < m → ObV w3 (w.heap.size + 1) w3.heap.size (nthG raws j) (obOf zs (st zs j))) := fun j hj => (hobv j hj).less (by have := HX2.out.lt; omega)
  clear b3 HO2 hraws hobv HB2 HX2
  go_wp2_with fail
  have bm : Below w3.heap.size w3 (w3.alloc (.map #[] 0)) := (Below.refl _ w3).alloc (Nat.le_refl _) _
  have HI : Hid (F1I ord w3.heap.size w3 0 (w3.alloc (.map #[] 0))) := ⟨by rw [plT_zero]; exact MapF.made Try.prog .i64 .i64 3 3 w3, bm⟩
  clear bm
  generalize (w3.alloc (.map #[] 0)) = W4 at *
  obtain ⟨gp, hgp⟩ : ∃ g, w3.heap.size = g := ⟨_, rfl⟩
  have HGP := Lib.hid hgp
  rw [hgp] at HI
  rw [hgp]
  clear hgp
  go_loopw [52] (fun i wr => ∃ k : Nat, k ≤ nd ∧ i = .int .i64 k ∧ Hid (F1I ord gp w3 k wr)) (fun i _ => nd - (intOf i).toNat)
  case atStart => exact ⟨0, Nat.zero_le _, rfl, HI⟩
  case round =>
    obtain ⟨k, hk, rfl, hI⟩ := hrel
    clear HI
    by_cases hlt : k < nd
    · have hA := HA1.out.below (show Below w3.heap.size w3 wr by rw [HGP.out]; exact hI.out.below) (Nat.le_refl _)
      obtain ⟨b, off, rfl, _, hc⟩ := hA.2.2 (by omega)
      have c1 := hc k hlt
      have hkl : k < ord.length := by rw [HNL.out]; exact hlt
      have hx : (Lit.int .i64 (nth ord k)).wf = true := hA.2.1 _ (nth_mem hkl)
      have hkw : (Lit.int .i64 (k : Int)).wf = true := wf_i64.2 (by omega)
      obtain ⟨w5, hrun, hm5, hg5⟩ := hI.out.map.store placesT (by unfold maxLen; omega) hx hkw
      rw [← plT_next HND.out hkl] at hm5
      have HN : Hid (F1I ord gp w3 (k + 1) w5) := ⟨hm5, hI.out.below.trans (grown_below hg5 (Nat.le_refl _) (Nat.le_of_lt hI.out.map.lt))⟩
      clear hA hc hm5 hg5 hI hx hkl
      generalize nth ord k = X at *
      go_wp2
      go_roundw
      case rel => exact ⟨k + 1, by omega, by go_num, HN⟩
      case measure => simp [intOf]; omega
    · obtain rfl : k = nd := by omega
      have HMP : Hid (MapF Try.prog .i64 .i64 3 3 wr gp k (plT ord k)) := hI.out.map
      have HBW : Hid (Below w3.heap.size w3 wr) := by show Below _ _ _; rw [HGP.out]; exact hI.out.below
      clear hI
      generalize k = nd at *
      have HX5 := Lib.hid (HX3.out.below HBW.out HX3.out.lt)
      have HB5 := Lib.hid (bthen HB3.out HBW.out)
      have HA1 := Lib.hid (HA1.out.later HBW.out)
      have HA2 := Lib.hid ((HA2.out.below HBW.out (Nat.le_refl _)).more HBW.out.size)
      have HRW := Lib.hid ((HRW.out.below HBW.out (Nat.le_refl _)).more HBW.out.size)
      have HOV : Hid (∀ j, j < m → ObV wr (w.heap.size + 1) wr.heap.size (nthG raws j) (obOf zs (st zs j))) := fun j hj => ((HOV.out j hj).below HBW.out (Nat.le_refl _)).more HBW.out.size
      clear HX3 HB3 HBW HGP
      clear W4
      generalize wr = w4 at *
      go_wp2_with (refine wpList_insert_map placesT _ rfl _ _ _ rfl rfl rfl rfl (MapF.made Try.prog .i64 .i64 3 3 w4) (by unfold maxLen; omega) h1wf h1wf ?_; intro w5 hm5 hg5)
      have HRN := Lib.hid (fun wx (hb : BelowW w4 wx) => renamed_any F nf cf gp nd fr (plT ord nd) wx HNF.out (HF.out.later (bthen HB5.out hb)) (HMP.out.below hb HMP.out.lt))
      have hrl : (fr.map fun v => (plT ord nd v).getD 0) = formF zs fr := by
        unfold formF
        rw [HOR.out]
        refine List.map_congr_left fun x hx => ?_
        have hxo : x ∈ ord := by rw [← HOR.out]; exact camL_fr HZ0.out x hx
        rw [← HNL.out, plT_all]
        simp only [if_pos hxo]; rfl
      rw [hrl] at HRN
      have HNM : Hid (MapF Try.prog .i64 .i64 3 3 w5 w4.heap.size 1 (nmT zs ord 0)) := by show MapF _ _ _ _ _ _ _ _ _; rw [nmT_zero]; exact hm5
      have hB5 : BelowW w4 w5 := ((Below.refl _ w4).alloc (Nat.le_refl _) _).trans (grown_below hg5 (Nat.le_refl _) (by simp))
      clear hm5 hg5 hrl
      have HRN := Lib.hid (fun wx (hb : BelowW (w5.drewN 1) wx) => HRN.out wx (Below.trans hB5 (Below.mono (show Below w5.heap.size w5 wx from (below_drewN (Below.refl _ _) 1).trans hb) (Below.size hB5))))
      have HB45 := Lib.hid hB5
      clear hB5
      go_wp2_with fail
      go_cut [14] (fun s wx => ∃ ga gb gc, s = .pointer (some ⟨gc, 0, none⟩) ∧ Hid (F18 (w5.drewN 1) nd nf (formF zs fr) ga gb gc wx))
      case first =>
        refine wp_region_Y 8 (fun _ => True) (by kernel_rfl) ?_
        change anyY _ _ _ _ _ _ _ _ _ (w5.drewN 1)
        have HQ0 : Hid (F17 (w5.drewN 1) nd nf (formF zs fr) none none none (w5.drewN 1)) := ⟨Below.refl _ _, (by intro _ e; cases e), (by intro _ e; cases e), (by intro _ e; cases e), (by intro _ _ e; cases e), (by intro _ _ e; cases e), (by intro _ _ e; cases e)⟩
        clear HB45 HNM
        generalize (w5.drewN 1) = WX at *
        refine anyY_pure (i := 0) (v := .slice A1 nd c1) rfl rfl rfl (by kernel_rfl) (by kernel_rfl) (by kernel_rfl) (fun _ _ _ h => h) (Or.inl ⟨by rfl, fun wx _ => ?_⟩) (.inr trivial) ?_
        · go_simp
        refine anyY_pure (i := 1) (v := .int .i64 nd) rfl rfl rfl (by kernel_rfl) (by kernel_rfl) (by kernel_rfl) (fun _ _ _ h => h) (Or.inl ⟨by rfl, fun wx _ => ?_⟩) (.inr trivial) ?_
        · go_simp
        refine anyY_pure (i := 3) (v := .slice F nf cf) rfl rfl rfl (by kernel_rfl) (by kernel_rfl) (by kernel_rfl) (fun _ _ _ h => h) (Or.inl ⟨by rfl, fun wx _ => ?_⟩) (.inr trivial) ?_
        · go_simp
        refine anyY_pure (i := 4) (v := .map (some gp)) rfl rfl rfl (by kernel_rfl) (by kernel_rfl) (by kernel_rfl) (fun _ _ _ h => h) (Or.inl ⟨by rfl, fun wx _ => ?_⟩) (.inr trivial) ?_
        · go_simp
        refine anyY_3 (i := 2) (j := 5) (k := 7) (by kernel_rfl) ?_ ?_ ?_
        · obtain ⟨wq1, hmk, ho, hb, hl⟩ := run_make_raws (P := Try.prog) (t := 24) Try.underlying24 obj_info (by omega) nd (by omega) WX
          have HQ1 := Lib.hid (HQ0.out.make hb ho hl)
          refine wpOp_step rfl fun K' hK' => ?_
          go_simp
          refine hK' _ _ ⟨.inr (.inr trivial), ?_⟩
          clear hK' hmk ho hb hl
          generalize WX.heap.size = gA at *
          refine anyY_2 (i := 5) (j := 7) (by kernel_rfl) ?_ ?_
          · refine wpOp_step rfl fun K' hK' => ?_
            go_simp
            refine (HRN.out wq1 HQ1.out.below).mono ?_
            rintro e wq2 ⟨gB, rfl, hg, hb, hW⟩
            have HQ2 := Lib.hid (HQ1.out.call hb hg hW)
            refine hK' _ _ ⟨.inr (.inr trivial), ?_⟩
            clear hK' hg hb hW
            refine anyY_pure (i := 6) (v := .agg #[.slice (some ⟨gA, 0, none⟩) nd nd, .slice (some ⟨gB, 0, none⟩) nf nf]) rfl rfl rfl (by kernel_rfl) (by kernel_rfl) (by kernel_rfl) (fun _ _ _ h => h) (Or.inl ⟨by rfl, fun wx _ => ?_⟩) (.inr trivial) ?_
            · go_simp
            refine anyY_only (i := 7) (by kernel_rfl) ?_
            have HQ3 := Lib.hid HQ2.out.alloc
            refine wpOp_step rfl fun K' hK' => ?_
            go_simp
            refine hK' _ _ ⟨.inr (.inr trivial), ?_⟩
            clear hK'
            generalize (wq2.alloc (.cells #[.slice none 0 0, .slice none 0 0] 26)) = wq3 at *
            generalize wq2.heap.size = gC at *
            obtain ⟨q1, q2, q3, q4, q5⟩ := HQ3.out.box
            have HD := Lib.hid HQ3.out.done
            refine anyY_only (i := 8) (by kernel_rfl) ?_
            refine wpOp_step rfl fun K' hK' => ?_
            go_simp
            refine hK' _ _ ⟨.inr (.inl rfl), anyY_done (by kernel_rfl) ?_ _⟩
            clear hK' q1 q2 q3 q4 q5 HRN
            go_wp2_with fail
            go_meet
            exact ⟨gA, gB, gC, rfl, HD⟩
          · have HQ2 := Lib.hid HQ1.out.alloc
            refine wpOp_step rfl fun K' hK' => ?_
            go_simp
            refine hK' _ _ ⟨.inr (.inr trivial), ?_⟩
            clear hK'
            generalize (wq1.alloc (.cells #[.slice none 0 0, .slice none 0 0] 26)) = wq2 at *
            generalize wq1.heap.size = gC at *
            refine anyY_only (i := 5) (by kernel_rfl) ?_
            refine wpOp_step rfl fun K' hK' => ?_
            go_simp
            refine (HRN.out wq2 HQ2.out.below).mono ?_
            rintro e wq3 ⟨gB, rfl, hg, hb, hW⟩
            have HQ3 := Lib.hid (HQ2.out.call hb hg hW)
            refine hK' _ _ ⟨.inr (.inr trivial), ?_⟩
            clear hK' hg hb hW
            refine anyY_pure (i := 6) (v := .agg #[.slice (some ⟨gA, 0, none⟩) nd nd, .slice (some ⟨gB, 0, none⟩) nf nf]) rfl rfl rfl (by kernel_rfl) (by kernel_rfl) (by kernel_rfl) (fun _ _ _ h => h) (Or.inl ⟨by rfl, fun wx _ => ?_⟩) (.inr trivial) ?_
            · go_simp
            obtain ⟨q1, q2, q3, q4, q5⟩ := HQ3.out.box
            have HD := Lib.hid HQ3.out.done
            refine anyY_only (i := 8) (by kernel_rfl) ?_
            refine wpOp_step rfl fun K' hK' => ?_
            go_simp
            refine hK' _ _ ⟨.inr (.inl rfl), anyY_done (by kernel_rfl) ?_ _⟩
            clear hK' q1 q2 q3 q4 q5 HRN
            go_wp2_with fail
            go_meet
            exact ⟨gA, gB, gC, rfl, HD⟩
        · refine wpOp_step rfl fun K' hK' => ?_
          go_simp
          refine (HRN.out WX HQ0.out.below).mono ?_
          rintro e wq1 ⟨gB, rfl, hg, hb, hW⟩
          have HQ1 := Lib.hid (HQ0.out.call hb hg hW)
          refine hK' _ _ ⟨.inr (.inr trivial), ?_⟩
          clear hK' hg hb hW
          refine anyY_2 (i := 2) (j := 7) (by kernel_rfl) ?_ ?_
          · obtain ⟨wq2, hmk, ho, hb, hl⟩ := run_make_raws (P := Try.prog) (t := 24) Try.underlying24 obj_info (by omega) nd (by omega) wq1
            have HQ2 := Lib.hid (HQ1.out.make hb ho hl)
            refine wpOp_step rfl fun K' hK' => ?_
            go_simp
            refine hK' _ _ ⟨.inr (.inr trivial), ?_⟩
            clear hK' hmk ho hb hl
            generalize wq1.heap.size = gA at *
            refine anyY_pure (i := 6) (v := .agg #[.slice (some ⟨gA, 0, none⟩) nd nd, .slice (some ⟨gB, 0, none⟩) nf nf]) rfl rfl rfl (by kernel_rfl) (by kernel_rfl) (by kernel_rfl) (fun _ _ _ h => h) (Or.inl ⟨by rfl, fun wx _ => ?_⟩) (.inr trivial) ?_
            · go_simp
            refine anyY_only (i := 7) (by kernel_rfl) ?_
            have HQ3 := Lib.hid HQ2.out.alloc
            refine wpOp_step rfl fun K' hK' => ?_
            go_simp
            refine hK' _ _ ⟨.inr (.inr trivial), ?_⟩
            clear hK'
            generalize (wq2.alloc (.cells #[.slice none 0 0, .slice none 0 0] 26)) = wq3 at *
            generalize wq2.heap.size = gC at *
            obtain ⟨q1, q2, q3, q4, q5⟩ := HQ3.out.box
            have HD := Lib.hid HQ3.out.done
            refine anyY_only (i := 8) (by kernel_rfl) ?_
            refine wpOp_step rfl fun K' hK' => ?_
            go_simp
            refine hK' _ _ ⟨.inr (.inl rfl), anyY_done (by kernel_rfl) ?_ _⟩
            clear hK' q1 q2 q3 q4 q5 HRN
            go_wp2_with fail
            go_meet
            exact ⟨gA, gB, gC, rfl, HD⟩
          · have HQ2 := Lib.hid HQ1.out.alloc
            refine wpOp_step rfl fun K' hK' => ?_
            go_simp
            refine hK' _ _ ⟨.inr (.inr trivial), ?_⟩
            clear hK'
            generalize (wq1.alloc (.cells #[.slice none 0 0, .slice none 0 0] 26)) = wq2 at *
            generalize wq1.heap.size = gC at *
            refine anyY_only (i := 2) (by kernel_rfl) ?_
            obtain ⟨wq3, hmk, ho, hb, hl⟩ := run_make_raws (P := Try.prog) (t := 24) Try.underlying24 obj_info (by omega) nd (by omega) wq2
            have HQ3 := Lib.hid (HQ2.out.make hb ho hl)
            refine wpOp_step rfl fun K' hK' => ?_
            go_simp
            refine hK' _ _ ⟨.inr (.inr trivial), ?_⟩
            clear hK' hmk ho hb hl
            generalize wq2.heap.size = gA at *
            refine anyY_pure (i := 6) (v := .agg #[.slice (some ⟨gA, 0, none⟩) nd nd, .slice (some ⟨gB, 0, none⟩) nf nf]) rfl rfl rfl (by kernel_rfl) (by kernel_rfl) (by kernel_rfl) (fun _ _ _ h => h) (Or.inl ⟨by rfl, fun wx _ => ?_⟩) (.inr trivial) ?_
            · go_simp
            obtain ⟨q1, q2, q3, q4, q5⟩ := HQ3.out.box
            have HD := Lib.hid HQ3.out.done
            refine anyY_only (i := 8) (by kernel_rfl) ?_
            refine wpOp_step rfl fun K' hK' => ?_
            go_simp
            refine hK' _ _ ⟨.inr (.inl rfl), anyY_done (by kernel_rfl) ?_ _⟩
            clear hK' q1 q2 q3 q4 q5 HRN
            go_wp2_with fail
            go_meet
            exact ⟨gA, gB, gC, rfl, HD⟩
        · have HQ1 := Lib.hid HQ0.out.alloc
          refine wpOp_step rfl fun K' hK' => ?_
          go_simp
          refine hK' _ _ ⟨.inr (.inr trivial), ?_⟩
          clear hK'
          generalize (WX.alloc (.cells #[.slice none 0 0, .slice none 0 0] 26)) = wq1 at *
          generalize WX.heap.size = gC at *
          refine anyY_2 (i := 2) (j := 5) (by kernel_rfl) ?_ ?_
          · obtain ⟨wq2, hmk, ho, hb, hl⟩ := run_make_raws (P := Try.prog) (t := 24) Try.underlying24 obj_info (by omega) nd (by omega) wq1
            have HQ2 := Lib.hid (HQ1.out.make hb ho hl)
            refine wpOp_step rfl fun K' hK' => ?_
            go_simp
            refine hK' _ _ ⟨.inr (.inr trivial), ?_⟩
            clear hK' hmk ho hb hl
            generalize wq1.heap.size = gA at *
            refine anyY_only (i := 5) (by kernel_rfl) ?_
            refine wpOp_step rfl fun K' hK' => ?_
            go_simp
            refine (HRN.out wq2 HQ2.out.below).mono ?_
            rintro e wq3 ⟨gB, rfl, hg, hb, hW⟩
            have HQ3 := Lib.hid (HQ2.out.call hb hg hW)
            refine hK' _ _ ⟨.inr (.inr trivial), ?_⟩
            clear hK' hg hb hW
            refine anyY_pure (i := 6) (v := .agg #[.slice (some ⟨gA, 0, none⟩) nd nd, .slice (some ⟨gB, 0, none⟩) nf nf]) rfl rfl rfl (by kernel_rfl) (by kernel_rfl) (by kernel_rfl) (fun _ _ _ h => h) (Or.inl ⟨by rfl, fun wx _ => ?_⟩) (.inr trivial) ?_
            · go_simp
            obtain ⟨q1, q2, q3, q4, q5⟩ := HQ3.out.box
            have HD := Lib.hid HQ3.out.done
            refine anyY_only (i := 8) (by kernel_rfl) ?_
            refine wpOp_step rfl fun K' hK' => ?_
            go_simp
            refine hK' _ _ ⟨.inr (.inl rfl), anyY_done (by kernel_rfl) ?_ _⟩
            clear hK' q1 q2 q3 q4 q5 HRN
            go_wp2_with fail
            go_meet
            exact ⟨gA, gB, gC, rfl, HD⟩
          · refine wpOp_step rfl fun K' hK' => ?_
            go_simp
            refine (HRN.out wq1 HQ1.out.below).mono ?_
            rintro e wq2 ⟨gB, rfl, hg, hb, hW⟩
            have HQ2 := Lib.hid (HQ1.out.call hb hg hW)
            refine hK' _ _ ⟨.inr (.inr trivial), ?_⟩
            clear hK' hg hb hW
            refine anyY_only (i := 2) (by kernel_rfl) ?_
            obtain ⟨wq3, hmk, ho, hb, hl⟩ := run_make_raws (P := Try.prog) (t := 24) Try.underlying24 obj_info (by omega) nd (by omega) wq2
            have HQ3 := Lib.hid (HQ2.out.make hb ho hl)
            refine wpOp_step rfl fun K' hK' => ?_
            go_simp
            refine hK' _ _ ⟨.inr (.inr trivial), ?_⟩
            clear hK' hmk ho hb hl
            generalize wq2.heap.size = gA at *
            refine anyY_pure (i := 6) (v := .agg #[.slice (some ⟨gA, 0, none⟩) nd nd, .slice (some ⟨gB, 0, none⟩) nf nf]) rfl rfl rfl (by kernel_rfl) (by kernel_rfl) (by kernel_rfl) (fun _ _ _ h => h) (Or.inl ⟨by rfl, fun wx _ => ?_⟩) (.inr trivial) ?_
            · go_simp
            obtain ⟨q1, q2, q3, q4, q5⟩ := HQ3.out.box
            have HD := Lib.hid HQ3.out.done
            refine anyY_only (i := 8) (by kernel_rfl) ?_
            refine wpOp_step rfl fun K' hK' => ?_
            go_simp
            refine hK' _ _ ⟨.inr (.inl rfl), anyY_done (by kernel_rfl) ?_ _⟩
            clear hK' q1 q2 q3 q4 q5 HRN
            go_wp2_with fail
            go_meet
            exact ⟨gA, gB, gC, rfl, HD⟩
      case rest =>
        obtain ⟨ga, gb, gc, rfl, h18⟩ := hcut
        have hw6 : Below w5.heap.size w5 wc := (below_drewN (Below.refl _ _) 1).trans h18.out.below
        have hs5 : w4.heap.size < w5.heap.size := HNM.out.lt
        have oa : w5.heap.size ≤ ga := h18.out.oa
        have ob : w5.heap.size ≤ gb := h18.out.ob
        have oc5 : w5.heap.size ≤ gc := h18.out.oc
        have H18 := Lib.hid h18.out
        have HB46 : Hid (Below w4.heap.size w4 wc) := Below.trans HB45.out (hw6.mono (Nat.le_of_lt hs5))
        have HI : Hid (F2I zs ord raws w4.heap.size ga nd wc 0 (List.replicate nd zeroRaw) wc) := ⟨H18.out.own, by simp, fun j hj => absurd hj (by omega), HNM.out.below hw6 hs5, TrF.refl⟩
        have hl6 := H18.out.la
        clear h18 hw6 HNM HB45 HRN hmm
        generalize wc = w6 at *
        obtain ⟨gn, hgn⟩ : ∃ g, w4.heap.size = g := ⟨_, rfl⟩
        have HGN := Lib.hid hgn
        rw [hgn] at HI hs5
        rw [hgn]
        clear hgn
        go_wp2_with fail
        go_loopw [72] (fun i wr => ∃ (k : Nat) (cur : List Raw), k ≤ m ∧ i = .int .i64 k ∧ Hid (F2I zs ord raws gn ga nd w6 k cur wr)) (fun i _ => m - (intOf i).toNat)
        case atStart => exact ⟨0, _, Nat.zero_le _, rfl, HI⟩
        case round =>
          obtain ⟨k, cur, hk, rfl, hI⟩ := hrel
          clear HI
          by_cases hlt : k < m
          · obtain ⟨hs, hs256⟩ := HS.out k hlt
            have hkb : k < (begins zs 0).length := by rw [HM.out]; exact hlt
            have hb4 : Below w4.heap.size w4 wr := HB46.out.trans (hI.out.fr.below (by rw [HGN.out]; omega) (by rw [HGN.out]; omega) (by rw [HGN.out]; omega))
            obtain ⟨b, off, rfl, _, q0, q1, q2, q3, q4⟩ := (HA2.out.below hb4 (Nat.le_refl _)).spot hlt
            rw [hs] at q0 q1 q2 q3 q4
            unfold spOf at q0 q1 q2 q3 q4
            simp only at q0 q1 q2 q3 q4
            have hba := (Below.refl _ wr).alloc (Nat.le_refl _) (.cells #[.int .i64 (st zs k), .int .i64 (vR (nth zs (st zs k))), .int .i64 (vB (nth zs (st zs k))), .int .i64 (vT (nth zs (st zs k))), .bool (vF (nth zs (st zs k)))] 80)
            have hX := hI.out.next hba
            have hb4' := hb4.trans (hba.mono hb4.size)
            have hsw : (Lit.int .i64 (st zs k : Int)).wf = true := wf_i64.2 (by omega)
            have hlk := (HMP.out.below hb4' HMP.out.lt).lookOk placesT (x := (st zs k : Int)) hsw
            rw [← HNL.out, plT_all] at hlk
            simp only at hlk
            have hkw : (Lit.int .i64 (k : Int)).wf = true := wf_i64.2 (by omega)
            have bX := Box.new wr 80 #[.int .i64 (st zs k), .int .i64 (vR (nth zs (st zs k))), .int .i64 (vB (nth zs (st zs k))), .int .i64 (vT (nth zs (st zs k))), .bool (vF (nth zs (st zs k)))]
            by_cases hin : (st zs k : Int) ∈ ord
            · rw [if_pos hin] at hlk
              obtain ⟨p, hp, hpl, _⟩ := plI_in hin
              have hpn : p < nd := by have := HNL.out; omega
              rw [hp] at hlk
              simp only [Option.getD_some, Option.isSome_some] at hlk
              obtain ⟨w8, hrun, hm8, hg8⟩ := hX.map.store placesT (x := (k : Int)) (y := (p : Int)) (by unfold maxLen; omega) hkw (wf_i64.2 (by omega))
              obtain ⟨r, hr⟩ : ∃ r, nthG raws k = r := ⟨_, rfl⟩
              have HN := Lib.hid (hX.store hin hkb (by rw [hp]; exact hm8) hg8 (by omega) hp hpn hr)
              obtain ⟨ho8, hf8⟩ := hX.note hg8 (by omega)
              have hx8 : Box w8 gc 26 #[.slice (some ⟨ga, 0, none⟩) nd nd, .slice (some ⟨gb, 0, none⟩) nf nf] := (hf8.block gc H18.out.box.lt (by omega) (Ne.symm H18.out.ac)).trans H18.out.box
              have g0 : w8.cell? ⟨gc, 0, none⟩ = some (.slice (some ⟨ga, 0, none⟩) nd nd) := hx8.cell 0
              obtain ⟨⟨d0, d1, d2, d3⟩, hfz⟩ := ho8.cells4 (j := p) (by rw [hI.out.len]; exact hpn)
              have z0 : w8.frozen? ⟨ga, p * 4, none⟩ = false := hfz 0 (by omega)
              have z1 := hfz 1 (by omega)
              have z2 := hfz 2 (by omega)
              have z3 := hfz 3 (by omega)
              have hb8 : Below w4.heap.size w4 w8 := HB46.out.trans (hf8.below (by rw [HGN.out]; omega) (by rw [HGN.out]; omega) (by rw [HGN.out]; omega))
              obtain ⟨bo, oo, rfl, _, y0, y1, y2, y3⟩ := (HRW.out.below hb8 (Nat.le_refl _)).raw hlt
              rw [hr] at y0 y1 y2 y3
              obtain ⟨T, ra, rn, rc, ba, bn, bc, fr'⟩ := r
              simp only at y0 y1 y2 y3 HN
              clear hs hb4 hb4' hX hI hm8 hg8 ho8 hf8 hx8 hfz hb8 hin hp hpl hr hkb hba
              generalize (nthG cur p).t = t0 at *
              generalize (nthG cur p).f = t1 at *
              generalize vR (nth zs (st zs k)) = R at *
              generalize vB (nth zs (st zs k)) = Bd at *
              generalize vT (nth zs (st zs k)) = T' at *
              generalize vF (nth zs (st zs k)) = Fr at *
              generalize st zs k = s at *
              go_wp2_with fail
              clear hrun hlk bX q0 q1 q2 q3 q4
              have HN := Lib.hid (HN.out.next (below_drewN (Below.refl _ _) 1))
              refine wp_region_Y 8 (fun w' => w' = w8.drewN 1) (by kernel_rfl) ?_
              change anyY _ _ _ _ _ _ _ _ _ (w8.drewN 1)
              have g0 : (w8.drewN 1).cell? ⟨gc, 0, none⟩ = some (.slice (some ⟨ga, 0, none⟩) nd nd) := g0
              have d0 : (w8.drewN 1).cell? ⟨ga, p * 4, none⟩ = some (.int .i64 t0) := d0
              have d1 : (w8.drewN 1).cell? ⟨ga, p * 4 + 1, none⟩ = some (.slice (nthG cur p).ra (nthG cur p).rn (nthG cur p).rc) := d1
              have d2 : (w8.drewN 1).cell? ⟨ga, p * 4 + 2, none⟩ = some (.slice (nthG cur p).ba (nthG cur p).bn (nthG cur p).bc) := d2
              have d3 : (w8.drewN 1).cell? ⟨ga, p * 4 + 3, none⟩ = some (.bool t1) := d3
              have z0 : (w8.drewN 1).frozen? ⟨ga, p * 4, none⟩ = false := z0
              have z1 : (w8.drewN 1).frozen? ⟨ga, p * 4 + 1, none⟩ = false := z1
              have z2 : (w8.drewN 1).frozen? ⟨ga, p * 4 + 2, none⟩ = false := z2
              have z3 : (w8.drewN 1).frozen? ⟨ga, p * 4 + 3, none⟩ = false := z3
              have y0 : (w8.drewN 1).cell? ⟨bo, oo + k * 4, none⟩ = some (.int .i64 T) := y0
              have y1 : (w8.drewN 1).cell? ⟨bo, oo + k * 4 + 1, none⟩ = some (.slice ra rn rc) := y1
              have y2 : (w8.drewN 1).cell? ⟨bo, oo + k * 4 + 2, none⟩ = some (.slice ba bn bc) := y2
              have y3 : (w8.drewN 1).cell? ⟨bo, oo + k * 4 + 3, none⟩ = some (.bool fr') := y3
              have HN : Hid (F2I zs ord raws gn ga nd w6 (k + 1) (cur.set p ⟨T, ra, rn, rc, ba, bn, bc, fr'⟩) (((((w8.drewN 1).setCell ⟨ga, p * 4, none⟩ (.int .i64 T)).setCell ⟨ga, p * 4 + 1, none⟩ (.slice ra rn rc)).setCell ⟨ga, p * 4 + 2, none⟩ (.slice ba bn bc)).setCell ⟨ga, p * 4 + 3, none⟩ (.bool fr'))) := HN.out
              generalize w8.drewN 1 = WX at *
              refine anyY_pure (i := 0) (v := .pointer (some ⟨gc, 0, none⟩)) rfl rfl rfl (by kernel_rfl) (by kernel_rfl) (by kernel_rfl) (fun _ _ _ h => h) (Or.inl ⟨by rfl, fun wx _ => ?_⟩) (.inr rfl) ?_
              · go_simp
              refine anyY_take (i := 1) (v := .slice (some ⟨ga, 0, none⟩) nd nd) rfl rfl (by kernel_rfl) rfl (by kernel_rfl) (by kernel_rfl) (by kernel_rfl) (by kernel_rfl) (fun _ _ _ h => h) (Or.inl ⟨by rfl, fun wx hS => ?_⟩) rfl ?_
              · subst hS
                go_simp
              refine anyY_pure (i := 2) (v := .int .i64 (p : Int)) rfl rfl rfl (by kernel_rfl) (by kernel_rfl) (by kernel_rfl) (fun _ _ _ h => h) (Or.inl ⟨by rfl, fun wx _ => ?_⟩) (.inr rfl) ?_
              · go_simp
              refine anyY_pure (i := 3) (v := .slice (some ⟨bo, oo, none⟩) m oc) rfl rfl rfl (by kernel_rfl) (by kernel_rfl) (by kernel_rfl) (fun _ _ _ h => h) (Or.inl ⟨by rfl, fun wx _ => ?_⟩) (.inr rfl) ?_
              · go_simp
              refine anyY_pure (i := 4) (v := .int .i64 (k : Int)) rfl rfl rfl (by kernel_rfl) (by kernel_rfl) (by kernel_rfl) (fun _ _ _ h => h) (Or.inl ⟨by rfl, fun wx _ => ?_⟩) (.inr rfl) ?_
              · go_simp
              refine anyY_pure (i := 5) (v := .pointer (some ⟨bo, oo + k * 4, none⟩)) rfl rfl rfl (by kernel_rfl) (by kernel_rfl) (by kernel_rfl) (fun _ _ _ h => h) (Or.inl ⟨by rfl, fun wx _ => ?_⟩) (.inr rfl) ?_
              · go_simp
              refine anyY_take (i := 6) (v := .agg #[.int .i64 T, .slice ra rn rc, .slice ba bn bc, .bool fr']) rfl rfl (by kernel_rfl) rfl (by kernel_rfl) (by kernel_rfl) (by kernel_rfl) (by kernel_rfl) (fun _ _ _ h => h) (Or.inl ⟨by rfl, fun wx hS => ?_⟩) rfl ?_
              · subst hS
                go_simp
              refine anyY_pure (i := 7) (v := .pointer (some ⟨ga, p * 4, none⟩)) rfl rfl rfl (by kernel_rfl) (by kernel_rfl) (by kernel_rfl) (fun _ _ _ h => h) (Or.inl ⟨by rfl, fun wx _ => ?_⟩) (.inr rfl) ?_
              · go_simp
              refine anyY_only (i := 8) (by kernel_rfl) ?_
              refine wpOp_step rfl fun K' hK' => ?_
              go_simp
              refine hK' _ _ ⟨.inr (.inl rfl), anyY_done (by kernel_rfl) ?_ _⟩
              clear hK' g0 d0 d1 d2 d3 z0 z1 z2 z3 y0 y1 y2 y3
              go_wp2
              go_roundw
              case rel => exact ⟨k + 1, _, by omega, by go_num, HN⟩
              case measure => simp [intOf]; omega
            · rw [if_neg hin] at hlk
              simp only [Option.getD_none, Option.isSome_none] at hlk
              have HN := Lib.hid (hX.skip hin)
              clear hs hb4 hb4' hX hI hin hkb hba
              generalize vR (nth zs (st zs k)) = R at *
              generalize vB (nth zs (st zs k)) = Bd at *
              generalize vT (nth zs (st zs k)) = T' at *
              generalize vF (nth zs (st zs k)) = Fr at *
              generalize st zs k = s at *
              go_wp2
              go_roundw
              case rel => exact ⟨k + 1, cur, by omega, by go_num, HN⟩
              case measure => simp [intOf]; omega
          · have HC : Hid (∀ i, i < nd → ∃ s : Nat, nth ord i = (s : Int) ∧ (s : Int) ∈ livesI zs ∧ ObV w4 (w.heap.size + 1) w4.heap.size (nthG cur i) (obOf zs s)) := fun i hi => by
              have hil : i < ord.length := by rw [HNL.out]; exact hi
              have hx := nth_mem (l := ord) hil
              obtain ⟨j, hj, hje, _⟩ := mem_lives.1 (HLV.out _ hx)
              rw [HM.out] at hj
              refine ⟨st zs j, hje.symm, by rw [hje]; exact HLV.out _ hx, ?_⟩
              have h1 := hI.out.put j (by omega) (by rw [hje]; exact hx)
              rw [hje, plI_at HND.out hil, Int.toNat_natCast] at h1
              rw [h1]
              exact HOV.out j hj
            obtain rfl : k = m := by omega
            have HB7 : Hid (Below w4.heap.size w4 wr) := HB46.out.trans (hI.out.fr.below (by rw [HGN.out]; omega) (by rw [HGN.out]; omega) (by rw [HGN.out]; omega))
            have HX7 : Hid (Box wr gc 26 #[.slice (some ⟨ga, 0, none⟩) nd nd, .slice (some ⟨gb, 0, none⟩) nf nf]) := (hI.out.fr.block gc H18.out.box.lt (by omega) (Ne.symm H18.out.ac)).trans H18.out.box
            have HG7 : Hid (Whole .i64 3 wr gb (formF zs fr)) := ⟨(hI.out.fr.block gb H18.out.row.lt (by omega) (Ne.symm H18.out.ab)).trans H18.out.row.1, H18.out.row.2⟩
            have HN7 : Hid (MapF Try.prog .i64 .i64 3 3 wr gn (k + 1) (nmT zs ord k)) := hI.out.map
            have hl7 : ga < wr.heap.size := Nat.lt_of_lt_of_le hl6 hI.out.fr.size
            have HJ : Hid (F3I zs ord ga nd (w.heap.size + 1) wr cur 0 cur wr) := ⟨hI.out.own, hI.out.len, fun j hj => absurd hj (by omega), fun _ _ => rfl, TrF.refl⟩
            have hac : ga ≠ gc := H18.out.ac
            have hab : ga ≠ gb := H18.out.ab
            have hr4 := HX5.out.lt
            clear hI HB46 HRW HOV HA1 HA2 HMP H18 HS HLV hlt hk
            generalize k = m at *
            clear hl6
            generalize wr = w7 at *
            have g0 : w7.cell? ⟨gc, 0, none⟩ = some (.slice (some ⟨ga, 0, none⟩) nd nd) := HX7.out.cell 0
            go_wp2_with fail
            clear g0
            go_loopw [100] (fun i wr => ∃ (k : Nat) (cur' : List Raw), k ≤ nd ∧ i = .int .i64 k ∧ Hid (F3I zs ord ga nd (w.heap.size + 1) w7 cur k cur' wr)) (fun i _ => nd - (intOf i).toNat)
            case atStart => exact ⟨0, cur, Nat.zero_le _, rfl, HJ⟩
            case round =>
              obtain ⟨i, cur', hi, rfl, hI⟩ := hrel
              clear HJ
              by_cases hlt : i < nd
              · obtain ⟨s, hsx, hsl, hV0⟩ := HC.out i hlt
                have hb4 : Below w4.heap.size w4 wr := HB7.out.trans (hI.out.fr.below (by rw [HGN.out]; omega) (by rw [HGN.out]; omega) (by rw [HGN.out]; omega))
                obtain ⟨⟨e0, e1, e2, e3⟩, _⟩ := hI.out.own.cells4 (j := i) (by rw [hI.out.len]; exact hlt)
                rw [hI.out.old i (Nat.le_refl _)] at e0 e1 e2 e3
                obtain ⟨r, hr⟩ : ∃ r, nthG cur i = r := ⟨_, rfl⟩
                rw [hr] at hV0 e0 e1 e2 e3
                have HR := Lib.hid hr
                have HSX := Lib.hid hsx
                have HSL := Lib.hid hsl
                have HV0 := Lib.hid hV0
                have HB4 := Lib.hid hb4
                have hx9 : Box wr gc 26 #[.slice (some ⟨ga, 0, none⟩) nd nd, .slice (some ⟨gb, 0, none⟩) nf nf] := (hI.out.fr.block gc HX7.out.lt (Ne.symm hac) (Ne.symm hac)).trans HX7.out
                have hrn : r.rn ≤ 256 := by
                  have h1 := hV0.refs.1
                  have h2 := arena_len HAO.out
                  unfold obOf refWords at h1
                  simp only [List.length_map, List.length_take, List.length_drop] at h1
                  omega
                have hba := (Below.refl _ wr).alloc (Nat.le_refl _) (.cells #[.int .i64 r.t, .slice r.ra r.rn r.rc, .slice r.ba r.bn r.bc, .bool r.f] 41)
                have bX := Box.new wr 41 #[.int .i64 r.t, .slice r.ra r.rn r.rc, .slice r.ba r.bn r.bc, .bool r.f]
                have HIX := Lib.hid (hI.out.next hba)
                have HMX : Hid (MapF Try.prog .i64 .i64 3 3 (wr.alloc (.cells #[.int .i64 r.t, .slice r.ra r.rn r.rc, .slice r.ba r.bn r.bc, .bool r.f] 41)) gn (m + 1) (nmT zs ord m)) := (HN7.out.keep (hI.out.fr.block gn HN7.out.lt (by omega) (by omega))).alloc _
                have HBX := Lib.hid hba
                have hg9 : gc < wr.heap.size := hx9.lt
                have hga9 : ga < wr.heap.size := Nat.lt_of_lt_of_le hl7 hI.out.fr.size
                have g0 : (wr.alloc (.cells #[.int .i64 r.t, .slice r.ra r.rn r.rc, .slice r.ba r.bn r.bc, .bool r.f] 41)).cell? ⟨gc, 0, none⟩ = some (.slice (some ⟨ga, 0, none⟩) nd nd) := (hba.cell (p := ⟨gc, 0, none⟩) hg9).trans (hx9.cell 0)
                have g1 : (wr.alloc (.cells #[.int .i64 r.t, .slice r.ra r.rn r.rc, .slice r.ba r.bn r.bc, .bool r.f] 41)).cell? ⟨wr.heap.size, 1, none⟩ = some (.slice r.ra r.rn r.rc) := bX.cell 1
                have HBXB := Lib.hid bX
                obtain ⟨T, ra, rn, rc, ba, bn, bc, f⟩ := r
                simp only at e0 e1 e2 e3 hrn HIX HMX HBX g0 g1 HBXB
                clear hsx hsl hV0 hb4 hr hba hI hx9 bX
                have hp0 := g0
                have hp1 := g1
                go_wp2_with fail
                clear e0 e1 e2 e3
                generalize (wr.alloc (.cells #[.int .i64 T, .slice ra rn rc, .slice ba bn bc, .bool f] 41)) = W8 at *
                refine wp_region_Y 9 (fun w' => w'.cell? ⟨gc, 0, none⟩ = some (.slice (some ⟨ga, 0, none⟩) nd nd) ∧ w'.cell? ⟨wr.heap.size, 1, none⟩ = some (.slice ra rn rc)) (by kernel_rfl) ?_
                change anyY _ _ _ _ _ _ _ _ _ (W8.drewN 1)
                have HIX := Lib.hid (HIX.out.next (below_drewN (Below.refl _ _) 1))
                have HMX := Lib.hid (HMX.out.drewN 1)
                have HBX : Hid (Below wr.heap.size wr (W8.drewN 1)) := HBX.out.trans ((below_drewN (Below.refl _ _) 1).mono HBX.out.size)
                have HBXB : Hid (Box (W8.drewN 1) wr.heap.size 41 #[.int .i64 T, .slice ra rn rc, .slice ba bn bc, .bool f]) := HBXB.out
                have hS0 : (W8.drewN 1).cell? ⟨gc, 0, none⟩ = some (.slice (some ⟨ga, 0, none⟩) nd nd) ∧ (W8.drewN 1).cell? ⟨wr.heap.size, 1, none⟩ = some (.slice ra rn rc) := ⟨g0, g1⟩
                clear g0 g1 hp0 hp1
                generalize W8.drewN 1 = WX at *
                refine anyY_pure (i := 0) (v := .pointer (some ⟨gc, 0, none⟩)) rfl rfl rfl (by kernel_rfl) (by kernel_rfl) (by kernel_rfl) (fun _ _ _ h => h) (Or.inl ⟨by rfl, fun wx _ => ?_⟩) (.inr hS0) ?_
                · go_simp
                refine anyY_take (i := 1) (v := .slice (some ⟨ga, 0, none⟩) nd nd) rfl rfl (by kernel_rfl) rfl (by kernel_rfl) (by kernel_rfl) (by kernel_rfl) (by kernel_rfl) (fun _ _ _ h => h) (Or.inl ⟨by rfl, fun wx hS => ?_⟩) hS0 ?_
                · obtain ⟨p1, p2⟩ := hS
                  go_simp
                refine anyY_pure (i := 2) (v := .int .i64 (i : Int)) rfl rfl rfl (by kernel_rfl) (by kernel_rfl) (by kernel_rfl) (fun _ _ _ h => h) (Or.inl ⟨by rfl, fun wx _ => ?_⟩) (.inr hS0) ?_
                · go_simp
                refine anyY_pure (i := 3) (v := .pointer (some ⟨wr.heap.size, 1, none⟩)) rfl rfl rfl (by kernel_rfl) (by kernel_rfl) (by kernel_rfl) (fun _ _ _ h => h) (Or.inl ⟨by rfl, fun wx _ => ?_⟩) (.inr hS0) ?_
                · go_simp
                refine anyY_take (i := 4) (v := .slice ra rn rc) rfl rfl (by kernel_rfl) rfl (by kernel_rfl) (by kernel_rfl) (by kernel_rfl) (by kernel_rfl) (fun _ _ _ h => h) (Or.inl ⟨by rfl, fun wx hS => ?_⟩) hS0 ?_
                · obtain ⟨p1, p2⟩ := hS
                  go_simp
                refine anyY_pure (i := 5) (v := .map (some gn)) rfl rfl rfl (by kernel_rfl) (by kernel_rfl) (by kernel_rfl) (fun _ _ _ h => h) (Or.inl ⟨by rfl, fun wx _ => ?_⟩) (.inr hS0) ?_
                · go_simp
                have hvr : Arr .i64 WX WX.heap.size ra rn (refsX zs s) := ((HV0.out.refs.below HB4.out (Nat.le_refl _)).more HB4.out.size).later HBX.out
                have HRL : Hid (rn = (refsX zs s).length) := hvr.1.symm
                have HCR := Lib.hid (renamed_any ra rn rc gn (m + 1) (refsX zs s) (nmT zs ord m) WX (by omega) hvr HMX.out)
                have hcl : ∀ y ∈ nxOf zs s, y < 0 ∨ y ∈ ord := by
                  have h1 := camL_closed HWF.out HZ0.out i (by rw [HOR.out, HNL.out]; exact hlt)
                  rw [HOR.out, HSX.out] at h1
                  exact h1
                have hneg : (-1 : Int) ∉ ord := fun h1 => by
                  have := HC.out
                  obtain ⟨q, hq, e⟩ := List.getElem_of_mem h1
                  obtain ⟨s', hs', _⟩ := this q (by rw [← HNL.out]; exact hq)
                  rw [nth_get _ _ hq, e] at hs'
                  omega
                have hnew := refs_new HWF.out HAO.out HSL.out hcl hneg
                rw [HM.out] at hnew
                rw [hnew] at HCR
                clear hvr hcl hneg hnew
                refine anyY_only (i := 6) (by kernel_rfl) ?_
                refine wpOp_step rfl fun K' hK' => ?_
                go_simp
                refine HCR.out.mono ?_
                rintro e w10 ⟨g9, rfl, hg9', b10, hW10⟩
                have hB10 := HBX.out.trans (b10.mono HBX.out.size)
                have hX10 := HBXB.out.below b10 HBXB.out.lt
                have hS1 : w10.cell? ⟨gc, 0, none⟩ = some (.slice (some ⟨ga, 0, none⟩) nd nd) ∧ w10.cell? ⟨wr.heap.size, 1, none⟩ = some (.slice ra rn rc) := ⟨(b10.cell (p := ⟨gc, 0, none⟩) (Nat.lt_of_lt_of_le hg9 HBX.out.size)).trans hS0.1, hX10.cell 1⟩
                have hI10 := HIX.out.next b10
                obtain ⟨⟨d0, d1, d2, d3⟩, hfz⟩ := hI10.own.cells4 (j := i) (by rw [hI10.len]; exact hlt)
                rw [hI10.old i (Nat.le_refl _), HR.out] at d1
                simp only at d1
                have z1 := hfz 1 (by omega)
                have hHB : Below w4.heap.size w4 w10 := HB4.out.trans (hB10.mono HB4.out.size)
                have hV : ObV w10 (w.heap.size + 1) w10.heap.size ⟨T, some ⟨g9, 0, none⟩, rn, rn, ba, bn, bc, f⟩ (obC zs ord (nth ord i)) := by
                  have h1 := HV0.out
                  obtain ⟨q, hq, hqf, hqe⟩ := lives_mem.1 HSL.out
                  obtain rfl : s = q := by omega
                  have hga := hW10.arr hW10.lt
                  rw [List.length_map, show (named zs s).length = rn by rw [HRL.out]; unfold named refsX; rw [List.length_map, List.length_map]] at hga
                  rw [HSX.out]
                  unfold obC
                  rw [Int.toNat_natCast]
                  have hsz1 := HBX.out.size
                  have hsz2 := HB4.out.size
                  refine ⟨h1.tag, h1.free.trans hqf, Nat.le_refl _, h1.bcap, hga, fun b o _ e => ?_, (h1.body.below hHB (Nat.le_refl _)).more hHB.size, h1.bhigh⟩
                  injection e with e
                  injection e with e
                  omega
                have hO1 : Off (some ga) (some ⟨g9, 0, none⟩) rn := fun b o _ e e2 => by
                  injection e with e
                  injection e with e
                  injection e2 with e2
                  have hsz1 := HBX.out.size
                  omega
                have hO2 : Off (some ga) ba bn := HV0.out.body.off (fun b e => by injection e with e; rw [HGN.out]; omega)
                have HN := Lib.hid (hI10.store hlt HR.out hV hO1 hO2)
                refine hK' _ _ ⟨.inr (.inr hS1), ?_⟩
                clear hK' hg9' b10 hW10 hB10 hX10 hI10 d0 d2 d3 hfz hHB hV hO1 hO2 HCR HIX HMX HBXB HBX hS0
                refine anyY_pure (i := 7) (v := .pointer (some ⟨ga, i * 4, none⟩)) rfl rfl rfl (by kernel_rfl) (by kernel_rfl) (by kernel_rfl) (fun _ _ _ h => h) (Or.inl ⟨by rfl, fun wx _ => ?_⟩) (.inr hS1) ?_
                · go_simp
                refine anyY_pure (i := 8) (v := .pointer (some ⟨ga, i * 4 + 1, none⟩)) rfl rfl rfl (by kernel_rfl) (by kernel_rfl) (by kernel_rfl) (fun _ _ _ h => h) (Or.inl ⟨by rfl, fun wx _ => ?_⟩) (.inr hS1) ?_
                · go_simp
                refine anyY_only (i := 9) (by kernel_rfl) ?_
                refine wpOp_step rfl fun K' hK' => ?_
                go_simp
                refine hK' _ _ ⟨.inr (.inl rfl), anyY_done (by kernel_rfl) ?_ _⟩
                clear hK' hS1 d1 z1
                go_wp2
                go_roundw
                case rel => exact ⟨i + 1, _, by omega, by go_num, HN⟩
                case measure => simp [intOf]; omega
              · obtain rfl : i = nd := by omega
                have hgn4 : w4.heap.size = gn := HGN.out
                have hx9 : Box wr gc 26 #[.slice (some ⟨ga, 0, none⟩) i i, .slice (some ⟨gb, 0, none⟩) nf nf] := (hI.out.fr.block gc HX7.out.lt (Ne.symm hac) (Ne.symm hac)).trans HX7.out
                have hb4 : Below w4.heap.size w4 wr := HB7.out.trans (hI.out.fr.below (by rw [HGN.out]; omega) (by rw [HGN.out]; omega) (by rw [HGN.out]; omega))
                have hR := HX5.out.below hb4 HX5.out.lt
                have hW9 : Whole .i64 3 wr gb (formF zs fr) := ⟨(hI.out.fr.block gb HG7.out.lt (Ne.symm hab) (Ne.symm hab)).trans HG7.out.1, HG7.out.2⟩
                have g0 : wr.cell? ⟨gc, 0, none⟩ = some (.slice (some ⟨ga, 0, none⟩) i i) := hx9.cell 0
                have g1 : wr.cell? ⟨gc, 1, none⟩ = some (.slice (some ⟨gb, 0, none⟩) nf nf) := hx9.cell 1
                have s0 : wr.frozen? ⟨w.heap.size, 0, none⟩ = false := hR.soft 0
                have s1 : wr.frozen? ⟨w.heap.size, 1, none⟩ = false := hR.soft 1
                have r0 : wr.cell? ⟨w.heap.size, 0, none⟩ = some (.slice none 0 0) := hR.cell 0
                have r1 : wr.cell? ⟨w.heap.size, 1, none⟩ = some (.slice none 0 0) := hR.cell 1
                have m0 : gc ≠ w.heap.size := by omega
                have m1 : ¬ w.heap.size = gc := by omega
                have HR9 := Lib.hid hR
                have HB9 := Lib.hid (bthen HB5.out hb4)
                have HI9 := Lib.hid hI.out
                have HW9 := Lib.hid hW9
                clear hx9 hb4 hR hW9 hI
                go_wp2
                obtain ⟨z1, z2, z3, z4⟩ := set2 HB9.out HR9.out (Nat.le_refl _) (.slice (some ⟨ga, 0, none⟩) i i) (.slice (some ⟨gb, 0, none⟩) nf nf)
                have hF : FormIn ((wr.setCell ⟨w.heap.size, 0, none⟩ (.slice (some ⟨ga, 0, none⟩) i i)).setCell ⟨w.heap.size, 1, none⟩ (.slice (some ⟨gb, 0, none⟩) nf nf)) (some ⟨ga, 0, none⟩) i i (some ⟨gb, 0, none⟩) nf nf cur' (formO zs fr) (formF zs fr) := by
                  have ho := HI9.out.own.keepAt (z4 ga (by omega))
                  obtain ⟨A9, c9, hv9, _, hA9⟩ := ho.arr rawC_len
                  injection hv9 with e1 e2 e3
                  rw [← e1, HI9.out.len] at hA9
                  have hw : Whole .i64 3 ((wr.setCell ⟨w.heap.size, 0, none⟩ (.slice (some ⟨ga, 0, none⟩) i i)).setCell ⟨w.heap.size, 1, none⟩ (.slice (some ⟨gb, 0, none⟩) nf nf)) gb (formF zs fr) := ⟨(z4 gb (by omega)).trans HW9.out.1, HW9.out.2⟩
                  have hwa := hw.arr hw.lt
                  rw [show (formF zs fr).length = nf by unfold formF; rw [List.length_map]; exact HF.out.1] at hwa
                  have hob : ∀ j, j < i → ObV ((wr.setCell ⟨w.heap.size, 0, none⟩ (.slice (some ⟨ga, 0, none⟩) i i)).setCell ⟨w.heap.size, 1, none⟩ (.slice (some ⟨gb, 0, none⟩) nf nf)) (w.heap.size + 1) ((wr.setCell ⟨w.heap.size, 0, none⟩ (.slice (some ⟨ga, 0, none⟩) i i)).setCell ⟨w.heap.size, 1, none⟩ (.slice (some ⟨gb, 0, none⟩) nf nf)).heap.size (nthG cur' j) (obC zs ord (nth ord j)) := fun j hj => by
                    rw [z3]
                    exact ((HI9.out.obs j hj).1.setOther (by omega) _ _).setOther (by omega) _ _
                  refine ⟨Nat.le_refl _, Nat.le_refl _, by omega, HNF.out, ⟨?_, hA9, fun j hj => ?_⟩, fun j hj => (hob j hj).lens (arena_len HAO.out), hwa⟩
                  · unfold formO; rw [obsC_len, HOR.out]; exact HNL.out
                  · unfold formO
                    rw [HOR.out, obsC_nth (by rw [HNL.out]; exact hj)]
                    exact (hob j hj).less (Nat.zero_le _)
                generalize ((wr.setCell ⟨w.heap.size, 0, none⟩ (.slice (some ⟨ga, 0, none⟩) i i)).setCell ⟨w.heap.size, 1, none⟩ (.slice (some ⟨gb, 0, none⟩) nf nf)) = W5 at *
                have x0 : W5.cell? ⟨w.heap.size, 0, none⟩ = some (.slice (some ⟨ga, 0, none⟩) i i) := z2.cell 0
                have x1 : W5.cell? ⟨w.heap.size, 1, none⟩ = some (.slice (some ⟨gb, 0, none⟩) nf nf) := z2.cell 1
                refine bodyPost_ret (v := .tuple #[.agg #[.slice (some ⟨ga, 0, none⟩) i i, .slice (some ⟨gb, 0, none⟩) nf nf], .int .i64 0]) (by simp [results, Try.results10, go_sem, x0, x1]) rfl ⟨some ⟨ga, 0, none⟩, i, i, some ⟨gb, 0, none⟩, nf, nf, cur', by rw [HZ0.out], z1, ?_⟩
                rw [sfO_ok HZ0.out, sfF_ok HZ0.out]
                exact hF
theorem form_any : FormC := by
  intro A F n c nf cf zs fr w h
  by_cases h0 : fromE zs fr = 0
  · exact sameForm_good A F n c nf cf zs fr w h h0
  · exact sameForm_bad A F n c nf cf zs fr w h h0
end Go.Proofs.Ytjefbekdjgmmbaa
namespace Go.Proofs.Ytjefbekdjgmmbaa
open Go.RowKit
/-- Two descriptions are one, but for being free. -/
def eqOb (o p : Ob) : Bool := decide (o.1 = p.1) && decide (o.2.1 = p.2.1) && decide (o.2.2.1 = p.2.2.1)
set_option maxRecDepth 8000 in
set_option maxHeartbeats 1000000 in
theorem sameEqual_any (r q : Raw) (o p : Ob) (lo lo' : Nat) (w : World) (hr : ObV w lo w.heap.size r o) (hq : ObV w lo' w.heap.size q p) (h1 : r.rn ≤ maxLen ∧ r.bn ≤ maxLen) (h2 : q.rn ≤ maxLen ∧ q.bn ≤ maxLen) :
    Calls Try.prog 37 #[rawV r, rawV q] w fun e w' => e = .returned (.bool (eqOb o p)) ∧ Below w.heap.size w w' := by
  have e1 : r.t = o.1 := hr.tag
  have e2 : q.t = p.1 := hq.tag
  have hR := hr.refs
  have hQ := hq.refs
  have hS := hr.body
  have hT := hq.body
  obtain ⟨o0, o1, o2, o3⟩ := o
  obtain ⟨p0, p1, p2, p3⟩ := p
  obtain ⟨t, ra, rn, rc, ba, bn, bc, f⟩ := r
  obtain ⟨t', ra', rn', rc', ba', bn', bc', f'⟩ := q
  simp only at e1 e2 hR hQ hS hT h1 h2
  subst e1 e2
  obtain ⟨E, hE⟩ : ∃ E, eqOb (t, o1, o2, o3) (t', p1, p2, p3) = E := ⟨_, rfl⟩
  rw [hE]
  have HE : Hid (E = (decide (t = t') && decide (o1 = p1) && decide (o2 = p2))) := hE.symm
  unfold rawV
  simp only
  have a1 := (Below.refl _ w).alloc (Nat.le_refl _) (.cells #[.int .i64 t, .slice ra rn rc, .slice ba bn bc, .bool f] 41)
  have a2 := a1.alloc (by simp) (.cells #[.int .i64 t', .slice ra' rn' rc', .slice ba' bn' bc', .bool f'] 41)
  have n1 := (Box.new w 41 #[.int .i64 t, .slice ra rn rc, .slice ba bn bc, .bool f]).alloc (.cells #[.int .i64 t', .slice ra' rn' rc', .slice ba' bn' bc', .bool f'] 41)
  have n2 := Box.new (w.alloc (.cells #[.int .i64 t, .slice ra rn rc, .slice ba bn bc, .bool f] 41)) 41 #[.int .i64 t', .slice ra' rn' rc', .slice ba' bn' bc', .bool f']
  rw [show (w.alloc (.cells #[.int .i64 t, .slice ra rn rc, .slice ba bn bc, .bool f] 41)).heap.size = w.heap.size + 1 by simp] at n2
  have HI := Lib.hid (fun wx (h : Below w.heap.size w wx) => equalInts ra ra' rn rn' rc rc' w.heap.size _ _ wx (hR.below h (Nat.le_refl _)) (hQ.below h (Nat.le_refl _)) h1.1 h2.1)
  have HW := Lib.hid (fun wx (h : Below w.heap.size w wx) => equalWords ba ba' bn bn' bc bc' w.heap.size _ _ wx (hS.below h (Nat.le_refl _)) (hT.below h (Nat.le_refl _)) h1.2 h2.2)
  have N1 := Lib.hid n1
  have N2 := Lib.hid n2
  have HB := Lib.hid a2
  clear hr hq hR hQ hS hT n1 n2 a1 a2 h1 h2 hE
  go_enter Try.func37, Try.ntmps37
  go_upto_region 1 with fail
  generalize ((w.alloc (.cells #[.int .i64 t, .slice ra rn rc, .slice ba bn bc, .bool f] 41)).alloc (.cells #[.int .i64 t', .slice ra' rn' rc', .slice ba' bn' bc', .bool f'] 41)) = W at *
  have c0 : W.cell? ⟨w.heap.size, 0, none⟩ = some (.int .i64 t) := N1.out.cell 0
  have c1 : W.cell? ⟨w.heap.size, 1, none⟩ = some (.slice ra rn rc) := N1.out.cell 1
  have c2 : W.cell? ⟨w.heap.size, 2, none⟩ = some (.slice ba bn bc) := N1.out.cell 2
  have d0 : W.cell? ⟨w.heap.size + 1, 0, none⟩ = some (.int .i64 t') := N2.out.cell 0
  have d1 : W.cell? ⟨w.heap.size + 1, 1, none⟩ = some (.slice ra' rn' rc') := N2.out.cell 1
  have d2 : W.cell? ⟨w.heap.size + 1, 2, none⟩ = some (.slice ba' bn' bc') := N2.out.cell 2
  by_cases ht : t = t'
  · subst ht
    have e0 : (t == t) = true := by simp
    obtain ⟨b1, hb1⟩ : ∃ b, decide (o1 = p1) = b := ⟨_, rfl⟩
    rw [hb1] at HI HE
    clear hb1
    obtain ⟨b2, hb2⟩ : ∃ b, decide (o2 = p2) = b := ⟨_, rfl⟩
    rw [hb2] at HW HE
    clear hb2
    go_wp2_with fail
    refine (HI.out _ HB.out).mono ?_
    rintro e w1 ⟨rfl, q1, rfl⟩
    cases b1
    · go_wp2
      go_ret
      exact ⟨by rw [HE.out]; simp, below_drewN HB.out _⟩
    · go_wp2_with fail
      refine (HW.out _ (below_drewN HB.out q1)).mono ?_
      rintro e w1 ⟨rfl, q2, rfl⟩
      go_wp2
      go_ret
      exact ⟨by rw [HE.out]; simp, below_drewN HB.out _⟩
  · have e0 : (t == t') = false := by simpa using ht
    have HT := Lib.hid ht
    clear ht
    go_wp2
    go_ret
    exact ⟨by rw [HE.out]; simp [HT.out], HB.out⟩
/-- What EqualFunc answers. -/
def EqFP (n n' : Nat) (os ps : List Ob) (w : World) (e : Ending) (w' : World) : Prop := ∃ b : Bool, e = .returned (.bool b) ∧ Below w.heap.size w w' ∧ (b = true ↔ n = n' ∧ ∀ j, j < n → eqOb (nthG os j) (nthG ps j) = true)
set_option maxRecDepth 8000 in
set_option maxHeartbeats 2000000 in
theorem sameEqF_any (A A' : Option Addr) (n n' c c' B lo lo' : Nat) (l l' : List Raw) (os ps : List Ob) (w : World) (hn : n ≤ maxLen) (hn' : n' ≤ maxLen) (hB : B ≤ w.heap.size) (hl : ObsAt w lo B A n l os) (hl' : ObsAt w lo' B A' n' l' ps)
    (h1 : ∀ j, j < n → (nthG l j).rn ≤ maxLen ∧ (nthG l j).bn ≤ maxLen) (h2 : ∀ j, j < n' → (nthG l' j).rn ≤ maxLen ∧ (nthG l' j).bn ≤ maxLen) :
    Calls Try.prog 31 #[.slice A n c, .slice A' n' c', .func (.func 37) #[] #[]] w (EqFP n n' os ps w) := by
  unfold maxLen at hn hn'
  have HL := Lib.hid hl.2.1
  have HL' := Lib.hid hl'.2.1
  have HO := Lib.hid hl.2.2
  have HO' := Lib.hid hl'.2.2
  have H1 := Lib.hid h1
  have H2 := Lib.hid h2
  have hcall := Try.call37
  clear hl hl' h1 h2
  go_enter Try.func31, Try.ntmps31
  by_cases hnn : n = n'
  · subst hnn
    have hne : ((n : Int) != (n : Int)) = false := by simp
    go_wp2_with fail
    go_loopw [17] (fun i wr => ∃ k : Nat, k ≤ n ∧ i = .int .i64 k ∧ Hid (Below w.heap.size w wr) ∧ Hid (∀ j, j < k → eqOb (nthG os j) (nthG ps j) = true)) (fun i _ => n - (intOf i).toNat)
    case atStart => exact ⟨0, Nat.zero_le _, rfl, Below.refl _ _, fun j hj => absurd hj (by omega)⟩
    case round =>
      obtain ⟨k, hk, rfl, hBw, HE⟩ := hrel
      by_cases hlt : k < n
      · obtain ⟨b, off, rfl, hb, x0, x1, x2, x3⟩ := (HL.out.below hBw.out hB).raw hlt
        obtain ⟨b', off', rfl, hb', y0, y1, y2, y3⟩ := (HL'.out.below hBw.out hB).raw hlt
        have hr := (HO.out k hlt).below hBw.out hB
        have hq := (HO'.out k hlt).below hBw.out hB
        have hm := H1.out k hlt
        have hm' := H2.out k hlt
        have hsz := hBw.out.size
        generalize nthG l k = r at *
        generalize nthG l' k = q at *
        have a1 := (Below.refl _ wr).alloc (Nat.le_refl _) (.cells #[.int .i64 r.t, .slice r.ra r.rn r.rc, .slice r.ba r.bn r.bc, .bool r.f] 41)
        have a2 := a1.alloc (by simp) (.cells #[.int .i64 q.t, .slice q.ra q.rn q.rc, .slice q.ba q.bn q.bc, .bool q.f] 41)
        have HC := Lib.hid (sameEqual_any r q (nthG os k) (nthG ps k) lo lo' _ ((hr.below a2 (by omega)).more (Nat.le_trans (by omega) a2.size)) ((hq.below a2 (by omega)).more (Nat.le_trans (by omega) a2.size)) hm hm')
        unfold rawV at HC
        obtain ⟨t, ra, rn, rc, ba, bn, bc, f⟩ := r
        obtain ⟨t', ra', rn', rc', ba', bn', bc', f'⟩ := q
        simp only at x0 x1 x2 x3 y0 y1 y2 y3 a1 a2 HC
        have z0 := (a1.cell (p := ⟨b', off' + k * 4, none⟩) (show b' < wr.heap.size by omega)).trans y0
        have z1 := (a1.cell (p := ⟨b', off' + k * 4 + 1, none⟩) (show b' < wr.heap.size by omega)).trans y1
        have z2 := (a1.cell (p := ⟨b', off' + k * 4 + 2, none⟩) (show b' < wr.heap.size by omega)).trans y2
        have z3 := (a1.cell (p := ⟨b', off' + k * 4 + 3, none⟩) (show b' < wr.heap.size by omega)).trans y3
        have HB2 := Lib.hid a2
        obtain ⟨V, hV⟩ : ∃ V, eqOb (nthG os k) (nthG ps k) = V := ⟨_, rfl⟩
        have HV := Lib.hid hV
        rw [hV] at HC
        clear hr hq a1 a2 hm hm' hsz hV
        go_wp2_with fail
        refine HC.out.mono ?_
        rintro e w1 ⟨rfl, b1⟩
        have HB3 := Lib.hid (hBw.out.trans ((HB2.out.trans (b1.mono HB2.out.size)).mono hBw.out.size))
        clear x0 x1 x2 x3 y0 y1 y2 y3 z0 z1 z2 z3 b1
        cases V
        · go_wp2
          go_ret
          exact ⟨false, rfl, HB3.out, by simp, fun h => by have := h.2 k hlt; rw [HV.out] at this; cases this⟩
        · have HN : Hid (∀ j, j < k + 1 → eqOb (nthG os j) (nthG ps j) = true) := fun j hj => by
            rcases Nat.lt_succ_iff_lt_or_eq.1 hj with h | h
            · exact HE.out j h
            · rw [h]; exact HV.out
          go_wp2
          go_roundw
          case rel => exact ⟨k + 1, by omega, by go_num, HB3, HN⟩
          case measure => simp [intOf]; omega
      · obtain rfl : k = n := by omega
        go_wp2
        go_ret
        exact ⟨true, rfl, hBw.out, fun _ => ⟨rfl, HE.out⟩, fun _ => rfl⟩
  · have hne : ((n : Int) != (n' : Int)) = true := by simpa using fun h : (n : Int) = n' => hnn (by omega)
    have HNN := Lib.hid hnn
    clear hnn
    go_wp2
    go_ret
    exact ⟨false, rfl, Below.refl _ _, by simp, fun h => absurd h.1 HNN.out⟩
/-- The objects of a form are not free. -/
theorem form_used {zs fr : List Int} : ∀ o ∈ formO zs fr, o.2.2.2 = false := fun o ho => by
  unfold formO obsC at ho
  obtain ⟨x, _, rfl⟩ := List.mem_map.1 ho
  rfl
/-- Forms are one if their descriptions are. -/
theorem forms_one {zs fr ys gr : List Int} : ((formO zs fr).length = (formO ys gr).length ∧ ∀ j, j < (formO zs fr).length → eqOb (nthG (formO zs fr) j) (nthG (formO ys gr) j) = true) ↔ formO zs fr = formO ys gr := by
  constructor
  · rintro ⟨h1, h2⟩
    refine List.ext_getElem h1 fun j ha hb => ?_
    have h3 := h2 j ha
    rw [nthG_get _ _ ha, nthG_get _ _ hb] at h3
    have f1 := form_used _ (List.getElem_mem ha)
    have f2 := form_used _ (List.getElem_mem hb)
    unfold eqOb at h3
    simp only [Bool.and_eq_true, decide_eq_true_eq] at h3
    obtain ⟨⟨h3, h4⟩, h5⟩ := h3
    exact Prod.ext h3 (Prod.ext h4 (Prod.ext h5 (f1.trans f2.symm)))
  · intro h
    rw [h]
    exact ⟨rfl, fun j _ => by unfold eqOb; simp⟩
set_option maxRecDepth 8000 in
set_option maxHeartbeats 2000000 in
theorem alike_any : AlikeC := by
  intro A F B G n c nf cf m d ng cg zs fr ys gr w ha hb
  have HF := Lib.hid (form_any A F n c nf cf zs fr w ha)
  have HG := Lib.hid (fun wx (h : Below w.heap.size w wx) => form_any B G m d ng cg ys gr wx (hb.later h))
  unfold SFormP at HF HG
  clear ha hb
  go_enter Try.func11, Try.ntmps11
  by_cases h0 : fromE zs fr = 0
  · have H0 := Lib.hid h0
    rw [h0] at HF
    clear h0
    go_wp2_with fail
    refine HF.out.mono ?_
    rintro e w1 ⟨D, p, pc, P, k, kc, raws, rfl, b1, hF⟩
    have hba := (Below.refl _ w1).alloc (Nat.le_refl _) (.cells #[.slice D p pc, .slice P k kc] 26)
    have HX := Lib.hid (Box.new w1 26 #[.slice D p pc, .slice P k kc])
    have HB := Lib.hid (bthen b1 hba)
    have HFI := Lib.hid (hF.later hba)
    have HC := Lib.hid (HG.out _ HB.out)
    clear b1 hF hba HF HG
    by_cases h1 : fromE ys gr = 0
    · have H1 := Lib.hid h1
      rw [h1] at HC
      clear h1
      go_wp2_with fail
      refine HC.out.mono ?_
      rintro e w2 ⟨D', p', pc', P', k', kc', raws', rfl, b2, hG⟩
      have hba := (Below.refl _ w2).alloc (Nat.le_refl _) (.cells #[.slice D' p' pc', .slice P' k' kc'] 26)
      have hbb := bthen b2 hba
      have HB2 := Lib.hid (bthen HB.out hbb)
      have hX := HX.out.below hbb HX.out.lt
      have hY := Box.new w2 26 #[.slice D' p' pc', .slice P' k' kc']
      have HF2 := Lib.hid (HFI.out.later hbb)
      have HG2 := Lib.hid (hG.later hba)
      clear b2 hG hba hbb HX HB HFI HC
      have f0 : (w2.alloc (.cells #[.slice D' p' pc', .slice P' k' kc'] 26)).cell? ⟨w1.heap.size, 0, none⟩ = some (.slice D p pc) := hX.cell 0
      have f1 : (w2.alloc (.cells #[.slice D' p' pc', .slice P' k' kc'] 26)).cell? ⟨w1.heap.size, 1, none⟩ = some (.slice P k kc) := hX.cell 1
      have g0 : (w2.alloc (.cells #[.slice D' p' pc', .slice P' k' kc'] 26)).cell? ⟨w2.heap.size, 0, none⟩ = some (.slice D' p' pc') := hY.cell 0
      have g1 : (w2.alloc (.cells #[.slice D' p' pc', .slice P' k' kc'] 26)).cell? ⟨w2.heap.size, 1, none⟩ = some (.slice P' k' kc') := hY.cell 1
      clear hX hY
      go_upto_region 7 with fail
      generalize (w2.alloc (.cells #[.slice D' p' pc', .slice P' k' kc'] 26)) = w3 at *
      have HQ := Lib.hid (equalInts P P' k k' kc kc' w3.heap.size _ _ w3 HF2.out.places HG2.out.places (by unfold maxLen; have := HF2.out.kz; omega) (by unfold maxLen; have := HG2.out.kz; omega))
      have HE := Lib.hid (fun wx (h : Below w3.heap.size w3 wx) => sameEqF_any D D' p p' pc pc' wx.heap.size 0 0 raws raws' _ _ wx (by unfold maxLen; have := HF2.out.mz; omega) (by unfold maxLen; have := HG2.out.mz; omega) (Nat.le_refl _) (HF2.out.objs.laterS h) (HG2.out.objs.laterS h) HF2.out.lens HG2.out.lens)
      have hr : aliB zs fr ys gr = (decide (formO zs fr = formO ys gr) && decide (formF zs fr = formF ys gr)) := by
        rw [aliB_ok (aliE_zero.2 ⟨H0.out, H1.out⟩)]
        unfold sameB
        rw [Bool.decide_and]
      have hpl : (formO zs fr).length = p := by have := HF2.out.objs.1; rwa [sfO_ok H0.out] at this
      have hpl' : (formO ys gr).length = p' := by have := HG2.out.objs.1; rwa [sfO_ok H1.out] at this
      rw [sfF_ok H0.out, sfF_ok H1.out] at HQ
      rw [sfO_ok H0.out, sfO_ok H1.out] at HE
      have HR := Lib.hid hr
      have HP := Lib.hid hpl
      have HP' := Lib.hid hpl'
      obtain ⟨V, hV⟩ : ∃ V, decide (formF zs fr = formF ys gr) = V := ⟨_, rfl⟩
      have HV := Lib.hid hV
      rw [hV] at HQ
      clear hr hpl hpl' hV HF2 HG2
      go_wp2_with fail
      refine HQ.out.mono ?_
      rintro e w4 ⟨rfl, q4, rfl⟩
      cases V
      · go_wp2
        go_ret2
        unfold AlikeP
        rw [aliE_zero.2 ⟨H0.out, H1.out⟩, HR.out, HV.out, Bool.and_false]
        exact ⟨rfl, below_drewN HB2.out _⟩
      · go_wp2_with fail
        refine (HE.out _ (below_drewN (Below.refl _ _) q4)).mono ?_
        rintro e w5 ⟨b, rfl, b5, hb⟩
        have HB5 := Lib.hid (bthen (below_drewN HB2.out q4) b5)
        have HBB := Lib.hid hb
        clear b5 hb
        go_wp2
        go_ret2
        unfold AlikeP
        rw [aliE_zero.2 ⟨H0.out, H1.out⟩, HR.out, HV.out, Bool.and_true]
        refine ⟨?_, HB5.out⟩
        have hd : decide (formO zs fr = formO ys gr) = b := by
          rw [Bool.eq_iff_iff, decide_eq_true_eq, HBB.out, ← forms_one, HP.out, HP'.out]
        rw [hd]
        rfl
    · have hbz : (fromE ys gr != 0) = true := by simpa using h1
      have H1 := Lib.hid h1
      clear h1
      go_wp2_with fail
      refine HC.out.mono ?_
      rintro e w2 ⟨D', p', pc', P', k', kc', raws', rfl, b2, _⟩
      have HB2 := Lib.hid (bthen HB.out b2)
      clear b2 HC HB HX HFI
      go_wp2
      go_ret2
      unfold AlikeP
      have he : aliE zs fr ys gr = fromE ys gr := aliE_two H0.out
      rw [aliB_bad (by rw [he]; exact H1.out), he]
      exact ⟨rfl, HB2.out.alloc HB2.out.size _⟩
  · have hbz : (fromE zs fr != 0) = true := by simpa using h0
    have H0 := Lib.hid h0
    clear h0 HG
    go_wp2_with fail
    refine HF.out.mono ?_
    rintro e w1 ⟨D, p, pc, P, k, kc, raws, rfl, b1, _⟩
    have HB := Lib.hid b1
    clear b1 HF
    go_wp2
    go_ret2
    unfold AlikeP
    have he : aliE zs fr ys gr = fromE zs fr := aliE_one H0.out
    rw [aliB_bad (by rw [he]; exact H0.out), he]
    exact ⟨rfl, HB.out.alloc HB.out.size _⟩
end Go.Proofs.Ytjefbekdjgmmbaa
