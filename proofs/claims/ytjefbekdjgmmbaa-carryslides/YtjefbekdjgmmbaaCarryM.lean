/-
  Carrying over, over no program of its own: the order in which objects are come to ('camL'), what it holds, who names whom.
-/
import Derived.Test.YtjefbekdjgmmbaaTintP
namespace Go.Proofs.Ytjefbekdjgmmbaa
open Go.RowKit

/-- One more object, where it is none that was come to. -/
def addN (out : List Int) (y : Int) : List Int := if y < 0 ∨ y ∈ out then out else out ++ [y]
def addL (out l : List Int) : List Int := l.foldl addN out
/-- The list when the first 'i' objects of it were gone over. -/
def camT (zs fr : List Int) : Nat → List Int
  | 0 => addL [] fr
  | i + 1 => if i < (camT zs fr i).length then addL (camT zs fr i) (nxOf zs (nth (camT zs fr i) i)) else camT zs fr i
/-- The order. -/
def camL (zs fr : List Int) : List Int := camT zs fr zs.length

section
variable {out l : List Int} {y : Int} {k : Nat}
theorem addN_no (h : y < 0 ∨ y ∈ out) : addN out y = out := if_pos h
theorem addN_yes (h : ¬ (y < 0 ∨ y ∈ out)) : addN out y = out ++ [y] := if_neg h
theorem addL_snoc : addL out (l ++ [y]) = addN (addL out l) y := by unfold addL; rw [List.foldl_append]; rfl
theorem addL_take (h : k < l.length) : addL out (l.take (k + 1)) = addN (addL out (l.take k)) (nth l k) := by
  rw [List.take_succ_eq_append_getElem h, addL_snoc, nth_get _ _ h]
theorem addN_len : out.length ≤ (addN out y).length := by
  unfold addN
  split
  · exact Nat.le_refl _
  · simp
theorem addN_nth (h : k < out.length) : nth (addN out y) k = nth out k := by
  unfold addN
  split
  · rfl
  · rw [nth_get _ _ (by simp; omega), nth_get _ _ h, List.getElem_append_left h]
theorem addN_mem {x : Int} : x ∈ addN out y ↔ x ∈ out ∨ (x = y ∧ 0 ≤ y) := by
  unfold addN
  split
  · rename_i h
    constructor
    · exact .inl
    · rintro (h1 | ⟨rfl, h1⟩)
      · exact h1
      · rcases h with h | h
        · omega
        · exact h
  · rename_i h
    rw [List.mem_append, List.mem_singleton]
    constructor
    · rintro (h1 | h1)
      · exact .inl h1
      · exact .inr ⟨h1, by omega⟩
    · rintro (h1 | ⟨h1, _⟩)
      · exact .inl h1
      · exact .inr h1
theorem addL_mem {x : Int} : ∀ {l out : List Int}, x ∈ addL out l ↔ x ∈ out ∨ (x ∈ l ∧ 0 ≤ x)
  | [], out => by show x ∈ out ↔ _; simp
  | y :: l, out => by
    show x ∈ addL (addN out y) l ↔ _
    rw [addL_mem, addN_mem, List.mem_cons]
    constructor
    · rintro ((h | ⟨rfl, h⟩) | ⟨h, h0⟩)
      · exact .inl h
      · exact .inr ⟨.inl rfl, h⟩
      · exact .inr ⟨.inr h, h0⟩
    · rintro (h | ⟨rfl | h, h0⟩)
      · exact .inl (.inl h)
      · exact .inl (.inr ⟨rfl, h0⟩)
      · exact .inr ⟨h, h0⟩
theorem addL_len : ∀ {l out : List Int}, out.length ≤ (addL out l).length
  | [], _ => Nat.le_refl _
  | _ :: _, _ => Nat.le_trans addN_len addL_len
theorem addL_nth : ∀ {l out : List Int}, k < out.length → nth (addL out l) k = nth out k
  | [], _, _ => rfl
  | y :: l, out, h => by
    show nth (addL (addN out y) l) k = _
    rw [addL_nth (Nat.lt_of_lt_of_le h addN_len), addN_nth h]
end

theorem addL_app {out l m : List Int} : addL out (l ++ m) = addL (addL out l) m := by unfold addL; rw [List.foldl_append]
theorem addL_take_len {out l : List Int} (q : Nat) : (addL out (l.take q)).length ≤ (addL out l).length := by
  have h := addL_len (l := l.drop q) (out := addL out (l.take q))
  rwa [← addL_app, List.take_append_drop] at h
/-- What holds of a list of objects that were come to. -/
structure CamW (zs fr out : List Int) : Prop where
  nd : out.Nodup
  named : ∀ j, j < out.length → nth out j ∈ fr ∨ ∃ k, k < j ∧ nth out j ∈ nxOf zs (nth out k)
  pos : ∀ x ∈ out, 0 ≤ x
section
variable {zs fr out l : List Int} {y : Int} {i j k : Nat}
theorem CamW.nil : CamW zs fr [] := ⟨List.nodup_nil, fun j h => absurd h (by simp), fun x h => by cases h⟩
theorem CamW.add (h : CamW zs fr out) (hy : 0 ≤ y → y ∈ fr ∨ ∃ k, k < out.length ∧ y ∈ nxOf zs (nth out k)) : CamW zs fr (addN out y) := by
  by_cases hc : y < 0 ∨ y ∈ out
  · rw [addN_no hc]; exact h
  · have h0 : 0 ≤ y := by omega
    refine ⟨?_, fun j hj => ?_, fun x hx => ?_⟩
    · rw [addN_yes hc, List.nodup_append]
      refine ⟨h.nd, by simp, fun a ha b hb => ?_⟩
      rw [List.mem_singleton] at hb
      subst hb
      intro e
      subst e
      exact hc (.inr ha)
    · rw [addN_yes hc, List.length_append, List.length_singleton] at hj
      rcases Nat.lt_or_eq_of_le (Nat.le_of_lt_succ hj) with h1 | h1
      · rw [addN_nth h1]
        rcases h.named j h1 with h2 | ⟨k, hk, h2⟩
        · exact .inl h2
        · exact .inr ⟨k, hk, by rw [addN_nth (by omega)]; exact h2⟩
      · subst h1
        have e : nth (addN out y) out.length = y := by
          rw [addN_yes hc, nth_get _ _ (by simp), List.getElem_append_right (by omega)]
          simp
        rw [e]
        rcases hy h0 with h2 | ⟨k, hk, h2⟩
        · exact .inl h2
        · exact .inr ⟨k, hk, by rw [addN_nth hk]; exact h2⟩
    · rcases addN_mem.1 hx with h1 | ⟨rfl, h1⟩
      · exact h.pos x h1
      · exact h1
theorem CamW.adds : ∀ {l out : List Int}, CamW zs fr out → (∀ y ∈ l, 0 ≤ y → y ∈ fr ∨ ∃ k, k < out.length ∧ y ∈ nxOf zs (nth out k)) → CamW zs fr (addL out l)
  | [], _, h, _ => h
  | y :: l, out, h, hy => by
    show CamW zs fr (addL (addN out y) l)
    refine CamW.adds (h.add (hy y List.mem_cons_self)) fun z hz h0 => ?_
    rcases hy z (List.mem_cons_of_mem _ hz) h0 with h2 | ⟨k, hk, h2⟩
    · exact .inl h2
    · exact .inr ⟨k, Nat.lt_of_lt_of_le hk addN_len, by rw [addN_nth hk]; exact h2⟩
theorem camT_more (h : i < (camT zs fr i).length) : camT zs fr (i + 1) = addL (camT zs fr i) (nxOf zs (nth (camT zs fr i) i)) := if_pos h
theorem camT_same (h : (camT zs fr i).length ≤ i) : camT zs fr (i + 1) = camT zs fr i := if_neg (by omega)
theorem camT_ok : ∀ i, CamW zs fr (camT zs fr i)
  | 0 => CamW.adds CamW.nil fun _ hy _ => .inl hy
  | i + 1 => by
    by_cases h : i < (camT zs fr i).length
    · rw [camT_more h]
      exact CamW.adds (camT_ok i) fun _ hy _ => .inr ⟨i, h, hy⟩
    · rw [camT_same (by omega)]; exact camT_ok i
theorem camT_up : ∀ {i k}, i ≤ k → ∀ x ∈ camT zs fr i, x ∈ camT zs fr k
  | i, 0, h, x, hx => by
    obtain rfl : i = 0 := by omega
    exact hx
  | i, k + 1, h, x, hx => by
    rcases Nat.lt_or_eq_of_le h with h1 | h1
    · have h2 := camT_up (Nat.le_of_lt_succ h1) x hx
      by_cases hk : k < (camT zs fr k).length
      · rw [camT_more hk]; exact addL_mem.2 (.inl h2)
      · rw [camT_same (by omega)]; exact h2
    · subst h1; exact hx
theorem camT_fr (hf : ∀ x ∈ fr, 0 ≤ x) (i : Nat) : ∀ x ∈ fr, x ∈ camT zs fr i := fun x hx => camT_up (Nat.zero_le i) x (addL_mem.2 (.inr ⟨hx, hf x hx⟩))
/-- What was gone over is closed. -/
theorem camT_closed : ∀ i j, j < i → j < (camT zs fr i).length → ∀ y ∈ nxOf zs (nth (camT zs fr i) j), y < 0 ∨ y ∈ camT zs fr i
  | 0, _, hj, _, _, _ => absurd hj (by omega)
  | i + 1, j, hj, hl, y, hy => by
    by_cases h : i < (camT zs fr i).length
    · rw [camT_more h] at hl hy ⊢
      rw [addL_nth (by omega)] at hy
      rcases Nat.lt_or_eq_of_le (Nat.le_of_lt_succ hj) with h1 | h1
      · exact (camT_closed i j h1 (by omega) y hy).imp id fun h => addL_mem.2 (.inl h)
      · subst h1
        rcases Int.lt_or_le y 0 with h0 | h0
        · exact .inl h0
        · exact .inr (addL_mem.2 (.inr ⟨hy, h0⟩))
    · rw [camT_same (by omega)] at hl hy ⊢
      exact camT_closed i j (by omega) hl y hy
theorem camT_stop (h : (camT zs fr i).length ≤ i) : ∀ {k}, i ≤ k → camT zs fr k = camT zs fr i
  | 0, hk => by
    obtain rfl : i = 0 := by omega
    rfl
  | k + 1, hk => by
    rcases Nat.lt_or_eq_of_le hk with h1 | h1
    · have h2 := camT_stop h (Nat.le_of_lt_succ h1)
      rw [camT_same (by rw [h2]; omega), h2]
    · subst h1; rfl
theorem camL_at (h : (camT zs fr i).length ≤ i) (hi : i ≤ zs.length) : camL zs fr = camT zs fr i := camT_stop h hi
theorem CamW.reach (h : CamW zs fr out) : ∀ j, j < out.length → Reach (nxOf zs) fr (nth out j) := by
  intro j
  induction j using Nat.strongRecOn with
  | ind j ih =>
    intro hj
    rcases h.named j hj with h1 | ⟨k, hk, h1⟩
    · exact .base h1
    · exact .step (ih k hk (by omega)) h1 (h.pos _ (nth_mem hj))
section
variable (hz : ∀ z ∈ zs, (Lit.int .u64 z).wf = true) (h0 : fromE zs fr = 0)
include hz h0
theorem camT_lives (i : Nat) : ∀ x ∈ camT zs fr i, x ∈ livesI zs := fun x hx => by
  obtain ⟨j, hj, e⟩ := List.getElem_of_mem hx
  have h1 := (camT_ok (zs := zs) (fr := fr) i).reach j hj
  rw [nth_get _ _ hj, e] at h1
  exact reachL_lives x ((reachL_mem hz h0).2 h1)
theorem camT_len (i : Nat) : (camT zs fr i).length ≤ zs.length := by
  refine Nat.le_trans (sub_length (camT_ok i).nd (camT_lives hz h0 i)) ?_
  unfold livesI
  rw [List.length_map]
  have h1 := List.length_filter_le (isLive zs) (begins zs 0)
  have h2 := begins_len (zs := zs) (a := 0)
  omega
theorem camL_closed : ∀ j, j < (camL zs fr).length → ∀ y ∈ nxOf zs (nth (camL zs fr) j), y < 0 ∨ y ∈ camL zs fr := fun j hj => camT_closed zs.length j (Nat.lt_of_lt_of_le hj (camT_len hz h0 _)) hj
theorem camL_len : (camL zs fr).length ≤ 256 := Nat.le_trans (camT_len hz h0 _) (arena_len (fromE_zero h0).1)
theorem camL_lives : ∀ x ∈ camL zs fr, x ∈ livesI zs := camT_lives hz h0 _
omit hz in
theorem camL_fr : ∀ x ∈ fr, x ∈ camL zs fr := camT_fr (fun x hx => (lives_pos x ((fromE_zero h0).2 x hx))) _
theorem camL_reach {x : Int} : x ∈ camL zs fr ↔ Reach (nxOf zs) fr x := by
  constructor
  · intro hx
    obtain ⟨j, hj, e⟩ := List.getElem_of_mem hx
    have h1 : Reach (nxOf zs) fr (nth (camL zs fr) j) := (camT_ok (zs := zs) (fr := fr) zs.length).reach j hj
    rw [nth_get _ _ hj] at h1
    rw [← e]; exact h1
  · intro hx
    refine reach_least (S := fun x => x ∈ camL zs fr) (camL_fr h0) (fun x hx y hy hp => ?_) hx
    obtain ⟨j, hj, e⟩ := List.getElem_of_mem hx
    have h1 := camL_closed hz h0 j hj y (by rw [nth_get _ _ hj, e]; exact hy)
    exact h1.resolve_left (by omega)
theorem camL_mem {x : Int} : x ∈ camL zs fr ↔ x ∈ reachL zs fr := by rw [camL_reach hz h0, reachL_mem hz h0]
theorem camL_perm : (camL zs fr).Perm (reachL zs fr) := (List.perm_ext_iff_of_nodup (camT_ok _).nd (reachL_rise.imp fun h e => by omega)).2 fun _ => camL_mem hz h0
end
theorem camL_nd : (camL zs fr).Nodup := (camT_ok _).nd
end

/-- How many words some objects take. -/
def tkL (zs l : List Int) : Nat := ((l.map Int.toNat).map (longN zs)).sum
/-- The place of an object in a list. -/
def plI (l : List Int) (y : Int) : Int := if y ∈ l then (l.idxOf y : Int) else -1
/-- The description of an object; of all of them. -/
def obC (zs l : List Int) (x : Int) : Ob := (vT (nth zs x.toNat), (named zs x.toNat).map (plI l), bodyWords zs x.toNat, false)
def obsC (zs l : List Int) : List Ob := l.map (obC zs l)
/-- Where they begin. -/
def begC (zs l : List Int) : List Int := (List.range l.length).map fun i => (tkL zs (l.take i) : Int)
section
variable {zs l fr : List Int} {i : Nat}
theorem tkL_snoc {x : Int} : tkL zs (l ++ [x]) = tkL zs l + longN zs x.toNat := by unfold tkL; simp [List.sum_append]
theorem tkL_next (h : i < l.length) : tkL zs (l.take (i + 1)) = tkL zs (l.take i) + longN zs (nth l i).toNat := by rw [List.take_succ_eq_append_getElem h, tkL_snoc, nth_get _ _ h]
theorem tkL_mono {j : Nat} (hij : i ≤ j) (hj : j ≤ l.length) : tkL zs (l.take i) ≤ tkL zs (l.take j) := by
  induction j with
  | zero =>
    obtain rfl : i = 0 := by omega
    exact Nat.le_refl _
  | succ j ih =>
    rcases Nat.lt_or_eq_of_le hij with h | h
    · rw [tkL_next (by omega)]
      have := ih (by omega) (by omega)
      omega
    · subst h; exact Nat.le_refl _
theorem tkL_perm {m : List Int} (h : l.Perm m) : tkL zs l = tkL zs m := by unfold tkL; exact ((h.map _).map _).sum_nat
theorem plI_in {y : Int} (h : y ∈ l) : ∃ k : Nat, plI l y = k ∧ k < l.length ∧ nth l k = y := by
  refine ⟨l.idxOf y, if_pos h, List.idxOf_lt_length_of_mem h, ?_⟩
  rw [nth_get _ _ (List.idxOf_lt_length_of_mem h), List.getElem_idxOf]
theorem plI_out {y : Int} (h : y ∉ l) : plI l y = -1 := if_neg h
theorem nodup_one (h : l.Nodup) {j k : Nat} (hj : j < l.length) (hk : k < l.length) (e : nth l j = nth l k) : j = k := by
  rw [nth_get _ _ hj, nth_get _ _ hk] at e
  rcases Nat.lt_trichotomy j k with hh | hh | hh
  · exact absurd e ((List.pairwise_iff_getElem.1 h) j k hj hk hh)
  · exact hh
  · exact absurd e.symm ((List.pairwise_iff_getElem.1 h) k j hk hj hh)
theorem plI_at (h : l.Nodup) (hi : i < l.length) : plI l (nth l i) = i := by
  obtain ⟨k, e, hk, e2⟩ := plI_in (nth_mem hi)
  rw [e, nodup_one h hk hi e2]
theorem place_one (h : l.Nodup) {y r : Int} (hp : PlaceP l y r) : r = plI l y := by
  rcases hp with ⟨k, rfl, hk, e⟩ | ⟨rfl, hn⟩
  · rw [← e, plI_at h hk]
  · refine (plI_out fun hc => ?_).symm
    obtain ⟨k, hk, e⟩ := List.getElem_of_mem hc
    exact hn k hk (by rw [nth_get _ _ hk]; exact e)
theorem obsC_len : (obsC zs l).length = l.length := by simp [obsC]
theorem obsC_nth (h : i < l.length) : nthG (obsC zs l) i = obC zs l (nth l i) := by
  rw [nthG_get _ _ (by rw [obsC_len]; exact h), nth_get _ _ h]; simp [obsC]
theorem begC_len : (begC zs l).length = l.length := by simp [begC]
theorem begC_nth (h : i < l.length) : nth (begC zs l) i = (tkL zs (l.take i) : Int) := by
  rw [nth_get _ _ (by rw [begC_len]; exact h)]; simp [begC]
end
theorem sum_takes {zs fr : List Int} : tkL zs (reachL zs fr) = takesN zs fr := by
  unfold tkL takesN
  refine (cnt_covers ?_ (toNat_begins reachL_lives)).symm
  rw [List.Nodup, List.pairwise_map]
  refine List.Pairwise.imp_of_mem ?_ reachL_rise
  intro a b ha hb hlt e
  have h1 := lives_pos a (reachL_lives a ha)
  have h2 := lives_pos b (reachL_lives b hb)
  omega
theorem cam_takes {zs fr : List Int} (hz : ∀ z ∈ zs, (Lit.int .u64 z).wf = true) (h0 : fromE zs fr = 0) : tkL zs (camL zs fr) = takesN zs fr := by rw [tkL_perm (camL_perm hz h0), sum_takes]
end Go.Proofs.Ytjefbekdjgmmbaa
