/-
  Contracts of root.Set, root.Named, root.Swap.
-/
import Derived.Test.YtdieokpfkojoiaaRootC
namespace Go.Proofs.Ytdieokpfkojoiaa
open Go.RowKit

/-- An error, and no list. -/
def NoList (E : Int) (w : World) (e : Ending) (w' : World) : Prop := e = .returned (.tuple #[.slice none 0 0, .int .i64 E]) ∧ w = w'
/-- A list of the call's own, and no error. -/
def NewList (xs : List Int) (w : World) (e : Ending) (w' : World) : Prop := ∃ A m c, e = .returned (.tuple #[.slice A m c, .int .i64 0]) ∧ xs.length = m ∧ Own .i64 3 w' w.heap.size (.slice A m c) xs ∧ Below w.heap.size w w'

theorem Own.arrM {k : IntKind} {e : TypeId} {w : World} {base m c : Nat} {A : Option Addr} {xs : List Int} (h : Own k e w base (.slice A m c) xs) : xs.length = m ∧ m ≤ c ∧ Arr k w w.heap.size A m xs := by
  obtain ⟨A', c', e1, h1, h2⟩ := h.arr
  injection e1 with e1 e2 e3
  subst e1; subst e2; subst e3
  exact ⟨rfl, h1, h2⟩

set_option maxHeartbeats 400000 in
theorem rootSet_bad (A : Option Addr) (k c : Nat) (n slot v : Int) (zs : List Int) (w : World) (hk : k ≤ maxLen) (ha : Arr .i64 w w.heap.size A k zs) (hE : setE n slot v zs ≠ 0) :
    Calls Try.prog 18 #[.slice A k c, .int .i64 n, .int .i64 slot, .int .i64 v] w (NoList (setE n slot v zs) w) := by
  have HC := Lib.hid (rootCheck_any A k c _ n zs w hk ha)
  have HW := Lib.hid (fun wx => isWord_any v n wx)
  have hl := ha.1
  unfold maxLen at hk
  unfold NoList
  unfold setE at hE ⊢
  rw [hl] at hE ⊢
  clear ha hl
  generalize rootE n zs = E at *
  by_cases h1 : E ≠ 0
  · have c1 : (E != 0) = true := by simpa using h1
    rw [if_pos h1]
    clear h1 hE
    go_enter Try.func18, Try.ntmps18
    go_wp2_with fail
    refine HC.out.mono ?_
    rintro e w1 ⟨rfl, rfl⟩
    go_wp2
    go_ret2
    exact ⟨rfl, rfl⟩
  · rw [if_neg h1] at hE ⊢
    obtain rfl : E = 0 := by omega
    clear h1
    by_cases h2 : slot < 0
    · have c2 : (slot < 0) = True := eq_true h2
      rw [if_pos (.inl h2)]
      clear h2 hE
      go_enter Try.func18, Try.ntmps18
      go_wp2_with fail
      refine HC.out.mono ?_
      rintro e w1 ⟨rfl, rfl⟩
      go_wp2
      go_ret2
      exact ⟨rfl, rfl⟩
    · have c2 : (slot < 0) = False := eq_false h2
      by_cases h3 : (k : Int) ≤ slot
      · have c3 : ((k : Int) ≤ slot) = True := eq_true h3
        rw [if_pos (.inr h3)]
        clear h2 h3 hE
        go_enter Try.func18, Try.ntmps18
        go_wp2_with fail
        refine HC.out.mono ?_
        rintro e w1 ⟨rfl, rfl⟩
        go_wp2
        go_ret2
        exact ⟨rfl, rfl⟩
      · have c3 : ((k : Int) ≤ slot) = False := eq_false h3
        rw [if_neg (by omega)] at hE ⊢
        cases h4 : inRoot n v
        · rw [h4] at hE HW
          simp only [Bool.false_eq_true, if_false]
          clear h2 h3 h4 hE
          go_enter Try.func18, Try.ntmps18
          go_wp2_with fail
          refine HC.out.mono ?_
          rintro e w1 ⟨rfl, rfl⟩
          go_wp2_with fail
          refine (HW.out _).mono ?_
          rintro e w1 ⟨rfl, rfl⟩
          go_wp2
          go_ret2
          exact ⟨rfl, rfl⟩
        · rw [h4, if_pos rfl] at hE
          exact absurd rfl hE

theorem setE_ok {n slot v : Int} {l : List Int} : setE n slot v l = 0 ↔ rootE n l = 0 ∧ (0 ≤ slot ∧ slot < l.length) ∧ -1 ≤ v ∧ v < n := by
  unfold setE
  split
  · constructor
    · intro h; omega
    · intro h; omega
  · split
    · constructor
      · intro h; omega
      · intro h; omega
    · split
      · rename_i h; rw [inRoot_iff] at h
        exact ⟨fun _ => ⟨by omega, by omega, h⟩, fun _ => rfl⟩
      · rename_i h; rw [inRoot_iff] at h
        constructor
        · intro h; omega
        · intro h1; exact absurd h1.2.2 h

set_option maxHeartbeats 400000 in
theorem rootSet_ok (A : Option Addr) (k c : Nat) (n slot v : Int) (zs : List Int) (w : World) (ha : Arr .i64 w w.heap.size A k zs) (hE : setE n slot v zs = 0) :
    Calls Try.prog 18 #[.slice A k c, .int .i64 n, .int .i64 slot, .int .i64 v] w (NewList (zs.set slot.toNat v) w) := by
  obtain ⟨h0, hs, hv⟩ := setE_ok.1 hE
  obtain ⟨hn, h32, _⟩ := rootE_ok.1 h0
  have hl := ha.1
  rw [hl] at hs h32
  have HC := Lib.hid (rootCheck_any A k c _ n zs w (by unfold maxLen; omega) ha)
  have HW := Lib.hid (fun wx => isWord_any v n wx)
  have HK := Lib.hid (cloneI_any A k c zs w (by omega) ha)
  rw [h0] at HC
  rw [inRoot_iff.2 hv] at HW
  have c2 : (slot < 0) = False := eq_false (by omega)
  have c3 : ((k : Int) ≤ slot) = False := eq_false (by omega)
  have HL := Lib.hid hl
  have HV : Hid ((Lit.int .i64 v).wf = true) := wf_i64.2 (by omega)
  have HS := Lib.hid hs
  obtain ⟨s, rfl⟩ : ∃ s : Nat, slot = s := ⟨slot.toNat, by omega⟩
  clear ha hE h0 hn hv hl
  go_enter Try.func18, Try.ntmps18
  go_wp2_with fail
  refine HC.out.mono ?_
  rintro e w1 ⟨rfl, rfl⟩
  go_wp2_with fail
  refine (HW.out _).mono ?_
  rintro e w1 ⟨rfl, rfl⟩
  go_wp2_with fail
  refine HK.out.mono ?_
  rintro e w1 ⟨A', c', rfl, hO, hB⟩
  obtain ⟨g, cap, e1, hbg, hg, hcf, hset⟩ := hO.form (by rw [HL.out]; omega)
  rw [HL.out] at e1 hcf hset
  injection e1 with e1 _ e3
  subst e1; subst e3
  have hsk : s < k := by omega
  obtain ⟨hc, hf⟩ := hcf s hsk
  have HO := Lib.hid (hset s v hsk HV.out)
  have HB := Lib.hid (hB.setCell (p := ⟨g, s, none⟩) hbg (.int .i64 v))
  generalize nth zs s = X at *
  clear hcf hset hO hB HC HW HK
  go_wp2
  go_ret2
  exact ⟨_, _, _, rfl, by rw [List.length_set, HL.out], HO.out, HB.out⟩

set_option maxHeartbeats 400000 in
theorem rootNamed_bad (A : Option Addr) (k c : Nat) (n : Int) (zs : List Int) (w : World) (hk : k ≤ maxLen) (ha : Arr .i64 w w.heap.size A k zs) (hE : rootE n zs ≠ 0) :
    Calls Try.prog 19 #[.slice A k c, .int .i64 n] w (NoList (rootE n zs) w) := by
  have HC := Lib.hid (rootCheck_any A k c _ n zs w hk ha)
  unfold NoList
  clear ha hk
  generalize rootE n zs = E at *
  have c1 : (E != 0) = true := by simpa using hE
  clear hE
  go_enter Try.func19, Try.ntmps19
  go_wp2_with fail
  refine HC.out.mono ?_
  rintro e w1 ⟨rfl, rfl⟩
  go_wp2
  go_ret2
  exact ⟨rfl, rfl⟩

theorem liveL_take_yes {zs : List Int} {j : Nat} (h : j < zs.length) (hj : nth zs j ≠ -1) : liveL (zs.take (j + 1)) = liveL (zs.take j) ++ [nth zs j] := by
  unfold liveL
  rw [List.take_succ_eq_append_getElem h, List.filter_append, ← nth_get _ _ h]
  simp [hj]
theorem liveL_take_no {zs : List Int} {j : Nat} (h : j < zs.length) (hj : nth zs j = -1) : liveL (zs.take (j + 1)) = liveL (zs.take j) := by
  unfold liveL
  rw [List.take_succ_eq_append_getElem h, List.filter_append, ← nth_get _ _ h]
  simp [hj]

set_option maxHeartbeats 400000 in
theorem rootNamed_ok (A : Option Addr) (k c : Nat) (n : Int) (zs : List Int) (w : World) (ha : Arr .i64 w w.heap.size A k zs) (hE : rootE n zs = 0) :
    Calls Try.prog 19 #[.slice A k c, .int .i64 n] w (NewList (namedL zs) w) := by
  obtain ⟨hn, h32, hin⟩ := rootE_ok.1 hE
  have hl := ha.1
  rw [hl] at h32
  have HC := Lib.hid (rootCheck_any A k c _ n zs w (by unfold maxLen; omega) ha)
  rw [hE] at HC
  have HA := Lib.hid ha
  have HL := Lib.hid hl
  have HIN := Lib.hid (fun j (hj : j < k) => ha.2.1 (nth zs j) (nth_mem (by omega)))
  clear ha hE hin hl hn
  go_enter Try.func19, Try.ntmps19
  go_wp2_with fail
  refine HC.out.mono ?_
  rintro e w1 ⟨rfl, rfl⟩
  go_wp2_with fail
  go_loopw [7, 18] (fun v i wr => ∃ j : Nat, j ≤ k ∧ i = .int .i64 j ∧ Hid (Own .i64 3 wr w.heap.size v (liveL (zs.take j))) ∧ Hid (Below w.heap.size w wr)) (fun _ i _ => k - (intOf i).toNat)
  case atStart => exact ⟨0, by omega, rfl, Own.nil, Below.refl _ _⟩
  case round =>
    obtain ⟨j, hj, rfl, hO, hB⟩ := hrel
    by_cases hlt : j < k
    · obtain ⟨b, off, rfl, _, hcs⟩ := (HA.out.below hB.out (Nat.le_refl _)).2.2 (by omega)
      have hc := hcs j hlt
      clear hcs
      by_cases hf : nth zs j = -1
      · have hO1 := hO.out
        rw [← liveL_take_no (by rw [HL.out]; exact hlt) hf] at hO1
        have HO := Lib.hid hO1
        rw [hf] at hc
        clear hf hO1 hO
        go_wp2
        go_roundw
        case rel => exact ⟨j + 1, by omega, by go_num, HO.out, hB.out⟩
        case measure => simp [intOf]; omega
      · obtain ⟨v', w4, hrun, hO', hB'⟩ := hO.out.push (P := Try.prog) (t := 45) (ty := 45) Try.underlying45 intI_info (by omega) (x := nth zs j) (HIN.out j hlt) (by have := liveL_len (zs.take j); simp at this; omega) hB.out.size
        rw [← liveL_take_yes (by rw [HL.out]; exact hlt) hf] at hO'
        have HR := Lib.hid hrun
        have HO := Lib.hid hO'
        have HB := Lib.hid (hB.out.trans hB')
        have c1 : (nth zs j != -1) = true := by simpa using hf
        clear hrun hO' hB' hf hO hB
        generalize nth zs j = X at *
        go_wp2_with (at_builtin; refine wpList_append_run rfl (.tmp 24) (.tmp 26) 45 rfl rfl rfl HR.out ?_)
        go_roundw
        case rel => exact ⟨j + 1, by omega, by go_num, HO.out, HB.out⟩
        case measure => simp [intOf]; omega
    · obtain rfl : j = k := by omega
      have hO1 := hO.out
      rw [List.take_of_length_le (by rw [HL.out]; exact Nat.le_refl _)] at hO1
      have HLL : Hid ((liveL zs).length ≤ 32) := by have := liveL_len zs; rw [HL.out] at this; show _ ≤ _; omega
      have HS := Lib.hid (sortI_own _ _ _ wr hO1 (by have := HLL.out; omega) hB.out.size)
      clear hO hO1
      go_wp2_with fail
      refine HS.out.mono ?_
      rintro e w2 ⟨rfl, hO2, hB2⟩
      have HK := Lib.hid (compactI_own _ _ _ w2 hO2 (by rw [sortL_len]; have := HLL.out; omega))
      have HB2 := Lib.hid (hB.out.trans hB2)
      clear hO2 hB2 HS hB
      go_wp2_with fail
      refine HK.out.mono ?_
      rintro e w3 ⟨v', rfl, hO3, hB3⟩
      obtain ⟨A', c', rfl, _, _⟩ := hO3.arr
      have HO3 := Lib.hid hO3
      have HB3 := Lib.hid (HB2.out.trans hB3)
      clear hO3 hB3 HK HB2
      change Hid (Own .i64 3 w3 w.heap.size (.slice A' (namedL zs).length c') (namedL zs)) at HO3
      generalize hm : (uniqL (sortL (liveL zs))).length = m
      have HM := Lib.hid hm
      clear hm
      go_wp2
      go_ret2
      exact ⟨_, _, _, rfl, HM.out, by have := HO3.out; rw [show (namedL zs).length = m from HM.out] at this; exact this, HB3.out⟩

theorem swapE_ok {n : Int} {l to : List Int} : swapE n l to = 0 ↔ rootE n l = 0 ∧ (to.length : Int) = n ∧ ∀ v ∈ to, -1 ≤ v ∧ v < n := by
  unfold swapE
  split
  · constructor
    · intro h; omega
    · intro h; omega
  · split
    · constructor
      · intro h; omega
      · intro h; omega
    · rw [wordsE_ok]
      constructor
      · intro h; exact ⟨by omega, by omega, h⟩
      · intro h; exact h.2.2

set_option maxHeartbeats 400000 in
theorem rootSwap_bad (A A' : Option Addr) (k c k' c' : Nat) (n : Int) (zs to : List Int) (w : World) (hk : k ≤ maxLen) (hk' : k' ≤ maxLen) (ha : Arr .i64 w w.heap.size A k zs) (ht : Arr .i64 w w.heap.size A' k' to) (hE : swapE n zs to ≠ 0) :
    Calls Try.prog 20 #[.slice A k c, .int .i64 n, .slice A' k' c'] w (NoList (swapE n zs to) w) := by
  have HC := Lib.hid (rootCheck_any A k c _ n zs w hk ha)
  have HW := Lib.hid (checkWords_any A' k' c' _ n to w hk' ht)
  have hl := ht.1
  unfold maxLen at hk hk'
  unfold NoList
  unfold swapE at hE ⊢
  rw [hl] at hE ⊢
  clear ha ht hl
  generalize rootE n zs = E at *
  generalize wordsE n to = F at *
  by_cases h1 : E ≠ 0
  · have c1 : (E != 0) = true := by simpa using h1
    rw [if_pos h1]
    clear h1 hE
    go_enter Try.func20, Try.ntmps20
    go_wp2_with fail
    refine HC.out.mono ?_
    rintro e w1 ⟨rfl, rfl⟩
    go_wp2
    go_ret2
    exact ⟨rfl, rfl⟩
  · rw [if_neg h1] at hE ⊢
    obtain rfl : E = 0 := by omega
    clear h1
    by_cases h2 : (k' : Int) ≠ n
    · have c2 : ((k' : Int) != n) = true := by simpa using h2
      rw [if_pos h2]
      clear h2 hE
      go_enter Try.func20, Try.ntmps20
      go_wp2_with fail
      refine HC.out.mono ?_
      rintro e w1 ⟨rfl, rfl⟩
      go_wp2
      go_ret2
      exact ⟨rfl, rfl⟩
    · have c2 : ((k' : Int) != n) = false := by simpa using h2
      rw [if_neg h2] at hE ⊢
      have c3 : (F != 0) = true := by simpa using hE
      clear h2 hE
      go_enter Try.func20, Try.ntmps20
      go_wp2_with fail
      refine HC.out.mono ?_
      rintro e w1 ⟨rfl, rfl⟩
      go_wp2_with fail
      refine HW.out.mono ?_
      rintro e w1 ⟨rfl, rfl⟩
      go_wp2
      go_ret2
      exact ⟨rfl, rfl⟩

/-- The first 'j' slots swapped. -/
def swapTil (l to : List Int) (j : Nat) : List Int := (l.take j).map (swapTo to) ++ l.drop j
theorem swapTil_zero (l to : List Int) : swapTil l to 0 = l := by simp [swapTil]
theorem swapTil_all (l to : List Int) (k : Nat) (h : l.length = k) : swapTil l to k = swapL l to := by
  subst h
  simp [swapTil, swapL]
theorem swapTil_len (l to : List Int) (j : Nat) : (swapTil l to j).length = l.length := by
  simp [swapTil]; omega
theorem swapTil_succ {l to : List Int} {j : Nat} (h : j < l.length) : swapTil l to (j + 1) = (swapTil l to j).set j (swapTo to (nth l j)) := by
  unfold swapTil
  have e1 : l.drop j = l[j] :: l.drop (j + 1) := List.drop_eq_getElem_cons h
  rw [List.take_succ_eq_append_getElem h, e1, List.map_append, List.append_assoc, List.set_append_right _ _ (by simp; omega)]
  rw [show j - ((l.take j).map (swapTo to)).length = 0 by simp; omega]
  simp [nth_get _ _ h]
  rw [e1]
  rfl
theorem swapTil_same {l to : List Int} {j : Nat} (h : j < l.length) (hj : nth l j = -1) : swapTil l to (j + 1) = swapTil l to j := by
  rw [swapTil_succ h, hj]
  have e : swapTo to (-1) = -1 := by simp [swapTo]
  rw [e]
  have e1 : (swapTil l to j)[j]? = some (-1) := by
    unfold swapTil
    rw [List.getElem?_append_right (by simp; omega)]
    simp [show min j l.length = j by omega]
    rw [nth_get _ _ h] at hj
    rw [List.getElem?_eq_getElem h, hj]
  apply List.ext_getElem?
  intro i
  rw [List.getElem?_set]
  split
  · rename_i hi
    subst hi
    rw [swapTil_len, if_pos h, e1]
  · rfl

set_option maxHeartbeats 400000 in
theorem rootSwap_ok (A A' : Option Addr) (k c k' c' : Nat) (n : Int) (zs to : List Int) (w : World) (ha : Arr .i64 w w.heap.size A k zs) (ht : Arr .i64 w w.heap.size A' k' to) (hE : swapE n zs to = 0) :
    Calls Try.prog 20 #[.slice A k c, .int .i64 n, .slice A' k' c'] w (NewList (swapL zs to) w) := by
  obtain ⟨h0, hlt, hin'⟩ := swapE_ok.1 hE
  obtain ⟨hn, h32, hin⟩ := rootE_ok.1 h0
  have hl := ha.1
  have hl' := ht.1
  rw [hl] at h32
  rw [hl'] at hlt
  have HC := Lib.hid (rootCheck_any A k c _ n zs w (by unfold maxLen; omega) ha)
  have HW := Lib.hid (checkWords_any A' k' c' _ n to w (by unfold maxLen; omega) ht)
  have HK := Lib.hid (cloneI_any A k c zs w (by omega) ha)
  rw [h0] at HC
  rw [wordsE_ok.2 hin'] at HW
  have HL := Lib.hid hl
  have HA := Lib.hid ha
  have HT := Lib.hid ht
  have HIN := Lib.hid (fun j (hj : j < k) => hin (nth zs j) (nth_mem (by omega)))
  have HIN' := Lib.hid (fun j (hj : j < k') => ht.2.1 (nth to j) (nth_mem (by omega)))
  have HKn : Hid ((k' : Int) = n) := hlt
  subst hlt
  clear ha ht hE h0 hin hin' hl hl' 
  go_enter Try.func20, Try.ntmps20
  go_wp2_with fail
  refine HC.out.mono ?_
  rintro e w1 ⟨rfl, rfl⟩
  have c2 : ((k' : Int) != (k' : Int)) = false := by simp
  go_wp2_with fail
  refine HW.out.mono ?_
  rintro e w1 ⟨rfl, rfl⟩
  go_wp2_with fail
  refine HK.out.mono ?_
  rintro e w1 ⟨A1, c1, rfl, hO, hB⟩
  have HO1 := Lib.hid hO
  have HB1 := Lib.hid hB
  clear hO hB HC HW HK
  go_wp2_with fail
  go_loopw [33] (fun i wr => ∃ j : Nat, j ≤ k ∧ i = .int .i64 j ∧ Hid (Own .i64 3 wr w.heap.size (.slice A1 k c1) (swapTil zs to j)) ∧ Hid (Below w.heap.size w wr)) (fun i _ => k - (intOf i).toNat)
  case atStart => exact ⟨0, by omega, rfl, by rw [swapTil_zero]; exact HO1.out, HB1.out⟩
  case round =>
    obtain ⟨j, hj, rfl, hO, hB⟩ := hrel
    by_cases hlt : j < k
    · obtain ⟨b, off, rfl, _, hcs⟩ := (HA.out.below hB.out (Nat.le_refl _)).2.2 (by omega)
      have hc := hcs j hlt
      clear hcs
      by_cases hf : nth zs j = -1
      · have hO1 := hO.out
        rw [← swapTil_same (by rw [HL.out]; exact hlt) hf] at hO1
        have HO := Lib.hid hO1
        rw [hf] at hc
        clear hf hO1 hO
        go_wp2
        go_roundw
        case rel => exact ⟨j + 1, by omega, by go_num, HO.out, hB.out⟩
        case measure => simp [intOf]; omega
      · obtain ⟨x, hx⟩ : ∃ x : Nat, nth zs j = x := ⟨(nth zs j).toNat, by have := HIN.out j hlt; omega⟩
        have hxk : x < k' := by have := HIN.out j hlt; omega
        obtain ⟨bt, offt, rfl, _, hct⟩ := (HT.out.below hB.out (Nat.le_refl _)).2.2 (by omega)
        have hd := hct x hxk
        have hlen := swapTil_len zs to j
        rw [HL.out] at hlen
        obtain ⟨g, cap, e1, hbg, hg, hcf, hset⟩ := hO.out.form (by omega)
        rw [hlen] at e1 hcf hset
        injection e1 with e1 _ e3
        subst e1; subst e3
        obtain ⟨hcell, hfro⟩ := hcf j hlt
        have hO1 := hset j (nth to x) hlt (HIN'.out x hxk)
        have e2 : swapTo to (nth zs j) = nth to x := by simp [swapTo, hx]
        rw [← e2, ← swapTil_succ (by rw [HL.out]; exact hlt), e2] at hO1
        have HO := Lib.hid hO1
        have HB := Lib.hid (hB.out.setCell (p := ⟨g, j, none⟩) hbg (.int .i64 (nth to x)))
        rw [hx] at hc
        clear hct hcf hset hO1 hO hB e2 hf hx hlen HO1 HB1
        generalize nth to x = X at *
        generalize nth (swapTil zs to j) j = Y at *
        have c3 : ((x : Int) != -1) = true := by simp
        go_wp2
        go_roundw
        case rel => exact ⟨j + 1, by omega, by go_num, HO.out, HB.out⟩
        case measure => simp [intOf]; omega
    · obtain rfl : j = k := by omega
      have hO1 := hO.out
      rw [swapTil_all _ _ _ HL.out] at hO1
      have HO := Lib.hid hO1
      clear hO hO1
      go_wp2
      go_ret2
      exact ⟨_, _, _, rfl, by rw [swapL_len, HL.out], HO.out, hB.out⟩
end Go.Proofs.Ytdieokpfkojoiaa
