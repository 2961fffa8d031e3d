/-
  Contract of spot.Set, for every argument.
-/
import Derived.Test.YtknbbondofijeaaSpot
import Derived.Test.YtknbbondofijeaaClone
import Derived.Test.YtknbbondofijeaaRec
import Derived.StillTailTactics
namespace Go.Proofs.Ytknbbondofijeaa
open Go.RowKit
theorem set_or (X : Int) (m : Nat) (hX : 0 ≤ X ∧ X < 18446744073709551616) (hm : m < 18446744073709551616) : bits .or .u64 X m = ((setN X.toNat m true : Nat) : Int) := by
  have := u64_or_nat X.toNat m (by omega) hm
  rw [Int.toNat_of_nonneg hX.1] at this
  exact this
theorem set_andNot (X : Int) (m : Nat) (hX : 0 ≤ X ∧ X < 18446744073709551616) (hm : m < 18446744073709551616) : bits .andNot .u64 X m = ((setN X.toNat m false : Nat) : Int) := by
  have := u64_andNot_nat X.toNat m (by omega) hm
  rw [Int.toNat_of_nonneg hX.1] at this
  exact this
/-- The words, the first 'k' of them set. -/
def setTo (zs : List Int) (a l : Nat) (on : Bool) (k : Nat) : List Int := (List.range zs.length).map fun i => if i < k then ((setN (nth zs i).toNat (maskN i a l) on : Nat) : Int) else nth zs i
theorem setTo_zero (zs : List Int) (a l : Nat) (on : Bool) : setTo zs a l on 0 = zs := by
  apply List.ext_getElem
  · simp [setTo]
  · intro i h1 h2; simp [setTo, nth, h2]
theorem setTo_all (zs : List Int) (a l : Nat) (on : Bool) : setTo zs a l on zs.length = setL zs a l on := by
  unfold setTo setL
  apply List.map_congr_left
  intro i hi
  rw [if_pos (List.mem_range.1 hi)]
theorem setTo_length (zs : List Int) (a l : Nat) (on : Bool) (k : Nat) : (setTo zs a l on k).length = zs.length := by simp [setTo]
theorem setTo_nth (zs : List Int) (a l : Nat) (on : Bool) (k : Nat) (h : k < zs.length) : nth (setTo zs a l on k) k = nth zs k := by
  rw [nth_get _ _ (by rw [setTo_length]; exact h)]; simp [setTo]
theorem setTo_step (zs : List Int) (a l : Nat) (on : Bool) (k : Nat) : (setTo zs a l on k).set k ((setN (nth zs k).toNat (maskN k a l) on : Nat) : Int) = setTo zs a l on (k + 1) := by
  apply List.ext_getElem
  · simp [setTo]
  · intro i h1 h2
    rw [List.getElem_set]
    by_cases e : k = i
    · subst e; simp [setTo]
    · rw [if_neg e]
      have : (i < k) ↔ (i < k + 1) := by omega
      simp [setTo, this]
/-- What Set answers. -/
def SetP (n : Nat) (m a l : Int) (on : Bool) (zs : List Int) (w : World) (e : Ending) (w' : World) : Prop := ∃ A k c, e = .returned (.tuple #[.slice A k c, .int .i64 (spotE zs m a l)]) ∧ Below w.heap.size w w' ∧
  ((spotE zs m a l ≠ 0 ∧ k = 0) ∨ (spotE zs m a l = 0 ∧ k = n ∧ Arr .u64 w' w'.heap.size A n (setL zs a.toNat l.toNat on)))
/-- What Set answers where all is right; the row is new. -/
def SetQ (n : Nat) (a l : Int) (on : Bool) (zs : List Int) (w : World) (e : Ending) (w' : World) : Prop := ∃ A c, e = .returned (.tuple #[.slice A n c, .int .i64 0]) ∧ Below w.heap.size w w' ∧ Arr .u64 w' w'.heap.size A n (setL zs a.toNat l.toNat on) ∧ High w.heap.size A n
set_option maxRecDepth 8000 in
set_option maxHeartbeats 1000000 in
theorem set_okQ (A : Option Addr) (n c p q : Nat) (m : Int) (on : Bool) (zs : List Int) (w : World) (h : spotE zs m p q = 0) (ha : Arr .u64 w w.heap.size A n zs) :
    Calls Try.prog 104 #[.slice A n c, .int .i64 m, .int .i64 p, .int .i64 q, .bool on] w (SetQ n p q on zs w) := by
  obtain ⟨h0, h1, h2, h3, h4⟩ := spotE_zero h
  obtain ⟨g1, g2, g3, g4, g5⟩ := marks_len h0 ha.1
  clear h0
  have HE := Lib.hid h
  have HZ : Hid (U64s zs) := ha.2.1
  have HL := Lib.hid ha.1
  go_enter Try.func104, Try.ntmps104
  go_wp2_with fail
  refine (spotRange_any A n c _ m p q zs _ g2 (wf_i64.2 (by omega)) (wf_i64.2 (by omega)) (wf_i64.2 (by omega)) ha).mono ?_
  rintro e w' ⟨rfl, rfl⟩
  rw [h]
  clear h
  go_wp2_with fail
  refine (slicesClone_any A n c zs _ (by omega) ha).mono ?_
  rintro e w1 ⟨A1, c1, rfl, hO, hB⟩
  clear ha
  go_wp2_with fail
  go_loopw [27] (fun i wr => ∃ k : Nat, k ≤ n ∧ i = .int .i64 k ∧ Own .u64 52 wr w.heap.size (.slice A1 n c1) (setTo zs p q on k) ∧ Below w.heap.size w wr) (fun i _ => n - (intOf i).toNat)
  case atStart => exact ⟨0, Nat.zero_le _, rfl, by rw [setTo_zero]; exact hO, hB⟩
  case round =>
    obtain ⟨k, hk, rfl, hOr, hBr⟩ := hrel
    clear hO hB
    by_cases hlt : k < n
    · obtain ⟨g, cap, hv6, hg, hglt, hcells, hset⟩ := hOr.form (by rw [setTo_length]; have := HL.out; omega)
      injection hv6 with e1 e4 e5
      subst e1
      clear e4 e5
      obtain ⟨hcj, hfj⟩ := hcells k (by rw [setTo_length]; have := HL.out; omega)
      rw [setTo_nth _ _ _ _ _ (by have := HL.out; omega)] at hcj
      have hX := nth_u64 HZ.out k
      have hlt' := setN_lt (nth zs k).toNat (maskN k p q) on (by omega) (maskN_lt _ _ _)
      have H1 := hset k ((setN (nth zs k).toNat (maskN k p q) on : Nat) : Int) (by rw [setTo_length]; have := HL.out; omega) (wf_u64.2 (by omega))
      rw [setTo_step] at H1
      have H1 := Lib.hid H1
      have H2 := Lib.hid (hBr.setCell (p := ⟨g, k, none⟩) hg (.int .u64 ((setN (nth zs k).toNat (maskN k p q) on : Nat) : Int)))
      clear hcells hset hOr hBr HE
      have hk0 : (0 : Int) ≤ (k : Int) := by omega
      have hk1 : (k : Int) < (n : Int) := by omega
      cases on
      · have hb := set_andNot (nth zs k) (maskN k p q) hX (maskN_lt _ _ _)
        generalize nth zs k = X at *
        generalize hY : setN X.toNat (maskN k p q) false = Y at *
        clear hY
        go_wp2
        refine wp_region_still_tail 9 (by kernel_rfl) (by kernel_rfl) ?_
        simp only [List.take_succ_cons, List.take_zero, List.drop_succ_cons, List.drop_zero]
        repeat still_step
        still_call ((mask_any k p q _ (by omega) (by omega) (by omega)).mono fun _ _ h => ⟨h.1, h.2.symm⟩)
        repeat still_step
        refine wpStill_nil ?_
        change wpList _ _ _ _ _ (wr.drewN 1)
        go_wp2
        go_roundw
        case rel => exact ⟨k + 1, by omega, by go_num, H1.out, below_drewN H2.out 1⟩
        case measure => simp [intOf]; omega
      · have hb := set_or (nth zs k) (maskN k p q) hX (maskN_lt _ _ _)
        generalize nth zs k = X at *
        generalize hY : setN X.toNat (maskN k p q) true = Y at *
        clear hY
        go_wp2
        refine wp_region_still_tail 9 (by kernel_rfl) (by kernel_rfl) ?_
        simp only [List.take_succ_cons, List.take_zero, List.drop_succ_cons, List.drop_zero]
        repeat still_step
        still_call ((mask_any k p q _ (by omega) (by omega) (by omega)).mono fun _ _ h => ⟨h.1, h.2.symm⟩)
        repeat still_step
        refine wpStill_nil ?_
        change wpList _ _ _ _ _ (wr.drewN 1)
        go_wp2
        go_roundw
        case rel => exact ⟨k + 1, by omega, by go_num, H1.out, below_drewN H2.out 1⟩
        case measure => simp [intOf]; omega
    · obtain rfl : k = n := by omega
      have H3 := Lib.hid hOr.high
      rw [← HL.out, setTo_all] at hOr
      obtain ⟨A2, c2, hv, _, hA⟩ := hOr.arr
      injection hv with e1 e2 e3
      subst e1
      clear e2 e3
      rw [setL_length, HL.out] at hA
      have H1 := Lib.hid hA
      have H2 := Lib.hid hBr
      clear hOr hBr hA
      go_wp2
      go_ret2
      exact ⟨_, _, rfl, H2.out, H1.out, H3.out⟩
theorem set_ok (A : Option Addr) (n c p q : Nat) (m : Int) (on : Bool) (zs : List Int) (w : World) (h : spotE zs m p q = 0) (ha : Arr .u64 w w.heap.size A n zs) :
    Calls Try.prog 104 #[.slice A n c, .int .i64 m, .int .i64 p, .int .i64 q, .bool on] w (SetP n m p q on zs w) := by
  refine (set_okQ A n c p q m on zs w h ha).mono ?_
  rintro e w' ⟨A', c', rfl, hb, hA, _⟩
  exact ⟨A', n, c', by rw [h], hb, .inr ⟨h, rfl, hA⟩⟩
set_option maxHeartbeats 400000 in
theorem set_bad (A : Option Addr) (n c : Nat) (m a l : Int) (on : Bool) (zs : List Int) (w : World) (hn : n ≤ maxLen) (hm : (Lit.int .i64 m).wf = true) (hi : (Lit.int .i64 a).wf = true) (hl : (Lit.int .i64 l).wf = true) (ha : Arr .u64 w w.heap.size A n zs) (h : spotE zs m a l ≠ 0) :
    Calls Try.prog 104 #[.slice A n c, .int .i64 m, .int .i64 a, .int .i64 l, .bool on] w (SetP n m a l on zs w) := by
  have hb : (spotE zs m a l != 0) = true := by simpa using h
  have HE := Lib.hid h
  clear h
  go_enter Try.func104, Try.ntmps104
  go_wp2_with fail
  refine (spotRange_any A n c _ m a l zs _ hn hm hi hl ha).mono ?_
  rintro e w' ⟨rfl, rfl⟩
  go_wp2
  go_ret2
  exact ⟨_, _, _, rfl, Below.refl _ _, .inl ⟨HE.out, rfl⟩⟩
theorem Set_any (A : Option Addr) (n c : Nat) (m a l : Int) (on : Bool) (zs : List Int) (w : World) (hn : n ≤ maxLen) (hm : (Lit.int .i64 m).wf = true) (hi : (Lit.int .i64 a).wf = true) (hl : (Lit.int .i64 l).wf = true) (ha : Arr .u64 w w.heap.size A n zs) :
    Calls Try.prog 104 #[.slice A n c, .int .i64 m, .int .i64 a, .int .i64 l, .bool on] w (SetP n m a l on zs w) := by
  by_cases h : spotE zs m a l = 0
  · obtain ⟨h0, h1, h2, h3, h4⟩ := spotE_zero h
    obtain ⟨p, rfl⟩ := Int.eq_ofNat_of_zero_le h1
    obtain ⟨q, rfl⟩ := Int.eq_ofNat_of_zero_le h3
    exact set_ok A n c p q m on zs w h ha
  · exact set_bad A n c m a l on zs w hn hm hi hl ha h
end Go.Proofs.Ytknbbondofijeaa
