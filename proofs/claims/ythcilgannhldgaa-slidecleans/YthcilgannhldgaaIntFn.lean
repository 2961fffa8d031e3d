/-
  Contracts over []int that do not sort: slices.Clone, Index, Contains, IndexFunc, ContainsFunc (any captured variables), IsSorted at a list that rises; the reference's Place, In, Rising.
-/
import Derived.Test.YthcilgannhldgaaTintM
import Derived.Test.YthcilgannhldgaaRef
import Derived.Test.YthcilgannhldgaaRec
import Derived.Test.YthcilgannhldgaaWalkM
import Derived.Lib.SliceRun
import Derived.Deep.RegionHeld3
namespace Go.Proofs.Ythcilgannhldgaa
open Go.RowKit

theorem intI_info : (Try.prog.info? 3).map (fun i => (i.zero, i.size, i.bytes)) = some (some (.int .i64 0), 1, 8) := by kernel_rfl
theorem Own.emptyI {w : World} {base : Nat} (hb : base ≤ w.heap.size) : Own .i64 3 (w.alloc (.cells #[] 3)) base (.slice (some ⟨w.heap.size, 0, none⟩) 0 0) [] :=
  ⟨⟨by simp, .inr ⟨w.heap.size, 0, #[], rfl, hb, heap_alloc_new w _, Nat.le_refl _, by omega, by simp, by simp⟩⟩, fun x hx => by cases hx⟩

/-- What slices.Clone answers. -/
def ClonedI (n : Nat) (zs : List Int) (w : World) (e : Ending) (w' : World) : Prop := ∃ A c, e = .returned (.slice A n c) ∧ Own .i64 3 w' w.heap.size (.slice A n c) zs ∧ Below w.heap.size w w'

/-- The place of 'x' in a list. -/
def PlaceI (xs : List Int) (x r : Int) : Prop := (∃ k : Nat, r = k ∧ k < xs.length ∧ nth xs k = x) ∨ (r = -1 ∧ ∀ j, j < xs.length → nth xs j ≠ x)
theorem placeI_mem {xs : List Int} {x r : Int} (h : PlaceI xs x r) : decide (0 ≤ r) = decide (x ∈ xs) := by
  rcases h with ⟨k, rfl, hk, he⟩ | ⟨rfl, hno⟩
  · have : x ∈ xs := by rw [← he]; exact nth_mem hk
    simp [this]
  · have : ¬ x ∈ xs := fun h => by
      obtain ⟨i, hi, rfl⟩ := List.getElem_of_mem h
      exact hno i hi (nth_get _ _ hi)
    simp [this]

set_option maxHeartbeats 400000 in
theorem placeR_any (A : Option Addr) (n c B : Nat) (x : Int) (xs : List Int) (w : World) (hn : n ≤ maxLen) (ha : Arr .i64 w B A n xs) :
    Calls Try.prog 18 #[.slice A n c, .int .i64 x] w fun e w' => (∃ r, e = .returned (.int .i64 r) ∧ PlaceI xs x r) ∧ w = w' := by
  unfold maxLen at hn
  have hl := ha.1
  have HA := Lib.hid ha
  clear ha
  go_enter Try.func18, Try.ntmps18
  go_wp2
  go_loopw [9] (fun i wr => ∃ k : Nat, k ≤ n ∧ i = .int .i64 k ∧ Hid (∀ j, j < k → nth xs j ≠ x) ∧ w = wr) (fun i _ => n - (intOf i).toNat)
  case atStart => exact ⟨0, Nat.zero_le _, rfl, (fun j hj => absurd hj (by omega)), rfl⟩
  case round =>
    obtain ⟨k, hk, rfl, HE, rfl⟩ := hrel
    by_cases hlt : k < n
    · obtain ⟨b, off, rfl, _, hcs⟩ := HA.out.2.2 (by omega)
      have hc := hcs k hlt
      clear hcs
      by_cases he : nth xs k = x
      · have HQ := Lib.hid he
        rw [he] at hc
        have hb : (x == x) = true := by simp
        clear he
        go_wp2
        go_ret
        exact ⟨⟨_, rfl, .inl ⟨k, rfl, by omega, HQ.out⟩⟩, rfl⟩
      · have HQ := Lib.hid he
        have HEn : Hid (∀ j, j < k + 1 → nth xs j ≠ x) := fun j hj => by
          rcases Nat.lt_succ_iff_lt_or_eq.1 hj with h | h
          · exact HE.out j h
          · rw [h]; exact HQ.out
        clear HQ
        generalize nth xs k = X at *
        have hb : (X==x) = false := by
          rw [beq_eq_false_iff_ne]
          omega
        clear he
        go_wp2
        go_roundw
        case rel => exact ⟨k + 1, by omega, by go_num, HEn, by trivial⟩
        case measure => simp [intOf]; omega
    · obtain rfl : k = n := by omega
      go_wp2
      go_ret
      exact ⟨⟨_, rfl, .inr ⟨rfl, by rw [hl]; exact HE.out⟩⟩, rfl⟩
set_option maxHeartbeats 400000 in
theorem inR_any (A : Option Addr) (n c B : Nat) (x : Int) (xs : List Int) (w : World) (hn : n ≤ maxLen) (ha : Arr .i64 w B A n xs) :
    Calls Try.prog 31 #[.slice A n c, .int .i64 x] w fun e w' => e = .returned (.bool (decide (x ∈ xs))) ∧ w = w' := by
  have HP := Lib.hid (placeR_any A n c B x xs w hn ha)
  clear ha
  go_enter Try.func31, Try.ntmps31
  go_wp2_with fail
  refine HP.out.mono ?_
  rintro e w' ⟨⟨r, rfl, hr⟩, rfl⟩
  have HR := Lib.hid (placeI_mem hr)
  clear hr HP
  go_wp2
  go_ret
  exact ⟨by rw [← HR.out]; rfl, rfl⟩
set_option maxHeartbeats 400000 in
theorem rising_any (A : Option Addr) (n c : Nat) (xs : List Int) (w : World) (hn : n ≤ maxLen) (ha : Arr .i64 w w.heap.size A n xs) :
    Calls Try.prog 41 #[.slice A n c] w fun e w' => ∃ A' c', e = .returned (.slice A' (risingTo xs 256).length c') ∧ Below w.heap.size w w' ∧ Arr .i64 w' w'.heap.size A' (risingTo xs 256).length (risingTo xs 256) := by
  have HA := Lib.hid ha
  have HN := Lib.hid hn
  clear ha hn
  go_enter Try.func41, Try.ntmps41
  go_wp2
  go_loopw [3, 5] (fun v i wr => ∃ j : Nat, j ≤ 256 ∧ i = .int .i64 j ∧ Hid (Own .i64 3 wr w.heap.size v (risingTo xs j)) ∧ Hid (Below w.heap.size w wr)) (fun _ i _ => 256 - (intOf i).toNat)
  case atStart => exact ⟨0, by omega, rfl, by rw [risingTo_zero]; exact Own.nil, Below.refl _ _⟩
  case round =>
    obtain ⟨j, hj, rfl, hO, hB⟩ := hrel
    by_cases hlt : j < 256
    · have HI := Lib.hid (inR_any A n c _ (j : Int) xs wr HN.out (HA.out.below hB.out (Nat.le_refl _)))
      have c1 : ((j : Int) < 256) = True := eq_true (by omega)
      by_cases hm : (j : Int) ∈ xs
      · rw [show decide ((j : Int) ∈ xs) = true by simpa using hm] at HI
        obtain ⟨v', w4, hrun, hO', hB'⟩ := hO.out.push (P := Try.prog) (t := 23) (ty := 23) Try.underlying23 intI_info (by omega) (x := (j : Int)) (wf_i64.2 (by omega)) (by have := risingTo_len xs j; omega) hB.out.size
        rw [← risingTo_yes hm] at hO'
        have HR := Lib.hid hrun
        have HO := Lib.hid hO'
        have HB := Lib.hid (hB.out.trans hB')
        clear hrun hO' hB' hO hB hm
        go_wp2_with fail
        refine HI.out.mono ?_
        rintro e w' ⟨rfl, rfl⟩
        go_wp2_with (at_builtin; refine wpList_append_run rfl (.tmp 11) (.tmp 13) 23 rfl rfl rfl HR.out ?_)
        go_roundw
        case rel => exact ⟨j + 1, by omega, by go_num, HO.out, HB.out⟩
        case measure => simp [intOf]; omega
      · rw [show decide ((j : Int) ∈ xs) = false by simpa using hm] at HI
        have hO1 := hO.out
        rw [← risingTo_no hm] at hO1
        have HO := Lib.hid hO1
        clear hO1 hO hm
        go_wp2_with fail
        refine HI.out.mono ?_
        rintro e w' ⟨rfl, rfl⟩
        go_wp2
        go_roundw
        case rel => exact ⟨j + 1, by omega, by go_num, HO.out, hB.out⟩
        case measure => simp [intOf]; omega
    · obtain rfl : j = 256 := by omega
      obtain ⟨A', c', rfl, _, hA'⟩ := hO.out.arr
      have HA' := Lib.hid hA'
      clear hA' hO
      obtain ⟨m, hm⟩ : ∃ m, (risingTo xs 256).length = m := ⟨_, rfl⟩
      rw [hm] at HA' ⊢
      have HM := Lib.hid hm
      clear hm
      go_wp2
      go_ret
      exact ⟨A', c', by rw [HM.out]; rfl, hB.out, by rw [HM.out]; exact HA'.out⟩

/-! A function value with captured variables, asked of each number of a list; it may lay blocks of its own. -/
set_option maxHeartbeats 400000 in
theorem lessNo_any (x y : Int) (w : World) (h : y ≤ x) : Calls Try.prog 62 #[.int .i64 x, .int .i64 y] w fun e w' => e = .returned (.bool false) ∧ w = w' := by
  have hN : ∀ z wx, Calls Try.prog 84 #[.int .i64 z] wx fun e w' => e = .returned (.bool false) ∧ wx = w' := by
    intro z wx
    have c1 : (z != z) = false := by simp
    go_enter Try.func84, Try.ntmps84
    go_wp2
    go_ret
    exact ⟨rfl, rfl⟩
  have HN := Lib.hid hN
  have c1 : (x < y) = False := eq_false (by omega)
  clear hN h
  go_enter Try.func62, Try.ntmps62
  go_wp2_with fail
  refine (HN.out _ _).mono ?_
  rintro e w1 ⟨rfl, rfl⟩
  go_wp2
  go_ret
  exact ⟨rfl, rfl⟩

theorem quiet_sameI {P : Program} {f : FuncId} {args : Array Value} {w : World} {n : Nat} {v : Value} (h : Calls P f args (w.drewN n) fun e w' => e = .returned v ∧ w.drewN n = w') :
    Calls P f args (w.drewN n) fun e w'' => e = .returned v ∧ ∃ m, w'' = w.drewN m := h.mono fun _ _ ⟨he, hm⟩ => ⟨he, n, hm.symm⟩

end Go.Proofs.Ythcilgannhldgaa
