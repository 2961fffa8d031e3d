/-
  Contracts over []int that do not sort: slices.Clone, Index, Contains, IndexFunc, ContainsFunc (any captured variables), IsSorted at a list that rises; the reference's Place, In, Rising.
-/
import Derived.Test.YtdglnbcliemafaaTintM
import Derived.Test.YtdglnbcliemafaaRef
import Derived.Test.YtdglnbcliemafaaRec
import Derived.Test.YtdglnbcliemafaaWalkM
import Derived.Lib.SliceRun
import Derived.Deep.RegionHeld3
namespace Go.Proofs.Ytdglnbcliemafaa
open Go.RowKit

theorem intI_info : (Try.prog.info? 3).map (fun i => (i.zero, i.size, i.bytes)) = some (some (.int .i64 0), 1, 8) := by kernel_rfl
theorem Own.emptyI {w : World} {base : Nat} (hb : base ≤ w.heap.size) : Own .i64 3 (w.alloc (.cells #[] 3)) base (.slice (some ⟨w.heap.size, 0, none⟩) 0 0) [] :=
  ⟨⟨by simp, .inr ⟨w.heap.size, 0, #[], rfl, hb, heap_alloc_new w _, Nat.le_refl _, by omega, by simp, by simp⟩⟩, fun x hx => by cases hx⟩

/-- What slices.Clone answers. -/
def ClonedI (n : Nat) (zs : List Int) (w : World) (e : Ending) (w' : World) : Prop := ∃ A c, e = .returned (.slice A n c) ∧ Own .i64 3 w' w.heap.size (.slice A n c) zs ∧ Below w.heap.size w w'

set_option maxHeartbeats 400000 in
theorem cloneI_any (A : Option Addr) (n c : Nat) (zs : List Int) (w : World) (hn : n ≤ 256) (ha : Arr .i64 w w.heap.size A n zs) :
    Calls Try.prog 26 #[.slice A n c] w (ClonedI n zs w) := by
  have hq := fun wx => Lib.run_eql_slice_nil (P := Try.prog) wx 23 3 A n c 0 0 Try.underlying23
  rcases A with _ | x
  · have h0 : n = 0 := by
      rcases Nat.eq_zero_or_pos n with h | h
      · exact h
      · obtain ⟨_, _, h, _⟩ := ha.2.2 h; cases h
    subst h0
    have h1 : zs = [] := List.eq_nil_of_length_eq_zero ha.1
    subst h1
    clear ha
    go_enter Try.func26, Try.ntmps26
    go_wp2
    go_ret
    exact ⟨none, 0, rfl, Own.nil, Below.refl _ _⟩
  · have hb1 : Below w.heap.size w (w.alloc (.cells #[] 3)) := (Below.refl _ _).alloc (Nat.le_refl _) _
    obtain ⟨v', w', hrun, hO, hB⟩ := (Own.emptyI (w := w) (base := w.heap.size) (Nat.le_refl _)).cat (P := Try.prog) (t := 23) (ty := 23) (c := c) Try.underlying23 intI_info (by omega)
      (ha.below hb1 (Nat.le_refl _)) (by simp; omega) (by simp)
    simp only [List.nil_append] at hO
    obtain ⟨A', c', rfl, _, _⟩ := hO.arr
    have hl := ha.1
    rw [hl] at hrun hO
    have HP := Lib.hid hrun
    have HO := Lib.hid hO
    have HB := Lib.hid (hb1.trans hB)
    clear hrun hO hB ha hl hb1
    go_enter Try.func26, Try.ntmps26
    go_wp2_with (at_builtin; refine wpList_append_run rfl (.tmp 5) (.tmp 6) 23 rfl rfl rfl HP.out ?_)
    go_ret
    exact ⟨A', c', rfl, HO.out, HB.out⟩

/-- The place of 'x' in a list. -/
def PlaceI (xs : List Int) (x r : Int) : Prop := (∃ k : Nat, r = k ∧ k < xs.length ∧ nth xs k = x) ∨ (r = -1 ∧ ∀ j, j < xs.length → nth xs j ≠ x)
theorem placeI_mem {xs : List Int} {x r : Int} (h : PlaceI xs x r) : decide (0 ≤ r) = decide (x ∈ xs) := by
  rcases h with ⟨k, rfl, hk, he⟩ | ⟨rfl, hno⟩
  · have : x ∈ xs := by rw [← he]; exact nth_mem hk
    simp [this]
  · have : ¬ x ∈ xs := fun h => by
      obtain ⟨i, hi, rfl⟩ := List.getElem_of_mem h
      exact hno i hi (nth_get _ _ hi)
    simp [this]

set_option maxHeartbeats 400000 in
theorem placeR_any (A : Option Addr) (n c B : Nat) (x : Int) (xs : List Int) (w : World) (hn : n ≤ maxLen) (ha : Arr .i64 w B A n xs) :
    Calls Try.prog 37 #[.slice A n c, .int .i64 x] w fun e w' => (∃ r, e = .returned (.int .i64 r) ∧ PlaceI xs x r) ∧ w = w' := by
  unfold maxLen at hn
  have hl := ha.1
  have HA := Lib.hid ha
  clear ha
  go_enter Try.func37, Try.ntmps37
  go_wp2
  go_loopw [9] (fun i wr => ∃ k : Nat, k ≤ n ∧ i = .int .i64 k ∧ Hid (∀ j, j < k → nth xs j ≠ x) ∧ w = wr) (fun i _ => n - (intOf i).toNat)
  case atStart => exact ⟨0, Nat.zero_le _, rfl, (fun j hj => absurd hj (by omega)), rfl⟩
  case round =>
    obtain ⟨k, hk, rfl, HE, rfl⟩ := hrel
    by_cases hlt : k < n
    · obtain ⟨b, off, rfl, _, hcs⟩ := HA.out.2.2 (by omega)
      have hc := hcs k hlt
      clear hcs
      by_cases he : nth xs k = x
      · have HQ := Lib.hid he
        rw [he] at hc
        have hb : (x == x) = true := by simp
        clear he
        go_wp2
        go_ret
        exact ⟨⟨_, rfl, .inl ⟨k, rfl, by omega, HQ.out⟩⟩, rfl⟩
      · have HQ := Lib.hid he
        have HEn : Hid (∀ j, j < k + 1 → nth xs j ≠ x) := fun j hj => by
          rcases Nat.lt_succ_iff_lt_or_eq.1 hj with h | h
          · exact HE.out j h
          · rw [h]; exact HQ.out
        clear HQ
        generalize nth xs k = X at *
        have hb : (X==x) = false := by
          rw [beq_eq_false_iff_ne]
          omega
        clear he
        go_wp2
        go_roundw
        case rel => exact ⟨k + 1, by omega, by go_num, HEn, by trivial⟩
        case measure => simp [intOf]; omega
    · obtain rfl : k = n := by omega
      go_wp2
      go_ret
      exact ⟨⟨_, rfl, .inr ⟨rfl, by rw [hl]; exact HE.out⟩⟩, rfl⟩
set_option maxHeartbeats 400000 in
theorem indexR_any (A : Option Addr) (n c B : Nat) (x : Int) (xs : List Int) (w : World) (hn : n ≤ maxLen) (ha : Arr .i64 w B A n xs) :
    Calls Try.prog 44 #[.slice A n c, .int .i64 x] w fun e w' => (∃ r, e = .returned (.int .i64 r) ∧ PlaceI xs x r) ∧ w = w' := by
  unfold maxLen at hn
  have hl := ha.1
  have HA := Lib.hid ha
  clear ha
  go_enter Try.func44, Try.ntmps44
  go_wp2
  go_loopw [8] (fun i wr => ∃ k : Nat, k ≤ n ∧ i = .int .i64 k ∧ Hid (∀ j, j < k → nth xs j ≠ x) ∧ w = wr) (fun i _ => n - (intOf i).toNat)
  case atStart => exact ⟨0, Nat.zero_le _, rfl, (fun j hj => absurd hj (by omega)), rfl⟩
  case round =>
    obtain ⟨k, hk, rfl, HE, rfl⟩ := hrel
    by_cases hlt : k < n
    · obtain ⟨b, off, rfl, _, hcs⟩ := HA.out.2.2 (by omega)
      have hc := hcs k hlt
      clear hcs
      by_cases he : nth xs k = x
      · have HQ := Lib.hid he
        rw [he] at hc
        have hb : (x == x) = true := by simp
        clear he
        go_wp2
        go_ret
        exact ⟨⟨_, rfl, .inl ⟨k, rfl, by omega, HQ.out⟩⟩, rfl⟩
      · have HQ := Lib.hid he
        have HEn : Hid (∀ j, j < k + 1 → nth xs j ≠ x) := fun j hj => by
          rcases Nat.lt_succ_iff_lt_or_eq.1 hj with h | h
          · exact HE.out j h
          · rw [h]; exact HQ.out
        clear HQ
        generalize nth xs k = X at *
        have hb : (x==X) = false := by
          rw [beq_eq_false_iff_ne]
          omega
        clear he
        go_wp2
        go_roundw
        case rel => exact ⟨k + 1, by omega, by go_num, HEn, by trivial⟩
        case measure => simp [intOf]; omega
    · obtain rfl : k = n := by omega
      go_wp2
      go_ret
      exact ⟨⟨_, rfl, .inr ⟨rfl, by rw [hl]; exact HE.out⟩⟩, rfl⟩

set_option maxHeartbeats 400000 in
theorem inR_any (A : Option Addr) (n c B : Nat) (x : Int) (xs : List Int) (w : World) (hn : n ≤ maxLen) (ha : Arr .i64 w B A n xs) :
    Calls Try.prog 12 #[.slice A n c, .int .i64 x] w fun e w' => e = .returned (.bool (decide (x ∈ xs))) ∧ w = w' := by
  have HP := Lib.hid (placeR_any A n c B x xs w hn ha)
  clear ha
  go_enter Try.func12, Try.ntmps12
  go_wp2_with fail
  refine HP.out.mono ?_
  rintro e w' ⟨⟨r, rfl, hr⟩, rfl⟩
  have HR := Lib.hid (placeI_mem hr)
  clear hr HP
  go_wp2
  go_ret
  exact ⟨by rw [← HR.out]; rfl, rfl⟩
set_option maxHeartbeats 400000 in
theorem containsR_any (A : Option Addr) (n c B : Nat) (x : Int) (xs : List Int) (w : World) (hn : n ≤ maxLen) (ha : Arr .i64 w B A n xs) :
    Calls Try.prog 21 #[.slice A n c, .int .i64 x] w fun e w' => e = .returned (.bool (decide (x ∈ xs))) ∧ w = w' := by
  have HP := Lib.hid (indexR_any A n c B x xs w hn ha)
  clear ha
  go_enter Try.func21, Try.ntmps21
  go_wp2_with fail
  refine HP.out.mono ?_
  rintro e w' ⟨⟨r, rfl, hr⟩, rfl⟩
  have HR := Lib.hid (placeI_mem hr)
  clear hr HP
  go_wp2
  go_ret
  exact ⟨by rw [← HR.out]; rfl, rfl⟩

set_option maxHeartbeats 400000 in
theorem rising_any (A : Option Addr) (n c : Nat) (xs : List Int) (w : World) (hn : n ≤ maxLen) (ha : Arr .i64 w w.heap.size A n xs) :
    Calls Try.prog 40 #[.slice A n c] w fun e w' => ∃ A' c', e = .returned (.slice A' (risingTo xs 256).length c') ∧ Below w.heap.size w w' ∧ Arr .i64 w' w'.heap.size A' (risingTo xs 256).length (risingTo xs 256) := by
  have HA := Lib.hid ha
  have HN := Lib.hid hn
  clear ha hn
  go_enter Try.func40, Try.ntmps40
  go_wp2
  go_loopw [3, 5] (fun v i wr => ∃ j : Nat, j ≤ 256 ∧ i = .int .i64 j ∧ Hid (Own .i64 3 wr w.heap.size v (risingTo xs j)) ∧ Hid (Below w.heap.size w wr)) (fun _ i _ => 256 - (intOf i).toNat)
  case atStart => exact ⟨0, by omega, rfl, by rw [risingTo_zero]; exact Own.nil, Below.refl _ _⟩
  case round =>
    obtain ⟨j, hj, rfl, hO, hB⟩ := hrel
    by_cases hlt : j < 256
    · have HI := Lib.hid (inR_any A n c _ (j : Int) xs wr HN.out (HA.out.below hB.out (Nat.le_refl _)))
      have c1 : ((j : Int) < 256) = True := eq_true (by omega)
      by_cases hm : (j : Int) ∈ xs
      · rw [show decide ((j : Int) ∈ xs) = true by simpa using hm] at HI
        obtain ⟨v', w4, hrun, hO', hB'⟩ := hO.out.push (P := Try.prog) (t := 23) (ty := 23) Try.underlying23 intI_info (by omega) (x := (j : Int)) (wf_i64.2 (by omega)) (by have := risingTo_len xs j; omega) hB.out.size
        rw [← risingTo_yes hm] at hO'
        have HR := Lib.hid hrun
        have HO := Lib.hid hO'
        have HB := Lib.hid (hB.out.trans hB')
        clear hrun hO' hB' hO hB hm
        go_wp2_with fail
        refine HI.out.mono ?_
        rintro e w' ⟨rfl, rfl⟩
        go_wp2_with (at_builtin; refine wpList_append_run rfl (.tmp 11) (.tmp 13) 23 rfl rfl rfl HR.out ?_)
        go_roundw
        case rel => exact ⟨j + 1, by omega, by go_num, HO.out, HB.out⟩
        case measure => simp [intOf]; omega
      · rw [show decide ((j : Int) ∈ xs) = false by simpa using hm] at HI
        have hO1 := hO.out
        rw [← risingTo_no hm] at hO1
        have HO := Lib.hid hO1
        clear hO1 hO hm
        go_wp2_with fail
        refine HI.out.mono ?_
        rintro e w' ⟨rfl, rfl⟩
        go_wp2
        go_roundw
        case rel => exact ⟨j + 1, by omega, by go_num, HO.out, hB.out⟩
        case measure => simp [intOf]; omega
    · obtain rfl : j = 256 := by omega
      obtain ⟨A', c', rfl, _, hA'⟩ := hO.out.arr
      have HA' := Lib.hid hA'
      clear hA' hO
      obtain ⟨m, hm⟩ : ∃ m, (risingTo xs 256).length = m := ⟨_, rfl⟩
      rw [hm] at HA' ⊢
      have HM := Lib.hid hm
      clear hm
      go_wp2
      go_ret
      exact ⟨A', c', by rw [HM.out]; rfl, hB.out, by rw [HM.out]; exact HA'.out⟩

/-! A function value with captured variables, asked of each number of a list; it may lay blocks of its own. -/
set_option maxHeartbeats 400000 in
theorem indexFnIn (A : Option Addr) (n c fid : Nat) (caps : Array Value) (f : Int → Bool) (xs : List Int) (w : World) (hn : n ≤ maxLen) (hx : Arr .i64 w w.heap.size A n xs) (hcall : ∀ args wx, Sem.run Try.prog (callFunc fid args) wx = .ok (.enter fid args) wx)
    (hF : ∀ x ∈ xs, ∀ wx, Below w.heap.size w wx → Calls Try.prog fid (#[.int .i64 x] ++ caps) wx (fun e w' => e = .returned (.bool (f x)) ∧ Below wx.heap.size wx w')) :
    Calls Try.prog 53 #[.slice A n c, .func (.func fid) #[] caps] w fun e w' => (∃ r : Int, e = .returned (.int .i64 r) ∧ decide (0 ≤ r) = xs.any f) ∧ Below w.heap.size w w' := by
  unfold maxLen at hn
  have hl := hx.1
  have HF := Lib.hid hF
  have HX := Lib.hid hx
  clear hF hx
  go_enter Try.func53, Try.ntmps53
  go_wp2
  go_loopw [8] (fun i wr => ∃ k : Nat, k ≤ n ∧ i = .int .i64 k ∧ Hid (∀ j, j < k → f (nth xs j) = false) ∧ Hid (Below w.heap.size w wr)) (fun i _ => n - (intOf i).toNat)
  case atStart => exact ⟨0, Nat.zero_le _, rfl, (fun j hj => absurd hj (by omega)), Below.refl _ _⟩
  case round =>
    obtain ⟨k, hk, rfl, HE, HB⟩ := hrel
    by_cases hlt : k < n
    · obtain ⟨b, off, rfl, hbB, hcs⟩ := (HX.out.below HB.out (Nat.le_refl _)).2.2 (by omega)
      have hc := hcs k hlt
      have HC := Lib.hid (HF.out (nth xs k) (nth_mem (by omega)) wr HB.out)
      have HM : Hid (f (nth xs k) = true → xs.any f = true) := fun h => List.any_eq_true.2 ⟨_, nth_mem (by omega), h⟩
      have HEn : Hid (f (nth xs k) = false → ∀ j, j < k + 1 → f (nth xs j) = false) := fun h j hj => by
        rcases Nat.lt_succ_iff_lt_or_eq.1 hj with h1 | h1
        · exact HE.out j h1
        · rw [h1]; exact h
      clear hcs
      generalize nth xs k = X at *
      cases hf : f X
      · rw [hf] at HC
        have HN := Lib.hid (HEn.out hf)
        clear hf HM HEn
        go_wp2_with fail
        refine HC.out.mono ?_
        rintro e w1 ⟨rfl, hb1⟩
        have HB1 := Lib.hid (HB.out.trans (hb1.mono HB.out.size))
        clear hb1
        go_wp2
        go_roundw
        case rel => exact ⟨k + 1, by omega, by go_num, HN, HB1.out⟩
        case measure => simp [intOf]; omega
      · rw [hf] at HC
        have HN := Lib.hid (HM.out hf)
        clear hf HM HEn
        go_wp2_with fail
        refine HC.out.mono ?_
        rintro e w1 ⟨rfl, hb1⟩
        have HB1 := Lib.hid (HB.out.trans (hb1.mono HB.out.size))
        clear hb1
        go_wp2
        go_ret
        exact ⟨⟨_, rfl, by rw [HN.out]; simp⟩, HB1.out⟩
    · obtain rfl : k = n := by omega
      have HN : Hid (xs.any f = false) := by
        show _ = _
        rw [List.any_eq_false]
        intro x hx
        obtain ⟨j, hj, e⟩ := List.getElem_of_mem hx
        have := HE.out j (by omega)
        rw [nth_get _ _ hj, e] at this
        rw [this]; decide
      go_wp2
      go_ret
      exact ⟨⟨_, rfl, by rw [HN.out]; rfl⟩, HB.out⟩

set_option maxHeartbeats 400000 in
theorem containsFnIn (A : Option Addr) (n c fid : Nat) (caps : Array Value) (f : Int → Bool) (xs : List Int) (w : World) (hn : n ≤ maxLen) (hx : Arr .i64 w w.heap.size A n xs) (hcall : ∀ args wx, Sem.run Try.prog (callFunc fid args) wx = .ok (.enter fid args) wx)
    (hF : ∀ x ∈ xs, ∀ wx, Below w.heap.size w wx → Calls Try.prog fid (#[.int .i64 x] ++ caps) wx (fun e w' => e = .returned (.bool (f x)) ∧ Below wx.heap.size wx w')) :
    Calls Try.prog 29 #[.slice A n c, .func (.func fid) #[] caps] w fun e w' => e = .returned (.bool (xs.any f)) ∧ Below w.heap.size w w' := by
  have HI := Lib.hid (indexFnIn A n c fid caps f xs w hn hx hcall hF)
  clear hF hx hcall
  go_enter Try.func29, Try.ntmps29
  go_wp2_with fail
  refine HI.out.mono ?_
  rintro e w' ⟨⟨r, rfl, hr⟩, hb⟩
  have HR := Lib.hid hr
  have HB := Lib.hid hb
  clear hr HI hb
  go_wp2
  go_ret
  exact ⟨by rw [← HR.out]; rfl, HB.out⟩
theorem containsFnR (A : Option Addr) (n c fid : Nat) (caps : Array Value) (f : Int → Bool) (xs : List Int) (w : World) (hn : n ≤ maxLen) (hx : Arr .i64 w w.heap.size A n xs) (hcall : ∀ args wx, Sem.run Try.prog (callFunc fid args) wx = .ok (.enter fid args) wx)
    (hF : ∀ x wx, Below w.heap.size w wx → Calls Try.prog fid (#[.int .i64 x] ++ caps) wx (fun e w' => e = .returned (.bool (f x)) ∧ Below wx.heap.size wx w')) :
    Calls Try.prog 29 #[.slice A n c, .func (.func fid) #[] caps] w fun e w' => e = .returned (.bool (xs.any f)) ∧ Below w.heap.size w w' :=
  containsFnIn A n c fid caps f xs w hn hx hcall fun x _ => hF x
set_option maxHeartbeats 400000 in
theorem lessNo_any (x y : Int) (w : World) (h : y ≤ x) : Calls Try.prog 71 #[.int .i64 x, .int .i64 y] w fun e w' => e = .returned (.bool false) ∧ w = w' := by
  have hN : ∀ z wx, Calls Try.prog 85 #[.int .i64 z] wx fun e w' => e = .returned (.bool false) ∧ wx = w' := by
    intro z wx
    have c1 : (z != z) = false := by simp
    go_enter Try.func85, Try.ntmps85
    go_wp2
    go_ret
    exact ⟨rfl, rfl⟩
  have HN := Lib.hid hN
  have c1 : (x < y) = False := eq_false (by omega)
  clear hN h
  go_enter Try.func71, Try.ntmps71
  go_wp2_with fail
  refine (HN.out _ _).mono ?_
  rintro e w1 ⟨rfl, rfl⟩
  go_wp2
  go_ret
  exact ⟨rfl, rfl⟩

theorem quiet_sameI {P : Program} {f : FuncId} {args : Array Value} {w : World} {n : Nat} {v : Value} (h : Calls P f args (w.drewN n) fun e w' => e = .returned v ∧ w.drewN n = w') :
    Calls P f args (w.drewN n) fun e w'' => e = .returned v ∧ ∃ m, w'' = w.drewN m := h.mono fun _ _ ⟨he, hm⟩ => ⟨he, n, hm.symm⟩

set_option maxHeartbeats 400000 in
theorem indexFnQ (A : Option Addr) (n c B fid : Nat) (caps : Array Value) (f : Int → Bool) (xs : List Int) (w : World) (hn : n ≤ maxLen) (hx : Arr .i64 w B A n xs) (hcall : ∀ args wx, Sem.run Try.prog (callFunc fid args) wx = .ok (.enter fid args) wx)
    (hF : ∀ x, Calls Try.prog fid (#[.int .i64 x] ++ caps) w (fun e w' => e = .returned (.bool (f x)) ∧ w = w')) :
    Calls Try.prog 53 #[.slice A n c, .func (.func fid) #[] caps] w fun e w' => (∃ r : Int, e = .returned (.int .i64 r) ∧ decide (0 ≤ r) = xs.any f) ∧ w = w' := by
  unfold maxLen at hn
  have hl := hx.1
  have HF := Lib.hid hF
  have HX := Lib.hid hx
  clear hF hx
  go_enter Try.func53, Try.ntmps53
  go_wp2
  go_loopw [8] (fun i wr => ∃ k : Nat, k ≤ n ∧ i = .int .i64 k ∧ Hid (∀ j, j < k → f (nth xs j) = false) ∧ w = wr) (fun i _ => n - (intOf i).toNat)
  case atStart => exact ⟨0, Nat.zero_le _, rfl, (fun j hj => absurd hj (by omega)), rfl⟩
  case round =>
    obtain ⟨k, hk, rfl, HE, rfl⟩ := hrel
    by_cases hlt : k < n
    · obtain ⟨b, off, rfl, hbB, hcs⟩ := HX.out.2.2 (by omega)
      have hc := hcs k hlt
      have HC := Lib.hid (HF.out (nth xs k))
      have HM : Hid (f (nth xs k) = true → xs.any f = true) := fun h => List.any_eq_true.2 ⟨_, nth_mem (by omega), h⟩
      have HEn : Hid (f (nth xs k) = false → ∀ j, j < k + 1 → f (nth xs j) = false) := fun h j hj => by
        rcases Nat.lt_succ_iff_lt_or_eq.1 hj with h1 | h1
        · exact HE.out j h1
        · rw [h1]; exact h
      clear hcs
      generalize nth xs k = X at *
      cases hf : f X
      · rw [hf] at HC
        have HN := Lib.hid (HEn.out hf)
        clear hf HM HEn
        go_wp2_with fail
        refine HC.out.mono ?_
        rintro e w1 ⟨rfl, rfl⟩
        go_wp2
        go_roundw
        case rel => exact ⟨k + 1, by omega, by go_num, HN, by trivial⟩
        case measure => simp [intOf]; omega
      · rw [hf] at HC
        have HN := Lib.hid (HM.out hf)
        clear hf HM HEn
        go_wp2_with fail
        refine HC.out.mono ?_
        rintro e w1 ⟨rfl, rfl⟩
        go_wp2
        go_ret
        exact ⟨⟨_, rfl, by rw [HN.out]; simp⟩, rfl⟩
    · obtain rfl : k = n := by omega
      have HN : Hid (xs.any f = false) := by
        show _ = _
        rw [List.any_eq_false]
        intro x hx
        obtain ⟨j, hj, e⟩ := List.getElem_of_mem hx
        have := HE.out j (by omega)
        rw [nth_get _ _ hj, e] at this
        rw [this]; decide
      go_wp2
      go_ret
      exact ⟨⟨_, rfl, by rw [HN.out]; rfl⟩, rfl⟩
set_option maxHeartbeats 400000 in
theorem containsFnQ (A : Option Addr) (n c B fid : Nat) (caps : Array Value) (f : Int → Bool) (xs : List Int) (w : World) (hn : n ≤ maxLen) (hx : Arr .i64 w B A n xs) (hcall : ∀ args wx, Sem.run Try.prog (callFunc fid args) wx = .ok (.enter fid args) wx)
    (hF : ∀ x, Calls Try.prog fid (#[.int .i64 x] ++ caps) w (fun e w' => e = .returned (.bool (f x)) ∧ w = w')) :
    Calls Try.prog 29 #[.slice A n c, .func (.func fid) #[] caps] w fun e w' => e = .returned (.bool (xs.any f)) ∧ w = w' := by
  have HI := Lib.hid (indexFnQ A n c B fid caps f xs w hn hx hcall hF)
  clear hF hx hcall
  go_enter Try.func29, Try.ntmps29
  go_wp2_with fail
  refine HI.out.mono ?_
  rintro e w' ⟨⟨r, rfl, hr⟩, rfl⟩
  have HR := Lib.hid hr
  clear hr HI
  go_wp2
  go_ret
  exact ⟨by rw [← HR.out]; rfl, rfl⟩

end Go.Proofs.Ytdglnbcliemafaa
