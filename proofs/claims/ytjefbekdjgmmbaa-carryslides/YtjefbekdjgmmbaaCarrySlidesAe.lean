/-
  Parts of the proof of CarrySlides: Ref.
-/
import Derived.Test.YtjefbekdjgmmbaaProg
import Derived.Outline
import Derived.OwnWalk
import Derived.StillTailTactics
import Derived.IntWalk
import Derived.Lib.SliceRun
import Derived.Test.YtjefbekdjgmmbaaCarrySlidesAb
namespace Go.Proofs.Ytjefbekdjgmmbaa
open Go.RowKit
theorem nth_ext {xs ys : List Int} (hl : xs.length = ys.length) (h : ∀ j, j < xs.length → nth xs j = nth ys j) : xs = ys := by
  apply List.ext_getElem hl
  intro i h1 h2
  have := h i h1
  simpa [nth, h1, h2] using this
set_option maxHeartbeats 400000 in
theorem equalInts (A A' : Option Addr) (n n' c c' B : Nat) (xs ys : List Int) (w : World) (hx : Arr .i64 w B A n xs) (hy : Arr .i64 w B A' n' ys) (hn : n ≤ maxLen) (hn' : n' ≤ maxLen) :
    Calls Try.prog 20 #[.slice A n c, .slice A' n' c'] w fun e w' => e = .returned (.bool (decide (xs = ys))) ∧ ∃ q, w.drewN q = w' := by
  unfold maxLen at hn hn'
  obtain ⟨hxl, _, hxc⟩ := hx
  obtain ⟨hyl, _, hyc⟩ := hy
  by_cases hne : n = n'
  · subst hne
    have HL : Hid (xs.length = ys.length) := hxl.trans hyl.symm
    have HX := Lib.hid hxl
    clear hxl hyl
    have ht : ((n : Int) != (n : Int)) = false := by simp
    go_enter Try.func20, Try.ntmps20
    go_wp2
    go_loopw [13] (fun i wr => ∃ k : Nat, k ≤ n ∧ i = .int .i64 k ∧ Hid (∀ j, j < k → nth xs j = nth ys j) ∧ ∃ q, w.drewN q = wr) (fun i _ => n - (intOf i).toNat)
    case atStart => exact ⟨0, Nat.zero_le _, rfl, (fun j hj => absurd hj (by omega)), 0, rfl⟩
    case round =>
      obtain ⟨k, hk, rfl, HE, q, rfl⟩ := hrel
      by_cases hlt : k < n
      · obtain ⟨b, off, rfl, _, hc⟩ := hxc (by omega)
        obtain ⟨b', off', rfl, _, hc'⟩ := hyc (by omega)
        have h1 : w.cell? ⟨b, off + k, none⟩ = some (.int .i64 (nth xs k)) := hc k hlt
        have h2 : w.cell? ⟨b', off' + k, none⟩ = some (.int .i64 (nth ys k)) := hc' k hlt
        clear hc hc' hxc hyc
        have hlt' : (k : Int) < (n : Int) := by omega
        generalize hX : nth xs k = X at *
        generalize hY : nth ys k = Y at *
        have HX' := Lib.hid hX
        have HY' := Lib.hid hY
        clear hX hY
        by_cases he : X = Y
        · have hb : (X != Y) = false := by simp [he]
          have HEQ := Lib.hid he
          clear he
          go_wp2
          go_quiet (fail)
          go_wp2
          go_roundw
          case rel => 
            refine ⟨k + 1, by omega, by go_num, fun j hj => ?_, _, rfl⟩
            rcases Nat.lt_succ_iff_lt_or_eq.1 hj with h | h
            · exact HE.out j h
            · rw [h, HX'.out, HY'.out]; exact HEQ.out
          case measure => simp [intOf]; omega
        · have hb : (X != Y) = true := by simp [he]
          have HR : Hid (decide (xs = ys) = false) := by
            have : xs ≠ ys := by
              intro e
              apply he
              rw [← HX'.out, ← HY'.out, e]
            show _ = _
            simpa using this
          go_wp2
          go_quiet (fail)
          go_wp2
          go_ret
          exact ⟨by rw [HR.out]; rfl, _, (World.drewN_drewN _ _ _).symm⟩
      · obtain rfl : k = n := by omega
        have HR : Hid (decide (xs = ys) = true) := by
          show _ = _
          have := nth_ext HL.out (fun j hj => HE.out j (by rw [HX.out] at hj; exact hj))
          simpa using this
        go_wp2
        go_ret
        exact ⟨by rw [HR.out]; rfl, _, rfl⟩
  · have ht : ((n : Int) != (n' : Int)) = true := by simp; omega
    have HR : Hid (decide (xs = ys) = false) := by
      show _ = _
      simp
      intro e
      rw [e] at hxl
      omega
    clear hxl hyl
    go_enter Try.func20, Try.ntmps20
    go_wp2
    go_ret
    exact ⟨by rw [HR.out]; rfl, 0, rfl⟩
set_option maxHeartbeats 400000 in
theorem equalWords (A A' : Option Addr) (n n' c c' B : Nat) (xs ys : List Int) (w : World) (hx : Arr .u64 w B A n xs) (hy : Arr .u64 w B A' n' ys) (hn : n ≤ maxLen) (hn' : n' ≤ maxLen) :
    Calls Try.prog 19 #[.slice A n c, .slice A' n' c'] w fun e w' => e = .returned (.bool (decide (xs = ys))) ∧ ∃ q, w.drewN q = w' := by
  unfold maxLen at hn hn'
  obtain ⟨hxl, _, hxc⟩ := hx
  obtain ⟨hyl, _, hyc⟩ := hy
  by_cases hne : n = n'
  · subst hne
    have HL : Hid (xs.length = ys.length) := hxl.trans hyl.symm
    have HX := Lib.hid hxl
    clear hxl hyl
    have ht : ((n : Int) != (n : Int)) = false := by simp
    go_enter Try.func19, Try.ntmps19
    go_wp2
    go_loopw [13] (fun i wr => ∃ k : Nat, k ≤ n ∧ i = .int .i64 k ∧ Hid (∀ j, j < k → nth xs j = nth ys j) ∧ ∃ q, w.drewN q = wr) (fun i _ => n - (intOf i).toNat)
    case atStart => exact ⟨0, Nat.zero_le _, rfl, (fun j hj => absurd hj (by omega)), 0, rfl⟩
    case round =>
      obtain ⟨k, hk, rfl, HE, q, rfl⟩ := hrel
      by_cases hlt : k < n
      · obtain ⟨b, off, rfl, _, hc⟩ := hxc (by omega)
        obtain ⟨b', off', rfl, _, hc'⟩ := hyc (by omega)
        have h1 : w.cell? ⟨b, off + k, none⟩ = some (.int .u64 (nth xs k)) := hc k hlt
        have h2 : w.cell? ⟨b', off' + k, none⟩ = some (.int .u64 (nth ys k)) := hc' k hlt
        clear hc hc' hxc hyc
        have hlt' : (k : Int) < (n : Int) := by omega
        generalize hX : nth xs k = X at *
        generalize hY : nth ys k = Y at *
        have HX' := Lib.hid hX
        have HY' := Lib.hid hY
        clear hX hY
        by_cases he : X = Y
        · have hb : (X != Y) = false := by simp [he]
          have HEQ := Lib.hid he
          clear he
          go_wp2
          go_quiet (fail)
          go_wp2
          go_roundw
          case rel => 
            refine ⟨k + 1, by omega, by go_num, fun j hj => ?_, _, rfl⟩
            rcases Nat.lt_succ_iff_lt_or_eq.1 hj with h | h
            · exact HE.out j h
            · rw [h, HX'.out, HY'.out]; exact HEQ.out
          case measure => simp [intOf]; omega
        · have hb : (X != Y) = true := by simp [he]
          have HR : Hid (decide (xs = ys) = false) := by
            have : xs ≠ ys := by
              intro e
              apply he
              rw [← HX'.out, ← HY'.out, e]
            show _ = _
            simpa using this
          go_wp2
          go_quiet (fail)
          go_wp2
          go_ret
          exact ⟨by rw [HR.out]; rfl, _, (World.drewN_drewN _ _ _).symm⟩
      · obtain rfl : k = n := by omega
        have HR : Hid (decide (xs = ys) = true) := by
          show _ = _
          have := nth_ext HL.out (fun j hj => HE.out j (by rw [HX.out] at hj; exact hj))
          simpa using this
        go_wp2
        go_ret
        exact ⟨by rw [HR.out]; rfl, _, rfl⟩
  · have ht : ((n : Int) != (n' : Int)) = true := by simp; omega
    have HR : Hid (decide (xs = ys) = false) := by
      show _ = _
      simp
      intro e
      rw [e] at hxl
      omega
    clear hxl hyl
    go_enter Try.func19, Try.ntmps19
    go_wp2
    go_ret
    exact ⟨by rw [HR.out]; rfl, 0, rfl⟩
theorem u64_info : (Try.prog.info? 47).map (fun i => (i.zero, i.size, i.bytes)) = some (some (.int .u64 0), 1, 8) := by kernel_rfl
theorem u64_one : (Try.prog.info? 47).map (·.size) = some 1 := by kernel_rfl
/-- Is the range of 'm' words from 'i' on valid for 'n' words? -/
def validB (n i m : Int) : Bool := decide (0 ≤ i ∧ i ≤ n ∧ 0 ≤ m ∧ m ≤ n - i)
theorem validB_true {n i m : Int} (h : 0 ≤ i ∧ i ≤ n ∧ 0 ≤ m ∧ m ≤ n - i) : validB n i m = true := by unfold validB; simpa using h
theorem validB_false {n i m : Int} (h : ¬ (0 ≤ i ∧ i ≤ n ∧ 0 ≤ m ∧ m ≤ n - i)) : validB n i m = false := by unfold validB; simpa using h
set_option maxHeartbeats 400000 in
theorem valid_any (n i m : Int) (w : World) (hn : -4611686018427387904 ≤ n ∧ n ≤ 9223372036854775807) (hi : (Lit.int .i64 i).wf = true) (hm : (Lit.int .i64 m).wf = true) :
    Calls Try.prog 68 #[.int .i64 n, .int .i64 i, .int .i64 m] w fun e w' => e = .returned (.bool (validB n i m)) ∧ w = w' := by
  rw [wf_i64] at hi hm
  obtain ⟨hn1, hn2⟩ := hn
  obtain ⟨hi1, hi2⟩ := hi
  obtain ⟨hm1, hm2⟩ := hm
  by_cases h0 : 0 ≤ i
  · by_cases h1 : i ≤ n
    · by_cases h2 : 0 ≤ m
      · by_cases h3 : m ≤ n - i
        · rw [validB_true ⟨h0, h1, h2, h3⟩]
          go_enter Try.func68, Try.ntmps68
          go_wp2
          go_ret
          exact ⟨rfl, rfl⟩
        · rw [validB_false (by omega)]
          have d3 : decide (m ≤ n - i) = false := by simp; omega
          go_enter Try.func68, Try.ntmps68
          go_wp2
          go_ret
          exact ⟨rfl, rfl⟩
      · rw [validB_false (by omega)]
        have d2 : decide (0 ≤ m) = false := by simp; omega
        go_enter Try.func68, Try.ntmps68
        go_wp2
        go_ret
        exact ⟨rfl, rfl⟩
    · rw [validB_false (by omega)]
      have d1 : decide (i ≤ n) = false := by simp; omega
      go_enter Try.func68, Try.ntmps68
      go_wp2
      go_ret
      exact ⟨rfl, rfl⟩
  · rw [validB_false (by omega)]
    have d0 : decide (0 ≤ i) = false := by simp; omega
    go_enter Try.func68, Try.ntmps68
    go_wp2
    go_ret
    exact ⟨rfl, rfl⟩
set_option maxHeartbeats 400000 in
theorem new_bad (n : Int) (w : World) (hi : (Lit.int .i64 n).wf = true) (hE : n < 0 ∨ 256 < n) :
    Calls Try.prog 73 #[.int .i64 n] w fun e w' => e = .returned (.tuple #[.slice none 0 0, .int .i64 4]) ∧ w = w' := by
  rw [wf_i64] at hi
  obtain ⟨hi1, hi2⟩ := hi
  by_cases h0 : n < 0
  · go_enter Try.func73, Try.ntmps73
    go_wp2
    go_ret2
    exact ⟨rfl, rfl⟩
  · have h1 : 256 < n := by omega
    clear hE
    go_enter Try.func73, Try.ntmps73
    go_wp2
    go_ret2
    exact ⟨rfl, rfl⟩
set_option maxHeartbeats 400000 in
theorem new_ok (n : Int) (w : World) (h0 : 0 ≤ n) (h1 : n ≤ 256) :
    Calls Try.prog 73 #[.int .i64 n] w fun e w' => e = .returned (.tuple #[.slice (some ⟨w.heap.size, 0, none⟩) n.toNat n.toNat, .int .i64 0]) ∧
      Whole .u64 47 w' w.heap.size (List.replicate n.toNat 0) ∧ Below w.heap.size w w' := by
  obtain ⟨m, rfl⟩ := Int.eq_ofNat_of_zero_le h0
  rw [Int.toNat_natCast]
  have hmk := fun wx => run_make_row' (P := Try.prog) 22 47 (.int .u64 0) 8 Try.underlying22 u64_info rfl .i64 .i64 m (by omega) (by omega) wx
  have hW1 : Whole .u64 47 (w.alloc (.cells (madeCells #[Value.int .u64 0] m) 47)) w.heap.size (List.replicate m 0) := by
    rw [made_replicate]
    exact whole_new .u64 47 w _ (fun z hz => by rw [List.eq_of_mem_replicate hz]; rfl)
  have H1 := Lib.hid hW1
  clear hW1
  have h2 : ¬ (256 : Int) < m := by omega
  go_enter Try.func73, Try.ntmps73
  go_wp2
  go_ret2
  exact ⟨rfl, H1.out, (Below.refl _ _).alloc (Nat.le_refl _) _⟩
theorem nth_splice_in (zs ys : List Int) (r k : Nat) (h1 : r ≤ k) (h2 : k < r + ys.length) (h3 : r ≤ zs.length) : nth (splice zs r ys) k = nth ys (k - r) := by
  unfold nth splice
  have e : (zs.take r).length = r := by simp; omega
  rw [List.getD_eq_getElem?_getD, List.getD_eq_getElem?_getD, List.getElem?_append_right (by omega), e, List.getElem?_append_left (by omega)]
theorem nth_splice_out (zs ys : List Int) (r k : Nat) (h1 : ¬ (r ≤ k ∧ k < r + ys.length)) (h3 : r + ys.length ≤ zs.length) : nth (splice zs r ys) k = nth zs k := by
  unfold nth splice
  have e : (zs.take r).length = r := by simp; omega
  rw [List.getD_eq_getElem?_getD, List.getD_eq_getElem?_getD]
  by_cases h : k < r
  · rw [List.getElem?_append_left (by omega), List.getElem?_take, if_pos h]
  · rw [List.getElem?_append_right (by omega), e, List.getElem?_append_right (by omega), List.getElem?_drop]
    congr 2
    omega
/-- What the reference's Clone gives. -/
def Cloned (n : Nat) (zs : List Int) (w : World) (e : Ending) (w' : World) : Prop := ∃ A c, e = .returned (.slice A n c) ∧ Own .u64 47 w' w.heap.size (.slice A n c) zs ∧ Below w.heap.size w w'
theorem Own.empty {k : IntKind} {e : TypeId} {w : World} {base : Nat} (hb : base ≤ w.heap.size) : Own k e (w.alloc (.cells #[] e)) base (.slice (some ⟨w.heap.size, 0, none⟩) 0 0) [] :=
  ⟨⟨by simp, .inr ⟨w.heap.size, 0, #[], rfl, hb, heap_alloc_new w _, Nat.le_refl _, by omega, by simp, by simp⟩⟩, fun x hx => by cases hx⟩
set_option maxHeartbeats 400000 in
theorem slicesClone_any (A : Option Addr) (n c : Nat) (zs : List Int) (w : World) (hn : n ≤ 256) (ha : Arr .u64 w w.heap.size A n zs) :
    Calls Try.prog 100 #[.slice A n c] w (Cloned n zs w) := by
  have hq := fun wx => Lib.run_eql_slice_nil (P := Try.prog) wx 22 47 A n c 0 0 Try.underlying22
  rcases A with _ | x
  · have h0 : n = 0 := by
      rcases Nat.eq_zero_or_pos n with h | h
      · exact h
      · obtain ⟨_, _, h, _⟩ := ha.2.2 h; cases h
    subst h0
    have h1 : zs = [] := List.eq_nil_of_length_eq_zero ha.1
    subst h1
    clear ha
    go_enter Try.func100, Try.ntmps100
    go_wp2
    go_ret
    exact ⟨none, 0, rfl, Own.nil, Below.refl _ _⟩
  · have hb1 : Below w.heap.size w (w.alloc (.cells #[] 47)) := (Below.refl _ _).alloc (Nat.le_refl _) _
    obtain ⟨v', w', hrun, hO, hB⟩ := (Own.empty (k := .u64) (e := 47) (w := w) (base := w.heap.size) (Nat.le_refl _)).cat (P := Try.prog) (t := 22) (ty := 22) (c := c) Try.underlying22 u64_info (by omega)
      (ha.below hb1 (Nat.le_refl _)) (by simp; omega) (by simp)
    simp only [List.nil_append] at hO
    obtain ⟨A', c', rfl, _, _⟩ := hO.arr
    have hl := ha.1
    rw [hl] at hrun hO
    have HP := Lib.hid hrun
    have HO := Lib.hid hO
    have HB := Lib.hid (hb1.trans hB)
    clear hrun hO hB ha hl hb1
    go_enter Try.func100, Try.ntmps100
    go_wp2_with (at_builtin; refine wpList_append_run rfl (.tmp 5) (.tmp 6) 22 rfl rfl rfl HP.out ?_)
    go_ret
    exact ⟨A', c', rfl, HO.out, HB.out⟩
end Go.Proofs.Ytjefbekdjgmmbaa
