/-
  Contracts of package root, and of slices.Clone at []int.
-/
import Derived.Test.YtdieokpfkojoiaaRootM
import Derived.Test.YtdieokpfkojoiaaEq
import Derived.Lib.SliceRun
namespace Go.Proofs.Ytdieokpfkojoiaa
open Go.RowKit

theorem intI_info : (Try.prog.info? 3).map (fun i => (i.zero, i.size, i.bytes)) = some (some (.int .i64 0), 1, 8) := by kernel_rfl
theorem Own.emptyI {w : World} {base : Nat} (hb : base ≤ w.heap.size) : Own .i64 3 (w.alloc (.cells #[] 3)) base (.slice (some ⟨w.heap.size, 0, none⟩) 0 0) [] :=
  ⟨⟨by simp, .inr ⟨w.heap.size, 0, #[], rfl, hb, heap_alloc_new w _, Nat.le_refl _, by omega, by simp, by simp⟩⟩, fun x hx => by cases hx⟩

/-- What slices.Clone answers. -/
def ClonedI (n : Nat) (zs : List Int) (w : World) (e : Ending) (w' : World) : Prop := ∃ A c, e = .returned (.slice A n c) ∧ Own .i64 3 w' w.heap.size (.slice A n c) zs ∧ Below w.heap.size w w'

set_option maxHeartbeats 400000 in
theorem cloneI_any (A : Option Addr) (n c : Nat) (zs : List Int) (w : World) (hn : n ≤ 256) (ha : Arr .i64 w w.heap.size A n zs) :
    Calls Try.prog 45 #[.slice A n c] w (ClonedI n zs w) := by
  have hq := fun wx => Lib.run_eql_slice_nil (P := Try.prog) wx 45 3 A n c 0 0 Try.underlying45
  rcases A with _ | x
  · have h0 : n = 0 := by
      rcases Nat.eq_zero_or_pos n with h | h
      · exact h
      · obtain ⟨_, _, h, _⟩ := ha.2.2 h; cases h
    subst h0
    have h1 : zs = [] := List.eq_nil_of_length_eq_zero ha.1
    subst h1
    clear ha
    go_enter Try.func45, Try.ntmps45
    go_wp2
    go_ret
    exact ⟨none, 0, rfl, Own.nil, Below.refl _ _⟩
  · have hb1 : Below w.heap.size w (w.alloc (.cells #[] 3)) := (Below.refl _ _).alloc (Nat.le_refl _) _
    obtain ⟨v', w', hrun, hO, hB⟩ := (Own.emptyI (w := w) (base := w.heap.size) (Nat.le_refl _)).cat (P := Try.prog) (t := 45) (ty := 45) (c := c) Try.underlying45 intI_info (by omega)
      (ha.below hb1 (Nat.le_refl _)) (by simp; omega) (by simp)
    simp only [List.nil_append] at hO
    obtain ⟨A', c', rfl, _, _⟩ := hO.arr
    have hl := ha.1
    rw [hl] at hrun hO
    have HP := Lib.hid hrun
    have HO := Lib.hid hO
    have HB := Lib.hid (hb1.trans hB)
    clear hrun hO hB ha hl hb1
    go_enter Try.func45, Try.ntmps45
    go_wp2_with (at_builtin; refine wpList_append_run rfl (.tmp 5) (.tmp 6) 45 rfl rfl rfl HP.out ?_)
    go_ret
    exact ⟨A', c', rfl, HO.out, HB.out⟩

set_option maxHeartbeats 400000 in
theorem isWord_any (v n : Int) (w : World) : Calls Try.prog 44 #[.int .i64 v, .int .i64 n] w fun e w' => e = .returned (.bool (inRoot n v)) ∧ w = w' := by
  by_cases h1 : -1 ≤ v
  · have c1 : (-1 ≤ v) = True := eq_true h1
    by_cases h2 : v < n
    · have HR : Hid (inRoot n v = true) := inRoot_iff.2 ⟨h1, h2⟩
      have c2 : (v < n) = True := eq_true h2
      clear h1 h2
      go_enter Try.func44, Try.ntmps44
      go_wp2
      go_ret
      exact ⟨by rw [HR.out]; rfl, rfl⟩
    · have HR : Hid (inRoot n v = false) := by show _ = _; simp [inRoot]; omega
      have c2 : (v < n) = False := eq_false h2
      clear h1 h2
      go_enter Try.func44, Try.ntmps44
      go_wp2
      go_ret
      exact ⟨by rw [HR.out]; rfl, rfl⟩
  · have HR : Hid (inRoot n v = false) := by show _ = _; simp [inRoot]; omega
    have c1 : (-1 ≤ v) = False := eq_false h1
    clear h1
    go_enter Try.func44, Try.ntmps44
    go_wp2
    go_ret
    exact ⟨by rw [HR.out]; rfl, rfl⟩

set_option maxHeartbeats 400000 in
theorem checkWords_any (A : Option Addr) (k c B : Nat) (n : Int) (zs : List Int) (w : World) (hk : k ≤ maxLen) (ha : Arr .i64 w B A k zs) :
    Calls Try.prog 48 #[.slice A k c, .int .i64 n] w fun e w' => e = .returned (.int .i64 (wordsE n zs)) ∧ w = w' := by
  unfold maxLen at hk
  have hl := ha.1
  have HA := Lib.hid ha
  clear ha
  go_enter Try.func48, Try.ntmps48
  go_wp2
  go_loopw [9] (fun i wr => ∃ j : Nat, j ≤ k ∧ i = .int .i64 j ∧ Hid (∀ i, i < j → inRoot n (nth zs i) = true) ∧ w = wr) (fun i _ => k - (intOf i).toNat)
  case atStart => exact ⟨0, Nat.zero_le _, rfl, (fun j hj => absurd hj (by omega)), rfl⟩
  case round =>
    obtain ⟨j, hj, rfl, HE, rfl⟩ := hrel
    by_cases hlt : j < k
    · obtain ⟨b, off, rfl, _, hcs⟩ := HA.out.2.2 (by omega)
      have hc := hcs j hlt
      clear hcs
      have HC := Lib.hid (isWord_any (nth zs j) n w)
      cases hf : inRoot n (nth zs j)
      · have HR : Hid (wordsE n zs = 4) := by
          show _ = _
          rcases wordsE_or n zs with h | h
          · have := inRoot_iff.2 (wordsE_ok.1 h _ (nth_mem (l := zs) (j := j) (by omega)))
            rw [this] at hf; cases hf
          · exact h
        rw [hf] at HC
        clear hf
        generalize nth zs j = X at *
        go_wp2_with fail
        refine HC.out.mono ?_
        rintro e w1 ⟨rfl, rfl⟩
        go_wp2
        go_ret
        exact ⟨by rw [HR.out]; rfl, rfl⟩
      · have HN : Hid (∀ i, i < j + 1 → inRoot n (nth zs i) = true) := fun i hi => by
          rcases Nat.lt_succ_iff_lt_or_eq.1 hi with h | h
          · exact HE.out i h
          · rw [h]; exact hf
        rw [hf] at HC
        clear hf
        generalize nth zs j = X at *
        go_wp2_with fail
        refine HC.out.mono ?_
        rintro e w1 ⟨rfl, rfl⟩
        go_wp2
        go_roundw
        case rel => exact ⟨j + 1, by omega, by go_num, HN, by trivial⟩
        case measure => simp [intOf]; omega
    · obtain rfl : j = k := by omega
      have HR : Hid (wordsE n zs = 0) := by
        show _ = _
        rw [wordsE_ok]
        intro v hv
        obtain ⟨i, hi, rfl⟩ := List.getElem_of_mem hv
        have := HE.out i (by omega)
        rw [nth_get _ _ hi] at this
        exact inRoot_iff.1 this
      go_wp2
      go_ret
      exact ⟨by rw [HR.out]; rfl, rfl⟩

set_option maxHeartbeats 400000 in
theorem rootCheck_any (A : Option Addr) (k c B : Nat) (n : Int) (zs : List Int) (w : World) (hk : k ≤ maxLen) (ha : Arr .i64 w B A k zs) :
    Calls Try.prog 22 #[.slice A k c, .int .i64 n] w fun e w' => e = .returned (.int .i64 (rootE n zs)) ∧ w = w' := by
  have HC := Lib.hid (checkWords_any A k c B n zs w hk ha)
  have hl := ha.1
  unfold maxLen at hk
  unfold rootE
  rw [hl]
  clear ha hl
  generalize wordsE n zs = E at *
  by_cases h1 : n < 0
  · have c1 : (n < 0) = True := eq_true h1
    rw [if_pos (.inl h1)]
    clear h1
    go_enter Try.func22, Try.ntmps22
    go_wp2
    go_ret
    exact ⟨rfl, rfl⟩
  · have c1 : (n < 0) = False := eq_false h1
    by_cases h2 : 256 < n
    · have c2 : (256 < n) = True := eq_true h2
      rw [if_pos (.inr h2)]
      clear h1 h2
      go_enter Try.func22, Try.ntmps22
      go_wp2
      go_ret
      exact ⟨rfl, rfl⟩
    · have c2 : (256 < n) = False := eq_false h2
      rw [if_neg (by omega)]
      clear h1 h2
      by_cases h3 : 32 < k
      · have c3 : ((32 : Int) < (k : Int)) = True := eq_true (by omega)
        rw [if_pos h3]
        clear h3
        go_enter Try.func22, Try.ntmps22
        go_wp2
        go_ret
        exact ⟨rfl, rfl⟩
      · have c3 : ((32 : Int) < (k : Int)) = False := eq_false (by omega)
        rw [if_neg h3]
        clear h3
        go_enter Try.func22, Try.ntmps22
        go_wp2_with fail
        refine HC.out.mono ?_
        rintro e w1 ⟨rfl, rfl⟩
        go_wp2
        go_ret
        exact ⟨rfl, rfl⟩
end Go.Proofs.Ytdieokpfkojoiaa
