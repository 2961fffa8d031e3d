/-
  Parts of the proof of SameForms: Good.
-/
import Derived.Test.YtjefbekdjgmmbaaProg
import Derived.Outline
import Derived.Test.YtjefbekdjgmmbaaSameFormsAa
namespace Go.Proofs.Ytjefbekdjgmmbaa
open Go.RowKit
/-- Is one of the numbers not 0? -/
def bad (xs : List Int) : Bool := xs.any (· != 0)
theorem bad_true {xs : List Int} {k : Nat} (h : k < xs.length) (hz : nth xs k ≠ 0) : bad xs = true := by
  unfold bad
  rw [List.any_eq_true]
  exact ⟨xs[k], List.getElem_mem h, by rw [nth_get _ _ h] at hz; simpa using hz⟩
theorem bad_false {xs : List Int} (h : ∀ j, j < xs.length → nth xs j = 0) : bad xs = false := by
  unfold bad
  rw [List.any_eq_false]
  intro x hx
  obtain ⟨i, hi, rfl⟩ := List.getElem_of_mem hx
  have := h i hi
  rw [nth_get _ _ hi] at this
  simpa using this
/-- The answer of IndexFunc: not negative just if there is one. -/
def Found (xs : List Int) (w : World) (e : Ending) (w' : World) : Prop := ∃ r : Int, e = .returned (.int .i64 r) ∧ decide (0 ≤ r) = bad xs ∧ w = w'
set_option maxHeartbeats 400000 in
theorem isBad_any (x : Int) (w : World) : Calls Try.prog 66 #[.int .i64 x] w fun e w' => e = .returned (.bool (x != 0)) ∧ w = w' := by
  go_enter Try.func66, Try.ntmps66
  go_wp2
  go_ret
  exact ⟨rfl, rfl⟩
set_option maxHeartbeats 400000 in
theorem index_any (A : Option Addr) (n c B : Nat) (xs : List Int) (w : World) (hn : n ≤ maxLen) (hx : Arr .i64 w B A n xs) :
    Calls Try.prog 97 #[.slice A n c, .func (.func 66) #[] #[]] w (Found xs w) := by
  unfold maxLen at hn
  obtain ⟨hl, _, hc⟩ := hx
  have HL := Lib.hid hl
  clear hl
  go_enter Try.func97, Try.ntmps97
  go_wp2
  go_loop [8] (fun i => ∃ k : Nat, k ≤ n ∧ i = .int .i64 k ∧ Hid (∀ j, j < k → nth xs j = 0)) (fun i => n - (intOf i).toNat)
  case atStart => exact ⟨0, Nat.zero_le _, rfl, fun j hj => absurd hj (by omega)⟩
  case round =>
    obtain ⟨k, hk, rfl, HE⟩ := hrel
    by_cases hlt : k < n
    · obtain ⟨b, off, rfl, _, hcell⟩ := hc (by omega)
      have h1 := hcell k hlt
      clear hcell hc
      have hlt' : (k : Int) < (n : Int) := by omega
      generalize hX : nth xs k = X at *
      have HX := Lib.hid hX
      clear hX
      by_cases he : X = 0
      · have hb : (X != 0) = false := by simp [he]
        have HE0 := Lib.hid he
        clear he
        go_wp2_with fail
        refine (isBad_any X _).mono ?_
        rintro e w' ⟨rfl, rfl⟩
        go_wp2
        go_round
        case rel =>
          refine ⟨k + 1, by omega, by go_num, fun j hj => ?_⟩
          rcases Nat.lt_succ_iff_lt_or_eq.1 hj with h | h
          · exact HE.out j h
          · rw [h, HX.out]; exact HE0.out
        case measure => simp [intOf]; omega
      · have hb : (X != 0) = true := by simp [he]
        have HR : Hid (decide (0 ≤ (k : Int)) = bad xs) := by
          show _ = _
          rw [bad_true (k := k) (by have := HL.out; omega) (by rw [HX.out]; exact he)]
          simp
        clear he
        go_wp2_with fail
        refine (isBad_any X _).mono ?_
        rintro e w' ⟨rfl, rfl⟩
        go_wp2
        go_ret
        exact ⟨_, rfl, HR.out, rfl⟩
    · obtain rfl : k = n := by omega
      have HR : Hid (decide (0 ≤ (-1 : Int)) = bad xs) := by
        show _ = _
        rw [bad_false (fun j hj => HE.out j (by have := HL.out; omega))]
        rfl
      go_wp2
      go_ret
      exact ⟨_, rfl, HR.out, rfl⟩
set_option maxHeartbeats 400000 in
theorem contains_any (A : Option Addr) (n c B : Nat) (xs : List Int) (w : World) (hn : n ≤ maxLen) (hx : Arr .i64 w B A n xs) :
    Calls Try.prog 65 #[.slice A n c, .func (.func 66) #[] #[]] w fun e w' => e = .returned (.bool (bad xs)) ∧ w = w' := by
  go_enter Try.func65, Try.ntmps65
  go_wp2_with fail
  refine (index_any A n c B xs _ hn hx).mono ?_
  rintro e w' ⟨r, rfl, hr, rfl⟩
  clear hx
  go_wp2
  go_ret
  exact ⟨rfl, rfl⟩
set_option maxHeartbeats 400000 in
theorem good_any (A : Option Addr) (n c B : Nat) (xs : List Int) (w : World) (hn : n ≤ maxLen) (hx : Arr .i64 w B A n xs) :
    Calls Try.prog 29 #[.slice A n c] w fun e w' => e = .returned (.bool (!bad xs)) ∧ w = w' := by
  go_enter Try.func29, Try.ntmps29
  go_wp2_with fail
  refine (contains_any A n c B xs _ hn hx).mono ?_
  rintro e w' ⟨rfl, rfl⟩
  go_wp2
  go_ret
  exact ⟨rfl, rfl⟩
theorem zeros_good (t : TypeId) (w : World) (n : Nat) : ∀ cs, cs = ((List.replicate n (0 : Int)).map (Value.int .i64)).toArray → Arr .i64 (w.alloc (.cells cs t)) (w.heap.size + 1) (some ⟨w.heap.size, 0, none⟩) n (List.replicate n 0) := by
  rintro cs rfl
  have h := (whole_new .i64 t w (List.replicate n 0) (by intro z hz; rw [(List.mem_replicate.1 hz).2]; decide)).arr (B := w.heap.size + 1) (by omega)
  simpa using h
end Go.Proofs.Ytjefbekdjgmmbaa
