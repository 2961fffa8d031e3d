/-
  The walk of RootTells: whatever the arguments and the memory, the call returns true and changes nothing that was there.
-/
import Derived.Test.YtdieokpfkojoiaaRootS
import Derived.Deep.DeepCutAuto
namespace Go.Proofs.Ytdieokpfkojoiaa
open Go.RowKit

/-- A list and an error: no list with an error. -/
def ListE (E : Int) (k : Nat) (xs : List Int) (w : World) (e : Ending) (w' : World) : Prop :=
  ∃ A m c, e = .returned (.tuple #[.slice A m c, .int .i64 E]) ∧ ((E ≠ 0 ∧ m = 0) ∨ (E = 0 ∧ m = k ∧ Arr .i64 w' w'.heap.size A k xs)) ∧ Below w.heap.size w w'
theorem noList_E {E : Int} {k : Nat} {xs : List Int} {w w' : World} {e : Ending} (hE : E ≠ 0) (h : NoList E w e w') : ListE E k xs w e w' := by
  obtain ⟨rfl, rfl⟩ := h
  exact ⟨_, _, _, rfl, .inl ⟨hE, rfl⟩, Below.refl _ _⟩
theorem newList_E {k : Nat} {xs : List Int} {w w' : World} {e : Ending} (hk : xs.length = k) (h : NewList xs w e w') : ListE 0 k xs w e w' := by
  obtain ⟨A, m, c, rfl, hm, hO, hb⟩ := h
  rw [hk] at hm
  subst hm
  exact ⟨_, _, _, rfl, .inr ⟨rfl, rfl, hO.arrM.2.2⟩, hb⟩
theorem rootSet_r (A : Option Addr) (k c : Nat) (n slot v : Int) (zs : List Int) (w : World) (hk : k ≤ maxLen) (ha : Arr .i64 w w.heap.size A k zs) :
    Calls Try.prog 18 #[.slice A k c, .int .i64 n, .int .i64 slot, .int .i64 v] w (ListE (setE n slot v zs) k (zs.set slot.toNat v) w) := by
  by_cases hE : setE n slot v zs = 0
  · rw [hE]
    exact (rootSet_ok A k c n slot v zs w ha hE).mono fun _ _ h => newList_E (by rw [List.length_set]; exact ha.1) h
  · exact (rootSet_bad A k c n slot v zs w hk ha hE).mono fun _ _ h => noList_E hE h
theorem rootSwap_r (A A' : Option Addr) (k c k' c' : Nat) (n : Int) (zs ts : List Int) (w : World) (hk : k ≤ maxLen) (hk' : k' ≤ maxLen) (ha : Arr .i64 w w.heap.size A k zs) (ht : Arr .i64 w w.heap.size A' k' ts) :
    Calls Try.prog 20 #[.slice A k c, .int .i64 n, .slice A' k' c'] w (ListE (swapE n zs ts) k (swapL zs ts) w) := by
  by_cases hE : swapE n zs ts = 0
  · rw [hE]
    exact (rootSwap_ok A A' k c k' c' n zs ts w ha ht hE).mono fun _ _ h => newList_E (by rw [swapL_len]; exact ha.1) h
  · exact (rootSwap_bad A A' k c k' c' n zs ts w hk hk' ha ht hE).mono fun _ _ h => noList_E hE h

/-- No slot may hold it. -/
def offR (n x : Int) : Bool := !inRoot n x
set_option maxHeartbeats 400000 in
theorem offR_any (x n : Int) (g : Nat) (w : World) (hc : w.cell? ⟨g, 0, none⟩ = some (.int .i64 n)) :
    Calls Try.prog 26 #[.int .i64 x, .pointer (some ⟨g, 0, none⟩)] w fun e w' => e = .returned (.bool (offR n x)) ∧ w = w' := by
  by_cases h1 : x < -1
  · have HR : Hid (offR n x = true) := by show _ = _; simp [offR, inRoot]; omega
    have c1 : (x < -1) = True := eq_true h1
    clear h1
    go_enter Try.func26, Try.ntmps26
    go_wp2
    go_ret
    exact ⟨by rw [HR.out]; rfl, rfl⟩
  · have c1 : (x < -1) = False := eq_false h1
    by_cases h2 : n ≤ x
    · have HR : Hid (offR n x = true) := by show _ = _; simp [offR, inRoot]; omega
      have c2 : (n ≤ x) = True := eq_true h2
      clear h1 h2
      go_enter Try.func26, Try.ntmps26
      go_wp2
      go_ret
      exact ⟨by rw [HR.out]; rfl, rfl⟩
    · have HR : Hid (offR n x = false) := by show _ = _; simp [offR, inRoot]; omega
      have c2 : (n ≤ x) = False := eq_false h2
      clear h1 h2
      go_enter Try.func26, Try.ntmps26
      go_wp2
      go_ret
      exact ⟨by rw [HR.out]; rfl, rfl⟩
theorem offR_ok {n : Int} {ts : List Int} (h : wordsE n ts = 0) : ts.any (offR n) = false := by
  rw [List.any_eq_false]
  intro x hx
  have := wordsE_ok.1 h x hx
  simp [offR, inRoot_iff.2 this]
theorem offR_no {n : Int} {ts : List Int} (h : wordsE n ts ≠ 0) : ts.any (offR n) = true := by
  cases hb : ts.any (offR n) with
  | true => rfl
  | false =>
    exfalso
    apply h
    rw [wordsE_ok]
    intro x hx
    have := List.any_eq_false.1 hb x hx
    simp only [offR, Bool.not_eq_true, Bool.not_eq_false'] at this
    exact inRoot_iff.1 this
theorem take_ok {n : Int} {ts : List Int} (hn : 0 ≤ n ∧ n ≤ 256) (h : wordsE n ts = 0) : rootE n (ts.take 32) = 0 :=
  rootE_ok.2 ⟨hn, by simp; omega, fun v hv => wordsE_ok.1 h v (List.mem_of_mem_take hv)⟩

set_option maxHeartbeats 400000 in
theorem indexFnQ (A : Option Addr) (n c B fid : Nat) (caps : Array Value) (f : Int → Bool) (xs : List Int) (w : World) (hn : n ≤ maxLen) (hx : Arr .i64 w B A n xs) (hcall : ∀ args wx, Sem.run Try.prog (callFunc fid args) wx = .ok (.enter fid args) wx)
    (hF : ∀ x, Calls Try.prog fid (#[.int .i64 x] ++ caps) w (fun e w' => e = .returned (.bool (f x)) ∧ w = w')) :
    Calls Try.prog 50 #[.slice A n c, .func (.func fid) #[] caps] w fun e w' => (∃ r : Int, e = .returned (.int .i64 r) ∧ decide (0 ≤ r) = xs.any f) ∧ w = w' := by
  unfold maxLen at hn
  have hl := hx.1
  have HF := Lib.hid hF
  have HX := Lib.hid hx
  clear hF hx
  go_enter Try.func50, Try.ntmps50
  go_wp2
  go_loopw [8] (fun i wr => ∃ k : Nat, k ≤ n ∧ i = .int .i64 k ∧ Hid (∀ j, j < k → f (nth xs j) = false) ∧ w = wr) (fun i _ => n - (intOf i).toNat)
  case atStart => exact ⟨0, Nat.zero_le _, rfl, (fun j hj => absurd hj (by omega)), rfl⟩
  case round =>
    obtain ⟨k, hk, rfl, HE, rfl⟩ := hrel
    by_cases hlt : k < n
    · obtain ⟨b, off, rfl, hbB, hcs⟩ := HX.out.2.2 (by omega)
      have hc := hcs k hlt
      have HC := Lib.hid (HF.out (nth xs k))
      have HM : Hid (f (nth xs k) = true → xs.any f = true) := fun h => List.any_eq_true.2 ⟨_, nth_mem (by omega), h⟩
      have HEn : Hid (f (nth xs k) = false → ∀ j, j < k + 1 → f (nth xs j) = false) := fun h j hj => by
        rcases Nat.lt_succ_iff_lt_or_eq.1 hj with h1 | h1
        · exact HE.out j h1
        · rw [h1]; exact h
      clear hcs
      generalize nth xs k = X at *
      cases hf : f X
      · rw [hf] at HC
        have HN := Lib.hid (HEn.out hf)
        clear hf HM HEn
        go_wp2_with fail
        refine HC.out.mono ?_
        rintro e w1 ⟨rfl, rfl⟩
        go_wp2
        go_roundw
        case rel => exact ⟨k + 1, by omega, by go_num, HN, by trivial⟩
        case measure => simp [intOf]; omega
      · rw [hf] at HC
        have HN := Lib.hid (HM.out hf)
        clear hf HM HEn
        go_wp2_with fail
        refine HC.out.mono ?_
        rintro e w1 ⟨rfl, rfl⟩
        go_wp2
        go_ret
        exact ⟨⟨_, rfl, by rw [HN.out]; simp⟩, rfl⟩
    · obtain rfl : k = n := by omega
      have HN : Hid (xs.any f = false) := by
        show _ = _
        rw [List.any_eq_false]
        intro x hx
        obtain ⟨j, hj, e⟩ := List.getElem_of_mem hx
        have := HE.out j (by omega)
        rw [nth_get _ _ hj, e] at this
        rw [this]; decide
      go_wp2
      go_ret
      exact ⟨⟨_, rfl, by rw [HN.out]; rfl⟩, rfl⟩
set_option maxHeartbeats 400000 in
theorem containsFnQ (A : Option Addr) (n c B fid : Nat) (caps : Array Value) (f : Int → Bool) (xs : List Int) (w : World) (hn : n ≤ maxLen) (hx : Arr .i64 w B A n xs) (hcall : ∀ args wx, Sem.run Try.prog (callFunc fid args) wx = .ok (.enter fid args) wx)
    (hF : ∀ x, Calls Try.prog fid (#[.int .i64 x] ++ caps) w (fun e w' => e = .returned (.bool (f x)) ∧ w = w')) :
    Calls Try.prog 25 #[.slice A n c, .func (.func fid) #[] caps] w fun e w' => e = .returned (.bool (xs.any f)) ∧ w = w' := by
  have HI := Lib.hid (indexFnQ A n c B fid caps f xs w hn hx hcall hF)
  clear hF hx hcall
  go_enter Try.func25, Try.ntmps25
  go_wp2_with fail
  refine HI.out.mono ?_
  rintro e w' ⟨⟨r, rfl, hr⟩, rfl⟩
  have HR := Lib.hid hr
  clear hr HI
  go_wp2
  go_ret
  exact ⟨by rw [← HR.out]; rfl, rfl⟩

theorem setE_bad {n slot v : Int} {zs : List Int} (h : rootE n zs ≠ 0) : setE n slot v zs = rootE n zs := by unfold setE; rw [if_pos h]
theorem swapE_bad {n : Int} {zs ts : List Int} (h : rootE n zs ≠ 0) : swapE n zs ts = rootE n zs := by unfold swapE; rw [if_pos h]

set_option maxHeartbeats 1000000 in
set_option maxRecDepth 8000 in
theorem rootTells_bad (A A' : Option Addr) (k c k' c' : Nat) (n slot v : Int) (zs ts : List Int) (w : World) (hk : k ≤ maxLen) (hk' : k' ≤ maxLen) (ha : Arr .i64 w w.heap.size A k zs) (ht : Arr .i64 w w.heap.size A' k' ts) (hE : rootE n zs ≠ 0) :
    Calls Try.prog 4 #[.slice A k c, .int .i64 n, .int .i64 slot, .int .i64 v, .slice A' k' c'] w fun e w' => e = .returned (.bool true) ∧ Below w.heap.size w w' := by
  have hb0 := (Below.refl _ w).alloc (Nat.le_refl _) (.cells #[.int .i64 n] 3)
  have c0 : (w.alloc (.cells #[.int .i64 n] 3)).cell? ⟨w.heap.size, 0, none⟩ = some (.int .i64 n) := (Box.new w 3 #[.int .i64 n]).cell 0
  have HA := Lib.hid ((ha.below hb0 (Nat.le_refl _)).more hb0.size)
  have HT := Lib.hid ((ht.below hb0 (Nat.le_refl _)).more hb0.size)
  have HB := Lib.hid hb0
  have HS := Lib.hid (rootSet_bad A k c n slot v zs _ hk HA.out (by rw [setE_bad hE]; exact hE))
  have HN := Lib.hid (rootNamed_bad A k c n zs _ hk HA.out hE)
  have HW := Lib.hid (rootSwap_bad A A' k c k' c' n zs ts _ hk hk' HA.out HT.out (by rw [swapE_bad hE]; exact hE))
  have HF := Lib.hid (rootsFault_any A k c _ n zs _ hk HA.out)
  have HC := Lib.hid (rootCheck_any A k c _ n zs _ hk HA.out)
  rw [setE_bad hE] at HS
  rw [swapE_bad hE] at HW
  clear ha ht hb0
  generalize rootE n zs = E at *
  have c1 : (E != E) = false := by simp
  have c2 : (E != 0) = true := by simpa using hE
  have c3 : (E == E) = true := by simp
  clear hE
  go_enter Try.func4, Try.ntmps4
  go_wp2_with fail
  refine HS.out.mono ?_
  rintro e w1 ⟨rfl, rfl⟩
  go_wp2_with fail
  refine HN.out.mono ?_
  rintro e w1 ⟨rfl, rfl⟩
  go_wp2_with fail
  refine HW.out.mono ?_
  rintro e w1 ⟨rfl, rfl⟩
  go_wp2_with fail
  refine HF.out.mono ?_
  rintro e w1 ⟨rfl, rfl⟩
  go_wp2_with fail
  refine HC.out.mono ?_
  rintro e w1 ⟨rfl, rfl⟩
  go_wp2
  go_ret
  exact ⟨rfl, HB.out⟩
end Go.Proofs.Ytdieokpfkojoiaa
