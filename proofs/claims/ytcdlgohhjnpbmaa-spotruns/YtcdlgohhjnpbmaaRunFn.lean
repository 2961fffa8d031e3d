/-
  Contracts of functions over slices of runs: slices.IndexFunc, slices.ContainsFunc (with a function that has one captured variable), slices.Equal.
-/
import Derived.Test.YtcdlgohhjnpbmaaRunM
import Derived.Test.YtcdlgohhjnpbmaaEq
namespace Go.Proofs.Ytcdlgohhjnpbmaa
open Go.RowKit

theorem ArrG.run {w : World} {B n : Nat} {A : Option Addr} {l : List (Int × Int)} (h : ArrG runC 2 w B A n l) {j : Nat} (hj : j < n) :
    ∃ b off, A = some ⟨b, off, none⟩ ∧ b < B ∧ w.cell? ⟨b, off + j * 2, none⟩ = some (.int .i64 (nthG l j).1) ∧ w.cell? ⟨b, off + j * 2 + 1, none⟩ = some (.int .i64 (nthG l j).2) := by
  obtain ⟨b, off, e, hb, hc⟩ := h.at_ hj
  exact ⟨b, off, e, hb, hc 0 (by omega), hc 1 (by omega)⟩
theorem any_true {f : Nat → Bool} {n k : Nat} (hk : k < n) (h : f k = true) : (List.range n).any f = true := List.any_eq_true.2 ⟨k, List.mem_range.2 hk, h⟩
theorem any_false {f : Nat → Bool} {n : Nat} (h : ∀ j, j < n → f j = false) : (List.range n).any f = false := by
  rw [List.any_eq_false]; intro j hj; rw [h j (List.mem_range.1 hj)]; decide

/-- The answer of IndexFunc: the first number that the rule marks, -1 if none. -/
def FoundAt (n : Nat) (f : Nat → Bool) (w : World) (e : Ending) (w' : World) : Prop := ∃ r : Int, e = .returned (.int .i64 r) ∧ Below w.heap.size w w' ∧
  ((∃ k : Nat, r = k ∧ k < n ∧ f k = true ∧ ∀ j, j < k → f j = false) ∨ (r = -1 ∧ ∀ j, j < n → f j = false))

set_option maxHeartbeats 400000 in
theorem indexRun (A : Option Addr) (n c B fid : Nat) (p : Addr) (l : List (Int × Int)) (f : Nat → Bool) (w : World) (hn : n ≤ maxLen) (hB0 : B ≤ w.heap.size) (hx : ArrG runC 2 w B A n l) (hcall : ∀ args wx, Sem.run Try.prog (callFunc fid args) wx = .ok (.enter fid args) wx)
    (hF : ∀ wx, Below w.heap.size w wx → ∀ j, j < n → Calls Try.prog fid #[.agg #[.int .i64 (nthG l j).1, .int .i64 (nthG l j).2], .pointer (some p)] wx (fun e w' => e = .returned (.bool (f j)) ∧ Below wx.heap.size wx w')) :
    Calls Try.prog 58 #[.slice A n c, .func (.func fid) #[] #[.pointer (some p)]] w (FoundAt n f w) := by
  unfold maxLen at hn
  have HF := Lib.hid hF
  clear hF
  go_enter Try.func58, Try.ntmps58
  go_wp2
  go_loopw [8] (fun i wr => ∃ k : Nat, k ≤ n ∧ i = .int .i64 k ∧ Hid (∀ j, j < k → f j = false) ∧ Below w.heap.size w wr) (fun i _ => n - (intOf i).toNat)
  case atStart => exact ⟨0, Nat.zero_le _, rfl, (fun j hj => absurd hj (by omega)), Below.refl _ _⟩
  case round =>
    obtain ⟨k, hk, rfl, HE, hB⟩ := hrel
    by_cases hlt : k < n
    · obtain ⟨b, off, rfl, hbB, hc0, hc1⟩ := (hx.below hB hB0).run hlt
      have hC := HF.out wr hB k hlt
      have HC := Lib.hid hC
      have HB := Lib.hid hB
      clear hC hB hx
      generalize (nthG l k).1 = X at *
      generalize (nthG l k).2 = Y at *
      cases hf : f k
      · rw [hf] at HC
        have Hf := Lib.hid hf
        clear hf
        go_wp2_with fail
        refine HC.out.mono ?_
        rintro e w1 ⟨rfl, hb1⟩
        have HB1 := Lib.hid (HB.out.trans (hb1.mono HB.out.size))
        clear hb1
        go_wp2
        go_roundw
        case rel =>
          refine ⟨k + 1, by omega, by go_num, fun j hj => ?_, HB1.out⟩
          rcases Nat.lt_succ_iff_lt_or_eq.1 hj with h | h
          · exact HE.out j h
          · rw [h]; exact Hf.out
        case measure => simp [intOf]; omega
      · rw [hf] at HC
        have Hf := Lib.hid hf
        clear hf
        go_wp2_with fail
        refine HC.out.mono ?_
        rintro e w1 ⟨rfl, hb1⟩
        have HB1 := Lib.hid (HB.out.trans (hb1.mono HB.out.size))
        clear hb1
        go_wp2
        go_ret
        exact ⟨_, rfl, HB1.out, .inl ⟨k, rfl, hlt, Hf.out, HE.out⟩⟩
    · obtain rfl : k = n := by omega
      have HB := Lib.hid hB
      clear hB hx
      go_wp2
      go_ret
      exact ⟨_, rfl, HB.out, .inr ⟨rfl, HE.out⟩⟩

set_option maxHeartbeats 400000 in
theorem containsRun (A : Option Addr) (n c B fid : Nat) (p : Addr) (l : List (Int × Int)) (f : Nat → Bool) (w : World) (hn : n ≤ maxLen) (hB0 : B ≤ w.heap.size) (hx : ArrG runC 2 w B A n l) (hcall : ∀ args wx, Sem.run Try.prog (callFunc fid args) wx = .ok (.enter fid args) wx)
    (hF : ∀ wx, Below w.heap.size w wx → ∀ j, j < n → Calls Try.prog fid #[.agg #[.int .i64 (nthG l j).1, .int .i64 (nthG l j).2], .pointer (some p)] wx (fun e w' => e = .returned (.bool (f j)) ∧ Below wx.heap.size wx w')) :
    Calls Try.prog 30 #[.slice A n c, .func (.func fid) #[] #[.pointer (some p)]] w fun e w' => e = .returned (.bool ((List.range n).any f)) ∧ Below w.heap.size w w' := by
  have HI := Lib.hid (indexRun A n c B fid p l f w hn hB0 hx hcall hF)
  clear hF hx hcall
  go_enter Try.func30, Try.ntmps30
  go_wp2_with fail
  refine HI.out.mono ?_
  rintro e w' ⟨r, rfl, hB, hr⟩
  have HB := Lib.hid hB
  have HR : Hid (decide (0 ≤ r) = (List.range n).any f) := by
    show _ = _
    rcases hr with ⟨k, rfl, hk, hf, _⟩ | ⟨rfl, h⟩
    · rw [any_true hk hf]; simp
    · rw [any_false h]; rfl
  clear hB hr HI
  go_wp2
  go_ret
  exact ⟨by rw [← HR.out]; rfl, HB.out⟩

theorem nthG_ext {α : Type} [Inhabited α] {xs ys : List α} (hl : xs.length = ys.length) (h : ∀ j, j < xs.length → nthG xs j = nthG ys j) : xs = ys := by
  apply List.ext_getElem hl
  intro i h1 h2
  have := h i h1
  simpa [nthG, h1, h2] using this

set_option maxHeartbeats 400000 in
theorem equalRuns (A A' : Option Addr) (n n' c c' B : Nat) (xs ys : List (Int × Int)) (w : World) (hx : ArrG runC 2 w B A n xs) (hy : ArrG runC 2 w B A' n' ys) (hn : n ≤ maxLen) (hn' : n' ≤ maxLen) :
    Calls Try.prog 20 #[.slice A n c, .slice A' n' c'] w fun e w' => e = .returned (.bool (decide (xs = ys))) ∧ ∃ q, w.drewN q = w' := by
  unfold maxLen at hn hn'
  by_cases hne : n = n'
  · subst hne
    have HL : Hid (xs.length = ys.length) := hx.1.trans hy.1.symm
    have HX := Lib.hid hx.1
    have ht : ((n : Int) != (n : Int)) = false := by simp
    go_enter Try.func20, Try.ntmps20
    go_wp2
    go_loopw [13] (fun i wr => ∃ k : Nat, k ≤ n ∧ i = .int .i64 k ∧ Hid (∀ j, j < k → nthG xs j = nthG ys j) ∧ ∃ q, w.drewN q = wr) (fun i _ => n - (intOf i).toNat)
    case atStart => exact ⟨0, Nat.zero_le _, rfl, (fun j hj => absurd hj (by omega)), 0, rfl⟩
    case round =>
      obtain ⟨k, hk, rfl, HE, q, rfl⟩ := hrel
      by_cases hlt : k < n
      · obtain ⟨b, off, rfl, _, hc0, hc1⟩ := hx.run hlt
        obtain ⟨b', off', rfl, _, hd0, hd1⟩ := hy.run hlt
        have hlt' : (k : Int) < (n : Int) := by omega
        clear hx hy
        have HK : Hid (nthG xs k = nthG ys k ↔ ((nthG xs k).1 = (nthG ys k).1 ∧ (nthG xs k).2 = (nthG ys k).2)) := Prod.ext_iff
        generalize hX : (nthG xs k).1 = X at *
        generalize hY : (nthG ys k).1 = Y at *
        generalize hU : (nthG xs k).2 = U at *
        generalize hV : (nthG ys k).2 = V at *
        clear hX hY hU hV
        by_cases he : X = Y ∧ U = V
        · have HEQ := Lib.hid he
          obtain ⟨rfl, rfl⟩ := he
          go_wp2
          go_quiet (fail)
          go_wp2
          go_roundw
          case rel =>
            refine ⟨k + 1, by omega, by go_num, fun j hj => ?_, _, rfl⟩
            rcases Nat.lt_succ_iff_lt_or_eq.1 hj with h | h
            · exact HE.out j h
            · rw [h]; exact HK.out.2 HEQ.out
          case measure => simp [intOf]; omega
        · have HR : Hid (decide (xs = ys) = false) := by
            show _ = _
            have : xs ≠ ys := fun e => he (HK.out.1 (by rw [e]))
            simpa using this
          by_cases h1 : X = Y
          · have h2 : (U == V) = false := by simpa [h1] using he
            subst h1
            clear he
            go_wp2
            go_quiet (fail)
            go_wp2
            go_ret
            exact ⟨by rw [HR.out]; rfl, _, (World.drewN_drewN _ _ _).symm⟩
          · have h2 : (X == Y) = false := by simpa using h1
            clear he
            go_wp2
            go_quiet (fail)
            go_wp2
            go_ret
            exact ⟨by rw [HR.out]; rfl, _, (World.drewN_drewN _ _ _).symm⟩
      · obtain rfl : k = n := by omega
        have HR : Hid (decide (xs = ys) = true) := by
          show _ = _
          have := nthG_ext HL.out (fun j hj => HE.out j (by rw [HX.out] at hj; exact hj))
          simpa using this
        clear hx hy
        go_wp2
        go_ret
        exact ⟨by rw [HR.out]; rfl, _, rfl⟩
  · have ht : ((n : Int) != (n' : Int)) = true := by simp; omega
    have HR : Hid (decide (xs = ys) = false) := by
      show _ = _
      simp
      intro e
      rw [e] at hx
      have := hx.1
      have := hy.1
      omega
    clear hx hy
    go_enter Try.func20, Try.ntmps20
    go_wp2
    go_ret
    exact ⟨by rw [HR.out]; rfl, 0, rfl⟩
end Go.Proofs.Ytcdlgohhjnpbmaa
