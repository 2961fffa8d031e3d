/-
  Contracts of functions over slices of runs: slices.IndexFunc, slices.ContainsFunc (with a function that has one captured variable), slices.Equal.
-/
import Derived.Test.YtdieokpfkojoiaaRunM
import Derived.Test.YtdieokpfkojoiaaEq
namespace Go.Proofs.Ytdieokpfkojoiaa
open Go.RowKit

theorem ArrG.run {w : World} {B n : Nat} {A : Option Addr} {l : List (Int × Int)} (h : ArrG runC 2 w B A n l) {j : Nat} (hj : j < n) :
    ∃ b off, A = some ⟨b, off, none⟩ ∧ b < B ∧ w.cell? ⟨b, off + j * 2, none⟩ = some (.int .i64 (nthG l j).1) ∧ w.cell? ⟨b, off + j * 2 + 1, none⟩ = some (.int .i64 (nthG l j).2) := by
  obtain ⟨b, off, e, hb, hc⟩ := h.at_ hj
  exact ⟨b, off, e, hb, hc 0 (by omega), hc 1 (by omega)⟩
theorem any_true {f : Nat → Bool} {n k : Nat} (hk : k < n) (h : f k = true) : (List.range n).any f = true := List.any_eq_true.2 ⟨k, List.mem_range.2 hk, h⟩
theorem any_false {f : Nat → Bool} {n : Nat} (h : ∀ j, j < n → f j = false) : (List.range n).any f = false := by
  rw [List.any_eq_false]; intro j hj; rw [h j (List.mem_range.1 hj)]; decide

/-- The answer of IndexFunc: the first number that the rule marks, -1 if none. -/
def FoundAt (n : Nat) (f : Nat → Bool) (w : World) (e : Ending) (w' : World) : Prop := ∃ r : Int, e = .returned (.int .i64 r) ∧ Below w.heap.size w w' ∧
  ((∃ k : Nat, r = k ∧ k < n ∧ f k = true ∧ ∀ j, j < k → f j = false) ∨ (r = -1 ∧ ∀ j, j < n → f j = false))

set_option maxHeartbeats 400000 in
theorem indexRun (A : Option Addr) (n c B fid : Nat) (p : Addr) (l : List (Int × Int)) (f : Nat → Bool) (w : World) (hn : n ≤ maxLen) (hB0 : B ≤ w.heap.size) (hx : ArrG runC 2 w B A n l) (hcall : ∀ args wx, Sem.run Try.prog (callFunc fid args) wx = .ok (.enter fid args) wx)
    (hF : ∀ wx, Below w.heap.size w wx → ∀ j, j < n → Calls Try.prog fid #[.agg #[.int .i64 (nthG l j).1, .int .i64 (nthG l j).2], .pointer (some p)] wx (fun e w' => e = .returned (.bool (f j)) ∧ Below wx.heap.size wx w')) :
    Calls Try.prog 82 #[.slice A n c, .func (.func fid) #[] #[.pointer (some p)]] w (FoundAt n f w) := by
  unfold maxLen at hn
  have HF := Lib.hid hF
  clear hF
  go_enter Try.func82, Try.ntmps82
  go_wp2
  go_loopw [8] (fun i wr => ∃ k : Nat, k ≤ n ∧ i = .int .i64 k ∧ Hid (∀ j, j < k → f j = false) ∧ Below w.heap.size w wr) (fun i _ => n - (intOf i).toNat)
  case atStart => exact ⟨0, Nat.zero_le _, rfl, (fun j hj => absurd hj (by omega)), Below.refl _ _⟩
  case round =>
    obtain ⟨k, hk, rfl, HE, hB⟩ := hrel
    by_cases hlt : k < n
    · obtain ⟨b, off, rfl, hbB, hc0, hc1⟩ := (hx.below hB hB0).run hlt
      have hC := HF.out wr hB k hlt
      have HC := Lib.hid hC
      have HB := Lib.hid hB
      clear hC hB hx
      generalize (nthG l k).1 = X at *
      generalize (nthG l k).2 = Y at *
      cases hf : f k
      · rw [hf] at HC
        have Hf := Lib.hid hf
        clear hf
        go_wp2_with fail
        refine HC.out.mono ?_
        rintro e w1 ⟨rfl, hb1⟩
        have HB1 := Lib.hid (HB.out.trans (hb1.mono HB.out.size))
        clear hb1
        go_wp2
        go_roundw
        case rel =>
          refine ⟨k + 1, by omega, by go_num, fun j hj => ?_, HB1.out⟩
          rcases Nat.lt_succ_iff_lt_or_eq.1 hj with h | h
          · exact HE.out j h
          · rw [h]; exact Hf.out
        case measure => simp [intOf]; omega
      · rw [hf] at HC
        have Hf := Lib.hid hf
        clear hf
        go_wp2_with fail
        refine HC.out.mono ?_
        rintro e w1 ⟨rfl, hb1⟩
        have HB1 := Lib.hid (HB.out.trans (hb1.mono HB.out.size))
        clear hb1
        go_wp2
        go_ret
        exact ⟨_, rfl, HB1.out, .inl ⟨k, rfl, hlt, Hf.out, HE.out⟩⟩
    · obtain rfl : k = n := by omega
      have HB := Lib.hid hB
      clear hB hx
      go_wp2
      go_ret
      exact ⟨_, rfl, HB.out, .inr ⟨rfl, HE.out⟩⟩

set_option maxHeartbeats 400000 in
theorem containsRun (A : Option Addr) (n c B fid : Nat) (p : Addr) (l : List (Int × Int)) (f : Nat → Bool) (w : World) (hn : n ≤ maxLen) (hB0 : B ≤ w.heap.size) (hx : ArrG runC 2 w B A n l) (hcall : ∀ args wx, Sem.run Try.prog (callFunc fid args) wx = .ok (.enter fid args) wx)
    (hF : ∀ wx, Below w.heap.size w wx → ∀ j, j < n → Calls Try.prog fid #[.agg #[.int .i64 (nthG l j).1, .int .i64 (nthG l j).2], .pointer (some p)] wx (fun e w' => e = .returned (.bool (f j)) ∧ Below wx.heap.size wx w')) :
    Calls Try.prog 68 #[.slice A n c, .func (.func fid) #[] #[.pointer (some p)]] w fun e w' => e = .returned (.bool ((List.range n).any f)) ∧ Below w.heap.size w w' := by
  have HI := Lib.hid (indexRun A n c B fid p l f w hn hB0 hx hcall hF)
  clear hF hx hcall
  go_enter Try.func68, Try.ntmps68
  go_wp2_with fail
  refine HI.out.mono ?_
  rintro e w' ⟨r, rfl, hB, hr⟩
  have HB := Lib.hid hB
  have HR : Hid (decide (0 ≤ r) = (List.range n).any f) := by
    show _ = _
    rcases hr with ⟨k, rfl, hk, hf, _⟩ | ⟨rfl, h⟩
    · rw [any_true hk hf]; simp
    · rw [any_false h]; rfl
  clear hB hr HI
  go_wp2
  go_ret
  exact ⟨by rw [← HR.out]; rfl, HB.out⟩

theorem nthG_ext {α : Type} [Inhabited α] {xs ys : List α} (hl : xs.length = ys.length) (h : ∀ j, j < xs.length → nthG xs j = nthG ys j) : xs = ys := by
  apply List.ext_getElem hl
  intro i h1 h2
  have := h i h1
  simpa [nthG, h1, h2] using this

end Go.Proofs.Ytdieokpfkojoiaa
