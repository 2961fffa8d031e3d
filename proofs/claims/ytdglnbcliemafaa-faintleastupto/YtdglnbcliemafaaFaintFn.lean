/-
  slices.IndexFunc and slices.ContainsFunc over []api.Faint, with a function value of whatever captured variables.
-/
import Derived.Test.YtdglnbcliemafaaFaintN
import Derived.Test.YtdglnbcliemafaaRunFn2
namespace Go.Proofs.Ytdglnbcliemafaa
open Go.RowKit

set_option maxHeartbeats 400000 in
theorem indexFaintC (A : Option Addr) (n c B fid : Nat) (caps : Array Value) (l : List (Int × Int)) (f : Nat → Bool) (w : World) (hn : n ≤ maxLen) (hB0 : B ≤ w.heap.size) (hx : ArrG runC 2 w B A n l) (hcall : ∀ args wx, Sem.run Try.prog (callFunc fid args) wx = .ok (.enter fid args) wx)
    (hF : ∀ wx, Below w.heap.size w wx → ∀ j, j < n → Calls Try.prog fid (#[.agg #[.int .i64 (nthG l j).1, .int .i64 (nthG l j).2]] ++ caps) wx (fun e w' => e = .returned (.bool (f j)) ∧ Below wx.heap.size wx w')) :
    Calls Try.prog 47 #[.slice A n c, .func (.func fid) #[] caps] w (FoundAt n f w) := by
  unfold maxLen at hn
  have HF := Lib.hid hF
  clear hF
  go_enter Try.func47, Try.ntmps47
  go_wp2
  go_loopw [8] (fun i wr => ∃ k : Nat, k ≤ n ∧ i = .int .i64 k ∧ Hid (∀ j, j < k → f j = false) ∧ Below w.heap.size w wr) (fun i _ => n - (intOf i).toNat)
  case atStart => exact ⟨0, Nat.zero_le _, rfl, (fun j hj => absurd hj (by omega)), Below.refl _ _⟩
  case round =>
    obtain ⟨k, hk, rfl, HE, hB⟩ := hrel
    by_cases hlt : k < n
    · obtain ⟨b, off, rfl, hbB, hc0, hc1⟩ := (hx.below hB hB0).run hlt
      have hC := HF.out wr hB k hlt
      have HC := Lib.hid hC
      have HB := Lib.hid hB
      clear hC hB hx
      generalize (nthG l k).1 = X at *
      generalize (nthG l k).2 = Y at *
      cases hf : f k
      · rw [hf] at HC
        have Hf := Lib.hid hf
        clear hf
        go_wp2_with fail
        refine HC.out.mono ?_
        rintro e w1 ⟨rfl, hb1⟩
        have HB1 := Lib.hid (HB.out.trans (hb1.mono HB.out.size))
        clear hb1
        go_wp2
        go_roundw
        case rel =>
          refine ⟨k + 1, by omega, by go_num, fun j hj => ?_, HB1.out⟩
          rcases Nat.lt_succ_iff_lt_or_eq.1 hj with h | h
          · exact HE.out j h
          · rw [h]; exact Hf.out
        case measure => simp [intOf]; omega
      · rw [hf] at HC
        have Hf := Lib.hid hf
        clear hf
        go_wp2_with fail
        refine HC.out.mono ?_
        rintro e w1 ⟨rfl, hb1⟩
        have HB1 := Lib.hid (HB.out.trans (hb1.mono HB.out.size))
        clear hb1
        go_wp2
        go_ret
        exact ⟨_, rfl, HB1.out, .inl ⟨k, rfl, hlt, Hf.out, HE.out⟩⟩
    · obtain rfl : k = n := by omega
      have HB := Lib.hid hB
      clear hB hx
      go_wp2
      go_ret
      exact ⟨_, rfl, HB.out, .inr ⟨rfl, HE.out⟩⟩
set_option maxHeartbeats 400000 in
theorem containsFaintC (A : Option Addr) (n c B fid : Nat) (caps : Array Value) (l : List (Int × Int)) (g : Int × Int → Bool) (w : World) (hn : n ≤ maxLen) (hB0 : B ≤ w.heap.size) (hx : ArrG runC 2 w B A n l) (hcall : ∀ args wx, Sem.run Try.prog (callFunc fid args) wx = .ok (.enter fid args) wx)
    (hF : ∀ wx, Below w.heap.size w wx → ∀ p ∈ l, Calls Try.prog fid (#[.agg #[.int .i64 p.1, .int .i64 p.2]] ++ caps) wx (fun e w' => e = .returned (.bool (g p)) ∧ Below wx.heap.size wx w')) :
    Calls Try.prog 24 #[.slice A n c, .func (.func fid) #[] caps] w fun e w' => e = .returned (.bool (l.any g)) ∧ Below w.heap.size w w' := by
  have hl := hx.1
  have hnm : ∀ j, j < n → nthG l j ∈ l := fun j hj => by rw [nthG_get _ _ (by omega)]; exact List.getElem_mem _
  have HI := Lib.hid (indexFaintC A n c B fid caps l (fun j => g (nthG l j)) w hn hB0 hx hcall (fun wx hb j hj => hF wx hb _ (hnm j hj)))
  unfold FoundAt at HI
  have HY : Hid (∀ j, j < n → g (nthG l j) = true → l.any g = true) := fun j hj h => List.any_eq_true.2 ⟨_, hnm j hj, h⟩
  have HNO : Hid ((∀ j, j < n → g (nthG l j) = false) → l.any g = false) := fun h => List.any_eq_false.2 fun p hp => by
    obtain ⟨j, hj, e⟩ := List.getElem_of_mem hp
    have := h j (by omega)
    rw [nthG_get _ _ hj, e] at this
    simp [this]
  clear hF hx hnm
  go_enter Try.func24, Try.ntmps24
  go_wp2_with fail
  refine HI.out.mono ?_
  rintro e w1 ⟨r, rfl, hb, hr⟩
  have HB := Lib.hid hb
  rcases hr with ⟨j, rfl, hj, hg, _⟩ | ⟨rfl, hno⟩
  · have HV := Lib.hid (HY.out j hj hg)
    clear hg hb
    go_wp2
    go_ret
    exact ⟨by rw [HV.out]; simp, HB.out⟩
  · have HV := Lib.hid (HNO.out hno)
    clear hno hb
    go_wp2
    go_ret
    exact ⟨by rw [HV.out]; simp, HB.out⟩
end Go.Proofs.Ytdglnbcliemafaa
