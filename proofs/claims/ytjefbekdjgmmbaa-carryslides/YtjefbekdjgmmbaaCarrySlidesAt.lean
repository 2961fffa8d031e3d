/-
  Parts of the proof of CarrySlides: BinI.
-/
import Derived.Test.YtjefbekdjgmmbaaProg
import Derived.IntWalk
import Derived.Test.YtjefbekdjgmmbaaCarrySlidesAa
namespace Go.Proofs.Ytjefbekdjgmmbaa
open Go.RowKit
theorem lessI_any (x y : Int) (w : World) : Calls Try.prog 84 #[.int .i64 x, .int .i64 y] w fun e w' => e = .returned (.bool (decide (x < y))) ∧ w = w' := by
  have n1 : (x != x) = false := by simp
  have HN := Lib.hid (fun wx => (by
    go_enter Try.func108, Try.ntmps108
    go_wp2
    go_ret
    exact ⟨rfl, rfl⟩ : Calls Try.prog 108 #[.int .i64 x] wx fun e w' => e = .returned (.bool false) ∧ wx = w'))
  clear n1
  go_enter Try.func84, Try.ntmps84
  go_wp2_with fail
  refine (HN.out _).mono ?_
  rintro e w1 ⟨rfl, rfl⟩
  go_wp2
  go_ret
  exact ⟨by simp, rfl⟩
theorem nanI_any (x : Int) (w : World) : Calls Try.prog 85 #[.int .i64 x] w fun e w' => e = .returned (.bool false) ∧ w = w' := by
  have n1 : (x != x) = false := by simp
  go_enter Try.func85, Try.ntmps85
  go_wp2
  go_ret
  exact ⟨rfl, rfl⟩
theorem found_iff {xs : List Int} {x : Int} {p : Nat} (h : xs.Pairwise (· < ·)) (h1 : ∀ k, k < p → nth xs k < x) (h2 : ∀ k, p ≤ k → k < xs.length → x ≤ nth xs k) : x ∈ xs ↔ p < xs.length ∧ nth xs p = x := by
  constructor
  · intro hx
    obtain ⟨k, hk, e⟩ := List.getElem_of_mem hx
    rw [← nth_get _ _ hk] at e
    rcases Nat.lt_trichotomy k p with h3 | h3 | h3
    · have := h1 k h3; omega
    · subst h3; exact ⟨hk, e⟩
    · have h4 : nth xs p < nth xs k := by
        rw [nth_get _ _ (by omega), nth_get _ _ hk]
        exact List.pairwise_iff_getElem.1 h p k (by omega) hk h3
      have := h2 p (Nat.le_refl _) (by omega)
      omega
  · rintro ⟨hp, rfl⟩
    exact nth_mem hp
def BinP (xs : List Int) (x : Int) (w : World) (e : Ending) (w' : World) : Prop := ∃ p : Int, e = .returned (.tuple #[.int .i64 p, .bool (decide (x ∈ xs))]) ∧ w = w' ∧ (x ∈ xs → ∃ q : Nat, p = q ∧ q < xs.length ∧ nth xs q = x)
set_option maxRecDepth 8000 in
set_option maxHeartbeats 1000000 in
theorem binI_any (A : Option Addr) (n c B : Nat) (xs : List Int) (x : Int) (w : World) (hn : n ≤ maxLen) (ha : Arr .i64 w B A n xs) (hR : xs.Pairwise (· < ·)) :
    Calls Try.prog 54 #[.slice A n c, .int .i64 x] w (BinP xs x w) := by
  have hl := ha.1
  have HA := Lib.hid ha
  have HL := Lib.hid hl
  have HR := Lib.hid hR
  unfold maxLen at hn
  clear ha hR hl
  go_enter Try.func54, Try.ntmps54
  go_wp2
  go_loopw [7, 8] (fun s t wr => w = wr ∧ ∃ lo hi : Nat, s = .int .i64 lo ∧ t = .int .i64 hi ∧ lo ≤ hi ∧ hi ≤ n ∧ Hid ((∀ k, k < lo → nth xs k < x) ∧ ∀ k, hi ≤ k → k < n → x ≤ nth xs k)) (fun s t _ => (intOf t).toNat - (intOf s).toNat)
  case atStart => exact ⟨rfl, 0, n, rfl, rfl, Nat.zero_le _, Nat.le_refl _, fun k h => absurd h (by omega), fun k h1 h2 => absurd h1 (by omega)⟩
  case round =>
    obtain ⟨rfl, lo, hi, rfl, rfl, hlh, hin, HI⟩ := hrel
    by_cases hlt : lo < hi
    · obtain ⟨M, hM⟩ : ∃ M, (lo + hi) / 2 = M := ⟨_, rfl⟩
      have hM1 : ((lo : Int) + (hi : Int)) / 2 = (M : Int) := by omega
      have hW : IntKind.u64.wrap (wrap64 ((lo : Int) + (hi : Int))) = (lo : Int) + (hi : Int) := by
        have h1 : (lo : Int) + (hi : Int) < 18446744073709551616 := by omega
        have h2 : 0 ≤ (lo : Int) + (hi : Int) := by omega
        generalize (lo : Int) + (hi : Int) = T at *
        unfold wrap64 IntKind.wrap
        simp only [IntKind.bits, IntKind.signed, Bool.false_and, Bool.false_eq_true, if_false]
        omega
      have hMn : M < n := by omega
      have hMn' : (M : Int) < (n : Int) := by omega
      obtain ⟨b, off, rfl, _, hcs⟩ := HA.out.2.2 (by omega)
      have hc := hcs M hMn
      have HMr : Hid (lo ≤ M ∧ M < hi) := ⟨by omega, by omega⟩
      have HUP : Hid (nth xs M < x → ∀ k, k < M + 1 → nth xs k < x) := fun h k hk => by
        rcases Nat.lt_succ_iff_lt_or_eq.1 hk with h1 | rfl
        · have h2 : nth xs k < nth xs M := by
            rw [nth_get _ _ (by have := HL.out; omega), nth_get _ _ (by have := HL.out; omega)]
            exact List.pairwise_iff_getElem.1 HR.out k M (by have := HL.out; omega) (by have := HL.out; omega) h1
          omega
        · exact h
      have HDN : Hid (¬ nth xs M < x → ∀ k, M ≤ k → k < n → x ≤ nth xs k) := fun h k hk hkn => by
        rcases Nat.lt_or_eq_of_le hk with h1 | rfl
        · have h2 : nth xs M < nth xs k := by
            rw [nth_get _ _ (by have := HL.out; omega), nth_get _ _ (by have := HL.out; omega)]
            exact List.pairwise_iff_getElem.1 HR.out M k (by have := HL.out; omega) (by have := HL.out; omega) h1
          omega
        · omega
      clear hcs hM
      have HC := Lib.hid (lessI_any (nth xs M) x w)
      generalize nth xs M = X at *
      by_cases hx : X < x
      · rw [show decide (X < x) = true by simpa using hx] at HC
        have HU := Lib.hid (HUP.out hx)
        clear HUP HDN hx
        go_wp2_with fail
        refine HC.out.mono ?_
        rintro e w1 ⟨rfl, rfl⟩
        go_wp2
        go_roundw
        case rel => exact ⟨by trivial, M + 1, hi, by go_num, rfl, by have := HMr.out; omega, hin, HU.out, HI.out.2⟩
        case measure => have := HMr.out; simp [intOf]; omega
      · rw [show decide (X < x) = false by simpa using hx] at HC
        have HD := Lib.hid (HDN.out hx)
        clear HUP HDN hx
        go_wp2_with fail
        refine HC.out.mono ?_
        rintro e w1 ⟨rfl, rfl⟩
        go_wp2
        go_roundw
        case rel => exact ⟨by trivial, lo, M, rfl, by go_num, HMr.out.1, by omega, HI.out.1, HD.out⟩
        case measure => have := HMr.out; simp [intOf]; omega
    · obtain rfl : hi = lo := by omega
      have hf := found_iff HR.out HI.out.1 (by rw [HL.out]; exact HI.out.2)
      rw [HL.out] at hf
      by_cases hpn : hi < n
      · obtain ⟨b, off, rfl, _, hcs⟩ := HA.out.2.2 (by omega)
        have hc := hcs hi hpn
        have hpn' : (hi : Int) < (n : Int) := by omega
        have HN := Lib.hid (fun z => nanI_any z w)
        clear hcs
        have HF : Hid (decide (x ∈ xs) = decide (nth xs hi = x)) := by
          show _ = _
          simp only [hf, hpn, true_and]
        have HQ : Hid (nth xs hi = x → ∃ q : Nat, (hi : Int) = q ∧ q < xs.length ∧ nth xs q = x) := fun e => ⟨hi, rfl, by rw [HL.out]; exact hpn, e⟩
        clear hf HI
        generalize nth xs hi = X at *
        by_cases hx : X = x
        · have HFT : Hid (decide (x ∈ xs) = true) := by show _ = _; rw [HF.out]; simpa using hx
          have e1 : (X == x) = true := by simpa using hx
          have HQ := Lib.hid (HQ.out hx)
          clear HF hx
          go_wp2
          go_ret2
          exact ⟨(hi : Int), by rw [HFT.out]; rfl, rfl, fun _ => HQ.out⟩
        · have HFT : Hid (decide (x ∈ xs) = false) := by show _ = _; rw [HF.out]; simpa using hx
          have e1 : (X == x) = false := by simpa using hx
          clear HF hx
          go_wp2_with fail
          refine (HN.out _).mono ?_
          rintro e w1 ⟨rfl, rfl⟩
          go_wp2
          go_ret2
          exact ⟨(hi : Int), by rw [HFT.out]; rfl, rfl, fun hc => absurd hc (of_decide_eq_false HFT.out)⟩
      · have HFT : Hid (decide (x ∈ xs) = false) := by
          show _ = _
          simp only [hf, hpn, false_and, decide_false]
        have hpn' : ¬ (hi : Int) < (n : Int) := by omega
        clear hf HI
        go_wp2
        go_ret2
        exact ⟨(hi : Int), by rw [HFT.out]; rfl, rfl, fun hc => absurd hc (of_decide_eq_false HFT.out)⟩
end Go.Proofs.Ytjefbekdjgmmbaa
