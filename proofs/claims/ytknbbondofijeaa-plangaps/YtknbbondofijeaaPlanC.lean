/-
  Contracts of cmp.Less, slices.BinarySearch over []int, and of package plan's contains, containsAll, hasAll, measure.
-/
import Derived.Test.YtknbbondofijeaaPlanM
import Derived.Test.YtknbbondofijeaaHeldY
import Derived.IntWalk
namespace Go.Proofs.Ytknbbondofijeaa
open Go.RowKit

theorem lessI_any (x y : Int) (w : World) : Calls Try.prog 114 #[.int .i64 x, .int .i64 y] w fun e w' => e = .returned (.bool (decide (x < y))) ∧ w = w' := by
  have n1 : (x != x) = false := by simp
  have HN := Lib.hid (fun wx => (by
    go_enter Try.func117, Try.ntmps117
    go_wp2
    go_ret
    exact ⟨rfl, rfl⟩ : Calls Try.prog 117 #[.int .i64 x] wx fun e w' => e = .returned (.bool false) ∧ wx = w'))
  clear n1
  go_enter Try.func114, Try.ntmps114
  go_wp2_with fail
  refine (HN.out _).mono ?_
  rintro e w1 ⟨rfl, rfl⟩
  go_wp2
  go_ret
  exact ⟨by simp, rfl⟩
theorem nanI_any (x : Int) (w : World) : Calls Try.prog 115 #[.int .i64 x] w fun e w' => e = .returned (.bool false) ∧ w = w' := by
  have n1 : (x != x) = false := by simp
  go_enter Try.func115, Try.ntmps115
  go_wp2
  go_ret
  exact ⟨rfl, rfl⟩

theorem found_iff {xs : List Int} {x : Int} {p : Nat} (h : xs.Pairwise (· < ·)) (h1 : ∀ k, k < p → nth xs k < x) (h2 : ∀ k, p ≤ k → k < xs.length → x ≤ nth xs k) : x ∈ xs ↔ p < xs.length ∧ nth xs p = x := by
  constructor
  · intro hx
    obtain ⟨k, hk, e⟩ := List.getElem_of_mem hx
    rw [← nth_get _ _ hk] at e
    rcases Nat.lt_trichotomy k p with h3 | h3 | h3
    · have := h1 k h3; omega
    · subst h3; exact ⟨hk, e⟩
    · have h4 : nth xs p < nth xs k := by
        rw [nth_get _ _ (by omega), nth_get _ _ hk]
        exact List.pairwise_iff_getElem.1 h p k (by omega) hk h3
      have := h2 p (Nat.le_refl _) (by omega)
      omega
  · rintro ⟨hp, rfl⟩
    exact nth_mem hp

def BinP (b : Bool) (w : World) (e : Ending) (w' : World) : Prop := ∃ p : Int, e = .returned (.tuple #[.int .i64 p, .bool b]) ∧ w = w'
set_option maxRecDepth 8000 in
set_option maxHeartbeats 1000000 in
theorem binI_any (A : Option Addr) (n c B : Nat) (xs : List Int) (x : Int) (w : World) (hn : n ≤ maxLen) (ha : Arr .i64 w B A n xs) (hR : xs.Pairwise (· < ·)) :
    Calls Try.prog 110 #[.slice A n c, .int .i64 x] w (BinP (decide (x ∈ xs)) w) := by
  have hl := ha.1
  have HA := Lib.hid ha
  have HL := Lib.hid hl
  have HR := Lib.hid hR
  unfold maxLen at hn
  clear ha hR hl
  go_enter Try.func110, Try.ntmps110
  go_wp2
  go_loopw [7, 8] (fun s t wr => w = wr ∧ ∃ lo hi : Nat, s = .int .i64 lo ∧ t = .int .i64 hi ∧ lo ≤ hi ∧ hi ≤ n ∧ Hid ((∀ k, k < lo → nth xs k < x) ∧ ∀ k, hi ≤ k → k < n → x ≤ nth xs k)) (fun s t _ => (intOf t).toNat - (intOf s).toNat)
  case atStart => exact ⟨rfl, 0, n, rfl, rfl, Nat.zero_le _, Nat.le_refl _, fun k h => absurd h (by omega), fun k h1 h2 => absurd h1 (by omega)⟩
  case round =>
    obtain ⟨rfl, lo, hi, rfl, rfl, hlh, hin, HI⟩ := hrel
    by_cases hlt : lo < hi
    · obtain ⟨M, hM⟩ : ∃ M, (lo + hi) / 2 = M := ⟨_, rfl⟩
      have hM1 : ((lo : Int) + (hi : Int)) / 2 = (M : Int) := by omega
      have hW : IntKind.u64.wrap (wrap64 ((lo : Int) + (hi : Int))) = (lo : Int) + (hi : Int) := by
        have h1 : (lo : Int) + (hi : Int) < 18446744073709551616 := by omega
        have h2 : 0 ≤ (lo : Int) + (hi : Int) := by omega
        generalize (lo : Int) + (hi : Int) = T at *
        unfold wrap64 IntKind.wrap
        simp only [IntKind.bits, IntKind.signed, Bool.false_and, Bool.false_eq_true, if_false]
        omega
      have hMn : M < n := by omega
      have hMn' : (M : Int) < (n : Int) := by omega
      obtain ⟨b, off, rfl, _, hcs⟩ := HA.out.2.2 (by omega)
      have hc := hcs M hMn
      have HMr : Hid (lo ≤ M ∧ M < hi) := ⟨by omega, by omega⟩
      have HUP : Hid (nth xs M < x → ∀ k, k < M + 1 → nth xs k < x) := fun h k hk => by
        rcases Nat.lt_succ_iff_lt_or_eq.1 hk with h1 | rfl
        · have h2 : nth xs k < nth xs M := by
            rw [nth_get _ _ (by have := HL.out; omega), nth_get _ _ (by have := HL.out; omega)]
            exact List.pairwise_iff_getElem.1 HR.out k M (by have := HL.out; omega) (by have := HL.out; omega) h1
          omega
        · exact h
      have HDN : Hid (¬ nth xs M < x → ∀ k, M ≤ k → k < n → x ≤ nth xs k) := fun h k hk hkn => by
        rcases Nat.lt_or_eq_of_le hk with h1 | rfl
        · have h2 : nth xs M < nth xs k := by
            rw [nth_get _ _ (by have := HL.out; omega), nth_get _ _ (by have := HL.out; omega)]
            exact List.pairwise_iff_getElem.1 HR.out M k (by have := HL.out; omega) (by have := HL.out; omega) h1
          omega
        · omega
      clear hcs hM
      have HC := Lib.hid (lessI_any (nth xs M) x w)
      generalize nth xs M = X at *
      by_cases hx : X < x
      · rw [show decide (X < x) = true by simpa using hx] at HC
        have HU := Lib.hid (HUP.out hx)
        clear HUP HDN hx
        go_wp2_with fail
        refine HC.out.mono ?_
        rintro e w1 ⟨rfl, rfl⟩
        go_wp2
        go_roundw
        case rel => exact ⟨by trivial, M + 1, hi, by go_num, rfl, by have := HMr.out; omega, hin, HU.out, HI.out.2⟩
        case measure => have := HMr.out; simp [intOf]; omega
      · rw [show decide (X < x) = false by simpa using hx] at HC
        have HD := Lib.hid (HDN.out hx)
        clear HUP HDN hx
        go_wp2_with fail
        refine HC.out.mono ?_
        rintro e w1 ⟨rfl, rfl⟩
        go_wp2
        go_roundw
        case rel => exact ⟨by trivial, lo, M, rfl, by go_num, HMr.out.1, by omega, HI.out.1, HD.out⟩
        case measure => have := HMr.out; simp [intOf]; omega
    · obtain rfl : hi = lo := by omega
      have hf := found_iff HR.out HI.out.1 (by rw [HL.out]; exact HI.out.2)
      rw [HL.out] at hf
      by_cases hpn : hi < n
      · obtain ⟨b, off, rfl, _, hcs⟩ := HA.out.2.2 (by omega)
        have hc := hcs hi hpn
        have hpn' : (hi : Int) < (n : Int) := by omega
        have HN := Lib.hid (fun z => nanI_any z w)
        clear hcs
        have HF : Hid (decide (x ∈ xs) = decide (nth xs hi = x)) := by
          show _ = _
          simp only [hf, hpn, true_and]
        clear hf HI
        generalize nth xs hi = X at *
        by_cases hx : X = x
        · have HFT : Hid (decide (x ∈ xs) = true) := by show _ = _; rw [HF.out]; simpa using hx
          have e1 : (X == x) = true := by simpa using hx
          clear HF hx
          go_wp2
          go_ret2
          exact ⟨(hi : Int), by rw [HFT.out]; rfl, rfl⟩
        · have HFT : Hid (decide (x ∈ xs) = false) := by show _ = _; rw [HF.out]; simpa using hx
          have e1 : (X == x) = false := by simpa using hx
          clear HF hx
          go_wp2_with fail
          refine (HN.out _).mono ?_
          rintro e w1 ⟨rfl, rfl⟩
          go_wp2
          go_ret2
          exact ⟨(hi : Int), by rw [HFT.out]; rfl, rfl⟩
      · have HFT : Hid (decide (x ∈ xs) = false) := by
          show _ = _
          simp only [hf, hpn, false_and, decide_false]
        have hpn' : ¬ (hi : Int) < (n : Int) := by omega
        clear hf HI
        go_wp2
        go_ret2
        exact ⟨(hi : Int), by rw [HFT.out]; rfl, rfl⟩

set_option maxHeartbeats 400000 in
theorem planContains_any (A : Option Addr) (n c B : Nat) (xs : List Int) (x : Int) (w : World) (hn : n ≤ maxLen) (ha : Arr .i64 w B A n xs) (hR : xs.Pairwise (· < ·)) :
    Calls Try.prog 97 #[.slice A n c, .int .i64 x] w fun e w' => e = .returned (.bool (decide (x ∈ xs))) ∧ w = w' := by
  have HB := Lib.hid (binI_any A n c B xs x w hn ha hR)
  clear ha hR
  generalize decide (x ∈ xs) = V at *
  go_enter Try.func97, Try.ntmps97
  go_wp2_with fail
  refine HB.out.mono ?_
  rintro e w1 ⟨p, rfl, rfl⟩
  go_wp2
  go_ret
  exact ⟨rfl, rfl⟩

set_option maxHeartbeats 1000000 in
theorem planContainsAll_any (A P : Option Addr) (n c m d B : Nat) (xs ps : List Int) (w : World) (hn : n ≤ maxLen) (hm : m ≤ maxLen) (ha : Arr .i64 w B A n xs) (hp : Arr .i64 w B P m ps) (hR : xs.Pairwise (· < ·)) :
    Calls Try.prog 96 #[.slice A n c, .slice P m d] w fun e w' => e = .returned (.bool (subB xs ps)) ∧ w = w' := by
  have HP := Lib.hid hp
  have HC := Lib.hid (fun x => planContains_any A n c B xs x w hn ha hR)
  unfold maxLen at hm
  clear ha hp hR
  go_enter Try.func96, Try.ntmps96
  go_wp2_with fail
  go_loopw [9] (fun i wr => w = wr ∧ ∃ k : Nat, k ≤ m ∧ i = .int .i64 k ∧ Hid (∀ i, i < k → nth ps i ∈ xs)) (fun i _ => m - (intOf i).toNat)
  case atStart => exact ⟨rfl, 0, Nat.zero_le _, rfl, fun i hi => absurd hi (by omega)⟩
  case round =>
    obtain ⟨rfl, k, hk, rfl, HI⟩ := hrel
    by_cases hlt : k < m
    · obtain ⟨b, off, rfl, _, hcs⟩ := HP.out.2.2 (by omega)
      have hc := hcs k hlt
      have HQ := Lib.hid (HC.out (nth ps k))
      clear hcs
      by_cases hin : nth ps k ∈ xs
      · rw [show decide (nth ps k ∈ xs) = true by simpa using hin] at HQ
        have HN : Hid (∀ i, i < k + 1 → nth ps i ∈ xs) := fun i hi => by
          rcases Nat.lt_succ_iff_lt_or_eq.1 hi with h1 | h1
          · exact HI.out i h1
          · rw [h1]; exact hin
        clear hin HI
        generalize nth ps k = X at *
        go_wp2_with fail
        refine HQ.out.mono ?_
        rintro e w1 ⟨rfl, rfl⟩
        go_wp2
        go_roundw
        case rel => exact ⟨by trivial, k + 1, by omega, by go_num, HN⟩
        case measure => simp [intOf]; omega
      · rw [show decide (nth ps k ∈ xs) = false by simpa using hin] at HQ
        have HE : Hid (subB xs ps = false) := by
          show _ = _
          cases he : subB xs ps
          · rfl
          · exact absurd (subB_iff.1 he _ (nth_mem (by have := HP.out.1; omega))) hin
        clear hin HI
        generalize nth ps k = X at *
        go_wp2_with fail
        refine HQ.out.mono ?_
        rintro e w1 ⟨rfl, rfl⟩
        go_wp2
        go_ret
        exact ⟨by rw [HE.out]; rfl, rfl⟩
    · obtain rfl : k = m := by omega
      have HE : Hid (subB xs ps = true) := subB_iff.2 fun x hx => by
        obtain ⟨i, hi, e⟩ := List.getElem_of_mem hx
        have := HI.out i (by have := HP.out.1; omega)
        rwa [nth_get _ _ hi, e] at this
      clear HI
      go_wp2
      go_ret
      exact ⟨by rw [HE.out]; rfl, rfl⟩

/-- How long each object is. -/
theorem longT : MapT Try.prog .i64 .i64 137 3 3 := ⟨Try.underlying137, Try.underlying3, Try.underlying3, fun _ => by kernel_rfl⟩
def lgTo (zs : List Int) (k : Nat) : Int → Option Int := fun x => if x ∈ liveTo zs k then some (lgI zs x) else none
def lgOf (zs : List Int) : Int → Option Int := fun x => if x ∈ livesI zs then some (lgI zs x) else none
section
variable {zs : List Int} {k : Nat}
theorem lgOf_isSome (x : Int) : (lgOf zs x).isSome = decide (x ∈ livesI zs) := by unfold lgOf; by_cases h : x ∈ livesI zs <;> simp [h]
theorem lgOf_in {x : Int} (h : x ∈ livesI zs) : (lgOf zs x).getD 0 = lgI zs x := by unfold lgOf; rw [if_pos h]; rfl
theorem lgTo_zero : lgTo zs 0 = fun _ => none := by funext x; simp [lgTo, liveTo_zero]
theorem lgTo_all : lgTo zs (begins zs 0).length = lgOf zs := by unfold lgTo lgOf; rw [liveTo_all]
theorem lgTo_yes (h : k < (begins zs 0).length) (hf : vF (nth zs (st zs k)) = false) : lgTo zs (k + 1) = put (lgTo zs k) (st zs k : Int) (lgI zs (st zs k : Int)) := by
  funext x
  unfold lgTo put
  rw [liveTo_yes h hf]
  by_cases hx : x = (st zs k : Int)
  · subst hx; simp
  · rw [if_neg hx]
    have : x ∈ liveTo zs k ++ [(st zs k : Int)] ↔ x ∈ liveTo zs k := by simp [hx]
    simp only [this]
theorem lgTo_no (h : k < (begins zs 0).length) (hf : vF (nth zs (st zs k)) = true) : lgTo zs (k + 1) = lgTo zs k := by unfold lgTo; rw [liveTo_no h hf]
end

set_option maxHeartbeats 1000000 in
theorem planHasAll_any (F : Option Addr) (nf cf gm N : Nat) (zs fr : List Int) (w : World) (hnf : nf ≤ maxLen) (hfr : Arr .i64 w w.heap.size F nf fr) (hm : MapF Try.prog .i64 .i64 3 3 w gm N (lgOf zs)) :
    Calls Try.prog 95 #[.map (some gm), .slice F nf cf] w fun e w' => e = .returned (.bool (allIn zs fr)) ∧ w = w' := by
  have HP := Lib.hid hfr
  have HM := Lib.hid hm
  unfold maxLen at hnf
  clear hfr hm
  go_enter Try.func95, Try.ntmps95
  go_wp2_with fail
  go_loopw [11] (fun i wr => w = wr ∧ ∃ k : Nat, k ≤ nf ∧ i = .int .i64 k ∧ Hid (∀ i, i < k → nth fr i ∈ livesI zs)) (fun i _ => nf - (intOf i).toNat)
  case atStart => exact ⟨rfl, 0, Nat.zero_le _, rfl, fun i hi => absurd hi (by omega)⟩
  case round =>
    obtain ⟨rfl, k, hk, rfl, HI⟩ := hrel
    by_cases hlt : k < nf
    · obtain ⟨b, off, rfl, _, hcs⟩ := HP.out.2.2 (by omega)
      have hc := hcs k hlt
      have hlk := HM.out.lookOk longT (x := nth fr k) (HP.out.2.1 _ (nth_mem (by have := HP.out.1; omega)))
      rw [lgOf_isSome] at hlk
      clear hcs
      generalize (lgOf zs (nth fr k)).getD 0 = Y at *
      by_cases hin : nth fr k ∈ livesI zs
      · rw [show decide (nth fr k ∈ livesI zs) = true by simpa using hin] at hlk
        have HN : Hid (∀ i, i < k + 1 → nth fr i ∈ livesI zs) := fun i hi => by
          rcases Nat.lt_succ_iff_lt_or_eq.1 hi with h1 | h1
          · exact HI.out i h1
          · rw [h1]; exact hin
        clear hin HI
        generalize nth fr k = X at *
        go_wp2
        go_roundw
        case rel => exact ⟨by trivial, k + 1, by omega, by go_num, HN⟩
        case measure => simp [intOf]; omega
      · rw [show decide (nth fr k ∈ livesI zs) = false by simpa using hin] at hlk
        have HE : Hid (allIn zs fr = false) := by
          show _ = _
          cases he : allIn zs fr
          · rfl
          · exact absurd (allIn_iff.1 he _ (nth_mem (by have := HP.out.1; omega))) hin
        clear hin HI
        generalize nth fr k = X at *
        go_wp2
        go_ret
        exact ⟨by rw [HE.out]; rfl, rfl⟩
    · obtain rfl : k = nf := by omega
      have HE : Hid (allIn zs fr = true) := allIn_iff.2 fun x hx => by
        obtain ⟨i, hi, e⟩ := List.getElem_of_mem hx
        have := HI.out i (by have := HP.out.1; omega)
        rwa [nth_get _ _ hi, e] at this
      clear HI
      go_wp2
      go_ret
      exact ⟨by rw [HE.out]; rfl, rfl⟩
end Go.Proofs.Ytknbbondofijeaa
