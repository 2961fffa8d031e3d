/-
  Package plan.
-/
import Derived.Test.YtjefbekdjgmmbaaPlanM
import Derived.Test.YtjefbekdjgmmbaaLater
import Derived.Test.YtjefbekdjgmmbaaBinI
import Derived.IntWalk
import Derived.Test.YtjefbekdjgmmbaaRec
import Derived.Test.YtjefbekdjgmmbaaRefGap
namespace Go.Proofs.Ytjefbekdjgmmbaa
open Go.RowKit

set_option maxHeartbeats 400000 in
theorem planContains_any (A : Option Addr) (n c B : Nat) (xs : List Int) (x : Int) (w : World) (hn : n ≤ maxLen) (ha : Arr .i64 w B A n xs) (hR : xs.Pairwise (· < ·)) :
    Calls Try.prog 121 #[.slice A n c, .int .i64 x] w fun e w' => e = .returned (.bool (decide (x ∈ xs))) ∧ w = w' := by
  have HB : Hid (Calls Try.prog 54 #[.slice A n c, .int .i64 x] w fun e w' => ∃ p : Int, e = .returned (.tuple #[.int .i64 p, .bool (decide (x ∈ xs))]) ∧ w = w') := (binI_any A n c B xs x w hn ha hR).mono fun _ _ ⟨p, h1, h2, _⟩ => ⟨p, h1, h2⟩
  clear ha hR
  generalize decide (x ∈ xs) = V at *
  go_enter Try.func121, Try.ntmps121
  go_wp2_with fail
  refine HB.out.mono ?_
  rintro e w1 ⟨p, rfl, rfl⟩
  go_wp2
  go_ret
  exact ⟨rfl, rfl⟩

set_option maxHeartbeats 1000000 in
theorem planContainsAll_any (A P : Option Addr) (n c m d B : Nat) (xs ps : List Int) (w : World) (hn : n ≤ maxLen) (hm : m ≤ maxLen) (ha : Arr .i64 w B A n xs) (hp : Arr .i64 w B P m ps) (hR : xs.Pairwise (· < ·)) :
    Calls Try.prog 120 #[.slice A n c, .slice P m d] w fun e w' => e = .returned (.bool (subB xs ps)) ∧ w = w' := by
  have HP := Lib.hid hp
  have HC := Lib.hid (fun x => planContains_any A n c B xs x w hn ha hR)
  unfold maxLen at hm
  clear ha hp hR
  go_enter Try.func120, Try.ntmps120
  go_wp2_with fail
  go_loopw [9] (fun i wr => w = wr ∧ ∃ k : Nat, k ≤ m ∧ i = .int .i64 k ∧ Hid (∀ i, i < k → nth ps i ∈ xs)) (fun i _ => m - (intOf i).toNat)
  case atStart => exact ⟨rfl, 0, Nat.zero_le _, rfl, fun i hi => absurd hi (by omega)⟩
  case round =>
    obtain ⟨rfl, k, hk, rfl, HI⟩ := hrel
    by_cases hlt : k < m
    · obtain ⟨b, off, rfl, _, hcs⟩ := HP.out.2.2 (by omega)
      have hc := hcs k hlt
      have HQ := Lib.hid (HC.out (nth ps k))
      clear hcs
      by_cases hin : nth ps k ∈ xs
      · rw [show decide (nth ps k ∈ xs) = true by simpa using hin] at HQ
        have HN : Hid (∀ i, i < k + 1 → nth ps i ∈ xs) := fun i hi => by
          rcases Nat.lt_succ_iff_lt_or_eq.1 hi with h1 | h1
          · exact HI.out i h1
          · rw [h1]; exact hin
        clear hin HI
        generalize nth ps k = X at *
        go_wp2_with fail
        refine HQ.out.mono ?_
        rintro e w1 ⟨rfl, rfl⟩
        go_wp2
        go_roundw
        case rel => exact ⟨by trivial, k + 1, by omega, by go_num, HN⟩
        case measure => simp [intOf]; omega
      · rw [show decide (nth ps k ∈ xs) = false by simpa using hin] at HQ
        have HE : Hid (subB xs ps = false) := by
          show _ = _
          cases he : subB xs ps
          · rfl
          · exact absurd (subB_iff.1 he _ (nth_mem (by have := HP.out.1; omega))) hin
        clear hin HI
        generalize nth ps k = X at *
        go_wp2_with fail
        refine HQ.out.mono ?_
        rintro e w1 ⟨rfl, rfl⟩
        go_wp2
        go_ret
        exact ⟨by rw [HE.out]; rfl, rfl⟩
    · obtain rfl : k = m := by omega
      have HE : Hid (subB xs ps = true) := subB_iff.2 fun x hx => by
        obtain ⟨i, hi, e⟩ := List.getElem_of_mem hx
        have := HI.out i (by have := HP.out.1; omega)
        rwa [nth_get _ _ hi, e] at this
      clear HI
      go_wp2
      go_ret
      exact ⟨by rw [HE.out]; rfl, rfl⟩

/-- How long each object is. -/
theorem longT : MapT Try.prog .i64 .i64 77 3 3 := ⟨Try.underlying77, Try.underlying3, Try.underlying3, fun _ => by kernel_rfl⟩
def lgTo (zs : List Int) (k : Nat) : Int → Option Int := fun x => if x ∈ liveTo zs k then some (lgI zs x) else none
def lgOf (zs : List Int) : Int → Option Int := fun x => if x ∈ livesI zs then some (lgI zs x) else none
section
variable {zs : List Int} {k : Nat}
theorem lgOf_isSome (x : Int) : (lgOf zs x).isSome = decide (x ∈ livesI zs) := by unfold lgOf; by_cases h : x ∈ livesI zs <;> simp [h]
theorem lgOf_in {x : Int} (h : x ∈ livesI zs) : (lgOf zs x).getD 0 = lgI zs x := by unfold lgOf; rw [if_pos h]; rfl
theorem lgTo_zero : lgTo zs 0 = fun _ => none := by funext x; simp [lgTo, liveTo_zero]
theorem lgTo_all : lgTo zs (begins zs 0).length = lgOf zs := by unfold lgTo lgOf; rw [liveTo_all]
theorem lgTo_yes (h : k < (begins zs 0).length) (hf : vF (nth zs (st zs k)) = false) : lgTo zs (k + 1) = put (lgTo zs k) (st zs k : Int) (lgI zs (st zs k : Int)) := by
  funext x
  unfold lgTo put
  rw [liveTo_yes h hf]
  by_cases hx : x = (st zs k : Int)
  · subst hx; simp
  · rw [if_neg hx]
    have : x ∈ liveTo zs k ++ [(st zs k : Int)] ↔ x ∈ liveTo zs k := by simp [hx]
    simp only [this]
theorem lgTo_no (h : k < (begins zs 0).length) (hf : vF (nth zs (st zs k)) = true) : lgTo zs (k + 1) = lgTo zs k := by unfold lgTo; rw [liveTo_no h hf]
end

set_option maxHeartbeats 1000000 in
theorem planHasAll_any (F : Option Addr) (nf cf gm N : Nat) (zs fr : List Int) (w : World) (hnf : nf ≤ maxLen) (hfr : Arr .i64 w w.heap.size F nf fr) (hm : MapF Try.prog .i64 .i64 3 3 w gm N (lgOf zs)) :
    Calls Try.prog 119 #[.map (some gm), .slice F nf cf] w fun e w' => e = .returned (.bool (allIn zs fr)) ∧ w = w' := by
  have HP := Lib.hid hfr
  have HM := Lib.hid hm
  unfold maxLen at hnf
  clear hfr hm
  go_enter Try.func119, Try.ntmps119
  go_wp2_with fail
  go_loopw [11] (fun i wr => w = wr ∧ ∃ k : Nat, k ≤ nf ∧ i = .int .i64 k ∧ Hid (∀ i, i < k → nth fr i ∈ livesI zs)) (fun i _ => nf - (intOf i).toNat)
  case atStart => exact ⟨rfl, 0, Nat.zero_le _, rfl, fun i hi => absurd hi (by omega)⟩
  case round =>
    obtain ⟨rfl, k, hk, rfl, HI⟩ := hrel
    by_cases hlt : k < nf
    · obtain ⟨b, off, rfl, _, hcs⟩ := HP.out.2.2 (by omega)
      have hc := hcs k hlt
      have hlk := HM.out.lookOk longT (x := nth fr k) (HP.out.2.1 _ (nth_mem (by have := HP.out.1; omega)))
      rw [lgOf_isSome] at hlk
      clear hcs
      generalize (lgOf zs (nth fr k)).getD 0 = Y at *
      by_cases hin : nth fr k ∈ livesI zs
      · rw [show decide (nth fr k ∈ livesI zs) = true by simpa using hin] at hlk
        have HN : Hid (∀ i, i < k + 1 → nth fr i ∈ livesI zs) := fun i hi => by
          rcases Nat.lt_succ_iff_lt_or_eq.1 hi with h1 | h1
          · exact HI.out i h1
          · rw [h1]; exact hin
        clear hin HI
        generalize nth fr k = X at *
        go_wp2
        go_roundw
        case rel => exact ⟨by trivial, k + 1, by omega, by go_num, HN⟩
        case measure => simp [intOf]; omega
      · rw [show decide (nth fr k ∈ livesI zs) = false by simpa using hin] at hlk
        have HE : Hid (allIn zs fr = false) := by
          show _ = _
          cases he : allIn zs fr
          · rfl
          · exact absurd (allIn_iff.1 he _ (nth_mem (by have := HP.out.1; omega))) hin
        clear hin HI
        generalize nth fr k = X at *
        go_wp2
        go_ret
        exact ⟨by rw [HE.out]; rfl, rfl⟩
    · obtain rfl : k = nf := by omega
      have HE : Hid (allIn zs fr = true) := allIn_iff.2 fun x hx => by
        obtain ⟨i, hi, e⟩ := List.getElem_of_mem hx
        have := HI.out i (by have := HP.out.1; omega)
        rwa [nth_get _ _ hi, e] at this
      clear HI
      go_wp2
      go_ret
      exact ⟨by rw [HE.out]; rfl, rfl⟩


/-- What measure answers. -/
def MeasP (zs : List Int) (w : World) (e : Ending) (w' : World) : Prop := Below w.heap.size w w' ∧
  ((arErr zs ≠ 0 ∧ e = .returned (.tuple #[.map none, .int .i64 (arErr zs)])) ∨
   (arErr zs = 0 ∧ ∃ gm, e = .returned (.tuple #[.map (some gm), .int .i64 0]) ∧ MapF Try.prog .i64 .i64 3 3 w' gm 300 (lgOf zs)))
/-- What holds while it goes over the spots. -/
structure MeasI (zs : List Int) (w : World) (B1 gm : Nat) (A2 : Option Addr) (m k : Nat) (wr : World) : Prop where
  map : MapF Try.prog .i64 .i64 3 3 wr gm k (lgTo zs k)
  spots : ArrG spotC 5 wr B1 A2 m (spList zs)
  below : Below w.heap.size w wr
  o1 : w.heap.size ≤ gm
  o2 : B1 ≤ gm
section
variable {zs : List Int} {w wr wr' : World} {B1 gm m k : Nat} {A2 : Option Addr}
theorem MeasI.next (h : MeasI zs w B1 gm A2 m k wr) (hb : Below wr.heap.size wr wr') : MeasI zs w B1 gm A2 m k wr' :=
  ⟨h.map.below hb h.map.lt, h.spots.below hb (by have := h.map.lt; have := h.o2; omega), h.below.trans (hb.mono h.below.size), h.o1, h.o2⟩
theorem MeasI.free (h : MeasI zs w B1 gm A2 m k wr) (hk : k < (begins zs 0).length) (hf : vF (nth zs (st zs k)) = true) : MeasI zs w B1 gm A2 m (k + 1) wr :=
  ⟨by rw [lgTo_no hk hf]; exact h.map.mono (by omega), h.spots, h.below, h.o1, h.o2⟩
theorem MeasI.put (h : MeasI zs w B1 gm A2 m k wr) (hk : k < (begins zs 0).length) (hf : vF (nth zs (st zs k)) = false) (hm : MapF Try.prog .i64 .i64 3 3 wr' gm (k + 1) (put (lgTo zs k) (st zs k : Int) (lgI zs (st zs k : Int)))) (hg : wr.grownBy wr' (some gm)) : MeasI zs w B1 gm A2 m (k + 1) wr' :=
  ⟨by rw [lgTo_yes hk hf]; exact hm, h.spots.below (grown_below hg h.o2 (by have := h.map.lt; have := h.o2; omega)) (Nat.le_refl _), h.below.trans (grown_below hg h.o1 h.below.size), h.o1, h.o2⟩
end

set_option maxHeartbeats 400000 in
theorem planMeasure_bad (A : Option Addr) (n c : Nat) (zs : List Int) (w : World) (hn : n ≤ maxLen) (hnc : n ≤ c) (ha : Arr .u64 w w.heap.size A n zs) (h : arErr zs ≠ 0) :
    Calls Try.prog 117 #[.slice A n c] w (MeasP zs w) := by
  have HC := Lib.hid (Check_any A n c zs w hn hnc ha)
  unfold MeasP
  have H0 := Lib.hid h
  clear ha
  generalize arErr zs = E at *
  have hb : (E != 0) = true := by simpa using h
  clear h
  go_enter Try.func117, Try.ntmps117
  go_wp2_with fail
  refine HC.out.mono ?_
  rintro e w1 ⟨rfl, b1⟩
  have HB := Lib.hid b1
  clear b1
  go_wp2
  go_ret2
  exact ⟨HB.out, .inl ⟨H0.out, rfl⟩⟩

set_option maxRecDepth 8000 in
set_option maxHeartbeats 2000000 in
theorem planMeasure_good (A : Option Addr) (n c : Nat) (zs : List Int) (w : World) (hn : n ≤ maxLen) (hnc : n ≤ c) (ha : Arr .u64 w w.heap.size A n zs) (h : arErr zs = 0) :
    Calls Try.prog 117 #[.slice A n c] w (MeasP zs w) := by
  obtain ⟨hsp, hrf⟩ := arErr_zero h
  obtain ⟨h256, hfine⟩ := spErr_zero hsp
  have hl := ha.1
  have hwf := ha.2.1
  have hL := spList_ok hsp
  have hbl := begins_len (zs := zs) (a := 0)
  have hlen : (spList zs).length = (begins zs 0).length := by rw [hL]; simp
  obtain ⟨m, hm⟩ : ∃ m, (begins zs 0).length = m := ⟨_, rfl⟩
  rw [hm] at hlen hbl
  have hspot : ∀ k, k < m → nthG (spList zs) k = spOf zs (st zs k) ∧ st zs k < n := fun k hk => by
    have h1 := begins_mem (st_mem (zs := zs) (k := k) (by omega))
    exact ⟨by rw [hL, nthG_map _ _ _ (by omega)]; rfl, by omega⟩
  have HFT : Hid (∀ k, k < m → vF (nth zs (st zs k)) = false → hFault (vR (nth zs (st zs k))) (vB (nth zs (st zs k))) (vT (nth zs (st zs k))) false = 0 ∧ lgI zs (st zs k : Int) = 1 + vR (nth zs (st zs k)) + vB (nth zs (st zs k)) ∧ lgI zs (st zs k : Int) ≤ 256) := fun k hk hf => by
    obtain ⟨s, hse, h1, h2, h3, h4, h5, h6, h7, _, hf'⟩ := live_facts hwf (mem_lives.2 ⟨k, by omega, rfl, hf⟩)
    obtain rfl : st zs k = s := by omega
    rw [hf'] at h5
    have h8 : lgI zs (st zs k : Int) = (longN zs (st zs k) : Int) := by unfold lgI; rw [Int.toNat_natCast]
    exact ⟨h5, by rw [h8]; exact h6, by rw [h8]; omega⟩
  have HC := Lib.hid (Check_any A n c zs w hn hnc ha)
  rw [h] at HC
  have HA0 := Lib.hid ha
  have HAR := Lib.hid h
  have HE := Lib.hid hsp
  have HS := Lib.hid hspot
  have HM := Lib.hid hm
  clear ha h hsp hrf hfine hL hspot hm hwf
  have hmm := @run_makeMap Try.prog
  have hbl2 : m ≤ 256 := by omega
  have hn256 : n ≤ 256 := by omega
  clear h256 hl
  unfold MeasP
  go_enter Try.func117, Try.ntmps117
  go_wp2_with fail
  refine HC.out.mono ?_
  rintro e w0 ⟨rfl, b1⟩
  have HB0 := Lib.hid b1
  have HSP := Lib.hid (Spots_any A n c zs w0 hn ((HA0.out.below b1 (Nat.le_refl _)).more b1.size))
  clear b1 HC
  go_wp2_with fail
  refine HSP.out.mono ?_
  rintro e w1 ⟨A2, c2, rfl, b1, hc2, hA2, hi2⟩
  rw [HE.out]
  rw [hlen] at hA2 hc2 hi2 ⊢
  have HB1 := Lib.hid (HB0.out.trans (b1.mono HB0.out.size))
  have HA2 := Lib.hid hA2
  clear b1 HSP hA2 hc2 hi2 HB0
  go_wp2_with fail
  have bm : Below w1.heap.size w1 (w1.alloc (.map #[] 0)) := (Below.refl _ w1).alloc (Nat.le_refl _) _
  have HI : Hid (MeasI zs w w1.heap.size w1.heap.size A2 m 0 (w1.alloc (.map #[] 0))) :=
    ⟨by rw [lgTo_zero]; exact MapF.made Try.prog .i64 .i64 3 3 w1, HA2.out.below bm (Nat.le_refl _), HB1.out.trans (bm.mono HB1.out.size), HB1.out.size, Nat.le_refl _⟩
  clear bm hmm
  generalize (w1.alloc (.map #[] 0)) = W1 at *
  generalize w1.heap.size = gm at *
  go_loopw [26] (fun i wr => ∃ k : Nat, k ≤ m ∧ i = .int .i64 k ∧ Hid (MeasI zs w gm gm A2 m k wr)) (fun i _ => m - (intOf i).toNat)
  case atStart => exact ⟨0, by omega, rfl, HI⟩
  case round =>
    obtain ⟨k, hk, rfl, hI⟩ := hrel
    clear HI HA2 HB1
    by_cases hlt : k < m
    · obtain ⟨hs, hsn⟩ := HS.out k hlt
      have hkb : k < (begins zs 0).length := by rw [HM.out]; exact hlt
      obtain ⟨b, off, rfl, _, q0, q1, q2, q3, q4⟩ := hI.out.spots.spot hlt
      rw [hs] at q0 q1 q2 q3 q4
      unfold spOf at q0 q1 q2 q3 q4
      simp only at q0 q1 q2 q3 q4
      cases hf : vF (nth zs (st zs k))
      · obtain ⟨hF0, hFL, hF6⟩ := HFT.out k hlt hf
        have HF := Lib.hid hf
        have HKB := Lib.hid hkb
        rw [hf] at q4
        have HNX := Lib.hid (hI.out.next ((Below.refl _ wr).alloc (Nat.le_refl _) (.cells #[.int .i64 (st zs k), .int .i64 (vR (nth zs (st zs k))), .int .i64 (vB (nth zs (st zs k))), .int .i64 (vT (nth zs (st zs k))), .bool false] 80)))
        have HBX := Lib.hid (Box.new wr 80 #[.int .i64 (st zs k), .int .i64 (vR (nth zs (st zs k))), .int .i64 (vB (nth zs (st zs k))), .int .i64 (vT (nth zs (st zs k))), .bool false])
        have HL := Lib.hid (fun wx => lengthOk (vR (nth zs (st zs k))) (vB (nth zs (st zs k))) (vT (nth zs (st zs k))) false wx hF0)
        have HLG := Lib.hid hFL
        clear hf hs hI hkb hF0 hFL
        obtain ⟨s, hse⟩ : ∃ s, st zs k = s := ⟨_, rfl⟩
        have HSE := Lib.hid hse
        rw [hse] at q0 q1 q2 q3 HNX hsn HBX HL HLG hF6
        clear hse
        generalize vR (nth zs s) = R at *
        generalize vB (nth zs s) = Bd at *
        generalize vT (nth zs s) = T at *
        have hws : (Lit.int .i64 (s : Int)).wf = true := wf_i64.2 (by omega)
        have hwl : (Lit.int .i64 (1 + R + Bd)).wf = true := wf_i64.2 (by have := HLG.out; have h0 := (live_lg (mem_lives.2 ⟨k, HKB.out, rfl, HF.out⟩)).2.1; rw [HSE.out] at h0; omega)
        go_wp2_with fail
        obtain ⟨g, hg⟩ : ∃ g, wr.heap.size = g := ⟨_, rfl⟩
        rw [hg] at HBX
        rw [hg]
        clear hg q0 q1 q2 q3 q4
        have HNX := Lib.hid (HNX.out.next (below_drewN (Below.refl _ _) 1))
        have HBX : Hid (Box ((wr.alloc (.cells #[.int .i64 s, .int .i64 R, .int .i64 Bd, .int .i64 T, .bool false] 80)).drewN 1) g 80 #[.int .i64 s, .int .i64 R, .int .i64 Bd, .int .i64 T, .bool false]) := HBX.out
        refine wp_region_Y 9 (fun w' => w'.cell? ⟨g, 0, none⟩ = some (.int .i64 s) ∧ w'.cell? ⟨g, 1, none⟩ = some (.int .i64 R) ∧ w'.cell? ⟨g, 2, none⟩ = some (.int .i64 Bd) ∧ w'.cell? ⟨g, 3, none⟩ = some (.int .i64 T) ∧ w'.cell? ⟨g, 4, none⟩ = some (.bool false)) (by kernel_rfl) ?_
        change anyY _ _ _ _ _ _ _ _ _ ((wr.alloc (.cells #[.int .i64 s, .int .i64 R, .int .i64 Bd, .int .i64 T, .bool false] 80)).drewN 1)
        generalize ((wr.alloc (.cells #[.int .i64 s, .int .i64 R, .int .i64 Bd, .int .i64 T, .bool false] 80)).drewN 1) = W at *
        have hS0 : W.cell? ⟨g, 0, none⟩ = some (.int .i64 s) ∧ W.cell? ⟨g, 1, none⟩ = some (.int .i64 R) ∧ W.cell? ⟨g, 2, none⟩ = some (.int .i64 Bd) ∧ W.cell? ⟨g, 3, none⟩ = some (.int .i64 T) ∧ W.cell? ⟨g, 4, none⟩ = some (.bool false) := ⟨HBX.out.cell 0, HBX.out.cell 1, HBX.out.cell 2, HBX.out.cell 3, HBX.out.cell 4⟩
        refine anyY_pure (i := 0) (v := .map (some gm)) rfl rfl rfl (by kernel_rfl) (by kernel_rfl) (by kernel_rfl) (fun _ _ _ h => h) (Or.inl ⟨by rfl, fun wx _ => ?_⟩) (.inr hS0) ?_
        · go_simp
        refine anyY_pure (i := 1) (v := .pointer (some ⟨g, 0, none⟩)) rfl rfl rfl (by kernel_rfl) (by kernel_rfl) (by kernel_rfl) (fun _ _ _ h => h) (Or.inl ⟨by rfl, fun wx _ => ?_⟩) (.inr hS0) ?_
        · go_simp
        refine anyY_take (i := 2) (v := .int .i64 s) rfl rfl (by kernel_rfl) rfl (by kernel_rfl) (by kernel_rfl) (by kernel_rfl) (by kernel_rfl) (fun _ _ _ h => h) (Or.inl ⟨by rfl, fun wx hS => ?_⟩) hS0 ?_
        · obtain ⟨q1, q2, q3, q4, q5⟩ := hS
          go_simp
        refine anyY_pure (i := 3) (v := .pointer (some ⟨g, 1, none⟩)) rfl rfl rfl (by kernel_rfl) (by kernel_rfl) (by kernel_rfl) (fun _ _ _ h => h) (Or.inl ⟨by rfl, fun wx _ => ?_⟩) (.inr hS0) ?_
        · go_simp
        refine anyY_only (i := 4) (by kernel_rfl) ?_
        have HS0 := Lib.hid hS0
        obtain ⟨z0, z1, z2, z3, z4⟩ := hS0
        refine wpOp_step rfl fun K' hK' => ?_
        go_simp
        refine hK' _ _ ⟨.inr (.inr HS0.out), ?_⟩
        clear hK' z0 z1 z2 z3 z4
        refine anyY_only (i := 5) (by kernel_rfl) ?_
        refine wpOp_step rfl fun K' hK' => ?_
        go_simp
        refine (HL.out _).mono ?_
        rintro e w2 ⟨rfl, b2⟩
        have HNX3 := Lib.hid (HNX.out.next b2)
        have HBX3 := Lib.hid (HBX.out.below b2 HBX.out.lt)
        have hS2 : w2.cell? ⟨g, 0, none⟩ = some (.int .i64 s) ∧ w2.cell? ⟨g, 1, none⟩ = some (.int .i64 R) ∧ w2.cell? ⟨g, 2, none⟩ = some (.int .i64 Bd) ∧ w2.cell? ⟨g, 3, none⟩ = some (.int .i64 T) ∧ w2.cell? ⟨g, 4, none⟩ = some (.bool false) := ⟨HBX3.out.cell 0, HBX3.out.cell 1, HBX3.out.cell 2, HBX3.out.cell 3, HBX3.out.cell 4⟩
        refine hK' _ _ ⟨.inr (.inr hS2), ?_⟩
        clear hK' HNX HBX HS0 b2
        refine anyY_pure (i := 6) (v := .tuple #[.int .i64 (1 + R + Bd), .int .i64 0]) rfl rfl rfl (by kernel_rfl) (by kernel_rfl) (by kernel_rfl) (fun _ _ _ h => h) (Or.inl ⟨by rfl, fun wx _ => ?_⟩) (.inr hS2) ?_
        · go_simp
        refine anyY_pure (i := 7) (v := .int .i64 (1 + R + Bd)) rfl rfl rfl (by kernel_rfl) (by kernel_rfl) (by kernel_rfl) (fun _ _ _ h => h) (Or.inl ⟨by rfl, fun wx _ => ?_⟩) (.inr hS2) ?_
        · go_simp
        refine anyY_pure (i := 8) (v := .int .i64 0) rfl rfl rfl (by kernel_rfl) (by kernel_rfl) (by kernel_rfl) (fun _ _ _ h => h) (Or.inl ⟨by rfl, fun wx _ => ?_⟩) (.inr hS2) ?_
        · go_simp
        refine anyY_only (i := 9) (by kernel_rfl) ?_
        obtain ⟨w3, hrun, hm3, hg3⟩ := HNX3.out.map.store longT (by unfold maxLen; omega) hws hwl
        have HN : Hid (MeasI zs w gm gm (some ⟨b, off, none⟩) m (k + 1) w3) := HNX3.out.put HKB.out HF.out (by rw [HSE.out, HLG.out]; exact hm3) hg3
        clear hm3 hg3 hS2
        refine wpOp_step rfl fun K' hK' => ?_
        go_simp
        refine hK' _ _ ⟨.inr (.inl rfl), ?_⟩
        clear hK' hrun HNX3 HBX3
        refine anyY_pure (i := 10) (v := .int .i64 0) rfl rfl rfl (by kernel_rfl) (by kernel_rfl) (by kernel_rfl) (fun _ _ _ h => h) (Or.inl ⟨by rfl, fun wx _ => ?_⟩) (.inl (by kernel_rfl)) ?_
        · go_simp
        refine anyY_done (by kernel_rfl) ?_ _
        go_wp2
        go_roundw
        case rel => exact ⟨k + 1, by omega, by go_num, HN⟩
        case measure => simp [intOf]; omega
      · have HF := Lib.hid hf
        rw [hf] at q4
        have HNX := Lib.hid ((hI.out.next ((Below.refl _ wr).alloc (Nat.le_refl _) (.cells #[.int .i64 (st zs k), .int .i64 (vR (nth zs (st zs k))), .int .i64 (vB (nth zs (st zs k))), .int .i64 (vT (nth zs (st zs k))), .bool true] 80))).free hkb hf)
        clear hf hs hI hkb
        generalize vR (nth zs (st zs k)) = R at *
        generalize vB (nth zs (st zs k)) = Bd at *
        generalize vT (nth zs (st zs k)) = T at *
        generalize st zs k = s at *
        go_wp2
        go_roundw
        case rel => exact ⟨k + 1, by omega, by go_num, HNX⟩
        case measure => simp [intOf]; omega
    · obtain rfl : k = m := by omega
      have HX : Hid (lgTo zs k = lgOf zs) := Lib.hid (by rw [← HM.out]; exact lgTo_all)
      have HMP := Lib.hid (hI.out.map.mono (n' := 300) (by omega))
      rw [HX.out] at HMP
      have HBB := Lib.hid hI.out.below
      clear hI
      go_wp2
      go_ret2
      exact ⟨HBB.out, .inr ⟨HAR.out, gm, rfl, HMP.out⟩⟩
theorem planMeasure_any (A : Option Addr) (n c : Nat) (zs : List Int) (w : World) (hn : n ≤ maxLen) (hnc : n ≤ c) (ha : Arr .u64 w w.heap.size A n zs) :
    Calls Try.prog 117 #[.slice A n c] w (MeasP zs w) := by
  by_cases h : arErr zs = 0
  · exact planMeasure_good A n c zs w hn hnc ha h
  · exact planMeasure_bad A n c zs w hn hnc ha h


theorem zero_flat {α : Type} [Inhabited α] {enc : α → List Value} {size : Nat} (hs : ∀ a, (enc a).length = size) (h0 : 0 < size) {z : Array Value} (x : α) (hx : enc x = z.toList) (q : Nat) : Builtin.zeroCells z q = ((List.replicate q x).flatMap enc).toArray := by
  have hzs : z.size = size := by rw [← hs x, hx]; simp
  apply Array.ext
  · rw [size_zeroCells, hzs, List.size_toArray, flat_length hs, List.length_replicate]
  · intro i h1 h2
    have hi : i < q * size := by rwa [size_zeroCells, hzs] at h1
    have d1 : i / size < q := Nat.div_lt_of_lt_mul (by rw [Nat.mul_comm]; exact hi)
    have d2 := Nat.mod_lt i h0
    have d3 := Nat.div_add_mod' i size
    have h3 := flat_at hs (List.replicate q x) (i / size) (i % size) (by simpa using d1) d2
    rw [d3, nthG_get _ _ (by simpa using d1), List.getElem_replicate, hx, List.getElem?_eq_getElem (by rw [List.size_toArray] at h2; exact h2), List.getElem?_eq_getElem (by simp [hzs]; exact d2)] at h3
    injection h3 with h3
    refine Eq.trans ?_ h3.symm
    simp [Builtin.zeroCells, hzs, d2]
theorem OwnG.lessH {α : Type} {enc : α → List Value} {size : Nat} {e : TypeId} {w : World} {base : Nat} {l : List α} {v : Value} {base' : Nat} (h : OwnG enc size e w base v l) (hb : base' ≤ base) : OwnG enc size e w base' v l :=
  ⟨h.1, h.2.imp id fun ⟨g, cap, cur, h1, h2, r⟩ => ⟨g, cap, cur, h1, Nat.le_trans hb h2, r⟩⟩
/-- 'make([]T, n)' of structs. -/
theorem run_made_rows {α : Type} [Inhabited α] {enc : α → List Value} {size : Nat} (hs : ∀ a, (enc a).length = size) (h0 : 0 < size) {P : Program} {t e : TypeId} (ht : P.underlying t = some (.slice e)) {z : Value} {bytes : Nat}
    (hinfo : (P.info? e).map (fun i => (i.zero, i.size, i.bytes)) = some (some z, size, bytes)) {x0 : α} (hx0 : enc x0 = z.cells.toList) (n : Nat) (hn : n * bytes ≤ 281474976710656) (hm : n ≤ maxLen) (w : World) :
    ∃ w', Sem.run P (Instr.makeSlice t (.int .i64 (n : Int)) (.int .i64 (n : Int))) w = .ok (.slice (some ⟨w.heap.size, 0, none⟩) n n) w' ∧ OwnG enc size e w' w.heap.size (.slice (some ⟨w.heap.size, 0, none⟩) n n) (List.replicate n x0) ∧ Below w.heap.size w w' := by
  obtain ⟨i, hi, hz, hs', hby⟩ := info_parts hinfo
  have hb' : (i.bytes : Int) * (n : Int) ≤ 281474976710656 := by
    have h : ((i.bytes * n : Nat) : Int) ≤ 281474976710656 := by rw [hby, Nat.mul_comm]; omega
    rwa [Int.natCast_mul] at h
  have hr := run_make (P := P) w t e i z ht hi hz .i64 .i64 n n (by omega) (Int.le_refl _) hb' (by unfold maxLen at hm; omega)
  simp only [Int.toNat_natCast] at hr
  have e1 : madeCells z.cells (n * i.size) = ((List.replicate n x0).flatMap enc).toArray := by
    rw [← zero_flat hs h0 (z := z.cells) x0 hx0, hs', Builtin.zeroCells, madeCells]
    have : z.cells.size = size := by rw [← hs x0, hx0]; simp
    rw [this]
  rw [e1] at hr
  refine ⟨_, hr, ⟨flat_length hs _, .inr ⟨w.heap.size, n, ((List.replicate n x0).flatMap enc).toArray, by simp, Nat.le_refl _, heap_alloc_new w _, by simp, hm, ?_, ?_⟩⟩, (Below.refl _ w).alloc (Nat.le_refl _) _⟩
  · rw [List.size_toArray, flat_length hs, List.length_replicate]
  · rw [List.toList_toArray, List.take_of_length_le (by rw [flat_length hs]; exact Nat.le_refl _)]


theorem planRun : (Try.prog.info? 64).map (fun i => (i.zero, i.size, i.bytes)) = some (some (.agg #[.int .i64 0, .int .i64 0]), 2, 16) := by kernel_rfl
/-- 'r' at place 'p' of a slice of ranges. -/
def putR2 (w : World) (g p : Nat) (x : Int × Int) : World := (w.setCell ⟨g, p * 2, none⟩ (.int .i64 x.1)).setCell ⟨g, p * 2 + 1, none⟩ (.int .i64 x.2)
section
variable {e : TypeId} {w w' : World} {base g n c : Nat} {l : List (Int × Int)}
theorem OwnG.oneR (h : OwnG runC 2 e w base (.slice (some ⟨g, 0, none⟩) n c) l) (j i : Nat) (a : Int × Int) (u : Value) (hj : j < l.length) (hi : i < 2) (he : runC a = (runC (nthG l j)).set i u) :
    OwnG runC 2 e (w.setCell ⟨g, j * 2 + i, none⟩ u) base (.slice (some ⟨g, 0, none⟩) n c) (l.set j a) := by
  obtain ⟨g', cap', hv, _, _, _, _, hs⟩ := h.form runC_len (by omega)
  injection hv with e1 e2 e3
  injection e1 with e1
  injection e1 with e1
  subst e1
  exact hs j i a u hj hi he
theorem OwnG.putR2 (h : OwnG runC 2 e w base (.slice (some ⟨g, 0, none⟩) n c) l) (p : Nat) (x : Int × Int) (hp : p < l.length) : OwnG runC 2 e (putR2 w g p x) base (.slice (some ⟨g, 0, none⟩) n c) (l.set p x) := by
  have s0 := h.oneR p 0 (x.1, (nthG l p).2) (.int .i64 x.1) hp (by omega) rfl
  have s1 := s0.oneR p 1 x (.int .i64 x.2) (by simpa using hp) (by omega) (by rw [nthG_set_same _ _ _ hp]; rfl)
  rw [List.set_set] at s1
  exact s1
theorem OwnG.atR (h : OwnG runC 2 e w base (.slice (some ⟨g, 0, none⟩) n c) l) {p : Nat} (hp : p < l.length) : base ≤ g ∧ g < w.heap.size ∧
    (w.cell? ⟨g, p * 2, none⟩ = some (.int .i64 (nthG l p).1) ∧ w.cell? ⟨g, p * 2 + 1, none⟩ = some (.int .i64 (nthG l p).2)) ∧ (w.frozen? ⟨g, p * 2, none⟩ = false ∧ w.frozen? ⟨g, p * 2 + 1, none⟩ = false) := by
  obtain ⟨g', cap, hv, _, hb, hlt, hc, _⟩ := h.form runC_len (by omega)
  injection hv with e1 e2 e3
  injection e1 with e1
  injection e1 with e1
  subst e1
  exact ⟨hb, hlt, ⟨(hc p hp 0 (by omega)).1, (hc p hp 1 (by omega)).1⟩, (hc p hp 0 (by omega)).2, (hc p hp 1 (by omega)).2⟩
theorem putR2_below {B : Nat} {a : World} (h : Below B a w) (hg : B ≤ g) (p : Nat) (x : Int × Int) : Below B a (putR2 w g p x) := below_set (below_set h hg _ _) hg _ _
end

/-- What is in the list of moved ranges when the first 'k' are. -/
def mvAt (zs ks ps : List Int) (n k : Nat) : List (Int × Int) := moveTo zs ks ps k ++ List.replicate (n - k) ((0, 0) : Int × Int)
section
variable {zs ks ps : List Int} {n k : Nat}
theorem mvAt_len (h : k ≤ n) : (mvAt zs ks ps n k).length = n := by unfold mvAt; rw [List.length_append, moveTo_len, List.length_replicate]; omega
theorem mvAt_zero : mvAt zs ks ps n 0 = List.replicate n (0, 0) := by unfold mvAt; simp [moveTo]
theorem mvAt_all : mvAt zs ks ps ks.length ks.length = moveL zs ks ps := by unfold mvAt; simp [moveL]
theorem mvAt_set (h : k < n) : (mvAt zs ks ps n k).set k (toN zs ks ps k, lgI zs (nth ks k)) = mvAt zs ks ps n (k + 1) := by
  unfold mvAt
  rw [moveTo_succ, List.set_append_right _ _ (by rw [moveTo_len]; exact Nat.le_refl _), moveTo_len, Nat.sub_self, show n - k = (n - (k + 1)) + 1 by omega, List.replicate_succ, List.set_cons_zero, List.append_assoc]
  rfl
end
/-- What move answers. -/
def PlanMvP (zs ks ps : List Int) (w : World) (e : Ending) (w' : World) : Prop := Below w.heap.size w w' ∧
  ((planE zs ks ps ≠ 0 ∧ e = .returned (.tuple #[.slice none 0 0, .int .i64 (planE zs ks ps)])) ∨
   (planE zs ks ps = 0 ∧ ∃ g, e = .returned (.tuple #[.slice (some ⟨g, 0, none⟩) ks.length ks.length, .int .i64 0]) ∧ OwnG runC 2 64 w' w.heap.size (.slice (some ⟨g, 0, none⟩) ks.length ks.length) (moveL zs ks ps)))
/-- What holds while it goes over what is kept. -/
structure MvI (zs ks ps : List Int) (w : World) (gm g k : Nat) (wr : World) : Prop where
  map : MapF Try.prog .i64 .i64 3 3 wr gm 300 (lgOf zs)
  own : OwnG runC 2 64 wr w.heap.size (.slice (some ⟨g, 0, none⟩) ks.length ks.length) (mvAt zs ks ps ks.length k)
  below : Below w.heap.size w wr
  apart : gm ≠ g
theorem MvI.put {zs ks ps : List Int} {w wr : World} {gm g k : Nat} (h : MvI zs ks ps w gm g k wr) (hk : k < ks.length) {T L : Int} (hT : toN zs ks ps k = T) (hL : lgI zs (nth ks k) = L) : MvI zs ks ps w gm g (k + 1) (putR2 wr g k (T, L)) := by
  have hlen := mvAt_len (zs := zs) (ks := ks) (ps := ps) (Nat.le_of_lt hk)
  have h1 := h.own.putR2 k (T, L) (by rw [hlen]; exact hk)
  rw [← hT, ← hL, mvAt_set hk, hT, hL] at h1
  exact ⟨(h.map.setOther h.apart.symm _ _).setOther h.apart.symm _ _, h1, putR2_below h.below (h.own.atR (p := k) (by rw [hlen]; exact hk)).1 k (T, L), h.apart⟩

set_option maxRecDepth 8000 in
set_option maxHeartbeats 4000000 in
theorem planMove_any (A K P : Option Addr) (n c nk ck np cp : Nat) (zs ks ps : List Int) (w : World) (hn : n ≤ maxLen) (hnc : n ≤ c) (ha : Arr .u64 w w.heap.size A n zs) (hnk : nk ≤ maxLen) (hk : Arr .i64 w w.heap.size K nk ks) (hnp : np ≤ maxLen) (hp : Arr .i64 w w.heap.size P np ps) :
    Calls Try.prog 105 #[.slice A n c, .slice K nk ck, .slice P np cp] w (PlanMvP zs ks ps w) := by
  have HM := Lib.hid (planMeasure_any A n c zs w hn hnc ha)
  have HK := Lib.hid hk
  have HP := Lib.hid hp
  have HI : Hid (∀ wx, Below w.heap.size w wx → Calls Try.prog 118 #[.slice K nk ck] wx fun e w' => e = .returned (.bool (riseB ks)) ∧ ∃ q, wx.drewN q = w') := fun wx hb => increasing_any K nk ck _ ks wx hnk (HK.out.below hb (Nat.le_refl _))
  have HJ : Hid (∀ wx, Below w.heap.size w wx → Calls Try.prog 118 #[.slice P np cp] wx fun e w' => e = .returned (.bool (riseB ps)) ∧ ∃ q, wx.drewN q = w') := fun wx hb => increasing_any P np cp _ ps wx hnp (HP.out.below hb (Nat.le_refl _))
  unfold PlanMvP
  clear ha hk hp
  go_enter Try.func105, Try.ntmps105
  go_wp2_with fail
  refine HM.out.mono ?_
  rintro e w1 ⟨b1, h⟩
  have HB1 := Lib.hid b1
  clear b1 HM
  rcases h with ⟨h0, rfl⟩ | ⟨h0, gm, rfl, hm⟩
  · have hea := (planE_arena (zs := zs) (ks := ks) (ps := ps) h0).symm
    rw [hea] at h0 ⊢
    clear hea
    obtain ⟨E, hE⟩ : ∃ E, planE zs ks ps = E := ⟨_, rfl⟩
    have HPE := Lib.hid hE
    rw [hE] at h0 ⊢
    clear hE
    have H0 := Lib.hid h0
    have hb : (E != 0) = true := by simpa using h0
    clear h0 HI HJ HK HP
    go_wp2
    go_ret2
    exact ⟨HB1.out, .inl ⟨by rw [HPE.out]; exact H0.out, by rw [HPE.out]; rfl⟩⟩
  · have H0 := Lib.hid h0
    have HMP := Lib.hid hm
    have HC1 := Lib.hid (HI.out w1 HB1.out)
    clear h0 hm HI
    cases hr1 : riseB ks
    · rw [hr1] at HC1
      have HE : Hid (planE zs ks ps = 3) := planE_form H0.out (by rw [hr1]; rfl)
      clear hr1 HJ HK HP
      go_wp2_with fail
      refine HC1.out.mono ?_
      rintro e w2 ⟨rfl, q, rfl⟩
      have HB2 : Hid (Below w.heap.size w (w1.drewN q)) := below_drewN HB1.out q
      go_wp2
      go_ret2
      exact ⟨HB2.out, .inl ⟨by rw [HE.out]; decide, by rw [HE.out]; rfl⟩⟩
    · rw [hr1] at HC1
      have HR1 := Lib.hid hr1
      clear hr1
      go_wp2_with fail
      refine HC1.out.mono ?_
      rintro e w2 ⟨rfl, q, hq⟩
      have HB2 : Hid (Below w.heap.size w w2) := by show Below _ _ _; rw [← hq]; exact below_drewN HB1.out q
      have HMP2 : Hid (MapF Try.prog .i64 .i64 3 3 w2 gm 300 (lgOf zs)) := by show MapF _ _ _ _ _ _ _ _ _; rw [← hq]; exact HMP.out.drewN q
      clear hq HB1 HMP HC1
      have HC2 := Lib.hid (HJ.out w2 HB2.out)
      clear HJ
      cases hr2 : riseB ps
      · rw [hr2] at HC2
        have HE : Hid (planE zs ks ps = 3) := planE_form H0.out (by rw [HR1.out, hr2]; rfl)
        clear hr2 HK HP
        go_wp2_with fail
        refine HC2.out.mono ?_
        rintro e w3 ⟨rfl, q, rfl⟩
        have HB3 : Hid (Below w.heap.size w (w2.drewN q)) := below_drewN HB2.out q
        go_wp2
        go_ret2
        exact ⟨HB3.out, .inl ⟨by rw [HE.out]; decide, by rw [HE.out]; rfl⟩⟩
      · rw [hr2] at HC2
        have HR : Hid ((riseB ks && riseB ps) = true) := by show _ = _; rw [HR1.out, hr2]; rfl
        have HRK := Lib.hid (riseB_iff.1 HR1.out)
        have HRP := Lib.hid (riseB_iff.1 hr2)
        clear hr2 HR1
        go_wp2_with fail
        refine HC2.out.mono ?_
        rintro e w3 ⟨rfl, q, hq⟩
        have HB3 : Hid (Below w.heap.size w w3) := by show Below _ _ _; rw [← hq]; exact below_drewN HB2.out q
        have HMP3 : Hid (MapF Try.prog .i64 .i64 3 3 w3 gm 300 (lgOf zs)) := by show MapF _ _ _ _ _ _ _ _ _; rw [← hq]; exact HMP2.out.drewN q
        clear hq HB2 HMP2 HC2
        have HC3 := Lib.hid (planHasAll_any K nk ck gm 300 zs ks w3 hnk ((HK.out.below HB3.out (Nat.le_refl _)).more HB3.out.size) HMP3.out)
        have HC4 := Lib.hid (planContainsAll_any K P nk ck np cp _ ks ps w3 hnk hnp (HK.out.below HB3.out (Nat.le_refl _)) (HP.out.below HB3.out (Nat.le_refl _)) HRK.out)
        cases hr3 : allIn zs ks
        · rw [hr3] at HC3
          have HE : Hid (planE zs ks ps = 5) := planE_none H0.out HR.out (by rw [hr3]; rfl)
          clear hr3 HK HP HC4
          go_wp2_with fail
          refine HC3.out.mono ?_
          rintro e w4 ⟨rfl, rfl⟩
          go_wp2
          go_ret2
          exact ⟨HB3.out, .inl ⟨by rw [HE.out]; decide, by rw [HE.out]; rfl⟩⟩
        · rw [hr3] at HC3
          have HR3 := Lib.hid hr3
          clear hr3
          go_wp2_with fail
          refine HC3.out.mono ?_
          rintro e w4 ⟨rfl, rfl⟩
          clear HC3
          cases hr4 : subB ks ps
          · rw [hr4] at HC4
            have HE : Hid (planE zs ks ps = 5) := planE_none H0.out HR.out (by rw [HR3.out, hr4]; rfl)
            clear hr4 HK HP
            go_wp2_with fail
            refine HC4.out.mono ?_
            rintro e w4 ⟨rfl, rfl⟩
            go_wp2
            go_ret2
            exact ⟨HB3.out, .inl ⟨by rw [HE.out]; decide, by rw [HE.out]; rfl⟩⟩
          · rw [hr4] at HC4
            have HE : Hid (planE zs ks ps = 0) := planE_ok H0.out HR.out (by rw [HR3.out, hr4]; rfl)
            have HOK := Lib.hid (planE_zero.1 HE.out)
            have hkl := HK.out.1
            have hk256 : nk ≤ 256 := by have := HOK.out.len; omega
            have hn256 := arena_len H0.out
            obtain ⟨w5, hrun, hO, hB⟩ := run_made_rows (P := Try.prog) (t := 59) runC_len (by omega) Try.underlying59 planRun (x0 := ((0, 0) : Int × Int)) rfl nk (by omega) (by unfold maxLen; omega) w3
            have HI5 : Hid (MvI zs ks ps w gm w3.heap.size 0 w5) := ⟨HMP3.out.below hB HMP3.out.lt, by rw [hkl, mvAt_zero]; exact hO.lessH HB3.out.size, HB3.out.trans (hB.mono HB3.out.size), by have := HMP3.out.lt; omega⟩
            clear hO hB hr4 HR3 HR HMP3
            go_wp2_with fail
            refine HC4.out.mono ?_
            rintro e w4 ⟨rfl, rfl⟩
            clear HC4
            obtain ⟨g, hg⟩ : ∃ g, w3.heap.size = g := ⟨_, rfl⟩
            rw [hg] at HI5 hrun
            clear hg
            go_wp2_with fail
            go_loopw [11, 46] (fun s i wr => ∃ k : Nat, k ≤ nk ∧ i = .int .i64 k ∧ s = .int .i64 (endN zs ks ps k) ∧ Hid (MvI zs ks ps w gm g k wr)) (fun _ i _ => nk - (intOf i).toNat)
            case atStart => exact ⟨0, Nat.zero_le _, rfl, rfl, HI5⟩
            case round =>
              obtain ⟨k, hkn, rfl, rfl, hI⟩ := hrel
              clear HI5 hrun HB3
              by_cases hlt : k < nk
              · have hb1 := hI.out.below
                obtain ⟨b, off, rfl, _, hcs⟩ := (HK.out.below hb1 (Nat.le_refl _)).2.2 (by omega)
                have hc := hcs k hlt
                have HCT := Lib.hid (planContains_any P np cp _ ps (nth ks k) wr hnp (HP.out.below hb1 (Nat.le_refl _)) HRP.out)
                have hlv := HOK.out.live (i := k) (by omega)
                have hto := HOK.out.to (i := k) (by omega)
                have hft := HOK.out.fits (i := k) (by omega)
                have hen := (HOK.out.ends k (by omega)).1
                have hes := HOK.out.live (i := k) (by omega)
                have hxw := HK.out.2.1 _ (nth_mem (l := ks) (j := k) (by omega))
                have hl1 := hI.out.map.look longT (x := nth ks k) hxw
                rw [lgOf_in hlv] at hl1
                have hES : Hid (endN zs ks ps (k + 1) = toN zs ks ps k + lgI zs (nth ks k)) := endN_succ
                obtain ⟨L, hL⟩ : ∃ L, lgI zs (nth ks k) = L := ⟨_, rfl⟩
                obtain ⟨T, hT⟩ : ∃ T, toN zs ks ps k = T := ⟨_, rfl⟩
                have HN := Lib.hid (hI.out.put (by omega) hT hL)
                have hl2 := HN.out.map.look longT (x := nth ks k) hxw
                rw [lgOf_in hlv, hL] at hl2
                rw [hL] at hl1 hft hES
                rw [hT] at hto hft hES
                have hTp := toN_pin (zs := zs) (ks := ks) (ps := ps) (i := k)
                have hTm := toN_move (zs := zs) (ks := ks) (ps := ps) (i := k)
                rw [hT] at hTp hTm
                obtain ⟨_, _, ⟨c0, c1⟩, f0, f1⟩ := hI.out.own.atR (p := k) (by rw [mvAt_len (by omega)]; omega)
                have e1 : wrap64 (T + L) = T + L := by unfold wrap64; omega
                unfold putR2 at hl2 HN
                simp only at hl2 HN
                clear hcs hlv hes hxw hL hT hb1 hI
                generalize (nthG (mvAt zs ks ps ks.length k) k).1 = O1 at *
                generalize (nthG (mvAt zs ks ps ks.length k) k).2 = O2 at *
                by_cases hin : nth ks k ∈ ps
                · rw [show decide (nth ks k ∈ ps) = true by simpa using hin] at HCT
                  have hx := hTp hin
                  clear hTp hTm hin
                  rw [hkl] at *
                  generalize nth ks k = X at *
                  subst hx
                  generalize endN zs ks ps k = En at *
                  go_wp2_with fail
                  refine HCT.out.mono ?_
                  rintro e w6 ⟨rfl, rfl⟩
                  go_wp2
                  go_roundw
                  case rel => exact ⟨k + 1, by omega, by go_num, by rw [hES.out], HN⟩
                  case measure => simp [intOf]; omega
                · rw [show decide (nth ks k ∈ ps) = false by simpa using hin] at HCT
                  have hx := hTm hin
                  clear hTp hTm hin
                  rw [hkl] at *
                  generalize nth ks k = X at *
                  generalize endN zs ks ps k = En at *
                  subst hx
                  go_wp2_with fail
                  refine HCT.out.mono ?_
                  rintro e w6 ⟨rfl, rfl⟩
                  go_wp2
                  go_roundw
                  case rel => exact ⟨k + 1, by omega, by go_num, by rw [hES.out], HN⟩
                  case measure => simp [intOf]; omega
              · obtain rfl : k = nk := by omega
                have HO := Lib.hid hI.out.own
                have HBB := Lib.hid hI.out.below
                rw [hkl] at HO
                have HAL := Lib.hid (mvAt_all (zs := zs) (ks := ks) (ps := ps))
                rw [hkl] at HAL
                rw [HAL.out] at HO
                clear hI HAL
                go_wp2
                go_ret2
                exact ⟨HBB.out, .inr ⟨HE.out, g, by rw [hkl]; rfl, by rw [hkl]; exact HO.out⟩⟩

/-- What between answers. -/
def BetwP (l : List (Int × Int)) (n : Int) (B : Nat) (w : World) (e : Ending) (w' : World) : Prop := ∃ v, e = .returned v ∧ OwnG runC 2 64 w' B v (betwL l n) ∧ Below B w w'
theorem gapsB_len {l : List (Int × Int)} : ∀ i, (gapsB l i).length ≤ i
  | 0 => Nat.zero_le _
  | i + 1 => by
    have := gapsB_len (l := l) i
    show (gapsB l i ++ _).length ≤ _
    rw [List.length_append]
    split
    · simp; omega
    · simp; omega
theorem gapsB_yes {l : List (Int × Int)} {i : Nat} (h : bEnd l i < (nthG l i).1) : gapsB l (i + 1) = gapsB l i ++ [(bEnd l i, (nthG l i).1 - bEnd l i)] := by
  show gapsB l i ++ _ = _
  rw [if_pos h]
theorem gapsB_no {l : List (Int × Int)} {i : Nat} (h : ¬ bEnd l i < (nthG l i).1) : gapsB l (i + 1) = gapsB l i := by
  show gapsB l i ++ _ = _
  rw [if_neg h, List.append_nil]
theorem bEnd_succ {l : List (Int × Int)} {i : Nat} : bEnd l (i + 1) = (nthG l i).1 + (nthG l i).2 := rfl
/-- Small numbers. -/
def SmallR (l : List (Int × Int)) : Prop := ∀ k, k < l.length → 0 ≤ (nthG l k).1 ∧ (nthG l k).1 ≤ 256 ∧ 0 ≤ (nthG l k).2 ∧ (nthG l k).2 ≤ 256
theorem SmallR.end_ {l : List (Int × Int)} (h : SmallR l) : ∀ {k : Nat}, k ≤ l.length → 0 ≤ bEnd l k ∧ bEnd l k ≤ 512
  | 0, _ => ⟨Int.le_refl _, by show (0 : Int) ≤ 512; decide⟩
  | k + 1, hk => by
    have := h k (by omega)
    rw [bEnd_succ]
    omega
/-- What holds while it goes over the ranges. -/
structure BtI (L : List (Int × Int)) (B B1 : Nat) (w w1 : World) (v : Value) (k : Nat) (wr : World) : Prop where
  own : OwnG runC 2 64 wr B1 v (gapsB L k)
  below : Below B w wr
  later : Below B1 w1 wr

set_option maxRecDepth 8000 in
set_option maxHeartbeats 2000000 in
theorem planBetween_any (A : Option Addr) (m c B n : Nat) (l : List (Int × Int)) (w : World) (ho : OwnG runC 2 64 w B (.slice A m c) l) (hl : l.length = m) (hm : m ≤ 256) (hB : B ≤ w.heap.size) (hs : SmallR (l ++ [((n : Int), 0)])) :
    Calls Try.prog 106 #[.slice A m c, .int .i64 n] w (BetwP l n B w) := by
  obtain ⟨v1, w1, hrun, hO, hB1⟩ := ho.push (P := Try.prog) (t := 59) (ty := 59) runC_len runC_one (by omega) Try.underlying59 planRun rfl (by omega) ((n : Int), (0 : Int)) (by omega) hB
  obtain ⟨A1, c1, rfl, _, hA1⟩ := hO.arr runC_len
  obtain ⟨L, hL⟩ : ∃ L, l ++ [((n : Int), (0 : Int))] = L := ⟨_, rfl⟩
  have hLl : L.length = m + 1 := by rw [← hL]; simp [hl]
  have HBL : Hid (betwL l n = gapsB L (m + 1)) := by show _ = _; unfold betwL; rw [hL, hl]
  rw [hL] at hs hA1
  rw [show (l ++ [((n : Int), (0 : Int))]).length = m + 1 by simp [hl]] at hrun
  rw [hLl] at hA1
  have HLL := Lib.hid hLl
  have HS := Lib.hid hs
  have HA := Lib.hid hA1
  have HI : Hid (BtI L B w1.heap.size w w1 (.slice none 0 0) 0 w1) := ⟨OwnG.nil, hB1, Below.refl _ _⟩
  have HBW : Hid (B ≤ w.heap.size) := hB
  have HB1S : Hid (B ≤ w1.heap.size) := Nat.le_trans hB hB1.size
  unfold BetwP
  clear ho hl hB hs hO hB1 hA1 hLl hL
  have HR := Lib.hid hrun
  clear hrun
  go_enter Try.func106, Try.ntmps106
  go_wp2_with (at_builtin; refine wpList_append_run rfl (.tmp 9) (.tmp 12) 59 rfl rfl rfl HR.out ?_)
  clear HR
  go_loopw [5, 6, 15] (fun v e i wr => ∃ (k : Nat) (u : Value), k ≤ m + 1 ∧ i = .int .i64 k ∧ e = .int .i64 (bEnd L k) ∧ u = v ∧ Hid (BtI L B w1.heap.size w w1 u k wr)) (fun _ _ i _ => m + 1 - (intOf i).toNat)
  case atStart => exact ⟨0, _, Nat.zero_le _, rfl, rfl, rfl, HI⟩
  case round =>
    obtain ⟨k, u, hkn, rfl, rfl, rfl, hI⟩ := hrel
    clear HI
    have hlen := gapsB_len (l := L) k
    by_cases hlt : k < m + 1
    · obtain ⟨b, off, rfl, _, hc0, hc1⟩ := (HA.out.below hI.out.later (Nat.le_refl _)).run hlt
      obtain ⟨hx0, hx1, hy0, hy1⟩ := HS.out k (by have := HLL.out; omega)
      obtain ⟨he0, he1⟩ := HS.out.end_ (k := k) (by have := HLL.out; omega)
      have hES := Lib.hid (bEnd_succ (l := L) (i := k))
      have HY := Lib.hid (gapsB_yes (l := L) (i := k))
      have HN := Lib.hid (gapsB_no (l := L) (i := k))
      have hk' : (k : Int) < (m : Int) + 1 := by omega
      generalize (nthG L k).1 = X at *
      generalize (nthG L k).2 = Y at *
      generalize bEnd L k = E at *
      have e1 : wrap64 (X + Y) = X + Y := by unfold wrap64; omega
      have e2 : wrap64 (X - E) = X - E := by unfold wrap64; omega
      by_cases hx : E < X
      · have c1 : (E < X) = True := eq_true hx
        have HG := Lib.hid (HY.out hx)
        have b2 := (Below.refl _ wr).alloc (Nat.le_refl _) (.cells #[.int .i64 X, .int .i64 Y] 64)
        have HBX := Lib.hid (Box.new wr 64 #[.int .i64 X, .int .i64 Y])
        obtain ⟨v', w', hrun, hO', hB', hK, _⟩ := (hI.out.own.below b2).pushK (P := Try.prog) (t := 59) (ty := 59) runC_len runC_one (by omega) Try.underlying59 planRun rfl (by omega) (E, X - E) (by omega) (Nat.le_trans hI.out.later.size b2.size)
        have hbx : Box w' wr.heap.size 64 #[.int .i64 X, .int .i64 Y] := (hK _ (by simp) (fun e => by have := hI.out.own.rowLt _ e; omega)).trans HBX.out
        have HI2 : Hid (BtI L B w1.heap.size w w1 v' (k + 1) w') :=
          ⟨by rw [HG.out]; exact hO', (hI.out.below.trans (b2.mono (Nat.le_trans HBW.out hI.out.below.size))).trans (hB'.mono HB1S.out), (hI.out.later.trans (b2.mono hI.out.later.size)).trans hB'⟩
        have hg0 : w'.cell? ⟨wr.heap.size, 0, none⟩ = some (.int .i64 X) := hbx.cell 0
        have hg1 : w'.cell? ⟨wr.heap.size, 1, none⟩ = some (.int .i64 Y) := hbx.cell 1
        rw [show (wr.alloc (.cells #[.int .i64 X, .int .i64 Y] 64)).heap.size = wr.heap.size + 1 by simp] at hrun
        have HR := Lib.hid hrun
        clear hrun hI HY HN hx b2 hO' hB' hK hbx HBX
        go_wp2_with (at_builtin; refine wpList_append_run rfl (.tmp 23) (.tmp 30) 59 rfl rfl rfl HR.out ?_)
        go_roundw
        case rel => exact ⟨k + 1, _, by omega, by go_num, by rw [hES.out], rfl, HI2⟩
        case measure => simp [intOf]; omega
      · have c1 : (E < X) = False := eq_false hx
        have HG := Lib.hid (HN.out hx)
        have HI2 : Hid (BtI L B w1.heap.size w w1 u (k + 1) (wr.alloc (.cells #[.int .i64 X, .int .i64 Y] 64))) := by
          have b2 := (Below.refl _ wr).alloc (Nat.le_refl _) (.cells #[.int .i64 X, .int .i64 Y] 64)
          exact ⟨by rw [HG.out]; exact hI.out.own.below b2, hI.out.below.trans (b2.mono (Nat.le_trans HBW.out hI.out.below.size)), hI.out.later.trans (b2.mono hI.out.later.size)⟩
        clear hI HY HN hx
        go_wp2
        go_roundw
        case rel => exact ⟨k + 1, _, by omega, by go_num, by rw [hES.out], rfl, HI2⟩
        case measure => simp [intOf]; omega
    · obtain rfl : k = m + 1 := by omega
      have HO := Lib.hid hI.out.own
      have HBB := Lib.hid hI.out.below
      clear hI
      go_wp2
      go_ret
      exact ⟨_, rfl, by rw [HBL.out]; exact HO.out.lessH HB1S.out, HBB.out⟩

theorem PlanOk.small {zs ks ps : List Int} (h : PlanOk zs ks ps) : SmallR (moveL zs ks ps ++ [((zs.length : Int), 0)]) := fun k hk => by
  have h256 := arena_len h.arena
  rw [List.length_append, moveL_len, List.length_singleton] at hk
  rcases Nat.lt_succ_iff_lt_or_eq.1 hk with h1 | h1
  · rw [move_nth h1]
    have := h.fits h1
    show 0 ≤ toN zs ks ps k ∧ toN zs ks ps k ≤ 256 ∧ 0 ≤ lgI zs (nth ks k) ∧ lgI zs (nth ks k) ≤ 256
    omega
  · subst h1
    rw [move_last]
    show (0 : Int) ≤ zs.length ∧ (zs.length : Int) ≤ 256 ∧ (0 : Int) ≤ 0 ∧ (0 : Int) ≤ 256
    omega
/-- What Gaps, To answer. -/
def PlanGpP (zs ks ps : List Int) (w : World) (e : Ending) (w' : World) : Prop := ∃ A m c, e = .returned (.tuple #[.slice A m c, .int .i64 (planE zs ks ps)]) ∧ Below w.heap.size w w' ∧ ArrG runC 2 w' w'.heap.size A m (gapR zs ks ps)
def PlanToP (zs ks ps : List Int) (w : World) (e : Ending) (w' : World) : Prop := ∃ A m c, e = .returned (.tuple #[.slice A m c, .int .i64 (planE zs ks ps)]) ∧ Below w.heap.size w w' ∧ Arr .i64 w' w'.heap.size A m (toR zs ks ps)

set_option maxHeartbeats 1000000 in
theorem planGaps_any (A K P : Option Addr) (n c nk ck np cp : Nat) (zs ks ps : List Int) (w : World) (hn : n ≤ maxLen) (hnc : n ≤ c) (ha : Arr .u64 w w.heap.size A n zs) (hnk : nk ≤ maxLen) (hk : Arr .i64 w w.heap.size K nk ks) (hnp : np ≤ maxLen) (hp : Arr .i64 w w.heap.size P np ps) :
    Calls Try.prog 80 #[.slice A n c, .slice K nk ck, .slice P np cp] w (PlanGpP zs ks ps w) := by
  have HM := Lib.hid (planMove_any A K P n c nk ck np cp zs ks ps w hn hnc ha hnk hk hnp hp)
  have HAL := Lib.hid ha.1
  unfold PlanGpP
  clear ha hk hp
  go_enter Try.func80, Try.ntmps80
  go_wp2_with fail
  refine HM.out.mono ?_
  rintro e w1 ⟨b1, h⟩
  have HB1 := Lib.hid b1
  clear b1 HM
  rcases h with ⟨h0, rfl⟩ | ⟨h0, g, rfl, ho⟩
  · have HR : Hid (gapR zs ks ps = []) := gapR_bad h0
    obtain ⟨E, hE⟩ : ∃ E, planE zs ks ps = E := ⟨_, rfl⟩
    have HPE := Lib.hid hE
    rw [hE] at h0 ⊢
    clear hE
    have hb : (E != 0) = true := by simpa using h0
    clear h0
    go_wp2
    go_ret2
    exact ⟨none, 0, 0, by rw [HPE.out]; rfl, HB1.out, by rw [HR.out]; exact ArrG.zero⟩
  · have HR : Hid (gapR zs ks ps = betwL (moveL zs ks ps) (n : Int)) := by show _ = _; rw [gapR_ok h0]; unfold gapP; rw [HAL.out]
    have HE := Lib.hid h0
    have hok := planE_zero.1 h0
    have hsm := hok.small
    rw [HAL.out] at hsm
    have HBT := Lib.hid (planBetween_any (some ⟨g, 0, none⟩) ks.length ks.length w.heap.size n (moveL zs ks ps) w1 ho moveL_len hok.len HB1.out.size hsm)
    clear h0 hok hsm ho
    go_wp2_with fail
    refine HBT.out.mono ?_
    rintro e w2 ⟨v, rfl, hO, hB⟩
    obtain ⟨A2, c2, rfl, _, hA2⟩ := hO.arr runC_len
    have HBB := Lib.hid (HB1.out.trans hB)
    have HA2 := Lib.hid hA2
    clear hO hB hA2
    go_wp2
    go_ret2
    exact ⟨_, _, _, by rw [HE.out]; rfl, HBB.out, by rw [HR.out]; exact HA2.out⟩

/-- What is in the list of new words when the first 'k' are. -/
def toAt (zs ks ps : List Int) (n k : Nat) : List Int := toTo zs ks ps k ++ List.replicate (n - k) 0
section
variable {zs ks ps : List Int} {n k : Nat}
theorem toAt_len (h : k ≤ n) : (toAt zs ks ps n k).length = n := by unfold toAt; rw [List.length_append, toTo_len, List.length_replicate]; omega
theorem toAt_zero : toAt zs ks ps n 0 = List.replicate n 0 := by unfold toAt; simp [toTo]
theorem toAt_all : toAt zs ks ps ks.length ks.length = toL zs ks ps := by unfold toAt; simp [toL]
theorem toAt_set (h : k < n) : (toAt zs ks ps n k).set k (toN zs ks ps k) = toAt zs ks ps n (k + 1) := by
  unfold toAt
  rw [toTo_succ, List.set_append_right _ _ (by rw [toTo_len]; exact Nat.le_refl _), toTo_len, Nat.sub_self, show n - k = (n - (k + 1)) + 1 by omega, List.replicate_succ, List.set_cons_zero, List.append_assoc]
  rfl
end
theorem planInt : (Try.prog.info? 3).map (fun i => (i.zero, i.size, i.bytes)) = some (some (.int .i64 0), 1, 8) := by kernel_rfl
/-- What holds while To goes over the moved. -/
structure PtI (zs ks ps : List Int) (w w1 : World) (k : Nat) (wr : World) : Prop where
  row : Whole .i64 3 wr w1.heap.size (toAt zs ks ps ks.length k)
  below : Below w.heap.size w wr
  later : Below w1.heap.size w1 wr

set_option maxRecDepth 8000 in
set_option maxHeartbeats 1000000 in
theorem planTo_any (A K P : Option Addr) (n c nk ck np cp : Nat) (zs ks ps : List Int) (w : World) (hn : n ≤ maxLen) (hnc : n ≤ c) (ha : Arr .u64 w w.heap.size A n zs) (hnk : nk ≤ maxLen) (hk : Arr .i64 w w.heap.size K nk ks) (hnp : np ≤ maxLen) (hp : Arr .i64 w w.heap.size P np ps) :
    Calls Try.prog 79 #[.slice A n c, .slice K nk ck, .slice P np cp] w (PlanToP zs ks ps w) := by
  have HM := Lib.hid (planMove_any A K P n c nk ck np cp zs ks ps w hn hnc ha hnk hk hnp hp)
  unfold PlanToP
  clear ha hk hp
  go_enter Try.func79, Try.ntmps79
  go_wp2_with fail
  refine HM.out.mono ?_
  rintro e w1 ⟨b1, h⟩
  have HB1 := Lib.hid b1
  clear b1 HM
  rcases h with ⟨h0, rfl⟩ | ⟨h0, g, rfl, ho⟩
  · have HR : Hid (toR zs ks ps = []) := toR_bad h0
    obtain ⟨E, hE⟩ : ∃ E, planE zs ks ps = E := ⟨_, rfl⟩
    have HPE := Lib.hid hE
    rw [hE] at h0 ⊢
    clear hE
    have hb : (E != 0) = true := by simpa using h0
    clear h0
    go_wp2
    go_ret2
    exact ⟨none, 0, 0, by rw [HPE.out]; rfl, HB1.out, by rw [HR.out]; exact Arr.zero⟩
  · have HR : Hid (toR zs ks ps = toL zs ks ps) := toR_ok h0
    have HE := Lib.hid h0
    have hok := planE_zero.1 h0
    have HOK := Lib.hid hok
    obtain ⟨A2, c2, hv, _, hA2⟩ := ho.arr runC_len
    rw [moveL_len] at hv hA2
    injection hv with e1 e2 e3
    subst e1
    have HA2 := Lib.hid hA2
    obtain ⟨m, hm⟩ : ∃ m, ks.length = m := ⟨_, rfl⟩
    have hm256 : m ≤ 256 := by rw [← hm]; exact hok.len
    have h256 := arena_len hok.arena
    have HML := Lib.hid hm
    rw [hm] at HA2 ⊢
    have hmk := fun wx => run_make_row' (P := Try.prog) 23 3 (.int .i64 0) 8 Try.underlying23 planInt rfl .i64 .i64 m (by omega) (by omega) wx
    have hW : Whole .i64 3 (w1.alloc (.cells (madeCells #[Value.int .i64 0] m) 3)) w1.heap.size (List.replicate m 0) := by
      rw [made_replicate]
      exact whole_new .i64 3 w1 _ (fun z hz => by rw [List.eq_of_mem_replicate hz]; rfl)
    have bm : Below w1.heap.size w1 (w1.alloc (.cells (madeCells #[Value.int .i64 0] m) 3)) := (Below.refl _ _).alloc (Nat.le_refl _) _
    have HI : Hid (PtI zs ks ps w w1 0 (w1.alloc (.cells (madeCells #[Value.int .i64 0] m) 3))) := ⟨by rw [hm, toAt_zero]; exact hW, HB1.out.trans (bm.mono HB1.out.size), bm⟩
    clear h0 hok ho hA2 e2 e3 hW bm hm
    go_wp2_with fail
    generalize (w1.alloc (.cells (madeCells #[Value.int .i64 0] m) 3)) = W1 at *
    obtain ⟨g2, hg2⟩ : ∃ g2, w1.heap.size = g2 := ⟨_, rfl⟩
    have HG2 := Lib.hid hg2
    rw [hg2]
    clear hmk hg2
    go_loopw [28] (fun i wr => ∃ k : Nat, k ≤ m ∧ i = .int .i64 k ∧ Hid (PtI zs ks ps w w1 k wr)) (fun i _ => m - (intOf i).toNat)
    case atStart => exact ⟨0, Nat.zero_le _, rfl, HI⟩
    case round =>
      obtain ⟨k, hkn, rfl, hI⟩ := hrel
      clear HI
      by_cases hlt : k < m
      · obtain ⟨b, off, hbo, _, hc0, hc1⟩ := (HA2.out.below hI.out.later (Nat.le_refl _)).run hlt
        injection hbo with hbo
        injection hbo with hb1 hb2
        subst hb1 hb2
        rw [show moveL zs ks ps = moveTo zs ks ps ks.length from rfl, moveTo_nth (by have := HML.out; omega)] at hc0 hc1
        simp only at hc0 hc1
        have hft := HOK.out.fits (i := k) (by have := HML.out; omega)
        obtain ⟨L, hL⟩ : ∃ L, lgI zs (nth ks k) = L := ⟨_, rfl⟩
        obtain ⟨T, hT⟩ : ∃ T, toN zs ks ps k = T := ⟨_, rfl⟩
        rw [hT] at hc0 hft
        rw [hL] at hc1 hft
        have b2 := (Below.refl _ wr).alloc (Nat.le_refl _) (.cells #[.int .i64 T, .int .i64 L] 64)
        have hW := hI.out.row.alloc (.cells #[.int .i64 T, .int .i64 L] 64)
        have hW2 := hW.set_ k T (wf_i64.2 (by omega))
        rw [← hT, toAt_set (by have := HML.out; omega), hT] at hW2
        have HN : Hid (PtI zs ks ps w w1 (k + 1) ((wr.alloc (.cells #[.int .i64 T, .int .i64 L] 64)).setCell ⟨g2, k, none⟩ (.int .i64 T))) := by
          rw [← HG2.out]
          exact ⟨hW2, below_set (hI.out.below.trans (b2.mono hI.out.below.size)) HB1.out.size _ _, below_set (hI.out.later.trans (b2.mono hI.out.later.size)) (Nat.le_refl _) _ _⟩
        have d0 := hW.cell (j := k) (by rw [toAt_len (by have := HML.out; omega)]; have := HML.out; omega)
        have f0 := hW.frozen k
        rw [HG2.out] at d0 f0
        clear hI hW hW2 b2 hL hT hft
        generalize nth (toAt zs ks ps ks.length k) k = O at *
        rw [Nat.zero_add] at hc0 hc1
        go_wp2
        go_roundw
        case rel => exact ⟨k + 1, by omega, by go_num, HN⟩
        case measure => simp [intOf]; omega
      · obtain rfl : k = m := by omega
        have hrow := hI.out.row
        have HBB := Lib.hid hI.out.below
        rw [HML.out] at hrow
        have HAL := Lib.hid (toAt_all (zs := zs) (ks := ks) (ps := ps))
        rw [HML.out] at HAL
        rw [HAL.out] at hrow
        have harr := hrow.arr hrow.lt
        rw [toL_len, HML.out, HG2.out] at harr
        have HAR := Lib.hid harr
        clear hI hrow harr HAL
        go_wp2
        go_ret2
        exact ⟨_, _, _, by rw [HE.out]; rfl, HBB.out, by rw [HR.out]; exact HAR.out⟩

end Go.Proofs.Ytjefbekdjgmmbaa
