/-
  Parts of the proof of CarrySlides: PlanD, SlideD.
-/
import Derived.IntWalk
import Derived.StillTailTactics
import Derived.Test.YtjefbekdjgmmbaaCarrySlidesAn
import Derived.Test.YtjefbekdjgmmbaaCarrySlidesAt
import Derived.Test.YtjefbekdjgmmbaaCarrySlidesAu
namespace Go.Proofs.Ytjefbekdjgmmbaa
open Go.RowKit
set_option maxHeartbeats 400000 in
theorem planContains_any (A : Option Addr) (n c B : Nat) (xs : List Int) (x : Int) (w : World) (hn : n ≤ maxLen) (ha : Arr .i64 w B A n xs) (hR : xs.Pairwise (· < ·)) :
    Calls Try.prog 121 #[.slice A n c, .int .i64 x] w fun e w' => e = .returned (.bool (decide (x ∈ xs))) ∧ w = w' := by
  have HB : Hid (Calls Try.prog 54 #[.slice A n c, .int .i64 x] w fun e w' => ∃ p : Int, e = .returned (.tuple #[.int .i64 p, .bool (decide (x ∈ xs))]) ∧ w = w') := (binI_any A n c B xs x w hn ha hR).mono fun _ _ ⟨p, h1, h2, _⟩ => ⟨p, h1, h2⟩
  clear ha hR
  generalize decide (x ∈ xs) = V at *
  go_enter Try.func121, Try.ntmps121
  go_wp2_with fail
  refine HB.out.mono ?_
  rintro e w1 ⟨p, rfl, rfl⟩
  go_wp2
  go_ret
  exact ⟨rfl, rfl⟩
set_option maxHeartbeats 1000000 in
theorem planContainsAll_any (A P : Option Addr) (n c m d B : Nat) (xs ps : List Int) (w : World) (hn : n ≤ maxLen) (hm : m ≤ maxLen) (ha : Arr .i64 w B A n xs) (hp : Arr .i64 w B P m ps) (hR : xs.Pairwise (· < ·)) :
    Calls Try.prog 120 #[.slice A n c, .slice P m d] w fun e w' => e = .returned (.bool (subB xs ps)) ∧ w = w' := by
  have HP := Lib.hid hp
  have HC := Lib.hid (fun x => planContains_any A n c B xs x w hn ha hR)
  unfold maxLen at hm
  clear ha hp hR
  go_enter Try.func120, Try.ntmps120
  go_wp2_with fail
  go_loopw [9] (fun i wr => w = wr ∧ ∃ k : Nat, k ≤ m ∧ i = .int .i64 k ∧ Hid (∀ i, i < k → nth ps i ∈ xs)) (fun i _ => m - (intOf i).toNat)
  case atStart => exact ⟨rfl, 0, Nat.zero_le _, rfl, fun i hi => absurd hi (by omega)⟩
  case round =>
    obtain ⟨rfl, k, hk, rfl, HI⟩ := hrel
    by_cases hlt : k < m
    · obtain ⟨b, off, rfl, _, hcs⟩ := HP.out.2.2 (by omega)
      have hc := hcs k hlt
      have HQ := Lib.hid (HC.out (nth ps k))
      clear hcs
      by_cases hin : nth ps k ∈ xs
      · rw [show decide (nth ps k ∈ xs) = true by simpa using hin] at HQ
        have HN : Hid (∀ i, i < k + 1 → nth ps i ∈ xs) := fun i hi => by
          rcases Nat.lt_succ_iff_lt_or_eq.1 hi with h1 | h1
          · exact HI.out i h1
          · rw [h1]; exact hin
        clear hin HI
        generalize nth ps k = X at *
        go_wp2_with fail
        refine HQ.out.mono ?_
        rintro e w1 ⟨rfl, rfl⟩
        go_wp2
        go_roundw
        case rel => exact ⟨by trivial, k + 1, by omega, by go_num, HN⟩
        case measure => simp [intOf]; omega
      · rw [show decide (nth ps k ∈ xs) = false by simpa using hin] at HQ
        have HE : Hid (subB xs ps = false) := by
          show _ = _
          cases he : subB xs ps
          · rfl
          · exact absurd (subB_iff.1 he _ (nth_mem (by have := HP.out.1; omega))) hin
        clear hin HI
        generalize nth ps k = X at *
        go_wp2_with fail
        refine HQ.out.mono ?_
        rintro e w1 ⟨rfl, rfl⟩
        go_wp2
        go_ret
        exact ⟨by rw [HE.out]; rfl, rfl⟩
    · obtain rfl : k = m := by omega
      have HE : Hid (subB xs ps = true) := subB_iff.2 fun x hx => by
        obtain ⟨i, hi, e⟩ := List.getElem_of_mem hx
        have := HI.out i (by have := HP.out.1; omega)
        rwa [nth_get _ _ hi, e] at this
      clear HI
      go_wp2
      go_ret
      exact ⟨by rw [HE.out]; rfl, rfl⟩
/-- How long each object is. -/
theorem longT : MapT Try.prog .i64 .i64 77 3 3 := ⟨Try.underlying77, Try.underlying3, Try.underlying3, fun _ => by kernel_rfl⟩
def lgTo (zs : List Int) (k : Nat) : Int → Option Int := fun x => if x ∈ liveTo zs k then some (lgI zs x) else none
def lgOf (zs : List Int) : Int → Option Int := fun x => if x ∈ livesI zs then some (lgI zs x) else none
section
variable {zs : List Int} {k : Nat}
theorem lgOf_isSome (x : Int) : (lgOf zs x).isSome = decide (x ∈ livesI zs) := by unfold lgOf; by_cases h : x ∈ livesI zs <;> simp [h]
theorem lgOf_in {x : Int} (h : x ∈ livesI zs) : (lgOf zs x).getD 0 = lgI zs x := by unfold lgOf; rw [if_pos h]; rfl
theorem lgTo_zero : lgTo zs 0 = fun _ => none := by funext x; simp [lgTo, liveTo_zero]
theorem lgTo_all : lgTo zs (begins zs 0).length = lgOf zs := by unfold lgTo lgOf; rw [liveTo_all]
theorem lgTo_yes (h : k < (begins zs 0).length) (hf : vF (nth zs (st zs k)) = false) : lgTo zs (k + 1) = put (lgTo zs k) (st zs k : Int) (lgI zs (st zs k : Int)) := by
  funext x
  unfold lgTo put
  rw [liveTo_yes h hf]
  by_cases hx : x = (st zs k : Int)
  · subst hx; simp
  · rw [if_neg hx]
    have : x ∈ liveTo zs k ++ [(st zs k : Int)] ↔ x ∈ liveTo zs k := by simp [hx]
    simp only [this]
theorem lgTo_no (h : k < (begins zs 0).length) (hf : vF (nth zs (st zs k)) = true) : lgTo zs (k + 1) = lgTo zs k := by unfold lgTo; rw [liveTo_no h hf]
end
set_option maxHeartbeats 1000000 in
theorem planHasAll_any (F : Option Addr) (nf cf gm N : Nat) (zs fr : List Int) (w : World) (hnf : nf ≤ maxLen) (hfr : Arr .i64 w w.heap.size F nf fr) (hm : MapF Try.prog .i64 .i64 3 3 w gm N (lgOf zs)) :
    Calls Try.prog 119 #[.map (some gm), .slice F nf cf] w fun e w' => e = .returned (.bool (allIn zs fr)) ∧ w = w' := by
  have HP := Lib.hid hfr
  have HM := Lib.hid hm
  unfold maxLen at hnf
  clear hfr hm
  go_enter Try.func119, Try.ntmps119
  go_wp2_with fail
  go_loopw [11] (fun i wr => w = wr ∧ ∃ k : Nat, k ≤ nf ∧ i = .int .i64 k ∧ Hid (∀ i, i < k → nth fr i ∈ livesI zs)) (fun i _ => nf - (intOf i).toNat)
  case atStart => exact ⟨rfl, 0, Nat.zero_le _, rfl, fun i hi => absurd hi (by omega)⟩
  case round =>
    obtain ⟨rfl, k, hk, rfl, HI⟩ := hrel
    by_cases hlt : k < nf
    · obtain ⟨b, off, rfl, _, hcs⟩ := HP.out.2.2 (by omega)
      have hc := hcs k hlt
      have hlk := HM.out.lookOk longT (x := nth fr k) (HP.out.2.1 _ (nth_mem (by have := HP.out.1; omega)))
      rw [lgOf_isSome] at hlk
      clear hcs
      generalize (lgOf zs (nth fr k)).getD 0 = Y at *
      by_cases hin : nth fr k ∈ livesI zs
      · rw [show decide (nth fr k ∈ livesI zs) = true by simpa using hin] at hlk
        have HN : Hid (∀ i, i < k + 1 → nth fr i ∈ livesI zs) := fun i hi => by
          rcases Nat.lt_succ_iff_lt_or_eq.1 hi with h1 | h1
          · exact HI.out i h1
          · rw [h1]; exact hin
        clear hin HI
        generalize nth fr k = X at *
        go_wp2
        go_roundw
        case rel => exact ⟨by trivial, k + 1, by omega, by go_num, HN⟩
        case measure => simp [intOf]; omega
      · rw [show decide (nth fr k ∈ livesI zs) = false by simpa using hin] at hlk
        have HE : Hid (allIn zs fr = false) := by
          show _ = _
          cases he : allIn zs fr
          · rfl
          · exact absurd (allIn_iff.1 he _ (nth_mem (by have := HP.out.1; omega))) hin
        clear hin HI
        generalize nth fr k = X at *
        go_wp2
        go_ret
        exact ⟨by rw [HE.out]; rfl, rfl⟩
    · obtain rfl : k = nf := by omega
      have HE : Hid (allIn zs fr = true) := allIn_iff.2 fun x hx => by
        obtain ⟨i, hi, e⟩ := List.getElem_of_mem hx
        have := HI.out i (by have := HP.out.1; omega)
        rwa [nth_get _ _ hi, e] at this
      clear HI
      go_wp2
      go_ret
      exact ⟨by rw [HE.out]; rfl, rfl⟩
/-- What measure answers. -/
def MeasP (zs : List Int) (w : World) (e : Ending) (w' : World) : Prop := Below w.heap.size w w' ∧
  ((arErr zs ≠ 0 ∧ e = .returned (.tuple #[.map none, .int .i64 (arErr zs)])) ∨
   (arErr zs = 0 ∧ ∃ gm, e = .returned (.tuple #[.map (some gm), .int .i64 0]) ∧ MapF Try.prog .i64 .i64 3 3 w' gm 300 (lgOf zs)))
/-- What holds while it goes over the spots. -/
structure MeasI (zs : List Int) (w : World) (B1 gm : Nat) (A2 : Option Addr) (m k : Nat) (wr : World) : Prop where
  map : MapF Try.prog .i64 .i64 3 3 wr gm k (lgTo zs k)
  spots : ArrG spotC 5 wr B1 A2 m (spList zs)
  below : Below w.heap.size w wr
  o1 : w.heap.size ≤ gm
  o2 : B1 ≤ gm
section
variable {zs : List Int} {w wr wr' : World} {B1 gm m k : Nat} {A2 : Option Addr}
theorem MeasI.next (h : MeasI zs w B1 gm A2 m k wr) (hb : Below wr.heap.size wr wr') : MeasI zs w B1 gm A2 m k wr' :=
  ⟨h.map.below hb h.map.lt, h.spots.below hb (by have := h.map.lt; have := h.o2; omega), h.below.trans (hb.mono h.below.size), h.o1, h.o2⟩
theorem MeasI.free (h : MeasI zs w B1 gm A2 m k wr) (hk : k < (begins zs 0).length) (hf : vF (nth zs (st zs k)) = true) : MeasI zs w B1 gm A2 m (k + 1) wr :=
  ⟨by rw [lgTo_no hk hf]; exact h.map.mono (by omega), h.spots, h.below, h.o1, h.o2⟩
theorem MeasI.put (h : MeasI zs w B1 gm A2 m k wr) (hk : k < (begins zs 0).length) (hf : vF (nth zs (st zs k)) = false) (hm : MapF Try.prog .i64 .i64 3 3 wr' gm (k + 1) (put (lgTo zs k) (st zs k : Int) (lgI zs (st zs k : Int)))) (hg : wr.grownBy wr' (some gm)) : MeasI zs w B1 gm A2 m (k + 1) wr' :=
  ⟨by rw [lgTo_yes hk hf]; exact hm, h.spots.below (grown_below hg h.o2 (by have := h.map.lt; have := h.o2; omega)) (Nat.le_refl _), h.below.trans (grown_below hg h.o1 h.below.size), h.o1, h.o2⟩
end
set_option maxHeartbeats 400000 in
theorem planMeasure_bad (A : Option Addr) (n c : Nat) (zs : List Int) (w : World) (hn : n ≤ maxLen) (hnc : n ≤ c) (ha : Arr .u64 w w.heap.size A n zs) (h : arErr zs ≠ 0) :
    Calls Try.prog 117 #[.slice A n c] w (MeasP zs w) := by
  have HC := Lib.hid (Check_any A n c zs w hn hnc ha)
  unfold MeasP
  have H0 := Lib.hid h
  clear ha
  generalize arErr zs = E at *
  have hb : (E != 0) = true := by simpa using h
  clear h
  go_enter Try.func117, Try.ntmps117
  go_wp2_with fail
  refine HC.out.mono ?_
  rintro e w1 ⟨rfl, b1⟩
  have HB := Lib.hid b1
  clear b1
  go_wp2
  go_ret2
  exact ⟨HB.out, .inl ⟨H0.out, rfl⟩⟩
set_option maxRecDepth 8000 in
set_option maxHeartbeats 2000000 in
theorem planMeasure_good (A : Option Addr) (n c : Nat) (zs : List Int) (w : World) (hn : n ≤ maxLen) (hnc : n ≤ c) (ha : Arr .u64 w w.heap.size A n zs) (h : arErr zs = 0) :
    Calls Try.prog 117 #[.slice A n c] w (MeasP zs w) := by
  obtain ⟨hsp, hrf⟩ := arErr_zero h
  obtain ⟨h256, hfine⟩ := spErr_zero hsp
  have hl := ha.1
  have hwf := ha.2.1
  have hL := spList_ok hsp
  have hbl := begins_len (zs := zs) (a := 0)
  have hlen : (spList zs).length = (begins zs 0).length := by rw [hL]; simp
  obtain ⟨m, hm⟩ : ∃ m, (begins zs 0).length = m := ⟨_, rfl⟩
  rw [hm] at hlen hbl
  have hspot : ∀ k, k < m → nthG (spList zs) k = spOf zs (st zs k) ∧ st zs k < n := fun k hk => by
    have h1 := begins_mem (st_mem (zs := zs) (k := k) (by omega))
    exact ⟨by rw [hL, nthG_map _ _ _ (by omega)]; rfl, by omega⟩
  have HFT : Hid (∀ k, k < m → vF (nth zs (st zs k)) = false → hFault (vR (nth zs (st zs k))) (vB (nth zs (st zs k))) (vT (nth zs (st zs k))) false = 0 ∧ lgI zs (st zs k : Int) = 1 + vR (nth zs (st zs k)) + vB (nth zs (st zs k)) ∧ lgI zs (st zs k : Int) ≤ 256) := fun k hk hf => by
    obtain ⟨s, hse, h1, h2, h3, h4, h5, h6, h7, _, hf'⟩ := live_facts hwf (mem_lives.2 ⟨k, by omega, rfl, hf⟩)
    obtain rfl : st zs k = s := by omega
    rw [hf'] at h5
    have h8 : lgI zs (st zs k : Int) = (longN zs (st zs k) : Int) := by unfold lgI; rw [Int.toNat_natCast]
    exact ⟨h5, by rw [h8]; exact h6, by rw [h8]; omega⟩
  have HC := Lib.hid (Check_any A n c zs w hn hnc ha)
  rw [h] at HC
  have HA0 := Lib.hid ha
  have HAR := Lib.hid h
  have HE := Lib.hid hsp
  have HS := Lib.hid hspot
  have HM := Lib.hid hm
  clear ha h hsp hrf hfine hL hspot hm hwf
  have hmm := @run_makeMap Try.prog
  have hbl2 : m ≤ 256 := by omega
  have hn256 : n ≤ 256 := by omega
  clear h256 hl
  unfold MeasP
  go_enter Try.func117, Try.ntmps117
  go_wp2_with fail
  refine HC.out.mono ?_
  rintro e w0 ⟨rfl, b1⟩
  have HB0 := Lib.hid b1
  have HSP := Lib.hid (Spots_any A n c zs w0 hn ((HA0.out.below b1 (Nat.le_refl _)).more b1.size))
  clear b1 HC
  go_wp2_with fail
  refine HSP.out.mono ?_
  rintro e w1 ⟨A2, c2, rfl, b1, hc2, hA2, hi2⟩
  rw [HE.out]
  rw [hlen] at hA2 hc2 hi2 ⊢
  have HB1 := Lib.hid (HB0.out.trans (b1.mono HB0.out.size))
  have HA2 := Lib.hid hA2
  clear b1 HSP hA2 hc2 hi2 HB0
  go_wp2_with fail
  have bm : Below w1.heap.size w1 (w1.alloc (.map #[] 0)) := (Below.refl _ w1).alloc (Nat.le_refl _) _
  have HI : Hid (MeasI zs w w1.heap.size w1.heap.size A2 m 0 (w1.alloc (.map #[] 0))) :=
    ⟨by rw [lgTo_zero]; exact MapF.made Try.prog .i64 .i64 3 3 w1, HA2.out.below bm (Nat.le_refl _), HB1.out.trans (bm.mono HB1.out.size), HB1.out.size, Nat.le_refl _⟩
  clear bm hmm
  generalize (w1.alloc (.map #[] 0)) = W1 at *
  generalize w1.heap.size = gm at *
  go_loopw [26] (fun i wr => ∃ k : Nat, k ≤ m ∧ i = .int .i64 k ∧ Hid (MeasI zs w gm gm A2 m k wr)) (fun i _ => m - (intOf i).toNat)
  case atStart => exact ⟨0, by omega, rfl, HI⟩
  case round =>
    obtain ⟨k, hk, rfl, hI⟩ := hrel
    clear HI HA2 HB1
    by_cases hlt : k < m
    · obtain ⟨hs, hsn⟩ := HS.out k hlt
      have hkb : k < (begins zs 0).length := by rw [HM.out]; exact hlt
      obtain ⟨b, off, rfl, _, q0, q1, q2, q3, q4⟩ := hI.out.spots.spot hlt
      rw [hs] at q0 q1 q2 q3 q4
      unfold spOf at q0 q1 q2 q3 q4
      simp only at q0 q1 q2 q3 q4
      cases hf : vF (nth zs (st zs k))
      · obtain ⟨hF0, hFL, hF6⟩ := HFT.out k hlt hf
        have HF := Lib.hid hf
        have HKB := Lib.hid hkb
        rw [hf] at q4
        have HNX := Lib.hid (hI.out.next ((Below.refl _ wr).alloc (Nat.le_refl _) (.cells #[.int .i64 (st zs k), .int .i64 (vR (nth zs (st zs k))), .int .i64 (vB (nth zs (st zs k))), .int .i64 (vT (nth zs (st zs k))), .bool false] 80)))
        have HBX := Lib.hid (Box.new wr 80 #[.int .i64 (st zs k), .int .i64 (vR (nth zs (st zs k))), .int .i64 (vB (nth zs (st zs k))), .int .i64 (vT (nth zs (st zs k))), .bool false])
        have HL := Lib.hid (fun wx => lengthOk (vR (nth zs (st zs k))) (vB (nth zs (st zs k))) (vT (nth zs (st zs k))) false wx hF0)
        have HLG := Lib.hid hFL
        clear hf hs hI hkb hF0 hFL
        obtain ⟨s, hse⟩ : ∃ s, st zs k = s := ⟨_, rfl⟩
        have HSE := Lib.hid hse
        rw [hse] at q0 q1 q2 q3 HNX hsn HBX HL HLG hF6
        clear hse
        generalize vR (nth zs s) = R at *
        generalize vB (nth zs s) = Bd at *
        generalize vT (nth zs s) = T at *
        have hws : (Lit.int .i64 (s : Int)).wf = true := wf_i64.2 (by omega)
        have hwl : (Lit.int .i64 (1 + R + Bd)).wf = true := wf_i64.2 (by have := HLG.out; have h0 := (live_lg (mem_lives.2 ⟨k, HKB.out, rfl, HF.out⟩)).2.1; rw [HSE.out] at h0; omega)
        go_wp2_with fail
        obtain ⟨g, hg⟩ : ∃ g, wr.heap.size = g := ⟨_, rfl⟩
        rw [hg] at HBX
        rw [hg]
        clear hg q0 q1 q2 q3 q4
        have HNX := Lib.hid (HNX.out.next (below_drewN (Below.refl _ _) 1))
        have HBX : Hid (Box ((wr.alloc (.cells #[.int .i64 s, .int .i64 R, .int .i64 Bd, .int .i64 T, .bool false] 80)).drewN 1) g 80 #[.int .i64 s, .int .i64 R, .int .i64 Bd, .int .i64 T, .bool false]) := HBX.out
        refine wp_region_Y 9 (fun w' => w'.cell? ⟨g, 0, none⟩ = some (.int .i64 s) ∧ w'.cell? ⟨g, 1, none⟩ = some (.int .i64 R) ∧ w'.cell? ⟨g, 2, none⟩ = some (.int .i64 Bd) ∧ w'.cell? ⟨g, 3, none⟩ = some (.int .i64 T) ∧ w'.cell? ⟨g, 4, none⟩ = some (.bool false)) (by kernel_rfl) ?_
        change anyY _ _ _ _ _ _ _ _ _ ((wr.alloc (.cells #[.int .i64 s, .int .i64 R, .int .i64 Bd, .int .i64 T, .bool false] 80)).drewN 1)
        generalize ((wr.alloc (.cells #[.int .i64 s, .int .i64 R, .int .i64 Bd, .int .i64 T, .bool false] 80)).drewN 1) = W at *
        have hS0 : W.cell? ⟨g, 0, none⟩ = some (.int .i64 s) ∧ W.cell? ⟨g, 1, none⟩ = some (.int .i64 R) ∧ W.cell? ⟨g, 2, none⟩ = some (.int .i64 Bd) ∧ W.cell? ⟨g, 3, none⟩ = some (.int .i64 T) ∧ W.cell? ⟨g, 4, none⟩ = some (.bool false) := ⟨HBX.out.cell 0, HBX.out.cell 1, HBX.out.cell 2, HBX.out.cell 3, HBX.out.cell 4⟩
        refine anyY_pure (i := 0) (v := .map (some gm)) rfl rfl rfl (by kernel_rfl) (by kernel_rfl) (by kernel_rfl) (fun _ _ _ h => h) (Or.inl ⟨by rfl, fun wx _ => ?_⟩) (.inr hS0) ?_
        · go_simp
        refine anyY_pure (i := 1) (v := .pointer (some ⟨g, 0, none⟩)) rfl rfl rfl (by kernel_rfl) (by kernel_rfl) (by kernel_rfl) (fun _ _ _ h => h) (Or.inl ⟨by rfl, fun wx _ => ?_⟩) (.inr hS0) ?_
        · go_simp
        refine anyY_take (i := 2) (v := .int .i64 s) rfl rfl (by kernel_rfl) rfl (by kernel_rfl) (by kernel_rfl) (by kernel_rfl) (by kernel_rfl) (fun _ _ _ h => h) (Or.inl ⟨by rfl, fun wx hS => ?_⟩) hS0 ?_
        · obtain ⟨q1, q2, q3, q4, q5⟩ := hS
          go_simp
        refine anyY_pure (i := 3) (v := .pointer (some ⟨g, 1, none⟩)) rfl rfl rfl (by kernel_rfl) (by kernel_rfl) (by kernel_rfl) (fun _ _ _ h => h) (Or.inl ⟨by rfl, fun wx _ => ?_⟩) (.inr hS0) ?_
        · go_simp
        refine anyY_only (i := 4) (by kernel_rfl) ?_
        have HS0 := Lib.hid hS0
        obtain ⟨z0, z1, z2, z3, z4⟩ := hS0
        refine wpOp_step rfl fun K' hK' => ?_
        go_simp
        refine hK' _ _ ⟨.inr (.inr HS0.out), ?_⟩
        clear hK' z0 z1 z2 z3 z4
        refine anyY_only (i := 5) (by kernel_rfl) ?_
        refine wpOp_step rfl fun K' hK' => ?_
        go_simp
        refine (HL.out _).mono ?_
        rintro e w2 ⟨rfl, b2⟩
        have HNX3 := Lib.hid (HNX.out.next b2)
        have HBX3 := Lib.hid (HBX.out.below b2 HBX.out.lt)
        have hS2 : w2.cell? ⟨g, 0, none⟩ = some (.int .i64 s) ∧ w2.cell? ⟨g, 1, none⟩ = some (.int .i64 R) ∧ w2.cell? ⟨g, 2, none⟩ = some (.int .i64 Bd) ∧ w2.cell? ⟨g, 3, none⟩ = some (.int .i64 T) ∧ w2.cell? ⟨g, 4, none⟩ = some (.bool false) := ⟨HBX3.out.cell 0, HBX3.out.cell 1, HBX3.out.cell 2, HBX3.out.cell 3, HBX3.out.cell 4⟩
        refine hK' _ _ ⟨.inr (.inr hS2), ?_⟩
        clear hK' HNX HBX HS0 b2
        refine anyY_pure (i := 6) (v := .tuple #[.int .i64 (1 + R + Bd), .int .i64 0]) rfl rfl rfl (by kernel_rfl) (by kernel_rfl) (by kernel_rfl) (fun _ _ _ h => h) (Or.inl ⟨by rfl, fun wx _ => ?_⟩) (.inr hS2) ?_
        · go_simp
        refine anyY_pure (i := 7) (v := .int .i64 (1 + R + Bd)) rfl rfl rfl (by kernel_rfl) (by kernel_rfl) (by kernel_rfl) (fun _ _ _ h => h) (Or.inl ⟨by rfl, fun wx _ => ?_⟩) (.inr hS2) ?_
        · go_simp
        refine anyY_pure (i := 8) (v := .int .i64 0) rfl rfl rfl (by kernel_rfl) (by kernel_rfl) (by kernel_rfl) (fun _ _ _ h => h) (Or.inl ⟨by rfl, fun wx _ => ?_⟩) (.inr hS2) ?_
        · go_simp
        refine anyY_only (i := 9) (by kernel_rfl) ?_
        obtain ⟨w3, hrun, hm3, hg3⟩ := HNX3.out.map.store longT (by unfold maxLen; omega) hws hwl
        have HN : Hid (MeasI zs w gm gm (some ⟨b, off, none⟩) m (k + 1) w3) := HNX3.out.put HKB.out HF.out (by rw [HSE.out, HLG.out]; exact hm3) hg3
        clear hm3 hg3 hS2
        refine wpOp_step rfl fun K' hK' => ?_
        go_simp
        refine hK' _ _ ⟨.inr (.inl rfl), ?_⟩
        clear hK' hrun HNX3 HBX3
        refine anyY_pure (i := 10) (v := .int .i64 0) rfl rfl rfl (by kernel_rfl) (by kernel_rfl) (by kernel_rfl) (fun _ _ _ h => h) (Or.inl ⟨by rfl, fun wx _ => ?_⟩) (.inl (by kernel_rfl)) ?_
        · go_simp
        refine anyY_done (by kernel_rfl) ?_ _
        go_wp2
        go_roundw
        case rel => exact ⟨k + 1, by omega, by go_num, HN⟩
        case measure => simp [intOf]; omega
      · have HF := Lib.hid hf
        rw [hf] at q4
        have HNX := Lib.hid ((hI.out.next ((Below.refl _ wr).alloc (Nat.le_refl _) (.cells #[.int .i64 (st zs k), .int .i64 (vR (nth zs (st zs k))), .int .i64 (vB (nth zs (st zs k))), .int .i64 (vT (nth zs (st zs k))), .bool true] 80))).free hkb hf)
        clear hf hs hI hkb
        generalize vR (nth zs (st zs k)) = R at *
        generalize vB (nth zs (st zs k)) = Bd at *
        generalize vT (nth zs (st zs k)) = T at *
        generalize st zs k = s at *
        go_wp2
        go_roundw
        case rel => exact ⟨k + 1, by omega, by go_num, HNX⟩
        case measure => simp [intOf]; omega
    · obtain rfl : k = m := by omega
      have HX : Hid (lgTo zs k = lgOf zs) := Lib.hid (by rw [← HM.out]; exact lgTo_all)
      have HMP := Lib.hid (hI.out.map.mono (n' := 300) (by omega))
      rw [HX.out] at HMP
      have HBB := Lib.hid hI.out.below
      clear hI
      go_wp2
      go_ret2
      exact ⟨HBB.out, .inr ⟨HAR.out, gm, rfl, HMP.out⟩⟩
theorem planMeasure_any (A : Option Addr) (n c : Nat) (zs : List Int) (w : World) (hn : n ≤ maxLen) (hnc : n ≤ c) (ha : Arr .u64 w w.heap.size A n zs) :
    Calls Try.prog 117 #[.slice A n c] w (MeasP zs w) := by
  by_cases h : arErr zs = 0
  · exact planMeasure_good A n c zs w hn hnc ha h
  · exact planMeasure_bad A n c zs w hn hnc ha h
theorem zero_flat {α : Type} [Inhabited α] {enc : α → List Value} {size : Nat} (hs : ∀ a, (enc a).length = size) (h0 : 0 < size) {z : Array Value} (x : α) (hx : enc x = z.toList) (q : Nat) : Builtin.zeroCells z q = ((List.replicate q x).flatMap enc).toArray := by
  have hzs : z.size = size := by rw [← hs x, hx]; simp
  apply Array.ext
  · rw [size_zeroCells, hzs, List.size_toArray, flat_length hs, List.length_replicate]
  · intro i h1 h2
    have hi : i < q * size := by rwa [size_zeroCells, hzs] at h1
    have d1 : i / size < q := Nat.div_lt_of_lt_mul (by rw [Nat.mul_comm]; exact hi)
    have d2 := Nat.mod_lt i h0
    have d3 := Nat.div_add_mod' i size
    have h3 := flat_at hs (List.replicate q x) (i / size) (i % size) (by simpa using d1) d2
    rw [d3, nthG_get _ _ (by simpa using d1), List.getElem_replicate, hx, List.getElem?_eq_getElem (by rw [List.size_toArray] at h2; exact h2), List.getElem?_eq_getElem (by simp [hzs]; exact d2)] at h3
    injection h3 with h3
    refine Eq.trans ?_ h3.symm
    simp [Builtin.zeroCells, hzs, d2]
theorem OwnG.lessH {α : Type} {enc : α → List Value} {size : Nat} {e : TypeId} {w : World} {base : Nat} {l : List α} {v : Value} {base' : Nat} (h : OwnG enc size e w base v l) (hb : base' ≤ base) : OwnG enc size e w base' v l :=
  ⟨h.1, h.2.imp id fun ⟨g, cap, cur, h1, h2, r⟩ => ⟨g, cap, cur, h1, Nat.le_trans hb h2, r⟩⟩
/-- 'make([]T, n)' of structs. -/
theorem run_made_rows {α : Type} [Inhabited α] {enc : α → List Value} {size : Nat} (hs : ∀ a, (enc a).length = size) (h0 : 0 < size) {P : Program} {t e : TypeId} (ht : P.underlying t = some (.slice e)) {z : Value} {bytes : Nat}
    (hinfo : (P.info? e).map (fun i => (i.zero, i.size, i.bytes)) = some (some z, size, bytes)) {x0 : α} (hx0 : enc x0 = z.cells.toList) (n : Nat) (hn : n * bytes ≤ 281474976710656) (hm : n ≤ maxLen) (w : World) :
    ∃ w', Sem.run P (Instr.makeSlice t (.int .i64 (n : Int)) (.int .i64 (n : Int))) w = .ok (.slice (some ⟨w.heap.size, 0, none⟩) n n) w' ∧ OwnG enc size e w' w.heap.size (.slice (some ⟨w.heap.size, 0, none⟩) n n) (List.replicate n x0) ∧ Below w.heap.size w w' := by
  obtain ⟨i, hi, hz, hs', hby⟩ := info_parts hinfo
  have hb' : (i.bytes : Int) * (n : Int) ≤ 281474976710656 := by
    have h : ((i.bytes * n : Nat) : Int) ≤ 281474976710656 := by rw [hby, Nat.mul_comm]; omega
    rwa [Int.natCast_mul] at h
  have hr := run_make (P := P) w t e i z ht hi hz .i64 .i64 n n (by omega) (Int.le_refl _) hb' (by unfold maxLen at hm; omega)
  simp only [Int.toNat_natCast] at hr
  have e1 : madeCells z.cells (n * i.size) = ((List.replicate n x0).flatMap enc).toArray := by
    rw [← zero_flat hs h0 (z := z.cells) x0 hx0, hs', Builtin.zeroCells, madeCells]
    have : z.cells.size = size := by rw [← hs x0, hx0]; simp
    rw [this]
  rw [e1] at hr
  refine ⟨_, hr, ⟨flat_length hs _, .inr ⟨w.heap.size, n, ((List.replicate n x0).flatMap enc).toArray, by simp, Nat.le_refl _, heap_alloc_new w _, by simp, hm, ?_, ?_⟩⟩, (Below.refl _ w).alloc (Nat.le_refl _) _⟩
  · rw [List.size_toArray, flat_length hs, List.length_replicate]
  · rw [List.toList_toArray, List.take_of_length_le (by rw [flat_length hs]; exact Nat.le_refl _)]
theorem planRun : (Try.prog.info? 64).map (fun i => (i.zero, i.size, i.bytes)) = some (some (.agg #[.int .i64 0, .int .i64 0]), 2, 16) := by kernel_rfl
/-- 'r' at place 'p' of a slice of ranges. -/
def putR2 (w : World) (g p : Nat) (x : Int × Int) : World := (w.setCell ⟨g, p * 2, none⟩ (.int .i64 x.1)).setCell ⟨g, p * 2 + 1, none⟩ (.int .i64 x.2)
section
variable {e : TypeId} {w w' : World} {base g n c : Nat} {l : List (Int × Int)}
theorem OwnG.oneR (h : OwnG runC 2 e w base (.slice (some ⟨g, 0, none⟩) n c) l) (j i : Nat) (a : Int × Int) (u : Value) (hj : j < l.length) (hi : i < 2) (he : runC a = (runC (nthG l j)).set i u) :
    OwnG runC 2 e (w.setCell ⟨g, j * 2 + i, none⟩ u) base (.slice (some ⟨g, 0, none⟩) n c) (l.set j a) := by
  obtain ⟨g', cap', hv, _, _, _, _, hs⟩ := h.form runC_len (by omega)
  injection hv with e1 e2 e3
  injection e1 with e1
  injection e1 with e1
  subst e1
  exact hs j i a u hj hi he
theorem OwnG.putR2 (h : OwnG runC 2 e w base (.slice (some ⟨g, 0, none⟩) n c) l) (p : Nat) (x : Int × Int) (hp : p < l.length) : OwnG runC 2 e (putR2 w g p x) base (.slice (some ⟨g, 0, none⟩) n c) (l.set p x) := by
  have s0 := h.oneR p 0 (x.1, (nthG l p).2) (.int .i64 x.1) hp (by omega) rfl
  have s1 := s0.oneR p 1 x (.int .i64 x.2) (by simpa using hp) (by omega) (by rw [nthG_set_same _ _ _ hp]; rfl)
  rw [List.set_set] at s1
  exact s1
theorem OwnG.atR (h : OwnG runC 2 e w base (.slice (some ⟨g, 0, none⟩) n c) l) {p : Nat} (hp : p < l.length) : base ≤ g ∧ g < w.heap.size ∧
    (w.cell? ⟨g, p * 2, none⟩ = some (.int .i64 (nthG l p).1) ∧ w.cell? ⟨g, p * 2 + 1, none⟩ = some (.int .i64 (nthG l p).2)) ∧ (w.frozen? ⟨g, p * 2, none⟩ = false ∧ w.frozen? ⟨g, p * 2 + 1, none⟩ = false) := by
  obtain ⟨g', cap, hv, _, hb, hlt, hc, _⟩ := h.form runC_len (by omega)
  injection hv with e1 e2 e3
  injection e1 with e1
  injection e1 with e1
  subst e1
  exact ⟨hb, hlt, ⟨(hc p hp 0 (by omega)).1, (hc p hp 1 (by omega)).1⟩, (hc p hp 0 (by omega)).2, (hc p hp 1 (by omega)).2⟩
theorem putR2_below {B : Nat} {a : World} (h : Below B a w) (hg : B ≤ g) (p : Nat) (x : Int × Int) : Below B a (putR2 w g p x) := below_set (below_set h hg _ _) hg _ _
end
/-- What is in the list of moved ranges when the first 'k' are. -/
def mvAt (zs ks ps : List Int) (n k : Nat) : List (Int × Int) := moveTo zs ks ps k ++ List.replicate (n - k) ((0, 0) : Int × Int)
section
variable {zs ks ps : List Int} {n k : Nat}
theorem mvAt_len (h : k ≤ n) : (mvAt zs ks ps n k).length = n := by unfold mvAt; rw [List.length_append, moveTo_len, List.length_replicate]; omega
theorem mvAt_zero : mvAt zs ks ps n 0 = List.replicate n (0, 0) := by unfold mvAt; simp [moveTo]
theorem mvAt_all : mvAt zs ks ps ks.length ks.length = moveL zs ks ps := by unfold mvAt; simp [moveL]
theorem mvAt_set (h : k < n) : (mvAt zs ks ps n k).set k (toN zs ks ps k, lgI zs (nth ks k)) = mvAt zs ks ps n (k + 1) := by
  unfold mvAt
  rw [moveTo_succ, List.set_append_right _ _ (by rw [moveTo_len]; exact Nat.le_refl _), moveTo_len, Nat.sub_self, show n - k = (n - (k + 1)) + 1 by omega, List.replicate_succ, List.set_cons_zero, List.append_assoc]
  rfl
end
/-- What move answers. -/
def PlanMvP (zs ks ps : List Int) (w : World) (e : Ending) (w' : World) : Prop := Below w.heap.size w w' ∧
  ((planE zs ks ps ≠ 0 ∧ e = .returned (.tuple #[.slice none 0 0, .int .i64 (planE zs ks ps)])) ∨
   (planE zs ks ps = 0 ∧ ∃ g, e = .returned (.tuple #[.slice (some ⟨g, 0, none⟩) ks.length ks.length, .int .i64 0]) ∧ OwnG runC 2 64 w' w.heap.size (.slice (some ⟨g, 0, none⟩) ks.length ks.length) (moveL zs ks ps)))
/-- What holds while it goes over what is kept. -/
structure MvI (zs ks ps : List Int) (w : World) (gm g k : Nat) (wr : World) : Prop where
  map : MapF Try.prog .i64 .i64 3 3 wr gm 300 (lgOf zs)
  own : OwnG runC 2 64 wr w.heap.size (.slice (some ⟨g, 0, none⟩) ks.length ks.length) (mvAt zs ks ps ks.length k)
  below : Below w.heap.size w wr
  apart : gm ≠ g
theorem MvI.put {zs ks ps : List Int} {w wr : World} {gm g k : Nat} (h : MvI zs ks ps w gm g k wr) (hk : k < ks.length) {T L : Int} (hT : toN zs ks ps k = T) (hL : lgI zs (nth ks k) = L) : MvI zs ks ps w gm g (k + 1) (putR2 wr g k (T, L)) := by
  have hlen := mvAt_len (zs := zs) (ks := ks) (ps := ps) (Nat.le_of_lt hk)
  have h1 := h.own.putR2 k (T, L) (by rw [hlen]; exact hk)
  rw [← hT, ← hL, mvAt_set hk, hT, hL] at h1
  exact ⟨(h.map.setOther h.apart.symm _ _).setOther h.apart.symm _ _, h1, putR2_below h.below (h.own.atR (p := k) (by rw [hlen]; exact hk)).1 k (T, L), h.apart⟩
set_option maxRecDepth 8000 in
set_option maxHeartbeats 4000000 in
theorem planMove_any (A K P : Option Addr) (n c nk ck np cp : Nat) (zs ks ps : List Int) (w : World) (hn : n ≤ maxLen) (hnc : n ≤ c) (ha : Arr .u64 w w.heap.size A n zs) (hnk : nk ≤ maxLen) (hk : Arr .i64 w w.heap.size K nk ks) (hnp : np ≤ maxLen) (hp : Arr .i64 w w.heap.size P np ps) :
    Calls Try.prog 105 #[.slice A n c, .slice K nk ck, .slice P np cp] w (PlanMvP zs ks ps w) := by
  have HM := Lib.hid (planMeasure_any A n c zs w hn hnc ha)
  have HK := Lib.hid hk
  have HP := Lib.hid hp
  have HI : Hid (∀ wx, Below w.heap.size w wx → Calls Try.prog 118 #[.slice K nk ck] wx fun e w' => e = .returned (.bool (riseB ks)) ∧ ∃ q, wx.drewN q = w') := fun wx hb => increasing_any K nk ck _ ks wx hnk (HK.out.below hb (Nat.le_refl _))
  have HJ : Hid (∀ wx, Below w.heap.size w wx → Calls Try.prog 118 #[.slice P np cp] wx fun e w' => e = .returned (.bool (riseB ps)) ∧ ∃ q, wx.drewN q = w') := fun wx hb => increasing_any P np cp _ ps wx hnp (HP.out.below hb (Nat.le_refl _))
  unfold PlanMvP
  clear ha hk hp
  go_enter Try.func105, Try.ntmps105
  go_wp2_with fail
  refine HM.out.mono ?_
  rintro e w1 ⟨b1, h⟩
  have HB1 := Lib.hid b1
  clear b1 HM
  rcases h with ⟨h0, rfl⟩ | ⟨h0, gm, rfl, hm⟩
  · have hea := (planE_arena (zs := zs) (ks := ks) (ps := ps) h0).symm
    rw [hea] at h0 ⊢
    clear hea
    obtain ⟨E, hE⟩ : ∃ E, planE zs ks ps = E := ⟨_, rfl⟩
    have HPE := Lib.hid hE
    rw [hE] at h0 ⊢
    clear hE
    have H0 := Lib.hid h0
    have hb : (E != 0) = true := by simpa using h0
    clear h0 HI HJ HK HP
    go_wp2
    go_ret2
    exact ⟨HB1.out, .inl ⟨by rw [HPE.out]; exact H0.out, by rw [HPE.out]; rfl⟩⟩
  · have H0 := Lib.hid h0
    have HMP := Lib.hid hm
    have HC1 := Lib.hid (HI.out w1 HB1.out)
    clear h0 hm HI
    cases hr1 : riseB ks
    · rw [hr1] at HC1
      have HE : Hid (planE zs ks ps = 3) := planE_form H0.out (by rw [hr1]; rfl)
      clear hr1 HJ HK HP
      go_wp2_with fail
      refine HC1.out.mono ?_
      rintro e w2 ⟨rfl, q, rfl⟩
      have HB2 : Hid (Below w.heap.size w (w1.drewN q)) := below_drewN HB1.out q
      go_wp2
      go_ret2
      exact ⟨HB2.out, .inl ⟨by rw [HE.out]; decide, by rw [HE.out]; rfl⟩⟩
    · rw [hr1] at HC1
      have HR1 := Lib.hid hr1
      clear hr1
      go_wp2_with fail
      refine HC1.out.mono ?_
      rintro e w2 ⟨rfl, q, hq⟩
      have HB2 : Hid (Below w.heap.size w w2) := by show Below _ _ _; rw [← hq]; exact below_drewN HB1.out q
      have HMP2 : Hid (MapF Try.prog .i64 .i64 3 3 w2 gm 300 (lgOf zs)) := by show MapF _ _ _ _ _ _ _ _ _; rw [← hq]; exact HMP.out.drewN q
      clear hq HB1 HMP HC1
      have HC2 := Lib.hid (HJ.out w2 HB2.out)
      clear HJ
      cases hr2 : riseB ps
      · rw [hr2] at HC2
        have HE : Hid (planE zs ks ps = 3) := planE_form H0.out (by rw [HR1.out, hr2]; rfl)
        clear hr2 HK HP
        go_wp2_with fail
        refine HC2.out.mono ?_
        rintro e w3 ⟨rfl, q, rfl⟩
        have HB3 : Hid (Below w.heap.size w (w2.drewN q)) := below_drewN HB2.out q
        go_wp2
        go_ret2
        exact ⟨HB3.out, .inl ⟨by rw [HE.out]; decide, by rw [HE.out]; rfl⟩⟩
      · rw [hr2] at HC2
        have HR : Hid ((riseB ks && riseB ps) = true) := by show _ = _; rw [HR1.out, hr2]; rfl
        have HRK := Lib.hid (riseB_iff.1 HR1.out)
        have HRP := Lib.hid (riseB_iff.1 hr2)
        clear hr2 HR1
        go_wp2_with fail
        refine HC2.out.mono ?_
        rintro e w3 ⟨rfl, q, hq⟩
        have HB3 : Hid (Below w.heap.size w w3) := by show Below _ _ _; rw [← hq]; exact below_drewN HB2.out q
        have HMP3 : Hid (MapF Try.prog .i64 .i64 3 3 w3 gm 300 (lgOf zs)) := by show MapF _ _ _ _ _ _ _ _ _; rw [← hq]; exact HMP2.out.drewN q
        clear hq HB2 HMP2 HC2
        have HC3 := Lib.hid (planHasAll_any K nk ck gm 300 zs ks w3 hnk ((HK.out.below HB3.out (Nat.le_refl _)).more HB3.out.size) HMP3.out)
        have HC4 := Lib.hid (planContainsAll_any K P nk ck np cp _ ks ps w3 hnk hnp (HK.out.below HB3.out (Nat.le_refl _)) (HP.out.below HB3.out (Nat.le_refl _)) HRK.out)
        cases hr3 : allIn zs ks
        · rw [hr3] at HC3
          have HE : Hid (planE zs ks ps = 5) := planE_none H0.out HR.out (by rw [hr3]; rfl)
          clear hr3 HK HP HC4
          go_wp2_with fail
          refine HC3.out.mono ?_
          rintro e w4 ⟨rfl, rfl⟩
          go_wp2
          go_ret2
          exact ⟨HB3.out, .inl ⟨by rw [HE.out]; decide, by rw [HE.out]; rfl⟩⟩
        · rw [hr3] at HC3
          have HR3 := Lib.hid hr3
          clear hr3
          go_wp2_with fail
          refine HC3.out.mono ?_
          rintro e w4 ⟨rfl, rfl⟩
          clear HC3
          cases hr4 : subB ks ps
          · rw [hr4] at HC4
            have HE : Hid (planE zs ks ps = 5) := planE_none H0.out HR.out (by rw [HR3.out, hr4]; rfl)
            clear hr4 HK HP
            go_wp2_with fail
            refine HC4.out.mono ?_
            rintro e w4 ⟨rfl, rfl⟩
            go_wp2
            go_ret2
            exact ⟨HB3.out, .inl ⟨by rw [HE.out]; decide, by rw [HE.out]; rfl⟩⟩
          · rw [hr4] at HC4
            have HE : Hid (planE zs ks ps = 0) := planE_ok H0.out HR.out (by rw [HR3.out, hr4]; rfl)
            have HOK := Lib.hid (planE_zero.1 HE.out)
            have hkl := HK.out.1
            have hk256 : nk ≤ 256 := by have := HOK.out.len; omega
            have hn256 := arena_len H0.out
            obtain ⟨w5, hrun, hO, hB⟩ := run_made_rows (P := Try.prog) (t := 59) runC_len (by omega) Try.underlying59 planRun (x0 := ((0, 0) : Int × Int)) rfl nk (by omega) (by unfold maxLen; omega) w3
            have HI5 : Hid (MvI zs ks ps w gm w3.heap.size 0 w5) := ⟨HMP3.out.below hB HMP3.out.lt, by rw [hkl, mvAt_zero]; exact hO.lessH HB3.out.size, HB3.out.trans (hB.mono HB3.out.size), by have := HMP3.out.lt; omega⟩
            clear hO hB hr4 HR3 HR HMP3
            go_wp2_with fail
            refine HC4.out.mono ?_
            rintro e w4 ⟨rfl, rfl⟩
            clear HC4
            obtain ⟨g, hg⟩ : ∃ g, w3.heap.size = g := ⟨_, rfl⟩
            rw [hg] at HI5 hrun
            clear hg
            go_wp2_with fail
            go_loopw [11, 46] (fun s i wr => ∃ k : Nat, k ≤ nk ∧ i = .int .i64 k ∧ s = .int .i64 (endN zs ks ps k) ∧ Hid (MvI zs ks ps w gm g k wr)) (fun _ i _ => nk - (intOf i).toNat)
            case atStart => exact ⟨0, Nat.zero_le _, rfl, rfl, HI5⟩
            case round =>
              obtain ⟨k, hkn, rfl, rfl, hI⟩ := hrel
              clear HI5 hrun HB3
              by_cases hlt : k < nk
              · have hb1 := hI.out.below
                obtain ⟨b, off, rfl, _, hcs⟩ := (HK.out.below hb1 (Nat.le_refl _)).2.2 (by omega)
                have hc := hcs k hlt
                have HCT := Lib.hid (planContains_any P np cp _ ps (nth ks k) wr hnp (HP.out.below hb1 (Nat.le_refl _)) HRP.out)
                have hlv := HOK.out.live (i := k) (by omega)
                have hto := HOK.out.to (i := k) (by omega)
                have hft := HOK.out.fits (i := k) (by omega)
                have hen := (HOK.out.ends k (by omega)).1
                have hes := HOK.out.live (i := k) (by omega)
                have hxw := HK.out.2.1 _ (nth_mem (l := ks) (j := k) (by omega))
                have hl1 := hI.out.map.look longT (x := nth ks k) hxw
                rw [lgOf_in hlv] at hl1
                have hES : Hid (endN zs ks ps (k + 1) = toN zs ks ps k + lgI zs (nth ks k)) := endN_succ
                obtain ⟨L, hL⟩ : ∃ L, lgI zs (nth ks k) = L := ⟨_, rfl⟩
                obtain ⟨T, hT⟩ : ∃ T, toN zs ks ps k = T := ⟨_, rfl⟩
                have HN := Lib.hid (hI.out.put (by omega) hT hL)
                have hl2 := HN.out.map.look longT (x := nth ks k) hxw
                rw [lgOf_in hlv, hL] at hl2
                rw [hL] at hl1 hft hES
                rw [hT] at hto hft hES
                have hTp := toN_pin (zs := zs) (ks := ks) (ps := ps) (i := k)
                have hTm := toN_move (zs := zs) (ks := ks) (ps := ps) (i := k)
                rw [hT] at hTp hTm
                obtain ⟨_, _, ⟨c0, c1⟩, f0, f1⟩ := hI.out.own.atR (p := k) (by rw [mvAt_len (by omega)]; omega)
                have e1 : wrap64 (T + L) = T + L := by unfold wrap64; omega
                unfold putR2 at hl2 HN
                simp only at hl2 HN
                clear hcs hlv hes hxw hL hT hb1 hI
                generalize (nthG (mvAt zs ks ps ks.length k) k).1 = O1 at *
                generalize (nthG (mvAt zs ks ps ks.length k) k).2 = O2 at *
                by_cases hin : nth ks k ∈ ps
                · rw [show decide (nth ks k ∈ ps) = true by simpa using hin] at HCT
                  have hx := hTp hin
                  clear hTp hTm hin
                  rw [hkl] at *
                  generalize nth ks k = X at *
                  subst hx
                  generalize endN zs ks ps k = En at *
                  go_wp2_with fail
                  refine HCT.out.mono ?_
                  rintro e w6 ⟨rfl, rfl⟩
                  go_wp2
                  go_roundw
                  case rel => exact ⟨k + 1, by omega, by go_num, by rw [hES.out], HN⟩
                  case measure => simp [intOf]; omega
                · rw [show decide (nth ks k ∈ ps) = false by simpa using hin] at HCT
                  have hx := hTm hin
                  clear hTp hTm hin
                  rw [hkl] at *
                  generalize nth ks k = X at *
                  generalize endN zs ks ps k = En at *
                  subst hx
                  go_wp2_with fail
                  refine HCT.out.mono ?_
                  rintro e w6 ⟨rfl, rfl⟩
                  go_wp2
                  go_roundw
                  case rel => exact ⟨k + 1, by omega, by go_num, by rw [hES.out], HN⟩
                  case measure => simp [intOf]; omega
              · obtain rfl : k = nk := by omega
                have HO := Lib.hid hI.out.own
                have HBB := Lib.hid hI.out.below
                rw [hkl] at HO
                have HAL := Lib.hid (mvAt_all (zs := zs) (ks := ks) (ps := ps))
                rw [hkl] at HAL
                rw [HAL.out] at HO
                clear hI HAL
                go_wp2
                go_ret2
                exact ⟨HBB.out, .inr ⟨HE.out, g, by rw [hkl]; rfl, by rw [hkl]; exact HO.out⟩⟩
/-- What between answers. -/
def BetwP (l : List (Int × Int)) (n : Int) (B : Nat) (w : World) (e : Ending) (w' : World) : Prop := ∃ v, e = .returned v ∧ OwnG runC 2 64 w' B v (betwL l n) ∧ Below B w w'
theorem gapsB_len {l : List (Int × Int)} : ∀ i, (gapsB l i).length ≤ i
  | 0 => Nat.zero_le _
  | i + 1 => by
    have := gapsB_len (l := l) i
    show (gapsB l i ++ _).length ≤ _
    rw [List.length_append]
    split
    · simp; omega
    · simp; omega
theorem gapsB_yes {l : List (Int × Int)} {i : Nat} (h : bEnd l i < (nthG l i).1) : gapsB l (i + 1) = gapsB l i ++ [(bEnd l i, (nthG l i).1 - bEnd l i)] := by
  show gapsB l i ++ _ = _
  rw [if_pos h]
theorem gapsB_no {l : List (Int × Int)} {i : Nat} (h : ¬ bEnd l i < (nthG l i).1) : gapsB l (i + 1) = gapsB l i := by
  show gapsB l i ++ _ = _
  rw [if_neg h, List.append_nil]
theorem bEnd_succ {l : List (Int × Int)} {i : Nat} : bEnd l (i + 1) = (nthG l i).1 + (nthG l i).2 := rfl
/-- Small numbers. -/
def SmallR (l : List (Int × Int)) : Prop := ∀ k, k < l.length → 0 ≤ (nthG l k).1 ∧ (nthG l k).1 ≤ 256 ∧ 0 ≤ (nthG l k).2 ∧ (nthG l k).2 ≤ 256
theorem SmallR.end_ {l : List (Int × Int)} (h : SmallR l) : ∀ {k : Nat}, k ≤ l.length → 0 ≤ bEnd l k ∧ bEnd l k ≤ 512
  | 0, _ => ⟨Int.le_refl _, by show (0 : Int) ≤ 512; decide⟩
  | k + 1, hk => by
    have := h k (by omega)
    rw [bEnd_succ]
    omega
/-- What holds while it goes over the ranges. -/
structure BtI (L : List (Int × Int)) (B B1 : Nat) (w w1 : World) (v : Value) (k : Nat) (wr : World) : Prop where
  own : OwnG runC 2 64 wr B1 v (gapsB L k)
  below : Below B w wr
  later : Below B1 w1 wr
set_option maxRecDepth 8000 in
set_option maxHeartbeats 2000000 in
theorem planBetween_any (A : Option Addr) (m c B n : Nat) (l : List (Int × Int)) (w : World) (ho : OwnG runC 2 64 w B (.slice A m c) l) (hl : l.length = m) (hm : m ≤ 256) (hB : B ≤ w.heap.size) (hs : SmallR (l ++ [((n : Int), 0)])) :
    Calls Try.prog 106 #[.slice A m c, .int .i64 n] w (BetwP l n B w) := by
  obtain ⟨v1, w1, hrun, hO, hB1⟩ := ho.push (P := Try.prog) (t := 59) (ty := 59) runC_len runC_one (by omega) Try.underlying59 planRun rfl (by omega) ((n : Int), (0 : Int)) (by omega) hB
  obtain ⟨A1, c1, rfl, _, hA1⟩ := hO.arr runC_len
  obtain ⟨L, hL⟩ : ∃ L, l ++ [((n : Int), (0 : Int))] = L := ⟨_, rfl⟩
  have hLl : L.length = m + 1 := by rw [← hL]; simp [hl]
  have HBL : Hid (betwL l n = gapsB L (m + 1)) := by show _ = _; unfold betwL; rw [hL, hl]
  rw [hL] at hs hA1
  rw [show (l ++ [((n : Int), (0 : Int))]).length = m + 1 by simp [hl]] at hrun
  rw [hLl] at hA1
  have HLL := Lib.hid hLl
  have HS := Lib.hid hs
  have HA := Lib.hid hA1
  have HI : Hid (BtI L B w1.heap.size w w1 (.slice none 0 0) 0 w1) := ⟨OwnG.nil, hB1, Below.refl _ _⟩
  have HBW : Hid (B ≤ w.heap.size) := hB
  have HB1S : Hid (B ≤ w1.heap.size) := Nat.le_trans hB hB1.size
  unfold BetwP
  clear ho hl hB hs hO hB1 hA1 hLl hL
  have HR := Lib.hid hrun
  clear hrun
  go_enter Try.func106, Try.ntmps106
  go_wp2_with (at_builtin; refine wpList_append_run rfl (.tmp 9) (.tmp 12) 59 rfl rfl rfl HR.out ?_)
  clear HR
  go_loopw [5, 6, 15] (fun v e i wr => ∃ (k : Nat) (u : Value), k ≤ m + 1 ∧ i = .int .i64 k ∧ e = .int .i64 (bEnd L k) ∧ u = v ∧ Hid (BtI L B w1.heap.size w w1 u k wr)) (fun _ _ i _ => m + 1 - (intOf i).toNat)
  case atStart => exact ⟨0, _, Nat.zero_le _, rfl, rfl, rfl, HI⟩
  case round =>
    obtain ⟨k, u, hkn, rfl, rfl, rfl, hI⟩ := hrel
    clear HI
    have hlen := gapsB_len (l := L) k
    by_cases hlt : k < m + 1
    · obtain ⟨b, off, rfl, _, hc0, hc1⟩ := (HA.out.below hI.out.later (Nat.le_refl _)).run hlt
      obtain ⟨hx0, hx1, hy0, hy1⟩ := HS.out k (by have := HLL.out; omega)
      obtain ⟨he0, he1⟩ := HS.out.end_ (k := k) (by have := HLL.out; omega)
      have hES := Lib.hid (bEnd_succ (l := L) (i := k))
      have HY := Lib.hid (gapsB_yes (l := L) (i := k))
      have HN := Lib.hid (gapsB_no (l := L) (i := k))
      have hk' : (k : Int) < (m : Int) + 1 := by omega
      generalize (nthG L k).1 = X at *
      generalize (nthG L k).2 = Y at *
      generalize bEnd L k = E at *
      have e1 : wrap64 (X + Y) = X + Y := by unfold wrap64; omega
      have e2 : wrap64 (X - E) = X - E := by unfold wrap64; omega
      by_cases hx : E < X
      · have c1 : (E < X) = True := eq_true hx
        have HG := Lib.hid (HY.out hx)
        have b2 := (Below.refl _ wr).alloc (Nat.le_refl _) (.cells #[.int .i64 X, .int .i64 Y] 64)
        have HBX := Lib.hid (Box.new wr 64 #[.int .i64 X, .int .i64 Y])
        obtain ⟨v', w', hrun, hO', hB', hK, _⟩ := (hI.out.own.below b2).pushK (P := Try.prog) (t := 59) (ty := 59) runC_len runC_one (by omega) Try.underlying59 planRun rfl (by omega) (E, X - E) (by omega) (Nat.le_trans hI.out.later.size b2.size)
        have hbx : Box w' wr.heap.size 64 #[.int .i64 X, .int .i64 Y] := (hK _ (by simp) (fun e => by have := hI.out.own.rowLt _ e; omega)).trans HBX.out
        have HI2 : Hid (BtI L B w1.heap.size w w1 v' (k + 1) w') :=
          ⟨by rw [HG.out]; exact hO', (hI.out.below.trans (b2.mono (Nat.le_trans HBW.out hI.out.below.size))).trans (hB'.mono HB1S.out), (hI.out.later.trans (b2.mono hI.out.later.size)).trans hB'⟩
        have hg0 : w'.cell? ⟨wr.heap.size, 0, none⟩ = some (.int .i64 X) := hbx.cell 0
        have hg1 : w'.cell? ⟨wr.heap.size, 1, none⟩ = some (.int .i64 Y) := hbx.cell 1
        rw [show (wr.alloc (.cells #[.int .i64 X, .int .i64 Y] 64)).heap.size = wr.heap.size + 1 by simp] at hrun
        have HR := Lib.hid hrun
        clear hrun hI HY HN hx b2 hO' hB' hK hbx HBX
        go_wp2_with (at_builtin; refine wpList_append_run rfl (.tmp 23) (.tmp 30) 59 rfl rfl rfl HR.out ?_)
        go_roundw
        case rel => exact ⟨k + 1, _, by omega, by go_num, by rw [hES.out], rfl, HI2⟩
        case measure => simp [intOf]; omega
      · have c1 : (E < X) = False := eq_false hx
        have HG := Lib.hid (HN.out hx)
        have HI2 : Hid (BtI L B w1.heap.size w w1 u (k + 1) (wr.alloc (.cells #[.int .i64 X, .int .i64 Y] 64))) := by
          have b2 := (Below.refl _ wr).alloc (Nat.le_refl _) (.cells #[.int .i64 X, .int .i64 Y] 64)
          exact ⟨by rw [HG.out]; exact hI.out.own.below b2, hI.out.below.trans (b2.mono (Nat.le_trans HBW.out hI.out.below.size)), hI.out.later.trans (b2.mono hI.out.later.size)⟩
        clear hI HY HN hx
        go_wp2
        go_roundw
        case rel => exact ⟨k + 1, _, by omega, by go_num, by rw [hES.out], rfl, HI2⟩
        case measure => simp [intOf]; omega
    · obtain rfl : k = m + 1 := by omega
      have HO := Lib.hid hI.out.own
      have HBB := Lib.hid hI.out.below
      clear hI
      go_wp2
      go_ret
      exact ⟨_, rfl, by rw [HBL.out]; exact HO.out.lessH HB1S.out, HBB.out⟩
theorem PlanOk.small {zs ks ps : List Int} (h : PlanOk zs ks ps) : SmallR (moveL zs ks ps ++ [((zs.length : Int), 0)]) := fun k hk => by
  have h256 := arena_len h.arena
  rw [List.length_append, moveL_len, List.length_singleton] at hk
  rcases Nat.lt_succ_iff_lt_or_eq.1 hk with h1 | h1
  · rw [move_nth h1]
    have := h.fits h1
    show 0 ≤ toN zs ks ps k ∧ toN zs ks ps k ≤ 256 ∧ 0 ≤ lgI zs (nth ks k) ∧ lgI zs (nth ks k) ≤ 256
    omega
  · subst h1
    rw [move_last]
    show (0 : Int) ≤ zs.length ∧ (zs.length : Int) ≤ 256 ∧ (0 : Int) ≤ 0 ∧ (0 : Int) ≤ 256
    omega
/-- What Gaps, To answer. -/
def PlanGpP (zs ks ps : List Int) (w : World) (e : Ending) (w' : World) : Prop := ∃ A m c, e = .returned (.tuple #[.slice A m c, .int .i64 (planE zs ks ps)]) ∧ Below w.heap.size w w' ∧ ArrG runC 2 w' w'.heap.size A m (gapR zs ks ps)
def PlanToP (zs ks ps : List Int) (w : World) (e : Ending) (w' : World) : Prop := ∃ A m c, e = .returned (.tuple #[.slice A m c, .int .i64 (planE zs ks ps)]) ∧ Below w.heap.size w w' ∧ Arr .i64 w' w'.heap.size A m (toR zs ks ps)
set_option maxHeartbeats 1000000 in
theorem planGaps_any (A K P : Option Addr) (n c nk ck np cp : Nat) (zs ks ps : List Int) (w : World) (hn : n ≤ maxLen) (hnc : n ≤ c) (ha : Arr .u64 w w.heap.size A n zs) (hnk : nk ≤ maxLen) (hk : Arr .i64 w w.heap.size K nk ks) (hnp : np ≤ maxLen) (hp : Arr .i64 w w.heap.size P np ps) :
    Calls Try.prog 80 #[.slice A n c, .slice K nk ck, .slice P np cp] w (PlanGpP zs ks ps w) := by
  have HM := Lib.hid (planMove_any A K P n c nk ck np cp zs ks ps w hn hnc ha hnk hk hnp hp)
  have HAL := Lib.hid ha.1
  unfold PlanGpP
  clear ha hk hp
  go_enter Try.func80, Try.ntmps80
  go_wp2_with fail
  refine HM.out.mono ?_
  rintro e w1 ⟨b1, h⟩
  have HB1 := Lib.hid b1
  clear b1 HM
  rcases h with ⟨h0, rfl⟩ | ⟨h0, g, rfl, ho⟩
  · have HR : Hid (gapR zs ks ps = []) := gapR_bad h0
    obtain ⟨E, hE⟩ : ∃ E, planE zs ks ps = E := ⟨_, rfl⟩
    have HPE := Lib.hid hE
    rw [hE] at h0 ⊢
    clear hE
    have hb : (E != 0) = true := by simpa using h0
    clear h0
    go_wp2
    go_ret2
    exact ⟨none, 0, 0, by rw [HPE.out]; rfl, HB1.out, by rw [HR.out]; exact ArrG.zero⟩
  · have HR : Hid (gapR zs ks ps = betwL (moveL zs ks ps) (n : Int)) := by show _ = _; rw [gapR_ok h0]; unfold gapP; rw [HAL.out]
    have HE := Lib.hid h0
    have hok := planE_zero.1 h0
    have hsm := hok.small
    rw [HAL.out] at hsm
    have HBT := Lib.hid (planBetween_any (some ⟨g, 0, none⟩) ks.length ks.length w.heap.size n (moveL zs ks ps) w1 ho moveL_len hok.len HB1.out.size hsm)
    clear h0 hok hsm ho
    go_wp2_with fail
    refine HBT.out.mono ?_
    rintro e w2 ⟨v, rfl, hO, hB⟩
    obtain ⟨A2, c2, rfl, _, hA2⟩ := hO.arr runC_len
    have HBB := Lib.hid (HB1.out.trans hB)
    have HA2 := Lib.hid hA2
    clear hO hB hA2
    go_wp2
    go_ret2
    exact ⟨_, _, _, by rw [HE.out]; rfl, HBB.out, by rw [HR.out]; exact HA2.out⟩
/-- What is in the list of new words when the first 'k' are. -/
def toAt (zs ks ps : List Int) (n k : Nat) : List Int := toTo zs ks ps k ++ List.replicate (n - k) 0
section
variable {zs ks ps : List Int} {n k : Nat}
theorem toAt_len (h : k ≤ n) : (toAt zs ks ps n k).length = n := by unfold toAt; rw [List.length_append, toTo_len, List.length_replicate]; omega
theorem toAt_zero : toAt zs ks ps n 0 = List.replicate n 0 := by unfold toAt; simp [toTo]
theorem toAt_all : toAt zs ks ps ks.length ks.length = toL zs ks ps := by unfold toAt; simp [toL]
theorem toAt_set (h : k < n) : (toAt zs ks ps n k).set k (toN zs ks ps k) = toAt zs ks ps n (k + 1) := by
  unfold toAt
  rw [toTo_succ, List.set_append_right _ _ (by rw [toTo_len]; exact Nat.le_refl _), toTo_len, Nat.sub_self, show n - k = (n - (k + 1)) + 1 by omega, List.replicate_succ, List.set_cons_zero, List.append_assoc]
  rfl
end
theorem planInt : (Try.prog.info? 3).map (fun i => (i.zero, i.size, i.bytes)) = some (some (.int .i64 0), 1, 8) := by kernel_rfl
/-- What holds while To goes over the moved. -/
structure PtI (zs ks ps : List Int) (w w1 : World) (k : Nat) (wr : World) : Prop where
  row : Whole .i64 3 wr w1.heap.size (toAt zs ks ps ks.length k)
  below : Below w.heap.size w wr
  later : Below w1.heap.size w1 wr
set_option maxRecDepth 8000 in
set_option maxHeartbeats 1000000 in
theorem planTo_any (A K P : Option Addr) (n c nk ck np cp : Nat) (zs ks ps : List Int) (w : World) (hn : n ≤ maxLen) (hnc : n ≤ c) (ha : Arr .u64 w w.heap.size A n zs) (hnk : nk ≤ maxLen) (hk : Arr .i64 w w.heap.size K nk ks) (hnp : np ≤ maxLen) (hp : Arr .i64 w w.heap.size P np ps) :
    Calls Try.prog 79 #[.slice A n c, .slice K nk ck, .slice P np cp] w (PlanToP zs ks ps w) := by
  have HM := Lib.hid (planMove_any A K P n c nk ck np cp zs ks ps w hn hnc ha hnk hk hnp hp)
  unfold PlanToP
  clear ha hk hp
  go_enter Try.func79, Try.ntmps79
  go_wp2_with fail
  refine HM.out.mono ?_
  rintro e w1 ⟨b1, h⟩
  have HB1 := Lib.hid b1
  clear b1 HM
  rcases h with ⟨h0, rfl⟩ | ⟨h0, g, rfl, ho⟩
  · have HR : Hid (toR zs ks ps = []) := toR_bad h0
    obtain ⟨E, hE⟩ : ∃ E, planE zs ks ps = E := ⟨_, rfl⟩
    have HPE := Lib.hid hE
    rw [hE] at h0 ⊢
    clear hE
    have hb : (E != 0) = true := by simpa using h0
    clear h0
    go_wp2
    go_ret2
    exact ⟨none, 0, 0, by rw [HPE.out]; rfl, HB1.out, by rw [HR.out]; exact Arr.zero⟩
  · have HR : Hid (toR zs ks ps = toL zs ks ps) := toR_ok h0
    have HE := Lib.hid h0
    have hok := planE_zero.1 h0
    have HOK := Lib.hid hok
    obtain ⟨A2, c2, hv, _, hA2⟩ := ho.arr runC_len
    rw [moveL_len] at hv hA2
    injection hv with e1 e2 e3
    subst e1
    have HA2 := Lib.hid hA2
    obtain ⟨m, hm⟩ : ∃ m, ks.length = m := ⟨_, rfl⟩
    have hm256 : m ≤ 256 := by rw [← hm]; exact hok.len
    have h256 := arena_len hok.arena
    have HML := Lib.hid hm
    rw [hm] at HA2 ⊢
    have hmk := fun wx => run_make_row' (P := Try.prog) 23 3 (.int .i64 0) 8 Try.underlying23 planInt rfl .i64 .i64 m (by omega) (by omega) wx
    have hW : Whole .i64 3 (w1.alloc (.cells (madeCells #[Value.int .i64 0] m) 3)) w1.heap.size (List.replicate m 0) := by
      rw [made_replicate]
      exact whole_new .i64 3 w1 _ (fun z hz => by rw [List.eq_of_mem_replicate hz]; rfl)
    have bm : Below w1.heap.size w1 (w1.alloc (.cells (madeCells #[Value.int .i64 0] m) 3)) := (Below.refl _ _).alloc (Nat.le_refl _) _
    have HI : Hid (PtI zs ks ps w w1 0 (w1.alloc (.cells (madeCells #[Value.int .i64 0] m) 3))) := ⟨by rw [hm, toAt_zero]; exact hW, HB1.out.trans (bm.mono HB1.out.size), bm⟩
    clear h0 hok ho hA2 e2 e3 hW bm hm
    go_wp2_with fail
    generalize (w1.alloc (.cells (madeCells #[Value.int .i64 0] m) 3)) = W1 at *
    obtain ⟨g2, hg2⟩ : ∃ g2, w1.heap.size = g2 := ⟨_, rfl⟩
    have HG2 := Lib.hid hg2
    rw [hg2]
    clear hmk hg2
    go_loopw [28] (fun i wr => ∃ k : Nat, k ≤ m ∧ i = .int .i64 k ∧ Hid (PtI zs ks ps w w1 k wr)) (fun i _ => m - (intOf i).toNat)
    case atStart => exact ⟨0, Nat.zero_le _, rfl, HI⟩
    case round =>
      obtain ⟨k, hkn, rfl, hI⟩ := hrel
      clear HI
      by_cases hlt : k < m
      · obtain ⟨b, off, hbo, _, hc0, hc1⟩ := (HA2.out.below hI.out.later (Nat.le_refl _)).run hlt
        injection hbo with hbo
        injection hbo with hb1 hb2
        subst hb1 hb2
        rw [show moveL zs ks ps = moveTo zs ks ps ks.length from rfl, moveTo_nth (by have := HML.out; omega)] at hc0 hc1
        simp only at hc0 hc1
        have hft := HOK.out.fits (i := k) (by have := HML.out; omega)
        obtain ⟨L, hL⟩ : ∃ L, lgI zs (nth ks k) = L := ⟨_, rfl⟩
        obtain ⟨T, hT⟩ : ∃ T, toN zs ks ps k = T := ⟨_, rfl⟩
        rw [hT] at hc0 hft
        rw [hL] at hc1 hft
        have b2 := (Below.refl _ wr).alloc (Nat.le_refl _) (.cells #[.int .i64 T, .int .i64 L] 64)
        have hW := hI.out.row.alloc (.cells #[.int .i64 T, .int .i64 L] 64)
        have hW2 := hW.set_ k T (wf_i64.2 (by omega))
        rw [← hT, toAt_set (by have := HML.out; omega), hT] at hW2
        have HN : Hid (PtI zs ks ps w w1 (k + 1) ((wr.alloc (.cells #[.int .i64 T, .int .i64 L] 64)).setCell ⟨g2, k, none⟩ (.int .i64 T))) := by
          rw [← HG2.out]
          exact ⟨hW2, below_set (hI.out.below.trans (b2.mono hI.out.below.size)) HB1.out.size _ _, below_set (hI.out.later.trans (b2.mono hI.out.later.size)) (Nat.le_refl _) _ _⟩
        have d0 := hW.cell (j := k) (by rw [toAt_len (by have := HML.out; omega)]; have := HML.out; omega)
        have f0 := hW.frozen k
        rw [HG2.out] at d0 f0
        clear hI hW hW2 b2 hL hT hft
        generalize nth (toAt zs ks ps ks.length k) k = O at *
        rw [Nat.zero_add] at hc0 hc1
        go_wp2
        go_roundw
        case rel => exact ⟨k + 1, by omega, by go_num, HN⟩
        case measure => simp [intOf]; omega
      · obtain rfl : k = m := by omega
        have hrow := hI.out.row
        have HBB := Lib.hid hI.out.below
        rw [HML.out] at hrow
        have HAL := Lib.hid (toAt_all (zs := zs) (ks := ks) (ps := ps))
        rw [HML.out] at HAL
        rw [HAL.out] at hrow
        have harr := hrow.arr hrow.lt
        rw [toL_len, HML.out, HG2.out] at harr
        have HAR := Lib.hid harr
        clear hI hrow harr HAL
        go_wp2
        go_ret2
        exact ⟨_, _, _, by rw [HE.out]; rfl, HBB.out, by rw [HR.out]; exact HAR.out⟩
end Go.Proofs.Ytjefbekdjgmmbaa
namespace Go.Proofs.Ytjefbekdjgmmbaa
open Go.RowKit
/-- The map of references' words when the first 'i' are in it. -/
def refTo (zs ks ps : List Int) : Nat → Int → Option Int
  | 0 => put (fun _ => none) 0 0
  | i + 1 => put (refTo zs ks ps i) (nth ks i + 1) (toN zs ks ps i + 1)
def refF (zs ks ps : List Int) : Int → Option Int := refTo zs ks ps ks.length
section
variable {zs ks ps : List Int}
theorem refTo_none {v : Int} (h0 : v ≠ 0) (hn : v - 1 ∉ ks) : ∀ i, i ≤ ks.length → refTo zs ks ps i v = none
  | 0, _ => put_other _ h0
  | i + 1, hi => by
    show put _ _ _ _ = _
    rw [put_other _ (fun e => hn (by rw [show v - 1 = nth ks i by omega]; exact nth_mem (by omega)))]
    exact refTo_none h0 hn i (by omega)
theorem PlanOk.refTo_zero (h : PlanOk zs ks ps) : ∀ i, i ≤ ks.length → refTo zs ks ps i 0 = some 0
  | 0, _ => put_same _ _ _
  | i + 1, hi => by
    have := (live_lg (h.live (i := i) (by omega))).1
    show put _ _ _ _ = _
    rw [put_other _ (by omega)]
    exact PlanOk.refTo_zero h i (by omega)
theorem PlanOk.refTo_in (h : PlanOk zs ks ps) : ∀ i, i ≤ ks.length → ∀ j, j < i → refTo zs ks ps i (nth ks j + 1) = some (toN zs ks ps j + 1)
  | 0, _, j, hj => absurd hj (by omega)
  | i + 1, hi, j, hj => by
    show put _ _ _ _ = _
    by_cases e : j = i
    · subst e; exact put_same _ _ _
    · have := h.rise (i := j) (j := i) (by omega) (by omega)
      rw [put_other _ (by omega)]
      exact PlanOk.refTo_in h i (by omega) j (by omega)
theorem PlanOk.refF_some (h : PlanOk zs ks ps) {v : Int} (hv : v = 0 ∨ v - 1 ∈ ks) : refF zs ks ps v = some (trW zs ks ps v) := by
  by_cases h0 : v = 0
  · rw [h0, trW_zero]; exact h.refTo_zero _ (Nat.le_refl _)
  · obtain ⟨q1, q2⟩ := plN_in (hv.resolve_left h0)
    have := h.refTo_in _ (Nat.le_refl _) _ q1
    rw [q2, show v - 1 + 1 = v by omega] at this
    unfold trW
    rw [if_neg h0]
    exact this
theorem refF_none {v : Int} (h0 : v ≠ 0) (hn : v - 1 ∉ ks) : refF zs ks ps v = none := refTo_none h0 hn _ (Nat.le_refl _)
end
/-- The words of an object of 'L' words when its first 'i' references are moved; these words laid at 't'. -/
def objO (f : Int → Option Int) (ys : List Int) (i d : Nat) : Int := if 1 ≤ d ∧ d ≤ i then (f (nth ys d)).getD 0 else nth ys d
def putO (us ys : List Int) (f : Int → Option Int) (t L i : Nat) : List Int := splice us t ((List.range L).map (objO f ys i))
section
variable {us ys : List Int} {f : Int → Option Int} {t L i : Nat}
theorem objO_len : ((List.range L).map (objO f ys i)).length = L := by simp
theorem objO_nth {d : Nat} (h : d < L) : nth ((List.range L).map (objO f ys i)) d = objO f ys i d := by
  rw [nth_get _ _ (by simpa using h)]; simp
theorem putO_len (h : t + L ≤ us.length) : (putO us ys f t L i).length = us.length := by
  unfold putO; exact length_splice _ _ _ (by rw [objO_len]; exact h)
theorem putO_in {k : Nat} (h : t + L ≤ us.length) (h1 : t ≤ k) (h2 : k < t + L) : nth (putO us ys f t L i) k = objO f ys i (k - t) := by
  unfold putO
  rw [nth_splice_in _ _ _ _ h1 (by rw [objO_len]; exact h2) (by omega), objO_nth (by omega)]
theorem putO_out {k : Nat} (h : t + L ≤ us.length) (h1 : ¬ (t ≤ k ∧ k < t + L)) : nth (putO us ys f t L i) k = nth us k := by
  unfold putO
  rw [nth_splice_out _ _ _ _ (by rw [objO_len]; exact h1) (by rw [objO_len]; exact h)]
theorem putO_zero (h : L ≤ ys.length) : putO us ys f t L 0 = splice us t (ys.take L) := by
  unfold putO
  congr 1
  refine list_ext (by rw [objO_len, List.length_take]; omega) fun k => ?_
  by_cases hk : k < L
  · rw [objO_nth hk]
    unfold objO
    rw [if_neg (by omega)]
    simp [nth, hk]
  · rw [nth_out (by rw [objO_len]; omega), nth_out (by rw [List.length_take]; omega)]
theorem putO_set (h : t + L ≤ us.length) (hi : i + 1 < L) : (putO us ys f t L i).set (t + (i + 1)) ((f (nth ys (i + 1))).getD 0) = putO us ys f t L (i + 1) := by
  refine list_ext (by rw [List.length_set, putO_len h, putO_len h]) fun k => ?_
  rw [nth_set _ (by rw [putO_len h]; omega)]
  by_cases hk : t ≤ k ∧ k < t + L
  · rw [putO_in h hk.1 hk.2, putO_in h hk.1 hk.2]
    unfold objO
    by_cases e : k = t + (i + 1)
    · subst e
      rw [if_pos rfl, if_pos (by omega), show t + (i + 1) - t = i + 1 by omega]
    · rw [if_neg e]
      by_cases hc : 1 ≤ k - t ∧ k - t ≤ i
      · rw [if_pos hc, if_pos (by omega)]
      · rw [if_neg hc, if_neg (by omega)]
  · rw [if_neg (by omega), putO_out h hk, putO_out h hk]
end
/-- An object of the arena, laid. -/
theorem PlanOk.put_laid {zs ks ps : List Int} {i L R : Nat} (h : PlanOk zs ks ps) (hi : i < ks.length) (hL : longN zs (kn ks i) = L) (hR : (vR (nth zs (kn ks i))).toNat = R) (hsome : ∀ d, 1 ≤ d → d ≤ R → (refF zs ks ps (nth (zs.drop (kn ks i)) d)).isSome = true) :
    putO (slidAt zs ks ps i 0) (zs.drop (kn ks i)) (refF zs ks ps) (tn zs ks ps i) L R = slidAt zs ks ps (i + 1) 0 := by
  subst hL hR
  obtain ⟨a1, a2, a3, a4, a5, a6, a7, a8⟩ := h.nat hi
  have hn : ∀ d, nth (zs.drop (kn ks i)) d = nth zs (kn ks i + d) := fun d => by unfold nth; simp [List.getD, List.getElem?_drop]
  have hf : tn zs ks ps i + longN zs (kn ks i) ≤ (slidAt zs ks ps i 0).length := by rw [slidAt_len]; exact a6
  rw [← h.laid hi]
  refine list_ext (by rw [putO_len hf, slidAt_len, slidAt_len]) fun k => ?_
  by_cases hk : tn zs ks ps i ≤ k ∧ k < tn zs ks ps i + longN zs (kn ks i)
  · rw [putO_in hf hk.1 hk.2, slidAt_nth (by omega), wAt_some (h.owner_at hi hk.1 hk.2), if_pos (.inr ⟨rfl, hk.2⟩)]
    unfold objO objW
    rw [hn]
    by_cases hc : 1 ≤ k - tn zs ks ps i ∧ k - tn zs ks ps i ≤ (vR (nth zs (kn ks i))).toNat
    · rw [if_pos hc, if_pos hc]
      have hs := hsome _ hc.1 hc.2
      rw [hn] at hs
      by_cases hv : nth zs (kn ks i + (k - tn zs ks ps i)) = 0 ∨ nth zs (kn ks i + (k - tn zs ks ps i)) - 1 ∈ ks
      · rw [h.refF_some hv]; rfl
      · rw [refF_none (fun e => hv (.inl e)) (fun e => hv (.inr e))] at hs
        cases hs
    · rw [if_neg hc, if_neg hc]
  · rw [putO_out hf hk]
    by_cases hkl : k < zs.length
    · rw [slidAt_nth hkl, slidAt_nth hkl]
      cases ho : owner zs ks ps k with
      | none => rw [wAt_none ho, wAt_none ho]
      | some j =>
        rw [wAt_some ho, wAt_some ho]
        by_cases hc : j < i
        · rw [if_pos (.inl hc), if_pos (.inl hc)]
        · rw [if_neg, if_neg]
          · rintro (hc2 | ⟨rfl, hc2⟩)
            · exact hc hc2
            · obtain ⟨_, h1, _⟩ := h.owner_in ho
              exact hk ⟨h1, hc2⟩
          · rintro (hc2 | ⟨rfl, hc2⟩)
            · exact hc hc2
            · obtain ⟨_, h1, _⟩ := h.owner_in ho
              omega
    · rw [nth_out (by rw [slidAt_len]; omega), nth_out (by rw [slidAt_len]; omega)]
theorem wrap_word {t : Nat} (h : t ≤ 256) : ∃ V : Int, (t : Int) + 1 = V ∧ IntKind.u64.wrap (t : Int) = (t : Int) ∧ IntKind.u64.wrap V = V ∧ (Lit.int .u64 V).wf = true :=
  ⟨(t : Int) + 1, rfl, IntWalk.u64_in _ (by omega), IntWalk.u64_in _ (by omega), wf_u64.2 (by omega)⟩
theorem slideRef_any (t : Nat) (w : World) (h : t ≤ 256) : Calls Try.prog 107 #[.int .i64 t] w fun e w' => e = .returned (.int .u64 ((t : Int) + 1)) ∧ w = w' := by
  obtain ⟨V, hV, e1, e2, _⟩ := wrap_word h
  have HV := Lib.hid hV
  have e3 : IntKind.u64.wrap ((t : Int) + 1) = V := by rw [hV]; exact e2
  clear hV
  go_enter Try.func107, Try.ntmps107
  go_wp2
  go_ret
  exact ⟨by rw [HV.out]; rfl, rfl⟩
theorem wordT : MapT Try.prog .u64 .u64 138 47 47 := ⟨Try.underlying138, Try.underlying47, Try.underlying47, fun _ => by kernel_rfl⟩
/-- What holds while references goes over what is kept. -/
structure RfI (zs ks ps : List Int) (w : World) (gm k : Nat) (wr : World) : Prop where
  map : MapF Try.prog .u64 .u64 47 47 wr gm (k + 1) (refTo zs ks ps k)
  below : Below w.heap.size w wr
/-- What references answers. -/
def RefsP (zs ks ps : List Int) (w : World) (e : Ending) (w' : World) : Prop := ∃ gm, e = .returned (.map (some gm)) ∧ w.heap.size ≤ gm ∧ Below w.heap.size w w' ∧ MapF Try.prog .u64 .u64 47 47 w' gm 300 (refF zs ks ps)
set_option maxRecDepth 8000 in
set_option maxHeartbeats 1000000 in
theorem slideRefs_any (K T : Option Addr) (n ck ct : Nat) (zs ks ps : List Int) (w : World) (hk : Arr .i64 w w.heap.size K n ks) (ht : Arr .i64 w w.heap.size T n (toL zs ks ps)) (h : PlanOk zs ks ps) :
    Calls Try.prog 81 #[.slice K n ck, .slice T n ct] w (RefsP zs ks ps w) := by
  have HK := Lib.hid hk
  have HT := Lib.hid ht
  have HOK := Lib.hid h
  have hkl := hk.1
  have h256 := h.len
  rw [hkl] at h256
  have HKL := Lib.hid hkl
  unfold RefsP
  clear hk ht h hkl
  have hmm := @run_makeMap Try.prog
  go_enter Try.func81, Try.ntmps81
  go_wp2_with (refine wpList_insert_map wordT _ rfl _ _ _ rfl rfl rfl rfl (MapF.made Try.prog .u64 .u64 47 47 w) (by unfold maxLen; omega) (by decide) (by decide) ?_; intro w2 hm2 hg2)
  have bm : Below w.heap.size w w2 := ((Below.refl _ w).alloc (Nat.le_refl _) _).trans (grown_below hg2 (Nat.le_refl _) (by simp))
  have HI := Lib.hid (⟨hm2, bm⟩ : RfI zs ks ps w w.heap.size 0 w2)
  have HG : Hid (w.heap.size ≤ w.heap.size) := Nat.le_refl _
  clear bm hm2 hg2 hmm
  obtain ⟨gm, hgm⟩ : ∃ g, w.heap.size = g := ⟨_, rfl⟩
  have HGM : Hid (w.heap.size ≤ gm) := Nat.le_of_eq hgm
  have HI : Hid (RfI zs ks ps w gm 0 w2) := by show RfI _ _ _ _ _ _ _; rw [← hgm]; exact HI.out
  rw [hgm]
  clear hgm
  go_loopw [12] (fun i wr => ∃ k : Nat, k ≤ n ∧ i = .int .i64 k ∧ Hid (RfI zs ks ps w gm k wr)) (fun i _ => n - (intOf i).toNat)
  case atStart => exact ⟨0, Nat.zero_le _, rfl, HI⟩
  case round =>
    obtain ⟨k, hkn, rfl, HI⟩ := hrel
    by_cases hlt : k < n
    · have hik : k < ks.length := by have := HKL.out; omega
      obtain ⟨b, off, rfl, _, hcs⟩ := (HK.out.below HI.out.below (Nat.le_refl _)).2.2 (by omega)
      have hc := hcs k hlt
      obtain ⟨b2, off2, rfl, _, hts⟩ := (HT.out.below HI.out.below (Nat.le_refl _)).2.2 (by omega)
      have hd := hts k hlt
      have hn256 := arena_len HOK.out.arena
      obtain ⟨a1, a2, a3, a4, a5, a6, a7, a8⟩ := HOK.out.nat hik
      have hnt : nth (toL zs ks ps) k = toN zs ks ps k := nth_toL hik
      rw [hnt, ← a1] at hd
      rw [← a2] at hc
      have HP : Hid (refTo zs ks ps (k + 1) = put (refTo zs ks ps k) ((kn ks k : Int) + 1) ((tn zs ks ps k : Int) + 1)) := by
        show _ = _; rw [a1, a2]; rfl
      have hs : kn ks k ≤ 256 := Nat.le_trans (Nat.le_trans (Nat.le_add_right _ _) a7) hn256
      have ht : tn zs ks ps k ≤ 256 := Nat.le_trans (Nat.le_trans (Nat.le_add_right _ _) a6) hn256
      clear hcs hts a1 a2 a3 a4 a5 a6 a7 a8 hnt hn256
      generalize kn ks k = s at *
      generalize tn zs ks ps k = t at *
      go_wp2
      refine wp_region_still_tail 8 (by kernel_rfl) (by kernel_rfl) ?_
      simp only [List.take_succ_cons, List.take_zero, List.drop_succ_cons, List.drop_zero]
      iterate 2 still_step
      still_call ((slideRef_any s _ hs).mono fun _ _ h => ⟨h.1, h.2.symm⟩)
      iterate 4 still_step
      still_call ((slideRef_any t _ ht).mono fun _ _ h => ⟨h.1, h.2.symm⟩)
      refine wpStill_nil ?_
      change wpList _ _ _ _ _ (wr.drewN 1)
      go_wp2_with (refine wpList_store_map wordT _ rfl _ _ _ rfl rfl rfl rfl (HI.out.map.drewN 1) (by unfold maxLen; omega) (wf_u64.2 (by omega)) (wf_u64.2 (by omega)) ?_; intro w3 hm3 hg3)
      have HN : Hid (RfI zs ks ps w gm (k + 1) w3) := ⟨by rw [HP.out]; exact hm3, (below_drewN HI.out.below 1).trans (grown_below hg3 HGM.out (by have := HI.out.below.size; exact this))⟩
      clear hm3 hg3
      go_roundw
      case rel => exact ⟨k + 1, by omega, by go_num, HN⟩
      case measure => simp [intOf]; omega
    · obtain rfl : k = n := by omega
      have HM := Lib.hid (HI.out.map.mono (n' := 300) (by omega))
      have HE : Hid (refTo zs ks ps k = refF zs ks ps) := by show _ = _; rw [← HKL.out]; rfl
      rw [HE.out] at HM
      have HB := Lib.hid HI.out.below
      go_wp2
      go_ret
      exact ⟨gm, rfl, HGM.out, HB.out, HM.out⟩
/-- copy(dst, src) of 'n' numbers into a block that is known whole, where there is room for more. -/
theorem run_copy_less {P : Program} {k : IntKind} {dT sT ty t : TypeId} (hu : P.underlying dT = some (.slice t)) (hs : (P.info? t).map (·.size) = some 1) {w : World} {B g off n dn dc sc : Nat} {sp : Option Addr} {cur src : List Int}
    (hW : Whole k t w g cur) (ha : Arr k w B sp n src) (h0 : 0 < n) (hm : n ≤ dn) (hfit : off + n ≤ cur.length) :
    Sem.run P (Builtin.copy_ #[dT, sT] ty #[.slice (some ⟨g, off, none⟩) dn dc, .slice sp n sc]) w = .ok (.int .i64 n) (w.setRow g ((splice cur off src).map (Value.int k)).toArray) := by
  obtain ⟨hl, hwf, hc⟩ := ha
  obtain ⟨b, o, rfl, _, hcell⟩ := hc h0
  have h := run_copy_row P w dT sT ty t g off dn dc ⟨b, o, none⟩ n sc _ t (src.map (Value.int k)) hu hs hW.1 (by rw [List.length_map, hl]; exact (Nat.min_eq_left hm).symm) ?_ (by simpa [hl] using hfit) ?_
  · rw [h]
    congr 2
    · simp [hl]
    · simp [splice, List.map_append, List.map_take, List.map_drop]
  · intro j v hj
    have hjl : j < n := by
      have := (List.getElem?_eq_some_iff.1 hj).1
      simpa [hl] using this
    have e : (⟨b, o, none⟩ : Addr).add j = ⟨b, o + j, none⟩ := by unfold Addr.add; split <;> simp_all
    rw [e, hcell j hjl, ← hj]
    simp [nth, List.getElem?_eq_getElem (by omega : j < src.length)]
  · intro v hv
    obtain ⟨z, _, rfl⟩ := List.mem_map.1 hv
    rfl
/-- What put answers. -/
def slPutP (us ys : List Int) (f : Int → Option Int) (g gm N t L R : Nat) (w : World) (e : Ending) (w' : World) : Prop := Below g w w' ∧
  ((e = .returned (.int .i64 0) ∧ (∀ d, 1 ≤ d → d ≤ R → (f (nth ys d)).isSome = true) ∧ Whole .u64 47 w' g (putO us ys f t L R) ∧ MapF Try.prog .u64 .u64 47 47 w' gm N f) ∨
   (e = .returned (.int .i64 8) ∧ ∃ d, 1 ≤ d ∧ d ≤ R ∧ f (nth ys d) = none))
/-- What holds while references are moved. -/
structure PutI (us ys : List Int) (f : Int → Option Int) (g gm N t L i gh : Nat) (hd : Array Value) (w wr : World) : Prop where
  whole : Whole .u64 47 wr g (putO us ys f t L i)
  map : MapF Try.prog .u64 .u64 47 47 wr gm N f
  below : Below g w wr
  box : Box wr gh 44 hd
  some_ : ∀ d, 1 ≤ d → d ≤ i → (f (nth ys d)).isSome = true
theorem PutI.set {us ys : List Int} {f : Int → Option Int} {g gm N t L i gh : Nat} {hd : Array Value} {w wr : World} (h : PutI us ys f g gm N t L i gh hd w wr) (hfit : t + L ≤ us.length) (hi : i + 1 < L) (hgm : gm ≠ g) (hgh : gh ≠ g) {x : Int} (hx : f (nth ys (i + 1)) = some x) (hxw : (Lit.int .u64 x).wf = true) :
    PutI us ys f g gm N t L (i + 1) gh hd w (wr.setCell ⟨g, t + (i + 1), none⟩ (.int .u64 x)) := by
  refine ⟨?_, h.map.setOther hgm.symm _ _, below_set h.below (Nat.le_refl _) _ _, h.box.setOther hgh _ _, fun d h1 h2 => ?_⟩
  · have h1 := h.whole.set_ (t + (i + 1)) x hxw
    have e := putO_set (us := us) (ys := ys) (f := f) hfit hi
    rw [hx] at e
    rw [← e]; exact h1
  · rcases Nat.lt_or_eq_of_le h2 with h3 | h3
    · exact h.some_ d h1 (by omega)
    · rw [h3, hx]; rfl
set_option maxRecDepth 8000 in
set_option maxHeartbeats 4000000 in
theorem slidePut_any (g t m cb : Nat) (D : Option Addr) (q cq gm N : Nat) (us ys : List Int) (f : Int → Option Int) (R Bn : Nat) (Tg : Int) (fr : Bool) (w : World) (hW : Whole .u64 47 w g us) (ha : Arr .u64 w g D q ys)
    (hm : MapF Try.prog .u64 .u64 47 47 w gm N f) (hgm : gm ≠ g) (hE : vErr (nth ys 0) = 0) (hR : vR (nth ys 0) = R) (hB : vB (nth ys 0) = Bn) (hT : vT (nth ys 0) = Tg) (hF : vF (nth ys 0) = fr) (hft : hFault R Bn Tg fr = 0)
    (hq : 1 + R + Bn ≤ q) (hqc : q ≤ cq) (hq2 : q ≤ 256) (hmt : 1 + R + Bn ≤ m) (htm : t + m ≤ us.length) :
    Calls Try.prog 82 #[.slice (some ⟨g, t, none⟩) m cb, .slice D q cq, .map (some gm)] w (slPutP us ys f g gm N t (1 + R + Bn) R w) := by
  have hwf := ha.2.1
  obtain ⟨b, off, rfl, hbg, hcs⟩ := ha.2.2 (by omega)
  have hl := ha.1
  have hw0 := hwf _ (nth_mem (l := ys) (j := 0) (by omega))
  rw [wf_u64] at hw0
  obtain ⟨v, hv⟩ := Int.eq_ofNat_of_zero_le hw0.1
  have hc0 := hcs 0 (by omega)
  rw [hv] at hw0 hE hR hB hT hF hc0
  have HRD := Lib.hid (fun wx => read_any v wx (by omega))
  rw [hE, hR, hB, hT, hF] at HRD
  have HLG := Lib.hid (fun wx => lengthOk R Bn Tg fr wx hft)
  have HCS : Hid (∀ wx, Below g w wx → ∀ d, d < q → wx.cell? ⟨b, off + d, none⟩ = some (.int .u64 (nth ys d))) := fun wx hb d hd => (hb.cell hbg).trans (hcs d hd)
  have HWF := Lib.hid hwf
  have HA := Lib.hid ha
  have HW := Lib.hid hW
  have HM := Lib.hid hm
  have HL := Lib.hid hl
  have hgw := hW.lt
  rw [Nat.add_zero] at hc0
  obtain ⟨L, hLn⟩ : ∃ L, 1 + R + Bn = L := ⟨_, rfl⟩
  have hRL : R + 1 ≤ L := by omega
  have hLI : 1 + (R : Int) + (Bn : Int) = (L : Int) := by omega
  rw [hLI] at HLG
  rw [hLn] at hq hmt ⊢
  unfold slPutP
  clear hw0 hE hR hB hT hF hft hwf ha hW hm hcs hv hl hLI hLn
  go_enter Try.func82, Try.ntmps82
  go_wp2_with fail
  refine (HRD.out w).mono ?_
  rintro e w1 ⟨rfl, b1⟩
  have b2 := (Below.refl _ w1).alloc (Nat.le_refl _) (.cells #[.int .i64 R, .int .i64 Bn, .int .i64 Tg, .bool fr] 44)
  have HB2 : Hid (Below g w (w1.alloc (.cells #[.int .i64 R, .int .i64 Bn, .int .i64 Tg, .bool fr] 44))) := (b1.mono (Nat.le_of_lt hgw)).trans (b2.mono (Nat.le_trans (Nat.le_of_lt hgw) b1.size))
  have HX2 := Lib.hid (Box.new w1 44 #[.int .i64 R, .int .i64 Bn, .int .i64 Tg, .bool fr])
  have HW2 := Lib.hid ((HW.out.below b1 hgw).below b2 (Nat.lt_of_lt_of_le hgw b1.size))
  have HM2 := Lib.hid ((HM.out.below b1 HM.out.lt).below b2 (Nat.lt_of_lt_of_le HM.out.lt b1.size))
  have HGH : Hid (g < w1.heap.size) := Nat.lt_of_lt_of_le hgw b1.size
  clear b1 b2 HW HM HRD hc0
  go_wp2_with fail
  refine (HLG.out _).mono ?_
  rintro e w3 ⟨rfl, b3⟩
  obtain ⟨gh, hgh⟩ : ∃ gh, w1.heap.size = gh := ⟨_, rfl⟩
  have HB3 := Lib.hid (HB2.out.trans (b3.mono (Nat.le_trans (Nat.le_of_lt hgw) HB2.out.size)))
  have HX3 := Lib.hid (HX2.out.below b3 HX2.out.lt)
  have HW3 := Lib.hid (HW2.out.below b3 HW2.out.lt)
  have HM3 := Lib.hid (HM2.out.below b3 HM2.out.lt)
  rw [hgh] at HX3 HGH ⊢
  clear b3 HB2 HX2 HW2 HM2 HLG hgh
  obtain ⟨D2, hs1, hD2⟩ := run_upto (P := Try.prog) Try.underlying22 u64_one (some ⟨b, off, none⟩) q cq L L rfl (by omega)
  obtain rfl := hD2 _ _ rfl
  have ha3 : Arr .u64 w3 g (some ⟨b, off, none⟩) L (ys.take L) := by
    have := (HA.out.below HB3.out (Nat.le_refl _)).cut (p := 0) (q := L) (D := some ⟨b, off, none⟩) (by omega) (fun b' off' e _ => by injection e with e; injection e with e1 e2; subst e1; subst e2; rfl)
    rwa [List.drop_zero] at this
  have hcp := run_copy_less (P := Try.prog) (dT := 22) (sT := 22) (ty := 3) (dc := cb) (sc := cq) Try.underlying22 u64_one HW3.out ha3 (by omega) hmt (off := t) (by omega)
  have hfit : t + L ≤ us.length := by omega
  have HI : Hid (PutI us ys f g gm N t L 0 gh #[.int .i64 R, .int .i64 Bn, .int .i64 Tg, .bool fr] w (w3.setRow g ((splice us t (ys.take L)).map (Value.int .u64)).toArray)) := by
    refine ⟨?_, HM3.out.keep (setRow_other _ _ _ _ hgm), below_setRow HB3.out (Nat.le_refl _) _, (setRow_other _ _ _ _ (Nat.ne_of_gt HGH.out)).trans HX3.out, fun d h1 h2 => absurd h1 (by omega)⟩
    rw [putO_zero (by have := HL.out; omega)]
    exact HW3.out.setRow fun z hz => (mem_splice hz).elim (HW3.out.2 z) (ha3.2.1 z)
  clear ha3 hD2 HX3 HW3 HM3 HB3
  generalize hRW : ((splice us t (ys.take L)).map (Value.int .u64)).toArray = RW at *
  clear hRW
  go_wp2_with fail
  clear hcp hs1
  go_loopw [10] (fun x wr => ∃ i J : Nat, i ≤ R ∧ i + 1 = J ∧ x = .int .i64 J ∧ Hid (PutI us ys f g gm N t L i gh #[.int .i64 R, .int .i64 Bn, .int .i64 Tg, .bool fr] w wr)) (fun x _ => R + 1 - (intOf x).toNat)
  case atStart => exact ⟨0, 1, Nat.zero_le _, rfl, rfl, HI⟩
  case round =>
    obtain ⟨i, J, hiR, hJ, rfl, HI'⟩ := hrel
    clear HI
    have x0 : wr.cell? ⟨gh, 0, none⟩ = some (.int .i64 R) := HI'.out.box.cell 0
    have HJ := Lib.hid hJ
    clear hJ
    by_cases hlt : i < R
    · have hJR : J ≤ R := by have := HJ.out; omega
      have hJq : J < q := by omega
      have c1 := HCS.out wr HI'.out.below J hJq
      have hlk := HI'.out.map.lookOk wordT (x := nth ys J) (HWF.out _ (nth_mem (by have := HL.out; omega)))
      have hxw := HI'.out.map.wf wordT (x := nth ys J) (HWF.out _ (nth_mem (by have := HL.out; omega)))
      cases hf : f (nth ys J) with
      | none =>
        rw [hf] at hlk
        have hlk : Sem.run Try.prog (Instr.lookup 138 (.map (some gm)) (.int .u64 (nth ys J)) true) wr = .ok (.tuple #[.int .u64 0, .bool false]) wr := hlk
        have HF : Hid (∃ d, 1 ≤ d ∧ d ≤ R ∧ f (nth ys d) = none) := ⟨J, by have := HJ.out; omega, hJR, hf⟩
        have HBB := Lib.hid HI'.out.below
        clear hf hxw HI'
        generalize nth ys J = X at *
        go_wp2
        go_ret
        exact ⟨HBB.out, .inr ⟨rfl, HF.out⟩⟩
      | some x =>
        rw [hf] at hlk hxw
        have hxw : (Lit.int .u64 x).wf = true := hxw
        have hlk : Sem.run Try.prog (Instr.lookup 138 (.map (some gm)) (.int .u64 (nth ys J)) true) wr = .ok (.tuple #[.int .u64 x, .bool true]) wr := hlk
        have hlen := putO_len (us := us) (ys := ys) (f := f) (i := i) hfit
        have d0 := HI'.out.whole.cell (j := t + J) (by rw [hlen]; omega)
        have f0 := HI'.out.whole.frozen (t + J)
        have hN := HI'.out.set hfit (by have := HJ.out; omega) hgm (Nat.ne_of_gt HGH.out) (x := x) (by rw [HJ.out]; exact hf) hxw
        rw [HJ.out] at hN
        have HN := Lib.hid hN
        have hJm : J < m := by omega
        clear hN hf hxw hlen HI'
        generalize nth ys J = X at *
        generalize nth (putO us ys f t L i) (t + J) = O at *
        go_wp2
        go_roundw
        case rel => exact ⟨J, J + 1, hJR, rfl, by go_num, HN⟩
        case measure => simp [intOf]; omega
    · have hnJ : R < J := by have := HJ.out; omega
      obtain rfl : i = R := by omega
      have HI2 := HI'
      clear HI' hlt
      go_wp2
      go_ret
      exact ⟨HI2.out.below, .inl ⟨rfl, HI2.out.some_, HI2.out.whole, HI2.out.map⟩⟩
section
variable {zs ks ps : List Int} {i : Nat}
/-- A reference's word is in the map just if what it names is kept. -/
theorem PlanOk.ref_iff (h : PlanOk zs ks ps) (hi : i < ks.length) {k : Nat} (hk : k < (vR (nth zs (kn ks i))).toNat) : (refF zs ks ps (nth (zs.drop (kn ks i)) (k + 1))).isSome = true ↔ (nth (named zs (kn ks i)) k < 0 ∨ nth (named zs (kn ks i)) k ∈ ks) := by
  obtain ⟨_, _, a3, _⟩ := h.nat hi
  have hn : nth (zs.drop (kn ks i)) (k + 1) = nth zs (kn ks i + 1 + k) := by unfold nth; simp [List.getD, List.getElem?_drop]; congr 2; omega
  rw [hn]
  rcases (ref_word h.arena a3 hk).2 with ⟨e1, e2⟩ | ⟨e1, e2⟩
  · rw [e1, e2, h.refF_some (.inl rfl)]
    exact ⟨fun _ => .inl (by decide), fun _ => rfl⟩
  · rw [e2]
    by_cases hin : nth (named zs (kn ks i)) k ∈ ks
    · rw [h.refF_some (.inr (by rw [show nth (named zs (kn ks i)) k + 1 - 1 = nth (named zs (kn ks i)) k by omega]; exact hin))]
      exact ⟨fun _ => .inr hin, fun _ => rfl⟩
    · rw [refF_none (by omega) (by rw [show nth (named zs (kn ks i)) k + 1 - 1 = nth (named zs (kn ks i)) k by omega]; exact hin)]
      exact ⟨fun hc => (by cases hc), fun hc => absurd hc (by rintro (hc | hc); omega; exact hin hc)⟩
theorem PlanOk.held_next (h : PlanOk zs ks ps) (hi : i < ks.length) {R : Nat} (hR : (vR (nth zs (kn ks i))).toNat = R) (hh : heldTo zs ks i) (hs : ∀ d, 1 ≤ d → d ≤ R → (refF zs ks ps (nth (zs.drop (kn ks i)) d)).isSome = true) : heldTo zs ks (i + 1) := fun j hj y hy => by
  rcases Nat.lt_succ_iff_lt_or_eq.1 hj with h1 | h1
  · exact hh j h1 y hy
  · subst h1
    obtain ⟨_, _, a3, _⟩ := h.nat hi
    have hy' : y ∈ named zs (kn ks j) := hy
    obtain ⟨k, hk, rfl⟩ := mem_nth hy'
    have hkR : k < (vR (nth zs (kn ks j))).toNat := by
      unfold named at hk
      rwa [List.length_map, refWords_len (begins_mem a3).2.2] at hk
    exact (h.ref_iff hi hkR).1 (hs (k + 1) (by omega) (by omega))
theorem PlanOk.held_bad (h : PlanOk zs ks ps) (hi : i < ks.length) {R : Nat} (hR : (vR (nth zs (kn ks i))).toNat = R) (hs : ∃ d, 1 ≤ d ∧ d ≤ R ∧ refF zs ks ps (nth (zs.drop (kn ks i)) d) = none) : heldB zs ks = false := by
  obtain ⟨d, h1, h2, h3⟩ := hs
  obtain ⟨_, _, a3, _⟩ := h.nat hi
  have hkR : d - 1 < (vR (nth zs (kn ks i))).toNat := by omega
  have hiff := h.ref_iff hi hkR
  rw [show d - 1 + 1 = d by omega, h3] at hiff
  have hno : ¬ (nth (named zs (kn ks i)) (d - 1) < 0 ∨ nth (named zs (kn ks i)) (d - 1) ∈ ks) := fun hc => by cases hiff.2 hc
  refine heldTo_not hi (y := nth (named zs (kn ks i)) (d - 1)) ?_ (fun hc => hno (.inl hc)) (fun hc => hno (.inr hc))
  show _ ∈ named zs (kn ks i)
  refine nth_mem ?_
  unfold named
  rw [List.length_map, refWords_len (begins_mem a3).2.2]
  exact hkR
end
/-- What holds while the objects are laid. -/
structure SlI (zs ks ps : List Int) (w2 : World) (g gm i : Nat) (wr : World) : Prop where
  whole : Whole .u64 47 wr g (slidAt zs ks ps i 0)
  map : MapF Try.prog .u64 .u64 47 47 wr gm 300 (refF zs ks ps)
  below : Below g w2 wr
  held : heldTo zs ks i
/-- What holds while the gaps are laid. -/
structure SgI (zs ks ps : List Int) (w2 : World) (g j : Nat) (wr : World) : Prop where
  whole : Whole .u64 47 wr g (joinTo (slidAt zs ks ps ks.length 0) ((gapP zs ks ps).take j))
  below : Below g w2 wr
/-- What Slide answers, its memory up to the capacity. -/
def SlideF (zs ks ps : List Int) (w : World) (e : Ending) (w' : World) : Prop := ∃ B m c D q d, e = .returned (.tuple #[.slice B m c, .slice D q d, .int .i64 (slideE zs ks ps)]) ∧ Below w.heap.size w w' ∧ m ≤ c ∧ Arr .u64 w' w'.heap.size B m (slideB zs ks ps) ∧ Arr .i64 w' w'.heap.size D q (slideT zs ks ps) ∧ SpareI .u64 47 w.heap.size w' B c
set_option maxRecDepth 8000 in
set_option maxHeartbeats 4000000 in
theorem slideF_any (A K P : Option Addr) (n c nk ck np cp : Nat) (zs ks ps : List Int) (w : World) (hn : n ≤ maxLen) (hnc : n ≤ c) (ha : Arr .u64 w w.heap.size A n zs) (hnk : nk ≤ maxLen) (hk : Arr .i64 w w.heap.size K nk ks) (hnp : np ≤ maxLen) (hp : Arr .i64 w w.heap.size P np ps) :
    Calls Try.prog 53 #[.slice A n c, .slice K nk ck, .slice P np cp] w (SlideF zs ks ps w) := by
  have HT := Lib.hid (planTo_any A K P n c nk ck np cp zs ks ps w hn hnc ha hnk hk hnp hp)
  have HA := Lib.hid ha
  have HK := Lib.hid hk
  have HP := Lib.hid hp
  have HAL := Lib.hid ha.1
  have HKL := Lib.hid hk.1
  have HWF := Lib.hid ha.2.1
  have HN : Hid (n ≤ maxLen ∧ nk ≤ maxLen ∧ np ≤ maxLen) := ⟨hn, hnk, hnp⟩
  unfold SlideF
  clear ha hk hp hn hnk hnp
  go_enter Try.func53, Try.ntmps53
  go_wp2_with fail
  refine HT.out.mono ?_
  rintro e w1 ⟨A1, m1, c1, rfl, b1, hA1⟩
  by_cases h0 : planE zs ks ps = 0
  · rw [h0]
    rw [toR_ok h0] at hA1
    have HOK := Lib.hid (planE_zero.1 h0)
    have H0 := Lib.hid h0
    obtain rfl : m1 = nk := by have h1 := hA1.1; rw [toL_len, HKL.out] at h1; exact h1.symm
    have HB1 := Lib.hid b1
    have HA1 := Lib.hid hA1
    have HG := Lib.hid (planGaps_any A K P n c m1 ck np cp zs ks ps w1 HN.out.1 hnc ((HA.out.below b1 (Nat.le_refl _)).more b1.size) HN.out.2.1 ((HK.out.below b1 (Nat.le_refl _)).more b1.size) HN.out.2.2 ((HP.out.below b1 (Nat.le_refl _)).more b1.size))
    clear HT h0 b1 hA1
    go_wp2_with fail
    refine HG.out.mono ?_
    rintro e w2 ⟨F, r, fc, rfl, b2, hF⟩
    rw [H0.out]
    rw [gapR_ok H0.out] at hF
    have hm256 : m1 ≤ 256 := by have := HOK.out.len; rw [HKL.out] at this; exact this
    have hn256 : n ≤ 256 := by have := arena_len HOK.out.arena; rw [HAL.out] at this; exact this
    have HB2 := Lib.hid (HB1.out.trans (b2.mono HB1.out.size))
    have HA2 := Lib.hid ((HA1.out.below b2 (Nat.le_refl _)).more b2.size)
    have HF := Lib.hid hF
    have HNW := Lib.hid (new_ok n w2 (by omega) (by omega))
    rw [Int.toNat_natCast] at HNW
    clear HG HB1 HA1 b2 hF
    go_wp2_with fail
    refine HNW.out.mono ?_
    rintro e w3 ⟨rfl, hW3, b3⟩
    have HW3 := Lib.hid hW3
    have HB3 := Lib.hid b3
    have HRF := Lib.hid (slideRefs_any K A1 m1 ck c1 zs ks ps w3 ((HK.out.below (HB2.out.trans (b3.mono HB2.out.size)) (Nat.le_refl _)).more (Nat.le_trans HB2.out.size b3.size)) ((HA2.out.below b3 (Nat.le_refl _)).more b3.size) HOK.out)
    clear hW3 b3 HNW
    go_wp2_with fail
    refine HRF.out.mono ?_
    rintro e w4 ⟨gm, rfl, hgm, b4, hM4⟩
    have hg3 := HW3.out.lt
    have HI : Hid (SlI zs ks ps w2 w2.heap.size gm 0 w4) := ⟨by rw [slidAt_zero, HAL.out]; exact HW3.out.below b4 hg3, hM4, HB3.out.trans (b4.mono HB3.out.size), fun j hj => absurd hj (by omega)⟩
    obtain ⟨g, hg⟩ : ∃ g, w2.heap.size = g := ⟨_, rfl⟩
    have HG : Hid (w2.heap.size = g) := hg
    have hgg : gm ≠ g := by omega
    rw [hg] at HI
    rw [hg]
    clear hg hg3 hgm b4 hM4 HRF HW3 HB3
    go_wp2_with fail
    go_loopw [53] (fun x wr => ∃ i : Nat, i ≤ m1 ∧ x = .int .i64 i ∧ Hid (SlI zs ks ps w2 g gm i wr)) (fun x _ => m1 - (intOf x).toNat)
    case atStart => exact ⟨0, Nat.zero_le _, rfl, HI⟩
    case round =>
      obtain ⟨i, him, rfl, HI'⟩ := hrel
      clear HI
      by_cases hlt : i < m1
      · have hik : i < ks.length := by have := HKL.out; omega
        have hbw : Below w.heap.size w wr := HB2.out.trans (HI'.out.below.mono (by rw [← HG.out]; exact HB2.out.size))
        obtain ⟨b, off, rfl, _, hcs⟩ := (HK.out.below hbw (Nat.le_refl _)).2.2 (by omega)
        have hc := hcs i hlt
        have hA2 : Arr .i64 wr w2.heap.size A1 m1 (toL zs ks ps) := HA2.out.below HI'.out.below (by rw [HG.out]; exact Nat.le_refl _)
        obtain ⟨b2, off2, rfl, _, hts⟩ := hA2.2.2 (by omega)
        have hd := hts i hlt
        obtain ⟨a1, a2, a3, a4, a5, a6, a7, a8⟩ := HOK.out.nat hik
        have hnt : nth (toL zs ks ps) i = toN zs ks ps i := nth_toL hik
        rw [hnt, ← a1] at hd
        rw [← a2] at hc
        obtain ⟨R, Bn, hR, hB, q1, q2, q3, q4, q5, q6, q7, q8⟩ := spot_facts (begins_mem a3).2.2 HWF.out (begins_mem a3).2.1
        have hnn : ∀ d, nth (zs.drop (kn ks i)) d = nth zs (kn ks i + d) := fun d => by unfold nth; simp [List.getD, List.getElem?_drop]
        have hvb : vErr (nth (zs.drop (kn ks i)) 0) = 0 := by
          rw [hnn, Nat.add_zero]
          unfold vErr
          rw [(stepOk_iff.1 (begins_mem a3).2.2).1]
          rfl
        have hLN : longN zs (kn ks i) = 1 + R + Bn := q7
        rw [a4] at q6
        have hal := HAL.out
        have hRN : (vR (nth zs (kn ks i))).toNat = R := by rw [hR]; rfl
        have HPL := Lib.hid (fun hs => HOK.out.put_laid (L := 1 + R + Bn) (R := R) hik hLN hRN hs)
        have HHN := Lib.hid (fun hs => HOK.out.held_next (R := R) hik hRN HI'.out.held hs)
        have HHB := Lib.hid (fun hs => HOK.out.held_bad (R := R) hik hRN hs)
        have hsn : kn ks i ≤ n := by omega
        have htn : tn zs ks ps i ≤ n := by omega
        have hsl : 1 + R + Bn ≤ n - kn ks i := by omega
        have htl : 1 + R + Bn ≤ n - tn zs ks ps i := by omega
        obtain ⟨D1, hs1, hD1⟩ := run_from (P := Try.prog) Try.underlying22 u64_one (some ⟨g, 0, none⟩) n n (tn zs ks ps i) (tn zs ks ps i) rfl htn (Nat.le_refl _)
        obtain rfl := hD1 _ _ rfl (by omega)
        rw [Nat.zero_add] at hs1
        obtain ⟨D2, hs2, hD2⟩ := run_from (P := Try.prog) Try.underlying22 u64_one A n c (kn ks i) (kn ks i) rfl hsn hnc
        have hA3 : Arr .u64 (wr.drewN 1) g D2 (n - kn ks i) (zs.drop (kn ks i)) := by
          have h1 := (((HA.out.below hbw (Nat.le_refl _)).drewN 1).cut (p := kn ks i) (q := n - kn ks i) (by omega) hD2).more (B' := g) (by rw [← HG.out]; exact HB2.out.size)
          rwa [List.take_of_length_le (by rw [List.length_drop]; omega)] at h1
        have HPT := Lib.hid (slidePut_any g (tn zs ks ps i) (n - tn zs ks ps i) (n - tn zs ks ps i) D2 (n - kn ks i) (c - kn ks i) gm 300 (slidAt zs ks ps i 0) (zs.drop (kn ks i)) (refF zs ks ps) R Bn (vT (nth zs (kn ks i))) false (wr.drewN 1)
          (HI'.out.whole.below (below_drewN (Below.refl _ _) 1) HI'.out.whole.lt) hA3 (HI'.out.map.drewN 1) hgg hvb (by rw [hnn]; exact hR) (by rw [hnn]; exact hB) (by rw [hnn]; rfl) (by rw [hnn]; exact a4) q6 hsl (by omega) (by omega) htl (by rw [slidAt_len]; omega))
        have HBL := Lib.hid (below_drewN HI'.out.below 1)
        clear hcs hts a1 a2 a3 a4 a5 a6 a7 a8 hnt hR hB q1 q2 q3 q4 q5 q6 q7 q8 hnn hvb hLN hal hRN hA2 hA3 hD1 hD2 hbw HI'
        go_wp2_with fail
        go_still_tail 10, (by kernel_rfl)
        change wpList _ _ _ _ _ (wr.drewN 1)
        clear hs1 hs2 hc hd
        go_wp2_with fail
        refine HPT.out.mono ?_
        rintro e w5 ⟨b5, hP⟩
        have HB5 : Hid (Below g w2 w5) := HBL.out.trans b5
        clear b5 HPT HBL
        rcases hP with ⟨rfl, hsome, hW5, hM5⟩ | ⟨rfl, hno⟩
        · rw [HPL.out hsome] at hW5
          have HN5 : Hid (SlI zs ks ps w2 g gm (i + 1) w5) := ⟨hW5, hM5, HB5.out, HHN.out hsome⟩
          clear hsome hW5 hM5
          go_wp2
          go_roundw
          case rel => exact ⟨i + 1, by omega, by go_num, HN5⟩
          case measure => simp [intOf]; omega
        · have HE : Hid (slideE zs ks ps = 8) := slideE_held H0.out (HHB.out hno)
          clear hno
          go_wp2
          go_ret3
          exact ⟨none, 0, 0, none, 0, 0, by rw [HE.out]; rfl, HB2.out.trans (HB5.out.mono (by rw [← HG.out]; exact HB2.out.size)), Nat.le_refl _, by rw [slideB_bad (by rw [HE.out]; decide)]; exact Arr.zero, by rw [slideT_bad (by rw [HE.out]; decide)]; exact Arr.zero, SpareI.nil⟩
      · obtain rfl : i = m1 := by omega
        have HHD := Lib.hid (heldTo_all (zs := zs) (ks := ks) (by rw [HKL.out]; exact HI'.out.held))
        have hrl := HF.out.1
        have HRL := Lib.hid hrl
        have hr256 : r ≤ 257 := by
          have h1 := HOK.out.few
          have h2 := HOK.out.plen
          omega
        have HI2 : Hid (SgI zs ks ps w2 g 0 wr) := ⟨by rw [List.take_zero]; have := HI'.out.whole; rw [← HKL.out] at this; exact this, HI'.out.below⟩
        clear HI' hrl
        go_wp2_with fail
        generalize wr = W0 at *
        go_loopw [75] (fun x wx => ∃ j : Nat, j ≤ r ∧ x = .int .i64 j ∧ Hid (SgI zs ks ps w2 g j wx)) (fun x _ => r - (intOf x).toNat)
        case atStart => exact ⟨0, Nat.zero_le _, rfl, HI2⟩
        case round =>
          obtain ⟨j, hjr, rfl, HI⟩ := hrel
          clear HI2
          by_cases hlt2 : j < r
          · have hF2 : ArrG runC 2 wr w2.heap.size F r (gapP zs ks ps) := HF.out.below HI.out.below (by rw [HG.out]; exact Nat.le_refl _)
            obtain ⟨b, off, rfl, _, hc0, hc1⟩ := hF2.run hlt2
            have hj : j < (gapP zs ks ps).length := by have := HRL.out; omega
            obtain ⟨s, L, e1, e2, hL, hsl, _⟩ := HOK.out.slid_gap0 hj
            have hset := HOK.out.gapAt hj
            rw [e1, e2, Int.toNat_natCast, Int.toNat_natCast] at hset
            rw [e1] at hc0
            rw [e2] at hc1
            have hal := HAL.out
            have hsn : s < n := by omega
            have hL256 : L ≤ 256 := by omega
            have hwf := (fWord_facts hL hL256).2.2.2
            have hwrd := word_any 0 ((L : Int) - 1) 0 true
            have hfw : wordOr 0 ((L : Int) - 1) 0 true = fWord L := by unfold wordOr; rw [if_pos (fWord_fault hL hL256)]; rfl
            rw [hfw, fWord_fault hL hL256] at hwrd
            have HFH := Lib.hid hwrd
            have b5 := (Below.refl _ wr).alloc (Nat.le_refl _) (.cells #[.int .i64 s, .int .i64 L] 64)
            have HGW : Hid (g < wr.heap.size) := HI.out.whole.lt
            have HW5 := Lib.hid (HI.out.whole.below b5 HI.out.whole.lt)
            have HBB5 := Lib.hid (HI.out.below.trans (b5.mono (Nat.le_of_lt HI.out.whole.lt)))
            have HX5 := Lib.hid (Box.new wr 64 #[.int .i64 s, .int .i64 L])
            have HST := Lib.hid hset
            have HJL : Hid ((joinTo (slidAt zs ks ps ks.length 0) ((gapP zs ks ps).take j)).length = n) := by
              show _ = _
              rw [HOK.out.gap_len hj]; exact hal
            clear hset e1 e2 hal hsl hj b5 HI hwrd hfw hF2
            generalize hV : fWord L = V at *
            clear hV
            go_wp2_with fail
            obtain ⟨gx, hgx⟩ : ∃ gx, wr.heap.size = gx := ⟨_, rfl⟩
            rw [hgx] at HX5
            rw [hgx]
            clear hgx hc0 hc1
            have HW6 : Hid (Whole .u64 47 ((wr.alloc (.cells #[.int .i64 s, .int .i64 L] 64)).drewN 1) g (joinTo (slidAt zs ks ps ks.length 0) ((gapP zs ks ps).take j))) := HW5.out
            have HBB6 := Lib.hid (below_drewN HBB5.out 1)
            have HX6 : Hid (Box ((wr.alloc (.cells #[.int .i64 s, .int .i64 L] 64)).drewN 1) gx 64 #[.int .i64 s, .int .i64 L]) := HX5.out
            have e9 : IntKind.i64.wrap ((L : Int) - 1) = (L : Int) - 1 := IntWalk.i64_in _ (by omega)
            clear HW5 HBB5 HX5
            refine wp_region_Y 12 (fun w' => w'.cell? ⟨gx, 0, none⟩ = some (.int .i64 s) ∧ w'.cell? ⟨gx, 1, none⟩ = some (.int .i64 L)) (by kernel_rfl) ?_
            change anyY _ _ _ _ _ _ _ _ _ ((wr.alloc (.cells #[.int .i64 s, .int .i64 L] 64)).drewN 1)
            generalize ((wr.alloc (.cells #[.int .i64 s, .int .i64 L] 64)).drewN 1) = W at *
            have hS0 : W.cell? ⟨gx, 0, none⟩ = some (.int .i64 s) ∧ W.cell? ⟨gx, 1, none⟩ = some (.int .i64 L) := ⟨HX6.out.cell 0, HX6.out.cell 1⟩
            refine anyY_pure (i := 0) (v := .slice (some ⟨g, 0, none⟩) n n) rfl rfl rfl (by kernel_rfl) (by kernel_rfl) (by kernel_rfl) (fun _ _ _ h => h) (Or.inl ⟨by rfl, fun wx _ => ?_⟩) (.inr hS0) ?_
            · go_simp
            refine anyY_pure (i := 1) (v := .pointer (some ⟨gx, 0, none⟩)) rfl rfl rfl (by kernel_rfl) (by kernel_rfl) (by kernel_rfl) (fun _ _ _ h => h) (Or.inl ⟨by rfl, fun wx _ => ?_⟩) (.inr hS0) ?_
            · go_simp
            refine anyY_take (i := 2) (v := .int .i64 s) rfl rfl (by kernel_rfl) rfl (by kernel_rfl) (by kernel_rfl) (by kernel_rfl) (by kernel_rfl) (fun _ _ _ h => h) (Or.inl ⟨by rfl, fun wx hS => ?_⟩) hS0 ?_
            · obtain ⟨q0, q1⟩ := hS
              go_simp
            refine anyY_pure (i := 3) (v := .pointer (some ⟨gx, 1, none⟩)) rfl rfl rfl (by kernel_rfl) (by kernel_rfl) (by kernel_rfl) (fun _ _ _ h => h) (Or.inl ⟨by rfl, fun wx _ => ?_⟩) (.inr hS0) ?_
            · go_simp
            refine anyY_take (i := 4) (v := .int .i64 L) rfl rfl (by kernel_rfl) rfl (by kernel_rfl) (by kernel_rfl) (by kernel_rfl) (by kernel_rfl) (fun _ _ _ h => h) (Or.inl ⟨by rfl, fun wx hS => ?_⟩) hS0 ?_
            · obtain ⟨q0, q1⟩ := hS
              go_simp
            refine anyY_pure (i := 5) (v := .int .i64 ((L : Int) - 1)) rfl rfl rfl (by kernel_rfl) (by kernel_rfl) (by kernel_rfl) (fun _ _ _ h => h) (Or.inl ⟨by rfl, fun wx _ => ?_⟩) (.inr hS0) ?_
            · go_simp
            refine anyY_pure (i := 6) (v := .agg #[.int .i64 0, .int .i64 ((L : Int) - 1), .int .i64 0, .bool true]) rfl rfl rfl (by kernel_rfl) (by kernel_rfl) (by kernel_rfl) (fun _ _ _ h => h) (Or.inl ⟨by rfl, fun wx _ => ?_⟩) (.inr hS0) ?_
            · go_simp
            refine anyY_only (i := 7) (by kernel_rfl) ?_
            refine wpOp_step rfl fun K' hK' => ?_
            go_simp
            refine (HFH.out _).mono ?_
            rintro e w7 ⟨rfl, b7⟩
            have HGW7 : Hid (g < W.heap.size) := HW6.out.lt
            have HW7 := Lib.hid (HW6.out.below b7 HW6.out.lt)
            have HBB7 := Lib.hid (HBB6.out.trans (b7.mono (Nat.le_of_lt HW6.out.lt)))
            have HX7 := Lib.hid (HX6.out.below b7 HX6.out.lt)
            have hS2 : w7.cell? ⟨gx, 0, none⟩ = some (.int .i64 s) ∧ w7.cell? ⟨gx, 1, none⟩ = some (.int .i64 L) := ⟨HX7.out.cell 0, HX7.out.cell 1⟩
            refine hK' _ _ ⟨.inr (.inr hS2), ?_⟩
            clear hK' hS0 b7 HW6 HBB6 HX6
            refine anyY_pure (i := 8) (v := .tuple #[.int .u64 V, .int .i64 0]) rfl rfl rfl (by kernel_rfl) (by kernel_rfl) (by kernel_rfl) (fun _ _ _ h => h) (Or.inl ⟨by rfl, fun wx _ => ?_⟩) (.inr hS2) ?_
            · go_simp
            refine anyY_pure (i := 9) (v := .int .u64 V) rfl rfl rfl (by kernel_rfl) (by kernel_rfl) (by kernel_rfl) (fun _ _ _ h => h) (Or.inl ⟨by rfl, fun wx _ => ?_⟩) (.inr hS2) ?_
            · go_simp
            refine anyY_pure (i := 10) (v := .int .i64 0) rfl rfl rfl (by kernel_rfl) (by kernel_rfl) (by kernel_rfl) (fun _ _ _ h => h) (Or.inl ⟨by rfl, fun wx _ => ?_⟩) (.inr hS2) ?_
            · go_simp
            refine anyY_pure (i := 11) (v := .pointer (some ⟨g, s, none⟩)) rfl rfl rfl (by kernel_rfl) (by kernel_rfl) (by kernel_rfl) (fun _ _ _ h => h) (Or.inl ⟨by rfl, fun wx _ => ?_⟩) (.inr hS2) ?_
            · go_simp
            refine anyY_only (i := 12) (by kernel_rfl) ?_
            have d0 := HW7.out.cell (j := s) (by rw [HJL.out]; exact hsn)
            have f0 := HW7.out.frozen s
            have hN := HW7.out.set_ s V hwf
            rw [HST.out] at hN
            have HN : Hid (SgI zs ks ps w2 g (j + 1) (w7.setCell ⟨g, s, none⟩ (.int .u64 V))) := ⟨hN, below_set HBB7.out (Nat.le_refl _) _ _⟩
            clear HW7 HX7 hS2 hN HBB7
            generalize nth (joinTo (slidAt zs ks ps ks.length 0) ((gapP zs ks ps).take j)) s = O at *
            refine wpOp_step rfl fun K' hK' => ?_
            go_simp
            refine hK' _ _ ⟨.inr (.inl rfl), ?_⟩
            clear hK' d0 f0
            generalize (w7.setCell ⟨g, s, none⟩ (.int .u64 V)) = W8 at *
            refine anyY_pure (i := 13) (v := .int .i64 0) rfl rfl rfl (by kernel_rfl) (by kernel_rfl) (by kernel_rfl) (fun _ _ _ h => h) (Or.inl ⟨by rfl, fun wx _ => ?_⟩) (.inl (by kernel_rfl)) ?_
            · go_simp
            refine anyY_done (by kernel_rfl) ?_ _
            go_wp2
            go_roundw
            case rel => exact ⟨j + 1, by omega, by go_num, HN⟩
            case measure => simp [intOf]; omega
          · obtain rfl : j = r := by omega
            have hW := HI.out.whole
            rw [← HRL.out, slid_gaps_all] at hW
            have harr := hW.arr hW.lt
            rw [HOK.out.slid_len, HAL.out] at harr
            have HE : Hid (slideE zs ks ps = 0) := slideE_ok H0.out HHD.out
            have HAR := Lib.hid harr
            have HTO := Lib.hid ((HA2.out.below HI.out.below (by rw [HG.out]; exact Nat.le_refl _)).more (B' := wr.heap.size) (by rw [HG.out]; exact Nat.le_of_lt hW.lt))
            have HBB := Lib.hid (HB2.out.trans (HI.out.below.mono (by rw [← HG.out]; exact HB2.out.size)))
            have HSP : Hid (SpareI .u64 47 w.heap.size wr (some ⟨g, 0, none⟩) n) := .inr ⟨g, _, rfl, by rw [← HG.out]; exact HB2.out.size, by rw [HOK.out.slid_len, HAL.out], HN.out.1, hW⟩
            clear hW harr HI
            go_wp2
            go_ret3
            exact ⟨_, _, _, _, _, _, by rw [HE.out]; rfl, HBB.out, Nat.le_refl _, by rw [slideB_ok HE.out]; exact HAR.out, by rw [slideT_ok HE.out]; exact HTO.out, HSP.out⟩
  · have HB1 := Lib.hid b1
    have HE := Lib.hid (slideE_plan h0)
    have HE0 := Lib.hid h0
    obtain ⟨E, hE⟩ : ∃ E, planE zs ks ps = E := ⟨_, rfl⟩
    rw [hE] at HE h0 ⊢
    have hb : (E != 0) = true := by simpa using h0
    clear hA1 b1 hE h0 HT
    go_wp2
    go_ret3
    exact ⟨none, 0, 0, none, 0, 0, by rw [HE.out]; rfl, HB1.out, Nat.le_refl _, by rw [slideB_bad (by unfold slideE; rw [if_neg HE0.out]; exact HE0.out)]; exact Arr.zero, by rw [slideT_bad (by unfold slideE; rw [if_neg HE0.out]; exact HE0.out)]; exact Arr.zero, SpareI.nil⟩
end Go.Proofs.Ytjefbekdjgmmbaa
