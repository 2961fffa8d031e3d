/-
  What package slide's functions answer ('SlideC', 'CleanC': to be proved of the code that lands), and the law's own slides.
-/
import Derived.Test.YtjefbekdjgmmbaaSlideM
import Derived.Test.YtjefbekdjgmmbaaTintCW
namespace Go.Proofs.Ytjefbekdjgmmbaa
open Go.RowKit

/-- What Slide answers. -/
def slideB (zs ks ps : List Int) : List Int := if slideE zs ks ps = 0 then slidL zs ks ps else []
def slideT (zs ks ps : List Int) : List Int := if slideE zs ks ps = 0 then toL zs ks ps else []
def SlideP (zs ks ps : List Int) (w : World) (e : Ending) (w' : World) : Prop := ∃ B m c D q d, e = .returned (.tuple #[.slice B m c, .slice D q d, .int .i64 (slideE zs ks ps)]) ∧ Below w.heap.size w w' ∧ m ≤ c ∧ Arr .u64 w' w'.heap.size B m (slideB zs ks ps) ∧ Arr .i64 w' w'.heap.size D q (slideT zs ks ps)
/-- What Clean keeps, its error, what it answers. -/
def keepL (zs fr ps : List Int) : List Int := reachL zs (fr ++ ps)
def cleanE (zs fr ps : List Int) : Int := if fromE zs (fr ++ ps) = 0 then (if riseB ps = true then 0 else 3) else fromE zs (fr ++ ps)
def cleanB (zs fr ps : List Int) : List Int := if cleanE zs fr ps = 0 then slidL zs (keepL zs fr ps) ps else []
def cleanN (zs fr ps : List Int) : List Int := if cleanE zs fr ps = 0 then fr.map (trI zs (keepL zs fr ps) ps) else []
def CleanP (zs fr ps : List Int) (w : World) (e : Ending) (w' : World) : Prop := ∃ B m c D q d, e = .returned (.tuple #[.slice B m c, .slice D q d, .int .i64 (cleanE zs fr ps)]) ∧ Below w.heap.size w w' ∧ m ≤ c ∧ Arr .u64 w' w'.heap.size B m (cleanB zs fr ps) ∧ Arr .i64 w' w'.heap.size D q (cleanN zs fr ps)
/-- The contracts. -/
def SlideC : Prop := ∀ (A K P : Option Addr) (n c nk ck np cp : Nat) (zs ks ps : List Int) (w : World), n ≤ maxLen → n ≤ c → Arr .u64 w w.heap.size A n zs → nk ≤ maxLen → Arr .i64 w w.heap.size K nk ks → np ≤ maxLen → Arr .i64 w w.heap.size P np ps →
  Calls Try.prog 53 #[.slice A n c, .slice K nk ck, .slice P np cp] w (SlideP zs ks ps w)
def CleanC : Prop := ∀ (A F P : Option Addr) (n c nf cf np cp : Nat) (zs fr ps : List Int) (w : World), n ≤ maxLen → n ≤ c → Arr .u64 w w.heap.size A n zs → nf * 8 ≤ 140737488351232 → Arr .i64 w w.heap.size F nf fr → np * 8 ≤ 140737488351232 → Arr .i64 w w.heap.size P np ps →
  Calls Try.prog 22 #[.slice A n c, .slice F nf cf, .slice P np cp] w (CleanP zs fr ps w)

section
variable {zs fr ps : List Int}
theorem slideB_ok {ks : List Int} (h : slideE zs ks ps = 0) : slideB zs ks ps = slidL zs ks ps := if_pos h
theorem slideB_bad {ks : List Int} (h : slideE zs ks ps ≠ 0) : slideB zs ks ps = [] := if_neg h
theorem slideT_ok {ks : List Int} (h : slideE zs ks ps = 0) : slideT zs ks ps = toL zs ks ps := if_pos h
theorem slideT_bad {ks : List Int} (h : slideE zs ks ps ≠ 0) : slideT zs ks ps = [] := if_neg h
theorem cleanB_ok (h : cleanE zs fr ps = 0) : cleanB zs fr ps = slidL zs (keepL zs fr ps) ps := if_pos h
theorem cleanB_bad (h : cleanE zs fr ps ≠ 0) : cleanB zs fr ps = [] := if_neg h
theorem cleanN_ok (h : cleanE zs fr ps = 0) : cleanN zs fr ps = fr.map (trI zs (keepL zs fr ps) ps) := if_pos h
theorem cleanN_bad (h : cleanE zs fr ps ≠ 0) : cleanN zs fr ps = [] := if_neg h
theorem cleanE_zero : cleanE zs fr ps = 0 ↔ fromE zs (fr ++ ps) = 0 ∧ riseB ps = true := by
  unfold cleanE
  constructor
  · intro h
    split at h
    · rename_i h0
      split at h
      · rename_i h1; exact ⟨h0, h1⟩
      · omega
    · rename_i h0; exact absurd h h0
  · rintro ⟨h0, h1⟩
    rw [if_pos h0, if_pos h1]
/-- What Clean keeps may be slid. -/
structure CleanOk (zs fr ps : List Int) : Prop where
  ok : PlanOk zs (keepL zs fr ps) ps
  held : heldB zs (keepL zs fr ps) = true
  sub : ∀ x ∈ fr ++ ps, x ∈ keepL zs fr ps
  all : ∀ x ∈ keepL zs fr ps, Reach (nxOf zs) (fr ++ ps) x
  from_ : fromE zs (fr ++ ps) = 0
theorem clean_ok (hz : ∀ z ∈ zs, (Lit.int .u64 z).wf = true) (h : cleanE zs fr ps = 0) : CleanOk zs fr ps := by
  obtain ⟨h0, h1⟩ := cleanE_zero.1 h
  have hs : ∀ x ∈ fr ++ ps, x ∈ keepL zs fr ps := fun x hx => (reachL_mem hz h0).2 (.base hx)
  exact ⟨⟨(fromE_zero h0).1, reachL_rise, riseB_iff.1 h1, reachL_lives, fun p hp => hs p (List.mem_append_right _ hp)⟩, reach_held hz h0, hs, fun x hx => (reachL_mem hz h0).1 hx, h0⟩
/-- Cleaned again: what is there stays. -/
theorem CleanOk.tr_app (h : CleanOk zs fr ps) : (fr ++ ps).map (trI zs (keepL zs fr ps) ps) = fr.map (trI zs (keepL zs fr ps) ps) ++ ps := by
  rw [List.map_append]
  congr 1
  have : ps.map (trI zs (keepL zs fr ps) ps) = ps.map id := List.map_congr_left fun p hp => h.ok.tr_pin hp
  rw [this, List.map_id]
theorem CleanOk.keep2 (h : CleanOk zs fr ps) (hz : ∀ z ∈ zs, (Lit.int .u64 z).wf = true) : cleanE (slidL zs (keepL zs fr ps) ps) (fr.map (trI zs (keepL zs fr ps) ps)) ps = 0 ∧ keepL (slidL zs (keepL zs fr ps) ps) (fr.map (trI zs (keepL zs fr ps) ps)) ps = toL zs (keepL zs fr ps) ps := by
  obtain ⟨h1, h2⟩ := h.ok.slid_reach hz h.held h.sub h.all
  rw [h.tr_app] at h1 h2
  exact ⟨cleanE_zero.2 ⟨h1, riseB_iff.2 h.ok.pr⟩, h2⟩
theorem CleanOk.twice (h : CleanOk zs fr ps) (hz : ∀ z ∈ zs, (Lit.int .u64 z).wf = true) : cleanB (slidL zs (keepL zs fr ps) ps) (fr.map (trI zs (keepL zs fr ps) ps)) ps = slidL zs (keepL zs fr ps) ps ∧ cleanN (slidL zs (keepL zs fr ps) ps) (fr.map (trI zs (keepL zs fr ps) ps)) ps = fr.map (trI zs (keepL zs fr ps) ps) := by
  obtain ⟨h1, h2⟩ := h.keep2 hz
  rw [cleanB_ok h1, cleanN_ok h1, h2]
  refine ⟨h.ok.twice h.held, ?_⟩
  rw [List.map_map]
  refine List.map_congr_left fun x hx => ?_
  obtain ⟨q1, q2⟩ := plN_in (h.sub x (List.mem_append_left _ hx))
  have h3 := h.ok.again h.held
  have hq : plN (keepL zs fr ps) x < (toL zs (keepL zs fr ps) ps).length := by rw [toL_len]; exact q1
  have e1 := h.ok.tr_to q1
  rw [q2] at e1
  have e2 := h3.tr_to hq
  rw [nth_toL q1, h.ok.to_again q1] at e2
  show trI _ _ _ (trI _ _ _ x) = trI _ _ _ x
  rw [e1, e2]
end

set_option maxHeartbeats 400000 in
theorem slides_any (hC : CleanC) (w : World) : Calls Try.prog 21 #[] w fun e w' => e = .returned (.bool true) ∧ Below w.heap.size w w' := by
  have HS := Lib.hid (small_any w)
  have b1 := (Below.refl _ w).alloc (Nat.le_refl _) (.cells #[.int .u64 1, .int .u64 1] 47)
  have W1 : Whole .u64 47 (w.alloc (.cells #[.int .u64 1, .int .u64 1] 47)) w.heap.size [1, 1] := whole_new .u64 47 w [1, 1] small_wf
  obtain ⟨w1, hw1⟩ : ∃ w1, w.alloc (.cells #[.int .u64 1, .int .u64 1] 47) = w1 := ⟨_, rfl⟩
  have hsz : w1.heap.size = w.heap.size + 1 := by rw [← hw1]; simp
  rw [hw1] at b1 W1 HS
  have b2 := (Below.refl _ w1).alloc (Nat.le_refl _) (.cells #[.int .i64 0] 3)
  have W2 : Whole .i64 3 (w1.alloc (.cells #[.int .i64 0] 3)) w1.heap.size [0] := whole_new .i64 3 w1 [0] (by decide)
  have HK := Lib.hid (hC (some ⟨w.heap.size, 0, none⟩) (some ⟨w1.heap.size, 0, none⟩) none 2 2 1 1 0 0 [1, 1] [0] [] _ (by unfold maxLen; omega) (by omega) ((W1.alloc _).arr (by simp; omega)) (by omega) (W2.arr W2.lt) (by omega) Arr.zero)
  have hE : cleanE [1, 1] [0] [] = 0 := cleanE_zero.2 ⟨small_from, by decide⟩
  have hL : (slidL [1, 1] (keepL [1, 1] [0] []) []).length = 2 := (clean_ok small_wf hE).ok.slid_len
  have HEE := Lib.hid hE
  have HLL := Lib.hid hL
  have HB := Lib.hid (b1.trans (b2.mono b1.size))
  clear b1 W1 b2 W2 hw1 hsz hE hL
  go_enter Try.func21, Try.ntmps21
  go_wp2_with fail
  refine HS.out.mono ?_
  rintro e w' ⟨rfl, rfl⟩
  go_wp2_with fail
  refine HK.out.mono ?_
  rintro e w3 ⟨B, m, c, D, q, d, rfl, hb3, _, hB, _⟩
  have HB3 := Lib.hid (HB.out.trans (hb3.mono HB.out.size))
  rw [HEE.out]
  obtain rfl : m = 2 := by
    have h1 := hB.1
    rw [cleanB_ok HEE.out, HLL.out] at h1
    exact h1.symm
  clear hB hb3 HK
  go_wp2
  go_ret
  exact ⟨rfl, HB3.out⟩
end Go.Proofs.Ytjefbekdjgmmbaa
