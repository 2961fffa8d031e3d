/-
  What the laws of stage 17 ask first (faints), and small things: errors as numbers, a slice of pairs cut short.
-/
import Derived.Test.YtdglnbcliemafaaFaintN
import Derived.Test.YtdglnbcliemafaaTintCW
import Derived.Test.YtdglnbcliemafaaTintTW
namespace Go.Proofs.Ytdglnbcliemafaa
open Go.RowKit

theorem faintE_wf (zs fr : List Int) (ps : List (Int × Int)) : (Lit.int .i64 (faintE zs fr ps)).wf = true := by
  unfold faintE
  split
  · exact fromE_wf _ _
  · split
    · decide
    · exact fromE_wf _ _
theorem lastE_wf (zs fr q : List Int) : (Lit.int .i64 (lastE zs fr q)).wf = true := by
  unfold lastE
  split
  · exact fromE_wf _ _
  · split
    · decide
    · exact fromE_wf _ _
theorem small_faint : faintE [1, 1] [0] [] = 0 := by
  rw [faintE_ok small_from (by decide)]
  exact fromE_ok small_arena (by intro x hx; cases hx)
theorem small_kept : (faintL [1, 1] [0] []).length = 1 := by
  have h0 : (0 : Int) ∈ faintL [1, 1] [0] [] := faint_from small_wf small_from (fromE_ok small_arena (by intro x hx; cases hx)) (by simp)
  have h1 := List.length_pos_of_mem h0
  have h2 : (faintL [1, 1] [0] []).length ≤ (livesI [1, 1]).length := List.length_filter_le _ _
  rw [small_lives] at h2
  simp at h2
  omega
set_option maxHeartbeats 1000000 in
theorem faints_any (hK : FKeepC) (w : World) : Calls Try.prog 18 #[] w fun e w' => e = .returned (.bool true) ∧ Below w.heap.size w w' := by
  have HS := Lib.hid (small_any w)
  have b1 := (Below.refl _ w).alloc (Nat.le_refl _) (.cells #[.int .u64 1, .int .u64 1] 76)
  have W1 : Whole .u64 76 (w.alloc (.cells #[.int .u64 1, .int .u64 1] 76)) w.heap.size [1, 1] := whole_new .u64 76 w [1, 1] small_wf
  obtain ⟨w1, hw1⟩ : ∃ w1, w.alloc (.cells #[.int .u64 1, .int .u64 1] 76) = w1 := ⟨_, rfl⟩
  have hsz : w1.heap.size = w.heap.size + 1 := by rw [← hw1]; simp
  rw [hw1] at b1 W1 HS
  have b2 := (Below.refl _ w1).alloc (Nat.le_refl _) (.cells #[.int .i64 0] 3)
  have W2 : Whole .i64 3 (w1.alloc (.cells #[.int .i64 0] 3)) w1.heap.size [0] := whole_new .i64 3 w1 [0] (by decide)
  have HQ := Lib.hid (hK (some ⟨w.heap.size, 0, none⟩) (some ⟨w1.heap.size, 0, none⟩) none 2 2 1 1 0 0 [1, 1] [0] [] _ ⟨(W1.alloc _).arr (by simp; omega), W2.arr W2.lt, by omega, by omega, by omega, by omega⟩ ⟨Nat.le_refl _, ArrG.zero, by simp⟩ (by omega))
  have HB := Lib.hid (b1.trans (b2.mono b1.size))
  clear b1 W1 b2 W2 hw1 hsz
  unfold FKeepP at HQ
  rw [small_faint, faintO_ok small_faint] at HQ
  go_enter Try.func18, Try.ntmps18
  go_wp2_with fail
  refine HS.out.mono ?_
  rintro e w' ⟨rfl, rfl⟩
  go_wp2_with fail
  refine HQ.out.mono ?_
  rintro e w3 ⟨K, m, d, rfl, hb3, _, hK3⟩
  have HB3 := Lib.hid (HB.out.trans (hb3.mono HB.out.size))
  obtain rfl : m = 1 := by rw [← hK3.1]; exact small_kept
  clear hK3 hb3 HQ
  go_wp2
  go_ret
  exact ⟨rfl, HB3.out⟩

/-- The first 'k' pairs. -/
theorem faints_cut {w : World} {P D : Option Addr} {np cp k : Nat} {ps : List (Int × Int)} (h : FaintsIn w P np cp ps) (hk : k ≤ np) (hD : ∀ b off, P = some ⟨b, off, none⟩ → D = some ⟨b, off, none⟩) : FaintsIn w D k cp (ps.take k) :=
  ⟨Nat.le_trans hk h.hc, ⟨by rw [List.length_take, h.row.1]; omega, fun h0 => by
    obtain ⟨b, off, hP, hb, hc⟩ := h.row.2 (by omega)
    refine ⟨b, off, hD b off hP, hb, fun j hj i hi => ?_⟩
    rw [hc j (by omega) i hi]
    have e : nthG (ps.take k) j = nthG ps j := by
      rw [nthG_get _ _ (by rw [List.length_take, h.row.1]; omega), nthG_get _ _ (by rw [h.row.1]; omega), List.getElem_take]
    rw [e]⟩, fun p hp => h.wf p (List.mem_of_mem_take hp)⟩
theorem faintE_sub {zs fr : List Int} {ps ps' : List (Int × Int)} (h : faintE zs fr ps = 0) (hl : ps'.length ≤ ps.length) (hs : ∀ p ∈ ps', p ∈ ps) : faintE zs fr ps' = 0 := by
  obtain ⟨h1, h2, h3⟩ := faintE_zero h
  rw [faintE_ok h1 (by omega)]
  exact pairs_sub h3 hs
end Go.Proofs.Ytdglnbcliemafaa
