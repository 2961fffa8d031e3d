/-
  The law's own plans, and walk.At at an object that is not free.
-/
import Derived.Test.YtknbbondofijeaaPlanD
import Derived.Test.YtknbbondofijeaaTintCW
namespace Go.Proofs.Ytknbbondofijeaa
open Go.RowKit

/-- At, at an object that is not free: how many words it takes. -/
def AtL (L : Int) (w : World) (e : Ending) (w' : World) : Prop := ∃ (tg : Int) (RA : Option Addr) (rn rc : Nat) (BA : Option Addr) (bn bc : Nat) (f : Bool),
  e = .returned (.tuple #[.agg #[.int .i64 tg, .slice RA rn rc, .slice BA bn bc, .bool f], .int .i64 0]) ∧ 1 + (rn : Int) + (bn : Int) = L ∧ Below w.heap.size w w'
theorem atLive_any (A : Option Addr) (n c : Nat) (x : Int) (zs : List Int) (w : World) (hn : n ≤ maxLen) (hnc : n ≤ c) (ha : Arr .u64 w w.heap.size A n zs) (h : arErr zs = 0) (hx : x ∈ livesI zs) :
    Calls Try.prog 43 #[.slice A n c, .int .i64 x] w (AtL (lgI zs x) w) := by
  obtain ⟨j, hj, e0, hf⟩ := mem_lives.1 hx
  refine (At_any A n c x zs w hn hnc ha).mono ?_
  rintro e w' ⟨b, hh⟩
  rcases hh with ⟨h1, _⟩ | ⟨_, i, hi, e1, r, rfl, hr⟩ | ⟨_, h2, _⟩
  · exact absurd h h1
  · have e2 : st zs i = st zs j := by omega
    rw [e2] at hr
    refine ⟨r.t, r.ra, r.rn, r.rc, r.ba, r.bn, r.bc, r.f, rfl, ?_, b⟩
    obtain ⟨s, hse, _, g2, g3, _, _, g6, _, _, _⟩ := live_facts ha.2.1 hx
    have e3 : st zs j = s := by omega
    have h3 := hr.refs.1
    have h4 := hr.body.1
    rw [e3] at h3 h4
    obtain ⟨j', hj', e4, _⟩ := mem_lives.1 hx
    have hst := (begins_mem (st_mem hj)).2.2
    rw [e3] at hst
    have h5 := refWords_len hst
    have h6 := bodyWords_len hst
    unfold obOf at h3 h4
    simp only [List.length_map] at h3 h4
    have h7 : lgI zs x = (longN zs s : Int) := by unfold lgI; rw [hse, Int.toNat_natCast]
    rw [h7]
    omega
  · exact absurd e0.symm (h2 j hj)
set_option maxHeartbeats 400000 in
theorem plans_any (w : World) : Calls Try.prog 42 #[] w fun e w' => e = .returned (.bool true) ∧ Below w.heap.size w w' := by
  have HS := Lib.hid (small_any w)
  have b1 := (Below.refl _ w).alloc (Nat.le_refl _) (.cells #[.int .u64 1, .int .u64 1] 52)
  have W1 : Whole .u64 52 (w.alloc (.cells #[.int .u64 1, .int .u64 1] 52)) w.heap.size [1, 1] := whole_new .u64 52 w [1, 1] small_wf
  have HK := Lib.hid (planGaps_any (some ⟨w.heap.size, 0, none⟩) none none 2 2 0 0 0 0 [1, 1] [] [] _ (by unfold maxLen; omega) (by omega) (W1.arr W1.lt) (by unfold maxLen; omega) Arr.zero (by unfold maxLen; omega) Arr.zero)
  have HB := Lib.hid b1
  clear b1 W1
  go_enter Try.func42, Try.ntmps42
  go_wp2_with fail
  refine HS.out.mono ?_
  rintro e w' ⟨rfl, rfl⟩
  go_wp2_with fail
  refine HK.out.mono ?_
  rintro e w3 ⟨G, q, gc, rfl, hb3, hg⟩
  have HB3 := Lib.hid (HB.out.trans (hb3.mono HB.out.size))
  have hE : planE [1, 1] [] [] = 0 := planE_zero.2 ⟨small_arena, List.Pairwise.nil, List.Pairwise.nil, (fun x hx => by cases hx), (fun x hx => by cases hx)⟩
  rw [gapR_ok hE] at hg
  rw [hE]
  obtain rfl : q = 1 := by
    have h1 := hg.1
    rw [← h1]
    decide
  clear hg hE hb3 HK
  go_wp2
  go_ret
  exact ⟨rfl, HB3.out⟩
end Go.Proofs.Ytknbbondofijeaa
