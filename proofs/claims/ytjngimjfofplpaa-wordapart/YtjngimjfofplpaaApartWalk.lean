/-
  The walk of WordApart: whatever the arguments and the memory, the call returns true and changes nothing that was there.
-/
import Derived.Test.YtjngimjfofplpaaMovesWalk
import Derived.Test.YtjngimjfofplpaaGood
namespace Go.Proofs.Ytjngimjfofplpaa
open Go.RowKit

theorem rangeE_wf (n : Nat) (i m : Int) : (Lit.int .i64 (rangeE n i m)).wf = true := by
  rw [wf_i64]
  unfold rangeE
  split
  · omega
  · split <;> omega

/-- What a Fill gives, whether it fills or not. -/
def Filled (n : Nat) (i m : Int) (w : World) (e : Ending) (w' : World) : Prop := ∃ A k c, e = .returned (.tuple #[.slice A k c, .int .i64 (rangeE n i m)]) ∧ Below w.heap.size w w'
theorem fill_some (A : Option Addr) (n c : Nat) (i m v : Int) (zs : List Int) (w : World) (hn : n ≤ maxLen) (hi : (Lit.int .i64 i).wf = true) (hm : (Lit.int .i64 m).wf = true) (hv : (Lit.int .u64 v).wf = true) (ha : Arr .u64 w w.heap.size A n zs) :
    Calls Try.prog 20 #[.slice A n c, .int .i64 i, .int .i64 m, .int .u64 v] w (Filled n i m w) := by
  by_cases hE : rangeE n i m = 0
  · obtain ⟨h256, i0, i1, m0, m1⟩ := rangeE_zero hE
    refine (fill_ok A n c i m v zs w h256 i0 i1 m0 m1 hv ha).mono ?_
    rintro e w' ⟨rfl, _, hb⟩
    exact ⟨_, _, _, by rw [hE], hb⟩
  · refine (fill_bad A n c i m v w hn hi hm hE).mono ?_
    rintro e w' ⟨rfl, rfl⟩
    exact ⟨_, _, _, rfl, Below.refl _ _⟩

theorem two_arr (w : World) (a b : Int) (ha : (Lit.int .i64 a).wf = true) (hb : (Lit.int .i64 b).wf = true) :
    Arr .i64 (w.alloc (.cells #[.int .i64 a, .int .i64 b] 22)) (w.heap.size + 1) (some ⟨w.heap.size, 0, none⟩) 2 [a, b] :=
  Whole.arr (t := 22) (whole_new .i64 22 w [a, b] (fun z hz => by
    rcases List.mem_cons.1 hz with h | h
    · rw [h]; exact ha
    · rw [List.mem_singleton.1 h]; exact hb)) (by omega)

theorem splice_apart (zs : List Int) (i k : Nat) (xs ys : List Int) (hi : i + xs.length ≤ zs.length) (hk : k + ys.length ≤ zs.length) (h : ¬ (i < k + ys.length ∧ k < i + xs.length)) :
    splice (splice zs i xs) k ys = splice (splice zs k ys) i xs := by
  have l1 := length_splice zs i xs hi
  have l2 := length_splice zs k ys hk
  have l3 := length_splice (splice zs i xs) k ys (by omega)
  have l4 := length_splice (splice zs k ys) i xs (by omega)
  refine nth_ext (by omega) (fun j hj => ?_)
  by_cases c1 : k ≤ j ∧ j < k + ys.length
  · rw [nth_splice_in _ _ _ _ c1.1 c1.2 (by omega), nth_splice_out _ _ _ _ (by omega) (by omega), nth_splice_in _ _ _ _ c1.1 c1.2 (by omega)]
  · rw [nth_splice_out _ _ _ _ c1 (by omega)]
    by_cases c2 : i ≤ j ∧ j < i + xs.length
    · rw [nth_splice_in _ _ _ _ c2.1 c2.2 (by omega), nth_splice_in _ _ _ _ c2.1 c2.2 (by omega)]
    · rw [nth_splice_out _ _ _ _ c2 (by omega), nth_splice_out _ _ _ _ c2 (by omega), nth_splice_out _ _ _ _ c1 (by omega)]

set_option maxHeartbeats 1000000 in
theorem apart_walk (A : Option Addr) (n c : Nat) (i p k m v u : Int) (zs : List Int) (w : World) (hn : n ≤ maxLen) (hi : (Lit.int .i64 i).wf = true) (hp : (Lit.int .i64 p).wf = true) (hk : (Lit.int .i64 k).wf = true) (hm : (Lit.int .i64 m).wf = true)
    (hv : (Lit.int .u64 v).wf = true) (hu : (Lit.int .u64 u).wf = true) (ha : Arr .u64 w w.heap.size A n zs) :
    Calls Try.prog 8 #[.slice A n c, .int .i64 i, .int .i64 p, .int .i64 k, .int .i64 m, .int .u64 v, .int .u64 u] w fun e w' => e = .returned (.bool true) ∧ Below w.heap.size w w' := by
  by_cases hE : rangeE n i p = 0 ∧ rangeE n k m = 0
  · obtain ⟨hE1, hE2⟩ := hE
    obtain ⟨h256, i0, i1, p0, p1⟩ := rangeE_zero hE1
    obtain ⟨_, k0, k1, m0, m1⟩ := rangeE_zero hE2
    clear hE1 hE2
    have HL := Lib.hid ha.1
    have hbad : Hid (bad [0, 0] = false) := by show _ = _; decide
    have hz : (Lit.int .i64 0).wf = true := by decide
    go_enter Try.func8, Try.ntmps8
    go_wp2_with fail
    refine (words_any _).mono ?_
    rintro e w1 ⟨rfl, hb1⟩
    have ha1 := (ha.below hb1 (Nat.le_refl _)).more hb1.size
    go_wp2_with fail
    refine (fill_ok A n c i p v zs _ h256 i0 i1 p0 p1 hv ha1).mono ?_
    rintro e w2 ⟨rfl, hW2, hb2⟩
    have hB2 := hb1.trans (hb2.mono hb1.size)
    have ha2 := (ha.below hB2 (Nat.le_refl _)).more hB2.size
    go_wp2_with fail
    refine (fill_ok A n c k m u zs _ h256 k0 k1 m0 m1 hu ha2).mono ?_
    rintro e w3 ⟨rfl, hW3, hb3⟩
    have hB3 := hB2.trans (hb3.mono hB2.size)
    go_wp2_with fail
    refine (good_any _ 2 2 _ [0, 0] _ (by decide) (two_arr w3 0 0 hz hz)).mono ?_
    rintro e w4 ⟨rfl, rfl⟩
    rw [hbad.out]
    have hlx : (splice zs i.toNat (List.replicate p.toNat v)).length = n := by rw [length_splice _ _ _ (by have := HL.out; simp; omega), HL.out]
    have hly : (splice zs k.toNat (List.replicate m.toNat u)).length = n := by rw [length_splice _ _ _ (by have := HL.out; simp; omega), HL.out]
    have hx2 : Whole .u64 28 (w3.alloc (.cells #[.int .i64 0, .int .i64 0] 22)) w1.heap.size (splice zs i.toNat (List.replicate p.toNat v)) := (hW2.below hb3 hW2.lt).alloc _
    have hy2 : Whole .u64 28 (w3.alloc (.cells #[.int .i64 0, .int .i64 0] 22)) w2.heap.size (splice zs k.toNat (List.replicate m.toNat u)) := hW3.alloc _
    have hB4 := hB3.alloc hB3.size (.cells #[.int .i64 0, .int .i64 0] 22)
    by_cases hm0 : i < k + m ∧ k < i + p
    · obtain ⟨hm1, hm2⟩ := hm0
      have HB := Lib.hid hB4
      clear hb1 hb2 hb3 hB2 hB3 hB4 ha ha1 ha2 hW2 hW3 hx2 hy2 hlx hly
      go_wp2
      go_ret
      exact ⟨rfl, HB.out⟩
    · have HS : Hid (splice (splice zs i.toNat (List.replicate p.toNat v)) k.toNat (List.replicate m.toNat u) = splice (splice zs k.toNat (List.replicate m.toNat u)) i.toNat (List.replicate p.toNat v)) :=
        splice_apart zs i.toNat k.toNat _ _ (by have := HL.out; simp; omega) (by have := HL.out; simp; omega) (by simp; omega)
      have HB4 := Lib.hid hB4
      have g1 : w1.heap.size < w3.heap.size + 1 := by have := hW2.lt; have := hb3.size; omega
      have g2 : w2.heap.size < w3.heap.size + 1 := by have := hW3.lt; omega
      have HX := Lib.hid hx2
      have HY := Lib.hid hy2
      have hor : ¬ i < k + m ∨ (i < k + m ∧ ¬ k < i + p) := by omega
      clear hb1 hb2 hb3 hB2 hB3 hB4 ha ha1 ha2 hW2 hW3 hx2 hy2 hm0
      rcases hor with hm1 | ⟨hm1, hm2⟩
      all_goals
        first
          | have d1 : decide (i < k + m) = false := by simpa using hm1
          | have d2 : decide (k < i + p) = false := by simpa using hm2
        have ax := (HX.out.arr (B := w3.heap.size + 1) g1)
        rw [hlx] at ax
        have ay := (HY.out.arr (B := w3.heap.size + 1) g2)
        rw [hly] at ay
        generalize hX : splice zs i.toNat (List.replicate p.toNat v) = X at *
        generalize hY : splice zs k.toNat (List.replicate m.toNat u) = Y at *
        have HXX := Lib.hid hX
        have HYY := Lib.hid hY
        have HLX := Lib.hid hlx
        have HLY := Lib.hid hly
        clear hX hY hlx hly
        go_wp2_with fail
        refine (fill_ok _ n n k m u X _ h256 k0 k1 m0 m1 hu (by simpa using ax)).mono ?_
        rintro e w5 ⟨rfl, hW5, hb5⟩
        have hB5 := HB4.out.trans (hb5.mono HB4.out.size)
        go_wp2_with fail
        refine (fill_ok _ n n i p v Y _ h256 i0 i1 p0 p1 hv ((ay.below hb5 (by simp)).more (by have := hW5.lt; simp at this; omega))).mono ?_
        rintro e w6 ⟨rfl, hW6, hb6⟩
        have hB6 := hB5.trans (hb6.mono hB5.size)
        go_wp2_with fail
        refine (good_any _ 2 2 _ [0, 0] _ (by decide) (two_arr w6 0 0 hz hz)).mono ?_
        rintro e w7 ⟨rfl, rfl⟩
        rw [hbad.out]
        have e5 : (splice X k.toNat (List.replicate m.toNat u)).length = n := by rw [length_splice _ _ _ (by have := HLX.out; simp; omega), HLX.out]
        have e6 : (splice Y i.toNat (List.replicate p.toNat v)).length = n := by rw [length_splice _ _ _ (by have := HLY.out; simp; omega), HLY.out]
        have a5 := ((hW5.below hb6 hW5.lt).alloc (.cells #[.int .i64 0, .int .i64 0] 22)).arr (B := w6.heap.size + 1) (by have := (hW5.below hb6 hW5.lt).lt; omega)
        have a6 := (hW6.alloc (.cells #[.int .i64 0, .int .i64 0] 22)).arr (B := w6.heap.size + 1) (by have := hW6.lt; omega)
        rw [e5] at a5
        rw [e6] at a6
        have hd : Hid (decide (splice X k.toNat (List.replicate m.toNat u) = splice Y i.toNat (List.replicate p.toNat v)) = true) := by
          show _ = _
          simpa using HS.out
        have HB := Lib.hid (hB6.alloc hB6.size (.cells #[.int .i64 0, .int .i64 0] 22))
        clear hB5 hB6 hb5 hb6 hW5 hW6 ax ay e5 e6
        go_wp2_with fail
        refine (equalWords _ _ n n n n (w6.heap.size + 1) _ _ _ (by simpa using a5) (by simpa using a6) hn hn).mono ?_
        rintro e w8 ⟨rfl, q, rfl⟩
        rw [hd.out]
        clear a5 a6 hd
        go_wp2
        go_ret
        exact ⟨rfl, below_drewN HB.out _⟩
  · have hbad : Hid (bad [rangeE n i p, rangeE n k m] = true) := by
      show _ = _
      unfold bad
      simp
      omega
    go_enter Try.func8, Try.ntmps8
    go_wp2_with fail
    refine (words_any _).mono ?_
    rintro e w1 ⟨rfl, hb1⟩
    have ha1 := (ha.below hb1 (Nat.le_refl _)).more hb1.size
    go_wp2_with fail
    refine (fill_some A n c i p v zs _ hn hi hp hv ha1).mono ?_
    rintro e w2 ⟨A2, n2, c2, rfl, hb2⟩
    have hB2 := hb1.trans (hb2.mono hb1.size)
    have ha2 := (ha.below hB2 (Nat.le_refl _)).more hB2.size
    go_wp2_with fail
    refine (fill_some A n c k m u zs _ hn hk hm hu ha2).mono ?_
    rintro e w3 ⟨A3, n3, c3, rfl, hb3⟩
    have hB3 := hB2.trans (hb3.mono hB2.size)
    go_wp2_with fail
    refine (good_any _ 2 2 _ [rangeE n i p, rangeE n k m] _ (by decide) (two_arr w3 _ _ (rangeE_wf _ _ _) (rangeE_wf _ _ _))).mono ?_
    rintro e w4 ⟨rfl, rfl⟩
    rw [hbad.out]
    have HB := Lib.hid (hB3.alloc hB3.size (.cells #[.int .i64 (rangeE n i p), .int .i64 (rangeE n k m)] 22))
    clear hb1 hb2 hb3 hB2 hB3 ha ha1 ha2 hE
    go_wp2
    go_ret
    exact ⟨rfl, HB.out⟩
end Go.Proofs.Ytjngimjfofplpaa
