/-
  Contracts of functions over slices of spots: slices.IndexFunc (with a function that has one captured variable), slices.Equal; of sameObject.
-/
import Derived.Test.YtkhiofnihgichaaObjOwn
import Derived.Test.YtkhiofnihgichaaEq
import Derived.Test.YtkhiofnihgichaaProg
import Derived.StillTailTactics
import Derived.Deep.DeepCutAuto
namespace Go.Proofs.Ytkhiofnihgichaa
open Go.RowKit

/-- The answer of IndexFunc: the first number that the rule marks, -1 if none. -/
def FoundS (n : Nat) (f : Nat → Bool) (w : World) (e : Ending) (w' : World) : Prop := ∃ r : Int, e = .returned (.int .i64 r) ∧ Below w.heap.size w w' ∧
  ((∃ k : Nat, r = k ∧ k < n ∧ f k = true ∧ ∀ j, j < k → f j = false) ∨ (r = -1 ∧ ∀ j, j < n → f j = false))

set_option maxHeartbeats 400000 in
theorem indexSpot (A : Option Addr) (n c B fid : Nat) (p : Addr) (l : List Sp) (f : Nat → Bool) (w : World) (hn : n ≤ maxLen) (hB0 : B ≤ w.heap.size) (hx : ArrG spotC 5 w B A n l) (hcall : ∀ args wx, Sem.run Try.prog (callFunc fid args) wx = .ok (.enter fid args) wx)
    (hF : ∀ wx, Below w.heap.size w wx → ∀ j, j < n → Calls Try.prog fid #[.agg #[.int .i64 (nthG l j).1, .int .i64 (nthG l j).2.1, .int .i64 (nthG l j).2.2.1, .int .i64 (nthG l j).2.2.2.1, .bool (nthG l j).2.2.2.2], .pointer (some p)] wx (fun e w' => e = .returned (.bool (f j)) ∧ Below wx.heap.size wx w')) :
    Calls Try.prog 24 #[.slice A n c, .func (.func fid) #[] #[.pointer (some p)]] w (FoundS n f w) := by
  unfold maxLen at hn
  have HF := Lib.hid hF
  clear hF
  go_enter Try.func24, Try.ntmps24
  go_wp2
  go_loopw [8] (fun i wr => ∃ k : Nat, k ≤ n ∧ i = .int .i64 k ∧ Hid (∀ j, j < k → f j = false) ∧ Below w.heap.size w wr) (fun i _ => n - (intOf i).toNat)
  case atStart => exact ⟨0, Nat.zero_le _, rfl, (fun j hj => absurd hj (by omega)), Below.refl _ _⟩
  case round =>
    obtain ⟨k, hk, rfl, HE, hB⟩ := hrel
    by_cases hlt : k < n
    · obtain ⟨b, off, rfl, hbB, hc0, hc1, hc2, hc3, hc4⟩ := (hx.below hB hB0).spot hlt
      have hC := HF.out wr hB k hlt
      have HC := Lib.hid hC
      have HB := Lib.hid hB
      clear hC hB hx
      generalize (nthG l k).1 = X0 at *
      generalize (nthG l k).2.1 = X1 at *
      generalize (nthG l k).2.2.1 = X2 at *
      generalize (nthG l k).2.2.2.1 = X3 at *
      generalize (nthG l k).2.2.2.2 = X4 at *
      cases hf : f k
      · rw [hf] at HC
        have Hf := Lib.hid hf
        clear hf
        go_wp2_with fail
        refine HC.out.mono ?_
        rintro e w1 ⟨rfl, hb1⟩
        have HB1 := Lib.hid (HB.out.trans (hb1.mono HB.out.size))
        clear hb1
        go_wp2
        go_roundw
        case rel =>
          refine ⟨k + 1, by omega, by go_num, fun j hj => ?_, HB1.out⟩
          rcases Nat.lt_succ_iff_lt_or_eq.1 hj with h | h
          · exact HE.out j h
          · rw [h]; exact Hf.out
        case measure => simp [intOf]; omega
      · rw [hf] at HC
        have Hf := Lib.hid hf
        clear hf
        go_wp2_with fail
        refine HC.out.mono ?_
        rintro e w1 ⟨rfl, hb1⟩
        have HB1 := Lib.hid (HB.out.trans (hb1.mono HB.out.size))
        clear hb1
        go_wp2
        go_ret
        exact ⟨_, rfl, HB1.out, .inl ⟨k, rfl, hlt, Hf.out, HE.out⟩⟩
    · obtain rfl : k = n := by omega
      have HB := Lib.hid hB
      clear hB hx
      go_wp2
      go_ret
      exact ⟨_, rfl, HB.out, .inr ⟨rfl, HE.out⟩⟩

theorem sameInts (A A' : Option Addr) (n c c' B : Nat) (xs : List Int) (w : World) (hx : Arr .i64 w B A n xs) (hy : Arr .i64 w B A' n xs) (hn : n ≤ maxLen) :
    Calls Try.prog 50 #[.slice A n c, .slice A' n c'] w fun e w' => e = .returned (.bool true) ∧ ∃ q, w.drewN q = w' :=
  (equalInts A A' n n c c' B xs xs w hx hy hn hn).mono fun e w' h => ⟨by rw [h.1]; simp, h.2⟩
theorem sameWords (A A' : Option Addr) (n c c' B : Nat) (xs : List Int) (w : World) (hx : Arr .u64 w B A n xs) (hy : Arr .u64 w B A' n xs) (hn : n ≤ maxLen) :
    Calls Try.prog 19 #[.slice A n c, .slice A' n c'] w fun e w' => e = .returned (.bool true) ∧ ∃ q, w.drewN q = w' :=
  (equalWords A A' n n c c' B xs xs w hx hy hn hn).mono fun e w' h => ⟨by rw [h.1]; simp, h.2⟩

set_option maxRecDepth 8000 in
set_option maxHeartbeats 1000000 in
theorem sameObject_any (r q : Raw) (o : Ob) (lo lo' : Nat) (w : World) (hr : ObV w lo w.heap.size r o) (hq : ObV w lo' w.heap.size q o) (h1 : r.rn ≤ maxLen) (h2 : r.bn ≤ maxLen) :
    Calls Try.prog 23 #[rawV r, rawV q] w fun e w' => e = .returned (.bool true) ∧ Below w.heap.size w w' := by
  have e1 : r.t = q.t := hr.tag.trans hq.tag.symm
  have e2 : r.f = q.f := hr.free.trans hq.free.symm
  have e3 : r.rn = q.rn := hr.refs.1.symm.trans hq.refs.1
  have e4 : r.bn = q.bn := hr.body.1.symm.trans hq.body.1
  have hR := hr.refs
  have hQ := hq.refs
  have hS := hr.body
  have hT := hq.body
  obtain ⟨t, ra, rn, rc, ba, bn, bc, f⟩ := r
  obtain ⟨t', ra', rn', rc', ba', bn', bc', f'⟩ := q
  simp only at e1 e2 e3 e4 hR hQ hS hT h1 h2
  subst e1 e2 e3 e4
  unfold rawV
  simp only
  have a1 := (Below.refl _ w).alloc (Nat.le_refl _) (.cells #[.int .i64 t, .slice ra rn rc, .slice ba bn bc, .bool f] 32)
  have a2 := a1.alloc (by simp) (.cells #[.int .i64 t, .slice ra' rn rc', .slice ba' bn bc', .bool f] 32)
  have n1 := (Box.new w 32 #[.int .i64 t, .slice ra rn rc, .slice ba bn bc, .bool f]).alloc (.cells #[.int .i64 t, .slice ra' rn rc', .slice ba' bn bc', .bool f] 32)
  have n2 := Box.new (w.alloc (.cells #[.int .i64 t, .slice ra rn rc, .slice ba bn bc, .bool f] 32)) 32 #[.int .i64 t, .slice ra' rn rc', .slice ba' bn bc', .bool f]
  rw [show (w.alloc (.cells #[.int .i64 t, .slice ra rn rc, .slice ba bn bc, .bool f] 32)).heap.size = w.heap.size + 1 by simp] at n2
  have HI := Lib.hid (fun wx (h : Below w.heap.size w wx) => sameInts ra ra' rn rc rc' w.heap.size _ wx (hR.below h (Nat.le_refl _)) (hQ.below h (Nat.le_refl _)) h1)
  have HW := Lib.hid (fun wx (h : Below w.heap.size w wx) => sameWords ba ba' bn bc bc' w.heap.size _ wx (hS.below h (Nat.le_refl _)) (hT.below h (Nat.le_refl _)) h2)
  have N1 := Lib.hid n1
  have N2 := Lib.hid n2
  have HB := Lib.hid a2
  have e0 : (t == t) = true := by simp
  have e1 : (f == f) = true := by simp
  clear hr hq hR hQ hS hT n1 n2 a1 a2 h1 h2
  go_enter Try.func23, Try.ntmps23
  go_upto_region 1 with fail
  generalize ((w.alloc (.cells #[.int .i64 t, .slice ra rn rc, .slice ba bn bc, .bool f] 32)).alloc (.cells #[.int .i64 t, .slice ra' rn rc', .slice ba' bn bc', .bool f] 32)) = W at *
  have c0 : W.cell? ⟨w.heap.size, 0, none⟩ = some (.int .i64 t) := N1.out.cell 0
  have c1 : W.cell? ⟨w.heap.size, 1, none⟩ = some (.slice ra rn rc) := N1.out.cell 1
  have c2 : W.cell? ⟨w.heap.size, 2, none⟩ = some (.slice ba bn bc) := N1.out.cell 2
  have c3 : W.cell? ⟨w.heap.size, 3, none⟩ = some (.bool f) := N1.out.cell 3
  have d0 : W.cell? ⟨w.heap.size + 1, 0, none⟩ = some (.int .i64 t) := N2.out.cell 0
  have d1 : W.cell? ⟨w.heap.size + 1, 1, none⟩ = some (.slice ra' rn rc') := N2.out.cell 1
  have d2 : W.cell? ⟨w.heap.size + 1, 2, none⟩ = some (.slice ba' bn bc') := N2.out.cell 2
  have d3 : W.cell? ⟨w.heap.size + 1, 3, none⟩ = some (.bool f) := N2.out.cell 3
  go_wp2_with fail
  refine (HI.out _ HB.out).mono ?_
  rintro e w1 ⟨rfl, q1, rfl⟩
  go_wp2_with fail
  refine (HW.out _ (below_drewN HB.out q1)).mono ?_
  rintro e w1 ⟨rfl, q2, rfl⟩
  go_wp2
  go_ret
  exact ⟨rfl, below_drewN HB.out _⟩

set_option maxHeartbeats 400000 in
theorem hitSpot_any (x0 x1 x2 x3 a : Int) (x4 : Bool) (b off : Nat) (w : World) (hb : b < w.heap.size) (hc : w.cell? ⟨b, off, none⟩ = some (.int .i64 a)) :
    Calls Try.prog 25 #[.agg #[.int .i64 x0, .int .i64 x1, .int .i64 x2, .int .i64 x3, .bool x4], .pointer (some ⟨b, off, none⟩)] w fun e w' => e = .returned (.bool (x0 == a)) ∧ Below w.heap.size w w' := by
  have hc' : (w.alloc (.cells #[.int .i64 x0, .int .i64 x1, .int .i64 x2, .int .i64 x3, .bool x4] 39)).cell? ⟨b, off, none⟩ = some (.int .i64 a) := (((Below.refl _ _).alloc (Nat.le_refl _) _).cell (p := ⟨b, off, none⟩) hb).trans hc
  have hne : ¬ b = w.heap.size := by omega
  go_enter Try.func25, Try.ntmps25
  go_wp2
  go_ret
  exact ⟨rfl, (Below.refl _ _).alloc (Nat.le_refl _) _⟩
end Go.Proofs.Ytkhiofnihgichaa
