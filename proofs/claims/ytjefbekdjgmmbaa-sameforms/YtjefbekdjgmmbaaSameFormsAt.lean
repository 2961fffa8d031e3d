/-
  Parts of the proof of SameForms: SpotFn.
-/
import Derived.Test.YtjefbekdjgmmbaaProg
import Derived.StillTailTactics
import Derived.Deep.DeepCutAuto
import Derived.Test.YtjefbekdjgmmbaaSameFormsAc
import Derived.Test.YtjefbekdjgmmbaaSameFormsAe
namespace Go.Proofs.Ytjefbekdjgmmbaa
open Go.RowKit
theorem sameInts (A A' : Option Addr) (n c c' B : Nat) (xs : List Int) (w : World) (hx : Arr .i64 w B A n xs) (hy : Arr .i64 w B A' n xs) (hn : n ≤ maxLen) :
    Calls Try.prog 20 #[.slice A n c, .slice A' n c'] w fun e w' => e = .returned (.bool true) ∧ ∃ q, w.drewN q = w' :=
  (equalInts A A' n n c c' B xs xs w hx hy hn hn).mono fun e w' h => ⟨by rw [h.1]; simp, h.2⟩
theorem sameWords (A A' : Option Addr) (n c c' B : Nat) (xs : List Int) (w : World) (hx : Arr .u64 w B A n xs) (hy : Arr .u64 w B A' n xs) (hn : n ≤ maxLen) :
    Calls Try.prog 19 #[.slice A n c, .slice A' n c'] w fun e w' => e = .returned (.bool true) ∧ ∃ q, w.drewN q = w' :=
  (equalWords A A' n n c c' B xs xs w hx hy hn hn).mono fun e w' h => ⟨by rw [h.1]; simp, h.2⟩
set_option maxRecDepth 8000 in
set_option maxHeartbeats 1000000 in
theorem sameObject_any (r q : Raw) (o : Ob) (lo lo' : Nat) (w : World) (hr : ObV w lo w.heap.size r o) (hq : ObV w lo' w.heap.size q o) (h1 : r.rn ≤ maxLen) (h2 : r.bn ≤ maxLen) :
    Calls Try.prog 32 #[rawV r, rawV q] w fun e w' => e = .returned (.bool true) ∧ Below w.heap.size w w' := by
  have e1 : r.t = q.t := hr.tag.trans hq.tag.symm
  have e2 : r.f = q.f := hr.free.trans hq.free.symm
  have e3 : r.rn = q.rn := hr.refs.1.symm.trans hq.refs.1
  have e4 : r.bn = q.bn := hr.body.1.symm.trans hq.body.1
  have hR := hr.refs
  have hQ := hq.refs
  have hS := hr.body
  have hT := hq.body
  obtain ⟨t, ra, rn, rc, ba, bn, bc, f⟩ := r
  obtain ⟨t', ra', rn', rc', ba', bn', bc', f'⟩ := q
  simp only at e1 e2 e3 e4 hR hQ hS hT h1 h2
  subst e1 e2 e3 e4
  unfold rawV
  simp only
  have a1 := (Below.refl _ w).alloc (Nat.le_refl _) (.cells #[.int .i64 t, .slice ra rn rc, .slice ba bn bc, .bool f] 41)
  have a2 := a1.alloc (by simp) (.cells #[.int .i64 t, .slice ra' rn rc', .slice ba' bn bc', .bool f] 41)
  have n1 := (Box.new w 41 #[.int .i64 t, .slice ra rn rc, .slice ba bn bc, .bool f]).alloc (.cells #[.int .i64 t, .slice ra' rn rc', .slice ba' bn bc', .bool f] 41)
  have n2 := Box.new (w.alloc (.cells #[.int .i64 t, .slice ra rn rc, .slice ba bn bc, .bool f] 41)) 41 #[.int .i64 t, .slice ra' rn rc', .slice ba' bn bc', .bool f]
  rw [show (w.alloc (.cells #[.int .i64 t, .slice ra rn rc, .slice ba bn bc, .bool f] 41)).heap.size = w.heap.size + 1 by simp] at n2
  have HI := Lib.hid (fun wx (h : Below w.heap.size w wx) => sameInts ra ra' rn rc rc' w.heap.size _ wx (hR.below h (Nat.le_refl _)) (hQ.below h (Nat.le_refl _)) h1)
  have HW := Lib.hid (fun wx (h : Below w.heap.size w wx) => sameWords ba ba' bn bc bc' w.heap.size _ wx (hS.below h (Nat.le_refl _)) (hT.below h (Nat.le_refl _)) h2)
  have N1 := Lib.hid n1
  have N2 := Lib.hid n2
  have HB := Lib.hid a2
  have e0 : (t == t) = true := by simp
  have e1 : (f == f) = true := by simp
  clear hr hq hR hQ hS hT n1 n2 a1 a2 h1 h2
  go_enter Try.func32, Try.ntmps32
  go_upto_region 1 with fail
  generalize ((w.alloc (.cells #[.int .i64 t, .slice ra rn rc, .slice ba bn bc, .bool f] 41)).alloc (.cells #[.int .i64 t, .slice ra' rn rc', .slice ba' bn bc', .bool f] 41)) = W at *
  have c0 : W.cell? ⟨w.heap.size, 0, none⟩ = some (.int .i64 t) := N1.out.cell 0
  have c1 : W.cell? ⟨w.heap.size, 1, none⟩ = some (.slice ra rn rc) := N1.out.cell 1
  have c2 : W.cell? ⟨w.heap.size, 2, none⟩ = some (.slice ba bn bc) := N1.out.cell 2
  have c3 : W.cell? ⟨w.heap.size, 3, none⟩ = some (.bool f) := N1.out.cell 3
  have d0 : W.cell? ⟨w.heap.size + 1, 0, none⟩ = some (.int .i64 t) := N2.out.cell 0
  have d1 : W.cell? ⟨w.heap.size + 1, 1, none⟩ = some (.slice ra' rn rc') := N2.out.cell 1
  have d2 : W.cell? ⟨w.heap.size + 1, 2, none⟩ = some (.slice ba' bn bc') := N2.out.cell 2
  have d3 : W.cell? ⟨w.heap.size + 1, 3, none⟩ = some (.bool f) := N2.out.cell 3
  go_wp2_with fail
  refine (HI.out _ HB.out).mono ?_
  rintro e w1 ⟨rfl, q1, rfl⟩
  go_wp2_with fail
  refine (HW.out _ (below_drewN HB.out q1)).mono ?_
  rintro e w1 ⟨rfl, q2, rfl⟩
  go_wp2
  go_ret
  exact ⟨rfl, below_drewN HB.out _⟩
end Go.Proofs.Ytjefbekdjgmmbaa
