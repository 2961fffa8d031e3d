/-
  Contracts of the reference's SameObjects, and of slices.Equal at spots, on lists that are one.
-/
import Derived.Test.YtkhiofnihgichaaRefSame
import Derived.Test.YtkhiofnihgichaaObjOwn
namespace Go.Proofs.Ytkhiofnihgichaa
open Go.RowKit

set_option maxRecDepth 8000 in
set_option maxHeartbeats 2000000 in
theorem sameObjects_any (A A' : Option Addr) (n c c' B lo lo' : Nat) (l l' : List Raw) (o : Nat → Ob) (w : World) (hn : n ≤ maxLen) (hB : B ≤ w.heap.size) (hl : ArrG rawC 4 w B A n l) (hl' : ArrG rawC 4 w B A' n l')
    (ho : ∀ j, j < n → ObV w lo B (nthG l j) (o j)) (ho' : ∀ j, j < n → ObV w lo' B (nthG l' j) (o j)) (h1 : ∀ j, j < n → (nthG l j).rn ≤ maxLen ∧ (nthG l j).bn ≤ maxLen) :
    Calls Try.prog 15 #[.slice A n c, .slice A' n c'] w fun e w' => e = .returned (.bool true) ∧ Below w.heap.size w w' := by
  unfold maxLen at hn
  have HL := Lib.hid hl
  have HL' := Lib.hid hl'
  have HO := Lib.hid ho
  have HO' := Lib.hid ho'
  have H1 := Lib.hid h1
  have hne : ((n : Int) != (n : Int)) = false := by simp
  clear hl hl' ho ho' h1
  go_enter Try.func15, Try.ntmps15
  go_wp2_with fail
  go_loopw [15] (fun i wr => ∃ k : Nat, k ≤ n ∧ i = .int .i64 k ∧ Hid (Below w.heap.size w wr)) (fun i _ => n - (intOf i).toNat)
  case atStart => exact ⟨0, Nat.zero_le _, rfl, Below.refl _ _⟩
  case round =>
    obtain ⟨k, hk, rfl, hBw⟩ := hrel
    by_cases hlt : k < n
    · obtain ⟨b, off, rfl, hb, x0, x1, x2, x3⟩ := (HL.out.below hBw.out hB).raw hlt
      obtain ⟨b', off', rfl, hb', y0, y1, y2, y3⟩ := (HL'.out.below hBw.out hB).raw hlt
      have hr := (HO.out k hlt).below hBw.out hB
      have hq := (HO'.out k hlt).below hBw.out hB
      have hm := H1.out k hlt
      have e1 : (nthG l k).t = (nthG l' k).t := hr.tag.trans hq.tag.symm
      have e2 : (nthG l k).f = (nthG l' k).f := hr.free.trans hq.free.symm
      have e3 : (nthG l k).rn = (nthG l' k).rn := hr.refs.1.symm.trans hq.refs.1
      have e4 : (nthG l k).bn = (nthG l' k).bn := hr.body.1.symm.trans hq.body.1
      have hR := hr.refs
      have hQ := hq.refs
      have hS := hr.body
      have hT := hq.body
      clear hr hq
      generalize nthG l k = r at *
      generalize nthG l' k = q at *
      obtain ⟨t, ra, rn, rc, ba, bn, bc, f⟩ := r
      obtain ⟨t', ra', rn', rc', ba', bn', bc', f'⟩ := q
      simp only at e1 e2 e3 e4 hR hQ hS hT hm x0 x1 x2 x3 y0 y1 y2 y3
      subst e1 e2 e3 e4
      have hsz := hBw.out.size
      have HI := Lib.hid (fun wx (h : Below wr.heap.size wr wx) => refInts_same ra ra' rn rc rc' B _ wx (hR.below h (by omega)) (hQ.below h (by omega)) hm.1)
      have HW := Lib.hid (fun wx (h : Below wr.heap.size wr wx) => refWords_same ba ba' bn bc bc' B _ wx (hS.below h (by omega)) (hT.below h (by omega)) hm.2)
      have a1 := (Below.refl _ wr).alloc (Nat.le_refl _) (.cells #[.int .i64 t, .slice ra rn rc, .slice ba bn bc, .bool f] 32)
      have a2 := a1.alloc (by simp) (.cells #[.int .i64 t, .slice ra' rn rc', .slice ba' bn bc', .bool f] 32)
      have z0 := (a1.cell (p := ⟨b', off' + k * 4, none⟩) (show b' < wr.heap.size by omega)).trans y0
      have z1 := (a1.cell (p := ⟨b', off' + k * 4 + 1, none⟩) (show b' < wr.heap.size by omega)).trans y1
      have z2 := (a1.cell (p := ⟨b', off' + k * 4 + 2, none⟩) (show b' < wr.heap.size by omega)).trans y2
      have z3 := (a1.cell (p := ⟨b', off' + k * 4 + 3, none⟩) (show b' < wr.heap.size by omega)).trans y3
      have HB2 := Lib.hid a2
      have e0 : (t != t) = false := by simp
      have e1 : (f != f) = false := by simp
      clear hR hQ hS hT a1 a2 hm hsz
      go_wp2_with fail
      refine (HI.out _ HB2.out).mono ?_
      rintro e w1 ⟨rfl, q1, rfl⟩
      go_wp2_with fail
      refine (HW.out _ (below_drewN HB2.out q1)).mono ?_
      rintro e w1 ⟨rfl, q2, rfl⟩
      have HB3 := Lib.hid (hBw.out.trans (HB2.out.mono hBw.out.size))
      clear x0 x1 x2 x3 y0 y1 y2 y3 z0 z1 z2 z3
      go_wp2
      go_roundw
      case rel => exact ⟨k + 1, by omega, by go_num, below_drewN HB3.out _⟩
      case measure => simp [intOf]; omega
    · obtain rfl : k = n := by omega
      go_wp2
      go_ret
      exact ⟨rfl, hBw.out⟩

set_option maxRecDepth 8000 in
set_option maxHeartbeats 1000000 in
theorem sameSpots (A A' : Option Addr) (n c c' B : Nat) (l : List Sp) (w : World) (hn : n ≤ maxLen) (hl : ArrG spotC 5 w B A n l) (hl' : ArrG spotC 5 w B A' n l) :
    Calls Try.prog 12 #[.slice A n c, .slice A' n c'] w fun e w' => e = .returned (.bool true) ∧ ∃ q, w.drewN q = w' := by
  unfold maxLen at hn
  have HL := Lib.hid hl
  have HL' := Lib.hid hl'
  have hne : ((n : Int) != (n : Int)) = false := by simp
  clear hl hl'
  go_enter Try.func12, Try.ntmps12
  go_wp2
  go_loopw [13] (fun i wr => ∃ k : Nat, k ≤ n ∧ i = .int .i64 k ∧ ∃ q, w.drewN q = wr) (fun i _ => n - (intOf i).toNat)
  case atStart => exact ⟨0, Nat.zero_le _, rfl, 0, rfl⟩
  case round =>
    obtain ⟨k, hk, rfl, q, rfl⟩ := hrel
    by_cases hlt : k < n
    · obtain ⟨b, off, rfl, hb, x0, x1, x2, x3, x4⟩ := HL.out.spot hlt
      obtain ⟨b', off', rfl, hb', y0, y1, y2, y3, y4⟩ := HL'.out.spot hlt
      generalize (nthG l k).1 = X0 at *
      generalize (nthG l k).2.1 = X1 at *
      generalize (nthG l k).2.2.1 = X2 at *
      generalize (nthG l k).2.2.2.1 = X3 at *
      generalize (nthG l k).2.2.2.2 = X4 at *
      have hlt' : (k : Int) < (n : Int) := by omega
      have hk0 : (0 : Int) ≤ (k : Int) := by omega
      go_wp2_with fail
      go_quiet (fail)
      go_wp2
      go_roundw
      case rel => exact ⟨k + 1, by omega, by go_num, _, rfl⟩
      case measure => simp [intOf]; omega
    · obtain rfl : k = n := by omega
      go_wp2
      go_ret
      exact ⟨rfl, q, rfl⟩
end Go.Proofs.Ytkhiofnihgichaa
