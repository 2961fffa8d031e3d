/-
  Parts of the proof of SameForms: EqObj.
-/
import Derived.Test.YtjefbekdjgmmbaaSameFormsAh
import Derived.Test.YtjefbekdjgmmbaaSameFormsAt
namespace Go.Proofs.Ytjefbekdjgmmbaa
open Go.RowKit
set_option maxRecDepth 8000 in
set_option maxHeartbeats 2000000 in
theorem equalFunc_any (A A' : Option Addr) (n c c' B lo lo' : Nat) (l l' : List Raw) (o : Nat → Ob) (w : World) (hn : n ≤ maxLen) (hB : B ≤ w.heap.size) (hl : ArrG rawC 4 w B A n l) (hl' : ArrG rawC 4 w B A' n l')
    (ho : ∀ j, j < n → ObV w lo B (nthG l j) (o j)) (ho' : ∀ j, j < n → ObV w lo' B (nthG l' j) (o j)) (h1 : ∀ j, j < n → (nthG l j).rn ≤ maxLen ∧ (nthG l j).bn ≤ maxLen) :
    Calls Try.prog 31 #[.slice A n c, .slice A' n c', .func (.func 32) #[] #[]] w fun e w' => e = .returned (.bool true) ∧ Below w.heap.size w w' := by
  unfold maxLen at hn
  have HL := Lib.hid hl
  have HL' := Lib.hid hl'
  have HO := Lib.hid ho
  have HO' := Lib.hid ho'
  have H1 := Lib.hid h1
  have hne : ((n : Int) != (n : Int)) = false := by simp
  have hcall := Try.call32
  clear hl hl' ho ho' h1
  go_enter Try.func31, Try.ntmps31
  go_wp2_with fail
  go_loopw [17] (fun i wr => ∃ k : Nat, k ≤ n ∧ i = .int .i64 k ∧ Hid (Below w.heap.size w wr)) (fun i _ => n - (intOf i).toNat)
  case atStart => exact ⟨0, Nat.zero_le _, rfl, Below.refl _ _⟩
  case round =>
    obtain ⟨k, hk, rfl, hBw⟩ := hrel
    by_cases hlt : k < n
    · obtain ⟨b, off, rfl, hb, x0, x1, x2, x3⟩ := (HL.out.below hBw.out hB).raw hlt
      obtain ⟨b', off', rfl, hb', y0, y1, y2, y3⟩ := (HL'.out.below hBw.out hB).raw hlt
      have hr := (HO.out k hlt).below hBw.out hB
      have hq := (HO'.out k hlt).below hBw.out hB
      have hm := H1.out k hlt
      have hsz := hBw.out.size
      generalize nthG l k = r at *
      generalize nthG l' k = q at *
      have a1 := (Below.refl _ wr).alloc (Nat.le_refl _) (.cells #[.int .i64 r.t, .slice r.ra r.rn r.rc, .slice r.ba r.bn r.bc, .bool r.f] 41)
      have a2 := a1.alloc (by simp) (.cells #[.int .i64 q.t, .slice q.ra q.rn q.rc, .slice q.ba q.bn q.bc, .bool q.f] 41)
      have HC := Lib.hid (sameObject_any r q (o k) lo lo' _ ((hr.below a2 (by omega)).more (Nat.le_trans (by omega) a2.size)) ((hq.below a2 (by omega)).more (Nat.le_trans (by omega) a2.size)) hm.1 hm.2)
      unfold rawV at HC
      obtain ⟨t, ra, rn, rc, ba, bn, bc, f⟩ := r
      obtain ⟨t', ra', rn', rc', ba', bn', bc', f'⟩ := q
      simp only at x0 x1 x2 x3 y0 y1 y2 y3 a1 a2 HC
      have z0 := (a1.cell (p := ⟨b', off' + k * 4, none⟩) (show b' < wr.heap.size by omega)).trans y0
      have z1 := (a1.cell (p := ⟨b', off' + k * 4 + 1, none⟩) (show b' < wr.heap.size by omega)).trans y1
      have z2 := (a1.cell (p := ⟨b', off' + k * 4 + 2, none⟩) (show b' < wr.heap.size by omega)).trans y2
      have z3 := (a1.cell (p := ⟨b', off' + k * 4 + 3, none⟩) (show b' < wr.heap.size by omega)).trans y3
      have HB2 := Lib.hid a2
      clear hr hq a1 a2 hm hsz
      go_wp2_with fail
      refine HC.out.mono ?_
      rintro e w1 ⟨rfl, b1⟩
      have HB3 := Lib.hid (hBw.out.trans ((HB2.out.trans (b1.mono HB2.out.size)).mono hBw.out.size))
      clear x0 x1 x2 x3 y0 y1 y2 y3 z0 z1 z2 z3 b1
      go_wp2
      go_roundw
      case rel => exact ⟨k + 1, by omega, by go_num, HB3⟩
      case measure => simp [intOf]; omega
    · obtain rfl : k = n := by omega
      go_wp2
      go_ret
      exact ⟨rfl, hBw.out⟩
end Go.Proofs.Ytjefbekdjgmmbaa
