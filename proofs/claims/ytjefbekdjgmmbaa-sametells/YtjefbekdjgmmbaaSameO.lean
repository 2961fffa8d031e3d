/-
  Contract of the reference's SameObjects, of any two lists.
-/
import Derived.Test.YtjefbekdjgmmbaaRefSame
import Derived.Test.YtjefbekdjgmmbaaWalkM
namespace Go.Proofs.Ytjefbekdjgmmbaa
open Go.RowKit

set_option maxRecDepth 8000 in
set_option maxHeartbeats 4000000 in
theorem sameObs_any (A A' : Option Addr) (n n' c c' B lo lo' : Nat) (l l' : List Raw) (os os' : List Ob) (w : World) (hn : n ≤ maxLen) (hn' : n' ≤ maxLen) (hB : B ≤ w.heap.size) (hl : ArrG rawC 4 w B A n l) (hl' : ArrG rawC 4 w B A' n' l')
    (ho : ∀ j, j < n → ObV w lo B (nthG l j) (nthG os j)) (ho' : ∀ j, j < n' → ObV w lo' B (nthG l' j) (nthG os' j)) (h1 : ∀ j, j < n → (nthG l j).rn ≤ maxLen ∧ (nthG l j).bn ≤ maxLen) (h1' : ∀ j, j < n' → (nthG l' j).rn ≤ maxLen ∧ (nthG l' j).bn ≤ maxLen) (hol : os.length = n) (hol' : os'.length = n') :
    Calls Try.prog 41 #[.slice A n c, .slice A' n' c'] w fun e w' => e = .returned (.bool (decide (os = os'))) ∧ Below w.heap.size w w' := by
  unfold maxLen at hn hn'
  by_cases hnn : n = n'
  · subst hnn
    have HL := Lib.hid hl
    have HL' := Lib.hid hl'
    have HO := Lib.hid ho
    have HO' := Lib.hid ho'
    have H1 := Lib.hid h1
    have H1' := Lib.hid h1'
    have HOL := Lib.hid hol
    have HOL' := Lib.hid hol'
    have hne : ((n : Int) != (n : Int)) = false := by simp
    clear hl hl' ho ho' h1 h1' hol hol'
    go_enter Try.func41, Try.ntmps41
    go_wp2_with fail
    go_loopw [15] (fun i wr => ∃ k : Nat, k ≤ n ∧ i = .int .i64 k ∧ Hid (Below w.heap.size w wr) ∧ Hid (∀ j, j < k → nthG os j = nthG os' j)) (fun i _ => n - (intOf i).toNat)
    case atStart => exact ⟨0, Nat.zero_le _, rfl, Below.refl _ _, (fun j hj => absurd hj (by omega))⟩
    case round =>
      obtain ⟨k, hk, rfl, hBw, HEQ⟩ := hrel
      by_cases hlt : k < n
      · obtain ⟨b, off, rfl, hb, x0, x1, x2, x3⟩ := (HL.out.below hBw.out hB).raw hlt
        obtain ⟨b', off', rfl, hb', y0, y1, y2, y3⟩ := (HL'.out.below hBw.out hB).raw hlt
        have hr := (HO.out k hlt).below hBw.out hB
        have hq := (HO'.out k hlt).below hBw.out hB
        have hm := H1.out k hlt
        have hm' := H1'.out k hlt
        have HNE : Hid (nthG os k ≠ nthG os' k → os ≠ os') := fun h e => h (by rw [e])
        have HEN : Hid (nthG os k = nthG os' k → ∀ j, j < k + 1 → nthG os j = nthG os' j) := fun h j hj => by
          rcases Nat.lt_succ_iff_lt_or_eq.1 hj with h2 | h2
          · exact HEQ.out j h2
          · rw [h2]; exact h
        have e1 := hr.tag
        have e2 := hr.free
        have e1' := hq.tag
        have e2' := hq.free
        have hR := hr.refs
        have hQ := hq.refs
        have hS := hr.body
        have hT := hq.body
        clear hr hq
        generalize nthG l k = r at *
        generalize nthG l' k = q at *
        generalize nthG os k = o at *
        generalize nthG os' k = p at *
        obtain ⟨t, ra, rn, rc, ba, bn, bc, f⟩ := r
        obtain ⟨t', ra', rn', rc', ba', bn', bc', f'⟩ := q
        obtain ⟨ot, oR, oB, oF⟩ := o
        obtain ⟨pt, pR, pB, pF⟩ := p
        simp only at e1 e2 e1' e2' hR hQ hS hT hm hm' x0 x1 x2 x3 y0 y1 y2 y3
        subst e1 e2 e1' e2'
        have hsz := hBw.out.size
        have HI := Lib.hid (fun wx (h : Below wr.heap.size wr wx) => refInts ra ra' rn rn' rc rc' B oR pR wx (hR.below h (by omega)) (hQ.below h (by omega)) hm.1 hm'.1)
        have HW := Lib.hid (fun wx (h : Below wr.heap.size wr wx) => refWords_ ba ba' bn bn' bc bc' B oB pB wx (hS.below h (by omega)) (hT.below h (by omega)) hm.2 hm'.2)
        have a1 := (Below.refl _ wr).alloc (Nat.le_refl _) (.cells #[.int .i64 t, .slice ra rn rc, .slice ba bn bc, .bool f] 41)
        have a2 := a1.alloc (by simp) (.cells #[.int .i64 t', .slice ra' rn' rc', .slice ba' bn' bc', .bool f'] 41)
        have z0 := (a1.cell (p := ⟨b', off' + k * 4, none⟩) (show b' < wr.heap.size by omega)).trans y0
        have z1 := (a1.cell (p := ⟨b', off' + k * 4 + 1, none⟩) (show b' < wr.heap.size by omega)).trans y1
        have z2 := (a1.cell (p := ⟨b', off' + k * 4 + 2, none⟩) (show b' < wr.heap.size by omega)).trans y2
        have z3 := (a1.cell (p := ⟨b', off' + k * 4 + 3, none⟩) (show b' < wr.heap.size by omega)).trans y3
        have HB2 := Lib.hid a2
        have HB3 := Lib.hid (hBw.out.trans (a2.mono hBw.out.size))
        clear hR hQ hS hT a1 a2 hm hm' hsz hBw HEQ
        by_cases ht : t = t'
        · subst ht
          have e0 : (t != t) = false := by simp
          by_cases hf : f = f'
          · subst hf
            have e1 : (f != f) = false := by simp
            go_wp2_with fail
            refine (HI.out _ HB2.out).mono ?_
            rintro e w1 ⟨rfl, q1, rfl⟩
            by_cases hr : oR = pR
            · subst hr
              rw [decide_eq_true rfl]
              go_wp2_with fail
              refine (HW.out _ (below_drewN HB2.out q1)).mono ?_
              rintro e w1 ⟨rfl, q2, rfl⟩
              by_cases hb2 : oB = pB
              · subst hb2
                rw [decide_eq_true rfl]
                have HEN2 := Lib.hid (HEN.out rfl)
                clear HEN
                clear x0 x1 x2 x3 y0 y1 y2 y3 z0 z1 z2 z3
                go_wp2
                go_roundw
                case rel => exact ⟨k + 1, by omega, by go_num, below_drewN HB3.out _, HEN2⟩
                case measure => simp [intOf]; omega
              · rw [decide_eq_false hb2]
                have HD : Hid (decide (os = os') = false) := decide_eq_false (HNE.out (by simpa using hb2))
                clear hb2
                go_wp2
                go_ret
                exact ⟨by rw [HD.out]; try rfl, below_drewN HB3.out _⟩
            · rw [decide_eq_false hr]
              have HD : Hid (decide (os = os') = false) := decide_eq_false (HNE.out (fun e => hr (congrArg (fun o : Ob => o.2.1) e)))
              clear hr
              go_wp2
              go_ret
              exact ⟨by rw [HD.out]; try rfl, below_drewN HB3.out _⟩
          · have HD : Hid (decide (os = os') = false) := decide_eq_false (HNE.out (fun e => hf (congrArg (fun o : Ob => o.2.2.2) e)))
            rcases (by cases f <;> simp : f = false ∨ f = true) with rfl | rfl
            · rcases (by cases f' <;> simp : f' = false ∨ f' = true) with rfl | rfl
              · exact absurd rfl hf
              · clear hf HI HW
                go_wp2
                go_ret
                exact ⟨by rw [HD.out]; try rfl, HB3.out⟩
            · rcases (by cases f' <;> simp : f' = false ∨ f' = true) with rfl | rfl
              · clear hf HI HW
                go_wp2
                go_ret
                exact ⟨by rw [HD.out]; try rfl, HB3.out⟩
              · exact absurd rfl hf
        · have HD : Hid (decide (os = os') = false) := decide_eq_false (HNE.out (fun e => ht (congrArg (fun o : Ob => o.1) e)))
          have e0 : (t != t') = true := by simpa using ht
          clear ht
          go_wp2
          go_ret
          exact ⟨by rw [HD.out]; try rfl, HB3.out⟩
      · obtain rfl : k = n := by omega
        have HD : Hid (decide (os = os') = true) := decide_eq_true (by
          refine List.ext_getElem (by rw [HOL.out, HOL'.out]) fun j h1 h2 => ?_
          have := HEQ.out j (by rw [HOL.out] at h1; exact h1)
          rw [nthG_get _ _ h1, nthG_get _ _ h2] at this
          exact this)
        go_wp2
        go_ret
        exact ⟨by rw [HD.out]; try rfl, hBw.out⟩
  · have HD : Hid (decide (os = os') = false) := decide_eq_false (fun e => hnn (by rw [← hol, ← hol', e]))
    have hne : ((n : Int) != (n' : Int)) = true := by simpa using fun e : (n : Int) = n' => hnn (by omega)
    clear hl hl' ho ho' h1 h1' hol hol' hnn
    go_enter Try.func41, Try.ntmps41
    go_wp2
    go_ret
    exact ⟨by rw [HD.out]; try rfl, Below.refl _ _⟩
end Go.Proofs.Ytjefbekdjgmmbaa
