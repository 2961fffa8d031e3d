/-
  Contracts of package twin: size, isBlock, isFilled, overlap, Check.
-/
import Derived.Test.YtdieokpfkojoiaaRoomG
import Derived.Test.YtdieokpfkojoiaaSpot
import Derived.Test.YtdieokpfkojoiaaLater
namespace Go.Proofs.Ytdieokpfkojoiaa
open Go.RowKit

theorem onesC_any (x : Nat) (w : World) (hx : x < 18446744073709551616) :
    Calls Try.prog 61 #[.int .u64 x] w fun e w' => e = .returned (.int .i64 (pop x)) ∧ w = w' := by
  have H := Lib.hid (ones_any x w hx)
  generalize pop x = P at *
  go_enter Try.func61, Try.ntmps61
  go_wp2_with fail
  refine H.out.mono ?_
  rintro e w' ⟨rfl, rfl⟩
  go_wp2
  go_ret
  exact ⟨rfl, rfl⟩

theorem wrap_pw {k : Nat} (hk : k ≤ 8) : wrap64 (2 ^ k) = ((pw k : Nat) : Int) := by
  have : ∀ k : Fin 9, wrap64 (2 ^ k.1) = ((pw k.1 : Nat) : Int) := by decide +kernel
  exact this ⟨k, by omega⟩

set_option maxHeartbeats 400000 in
theorem size_any (k : Nat) (A : Option Addr) (n c : Nat) (w : World) (hk : k ≤ 8) :
    Calls Try.prog 33 #[.agg #[.int .i64 k, .slice A n c]] w fun e w' => e = .returned (.int .i64 (pw k)) ∧ Below w.heap.size w w' := by
  have HB := Lib.hid ((Below.refl _ w).alloc (Nat.le_refl _) (.cells #[.int .i64 k, .slice A n c] 24))
  have H := Lib.hid (wrap_pw hk)
  go_enter Try.func33, Try.ntmps33
  go_wp2
  go_ret
  exact ⟨by rw [← H.out]; rfl, HB.out⟩

theorem pop_pow {x : Nat} (h : x ≤ 256) : pop x = 1 ↔ isPow x = true := by
  have : ∀ x : Fin 257, (pop x.1 = 1 ↔ isPow (x.1 : Nat) = true) := by decide +kernel
  exact this ⟨x, by omega⟩

set_option maxHeartbeats 1000000 in
theorem isBlock_any (x y z : Int) (k : Nat) (w : World) (hk : k ≤ 8) (hx : (Lit.int .i64 x).wf = true) (hy : (Lit.int .i64 y).wf = true) :
    Calls Try.prog 41 #[.agg #[.int .i64 x, .int .i64 y, .int .i64 z], .int .i64 (pw k)] w fun e w' => e = .returned (.bool (blockB (x, y, z) (pw k))) ∧ Below w.heap.size w w' := by
  have h256 := pw_256 hk
  have HB := Lib.hid ((Below.refl _ w).alloc (Nat.le_refl _) (.cells #[.int .i64 x, .int .i64 y, .int .i64 z] 42))
  have HV := Lib.hid (fun wx => valid_any (pw k) x y wx (by omega) hx hy)
  generalize pw k = W at *
  clear hx hy
  by_cases hv : 0 ≤ x ∧ x ≤ W ∧ 0 ≤ y ∧ y ≤ W - x
  · rw [validB_true hv] at HV
    obtain ⟨h1, h2, h3, h4⟩ := hv
    obtain ⟨a, rfl⟩ := Int.eq_ofNat_of_zero_le h1
    obtain ⟨L, rfl⟩ := Int.eq_ofNat_of_zero_le h3
    have hL : L ≤ 256 := by omega
    have hpp := pop_pow hL
    have HO := Lib.hid (fun wx => onesC_any L wx (by omega))
    have hcv : IntKind.u64.wrap (L : Int) = L := by rw [IntKind.wrap_u64]; omega
    by_cases hp : pop L = 1
    · have hq := hpp.1 hp
      have hL1 : 1 ≤ L := by
        rcases Nat.eq_zero_or_pos L with h | h
        · subst h; cases hq
        · exact h
      rw [hp] at HO
      have hz : ¬ L = 0 := by omega
      have htm : (a : Int).tmod (L : Int) = ((a % L : Nat) : Int) := rfl
      have hR : blockB ((a : Int), (L : Int), z) W = decide ((a : Int) % (L : Int) = 0) := by
        simp only [blockB]
        rw [hq, show decide ((0 : Int) ≤ a ∧ (a : Int) ≤ W ∧ (0 : Int) ≤ L ∧ (L : Int) ≤ W - a) = true by simp; omega]
        rfl
      have hR2 : decide ((a : Int) % (L : Int) = 0) = decide (((a % L : Nat) : Int) = 0) := by
        rw [Int.natCast_emod]
      rw [hR, hR2]
      have hm : a % L < L := Nat.mod_lt _ (by omega)
      clear hpp hp hq hR hR2 h1 h3
      generalize a % L = M at *
      by_cases hM : M = 0
      · subst hM
        go_enter Try.func41, Try.ntmps41
        go_wp2_with fail
        refine (HV.out _).mono ?_
        rintro e w' ⟨rfl, rfl⟩
        go_wp2_with fail
        refine (HO.out _).mono ?_
        rintro e w' ⟨rfl, rfl⟩
        go_wp2
        go_ret
        exact ⟨rfl, HB.out⟩
      · rw [show decide ((M : Int) = 0) = false by simp; omega]
        have hM2 : ((M : Int) == 0) = false := by simp; omega
        go_enter Try.func41, Try.ntmps41
        go_wp2_with fail
        refine (HV.out _).mono ?_
        rintro e w' ⟨rfl, rfl⟩
        go_wp2_with fail
        refine (HO.out _).mono ?_
        rintro e w' ⟨rfl, rfl⟩
        go_wp2
        go_ret
        exact ⟨rfl, HB.out⟩
    · have hq : isPow L = false := by
        cases h : isPow L
        · rfl
        · exact absurd (hpp.2 h) hp
      have hR : blockB ((a : Int), (L : Int), z) W = false := by
        simp only [blockB]
        rw [hq]; simp
      rw [hR]
      have hpb : ((pop L : Int) == 1) = false := by simp; omega
      clear hpp hq hR h1 h3
      generalize pop L = P at *
      go_enter Try.func41, Try.ntmps41
      go_wp2_with fail
      refine (HV.out _).mono ?_
      rintro e w' ⟨rfl, rfl⟩
      go_wp2_with fail
      refine (HO.out _).mono ?_
      rintro e w' ⟨rfl, rfl⟩
      go_wp2
      go_ret
      exact ⟨rfl, HB.out⟩
  · rw [validB_false hv] at HV
    have hR : blockB (x, y, z) W = false := by
      simp only [blockB]
      rw [decide_eq_false hv]; rfl
    rw [hR]
    clear hR hv
    go_enter Try.func41, Try.ntmps41
    go_wp2_with fail
    refine (HV.out _).mono ?_
    rintro e w' ⟨rfl, rfl⟩
    go_wp2
    go_ret
    exact ⟨rfl, HB.out⟩

set_option maxHeartbeats 400000 in
theorem isFilled_any (x z : Int) (L : Nat) (w : World) (hL : L ≤ 256) :
    Calls Try.prog 42 #[.agg #[.int .i64 x, .int .i64 L, .int .i64 z]] w fun e w' => e = .returned (.bool (filledB (x, (L : Int), z))) ∧ Below w.heap.size w w' := by
  have HB := Lib.hid ((Below.refl _ w).alloc (Nat.le_refl _) (.cells #[.int .i64 x, .int .i64 L, .int .i64 z] 42))
  have htd : (L : Int).tdiv 2 = ((L / 2 : Nat) : Int) := rfl
  have hR : filledB (x, (L : Int), z) = (decide (((L / 2 : Nat) : Int) < z) && decide (z ≤ (L : Int))) := by
    simp only [filledB]
    rw [Bool.eq_iff_iff]
    simp only [Bool.and_eq_true, decide_eq_true_eq]
    omega
  rw [hR]
  clear hR
  have hl2 : L / 2 ≤ L := Nat.div_le_self _ _
  generalize L / 2 = H at *
  by_cases h : (H : Int) < z
  · have e1 : decide ((H : Int) < z) = true := by simpa using h
    by_cases h2 : z ≤ (L : Int)
    · rw [e1, decide_eq_true h2]
      go_enter Try.func42, Try.ntmps42
      go_wp2
      go_ret
      exact ⟨rfl, HB.out⟩
    · rw [e1, decide_eq_false h2]
      go_enter Try.func42, Try.ntmps42
      go_wp2
      go_ret
      exact ⟨rfl, HB.out⟩
  · rw [decide_eq_false h]
    go_enter Try.func42, Try.ntmps42
    go_wp2
    go_ret
    exact ⟨rfl, HB.out⟩

/-- What is known of halves: the rooms read as 'l', each number fitting its kind. -/
def RoomsIn (w : World) (A : Option Addr) (n : Nat) (l : List Room) : Prop := n ≤ maxLen ∧ ArrG roomC 3 w w.heap.size A n l ∧ ∀ j, j < n → wf3 (nthG l j)
theorem RoomsIn.below {w w' : World} {A : Option Addr} {n : Nat} {l : List Room} (h : RoomsIn w A n l) (hb : Below w.heap.size w w') : RoomsIn w' A n l := ⟨h.1, (h.2.1.below hb (Nat.le_refl _)).more hb.size, h.2.2⟩

theorem blockB_long {x y z : Int} {k : Nat} (hk : k ≤ 8) (h : blockB (x, y, z) (pw k) = true) : ∃ a L : Nat, x = a ∧ y = L ∧ 1 ≤ L ∧ L ≤ 256 ∧ a ≤ 256 := by
  have h256 := pw_256 hk
  simp only [blockB, Bool.and_eq_true, decide_eq_true_eq] at h
  obtain ⟨⟨⟨h1, h2, h3, h4⟩, h5⟩, _⟩ := h
  obtain ⟨i, hi, rfl⟩ := isPow_some h5
  have := pw_pos i
  exact ⟨x.toNat, pw i, by omega, rfl, by omega, by omega, by omega⟩

set_option maxRecDepth 8000 in
set_option maxHeartbeats 2000000 in
theorem checkH_any (o : Int) (A : Option Addr) (n c : Nat) (l : List Room) (w : World) (hR : RoomsIn w A n l) :
    Calls Try.prog 14 #[.agg #[.int .i64 o, .slice A n c]] w fun e w' => e = .returned (.int .i64 (hErr o l)) ∧ Below w.heap.size w w' := by
  obtain ⟨hn, hx, hwf⟩ := hR
  unfold maxLen at hn
  have hl := hx.1
  by_cases ho : o < 0 ∨ 8 < o
  · rw [hErr_order ho]
    have HB := Lib.hid ((Below.refl _ w).alloc (Nat.le_refl _) (.cells #[.int .i64 o, .slice A n c] 24))
    clear hx hwf hl
    rcases Int.lt_or_le o 0 with h0 | h0
    · go_enter Try.func14, Try.ntmps14
      go_wp2
      go_ret
      exact ⟨rfl, HB.out⟩
    · have h1 : ¬ o < 0 := by omega
      have h2 : 8 < o := by omega
      clear h0 ho
      go_enter Try.func14, Try.ntmps14
      go_wp2
      go_ret
      exact ⟨rfl, HB.out⟩
  · obtain ⟨k, rfl⟩ := Int.eq_ofNat_of_zero_le (by omega : 0 ≤ o)
    have hk : k ≤ 8 := by omega
    have HE1 : Hid (roomsOk k 0 l = true → hErr k l = 0) := fun h => hErr_ok hk h
    have HE2 : Hid (roomsOk k 0 l = false → hErr k l = 3) := fun h => hErr_bad hk h
    generalize hErr (k : Int) l = E at *
    have HX := Lib.hid hx
    have HW := Lib.hid hwf
    have HL := Lib.hid hl
    have HS := Lib.hid (fun wx => size_any k A n c wx hk)
    have bx := Box.new w 24 #[.int .i64 k, .slice A n c]
    have HBx := Lib.hid bx
    have HB0 := Lib.hid ((Below.refl _ w).alloc (Nat.le_refl _) (.cells #[.int .i64 k, .slice A n c] 24))
    have hk0 : ¬ (k : Int) < 0 := by omega
    have hk8 : ¬ 8 < (k : Int) := by omega
    have hsz : (w.alloc (.cells #[.int .i64 k, .slice A n c] 24)).heap.size = w.heap.size + 1 := by simp
    have HSZ := Lib.hid hsz
    clear hx hwf hl ho bx hsz
    go_enter Try.func14, Try.ntmps14
    go_wp2_with fail
    go_loopw [3, 17] (fun d i wr => ∃ j : Nat, j ≤ n ∧ i = .int .i64 j ∧ ∃ e : Nat, d = .int .i64 e ∧ e ≤ 1000 ∧ Hid (roomsOk k 0 l = roomsOk k e (l.drop j)) ∧ Hid (Below (w.heap.size + 1) (w.alloc (.cells #[.int .i64 k, .slice A n c] 24)) wr)) (fun _ i _ => n - (intOf i).toNat)
    case atStart => exact ⟨0, Nat.zero_le _, rfl, 0, rfl, by omega, rfl, Below.refl _ _⟩
    case round =>
      obtain ⟨j, hj, rfl, en, rfl, hen, HD, HB⟩ := hrel
      by_cases hlt : j < n
      · obtain ⟨b, off, rfl, hbB, hc0, hc1, hc2⟩ := ((HX.out.below HB0.out (Nat.le_refl _)).below HB.out (by omega)).room hlt
        obtain ⟨w1, w2, _⟩ := HW.out j hlt
        have hst := roomsOk_step (k := k) (e := en) (l := l) (j := j) (by rw [HL.out]; exact hlt)
        have hd2 := HD.out.trans hst
        have hbx : Box wr w.heap.size 24 #[.int .i64 k, .slice (some ⟨b, off, none⟩) n c] := HBx.out.below HB.out (by omega)
        have hwr : w.heap.size < wr.heap.size := hbx.lt
        have HI := Lib.hid (fun wx => isBlock_any (nthG l j).1 (nthG l j).2.1 (nthG l j).2.2 k wx hk w1 w2)
        have HLg : Hid (blockB ((nthG l j).1, (nthG l j).2.1, (nthG l j).2.2) (pw k) = true → ∃ a L : Nat, (nthG l j).1 = a ∧ (nthG l j).2.1 = L ∧ 1 ≤ L ∧ L ≤ 256 ∧ a ≤ 256) := fun h => blockB_long hk h
        have hok : okRoom k en (nthG l j) = (blockB ((nthG l j).1, (nthG l j).2.1, (nthG l j).2.2) (pw k) && filledB ((nthG l j).1, (nthG l j).2.1, (nthG l j).2.2) && decide ((en : Int) ≤ (nthG l j).1)) := rfl
        rw [hok] at hd2
        have HD2 := Lib.hid hd2
        clear hok hst w1 w2 hd2
        generalize (nthG l j).1 = X at *
        generalize (nthG l j).2.1 = Y at *
        generalize (nthG l j).2.2 = Z at *
        have by_ := Box.new wr 42 #[.int .i64 X, .int .i64 Y, .int .i64 Z]
        have hbx2 := hbx.alloc (.cells #[.int .i64 X, .int .i64 Y, .int .i64 Z] 42)
        have hs2 : (wr.alloc (.cells #[.int .i64 X, .int .i64 Y, .int .i64 Z] 42)).heap.size = wr.heap.size + 1 := by simp
        have HBw := Lib.hid (HB.out.alloc (by omega) (.cells #[.int .i64 X, .int .i64 Y, .int .i64 Z] 42))
        have y0 : (wr.alloc (.cells #[.int .i64 X, .int .i64 Y, .int .i64 Z] 42)).cell? ⟨wr.heap.size, 0, none⟩ = some (.int .i64 X) := by_.cell 0
        have y1 : (wr.alloc (.cells #[.int .i64 X, .int .i64 Y, .int .i64 Z] 42)).cell? ⟨wr.heap.size, 1, none⟩ = some (.int .i64 Y) := by_.cell 1
        have y2 : (wr.alloc (.cells #[.int .i64 X, .int .i64 Y, .int .i64 Z] 42)).cell? ⟨wr.heap.size, 2, none⟩ = some (.int .i64 Z) := by_.cell 2
        have g0 : (wr.alloc (.cells #[.int .i64 X, .int .i64 Y, .int .i64 Z] 42)).cell? ⟨w.heap.size, 0, none⟩ = some (.int .i64 k) := hbx2.cell 0
        have g1 : (wr.alloc (.cells #[.int .i64 X, .int .i64 Y, .int .i64 Z] 42)).cell? ⟨w.heap.size, 1, none⟩ = some (.slice (some ⟨b, off, none⟩) n c) := hbx2.cell 1
        have z0 := fun p => Later.cell (a := ⟨wr.heap.size, 0, none⟩) (by rw [hs2]; show wr.heap.size < _; omega) y0 p
        have z1 := fun p => Later.cell (a := ⟨wr.heap.size, 1, none⟩) (by rw [hs2]; show wr.heap.size < _; omega) y1 p
        have z2 := fun p => Later.cell (a := ⟨wr.heap.size, 2, none⟩) (by rw [hs2]; show wr.heap.size < _; omega) y2 p
        have z3 := fun p => Later.cell (a := ⟨w.heap.size, 0, none⟩) (by rw [hs2]; show w.heap.size < _; omega) g0 p
        have z4 := fun p => Later.cell (a := ⟨w.heap.size, 1, none⟩) (by rw [hs2]; show w.heap.size < _; omega) g1 p
        clear hbx hbx2 by_ g0 g1 HX hbB
        cases hb : blockB (X, Y, Z) (pw k)
        · rw [hb] at HI HD2
          have HF := Lib.hid (HE2.out (by rw [HD2.out]; rfl))
          clear HLg HE1 HE2 HD HD2 hb y0 y1 y2
          generalize pw k = W at *
          go_wp2_with fail
          generalize (wr.alloc (.cells #[.int .i64 X, .int .i64 Y, .int .i64 Z] 42)) = V at *
          refine wp_region_later (by kernel_rfl) (by kernel_rfl) ?_
          repeat (go_big_quiet_step (first
            | (go_at_call 33; exact Later.call (HS.out _))
            | (go_at_call 41; exact Later.call (HI.out _))))
          refine wpQuiet_nil ?_
          rintro _ ⟨p, rfl⟩
          clear z0 z1 z2 z3 z4
          go_wp2
          go_ret
          exact ⟨by rw [HF.out]; rfl, HB0.out.trans ((HBw.out.trans (p.below.mono (by rw [hs2]; omega))).mono (by omega))⟩
        · obtain ⟨a, L, rfl, rfl, hL1, hL2, ha⟩ := HLg.out hb
          rw [hb] at HI HD2
          have HFl := Lib.hid (fun wx => isFilled_any a Z L wx hL2)
          clear HLg HD hb
          generalize hpk : pw k = W at *
          cases hf : filledB ((a : Int), (L : Int), Z)
          · rw [hf] at HFl HD2
            have HF := Lib.hid (HE2.out (by rw [HD2.out]; rfl))
            clear HE1 HE2 HD2 hf y0 y1 y2 hpk
            go_wp2_with fail
            generalize (wr.alloc (.cells #[.int .i64 a, .int .i64 L, .int .i64 Z] 42)) = V at *
            refine wp_region_later (by kernel_rfl) (by kernel_rfl) ?_
            repeat (go_big_quiet_step (first
              | (go_at_call 33; exact Later.call (HS.out _))
              | (go_at_call 41; exact Later.call (HI.out _))
              | (go_at_call 42; exact Later.call (HFl.out _))))
            refine wpQuiet_nil ?_
            rintro _ ⟨p, rfl⟩
            clear z0 z1 z2 z3 z4
            go_wp2
            go_ret
            exact ⟨by rw [HF.out]; rfl, HB0.out.trans ((HBw.out.trans (p.below.mono (by rw [hs2]; omega))).mono (by omega))⟩
          · rw [hf] at HFl HD2
            by_cases hae : en ≤ a
            · have HD3 : Hid (roomsOk k 0 l = roomsOk k ((a + L : Nat) : Int) (l.drop (j + 1))) := by
                show _ = _
                rw [HD2.out, show decide ((en : Int) ≤ (a : Int)) = true by simp; omega]
                simp
              have hea : ((a : Int) < (en : Int)) = False := eq_false (by omega)
              clear HE1 HE2 HD2 hf hpk
              go_wp2_with fail
              have HV0 : Hid (∀ p : Later (wr.alloc (.cells #[.int .i64 a, .int .i64 L, .int .i64 Z] 42)), p.w.cell? ⟨wr.heap.size, 0, none⟩ = some (.int .i64 a) ∧ p.w.cell? ⟨wr.heap.size, 1, none⟩ = some (.int .i64 L)) := fun p => ⟨z0 p, z1 p⟩
              clear y0 y1 y2
              generalize (wr.alloc (.cells #[.int .i64 a, .int .i64 L, .int .i64 Z] 42)) = V at *
              refine wp_region_later (by kernel_rfl) (by kernel_rfl) ?_
              repeat (go_big_quiet_step (first
                | (go_at_call 33; exact Later.call (HS.out _))
                | (go_at_call 41; exact Later.call (HI.out _))
                | (go_at_call 42; exact Later.call (HFl.out _))))
              refine wpQuiet_nil ?_
              rintro _ ⟨p, rfl⟩
              clear z0 z1 z2 z3 z4
              obtain ⟨y0, y1⟩ := HV0.out p
              have HBp := Lib.hid (HBw.out.trans (p.below.mono (by rw [hs2]; omega)))
              clear HV0
              generalize p.w = wp at *
              go_wp2
              go_roundw
              case rel => exact ⟨j + 1, by omega, by go_num, a + L, by go_num, by omega, HD3, HBp⟩
              case measure => simp [intOf]; omega
            · have HF := Lib.hid (HE2.out (by rw [HD2.out, show decide ((en : Int) ≤ (a : Int)) = false by simp; omega]; rfl))
              have hea : (a : Int) < (en : Int) := by omega
              clear HE1 HE2 HD2 hf y0 y1 y2 hpk
              go_wp2_with fail
              generalize (wr.alloc (.cells #[.int .i64 a, .int .i64 L, .int .i64 Z] 42)) = V at *
              refine wp_region_later (by kernel_rfl) (by kernel_rfl) ?_
              repeat (go_big_quiet_step (first
                | (go_at_call 33; exact Later.call (HS.out _))
                | (go_at_call 41; exact Later.call (HI.out _))
                | (go_at_call 42; exact Later.call (HFl.out _))))
              refine wpQuiet_nil ?_
              rintro _ ⟨p, rfl⟩
              clear z0 z1 z2 z3 z4
              go_wp2
              go_ret
              exact ⟨by rw [HF.out]; rfl, HB0.out.trans ((HBw.out.trans (p.below.mono (by rw [hs2]; omega))).mono (by omega))⟩
      · obtain rfl : j = n := by omega
        have HF := Lib.hid (HE1.out (by rw [HD.out, List.drop_eq_nil_of_le (by rw [HL.out]; omega)]; rfl))
        clear HE1 HE2
        go_wp2
        go_ret
        exact ⟨by rw [HF.out]; rfl, HB0.out.trans (HB.out.mono (by omega))⟩
end Go.Proofs.Ytdieokpfkojoiaa
