/-
  Contract of the reference's HalvesFault.
-/
import Derived.Test.YtdieokpfkojoiaaRefTwin
namespace Go.Proofs.Ytdieokpfkojoiaa
open Go.RowKit

/-- Is it one of the first 't' powers of two? -/
def powTo (Y : Int) : Nat → Bool
  | 0 => false
  | t + 1 => powTo Y t || decide (Y = pw t)
theorem powTo_some {Y : Int} : ∀ {t : Nat}, powTo Y t = true → ∃ i, i < t ∧ Y = pw i
  | 0, h => by cases h
  | t + 1, h => by
    rw [powTo, Bool.or_eq_true] at h
    rcases h with h | h
    · obtain ⟨i, h1, h2⟩ := powTo_some h
      exact ⟨i, by omega, h2⟩
    · exact ⟨t, by omega, by simpa using h⟩
theorem powTo_has {Y : Int} {i : Nat} (h : Y = pw i) : ∀ {t : Nat}, i < t → powTo Y t = true
  | 0, hi => absurd hi (by omega)
  | t + 1, hi => by
    rw [powTo, Bool.or_eq_true]
    rcases Nat.lt_succ_iff_lt_or_eq.1 hi with h1 | h1
    · exact .inl (powTo_has h h1)
    · right; subst h1; simpa using h
theorem okRoom_nopow {k : Nat} (hk : k ≤ 8) {e : Int} {r : Room} (h : powTo r.2.1 (k + 1) = false) : okRoom k e r = false := by
  cases ho : okRoom k e r
  · rfl
  · obtain ⟨⟨a, i, _, h2, h3, _⟩, _⟩ := (okRoom_iff hk).1 ho
    rw [powTo_has h2 (by omega)] at h; cases h
theorem okRoom_not {k : Nat} (hk : k ≤ 8) {e : Int} {X Z : Int} {i : Nat} (h : X < e ∨ (pw k : Int) - pw i < X ∨ X % pw i ≠ 0 ∨ (pw i : Int) < Z ∨ 2 * Z ≤ pw i) : okRoom k e (X, (pw i : Int), Z) = false := by
  cases ho : okRoom k e (X, (pw i : Int), Z)
  · rfl
  · exfalso
    obtain ⟨⟨a, i', h1, h2, h3, h4, h5, h6, h7⟩, h8⟩ := (okRoom_iff hk).1 ho
    simp only at h1 h2 h6 h7 h8
    have hii : i = i' := pw_inj (by omega)
    subst hii
    rcases h with h | h | h | h | h
    · omega
    · omega
    · subst h1
      have := Nat.mod_eq_zero_of_dvd h4
      exact h (by omega)
    · omega
    · omega
theorem okRoom_yes {k : Nat} (hk : k ≤ 8) {e : Int} {a i : Nat} {Z : Int} (hi : i ≤ k) (h1 : e ≤ a) (h2 : (a : Int) ≤ (pw k : Int) - pw i) (h3 : a % pw i = 0) (h4 : Z ≤ pw i) (h5 : (pw i : Int) < 2 * Z) : okRoom k e ((a : Int), (pw i : Int), Z) = true :=
  (okRoom_iff hk).2 ⟨⟨a, i, rfl, rfl, hi, Nat.dvd_of_mod_eq_zero h3, by omega, h4, h5⟩, h1⟩

set_option maxRecDepth 16000 in
set_option maxHeartbeats 4000000 in
theorem halvesFault_any (o : Int) (A : Option Addr) (n c : Nat) (l : List Room) (w : World) (hR : RoomsIn w A n l) :
    Calls Try.prog 13 #[.agg #[.int .i64 o, .slice A n c]] w fun e w' => e = .returned (.int .i64 (hErr o l)) ∧ Below w.heap.size w w' := by
  obtain ⟨hn, hx, hwf⟩ := hR
  unfold maxLen at hn
  have hl := hx.1
  by_cases ho : o < 0 ∨ 8 < o
  · rw [hErr_order ho]
    have HB := Lib.hid ((Below.refl _ w).alloc (Nat.le_refl _) (.cells #[.int .i64 o, .slice A n c] 24))
    clear hx hwf hl
    rcases Int.lt_or_le o 0 with h0 | h0
    · go_enter Try.func13, Try.ntmps13
      go_wp2
      go_ret
      exact ⟨rfl, HB.out⟩
    · have h1 : ¬ o < 0 := by omega
      have h2 : 8 < o := by omega
      clear h0 ho
      go_enter Try.func13, Try.ntmps13
      go_wp2
      go_ret
      exact ⟨rfl, HB.out⟩
  · obtain ⟨k, rfl⟩ := Int.eq_ofNat_of_zero_le (by omega : 0 ≤ o)
    have hk : k ≤ 8 := by omega
    have HE1 : Hid (roomsOk k 0 l = true → hErr k l = 0) := fun h => hErr_ok hk h
    have HE2 : Hid (roomsOk k 0 l = false → hErr k l = 3) := fun h => hErr_bad hk h
    generalize hErr (k : Int) l = E at *
    have HX := Lib.hid hx
    have HW := Lib.hid hwf
    have HL := Lib.hid hl
    have bx := Box.new w 24 #[.int .i64 k, .slice A n c]
    have HBx := Lib.hid bx
    have b0 := (Below.refl _ w).alloc (Nat.le_refl _) (.cells #[.int .i64 k, .slice A n c] 24)
    have HB0 := Lib.hid b0
    have HX0 := Lib.hid (hx.below b0 (Nat.le_refl _))
    have hk0 : ¬ (k : Int) < 0 := by omega
    have hk8 : ¬ 8 < (k : Int) := by omega
    have c0 : (w.alloc (.cells #[.int .i64 k, .slice A n c] 24)).cell? ⟨w.heap.size, 0, none⟩ = some (.int .i64 k) := bx.cell 0
    have c1 : (w.alloc (.cells #[.int .i64 k, .slice A n c] 24)).cell? ⟨w.heap.size, 1, none⟩ = some (.slice A n c) := bx.cell 1
    clear hx hwf hl ho bx b0
    go_enter Try.func13, Try.ntmps13
    go_wp2_with fail
    generalize (w.alloc (.cells #[.int .i64 k, .slice A n c] 24)) = W at *
    go_loopw [3, 19] (fun s i wr => W = wr ∧ ∃ t : Nat, t ≤ k ∧ i = .int .i64 t ∧ s = .int .i64 (pw t)) (fun _ i _ => k - (intOf i).toNat)
    case atStart => exact ⟨rfl, 0, Nat.zero_le _, rfl, rfl⟩
    case round => as_aux_lemma =>
      obtain ⟨rfl, t, ht, rfl, rfl⟩ := hrel
      have ht256 : pw t ≤ 256 := pw_256 (by omega)
      by_cases hlt : t < k
      · have HS := Lib.hid (pw_succ t)
        have hlt' : (t : Int) < (k : Int) := by omega
        clear HE1 HE2 HX HW HX0 HBx HB0
        generalize pw t = P at *
        go_wp2
        go_roundw
        case rel => exact ⟨by trivial, t + 1, by omega, by go_num, by rw [HS.out]; go_num⟩
        case measure => simp [intOf]; omega
      · obtain rfl : t = k := by omega
        have hend : ¬ (t : Int) < (t : Int) := by omega
        obtain ⟨PK, hPK⟩ : ∃ PK, pw t = PK := ⟨_, rfl⟩
        have HPK := Lib.hid hPK
        rw [hPK] at ht256 ⊢
        clear hPK
        go_wp2_with fail
        go_loopw [4, 27] (fun d i wr => ∃ j : Nat, j ≤ n ∧ i = .int .i64 j ∧ ∃ e : Nat, d = .int .i64 e ∧ e ≤ 1000 ∧ Hid (roomsOk t 0 l = roomsOk t e (l.drop j)) ∧ Hid (Below w.heap.size w wr) ∧ Hid (ArrG roomC 3 wr w.heap.size A n l)) (fun _ i _ => n - (intOf i).toNat)
        case atStart => exact ⟨0, Nat.zero_le _, rfl, 0, rfl, by omega, rfl, HB0, HX0⟩
        case round => as_aux_lemma =>
          obtain ⟨j, hj, rfl, en, rfl, hen, HD, HB, HXr⟩ := hrel
          clear HX HX0 HBx HB0 c0 c1
          by_cases hlt : j < n
          · obtain ⟨b, off, rfl, hbB, hc0, hc1, hc2⟩ := HXr.out.room hlt
            obtain ⟨w1, w2, w3⟩ := HW.out j hlt
            have hd2 := HD.out.trans (roomsOk_step (k := t) (e := en) (l := l) (j := j) (by rw [HL.out]; exact hlt))
            obtain ⟨⟨X, Y, Z⟩, hr⟩ : ∃ r, nthG l j = r := ⟨_, rfl⟩
            rw [hr] at hc0 hc1 hc2 w1 w2 w3 hd2
            simp only at hc0 hc1 hc2 w1 w2 w3 hd2
            rw [wf_i64] at w1 w2 w3
            have HD2 := Lib.hid hd2
            have HBn := Lib.hid (HB.out.alloc HB.out.size (.cells #[.int .i64 X, .int .i64 Y, .int .i64 Z] 42))
            have HXn := Lib.hid (HXr.out.below ((Below.refl _ wr).alloc (Nat.le_refl _) (.cells #[.int .i64 X, .int .i64 Y, .int .i64 Z] 42)) HB.out.size)
            have bx := Box.new wr 42 #[.int .i64 X, .int .i64 Y, .int .i64 Z]
            have y0 : (wr.alloc (.cells #[.int .i64 X, .int .i64 Y, .int .i64 Z] 42)).cell? ⟨wr.heap.size, 0, none⟩ = some (.int .i64 X) := bx.cell 0
            have y1 : (wr.alloc (.cells #[.int .i64 X, .int .i64 Y, .int .i64 Z] 42)).cell? ⟨wr.heap.size, 1, none⟩ = some (.int .i64 Y) := bx.cell 1
            have y2 : (wr.alloc (.cells #[.int .i64 X, .int .i64 Y, .int .i64 Z] 42)).cell? ⟨wr.heap.size, 2, none⟩ = some (.int .i64 Z) := bx.cell 2
            obtain ⟨w1a, w1b⟩ := w1
            obtain ⟨w2a, w2b⟩ := w2
            obtain ⟨w3a, w3b⟩ := w3
            have hlt' : (j : Int) < (n : Int) := by omega
            have HWa := Lib.hid w2a
            have HWb := Lib.hid w2b
            clear bx hd2 hr hbB HD HE1 w2a w2b
            go_wp2_with fail
            generalize wr.heap.size = g at *
            generalize (wr.alloc (.cells #[.int .i64 X, .int .i64 Y, .int .i64 Z] 42)) = V at *
            clear hc0 hc1 hc2 HB HXr
            go_loopw [7, 8] (fun f s wr => V = wr ∧ ∃ u : Nat, u ≤ t + 1 ∧ s = .int .i64 (pw u) ∧ f = .bool (powTo Y u)) (fun _ s _ => 1000 - (intOf s).toNat)
            case atStart => exact ⟨rfl, 0, by omega, rfl, rfl⟩
            case round => as_aux_lemma =>
              obtain ⟨rfl, u, hu, rfl, rfl⟩ := hrel
              have hu512 : pw u ≤ 512 := pw_le (by omega : u ≤ 9)
              have hu1 := pw_pos u
              by_cases hlu : u < t + 1
              · have HS := Lib.hid (pw_succ u)
                have hup : pw u ≤ PK := by rw [← HPK.out]; exact pw_le (by omega)
                have HPT : Hid (powTo Y (u + 1) = (powTo Y u || decide (Y = ((pw u : Nat) : Int)))) := rfl
                clear HPK HD2 HE2 HW HBn HXn HL
                generalize pw u = P at *
                generalize powTo Y u = B at *
                have hup' : (P : Int) ≤ (PK : Int) := by omega
                cases B
                · by_cases hYP : Y = (P : Int)
                  · subst hYP
                    have HPT2 : Hid (powTo (P : Int) (u + 1) = true) := by show _ = _; rw [HPT.out]; simp
                    have hpp : ((P : Int) == (P : Int)) = true := by simp
                    clear HPT
                    go_wp2
                    go_roundw
                    case rel => exact ⟨by trivial, u + 1, by omega, by rw [HS.out]; go_num, by rw [HPT2.out]⟩
                    case measure => simp [intOf]; omega
                  · have hpp : (Y == (P : Int)) = false := by simpa using hYP
                    have HPT2 : Hid (powTo Y (u + 1) = false) := by show _ = _; rw [HPT.out, decide_eq_false hYP]; rfl
                    clear HPT
                    go_wp2
                    go_roundw
                    case rel => exact ⟨by trivial, u + 1, by omega, by rw [HS.out]; go_num, by rw [HPT2.out]⟩
                    case measure => simp [intOf]; omega
                · have HPT2 : Hid (powTo Y (u + 1) = true) := by show _ = _; rw [HPT.out]; rfl
                  clear HPT
                  go_wp2
                  go_roundw
                  case rel => exact ⟨by trivial, u + 1, by omega, by rw [HS.out]; go_num, by rw [HPT2.out]⟩
                  case measure => simp [intOf]; omega
              · obtain rfl : u = t + 1 := by omega
                have hgt : ¬ ((pw (t + 1) : Nat) : Int) ≤ (PK : Int) := by
                  have := pw_lt (Nat.lt_succ_self t)
                  rw [HPK.out] at this
                  simp only [Nat.succ_eq_add_one] at this
                  omega
                cases hpo : powTo Y (t + 1)
                · have HF := Lib.hid (HE2.out (by rw [HD2.out, okRoom_nopow hk (by exact hpo)]; rfl))
                  clear hpo HPK HD2 HE2 HW HXn HL
                  generalize pw (t + 1) = P1 at *
                  go_wp2
                  go_ret
                  exact ⟨by rw [HF.out]; rfl, HBn.out⟩
                · obtain ⟨i, hi, rfl⟩ := powTo_some hpo
                  have hi256 : pw i ≤ 256 := pw_256 (by omega)
                  have hi1 := pw_pos i
                  have hnotF : (X < (en : Int) ∨ (pw t : Int) - pw i < X ∨ X % pw i ≠ 0 ∨ (pw i : Int) < Z ∨ 2 * Z ≤ pw i) → E = 3 := fun h => HE2.out (by rw [HD2.out, okRoom_not hk h]; rfl)
                  have hyes : ∀ a : Nat, X = a → (en : Int) ≤ a → (a : Int) ≤ (pw t : Int) - pw i → a % pw i = 0 → Z ≤ pw i → (pw i : Int) < 2 * Z → roomsOk t 0 l = roomsOk t (((a + pw i : Nat)) : Int) (l.drop (j + 1)) := fun a h1 h2 h3 h4 h5 h6 => by
                    rw [HD2.out]
                    subst h1
                    rw [okRoom_yes hk (by omega) h2 h3 h4 h5 h6]
                    simp
                  rw [HPK.out] at hnotF hyes
                  have HNF := Lib.hid hnotF
                  have HYES := Lib.hid hyes
                  clear hpo HPK HD2 HE2 HW HL hnotF hyes hi
                  generalize pw (t + 1) = P1 at *
                  generalize pw i = L at *
                  have hL0 : ¬ L = 0 := by omega
                  by_cases k1 : X < (en : Int)
                  · have HF := Lib.hid (HNF.out (.inl k1))
                    clear HNF HYES HXn
                    go_wp2
                    go_ret
                    exact ⟨by rw [HF.out]; rfl, HBn.out⟩
                  · obtain ⟨a, rfl⟩ := Int.eq_ofNat_of_zero_le (by omega : 0 ≤ X)
                    by_cases k2 : (PK : Int) - (L : Int) < (a : Int)
                    · have HF := Lib.hid (HNF.out (.inr (.inl k2)))
                      clear HNF HYES HXn
                      go_wp2
                      go_ret
                      exact ⟨by rw [HF.out]; rfl, HBn.out⟩
                    · have htm : (a : Int).tmod (L : Int) = ((a % L : Nat) : Int) := rfl
                      have hml : a % L < L := Nat.mod_lt _ (by omega)
                      by_cases k3 : a % L = 0
                      · rw [k3] at htm
                        have HK3 := Lib.hid k3
                        clear k3 hml
                        by_cases k4 : (L : Int) < Z
                        · have HF := Lib.hid (HNF.out (.inr (.inr (.inr (.inl k4)))))
                          clear HNF HYES HXn
                          go_wp2
                          go_ret
                          exact ⟨by rw [HF.out]; rfl, HBn.out⟩
                        · by_cases k5 : Z < 1
                          · have HF := Lib.hid (HNF.out (.inr (.inr (.inr (.inr (by omega))))))
                            clear HNF HYES HXn
                            by_cases k6 : wrap64 (2 * Z) ≤ (L : Int)
                            · by_cases k7 : (1 : Int) < (L : Int)
                              · go_wp2
                                go_ret
                                exact ⟨by rw [HF.out]; rfl, HBn.out⟩
                              · go_wp2
                                go_ret
                                exact ⟨by rw [HF.out]; rfl, HBn.out⟩
                            · go_wp2
                              go_ret
                              exact ⟨by rw [HF.out]; rfl, HBn.out⟩
                          · obtain ⟨z, rfl⟩ := Int.eq_ofNat_of_zero_le (by omega : 0 ≤ Z)
                            by_cases k6 : 2 * (z : Int) ≤ (L : Int)
                            · have HF := Lib.hid (HNF.out (.inr (.inr (.inr (.inr k6)))))
                              have k7 : (1 : Int) < (L : Int) := by omega
                              clear HNF HYES HXn
                              go_wp2
                              go_ret
                              exact ⟨by rw [HF.out]; rfl, HBn.out⟩
                            · have HG := Lib.hid (HYES.out a rfl (by omega) (by omega) HK3.out (by omega) (by omega))
                              clear HNF HYES
                              go_wp2
                              go_roundw
                              case rel => exact ⟨j + 1, by omega, by go_num, a + L, by go_num, by omega, HG, HBn, HXn⟩
                              case measure => simp [intOf]; omega
                      · have HF := Lib.hid (HNF.out (.inr (.inr (.inl (by rw [← Int.natCast_emod]; omega)))))
                        generalize a % L = M at *
                        have hM : ((M : Int) != 0) = true := by simp; omega
                        clear HNF HYES HXn
                        go_wp2
                        go_ret
                        exact ⟨by rw [HF.out]; rfl, HBn.out⟩
          · obtain rfl : j = n := by omega
            have HF := Lib.hid (HE1.out (by rw [HD.out, List.drop_eq_nil_of_le (by rw [HL.out]; omega)]; rfl))
            clear HE1 HE2 HXr
            go_wp2
            go_ret
            exact ⟨by rw [HF.out]; rfl, HB.out⟩
end Go.Proofs.Ytdieokpfkojoiaa
