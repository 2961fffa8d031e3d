/-
  Parts of the proof of SameForms: Spot.
-/
import Derived.Deep.DeepCutAuto
import Derived.StillTailTactics
import Derived.Test.YtjefbekdjgmmbaaSameFormsAd
import Derived.Test.YtjefbekdjgmmbaaSameFormsAe
namespace Go.Proofs.Ytjefbekdjgmmbaa
open Go.RowKit
theorem wrap_low (k : Nat) (h0 : 0 < k) (h : k < 64) : IntKind.u64.wrap (IntKind.u64.wrap (2 ^ k) - 1) = ((lowN k : Nat) : Int) := by
  have h1 : (2 : Nat) ^ k < 2 ^ 64 := Nat.pow_lt_pow_right (by omega) h
  have h2 : 0 < (2 : Nat) ^ k := Nat.pow_pos (by omega)
  have e : (2 : Int) ^ k = ((2 ^ k : Nat) : Int) := by simp
  rw [IntKind.wrap_u64, IntKind.wrap_u64, e]
  unfold lowN
  rw [if_neg (by omega), if_neg (by omega), Int.toNat_natCast]
  omega
set_option maxHeartbeats 400000 in
theorem below_any (k : Int) (w : World) (hk : -1000 ≤ k ∧ k ≤ 1000) :
    Calls Try.prog 114 #[.int .i64 k] w fun e w' => e = .returned (.int .u64 (lowN k)) ∧ w = w' := by
  by_cases h0 : k ≤ 0
  · have e : lowN k = 0 := by unfold lowN; rw [if_pos h0]
    rw [e]
    go_enter Try.func114, Try.ntmps114
    go_wp2
    go_ret
    exact ⟨rfl, rfl⟩
  · obtain ⟨j, rfl⟩ := Int.eq_ofNat_of_zero_le (by omega : 0 ≤ k)
    by_cases h1 : j < 64
    · have H := Lib.hid (wrap_low j (by omega) h1)
      have hj : ¬ j = 0 := by omega
      go_enter Try.func114, Try.ntmps114
      go_wp2
      go_ret
      exact ⟨by rw [← H.out]; rfl, rfl⟩
    · have e : lowN (j : Int) = 18446744073709551615 := by unfold lowN; rw [if_neg h0, if_pos (by omega)]
      rw [e]
      have hj : 64 ≤ j := by omega
      have hj2 : j ≤ 1000 := by omega
      clear hk h1 h0 e
      go_enter Try.func114, Try.ntmps114
      go_wp2
      go_ret
      exact ⟨rfl, rfl⟩
theorem mask_bits (i a l : Nat) : bits .andNot .u64 ((lowN ((a : Int) + l - 64 * i) : Nat) : Int) ((lowN ((a : Int) - 64 * i) : Nat) : Int) = ((maskN i a l : Nat) : Int) :=
  u64_andNot_nat _ _ (lowN_lt _) (lowN_lt _)
set_option maxHeartbeats 400000 in
theorem mask_any (i a l : Nat) (w : World) (hi : i ≤ 4) (ha : a ≤ 256) (hl : l ≤ 256) :
    Calls Try.prog 94 #[.int .i64 i, .int .i64 a, .int .i64 l] w fun e w' => e = .returned (.int .u64 (maskN i a l)) ∧ w = w' := by
  have H := Lib.hid (mask_bits i a l)
  go_enter Try.func94, Try.ntmps94
  go_wp2_with fail
  refine (below_any _ _ (by omega)).mono ?_
  rintro e w' ⟨rfl, rfl⟩
  go_wp2_with fail
  refine (below_any _ _ (by omega)).mono ?_
  rintro e w' ⟨rfl, rfl⟩
  go_wp2
  go_ret
  refine ⟨?_, rfl⟩
  rw [← H.out]
  first | rfl | (simp only [Int.mul_comm (64 : Int)]; rfl)
set_option maxHeartbeats 400000 in
theorem has_any (A : Option Addr) (n c B p : Nat) (zs : List Int) (w : World) (hn : n ≤ 4) (h1 : p / 64 < n) (ha : Arr .u64 w B A n zs) :
    Calls Try.prog 116 #[.slice A n c, .int .i64 p] w fun e w' => e = .returned (.bool (bit zs p)) ∧ w = w' := by
  have HB : Hid ((bits .and .u64 (nth zs (p / 64) / 2 ^ (p % 64)) 1 == 1) = bit zs p) := bit_test _ _ (nth_u64 ha.2.1 _)
  obtain ⟨_, _, hc⟩ := ha
  obtain ⟨b, off, rfl, _, hc⟩ := hc (by omega)
  have hcj := hc (p / 64) (by omega)
  clear hc
  generalize nth zs (p/64) = X at *
  go_enter Try.func116, Try.ntmps116
  go_wp2
  go_ret
  exact ⟨by rw [← HB.out]; rfl, rfl⟩
/-- Can an arena have so many words? -/
def numB (m : Int) : Bool := decide (0 ≤ m ∧ m ≤ 256)
theorem numB_true {m : Int} (h0 : 0 ≤ m) (h1 : m ≤ 256) : numB m = true := by simp [numB, h0, h1]
theorem numB_low {m : Int} (h : m < 0) : numB m = false := by simp [numB]; omega
theorem numB_high {m : Int} (h : 256 < m) : numB m = false := by simp [numB]; omega
set_option maxHeartbeats 400000 in
theorem number_any (m : Int) (w : World) (hm : (Lit.int .i64 m).wf = true) :
    Calls Try.prog 109 #[.int .i64 m] w fun e w' => e = .returned (.bool (numB m)) ∧ w = w' := by
  rw [wf_i64] at hm
  obtain ⟨hm1, hm2⟩ := hm
  by_cases h0 : m < 0
  · rw [numB_low h0]
    go_enter Try.func109, Try.ntmps109
    go_wp2
    go_ret
    exact ⟨rfl, rfl⟩
  · by_cases h1 : 256 < m
    · rw [numB_high h1]
      have c1 : (m ≤ 256) = False := eq_false (by omega)
      go_enter Try.func109, Try.ntmps109
      go_wp2
      go_ret
      exact ⟨rfl, rfl⟩
    · rw [numB_true (by omega) (by omega)]
      have c1 : (m ≤ 256) = True := eq_true (by omega)
      go_enter Try.func109, Try.ntmps109
      go_wp2
      go_ret
      exact ⟨rfl, rfl⟩
set_option maxHeartbeats 400000 in
theorem size_any (p : Nat) (w : World) (hp : p ≤ 256) :
    Calls Try.prog 110 #[.int .i64 p] w fun e w' => e = .returned (.int .i64 (((p + 63) / 64 : Nat) : Int)) ∧ w = w' := by
  have H : Hid (((p : Int) + 64 - 1) / 64 = (((p + 63) / 64 : Nat) : Int)) := Lib.hid (by omega)
  go_enter Try.func110, Try.ntmps110
  go_wp2
  go_ret
  exact ⟨by rw [← H.out]; rfl, rfl⟩
set_option maxHeartbeats 1000000 in
theorem spotCheck_any (A : Option Addr) (n c B : Nat) (m : Int) (zs : List Int) (w : World) (hn : n ≤ maxLen) (hm : (Lit.int .i64 m).wf = true) (ha : Arr .u64 w B A n zs) :
    Calls Try.prog 113 #[.slice A n c, .int .i64 m] w fun e w' => e = .returned (.int .i64 (marksE zs m)) ∧ w = w' := by
  unfold maxLen at hn
  have HN := Lib.hid (fun w => number_any m w hm)
  rw [wf_i64] at hm
  obtain ⟨hm1, hm2⟩ := hm
  by_cases h0 : m < 0
  · rw [marksE_four (.inl h0)]
    go_enter Try.func113, Try.ntmps113
    go_wp2_with fail
    refine (HN.out _).mono ?_
    rintro e w' ⟨rfl, rfl⟩
    rw [numB_low h0]
    go_wp2
    go_ret
    exact ⟨rfl, rfl⟩
  · by_cases h1 : 256 < m
    · rw [marksE_four (.inr h1)]
      go_enter Try.func113, Try.ntmps113
      go_wp2_with fail
      refine (HN.out _).mono ?_
      rintro e w' ⟨rfl, rfl⟩
      rw [numB_high h1]
      go_wp2
      go_ret
      exact ⟨rfl, rfl⟩
    · obtain ⟨p, rfl⟩ := Int.eq_ofNat_of_zero_le (by omega : 0 ≤ m)
      have hp : p ≤ 256 := by omega
      have hp' : ¬ 256 < p := by omega
      have hl := ha.1
      have hb : numB (p : Int) = true := numB_true (by omega) (by omega)
      have HS := Lib.hid (fun w => size_any p w hp)
      rw [hb] at HN
      obtain ⟨S, hS⟩ : ∃ S, (p + 63) / 64 = S := ⟨_, rfl⟩
      rw [hS] at HS
      clear hb
      by_cases h2 : n = S
      · have hlen : zs.length = (p + 63) / 64 := by omega
        have d0 : ((n : Int) != (S : Int)) = false := by simp; omega
        by_cases h3 : p % 64 = 0
        · have hs : stray zs p = false := stray_false.2 fun k hk hkp => by omega
          rw [marksE_ok (by omega) (by omega) hs]
          clear ha hl hlen hs h2 hS
          have d1 : ((p : Int) % 64 != 0) = false := by simp; omega
          go_enter Try.func113, Try.ntmps113
          go_wp2_with fail
          refine (HN.out _).mono ?_
          rintro e w' ⟨rfl, rfl⟩
          go_wp2_with fail
          refine (HS.out _).mono ?_
          rintro e w' ⟨rfl, rfl⟩
          go_wp2
          go_ret
          exact ⟨rfl, rfl⟩
        · have hst := stray_last ha.2.1 hlen h3
          have d1 : ((p : Int) % 64 != 0) = true := by simp; omega
          obtain ⟨_, _, hc⟩ := ha
          obtain ⟨b, off, rfl, _, hc⟩ := hc (by omega)
          obtain ⟨q, rfl⟩ : ∃ q, n = q + 1 := ⟨n - 1, by omega⟩
          have hq : p / 64 = q := by omega
          have hcj := hc q (by omega)
          rw [hq] at hst
          have HM : Hid (marksE zs p = if stray zs p then 3 else 0) := by
            show _ = _
            unfold marksE
            rw [if_neg (by omega), if_neg (by simp; omega)]
          rw [HM.out]
          clear hc hl hlen h2 hq HM hS
          generalize nth zs q = X at *
          by_cases hx : X / 2 ^ (p % 64) = 0
          · have hs := hst.1 hx
            have d2 : (X / 2 ^ (p % 64) != 0) = false := by simp [hx]
            rw [hs]
            clear hst hs hx
            go_enter Try.func113, Try.ntmps113
            go_wp2_with fail
            refine (HN.out _).mono ?_
            rintro e w' ⟨rfl, rfl⟩
            go_wp2_with fail
            refine (HS.out _).mono ?_
            rintro e w' ⟨rfl, rfl⟩
            go_wp2
            go_ret
            exact ⟨rfl, rfl⟩
          · have hs : stray zs p = true := by
              rcases Bool.eq_false_or_eq_true (stray zs p) with h | h
              · exact h
              · exact absurd (hst.2 h) hx
            have d2 : (X / 2 ^ (p % 64) != 0) = true := by simpa using hx
            rw [hs]
            clear hst hs hx
            go_enter Try.func113, Try.ntmps113
            go_wp2_with fail
            refine (HN.out _).mono ?_
            rintro e w' ⟨rfl, rfl⟩
            go_wp2_with fail
            refine (HS.out _).mono ?_
            rintro e w' ⟨rfl, rfl⟩
            go_wp2
            go_ret
            exact ⟨rfl, rfl⟩
      · rw [marksE_len (by omega) (by omega)]
        have d0 : ((n : Int) != (S : Int)) = true := by simp; omega
        clear ha hl h2 hS
        go_enter Try.func113, Try.ntmps113
        go_wp2_with fail
        refine (HN.out _).mono ?_
        rintro e w' ⟨rfl, rfl⟩
        go_wp2_with fail
        refine (HS.out _).mono ?_
        rintro e w' ⟨rfl, rfl⟩
        go_wp2
        go_ret
        exact ⟨rfl, rfl⟩
/-- The error of a range of marks. -/
def spotE (zs : List Int) (n a l : Int) : Int := if marksE zs n = 0 then (if validB n a l then 0 else 4) else marksE zs n
theorem spotE_bad {zs : List Int} {n a l : Int} (h : marksE zs n ≠ 0) : spotE zs n a l = marksE zs n := by unfold spotE; rw [if_neg h]
theorem spotE_four {zs : List Int} {n a l : Int} (h : marksE zs n = 0) (hv : validB n a l = false) : spotE zs n a l = 4 := by unfold spotE; rw [if_pos h, hv]; rfl
theorem spotE_ok {zs : List Int} {n a l : Int} (h : marksE zs n = 0) (hv : validB n a l = true) : spotE zs n a l = 0 := by unfold spotE; rw [if_pos h, hv]; rfl
theorem spotE_zero {zs : List Int} {n a l : Int} (h : spotE zs n a l = 0) : marksE zs n = 0 ∧ 0 ≤ a ∧ a ≤ n ∧ 0 ≤ l ∧ l ≤ n - a := by
  unfold spotE at h
  split at h
  · rename_i h0
    cases hv : validB n a l
    · rw [hv] at h; simp at h
    · unfold validB at hv
      exact ⟨h0, by simpa using hv⟩
  · rename_i h0; exact absurd h h0
set_option maxHeartbeats 400000 in
theorem spotRange_any (A : Option Addr) (n c B : Nat) (m a l : Int) (zs : List Int) (w : World) (hn : n ≤ maxLen) (hm : (Lit.int .i64 m).wf = true) (hi : (Lit.int .i64 a).wf = true) (hl : (Lit.int .i64 l).wf = true) (ha : Arr .u64 w B A n zs) :
    Calls Try.prog 92 #[.slice A n c, .int .i64 m, .int .i64 a, .int .i64 l] w fun e w' => e = .returned (.int .i64 (spotE zs m a l)) ∧ w = w' := by
  by_cases h0 : marksE zs m = 0
  · obtain ⟨h1, h2, _, _⟩ := marksE_zero h0
    have hV := valid_any m a l w (by omega) hi hl
    cases hv : validB m a l
    · rw [spotE_four h0 hv]
      rw [hv] at hV
      have HV := Lib.hid hV
      clear hV hv
      go_enter Try.func92, Try.ntmps92
      go_wp2_with fail
      refine (spotCheck_any A n c B m zs _ hn hm ha).mono ?_
      rintro e w' ⟨rfl, rfl⟩
      rw [h0]
      clear h0
      go_wp2_with fail
      refine HV.out.mono ?_
      rintro e w' ⟨rfl, rfl⟩
      go_wp2
      go_ret
      exact ⟨rfl, rfl⟩
    · rw [spotE_ok h0 hv]
      rw [hv] at hV
      have HV := Lib.hid hV
      clear hV hv
      go_enter Try.func92, Try.ntmps92
      go_wp2_with fail
      refine (spotCheck_any A n c B m zs _ hn hm ha).mono ?_
      rintro e w' ⟨rfl, rfl⟩
      rw [h0]
      clear h0
      go_wp2_with fail
      refine HV.out.mono ?_
      rintro e w' ⟨rfl, rfl⟩
      go_wp2
      go_ret
      exact ⟨rfl, rfl⟩
  · rw [spotE_bad h0]
    have hb : (marksE zs m != 0) = true := by simpa using h0
    clear h0
    go_enter Try.func92, Try.ntmps92
    go_wp2_with fail
    refine (spotCheck_any A n c B m zs _ hn hm ha).mono ?_
    rintro e w' ⟨rfl, rfl⟩
    go_wp2
    go_ret
    exact ⟨rfl, rfl⟩
/-- Facts of marks that are right. -/
theorem marks_len {zs : List Int} {n : Nat} {m : Int} (h : marksE zs m = 0) (hl : zs.length = n) : n ≤ 4 ∧ n ≤ maxLen ∧ 0 ≤ m ∧ m ≤ 256 ∧ m ≤ 64 * n := by
  obtain ⟨h1, h2, h3, _⟩ := marksE_zero h
  unfold maxLen
  omega
set_option maxHeartbeats 400000 in
theorem hasOk_any (A : Option Addr) (n c B : Nat) (m a : Int) (zs : List Int) (w : World) (ha : Arr .u64 w B A n zs) (hE : spotE zs m a 1 = 0) :
    Calls Try.prog 104 #[.slice A n c, .int .i64 m, .int .i64 a] w fun e w' => e = .returned (.tuple #[.bool (bit zs a.toNat), .int .i64 0]) ∧ w = w' := by
  obtain ⟨h0, h1, h2, _, h3⟩ := spotE_zero hE
  obtain ⟨p, rfl⟩ := Int.eq_ofNat_of_zero_le h1
  rw [Int.toNat_natCast]
  obtain ⟨g1, g2, g3, g4, g5⟩ := marks_len h0 ha.1
  clear h0
  go_enter Try.func104, Try.ntmps104
  go_wp2_with fail
  refine (spotRange_any A n c B m p 1 zs _ g2 (wf_i64.2 (by omega)) (wf_i64.2 (by omega)) (by decide) ha).mono ?_
  rintro e w' ⟨rfl, rfl⟩
  rw [hE]
  clear hE
  go_wp2_with fail
  refine (has_any A n c B p zs _ g1 (by omega) ha).mono ?_
  rintro e w' ⟨rfl, rfl⟩
  go_wp2
  go_ret2
  exact ⟨rfl, rfl⟩
theorem set_or (X : Int) (m : Nat) (hX : 0 ≤ X ∧ X < 18446744073709551616) (hm : m < 18446744073709551616) : bits .or .u64 X m = ((setN X.toNat m true : Nat) : Int) := by
  have := u64_or_nat X.toNat m (by omega) hm
  rw [Int.toNat_of_nonneg hX.1] at this
  exact this
theorem set_andNot (X : Int) (m : Nat) (hX : 0 ≤ X ∧ X < 18446744073709551616) (hm : m < 18446744073709551616) : bits .andNot .u64 X m = ((setN X.toNat m false : Nat) : Int) := by
  have := u64_andNot_nat X.toNat m (by omega) hm
  rw [Int.toNat_of_nonneg hX.1] at this
  exact this
/-- The words, the first 'k' of them set. -/
def setTo (zs : List Int) (a l : Nat) (on : Bool) (k : Nat) : List Int := (List.range zs.length).map fun i => if i < k then ((setN (nth zs i).toNat (maskN i a l) on : Nat) : Int) else nth zs i
theorem setTo_zero (zs : List Int) (a l : Nat) (on : Bool) : setTo zs a l on 0 = zs := by
  apply List.ext_getElem
  · simp [setTo]
  · intro i h1 h2; simp [setTo, nth, h2]
theorem setTo_all (zs : List Int) (a l : Nat) (on : Bool) : setTo zs a l on zs.length = setL zs a l on := by
  unfold setTo setL
  apply List.map_congr_left
  intro i hi
  rw [if_pos (List.mem_range.1 hi)]
theorem setTo_length (zs : List Int) (a l : Nat) (on : Bool) (k : Nat) : (setTo zs a l on k).length = zs.length := by simp [setTo]
theorem setTo_nth (zs : List Int) (a l : Nat) (on : Bool) (k : Nat) (h : k < zs.length) : nth (setTo zs a l on k) k = nth zs k := by
  rw [nth_get _ _ (by rw [setTo_length]; exact h)]; simp [setTo]
theorem setTo_step (zs : List Int) (a l : Nat) (on : Bool) (k : Nat) : (setTo zs a l on k).set k ((setN (nth zs k).toNat (maskN k a l) on : Nat) : Int) = setTo zs a l on (k + 1) := by
  apply List.ext_getElem
  · simp [setTo]
  · intro i h1 h2
    rw [List.getElem_set]
    by_cases e : k = i
    · subst e; simp [setTo]
    · rw [if_neg e]
      have : (i < k) ↔ (i < k + 1) := by omega
      simp [setTo, this]
/-- What Set answers where all is right; the row is new. -/
def SetQ (n : Nat) (a l : Int) (on : Bool) (zs : List Int) (w : World) (e : Ending) (w' : World) : Prop := ∃ A c, e = .returned (.tuple #[.slice A n c, .int .i64 0]) ∧ Below w.heap.size w w' ∧ Arr .u64 w' w'.heap.size A n (setL zs a.toNat l.toNat on) ∧ High w.heap.size A n
set_option maxRecDepth 8000 in
set_option maxHeartbeats 1000000 in
theorem set_okQ (A : Option Addr) (n c p q : Nat) (m : Int) (on : Bool) (zs : List Int) (w : World) (h : spotE zs m p q = 0) (ha : Arr .u64 w w.heap.size A n zs) :
    Calls Try.prog 111 #[.slice A n c, .int .i64 m, .int .i64 p, .int .i64 q, .bool on] w (SetQ n p q on zs w) := by
  obtain ⟨h0, h1, h2, h3, h4⟩ := spotE_zero h
  obtain ⟨g1, g2, g3, g4, g5⟩ := marks_len h0 ha.1
  clear h0
  have HE := Lib.hid h
  have HZ : Hid (U64s zs) := ha.2.1
  have HL := Lib.hid ha.1
  go_enter Try.func111, Try.ntmps111
  go_wp2_with fail
  refine (spotRange_any A n c _ m p q zs _ g2 (wf_i64.2 (by omega)) (wf_i64.2 (by omega)) (wf_i64.2 (by omega)) ha).mono ?_
  rintro e w' ⟨rfl, rfl⟩
  rw [h]
  clear h
  go_wp2_with fail
  refine (slicesClone_any A n c zs _ (by omega) ha).mono ?_
  rintro e w1 ⟨A1, c1, rfl, hO, hB⟩
  clear ha
  go_wp2_with fail
  go_loopw [27] (fun i wr => ∃ k : Nat, k ≤ n ∧ i = .int .i64 k ∧ Own .u64 47 wr w.heap.size (.slice A1 n c1) (setTo zs p q on k) ∧ Below w.heap.size w wr) (fun i _ => n - (intOf i).toNat)
  case atStart => exact ⟨0, Nat.zero_le _, rfl, by rw [setTo_zero]; exact hO, hB⟩
  case round =>
    obtain ⟨k, hk, rfl, hOr, hBr⟩ := hrel
    clear hO hB
    by_cases hlt : k < n
    · obtain ⟨g, cap, hv6, hg, hglt, hcells, hset⟩ := hOr.form (by rw [setTo_length]; have := HL.out; omega)
      injection hv6 with e1 e4 e5
      subst e1
      clear e4 e5
      obtain ⟨hcj, hfj⟩ := hcells k (by rw [setTo_length]; have := HL.out; omega)
      rw [setTo_nth _ _ _ _ _ (by have := HL.out; omega)] at hcj
      have hX := nth_u64 HZ.out k
      have hlt' := setN_lt (nth zs k).toNat (maskN k p q) on (by omega) (maskN_lt _ _ _)
      have H1 := hset k ((setN (nth zs k).toNat (maskN k p q) on : Nat) : Int) (by rw [setTo_length]; have := HL.out; omega) (wf_u64.2 (by omega))
      rw [setTo_step] at H1
      have H1 := Lib.hid H1
      have H2 := Lib.hid (hBr.setCell (p := ⟨g, k, none⟩) hg (.int .u64 ((setN (nth zs k).toNat (maskN k p q) on : Nat) : Int)))
      clear hcells hset hOr hBr HE
      have hk0 : (0 : Int) ≤ (k : Int) := by omega
      have hk1 : (k : Int) < (n : Int) := by omega
      cases on
      · have hb := set_andNot (nth zs k) (maskN k p q) hX (maskN_lt _ _ _)
        generalize nth zs k = X at *
        generalize hY : setN X.toNat (maskN k p q) false = Y at *
        clear hY
        go_wp2
        refine wp_region_still_tail 9 (by kernel_rfl) (by kernel_rfl) ?_
        simp only [List.take_succ_cons, List.take_zero, List.drop_succ_cons, List.drop_zero]
        repeat still_step
        still_call ((mask_any k p q _ (by omega) (by omega) (by omega)).mono fun _ _ h => ⟨h.1, h.2.symm⟩)
        repeat still_step
        refine wpStill_nil ?_
        change wpList _ _ _ _ _ (wr.drewN 1)
        go_wp2
        go_roundw
        case rel => exact ⟨k + 1, by omega, by go_num, H1.out, below_drewN H2.out 1⟩
        case measure => simp [intOf]; omega
      · have hb := set_or (nth zs k) (maskN k p q) hX (maskN_lt _ _ _)
        generalize nth zs k = X at *
        generalize hY : setN X.toNat (maskN k p q) true = Y at *
        clear hY
        go_wp2
        refine wp_region_still_tail 9 (by kernel_rfl) (by kernel_rfl) ?_
        simp only [List.take_succ_cons, List.take_zero, List.drop_succ_cons, List.drop_zero]
        repeat still_step
        still_call ((mask_any k p q _ (by omega) (by omega) (by omega)).mono fun _ _ h => ⟨h.1, h.2.symm⟩)
        repeat still_step
        refine wpStill_nil ?_
        change wpList _ _ _ _ _ (wr.drewN 1)
        go_wp2
        go_roundw
        case rel => exact ⟨k + 1, by omega, by go_num, H1.out, below_drewN H2.out 1⟩
        case measure => simp [intOf]; omega
    · obtain rfl : k = n := by omega
      have H3 := Lib.hid hOr.high
      rw [← HL.out, setTo_all] at hOr
      obtain ⟨A2, c2, hv, _, hA⟩ := hOr.arr
      injection hv with e1 e2 e3
      subst e1
      clear e2 e3
      rw [setL_length, HL.out] at hA
      have H1 := Lib.hid hA
      have H2 := Lib.hid hBr
      clear hOr hBr hA
      go_wp2
      go_ret2
      exact ⟨_, _, rfl, H2.out, H1.out, H3.out⟩
end Go.Proofs.Ytjefbekdjgmmbaa
