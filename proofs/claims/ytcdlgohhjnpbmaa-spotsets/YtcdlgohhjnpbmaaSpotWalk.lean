/-
  The walks of SpotSets, SpotNext and SpotCuts: whatever the arguments and the memory, the call returns true and changes nothing that was there.
-/
import Derived.Test.YtcdlgohhjnpbmaaSpotSet
namespace Go.Proofs.Ytcdlgohhjnpbmaa
open Go.RowKit

set_option maxHeartbeats 400000 in
theorem marks_any (w : World) : Calls Try.prog 29 #[] w fun e w' => e = .returned (.bool true) ∧ Below w.heap.size w w' := by
  have hW := whole_new .u64 44 w [3] (fun z hz => by rw [List.mem_singleton.1 hz]; rfl)
  have ha := hW.arr (B := w.heap.size + 1) (by omega)
  go_enter Try.func29, Try.ntmps29
  go_wp2_with fail
  refine (Count_any _ 1 1 (w.heap.size + 1) 4 0 4 [3] _ (by unfold maxLen; omega) (by decide) (by decide) (by decide) ha).mono ?_
  rintro e w' ⟨rfl, rfl⟩
  rw [show countV [3] 4 0 4 = 2 by decide, show spotE [3] 4 0 4 = 0 by decide]
  clear ha hW
  go_wp2
  go_ret
  exact ⟨rfl, (Below.refl _ _).alloc (Nat.le_refl _) _⟩

theorem wf_bool (b : Bool) : (b == b) = true := by simp
theorem validB_iff {n a l : Int} : validB n a l = true ↔ 0 ≤ a ∧ a ≤ n ∧ 0 ≤ l ∧ l ≤ n - a := by unfold validB; simp

set_option maxHeartbeats 1000000 in
theorem spotSets_walk (A : Option Addr) (n c : Nat) (m a l k : Int) (on : Bool) (zs : List Int) (w : World) (hn : n ≤ maxLen) (hm : (Lit.int .i64 m).wf = true) (hi : (Lit.int .i64 a).wf = true) (hl : (Lit.int .i64 l).wf = true) (hk : (Lit.int .i64 k).wf = true) (ha : Arr .u64 w w.heap.size A n zs) :
    Calls Try.prog 5 #[.slice A n c, .int .i64 m, .int .i64 a, .int .i64 l, .int .i64 k, .bool on] w fun e w' => e = .returned (.bool true) ∧ Below w.heap.size w w' := by
  by_cases hE : spotE zs m a l = 0
  · obtain ⟨h0, h1, h2, h3, h4⟩ := spotE_zero hE
    obtain ⟨p, rfl⟩ := Int.eq_ofNat_of_zero_le h1
    obtain ⟨q, rfl⟩ := Int.eq_ofNat_of_zero_le h3
    obtain ⟨g1, g2, g3, g4, g5⟩ := marks_len h0 ha.1
    obtain ⟨r, rfl⟩ := Int.eq_ofNat_of_zero_le g3
    have hs : marksE (setL zs p q on) r = 0 := marksE_set h0 (by omega)
    have hEk : spotE (setL zs p q on) r k 1 = spotE zs r k 1 := by unfold spotE; rw [h0, hs]
    have HEk := Lib.hid hEk
    clear hEk
    have hlen := ha.1
    have hbit : ∀ j : Nat, j < r → bit (setL zs p q on) j = if p ≤ j ∧ j < p + q then on else bit zs j := fun j hj => setL_bit _ _ _ _ (by omega)
    have HB := Lib.hid hbit
    clear hbit h0 hlen
    go_enter Try.func5, Try.ntmps5
    go_wp2_with fail
    refine (marks_any _).mono ?_
    rintro e w1 ⟨rfl, hb1⟩
    go_wp2_with fail
    refine (Set_any A n c r p q on zs _ hn hm hi hl ((ha.below hb1 (Nat.le_refl _)).more hb1.size)).mono ?_
    rintro e w2 ⟨A2, k2, c2, rfl, hb2, h2'⟩
    obtain ⟨_, rfl, hA2⟩ := h2'.resolve_left (fun h => h.1 hE)
    rw [hE]
    rw [Int.toNat_natCast, Int.toNat_natCast] at hA2
    clear h2'
    have hb := hb1.trans (hb2.mono hb1.size)
    have ha2 := ha.below hb (Nat.le_refl _)
    go_wp2_with fail
    refine (Has_any A2 k2 c2 _ r k _ _ hn hm hk hA2).mono ?_
    rintro e w' ⟨rfl, rfl⟩
    rw [HEk.out]
    go_wp2_with fail
    refine (Has_any A k2 c _ r k zs _ hn hm hk ha2).mono ?_
    rintro e w' ⟨rfl, rfl⟩
    have HH := Lib.hid hb
    have c0 : (spotE zs r k 1 != spotE zs r k 1) = false := by simp
    have hC := spotCheck_any A2 k2 c2 _ r _ w2 hn hm hA2
    rw [hs] at hC
    have HC := Lib.hid hC
    clear hE hb hb1 hb2 hA2 ha2 ha hs hC
    by_cases hK : spotE zs r k 1 = 0
    · obtain ⟨_, k0, k1, _, k3⟩ := spotE_zero hK
      obtain ⟨j, rfl⟩ := Int.eq_ofNat_of_zero_le k0
      have e1 : hasV (setL zs p q on) r j = if p ≤ j ∧ j < p + q then on else bit zs j := by
        rw [hasV, if_pos (by rw [HEk.out]; exact hK), Int.toNat_natCast]; exact HB.out j (by omega)
      have e2 : hasV zs r j = bit zs j := by rw [hasV, if_pos hK]; rfl
      rw [e1, e2, hK]
      have HK := Lib.hid hK
      clear e1 e2 hK c0 HEk HB
      by_cases hin : p ≤ j ∧ j < p + q
      · obtain ⟨i1, i2⟩ := hin
        rw [if_pos ⟨i1, i2⟩]
        have cc : (on == on) = true := by simp
        go_wp2_with fail
        refine HC.out.mono ?_
        rintro e w' ⟨rfl, rfl⟩
        go_wp2
        go_ret
        exact ⟨rfl, HH.out⟩
      · rw [if_neg hin]
        generalize bit zs j = X
        have cc : (X == X) = true := by simp
        by_cases i1 : p ≤ j
        · have i2 : p + q ≤ j := by omega
          clear hin
          go_wp2_with fail
          refine HC.out.mono ?_
          rintro e w' ⟨rfl, rfl⟩
          go_wp2
          go_ret
          exact ⟨rfl, HH.out⟩
        · clear hin
          have i2 : j < p := by omega
          have d : decide (p ≤ j) = false := by simpa using i1
          go_wp2_with fail
          refine HC.out.mono ?_
          rintro e w' ⟨rfl, rfl⟩
          go_wp2
          go_ret
          exact ⟨rfl, HH.out⟩
    · have c1 : (spotE zs r k 1 != 0) = true := by simpa using hK
      clear hK HEk HB
      generalize hasV (setL zs p q on) r k = X
      generalize hasV zs r k = Y
      go_wp2_with fail
      refine HC.out.mono ?_
      rintro e w' ⟨rfl, rfl⟩
      go_wp2
      go_ret
      exact ⟨rfl, HH.out⟩
  · have hb : (spotE zs m a l != 0) = true := by simpa using hE
    go_enter Try.func5, Try.ntmps5
    go_wp2_with fail
    refine (marks_any _).mono ?_
    rintro e w1 ⟨rfl, hb1⟩
    go_wp2_with fail
    refine (Set_any A n c m a l on zs _ hn hm hi hl ((ha.below hb1 (Nat.le_refl _)).more hb1.size)).mono ?_
    rintro e w2 ⟨A2, k2, c2, rfl, hb2, h2'⟩
    obtain ⟨_, rfl⟩ := h2'.resolve_right (fun h => hE h.1)
    have HB := Lib.hid (hb1.trans (hb2.mono hb1.size))
    clear hb1 hb2 h2' hE ha
    go_wp2
    go_ret
    exact ⟨rfl, HB.out⟩

set_option maxHeartbeats 1000000 in
theorem spotCuts_walk (A : Option Addr) (n c : Nat) (m a i k : Int) (zs : List Int) (w : World) (hn : n ≤ maxLen) (hm : (Lit.int .i64 m).wf = true) (ha' : (Lit.int .i64 a).wf = true) (hi : (Lit.int .i64 i).wf = true) (hk : (Lit.int .i64 k).wf = true) (ha : Arr .u64 w w.heap.size A n zs) :
    Calls Try.prog 7 #[.slice A n c, .int .i64 m, .int .i64 a, .int .i64 i, .int .i64 k] w fun e w' => e = .returned (.bool true) ∧ Below w.heap.size w w' := by
  by_cases hE : spotE zs m a i = 0
  · obtain ⟨h0, h1, h2, h3, h4⟩ := spotE_zero hE
    obtain ⟨p, rfl⟩ := Int.eq_ofNat_of_zero_le h1
    obtain ⟨q, rfl⟩ := Int.eq_ofNat_of_zero_le h3
    obtain ⟨g1, g2, g3, g4, g5⟩ := marks_len h0 ha.1
    obtain ⟨r, rfl⟩ := Int.eq_ofNat_of_zero_le g3
    have cV : countV zs r p q = (cnt (bit zs) p q : Nat) := by rw [countV, if_pos hE]; rfl
    have hle := cnt_le (bit zs) p q
    by_cases hF : spotE zs r (p + q : Int) k = 0
    · obtain ⟨_, f1, f2, f3, f4⟩ := spotE_zero hF
      obtain ⟨s, rfl⟩ := Int.eq_ofNat_of_zero_le f3
      have cW : countV zs r (p + q : Int) s = (cnt (bit zs) (p + q) s : Nat) := by rw [countV, if_pos hF]; rfl
      have hG : spotE zs r p (q + s : Int) = 0 := spotE_ok h0 (validB_iff.2 (by omega))
      have cX : countV zs r p (q + s : Int) = (cnt (bit zs) p q + cnt (bit zs) (p + q) s : Nat) := by
        rw [countV, if_pos hG, ← cnt_add]; rfl
      have hle2 := cnt_le (bit zs) (p + q) s
      go_enter Try.func7, Try.ntmps7
      go_wp2_with fail
      refine (marks_any _).mono ?_
      rintro e w1 ⟨rfl, hb1⟩
      have ha1 := ha.below hb1 (Nat.le_refl _)
      have HB := Lib.hid hb1
      clear ha hb1 h0
      go_wp2_with fail
      refine (Count_any A n c _ r p q zs _ hn hm ha' hi ha1).mono ?_
      rintro e w' ⟨rfl, rfl⟩
      rw [hE, cV]
      clear hE cV
      go_wp2_with fail
      refine (Count_any A n c _ r (p + q) s zs _ hn hm (wf_i64.2 (by omega)) hk ha1).mono ?_
      rintro e w' ⟨rfl, rfl⟩
      rw [hF, cW]
      clear hF cW
      go_wp2_with fail
      refine (Count_any A n c _ r p (q + s) zs _ hn hm ha' (wf_i64.2 (by omega)) ha1).mono ?_
      rintro e w' ⟨rfl, rfl⟩
      rw [hG, cX]
      clear hG cX ha1
      generalize cnt (bit zs) p q = X at *
      generalize cnt (bit zs) (p + q) s = Y at *
      have e1 : ((X : Int) + (Y : Int) == ((X + Y : Nat) : Int)) = true := by simp
      go_wp2
      go_ret
      exact ⟨rfl, HB.out⟩
    · have hb : (spotE zs r (p + q : Int) k != 0) = true := by simpa using hF
      have cW : countV zs r (p + q : Int) k = 0 := by rw [countV, if_neg hF]
      clear hF
      go_enter Try.func7, Try.ntmps7
      go_wp2_with fail
      refine (marks_any _).mono ?_
      rintro e w1 ⟨rfl, hb1⟩
      have ha1 := ha.below hb1 (Nat.le_refl _)
      have HB := Lib.hid hb1
      clear ha hb1 h0
      go_wp2_with fail
      refine (Count_any A n c _ r p q zs _ hn hm ha' hi ha1).mono ?_
      rintro e w' ⟨rfl, rfl⟩
      rw [hE, cV]
      clear hE cV
      go_wp2_with fail
      refine (Count_any A n c _ r (p + q) k zs _ hn hm (wf_i64.2 (by omega)) hk ha1).mono ?_
      rintro e w' ⟨rfl, rfl⟩
      rw [cW]
      clear cW ha1
      generalize cnt (bit zs) p q = X at *
      go_wp2
      go_ret
      exact ⟨rfl, HB.out⟩
  · have hb : (spotE zs m a i != 0) = true := by simpa using hE
    have cW : countV zs m a i = 0 := by rw [countV, if_neg hE]
    clear hE
    go_enter Try.func7, Try.ntmps7
    go_wp2_with fail
    refine (marks_any _).mono ?_
    rintro e w1 ⟨rfl, hb1⟩
    have ha1 := ha.below hb1 (Nat.le_refl _)
    have HB := Lib.hid hb1
    clear ha hb1
    go_wp2_with fail
    refine (Count_any A n c _ m a i zs _ hn hm ha' hi ha1).mono ?_
    rintro e w' ⟨rfl, rfl⟩
    rw [cW]
    clear cW ha1
    go_wp2
    go_ret
    exact ⟨rfl, HB.out⟩

set_option maxHeartbeats 1000000 in
theorem spotNext_walk (A : Option Addr) (n c : Nat) (m a k : Int) (on : Bool) (zs : List Int) (w : World) (hn : n ≤ maxLen) (hm : (Lit.int .i64 m).wf = true) (ha' : (Lit.int .i64 a).wf = true) (hk : (Lit.int .i64 k).wf = true) (ha : Arr .u64 w w.heap.size A n zs) :
    Calls Try.prog 6 #[.slice A n c, .int .i64 m, .int .i64 a, .int .i64 k, .bool on] w fun e w' => e = .returned (.bool true) ∧ Below w.heap.size w w' := by
  by_cases hE : spotE zs m a 0 = 0
  · obtain ⟨h0, h1, h2, _, _⟩ := spotE_zero hE
    obtain ⟨p, rfl⟩ := Int.eq_ofNat_of_zero_le h1
    obtain ⟨g1, g2, g3, g4, g5⟩ := marks_len h0 ha.1
    obtain ⟨r, rfl⟩ := Int.eq_ofNat_of_zero_le g3
    have cV : nextV zs r p on = (nextN zs on r p : Nat) := by rw [nextV, if_pos hE]; rfl
    have cB : nextB zs r p on = decide (nextN zs on r p < r) := by rw [nextB, if_pos hE]; rfl
    have hle := nextN_le (zs := zs) (on := on) (n := r) (a := p) (by omega)
    obtain ⟨t, ht⟩ : ∃ t, nextN zs on r p = t := ⟨_, rfl⟩
    rw [ht] at cV cB hle
    have hnone : ∀ j : Nat, p ≤ j → j < t → bit zs j ≠ on := fun j h1 h2 => nextN_none h1 (by rw [ht]; exact h2)
    have HN := Lib.hid hnone
    have HT : Hid (t < r → bit zs t = on) := by
      intro h
      have := nextN_hit (zs := zs) (on := on) (n := r) (a := p) (by omega) (by rw [ht]; exact h)
      rwa [ht] at this
    clear ht hnone
    go_enter Try.func6, Try.ntmps6
    go_wp2_with fail
    refine (marks_any _).mono ?_
    rintro e w1 ⟨rfl, hb1⟩
    have ha1 := ha.below hb1 (Nat.le_refl _)
    have HB := Lib.hid hb1
    clear ha hb1
    go_wp2_with fail
    refine (Next_any A n c _ r p on zs _ hn hm ha' ha1).mono ?_
    rintro e w' ⟨rfl, rfl⟩
    rw [hE, cV, cB]
    clear hE cV cB
    by_cases htr : t < r
    · have hF : spotE zs r t 1 = 0 := spotE_ok h0 (validB_iff.2 (by omega))
      have hv : hasV zs r t = on := by rw [hasV, if_pos hF]; exact HT.out htr
      have d0 : decide (t < r) = true := by simpa using htr
      have c0 : (on == on) = true := by simp
      rw [d0]
      go_wp2_with fail
      refine (Has_any A n c _ r t zs _ hn hm (wf_i64.2 (by omega)) ha1).mono ?_
      rintro e w' ⟨rfl, rfl⟩
      rw [hF, hv]
      clear hF hv h0 HT
      go_wp2_with fail
      refine (Has_any A n c _ r k zs _ hn hm hk ha1).mono ?_
      rintro e w' ⟨rfl, rfl⟩
      clear ha1
      by_cases hK : spotE zs r k 1 = 0
      · obtain ⟨_, k0, k1, _, k3⟩ := spotE_zero hK
        obtain ⟨j, rfl⟩ := Int.eq_ofNat_of_zero_le k0
        have e2 : hasV zs r j = bit zs j := by rw [hasV, if_pos hK]; rfl
        rw [e2, hK]
        clear e2 hK
        by_cases i1 : j < p
        · generalize bit zs j = X
          go_wp2
          go_ret
          exact ⟨rfl, HB.out⟩
        · by_cases i2 : t ≤ j
          · have d1 : decide (j < p) = false := by simpa using i1
            generalize bit zs j = X
            go_wp2
            go_ret
            exact ⟨rfl, HB.out⟩
          · have hne := HN.out j (by omega) (by omega)
            have d1 : decide (j < p) = false := by simpa using i1
            have d2 : decide (t ≤ j) = false := by simpa using i2
            have d3 : (bit zs j == on) = false := by simpa using hne
            generalize bit zs j = X at *
            clear hne
            go_wp2
            go_ret
            exact ⟨rfl, HB.out⟩
      · have d1 : (spotE zs r k 1 != 0) = true := by simpa using hK
        have e2 : hasV zs r k = false := by rw [hasV, if_neg hK]
        rw [e2]
        clear e2 hK
        go_wp2
        go_ret
        exact ⟨rfl, HB.out⟩
    · have d0 : decide (t < r) = false := by simpa using htr
      rw [d0]
      clear HT h0
      go_wp2_with fail
      refine (Has_any A n c _ r t zs _ hn hm (wf_i64.2 (by omega)) ha1).mono ?_
      rintro e w' ⟨rfl, rfl⟩
      generalize hasV zs r t = U
      generalize spotE zs r t 1 = V
      go_wp2_with fail
      refine (Has_any A n c _ r k zs _ hn hm hk ha1).mono ?_
      rintro e w' ⟨rfl, rfl⟩
      clear ha1
      by_cases hK : spotE zs r k 1 = 0
      · obtain ⟨_, k0, k1, _, k3⟩ := spotE_zero hK
        obtain ⟨j, rfl⟩ := Int.eq_ofNat_of_zero_le k0
        have e2 : hasV zs r j = bit zs j := by rw [hasV, if_pos hK]; rfl
        rw [e2, hK]
        clear e2 hK
        by_cases i1 : j < p
        · generalize bit zs j = X
          go_wp2
          go_ret
          exact ⟨rfl, HB.out⟩
        · by_cases i2 : t ≤ j
          · have d1 : decide (j < p) = false := by simpa using i1
            generalize bit zs j = X
            go_wp2
            go_ret
            exact ⟨rfl, HB.out⟩
          · have hne := HN.out j (by omega) (by omega)
            have d1 : decide (j < p) = false := by simpa using i1
            have d2 : decide (t ≤ j) = false := by simpa using i2
            have d3 : (bit zs j == on) = false := by simpa using hne
            generalize bit zs j = X at *
            clear hne
            go_wp2
            go_ret
            exact ⟨rfl, HB.out⟩
      · have d1 : (spotE zs r k 1 != 0) = true := by simpa using hK
        have e2 : hasV zs r k = false := by rw [hasV, if_neg hK]
        rw [e2]
        clear e2 hK
        go_wp2
        go_ret
        exact ⟨rfl, HB.out⟩
  · have hb : (spotE zs m a 0 != 0) = true := by simpa using hE
    have cV : nextV zs m a on = 0 := by rw [nextV, if_neg hE]
    have cB : nextB zs m a on = false := by rw [nextB, if_neg hE]
    clear hE
    go_enter Try.func6, Try.ntmps6
    go_wp2_with fail
    refine (marks_any _).mono ?_
    rintro e w1 ⟨rfl, hb1⟩
    have ha1 := ha.below hb1 (Nat.le_refl _)
    have HB := Lib.hid hb1
    clear ha hb1
    go_wp2_with fail
    refine (Next_any A n c _ m a on zs _ hn hm ha' ha1).mono ?_
    rintro e w' ⟨rfl, rfl⟩
    rw [cV, cB]
    clear cV cB ha1
    go_wp2
    go_ret
    exact ⟨rfl, HB.out⟩
end Go.Proofs.Ytcdlgohhjnpbmaa
