/-
  The walk of WalkTiles: whatever the argument and the memory, the call returns true and changes nothing that was there.
-/
import Derived.Test.YtkhiofnihgichaaWalkB
import Derived.Test.YtkhiofnihgichaaSpots
namespace Go.Proofs.Ytkhiofnihgichaa
open Go.RowKit

theorem small_spots : spErr [1, 1] = 0 ∧ spList [1, 1] = [((0 : Int), (1 : Int), (0 : Int), (0 : Int), false)] := by
  have e0 : nth [1, 1] 0 = 1 := rfl
  have el : sLong 1 = 2 := by decide
  have hs : stepOk [1, 1] 0 = true := by rw [stepOk_iff, e0, el]; exact ⟨by decide, by decide⟩
  have hb := begins_step (zs := [1, 1]) (a := 0) (by decide) hs
  have hf := fine_step (zs := [1, 1]) (a := 0) (by decide) hs
  rw [e0, el, begins_end (a := 0 + 2) (by decide)] at hb
  rw [e0, el, fine_end (a := 0 + 2) (by decide)] at hf
  have he := spErr_ok (zs := [1, 1]) (by decide) hf
  refine ⟨he, ?_⟩
  rw [spList_ok he, hb]
  decide

set_option maxHeartbeats 400000 in
theorem small_any (w : World) : Calls Try.prog 47 #[] w fun e w' => e = .returned (.slice (some ⟨w.heap.size, 0, none⟩) 2 2) ∧ w' = w.alloc (.cells (([1, 1] : List Int).map (Value.int .u64)).toArray 47) := by
  go_enter Try.func47, Try.ntmps47
  go_wp2
  go_ret
  exact ⟨rfl, rfl⟩

set_option maxHeartbeats 400000 in
theorem walks_any (w : World) : Calls Try.prog 20 #[] w fun e w' => e = .returned (.bool true) ∧ Below w.heap.size w w' := by
  have hW := whole_new .u64 47 w [1, 1] (by decide)
  have HA := Lib.hid (hW.arr (B := (w.alloc (.cells (([1, 1] : List Int).map (Value.int .u64)).toArray 47)).heap.size) hW.lt)
  have HB0 := Lib.hid ((Below.refl _ w).alloc (Nat.le_refl _) (.cells (([1, 1] : List Int).map (Value.int .u64)).toArray 47))
  obtain ⟨e1, e2⟩ := small_spots
  have HS := Lib.hid e1
  have HT := Lib.hid e2
  clear hW e1 e2
  go_enter Try.func20, Try.ntmps20
  go_wp2_with fail
  refine (small_any w).mono ?_
  rintro e w1 ⟨rfl, rfl⟩
  go_wp2_with fail
  refine (Spots_any _ 2 2 [1, 1] _ (by unfold maxLen; omega) HA.out).mono ?_
  rintro e w' ⟨A, c, rfl, hb, hc, hA, _⟩
  rw [HS.out]
  rw [HT.out] at hA hc ⊢
  obtain ⟨b, off, rfl, _, c0, c1, c2, c3, c4⟩ := hA.spot (j := 0) (by decide)
  have HB := Lib.hid hb
  clear hb hA
  have c1 : w'.cell? ⟨b, off + 1, none⟩ = some (.int .i64 1) := c1
  clear c0 c2 c3 c4
  go_wp2
  go_ret
  exact ⟨rfl, (HB0.out).trans (HB.out.mono (HB0.out.size))⟩

set_option maxHeartbeats 1000000 in
theorem tiles_walk (A : Option Addr) (n c : Nat) (zs : List Int) (w : World) (hn : n ≤ maxLen) (ha : Arr .u64 w w.heap.size A n zs) :
    Calls Try.prog 5 #[.slice A n c] w fun e w' => e = .returned (.bool true) ∧ Below w.heap.size w w' := by
  have HN := Lib.hid hn
  unfold maxLen at hn
  have hl := ha.1
  by_cases hE : spErr zs = 0
  · obtain ⟨h256, hfine⟩ := spErr_zero hE
    have hL := spList_ok hE
    have hlen : (spList zs).length = (begins zs 0).length := by rw [hL]; simp
    have hbl := begins_len (zs := zs) (a := 0)
    obtain ⟨m, hm⟩ : ∃ m, (spList zs).length = m := ⟨_, rfl⟩
    have HE := Lib.hid hE
    have HL := Lib.hid hL
    have HF := Lib.hid hfine
    have HA := Lib.hid ha
    clear hE hL hfine ha
    go_enter Try.func5, Try.ntmps5
    go_wp2_with fail
    refine (walks_any w).mono ?_
    rintro e w1 ⟨rfl, b1⟩
    have HB1 := Lib.hid b1
    have HA1 := Lib.hid ((HA.out.below b1 (Nat.le_refl _)).more b1.size)
    clear b1
    go_wp2_with fail
    refine (Spots_any A n c zs _ HN.out HA1.out).mono ?_
    rintro e w2 ⟨A2, c2, rfl, b2, hc2, hA2, _⟩
    rw [HE.out]
    rw [hm] at hA2 hc2 ⊢
    have HB2 := Lib.hid (HB1.out.trans (b2.mono HB1.out.size))
    have H2 := Lib.hid hA2
    clear b2 hA2
    go_wp2_with fail
    go_loopw [5, 24] (fun v i wr => ∃ (k a : Nat), k ≤ m ∧ i = .int .i64 k ∧ a ≤ n ∧ v = .int .i64 a ∧ Hid ((begins zs 0).drop k = begins zs a) ∧ Hid (fine zs a = true) ∧ Hid (Below w2.heap.size w2 wr)) (fun _ i _ => m - (intOf i).toNat)
    case atStart => exact ⟨0, 0, by omega, rfl, by omega, rfl, rfl, HF, Below.refl _ _⟩
    case round =>
      obtain ⟨k, a, hk, rfl, haq, rfl, hd, hf, hB⟩ := hrel
      by_cases hlt : k < m
      · obtain ⟨e1, e2, e3, e4, e5⟩ := begins_drop hd.out hf.out (by omega)
        obtain ⟨b, off, rfl, _, c0, c1, c2, c3, c4⟩ := (H2.out.below hB.out (Nat.le_refl _)).spot hlt
        have hs : nthG (spList zs) k = spOf zs a := by rw [HL.out, nthG_map _ _ _ (by omega), e1]
        rw [hs] at c0 c1 c2 c3 c4
        obtain ⟨hv, hfit⟩ := stepOk_iff.1 e3
        have hwf := HA.out.2.1 (nth zs a) (by rw [nth_get _ _ (by omega)]; exact List.getElem_mem _)
        rw [wf_u64] at hwf
        obtain ⟨f1, f2, f3, f4, f5, f6, f7⟩ := head_fields hwf.1 hv
        have hlong := sLong_int hwf.1 hv
        have hpos := sLong_pos (nth zs a)
        unfold spOf at c0 c1 c2 c3 c4
        simp only at c0 c1 c2 c3 c4
        have HC := Lib.hid (fun w => lengthOk (vR (nth zs a)) (vB (nth zs a)) (vT (nth zs a)) (vF (nth zs a)) w f7)
        obtain ⟨L, hL⟩ : ∃ L, sLong (nth zs a) = L := ⟨_, rfl⟩
        rw [hL] at hfit hlong e4 e5 hpos
        generalize vR (nth zs a) = R at *
        generalize vB (nth zs a) = Bd at *
        generalize vT (nth zs a) = T at *
        generalize vF (nth zs a) = F at *
        have E4 := Lib.hid e4
        have E5 := Lib.hid e5
        clear e4 e5 hs hv e1 e3 hwf hd hf f7 f6 hL
        go_wp2_with fail
        refine (HC.out _).mono ?_
        rintro e w3 ⟨rfl, b3⟩
        obtain ⟨bx, b3⟩ := boxed_call b3
        have d0 := bx.cell 0
        have HB3 := Lib.hid (hB.out.trans (b3.mono hB.out.size))
        clear b3 bx hB
        simp at d0
        go_wp2
        go_roundw
        case rel => exact ⟨k + 1, a + L, by omega, by go_num, by omega, by rw [show ((a : Int) + (1 + R + Bd)) = ((a + L : Nat) : Int) by omega], E4.out, E5.out, HB3.out⟩
        case measure => simp [intOf]; omega
      · have hk' : k = m := by omega
        have h0 : begins zs a = [] := by rw [← hd.out]; exact List.drop_eq_nil_of_le (by omega)
        have := begins_nil h0 hf.out
        obtain rfl : a = n := by omega
        have HB3 := Lib.hid (HB2.out.trans (hB.out.mono HB2.out.size))
        clear hB h0 hd hf
        go_wp2
        go_ret
        exact ⟨rfl, HB3.out⟩
  · have hL := spList_bad hE
    have hb : (spErr zs != 0) = true := by simpa using hE
    have HA := Lib.hid ha
    clear ha hE
    go_enter Try.func5, Try.ntmps5
    go_wp2_with fail
    refine (walks_any w).mono ?_
    rintro e w1 ⟨rfl, b1⟩
    have HB1 := Lib.hid b1
    have HA1 := Lib.hid ((HA.out.below b1 (Nat.le_refl _)).more b1.size)
    clear b1
    go_wp2_with fail
    refine (Spots_any A n c zs _ HN.out HA1.out).mono ?_
    rintro e w2 ⟨A2, c2, rfl, b2, hc2, hA2, _⟩
    rw [hL]
    have HB2 := Lib.hid (HB1.out.trans (b2.mono HB1.out.size))
    clear b2 hA2
    go_wp2
    go_ret
    exact ⟨rfl, HB2.out⟩
end Go.Proofs.Ytkhiofnihgichaa
