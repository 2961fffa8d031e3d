/-
  Contracts of the reference's Place, In, Begins, HeadAt, Named, ArenaFault.
-/
import Derived.Test.YtcdlgohhjnpbmaaRefM
import Derived.Test.YtcdlgohhjnpbmaaRefSpots
namespace Go.Proofs.Ytcdlgohhjnpbmaa
open Go.RowKit

theorem int_info : (Try.prog.info? 3).map (fun i => (i.zero, i.size, i.bytes)) = some (some (.int .i64 0), 1, 8) := by kernel_rfl

set_option maxHeartbeats 400000 in
theorem place_any (A : Option Addr) (n c B : Nat) (x : Int) (xs : List Int) (w : World) (hn : n ≤ maxLen) (ha : Arr .i64 w B A n xs) :
    Calls Try.prog 91 #[.slice A n c, .int .i64 x] w fun e w' => (∃ r, e = .returned (.int .i64 r) ∧ PlaceP xs x r) ∧ w = w' := by
  unfold maxLen at hn
  have hl := ha.1
  have HA := Lib.hid ha
  clear ha
  go_enter Try.func91, Try.ntmps91
  go_wp2
  go_loopw [9] (fun i wr => ∃ k : Nat, k ≤ n ∧ i = .int .i64 k ∧ Hid (∀ j, j < k → nth xs j ≠ x) ∧ w = wr) (fun i _ => n - (intOf i).toNat)
  case atStart => exact ⟨0, Nat.zero_le _, rfl, (fun j hj => absurd hj (by omega)), rfl⟩
  case round =>
    obtain ⟨k, hk, rfl, HE, rfl⟩ := hrel
    by_cases hlt : k < n
    · obtain ⟨b, off, rfl, _, hcs⟩ := HA.out.2.2 (by omega)
      have hc := hcs k hlt
      clear hcs
      by_cases he : nth xs k = x
      · have HQ := Lib.hid he
        rw [he] at hc
        have hb : (x == x) = true := by simp
        clear he
        go_wp2
        go_ret
        exact ⟨⟨_, rfl, .inl ⟨k, rfl, by omega, HQ.out⟩⟩, rfl⟩
      · have HQ := Lib.hid he
        have hb : (nth xs k == x) = false := by simpa using he
        have HEn : Hid (∀ j, j < k + 1 → nth xs j ≠ x) := fun j hj => by
          rcases Nat.lt_succ_iff_lt_or_eq.1 hj with h | h
          · exact HE.out j h
          · rw [h]; exact HQ.out
        clear he HQ
        generalize nth xs k = X at hb hc
        go_wp2
        go_roundw
        case rel => exact ⟨k + 1, by omega, by go_num, HEn, by trivial⟩
        case measure => simp [intOf]; omega
    · obtain rfl : k = n := by omega
      go_wp2
      go_ret
      exact ⟨⟨_, rfl, .inr ⟨rfl, by rw [hl]; exact HE.out⟩⟩, rfl⟩

set_option maxHeartbeats 400000 in
theorem in_ref (A : Option Addr) (n c B : Nat) (x : Int) (xs : List Int) (w : World) (hn : n ≤ maxLen) (ha : Arr .i64 w B A n xs) :
    Calls Try.prog 64 #[.slice A n c, .int .i64 x] w fun e w' => e = .returned (.bool (decide (x ∈ xs))) ∧ w = w' := by
  have HP := Lib.hid (place_any A n c B x xs w hn ha)
  clear ha
  go_enter Try.func64, Try.ntmps64
  go_wp2_with fail
  refine HP.out.mono ?_
  rintro e w' ⟨⟨r, rfl, hr⟩, rfl⟩
  have HR : Hid (decide (0 ≤ r) = decide (x ∈ xs)) := by
    show _ = _
    rcases hr with ⟨k, rfl, hk, he⟩ | ⟨rfl, hno⟩
    · have : x ∈ xs := by rw [← he, nth_get _ _ hk]; exact List.getElem_mem _
      simp [this]
    · have : ¬ x ∈ xs := fun h => by
        obtain ⟨i, hi, rfl⟩ := List.getElem_of_mem h
        exact hno i hi (nth_get _ _ hi)
      simp [this]
  clear hr HP
  go_wp2
  go_ret
  exact ⟨by rw [← HR.out]; rfl, rfl⟩

/-- The first 'k' of the objects that are not free. -/
def livesTo (zs : List Int) (k : Nat) : List Int := (((begins zs 0).take k).filter (isLive zs)).map (fun s : Nat => (s : Int))
theorem take_st {zs : List Int} {k : Nat} (hk : k < (begins zs 0).length) : (begins zs 0).take (k + 1) = (begins zs 0).take k ++ [st zs k] := by
  unfold st
  rw [nthG_get _ _ hk, List.take_succ_eq_append_getElem]
theorem livesTo_free {zs : List Int} {k : Nat} (hk : k < (begins zs 0).length) (hf : vF (nth zs (st zs k)) = true) : livesTo zs (k + 1) = livesTo zs k := by
  unfold livesTo
  rw [take_st hk, List.filter_append]
  simp [isLive, hf]
theorem livesTo_live {zs : List Int} {k : Nat} (hk : k < (begins zs 0).length) (hf : vF (nth zs (st zs k)) = false) : livesTo zs (k + 1) = livesTo zs k ++ [(st zs k : Int)] := by
  unfold livesTo
  rw [take_st hk, List.filter_append]
  simp [isLive, hf]
theorem livesTo_all {zs : List Int} : livesTo zs (begins zs 0).length = livesI zs := by unfold livesTo livesI; rw [List.take_length]
theorem livesTo_len {zs : List Int} (k : Nat) : (livesTo zs k).length ≤ k := by
  unfold livesTo
  rw [List.length_map]
  exact Nat.le_trans (List.length_filter_le _ _) (by simp; omega)

set_option maxHeartbeats 1000000 in
theorem begins_any (A : Option Addr) (n c : Nat) (zs : List Int) (w : World) (ha : Arr .u64 w w.heap.size A n zs) (h : spErr zs = 0) :
    Calls Try.prog 63 #[.slice A n c] w fun e w' => ∃ A' c', e = .returned (.slice A' (livesI zs).length c') ∧ Below w.heap.size w w' ∧ Arr .i64 w' w'.heap.size A' (livesI zs).length (livesI zs) := by
  obtain ⟨h256, hfine⟩ := spErr_zero h
  have hl := ha.1
  have hL := spList_ok h
  have hbl := begins_len (zs := zs) (a := 0)
  have hlen : (spList zs).length = (begins zs 0).length := by rw [hL]; simp
  obtain ⟨m, hm⟩ : ∃ m, (begins zs 0).length = m := ⟨_, rfl⟩
  rw [hm] at hlen hbl
  have hspot : ∀ k, k < m → nthG (spList zs) k = spOf zs (st zs k) ∧ st zs k < n := fun k hk => by
    have h1 := begins_mem (st_mem (zs := zs) (k := k) (by omega))
    exact ⟨by rw [hL, nthG_map _ _ _ (by omega)]; rfl, by omega⟩
  have HS := Lib.hid hspot
  have HM := Lib.hid hm
  have HC := Lib.hid (SpotsOf_any A n c zs w (by unfold maxLen; omega) ha)
  have HLN := Lib.hid hlen
  clear ha h hfine hL hspot hm hlen
  go_enter Try.func63, Try.ntmps63
  go_wp2_with fail
  refine HC.out.mono ?_
  rintro e w1 ⟨A2, c2, rfl, b1, hc2, hA2, _⟩
  rw [HLN.out] at hA2 hc2 ⊢
  have HB1 := Lib.hid b1
  have HA2 := Lib.hid hA2
  clear b1 hA2 hc2 HC
  go_wp2_with fail
  go_loopw [5, 15] (fun v i wr => ∃ k : Nat, k ≤ m ∧ i = .int .i64 k ∧ Hid (Own .i64 3 wr w1.heap.size v (livesTo zs k)) ∧ Hid (Below w1.heap.size w1 wr)) (fun _ i _ => m - (intOf i).toNat)
  case atStart => exact ⟨0, by omega, rfl, Own.nil, Below.refl _ _⟩
  case round =>
    obtain ⟨k, hk, rfl, hO, hB⟩ := hrel
    by_cases hlt : k < m
    · obtain ⟨hs, hsn⟩ := HS.out k hlt
      obtain ⟨b, off, rfl, _, q0, q1, q2, q3, q4⟩ := (HA2.out.below hB.out (Nat.le_refl _)).spot hlt
      rw [hs] at q0 q1 q2 q3 q4
      unfold spOf at q0 q1 q2 q3 q4
      simp only at q0 q1 q2 q3 q4
      have hba := (Below.refl _ wr).alloc (Nat.le_refl _) (.cells #[.int .i64 (st zs k), .int .i64 (vR (nth zs (st zs k))), .int .i64 (vB (nth zs (st zs k))), .int .i64 (vT (nth zs (st zs k))), .bool (vF (nth zs (st zs k)))] 112)
      cases hf : vF (nth zs (st zs k))
      · rw [hf] at q4 hba
        have hO1 := hO.out.below hba
        have hB1 := hB.out.trans (hba.mono hB.out.size)
        obtain ⟨v', w4, hrun, hO', hB'⟩ := hO1.push (P := Try.prog) (t := 54) (ty := 54) Try.underlying54 int_info (by omega) (x := (st zs k : Int)) (wf_i64.2 (by omega)) (by have := livesTo_len (zs := zs) k; omega) hB1.size
        rw [← livesTo_live (by rw [HM.out]; exact hlt) hf] at hO'
        rw [show (wr.alloc (.cells #[.int .i64 (st zs k), .int .i64 (vR (nth zs (st zs k))), .int .i64 (vB (nth zs (st zs k))), .int .i64 (vT (nth zs (st zs k))), .bool false] 112)).heap.size = wr.heap.size + 1 by simp] at hrun
        have HR := Lib.hid hrun
        have HO := Lib.hid hO'
        have HB := Lib.hid (hB1.trans hB')
        clear hba hO1 hB1 hrun hO' hB' hs hf hO hB
        generalize vR (nth zs (st zs k)) = R at *
        generalize vB (nth zs (st zs k)) = Bd at *
        generalize vT (nth zs (st zs k)) = T at *
        generalize st zs k = s at *
        go_wp2_with (at_builtin; refine wpList_append_run rfl (.tmp 23) (.tmp 26) 54 rfl rfl rfl HR.out ?_)
        go_roundw
        case rel => exact ⟨k + 1, by omega, by go_num, HO.out, HB.out⟩
        case measure => simp [intOf]; omega
      · rw [hf] at q4 hba
        have HO := Lib.hid (hO.out.below hba)
        have HB := Lib.hid (hB.out.trans (hba.mono hB.out.size))
        rw [← livesTo_free (by rw [HM.out]; exact hlt) hf] at HO
        clear hba hs hf hO hB
        generalize vR (nth zs (st zs k)) = R at *
        generalize vB (nth zs (st zs k)) = Bd at *
        generalize vT (nth zs (st zs k)) = T at *
        generalize st zs k = s at *
        go_wp2
        go_roundw
        case rel => exact ⟨k + 1, by omega, by go_num, HO.out, HB.out⟩
        case measure => simp [intOf]; omega
    · obtain rfl : k = m := by omega
      have hO1 := hO.out
      rw [← HM.out, livesTo_all] at hO1
      obtain ⟨A3, c3, rfl, _, hA3⟩ := hO1.arr
      have HA3 := Lib.hid hA3
      have HB := Lib.hid (HB1.out.trans (hB.out.mono HB1.out.size))
      clear hO1 hA3 hO hB
      go_wp2
      go_ret
      exact ⟨_, _, rfl, HB.out, HA3.out⟩
end Go.Proofs.Ytcdlgohhjnpbmaa
