/-
  Contracts of the reference's HeadAt, Named, ArenaFault.
-/
import Derived.Test.YtcdlgohhjnpbmaaRefRefs
import Derived.Test.YtcdlgohhjnpbmaaObjOwn
import Derived.Test.YtcdlgohhjnpbmaaRead2
namespace Go.Proofs.Ytcdlgohhjnpbmaa
open Go.RowKit

/-- What HeadAt answers of an arena whose objects fill it. -/
def HeadAtP (zs : List Int) (a : Int) (w : World) (e : Ending) (w' : World) : Prop := Below w.heap.size w w' ∧
  ((∃ j, j < (begins zs 0).length ∧ a = st zs j ∧ vF (nth zs (st zs j)) = false ∧ e = .returned (.tuple #[.agg #[.int .i64 (vR (nth zs (st zs j))), .int .i64 (vB (nth zs (st zs j))), .int .i64 (vT (nth zs (st zs j))), .bool false], .bool true])) ∨
   ((∀ j, j < (begins zs 0).length → a = st zs j → vF (nth zs (st zs j)) = true) ∧ e = .returned (.tuple #[.agg #[.int .i64 0, .int .i64 0, .int .i64 0, .bool false], .bool false])))

set_option maxRecDepth 8000 in
set_option maxHeartbeats 1000000 in
theorem headAt_any (A : Option Addr) (n c : Nat) (a : Int) (zs : List Int) (w : World) (ha : Arr .u64 w w.heap.size A n zs) (h : spErr zs = 0) :
    Calls Try.prog 67 #[.slice A n c, .int .i64 a] w (HeadAtP zs a w) := by
  obtain ⟨h256, hfine⟩ := spErr_zero h
  have hl := ha.1
  have hL := spList_ok h
  have hbl := begins_len (zs := zs) (a := 0)
  have hlen : (spList zs).length = (begins zs 0).length := by rw [hL]; simp
  obtain ⟨m, hm⟩ : ∃ m, (begins zs 0).length = m := ⟨_, rfl⟩
  rw [hm] at hlen hbl
  have hspot : ∀ k, k < m → nthG (spList zs) k = spOf zs (st zs k) := fun k hk => by rw [hL, nthG_map _ _ _ (by omega)]; rfl
  have HS := Lib.hid hspot
  have HM := Lib.hid hm
  have b0 := (Below.refl _ w).alloc (Nat.le_refl _) (.cells #[.int .i64 0, .int .i64 0, .int .i64 0, .bool false] 96)
  have HC := Lib.hid (SpotsOf_any A n c zs _ (by unfold maxLen; omega) ((ha.below b0 (Nat.le_refl _)).more b0.size))
  have HLN := Lib.hid hlen
  clear ha h hfine hL hspot hm hlen b0
  go_enter Try.func67, Try.ntmps67
  go_wp2_with fail
  refine HC.out.mono ?_
  rintro e w1 ⟨A2, c2, rfl, b1, hc2, hA2, _⟩
  rw [HLN.out] at hA2 hc2 ⊢
  obtain ⟨bx, b1⟩ := boxed_call b1
  have BX := Lib.hid bx
  have HB1 := Lib.hid b1
  have HA2 := Lib.hid hA2
  clear b1 hA2 hc2 HC bx
  go_wp2_with fail
  go_loopw [17] (fun i wr => ∃ k : Nat, k ≤ m ∧ i = .int .i64 k ∧ Hid (∀ j, j < k → a = st zs j → vF (nth zs (st zs j)) = true) ∧ Hid (Below w1.heap.size w1 wr)) (fun i _ => m - (intOf i).toNat)
  case atStart => exact ⟨0, by omega, rfl, (fun j hj => absurd hj (by omega)), Below.refl _ _⟩
  case round =>
    obtain ⟨k, hk, rfl, HP, hB⟩ := hrel
    by_cases hlt : k < m
    · have hs := HS.out k hlt
      obtain ⟨b, off, rfl, _, q0, q1, q2, q3, q4⟩ := (HA2.out.below hB.out (Nat.le_refl _)).spot hlt
      rw [hs] at q0 q1 q2 q3 q4
      unfold spOf at q0 q1 q2 q3 q4
      simp only at q0 q1 q2 q3 q4
      have HB := Lib.hid (hB.out.alloc hB.out.size (.cells #[.int .i64 (st zs k), .int .i64 (vR (nth zs (st zs k))), .int .i64 (vB (nth zs (st zs k))), .int .i64 (vT (nth zs (st zs k))), .bool (vF (nth zs (st zs k)))] 112))
      have HPn : Hid (a = st zs k → vF (nth zs (st zs k)) = true → True) := Lib.hid fun _ _ => trivial
      clear hs hB
      by_cases heq : (st zs k : Int) = a
      · have hbq : ((st zs k : Int) == a) = true := by simpa using heq
        cases hf : vF (nth zs (st zs k))
        · rw [hf] at q4 HB
          have HF := Lib.hid hf
          have HQ := Lib.hid heq
          have bx2 := BX.out.below HB.out BX.out.lt
          have BX2 := Lib.hid bx2
          clear hf heq
          obtain ⟨s, hse⟩ : ∃ s, st zs k = s := ⟨_, rfl⟩
          have HSE := Lib.hid hse
          rw [hse] at q0 q1 q2 q3 HB BX2 bx2 HF HQ hbq
          clear hse
          obtain ⟨R, hR⟩ : ∃ x, vR (nth zs s) = x := ⟨_, rfl⟩
          obtain ⟨Bd, hBd⟩ : ∃ x, vB (nth zs s) = x := ⟨_, rfl⟩
          obtain ⟨T, hT⟩ : ∃ x, vT (nth zs s) = x := ⟨_, rfl⟩
          rw [hR, hBd, hT] at HB BX2 bx2
          rw [hR] at q1
          rw [hBd] at q2
          rw [hT] at q3
          have HV : Hid (vR (nth zs s) = R ∧ vB (nth zs s) = Bd ∧ vT (nth zs s) = T) := ⟨hR, hBd, hT⟩
          clear hR hBd hT
          have d0 := bx2.cell 0
          have d1 := bx2.cell 1
          have d2 := bx2.cell 2
          have d3 := bx2.cell 3
          have s0 := bx2.soft 0
          have s1 := bx2.soft 1
          have s2 := bx2.soft 2
          have s3 := bx2.soft 3
          clear bx2
          rw [show (#[.int .i64 0, .int .i64 0, .int .i64 0, .bool false] : Array Value)[0]? = some (.int .i64 0) from rfl] at d0
          rw [show (#[.int .i64 0, .int .i64 0, .int .i64 0, .bool false] : Array Value)[1]? = some (.int .i64 0) from rfl] at d1
          rw [show (#[.int .i64 0, .int .i64 0, .int .i64 0, .bool false] : Array Value)[2]? = some (.int .i64 0) from rfl] at d2
          rw [show (#[.int .i64 0, .int .i64 0, .int .i64 0, .bool false] : Array Value)[3]? = some (.bool false) from rfl] at d3
          go_wp2
          generalize (wr.alloc (.cells #[.int .i64 s, .int .i64 R, .int .i64 Bd, .int .i64 T, .bool false] 112)) = W at *
          have BY := (BX2.out).set4 (.int .i64 R) (.int .i64 Bd) (.int .i64 T) (.bool false)
          have BB := below_set4 (HB1.out.trans (HB.out.mono HB1.out.size)) (g := w.heap.size) (by omega) 0 1 2 3 (.int .i64 R) (.int .i64 Bd) (.int .i64 T) (.bool false)
          generalize ((((W.setCell ⟨w.heap.size, 0, none⟩ (.int .i64 R)).setCell ⟨w.heap.size, 1, none⟩ (.int .i64 Bd)).setCell ⟨w.heap.size, 2, none⟩ (.int .i64 T)).setCell ⟨w.heap.size, 3, none⟩ (.bool false)) = W9 at *
          have x0 : W9.cell? ⟨w.heap.size, 0, none⟩ = some (.int .i64 R) := BY.cell 0
          have x1 : W9.cell? ⟨w.heap.size, 1, none⟩ = some (.int .i64 Bd) := BY.cell 1
          have x2 : W9.cell? ⟨w.heap.size, 2, none⟩ = some (.int .i64 T) := BY.cell 2
          have x3 : W9.cell? ⟨w.heap.size, 3, none⟩ = some (.bool false) := BY.cell 3
          refine bodyPost_ret (v := .tuple #[.agg #[.int .i64 R, .int .i64 Bd, .int .i64 T, .bool false], .bool true]) (by simp [results, Try.results67, go_sem, x0, x1, x2, x3]) rfl ⟨BB, .inl ⟨k, by rw [HM.out]; exact hlt, by rw [HSE.out]; exact HQ.out.symm, by rw [HSE.out]; exact HF.out, by rw [HSE.out, HV.out.1, HV.out.2.1, HV.out.2.2]⟩⟩
        · have HPn2 : Hid (∀ j, j < k + 1 → a = st zs j → vF (nth zs (st zs j)) = true) := fun j hj ha => by
            rcases Nat.lt_succ_iff_lt_or_eq.1 hj with h | h
            · exact HP.out j h ha
            · rw [h]; exact hf
          rw [hf] at q4 HB
          clear hf heq
          generalize vR (nth zs (st zs k)) = R at *
          generalize vB (nth zs (st zs k)) = Bd at *
          generalize vT (nth zs (st zs k)) = T at *
          generalize st zs k = s at q0 hbq HB
          go_wp2
          go_roundw
          case rel => exact ⟨k + 1, by omega, by go_num, HPn2, HB⟩
          case measure => simp [intOf]; omega
      · have hbq : ((st zs k : Int) == a) = false := by simpa using heq
        have HPn2 : Hid (∀ j, j < k + 1 → a = st zs j → vF (nth zs (st zs j)) = true) := fun j hj ha => by
          rcases Nat.lt_succ_iff_lt_or_eq.1 hj with h | h
          · exact HP.out j h ha
          · subst h; exact absurd ha.symm heq
        clear heq
        generalize vR (nth zs (st zs k)) = R at *
        generalize vB (nth zs (st zs k)) = Bd at *
        generalize vT (nth zs (st zs k)) = T at *
        generalize vF (nth zs (st zs k)) = F at q4 HB
        generalize st zs k = s at q0 hbq HB
        go_wp2
        go_roundw
        case rel => exact ⟨k + 1, by omega, by go_num, HPn2, HB⟩
        case measure => simp [intOf]; omega
    · obtain rfl : k = m := by omega
      have bx2 := BX.out.below hB.out BX.out.lt
      have d0 : wr.cell? ⟨w.heap.size, 0, none⟩ = some (.int .i64 0) := bx2.cell 0
      have d1 : wr.cell? ⟨w.heap.size, 1, none⟩ = some (.int .i64 0) := bx2.cell 1
      have d2 : wr.cell? ⟨w.heap.size, 2, none⟩ = some (.int .i64 0) := bx2.cell 2
      have d3 : wr.cell? ⟨w.heap.size, 3, none⟩ = some (.bool false) := bx2.cell 3
      have s0 := bx2.soft 0
      have s1 := bx2.soft 1
      have s2 := bx2.soft 2
      have s3 := bx2.soft 3
      have BX2 := Lib.hid bx2
      clear bx2
      go_wp2
      have BY := (BX2.out).set4 (.int .i64 0) (.int .i64 0) (.int .i64 0) (.bool false)
      have BB := below_set4 (HB1.out.trans (hB.out.mono HB1.out.size)) (g := w.heap.size) (by omega) 0 1 2 3 (.int .i64 0) (.int .i64 0) (.int .i64 0) (.bool false)
      generalize ((((wr.setCell ⟨w.heap.size, 0, none⟩ (.int .i64 0)).setCell ⟨w.heap.size, 1, none⟩ (.int .i64 0)).setCell ⟨w.heap.size, 2, none⟩ (.int .i64 0)).setCell ⟨w.heap.size, 3, none⟩ (.bool false)) = W9 at *
      have x0 : W9.cell? ⟨w.heap.size, 0, none⟩ = some (.int .i64 0) := BY.cell 0
      have x1 : W9.cell? ⟨w.heap.size, 1, none⟩ = some (.int .i64 0) := BY.cell 1
      have x2 : W9.cell? ⟨w.heap.size, 2, none⟩ = some (.int .i64 0) := BY.cell 2
      have x3 : W9.cell? ⟨w.heap.size, 3, none⟩ = some (.bool false) := BY.cell 3
      refine bodyPost_ret (v := .tuple #[.agg #[.int .i64 0, .int .i64 0, .int .i64 0, .bool false], .bool false]) (by simp [results, Try.results67, go_sem, x0, x1, x2, x3]) rfl ⟨BB, .inr ⟨by rw [HM.out]; exact HP.out, rfl⟩⟩

theorem nm_wf {v : Int} (hv : 0 ≤ v) : (Lit.int .i64 (nm v)).wf = true := wf_i64.2 (by unfold nm; split <;> omega)

set_option maxRecDepth 8000 in
set_option maxHeartbeats 1000000 in
theorem named_any (A : Option Addr) (n c : Nat) (j : Nat) (zs : List Int) (w : World) (ha : Arr .u64 w w.heap.size A n zs) (h : spErr zs = 0) (hj : j < (begins zs 0).length) (hf : vF (nth zs (st zs j)) = false) :
    Calls Try.prog 65 #[.slice A n c, .int .i64 (st zs j)] w fun e w' => ∃ A' c', e = .returned (.slice A' (named zs (st zs j)).length c') ∧ Below w.heap.size w w' ∧ Arr .i64 w' w'.heap.size A' (named zs (st zs j)).length (named zs (st zs j)) ∧ High w.heap.size A' (named zs (st zs j)).length := by
  obtain ⟨h256, _⟩ := spErr_zero h
  have hl := ha.1
  obtain ⟨_, hsn, hst⟩ := begins_mem (st_mem hj)
  obtain ⟨R, Bd, hR, hBd, f1, f2, _⟩ := spot_facts hst ha.2.1 hsn
  have hrl := refWords_len hst
  rw [hR] at hrl
  simp only [Int.toNat_natCast] at hrl
  have HC := Lib.hid (headAt_any A n c (st zs j) zs w ha h)
  have hword : ∀ k, k < R → nth (refWords zs (st zs j)) k = nth zs (st zs j + 1 + k) ∧ 0 ≤ nth (refWords zs (st zs j)) k ∧ nth (refWords zs (st zs j)) k ≤ 18446744073709551615 := fun k hk => by
    have e1 : nth (refWords zs (st zs j)) k = nth zs (st zs j + 1 + k) := by
      rw [nth_get _ _ (by omega), nth_get _ _ (by omega)]
      unfold refWords
      simp
    have hw := ha.2.1 (nth zs (st zs j + 1 + k)) (by rw [nth_get _ _ (by omega)]; exact List.getElem_mem _)
    rw [wf_u64] at hw
    rw [e1]
    exact ⟨rfl, hw⟩
  have HA := Lib.hid ha
  have HW := Lib.hid hword
  have HRL := Lib.hid hrl
  have HJ := Lib.hid hj
  have HF := Lib.hid hf
  have HRR := Lib.hid hR
  clear ha h hword hrl hj hf hst hBd hR
  go_enter Try.func65, Try.ntmps65
  go_wp2_with fail
  refine HC.out.mono ?_
  rintro e w1 ⟨b1, h1⟩
  obtain rfl : e = .returned (.tuple #[.agg #[.int .i64 (vR (nth zs (st zs j))), .int .i64 (vB (nth zs (st zs j))), .int .i64 (vT (nth zs (st zs j))), .bool false], .bool true]) := by
    rcases h1 with ⟨i, hi, he, _, h1⟩ | ⟨h1, _⟩
    · have : st zs j = st zs i := by omega
      rw [h1, this]
    · have := h1 j HJ.out rfl
      rw [HF.out] at this; cases this
  rw [HRR.out]
  have HB1 := Lib.hid b1
  clear b1 h1 HC
  obtain ⟨s, hse⟩ : ∃ s, st zs j = s := ⟨_, rfl⟩
  have HSE := Lib.hid hse
  rw [hse] at hsn f1 HW HRL HRR HF ⊢
  clear hse
  generalize vB (nth zs s) = x1 at *
  generalize vT (nth zs s) = x2 at *
  go_wp2_with fail
  have HB2 := Lib.hid (HB1.out.alloc HB1.out.size (.cells #[.int .i64 R, .int .i64 x1, .int .i64 x2, .bool false] 96))
  generalize (w1.alloc (.cells #[.int .i64 R, .int .i64 x1, .int .i64 x2, .bool false] 96)) = W at *
  go_loopw [7, 18] (fun v i wr => ∃ k : Nat, k ≤ R ∧ i = .int .i64 k ∧ Hid (Own .i64 3 wr w.heap.size v (((refWords zs s).take k).map nm)) ∧ Hid (Below w.heap.size w wr)) (fun _ i _ => R - (intOf i).toNat)
  case atStart => exact ⟨0, by omega, rfl, Own.nil, HB2⟩
  case round =>
    obtain ⟨k, hk, rfl, hO, hB⟩ := hrel
    clear HB2
    by_cases hlt : k < R
    · obtain ⟨e1, e2, e3⟩ := HW.out k hlt
      obtain ⟨b, off, rfl, _, hcs⟩ := (HA.out.below hB.out (Nat.le_refl _)).2.2 (by omega)
      have hc := hcs (s + 1 + k) (by omega)
      rw [← e1] at hc
      clear hcs e1
      have htk : (refWords zs s).take (k + 1) = (refWords zs s).take k ++ [nth (refWords zs s) k] := by
        rw [nth_get _ _ (by have := HRL.out; omega), List.take_succ_eq_append_getElem]
      obtain ⟨v', w4, hrun, hO', hB'⟩ := hO.out.push (P := Try.prog) (t := 54) (ty := 54) Try.underlying54 int_info (by omega) (x := nm (nth (refWords zs s) k)) (nm_wf e2) (by simp; omega) hB.out.size
      have HO : Hid (Own .i64 3 w4 w.heap.size v' (((refWords zs s).take (k + 1)).map nm)) := Lib.hid (by rw [htk, List.map_append]; exact hO')
      have HB := Lib.hid (hB.out.trans hB')
      have HR := Lib.hid hrun
      clear htk hrun hO' hB' hO hB
      generalize nth (refWords zs s) k = X at *
      obtain ⟨X, rfl⟩ := Int.eq_ofNat_of_zero_le e2
      by_cases hbig : (256 : Int) < X
      · have hnm : nm X = 9998 := by unfold nm; rw [if_pos hbig]
        rw [hnm] at HR
        clear hnm
        go_wp2_with (at_builtin; refine wpList_append_run rfl (.tmp 30) (.tmp 34) 54 rfl rfl rfl HR.out ?_)
        go_roundw
        case rel => exact ⟨k + 1, by omega, by go_num, HO, HB⟩
        case measure => simp [intOf]; omega
      · have hnm : nm X = X - 1 := by unfold nm; rw [if_neg hbig]
        rw [hnm] at HR
        clear hnm
        go_wp2_with (at_builtin; refine wpList_append_run rfl (.tmp 30) (.tmp 34) 54 rfl rfl rfl HR.out ?_)
        go_roundw
        case rel => exact ⟨k + 1, by omega, by go_num, HO, HB⟩
        case measure => simp [intOf]; omega
    · obtain rfl : k = R := by omega
      have hO1 := hO.out
      rw [List.take_of_length_le (by have := HRL.out; omega)] at hO1
      have hO2 : Own .i64 3 wr w.heap.size _ (named zs s) := hO1
      obtain ⟨A3, c3, rfl, _, hA3⟩ := hO2.arr
      have HA3 := Lib.hid hA3
      have HH3 := Lib.hid hO2.high
      clear hO1 hO2 hA3 hO
      go_wp2
      go_ret
      refine ⟨A3, c3, ?_⟩
      rw [HSE.out]
      exact ⟨rfl, hB.out, HA3.out, HH3.out⟩
end Go.Proofs.Ytcdlgohhjnpbmaa
