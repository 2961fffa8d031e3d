/-
  Contracts of the law's own begins, refsAt, within, small and tints.
-/
import Derived.Test.YtcdlgohhjnpbmaaTintP
import Derived.Test.YtcdlgohhjnpbmaaAt
namespace Go.Proofs.Ytcdlgohhjnpbmaa
open Go.RowKit

set_option maxRecDepth 8000 in
set_option maxHeartbeats 2000000 in
theorem keepBegins_any (A : Option Addr) (n c : Nat) (zs : List Int) (w : World) (hn : n ≤ maxLen) (ha : Arr .u64 w w.heap.size A n zs) (h : spErr zs = 0) :
    Calls Try.prog 45 #[.slice A n c] w fun e w' => ∃ A' c', e = .returned (.slice A' (livesI zs).length c') ∧ Below w.heap.size w w' ∧ Arr .i64 w' w'.heap.size A' (livesI zs).length (livesI zs) := by
  obtain ⟨h256, hfine⟩ := spErr_zero h
  have hl := ha.1
  have hL := spList_ok h
  have hbl := begins_len (zs := zs) (a := 0)
  have hlen : (spList zs).length = (begins zs 0).length := by rw [hL]; simp
  obtain ⟨m, hm⟩ : ∃ m, (begins zs 0).length = m := ⟨_, rfl⟩
  rw [hm] at hlen hbl
  have hspot : ∀ k, k < m → nthG (spList zs) k = spOf zs (st zs k) ∧ st zs k < n := fun k hk => by
    have h1 := begins_mem (st_mem (zs := zs) (k := k) (by omega))
    exact ⟨by rw [hL, nthG_map _ _ _ (by omega)]; rfl, by omega⟩
  have HSP := Lib.hid (Spots_any A n c zs w hn ha)
  have HS := Lib.hid hspot
  have HM := Lib.hid hm
  clear ha h hfine hL hspot hm
  go_enter Try.func45, Try.ntmps45
  go_wp2_with fail
  refine HSP.out.mono ?_
  rintro e w1 ⟨A2, c2, rfl, b1, hc2, hA2, hi2⟩
  rw [hlen] at hA2 hc2 hi2 ⊢
  have HB1 := Lib.hid b1
  have HA2 := Lib.hid hA2
  clear b1 HSP hA2 hc2 hi2
  generalize spErr zs = E at *
  go_wp2_with fail
  go_loopw [5, 15] (fun v i wr => ∃ k : Nat, k ≤ m ∧ i = .int .i64 k ∧ Hid (Own .i64 3 wr w1.heap.size v (liveTo zs k)) ∧ Hid (Below w1.heap.size w1 wr)) (fun _ i _ => m - (intOf i).toNat)
  case atStart => exact ⟨0, Nat.zero_le _, rfl, Own.nil, Below.refl _ _⟩
  case round =>
    obtain ⟨k, hk, rfl, HO, HBk⟩ := hrel
    by_cases hlt : k < m
    · obtain ⟨hs, hsn⟩ := HS.out k hlt
      have hkb : k < (begins zs 0).length := by rw [HM.out]; exact hlt
      obtain ⟨b, off, rfl, _, q0, q1, q2, q3, q4⟩ := (HA2.out.below HBk.out (Nat.le_refl _)).spot hlt
      rw [hs] at q0 q1 q2 q3 q4
      unfold spOf at q0 q1 q2 q3 q4
      simp only at q0 q1 q2 q3 q4
      have hll := liveTo_len (zs := zs) k
      cases hf : vF (nth zs (st zs k))
      · rw [hf] at q4
        have hba := (Below.refl _ wr).alloc (Nat.le_refl _) (.cells #[.int .i64 (st zs k), .int .i64 (vR (nth zs (st zs k))), .int .i64 (vB (nth zs (st zs k))), .int .i64 (vT (nth zs (st zs k))), .bool false] 112)
        have hO2 := HO.out.below hba
        have hb2 := HBk.out.trans (hba.mono HBk.out.size)
        obtain ⟨v', w5, hrun, hO', hB'⟩ := hO2.push (P := Try.prog) (t := 54) (ty := 54) Try.underlying54 intI_info (by omega) (x := (st zs k : Int)) (wf_i64.2 (by omega)) (by omega) hb2.size
        rw [← liveTo_yes hkb hf] at hO'
        have HO5 := Lib.hid hO'
        have HB5 := Lib.hid (hb2.trans hB')
        rw [show (wr.alloc (.cells #[.int .i64 (st zs k), .int .i64 (vR (nth zs (st zs k))), .int .i64 (vB (nth zs (st zs k))), .int .i64 (vT (nth zs (st zs k))), .bool false] 112)).heap.size = wr.heap.size + 1 by simp] at hrun
        have HRN := Lib.hid hrun
        clear hrun hO' hB' hO2 hb2 hba HO HBk hf hs hkb hll
        generalize vR (nth zs (st zs k)) = R at *
        generalize vB (nth zs (st zs k)) = Bd at *
        generalize vT (nth zs (st zs k)) = T at *
        generalize st zs k = s at *
        go_wp2_with (at_builtin; refine wpList_append_run rfl (.tmp 23) (.tmp 26) 54 rfl rfl rfl HRN.out ?_)
        go_roundw
        case rel => exact ⟨k + 1, by omega, by go_num, HO5.out, HB5.out⟩
        case measure => simp [intOf]; omega
      · rw [hf] at q4
        have hba := (Below.refl _ wr).alloc (Nat.le_refl _) (.cells #[.int .i64 (st zs k), .int .i64 (vR (nth zs (st zs k))), .int .i64 (vB (nth zs (st zs k))), .int .i64 (vT (nth zs (st zs k))), .bool true] 112)
        have hO2 := HO.out.below hba
        rw [← liveTo_no hkb hf] at hO2
        have HO5 := Lib.hid hO2
        have HB5 := Lib.hid (HBk.out.trans (hba.mono HBk.out.size))
        clear hO2 hba HO HBk hf hs hkb hll
        generalize vR (nth zs (st zs k)) = R at *
        generalize vB (nth zs (st zs k)) = Bd at *
        generalize vT (nth zs (st zs k)) = T at *
        generalize st zs k = s at *
        go_wp2
        go_roundw
        case rel => exact ⟨k + 1, by omega, by go_num, HO5.out, HB5.out⟩
        case measure => simp [intOf]; omega
    · obtain rfl : k = m := by omega
      have HL : Hid (liveTo zs k = livesI zs) := Lib.hid (by rw [← HM.out]; exact liveTo_all)
      rw [HL.out] at HO
      obtain ⟨A', c', rfl, _, hA'⟩ := HO.out.arr
      have HA' := Lib.hid hA'
      have HBE := Lib.hid (HB1.out.trans (HBk.out.mono HB1.out.size))
      clear hA' HO HL HBk
      obtain ⟨q, hq⟩ : ∃ q, (livesI zs).length = q := ⟨_, rfl⟩
      rw [hq] at HA' ⊢
      have HQ := Lib.hid hq
      clear hq
      go_wp2
      go_ret
      exact ⟨A', c', by rw [HQ.out]; rfl, HBE.out, by rw [HQ.out]; exact HA'.out⟩

/-- All of a list is in another. -/
def inAll (l all : List Int) : Bool := !l.any fun x => !decide (x ∈ all)
theorem inAll_true {l all : List Int} (h : ∀ x ∈ l, x ∈ all) : inAll l all = true := by
  unfold inAll
  rw [Bool.not_eq_true', List.any_eq_false]
  intro x hx
  simp [h x hx]
theorem inAll_iff {l all : List Int} : inAll l all = true ↔ ∀ x ∈ l, x ∈ all := by
  constructor
  · intro h x hx
    unfold inAll at h
    rw [Bool.not_eq_true', List.any_eq_false] at h
    simpa using h x hx
  · exact inAll_true
set_option maxHeartbeats 400000 in
theorem keepWithin_any (A A' : Option Addr) (n c n' c' : Nat) (xs ys : List Int) (w : World) (hn : n ≤ maxLen) (hn' : n' ≤ maxLen) (hx : Arr .i64 w w.heap.size A n xs) (hy : Arr .i64 w w.heap.size A' n' ys) :
    Calls Try.prog 42 #[.slice A n c, .slice A' n' c'] w fun e w' => e = .returned (.bool (inAll xs ys)) ∧ Below w.heap.size w w' := by
  have b0 := (Below.refl _ w).alloc (Nat.le_refl _) (.cells #[.slice A' n' c'] 54)
  have BX := Box.new w 54 #[.slice A' n' c']
  have hF : ∀ x wx, Below (w.alloc (.cells #[.slice A' n' c'] 54)).heap.size (w.alloc (.cells #[.slice A' n' c'] 54)) wx → Calls Try.prog 75 (#[.int .i64 x] ++ #[.pointer (some ⟨w.heap.size, 0, none⟩)]) wx (fun e w' => e = .returned (.bool (!decide (x ∈ ys))) ∧ Below wx.heap.size wx w') := by
    intro x wx hb
    have hyx := (hy.below b0 (Nat.le_refl _)).below hb b0.size
    have HC := Lib.hid (containsR_any A' n' c' _ x ys wx hn' hyx)
    have d0 : wx.cell? ⟨w.heap.size, 0, none⟩ = some (.slice A' n' c') := (BX.below hb BX.lt).cell 0
    clear hyx hb
    generalize decide (x ∈ ys) = V at *
    show Calls Try.prog 75 #[.int .i64 x, .pointer (some ⟨w.heap.size, 0, none⟩)] wx _
    go_enter Try.func75, Try.ntmps75
    go_wp2_with fail
    refine HC.out.mono ?_
    rintro e w' ⟨rfl, rfl⟩
    go_wp2
    go_ret
    exact ⟨rfl, Below.refl _ _⟩
  have HI := Lib.hid (containsFnR A n c 75 #[.pointer (some ⟨w.heap.size, 0, none⟩)] (fun x => !decide (x ∈ ys)) xs _ hn ((hx.below b0 (Nat.le_refl _)).more b0.size) Try.call75 hF)
  have HB0 := Lib.hid b0
  have HV : Hid ((!xs.any fun x => !decide (x ∈ ys)) = inAll xs ys) := rfl
  clear hF hx hy BX b0
  generalize (xs.any fun x => !decide (x ∈ ys)) = V at *
  go_enter Try.func42, Try.ntmps42
  go_wp2_with fail
  refine HI.out.mono ?_
  rintro e w' ⟨rfl, hb⟩
  have HB := Lib.hid (HB0.out.trans (hb.mono HB0.out.size))
  clear hb HI
  go_wp2
  go_ret
  exact ⟨by rw [← HV.out]; rfl, HB.out⟩

/-- What the references of an object name, the empty ones left out. -/
def namesOf (zs : List Int) (s : Nat) : List Int := (named zs s).filter fun x => decide (0 ≤ x)
theorem nth_refs {zs : List Int} {t k : Nat} (hk : k < (refWords zs t).length) : nth (refWords zs t) k = nth zs (t + 1 + k) := by
  rw [nth_get _ _ hk]
  unfold refWords at hk ⊢
  rw [List.getElem_take, List.getElem_drop]
  exact (nth_get _ _ _).symm

set_option maxRecDepth 8000 in
set_option maxHeartbeats 2000000 in
theorem refsAt_any (A : Option Addr) (n c : Nat) (zs : List Int) (w : World) (hn : n ≤ maxLen) (hnc : n ≤ c) (ha : Arr .u64 w w.heap.size A n zs) (h : arErr zs = 0) {t : Nat} (ht : (t : Int) ∈ livesI zs) :
    Calls Try.prog 43 #[.slice A n c, .int .i64 t] w fun e w' => ∃ A' c', e = .returned (.slice A' (namesOf zs t).length c') ∧ Below w.heap.size w w' ∧ Arr .i64 w' w'.heap.size A' (namesOf zs t).length (namesOf zs t) := by
  have h256 := arena_len h
  have hl := ha.1
  obtain ⟨t', e', ht1, ht2, ht3, ht4, ht5, ht6, ht7, ht8, ht9⟩ := live_facts ha.2.1 ht
  obtain rfl : t' = t := by omega
  clear e'
  have hst := (begins_mem ht8).2.2
  obtain ⟨R, Bd, hR, hBd, f1, f2, f3, f4, f5, f6, f7, f8⟩ := spot_facts hst ha.2.1 (by omega)
  have hrl := refWords_len hst
  rw [hR, Int.toNat_natCast] at hrl
  have HAT := Lib.hid (At_any A n c (t' : Int) zs w hn hnc ha)
  have HA := Lib.hid ha
  have HE := Lib.hid h
  have HRL := Lib.hid hrl
  have HBE := Lib.hid ht8
  have HWF : Hid (∀ k, k < R → nth zs (t' + 1 + k) = 0 ∨ (1 ≤ nth zs (t' + 1 + k) ∧ nth zs (t' + 1 + k) ≤ 256)) := fun k hk => by
    have := refs_named ha.2.1 h ht (k := k) (by rw [hrl]; exact hk)
    rw [nth_refs (by rw [hrl]; exact hk)] at this
    exact this.imp id fun h => ⟨h.1, h.2.1⟩
  have HST : Hid (∀ k, k < R → ((named zs t').take (k + 1)).filter (fun x => decide (0 ≤ x)) = ((named zs t').take k).filter (fun x => decide (0 ≤ x)) ++ (if decide (0 ≤ nm (nth zs (t' + 1 + k))) = true then [nm (nth zs (t' + 1 + k))] else [])) := fun k hk => by
    rw [named_take (by rw [hrl]; exact hk), filter_snoc, nth_refs (by rw [hrl]; exact hk)]
  have hRn : t' + 1 + R ≤ n := by omega
  clear ha h ht hn ht2 ht3 ht4 ht5 ht6 ht7 ht8 ht9 hst f1 f2 f3 f4 f5 f6 f7 f8 hR hBd hrl
  go_enter Try.func43, Try.ntmps43
  go_wp2_with fail
  refine HAT.out.mono ?_
  rintro e w1 ⟨b1, hcase⟩
  rcases hcase with ⟨h0, _⟩ | ⟨_, j, hj, he, r, rfl, hV⟩ | ⟨_, hno, _⟩
  · exact absurd HE.out h0
  · have hst : st zs j = t' := by omega
    rw [hst] at hV
    have hrn : r.rn = R := by
      rw [← hV.refs.1]
      show ((refWords zs t').map _).length = R
      rw [List.length_map, HRL.out]
    unfold rawV
    rw [hrn]
    have HB1 := Lib.hid (b1.alloc b1.size (.cells #[.int .i64 r.t, .slice r.ra R r.rc, .slice r.ba r.bn r.bc, .bool r.f] 104))
    clear hV hj he hst hrn b1 HAT
    obtain ⟨rt, ra, rn, rc, ba, bn, bc, rf⟩ := r
    simp only at HB1 ⊢
    go_wp2_with fail
    generalize (w1.alloc (.cells #[.int .i64 rt, .slice ra R rc, .slice ba bn bc, .bool rf] 104)) = W1 at *
    go_loopw [7, 20] (fun v i wr => ∃ k : Nat, k ≤ R ∧ i = .int .i64 k ∧ Hid (Own .i64 3 wr w.heap.size v (((named zs t').take k).filter fun x => decide (0 ≤ x))) ∧ Hid (Below w.heap.size w wr)) (fun _ i _ => R - (intOf i).toNat)
    case atStart => exact ⟨0, Nat.zero_le _, rfl, Own.nil, HB1.out⟩
    case round =>
      obtain ⟨k, hk, rfl, HO, HBk⟩ := hrel
      clear HB1
      by_cases hlt : k < R
      · obtain ⟨b, off, rfl, _, hcs⟩ := (HA.out.below HBk.out (Nat.le_refl _)).2.2 (by omega)
        have hc := hcs (t' + 1 + k) (by omega)
        have hX := HWF.out k hlt
        have HTK := Lib.hid (HST.out k hlt)
        have hfl : (((named zs t').take k).filter fun x => decide (0 ≤ x)).length ≤ 256 := Nat.le_trans (List.length_filter_le _ _) (by rw [List.length_take]; omega)
        clear hcs
        generalize nth zs (t' + 1 + k) = X at *
        have q1 : (t' : Int) + 1 + (k : Int) < (n : Int) := by omega
        have q2 : ((t' : Int) + 1 + (k : Int)).toNat = t' + 1 + k := by omega
        rcases hX with rfl | ⟨x1, x2⟩
        · have hT := HTK.out
          rw [if_neg (by decide), List.append_nil] at hT
          have hO6 := HO.out
          rw [← hT] at hO6
          have HO5 := Lib.hid hO6
          clear hT hO6 HO HTK
          go_wp2
          go_roundw
          case rel => exact ⟨k + 1, by omega, by go_num, HO5.out, HBk.out⟩
          case measure => simp [intOf]; omega
        · have hn1 : nm X = X - 1 := by unfold nm; rw [if_neg (by omega)]
          have hT := HTK.out
          rw [hn1, if_pos (by simp; omega)] at hT
          obtain ⟨v', w5, hrun, hO', hB'⟩ := HO.out.push (P := Try.prog) (t := 54) (ty := 54) Try.underlying54 intI_info (by omega) (x := X - 1) (wf_i64.2 (by omega)) (by omega) HBk.out.size
          rw [← hT] at hO'
          have HRN := Lib.hid hrun
          have HO5 := Lib.hid hO'
          have HB5 := Lib.hid (HBk.out.trans hB')
          have e1 : IntKind.i64.wrap X = X := IntWalk.i64_in _ (by omega)
          have e2 : IntKind.i64.wrap (X - 1) = X - 1 := IntWalk.i64_in _ (by omega)
          have g1 : (0 : Int) < X := by omega
          clear hrun hO' hB' HO HBk HTK hT hn1
          go_wp2_with (at_builtin; refine wpList_append_run rfl (.tmp 50) (.tmp 60) 54 rfl rfl rfl HRN.out ?_)
          go_roundw
          case rel => exact ⟨k + 1, by omega, by go_num, HO5.out, HB5.out⟩
          case measure => simp [intOf]; omega
      · obtain rfl : k = R := by omega
        have HL : Hid (((named zs t').take k).filter (fun x => decide (0 ≤ x)) = namesOf zs t') := by
          show _ = _
          rw [List.take_of_length_le (by unfold named; rw [List.length_map, HRL.out]; exact Nat.le_refl _)]; rfl
        rw [HL.out] at HO
        obtain ⟨A', c', rfl, _, hA'⟩ := HO.out.arr
        have HA' := Lib.hid hA'
        clear hA' HO HL
        obtain ⟨q, hq⟩ : ∃ q, (namesOf zs t').length = q := ⟨_, rfl⟩
        rw [hq] at HA' ⊢
        have HQ := Lib.hid hq
        clear hq
        go_wp2
        go_ret
        exact ⟨A', c', by rw [HQ.out]; rfl, HBk.out, by rw [HQ.out]; exact HA'.out⟩
  · exfalso
    obtain ⟨j, hj, e⟩ := mem_begins HBE.out
    exact hno j hj (by rw [e])

theorem small_step : stepOk [1, 1] 0 = true := by decide
theorem small_long : sLong (nth [1, 1] 0) = 2 := by decide
theorem small_begins : begins [1, 1] 0 = [0] := by rw [begins_step (by decide) small_step, small_long, begins_end (by decide)]
theorem small_fine : fine [1, 1] 0 = true := by rw [fine_step (by decide) small_step, small_long]; exact fine_end (by decide)
theorem small_free : vF (nth [1, 1] 0) = false := by decide
theorem small_lives : livesI [1, 1] = [0] := by unfold livesI; rw [small_begins]; decide
theorem small_named : named [1, 1] 0 = [0] := by decide
theorem small_wf : ∀ z ∈ ([1, 1] : List Int), (Lit.int .u64 z).wf = true := by decide
theorem small_arena : arErr [1, 1] = 0 := by
  refine arErr_ok (spErr_ok (by decide) small_fine) ((refsOk_iff small_wf (by decide)).2 fun s hs _ x hx => ?_)
  rw [small_begins] at hs
  rw [List.mem_singleton.1 hs, small_named] at hx
  rw [small_lives]
  exact .inr hx
theorem small_from : fromE [1, 1] [0] = 0 := fromE_ok small_arena (by rw [small_lives]; simp)
theorem small_takes : takesN [1, 1] [0] = 2 := by
  have h0 : (0 : Int) ∈ reachL [1, 1] [0] := (reachL_mem small_wf small_from).2 (.base (by simp))
  unfold takesN
  rw [cnt_congr (g := fun _ => true) (b := 0) _ fun k hk => coversN_iff.2 ⟨0, List.mem_map.2 ⟨0, h0, rfl⟩, by omega, by
    have h1 : longN [1, 1] 0 = 2 := small_long
    have h2 : k < 2 := hk
    omega⟩, cnt_true]
  rfl
set_option maxHeartbeats 400000 in
theorem small_any (w : World) : Calls Try.prog 73 #[] w fun e w' => e = .returned (.slice (some ⟨w.heap.size, 0, none⟩) 2 2) ∧ w.alloc (.cells #[.int .u64 1, .int .u64 1] 44) = w' := by
  go_enter Try.func73, Try.ntmps73
  go_wp2
  go_ret
  exact ⟨rfl, rfl⟩
set_option maxHeartbeats 400000 in
theorem tints_any (w : World) : Calls Try.prog 41 #[] w fun e w' => e = .returned (.bool true) ∧ Below w.heap.size w w' := by
  have HS := Lib.hid (small_any w)
  have b1 := (Below.refl _ w).alloc (Nat.le_refl _) (.cells #[.int .u64 1, .int .u64 1] 44)
  have W1 : Whole .u64 44 (w.alloc (.cells #[.int .u64 1, .int .u64 1] 44)) w.heap.size [1, 1] := whole_new .u64 44 w [1, 1] small_wf
  obtain ⟨w1, hw1⟩ : ∃ w1, w.alloc (.cells #[.int .u64 1, .int .u64 1] 44) = w1 := ⟨_, rfl⟩
  have hsz : w1.heap.size = w.heap.size + 1 := by rw [← hw1]; simp
  rw [hw1] at b1 W1 HS
  have b2 := (Below.refl _ w1).alloc (Nat.le_refl _) (.cells #[.int .i64 0] 3)
  have W2 : Whole .i64 3 (w1.alloc (.cells #[.int .i64 0] 3)) w1.heap.size [0] := whole_new .i64 3 w1 [0] (by decide)
  have HK := Lib.hid (Words_any (some ⟨w.heap.size, 0, none⟩) (some ⟨w1.heap.size, 0, none⟩) 2 2 1 1 [1, 1] [0] _ (by unfold maxLen; omega) (by omega) ((W1.alloc _).arr (by simp; omega)) (by unfold maxLen; omega) (W2.arr W2.lt))
  have HB := Lib.hid (b1.trans (b2.mono b1.size))
  clear b1 W1 b2 W2 hw1 hsz
  go_enter Try.func41, Try.ntmps41
  go_wp2_with fail
  refine HS.out.mono ?_
  rintro e w' ⟨rfl, rfl⟩
  go_wp2_with fail
  refine HK.out.mono ?_
  rintro e w3 ⟨v, rfl, hb3, hv⟩
  have HB3 := Lib.hid (HB.out.trans (hb3.mono HB.out.size))
  rw [small_from]
  obtain rfl : v = 2 := by
    rcases hv with ⟨h, _⟩ | ⟨_, h⟩
    · exact absurd small_from h
    · rw [h, small_takes]
  clear hv hb3 HK
  go_wp2
  go_ret
  exact ⟨rfl, HB3.out⟩
end Go.Proofs.Ytcdlgohhjnpbmaa
