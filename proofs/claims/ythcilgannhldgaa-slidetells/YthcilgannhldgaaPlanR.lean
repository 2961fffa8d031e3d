/-
  Contracts of the reference's PlanFault, Planned, PlanGaps.
-/
import Derived.Test.YthcilgannhldgaaPlanM
import Derived.Test.YthcilgannhldgaaRefT
import Derived.Test.YthcilgannhldgaaRefGap
import Derived.Test.YthcilgannhldgaaLater
namespace Go.Proofs.Ythcilgannhldgaa
open Go.RowKit

set_option maxRecDepth 8000 in
set_option maxHeartbeats 2000000 in
theorem planFault_any (A K P : Option Addr) (n c nk ck np cp : Nat) (zs ks ps : List Int) (w : World) (hn : n ≤ maxLen) (ha : Arr .u64 w w.heap.size A n zs) (hnk : nk ≤ maxLen) (hk : Arr .i64 w w.heap.size K nk ks) (hnp : np ≤ maxLen) (hp : Arr .i64 w w.heap.size P np ps) :
    Calls Try.prog 8 #[.slice A n c, .slice K nk ck, .slice P np cp] w fun e w' => e = .returned (.int .i64 (planE zs ks ps)) ∧ Below w.heap.size w w' := by
  have HM := Lib.hid (ArenaFault_any A n c zs w hn ha)
  have HA := Lib.hid ha
  have HK := Lib.hid hk
  have HP := Lib.hid hp
  have HI : Hid (∀ wx, Below w.heap.size w wx → Calls Try.prog 15 #[.slice K nk ck] wx fun e w' => e = .returned (.bool (riseB ks)) ∧ ∃ q, wx.drewN q = w') := fun wx hb => rises_any K nk ck _ ks wx hnk (HK.out.below hb (Nat.le_refl _))
  have HJ : Hid (∀ wx, Below w.heap.size w wx → Calls Try.prog 15 #[.slice P np cp] wx fun e w' => e = .returned (.bool (riseB ps)) ∧ ∃ q, wx.drewN q = w') := fun wx hb => rises_any P np cp _ ps wx hnp (HP.out.below hb (Nat.le_refl _))
  have HNK : Hid (nk ≤ maxLen) := hnk
  have HNN : Hid (n ≤ maxLen) := hn
  unfold maxLen at hnp
  clear ha hk hp hnk hn
  by_cases h0 : arErr zs = 0
  · rw [h0] at HM
    have H0 := Lib.hid h0
    clear h0
    go_enter Try.func8, Try.ntmps8
    go_wp2_with fail
    refine HM.out.mono ?_
    rintro e w1 ⟨rfl, b1⟩
    have HB1 := Lib.hid b1
    have HC1 := Lib.hid (HI.out w1 b1)
    clear b1 HM HI
    cases hr1 : riseB ks
    · rw [hr1] at HC1
      have HE : Hid (planE zs ks ps = 3) := planE_form H0.out (by rw [hr1]; rfl)
      clear hr1 HJ HK HP
      go_wp2_with fail
      refine HC1.out.mono ?_
      rintro e w2 ⟨rfl, q, rfl⟩
      have HB2 : Hid (Below w.heap.size w (w1.drewN q)) := below_drewN HB1.out q
      go_wp2
      go_ret
      exact ⟨by rw [HE.out]; rfl, HB2.out⟩
    · rw [hr1] at HC1
      have HR1 := Lib.hid hr1
      clear hr1
      go_wp2_with fail
      refine HC1.out.mono ?_
      rintro e w2 ⟨rfl, q, hq⟩
      have HB2 : Hid (Below w.heap.size w w2) := by show Below _ _ _; rw [← hq]; exact below_drewN HB1.out q
      clear hq HB1 HC1
      have HC2 := Lib.hid (HJ.out w2 HB2.out)
      clear HJ
      cases hr2 : riseB ps
      · rw [hr2] at HC2
        have HE : Hid (planE zs ks ps = 3) := planE_form H0.out (by rw [HR1.out, hr2]; rfl)
        clear hr2 HK HP
        go_wp2_with fail
        refine HC2.out.mono ?_
        rintro e w3 ⟨rfl, q, rfl⟩
        have HB3 : Hid (Below w.heap.size w (w2.drewN q)) := below_drewN HB2.out q
        go_wp2
        go_ret
        exact ⟨by rw [HE.out]; rfl, HB3.out⟩
      · rw [hr2] at HC2
        have HR : Hid ((riseB ks && riseB ps) = true) := by show _ = _; rw [HR1.out, hr2]; rfl
        clear hr2 HR1
        go_wp2_with fail
        refine HC2.out.mono ?_
        rintro e w3 ⟨rfl, q, hq⟩
        have HB3 : Hid (Below w.heap.size w w3) := by show Below _ _ _; rw [← hq]; exact below_drewN HB2.out q
        clear hq HB2 HC2
        have bf := (Below.refl _ w3).alloc (Nat.le_refl _) (.cells #[.slice K nk ck] 23)
        have BF := Box.new w3 23 #[.slice K nk ck]
        have HB5 := Lib.hid (HB3.out.trans (bf.mono HB3.out.size))
        have HFF := Lib.hid (fromFault_any A K n c nk ck w3.heap.size zs ks _ HNN.out (HA.out.later HB5.out) HNK.out (HK.out.later HB5.out) BF.lt (BF.cell 0))
        clear bf BF HB3
        cases hr3 : allIn zs ks
        · have hx : ∃ x ∈ ks, x ∉ livesI zs := by
            by_cases h : ∃ x ∈ ks, x ∉ livesI zs
            · exact h
            · exfalso
              have : allIn zs ks = true := allIn_iff.2 fun x hx => Classical.not_not.1 fun hn => h ⟨x, hx, hn⟩
              rw [hr3] at this; cases this
          obtain ⟨x, hx1, hx2⟩ := hx
          rw [fromE_none H0.out hx1 hx2] at HFF
          have HE : Hid (planE zs ks ps = 5) := planE_none H0.out HR.out (by rw [hr3]; rfl)
          clear hr3 HK HP hx1 hx2
          go_wp2_with fail
          refine HFF.out.mono ?_
          rintro e w6 ⟨rfl, b6⟩
          have HB6 := Lib.hid (HB5.out.trans (b6.mono HB5.out.size))
          clear b6
          go_wp2
          go_ret
          exact ⟨by rw [HE.out]; rfl, HB6.out⟩
        · rw [fromE_ok H0.out (allIn_iff.1 hr3)] at HFF
          have HR3 := Lib.hid hr3
          clear hr3
          go_wp2_with fail
          refine HFF.out.mono ?_
          rintro e w6 ⟨rfl, b6⟩
          have HB6 := Lib.hid (HB5.out.trans (b6.mono HB5.out.size))
          clear b6 HFF HB5
          go_wp2_with fail
          go_loopw [33] (fun i wr => w6 = wr ∧ ∃ k : Nat, k ≤ np ∧ i = .int .i64 k ∧ Hid (∀ i, i < k → nth ps i ∈ ks)) (fun i _ => np - (intOf i).toNat)
          case atStart => exact ⟨rfl, 0, Nat.zero_le _, rfl, fun i hi => absurd hi (by omega)⟩
          case round =>
            obtain ⟨rfl, k, hkn, rfl, HQ⟩ := hrel
            by_cases hlt : k < np
            · obtain ⟨b, off, rfl, _, hcs⟩ := (HP.out.below HB6.out (Nat.le_refl _)).2.2 (by omega)
              have hc := hcs k hlt
              have HIN := Lib.hid (in_ref K nk ck _ (nth ps k) ks w6 HNK.out (HK.out.below HB6.out (Nat.le_refl _)))
              clear hcs
              by_cases hin : nth ps k ∈ ks
              · rw [show decide (nth ps k ∈ ks) = true by simpa using hin] at HIN
                have HN : Hid (∀ i, i < k + 1 → nth ps i ∈ ks) := fun i hi => by
                  rcases Nat.lt_succ_iff_lt_or_eq.1 hi with h1 | h1
                  · exact HQ.out i h1
                  · rw [h1]; exact hin
                clear hin HQ
                generalize nth ps k = X at *
                go_wp2_with fail
                refine HIN.out.mono ?_
                rintro e w7 ⟨rfl, rfl⟩
                go_wp2
                go_roundw
                case rel => exact ⟨by trivial, k + 1, by omega, by go_num, HN⟩
                case measure => simp [intOf]; omega
              · rw [show decide (nth ps k ∈ ks) = false by simpa using hin] at HIN
                have HE : Hid (planE zs ks ps = 5) := planE_none H0.out HR.out (by
                  rw [HR3.out]
                  cases hs : subB ks ps
                  · rfl
                  · exact absurd (subB_iff.1 hs _ (nth_mem (by have := HP.out.1; omega))) hin)
                clear hin HQ
                generalize nth ps k = X at *
                go_wp2_with fail
                refine HIN.out.mono ?_
                rintro e w7 ⟨rfl, rfl⟩
                go_wp2
                go_ret
                exact ⟨by rw [HE.out]; rfl, HB6.out⟩
            · obtain rfl : k = np := by omega
              have HE : Hid (planE zs ks ps = 0) := planE_ok H0.out HR.out (by
                rw [HR3.out, Bool.true_and]
                exact subB_iff.2 fun x hx => by
                  obtain ⟨i, hi, e⟩ := List.getElem_of_mem hx
                  have := HQ.out i (by have := HP.out.1; omega)
                  rwa [nth_get _ _ hi, e] at this)
              clear HQ
              go_wp2
              go_ret
              exact ⟨by rw [HE.out]; rfl, HB6.out⟩
  · have HE := Lib.hid (planE_arena (ks := ks) (ps := ps) h0)
    generalize arErr zs = E at *
    have hb : (E != 0) = true := by simpa using h0
    clear h0
    go_enter Try.func8, Try.ntmps8
    go_wp2_with fail
    refine HM.out.mono ?_
    rintro e w1 ⟨rfl, b1⟩
    have HB1 := Lib.hid b1
    clear b1
    go_wp2
    go_ret
    exact ⟨by rw [HE.out]; rfl, HB1.out⟩

/-- What Planned answers. -/
def PlannedP (zs ks ps : List Int) (w : World) (e : Ending) (w' : World) : Prop := ∃ v, e = .returned v ∧ Own .i64 3 w' w.heap.size v (toL zs ks ps) ∧ Below w.heap.size w w'
/-- What holds while it goes over what is kept. -/
structure PdI (zs ks ps : List Int) (w : World) (v : Value) (i : Nat) (wr : World) : Prop where
  own : Own .i64 3 wr w.heap.size v (toTo zs ks ps i)
  below : Below w.heap.size w wr
theorem PdI.next {zs ks ps : List Int} {w wr wr' : World} {v : Value} {i : Nat} (h : PdI zs ks ps w v i wr) (hb : Below wr.heap.size wr wr') : PdI zs ks ps w v i wr' := ⟨h.own.below hb, h.below.trans (hb.mono h.below.size)⟩
theorem planI : (Try.prog.info? 3).map (fun i => (i.zero, i.size, i.bytes)) = some (some (.int .i64 0), 1, 8) := by kernel_rfl
/-- One more word. -/
theorem PdI.push {zs ks ps : List Int} {w wr : World} {v : Value} {i : Nat} (h : PdI zs ks ps w v i wr) (hi : i ≤ 256) {x : Int} (hx : (Lit.int .i64 x).wf = true) (he : x = toN zs ks ps i) :
    ∃ v' w', Sem.run Try.prog (Builtin.append_ #[23, 23] 23 #[v, .slice (some ⟨wr.heap.size, 0, none⟩) 1 1]) (wr.alloc (.cells #[.int .i64 x] 3)) = .ok v' w' ∧ PdI zs ks ps w v' (i + 1) w' := by
  obtain ⟨v', w', hrun, hO, hB⟩ := h.own.push (P := Try.prog) (t := 23) (ty := 23) Try.underlying23 planI (by omega) (x := x) hx (by rw [toTo_len]; omega) h.below.size
  exact ⟨v', w', hrun, by rw [toTo_succ, ← he]; exact hO, h.below.trans hB⟩

set_option maxRecDepth 8000 in
set_option maxHeartbeats 4000000 in
theorem planned_any (A K P : Option Addr) (n c nk ck np cp : Nat) (zs ks ps : List Int) (w : World) (ha : Arr .u64 w w.heap.size A n zs) (hk : Arr .i64 w w.heap.size K nk ks) (hnp : np ≤ maxLen) (hp : Arr .i64 w w.heap.size P np ps) (h : PlanOk zs ks ps) :
    Calls Try.prog 12 #[.slice A n c, .slice K nk ck, .slice P np cp] w (PlannedP zs ks ps w) := by
  have HA := Lib.hid ha
  have HK := Lib.hid hk
  have HP := Lib.hid hp
  have HOK := Lib.hid h
  have HWF := Lib.hid ha.2.1
  have hkl := hk.1
  have h256 := h.len
  have hn256 := arena_len h.arena
  rw [hkl] at h256
  have HKL := Lib.hid hkl
  have HNP : Hid (np ≤ maxLen) := hnp
  have HI0 : Hid (PdI zs ks ps w (.slice none 0 0) 0 w) := ⟨Own.nil, Below.refl _ _⟩
  unfold PlannedP
  clear ha hk hp h hkl hnp
  go_enter Try.func12, Try.ntmps12
  go_wp2_with fail
  go_loopw [7, 15] (fun v i wr => ∃ (k : Nat) (u : Value), k ≤ nk ∧ i = .int .i64 k ∧ u = v ∧ Hid (PdI zs ks ps w u k wr)) (fun _ i _ => nk - (intOf i).toNat)
  case atStart => exact ⟨0, _, Nat.zero_le _, rfl, rfl, HI0⟩
  case round =>
    obtain ⟨i, u, hin, rfl, hu, HI⟩ := hrel
    subst hu
    clear HI0
    by_cases hlt : i < nk
    · obtain ⟨b, off, rfl, _, hcs⟩ := (HK.out.below HI.out.below (Nat.le_refl _)).2.2 (by omega)
      have hc := hcs i hlt
      have HIN := Lib.hid (in_ref P np cp _ (nth ks i) ps wr HNP.out (HP.out.below HI.out.below (Nat.le_refl _)))
      have hxw := HK.out.2.1 _ (nth_mem (l := ks) (j := i) (by have := HKL.out; omega))
      by_cases hmem : nth ks i ∈ ps
      · rw [show decide (nth ks i ∈ ps) = true by simpa using hmem] at HIN
        obtain ⟨v', w', hrun, hN⟩ := HI.out.push (by omega) hxw (toN_pin hmem).symm
        have HR := Lib.hid hrun
        have HN := Lib.hid hN
        clear hrun hN hmem hxw HI hcs
        generalize nth ks i = X at *
        go_wp2_with fail
        refine HIN.out.mono ?_
        rintro e w7 ⟨rfl, rfl⟩
        go_wp2_with (at_builtin; refine wpList_append_run rfl (.tmp 24) (.tmp 29) 23 rfl rfl rfl HR.out ?_)
        go_roundw
        case rel => exact ⟨i + 1, _, by omega, by go_num, rfl, HN⟩
        case measure => simp [intOf]; omega
      · rw [show decide (nth ks i ∈ ps) = false by simpa using hmem] at HIN
        have HTO : Hid (toN zs ks ps i = endN zs ks ps i) := toN_move hmem
        clear hmem hxw hcs
        obtain ⟨X, hX⟩ : ∃ X, nth ks i = X := ⟨_, rfl⟩
        rw [hX] at hc HIN
        clear hX
        go_wp2_with fail
        refine HIN.out.mono ?_
        rintro e w7 ⟨rfl, rfl⟩
        clear HIN
        go_wp2_with fail
        generalize wr = W0 at *
        go_loopw [9, 10] (fun a j wx => ∃ (q : Nat) (av : Int), q ≤ i ∧ j = .int .i64 ((q : Int) - 1) ∧ a = .int .i64 av ∧ Hid (av = endN zs ks ps i - endN zs ks ps q) ∧ Hid (PdI zs ks ps w u i wx)) (fun _ j _ => (intOf j + 1).toNat)
        case atStart => exact ⟨i, 0, Nat.le_refl _, by go_num, rfl, by show _ = _; rw [Int.sub_self], HI⟩
        case round =>
          obtain ⟨q, av, hq, rfl, rfl, HAV, HI⟩ := hrel
          clear hc
          have hav : 0 ≤ av ∧ av ≤ 256 := by
            have h1 := HOK.out.up (i := q) (j := i) hq (by have := HKL.out; omega)
            have h2 := (HOK.out.ends i (by have := HKL.out; omega)).2.2
            have h3 := (HOK.out.ends q (by have := HKL.out; omega)).1
            have h4 := HAV.out
            omega
          obtain ⟨hav0, hav1⟩ := hav
          rcases q with _ | j
          · have hz : ¬ (0 : Int) ≤ ((0 : Nat) : Int) - 1 := by omega
            obtain ⟨v', w', hrun, hN⟩ := HI.out.push (by omega) (x := av) (wf_i64.2 (by omega)) (by rw [HTO.out, HAV.out]; show _ - 0 = _; omega)
            have HR := Lib.hid hrun
            have HN := Lib.hid hN
            clear hrun hN HI
            go_wp2_with (at_builtin; refine wpList_append_run rfl (.tmp 62) (.tmp 64) 23 rfl rfl rfl HR.out ?_)
            go_roundw
            case rel => exact ⟨i + 1, _, by omega, by go_num, rfl, HN⟩
            case measure => simp [intOf]; omega
          · have e1 : ((j + 1 : Nat) : Int) - 1 = j := by omega
            obtain ⟨b2, off2, hb2, hlt2, hcs⟩ := HK.out.2.2 (by omega)
            injection hb2 with hb2
            injection hb2 with hb2 hb3
            subst hb2 hb3
            have HCC : Hid (∀ wx, Below w.heap.size w wx → wx.cell? ⟨b, off + j, none⟩ = some (.int .i64 (nth ks j))) := fun wx hb => (hb.cell (p := ⟨b, off + j, none⟩) hlt2).trans (hcs j (by omega))
            have hc := HCC.out _ HI.out.below
            clear hcs
            have hlv := HOK.out.live (i := j) (by have := HKL.out; omega)
            have hft := HOK.out.fits (i := j) (by have := HKL.out; omega)
            have hlg := live_lg hlv
            obtain ⟨t, hte, _, g2, g3, _, _, g6, _, _, _⟩ := live_facts HWF.out hlv
            have hes := endN_succ (zs := zs) (ks := ks) (ps := ps) (i := j)
            have hlI : lgI zs (nth ks j) = 1 + vR (nth zs t) + vB (nth zs t) := by unfold lgI; rw [hte, Int.toNat_natCast]; exact g6
            have hsum : av + lgI zs (nth ks j) ≤ 256 ∧ (nth ks j ∈ ps → av + lgI zs (nth ks j) + nth ks j = endN zs ks ps i) := by
              have h1 := HAV.out
              have h2 := (HOK.out.ends i (by have := HKL.out; omega)).2.2
              have h5 : toN zs ks ps j ≥ 0 := hft.1
              refine ⟨by omega, fun hm => ?_⟩
              rw [toN_pin hm] at hes
              omega
            have HC1 := Lib.hid (headLive_any A n c t zs _ (HA.out.later HI.out.below) HOK.out.arena (by rw [← hte]; exact hlv))
            rw [← hte] at HC1
            have HCI := Lib.hid (fun wx (hb : Below w.heap.size w wx) => in_ref P np cp _ (nth ks j) ps wx HNP.out (HP.out.below hb (Nat.le_refl _)))
            have hend := hes
            rw [hlI] at hsum hend
            clear hes hlg hte g6 hlI hft hlv
            generalize vR (nth zs t) = R at *
            generalize vB (nth zs t) = Bd at *
            generalize vT (nth zs t) = T at *
            have HHL := Lib.hid (fun wx => headLong_any R Bd T false wx g2 (by omega) g3 (by omega))
            have hL0 : 0 ≤ 1 + R + Bd := by omega
            generalize 1 + R + Bd = L at *
            have e2 : wrap64 (av + L) = av + L := by unfold wrap64; omega
            have hj0 : (0 : Int) ≤ (j : Int) := by omega
            obtain ⟨hs1, hs2⟩ := hsum
            by_cases hm : nth ks j ∈ ps
            · have hs3 := hs2 hm
              have hs4 := (HOK.out.ends i (by have := HKL.out; omega))
              have HV : Hid (av + L + nth ks j = toN zs ks ps i) := by show _ = _; rw [HTO.out]; exact hs3
              have e3 : wrap64 (av + L + nth ks j) = av + L + nth ks j := by unfold wrap64; omega
              have hwv : (Lit.int .i64 (av + L + nth ks j)).wf = true := wf_i64.2 (by omega)
              rw [show decide (nth ks j ∈ ps) = true by simpa using hm] at HCI
              clear hm hs2 hs3 hs4 hend
              generalize nth ks j = X at *
              go_wp2_with fail
              refine HC1.out.mono ?_
              rintro e w7 ⟨rfl, b7⟩
              have HI7 := Lib.hid ((HI.out.next b7).next ((Below.refl _ w7).alloc (Nat.le_refl _) (.cells #[.int .i64 R, .int .i64 Bd, .int .i64 T, .bool false] 61)))
              clear b7 HC1 hc
              go_wp2_with fail
              refine (HHL.out _).mono ?_
              rintro e w8 ⟨rfl, b8⟩
              have HI8 := Lib.hid (HI7.out.next b8)
              have hc := HCC.out _ HI8.out.below
              have HC8 := Lib.hid (HCI.out _ HI8.out.below)
              clear b8 HI7
              go_wp2_with fail
              refine HC8.out.mono ?_
              rintro e w9 ⟨rfl, rfl⟩
              obtain ⟨v', w', hrun, hN⟩ := HI8.out.push (by omega) (x := av + L + X) hwv HV.out
              have HR := Lib.hid hrun
              have HN := Lib.hid hN
              clear hrun hN HI8 HC8
              go_wp2_with (at_builtin; refine wpList_append_run rfl (.tmp 62) (.tmp 64) 23 rfl rfl rfl HR.out ?_)
              go_roundw
              case rel => exact ⟨i + 1, _, by omega, by go_num, rfl, HN⟩
              case measure => simp [intOf]; omega
            · have HAV2 : Hid (av + L = endN zs ks ps i - endN zs ks ps j) := by
                show _ = _
                have h1 := HAV.out
                rw [toN_move hm] at hend
                omega
              rw [show decide (nth ks j ∈ ps) = false by simpa using hm] at HCI
              clear hm hs2 hend
              generalize nth ks j = X at *
              go_wp2_with fail
              refine HC1.out.mono ?_
              rintro e w7 ⟨rfl, b7⟩
              have HI7 := Lib.hid ((HI.out.next b7).next ((Below.refl _ w7).alloc (Nat.le_refl _) (.cells #[.int .i64 R, .int .i64 Bd, .int .i64 T, .bool false] 61)))
              clear b7 HC1 hc
              go_wp2_with fail
              refine (HHL.out _).mono ?_
              rintro e w8 ⟨rfl, b8⟩
              have HI8 := Lib.hid (HI7.out.next b8)
              have hc := HCC.out _ HI8.out.below
              have HC8 := Lib.hid (HCI.out _ HI8.out.below)
              clear b8 HI7
              go_wp2_with fail
              refine HC8.out.mono ?_
              rintro e w9 ⟨rfl, rfl⟩
              go_wp2
              go_roundw
              case rel => exact ⟨j, av + L, by omega, by go_num, rfl, HAV2, HI8⟩
              case measure => simp [intOf]
    · obtain rfl : i = nk := by omega
      have HO := Lib.hid HI.out
      clear HI
      go_wp2
      go_ret
      exact ⟨_, rfl, by unfold toL; rw [HKL.out]; exact HO.out.own, HO.out.below⟩

/-- The memory that the closure of PlanGaps reads. -/
structure GfI (zs ks ps : List Int) (A K D : Option Addr) (n c nk ck dc kb ab tb : Nat) (wx : World) : Prop where
  kbox : Box wx kb 23 #[.slice K nk ck]
  abox : Box wx ab 22 #[.slice A n c]
  tbox : Box wx tb 23 #[.slice D nk dc]
  arrK : Arr .i64 wx wx.heap.size K nk ks
  arrA : Arr .u64 wx wx.heap.size A n zs
  arrT : Arr .i64 wx wx.heap.size D nk (toL zs ks ps)
theorem GfI.next {zs ks ps : List Int} {A K D : Option Addr} {n c nk ck dc kb ab tb : Nat} {wx wy : World} (h : GfI zs ks ps A K D n c nk ck dc kb ab tb wx) (hb : Below wx.heap.size wx wy) : GfI zs ks ps A K D n c nk ck dc kb ab tb wy :=
  ⟨h.kbox.below hb h.kbox.lt, h.abox.below hb h.abox.lt, h.tbox.below hb h.tbox.lt, h.arrK.later hb, h.arrA.later hb, h.arrT.later hb⟩

set_option maxRecDepth 8000 in
set_option maxHeartbeats 4000000 in
theorem planFree_any (A K D : Option Addr) (n c nk ck dc kb ab tb k : Nat) (zs ks ps : List Int) (w : World) (h : PlanOk zs ks ps) (hG : GfI zs ks ps A K D n c nk ck dc kb ab tb w) :
    Calls Try.prog 60 #[.int .i64 k, .pointer (some ⟨kb, 0, none⟩), .pointer (some ⟨ab, 0, none⟩), .pointer (some ⟨tb, 0, none⟩)] w fun e w' => e = .returned (.bool (freeP zs ks ps k)) ∧ Below w.heap.size w w' := by
  have HOK := Lib.hid h
  have HG := Lib.hid hG
  have hkl := hG.arrK.1
  have h256 := h.len
  have hn256 := arena_len h.arena
  rw [hkl] at h256
  have HKL := Lib.hid hkl
  have HWF := Lib.hid hG.arrA.2.1
  have HB0 : Hid (Below w.heap.size w w) := Below.refl _ _
  have d0 : w.cell? ⟨kb, 0, none⟩ = some (.slice K nk ck) := hG.kbox.cell 0
  clear h hG hkl
  go_enter Try.func60, Try.ntmps60
  go_wp2_with fail
  go_loopw [12] (fun i wr => ∃ j : Nat, j ≤ nk ∧ i = .int .i64 j ∧ Hid (Below w.heap.size w wr) ∧ Hid (∀ q, q < j → ¬ (toN zs ks ps q ≤ k ∧ (k : Int) < endN zs ks ps (q + 1)))) (fun i _ => nk - (intOf i).toNat)
  case atStart => exact ⟨0, Nat.zero_le _, rfl, HB0, fun q hq => absurd hq (by omega)⟩
  case round =>
    obtain ⟨j, hj, rfl, HB, HQ⟩ := hrel
    clear HB0 d0
    by_cases hlt : j < nk
    · have HGr := Lib.hid (HG.out.next HB.out)
      obtain ⟨b, off, rfl, _, hcs⟩ := HGr.out.arrK.2.2 (by omega)
      have hc := hcs j hlt
      have hjk : j < ks.length := by have := HKL.out; omega
      obtain ⟨b2, off2, rfl, hlt2, hts⟩ := HG.out.arrT.2.2 (by omega)
      have HCT : Hid (∀ wx, Below w.heap.size w wx → wx.cell? ⟨b2, off2 + j, none⟩ = some (.int .i64 (toN zs ks ps j))) := fun wx hb => by
        have h1 := (hb.cell (p := ⟨b2, off2 + j, none⟩) hlt2).trans (hts j hlt)
        rwa [show toL zs ks ps = toTo zs ks ps ks.length from rfl, toTo_nth hjk] at h1
      have hlv := HOK.out.live hjk
      have hft := HOK.out.fits hjk
      obtain ⟨t, hte, _, g2, g3, _, _, g6, _, _, _⟩ := live_facts HWF.out hlv
      have hes := endN_succ (zs := zs) (ks := ks) (ps := ps) (i := j)
      have hlI : lgI zs (nth ks j) = 1 + vR (nth zs t) + vB (nth zs t) := by unfold lgI; rw [hte, Int.toNat_natCast]; exact g6
      have HC1 := Lib.hid (headLive_any A n c t zs _ HGr.out.arrA HOK.out.arena (by rw [← hte]; exact hlv))
      rw [← hte] at HC1
      have d1 : wr.cell? ⟨ab, 0, none⟩ = some (.slice A n c) := HGr.out.abox.cell 0
      rw [hlI] at hes hft
      have hE : endN zs ks ps (j + 1) ≤ 256 := by rw [hes]; omega
      have HYES : Hid (toN zs ks ps j ≤ k ∧ (k : Int) < endN zs ks ps (j + 1) → freeP zs ks ps k = false) := fun hh => plan_taken hjk hh.1 hh.2
      have HNO : Hid (¬ (toN zs ks ps j ≤ k ∧ (k : Int) < endN zs ks ps (j + 1)) → ∀ q, q < j + 1 → ¬ (toN zs ks ps q ≤ k ∧ (k : Int) < endN zs ks ps (q + 1))) := fun hh q hq => by
        rcases Nat.lt_succ_iff_lt_or_eq.1 hq with h1 | h1
        · exact HQ.out q h1
        · rw [h1]; exact hh
      clear hcs hts hlv hte g6 hlI HQ
      generalize vR (nth zs t) = R at *
      generalize vB (nth zs t) = Bd at *
      generalize vT (nth zs t) = Tg at *
      have HHL := Lib.hid (fun wx => headLong_any R Bd Tg false wx g2 (by omega) g3 (by omega))
      rw [hes] at HYES HNO
      generalize toN zs ks ps j = T at *
      have hL0 : 1 ≤ 1 + R + Bd := by omega
      generalize 1 + R + Bd = L at *
      have e2 : wrap64 (T + L) = T + L := by unfold wrap64; omega
      generalize nth ks j = X at *
      clear hes hE hjk
      go_wp2_with fail
      refine HC1.out.mono ?_
      rintro e w7 ⟨rfl, b7⟩
      have bx := Box.new w7 61 #[.int .i64 R, .int .i64 Bd, .int .i64 Tg, .bool false]
      have HB8 : Hid (Below w.heap.size w (w7.alloc (.cells #[.int .i64 R, .int .i64 Bd, .int .i64 Tg, .bool false] 61))) := (HB.out.trans (b7.mono HB.out.size)).alloc (by have := HB.out.size; have := b7.size; omega) _
      have HG8 := Lib.hid (HG.out.next HB8.out)
      have ht8 := HCT.out _ HB8.out
      clear b7 HC1 d1 hc HGr
      go_wp2_with fail
      obtain ⟨g, hg⟩ : ∃ g, w7.heap.size = g := ⟨_, rfl⟩
      rw [hg] at bx
      rw [hg]
      clear hg
      generalize (w7.alloc (.cells #[.int .i64 R, .int .i64 Bd, .int .i64 Tg, .bool false] 61)) = W at *
      have a0 : W.cell? ⟨g, 0, none⟩ = some (.int .i64 R) := bx.cell 0
      have a1 : W.cell? ⟨g, 1, none⟩ = some (.int .i64 Bd) := bx.cell 1
      have a2 : W.cell? ⟨g, 2, none⟩ = some (.int .i64 Tg) := bx.cell 2
      have a3 : W.cell? ⟨g, 3, none⟩ = some (.bool false) := bx.cell 3
      have a4 : W.cell? ⟨tb, 0, none⟩ = some (.slice (some ⟨b2, off2, none⟩) nk dc) := HG8.out.tbox.cell 0
      have q0 := fun p => Later.cell (a := ⟨g, 0, none⟩) (by show g < _; exact bx.lt) a0 p
      have q1 := fun p => Later.cell (a := ⟨g, 1, none⟩) (by show g < _; exact bx.lt) a1 p
      have q2 := fun p => Later.cell (a := ⟨g, 2, none⟩) (by show g < _; exact bx.lt) a2 p
      have q3 := fun p => Later.cell (a := ⟨g, 3, none⟩) (by show g < _; exact bx.lt) a3 p
      have q4 := fun p => Later.cell (a := ⟨tb, 0, none⟩) (by show tb < _; exact HG8.out.tbox.lt) a4 p
      have q5 := fun p => Later.cell (a := ⟨b2, off2 + j, none⟩) (by show b2 < _; have := HB8.out.size; omega) ht8 p
      clear a0 a1 a2 a3 a4 bx ht8
      by_cases hx : T ≤ (k : Int)
      · have c1 : (T ≤ (k : Int)) = True := eq_true hx
        have c1' : ((k : Int) ≥ T) = True := eq_true hx
        by_cases hy : (k : Int) < T + L
        · have c2 : ((k : Int) < T + L) = True := eq_true hy
          have HF := Lib.hid (HYES.out ⟨hx, hy⟩)
          clear hx hy HYES HNO
          refine wp_region_later (by kernel_rfl) (by kernel_rfl) ?_
          repeat (go_big_quiet_step ((go_at_call 37; exact Later.call (HHL.out _))))
          refine wpQuiet_nil ?_
          rintro _ ⟨p, rfl⟩
          have HB9 := Lib.hid (HB8.out.trans (p.below.mono HB8.out.size))
          clear q0 q1 q2 q3 q4 q5
          go_wp2
          go_ret
          exact ⟨by rw [HF.out]; rfl, HB9.out⟩
        · have c2 : ((k : Int) < T + L) = False := eq_false hy
          have HF := Lib.hid (HNO.out (fun hh => hy hh.2))
          clear hx hy HYES HNO
          refine wp_region_later (by kernel_rfl) (by kernel_rfl) ?_
          repeat (go_big_quiet_step ((go_at_call 37; exact Later.call (HHL.out _))))
          refine wpQuiet_nil ?_
          rintro _ ⟨p, rfl⟩
          have HB9 := Lib.hid (HB8.out.trans (p.below.mono HB8.out.size))
          clear q0 q1 q2 q3 q4 q5
          go_wp2
          go_roundw
          case rel => exact ⟨j + 1, by omega, by go_num, HB9, HF⟩
          case measure => simp [intOf]; omega
      · have c1 : (T ≤ (k : Int)) = False := eq_false hx
        have c1' : ((k : Int) ≥ T) = False := eq_false hx
        have HF := Lib.hid (HNO.out (fun hh => hx hh.1))
        clear hx HYES HNO
        refine wp_region_later (by kernel_rfl) (by kernel_rfl) ?_
        repeat (go_big_quiet_step ((go_at_call 37; exact Later.call (HHL.out _))))
        refine wpQuiet_nil ?_
        rintro _ ⟨p, rfl⟩
        have HB9 := Lib.hid (HB8.out.trans (p.below.mono HB8.out.size))
        clear q0 q1 q2 q3 q4 q5
        go_wp2
        go_roundw
        case rel => exact ⟨j + 1, by omega, by go_num, HB9, HF⟩
        case measure => simp [intOf]; omega
    · obtain rfl : j = nk := by omega
      have HF : Hid (freeP zs ks ps k = true) := by
        show _ = _
        unfold freeP
        rw [Bool.not_eq_true', List.any_eq_false]
        intro q hq
        rw [List.mem_range] at hq
        rw [decide_eq_true_eq]
        exact HQ.out q (by have := HKL.out; omega)
      clear HQ
      go_wp2
      go_ret
      exact ⟨by rw [HF.out]; rfl, HB.out⟩

set_option maxRecDepth 8000 in
set_option maxHeartbeats 1000000 in
theorem planGapsRef_high (A K P : Option Addr) (n c nk ck np cp : Nat) (zs ks ps : List Int) (w : World) (ha : Arr .u64 w w.heap.size A n zs) (hk : Arr .i64 w w.heap.size K nk ks) (hnp : np ≤ maxLen) (hp : Arr .i64 w w.heap.size P np ps) (h : PlanOk zs ks ps) :
    Calls Try.prog 35 #[.slice A n c, .slice K nk ck, .slice P np cp] w fun e w' => ∃ D m d, e = .returned (.slice D m d) ∧ ArrG runC 2 w' w'.heap.size D m (gapP zs ks ps) ∧ High w.heap.size D m ∧ Below w.heap.size w w' := by
  have HOK := Lib.hid h
  have hn256 := arena_len h.arena
  have hal := ha.1
  have b1 := (Below.refl _ w).alloc (Nat.le_refl _) (.cells #[.slice A n c] 22)
  have x1 := Box.new w 22 #[.slice A n c]
  obtain ⟨w1, hw1⟩ : ∃ w1, w.alloc (.cells #[.slice A n c] 22) = w1 := ⟨_, rfl⟩
  have hsz : w1.heap.size = w.heap.size + 1 := by rw [← hw1]; simp
  rw [hw1] at b1 x1
  have b2 := (Below.refl _ w1).alloc (Nat.le_refl _) (.cells #[.slice K nk ck] 23)
  have x2 := Box.new w1 23 #[.slice K nk ck]
  rw [hsz] at x2
  have HB2 := Lib.hid (b1.trans (b2.mono b1.size))
  have X1 := Lib.hid (x1.below b2 x1.lt)
  have X2 := Lib.hid x2
  have HA := Lib.hid ha
  have HK := Lib.hid hk
  have HP := Lib.hid hp
  have HNP : Hid (np ≤ maxLen) := hnp
  rw [← hw1] at HB2 X1 X2
  clear ha hk hp h hnp b1 b2 x1 x2 hw1 hsz w1
  go_enter Try.func35, Try.ntmps35
  go_wp2_with fail
  generalize ((w.alloc (.cells #[.slice A n c] 22)).alloc (.cells #[.slice K nk ck] 23)) = W2 at *
  have HKL : Hid (ks.length = nk) := HK.out.1
  have HPL := Lib.hid (planned_any A K P n c nk ck np cp zs ks ps W2 (HA.out.later HB2.out) (HK.out.later HB2.out) HNP.out (HP.out.later HB2.out) HOK.out)
  refine HPL.out.mono ?_
  rintro e w3 ⟨v, rfl, hO, b3⟩
  obtain ⟨D, dc, rfl, _, hD⟩ := hO.arr
  rw [toL_len, HKL.out] at hD ⊢
  have HB3 := Lib.hid (HB2.out.trans (b3.mono HB2.out.size))
  have b4 := (Below.refl _ w3).alloc (Nat.le_refl _) (.cells #[.slice D nk dc] 23)
  have HB4 := Lib.hid (HB3.out.trans (b4.mono HB3.out.size))
  have HG4 : Hid (GfI zs ks ps A K D n c nk ck dc (w.heap.size + 1) w.heap.size w3.heap.size (w3.alloc (.cells #[.slice D nk dc] 23))) :=
    ⟨(X2.out.below b3 X2.out.lt).alloc _, (X1.out.below b3 X1.out.lt).alloc _, Box.new w3 23 #[.slice D nk dc], HK.out.later HB4.out, HA.out.later HB4.out, hD.later b4⟩
  have a0 : w3.cell? ⟨w.heap.size, 0, none⟩ = some (.slice A n c) := (X1.out.below b3 X1.out.lt).cell 0
  have HW := Lib.hid (b3.size)
  have HX1 : Hid (w.heap.size < w3.heap.size) := (X1.out.below b3 X1.out.lt).lt
  clear hO hD b3 b4 HPL HB2 X1 X2 HB3
  have a1 : (w3.alloc (.cells #[.slice D nk dc] 23)).cell? ⟨w.heap.size, 0, none⟩ = some (.slice A n c) := HG4.out.abox.cell 0
  have HRF := Lib.hid (runsOfR_any n 60 #[.pointer (some ⟨w.heap.size + 1, 0, none⟩), .pointer (some ⟨w.heap.size, 0, none⟩), .pointer (some ⟨w3.heap.size, 0, none⟩)] (freeP zs ks ps) (w3.alloc (.cells #[.slice D nk dc] 23)) (by omega) Try.call60 (fun wx hb k _ => planFree_any A K D n c nk ck dc _ _ _ k zs ks ps wx HOK.out (HG4.out.next hb)))
  clear HG4
  go_wp2_with fail
  refine HRF.out.mono ?_
  rintro e w5 ⟨v5, rfl, hO5, b5⟩
  have HB5 := Lib.hid (HB4.out.trans (b5.mono HB4.out.size))
  have hall := HOK.out.all
  rw [hal] at hall
  rw [hall] at hO5
  obtain ⟨E, ec, rfl, _, hE⟩ := hO5.arr runC_len
  have HE := Lib.hid hE
  have HHE := Lib.hid (hO5.high.less HB4.out.size)
  clear hE hO5 b5 HRF a0 a1
  go_wp2
  go_ret
  exact ⟨_, _, _, rfl, HE.out, HHE.out, HB5.out⟩
theorem planGapsRef_any (A K P : Option Addr) (n c nk ck np cp : Nat) (zs ks ps : List Int) (w : World) (ha : Arr .u64 w w.heap.size A n zs) (hk : Arr .i64 w w.heap.size K nk ks) (hnp : np ≤ maxLen) (hp : Arr .i64 w w.heap.size P np ps) (h : PlanOk zs ks ps) :
    Calls Try.prog 35 #[.slice A n c, .slice K nk ck, .slice P np cp] w fun e w' => ∃ D m d, e = .returned (.slice D m d) ∧ ArrG runC 2 w' w'.heap.size D m (gapP zs ks ps) ∧ Below w.heap.size w w' :=
  (planGapsRef_high A K P n c nk ck np cp zs ks ps w ha hk hnp hp h).mono fun _ _ ⟨D, m, d, h1, h2, _, h3⟩ => ⟨D, m, d, h1, h2, h3⟩
end Go.Proofs.Ythcilgannhldgaa
