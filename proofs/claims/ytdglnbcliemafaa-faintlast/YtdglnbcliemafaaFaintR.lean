/-
  Contracts of the reference's SameFaint and FaintKept.
-/
import Derived.Test.YtdglnbcliemafaaFaintN
import Derived.Test.YtdglnbcliemafaaTintCW
namespace Go.Proofs.Ytdglnbcliemafaa
open Go.RowKit

section
variable {P : Program} {md : Region.Mode} {ops : Array Oper} {Q : Exit → Act → World → Prop} {S : World → Prop} {z : Nat}
/-- Two may come up. -/
theorem anyY_two {i j : Nat} {fuel : Nat} {listed : Array Bool} {a : Act} {w : World} (hr : Region.ready md ops listed = [i, j])
    (hi : wpOp P ops Q i (fun a' w' => (listed.getD z true = true ∨ i = z ∨ S w') ∧ anyY P md ops Q S z fuel (listed.setIfInBounds i true) a' w') a w)
    (hj : wpOp P ops Q j (fun a' w' => (listed.getD z true = true ∨ j = z ∨ S w') ∧ anyY P md ops Q S z fuel (listed.setIfInBounds j true) a' w') a w) : anyY P md ops Q S z (fuel + 1) listed a w := by
  refine ⟨fun h0 => absurd (hr.symm.trans h0) (by simp), fun k hk => ?_⟩
  rw [hr] at hk
  rcases List.mem_cons.1 hk with rfl | hk
  · exact hi
  · obtain rfl := List.mem_singleton.1 hk
    exact hj
end
set_option maxRecDepth 8000 in
set_option maxHeartbeats 1000000 in
theorem sameFaint_any (A B : Option Addr) (n c d g : Nat) (l : List (Int × Int)) (w : World) (hn : n ≤ maxLen) (ha : ArrG runC 2 w g A n l) (hb : ArrG runC 2 w g B n l) :
    Calls Try.prog 14 #[.slice A n c, .slice B n d] w fun e w' => e = .returned (.bool true) ∧ ∃ q, w.drewN q = w' := by
  have HA := Lib.hid ha
  have HB := Lib.hid hb
  unfold maxLen at hn
  clear ha hb
  go_enter Try.func14, Try.ntmps14
  go_wp2_with fail
  go_loopw [13] (fun i wr => (∃ q, w.drewN q = wr) ∧ ∃ k : Nat, k ≤ n ∧ i = .int .i64 k) (fun i _ => n - (intOf i).toNat)
  case atStart => exact ⟨⟨0, rfl⟩, 0, Nat.zero_le _, rfl⟩
  case round =>
    obtain ⟨⟨q, hq⟩, k, hk, rfl⟩ := hrel
    have HQ := Lib.hid hq
    by_cases hlt : k < n
    · obtain ⟨b, off, rfl, _, hc0, hc1⟩ := (show ArrG runC 2 wr g A n l by rw [← hq]; exact ArrG.drewN HA.out q).run hlt
      obtain ⟨b', off', rfl, _, hd0, hd1⟩ := (show ArrG runC 2 wr g B n l by rw [← hq]; exact ArrG.drewN HB.out q).run hlt
      clear hq
      generalize (nthG l k).1 = X at *
      generalize (nthG l k).2 = Y at *
      have hk0 : (0 : Int) ≤ (k : Int) := by omega
      have hk1 : (k : Int) < (n : Int) := by omega
      have e1 : (X == X) = true := by simp
      have e2 : (Y == Y) = true := by simp
      have e3 : (X != X) = false := by simp
      have e4 : (Y != Y) = false := by simp
      go_wp2_with fail
      refine wp_region_still_lit (by kernel_rfl) (by kernel_rfl) ?_
      iterate 9 still_step
      refine wpStill_nil ?_
      go_wp2
      go_roundw
      case rel => exact ⟨⟨q + 1, by rw [← HQ.out]; rfl⟩, k + 1, by omega, by go_num⟩
      case measure => simp [intOf]; omega
    · obtain rfl : k = n := by omega
      clear hq
      go_wp2
      go_ret
      exact ⟨rfl, q, HQ.out⟩

/-- What a pair adds, in memory. -/
def AddP (X : List Int) (w : World) (e : Ending) (w' : World) : Prop := ∃ A' c', e = .returned (.slice A' X.length c') ∧ Below w.heap.size w w' ∧ Arr .i64 w' w'.heap.size A' X.length X

set_option maxRecDepth 8000 in
set_option maxHeartbeats 4000000 in
theorem faintKept_any (A F P : Option Addr) (n c nf cf np cp : Nat) (zs fr : List Int) (ps : List (Int × Int)) (w : World) (h : ArenaFrom w A F n c nf cf zs fr) (hnf : nf * 8 ≤ 140737488351232) (hp : FaintsIn w P np cp ps) (hE : faintE zs fr ps = 0) :
    Calls Try.prog 11 #[.slice A n c, .slice F nf cf, .slice P np cp] w (AddP (faintL zs fr ps) w) := by
  obtain ⟨h0, h32, hpw⟩ := faintE_zero hE
  have HZ := Lib.hid h.arena.2.1
  have H0 := Lib.hid h0
  have HPW := Lib.hid hpw
  have HPL := Lib.hid hp.row.1
  have hnp : np ≤ 32 := by rw [← hp.row.1]; exact h32
  have HAR := Lib.hid (arena_len (fromE_zero h0).1)
  have HRD := Lib.hid (reached_any A F n c nf cf zs fr w h.arena h.from_ hnf h0)
  have HRE := Lib.hid (fun wx (hb : Below w.heap.size w wx) (X : Option Addr) (m d : Nat) (xs : List Int) (hx : Arr .i64 wx wx.heap.size X m xs) (hm : m ≤ 1000) (hf : fromE zs xs = 0) => reached_any A X n c m d zs xs wx (h.later hb).arena hx (by omega) hf)
  have HP := Lib.hid (fun wx (hb : Below w.heap.size w wx) => (hp.later hb).row)
  have HWP := Lib.hid hp.wf
  have HRO := Lib.hid (rounds_all h.arena.2.1 h0 hpw)
  have HOK := Lib.hid (fun r => (round_ok h.arena.2.1 h0 hpw r).1)
  have HIN := Lib.hid (fun r i (hi : i ≤ ps.length) => ((round_ok h.arena.2.1 h0 hpw r).1.inTo h.arena.2.1 h0 hpw i hi).1)
  clear h hp hE h0 h32 hpw hnf
  unfold AddP
  go_enter Try.func11, Try.ntmps11
  go_wp2_with fail
  refine HRD.out.mono ?_
  rintro e w1 ⟨A1, c1, rfl, b1, hA1⟩
  have HB1 := Lib.hid b1
  have HA1 := Lib.hid hA1
  clear b1 hA1 HRD
  go_wp2_with fail
  go_loopw [7, 15] (fun v i wr => ∃ r : Nat, r ≤ np ∧ i = .int .i64 r ∧ (∃ X m d, v = .slice X m d ∧ Hid (Arr .i64 wr wr.heap.size X m (roundF zs ps fr r))) ∧ Hid (Below w.heap.size w wr)) (fun _ i _ => np - (intOf i).toNat)
  case atStart => exact ⟨0, Nat.zero_le _, rfl, ⟨A1, _, c1, rfl, HA1⟩, HB1⟩
  case round =>
    obtain ⟨r, hr, rfl, ⟨X, m, d, rfl, HX⟩, HB⟩ := hrel
    clear HA1 HB1
    by_cases hlt : r < np
    · go_wp2_with fail
      have HX0 : Hid (Arr .i64 wr wr.heap.size X m (inTo zs ps (roundF zs ps fr r) 0)) := HX
      clear HX
      generalize wr = W1 at *
      go_loopw [7, 19] (fun v i wr => ∃ k : Nat, k ≤ np ∧ i = .int .i64 k ∧ (∃ X m d, v = .slice X m d ∧ Hid (Arr .i64 wr wr.heap.size X m (inTo zs ps (roundF zs ps fr r) k))) ∧ Hid (Below w.heap.size w wr)) (fun _ i _ => np - (intOf i).toNat)
      case atStart => exact ⟨0, Nat.zero_le _, rfl, ⟨X, m, d, rfl, HX0⟩, HB⟩
      case round =>
        clear HX0 HB
        obtain ⟨k, hk, rfl, ⟨X, m, d, rfl, HX⟩, HB⟩ := hrel
        by_cases hkl : k < np
        · have hm : nthG ps k ∈ ps := by rw [nthG_get _ _ (by have := HPL.out; omega)]; exact List.getElem_mem _
          have hF := HIN.out r k (by have := HPL.out; omega)
          obtain ⟨b, off, rfl, hbl, hc0, hc1⟩ := (HP.out wr HB.out).run hkl
          have hnx : inTo zs ps (roundF zs ps fr r) (k + 1) = addF zs (inTo zs ps (roundF zs ps fr r) k) (nthG ps k) := rfl
          have hm256 : m ≤ 256 := by
            rw [← HX.out.1]
            exact Nat.le_trans (sub_length (hF.rise.imp fun h => Int.ne_of_lt h) hF.live) (lives_len HAR.out)
          have ba := (Below.refl _ wr).alloc (Nat.le_refl _) (.cells #[.int .i64 (nthG ps k).1, .int .i64 (nthG ps k).2] 32)
          have HBA := Lib.hid (bthen HB.out ba)
          have HXA := Lib.hid (HX.out.later ba)
          have HIR := Lib.hid (in_ref X m d _ (nthG ps k).1 _ _ (by unfold maxLen; omega) HXA.out)
          have HBX := Lib.hid (Box.new wr 32 #[.int .i64 (nthG ps k).1, .int .i64 (nthG ps k).2])
          by_cases hin : (nthG ps k).1 ∈ inTo zs ps (roundF zs ps fr r) k
          · have hl2 : (nthG ps k).2 ∈ livesI zs := (fromE_zero HPW.out).2 _ (pairW_mem.2 ⟨_, hm, .inr rfl⟩)
            have hfe : fromE zs (inTo zs ps (roundF zs ps fr r) k ++ [(nthG ps k).2]) = 0 := fromE_ok (fromE_zero H0.out).1 fun x hx => by
              rcases List.mem_append.1 hx with hx | hx
              · exact hF.live x hx
              · rw [List.mem_singleton.1 hx]; exact hl2
            have HXN : Hid (reachL zs (inTo zs ps (roundF zs ps fr r) k ++ [(nthG ps k).2]) = inTo zs ps (roundF zs ps fr r) (k + 1)) := by
              show _ = _
              rw [hnx]
              unfold addF
              rw [if_pos hin]
            have hwv := (HWP.out _ hm).2
            rw [show decide ((nthG ps k).1 ∈ inTo zs ps (roundF zs ps fr r) k) = true by simpa using hin] at HIR
            clear hin hnx hF hm ba HX
            generalize (nthG ps k).1 = U at *
            generalize (nthG ps k).2 = V at *
            generalize inTo zs ps (roundF zs ps fr r) k = xs at *
            go_wp2_with fail
            generalize wr.heap.size = gp at *
            generalize (wr.alloc (.cells #[.int .i64 U, .int .i64 V] 32)) = wa at *
            refine HIR.out.mono ?_
            rintro e w3 ⟨rfl, rfl⟩
            have y0 : wa.cell? ⟨gp, 1, none⟩ = some (.int .i64 V) := HBX.out.cell 1
            have hgp := HBX.out.lt
            -- the words first, then the value's box
            have bw : Below wa.heap.size wa (wa.drewN 1) := below_drewN (Below.refl _ _) 1
            obtain ⟨v4, w4, hr4, hO4, hb4⟩ := Own.madeB (P := Try.prog) (t := 23) (ty := 23) (w := wa.drewN 1) (base := wa.heap.size) (c := d) Try.underlying23 intI_info (HXA.out.drewN 1) (by omega) (Nat.le_refl _)
            have hb4' : Below wa.heap.size wa w4 := bw.trans hb4
            have hbA := (Below.refl _ w4).alloc (Nat.le_refl _) (.cells #[.int .i64 V] 3)
            have hWA : Whole .i64 3 (w4.alloc (.cells #[.int .i64 V] 3)) w4.heap.size [V] := whole_new .i64 3 w4 [V] (by simpa using hwv)
            obtain ⟨v5, w5, hr5, hO5, hb5⟩ := (hO4.below hbA).cat (P := Try.prog) (t := 23) (ty := 23) (c := 1) Try.underlying23 intI_info (Nat.le_refl _) (hWA.arr hWA.lt) (by have := HXA.out.1; show xs.length + 1 ≤ _; omega) (Nat.le_trans hb4'.size hbA.size)
            have hb5' : Below wa.heap.size wa w5 := (bthen hb4' hbA).trans hb5
            obtain ⟨A5, c5, hv5, _, hA5⟩ := hO5.arr
            subst hv5
            -- the other way round
            have hbB := (Below.refl _ (wa.drewN 1)).alloc (Nat.le_refl _) (.cells #[.int .i64 V] 3)
            have hWB : Whole .i64 3 ((wa.drewN 1).alloc (.cells #[.int .i64 V] 3)) wa.heap.size [V] := whole_at .i64 3 [V] (by simpa using hwv) rfl
            obtain ⟨v6, w6, hr6, hO6, hb6⟩ := Own.madeB (P := Try.prog) (t := 23) (ty := 23) (w := (wa.drewN 1).alloc (.cells #[.int .i64 V] 3)) (base := ((wa.drewN 1).alloc (.cells #[.int .i64 V] 3)).heap.size) (c := d) Try.underlying23 intI_info ((HXA.out.drewN 1).later hbB) (by omega) (Nat.le_refl _)
            have hWB6 := hWB.below hb6 hWB.lt
            obtain ⟨v7, w7, hr7, hO7, hb7⟩ := hO6.cat (P := Try.prog) (t := 23) (ty := 23) (c := 1) Try.underlying23 intI_info (Nat.le_refl _) (hWB6.arr hWB6.lt) (by have := HXA.out.1; show xs.length + 1 ≤ _; omega) hb6.size
            have hb7' : Below wa.heap.size wa w7 := (bw.trans hbB).trans ((hb6.trans hb7).mono (Nat.le_trans (Nat.le_refl _) hbB.size))
            have hb6' : Below wa.heap.size wa w6 := (bw.trans hbB).trans (hb6.mono hbB.size)
            obtain ⟨A7, c7, hv7, _, hA7⟩ := hO7.arr
            subst hv7
            have y4 : w4.cell? ⟨gp, 1, none⟩ = some (.int .i64 V) := (hb4'.cell hgp).trans y0
            have y5 : w5.cell? ⟨gp, 1, none⟩ = some (.int .i64 V) := (hb5'.cell hgp).trans y0
            have y6 : w6.cell? ⟨gp, 1, none⟩ = some (.int .i64 V) := (hb6'.cell hgp).trans y0
            have y7 : w7.cell? ⟨gp, 1, none⟩ = some (.int .i64 V) := (hb7'.cell hgp).trans y0
            have hlq : (xs ++ [V]).length ≤ 1000 := by have := HXA.out.1; rw [List.length_append]; show xs.length + 1 ≤ _; omega
            have HREA := Lib.hid (HRE.out w5 (bthen HBA.out hb5') A5 _ c5 _ hA5 hlq hfe)
            have HREB := Lib.hid (HRE.out w7 (bthen HBA.out hb7') A7 _ c7 _ hA7 hlq hfe)
            rw [HXN.out] at HREA HREB
            have HB5 := Lib.hid (bthen HBA.out hb5')
            have HB7 := Lib.hid (bthen HBA.out hb7')
            have HG5 := Lib.hid (Nat.lt_of_lt_of_le hgp hb5'.size)
            have HG7 := Lib.hid (Nat.lt_of_lt_of_le hgp hb7'.size)
            have HR4 := Lib.hid hr4
            have HR5 := Lib.hid hr5
            have HR6 := Lib.hid hr6
            have HR7 := Lib.hid hr7
            obtain ⟨q, hq⟩ : ∃ q, (xs ++ [V]).length = q := ⟨_, rfl⟩
            rw [hq] at HREA HREB HR5 HR7
            clear hq hlq hr4 hr5 hr6 hr7 hO4 hO5 hO6 hO7 hb4 hb5 hb6 hb7 hb4' hb5' hb6' hb7' hbA hbB hWA hWB hWB6 hA5 hA7 bw HIR HXA HBX hwv hfe hl2 hbl hc0 hc1
            go_wp2_with fail
            refine wp_region_Y 5 (fun w' => w'.cell? ⟨gp, 1, none⟩ = some (.int .i64 V)) (by kernel_rfl) ?_
            change anyY _ _ _ _ _ _ _ _ _ (wa.drewN 1)
            have hS0 : (wa.drewN 1).cell? ⟨gp, 1, none⟩ = some (.int .i64 V) := y0
            refine anyY_pure (i := 0) (v := .slice A n c) rfl rfl rfl (by kernel_rfl) (by kernel_rfl) (by kernel_rfl) (fun _ _ _ h => h) (Or.inl ⟨by rfl, fun wx _ => ?_⟩) (.inr hS0) ?_
            · go_simp
            refine anyY_pure (i := 1) (v := .slice X m d) rfl rfl rfl (by kernel_rfl) (by kernel_rfl) (by kernel_rfl) (fun _ _ _ h => h) (Or.inl ⟨by rfl, fun wx _ => ?_⟩) (.inr hS0) ?_
            · go_simp
            refine anyY_pure (i := 3) (v := .pointer (some ⟨gp, 1, none⟩)) rfl rfl rfl (by kernel_rfl) (by kernel_rfl) (by kernel_rfl) (fun _ _ _ h => h) (Or.inl ⟨by rfl, fun wx _ => ?_⟩) (.inr hS0) ?_
            · go_simp
            refine anyY_take (i := 4) (v := .int .i64 V) rfl rfl (by kernel_rfl) rfl (by kernel_rfl) (by kernel_rfl) (by kernel_rfl) (by kernel_rfl) (fun _ _ _ h => h) (Or.inl ⟨by rfl, fun wx hS => ?_⟩) hS0 ?_
            · have q0 := hS
              go_simp
            change anyY _ _ _ _ _ _ _ _ { tmps := #[.slice A n c, .slice F nf cf, .slice (some ⟨b, off, none⟩) np cp, undef, undef, undef, .slice none 0 0, .slice X m d, undef, .pointer (some ⟨gp, 0, none⟩), .slice A n c, .slice F nf cf, .slice A1 (reachL zs fr).length c1, .slice (some ⟨b, off, none⟩) np cp, .int .i64 np, .int .i64 r, .bool true, .slice (some ⟨b, off, none⟩) np cp, .int .i64 np, .int .i64 k, .bool true, .pointer (some ⟨b, off + k * 2, none⟩), .agg #[.int .i64 U, .int .i64 V], .slice X m d, .pointer (some ⟨gp, 0, none⟩), .int .i64 U, .bool true, .slice A n c, .slice X m d, _, .pointer (some ⟨gp, 1, none⟩), .int .i64 V, _, _, _, _, _, undef], defers := [] } _
            refine anyY_two (i := 2) (j := 5) (by kernel_rfl) ?_ ?_
            · refine wpOp_step rfl fun K' hK' => ?_
              refine step_append_run rfl (.const (.slice none 0 0)) (.tmp 28) 23 rfl rfl rfl HR4.out ?_
              refine hK' _ _ ⟨.inr (.inr y4), ?_⟩
              clear hK'
              refine anyY_only (i := 5) (by kernel_rfl) ?_
              refine wpOp_step rfl fun K' hK' => ?_
              go_simp
              refine hK' _ _ ⟨.inr (.inl rfl), ?_⟩
              clear hK'
              refine anyY_only (i := 6) (by kernel_rfl) ?_
              refine wpOp_step rfl fun K' hK' => ?_
              refine step_append_run rfl (.tmp 29) (.tmp 32) 23 rfl rfl rfl HR5.out ?_
              refine hK' _ _ ⟨.inl (by kernel_rfl), ?_⟩
              clear hK'
              refine anyY_only (i := 7) (by kernel_rfl) ?_
              refine wpOp_step rfl fun K' hK' => ?_
              go_simp
              refine HREA.out.mono ?_
              rintro e w9 ⟨A9, c9, rfl, b9, hA9⟩
              have HB9 := Lib.hid (bthen HB5.out b9)
              have HA9 := Lib.hid hA9
              clear b9 hA9
              refine hK' _ _ ⟨.inl (by kernel_rfl), ?_⟩
              clear hK'
              refine anyY_pure (i := 8) (v := .slice A9 (inTo zs ps (roundF zs ps fr r) (k + 1)).length c9) rfl rfl rfl (by kernel_rfl) (by kernel_rfl) (by kernel_rfl) (fun _ _ _ h => h) (Or.inl ⟨by rfl, fun wx _ => ?_⟩) (.inl (by kernel_rfl)) ?_
              · go_simp
              refine anyY_done (by kernel_rfl) ?_ _
              clear y4 y5 y6 y7 y0 hS0 HREA HREB HR4 HR5 HR6 HR7 HB5 HB7
              go_wp2
              go_roundw
              case rel => exact ⟨k + 1, by omega, by go_num, ⟨A9, _, c9, rfl, HA9⟩, HB9⟩
              case measure => simp [intOf]; omega
            · refine wpOp_step rfl fun K' hK' => ?_
              go_simp
              refine hK' _ _ ⟨.inr (.inl rfl), ?_⟩
              clear hK'
              refine anyY_only (i := 2) (by kernel_rfl) ?_
              refine wpOp_step rfl fun K' hK' => ?_
              refine step_append_run rfl (.const (.slice none 0 0)) (.tmp 28) 23 rfl rfl rfl HR6.out ?_
              refine hK' _ _ ⟨.inl (by kernel_rfl), ?_⟩
              clear hK'
              refine anyY_only (i := 6) (by kernel_rfl) ?_
              refine wpOp_step rfl fun K' hK' => ?_
              refine step_append_run rfl (.tmp 29) (.tmp 32) 23 rfl rfl rfl HR7.out ?_
              refine hK' _ _ ⟨.inl (by kernel_rfl), ?_⟩
              clear hK'
              refine anyY_only (i := 7) (by kernel_rfl) ?_
              refine wpOp_step rfl fun K' hK' => ?_
              go_simp
              refine HREB.out.mono ?_
              rintro e w9 ⟨A9, c9, rfl, b9, hA9⟩
              have HB9 := Lib.hid (bthen HB7.out b9)
              have HA9 := Lib.hid hA9
              clear b9 hA9
              refine hK' _ _ ⟨.inl (by kernel_rfl), ?_⟩
              clear hK'
              refine anyY_pure (i := 8) (v := .slice A9 (inTo zs ps (roundF zs ps fr r) (k + 1)).length c9) rfl rfl rfl (by kernel_rfl) (by kernel_rfl) (by kernel_rfl) (fun _ _ _ h => h) (Or.inl ⟨by rfl, fun wx _ => ?_⟩) (.inl (by kernel_rfl)) ?_
              · go_simp
              refine anyY_done (by kernel_rfl) ?_ _
              clear y4 y5 y6 y7 y0 hS0 HREA HREB HR4 HR5 HR6 HR7 HB5 HB7
              go_wp2
              go_roundw
              case rel => exact ⟨k + 1, by omega, by go_num, ⟨A9, _, c9, rfl, HA9⟩, HB9⟩
              case measure => simp [intOf]; omega
          · have HXN : Hid (Arr .i64 (wr.alloc (.cells #[.int .i64 (nthG ps k).1, .int .i64 (nthG ps k).2] 32)) (wr.alloc (.cells #[.int .i64 (nthG ps k).1, .int .i64 (nthG ps k).2] 32)).heap.size X m (inTo zs ps (roundF zs ps fr r) (k + 1))) := by
              rw [hnx]
              unfold addF
              rw [if_neg hin]
              exact HXA
            rw [show decide ((nthG ps k).1 ∈ inTo zs ps (roundF zs ps fr r) k) = false by simpa using hin] at HIR
            clear hin hnx hF hm ba HXA HBX HX
            generalize (nthG ps k).1 = U at *
            generalize (nthG ps k).2 = V at *
            go_wp2_with fail
            refine HIR.out.mono ?_
            rintro e w3 ⟨rfl, rfl⟩
            go_wp2
            go_roundw
            case rel => exact ⟨k + 1, by omega, by go_num, ⟨X, m, d, rfl, HXN⟩, HBA⟩
            case measure => simp [intOf]; omega
        · obtain rfl : k = np := by omega
          have HXN : Hid (Arr .i64 wr wr.heap.size X m (roundF zs ps fr (r + 1))) := by
            show Arr .i64 wr wr.heap.size X m (inTo zs ps (roundF zs ps fr r) ps.length)
            rw [HPL.out]
            exact HX.out
          clear HX
          go_wp2
          go_roundw
          case rel => exact ⟨r + 1, by omega, by go_num, ⟨X, m, d, rfl, HXN⟩, HB⟩
          case measure => simp [intOf]; omega
    · obtain rfl : r = np := by omega
      have hXl := HX.out
      rw [show roundF zs ps fr r = faintL zs fr ps by rw [← HRO.out, HPL.out]] at hXl
      have HXL := Lib.hid hXl
      clear hXl HX
      go_wp2
      go_ret
      exact ⟨X, d, by rw [HXL.out.1]; rfl, HB.out, by rw [HXL.out.1]; exact HXL.out⟩
end Go.Proofs.Ytdglnbcliemafaa
