/-
  Package young: Grow.
-/
import Derived.Test.YthdnfocemchgjaaGreatYoungH
namespace Go.Proofs.YthdnfocemchgjaaGreat
open Go.RowKit

/-- What holds while Grow goes over the spots: the words, and what lay there before they were copied. -/
structure GrI (zs old : List Int) (w8 : World) (gw : Nat) (W : Option Addr) (n cw k : Nat) (wr : World) : Prop where
  own : OwnF .u64 54 wr gw (.slice W n cw) (growS zs old k)
  below : Below gw w8 wr
  hgw : gw ≤ wr.heap.size
section
variable {zs old : List Int} {w8 wr wr' : World} {gw n cw k : Nat} {W : Option Addr}
theorem GrI.next (h : GrI zs old w8 gw W n cw k wr) (hb : Below wr.heap.size wr wr') : GrI zs old w8 gw W n cw k wr' :=
  ⟨h.own.below hb (Nat.le_refl _), h.below.trans (hb.mono h.hgw), Nat.le_trans h.hgw hb.size⟩
theorem GrI.to {k' : Nat} (h : GrI zs old w8 gw W n cw k wr) (e : growS zs old k' = growS zs old k) : GrI zs old w8 gw W n cw k' wr := ⟨by rw [e]; exact h.own, h.below, h.hgw⟩
theorem OwnF.whole {k : IntKind} {e : TypeId} {w : World} {base n c : Nat} {A : Option Addr} {xs : List Int} (h : OwnF k e w base (.slice A n c) xs) (h0 : 0 < n) : ∃ g sp, A = some ⟨g, 0, none⟩ ∧ base ≤ g ∧ n = xs.length ∧ (xs ++ sp).length = c ∧ c ≤ maxLen ∧ Whole k e w g (xs ++ sp) := by
  rcases h with ⟨h1, _⟩ | ⟨g, c', sp, h1, h2, h3, h4, hW⟩
  · injection h1 with _ e2
    omega
  · injection h1 with e1 e2 e3
    subst e3
    exact ⟨g, sp, e1, h2, e2, h3, h4, hW⟩
theorem GrI.gone {g : Nat} {sp : List Int} {p L : Nat} (h : GrI zs old w8 gw (some ⟨g, 0, none⟩) n cw k wr) (hg : gw ≤ g) (hn : n = (growS zs old k).length) (hc : (growS zs old k ++ sp).length = cw) (hm : cw ≤ maxLen) (e : growS zs old (k + 1) = emptyL (growS zs old k) p L) (hp : p + L ≤ (growS zs old k).length) (hw : Whole .u64 54 wr' g (emptyL (growS zs old k) p L ++ sp)) (hb : Below g wr wr') :
    GrI zs old w8 gw (some ⟨g, 0, none⟩) n cw (k + 1) wr' := by
  have hl := emptyL_len hp
  refine ⟨.inr ⟨g, cw, sp, by rw [e, hl, ← hn], hg, by rw [e, List.length_append, hl, ← List.length_append]; exact hc, hm, by rw [e]; exact hw⟩, h.below.trans (hb.mono hg), Nat.le_trans h.hgw hb.size⟩
end

set_option maxRecDepth 16000 in
set_option maxHeartbeats 2000000 in
theorem yGrow_any : YGrowC := by
  intro A G K F n c ng cg nb cb nf cf zs g b fr w h hnf hfr
  have HI := Lib.hid (YI.new h)
  have HZ := Lib.hid h.tri.arena.2.1
  have HSZ := Lib.hid h.sz
  have HKP : Hid (∀ wx, AgesIn wx A G K n c ng cg nb cb zs g b → Below w.heap.size w wx → Calls Tryz.prog 4 #[.agg #[.slice A n c, .slice G ng cg, .slice K nb cb], .slice F nf cf] wx (YKeepP zs g b fr wx)) := fun wx t hb => yKeep_any A G K F n c ng cg nb cb nf cf zs g b fr wx t hnf (hfr.later hb)
  have HSP := Lib.hid (fun wx (t : AgesIn wx A G K n c ng cg nb cb zs g b) => Spots_any A n c zs wx t.tri.hn t.tri.arena)
  have HWI := Lib.hid (fun wx (t : AgesIn wx A G K n c ng cg nb cb zs g b) (M : Option Addr) (m d : Nat) (ys : List Int) (hT : ng + m ≤ 1048576) (hm : Arr .i64 wx wx.heap.size M m ys) => youngWith_any G M ng cg m d g ys wx hT t.tri.grey hm)
  have HCL := Lib.hid (fun wx (t : AgesIn wx A G K n c ng cg nb cb zs g b) => cloneWordsF A n c zs wx (by have := h.sz.1; omega) t.tri.arena)
  clear h hnf hfr
  unfold YGrowP
  unfold ClonedOf at HCL
  unfold YKeepP at HKP
  unfold WithP at HWI
  unfold SpotsP at HSP
  go_enter Tryz.func5, Tryz.ntmps5
  go_wp2_with fail
  generalize ((w.alloc (.cells #[.slice A n c, .slice G ng cg, .slice K nb cb] 25)).alloc (.cells #[.slice none 0 0, .slice none 0 0, .slice none 0 0] 25)) = w1 at *
  obtain ⟨a0, a1, a2⟩ := HI.out.cells
  go_wp2_with fail
  refine (HKP.out _ HI.out.ages HI.out.below).mono ?_
  rintro e w2 ⟨B, m, d, rfl, b2, _, hB⟩
  have HI2 := Lib.hid (HI.out.next b2)
  have HB2 := Lib.hid hB
  clear b2 hB a0 a1 a2 HI HKP
  by_cases h0 : keepE zs g b fr = 0
  · have H0 := Lib.hid h0
    obtain ⟨hag, hfe⟩ := keepE_zero h0
    have HOK := Lib.hid (agesE_zero.1 hag)
    have HFE := Lib.hid hfe
    rw [keepO_ok h0] at HB2
    have HSE := Lib.hid (arErr_zero HOK.out.arena).1
    have HQ := Lib.hid (HSP.out w2 HI2.out.ages)
    rw [HSE.out] at HQ
    rw [h0]
    clear h0 hag hfe HSP
    obtain ⟨hsp, hrf⟩ := arErr_zero HOK.out.arena
    obtain ⟨h256, hfine⟩ := spErr_zero hsp
    have hL := spList_ok hsp
    have hbl := begins_len (zs := zs) (a := 0)
    have hlen : (spList zs).length = (begins zs 0).length := by rw [hL]; simp
    obtain ⟨ms, hm⟩ : ∃ m, (begins zs 0).length = m := ⟨_, rfl⟩
    rw [hm] at hlen hbl
    have HS : Hid (∀ k, k < ms → nthG (spList zs) k = spOf zs (st zs k) ∧ st zs k < zs.length) := fun k hk => by
      have h1 := begins_mem (st_mem (zs := zs) (k := k) (by omega))
      exact ⟨by rw [hL, nthG_map _ _ _ (by omega)]; rfl, by omega⟩
    have HFT : Hid (∀ k, k < ms → vF (nth zs (st zs k)) = false → hFault (vR (nth zs (st zs k))) (vB (nth zs (st zs k))) (vT (nth zs (st zs k))) false = 0 ∧ 1 + vR (nth zs (st zs k)) + vB (nth zs (st zs k)) = (longN zs (st zs k) : Int) ∧ 0 < longN zs (st zs k) ∧ st zs k + longN zs (st zs k) ≤ zs.length) := fun k hk hf => by
      obtain ⟨s, hse, h1, h2, h3, h4, h5, h6, h7, _, hf'⟩ := live_facts HZ.out (mem_lives.2 ⟨k, by omega, rfl, hf⟩)
      obtain rfl : st zs k = s := by omega
      rw [hf'] at h5
      obtain ⟨q1, _, q3⟩ := start_fits HOK.out.arena (st_mem (zs := zs) (k := k) (by omega))
      exact ⟨h5, h6.symm, q1, q3⟩
    rw [hlen] at HQ
    have HM := Lib.hid hm
    have HN : Hid (n = zs.length ∧ n ≤ 256) := ⟨HI2.out.ages.tri.arena.1.symm, by rw [← HI2.out.ages.tri.arena.1]; exact h256⟩
    have hms : ms ≤ 256 := by omega
    clear hsp hrf h256 hfine hL hlen hm hbl
    obtain ⟨a0, a1, a2⟩ := HI2.out.cells
    go_wp2_with fail
    refine HQ.out.mono ?_
    rintro e w3 ⟨A2, c2, rfl, b3, hc2, hA2, _⟩
    have HI3 := Lib.hid (HI2.out.next b3)
    have HA3 := Lib.hid hA2
    have HB3 := Lib.hid (HB2.out.later b3)
    clear b3 hc2 hA2 a0 a1 a2 HI2 HB2 HQ
    obtain ⟨hg256, hb256⟩ := ages_small HOK.out
    have hkl : (keptL zs g b fr).length ≤ 256 := Nat.le_trans (List.length_filter_le _ _) (lives_len (arena_len HOK.out.arena))
    have HQ := Lib.hid (HWI.out w3 HI3.out.ages B m d _ (by have := HI3.out.ages.tri.grey.1; have := HB3.out.1; omega) HB3.out)
    rw [grow_old HZ.out HOK.out HFE.out] at HQ
    clear hg256 hb256 hkl HWI
    obtain ⟨a0, a1, a2⟩ := HI3.out.cells
    go_wp2_with fail
    refine HQ.out.mono ?_
    rintro e w4 ⟨O, no, co, rfl, hno, hO, b4⟩
    have HI4 := Lib.hid (HI3.out.next b4)
    have HA4 := Lib.hid (HA3.out.below b4 (Nat.le_refl _))
    have HO4 := Lib.hid (hO.lessF HI3.out.below.size)
    have HNO := Lib.hid hno
    have HL34 := Lib.hid b4.size
    clear b4 hno hO a0 a1 a2 HB3 HA3 HQ
    have HQ := Lib.hid (HCL.out w4 HI4.out.ages)
    obtain ⟨a0, a1, a2⟩ := HI4.out.cells
    clear HCL
    go_wp2_with fail
    refine HQ.out.mono ?_
    rintro e w5 ⟨W, cw, rfl, hW, b5⟩
    have HG5 : Hid (GrI zs (newO zs g b fr) w4 w4.heap.size W n cw 0 w5) := ⟨by rw [growS_zero]; exact hW, b5, b5.size⟩
    have HNW := Lib.hid hW.arr
    clear b5 hW a0 a1 a2 HQ
    go_wp2_with fail
    go_loopw [43] (fun i wr => ∃ k : Nat, k ≤ ms ∧ i = .int .i64 k ∧ Hid (GrI zs (newO zs g b fr) w4 w4.heap.size W n cw k wr)) (fun i _ => ms - (intOf i).toNat)
    case atStart => exact ⟨0, Nat.zero_le _, rfl, HG5⟩
    case round =>
      obtain ⟨k, hk, rfl, hI⟩ := hrel
      clear HG5
      by_cases hlt : k < ms
      · obtain ⟨hs, hsn⟩ := HS.out k hlt
        have hkb : k < (begins zs 0).length := by rw [HM.out]; exact hlt
        obtain ⟨bb, off, rfl, _, q0, q1, q2, q3, q4⟩ := (HA4.out.below hI.out.below HL34.out).spot hlt
        rw [hs] at q0 q1 q2 q3 q4
        unfold spOf at q0 q1 q2 q3 q4
        simp only at q0 q1 q2 q3 q4
        cases hf : vF (nth zs (st zs k))
        · obtain ⟨f1, f2, f3, f4⟩ := HFT.out k hlt hf
          rw [hf] at q4
          have ba := (Below.refl _ wr).alloc (Nat.le_refl _) (.cells #[.int .i64 (st zs k), .int .i64 (vR (nth zs (st zs k))), .int .i64 (vB (nth zs (st zs k))), .int .i64 (vT (nth zs (st zs k))), .bool false] 56)
          have HNX := Lib.hid (hI.out.next ba)
          have HBX := Lib.hid (Box.new wr 56 #[.int .i64 (st zs k), .int .i64 (vR (nth zs (st zs k))), .int .i64 (vB (nth zs (st zs k))), .int .i64 (vT (nth zs (st zs k))), .bool false])
          obtain ⟨O', co', e1, hco, hOA, _⟩ := (HO4.out.below HNX.out.below (Nat.le_refl _)).arr
          injection e1 with e11 e12 e13
          rw [← e11, ← e12] at hOA
          have HHS := Lib.hid (youngHas_any O no co _ (newO zs g b fr) (st zs k : Int) _ (by have := hOA.1; have h1 : (newO zs g b fr).length ≤ 256 := Nat.le_trans (List.length_filter_le _ _) (lives_len (arena_len HOK.out.arena)); unfold maxLen; omega) hOA newO_rise)
          clear ba hI e11 e12 e13 hco hOA
          by_cases hin : (st zs k : Int) ∈ newO zs g b fr
          · have HN := Lib.hid (HNX.out.to (growS_old hkb hf hin))
            rw [show decide ((st zs k : Int) ∈ newO zs g b fr) = true by simpa using hin] at HHS
            clear hf hs hkb f1 f2 f3 f4 hin HNX HBX
            generalize vR (nth zs (st zs k)) = R at *
            generalize vB (nth zs (st zs k)) = Bd at *
            generalize vT (nth zs (st zs k)) = T at *
            generalize st zs k = s at *
            go_wp2_with fail
            refine HHS.out.mono ?_
            rintro e w9 ⟨rfl, rfl⟩
            go_wp2
            go_roundw
            case rel => exact ⟨k + 1, by omega, by go_num, HN⟩
            case measure => simp [intOf]; omega
          · have HGE := Lib.hid (growS_gone hkb hf hin)
            rw [show decide ((st zs k : Int) ∈ newO zs g b fr) = false by simpa using hin] at HHS
            clear hf hs hkb hin
            obtain ⟨L, hL⟩ : ∃ L, longN zs (st zs k) = L := ⟨_, rfl⟩
            rw [hL] at HGE f2 f3 f4
            clear hL
            generalize vR (nth zs (st zs k)) = R at *
            generalize vB (nth zs (st zs k)) = Bd at *
            generalize vT (nth zs (st zs k)) = T at *
            generalize st zs k = s at *
            have hn0 := HN.out
            have hgl := growS_len (zs := zs) (old := newO zs g b fr) (k := k)
            obtain ⟨gq, sp, hWq, hgq, hnq, hcq, hmq, hWH⟩ := HNX.out.own.whole (by omega)
            subst hWq
            have hncq : n ≤ cw := by rw [List.length_append] at hcq; omega
            obtain ⟨D, hs1, hD⟩ := run_from (P := Tryz.prog) Tryz.underlying22 u64_one (some ⟨gq, 0, none⟩) n cw s (s : Int) rfl (by omega) hncq
            obtain rfl := hD _ _ rfl (by omega)
            rw [Nat.zero_add] at hs1
            have HRE := Lib.hid (fun wx (hb : Below gq (wr.alloc (.cells #[.int .i64 s, .int .i64 R, .int .i64 Bd, .int .i64 T, .bool false] 56)) wx) (hW : Whole .u64 54 wx gq (growS zs (newO zs g b fr) k ++ sp)) => youngRelease_any gq s L cw (growS zs (newO zs g b fr) k) sp R Bd T wx f3 (by omega) (by omega) f1 f2 (by omega) hW)
            rw [hgl, ← hn0.1] at HRE
            have HGN := Lib.hid (fun wx hw hb => HNX.out.gone (wr' := wx) hgq hnq hcq hmq HGE.out (by omega) hw hb)
            have HWH := Lib.hid hWH
            have hle : s ≤ n := by omega
            have hne : ¬ cw = s := by omega
            clear hD hgl hWH f1 f2 f3 f4 hcq hmq HNX HGE hncq hn0 hnq hs1
            go_wp2_with fail
            generalize (wr.alloc (.cells #[.int .i64 s, .int .i64 R, .int .i64 Bd, .int .i64 T, .bool false] 56)) = W9 at *
            refine HHS.out.mono ?_
            rintro e w9 ⟨rfl, rfl⟩
            generalize wr.heap.size = gb at *
            have c0 : W9.cell? ⟨gb, 0, none⟩ = some (.int .i64 s) := HBX.out.cell 0
            have c1 : W9.cell? ⟨gb, 1, none⟩ = some (.int .i64 R) := HBX.out.cell 1
            have c2 : W9.cell? ⟨gb, 2, none⟩ = some (.int .i64 Bd) := HBX.out.cell 2
            have c3 : W9.cell? ⟨gb, 3, none⟩ = some (.int .i64 T) := HBX.out.cell 3
            have c4 : W9.cell? ⟨gb, 4, none⟩ = some (.bool false) := HBX.out.cell 4
            go_wp2_with fail
            refine wp_region_Y 6 (fun w' => w'.cell? ⟨gb, 0, none⟩ = some (.int .i64 s) ∧ w'.cell? ⟨gb, 1, none⟩ = some (.int .i64 R) ∧ w'.cell? ⟨gb, 2, none⟩ = some (.int .i64 Bd) ∧ w'.cell? ⟨gb, 3, none⟩ = some (.int .i64 T) ∧ w'.cell? ⟨gb, 4, none⟩ = some (.bool false)) (by kernel_rfl) ?_
            have hb0 : Below gq W9 (W9.drewN 1) := below_drewN (Below.refl _ _) 1
            have hw0 : Whole .u64 54 (W9.drewN 1) gq (growS zs (newO zs g b fr) k ++ sp) := HWH.out
            have HRE := Lib.hid (HRE.out _ hb0 hw0)
            have HB0 := Lib.hid hb0
            have hS0 : (W9.drewN 1).cell? ⟨gb, 0, none⟩ = some (.int .i64 s) ∧ (W9.drewN 1).cell? ⟨gb, 1, none⟩ = some (.int .i64 R) ∧ (W9.drewN 1).cell? ⟨gb, 2, none⟩ = some (.int .i64 Bd) ∧ (W9.drewN 1).cell? ⟨gb, 3, none⟩ = some (.int .i64 T) ∧ (W9.drewN 1).cell? ⟨gb, 4, none⟩ = some (.bool false) := ⟨c0, c1, c2, c3, c4⟩
            change anyY _ _ _ _ _ _ _ _ _ (W9.drewN 1)
            clear hb0 hw0 c0 c1 c2 c3 c4 HHS HWH HBX q0 q1 q2 q3 q4
            generalize (W9.drewN 1) = WX at *
            refine anyY_pure (i := 0) (v := .slice (some ⟨gq, 0, none⟩) n cw) rfl rfl rfl (by kernel_rfl) (by kernel_rfl) (by kernel_rfl) (fun _ _ _ h => h) (Or.inl ⟨by rfl, fun wx _ => ?_⟩) (.inr hS0) ?_
            · go_simp
            refine anyY_pure (i := 1) (v := .pointer (some ⟨gb, 0, none⟩)) rfl rfl rfl (by kernel_rfl) (by kernel_rfl) (by kernel_rfl) (fun _ _ _ h => h) (Or.inl ⟨by rfl, fun wx _ => ?_⟩) (.inr hS0) ?_
            · go_simp
            refine anyY_pure (i := 4) (v := .pointer (some ⟨gb, 1, none⟩)) rfl rfl rfl (by kernel_rfl) (by kernel_rfl) (by kernel_rfl) (fun _ _ _ h => h) (Or.inl ⟨by rfl, fun wx _ => ?_⟩) (.inr hS0) ?_
            · go_simp
            refine anyY_take (i := 5) (v := .agg #[.int .i64 R, .int .i64 Bd, .int .i64 T, .bool false]) rfl rfl (by kernel_rfl) rfl (by kernel_rfl) (by kernel_rfl) (by kernel_rfl) (by kernel_rfl) (fun _ _ _ h => h) (Or.inl ⟨by rfl, fun wx hS => ?_⟩) hS0 ?_
            · obtain ⟨q1, q2, q3, q4, q5⟩ := hS
              go_simp
            refine anyY_only (i := 2) (by kernel_rfl) ?_
            have HS0 := Lib.hid hS0
            obtain ⟨z0, z1, z2, z3, z4⟩ := hS0
            refine wpOp_step rfl fun K' hK' => ?_
            go_simp
            refine hK' _ _ ⟨.inr (.inr HS0.out), ?_⟩
            clear hK' z0 z1 z2 z3 z4
            refine anyY_pure (i := 3) (v := .slice (some ⟨gq, s, none⟩) (n - s) (cw - s)) rfl rfl rfl (by kernel_rfl) (by kernel_rfl) (by kernel_rfl) (fun _ _ _ h => h) (Or.inl ⟨by rfl, fun wx _ => ?_⟩) (.inr HS0.out) ?_
            · go_simp
            refine anyY_only (i := 6) (by kernel_rfl) ?_
            refine wpOp_step rfl fun K' hK' => ?_
            go_simp
            refine HRE.out.mono ?_
            rintro e w10 ⟨rfl, hW10, b10⟩
            have HN := Lib.hid (HGN.out w10 hW10 (HB0.out.trans b10))
            refine hK' _ _ ⟨.inr (.inl rfl), ?_⟩
            clear hK' HS0 HRE HGN HB0 hW10 b10
            refine anyY_pure (i := 7) (v := .int .i64 0) rfl rfl rfl (by kernel_rfl) (by kernel_rfl) (by kernel_rfl) (fun _ _ _ h => h) (Or.inl ⟨by rfl, fun wx _ => ?_⟩) (.inl (by kernel_rfl)) ?_
            · go_simp
            refine anyY_done (by kernel_rfl) ?_ _
            go_wp2
            go_roundw
            case rel => exact ⟨k + 1, by omega, by go_num, HN⟩
            case measure => simp [intOf]; omega
        · have HNX := Lib.hid ((hI.out.next ((Below.refl _ wr).alloc (Nat.le_refl _) (.cells #[.int .i64 (st zs k), .int .i64 (vR (nth zs (st zs k))), .int .i64 (vB (nth zs (st zs k))), .int .i64 (vT (nth zs (st zs k))), .bool true] 56))).to (growS_free hkb hf))
          rw [hf] at q4
          clear hf hs hI hkb
          generalize vR (nth zs (st zs k)) = R at *
          generalize vB (nth zs (st zs k)) = Bd at *
          generalize vT (nth zs (st zs k)) = T at *
          generalize st zs k = s at *
          go_wp2
          go_roundw
          case rel => exact ⟨k + 1, by omega, by go_num, HNX⟩
          case measure => simp [intOf]; omega
      · obtain rfl : k = ms := by omega
        have hown := hI.out.own
        rw [show growS zs (newO zs g b fr) k = growL zs (newO zs g b fr) by rw [← HM.out]; exact growS_all] at hown
        have HI9 := Lib.hid (HI4.out.next hI.out.below)
        have HW9 := Lib.hid (hown.lessF HI4.out.below.size)
        have HO9 := Lib.hid (HO4.out.below hI.out.below (Nat.le_refl _))
        obtain ⟨r0, r1, r2, s0, s1, s2⟩ := HI9.out.rcells
        clear hown hI HI4 HO4 HA4
        go_wp2
        obtain ⟨z1, z2, z3, z4⟩ := set3 HI9.out.below HI9.out.res (by omega : w.heap.size ≤ w.heap.size + 1) (.slice W n cw) (.slice O no co) (.slice none 0 0)
        obtain ⟨_, _, e1, hlo, ho, hso⟩ := HW9.out.arr
        injection e1 with e11 e12 e13
        obtain ⟨_, _, e2, hln, hn2, hsn⟩ := HO9.out.arr
        injection e2 with e21 e22 e23
        rw [← e11, ← e12] at ho
        rw [← e11, ← e13] at hso
        rw [← e12, ← e13] at hlo
        rw [← e21, ← e22] at hn2
        rw [← e21, ← e23] at hsn
        rw [← e22, ← e23] at hln
        clear e11 e12 e13 e21 e23
        have y1 := ho.set3 HI9.out.res z3 z4
        have y2 := hn2.set3 HI9.out.res z3 z4
        have q1 := hso.set3 HI9.out.res (by decide) (.slice W n cw) (.slice O no co) (.slice none 0 0)
        have q2 := hsn.set3 HI9.out.res (by decide) (.slice W n cw) (.slice O no co) (.slice none 0 0)
        generalize (((wr.setCell ⟨w.heap.size + 1, 0, none⟩ (.slice W n cw)).setCell ⟨w.heap.size + 1, 1, none⟩ (.slice O no co)).setCell ⟨w.heap.size + 1, 2, none⟩ (.slice none 0 0)) = W8 at *
        have x0 : W8.cell? ⟨w.heap.size + 1, 0, none⟩ = some (.slice W n cw) := z2.cell 0
        have x1 : W8.cell? ⟨w.heap.size + 1, 1, none⟩ = some (.slice O no co) := z2.cell 1
        have x2 : W8.cell? ⟨w.heap.size + 1, 2, none⟩ = some (.slice none 0 0) := z2.cell 2
        have hno : no ≤ 256 := by rw [e22]; exact Nat.le_trans (List.length_filter_le _ _) (lives_len (arena_len HOK.out.arena))
        have hn256 := HN.out.2
        refine bodyPost_ret (v := .tuple #[.agg #[.slice W n cw, .slice O no co, .slice none 0 0], .int .i64 0]) (by simp [results, Tryz.results5, go_sem, x0, x1, x2]) rfl ⟨W, n, cw, O, no, co, none, 0, 0, by rw [H0.out], z1, ?_⟩
        rw [growT_ok H0.out]
        exact ⟨⟨⟨y1, y2, Arr.zero, by unfold maxLen; omega, hlo, by unfold maxLen; omega, Nat.zero_le _⟩, hln, Nat.le_refl _, ⟨by omega, by omega, by decide⟩⟩, q1, q2, SpareI.nil⟩
  · have HT := Lib.hid (growT_bad (zs := zs) (g := g) (b := b) (fr := fr) h0)
    obtain ⟨E, hE⟩ : ∃ E, keepE zs g b fr = E := ⟨_, rfl⟩
    rw [hE] at h0 ⊢
    have HE := Lib.hid hE
    clear hE HB2 HSP HWI HCL
    have hb : (E != 0) = true := by simpa using h0
    clear h0
    obtain ⟨r0, r1, r2, s0, s1, s2⟩ := HI2.out.rcells
    go_wp2
    obtain ⟨z1, z2, _, _⟩ := set3 HI2.out.below HI2.out.res (by omega : w.heap.size ≤ w.heap.size + 1) (.slice none 0 0) (.slice none 0 0) (.slice none 0 0)
    generalize (((w2.setCell ⟨w.heap.size + 1, 0, none⟩ (.slice none 0 0)).setCell ⟨w.heap.size + 1, 1, none⟩ (.slice none 0 0)).setCell ⟨w.heap.size + 1, 2, none⟩ (.slice none 0 0)) = W5 at *
    have x0 : W5.cell? ⟨w.heap.size + 1, 0, none⟩ = some (.slice none 0 0) := z2.cell 0
    have x1 : W5.cell? ⟨w.heap.size + 1, 1, none⟩ = some (.slice none 0 0) := z2.cell 1
    have x2 : W5.cell? ⟨w.heap.size + 1, 2, none⟩ = some (.slice none 0 0) := z2.cell 2
    refine bodyPost_ret (v := .tuple #[.agg #[.slice none 0 0, .slice none 0 0, .slice none 0 0], .int .i64 E]) (by simp [results, Tryz.results5, go_sem, x0, x1, x2]) rfl ⟨none, 0, 0, none, 0, 0, none, 0, 0, by rw [HE.out], z1, by rw [HT.out]; exact AgesR.zero⟩
end Go.Proofs.YthdnfocemchgjaaGreat
