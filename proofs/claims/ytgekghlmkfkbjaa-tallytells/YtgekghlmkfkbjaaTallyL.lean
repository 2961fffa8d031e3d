/-
  Package tally: load.
-/
import Derived.Test.YtgekghlmkfkbjaaTallyP
namespace Go.Proofs.Ytgekghlmkfkbjaa
open Go.RowKit

set_option maxRecDepth 8000 in
set_option maxHeartbeats 2000000 in
theorem tload_bad (A : Option Addr) (n c : Nat) (zs : List Int) (w : World) (hn : n ≤ maxLen) (hnc : n ≤ c) (ha : Arr .u64 w w.heap.size A n zs) (h : arErr zs ≠ 0) :
    Calls Try.prog 51 #[.slice A n c] w (TLoadP zs w) := by
  have b0 := (Below.refl _ w).alloc (Nat.le_refl _) (.cells #[.map none, .map none, .slice none 0 0] 48)
  have HC := Lib.hid (Check_any A n c zs _ hn hnc ((ha.below b0 (Nat.le_refl _)).more b0.size))
  have H0 := Lib.hid h
  clear ha b0
  unfold TLoadP
  generalize arErr zs = E at *
  have hb : (E != 0) = true := by simpa using h
  clear h
  go_enter Try.func51, Try.ntmps51
  go_wp2_with fail
  refine HC.out.mono ?_
  rintro e w1 ⟨rfl, b1⟩
  obtain ⟨bx, b1⟩ := boxed_call b1
  have s0 := bx.soft 0
  have s1 := bx.soft 1
  have s2 := bx.soft 2
  have d0 : w1.cell? ⟨w.heap.size, 0, none⟩ = some (.map none) := bx.cell 0
  have d1 : w1.cell? ⟨w.heap.size, 1, none⟩ = some (.map none) := bx.cell 1
  have d2 : w1.cell? ⟨w.heap.size, 2, none⟩ = some (.slice none 0 0) := bx.cell 2
  have BX := Lib.hid bx
  have HB := Lib.hid b1
  clear bx b1 HC
  go_wp2
  have BY := ((BX.out.set 0 (.map none)).set 1 (.map none)).set 2 (.slice none 0 0)
  have HB' := below_set (below_set (below_set HB.out (Nat.le_refl _) 0 (.map none)) (Nat.le_refl _) 1 (.map none)) (Nat.le_refl _) 2 (.slice none 0 0)
  generalize (((w1.setCell ⟨w.heap.size, 0, none⟩ (.map none)).setCell ⟨w.heap.size, 1, none⟩ (.map none)).setCell ⟨w.heap.size, 2, none⟩ (.slice none 0 0)) = W at *
  have x0 : W.cell? ⟨w.heap.size, 0, none⟩ = some (.map none) := BY.cell 0
  have x1 : W.cell? ⟨w.heap.size, 1, none⟩ = some (.map none) := BY.cell 1
  have x2 : W.cell? ⟨w.heap.size, 2, none⟩ = some (.slice none 0 0) := BY.cell 2
  refine bodyPost_ret (v := .tuple #[.agg #[.map none, .map none, .slice none 0 0], .int .i64 E]) (by simp [results, Try.results51, go_sem, x0, x1, x2]) rfl ⟨HB', .inl ⟨H0.out, rfl⟩⟩

set_option maxRecDepth 8000 in
set_option maxHeartbeats 4000000 in
theorem tload_good (A : Option Addr) (n c : Nat) (zs : List Int) (w : World) (hn : n ≤ maxLen) (hnc : n ≤ c) (ha : Arr .u64 w w.heap.size A n zs) (h : arErr zs = 0) :
    Calls Try.prog 51 #[.slice A n c] w (TLoadP zs w) := by
  obtain ⟨hsp, hrf⟩ := arErr_zero h
  obtain ⟨h256, hfine⟩ := spErr_zero hsp
  have hl := ha.1
  have hL := spList_ok hsp
  have hbl := begins_len (zs := zs) (a := 0)
  have hlen : (spList zs).length = (begins zs 0).length := by rw [hL]; simp
  obtain ⟨m, hm⟩ : ∃ m, (begins zs 0).length = m := ⟨_, rfl⟩
  rw [hm] at hlen hbl
  have hspot : ∀ k, k < m → nthG (spList zs) k = spOf zs (st zs k) ∧ st zs k < n := fun k hk => by
    have h1 := begins_mem (st_mem (zs := zs) (k := k) (by omega))
    exact ⟨by rw [hL, nthG_map _ _ _ (by omega)]; rfl, by omega⟩
  have b0 := (Below.refl _ w).alloc (Nat.le_refl _) (.cells #[.map none, .map none, .slice none 0 0] 48)
  have HC := Lib.hid (Check_any A n c zs _ hn hnc ((ha.below b0 (Nat.le_refl _)).more b0.size))
  rw [h] at HC
  have HA0 := Lib.hid ha
  have HAR := Lib.hid h
  have HE := Lib.hid hsp
  have HS := Lib.hid hspot
  have HM := Lib.hid hm
  have HZL := Lib.hid hl
  clear b0 ha h hsp hrf hfine hL hspot hm
  have hmm := @run_makeMap Try.prog
  go_enter Try.func51, Try.ntmps51
  go_wp2_with fail
  refine HC.out.mono ?_
  rintro e w0 ⟨rfl, b1⟩
  obtain ⟨bx, b1⟩ := boxed_call b1
  have HB0 := Lib.hid b1
  have BX0 := Lib.hid bx
  have HSP := Lib.hid (Spots_any A n c zs w0 hn ((HA0.out.below b1 (Nat.le_refl _)).more b1.size))
  clear b1 bx HC
  go_wp2_with fail
  refine HSP.out.mono ?_
  rintro e w1 ⟨A2, c2, rfl, b1, hc2, hA2, hi2⟩
  rw [HE.out]
  rw [hlen] at hA2 hc2 hi2 ⊢
  have HB1 := Lib.hid (HB0.out.trans (b1.mono HB0.out.size))
  have BX := Lib.hid (BX0.out.below b1 BX0.out.lt)
  have HA2 := Lib.hid hA2
  clear b1 HSP hA2 hc2 hi2 BX0 HB0
  go_wp2_with fail
  have e1 : (w1.alloc (.map #[] 0)).heap.size = w1.heap.size + 1 := by simp
  have e2 : ((w1.alloc (.map #[] 0)).alloc (.map #[] 0)).heap.size = w1.heap.size + 1 + 1 := by simp
  have bm : Below w1.heap.size w1 ((w1.alloc (.map #[] 0)).alloc (.map #[] 0)) := ((Below.refl _ w1).alloc (Nat.le_refl _) _).alloc (by omega) _
  have hI : LoI zs w w1.heap.size w1.heap.size (w1.heap.size + 1) (w1.heap.size + 1 + 1) A2 m 0 (.slice none 0 0) (((w1.alloc (.map #[] 0)).alloc (.map #[] 0)).alloc (.cells #[.map (some w1.heap.size), .map (some (w1.heap.size + 1)), .slice none 0 0] 48)) := by
    refine ⟨(BX.out.below bm BX.out.lt).alloc _, by have := Box.new ((w1.alloc (.map #[] 0)).alloc (.map #[] 0)) 48 #[.map (some w1.heap.size), .map (some (w1.heap.size + 1)), .slice none 0 0]; rwa [e2] at this, ?_, ?_, Own.nil, HA2.out.below (bm.alloc (by omega) _) (Nat.le_refl _), (HB1.out.trans (bm.mono HB1.out.size)).alloc (by have := HB1.out.size; omega) _, BX.out.lt, Nat.le_refl _, by omega, by omega⟩
    · rw [show liveTo zs 0 = [] from rfl, show (cnIn [] fun _ => 0) = (fun _ => none : Int → Option Int) by funext x; simp [cnIn]]
      exact ((MapF.made Try.prog .i64 .i64 3 3 w1).alloc _).alloc _
    · have h1 := TRfI.made (zs := zs) (w := w1.alloc (.map #[] 0)) (g := some (w1.heap.size + 1 + 1)) (o := (Value.slice none 0 0).ownBlock)
      rw [e1] at h1
      rw [show liveTo zs 0 = [] from rfl]
      exact h1.next ((Below.refl _ _).alloc (Nat.le_refl _) _)
  have HI := Lib.hid hI
  clear hI bm hmm e1
  clear e2
  generalize (((w1.alloc (.map #[] 0)).alloc (.map #[] 0)).alloc (.cells #[.map (some w1.heap.size), .map (some (w1.heap.size + 1)), .slice none 0 0] 48)) = W1 at *
  obtain ⟨gc, hgc⟩ : ∃ g, w1.heap.size = g := ⟨_, rfl⟩
  rw [hgc] at HI
  rw [hgc]
  obtain ⟨gr, hgr⟩ : ∃ g, gc + 1 = g := ⟨_, rfl⟩
  rw [hgr] at HI
  rw [hgr]
  obtain ⟨gt, hgt⟩ : ∃ g, gr + 1 = g := ⟨_, rfl⟩
  rw [hgt] at HI
  rw [hgt]
  clear hgc hgr hgt
  go_loopw [30] (fun i wr => ∃ (k : Nat) (v : Value), k ≤ m ∧ i = .int .i64 k ∧ Hid (LoI zs w gc gc gr gt A2 m k v wr)) (fun i _ => m - (intOf i).toNat)
  case atStart => exact ⟨0, _, by omega, rfl, HI⟩
  case round =>
    obtain ⟨k, v, hk, rfl, hI⟩ := hrel
    clear HI BX HB1 HA2
    by_cases hlt : k < m
    · obtain ⟨hs, hsn⟩ := HS.out k hlt
      have hkb : k < (begins zs 0).length := by rw [HM.out]; exact hlt
      obtain ⟨b, off, rfl, _, q0, q1, q2, q3, q4⟩ := hI.out.spots.spot hlt
      rw [hs] at q0 q1 q2 q3 q4
      unfold spOf at q0 q1 q2 q3 q4
      simp only at q0 q1 q2 q3 q4
      cases hf : vF (nth zs (st zs k))
      · have HF := Lib.hid hf
        have HKB := Lib.hid hkb
        have hwf := HA0.out.2.1
        have hlive : (st zs k : Int) ∈ livesI zs := lives_mem.2 ⟨_, st_mem hkb, hf, rfl⟩
        obtain ⟨t', e', ht1, ht2, ht3, ht4, ht5, ht6, ht7, ht8, ht9⟩ := live_facts hwf hlive
        have e'' : st zs k = t' := by omega
        have hst := (begins_mem ht8).2.2
        have h256' : zs.length ≤ 256 := h256
        obtain ⟨R, Bd, hR, hBd, f1, f2, f3, f4, f5, f6, f7, f8⟩ := spot_facts hst hwf (by omega)
        have hrl := refWords_len hst
        have hrw : refWords zs t' = (zs.drop (t' + 1)).take R := by unfold refWords; rw [hR]; rfl
        rw [hR, Int.toNat_natCast] at hrl
        have HWF : Hid (∀ k, k < R → nth (refWords zs t') k = 0 ∨ (1 ≤ nth (refWords zs t') k ∧ nth (refWords zs t') k ≤ 256)) := fun k hk => by
          rcases refs_named hwf HAR.out (t := t') (by rw [← e'']; exact hlive) (k := k) (by rw [hrl]; exact hk) with h | ⟨h1, h2, _⟩
          · exact .inl h
          · exact .inr ⟨h1, h2⟩
        have hzl := HZL.out
        obtain ⟨D, hD, hD2⟩ := run_from (P := Try.prog) Try.underlying22 u64_size A n c (t' + 1) ((t' : Int) + 1) (by omega) (by omega) hnc
        obtain ⟨E, hE, hE2⟩ := run_upto (P := Try.prog) Try.underlying22 u64_size D (n - (t' + 1)) (c - (t' + 1)) R R rfl (by omega)
        have hA := HA0.out.cut2 (p := t' + 1) (q := R) (by omega) hD2 hE2
        rw [← hrw] at hA
        have HA := Lib.hid hA
        have g1 : IntKind.i64.wrap ((t' : Int) + 1) = t' + 1 := IntWalk.i64_in _ (by omega)
        rw [e''] at q0 q1 q2 q3 q4 hsn hs
        rw [hR] at q1
        rw [ht9] at q4
        have hnx := hI.out.next ((Below.refl _ wr).alloc (Nat.le_refl _) (.cells #[.int .i64 t', .int .i64 R, .int .i64 (vB (nth zs t')), .int .i64 (vT (nth zs t')), .bool false] 62))
        have HGT : Hid (gt < wr.heap.size) := hI.out.box.lt
        have HBX := Lib.hid (Box.new wr 62 #[.int .i64 t', .int .i64 R, .int .i64 (vB (nth zs t')), .int .i64 (vT (nth zs t')), .bool false])
        have HES : Hid (st zs k = t') := e''
        have hRn : t' + 1 + R ≤ n := by omega
        have hR2 : R ≤ 256 := by omega
        have hw1 : (Lit.int .i64 (t' : Int)).wf = true := wf_i64.2 (by omega)
        have HNM : Hid (refWords zs t' = refWords zs (st zs k)) := by show _ = _; rw [e'']
        clear hA hrw hrl hD2 hE2 hst hf hI hkb hwf hlive e' e'' ht1 ht2 ht3 ht4 ht5 ht6 ht7 ht8 ht9 f1 f2 f3 f4 f5 f6 f7 f8 hR hBd hs
        generalize vB (nth zs t') = Bw at *
        generalize vT (nth zs t') = T at *
        have HJ := Lib.hid hnx
        have e0 : (wr.alloc (.cells #[.int .i64 t', .int .i64 R, .int .i64 Bw, .int .i64 T, .bool false] 62)).cell? ⟨gt, 0, none⟩ = some (.map (some gc)) := hnx.box.cell 0
        have HSZ : Hid (wr.heap.size < (wr.alloc (.cells #[.int .i64 t', .int .i64 R, .int .i64 Bw, .int .i64 T, .bool false] 62)).heap.size) := by show _ < _; simp
        clear hnx
        go_wp2_with (at_mapUpdate; refine wpList_store_map countT _ rfl _ _ _ rfl rfl rfl rfl HJ.out.cn (by unfold maxLen; omega) hw1 (by decide) ?_)
        clear q0 q1 q2 q3 q4 e0
        generalize (wr.alloc (.cells #[.int .i64 t', .int .i64 R, .int .i64 Bw, .int .i64 T, .bool false] 62)) = W2 at *
        intro w3 hm3 hg3
        rw [← HES.out] at hm3
        have HK := Lib.hid (HJ.out.count HKB.out HF.out hg3 hm3)
        have HBX3 := Lib.hid (HBX.out.grown hg3 (by have := HJ.out.o3; have := HJ.out.o4; have := HGT.out; omega))
        have HA3 := Lib.hid (HA.out.below HK.out.below (Nat.le_refl _))
        clear hm3 hg3 HJ HBX HA
        go_wp2_with fail
        refine wp_region_Y 14 (fun w' => w'.cell? ⟨gt, 1, none⟩ = some (.map (some gr)) ∧ w'.cell? ⟨wr.heap.size, 0, none⟩ = some (.int .i64 (t' : Int)) ∧ w'.cell? ⟨wr.heap.size, 1, none⟩ = some (.int .i64 (R : Int))) (by kernel_rfl) ?_
        have hS0 : w3.drew.cell? ⟨gt, 1, none⟩ = some (.map (some gr)) ∧ w3.drew.cell? ⟨wr.heap.size, 0, none⟩ = some (.int .i64 (t' : Int)) ∧ w3.drew.cell? ⟨wr.heap.size, 1, none⟩ = some (.int .i64 (R : Int)) := ⟨HK.out.box.cell 1, HBX3.out.cell 0, HBX3.out.cell 1⟩
        change anyY _ _ _ _ _ _ _ _ _ w3.drew
        refine anyY_pure (i := 0) (v := .pointer (some ⟨gt, 1, none⟩)) rfl rfl rfl (by kernel_rfl) (by kernel_rfl) (by kernel_rfl) (fun _ _ _ h => h) (Or.inl ⟨by rfl, fun wx _ => ?_⟩) (.inr hS0) ?_
        · go_simp
        refine anyY_take (i := 1) (v := .map (some gr)) rfl rfl (by kernel_rfl) rfl (by kernel_rfl) (by kernel_rfl) (by kernel_rfl) (by kernel_rfl) (fun _ _ _ h => h) (Or.inl ⟨by rfl, fun wx hS => ?_⟩) hS0 ?_
        · obtain ⟨q1, q2, q3⟩ := hS
          go_simp
        refine anyY_pure (i := 2) (v := .pointer (some ⟨wr.heap.size, 0, none⟩)) rfl rfl rfl (by kernel_rfl) (by kernel_rfl) (by kernel_rfl) (fun _ _ _ h => h) (Or.inl ⟨by rfl, fun wx _ => ?_⟩) (.inr hS0) ?_
        · go_simp
        refine anyY_take (i := 3) (v := .int .i64 (t' : Int)) rfl rfl (by kernel_rfl) rfl (by kernel_rfl) (by kernel_rfl) (by kernel_rfl) (by kernel_rfl) (fun _ _ _ h => h) (Or.inl ⟨by rfl, fun wx hS => ?_⟩) hS0 ?_
        · obtain ⟨q1, q2, q3⟩ := hS
          go_simp
        refine anyY_pure (i := 4) (v := .slice A n c) rfl rfl rfl (by kernel_rfl) (by kernel_rfl) (by kernel_rfl) (fun _ _ _ h => h) (Or.inl ⟨by rfl, fun wx _ => ?_⟩) (.inr hS0) ?_
        · go_simp
        refine anyY_pure (i := 5) (v := .pointer (some ⟨wr.heap.size, 0, none⟩)) rfl rfl rfl (by kernel_rfl) (by kernel_rfl) (by kernel_rfl) (fun _ _ _ h => h) (Or.inl ⟨by rfl, fun wx _ => ?_⟩) (.inr hS0) ?_
        · go_simp
        refine anyY_take (i := 6) (v := .int .i64 (t' : Int)) rfl rfl (by kernel_rfl) rfl (by kernel_rfl) (by kernel_rfl) (by kernel_rfl) (by kernel_rfl) (fun _ _ _ h => h) (Or.inl ⟨by rfl, fun wx hS => ?_⟩) hS0 ?_
        · obtain ⟨q1, q2, q3⟩ := hS
          go_simp
        refine anyY_pure (i := 7) (v := .int .i64 ((t' : Int) + 1)) rfl rfl rfl (by kernel_rfl) (by kernel_rfl) (by kernel_rfl) (fun _ _ _ h => h) (Or.inl ⟨by rfl, fun wx _ => ?_⟩) (.inr hS0) ?_
        · go_simp
        refine anyY_pure (i := 8) (v := .slice D (n - (t' + 1)) (c - (t' + 1))) rfl rfl rfl (by kernel_rfl) (by kernel_rfl) (by kernel_rfl) (fun _ _ _ h => h) (Or.inl ⟨by rfl, fun wx _ => ?_⟩) (.inr hS0) ?_
        · go_simp
        refine anyY_pure (i := 9) (v := .pointer (some ⟨wr.heap.size, 1, none⟩)) rfl rfl rfl (by kernel_rfl) (by kernel_rfl) (by kernel_rfl) (fun _ _ _ h => h) (Or.inl ⟨by rfl, fun wx _ => ?_⟩) (.inr hS0) ?_
        · go_simp
        refine anyY_pure (i := 10) (v := .pointer (some ⟨wr.heap.size, 1, none⟩)) rfl rfl rfl (by kernel_rfl) (by kernel_rfl) (by kernel_rfl) (fun _ _ _ h => h) (Or.inl ⟨by rfl, fun wx _ => ?_⟩) (.inr hS0) ?_
        · go_simp
        refine anyY_take (i := 11) (v := .int .i64 (R : Int)) rfl rfl (by kernel_rfl) rfl (by kernel_rfl) (by kernel_rfl) (by kernel_rfl) (by kernel_rfl) (fun _ _ _ h => h) (Or.inl ⟨by rfl, fun wx hS => ?_⟩) hS0 ?_
        · obtain ⟨q1, q2, q3⟩ := hS
          go_simp
        refine anyY_pure (i := 12) (v := .slice E R (c - (t' + 1))) rfl rfl rfl (by kernel_rfl) (by kernel_rfl) (by kernel_rfl) (fun _ _ _ h => h) (Or.inl ⟨by rfl, fun wx _ => ?_⟩) (.inr hS0) ?_
        · go_simp
        refine anyY_only (i := 13) (by kernel_rfl) ?_
        have HN := Lib.hid (tallyNamed_any E R (c - (t' + 1)) w.heap.size (refWords zs t') w3.drew hR2 HK.out.below.size HA3.out HWF.out)
        have HKd := Lib.hid (HK.out.next (wr' := w3.drew) (below_drewN (Below.refl _ _) 1))
        have HBd := Lib.hid (HBX3.out.below (w' := w3.drew) (below_drewN (Below.refl _ _) 1) HBX3.out.lt)
        clear HK HBX3 HA3
        generalize w3.drew = W3 at *
        refine wpOp_step rfl fun K' hK' => ?_
        go_simp
        refine HN.out.mono ?_
        rintro e w4 ⟨A', c', rfl, b4, ha4, hi4⟩
        have HK4 := Lib.hid (HKd.out.next b4)
        have HB4 := Lib.hid (HBd.out.below b4 HBd.out.lt)
        have HRL : Hid (RfL zs w4 (some gt) v.ownBlock (.slice A' (nmL (refWords zs t')).length c') (st zs k : Int)) := by
          show RfL _ _ _ _ _ _
          unfold RfL refL
          rw [Int.toNat_natCast, ← HNM.out]
          refine ⟨A', c', rfl, ha4, Off.of_high hi4 fun b e => ?_, Off.of_high hi4 fun b e => HKd.out.own.rowLt b e⟩
          injection e with e
          rw [← e]
          exact HKd.out.box.lt
        obtain ⟨Rv, hRV, hRLs⟩ := HK4.out.rf
        have HRLs := Lib.hid hRLs
        have HRV := Lib.hid hRV
        clear hRV hRLs ha4 hi4 HN HKd HBd
        obtain ⟨ln, hln⟩ : ∃ ln, (nmL (refWords zs t')).length = ln := ⟨_, rfl⟩
        rw [hln] at HRL ⊢
        clear hln
        have hS4 : w4.cell? ⟨gt, 1, none⟩ = some (.map (some gr)) ∧ w4.cell? ⟨wr.heap.size, 0, none⟩ = some (.int .i64 (t' : Int)) ∧ w4.cell? ⟨wr.heap.size, 1, none⟩ = some (.int .i64 (R : Int)) := ⟨HK4.out.box.cell 1, HB4.out.cell 0, HB4.out.cell 1⟩
        refine hK' _ _ ⟨.inr (.inr hS4), ?_⟩
        clear hK' hS4 hS0
        refine anyY_only (i := 14) (by kernel_rfl) ?_
        obtain ⟨w5, hrun, hm5, hg5⟩ := HRV.out.store namesT (by unfold maxLen; omega) (y := .slice A' ln c') hw1
        refine wpOp_step rfl fun K' hK' => ?_
        go_simp
        refine hK' _ _ ⟨.inr (.inl rfl), anyY_done (by kernel_rfl) ?_ _⟩
        rw [← HES.out] at hm5
        have HK5 := Lib.hid (HK4.out.names HKB.out HF.out HRV.out HRLs.out HRL.out hg5 hm5)
        have HGR : Hid (gr < gt) := HK4.out.o4
        have b5 : w5.cell? ⟨wr.heap.size, 0, none⟩ = some (.int .i64 (t' : Int)) := (HB4.out.grown hg5 (by have := HGR.out; have := HGT.out; omega)).cell 0
        have b6 : w5.cell? ⟨gt, 2, none⟩ = some v := HK5.out.box.cell 2
        clear hrun hm5 hg5 hK' HK4 HB4 HRV HRLs HRL
        obtain ⟨v', w6, hrun, hO, hG⟩ := HK5.out.own.pushG (P := Try.prog) (t := 23) (ty := 23) Try.underlying23 intI_info (by omega) (x := (t' : Int)) hw1 (by have := liveTo_len (zs := zs) k; omega) (by have := HK5.out.box.lt; omega)
        obtain ⟨S, sc, rfl, _, _⟩ := hO.arr
        have f1 := HK5.out.own.row
        obtain ⟨bg, hv⟩ := HK5.out.box.grew hG (fun e => by have := f1 _ e; omega)
        have f2 : w6.cell? ⟨gt, 2, none⟩ = some v := bg.cell 2
        have f3 := bg.soft 2
        obtain ⟨M, hMM⟩ : ∃ M, (liveTo zs k ++ [(t' : Int)]).length = M := ⟨_, rfl⟩
        rw [hMM] at hO hG hrun
        clear hMM
        rw [← HES.out] at hO
        have HN := Lib.hid (HK5.out.word HKB.out HF.out hG hO)
        have HRN := Lib.hid hrun
        clear hrun hO hG bg hv f1 HK5 HKB HF HNM HES HGR HWF
        go_wp2_with (at_builtin; refine wpList_append_run rfl (.tmp 56) (.tmp 59) 23 rfl rfl rfl HRN.out ?_)
        go_roundw
        case rel => exact ⟨k + 1, _, by omega, by go_num, HN.out⟩
        case measure => simp [intOf]; omega
      · have HF := Lib.hid hf
        rw [hf] at q4
        have hnx := Lib.hid ((hI.out.next ((Below.refl _ wr).alloc (Nat.le_refl _) (.cells #[.int .i64 (st zs k), .int .i64 (vR (nth zs (st zs k))), .int .i64 (vB (nth zs (st zs k))), .int .i64 (vT (nth zs (st zs k))), .bool true] 62))).free hkb hf)
        clear hf hs hI hkb
        generalize vR (nth zs (st zs k)) = R at *
        generalize vB (nth zs (st zs k)) = Bd at *
        generalize vT (nth zs (st zs k)) = T at *
        generalize st zs k = s at *
        go_wp2
        go_roundw
        case rel => exact ⟨k + 1, v, by omega, by go_num, hnx.out⟩
        case measure => simp [intOf]; omega
    · obtain rfl : k = m := by omega
      clear hlt hlen
      have HXL : Hid (liveTo zs k = livesI zs) := Lib.hid (by rw [← HM.out]; exact liveTo_all)
      have hx := HXL.out
      obtain ⟨S, sc, rfl, _, hst⟩ := hI.out.own.arr
      have HT : Hid (TlI zs wr gc gr 300 S (liveTo zs k).length fun _ => 0) := by
        refine ⟨?_, ?_, ?_, by have := hI.out.o3; omega⟩
        · rw [← hx]; exact hI.out.cn.mono (by omega)
        · rw [← hx]
          obtain ⟨Rv, h1, h2⟩ := hI.out.rf
          refine ⟨Rv, h1.mono (by omega), fun x hxx => ?_⟩
          obtain ⟨A', c', h3, h4, _⟩ := h2 x hxx
          exact ⟨A', c', h3, h4, (fun _ _ _ _ e => by cases e), fun _ _ _ _ e => by cases e⟩
        · have h5 := hst
          rw [hx] at h5 ⊢
          exact h5
      have HGC : Hid (w.heap.size ≤ gc) := by have := hI.out.o1; have := hI.out.o2; show _ ≤ _; omega
      have HB := Lib.hid hI.out.below
      have BXR := Lib.hid hI.out.res
      have s0 := hI.out.res.soft 0
      have s1 := hI.out.res.soft 1
      have s2 := hI.out.res.soft 2
      have d0 : wr.cell? ⟨w.heap.size, 0, none⟩ = some (.map none) := hI.out.res.cell 0
      have d1 : wr.cell? ⟨w.heap.size, 1, none⟩ = some (.map none) := hI.out.res.cell 1
      have d2 : wr.cell? ⟨w.heap.size, 2, none⟩ = some (.slice none 0 0) := hI.out.res.cell 2
      obtain ⟨ln, hln⟩ : ∃ ln, (liveTo zs k).length = ln := ⟨_, rfl⟩
      rw [hln] at HT hI hst
      have c0 : wr.cell? ⟨gt, 0, none⟩ = some (.map (some gc)) := hI.out.box.cell 0
      have c1 : wr.cell? ⟨gt, 1, none⟩ = some (.map (some gr)) := hI.out.box.cell 1
      have c2' : wr.cell? ⟨gt, 2, none⟩ = some (.slice S ln sc) := hI.out.box.cell 2
      clear hI hst hx HXL hln
      go_wp2
      have BY := ((BXR.out.set 0 (.map (some gc))).set 1 (.map (some gr))).set 2 (.slice S ln sc)
      have HB' := below_set (below_set (below_set HB.out (Nat.le_refl _) 0 (.map (some gc))) (Nat.le_refl _) 1 (.map (some gr))) (Nat.le_refl _) 2 (.slice S ln sc)
      have HT' := HT.out.box BXR.out (w' := (((wr.setCell ⟨w.heap.size, 0, none⟩ (.map (some gc))).setCell ⟨w.heap.size, 1, none⟩ (.map (some gr))).setCell ⟨w.heap.size, 2, none⟩ (.slice S ln sc))) (by simp only [size_setCell]) fun i hi => by rw [heap_setOther _ hi, heap_setOther _ hi, heap_setOther _ hi]
      generalize (((wr.setCell ⟨w.heap.size, 0, none⟩ (.map (some gc))).setCell ⟨w.heap.size, 1, none⟩ (.map (some gr))).setCell ⟨w.heap.size, 2, none⟩ (.slice S ln sc)) = W at *
      have x0 : W.cell? ⟨w.heap.size, 0, none⟩ = some (.map (some gc)) := BY.cell 0
      have x1 : W.cell? ⟨w.heap.size, 1, none⟩ = some (.map (some gr)) := BY.cell 1
      have x2 : W.cell? ⟨w.heap.size, 2, none⟩ = some (.slice S ln sc) := BY.cell 2
      refine bodyPost_ret (v := .tuple #[.agg #[.map (some gc), .map (some gr), .slice S ln sc], .int .i64 0]) (by simp [results, Try.results51, go_sem, x0, x1, x2]) rfl ⟨HB', .inr ⟨HAR.out, gc, gr, S, ln, sc, rfl, HGC.out, HT'⟩⟩

theorem tload_any (A : Option Addr) (n c : Nat) (zs : List Int) (w : World) (hn : n ≤ maxLen) (hnc : n ≤ c) (ha : Arr .u64 w w.heap.size A n zs) :
    Calls Try.prog 51 #[.slice A n c] w (TLoadP zs w) := by
  by_cases h : arErr zs = 0
  · exact tload_good A n c zs w hn hnc ha h
  · exact tload_bad A n c zs w hn hnc ha h
end Go.Proofs.Ytgekghlmkfkbjaa
