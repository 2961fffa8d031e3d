/-
  Contract of the reference's Slid.
-/
import Derived.Test.YthcilgannhldgaaSlideM
import Derived.Test.YthcilgannhldgaaPlanR
import Derived.Test.YthcilgannhldgaaRefGap
import Derived.Test.YthcilgannhldgaaLater
import Derived.StillTailTactics
namespace Go.Proofs.Ythcilgannhldgaa
open Go.RowKit

/-- What Slid answers. -/
def SlidP (zs ks ps : List Int) (w : World) (e : Ending) (w' : World) : Prop := Below w.heap.size w w' ∧
  ((heldB zs ks = true ∧ ∃ A m c, e = .returned (.tuple #[.slice A m c, .bool true]) ∧ Arr .u64 w' w'.heap.size A m (slidL zs ks ps)) ∨
   (heldB zs ks = false ∧ e = .returned (.tuple #[.slice none 0 0, .bool false])))
/-- The new arena, while it is written. -/
structure SlW (w w3 : World) (us : List Int) (wr : World) : Prop where
  whole : Whole .u64 31 wr w3.heap.size us
  below : Below w.heap.size w wr
  later : Below w3.heap.size w3 wr
theorem SlW.next {w w3 wr wr' : World} {us : List Int} (h : SlW w w3 us wr) (hb : Below wr.heap.size wr wr') : SlW w w3 us wr' := ⟨h.whole.below hb h.whole.lt, h.below.trans (hb.mono h.below.size), h.later.trans (hb.mono h.later.size)⟩
theorem SlW.set {w w3 wr : World} {us : List Int} (h : SlW w w3 us wr) (hs : w.heap.size ≤ w3.heap.size) (j : Nat) {v : Int} (hv : (Lit.int .u64 v).wf = true) : SlW w w3 (us.set j v) (wr.setCell ⟨w3.heap.size, j, none⟩ (.int .u64 v)) :=
  ⟨h.whole.set_ j v hv, below_set h.below hs _ _, below_set h.later (Nat.le_refl _) _ _⟩
theorem slideU64 : (Try.prog.info? 31).map (fun i => (i.zero, i.size, i.bytes)) = some (some (.int .u64 0), 1, 8) := by kernel_rfl
/-- Sums of places within an arena. -/
structure Sums (t k d n t1 t2 J : Nat) : Prop where
  lt : J < n
  s1 : IntKind.i64.wrap (t1 : Int) = (t1 : Int)
  s1' : (t : Int) + 1 = (t1 : Int)
  s2 : IntKind.i64.wrap (t2 : Int) = (t2 : Int)
  s2' : (t1 : Int) + (k : Int) = (t2 : Int)
  s3 : IntKind.i64.wrap (J : Int) = (J : Int)
  s3' : (t2 : Int) + (d : Int) = (J : Int)
  all : t + (1 + k + d) = J
theorem sums_of {t k d n : Nat} (h : t + 1 + k + d < n) (hn : n ≤ 256) : ∃ t1 t2 J, Sums t k d n t1 t2 J :=
  ⟨t + 1, t + 1 + k, t + 1 + k + d, h, IntWalk.i64_in _ (by omega), by omega, IntWalk.i64_in _ (by omega), by omega, IntWalk.i64_in _ (by omega), by omega, by omega⟩
structure Sums2 (t k n t1 J : Nat) : Prop where
  lt : J < n
  s1 : IntKind.i64.wrap (t1 : Int) = (t1 : Int)
  s1' : (t : Int) + 1 = (t1 : Int)
  s2 : IntKind.i64.wrap (J : Int) = (J : Int)
  s2' : (t1 : Int) + (k : Int) = (J : Int)
  all : t + (1 + k) = J
theorem sums2_of {t k n : Nat} (h : t + 1 + k < n) (hn : n ≤ 256) : ∃ t1 J, Sums2 t k n t1 J :=
  ⟨t + 1, t + 1 + k, h, IntWalk.i64_in _ (by omega), by omega, IntWalk.i64_in _ (by omega), by omega, by omega⟩
theorem wrap_ref {t : Nat} (h : t + 1 ≤ 256) : ∃ V : Int, (t : Int) + 1 = V ∧ IntKind.u64.wrap (t : Int) = (t : Int) ∧ IntKind.u64.wrap V = V ∧ (Lit.int .u64 V).wf = true :=
  ⟨(t : Int) + 1, rfl, IntWalk.u64_in _ (by omega), IntWalk.u64_in _ (by omega), wf_u64.2 (by omega)⟩

set_option maxRecDepth 16000 in
set_option maxHeartbeats 8000000 in
theorem slid_any (A K P : Option Addr) (n c nk ck np cp : Nat) (zs ks ps : List Int) (w : World) (ha : Arr .u64 w w.heap.size A n zs) (hnk : nk ≤ maxLen) (hk : Arr .i64 w w.heap.size K nk ks) (hnp : np ≤ maxLen) (hp : Arr .i64 w w.heap.size P np ps) (h : PlanOk zs ks ps) :
    Calls Try.prog 9 #[.slice A n c, .slice K nk ck, .slice P np cp] w (SlidP zs ks ps w) := by
  have HA := Lib.hid ha
  have HK := Lib.hid hk
  have HP := Lib.hid hp
  have HOK := Lib.hid h
  have HWF := Lib.hid ha.2.1
  have hkl := hk.1
  have hal := ha.1
  have h256 := h.len
  have hn256 := arena_len h.arena
  rw [hkl] at h256
  rw [hal] at hn256
  have HKL := Lib.hid hkl
  have HAL := Lib.hid hal
  have HNK : Hid (nk ≤ maxLen) := hnk
  have HNP : Hid (np ≤ maxLen) := hnp
  have HPL := Lib.hid (planned_any A K P n c nk ck np cp zs ks ps w ha hk hnp hp h)
  unfold SlidP
  clear ha hk hp h hkl hal hnk hnp
  go_enter Try.func9, Try.ntmps9
  go_wp2_with fail
  refine HPL.out.mono ?_
  rintro e w3 ⟨v, rfl, hO, b3⟩
  obtain ⟨D, dc, rfl, _, hD⟩ := hO.arr
  rw [toL_len, HKL.out] at hD ⊢
  have HD := Lib.hid hD
  have HB3 := Lib.hid b3
  have HS3 : Hid (w.heap.size ≤ w3.heap.size) := b3.size
  have hmk := fun wx => run_make_row' (P := Try.prog) 22 31 (.int .u64 0) 8 Try.underlying22 slideU64 rfl .i64 .i64 n (by omega) (by omega) wx
  have hW : Whole .u64 31 (w3.alloc (.cells (madeCells #[Value.int .u64 0] n) 31)) w3.heap.size (List.replicate n 0) := by
    rw [made_replicate]
    exact whole_new .u64 31 w3 _ (fun z hz => by rw [List.eq_of_mem_replicate hz]; rfl)
  have bm : Below w3.heap.size w3 (w3.alloc (.cells (madeCells #[Value.int .u64 0] n) 31)) := (Below.refl _ _).alloc (Nat.le_refl _) _
  have HI0 : Hid (SlW w w3 (slidAt zs ks ps 0 0) (w3.alloc (.cells (madeCells #[Value.int .u64 0] n) 31))) := ⟨by rw [slidAt_zero, HAL.out]; exact hW, b3.trans (bm.mono b3.size), bm⟩
  clear hO hD b3 hW bm HPL
  go_wp2_with fail
  generalize (w3.alloc (.cells (madeCells #[Value.int .u64 0] n) 31)) = W1 at *
  obtain ⟨g, hg⟩ : ∃ g, w3.heap.size = g := ⟨_, rfl⟩
  have HG := Lib.hid hg
  rw [hg]
  clear hmk hg
  go_loopw [29] (fun i wr => ∃ k : Nat, k ≤ nk ∧ i = .int .i64 k ∧ Hid (SlW w w3 (slidAt zs ks ps k 0) wr) ∧ Hid (heldTo zs ks k)) (fun i _ => nk - (intOf i).toNat)
  case atStart => exact ⟨0, Nat.zero_le _, rfl, HI0, fun j hj => absurd hj (by omega)⟩
  case round =>
    obtain ⟨i, hin, rfl, HI, HH⟩ := hrel
    clear HI0
    by_cases hlt : i < nk
    · have hik : i < ks.length := by have := HKL.out; omega
      obtain ⟨b, off, rfl, _, hcs⟩ := (HK.out.later HI.out.below).2.2 (by omega)
      have hc := hcs i hlt
      obtain ⟨b2, off2, rfl, hlt2, hts⟩ := HD.out.2.2 (by omega)
      have HCT : Hid (∀ q, q < nk → ∀ wx, Below w3.heap.size w3 wx → wx.cell? ⟨b2, off2 + q, none⟩ = some (.int .i64 (tn zs ks ps q : Int))) := fun q hq wx hb => by
        have h1 := (hb.cell (p := ⟨b2, off2 + q, none⟩) hlt2).trans (hts q hq)
        rw [nth_toL (by have := HKL.out; omega)] at h1
        rw [(HOK.out.nat (by have := HKL.out; omega)).1]
        exact h1
      clear hcs hts
      obtain ⟨a1, a2, a3, a4, a5, a6, a7, a8⟩ := HOK.out.nat hik
      obtain ⟨Rn, Bn, hR, hB, hf1, hf2, _, _, _, hf5, hf6, hf7⟩ := spot_facts (begins_mem a3).2.2 HWF.out (begins_mem a3).2.1
      have hlv : ((kn ks i : Nat) : Int) ∈ livesI zs := by rw [a2]; exact HOK.out.live hik
      have HC1 := Lib.hid (headLive_any A n c (kn ks i) zs wr (HA.out.later HI.out.below) HOK.out.arena hlv)
      have HNM := Lib.hid (fun wx (hb : Below w.heap.size w wx) => namedAt_any A n c (kn ks i) zs wx (HA.out.later hb) HOK.out.arena hlv)
      have HRW := Lib.hid (fun k (hk : k < Rn) => ref_word (k := k) HOK.out.arena a3 (by rw [hR]; exact hk))
      have HNL : Hid ((named zs (kn ks i)).length = Rn) := by
        show _ = _
        unfold named
        rw [List.length_map, refWords_len (begins_mem a3).2.2, hR]; rfl
      have HLN : Hid (longN zs (kn ks i) = 1 + Rn + Bn) := hf6
      have HAW : Hid (∀ d, d < longN zs (kn ks i) → objW zs ks ps i d = if 1 ≤ d ∧ d ≤ Rn then trW zs ks ps (nth zs (kn ks i + d)) else nth zs (kn ks i + d)) := fun d _ => by
        unfold objW; rw [hR]; rfl
      have HKN : Hid ((kn ks i : Int) = nth ks i) := a2
      rw [hR, hB] at HC1
      rw [a4] at hf5 hf7
      have hwf0 : (Lit.int .u64 (nth zs (kn ks i))).wf = true := HWF.out _ (nth_mem (begins_mem a3).2.1)
      have HO0 := Lib.hid (objW_head (zs := zs) (ks := ks) (ps := ps) (i := i))
      have HHW := Lib.hid (fun wx => headWord_any Rn Bn (vT (nth zs (kn ks i))) false wx hf5)
      rw [hf7] at HHW
      have hlay0 := HOK.out.lay (d := 0) hik (by have := HLN.out; omega)
      rw [HO0.out, Nat.add_zero] at hlay0
      have HLY0 := Lib.hid hlay0
      rw [← a2] at hc
      have hal := HAL.out
      have hll := HLN.out
      have hsb : kn ks i + 1 + Rn + Bn ≤ n := by omega
      have htb : tn zs ks ps i + 1 + Rn + Bn ≤ n := by omega
      clear a1 a2 a3 a4 a5 a6 a7 a8 hR hB hf1 hf5 hf6 hf7 hlv hlay0 hal hll
      obtain ⟨s, hs⟩ : ∃ s, kn ks i = s := ⟨_, rfl⟩
      obtain ⟨t, ht⟩ : ∃ t, tn zs ks ps i = t := ⟨_, rfl⟩
      have HSS := Lib.hid hs
      have HTT := Lib.hid ht
      rw [hs] at hc HC1 HNM HHW hsb hwf0 HLY0 HRW HNL
      rw [ht] at htb HLY0
      clear hs ht
      have htn : t < n := by omega
      generalize vT (nth zs s) = Tg at *
      obtain ⟨R, hRr⟩ : ∃ R : Int, (Rn : Int) = R := ⟨_, rfl⟩
      obtain ⟨Bd, hBr⟩ : ∃ Bd : Int, (Bn : Int) = Bd := ⟨_, rfl⟩
      have HRr := Lib.hid hRr
      have HBr := Lib.hid hBr
      rw [hRr, hBr] at HC1 HHW
      clear hRr hBr
      generalize hHW : nth zs s = HWv at *
      have HHWv := Lib.hid hHW
      clear hHW
      go_wp2_with fail
      refine HC1.out.mono ?_
      rintro e w4 ⟨rfl, b4⟩
      have b5 := (Below.refl _ w4).alloc (Nat.le_refl _) (.cells #[.int .i64 R, .int .i64 Bd, .int .i64 Tg, .bool false] 61)
      have HI5 := Lib.hid (((HI.out.next b4).next b5).next (below_drewN (Below.refl _ _) 1))
      have HX5 : Hid (Box ((w4.alloc (.cells #[.int .i64 R, .int .i64 Bd, .int .i64 Tg, .bool false] 61)).drewN 1) w4.heap.size 61 #[.int .i64 R, .int .i64 Bd, .int .i64 Tg, .bool false]) := Box.new w4 61 #[.int .i64 R, .int .i64 Bd, .int .i64 Tg, .bool false]
      have HGH : Hid (w3.heap.size < w4.heap.size) := (HI.out.next b4).whole.lt
      clear b4 b5 HC1 hc HI
      go_wp2_with fail
      obtain ⟨gh, hgh⟩ : ∃ gh, w4.heap.size = gh := ⟨_, rfl⟩
      rw [hgh] at HX5 HGH
      rw [hgh]
      clear hgh
      refine wp_region_Y 8 (fun w' => w'.cell? ⟨b2, off2 + i, none⟩ = some (.int .i64 t) ∧ w'.cell? ⟨gh, 0, none⟩ = some (.int .i64 R) ∧ w'.cell? ⟨gh, 1, none⟩ = some (.int .i64 Bd) ∧ w'.cell? ⟨gh, 2, none⟩ = some (.int .i64 Tg) ∧ w'.cell? ⟨gh, 3, none⟩ = some (.bool false)) (by kernel_rfl) ?_
      change anyY _ _ _ _ _ _ _ _ _ ((w4.alloc (.cells #[.int .i64 R, .int .i64 Bd, .int .i64 Tg, .bool false] 61)).drewN 1)
      generalize ((w4.alloc (.cells #[.int .i64 R, .int .i64 Bd, .int .i64 Tg, .bool false] 61)).drewN 1) = W at *
      have hS0 : W.cell? ⟨b2, off2 + i, none⟩ = some (.int .i64 t) ∧ W.cell? ⟨gh, 0, none⟩ = some (.int .i64 R) ∧ W.cell? ⟨gh, 1, none⟩ = some (.int .i64 Bd) ∧ W.cell? ⟨gh, 2, none⟩ = some (.int .i64 Tg) ∧ W.cell? ⟨gh, 3, none⟩ = some (.bool false) := ⟨(by rw [← HTT.out]; exact HCT.out i hlt W HI5.out.later), HX5.out.cell 0, HX5.out.cell 1, HX5.out.cell 2, HX5.out.cell 3⟩
      refine anyY_pure (i := 0) (v := .slice (some ⟨g, 0, none⟩) n n) rfl rfl rfl (by kernel_rfl) (by kernel_rfl) (by kernel_rfl) (fun _ _ _ h => h) (Or.inl ⟨by rfl, fun wx _ => ?_⟩) (.inr hS0) ?_
      · go_simp
      refine anyY_pure (i := 1) (v := .slice (some ⟨b2, off2, none⟩) nk dc) rfl rfl rfl (by kernel_rfl) (by kernel_rfl) (by kernel_rfl) (fun _ _ _ h => h) (Or.inl ⟨by rfl, fun wx _ => ?_⟩) (.inr hS0) ?_
      · go_simp
      refine anyY_pure (i := 2) (v := .int .i64 i) rfl rfl rfl (by kernel_rfl) (by kernel_rfl) (by kernel_rfl) (fun _ _ _ h => h) (Or.inl ⟨by rfl, fun wx _ => ?_⟩) (.inr hS0) ?_
      · go_simp
      refine anyY_pure (i := 3) (v := .pointer (some ⟨b2, off2 + i, none⟩)) rfl rfl rfl (by kernel_rfl) (by kernel_rfl) (by kernel_rfl) (fun _ _ _ h => h) (Or.inl ⟨by rfl, fun wx _ => ?_⟩) (.inr hS0) ?_
      · go_simp
      refine anyY_take (i := 4) (v := .int .i64 t) rfl rfl (by kernel_rfl) rfl (by kernel_rfl) (by kernel_rfl) (by kernel_rfl) (by kernel_rfl) (fun _ _ _ h => h) (Or.inl ⟨by rfl, fun wx hS => ?_⟩) hS0 ?_
      · obtain ⟨q0, q1, q2, q3, q4⟩ := hS
        go_simp
      refine anyY_take (i := 5) (v := .agg #[.int .i64 R, .int .i64 Bd, .int .i64 Tg, .bool false]) rfl rfl (by kernel_rfl) rfl (by kernel_rfl) (by kernel_rfl) (by kernel_rfl) (by kernel_rfl) (fun _ _ _ h => h) (Or.inl ⟨by rfl, fun wx hS => ?_⟩) hS0 ?_
      · obtain ⟨q0, q1, q2, q3, q4⟩ := hS
        go_simp
      refine anyY_only (i := 6) (by kernel_rfl) ?_
      refine wpOp_step rfl fun K' hK' => ?_
      go_simp
      refine (HHW.out _).mono ?_
      rintro e w7 ⟨rfl, b7⟩
      have HI7 := Lib.hid (HI5.out.next b7)
      have HX7 := Lib.hid (HX5.out.below b7 HX5.out.lt)
      have hS2 : w7.cell? ⟨b2, off2 + i, none⟩ = some (.int .i64 t) ∧ w7.cell? ⟨gh, 0, none⟩ = some (.int .i64 R) ∧ w7.cell? ⟨gh, 1, none⟩ = some (.int .i64 Bd) ∧ w7.cell? ⟨gh, 2, none⟩ = some (.int .i64 Tg) ∧ w7.cell? ⟨gh, 3, none⟩ = some (.bool false) := ⟨(by rw [← HTT.out]; exact HCT.out i hlt w7 HI7.out.later), HX7.out.cell 0, HX7.out.cell 1, HX7.out.cell 2, HX7.out.cell 3⟩
      refine hK' _ _ ⟨.inr (.inr hS2), ?_⟩
      clear hK' hS0 b7 HI5 HX5
      refine anyY_pure (i := 7) (v := .pointer (some ⟨g, t, none⟩)) rfl rfl rfl (by kernel_rfl) (by kernel_rfl) (by kernel_rfl) (fun _ _ _ h => h) (Or.inl ⟨by rfl, fun wx _ => ?_⟩) (.inr hS2) ?_
      · go_simp
      refine anyY_only (i := 8) (by kernel_rfl) ?_
      have d0 := HI7.out.whole.cell (j := t) (by rw [slidAt_len, HAL.out]; omega)
      have f0 := HI7.out.whole.frozen t
      have hN := HI7.out.set HS3.out t hwf0
      rw [HLY0.out] at hN
      have hX := HX7.out.setOther (g := w3.heap.size) (by have := HGH.out; omega) t (.int .u64 HWv)
      rw [HG.out] at d0 f0 hN hX
      have HI8 := Lib.hid hN
      have HX8 := Lib.hid hX
      clear HI7 HX7 hS2 hN hX
      generalize nth (slidAt zs ks ps i 0) t = O at *
      refine wpOp_step rfl fun K' hK' => ?_
      go_simp
      refine hK' _ _ ⟨.inr (.inl rfl), anyY_done (by kernel_rfl) ?_ _⟩
      clear hK' d0 f0
      generalize (w7.setCell ⟨g, t, none⟩ (.int .u64 HWv)) = W8 at *
      have HN8 := Lib.hid (HNM.out W8 HI8.out.below)
      go_wp2_with fail
      refine HN8.out.mono ?_
      rintro e w9 ⟨A9, c9, rfl, b9, hN9, hHi9⟩
      rw [HNL.out] at hN9 hHi9 ⊢
      have HI9 := Lib.hid (HI8.out.next b9)
      have HX9 := Lib.hid (HX8.out.below b9 HX8.out.lt)
      have HN9 := Lib.hid hN9
      have HHi9 : Hid (High (w3.heap.size + 1) A9 Rn) := hHi9.less HI8.out.whole.lt
      clear hN9 hHi9 b9 HI8 HX8 HN8
      go_wp2_with fail
      generalize wr = W0 at *
      go_loopw [52] (fun x wx => ∃ k : Nat, k ≤ Rn ∧ x = .int .i64 k ∧ Hid (SlW w w3 (slidAt zs ks ps i (1 + k)) wx) ∧ Hid (Box wx gh 61 #[.int .i64 R, .int .i64 Bd, .int .i64 Tg, .bool false]) ∧ Hid (Arr .i64 wx wx.heap.size A9 Rn (named zs s)) ∧ Hid (∀ d, d < k → nth (named zs s) d < 0 ∨ nth (named zs s) d ∈ ks)) (fun x _ => Rn - (intOf x).toNat)
      case atStart => exact ⟨0, Nat.zero_le _, rfl, HI9, HX9, HN9, fun d hd => absurd hd (by omega)⟩
      case round =>
        obtain ⟨k, hkR, rfl, HI, HX, HNa, HQ⟩ := hrel
        clear HI9 HX9 HN9
        by_cases hltk : k < Rn
        · obtain ⟨ba, oa, rfl, _, hna⟩ := HNa.out.2.2 (by omega)
          have hcn := hna k hltk
          obtain ⟨_, hrw⟩ := HRW.out k hltk
          have hdl : 1 + k < longN zs (kn ks i) := by have := HLN.out; omega
          have hobj := HAW.out (1 + k) hdl
          rw [if_pos ⟨by omega, by omega⟩, HSS.out, ← Nat.add_assoc] at hobj
          have hyw := HNa.out.2.1 _ (nth_mem (l := named zs s) (j := k) (by rw [HNL.out]; exact hltk))
          have hnx : nth (named zs s) k ∈ nxOf zs (nth ks i) := by
            show _ ∈ named zs (kn ks i)
            rw [HSS.out]
            exact nth_mem (by rw [HNL.out]; exact hltk)
          have HNX := Lib.hid hnx
          obtain ⟨Y, hY⟩ : ∃ Y, nth (named zs s) k = Y := ⟨_, rfl⟩
          have HY := Lib.hid hY
          rw [hY] at hcn hrw hyw
          clear hna hY hnx
          by_cases h0 : Y < 0
          · have hz : nth zs (s + 1 + k) = 0 := by omega
            rw [hz, trW_zero] at hobj
            have HIN : Hid (SlW w w3 (slidAt zs ks ps i (1 + (k + 1))) wr) := by
              have := HI.out
              rw [HOK.out.lay0 hik hdl hobj] at this
              exact this
            have HQN : Hid (∀ d, d < k + 1 → nth (named zs s) d < 0 ∨ nth (named zs s) d ∈ ks) := fun d hd => by
              rcases Nat.lt_succ_iff_lt_or_eq.1 hd with h1 | h1
              · exact HQ.out d h1
              · rw [h1, HY.out]; exact .inl h0
            have c0 : (Y < 0) = True := eq_true h0
            clear hrw hobj hz h0 HI HQ hyw
            go_wp2
            go_roundw
            case rel => exact ⟨k + 1, by omega, by go_num, HIN, HX, HNa, HQN⟩
            case measure => simp [intOf]; omega
          · have hu : nth zs (s + 1 + k) = Y + 1 := by omega
            have c0 : (Y < 0) = False := eq_false h0
            have HPC := Lib.hid (place_any (some ⟨b, off, none⟩) nk ck _ Y ks wr HNK.out (HK.out.below HI.out.below (Nat.le_refl _)))
            by_cases hin : Y ∈ ks
            · obtain ⟨hq1, hq2⟩ := plN_in hin
              obtain ⟨q, hq⟩ : ∃ q, plN ks Y = q := ⟨_, rfl⟩
              rw [hq] at hq1 hq2
              have htq := (HOK.out.nat hq1).1
              have htf := (HOK.out.nat hq1)
              have hv : objW zs ks ps i (1 + k) = (tn zs ks ps q : Int) + 1 := by
                rw [hobj, hu, ← hq2, trW_ref (HOK.out.pl hq1) (by rw [hq2]; omega), htq]
              have hq256 : tn zs ks ps q + 1 ≤ 256 := by have := HAL.out; omega
              have hqk : q < nk := by have := HKL.out; omega
              have HQN : Hid (∀ d, d < k + 1 → nth (named zs s) d < 0 ∨ nth (named zs s) d ∈ ks) := fun d hd => by
                rcases Nat.lt_succ_iff_lt_or_eq.1 hd with h1 | h1
                · exact HQ.out d h1
                · rw [h1, HY.out]; exact .inr hin
              have HLY := Lib.hid (HOK.out.lay hik hdl)
              obtain ⟨tq, htq'⟩ : ∃ tq, tn zs ks ps q = tq := ⟨_, rfl⟩
              have cq : wr.cell? ⟨b2, off2 + q, none⟩ = some (.int .i64 (tq : Int)) := by rw [← htq']; exact HCT.out q hqk wr HI.out.later
              have ct : wr.cell? ⟨b2, off2 + i, none⟩ = some (.int .i64 (t : Int)) := by rw [← HTT.out]; exact HCT.out i hlt wr HI.out.later
              rw [hv, htq'] at HLY
              rw [htq'] at hq256
              have HPR : Hid (∀ r, PlaceP ks Y r → r = (q : Int)) := fun r hr => by
                rcases hr with ⟨q', rfl, hq', e⟩ | ⟨_, hno⟩
                · have h1 := HOK.out.pl hq'
                  rw [e, hq] at h1
                  rw [h1]
                · exact absurd hq2 (hno q hq1)
              clear hin hobj hv hu hrw htq htf hq hq1 hq2 htq' HQ h0 hyw
              go_wp2_with fail
              refine HPC.out.mono ?_
              rintro e w5 ⟨⟨r, rfl, hr⟩, rfl⟩
              have hrq := HPR.out r hr
              subst hrq
              clear hr HPC HPR
              have c1 : ((q : Int) < 0) = False := eq_false (by omega)
              obtain ⟨t1, J, hJn, e1, e1', e2, e2', hJ⟩ := sums2_of (t := t) (k := k) (n := n) (Nat.lt_of_lt_of_le (Nat.lt_of_lt_of_le (Nat.add_lt_add_left hltk (t + 1)) (Nat.le_add_right _ Bn)) htb) hn256
              obtain ⟨V, hV, e3, e4, hvw⟩ := wrap_ref hq256
              have hI1 := HI.out.next (below_drewN (Below.refl _ wr) 1)
              have d0 := hI1.whole.cell (j := J) (by rw [slidAt_len, HAL.out]; exact hJn)
              have f0 := hI1.whole.frozen J
              have hN := hI1.set HS3.out J hvw
              have hX := (HX.out.below (below_drewN (Below.refl _ wr) 1) HX.out.lt).setOther (g := w3.heap.size) (Nat.ne_of_gt HGH.out) J (.int .u64 V)
              have hNa := ((HNa.out.later (below_drewN (Below.refl _ wr) 1)).setOther HHi9.out (g := w3.heap.size) (Nat.lt_succ_self _) J (.int .u64 V)).more (B' := ((wr.drewN 1).setCell ⟨w3.heap.size, J, none⟩ (.int .u64 V)).heap.size) (by simp [World.setCell])
              have hLY := HLY.out
              rw [HTT.out, hV, hJ] at hLY
              rw [hLY] at hN
              rw [HG.out] at d0 f0 hN hX hNa
              have HIN := Lib.hid hN
              have HXN := Lib.hid hX
              have HNN := Lib.hid hNa
              clear hI1 hN hX hNa hLY HLY hJ HI HX HNa
              generalize nth (slidAt zs ks ps i (1 + k)) J = O at *
              go_wp2_with fail
              go_still_tail 14, (by kernel_rfl)
              change wpList _ _ _ _ _ (wr.drewN 1)
              clear ct cq
              go_wp2
              clear e1 e1' e2 e2' e3 e4 hV
              go_roundw
              case rel => exact ⟨k + 1, hltk, by go_num, HIN, HXN, HNN, HQN⟩
              case measure => simp [intOf]; omega
            · have HNO : Hid (heldB zs ks = false) := heldTo_not hik HNX.out (by rw [HY.out]; exact h0) (by rw [HY.out]; exact hin)
              have HBB := Lib.hid HI.out.below
              have HPR : Hid (∀ r, PlaceP ks Y r → r = -1) := fun r hr => by
                rcases hr with ⟨q', _, hq', e⟩ | ⟨e, _⟩
                · exact absurd (e ▸ nth_mem hq') hin
                · exact e
              clear hin hobj hu hrw HQ h0 hyw
              go_wp2_with fail
              refine HPC.out.mono ?_
              rintro e w5 ⟨⟨r, rfl, hr⟩, rfl⟩
              have hrq := HPR.out r hr
              subst hrq
              clear hr HPC HPR
              go_wp2
              go_ret2
              exact ⟨HBB.out, .inr ⟨HNO.out, rfl⟩⟩
        · obtain rfl : k = Rn := by omega
          have HHN : Hid (heldTo zs ks (i + 1)) := fun j hj y hy => by
            rcases Nat.lt_succ_iff_lt_or_eq.1 hj with h1 | h1
            · exact HH.out j h1 y hy
            · subst h1
              have hy' : y ∈ named zs (kn ks j) := hy
              rw [HSS.out] at hy'
              obtain ⟨d, hd, rfl⟩ := mem_nth hy'
              exact HQ.out d (by have := HNL.out; omega)
          have cb : wr.cell? ⟨gh, 1, none⟩ = some (.int .i64 (Bn : Int)) := by rw [HBr.out]; exact HX.out.cell 1
          have HI9 := HI
          have HX9 := HX
          clear HI HX HNa HQ HH
          go_wp2_with fail
          clear cb
          generalize wr = W2 at *
          go_loopw [82] (fun x wx => ∃ d : Nat, d ≤ Bn ∧ x = .int .i64 d ∧ Hid (SlW w w3 (slidAt zs ks ps i (1 + k + d)) wx) ∧ Hid (Box wx gh 61 #[.int .i64 R, .int .i64 Bd, .int .i64 Tg, .bool false])) (fun x _ => Bn - (intOf x).toNat)
          case atStart => exact ⟨0, Nat.zero_le _, rfl, HI9, HX9⟩
          case round =>
            obtain ⟨d, hdB, rfl, HI, HX⟩ := hrel
            clear HI9 HX9
            by_cases hltd : d < Bn
            · have hdl : 1 + k + d < longN zs (kn ks i) := by have := HLN.out; omega
              have hobj := HAW.out (1 + k + d) hdl
              rw [if_neg (by omega), HSS.out] at hobj
              have hLY := HOK.out.lay hik hdl
              rw [hobj, HTT.out] at hLY
              have ct : wr.cell? ⟨b2, off2 + i, none⟩ = some (.int .i64 (t : Int)) := by rw [← HTT.out]; exact HCT.out i hlt wr HI.out.later
              have cr : wr.cell? ⟨gh, 0, none⟩ = some (.int .i64 (k : Int)) := by rw [HRr.out]; exact HX.out.cell 0
              obtain ⟨t1, t2, J, hJn, e1, e1', e2, e2', e3, e3', hJ⟩ := sums_of (t := t) (k := k) (d := d) (n := n) (Nat.lt_of_lt_of_le (Nat.add_lt_add_left hltd (t + 1 + k)) htb) hn256
              obtain ⟨s1, s2, M, hMn, e4, e4', e5, e5', e6, e6', hM⟩ := sums_of (t := s) (k := k) (d := d) (n := n) (Nat.lt_of_lt_of_le (Nat.add_lt_add_left hltd (s + 1 + k)) hsb) hn256
              obtain ⟨bz, oz, rfl, _, hzs⟩ := (HA.out.later HI.out.below).2.2 (Nat.lt_of_le_of_lt (Nat.zero_le _) hMn)
              have cz := hzs M hMn
              have hvw := HWF.out _ (nth_mem (l := zs) (j := M) (by rw [HAL.out]; exact hMn))
              rw [hJ, hM] at hLY
              obtain ⟨V, hV⟩ : ∃ V, nth zs M = V := ⟨_, rfl⟩
              rw [hV] at cz hvw hLY
              have hI1 := HI.out.next (below_drewN (Below.refl _ wr) 1)
              have d0 := hI1.whole.cell (j := J) (by rw [slidAt_len, HAL.out]; exact hJn)
              have f0 := hI1.whole.frozen J
              have hN := hI1.set HS3.out J hvw
              have hX := (HX.out.below (below_drewN (Below.refl _ wr) 1) HX.out.lt).setOther (g := w3.heap.size) (Nat.ne_of_gt HGH.out) J (.int .u64 V)
              rw [hLY] at hN
              rw [HG.out] at d0 f0 hN hX
              have HIN := Lib.hid hN
              have HXN := Lib.hid hX
              clear hI1 hN hX hLY hJ hM HI HX hzs hobj hV
              generalize nth (slidAt zs ks ps i (1 + k + d)) J = O at *
              go_wp2_with fail
              go_still_tail 21, (by kernel_rfl)
              change wpList _ _ _ _ _ (wr.drewN 1)
              clear ct cr cz
              go_wp2
              clear e1 e1' e2 e2' e3 e3' e4 e4' e5 e5' e6 e6'
              go_roundw
              case rel => exact ⟨d + 1, hltd, by go_num, HIN, HXN⟩
              case measure => simp [intOf]; omega
            · obtain rfl : d = Bn := by omega
              have hI := HI.out
              rw [← HLN.out, HOK.out.laid hik] at hI
              have HIN := Lib.hid hI
              clear hI HI HX
              go_wp2
              go_roundw
              case rel => exact ⟨i + 1, by omega, by go_num, HIN, HHN⟩
              case measure => simp [intOf]; omega
    · obtain rfl : i = nk := by omega
      have hheld := heldTo_all (zs := zs) (ks := ks) (by rw [HKL.out]; exact HH.out)
      have HHB := Lib.hid hheld
      have hI := HI.out
      rw [← HKL.out] at hI
      have HI := Lib.hid hI
      have HPG := Lib.hid (planGapsRef_high A K P n c i ck np cp zs ks ps wr (HA.out.later hI.below) (HK.out.later hI.below) HNP.out (HP.out.later hI.below) HOK.out)
      clear HH hheld hI
      go_wp2_with fail
      refine HPG.out.mono ?_
      rintro e w4 ⟨F, r, fc, rfl, hF, hHF, b4⟩
      have HF := Lib.hid hF
      have HHF : Hid (High (w3.heap.size + 1) F r) := hHF.less HI.out.whole.lt
      have hrl := hF.1
      have HRL := Lib.hid hrl
      have HI4 : Hid (SlW w w3 (joinTo (slidAt zs ks ps ks.length 0) ((gapP zs ks ps).take 0)) w4) := by
        have := HI.out.next b4
        rw [List.take_zero]
        exact this
      have hr256 : r ≤ 257 := by
        have h1 := HOK.out.few
        have h2 := HOK.out.plen
        omega
      clear HPG hF hHF b4 hrl HI
      go_wp2_with fail
      generalize wr = W0 at *
      go_loopw [114] (fun x wx => ∃ j : Nat, j ≤ r ∧ x = .int .i64 j ∧ Hid (SlW w w3 (joinTo (slidAt zs ks ps ks.length 0) ((gapP zs ks ps).take j)) wx) ∧ Hid (ArrG runC 2 wx wx.heap.size F r (gapP zs ks ps))) (fun x _ => r - (intOf x).toNat)
      case atStart => exact ⟨0, Nat.zero_le _, rfl, HI4, HF⟩
      case round =>
        obtain ⟨j, hjr, rfl, HI, HB⟩ := hrel
        clear HI4 HF
        by_cases hlt2 : j < r
        · obtain ⟨b, off, rfl, _, hc0, hc1⟩ := HB.out.run hlt2
          have hj : j < (gapP zs ks ps).length := by have := HRL.out; omega
          obtain ⟨s, L, e1, e2, hL, hsl, _⟩ := HOK.out.slid_gap0 hj
          have hset := HOK.out.gapAt hj
          rw [e1, e2, Int.toNat_natCast, Int.toNat_natCast] at hset
          rw [e1] at hc0
          rw [e2] at hc1
          have hal := HAL.out
          have hsn : s < n := by omega
          have hL256 : L ≤ 256 := by omega
          have hwf := (fWord_facts hL hL256).2.2.2
          have HFH := Lib.hid (fun wx => freeHead_any L wx hL hL256)
          have b5 := (Below.refl _ wr).alloc (Nat.le_refl _) (.cells #[.int .i64 s, .int .i64 L] 47)
          have HB5 := Lib.hid ((HB.out.below b5 (Nat.le_refl _)).more b5.size)
          have HI5 := Lib.hid (HI.out.next b5)
          have HX5 := Lib.hid (Box.new wr 47 #[.int .i64 s, .int .i64 L])
          have HST := Lib.hid hset
          have HJL : Hid ((joinTo (slidAt zs ks ps ks.length 0) ((gapP zs ks ps).take j)).length = n) := by
            show _ = _
            rw [HOK.out.gap_len hj]; exact hal
          clear hset e1 e2 hal hsl hj b5 HI HB
          generalize hV : fWord L = V at *
          clear hV
          go_wp2_with fail
          obtain ⟨gx, hgx⟩ : ∃ gx, wr.heap.size = gx := ⟨_, rfl⟩
          rw [hgx] at HX5
          rw [hgx]
          clear hgx hc0 hc1
          have HI6 := Lib.hid (HI5.out.next (below_drewN (Below.refl _ _) 1))
          have HB6 : Hid (ArrG runC 2 ((wr.alloc (.cells #[.int .i64 s, .int .i64 L] 47)).drewN 1) ((wr.alloc (.cells #[.int .i64 s, .int .i64 L] 47)).drewN 1).heap.size (some ⟨b, off, none⟩) r (gapP zs ks ps)) := HB5.out
          have HX6 : Hid (Box ((wr.alloc (.cells #[.int .i64 s, .int .i64 L] 47)).drewN 1) gx 47 #[.int .i64 s, .int .i64 L]) := HX5.out
          clear HI5 HB5 HX5
          refine wp_region_Y 7 (fun w' => w'.cell? ⟨gx, 0, none⟩ = some (.int .i64 s) ∧ w'.cell? ⟨gx, 1, none⟩ = some (.int .i64 L)) (by kernel_rfl) ?_
          change anyY _ _ _ _ _ _ _ _ _ ((wr.alloc (.cells #[.int .i64 s, .int .i64 L] 47)).drewN 1)
          generalize ((wr.alloc (.cells #[.int .i64 s, .int .i64 L] 47)).drewN 1) = W at *
          have hS0 : W.cell? ⟨gx, 0, none⟩ = some (.int .i64 s) ∧ W.cell? ⟨gx, 1, none⟩ = some (.int .i64 L) := ⟨HX6.out.cell 0, HX6.out.cell 1⟩
          refine anyY_pure (i := 0) (v := .slice (some ⟨g, 0, none⟩) n n) rfl rfl rfl (by kernel_rfl) (by kernel_rfl) (by kernel_rfl) (fun _ _ _ h => h) (Or.inl ⟨by rfl, fun wx _ => ?_⟩) (.inr hS0) ?_
          · go_simp
          refine anyY_pure (i := 1) (v := .pointer (some ⟨gx, 0, none⟩)) rfl rfl rfl (by kernel_rfl) (by kernel_rfl) (by kernel_rfl) (fun _ _ _ h => h) (Or.inl ⟨by rfl, fun wx _ => ?_⟩) (.inr hS0) ?_
          · go_simp
          refine anyY_take (i := 2) (v := .int .i64 s) rfl rfl (by kernel_rfl) rfl (by kernel_rfl) (by kernel_rfl) (by kernel_rfl) (by kernel_rfl) (fun _ _ _ h => h) (Or.inl ⟨by rfl, fun wx hS => ?_⟩) hS0 ?_
          · obtain ⟨q0, q1⟩ := hS
            go_simp
          refine anyY_pure (i := 3) (v := .pointer (some ⟨gx, 1, none⟩)) rfl rfl rfl (by kernel_rfl) (by kernel_rfl) (by kernel_rfl) (fun _ _ _ h => h) (Or.inl ⟨by rfl, fun wx _ => ?_⟩) (.inr hS0) ?_
          · go_simp
          refine anyY_take (i := 4) (v := .int .i64 L) rfl rfl (by kernel_rfl) rfl (by kernel_rfl) (by kernel_rfl) (by kernel_rfl) (by kernel_rfl) (fun _ _ _ h => h) (Or.inl ⟨by rfl, fun wx hS => ?_⟩) hS0 ?_
          · obtain ⟨q0, q1⟩ := hS
            go_simp
          refine anyY_only (i := 5) (by kernel_rfl) ?_
          refine wpOp_step rfl fun K' hK' => ?_
          go_simp
          refine (HFH.out _).mono ?_
          rintro e w7 ⟨rfl, b7⟩
          have HI7 := Lib.hid (HI6.out.next b7)
          have HB7 := Lib.hid ((HB6.out.below b7 (Nat.le_refl _)).more b7.size)
          have HX7 := Lib.hid (HX6.out.below b7 HX6.out.lt)
          have hS2 : w7.cell? ⟨gx, 0, none⟩ = some (.int .i64 s) ∧ w7.cell? ⟨gx, 1, none⟩ = some (.int .i64 L) := ⟨HX7.out.cell 0, HX7.out.cell 1⟩
          refine hK' _ _ ⟨.inr (.inr hS2), ?_⟩
          clear hK' hS0 b7 HI6 HB6 HX6
          refine anyY_pure (i := 6) (v := .pointer (some ⟨g, s, none⟩)) rfl rfl rfl (by kernel_rfl) (by kernel_rfl) (by kernel_rfl) (fun _ _ _ h => h) (Or.inl ⟨by rfl, fun wx _ => ?_⟩) (.inr hS2) ?_
          · go_simp
          refine anyY_only (i := 7) (by kernel_rfl) ?_
          have d0 := HI7.out.whole.cell (j := s) (by rw [HJL.out]; exact hsn)
          have f0 := HI7.out.whole.frozen s
          have HN := HI7.out.set HS3.out s hwf
          rw [HST.out] at HN
          have HBN := (HB7.out.setOther HHF.out (g := w3.heap.size) (by omega) s (.int .u64 V)).more (B' := (w7.setCell ⟨w3.heap.size, s, none⟩ (.int .u64 V)).heap.size) (by simp [World.setCell])
          rw [HG.out] at d0 f0 HN HBN
          have HN := Lib.hid HN
          have HBN := Lib.hid HBN
          clear HI7 HB7 HX7 hS2
          generalize nth (joinTo (slidAt zs ks ps ks.length 0) ((gapP zs ks ps).take j)) s = O at *
          refine wpOp_step rfl fun K' hK' => ?_
          go_simp
          refine hK' _ _ ⟨.inr (.inl rfl), anyY_done (by kernel_rfl) ?_ _⟩
          clear hK'
          go_wp2
          go_roundw
          case rel => exact ⟨j + 1, by omega, by go_num, HN, HBN⟩
          case measure => simp [intOf]; omega
        · obtain rfl : j = r := by omega
          have hI := HI.out
          rw [← HRL.out, slid_gaps_all] at hI
          have harr := hI.whole.arr hI.whole.lt
          rw [HOK.out.slid_len, HAL.out, HG.out] at harr
          have HAR := Lib.hid harr
          have HBB := Lib.hid hI.below
          clear hI harr HI HB
          go_wp2
          go_ret2
          exact ⟨HBB.out, .inl ⟨HHB.out, _, _, _, rfl, HAR.out⟩⟩
end Go.Proofs.Ythcilgannhldgaa
