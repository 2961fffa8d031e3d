/-
  Package young: Keep.
-/
import Derived.Test.YthdnfocemchgjaaYoungE
namespace Go.Proofs.Ythdnfocemchgjaa
open Go.RowKit

/-- What holds in the middle of Keep. -/
structure AI (w : World) (A G K F : Option Addr) (n c ng cg nb cb nf : Nat) (zs g b fr : List Int) (wx : World) : Prop where
  below : Below w.heap.size w wx
  arg : Box wx w.heap.size 25 #[.slice A n c, .slice G ng cg, .slice K nb cb]
  ages : AgesIn wx A G K n c ng cg nb cb zs g b
  from_ : Arr .i64 wx wx.heap.size F nf fr
section
variable {w wx wx' : World} {A G K F : Option Addr} {n c ng cg nb cb nf : Nat} {zs g b fr : List Int}
theorem AI.next (h : AI w A G K F n c ng cg nb cb nf zs g b fr wx) (hb : Below wx.heap.size wx wx') : AI w A G K F n c ng cg nb cb nf zs g b fr wx' :=
  ⟨h.below.trans (hb.mono h.below.size), h.arg.below hb h.arg.lt, h.ages.next hb, h.from_.later hb⟩
theorem AI.cells (h : AI w A G K F n c ng cg nb cb nf zs g b fr wx) : wx.cell? ⟨w.heap.size, 0, none⟩ = some (.slice A n c) ∧ wx.cell? ⟨w.heap.size, 1, none⟩ = some (.slice G ng cg) ∧ wx.cell? ⟨w.heap.size, 2, none⟩ = some (.slice K nb cb) := ⟨h.arg.cell 0, h.arg.cell 1, h.arg.cell 2⟩
theorem ages_small (h : AgesOk zs g b) : g.length ≤ 256 ∧ b.length ≤ 256 := by
  have h1 := sub_length (rises_nodup h.nr) (fun x hx => h.ol x (h.no x hx))
  have h2 := sub_length (rises_nodup h.or_) h.ol
  have h3 := lives_len (arena_len h.arena)
  omega
end

set_option maxRecDepth 8000 in
set_option maxHeartbeats 4000000 in
theorem yKeep_any : YKeepC := by
  intro A G K F n c ng cg nb cb nf cf zs g b fr w h hnf hfr
  have b1 := (Below.refl _ w).alloc (Nat.le_refl _) (.cells #[.slice A n c, .slice G ng cg, .slice K nb cb] 25)
  have HI := Lib.hid (show AI w A G K F n c ng cg nb cb nf zs g b fr (w.alloc (.cells #[.slice A n c, .slice G ng cg, .slice K nb cb] 25)) from ⟨b1, Box.new w 25 #[.slice A n c, .slice G ng cg, .slice K nb cb], h.next b1, hfr.later b1⟩)
  have HZ := Lib.hid h.tri.arena.2.1
  have HCK := Lib.hid (fun wx (t : AgesIn wx A G K n c ng cg nb cb zs g b) => yCheck_any A G K n c ng cg nb cb zs g b wx t)
  have HNF := Lib.hid hnf
  have HTR := Lib.hid (And.intro h.tri.hn h.tri.hnc)
  clear b1 h hnf hfr
  unfold YKeepP
  go_enter Try.func16, Try.ntmps16
  go_wp2_with fail
  generalize (w.alloc (.cells #[.slice A n c, .slice G ng cg, .slice K nb cb] 25)) = w1 at *
  obtain ⟨a0, a1, a2⟩ := HI.out.cells
  go_wp2_with fail
  refine (HCK.out _ HI.out.ages).mono ?_
  rintro e w2 ⟨rfl, b2⟩
  have HI2 := Lib.hid (HI.out.next b2)
  clear b2 a0 a1 a2 HI HCK
  by_cases h0 : agesE zs g b = 0
  · have H0 := Lib.hid h0
    have HOK := Lib.hid (agesE_zero.1 h0)
    have HEE := Lib.hid (keepE_ok (fr := fr) h0)
    rw [h0]
    clear h0
    obtain ⟨hg256, hb256⟩ := ages_small HOK.out
    have hnb : nb ≤ 256 := by rw [← HI2.out.ages.tri.blk.1]; exact hb256
    have hfrom := keep_from (fr := fr) HOK.out
    obtain ⟨N, hN⟩ : ∃ N, nf + nb = N := ⟨_, rfl⟩
    have HCC : Hid (∀ wx, Below w2.heap.size w2 wx → Calls Try.prog 20 #[.slice (some ⟨wx.heap.size, 0, none⟩) 2 2] (wx.alloc (.cells #[.slice F nf cf, .slice K nb cb] 23)) fun e w' => ∃ C cc, e = .returned (.slice C N cc) ∧ Arr .i64 w' w'.heap.size C N (fr ++ b) ∧ Below wx.heap.size wx w') := by
      intro wx hb
      have ba := (Below.refl _ wx).alloc (Nat.le_refl _) (.cells #[.slice F nf cf, .slice K nb cb] 23)
      have bx := Box.new wx 23 #[.slice F nf cf, .slice K nb cb]
      have := HNF.out
      rw [← hN]
      refine (concat2 F K nf cf nb cb wx.heap.size fr b _ (by omega) bx.lt ((HI2.out.next hb).from_.later ba) ((HI2.out.next hb).ages.tri.blk.later ba) (bx.cell 0) (bx.cell 1)).mono ?_
      rintro e w' ⟨C, cc, h1, h2, h3⟩
      exact ⟨C, cc, h1, h2, bthen ba h3⟩
    have HRE : Hid (∀ wx, Below w2.heap.size w2 wx → ∀ C cc, Arr .i64 wx wx.heap.size C N (fr ++ b) → Calls Try.prog 18 #[.slice A n c, .slice C N cc] wx fun e w' => ∃ D k d, e = .returned (.tuple #[.slice D k d, .int .i64 (fromE zs fr)]) ∧ Below wx.heap.size wx w' ∧ ((fromE zs fr ≠ 0 ∧ k = 0) ∨ (fromE zs fr = 0 ∧ k = (reachL zs (fr ++ b)).length ∧ Arr .i64 w' w'.heap.size D k (reachL zs (fr ++ b))))) := by
      intro wx hb C cc hC
      have := HNF.out
      have h1 := Reach_any A C n c N cc zs (fr ++ b) wx HTR.out.1 HTR.out.2 (HI2.out.next hb).ages.tri.arena (by unfold maxLen; omega) hC
      unfold ReachP at h1
      rw [hfrom] at h1
      exact h1
    have HSZ := Lib.hid HI2.out.arg.lt
    clear hfrom hN hg256 hb256 hnb
    obtain ⟨a0, a1, a2⟩ := HI2.out.cells
    obtain ⟨E, hE⟩ : ∃ E, fromE zs fr = E := ⟨_, rfl⟩
    rw [hE] at HEE HRE
    have HE := Lib.hid hE
    clear hE
    go_wp2_with fail
    go_region_held3 (fun w' => w'.cell? ⟨w.heap.size, 0, none⟩ = some (.slice A n c) ∧ w'.cell? ⟨w.heap.size, 2, none⟩ = some (.slice K nb cb))
      (first
        | exact ⟨y0, y2⟩
        | exact ⟨x0, x2⟩
        | go_keep)
      (first
        | (go_at_call 18; refine (HRE.out w7 b7 C7 c7 hC7).mono ?_; rintro e w8 ⟨D8, k8, d8, rfl, b8, hcase⟩; have y0 := (b8.cell (p := ⟨w.heap.size, 0, none⟩) (Nat.lt_of_lt_of_le HSZ.out b7.size)).trans x0; have y2 := (b8.cell (p := ⟨w.heap.size, 2, none⟩) (Nat.lt_of_lt_of_le HSZ.out b7.size)).trans x2)
        | (go_at_call 20; refine (HCC.out _ (below_drewN (Below.refl _ _) 1)).mono ?_; rintro e w7 ⟨C7, c7, rfl, hC7, b7⟩; have b7 : Below w2.heap.size w2 w7 := below_of_drew b7; have x0 := (b7.cell (p := ⟨w.heap.size, 0, none⟩) HSZ.out).trans a0; have x2 := (b7.cell (p := ⟨w.heap.size, 2, none⟩) HSZ.out).trans a2))
    rename_i hHeld
    have HI8 := Lib.hid (HI2.out.next (bthen b7 b8))
    have HCS := Lib.hid hcase
    clear hHeld x0 x2 y0 y2 b7 b8 hC7 a0 a1 a2 HI2 HRE HCC hcase
    by_cases hE0 : E = 0
    · subst hE0
      rcases HCS.out with ⟨h, _⟩ | ⟨_, hk, hD⟩
      · exact absurd rfl h
      · have hk256 : k8 ≤ 256 := by rw [hk]; exact reachL_len (arena_len HOK.out.arena)
        have HQ := Lib.hid (youngWithout_any D8 G k8 d8 ng cg (reachL zs (fr ++ b)) g w8 (by omega) HI8.out.ages.tri.hg hD HI8.out.ages.tri.grey HOK.out.or_)
        unfold OutP at HQ
        rw [keep_out HZ.out HOK.out HE.out] at HQ
        obtain ⟨a0, a1, a2⟩ := HI8.out.cells
        clear hk hD hk256 HCS
        go_wp2_with fail
        refine HQ.out.mono ?_
        rintro e w9 ⟨B9, c9, rfl, b9, hc9, hB9⟩
        have HB9 := Lib.hid (HI8.out.next b9).below
        have HC9 := Lib.hid hc9
        have HA9 := Lib.hid hB9
        clear b9 hc9 hB9 a0 a1 a2 HQ HI8
        obtain ⟨q, hq⟩ : ∃ q, (keptL zs g b fr).length = q := ⟨_, rfl⟩
        rw [hq] at HC9 HA9 ⊢
        go_wp2
        go_ret2
        exact ⟨B9, q, c9, by rw [HEE.out]; rfl, HB9.out, HC9.out, by rw [keepO_ok HEE.out]; exact HA9.out⟩
    · have hb : (E != 0) = true := by simpa using hE0
      have HKO := Lib.hid (keepO_bad (zs := zs) (g := g) (b := b) (fr := fr) (by rw [HEE.out]; exact hE0))
      clear hE0
      go_wp2
      go_ret2
      exact ⟨none, 0, 0, by rw [HEE.out]; rfl, HI8.out.below, Nat.le_refl _, by rw [HKO.out]; exact Arr.zero⟩
  · have HE := Lib.hid (keepE_bad (fr := fr) h0)
    have HKO := Lib.hid (keepO_bad (zs := zs) (g := g) (b := b) (fr := fr) (by rw [HE.out]; exact h0))
    obtain ⟨E, hE⟩ : ∃ E, agesE zs g b = E := ⟨_, rfl⟩
    rw [hE] at h0 HE ⊢
    have hb : (E != 0) = true := by simpa using h0
    clear h0 hE
    go_wp2
    go_ret2
    exact ⟨none, 0, 0, by rw [HE.out]; rfl, HI2.out.below, Nat.le_refl _, by rw [HKO.out]; exact Arr.zero⟩
end Go.Proofs.Ythdnfocemchgjaa
