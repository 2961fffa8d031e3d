/-
  The walk of FaintLeast where what comes in is not too long, given what Keep answers ('FKeepC').
-/
import Derived.Test.YtdglnbcliemafaaFaintD
import Derived.Test.YtdglnbcliemafaaFaintEW
namespace Go.Proofs.Ytdglnbcliemafaa
open Go.RowKit

set_option maxRecDepth 8000 in
set_option maxHeartbeats 4000000 in
theorem faintLeast_of (hK : FKeepC) (A F P X : Option Addr) (n c nf cf np cp nx cx : Nat) (zs fr xs : List Int) (ps : List (Int × Int)) (w : World) (h : ArenaFrom w A F n c nf cf zs fr) (hp : FaintsIn w P np cp ps) (hX : Arr .i64 w w.heap.size X nx xs) (hnf : nf ≤ 1048576) (hnp : np ≤ 1048576) (hnx : nx ≤ 1048576) :
    Calls Try.prog 5 #[.slice A n c, .slice F nf cf, .slice P np cp, .slice X nx cx] w fun e w' => e = .returned (.bool true) ∧ Below w.heap.size w w' := by
  have HFT := Lib.hid (fun wx => faints_any hK wx)
  have HZ := Lib.hid h.arena.2.1
  have HKA := Lib.hid (fun wx (hb : Below w.heap.size w wx) => hK A F P n c nf cf np cp zs fr ps wx (h.later hb) (hp.later hb) (by omega))
  have b0 := (Below.refl _ w).alloc (Nat.le_refl _) (.cells #[.slice A n c] 22)
  have b1 := b0.alloc b0.size (.cells #[.slice F nf cf] 23)
  have b2 := b1.alloc b1.size (.cells #[.slice P np cp] 24)
  have x0 := ((Box.new w 22 #[.slice A n c]).alloc (.cells #[.slice F nf cf] 23)).alloc (.cells #[.slice P np cp] 24)
  have x1 := (Box.new (w.alloc (.cells #[.slice A n c] 22)) 23 #[.slice F nf cf]).alloc (.cells #[.slice P np cp] 24)
  have x2 := Box.new ((w.alloc (.cells #[.slice A n c] 22)).alloc (.cells #[.slice F nf cf] 23)) 24 #[.slice P np cp]
  rw [show (w.alloc (.cells #[.slice A n c] 22)).heap.size = w.heap.size + 1 by simp] at x1
  rw [show ((w.alloc (.cells #[.slice A n c] 22)).alloc (.cells #[.slice F nf cf] 23)).heap.size = w.heap.size + 2 by simp] at x2
  have HC := Lib.hid (show CapF A F P n c nf cf np cp w.heap.size zs fr ps _ from ⟨x0, x1, x2, h.later b2, hp.later b2⟩)
  have HB := Lib.hid b2
  have HX := Lib.hid hX
  clear b0 b1 b2 x0 x1 x2 h hp hX hK
  unfold FKeepP at HKA
  go_enter Try.func5, Try.ntmps5
  go_wp2_with fail
  generalize (((w.alloc (.cells #[.slice A n c] 22)).alloc (.cells #[.slice F nf cf] 23)).alloc (.cells #[.slice P np cp] 24)) = w0 at *
  refine (HFT.out _).mono ?_
  rintro e w1 ⟨rfl, b1⟩
  have HB1 := Lib.hid (bthen HB.out b1)
  have HC1 := Lib.hid (HC.out.next b1)
  clear b1 HFT HB HC
  have c0 : w1.cell? ⟨w.heap.size, 0, none⟩ = some (.slice A n c) := HC1.out.b0.cell 0
  have c1 : w1.cell? ⟨w.heap.size + 1, 0, none⟩ = some (.slice F nf cf) := HC1.out.b1.cell 0
  have c2 : w1.cell? ⟨w.heap.size + 2, 0, none⟩ = some (.slice P np cp) := HC1.out.b2.cell 0
  have HQ := Lib.hid (HKA.out w1 HB1.out)
  clear HKA
  go_wp2_with fail
  refine HQ.out.mono ?_
  rintro e w2 ⟨K, m, d, rfl, b2, _, hK2⟩
  have HB2 := Lib.hid (bthen HB1.out b2)
  have HC2 := Lib.hid (HC1.out.next b2)
  have HK2 := Lib.hid hK2
  clear b2 hK2 HQ HB1 HC1 c0 c1 c2
  by_cases hE : faintE zs fr ps = 0
  · obtain ⟨h0, h32, hpw⟩ := faintE_zero hE
    have HE := Lib.hid hE
    have HAR := Lib.hid (fromE_zero h0).1
    have hk2 := HK2.out
    rw [faintO_ok hE] at hk2
    rw [hE]
    have hm256 : m ≤ 256 := by rw [← hk2.1]; exact faintL_len (arena_len (fromE_zero h0).1)
    have HK2 := Lib.hid hk2
    have HX2 := Lib.hid (HX.out.later HB2.out)
    have c1 : w2.cell? ⟨w.heap.size + 1, 0, none⟩ = some (.slice F nf cf) := HC2.out.b1.cell 0
    have hxl := HX.out.1
    have hfl := HC2.out.af.from_.1
    have bw := below_drewN (Below.refl w2.heap.size w2) 1
    have HCL := Lib.hid (cloneIntsF X nx cx xs (w2.drewN 1) (by omega) (HX2.out.later bw))
    unfold ClonedOf at HCL
    clear hE h0 h32 hpw hk2 bw
    go_wp2_with fail
    refine wp_region_Y 3 (fun w' => w'.cell? ⟨w.heap.size + 1, 0, none⟩ = some (.slice F nf cf)) (by kernel_rfl) ?_
    change anyY _ _ _ _ _ _ _ _ _ (w2.drewN 1)
    have hS0 : (w2.drewN 1).cell? ⟨w.heap.size + 1, 0, none⟩ = some (.slice F nf cf) := c1
    refine anyY_pure (i := 0) (v := .slice X nx cx) rfl rfl rfl (by kernel_rfl) (by kernel_rfl) (by kernel_rfl) (fun _ _ _ h => h) (Or.inl ⟨by rfl, fun wx _ => ?_⟩) (.inr hS0) ?_
    · go_simp
    refine anyY_take (i := 2) (v := .slice F nf cf) rfl rfl (by kernel_rfl) rfl (by kernel_rfl) (by kernel_rfl) (by kernel_rfl) (by kernel_rfl) (fun _ _ _ h => h) (Or.inl ⟨by rfl, fun wx hS => ?_⟩) hS0 ?_
    · have q0 := hS
      go_simp
    refine anyY_only (i := 1) (by kernel_rfl) ?_
    refine wpOp_step rfl fun K' hK' => ?_
    go_simp
    refine HCL.out.mono ?_
    rintro e w3 ⟨A3, c3, rfl, hO3, b3⟩
    have b3' : Below w2.heap.size w2 w3 := below_of_drew b3
    refine hK' _ _ ⟨.inr (.inr ((b3'.cell (p := ⟨w.heap.size + 1, 0, none⟩) HC2.out.b1.lt).trans c1)), ?_⟩
    clear hK'
    obtain ⟨v4, w4, hrun, hO4, hG4⟩ := hO3.catF (P := Try.prog) (t := 23) (ty := 23) (c := cf) Try.underlying23 intI_info (by omega) (HC2.out.next b3').af.from_ (by omega) b3.size
    have hB4 := hG4.below b3.size hO3.own.row
    obtain ⟨A4, c4, rfl, _, hA4, _⟩ := hO4.arr
    have hl4 : (xs ++ fr).length = nx + nf := by rw [List.length_append, hxl, hfl]
    rw [hl4] at hA4 hrun
    have hb4 : Below w2.heap.size w2 w4 := b3'.trans hB4
    have HA4 := Lib.hid hA4
    have HR := Lib.hid hrun
    have HB4 := Lib.hid (bthen HB2.out hb4)
    have HC4 := Lib.hid (HC2.out.next hb4)
    have HK4 := Lib.hid (HK2.out.later hb4)
    clear hrun hA4 hO3 hO4 hG4 hB4 b3 b3' hb4 hS0 c1 HCL HB2 HC2 HX2 HK2 hl4 hxl hfl
    obtain ⟨N, hN⟩ : ∃ N, nx + nf = N := ⟨_, rfl⟩
    rw [hN] at HA4 HR
    have hN2 : N ≤ 2097152 := by omega
    clear hN
    refine anyY_only (i := 3) (by kernel_rfl) ?_
    refine wpOp_step rfl fun K' hK' => ?_
    refine step_append_run rfl (.tmp 28) (.tmp 29) 23 rfl rfl rfl HR.out ?_
    refine hK' _ _ ⟨.inr (.inl rfl), ?_⟩
    clear hK' HR
    refine anyY_pure (i := 4) (v := .slice A4 N c4) rfl rfl rfl (by kernel_rfl) (by kernel_rfl) (by kernel_rfl) (fun _ _ _ h => h) (Or.inl ⟨by rfl, fun wx _ => ?_⟩) (.inl (by kernel_rfl)) ?_
    · go_simp
    refine anyY_done (by kernel_rfl) ?_ _
    have HQ1 := Lib.hid (closed_any A F P K n c nf cf np cp m d w.heap.size zs fr (faintL zs fr ps) ps w4 HC4.out HK4.out hnf hnp (by omega) HAR.out)
    rw [kept_closed HZ.out HE.out] at HQ1
    have HQ2 := Lib.hid (fun wx (hb : Below w4.heap.size w4 wx) => closed_any A F P A4 n c nf cf np cp N c4 w.heap.size zs fr (xs ++ fr) ps wx (HC4.out.next hb) (HA4.out.later hb) hnf hnp (by omega) HAR.out)
    go_wp2_with fail
    refine HQ1.out.mono ?_
    rintro e w5 ⟨rfl, b5⟩
    have HB5 := Lib.hid (bthen HB4.out b5)
    have HQ3 := Lib.hid (HQ2.out w5 b5)
    have HA5 := Lib.hid (HA4.out.later b5)
    have HK5 := Lib.hid (HK4.out.later b5)
    clear b5 HQ1 HQ2 HB4 HA4 HK4 HC4
    cases hc : closedB zs fr ps (xs ++ fr)
    · rw [hc] at HQ3
      clear hc
      go_wp2_with fail
      refine HQ3.out.mono ?_
      rintro e w6 ⟨rfl, b6⟩
      have HB6 := Lib.hid (bthen HB5.out b6)
      clear b6
      go_wp2
      go_ret
      exact ⟨rfl, HB6.out⟩
    · rw [hc] at HQ3
      have HI := Lib.hid (closed_all HZ.out HE.out hc)
      clear hc
      go_wp2_with fail
      refine HQ3.out.mono ?_
      rintro e w6 ⟨rfl, b6⟩
      have HB6 := Lib.hid (bthen HB5.out b6)
      have HW := Lib.hid (keepWithin_any K A4 m d N c4 _ _ w6 (by unfold maxLen; omega) (by unfold maxLen; omega) (HK5.out.later b6) (HA5.out.later b6))
      rw [HI.out] at HW
      clear b6 HQ3
      go_wp2_with fail
      refine HW.out.mono ?_
      rintro e w7 ⟨rfl, b7⟩
      have HB7 := Lib.hid (bthen HB6.out b7)
      clear b7 HW
      go_wp2
      go_ret
      exact ⟨rfl, HB7.out⟩
  · have hk2 := HK2.out.1
    rw [faintO_bad hE] at hk2
    obtain rfl : m = 0 := hk2.symm
    obtain ⟨E, hEE⟩ : ∃ E, faintE zs fr ps = E := ⟨_, rfl⟩
    rw [hEE] at hE ⊢
    have hb : (E != 0) = true := by simpa using hE
    clear hk2 HK2 hE hEE
    go_wp2
    go_ret
    exact ⟨rfl, HB2.out⟩
end Go.Proofs.Ytdglnbcliemafaa
