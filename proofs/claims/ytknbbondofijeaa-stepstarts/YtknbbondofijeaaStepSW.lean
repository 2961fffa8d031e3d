/-
  The walk of StepStarts: whatever the arguments and the memory, the call returns true and changes nothing that was there.
-/
import Derived.Test.YtknbbondofijeaaStepT
namespace Go.Proofs.Ytknbbondofijeaa
open Go.RowKit

set_option maxRecDepth 16000 in
set_option maxHeartbeats 4000000 in
theorem stepStarts_walk (A F A2 G2 K2 : Option Addr) (n c nf cf n2 c2 ng cg nb cb : Nat) (zs fr zs2 g b : List Int) (w : World) (hn : n ≤ maxLen) (hnc : n ≤ c) (ha : Arr .u64 w w.heap.size A n zs) (hfr : Arr .i64 w w.heap.size F nf fr) (hsz : nf * 8 ≤ 140737488351232) (h : TriIn w A2 G2 K2 n2 c2 ng nb zs2 g b) :
    Calls Try.prog 3 #[.slice A n c, .slice F nf cf, .agg #[.slice A2 n2 c2, .slice G2 ng cg, .slice K2 nb cb]] w fun e w' => e = .returned (.bool true) ∧ Below w.heap.size w w' := by
  have b1 := (Below.refl _ w).alloc (Nat.le_refl _) (.cells #[.slice A2 n2 c2, .slice G2 ng cg, .slice K2 nb cb] 25)
  have HX := Lib.hid (Box.new w 25 #[.slice A2 n2 c2, .slice G2 ng cg, .slice K2 nb cb])
  have HB1 := Lib.hid b1
  have HA := Lib.hid ha
  have HF := Lib.hid hfr
  have HT := Lib.hid h
  have HN := Lib.hid hn
  have HS := Lib.hid (Start_any A F n c nf cf zs fr _ hn hnc (ha.later b1) (hfr.later b1) hsz)
  have HNF : Hid (nf ≤ maxLen) := by show _ ≤ _; unfold maxLen; omega
  unfold StartP at HS
  clear b1 ha hfr h hn hnc hsz
  go_enter Try.func3, Try.ntmps3
  go_wp2_with fail
  refine HS.out.mono ?_
  rintro e w2 ⟨A3, n3, c3, G3, g3, gc3, K3, k3, kc3, rfl, b2, hV⟩
  generalize (w.alloc (.cells #[.slice A2 n2 c2, .slice G2 ng cg, .slice K2 nb cb] 25)) = w1 at *
  obtain ⟨E, hE⟩ : ∃ E, fromE zs fr = E := ⟨_, rfl⟩
  have HE := Lib.hid hE
  rw [hE]
  clear hE
  have b3 := (Below.refl _ w2).alloc (Nat.le_refl _) (.cells #[.slice A3 n3 c3, .slice G3 g3 gc3, .slice K3 k3 kc3] 25)
  have HB3 := Lib.hid ((HB1.out.trans (b2.mono HB1.out.size)).trans (b3.mono (by have := HB1.out.size; have := b2.size; omega)))
  have HX3 := Lib.hid ((HX.out.below b2 HX.out.lt).below b3 (by have := HX.out.lt; have := b2.size; omega))
  have HY3 := Lib.hid (Box.new w2 25 #[.slice A3 n3 c3, .slice G3 g3 gc3, .slice K3 k3 kc3])
  have HV3 := Lib.hid (hV.next b3)
  clear b2 b3 hV HS HB1 HX
  go_wp2_with fail
  generalize (w2.alloc (.cells #[.slice A3 n3 c3, .slice G3 g3 gc3, .slice K3 k3 kc3] 25)) = w3 at *
  have hxl : w.heap.size < w3.heap.size := HX3.out.lt
  have a0 : w3.cell? ⟨w.heap.size, 0, none⟩ = some (.slice A2 n2 c2) := HX3.out.cell 0
  have a1 : w3.cell? ⟨w.heap.size, 1, none⟩ = some (.slice G2 ng cg) := HX3.out.cell 1
  have a2 : w3.cell? ⟨w.heap.size, 2, none⟩ = some (.slice K2 nb cb) := HX3.out.cell 2
  have q0 := fun p => Later.cell (a := ⟨w.heap.size, 0, none⟩) (by show w.heap.size < _; exact hxl) a0 p
  have q1 := fun p => Later.cell (a := ⟨w.heap.size, 1, none⟩) (by show w.heap.size < _; exact hxl) a1 p
  have q2 := fun p => Later.cell (a := ⟨w.heap.size, 2, none⟩) (by show w.heap.size < _; exact hxl) a2 p
  have HC1 := Lib.hid (fun p : Later w3 => stepCheck_any A2 G2 K2 n2 c2 ng cg nb cb zs2 g b p.w ((HT.out.next HB3.out).next p.below))
  have HC2 := Lib.hid (fun p : Later w3 => triFault_any A2 G2 K2 n2 c2 ng cg nb cb zs2 g b p.w ((HT.out.next HB3.out).next p.below))
  have hee : ((triE zs2 g b : Int) != triE zs2 g b) = false := by simp
  clear a0 a1 a2
  refine wp_region_later (by kernel_rfl) (by kernel_rfl) ?_
  repeat (go_big_quiet_step (first | (go_at_call 12; exact Later.call (HC1.out _)) | (go_at_call 13; exact Later.call (HC2.out _))))
  refine wpQuiet_nil ?_
  rintro _ ⟨p, rfl⟩
  have HB4 := Lib.hid (HB3.out.trans (p.below.mono HB3.out.size))
  have HY4 := Lib.hid (HY3.out.below p.below HY3.out.lt)
  have HV4 := Lib.hid (HV3.out.next p.below)
  have HS2 : Hid (w2.heap.size < p.w.heap.size) := HY4.out.lt
  clear q0 q1 q2 HC1 HC2 HX3 HY3 HV3 HB3
  generalize p.w = w4 at *
  have bf := (Below.refl _ w4).alloc (Nat.le_refl _) (.cells #[.slice F nf cf] 23)
  have BF := Box.new w4 23 #[.slice F nf cf]
  have HB5 := Lib.hid (HB4.out.trans (bf.mono HB4.out.size))
  have HY5 := Lib.hid (HY4.out.below bf HY4.out.lt)
  have HV5 := Lib.hid (HV4.out.next bf)
  have HFF := Lib.hid (fromFault_any A F n c nf cf w4.heap.size zs fr _ HN.out (HA.out.later HB5.out) HNF.out (HF.out.later HB5.out) BF.lt (BF.cell 0))
  clear bf BF HB4 HY4 HV4
  go_wp2_with fail
  refine HFF.out.mono ?_
  rintro e w6 ⟨rfl, b6⟩
  have HB6 := Lib.hid (HB5.out.trans (b6.mono HB5.out.size))
  have HY6 := Lib.hid (HY5.out.below b6 HY5.out.lt)
  have HV6 := Lib.hid (HV5.out.next b6)
  rw [HE.out]
  clear HFF b6 HB5 HY5 HV5
  have k0 : w6.cell? ⟨w2.heap.size, 0, none⟩ = some (.slice A3 n3 c3) := HY6.out.cell 0
  have k1 : w6.cell? ⟨w2.heap.size, 1, none⟩ = some (.slice G3 g3 gc3) := HY6.out.cell 1
  have k2 : w6.cell? ⟨w2.heap.size, 2, none⟩ = some (.slice K3 k3 kc3) := HY6.out.cell 2
  by_cases h0 : E = 0
  · subst h0
    have hv := HV6.out
    unfold TriV at hv
    rw [startT_ok HE.out] at hv
    have HVV := Lib.hid (show TriIn w6 A3 G3 K3 n3 c3 g3 k3 zs (risingTo fr 256) [] from hv)
    clear hv HV6
    have HRI := Lib.hid (rising_any F nf cf fr w6.drew HNF.out (HF.out.later HB6.out.drew))
    have h3n : n3 = n := by have := HVV.out.arena.1; have := HA.out.1; omega
    subst h3n
    have hk30 : k3 = 0 := by have := HVV.out.blk.1; simpa using this.symm
    subst hk30
    have hg3 := HVV.out.grey.1
    rw [hg3] at HRI
    go_wp2_with fail
    go_region_held3 (fun w' => w'.cell? ⟨w2.heap.size, 0, none⟩ = some (.slice A3 n3 c3) ∧ w'.cell? ⟨w2.heap.size, 1, none⟩ = some (.slice G3 g3 gc3) ∧ w'.cell? ⟨w2.heap.size, 2, none⟩ = some (.slice K3 0 kc3))
      (first
        | go_keep
        | exact ⟨y0, y1, y2⟩
        | exact ⟨x0, x1, x2⟩)
      (first
        | (go_at_call 15; refine (sameTri_any A3 G3 K3 A A7 none n3 c3 g3 gc3 0 kc3 c g7 0 zs (risingTo fr 256) [] w7 vv.arena vv.grey vv.blk (HA.out.later hb7) hA7 Arr.zero vv.hn vv.hg (Nat.zero_le _)).mono ?_; rintro e w8 ⟨rfl, b8⟩; have ey := ex.below b8 ex.lt; have y0 : w8.cell? ⟨w2.heap.size, 0, none⟩ = some (.slice A3 n3 c3) := ey.cell 0; have y1 : w8.cell? ⟨w2.heap.size, 1, none⟩ = some (.slice G3 g3 gc3) := ey.cell 1; have y2 : w8.cell? ⟨w2.heap.size, 2, none⟩ = some (.slice K3 0 kc3) := ey.cell 2)
        | (go_at_call 16; refine HRI.out.mono ?_; rintro e w7 ⟨A7, g7, rfl, b7, hA7⟩; have b7 : Below w6.heap.size w6 w7 := below_of_drew b7; have hb7 := HB6.out.trans (b7.mono HB6.out.size); have vv := HVV.out.next b7; have ex := HY6.out.below b7 HY6.out.lt; have x0 : w7.cell? ⟨w2.heap.size, 0, none⟩ = some (.slice A3 n3 c3) := ex.cell 0; have x1 : w7.cell? ⟨w2.heap.size, 1, none⟩ = some (.slice G3 g3 gc3) := ex.cell 1; have x2 : w7.cell? ⟨w2.heap.size, 2, none⟩ = some (.slice K3 0 kc3) := ex.cell 2))
    rename_i hHeld
    have HB8 := Lib.hid (hb7.trans (b8.mono hb7.size))
    clear hHeld y0 y1 y2 x0 x1 x2 ex ey
    go_wp2
    go_ret
    exact ⟨rfl, HB8.out⟩
  · have hv := HV6.out
    unfold TriV at hv
    rw [startT_bad (by rw [HE.out]; exact h0)] at hv
    have HVV := Lib.hid (show TriIn w6 A3 G3 K3 n3 c3 g3 k3 [] [] [] from hv)
    have hbn : (E != 0) = true := by simpa using h0
    have hbe : (E == E) = true := by simp
    have e1 : n3 = 0 := by have := HVV.out.arena.1; simpa using this.symm
    have e2 : g3 = 0 := by have := HVV.out.grey.1; simpa using this.symm
    have e3 : k3 = 0 := by have := HVV.out.blk.1; simpa using this.symm
    subst e1 e2 e3
    have HST := Lib.hid (sameTri_any A3 G3 K3 none none none 0 c3 0 gc3 0 kc3 0 0 0 [] [] [] w6 HVV.out.arena HVV.out.grey HVV.out.blk Arr.zero Arr.zero Arr.zero (Nat.zero_le _) (Nat.zero_le _) (Nat.zero_le _))
    clear hv HV6 h0
    go_wp2_with fail
    refine HST.out.mono ?_
    rintro e w7 ⟨rfl, b7⟩
    have HB7 := Lib.hid (HB6.out.trans (b7.mono HB6.out.size))
    clear b7 HST k0 k1 k2
    go_wp2
    go_ret
    exact ⟨rfl, HB7.out⟩
end Go.Proofs.Ytknbbondofijeaa
