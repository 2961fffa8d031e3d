/-
  Parts of the proof of SameForms: SameFW.
-/
import Derived.Test.YtjefbekdjgmmbaaSameFormsAs
import Derived.Test.YtjefbekdjgmmbaaSameFormsAu
import Derived.Test.YtjefbekdjgmmbaaSameFormsAv
import Derived.Test.YtjefbekdjgmmbaaSameFormsAw
namespace Go.Proofs.Ytjefbekdjgmmbaa
open Go.RowKit
/-- What is built of a form is the copy. -/
theorem form_built {zs fr : List Int} {n : Int} (hz : ∀ z ∈ zs, (Lit.int .u64 z).wf = true) (h0 : fromE zs fr = 0) (hE : bldE (formO zs fr) (formF zs fr) n = 0) :
    n.toNat ≤ 256 ∧ tkL zs (camL zs fr) ≤ n.toNat ∧ bldA (formO zs fr) (formF zs fr) n = copyL zs fr n.toNat ∧ bldF (formO zs fr) (formF zs fr) n = fr.map (putF zs (camL zs fr) n.toNat) := by
  obtain ⟨h1, _⟩ := bldE_zero hE
  rw [bldA_ok hE, bldF_ok hE]
  have hn0 : 0 ≤ n := by
    rcases Int.lt_or_le n 0 with h | h
    · unfold layErr at h1
      rw [if_pos (.inl h)] at h1
      omega
    · exact h
  obtain ⟨K, rfl⟩ : ∃ K : Nat, n = K := ⟨n.toNat, by omega⟩
  simp only [Int.toNat_natCast]
  obtain ⟨hK, _, _⟩ := lay_zero h1
  have hl := camL_lives hz h0
  have ht : tkL zs (camL zs fr) ≤ K := by
    rcases Nat.lt_or_ge K (tkL zs (camL zs fr)) with h | h
    · have := copy_full hz hl hK h
      unfold formO at h1
      rw [this] at h1
      omega
    · exact h
  refine ⟨hK, ht, rfl, ?_⟩
  unfold formF formO
  rw [List.map_map]
  refine List.map_congr_left fun y hy => ?_
  obtain ⟨i, hi, e⟩ := List.getElem_of_mem (camL_fr h0 y hy)
  have e2 : nth (camL zs fr) i = y := by rw [nth_get _ _ hi]; exact e
  show (offs (obsC zs (camL zs fr)) (plI (camL zs fr) y).toNat : Int) = putF zs (camL zs fr) K y
  rw [← e2, putF_beg hz h0 hK ht hi, plI_at camL_nd hi, begC_nth hi, Int.toNat_natCast, obsC_offs hz hl i (by omega)]
set_option maxRecDepth 8000 in
set_option maxHeartbeats 4000000 in
theorem sameForms_of (hF : FormC) (hB : BuildC) (hL : AlikeC) (A F : Option Addr) (n c nf cf : Nat) (k : Int) (zs fr : List Int) (w : World) (h : ArenaFrom w A F n c nf cf zs fr) (hk : (Lit.int .i64 k).wf = true) :
    Calls Try.prog 8 #[.slice A n c, .slice F nf cf, .int .i64 k] w fun e w' => e = .returned (.bool true) ∧ Below w.heap.size w w' := by
  have HAF := Lib.hid h
  have HZ := Lib.hid h.arena.2.1
  have HT := Lib.hid (forms_any hF w)
  have HFN := Lib.hid (fun wx (hb : Below w.heap.size w wx) => hF A F n c nf cf zs fr wx (h.later hb))
  have HF := Lib.hid hF
  have HB := Lib.hid hB
  have HL := Lib.hid hL
  have HK := Lib.hid hk
  clear h hF hB hL hk
  unfold SFormP at HFN
  go_enter Try.func8, Try.ntmps8
  go_wp2_with fail
  refine HT.out.mono ?_
  rintro e w1 ⟨rfl, b1⟩
  have HB1 := Lib.hid b1
  have HC1 := Lib.hid (HFN.out w1 b1)
  clear b1 HT HFN
  go_wp2_with fail
  refine HC1.out.mono ?_
  rintro e w2 ⟨D, m, dc, G, q, gc, raws, rfl, b2, hI⟩
  have HB2 := Lib.hid (bthen HB1.out b2)
  have HI2 := Lib.hid hI
  clear b2 hI HC1 HB1
  by_cases hE : fromE zs fr = 0
  · rw [hE]
    rw [sfO_ok hE, sfF_ok hE] at HI2
    have bf := (Below.refl _ w2).alloc (Nat.le_refl _) (.cells #[.slice D m dc, .slice G q gc] 26)
    have HX3 := Lib.hid (Box.new w2 26 #[.slice D m dc, .slice G q gc])
    have HB3 := Lib.hid (bthen HB2.out bf)
    have HI3 := Lib.hid (HI2.out.later bf)
    have HQ := Lib.hid (HB.out D G m dc q gc raws (formO zs fr) (formF zs fr) k _ HI3.out HK.out)
    unfold BuildP at HQ
    clear bf HB2 HI2 HB HK
    go_wp2_with fail
    refine HQ.out.mono ?_
    rintro e w4 ⟨B, bm, bc, N, nk, nd, rfl, b4, hbm, hnk, hA, hN⟩
    have HB4 := Lib.hid (bthen HB3.out b4)
    have HI4 := Lib.hid (HI3.out.later b4)
    have HX4 := Lib.hid (HX3.out.below b4 HX3.out.lt)
    by_cases hbE : bldE (formO zs fr) (formF zs fr) k = 0
    · obtain ⟨hK, ht, eA, eF⟩ := form_built HZ.out hE hbE
      rw [hbE]
      rw [eA] at hA
      rw [eF] at hN
      obtain ⟨hs1, hs2⟩ := copy_same HZ.out hE hK ht hA.2.1
      have hlen := copyL_len (n := k.toNat) HZ.out (camL_lives HZ.out hE) ht
      have hbl := hA.1
      have hnl := hN.1
      have hfl := HAF.out.from_.1
      rw [List.length_map] at hnl
      have hnf := HAF.out.hnf
      have HAR4 : Hid (ArenaFrom w4 B N bm bc nk nd (copyL zs fr k.toNat) (fr.map (putF zs (camL zs fr) k.toNat))) := ⟨hA, hN, by have : (copyL zs fr k.toNat).length = k.toNat := hlen; omega, hbm, by omega, hnk⟩
      have HQ := Lib.hid (HL.out A F B N n c nf cf bm bc nk nd zs fr _ _ w4 (HAF.out.later HB4.out) HAR4.out)
      have HEE : Hid (aliE zs fr (copyL zs fr k.toNat) (fr.map (putF zs (camL zs fr) k.toNat)) = 0) := aliE_zero.2 ⟨hE, hs1⟩
      unfold AlikeP at HQ
      rw [aliB_ok HEE.out, HEE.out, hs2] at HQ
      have HFE := Lib.hid hs1
      have HFO := Lib.hid (sameB_iff.1 hs2)
      clear hbE hK ht eA eF hA hN hs1 hs2 hlen hbl hnl hfl hnf b4 HB3 HI3 HX3 HEE
      go_wp2_with fail
      refine HQ.out.mono ?_
      rintro e w5 ⟨rfl, b5⟩
      have HB5 := Lib.hid (bthen HB4.out b5)
      have HI5 := Lib.hid (HI4.out.later b5)
      have HX5 := Lib.hid (HX4.out.below b5 HX4.out.lt)
      have HQ := Lib.hid (HF.out B N bm bc nk nd _ _ w5 (HAR4.out.later b5))
      unfold SFormP at HQ
      rw [HFE.out, sfO_ok HFE.out, sfF_ok HFE.out, ← HFO.out.1, ← HFO.out.2] at HQ
      clear b5 HB4 HI4 HX4 HL HF
      go_wp2_with fail
      refine HQ.out.mono ?_
      rintro e w6 ⟨D2, m2, dc2, G2, q2, gc2, raws2, rfl, b6, hI⟩
      obtain rfl : m2 = m := by rw [← hI.objs.1, HI5.out.objs.1]
      obtain rfl : q2 = q := by rw [← hI.places.1, HI5.out.places.1]
      have bx := (Below.refl _ w6).alloc (Nat.le_refl _) (.cells #[.slice D2 m2 dc2, .slice G2 q2 gc2] 26)
      have by_ := bx.alloc bx.size (.cells #[.int .i64 0, .int .i64 0] 27)
      have Y := (Box.new w6 26 #[.slice D2 m2 dc2, .slice G2 q2 gc2]).alloc (.cells #[.int .i64 0, .int .i64 0] 27)
      have HGO := good_any (some ⟨(w6.alloc (.cells #[.slice D2 m2 dc2, .slice G2 q2 gc2] 26)).heap.size, 0, none⟩) 2 2 _ [0, 0] _ (by decide) (zeros_good 27 (w6.alloc (.cells #[.slice D2 m2 dc2, .slice G2 q2 gc2] 26)) 2 #[.int .i64 0, .int .i64 0] rfl)
      rw [show (!bad [0, 0]) = true by decide] at HGO
      have hsz : (w6.alloc (.cells #[.slice D2 m2 dc2, .slice G2 q2 gc2] 26)).heap.size = w6.heap.size + 1 := by simp
      rw [hsz] at HGO
      have HGO := Lib.hid HGO
      have HY8 := Lib.hid Y
      have HX8 := Lib.hid ((HX5.out.below b6 HX5.out.lt).below by_ (HX5.out.below b6 HX5.out.lt).lt)
      have HI8 := Lib.hid ((HI5.out.later b6).later by_)
      have HJ8 := Lib.hid (hI.later by_)
      have HB8 := Lib.hid (bthen (bthen HB5.out b6) by_)
      clear b6 hI bx by_ Y hsz HQ HB5 HI5 HX5 HAR4 HFE HFO
      go_wp2_with fail
      generalize (((w6.alloc (.cells #[.slice D2 m2 dc2, .slice G2 q2 gc2] 26)).alloc (.cells #[.int .i64 0, .int .i64 0] 27))) = W8 at *
      refine HGO.out.mono ?_
      rintro e w9 ⟨rfl, rfl⟩
      have x0 : W8.cell? ⟨w2.heap.size, 0, none⟩ = some (.slice D m2 dc) := HX8.out.cell 0
      have x1 : W8.cell? ⟨w2.heap.size, 1, none⟩ = some (.slice G q2 gc) := HX8.out.cell 1
      have y0 : W8.cell? ⟨w6.heap.size, 0, none⟩ = some (.slice D2 m2 dc2) := HY8.out.cell 0
      have y1 : W8.cell? ⟨w6.heap.size, 1, none⟩ = some (.slice G2 q2 gc2) := HY8.out.cell 1
      have hmz := HI8.out.mz
      have HEQ := Lib.hid (equalFunc_any D2 D m2 dc2 dc W8.heap.size 0 0 raws2 raws (fun j => nthG (formO zs fr) j) W8 (by unfold maxLen; omega) (Nat.le_refl _) HJ8.out.objs.2.1 HI8.out.objs.2.1 HJ8.out.objs.2.2 HI8.out.objs.2.2 HJ8.out.lens)
      clear HGO
      go_wp2_with fail
      refine HEQ.out.mono ?_
      rintro e w10 ⟨rfl, b10⟩
      have HX10 := Lib.hid (HX8.out.below b10 HX8.out.lt)
      have HY10 := Lib.hid (HY8.out.below b10 HY8.out.lt)
      have HI10 := Lib.hid (HI8.out.later b10)
      have HJ10 := Lib.hid (HJ8.out.later b10)
      have HB10 := Lib.hid (bthen HB8.out b10)
      have z1 : w10.cell? ⟨w2.heap.size, 1, none⟩ = some (.slice G q2 gc) := HX10.out.cell 1
      have z3 : w10.cell? ⟨w6.heap.size, 1, none⟩ = some (.slice G2 q2 gc2) := HY10.out.cell 1
      have hq := HI10.out.kz
      have HEI := Lib.hid (equalInts G2 G q2 q2 gc2 gc w10.heap.size _ _ w10 HJ10.out.places HI10.out.places (by unfold maxLen; omega) (by unfold maxLen; omega))
      simp only [decide_true] at HEI
      clear x0 x1 y0 y1 b10 HEQ HX8 HY8 HI8 HJ8 HB8
      go_wp2_with fail
      refine HEI.out.mono ?_
      rintro e w11 ⟨rfl, x, rfl⟩
      go_wp2
      go_ret
      exact ⟨rfl, below_drewN HB10.out x⟩
    · rw [bldA_bad hbE] at hA
      rw [bldF_bad hbE] at hN
      obtain rfl : bm = 0 := hA.1.symm
      obtain rfl : nk = 0 := hN.1.symm
      clear hA hN b4 HI4 HX4 HI3 HX3 HB3 HQ hbm hnk
      generalize bldE (formO zs fr) (formF zs fr) k = E at *
      go_wp2
      go_ret
      exact ⟨rfl, HB4.out⟩
  · have hd := HI2.out.objs.1
    have hg := HI2.out.places.1
    rw [sfO_bad hE] at hd
    rw [sfF_bad hE] at hg
    obtain rfl : m = 0 := hd.symm
    obtain rfl : q = 0 := hg.symm
    clear hd hg HI2
    generalize fromE zs fr = E at *
    go_wp2
    go_ret
    exact ⟨rfl, HB2.out.alloc HB2.out.size _⟩
end Go.Proofs.Ytjefbekdjgmmbaa
