/-
  Parts of the proof of CarrySame: SameCW.
-/
import Derived.ArgAppend
import Derived.Test.YtjefbekdjgmmbaaCarrySameAq
import Derived.Test.YtjefbekdjgmmbaaCarrySameAr
import Derived.Test.YtjefbekdjgmmbaaCarrySameAs
namespace Go.Proofs.Ytjefbekdjgmmbaa
open Go.RowKit
theorem copyE_zero {zs fr : List Int} {n : Int} (h : copyE zs fr n = 0) : fromE zs fr = 0 ∧ ¬ (n < 0 ∨ 256 < n) ∧ ¬ n < takesN zs fr := by
  unfold copyE at h
  split at h
  · rename_i h1; exact absurd h h1
  · rename_i h1
    split at h
    · omega
    · rename_i h2
      split at h
      · omega
      · rename_i h3; exact ⟨by simpa using h1, h2, h3⟩
/-- Where the first 'j' of those one begins with go. -/
def thenL (zs fr : List Int) (n j : Nat) : List Int := (fr.take j).map (putF zs (camL zs fr) n)
theorem thenL_succ {zs fr : List Int} {n j : Nat} (h : j < fr.length) : thenL zs fr n (j + 1) = thenL zs fr n j ++ [putF zs (camL zs fr) n (nth fr j)] := by
  unfold thenL
  rw [List.take_succ_eq_append_getElem h, List.map_append, nth_get _ _ h]
  rfl
theorem thenL_all {zs fr : List Int} {n : Nat} : thenL zs fr n fr.length = fr.map (putF zs (camL zs fr) n) := by unfold thenL; rw [List.take_length]
theorem thenL_len {zs fr : List Int} {n j : Nat} (h : j ≤ fr.length) : (thenL zs fr n j).length = j := by unfold thenL; rw [List.length_map, List.length_take]; omega
set_option maxRecDepth 8000 in
set_option maxHeartbeats 4000000 in
theorem carrySame_of (hO : OrderC) (hC : CopyC) (hL : AlikeC) (A F : Option Addr) (n c nf cf : Nat) (k : Int) (zs fr : List Int) (w : World) (h : ArenaFrom w A F n c nf cf zs fr) (hnf : nf * 8 ≤ 140737488351232) (hk : (Lit.int .i64 k).wf = true) :
    Calls Try.prog 6 #[.slice A n c, .slice F nf cf, .int .i64 k] w fun e w' => e = .returned (.bool true) ∧ Below w.heap.size w w' := by
  have HAF := Lib.hid h
  have HZ := Lib.hid h.arena.2.1
  have HFL := Lib.hid h.from_.1
  have HN : Hid (n ≤ maxLen ∧ nf * 8 ≤ 140737488351232) := ⟨by have := h.hn; unfold maxLen; omega, hnf⟩
  have HT := Lib.hid (carries_any hO w)
  have HCN := Lib.hid (fun wx (hb : Below w.heap.size w wx) => hC A F n c nf cf k zs fr wx HN.out.1 h.hnc (h.later hb).arena hnf (h.later hb).from_ hk)
  have HL := Lib.hid hL
  clear h hnf hk hO hC hL
  unfold CopyP at HCN
  go_enter Try.func6, Try.ntmps6
  go_wp2_with fail
  refine HT.out.mono ?_
  rintro e w1 ⟨rfl, b1⟩
  have HB1 := Lib.hid b1
  have HC1 := Lib.hid (HCN.out w1 b1)
  clear b1 HT HCN
  go_wp2_with fail
  refine HC1.out.mono ?_
  rintro e w2 ⟨B, m, bc, O, p, oc, D, q, dc, rfl, b2, hmc, _, _, hB, hO, hD, _, _, _⟩
  have HB2 := Lib.hid (bthen HB1.out b2)
  have HBA := Lib.hid hB
  have HOA := Lib.hid hO
  have HDA := Lib.hid hD
  have HMC := Lib.hid hmc
  clear b2 hB hO hD hmc HC1 HB1
  by_cases hE : copyE zs fr k = 0
  · obtain ⟨h0, hkr, hkt⟩ := copyE_zero hE
    rw [copyB_ok hE] at HBA
    rw [copyO_ok hE] at HOA
    rw [copyT_ok hE] at HDA
    rw [hE]
    obtain ⟨K, rfl⟩ : ∃ K : Nat, k = K := ⟨k.toNat, by omega⟩
    simp only [Int.toNat_natCast] at HBA
    have htk : tkL zs (camL zs fr) ≤ K := by rw [cam_takes HZ.out h0]; omega
    have hK : K ≤ 256 := by omega
    have HOK : Hid (fromE zs fr = 0 ∧ K ≤ 256 ∧ tkL zs (camL zs fr) ≤ K) := ⟨h0, hK, htk⟩
    have HTK := Lib.hid (cam_takes HZ.out h0)
    obtain rfl : m = K := by rw [← HBA.out.1]; exact copy_len HZ.out h0 htk
    obtain rfl : q = p := by
      have hp := HOA.out.1
      have hq := HDA.out.1
      rw [begC_len] at hq
      omega
    have HP256 : Hid (q ≤ 256) := by
      show _ ≤ _
      rw [← HOA.out.1]
      exact camL_len HZ.out h0
    have HFIND : Hid (∀ j, j < nf → ∃ r, r < q ∧ nth (camL zs fr) r = nth fr j ∧ nth (begC zs (camL zs fr)) r = putF zs (camL zs fr) m (nth fr j) ∧ ∀ x, PlaceI (camL zs fr) (nth fr j) x → x = (r : Int)) := fun j hj => by
      have hin : nth fr j ∈ camL zs fr := camL_fr h0 _ (nth_mem (by rw [HFL.out]; exact hj))
      obtain ⟨r, hr, e⟩ := List.getElem_of_mem hin
      have er : nth (camL zs fr) r = nth fr j := by rw [nth_get _ _ hr]; exact e
      refine ⟨r, by rw [← HOA.out.1]; exact hr, er, by rw [← putF_beg HZ.out h0 hK htk hr, er], fun x hx => ?_⟩
      rcases hx with ⟨r', rfl, hr', e'⟩ | ⟨_, hno⟩
      · rw [nodup_one camL_nd hr' hr (e'.trans er.symm)]
      · exact absurd er (hno r hr)
    clear hE h0 hkr hkt htk hK
    have HOW0 : Hid (Own .i64 3 w2 w2.heap.size (.slice none 0 0) (thenL zs fr m 0)) := Own.nil
    go_wp2_with fail
    go_loopw [11, 45] (fun v i wx => ∃ (j : Nat) (u : Value), j ≤ nf ∧ i = .int .i64 j ∧ u = v ∧ Hid (Own .i64 3 wx w2.heap.size u (thenL zs fr m j)) ∧ Hid (Below w2.heap.size w2 wx)) (fun _ i _ => nf - (intOf i).toNat)
    case atStart => exact ⟨0, _, Nat.zero_le _, rfl, rfl, HOW0, Below.refl _ _⟩
    case round =>
      obtain ⟨j, u, hjn, rfl, hu, HO, HB⟩ := hrel
      subst hu
      clear HOW0
      by_cases hlt : j < nf
      · have HBw := Lib.hid (bthen HB2.out HB.out)
        obtain ⟨b, off, rfl, _, hcs⟩ := (HAF.out.later HBw.out).from_.2.2 (by omega)
        have hc := hcs j hlt
        have hjf : j < fr.length := by rw [HFL.out]; exact hlt
        obtain ⟨r, hrq, her, hbr, hxr⟩ := HFIND.out j hlt
        obtain ⟨b2, off2, rfl, _, hds⟩ := (HDA.out.later HB.out).2.2 (by omega)
        have hd := hds r hrq
        have hwf : (Lit.int .i64 (nth (begC zs (camL zs fr)) r)).wf = true := HDA.out.2.1 _ (nth_mem (by rw [HDA.out.1]; exact hrq))
        have HPC := Lib.hid (indexR_any O q oc _ (nth fr j) (camL zs fr) wr (by have := HP256.out; unfold maxLen; omega) (HOA.out.later HB.out))
        have HPR := Lib.hid hxr
        have hnn := HN.out.2
        obtain ⟨v', w', hrun, hO', hB'⟩ := HO.out.pushB (P := Try.prog) (t := 23) (ty := 23) Try.underlying23 intI_info (x := nth (begC zs (camL zs fr)) r) hwf (by rw [thenL_len (by omega)]; omega) HB.out.size
        rw [hbr, ← thenL_succ hjf] at hO'
        have HR := Lib.hid hrun
        have HO' := Lib.hid hO'
        have HB' := Lib.hid (HB.out.trans hB')
        have hq256 := HP256.out
        clear hcs hds her hbr hxr hwf hrun hO' hB' hjf HO HB HFIND
        generalize nth (begC zs (camL zs fr)) r = T at *
        generalize nth fr j = X at *
        go_wp2_with fail
        refine HPC.out.mono ?_
        rintro e w9 ⟨⟨x, rfl, hx⟩, rfl⟩
        have hxr := HPR.out x hx
        subst hxr
        clear hx HPC HPR
        go_wp2_with (at_builtin; refine wpList_append_run rfl (.tmp 60) (.tmp 65) 23 rfl rfl rfl HR.out ?_)
        go_roundw
        case rel => exact ⟨j + 1, _, hlt, by go_num, rfl, HO', HB'⟩
        case measure => simp [intOf]; omega
      · obtain rfl : j = nf := by omega
        have HBw := Lib.hid (bthen HB2.out HB.out)
        obtain ⟨N, nc, rfl, hnc, hN⟩ := HO.out.arr
        rw [thenL_len (by rw [HFL.out]; omega)] at hN hnc ⊢
        rw [show thenL zs fr m j = fr.map (putF zs (camL zs fr) m) by rw [← HFL.out, thenL_all]] at hN
        have HAw := Lib.hid (HAF.out.later HBw.out)
        have HBAw := Lib.hid (HBA.out.later HB.out)
        obtain ⟨hs1, hs2⟩ := copy_same HZ.out HOK.out.1 HOK.out.2.1 HOK.out.2.2 HBA.out.2.1
        have HQ := Lib.hid (HL.out A F B N n c j cf m bc j nc _ _ _ _ wr HAw.out ⟨HBAw.out, hN, by have := HOK.out.2.1; omega, HMC.out, by have := HN.out.2; omega, hnc⟩)
        have hE : aliE zs fr (copyL zs fr m) (fr.map (putF zs (camL zs fr) m)) = 0 := aliE_zero.2 ⟨HOK.out.1, hs1⟩
        unfold AlikeP at HQ
        rw [aliB_ok hE, hE, hs2] at HQ
        clear hs1 hs2 hE hN HO HB HDA HOA HFIND
        go_wp2_with fail
        refine HQ.out.mono ?_
        rintro e w10 ⟨rfl, b10⟩
        have HB10 := Lib.hid (bthen HBw.out b10)
        have HBA10 := Lib.hid (HBAw.out.later b10)
        have hjm := HN.out.2
        have hm256 := HOK.out.2.1
        have HWD := Lib.hid (Words_any A F n c j cf zs fr w10 HN.out.1 HAF.out.hnc (HAF.out.later HB10.out).arena (by unfold maxLen; omega) (HAF.out.later HB10.out).from_)
        clear b10 HQ HBw HBAw HAw
        go_wp2_with fail
        refine HWD.out.mono ?_
        rintro e w11 ⟨v, rfl, b11, hv⟩
        rw [HOK.out.1]
        have HV : Hid (v = tkL zs (camL zs fr)) := by show _ = _; rw [HTK.out]; exact (hv.resolve_left (fun h => h.1 HOK.out.1)).2
        have HB11 := Lib.hid (bthen HB10.out b11)
        have HGG := Lib.hid (Gaps_any B m bc (copyL zs fr m) w11 (by unfold maxLen; omega) HMC.out (HBA10.out.later b11))
        have hvm : v ≤ m := by have h1 := HOK.out.2.2; rw [← HV.out] at h1; exact h1
        have HCG := Lib.hid (copy_gaps HZ.out HOK.out.1 HOK.out.2.1 HOK.out.2.2)
        rw [← HV.out] at HCG
        have HAE : Hid (arErr (copyL zs fr m) = 0) := (lay_told (obsC_lay HZ.out (camL_lives HZ.out HOK.out.1) HOK.out.2.1 HOK.out.2.2)).2.1
        clear b11 hv HWD HB10 HBA10
        go_wp2_with fail
        refine HGG.out.mono ?_
        rintro e w12 ⟨G, r, gc, rfl, b12, _, hg⟩
        rw [HAE.out]
        obtain ⟨_, hrl, hgA⟩ := hg.resolve_left (fun h => h.1 HAE.out)
        have HB12 := Lib.hid (bthen HB11.out b12)
        have HGA := Lib.hid hgA
        have HGO := Lib.hid (good_any (some ⟨w12.heap.size, 0, none⟩) 3 3 _ _ _ (by decide) (zeros_good 27 w12 3 #[.int .i64 0, .int .i64 0, .int .i64 0] rfl))
        rw [zeros_fine 3] at HGO
        have HBA := Lib.hid ((Below.refl _ w12).alloc (Nat.le_refl _) (.cells #[.int .i64 0, .int .i64 0, .int .i64 0] 27))
        have HBZ := Lib.hid (bthen HB12.out HBA.out)
        clear b12 hg hgA HGG HB11 HAE HV HTK HOK
        by_cases hvn : v = m
        · subst hvn
          rw [if_pos rfl] at HCG
          obtain rfl : r = 0 := by rw [hrl, HCG.out]; rfl
          clear hrl HGA HCG
          go_wp2_with fail
          refine HGO.out.mono ?_
          rintro e w13 ⟨rfl, rfl⟩
          go_wp2
          go_ret
          exact ⟨rfl, HBZ.out⟩
        · rw [if_neg hvn] at HCG
          obtain rfl : r = 1 := by rw [hrl, HCG.out]; rfl
          rw [HCG.out] at HGA
          clear hrl HCG
          go_wp2_with fail
          generalize (w12.alloc (.cells #[.int .i64 0, .int .i64 0, .int .i64 0] 27)) = W12 at *
          refine HGO.out.mono ?_
          rintro e w13 ⟨rfl, rfl⟩
          obtain ⟨b, off, rfl, _, hcc⟩ := (HGA.out.below HBA.out (Nat.le_refl _)).2 (by omega)
          have hc0 := hcc 0 (by omega) 0 (by omega)
          have hc1 := hcc 0 (by omega) 1 (by omega)
          clear hcc
          change _ = some (Value.int .i64 (v : Int)) at hc0
          change _ = some (Value.int .i64 ((m : Int) - (v : Int))) at hc1
          rw [show off + 0 * 2 + 0 = off by omega] at hc0
          rw [show off + 0 * 2 + 1 = off + 1 by omega] at hc1
          have hw1 : wrap64 ((m : Int) - (v : Int)) = (m : Int) - (v : Int) := by unfold wrap64; omega
          go_wp2
          go_ret
          exact ⟨rfl, HBZ.out⟩
  · rw [copyB_bad hE] at HBA
    rw [copyO_bad hE] at HOA
    rw [copyT_bad hE] at HDA
    obtain rfl : m = 0 := HBA.out.1.symm
    obtain rfl : p = 0 := HOA.out.1.symm
    obtain rfl : q = 0 := HDA.out.1.symm
    clear HBA HOA HDA
    generalize copyE zs fr k = E at *
    go_wp2
    go_ret
    exact ⟨rfl, HB2.out⟩
end Go.Proofs.Ytjefbekdjgmmbaa
