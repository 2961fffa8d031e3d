/-
  The walk of FaintQueue, given what Keep and Last answer ('FKeepC', 'FLastC').
-/
import Derived.Test.YtdglnbcliemafaaFaintD
import Derived.Test.YtdglnbcliemafaaFaintV
import Derived.Test.YtdglnbcliemafaaIntCat
namespace Go.Proofs.Ytdglnbcliemafaa
open Go.RowKit

set_option maxHeartbeats 400000 in
theorem faintLive_any (L : Option Addr) (n c g : Nat) (xs : List Int) (x : Int) (w : World) (hn : n ≤ maxLen) (hL : Arr .i64 w w.heap.size L n xs) (hc : w.cell? ⟨g, 0, none⟩ = some (.slice L n c)) :
    Calls Try.prog 30 #[.int .i64 x, .pointer (some ⟨g, 0, none⟩)] w fun e w' => e = .returned (.bool (decide (x ∈ xs))) ∧ Below w.heap.size w w' := by
  have HC := Lib.hid (containsR_any L n c _ x xs w hn hL)
  clear hL
  generalize decide (x ∈ xs) = V at *
  go_enter Try.func30, Try.ntmps30
  go_wp2_with fail
  refine HC.out.mono ?_
  rintro e w' ⟨rfl, rfl⟩
  go_wp2
  go_ret
  exact ⟨rfl, Below.refl _ _⟩

set_option maxRecDepth 8000 in
set_option maxHeartbeats 4000000 in
theorem faintQueue_of (hK : FKeepC) (hL : FLastC) (A F Q : Option Addr) (n c nf cf nq cq : Nat) (zs fr q : List Int) (w : World) (h : ArenaFrom w A F n c nf cf zs fr) (hnf : nf * 8 ≤ 140737488351232) (hq : Arr .i64 w w.heap.size Q nq q) (hqz : nq * 8 ≤ 140737488351232) (hqc : nq ≤ cq) :
    Calls Try.prog 7 #[.slice A n c, .slice F nf cf, .slice Q nq cq] w fun e w' => e = .returned (.bool true) ∧ Below w.heap.size w w' := by
  have HFT := Lib.hid (faints_any hK w)
  have HZ := Lib.hid h.arena.2.1
  have HQ := Lib.hid hq
  have HNF := Lib.hid hnf
  have HNQ := Lib.hid hqz
  have HFR := Lib.hid (fun wx (hb : Below w.heap.size w wx) => (h.later hb).from_)
  have HLA := Lib.hid (fun wx (hb : Below w.heap.size w wx) (X : Option Addr) m d xs (hx : Arr .i64 wx wx.heap.size X m xs) (hm : m * 8 ≤ 140737488355328) (hd : m ≤ d) => hL A X Q n c m d nq cq zs xs q wx ⟨(h.later hb).arena, hx, h.hn, h.hnc, hm, hd⟩ (hq.later hb) (by omega) hqc)
  have HFC := Lib.hid h.hfc
  have HRE := Lib.hid (fun wx (hb : Below w.heap.size w wx) => Reach_any A F n c nf cf zs fr wx (by have := h.hn; unfold maxLen; omega) h.hnc (h.later hb).arena (by unfold maxLen; omega) (h.later hb).from_)
  clear hK hL h hnf hq
  unfold FLastP at HLA
  unfold ReachP at HRE
  go_enter Try.func7, Try.ntmps7
  go_wp2_with fail
  refine HFT.out.mono ?_
  rintro e w1 ⟨rfl, b1⟩
  have HB1 := Lib.hid b1
  clear b1 HFT
  have HL1 := Lib.hid (HLA.out w1 HB1.out F nf cf fr (HFR.out w1 HB1.out) (by have := HNF.out; omega) HFC.out)
  go_wp2_with fail
  refine HL1.out.mono ?_
  rintro e w2 ⟨K, m, d, M, mm, md, rfl, b2, hmd, _, hK2, hM2⟩
  have HB2 := Lib.hid (bthen HB1.out b2)
  have HK2 := Lib.hid hK2
  have HM2 := Lib.hid hM2
  have HKD := Lib.hid hmd
  clear b2 hK2 hM2 hmd HL1 HB1
  by_cases hE : lastE zs fr q = 0
  · obtain ⟨h0, h32, hq0⟩ := lastE_zero hE
    obtain ⟨ha1, ha2⟩ := told_again HZ.out hE
    have HA1 := Lib.hid ha1
    have HA2 := Lib.hid ha2
    have HH0 := Lib.hid h0
    have HN32 : Hid (nq ≤ 32) := by show _ ≤ _; rw [← HQ.out.1]; exact h32
    have HAR := Lib.hid (arena_len (fromE_zero h0).1)
    have hk2 := HK2.out
    have hm2 := HM2.out
    rw [lastT_ok hE] at hk2
    rw [lastA_ok hE] at hm2
    rw [hE]
    have HK2 := Lib.hid hk2
    have HM2 := Lib.hid hm2
    have HT32 : Hid (m ≤ 32) := by show _ ≤ _; rw [← hk2.1]; exact Nat.le_trans toldL_len h32
    have HR1 := Lib.hid (HRE.out w2 HB2.out)
    rw [HH0.out] at HR1
    clear hE h0 h32 hq0 ha1 ha2 hk2 hm2 HRE
    go_wp2_with fail
    refine HR1.out.mono ?_
    rintro e w3 ⟨X3, m3, d3, rfl, b3, hcase⟩
    obtain ⟨hm3, hX3⟩ := (hcase.resolve_left (fun h => h.1 rfl)).2
    have ba := (Below.refl _ w3).alloc (Nat.le_refl _) (.cells #[.slice X3 m3 d3] 23)
    have bx := Box.new w3 23 #[.slice X3 m3 d3]
    have b34 := bthen b3 ba
    have HB4 := Lib.hid (bthen HB2.out b34)
    have HK4 := Lib.hid (HK2.out.later b34)
    have HM4 := Lib.hid (HM2.out.later b34)
    have HX4 := Lib.hid (hX3.later ba)
    have HBX4 := Lib.hid bx
    have HM3 := Lib.hid hm3
    have HL256 : Hid (m3 ≤ 256) := by show _ ≤ _; rw [hm3]; exact reachL_len HAR.out
    clear b3 hX3 hm3 hcase HR1 HK2 HM2 HB2 ba bx b34
    obtain ⟨W4, hW4⟩ : ∃ W4, (w3.alloc (.cells #[.slice X3 m3 d3] 23)) = W4 := ⟨_, rfl⟩
    have HW4 := Lib.hid hW4
    rw [hW4] at HB4 HK4 HM4 HX4 HBX4
    have hs4 : W4.heap.size = w3.heap.size + 1 := by rw [← hW4]; simp
    obtain ⟨gl, hgl⟩ : ∃ gl, w3.heap.size = gl := ⟨_, rfl⟩
    rw [hgl] at HBX4 hs4
    have HGL := Lib.hid hgl
    clear hW4 hgl
    have bc := (Below.refl _ W4).alloc (Nat.le_refl _) (.cells #[.slice F nf cf, .slice K m d] 23)
    have bxc := Box.new W4 23 #[.slice F nf cf, .slice K m d]
    have HCC := Lib.hid (concat2C F K nf cf m d W4.heap.size fr (toldL zs fr q) _ (by have := HNF.out; have := HT32.out; omega) bxc.lt (HFR.out _ (bthen HB4.out bc)) (HK4.out.later bc) (bxc.cell 0) (bxc.cell 1))
    have HBC := Lib.hid bc
    rw [hs4] at HCC
    clear bc bxc hs4
    go_wp2_with fail
    rw [HW4.out, HGL.out]
    clear HW4 HGL
    refine HCC.out.mono ?_
    rintro e w5 ⟨C, cc, rfl, hcc, hC, b5⟩
    have hb5 := bthen HBC.out b5
    have HB5 := Lib.hid (bthen HB4.out hb5)
    have HL2 := Lib.hid (HLA.out w5 HB5.out C (nf + m) cc _ hC (by have := HNF.out; have := HT32.out; omega) hcc)
    rw [HA1.out, lastT_ok HA1.out, lastA_ok HA1.out, HA2.out, List.append_nil] at HL2
    have HK5 := Lib.hid (HK4.out.later hb5)
    have HM5 := Lib.hid (HM4.out.later hb5)
    have HX5 := Lib.hid (HX4.out.later hb5)
    have HBX5 := Lib.hid (HBX4.out.below hb5 HBX4.out.lt)
    clear hC hcc b5 hb5 HCC HBC HB4 HK4 HM4 HX4 HBX4 HLA
    obtain ⟨N, hN⟩ : ∃ N, nf + m = N := ⟨_, rfl⟩
    rw [hN] at HL2 ⊢
    clear hN
    go_wp2_with fail
    refine HL2.out.mono ?_
    rintro e w6 ⟨A6, m6, d6, M6, k6, e6, rfl, b6, _, _, hA6, hM6⟩
    obtain rfl : m6 = 0 := hA6.1.symm
    have HB6 := Lib.hid (bthen HB5.out b6)
    have HK6 := Lib.hid (HK5.out.later b6)
    have HM6 := Lib.hid (HM5.out.later b6)
    have HX6 := Lib.hid (HX5.out.later b6)
    have HBX6 := Lib.hid (HBX5.out.below b6 HBX5.out.lt)
    have HN6 := Lib.hid hM6
    clear b6 hA6 hM6 HL2 HB5 HK5 HM5 HX5 HBX5
    have HG := Lib.hid (good_any (some ⟨w6.heap.size, 0, none⟩) 2 2 _ [0, 0] _ (by decide) (pair_arr 25 w6 0 0 (by decide) (by decide)))
    rw [show (!bad [0, 0]) = true from by decide] at HG
    have HBG := Lib.hid ((Below.refl _ w6).alloc (Nat.le_refl _) (.cells #[.int .i64 0, .int .i64 0] 25))
    go_wp2_with fail
    generalize (w6.alloc (.cells #[.int .i64 0, .int .i64 0] 25)) = W6 at *
    refine HG.out.mono ?_
    rintro e w7 ⟨rfl, rfl⟩
    have HB7 := Lib.hid (bthen HB6.out HBG.out)
    have HK7 := Lib.hid (HK6.out.later HBG.out)
    have HM7 := Lib.hid (HM6.out.later HBG.out)
    have HX7 := Lib.hid (HX6.out.later HBG.out)
    have HBX7 := Lib.hid (HBX6.out.below HBG.out HBX6.out.lt)
    have HN7 := Lib.hid (HN6.out.later HBG.out)
    clear HG HBG HB6 HK6 HM6 HX6 HBX6 HN6
    have hm32 := HT32.out
    have hq32 := HN32.out
    have h256 := HL256.out
    have HW1 := Lib.hid (keepWithin_any K Q m d nq cq _ _ W6 (by unfold maxLen; omega) (by unfold maxLen; omega) HK7.out (HQ.out.later HB7.out))
    rw [inAll_true (fun x hx => (toldL_mem.1 hx).1)] at HW1
    go_wp2_with fail
    refine HW1.out.mono ?_
    rintro e w8 ⟨rfl, b8⟩
    have HB8 := Lib.hid (bthen HB7.out b8)
    have HK8 := Lib.hid (HK7.out.later b8)
    have HM8 := Lib.hid (HM7.out.later b8)
    have HX8 := Lib.hid (HX7.out.later b8)
    have HBX8 := Lib.hid (HBX7.out.below b8 HBX7.out.lt)
    have HN8 := Lib.hid (HN7.out.later b8)
    clear b8 HW1 HB7 HK7 HM7 HX7 HBX7 HN7
    have HCF := Lib.hid (containsFnR K m d 30 #[.pointer (some ⟨gl, 0, none⟩)] (fun x => decide (x ∈ reachL zs fr)) (toldL zs fr q) w8 (by unfold maxLen; omega) HK8.out Try.call30
      (fun x wx hb => faintLive_any X3 m3 d3 gl (reachL zs fr) x wx (by unfold maxLen; omega) (HX8.out.later hb) ((HBX8.out.below hb HBX8.out.lt).cell 0)))
    rw [show ((toldL zs fr q).any fun x => decide (x ∈ reachL zs fr)) = false from by rw [List.any_eq_false]; intro x hx; simpa using (toldL_mem.1 hx).2] at HCF
    go_wp2_with fail
    refine HCF.out.mono ?_
    rintro e w9 ⟨rfl, b9⟩
    have HB9 := Lib.hid (bthen HB8.out b9)
    have HK9 := Lib.hid (HK8.out.later b9)
    have HM9 := Lib.hid (HM8.out.later b9)
    have HX9 := Lib.hid (HX8.out.later b9)
    have d9 : w9.cell? ⟨gl, 0, none⟩ = some (.slice X3 m3 d3) := (HBX8.out.below b9 HBX8.out.lt).cell 0
    have HN9 := Lib.hid (HN8.out.later b9)
    clear b9 HCF HB8 HK8 HM8 HX8 HBX8 HN8
    have bd := (Below.refl _ w9).alloc (Nat.le_refl _) (.cells #[.slice K m d, .slice X3 m3 d3] 23)
    have bxd := Box.new w9 23 #[.slice K m d, .slice X3 m3 d3]
    have HCC := Lib.hid (concat2C K X3 m d m3 d3 w9.heap.size (toldL zs fr q) (reachL zs fr) _ (by omega) bxd.lt (HK9.out.later bd) (HX9.out.later bd) (bxd.cell 0) (bxd.cell 1))
    have HBD := Lib.hid bd
    clear bd bxd
    go_wp2_with fail
    refine HCC.out.mono ?_
    rintro e w10 ⟨C2, cc2, rfl, _, hC2, b10⟩
    have hb10 := bthen HBD.out b10
    have HB10 := Lib.hid (bthen HB9.out hb10)
    have HM10 := Lib.hid (HM9.out.later hb10)
    have HN10 := Lib.hid (HN9.out.later hb10)
    have HW2 := Lib.hid (keepWithin_any Q C2 nq cq (m + m3) cc2 _ _ w10 (by unfold maxLen; omega) (by unfold maxLen; omega) (HQ.out.later HB10.out) hC2)
    rw [inAll_true (fun x hx => by
      by_cases hr : x ∈ reachL zs fr
      · exact List.mem_append_right _ hr
      · exact List.mem_append_left _ (toldL_mem.2 ⟨hx, hr⟩))] at HW2
    clear hb10 b10 hC2 HCC HBD HB9 HK9 HM9 HX9 HN9 d9
    obtain ⟨N2, hN2⟩ : ∃ N2, m + m3 = N2 := ⟨_, rfl⟩
    rw [hN2] at HW2 ⊢
    clear hN2
    go_wp2_with fail
    refine HW2.out.mono ?_
    rintro e w11 ⟨rfl, b11⟩
    have HB11 := Lib.hid (bthen HB10.out b11)
    have hmk : mm = k6 := by rw [← HM10.out.1, ← HN10.out.1]
    subst hmk
    have hmm : mm ≤ 256 := by rw [← HM10.out.1]; exact reachL_len HAR.out
    have HE := Lib.hid (equalInts M M6 mm mm md e6 _ _ _ w11 (HM10.out.later b11) (HN10.out.later b11) (by unfold maxLen; omega) (by unfold maxLen; omega))
    rw [show decide (reachL zs (fr ++ toldL zs fr q) = reachL zs (fr ++ toldL zs fr q)) = true by simp] at HE
    clear b11 HW2 HB10 HM10 HN10 hmm
    go_wp2_with fail
    refine HE.out.mono ?_
    rintro e w12 ⟨rfl, q12, rfl⟩
    go_wp2
    go_ret
    exact ⟨rfl, below_drewN HB11.out _⟩
  · have hk2 := HK2.out.1
    rw [lastT_bad hE] at hk2
    have hm2 := HM2.out.1
    rw [lastA_bad hE] at hm2
    obtain rfl : m = 0 := hk2.symm
    obtain rfl : mm = 0 := hm2.symm
    obtain ⟨E, hEE⟩ : ∃ E, lastE zs fr q = E := ⟨_, rfl⟩
    rw [hEE] at hE ⊢
    have hb : (E != 0) = true := by simpa using hE
    clear hk2 hm2 HK2 HM2 hE hEE
    go_wp2
    go_ret
    exact ⟨rfl, HB2.out⟩
end Go.Proofs.Ytdglnbcliemafaa
