/-
  The walk of FaintMore, given what Keep and Clear answer ('FKeepC', 'FClearC').
-/
import Derived.Test.YtdglnbcliemafaaFaintD
import Derived.Test.YtdglnbcliemafaaFaintV
import Derived.Test.YtdglnbcliemafaaRoomG
namespace Go.Proofs.Ytdglnbcliemafaa
open Go.RowKit

theorem faintS : (Try.prog.info? 32).map (·.size) = some 2 := by kernel_rfl

set_option maxRecDepth 8000 in
set_option maxHeartbeats 4000000 in
theorem faintMore_of (hK : FKeepC) (hC : FClearC) (A F P : Option Addr) (n c nf cf np cp : Nat) (zs fr : List Int) (ps : List (Int × Int)) (k : Int) (w : World) (h : ArenaFrom w A F n c nf cf zs fr) (hp : FaintsIn w P np cp ps) (hpz : np * 16 ≤ 140737488351232) :
    Calls Try.prog 6 #[.slice A n c, .slice F nf cf, .slice P np cp, .int .i64 k] w fun e w' => e = .returned (.bool true) ∧ Below w.heap.size w w' := by
  have HFT := Lib.hid (faints_any hK w)
  have HAF := Lib.hid h
  have HZ := Lib.hid h.arena.2.1
  have HPI := Lib.hid hp
  have HPZ := Lib.hid hpz
  have HKA := Lib.hid (fun wx (hb : Below w.heap.size w wx) (D : Option Addr) m d qs (hq : FaintsIn wx D m d qs) (hm : m * 16 ≤ 140737488355328) => hK A F D n c nf cf m d zs fr qs wx (h.later hb) hq hm)
  have HCL := Lib.hid (fun wx (hb : Below w.heap.size w wx) => hC A F P n c nf cf np cp zs fr ps wx (h.later hb) (hp.later hb) (by omega))
  have HRE := Lib.hid (fun wx (hb : Below w.heap.size w wx) => Reach_any A F n c nf cf zs fr wx (by have := h.hn; unfold maxLen; omega) h.hnc (h.later hb).arena (by have := h.hnf; unfold maxLen; omega) (h.later hb).from_)
  clear hK hC h hp hpz
  unfold FKeepP at HKA
  unfold FClearP at HCL
  unfold ReachP at HRE
  go_enter Try.func6, Try.ntmps6
  go_wp2_with fail
  refine HFT.out.mono ?_
  rintro e w1 ⟨rfl, b1⟩
  have HB1 := Lib.hid b1
  clear b1 HFT
  have HQ := Lib.hid (HKA.out w1 HB1.out P np cp ps (HPI.out.later HB1.out) (by have := HPZ.out; omega))
  go_wp2_with fail
  refine HQ.out.mono ?_
  rintro e w2 ⟨K, m, d, rfl, b2, _, hK2⟩
  have HB2 := Lib.hid (bthen HB1.out b2)
  have HK2 := Lib.hid hK2
  clear b2 hK2 HQ HB1
  go_wp2_with fail
  refine (HCL.out w2 HB2.out).mono ?_
  rintro e w3 ⟨M, mm, md, rfl, b3, hmd, hM3⟩
  have HB3 := Lib.hid (bthen HB2.out b3)
  have HK3 := Lib.hid (HK2.out.later b3)
  have HM3 := Lib.hid hM3
  have HMD := Lib.hid hmd
  clear b3 hM3 hmd HCL HB2 HK2
  have HG := Lib.hid (good_any (some ⟨w3.heap.size, 0, none⟩) 2 2 _ [faintE zs fr ps, faintE zs fr ps] _ (by decide) (pair_arr 25 w3 _ _ (faintE_wf _ _ _) (faintE_wf _ _ _)))
  have HBA := Lib.hid ((Below.refl _ w3).alloc (Nat.le_refl _) (.cells #[.int .i64 (faintE zs fr ps), .int .i64 (faintE zs fr ps)] 25))
  by_cases hE : faintE zs fr ps = 0
  · obtain ⟨h0, h32, hpw⟩ := faintE_zero hE
    have HE := Lib.hid hE
    have HH0 := Lib.hid h0
    have HPW := Lib.hid hpw
    have HAR := Lib.hid (arena_len (fromE_zero h0).1)
    have HPL := Lib.hid HPI.out.row.1
    have HN32 : Hid (np ≤ 32) := by show _ ≤ _; rw [← HPI.out.row.1]; exact h32
    have hk3 := HK3.out
    have hm3 := HM3.out
    rw [faintO_ok hE] at hk3
    rw [clearO_ok hE] at hm3
    rw [hE] at HG HBA ⊢
    rw [show (!bad [0, 0]) = true from by decide] at HG
    have HK4 := Lib.hid (hk3.later HBA.out)
    have HM4 := Lib.hid (show ArrG runC 2 _ (w3.alloc (.cells #[.int .i64 0, .int .i64 0] 25)).heap.size M mm (clearL zs fr ps) from (hm3.below HBA.out (Nat.le_refl _)).more HBA.out.size)
    have HB4 := Lib.hid (bthen HB3.out HBA.out)
    clear hE h0 h32 hpw hk3 hm3 HK3 HM3 HB3 HBA
    go_wp2_with fail
    generalize (w3.alloc (.cells #[.int .i64 0, .int .i64 0] 25)) = W4 at *
    refine HG.out.mono ?_
    rintro e w4 ⟨rfl, rfl⟩
    clear HG
    by_cases hk0 : k < 0
    · clear HKA HRE
      go_wp2
      go_ret
      exact ⟨rfl, HB4.out⟩
    · by_cases hk1 : (np : Int) < k
      · clear HKA HRE
        go_wp2
        go_ret
        exact ⟨rfl, HB4.out⟩
      · obtain ⟨j, rfl⟩ : ∃ j : Nat, k = j := ⟨k.toNat, by omega⟩
        have hj : j ≤ np := by omega
        obtain ⟨D, hs1, hD⟩ := run_uptoG (P := Try.prog) Try.underlying24 faintS P np cp j (j : Int) rfl (Nat.le_trans hj HPI.out.hc)
        have HS1 := Lib.hid (faintE_sub (ps' := ps.take j) HE.out (by rw [List.length_take]; omega) fun p hp => List.mem_of_mem_take hp)
        have HQ := Lib.hid (HKA.out W4 HB4.out D j cp (ps.take j) (faints_cut (HPI.out.later HB4.out) hj hD) (by have := HN32.out; omega))
        rw [HS1.out, faintO_ok HS1.out] at HQ
        have HPS1 := Lib.hid (pairs_sub (ps' := ps.take j) HPW.out fun p hp => List.mem_of_mem_take hp)
        clear hD
        go_wp2_with fail
        refine HQ.out.mono ?_
        rintro e w5 ⟨X5, m5, d5, rfl, b5, _, hX5⟩
        have HB5 := Lib.hid (bthen HB4.out b5)
        have HK5 := Lib.hid (HK4.out.later b5)
        have HM5 := Lib.hid (show ArrG runC 2 w5 w5.heap.size M mm (clearL zs fr ps) from (HM4.out.below b5 (Nat.le_refl _)).more b5.size)
        have HX5 := Lib.hid hX5
        clear b5 hX5 HQ HK4 HM4 HB4 hs1
        have HS2 := Lib.hid (faintE_sub (ps' := []) HE.out (Nat.zero_le _) fun p hp => by cases hp)
        have HQ := Lib.hid (HKA.out w5 HB5.out none 0 0 [] ⟨Nat.le_refl _, ArrG.zero, by simp⟩ (by omega))
        rw [HS2.out, faintO_ok HS2.out, faint_none HZ.out HH0.out] at HQ
        go_wp2_with fail
        refine HQ.out.mono ?_
        rintro e w6 ⟨X6, m6, d6, rfl, b6, _, hX6⟩
        have HB6 := Lib.hid (bthen HB5.out b6)
        have HK6 := Lib.hid (HK5.out.later b6)
        have HM6 := Lib.hid (show ArrG runC 2 w6 w6.heap.size M mm (clearL zs fr ps) from (HM5.out.below b6 (Nat.le_refl _)).more b6.size)
        have HX6 := Lib.hid (HX5.out.later b6)
        have HY6 := Lib.hid hX6
        clear b6 hX6 HQ HK5 HM5 HB5 HX5
        have HQ := Lib.hid (HRE.out w6 HB6.out)
        rw [HH0.out] at HQ
        go_wp2_with fail
        refine HQ.out.mono ?_
        rintro e w7 ⟨X7, m7, d7, rfl, b7, hcase⟩
        obtain ⟨hm7, hX7⟩ := (hcase.resolve_left (fun h => h.1 rfl)).2
        have HB7 := Lib.hid (bthen HB6.out b7)
        have HK7 := Lib.hid (HK6.out.later b7)
        have HM7 := Lib.hid (show ArrG runC 2 w7 w7.heap.size M mm (clearL zs fr ps) from (HM6.out.below b7 (Nat.le_refl _)).more b7.size)
        have HX7 := Lib.hid (HX6.out.later b7)
        have HY7 := Lib.hid (HY6.out.later b7)
        have HZ7 := Lib.hid hX7
        have HM7N := Lib.hid hm7
        clear b7 hX7 hm7 hcase HQ HK6 HM6 HB6 HX6 HY6 HRE
        have HS3 := Lib.hid (faintE_sub (ps' := clearL zs fr ps) HE.out clearL_len fun p hp => (clearL_mem.1 hp).1)
        have HQ := Lib.hid (HKA.out w7 HB7.out M mm md (clearL zs fr ps) ⟨HMD.out, HM7.out, fun p hp => HPI.out.wf p (clearL_mem.1 hp).1⟩ (by have h1 := HM7.out.1; have h2 := clearL_len (zs := zs) (fr := fr) (ps := ps); have h3 := HPL.out; have h4 := HN32.out; omega))
        rw [HS3.out, faintO_ok HS3.out, faint_left HZ.out HH0.out HPW.out] at HQ
        go_wp2_with fail
        refine HQ.out.mono ?_
        rintro e w8 ⟨X8, m8, d8, rfl, b8, _, hX8⟩
        have HB8 := Lib.hid (bthen HB7.out b8)
        have HK8 := Lib.hid (HK7.out.later b8)
        have HX8 := Lib.hid (HX7.out.later b8)
        have HY8 := Lib.hid (HY7.out.later b8)
        have HZ8 := Lib.hid (HZ7.out.later b8)
        have HV8 := Lib.hid hX8
        clear b8 hX8 HQ HK7 HM7 HB7 HX7 HY7 HZ7 HKA
        have HGO := Lib.hid (good_any (some ⟨w8.heap.size, 0, none⟩) 4 4 _ _ _ (by decide) (zeros_good 25 w8 4 #[.int .i64 0, .int .i64 0, .int .i64 0, .int .i64 0] rfl))
        rw [zeros_fine 4] at HGO
        have HBA := Lib.hid ((Below.refl _ w8).alloc (Nat.le_refl _) (.cells #[.int .i64 0, .int .i64 0, .int .i64 0, .int .i64 0] 25))
        have hl1 : m ≤ 256 := by rw [← HK8.out.1]; exact faintL_len HAR.out
        have hl5 : m5 ≤ 256 := by rw [← HX8.out.1]; exact faintL_len HAR.out
        have hl6 : m6 = m7 := by rw [← HY8.out.1, HM7N.out]
        have hl7 : m7 ≤ 256 := by rw [HM7N.out]; exact reachL_len HAR.out
        have hl8 : m8 = m := by rw [← HV8.out.1, HK8.out.1]
        subst hl6 hl8
        go_wp2_with fail
        generalize (w8.alloc (.cells #[.int .i64 0, .int .i64 0, .int .i64 0, .int .i64 0] 25)) = W9 at *
        refine HGO.out.mono ?_
        rintro e w9 ⟨rfl, rfl⟩
        have HW := Lib.hid (keepWithin_any X5 K m5 d5 m8 d _ _ W9 (by unfold maxLen; omega) (by unfold maxLen; omega) (HX8.out.later HBA.out) (HK8.out.later HBA.out))
        rw [inAll_true (fun x hx => faint_more HZ.out HH0.out HPW.out (fun p hp => List.mem_of_mem_take hp) hx)] at HW
        clear HGO
        go_wp2_with fail
        refine HW.out.mono ?_
        rintro e w10 ⟨rfl, b10⟩
        have hb := bthen HBA.out b10
        have HE1 := Lib.hid (equalInts X6 X7 m6 m6 d6 d7 _ _ _ w10 (HY8.out.later hb) (HZ8.out.later hb) (by unfold maxLen; omega) (by unfold maxLen; omega))
        rw [show decide (reachL zs fr = reachL zs fr) = true by simp] at HE1
        have HV10 := Lib.hid (HV8.out.later hb)
        have HK10 := Lib.hid (HK8.out.later hb)
        have HB10 := Lib.hid (bthen HB8.out hb)
        clear hb b10 HW HX8 HY8 HZ8 HV8 HK8 HB8 HBA
        go_wp2_with fail
        refine HE1.out.mono ?_
        rintro e w11 ⟨rfl, q11, rfl⟩
        have HE2 := Lib.hid (equalInts X8 K m8 m8 d8 d _ _ _ (w10.drewN q11) (HV10.out.drewN q11) (HK10.out.drewN q11) (by unfold maxLen; omega) (by unfold maxLen; omega))
        rw [show decide (faintL zs fr ps = faintL zs fr ps) = true by simp] at HE2
        go_wp2_with fail
        refine HE2.out.mono ?_
        rintro e w12 ⟨rfl, q12, rfl⟩
        go_wp2
        go_ret
        exact ⟨rfl, below_drewN HB10.out _⟩
  · have hb : bad [faintE zs fr ps, faintE zs fr ps] = true := by
      unfold bad
      simp [hE]
    rw [hb] at HG
    have HB4 := Lib.hid (bthen HB3.out HBA.out)
    clear hb hE HK3 HM3 HB3 HBA HKA HRE
    generalize faintE zs fr ps = E at *
    go_wp2_with fail
    refine HG.out.mono ?_
    rintro e w4 ⟨rfl, rfl⟩
    go_wp2
    go_ret
    exact ⟨rfl, HB4.out⟩
end Go.Proofs.Ytdglnbcliemafaa
