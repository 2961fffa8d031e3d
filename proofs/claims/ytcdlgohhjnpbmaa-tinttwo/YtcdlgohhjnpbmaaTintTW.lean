/-
  The walk of TintTwo: whatever the arguments and the memory, the call returns true and changes nothing that was there.
-/
import Derived.Test.YtcdlgohhjnpbmaaTintCW
import Derived.Test.YtcdlgohhjnpbmaaGood
import Derived.Test.YtcdlgohhjnpbmaaIntCat
namespace Go.Proofs.Ytcdlgohhjnpbmaa
open Go.RowKit

section
variable {zs xs ys : List Int}
theorem two_left (hz : ∀ z ∈ zs, (Lit.int .u64 z).wf = true) (h1 : fromE zs xs = 0) (h2 : fromE zs ys = 0) : inAll (reachL zs xs) (reachL zs (xs ++ ys)) = true := inAll_true fun x hx => by
  rw [reachL_mem hz h1] at hx
  rw [reachL_mem hz (fromE_app h1 h2), reach_two]; exact .inl hx
theorem two_right (hz : ∀ z ∈ zs, (Lit.int .u64 z).wf = true) (h1 : fromE zs xs = 0) (h2 : fromE zs ys = 0) : inAll (reachL zs ys) (reachL zs (xs ++ ys)) = true := inAll_true fun x hx => by
  rw [reachL_mem hz h2] at hx
  rw [reachL_mem hz (fromE_app h1 h2), reach_two]; exact .inr hx
theorem two_both (hz : ∀ z ∈ zs, (Lit.int .u64 z).wf = true) (h1 : fromE zs xs = 0) (h2 : fromE zs ys = 0) : inAll (reachL zs (xs ++ ys)) (reachL zs xs ++ reachL zs ys) = true := inAll_true fun x hx => by
  rw [reachL_mem hz (fromE_app h1 h2), reach_two] at hx
  rw [List.mem_append, reachL_mem hz h1, reachL_mem hz h2]; exact hx
end
theorem pair_arr (t : TypeId) (w : World) (x y : Int) (hx : (Lit.int .i64 x).wf = true) (hy : (Lit.int .i64 y).wf = true) : Arr .i64 (w.alloc (.cells #[.int .i64 x, .int .i64 y] t)) (w.heap.size + 1) (some ⟨w.heap.size, 0, none⟩) 2 [x, y] := by
  have h := (whole_new .i64 t w [x, y] (by intro z hz; simp at hz; rcases hz with rfl | rfl; exact hx; exact hy)).arr (B := w.heap.size + 1) (by omega)
  exact h
theorem fromE_wf (zs fr : List Int) : (Lit.int .i64 (fromE zs fr)).wf = true := by
  rw [wf_i64]
  unfold fromE
  have hs : -10 ≤ arErr zs ∧ arErr zs ≤ 10 := by
    unfold arErr spErr
    repeat' split
    all_goals omega
  split
  · split <;> omega
  · omega

set_option maxRecDepth 16000 in
set_option maxHeartbeats 4000000 in
theorem tintTwo_walk (A X Y : Option Addr) (n c n1 c1 n2 c2 : Nat) (zs xs ys : List Int) (w : World) (hn : n ≤ maxLen) (hnc : n ≤ c) (ha : Arr .u64 w w.heap.size A n zs) (hm1 : n1 ≤ maxLen) (hx : Arr .i64 w w.heap.size X n1 xs) (hm2 : n2 ≤ maxLen) (hy : Arr .i64 w w.heap.size Y n2 ys)
    (s1 : n1 * 8 ≤ 140737488351232) (s2 : n2 * 8 ≤ 140737488351232) :
    Calls Try.prog 12 #[.slice A n c, .slice X n1 c1, .slice Y n2 c2] w fun e w' => e = .returned (.bool true) ∧ Below w.heap.size w w' := by
  have HA := Lib.hid ha
  have HX := Lib.hid hx
  have HY := Lib.hid hy
  have HN := Lib.hid hn
  have HN1 := Lib.hid hm1
  have HN2 := Lib.hid hm2
  have HT := Lib.hid (tints_any w)
  clear ha hx hy hn hm1 hm2
  go_enter Try.func12, Try.ntmps12
  go_wp2_with fail
  refine HT.out.mono ?_
  rintro e w1 ⟨rfl, b1⟩
  have HB1 := Lib.hid b1
  have HR := Lib.hid (Reach_any A X n c n1 c1 zs xs w1 HN.out hnc (HA.out.later b1) HN1.out (HX.out.later b1))
  clear b1 HT
  go_wp2_with fail
  refine HR.out.mono ?_
  rintro e w2 ⟨P, p, pc, rfl, b2, hp⟩
  have HB2 := Lib.hid (bthen HB1.out b2)
  have HP := Lib.hid hp
  have HR2 := Lib.hid (Reach_any A Y n c n2 c2 zs ys w2 HN.out hnc (HA.out.later HB2.out) HN2.out (HY.out.later HB2.out))
  clear b2 hp HR HB1
  go_wp2_with fail
  refine HR2.out.mono ?_
  rintro e w3 ⟨Q, q, qc, rfl, b3, hq⟩
  have HB3 := Lib.hid (bthen HB2.out b3)
  have HQ := Lib.hid hq
  have HB23 := Lib.hid b3
  have ba := (Below.refl w3.heap.size w3).alloc (Nat.le_refl _) (.cells #[.int .i64 (fromE zs xs), .int .i64 (fromE zs ys)] 23)
  have HBA := Lib.hid ba
  have HG := Lib.hid (good_any (some ⟨w3.heap.size, 0, none⟩) 2 2 _ [fromE zs xs, fromE zs ys] _ (by decide) (pair_arr 23 w3 _ _ (fromE_wf _ _) (fromE_wf _ _)))
  clear b3 hq HR2 HB2 ba
  by_cases hok : fromE zs xs = 0 ∧ fromE zs ys = 0
  · obtain ⟨e1, e2⟩ := hok
    rw [show bad [fromE zs xs, fromE zs ys] = false by rw [e1, e2]; rfl] at HG
    have H1 := Lib.hid e1
    have H2 := Lib.hid e2
    rw [e1, e2] at HG HBA
    rw [e1, e2]
    obtain ⟨_, hp0, hpA⟩ := HP.out.resolve_left fun h => h.1 e1
    obtain ⟨_, hq0, hqA⟩ := HQ.out.resolve_left fun h => h.1 e2
    have h256 := arena_len (fromE_zero e1).1
    have hp256 : p ≤ 256 := by rw [hp0]; exact reachL_len h256
    have hq256 : q ≤ 256 := by rw [hq0]; exact reachL_len h256
    have HPA := Lib.hid (hpA.later HB23.out)
    have HQA := Lib.hid hqA
    clear e1 e2 hp0 hq0 hpA hqA HP HQ HB23
    go_wp2_with fail
    refine HG.out.mono ?_
    rintro e w4 ⟨rfl, rfl⟩
    have HB4 := Lib.hid (bthen HB3.out HBA.out)
    have HP4 := Lib.hid (HPA.out.later HBA.out)
    have HQ4 := Lib.hid (HQA.out.later HBA.out)
    clear HG HBA HPA HQA HB3
    generalize (w3.alloc (.cells #[.int .i64 0, .int .i64 0] 23)) = W4 at *
    have ba := (Below.refl W4.heap.size W4).alloc (Nat.le_refl _) (.cells #[.slice X n1 c1, .slice Y n2 c2] 54)
    have bx := Box.new W4 54 #[.slice X n1 c1, .slice Y n2 c2]
    have HCC := Lib.hid (concat2 X Y n1 c1 n2 c2 W4.heap.size xs ys _ (by omega) bx.lt (HX.out.later (bthen HB4.out ba)) (HY.out.later (bthen HB4.out ba)) (bx.cell 0) (bx.cell 1))
    have HBA := Lib.hid ba
    clear ba bx
    go_wp2_with fail
    refine HCC.out.mono ?_
    rintro e w5 ⟨C, cc, rfl, hC, b5⟩
    have hb5 := bthen HBA.out b5
    have HB5 := Lib.hid (bthen HB4.out hb5)
    have HP5 := Lib.hid (HP4.out.later hb5)
    have HQ5 := Lib.hid (HQ4.out.later hb5)
    have HR5 := Lib.hid (Reach_any A C n c (n1 + n2) cc zs (xs ++ ys) w5 HN.out hnc (HA.out.later HB5.out) (by unfold maxLen; omega) hC)
    clear hb5 b5 hC HCC HBA HB4 HP4 HQ4
    obtain ⟨N, hN⟩ : ∃ N, n1 + n2 = N := ⟨_, rfl⟩
    rw [hN] at HR5 ⊢
    clear hN
    go_wp2_with fail
    refine HR5.out.mono ?_
    rintro e w6 ⟨R, r, rc, rfl, b6, hr⟩
    rw [fromE_app H1.out H2.out]
    obtain ⟨_, hr0, hrA⟩ := hr.resolve_left fun h => h.1 (fromE_app H1.out H2.out)
    have hr256 : r ≤ 256 := by rw [hr0]; exact reachL_len h256
    have HB6 := Lib.hid (bthen HB5.out b6)
    have HP6 := Lib.hid (HP5.out.later b6)
    have HQ6 := Lib.hid (HQ5.out.later b6)
    have HR6 := Lib.hid hrA
    clear hr hr0 hrA b6 HR5 HB5 HP5 HQ5
    have HW1 := Lib.hid (keepWithin_any P R p pc r rc (reachL zs xs) (reachL zs (xs ++ ys)) w6 (by unfold maxLen; omega) (by unfold maxLen; omega) HP6.out HR6.out)
    rw [two_left HA.out.2.1 H1.out H2.out] at HW1
    go_wp2_with fail
    refine HW1.out.mono ?_
    rintro e w7 ⟨rfl, b7⟩
    have HB7 := Lib.hid (bthen HB6.out b7)
    have HP7 := Lib.hid (HP6.out.later b7)
    have HQ7 := Lib.hid (HQ6.out.later b7)
    have HR7 := Lib.hid (HR6.out.later b7)
    clear b7 HW1 HB6 HP6 HQ6 HR6
    have HW2 := Lib.hid (keepWithin_any Q R q qc r rc (reachL zs ys) (reachL zs (xs ++ ys)) w7 (by unfold maxLen; omega) (by unfold maxLen; omega) HQ7.out HR7.out)
    rw [two_right HA.out.2.1 H1.out H2.out] at HW2
    go_wp2_with fail
    refine HW2.out.mono ?_
    rintro e w8 ⟨rfl, b8⟩
    have HB8 := Lib.hid (bthen HB7.out b8)
    have HP8 := Lib.hid (HP7.out.later b8)
    have HQ8 := Lib.hid (HQ7.out.later b8)
    have HR8 := Lib.hid (HR7.out.later b8)
    clear b8 HW2 HB7 HP7 HQ7 HR7
    have ba := (Below.refl w8.heap.size w8).alloc (Nat.le_refl _) (.cells #[.slice P p pc, .slice Q q qc] 54)
    have bx := Box.new w8 54 #[.slice P p pc, .slice Q q qc]
    have HCC := Lib.hid (concat2 P Q p pc q qc w8.heap.size (reachL zs xs) (reachL zs ys) _ (by omega) bx.lt (HP8.out.later ba) (HQ8.out.later ba) (bx.cell 0) (bx.cell 1))
    have HBA := Lib.hid ba
    clear ba bx
    go_wp2_with fail
    refine HCC.out.mono ?_
    rintro e w9 ⟨D, dc, rfl, hD, b9⟩
    have hb9 := bthen HBA.out b9
    have HB9 := Lib.hid (bthen HB8.out hb9)
    have HW3 := Lib.hid (keepWithin_any R D r rc (p + q) dc (reachL zs (xs ++ ys)) (reachL zs xs ++ reachL zs ys) w9 (by unfold maxLen; omega) (by unfold maxLen; omega) (HR8.out.later hb9) hD)
    rw [two_both HA.out.2.1 H1.out H2.out] at HW3
    clear hb9 b9 hD HCC HBA HB8 HP8 HQ8 HR8
    obtain ⟨M, hM⟩ : ∃ M, p + q = M := ⟨_, rfl⟩
    rw [hM] at HW3 ⊢
    clear hM
    go_wp2_with fail
    refine HW3.out.mono ?_
    rintro e w10 ⟨rfl, b10⟩
    have HB10 := Lib.hid (bthen HB9.out b10)
    clear b10 HW3 HB9
    go_wp2
    go_ret
    exact ⟨rfl, HB10.out⟩
  · have hb : bad [fromE zs xs, fromE zs ys] = true := by
      unfold bad
      simp
      by_cases e1 : fromE zs xs = 0
      · exact .inr fun e2 => hok ⟨e1, e2⟩
      · exact .inl e1
    rw [hb] at HG
    clear hok hb HP HQ
    generalize fromE zs xs = E1 at *
    generalize fromE zs ys = E2 at *
    go_wp2_with fail
    refine HG.out.mono ?_
    rintro e w4 ⟨rfl, rfl⟩
    have HB4 := Lib.hid (bthen HB3.out HBA.out)
    clear HG HBA
    go_wp2
    go_ret
    exact ⟨rfl, HB4.out⟩
end Go.Proofs.Ytcdlgohhjnpbmaa
