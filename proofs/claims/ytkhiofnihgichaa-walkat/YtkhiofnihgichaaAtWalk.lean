/-
  The walk of WalkAt: whatever the arguments and the memory, the call returns true and changes nothing that was there.
-/
import Derived.Test.YtkhiofnihgichaaAt
import Derived.Test.YtkhiofnihgichaaSpotFn
import Derived.Test.YtkhiofnihgichaaTilesWalk
namespace Go.Proofs.Ytkhiofnihgichaa
open Go.RowKit

set_option maxRecDepth 8000 in
set_option maxHeartbeats 1000000 in
theorem walkAt_bad (A : Option Addr) (n c : Nat) (a : Int) (zs : List Int) (w : World) (hn : n ≤ maxLen) (hnc : n ≤ c) (ha : Arr .u64 w w.heap.size A n zs) (h : arErr zs ≠ 0) :
    Calls Try.prog 7 #[.slice A n c, .int .i64 a] w fun e w' => e = .returned (.bool true) ∧ Below w.heap.size w w' := by
  have hb : (arErr zs != 0) = true := by simpa using h
  have he : (arErr zs == arErr zs) = true := by simp
  have HN := Lib.hid hn
  have H0 := Lib.hid h
  have HA := Lib.hid ha
  clear ha hn h
  go_enter Try.func7, Try.ntmps7
  go_wp2_with fail
  refine (walks_any _).mono ?_
  rintro e w1 ⟨rfl, b1⟩
  obtain ⟨bx1, b1⟩ := boxed_call b1
  have HB1 := Lib.hid b1
  clear b1
  go_wp2_with fail
  refine (Spots_any A n c zs w1 HN.out ((HA.out.below HB1.out (Nat.le_refl _)).more HB1.out.size)).mono ?_
  rintro e w2 ⟨A2, c2, rfl, b2, _, _, _⟩
  have bx2 := bx1.below b2 bx1.lt
  have HB2 := Lib.hid (HB1.out.trans (b2.mono HB1.out.size))
  clear b2 bx1
  go_wp2_with fail
  refine (Objects_any A n c zs w2 HN.out hnc ((HA.out.below HB2.out (Nat.le_refl _)).more HB2.out.size)).mono ?_
  rintro e w3 ⟨A3, k3, c3, rfl, b3, _, h3⟩
  obtain ⟨_, rfl⟩ : arErr zs ≠ 0 ∧ k3 = 0 := by
    rcases h3 with h3 | h3
    · exact h3
    · exact absurd h3.1 H0.out
  have bx3 := bx2.below b3 bx2.lt
  have d3 : w3.cell? ⟨w.heap.size, 0, none⟩ = some (.int .i64 a) := bx3.cell 0
  have HB3 := Lib.hid (HB2.out.trans (b3.mono HB2.out.size))
  clear b3 bx2 h3
  go_wp2_with fail
  refine (At_any A n c a zs w3 HN.out hnc ((HA.out.below HB3.out (Nat.le_refl _)).more HB3.out.size)).mono ?_
  rintro e w4 ⟨b4, h4⟩
  obtain ⟨_, rfl⟩ : arErr zs ≠ 0 ∧ e = .returned (.tuple #[rawV zeroRaw, .int .i64 (arErr zs)]) := by
    rcases h4 with h4 | h4 | h4
    · exact h4
    · exact absurd h4.1 H0.out
    · exact absurd h4.1 H0.out
  have HB4 := Lib.hid (HB3.out.trans (b4.mono HB3.out.size))
  clear b4 h4 bx3
  unfold rawV zeroRaw
  go_wp2
  go_ret
  exact ⟨rfl, HB4.out.alloc HB4.out.size _⟩

set_option maxRecDepth 8000 in
set_option maxHeartbeats 2000000 in
theorem walkAt_good (A : Option Addr) (n c : Nat) (a : Int) (zs : List Int) (w : World) (hnc : n ≤ c) (ha : Arr .u64 w w.heap.size A n zs) (h : arErr zs = 0) :
    Calls Try.prog 7 #[.slice A n c, .int .i64 a] w fun e w' => e = .returned (.bool true) ∧ Below w.heap.size w w' := by
  obtain ⟨hsp, hrf⟩ := arErr_zero h
  obtain ⟨h256, hfine⟩ := spErr_zero hsp
  have hl := ha.1
  have hn : n ≤ maxLen := by unfold maxLen; omega
  have hL := spList_ok hsp
  have hlen : (spList zs).length = (begins zs 0).length := by rw [hL]; simp
  have hbl := begins_len (zs := zs) (a := 0)
  obtain ⟨m, hm⟩ : ∃ m, (begins zs 0).length = m := ⟨_, rfl⟩
  rw [hm] at hbl hlen
  have hspot : ∀ k, k < m → nthG (spList zs) k = spOf zs (st zs k) := fun k hk => by rw [hL, nthG_map _ _ _ (by omega)]; rfl
  have HS := Lib.hid hspot
  have HM := Lib.hid hm
  have HLN := Lib.hid hlen
  have HN := Lib.hid hn
  have H0 := Lib.hid h
  have HSP := Lib.hid hsp
  have HA := Lib.hid ha
  clear ha hn h hsp hrf hfine hL hm hspot hlen
  go_enter Try.func7, Try.ntmps7
  go_wp2_with fail
  refine (walks_any _).mono ?_
  rintro e w1 ⟨rfl, b1⟩
  obtain ⟨bx1, b1⟩ := boxed_call b1
  have HB1 := Lib.hid b1
  clear b1
  go_wp2_with fail
  refine (Spots_any A n c zs w1 HN.out ((HA.out.below HB1.out (Nat.le_refl _)).more HB1.out.size)).mono ?_
  rintro e w2 ⟨A2, c2, rfl, b2, _, hA2, _⟩
  rw [HLN.out] at hA2 ⊢
  rw [HSP.out]
  have H2 := Lib.hid hA2
  have bx2 := bx1.below b2 bx1.lt
  have HB2 := Lib.hid (HB1.out.trans (b2.mono HB1.out.size))
  clear b2 bx1 hA2
  go_wp2_with fail
  refine (Objects_any A n c zs w2 HN.out hnc ((HA.out.below HB2.out (Nat.le_refl _)).more HB2.out.size)).mono ?_
  rintro e w3 ⟨A3, k3, c3, rfl, b3, _, h3⟩
  obtain ⟨raws, hA3, hO3⟩ : ∃ raws, ArrG rawC 4 w3 w3.heap.size A3 k3 raws ∧ ∀ j, j < k3 → ObV w3 w2.heap.size w3.heap.size (nthG raws j) (obOf zs (st zs j)) := by
    rcases h3 with h3 | h3
    · exact absurd H0.out h3.1
    · exact h3.2.2
  obtain rfl : k3 = m := by
    rcases h3 with h3 | h3
    · exact absurd H0.out h3.1
    · exact h3.2.1.trans HM.out
  rw [H0.out]
  have bx3 := bx2.below b3 bx2.lt
  have d3 : w3.cell? ⟨w.heap.size, 0, none⟩ = some (.int .i64 a) := bx3.cell 0
  have HB3 := Lib.hid (HB2.out.trans (b3.mono HB2.out.size))
  have H23 := Lib.hid (H2.out.below b3 (Nat.le_refl _))
  have HA3 := Lib.hid hA3
  have HO3 := Lib.hid hO3
  have L23 := Lib.hid b3.size
  clear b3 bx2 h3 hA3 hO3 H2
  go_wp2_with fail
  refine (At_any A n c a zs w3 HN.out hnc ((HA.out.below HB3.out (Nat.le_refl _)).more HB3.out.size)).mono ?_
  rintro e w4 ⟨b4, h4⟩
  have bx4 := bx3.below b4 bx3.lt
  have HB4 := Lib.hid (HB3.out.trans (b4.mono HB3.out.size))
  have H24 := Lib.hid (H23.out.below b4 L23.out)
  have HA4 := Lib.hid (HA3.out.below b4 (Nat.le_refl _))
  have HO4 := Lib.hid (fun j hj => ((HO3.out j hj).below b4 (Nat.le_refl _)))
  have L34 := Lib.hid b4.size
  clear b4 bx3 H23 HA3 HO3
  rcases h4 with h4 | ⟨_, j, hj, haj, r, rfl, hV⟩ | ⟨_, hno, rfl⟩
  · exact absurd H0.out h4.1
  · rw [HM.out] at hj
    have HV := Lib.hid hV
    have HJ := Lib.hid haj
    clear hV haj d3
    unfold rawV
    have bx5 := bx4.alloc (.cells #[.int .i64 r.t, .slice r.ra r.rn r.rc, .slice r.ba r.bn r.bc, .bool r.f] 32)
    have BX5 := Lib.hid bx5
    have b5 := (Below.refl _ w4).alloc (Nat.le_refl _) (.cells #[.int .i64 r.t, .slice r.ra r.rn r.rc, .slice r.ba r.bn r.bc, .bool r.f] 32)
    have HI := Lib.hid (fun W (hW : Below w4.heap.size w4 W) (hb : Box W w.heap.size 3 #[.int .i64 a]) => indexSpot A2 k3 c2 w2.heap.size 25 ⟨w.heap.size, 0, none⟩ (spList zs) (fun j => (st zs j : Int) == a) W (by unfold maxLen; omega) (by have := hW.size; have := L23.out; have := L34.out; omega) (H24.out.below hW (by have := L23.out; have := L34.out; omega)) Try.call25
      (fun wx hb2 j hj => by
        rw [HS.out j hj]
        exact hitSpot_any _ _ _ _ a _ w.heap.size 0 wx (Nat.lt_of_lt_of_le hb.lt hb2.size) ((hb.below hb2 hb.lt).cell 0)))
    have HOB := Lib.hid (Box.new w4 32 #[.int .i64 r.t, .slice r.ra r.rn r.rc, .slice r.ba r.bn r.bc, .bool r.f])
    have HB5 := Lib.hid b5
    clear bx4 bx5 b5
    go_wp2_with fail
    refine (HI.out _ HB5.out BX5.out).mono ?_
    rintro e w6 ⟨x, rfl, b6, h6⟩
    obtain ⟨k, rfl, hk, hfk⟩ : ∃ k : Nat, x = k ∧ k < k3 ∧ ((st zs k : Int) == a) = true := by
      rcases h6 with ⟨k, h1, h2, h3, _⟩ | ⟨_, h2⟩
      · exact ⟨k, h1, h2, h3⟩
      · have := h2 j hj
        rw [HJ.out] at this
        simp at this
    have hkj : obOf zs (st zs k) = obOf zs (st zs j) := by
      have : st zs k = st zs j := by have h1 := HJ.out; simp at hfk; omega
      rw [this]
    have b46 := HB5.out.trans (b6.mono HB5.out.size)
    have hob6 := HOB.out.below b6 HOB.out.lt
    have p0 : w6.cell? ⟨w4.heap.size, 0, none⟩ = some (.int .i64 r.t) := hob6.cell 0
    have p1 : w6.cell? ⟨w4.heap.size, 1, none⟩ = some (.slice r.ra r.rn r.rc) := hob6.cell 1
    have p2 : w6.cell? ⟨w4.heap.size, 2, none⟩ = some (.slice r.ba r.bn r.bc) := hob6.cell 2
    have p3 : w6.cell? ⟨w4.heap.size, 3, none⟩ = some (.bool r.f) := hob6.cell 3
    obtain ⟨b7, o7, rfl, hb7, y0, y1, y2, y3⟩ := (HA4.out.below b46 L34.out).raw hk
    have hV6 := (HV.out.below b46 (Nat.le_refl _)).more b46.size
    have hW6 := ((HO4.out k hk).below b46 L34.out).more (hi' := w6.heap.size) (Nat.le_trans L34.out b46.size)
    rw [hkj] at hW6
    have hlr : r.rn ≤ maxLen := by
      have h1 := hV6.refs.1
      have h2 : (refWords zs (st zs j)).length ≤ zs.length := by unfold refWords; simp; omega
      unfold obOf at h1
      simp at h1
      unfold maxLen; omega
    have hlb : r.bn ≤ maxLen := by
      have h1 := hV6.body.1
      have h2 : (bodyWords zs (st zs j)).length ≤ zs.length := by unfold bodyWords; simp; omega
      unfold obOf at h1
      simp only at h1
      unfold maxLen; omega
    have HC := Lib.hid (fun q => sameObject_any r (nthG raws k) (obOf zs (st zs j)) w3.heap.size w2.heap.size (w6.drewN q) (hV6.drewN q) (hW6.drewN q) hlr hlb)
    have HB6 := Lib.hid (HB4.out.trans (b46.mono HB4.out.size))
    have l46 : w4.heap.size < w6.heap.size := hob6.lt
    have l76 : b7 < w6.heap.size := by have := L34.out; omega
    clear hV6 hW6 hkj hlr hlb h6 b6 b46 hob6 hfk hj hb7
    generalize nthG raws k = q at *
    unfold rawV at HC
    obtain ⟨t1, ra1, rn1, rc1, ba1, bn1, bc1, f1⟩ := r
    obtain ⟨t2, ra2, rn2, rc2, ba2, bn2, bc2, f2⟩ := q
    simp only at HC p0 p1 p2 p3 y0 y1 y2 y3 ⊢
    have hk0 : (0 : Int) ≤ (k : Int) := by omega
    have hk1 : (k : Int) < (k3 : Int) := by omega
    go_wp2_with fail
    go_region_held3 (fun w' => w'.cell? ⟨w4.heap.size, 0, none⟩ = some (.int .i64 t1) ∧ w'.cell? ⟨w4.heap.size, 1, none⟩ = some (.slice ra1 rn1 rc1) ∧ w'.cell? ⟨w4.heap.size, 2, none⟩ = some (.slice ba1 bn1 bc1) ∧ w'.cell? ⟨w4.heap.size, 3, none⟩ = some (.bool f1) ∧
        w'.cell? ⟨b7, o7 + k * 4, none⟩ = some (.int .i64 t2) ∧ w'.cell? ⟨b7, o7 + k * 4 + 1, none⟩ = some (.slice ra2 rn2 rc2) ∧ w'.cell? ⟨b7, o7 + k * 4 + 2, none⟩ = some (.slice ba2 bn2 bc2) ∧ w'.cell? ⟨b7, o7 + k * 4 + 3, none⟩ = some (.bool f2))
      (first
        | go_keep
        | exact ⟨(B9.out.cell (p := ⟨w4.heap.size, 0, none⟩) l46).trans p0, (B9.out.cell (p := ⟨w4.heap.size, 1, none⟩) l46).trans p1, (B9.out.cell (p := ⟨w4.heap.size, 2, none⟩) l46).trans p2, (B9.out.cell (p := ⟨w4.heap.size, 3, none⟩) l46).trans p3, (B9.out.cell (p := ⟨b7, o7 + k * 4, none⟩) l76).trans y0, (B9.out.cell (p := ⟨b7, o7 + k * 4 + 1, none⟩) l76).trans y1, (B9.out.cell (p := ⟨b7, o7 + k * 4 + 2, none⟩) l76).trans y2, (B9.out.cell (p := ⟨b7, o7 + k * 4 + 3, none⟩) l76).trans y3⟩)
      (first
        | (go_at_call 23; refine (HC.out 1).mono ?_; rintro e w9 ⟨rfl, b9⟩; have B9 := Lib.hid b9; clear b9))
    go_wp2
    go_ret
    exact ⟨rfl, (below_drewN HB6.out 1).trans (B9.out.mono HB6.out.size)⟩
  · rw [HM.out] at hno
    have HNO := Lib.hid hno
    clear hno d3
    unfold rawV zeroRaw
    have bx5 := bx4.alloc (.cells #[.int .i64 0, .slice none 0 0, .slice none 0 0, .bool false] 32)
    have BX5 := Lib.hid bx5
    have b5 := (Below.refl _ w4).alloc (Nat.le_refl _) (.cells #[.int .i64 0, .slice none 0 0, .slice none 0 0, .bool false] 32)
    have HI := Lib.hid (fun W (hW : Below w4.heap.size w4 W) (hb : Box W w.heap.size 3 #[.int .i64 a]) => indexSpot A2 k3 c2 w2.heap.size 25 ⟨w.heap.size, 0, none⟩ (spList zs) (fun j => (st zs j : Int) == a) W (by unfold maxLen; omega) (by have := hW.size; have := L23.out; have := L34.out; omega) (H24.out.below hW (by have := L23.out; have := L34.out; omega)) Try.call25
      (fun wx hb2 j hj => by
        rw [HS.out j hj]
        exact hitSpot_any _ _ _ _ a _ w.heap.size 0 wx (Nat.lt_of_lt_of_le hb.lt hb2.size) ((hb.below hb2 hb.lt).cell 0)))
    have HB5 := Lib.hid b5
    clear bx4 bx5 b5
    go_wp2_with fail
    refine (HI.out _ HB5.out BX5.out).mono ?_
    rintro e w6 ⟨x, rfl, b6, h6⟩
    obtain rfl : x = -1 := by
      rcases h6 with ⟨k, h1, h2, h3, _⟩ | ⟨h1, _⟩
      · have := HNO.out k h2
        simp at h3
        omega
      · exact h1
    have HB6 := Lib.hid (HB4.out.trans ((HB5.out.trans (b6.mono HB5.out.size)).mono HB4.out.size))
    clear h6 b6
    go_wp2
    go_ret
    exact ⟨rfl, HB6.out⟩

theorem walkAt_walk (A : Option Addr) (n c : Nat) (a : Int) (zs : List Int) (w : World) (hn : n ≤ maxLen) (hnc : n ≤ c) (ha : Arr .u64 w w.heap.size A n zs) :
    Calls Try.prog 7 #[.slice A n c, .int .i64 a] w fun e w' => e = .returned (.bool true) ∧ Below w.heap.size w w' := by
  by_cases h : arErr zs = 0
  · exact walkAt_good A n c a zs w hnc ha h
  · exact walkAt_bad A n c a zs w hn hnc ha h
end Go.Proofs.Ytkhiofnihgichaa
