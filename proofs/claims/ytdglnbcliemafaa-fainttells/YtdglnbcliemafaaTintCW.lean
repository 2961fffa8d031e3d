/-
  walk.At; the law's own begins, refsAt, within, small and tints; the walk of TintClosed.
-/
import Derived.Test.YtdglnbcliemafaaObjects
import Derived.Test.YtdglnbcliemafaaTintP
namespace Go.Proofs.Ytdglnbcliemafaa
open Go.RowKit

/-- What At answers. -/
def AtP (zs : List Int) (a : Int) (w : World) (e : Ending) (w' : World) : Prop := Below w.heap.size w w' ∧
  ((arErr zs ≠ 0 ∧ e = .returned (.tuple #[rawV zeroRaw, .int .i64 (arErr zs)])) ∨
   (arErr zs = 0 ∧ ∃ j, j < (begins zs 0).length ∧ a = st zs j ∧ ∃ r, e = .returned (.tuple #[rawV r, .int .i64 0]) ∧ ObV w' w.heap.size w'.heap.size r (obOf zs (st zs j))) ∨
   (arErr zs = 0 ∧ (∀ j, j < (begins zs 0).length → a ≠ st zs j) ∧ e = .returned (.tuple #[rawV zeroRaw, .int .i64 5])))

set_option maxHeartbeats 400000 in
theorem at_bad (A : Option Addr) (n c : Nat) (a : Int) (zs : List Int) (w : World) (hn : n ≤ maxLen) (hnc : n ≤ c) (ha : Arr .u64 w w.heap.size A n zs) (h : arErr zs ≠ 0) :
    Calls Try.prog 46 #[.slice A n c, .int .i64 a] w (AtP zs a w) := by
  have hb : (arErr zs != 0) = true := by simpa using h
  have b0 := (Below.refl _ w).alloc (Nat.le_refl _) (.cells #[.int .i64 0, .slice none 0 0, .slice none 0 0, .bool false] 73)
  have HR := Lib.hid (Read_any A n c zs _ hn hnc ((ha.below b0 (Nat.le_refl _)).more b0.size))
  have H0 := Lib.hid h
  clear ha hn h b0
  go_enter Try.func46, Try.ntmps46
  go_wp2_with fail
  refine HR.out.mono ?_
  rintro e w1 ⟨b1, h⟩
  obtain ⟨bx, b1⟩ := boxed_call b1
  have HB := Lib.hid b1
  clear b1 HR
  rcases h with ⟨h0, rfl⟩ | ⟨h0, _⟩
  · clear h0
    have bx2 := bx.alloc (.cells #[.slice none 0 0, .slice none 0 0, .map none] 102)
    have BB := Lib.hid (HB.out.alloc HB.out.size (.cells #[.slice none 0 0, .slice none 0 0, .map none] 102))
    have BX := Lib.hid bx2
    have d0 := bx2.cell 0
    have d1 := bx2.cell 1
    have d2 := bx2.cell 2
    have d3 := bx2.cell 3
    have s0 := bx2.soft 0
    have s1 := bx2.soft 1
    have s2 := bx2.soft 2
    have s3 := bx2.soft 3
    clear bx bx2
    go_wp2_with fail
    generalize (w1.alloc (.cells #[.slice none 0 0, .slice none 0 0, .map none] 102)) = W at *
    have BY := (BX.out).set4 (.int .i64 0) (.slice none 0 0) (.slice none 0 0) (.bool false)
    have BB := below_set4 (BB.out) (g := w.heap.size) (by omega) 0 1 2 3 (.int .i64 0) (.slice none 0 0) (.slice none 0 0) (.bool false)
    generalize ((((W.setCell ⟨w.heap.size, 0, none⟩ (.int .i64 0)).setCell ⟨w.heap.size, 1, none⟩ (.slice none 0 0)).setCell ⟨w.heap.size, 2, none⟩ (.slice none 0 0)).setCell ⟨w.heap.size, 3, none⟩ (.bool false)) = W9 at *
    have x0 : W9.cell? ⟨w.heap.size, 0, none⟩ = some (.int .i64 0) := BY.cell 0
    have x1 : W9.cell? ⟨w.heap.size, 1, none⟩ = some (.slice none 0 0) := BY.cell 1
    have x2 : W9.cell? ⟨w.heap.size, 2, none⟩ = some (.slice none 0 0) := BY.cell 2
    have x3 : W9.cell? ⟨w.heap.size, 3, none⟩ = some (.bool false) := BY.cell 3
    refine bodyPost_ret (v := .tuple #[.agg #[.int .i64 0, .slice none 0 0, .slice none 0 0, .bool false], .int .i64 (arErr zs)]) (by simp [results, Try.results46, go_sem, x0, x1, x2, x3]) rfl ⟨BB, .inl ⟨H0.out, rfl⟩⟩
  · exact absurd h0 H0.out

/-- What holds while At goes over the spots. -/
structure AtI (zs : List Int) (w : World) (A : Option Addr) (n c : Nat) (A2 : Option Addr) (m c2 b gh : Nat) (wr : World) : Prop where
  res : Box wr w.heap.size 73 #[.int .i64 0, .slice none 0 0, .slice none 0 0, .bool false]
  hb : Box wr gh 102 #[.slice A n c, .slice A2 m c2, .map (some b)]
  spots : ArrG spotC 5 wr gh A2 m (spList zs)
  map : MapF Try.prog .u64 .i64 76 3 wr b 300 (ixOf zs)
  below : Below w.heap.size w wr
theorem AtI.next {zs : List Int} {w : World} {A : Option Addr} {n c : Nat} {A2 : Option Addr} {m c2 b gh : Nat} {wr wr' : World} (h : AtI zs w A n c A2 m c2 b gh wr) (hb : Below wr.heap.size wr wr') : AtI zs w A n c A2 m c2 b gh wr' :=
  ⟨h.res.below hb h.res.lt, h.hb.below hb h.hb.lt, h.spots.below hb (Nat.le_of_lt h.hb.lt), h.map.below hb h.map.lt, h.below.trans (hb.mono h.below.size)⟩

set_option maxRecDepth 8000 in
set_option maxHeartbeats 4000000 in
theorem at_good (A : Option Addr) (n c : Nat) (a : Int) (zs : List Int) (w : World) (hnc : n ≤ c) (ha : Arr .u64 w w.heap.size A n zs) (h : arErr zs = 0) :
    Calls Try.prog 46 #[.slice A n c, .int .i64 a] w (AtP zs a w) := by
  obtain ⟨hsp, hrf⟩ := arErr_zero h
  obtain ⟨h256, hfine⟩ := spErr_zero hsp
  have hl := ha.1
  have hL := spList_ok hsp
  have hbl := begins_len (zs := zs) (a := 0)
  have b0 := (Below.refl _ w).alloc (Nat.le_refl _) (.cells #[.int .i64 0, .slice none 0 0, .slice none 0 0, .bool false] 73)
  have HR := Lib.hid (Read_any A n c zs _ (by unfold maxLen; omega) hnc ((ha.below b0 (Nat.le_refl _)).more b0.size))
  obtain ⟨m, hm⟩ : ∃ m, (begins zs 0).length = m := ⟨_, rfl⟩
  rw [hm] at hbl
  have hspot : ∀ k, k < m → nthG (spList zs) k = spOf zs (st zs k) ∧ st zs k < n ∧ stepOk zs (st zs k) = true := fun k hk => by
    have h1 := begins_mem (st_mem (zs := zs) (k := k) (by omega))
    exact ⟨by rw [hL, nthG_map _ _ _ (by omega)]; rfl, by omega, h1.2.2⟩
  have HS := Lib.hid hspot
  have HM := Lib.hid hm
  have H0 := Lib.hid h
  have HA := Lib.hid ha
  clear hspot hm h ha hsp hrf hfine hL b0
  go_enter Try.func46, Try.ntmps46
  go_wp2_with fail
  refine HR.out.mono ?_
  rintro e w1 ⟨b1, h⟩
  obtain ⟨bx, b1⟩ := boxed_call b1
  have HB := Lib.hid b1
  clear b1 HR
  rcases h with ⟨h0, _⟩ | ⟨_, A2, c2, b, rfl, hc2, hA2, hi2, hb2, hM⟩
  · exact absurd H0.out h0
  rw [HM.out] at hA2 hi2 ⊢
  have ba := (Below.refl _ w1).alloc (Nat.le_refl _) (.cells #[.slice A n c, .slice A2 m c2, .map (some b)] 102)
  have hI : AtI zs w A n c A2 m c2 b w1.heap.size (w1.alloc (.cells #[.slice A n c, .slice A2 m c2, .map (some b)] 102)) :=
    ⟨bx.alloc _, Box.new _ _ _, hA2.below ba (Nat.le_refl _), hM.alloc _, HB.out.alloc HB.out.size _⟩
  have HI := Lib.hid hI
  clear hI hM hA2 hi2 hb2 hc2 ba bx
  go_wp2_with fail
  obtain ⟨gh, hgh⟩ : ∃ g, w1.heap.size = g := ⟨_, rfl⟩
  rw [hgh] at HI ⊢
  generalize (w1.alloc (.cells #[.slice A n c, .slice A2 m c2, .map (some b)] 102)) = W at *
  go_loopw [22] (fun i wr => ∃ (k : Nat), k ≤ m ∧ i = .int .i64 k ∧ Hid (∀ j, j < k → a ≠ st zs j) ∧ Hid (AtI zs w A n c A2 m c2 b gh wr)) (fun i _ => m - (intOf i).toNat)
  case atStart => exact ⟨0, by omega, rfl, (fun j hj => absurd hj (by omega)), HI⟩
  case round =>
    obtain ⟨k, hk, rfl, HP, hI⟩ := hrel
    clear HI
    by_cases hlt : k < m
    · obtain ⟨hs, hsn, hst⟩ := HS.out k hlt
      obtain ⟨b5, off, rfl, _, q0, q1, q2, q3, q4⟩ := hI.out.spots.spot hlt
      rw [hs] at q0 q1 q2 q3 q4
      unfold spOf at q0 q1 q2 q3 q4
      simp only at q0 q1 q2 q3 q4
      have hba := (Below.refl _ wr).alloc (Nat.le_refl _) (.cells #[.int .i64 (st zs k), .int .i64 (vR (nth zs (st zs k))), .int .i64 (vB (nth zs (st zs k))), .int .i64 (vT (nth zs (st zs k))), .bool (vF (nth zs (st zs k)))] 71)
      have hnx := hI.out.next hba
      have HC := Lib.hid (object_any A n c (some ⟨b5, off, none⟩) m c2 b 300 zs (st zs k) _ w.heap.size (HA.out.below hnx.below (Nat.le_refl _)) hnx.below.size (by omega) hnc hsn hst hnx.map)
      have h0 := hnx.hb.cell 0
      have h1 := hnx.hb.cell 1
      have h2 := hnx.hb.cell 2
      rw [show (#[.slice A n c, .slice (some ⟨b5, off, none⟩) m c2, .map (some b)] : Array Value)[0]? = some (.slice A n c) from rfl] at h0
      rw [show (#[.slice A n c, .slice (some ⟨b5, off, none⟩) m c2, .map (some b)] : Array Value)[1]? = some (.slice (some ⟨b5, off, none⟩) m c2) from rfl] at h1
      rw [show (#[.slice A n c, .slice (some ⟨b5, off, none⟩) m c2, .map (some b)] : Array Value)[2]? = some (.map (some b)) from rfl] at h2
      have HNX := Lib.hid hnx
      clear hba hnx hs hst hI
      obtain ⟨s, hse⟩ : ∃ s, st zs k = s := ⟨_, rfl⟩
      have HSE := Lib.hid hse
      rw [hse] at q0 q1 q2 q3 q4 HNX hsn HC h0 h1 h2
      clear hse
      generalize vR (nth zs s) = R at *
      generalize vB (nth zs s) = Bd at *
      generalize vT (nth zs s) = T at *
      generalize vF (nth zs s) = F at *
      by_cases heq : (s : Int) = a
      · have HQ := Lib.hid heq
        have hbq : ((s : Int) == a) = true := by simpa using heq
        clear heq
        go_wp2_with fail
        refine HC.out.mono ?_
        rintro e w4 ⟨r, rfl, b4, hV⟩
        have hN := HNX.out.next b4
        have HV := Lib.hid hV
        have hlo : w.heap.size < (wr.alloc (.cells #[.int .i64 s, .int .i64 R, .int .i64 Bd, .int .i64 T, .bool F] 71)).heap.size := HNX.out.res.lt
        have HLO := Lib.hid hlo
        have d0 : w4.cell? ⟨w.heap.size, 0, none⟩ = some (.int .i64 0) := hN.res.cell 0
        have d1 : w4.cell? ⟨w.heap.size, 1, none⟩ = some (.slice none 0 0) := hN.res.cell 1
        have d2 : w4.cell? ⟨w.heap.size, 2, none⟩ = some (.slice none 0 0) := hN.res.cell 2
        have d3 : w4.cell? ⟨w.heap.size, 3, none⟩ = some (.bool false) := hN.res.cell 3
        have s0 := hN.res.soft 0
        have s1 := hN.res.soft 1
        have s2 := hN.res.soft 2
        have s3 := hN.res.soft 3
        have HN := Lib.hid hN
        clear b4 hV hN HC HNX q0 q1 q2 q3 q4 h0 h1 h2 hlo
        unfold rawV
        go_wp2
        have BY := (HN.out.res).set4 (.int .i64 r.t) (.slice r.ra r.rn r.rc) (.slice r.ba r.bn r.bc) (.bool r.f)
        have BB := below_set4 (HN.out.below) (g := w.heap.size) (by omega) 0 1 2 3 (.int .i64 r.t) (.slice r.ra r.rn r.rc) (.slice r.ba r.bn r.bc) (.bool r.f)
        have OV := HV.out.setOther4 (g := w.heap.size) HLO.out 0 1 2 3 (.int .i64 r.t) (.slice r.ra r.rn r.rc) (.slice r.ba r.bn r.bc) (.bool r.f)
        have hs9 : ((((w4.setCell ⟨w.heap.size, 0, none⟩ (.int .i64 r.t)).setCell ⟨w.heap.size, 1, none⟩ (.slice r.ra r.rn r.rc)).setCell ⟨w.heap.size, 2, none⟩ (.slice r.ba r.bn r.bc)).setCell ⟨w.heap.size, 3, none⟩ (.bool r.f)).heap.size = w4.heap.size := by simp [World.setCell]
        generalize ((((w4.setCell ⟨w.heap.size, 0, none⟩ (.int .i64 r.t)).setCell ⟨w.heap.size, 1, none⟩ (.slice r.ra r.rn r.rc)).setCell ⟨w.heap.size, 2, none⟩ (.slice r.ba r.bn r.bc)).setCell ⟨w.heap.size, 3, none⟩ (.bool r.f)) = W9 at *
        have x0 : W9.cell? ⟨w.heap.size, 0, none⟩ = some (.int .i64 r.t) := BY.cell 0
        have x1 : W9.cell? ⟨w.heap.size, 1, none⟩ = some (.slice r.ra r.rn r.rc) := BY.cell 1
        have x2 : W9.cell? ⟨w.heap.size, 2, none⟩ = some (.slice r.ba r.bn r.bc) := BY.cell 2
        have x3 : W9.cell? ⟨w.heap.size, 3, none⟩ = some (.bool r.f) := BY.cell 3
        refine bodyPost_ret (v := .tuple #[.agg #[.int .i64 r.t, .slice r.ra r.rn r.rc, .slice r.ba r.bn r.bc, .bool r.f], .int .i64 0]) (by simp [results, Try.results46, go_sem, x0, x1, x2, x3]) rfl ⟨BB, .inr (.inl ⟨H0.out, k, by rw [HM.out]; exact hlt, by rw [HSE.out]; exact HQ.out.symm, r, rfl, by rw [HSE.out, hs9]; exact OV.less (Nat.le_of_lt HLO.out)⟩)⟩
      · have HQ := Lib.hid heq
        have hbq : ((s : Int) == a) = false := by simpa using heq
        have HPn : Hid (∀ j, j < k + 1 → a ≠ st zs j) := fun j hj => by
          rcases Nat.lt_succ_iff_lt_or_eq.1 hj with h | h
          · exact HP.out j h
          · rw [h, HSE.out]; exact fun e => HQ.out e.symm
        clear heq HC h0 h1 h2
        go_wp2
        go_roundw
        case rel => exact ⟨k + 1, by omega, by go_num, HPn, HNX⟩
        case measure => simp [intOf]; omega
    · obtain rfl : k = m := by omega
      have d0 : wr.cell? ⟨w.heap.size, 0, none⟩ = some (.int .i64 0) := hI.out.res.cell 0
      have d1 : wr.cell? ⟨w.heap.size, 1, none⟩ = some (.slice none 0 0) := hI.out.res.cell 1
      have d2 : wr.cell? ⟨w.heap.size, 2, none⟩ = some (.slice none 0 0) := hI.out.res.cell 2
      have d3 : wr.cell? ⟨w.heap.size, 3, none⟩ = some (.bool false) := hI.out.res.cell 3
      have s0 := hI.out.res.soft 0
      have s1 := hI.out.res.soft 1
      have s2 := hI.out.res.soft 2
      have s3 := hI.out.res.soft 3
      go_wp2
      have BY := (hI.out.res).set4 (.int .i64 0) (.slice none 0 0) (.slice none 0 0) (.bool false)
      have BB := below_set4 (hI.out.below) (g := w.heap.size) (by omega) 0 1 2 3 (.int .i64 0) (.slice none 0 0) (.slice none 0 0) (.bool false)
      generalize ((((wr.setCell ⟨w.heap.size, 0, none⟩ (.int .i64 0)).setCell ⟨w.heap.size, 1, none⟩ (.slice none 0 0)).setCell ⟨w.heap.size, 2, none⟩ (.slice none 0 0)).setCell ⟨w.heap.size, 3, none⟩ (.bool false)) = W9 at *
      have x0 : W9.cell? ⟨w.heap.size, 0, none⟩ = some (.int .i64 0) := BY.cell 0
      have x1 : W9.cell? ⟨w.heap.size, 1, none⟩ = some (.slice none 0 0) := BY.cell 1
      have x2 : W9.cell? ⟨w.heap.size, 2, none⟩ = some (.slice none 0 0) := BY.cell 2
      have x3 : W9.cell? ⟨w.heap.size, 3, none⟩ = some (.bool false) := BY.cell 3
      refine bodyPost_ret (v := .tuple #[.agg #[.int .i64 0, .slice none 0 0, .slice none 0 0, .bool false], .int .i64 5]) (by simp [results, Try.results46, go_sem, x0, x1, x2, x3]) rfl ⟨BB, .inr (.inr ⟨H0.out, by rw [HM.out]; exact HP.out, rfl⟩)⟩

theorem At_any (A : Option Addr) (n c : Nat) (a : Int) (zs : List Int) (w : World) (hn : n ≤ maxLen) (hnc : n ≤ c) (ha : Arr .u64 w w.heap.size A n zs) :
    Calls Try.prog 46 #[.slice A n c, .int .i64 a] w (AtP zs a w) := by
  by_cases h : arErr zs = 0
  · exact at_good A n c a zs w hnc ha h
  · exact at_bad A n c a zs w hn hnc ha h


theorem Own.lessTC {k : IntKind} {e : TypeId} {w : World} {base base' : Nat} {v : Value} {xs : List Int} (h : Own k e w base v xs) (hb : base' ≤ base) : Own k e w base' v xs := by
  obtain ⟨⟨hl, h2⟩, hw⟩ := h
  refine ⟨⟨hl, h2.imp id ?_⟩, hw⟩
  rintro ⟨g', cap, cur, hv, hg, r⟩
  exact ⟨g', cap, cur, hv, Nat.le_trans hb hg, r⟩
set_option maxRecDepth 8000 in
set_option maxHeartbeats 2000000 in
theorem keepBeginsO_any (A : Option Addr) (n c : Nat) (zs : List Int) (w : World) (hn : n ≤ maxLen) (ha : Arr .u64 w w.heap.size A n zs) (h : spErr zs = 0) :
    Calls Try.prog 20 #[.slice A n c] w fun e w' => ∃ A' c', e = .returned (.slice A' (livesI zs).length c') ∧ Below w.heap.size w w' ∧ (livesI zs).length ≤ c' ∧ Own .i64 3 w' w.heap.size (.slice A' (livesI zs).length c') (livesI zs) := by
  obtain ⟨h256, hfine⟩ := spErr_zero h
  have hl := ha.1
  have hL := spList_ok h
  have hbl := begins_len (zs := zs) (a := 0)
  have hlen : (spList zs).length = (begins zs 0).length := by rw [hL]; simp
  obtain ⟨m, hm⟩ : ∃ m, (begins zs 0).length = m := ⟨_, rfl⟩
  rw [hm] at hlen hbl
  have hspot : ∀ k, k < m → nthG (spList zs) k = spOf zs (st zs k) ∧ st zs k < n := fun k hk => by
    have h1 := begins_mem (st_mem (zs := zs) (k := k) (by omega))
    exact ⟨by rw [hL, nthG_map _ _ _ (by omega)]; rfl, by omega⟩
  have HSP := Lib.hid (Spots_any A n c zs w hn ha)
  have HS := Lib.hid hspot
  have HM := Lib.hid hm
  clear ha h hfine hL hspot hm
  go_enter Try.func20, Try.ntmps20
  go_wp2_with fail
  refine HSP.out.mono ?_
  rintro e w1 ⟨A2, c2, rfl, b1, hc2, hA2, hi2⟩
  rw [hlen] at hA2 hc2 hi2 ⊢
  have HB1 := Lib.hid b1
  have HA2 := Lib.hid hA2
  clear b1 HSP hA2 hc2 hi2
  generalize spErr zs = E at *
  go_wp2_with fail
  go_loopw [5, 15] (fun v i wr => ∃ k : Nat, k ≤ m ∧ i = .int .i64 k ∧ Hid (Own .i64 3 wr w1.heap.size v (liveTo zs k)) ∧ Hid (Below w1.heap.size w1 wr)) (fun _ i _ => m - (intOf i).toNat)
  case atStart => exact ⟨0, Nat.zero_le _, rfl, Own.nil, Below.refl _ _⟩
  case round =>
    obtain ⟨k, hk, rfl, HO, HBk⟩ := hrel
    by_cases hlt : k < m
    · obtain ⟨hs, hsn⟩ := HS.out k hlt
      have hkb : k < (begins zs 0).length := by rw [HM.out]; exact hlt
      obtain ⟨b, off, rfl, _, q0, q1, q2, q3, q4⟩ := (HA2.out.below HBk.out (Nat.le_refl _)).spot hlt
      rw [hs] at q0 q1 q2 q3 q4
      unfold spOf at q0 q1 q2 q3 q4
      simp only at q0 q1 q2 q3 q4
      have hll := liveTo_len (zs := zs) k
      cases hf : vF (nth zs (st zs k))
      · rw [hf] at q4
        have hba := (Below.refl _ wr).alloc (Nat.le_refl _) (.cells #[.int .i64 (st zs k), .int .i64 (vR (nth zs (st zs k))), .int .i64 (vB (nth zs (st zs k))), .int .i64 (vT (nth zs (st zs k))), .bool false] 71)
        have hO2 := HO.out.below hba
        have hb2 := HBk.out.trans (hba.mono HBk.out.size)
        obtain ⟨v', w5, hrun, hO', hB'⟩ := hO2.push (P := Try.prog) (t := 23) (ty := 23) Try.underlying23 intI_info (by omega) (x := (st zs k : Int)) (wf_i64.2 (by omega)) (by omega) hb2.size
        rw [← liveTo_yes hkb hf] at hO'
        have HO5 := Lib.hid hO'
        have HB5 := Lib.hid (hb2.trans hB')
        rw [show (wr.alloc (.cells #[.int .i64 (st zs k), .int .i64 (vR (nth zs (st zs k))), .int .i64 (vB (nth zs (st zs k))), .int .i64 (vT (nth zs (st zs k))), .bool false] 71)).heap.size = wr.heap.size + 1 by simp] at hrun
        have HRN := Lib.hid hrun
        clear hrun hO' hB' hO2 hb2 hba HO HBk hf hs hkb hll
        generalize vR (nth zs (st zs k)) = R at *
        generalize vB (nth zs (st zs k)) = Bd at *
        generalize vT (nth zs (st zs k)) = T at *
        generalize st zs k = s at *
        go_wp2_with (at_builtin; refine wpList_append_run rfl (.tmp 23) (.tmp 26) 23 rfl rfl rfl HRN.out ?_)
        go_roundw
        case rel => exact ⟨k + 1, by omega, by go_num, HO5.out, HB5.out⟩
        case measure => simp [intOf]; omega
      · rw [hf] at q4
        have hba := (Below.refl _ wr).alloc (Nat.le_refl _) (.cells #[.int .i64 (st zs k), .int .i64 (vR (nth zs (st zs k))), .int .i64 (vB (nth zs (st zs k))), .int .i64 (vT (nth zs (st zs k))), .bool true] 71)
        have hO2 := HO.out.below hba
        rw [← liveTo_no hkb hf] at hO2
        have HO5 := Lib.hid hO2
        have HB5 := Lib.hid (HBk.out.trans (hba.mono HBk.out.size))
        clear hO2 hba HO HBk hf hs hkb hll
        generalize vR (nth zs (st zs k)) = R at *
        generalize vB (nth zs (st zs k)) = Bd at *
        generalize vT (nth zs (st zs k)) = T at *
        generalize st zs k = s at *
        go_wp2
        go_roundw
        case rel => exact ⟨k + 1, by omega, by go_num, HO5.out, HB5.out⟩
        case measure => simp [intOf]; omega
    · obtain rfl : k = m := by omega
      have HL : Hid (liveTo zs k = livesI zs) := Lib.hid (by rw [← HM.out]; exact liveTo_all)
      rw [HL.out] at HO
      obtain ⟨A', c', hv9, hc9, _⟩ := HO.out.arr
      subst hv9
      have HA' := Lib.hid (HO.out.lessTC HB1.out.size)
      have HC9 := Lib.hid hc9
      have HBE := Lib.hid (HB1.out.trans (HBk.out.mono HB1.out.size))
      clear hc9 HO HL HBk
      obtain ⟨q, hq⟩ : ∃ q, (livesI zs).length = q := ⟨_, rfl⟩
      rw [hq] at HA' HC9 ⊢
      have HQ := Lib.hid hq
      clear hq
      go_wp2
      go_ret
      exact ⟨A', c', by rw [HQ.out]; rfl, HBE.out, by rw [HQ.out]; exact HC9.out, by rw [HQ.out]; exact HA'.out⟩
theorem keepBegins_any (A : Option Addr) (n c : Nat) (zs : List Int) (w : World) (hn : n ≤ maxLen) (ha : Arr .u64 w w.heap.size A n zs) (h : spErr zs = 0) :
    Calls Try.prog 20 #[.slice A n c] w fun e w' => ∃ A' c', e = .returned (.slice A' (livesI zs).length c') ∧ Below w.heap.size w w' ∧ Arr .i64 w' w'.heap.size A' (livesI zs).length (livesI zs) :=
  (keepBeginsO_any A n c zs w hn ha h).mono fun _ _ ⟨A', c', h1, h2, _, h3⟩ => ⟨A', c', h1, h2, by
    obtain ⟨A9, c9, hv, _, hA⟩ := h3.arr
    injection hv with e1 _ _
    rw [e1]; exact hA⟩

/-- All of a list is in another. -/
def inAll (l all : List Int) : Bool := !l.any fun x => !decide (x ∈ all)
theorem inAll_true {l all : List Int} (h : ∀ x ∈ l, x ∈ all) : inAll l all = true := by
  unfold inAll
  rw [Bool.not_eq_true', List.any_eq_false]
  intro x hx
  simp [h x hx]
theorem inAll_iff {l all : List Int} : inAll l all = true ↔ ∀ x ∈ l, x ∈ all := by
  constructor
  · intro h x hx
    unfold inAll at h
    rw [Bool.not_eq_true', List.any_eq_false] at h
    simpa using h x hx
  · exact inAll_true
set_option maxHeartbeats 400000 in
theorem keepWithin_any (A A' : Option Addr) (n c n' c' : Nat) (xs ys : List Int) (w : World) (hn : n ≤ maxLen) (hn' : n' ≤ maxLen) (hx : Arr .i64 w w.heap.size A n xs) (hy : Arr .i64 w w.heap.size A' n' ys) :
    Calls Try.prog 22 #[.slice A n c, .slice A' n' c'] w fun e w' => e = .returned (.bool (inAll xs ys)) ∧ Below w.heap.size w w' := by
  have b0 := (Below.refl _ w).alloc (Nat.le_refl _) (.cells #[.slice A' n' c'] 23)
  have BX := Box.new w 23 #[.slice A' n' c']
  have hF : ∀ x wx, Below (w.alloc (.cells #[.slice A' n' c'] 23)).heap.size (w.alloc (.cells #[.slice A' n' c'] 23)) wx → Calls Try.prog 45 (#[.int .i64 x] ++ #[.pointer (some ⟨w.heap.size, 0, none⟩)]) wx (fun e w' => e = .returned (.bool (!decide (x ∈ ys))) ∧ Below wx.heap.size wx w') := by
    intro x wx hb
    have hyx := (hy.below b0 (Nat.le_refl _)).below hb b0.size
    have HC := Lib.hid (containsR_any A' n' c' _ x ys wx hn' hyx)
    have d0 : wx.cell? ⟨w.heap.size, 0, none⟩ = some (.slice A' n' c') := (BX.below hb BX.lt).cell 0
    clear hyx hb
    generalize decide (x ∈ ys) = V at *
    show Calls Try.prog 45 #[.int .i64 x, .pointer (some ⟨w.heap.size, 0, none⟩)] wx _
    go_enter Try.func45, Try.ntmps45
    go_wp2_with fail
    refine HC.out.mono ?_
    rintro e w' ⟨rfl, rfl⟩
    go_wp2
    go_ret
    exact ⟨rfl, Below.refl _ _⟩
  have HI := Lib.hid (containsFnR A n c 45 #[.pointer (some ⟨w.heap.size, 0, none⟩)] (fun x => !decide (x ∈ ys)) xs _ hn ((hx.below b0 (Nat.le_refl _)).more b0.size) Try.call45 hF)
  have HB0 := Lib.hid b0
  have HV : Hid ((!xs.any fun x => !decide (x ∈ ys)) = inAll xs ys) := rfl
  clear hF hx hy BX b0
  generalize (xs.any fun x => !decide (x ∈ ys)) = V at *
  go_enter Try.func22, Try.ntmps22
  go_wp2_with fail
  refine HI.out.mono ?_
  rintro e w' ⟨rfl, hb⟩
  have HB := Lib.hid (HB0.out.trans (hb.mono HB0.out.size))
  clear hb HI
  go_wp2
  go_ret
  exact ⟨by rw [← HV.out]; rfl, HB.out⟩

/-- What the references of an object name, the empty ones left out. -/
def namesOf (zs : List Int) (s : Nat) : List Int := (named zs s).filter fun x => decide (0 ≤ x)
theorem nth_refs {zs : List Int} {t k : Nat} (hk : k < (refWords zs t).length) : nth (refWords zs t) k = nth zs (t + 1 + k) := by
  rw [nth_get _ _ hk]
  unfold refWords at hk ⊢
  rw [List.getElem_take, List.getElem_drop]
  exact (nth_get _ _ _).symm

set_option maxRecDepth 8000 in
set_option maxHeartbeats 2000000 in
theorem refsAt_any (A : Option Addr) (n c : Nat) (zs : List Int) (w : World) (hn : n ≤ maxLen) (hnc : n ≤ c) (ha : Arr .u64 w w.heap.size A n zs) (h : arErr zs = 0) {t : Nat} (ht : (t : Int) ∈ livesI zs) :
    Calls Try.prog 23 #[.slice A n c, .int .i64 t] w fun e w' => ∃ A' c', e = .returned (.slice A' (namesOf zs t).length c') ∧ Below w.heap.size w w' ∧ Arr .i64 w' w'.heap.size A' (namesOf zs t).length (namesOf zs t) := by
  have h256 := arena_len h
  have hl := ha.1
  obtain ⟨t', e', ht1, ht2, ht3, ht4, ht5, ht6, ht7, ht8, ht9⟩ := live_facts ha.2.1 ht
  obtain rfl : t' = t := by omega
  clear e'
  have hst := (begins_mem ht8).2.2
  obtain ⟨R, Bd, hR, hBd, f1, f2, f3, f4, f5, f6, f7, f8⟩ := spot_facts hst ha.2.1 (by omega)
  have hrl := refWords_len hst
  rw [hR, Int.toNat_natCast] at hrl
  have HAT := Lib.hid (At_any A n c (t' : Int) zs w hn hnc ha)
  have HA := Lib.hid ha
  have HE := Lib.hid h
  have HRL := Lib.hid hrl
  have HBE := Lib.hid ht8
  have HWF : Hid (∀ k, k < R → nth zs (t' + 1 + k) = 0 ∨ (1 ≤ nth zs (t' + 1 + k) ∧ nth zs (t' + 1 + k) ≤ 256)) := fun k hk => by
    have := refs_named ha.2.1 h ht (k := k) (by rw [hrl]; exact hk)
    rw [nth_refs (by rw [hrl]; exact hk)] at this
    exact this.imp id fun h => ⟨h.1, h.2.1⟩
  have HST : Hid (∀ k, k < R → ((named zs t').take (k + 1)).filter (fun x => decide (0 ≤ x)) = ((named zs t').take k).filter (fun x => decide (0 ≤ x)) ++ (if decide (0 ≤ nm (nth zs (t' + 1 + k))) = true then [nm (nth zs (t' + 1 + k))] else [])) := fun k hk => by
    rw [named_take (by rw [hrl]; exact hk), filter_snoc, nth_refs (by rw [hrl]; exact hk)]
  have hRn : t' + 1 + R ≤ n := by omega
  clear ha h ht hn ht2 ht3 ht4 ht5 ht6 ht7 ht8 ht9 hst f1 f2 f3 f4 f5 f6 f7 f8 hR hBd hrl
  go_enter Try.func23, Try.ntmps23
  go_wp2_with fail
  refine HAT.out.mono ?_
  rintro e w1 ⟨b1, hcase⟩
  rcases hcase with ⟨h0, _⟩ | ⟨_, j, hj, he, r, rfl, hV⟩ | ⟨_, hno, _⟩
  · exact absurd HE.out h0
  · have hst : st zs j = t' := by omega
    rw [hst] at hV
    have hrn : r.rn = R := by
      rw [← hV.refs.1]
      show ((refWords zs t').map _).length = R
      rw [List.length_map, HRL.out]
    unfold rawV
    rw [hrn]
    have HB1 := Lib.hid (b1.alloc b1.size (.cells #[.int .i64 r.t, .slice r.ra R r.rc, .slice r.ba r.bn r.bc, .bool r.f] 73))
    clear hV hj he hst hrn b1 HAT
    obtain ⟨rt, ra, rn, rc, ba, bn, bc, rf⟩ := r
    simp only at HB1 ⊢
    go_wp2_with fail
    generalize (w1.alloc (.cells #[.int .i64 rt, .slice ra R rc, .slice ba bn bc, .bool rf] 73)) = W1 at *
    go_loopw [7, 20] (fun v i wr => ∃ k : Nat, k ≤ R ∧ i = .int .i64 k ∧ Hid (Own .i64 3 wr w.heap.size v (((named zs t').take k).filter fun x => decide (0 ≤ x))) ∧ Hid (Below w.heap.size w wr)) (fun _ i _ => R - (intOf i).toNat)
    case atStart => exact ⟨0, Nat.zero_le _, rfl, Own.nil, HB1.out⟩
    case round =>
      obtain ⟨k, hk, rfl, HO, HBk⟩ := hrel
      clear HB1
      by_cases hlt : k < R
      · obtain ⟨b, off, rfl, _, hcs⟩ := (HA.out.below HBk.out (Nat.le_refl _)).2.2 (by omega)
        have hc := hcs (t' + 1 + k) (by omega)
        have hX := HWF.out k hlt
        have HTK := Lib.hid (HST.out k hlt)
        have hfl : (((named zs t').take k).filter fun x => decide (0 ≤ x)).length ≤ 256 := Nat.le_trans (List.length_filter_le _ _) (by rw [List.length_take]; omega)
        clear hcs
        generalize nth zs (t' + 1 + k) = X at *
        have q1 : (t' : Int) + 1 + (k : Int) < (n : Int) := by omega
        have q2 : ((t' : Int) + 1 + (k : Int)).toNat = t' + 1 + k := by omega
        rcases hX with rfl | ⟨x1, x2⟩
        · have hT := HTK.out
          rw [if_neg (by decide), List.append_nil] at hT
          have hO6 := HO.out
          rw [← hT] at hO6
          have HO5 := Lib.hid hO6
          clear hT hO6 HO HTK
          go_wp2
          go_roundw
          case rel => exact ⟨k + 1, by omega, by go_num, HO5.out, HBk.out⟩
          case measure => simp [intOf]; omega
        · have hn1 : nm X = X - 1 := by unfold nm; rw [if_neg (by omega)]
          have hT := HTK.out
          rw [hn1, if_pos (by simp; omega)] at hT
          obtain ⟨v', w5, hrun, hO', hB'⟩ := HO.out.push (P := Try.prog) (t := 23) (ty := 23) Try.underlying23 intI_info (by omega) (x := X - 1) (wf_i64.2 (by omega)) (by omega) HBk.out.size
          rw [← hT] at hO'
          have HRN := Lib.hid hrun
          have HO5 := Lib.hid hO'
          have HB5 := Lib.hid (HBk.out.trans hB')
          have e1 : IntKind.i64.wrap X = X := IntWalk.i64_in _ (by omega)
          have e2 : IntKind.i64.wrap (X - 1) = X - 1 := IntWalk.i64_in _ (by omega)
          have g1 : (0 : Int) < X := by omega
          clear hrun hO' hB' HO HBk HTK hT hn1
          go_wp2_with (at_builtin; refine wpList_append_run rfl (.tmp 50) (.tmp 60) 23 rfl rfl rfl HRN.out ?_)
          go_roundw
          case rel => exact ⟨k + 1, by omega, by go_num, HO5.out, HB5.out⟩
          case measure => simp [intOf]; omega
      · obtain rfl : k = R := by omega
        have HL : Hid (((named zs t').take k).filter (fun x => decide (0 ≤ x)) = namesOf zs t') := by
          show _ = _
          rw [List.take_of_length_le (by unfold named; rw [List.length_map, HRL.out]; exact Nat.le_refl _)]; rfl
        rw [HL.out] at HO
        obtain ⟨A', c', rfl, _, hA'⟩ := HO.out.arr
        have HA' := Lib.hid hA'
        clear hA' HO HL
        obtain ⟨q, hq⟩ : ∃ q, (namesOf zs t').length = q := ⟨_, rfl⟩
        rw [hq] at HA' ⊢
        have HQ := Lib.hid hq
        clear hq
        go_wp2
        go_ret
        exact ⟨A', c', by rw [HQ.out]; rfl, HBk.out, by rw [HQ.out]; exact HA'.out⟩
  · exfalso
    obtain ⟨j, hj, e⟩ := mem_begins HBE.out
    exact hno j hj (by rw [e])

theorem small_step : stepOk [1, 1] 0 = true := by decide
theorem small_long : sLong (nth [1, 1] 0) = 2 := by decide
theorem small_begins : begins [1, 1] 0 = [0] := by rw [begins_step (by decide) small_step, small_long, begins_end (by decide)]
theorem small_fine : fine [1, 1] 0 = true := by rw [fine_step (by decide) small_step, small_long]; exact fine_end (by decide)
theorem small_free : vF (nth [1, 1] 0) = false := by decide
theorem small_lives : livesI [1, 1] = [0] := by unfold livesI; rw [small_begins]; decide
theorem small_named : named [1, 1] 0 = [0] := by decide
theorem small_wf : ∀ z ∈ ([1, 1] : List Int), (Lit.int .u64 z).wf = true := by decide
theorem small_arena : arErr [1, 1] = 0 := by
  refine arErr_ok (spErr_ok (by decide) small_fine) ((refsOk_iff small_wf (by decide)).2 fun s hs _ x hx => ?_)
  rw [small_begins] at hs
  rw [List.mem_singleton.1 hs, small_named] at hx
  rw [small_lives]
  exact .inr hx
theorem small_from : fromE [1, 1] [0] = 0 := fromE_ok small_arena (by rw [small_lives]; simp)
theorem small_takes : takesN [1, 1] [0] = 2 := by
  have h0 : (0 : Int) ∈ reachL [1, 1] [0] := (reachL_mem small_wf small_from).2 (.base (by simp))
  unfold takesN
  rw [cnt_congr (g := fun _ => true) (b := 0) _ fun k hk => coversN_iff.2 ⟨0, List.mem_map.2 ⟨0, h0, rfl⟩, by omega, by
    have h1 : longN [1, 1] 0 = 2 := small_long
    have h2 : k < 2 := hk
    omega⟩, cnt_true]
  rfl
set_option maxHeartbeats 400000 in
theorem small_any (w : World) : Calls Try.prog 42 #[] w fun e w' => e = .returned (.slice (some ⟨w.heap.size, 0, none⟩) 2 2) ∧ w.alloc (.cells #[.int .u64 1, .int .u64 1] 76) = w' := by
  go_enter Try.func42, Try.ntmps42
  go_wp2
  go_ret
  exact ⟨rfl, rfl⟩
theorem Arr.later {k : IntKind} {w w' : World} {A : Option Addr} {n : Nat} {zs : List Int} (h : Arr k w w.heap.size A n zs) (hb : Below w.heap.size w w') : Arr k w' w'.heap.size A n zs := (h.below hb (Nat.le_refl _)).more hb.size
theorem bthen {w w1 w2 : World} (h : Below w.heap.size w w1) (h' : Below w1.heap.size w1 w2) : Below w.heap.size w w2 := h.trans (h'.mono h.size)
section
variable {zs fr : List Int}
theorem names_in (hz : ∀ z ∈ zs, (Lit.int .u64 z).wf = true) (h : fromE zs fr = 0) {t : Nat} (ht : (t : Int) ∈ reachL zs fr) : inAll (namesOf zs t) (reachL zs fr) = true := inAll_true fun y hy => by
  obtain ⟨h1, h2⟩ := List.mem_filter.1 hy
  rw [reachL_mem hz h] at ht ⊢
  exact .step ht (by unfold nxOf; rw [Int.toNat_natCast]; exact h1) (by simpa using h2)
theorem from_in (hz : ∀ z ∈ zs, (Lit.int .u64 z).wf = true) (h : fromE zs fr = 0) : inAll fr (reachL zs fr) = true := inAll_true fun y hy => by
  rw [reachL_mem hz h]; exact .base hy
end

end Go.Proofs.Ytdglnbcliemafaa
