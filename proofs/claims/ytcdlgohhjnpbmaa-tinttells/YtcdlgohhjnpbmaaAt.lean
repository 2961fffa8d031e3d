/-
  Contract of walk.At, for every argument.
-/
import Derived.Test.YtcdlgohhjnpbmaaObjects
namespace Go.Proofs.Ytcdlgohhjnpbmaa
open Go.RowKit

/-- What At answers. -/
def AtP (zs : List Int) (a : Int) (w : World) (e : Ending) (w' : World) : Prop := Below w.heap.size w w' ∧
  ((arErr zs ≠ 0 ∧ e = .returned (.tuple #[rawV zeroRaw, .int .i64 (arErr zs)])) ∨
   (arErr zs = 0 ∧ ∃ j, j < (begins zs 0).length ∧ a = st zs j ∧ ∃ r, e = .returned (.tuple #[rawV r, .int .i64 0]) ∧ ObV w' w.heap.size w'.heap.size r (obOf zs (st zs j))) ∨
   (arErr zs = 0 ∧ (∀ j, j < (begins zs 0).length → a ≠ st zs j) ∧ e = .returned (.tuple #[rawV zeroRaw, .int .i64 5])))

set_option maxHeartbeats 400000 in
theorem at_bad (A : Option Addr) (n c : Nat) (a : Int) (zs : List Int) (w : World) (hn : n ≤ maxLen) (hnc : n ≤ c) (ha : Arr .u64 w w.heap.size A n zs) (h : arErr zs ≠ 0) :
    Calls Try.prog 76 #[.slice A n c, .int .i64 a] w (AtP zs a w) := by
  have hb : (arErr zs != 0) = true := by simpa using h
  have b0 := (Below.refl _ w).alloc (Nat.le_refl _) (.cells #[.int .i64 0, .slice none 0 0, .slice none 0 0, .bool false] 104)
  have HR := Lib.hid (Read_any A n c zs _ hn hnc ((ha.below b0 (Nat.le_refl _)).more b0.size))
  have H0 := Lib.hid h
  clear ha hn h b0
  go_enter Try.func76, Try.ntmps76
  go_wp2_with fail
  refine HR.out.mono ?_
  rintro e w1 ⟨b1, h⟩
  obtain ⟨bx, b1⟩ := boxed_call b1
  have HB := Lib.hid b1
  clear b1 HR
  rcases h with ⟨h0, rfl⟩ | ⟨h0, _⟩
  · clear h0
    have bx2 := bx.alloc (.cells #[.slice none 0 0, .slice none 0 0, .map none] 124)
    have BB := Lib.hid (HB.out.alloc HB.out.size (.cells #[.slice none 0 0, .slice none 0 0, .map none] 124))
    have BX := Lib.hid bx2
    have d0 := bx2.cell 0
    have d1 := bx2.cell 1
    have d2 := bx2.cell 2
    have d3 := bx2.cell 3
    have s0 := bx2.soft 0
    have s1 := bx2.soft 1
    have s2 := bx2.soft 2
    have s3 := bx2.soft 3
    clear bx bx2
    go_wp2_with fail
    generalize (w1.alloc (.cells #[.slice none 0 0, .slice none 0 0, .map none] 124)) = W at *
    have BY := (BX.out).set4 (.int .i64 0) (.slice none 0 0) (.slice none 0 0) (.bool false)
    have BB := below_set4 (BB.out) (g := w.heap.size) (by omega) 0 1 2 3 (.int .i64 0) (.slice none 0 0) (.slice none 0 0) (.bool false)
    generalize ((((W.setCell ⟨w.heap.size, 0, none⟩ (.int .i64 0)).setCell ⟨w.heap.size, 1, none⟩ (.slice none 0 0)).setCell ⟨w.heap.size, 2, none⟩ (.slice none 0 0)).setCell ⟨w.heap.size, 3, none⟩ (.bool false)) = W9 at *
    have x0 : W9.cell? ⟨w.heap.size, 0, none⟩ = some (.int .i64 0) := BY.cell 0
    have x1 : W9.cell? ⟨w.heap.size, 1, none⟩ = some (.slice none 0 0) := BY.cell 1
    have x2 : W9.cell? ⟨w.heap.size, 2, none⟩ = some (.slice none 0 0) := BY.cell 2
    have x3 : W9.cell? ⟨w.heap.size, 3, none⟩ = some (.bool false) := BY.cell 3
    refine bodyPost_ret (v := .tuple #[.agg #[.int .i64 0, .slice none 0 0, .slice none 0 0, .bool false], .int .i64 (arErr zs)]) (by simp [results, Try.results76, go_sem, x0, x1, x2, x3]) rfl ⟨BB, .inl ⟨H0.out, rfl⟩⟩
  · exact absurd h0 H0.out

/-- What holds while At goes over the spots. -/
structure AtI (zs : List Int) (w : World) (A : Option Addr) (n c : Nat) (A2 : Option Addr) (m c2 b gh : Nat) (wr : World) : Prop where
  res : Box wr w.heap.size 104 #[.int .i64 0, .slice none 0 0, .slice none 0 0, .bool false]
  hb : Box wr gh 124 #[.slice A n c, .slice A2 m c2, .map (some b)]
  spots : ArrG spotC 5 wr gh A2 m (spList zs)
  map : MapF Try.prog .u64 .i64 44 3 wr b 300 (ixOf zs)
  below : Below w.heap.size w wr
theorem AtI.next {zs : List Int} {w : World} {A : Option Addr} {n c : Nat} {A2 : Option Addr} {m c2 b gh : Nat} {wr wr' : World} (h : AtI zs w A n c A2 m c2 b gh wr) (hb : Below wr.heap.size wr wr') : AtI zs w A n c A2 m c2 b gh wr' :=
  ⟨h.res.below hb h.res.lt, h.hb.below hb h.hb.lt, h.spots.below hb (Nat.le_of_lt h.hb.lt), h.map.below hb h.map.lt, h.below.trans (hb.mono h.below.size)⟩

set_option maxRecDepth 8000 in
set_option maxHeartbeats 4000000 in
theorem at_good (A : Option Addr) (n c : Nat) (a : Int) (zs : List Int) (w : World) (hnc : n ≤ c) (ha : Arr .u64 w w.heap.size A n zs) (h : arErr zs = 0) :
    Calls Try.prog 76 #[.slice A n c, .int .i64 a] w (AtP zs a w) := by
  obtain ⟨hsp, hrf⟩ := arErr_zero h
  obtain ⟨h256, hfine⟩ := spErr_zero hsp
  have hl := ha.1
  have hL := spList_ok hsp
  have hbl := begins_len (zs := zs) (a := 0)
  have b0 := (Below.refl _ w).alloc (Nat.le_refl _) (.cells #[.int .i64 0, .slice none 0 0, .slice none 0 0, .bool false] 104)
  have HR := Lib.hid (Read_any A n c zs _ (by unfold maxLen; omega) hnc ((ha.below b0 (Nat.le_refl _)).more b0.size))
  obtain ⟨m, hm⟩ : ∃ m, (begins zs 0).length = m := ⟨_, rfl⟩
  rw [hm] at hbl
  have hspot : ∀ k, k < m → nthG (spList zs) k = spOf zs (st zs k) ∧ st zs k < n ∧ stepOk zs (st zs k) = true := fun k hk => by
    have h1 := begins_mem (st_mem (zs := zs) (k := k) (by omega))
    exact ⟨by rw [hL, nthG_map _ _ _ (by omega)]; rfl, by omega, h1.2.2⟩
  have HS := Lib.hid hspot
  have HM := Lib.hid hm
  have H0 := Lib.hid h
  have HA := Lib.hid ha
  clear hspot hm h ha hsp hrf hfine hL b0
  go_enter Try.func76, Try.ntmps76
  go_wp2_with fail
  refine HR.out.mono ?_
  rintro e w1 ⟨b1, h⟩
  obtain ⟨bx, b1⟩ := boxed_call b1
  have HB := Lib.hid b1
  clear b1 HR
  rcases h with ⟨h0, _⟩ | ⟨_, A2, c2, b, rfl, hc2, hA2, hi2, hb2, hM⟩
  · exact absurd H0.out h0
  rw [HM.out] at hA2 hi2 ⊢
  have ba := (Below.refl _ w1).alloc (Nat.le_refl _) (.cells #[.slice A n c, .slice A2 m c2, .map (some b)] 124)
  have hI : AtI zs w A n c A2 m c2 b w1.heap.size (w1.alloc (.cells #[.slice A n c, .slice A2 m c2, .map (some b)] 124)) :=
    ⟨bx.alloc _, Box.new _ _ _, hA2.below ba (Nat.le_refl _), hM.alloc _, HB.out.alloc HB.out.size _⟩
  have HI := Lib.hid hI
  clear hI hM hA2 hi2 hb2 hc2 ba bx
  go_wp2_with fail
  obtain ⟨gh, hgh⟩ : ∃ g, w1.heap.size = g := ⟨_, rfl⟩
  rw [hgh] at HI ⊢
  generalize (w1.alloc (.cells #[.slice A n c, .slice A2 m c2, .map (some b)] 124)) = W at *
  go_loopw [22] (fun i wr => ∃ (k : Nat), k ≤ m ∧ i = .int .i64 k ∧ Hid (∀ j, j < k → a ≠ st zs j) ∧ Hid (AtI zs w A n c A2 m c2 b gh wr)) (fun i _ => m - (intOf i).toNat)
  case atStart => exact ⟨0, by omega, rfl, (fun j hj => absurd hj (by omega)), HI⟩
  case round =>
    obtain ⟨k, hk, rfl, HP, hI⟩ := hrel
    clear HI
    by_cases hlt : k < m
    · obtain ⟨hs, hsn, hst⟩ := HS.out k hlt
      obtain ⟨b5, off, rfl, _, q0, q1, q2, q3, q4⟩ := hI.out.spots.spot hlt
      rw [hs] at q0 q1 q2 q3 q4
      unfold spOf at q0 q1 q2 q3 q4
      simp only at q0 q1 q2 q3 q4
      have hba := (Below.refl _ wr).alloc (Nat.le_refl _) (.cells #[.int .i64 (st zs k), .int .i64 (vR (nth zs (st zs k))), .int .i64 (vB (nth zs (st zs k))), .int .i64 (vT (nth zs (st zs k))), .bool (vF (nth zs (st zs k)))] 112)
      have hnx := hI.out.next hba
      have HC := Lib.hid (object_any A n c (some ⟨b5, off, none⟩) m c2 b 300 zs (st zs k) _ w.heap.size (HA.out.below hnx.below (Nat.le_refl _)) hnx.below.size (by omega) hnc hsn hst hnx.map)
      have h0 := hnx.hb.cell 0
      have h1 := hnx.hb.cell 1
      have h2 := hnx.hb.cell 2
      rw [show (#[.slice A n c, .slice (some ⟨b5, off, none⟩) m c2, .map (some b)] : Array Value)[0]? = some (.slice A n c) from rfl] at h0
      rw [show (#[.slice A n c, .slice (some ⟨b5, off, none⟩) m c2, .map (some b)] : Array Value)[1]? = some (.slice (some ⟨b5, off, none⟩) m c2) from rfl] at h1
      rw [show (#[.slice A n c, .slice (some ⟨b5, off, none⟩) m c2, .map (some b)] : Array Value)[2]? = some (.map (some b)) from rfl] at h2
      have HNX := Lib.hid hnx
      clear hba hnx hs hst hI
      obtain ⟨s, hse⟩ : ∃ s, st zs k = s := ⟨_, rfl⟩
      have HSE := Lib.hid hse
      rw [hse] at q0 q1 q2 q3 q4 HNX hsn HC h0 h1 h2
      clear hse
      generalize vR (nth zs s) = R at *
      generalize vB (nth zs s) = Bd at *
      generalize vT (nth zs s) = T at *
      generalize vF (nth zs s) = F at *
      by_cases heq : (s : Int) = a
      · have HQ := Lib.hid heq
        have hbq : ((s : Int) == a) = true := by simpa using heq
        clear heq
        go_wp2_with fail
        refine HC.out.mono ?_
        rintro e w4 ⟨r, rfl, b4, hV⟩
        have hN := HNX.out.next b4
        have HV := Lib.hid hV
        have hlo : w.heap.size < (wr.alloc (.cells #[.int .i64 s, .int .i64 R, .int .i64 Bd, .int .i64 T, .bool F] 112)).heap.size := HNX.out.res.lt
        have HLO := Lib.hid hlo
        have d0 : w4.cell? ⟨w.heap.size, 0, none⟩ = some (.int .i64 0) := hN.res.cell 0
        have d1 : w4.cell? ⟨w.heap.size, 1, none⟩ = some (.slice none 0 0) := hN.res.cell 1
        have d2 : w4.cell? ⟨w.heap.size, 2, none⟩ = some (.slice none 0 0) := hN.res.cell 2
        have d3 : w4.cell? ⟨w.heap.size, 3, none⟩ = some (.bool false) := hN.res.cell 3
        have s0 := hN.res.soft 0
        have s1 := hN.res.soft 1
        have s2 := hN.res.soft 2
        have s3 := hN.res.soft 3
        have HN := Lib.hid hN
        clear b4 hV hN HC HNX q0 q1 q2 q3 q4 h0 h1 h2 hlo
        unfold rawV
        go_wp2
        have BY := (HN.out.res).set4 (.int .i64 r.t) (.slice r.ra r.rn r.rc) (.slice r.ba r.bn r.bc) (.bool r.f)
        have BB := below_set4 (HN.out.below) (g := w.heap.size) (by omega) 0 1 2 3 (.int .i64 r.t) (.slice r.ra r.rn r.rc) (.slice r.ba r.bn r.bc) (.bool r.f)
        have OV := HV.out.setOther4 (g := w.heap.size) HLO.out 0 1 2 3 (.int .i64 r.t) (.slice r.ra r.rn r.rc) (.slice r.ba r.bn r.bc) (.bool r.f)
        have hs9 : ((((w4.setCell ⟨w.heap.size, 0, none⟩ (.int .i64 r.t)).setCell ⟨w.heap.size, 1, none⟩ (.slice r.ra r.rn r.rc)).setCell ⟨w.heap.size, 2, none⟩ (.slice r.ba r.bn r.bc)).setCell ⟨w.heap.size, 3, none⟩ (.bool r.f)).heap.size = w4.heap.size := by simp [World.setCell]
        generalize ((((w4.setCell ⟨w.heap.size, 0, none⟩ (.int .i64 r.t)).setCell ⟨w.heap.size, 1, none⟩ (.slice r.ra r.rn r.rc)).setCell ⟨w.heap.size, 2, none⟩ (.slice r.ba r.bn r.bc)).setCell ⟨w.heap.size, 3, none⟩ (.bool r.f)) = W9 at *
        have x0 : W9.cell? ⟨w.heap.size, 0, none⟩ = some (.int .i64 r.t) := BY.cell 0
        have x1 : W9.cell? ⟨w.heap.size, 1, none⟩ = some (.slice r.ra r.rn r.rc) := BY.cell 1
        have x2 : W9.cell? ⟨w.heap.size, 2, none⟩ = some (.slice r.ba r.bn r.bc) := BY.cell 2
        have x3 : W9.cell? ⟨w.heap.size, 3, none⟩ = some (.bool r.f) := BY.cell 3
        refine bodyPost_ret (v := .tuple #[.agg #[.int .i64 r.t, .slice r.ra r.rn r.rc, .slice r.ba r.bn r.bc, .bool r.f], .int .i64 0]) (by simp [results, Try.results76, go_sem, x0, x1, x2, x3]) rfl ⟨BB, .inr (.inl ⟨H0.out, k, by rw [HM.out]; exact hlt, by rw [HSE.out]; exact HQ.out.symm, r, rfl, by rw [HSE.out, hs9]; exact OV.less (Nat.le_of_lt HLO.out)⟩)⟩
      · have HQ := Lib.hid heq
        have hbq : ((s : Int) == a) = false := by simpa using heq
        have HPn : Hid (∀ j, j < k + 1 → a ≠ st zs j) := fun j hj => by
          rcases Nat.lt_succ_iff_lt_or_eq.1 hj with h | h
          · exact HP.out j h
          · rw [h, HSE.out]; exact fun e => HQ.out e.symm
        clear heq HC h0 h1 h2
        go_wp2
        go_roundw
        case rel => exact ⟨k + 1, by omega, by go_num, HPn, HNX⟩
        case measure => simp [intOf]; omega
    · obtain rfl : k = m := by omega
      have d0 : wr.cell? ⟨w.heap.size, 0, none⟩ = some (.int .i64 0) := hI.out.res.cell 0
      have d1 : wr.cell? ⟨w.heap.size, 1, none⟩ = some (.slice none 0 0) := hI.out.res.cell 1
      have d2 : wr.cell? ⟨w.heap.size, 2, none⟩ = some (.slice none 0 0) := hI.out.res.cell 2
      have d3 : wr.cell? ⟨w.heap.size, 3, none⟩ = some (.bool false) := hI.out.res.cell 3
      have s0 := hI.out.res.soft 0
      have s1 := hI.out.res.soft 1
      have s2 := hI.out.res.soft 2
      have s3 := hI.out.res.soft 3
      go_wp2
      have BY := (hI.out.res).set4 (.int .i64 0) (.slice none 0 0) (.slice none 0 0) (.bool false)
      have BB := below_set4 (hI.out.below) (g := w.heap.size) (by omega) 0 1 2 3 (.int .i64 0) (.slice none 0 0) (.slice none 0 0) (.bool false)
      generalize ((((wr.setCell ⟨w.heap.size, 0, none⟩ (.int .i64 0)).setCell ⟨w.heap.size, 1, none⟩ (.slice none 0 0)).setCell ⟨w.heap.size, 2, none⟩ (.slice none 0 0)).setCell ⟨w.heap.size, 3, none⟩ (.bool false)) = W9 at *
      have x0 : W9.cell? ⟨w.heap.size, 0, none⟩ = some (.int .i64 0) := BY.cell 0
      have x1 : W9.cell? ⟨w.heap.size, 1, none⟩ = some (.slice none 0 0) := BY.cell 1
      have x2 : W9.cell? ⟨w.heap.size, 2, none⟩ = some (.slice none 0 0) := BY.cell 2
      have x3 : W9.cell? ⟨w.heap.size, 3, none⟩ = some (.bool false) := BY.cell 3
      refine bodyPost_ret (v := .tuple #[.agg #[.int .i64 0, .slice none 0 0, .slice none 0 0, .bool false], .int .i64 5]) (by simp [results, Try.results76, go_sem, x0, x1, x2, x3]) rfl ⟨BB, .inr (.inr ⟨H0.out, by rw [HM.out]; exact HP.out, rfl⟩)⟩

theorem At_any (A : Option Addr) (n c : Nat) (a : Int) (zs : List Int) (w : World) (hn : n ≤ maxLen) (hnc : n ≤ c) (ha : Arr .u64 w w.heap.size A n zs) :
    Calls Try.prog 76 #[.slice A n c, .int .i64 a] w (AtP zs a w) := by
  by_cases h : arErr zs = 0
  · exact at_good A n c a zs w hnc ha h
  · exact at_bad A n c a zs w hn hnc ha h
end Go.Proofs.Ytcdlgohhjnpbmaa
