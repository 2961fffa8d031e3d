/-
  Contracts of package walk's Check, Objects and At, for every argument.
-/
import Derived.Test.YtggjgcnmkkoheaaObjOwn
import Derived.Test.YtggjgcnmkkoheaaObject
namespace Go.Proofs.Ytggjgcnmkkoheaa
open Go.RowKit

theorem obj_info : (Try.prog.info? 68).map (fun i => (i.zero, i.size, i.bytes)) = some (some (.agg #[.int .i64 0, .slice none 0 0, .slice none 0 0, .bool false]), 4, 64) := by kernel_rfl

theorem Read_any (A : Option Addr) (n c : Nat) (zs : List Int) (w : World) (hn : n ≤ maxLen) (hnc : n ≤ c) (ha : Arr .u64 w w.heap.size A n zs) :
    Calls Try.prog 69 #[.slice A n c] w (ReadP A n c zs w) := by
  by_cases h : spErr zs = 0
  · exact read_good A n c zs w hnc ha h
  · exact read_bad1 A n c zs w hn ha h

set_option maxHeartbeats 400000 in
theorem Check_any (A : Option Addr) (n c : Nat) (zs : List Int) (w : World) (hn : n ≤ maxLen) (hnc : n ≤ c) (ha : Arr .u64 w w.heap.size A n zs) :
    Calls Try.prog 36 #[.slice A n c] w fun e w' => e = .returned (.int .i64 (arErr zs)) ∧ Below w.heap.size w w' := by
  have HR := Lib.hid (Read_any A n c zs w hn hnc ha)
  clear ha hn
  go_enter Try.func36, Try.ntmps36
  go_wp2_with fail
  refine HR.out.mono ?_
  rintro e w1 ⟨b1, h⟩
  have HB := Lib.hid b1
  clear b1 HR
  rcases h with ⟨h0, rfl⟩ | ⟨h0, A2, c2, b, rfl, _⟩
  · clear h0
    go_wp2
    go_ret
    exact ⟨rfl, HB.out.alloc HB.out.size _⟩
  · have H0 := Lib.hid h0
    clear h0
    go_wp2
    go_ret
    exact ⟨by rw [H0.out]; rfl, HB.out.alloc HB.out.size _⟩

/-- The descriptions of an arena's objects. -/
def obsOf (zs : List Int) : List Ob := (begins zs 0).map (obOf zs)
/-- What Objects answers. -/
def ObjectsP (zs : List Int) (w : World) (e : Ending) (w' : World) : Prop := ∃ A k c, e = .returned (.tuple #[.slice A k c, .int .i64 (arErr zs)]) ∧ Below w.heap.size w w' ∧ k ≤ c ∧
  ((arErr zs ≠ 0 ∧ k = 0) ∨ (arErr zs = 0 ∧ k = (begins zs 0).length ∧ ∃ raws : List Raw, ArrG rawC 4 w' w'.heap.size A k raws ∧ ∀ j, j < k → ObV w' w.heap.size w'.heap.size (nthG raws j) (obOf zs (st zs j))))

set_option maxHeartbeats 400000 in
theorem objects_bad (A : Option Addr) (n c : Nat) (zs : List Int) (w : World) (hn : n ≤ maxLen) (hnc : n ≤ c) (ha : Arr .u64 w w.heap.size A n zs) (h : arErr zs ≠ 0) :
    Calls Try.prog 54 #[.slice A n c] w (ObjectsP zs w) := by
  have HR := Lib.hid (Read_any A n c zs w hn hnc ha)
  have hb : (arErr zs != 0) = true := by simpa using h
  have H0 := Lib.hid h
  clear ha hn h
  go_enter Try.func54, Try.ntmps54
  go_wp2_with fail
  refine HR.out.mono ?_
  rintro e w1 ⟨b1, h⟩
  have HB := Lib.hid b1
  clear b1 HR
  rcases h with ⟨h0, rfl⟩ | ⟨h0, _⟩
  · clear h0
    go_wp2
    go_ret2
    exact ⟨_, _, _, rfl, HB.out.alloc HB.out.size _, Nat.le_refl _, .inl ⟨H0.out, rfl⟩⟩
  · exact absurd h0 H0.out

/-- What holds while Objects goes over the spots. -/
structure ObsI (zs : List Int) (w : World) (A : Option Addr) (n c : Nat) (A2 : Option Addr) (m c2 b gh g k : Nat) (raws : List Raw) (wr : World) : Prop where
  hb : Box wr gh 104 #[.slice A n c, .slice A2 m c2, .map (some b)]
  own : OwnG rawC 4 68 wr g (.slice (some ⟨g, 0, none⟩) m m) raws
  len : raws.length = m
  obs : ∀ j, j < k → ObV wr (g + 1) wr.heap.size (nthG raws j) (obOf zs (st zs j))
  spots : ArrG spotC 5 wr gh A2 m (spList zs)
  map : MapF Try.prog .u64 .i64 42 3 wr b 300 (ixOf zs)
  below : Below w.heap.size w wr
  o1 : w.heap.size ≤ gh
  o2 : b < gh
  o3 : gh < g
  o4 : g < wr.heap.size
theorem nthG_put_same {α : Type} [Inhabited α] (l : List α) (j : Nat) (a : α) (h : j < l.length) : nthG (l.set j a) j = a := by rw [nthG_get _ _ (by simpa using h)]; simp
theorem nthG_put_other {α : Type} [Inhabited α] (l : List α) {i j : Nat} (a : α) (h : i ≠ j) : nthG (l.set i a) j = nthG l j := by unfold nthG; simp [List.getD, List.getElem?_set_ne h]
section
variable {zs : List Int} {w : World} {A : Option Addr} {n c : Nat} {A2 : Option Addr} {m c2 b gh g k : Nat} {raws : List Raw} {wr wr' : World}
theorem ObsI.next (h : ObsI zs w A n c A2 m c2 b gh g k raws wr) (hb : Below wr.heap.size wr wr') : ObsI zs w A n c A2 m c2 b gh g k raws wr' :=
  ⟨h.hb.below hb h.hb.lt, h.own.below hb, h.len, fun j hj => ((h.obs j hj).below hb (Nat.le_refl _)).more hb.size, h.spots.below hb (Nat.le_of_lt h.hb.lt), h.map.below hb h.map.lt, h.below.trans (hb.mono h.below.size), h.o1, h.o2, h.o3, Nat.lt_of_lt_of_le h.o4 hb.size⟩
theorem ObsI.store (h : ObsI zs w A n c A2 m c2 b gh g k raws wr) (hk : k < m) {r : Raw} (hr : ObV wr (g + 1) wr.heap.size r (obOf zs (st zs k))) :
    ObsI zs w A n c A2 m c2 b gh g (k + 1) (raws.set k r) ((((wr.setCell ⟨g, k * 4, none⟩ (.int .i64 r.t)).setCell ⟨g, k * 4 + 1, none⟩ (.slice r.ra r.rn r.rc)).setCell ⟨g, k * 4 + 2, none⟩ (.slice r.ba r.bn r.bc)).setCell ⟨g, k * 4 + 3, none⟩ (.bool r.f)) := by
  have hs : ((((wr.setCell ⟨g, k * 4, none⟩ (.int .i64 r.t)).setCell ⟨g, k * 4 + 1, none⟩ (.slice r.ra r.rn r.rc)).setCell ⟨g, k * 4 + 2, none⟩ (.slice r.ba r.bn r.bc)).setCell ⟨g, k * 4 + 3, none⟩ (.bool r.f)).heap.size = wr.heap.size := by simp [World.setCell]
  have hb : Below g wr ((((wr.setCell ⟨g, k * 4, none⟩ (.int .i64 r.t)).setCell ⟨g, k * 4 + 1, none⟩ (.slice r.ra r.rn r.rc)).setCell ⟨g, k * 4 + 2, none⟩ (.slice r.ba r.bn r.bc)).setCell ⟨g, k * 4 + 3, none⟩ (.bool r.f)) := below_set4 (Below.refl _ _) (Nat.le_refl _) _ _ _ _ _ _ _ _
  have hl := h.len
  have o1 := h.o1
  have o2 := h.o2
  have o3 := h.o3
  refine ⟨h.hb.below hb h.o3, h.own.put4 k r (by omega), by simpa using h.len, fun j hj => ?_, h.spots.below hb (by omega), h.map.below hb (by omega), h.below.trans (hb.mono (by omega)), h.o1, h.o2, h.o3, by rw [hs]; exact h.o4⟩
  rw [hs]
  rcases Nat.lt_succ_iff_lt_or_eq.1 hj with hj | hj
  · rw [nthG_put_other _ _ (by omega)]
    exact (h.obs j hj).setOther4 (by omega) _ _ _ _ _ _ _ _
  · subst hj
    rw [nthG_put_same _ _ _ (by omega)]
    exact hr.setOther4 (by omega) _ _ _ _ _ _ _ _
end

set_option maxRecDepth 8000 in
set_option maxHeartbeats 4000000 in
theorem objects_good (A : Option Addr) (n c : Nat) (zs : List Int) (w : World) (hnc : n ≤ c) (ha : Arr .u64 w w.heap.size A n zs) (h : arErr zs = 0) :
    Calls Try.prog 54 #[.slice A n c] w (ObjectsP zs w) := by
  obtain ⟨hsp, hrf⟩ := arErr_zero h
  obtain ⟨h256, hfine⟩ := spErr_zero hsp
  have hl := ha.1
  have hL := spList_ok hsp
  have hbl := begins_len (zs := zs) (a := 0)
  have HR := Lib.hid (Read_any A n c zs w (by unfold maxLen; omega) hnc ha)
  obtain ⟨m, hm⟩ : ∃ m, (begins zs 0).length = m := ⟨_, rfl⟩
  rw [hm] at hbl
  have hspot : ∀ k, k < m → nthG (spList zs) k = spOf zs (st zs k) ∧ st zs k < n ∧ stepOk zs (st zs k) = true := fun k hk => by
    have h1 := begins_mem (st_mem (zs := zs) (k := k) (by omega))
    exact ⟨by rw [hL, nthG_map _ _ _ (by omega)]; rfl, by omega, h1.2.2⟩
  have HS := Lib.hid hspot
  have HM := Lib.hid hm
  have H0 := Lib.hid h
  have HA := Lib.hid ha
  clear hspot hm h ha hsp hrf hfine hL
  go_enter Try.func54, Try.ntmps54
  go_wp2_with fail
  refine HR.out.mono ?_
  rintro e w1 ⟨b1, h⟩
  have HB := Lib.hid b1
  clear b1 HR
  rcases h with ⟨h0, _⟩ | ⟨_, A2, c2, b, rfl, hc2, hA2, hi2, hb2, hM⟩
  · exact absurd H0.out h0
  rw [HM.out] at hA2 hi2 ⊢
  have HM2 := Lib.hid hM
  have HA2 := Lib.hid hA2
  clear hM hA2 hi2 hb2 hc2
  have n1 := Box.new w1 104 #[.slice A n c, .slice A2 m c2, .map (some b)]
  have ba := (Below.refl _ w1).alloc (Nat.le_refl _) (.cells #[.slice A n c, .slice A2 m c2, .map (some b)] 104)
  obtain ⟨w2, hmk, hO2, hb2, hlt2⟩ := run_make_raws (P := Try.prog) (t := 84) Try.underlying84 obj_info (by omega) m (by omega) (w1.alloc (.cells #[.slice A n c, .slice A2 m c2, .map (some b)] 104))
  have bx2 := n1.below hb2 n1.lt
  have hI : ObsI zs w A n c A2 m c2 b w1.heap.size (w1.alloc (.cells #[.slice A n c, .slice A2 m c2, .map (some b)] 104)).heap.size 0 (List.replicate m zeroRaw) w2 :=
    ⟨bx2, hO2, by simp, fun j hj => absurd hj (by omega), HA2.out.below (ba.trans (hb2.mono ba.size)) (Nat.le_refl _), HM2.out.below (ba.trans (hb2.mono ba.size)) HM2.out.lt, HB.out.trans ((ba.trans (hb2.mono ba.size)).mono HB.out.size), HB.out.size, HM2.out.lt, n1.lt, hlt2⟩
  have hsz : (w1.alloc (.cells #[.slice A n c, .slice A2 m c2, .map (some b)] 104)).heap.size = w1.heap.size + 1 := by simp
  rw [hsz] at hI hmk
  have h0 : w2.cell? ⟨w1.heap.size, 0, none⟩ = some (.slice A n c) := bx2.cell 0
  have h1 : w2.cell? ⟨w1.heap.size, 1, none⟩ = some (.slice A2 m c2) := bx2.cell 1
  have h2 : w2.cell? ⟨w1.heap.size, 2, none⟩ = some (.map (some b)) := bx2.cell 2
  have HI := Lib.hid hI
  clear hI n1 ba hO2 hb2 hlt2 bx2 hsz HM2 HA2
  go_wp2_with fail
  obtain ⟨gh, hgh⟩ : ∃ g, w1.heap.size = g := ⟨_, rfl⟩
  rw [hgh] at HI ⊢
  clear h0 h1 h2 hmk
  go_loopw [24] (fun i wr => ∃ (k : Nat) (raws : List Raw), k ≤ m ∧ i = .int .i64 k ∧ Hid (ObsI zs w A n c A2 m c2 b gh (gh + 1) k raws wr)) (fun i _ => m - (intOf i).toNat)
  case atStart => exact ⟨0, _, by omega, rfl, HI⟩
  case round =>
    obtain ⟨k, raws, hk, rfl, hI⟩ := hrel
    clear HI
    by_cases hlt : k < m
    · obtain ⟨hs, hsn, hst⟩ := HS.out k hlt
      obtain ⟨b5, off, rfl, _, q0, q1, q2, q3, q4⟩ := hI.out.spots.spot hlt
      rw [hs] at q0 q1 q2 q3 q4
      unfold spOf at q0 q1 q2 q3 q4
      simp only at q0 q1 q2 q3 q4
      have hba := (Below.refl _ wr).alloc (Nat.le_refl _) (.cells #[.int .i64 (st zs k), .int .i64 (vR (nth zs (st zs k))), .int .i64 (vB (nth zs (st zs k))), .int .i64 (vT (nth zs (st zs k))), .bool (vF (nth zs (st zs k)))] 47)
      have hnx := hI.out.next hba
      have HC := Lib.hid (object_any A n c (some ⟨b5, off, none⟩) m c2 b 300 zs (st zs k) _ w.heap.size (HA.out.below hnx.below (Nat.le_refl _)) hnx.below.size (by omega) hnc hsn hst hnx.map)
      have h0 := hnx.hb.cell 0
      have h1 := hnx.hb.cell 1
      have h2 := hnx.hb.cell 2
      rw [show (#[.slice A n c, .slice (some ⟨b5, off, none⟩) m c2, .map (some b)] : Array Value)[0]? = some (.slice A n c) from rfl] at h0
      rw [show (#[.slice A n c, .slice (some ⟨b5, off, none⟩) m c2, .map (some b)] : Array Value)[1]? = some (.slice (some ⟨b5, off, none⟩) m c2) from rfl] at h1
      rw [show (#[.slice A n c, .slice (some ⟨b5, off, none⟩) m c2, .map (some b)] : Array Value)[2]? = some (.map (some b)) from rfl] at h2
      have HNX := Lib.hid hnx
      clear hba hnx hs hst hI
      obtain ⟨s, hse⟩ : ∃ s, st zs k = s := ⟨_, rfl⟩
      have HSE := Lib.hid hse
      rw [hse] at q0 q1 q2 q3 q4 HNX hsn HC h0 h1 h2
      clear hse
      generalize vR (nth zs s) = R at *
      generalize vB (nth zs s) = Bd at *
      generalize vT (nth zs s) = T at *
      generalize vF (nth zs s) = F at *
      go_wp2_with fail
      refine HC.out.mono ?_
      rintro e w4 ⟨r, rfl, b4, hV⟩
      have hN := HNX.out.next b4
      have hV' : ObV w4 (gh + 1 + 1) w4.heap.size r (obOf zs (st zs k)) := by rw [HSE.out]; exact hV.less (by have := HNX.out.o4; omega)
      have HN := Lib.hid (hN.store hlt hV')
      obtain ⟨⟨d0, d1, d2, d3⟩, hfz⟩ := hN.own.cells4 (j := k) (by rw [hN.len]; exact hlt)
      have z0 : w4.frozen? ⟨gh + 1, k * 4, none⟩ = false := hfz 0 (by omega)
      have z1 := hfz 1 (by omega)
      have z2 := hfz 2 (by omega)
      have z3 := hfz 3 (by omega)
      clear b4 hV hN hV' HC HNX q0 q1 q2 q3 q4 h0 h1 h2 hfz
      unfold rawV
      generalize (nthG raws k).t = t0 at *
      generalize (nthG raws k).f = t1 at *
      go_wp2
      go_roundw
      case rel => exact ⟨k + 1, _, by omega, by go_num, HN⟩
      case measure => simp [intOf]; omega
    · obtain rfl : k = m := by omega
      go_wp2
      go_ret2
      have hs := hI.out.o4
      refine ⟨_, _, _, by rw [H0.out]; rfl, hI.out.below, Nat.le_refl _, .inr ⟨H0.out, HM.out.symm, raws, ?_, fun j hj => (hI.out.obs j hj).less (by have := hI.out.o1; omega)⟩⟩
      obtain ⟨A9, c9, hv9, _, hA9⟩ := hI.out.own.arr rawC_len
      rw [hI.out.len] at hv9 hA9
      injection hv9 with e1 e2 e3
      rw [e1]
      exact hA9

theorem Objects_any (A : Option Addr) (n c : Nat) (zs : List Int) (w : World) (hn : n ≤ maxLen) (hnc : n ≤ c) (ha : Arr .u64 w w.heap.size A n zs) :
    Calls Try.prog 54 #[.slice A n c] w (ObjectsP zs w) := by
  by_cases h : arErr zs = 0
  · exact objects_good A n c zs w hnc ha h
  · exact objects_bad A n c zs w hn hnc ha h
end Go.Proofs.Ytggjgcnmkkoheaa
