/-
  Contracts of package plan's move, between, To, Gaps.
-/
import Derived.Test.YtknbbondofijeaaPlanB
import Derived.Test.YtknbbondofijeaaZeroG
import Derived.Test.YtknbbondofijeaaRunFn
namespace Go.Proofs.Ytknbbondofijeaa
open Go.RowKit

theorem planRun : (Try.prog.info? 73).map (fun i => (i.zero, i.size, i.bytes)) = some (some (.agg #[.int .i64 0, .int .i64 0]), 2, 16) := by kernel_rfl
/-- 'r' at place 'p' of a slice of ranges. -/
def putR2 (w : World) (g p : Nat) (x : Int × Int) : World := (w.setCell ⟨g, p * 2, none⟩ (.int .i64 x.1)).setCell ⟨g, p * 2 + 1, none⟩ (.int .i64 x.2)
section
variable {e : TypeId} {w w' : World} {base g n c : Nat} {l : List (Int × Int)}
theorem OwnG.oneR (h : OwnG runC 2 e w base (.slice (some ⟨g, 0, none⟩) n c) l) (j i : Nat) (a : Int × Int) (u : Value) (hj : j < l.length) (hi : i < 2) (he : runC a = (runC (nthG l j)).set i u) :
    OwnG runC 2 e (w.setCell ⟨g, j * 2 + i, none⟩ u) base (.slice (some ⟨g, 0, none⟩) n c) (l.set j a) := by
  obtain ⟨g', cap', hv, _, _, _, _, hs⟩ := h.form runC_len (by omega)
  injection hv with e1 e2 e3
  injection e1 with e1
  injection e1 with e1
  subst e1
  exact hs j i a u hj hi he
theorem OwnG.putR2 (h : OwnG runC 2 e w base (.slice (some ⟨g, 0, none⟩) n c) l) (p : Nat) (x : Int × Int) (hp : p < l.length) : OwnG runC 2 e (putR2 w g p x) base (.slice (some ⟨g, 0, none⟩) n c) (l.set p x) := by
  have s0 := h.oneR p 0 (x.1, (nthG l p).2) (.int .i64 x.1) hp (by omega) rfl
  have s1 := s0.oneR p 1 x (.int .i64 x.2) (by simpa using hp) (by omega) (by rw [nthG_set_same _ _ _ hp]; rfl)
  rw [List.set_set] at s1
  exact s1
theorem OwnG.atR (h : OwnG runC 2 e w base (.slice (some ⟨g, 0, none⟩) n c) l) {p : Nat} (hp : p < l.length) : base ≤ g ∧ g < w.heap.size ∧
    (w.cell? ⟨g, p * 2, none⟩ = some (.int .i64 (nthG l p).1) ∧ w.cell? ⟨g, p * 2 + 1, none⟩ = some (.int .i64 (nthG l p).2)) ∧ (w.frozen? ⟨g, p * 2, none⟩ = false ∧ w.frozen? ⟨g, p * 2 + 1, none⟩ = false) := by
  obtain ⟨g', cap, hv, _, hb, hlt, hc, _⟩ := h.form runC_len (by omega)
  injection hv with e1 e2 e3
  injection e1 with e1
  injection e1 with e1
  subst e1
  exact ⟨hb, hlt, ⟨(hc p hp 0 (by omega)).1, (hc p hp 1 (by omega)).1⟩, (hc p hp 0 (by omega)).2, (hc p hp 1 (by omega)).2⟩
theorem putR2_below {B : Nat} {a : World} (h : Below B a w) (hg : B ≤ g) (p : Nat) (x : Int × Int) : Below B a (putR2 w g p x) := below_set (below_set h hg _ _) hg _ _
end

/-- What is in the list of moved ranges when the first 'k' are. -/
def mvAt (zs ks ps : List Int) (n k : Nat) : List (Int × Int) := moveTo zs ks ps k ++ List.replicate (n - k) ((0, 0) : Int × Int)
section
variable {zs ks ps : List Int} {n k : Nat}
theorem mvAt_len (h : k ≤ n) : (mvAt zs ks ps n k).length = n := by unfold mvAt; rw [List.length_append, moveTo_len, List.length_replicate]; omega
theorem mvAt_zero : mvAt zs ks ps n 0 = List.replicate n (0, 0) := by unfold mvAt; simp [moveTo]
theorem mvAt_all : mvAt zs ks ps ks.length ks.length = moveL zs ks ps := by unfold mvAt; simp [moveL]
theorem mvAt_set (h : k < n) : (mvAt zs ks ps n k).set k (toN zs ks ps k, lgI zs (nth ks k)) = mvAt zs ks ps n (k + 1) := by
  unfold mvAt
  rw [moveTo_succ, List.set_append_right _ _ (by rw [moveTo_len]; exact Nat.le_refl _), moveTo_len, Nat.sub_self, show n - k = (n - (k + 1)) + 1 by omega, List.replicate_succ, List.set_cons_zero, List.append_assoc]
  rfl
end
/-- What move answers. -/
def PlanMvP (zs ks ps : List Int) (w : World) (e : Ending) (w' : World) : Prop := Below w.heap.size w w' ∧
  ((planE zs ks ps ≠ 0 ∧ e = .returned (.tuple #[.slice none 0 0, .int .i64 (planE zs ks ps)])) ∨
   (planE zs ks ps = 0 ∧ ∃ g, e = .returned (.tuple #[.slice (some ⟨g, 0, none⟩) ks.length ks.length, .int .i64 0]) ∧ OwnG runC 2 73 w' w.heap.size (.slice (some ⟨g, 0, none⟩) ks.length ks.length) (moveL zs ks ps)))
/-- What holds while it goes over what is kept. -/
structure MvI (zs ks ps : List Int) (w : World) (gm g k : Nat) (wr : World) : Prop where
  map : MapF Try.prog .i64 .i64 3 3 wr gm 300 (lgOf zs)
  own : OwnG runC 2 73 wr w.heap.size (.slice (some ⟨g, 0, none⟩) ks.length ks.length) (mvAt zs ks ps ks.length k)
  below : Below w.heap.size w wr
  apart : gm ≠ g
theorem MvI.put {zs ks ps : List Int} {w wr : World} {gm g k : Nat} (h : MvI zs ks ps w gm g k wr) (hk : k < ks.length) {T L : Int} (hT : toN zs ks ps k = T) (hL : lgI zs (nth ks k) = L) : MvI zs ks ps w gm g (k + 1) (putR2 wr g k (T, L)) := by
  have hlen := mvAt_len (zs := zs) (ks := ks) (ps := ps) (Nat.le_of_lt hk)
  have h1 := h.own.putR2 k (T, L) (by rw [hlen]; exact hk)
  rw [← hT, ← hL, mvAt_set hk, hT, hL] at h1
  exact ⟨(h.map.setOther h.apart.symm _ _).setOther h.apart.symm _ _, h1, putR2_below h.below (h.own.atR (p := k) (by rw [hlen]; exact hk)).1 k (T, L), h.apart⟩

set_option maxRecDepth 8000 in
set_option maxHeartbeats 4000000 in
theorem planMove_any (A K P : Option Addr) (n c nk ck np cp : Nat) (zs ks ps : List Int) (w : World) (hn : n ≤ maxLen) (hnc : n ≤ c) (ha : Arr .u64 w w.heap.size A n zs) (hnk : nk ≤ maxLen) (hk : Arr .i64 w w.heap.size K nk ks) (hnp : np ≤ maxLen) (hp : Arr .i64 w w.heap.size P np ps) :
    Calls Try.prog 71 #[.slice A n c, .slice K nk ck, .slice P np cp] w (PlanMvP zs ks ps w) := by
  have HM := Lib.hid (planMeasure_any A n c zs w hn hnc ha)
  have HK := Lib.hid hk
  have HP := Lib.hid hp
  have HI : Hid (∀ wx, Below w.heap.size w wx → Calls Try.prog 80 #[.slice K nk ck] wx fun e w' => e = .returned (.bool (riseB ks)) ∧ ∃ q, wx.drewN q = w') := fun wx hb => increasing_any K nk ck _ ks wx hnk (HK.out.below hb (Nat.le_refl _))
  have HJ : Hid (∀ wx, Below w.heap.size w wx → Calls Try.prog 80 #[.slice P np cp] wx fun e w' => e = .returned (.bool (riseB ps)) ∧ ∃ q, wx.drewN q = w') := fun wx hb => increasing_any P np cp _ ps wx hnp (HP.out.below hb (Nat.le_refl _))
  unfold PlanMvP
  clear ha hk hp
  go_enter Try.func71, Try.ntmps71
  go_wp2_with fail
  refine HM.out.mono ?_
  rintro e w1 ⟨b1, h⟩
  have HB1 := Lib.hid b1
  clear b1 HM
  rcases h with ⟨h0, rfl⟩ | ⟨h0, gm, rfl, hm⟩
  · have hea := (planE_arena (zs := zs) (ks := ks) (ps := ps) h0).symm
    rw [hea] at h0 ⊢
    clear hea
    obtain ⟨E, hE⟩ : ∃ E, planE zs ks ps = E := ⟨_, rfl⟩
    have HPE := Lib.hid hE
    rw [hE] at h0 ⊢
    clear hE
    have H0 := Lib.hid h0
    have hb : (E != 0) = true := by simpa using h0
    clear h0 HI HJ HK HP
    go_wp2
    go_ret2
    exact ⟨HB1.out, .inl ⟨by rw [HPE.out]; exact H0.out, by rw [HPE.out]; rfl⟩⟩
  · have H0 := Lib.hid h0
    have HMP := Lib.hid hm
    have HC1 := Lib.hid (HI.out w1 HB1.out)
    clear h0 hm HI
    cases hr1 : riseB ks
    · rw [hr1] at HC1
      have HE : Hid (planE zs ks ps = 3) := planE_form H0.out (by rw [hr1]; rfl)
      clear hr1 HJ HK HP
      go_wp2_with fail
      refine HC1.out.mono ?_
      rintro e w2 ⟨rfl, q, rfl⟩
      have HB2 : Hid (Below w.heap.size w (w1.drewN q)) := below_drewN HB1.out q
      go_wp2
      go_ret2
      exact ⟨HB2.out, .inl ⟨by rw [HE.out]; decide, by rw [HE.out]; rfl⟩⟩
    · rw [hr1] at HC1
      have HR1 := Lib.hid hr1
      clear hr1
      go_wp2_with fail
      refine HC1.out.mono ?_
      rintro e w2 ⟨rfl, q, hq⟩
      have HB2 : Hid (Below w.heap.size w w2) := by show Below _ _ _; rw [← hq]; exact below_drewN HB1.out q
      have HMP2 : Hid (MapF Try.prog .i64 .i64 3 3 w2 gm 300 (lgOf zs)) := by show MapF _ _ _ _ _ _ _ _ _; rw [← hq]; exact HMP.out.drewN q
      clear hq HB1 HMP HC1
      have HC2 := Lib.hid (HJ.out w2 HB2.out)
      clear HJ
      cases hr2 : riseB ps
      · rw [hr2] at HC2
        have HE : Hid (planE zs ks ps = 3) := planE_form H0.out (by rw [HR1.out, hr2]; rfl)
        clear hr2 HK HP
        go_wp2_with fail
        refine HC2.out.mono ?_
        rintro e w3 ⟨rfl, q, rfl⟩
        have HB3 : Hid (Below w.heap.size w (w2.drewN q)) := below_drewN HB2.out q
        go_wp2
        go_ret2
        exact ⟨HB3.out, .inl ⟨by rw [HE.out]; decide, by rw [HE.out]; rfl⟩⟩
      · rw [hr2] at HC2
        have HR : Hid ((riseB ks && riseB ps) = true) := by show _ = _; rw [HR1.out, hr2]; rfl
        have HRK := Lib.hid (riseB_iff.1 HR1.out)
        have HRP := Lib.hid (riseB_iff.1 hr2)
        clear hr2 HR1
        go_wp2_with fail
        refine HC2.out.mono ?_
        rintro e w3 ⟨rfl, q, hq⟩
        have HB3 : Hid (Below w.heap.size w w3) := by show Below _ _ _; rw [← hq]; exact below_drewN HB2.out q
        have HMP3 : Hid (MapF Try.prog .i64 .i64 3 3 w3 gm 300 (lgOf zs)) := by show MapF _ _ _ _ _ _ _ _ _; rw [← hq]; exact HMP2.out.drewN q
        clear hq HB2 HMP2 HC2
        have HC3 := Lib.hid (planHasAll_any K nk ck gm 300 zs ks w3 hnk ((HK.out.below HB3.out (Nat.le_refl _)).more HB3.out.size) HMP3.out)
        have HC4 := Lib.hid (planContainsAll_any K P nk ck np cp _ ks ps w3 hnk hnp (HK.out.below HB3.out (Nat.le_refl _)) (HP.out.below HB3.out (Nat.le_refl _)) HRK.out)
        cases hr3 : allIn zs ks
        · rw [hr3] at HC3
          have HE : Hid (planE zs ks ps = 5) := planE_none H0.out HR.out (by rw [hr3]; rfl)
          clear hr3 HK HP HC4
          go_wp2_with fail
          refine HC3.out.mono ?_
          rintro e w4 ⟨rfl, rfl⟩
          go_wp2
          go_ret2
          exact ⟨HB3.out, .inl ⟨by rw [HE.out]; decide, by rw [HE.out]; rfl⟩⟩
        · rw [hr3] at HC3
          have HR3 := Lib.hid hr3
          clear hr3
          go_wp2_with fail
          refine HC3.out.mono ?_
          rintro e w4 ⟨rfl, rfl⟩
          clear HC3
          cases hr4 : subB ks ps
          · rw [hr4] at HC4
            have HE : Hid (planE zs ks ps = 5) := planE_none H0.out HR.out (by rw [HR3.out, hr4]; rfl)
            clear hr4 HK HP
            go_wp2_with fail
            refine HC4.out.mono ?_
            rintro e w4 ⟨rfl, rfl⟩
            go_wp2
            go_ret2
            exact ⟨HB3.out, .inl ⟨by rw [HE.out]; decide, by rw [HE.out]; rfl⟩⟩
          · rw [hr4] at HC4
            have HE : Hid (planE zs ks ps = 0) := planE_ok H0.out HR.out (by rw [HR3.out, hr4]; rfl)
            have HOK := Lib.hid (planE_zero.1 HE.out)
            have hkl := HK.out.1
            have hk256 : nk ≤ 256 := by have := HOK.out.len; omega
            have hn256 := arena_len H0.out
            obtain ⟨w5, hrun, hO, hB⟩ := run_made_rows (P := Try.prog) (t := 60) runC_len (by omega) Try.underlying60 planRun (x0 := ((0, 0) : Int × Int)) rfl nk (by omega) (by unfold maxLen; omega) w3
            have HI5 : Hid (MvI zs ks ps w gm w3.heap.size 0 w5) := ⟨HMP3.out.below hB HMP3.out.lt, by rw [hkl, mvAt_zero]; exact hO.lessH HB3.out.size, HB3.out.trans (hB.mono HB3.out.size), by have := HMP3.out.lt; omega⟩
            clear hO hB hr4 HR3 HR HMP3
            go_wp2_with fail
            refine HC4.out.mono ?_
            rintro e w4 ⟨rfl, rfl⟩
            clear HC4
            obtain ⟨g, hg⟩ : ∃ g, w3.heap.size = g := ⟨_, rfl⟩
            rw [hg] at HI5 hrun
            clear hg
            go_wp2_with fail
            go_loopw [11, 46] (fun s i wr => ∃ k : Nat, k ≤ nk ∧ i = .int .i64 k ∧ s = .int .i64 (endN zs ks ps k) ∧ Hid (MvI zs ks ps w gm g k wr)) (fun _ i _ => nk - (intOf i).toNat)
            case atStart => exact ⟨0, Nat.zero_le _, rfl, rfl, HI5⟩
            case round =>
              obtain ⟨k, hkn, rfl, rfl, hI⟩ := hrel
              clear HI5 hrun HB3
              by_cases hlt : k < nk
              · have hb1 := hI.out.below
                obtain ⟨b, off, rfl, _, hcs⟩ := (HK.out.below hb1 (Nat.le_refl _)).2.2 (by omega)
                have hc := hcs k hlt
                have HCT := Lib.hid (planContains_any P np cp _ ps (nth ks k) wr hnp (HP.out.below hb1 (Nat.le_refl _)) HRP.out)
                have hlv := HOK.out.live (i := k) (by omega)
                have hto := HOK.out.to (i := k) (by omega)
                have hft := HOK.out.fits (i := k) (by omega)
                have hen := (HOK.out.ends k (by omega)).1
                have hes := HOK.out.live (i := k) (by omega)
                have hxw := HK.out.2.1 _ (nth_mem (l := ks) (j := k) (by omega))
                have hl1 := hI.out.map.look longT (x := nth ks k) hxw
                rw [lgOf_in hlv] at hl1
                have hES : Hid (endN zs ks ps (k + 1) = toN zs ks ps k + lgI zs (nth ks k)) := endN_succ
                obtain ⟨L, hL⟩ : ∃ L, lgI zs (nth ks k) = L := ⟨_, rfl⟩
                obtain ⟨T, hT⟩ : ∃ T, toN zs ks ps k = T := ⟨_, rfl⟩
                have HN := Lib.hid (hI.out.put (by omega) hT hL)
                have hl2 := HN.out.map.look longT (x := nth ks k) hxw
                rw [lgOf_in hlv, hL] at hl2
                rw [hL] at hl1 hft hES
                rw [hT] at hto hft hES
                have hTp := toN_pin (zs := zs) (ks := ks) (ps := ps) (i := k)
                have hTm := toN_move (zs := zs) (ks := ks) (ps := ps) (i := k)
                rw [hT] at hTp hTm
                obtain ⟨_, _, ⟨c0, c1⟩, f0, f1⟩ := hI.out.own.atR (p := k) (by rw [mvAt_len (by omega)]; omega)
                have e1 : wrap64 (T + L) = T + L := by unfold wrap64; omega
                unfold putR2 at hl2 HN
                simp only at hl2 HN
                clear hcs hlv hes hxw hL hT hb1 hI
                generalize (nthG (mvAt zs ks ps ks.length k) k).1 = O1 at *
                generalize (nthG (mvAt zs ks ps ks.length k) k).2 = O2 at *
                by_cases hin : nth ks k ∈ ps
                · rw [show decide (nth ks k ∈ ps) = true by simpa using hin] at HCT
                  have hx := hTp hin
                  clear hTp hTm hin
                  rw [hkl] at *
                  generalize nth ks k = X at *
                  subst hx
                  generalize endN zs ks ps k = En at *
                  go_wp2_with fail
                  refine HCT.out.mono ?_
                  rintro e w6 ⟨rfl, rfl⟩
                  go_wp2
                  go_roundw
                  case rel => exact ⟨k + 1, by omega, by go_num, by rw [hES.out], HN⟩
                  case measure => simp [intOf]; omega
                · rw [show decide (nth ks k ∈ ps) = false by simpa using hin] at HCT
                  have hx := hTm hin
                  clear hTp hTm hin
                  rw [hkl] at *
                  generalize nth ks k = X at *
                  generalize endN zs ks ps k = En at *
                  subst hx
                  go_wp2_with fail
                  refine HCT.out.mono ?_
                  rintro e w6 ⟨rfl, rfl⟩
                  go_wp2
                  go_roundw
                  case rel => exact ⟨k + 1, by omega, by go_num, by rw [hES.out], HN⟩
                  case measure => simp [intOf]; omega
              · obtain rfl : k = nk := by omega
                have HO := Lib.hid hI.out.own
                have HBB := Lib.hid hI.out.below
                rw [hkl] at HO
                have HAL := Lib.hid (mvAt_all (zs := zs) (ks := ks) (ps := ps))
                rw [hkl] at HAL
                rw [HAL.out] at HO
                clear hI HAL
                go_wp2
                go_ret2
                exact ⟨HBB.out, .inr ⟨HE.out, g, by rw [hkl]; rfl, by rw [hkl]; exact HO.out⟩⟩

/-- What between answers. -/
def BetwP (l : List (Int × Int)) (n : Int) (B : Nat) (w : World) (e : Ending) (w' : World) : Prop := ∃ v, e = .returned v ∧ OwnG runC 2 73 w' B v (betwL l n) ∧ Below B w w'
theorem gapsB_len {l : List (Int × Int)} : ∀ i, (gapsB l i).length ≤ i
  | 0 => Nat.zero_le _
  | i + 1 => by
    have := gapsB_len (l := l) i
    show (gapsB l i ++ _).length ≤ _
    rw [List.length_append]
    split
    · simp; omega
    · simp; omega
theorem gapsB_yes {l : List (Int × Int)} {i : Nat} (h : bEnd l i < (nthG l i).1) : gapsB l (i + 1) = gapsB l i ++ [(bEnd l i, (nthG l i).1 - bEnd l i)] := by
  show gapsB l i ++ _ = _
  rw [if_pos h]
theorem gapsB_no {l : List (Int × Int)} {i : Nat} (h : ¬ bEnd l i < (nthG l i).1) : gapsB l (i + 1) = gapsB l i := by
  show gapsB l i ++ _ = _
  rw [if_neg h, List.append_nil]
theorem bEnd_succ {l : List (Int × Int)} {i : Nat} : bEnd l (i + 1) = (nthG l i).1 + (nthG l i).2 := rfl
/-- Small numbers. -/
def SmallR (l : List (Int × Int)) : Prop := ∀ k, k < l.length → 0 ≤ (nthG l k).1 ∧ (nthG l k).1 ≤ 256 ∧ 0 ≤ (nthG l k).2 ∧ (nthG l k).2 ≤ 256
theorem SmallR.end_ {l : List (Int × Int)} (h : SmallR l) : ∀ {k : Nat}, k ≤ l.length → 0 ≤ bEnd l k ∧ bEnd l k ≤ 512
  | 0, _ => ⟨Int.le_refl _, by show (0 : Int) ≤ 512; decide⟩
  | k + 1, hk => by
    have := h k (by omega)
    rw [bEnd_succ]
    omega
/-- What holds while it goes over the ranges. -/
structure BtI (L : List (Int × Int)) (B B1 : Nat) (w w1 : World) (v : Value) (k : Nat) (wr : World) : Prop where
  own : OwnG runC 2 73 wr B1 v (gapsB L k)
  below : Below B w wr
  later : Below B1 w1 wr

set_option maxRecDepth 8000 in
set_option maxHeartbeats 2000000 in
theorem planBetween_any (A : Option Addr) (m c B n : Nat) (l : List (Int × Int)) (w : World) (ho : OwnG runC 2 73 w B (.slice A m c) l) (hl : l.length = m) (hm : m ≤ 256) (hB : B ≤ w.heap.size) (hs : SmallR (l ++ [((n : Int), 0)])) :
    Calls Try.prog 72 #[.slice A m c, .int .i64 n] w (BetwP l n B w) := by
  obtain ⟨v1, w1, hrun, hO, hB1⟩ := ho.push (P := Try.prog) (t := 60) (ty := 60) runC_len runC_one (by omega) Try.underlying60 planRun rfl (by omega) ((n : Int), (0 : Int)) (by omega) hB
  obtain ⟨A1, c1, rfl, _, hA1⟩ := hO.arr runC_len
  obtain ⟨L, hL⟩ : ∃ L, l ++ [((n : Int), (0 : Int))] = L := ⟨_, rfl⟩
  have hLl : L.length = m + 1 := by rw [← hL]; simp [hl]
  have HBL : Hid (betwL l n = gapsB L (m + 1)) := by show _ = _; unfold betwL; rw [hL, hl]
  rw [hL] at hs hA1
  rw [show (l ++ [((n : Int), (0 : Int))]).length = m + 1 by simp [hl]] at hrun
  rw [hLl] at hA1
  have HLL := Lib.hid hLl
  have HS := Lib.hid hs
  have HA := Lib.hid hA1
  have HI : Hid (BtI L B w1.heap.size w w1 (.slice none 0 0) 0 w1) := ⟨OwnG.nil, hB1, Below.refl _ _⟩
  have HBW : Hid (B ≤ w.heap.size) := hB
  have HB1S : Hid (B ≤ w1.heap.size) := Nat.le_trans hB hB1.size
  unfold BetwP
  clear ho hl hB hs hO hB1 hA1 hLl hL
  have HR := Lib.hid hrun
  clear hrun
  go_enter Try.func72, Try.ntmps72
  go_wp2_with (at_builtin; refine wpList_append_run rfl (.tmp 9) (.tmp 12) 60 rfl rfl rfl HR.out ?_)
  clear HR
  go_loopw [5, 6, 15] (fun v e i wr => ∃ (k : Nat) (u : Value), k ≤ m + 1 ∧ i = .int .i64 k ∧ e = .int .i64 (bEnd L k) ∧ u = v ∧ Hid (BtI L B w1.heap.size w w1 u k wr)) (fun _ _ i _ => m + 1 - (intOf i).toNat)
  case atStart => exact ⟨0, _, Nat.zero_le _, rfl, rfl, rfl, HI⟩
  case round =>
    obtain ⟨k, u, hkn, rfl, rfl, rfl, hI⟩ := hrel
    clear HI
    have hlen := gapsB_len (l := L) k
    by_cases hlt : k < m + 1
    · obtain ⟨b, off, rfl, _, hc0, hc1⟩ := (HA.out.below hI.out.later (Nat.le_refl _)).run hlt
      obtain ⟨hx0, hx1, hy0, hy1⟩ := HS.out k (by have := HLL.out; omega)
      obtain ⟨he0, he1⟩ := HS.out.end_ (k := k) (by have := HLL.out; omega)
      have hES := Lib.hid (bEnd_succ (l := L) (i := k))
      have HY := Lib.hid (gapsB_yes (l := L) (i := k))
      have HN := Lib.hid (gapsB_no (l := L) (i := k))
      have hk' : (k : Int) < (m : Int) + 1 := by omega
      generalize (nthG L k).1 = X at *
      generalize (nthG L k).2 = Y at *
      generalize bEnd L k = E at *
      have e1 : wrap64 (X + Y) = X + Y := by unfold wrap64; omega
      have e2 : wrap64 (X - E) = X - E := by unfold wrap64; omega
      by_cases hx : E < X
      · have c1 : (E < X) = True := eq_true hx
        have HG := Lib.hid (HY.out hx)
        have b2 := (Below.refl _ wr).alloc (Nat.le_refl _) (.cells #[.int .i64 X, .int .i64 Y] 73)
        have HBX := Lib.hid (Box.new wr 73 #[.int .i64 X, .int .i64 Y])
        obtain ⟨v', w', hrun, hO', hB', hK, _⟩ := (hI.out.own.below b2).pushK (P := Try.prog) (t := 60) (ty := 60) runC_len runC_one (by omega) Try.underlying60 planRun rfl (by omega) (E, X - E) (by omega) (Nat.le_trans hI.out.later.size b2.size)
        have hbx : Box w' wr.heap.size 73 #[.int .i64 X, .int .i64 Y] := (hK _ (by simp) (fun e => by have := hI.out.own.rowLt _ e; omega)).trans HBX.out
        have HI2 : Hid (BtI L B w1.heap.size w w1 v' (k + 1) w') :=
          ⟨by rw [HG.out]; exact hO', (hI.out.below.trans (b2.mono (Nat.le_trans HBW.out hI.out.below.size))).trans (hB'.mono HB1S.out), (hI.out.later.trans (b2.mono hI.out.later.size)).trans hB'⟩
        have hg0 : w'.cell? ⟨wr.heap.size, 0, none⟩ = some (.int .i64 X) := hbx.cell 0
        have hg1 : w'.cell? ⟨wr.heap.size, 1, none⟩ = some (.int .i64 Y) := hbx.cell 1
        rw [show (wr.alloc (.cells #[.int .i64 X, .int .i64 Y] 73)).heap.size = wr.heap.size + 1 by simp] at hrun
        have HR := Lib.hid hrun
        clear hrun hI HY HN hx b2 hO' hB' hK hbx HBX
        go_wp2_with (at_builtin; refine wpList_append_run rfl (.tmp 23) (.tmp 30) 60 rfl rfl rfl HR.out ?_)
        go_roundw
        case rel => exact ⟨k + 1, _, by omega, by go_num, by rw [hES.out], rfl, HI2⟩
        case measure => simp [intOf]; omega
      · have c1 : (E < X) = False := eq_false hx
        have HG := Lib.hid (HN.out hx)
        have HI2 : Hid (BtI L B w1.heap.size w w1 u (k + 1) (wr.alloc (.cells #[.int .i64 X, .int .i64 Y] 73))) := by
          have b2 := (Below.refl _ wr).alloc (Nat.le_refl _) (.cells #[.int .i64 X, .int .i64 Y] 73)
          exact ⟨by rw [HG.out]; exact hI.out.own.below b2, hI.out.below.trans (b2.mono (Nat.le_trans HBW.out hI.out.below.size)), hI.out.later.trans (b2.mono hI.out.later.size)⟩
        clear hI HY HN hx
        go_wp2
        go_roundw
        case rel => exact ⟨k + 1, _, by omega, by go_num, by rw [hES.out], rfl, HI2⟩
        case measure => simp [intOf]; omega
    · obtain rfl : k = m + 1 := by omega
      have HO := Lib.hid hI.out.own
      have HBB := Lib.hid hI.out.below
      clear hI
      go_wp2
      go_ret
      exact ⟨_, rfl, by rw [HBL.out]; exact HO.out.lessH HB1S.out, HBB.out⟩

theorem PlanOk.small {zs ks ps : List Int} (h : PlanOk zs ks ps) : SmallR (moveL zs ks ps ++ [((zs.length : Int), 0)]) := fun k hk => by
  have h256 := arena_len h.arena
  rw [List.length_append, moveL_len, List.length_singleton] at hk
  rcases Nat.lt_succ_iff_lt_or_eq.1 hk with h1 | h1
  · rw [move_nth h1]
    have := h.fits h1
    show 0 ≤ toN zs ks ps k ∧ toN zs ks ps k ≤ 256 ∧ 0 ≤ lgI zs (nth ks k) ∧ lgI zs (nth ks k) ≤ 256
    omega
  · subst h1
    rw [move_last]
    show (0 : Int) ≤ zs.length ∧ (zs.length : Int) ≤ 256 ∧ (0 : Int) ≤ 0 ∧ (0 : Int) ≤ 256
    omega
/-- What Gaps, To answer. -/
def PlanGpP (zs ks ps : List Int) (w : World) (e : Ending) (w' : World) : Prop := ∃ A m c, e = .returned (.tuple #[.slice A m c, .int .i64 (planE zs ks ps)]) ∧ Below w.heap.size w w' ∧ ArrG runC 2 w' w'.heap.size A m (gapR zs ks ps)
def PlanToP (zs ks ps : List Int) (w : World) (e : Ending) (w' : World) : Prop := ∃ A m c, e = .returned (.tuple #[.slice A m c, .int .i64 (planE zs ks ps)]) ∧ Below w.heap.size w w' ∧ Arr .i64 w' w'.heap.size A m (toR zs ks ps)

set_option maxHeartbeats 1000000 in
theorem planGaps_any (A K P : Option Addr) (n c nk ck np cp : Nat) (zs ks ps : List Int) (w : World) (hn : n ≤ maxLen) (hnc : n ≤ c) (ha : Arr .u64 w w.heap.size A n zs) (hnk : nk ≤ maxLen) (hk : Arr .i64 w w.heap.size K nk ks) (hnp : np ≤ maxLen) (hp : Arr .i64 w w.heap.size P np ps) :
    Calls Try.prog 37 #[.slice A n c, .slice K nk ck, .slice P np cp] w (PlanGpP zs ks ps w) := by
  have HM := Lib.hid (planMove_any A K P n c nk ck np cp zs ks ps w hn hnc ha hnk hk hnp hp)
  have HAL := Lib.hid ha.1
  unfold PlanGpP
  clear ha hk hp
  go_enter Try.func37, Try.ntmps37
  go_wp2_with fail
  refine HM.out.mono ?_
  rintro e w1 ⟨b1, h⟩
  have HB1 := Lib.hid b1
  clear b1 HM
  rcases h with ⟨h0, rfl⟩ | ⟨h0, g, rfl, ho⟩
  · have HR : Hid (gapR zs ks ps = []) := gapR_bad h0
    obtain ⟨E, hE⟩ : ∃ E, planE zs ks ps = E := ⟨_, rfl⟩
    have HPE := Lib.hid hE
    rw [hE] at h0 ⊢
    clear hE
    have hb : (E != 0) = true := by simpa using h0
    clear h0
    go_wp2
    go_ret2
    exact ⟨none, 0, 0, by rw [HPE.out]; rfl, HB1.out, by rw [HR.out]; exact ArrG.zero⟩
  · have HR : Hid (gapR zs ks ps = betwL (moveL zs ks ps) (n : Int)) := by show _ = _; rw [gapR_ok h0]; unfold gapP; rw [HAL.out]
    have HE := Lib.hid h0
    have hok := planE_zero.1 h0
    have hsm := hok.small
    rw [HAL.out] at hsm
    have HBT := Lib.hid (planBetween_any (some ⟨g, 0, none⟩) ks.length ks.length w.heap.size n (moveL zs ks ps) w1 ho moveL_len hok.len HB1.out.size hsm)
    clear h0 hok hsm ho
    go_wp2_with fail
    refine HBT.out.mono ?_
    rintro e w2 ⟨v, rfl, hO, hB⟩
    obtain ⟨A2, c2, rfl, _, hA2⟩ := hO.arr runC_len
    have HBB := Lib.hid (HB1.out.trans hB)
    have HA2 := Lib.hid hA2
    clear hO hB hA2
    go_wp2
    go_ret2
    exact ⟨_, _, _, by rw [HE.out]; rfl, HBB.out, by rw [HR.out]; exact HA2.out⟩

/-- What is in the list of new words when the first 'k' are. -/
def toAt (zs ks ps : List Int) (n k : Nat) : List Int := toTo zs ks ps k ++ List.replicate (n - k) 0
section
variable {zs ks ps : List Int} {n k : Nat}
theorem toAt_len (h : k ≤ n) : (toAt zs ks ps n k).length = n := by unfold toAt; rw [List.length_append, toTo_len, List.length_replicate]; omega
theorem toAt_zero : toAt zs ks ps n 0 = List.replicate n 0 := by unfold toAt; simp [toTo]
theorem toAt_all : toAt zs ks ps ks.length ks.length = toL zs ks ps := by unfold toAt; simp [toL]
theorem toAt_set (h : k < n) : (toAt zs ks ps n k).set k (toN zs ks ps k) = toAt zs ks ps n (k + 1) := by
  unfold toAt
  rw [toTo_succ, List.set_append_right _ _ (by rw [toTo_len]; exact Nat.le_refl _), toTo_len, Nat.sub_self, show n - k = (n - (k + 1)) + 1 by omega, List.replicate_succ, List.set_cons_zero, List.append_assoc]
  rfl
end
theorem planInt : (Try.prog.info? 3).map (fun i => (i.zero, i.size, i.bytes)) = some (some (.int .i64 0), 1, 8) := by kernel_rfl
/-- What holds while To goes over the moved. -/
structure PtI (zs ks ps : List Int) (w w1 : World) (k : Nat) (wr : World) : Prop where
  row : Whole .i64 3 wr w1.heap.size (toAt zs ks ps ks.length k)
  below : Below w.heap.size w wr
  later : Below w1.heap.size w1 wr

set_option maxRecDepth 8000 in
set_option maxHeartbeats 1000000 in
theorem planTo_any (A K P : Option Addr) (n c nk ck np cp : Nat) (zs ks ps : List Int) (w : World) (hn : n ≤ maxLen) (hnc : n ≤ c) (ha : Arr .u64 w w.heap.size A n zs) (hnk : nk ≤ maxLen) (hk : Arr .i64 w w.heap.size K nk ks) (hnp : np ≤ maxLen) (hp : Arr .i64 w w.heap.size P np ps) :
    Calls Try.prog 36 #[.slice A n c, .slice K nk ck, .slice P np cp] w (PlanToP zs ks ps w) := by
  have HM := Lib.hid (planMove_any A K P n c nk ck np cp zs ks ps w hn hnc ha hnk hk hnp hp)
  unfold PlanToP
  clear ha hk hp
  go_enter Try.func36, Try.ntmps36
  go_wp2_with fail
  refine HM.out.mono ?_
  rintro e w1 ⟨b1, h⟩
  have HB1 := Lib.hid b1
  clear b1 HM
  rcases h with ⟨h0, rfl⟩ | ⟨h0, g, rfl, ho⟩
  · have HR : Hid (toR zs ks ps = []) := toR_bad h0
    obtain ⟨E, hE⟩ : ∃ E, planE zs ks ps = E := ⟨_, rfl⟩
    have HPE := Lib.hid hE
    rw [hE] at h0 ⊢
    clear hE
    have hb : (E != 0) = true := by simpa using h0
    clear h0
    go_wp2
    go_ret2
    exact ⟨none, 0, 0, by rw [HPE.out]; rfl, HB1.out, by rw [HR.out]; exact Arr.zero⟩
  · have HR : Hid (toR zs ks ps = toL zs ks ps) := toR_ok h0
    have HE := Lib.hid h0
    have hok := planE_zero.1 h0
    have HOK := Lib.hid hok
    obtain ⟨A2, c2, hv, _, hA2⟩ := ho.arr runC_len
    rw [moveL_len] at hv hA2
    injection hv with e1 e2 e3
    subst e1
    have HA2 := Lib.hid hA2
    obtain ⟨m, hm⟩ : ∃ m, ks.length = m := ⟨_, rfl⟩
    have hm256 : m ≤ 256 := by rw [← hm]; exact hok.len
    have h256 := arena_len hok.arena
    have HML := Lib.hid hm
    rw [hm] at HA2 ⊢
    have hmk := fun wx => run_make_row' (P := Try.prog) 23 3 (.int .i64 0) 8 Try.underlying23 planInt rfl .i64 .i64 m (by omega) (by omega) wx
    have hW : Whole .i64 3 (w1.alloc (.cells (madeCells #[Value.int .i64 0] m) 3)) w1.heap.size (List.replicate m 0) := by
      rw [made_replicate]
      exact whole_new .i64 3 w1 _ (fun z hz => by rw [List.eq_of_mem_replicate hz]; rfl)
    have bm : Below w1.heap.size w1 (w1.alloc (.cells (madeCells #[Value.int .i64 0] m) 3)) := (Below.refl _ _).alloc (Nat.le_refl _) _
    have HI : Hid (PtI zs ks ps w w1 0 (w1.alloc (.cells (madeCells #[Value.int .i64 0] m) 3))) := ⟨by rw [hm, toAt_zero]; exact hW, HB1.out.trans (bm.mono HB1.out.size), bm⟩
    clear h0 hok ho hA2 e2 e3 hW bm hm
    go_wp2_with fail
    generalize (w1.alloc (.cells (madeCells #[Value.int .i64 0] m) 3)) = W1 at *
    obtain ⟨g2, hg2⟩ : ∃ g2, w1.heap.size = g2 := ⟨_, rfl⟩
    have HG2 := Lib.hid hg2
    rw [hg2]
    clear hmk hg2
    go_loopw [28] (fun i wr => ∃ k : Nat, k ≤ m ∧ i = .int .i64 k ∧ Hid (PtI zs ks ps w w1 k wr)) (fun i _ => m - (intOf i).toNat)
    case atStart => exact ⟨0, Nat.zero_le _, rfl, HI⟩
    case round =>
      obtain ⟨k, hkn, rfl, hI⟩ := hrel
      clear HI
      by_cases hlt : k < m
      · obtain ⟨b, off, hbo, _, hc0, hc1⟩ := (HA2.out.below hI.out.later (Nat.le_refl _)).run hlt
        injection hbo with hbo
        injection hbo with hb1 hb2
        subst hb1 hb2
        rw [show moveL zs ks ps = moveTo zs ks ps ks.length from rfl, moveTo_nth (by have := HML.out; omega)] at hc0 hc1
        simp only at hc0 hc1
        have hft := HOK.out.fits (i := k) (by have := HML.out; omega)
        obtain ⟨L, hL⟩ : ∃ L, lgI zs (nth ks k) = L := ⟨_, rfl⟩
        obtain ⟨T, hT⟩ : ∃ T, toN zs ks ps k = T := ⟨_, rfl⟩
        rw [hT] at hc0 hft
        rw [hL] at hc1 hft
        have b2 := (Below.refl _ wr).alloc (Nat.le_refl _) (.cells #[.int .i64 T, .int .i64 L] 73)
        have hW := hI.out.row.alloc (.cells #[.int .i64 T, .int .i64 L] 73)
        have hW2 := hW.set_ k T (wf_i64.2 (by omega))
        rw [← hT, toAt_set (by have := HML.out; omega), hT] at hW2
        have HN : Hid (PtI zs ks ps w w1 (k + 1) ((wr.alloc (.cells #[.int .i64 T, .int .i64 L] 73)).setCell ⟨g2, k, none⟩ (.int .i64 T))) := by
          rw [← HG2.out]
          exact ⟨hW2, below_set (hI.out.below.trans (b2.mono hI.out.below.size)) HB1.out.size _ _, below_set (hI.out.later.trans (b2.mono hI.out.later.size)) (Nat.le_refl _) _ _⟩
        have d0 := hW.cell (j := k) (by rw [toAt_len (by have := HML.out; omega)]; have := HML.out; omega)
        have f0 := hW.frozen k
        rw [HG2.out] at d0 f0
        clear hI hW hW2 b2 hL hT hft
        generalize nth (toAt zs ks ps ks.length k) k = O at *
        rw [Nat.zero_add] at hc0 hc1
        go_wp2
        go_roundw
        case rel => exact ⟨k + 1, by omega, by go_num, HN⟩
        case measure => simp [intOf]; omega
      · obtain rfl : k = m := by omega
        have hrow := hI.out.row
        have HBB := Lib.hid hI.out.below
        rw [HML.out] at hrow
        have HAL := Lib.hid (toAt_all (zs := zs) (ks := ks) (ps := ps))
        rw [HML.out] at HAL
        rw [HAL.out] at hrow
        have harr := hrow.arr hrow.lt
        rw [toL_len, HML.out, HG2.out] at harr
        have HAR := Lib.hid harr
        clear hI hrow harr HAL
        go_wp2
        go_ret2
        exact ⟨_, _, _, by rw [HE.out]; rfl, HBB.out, by rw [HR.out]; exact HAR.out⟩
end Go.Proofs.Ytknbbondofijeaa
