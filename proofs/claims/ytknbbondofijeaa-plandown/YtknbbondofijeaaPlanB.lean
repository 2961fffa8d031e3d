/-
  Contract of package plan's measure.
-/
import Derived.Test.YtknbbondofijeaaPlanC
namespace Go.Proofs.Ytknbbondofijeaa
open Go.RowKit

/-- What measure answers. -/
def MeasP (zs : List Int) (w : World) (e : Ending) (w' : World) : Prop := Below w.heap.size w w' ∧
  ((arErr zs ≠ 0 ∧ e = .returned (.tuple #[.map none, .int .i64 (arErr zs)])) ∨
   (arErr zs = 0 ∧ ∃ gm, e = .returned (.tuple #[.map (some gm), .int .i64 0]) ∧ MapF Try.prog .i64 .i64 3 3 w' gm 300 (lgOf zs)))
/-- What holds while it goes over the spots. -/
structure MeasI (zs : List Int) (w : World) (B1 gm : Nat) (A2 : Option Addr) (m k : Nat) (wr : World) : Prop where
  map : MapF Try.prog .i64 .i64 3 3 wr gm k (lgTo zs k)
  spots : ArrG spotC 5 wr B1 A2 m (spList zs)
  below : Below w.heap.size w wr
  o1 : w.heap.size ≤ gm
  o2 : B1 ≤ gm
section
variable {zs : List Int} {w wr wr' : World} {B1 gm m k : Nat} {A2 : Option Addr}
theorem MeasI.next (h : MeasI zs w B1 gm A2 m k wr) (hb : Below wr.heap.size wr wr') : MeasI zs w B1 gm A2 m k wr' :=
  ⟨h.map.below hb h.map.lt, h.spots.below hb (by have := h.map.lt; have := h.o2; omega), h.below.trans (hb.mono h.below.size), h.o1, h.o2⟩
theorem MeasI.free (h : MeasI zs w B1 gm A2 m k wr) (hk : k < (begins zs 0).length) (hf : vF (nth zs (st zs k)) = true) : MeasI zs w B1 gm A2 m (k + 1) wr :=
  ⟨by rw [lgTo_no hk hf]; exact h.map.mono (by omega), h.spots, h.below, h.o1, h.o2⟩
theorem MeasI.put (h : MeasI zs w B1 gm A2 m k wr) (hk : k < (begins zs 0).length) (hf : vF (nth zs (st zs k)) = false) (hm : MapF Try.prog .i64 .i64 3 3 wr' gm (k + 1) (put (lgTo zs k) (st zs k : Int) (lgI zs (st zs k : Int)))) (hg : wr.grownBy wr' (some gm)) : MeasI zs w B1 gm A2 m (k + 1) wr' :=
  ⟨by rw [lgTo_yes hk hf]; exact hm, h.spots.below (grown_below hg h.o2 (by have := h.map.lt; have := h.o2; omega)) (Nat.le_refl _), h.below.trans (grown_below hg h.o1 h.below.size), h.o1, h.o2⟩
end

set_option maxHeartbeats 400000 in
theorem planMeasure_bad (A : Option Addr) (n c : Nat) (zs : List Int) (w : World) (hn : n ≤ maxLen) (hnc : n ≤ c) (ha : Arr .u64 w w.heap.size A n zs) (h : arErr zs ≠ 0) :
    Calls Try.prog 94 #[.slice A n c] w (MeasP zs w) := by
  have HC := Lib.hid (Check_any A n c zs w hn hnc ha)
  unfold MeasP
  have H0 := Lib.hid h
  clear ha
  generalize arErr zs = E at *
  have hb : (E != 0) = true := by simpa using h
  clear h
  go_enter Try.func94, Try.ntmps94
  go_wp2_with fail
  refine HC.out.mono ?_
  rintro e w1 ⟨rfl, b1⟩
  have HB := Lib.hid b1
  clear b1
  go_wp2
  go_ret2
  exact ⟨HB.out, .inl ⟨H0.out, rfl⟩⟩

set_option maxRecDepth 8000 in
set_option maxHeartbeats 2000000 in
theorem planMeasure_good (A : Option Addr) (n c : Nat) (zs : List Int) (w : World) (hn : n ≤ maxLen) (hnc : n ≤ c) (ha : Arr .u64 w w.heap.size A n zs) (h : arErr zs = 0) :
    Calls Try.prog 94 #[.slice A n c] w (MeasP zs w) := by
  obtain ⟨hsp, hrf⟩ := arErr_zero h
  obtain ⟨h256, hfine⟩ := spErr_zero hsp
  have hl := ha.1
  have hwf := ha.2.1
  have hL := spList_ok hsp
  have hbl := begins_len (zs := zs) (a := 0)
  have hlen : (spList zs).length = (begins zs 0).length := by rw [hL]; simp
  obtain ⟨m, hm⟩ : ∃ m, (begins zs 0).length = m := ⟨_, rfl⟩
  rw [hm] at hlen hbl
  have hspot : ∀ k, k < m → nthG (spList zs) k = spOf zs (st zs k) ∧ st zs k < n := fun k hk => by
    have h1 := begins_mem (st_mem (zs := zs) (k := k) (by omega))
    exact ⟨by rw [hL, nthG_map _ _ _ (by omega)]; rfl, by omega⟩
  have HFT : Hid (∀ k, k < m → vF (nth zs (st zs k)) = false → hFault (vR (nth zs (st zs k))) (vB (nth zs (st zs k))) (vT (nth zs (st zs k))) false = 0 ∧ lgI zs (st zs k : Int) = 1 + vR (nth zs (st zs k)) + vB (nth zs (st zs k)) ∧ lgI zs (st zs k : Int) ≤ 256) := fun k hk hf => by
    obtain ⟨s, hse, h1, h2, h3, h4, h5, h6, h7, _, hf'⟩ := live_facts hwf (mem_lives.2 ⟨k, by omega, rfl, hf⟩)
    obtain rfl : st zs k = s := by omega
    rw [hf'] at h5
    have h8 : lgI zs (st zs k : Int) = (longN zs (st zs k) : Int) := by unfold lgI; rw [Int.toNat_natCast]
    exact ⟨h5, by rw [h8]; exact h6, by rw [h8]; omega⟩
  have HC := Lib.hid (Check_any A n c zs w hn hnc ha)
  rw [h] at HC
  have HA0 := Lib.hid ha
  have HAR := Lib.hid h
  have HE := Lib.hid hsp
  have HS := Lib.hid hspot
  have HM := Lib.hid hm
  clear ha h hsp hrf hfine hL hspot hm hwf
  have hmm := @run_makeMap Try.prog
  have hbl2 : m ≤ 256 := by omega
  have hn256 : n ≤ 256 := by omega
  clear h256 hl
  unfold MeasP
  go_enter Try.func94, Try.ntmps94
  go_wp2_with fail
  refine HC.out.mono ?_
  rintro e w0 ⟨rfl, b1⟩
  have HB0 := Lib.hid b1
  have HSP := Lib.hid (Spots_any A n c zs w0 hn ((HA0.out.below b1 (Nat.le_refl _)).more b1.size))
  clear b1 HC
  go_wp2_with fail
  refine HSP.out.mono ?_
  rintro e w1 ⟨A2, c2, rfl, b1, hc2, hA2, hi2⟩
  rw [HE.out]
  rw [hlen] at hA2 hc2 hi2 ⊢
  have HB1 := Lib.hid (HB0.out.trans (b1.mono HB0.out.size))
  have HA2 := Lib.hid hA2
  clear b1 HSP hA2 hc2 hi2 HB0
  go_wp2_with fail
  have bm : Below w1.heap.size w1 (w1.alloc (.map #[] 0)) := (Below.refl _ w1).alloc (Nat.le_refl _) _
  have HI : Hid (MeasI zs w w1.heap.size w1.heap.size A2 m 0 (w1.alloc (.map #[] 0))) :=
    ⟨by rw [lgTo_zero]; exact MapF.made Try.prog .i64 .i64 3 3 w1, HA2.out.below bm (Nat.le_refl _), HB1.out.trans (bm.mono HB1.out.size), HB1.out.size, Nat.le_refl _⟩
  clear bm hmm
  generalize (w1.alloc (.map #[] 0)) = W1 at *
  generalize w1.heap.size = gm at *
  go_loopw [26] (fun i wr => ∃ k : Nat, k ≤ m ∧ i = .int .i64 k ∧ Hid (MeasI zs w gm gm A2 m k wr)) (fun i _ => m - (intOf i).toNat)
  case atStart => exact ⟨0, by omega, rfl, HI⟩
  case round =>
    obtain ⟨k, hk, rfl, hI⟩ := hrel
    clear HI HA2 HB1
    by_cases hlt : k < m
    · obtain ⟨hs, hsn⟩ := HS.out k hlt
      have hkb : k < (begins zs 0).length := by rw [HM.out]; exact hlt
      obtain ⟨b, off, rfl, _, q0, q1, q2, q3, q4⟩ := hI.out.spots.spot hlt
      rw [hs] at q0 q1 q2 q3 q4
      unfold spOf at q0 q1 q2 q3 q4
      simp only at q0 q1 q2 q3 q4
      cases hf : vF (nth zs (st zs k))
      · obtain ⟨hF0, hFL, hF6⟩ := HFT.out k hlt hf
        have HF := Lib.hid hf
        have HKB := Lib.hid hkb
        rw [hf] at q4
        have HNX := Lib.hid (hI.out.next ((Below.refl _ wr).alloc (Nat.le_refl _) (.cells #[.int .i64 (st zs k), .int .i64 (vR (nth zs (st zs k))), .int .i64 (vB (nth zs (st zs k))), .int .i64 (vT (nth zs (st zs k))), .bool false] 98)))
        have HBX := Lib.hid (Box.new wr 98 #[.int .i64 (st zs k), .int .i64 (vR (nth zs (st zs k))), .int .i64 (vB (nth zs (st zs k))), .int .i64 (vT (nth zs (st zs k))), .bool false])
        have HL := Lib.hid (fun wx => lengthOk (vR (nth zs (st zs k))) (vB (nth zs (st zs k))) (vT (nth zs (st zs k))) false wx hF0)
        have HLG := Lib.hid hFL
        clear hf hs hI hkb hF0 hFL
        obtain ⟨s, hse⟩ : ∃ s, st zs k = s := ⟨_, rfl⟩
        have HSE := Lib.hid hse
        rw [hse] at q0 q1 q2 q3 HNX hsn HBX HL HLG hF6
        clear hse
        generalize vR (nth zs s) = R at *
        generalize vB (nth zs s) = Bd at *
        generalize vT (nth zs s) = T at *
        have hws : (Lit.int .i64 (s : Int)).wf = true := wf_i64.2 (by omega)
        have hwl : (Lit.int .i64 (1 + R + Bd)).wf = true := wf_i64.2 (by have := HLG.out; have h0 := (live_lg (mem_lives.2 ⟨k, HKB.out, rfl, HF.out⟩)).2.1; rw [HSE.out] at h0; omega)
        go_wp2_with fail
        obtain ⟨g, hg⟩ : ∃ g, wr.heap.size = g := ⟨_, rfl⟩
        rw [hg] at HBX
        rw [hg]
        clear hg q0 q1 q2 q3 q4
        have HNX := Lib.hid (HNX.out.next (below_drewN (Below.refl _ _) 1))
        have HBX : Hid (Box ((wr.alloc (.cells #[.int .i64 s, .int .i64 R, .int .i64 Bd, .int .i64 T, .bool false] 98)).drewN 1) g 98 #[.int .i64 s, .int .i64 R, .int .i64 Bd, .int .i64 T, .bool false]) := HBX.out
        refine wp_region_Y 9 (fun w' => w'.cell? ⟨g, 0, none⟩ = some (.int .i64 s) ∧ w'.cell? ⟨g, 1, none⟩ = some (.int .i64 R) ∧ w'.cell? ⟨g, 2, none⟩ = some (.int .i64 Bd) ∧ w'.cell? ⟨g, 3, none⟩ = some (.int .i64 T) ∧ w'.cell? ⟨g, 4, none⟩ = some (.bool false)) (by kernel_rfl) ?_
        change anyY _ _ _ _ _ _ _ _ _ ((wr.alloc (.cells #[.int .i64 s, .int .i64 R, .int .i64 Bd, .int .i64 T, .bool false] 98)).drewN 1)
        generalize ((wr.alloc (.cells #[.int .i64 s, .int .i64 R, .int .i64 Bd, .int .i64 T, .bool false] 98)).drewN 1) = W at *
        have hS0 : W.cell? ⟨g, 0, none⟩ = some (.int .i64 s) ∧ W.cell? ⟨g, 1, none⟩ = some (.int .i64 R) ∧ W.cell? ⟨g, 2, none⟩ = some (.int .i64 Bd) ∧ W.cell? ⟨g, 3, none⟩ = some (.int .i64 T) ∧ W.cell? ⟨g, 4, none⟩ = some (.bool false) := ⟨HBX.out.cell 0, HBX.out.cell 1, HBX.out.cell 2, HBX.out.cell 3, HBX.out.cell 4⟩
        refine anyY_pure (i := 0) (v := .map (some gm)) rfl rfl rfl (by kernel_rfl) (by kernel_rfl) (by kernel_rfl) (fun _ _ _ h => h) (Or.inl ⟨by rfl, fun wx _ => ?_⟩) (.inr hS0) ?_
        · go_simp
        refine anyY_pure (i := 1) (v := .pointer (some ⟨g, 0, none⟩)) rfl rfl rfl (by kernel_rfl) (by kernel_rfl) (by kernel_rfl) (fun _ _ _ h => h) (Or.inl ⟨by rfl, fun wx _ => ?_⟩) (.inr hS0) ?_
        · go_simp
        refine anyY_take (i := 2) (v := .int .i64 s) rfl rfl (by kernel_rfl) rfl (by kernel_rfl) (by kernel_rfl) (by kernel_rfl) (by kernel_rfl) (fun _ _ _ h => h) (Or.inl ⟨by rfl, fun wx hS => ?_⟩) hS0 ?_
        · obtain ⟨q1, q2, q3, q4, q5⟩ := hS
          go_simp
        refine anyY_pure (i := 3) (v := .pointer (some ⟨g, 1, none⟩)) rfl rfl rfl (by kernel_rfl) (by kernel_rfl) (by kernel_rfl) (fun _ _ _ h => h) (Or.inl ⟨by rfl, fun wx _ => ?_⟩) (.inr hS0) ?_
        · go_simp
        refine anyY_only (i := 4) (by kernel_rfl) ?_
        have HS0 := Lib.hid hS0
        obtain ⟨z0, z1, z2, z3, z4⟩ := hS0
        refine wpOp_step rfl fun K' hK' => ?_
        go_simp
        refine hK' _ _ ⟨.inr (.inr HS0.out), ?_⟩
        clear hK' z0 z1 z2 z3 z4
        refine anyY_only (i := 5) (by kernel_rfl) ?_
        refine wpOp_step rfl fun K' hK' => ?_
        go_simp
        refine (HL.out _).mono ?_
        rintro e w2 ⟨rfl, b2⟩
        have HNX3 := Lib.hid (HNX.out.next b2)
        have HBX3 := Lib.hid (HBX.out.below b2 HBX.out.lt)
        have hS2 : w2.cell? ⟨g, 0, none⟩ = some (.int .i64 s) ∧ w2.cell? ⟨g, 1, none⟩ = some (.int .i64 R) ∧ w2.cell? ⟨g, 2, none⟩ = some (.int .i64 Bd) ∧ w2.cell? ⟨g, 3, none⟩ = some (.int .i64 T) ∧ w2.cell? ⟨g, 4, none⟩ = some (.bool false) := ⟨HBX3.out.cell 0, HBX3.out.cell 1, HBX3.out.cell 2, HBX3.out.cell 3, HBX3.out.cell 4⟩
        refine hK' _ _ ⟨.inr (.inr hS2), ?_⟩
        clear hK' HNX HBX HS0 b2
        refine anyY_pure (i := 6) (v := .tuple #[.int .i64 (1 + R + Bd), .int .i64 0]) rfl rfl rfl (by kernel_rfl) (by kernel_rfl) (by kernel_rfl) (fun _ _ _ h => h) (Or.inl ⟨by rfl, fun wx _ => ?_⟩) (.inr hS2) ?_
        · go_simp
        refine anyY_pure (i := 7) (v := .int .i64 (1 + R + Bd)) rfl rfl rfl (by kernel_rfl) (by kernel_rfl) (by kernel_rfl) (fun _ _ _ h => h) (Or.inl ⟨by rfl, fun wx _ => ?_⟩) (.inr hS2) ?_
        · go_simp
        refine anyY_pure (i := 8) (v := .int .i64 0) rfl rfl rfl (by kernel_rfl) (by kernel_rfl) (by kernel_rfl) (fun _ _ _ h => h) (Or.inl ⟨by rfl, fun wx _ => ?_⟩) (.inr hS2) ?_
        · go_simp
        refine anyY_only (i := 9) (by kernel_rfl) ?_
        obtain ⟨w3, hrun, hm3, hg3⟩ := HNX3.out.map.store longT (by unfold maxLen; omega) hws hwl
        have HN : Hid (MeasI zs w gm gm (some ⟨b, off, none⟩) m (k + 1) w3) := HNX3.out.put HKB.out HF.out (by rw [HSE.out, HLG.out]; exact hm3) hg3
        clear hm3 hg3 hS2
        refine wpOp_step rfl fun K' hK' => ?_
        go_simp
        refine hK' _ _ ⟨.inr (.inl rfl), ?_⟩
        clear hK' hrun HNX3 HBX3
        refine anyY_pure (i := 10) (v := .int .i64 0) rfl rfl rfl (by kernel_rfl) (by kernel_rfl) (by kernel_rfl) (fun _ _ _ h => h) (Or.inl ⟨by rfl, fun wx _ => ?_⟩) (.inl (by kernel_rfl)) ?_
        · go_simp
        refine anyY_done (by kernel_rfl) ?_ _
        go_wp2
        go_roundw
        case rel => exact ⟨k + 1, by omega, by go_num, HN⟩
        case measure => simp [intOf]; omega
      · have HF := Lib.hid hf
        rw [hf] at q4
        have HNX := Lib.hid ((hI.out.next ((Below.refl _ wr).alloc (Nat.le_refl _) (.cells #[.int .i64 (st zs k), .int .i64 (vR (nth zs (st zs k))), .int .i64 (vB (nth zs (st zs k))), .int .i64 (vT (nth zs (st zs k))), .bool true] 98))).free hkb hf)
        clear hf hs hI hkb
        generalize vR (nth zs (st zs k)) = R at *
        generalize vB (nth zs (st zs k)) = Bd at *
        generalize vT (nth zs (st zs k)) = T at *
        generalize st zs k = s at *
        go_wp2
        go_roundw
        case rel => exact ⟨k + 1, by omega, by go_num, HNX⟩
        case measure => simp [intOf]; omega
    · obtain rfl : k = m := by omega
      have HX : Hid (lgTo zs k = lgOf zs) := Lib.hid (by rw [← HM.out]; exact lgTo_all)
      have HMP := Lib.hid (hI.out.map.mono (n' := 300) (by omega))
      rw [HX.out] at HMP
      have HBB := Lib.hid hI.out.below
      clear hI
      go_wp2
      go_ret2
      exact ⟨HBB.out, .inr ⟨HAR.out, gm, rfl, HMP.out⟩⟩
theorem planMeasure_any (A : Option Addr) (n c : Nat) (zs : List Int) (w : World) (hn : n ≤ maxLen) (hnc : n ≤ c) (ha : Arr .u64 w w.heap.size A n zs) :
    Calls Try.prog 94 #[.slice A n c] w (MeasP zs w) := by
  by_cases h : arErr zs = 0
  · exact planMeasure_good A n c zs w hn hnc ha h
  · exact planMeasure_bad A n c zs w hn hnc ha h
end Go.Proofs.Ytknbbondofijeaa
