/-
  The walk of GapTurns.
-/
import Derived.Test.YtggjgcnmkkoheaaTurnM
import Derived.Test.YtggjgcnmkkoheaaFnWords
import Derived.Test.YtggjgcnmkkoheaaGive
import Derived.Test.YtggjgcnmkkoheaaAt
import Derived.Test.YtggjgcnmkkoheaaJoinsWalk
namespace Go.Proofs.Ytggjgcnmkkoheaa
open Go.RowKit

theorem notZero_any (x : Int) (w : World) : Calls Try.prog 39 #[.int .u64 x] w fun e w' => e = .returned (.bool (x != 0)) ∧ w = w' := by
  go_enter Try.func39, Try.ntmps39
  go_wp2
  go_ret
  exact ⟨rfl, rfl⟩
theorem notNull_any (x : Int) (w : World) : Calls Try.prog 41 #[.int .i64 x] w fun e w' => e = .returned (.bool (x != -1)) ∧ w = w' := by
  go_enter Try.func41, Try.ntmps41
  go_wp2
  go_ret
  exact ⟨rfl, rfl⟩

set_option maxHeartbeats 1000000 in
set_option maxRecDepth 16000 in
theorem turns_bad (A : Option Addr) (n c : Nat) (a r b t : Int) (f : Bool) (zs : List Int) (w : World) (hn : n ≤ maxLen) (hnc : n ≤ c) (ha : Arr .u64 w w.heap.size A n zs) (h : takeE zs a r b t f ≠ 0) :
    Calls Try.prog 7 #[.slice A n c, .int .i64 a, .agg #[.int .i64 r, .int .i64 b, .int .i64 t, .bool f]] w fun e w' => e = .returned (.bool true) ∧ Below w.heap.size w w' := by
  have HH := Lib.hid (fun w => holes_any w)
  have H1 := Lib.hid (fun w ha => Take_any A n c a r b t f zs w hn hnc ha)
  unfold TakeP at H1
  have hne : (takeE zs a r b t f != 0) = true := by simpa using h
  have HE := Lib.hid h
  generalize takeE zs a r b t f = E at *
  have HA := Lib.hid ha
  have HX := Lib.hid (Box4.new w (.int .i64 r) (.int .i64 b) (.int .i64 t) (.bool f))
  have HBW := Lib.hid ((Below.refl w.heap.size w).alloc (Nat.le_refl _) (.cells #[.int .i64 r, .int .i64 b, .int .i64 t, .bool f] 24))
  clear ha h
  go_enter Try.func7, Try.ntmps7
  go_wp2_with fail
  refine (HH.out _).mono ?_
  rintro e w0 ⟨rfl, hb0⟩
  obtain ⟨c0, c1, c2, c3⟩ := (HX.out.below hb0 HX.out.lt).cells
  have HB0 := Lib.hid (HBW.out.trans (hb0.mono HBW.out.size))
  have HA0 := Lib.hid ((HA.out.below HB0.out (Nat.le_refl _)).more HB0.out.size)
  clear hb0 HA HH HX HBW
  go_wp2_with fail
  refine (H1.out _ HA0.out).mono ?_
  rintro e w1 ⟨A1, k1, cc1, rfl, hb1, hr⟩
  have hk1 : k1 = 0 := by
    rcases hr with ⟨_, h⟩ | ⟨hx, _⟩
    · exact h
    · exact absurd hx HE.out
  subst hk1
  have HB1 := Lib.hid (HB0.out.trans (hb1.mono HB0.out.size))
  clear hb1 HA0 HB0 H1 hr c0 c1 c2 c3
  go_wp2
  go_ret
  exact ⟨rfl, HB1.out⟩

set_option maxHeartbeats 4000000 in
set_option maxRecDepth 16000 in
theorem turns_good (A : Option Addr) (n c s R Bd N L : Nat) (t : Int) (zs : List Int) (w : World) (hn : n ≤ maxLen) (hnc : n ≤ c) (ha : Arr .u64 w w.heap.size A n zs) (hh : hFault R Bd t false = 0) (he : arErr zs = 0) (hs : s ∈ begins zs 0) (hfs : vF (nth zs s) = true) (hL : sLong (nth zs s) = L) (hN : 1 + R + Bd = N) (hNL : N ≤ L) :
    Calls Try.prog 7 #[.slice A n c, .int .i64 s, .agg #[.int .i64 R, .int .i64 Bd, .int .i64 t, .bool false]] w fun e w' => e = .returned (.bool true) ∧ Below w.heap.size w w' := by
  have hlen := ha.1
  obtain ⟨hl, hfin, _⟩ := arErr_iff.1 he
  have hsL : s + L ≤ zs.length := by have := (stepOk_iff.1 (begins_mem hs).2.2).2; omega
  obtain ⟨v1, v2, v3, v4, v5⟩ := word_of_header hh
  have hNV : sLong (hWord R Bd t false) = N := by unfold sLong; rw [v2, v3]; omega
  have hcut := takeL_cut (zs := zs) (s := s) (N := N) (L := L) (V := hWord R Bd t false) (by omega) hNL hsL
  have hcut2 := giveL_cut hcut (by omega) hNL hsL
  obtain ⟨f1, f2, f3, f4⟩ := fWord_facts (n := N) (by omega) (by omega)
  have hE : takeE zs s R Bd t false = 0 := takeE_ok hh he (freeStart_iff.2 ⟨s, rfl, hs, hfs⟩) (by rw [Int.toNat_natCast, hL]; omega)
  have hye := cut_fine hcut he hs hfs hL v1 hNV hNL
  have hym := cut_live hcut he hs hL v1 hNV hNL
  have hyh := cut_held hcut he hs hfs hL v1 hNV hNL
  have hob := cut_ob hcut hh hNV (by omega)
  have hgE : giveE (takeL zs s N L (hWord R Bd t false)) s = 0 := giveE_ok hye (liveStart_iff.2 ⟨s, rfl, hym, by rw [hcut.at_]; exact v5⟩) (by rw [Int.toNat_natCast]; exact hyh)
  have hgL : giveL (takeL zs s N L (hWord R Bd t false)) s = putL (takeL zs s N L (hWord R Bd t false)) s N (fWord N) := by unfold giveL; rw [hcut.at_, hNV]
  have hce := cut_fine hcut2 he hs hfs hL f1 f3 hNL
  have hcg := cut_gaps hcut2 he hs hfs hL f1 f3 hNL f2
  have hcj := cut_join hcut2 he hs hfs hL f1 f3 hNL f2
  have hcl := hcut2.len
  have hyl := hcut.len
  have hgl := runsTo_len (f := freeAt zs) zs.length
  change (gapsL zs).length ≤ _ at hgl
  have HH := Lib.hid (fun w => holes_any w)
  have H1 := Lib.hid (fun w ha => Take_any A n c s R Bd t false zs w hn hnc ha)
  have H2 := Lib.hid (fun A c w hnc ha => At_any A n c s (takeL zs s N L (hWord R Bd t false)) w hn hnc ha)
  have H3 := Lib.hid (fun A c w hnc ha => Give_any A n c s (takeL zs s N L (hWord R Bd t false)) w hn hnc ha)
  have H4 := Lib.hid (fun w ha => Gaps_any A n c zs w hn hnc ha)
  have H5 := Lib.hid (fun A c w hnc ha => Gaps_any A n c (putL (takeL zs s N L (hWord R Bd t false)) s N (fWord N)) w hn hnc ha)
  have H6 := Lib.hid (fun w ha => Join_any A n c zs w hn hnc ha)
  have H7 := Lib.hid (fun A c w hnc ha => Join_any A n c (putL (takeL zs s N L (hWord R Bd t false)) s N (fWord N)) w hn hnc ha)
  unfold TakeP at H1
  rw [hE, Int.toNat_natCast, show (1 + (R : Int) + Bd).toNat = N by omega, hL] at H1
  unfold GiveP at H3
  rw [hgE, Int.toNat_natCast, hgL, hyl] at H3
  unfold GapsP at H4 H5
  rw [he] at H4
  rw [hce, hcg] at H5
  unfold JoinP at H6 H7
  rw [he] at H6
  rw [hce, hcj, hcl] at H7
  have HAT : Hid (∀ w e w', AtP (takeL zs s N L (hWord R Bd t false)) s w e w' → Below w.heap.size w w' ∧ ∃ q, e = .returned (.tuple #[rawV q, .int .i64 0]) ∧ ObV w' w.heap.size w'.heap.size q (t, List.replicate R (-1), List.replicate Bd 0, false)) := fun w e w' hp => by
    obtain ⟨hb, hp⟩ := hp
    refine ⟨hb, ?_⟩
    rcases hp with ⟨h, _⟩ | ⟨_, j, hj, hsj, q, rfl, hq⟩ | ⟨_, hno, _⟩
    · exact absurd hye h
    · have : st (takeL zs s N L (hWord R Bd t false)) j = s := by omega
      rw [this, hob, Int.toNat_natCast, Int.toNat_natCast] at hq
      exact ⟨q, rfl, hq⟩
    · obtain ⟨j, hj, hst⟩ := mem_begins hym
      exact absurd (by rw [hst]) (hno j hj)
  have HF1 := Lib.hid (fun A n c B xs w hn hx => containsFnWords A n c B 39 (fun x => x != 0) xs w hn hx (fun args wx => Try.call39 args wx) (fun x wx => notZero_any x wx))
  have HF2 := Lib.hid (fun A n c B xs w hn hx => containsFnInts A n c B 41 (fun x => x != -1) xs w hn hx (fun args wx => Try.call41 args wx) (fun x wx => notNull_any x wx))
  have HZ1 : Hid ((List.replicate Bd (0 : Int)).any (fun x => x != 0) = false) := by
    show _ = _
    rw [List.any_eq_false]; intro x hx; rw [(List.mem_replicate.1 hx).2]; decide
  have HZ2 : Hid ((List.replicate R (-1 : Int)).any (fun x => x != -1) = false) := by
    show _ = _
    rw [List.any_eq_false]; intro x hx; rw [(List.mem_replicate.1 hx).2]; decide
  have hRB : R ≤ 256 ∧ Bd ≤ 256 := by omega
  generalize takeL zs s N L (hWord R Bd t false) = ys at *
  generalize putL ys s N (fWord N) = cs at *
  generalize joinL zs = js at *
  have HA := Lib.hid ha
  obtain ⟨G, hG⟩ : ∃ G, gapsL zs = G := ⟨_, rfl⟩
  rw [hG] at H4 H5 hgl
  have HX := Lib.hid (Box4.new w (.int .i64 R) (.int .i64 Bd) (.int .i64 t) (.bool false))
  have HBW := Lib.hid ((Below.refl w.heap.size w).alloc (Nat.le_refl _) (.cells #[.int .i64 R, .int .i64 Bd, .int .i64 t, .bool false] 24))
  clear ha hh he hs hfs hL hN hNL hfin hsL v1 v2 v3 v4 v5 hNV hcut hcut2 f1 f2 f3 f4 hE hye hym hyh hob hgE hgL hce hcg hcj hG
  go_enter Try.func7, Try.ntmps7
  go_wp2_with fail
  refine (HH.out _).mono ?_
  rintro e w0 ⟨rfl, hb0⟩
  have HX0 := Lib.hid (HX.out.below hb0 HX.out.lt)
  obtain ⟨c0, c1, c2, c3⟩ := HX0.out.cells
  have HB0 := Lib.hid (HBW.out.trans (hb0.mono HBW.out.size))
  have HA0 := Lib.hid ((HA.out.below HB0.out (Nat.le_refl _)).more HB0.out.size)
  clear hb0 HA HH HX HBW
  go_wp2_with fail
  refine (H1.out _ HA0.out).mono ?_
  rintro e w1 ⟨A1, k1, cc1, rfl, hb1, hr⟩
  have hr1 : n = k1 ∧ Fresh 42 w1 w0.heap.size A1 k1 cc1 ys := by
    rcases hr with ⟨hx, _⟩ | ⟨_, h1, h2⟩
    · exact absurd rfl hx
    · exact ⟨by rw [h1]; exact hlen.symm, h2⟩
  obtain ⟨rfl, hF1⟩ := hr1
  have hcc1 := hF1.cap.1
  have HY1 := Lib.hid hF1.arr
  have HX1 := Lib.hid (HX0.out.below hb1 HX0.out.lt)
  have HB1 := Lib.hid (HB0.out.trans (hb1.mono HB0.out.size))
  have HA1 := Lib.hid ((HA0.out.below hb1 (Nat.le_refl _)).more hb1.size)
  clear hb1 HA0 HB0 H1 hr c0 c1 c2 c3 hF1 HX0
  go_wp2_with fail
  refine (H2.out A1 cc1 _ hcc1 HY1.out).mono ?_
  intro e w2 hp
  obtain ⟨hb2, q, rfl, hq⟩ := HAT.out _ _ _ hp
  obtain ⟨qt, ra, rn, rc, ba, bn, bc, qf⟩ := q
  have q1 : qt = t := hq.tag
  have q2 : qf = false := hq.free
  have q3 : rn = R := by have := hq.refs.1; simpa using this.symm
  have q4 : bn = Bd := by have := hq.body.1; simpa using this.symm
  subst q1 q2 q3 q4
  have HRF := Lib.hid hq.refs
  have HBD := Lib.hid hq.body
  have HY2 := Lib.hid ((HY1.out.below hb2 (Nat.le_refl _)).more hb2.size)
  have HX2 := Lib.hid (HX1.out.below hb2 HX1.out.lt)
  have HB2 := Lib.hid (HB1.out.trans (hb2.mono HB1.out.size))
  have HA2 := Lib.hid ((HA1.out.below hb2 (Nat.le_refl _)).more hb2.size)
  dsimp only at HRF HBD
  unfold rawV
  dsimp only
  clear hb2 HA1 HB1 H2 hp HAT hq HY1 HX1
  have bw := (Below.refl w2.heap.size w2).alloc (Nat.le_refl _) (.cells #[.int .i64 qt, .slice ra rn rc, .slice ba bn bc, .bool false] 68)
  have bx := Box.new w2 68 #[.int .i64 qt, .slice ra rn rc, .slice ba bn bc, .bool false]
  have o0 : (w2.alloc (.cells #[.int .i64 qt, .slice ra rn rc, .slice ba bn bc, .bool false] 68)).cell? ⟨w2.heap.size, 0, none⟩ = some (.int .i64 qt) := bx.cell 0
  have o1 : (w2.alloc (.cells #[.int .i64 qt, .slice ra rn rc, .slice ba bn bc, .bool false] 68)).cell? ⟨w2.heap.size, 1, none⟩ = some (.slice ra rn rc) := bx.cell 1
  have o2 : (w2.alloc (.cells #[.int .i64 qt, .slice ra rn rc, .slice ba bn bc, .bool false] 68)).cell? ⟨w2.heap.size, 2, none⟩ = some (.slice ba bn bc) := bx.cell 2
  have o3 : (w2.alloc (.cells #[.int .i64 qt, .slice ra rn rc, .slice ba bn bc, .bool false] 68)).cell? ⟨w2.heap.size, 3, none⟩ = some (.bool false) := bx.cell 3
  obtain ⟨c0, c1, c2, c3⟩ := (HX2.out.below bw HX2.out.lt).cells
  have HC1 := Lib.hid (HF1.out ba bn bc w2.heap.size _ _ (by unfold maxLen; omega) (HBD.out.below bw (Nat.le_refl _)))
  have HC2 := Lib.hid (HF2.out ra rn rc w2.heap.size _ _ (by unfold maxLen; omega) (HRF.out.below bw (Nat.le_refl _)))
  rw [HZ1.out] at HC1
  rw [HZ2.out] at HC2
  have HY3 := Lib.hid ((HY2.out.below bw (Nat.le_refl _)).more bw.size)
  have HB3 := Lib.hid (HB2.out.trans (bw.mono HB2.out.size))
  have HA3 := Lib.hid ((HA2.out.below bw (Nat.le_refl _)).more bw.size)
  have hw0 : w.heap.size < w2.heap.size := HX2.out.lt
  clear bw bx HY2 HB2 HA2 HX2 HRF HBD HF1 HF2 HZ1 HZ2
  have n1 : ((rn : Int) != (rn : Int)) = false := by simp
  have n2 : ((bn : Int) != (bn : Int)) = false := by simp
  have n3 : (qt != qt) = false := by simp
  go_wp2_with fail
  refine HC1.out.mono ?_
  rintro e w3 ⟨rfl, rfl⟩
  clear HC1
  go_wp2_with fail
  refine HC2.out.mono ?_
  rintro e w3 ⟨rfl, rfl⟩
  clear HC2 o0 o1 o2 o3 c0 c1 c2 c3 n1 n2 n3
  generalize (w2.alloc (.cells #[.int .i64 qt, .slice ra rn rc, .slice ba bn bc, .bool false] 68)) = w3 at *
  go_wp2_with fail
  refine (H3.out A1 cc1 _ hcc1 HY3.out).mono ?_
  rintro e w4 ⟨A4, k4, c4, rfl, hb4, hr⟩
  have hr4 : n = k4 ∧ Fresh 42 w4 w3.heap.size A4 k4 c4 cs := by
    rcases hr with ⟨hx, _⟩ | ⟨_, h1, h2⟩
    · exact absurd rfl hx
    · exact ⟨by rw [h1]; exact hlen.symm, h2⟩
  obtain ⟨rfl, hF4⟩ := hr4
  have hc4 := hF4.cap.1
  have HC4 := Lib.hid hF4.arr
  have HB4 := Lib.hid (HB3.out.trans (hb4.mono HB3.out.size))
  have HA4 := Lib.hid ((HA3.out.below hb4 (Nat.le_refl _)).more hb4.size)
  clear hb4 HA3 HB3 H3 hr hF4 HY3
  go_wp2_with fail
  refine (H4.out _ HA4.out).mono ?_
  rintro e w5 ⟨A5, k5, c5, rfl, hb5, _, hr⟩
  have hr5 : k5 = G.length ∧ ArrG runC 2 w5 w5.heap.size A5 k5 G := by
    rcases hr with ⟨hx, _⟩ | ⟨_, h1, h2⟩
    · exact absurd rfl hx
    · exact ⟨h1, h2⟩
  obtain ⟨rfl, hL5⟩ := hr5
  have HL5 := Lib.hid hL5
  have HC5 := Lib.hid ((HC4.out.below hb5 (Nat.le_refl _)).more hb5.size)
  have HB5 := Lib.hid (HB4.out.trans (hb5.mono HB4.out.size))
  have HA5 := Lib.hid ((HA4.out.below hb5 (Nat.le_refl _)).more hb5.size)
  clear hb5 HA4 HB4 H4 hr hL5 HC4
  go_wp2_with fail
  refine (H5.out A4 c4 _ hc4 HC5.out).mono ?_
  rintro e w6 ⟨A6, k6, c6, rfl, hb6, _, hr⟩
  have hr6 : k6 = G.length ∧ ArrG runC 2 w6 w6.heap.size A6 k6 G := by
    rcases hr with ⟨hx, _⟩ | ⟨_, h1, h2⟩
    · exact absurd rfl hx
    · exact ⟨h1, h2⟩
  obtain ⟨rfl, hL6⟩ := hr6
  have HM6 := Lib.hid hL6
  have HL6 := Lib.hid ((HL5.out.below hb6 (Nat.le_refl _)).more hb6.size)
  have HC6 := Lib.hid ((HC5.out.below hb6 (Nat.le_refl _)).more hb6.size)
  have HB6 := Lib.hid (HB5.out.trans (hb6.mono HB5.out.size))
  have HA6 := Lib.hid ((HA5.out.below hb6 (Nat.le_refl _)).more hb6.size)
  clear hb6 HA5 HB5 H5 hr hL6 HC5 HL5
  go_wp2_with fail
  refine (H6.out _ HA6.out).mono ?_
  rintro e w7 ⟨A7, k7, c7, rfl, hb7, hr⟩
  have hr7 : n = k7 ∧ Fresh 42 w7 w6.heap.size A7 k7 c7 js := by
    rcases hr with ⟨hx, _⟩ | ⟨_, h1, h2⟩
    · exact absurd rfl hx
    · exact ⟨by rw [h1]; exact hlen.symm, h2⟩
  obtain ⟨rfl, hF7⟩ := hr7
  have HJ7 := Lib.hid hF7.arr
  have HM7 := Lib.hid ((HM6.out.below hb7 (Nat.le_refl _)).more hb7.size)
  have HL7 := Lib.hid ((HL6.out.below hb7 (Nat.le_refl _)).more hb7.size)
  have HC7 := Lib.hid ((HC6.out.below hb7 (Nat.le_refl _)).more hb7.size)
  have HB7 := Lib.hid (HB6.out.trans (hb7.mono HB6.out.size))
  clear hb7 HA6 HB6 H6 hr hF7 HC6 HL6 HM6
  go_wp2_with fail
  refine (H7.out A4 c4 _ hc4 HC7.out).mono ?_
  rintro e w8 ⟨A8, k8, c8, rfl, hb8, hr⟩
  have hr8 : n = k8 ∧ Fresh 42 w8 w7.heap.size A8 k8 c8 js := by
    rcases hr with ⟨hx, _⟩ | ⟨_, h1, h2⟩
    · exact absurd rfl hx
    · exact ⟨by rw [h1]; exact hlen.symm, h2⟩
  obtain ⟨rfl, hF8⟩ := hr8
  have HK8 := Lib.hid hF8.arr
  have HJ8 := Lib.hid ((HJ7.out.below hb8 (Nat.le_refl _)).more hb8.size)
  have HM8 := Lib.hid ((HM7.out.below hb8 (Nat.le_refl _)).more hb8.size)
  have HL8 := Lib.hid ((HL7.out.below hb8 (Nat.le_refl _)).more hb8.size)
  have HB8 := Lib.hid (HB7.out.trans (hb8.mono HB7.out.size))
  clear hb8 HB7 H7 hr hF8 HC7 HL7 HM7 HJ7
  have bw := (Below.refl w8.heap.size w8).alloc (Nat.le_refl _) (.cells #[.int .i64 0, .int .i64 0, .int .i64 0, .int .i64 0, .int .i64 0] 26)
  have HGO := Lib.hid (good_any (some ⟨w8.heap.size, 0, none⟩) 5 5 _ _ _ (by decide) (zeros_good 26 w8 5 #[.int .i64 0, .int .i64 0, .int .i64 0, .int .i64 0, .int .i64 0] rfl))
  rw [zeros_fine] at HGO
  have HR9 := Lib.hid (equalRuns A5 A6 G.length G.length c5 c6 w8.heap.size G G _ (HL8.out.below bw (Nat.le_refl _)) (HM8.out.below bw (Nat.le_refl _)) (by unfold maxLen; omega) (by unfold maxLen; omega))
  rw [show decide (G = G) = true by simp] at HR9
  have HW9 := Lib.hid (fun q => equalWords A7 A8 n n c7 c8 w8.heap.size js js _ ((HJ8.out.below bw (Nat.le_refl _)).drewN q) ((HK8.out.below bw (Nat.le_refl _)).drewN q) hn hn)
  rw [show decide (js = js) = true by simp] at HW9
  have HB9 := Lib.hid (HB8.out.trans (bw.mono HB8.out.size))
  clear bw HJ8 HK8 HM8 HL8 HB8
  go_wp2_with fail
  refine HGO.out.mono ?_
  rintro e w9 ⟨rfl, rfl⟩
  clear HGO
  generalize (w8.alloc (.cells #[.int .i64 0, .int .i64 0, .int .i64 0, .int .i64 0, .int .i64 0] 26)) = w9 at *
  go_wp2_with fail
  refine HR9.out.mono ?_
  rintro e w10 ⟨rfl, q10, rfl⟩
  have HW10 := Lib.hid (HW9.out q10)
  clear HR9 HW9
  go_wp2_with fail
  refine HW10.out.mono ?_
  rintro e w11 ⟨rfl, q11, rfl⟩
  clear HW10
  go_wp2
  go_ret
  exact ⟨rfl, below_drewN HB9.out (q10 + q11)⟩

theorem gapTurns_walk (A : Option Addr) (n c : Nat) (a r b t : Int) (f : Bool) (zs : List Int) (w : World) (hn : n ≤ maxLen) (hnc : n ≤ c) (ha : Arr .u64 w w.heap.size A n zs) :
    Calls Try.prog 7 #[.slice A n c, .int .i64 a, .agg #[.int .i64 r, .int .i64 b, .int .i64 t, .bool f]] w fun e w' => e = .returned (.bool true) ∧ Below w.heap.size w w' := by
  by_cases h : takeE zs a r b t f = 0
  · obtain ⟨h1, rfl, h3, h4, h5⟩ := takeE_zero h
    obtain ⟨s, rfl, hs, hfs⟩ := freeStart_iff.1 h4
    obtain ⟨g1, g2, _⟩ := hFault_ok h1
    obtain ⟨R, rfl⟩ := Int.eq_ofNat_of_zero_le g1
    obtain ⟨Bd, rfl⟩ := Int.eq_ofNat_of_zero_le g2
    rw [Int.toNat_natCast] at h5
    exact turns_good A n c s R Bd (1 + R + Bd) _ t zs w hn hnc ha h1 h3 hs hfs rfl rfl (by omega)
  · exact turns_bad A n c a r b t f zs w hn hnc ha h
end Go.Proofs.Ytggjgcnmkkoheaa
