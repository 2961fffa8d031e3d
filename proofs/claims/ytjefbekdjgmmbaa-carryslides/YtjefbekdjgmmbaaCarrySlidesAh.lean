/-
  Parts of the proof of CarrySlides: Objects, LayHead, RefFault.
-/
import Derived.IntWalk
import Derived.Carry
import Derived.StillTailTactics
import Derived.Deep.RegionHeld3
import Derived.Test.YtjefbekdjgmmbaaCarrySlidesAe
import Derived.Test.YtjefbekdjgmmbaaCarrySlidesAg
namespace Go.Proofs.Ytjefbekdjgmmbaa
open Go.RowKit
theorem spot_info : (Try.prog.info? 80).map (fun i => (i.zero, i.size, i.bytes)) = some (some (.agg #[.int .i64 0, .int .i64 0, .int .i64 0, .int .i64 0, .bool false]), 5, 40) := by kernel_rfl
theorem one_box {w w' : World} {a0 a1 a2 a3 : Value} (h : Below (w.alloc (.cells #[a0, a1, a2, a3] 44)).heap.size (w.alloc (.cells #[a0, a1, a2, a3] 44)) w') :
    Box4 w' w.heap.size a0 a1 a2 a3 ∧ Below w.heap.size w w' :=
  have n0 := Box4.new w a0 a1 a2 a3
  ⟨n0.below h n0.lt, below_boxed w _ h⟩
/-- What Spots answers. -/
def SpotsP (zs : List Int) (w : World) (e : Ending) (w' : World) : Prop := ∃ A c, e = .returned (.tuple #[.slice A (spList zs).length c, .int .i64 (spErr zs)]) ∧ Below w.heap.size w w' ∧ (spList zs).length ≤ c ∧ ArrG spotC 5 w' w'.heap.size A (spList zs).length (spList zs) ∧ High w.heap.size A (spList zs).length
set_option maxHeartbeats 400000 in
theorem spots_big (A : Option Addr) (n c : Nat) (zs : List Int) (w : World) (hn : n ≤ maxLen) (ha : Arr .u64 w w.heap.size A n zs) (h : 256 < n) :
    Calls Try.prog 34 #[.slice A n c] w (SpotsP zs w) := by
  unfold maxLen at hn
  have hl := ha.1
  have he := spErr_big (zs := zs) (by omega)
  have hs := spList_bad (zs := zs) (by omega)
  have h' : (256 : Int) < n := by omega
  unfold SpotsP
  rw [hs, he]
  clear ha
  go_enter Try.func34, Try.ntmps34
  go_wp2
  go_ret2
  exact ⟨_, _, rfl, Below.refl _ _, Nat.le_refl _, ArrG.zero, High.zero⟩
set_option maxHeartbeats 2000000 in
theorem spots_small (A : Option Addr) (n c : Nat) (zs : List Int) (w : World) (ha : Arr .u64 w w.heap.size A n zs) (h : n ≤ 256) :
    Calls Try.prog 34 #[.slice A n c] w (SpotsP zs w) := by
  have hl := ha.1
  have h' : ¬ (256 : Int) < n := by omega
  have hbad : fine zs 0 = false → spErr zs = 3 ∧ spList zs = [] := fun hf => by
    have h1 := spErr_bad (zs := zs) (by omega) hf
    exact ⟨h1, spList_bad (by omega)⟩
  have hgood : fine zs 0 = true → spErr zs = 0 ∧ spList zs = (begins zs 0).map (spOf zs) := fun hf => by
    have h1 := spErr_ok (zs := zs) (by omega) hf
    exact ⟨h1, spList_ok h1⟩
  have HBAD := Lib.hid hbad
  have HGOOD := Lib.hid hgood
  clear hbad hgood
  go_enter Try.func34, Try.ntmps34
  go_wp2_with fail
  go_loopw [4, 5] (fun v i wr => ∃ (a : Nat) (done : List Nat), a ≤ n ∧ i = .int .i64 a ∧ done ++ begins zs a = begins zs 0 ∧ fine zs a = fine zs 0 ∧ OwnG spotC 5 80 wr w.heap.size v (done.map (spOf zs)) ∧ Below w.heap.size w wr) (fun _ i _ => n - (intOf i).toNat)
  case atStart => exact ⟨0, [], by omega, rfl, rfl, rfl, OwnG.nil, Below.refl _ _⟩
  case round =>
    obtain ⟨a, done, haq, rfl, hd, hf, hO, hB⟩ := hrel
    by_cases hlt : a < n
    · have haW := ha.below hB (Nat.le_refl _)
      obtain ⟨b, off, rfl, hbW, hcell⟩ := haW.2.2 (by omega)
      have hc := hcell a hlt
      have hwf := haW.2.1 (nth zs a) (by rw [nth_get _ _ (by omega)]; exact List.getElem_mem _)
      rw [wf_u64] at hwf
      obtain ⟨v, hv⟩ := Int.eq_ofNat_of_zero_le hwf.1
      rw [hv] at hc
      have hv2 : v < 18446744073709551616 := by omega
      cases hbv : vBad v
      · obtain ⟨f1, f2, f3, f4, f5, f6, f7⟩ := head_fields (v := v) (by omega) hbv
        have hlong := sLong_int (v := v) (by omega) hbv
        have hE : vErr v = 0 := by simp [vErr, hbv]
        have HR := Lib.hid (fun w => hE ▸ read_any v w hv2)
        have HL := Lib.hid (fun w => lengthOk (vR v) (vB v) (vT v) (vF v) w f7)
        obtain ⟨R, hR⟩ : ∃ R, vR v = R := ⟨_, rfl⟩
        obtain ⟨Bd, hBd⟩ : ∃ R, vB v = R := ⟨_, rfl⟩
        obtain ⟨T, hT⟩ : ∃ R, vT v = R := ⟨_, rfl⟩
        obtain ⟨F, hF⟩ : ∃ R, vF v = R := ⟨_, rfl⟩
        have hsp : spOf zs a = ((a : Int), R, Bd, T, F) := by unfold spOf; rw [hv]; simp [hR, hBd, hT, hF]
        rw [hR, hBd, hT, hF] at HR HL
        rw [hR, hBd] at hlong
        rw [hR, hBd] at f5
        rw [hR] at f1
        rw [hBd] at f2
        clear hcell f3 f4 f6 f7 hE hwf hR hBd hT hF
        by_cases hfar : a + sLong v ≤ zs.length
        · have hst : stepOk zs a = true := stepOk_iff.2 ⟨by rw [hv]; exact hbv, by rw [hv]; exact hfar⟩
          have e1 := begins_step (zs := zs) (a := a) (by omega) hst
          have e2 := fine_step (zs := zs) (a := a) (by omega) hst
          have e3 := sLong_pos v
          rw [hv] at e1 e2
          obtain ⟨L, hL⟩ : ∃ L, sLong v = L := ⟨_, rfl⟩
          rw [hL] at e1 e2 e3 hlong hfar
          have hval : validB n a (1 + R + Bd) = true := validB_true (by omega)
          have HV := Lib.hid (fun w => hval ▸ valid_any n a (1 + R + Bd) w (by omega) (wf_i64.2 (by omega)) (wf_i64.2 (by omega)))
          have H1 : Hid ((done ++ [a]) ++ begins zs (a + L) = begins zs 0) := Lib.hid (by rw [← hd, e1]; simp)
          have H2 : Hid (fine zs (a + L) = fine zs 0) := Lib.hid (by rw [← hf, e2])
          have hdl : done.length ≤ 256 := by
            have h1 := congrArg List.length hd
            have h2 := begins_len (zs := zs) (a := 0)
            rw [List.length_append] at h1
            omega
          have HD := Lib.hid hdl
          have HO := Lib.hid hO
          have HS := Lib.hid hsp
          have HB := Lib.hid hB
          clear hd hf hO hB hval hdl hsp hbv hv hst e1 e2 hL haW ha
          go_wp2_with fail
          refine (HR.out _).mono ?_
          rintro e w1 ⟨rfl, b1⟩
          have HB1 := Lib.hid b1
          clear b1
          go_wp2_with fail
          refine (HL.out _).mono ?_
          rintro e w2 ⟨rfl, b2⟩
          obtain ⟨bx, b2⟩ := one_box b2
          obtain ⟨c0, c1, c2, c3⟩ := bx.cells
          have HB2 := Lib.hid b2
          clear b2 bx
          go_wp2_with fail
          refine (HV.out _).mono ?_
          rintro e w3 ⟨rfl, rfl⟩
          have hb2 : Below wr.heap.size wr w2 := HB1.out.trans (HB2.out.mono HB1.out.size)
          have hO2 := HO.out.below hb2
          obtain ⟨v', w4, hrun, hO', hB'⟩ := hO2.push (P := Try.prog) (t := 72) (ty := 72) spotC_len spotC_one (by omega) Try.underlying72 spot_info rfl (by omega) ((a : Int), R, Bd, T, F) (by have := HD.out; simp; omega) (Nat.le_trans HB.out.size hb2.size)
          have HR4 := Lib.hid hrun
          have HO4 : Hid (OwnG spotC 5 80 w4 w.heap.size v' ((done ++ [a]).map (spOf zs))) := Lib.hid (by
            rw [List.map_append, List.map_cons, List.map_nil, HS.out]; exact hO')
          have HB4 : Hid (Below w.heap.size w w4) := (HB.out.trans (hb2.mono HB.out.size)).trans hB'
          clear hb2 hO2 hrun hO' hB'
          go_wp2_with (at_builtin; refine wpList_append_run rfl (.tmp 41) (.tmp 45) 72 rfl rfl rfl HR4.out ?_)
          go_roundw
          case rel => exact ⟨a + L, done ++ [a], by omega, by rw [show ((a : Int) + (1 + R + Bd)) = ((a + L : Nat) : Int) by omega], H1.out, H2.out, HO4.out, HB4.out⟩
          case measure => simp [intOf]; omega
        · have hst : stepOk zs a = false := stepOk_far (by rw [hv]; omega)
          have e2 := fine_bad (zs := zs) (a := a) (by omega) hst
          obtain ⟨g1, g2⟩ := HBAD.out (by rw [← hf, e2])
          have hval : validB n a (1 + R + Bd) = false := validB_false (by omega)
          have HV := Lib.hid (fun w => hval ▸ valid_any n a (1 + R + Bd) w (by omega) (wf_i64.2 (by omega)) (wf_i64.2 (by omega)))
          have HB := Lib.hid hB
          have G1 := Lib.hid g1
          have G2 := Lib.hid g2
          clear hd hf hO hB hval hsp hbv hv hst e2 haW ha hlong hfar g1 g2
          go_wp2_with fail
          refine (HR.out _).mono ?_
          rintro e w1 ⟨rfl, b1⟩
          have HB1 := Lib.hid b1
          clear b1
          go_wp2_with fail
          refine (HL.out _).mono ?_
          rintro e w2 ⟨rfl, b2⟩
          obtain ⟨bx, b2⟩ := one_box b2
          obtain ⟨c0, c1, c2, c3⟩ := bx.cells
          have HB2 := Lib.hid b2
          clear b2 bx
          go_wp2_with fail
          refine (HV.out _).mono ?_
          rintro e w3 ⟨rfl, rfl⟩
          go_wp2
          go_ret2
          unfold SpotsP
          rw [G1.out, G2.out]
          exact ⟨_, _, rfl, HB.out.trans ((HB1.out.trans (HB2.out.mono HB1.out.size)).mono HB.out.size), Nat.le_refl _, ArrG.zero, High.zero⟩
      · have hst : stepOk zs a = false := stepOk_bad (by rw [hv]; exact hbv)
        have e2 := fine_bad (zs := zs) (a := a) (by omega) hst
        obtain ⟨g1, g2⟩ := HBAD.out (by rw [← hf, e2])
        have hE : vErr v = 3 := by simp [vErr, hbv]
        have HR := Lib.hid (fun w => hE ▸ read_any v w hv2)
        have HB := Lib.hid hB
        have G1 := Lib.hid g1
        have G2 := Lib.hid g2
        clear hd hf hO hB hbv hv hst e2 haW ha g1 g2 hE hcell hwf
        go_wp2_with fail
        refine (HR.out _).mono ?_
        rintro e w1 ⟨rfl, b1⟩
        have HB1 := Lib.hid b1
        clear b1
        go_wp2
        go_ret2
        unfold SpotsP
        rw [G1.out, G2.out]
        exact ⟨_, _, rfl, HB.out.trans ((HB1.out.alloc HB1.out.size _).mono HB.out.size), Nat.le_refl _, ArrG.zero, High.zero⟩
    · have hae : a = n := by omega
      have hfin : fine zs 0 = true := by rw [← hf]; exact fine_end (by omega)
      have hdo : done = begins zs 0 := by rw [← hd, begins_end (by omega)]; simp
      obtain ⟨g1, g2⟩ := HGOOD.out hfin
      rw [hdo, ← g2] at hO
      obtain ⟨A2, c2, rfl, hc2, hA⟩ := hO.arr spotC_len
      have H1 := Lib.hid hA
      have H4 := Lib.hid hO.high
      have H2 := Lib.hid hB
      have H3 := Lib.hid hc2
      have G1 := Lib.hid g1
      clear hO hA hB hd hf hfin hdo g1 g2 ha hc2
      go_wp2
      go_ret2
      unfold SpotsP
      rw [G1.out]
      exact ⟨_, _, rfl, H2.out, H3.out, H1.out, H4.out⟩
theorem Spots_any (A : Option Addr) (n c : Nat) (zs : List Int) (w : World) (hn : n ≤ maxLen) (ha : Arr .u64 w w.heap.size A n zs) :
    Calls Try.prog 34 #[.slice A n c] w (SpotsP zs w) := by
  by_cases h : n ≤ 256
  · exact spots_small A n c zs w ha h
  · exact spots_big A n c zs w hn ha (by omega)
theorem mapT : MapT Try.prog .u64 .i64 122 47 3 := ⟨Try.underlying122, Try.underlying47, Try.underlying3, fun _ => by kernel_rfl⟩
theorem u64_size : (Try.prog.info? 47).map (·.size) = some 1 := by kernel_rfl
set_option maxHeartbeats 400000 in
theorem reference_any (s : Nat) (w : World) (h : s ≤ 256) : Calls Try.prog 98 #[.int .i64 s] w fun e w' => e = .returned (.int .u64 ((s : Int) + 1)) ∧ w = w' := by
  go_enter Try.func98, Try.ntmps98
  go_wp2
  go_ret
  exact ⟨rfl, rfl⟩
set_option maxHeartbeats 400000 in
theorem refs_any (A : Option Addr) (n c : Nat) (A2 : Option Addr) (m c2 b : Nat) (zs : List Int) (s : Nat) (w : World) (B : Nat) (ha : Arr .u64 w B A n zs) (hB : B ≤ w.heap.size) (hn : n ≤ 256) (hnc : n ≤ c) (hs : s < n) (hst : stepOk zs s = true) :
    Calls Try.prog 99 #[.agg #[.slice A n c, .slice A2 m c2, .map (some b)], .agg #[.int .i64 s, .int .i64 (vR (nth zs s)), .int .i64 (vB (nth zs s)), .int .i64 (vT (nth zs s)), .bool (vF (nth zs s))]] w fun e w' =>
      ∃ D d, e = .returned (.slice D (refWords zs s).length d) ∧ Below w.heap.size w w' ∧ Arr .u64 w' B D (refWords zs s).length (refWords zs s) := by
  have hl := ha.1
  obtain ⟨R, Bd, hR, hBd, f1, f2, f3, f4, f5, f6, f7, f8⟩ := spot_facts hst ha.2.1 (by omega)
  have hrl := refWords_len hst
  have hrw : refWords zs s = (zs.drop (s + 1)).take R := by unfold refWords; rw [hR]; rfl
  rw [hR] at hrl
  rw [hR, hBd]
  obtain ⟨D, hD, hD2⟩ := run_from (P := Try.prog) Try.underlying22 u64_size A n c (s + 1) ((s : Int) + 1) (by omega) (by omega) hnc
  obtain ⟨E, hE, hE2⟩ := run_upto (P := Try.prog) Try.underlying22 u64_size D (n - (s + 1)) (c - (s + 1)) R R rfl (by omega)
  have hA := ha.cut2 (p := s + 1) (q := R) (by omega) hD2 hE2
  rw [← hrw] at hA
  rw [show (refWords zs s).length = R by rw [hrl]; simp]
  have HA := Lib.hid hA
  have g1 : IntKind.i64.wrap ((s : Int) + 1) = s + 1 := IntWalk.i64_in _ (by omega)
  clear hA hrw hrl hD2 hE2 ha hst
  generalize vT (nth zs s) = T at *
  generalize vF (nth zs s) = F at *
  have b1 := (Box.new w 124 #[.slice A n c, .slice A2 m c2, .map (some b)]).alloc (.cells #[.int .i64 s, .int .i64 R, .int .i64 Bd, .int .i64 T, .bool F] 80)
  have b2 := Box.new (w.alloc (.cells #[.slice A n c, .slice A2 m c2, .map (some b)] 124)) 80 #[.int .i64 s, .int .i64 R, .int .i64 Bd, .int .i64 T, .bool F]
  have HB := Lib.hid (((Below.refl _ w).alloc (Nat.le_refl _) (.cells #[.slice A n c, .slice A2 m c2, .map (some b)] 124)).alloc (by simp) (.cells #[.int .i64 s, .int .i64 R, .int .i64 Bd, .int .i64 T, .bool F] 80))
  have e1 : (w.alloc (.cells #[.slice A n c, .slice A2 m c2, .map (some b)] 124)).heap.size = w.heap.size + 1 := by simp
  rw [e1] at b2
  have B1 := Lib.hid b1
  have B2 := Lib.hid b2
  clear b1 b2
  go_enter Try.func99, Try.ntmps99
  go_wp2_with fail
  generalize ((w.alloc (.cells #[.slice A n c, .slice A2 m c2, .map (some b)] 124)).alloc (.cells #[.int .i64 s, .int .i64 R, .int .i64 Bd, .int .i64 T, .bool F] 80)) = W at *
  have c0 : W.cell? ⟨w.heap.size, 0, none⟩ = some (.slice A n c) := B1.out.cell 0
  have d0 : W.cell? ⟨w.heap.size + 1, 0, none⟩ = some (.int .i64 s) := B2.out.cell 0
  have d1 : W.cell? ⟨w.heap.size + 1, 1, none⟩ = some (.int .i64 R) := B2.out.cell 1
  go_quiet (fail)
  go_wp2
  go_ret
  exact ⟨_, _, rfl, below_drewN HB.out _, ((HA.out.below HB.out hB)).drewN _⟩
/-- What read answers. -/
def ReadP (A : Option Addr) (n c : Nat) (zs : List Int) (w : World) (e : Ending) (w' : World) : Prop := Below w.heap.size w w' ∧
  ((arErr zs ≠ 0 ∧ e = .returned (.tuple #[.agg #[.slice none 0 0, .slice none 0 0, .map none], .int .i64 (arErr zs)])) ∨
   (arErr zs = 0 ∧ ∃ A2 c2 b, e = .returned (.tuple #[.agg #[.slice A n c, .slice A2 (begins zs 0).length c2, .map (some b)], .int .i64 0]) ∧ (begins zs 0).length ≤ c2 ∧
      ArrG spotC 5 w' w'.heap.size A2 (begins zs 0).length (spList zs) ∧ High w.heap.size A2 (begins zs 0).length ∧ w.heap.size ≤ b ∧ MapF Try.prog .u64 .i64 47 3 w' b 300 (ixOf zs)))
set_option maxHeartbeats 400000 in
theorem read_bad1 (A : Option Addr) (n c : Nat) (zs : List Int) (w : World) (hn : n ≤ maxLen) (ha : Arr .u64 w w.heap.size A n zs) (h : spErr zs ≠ 0) :
    Calls Try.prog 69 #[.slice A n c] w (ReadP A n c zs w) := by
  have he := arErr_sp h
  have hb : (spErr zs != 0) = true := by simpa using h
  have H := Lib.hid h
  have HN := Lib.hid hn
  have HE := Lib.hid he
  clear h he hn
  have b1 := (Below.refl _ w).alloc (Nat.le_refl _) (.cells #[.slice none 0 0, .slice none 0 0, .map none] 124)
  have HA := Lib.hid ((ha.below b1 (Nat.le_refl _)).more b1.size)
  clear b1 ha
  go_enter Try.func69, Try.ntmps69
  go_wp2_with fail
  refine (Spots_any A n c zs _ HN.out HA.out).mono ?_
  rintro e w1 ⟨A2, c2, rfl, b1, _, _, _⟩
  obtain ⟨bx, b1⟩ := boxed_call b1
  have s0 := bx.soft 0
  have s1 := bx.soft 1
  have s2 := bx.soft 2
  have d0 : w1.cell? ⟨w.heap.size, 0, none⟩ = some (.slice none 0 0) := bx.cell 0
  have d1 : w1.cell? ⟨w.heap.size, 1, none⟩ = some (.slice none 0 0) := bx.cell 1
  have d2 : w1.cell? ⟨w.heap.size, 2, none⟩ = some (.map none) := bx.cell 2
  have HB := Lib.hid b1
  have BX := Lib.hid bx
  clear b1 bx HA
  generalize (spList zs).length = m at *
  go_wp2
  have BY := ((BX.out.set 0 (.slice none 0 0)).set 1 (.slice none 0 0)).set 2 (.map none)
  have HB' := below_set (below_set (below_set HB.out (Nat.le_refl _) 0 (.slice none 0 0)) (Nat.le_refl _) 1 (.slice none 0 0)) (Nat.le_refl _) 2 (.map none)
  generalize (((w1.setCell ⟨w.heap.size, 0, none⟩ (.slice none 0 0)).setCell ⟨w.heap.size, 1, none⟩ (.slice none 0 0)).setCell ⟨w.heap.size, 2, none⟩ (.map none)) = W at *
  have x0 : W.cell? ⟨w.heap.size, 0, none⟩ = some (.slice none 0 0) := BY.cell 0
  have x1 : W.cell? ⟨w.heap.size, 1, none⟩ = some (.slice none 0 0) := BY.cell 1
  have x2 : W.cell? ⟨w.heap.size, 2, none⟩ = some (.map none) := BY.cell 2
  refine bodyPost_ret (v := .tuple #[.agg #[.slice none 0 0, .slice none 0 0, .map none], .int .i64 (spErr zs)]) (by simp [results, Try.results69, go_sem, x0, x1, x2]) rfl ⟨HB', .inl ⟨by rw [HE.out]; exact H.out, by rw [HE.out]⟩⟩
/-- What holds while read goes over the spots. -/
structure ReadI (zs : List Int) (w : World) (B1 gm gh : Nat) (A : Option Addr) (n c : Nat) (A2 : Option Addr) (m c2 k : Nat) (wr : World) : Prop where
  res : Box wr w.heap.size 124 #[.slice none 0 0, .slice none 0 0, .map none]
  heap : Box wr gh 124 #[.slice A n c, .slice A2 m c2, .map (some gm)]
  map : MapF Try.prog .u64 .i64 47 3 wr gm (k + 1) (mapTo zs k)
  spots : ArrG spotC 5 wr B1 A2 m (spList zs)
  high : High (w.heap.size + 1) A2 m
  below : Below w.heap.size w wr
  o1 : w.heap.size < B1
  o2 : B1 ≤ gm
  o3 : gm < gh
section
variable {zs : List Int} {w wr wr' : World} {B1 gm gh n c m c2 k : Nat} {A A2 : Option Addr}
theorem ReadI.next (h : ReadI zs w B1 gm gh A n c A2 m c2 k wr) (hb : Below wr.heap.size wr wr') : ReadI zs w B1 gm gh A n c A2 m c2 k wr' :=
  ⟨h.res.below hb h.res.lt, h.heap.below hb h.heap.lt, h.map.below hb h.map.lt, h.spots.below hb (by have := h.map.lt; have := h.o2; omega), h.high, h.below.trans (hb.mono h.below.size), h.o1, h.o2, h.o3⟩
theorem ReadI.free (h : ReadI zs w B1 gm gh A n c A2 m c2 k wr) (hf : vF (nth zs (st zs k)) = true) : ReadI zs w B1 gm gh A n c A2 m c2 (k + 1) wr :=
  ⟨h.res, h.heap, by rw [mapTo_free hf]; exact h.map.mono (by omega), h.spots, h.high, h.below, h.o1, h.o2, h.o3⟩
theorem ReadI.live (h : ReadI zs w B1 gm gh A n c A2 m c2 k wr) (hf : vF (nth zs (st zs k)) = false) (hg : wr.grownBy wr' (some gm)) (hm : MapF Try.prog .u64 .i64 47 3 wr' gm (k + 1 + 1) (put (mapTo zs k) ((st zs k : Int) + 1) k)) : ReadI zs w B1 gm gh A n c A2 m c2 (k + 1) wr' :=
  ⟨h.res.grown hg (by have := h.o1; have := h.o2; omega), h.heap.grown hg (by have := h.o3; omega), by rw [mapTo_live hf]; exact hm,
    h.spots.below (grown_below hg h.o2 (by have := h.map.lt; have := h.o2; omega)) (Nat.le_refl _), h.high, h.below.trans (grown_below hg (by have := h.o1; have := h.o2; omega) (by have := h.below.size; omega)), h.o1, h.o2, h.o3⟩
end
theorem all_of {α : Type} [Inhabited α] {l : List α} {p : α → Bool} (h : ∀ j, j < l.length → p (nthG l j) = true) : l.all p = true := by
  rw [List.all_eq_true]
  intro x hx
  obtain ⟨i, hi, rfl⟩ := List.getElem_of_mem hx
  have := h i hi
  rwa [nthG_get _ _ hi] at this
theorem all_not {α : Type} [Inhabited α] {l : List α} {p : α → Bool} {j : Nat} (hj : j < l.length) (h : p (nthG l j) = false) : l.all p = false := by
  rw [List.all_eq_false]
  exact ⟨_, List.getElem_mem hj, by rw [← nthG_get _ _ hj, h]; decide⟩
set_option maxRecDepth 8000 in
set_option maxHeartbeats 4000000 in
theorem read_good (A : Option Addr) (n c : Nat) (zs : List Int) (w : World) (hnc : n ≤ c) (ha : Arr .u64 w w.heap.size A n zs) (h : spErr zs = 0) :
    Calls Try.prog 69 #[.slice A n c] w (ReadP A n c zs w) := by
  obtain ⟨h256, hfine⟩ := spErr_zero h
  have hl := ha.1
  have hL := spList_ok h
  have hbl := begins_len (zs := zs) (a := 0)
  have hlen : (spList zs).length = (begins zs 0).length := by rw [hL]; simp
  obtain ⟨m, hm⟩ : ∃ m, (begins zs 0).length = m := ⟨_, rfl⟩
  rw [hm] at hlen hbl
  have hspot : ∀ k, k < m → nthG (spList zs) k = spOf zs (st zs k) ∧ st zs k < n ∧ stepOk zs (st zs k) = true := fun k hk => by
    have h1 := begins_mem (st_mem (zs := zs) (k := k) (by omega))
    exact ⟨by rw [hL, nthG_map _ _ _ (by omega)]; rfl, by omega, h1.2.2⟩
  have b1 := (Below.refl _ w).alloc (Nat.le_refl _) (.cells #[.slice none 0 0, .slice none 0 0, .map none] 124)
  have HA := Lib.hid ((ha.below b1 (Nat.le_refl _)).more b1.size)
  have HA0 := Lib.hid ha
  have HE := Lib.hid h
  have HS := Lib.hid hspot
  have HM := Lib.hid hm
  clear b1 ha h hfine hL hspot hm
  have hmm := @run_makeMap Try.prog
  go_enter Try.func69, Try.ntmps69
  go_wp2_with fail
  refine (Spots_any A n c zs _ (by unfold maxLen; omega) HA.out).mono ?_
  rintro e w1 ⟨A2, c2, rfl, b1, hc2, hA2, hi2⟩
  rw [HE.out]
  rw [hlen] at hA2 hc2 hi2 ⊢
  have hi2 := hi2.less (lo' := w.heap.size + 1) (by simp)
  have HI2 := Lib.hid hi2
  obtain ⟨bx, b1⟩ := boxed_call b1
  have HB1 := Lib.hid b1
  have BX := Lib.hid bx
  have HA2 := Lib.hid hA2
  have HC2 := Lib.hid hc2
  clear b1 bx HA hA2 hc2 hi2
  go_wp2_with (refine wpList_insert_map mapT _ rfl _ _ _ rfl rfl rfl rfl (MapF.made Try.prog .u64 .i64 47 3 w1) (by unfold maxLen; omega) (by decide) (by decide) ?_; intro w2 hm2 hg2)
  have hsz : w1.heap.size + 1 ≤ w2.heap.size := by have := hg2.size; simpa using this
  have bm : Below w1.heap.size w1 w2 := ((Below.refl _ w1).alloc (Nat.le_refl _) _).trans (grown_below hg2 (Nat.le_refl _) (by simp))
  have hI : ReadI zs w w1.heap.size w1.heap.size w2.heap.size A n c A2 m c2 0 (w2.alloc (.cells #[.slice A n c, .slice A2 m c2, .map (some w1.heap.size)] 124)) :=
    ⟨(BX.out.below bm BX.out.lt).alloc _, Box.new _ _ _, hm2.alloc _, HA2.out.below (bm.alloc (by omega) _) (Nat.le_refl _), HI2.out, (HB1.out.trans (bm.mono HB1.out.size)).alloc (by have := HB1.out.size; omega) _, BX.out.lt, Nat.le_refl _, by omega⟩
  have HI := Lib.hid hI
  clear hI hsz bm hm2 hg2 hmm
  obtain ⟨gm, hgm⟩ : ∃ g, w1.heap.size = g := ⟨_, rfl⟩
  obtain ⟨gh, hgh⟩ : ∃ g, w2.heap.size = g := ⟨_, rfl⟩
  rw [hgm, hgh] at HI
  rw [hgm, hgh]
  go_loopw [31] (fun i wr => ∃ k : Nat, k ≤ m ∧ i = .int .i64 k ∧ Hid (ReadI zs w gm gm gh A n c A2 m c2 k wr)) (fun i _ => m - (intOf i).toNat)
  case atStart => exact ⟨0, by omega, rfl, HI⟩
  case round =>
    obtain ⟨k, hk, rfl, hI⟩ := hrel
    clear HI BX HB1 HA2
    by_cases hlt : k < m
    · obtain ⟨hs, hsn, hst⟩ := HS.out k hlt
      obtain ⟨b, off, rfl, _, q0, q1, q2, q3, q4⟩ := hI.out.spots.spot hlt
      rw [hs] at q0 q1 q2 q3 q4
      unfold spOf at q0 q1 q2 q3 q4
      simp only at q0 q1 q2 q3 q4
      cases hf : vF (nth zs (st zs k))
      · have HF := Lib.hid hf
        rw [hf] at q4
        have hnx := Lib.hid (hI.out.next ((Below.refl _ wr).alloc (Nat.le_refl _) (.cells #[.int .i64 (st zs k), .int .i64 (vR (nth zs (st zs k))), .int .i64 (vB (nth zs (st zs k))), .int .i64 (vT (nth zs (st zs k))), .bool false] 80)))
        have HBX := Lib.hid (Box.new wr 80 #[.int .i64 (st zs k), .int .i64 (vR (nth zs (st zs k))), .int .i64 (vB (nth zs (st zs k))), .int .i64 (vT (nth zs (st zs k))), .bool false])
        clear hf hst hs hI
        obtain ⟨s, hse⟩ : ∃ s, st zs k = s := ⟨_, rfl⟩
        have HSE := Lib.hid hse
        rw [hse] at q0 q1 q2 q3 hnx hsn HBX
        clear hse
        generalize vR (nth zs s) = R at *
        generalize vB (nth zs s) = Bd at *
        generalize vT (nth zs s) = T at *
        go_wp2_with fail
        generalize (wr.alloc (.cells #[.int .i64 s, .int .i64 R, .int .i64 Bd, .int .i64 T, .bool false] 80)) = W at *
        have e0 : W.cell? ⟨wr.heap.size, 0, none⟩ = some (.int .i64 s) := HBX.out.cell 0
        have e1 : W.cell? ⟨gh, 2, none⟩ = some (.map (some gm)) := hnx.out.heap.cell 2
        refine wp_region_still_tail 6 (by kernel_rfl) (by kernel_rfl) ?_
        simp only [List.take_succ_cons, List.take_zero, List.drop_succ_cons, List.drop_zero]
        repeat still_step
        still_call ((reference_any s _ (by omega)).mono fun _ _ h => ⟨h.1, h.2.symm⟩)
        repeat still_step
        refine wpStill_nil ?_
        change wpList _ _ _ _ _ (W.drewN 1)
        refine wpList_store_map mapT _ rfl _ _ _ rfl rfl rfl rfl (hnx.out.map.drewN 1) (by unfold maxLen; omega) (wf_u64.2 (by omega)) (wf_i64.2 (by omega)) ?_
        intro w3 hm3 hg3
        have hN : ReadI zs w gm gm gh (A) n c (some ⟨b, off, none⟩) m c2 (k + 1) w3 := by
          refine ReadI.live (wr := W.drewN 1) (hnx.out.next (wr' := W.drewN 1) (below_drewN (Below.refl _ _) 1)) HF.out hg3 ?_
          rw [HSE.out]; exact hm3
        have HN := Lib.hid hN
        clear hN hm3 hg3 e0 e1 q0 q1 q2 q3 q4
        go_wp2
        go_roundw
        case rel => exact ⟨k + 1, by omega, by go_num, HN.out⟩
        case measure => simp [intOf]; omega
      · have HF := Lib.hid hf
        rw [hf] at q4
        have hnx := Lib.hid ((hI.out.next ((Below.refl _ wr).alloc (Nat.le_refl _) (.cells #[.int .i64 (st zs k), .int .i64 (vR (nth zs (st zs k))), .int .i64 (vB (nth zs (st zs k))), .int .i64 (vT (nth zs (st zs k))), .bool true] 80))).free hf)
        clear hf hst hs hI
        generalize vR (nth zs (st zs k)) = R at *
        generalize vB (nth zs (st zs k)) = Bd at *
        generalize vT (nth zs (st zs k)) = T at *
        generalize st zs k = s at *
        go_wp2
        go_roundw
        case rel => exact ⟨k + 1, by omega, by go_num, hnx.out⟩
        case measure => simp [intOf]; omega
    · obtain rfl : k = m := by omega
      clear hlt hlen
      have HX : Hid (mapTo zs k = ixOf zs) := Lib.hid (by unfold ixOf; rw [HM.out])
      go_wp2_with fail
      go_loopw [49] (fun i wr => ∃ j : Nat, j ≤ k ∧ i = .int .i64 j ∧ Hid (∀ i, i < j → refsIn zs (st zs i) = true) ∧ Hid (ReadI zs w gm gm gh A n c A2 k c2 k wr)) (fun i _ => k - (intOf i).toNat)
      case atStart => exact ⟨0, by omega, rfl, (fun i hi => absurd hi (by omega)), hI⟩
      case round =>
        obtain ⟨j, hj, rfl, HP, hJ⟩ := hrel
        clear hI
        by_cases hlt : j < k
        · obtain ⟨hs, hsn, hst⟩ := HS.out j hlt
          obtain ⟨b, off, rfl, _, q0, q1, q2, q3, q4⟩ := hJ.out.spots.spot hlt
          rw [hs] at q0 q1 q2 q3 q4
          unfold spOf at q0 q1 q2 q3 q4
          simp only at q0 q1 q2 q3 q4
          have hba := (Below.refl _ wr).alloc (Nat.le_refl _) (.cells #[.int .i64 (st zs j), .int .i64 (vR (nth zs (st zs j))), .int .i64 (vB (nth zs (st zs j))), .int .i64 (vT (nth zs (st zs j))), .bool (vF (nth zs (st zs j)))] 80)
          have hnx := hJ.out.next hba
          have HBX := Lib.hid (Box.new wr 80 #[.int .i64 (st zs j), .int .i64 (vR (nth zs (st zs j))), .int .i64 (vB (nth zs (st zs j))), .int .i64 (vT (nth zs (st zs j))), .bool (vF (nth zs (st zs j)))])
          have HC := Lib.hid (refs_any A n c (some ⟨b, off, none⟩) k c2 gm zs (st zs j) _ w.heap.size (HA0.out.below hnx.below (Nat.le_refl _)) hnx.below.size (by omega) hnc hsn hst)
          have h0 := hnx.heap.cell 0
          have h1 := hnx.heap.cell 1
          have h2 := hnx.heap.cell 2
          rw [show (#[.slice A n c, .slice (some ⟨b, off, none⟩) k c2, .map (some gm)] : Array Value)[0]? = some (.slice A n c) from rfl] at h0
          rw [show (#[.slice A n c, .slice (some ⟨b, off, none⟩) k c2, .map (some gm)] : Array Value)[1]? = some (.slice (some ⟨b, off, none⟩) k c2) from rfl] at h1
          rw [show (#[.slice A n c, .slice (some ⟨b, off, none⟩) k c2, .map (some gm)] : Array Value)[2]? = some (.map (some gm)) from rfl] at h2
          have HNX := Lib.hid hnx
          clear hba hnx hs hst hJ
          obtain ⟨s, hse⟩ : ∃ s, st zs j = s := ⟨_, rfl⟩
          have HSE := Lib.hid hse
          rw [hse] at q0 q1 q2 q3 q4 HNX hsn HBX HC h0 h1 h2
          clear hse
          generalize vR (nth zs s) = R at *
          generalize vB (nth zs s) = Bd at *
          generalize vT (nth zs s) = T at *
          generalize vF (nth zs s) = F at *
          go_wp2_with fail
          refine HC.out.mono ?_
          rintro e w3 ⟨D, d, rfl, b3, hD⟩
          have HJ3 := Lib.hid (HNX.out.next b3)
          have HD := Lib.hid hD
          obtain ⟨rl, hrl⟩ : ∃ r, (refWords zs s).length = r := ⟨_, rfl⟩
          rw [hrl] at HD ⊢
          have hrl2 : rl ≤ 256 := by
            have : (refWords zs s).length ≤ zs.length := by unfold refWords; simp; omega
            omega
          have HRL := Lib.hid hrl
          clear b3 hD HC HNX HBX q0 q1 q2 q3 q4 h0 h1 h2 hrl
          go_wp2_with fail
          go_loopw [57] (fun i wx => ∃ i' : Nat, i' ≤ rl ∧ i = .int .i64 i' ∧ Hid (∀ x, x < i' → (ixOf zs (nth (refWords zs s) x)).isSome = true) ∧ Hid (ReadI zs w gm gm gh A n c (some ⟨b, off, none⟩) k c2 k wx) ∧ Hid (Arr .u64 wx w.heap.size D rl (refWords zs s))) (fun i _ => rl - (intOf i).toNat)
          case atStart => exact ⟨0, by omega, rfl, (fun i hi => absurd hi (by omega)), HJ3, HD⟩
          case round =>
            obtain ⟨i, hi, rfl, HQ, hJ, hA⟩ := hrel
            clear HJ3 HD
            by_cases hil : i < rl
            · obtain ⟨b4, o4, rfl, _, hcs⟩ := hA.out.2.2 (by omega)
              have hc4 := hcs i hil
              clear hcs
              have hwf := hA.out.2.1 (nth (refWords zs s) i) (by rw [nth_get _ _ (by have := HRL.out; omega)]; exact List.getElem_mem _)
              have hlk := hJ.out.map.lookOk mapT hwf
              rw [HX.out] at hlk
              have h2 : wr.cell? ⟨gh, 2, none⟩ = some (.map (some gm)) := hJ.out.heap.cell 2
              clear hwf
              cases ho : (ixOf zs (nth (refWords zs s) i)).isSome
              · have HO := Lib.hid ho
                rw [ho] at hlk
                generalize (ixOf zs (nth (refWords zs s) i)).getD 0 = V at *
                have s0 := hJ.out.res.soft 0
                have s1 := hJ.out.res.soft 1
                have s2 := hJ.out.res.soft 2
                have d0 : wr.cell? ⟨w.heap.size, 0, none⟩ = some (.slice none 0 0) := hJ.out.res.cell 0
                have d1 : wr.cell? ⟨w.heap.size, 1, none⟩ = some (.slice none 0 0) := hJ.out.res.cell 1
                have d2 : wr.cell? ⟨w.heap.size, 2, none⟩ = some (.map none) := hJ.out.res.cell 2
                have HAR : Hid (arErr zs = 5) := Lib.hid (arErr_none HE.out (all_not (j := j) (by rw [HM.out]; exact hlt) (by
                  show refsIn zs (st zs j) = false
                  rw [HSE.out]
                  exact all_not (j := i) (by rw [HRL.out]; exact hil) HO.out)))
                clear ho hA HQ HP
                obtain ⟨X, hX⟩ : ∃ X, nth (refWords zs s) i = X := ⟨_, rfl⟩
                rw [hX] at hlk hc4
                clear hX HO
                go_wp2
                have BY := ((hJ.out.res.set 0 (.slice none 0 0)).set 1 (.slice none 0 0)).set 2 (.map none)
                have HB' := below_set (below_set (below_set hJ.out.below (Nat.le_refl _) 0 (.slice none 0 0)) (Nat.le_refl _) 1 (.slice none 0 0)) (Nat.le_refl _) 2 (.map none)
                generalize (((wr.setCell ⟨w.heap.size, 0, none⟩ (.slice none 0 0)).setCell ⟨w.heap.size, 1, none⟩ (.slice none 0 0)).setCell ⟨w.heap.size, 2, none⟩ (.map none)) = W at *
                have x0 : W.cell? ⟨w.heap.size, 0, none⟩ = some (.slice none 0 0) := BY.cell 0
                have x1 : W.cell? ⟨w.heap.size, 1, none⟩ = some (.slice none 0 0) := BY.cell 1
                have x2 : W.cell? ⟨w.heap.size, 2, none⟩ = some (.map none) := BY.cell 2
                refine bodyPost_ret (v := .tuple #[.agg #[.slice none 0 0, .slice none 0 0, .map none], .int .i64 5]) (by simp [results, Try.results69, go_sem, x0, x1, x2]) rfl ⟨HB', .inl ⟨by rw [HAR.out]; decide, by rw [HAR.out]⟩⟩
              · have HO := Lib.hid ho
                rw [ho] at hlk
                generalize (ixOf zs (nth (refWords zs s) i)).getD 0 = V at *
                clear ho
                obtain ⟨X, hX⟩ : ∃ X, nth (refWords zs s) i = X := ⟨_, rfl⟩
                rw [hX] at hlk hc4
                have HXX := Lib.hid hX
                clear hX
                go_wp2
                go_roundw
                case rel =>
                  refine ⟨i + 1, by omega, by go_num, fun x hx => ?_, hJ, hA⟩
                  rcases Nat.lt_succ_iff_lt_or_eq.1 hx with h | h
                  · exact HQ.out x h
                  · rw [h]; exact HO.out
                case measure => simp [intOf]; omega
            · obtain rfl : i = rl := by omega
              have HPn : Hid (∀ i, i < j + 1 → refsIn zs (st zs i) = true) := fun x hx => by
                rcases Nat.lt_succ_iff_lt_or_eq.1 hx with h | h
                · exact HP.out x h
                · rw [h, HSE.out]
                  exact all_of fun y hy => HQ.out y (by rw [HRL.out] at hy; exact hy)
              clear HQ HP
              go_wp2
              go_roundw
              case rel => exact ⟨j + 1, by omega, by go_num, HPn, hJ⟩
              case measure => simp [intOf]; omega
        · obtain rfl : j = k := by omega
          have HAR : Hid (arErr zs = 0) := Lib.hid (arErr_ok HE.out (all_of (l := begins zs 0) (p := refsIn zs) fun x hx => HP.out x (by rw [HM.out] at hx; exact hx)))
          have s0 := hJ.out.res.soft 0
          have s1 := hJ.out.res.soft 1
          have s2 := hJ.out.res.soft 2
          have d0 : wr.cell? ⟨w.heap.size, 0, none⟩ = some (.slice none 0 0) := hJ.out.res.cell 0
          have d1 : wr.cell? ⟨w.heap.size, 1, none⟩ = some (.slice none 0 0) := hJ.out.res.cell 1
          have d2 : wr.cell? ⟨w.heap.size, 2, none⟩ = some (.map none) := hJ.out.res.cell 2
          have h0 : wr.cell? ⟨gh, 0, none⟩ = some (.slice A n c) := hJ.out.heap.cell 0
          have h1 : wr.cell? ⟨gh, 1, none⟩ = some (.slice A2 j c2) := hJ.out.heap.cell 1
          have h2 : wr.cell? ⟨gh, 2, none⟩ = some (.map (some gm)) := hJ.out.heap.cell 2
          clear HP
          go_wp2
          have BY := ((hJ.out.res.set 0 (.slice A n c)).set 1 (.slice A2 j c2)).set 2 (.map (some gm))
          have HB' := below_set (below_set (below_set hJ.out.below (Nat.le_refl _) 0 (.slice A n c)) (Nat.le_refl _) 1 (.slice A2 j c2)) (Nat.le_refl _) 2 (.map (some gm))
          have hsp := ((hJ.out.spots.setOther hJ.out.high (Nat.lt_succ_self _) 0 (.slice A n c)).setOther hJ.out.high (Nat.lt_succ_self _) 1 (.slice A2 j c2)).setOther hJ.out.high (Nat.lt_succ_self _) 2 (.map (some gm))
          have hmp := ((hJ.out.map.setOther (g := w.heap.size) (by have := hJ.out.o1; have := hJ.out.o2; omega) 0 (.slice A n c)).setOther (g := w.heap.size) (by have := hJ.out.o1; have := hJ.out.o2; omega) 1 (.slice A2 j c2)).setOther (g := w.heap.size) (by have := hJ.out.o1; have := hJ.out.o2; omega) 2 (.map (some gm))
          have hgs := hJ.out.map.lt
          have hws : wr.heap.size = (((wr.setCell ⟨w.heap.size, 0, none⟩ (.slice A n c)).setCell ⟨w.heap.size, 1, none⟩ (.slice A2 j c2)).setCell ⟨w.heap.size, 2, none⟩ (.map (some gm))).heap.size := by simp [World.setCell]
          generalize (((wr.setCell ⟨w.heap.size, 0, none⟩ (.slice A n c)).setCell ⟨w.heap.size, 1, none⟩ (.slice A2 j c2)).setCell ⟨w.heap.size, 2, none⟩ (.map (some gm))) = W at *
          have x0 : W.cell? ⟨w.heap.size, 0, none⟩ = some (.slice A n c) := BY.cell 0
          have x1 : W.cell? ⟨w.heap.size, 1, none⟩ = some (.slice A2 j c2) := BY.cell 1
          have x2 : W.cell? ⟨w.heap.size, 2, none⟩ = some (.map (some gm)) := BY.cell 2
          refine bodyPost_ret (v := .tuple #[.agg #[.slice A n c, .slice A2 j c2, .map (some gm)], .int .i64 0]) (by simp [results, Try.results69, go_sem, x0, x1, x2]) rfl ⟨HB', .inr ⟨HAR.out, A2, c2, gm, by rw [HM.out], by rw [HM.out]; exact HC2.out, by rw [HM.out]; exact hsp.more (by rw [← hws]; omega), by rw [HM.out]; exact hJ.out.high.less (by omega), by have := hJ.out.o1; have := hJ.out.o2; omega, by rw [← HX.out]; exact hmp.mono (by omega)⟩⟩
theorem i64_info : (Try.prog.info? 3).map (fun i => (i.zero, i.size, i.bytes)) = some (some (.int .i64 0), 1, 8) := by kernel_rfl
/-- What holds while object goes over the references. -/
structure ObjI (zs : List Int) (s : Nat) (w : World) (A : Option Addr) (n c : Nat) (A2 : Option Addr) (m c2 b N R Bd : Nat) (T : Int) (F : Bool) (i : Nat) (v : Value) (wr : World) : Prop where
  hb : Box wr w.heap.size 124 #[.slice A n c, .slice A2 m c2, .map (some b)]
  sb : Box wr (w.heap.size + 1) 80 #[.int .i64 s, .int .i64 R, .int .i64 Bd, .int .i64 T, .bool F]
  rb : Box wr (w.heap.size + 1 + 1) 41 #[.int .i64 0, .slice none 0 0, .slice none 0 0, .bool false]
  ob : Box wr (w.heap.size + 1 + 1 + 1) 41 #[.int .i64 T, v, .slice none 0 0, .bool F]
  own : Own .i64 3 wr (w.heap.size + 1 + 1 + 1 + 1) v (((refWords zs s).take i).map (fun x => (ixOf zs x).getD 0))
  below : Below w.heap.size w wr
section
variable {zs : List Int} {s : Nat} {w : World} {A : Option Addr} {n c : Nat} {A2 : Option Addr} {m c2 b N R Bd : Nat} {T : Int} {F : Bool} {i : Nat} {v v' : Value} {wr wr' : World}
theorem ObjI.next (h : ObjI zs s w A n c A2 m c2 b N R Bd T F i v wr) (hb : Below wr.heap.size wr wr') : ObjI zs s w A n c A2 m c2 b N R Bd T F i v wr' :=
  ⟨h.hb.below hb h.hb.lt, h.sb.below hb h.sb.lt, h.rb.below hb h.rb.lt, h.ob.below hb h.ob.lt, h.own.below hb, h.below.trans (hb.mono h.below.size)⟩
theorem ObjI.size (h : ObjI zs s w A n c A2 m c2 b N R Bd T F i v wr) : w.heap.size + 1 + 1 + 1 + 1 ≤ wr.heap.size := h.ob.lt
theorem ObjI.push (h : ObjI zs s w A n c A2 m c2 b N R Bd T F i v wr) (hb : Below (w.heap.size + 1 + 1 + 1 + 1) wr wr') (hO : Own .i64 3 wr' (w.heap.size + 1 + 1 + 1 + 1) v' (((refWords zs s).take (i + 1)).map (fun x => (ixOf zs x).getD 0))) :
    ObjI zs s w A n c A2 m c2 b N R Bd T F (i + 1) v' (wr'.setCell ⟨w.heap.size + 1 + 1 + 1, 1, none⟩ v') :=
  ⟨by
    have := (h.hb.below hb (by omega))
    exact (show _ = _ from by
      show ((wr'.setCell _ _).heap)[w.heap.size]? = _
      show (wr'.heap.modify (w.heap.size + 1 + 1 + 1) _)[w.heap.size]? = _
      rw [Array.getElem?_modify, if_neg (by omega)]; exact this),
   by
    have := (h.sb.below hb (by omega))
    show (wr'.heap.modify (w.heap.size + 1 + 1 + 1) _)[w.heap.size + 1]? = _
    rw [Array.getElem?_modify, if_neg (by omega)]; exact this,
   by
    have := (h.rb.below hb (by omega))
    show (wr'.heap.modify (w.heap.size + 1 + 1 + 1) _)[w.heap.size + 1 + 1]? = _
    rw [Array.getElem?_modify, if_neg (by omega)]; exact this,
   (h.ob.below hb (by omega)).set 1 v', hO.setOther (by omega) 1 v', below_set (h.below.trans (hb.mono (by omega))) (by omega) 1 v'⟩
end
set_option maxRecDepth 8000 in
set_option maxHeartbeats 4000000 in
theorem object_any (A : Option Addr) (n c : Nat) (A2 : Option Addr) (m c2 b N : Nat) (zs : List Int) (s : Nat) (w : World) (B : Nat) (ha : Arr .u64 w B A n zs) (hB : B ≤ w.heap.size) (hn : n ≤ 256) (hnc : n ≤ c) (hs : s < n) (hst : stepOk zs s = true)
    (hM : MapF Try.prog .u64 .i64 47 3 w b N (ixOf zs)) :
    Calls Try.prog 70 #[.agg #[.slice A n c, .slice A2 m c2, .map (some b)], .agg #[.int .i64 s, .int .i64 (vR (nth zs s)), .int .i64 (vB (nth zs s)), .int .i64 (vT (nth zs s)), .bool (vF (nth zs s))]] w fun e w' =>
      ∃ r, e = .returned (rawV r) ∧ Below w.heap.size w w' ∧ ObV w' w.heap.size w'.heap.size r (obOf zs s) := by
  have hl := ha.1
  obtain ⟨R, Bd, hR, hBd, f1, f2, f3, f4, f5, f6, f7, f8⟩ := spot_facts hst ha.2.1 (by omega)
  have hrl := refWords_len hst
  have hbl := bodyWords_len hst
  have hbw : bodyWords zs s = (zs.drop (s + 1 + R)).take Bd := by unfold bodyWords; rw [hR, hBd]; rfl
  rw [hR] at hrl
  rw [hBd] at hbl
  simp only [Int.toNat_natCast] at hrl hbl
  obtain ⟨D, hD, hD2⟩ := run_from (P := Try.prog) Try.underlying22 u64_size A n c (s + 1 + R) ((s : Int) + 1 + R) (by omega) (by omega) hnc
  obtain ⟨E, hE, hE2⟩ := run_upto (P := Try.prog) Try.underlying22 u64_size D (n - (s + 1 + R)) (c - (s + 1 + R)) Bd Bd rfl (by omega)
  have hA := ha.cut2 (p := s + 1 + R) (q := Bd) (by omega) hD2 hE2
  rw [← hbw] at hA
  have HC := Lib.hid (fun w B ha hB => refs_any A n c A2 m c2 b zs s w B ha hB hn hnc hs hst)
  rw [hR, hBd] at HC
  have HO : Hid (obOf zs s = (vT (nth zs s), (refWords zs s).map (fun v => (ixOf zs v).getD 0), bodyWords zs s, vF (nth zs s))) := Lib.hid rfl
  rw [hR, hBd]
  have HD := Lib.hid hD
  have HE := Lib.hid hE
  have HAB := Lib.hid hA
  have HA := Lib.hid ha
  have HM := Lib.hid hM
  have HRL := Lib.hid hrl
  have HBL := Lib.hid hbl
  clear hA hbw hrl hbl hD2 hE2 ha hst hM hD hE f8 hR hBd
  generalize vT (nth zs s) = T at *
  generalize vF (nth zs s) = F at *
  go_enter Try.func70, Try.ntmps70
  go_wp2_with fail
  have n1 := Box.new w 124 #[.slice A n c, .slice A2 m c2, .map (some b)]
  have n2 := Box.new (w.alloc (.cells #[.slice A n c, .slice A2 m c2, .map (some b)] 124)) 80 #[.int .i64 s, .int .i64 R, .int .i64 Bd, .int .i64 T, .bool F]
  have n3 := Box.new ((w.alloc (.cells #[.slice A n c, .slice A2 m c2, .map (some b)] 124)).alloc (.cells #[.int .i64 s, .int .i64 R, .int .i64 Bd, .int .i64 T, .bool F] 80)) 41 #[.int .i64 0, .slice none 0 0, .slice none 0 0, .bool false]
  have n4 := Box.new (((w.alloc (.cells #[.slice A n c, .slice A2 m c2, .map (some b)] 124)).alloc (.cells #[.int .i64 s, .int .i64 R, .int .i64 Bd, .int .i64 T, .bool F] 80)).alloc (.cells #[.int .i64 0, .slice none 0 0, .slice none 0 0, .bool false] 41)) 41 #[.int .i64 T, .slice none 0 0, .slice none 0 0, .bool F]
  have bb : Below w.heap.size w ((((w.alloc (.cells #[.slice A n c, .slice A2 m c2, .map (some b)] 124)).alloc (.cells #[.int .i64 s, .int .i64 R, .int .i64 Bd, .int .i64 T, .bool F] 80)).alloc (.cells #[.int .i64 0, .slice none 0 0, .slice none 0 0, .bool false] 41)).alloc (.cells #[.int .i64 T, .slice none 0 0, .slice none 0 0, .bool F] 41)) :=
    ((((Below.refl _ w).alloc (Nat.le_refl _) _).alloc (by simp) _).alloc (by simp; omega) _).alloc (by simp; omega) _
  have hI : ObjI zs s w A n c A2 m c2 b N R Bd T F 0 (.slice none 0 0) ((((w.alloc (.cells #[.slice A n c, .slice A2 m c2, .map (some b)] 124)).alloc (.cells #[.int .i64 s, .int .i64 R, .int .i64 Bd, .int .i64 T, .bool F] 80)).alloc (.cells #[.int .i64 0, .slice none 0 0, .slice none 0 0, .bool false] 41)).alloc (.cells #[.int .i64 T, .slice none 0 0, .slice none 0 0, .bool F] 41)) := by
    refine ⟨((n1.alloc _).alloc _).alloc _, ?_, ?_, ?_, Own.nil, bb⟩
    · have := (n2.alloc (.cells #[.int .i64 0, .slice none 0 0, .slice none 0 0, .bool false] 41)).alloc (.cells #[.int .i64 T, .slice none 0 0, .slice none 0 0, .bool F] 41)
      simpa using this
    · have := n3.alloc (.cells #[.int .i64 T, .slice none 0 0, .slice none 0 0, .bool F] 41)
      simpa using this
    · simpa using n4
  have HI := Lib.hid hI
  clear n1 n2 n3 n4 bb hI
  generalize ((((w.alloc (.cells #[.slice A n c, .slice A2 m c2, .map (some b)] 124)).alloc (.cells #[.int .i64 s, .int .i64 R, .int .i64 Bd, .int .i64 T, .bool F] 80)).alloc (.cells #[.int .i64 0, .slice none 0 0, .slice none 0 0, .bool false] 41)).alloc (.cells #[.int .i64 T, .slice none 0 0, .slice none 0 0, .bool F] 41)) = W at *
  refine (HC.out W B (HA.out.below HI.out.below hB) (Nat.le_trans hB HI.out.below.size)).mono ?_
  rintro e w3 ⟨D3, d3, rfl, b3, hD3⟩
  have HI3 := Lib.hid (HI.out.next b3)
  have HD3 := Lib.hid hD3
  rw [HRL.out] at HD3 ⊢
  clear b3 hD3 HC HI
  go_wp2_with fail
  go_loopw [19] (fun i wr => ∃ (k : Nat) (v : Value), k ≤ R ∧ i = .int .i64 k ∧ Hid (ObjI zs s w A n c A2 m c2 b N R Bd T F k v wr) ∧ Hid (Arr .u64 wr B D3 R (refWords zs s))) (fun i _ => R - (intOf i).toNat)
  case atStart => exact ⟨0, _, by omega, rfl, HI3, HD3⟩
  case round =>
    obtain ⟨k, v, hk, rfl, hI, hA3⟩ := hrel
    clear HI3 HD3
    by_cases hlt : k < R
    · obtain ⟨b4, o4, rfl, _, hcs⟩ := hA3.out.2.2 (by omega)
      have hc4 := hcs k hlt
      have hwf := hA3.out.2.1 (nth (refWords zs s) k) (by rw [nth_get _ _ (by have := HRL.out; omega)]; exact List.getElem_mem _)
      clear hcs
      have hM := HM.out.below hI.out.below HM.out.lt
      have hlk := hM.look mapT hwf
      have hwv := hM.wf mapT hwf
      have htk : (refWords zs s).take (k + 1) = (refWords zs s).take k ++ [nth (refWords zs s) k] := by
        rw [nth_get _ _ (by have := HRL.out; omega), List.take_succ_eq_append_getElem]
      have hlen : (((refWords zs s).take k).map (fun x => (ixOf zs x).getD 0)).length ≤ 256 := by simp; omega
      obtain ⟨v', w4, hrun, hO', hB'⟩ := hI.out.own.push (P := Try.prog) (t := 23) (ty := 23) Try.underlying23 i64_info (by omega) hwv (by omega) hI.out.size
      have hO'' : Own .i64 3 w4 (w.heap.size + 1 + 1 + 1 + 1) v' (((refWords zs s).take (k + 1)).map (fun x => (ixOf zs x).getD 0)) := by
        rw [htk, List.map_append]; exact hO'
      obtain ⟨A5, c5, rfl, _, _⟩ := hO''.arr
      have hN := hI.out.push hB' hO''
      have hAN := (hA3.out.below hB' (by have := hB; omega))
      have o1 : wr.cell? ⟨w.heap.size + 1 + 1 + 1, 1, none⟩ = some v := hI.out.ob.cell 1
      have o2 : wr.cell? ⟨w.heap.size, 2, none⟩ = some (.map (some b)) := hI.out.hb.cell 2
      have hob4 := hI.out.ob.below hB' (by omega)
      have o3 : w4.cell? ⟨w.heap.size + 1 + 1 + 1, 1, none⟩ = some v := hob4.cell 1
      have o5 := hob4.soft 1
      have HN := Lib.hid hN
      have HAN := Lib.hid (hAN.below (below_set (Below.refl B w4) (g := w.heap.size + 1 + 1 + 1) (by omega) 1 (.slice A5 (((refWords zs s).take (k + 1)).map (fun x => (ixOf zs x).getD 0)).length c5)) (Nat.le_refl _))
      have HR := Lib.hid hrun
      generalize (((refWords zs s).take (k + 1)).map (fun x => (ixOf zs x).getD 0)).length = L5 at *
      clear hwf hM hwv htk hlen hrun hO' hO'' hN hAN hob4 hB' hI hA3
      generalize (ixOf zs (nth (refWords zs s) k)).getD 0 = V at *
      generalize nth (refWords zs s) k = X at *
      go_wp2_with (at_builtin; refine wpList_append_run rfl (.tmp 24) (.tmp 29) 23 rfl rfl rfl HR.out ?_)
      go_roundw
      case rel => exact ⟨k + 1, _, by omega, by go_num, HN, HAN⟩
      case measure => simp [intOf]; omega
    · obtain rfl : k = R := by omega
      have hO := hI.out.own
      rw [List.take_of_length_le (by have := HRL.out; omega)] at hO
      obtain ⟨A5, c5, rfl, hc5, hA5⟩ := hO.arr
      rw [show (((refWords zs s)).map (fun x => (ixOf zs x).getD 0)).length = k by simp [HRL.out]] at hO hI hc5 hA5
      have H5 := Lib.hid hA5
      have H5h := Lib.hid hO.high
      have q0 : wr.cell? ⟨w.heap.size, 0, none⟩ = some (.slice A n c) := hI.out.hb.cell 0
      have q1 : wr.cell? ⟨w.heap.size + 1, 0, none⟩ = some (.int .i64 s) := hI.out.sb.cell 0
      have q2 : wr.cell? ⟨w.heap.size + 1, 1, none⟩ = some (.int .i64 k) := hI.out.sb.cell 1
      have q3 : wr.cell? ⟨w.heap.size + 1, 2, none⟩ = some (.int .i64 Bd) := hI.out.sb.cell 2
      have hAb := HAB.out.below hI.out.below hB
      have HAB2 := Lib.hid (hAb.more (Nat.le_trans hB hI.out.below.size))
      have hsz := hI.out.size
      have HOB := Lib.hid hI.out.ob
      have hD := HD.out
      have hE := HE.out
      have g1 : IntKind.i64.wrap ((s : Int) + 1) = s + 1 := IntWalk.i64_in _ (by omega)
      have g2 : IntKind.i64.wrap ((s : Int) + 1 + k) = s + 1 + k := IntWalk.i64_in _ (by omega)
      clear hA3 hO hA5 hAb
      go_wp2_with fail
      go_region_held3 (fun w' => w'.cell? ⟨w.heap.size, 0, none⟩ = some (.slice A n c) ∧ w'.cell? ⟨w.heap.size + 1, 0, none⟩ = some (.int .i64 s) ∧ w'.cell? ⟨w.heap.size + 1, 1, none⟩ = some (.int .i64 k) ∧ w'.cell? ⟨w.heap.size + 1, 2, none⟩ = some (.int .i64 Bd))
        (first
          | go_keep
          | exact ⟨(HB6.out.cell (p := ⟨w.heap.size, 0, none⟩) (by simp; omega)).trans q0, (HB6.out.cell (p := ⟨w.heap.size + 1, 0, none⟩) (by simp; omega)).trans q1, (HB6.out.cell (p := ⟨w.heap.size + 1, 1, none⟩) (by simp; omega)).trans q2, (HB6.out.cell (p := ⟨w.heap.size + 1, 2, none⟩) (by simp; omega)).trans q3⟩
          | exact ⟨(cell_setOther w6 (by omega) 2 _ _).trans ((HB6.out.cell (p := ⟨w.heap.size, 0, none⟩) (by simp; omega)).trans q0), (cell_setOther w6 (by omega) 2 _ _).trans ((HB6.out.cell (p := ⟨w.heap.size + 1, 0, none⟩) (by simp; omega)).trans q1), (cell_setOther w6 (by omega) 2 _ _).trans ((HB6.out.cell (p := ⟨w.heap.size + 1, 1, none⟩) (by simp; omega)).trans q2), (cell_setOther w6 (by omega) 2 _ _).trans ((HB6.out.cell (p := ⟨w.heap.size + 1, 2, none⟩) (by simp; omega)).trans q3)⟩)
        (first
          | (go_at_call 100; refine (slicesClone_any E Bd (c - (s + 1 + k)) (bodyWords zs s) _ ?_ ?_).mono ?_; (omega); (exact HAB2.out); rintro e w6 ⟨A6, c6, rfl, hO6, hB6⟩; have hB6 := below_of_drew hB6; have HB6 := Lib.hid hB6; have ho6 := HOB.out.below (w' := w6) hB6 (by simp; omega); have x6 := ho6.cell 2; have y6 := ho6.soft 2; rw [show (#[.int .i64 T, .slice A5 k c5, .slice none 0 0, .bool F] : Array Value)[2]? = some (.slice none 0 0) from rfl] at x6; clear hB6 ho6))
      have hN := hI.out.next HB6.out
      have hob := hN.ob.set 2 (.slice A6 Bd c6)
      have hrb : Box (w6.setCell ⟨w.heap.size + 1 + 1 + 1, 2, none⟩ (.slice A6 Bd c6)) (w.heap.size + 1 + 1) 41 #[.int .i64 0, .slice none 0 0, .slice none 0 0, .bool false] := by
        show (w6.heap.modify (w.heap.size + 1 + 1 + 1) _)[w.heap.size + 1 + 1]? = _
        rw [Array.getElem?_modify, if_neg (by omega)]; exact hN.rb
      obtain ⟨A7, c7, hv7, hc7, hA7⟩ := hO6.arr
      injection hv7 with e1 e2 e3
      subst e1 e3
      rw [HBL.out] at hA7 hc7
      have hV : ObV (w6.setCell ⟨w.heap.size + 1 + 1 + 1, 2, none⟩ (.slice A6 Bd c6)) (w.heap.size + 1 + 1 + 1 + 1) w6.heap.size ⟨T, A5, k, c5, A6, Bd, c6, F⟩ (obOf zs s) := by
        rw [HO.out]
        exact ⟨rfl, rfl, hc5, hc7, ((H5.out.below HB6.out (Nat.le_refl _)).more HB6.out.size).setOther H5h.out (by omega) _ _, H5h.out, hA7.setOther hO6.high (by have := hI.out.size; simp; omega) _ _, hO6.high.less (by have := hI.out.size; simp; omega)⟩
      have hB7 := below_set (hN.below) (g := w.heap.size + 1 + 1 + 1) (by omega) 2 (.slice A6 Bd c6)
      have hs6 : (w6.setCell ⟨w.heap.size + 1 + 1 + 1, 2, none⟩ (.slice A6 Bd c6)).heap.size = w6.heap.size := by simp [World.setCell]
      have HV := Lib.hid hV
      have HB7 := Lib.hid hB7
      have HRB := Lib.hid hrb
      have HS6 := Lib.hid hs6
      clear hV hB7 hs6 hN x6 y6 hO6 hA7 hc7 hI q0 q1 q2 q3 hD hE g1 g2 e2 HB6
      generalize (w6.setCell ⟨w.heap.size + 1 + 1 + 1, 2, none⟩ (.slice A6 Bd c6)) = W7 at *
      have m0 : W7.cell? ⟨w.heap.size + 1 + 1 + 1, 0, none⟩ = some (.int .i64 T) := hob.cell 0
      have m1 : W7.cell? ⟨w.heap.size + 1 + 1 + 1, 1, none⟩ = some (.slice A5 k c5) := hob.cell 1
      have m2 : W7.cell? ⟨w.heap.size + 1 + 1 + 1, 2, none⟩ = some (.slice A6 Bd c6) := hob.cell 2
      have m3 : W7.cell? ⟨w.heap.size + 1 + 1 + 1, 3, none⟩ = some (.bool F) := hob.cell 3
      have r0 : W7.cell? ⟨w.heap.size + 1 + 1, 0, none⟩ = some (.int .i64 0) := hrb.cell 0
      have r1 : W7.cell? ⟨w.heap.size + 1 + 1, 1, none⟩ = some (.slice none 0 0) := hrb.cell 1
      have r2 : W7.cell? ⟨w.heap.size + 1 + 1, 2, none⟩ = some (.slice none 0 0) := hrb.cell 2
      have r3 : W7.cell? ⟨w.heap.size + 1 + 1, 3, none⟩ = some (.bool false) := hrb.cell 3
      have s0 := hrb.soft 0
      have s1 := hrb.soft 1
      have s2 := hrb.soft 2
      have s3 := hrb.soft 3
      clear hob hrb
      go_wp2
      have BY := HRB.out.set4 (.int .i64 T) (.slice A5 k c5) (.slice A6 Bd c6) (.bool F)
      have BB := below_set (below_set (below_set (below_set HB7.out (g := w.heap.size + 1 + 1) (by omega) 0 (.int .i64 T)) (g := w.heap.size + 1 + 1) (by omega) 1 (.slice A5 k c5)) (g := w.heap.size + 1 + 1) (by omega) 2 (.slice A6 Bd c6)) (g := w.heap.size + 1 + 1) (by omega) 3 (.bool F)
      have OV := (((HV.out.setOther (g := w.heap.size + 1 + 1) (by omega) 0 (.int .i64 T)).setOther (g := w.heap.size + 1 + 1) (by omega) 1 (.slice A5 k c5)).setOther (g := w.heap.size + 1 + 1) (by omega) 2 (.slice A6 Bd c6)).setOther (g := w.heap.size + 1 + 1) (by omega) 3 (.bool F)
      have hs9 : ((((W7.setCell ⟨w.heap.size + 1 + 1, 0, none⟩ (.int .i64 T)).setCell ⟨w.heap.size + 1 + 1, 1, none⟩ (.slice A5 k c5)).setCell ⟨w.heap.size + 1 + 1, 2, none⟩ (.slice A6 Bd c6)).setCell ⟨w.heap.size + 1 + 1, 3, none⟩ (.bool F)).heap.size = w6.heap.size := by rw [← HS6.out]; simp [World.setCell]
      generalize ((((W7.setCell ⟨w.heap.size + 1 + 1, 0, none⟩ (.int .i64 T)).setCell ⟨w.heap.size + 1 + 1, 1, none⟩ (.slice A5 k c5)).setCell ⟨w.heap.size + 1 + 1, 2, none⟩ (.slice A6 Bd c6)).setCell ⟨w.heap.size + 1 + 1, 3, none⟩ (.bool F)) = W9 at *
      have x0 : W9.cell? ⟨w.heap.size + 1 + 1, 0, none⟩ = some (.int .i64 T) := BY.cell 0
      have x1 : W9.cell? ⟨w.heap.size + 1 + 1, 1, none⟩ = some (.slice A5 k c5) := BY.cell 1
      have x2 : W9.cell? ⟨w.heap.size + 1 + 1, 2, none⟩ = some (.slice A6 Bd c6) := BY.cell 2
      have x3 : W9.cell? ⟨w.heap.size + 1 + 1, 3, none⟩ = some (.bool F) := BY.cell 3
      refine bodyPost_ret (v := .agg #[.int .i64 T, .slice A5 k c5, .slice A6 Bd c6, .bool F]) (by simp [results, Try.results70, go_sem, x0, x1, x2, x3]) rfl ⟨⟨T, A5, k, c5, A6, Bd, c6, F⟩, rfl, BB, (OV.less (by omega)).more (by rw [hs9]; omega)⟩
theorem obj_info : (Try.prog.info? 41).map (fun i => (i.zero, i.size, i.bytes)) = some (some (.agg #[.int .i64 0, .slice none 0 0, .slice none 0 0, .bool false]), 4, 64) := by kernel_rfl
theorem Read_any (A : Option Addr) (n c : Nat) (zs : List Int) (w : World) (hn : n ≤ maxLen) (hnc : n ≤ c) (ha : Arr .u64 w w.heap.size A n zs) :
    Calls Try.prog 69 #[.slice A n c] w (ReadP A n c zs w) := by
  by_cases h : spErr zs = 0
  · exact read_good A n c zs w hnc ha h
  · exact read_bad1 A n c zs w hn ha h
set_option maxHeartbeats 400000 in
theorem Check_any (A : Option Addr) (n c : Nat) (zs : List Int) (w : World) (hn : n ≤ maxLen) (hnc : n ≤ c) (ha : Arr .u64 w w.heap.size A n zs) :
    Calls Try.prog 87 #[.slice A n c] w fun e w' => e = .returned (.int .i64 (arErr zs)) ∧ Below w.heap.size w w' := by
  have HR := Lib.hid (Read_any A n c zs w hn hnc ha)
  clear ha hn
  go_enter Try.func87, Try.ntmps87
  go_wp2_with fail
  refine HR.out.mono ?_
  rintro e w1 ⟨b1, h⟩
  have HB := Lib.hid b1
  clear b1 HR
  rcases h with ⟨h0, rfl⟩ | ⟨h0, A2, c2, b, rfl, _⟩
  · clear h0
    go_wp2
    go_ret
    exact ⟨rfl, HB.out.alloc HB.out.size _⟩
  · have H0 := Lib.hid h0
    clear h0
    go_wp2
    go_ret
    exact ⟨by rw [H0.out]; rfl, HB.out.alloc HB.out.size _⟩
/-- What Objects answers. -/
def ObjectsP (zs : List Int) (w : World) (e : Ending) (w' : World) : Prop := ∃ A k c, e = .returned (.tuple #[.slice A k c, .int .i64 (arErr zs)]) ∧ Below w.heap.size w w' ∧ k ≤ c ∧
  ((arErr zs ≠ 0 ∧ k = 0) ∨ (arErr zs = 0 ∧ k = (begins zs 0).length ∧ ∃ raws : List Raw, ArrG rawC 4 w' w'.heap.size A k raws ∧ ∀ j, j < k → ObV w' w.heap.size w'.heap.size (nthG raws j) (obOf zs (st zs j))))
set_option maxHeartbeats 400000 in
theorem objects_bad (A : Option Addr) (n c : Nat) (zs : List Int) (w : World) (hn : n ≤ maxLen) (hnc : n ≤ c) (ha : Arr .u64 w w.heap.size A n zs) (h : arErr zs ≠ 0) :
    Calls Try.prog 35 #[.slice A n c] w (ObjectsP zs w) := by
  have HR := Lib.hid (Read_any A n c zs w hn hnc ha)
  have hb : (arErr zs != 0) = true := by simpa using h
  have H0 := Lib.hid h
  clear ha hn h
  go_enter Try.func35, Try.ntmps35
  go_wp2_with fail
  refine HR.out.mono ?_
  rintro e w1 ⟨b1, h⟩
  have HB := Lib.hid b1
  clear b1 HR
  rcases h with ⟨h0, rfl⟩ | ⟨h0, _⟩
  · clear h0
    go_wp2
    go_ret2
    exact ⟨_, _, _, rfl, HB.out.alloc HB.out.size _, Nat.le_refl _, .inl ⟨H0.out, rfl⟩⟩
  · exact absurd h0 H0.out
/-- What holds while Objects goes over the spots. -/
structure ObsI (zs : List Int) (w : World) (A : Option Addr) (n c : Nat) (A2 : Option Addr) (m c2 b gh g k : Nat) (raws : List Raw) (wr : World) : Prop where
  hb : Box wr gh 124 #[.slice A n c, .slice A2 m c2, .map (some b)]
  own : OwnG rawC 4 41 wr g (.slice (some ⟨g, 0, none⟩) m m) raws
  len : raws.length = m
  obs : ∀ j, j < k → ObV wr (g + 1) wr.heap.size (nthG raws j) (obOf zs (st zs j))
  spots : ArrG spotC 5 wr gh A2 m (spList zs)
  map : MapF Try.prog .u64 .i64 47 3 wr b 300 (ixOf zs)
  below : Below w.heap.size w wr
  o1 : w.heap.size ≤ gh
  o2 : b < gh
  o3 : gh < g
  o4 : g < wr.heap.size
theorem nthG_put_same {α : Type} [Inhabited α] (l : List α) (j : Nat) (a : α) (h : j < l.length) : nthG (l.set j a) j = a := by rw [nthG_get _ _ (by simpa using h)]; simp
theorem nthG_put_other {α : Type} [Inhabited α] (l : List α) {i j : Nat} (a : α) (h : i ≠ j) : nthG (l.set i a) j = nthG l j := by unfold nthG; simp [List.getD, List.getElem?_set_ne h]
section
variable {zs : List Int} {w : World} {A : Option Addr} {n c : Nat} {A2 : Option Addr} {m c2 b gh g k : Nat} {raws : List Raw} {wr wr' : World}
theorem ObsI.next (h : ObsI zs w A n c A2 m c2 b gh g k raws wr) (hb : Below wr.heap.size wr wr') : ObsI zs w A n c A2 m c2 b gh g k raws wr' :=
  ⟨h.hb.below hb h.hb.lt, h.own.below hb, h.len, fun j hj => ((h.obs j hj).below hb (Nat.le_refl _)).more hb.size, h.spots.below hb (Nat.le_of_lt h.hb.lt), h.map.below hb h.map.lt, h.below.trans (hb.mono h.below.size), h.o1, h.o2, h.o3, Nat.lt_of_lt_of_le h.o4 hb.size⟩
theorem ObsI.store (h : ObsI zs w A n c A2 m c2 b gh g k raws wr) (hk : k < m) {r : Raw} (hr : ObV wr (g + 1) wr.heap.size r (obOf zs (st zs k))) :
    ObsI zs w A n c A2 m c2 b gh g (k + 1) (raws.set k r) ((((wr.setCell ⟨g, k * 4, none⟩ (.int .i64 r.t)).setCell ⟨g, k * 4 + 1, none⟩ (.slice r.ra r.rn r.rc)).setCell ⟨g, k * 4 + 2, none⟩ (.slice r.ba r.bn r.bc)).setCell ⟨g, k * 4 + 3, none⟩ (.bool r.f)) := by
  have hs : ((((wr.setCell ⟨g, k * 4, none⟩ (.int .i64 r.t)).setCell ⟨g, k * 4 + 1, none⟩ (.slice r.ra r.rn r.rc)).setCell ⟨g, k * 4 + 2, none⟩ (.slice r.ba r.bn r.bc)).setCell ⟨g, k * 4 + 3, none⟩ (.bool r.f)).heap.size = wr.heap.size := by simp [World.setCell]
  have hb : Below g wr ((((wr.setCell ⟨g, k * 4, none⟩ (.int .i64 r.t)).setCell ⟨g, k * 4 + 1, none⟩ (.slice r.ra r.rn r.rc)).setCell ⟨g, k * 4 + 2, none⟩ (.slice r.ba r.bn r.bc)).setCell ⟨g, k * 4 + 3, none⟩ (.bool r.f)) := below_set4 (Below.refl _ _) (Nat.le_refl _) _ _ _ _ _ _ _ _
  have hl := h.len
  have o1 := h.o1
  have o2 := h.o2
  have o3 := h.o3
  refine ⟨h.hb.below hb h.o3, h.own.put4 k r (by omega), by simpa using h.len, fun j hj => ?_, h.spots.below hb (by omega), h.map.below hb (by omega), h.below.trans (hb.mono (by omega)), h.o1, h.o2, h.o3, by rw [hs]; exact h.o4⟩
  rw [hs]
  rcases Nat.lt_succ_iff_lt_or_eq.1 hj with hj | hj
  · rw [nthG_put_other _ _ (by omega)]
    exact (h.obs j hj).setOther4 (by omega) _ _ _ _ _ _ _ _
  · subst hj
    rw [nthG_put_same _ _ _ (by omega)]
    exact hr.setOther4 (by omega) _ _ _ _ _ _ _ _
end
set_option maxRecDepth 8000 in
set_option maxHeartbeats 4000000 in
theorem objects_good (A : Option Addr) (n c : Nat) (zs : List Int) (w : World) (hnc : n ≤ c) (ha : Arr .u64 w w.heap.size A n zs) (h : arErr zs = 0) :
    Calls Try.prog 35 #[.slice A n c] w (ObjectsP zs w) := by
  obtain ⟨hsp, hrf⟩ := arErr_zero h
  obtain ⟨h256, hfine⟩ := spErr_zero hsp
  have hl := ha.1
  have hL := spList_ok hsp
  have hbl := begins_len (zs := zs) (a := 0)
  have HR := Lib.hid (Read_any A n c zs w (by unfold maxLen; omega) hnc ha)
  obtain ⟨m, hm⟩ : ∃ m, (begins zs 0).length = m := ⟨_, rfl⟩
  rw [hm] at hbl
  have hspot : ∀ k, k < m → nthG (spList zs) k = spOf zs (st zs k) ∧ st zs k < n ∧ stepOk zs (st zs k) = true := fun k hk => by
    have h1 := begins_mem (st_mem (zs := zs) (k := k) (by omega))
    exact ⟨by rw [hL, nthG_map _ _ _ (by omega)]; rfl, by omega, h1.2.2⟩
  have HS := Lib.hid hspot
  have HM := Lib.hid hm
  have H0 := Lib.hid h
  have HA := Lib.hid ha
  clear hspot hm h ha hsp hrf hfine hL
  go_enter Try.func35, Try.ntmps35
  go_wp2_with fail
  refine HR.out.mono ?_
  rintro e w1 ⟨b1, h⟩
  have HB := Lib.hid b1
  clear b1 HR
  rcases h with ⟨h0, _⟩ | ⟨_, A2, c2, b, rfl, hc2, hA2, hi2, hb2, hM⟩
  · exact absurd H0.out h0
  rw [HM.out] at hA2 hi2 ⊢
  have HM2 := Lib.hid hM
  have HA2 := Lib.hid hA2
  clear hM hA2 hi2 hb2 hc2
  have n1 := Box.new w1 124 #[.slice A n c, .slice A2 m c2, .map (some b)]
  have ba := (Below.refl _ w1).alloc (Nat.le_refl _) (.cells #[.slice A n c, .slice A2 m c2, .map (some b)] 124)
  obtain ⟨w2, hmk, hO2, hb2, hlt2⟩ := run_make_raws (P := Try.prog) (t := 24) Try.underlying24 obj_info (by omega) m (by omega) (w1.alloc (.cells #[.slice A n c, .slice A2 m c2, .map (some b)] 124))
  have bx2 := n1.below hb2 n1.lt
  have hI : ObsI zs w A n c A2 m c2 b w1.heap.size (w1.alloc (.cells #[.slice A n c, .slice A2 m c2, .map (some b)] 124)).heap.size 0 (List.replicate m zeroRaw) w2 :=
    ⟨bx2, hO2, by simp, fun j hj => absurd hj (by omega), HA2.out.below (ba.trans (hb2.mono ba.size)) (Nat.le_refl _), HM2.out.below (ba.trans (hb2.mono ba.size)) HM2.out.lt, HB.out.trans ((ba.trans (hb2.mono ba.size)).mono HB.out.size), HB.out.size, HM2.out.lt, n1.lt, hlt2⟩
  have hsz : (w1.alloc (.cells #[.slice A n c, .slice A2 m c2, .map (some b)] 124)).heap.size = w1.heap.size + 1 := by simp
  rw [hsz] at hI hmk
  have h0 : w2.cell? ⟨w1.heap.size, 0, none⟩ = some (.slice A n c) := bx2.cell 0
  have h1 : w2.cell? ⟨w1.heap.size, 1, none⟩ = some (.slice A2 m c2) := bx2.cell 1
  have h2 : w2.cell? ⟨w1.heap.size, 2, none⟩ = some (.map (some b)) := bx2.cell 2
  have HI := Lib.hid hI
  clear hI n1 ba hO2 hb2 hlt2 bx2 hsz HM2 HA2
  go_wp2_with fail
  obtain ⟨gh, hgh⟩ : ∃ g, w1.heap.size = g := ⟨_, rfl⟩
  rw [hgh] at HI ⊢
  clear h0 h1 h2 hmk
  go_loopw [24] (fun i wr => ∃ (k : Nat) (raws : List Raw), k ≤ m ∧ i = .int .i64 k ∧ Hid (ObsI zs w A n c A2 m c2 b gh (gh + 1) k raws wr)) (fun i _ => m - (intOf i).toNat)
  case atStart => exact ⟨0, _, by omega, rfl, HI⟩
  case round =>
    obtain ⟨k, raws, hk, rfl, hI⟩ := hrel
    clear HI
    by_cases hlt : k < m
    · obtain ⟨hs, hsn, hst⟩ := HS.out k hlt
      obtain ⟨b5, off, rfl, _, q0, q1, q2, q3, q4⟩ := hI.out.spots.spot hlt
      rw [hs] at q0 q1 q2 q3 q4
      unfold spOf at q0 q1 q2 q3 q4
      simp only at q0 q1 q2 q3 q4
      have hba := (Below.refl _ wr).alloc (Nat.le_refl _) (.cells #[.int .i64 (st zs k), .int .i64 (vR (nth zs (st zs k))), .int .i64 (vB (nth zs (st zs k))), .int .i64 (vT (nth zs (st zs k))), .bool (vF (nth zs (st zs k)))] 80)
      have hnx := hI.out.next hba
      have HC := Lib.hid (object_any A n c (some ⟨b5, off, none⟩) m c2 b 300 zs (st zs k) _ w.heap.size (HA.out.below hnx.below (Nat.le_refl _)) hnx.below.size (by omega) hnc hsn hst hnx.map)
      have h0 := hnx.hb.cell 0
      have h1 := hnx.hb.cell 1
      have h2 := hnx.hb.cell 2
      rw [show (#[.slice A n c, .slice (some ⟨b5, off, none⟩) m c2, .map (some b)] : Array Value)[0]? = some (.slice A n c) from rfl] at h0
      rw [show (#[.slice A n c, .slice (some ⟨b5, off, none⟩) m c2, .map (some b)] : Array Value)[1]? = some (.slice (some ⟨b5, off, none⟩) m c2) from rfl] at h1
      rw [show (#[.slice A n c, .slice (some ⟨b5, off, none⟩) m c2, .map (some b)] : Array Value)[2]? = some (.map (some b)) from rfl] at h2
      have HNX := Lib.hid hnx
      clear hba hnx hs hst hI
      obtain ⟨s, hse⟩ : ∃ s, st zs k = s := ⟨_, rfl⟩
      have HSE := Lib.hid hse
      rw [hse] at q0 q1 q2 q3 q4 HNX hsn HC h0 h1 h2
      clear hse
      generalize vR (nth zs s) = R at *
      generalize vB (nth zs s) = Bd at *
      generalize vT (nth zs s) = T at *
      generalize vF (nth zs s) = F at *
      go_wp2_with fail
      refine HC.out.mono ?_
      rintro e w4 ⟨r, rfl, b4, hV⟩
      have hN := HNX.out.next b4
      have hV' : ObV w4 (gh + 1 + 1) w4.heap.size r (obOf zs (st zs k)) := by rw [HSE.out]; exact hV.less (by have := HNX.out.o4; omega)
      have HN := Lib.hid (hN.store hlt hV')
      obtain ⟨⟨d0, d1, d2, d3⟩, hfz⟩ := hN.own.cells4 (j := k) (by rw [hN.len]; exact hlt)
      have z0 : w4.frozen? ⟨gh + 1, k * 4, none⟩ = false := hfz 0 (by omega)
      have z1 := hfz 1 (by omega)
      have z2 := hfz 2 (by omega)
      have z3 := hfz 3 (by omega)
      clear b4 hV hN hV' HC HNX q0 q1 q2 q3 q4 h0 h1 h2 hfz
      unfold rawV
      generalize (nthG raws k).t = t0 at *
      generalize (nthG raws k).f = t1 at *
      go_wp2
      go_roundw
      case rel => exact ⟨k + 1, _, by omega, by go_num, HN⟩
      case measure => simp [intOf]; omega
    · obtain rfl : k = m := by omega
      go_wp2
      go_ret2
      have hs := hI.out.o4
      refine ⟨_, _, _, by rw [H0.out]; rfl, hI.out.below, Nat.le_refl _, .inr ⟨H0.out, HM.out.symm, raws, ?_, fun j hj => (hI.out.obs j hj).less (by have := hI.out.o1; omega)⟩⟩
      obtain ⟨A9, c9, hv9, _, hA9⟩ := hI.out.own.arr rawC_len
      rw [hI.out.len] at hv9 hA9
      injection hv9 with e1 e2 e3
      rw [e1]
      exact hA9
theorem Objects_any (A : Option Addr) (n c : Nat) (zs : List Int) (w : World) (hn : n ≤ maxLen) (hnc : n ≤ c) (ha : Arr .u64 w w.heap.size A n zs) :
    Calls Try.prog 35 #[.slice A n c] w (ObjectsP zs w) := by
  by_cases h : arErr zs = 0
  · exact objects_good A n c zs w hnc ha h
  · exact objects_bad A n c zs w hn hnc ha h
end Go.Proofs.Ytjefbekdjgmmbaa
namespace Go.Proofs.Ytjefbekdjgmmbaa
open Go.RowKit
set_option maxRecDepth 8000 in
set_option maxHeartbeats 1000000 in
theorem header_any (r : Raw) (w : World) (h1 : r.rn ≤ maxLen) (h2 : r.bn ≤ maxLen) :
    Calls Try.prog 102 #[.agg #[.int .i64 r.t, .slice r.ra r.rn r.rc, .slice r.ba r.bn r.bc, .bool r.f]] w fun e w' => e = .returned (.agg #[.int .i64 r.rn, .int .i64 r.bn, .int .i64 r.t, .bool r.f]) ∧ Below w.heap.size w w' := by
  unfold maxLen at h1 h2
  obtain ⟨t, ra, rn, rc, ba, bn, bc, f⟩ := r
  simp only at h1 h2 ⊢
  have bb := ((Below.refl _ w).alloc (Nat.le_refl _) (.cells #[.int .i64 t, .slice ra rn rc, .slice ba bn bc, .bool f] 41)).alloc (by simp) (.cells #[.int .i64 rn, .int .i64 bn, .int .i64 t, .bool f] 44)
  have n2 := Box.new (w.alloc (.cells #[.int .i64 t, .slice ra rn rc, .slice ba bn bc, .bool f] 41)) 44 #[.int .i64 rn, .int .i64 bn, .int .i64 t, .bool f]
  rw [show (w.alloc (.cells #[.int .i64 t, .slice ra rn rc, .slice ba bn bc, .bool f] 41)).heap.size = w.heap.size + 1 by simp] at n2
  have HB := Lib.hid bb
  have N2 := Lib.hid n2
  clear bb n2
  go_enter Try.func102, Try.ntmps102
  go_wp2
  generalize ((w.alloc (.cells #[.int .i64 t, .slice ra rn rc, .slice ba bn bc, .bool f] 41)).alloc (.cells #[.int .i64 rn, .int .i64 bn, .int .i64 t, .bool f] 44)) = W at *
  have x0 : W.cell? ⟨w.heap.size + 1, 0, none⟩ = some (.int .i64 rn) := N2.out.cell 0
  have x1 : W.cell? ⟨w.heap.size + 1, 1, none⟩ = some (.int .i64 bn) := N2.out.cell 1
  have x2 : W.cell? ⟨w.heap.size + 1, 2, none⟩ = some (.int .i64 t) := N2.out.cell 2
  have x3 : W.cell? ⟨w.heap.size + 1, 3, none⟩ = some (.bool f) := N2.out.cell 3
  refine bodyPost_ret (v := .agg #[.int .i64 rn, .int .i64 bn, .int .i64 t, .bool f]) (by simp [results, Try.results102, go_sem, x0, x1, x2, x3]) rfl ⟨rfl, HB.out⟩
theorem mapT2 : MapT Try.prog .i64 .u64 129 3 47 := ⟨Try.underlying129, Try.underlying3, Try.underlying47, fun _ => by kernel_rfl⟩
/-- What place answers. -/
def PlaceQ (os : List Ob) (n : Nat) (w : World) (e : Ending) (w' : World) : Prop := Below w.heap.size w w' ∧
  ((pErr os n ≠ 0 ∧ e = .returned (.tuple #[.map none, .int .i64 0, .int .i64 (pErr os n)])) ∨
   (pErr os n = 0 ∧ ∃ b, e = .returned (.tuple #[.map (some b), .int .i64 (offs os os.length), .int .i64 0]) ∧ w.heap.size ≤ b ∧ MapF Try.prog .i64 .u64 3 47 w' b (os.length + 1) (pMap os n os.length)))
set_option maxRecDepth 8000 in
set_option maxHeartbeats 4000000 in
theorem lplace_any (A : Option Addr) (N c n B lo : Nat) (raws : List Raw) (os : List Ob) (w : World) (hn : n ≤ 256) (hN : N ≤ 140737488355328) (hB : B ≤ w.heap.size) (ha : ArrG rawC 4 w B A N raws) (hl : os.length = N) (hv : ∀ j, j < N → ObV w lo B (nthG raws j) (nthG os j))
    (hs : ∀ j, j < N → (nthG raws j).rn ≤ maxLen ∧ (nthG raws j).bn ≤ maxLen) :
    Calls Try.prog 74 #[.slice A N c, .int .i64 n] w (PlaceQ os n w) := by
  have HA := Lib.hid ha
  have HV : Hid (∀ j, j < N → (nthG raws j).t = (nthG os j).1 ∧ (nthG raws j).f = (nthG os j).2.2.2 ∧ (nthG raws j).rn = (nthG os j).2.1.length ∧ (nthG raws j).bn = (nthG os j).2.2.1.length) := fun j hj => ⟨(hv j hj).tag, (hv j hj).free, (hv j hj).refs.1.symm, (hv j hj).body.1.symm⟩
  have HS := Lib.hid hs
  have HL := Lib.hid hl
  clear ha hv hs
  have hmm := @run_makeMap Try.prog
  go_enter Try.func74, Try.ntmps74
  go_wp2_with (refine wpList_insert_map mapT2 _ rfl _ _ _ rfl rfl rfl rfl (MapF.made Try.prog .i64 .u64 3 47 w) (by unfold maxLen; omega) (by decide) (by decide) ?_; intro w2 hm2 hg2)
  have bm : Below w.heap.size w w2 := ((Below.refl _ w).alloc (Nat.le_refl _) _).trans (grown_below hg2 (Nat.le_refl _) (by simp))
  have HM := Lib.hid hm2
  have HB := Lib.hid bm
  clear hm2 hg2 bm hmm
  obtain ⟨gm, hgm⟩ : ∃ g, w.heap.size = g := ⟨_, rfl⟩
  rw [hgm] at HM ⊢
  have HGM := Lib.hid hgm
  clear hgm
  go_loopw [8, 17] (fun a i wr => ∃ k : Nat, k ≤ N ∧ i = .int .i64 k ∧ a = .int .i64 (offs os k) ∧ Hid (∀ j, j < k → oFault (nthG os j) = 0) ∧ Hid (MapF Try.prog .i64 .u64 3 47 wr gm (k + 1) (pMap os n k)) ∧ Hid (Below w.heap.size w wr)) (fun _ i _ => N - (intOf i).toNat)
  case atStart => exact ⟨0, Nat.zero_le _, rfl, rfl, (fun j hj => absurd hj (by omega)), HM, HB⟩
  case round =>
    obtain ⟨k, hk, rfl, rfl, HF, hM, hBw⟩ := hrel
    clear HM HB
    have hof := offs_le k (by omega) HF.out
    by_cases hlt : k < N
    · obtain ⟨b, off, rfl, hb, x0, x1, x2, x3⟩ := (HA.out.below hBw.out hB).raw hlt
      obtain ⟨v1, v2, v3, v4⟩ := HV.out k hlt
      obtain ⟨s1, s2⟩ := HS.out k hlt
      have hfl : oFault (nthG os k) = hFault (nthG raws k).rn (nthG raws k).bn (nthG raws k).t (nthG raws k).f := by unfold oFault; rw [v1, v2, v3, v4]
      have hlg : oLong (nthG os k) = 1 + (nthG raws k).rn + (nthG raws k).bn := by unfold oLong; rw [v3, v4]
      have hfr : (nthG os k).2.2.2 = (nthG raws k).f := v2.symm
      have hstep := offs_step (os := os) (k := k) (by omega)
      rw [hlg] at hstep
      clear v1 v2 v3 v4
      have HH := Lib.hid (fun wx => header_any (nthG raws k) wx s1 s2)
      have HFL := Lib.hid hfl
      have HLG := Lib.hid hlg
      have HFR := Lib.hid hfr
      clear hfl hlg hfr s1 s2
      obtain ⟨r, hr⟩ : ∃ r, nthG raws k = r := ⟨_, rfl⟩
      rw [hr] at x0 x1 x2 x3 HH HFL HLG HFR hstep
      clear hr
      obtain ⟨t, ra, rn, rc, ba, bn, bc, f⟩ := r
      simp only at x0 x1 x2 x3 HH HFL HLG HFR hstep
      have ba1 := (Below.refl _ wr).alloc (Nat.le_refl _) (.cells #[.int .i64 t, .slice ra rn rc, .slice ba bn bc, .bool f] 41)
      have BX := Lib.hid (Box.new wr 41 #[.int .i64 t, .slice ra rn rc, .slice ba bn bc, .bool f])
      have HBA := Lib.hid ba1
      clear ba1
      obtain ⟨a, hoa⟩ : ∃ a, offs os k = a := ⟨_, rfl⟩
      rw [hoa] at hof hstep ⊢
      have HOA := Lib.hid hoa
      clear hoa
      by_cases hz : hFault rn bn t f = 0
      · obtain ⟨f1, f2, f3, f4, f5, f6⟩ := hFault_ok hz
        have HLo := Lib.hid (fun wx => lengthOk rn bn t f wx hz)
        have HFn : Hid (∀ j, j < k + 1 → oFault (nthG os j) = 0) := fun j hj => by
          rcases Nat.lt_succ_iff_lt_or_eq.1 hj with h | h
          · exact HF.out j h
          · rw [h, HFL.out]; exact hz
        clear hz f3 f4 f6 HF
        go_wp2_with fail
        refine (HH.out _).mono ?_
        rintro e w3 ⟨rfl, b3⟩
        have HB3 := Lib.hid (HBA.out.trans (b3.mono HBA.out.size))
        have BX3 := Lib.hid (BX.out.below b3 BX.out.lt)
        clear b3
        go_wp2_with fail
        refine (HLo.out _).mono ?_
        rintro e w4 ⟨rfl, b4⟩
        have HB4 := Lib.hid (HB3.out.trans (b4.mono HB3.out.size))
        have bx4 := BX3.out.below b4 BX3.out.lt
        have c3 : w4.cell? ⟨wr.heap.size, 3, none⟩ = some (.bool f) := bx4.cell 3
        have hM4 := hM.out.below HB4.out hM.out.lt
        have HM4 := Lib.hid hM4
        have HBW4 := Lib.hid (hBw.out.trans (HB4.out.mono hBw.out.size))
        clear b4 bx4 hM4 hM hBw HB3 BX3 x0 x1 x2 x3
        have hstep' : ((offs os (k + 1) : Nat) : Int) = (a : Int) + (1 + rn + bn) := by rw [hstep]; omega
        have HST := Lib.hid hstep'
        clear hstep hstep'
        cases f
        · by_cases hfit : a + (1 + rn + bn) ≤ n
          · have hfit' : (a : Int) + (1 + rn + bn) ≤ n := by omega
            go_wp2_with fail
            refine (reference_any a w4 (by omega)).mono ?_
            rintro e w5 ⟨rfl, rfl⟩
            go_wp2_with (refine wpList_store_map mapT2 _ rfl _ _ _ rfl rfl rfl rfl HM4.out (by unfold maxLen; omega) (wf_i64.2 (by omega)) (wf_u64.2 (by omega)) ?_; intro w6 hm6 hg6)
            have HM6 : Hid (MapF Try.prog .i64 .u64 3 47 w6 gm (k + 1 + 1) (pMap os n (k + 1))) := Lib.hid (by rw [pMap_in (by rw [HFR.out]) (by rw [HOA.out, HLG.out]; omega), HOA.out]; exact hm6)
            have HB6 := Lib.hid (HBW4.out.trans (grown_below hg6 (Nat.le_of_eq HGM.out) HBW4.out.size))
            clear hm6 hg6
            go_roundw
            case rel => exact ⟨k + 1, by omega, by go_num, by rw [HST.out], HFn, HM6, HB6⟩
            case measure => simp [intOf]; omega
          · have hfit' : ¬ ((a : Int) + (1 + rn + bn) ≤ n) := by omega
            have HM6 : Hid (MapF Try.prog .i64 .u64 3 47 w4 gm (k + 1 + 1) (pMap os n (k + 1))) := Lib.hid (by rw [pMap_out (by rw [HOA.out, HLG.out]; omega)]; exact HM4.out.mono (by omega))
            go_wp2
            go_roundw
            case rel => exact ⟨k + 1, by omega, by go_num, by rw [HST.out], HFn, HM6, HBW4⟩
            case measure => simp [intOf]; omega
        · have HM6 : Hid (MapF Try.prog .i64 .u64 3 47 w4 gm (k + 1 + 1) (pMap os n (k + 1))) := Lib.hid (by rw [pMap_free (by rw [HFR.out])]; exact HM4.out.mono (by omega))
          go_wp2
          go_roundw
          case rel => exact ⟨k + 1, by omega, by go_num, by rw [HST.out], HFn, HM6, HBW4⟩
          case measure => simp [intOf]; omega
      · have HLo := Lib.hid (fun wx => lengthBad rn bn t f wx hz)
        have hbz : (hFault rn bn t f != 0) = true := by simpa using hz
        have HPE : Hid (pErr os n = hFault rn bn t f) := Lib.hid (by
          have h1 := fault_at (os := os) (k := k) (by rw [HL.out]; exact hlt) HF.out (by rw [HFL.out]; exact hz)
          rw [HFL.out] at h1
          rw [pErr_fault (by rw [h1]; exact hz), h1])
        have HZ := Lib.hid hz
        clear hz HF
        generalize hFault rn bn t f = E at *
        go_wp2_with fail
        refine (HH.out _).mono ?_
        rintro e w3 ⟨rfl, b3⟩
        have HB3 := Lib.hid (HBA.out.trans (b3.mono HBA.out.size))
        clear b3
        go_wp2_with fail
        refine (HLo.out _).mono ?_
        rintro e w4 ⟨rfl, b4⟩
        have HB4 := Lib.hid (hBw.out.trans ((HB3.out.trans (b4.mono HB3.out.size)).mono hBw.out.size))
        clear b4
        go_wp2
        go_ret3
        exact ⟨HB4.out, .inl ⟨by rw [HPE.out]; exact HZ.out, by rw [HPE.out]; rfl⟩⟩
    · obtain rfl : k = N := by omega
      have hfz := fault_ok (os := os) (fun j hj => HF.out j (by rw [HL.out] at hj; exact hj))
      have HZ := Lib.hid hfz
      clear hfz HF
      have hge := offs_ge (os := os) k (by omega)
      by_cases hfull : n < offs os k
      · have HPE : Hid (pErr os n = 7) := Lib.hid (pErr_full HZ.out (by rw [HL.out]; exact hfull))
        have hf' : (n : Int) < (offs os k : Nat) := by omega
        generalize offs os k = a at *
        go_wp2
        go_ret3
        exact ⟨hBw.out, .inl ⟨by rw [HPE.out]; decide, by rw [HPE.out]; rfl⟩⟩
      · have HPE : Hid (pErr os n = 0) := Lib.hid (pErr_ok HZ.out (by rw [HL.out]; omega))
        have hf' : ¬ (n : Int) < (offs os k : Nat) := by omega
        have HO : Hid (offs os os.length = offs os k) := Lib.hid (by rw [HL.out])
        have HM9 : Hid (MapF Try.prog .i64 .u64 3 47 wr gm (os.length + 1) (pMap os n os.length)) := Lib.hid (by rw [HL.out]; exact hM.out)
        generalize offs os k = a at *
        clear hM
        go_wp2
        go_ret3
        exact ⟨hBw.out, .inr ⟨HPE.out, gm, by rw [HO.out]; rfl, Nat.le_of_eq HGM.out, HM9.out⟩⟩
end Go.Proofs.Ytjefbekdjgmmbaa
namespace Go.Proofs.Ytjefbekdjgmmbaa
open Go.RowKit
theorem Own.drewN {k : IntKind} {e : TypeId} {w : World} {base : Nat} {v : Value} {xs : List Int} (h : Own k e w base v xs) (q : Nat) : Own k e (w.drewN q) base v xs := h
end Go.Proofs.Ytjefbekdjgmmbaa
