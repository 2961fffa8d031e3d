/-
  The walk of YoungTells, given what Check and Write answer: whatever the arguments and the memory, the call returns true and changes nothing that was there.
-/
import Derived.Test.YthdnfocemchgjaaYoungN
import Derived.Test.YthdnfocemchgjaaYoungR
import Derived.Test.YthdnfocemchgjaaYoungE
namespace Go.Proofs.Ythdnfocemchgjaa
open Go.RowKit

structure YtI (w : World) (gX : Nat) (A G K : Option Addr) (n c ng cg nb cb : Nat) (zs g b : List Int) (A3 G3 K3 : Option Addr) (n3 c3 g3 cg3 k3 cb3 : Nat) (wx : World) : Prop where
  below : Below w.heap.size w wx
  arg : Box wx w.heap.size 25 #[.slice A n c, .slice G ng cg, .slice K nb cb]
  xb : Box wx gX 25 #[.slice A3 n3 c3, .slice G3 g3 cg3, .slice K3 k3 cb3]
  tri : TriIn wx A G K n c ng nb zs g b
section
variable {w wx wx' : World} {gX : Nat} {A G K : Option Addr} {n c ng cg nb cb : Nat} {zs g b : List Int} {A3 G3 K3 : Option Addr} {n3 c3 g3 cg3 k3 cb3 : Nat}
theorem YtI.next (h : YtI w gX A G K n c ng cg nb cb zs g b A3 G3 K3 n3 c3 g3 cg3 k3 cb3 wx) (hb : Below wx.heap.size wx wx') : YtI w gX A G K n c ng cg nb cb zs g b A3 G3 K3 n3 c3 g3 cg3 k3 cb3 wx' :=
  ⟨h.below.trans (hb.mono h.below.size), h.arg.below hb h.arg.lt, h.xb.below hb h.xb.lt, h.tri.next hb⟩
theorem YtI.acells (h : YtI w gX A G K n c ng cg nb cb zs g b A3 G3 K3 n3 c3 g3 cg3 k3 cb3 wx) : wx.cell? ⟨w.heap.size, 0, none⟩ = some (.slice A n c) ∧ wx.cell? ⟨w.heap.size, 1, none⟩ = some (.slice G ng cg) ∧ wx.cell? ⟨w.heap.size, 2, none⟩ = some (.slice K nb cb) := ⟨h.arg.cell 0, h.arg.cell 1, h.arg.cell 2⟩
theorem YtI.xcells (h : YtI w gX A G K n c ng cg nb cb zs g b A3 G3 K3 n3 c3 g3 cg3 k3 cb3 wx) : wx.cell? ⟨gX, 0, none⟩ = some (.slice A3 n3 c3) ∧ wx.cell? ⟨gX, 1, none⟩ = some (.slice G3 g3 cg3) ∧ wx.cell? ⟨gX, 2, none⟩ = some (.slice K3 k3 cb3) := ⟨h.xb.cell 0, h.xb.cell 1, h.xb.cell 2⟩
end
/-- Ages of empty lists are told the same as none. -/
theorem agesNone_any (A G K : Option Addr) (n c ng cg nb cb : Nat) (w : World) (h : TriIn w A G K n c ng nb [] [] []) :
    Calls Try.prog 11 #[.agg #[.slice A n c, .slice G ng cg, .slice K nb cb], .agg #[.slice none 0 0, .slice none 0 0, .slice none 0 0]] w fun e w' => e = .returned (.bool true) ∧ Below w.heap.size w w' := by
  have e1 : n = 0 := by have := h.arena.1; simpa using this.symm
  have e2 : ng = 0 := by have := h.grey.1; simpa using this.symm
  have e3 : nb = 0 := by have := h.blk.1; simpa using this.symm
  subst e1 e2 e3
  exact sameAges_any A G K none none none 0 c 0 cg 0 cb 0 0 0 [] [] [] w h.arena h.grey h.blk Arr.zero Arr.zero Arr.zero (Nat.zero_le _) (Nat.zero_le _) (Nat.zero_le _)

set_option maxRecDepth 32000 in
set_option maxHeartbeats 8000000 in
theorem youngTells_of (hCK : YCheckC) (hWR : YWriteC) (A G K : Option Addr) (n c ng cg nb cb : Nat) (zs g b : List Int) (a r z : Int) (w : World) (wa : (Lit.int .i64 a).wf = true) (wr : (Lit.int .i64 r).wf = true) (wz : (Lit.int .i64 z).wf = true) (h : AgesIn w A G K n c ng cg nb cb zs g b) :
    Calls Try.prog 3 #[.agg #[.slice A n c, .slice G ng cg, .slice K nb cb], .int .i64 a, .int .i64 r, .int .i64 z] w fun e w' => e = .returned (.bool true) ∧ Below w.heap.size w w' := by
  have b1 := (Below.refl _ w).alloc (Nat.le_refl _) (.cells #[.slice A n c, .slice G ng cg, .slice K nb cb] 25)
  have HX1 := Lib.hid (Box.new w 25 #[.slice A n c, .slice G ng cg, .slice K nb cb])
  have HB1 := Lib.hid b1
  have HT1 := Lib.hid (h.next b1)
  have HZ := Lib.hid h.tri.arena.2.1
  have WA := Lib.hid wa
  have WR := Lib.hid wr
  have WZ := Lib.hid wz
  have HCK := Lib.hid hCK
  have HIN := Lib.hid (fun (w' : World) (hb : Below w.heap.size w w') => h.next hb)
  clear b1 h wa wr wz
  go_enter Try.func3, Try.ntmps3
  go_wp2_with fail
  generalize (w.alloc (.cells #[.slice A n c, .slice G ng cg, .slice K nb cb] 25)) = w1 at *
  have a0 : w1.cell? ⟨w.heap.size, 0, none⟩ = some (.slice A n c) := HX1.out.cell 0
  have a1 : w1.cell? ⟨w.heap.size, 1, none⟩ = some (.slice G ng cg) := HX1.out.cell 1
  have a2 : w1.cell? ⟨w.heap.size, 2, none⟩ = some (.slice K nb cb) := HX1.out.cell 2
  have HS := Lib.hid (hWR A G K n c ng cg nb cb zs g b a r z w1 WA.out WR.out WZ.out HT1.out)
  unfold YWriteP at HS
  clear hCK hWR
  go_wp2_with fail
  refine HS.out.mono ?_
  rintro e w2 ⟨A3, n3, c3, G3, g3, cg3, K3, k3, cb3, rfl, b2, hV⟩
  have b3 := (Below.refl _ w2).alloc (Nat.le_refl _) (.cells #[.slice A3 n3 c3, .slice G3 g3 cg3, .slice K3 k3 cb3] 25)
  have HI := Lib.hid (show YtI w w2.heap.size A G K n c ng cg nb cb zs g b A3 G3 K3 n3 c3 g3 cg3 k3 cb3 (w2.alloc (.cells #[.slice A3 n3 c3, .slice G3 g3 cg3, .slice K3 k3 cb3] 25)) from
    ⟨(HB1.out.trans (b2.mono HB1.out.size)).trans (b3.mono (by have := HB1.out.size; have := b2.size; omega)), (HX1.out.below b2 HX1.out.lt).below b3 (by have := HX1.out.lt; have := b2.size; omega), Box.new w2 25 #[.slice A3 n3 c3, .slice G3 g3 cg3, .slice K3 k3 cb3], (HT1.out.tri.next b2).next b3⟩)
  have HV := Lib.hid (hV.in_.tri.next b3)
  clear a0 a1 a2 b2 b3 hV HS HB1 HX1 HT1
  obtain ⟨a0, a1, a2⟩ := HI.out.acells
  have HF := Lib.hid (agesFault_any A G K n c ng cg nb cb zs g b (w2.alloc (.cells #[.slice A3 n3 c3, .slice G3 g3 cg3, .slice K3 k3 cb3] 25)) HI.out.tri)
  go_wp2_with fail
  refine HF.out.mono ?_
  rintro e w4 ⟨rfl, b4⟩
  clear a0 a1 a2 HF
  generalize (w2.alloc (.cells #[.slice A3 n3 c3, .slice G3 g3 cg3, .slice K3 k3 cb3] 25)) = w3 at *
  have HI := Lib.hid (HI.out.next b4)
  have HV := Lib.hid (HV.out.next b4)
  clear b4
  generalize w2.heap.size = gX at *
  obtain ⟨a0, a1, a2⟩ := HI.out.acells
  have HF := Lib.hid (HCK.out A G K n c ng cg nb cb zs g b w4 (HIN.out w4 HI.out.below))
  have hbe : (agesE zs g b != agesE zs g b) = false := by simp
  go_wp2_with fail
  refine HF.out.mono ?_
  rintro e w5 ⟨rfl, b5⟩
  have HI := Lib.hid (HI.out.next b5)
  have HV := Lib.hid (HV.out.next b5)
  clear b5 HF HCK HIN a0 a1 a2
  by_cases h0 : agesE zs g b = 0
  · have H0 := Lib.hid h0
    have HOK := Lib.hid (agesE_zero.1 h0)
    rw [yWrE_ok h0, h0]
    rw [h0] at hbe
    clear h0
    obtain ⟨a0, a1, a2⟩ := HI.out.acells
    have HS := Lib.hid (written_any A n c zs a r z w5 HI.out.tri.arena HOK.out.arena)
    unfold WrittenP at HS
    go_wp2_with fail
    refine HS.out.mono ?_
    rintro e w6 ⟨O, om, oc, rfl, b6, hom, hO⟩
    have HI := Lib.hid (HI.out.next b6)
    have HV := Lib.hid (HV.out.next b6)
    have HO := Lib.hid hO
    clear b6 hO HS a0 a1 a2
    obtain ⟨EW, hEW⟩ : ∃ EW, wrtE zs a r z = EW := ⟨_, rfl⟩
    have HEW := Lib.hid hEW
    have hwe : yWrE zs g b a r z = EW := (yWrE_ok H0.out).trans hEW
    rw [hEW]
    by_cases hw : EW = 0
    · subst hw
      have HX := Lib.hid (show TriIn w6 A3 G3 K3 n3 c3 g3 k3 (wrL zs a.toNat r.toNat z) g (wNoted zs g b a z) by have := HV.out; rwa [yWrT_ok hwe] at this)
      rw [wrtL_ok HEW.out] at HO
      have hg3 : ng = g3 := by have := HX.out.grey.1; have := HI.out.tri.grey.1; omega
      subst hg3
      have ho3 : n3 = om := by have := HX.out.arena.1; have := HO.out.1; omega
      subst ho3
      have hnb : nb ≤ 256 := by
        have q2 := sub_length (rises_nodup HOK.out.nr) (fun x hx => HOK.out.ol x (HOK.out.no x hx))
        have q3 := lives_len (arena_len HOK.out.arena)
        have q4 := HI.out.tri.blk.1
        omega
      clear hwe hEW HV hbe
      obtain ⟨a0, a1, a2⟩ := HI.out.acells
      have HCL := Lib.hid (cloneI_any K nb cb b w6 hnb HI.out.tri.blk)
      unfold ClonedI at HCL
      go_wp2_with fail
      refine HCL.out.mono ?_
      rintro e wb1 ⟨CA, cc, rfl, hCO, bb1⟩
      have HIa := Lib.hid HI.out
      have HOa := Lib.hid HO.out
      have HXa := Lib.hid HX.out
      have HBB := Lib.hid bb1
      clear HI HO HX
      have HI := Lib.hid (HIa.out.next bb1)
      have HO := Lib.hid (HOa.out.later bb1)
      have HX := Lib.hid (HXa.out.next bb1)
      have HCO := Lib.hid hCO
      have HWB := Lib.hid bb1.size
      clear bb1 hCO HCL a0 a1 a2
      obtain ⟨a0, a1, a2⟩ := HI.out.acells
      have HN1 := Lib.hid (in_ref G ng cg _ a g wb1 HI.out.tri.hg HI.out.tri.grey)
      have HN2 := Lib.hid (in_ref G ng cg _ z g wb1 HI.out.tri.hg HI.out.tri.grey)
      have HGL : Hid (Arr .i64 wb1 wb1.heap.size CA nb b) := by
        obtain ⟨A', c', e1, _, h1⟩ := HCO.out.arr
        injection e1 with v1 v2 _
        show Arr .i64 wb1 wb1.heap.size CA nb b
        rw [v1, v2]; exact h1
      by_cases hz0 : 0 ≤ z
      · have c1 : (0 ≤ z) = True := eq_true hz0
        have c2 : (z ≥ 0) = True := eq_true hz0
        by_cases hab : a ∈ g
        · rw [show decide (a ∈ g) = true by simpa using hab] at HN1
          by_cases hzb : z ∈ g
          · rw [show decide (z ∈ g) = true by simpa using hzb] at HN2
            go_wp2_with fail
            refine HN1.out.mono ?_
            rintro e wx ⟨rfl, rfl⟩
            go_wp2_with fail
            refine HN2.out.mono ?_
            rintro e wx ⟨rfl, rfl⟩
            have HRI := Lib.hid (rising_any CA nb cc b wb1.drew (by unfold maxLen; omega) (HGL.out.drewN 1))
            rw [wN_no (a := a) (z := z) HOK.out (by rintro ⟨q1, q2, q3⟩; exact q3 hzb)] at HRI
            have hk3 := HX.out.blk.1
            rw [hk3] at HRI
            obtain ⟨x0, x1, x2⟩ := HI.out.xcells
            obtain ⟨a0, a1, a2⟩ := HI.out.acells
            go_wp2_with fail
            go_region_held3 (fun w' => w'.cell? ⟨gX, 0, none⟩ = some (.slice A3 n3 c3) ∧ w'.cell? ⟨gX, 1, none⟩ = some (.slice G3 ng cg3) ∧ w'.cell? ⟨gX, 2, none⟩ = some (.slice K3 k3 cb3) ∧ w'.cell? ⟨w.heap.size, 1, none⟩ = some (.slice G ng cg))
              (first
                | go_keep
                | exact ⟨v0, v1, v2, v3⟩
                | exact ⟨u0, u1, u2, u3⟩)
              (first
                | (go_at_call 11; refine (sameAges_any A3 G3 K3 O G A7 n3 c3 ng cg3 k3 cb3 oc cg q7 (wrL zs a.toNat r.toNat z) g (wNoted zs g b a z) w7 vv.arena vv.grey vv.blk oo tt.grey hA7 vv.hn vv.hg vv.hb).mono ?_; rintro e w8 ⟨rfl, b8⟩; have ey := ex.next b8; obtain ⟨v0, v1, v2⟩ := ey.xcells; have v3 := ey.arg.cell 1)
                | (go_at_call 14; refine HRI.out.mono ?_; rintro e w7 ⟨A7, q7, rfl, b7, hA7⟩; have b7 : Below wb1.heap.size wb1 w7 := below_of_drew b7; have ex := HI.out.next b7; have vv := HX.out.next b7; have oo := HO.out.later b7; have tt := ex.tri; obtain ⟨u0, u1, u2⟩ := ex.xcells; have u3 := ex.arg.cell 1))
            rename_i hHeld
            have HE := Lib.hid ey.below
            clear hHeld v0 v1 v2 v3 u0 u1 u2 u3 ex ey
            go_wp2
            go_ret
            exact ⟨rfl, HE.out⟩
          · rw [show decide (z ∈ g) = false by simpa using hzb] at HN2
            obtain ⟨v', wd1, hrun, hO', hB'⟩ := HCO.out.push (P := Try.prog) (t := 23) (ty := 23) Try.underlying23 intI_info (by omega) (x := a) WA.out (by have := HI.out.tri.blk.1; omega) HWB.out
            obtain ⟨DA, dc, rfl, _, hDA⟩ := hO'.arr
            have hdl : (b ++ [a]).length = nb + 1 := by rw [List.length_append, HI.out.tri.blk.1]; rfl
            rw [hdl] at hDA hrun
            have HRN := Lib.hid hrun
            have HZB := Lib.hid hzb
            have HAB := Lib.hid hab
            have HZ0 := Lib.hid hz0
            go_wp2_with fail
            refine HN1.out.mono ?_
            rintro e wx ⟨rfl, rfl⟩
            go_wp2_with fail
            refine HN2.out.mono ?_
            rintro e wx ⟨rfl, rfl⟩
            have hBW : Below w6.heap.size w6 wd1 := HBB.out.trans hB'
            have HGL := Lib.hid hDA
            have HId := Lib.hid (HIa.out.next hBW)
            have HOd := Lib.hid (HOa.out.later hBW)
            have HXd := Lib.hid (HXa.out.next hBW)
            clear hrun hO' hDA hB' hdl HN1 HN2 a0 a1 a2 HI HO HX HIa HOa HXa HBB hBW
            have HI := Lib.hid HId.out
            have HO := Lib.hid HOd.out
            have HX := Lib.hid HXd.out
            clear HId HOd HXd
            go_wp2_with (at_builtin; refine wpList_append_run rfl (.tmp 67) (.tmp 69) 23 rfl rfl rfl HRN.out ?_)
            have HRI := Lib.hid (rising_any DA (nb + 1) dc (b ++ [a]) wd1.drew (by unfold maxLen; omega) (HGL.out.drewN 1))
            rw [wN_yes HOK.out ⟨HZ0.out, HAB.out, HZB.out⟩] at HRI
            have hk3 := HX.out.blk.1
            rw [hk3] at HRI
            obtain ⟨x0, x1, x2⟩ := HI.out.xcells
            obtain ⟨a0, a1, a2⟩ := HI.out.acells
            go_wp2_with fail
            go_region_held3 (fun w' => w'.cell? ⟨gX, 0, none⟩ = some (.slice A3 n3 c3) ∧ w'.cell? ⟨gX, 1, none⟩ = some (.slice G3 ng cg3) ∧ w'.cell? ⟨gX, 2, none⟩ = some (.slice K3 k3 cb3) ∧ w'.cell? ⟨w.heap.size, 1, none⟩ = some (.slice G ng cg))
              (first
                | go_keep
                | exact ⟨v0, v1, v2, v3⟩
                | exact ⟨u0, u1, u2, u3⟩)
              (first
                | (go_at_call 11; refine (sameAges_any A3 G3 K3 O G A7 n3 c3 ng cg3 k3 cb3 oc cg q7 (wrL zs a.toNat r.toNat z) g (wNoted zs g b a z) w7 vv.arena vv.grey vv.blk oo tt.grey hA7 vv.hn vv.hg vv.hb).mono ?_; rintro e w8 ⟨rfl, b8⟩; have ey := ex.next b8; obtain ⟨v0, v1, v2⟩ := ey.xcells; have v3 := ey.arg.cell 1)
                | (go_at_call 14; refine HRI.out.mono ?_; rintro e w7 ⟨A7, q7, rfl, b7, hA7⟩; have b7 : Below wd1.heap.size wd1 w7 := below_of_drew b7; have ex := HI.out.next b7; have vv := HX.out.next b7; have oo := HO.out.later b7; have tt := ex.tri; obtain ⟨u0, u1, u2⟩ := ex.xcells; have u3 := ex.arg.cell 1))
            rename_i hHeld
            have HE := Lib.hid ey.below
            clear hHeld v0 v1 v2 v3 u0 u1 u2 u3 ex ey
            go_wp2
            go_ret
            exact ⟨rfl, HE.out⟩
        · rw [show decide (a ∈ g) = false by simpa using hab] at HN1
          go_wp2_with fail
          refine HN1.out.mono ?_
          rintro e wx ⟨rfl, rfl⟩
          have HRI := Lib.hid (rising_any CA nb cc b wb1.drew (by unfold maxLen; omega) (HGL.out.drewN 1))
          rw [wN_no (a := a) (z := z) HOK.out (by rintro ⟨q1, q2, q3⟩; exact hab q2)] at HRI
          have hk3 := HX.out.blk.1
          rw [hk3] at HRI
          obtain ⟨x0, x1, x2⟩ := HI.out.xcells
          obtain ⟨a0, a1, a2⟩ := HI.out.acells
          go_wp2_with fail
          go_region_held3 (fun w' => w'.cell? ⟨gX, 0, none⟩ = some (.slice A3 n3 c3) ∧ w'.cell? ⟨gX, 1, none⟩ = some (.slice G3 ng cg3) ∧ w'.cell? ⟨gX, 2, none⟩ = some (.slice K3 k3 cb3) ∧ w'.cell? ⟨w.heap.size, 1, none⟩ = some (.slice G ng cg))
            (first
              | go_keep
              | exact ⟨v0, v1, v2, v3⟩
              | exact ⟨u0, u1, u2, u3⟩)
            (first
              | (go_at_call 11; refine (sameAges_any A3 G3 K3 O G A7 n3 c3 ng cg3 k3 cb3 oc cg q7 (wrL zs a.toNat r.toNat z) g (wNoted zs g b a z) w7 vv.arena vv.grey vv.blk oo tt.grey hA7 vv.hn vv.hg vv.hb).mono ?_; rintro e w8 ⟨rfl, b8⟩; have ey := ex.next b8; obtain ⟨v0, v1, v2⟩ := ey.xcells; have v3 := ey.arg.cell 1)
              | (go_at_call 14; refine HRI.out.mono ?_; rintro e w7 ⟨A7, q7, rfl, b7, hA7⟩; have b7 : Below wb1.heap.size wb1 w7 := below_of_drew b7; have ex := HI.out.next b7; have vv := HX.out.next b7; have oo := HO.out.later b7; have tt := ex.tri; obtain ⟨u0, u1, u2⟩ := ex.xcells; have u3 := ex.arg.cell 1))
          rename_i hHeld
          have HE := Lib.hid ey.below
          clear hHeld v0 v1 v2 v3 u0 u1 u2 u3 ex ey
          go_wp2
          go_ret
          exact ⟨rfl, HE.out⟩
      · have c1 : (0 ≤ z) = False := eq_false hz0
        have c2 : (z ≥ 0) = False := eq_false hz0
        have HRI := Lib.hid (rising_any CA nb cc b wb1.drew (by unfold maxLen; omega) (HGL.out.drewN 1))
        rw [wN_no (a := a) (z := z) HOK.out (by rintro ⟨q1, q2, q3⟩; exact hz0 q1)] at HRI
        have hk3 := HX.out.blk.1
        rw [hk3] at HRI
        obtain ⟨x0, x1, x2⟩ := HI.out.xcells
        obtain ⟨a0, a1, a2⟩ := HI.out.acells
        go_wp2_with fail
        go_region_held3 (fun w' => w'.cell? ⟨gX, 0, none⟩ = some (.slice A3 n3 c3) ∧ w'.cell? ⟨gX, 1, none⟩ = some (.slice G3 ng cg3) ∧ w'.cell? ⟨gX, 2, none⟩ = some (.slice K3 k3 cb3) ∧ w'.cell? ⟨w.heap.size, 1, none⟩ = some (.slice G ng cg))
          (first
            | go_keep
            | exact ⟨v0, v1, v2, v3⟩
            | exact ⟨u0, u1, u2, u3⟩)
          (first
            | (go_at_call 11; refine (sameAges_any A3 G3 K3 O G A7 n3 c3 ng cg3 k3 cb3 oc cg q7 (wrL zs a.toNat r.toNat z) g (wNoted zs g b a z) w7 vv.arena vv.grey vv.blk oo tt.grey hA7 vv.hn vv.hg vv.hb).mono ?_; rintro e w8 ⟨rfl, b8⟩; have ey := ex.next b8; obtain ⟨v0, v1, v2⟩ := ey.xcells; have v3 := ey.arg.cell 1)
            | (go_at_call 14; refine HRI.out.mono ?_; rintro e w7 ⟨A7, q7, rfl, b7, hA7⟩; have b7 : Below wb1.heap.size wb1 w7 := below_of_drew b7; have ex := HI.out.next b7; have vv := HX.out.next b7; have oo := HO.out.later b7; have tt := ex.tri; obtain ⟨u0, u1, u2⟩ := ex.xcells; have u3 := ex.arg.cell 1))
        rename_i hHeld
        have HE := Lib.hid ey.below
        clear hHeld v0 v1 v2 v3 u0 u1 u2 u3 ex ey
        go_wp2
        go_ret
        exact ⟨rfl, HE.out⟩
    · have HX := Lib.hid (show TriIn w6 A3 G3 K3 n3 c3 g3 k3 [] [] [] by have := HV.out; rwa [yWrT_bad (by rw [hwe]; exact hw)] at this)
      have hb : (EW != 0) = true := by simpa using hw
      have hbf : (EW == EW) = true := by simp
      clear hwe hEW hw HV hbe
      obtain ⟨x0, x1, x2⟩ := HI.out.xcells
      have HC := Lib.hid (agesNone_any A3 G3 K3 n3 c3 g3 cg3 k3 cb3 w6 HX.out)
      go_wp2_with fail
      refine HC.out.mono ?_
      rintro e w7 ⟨rfl, b7⟩
      have HI := Lib.hid (HI.out.next b7)
      clear b7 HC x0 x1 x2 HX
      go_wp2
      go_ret
      exact ⟨rfl, HI.out.below⟩
  · have hE2 := yWrE_bad (a := a) (r := r) (z := z) h0
    have HX := Lib.hid (show TriIn w5 A3 G3 K3 n3 c3 g3 k3 [] [] [] by have := HV.out; rwa [yWrT_bad (by rw [hE2]; exact h0)] at this)
    rw [hE2]
    have hb : (agesE zs g b != 0) = true := by simpa using h0
    have hb2 : (agesE zs g b == 0) = false := by simpa using h0
    clear h0 hE2 HV
    generalize agesE zs g b = E at *
    have hbf : (E == E) = true := by simp
    obtain ⟨x0, x1, x2⟩ := HI.out.xcells
    have HC := Lib.hid (agesNone_any A3 G3 K3 n3 c3 g3 cg3 k3 cb3 w5 HX.out)
    go_wp2_with fail
    refine HC.out.mono ?_
    rintro e w7 ⟨rfl, b7⟩
    have HI := Lib.hid (HI.out.next b7)
    clear b7 HC x0 x1 x2 HX
    go_wp2
    go_ret
    exact ⟨rfl, HI.out.below⟩
end Go.Proofs.Ythdnfocemchgjaa
