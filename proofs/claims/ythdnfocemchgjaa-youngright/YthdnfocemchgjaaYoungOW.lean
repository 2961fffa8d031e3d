/-
  The law's own youths; the walk of YoungOld, given what Keep and Grow answer: whatever the arguments and the memory, the call returns true and changes nothing that was there.
-/
import Derived.Test.YthdnfocemchgjaaYoungN
import Derived.Test.YthdnfocemchgjaaYoungTW
import Derived.Test.YthdnfocemchgjaaYoungI
import Derived.Test.YthdnfocemchgjaaTintCW
import Derived.BigQuiet
namespace Go.Proofs.Ythdnfocemchgjaa
open Go.RowKit

/-- At, where an object begins: is it free? -/
def AtF (f : Bool) (w : World) (e : Ending) (w' : World) : Prop := ∃ (tg : Int) (RA : Option Addr) (rn rc : Nat) (BA : Option Addr) (bn bc : Nat),
  e = .returned (.tuple #[.agg #[.int .i64 tg, .slice RA rn rc, .slice BA bn bc, .bool f], .int .i64 0]) ∧ Below w.heap.size w w'
theorem atBegin_any (A : Option Addr) (n c s : Nat) (zs : List Int) (w : World) (hn : n ≤ maxLen) (hnc : n ≤ c) (ha : Arr .u64 w w.heap.size A n zs) (h : arErr zs = 0) (hs : s ∈ begins zs 0) :
    Calls Try.prog 22 #[.slice A n c, .int .i64 s] w (AtF (vF (nth zs s)) w) := by
  obtain ⟨j, hj, e0⟩ := mem_begins hs
  refine (At_any A n c s zs w hn hnc ha).mono ?_
  rintro e w' ⟨b, hh⟩
  rcases hh with ⟨h1, _⟩ | ⟨_, i, hi, e1, r, rfl, hr⟩ | ⟨_, h2, _⟩
  · exact absurd h h1
  · have e2 : st zs i = s := by omega
    have hf := hr.free
    rw [e2] at hf
    have hf : r.f = vF (nth zs s) := hf
    exact ⟨r.t, r.ra, r.rn, r.rc, r.ba, r.bn, r.bc, by rw [← hf]; rfl, b⟩
  · exact absurd (by rw [e0]) (h2 j hj)

theorem small_ages : AgesOk [1, 1] [] [] := ⟨small_arena, .nil, .nil, by simp, by simp, by simp⟩
set_option maxHeartbeats 1000000 in
theorem youths_any (hKP : YKeepC) (w : World) : Calls Try.prog 15 #[] w fun e w' => e = .returned (.bool true) ∧ Below w.heap.size w w' := by
  have HS := Lib.hid (small_any w)
  have b1 := (Below.refl _ w).alloc (Nat.le_refl _) (.cells #[.int .u64 1, .int .u64 1] 55)
  have W1 : Whole .u64 55 (w.alloc (.cells #[.int .u64 1, .int .u64 1] 55)) w.heap.size [1, 1] := whole_new .u64 55 w [1, 1] small_wf
  obtain ⟨w1, hw1⟩ : ∃ w1, w.alloc (.cells #[.int .u64 1, .int .u64 1] 55) = w1 := ⟨_, rfl⟩
  have hsz : w1.heap.size = w.heap.size + 1 := by rw [← hw1]; simp
  rw [hw1] at b1 W1 HS
  have b2 := (Below.refl _ w1).alloc (Nat.le_refl _) (.cells #[.int .i64 0] 3)
  have W2 : Whole .i64 3 (w1.alloc (.cells #[.int .i64 0] 3)) w1.heap.size [0] := whole_new .i64 3 w1 [0] (by decide)
  have HK := Lib.hid (hKP (some ⟨w.heap.size, 0, none⟩) none none (some ⟨w1.heap.size, 0, none⟩) 2 2 0 0 0 0 1 1 [1, 1] [] [] [0] _ ⟨⟨(W1.alloc _).arr (by simp; omega), Arr.zero, Arr.zero, by unfold maxLen; omega, by omega, by unfold maxLen; omega, by unfold maxLen; omega⟩, by omega, by omega, by omega⟩ (by omega) (W2.arr W2.lt))
  have hE : keepE [1, 1] [] [] [0] = 0 := by rw [keepE_ok (agesE_zero.2 small_ages)]; exact small_from
  have hL : (keptL [1, 1] [] [] [0]).length = 1 := by
    have h0 : (0 : Int) ∈ keptL [1, 1] [] [] [0] := (kept_mem small_wf small_ages (fromE_zero small_from).2).2 (.base (yFr_mem.2 ⟨.inl (by simp), by omega, by simp⟩))
    have h1 := List.length_pos_of_mem h0
    have h2 : (keptL [1, 1] [] [] [0]).length ≤ (livesI [1, 1]).length := List.length_filter_le _ _
    rw [small_lives] at h2
    simp at h2
    omega
  have HEE := Lib.hid hE
  have HLL := Lib.hid hL
  have HB := Lib.hid (b1.trans (b2.mono b1.size))
  clear b1 W1 b2 W2 hw1 hsz hE hL
  unfold YKeepP at HK
  go_enter Try.func15, Try.ntmps15
  go_wp2_with fail
  refine HS.out.mono ?_
  rintro e w' ⟨rfl, rfl⟩
  go_wp2_with fail
  refine HK.out.mono ?_
  rintro e w3 ⟨B, m, c, rfl, hb3, _, hB⟩
  have HB3 := Lib.hid (HB.out.trans (hb3.mono HB.out.size))
  rw [HEE.out]
  obtain rfl : m = 1 := by
    have h1 := hB.1
    rw [keepO_ok HEE.out, HLL.out] at h1
    exact h1.symm
  clear hB hb3 HK
  go_wp2
  go_ret
  exact ⟨rfl, HB3.out⟩

set_option maxRecDepth 32000 in
set_option maxHeartbeats 8000000 in
theorem youngOld_of (hKP : YKeepC) (hGR : YGrowC) (A G K F : Option Addr) (n c ng cg nb cb nf cf : Nat) (zs g b fr : List Int) (w : World) (h : AgesIn w A G K n c ng cg nb cb zs g b) (hnf : nf * 8 ≤ 140737488351232) (hfr : Arr .i64 w w.heap.size F nf fr) :
    Calls Try.prog 5 #[.agg #[.slice A n c, .slice G ng cg, .slice K nb cb], .slice F nf cf] w fun e w' => e = .returned (.bool true) ∧ Below w.heap.size w w' := by
  have b1 := (Below.refl _ w).alloc (Nat.le_refl _) (.cells #[.slice A n c, .slice G ng cg, .slice K nb cb] 25)
  have HX1 := Lib.hid (Box.new w 25 #[.slice A n c, .slice G ng cg, .slice K nb cb])
  have HB1 := Lib.hid b1
  have HT1 := Lib.hid (h.next b1)
  have HF := Lib.hid hfr
  have HNS := Lib.hid hnf
  have HZ := Lib.hid h.tri.arena.2.1
  clear b1 h hfr hnf
  go_enter Try.func5, Try.ntmps5
  have HY := Lib.hid (youths_any hKP (w.alloc (.cells #[.slice A n c, .slice G ng cg, .slice K nb cb] 25)))
  go_wp2_with fail
  refine HY.out.mono ?_
  rintro e w2 ⟨rfl, b2⟩
  generalize (w.alloc (.cells #[.slice A n c, .slice G ng cg, .slice K nb cb] 25)) = w1 at *
  have HX2 := Lib.hid (HX1.out.below b2 HX1.out.lt)
  have HB2 := Lib.hid (bthen HB1.out b2)
  have HT2 := Lib.hid (HT1.out.next b2)
  clear b2 HY HX1 HB1 HT1 hKP
  have a0 : w2.cell? ⟨w.heap.size, 0, none⟩ = some (.slice A n c) := HX2.out.cell 0
  have a1 : w2.cell? ⟨w.heap.size, 1, none⟩ = some (.slice G ng cg) := HX2.out.cell 1
  have a2 : w2.cell? ⟨w.heap.size, 2, none⟩ = some (.slice K nb cb) := HX2.out.cell 2
  have HS := Lib.hid (hGR A G K F n c ng cg nb cb nf cf zs g b fr w2 HT2.out HNS.out (HF.out.later HB2.out))
  unfold YGrowP at HS
  go_wp2_with fail
  refine HS.out.mono ?_
  rintro e w3 ⟨A3, n3, c3, G3, g3, cg3, K3, k3, cb3, rfl, b3, hV⟩
  have b4 := (Below.refl _ w3).alloc (Nat.le_refl _) (.cells #[.slice A3 n3 c3, .slice G3 g3 cg3, .slice K3 k3 cb3] 25)
  have HI := Lib.hid (show YtI w w3.heap.size A G K n c ng cg nb cb zs g b A3 G3 K3 n3 c3 g3 cg3 k3 cb3 (w3.alloc (.cells #[.slice A3 n3 c3, .slice G3 g3 cg3, .slice K3 k3 cb3] 25)) from
    ⟨bthen (bthen HB2.out b3) b4, (HX2.out.below b3 HX2.out.lt).below b4 (by have := HX2.out.lt; have := b3.size; omega), Box.new w3 25 #[.slice A3 n3 c3, .slice G3 g3 cg3, .slice K3 k3 cb3], (HT2.out.tri.next b3).next b4⟩)
  have HV := Lib.hid (hV.in_.tri.next b4)
  clear a0 a1 a2 b3 b4 hV HS HB2 HX2 HT2 hGR
  by_cases hk : keepE zs g b fr = 0
  · rw [hk]
    obtain ⟨h0, h1⟩ := keepE_zero hk
    have HOK := Lib.hid (agesE_zero.1 h0)
    have HFL := Lib.hid (fromE_zero h1).2
    have HV := Lib.hid (show TriIn _ A3 G3 K3 n3 c3 g3 k3 (growL zs (newO zs g b fr)) (newO zs g b fr) [] by have := HV.out; rwa [growT_ok hk] at this)
    have HGA := Lib.hid (grow_right HZ.out HOK.out HFL.out).arena
    clear hk h0 h1
    obtain ⟨a0, a1, a2⟩ := HI.out.acells
    have HBG := Lib.hid (keepBegins_any A n c zs (w3.alloc (.cells #[.slice A3 n3 c3, .slice G3 g3 cg3, .slice K3 k3 cb3] 25)) HI.out.tri.hn HI.out.tri.arena (arErr_zero HOK.out.arena).1)
    have hln256 := lives_len (arena_len HOK.out.arena)
    obtain ⟨ln, hln⟩ : ∃ ln, (livesI zs).length = ln := ⟨_, rfl⟩
    have HLN := Lib.hid hln
    rw [hln] at hln256
    clear hln
    go_wp2_with fail
    refine HBG.out.mono ?_
    rintro e wb ⟨A2, c2, rfl, bb, hA2⟩
    clear a0 a1 a2
    generalize (w3.alloc (.cells #[.slice A3 n3 c3, .slice G3 g3 cg3, .slice K3 k3 cb3] 25)) = w4 at *
    have HI := Lib.hid (HI.out.next bb)
    have HV := Lib.hid (HV.out.next bb)
    have HA2 := Lib.hid hA2
    rw [HLN.out] at HA2 ⊢
    clear bb hA2 HBG
    generalize w3.heap.size = gX at *
    go_wp2_with fail
    go_loopw [29] (fun i wr => ∃ j : Nat, j ≤ ln ∧ i = .int .i64 j ∧ Hid (Below wb.heap.size wb wr)) (fun i _ => ln - (intOf i).toNat)
    case atStart => exact ⟨0, Nat.zero_le _, rfl, Below.refl _ _⟩
    case round =>
      obtain ⟨j, hj, rfl, HBw⟩ := hrel
      have HIw := Lib.hid (HI.out.next HBw.out)
      have HVw := Lib.hid (HV.out.next HBw.out)
      by_cases hlt : j < ln
      · obtain ⟨bb, off, rfl, _, hcs⟩ := (HA2.out.later HBw.out).2.2 (by omega)
        have hc := hcs j hlt
        have hmem : nth (livesI zs) j ∈ livesI zs := nth_mem (by rw [HLN.out]; exact hlt)
        obtain ⟨t, ht, _⟩ := live_facts HZ.out hmem
        rw [ht] at hc hmem
        have hbg : t ∈ begins zs 0 := by
          obtain ⟨s, hs, _, e⟩ := lives_mem.1 hmem
          obtain rfl : s = t := by omega
          exact hs
        have hvf : vF (nth (growL zs (newO zs g b fr)) t) = !decide ((t : Int) ∈ newO zs g b fr) := by
          obtain ⟨s, hs, hf0, e⟩ := lives_mem.1 hmem
          obtain rfl : s = t := by omega
          have h3 := (growL_head (old := newO zs g b fr) HOK.out.arena hs).2.2
          by_cases hin : (s : Int) ∈ newO zs g b fr
          · rw [show decide ((s : Int) ∈ newO zs g b fr) = true by simpa using hin, h3.2 ⟨hf0, hin⟩]; rfl
          · rw [show decide ((s : Int) ∈ newO zs g b fr) = false by simpa using hin]
            cases hv : vF (nth (growL zs (newO zs g b fr)) s)
            · exact absurd (h3.1 hv).2 hin
            · rfl
        have HAT := Lib.hid (atBegin_any A3 n3 c3 t (growL zs (newO zs g b fr)) wr HVw.out.hn HVw.out.hnc HVw.out.arena HGA.out (by rw [(growL_begins HOK.out.arena).1]; exact hbg))
        rw [hvf] at HAT
        unfold AtF at HAT
        obtain ⟨x0, x1, x2⟩ := HIw.out.xcells
        have HML := Lib.hid hmem
        clear hcs ht hmem hbg hvf
        go_wp2_with fail
        refine HAT.out.mono ?_
        rintro e wc ⟨tg, RA, rn, rc, BA, bn, bc, rfl, bc1⟩
        generalize hfe : (!decide ((t : Int) ∈ newO zs g b fr)) = FR
        have b5 := (Below.refl _ wc).alloc (Nat.le_refl _) (.cells #[.int .i64 tg, .slice RA rn rc, .slice BA bn bc, .bool FR] 48)
        have HO := Lib.hid (Box.new wc 48 #[.int .i64 tg, .slice RA rn rc, .slice BA bn bc, .bool FR])
        have hb5 := bthen bc1 b5
        have HBe := Lib.hid (bthen HBw.out hb5)
        have HIe := Lib.hid (HIw.out.next hb5)
        have HVe := Lib.hid (HVw.out.next hb5)
        clear bc1 b5 hb5 HAT x0 x1 x2 HIw HVw hc HBw
        go_wp2_with fail
        generalize wc.alloc (.cells #[.int .i64 tg, .slice RA rn rc, .slice BA bn bc, .bool FR] 48) = we at *
        obtain ⟨x0, x1, x2⟩ := HIe.out.xcells
        obtain ⟨a0, a1, a2⟩ := HIe.out.acells
        have o3 : we.cell? ⟨wc.heap.size, 3, none⟩ = some (.bool FR) := HO.out.cell 3
        have HC1 := Lib.hid (containsR_any G3 g3 cg3 _ (t : Int) (newO zs g b fr) (we.drewN 1) HVe.out.hg HVe.out.grey)
        have HC2 := Lib.hid (containsR_any G ng cg _ (t : Int) g (we.drewN 1) HIe.out.tri.hg HIe.out.tri.grey)
        have HBN : Hid (Below wb.heap.size wb (we.drewN 1)) := below_drewN HBe.out 1
        by_cases hin : (t : Int) ∈ newO zs g b fr
        · rw [show decide ((t : Int) ∈ newO zs g b fr) = true by simpa using hin] at HC1 hfe
          subst hfe
          cases hig : decide ((t : Int) ∈ g)
          · rw [hig] at HC2
            clear hin hig
            refine wp_region_still_lit (by kernel_rfl) (by kernel_rfl) ?_
            iterate 8 still_step
            still_call (HC1.out.mono fun _ _ h => ⟨h.1, h.2.symm⟩)
            iterate 7 still_step
            still_call (HC2.out.mono fun _ _ h => ⟨h.1, h.2.symm⟩)
            iterate 5 still_step
            refine wpStill_nil ?_
            go_wp2
            go_roundw
            case rel => exact ⟨j + 1, by omega, by go_num, HBN⟩
            case measure => simp [intOf]; omega
          · rw [hig] at HC2
            clear hin hig
            refine wp_region_still_lit (by kernel_rfl) (by kernel_rfl) ?_
            iterate 8 still_step
            still_call (HC1.out.mono fun _ _ h => ⟨h.1, h.2.symm⟩)
            iterate 7 still_step
            still_call (HC2.out.mono fun _ _ h => ⟨h.1, h.2.symm⟩)
            iterate 5 still_step
            refine wpStill_nil ?_
            go_wp2
            go_roundw
            case rel => exact ⟨j + 1, by omega, by go_num, HBN⟩
            case measure => simp [intOf]; omega
        · have hig : decide ((t : Int) ∈ g) = false := decide_eq_false fun hg => hin (newO_mem.2 ⟨HML.out, .inl hg⟩)
          rw [show decide ((t : Int) ∈ newO zs g b fr) = false by simpa using hin] at HC1 hfe
          subst hfe
          rw [hig] at HC2
          clear hin hig
          refine wp_region_still_lit (by kernel_rfl) (by kernel_rfl) ?_
          iterate 8 still_step
          still_call (HC1.out.mono fun _ _ h => ⟨h.1, h.2.symm⟩)
          iterate 7 still_step
          still_call (HC2.out.mono fun _ _ h => ⟨h.1, h.2.symm⟩)
          iterate 5 still_step
          refine wpStill_nil ?_
          go_wp2
          go_roundw
          case rel => exact ⟨j + 1, by omega, by go_num, HBN⟩
          case measure => simp [intOf]; omega
      · obtain rfl : j = ln := by omega
        have hin1 : inAll g (newO zs g b fr) = true := inAll_true fun x hx => newO_mem.2 ⟨HOK.out.ol x hx, .inl hx⟩
        have hin2 : inAll (newO zs g b fr) (livesI zs) = true := inAll_true fun x hx => (newO_mem.1 hx).1
        have HW1 := keepWithin_any G G3 ng cg g3 cg3 g (newO zs g b fr) wr.drew HIw.out.tri.hg HVw.out.hg (HIw.out.tri.grey.later (below_drewN (Below.refl _ wr) 1)) (HVw.out.grey.later (below_drewN (Below.refl _ wr) 1))
        rw [hin1] at HW1
        have HW1 := Lib.hid HW1
        have HW2 := Lib.hid (fun (A8 : Option Addr) (q8 : Nat) (wx : World) (h1 : Arr .i64 wx wx.heap.size G3 g3 (newO zs g b fr)) (h2 : Arr .i64 wx wx.heap.size A8 j (livesI zs)) => by
          have := keepWithin_any G3 A8 g3 cg3 j q8 (newO zs g b fr) (livesI zs) wx HVw.out.hg (by unfold maxLen; omega) h1 h2
          rw [hin2] at this
          exact this)
        clear hin1 hin2 hlt
        obtain ⟨x0, x1, x2⟩ := HIw.out.xcells
        obtain ⟨a0, a1, a2⟩ := HIw.out.acells
        have hsp := (arErr_zero HOK.out.arena).1
        have HSP := Lib.hid hsp
        clear hsp
        go_wp2_with fail
        go_region_held3 (fun w' => w'.cell? ⟨w.heap.size, 0, none⟩ = some (.slice A n c) ∧ w'.cell? ⟨w.heap.size, 1, none⟩ = some (.slice G ng cg) ∧ w'.cell? ⟨gX, 1, none⟩ = some (.slice G3 g3 cg3))
          (first
            | go_keep
            | exact ⟨t0, t1, t2⟩
            | exact ⟨v0, v1, v2⟩
            | exact ⟨u0, u1, u2⟩)
          (first
            | (go_at_call 19; refine (HW2.out A8 q8 w8 vv8.grey hA8).mono ?_; rintro e w9 ⟨rfl, b9⟩; have ez := ey.next b9; have t0 := ez.arg.cell 0; have t1 := ez.arg.cell 1; have t2 := ez.xb.cell 1)
            | (go_at_call 21; refine (keepBegins_any A n c zs w7 ex.tri.hn ex.tri.arena HSP.out).mono ?_; rintro e w8 ⟨A8, q8, rfl, b8, hA8⟩; rw [HLN.out] at hA8; rw [HLN.out]; have ey := ex.next b8; have vv8 := vv.next b8; have v0 := ey.arg.cell 0; have v1 := ey.arg.cell 1; have v2 := ey.xb.cell 1)
            | (go_at_call 19; refine HW1.out.mono ?_; rintro e w7 ⟨rfl, b7⟩; have b7 : Below wr.heap.size wr w7 := below_of_drew b7; have ex := HIw.out.next b7; have vv := HVw.out.next b7; have u0 := ex.arg.cell 0; have u1 := ex.arg.cell 1; have u2 := ex.xb.cell 1))
        rename_i hHeld
        have HE := Lib.hid ez.below
        clear hHeld t0 t1 t2 v0 v1 v2 u0 u1 u2 ex ey ez
        go_wp2
        go_ret
        exact ⟨rfl, HE.out⟩
  · have HV := Lib.hid (show TriIn _ A3 G3 K3 n3 c3 g3 k3 [] [] [] by have := HV.out; rwa [growT_bad hk] at this)
    have hn0 : n3 = 0 := by have := HV.out.arena.1; simpa using this.symm
    subst hn0
    have hb : (keepE zs g b fr != 0) = true := by simpa using hk
    clear hk HV
    obtain ⟨x0, x1, x2⟩ := HI.out.xcells
    generalize keepE zs g b fr = E at *
    go_wp2
    go_ret
    exact ⟨rfl, HI.out.below⟩
end Go.Proofs.Ythdnfocemchgjaa
