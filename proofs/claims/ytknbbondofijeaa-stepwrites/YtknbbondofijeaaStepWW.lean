/-
  The walk of StepWrites: whatever the arguments and the memory, the call returns true and changes nothing that was there.
-/
import Derived.Test.YtknbbondofijeaaStepK
import Derived.Test.YtknbbondofijeaaStepI
import Derived.Test.YtknbbondofijeaaRowsArg
import Derived.Test.YtknbbondofijeaaGood
import Derived.Deep.DeepCutAuto
namespace Go.Proofs.Ytknbbondofijeaa
open Go.RowKit

theorem RowsIn.next {w w' : World} {A : Option Addr} {N : Nat} {l : List Rw} (h : RowsIn w A N l) (hb : Below w.heap.size w w') : RowsIn w' A N l :=
  ⟨h.hn, fun h0 => by
    obtain ⟨b, off, e, hlt, hc⟩ := h.cells h0
    exact ⟨b, off, e, Nat.lt_of_lt_of_le hlt hb.size, fun j hj => (hb.cell (p := ⟨b, off + j, none⟩) hlt).trans (hc j hj)⟩, fun j hj => ⟨(h.rows j hj).1, ((h.rows j hj).2.below hb (Nat.le_refl _)).more hb.size⟩⟩
theorem noInt1 {a : Option Addr} {m c : Nat} (k : IntKind) (j : Nat) (x : Int) : (#[Value.slice a m c] : Array Value)[j]? ≠ some (Value.int k x) := by
  intro h
  match j, h with
  | 0, h => simp at h
  | j + 1, h => simp at h
/-- What stays while one writes and steps. -/
structure WrK (zs fr zs' g' b' : List Int) : Prop where
  wf : ∀ z ∈ zs', (Lit.int .u64 z).wf = true
  ok : arErr zs' = 0
  tri : TriOk (nxOf zs') (livesI zs') g' b'
  same : livesI zs' = livesI zs
  from_ : ∀ y ∈ fr, y ∈ g' ∨ y ∈ b'
theorem WrK.noErr {zs fr zs' g' b' : List Int} (h : WrK zs fr zs' g' b') : triE zs' g' b' = 0 := (triE_iff h.wf).2 ⟨h.ok, h.tri⟩
theorem WrK.start {zs fr : List Int} (hz : ∀ z ∈ zs, (Lit.int .u64 z).wf = true) (h : fromE zs fr = 0) : WrK zs fr zs (risingTo fr 256) [] :=
  ⟨hz, (fromE_zero h).1, triStart_ok h, rfl, fun y hy => .inl (by
    have := lives_fit (fromE_zero h).1 y ((fromE_zero h).2 y hy)
    exact risingTo_mem.2 ⟨hy, this.1, this.2⟩)⟩
theorem WrK.step {zs fr zs' g' b' : List Int} {x : Int} (h : WrK zs fr zs' (x :: g') b') : WrK zs fr zs' (stepG (nxOf zs') x g' b') (stepB x b') :=
  ⟨h.wf, h.ok, (step_ok (lives_fit h.ok) (lives_closed h.wf h.ok) h.tri).1, h.same, fun y hy => step_keeps (lives_fit h.ok) (lives_closed h.wf h.ok) h.tri (h.from_ y hy)⟩
/-- A step's own answer. -/
theorem WrK.stepped {zs fr zs' g' b' : List Int} (h : WrK zs fr zs' g' b') : ∃ g1 b1, stepT zs' g' b' = (zs', g1, b1) ∧ WrK zs fr zs' g1 b1 := by
  cases g' with
  | nil => exact ⟨_, _, stepT_nil h.noErr, h⟩
  | cons x g' => exact ⟨_, _, stepT_cons h.noErr, h.step⟩
theorem WrK.write {zs fr zs' g' b' : List Int} {a r z : Int} (h : WrK zs fr zs' g' b') (hw : writeE zs' g' b' a r z = 0) : WrK zs fr (wrL zs' a.toNat r.toNat z) (writeG a z g' b') b' := by
  obtain ⟨t, k, rfl, rfl, h1, h2⟩ := write_facts h.wf hw
  rw [Int.toNat_natCast, Int.toNat_natCast]
  exact ⟨wr_wf h1, wr_ok h1, wr_tri h1 h2, (wr_lives h1).trans h.same, fun y hy => write_keeps (lives_fit h.ok) h.tri (h.from_ y hy)⟩
theorem WrK.reach {zs fr zs' g' b' bF : List Int} {k : Nat} (hf : ∀ x ∈ fr, x ∈ livesI zs) (h : WrK zs fr zs' g' b') (hs : StI zs' g' b' k [] bF) : fromE zs' fr = 0 ∧ (∀ y ∈ reachL zs' fr, y ∈ bF) ∧ triE zs' [] bF = 0 := by
  have h0 : fromE zs' fr = 0 := fromE_ok h.ok fun x hx => by rw [h.same]; exact hf x hx
  refine ⟨h0, fun y hy => ?_, (triE_iff h.wf).2 ⟨h.ok, hs.ok⟩⟩
  rw [reachL_mem h.wf h0] at hy
  exact tri_all hs.ok (fun x hx => (hs.keeps x (h.from_ x hx)).resolve_left (by simp)) hy
/-- .. in memory: the state lies in block 'gT'. -/
def WrM (w : World) (gT : Nat) (zs fr : List Int) (wr : World) : Prop := ∃ A n c G ng cg K nb cb zs' g' b', Below w.heap.size w wr ∧ Box wr gT 25 #[.slice A n c, .slice G ng cg, .slice K nb cb] ∧ TriIn wr A G K n c ng nb zs' g' b' ∧ WrK zs fr zs' g' b'
theorem WrM.set {w wr : World} {gT : Nat} {zs fr zs' g' b' : List Int} {A G K A2 G2 K2 : Option Addr} {n c ng cg nb cb n2 c2 g2 cg2 k2 cb2 : Nat} (hg : w.heap.size ≤ gT) (hb : Below w.heap.size w wr) (hx : Box wr gT 25 #[.slice A n c, .slice G ng cg, .slice K nb cb]) (ht : TriIn wr A2 G2 K2 n2 c2 g2 k2 zs' g' b') (hk : WrK zs fr zs' g' b') :
    WrM w gT zs fr (((wr.setCell ⟨gT, 0, none⟩ (.slice A2 n2 c2)).setCell ⟨gT, 1, none⟩ (.slice G2 g2 cg2)).setCell ⟨gT, 2, none⟩ (.slice K2 k2 cb2)) := by
  obtain ⟨z1, z2, z3, z4⟩ := set3 hb hx hg (.slice A2 n2 c2) (.slice G2 g2 cg2) (.slice K2 k2 cb2)
  exact ⟨A2, n2, c2, G2, g2, cg2, K2, k2, cb2, zs', g', b', z1, z2, ⟨ht.arena.set3 hx z3 z4, ht.grey.set3 hx z3 z4, ht.blk.set3 hx z3 z4, ht.hn, ht.hnc, ht.hg, ht.hb⟩, hk⟩

set_option maxRecDepth 16000 in
set_option maxHeartbeats 8000000 in
theorem stepWrites_walk (A F Lx : Option Addr) (n c nf cf ln lc : Nat) (zs fr : List Int) (l : List Rw) (w : World) (hn : n ≤ maxLen) (hnc : n ≤ c) (ha : Arr .u64 w w.heap.size A n zs) (hfr : Arr .i64 w w.heap.size F nf fr) (hsz : nf * 8 ≤ 140737488351232) (hl : RowsIn w Lx ln l) :
    Calls Try.prog 6 #[.slice A n c, .slice F nf cf, .slice Lx ln lc] w fun e w' => e = .returned (.bool true) ∧ Below w.heap.size w w' := by
  have HA := Lib.hid ha
  have HF := Lib.hid hfr
  have HN := Lib.hid hn
  have HSZ := Lib.hid hsz
  have HL := Lib.hid hl
  have hlm := hl.hn
  unfold maxLen at hlm
  have HNF : Hid (nf ≤ maxLen) := by show _ ≤ _; unfold maxLen; omega
  have HT3 := Lib.hid (threes_any w)
  clear ha hfr hn hsz hl
  go_enter Try.func6, Try.ntmps6
  go_wp2_with fail
  refine HT3.out.mono ?_
  rintro e w1 ⟨rfl, b1⟩
  have HB1 := Lib.hid b1
  have HS := Lib.hid (Start_any A F n c nf cf zs fr w1 HN.out hnc (HA.out.later b1) (HF.out.later b1) HSZ.out)
  unfold StartP at HS
  clear b1 HT3
  go_wp2_with fail
  refine HS.out.mono ?_
  rintro e w2 ⟨A3, n3, c3, G3, g3, gc3, K3, k3, kc3, rfl, b2, hV⟩
  have HB2 := Lib.hid (HB1.out.trans (b2.mono HB1.out.size))
  have HV2 := Lib.hid hV
  clear b2 hV HS HB1
  by_cases h0 : fromE zs fr = 0
  · have H0 := Lib.hid h0
    rw [h0]
    have hv := HV2.out
    unfold TriV at hv
    rw [startT_ok h0] at hv
    have b3 := (Below.refl _ w2).alloc (Nat.le_refl _) (.cells #[.slice A3 n3 c3, .slice G3 g3 gc3, .slice K3 k3 kc3] 25)
    have HWS := Lib.hid HB2.out.size
    have HM := Lib.hid (show WrM w w2.heap.size zs fr (w2.alloc (.cells #[.slice A3 n3 c3, .slice G3 g3 gc3, .slice K3 k3 kc3] 25)) from
      ⟨A3, n3, c3, G3, g3, gc3, K3, k3, kc3, zs, risingTo fr 256, [], HB2.out.trans (b3.mono HB2.out.size), Box.new w2 25 #[.slice A3 n3 c3, .slice G3 g3 gc3, .slice K3 k3 kc3], TriIn.next (show TriIn w2 A3 G3 K3 n3 c3 g3 k3 zs (risingTo fr 256) [] from hv) b3, WrK.start HA.out.2.1 h0⟩)
    clear b3 hv HV2 h0 HB2
    go_wp2_with fail
    generalize (w2.alloc (.cells #[.slice A3 n3 c3, .slice G3 g3 gc3, .slice K3 k3 kc3] 25)) = w3 at *
    obtain ⟨gT, hgT⟩ : ∃ gT, w2.heap.size = gT := ⟨_, rfl⟩
    rw [hgT] at HM HWS ⊢
    clear hgT
    go_loopw [34] (fun i wr => ∃ j : Nat, j ≤ ln ∧ i = .int .i64 j ∧ Hid (WrM w gT zs fr wr)) (fun i _ => ln - (intOf i).toNat)
    case atStart => exact ⟨0, Nat.zero_le _, rfl, HM.out⟩
    case round =>
      obtain ⟨j, hj, rfl, HM⟩ := hrel
      obtain ⟨A4, n4, c4, G4, g4, cg4, K4, k4, cb4, zs', g', b', hB, hX, hT, hK⟩ := HM.out
      have HB := Lib.hid hB
      have HX := Lib.hid hX
      have HT := Lib.hid hT
      have HK := Lib.hid hK
      have a0 : wr.cell? ⟨gT, 0, none⟩ = some (.slice A4 n4 c4) := hX.cell 0
      have a1 : wr.cell? ⟨gT, 1, none⟩ = some (.slice G4 g4 cg4) := hX.cell 1
      have a2 : wr.cell? ⟨gT, 2, none⟩ = some (.slice K4 k4 cb4) := hX.cell 2
      have f0 := hX.soft 0
      have f1 := hX.soft 1
      have f2 := hX.soft 2
      clear hB hX hT hK HM
      by_cases hgo : j < ln ∧ j < 60
      · obtain ⟨hlt, h60⟩ := hgo
        have c60 : ((j : Int) ≥ 60) = False := eq_false (by omega)
        have c61 : ((60 : Int) ≤ (j : Int)) = False := eq_false (by omega)
        have hrow := HL.out.next HB.out
        obtain ⟨bl, ol, rfl, hbl, hcs⟩ := hrow.cells (by omega)
        have hc := hcs j hlt
        obtain ⟨hcm, hcr⟩ := hrow.rows j hlt
        obtain ⟨C, hC⟩ : ∃ C, (nthG l j).1 = C := ⟨_, rfl⟩
        obtain ⟨cn, hcn⟩ : ∃ cn, (nthG l j).2.1 = cn := ⟨_, rfl⟩
        obtain ⟨cc, hcc⟩ : ∃ cc, (nthG l j).2.2.1 = cc := ⟨_, rfl⟩
        obtain ⟨cx, hcx⟩ : ∃ cx, (nthG l j).2.2.2 = cx := ⟨_, rfl⟩
        rw [hC, hcn, hcc] at hc
        rw [hC, hcn, hcx] at hcr
        have HCR := Lib.hid hcr
        clear hcs hcr hcm hrow hC hcn hcc hcx hbl
        by_cases h3 : cn < 3
        · have c3 : ((cn : Int) < 3) = True := eq_true (by omega)
          obtain ⟨g1, b1, hst, hk1⟩ := HK.out.stepped
          have HST := Lib.hid (stepStep_any A4 G4 K4 n4 c4 g4 cg4 k4 cb4 zs' g' b' wr HT.out)
          unfold StepP at HST
          rw [HK.out.noErr, hst] at HST
          have HK1 := Lib.hid hk1
          clear hst hk1 h3
          generalize stepMore zs' g' b' = MO at *
          go_wp2_with fail
          refine HST.out.mono ?_
          rintro e w4 ⟨A5, n5, c5, G5, g5, cg5, K5, k5, cb5, rfl, b4, hV⟩
          have hV : TriIn w4 A5 G5 K5 n5 c5 g5 k5 zs' g1 b1 := hV
          have b5 := (Below.refl _ w4).alloc (Nat.le_refl _) (.cells #[.slice A5 n5 c5, .slice G5 g5 cg5, .slice K5 k5 cb5] 25)
          have hX5 := (HX.out.below b4 HX.out.lt).below b5 (by have := HX.out.lt; have := b4.size; omega)
          have HN5 := Lib.hid (WrM.set (A2 := A5) (G2 := G5) (K2 := K5) (n2 := n5) (c2 := c5) (g2 := g5) (cg2 := cg5) (k2 := k5) (cb2 := cb5) HWS.out ((HB.out.trans (b4.mono HB.out.size)).trans (b5.mono (by have := HB.out.size; have := b4.size; omega))) hX5 (hV.next b5) HK1.out)
          clear a0 a1 a2 f0 f1 f2
          have a0 : (w4.alloc (.cells #[.slice A5 n5 c5, .slice G5 g5 cg5, .slice K5 k5 cb5] 25)).cell? ⟨gT, 0, none⟩ = some (.slice A4 n4 c4) := hX5.cell 0
          have a1 : (w4.alloc (.cells #[.slice A5 n5 c5, .slice G5 g5 cg5, .slice K5 k5 cb5] 25)).cell? ⟨gT, 1, none⟩ = some (.slice G4 g4 cg4) := hX5.cell 1
          have a2 : (w4.alloc (.cells #[.slice A5 n5 c5, .slice G5 g5 cg5, .slice K5 k5 cb5] 25)).cell? ⟨gT, 2, none⟩ = some (.slice K4 k4 cb4) := hX5.cell 2
          have f0 := hX5.soft 0
          have f1 := hX5.soft 1
          have f2 := hX5.soft 2
          clear b4 b5 hV hX5 HST
          go_wp2
          go_roundw
          case rel => exact ⟨j + 1, by omega, by go_num, HN5.out⟩
          case measure => simp [intOf]; omega
        · have c3 : ((cn : Int) < 3) = False := eq_false (by omega)
          have hcl := HCR.out.1
          obtain ⟨bc, oc, rfl, hbc, hccs⟩ := HCR.out.2.2 (by omega)
          have q0 := hccs 0 (by omega)
          have q1 := hccs 1 (by omega)
          have q2 := hccs 2 (by omega)
          have x0w := HCR.out.2.1 _ (nth_mem (l := cx) (j := 0) (by omega))
          have x2w := HCR.out.2.1 _ (nth_mem (l := cx) (j := 2) (by omega))
          have HBC := Lib.hid hbc
          have i0 : (0 : Int) < (cn : Int) := by omega
          have i1 : (1 : Int) < (cn : Int) := by omega
          have i2 : (2 : Int) < (cn : Int) := by omega
          have j0 : 0 < cn := by omega
          have j1 : 1 < cn := by omega
          have j2 : 2 < cn := by omega
          rw [Nat.add_zero] at q0
          generalize nth cx 0 = X0 at *
          generalize nth cx 1 = X1 at *
          generalize nth cx 2 = X2 at *
          have HW := Lib.hid (fun wx (hb : Below wr.heap.size wr wx) => stepWrite_any A4 G4 K4 n4 c4 g4 cg4 k4 cb4 zs' g' b' X0 X1 X2 wx x0w x2w (HT.out.next hb))
          unfold WriteP at HW
          obtain ⟨EW, hEW⟩ : ∃ EW, writeE zs' g' b' X0 X1 X2 = EW := ⟨_, rfl⟩
          have HEW := Lib.hid hEW
          rw [hEW] at HW
          have HGT := Lib.hid HX.out.lt
          clear hccs hcl hbc x0w x2w hEW h3
          go_wp2_with fail
          go_cut [14, 15] (fun s u wx => Hid (∃ g14 A5 n5 c5 G5 g5 cg5 K5 k5 cb5, s = .pointer (some ⟨g14, 0, none⟩) ∧ u = .int .i64 EW ∧ Below wr.heap.size wr wx ∧ Box wx g14 25 #[.slice A5 n5 c5, .slice G5 g5 cg5, .slice K5 k5 cb5] ∧ TriV wx A5 G5 K5 n5 c5 g5 k5 (writeT zs' g' b' X0 X1 X2) ∧ wr.heap.size ≤ g14))
          case first => as_aux_lemma =>
            have m1 := Nat.ne_of_lt HGT.out
            have m2 := Nat.ne_of_lt HBC.out
            have m3 := Nat.ne_of_gt HGT.out
            have m4 := Nat.ne_of_gt HBC.out
            have hg0 := fun (o : Obj) (p : Nat) (v : Value) (hv : wr.cell? ⟨gT, p, none⟩ = some v) => ((((Below.refl wr.heap.size wr).alloc (Nat.le_refl _) o).cell (p := ⟨gT, p, none⟩) HGT.out).trans hv)
            have hq0 := fun (o : Obj) (p : Nat) (v : Value) (hv : wr.cell? ⟨bc, p, none⟩ = some v) => ((((Below.refl wr.heap.size wr).alloc (Nat.le_refl _) o).cell (p := ⟨bc, p, none⟩) HBC.out).trans hv)
            go_region_held3 (fun w' => w'.cell? ⟨gT, 0, none⟩ = some (.slice A4 n4 c4) ∧ w'.cell? ⟨gT, 1, none⟩ = some (.slice G4 g4 cg4) ∧ w'.cell? ⟨gT, 2, none⟩ = some (.slice K4 k4 cb4) ∧ w'.cell? ⟨bc, oc, none⟩ = some (.int .i64 X0) ∧ w'.cell? ⟨bc, oc + 1, none⟩ = some (.int .i64 X1) ∧ w'.cell? ⟨bc, oc + 2, none⟩ = some (.int .i64 X2))
              (first
                | exact ⟨r0, r1, r2, p0, p1, p2⟩
                | exact ⟨hg5 _ _ _ r0, hg5 _ _ _ r1, hg5 _ _ _ r2, hq5 _ _ _ p0, hq5 _ _ _ p1, hq5 _ _ _ p2⟩
                | exact ⟨hg0 _ _ _ a0, hg0 _ _ _ a1, hg0 _ _ _ a2, hq0 _ _ _ q0, hq0 _ _ _ q1, hq0 _ _ _ q2⟩
                | go_keep)
              (first
                | (go_at_call 18; refine (HW.out wr.drew (Below.refl _ _).drew).mono ?_; rintro e w4 ⟨A5, n5, c5, G5, g5, cg5, K5, k5, cb5, rfl, b4, hV⟩; have b4 : Below wr.heap.size wr w4 := below_of_drew b4; have hx4 := HX.out.below b4 HX.out.lt; have p0 := (b4.cell (p := ⟨bc, oc, none⟩) HBC.out).trans q0; have p1 := (b4.cell (p := ⟨bc, oc + 1, none⟩) HBC.out).trans q1; have p2 := (b4.cell (p := ⟨bc, oc + 2, none⟩) HBC.out).trans q2; have r0 : w4.cell? ⟨gT, 0, none⟩ = some (.slice A4 n4 c4) := hx4.cell 0; have r1 : w4.cell? ⟨gT, 1, none⟩ = some (.slice G4 g4 cg4) := hx4.cell 1; have r2 : w4.cell? ⟨gT, 2, none⟩ = some (.slice K4 k4 cb4) := hx4.cell 2; have n1 := Nat.ne_of_lt hx4.lt; have n2 := Nat.ne_of_lt (Nat.lt_of_lt_of_le HBC.out b4.size); have n3 := Nat.ne_of_gt hx4.lt; have n4' := Nat.ne_of_gt (Nat.lt_of_lt_of_le HBC.out b4.size); have hg5 := fun (o : Obj) (p : Nat) (v : Value) (hv : w4.cell? ⟨gT, p, none⟩ = some v) => ((((Below.refl w4.heap.size w4).alloc (Nat.le_refl _) o).cell (p := ⟨gT, p, none⟩) hx4.lt).trans hv); have hq5 := fun (o : Obj) (p : Nat) (v : Value) (hv : w4.cell? ⟨bc, p, none⟩ = some v) => ((((Below.refl w4.heap.size w4).alloc (Nat.le_refl _) o).cell (p := ⟨bc, p, none⟩) (Nat.lt_of_lt_of_le HBC.out b4.size)).trans hv))
                | (go_at_call 18; refine (HW.out (wr.alloc (.cells #[.slice none 0 0, .slice none 0 0, .slice none 0 0] 25)).drew ((Below.refl _ _).alloc (Nat.le_refl _) _).drew).mono ?_; rintro e w4 ⟨A5, n5, c5, G5, g5, cg5, K5, k5, cb5, rfl, b4, hV⟩; have b4' : Below (wr.alloc (.cells #[.slice none 0 0, .slice none 0 0, .slice none 0 0] 25)).heap.size (wr.alloc (.cells #[.slice none 0 0, .slice none 0 0, .slice none 0 0] 25)) w4 := below_of_drew b4; obtain ⟨by4, b4⟩ := boxed_call b4'; have hx4 := HX.out.below b4 HX.out.lt; have p0 := (b4.cell (p := ⟨bc, oc, none⟩) HBC.out).trans q0; have p1 := (b4.cell (p := ⟨bc, oc + 1, none⟩) HBC.out).trans q1; have p2 := (b4.cell (p := ⟨bc, oc + 2, none⟩) HBC.out).trans q2; have r0 : w4.cell? ⟨gT, 0, none⟩ = some (.slice A4 n4 c4) := hx4.cell 0; have r1 : w4.cell? ⟨gT, 1, none⟩ = some (.slice G4 g4 cg4) := hx4.cell 1; have r2 : w4.cell? ⟨gT, 2, none⟩ = some (.slice K4 k4 cb4) := hx4.cell 2; have n1 := Nat.ne_of_lt hx4.lt; have n2 := Nat.ne_of_lt (Nat.lt_of_lt_of_le HBC.out b4.size); have n3 := Nat.ne_of_gt hx4.lt; have n4' := Nat.ne_of_gt (Nat.lt_of_lt_of_le HBC.out b4.size); have hg5 := fun (o : Obj) (p : Nat) (v : Value) (hv : w4.cell? ⟨gT, p, none⟩ = some v) => ((((Below.refl w4.heap.size w4).alloc (Nat.le_refl _) o).cell (p := ⟨gT, p, none⟩) hx4.lt).trans hv); have hq5 := fun (o : Obj) (p : Nat) (v : Value) (hv : w4.cell? ⟨bc, p, none⟩ = some v) => ((((Below.refl w4.heap.size w4).alloc (Nat.le_refl _) o).cell (p := ⟨bc, p, none⟩) (Nat.lt_of_lt_of_le HBC.out b4.size)).trans hv); have y0 : w4.cell? ⟨wr.heap.size, 0, none⟩ = some (.slice none 0 0) := by4.cell 0; have y1 : w4.cell? ⟨wr.heap.size, 1, none⟩ = some (.slice none 0 0) := by4.cell 1; have y2 : w4.cell? ⟨wr.heap.size, 2, none⟩ = some (.slice none 0 0) := by4.cell 2; have s0 := by4.soft 0; have s1 := by4.soft 1; have s2 := by4.soft 2))
            · have b5 := (Below.refl _ w4).alloc (Nat.le_refl _) (.cells #[.slice A5 n5 c5, .slice G5 g5 cg5, .slice K5 k5 cb5] 25)
              go_wp2_with fail
              go_meet
              exact ⟨w4.heap.size, A5, n5, c5, G5, g5, cg5, K5, k5, cb5, rfl, rfl, b4.trans (b5.mono b4.size), Box.new w4 25 #[.slice A5 n5 c5, .slice G5 g5 cg5, .slice K5 k5 cb5], hV.next b5, b4.size⟩
            · obtain ⟨z1, z2, z3, z4⟩ := set3 b4 by4 (Nat.le_refl _) (.slice A5 n5 c5) (.slice G5 g5 cg5) (.slice K5 k5 cb5)
              go_wp2_with fail
              go_meet
              exact ⟨wr.heap.size, A5, n5, c5, G5, g5, cg5, K5, k5, cb5, rfl, rfl, z1, z2, ⟨hV.arena.set3 by4 z3 z4, hV.grey.set3 by4 z3 z4, hV.blk.set3 by4 z3 z4, hV.hn, hV.hnc, hV.hg, hV.hb⟩, Nat.le_refl _⟩
          case rest => as_aux_lemma =>
            obtain ⟨g14, A5, n5, c5, G5, g5, cg5, K5, k5, cb5, rfl, rfl, hb5, hx14, hV5, hge⟩ := hcut.out
            have HBC5 := Lib.hid (HB.out.trans (hb5.mono HB.out.size))
            have HXC := Lib.hid (HX.out.below hb5 HX.out.lt)
            have HTC := Lib.hid (HT.out.next hb5)
            have HX14 := Lib.hid hx14
            clear hcut HW a0 a1 a2 f0 f1 f2 q0 q1 q2
            by_cases hew : EW = 0
            · subst hew
              have hV5' := hV5
              unfold TriV at hV5'
              rw [writeT_ok HEW.out] at hV5'
              have HK5 := Lib.hid (HK.out.write HEW.out)
              have m0 : g14 ≠ gT := by have := HGT.out; omega
              have m1 : gT ≠ g14 := fun h => m0 h.symm
              obtain ⟨z1, z2, z3, z4⟩ := set3 HBC5.out HXC.out HWS.out (.slice A5 n5 c5) (.slice G5 g5 cg5) (.slice K5 k5 cb5)
              have hT5 : TriIn (((wc.setCell ⟨gT, 0, none⟩ (.slice A5 n5 c5)).setCell ⟨gT, 1, none⟩ (.slice G5 g5 cg5)).setCell ⟨gT, 2, none⟩ (.slice K5 k5 cb5)) A5 G5 K5 n5 c5 g5 k5 (wrL zs' X0.toNat X1.toNat X2) (writeG X0 X2 g' b') b' := ⟨hV5'.arena.set3 HXC.out z3 z4, hV5'.grey.set3 HXC.out z3 z4, hV5'.blk.set3 HXC.out z3 z4, hV5'.hn, hV5'.hnc, hV5'.hg, hV5'.hb⟩
              have HM5 := Lib.hid (show WrM w gT zs fr (((wc.setCell ⟨gT, 0, none⟩ (.slice A5 n5 c5)).setCell ⟨gT, 1, none⟩ (.slice G5 g5 cg5)).setCell ⟨gT, 2, none⟩ (.slice K5 k5 cb5)) from ⟨A5, n5, c5, G5, g5, cg5, K5, k5, cb5, _, _, _, z1, z2, hT5, HK5.out⟩)
              have HCK := Lib.hid (stepCheck_any A5 G5 K5 n5 c5 g5 cg5 k5 cb5 _ _ _ _ hT5)
              rw [HK5.out.noErr] at HCK
              have x0 : wc.cell? ⟨g14, 0, none⟩ = some (.slice A5 n5 c5) := HX14.out.cell 0
              have x1 : wc.cell? ⟨g14, 1, none⟩ = some (.slice G5 g5 cg5) := HX14.out.cell 1
              have x2 : wc.cell? ⟨g14, 2, none⟩ = some (.slice K5 k5 cb5) := HX14.out.cell 2
              have a0 : wc.cell? ⟨gT, 0, none⟩ = some (.slice A4 n4 c4) := HXC.out.cell 0
              have a1 : wc.cell? ⟨gT, 1, none⟩ = some (.slice G4 g4 cg4) := HXC.out.cell 1
              have a2 : wc.cell? ⟨gT, 2, none⟩ = some (.slice K4 k4 cb4) := HXC.out.cell 2
              have f0 := HXC.out.soft 0
              have f1 := HXC.out.soft 1
              have f2 := HXC.out.soft 2
              have d0 : (((wc.setCell ⟨gT, 0, none⟩ (.slice A5 n5 c5)).setCell ⟨gT, 1, none⟩ (.slice G5 g5 cg5)).setCell ⟨gT, 2, none⟩ (.slice K5 k5 cb5)).cell? ⟨gT, 0, none⟩ = some (.slice A5 n5 c5) := z2.cell 0
              have d1 : (((wc.setCell ⟨gT, 0, none⟩ (.slice A5 n5 c5)).setCell ⟨gT, 1, none⟩ (.slice G5 g5 cg5)).setCell ⟨gT, 2, none⟩ (.slice K5 k5 cb5)).cell? ⟨gT, 1, none⟩ = some (.slice G5 g5 cg5) := z2.cell 1
              have d2 : (((wc.setCell ⟨gT, 0, none⟩ (.slice A5 n5 c5)).setCell ⟨gT, 1, none⟩ (.slice G5 g5 cg5)).setCell ⟨gT, 2, none⟩ (.slice K5 k5 cb5)).cell? ⟨gT, 2, none⟩ = some (.slice K5 k5 cb5) := z2.cell 2
              have HZ := Lib.hid z1
              clear hV5' hV5 hT5 z1 z2 z3 z4 hx14 hb5
              go_wp2_with fail
              refine HCK.out.mono ?_
              rintro e w9 ⟨rfl, b9⟩
              have HM9 : Hid (WrM w gT zs fr w9) := by
                obtain ⟨A6, n6, c6, G6, g6, cg6, K6, k6, cb6, zz, gg, bb, e1, e2, e3, e4⟩ := HM5.out
                exact ⟨A6, n6, c6, G6, g6, cg6, K6, k6, cb6, zz, gg, bb, e1.trans (b9.mono e1.size), e2.below b9 e2.lt, e3.next b9, e4⟩
              clear b9 HCK d0 d1 d2 x0 x1 x2 a0 a1 a2 f0 f1 f2
              go_wp2
              go_roundw
              case rel => exact ⟨j + 1, by omega, by go_num, HM9.out⟩
              case measure => simp [intOf]; omega
            · have he : (EW == 0) = false := by simpa using hew
              have HCK := Lib.hid (stepCheck_any A4 G4 K4 n4 c4 g4 cg4 k4 cb4 _ _ _ _ HTC.out)
              rw [HK.out.noErr] at HCK
              have a0 : wc.cell? ⟨gT, 0, none⟩ = some (.slice A4 n4 c4) := HXC.out.cell 0
              have a1 : wc.cell? ⟨gT, 1, none⟩ = some (.slice G4 g4 cg4) := HXC.out.cell 1
              have a2 : wc.cell? ⟨gT, 2, none⟩ = some (.slice K4 k4 cb4) := HXC.out.cell 2
              clear hV5 hx14 hb5 hew
              go_wp2_with fail
              refine HCK.out.mono ?_
              rintro e w9 ⟨rfl, b9⟩
              have HM9 := Lib.hid (show WrM w gT zs fr w9 from ⟨A4, n4, c4, G4, g4, cg4, K4, k4, cb4, zs', g', b', HBC5.out.trans (b9.mono HBC5.out.size), HXC.out.below b9 HXC.out.lt, HTC.out.next b9, HK.out⟩)
              clear b9 HCK a0 a1 a2
              go_wp2
              go_roundw
              case rel => exact ⟨j + 1, by omega, by go_num, HM9.out⟩
              case measure => simp [intOf]; omega
      · -- THE WAY OUT
        rcases Nat.lt_or_ge j ln with hlt | hge
        · have hrow := HL.out.next HB.out
          obtain ⟨bl, ol, rfl, hbl, hcs⟩ := hrow.cells (by omega)
          have hc := hcs j hlt
          have c60 : ((j : Int) ≥ 60) = True := eq_true (by omega)
          have c61 : ((60 : Int) ≤ (j : Int)) = True := eq_true (by omega)
          clear hcs hrow hbl
          have htri := HK.out.noErr
          have HST := Lib.hid (steps_any A4 G4 K4 n4 c4 g4 cg4 k4 cb4 zs' g' b' wr HT.out htri)
          unfold StepsP at HST
          clear htri
          go_wp2_with fail
          refine HST.out.mono ?_
          rintro e w4 ⟨A5, n5, c5, G5, g5, cg5, K5, k5, cb5, k, bF, rfl, b4, hT4, hS4⟩
          clear a0 a1 a2 f0 f1 f2
          have HB4 := Lib.hid (HB.out.trans (b4.mono HB.out.size))
          have HX4 := Lib.hid (HX.out.below b4 HX.out.lt)
          obtain ⟨hfr0, hre, hte⟩ := HK.out.reach (fun x hx => (fromE_zero H0.out).2 x hx) hS4
          have HF0 := Lib.hid hfr0
          have HRE := Lib.hid hre
          have r0 : w4.cell? ⟨gT, 0, none⟩ = some (.slice A4 n4 c4) := HX4.out.cell 0
          have r1 : w4.cell? ⟨gT, 1, none⟩ = some (.slice G4 g4 cg4) := HX4.out.cell 1
          have r2 : w4.cell? ⟨gT, 2, none⟩ = some (.slice K4 k4 cb4) := HX4.out.cell 2
          have s0 := HX4.out.soft 0
          have s1 := HX4.out.soft 1
          have s2 := HX4.out.soft 2
          obtain ⟨z1, z2, z3, z4⟩ := set3 HB4.out HX4.out HWS.out (.slice A5 n5 c5) (.slice G5 g5 cg5) (.slice K5 k5 cb5)
          have HT5 := Lib.hid (show TriIn (((w4.setCell ⟨gT, 0, none⟩ (.slice A5 n5 c5)).setCell ⟨gT, 1, none⟩ (.slice G5 g5 cg5)).setCell ⟨gT, 2, none⟩ (.slice K5 k5 cb5)) A5 G5 K5 n5 c5 g5 k5 zs' [] bF from
            ⟨hT4.arena.set3 HX4.out z3 z4, hT4.grey.set3 HX4.out z3 z4, hT4.blk.set3 HX4.out z3 z4, hT4.hn, hT4.hnc, hT4.hg, hT4.hb⟩)
          have HB5 := Lib.hid z1
          have HX5 := Lib.hid z2
          have HD := Lib.hid (fun wx (hb : Below (((w4.setCell ⟨gT, 0, none⟩ (.slice A5 n5 c5)).setCell ⟨gT, 1, none⟩ (.slice G5 g5 cg5)).setCell ⟨gT, 2, none⟩ (.slice K5 k5 cb5)).heap.size (((w4.setCell ⟨gT, 0, none⟩ (.slice A5 n5 c5)).setCell ⟨gT, 1, none⟩ (.slice G5 g5 cg5)).setCell ⟨gT, 2, none⟩ (.slice K5 k5 cb5)) wx) => stepDone_any A5 G5 K5 n5 c5 g5 cg5 k5 cb5 zs' [] bF wx (HT5.out.next hb))
          unfold DoneP at HD
          rw [doneE_ok hte rfl] at HD
          have HDL : Hid (doneL zs' [] bF = (livesI zs').filter fun x => decide (x ∉ bF)) := by
            show _ = _
            unfold doneL
            rw [if_pos (doneE_ok hte rfl)]
          clear z1 z2 z3 z4 b4 hT4 hS4 hfr0 hre hte HST HB4 HX4
          go_wp2_with fail
          clear r0 r1 r2 s0 s1 s2
          generalize (((w4.setCell ⟨gT, 0, none⟩ (.slice A5 n5 c5)).setCell ⟨gT, 1, none⟩ (.slice G5 g5 cg5)).setCell ⟨gT, 2, none⟩ (.slice K5 k5 cb5)) = w5 at *
          have a0 : w5.cell? ⟨gT, 0, none⟩ = some (.slice A5 n5 c5) := HX5.out.cell 0
          have a1 : w5.cell? ⟨gT, 1, none⟩ = some (.slice G5 g5 cg5) := HX5.out.cell 1
          have a2 : w5.cell? ⟨gT, 2, none⟩ = some (.slice K5 k5 cb5) := HX5.out.cell 2
          refine (HD.out w5 (Below.refl _ _)).mono ?_
          rintro e w6 ⟨L, lm, lc, rfl, b6, hlm, hL⟩
          clear a0 a1 a2
          have HB6 := Lib.hid (HB5.out.trans (b6.mono HB5.out.size))
          have HX6 := Lib.hid (HX5.out.below b6 HX5.out.lt)
          have HT6 := Lib.hid (HT5.out.next b6)
          have b7 := (Below.refl _ w6).alloc (Nat.le_refl _) (.cells #[.slice L lm lc] 23)
          have HX18 := Lib.hid (Box.new w6 23 #[.slice L lm lc])
          have HB7 := Lib.hid (HB6.out.trans (b7.mono HB6.out.size))
          have HX7 := Lib.hid (HX6.out.below b7 HX6.out.lt)
          have HT7 := Lib.hid (HT6.out.next b7)
          have HL7 := Lib.hid (hL.later b7)
          have HLM := Lib.hid hlm
          have a0 : (w6.alloc (.cells #[.slice L lm lc] 23)).cell? ⟨gT, 0, none⟩ = some (.slice A5 n5 c5) := HX7.out.cell 0
          obtain ⟨g18, hg18⟩ : ∃ g18, w6.heap.size = g18 := ⟨_, rfl⟩
          have HR := Lib.hid (Reach_any A5 F n5 c5 nf cf zs' fr _ HT7.out.hn HT7.out.hnc HT7.out.arena HNF.out (HF.out.later HB7.out))
          unfold ReachP at HR
          rw [HF0.out] at HR
          clear b6 b7 hlm hL HD HB6 HX6 HT6
          go_wp2_with fail
          generalize (w6.alloc (.cells #[.slice L lm lc] 23)) = w6a at *
          rw [hg18] at HX18
          clear hg18
          refine HR.out.mono ?_
          rintro e w7 ⟨R, rm, rc, rfl, b7, hcase⟩
          obtain ⟨hrm, hR⟩ : rm = (reachL zs' fr).length ∧ Arr .i64 w7 w7.heap.size R rm (reachL zs' fr) := by
            rcases hcase with ⟨h, _⟩ | ⟨_, h⟩
            · exact absurd rfl h
            · exact h
          have HR7 := Lib.hid hR
          have HRM : Hid (rm ≤ maxLen) := by
            have h2 : rm ≤ 256 := by rw [hrm]; exact reachL_len (arena_len (fromE_zero HF0.out).1)
            show rm ≤ maxLen
            unfold maxLen; omega
          have HB7' := Lib.hid (HB7.out.trans (b7.mono HB7.out.size))
          have HX7' := Lib.hid (HX18.out.below b7 HX18.out.lt)
          have HL7' := Lib.hid (HL7.out.later b7)
          clear b7 hcase hrm hR HR HB7 HX7 HT7 HL7 HX18 a0
          have HGO := Lib.hid (good_any (some ⟨w7.heap.size, 0, none⟩) 2 2 _ [0, 0] _ (by decide) (two_arr w7 0 0 (by decide) (by decide)))
          rw [show bad [0, 0] = false from rfl] at HGO
          have b8 := (Below.refl _ w7).alloc (Nat.le_refl _) (.cells #[.int .i64 0, .int .i64 0] 26)
          have HB8 := Lib.hid (HB7'.out.trans (b8.mono HB7'.out.size))
          have HX8 := Lib.hid (HX7'.out.below b8 HX7'.out.lt)
          have HL8 := Lib.hid (HL7'.out.later b8)
          have HR8 := Lib.hid (HR7.out.later b8)
          clear b8 HB7' HX7' HL7' HR7
          go_wp2_with fail
          refine HGO.out.mono ?_
          rintro e w8 ⟨rfl, rfl⟩
          generalize (w7.alloc (.cells #[.int .i64 0, .int .i64 0] 26)) = w8 at *
          have hF : ∀ x wx, Below w8.heap.size w8 wx → Calls Try.prog 34 (#[.int .i64 x] ++ #[.pointer (some ⟨g18, 0, none⟩)]) wx (fun e w' => e = .returned (.bool (decide (x ∈ doneL zs' [] bF))) ∧ Below wx.heap.size wx w') := by
            intro x wx hb
            have HC := Lib.hid (containsR_any L lm lc _ x (doneL zs' [] bF) wx HLM.out (HL8.out.later hb))
            have d0 : wx.cell? ⟨g18, 0, none⟩ = some (.slice L lm lc) := (HX8.out.below hb HX8.out.lt).cell 0
            clear hb HGO
            generalize decide (x ∈ doneL zs' [] bF) = V at *
            show Calls Try.prog 34 #[.int .i64 x, .pointer (some ⟨g18, 0, none⟩)] wx _
            go_enter Try.func34, Try.ntmps34
            go_wp2_with fail
            refine HC.out.mono ?_
            rintro e w' ⟨rfl, rfl⟩
            go_wp2
            go_ret
            exact ⟨rfl, Below.refl _ _⟩
          have HCF := Lib.hid (containsFnR R rm rc 34 #[.pointer (some ⟨g18, 0, none⟩)] (fun x => decide (x ∈ doneL zs' [] bF)) (reachL zs' fr) w8 HRM.out HR8.out Try.call34 hF)
          have hany : ((reachL zs' fr).any fun x => decide (x ∈ doneL zs' [] bF)) = false := by
            rw [List.any_eq_false]
            intro x hx
            rw [HDL.out]
            simp [HRE.out x hx]
          rw [hany] at HCF
          clear hF hany HGO
          go_wp2_with fail
          refine HCF.out.mono ?_
          rintro e w9 ⟨rfl, hb9⟩
          have HB9 := Lib.hid (HB8.out.trans (hb9.mono HB8.out.size))
          clear hb9 HCF
          go_wp2
          go_ret
          exact ⟨rfl, HB9.out⟩
        · obtain rfl : j = ln := by omega
          have htri := HK.out.noErr
          have HST := Lib.hid (steps_any A4 G4 K4 n4 c4 g4 cg4 k4 cb4 zs' g' b' wr HT.out htri)
          unfold StepsP at HST
          clear htri
          go_wp2_with fail
          refine HST.out.mono ?_
          rintro e w4 ⟨A5, n5, c5, G5, g5, cg5, K5, k5, cb5, k, bF, rfl, b4, hT4, hS4⟩
          clear a0 a1 a2 f0 f1 f2
          have HB4 := Lib.hid (HB.out.trans (b4.mono HB.out.size))
          have HX4 := Lib.hid (HX.out.below b4 HX.out.lt)
          obtain ⟨hfr0, hre, hte⟩ := HK.out.reach (fun x hx => (fromE_zero H0.out).2 x hx) hS4
          have HF0 := Lib.hid hfr0
          have HRE := Lib.hid hre
          have r0 : w4.cell? ⟨gT, 0, none⟩ = some (.slice A4 n4 c4) := HX4.out.cell 0
          have r1 : w4.cell? ⟨gT, 1, none⟩ = some (.slice G4 g4 cg4) := HX4.out.cell 1
          have r2 : w4.cell? ⟨gT, 2, none⟩ = some (.slice K4 k4 cb4) := HX4.out.cell 2
          have s0 := HX4.out.soft 0
          have s1 := HX4.out.soft 1
          have s2 := HX4.out.soft 2
          obtain ⟨z1, z2, z3, z4⟩ := set3 HB4.out HX4.out HWS.out (.slice A5 n5 c5) (.slice G5 g5 cg5) (.slice K5 k5 cb5)
          have HT5 := Lib.hid (show TriIn (((w4.setCell ⟨gT, 0, none⟩ (.slice A5 n5 c5)).setCell ⟨gT, 1, none⟩ (.slice G5 g5 cg5)).setCell ⟨gT, 2, none⟩ (.slice K5 k5 cb5)) A5 G5 K5 n5 c5 g5 k5 zs' [] bF from
            ⟨hT4.arena.set3 HX4.out z3 z4, hT4.grey.set3 HX4.out z3 z4, hT4.blk.set3 HX4.out z3 z4, hT4.hn, hT4.hnc, hT4.hg, hT4.hb⟩)
          have HB5 := Lib.hid z1
          have HX5 := Lib.hid z2
          have HD := Lib.hid (fun wx (hb : Below (((w4.setCell ⟨gT, 0, none⟩ (.slice A5 n5 c5)).setCell ⟨gT, 1, none⟩ (.slice G5 g5 cg5)).setCell ⟨gT, 2, none⟩ (.slice K5 k5 cb5)).heap.size (((w4.setCell ⟨gT, 0, none⟩ (.slice A5 n5 c5)).setCell ⟨gT, 1, none⟩ (.slice G5 g5 cg5)).setCell ⟨gT, 2, none⟩ (.slice K5 k5 cb5)) wx) => stepDone_any A5 G5 K5 n5 c5 g5 cg5 k5 cb5 zs' [] bF wx (HT5.out.next hb))
          unfold DoneP at HD
          rw [doneE_ok hte rfl] at HD
          have HDL : Hid (doneL zs' [] bF = (livesI zs').filter fun x => decide (x ∉ bF)) := by
            show _ = _
            unfold doneL
            rw [if_pos (doneE_ok hte rfl)]
          clear z1 z2 z3 z4 b4 hT4 hS4 hfr0 hre hte HST HB4 HX4
          go_wp2_with fail
          clear r0 r1 r2 s0 s1 s2
          generalize (((w4.setCell ⟨gT, 0, none⟩ (.slice A5 n5 c5)).setCell ⟨gT, 1, none⟩ (.slice G5 g5 cg5)).setCell ⟨gT, 2, none⟩ (.slice K5 k5 cb5)) = w5 at *
          have a0 : w5.cell? ⟨gT, 0, none⟩ = some (.slice A5 n5 c5) := HX5.out.cell 0
          have a1 : w5.cell? ⟨gT, 1, none⟩ = some (.slice G5 g5 cg5) := HX5.out.cell 1
          have a2 : w5.cell? ⟨gT, 2, none⟩ = some (.slice K5 k5 cb5) := HX5.out.cell 2
          refine (HD.out w5 (Below.refl _ _)).mono ?_
          rintro e w6 ⟨L, lm, lc, rfl, b6, hlm, hL⟩
          clear a0 a1 a2
          have HB6 := Lib.hid (HB5.out.trans (b6.mono HB5.out.size))
          have HX6 := Lib.hid (HX5.out.below b6 HX5.out.lt)
          have HT6 := Lib.hid (HT5.out.next b6)
          have b7 := (Below.refl _ w6).alloc (Nat.le_refl _) (.cells #[.slice L lm lc] 23)
          have HX18 := Lib.hid (Box.new w6 23 #[.slice L lm lc])
          have HB7 := Lib.hid (HB6.out.trans (b7.mono HB6.out.size))
          have HX7 := Lib.hid (HX6.out.below b7 HX6.out.lt)
          have HT7 := Lib.hid (HT6.out.next b7)
          have HL7 := Lib.hid (hL.later b7)
          have HLM := Lib.hid hlm
          have a0 : (w6.alloc (.cells #[.slice L lm lc] 23)).cell? ⟨gT, 0, none⟩ = some (.slice A5 n5 c5) := HX7.out.cell 0
          obtain ⟨g18, hg18⟩ : ∃ g18, w6.heap.size = g18 := ⟨_, rfl⟩
          have HR := Lib.hid (Reach_any A5 F n5 c5 nf cf zs' fr _ HT7.out.hn HT7.out.hnc HT7.out.arena HNF.out (HF.out.later HB7.out))
          unfold ReachP at HR
          rw [HF0.out] at HR
          clear b6 b7 hlm hL HD HB6 HX6 HT6
          go_wp2_with fail
          generalize (w6.alloc (.cells #[.slice L lm lc] 23)) = w6a at *
          rw [hg18] at HX18
          clear hg18
          refine HR.out.mono ?_
          rintro e w7 ⟨R, rm, rc, rfl, b7, hcase⟩
          obtain ⟨hrm, hR⟩ : rm = (reachL zs' fr).length ∧ Arr .i64 w7 w7.heap.size R rm (reachL zs' fr) := by
            rcases hcase with ⟨h, _⟩ | ⟨_, h⟩
            · exact absurd rfl h
            · exact h
          have HR7 := Lib.hid hR
          have HRM : Hid (rm ≤ maxLen) := by
            have h2 : rm ≤ 256 := by rw [hrm]; exact reachL_len (arena_len (fromE_zero HF0.out).1)
            show rm ≤ maxLen
            unfold maxLen; omega
          have HB7' := Lib.hid (HB7.out.trans (b7.mono HB7.out.size))
          have HX7' := Lib.hid (HX18.out.below b7 HX18.out.lt)
          have HL7' := Lib.hid (HL7.out.later b7)
          clear b7 hcase hrm hR HR HB7 HX7 HT7 HL7 HX18 a0
          have HGO := Lib.hid (good_any (some ⟨w7.heap.size, 0, none⟩) 2 2 _ [0, 0] _ (by decide) (two_arr w7 0 0 (by decide) (by decide)))
          rw [show bad [0, 0] = false from rfl] at HGO
          have b8 := (Below.refl _ w7).alloc (Nat.le_refl _) (.cells #[.int .i64 0, .int .i64 0] 26)
          have HB8 := Lib.hid (HB7'.out.trans (b8.mono HB7'.out.size))
          have HX8 := Lib.hid (HX7'.out.below b8 HX7'.out.lt)
          have HL8 := Lib.hid (HL7'.out.later b8)
          have HR8 := Lib.hid (HR7.out.later b8)
          clear b8 HB7' HX7' HL7' HR7
          go_wp2_with fail
          refine HGO.out.mono ?_
          rintro e w8 ⟨rfl, rfl⟩
          generalize (w7.alloc (.cells #[.int .i64 0, .int .i64 0] 26)) = w8 at *
          have hF : ∀ x wx, Below w8.heap.size w8 wx → Calls Try.prog 34 (#[.int .i64 x] ++ #[.pointer (some ⟨g18, 0, none⟩)]) wx (fun e w' => e = .returned (.bool (decide (x ∈ doneL zs' [] bF))) ∧ Below wx.heap.size wx w') := by
            intro x wx hb
            have HC := Lib.hid (containsR_any L lm lc _ x (doneL zs' [] bF) wx HLM.out (HL8.out.later hb))
            have d0 : wx.cell? ⟨g18, 0, none⟩ = some (.slice L lm lc) := (HX8.out.below hb HX8.out.lt).cell 0
            clear hb HGO
            generalize decide (x ∈ doneL zs' [] bF) = V at *
            show Calls Try.prog 34 #[.int .i64 x, .pointer (some ⟨g18, 0, none⟩)] wx _
            go_enter Try.func34, Try.ntmps34
            go_wp2_with fail
            refine HC.out.mono ?_
            rintro e w' ⟨rfl, rfl⟩
            go_wp2
            go_ret
            exact ⟨rfl, Below.refl _ _⟩
          have HCF := Lib.hid (containsFnR R rm rc 34 #[.pointer (some ⟨g18, 0, none⟩)] (fun x => decide (x ∈ doneL zs' [] bF)) (reachL zs' fr) w8 HRM.out HR8.out Try.call34 hF)
          have hany : ((reachL zs' fr).any fun x => decide (x ∈ doneL zs' [] bF)) = false := by
            rw [List.any_eq_false]
            intro x hx
            rw [HDL.out]
            simp [HRE.out x hx]
          rw [hany] at HCF
          clear hF hany HGO
          go_wp2_with fail
          refine HCF.out.mono ?_
          rintro e w9 ⟨rfl, hb9⟩
          have HB9 := Lib.hid (HB8.out.trans (hb9.mono HB8.out.size))
          clear hb9 HCF
          go_wp2
          go_ret
          exact ⟨rfl, HB9.out⟩
  · have hv := HV2.out
    have hb : (fromE zs fr != 0) = true := by simpa using h0
    clear hv h0 HV2
    generalize fromE zs fr = E at *
    go_wp2
    go_ret
    exact ⟨rfl, HB2.out.alloc HB2.out.size _⟩
end Go.Proofs.Ytknbbondofijeaa
