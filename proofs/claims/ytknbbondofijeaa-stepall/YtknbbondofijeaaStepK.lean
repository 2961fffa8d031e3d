/-
  Contracts of the law's own threes and steps.
-/
import Derived.Test.YtknbbondofijeaaStepH
namespace Go.Proofs.Ytknbbondofijeaa
open Go.RowKit

theorem small_rising : risingTo [0] 256 = [0] := rise_ext (risingTo_rises _ _) (by simp) fun x => by
  rw [risingTo_mem, List.mem_singleton]
  constructor
  · exact fun h => h.1
  · intro h; subst h; exact ⟨rfl, by omega, by omega⟩
set_option maxHeartbeats 1000000 in
theorem threes_any (w : World) : Calls Try.prog 26 #[] w fun e w' => e = .returned (.bool true) ∧ Below w.heap.size w w' := by
  have HS := Lib.hid (small_any w)
  have b1 := (Below.refl _ w).alloc (Nat.le_refl _) (.cells #[.int .u64 1, .int .u64 1] 52)
  have W1 : Whole .u64 52 (w.alloc (.cells #[.int .u64 1, .int .u64 1] 52)) w.heap.size [1, 1] := whole_new .u64 52 w [1, 1] small_wf
  obtain ⟨w1, hw1⟩ : ∃ w1, w.alloc (.cells #[.int .u64 1, .int .u64 1] 52) = w1 := ⟨_, rfl⟩
  have hsz : w1.heap.size = w.heap.size + 1 := by rw [← hw1]; simp
  rw [hw1] at b1 W1 HS
  have b2 := (Below.refl _ w1).alloc (Nat.le_refl _) (.cells #[.int .i64 0] 3)
  have W2 : Whole .i64 3 (w1.alloc (.cells #[.int .i64 0] 3)) w1.heap.size [0] := whole_new .i64 3 w1 [0] (by decide)
  have HK := Lib.hid (Start_any (some ⟨w.heap.size, 0, none⟩) (some ⟨w1.heap.size, 0, none⟩) 2 2 1 1 [1, 1] [0] _ (by unfold maxLen; omega) (by omega) ((W1.alloc _).arr (by simp; omega)) (W2.arr W2.lt) (by omega))
  unfold StartP at HK
  rw [startT_ok small_from, small_rising, small_from] at HK
  have HB := Lib.hid (b1.trans (b2.mono b1.size))
  clear b1 W1 b2 W2 hw1 hsz
  go_enter Try.func26, Try.ntmps26
  go_wp2_with fail
  refine HS.out.mono ?_
  rintro e w' ⟨rfl, rfl⟩
  go_wp2_with fail
  refine HK.out.mono ?_
  rintro e w3 ⟨A, n, c, G, g, gc, K, k, kc, rfl, b3, hV⟩
  have HB3 := Lib.hid (HB.out.trans (b3.mono HB.out.size))
  have hg : g = 1 := hV.grey.1.symm
  subst hg
  clear b3 hV HK
  go_wp2
  go_ret
  exact ⟨rfl, HB3.out.alloc HB3.out.size _⟩

/-- What holds while steps goes on: 'm' steps were made from grey 'g' and black 'b'. -/
structure StI (zs g b : List Int) (m : Nat) (g' b' : List Int) : Prop where
  ok : TriOk (nxOf zs) (livesI zs) g' b'
  len : b'.length = b.length + m
  keeps : ∀ y, y ∈ g ∨ y ∈ b → y ∈ g' ∨ y ∈ b'
  sound : ∀ fr, (∀ y, y ∈ g ∨ y ∈ b → Reach (nxOf zs) fr y) → ∀ y, y ∈ g' ∨ y ∈ b' → Reach (nxOf zs) fr y
theorem StI.zero {zs g b : List Int} (h : TriOk (nxOf zs) (livesI zs) g b) : StI zs g b 0 g b := ⟨h, by omega, fun _ h => h, fun _ h => h⟩
theorem StI.step {zs g b : List Int} {m : Nat} {x : Int} {g' b' : List Int} (hz : ∀ z ∈ zs, (Lit.int .u64 z).wf = true) (h0 : arErr zs = 0) (h : StI zs g b m (x :: g') b') : StI zs g b (m + 1) (stepG (nxOf zs) x g' b') (stepB x b') := by
  have hL := lives_fit h0
  have hc := lives_closed hz h0
  obtain ⟨h1, h2⟩ := step_ok hL hc h.ok
  exact ⟨h1, by rw [h2, h.len]; omega, fun y hy => step_keeps hL hc h.ok (h.keeps y hy), fun fr hf y hy => step_sound hL hc h.ok (h.sound fr hf) hy⟩
/-- What steps answers. -/
def StepsP (zs g b : List Int) (w : World) (e : Ending) (w' : World) : Prop := ∃ A n c G ng cg K nb cb k bF, e = .returned (.tuple #[.agg #[.slice A n c, .slice G ng cg, .slice K nb cb], .int .i64 (k : Nat), .bool true]) ∧ Below w.heap.size w w' ∧ TriIn w' A G K n c ng nb zs [] bF ∧ StI zs g b k [] bF

/-- .. in memory. -/
def StM (w : World) (zs g b : List Int) (m : Nat) (wr : World) : Prop := ∃ A n c G ng cg K nb cb g' b', Below w.heap.size w wr ∧ Box wr w.heap.size 25 #[.slice A n c, .slice G ng cg, .slice K nb cb] ∧ Box wr (w.heap.size + 1) 25 #[.slice none 0 0, .slice none 0 0, .slice none 0 0] ∧ TriIn wr A G K n c ng nb zs g' b' ∧ StI zs g b m g' b'
set_option maxRecDepth 16000 in
set_option maxHeartbeats 4000000 in
theorem steps_any (A G K : Option Addr) (n c ng cg nb cb : Nat) (zs g b : List Int) (w : World) (h : TriIn w A G K n c ng nb zs g b) (hok : triE zs g b = 0) :
    Calls Try.prog 27 #[.agg #[.slice A n c, .slice G ng cg, .slice K nb cb]] w (StepsP zs g b w) := by
  have HZ := Lib.hid h.arena.2.1
  have hO := (triE_iff h.arena.2.1).1 hok
  have HAR := Lib.hid hO.1
  have hl256 := lives_len (arena_len hO.1)
  have b1 := (Below.refl _ w).alloc (Nat.le_refl _) (.cells #[.slice A n c, .slice G ng cg, .slice K nb cb] 25)
  have BX := Box.new w 25 #[.slice A n c, .slice G ng cg, .slice K nb cb]
  have b2 := (Below.refl _ (w.alloc (.cells #[.slice A n c, .slice G ng cg, .slice K nb cb] 25))).alloc (Nat.le_refl _) (.cells #[.slice none 0 0, .slice none 0 0, .slice none 0 0] 25)
  have BY := Box.new (w.alloc (.cells #[.slice A n c, .slice G ng cg, .slice K nb cb] 25)) 25 #[.slice none 0 0, .slice none 0 0, .slice none 0 0]
  have hs1 : (w.alloc (.cells #[.slice A n c, .slice G ng cg, .slice K nb cb] 25)).heap.size = w.heap.size + 1 := by simp
  rw [hs1] at BY
  have HM0 := Lib.hid (show StM w zs g b 0 ((w.alloc (.cells #[.slice A n c, .slice G ng cg, .slice K nb cb] 25)).alloc (.cells #[.slice none 0 0, .slice none 0 0, .slice none 0 0] 25)) from
    ⟨A, n, c, G, ng, cg, K, nb, cb, g, b, b1.trans (b2.mono b1.size), BX.below b2 BX.lt, BY, (h.next b1).next b2, StI.zero hO.2⟩)
  clear b1 BX b2 BY hs1 h hO hok
  unfold StepsP
  go_enter Try.func27, Try.ntmps27
  go_wp2_with fail
  generalize ((w.alloc (.cells #[.slice A n c, .slice G ng cg, .slice K nb cb] 25)).alloc (.cells #[.slice none 0 0, .slice none 0 0, .slice none 0 0] 25)) = w1 at *
  go_loopw [5] (fun i wr => ∃ m : Nat, m ≤ 256 ∧ i = .int .i64 m ∧ Hid (StM w zs g b m wr)) (fun i _ => 300 - (intOf i).toNat)
  case atStart => exact ⟨0, Nat.zero_le _, rfl, HM0.out⟩
  case round =>
    obtain ⟨m, hm, rfl, HM⟩ := hrel
    clear HM0
    obtain ⟨A1, n1, c1, G1, g1, cg1, K1, k1, cb1, g', b', hB, hX, hY, hT, hS⟩ := HM.out
    clear HM
    have HB := Lib.hid hB
    have HX := Lib.hid hX
    have HY := Lib.hid hY
    have HS := Lib.hid hS
    have hxl : w.heap.size + 1 < wr.heap.size := hY.lt
    have a0 : wr.cell? ⟨w.heap.size, 0, none⟩ = some (.slice A1 n1 c1) := hX.cell 0
    have a1 : wr.cell? ⟨w.heap.size, 1, none⟩ = some (.slice G1 g1 cg1) := hX.cell 1
    have a2 : wr.cell? ⟨w.heap.size, 2, none⟩ = some (.slice K1 k1 cb1) := hX.cell 2
    have h0 := (triE_iff HZ.out).2 ⟨HAR.out, hS.ok⟩
    have HST := Lib.hid (stepStep_any A1 G1 K1 n1 c1 g1 cg1 k1 cb1 zs g' b' wr hT)
    unfold StepP at HST
    rw [h0] at HST
    have hml : m ≤ 256 := hm
    have c300 : ((m : Int) > 300) = False := eq_false (by omega)
    have c301 : ((300 : Int) < (m : Int)) = False := eq_false (by omega)
    clear hB hX hY hT hS
    cases g' with
    | nil =>
      rw [stepMore_nil, stepT_nil h0] at HST
      clear h0
      go_wp2_with fail
      refine HST.out.mono ?_
      rintro e w2 ⟨A2, n2, c2, G2, g2, cg2, K2, k2, cb2, rfl, b2, hV⟩
      have hV : TriIn w2 A2 G2 K2 n2 c2 g2 k2 zs [] b' := hV
      have b3 := (Below.refl _ w2).alloc (Nat.le_refl _) (.cells #[.slice A2 n2 c2, .slice G2 g2 cg2, .slice K2 k2 cb2] 25)
      have HB3 := Lib.hid ((HB.out.trans (b2.mono HB.out.size)).trans (b3.mono (by have := HB.out.size; have := b2.size; omega)))
      have HY3 := Lib.hid ((HY.out.below b2 HY.out.lt).below b3 (by have := b2.size; omega))
      have HV3 := Lib.hid (hV.next b3)
      have r0 : (w2.alloc (.cells #[.slice A2 n2 c2, .slice G2 g2 cg2, .slice K2 k2 cb2] 25)).cell? ⟨w.heap.size + 1, 0, none⟩ = some (.slice none 0 0) := HY3.out.cell 0
      have r1 : (w2.alloc (.cells #[.slice A2 n2 c2, .slice G2 g2 cg2, .slice K2 k2 cb2] 25)).cell? ⟨w.heap.size + 1, 1, none⟩ = some (.slice none 0 0) := HY3.out.cell 1
      have r2 : (w2.alloc (.cells #[.slice A2 n2 c2, .slice G2 g2 cg2, .slice K2 k2 cb2] 25)).cell? ⟨w.heap.size + 1, 2, none⟩ = some (.slice none 0 0) := HY3.out.cell 2
      have s0 := HY3.out.soft 0
      have s1 := HY3.out.soft 1
      have s2 := HY3.out.soft 2
      clear b2 b3 hV HST HB HX HY a0 a1 a2
      go_wp2
      obtain ⟨z1, z2, z3, z4⟩ := set3 HB3.out HY3.out (by omega : w.heap.size ≤ w.heap.size + 1) (.slice A2 n2 c2) (.slice G2 g2 cg2) (.slice K2 k2 cb2)
      have y1 := HV3.out.arena.set3 HY3.out z3 z4
      have y2 := HV3.out.grey.set3 HY3.out z3 z4
      have y3 := HV3.out.blk.set3 HY3.out z3 z4
      have v1 := HV3.out.hn
      have v2 := HV3.out.hnc
      have v3 := HV3.out.hg
      have v4 := HV3.out.hb
      generalize ((((w2.alloc (.cells #[.slice A2 n2 c2, .slice G2 g2 cg2, .slice K2 k2 cb2] 25)).setCell ⟨w.heap.size + 1, 0, none⟩ (.slice A2 n2 c2)).setCell ⟨w.heap.size + 1, 1, none⟩ (.slice G2 g2 cg2)).setCell ⟨w.heap.size + 1, 2, none⟩ (.slice K2 k2 cb2)) = W5 at *
      have x0 : W5.cell? ⟨w.heap.size + 1, 0, none⟩ = some (.slice A2 n2 c2) := z2.cell 0
      have x1 : W5.cell? ⟨w.heap.size + 1, 1, none⟩ = some (.slice G2 g2 cg2) := z2.cell 1
      have x2 : W5.cell? ⟨w.heap.size + 1, 2, none⟩ = some (.slice K2 k2 cb2) := z2.cell 2
      refine bodyPost_ret (v := .tuple #[.agg #[.slice A2 n2 c2, .slice G2 g2 cg2, .slice K2 k2 cb2], .int .i64 m, .bool true]) (by simp [results, Try.results27, go_sem, x0, x1, x2]) rfl ⟨A2, n2, c2, G2, g2, cg2, K2, k2, cb2, m, b', rfl, z1, ⟨y1, y2, y3, v1, v2, v3, v4⟩, HS.out⟩
    | cons x g' =>
      rw [stepMore_cons h0, stepT_cons h0] at HST
      have HS2 := Lib.hid (HS.out.step HZ.out HAR.out)
      have hm2 : m + 1 ≤ 256 := by
        have h1 := HS2.out.len
        have h2 := tri_len HS2.out.ok
        omega
      clear h0
      go_wp2_with fail
      refine HST.out.mono ?_
      rintro e w2 ⟨A2, n2, c2, G2, g2, cg2, K2, k2, cb2, rfl, b2, hV⟩
      have hV : TriIn w2 A2 G2 K2 n2 c2 g2 k2 zs (stepG (nxOf zs) x g' b') (stepB x b') := hV
      have b3 := (Below.refl _ w2).alloc (Nat.le_refl _) (.cells #[.slice A2 n2 c2, .slice G2 g2 cg2, .slice K2 k2 cb2] 25)
      have HB3 := Lib.hid ((HB.out.trans (b2.mono HB.out.size)).trans (b3.mono (by have := HB.out.size; have := b2.size; omega)))
      have HX3 := Lib.hid ((HX.out.below b2 HX.out.lt).below b3 (by have := b2.size; omega))
      have HY3 := Lib.hid ((HY.out.below b2 HY.out.lt).below b3 (by have := b2.size; omega))
      have HV3 := Lib.hid (hV.next b3)
      have r0 : (w2.alloc (.cells #[.slice A2 n2 c2, .slice G2 g2 cg2, .slice K2 k2 cb2] 25)).cell? ⟨w.heap.size, 0, none⟩ = some (.slice A1 n1 c1) := HX3.out.cell 0
      have r1 : (w2.alloc (.cells #[.slice A2 n2 c2, .slice G2 g2 cg2, .slice K2 k2 cb2] 25)).cell? ⟨w.heap.size, 1, none⟩ = some (.slice G1 g1 cg1) := HX3.out.cell 1
      have r2 : (w2.alloc (.cells #[.slice A2 n2 c2, .slice G2 g2 cg2, .slice K2 k2 cb2] 25)).cell? ⟨w.heap.size, 2, none⟩ = some (.slice K1 k1 cb1) := HX3.out.cell 2
      have s0 := HX3.out.soft 0
      have s1 := HX3.out.soft 1
      have s2 := HX3.out.soft 2
      clear b2 b3 hV HST HB HX HY a0 a1 a2
      go_wp2
      obtain ⟨z1, z2, z3, z4⟩ := set3 HB3.out HX3.out (Nat.le_refl _) (.slice A2 n2 c2) (.slice G2 g2 cg2) (.slice K2 k2 cb2)
      have y1 := HV3.out.arena.set3 HX3.out z3 z4
      have y2 := HV3.out.grey.set3 HX3.out z3 z4
      have y3 := HV3.out.blk.set3 HX3.out z3 z4
      have HN : Hid (StM w zs g b (m + 1) ((((w2.alloc (.cells #[.slice A2 n2 c2, .slice G2 g2 cg2, .slice K2 k2 cb2] 25)).setCell ⟨w.heap.size, 0, none⟩ (.slice A2 n2 c2)).setCell ⟨w.heap.size, 1, none⟩ (.slice G2 g2 cg2)).setCell ⟨w.heap.size, 2, none⟩ (.slice K2 k2 cb2))) :=
        ⟨A2, n2, c2, G2, g2, cg2, K2, k2, cb2, _, _, z1, z2, (z4 _ (by omega)).trans HY3.out, ⟨y1, y2, y3, HV3.out.hn, HV3.out.hnc, HV3.out.hg, HV3.out.hb⟩, HS2.out⟩
      go_roundw
      case rel => exact ⟨m + 1, hm2, by go_num, HN.out⟩
      case measure => simp [intOf]; omega
end Go.Proofs.Ytknbbondofijeaa
