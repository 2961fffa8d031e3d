/-
  The walk of YoungRight, given what Check, Write, Keep and Grow answer: whatever the arguments and the memory, the call returns true and changes nothing that was there.
-/
import Derived.Test.YthdnfocemchgjaaYoungOW
import Derived.Test.YthdnfocemchgjaaTwinM
import Derived.Test.YthdnfocemchgjaaIntCat
namespace Go.Proofs.Ythdnfocemchgjaa
open Go.RowKit

/-- What holds in the middle of YoungRight: the ages that are written into. -/
structure YrI (w : World) (wx : World) : Prop where
  below : Below w.heap.size w wx
  now : ∃ A n c G ng cg K nb cb zs g b, Box wx w.heap.size 25 #[.slice A n c, .slice G ng cg, .slice K nb cb] ∧ AgesIn wx A G K n c ng cg nb cb zs g b ∧ AgesOk zs g b
theorem AgesIn.set3 {w w5 : World} {A G K : Option Addr} {n c ng cg nb cb : Nat} {zs gs bs : List Int} {gx : Nat} {t : TypeId} (h : AgesIn w5 A G K n c ng cg nb cb zs gs bs) {a b d : Option Addr} {m1 m2 m3 c1 c2 c3 : Nat} (bx : Box w5 gx t #[.slice a m1 c1, .slice b m2 c2, .slice d m3 c3]) (hs : w.heap.size = w5.heap.size) (hb : ∀ i, i ≠ gx → w.heap[i]? = w5.heap[i]?) : AgesIn w A G K n c ng cg nb cb zs gs bs :=
  ⟨⟨h.tri.arena.set3 bx hs hb, h.tri.grey.set3 bx hs hb, h.tri.blk.set3 bx hs hb, h.tri.hn, h.tri.hnc, h.tri.hg, h.tri.hb⟩, h.gc, h.kc, h.sz⟩
theorem YrI.next {w wx wx' : World} (h : YrI w wx) (hb : Below wx.heap.size wx wx') : YrI w wx' := by
  obtain ⟨A, n, c, G, ng, cg, K, nb, cb, zs, g, b, h1, h2, h3⟩ := h.now
  exact ⟨bthen h.below hb, A, n, c, G, ng, cg, K, nb, cb, zs, g, b, h1.below hb h1.lt, h2.next hb, h3⟩

set_option maxRecDepth 32000 in
set_option maxHeartbeats 8000000 in
theorem youngRight_of (hCK : YCheckC) (hWR : YWriteC) (hKP : YKeepC) (hGR : YGrowC) (A G K L F : Option Addr) (n c ng cg nb cb nl cl nf cf : Nat) (zs g b : List Int) (ls : List (Int × Int × Int)) (fr : List Int) (w : World) (h : AgesIn w A G K n c ng cg nb cb zs g b) (hnl : nl ≤ maxLen) (hls : ArrG roomC 3 w w.heap.size L nl ls) (hlw : ∀ p ∈ ls, (Lit.int .i64 p.1).wf = true ∧ (Lit.int .i64 p.2.1).wf = true ∧ (Lit.int .i64 p.2.2).wf = true) (hnf : nf * 8 ≤ 140737488351232) (hfr : Arr .i64 w w.heap.size F nf fr) :
    Calls Try.prog 4 #[.agg #[.slice A n c, .slice G ng cg, .slice K nb cb], .slice L nl cl, .slice F nf cf] w fun e w' => e = .returned (.bool true) ∧ Below w.heap.size w w' := by
  have b1 := (Below.refl _ w).alloc (Nat.le_refl _) (.cells #[.slice A n c, .slice G ng cg, .slice K nb cb] 25)
  have HX1 := Lib.hid (Box.new w 25 #[.slice A n c, .slice G ng cg, .slice K nb cb])
  have HB1 := Lib.hid b1
  have HT1 := Lib.hid (h.next b1)
  have HL := Lib.hid hls
  have HLW := Lib.hid hlw
  have HF := Lib.hid hfr
  have HNS := Lib.hid hnf
  have HCK := Lib.hid hCK
  have HWR := Lib.hid hWR
  have HKP := Lib.hid hKP
  have HGR := Lib.hid hGR
  unfold maxLen at hnl
  clear b1 h hls hlw hfr hnf hCK hWR hKP hGR
  go_enter Try.func4, Try.ntmps4
  have HY := Lib.hid (youths_any HKP.out (w.alloc (.cells #[.slice A n c, .slice G ng cg, .slice K nb cb] 25)))
  go_wp2_with fail
  refine HY.out.mono ?_
  rintro e w2 ⟨rfl, b2⟩
  generalize (w.alloc (.cells #[.slice A n c, .slice G ng cg, .slice K nb cb] 25)) = w1 at *
  have HX2 := Lib.hid (HX1.out.below b2 HX1.out.lt)
  have HB2 := Lib.hid (bthen HB1.out b2)
  have HT2 := Lib.hid (HT1.out.next b2)
  clear b2 HY HX1 HB1 HT1
  have a0 : w2.cell? ⟨w.heap.size, 0, none⟩ = some (.slice A n c) := HX2.out.cell 0
  have a1 : w2.cell? ⟨w.heap.size, 1, none⟩ = some (.slice G ng cg) := HX2.out.cell 1
  have a2 : w2.cell? ⟨w.heap.size, 2, none⟩ = some (.slice K nb cb) := HX2.out.cell 2
  have HS := Lib.hid (HCK.out A G K n c ng cg nb cb zs g b w2 HT2.out)
  go_wp2_with fail
  refine HS.out.mono ?_
  rintro e w3 ⟨rfl, b3⟩
  have HX3 := Lib.hid (HX2.out.below b3 HX2.out.lt)
  have HB3 := Lib.hid (bthen HB2.out b3)
  have HT3 := Lib.hid (HT2.out.next b3)
  clear b3 HS HX2 HB2 HT2 a0 a1 a2
  by_cases h0 : agesE zs g b = 0
  · have HI0 := Lib.hid (show YrI w w3 from ⟨HB3.out, A, n, c, G, ng, cg, K, nb, cb, zs, g, b, HX3.out, HT3.out, agesE_zero.1 h0⟩)
    rw [h0]
    clear h0 HX3 HB3 HT3
    go_wp2_with fail
    go_loopw [24] (fun i wr => ∃ j : Nat, j ≤ nl ∧ i = .int .i64 j ∧ Hid (YrI w wr)) (fun i _ => nl - (intOf i).toNat)
    case atStart => exact ⟨0, Nat.zero_le _, rfl, HI0⟩
    case round =>
      clear HI0
      obtain ⟨j, hj, rfl, HI⟩ := hrel
      obtain ⟨A4, n4, c4, G4, g4, cg4, K4, k4, cb4, zs4, gs4, bs4, hX4, hT4, hO4⟩ := HI.out.now
      have HX4 := Lib.hid hX4
      have HT4 := Lib.hid hT4
      have HO4 := Lib.hid hO4
      have HB4 := Lib.hid HI.out.below
      clear hX4 hT4 hO4 HI
      have a0 : wr.cell? ⟨w.heap.size, 0, none⟩ = some (.slice A4 n4 c4) := HX4.out.cell 0
      have a1 : wr.cell? ⟨w.heap.size, 1, none⟩ = some (.slice G4 g4 cg4) := HX4.out.cell 1
      have a2 : wr.cell? ⟨w.heap.size, 2, none⟩ = some (.slice K4 k4 cb4) := HX4.out.cell 2
      by_cases hlt : j < nl
      · obtain ⟨bb, off, rfl, _, hcs⟩ := (HL.out.below HB4.out (Nat.le_refl _)).2 (by omega)
        have hll : ls.length = nl := HL.out.1
        obtain ⟨p, hp⟩ : ∃ p, nthG ls j = p := ⟨_, rfl⟩
        have hpm : p ∈ ls := by rw [← hp, nthG_get ls j (by omega)]; exact List.getElem_mem _
        obtain ⟨X, Y, Z⟩ := p
        have hw := HLW.out _ hpm
        have r0 : wr.cell? ⟨bb, off + j * 3, none⟩ = some (.int .i64 X) := by have := hcs j hlt 0 (by omega); rw [hp] at this; exact this
        have r1 : wr.cell? ⟨bb, off + j * 3 + 1, none⟩ = some (.int .i64 Y) := by have := hcs j hlt 1 (by omega); rw [hp] at this; exact this
        have r2 : wr.cell? ⟨bb, off + j * 3 + 2, none⟩ = some (.int .i64 Z) := by have := hcs j hlt 2 (by omega); rw [hp] at this; exact this
        have HW := Lib.hid hw
        clear hcs hpm hp hw
        have b5 := (Below.refl _ wr).alloc (Nat.le_refl _) (.cells #[.int .i64 X, .int .i64 Y, .int .i64 Z] 38)
        have HQ5 := Lib.hid (Box.new wr 38 #[.int .i64 X, .int .i64 Y, .int .i64 Z])
        have HX5 := Lib.hid (HX4.out.below b5 HX4.out.lt)
        have HT5 := Lib.hid (HT4.out.next b5)
        have HB5 := Lib.hid (bthen HB4.out b5)
        have y0 : (wr.alloc (.cells #[.int .i64 X, .int .i64 Y, .int .i64 Z] 38)).cell? ⟨w.heap.size, 0, none⟩ = some (.slice A4 n4 c4) := HX5.out.cell 0
        have y1 : (wr.alloc (.cells #[.int .i64 X, .int .i64 Y, .int .i64 Z] 38)).cell? ⟨w.heap.size, 1, none⟩ = some (.slice G4 g4 cg4) := HX5.out.cell 1
        have y2 : (wr.alloc (.cells #[.int .i64 X, .int .i64 Y, .int .i64 Z] 38)).cell? ⟨w.heap.size, 2, none⟩ = some (.slice K4 k4 cb4) := HX5.out.cell 2
        have HS := Lib.hid (HWR.out A4 G4 K4 n4 c4 g4 cg4 k4 cb4 zs4 gs4 bs4 X Y Z _ HW.out.1 HW.out.2.1 HW.out.2.2 HT5.out)
        unfold YWriteP at HS
        clear b5 HX4 HT4 HB4
        go_wp2_with fail
        refine HS.out.mono ?_
        rintro e w6 ⟨A6, n6, c6, G6, g6, cg6, K6, k6, cb6, rfl, b6, hV⟩
        clear a0 a1 a2 y0 y1 y2 r0 r1 r2 HS
        generalize (wr.alloc (.cells #[.int .i64 X, .int .i64 Y, .int .i64 Z] 38)) = w5 at *
        have b7 := (Below.refl _ w6).alloc (Nat.le_refl _) (.cells #[.slice A6 n6 c6, .slice G6 g6 cg6, .slice K6 k6 cb6] 25)
        have HP7 := Lib.hid (Box.new w6 25 #[.slice A6 n6 c6, .slice G6 g6 cg6, .slice K6 k6 cb6])
        have HX7 := Lib.hid (HX5.out.below (bthen b6 b7) HX5.out.lt)
        have HT7 := Lib.hid (HT5.out.next (bthen b6 b7))
        have HB7 := Lib.hid (bthen HB5.out (bthen b6 b7))
        have HV7 := Lib.hid (hV.in_.next b7)
        clear b6 b7 hV HX5 HT5 HB5 HQ5
        have e0 : (w6.alloc (.cells #[.slice A6 n6 c6, .slice G6 g6 cg6, .slice K6 k6 cb6] 25)).cell? ⟨w6.heap.size, 0, none⟩ = some (.slice A6 n6 c6) := HP7.out.cell 0
        have e1 : (w6.alloc (.cells #[.slice A6 n6 c6, .slice G6 g6 cg6, .slice K6 k6 cb6] 25)).cell? ⟨w6.heap.size, 1, none⟩ = some (.slice G6 g6 cg6) := HP7.out.cell 1
        have e2 : (w6.alloc (.cells #[.slice A6 n6 c6, .slice G6 g6 cg6, .slice K6 k6 cb6] 25)).cell? ⟨w6.heap.size, 2, none⟩ = some (.slice K6 k6 cb6) := HP7.out.cell 2
        by_cases h60 : (j : Int) < 60
        · have c60 : ((j : Int) < 60) = True := eq_true h60
          by_cases he : yWrE zs4 gs4 bs4 X Y Z = 0
          · rw [he]
            have hV := HV7.out
            rw [yWrT_ok he] at hV
            have hwe : wrtE zs4 X Y Z = 0 := by rw [← yWrE_ok (agesE_zero.2 HO4.out)]; exact he
            obtain ⟨hwo, hte⟩ := WrOk.of HT7.out.tri.arena.2.1 HO4.out.arena hwe
            have hag := wr_ages hwo HO4.out
            rw [hte] at hag
            obtain ⟨z1, z2, z3, z4⟩ := set3 HB7.out HX7.out (Nat.le_refl _) (.slice A6 n6 c6) (.slice G6 g6 cg6) (.slice K6 k6 cb6)
            have HJ := Lib.hid (show YrI w _ from ⟨z1, A6, n6, c6, G6, g6, cg6, K6, k6, cb6, _, _, _, z2, hV.set3 HX7.out z3 z4, hag⟩)
            have x0 : (w6.alloc (.cells #[.slice A6 n6 c6, .slice G6 g6 cg6, .slice K6 k6 cb6] 25)).cell? ⟨w.heap.size, 0, none⟩ = some (.slice A4 n4 c4) := HX7.out.cell 0
            have x1 : (w6.alloc (.cells #[.slice A6 n6 c6, .slice G6 g6 cg6, .slice K6 k6 cb6] 25)).cell? ⟨w.heap.size, 1, none⟩ = some (.slice G4 g4 cg4) := HX7.out.cell 1
            have x2 : (w6.alloc (.cells #[.slice A6 n6 c6, .slice G6 g6 cg6, .slice K6 k6 cb6] 25)).cell? ⟨w.heap.size, 2, none⟩ = some (.slice K4 k4 cb4) := HX7.out.cell 2
            have s0 := HX7.out.soft 0
            have s1 := HX7.out.soft 1
            have s2 := HX7.out.soft 2
            clear hV hwe hwo hte hag z1 z2 z3 z4 he
            go_wp2
            go_roundw
            case rel => exact ⟨j + 1, by omega, by go_num, HJ⟩
            case measure => simp [intOf]; omega
          · have hef : (yWrE zs4 gs4 bs4 X Y Z == 0) = false := by simpa using he
            have HJ := Lib.hid (show YrI w _ from ⟨HB7.out, A4, n4, c4, G4, g4, cg4, K4, k4, cb4, _, _, _, HX7.out, HT7.out, HO4.out⟩)
            clear he
            go_wp2
            go_roundw
            case rel => exact ⟨j + 1, by omega, by go_num, HJ⟩
            case measure => simp [intOf]; omega
        · have c60 : ((j : Int) < 60) = False := eq_false h60
          have HJ := Lib.hid (show YrI w _ from ⟨HB7.out, A4, n4, c4, G4, g4, cg4, K4, k4, cb4, _, _, _, HX7.out, HT7.out, HO4.out⟩)
          go_wp2
          go_roundw
          case rel => exact ⟨j + 1, by omega, by go_num, HJ⟩
          case measure => simp [intOf]; omega
      · obtain rfl : j = nl := by omega
        have HS := Lib.hid (HCK.out A4 G4 K4 n4 c4 g4 cg4 k4 cb4 zs4 gs4 bs4 wr HT4.out)
        rw [agesE_zero.2 HO4.out] at HS
        go_wp2_with fail
        refine HS.out.mono ?_
        rintro e w5 ⟨rfl, b5⟩
        have HX5 := Lib.hid (HX4.out.below b5 HX4.out.lt)
        have HT5 := Lib.hid (HT4.out.next b5)
        have HB5 := Lib.hid (bthen HB4.out b5)
        clear b5 HS HX4 HT4 HB4 a0 a1 a2
        have a0 : w5.cell? ⟨w.heap.size, 0, none⟩ = some (.slice A4 n4 c4) := HX5.out.cell 0
        have a1 : w5.cell? ⟨w.heap.size, 1, none⟩ = some (.slice G4 g4 cg4) := HX5.out.cell 1
        have a2 : w5.cell? ⟨w.heap.size, 2, none⟩ = some (.slice K4 k4 cb4) := HX5.out.cell 2
        have HS := Lib.hid (HKP.out A4 G4 K4 F n4 c4 g4 cg4 k4 cb4 nf cf zs4 gs4 bs4 fr w5 HT5.out HNS.out (HF.out.later HB5.out))
        unfold YKeepP at HS
        go_wp2_with fail
        refine HS.out.mono ?_
        rintro e w6 ⟨Q, m, qc, rfl, b6, hmc, hQ⟩
        have HX6 := Lib.hid (HX5.out.below b6 HX5.out.lt)
        have HT6 := Lib.hid (HT5.out.next b6)
        have HB6 := Lib.hid (bthen HB5.out b6)
        have HQ6 := Lib.hid hQ
        clear b6 hQ HS HX5 HT5 HB5 a0 a1 a2
        have a0 : w6.cell? ⟨w.heap.size, 0, none⟩ = some (.slice A4 n4 c4) := HX6.out.cell 0
        have a1 : w6.cell? ⟨w.heap.size, 1, none⟩ = some (.slice G4 g4 cg4) := HX6.out.cell 1
        have a2 : w6.cell? ⟨w.heap.size, 2, none⟩ = some (.slice K4 k4 cb4) := HX6.out.cell 2
        have HS := Lib.hid (HGR.out A4 G4 K4 F n4 c4 g4 cg4 k4 cb4 nf cf zs4 gs4 bs4 fr w6 HT6.out HNS.out (HF.out.later HB6.out))
        unfold YGrowP at HS
        go_wp2_with fail
        refine HS.out.mono ?_
        rintro e w7 ⟨A7, n7, c7, G7, g7, cg7, K7, k7, cb7, rfl, b7, hV⟩
        have b8 := (Below.refl _ w7).alloc (Nat.le_refl _) (.cells #[.slice A7 n7 c7, .slice G7 g7 cg7, .slice K7 k7 cb7] 25)
        have HI := Lib.hid (show YtI w w7.heap.size A4 G4 K4 n4 c4 g4 cg4 k4 cb4 zs4 gs4 bs4 A7 G7 K7 n7 c7 g7 cg7 k7 cb7 (w7.alloc (.cells #[.slice A7 n7 c7, .slice G7 g7 cg7, .slice K7 k7 cb7] 25)) from
          ⟨bthen (bthen HB6.out b7) b8, (HX6.out.below b7 HX6.out.lt).below b8 (by have := HX6.out.lt; have := b7.size; omega), Box.new w7 25 #[.slice A7 n7 c7, .slice G7 g7 cg7, .slice K7 k7 cb7], (HT6.out.tri.next b7).next b8⟩)
        have HV := Lib.hid (hV.in_.next b8)
        have HQ := Lib.hid ((HQ6.out.later b7).later b8)
        clear b7 b8 hV HS HX6 HT6 HB6 HQ6 a0 a1 a2
        by_cases hk : keepE zs4 gs4 bs4 fr = 0
        · obtain ⟨_, h1⟩ := keepE_zero hk
          have H1 := Lib.hid h1
          have HFL := Lib.hid (fromE_zero h1).2
          have HZ := Lib.hid HI.out.tri.arena.2.1
          have HV := Lib.hid (show AgesIn _ A7 G7 K7 n7 c7 g7 cg7 k7 cb7 (growL zs4 (newO zs4 gs4 bs4 fr)) (newO zs4 gs4 bs4 fr) [] by have := HV.out; rwa [growT_ok hk] at this)
          have HQ := Lib.hid (show Arr .i64 _ _ Q m (keptL zs4 gs4 bs4 fr) by have := HQ.out; rwa [keepO_ok hk] at this)
          have HGA := Lib.hid (agesE_zero.2 (grow_right HZ.out HO4.out HFL.out))
          have hk7 : 0 = k7 := by have := HV.out.tri.blk.1; simpa using this
          subst hk7
          rw [hk]
          clear hk h1
          obtain ⟨a0, a1, a2⟩ := HI.out.acells
          have hnf : nf ≤ maxLen := by have := HNS.out; unfold maxLen; omega
          have HS := Lib.hid (Reach_any A4 F n4 c4 nf cf zs4 fr _ HI.out.tri.hn HI.out.tri.hnc HI.out.tri.arena hnf (HF.out.later HI.out.below))
          unfold ReachP at HS
          rw [H1.out] at HS
          go_wp2_with fail
          refine HS.out.mono ?_
          rintro e w9 ⟨R, r9, rc, rfl, b9, hR⟩
          have hR : r9 = (reachL zs4 fr).length ∧ Arr .i64 w9 w9.heap.size R r9 (reachL zs4 fr) := by
            rcases hR with ⟨h, _⟩ | ⟨_, h⟩
            · exact absurd rfl h
            · exact h
          clear a0 a1 a2
          generalize (w7.alloc (.cells #[.slice A7 n7 c7, .slice G7 g7 cg7, .slice K7 0 cb7] 25)) = w8 at *
          have HI := Lib.hid (HI.out.next b9)
          have HV := Lib.hid (HV.out.next b9)
          have HQ := Lib.hid (HQ.out.later b9)
          have HR := Lib.hid hR.2
          clear b9 hR HS
          generalize w7.heap.size = gX at *
          have q3 := lives_len (arena_len HO4.out.arena)
          have hr256 : r9 ≤ 256 := by
            have q1 := HR.out.1
            have q2 := sub_length (rises_nodup (reachL_rise (zs := zs4) (fr := fr))) (fun x hx => reachL_lives x hx)
            omega
          have hm256 : m ≤ 256 := by
            have q1 := HQ.out.1
            have q2 := sub_length (rises_nodup (kept_rise (zs := zs4) (os := gs4) (ns := bs4) (fr := fr))) (fun x hx => (List.mem_filter.1 hx).1)
            omega
          have hg256 : g4 ≤ 256 := by
            have q1 := HI.out.tri.grey.1
            have q2 := sub_length (rises_nodup HO4.out.or_) HO4.out.ol
            omega
          have b10 := (Below.refl _ w9).alloc (Nat.le_refl _) (.cells #[.slice Q m qc, .slice G4 g4 cg4] 23)
          have B10 := Box.new w9 23 #[.slice Q m qc, .slice G4 g4 cg4]
          obtain ⟨a0, a1, a2⟩ := HI.out.acells
          have HI10 := Lib.hid (HI.out.next b10)
          have HV10 := Lib.hid (HV.out.next b10)
          have HR10 := Lib.hid (HR.out.later b10)
          have HC := Lib.hid (concat2 Q G4 m qc g4 cg4 w9.heap.size (keptL zs4 gs4 bs4 fr) gs4 (w9.alloc (.cells #[.slice Q m qc, .slice G4 g4 cg4] 23)) (by omega) B10.lt (HQ.out.later b10) HI10.out.tri.grey (B10.cell 0) (B10.cell 1))
          clear b10 B10 HI HV HR HQ
          go_wp2_with fail
          refine HC.out.mono ?_
          rintro e w11 ⟨D, dc, rfl, hD, b11⟩
          have HI := Lib.hid (HI10.out.next b11)
          have HV := Lib.hid (HV10.out.next b11)
          have HR := Lib.hid (HR10.out.later b11)
          have hin : inAll (reachL zs4 fr) (keptL zs4 gs4 bs4 fr ++ gs4) = true := inAll_true fun x hx => by
            have h1 := reach_newO HZ.out HO4.out HFL.out ((reachL_mem HZ.out H1.out).1 hx)
            rcases (newO_mem.1 h1).2 with h2 | h2
            · exact List.mem_append_right _ h2
            · exact List.mem_append_left _ h2
          have HC := Lib.hid (keepWithin_any R D r9 rc (m + g4) dc (reachL zs4 fr) (keptL zs4 gs4 bs4 fr ++ gs4) w11 (by unfold maxLen; omega) (by unfold maxLen; omega) HR.out hD)
          rw [hin] at HC
          clear b11 hD hin HI10 HV10 HR10 a0 a1 a2
          go_wp2_with fail
          refine HC.out.mono ?_
          rintro e w12 ⟨rfl, b12⟩
          have HI := Lib.hid (HI.out.next b12)
          have HV := Lib.hid (HV.out.next b12)
          clear b12 HC HR
          obtain ⟨x0, x1, x2⟩ := HI.out.xcells
          have HC := Lib.hid (HCK.out A7 G7 K7 n7 c7 g7 cg7 0 cb7 _ _ _ w12 HV.out)
          rw [HGA.out] at HC
          go_wp2_with fail
          refine HC.out.mono ?_
          rintro e w13 ⟨rfl, b13⟩
          have HI := Lib.hid (HI.out.next b13)
          clear b13 HC x0 x1 x2 HV
          obtain ⟨x0, x1, x2⟩ := HI.out.xcells
          go_wp2
          go_ret
          exact ⟨rfl, HI.out.below⟩
        · have HQ := Lib.hid (show Arr .i64 _ _ Q m [] by have := HQ.out; rwa [keepO_bad hk] at this)
          have hm0 : m = 0 := by have := HQ.out.1; simpa using this.symm
          subst hm0
          have hb : (keepE zs4 gs4 bs4 fr != 0) = true := by simpa using hk
          clear hk HQ HV
          generalize keepE zs4 gs4 bs4 fr = E at *
          have hbf : (E == E) = true := by simp
          go_wp2
          go_ret
          exact ⟨rfl, HI.out.below⟩
  · have hb : (agesE zs g b != 0) = true := by simpa using h0
    generalize agesE zs g b = E at *
    go_wp2
    go_ret
    exact ⟨rfl, HB3.out⟩
end Go.Proofs.Ythdnfocemchgjaa
