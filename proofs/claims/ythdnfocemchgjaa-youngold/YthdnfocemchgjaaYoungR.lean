/-
  Contracts of the reference's SameAges, AgesFault and KeptYoung.
-/
import Derived.Test.YthdnfocemchgjaaStepG
import Derived.Test.YthdnfocemchgjaaRefT
import Derived.Test.YthdnfocemchgjaaRefSame
import Derived.Test.YthdnfocemchgjaaYoungM
namespace Go.Proofs.Ythdnfocemchgjaa
open Go.RowKit

set_option maxHeartbeats 1000000 in
theorem sameAges_any (A G K A' G' K' : Option Addr) (n c ng cg nb cb c' cg' cb' : Nat) (zs g b : List Int) (w : World) (ha : Arr .u64 w w.heap.size A n zs) (hg : Arr .i64 w w.heap.size G ng g) (hb : Arr .i64 w w.heap.size K nb b) (ha' : Arr .u64 w w.heap.size A' n zs) (hg' : Arr .i64 w w.heap.size G' ng g) (hb' : Arr .i64 w w.heap.size K' nb b) (hn : n ≤ maxLen) (hng : ng ≤ maxLen) (hnb : nb ≤ maxLen) :
    Calls Try.prog 11 #[.agg #[.slice A n c, .slice G ng cg, .slice K nb cb], .agg #[.slice A' n c', .slice G' ng cg', .slice K' nb cb']] w fun e w' => e = .returned (.bool true) ∧ Below w.heap.size w w' := by
  have b1 := (Below.refl _ w).alloc (Nat.le_refl _) (.cells #[.slice A n c, .slice G ng cg, .slice K nb cb] 25)
  have BX := Box.new w 25 #[.slice A n c, .slice G ng cg, .slice K nb cb]
  have b2 := (Below.refl _ (w.alloc (.cells #[.slice A n c, .slice G ng cg, .slice K nb cb] 25))).alloc (Nat.le_refl _) (.cells #[.slice A' n c', .slice G' ng cg', .slice K' nb cb'] 25)
  have BY := Box.new (w.alloc (.cells #[.slice A n c, .slice G ng cg, .slice K nb cb] 25)) 25 #[.slice A' n c', .slice G' ng cg', .slice K' nb cb']
  have hs1 : (w.alloc (.cells #[.slice A n c, .slice G ng cg, .slice K nb cb] 25)).heap.size = w.heap.size + 1 := by simp
  rw [hs1] at BY
  have HX := Lib.hid (BX.below b2 BX.lt)
  have HY := Lib.hid BY
  have hB := b1.trans (b2.mono b1.size)
  have HB := Lib.hid hB
  have H1 := Lib.hid (fun wx (hw : Below w.heap.size w wx) => refWordsOne A A' n c c' _ zs wx (ha.later hw) (ha'.later hw) hn)
  have H2 := Lib.hid (fun wx (hw : Below w.heap.size w wx) => refIntsOne G G' ng cg cg' _ g wx (hg.later hw) (hg'.later hw) hng)
  have H3 := Lib.hid (fun wx (hw : Below w.heap.size w wx) => refIntsOne K K' nb cb cb' _ b wx (hb.later hw) (hb'.later hw) hnb)
  clear b1 BX b2 BY hs1 hB ha hg hb ha' hg' hb' hn hng hnb
  go_enter Try.func11, Try.ntmps11
  go_wp2_with fail
  generalize ((w.alloc (.cells #[.slice A n c, .slice G ng cg, .slice K nb cb] 25)).alloc (.cells #[.slice A' n c', .slice G' ng cg', .slice K' nb cb'] 25)) = w1 at *
  have a0 : w1.cell? ⟨w.heap.size, 0, none⟩ = some (.slice A n c) := HX.out.cell 0
  have a1 : w1.cell? ⟨w.heap.size + 1, 0, none⟩ = some (.slice A' n c') := HY.out.cell 0
  go_wp2_with fail
  refine (H1.out _ HB.out).mono ?_
  rintro e w2 ⟨rfl, q2, rfl⟩
  have HX2 : Hid (Box (w1.drewN q2) w.heap.size 25 #[.slice A n c, .slice G ng cg, .slice K nb cb]) := HX.out
  have HY2 : Hid (Box (w1.drewN q2) (w.heap.size + 1) 25 #[.slice A' n c', .slice G' ng cg', .slice K' nb cb']) := HY.out
  have HB2 : Hid (Below w.heap.size w (w1.drewN q2)) := below_drewN HB.out q2
  clear a0 a1 H1 HX HY HB
  generalize w1.drewN q2 = w2 at *
  have a0 : w2.cell? ⟨w.heap.size, 1, none⟩ = some (.slice G ng cg) := HX2.out.cell 1
  have a1 : w2.cell? ⟨w.heap.size + 1, 1, none⟩ = some (.slice G' ng cg') := HY2.out.cell 1
  go_wp2_with fail
  refine (H2.out _ HB2.out).mono ?_
  rintro e w3 ⟨rfl, q3, rfl⟩
  have HX3 : Hid (Box (w2.drewN q3) w.heap.size 25 #[.slice A n c, .slice G ng cg, .slice K nb cb]) := HX2.out
  have HY3 : Hid (Box (w2.drewN q3) (w.heap.size + 1) 25 #[.slice A' n c', .slice G' ng cg', .slice K' nb cb']) := HY2.out
  have HB3 : Hid (Below w.heap.size w (w2.drewN q3)) := below_drewN HB2.out q3
  clear a0 a1 H2 HX2 HY2 HB2
  generalize w2.drewN q3 = w3 at *
  have a0 : w3.cell? ⟨w.heap.size, 2, none⟩ = some (.slice K nb cb) := HX3.out.cell 2
  have a1 : w3.cell? ⟨w.heap.size + 1, 2, none⟩ = some (.slice K' nb cb') := HY3.out.cell 2
  go_wp2_with fail
  refine (H3.out _ HB3.out).mono ?_
  rintro e w4 ⟨rfl, q4, rfl⟩
  have HB4 : Hid (Below w.heap.size w (w3.drewN q4)) := below_drewN HB3.out q4
  clear a0 a1 H3 HX3 HY3 HB3
  generalize w3.drewN q4 = w4 at *
  go_wp2
  go_ret
  exact ⟨rfl, HB4.out⟩

/-- What holds in the middle of AgesFault. -/
structure AgI (w : World) (A G K : Option Addr) (n c ng cg nb cb : Nat) (zs g b : List Int) (wx : World) : Prop where
  below : Below w.heap.size w wx
  arg : Box wx w.heap.size 25 #[.slice A n c, .slice G ng cg, .slice K nb cb]
  tri : TriIn wx A G K n c ng nb zs g b
section
variable {w wx wx' : World} {A G K : Option Addr} {n c ng cg nb cb : Nat} {zs g b : List Int}
theorem AgI.next (h : AgI w A G K n c ng cg nb cb zs g b wx) (hb : Below wx.heap.size wx wx') : AgI w A G K n c ng cg nb cb zs g b wx' :=
  ⟨h.below.trans (hb.mono h.below.size), h.arg.below hb h.arg.lt, h.tri.next hb⟩
theorem AgI.cells (h : AgI w A G K n c ng cg nb cb zs g b wx) : wx.cell? ⟨w.heap.size, 0, none⟩ = some (.slice A n c) ∧ wx.cell? ⟨w.heap.size, 1, none⟩ = some (.slice G ng cg) ∧ wx.cell? ⟨w.heap.size, 2, none⟩ = some (.slice K nb cb) := ⟨h.arg.cell 0, h.arg.cell 1, h.arg.cell 2⟩
end
theorem notB {b : Bool} (h : ¬ b = true) : b = false := by cases b <;> simp_all
theorem oldB_true {zs os ns : List Int} {x y : Int} (hx : x ∈ os) (hn : x ∉ ns) (hy : y ∈ nxOf zs x) (h0 : 0 ≤ y) (ho : y ∉ os) : oldB zs os ns = false :=
  notB fun h => (oldB_iff.1 h x hx hn y hy).elim (fun h => by omega) ho

set_option maxRecDepth 16000 in
set_option maxHeartbeats 4000000 in
theorem agesFault_any (A G K : Option Addr) (n c ng cg nb cb : Nat) (zs g b : List Int) (w : World) (h : TriIn w A G K n c ng nb zs g b) :
    Calls Try.prog 8 #[.agg #[.slice A n c, .slice G ng cg, .slice K nb cb]] w fun e w' => e = .returned (.int .i64 (agesE zs g b)) ∧ Below w.heap.size w w' := by
  have b1 := (Below.refl _ w).alloc (Nat.le_refl _) (.cells #[.slice A n c, .slice G ng cg, .slice K nb cb] 25)
  have HI := Lib.hid (show AgI w A G K n c ng cg nb cb zs g b (w.alloc (.cells #[.slice A n c, .slice G ng cg, .slice K nb cb] 25)) from ⟨b1, Box.new w 25 #[.slice A n c, .slice G ng cg, .slice K nb cb], h.next b1⟩)
  have hng := h.hg
  have hnb := h.hb
  unfold maxLen at hng hnb
  clear b1 h
  go_enter Try.func8, Try.ntmps8
  go_wp2_with fail
  generalize (w.alloc (.cells #[.slice A n c, .slice G ng cg, .slice K nb cb] 25)) = w1 at *
  obtain ⟨a0, a1, a2⟩ := HI.out.cells
  have HC := Lib.hid (ArenaFault_any A n c zs w1 HI.out.tri.hn HI.out.tri.arena)
  go_wp2_with fail
  refine HC.out.mono ?_
  rintro e w2 ⟨rfl, b2⟩
  have HI := Lib.hid (HI.out.next b2)
  clear a0 a1 a2 HC b2
  by_cases h0 : arErr zs = 0
  · have H0 := Lib.hid h0
    rw [h0]
    clear h0
    obtain ⟨a0, a1, a2⟩ := HI.out.cells
    have HC := Lib.hid (rises_any G ng cg _ g w2 HI.out.tri.hg HI.out.tri.grey)
    cases hrg : riseB g
    · rw [hrg] at HC
      have HE := Lib.hid (agesE_form (ns := b) H0.out (by rw [hrg]; rfl))
      clear hrg
      go_wp2_with fail
      refine HC.out.mono ?_
      rintro e w3 ⟨rfl, q3, rfl⟩
      have HI := Lib.hid (HI.out.next (wx' := w2.drewN q3) (below_drewN (Below.refl _ _) q3))
      clear a0 a1 a2 HC
      generalize w2.drewN q3 = w3 at *
      go_wp2
      go_ret
      exact ⟨by rw [HE.out]; rfl, HI.out.below⟩
    · rw [hrg] at HC
      have HRG := Lib.hid hrg
      clear hrg
      go_wp2_with fail
      refine HC.out.mono ?_
      rintro e w3 ⟨rfl, q3, rfl⟩
      have HI := Lib.hid (HI.out.next (wx' := w2.drewN q3) (below_drewN (Below.refl _ _) q3))
      clear a0 a1 a2 HC
      generalize w2.drewN q3 = w3 at *
      obtain ⟨a0, a1, a2⟩ := HI.out.cells
      have HC := Lib.hid (rises_any K nb cb _ b w3 HI.out.tri.hb HI.out.tri.blk)
      cases hrb : riseB b
      · rw [hrb] at HC
        have HE := Lib.hid (agesE_form (os := g) H0.out (by rw [hrb]; simp))
        clear hrb
        go_wp2_with fail
        refine HC.out.mono ?_
        rintro e w4 ⟨rfl, q4, rfl⟩
        have HI := Lib.hid (HI.out.next (wx' := w3.drewN q4) (below_drewN (Below.refl _ _) q4))
        clear a0 a1 a2 HC
        generalize w3.drewN q4 = w4 at *
        go_wp2
        go_ret
        exact ⟨by rw [HE.out]; rfl, HI.out.below⟩
      · rw [hrb] at HC
        have HR := Lib.hid (show (riseB g && riseB b) = true by rw [HRG.out, hrb]; rfl)
        clear hrb
        go_wp2_with fail
        refine HC.out.mono ?_
        rintro e w4 ⟨rfl, q4, rfl⟩
        have HI := Lib.hid (HI.out.next (wx' := w3.drewN q4) (below_drewN (Below.refl _ _) q4))
        clear a0 a1 a2 HC
        generalize w3.drewN q4 = w4 at *
        obtain ⟨a0, a1, a2⟩ := HI.out.cells
        have b5 := (Below.refl _ w4).alloc (Nat.le_refl _) (.cells #[.slice G ng cg] 23)
        have B5 := Box.new w4 23 #[.slice G ng cg]
        have HI5 := Lib.hid (HI.out.next b5)
        have HC := Lib.hid (fromFault_any A G n c ng cg w4.heap.size zs g (w4.alloc (.cells #[.slice G ng cg] 23)) HI5.out.tri.hn HI5.out.tri.arena HI5.out.tri.hg HI5.out.tri.grey B5.lt (B5.cell 0))
        clear b5 B5 HI
        cases hal : allIn zs g
        · have HE := Lib.hid (agesE_none H0.out HR.out hal)
          have he : fromE zs g = 5 := by
            unfold fromE
            rw [if_pos H0.out, if_neg fun hc => by rw [allIn_iff.2 hc] at hal; cases hal]
          rw [he] at HC
          clear hal he
          go_wp2_with fail
          refine HC.out.mono ?_
          rintro e w6 ⟨rfl, b6⟩
          have HI := Lib.hid (HI5.out.next b6)
          clear a0 a1 a2 HC b6 HI5
          go_wp2
          go_ret
          exact ⟨by rw [HE.out]; rfl, HI.out.below⟩
        · have HAL := Lib.hid hal
          have HGL := Lib.hid (allIn_iff.1 hal)
          rw [fromE_ok H0.out HGL.out] at HC
          clear hal
          go_wp2_with fail
          refine HC.out.mono ?_
          rintro e w6 ⟨rfl, b6⟩
          have HI := Lib.hid (HI5.out.next b6)
          clear a0 a1 a2 HC b6 HI5
          obtain ⟨a0, a1, a2⟩ := HI.out.cells
          go_wp2_with fail
          go_loopw [39] (fun i wr => w6 = wr ∧ ∃ j : Nat, j ≤ nb ∧ i = .int .i64 j ∧ Hid (∀ i, i < j → nth b i ∈ g)) (fun i _ => nb - (intOf i).toNat)
          case atStart => exact ⟨rfl, 0, Nat.zero_le _, rfl, fun i hi => absurd hi (by omega)⟩
          case round =>
            obtain ⟨rfl, j, hj, rfl, HP⟩ := hrel
            have hbl := HI.out.tri.blk.1
            by_cases hlt : j < nb
            · obtain ⟨bb, off, rfl, _, hcs⟩ := HI.out.tri.blk.2.2 (by omega)
              have hc := hcs j hlt
              have hmem : nth b j ∈ b := nth_mem (by omega)
              have HN := Lib.hid (in_ref G ng cg _ (nth b j) g w6 HI.out.tri.hg HI.out.tri.grey)
              clear hcs
              by_cases hin : nth b j ∈ g
              · rw [show decide (nth b j ∈ g) = true by simpa using hin] at HN
                have HP2 : Hid (∀ i, i < j + 1 → nth b i ∈ g) := fun i hi => by
                  rcases Nat.lt_succ_iff_lt_or_eq.1 hi with h | h
                  · exact HP.out i h
                  · rw [h]; exact hin
                clear hin hmem HP
                generalize nth b j = X at *
                go_wp2_with fail
                refine HN.out.mono ?_
                rintro e w7 ⟨rfl, rfl⟩
                go_wp2
                go_roundw
                case rel => exact ⟨by trivial, j + 1, by omega, by go_num, HP2⟩
                case measure => simp [intOf]; omega
              · rw [show decide (nth b j ∈ g) = false by simpa using hin] at HN
                have HE := Lib.hid (agesE_sub (os := g) H0.out HR.out HAL.out (notB fun h => hin (subB_iff.1 h _ hmem)))
                clear hin hmem HP
                generalize nth b j = X at *
                go_wp2_with fail
                refine HN.out.mono ?_
                rintro e w7 ⟨rfl, rfl⟩
                go_wp2
                go_ret
                exact ⟨by rw [HE.out]; rfl, HI.out.below⟩
            · obtain rfl : j = nb := by omega
              have HSB : Hid (subB g b = true) := by
                show _ = _
                rw [subB_iff]
                intro x hx
                obtain ⟨i, hi, e⟩ := List.getElem_of_mem hx
                have := HP.out i (by omega)
                rw [nth_get _ _ hi, e] at this
                exact this
              have HI6 := Lib.hid HI.out
              clear HP HI
              go_wp2_with fail
              clear a0 a1 a2
              go_loopw [52] (fun i wr => ∃ j1 : Nat, j1 ≤ ng ∧ i = .int .i64 j1 ∧ Hid (AgI w A G K n c ng cg j cb zs g b wr) ∧ Hid (∀ i, i < j1 → nth g i ∉ b → ∀ y ∈ nxOf zs (nth g i), y < 0 ∨ y ∈ g)) (fun i _ => ng - (intOf i).toNat)
              case atStart => exact ⟨0, Nat.zero_le _, rfl, HI6.out, fun i hi => absurd hi (by omega)⟩
              case round =>
                obtain ⟨j2, hj2, rfl, HI, HP⟩ := hrel
                clear HI6
                have hgl := HI.out.tri.grey.1
                obtain ⟨a0, a1, a2⟩ := HI.out.cells
                by_cases hlt2 : j2 < ng
                · obtain ⟨bb, off, rfl, _, hcs⟩ := HI.out.tri.grey.2.2 (by omega)
                  have hc := hcs j2 hlt2
                  have hmem : nth g j2 ∈ g := nth_mem (by omega)
                  have hlv := HGL.out _ hmem
                  obtain ⟨t, ht⟩ : ∃ t : Nat, nth g j2 = t := ⟨(nth g j2).toNat, by have := lives_pos _ hlv; omega⟩
                  rw [ht] at hc hmem hlv
                  have HT := Lib.hid ht
                  have HMEM := Lib.hid hmem
                  have HNM := Lib.hid (namedAt_any A n c t zs wr HI.out.tri.arena H0.out hlv)
                  have HNL := Lib.hid (named_len (zs := zs) (t := t))
                  clear hcs ht hmem hlv
                  go_wp2_with fail
                  refine HNM.out.mono ?_
                  rintro e w7 ⟨A7, c7, rfl, b7, hA7, _⟩
                  have HI7 := Lib.hid (HI.out.next b7)
                  have HA7 := Lib.hid hA7
                  have hm256 : (named zs t).length ≤ 256 := Nat.le_trans HNL.out (arena_len H0.out)
                  clear a0 a1 a2 HNM b7 hA7 hc HI HNL
                  obtain ⟨m, hm⟩ : ∃ m, (named zs t).length = m := ⟨_, rfl⟩
                  rw [hm] at HA7 hm256 ⊢
                  have HM := Lib.hid hm
                  clear hm
                  obtain ⟨a0, a1, a2⟩ := HI7.out.cells
                  go_wp2_with fail
                  go_loopw [61] (fun i wr => w7 = wr ∧ ∃ k : Nat, k ≤ m ∧ i = .int .i64 k ∧ Hid (∀ i, i < k → (t : Int) ∉ b → nth (named zs t) i < 0 ∨ nth (named zs t) i ∈ g)) (fun i _ => m - (intOf i).toNat)
                  case atStart => exact ⟨rfl, 0, Nat.zero_le _, rfl, fun i hi => absurd hi (by omega)⟩
                  case round =>
                    obtain ⟨rfl, k, hk, rfl, HQ⟩ := hrel
                    by_cases hlt3 : k < m
                    · obtain ⟨bb7, off7, rfl, _, hcs⟩ := HA7.out.2.2 (by omega)
                      have hc := hcs k hlt3
                      have HYM : Hid (nth (named zs t) k ∈ named zs t) := nth_mem (by rw [HM.out]; exact hlt3)
                      have HQN : Hid (((t : Int) ∉ b → nth (named zs t) k < 0 ∨ nth (named zs t) k ∈ g) → ∀ i, i < k + 1 → (t : Int) ∉ b → nth (named zs t) i < 0 ∨ nth (named zs t) i ∈ g) := fun h i hi => by
                        rcases Nat.lt_succ_iff_lt_or_eq.1 hi with h1 | h1
                        · exact HQ.out i h1
                        · rw [h1]; exact h
                      clear hcs
                      generalize nth (named zs t) k = Y at *
                      have HN1 := Lib.hid (in_ref (some ⟨bb, off, none⟩) ng cg _ Y g w7 HI7.out.tri.hg HI7.out.tri.grey)
                      have HN2 := Lib.hid (in_ref K j cb _ (t : Int) b w7 HI7.out.tri.hb HI7.out.tri.blk)
                      by_cases hp : 0 ≤ Y
                      · have cp : (0 ≤ Y) = True := eq_true hp
                        have cp2 : (Y ≥ 0) = True := eq_true hp
                        by_cases hg : Y ∈ g
                        · rw [show decide (Y ∈ g) = true by simpa using hg] at HN1
                          have HQ2 := Lib.hid (HQN.out fun _ => .inr hg)
                          clear hg HQN HQ hp
                          go_wp2_with fail
                          refine HN1.out.mono ?_
                          rintro e w8 ⟨rfl, rfl⟩
                          go_wp2
                          go_roundw
                          case rel => exact ⟨by trivial, k + 1, by omega, by go_num, HQ2.out⟩
                          case measure => simp [intOf]; omega
                        · rw [show decide (Y ∈ g) = false by simpa using hg] at HN1
                          by_cases hbb : (t : Int) ∈ b
                          · rw [show decide ((t : Int) ∈ b) = true by simpa using hbb] at HN2
                            have HQ2 := Lib.hid (HQN.out fun h => absurd hbb h)
                            clear hg hbb HQN HQ hp
                            go_wp2_with fail
                            refine HN1.out.mono ?_
                            rintro e w8 ⟨rfl, rfl⟩
                            go_wp2_with fail
                            refine HN2.out.mono ?_
                            rintro e w8 ⟨rfl, rfl⟩
                            go_wp2
                            go_roundw
                            case rel => exact ⟨by trivial, k + 1, by omega, by go_num, HQ2.out⟩
                            case measure => simp [intOf]; omega
                          · rw [show decide ((t : Int) ∈ b) = false by simpa using hbb] at HN2
                            have HE := Lib.hid (agesE_held H0.out HR.out HAL.out HSB.out (oldB_true HMEM.out hbb (y := Y) (by unfold nxOf; rw [Int.toNat_natCast]; exact HYM.out) hp hg))
                            clear hg hbb HQN HQ hp
                            go_wp2_with fail
                            refine HN1.out.mono ?_
                            rintro e w8 ⟨rfl, rfl⟩
                            go_wp2_with fail
                            refine HN2.out.mono ?_
                            rintro e w8 ⟨rfl, rfl⟩
                            go_wp2
                            go_ret
                            exact ⟨by rw [HE.out]; rfl, HI7.out.below⟩
                      · have cp : (0 ≤ Y) = False := eq_false hp
                        have cp2 : (Y ≥ 0) = False := eq_false hp
                        have HQ2 := Lib.hid (HQN.out fun _ => .inl (by omega))
                        clear HQN HQ hp HN1 HN2
                        go_wp2
                        go_roundw
                        case rel => exact ⟨by trivial, k + 1, by omega, by go_num, HQ2.out⟩
                        case measure => simp [intOf]; omega
                    · obtain rfl : k = m := by omega
                      have HP2 : Hid (∀ i, i < j2 + 1 → nth g i ∉ b → ∀ y ∈ nxOf zs (nth g i), y < 0 ∨ y ∈ g) := fun i hi hnb y hy => by
                        rcases Nat.lt_succ_iff_lt_or_eq.1 hi with h1 | h1
                        · exact HP.out i h1 hnb y hy
                        · rw [h1, HT.out] at hy hnb
                          unfold nxOf at hy
                          rw [Int.toNat_natCast] at hy
                          obtain ⟨i, hi, e⟩ := List.getElem_of_mem hy
                          have := HQ.out i (by rw [← HM.out]; exact hi) hnb
                          rw [nth_get _ _ hi, e] at this
                          exact this
                      clear HQ HP
                      go_wp2
                      go_roundw
                      case rel => exact ⟨j2 + 1, by omega, by go_num, HI7.out, HP2.out⟩
                      case measure => simp [intOf]; omega
                · obtain rfl : j2 = ng := by omega
                  have HE : Hid (agesE zs g b = 0) := agesE_ok H0.out HR.out HAL.out HSB.out (oldB_iff.2 fun x hx => by
                    obtain ⟨i, hi, e⟩ := List.getElem_of_mem hx
                    have := HP.out i (by omega)
                    rw [nth_get _ _ hi, e] at this
                    exact this)
                  clear HP
                  go_wp2
                  go_ret
                  exact ⟨by rw [HE.out]; rfl, HI.out.below⟩
  · have HE0 := Lib.hid (agesE_arena (os := g) (ns := b) h0)
    have hb : (arErr zs != 0) = true := by simpa using h0
    clear h0
    obtain ⟨E, hE⟩ : ∃ E, arErr zs = E := ⟨_, rfl⟩
    rw [hE] at hb HE0 ⊢
    clear hE
    go_wp2
    go_ret
    exact ⟨by rw [HE0.out]; rfl, HI.out.below⟩
end Go.Proofs.Ythdnfocemchgjaa
