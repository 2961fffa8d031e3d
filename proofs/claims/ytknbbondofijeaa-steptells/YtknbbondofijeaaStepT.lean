/-
  Contracts of the reference's FromFault of several lists, SameTri and TriFault.
-/
import Derived.Test.YtknbbondofijeaaStepG
import Derived.Test.YtknbbondofijeaaRefT
import Derived.Test.YtknbbondofijeaaRefSame
namespace Go.Proofs.Ytknbbondofijeaa
open Go.RowKit

set_option maxRecDepth 8000 in
set_option maxHeartbeats 1000000 in
theorem fromFaults_any (A : Option Addr) (n c m g : Nat) (As : Nat → Option Addr) (ns cs : Nat → Nat) (xs : Nat → List Int) (zs fr : List Int) (w : World) (hn : n ≤ maxLen) (ha : Arr .u64 w w.heap.size A n zs) (hm : m ≤ 100) (hns : ∀ i, i < m → ns i ≤ maxLen) (hxs : ∀ i, i < m → Arr .i64 w w.heap.size (As i) (ns i) (xs i))
    (hg : g < w.heap.size) (hc : ∀ i, i < m → w.cell? ⟨g, i, none⟩ = some (.slice (As i) (ns i) (cs i))) (hfr : ∀ x, x ∈ fr ↔ ∃ i, i < m ∧ x ∈ xs i) :
    Calls Try.prog 14 #[.slice A n c, .slice (some ⟨g, 0, none⟩) m m] w fun e w' => e = .returned (.int .i64 (fromE zs fr)) ∧ Below w.heap.size w w' := by
  have HAF := Lib.hid (ArenaFault_any A n c zs w hn ha)
  by_cases h : arErr zs = 0
  · rw [h] at HAF
    have HA := Lib.hid ha
    have HX := Lib.hid hxs
    have HNS := Lib.hid hns
    have H0 := Lib.hid h
    have HG := Lib.hid hg
    have HCC := Lib.hid hc
    have HFR := Lib.hid hfr
    clear ha hxs h hn hg hc hns hfr
    go_enter Try.func14, Try.ntmps14
    go_wp2_with fail
    refine HAF.out.mono ?_
    rintro e w1 ⟨rfl, b1⟩
    have HB1 := Lib.hid b1
    have HBG := Lib.hid (begins_any A n c zs w1 (HA.out.later b1) (arErr_zero H0.out).1)
    clear b1 HAF
    go_wp2_with fail
    refine HBG.out.mono ?_
    rintro e w2 ⟨A2, c2, rfl, b2, hA2⟩
    have HB2 := Lib.hid (bthen HB1.out b2)
    have HA2 := Lib.hid hA2
    clear b2 hA2 HBG HB1
    obtain ⟨ln, hln⟩ : ∃ q, (livesI zs).length = q := ⟨_, rfl⟩
    rw [hln] at HA2 ⊢
    have hln2 : ln ≤ 256 := by rw [← hln]; exact lives_len (arena_len H0.out)
    clear hln
    go_wp2_with fail
    go_loopw [20] (fun i wr => w2 = wr ∧ ∃ k : Nat, k ≤ m ∧ i = .int .i64 k ∧ Hid (∀ i, i < k → ∀ x ∈ xs i, x ∈ livesI zs)) (fun i _ => m - (intOf i).toNat)
    case atStart => exact ⟨rfl, 0, Nat.zero_le _, rfl, fun i hi => absurd hi (by omega)⟩
    case round =>
      obtain ⟨rfl, k, hk, rfl, HP⟩ := hrel
      by_cases hlt : k < m
      · have d0 : w2.cell? ⟨g, k, none⟩ = some (.slice (As k) (ns k) (cs k)) := (HB2.out.cell (p := ⟨g, k, none⟩) HG.out).trans (HCC.out k hlt)
        have HF2 := Lib.hid ((HX.out k hlt).later HB2.out)
        have hnk := HNS.out k hlt
        unfold maxLen at hnk
        obtain ⟨F, hF⟩ : ∃ F, As k = F := ⟨_, rfl⟩
        obtain ⟨nf, hnf⟩ : ∃ nf, ns k = nf := ⟨_, rfl⟩
        obtain ⟨cf, hcf⟩ : ∃ cf, cs k = cf := ⟨_, rfl⟩
        obtain ⟨fx, hfx⟩ : ∃ fx, xs k = fx := ⟨_, rfl⟩
        have HFX := Lib.hid hfx
        rw [hF, hnf, hcf] at d0
        rw [hF, hnf, hfx] at HF2
        rw [hnf] at hnk
        clear hF hnf hcf hfx
        go_wp2_with fail
        go_loopw [26] (fun i wr => w2 = wr ∧ ∃ j : Nat, j ≤ nf ∧ i = .int .i64 j ∧ Hid (∀ i, i < j → nth fx i ∈ livesI zs)) (fun i _ => nf - (intOf i).toNat)
        case atStart => exact ⟨rfl, 0, Nat.zero_le _, rfl, (fun i hi => absurd hi (by omega))⟩
        case round =>
          obtain ⟨rfl, j, hj, rfl, HQ⟩ := hrel
          clear d0
          by_cases hlt2 : j < nf
          · obtain ⟨b, off, rfl, _, hcs⟩ := HF2.out.2.2 (by omega)
            have hcj := hcs j hlt2
            have HI := Lib.hid (in_ref A2 ln c2 _ (nth fx j) (livesI zs) w2 (by unfold maxLen; omega) HA2.out)
            clear hcs
            by_cases hin : nth fx j ∈ livesI zs
            · rw [show decide (nth fx j ∈ livesI zs) = true by simpa using hin] at HI
              have HPN : Hid (∀ i, i < j + 1 → nth fx i ∈ livesI zs) := fun i hi => by
                rcases Nat.lt_succ_iff_lt_or_eq.1 hi with h1 | h1
                · exact HQ.out i h1
                · rw [h1]; exact hin
              clear hin HQ
              generalize nth fx j = X at *
              go_wp2_with fail
              refine HI.out.mono ?_
              rintro e w3 ⟨rfl, rfl⟩
              go_wp2
              go_roundw
              case rel => exact ⟨by trivial, j + 1, by omega, by go_num, HPN⟩
              case measure => simp [intOf]; omega
            · rw [show decide (nth fx j ∈ livesI zs) = false by simpa using hin] at HI
              have HE : Hid (fromE zs fr = 5) := fromE_none H0.out (x := nth fx j) ((HFR.out _).2 ⟨k, hlt, by rw [HFX.out]; exact nth_mem (by have := HF2.out.1; omega)⟩) hin
              clear hin HQ
              generalize nth fx j = X at *
              go_wp2_with fail
              refine HI.out.mono ?_
              rintro e w3 ⟨rfl, rfl⟩
              go_wp2
              go_ret
              exact ⟨by rw [HE.out]; rfl, HB2.out⟩
          · obtain rfl : j = nf := by omega
            have HP2 : Hid (∀ i, i < k + 1 → ∀ x ∈ xs i, x ∈ livesI zs) := fun i hi x hx => by
              rcases Nat.lt_succ_iff_lt_or_eq.1 hi with h1 | h1
              · exact HP.out i h1 x hx
              · rw [h1, HFX.out] at hx
                obtain ⟨i, hi, e⟩ := List.getElem_of_mem hx
                have := HQ.out i (by have := HF2.out.1; omega)
                rw [nth_get _ _ hi, e] at this
                exact this
            clear HQ HP
            go_wp2
            go_roundw
            case rel => exact ⟨by trivial, k + 1, by omega, by go_num, HP2⟩
            case measure => simp [intOf]; omega
      · obtain rfl : k = m := by omega
        have HE : Hid (fromE zs fr = 0) := fromE_ok H0.out fun x hx => by
          obtain ⟨i, hi, hm⟩ := (HFR.out x).1 hx
          exact HP.out i hi x hm
        clear HP
        go_wp2
        go_ret
        exact ⟨by rw [HE.out]; rfl, HB2.out⟩
  · have HE := Lib.hid (fromE_arena (fr := fr) h)
    have hb : (arErr zs != 0) = true := by simpa using h
    clear ha hxs h hc
    generalize arErr zs = E at *
    go_enter Try.func14, Try.ntmps14
    go_wp2_with fail
    refine HAF.out.mono ?_
    rintro e w1 ⟨rfl, b1⟩
    have HB1 := Lib.hid b1
    clear b1 HAF
    go_wp2
    go_ret
    exact ⟨by rw [HE.out]; rfl, HB1.out⟩

set_option maxHeartbeats 1000000 in
theorem sameTri_any (A G K A' G' K' : Option Addr) (n c ng cg nb cb c' cg' cb' : Nat) (zs g b : List Int) (w : World) (ha : Arr .u64 w w.heap.size A n zs) (hg : Arr .i64 w w.heap.size G ng g) (hb : Arr .i64 w w.heap.size K nb b) (ha' : Arr .u64 w w.heap.size A' n zs) (hg' : Arr .i64 w w.heap.size G' ng g) (hb' : Arr .i64 w w.heap.size K' nb b) (hn : n ≤ maxLen) (hng : ng ≤ maxLen) (hnb : nb ≤ maxLen) :
    Calls Try.prog 15 #[.agg #[.slice A n c, .slice G ng cg, .slice K nb cb], .agg #[.slice A' n c', .slice G' ng cg', .slice K' nb cb']] w fun e w' => e = .returned (.bool true) ∧ Below w.heap.size w w' := by
  have b1 := (Below.refl _ w).alloc (Nat.le_refl _) (.cells #[.slice A n c, .slice G ng cg, .slice K nb cb] 25)
  have BX := Box.new w 25 #[.slice A n c, .slice G ng cg, .slice K nb cb]
  have b2 := (Below.refl _ (w.alloc (.cells #[.slice A n c, .slice G ng cg, .slice K nb cb] 25))).alloc (Nat.le_refl _) (.cells #[.slice A' n c', .slice G' ng cg', .slice K' nb cb'] 25)
  have BY := Box.new (w.alloc (.cells #[.slice A n c, .slice G ng cg, .slice K nb cb] 25)) 25 #[.slice A' n c', .slice G' ng cg', .slice K' nb cb']
  have hs1 : (w.alloc (.cells #[.slice A n c, .slice G ng cg, .slice K nb cb] 25)).heap.size = w.heap.size + 1 := by simp
  rw [hs1] at BY
  have HX := Lib.hid (BX.below b2 BX.lt)
  have HY := Lib.hid BY
  have hB := b1.trans (b2.mono b1.size)
  have HB := Lib.hid hB
  have H1 := Lib.hid (fun wx (hw : Below w.heap.size w wx) => refWordsOne A A' n c c' _ zs wx (ha.later hw) (ha'.later hw) hn)
  have H2 := Lib.hid (fun wx (hw : Below w.heap.size w wx) => refIntsOne G G' ng cg cg' _ g wx (hg.later hw) (hg'.later hw) hng)
  have H3 := Lib.hid (fun wx (hw : Below w.heap.size w wx) => refIntsOne K K' nb cb cb' _ b wx (hb.later hw) (hb'.later hw) hnb)
  clear b1 BX b2 BY hs1 hB ha hg hb ha' hg' hb' hn hng hnb
  go_enter Try.func15, Try.ntmps15
  go_wp2_with fail
  generalize ((w.alloc (.cells #[.slice A n c, .slice G ng cg, .slice K nb cb] 25)).alloc (.cells #[.slice A' n c', .slice G' ng cg', .slice K' nb cb'] 25)) = w1 at *
  have a0 : w1.cell? ⟨w.heap.size, 0, none⟩ = some (.slice A n c) := HX.out.cell 0
  have a1 : w1.cell? ⟨w.heap.size + 1, 0, none⟩ = some (.slice A' n c') := HY.out.cell 0
  go_wp2_with fail
  refine (H1.out _ HB.out).mono ?_
  rintro e w2 ⟨rfl, q2, rfl⟩
  have HX2 : Hid (Box (w1.drewN q2) w.heap.size 25 #[.slice A n c, .slice G ng cg, .slice K nb cb]) := HX.out
  have HY2 : Hid (Box (w1.drewN q2) (w.heap.size + 1) 25 #[.slice A' n c', .slice G' ng cg', .slice K' nb cb']) := HY.out
  have HB2 : Hid (Below w.heap.size w (w1.drewN q2)) := below_drewN HB.out q2
  clear a0 a1 H1 HX HY HB
  generalize w1.drewN q2 = w2 at *
  have a0 : w2.cell? ⟨w.heap.size, 1, none⟩ = some (.slice G ng cg) := HX2.out.cell 1
  have a1 : w2.cell? ⟨w.heap.size + 1, 1, none⟩ = some (.slice G' ng cg') := HY2.out.cell 1
  go_wp2_with fail
  refine (H2.out _ HB2.out).mono ?_
  rintro e w3 ⟨rfl, q3, rfl⟩
  have HX3 : Hid (Box (w2.drewN q3) w.heap.size 25 #[.slice A n c, .slice G ng cg, .slice K nb cb]) := HX2.out
  have HY3 : Hid (Box (w2.drewN q3) (w.heap.size + 1) 25 #[.slice A' n c', .slice G' ng cg', .slice K' nb cb']) := HY2.out
  have HB3 : Hid (Below w.heap.size w (w2.drewN q3)) := below_drewN HB2.out q3
  clear a0 a1 H2 HX2 HY2 HB2
  generalize w2.drewN q3 = w3 at *
  have a0 : w3.cell? ⟨w.heap.size, 2, none⟩ = some (.slice K nb cb) := HX3.out.cell 2
  have a1 : w3.cell? ⟨w.heap.size + 1, 2, none⟩ = some (.slice K' nb cb') := HY3.out.cell 2
  go_wp2_with fail
  refine (H3.out _ HB3.out).mono ?_
  rintro e w4 ⟨rfl, q4, rfl⟩
  have HB4 : Hid (Below w.heap.size w (w3.drewN q4)) := below_drewN HB3.out q4
  clear a0 a1 H3 HX3 HY3 HB3
  generalize w3.drewN q4 = w4 at *
  go_wp2
  go_ret
  exact ⟨rfl, HB4.out⟩

/-- What holds in the middle of TriFault. -/
structure TfI (w : World) (A G K : Option Addr) (n c ng cg nb cb : Nat) (zs g b : List Int) (wx : World) : Prop where
  below : Below w.heap.size w wx
  arg : Box wx w.heap.size 25 #[.slice A n c, .slice G ng cg, .slice K nb cb]
  tri : TriIn wx A G K n c ng nb zs g b
section
variable {w wx wx' : World} {A G K : Option Addr} {n c ng cg nb cb : Nat} {zs g b : List Int}
theorem TfI.next (h : TfI w A G K n c ng cg nb cb zs g b wx) (hb : Below wx.heap.size wx wx') : TfI w A G K n c ng cg nb cb zs g b wx' :=
  ⟨h.below.trans (hb.mono h.below.size), h.arg.below hb h.arg.lt, h.tri.next hb⟩
theorem TfI.cells (h : TfI w A G K n c ng cg nb cb zs g b wx) : wx.cell? ⟨w.heap.size, 0, none⟩ = some (.slice A n c) ∧ wx.cell? ⟨w.heap.size, 1, none⟩ = some (.slice G ng cg) ∧ wx.cell? ⟨w.heap.size, 2, none⟩ = some (.slice K nb cb) := ⟨h.arg.cell 0, h.arg.cell 1, h.arg.cell 2⟩
end
theorem fromE_two {zs g b : List Int} (h : arErr zs = 0) : fromE zs (g ++ b) = if (allIn zs g && allIn zs b) = true then 0 else 5 := by
  by_cases h1 : (allIn zs g && allIn zs b) = true
  · rw [if_pos h1]
    rw [Bool.and_eq_true, allIn_iff, allIn_iff] at h1
    exact fromE_ok h fun x hx => (List.mem_append.1 hx).elim (h1.1 x) (h1.2 x)
  · rw [if_neg h1]
    rw [Bool.and_eq_true, allIn_iff, allIn_iff] at h1
    unfold fromE
    rw [if_pos h, if_neg]
    exact fun hall => h1 ⟨fun x hx => hall x (List.mem_append_left _ hx), fun x hx => hall x (List.mem_append_right _ hx)⟩
theorem thereB_sym {g b : List Int} : thereB g b = g.any fun x => decide (x ∈ b) := by
  unfold thereB
  rw [Bool.eq_iff_iff, List.any_eq_true, List.any_eq_true]
  constructor
  · rintro ⟨x, hx, h⟩; exact ⟨x, by simpa using h, by simpa using hx⟩
  · rintro ⟨x, hx, h⟩; exact ⟨x, by simpa using h, by simpa using hx⟩
theorem two_lists {g b : List Int} (x : Int) : x ∈ g ++ b ↔ ∃ i, i < 2 ∧ x ∈ (if i = 0 then g else b) := by
  rw [List.mem_append]
  constructor
  · rintro (h | h)
    · exact ⟨0, by omega, by simpa using h⟩
    · exact ⟨1, by omega, by simpa using h⟩
  · rintro ⟨i, hi, h⟩
    by_cases e : i = 0
    · rw [if_pos e] at h; exact .inl h
    · rw [if_neg e] at h; exact .inr h


theorem brokenB_true {zs g b : List Int} (hz : ∀ z ∈ zs, (Lit.int .u64 z).wf = true) (h : arErr zs = 0) (hb : ∀ x ∈ b, x ∈ livesI zs) {x y : Int} (hx : x ∈ b) (hy : y ∈ nxOf zs x) (h0 : 0 ≤ y) (hg : y ∉ g) (hbb : y ∉ b) : brokenB zs (colOf g b) b = true := by
  cases hc : brokenB zs (colOf g b) b
  · exact absurd ((brokenB_false hz h hb).1 hc x hx y hy h0) (fun h => h.elim hg hbb)
  · rfl

set_option maxRecDepth 16000 in
set_option maxHeartbeats 4000000 in
theorem triFault_any (A G K : Option Addr) (n c ng cg nb cb : Nat) (zs g b : List Int) (w : World) (h : TriIn w A G K n c ng nb zs g b) :
    Calls Try.prog 13 #[.agg #[.slice A n c, .slice G ng cg, .slice K nb cb]] w fun e w' => e = .returned (.int .i64 (triE zs g b)) ∧ Below w.heap.size w w' := by
  have b1 := (Below.refl _ w).alloc (Nat.le_refl _) (.cells #[.slice A n c, .slice G ng cg, .slice K nb cb] 25)
  have HI := Lib.hid (show TfI w A G K n c ng cg nb cb zs g b (w.alloc (.cells #[.slice A n c, .slice G ng cg, .slice K nb cb] 25)) from ⟨b1, Box.new w 25 #[.slice A n c, .slice G ng cg, .slice K nb cb], h.next b1⟩)
  have hng := h.hg
  have hnb := h.hb
  unfold maxLen at hng hnb
  clear b1 h
  go_enter Try.func13, Try.ntmps13
  go_wp2_with fail
  generalize (w.alloc (.cells #[.slice A n c, .slice G ng cg, .slice K nb cb] 25)) = w1 at *
  obtain ⟨a0, a1, a2⟩ := HI.out.cells
  have HC := Lib.hid (ArenaFault_any A n c zs w1 HI.out.tri.hn HI.out.tri.arena)
  go_wp2_with fail
  refine HC.out.mono ?_
  rintro e w2 ⟨rfl, b2⟩
  have HI := Lib.hid (HI.out.next b2)
  clear a0 a1 a2 HC b2
  by_cases h0 : arErr zs = 0
  · have H0 := Lib.hid h0
    rw [h0]
    clear h0
    obtain ⟨a0, a1, a2⟩ := HI.out.cells
    have HC := Lib.hid (rises_any G ng cg _ g w2 HI.out.tri.hg HI.out.tri.grey)
    cases hrg : riseB g
    · rw [hrg] at HC
      have HE := Lib.hid (triE_form (b := b) H0.out (by rw [hrg]; rfl))
      clear hrg
      go_wp2_with fail
      refine HC.out.mono ?_
      rintro e w3 ⟨rfl, q3, rfl⟩
      have HI := Lib.hid (HI.out.next (wx' := w2.drewN q3) (below_drewN (Below.refl _ _) q3))
      clear a0 a1 a2 HC
      generalize w2.drewN q3 = w3 at *
      go_wp2
      go_ret
      exact ⟨by rw [HE.out]; rfl, HI.out.below⟩
    · rw [hrg] at HC
      have HRG := Lib.hid hrg
      clear hrg
      go_wp2_with fail
      refine HC.out.mono ?_
      rintro e w3 ⟨rfl, q3, rfl⟩
      have HI := Lib.hid (HI.out.next (wx' := w2.drewN q3) (below_drewN (Below.refl _ _) q3))
      clear a0 a1 a2 HC
      generalize w2.drewN q3 = w3 at *
      obtain ⟨a0, a1, a2⟩ := HI.out.cells
      have HC := Lib.hid (rises_any K nb cb _ b w3 HI.out.tri.hb HI.out.tri.blk)
      cases hrb : riseB b
      · rw [hrb] at HC
        have HE := Lib.hid (triE_form (g := g) H0.out (by rw [hrb]; simp))
        clear hrb
        go_wp2_with fail
        refine HC.out.mono ?_
        rintro e w4 ⟨rfl, q4, rfl⟩
        have HI := Lib.hid (HI.out.next (wx' := w3.drewN q4) (below_drewN (Below.refl _ _) q4))
        clear a0 a1 a2 HC
        generalize w3.drewN q4 = w4 at *
        go_wp2
        go_ret
        exact ⟨by rw [HE.out]; rfl, HI.out.below⟩
      · rw [hrb] at HC
        have HR := Lib.hid (show (riseB g && riseB b) = true by rw [HRG.out, hrb]; rfl)
        clear hrb
        go_wp2_with fail
        refine HC.out.mono ?_
        rintro e w4 ⟨rfl, q4, rfl⟩
        have HI := Lib.hid (HI.out.next (wx' := w3.drewN q4) (below_drewN (Below.refl _ _) q4))
        clear a0 a1 a2 HC
        generalize w3.drewN q4 = w4 at *
        obtain ⟨a0, a1, a2⟩ := HI.out.cells
        have b5 := (Below.refl _ w4).alloc (Nat.le_refl _) (.cells #[.slice G ng cg, .slice K nb cb] 23)
        have B5 := Box.new w4 23 #[.slice G ng cg, .slice K nb cb]
        have HI5 := Lib.hid (HI.out.next b5)
        have HC := Lib.hid (fromFaults_any A n c 2 w4.heap.size (fun i => if i = 0 then G else K) (fun i => if i = 0 then ng else nb) (fun i => if i = 0 then cg else cb) (fun i => if i = 0 then g else b) zs (g ++ b) (w4.alloc (.cells #[.slice G ng cg, .slice K nb cb] 23)) HI5.out.tri.hn HI5.out.tri.arena (by omega)
          (fun i hi => by
            match i, hi with
            | 0, _ => exact HI5.out.tri.hg
            | 1, _ => exact HI5.out.tri.hb) (fun i hi => by
            match i, hi with
            | 0, _ => exact HI5.out.tri.grey
            | 1, _ => exact HI5.out.tri.blk) B5.lt (fun i hi => by
            match i, hi with
            | 0, _ => exact B5.cell 0
            | 1, _ => exact B5.cell 1) (fun x => two_lists x))
        rw [fromE_two H0.out] at HC
        clear b5 B5 HI
        cases hal : (allIn zs g && allIn zs b)
        · rw [hal] at HC
          have HE := Lib.hid (triE_none H0.out HR.out hal)
          simp only [Bool.false_eq_true, if_false] at HC
          clear hal
          go_wp2_with fail
          refine HC.out.mono ?_
          rintro e w6 ⟨rfl, b6⟩
          have HI := Lib.hid (HI5.out.next b6)
          clear a0 a1 a2 HC b6 HI5
          go_wp2
          go_ret
          exact ⟨by rw [HE.out]; rfl, HI.out.below⟩
        · rw [hal] at HC
          have HAL := Lib.hid hal
          have hab := hal
          rw [Bool.and_eq_true] at hab
          have HBL := Lib.hid (allIn_iff.1 hab.2)
          simp only [if_true] at HC
          clear hal hab
          go_wp2_with fail
          refine HC.out.mono ?_
          rintro e w6 ⟨rfl, b6⟩
          have HI := Lib.hid (HI5.out.next b6)
          clear a0 a1 a2 HC b6 HI5
          obtain ⟨a0, a1, a2⟩ := HI.out.cells
          go_wp2_with fail
          go_loopw [41] (fun i wr => w6 = wr ∧ ∃ j : Nat, j ≤ ng ∧ i = .int .i64 j ∧ Hid (∀ i, i < j → nth g i ∉ b)) (fun i _ => ng - (intOf i).toNat)
          case atStart => exact ⟨rfl, 0, Nat.zero_le _, rfl, fun i hi => absurd hi (by omega)⟩
          case round =>
            obtain ⟨rfl, j, hj, rfl, HP⟩ := hrel
            have hgl := HI.out.tri.grey.1
            by_cases hlt : j < ng
            · obtain ⟨bb, off, rfl, _, hcs⟩ := HI.out.tri.grey.2.2 (by omega)
              have hc := hcs j hlt
              have hmem : nth g j ∈ g := nth_mem (by omega)
              have HN := Lib.hid (in_ref K nb cb _ (nth g j) b w6 HI.out.tri.hb HI.out.tri.blk)
              clear hcs
              by_cases hin : nth g j ∈ b
              · rw [show decide (nth g j ∈ b) = true by simpa using hin] at HN
                have HE := Lib.hid (triE_there H0.out HR.out HAL.out (by rw [thereB_sym]; exact List.any_eq_true.2 ⟨_, hmem, by simpa using hin⟩))
                clear hin hmem HP
                generalize nth g j = X at *
                go_wp2_with fail
                refine HN.out.mono ?_
                rintro e w7 ⟨rfl, rfl⟩
                go_wp2
                go_ret
                exact ⟨by rw [HE.out]; rfl, HI.out.below⟩
              · rw [show decide (nth g j ∈ b) = false by simpa using hin] at HN
                have HP2 : Hid (∀ i, i < j + 1 → nth g i ∉ b) := fun i hi => by
                  rcases Nat.lt_succ_iff_lt_or_eq.1 hi with h | h
                  · exact HP.out i h
                  · rw [h]; exact hin
                clear hin hmem HP
                generalize nth g j = X at *
                go_wp2_with fail
                refine HN.out.mono ?_
                rintro e w7 ⟨rfl, rfl⟩
                go_wp2
                go_roundw
                case rel => exact ⟨by trivial, j + 1, by omega, by go_num, HP2⟩
                case measure => simp [intOf]; omega
            · obtain rfl : j = ng := by omega
              have HTH : Hid (thereB g b = false) := by
                show _ = _
                rw [thereB_sym, List.any_eq_false]
                intro x hx
                obtain ⟨i, hi, e⟩ := List.getElem_of_mem hx
                have := HP.out i (by omega)
                rw [nth_get _ _ hi, e] at this
                simpa using this
              have HI6 := Lib.hid HI.out
              clear HP HI
              go_wp2_with fail
              clear a0 a1 a2
              go_loopw [53] (fun i wr => ∃ j1 : Nat, j1 ≤ nb ∧ i = .int .i64 j1 ∧ Hid (TfI w A G K n c j cg nb cb zs g b wr) ∧ Hid (∀ i, i < j1 → ∀ y ∈ nxOf zs (nth b i), 0 ≤ y → y ∈ g ∨ y ∈ b)) (fun i _ => nb - (intOf i).toNat)
              case atStart => exact ⟨0, Nat.zero_le _, rfl, HI6.out, fun i hi => absurd hi (by omega)⟩
              case round =>
                obtain ⟨j2, hj2, rfl, HI, HP⟩ := hrel
                clear HI6
                have hbl := HI.out.tri.blk.1
                obtain ⟨a0, a1, a2⟩ := HI.out.cells
                by_cases hlt2 : j2 < nb
                · obtain ⟨bb, off, rfl, _, hcs⟩ := HI.out.tri.blk.2.2 (by omega)
                  have hc := hcs j2 hlt2
                  have hmem : nth b j2 ∈ b := nth_mem (by omega)
                  have hlv := HBL.out _ hmem
                  obtain ⟨t, ht⟩ : ∃ t : Nat, nth b j2 = t := ⟨(nth b j2).toNat, by have := lives_pos _ hlv; omega⟩
                  rw [ht] at hc hmem hlv
                  have HT := Lib.hid ht
                  have HMEM := Lib.hid hmem
                  have HNM := Lib.hid (namedAt_any A n c t zs wr HI.out.tri.arena H0.out hlv)
                  have HNL := Lib.hid (named_len (zs := zs) (t := t))
                  have HZ := Lib.hid HI.out.tri.arena.2.1
                  clear hcs ht hmem hlv
                  go_wp2_with fail
                  refine HNM.out.mono ?_
                  rintro e w7 ⟨A7, c7, rfl, b7, hA7, _⟩
                  have HI7 := Lib.hid (HI.out.next b7)
                  have HA7 := Lib.hid hA7
                  have hm256 : (named zs t).length ≤ 256 := Nat.le_trans HNL.out (arena_len H0.out)
                  clear a0 a1 a2 HNM b7 hA7 hc HI HNL
                  obtain ⟨m, hm⟩ : ∃ m, (named zs t).length = m := ⟨_, rfl⟩
                  rw [hm] at HA7 hm256 ⊢
                  have HM := Lib.hid hm
                  clear hm
                  obtain ⟨a0, a1, a2⟩ := HI7.out.cells
                  go_wp2_with fail
                  go_loopw [62] (fun i wr => w7 = wr ∧ ∃ k : Nat, k ≤ m ∧ i = .int .i64 k ∧ Hid (∀ i, i < k → 0 ≤ nth (named zs t) i → nth (named zs t) i ∈ g ∨ nth (named zs t) i ∈ b)) (fun i _ => m - (intOf i).toNat)
                  case atStart => exact ⟨rfl, 0, Nat.zero_le _, rfl, fun i hi => absurd hi (by omega)⟩
                  case round =>
                    obtain ⟨rfl, k, hk, rfl, HQ⟩ := hrel
                    by_cases hlt3 : k < m
                    · obtain ⟨bb7, off7, rfl, _, hcs⟩ := HA7.out.2.2 (by omega)
                      have hc := hcs k hlt3
                      have HYM : Hid (nth (named zs t) k ∈ named zs t) := nth_mem (by rw [HM.out]; exact hlt3)
                      have HQN : Hid ((0 ≤ nth (named zs t) k → nth (named zs t) k ∈ g ∨ nth (named zs t) k ∈ b) → ∀ i, i < k + 1 → 0 ≤ nth (named zs t) i → nth (named zs t) i ∈ g ∨ nth (named zs t) i ∈ b) := fun h i hi => by
                        rcases Nat.lt_succ_iff_lt_or_eq.1 hi with h1 | h1
                        · exact HQ.out i h1
                        · rw [h1]; exact h
                      clear hcs
                      generalize nth (named zs t) k = Y at *
                      have HN1 := Lib.hid (in_ref G j cg _ Y g w7 HI7.out.tri.hg HI7.out.tri.grey)
                      have HN2 := Lib.hid (in_ref (some ⟨bb, off, none⟩) nb cb _ Y b w7 HI7.out.tri.hb HI7.out.tri.blk)
                      by_cases hp : 0 ≤ Y
                      · have cp : (0 ≤ Y) = True := eq_true hp
                        have cp2 : (Y ≥ 0) = True := eq_true hp
                        by_cases hg : Y ∈ g
                        · rw [show decide (Y ∈ g) = true by simpa using hg] at HN1
                          have HQ2 := Lib.hid (HQN.out fun _ => .inl hg)
                          clear hg HQN HQ hp
                          go_wp2_with fail
                          refine HN1.out.mono ?_
                          rintro e w8 ⟨rfl, rfl⟩
                          go_wp2
                          go_roundw
                          case rel => exact ⟨by trivial, k + 1, by omega, by go_num, HQ2.out⟩
                          case measure => simp [intOf]; omega
                        · rw [show decide (Y ∈ g) = false by simpa using hg] at HN1
                          by_cases hbb : Y ∈ b
                          · rw [show decide (Y ∈ b) = true by simpa using hbb] at HN2
                            have HQ2 := Lib.hid (HQN.out fun _ => .inr hbb)
                            clear hg hbb HQN HQ hp
                            go_wp2_with fail
                            refine HN1.out.mono ?_
                            rintro e w8 ⟨rfl, rfl⟩
                            go_wp2_with fail
                            refine HN2.out.mono ?_
                            rintro e w8 ⟨rfl, rfl⟩
                            go_wp2
                            go_roundw
                            case rel => exact ⟨by trivial, k + 1, by omega, by go_num, HQ2.out⟩
                            case measure => simp [intOf]; omega
                          · rw [show decide (Y ∈ b) = false by simpa using hbb] at HN2
                            have HE := Lib.hid (triE_held H0.out HR.out HAL.out HTH.out (brokenB_true HZ.out H0.out HBL.out HMEM.out (y := Y) (by unfold nxOf; rw [Int.toNat_natCast]; exact HYM.out) hp hg hbb))
                            clear hg hbb HQN HQ hp
                            go_wp2_with fail
                            refine HN1.out.mono ?_
                            rintro e w8 ⟨rfl, rfl⟩
                            go_wp2_with fail
                            refine HN2.out.mono ?_
                            rintro e w8 ⟨rfl, rfl⟩
                            go_wp2
                            go_ret
                            exact ⟨by rw [HE.out]; rfl, HI7.out.below⟩
                      · have cp : (0 ≤ Y) = False := eq_false hp
                        have cp2 : (Y ≥ 0) = False := eq_false hp
                        have HQ2 := Lib.hid (HQN.out fun h => absurd h hp)
                        clear HQN HQ hp HN1 HN2
                        go_wp2
                        go_roundw
                        case rel => exact ⟨by trivial, k + 1, by omega, by go_num, HQ2.out⟩
                        case measure => simp [intOf]; omega
                    · obtain rfl : k = m := by omega
                      have HP2 : Hid (∀ i, i < j2 + 1 → ∀ y ∈ nxOf zs (nth b i), 0 ≤ y → y ∈ g ∨ y ∈ b) := fun i hi y hy h0 => by
                        rcases Nat.lt_succ_iff_lt_or_eq.1 hi with h1 | h1
                        · exact HP.out i h1 y hy h0
                        · rw [h1, HT.out] at hy
                          unfold nxOf at hy
                          rw [Int.toNat_natCast] at hy
                          obtain ⟨i, hi, e⟩ := List.getElem_of_mem hy
                          have := HQ.out i (by rw [← HM.out]; exact hi)
                          rw [nth_get _ _ hi, e] at this
                          exact this h0
                      clear HQ HP
                      go_wp2
                      go_roundw
                      case rel => exact ⟨j2 + 1, by omega, by go_num, HI7.out, HP2.out⟩
                      case measure => simp [intOf]; omega
                · obtain rfl : j2 = nb := by omega
                  have HE : Hid (triE zs g b = 0) := triE_ok H0.out HR.out HAL.out HTH.out ((brokenB_false HI.out.tri.arena.2.1 H0.out HBL.out).2 fun x hx => by
                    obtain ⟨i, hi, e⟩ := List.getElem_of_mem hx
                    have := HP.out i (by omega)
                    rw [nth_get _ _ hi, e] at this
                    exact this)
                  clear HP
                  go_wp2
                  go_ret
                  exact ⟨by rw [HE.out]; rfl, HI.out.below⟩
  · have HE0 := Lib.hid (triE_arena (g := g) (b := b) h0)
    have hb : (arErr zs != 0) = true := by simpa using h0
    clear h0
    obtain ⟨E, hE⟩ : ∃ E, arErr zs = E := ⟨_, rfl⟩
    rw [hE] at hb HE0 ⊢
    clear hE
    go_wp2
    go_ret
    exact ⟨by rw [HE0.out]; rfl, HI.out.below⟩

end Go.Proofs.Ytknbbondofijeaa
