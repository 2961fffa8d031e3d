/-
  The walk of FaintLeast where what comes in is not too long, given what Keep answers ('FKeepC').
-/
import Derived.Test.YtdglnbcliemafaaFaintV
import Derived.Test.YtdglnbcliemafaaFaintFn
import Derived.Test.YtdglnbcliemafaaCloneF
import Derived.Test.YtdglnbcliemafaaIntFn
import Derived.Test.YtdglnbcliemafaaTintEW
import Derived.StillTailTactics
namespace Go.Proofs.Ytdglnbcliemafaa
open Go.RowKit

/-- A list is closed: it has what one begins with, what each of it names, and the value of each key. -/
def nameB (zs X : List Int) : Bool := (livesI zs).all fun t => !decide (t ∈ X) || inAll (namesOf zs t.toNat) X
def pairB (ps : List (Int × Int)) (X : List Int) : Bool := ps.any fun p => decide (p.1 ∈ X) && !decide (p.2 ∈ X)
def closedB (zs fr : List Int) (ps : List (Int × Int)) (X : List Int) : Bool := nameB zs X && (inAll fr X && !pairB ps X)
section
variable {zs fr X : List Int} {ps : List (Int × Int)}
theorem nameB_iff : nameB zs X = true ↔ ∀ j, j < (livesI zs).length → nth (livesI zs) j ∈ X → inAll (namesOf zs (nth (livesI zs) j).toNat) X = true := by
  unfold nameB
  rw [List.all_eq_true]
  constructor
  · intro h j hj hx
    have := h _ (nth_mem hj)
    simpa [hx] using this
  · intro h t ht
    obtain ⟨j, hj, e⟩ := List.getElem_of_mem ht
    rw [← nth_get _ _ hj] at e
    subst e
    by_cases hx : nth (livesI zs) j ∈ X
    · simp [h j hj hx]
    · simp [hx]
theorem pairB_false : pairB ps X = false ↔ ∀ p ∈ ps, p.1 ∈ X → p.2 ∈ X := by
  unfold pairB
  rw [List.any_eq_false]
  constructor
  · intro h p hp hx
    have := h p hp
    simpa [hx] using this
  · intro h p hp
    by_cases hx : p.1 ∈ X
    · simp [hx, h p hp hx]
    · simp [hx]
theorem names_iff {x y : Int} : y ∈ namesOf zs x.toNat ↔ y ∈ nxOf zs x ∧ 0 ≤ y := by
  unfold namesOf nxOf
  rw [List.mem_filter, decide_eq_true_eq]
theorem kept_closed (hz : ∀ z ∈ zs, (Lit.int .u64 z).wf = true) (h : faintE zs fr ps = 0) : closedB zs fr ps (faintL zs fr ps) = true := by
  obtain ⟨h1, _, h3⟩ := faintE_zero h
  unfold closedB
  rw [Bool.and_eq_true, Bool.and_eq_true, Bool.not_eq_true', pairB_false, nameB_iff]
  refine ⟨fun j hj hx => inAll_true fun y hy => ?_, inAll_true fun x hx => faint_from hz h1 h3 hx, fun p hp hx => faint_pair hz h1 h3 hp hx⟩
  obtain ⟨h4, h5⟩ := names_iff.1 hy
  exact faint_next hz h1 h3 hx h4 h5
theorem closed_all (hz : ∀ z ∈ zs, (Lit.int .u64 z).wf = true) (h : faintE zs fr ps = 0) (hc : closedB zs fr ps X = true) : inAll (faintL zs fr ps) X = true := inAll_true fun x hx => by
  obtain ⟨h1, _, h3⟩ := faintE_zero h
  unfold closedB at hc
  rw [Bool.and_eq_true, Bool.and_eq_true, Bool.not_eq_true', pairB_false, nameB_iff] at hc
  obtain ⟨h4, h5, h6⟩ := hc
  refine faint_least hz h1 h3 (S := fun x => x ∈ X) (fun x hx => inAll_iff.1 h5 x hx) (fun x hl hx y hy h0 => ?_) h6 hx
  obtain ⟨j, hj, e⟩ := List.getElem_of_mem hl
  rw [← nth_get _ _ hj] at e
  subst e
  exact inAll_iff.1 (h4 j hj hx) y (names_iff.2 ⟨hy, h0⟩)
end

set_option maxHeartbeats 1000000 in
theorem pairOut_any (X : Option Addr) (n c g : Nat) (xs : List Int) (u v : Int) (w : World) (hn : n ≤ maxLen) (hX : Arr .i64 w w.heap.size X n xs) (hg : g < w.heap.size) (hc : w.cell? ⟨g, 0, none⟩ = some (.slice X n c)) :
    Calls Try.prog 25 #[.agg #[.int .i64 u, .int .i64 v], .pointer (some ⟨g, 0, none⟩)] w fun e w' => e = .returned (.bool (decide (u ∈ xs) && !decide (v ∈ xs))) ∧ Below w.heap.size w w' := by
  have ba := (Below.refl _ w).alloc (Nat.le_refl _) (.cells #[.int .i64 u, .int .i64 v] 32)
  have bx := Box.new w 32 #[.int .i64 u, .int .i64 v]
  have d0 := bx.cell 0
  have d1 := bx.cell 1
  have e0 := (ba.cell (p := ⟨g, 0, none⟩) hg).trans hc
  have HC1 := Lib.hid (containsR_any X n c _ u xs _ hn (hX.later ba))
  have HC2 := Lib.hid (containsR_any X n c _ v xs _ hn (hX.later ba))
  have HBA := Lib.hid ba
  clear ba bx hX hc hg
  cases hu : decide (u ∈ xs)
  · rw [hu] at HC1
    clear hu HC2
    go_enter Try.func25, Try.ntmps25
    go_wp2_with fail
    refine HC1.out.mono ?_
    rintro e w' ⟨rfl, rfl⟩
    go_wp2
    go_ret
    exact ⟨rfl, HBA.out⟩
  · rw [hu] at HC1
    clear hu
    generalize decide (v ∈ xs) = V at *
    go_enter Try.func25, Try.ntmps25
    go_wp2_with fail
    refine HC1.out.mono ?_
    rintro e w' ⟨rfl, rfl⟩
    go_wp2_with fail
    refine HC2.out.mono ?_
    rintro e w' ⟨rfl, rfl⟩
    go_wp2
    go_ret
    exact ⟨rfl, HBA.out⟩

/-- The variables that the law's function looks at. -/
structure CapF (A F P : Option Addr) (n c nf cf np cp g : Nat) (zs fr : List Int) (ps : List (Int × Int)) (w : World) : Prop where
  b0 : Box w g 22 #[.slice A n c]
  b1 : Box w (g + 1) 23 #[.slice F nf cf]
  b2 : Box w (g + 2) 24 #[.slice P np cp]
  af : ArenaFrom w A F n c nf cf zs fr
  pi : FaintsIn w P np cp ps
theorem CapF.next {A F P : Option Addr} {n c nf cf np cp g : Nat} {zs fr : List Int} {ps : List (Int × Int)} {w w' : World} (h : CapF A F P n c nf cf np cp g zs fr ps w) (hb : Below w.heap.size w w') : CapF A F P n c nf cf np cp g zs fr ps w' :=
  ⟨h.b0.below hb h.b0.lt, h.b1.below hb h.b1.lt, h.b2.below hb h.b2.lt, h.af.later hb, h.pi.later hb⟩

set_option maxRecDepth 8000 in
set_option maxHeartbeats 4000000 in
theorem closed_any (A F P X : Option Addr) (n c nf cf np cp nx cx g : Nat) (zs fr xs : List Int) (ps : List (Int × Int)) (w : World) (h : CapF A F P n c nf cf np cp g zs fr ps w) (hX : Arr .i64 w w.heap.size X nx xs) (hnf : nf ≤ 1048576) (hnp : np ≤ 1048576) (hnx : nx ≤ 4194304) (h0 : arErr zs = 0) :
    Calls Try.prog 19 #[.slice X nx cx, .pointer (some ⟨g, 0, none⟩), .pointer (some ⟨g + 1, 0, none⟩), .pointer (some ⟨g + 2, 0, none⟩)] w fun e w' => e = .returned (.bool (closedB zs fr ps xs)) ∧ Below w.heap.size w w' := by
  have h256 := arena_len h0
  have hn := h.af.hn
  have ba := (Below.refl _ w).alloc (Nat.le_refl _) (.cells #[.slice X nx cx] 23)
  have bx := Box.new w 23 #[.slice X nx cx]
  have HW := Lib.hid (h.next ba)
  have HX := Lib.hid (hX.later ba)
  have HBX := Lib.hid bx
  have HBA := Lib.hid ba
  have HZ := Lib.hid h.af.arena.2.1
  have H0 := Lib.hid h0
  clear ba bx h hX
  have c0 : (w.alloc (.cells #[.slice X nx cx] 23)).cell? ⟨g, 0, none⟩ = some (.slice A n c) := HW.out.b0.cell 0
  have HG := Lib.hid (keepBegins_any A n c zs _ (by unfold maxLen; omega) HW.out.af.arena (arErr_zero H0.out).1)
  go_enter Try.func19, Try.ntmps19
  go_wp2_with fail
  generalize (w.alloc (.cells #[.slice X nx cx] 23)) = w1 at *
  refine HG.out.mono ?_
  rintro e w5 ⟨A5, c5, rfl, b5, hA5⟩
  have HA5 := Lib.hid hA5
  have HW5 := Lib.hid (HW.out.next b5)
  have HX5 := Lib.hid (HX.out.later b5)
  have HBX5 := Lib.hid (HBX.out.below b5 HBX.out.lt)
  have HB5 := Lib.hid (bthen HBA.out b5)
  clear b5 hA5 HW HX HBX HBA HG c0
  obtain ⟨ln, hln⟩ : ∃ q, (livesI zs).length = q := ⟨_, rfl⟩
  rw [hln] at HA5 ⊢
  have hln2 : ln ≤ 256 := by rw [← hln]; exact lives_len h256
  have HLN := Lib.hid hln
  clear hln
  go_wp2_with fail
  go_loopw [11] (fun i wr => ∃ k : Nat, k ≤ ln ∧ i = .int .i64 k ∧ Hid (∀ j, j < k → nth (livesI zs) j ∈ xs → inAll (namesOf zs (nth (livesI zs) j).toNat) xs = true) ∧ Hid (Below w5.heap.size w5 wr)) (fun i _ => ln - (intOf i).toNat)
  case atStart => exact ⟨0, Nat.zero_le _, rfl, (fun j hj => absurd hj (by omega)), Below.refl _ _⟩
  case round =>
    obtain ⟨k, hk, rfl, HP, HBk⟩ := hrel
    have HWk := Lib.hid (HW5.out.next HBk.out)
    have HBXk := Lib.hid (HBX5.out.below HBk.out HBX5.out.lt)
    have HXk := Lib.hid (HX5.out.later HBk.out)
    by_cases hlt : k < ln
    · have hmem : nth (livesI zs) k ∈ livesI zs := nth_mem (by rw [HLN.out]; exact hlt)
      obtain ⟨t, ht, _⟩ := live_facts HZ.out hmem
      obtain ⟨b, off, rfl, _, hcs⟩ := (HA5.out.later HBk.out).2.2 (by omega)
      have hc := hcs k hlt
      have HCT := Lib.hid (fun wx (hb : Below wr.heap.size wr wx) => containsR_any X nx cx _ (nth (livesI zs) k) xs wx (by unfold maxLen; omega) (HXk.out.later hb))
      have HPN : Hid ((nth (livesI zs) k ∈ xs → inAll (namesOf zs (nth (livesI zs) k).toNat) xs = true) → ∀ j, j < k + 1 → nth (livesI zs) j ∈ xs → inAll (namesOf zs (nth (livesI zs) j).toNat) xs = true) := fun h j hj => by
        rcases Nat.lt_succ_iff_lt_or_eq.1 hj with h1 | h1
        · exact HP.out j h1
        · rw [h1]; exact h
      have HNB : Hid (nth (livesI zs) k ∈ xs → inAll (namesOf zs (nth (livesI zs) k).toNat) xs = false → closedB zs fr ps xs = false) := fun h1 h2 => by
        have h3 : nameB zs xs = false := by
          cases h4 : nameB zs xs
          · rfl
          · rw [nameB_iff.1 h4 k (by rw [HLN.out]; exact hlt) h1] at h2
            cases h2
        unfold closedB
        rw [h3]; rfl
      rw [ht] at hc hmem HCT HPN HNB
      rw [Int.toNat_natCast] at HPN HNB
      have x0 : wr.cell? ⟨w.heap.size, 0, none⟩ = some (.slice X nx cx) := HBXk.out.cell 0
      have x1 : wr.cell? ⟨g, 0, none⟩ = some (.slice A n c) := HWk.out.b0.cell 0
      by_cases hin : (t : Int) ∈ xs
      · rw [show decide ((t : Int) ∈ xs) = true by simpa using hin] at HCT
        have HQ := Lib.hid (fun wx (hb : Below wr.heap.size wr wx) => refsAt_any A n c zs wx (by unfold maxLen; omega) HWk.out.af.hnc (HWk.out.next hb).af.arena H0.out hmem)
        have hq256 : (namesOf zs t).length ≤ 256 := by
          have h1 : (namesOf zs t).length ≤ (named zs t).length := List.length_filter_le _ _
          have h2 : (named zs t).length ≤ zs.length := by unfold named refWords; rw [List.length_map, List.length_take, List.length_drop]; omega
          omega
        have HKW := Lib.hid (fun wx (hb : Below wr.heap.size wr wx) (A6 : Option Addr) c6 hA6 => keepWithin_any A6 X (namesOf zs t).length c6 nx cx (namesOf zs t) xs wx (by unfold maxLen; omega) (by unfold maxLen; omega) hA6 (HXk.out.later hb))
        have HIN := Lib.hid hin
        have HBL := Lib.hid (And.intro HBXk.out.lt HWk.out.b0.lt)
        clear hcs ht hmem hin HP
        obtain ⟨q, hq⟩ : ∃ q, (namesOf zs t).length = q := ⟨_, rfl⟩
        rw [hq] at HQ HKW
        clear hq hq256
        have bw := below_drewN (Below.refl wr.heap.size wr) 1
        have HCT1 := Lib.hid (HCT.out (wr.drewN 1) bw)
        have HQ1 := Lib.hid (HQ.out (wr.drewN 1) bw)
        clear HCT HQ bw
        go_wp2_with fail
        go_region_held3 (fun w' => w'.cell? ⟨w.heap.size, 0, none⟩ = some (.slice X nx cx) ∧ w'.cell? ⟨g, 0, none⟩ = some (.slice A n c))
          (first
            | exact ⟨z0, z1⟩
            | exact ⟨y0, y1⟩
            | exact ⟨x0, x1⟩
            | go_keep)
          (first
            | (go_at_call 22; refine (HKW.out w6 b6 A6 c6 hA6).mono ?_; rintro e w7 ⟨rfl, b7⟩; have z0 := (b7.cell (p := ⟨w.heap.size, 0, none⟩) (Nat.lt_of_lt_of_le HBL.out.1 b6.size)).trans y0; have z1 := (b7.cell (p := ⟨g, 0, none⟩) (Nat.lt_of_lt_of_le HBL.out.2 b6.size)).trans y1)
            | (go_at_call 23; refine HQ1.out.mono ?_; rintro e w6 ⟨A6, c6, rfl, b6, hA6⟩; have b6 : Below wr.heap.size wr w6 := below_of_drew b6; have y0 := (b6.cell (p := ⟨w.heap.size, 0, none⟩) HBL.out.1).trans x0; have y1 := (b6.cell (p := ⟨g, 0, none⟩) HBL.out.2).trans x1)
            | (go_at_call 21; refine HCT1.out.mono ?_; rintro e w9 ⟨rfl, rfl⟩))
        rename_i hHeld
        have HB7 := Lib.hid (bthen HBk.out (bthen b6 b7))
        clear hHeld y0 y1 z0 z1 b6 b7 hA6 x0 x1 HCT1 HQ1 HKW HXk HBXk HWk
        cases hv : inAll (namesOf zs t) xs
        · have HF := Lib.hid (HNB.out HIN.out hv)
          have HBZ := Lib.hid (bthen HB5.out HB7.out)
          clear hv HPN HNB
          go_wp2
          go_ret
          exact ⟨by rw [HF.out]; rfl, HBZ.out⟩
        · have HPM := Lib.hid (HPN.out fun _ => hv)
          clear hv HPN HNB
          go_wp2
          go_roundw
          case rel => exact ⟨k + 1, by omega, by go_num, HPM.out, HB7⟩
          case measure => simp [intOf]; omega
      · rw [show decide ((t : Int) ∈ xs) = false by simpa using hin] at HCT
        have HPM := Lib.hid (HPN.out fun h => absurd h hin)
        clear hcs ht hmem hin HP HPN HNB
        have HCT1 := Lib.hid (HCT.out (wr.drewN 1) (below_drewN (Below.refl wr.heap.size wr) 1))
        have HBN := Lib.hid (below_drewN HBk.out 1)
        clear HCT
        go_wp2_with fail
        refine wp_region_still_lit (by kernel_rfl) (by kernel_rfl) ?_
        iterate 2 still_step
        still_call (HCT1.out.mono fun _ _ h => ⟨h.1, h.2.symm⟩)
        iterate 8 still_step
        refine wpStill_nil ?_
        go_wp2
        go_roundw
        case rel => exact ⟨k + 1, by omega, by go_num, HPM.out, HBN⟩
        case measure => simp [intOf]; omega
    · obtain rfl : ln = k := by omega
      have HNT : Hid (nameB zs xs = true) := nameB_iff.2 (by rw [HLN.out]; exact HP.out)
      have x0 : wr.cell? ⟨w.heap.size, 0, none⟩ = some (.slice X nx cx) := HBXk.out.cell 0
      have x1 : wr.cell? ⟨g + 1, 0, none⟩ = some (.slice F nf cf) := HWk.out.b1.cell 0
      have x2 : wr.cell? ⟨g + 2, 0, none⟩ = some (.slice P np cp) := HWk.out.b2.cell 0
      have HW1 := Lib.hid (keepWithin_any F X nf cf nx cx fr xs wr (by unfold maxLen; omega) (by unfold maxLen; omega) HWk.out.af.from_ HXk.out)
      have HBZ := Lib.hid (bthen HB5.out HBk.out)
      have HPX : Hid (∀ wx, Below wr.heap.size wr wx → Calls Try.prog 24 #[.slice P np cp, .func (.func 25) #[] #[.pointer (some ⟨w.heap.size, 0, none⟩)]] wx fun e w' => e = .returned (.bool (pairB ps xs)) ∧ Below wx.heap.size wx w') := fun wx hb =>
        containsFaintC P np cp _ 25 #[.pointer (some ⟨w.heap.size, 0, none⟩)] ps (fun p => decide (p.1 ∈ xs) && !decide (p.2 ∈ xs)) wx (by unfold maxLen; omega) (Nat.le_refl _) (HWk.out.next hb).pi.row Try.call25
          (fun wy hy p _ => pairOut_any X nx cx w.heap.size xs p.1 p.2 wy (by unfold maxLen; omega) (HXk.out.later (bthen hb hy)) (Nat.lt_of_lt_of_le HBXk.out.lt (bthen hb hy).size) ((HBXk.out.below (bthen hb hy) HBXk.out.lt).cell 0))
      have HCB : Hid (closedB zs fr ps xs = (inAll fr xs && !pairB ps xs)) := by show _ = _; unfold closedB; rw [HNT.out]; rfl
      have hbl2 := HWk.out.b2.lt
      clear HP HNT HXk HBXk HWk
      cases hi : inAll fr xs
      · rw [hi] at HW1 HCB
        clear hi HPX
        go_wp2_with fail
        refine HW1.out.mono ?_
        rintro e w6 ⟨rfl, b6⟩
        have HB6 := Lib.hid (bthen HBZ.out b6)
        clear b6 x0 x1 x2
        go_wp2
        go_ret
        exact ⟨by rw [HCB.out]; rfl, HB6.out⟩
      · rw [hi] at HW1 HCB
        clear hi
        go_wp2_with fail
        refine HW1.out.mono ?_
        rintro e w6 ⟨rfl, b6⟩
        have HB6 := Lib.hid (bthen HBZ.out b6)
        have HPY := Lib.hid (HPX.out w6 b6)
        have y2 := (b6.cell (p := ⟨g + 2, 0, none⟩) hbl2).trans x2
        clear b6 x0 x1 x2 HPX
        generalize pairB ps xs = V at *
        go_wp2_with fail
        refine HPY.out.mono ?_
        rintro e w7 ⟨rfl, b7⟩
        have HB7 := Lib.hid (bthen HB6.out b7)
        clear b7 y2
        go_wp2
        go_ret
        exact ⟨by rw [HCB.out]; rfl, HB7.out⟩
end Go.Proofs.Ytdglnbcliemafaa
