/-
  The walk of YoungKeeps, given what Keep and Grow answer: whatever the arguments and the memory, the call returns true and changes nothing that was there.
-/
import Derived.Test.YthdnfocemchgjaaGreatYoungN
import Derived.Test.YthdnfocemchgjaaGreatYoungK
import Derived.Test.YthdnfocemchgjaaGreatYoungTW
import Derived.Test.YthdnfocemchgjaaGreatYoungI
import Derived.Test.YthdnfocemchgjaaGreatPinOJ
import Derived.Test.YthdnfocemchgjaaGreatCloneJ
import Derived.Test.YthdnfocemchgjaaGreatIntCat
import Derived.Test.YthdnfocemchgjaaGreatRefGap
namespace Go.Proofs.YthdnfocemchgjaaGreat
open Go.RowKit

theorem newO_rising {zs os ns fr : List Int} (h : AgesOk zs os ns) : risingTo (os ++ keptL zs os ns fr) 256 = newO zs os ns fr := by
  refine rise_ext (risingTo_rises _ _) newO_rise fun x => ?_
  rw [risingTo_mem, newO_mem, List.mem_append]
  constructor
  · rintro ⟨hx, _⟩
    refine ⟨?_, hx⟩
    rcases hx with hx | hx
    · exact h.ol x hx
    · exact (List.mem_filter.1 hx).1
  · rintro ⟨hl, hx⟩
    have := lives_fit h.arena x hl
    exact ⟨hx, by omega, by omega⟩

/-- What holds in the middle of the region that makes the ages to compare with. -/
structure GrJ (W : World) (gA : Nat) (A G R : Option Addr) (n c ng cg m rc : Nat) (zs g l : List Int) (listed : Array Bool) (v11 v68 v69 v70 v71 v72 v73 v74 v75 v76 v77 : Value) (w : World) : Prop where
  below : Below W.heap.size W w
  l0 : listed.getD 0 false = true → v68 = .pointer (some ⟨gA, 0, none⟩)
  l1 : listed.getD 1 false = true → v69 = .slice A n c
  l2 : listed.getD 2 false = true → ∃ D dc, v70 = .slice D n dc ∧ Arr .u64 w w.heap.size D n zs
  l3 : listed.getD 3 false = true → v71 = .pointer (some ⟨gA, 1, none⟩)
  l4 : listed.getD 4 false = true → v72 = .slice G ng cg
  l5 : listed.getD 5 false = true → v73 = .slice R m rc
  l6 : listed.getD 6 false = true → ∃ g6, v74 = .slice (some ⟨g6, 0, none⟩) 2 2 ∧ Box w g6 23 #[.slice G ng cg, .slice R m rc]
  l7 : listed.getD 7 false = true → ∃ D dc, v75 = .slice D (ng + m) dc ∧ Arr .i64 w w.heap.size D (ng + m) (g ++ l)
  l8 : listed.getD 8 false = true → ∃ D dc, v76 = .slice D (risingTo (g ++ l) 256).length dc ∧ Arr .i64 w w.heap.size D (risingTo (g ++ l) 256).length (risingTo (g ++ l) 256)
  l9 : listed.getD 9 false = true → ∃ D dc E ec, v77 = .agg #[.slice D n dc, .slice E (risingTo (g ++ l) 256).length ec, .slice none 0 0] ∧ Arr .u64 w w.heap.size D n zs ∧ Arr .i64 w w.heap.size E (risingTo (g ++ l) 256).length (risingTo (g ++ l) 256)
  l10 : listed.getD 10 false = true → ∃ g', v11 = .pointer (some ⟨g', 0, none⟩) ∧ W.heap.size ≤ g' ∧ Box w g' 25 #[.slice none 0 0, .slice none 0 0, .slice none 0 0]
/-- What holds at its end. -/
def GrE (W : World) (n : Nat) (zs g l : List Int) (v11 : Value) (w : World) : Prop :=
  Below W.heap.size W w ∧ ∃ g' D dc E ec, v11 = .pointer (some ⟨g', 0, none⟩) ∧ W.heap.size ≤ g' ∧ Box w g' 25 #[.slice D n dc, .slice E (risingTo (g ++ l) 256).length ec, .slice none 0 0] ∧ Arr .u64 w w.heap.size D n zs ∧ Arr .i64 w w.heap.size E (risingTo (g ++ l) 256).length (risingTo (g ++ l) 256)
def GrX (W : World) (gA : Nat) (A G R : Option Addr) (n c ng cg m rc : Nat) (zs g l : List Int) (listed : Array Bool) (v11 v68 v69 v70 v71 v72 v73 v74 v75 v76 v77 : Value) (w : World) : Prop :=
  listed.size = 12 ∧ ((listed.getD 11 false = false ∧ GrJ W gA A G R n c ng cg m rc zs g l listed v11 v68 v69 v70 v71 v72 v73 v74 v75 v76 v77 w) ∨ ((∀ j, j < 12 → listed.getD j true = true) ∧ GrE W n zs g l v11 w))
theorem GrJ.later {W w w' : World} {gA : Nat} {A G R : Option Addr} {n c ng cg m rc : Nat} {zs g l : List Int} {listed : Array Bool} {v11 v68 v69 v70 v71 v72 v73 v74 v75 v76 v77 : Value} (h : GrJ W gA A G R n c ng cg m rc zs g l listed v11 v68 v69 v70 v71 v72 v73 v74 v75 v76 v77 w) (hb : Below w.heap.size w w') : GrJ W gA A G R n c ng cg m rc zs g l listed v11 v68 v69 v70 v71 v72 v73 v74 v75 v76 v77 w' :=
  ⟨h.below.trans (hb.mono h.below.size), h.l0, h.l1, fun q => let ⟨D, dc, e, a⟩ := h.l2 q; ⟨D, dc, e, a.later hb⟩, h.l3, h.l4, h.l5, fun q => let ⟨g6, e, b⟩ := h.l6 q; ⟨g6, e, b.below hb b.lt⟩,
    fun q => let ⟨D, dc, e, a⟩ := h.l7 q; ⟨D, dc, e, a.later hb⟩, fun q => let ⟨D, dc, e, a⟩ := h.l8 q; ⟨D, dc, e, a.later hb⟩, fun q => let ⟨D, dc, E, ec, e, a, b⟩ := h.l9 q; ⟨D, dc, E, ec, e, a.later hb, b.later hb⟩,
    fun q => let ⟨g', e, a, b⟩ := h.l10 q; ⟨g', e, a, b.below hb b.lt⟩⟩
theorem GrX.start {W : World} {gA : Nat} {A G R : Option Addr} {n c ng cg m rc : Nat} {zs g l : List Int} {v11 v68 v69 v70 v71 v72 v73 v74 v75 v76 v77 : Value} : GrX W gA A G R n c ng cg m rc zs g l (Array.replicate 12 false) v11 v68 v69 v70 v71 v72 v73 v74 v75 v76 v77 W.drew :=
  ⟨by simp, .inl ⟨by simp [Array.getD], below_drewN (Below.refl _ W) 1, by simp [Array.getD], by simp [Array.getD], by simp [Array.getD], by simp [Array.getD], by simp [Array.getD], by simp [Array.getD], by simp [Array.getD], by simp [Array.getD], by simp [Array.getD], by simp [Array.getD], by simp [Array.getD]⟩⟩
theorem up_false {listed : Array Bool} {a q : Nat} (h : listed.getD q false = false) (hne : q ≠ a) : (listed.setIfInBounds a true).getD q false = false := by
  cases hv : (listed.setIfInBounds a true).getD q false
  · rfl
  · rcases listed_or hv with e | e
    · exact absurd e hne
    · rw [h] at e; cases e

/-- What holds in the middle of the region that frees an object. -/
structure RgJ (W : World) (g' gH : Nat) (D : Option Addr) (n dc t L : Nat) (VR VB VT : Int) (ys : List Int) (listed : Array Bool) (v98 v99 v100 v101 v102 v103 v104 : Value) (w : World) : Prop where
  below : Below W.heap.size W w
  l0 : listed.getD 0 false = true → v98 = .pointer (some ⟨g', 0, none⟩)
  l1 : listed.getD 1 false = true → v99 = .slice D n dc
  l2 : listed.getD 2 false = true → v100 = .int .i64 t
  l3 : listed.getD 3 false = true → v101 = .agg #[.int .i64 VR, .int .i64 VB, .int .i64 VT, .bool false]
  l4 : listed.getD 4 false = true → v102 = .int .i64 (L : Int)
  l5 : listed.getD 5 false = true → ∃ D' dc', v103 = .slice D' n dc' ∧ Arr .u64 w w.heap.size D' n ys
  l6 : listed.getD 6 false = true → v104 = .pointer (some ⟨g', 0, none⟩)
def RgX (W : World) (g' gH : Nat) (D : Option Addr) (n dc t L : Nat) (VR VB VT : Int) (ys : List Int) (listed : Array Bool) (v98 v99 v100 v101 v102 v103 v104 : Value) (w : World) : Prop :=
  listed.size = 8 ∧ ((listed.getD 7 false = false ∧ RgJ W g' gH D n dc t L VR VB VT ys listed v98 v99 v100 v101 v102 v103 v104 w) ∨ ((∀ j, j < 8 → listed.getD j true = true) ∧ ∃ W' D' dc', Below W.heap.size W W' ∧ Arr .u64 W' W'.heap.size D' n ys ∧ w = W'.setCell ⟨g', 0, none⟩ (.slice D' n dc')))
theorem RgJ.later {W : World} {g' gH : Nat} {D : Option Addr} {n dc t L : Nat} {VR VB VT : Int} {ys : List Int} {w w' : World} {listed : Array Bool} {v98 v99 v100 v101 v102 v103 v104 : Value} (h : RgJ W g' gH D n dc t L VR VB VT ys listed v98 v99 v100 v101 v102 v103 v104 w) (hb : Below w.heap.size w w') : RgJ W g' gH D n dc t L VR VB VT ys listed v98 v99 v100 v101 v102 v103 v104 w' :=
  ⟨h.below.trans (hb.mono h.below.size), h.l0, h.l1, h.l2, h.l3, h.l4, fun q => let ⟨D, dc, e, a⟩ := h.l5 q; ⟨D, dc, e, a.later hb⟩, h.l6⟩
theorem RgX.start {W : World} {g' gH : Nat} {D : Option Addr} {n dc t L : Nat} {VR VB VT : Int} {ys : List Int} {v98 v99 v100 v101 v102 v103 v104 : Value} : RgX W g' gH D n dc t L VR VB VT ys (Array.replicate 8 false) v98 v99 v100 v101 v102 v103 v104 W.drew :=
  ⟨by simp, .inl ⟨by simp [Array.getD], below_drewN (Below.refl _ W) 1, by simp [Array.getD], by simp [Array.getD], by simp [Array.getD], by simp [Array.getD], by simp [Array.getD], by simp [Array.getD], by simp [Array.getD]⟩⟩

set_option maxRecDepth 32000 in
set_option maxHeartbeats 8000000 in
theorem youngKeeps_of (hKP : YKeepC) (hGR : YGrowC) (A G K F : Option Addr) (n c ng cg nb cb nf cf : Nat) (zs g b fr : List Int) (w : World) (h : AgesIn w A G K n c ng cg nb cb zs g b) (hnf : nf * 8 ≤ 140737488351232) (hfr : Arr .i64 w w.heap.size F nf fr) :
    Calls Tryz.prog 3 #[.agg #[.slice A n c, .slice G ng cg, .slice K nb cb], .slice F nf cf] w fun e w' => e = .returned (.bool true) ∧ Below w.heap.size w w' := by
  have b1 := (Below.refl _ w).alloc (Nat.le_refl _) (.cells #[.slice A n c, .slice G ng cg, .slice K nb cb] 25)
  have HX1 := Lib.hid (Box.new w 25 #[.slice A n c, .slice G ng cg, .slice K nb cb])
  have HB1 := Lib.hid b1
  have HT1 := Lib.hid (h.next b1)
  have HF := Lib.hid hfr
  have HNF := Lib.hid (show nf ≤ maxLen by unfold maxLen; omega)
  have HNS := Lib.hid hnf
  have HZ := Lib.hid h.tri.arena.2.1
  clear b1 h hfr hnf
  go_enter Tryz.func3, Tryz.ntmps3
  go_wp2_with fail
  generalize (w.alloc (.cells #[.slice A n c, .slice G ng cg, .slice K nb cb] 25)) = w1 at *
  have a0 : w1.cell? ⟨w.heap.size, 0, none⟩ = some (.slice A n c) := HX1.out.cell 0
  have a1 : w1.cell? ⟨w.heap.size, 1, none⟩ = some (.slice G ng cg) := HX1.out.cell 1
  have a2 : w1.cell? ⟨w.heap.size, 2, none⟩ = some (.slice K nb cb) := HX1.out.cell 2
  have HS := Lib.hid (hKP A G K F n c ng cg nb cb nf cf zs g b fr w1 HT1.out HNS.out (HF.out.later HB1.out))
  unfold YKeepP at HS
  go_wp2_with fail
  refine HS.out.mono ?_
  rintro e w2 ⟨Q, m, qc, rfl, b2, hmc, hQ⟩
  have HX2 := Lib.hid (HX1.out.below b2 HX1.out.lt)
  have HB2 := Lib.hid (bthen HB1.out b2)
  have HT2 := Lib.hid (HT1.out.next b2)
  have HQ := Lib.hid hQ
  clear a0 a1 a2 b2 hQ HS HX1 HB1 HT1 hKP
  have a0 : w2.cell? ⟨w.heap.size, 0, none⟩ = some (.slice A n c) := HX2.out.cell 0
  have a1 : w2.cell? ⟨w.heap.size, 1, none⟩ = some (.slice G ng cg) := HX2.out.cell 1
  have a2 : w2.cell? ⟨w.heap.size, 2, none⟩ = some (.slice K nb cb) := HX2.out.cell 2
  have HS := Lib.hid (hGR A G K F n c ng cg nb cb nf cf zs g b fr w2 HT2.out HNS.out (HF.out.later HB2.out))
  unfold YGrowP at HS
  go_wp2_with fail
  refine HS.out.mono ?_
  rintro e w3 ⟨A3, n3, c3, G3, g3, cg3, K3, k3, cb3, rfl, b3, hV⟩
  have b4 := (Below.refl _ w3).alloc (Nat.le_refl _) (.cells #[.slice A3 n3 c3, .slice G3 g3 cg3, .slice K3 k3 cb3] 25)
  have HI := Lib.hid (show YtI w w3.heap.size A G K n c ng cg nb cb zs g b A3 G3 K3 n3 c3 g3 cg3 k3 cb3 (w3.alloc (.cells #[.slice A3 n3 c3, .slice G3 g3 cg3, .slice K3 k3 cb3] 25)) from
    ⟨bthen (bthen HB2.out b3) b4, (HX2.out.below b3 HX2.out.lt).below b4 (by have := HX2.out.lt; have := b3.size; omega), Box.new w3 25 #[.slice A3 n3 c3, .slice G3 g3 cg3, .slice K3 k3 cb3], (HT2.out.tri.next b3).next b4⟩)
  have HV := Lib.hid (hV.in_.tri.next b4)
  have HQ := Lib.hid ((HQ.out.later b3).later b4)
  clear a0 a1 a2 b3 b4 hV HS HB2 HX2 HT2 hGR
  obtain ⟨a0, a1, a2⟩ := HI.out.acells
  have HS := Lib.hid (agesFault_any A G K n c ng cg nb cb zs g b (w3.alloc (.cells #[.slice A3 n3 c3, .slice G3 g3 cg3, .slice K3 k3 cb3] 25)) HI.out.tri)
  go_wp2_with fail
  refine HS.out.mono ?_
  rintro e w5 ⟨rfl, b5⟩
  clear a0 a1 a2 HS
  generalize (w3.alloc (.cells #[.slice A3 n3 c3, .slice G3 g3 cg3, .slice K3 k3 cb3] 25)) = w4 at *
  have HI := Lib.hid (HI.out.next b5)
  have HV := Lib.hid (HV.out.next b5)
  have HQ := Lib.hid (HQ.out.later b5)
  clear b5
  generalize w3.heap.size = gX at *
  by_cases h0 : agesE zs g b = 0
  · have HOK := Lib.hid (agesE_zero.1 h0)
    have hke := keepE_ok (fr := fr) h0
    rw [hke, h0]
    have H0 := Lib.hid h0
    clear h0
    have b6 := (Below.refl _ w5).alloc (Nat.le_refl _) (.cells #[.slice F nf cf] 23)
    have B6 := Box.new w5 23 #[.slice F nf cf]
    obtain ⟨a0, a1, a2⟩ := HI.out.acells
    have HI6 := Lib.hid (HI.out.next b6)
    have HC := Lib.hid (fromFault_any A F n c nf cf w5.heap.size zs fr (w5.alloc (.cells #[.slice F nf cf] 23)) HI6.out.tri.hn HI6.out.tri.arena HNF.out (HF.out.later HI6.out.below) B6.lt (B6.cell 0))
    have HV6 := Lib.hid (HV.out.next b6)
    have HQ6 := Lib.hid (HQ.out.later b6)
    clear b6 B6 HI HV HQ
    go_wp2_with fail
    refine HC.out.mono ?_
    rintro e w7 ⟨rfl, b7⟩
    have HI := Lib.hid (HI6.out.next b7)
    have HV := Lib.hid (HV6.out.next b7)
    have HQ := Lib.hid (HQ6.out.later b7)
    clear b7 HC HI6 HV6 HQ6 a0 a1 a2
    by_cases h1 : fromE zs fr = 0
    · have HFL := Lib.hid (fromE_zero h1).2
      have hk : keepE zs g b fr = 0 := hke.trans h1
      have HV := Lib.hid (show TriIn w7 A3 G3 K3 n3 c3 g3 k3 (growL zs (newO zs g b fr)) (newO zs g b fr) [] by have := HV.out; rwa [growT_ok hk] at this)
      have HQ := Lib.hid (show Arr .i64 w7 w7.heap.size Q m (keptL zs g b fr) by have := HQ.out; rwa [keepO_ok hk] at this)
      rw [h1]
      clear h1 hk hke
      obtain ⟨a0, a1, a2⟩ := HI.out.acells
      have HC := Lib.hid (keptYoung_any A G K F n c ng cg nb cb nf cf zs g b fr w7 HI.out.tri HOK.out HNF.out (HF.out.later HI.out.below) HFL.out)
      go_wp2_with fail
      refine HC.out.mono ?_
      rintro e w8 ⟨R, rc, rfl, b8, hR⟩
      have HI := Lib.hid (HI.out.next b8)
      have HV := Lib.hid (HV.out.next b8)
      have HQ := Lib.hid (HQ.out.later b8)
      have hml : (keptL zs g b fr).length = m := HQ.out.1
      rw [hml] at hR ⊢
      have HR := Lib.hid hR
      have HML := Lib.hid hml
      have hm256 : m ≤ 256 := by
        have q2 := sub_length (rises_nodup (kept_rise (zs := zs) (os := g) (ns := b) (fr := fr))) (fun x hx => (List.mem_filter.1 hx).1)
        have q3 := lives_len (arena_len HOK.out.arena)
        omega
      have hg256 : ng ≤ 256 := by
        have q2 := sub_length (rises_nodup HOK.out.or_) HOK.out.ol
        have q3 := lives_len (arena_len HOK.out.arena)
        have q4 := HI.out.tri.grey.1
        omega
      clear b8 hR hml HC a0 a1 a2
      have HC := Lib.hid (equalInts Q R m m qc rc _ (keptL zs g b fr) (keptL zs g b fr) w8 HQ.out HR.out (by unfold maxLen; omega) (by unfold maxLen; omega))
      rw [show decide (keptL zs g b fr = keptL zs g b fr) = true by simp] at HC
      obtain ⟨a0, a1, a2⟩ := HI.out.acells
      go_wp2_with fail
      refine HC.out.mono ?_
      rintro e w9 ⟨rfl, q9, rfl⟩
      have HI := Lib.hid (HI.out.next (wx' := w8.drewN q9) (below_drewN (Below.refl _ _) q9))
      have HV : Hid (TriIn (w8.drewN q9) A3 G3 K3 n3 c3 g3 k3 (growL zs (newO zs g b fr)) (newO zs g b fr) []) := HV.out.next (below_drewN (Below.refl _ _) q9)
      have HR : Hid (Arr .i64 (w8.drewN q9) (w8.drewN q9).heap.size R m (keptL zs g b fr)) := HR.out.later (below_drewN (Below.refl _ _) q9)
      clear HC HQ a0 a1 a2
      generalize w8.drewN q9 = w9 at *
      obtain ⟨a0, a1, a2⟩ := HI.out.acells
      go_wp2_with fail
      have hn256 : n ≤ 256 := by have := arena_len HOK.out.arena; have := HI.out.tri.arena.1; omega
      refine wp_region_inv (fun listed a' w' => ∃ v11 v68 v69 v70 v71 v72 v73 v74 v75 v76 v77, a' = { tmps := #[.agg #[.slice A n c, .slice G ng cg, .slice K nb cb], .slice F nf cf, .pointer (some ⟨w.heap.size, 0, none⟩), undef, .bool false, .slice Q m qc, .int .i64 0, .pointer (some ⟨gX, 0, none⟩), .int .i64 0, .int .i64 0, .slice R m rc, v11, undef, undef, undef, undef, .tuple #[.slice Q m qc, .int .i64 0], .agg #[.slice A n c, .slice G ng cg, .slice K nb cb], .slice F nf cf, .tuple #[.slice Q m qc, .int .i64 0], .slice Q m qc, .int .i64 0, .tuple #[.agg #[.slice A3 n3 c3, .slice G3 g3 cg3, .slice K3 k3 cb3], .int .i64 0], .agg #[.slice A n c, .slice G ng cg, .slice K nb cb], .slice F nf cf, .tuple #[.agg #[.slice A3 n3 c3, .slice G3 g3 cg3, .slice K3 k3 cb3], .int .i64 0], .agg #[.slice A3 n3 c3, .slice G3 g3 cg3, .slice K3 k3 cb3], .int .i64 0, .agg #[.slice A n c, .slice G ng cg, .slice K nb cb], .int .i64 0, .int .i64 0, .bool true, .pointer (some ⟨w.heap.size, 0, none⟩), .slice A n c, .slice F nf cf, .slice (some ⟨w5.heap.size, 0, none⟩) 1 1, .int .i64 0, .int .i64 0, .bool false, undef, undef, undef, undef, undef, undef, undef, undef, undef, undef, undef, undef, undef, undef, undef, undef, undef, undef, .agg #[.slice A n c, .slice G ng cg, .slice K nb cb], .slice F nf cf, .slice R m rc, .int .i64 0, .bool false, .bool false, .slice Q m qc, .slice R m rc, .bool true, .bool false, .bool false, v68, v69, v70, v71, v72, v73, v74, v75, v76, v77, undef, undef, undef, undef, undef, undef, undef, undef, undef, undef, undef, undef, undef, undef, undef, undef, undef, undef, undef, undef, undef, undef, undef, undef, undef, undef, undef, undef, undef, undef, undef, undef, undef, undef, undef], defers := [] } ∧ GrX w9 w.heap.size A G R n c ng cg m rc zs g (keptL zs g b fr) listed v11 v68 v69 v70 v71 v72 v73 v74 v75 v76 v77 w') (by kernel_rfl) ⟨_, _, _, _, _, _, _, _, _, _, _, rfl, GrX.start⟩ ?_ ?_
      · rintro listed a' w' ⟨v11, v68, v69, v70, v71, v72, v73, v74, v75, v76, v77, rfl, hsz, hJ⟩ i hi
        obtain ⟨hun, o, ho, hd⟩ := mem_ready.1 hi
        have hi12 : i < 12 := (Array.getElem?_eq_some_iff.1 ho).1
        rcases hJ with ⟨h11, hJ⟩ | ⟨hall, _⟩
        · rcases (by omega : i = 0 ∨ i = 1 ∨ i = 2 ∨ i = 3 ∨ i = 4 ∨ i = 5 ∨ i = 6 ∨ i = 7 ∨ i = 8 ∨ i = 9 ∨ i = 10 ∨ i = 11) with rfl | rfl | rfl | rfl | rfl | rfl | rfl | rfl | rfl | rfl | rfl | rfl
          · refine wpOp_step rfl fun K' hK => ?_
            go_simp
            exact hK _ _ ⟨_, _, _, _, _, _, _, _, _, _, _, rfl, ⟨by simpa using hsz, .inl ⟨up_false h11 (by omega), ⟨hJ.below, (fun _ => rfl), (fun q => hJ.l1 ((listed_or q).resolve_left (by omega))), (fun q => hJ.l2 ((listed_or q).resolve_left (by omega))), (fun q => hJ.l3 ((listed_or q).resolve_left (by omega))), (fun q => hJ.l4 ((listed_or q).resolve_left (by omega))), (fun q => hJ.l5 ((listed_or q).resolve_left (by omega))), (fun q => hJ.l6 ((listed_or q).resolve_left (by omega))), (fun q => hJ.l7 ((listed_or q).resolve_left (by omega))), (fun q => hJ.l8 ((listed_or q).resolve_left (by omega))), (fun q => hJ.l9 ((listed_or q).resolve_left (by omega))), (fun q => hJ.l10 ((listed_or q).resolve_left (by omega)))⟩⟩⟩⟩
          · have d0 := hd ⟨0, .data⟩ (by obtain rfl := Option.some.inj ho; simp) rfl
            have e0 := hJ.l0 d0
            subst e0
            have q := (hJ.below.cell (p := ⟨w.heap.size, 0, none⟩) HI.out.arg.lt).trans a0
            refine wpOp_step rfl fun K' hK => ?_
            go_simp
            exact hK _ _ ⟨_, _, _, _, _, _, _, _, _, _, _, rfl, ⟨by simpa using hsz, .inl ⟨up_false h11 (by omega), ⟨hJ.below, (fun q => hJ.l0 ((listed_or q).resolve_left (by omega))), (fun _ => rfl), (fun q => hJ.l2 ((listed_or q).resolve_left (by omega))), (fun q => hJ.l3 ((listed_or q).resolve_left (by omega))), (fun q => hJ.l4 ((listed_or q).resolve_left (by omega))), (fun q => hJ.l5 ((listed_or q).resolve_left (by omega))), (fun q => hJ.l6 ((listed_or q).resolve_left (by omega))), (fun q => hJ.l7 ((listed_or q).resolve_left (by omega))), (fun q => hJ.l8 ((listed_or q).resolve_left (by omega))), (fun q => hJ.l9 ((listed_or q).resolve_left (by omega))), (fun q => hJ.l10 ((listed_or q).resolve_left (by omega)))⟩⟩⟩⟩
          · have d1 := hd ⟨1, .data⟩ (by obtain rfl := Option.some.inj ho; simp) rfl
            have e0 := hJ.l1 d1
            subst e0
            have HK := Lib.hid (refClone_any A n c zs w' hn256 (HI.out.tri.arena.later hJ.below))
            unfold Cloned at HK
            refine wpOp_step rfl fun K' hK => ?_
            go_simp
            refine HK.out.mono ?_
            rintro e wy ⟨D, dc, rfl, hO, by_⟩
            have hO : Arr .u64 wy wy.heap.size D n zs := by
              obtain ⟨D', dc', e1, _, h1⟩ := hO.arr
              injection e1 with e1 e2 _
              rw [e1, e2]; exact h1
            have hJ := hJ.later by_
            exact hK _ _ ⟨_, _, _, _, _, _, _, _, _, _, _, rfl, ⟨by simpa using hsz, .inl ⟨up_false h11 (by omega), ⟨hJ.below, (fun q => hJ.l0 ((listed_or q).resolve_left (by omega))), (fun q => hJ.l1 ((listed_or q).resolve_left (by omega))), (fun _ => ⟨D, dc, rfl, hO⟩), (fun q => hJ.l3 ((listed_or q).resolve_left (by omega))), (fun q => hJ.l4 ((listed_or q).resolve_left (by omega))), (fun q => hJ.l5 ((listed_or q).resolve_left (by omega))), (fun q => hJ.l6 ((listed_or q).resolve_left (by omega))), (fun q => hJ.l7 ((listed_or q).resolve_left (by omega))), (fun q => hJ.l8 ((listed_or q).resolve_left (by omega))), (fun q => hJ.l9 ((listed_or q).resolve_left (by omega))), (fun q => hJ.l10 ((listed_or q).resolve_left (by omega)))⟩⟩⟩⟩
          · refine wpOp_step rfl fun K' hK => ?_
            go_simp
            exact hK _ _ ⟨_, _, _, _, _, _, _, _, _, _, _, rfl, ⟨by simpa using hsz, .inl ⟨up_false h11 (by omega), ⟨hJ.below, (fun q => hJ.l0 ((listed_or q).resolve_left (by omega))), (fun q => hJ.l1 ((listed_or q).resolve_left (by omega))), (fun q => hJ.l2 ((listed_or q).resolve_left (by omega))), (fun _ => rfl), (fun q => hJ.l4 ((listed_or q).resolve_left (by omega))), (fun q => hJ.l5 ((listed_or q).resolve_left (by omega))), (fun q => hJ.l6 ((listed_or q).resolve_left (by omega))), (fun q => hJ.l7 ((listed_or q).resolve_left (by omega))), (fun q => hJ.l8 ((listed_or q).resolve_left (by omega))), (fun q => hJ.l9 ((listed_or q).resolve_left (by omega))), (fun q => hJ.l10 ((listed_or q).resolve_left (by omega)))⟩⟩⟩⟩
          · have d3 := hd ⟨3, .data⟩ (by obtain rfl := Option.some.inj ho; simp) rfl
            have e0 := hJ.l3 d3
            subst e0
            have q := (hJ.below.cell (p := ⟨w.heap.size, 1, none⟩) HI.out.arg.lt).trans a1
            refine wpOp_step rfl fun K' hK => ?_
            go_simp
            exact hK _ _ ⟨_, _, _, _, _, _, _, _, _, _, _, rfl, ⟨by simpa using hsz, .inl ⟨up_false h11 (by omega), ⟨hJ.below, (fun q => hJ.l0 ((listed_or q).resolve_left (by omega))), (fun q => hJ.l1 ((listed_or q).resolve_left (by omega))), (fun q => hJ.l2 ((listed_or q).resolve_left (by omega))), (fun q => hJ.l3 ((listed_or q).resolve_left (by omega))), (fun _ => rfl), (fun q => hJ.l5 ((listed_or q).resolve_left (by omega))), (fun q => hJ.l6 ((listed_or q).resolve_left (by omega))), (fun q => hJ.l7 ((listed_or q).resolve_left (by omega))), (fun q => hJ.l8 ((listed_or q).resolve_left (by omega))), (fun q => hJ.l9 ((listed_or q).resolve_left (by omega))), (fun q => hJ.l10 ((listed_or q).resolve_left (by omega)))⟩⟩⟩⟩
          · refine wpOp_step rfl fun K' hK => ?_
            go_simp
            exact hK _ _ ⟨_, _, _, _, _, _, _, _, _, _, _, rfl, ⟨by simpa using hsz, .inl ⟨up_false h11 (by omega), ⟨hJ.below, (fun q => hJ.l0 ((listed_or q).resolve_left (by omega))), (fun q => hJ.l1 ((listed_or q).resolve_left (by omega))), (fun q => hJ.l2 ((listed_or q).resolve_left (by omega))), (fun q => hJ.l3 ((listed_or q).resolve_left (by omega))), (fun q => hJ.l4 ((listed_or q).resolve_left (by omega))), (fun _ => rfl), (fun q => hJ.l6 ((listed_or q).resolve_left (by omega))), (fun q => hJ.l7 ((listed_or q).resolve_left (by omega))), (fun q => hJ.l8 ((listed_or q).resolve_left (by omega))), (fun q => hJ.l9 ((listed_or q).resolve_left (by omega))), (fun q => hJ.l10 ((listed_or q).resolve_left (by omega)))⟩⟩⟩⟩
          · have d4 := hd ⟨4, .data⟩ (by obtain rfl := Option.some.inj ho; simp) rfl
            have d5 := hd ⟨5, .data⟩ (by obtain rfl := Option.some.inj ho; simp) rfl
            have e0 := hJ.l4 d4
            have e1 := hJ.l5 d5
            subst e0 e1
            refine wpOp_step rfl fun K' hK => ?_
            go_simp
            have hJ := hJ.later ((Below.refl _ w').alloc (Nat.le_refl _) (.cells #[.slice G ng cg, .slice R m rc] 23))
            exact hK _ _ ⟨_, _, _, _, _, _, _, _, _, _, _, rfl, ⟨by simpa using hsz, .inl ⟨up_false h11 (by omega), ⟨hJ.below, (fun q => hJ.l0 ((listed_or q).resolve_left (by omega))), (fun q => hJ.l1 ((listed_or q).resolve_left (by omega))), (fun q => hJ.l2 ((listed_or q).resolve_left (by omega))), (fun q => hJ.l3 ((listed_or q).resolve_left (by omega))), (fun q => hJ.l4 ((listed_or q).resolve_left (by omega))), (fun q => hJ.l5 ((listed_or q).resolve_left (by omega))), (fun _ => ⟨_, rfl, Box.new _ _ _⟩), (fun q => hJ.l7 ((listed_or q).resolve_left (by omega))), (fun q => hJ.l8 ((listed_or q).resolve_left (by omega))), (fun q => hJ.l9 ((listed_or q).resolve_left (by omega))), (fun q => hJ.l10 ((listed_or q).resolve_left (by omega)))⟩⟩⟩⟩
          · have d6 := hd ⟨6, .data⟩ (by obtain rfl := Option.some.inj ho; simp) rfl
            obtain ⟨g6, e0, B6⟩ := hJ.l6 d6
            subst e0
            have HK := Lib.hid (concat2 G R ng cg m rc g6 g (keptL zs g b fr) w' (by omega) B6.lt (HI.out.tri.grey.later hJ.below) (HR.out.later hJ.below) (B6.cell 0) (B6.cell 1))
            refine wpOp_step rfl fun K' hK => ?_
            go_simp
            refine HK.out.mono ?_
            rintro e wy ⟨D, dc, rfl, hO, by_⟩
            have hJ := hJ.later by_
            exact hK _ _ ⟨_, _, _, _, _, _, _, _, _, _, _, rfl, ⟨by simpa using hsz, .inl ⟨up_false h11 (by omega), ⟨hJ.below, (fun q => hJ.l0 ((listed_or q).resolve_left (by omega))), (fun q => hJ.l1 ((listed_or q).resolve_left (by omega))), (fun q => hJ.l2 ((listed_or q).resolve_left (by omega))), (fun q => hJ.l3 ((listed_or q).resolve_left (by omega))), (fun q => hJ.l4 ((listed_or q).resolve_left (by omega))), (fun q => hJ.l5 ((listed_or q).resolve_left (by omega))), (fun q => hJ.l6 ((listed_or q).resolve_left (by omega))), (fun _ => ⟨D, dc, rfl, hO⟩), (fun q => hJ.l8 ((listed_or q).resolve_left (by omega))), (fun q => hJ.l9 ((listed_or q).resolve_left (by omega))), (fun q => hJ.l10 ((listed_or q).resolve_left (by omega)))⟩⟩⟩⟩
          · have d7 := hd ⟨7, .data⟩ (by obtain rfl := Option.some.inj ho; simp) rfl
            obtain ⟨D7, c7, e0, hD7⟩ := hJ.l7 d7
            subst e0
            have HK := Lib.hid (rising_any D7 (ng + m) c7 (g ++ keptL zs g b fr) w' (by unfold maxLen; omega) hD7)
            refine wpOp_step rfl fun K' hK => ?_
            go_simp
            refine HK.out.mono ?_
            rintro e wy ⟨D, dc, rfl, by_, hO⟩
            have hJ := hJ.later by_
            exact hK _ _ ⟨_, _, _, _, _, _, _, _, _, _, _, rfl, ⟨by simpa using hsz, .inl ⟨up_false h11 (by omega), ⟨hJ.below, (fun q => hJ.l0 ((listed_or q).resolve_left (by omega))), (fun q => hJ.l1 ((listed_or q).resolve_left (by omega))), (fun q => hJ.l2 ((listed_or q).resolve_left (by omega))), (fun q => hJ.l3 ((listed_or q).resolve_left (by omega))), (fun q => hJ.l4 ((listed_or q).resolve_left (by omega))), (fun q => hJ.l5 ((listed_or q).resolve_left (by omega))), (fun q => hJ.l6 ((listed_or q).resolve_left (by omega))), (fun q => hJ.l7 ((listed_or q).resolve_left (by omega))), (fun _ => ⟨D, dc, rfl, hO⟩), (fun q => hJ.l9 ((listed_or q).resolve_left (by omega))), (fun q => hJ.l10 ((listed_or q).resolve_left (by omega)))⟩⟩⟩⟩
          · have d2 := hd ⟨2, .data⟩ (by obtain rfl := Option.some.inj ho; simp) rfl
            have d8 := hd ⟨8, .data⟩ (by obtain rfl := Option.some.inj ho; simp) rfl
            obtain ⟨D2, c2, e0, hD2⟩ := hJ.l2 d2
            obtain ⟨D8, c8, e1, hD8⟩ := hJ.l8 d8
            subst e0 e1
            refine wpOp_step rfl fun K' hK => ?_
            go_simp
            exact hK _ _ ⟨_, _, _, _, _, _, _, _, _, _, _, rfl, ⟨by simpa using hsz, .inl ⟨up_false h11 (by omega), ⟨hJ.below, (fun q => hJ.l0 ((listed_or q).resolve_left (by omega))), (fun q => hJ.l1 ((listed_or q).resolve_left (by omega))), (fun q => hJ.l2 ((listed_or q).resolve_left (by omega))), (fun q => hJ.l3 ((listed_or q).resolve_left (by omega))), (fun q => hJ.l4 ((listed_or q).resolve_left (by omega))), (fun q => hJ.l5 ((listed_or q).resolve_left (by omega))), (fun q => hJ.l6 ((listed_or q).resolve_left (by omega))), (fun q => hJ.l7 ((listed_or q).resolve_left (by omega))), (fun q => hJ.l8 ((listed_or q).resolve_left (by omega))), (fun _ => ⟨D2, c2, D8, c8, rfl, hD2, hD8⟩), (fun q => hJ.l10 ((listed_or q).resolve_left (by omega)))⟩⟩⟩⟩
          · refine wpOp_step rfl fun K' hK => ?_
            go_simp
            have hlow := hJ.below.size
            have hJ := hJ.later ((Below.refl _ w').alloc (Nat.le_refl _) (.cells #[.slice none 0 0, .slice none 0 0, .slice none 0 0] 25))
            exact hK _ _ ⟨_, _, _, _, _, _, _, _, _, _, _, rfl, ⟨by simpa using hsz, .inl ⟨up_false h11 (by omega), ⟨hJ.below, (fun q => hJ.l0 ((listed_or q).resolve_left (by omega))), (fun q => hJ.l1 ((listed_or q).resolve_left (by omega))), (fun q => hJ.l2 ((listed_or q).resolve_left (by omega))), (fun q => hJ.l3 ((listed_or q).resolve_left (by omega))), (fun q => hJ.l4 ((listed_or q).resolve_left (by omega))), (fun q => hJ.l5 ((listed_or q).resolve_left (by omega))), (fun q => hJ.l6 ((listed_or q).resolve_left (by omega))), (fun q => hJ.l7 ((listed_or q).resolve_left (by omega))), (fun q => hJ.l8 ((listed_or q).resolve_left (by omega))), (fun q => hJ.l9 ((listed_or q).resolve_left (by omega))), (fun _ => ⟨_, rfl, hlow, Box.new _ _ _⟩)⟩⟩⟩⟩
          · have d9 := hd ⟨9, .data⟩ (by obtain rfl := Option.some.inj ho; simp) rfl
            have d10 := hd ⟨10, .data⟩ (by obtain rfl := Option.some.inj ho; simp) rfl
            obtain ⟨D2, c2, D8, c8, e0, hD2, hD8⟩ := hJ.l9 d9
            obtain ⟨g', e1, hlow, BX⟩ := hJ.l10 d10
            subst e0 e1
            have r0 : w'.cell? ⟨g', 0, none⟩ = some (.slice none 0 0) := BX.cell 0
            have r1 : w'.cell? ⟨g', 1, none⟩ = some (.slice none 0 0) := BX.cell 1
            have r2 : w'.cell? ⟨g', 2, none⟩ = some (.slice none 0 0) := BX.cell 2
            have s0 := BX.soft 0
            have s1 := BX.soft 1
            have s2 := BX.soft 2
            obtain ⟨z1, z2, z3, z4⟩ := set3 hJ.below BX hlow (.slice D2 n c2) (.slice D8 (risingTo (g ++ keptL zs g b fr) 256).length c8) (.slice none 0 0)
            have hall : ∀ j, j < 11 → listed.getD j false = true := fun j hj => hd ⟨j, .phase⟩ (by obtain rfl := Option.some.inj ho; rcases (by omega : j = 0 ∨ j = 1 ∨ j = 2 ∨ j = 3 ∨ j = 4 ∨ j = 5 ∨ j = 6 ∨ j = 7 ∨ j = 8 ∨ j = 9 ∨ j = 10) with rfl | rfl | rfl | rfl | rfl | rfl | rfl | rfl | rfl | rfl | rfl <;> simp) rfl
            refine wpOp_step rfl fun K' hK => ?_
            go_simp
            exact hK _ _ ⟨_, _, _, _, _, _, _, _, _, _, _, rfl, by simpa using hsz, .inr ⟨fun j hj => by
              have : (listed.setIfInBounds 11 true).getD j false = true := by
                by_cases e : j = 11
                · subst e; exact listed_same (by omega)
                · rw [listed_other (Ne.symm e)]; exact hall j (by omega)
              simp only [Array.getD, Array.size_setIfInBounds, hsz, hj, dif_pos] at this ⊢
              exact this, z1, g', D2, c2, D8, c8, rfl, hlow, z2, hD2.set3 BX z3 z4, hD8.set3 BX z3 z4⟩⟩
        · have := hall i hi12
          rw [this] at hun; cases hun
      · rintro listed a' w' ⟨v11, v68, v69, v70, v71, v72, v73, v74, v75, v76, v77, rfl, hsz, hJ⟩ hr
        have hall := all_listed (by rw [hsz]; rfl) (by kernel_rfl) hr
        rcases hJ with ⟨h11, _⟩ | ⟨_, hE⟩
        · have := hall 11 (by decide)
          rw [h11] at this; cases this
        · obtain ⟨by_, g', D, dc, E, ec, e0, hlow, BX, hD, hE⟩ := hE
          subst e0
          rw [newO_rising HOK.out] at BX hE
          have hk : (newO zs g b fr).length = g3 := HV.out.grey.1
          rw [hk] at BX hE
          have HYI := Lib.hid (HI.out.next by_)
          have HBY := Lib.hid by_
          have HLOW := Lib.hid hlow
          have HBX := Lib.hid BX
          have HD := Lib.hid hD
          have HE := Lib.hid hE
          have hg3 := HV.out.hg
          clear hall hr hsz by_ hlow BX hD hE hk a0 a1 a2
          dsimp (config := { zeta := true }) only
          generalize w' = wa at *
          obtain ⟨a0, a1, a2⟩ := HYI.out.acells
          have HBG := Lib.hid (begins_any A n c zs wa HYI.out.tri.arena (arErr_zero HOK.out.arena).1)
          have hln256 := lives_len (arena_len HOK.out.arena)
          obtain ⟨ln, hln⟩ : ∃ ln, (livesI zs).length = ln := ⟨_, rfl⟩
          have HLN := Lib.hid hln
          rw [hln] at hln256
          clear hln
          go_wp2_with fail
          refine HBG.out.mono ?_
          rintro e wb ⟨A2, c2, rfl, bb, hA2⟩
          have HBY := Lib.hid (HBY.out.trans (bb.mono HBY.out.size))
          have HBX := Lib.hid (HBX.out.below bb HBX.out.lt)
          have HD := Lib.hid (HD.out.later bb)
          have HE := Lib.hid (HE.out.later bb)
          have HA2 := Lib.hid hA2
          rw [HLN.out] at HA2 ⊢
          clear bb hA2 HBG HYI a0 a1 a2
          go_wp2_with fail
          go_loopw [82] (fun i wr => ∃ (j : Nat) (D : Option Addr) (dc : Nat), j ≤ ln ∧ i = .int .i64 j ∧ Hid (Below w9.heap.size w9 wr) ∧ Hid (Box wr g' 25 #[.slice D n dc, .slice E g3 ec, .slice none 0 0]) ∧ Hid (Arr .u64 wr wr.heap.size D n (growTo zs (newO zs g b fr) j)) ∧ Hid (Arr .i64 wr wr.heap.size E g3 (newO zs g b fr)) ∧ Hid (Arr .i64 wr wr.heap.size A2 ln (livesI zs))) (fun i _ => ln - (intOf i).toNat)
          case atStart => exact ⟨0, D, dc, Nat.zero_le _, rfl, HBY, HBX, HD, HE, HA2⟩
          case round =>
            clear HBY HBX HD HE HA2
            obtain ⟨j, D, dc, hj, rfl, HBY, HBX, HD, HE, HA2⟩ := hrel
            have HYI := Lib.hid (HI.out.next HBY.out)
            obtain ⟨a0, a1, a2⟩ := HYI.out.acells
            have r0 : wr.cell? ⟨g', 0, none⟩ = some (.slice D n dc) := HBX.out.cell 0
            have r1 : wr.cell? ⟨g', 1, none⟩ = some (.slice E g3 ec) := HBX.out.cell 1
            by_cases hlt : j < ln
            · obtain ⟨bb, off, rfl, _, hcs⟩ := HA2.out.2.2 (by omega)
              have hc := hcs j hlt
              have hmem : nth (livesI zs) j ∈ livesI zs := nth_mem (by rw [HLN.out]; exact hlt)
              obtain ⟨t, ht, _⟩ := live_facts HZ.out hmem
              rw [ht] at hc hmem
              have HTT := Lib.hid ht
              have HML := Lib.hid hmem
              have HIN := Lib.hid (in_ref E g3 ec _ (t : Int) (newO zs g b fr) wr hg3 HE.out)
              clear hcs ht hmem
              by_cases hin : (t : Int) ∈ newO zs g b fr
              · rw [show decide ((t : Int) ∈ newO zs g b fr) = true by simpa using hin] at HIN
                have hD := HD.out
                rw [← growTo_yes (by rw [HTT.out]; exact hin)] at hD
                have HD1 := Lib.hid hD
                clear hD hin HD HYI
                go_wp2_with fail
                refine HIN.out.mono ?_
                rintro e wx ⟨rfl, rfl⟩
                go_wp2
                go_roundw
                case rel => exact ⟨j + 1, D, dc, by omega, by go_num, HBY, HBX, HD1, HE, HA2⟩
                case measure => simp [intOf]; omega
              · rw [show decide ((t : Int) ∈ newO zs g b fr) = false by simpa using hin] at HIN
                obtain ⟨hb0, hl0, hl256, hfit⟩ : t ∈ begins zs 0 ∧ 0 < longN zs t ∧ longN zs t ≤ 256 ∧ t + longN zs t ≤ zs.length := by
                  obtain ⟨s, hs, _, e⟩ := lives_mem.1 HML.out
                  obtain rfl : s = t := by omega
                  exact ⟨hs, start_fits HOK.out.arena hs⟩
                have hnl := HYI.out.tri.arena.1
                have HHD := Lib.hid (headLive_any A n c t zs wr HYI.out.tri.arena HOK.out.arena HML.out)
                have HNI := Lib.hid hin
                clear hin
                go_wp2_with fail
                refine HIN.out.mono ?_
                rintro e wx ⟨rfl, rfl⟩
                go_wp2_with fail
                refine HHD.out.mono ?_
                rintro e wc ⟨rfl, bc⟩
                obtain ⟨VR, hVR⟩ : ∃ x, vR (nth zs t) = x := ⟨_, rfl⟩
                obtain ⟨VB, hVB⟩ : ∃ x, vB (nth zs t) = x := ⟨_, rfl⟩
                obtain ⟨VT, hVT⟩ : ∃ x, vT (nth zs t) = x := ⟨_, rfl⟩
                obtain ⟨L, hL⟩ : ∃ x, longN zs t = x := ⟨_, rfl⟩
                have hVL : (L : Int) = 1 + VR + VB ∧ 0 ≤ VR ∧ 0 ≤ VB := by
                  obtain ⟨s, e, _, q1, q2, q3, _, q5, _⟩ := live_facts HZ.out HML.out
                  obtain rfl : s = t := by omega
                  rw [hVR, hVB, hL] at q5
                  omega
                rw [hL] at hl0 hl256 hfit
                have HLL := Lib.hid hL
                have b4 := (Below.refl _ wc).alloc (Nat.le_refl _) (.cells #[.int .i64 VR, .int .i64 VB, .int .i64 VT, .bool false] 42)
                have hbr := bthen bc b4
                have HHX := Lib.hid (Box.new wc 42 #[.int .i64 VR, .int .i64 VB, .int .i64 VT, .bool false])
                have HBY := Lib.hid (HBY.out.trans (hbr.mono HBY.out.size))
                have HBX := Lib.hid (HBX.out.below hbr HBX.out.lt)
                have HD := Lib.hid (HD.out.later hbr)
                have HE := Lib.hid (HE.out.later hbr)
                have HA2 := Lib.hid (HA2.out.later hbr)
                have HVL := Lib.hid hVL
                rw [hVR, hVB, hVT]
                clear bc b4 hbr hVR hVB hVT hL hVL HHD HIN HYI a0 a1 a2 r0 r1 hc
                go_wp2_with fail
                generalize wc.alloc (.cells #[.int .i64 VR, .int .i64 VB, .int .i64 VT, .bool false] 42) = wd at *
                have hgl : (growTo zs (newO zs g b fr) j).length = n := HD.out.1
                refine wp_region_inv (fun listed a' w' => ∃ v98 v99 v100 v101 v102 v103 v104, a' = { tmps := #[.agg #[.slice A n c, .slice G ng cg, .slice K nb cb], .slice F nf cf, .pointer (some ⟨w.heap.size, 0, none⟩), undef, .bool false, .slice Q m qc, .int .i64 0, .pointer (some ⟨gX, 0, none⟩), .int .i64 0, .int .i64 0, .slice R m rc, .pointer (some ⟨g', 0, none⟩), undef, .int .i64 t, .pointer (some ⟨wc.heap.size, 0, none⟩), .bool true, .tuple #[.slice Q m qc, .int .i64 0], .agg #[.slice A n c, .slice G ng cg, .slice K nb cb], .slice F nf cf, .tuple #[.slice Q m qc, .int .i64 0], .slice Q m qc, .int .i64 0, .tuple #[.agg #[.slice A3 n3 c3, .slice G3 g3 cg3, .slice K3 k3 cb3], .int .i64 0], .agg #[.slice A n c, .slice G ng cg, .slice K nb cb], .slice F nf cf, .tuple #[.agg #[.slice A3 n3 c3, .slice G3 g3 cg3, .slice K3 k3 cb3], .int .i64 0], .agg #[.slice A3 n3 c3, .slice G3 g3 cg3, .slice K3 k3 cb3], .int .i64 0, .agg #[.slice A n c, .slice G ng cg, .slice K nb cb], .int .i64 0, .int .i64 0, .bool true, .pointer (some ⟨w.heap.size, 0, none⟩), .slice A n c, .slice F nf cf, .slice (some ⟨w5.heap.size, 0, none⟩) 1 1, .int .i64 0, .int .i64 0, .bool false, undef, undef, undef, undef, undef, undef, undef, undef, undef, undef, undef, undef, undef, undef, undef, undef, undef, undef, .agg #[.slice A n c, .slice G ng cg, .slice K nb cb], .slice F nf cf, .slice R m rc, .int .i64 0, .bool false, .bool false, .slice Q m qc, .slice R m rc, .bool true, .bool false, .bool false, v68, v69, v70, v71, v72, v73, v74, v75, v76, v77, .pointer (some ⟨w.heap.size, 0, none⟩), .slice A n c, .slice (some ⟨bb, off, none⟩) ln c2, .int .i64 ln, .int .i64 j, .bool true, .pointer (some ⟨bb, off + j, none⟩), .int .i64 t, .pointer (some ⟨g', 1, none⟩), .slice E g3 ec, .int .i64 t, .bool false, .bool true, .tuple #[.agg #[.int .i64 VR, .int .i64 VB, .int .i64 VT, .bool false], .bool true], .pointer (some ⟨w.heap.size, 0, none⟩), .slice A n c, .int .i64 t, .tuple #[.agg #[.int .i64 VR, .int .i64 VB, .int .i64 VT, .bool false], .bool true], .agg #[.int .i64 VR, .int .i64 VB, .int .i64 VT, .bool false], .bool true, v98, v99, v100, v101, v102, v103, v104, u105, undef, undef, undef, undef, undef, undef, undef], defers := [] } ∧ RgX wd g' wc.heap.size D n dc t L VR VB VT (growTo zs (newO zs g b fr) (j + 1)) listed v98 v99 v100 v101 v102 v103 v104 w') (by kernel_rfl) ⟨_, _, _, _, _, _, _, rfl, RgX.start⟩ ?_ ?_
                · rintro listed a' w' ⟨v98, v99, v100, v101, v102, v103, v104, rfl, hsz, hJ⟩ i hi
                  obtain ⟨hun, o, ho, hd⟩ := mem_ready.1 hi
                  have hi8 : i < 8 := (Array.getElem?_eq_some_iff.1 ho).1
                  rcases hJ with ⟨h11, hJ⟩ | ⟨hall, _⟩
                  · rcases (by omega : i = 0 ∨ i = 1 ∨ i = 2 ∨ i = 3 ∨ i = 4 ∨ i = 5 ∨ i = 6 ∨ i = 7) with rfl | rfl | rfl | rfl | rfl | rfl | rfl | rfl
                    · refine wpOp_step rfl fun K' hK => ?_
                      go_simp
                      exact hK _ _ ⟨_, _, _, _, _, _, _, rfl, ⟨by simpa using hsz, .inl ⟨up_false h11 (by omega), ⟨hJ.below, (fun _ => rfl), (fun q => hJ.l1 ((listed_or q).resolve_left (by omega))), (fun q => hJ.l2 ((listed_or q).resolve_left (by omega))), (fun q => hJ.l3 ((listed_or q).resolve_left (by omega))), (fun q => hJ.l4 ((listed_or q).resolve_left (by omega))), (fun q => hJ.l5 ((listed_or q).resolve_left (by omega))), (fun q => hJ.l6 ((listed_or q).resolve_left (by omega)))⟩⟩⟩⟩
                    · have d0 := hd ⟨0, .data⟩ (by obtain rfl := Option.some.inj ho; simp) rfl
                      have e0 := hJ.l0 d0
                      subst e0
                      have q : w'.cell? ⟨g', 0, none⟩ = some (.slice D n dc) := (HBX.out.below hJ.below HBX.out.lt).cell 0
                      refine wpOp_step rfl fun K' hK => ?_
                      go_simp
                      exact hK _ _ ⟨_, _, _, _, _, _, _, rfl, ⟨by simpa using hsz, .inl ⟨up_false h11 (by omega), ⟨hJ.below, (fun q => hJ.l0 ((listed_or q).resolve_left (by omega))), (fun _ => rfl), (fun q => hJ.l2 ((listed_or q).resolve_left (by omega))), (fun q => hJ.l3 ((listed_or q).resolve_left (by omega))), (fun q => hJ.l4 ((listed_or q).resolve_left (by omega))), (fun q => hJ.l5 ((listed_or q).resolve_left (by omega))), (fun q => hJ.l6 ((listed_or q).resolve_left (by omega)))⟩⟩⟩⟩
                    · refine wpOp_step rfl fun K' hK => ?_
                      go_simp
                      exact hK _ _ ⟨_, _, _, _, _, _, _, rfl, ⟨by simpa using hsz, .inl ⟨up_false h11 (by omega), ⟨hJ.below, (fun q => hJ.l0 ((listed_or q).resolve_left (by omega))), (fun q => hJ.l1 ((listed_or q).resolve_left (by omega))), (fun _ => rfl), (fun q => hJ.l3 ((listed_or q).resolve_left (by omega))), (fun q => hJ.l4 ((listed_or q).resolve_left (by omega))), (fun q => hJ.l5 ((listed_or q).resolve_left (by omega))), (fun q => hJ.l6 ((listed_or q).resolve_left (by omega)))⟩⟩⟩⟩
                    · have hh := HHX.out.below hJ.below HHX.out.lt
                      have q0 : w'.cell? ⟨wc.heap.size, 0, none⟩ = some (.int .i64 VR) := hh.cell 0
                      have q1 : w'.cell? ⟨wc.heap.size, 1, none⟩ = some (.int .i64 VB) := hh.cell 1
                      have q2 : w'.cell? ⟨wc.heap.size, 2, none⟩ = some (.int .i64 VT) := hh.cell 2
                      have q3 : w'.cell? ⟨wc.heap.size, 3, none⟩ = some (.bool false) := hh.cell 3
                      refine wpOp_step rfl fun K' hK => ?_
                      go_simp
                      exact hK _ _ ⟨_, _, _, _, _, _, _, rfl, ⟨by simpa using hsz, .inl ⟨up_false h11 (by omega), ⟨hJ.below, (fun q => hJ.l0 ((listed_or q).resolve_left (by omega))), (fun q => hJ.l1 ((listed_or q).resolve_left (by omega))), (fun q => hJ.l2 ((listed_or q).resolve_left (by omega))), (fun _ => rfl), (fun q => hJ.l4 ((listed_or q).resolve_left (by omega))), (fun q => hJ.l5 ((listed_or q).resolve_left (by omega))), (fun q => hJ.l6 ((listed_or q).resolve_left (by omega)))⟩⟩⟩⟩
                    · have d3 := hd ⟨3, .data⟩ (by obtain rfl := Option.some.inj ho; simp) rfl
                      have e0 := hJ.l3 d3
                      subst e0
                      have HK := Lib.hid (headLong_any VR VB VT false w' HVL.out.2.1 (by have := HVL.out; omega) HVL.out.2.2 (by have := HVL.out; omega))
                      rw [← HVL.out.1] at HK
                      refine wpOp_step rfl fun K' hK => ?_
                      go_simp
                      refine HK.out.mono ?_
                      rintro e wy ⟨rfl, by_⟩
                      have hJ := hJ.later by_
                      exact hK _ _ ⟨_, _, _, _, _, _, _, rfl, ⟨by simpa using hsz, .inl ⟨up_false h11 (by omega), ⟨hJ.below, (fun q => hJ.l0 ((listed_or q).resolve_left (by omega))), (fun q => hJ.l1 ((listed_or q).resolve_left (by omega))), (fun q => hJ.l2 ((listed_or q).resolve_left (by omega))), (fun q => hJ.l3 ((listed_or q).resolve_left (by omega))), (fun _ => rfl), (fun q => hJ.l5 ((listed_or q).resolve_left (by omega))), (fun q => hJ.l6 ((listed_or q).resolve_left (by omega)))⟩⟩⟩⟩
                    · have d1 := hd ⟨1, .data⟩ (by obtain rfl := Option.some.inj ho; simp) rfl
                      have d2 := hd ⟨2, .data⟩ (by obtain rfl := Option.some.inj ho; simp) rfl
                      have d4 := hd ⟨4, .data⟩ (by obtain rfl := Option.some.inj ho; simp) rfl
                      have e0 := hJ.l1 d1
                      have e1 := hJ.l2 d2
                      have e2 := hJ.l4 d4
                      subst e0 e1 e2
                      have HK := Lib.hid (emptied_any D n dc t L (growTo zs (newO zs g b fr) j) w' hn256 (by omega) (HD.out.later hJ.below))
                      unfold EmptiedP at HK
                      refine wpOp_step rfl fun K' hK => ?_
                      go_simp
                      refine HK.out.mono ?_
                      rintro e wy ⟨D1, dc1, rfl, hO, by_⟩
                      have hO : Arr .u64 wy wy.heap.size D1 n (growTo zs (newO zs g b fr) (j + 1)) := by
                        obtain ⟨D', dc', e1, _, h1⟩ := hO.arr
                        injection e1 with e1 e2 _
                        rw [growTo_no (by rw [HTT.out]; exact HNI.out), HTT.out, Int.toNat_natCast, HLL.out, e1, e2]; exact h1
                      have hJ := hJ.later by_
                      exact hK _ _ ⟨_, _, _, _, _, _, _, rfl, ⟨by simpa using hsz, .inl ⟨up_false h11 (by omega), ⟨hJ.below, (fun q => hJ.l0 ((listed_or q).resolve_left (by omega))), (fun q => hJ.l1 ((listed_or q).resolve_left (by omega))), (fun q => hJ.l2 ((listed_or q).resolve_left (by omega))), (fun q => hJ.l3 ((listed_or q).resolve_left (by omega))), (fun q => hJ.l4 ((listed_or q).resolve_left (by omega))), (fun _ => ⟨D1, dc1, rfl, hO⟩), (fun q => hJ.l6 ((listed_or q).resolve_left (by omega)))⟩⟩⟩⟩
                    · refine wpOp_step rfl fun K' hK => ?_
                      go_simp
                      exact hK _ _ ⟨_, _, _, _, _, _, _, rfl, ⟨by simpa using hsz, .inl ⟨up_false h11 (by omega), ⟨hJ.below, (fun q => hJ.l0 ((listed_or q).resolve_left (by omega))), (fun q => hJ.l1 ((listed_or q).resolve_left (by omega))), (fun q => hJ.l2 ((listed_or q).resolve_left (by omega))), (fun q => hJ.l3 ((listed_or q).resolve_left (by omega))), (fun q => hJ.l4 ((listed_or q).resolve_left (by omega))), (fun q => hJ.l5 ((listed_or q).resolve_left (by omega))), (fun _ => rfl)⟩⟩⟩⟩
                    · have d6 := hd ⟨6, .data⟩ (by obtain rfl := Option.some.inj ho; simp) rfl
                      have d5 := hd ⟨5, .data⟩ (by obtain rfl := Option.some.inj ho; simp) rfl
                      obtain ⟨D1, dc1, e0, hD1⟩ := hJ.l5 d5
                      have e1 := hJ.l6 d6
                      subst e0 e1
                      have hx := HBX.out.below hJ.below HBX.out.lt
                      have q : w'.cell? ⟨g', 0, none⟩ = some (.slice D n dc) := hx.cell 0
                      have s0 := hx.soft 0
                      have hall : ∀ j, j < 7 → listed.getD j false = true := fun j hj => by
                        rcases (by omega : j = 0 ∨ j = 1 ∨ j = 2 ∨ j = 3 ∨ j = 4 ∨ j = 5 ∨ j = 6) with rfl | rfl | rfl | rfl | rfl | rfl | rfl
                        · exact hd ⟨0, .phase⟩ (by obtain rfl := Option.some.inj ho; simp) rfl
                        · exact hd ⟨1, .phase⟩ (by obtain rfl := Option.some.inj ho; simp) rfl
                        · exact hd ⟨2, .phase⟩ (by obtain rfl := Option.some.inj ho; simp) rfl
                        · exact hd ⟨3, .phase⟩ (by obtain rfl := Option.some.inj ho; simp) rfl
                        · exact hd ⟨4, .phase⟩ (by obtain rfl := Option.some.inj ho; simp) rfl
                        · exact d5
                        · exact d6
                      refine wpOp_step rfl fun K' hK => ?_
                      go_simp
                      exact hK _ _ ⟨_, _, _, _, _, _, _, rfl, by simpa using hsz, .inr ⟨fun j hj => by
                        have : (listed.setIfInBounds 7 true).getD j false = true := by
                          by_cases e : j = 7
                          · subst e; exact listed_same (by omega)
                          · rw [listed_other (Ne.symm e)]; exact hall j (by omega)
                        simp only [Array.getD, Array.size_setIfInBounds, hsz, hj, dif_pos] at this ⊢
                        exact this, w', D1, dc1, hJ.below, hD1, rfl⟩⟩
                  · have := hall i hi8
                    rw [this] at hun; cases hun
                · rintro listed a' w' ⟨v98, v99, v100, v101, v102, v103, v104, rfl, hsz, hJ⟩ hr
                  have hall := all_listed (by rw [hsz]; rfl) (by kernel_rfl) hr
                  rcases hJ with ⟨h11, _⟩ | ⟨_, W', D1, dc1, hb, hD1, rfl⟩
                  · have := hall 7 (by decide)
                    rw [h11] at this; cases this
                  · have bx := HBX.out.below hb HBX.out.lt
                    have hbw := HBY.out.trans (hb.mono HBY.out.size)
                    have hs : (W'.setCell ⟨g', 0, none⟩ (.slice D1 n dc1)).heap.size = W'.heap.size := by simp [World.setCell]
                    have ho : ∀ i, i ≠ g' → (W'.setCell ⟨g', 0, none⟩ (.slice D1 n dc1)).heap[i]? = W'.heap[i]? := fun i hi => heap_setOther _ hi _ _
                    have HBY := Lib.hid (below_set hbw HLOW.out 0 (.slice D1 n dc1))
                    have HD := Lib.hid (hD1.set3 bx hs ho)
                    have HE := Lib.hid ((HE.out.later hb).set3 bx hs ho)
                    have HA2 := Lib.hid ((HA2.out.later hb).set3 bx hs ho)
                    have HBX := Lib.hid (bx.set 0 (.slice D1 n dc1))
                    clear bx hbw hs ho hall hr hsz hb hD1 hgl
                    dsimp (config := { zeta := true }) only
                    generalize W'.setCell ⟨g', 0, none⟩ (.slice D1 n dc1) = we at *
                    go_wp2
                    go_roundw
                    case rel => exact ⟨j + 1, D1, dc1, by omega, by go_num, HBY, HBX, HD, HE, HA2⟩
                    case measure => simp [intOf]; omega
            · obtain rfl : j = ln := by omega
              have hD := HD.out
              have eG : growTo zs (newO zs g b fr) j = growL zs (newO zs g b fr) := by unfold growL; rw [HLN.out]
              rw [eG] at hD
              have HV := Lib.hid (HV.out.next HBY.out)
              have hn3 : n = n3 := by have := HV.out.arena.1; have := hD.1; omega
              have hk3 : 0 = k3 := by have := HV.out.blk.1; simpa using this
              subst hn3 hk3
              have HD := Lib.hid hD
              clear hD eG r0 r1 a0 a1 a2
              obtain ⟨x0, x1, x2⟩ := HYI.out.xcells
              have y0 : wr.cell? ⟨g', 0, none⟩ = some (.slice D n dc) := HBX.out.cell 0
              have y1 : wr.cell? ⟨g', 1, none⟩ = some (.slice E g3 ec) := HBX.out.cell 1
              have y2 : wr.cell? ⟨g', 2, none⟩ = some (.slice none 0 0) := HBX.out.cell 2
              have HC := Lib.hid (sameAges_any A3 G3 K3 D E none n c3 g3 cg3 0 cb3 dc ec 0 (growL zs (newO zs g b fr)) (newO zs g b fr) [] wr HV.out.arena HV.out.grey HV.out.blk HD.out HE.out Arr.zero HV.out.hn HV.out.hg (Nat.zero_le _))
              go_wp2_with fail
              refine HC.out.mono ?_
              rintro e wf ⟨rfl, bf⟩
              have HI := Lib.hid (HYI.out.next bf)
              clear bf HC x0 x1 x2 y0 y1 y2
              go_wp2
              go_ret
              exact ⟨rfl, HI.out.below⟩
    · have hk : keepE zs g b fr = fromE zs fr := hke
      have HX := Lib.hid (show TriIn w7 A3 G3 K3 n3 c3 g3 k3 [] [] [] by have := HV.out; rwa [growT_bad (by rw [hk]; exact h1)] at this)
      have HQ := Lib.hid (show Arr .i64 w7 w7.heap.size Q m [] by have := HQ.out; rwa [keepO_bad (by rw [hk]; exact h1)] at this)
      have hm0 : m = 0 := by have := HQ.out.1; simpa using this.symm
      subst hm0
      have hb : (fromE zs fr != 0) = true := by simpa using h1
      clear h1 hk hke HV
      generalize fromE zs fr = E at *
      have hbf : (E == E) = true := by simp
      obtain ⟨x0, x1, x2⟩ := HI.out.xcells
      have HC := Lib.hid (agesNone_any A3 G3 K3 n3 c3 g3 cg3 k3 cb3 w7 HX.out)
      go_wp2_with fail
      refine HC.out.mono ?_
      rintro e w8 ⟨rfl, b8⟩
      have HI := Lib.hid (HI.out.next b8)
      clear b8 HC x0 x1 x2 HX
      go_wp2
      go_ret
      exact ⟨rfl, HI.out.below⟩
  · have hk : keepE zs g b fr = agesE zs g b := keepE_bad h0
    have HX := Lib.hid (show TriIn w5 A3 G3 K3 n3 c3 g3 k3 [] [] [] by have := HV.out; rwa [growT_bad (by rw [hk]; exact h0)] at this)
    have HQ := Lib.hid (show Arr .i64 w5 w5.heap.size Q m [] by have := HQ.out; rwa [keepO_bad (by rw [hk]; exact h0)] at this)
    have hm0 : m = 0 := by have := HQ.out.1; simpa using this.symm
    subst hm0
    have hb : (agesE zs g b != 0) = true := by simpa using h0
    have hb2 : (agesE zs g b == 0) = false := by simpa using h0
    rw [hk]
    clear h0 hk HV
    generalize agesE zs g b = E at *
    have hbf : (E == E) = true := by simp
    obtain ⟨x0, x1, x2⟩ := HI.out.xcells
    have HC := Lib.hid (agesNone_any A3 G3 K3 n3 c3 g3 cg3 k3 cb3 w5 HX.out)
    go_wp2_with fail
    refine HC.out.mono ?_
    rintro e w8 ⟨rfl, b8⟩
    have HI := Lib.hid (HI.out.next b8)
    clear b8 HC x0 x1 x2 HX
    go_wp2
    go_ret
    exact ⟨rfl, HI.out.below⟩
end Go.Proofs.YthdnfocemchgjaaGreat
