/-
  What package young's functions answer (the propositions 'YCheckC', 'YWriteC', 'YKeepC', 'YGrowC': to be proved of the code that lands).
-/
import Derived.Test.YthdnfocemchgjaaYoungM
import Derived.Test.YthdnfocemchgjaaStepTM
import Derived.Test.YthdnfocemchgjaaOwnF
namespace Go.Proofs.Ythdnfocemchgjaa
open Go.RowKit

/-- The error of a write among old and young; what it answers. -/
def yWrE (zs os ns : List Int) (a r z : Int) : Int := if agesE zs os ns ≠ 0 then agesE zs os ns else wrtE zs a r z
def yWrT (zs os ns : List Int) (a r z : Int) : Tri3 := if yWrE zs os ns a r z = 0 then (wrL zs a.toNat r.toNat z, os, wNoted zs os ns a z) else ([], [], [])
/-- The error of Keep and Grow; what they answer. -/
def keepE (zs os ns fr : List Int) : Int := if agesE zs os ns ≠ 0 then agesE zs os ns else fromE zs fr
def keepO (zs os ns fr : List Int) : List Int := if keepE zs os ns fr = 0 then keptL zs os ns fr else []
def growT (zs os ns fr : List Int) : Tri3 := if keepE zs os ns fr = 0 then (growL zs (newO zs os ns fr), newO zs os ns fr, []) else ([], [], [])
/-- Ages as they come in. -/
structure AgesIn (w : World) (A G K : Option Addr) (n c ng cg nb cb : Nat) (zs g b : List Int) : Prop where
  tri : TriIn w A G K n c ng nb zs g b
  gc : ng ≤ cg
  kc : nb ≤ cb
  sz : n * 8 ≤ 140737488351232 ∧ ng * 8 ≤ 140737488351232 ∧ nb * 8 ≤ 140737488351232
theorem AgesIn.next {w w' : World} {A G K : Option Addr} {n c ng cg nb cb : Nat} {zs g b : List Int} (h : AgesIn w A G K n c ng cg nb cb zs g b) (hb : Below w.heap.size w w') : AgesIn w' A G K n c ng cg nb cb zs g b :=
  ⟨h.tri.next hb, h.gc, h.kc, h.sz⟩
/-- Ages that the call made: all their memory is its own. -/
structure AgesR (base : Nat) (w : World) (A G K : Option Addr) (n c ng cg nb cb : Nat) (t : Tri3) : Prop where
  in_ : AgesIn w A G K n c ng cg nb cb t.1 t.2.1 t.2.2
  spA : SpareI .u64 55 base w A c
  spG : SpareI .i64 3 base w G cg
  spK : SpareI .i64 3 base w K cb
def YWriteP (zs g b : List Int) (a r z : Int) (w : World) (e : Ending) (w' : World) : Prop := ∃ A n c G ng cg K nb cb, e = .returned (.tuple #[.agg #[.slice A n c, .slice G ng cg, .slice K nb cb], .int .i64 (yWrE zs g b a r z)]) ∧ Below w.heap.size w w' ∧ AgesR w.heap.size w' A G K n c ng cg nb cb (yWrT zs g b a r z)
def YKeepP (zs g b fr : List Int) (w : World) (e : Ending) (w' : World) : Prop := ∃ A m c, e = .returned (.tuple #[.slice A m c, .int .i64 (keepE zs g b fr)]) ∧ Below w.heap.size w w' ∧ m ≤ c ∧ Arr .i64 w' w'.heap.size A m (keepO zs g b fr)
def YGrowP (zs g b fr : List Int) (w : World) (e : Ending) (w' : World) : Prop := ∃ A n c G ng cg K nb cb, e = .returned (.tuple #[.agg #[.slice A n c, .slice G ng cg, .slice K nb cb], .int .i64 (keepE zs g b fr)]) ∧ Below w.heap.size w w' ∧ AgesR w.heap.size w' A G K n c ng cg nb cb (growT zs g b fr)
/-- The contracts. -/
def YCheckC : Prop := ∀ (A G K : Option Addr) (n c ng cg nb cb : Nat) (zs g b : List Int) (w : World), AgesIn w A G K n c ng cg nb cb zs g b →
  Calls Try.prog 9 #[.agg #[.slice A n c, .slice G ng cg, .slice K nb cb]] w fun e w' => e = .returned (.int .i64 (agesE zs g b)) ∧ Below w.heap.size w w'
def YWriteC : Prop := ∀ (A G K : Option Addr) (n c ng cg nb cb : Nat) (zs g b : List Int) (a r z : Int) (w : World), (Lit.int .i64 a).wf = true → (Lit.int .i64 r).wf = true → (Lit.int .i64 z).wf = true → AgesIn w A G K n c ng cg nb cb zs g b →
  Calls Try.prog 7 #[.agg #[.slice A n c, .slice G ng cg, .slice K nb cb], .int .i64 a, .int .i64 r, .int .i64 z] w (YWriteP zs g b a r z w)
def YKeepC : Prop := ∀ (A G K F : Option Addr) (n c ng cg nb cb nf cf : Nat) (zs g b fr : List Int) (w : World), AgesIn w A G K n c ng cg nb cb zs g b → nf * 8 ≤ 140737488351232 → Arr .i64 w w.heap.size F nf fr →
  Calls Try.prog 16 #[.agg #[.slice A n c, .slice G ng cg, .slice K nb cb], .slice F nf cf] w (YKeepP zs g b fr w)
def YGrowC : Prop := ∀ (A G K F : Option Addr) (n c ng cg nb cb nf cf : Nat) (zs g b fr : List Int) (w : World), AgesIn w A G K n c ng cg nb cb zs g b → nf * 8 ≤ 140737488351232 → Arr .i64 w w.heap.size F nf fr →
  Calls Try.prog 17 #[.agg #[.slice A n c, .slice G ng cg, .slice K nb cb], .slice F nf cf] w (YGrowP zs g b fr w)

section
variable {zs g b fr : List Int} {a r z : Int}
theorem yWrE_bad (h : agesE zs g b ≠ 0) : yWrE zs g b a r z = agesE zs g b := if_pos h
theorem yWrE_ok (h : agesE zs g b = 0) : yWrE zs g b a r z = wrtE zs a r z := by unfold yWrE; rw [if_neg (by simp [h])]
theorem yWrT_bad (h : yWrE zs g b a r z ≠ 0) : yWrT zs g b a r z = ([], [], []) := if_neg h
theorem yWrT_ok (h : yWrE zs g b a r z = 0) : yWrT zs g b a r z = (wrL zs a.toNat r.toNat z, g, wNoted zs g b a z) := if_pos h
theorem keepE_bad (h : agesE zs g b ≠ 0) : keepE zs g b fr = agesE zs g b := if_pos h
theorem keepE_ok (h : agesE zs g b = 0) : keepE zs g b fr = fromE zs fr := by unfold keepE; rw [if_neg (by simp [h])]
theorem keepO_bad (h : keepE zs g b fr ≠ 0) : keepO zs g b fr = [] := if_neg h
theorem keepO_ok (h : keepE zs g b fr = 0) : keepO zs g b fr = keptL zs g b fr := if_pos h
theorem growT_bad (h : keepE zs g b fr ≠ 0) : growT zs g b fr = ([], [], []) := if_neg h
theorem growT_ok (h : keepE zs g b fr = 0) : growT zs g b fr = (growL zs (newO zs g b fr), newO zs g b fr, []) := if_pos h
theorem keepE_zero (h : keepE zs g b fr = 0) : agesE zs g b = 0 ∧ fromE zs fr = 0 := by
  unfold keepE at h
  split at h
  · rename_i h0; exact absurd h h0
  · rename_i h0; exact ⟨by simpa using h0, h⟩
theorem wrtE_zero (h : wrtE zs a r z = 0) : a ∈ livesI zs ∧ 0 ≤ r ∧ r < vR (nth zs a.toNat) ∧ (z = -1 ∨ z ∈ livesI zs) := by
  unfold wrtE at h
  split at h
  · omega
  · rename_i h1
    split at h
    · omega
    · rename_i h2
      rw [not_or, not_or] at h2
      refine ⟨by simpa using h1, by omega, by omega, ?_⟩
      by_cases e : z = -1
      · exact .inl e
      · right
        by_cases e2 : z ∈ livesI zs
        · exact e2
        · exact absurd ⟨e, e2⟩ h2.2.2
theorem WrOk.of (hz : ∀ z ∈ zs, (Lit.int .u64 z).wf = true) (h0 : arErr zs = 0) (h : wrtE zs a r z = 0) : WrOk zs a.toNat r.toNat z ∧ (a.toNat : Int) = a := by
  obtain ⟨h1, h2, h3, h4⟩ := wrtE_zero h
  have h5 := lives_pos _ h1
  have e : (a.toNat : Int) = a := by omega
  exact ⟨⟨hz, h0, by rw [e]; exact h1, by omega, h4⟩, e⟩
/-- The noted behind a write, as the law makes them. -/
theorem wN_no (h : AgesOk zs g b) (hc : ¬ (0 ≤ z ∧ a ∈ g ∧ z ∉ g)) : risingTo b 256 = wNoted zs g b a z := by
  refine rise_ext (risingTo_rises _ _) wNoted_rise fun x => ?_
  rw [risingTo_mem, wNoted_mem h]
  constructor
  · exact fun h => .inl h.1
  · rintro (hx | ⟨_, h1, h2, h3⟩)
    · have := lives_fit h.arena x (h.ol x (h.no x hx))
      exact ⟨hx, by omega, by omega⟩
    · exact absurd ⟨h1, h2, h3⟩ hc
theorem wN_yes (h : AgesOk zs g b) (hc : 0 ≤ z ∧ a ∈ g ∧ z ∉ g) : risingTo (b ++ [a]) 256 = wNoted zs g b a z := by
  refine rise_ext (risingTo_rises _ _) wNoted_rise fun x => ?_
  rw [risingTo_mem, wNoted_mem h, List.mem_append, List.mem_singleton]
  constructor
  · rintro ⟨hx | hx, _⟩
    · exact .inl hx
    · exact .inr ⟨hx, hc⟩
  · intro hx
    have hl : x ∈ livesI zs := by
      rcases hx with hx | ⟨rfl, _, hx, _⟩
      · exact h.ol x (h.no x hx)
      · exact h.ol x hx
    have := lives_fit h.arena x hl
    exact ⟨hx.imp id fun h => h.1, by omega, by omega⟩
end
end Go.Proofs.Ythdnfocemchgjaa
