/-
  A region that draws its order, whose operations only read and whose callees leave all blocks that were there as they were (they may draw and lay blocks of their own), walked once, in the order of the text. Over no program.
-/
import Derived.Test.YtknbbondofijeaaBase
import Derived.Deep.Quiet
namespace Go.Proofs.Ytknbbondofijeaa
open Go.RowKit

/-- A world that came later: what was there is as it was. -/
structure Later (W : World) where
  w : World
  below : Below W.heap.size W w
instance (W : World) : Inhabited (Later W) := ⟨⟨W, Below.refl _ _⟩⟩
theorem Later.cell {W : World} {a : Addr} {v : Value} (hb : a.block < W.heap.size) (h : W.cell? a = some v) (p : Later W) : p.w.cell? a = some v := (p.below.cell hb).trans h
theorem wp_region_later {P : Program} {id : Nat} {Q : Exit → Act → World → Prop} {a : Act} {w : World} {l : List Oper} (hm : P.follows .mixedOrders = true) (hB : Region.lexB .any l.toArray = true)
    (h : wpQuiet P l.toArray (fun w' => ∃ p : Later w, w' = p.w) (fun a' => ∀ w', (∃ p : Later w, w' = p.w) → Q .normal a' w') l a) : (Code.region id l.toArray true).wp P Q a w :=
  wp_region_quiet (C := fun w' => ∃ p : Later w, w' = p.w) hm hB ⟨⟨{ w with drawn := w.drawn + 1 }, below_drewN (Below.refl _ w) 1⟩, rfl⟩ (by simpa using h)
/-- A callee's contract, met in a later world. -/
theorem Later.call {P : Program} {f : FuncId} {args : Array Value} {W : World} {p : Later W} {v : Value} (h : Calls P f args p.w fun e w' => e = .returned v ∧ Below p.w.heap.size p.w w') :
    Calls P f args p.w fun e w'' => e = .returned v ∧ ∃ p : Later W, w'' = p.w :=
  h.mono fun _ w' ⟨he, hb⟩ => ⟨he, ⟨w', p.below.trans (hb.mono p.below.size)⟩, rfl⟩
end Go.Proofs.Ytknbbondofijeaa
