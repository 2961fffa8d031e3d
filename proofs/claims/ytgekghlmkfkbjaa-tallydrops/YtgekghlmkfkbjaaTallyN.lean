/-
  What package tally's functions answer ('CountsC', 'DropC', 'RingsC': to be proved of the code that lands).
-/
import Derived.Test.YtgekghlmkfkbjaaTallyM
namespace Go.Proofs.Ytgekghlmkfkbjaa
open Go.RowKit

def CountsP (zs fr : List Int) (w : World) (e : Ending) (w' : World) : Prop := ∃ L m c, e = .returned (.tuple #[.slice L m c, .int .i64 (fromE zs fr)]) ∧ Below w.heap.size w w' ∧ m ≤ c ∧ Arr .i64 w' w'.heap.size L m (countsO zs fr)
def RingsP (zs fr : List Int) (w : World) (e : Ending) (w' : World) : Prop := ∃ L m c, e = .returned (.tuple #[.slice L m c, .int .i64 (fromE zs fr)]) ∧ Below w.heap.size w w' ∧ m ≤ c ∧ Arr .i64 w' w'.heap.size L m (ringsO zs fr)
def DropP (zs fr : List Int) (k : Int) (w : World) (e : Ending) (w' : World) : Prop := ∃ L m c, e = .returned (.tuple #[.slice L m c, .int .i64 (dropE zs fr k)]) ∧ Below w.heap.size w w' ∧ m ≤ c ∧ Arr .i64 w' w'.heap.size L m (dropO zs fr k)
/-- The contracts. -/
def CountsC : Prop := ∀ (A F : Option Addr) (n c nf cf : Nat) (zs fr : List Int) (w : World), n ≤ maxLen → n ≤ c → Arr .u64 w w.heap.size A n zs → nf * 8 ≤ 140737488351232 → nf ≤ cf → Arr .i64 w w.heap.size F nf fr →
  Calls Try.prog 7 #[.slice A n c, .slice F nf cf] w (CountsP zs fr w)
def RingsC : Prop := ∀ (A F : Option Addr) (n c nf cf : Nat) (zs fr : List Int) (w : World), n ≤ maxLen → n ≤ c → Arr .u64 w w.heap.size A n zs → nf * 8 ≤ 140737488351232 → nf ≤ cf → Arr .i64 w w.heap.size F nf fr →
  Calls Try.prog 9 #[.slice A n c, .slice F nf cf] w (RingsP zs fr w)
def DropC : Prop := ∀ (A F : Option Addr) (n c nf cf : Nat) (k : Int) (zs fr : List Int) (w : World), n ≤ maxLen → n ≤ c → Arr .u64 w w.heap.size A n zs → nf * 8 ≤ 140737488351232 → nf ≤ cf → Arr .i64 w w.heap.size F nf fr → (Lit.int .i64 k).wf = true →
  Calls Try.prog 8 #[.slice A n c, .slice F nf cf, .int .i64 k] w (DropP zs fr k w)
end Go.Proofs.Ytgekghlmkfkbjaa
