/-
  An arena and words from which one begins, as they come in.
-/
import Derived.Test.YtjefbekdjgmmbaaBase
namespace Go.Proofs.Ytjefbekdjgmmbaa
open Go.RowKit

/-- An arena, words, and how long they may be. -/
structure ArenaFrom (w : World) (A F : Option Addr) (n c nf cf : Nat) (zs fr : List Int) : Prop where
  arena : Arr .u64 w w.heap.size A n zs
  from_ : Arr .i64 w w.heap.size F nf fr
  hn : n * 8 ≤ 140737488355328
  hnc : n ≤ c
  hnf : nf * 8 ≤ 140737488355328
  hfc : nf ≤ cf
theorem ArenaFrom.later {w w' : World} {A F : Option Addr} {n c nf cf : Nat} {zs fr : List Int} (h : ArenaFrom w A F n c nf cf zs fr) (hb : Below w.heap.size w w') : ArenaFrom w' A F n c nf cf zs fr :=
  ⟨(h.arena.below hb (Nat.le_refl _)).more hb.size, (h.from_.below hb (Nat.le_refl _)).more hb.size, h.hn, h.hnc, h.hnf, h.hfc⟩
end Go.Proofs.Ytjefbekdjgmmbaa
