/-
  What package faint's functions answer (the propositions 'FKeepC', 'FClearC', 'FLastC': to be proved of the code that lands).
-/
import Derived.Test.YtdglnbcliemafaaFaintM
import Derived.Test.YtdglnbcliemafaaRefGap
import Derived.Test.YtdglnbcliemafaaArFrom
namespace Go.Proofs.Ytdglnbcliemafaa
open Go.RowKit

/-- What is known of a slice of pairs that came in. -/
structure FaintsIn (w : World) (A : Option Addr) (N c : Nat) (l : List (Int × Int)) : Prop where
  hc : N ≤ c
  row : ArrG runC 2 w w.heap.size A N l
  wf : ∀ p ∈ l, (Lit.int .i64 p.1).wf = true ∧ (Lit.int .i64 p.2).wf = true
theorem FaintsIn.later {w w' : World} {A : Option Addr} {N c : Nat} {l : List (Int × Int)} (h : FaintsIn w A N c l) (hb : Below w.heap.size w w') : FaintsIn w' A N c l := ⟨h.hc, (h.row.below hb (Nat.le_refl _)).more hb.size, h.wf⟩
def FKeepP (zs fr : List Int) (ps : List (Int × Int)) (w : World) (e : Ending) (w' : World) : Prop := ∃ A m c, e = .returned (.tuple #[.slice A m c, .int .i64 (faintE zs fr ps)]) ∧ Below w.heap.size w w' ∧ m ≤ c ∧ Arr .i64 w' w'.heap.size A m (faintO zs fr ps)
def FClearP (zs fr : List Int) (ps : List (Int × Int)) (w : World) (e : Ending) (w' : World) : Prop := ∃ A m c, e = .returned (.tuple #[.slice A m c, .int .i64 (faintE zs fr ps)]) ∧ Below w.heap.size w w' ∧ m ≤ c ∧ ArrG runC 2 w' w'.heap.size A m (clearO zs fr ps)
def FLastP (zs fr q : List Int) (w : World) (e : Ending) (w' : World) : Prop := ∃ A m c B k d, e = .returned (.tuple #[.slice A m c, .slice B k d, .int .i64 (lastE zs fr q)]) ∧ Below w.heap.size w w' ∧ m ≤ c ∧ k ≤ d ∧ Arr .i64 w' w'.heap.size A m (lastT zs fr q) ∧ Arr .i64 w' w'.heap.size B k (lastA zs fr q)
/-- The contracts. -/
def FKeepC : Prop := ∀ (A F P : Option Addr) (n c nf cf np cp : Nat) (zs fr : List Int) (ps : List (Int × Int)) (w : World), ArenaFrom w A F n c nf cf zs fr → FaintsIn w P np cp ps → np * 16 ≤ 140737488355328 →
  Calls Try.prog 8 #[.slice A n c, .slice F nf cf, .slice P np cp] w (FKeepP zs fr ps w)
def FClearC : Prop := ∀ (A F P : Option Addr) (n c nf cf np cp : Nat) (zs fr : List Int) (ps : List (Int × Int)) (w : World), ArenaFrom w A F n c nf cf zs fr → FaintsIn w P np cp ps → np * 16 ≤ 140737488355328 →
  Calls Try.prog 9 #[.slice A n c, .slice F nf cf, .slice P np cp] w (FClearP zs fr ps w)
def FLastC : Prop := ∀ (A F Q : Option Addr) (n c nf cf nq cq : Nat) (zs fr q : List Int) (w : World), ArenaFrom w A F n c nf cf zs fr → Arr .i64 w w.heap.size Q nq q → nq * 8 ≤ 140737488355328 → nq ≤ cq →
  Calls Try.prog 15 #[.slice A n c, .slice F nf cf, .slice Q nq cq] w (FLastP zs fr q w)
end Go.Proofs.Ytdglnbcliemafaa
