/-
  No cell of these rows narrows 'for every input' (looked for: loops, veiled, ifaces, maps, wideKeys, modest, calm, conditions, laid).
  DERIVED. THE GIVEN ROWS OF THIS SEAT. 5 by the template 'for every input the law returns true; each argument reads behind the call as it read before'; 0 by the template 'total and deterministic' (their statements: YtdglnbcliemafaaTotals.lean).
  GIVEN WITH THE SEED: the statements are not yours to turn. If you find one false, say at which input.
  Laid BY PROGRAM, IN A SANDBOX (cutbox-rows.mjs): the forced cells as the released guide's own fill.sh prints them over the translation f13756fcd8c8dd28… (all of the seat's roots in one cut). By AI agents, Wed Nov 11 2026. No macro, syntax, notation, axiom, sorry.
-/
import Derived.Test.YtdglnbcliemafaaChecked
import GoSem.Claim
import GoSem.ClaimJoined
import GoSem.ClaimMapViews
import Derived.JoinedTies
import Derived.KernelRfl
namespace Go.Proofs.Ytdglnbcliemafaa
/- THE CELL 'sum', in the pinned program and in every row, IS THE sha256 OF THE DUMP (.gsa) THAT YtdglnbcliemafaaProg.lean LOADS. Nothing in Lean hashes anything: it is a label: what it is worth is what the hold of that sum in a sandbox is worth. -/
noncomputable def Try.pinned : Pinned := { name := "ytdglnbcliemafaa", sum := "f13756fcd8c8dd2845fa33cc969b665b4eeee6f240cb9388abd64d2c953689b7", checked := Try.checked }
namespace Rows
def none {H : Type} : Left H := { results := [], args := [] }

/-- 'cairnfieldlaw.FaintTells': WHATEVER THE INPUT: true; the input reads as it did. -/
def faintTellsSpec : ChangeSpec := { name := "faintTells", fn := fun _ => fun
  | [d1, d2, d3] => { results := [.lit (.bool true)], args := [d1, d2, d3] }
  | _ => none }
def faintTellsRow : OpenClaim := { program := "ytdglnbcliemafaa", sum := "f13756fcd8c8dd2845fa33cc969b665b4eeee6f240cb9388abd64d2c953689b7", func := "cairnfield/cairnfieldlaw.FaintTells", spec := "faintTells", unfollowed := true, recurses := true, apart := false }
def FaintTellsSaid : Prop := faintTellsRow.holds Try.pinned (OpenSpec.ofChange faintTellsSpec)

/-- ITS FALSE NEIGHBOUR: 'it returns false'. Refute it at one input. -/
def faintTellsWrong : ChangeSpec := { name := "faintTells", fn := fun _ => fun
  | [d1, d2, d3] => { results := [.lit (.bool false)], args := [d1, d2, d3] }
  | _ => none }
def FaintTellsWrongFalsely : Prop := faintTellsRow.holds Try.pinned (OpenSpec.ofChange faintTellsWrong)

/-- 'cairnfieldlaw.FaintLast': WHATEVER THE INPUT: true; the input reads as it did. -/
def faintLastSpec : ChangeSpec := { name := "faintLast", fn := fun _ => fun
  | [d1, d2, d3] => { results := [.lit (.bool true)], args := [d1, d2, d3] }
  | _ => none }
def faintLastRow : OpenClaim := { program := "ytdglnbcliemafaa", sum := "f13756fcd8c8dd2845fa33cc969b665b4eeee6f240cb9388abd64d2c953689b7", func := "cairnfield/cairnfieldlaw.FaintLast", spec := "faintLast", unfollowed := true, recurses := true, apart := false }
def FaintLastSaid : Prop := faintLastRow.holds Try.pinned (OpenSpec.ofChange faintLastSpec)

/-- ITS FALSE NEIGHBOUR: 'it returns false'. Refute it at one input. -/
def faintLastWrong : ChangeSpec := { name := "faintLast", fn := fun _ => fun
  | [d1, d2, d3] => { results := [.lit (.bool false)], args := [d1, d2, d3] }
  | _ => none }
def FaintLastWrongFalsely : Prop := faintLastRow.holds Try.pinned (OpenSpec.ofChange faintLastWrong)

/-- 'cairnfieldkeep.FaintLeast': WHATEVER THE INPUT: true; the input reads as it did. -/
def faintLeastSpec : ChangeSpec := { name := "faintLeast", fn := fun _ => fun
  | [d1, d2, d3, d4] => { results := [.lit (.bool true)], args := [d1, d2, d3, d4] }
  | _ => none }
def faintLeastRow : OpenClaim := { program := "ytdglnbcliemafaa", sum := "f13756fcd8c8dd2845fa33cc969b665b4eeee6f240cb9388abd64d2c953689b7", func := "cairnfield/cairnfieldkeep.FaintLeast", spec := "faintLeast", unfollowed := true, recurses := true, apart := false }
def FaintLeastSaid : Prop := faintLeastRow.holds Try.pinned (OpenSpec.ofChange faintLeastSpec)

/-- ITS FALSE NEIGHBOUR: 'it returns false'. Refute it at one input. -/
def faintLeastWrong : ChangeSpec := { name := "faintLeast", fn := fun _ => fun
  | [d1, d2, d3, d4] => { results := [.lit (.bool false)], args := [d1, d2, d3, d4] }
  | _ => none }
def FaintLeastWrongFalsely : Prop := faintLeastRow.holds Try.pinned (OpenSpec.ofChange faintLeastWrong)

/-- 'cairnfieldkeep.FaintMore': WHATEVER THE INPUT: true; the input reads as it did. -/
def faintMoreSpec : ChangeSpec := { name := "faintMore", fn := fun _ => fun
  | [d1, d2, d3, d4] => { results := [.lit (.bool true)], args := [d1, d2, d3, d4] }
  | _ => none }
def faintMoreRow : OpenClaim := { program := "ytdglnbcliemafaa", sum := "f13756fcd8c8dd2845fa33cc969b665b4eeee6f240cb9388abd64d2c953689b7", func := "cairnfield/cairnfieldkeep.FaintMore", spec := "faintMore", unfollowed := true, recurses := true, apart := false }
def FaintMoreSaid : Prop := faintMoreRow.holds Try.pinned (OpenSpec.ofChange faintMoreSpec)

/-- ITS FALSE NEIGHBOUR: 'it returns false'. Refute it at one input. -/
def faintMoreWrong : ChangeSpec := { name := "faintMore", fn := fun _ => fun
  | [d1, d2, d3, d4] => { results := [.lit (.bool false)], args := [d1, d2, d3, d4] }
  | _ => none }
def FaintMoreWrongFalsely : Prop := faintMoreRow.holds Try.pinned (OpenSpec.ofChange faintMoreWrong)

/-- 'cairnfieldkeep.FaintQueue': WHATEVER THE INPUT: true; the input reads as it did. -/
def faintQueueSpec : ChangeSpec := { name := "faintQueue", fn := fun _ => fun
  | [d1, d2, d3] => { results := [.lit (.bool true)], args := [d1, d2, d3] }
  | _ => none }
def faintQueueRow : OpenClaim := { program := "ytdglnbcliemafaa", sum := "f13756fcd8c8dd2845fa33cc969b665b4eeee6f240cb9388abd64d2c953689b7", func := "cairnfield/cairnfieldkeep.FaintQueue", spec := "faintQueue", unfollowed := true, recurses := true, apart := false }
def FaintQueueSaid : Prop := faintQueueRow.holds Try.pinned (OpenSpec.ofChange faintQueueSpec)

/-- ITS FALSE NEIGHBOUR: 'it returns false'. Refute it at one input. -/
def faintQueueWrong : ChangeSpec := { name := "faintQueue", fn := fun _ => fun
  | [d1, d2, d3] => { results := [.lit (.bool false)], args := [d1, d2, d3] }
  | _ => none }
def FaintQueueWrongFalsely : Prop := faintQueueRow.holds Try.pinned (OpenSpec.ofChange faintQueueWrong)

/- THE SECOND FORM. 'bulk': how many values and letters a reading holds, each counted each time it is reached (what is shared counts as often as it is met; a slice's spare places count too). A statement '..UptoSaid' is the law's where the arguments, and the package variables that the reading takes, are together of bulk at most 1048576: NARROWER than '..Said'. Prove '..Said' where nothing that the law and all that it calls make is longer than what came in: it says more and counts as full. Else prove '..UptoSaid'. A law counts once. -/
mutual
def uptoBulk {H : Type} : DataW H → Nat
  | .lit (.string bytes) => bytes.length + 1
  | .lit _ => 1
  | .nil => 1
  | .ptr d => uptoBulk d + 1
  | .slice elems spare => uptoBulkAll elems + uptoBulkAll spare + 1
  | .agg parts => uptoBulkAll parts + 1
  | .iface _ d => uptoBulk d + 1
  | .map entries => uptoBulkEntries entries + 1
  | .held _ => 1
def uptoBulkAll {H : Type} : List (DataW H) → Nat
  | [] => 0
  | d :: r => uptoBulk d + uptoBulkAll r
def uptoBulkEntries {H : Type} : List (Lit × DataW H) → Nat
  | [] => 0
  | x :: r => uptoBulkEntry x + uptoBulkEntries r
def uptoBulkEntry {H : Type} : Lit × DataW H → Nat
  | (.string bytes, d) => bytes.length + uptoBulk d + 1
  | (_, d) => uptoBulk d + 1
 end
def uptoSmall : (H : Type) → List (DataW H) → Bool := fun _ ds => decide (uptoBulkAll ds ≤ 1048576)
def OpenSpec.upto (s : _root_.Go.ChangeSpec) : _root_.Go.OpenSpec := { _root_.Go.OpenSpec.ofChange s with cond := some uptoSmall }

/-- 'cairnfieldlaw.FaintTells', WHERE WHAT IT READS IS OF BULK AT MOST 1048576: true; the input reads as it did. -/
def faintTellsUptoRow : OpenClaim := { program := "ytdglnbcliemafaa", sum := "f13756fcd8c8dd2845fa33cc969b665b4eeee6f240cb9388abd64d2c953689b7", func := "cairnfield/cairnfieldlaw.FaintTells", spec := "faintTells", unfollowed := true, recurses := true, apart := false, narrowed := true }
def FaintTellsUptoSaid : Prop := faintTellsUptoRow.holds Try.pinned (OpenSpec.upto faintTellsSpec)

/-- 'cairnfieldlaw.FaintLast', WHERE WHAT IT READS IS OF BULK AT MOST 1048576: true; the input reads as it did. -/
def faintLastUptoRow : OpenClaim := { program := "ytdglnbcliemafaa", sum := "f13756fcd8c8dd2845fa33cc969b665b4eeee6f240cb9388abd64d2c953689b7", func := "cairnfield/cairnfieldlaw.FaintLast", spec := "faintLast", unfollowed := true, recurses := true, apart := false, narrowed := true }
def FaintLastUptoSaid : Prop := faintLastUptoRow.holds Try.pinned (OpenSpec.upto faintLastSpec)

/-- 'cairnfieldkeep.FaintLeast', WHERE WHAT IT READS IS OF BULK AT MOST 1048576: true; the input reads as it did. -/
def faintLeastUptoRow : OpenClaim := { program := "ytdglnbcliemafaa", sum := "f13756fcd8c8dd2845fa33cc969b665b4eeee6f240cb9388abd64d2c953689b7", func := "cairnfield/cairnfieldkeep.FaintLeast", spec := "faintLeast", unfollowed := true, recurses := true, apart := false, narrowed := true }
def FaintLeastUptoSaid : Prop := faintLeastUptoRow.holds Try.pinned (OpenSpec.upto faintLeastSpec)

/-- 'cairnfieldkeep.FaintMore', WHERE WHAT IT READS IS OF BULK AT MOST 1048576: true; the input reads as it did. -/
def faintMoreUptoRow : OpenClaim := { program := "ytdglnbcliemafaa", sum := "f13756fcd8c8dd2845fa33cc969b665b4eeee6f240cb9388abd64d2c953689b7", func := "cairnfield/cairnfieldkeep.FaintMore", spec := "faintMore", unfollowed := true, recurses := true, apart := false, narrowed := true }
def FaintMoreUptoSaid : Prop := faintMoreUptoRow.holds Try.pinned (OpenSpec.upto faintMoreSpec)

/-- 'cairnfieldkeep.FaintQueue', WHERE WHAT IT READS IS OF BULK AT MOST 1048576: true; the input reads as it did. -/
def faintQueueUptoRow : OpenClaim := { program := "ytdglnbcliemafaa", sum := "f13756fcd8c8dd2845fa33cc969b665b4eeee6f240cb9388abd64d2c953689b7", func := "cairnfield/cairnfieldkeep.FaintQueue", spec := "faintQueue", unfollowed := true, recurses := true, apart := false, narrowed := true }
def FaintQueueUptoSaid : Prop := faintQueueUptoRow.holds Try.pinned (OpenSpec.upto faintQueueSpec)

end Rows
end Go.Proofs.Ytdglnbcliemafaa
