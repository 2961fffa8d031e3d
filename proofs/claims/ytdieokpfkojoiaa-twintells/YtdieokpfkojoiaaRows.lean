/-
  No cell of these rows narrows 'for every input' (looked for: loops, veiled, ifaces, maps, wideKeys, modest, calm, conditions, laid).
  DERIVED. THE GIVEN ROWS OF THIS SEAT. 4 by the template 'for every input the law returns true; each argument reads behind the call as it read before'; 0 by the template 'total and deterministic' (their statements: YtdieokpfkojoiaaTotals.lean).
  GIVEN WITH THE SEED: the statements are not yours to turn. If you find one false, say at which input.
  Laid BY PROGRAM, IN A SANDBOX (cutbox-rows.mjs): the forced cells as the released guide's own fill.sh prints them over the translation db1fbc872b23fab9… (all of the seat's roots in one cut). By AI agents, Wed Nov 11 2026. No macro, syntax, notation, axiom, sorry.
-/
import Derived.Test.YtdieokpfkojoiaaChecked
import GoSem.Claim
import GoSem.ClaimJoined
import GoSem.ClaimMapViews
import Derived.JoinedTies
import Derived.KernelRfl
namespace Go.Proofs.Ytdieokpfkojoiaa
/- THE CELL 'sum', in the pinned program and in every row, IS THE sha256 OF THE DUMP (.gsa) THAT YtdieokpfkojoiaaProg.lean LOADS. Nothing in Lean hashes anything: it is a label: what it is worth is what the hold of that sum in a sandbox is worth. -/
noncomputable def Try.pinned : Pinned := { name := "ytdieokpfkojoiaa", sum := "db1fbc872b23fab932c511e224d909d830edf43e560ce4a3be9b58160e5f58ec", checked := Try.checked }
namespace Rows
def none {H : Type} : Left H := { results := [], args := [] }

/-- 'cairnfieldlaw.TwinTells': WHATEVER THE INPUT: true; the input reads as it did. -/
def twinTellsSpec : ChangeSpec := { name := "twinTells", fn := fun _ => fun
  | [d1, d2, d3, d4] => { results := [.lit (.bool true)], args := [d1, d2, d3, d4] }
  | _ => none }
def twinTellsRow : OpenClaim := { program := "ytdieokpfkojoiaa", sum := "db1fbc872b23fab932c511e224d909d830edf43e560ce4a3be9b58160e5f58ec", func := "cairnfield/cairnfieldlaw.TwinTells", spec := "twinTells", unfollowed := true, recurses := true, apart := false }
def TwinTellsSaid : Prop := twinTellsRow.holds Try.pinned (OpenSpec.ofChange twinTellsSpec)

/-- ITS FALSE NEIGHBOUR: 'it returns false'. Refute it at one input. -/
def twinTellsWrong : ChangeSpec := { name := "twinTells", fn := fun _ => fun
  | [d1, d2, d3, d4] => { results := [.lit (.bool false)], args := [d1, d2, d3, d4] }
  | _ => none }
def TwinTellsWrongFalsely : Prop := twinTellsRow.holds Try.pinned (OpenSpec.ofChange twinTellsWrong)

/-- 'cairnfieldlaw.RootTells': WHATEVER THE INPUT: true; the input reads as it did. -/
def rootTellsSpec : ChangeSpec := { name := "rootTells", fn := fun _ => fun
  | [d1, d2, d3, d4, d5] => { results := [.lit (.bool true)], args := [d1, d2, d3, d4, d5] }
  | _ => none }
def rootTellsRow : OpenClaim := { program := "ytdieokpfkojoiaa", sum := "db1fbc872b23fab932c511e224d909d830edf43e560ce4a3be9b58160e5f58ec", func := "cairnfield/cairnfieldlaw.RootTells", spec := "rootTells", unfollowed := true, recurses := true, apart := false }
def RootTellsSaid : Prop := rootTellsRow.holds Try.pinned (OpenSpec.ofChange rootTellsSpec)

/-- ITS FALSE NEIGHBOUR: 'it returns false'. Refute it at one input. -/
def rootTellsWrong : ChangeSpec := { name := "rootTells", fn := fun _ => fun
  | [d1, d2, d3, d4, d5] => { results := [.lit (.bool false)], args := [d1, d2, d3, d4, d5] }
  | _ => none }
def RootTellsWrongFalsely : Prop := rootTellsRow.holds Try.pinned (OpenSpec.ofChange rootTellsWrong)

/-- 'cairnfieldkeep.RootNamed': WHATEVER THE INPUT: true; the input reads as it did. -/
def rootNamedSpec : ChangeSpec := { name := "rootNamed", fn := fun _ => fun
  | [d1, d2, d3, d4] => { results := [.lit (.bool true)], args := [d1, d2, d3, d4] }
  | _ => none }
def rootNamedRow : OpenClaim := { program := "ytdieokpfkojoiaa", sum := "db1fbc872b23fab932c511e224d909d830edf43e560ce4a3be9b58160e5f58ec", func := "cairnfield/cairnfieldkeep.RootNamed", spec := "rootNamed", unfollowed := true, recurses := true, apart := false }
def RootNamedSaid : Prop := rootNamedRow.holds Try.pinned (OpenSpec.ofChange rootNamedSpec)

/-- ITS FALSE NEIGHBOUR: 'it returns false'. Refute it at one input. -/
def rootNamedWrong : ChangeSpec := { name := "rootNamed", fn := fun _ => fun
  | [d1, d2, d3, d4] => { results := [.lit (.bool false)], args := [d1, d2, d3, d4] }
  | _ => none }
def RootNamedWrongFalsely : Prop := rootNamedRow.holds Try.pinned (OpenSpec.ofChange rootNamedWrong)

/-- 'cairnfieldkeep.RootSwaps': WHATEVER THE INPUT: true; the input reads as it did. -/
def rootSwapsSpec : ChangeSpec := { name := "rootSwaps", fn := fun _ => fun
  | [d1, d2, d3] => { results := [.lit (.bool true)], args := [d1, d2, d3] }
  | _ => none }
def rootSwapsRow : OpenClaim := { program := "ytdieokpfkojoiaa", sum := "db1fbc872b23fab932c511e224d909d830edf43e560ce4a3be9b58160e5f58ec", func := "cairnfield/cairnfieldkeep.RootSwaps", spec := "rootSwaps", recurses := true, apart := false }
def RootSwapsSaid : Prop := rootSwapsRow.holds Try.pinned (OpenSpec.ofChange rootSwapsSpec)

/-- ITS FALSE NEIGHBOUR: 'it returns false'. Refute it at one input. -/
def rootSwapsWrong : ChangeSpec := { name := "rootSwaps", fn := fun _ => fun
  | [d1, d2, d3] => { results := [.lit (.bool false)], args := [d1, d2, d3] }
  | _ => none }
def RootSwapsWrongFalsely : Prop := rootSwapsRow.holds Try.pinned (OpenSpec.ofChange rootSwapsWrong)

/- THE SECOND FORM. 'bulk': how many values and letters a reading holds, each counted each time it is reached (what is shared counts as often as it is met; a slice's spare places count too). A statement '..UptoSaid' is the law's where the arguments, and the package variables that the reading takes, are together of bulk at most 1048576: NARROWER than '..Said'. Prove '..Said' where nothing that the law and all that it calls make is longer than what came in: it says more and counts as full. Else prove '..UptoSaid'. A law counts once. -/
mutual
def uptoBulk {H : Type} : DataW H → Nat
  | .lit (.string bytes) => bytes.length + 1
  | .lit _ => 1
  | .nil => 1
  | .ptr d => uptoBulk d + 1
  | .slice elems spare => uptoBulkAll elems + uptoBulkAll spare + 1
  | .agg parts => uptoBulkAll parts + 1
  | .iface _ d => uptoBulk d + 1
  | .map entries => uptoBulkEntries entries + 1
  | .held _ => 1
def uptoBulkAll {H : Type} : List (DataW H) → Nat
  | [] => 0
  | d :: r => uptoBulk d + uptoBulkAll r
def uptoBulkEntries {H : Type} : List (Lit × DataW H) → Nat
  | [] => 0
  | x :: r => uptoBulkEntry x + uptoBulkEntries r
def uptoBulkEntry {H : Type} : Lit × DataW H → Nat
  | (.string bytes, d) => bytes.length + uptoBulk d + 1
  | (_, d) => uptoBulk d + 1
 end
def uptoSmall : (H : Type) → List (DataW H) → Bool := fun _ ds => decide (uptoBulkAll ds ≤ 1048576)
def OpenSpec.upto (s : _root_.Go.ChangeSpec) : _root_.Go.OpenSpec := { _root_.Go.OpenSpec.ofChange s with cond := some uptoSmall }

/-- 'cairnfieldlaw.TwinTells', WHERE WHAT IT READS IS OF BULK AT MOST 1048576: true; the input reads as it did. -/
def twinTellsUptoRow : OpenClaim := { program := "ytdieokpfkojoiaa", sum := "db1fbc872b23fab932c511e224d909d830edf43e560ce4a3be9b58160e5f58ec", func := "cairnfield/cairnfieldlaw.TwinTells", spec := "twinTells", unfollowed := true, recurses := true, apart := false, narrowed := true }
def TwinTellsUptoSaid : Prop := twinTellsUptoRow.holds Try.pinned (OpenSpec.upto twinTellsSpec)

/-- 'cairnfieldlaw.RootTells', WHERE WHAT IT READS IS OF BULK AT MOST 1048576: true; the input reads as it did. -/
def rootTellsUptoRow : OpenClaim := { program := "ytdieokpfkojoiaa", sum := "db1fbc872b23fab932c511e224d909d830edf43e560ce4a3be9b58160e5f58ec", func := "cairnfield/cairnfieldlaw.RootTells", spec := "rootTells", unfollowed := true, recurses := true, apart := false, narrowed := true }
def RootTellsUptoSaid : Prop := rootTellsUptoRow.holds Try.pinned (OpenSpec.upto rootTellsSpec)

/-- 'cairnfieldkeep.RootNamed', WHERE WHAT IT READS IS OF BULK AT MOST 1048576: true; the input reads as it did. -/
def rootNamedUptoRow : OpenClaim := { program := "ytdieokpfkojoiaa", sum := "db1fbc872b23fab932c511e224d909d830edf43e560ce4a3be9b58160e5f58ec", func := "cairnfield/cairnfieldkeep.RootNamed", spec := "rootNamed", unfollowed := true, recurses := true, apart := false, narrowed := true }
def RootNamedUptoSaid : Prop := rootNamedUptoRow.holds Try.pinned (OpenSpec.upto rootNamedSpec)

/-- 'cairnfieldkeep.RootSwaps', WHERE WHAT IT READS IS OF BULK AT MOST 1048576: true; the input reads as it did. -/
def rootSwapsUptoRow : OpenClaim := { program := "ytdieokpfkojoiaa", sum := "db1fbc872b23fab932c511e224d909d830edf43e560ce4a3be9b58160e5f58ec", func := "cairnfield/cairnfieldkeep.RootSwaps", spec := "rootSwaps", recurses := true, apart := false, narrowed := true }
def RootSwapsUptoSaid : Prop := rootSwapsUptoRow.holds Try.pinned (OpenSpec.upto rootSwapsSpec)

end Rows
end Go.Proofs.Ytdieokpfkojoiaa
