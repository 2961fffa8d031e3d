/-
  No cell of these rows narrows 'for every input' (looked for: loops, veiled, ifaces, maps, wideKeys, modest, calm, conditions, laid).
  DERIVED. THE GIVEN ROWS OF THIS SEAT. 12 by the template 'for every input the law returns true; each argument reads behind the call as it read before'; 0 by the template 'total and deterministic' (their statements: YtjngimjfofplpaaTotals.lean).
  GIVEN WITH THE SEED: the statements are not yours to turn. If you find one false, say at which input.
  Laid BY PROGRAM, IN A SANDBOX (cutbox-rows.mjs): the forced cells as the released guide's own fill.sh prints them over the translation 82dce3a4c4f8f1b3… (all of the seat's roots in one cut). By AI agents, Wed Nov 11 2026. No macro, syntax, notation, axiom, sorry.
-/
import Derived.Test.YtjngimjfofplpaaChecked
import GoSem.Claim
import GoSem.ClaimJoined
import GoSem.ClaimMapViews
import Derived.JoinedTies
import Derived.KernelRfl
namespace Go.Proofs.Ytjngimjfofplpaa
/- THE CELL 'sum', in the pinned program and in every row, IS THE sha256 OF THE DUMP (.gsa) THAT YtjngimjfofplpaaProg.lean LOADS. Nothing in Lean hashes anything: it is a label: what it is worth is what the hold of that sum in a sandbox is worth. -/
noncomputable def Try.pinned : Pinned := { name := "ytjngimjfofplpaa", sum := "82dce3a4c4f8f1b317b01c9a5a3058e32b3884dc14835b74c97bcc64fea4b0f1", checked := Try.checked }
namespace Rows
def none {H : Type} : Left H := { results := [], args := [] }

/-- 'cairnfieldlaw.Names': WHATEVER THE INPUT: true; the input reads as it did. -/
def namesSpec : ChangeSpec := { name := "names", fn := fun _ => fun
  | [] => { results := [.lit (.bool true)], args := [] }
  | _ => none }
def namesRow : OpenClaim := { program := "ytjngimjfofplpaa", sum := "82dce3a4c4f8f1b317b01c9a5a3058e32b3884dc14835b74c97bcc64fea4b0f1", func := "cairnfield/cairnfieldlaw.Names", spec := "names", apart := false }
def NamesSaid : Prop := namesRow.holds Try.pinned (OpenSpec.ofChange namesSpec)

/-- ITS FALSE NEIGHBOUR: 'it returns false'. Refute it at one input. -/
def namesWrong : ChangeSpec := { name := "names", fn := fun _ => fun
  | [] => { results := [.lit (.bool false)], args := [] }
  | _ => none }
def NamesWrongFalsely : Prop := namesRow.holds Try.pinned (OpenSpec.ofChange namesWrong)

/-- 'cairnfieldlaw.WordTells': WHATEVER THE INPUT: true; the input reads as it did. -/
def wordTellsSpec : ChangeSpec := { name := "wordTells", fn := fun _ => fun
  | [d1, d2, d3, d4, d5] => { results := [.lit (.bool true)], args := [d1, d2, d3, d4, d5] }
  | _ => none }
def wordTellsRow : OpenClaim := { program := "ytjngimjfofplpaa", sum := "82dce3a4c4f8f1b317b01c9a5a3058e32b3884dc14835b74c97bcc64fea4b0f1", func := "cairnfield/cairnfieldlaw.WordTells", spec := "wordTells", apart := false }
def WordTellsSaid : Prop := wordTellsRow.holds Try.pinned (OpenSpec.ofChange wordTellsSpec)

/-- ITS FALSE NEIGHBOUR: 'it returns false'. Refute it at one input. -/
def wordTellsWrong : ChangeSpec := { name := "wordTells", fn := fun _ => fun
  | [d1, d2, d3, d4, d5] => { results := [.lit (.bool false)], args := [d1, d2, d3, d4, d5] }
  | _ => none }
def WordTellsWrongFalsely : Prop := wordTellsRow.holds Try.pinned (OpenSpec.ofChange wordTellsWrong)

/-- 'cairnfieldlaw.WordBytes': WHATEVER THE INPUT: true; the input reads as it did. -/
def wordBytesSpec : ChangeSpec := { name := "wordBytes", fn := fun _ => fun
  | [d1, d2] => { results := [.lit (.bool true)], args := [d1, d2] }
  | _ => none }
def wordBytesRow : OpenClaim := { program := "ytjngimjfofplpaa", sum := "82dce3a4c4f8f1b317b01c9a5a3058e32b3884dc14835b74c97bcc64fea4b0f1", func := "cairnfield/cairnfieldlaw.WordBytes", spec := "wordBytes", apart := false }
def WordBytesSaid : Prop := wordBytesRow.holds Try.pinned (OpenSpec.ofChange wordBytesSpec)

/-- ITS FALSE NEIGHBOUR: 'it returns false'. Refute it at one input. -/
def wordBytesWrong : ChangeSpec := { name := "wordBytes", fn := fun _ => fun
  | [d1, d2] => { results := [.lit (.bool false)], args := [d1, d2] }
  | _ => none }
def WordBytesWrongFalsely : Prop := wordBytesRow.holds Try.pinned (OpenSpec.ofChange wordBytesWrong)

/-- 'cairnfieldkeep.WordReads': WHATEVER THE INPUT: true; the input reads as it did. -/
def wordReadsSpec : ChangeSpec := { name := "wordReads", fn := fun _ => fun
  | [d1, d2, d3, d4] => { results := [.lit (.bool true)], args := [d1, d2, d3, d4] }
  | _ => none }
def wordReadsRow : OpenClaim := { program := "ytjngimjfofplpaa", sum := "82dce3a4c4f8f1b317b01c9a5a3058e32b3884dc14835b74c97bcc64fea4b0f1", func := "cairnfield/cairnfieldkeep.WordReads", spec := "wordReads", apart := false }
def WordReadsSaid : Prop := wordReadsRow.holds Try.pinned (OpenSpec.ofChange wordReadsSpec)

/-- ITS FALSE NEIGHBOUR: 'it returns false'. Refute it at one input. -/
def wordReadsWrong : ChangeSpec := { name := "wordReads", fn := fun _ => fun
  | [d1, d2, d3, d4] => { results := [.lit (.bool false)], args := [d1, d2, d3, d4] }
  | _ => none }
def WordReadsWrongFalsely : Prop := wordReadsRow.holds Try.pinned (OpenSpec.ofChange wordReadsWrong)

/-- 'cairnfieldkeep.WordMoves': WHATEVER THE INPUT: true; the input reads as it did. -/
def wordMovesSpec : ChangeSpec := { name := "wordMoves", fn := fun _ => fun
  | [d1, d2, d3, d4, d5] => { results := [.lit (.bool true)], args := [d1, d2, d3, d4, d5] }
  | _ => none }
def wordMovesRow : OpenClaim := { program := "ytjngimjfofplpaa", sum := "82dce3a4c4f8f1b317b01c9a5a3058e32b3884dc14835b74c97bcc64fea4b0f1", func := "cairnfield/cairnfieldkeep.WordMoves", spec := "wordMoves", apart := false }
def WordMovesSaid : Prop := wordMovesRow.holds Try.pinned (OpenSpec.ofChange wordMovesSpec)

/-- ITS FALSE NEIGHBOUR: 'it returns false'. Refute it at one input. -/
def wordMovesWrong : ChangeSpec := { name := "wordMoves", fn := fun _ => fun
  | [d1, d2, d3, d4, d5] => { results := [.lit (.bool false)], args := [d1, d2, d3, d4, d5] }
  | _ => none }
def WordMovesWrongFalsely : Prop := wordMovesRow.holds Try.pinned (OpenSpec.ofChange wordMovesWrong)

/-- 'cairnfieldkeep.WordApart': WHATEVER THE INPUT: true; the input reads as it did. -/
def wordApartSpec : ChangeSpec := { name := "wordApart", fn := fun _ => fun
  | [d1, d2, d3, d4, d5, d6, d7] => { results := [.lit (.bool true)], args := [d1, d2, d3, d4, d5, d6, d7] }
  | _ => none }
def wordApartRow : OpenClaim := { program := "ytjngimjfofplpaa", sum := "82dce3a4c4f8f1b317b01c9a5a3058e32b3884dc14835b74c97bcc64fea4b0f1", func := "cairnfield/cairnfieldkeep.WordApart", spec := "wordApart", unfollowed := true, recurses := true, apart := false }
def WordApartSaid : Prop := wordApartRow.holds Try.pinned (OpenSpec.ofChange wordApartSpec)

/-- ITS FALSE NEIGHBOUR: 'it returns false'. Refute it at one input. -/
def wordApartWrong : ChangeSpec := { name := "wordApart", fn := fun _ => fun
  | [d1, d2, d3, d4, d5, d6, d7] => { results := [.lit (.bool false)], args := [d1, d2, d3, d4, d5, d6, d7] }
  | _ => none }
def WordApartWrongFalsely : Prop := wordApartRow.holds Try.pinned (OpenSpec.ofChange wordApartWrong)

/-- 'cairnfieldkeep.WordBack': WHATEVER THE INPUT: true; the input reads as it did. -/
def wordBackSpec : ChangeSpec := { name := "wordBack", fn := fun _ => fun
  | [d1, d2] => { results := [.lit (.bool true)], args := [d1, d2] }
  | _ => none }
def wordBackRow : OpenClaim := { program := "ytjngimjfofplpaa", sum := "82dce3a4c4f8f1b317b01c9a5a3058e32b3884dc14835b74c97bcc64fea4b0f1", func := "cairnfield/cairnfieldkeep.WordBack", spec := "wordBack", apart := false }
def WordBackSaid : Prop := wordBackRow.holds Try.pinned (OpenSpec.ofChange wordBackSpec)

/-- ITS FALSE NEIGHBOUR: 'it returns false'. Refute it at one input. -/
def wordBackWrong : ChangeSpec := { name := "wordBack", fn := fun _ => fun
  | [d1, d2] => { results := [.lit (.bool false)], args := [d1, d2] }
  | _ => none }
def WordBackWrongFalsely : Prop := wordBackRow.holds Try.pinned (OpenSpec.ofChange wordBackWrong)

/-- 'cairnfieldlaw.SpotTells': WHATEVER THE INPUT: true; the input reads as it did. -/
def spotTellsSpec : ChangeSpec := { name := "spotTells", fn := fun _ => fun
  | [d1, d2, d3, d4, d5] => { results := [.lit (.bool true)], args := [d1, d2, d3, d4, d5] }
  | _ => none }
def spotTellsRow : OpenClaim := { program := "ytjngimjfofplpaa", sum := "82dce3a4c4f8f1b317b01c9a5a3058e32b3884dc14835b74c97bcc64fea4b0f1", func := "cairnfield/cairnfieldlaw.SpotTells", spec := "spotTells", unfollowed := true, recurses := true, apart := false }
def SpotTellsSaid : Prop := spotTellsRow.holds Try.pinned (OpenSpec.ofChange spotTellsSpec)

/-- ITS FALSE NEIGHBOUR: 'it returns false'. Refute it at one input. -/
def spotTellsWrong : ChangeSpec := { name := "spotTells", fn := fun _ => fun
  | [d1, d2, d3, d4, d5] => { results := [.lit (.bool false)], args := [d1, d2, d3, d4, d5] }
  | _ => none }
def SpotTellsWrongFalsely : Prop := spotTellsRow.holds Try.pinned (OpenSpec.ofChange spotTellsWrong)

/-- 'cairnfieldkeep.SpotRuns': WHATEVER THE INPUT: true; the input reads as it did. -/
def spotRunsSpec : ChangeSpec := { name := "spotRuns", fn := fun _ => fun
  | [d1, d2, d3] => { results := [.lit (.bool true)], args := [d1, d2, d3] }
  | _ => none }
def spotRunsRow : OpenClaim := { program := "ytjngimjfofplpaa", sum := "82dce3a4c4f8f1b317b01c9a5a3058e32b3884dc14835b74c97bcc64fea4b0f1", func := "cairnfield/cairnfieldkeep.SpotRuns", spec := "spotRuns", unfollowed := true, recurses := true, apart := false }
def SpotRunsSaid : Prop := spotRunsRow.holds Try.pinned (OpenSpec.ofChange spotRunsSpec)

/-- ITS FALSE NEIGHBOUR: 'it returns false'. Refute it at one input. -/
def spotRunsWrong : ChangeSpec := { name := "spotRuns", fn := fun _ => fun
  | [d1, d2, d3] => { results := [.lit (.bool false)], args := [d1, d2, d3] }
  | _ => none }
def SpotRunsWrongFalsely : Prop := spotRunsRow.holds Try.pinned (OpenSpec.ofChange spotRunsWrong)

/-- 'cairnfieldkeep.SpotSets': WHATEVER THE INPUT: true; the input reads as it did. -/
def spotSetsSpec : ChangeSpec := { name := "spotSets", fn := fun _ => fun
  | [d1, d2, d3, d4, d5, d6] => { results := [.lit (.bool true)], args := [d1, d2, d3, d4, d5, d6] }
  | _ => none }
def spotSetsRow : OpenClaim := { program := "ytjngimjfofplpaa", sum := "82dce3a4c4f8f1b317b01c9a5a3058e32b3884dc14835b74c97bcc64fea4b0f1", func := "cairnfield/cairnfieldkeep.SpotSets", spec := "spotSets", apart := false }
def SpotSetsSaid : Prop := spotSetsRow.holds Try.pinned (OpenSpec.ofChange spotSetsSpec)

/-- ITS FALSE NEIGHBOUR: 'it returns false'. Refute it at one input. -/
def spotSetsWrong : ChangeSpec := { name := "spotSets", fn := fun _ => fun
  | [d1, d2, d3, d4, d5, d6] => { results := [.lit (.bool false)], args := [d1, d2, d3, d4, d5, d6] }
  | _ => none }
def SpotSetsWrongFalsely : Prop := spotSetsRow.holds Try.pinned (OpenSpec.ofChange spotSetsWrong)

/-- 'cairnfieldkeep.SpotNext': WHATEVER THE INPUT: true; the input reads as it did. -/
def spotNextSpec : ChangeSpec := { name := "spotNext", fn := fun _ => fun
  | [d1, d2, d3, d4, d5] => { results := [.lit (.bool true)], args := [d1, d2, d3, d4, d5] }
  | _ => none }
def spotNextRow : OpenClaim := { program := "ytjngimjfofplpaa", sum := "82dce3a4c4f8f1b317b01c9a5a3058e32b3884dc14835b74c97bcc64fea4b0f1", func := "cairnfield/cairnfieldkeep.SpotNext", spec := "spotNext", apart := false }
def SpotNextSaid : Prop := spotNextRow.holds Try.pinned (OpenSpec.ofChange spotNextSpec)

/-- ITS FALSE NEIGHBOUR: 'it returns false'. Refute it at one input. -/
def spotNextWrong : ChangeSpec := { name := "spotNext", fn := fun _ => fun
  | [d1, d2, d3, d4, d5] => { results := [.lit (.bool false)], args := [d1, d2, d3, d4, d5] }
  | _ => none }
def SpotNextWrongFalsely : Prop := spotNextRow.holds Try.pinned (OpenSpec.ofChange spotNextWrong)

/-- 'cairnfieldkeep.SpotCuts': WHATEVER THE INPUT: true; the input reads as it did. -/
def spotCutsSpec : ChangeSpec := { name := "spotCuts", fn := fun _ => fun
  | [d1, d2, d3, d4, d5] => { results := [.lit (.bool true)], args := [d1, d2, d3, d4, d5] }
  | _ => none }
def spotCutsRow : OpenClaim := { program := "ytjngimjfofplpaa", sum := "82dce3a4c4f8f1b317b01c9a5a3058e32b3884dc14835b74c97bcc64fea4b0f1", func := "cairnfield/cairnfieldkeep.SpotCuts", spec := "spotCuts", apart := false }
def SpotCutsSaid : Prop := spotCutsRow.holds Try.pinned (OpenSpec.ofChange spotCutsSpec)

/-- ITS FALSE NEIGHBOUR: 'it returns false'. Refute it at one input. -/
def spotCutsWrong : ChangeSpec := { name := "spotCuts", fn := fun _ => fun
  | [d1, d2, d3, d4, d5] => { results := [.lit (.bool false)], args := [d1, d2, d3, d4, d5] }
  | _ => none }
def SpotCutsWrongFalsely : Prop := spotCutsRow.holds Try.pinned (OpenSpec.ofChange spotCutsWrong)

/- THE SECOND FORM. 'bulk': how many values and letters a reading holds, each counted each time it is reached (what is shared counts as often as it is met; a slice's spare places count too). A statement '..UptoSaid' is the law's where the arguments, and the package variables that the reading takes, are together of bulk at most 1048576: NARROWER than '..Said'. Prove '..Said' where nothing that the law and all that it calls make is longer than what came in: it says more and counts as full. Else prove '..UptoSaid'. A law counts once. -/
mutual
def uptoBulk {H : Type} : DataW H → Nat
  | .lit (.string bytes) => bytes.length + 1
  | .lit _ => 1
  | .nil => 1
  | .ptr d => uptoBulk d + 1
  | .slice elems spare => uptoBulkAll elems + uptoBulkAll spare + 1
  | .agg parts => uptoBulkAll parts + 1
  | .iface _ d => uptoBulk d + 1
  | .map entries => uptoBulkEntries entries + 1
  | .held _ => 1
def uptoBulkAll {H : Type} : List (DataW H) → Nat
  | [] => 0
  | d :: r => uptoBulk d + uptoBulkAll r
def uptoBulkEntries {H : Type} : List (Lit × DataW H) → Nat
  | [] => 0
  | x :: r => uptoBulkEntry x + uptoBulkEntries r
def uptoBulkEntry {H : Type} : Lit × DataW H → Nat
  | (.string bytes, d) => bytes.length + uptoBulk d + 1
  | (_, d) => uptoBulk d + 1
 end
def uptoSmall : (H : Type) → List (DataW H) → Bool := fun _ ds => decide (uptoBulkAll ds ≤ 1048576)
def OpenSpec.upto (s : _root_.Go.ChangeSpec) : _root_.Go.OpenSpec := { _root_.Go.OpenSpec.ofChange s with cond := some uptoSmall }

/-- 'cairnfieldlaw.Names', WHERE WHAT IT READS IS OF BULK AT MOST 1048576: true; the input reads as it did. -/
def namesUptoRow : OpenClaim := { program := "ytjngimjfofplpaa", sum := "82dce3a4c4f8f1b317b01c9a5a3058e32b3884dc14835b74c97bcc64fea4b0f1", func := "cairnfield/cairnfieldlaw.Names", spec := "names", apart := false, narrowed := true }
def NamesUptoSaid : Prop := namesUptoRow.holds Try.pinned (OpenSpec.upto namesSpec)

/-- 'cairnfieldlaw.WordTells', WHERE WHAT IT READS IS OF BULK AT MOST 1048576: true; the input reads as it did. -/
def wordTellsUptoRow : OpenClaim := { program := "ytjngimjfofplpaa", sum := "82dce3a4c4f8f1b317b01c9a5a3058e32b3884dc14835b74c97bcc64fea4b0f1", func := "cairnfield/cairnfieldlaw.WordTells", spec := "wordTells", apart := false, narrowed := true }
def WordTellsUptoSaid : Prop := wordTellsUptoRow.holds Try.pinned (OpenSpec.upto wordTellsSpec)

/-- 'cairnfieldlaw.WordBytes', WHERE WHAT IT READS IS OF BULK AT MOST 1048576: true; the input reads as it did. -/
def wordBytesUptoRow : OpenClaim := { program := "ytjngimjfofplpaa", sum := "82dce3a4c4f8f1b317b01c9a5a3058e32b3884dc14835b74c97bcc64fea4b0f1", func := "cairnfield/cairnfieldlaw.WordBytes", spec := "wordBytes", apart := false, narrowed := true }
def WordBytesUptoSaid : Prop := wordBytesUptoRow.holds Try.pinned (OpenSpec.upto wordBytesSpec)

/-- 'cairnfieldkeep.WordReads', WHERE WHAT IT READS IS OF BULK AT MOST 1048576: true; the input reads as it did. -/
def wordReadsUptoRow : OpenClaim := { program := "ytjngimjfofplpaa", sum := "82dce3a4c4f8f1b317b01c9a5a3058e32b3884dc14835b74c97bcc64fea4b0f1", func := "cairnfield/cairnfieldkeep.WordReads", spec := "wordReads", apart := false, narrowed := true }
def WordReadsUptoSaid : Prop := wordReadsUptoRow.holds Try.pinned (OpenSpec.upto wordReadsSpec)

/-- 'cairnfieldkeep.WordMoves', WHERE WHAT IT READS IS OF BULK AT MOST 1048576: true; the input reads as it did. -/
def wordMovesUptoRow : OpenClaim := { program := "ytjngimjfofplpaa", sum := "82dce3a4c4f8f1b317b01c9a5a3058e32b3884dc14835b74c97bcc64fea4b0f1", func := "cairnfield/cairnfieldkeep.WordMoves", spec := "wordMoves", apart := false, narrowed := true }
def WordMovesUptoSaid : Prop := wordMovesUptoRow.holds Try.pinned (OpenSpec.upto wordMovesSpec)

/-- 'cairnfieldkeep.WordApart', WHERE WHAT IT READS IS OF BULK AT MOST 1048576: true; the input reads as it did. -/
def wordApartUptoRow : OpenClaim := { program := "ytjngimjfofplpaa", sum := "82dce3a4c4f8f1b317b01c9a5a3058e32b3884dc14835b74c97bcc64fea4b0f1", func := "cairnfield/cairnfieldkeep.WordApart", spec := "wordApart", unfollowed := true, recurses := true, apart := false, narrowed := true }
def WordApartUptoSaid : Prop := wordApartUptoRow.holds Try.pinned (OpenSpec.upto wordApartSpec)

/-- 'cairnfieldkeep.WordBack', WHERE WHAT IT READS IS OF BULK AT MOST 1048576: true; the input reads as it did. -/
def wordBackUptoRow : OpenClaim := { program := "ytjngimjfofplpaa", sum := "82dce3a4c4f8f1b317b01c9a5a3058e32b3884dc14835b74c97bcc64fea4b0f1", func := "cairnfield/cairnfieldkeep.WordBack", spec := "wordBack", apart := false, narrowed := true }
def WordBackUptoSaid : Prop := wordBackUptoRow.holds Try.pinned (OpenSpec.upto wordBackSpec)

/-- 'cairnfieldlaw.SpotTells', WHERE WHAT IT READS IS OF BULK AT MOST 1048576: true; the input reads as it did. -/
def spotTellsUptoRow : OpenClaim := { program := "ytjngimjfofplpaa", sum := "82dce3a4c4f8f1b317b01c9a5a3058e32b3884dc14835b74c97bcc64fea4b0f1", func := "cairnfield/cairnfieldlaw.SpotTells", spec := "spotTells", unfollowed := true, recurses := true, apart := false, narrowed := true }
def SpotTellsUptoSaid : Prop := spotTellsUptoRow.holds Try.pinned (OpenSpec.upto spotTellsSpec)

/-- 'cairnfieldkeep.SpotRuns', WHERE WHAT IT READS IS OF BULK AT MOST 1048576: true; the input reads as it did. -/
def spotRunsUptoRow : OpenClaim := { program := "ytjngimjfofplpaa", sum := "82dce3a4c4f8f1b317b01c9a5a3058e32b3884dc14835b74c97bcc64fea4b0f1", func := "cairnfield/cairnfieldkeep.SpotRuns", spec := "spotRuns", unfollowed := true, recurses := true, apart := false, narrowed := true }
def SpotRunsUptoSaid : Prop := spotRunsUptoRow.holds Try.pinned (OpenSpec.upto spotRunsSpec)

/-- 'cairnfieldkeep.SpotSets', WHERE WHAT IT READS IS OF BULK AT MOST 1048576: true; the input reads as it did. -/
def spotSetsUptoRow : OpenClaim := { program := "ytjngimjfofplpaa", sum := "82dce3a4c4f8f1b317b01c9a5a3058e32b3884dc14835b74c97bcc64fea4b0f1", func := "cairnfield/cairnfieldkeep.SpotSets", spec := "spotSets", apart := false, narrowed := true }
def SpotSetsUptoSaid : Prop := spotSetsUptoRow.holds Try.pinned (OpenSpec.upto spotSetsSpec)

/-- 'cairnfieldkeep.SpotNext', WHERE WHAT IT READS IS OF BULK AT MOST 1048576: true; the input reads as it did. -/
def spotNextUptoRow : OpenClaim := { program := "ytjngimjfofplpaa", sum := "82dce3a4c4f8f1b317b01c9a5a3058e32b3884dc14835b74c97bcc64fea4b0f1", func := "cairnfield/cairnfieldkeep.SpotNext", spec := "spotNext", apart := false, narrowed := true }
def SpotNextUptoSaid : Prop := spotNextUptoRow.holds Try.pinned (OpenSpec.upto spotNextSpec)

/-- 'cairnfieldkeep.SpotCuts', WHERE WHAT IT READS IS OF BULK AT MOST 1048576: true; the input reads as it did. -/
def spotCutsUptoRow : OpenClaim := { program := "ytjngimjfofplpaa", sum := "82dce3a4c4f8f1b317b01c9a5a3058e32b3884dc14835b74c97bcc64fea4b0f1", func := "cairnfield/cairnfieldkeep.SpotCuts", spec := "spotCuts", apart := false, narrowed := true }
def SpotCutsUptoSaid : Prop := spotCutsUptoRow.holds Try.pinned (OpenSpec.upto spotCutsSpec)

end Rows
end Go.Proofs.Ytjngimjfofplpaa
