/-
  No cell of these rows narrows 'for every input' (looked for: loops, veiled, ifaces, maps, wideKeys, modest, calm, conditions, laid).
  DERIVED. THE GIVEN ROWS OF THIS SEAT. 4 by the template 'for every input the law returns true; each argument reads behind the call as it read before'; 0 by the template 'total and deterministic' (their statements: YtgagjdhokkkkjaaTotals.lean).
  GIVEN WITH THE SEED: the statements are not yours to turn. If you find one false, say at which input.
  Laid BY PROGRAM, IN A SANDBOX (cutbox-rows.mjs): the forced cells as the released guide's own fill.sh prints them over the translation 6c3fd925998b32c7… (all of the seat's roots in one cut). By AI agents, Wed Nov 11 2026. No macro, syntax, notation, axiom, sorry.
-/
import Derived.Test.YtgagjdhokkkkjaaChecked
import GoSem.Claim
import GoSem.ClaimJoined
import GoSem.ClaimMapViews
import Derived.JoinedTies
import Derived.KernelRfl
namespace Go.Proofs.Ytgagjdhokkkkjaa
/- THE CELL 'sum', in the pinned program and in every row, IS THE sha256 OF THE DUMP (.gsa) THAT YtgagjdhokkkkjaaProg.lean LOADS. Nothing in Lean hashes anything: it is a label: what it is worth is what the hold of that sum in a sandbox is worth. -/
noncomputable def Try.pinned : Pinned := { name := "ytgagjdhokkkkjaa", sum := "6c3fd925998b32c77266002c3a67c8c7875511918d76b5de81d2d3b8b984badd", checked := Try.checked }
namespace Rows
def none {H : Type} : Left H := { results := [], args := [] }

/-- 'cairnfieldlaw.TwinTells': WHATEVER THE INPUT: true; the input reads as it did. -/
def twinTellsSpec : ChangeSpec := { name := "twinTells", fn := fun _ => fun
  | [d1, d2, d3, d4] => { results := [.lit (.bool true)], args := [d1, d2, d3, d4] }
  | _ => none }
def twinTellsRow : OpenClaim := { program := "ytgagjdhokkkkjaa", sum := "6c3fd925998b32c77266002c3a67c8c7875511918d76b5de81d2d3b8b984badd", func := "cairnfield/cairnfieldlaw.TwinTells", spec := "twinTells", unfollowed := true, recurses := true, apart := false }
def TwinTellsSaid : Prop := twinTellsRow.holds Try.pinned (OpenSpec.ofChange twinTellsSpec)

/-- ITS FALSE NEIGHBOUR: 'it returns false'. Refute it at one input. -/
def twinTellsWrong : ChangeSpec := { name := "twinTells", fn := fun _ => fun
  | [d1, d2, d3, d4] => { results := [.lit (.bool false)], args := [d1, d2, d3, d4] }
  | _ => none }
def TwinTellsWrongFalsely : Prop := twinTellsRow.holds Try.pinned (OpenSpec.ofChange twinTellsWrong)

/-- 'cairnfieldkeep.TwinTaken': WHATEVER THE INPUT: true; the input reads as it did. -/
def twinTakenSpec : ChangeSpec := { name := "twinTaken", fn := fun _ => fun
  | [d1, d2] => { results := [.lit (.bool true)], args := [d1, d2] }
  | _ => none }
def twinTakenRow : OpenClaim := { program := "ytgagjdhokkkkjaa", sum := "6c3fd925998b32c77266002c3a67c8c7875511918d76b5de81d2d3b8b984badd", func := "cairnfield/cairnfieldkeep.TwinTaken", spec := "twinTaken", unfollowed := true, recurses := true, apart := false }
def TwinTakenSaid : Prop := twinTakenRow.holds Try.pinned (OpenSpec.ofChange twinTakenSpec)

/-- ITS FALSE NEIGHBOUR: 'it returns false'. Refute it at one input. -/
def twinTakenWrong : ChangeSpec := { name := "twinTaken", fn := fun _ => fun
  | [d1, d2] => { results := [.lit (.bool false)], args := [d1, d2] }
  | _ => none }
def TwinTakenWrongFalsely : Prop := twinTakenRow.holds Try.pinned (OpenSpec.ofChange twinTakenWrong)

/-- 'cairnfieldkeep.TwinBack': WHATEVER THE INPUT: true; the input reads as it did. -/
def twinBackSpec : ChangeSpec := { name := "twinBack", fn := fun _ => fun
  | [d1, d2] => { results := [.lit (.bool true)], args := [d1, d2] }
  | _ => none }
def twinBackRow : OpenClaim := { program := "ytgagjdhokkkkjaa", sum := "6c3fd925998b32c77266002c3a67c8c7875511918d76b5de81d2d3b8b984badd", func := "cairnfield/cairnfieldkeep.TwinBack", spec := "twinBack", unfollowed := true, recurses := true, apart := false }
def TwinBackSaid : Prop := twinBackRow.holds Try.pinned (OpenSpec.ofChange twinBackSpec)

/-- ITS FALSE NEIGHBOUR: 'it returns false'. Refute it at one input. -/
def twinBackWrong : ChangeSpec := { name := "twinBack", fn := fun _ => fun
  | [d1, d2] => { results := [.lit (.bool false)], args := [d1, d2] }
  | _ => none }
def TwinBackWrongFalsely : Prop := twinBackRow.holds Try.pinned (OpenSpec.ofChange twinBackWrong)

/-- 'cairnfieldkeep.TwinWhole': WHATEVER THE INPUT: true; the input reads as it did. -/
def twinWholeSpec : ChangeSpec := { name := "twinWhole", fn := fun _ => fun
  | [d] => { results := [.lit (.bool true)], args := [d] }
  | _ => none }
def twinWholeRow : OpenClaim := { program := "ytgagjdhokkkkjaa", sum := "6c3fd925998b32c77266002c3a67c8c7875511918d76b5de81d2d3b8b984badd", func := "cairnfield/cairnfieldkeep.TwinWhole", spec := "twinWhole", unfollowed := true, recurses := true, apart := false }
def TwinWholeSaid : Prop := twinWholeRow.holds Try.pinned (OpenSpec.ofChange twinWholeSpec)

/-- ITS FALSE NEIGHBOUR: 'it returns false'. Refute it at one input. -/
def twinWholeWrong : ChangeSpec := { name := "twinWhole", fn := fun _ => fun
  | [d] => { results := [.lit (.bool false)], args := [d] }
  | _ => none }
def TwinWholeWrongFalsely : Prop := twinWholeRow.holds Try.pinned (OpenSpec.ofChange twinWholeWrong)

/- THE SECOND FORM. 'bulk': how many values and letters a reading holds, each counted each time it is reached (what is shared counts as often as it is met; a slice's spare places count too). A statement '..UptoSaid' is the law's where the arguments, and the package variables that the reading takes, are together of bulk at most 1048576: NARROWER than '..Said'. Prove '..Said' where nothing that the law and all that it calls make is longer than what came in: it says more and counts as full. Else prove '..UptoSaid'. A law counts once. -/
mutual
def uptoBulk {H : Type} : DataW H → Nat
  | .lit (.string bytes) => bytes.length + 1
  | .lit _ => 1
  | .nil => 1
  | .ptr d => uptoBulk d + 1
  | .slice elems spare => uptoBulkAll elems + uptoBulkAll spare + 1
  | .agg parts => uptoBulkAll parts + 1
  | .iface _ d => uptoBulk d + 1
  | .map entries => uptoBulkEntries entries + 1
  | .held _ => 1
def uptoBulkAll {H : Type} : List (DataW H) → Nat
  | [] => 0
  | d :: r => uptoBulk d + uptoBulkAll r
def uptoBulkEntries {H : Type} : List (Lit × DataW H) → Nat
  | [] => 0
  | x :: r => uptoBulkEntry x + uptoBulkEntries r
def uptoBulkEntry {H : Type} : Lit × DataW H → Nat
  | (.string bytes, d) => bytes.length + uptoBulk d + 1
  | (_, d) => uptoBulk d + 1
 end
def uptoSmall : (H : Type) → List (DataW H) → Bool := fun _ ds => decide (uptoBulkAll ds ≤ 1048576)
def OpenSpec.upto (s : _root_.Go.ChangeSpec) : _root_.Go.OpenSpec := { _root_.Go.OpenSpec.ofChange s with cond := some uptoSmall }

/-- 'cairnfieldlaw.TwinTells', WHERE WHAT IT READS IS OF BULK AT MOST 1048576: true; the input reads as it did. -/
def twinTellsUptoRow : OpenClaim := { program := "ytgagjdhokkkkjaa", sum := "6c3fd925998b32c77266002c3a67c8c7875511918d76b5de81d2d3b8b984badd", func := "cairnfield/cairnfieldlaw.TwinTells", spec := "twinTells", unfollowed := true, recurses := true, apart := false, narrowed := true }
def TwinTellsUptoSaid : Prop := twinTellsUptoRow.holds Try.pinned (OpenSpec.upto twinTellsSpec)

/-- 'cairnfieldkeep.TwinTaken', WHERE WHAT IT READS IS OF BULK AT MOST 1048576: true; the input reads as it did. -/
def twinTakenUptoRow : OpenClaim := { program := "ytgagjdhokkkkjaa", sum := "6c3fd925998b32c77266002c3a67c8c7875511918d76b5de81d2d3b8b984badd", func := "cairnfield/cairnfieldkeep.TwinTaken", spec := "twinTaken", unfollowed := true, recurses := true, apart := false, narrowed := true }
def TwinTakenUptoSaid : Prop := twinTakenUptoRow.holds Try.pinned (OpenSpec.upto twinTakenSpec)

/-- 'cairnfieldkeep.TwinBack', WHERE WHAT IT READS IS OF BULK AT MOST 1048576: true; the input reads as it did. -/
def twinBackUptoRow : OpenClaim := { program := "ytgagjdhokkkkjaa", sum := "6c3fd925998b32c77266002c3a67c8c7875511918d76b5de81d2d3b8b984badd", func := "cairnfield/cairnfieldkeep.TwinBack", spec := "twinBack", unfollowed := true, recurses := true, apart := false, narrowed := true }
def TwinBackUptoSaid : Prop := twinBackUptoRow.holds Try.pinned (OpenSpec.upto twinBackSpec)

/-- 'cairnfieldkeep.TwinWhole', WHERE WHAT IT READS IS OF BULK AT MOST 1048576: true; the input reads as it did. -/
def twinWholeUptoRow : OpenClaim := { program := "ytgagjdhokkkkjaa", sum := "6c3fd925998b32c77266002c3a67c8c7875511918d76b5de81d2d3b8b984badd", func := "cairnfield/cairnfieldkeep.TwinWhole", spec := "twinWhole", unfollowed := true, recurses := true, apart := false, narrowed := true }
def TwinWholeUptoSaid : Prop := twinWholeUptoRow.holds Try.pinned (OpenSpec.upto twinWholeSpec)

end Rows
end Go.Proofs.Ytgagjdhokkkkjaa
