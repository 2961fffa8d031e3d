/-
  No cell of these rows narrows 'for every input' (looked for: loops, veiled, ifaces, maps, wideKeys, modest, calm, conditions, laid).
  DERIVED. THE GIVEN ROWS OF THIS SEAT. 10 by the template 'for every input the law returns true; each argument reads behind the call as it read before'; 0 by the template 'total and deterministic' (their statements: YtcdlgohhjnpbmaaTotals.lean).
  GIVEN WITH THE SEED: the statements are not yours to turn. If you find one false, say at which input.
  Laid BY PROGRAM, IN A SANDBOX (cutbox-rows.mjs): the forced cells as the released guide's own fill.sh prints them over the translation 43e3d252a98be375… (all of the seat's roots in one cut). By AI agents, Wed Nov 11 2026. No macro, syntax, notation, axiom, sorry.
-/
import Derived.Test.YtcdlgohhjnpbmaaChecked
import GoSem.Claim
import GoSem.ClaimJoined
import GoSem.ClaimMapViews
import Derived.JoinedTies
import Derived.KernelRfl
namespace Go.Proofs.Ytcdlgohhjnpbmaa
/- THE CELL 'sum', in the pinned program and in every row, IS THE sha256 OF THE DUMP (.gsa) THAT YtcdlgohhjnpbmaaProg.lean LOADS. Nothing in Lean hashes anything: it is a label: what it is worth is what the hold of that sum in a sandbox is worth. -/
noncomputable def Try.pinned : Pinned := { name := "ytcdlgohhjnpbmaa", sum := "43e3d252a98be375c20b38f13a07bb5496941a680f9c3fc80e429ab4e48f615b", checked := Try.checked }
namespace Rows
def none {H : Type} : Left H := { results := [], args := [] }

/-- 'cairnfieldlaw.SpotTells': WHATEVER THE INPUT: true; the input reads as it did. -/
def spotTellsSpec : ChangeSpec := { name := "spotTells", fn := fun _ => fun
  | [d1, d2, d3, d4, d5] => { results := [.lit (.bool true)], args := [d1, d2, d3, d4, d5] }
  | _ => none }
def spotTellsRow : OpenClaim := { program := "ytcdlgohhjnpbmaa", sum := "43e3d252a98be375c20b38f13a07bb5496941a680f9c3fc80e429ab4e48f615b", func := "cairnfield/cairnfieldlaw.SpotTells", spec := "spotTells", unfollowed := true, recurses := true, apart := false }
def SpotTellsSaid : Prop := spotTellsRow.holds Try.pinned (OpenSpec.ofChange spotTellsSpec)

/-- ITS FALSE NEIGHBOUR: 'it returns false'. Refute it at one input. -/
def spotTellsWrong : ChangeSpec := { name := "spotTells", fn := fun _ => fun
  | [d1, d2, d3, d4, d5] => { results := [.lit (.bool false)], args := [d1, d2, d3, d4, d5] }
  | _ => none }
def SpotTellsWrongFalsely : Prop := spotTellsRow.holds Try.pinned (OpenSpec.ofChange spotTellsWrong)

/-- 'cairnfieldkeep.SpotRuns': WHATEVER THE INPUT: true; the input reads as it did. -/
def spotRunsSpec : ChangeSpec := { name := "spotRuns", fn := fun _ => fun
  | [d1, d2, d3] => { results := [.lit (.bool true)], args := [d1, d2, d3] }
  | _ => none }
def spotRunsRow : OpenClaim := { program := "ytcdlgohhjnpbmaa", sum := "43e3d252a98be375c20b38f13a07bb5496941a680f9c3fc80e429ab4e48f615b", func := "cairnfield/cairnfieldkeep.SpotRuns", spec := "spotRuns", unfollowed := true, recurses := true, apart := false }
def SpotRunsSaid : Prop := spotRunsRow.holds Try.pinned (OpenSpec.ofChange spotRunsSpec)

/-- ITS FALSE NEIGHBOUR: 'it returns false'. Refute it at one input. -/
def spotRunsWrong : ChangeSpec := { name := "spotRuns", fn := fun _ => fun
  | [d1, d2, d3] => { results := [.lit (.bool false)], args := [d1, d2, d3] }
  | _ => none }
def SpotRunsWrongFalsely : Prop := spotRunsRow.holds Try.pinned (OpenSpec.ofChange spotRunsWrong)

/-- 'cairnfieldkeep.SpotSets': WHATEVER THE INPUT: true; the input reads as it did. -/
def spotSetsSpec : ChangeSpec := { name := "spotSets", fn := fun _ => fun
  | [d1, d2, d3, d4, d5, d6] => { results := [.lit (.bool true)], args := [d1, d2, d3, d4, d5, d6] }
  | _ => none }
def spotSetsRow : OpenClaim := { program := "ytcdlgohhjnpbmaa", sum := "43e3d252a98be375c20b38f13a07bb5496941a680f9c3fc80e429ab4e48f615b", func := "cairnfield/cairnfieldkeep.SpotSets", spec := "spotSets", apart := false }
def SpotSetsSaid : Prop := spotSetsRow.holds Try.pinned (OpenSpec.ofChange spotSetsSpec)

/-- ITS FALSE NEIGHBOUR: 'it returns false'. Refute it at one input. -/
def spotSetsWrong : ChangeSpec := { name := "spotSets", fn := fun _ => fun
  | [d1, d2, d3, d4, d5, d6] => { results := [.lit (.bool false)], args := [d1, d2, d3, d4, d5, d6] }
  | _ => none }
def SpotSetsWrongFalsely : Prop := spotSetsRow.holds Try.pinned (OpenSpec.ofChange spotSetsWrong)

/-- 'cairnfieldkeep.SpotNext': WHATEVER THE INPUT: true; the input reads as it did. -/
def spotNextSpec : ChangeSpec := { name := "spotNext", fn := fun _ => fun
  | [d1, d2, d3, d4, d5] => { results := [.lit (.bool true)], args := [d1, d2, d3, d4, d5] }
  | _ => none }
def spotNextRow : OpenClaim := { program := "ytcdlgohhjnpbmaa", sum := "43e3d252a98be375c20b38f13a07bb5496941a680f9c3fc80e429ab4e48f615b", func := "cairnfield/cairnfieldkeep.SpotNext", spec := "spotNext", apart := false }
def SpotNextSaid : Prop := spotNextRow.holds Try.pinned (OpenSpec.ofChange spotNextSpec)

/-- ITS FALSE NEIGHBOUR: 'it returns false'. Refute it at one input. -/
def spotNextWrong : ChangeSpec := { name := "spotNext", fn := fun _ => fun
  | [d1, d2, d3, d4, d5] => { results := [.lit (.bool false)], args := [d1, d2, d3, d4, d5] }
  | _ => none }
def SpotNextWrongFalsely : Prop := spotNextRow.holds Try.pinned (OpenSpec.ofChange spotNextWrong)

/-- 'cairnfieldkeep.SpotCuts': WHATEVER THE INPUT: true; the input reads as it did. -/
def spotCutsSpec : ChangeSpec := { name := "spotCuts", fn := fun _ => fun
  | [d1, d2, d3, d4, d5] => { results := [.lit (.bool true)], args := [d1, d2, d3, d4, d5] }
  | _ => none }
def spotCutsRow : OpenClaim := { program := "ytcdlgohhjnpbmaa", sum := "43e3d252a98be375c20b38f13a07bb5496941a680f9c3fc80e429ab4e48f615b", func := "cairnfield/cairnfieldkeep.SpotCuts", spec := "spotCuts", apart := false }
def SpotCutsSaid : Prop := spotCutsRow.holds Try.pinned (OpenSpec.ofChange spotCutsSpec)

/-- ITS FALSE NEIGHBOUR: 'it returns false'. Refute it at one input. -/
def spotCutsWrong : ChangeSpec := { name := "spotCuts", fn := fun _ => fun
  | [d1, d2, d3, d4, d5] => { results := [.lit (.bool false)], args := [d1, d2, d3, d4, d5] }
  | _ => none }
def SpotCutsWrongFalsely : Prop := spotCutsRow.holds Try.pinned (OpenSpec.ofChange spotCutsWrong)

/-- 'cairnfieldlaw.TintTells': WHATEVER THE INPUT: true; the input reads as it did. -/
def tintTellsSpec : ChangeSpec := { name := "tintTells", fn := fun _ => fun
  | [d1, d2, d3] => { results := [.lit (.bool true)], args := [d1, d2, d3] }
  | _ => none }
def tintTellsRow : OpenClaim := { program := "ytcdlgohhjnpbmaa", sum := "43e3d252a98be375c20b38f13a07bb5496941a680f9c3fc80e429ab4e48f615b", func := "cairnfield/cairnfieldlaw.TintTells", spec := "tintTells", unfollowed := true, recurses := true, apart := false }
def TintTellsSaid : Prop := tintTellsRow.holds Try.pinned (OpenSpec.ofChange tintTellsSpec)

/-- ITS FALSE NEIGHBOUR: 'it returns false'. Refute it at one input. -/
def tintTellsWrong : ChangeSpec := { name := "tintTells", fn := fun _ => fun
  | [d1, d2, d3] => { results := [.lit (.bool false)], args := [d1, d2, d3] }
  | _ => none }
def TintTellsWrongFalsely : Prop := tintTellsRow.holds Try.pinned (OpenSpec.ofChange tintTellsWrong)

/-- 'cairnfieldkeep.TintClosed': WHATEVER THE INPUT: true; the input reads as it did. -/
def tintClosedSpec : ChangeSpec := { name := "tintClosed", fn := fun _ => fun
  | [d1, d2] => { results := [.lit (.bool true)], args := [d1, d2] }
  | _ => none }
def tintClosedRow : OpenClaim := { program := "ytcdlgohhjnpbmaa", sum := "43e3d252a98be375c20b38f13a07bb5496941a680f9c3fc80e429ab4e48f615b", func := "cairnfield/cairnfieldkeep.TintClosed", spec := "tintClosed", unfollowed := true, recurses := true, apart := false }
def TintClosedSaid : Prop := tintClosedRow.holds Try.pinned (OpenSpec.ofChange tintClosedSpec)

/-- ITS FALSE NEIGHBOUR: 'it returns false'. Refute it at one input. -/
def tintClosedWrong : ChangeSpec := { name := "tintClosed", fn := fun _ => fun
  | [d1, d2] => { results := [.lit (.bool false)], args := [d1, d2] }
  | _ => none }
def TintClosedWrongFalsely : Prop := tintClosedRow.holds Try.pinned (OpenSpec.ofChange tintClosedWrong)

/-- 'cairnfieldkeep.TintLeast': WHATEVER THE INPUT: true; the input reads as it did. -/
def tintLeastSpec : ChangeSpec := { name := "tintLeast", fn := fun _ => fun
  | [d1, d2, d3] => { results := [.lit (.bool true)], args := [d1, d2, d3] }
  | _ => none }
def tintLeastRow : OpenClaim := { program := "ytcdlgohhjnpbmaa", sum := "43e3d252a98be375c20b38f13a07bb5496941a680f9c3fc80e429ab4e48f615b", func := "cairnfield/cairnfieldkeep.TintLeast", spec := "tintLeast", unfollowed := true, recurses := true, apart := false }
def TintLeastSaid : Prop := tintLeastRow.holds Try.pinned (OpenSpec.ofChange tintLeastSpec)

/-- ITS FALSE NEIGHBOUR: 'it returns false'. Refute it at one input. -/
def tintLeastWrong : ChangeSpec := { name := "tintLeast", fn := fun _ => fun
  | [d1, d2, d3] => { results := [.lit (.bool false)], args := [d1, d2, d3] }
  | _ => none }
def TintLeastWrongFalsely : Prop := tintLeastRow.holds Try.pinned (OpenSpec.ofChange tintLeastWrong)

/-- 'cairnfieldkeep.TintBounded': WHATEVER THE INPUT: true; the input reads as it did. -/
def tintBoundedSpec : ChangeSpec := { name := "tintBounded", fn := fun _ => fun
  | [d1, d2, d3] => { results := [.lit (.bool true)], args := [d1, d2, d3] }
  | _ => none }
def tintBoundedRow : OpenClaim := { program := "ytcdlgohhjnpbmaa", sum := "43e3d252a98be375c20b38f13a07bb5496941a680f9c3fc80e429ab4e48f615b", func := "cairnfield/cairnfieldkeep.TintBounded", spec := "tintBounded", unfollowed := true, recurses := true, apart := false }
def TintBoundedSaid : Prop := tintBoundedRow.holds Try.pinned (OpenSpec.ofChange tintBoundedSpec)

/-- ITS FALSE NEIGHBOUR: 'it returns false'. Refute it at one input. -/
def tintBoundedWrong : ChangeSpec := { name := "tintBounded", fn := fun _ => fun
  | [d1, d2, d3] => { results := [.lit (.bool false)], args := [d1, d2, d3] }
  | _ => none }
def TintBoundedWrongFalsely : Prop := tintBoundedRow.holds Try.pinned (OpenSpec.ofChange tintBoundedWrong)

/-- 'cairnfieldkeep.TintTwo': WHATEVER THE INPUT: true; the input reads as it did. -/
def tintTwoSpec : ChangeSpec := { name := "tintTwo", fn := fun _ => fun
  | [d1, d2, d3] => { results := [.lit (.bool true)], args := [d1, d2, d3] }
  | _ => none }
def tintTwoRow : OpenClaim := { program := "ytcdlgohhjnpbmaa", sum := "43e3d252a98be375c20b38f13a07bb5496941a680f9c3fc80e429ab4e48f615b", func := "cairnfield/cairnfieldkeep.TintTwo", spec := "tintTwo", unfollowed := true, recurses := true, apart := false }
def TintTwoSaid : Prop := tintTwoRow.holds Try.pinned (OpenSpec.ofChange tintTwoSpec)

/-- ITS FALSE NEIGHBOUR: 'it returns false'. Refute it at one input. -/
def tintTwoWrong : ChangeSpec := { name := "tintTwo", fn := fun _ => fun
  | [d1, d2, d3] => { results := [.lit (.bool false)], args := [d1, d2, d3] }
  | _ => none }
def TintTwoWrongFalsely : Prop := tintTwoRow.holds Try.pinned (OpenSpec.ofChange tintTwoWrong)

/- THE SECOND FORM. 'bulk': how many values and letters a reading holds, each counted each time it is reached (what is shared counts as often as it is met; a slice's spare places count too). A statement '..UptoSaid' is the law's where the arguments, and the package variables that the reading takes, are together of bulk at most 1048576: NARROWER than '..Said'. Prove '..Said' where nothing that the law and all that it calls make is longer than what came in: it says more and counts as full. Else prove '..UptoSaid'. A law counts once. -/
mutual
def uptoBulk {H : Type} : DataW H → Nat
  | .lit (.string bytes) => bytes.length + 1
  | .lit _ => 1
  | .nil => 1
  | .ptr d => uptoBulk d + 1
  | .slice elems spare => uptoBulkAll elems + uptoBulkAll spare + 1
  | .agg parts => uptoBulkAll parts + 1
  | .iface _ d => uptoBulk d + 1
  | .map entries => uptoBulkEntries entries + 1
  | .held _ => 1
def uptoBulkAll {H : Type} : List (DataW H) → Nat
  | [] => 0
  | d :: r => uptoBulk d + uptoBulkAll r
def uptoBulkEntries {H : Type} : List (Lit × DataW H) → Nat
  | [] => 0
  | x :: r => uptoBulkEntry x + uptoBulkEntries r
def uptoBulkEntry {H : Type} : Lit × DataW H → Nat
  | (.string bytes, d) => bytes.length + uptoBulk d + 1
  | (_, d) => uptoBulk d + 1
 end
def uptoSmall : (H : Type) → List (DataW H) → Bool := fun _ ds => decide (uptoBulkAll ds ≤ 1048576)
def OpenSpec.upto (s : _root_.Go.ChangeSpec) : _root_.Go.OpenSpec := { _root_.Go.OpenSpec.ofChange s with cond := some uptoSmall }

/-- 'cairnfieldlaw.SpotTells', WHERE WHAT IT READS IS OF BULK AT MOST 1048576: true; the input reads as it did. -/
def spotTellsUptoRow : OpenClaim := { program := "ytcdlgohhjnpbmaa", sum := "43e3d252a98be375c20b38f13a07bb5496941a680f9c3fc80e429ab4e48f615b", func := "cairnfield/cairnfieldlaw.SpotTells", spec := "spotTells", unfollowed := true, recurses := true, apart := false, narrowed := true }
def SpotTellsUptoSaid : Prop := spotTellsUptoRow.holds Try.pinned (OpenSpec.upto spotTellsSpec)

/-- 'cairnfieldkeep.SpotRuns', WHERE WHAT IT READS IS OF BULK AT MOST 1048576: true; the input reads as it did. -/
def spotRunsUptoRow : OpenClaim := { program := "ytcdlgohhjnpbmaa", sum := "43e3d252a98be375c20b38f13a07bb5496941a680f9c3fc80e429ab4e48f615b", func := "cairnfield/cairnfieldkeep.SpotRuns", spec := "spotRuns", unfollowed := true, recurses := true, apart := false, narrowed := true }
def SpotRunsUptoSaid : Prop := spotRunsUptoRow.holds Try.pinned (OpenSpec.upto spotRunsSpec)

/-- 'cairnfieldkeep.SpotSets', WHERE WHAT IT READS IS OF BULK AT MOST 1048576: true; the input reads as it did. -/
def spotSetsUptoRow : OpenClaim := { program := "ytcdlgohhjnpbmaa", sum := "43e3d252a98be375c20b38f13a07bb5496941a680f9c3fc80e429ab4e48f615b", func := "cairnfield/cairnfieldkeep.SpotSets", spec := "spotSets", apart := false, narrowed := true }
def SpotSetsUptoSaid : Prop := spotSetsUptoRow.holds Try.pinned (OpenSpec.upto spotSetsSpec)

/-- 'cairnfieldkeep.SpotNext', WHERE WHAT IT READS IS OF BULK AT MOST 1048576: true; the input reads as it did. -/
def spotNextUptoRow : OpenClaim := { program := "ytcdlgohhjnpbmaa", sum := "43e3d252a98be375c20b38f13a07bb5496941a680f9c3fc80e429ab4e48f615b", func := "cairnfield/cairnfieldkeep.SpotNext", spec := "spotNext", apart := false, narrowed := true }
def SpotNextUptoSaid : Prop := spotNextUptoRow.holds Try.pinned (OpenSpec.upto spotNextSpec)

/-- 'cairnfieldkeep.SpotCuts', WHERE WHAT IT READS IS OF BULK AT MOST 1048576: true; the input reads as it did. -/
def spotCutsUptoRow : OpenClaim := { program := "ytcdlgohhjnpbmaa", sum := "43e3d252a98be375c20b38f13a07bb5496941a680f9c3fc80e429ab4e48f615b", func := "cairnfield/cairnfieldkeep.SpotCuts", spec := "spotCuts", apart := false, narrowed := true }
def SpotCutsUptoSaid : Prop := spotCutsUptoRow.holds Try.pinned (OpenSpec.upto spotCutsSpec)

/-- 'cairnfieldlaw.TintTells', WHERE WHAT IT READS IS OF BULK AT MOST 1048576: true; the input reads as it did. -/
def tintTellsUptoRow : OpenClaim := { program := "ytcdlgohhjnpbmaa", sum := "43e3d252a98be375c20b38f13a07bb5496941a680f9c3fc80e429ab4e48f615b", func := "cairnfield/cairnfieldlaw.TintTells", spec := "tintTells", unfollowed := true, recurses := true, apart := false, narrowed := true }
def TintTellsUptoSaid : Prop := tintTellsUptoRow.holds Try.pinned (OpenSpec.upto tintTellsSpec)

/-- 'cairnfieldkeep.TintClosed', WHERE WHAT IT READS IS OF BULK AT MOST 1048576: true; the input reads as it did. -/
def tintClosedUptoRow : OpenClaim := { program := "ytcdlgohhjnpbmaa", sum := "43e3d252a98be375c20b38f13a07bb5496941a680f9c3fc80e429ab4e48f615b", func := "cairnfield/cairnfieldkeep.TintClosed", spec := "tintClosed", unfollowed := true, recurses := true, apart := false, narrowed := true }
def TintClosedUptoSaid : Prop := tintClosedUptoRow.holds Try.pinned (OpenSpec.upto tintClosedSpec)

/-- 'cairnfieldkeep.TintLeast', WHERE WHAT IT READS IS OF BULK AT MOST 1048576: true; the input reads as it did. -/
def tintLeastUptoRow : OpenClaim := { program := "ytcdlgohhjnpbmaa", sum := "43e3d252a98be375c20b38f13a07bb5496941a680f9c3fc80e429ab4e48f615b", func := "cairnfield/cairnfieldkeep.TintLeast", spec := "tintLeast", unfollowed := true, recurses := true, apart := false, narrowed := true }
def TintLeastUptoSaid : Prop := tintLeastUptoRow.holds Try.pinned (OpenSpec.upto tintLeastSpec)

/-- 'cairnfieldkeep.TintBounded', WHERE WHAT IT READS IS OF BULK AT MOST 1048576: true; the input reads as it did. -/
def tintBoundedUptoRow : OpenClaim := { program := "ytcdlgohhjnpbmaa", sum := "43e3d252a98be375c20b38f13a07bb5496941a680f9c3fc80e429ab4e48f615b", func := "cairnfield/cairnfieldkeep.TintBounded", spec := "tintBounded", unfollowed := true, recurses := true, apart := false, narrowed := true }
def TintBoundedUptoSaid : Prop := tintBoundedUptoRow.holds Try.pinned (OpenSpec.upto tintBoundedSpec)

/-- 'cairnfieldkeep.TintTwo', WHERE WHAT IT READS IS OF BULK AT MOST 1048576: true; the input reads as it did. -/
def tintTwoUptoRow : OpenClaim := { program := "ytcdlgohhjnpbmaa", sum := "43e3d252a98be375c20b38f13a07bb5496941a680f9c3fc80e429ab4e48f615b", func := "cairnfield/cairnfieldkeep.TintTwo", spec := "tintTwo", unfollowed := true, recurses := true, apart := false, narrowed := true }
def TintTwoUptoSaid : Prop := tintTwoUptoRow.holds Try.pinned (OpenSpec.upto tintTwoSpec)

end Rows
end Go.Proofs.Ytcdlgohhjnpbmaa
