/-
  No cell of these rows narrows 'for every input' (looked for: loops, veiled, ifaces, maps, wideKeys, modest, calm, conditions, laid).
  DERIVED. THE GIVEN ROWS OF THIS SEAT. 8 by the template 'for every input the law returns true; each argument reads behind the call as it read before'; 0 by the template 'total and deterministic' (their statements: YtknbbondofijeaaTotals.lean).
  GIVEN WITH THE SEED: the statements are not yours to turn. If you find one false, say at which input.
  Laid BY PROGRAM, IN A SANDBOX (cutbox-rows.mjs): the forced cells as the released guide's own fill.sh prints them over the translation a68718e1d9a42263… (all of the seat's roots in one cut). By AI agents, Wed Nov 11 2026. No macro, syntax, notation, axiom, sorry.
-/
import Derived.Test.YtknbbondofijeaaChecked
import GoSem.Claim
import GoSem.ClaimJoined
import GoSem.ClaimMapViews
import Derived.JoinedTies
import Derived.KernelRfl
namespace Go.Proofs.Ytknbbondofijeaa
/- THE CELL 'sum', in the pinned program and in every row, IS THE sha256 OF THE DUMP (.gsa) THAT YtknbbondofijeaaProg.lean LOADS. Nothing in Lean hashes anything: it is a label: what it is worth is what the hold of that sum in a sandbox is worth. -/
noncomputable def Try.pinned : Pinned := { name := "ytknbbondofijeaa", sum := "a68718e1d9a42263f22b04a4238514355db72ccee124c49a94833b2cd71c5b13", checked := Try.checked }
namespace Rows
def none {H : Type} : Left H := { results := [], args := [] }

/-- 'cairnfieldlaw.StepStarts': WHATEVER THE INPUT: true; the input reads as it did. -/
def stepStartsSpec : ChangeSpec := { name := "stepStarts", fn := fun _ => fun
  | [d1, d2, d3] => { results := [.lit (.bool true)], args := [d1, d2, d3] }
  | _ => none }
def stepStartsRow : OpenClaim := { program := "ytknbbondofijeaa", sum := "a68718e1d9a42263f22b04a4238514355db72ccee124c49a94833b2cd71c5b13", func := "cairnfield/cairnfieldlaw.StepStarts", spec := "stepStarts", unfollowed := true, recurses := true, apart := false }
def StepStartsSaid : Prop := stepStartsRow.holds Try.pinned (OpenSpec.ofChange stepStartsSpec)

/-- ITS FALSE NEIGHBOUR: 'it returns false'. Refute it at one input. -/
def stepStartsWrong : ChangeSpec := { name := "stepStarts", fn := fun _ => fun
  | [d1, d2, d3] => { results := [.lit (.bool false)], args := [d1, d2, d3] }
  | _ => none }
def StepStartsWrongFalsely : Prop := stepStartsRow.holds Try.pinned (OpenSpec.ofChange stepStartsWrong)

/-- 'cairnfieldlaw.StepTells': WHATEVER THE INPUT: true; the input reads as it did. -/
def stepTellsSpec : ChangeSpec := { name := "stepTells", fn := fun _ => fun
  | [d1, d2, d3, d4] => { results := [.lit (.bool true)], args := [d1, d2, d3, d4] }
  | _ => none }
def stepTellsRow : OpenClaim := { program := "ytknbbondofijeaa", sum := "a68718e1d9a42263f22b04a4238514355db72ccee124c49a94833b2cd71c5b13", func := "cairnfield/cairnfieldlaw.StepTells", spec := "stepTells", unfollowed := true, recurses := true, apart := false }
def StepTellsSaid : Prop := stepTellsRow.holds Try.pinned (OpenSpec.ofChange stepTellsSpec)

/-- ITS FALSE NEIGHBOUR: 'it returns false'. Refute it at one input. -/
def stepTellsWrong : ChangeSpec := { name := "stepTells", fn := fun _ => fun
  | [d1, d2, d3, d4] => { results := [.lit (.bool false)], args := [d1, d2, d3, d4] }
  | _ => none }
def StepTellsWrongFalsely : Prop := stepTellsRow.holds Try.pinned (OpenSpec.ofChange stepTellsWrong)

/-- 'cairnfieldkeep.StepAll': WHATEVER THE INPUT: true; the input reads as it did. -/
def stepAllSpec : ChangeSpec := { name := "stepAll", fn := fun _ => fun
  | [d1, d2] => { results := [.lit (.bool true)], args := [d1, d2] }
  | _ => none }
def stepAllRow : OpenClaim := { program := "ytknbbondofijeaa", sum := "a68718e1d9a42263f22b04a4238514355db72ccee124c49a94833b2cd71c5b13", func := "cairnfield/cairnfieldkeep.StepAll", spec := "stepAll", unfollowed := true, recurses := true, apart := false }
def StepAllSaid : Prop := stepAllRow.holds Try.pinned (OpenSpec.ofChange stepAllSpec)

/-- ITS FALSE NEIGHBOUR: 'it returns false'. Refute it at one input. -/
def stepAllWrong : ChangeSpec := { name := "stepAll", fn := fun _ => fun
  | [d1, d2] => { results := [.lit (.bool false)], args := [d1, d2] }
  | _ => none }
def StepAllWrongFalsely : Prop := stepAllRow.holds Try.pinned (OpenSpec.ofChange stepAllWrong)

/-- 'cairnfieldkeep.StepWrites': WHATEVER THE INPUT: true; the input reads as it did. -/
def stepWritesSpec : ChangeSpec := { name := "stepWrites", fn := fun _ => fun
  | [d1, d2, d3] => { results := [.lit (.bool true)], args := [d1, d2, d3] }
  | _ => none }
def stepWritesRow : OpenClaim := { program := "ytknbbondofijeaa", sum := "a68718e1d9a42263f22b04a4238514355db72ccee124c49a94833b2cd71c5b13", func := "cairnfield/cairnfieldkeep.StepWrites", spec := "stepWrites", unfollowed := true, recurses := true, apart := false }
def StepWritesSaid : Prop := stepWritesRow.holds Try.pinned (OpenSpec.ofChange stepWritesSpec)

/-- ITS FALSE NEIGHBOUR: 'it returns false'. Refute it at one input. -/
def stepWritesWrong : ChangeSpec := { name := "stepWrites", fn := fun _ => fun
  | [d1, d2, d3] => { results := [.lit (.bool false)], args := [d1, d2, d3] }
  | _ => none }
def StepWritesWrongFalsely : Prop := stepWritesRow.holds Try.pinned (OpenSpec.ofChange stepWritesWrong)

/-- 'cairnfieldkeep.StepEnds': WHATEVER THE INPUT: true; the input reads as it did. -/
def stepEndsSpec : ChangeSpec := { name := "stepEnds", fn := fun _ => fun
  | [d] => { results := [.lit (.bool true)], args := [d] }
  | _ => none }
def stepEndsRow : OpenClaim := { program := "ytknbbondofijeaa", sum := "a68718e1d9a42263f22b04a4238514355db72ccee124c49a94833b2cd71c5b13", func := "cairnfield/cairnfieldkeep.StepEnds", spec := "stepEnds", unfollowed := true, recurses := true, apart := false }
def StepEndsSaid : Prop := stepEndsRow.holds Try.pinned (OpenSpec.ofChange stepEndsSpec)

/-- ITS FALSE NEIGHBOUR: 'it returns false'. Refute it at one input. -/
def stepEndsWrong : ChangeSpec := { name := "stepEnds", fn := fun _ => fun
  | [d] => { results := [.lit (.bool false)], args := [d] }
  | _ => none }
def StepEndsWrongFalsely : Prop := stepEndsRow.holds Try.pinned (OpenSpec.ofChange stepEndsWrong)

/-- 'cairnfieldlaw.PlanTells': WHATEVER THE INPUT: true; the input reads as it did. -/
def planTellsSpec : ChangeSpec := { name := "planTells", fn := fun _ => fun
  | [d1, d2, d3] => { results := [.lit (.bool true)], args := [d1, d2, d3] }
  | _ => none }
def planTellsRow : OpenClaim := { program := "ytknbbondofijeaa", sum := "a68718e1d9a42263f22b04a4238514355db72ccee124c49a94833b2cd71c5b13", func := "cairnfield/cairnfieldlaw.PlanTells", spec := "planTells", unfollowed := true, recurses := true, apart := false }
def PlanTellsSaid : Prop := planTellsRow.holds Try.pinned (OpenSpec.ofChange planTellsSpec)

/-- ITS FALSE NEIGHBOUR: 'it returns false'. Refute it at one input. -/
def planTellsWrong : ChangeSpec := { name := "planTells", fn := fun _ => fun
  | [d1, d2, d3] => { results := [.lit (.bool false)], args := [d1, d2, d3] }
  | _ => none }
def PlanTellsWrongFalsely : Prop := planTellsRow.holds Try.pinned (OpenSpec.ofChange planTellsWrong)

/-- 'cairnfieldkeep.PlanDown': WHATEVER THE INPUT: true; the input reads as it did. -/
def planDownSpec : ChangeSpec := { name := "planDown", fn := fun _ => fun
  | [d1, d2, d3] => { results := [.lit (.bool true)], args := [d1, d2, d3] }
  | _ => none }
def planDownRow : OpenClaim := { program := "ytknbbondofijeaa", sum := "a68718e1d9a42263f22b04a4238514355db72ccee124c49a94833b2cd71c5b13", func := "cairnfield/cairnfieldkeep.PlanDown", spec := "planDown", apart := false }
def PlanDownSaid : Prop := planDownRow.holds Try.pinned (OpenSpec.ofChange planDownSpec)

/-- ITS FALSE NEIGHBOUR: 'it returns false'. Refute it at one input. -/
def planDownWrong : ChangeSpec := { name := "planDown", fn := fun _ => fun
  | [d1, d2, d3] => { results := [.lit (.bool false)], args := [d1, d2, d3] }
  | _ => none }
def PlanDownWrongFalsely : Prop := planDownRow.holds Try.pinned (OpenSpec.ofChange planDownWrong)

/-- 'cairnfieldkeep.PlanGaps': WHATEVER THE INPUT: true; the input reads as it did. -/
def planGapsSpec : ChangeSpec := { name := "planGaps", fn := fun _ => fun
  | [d1, d2, d3] => { results := [.lit (.bool true)], args := [d1, d2, d3] }
  | _ => none }
def planGapsRow : OpenClaim := { program := "ytknbbondofijeaa", sum := "a68718e1d9a42263f22b04a4238514355db72ccee124c49a94833b2cd71c5b13", func := "cairnfield/cairnfieldkeep.PlanGaps", spec := "planGaps", apart := false }
def PlanGapsSaid : Prop := planGapsRow.holds Try.pinned (OpenSpec.ofChange planGapsSpec)

/-- ITS FALSE NEIGHBOUR: 'it returns false'. Refute it at one input. -/
def planGapsWrong : ChangeSpec := { name := "planGaps", fn := fun _ => fun
  | [d1, d2, d3] => { results := [.lit (.bool false)], args := [d1, d2, d3] }
  | _ => none }
def PlanGapsWrongFalsely : Prop := planGapsRow.holds Try.pinned (OpenSpec.ofChange planGapsWrong)

/- THE SECOND FORM. 'bulk': how many values and letters a reading holds, each counted each time it is reached (what is shared counts as often as it is met; a slice's spare places count too). A statement '..UptoSaid' is the law's where the arguments, and the package variables that the reading takes, are together of bulk at most 1048576: NARROWER than '..Said'. Prove '..Said' where nothing that the law and all that it calls make is longer than what came in: it says more and counts as full. Else prove '..UptoSaid'. A law counts once. -/
mutual
def uptoBulk {H : Type} : DataW H → Nat
  | .lit (.string bytes) => bytes.length + 1
  | .lit _ => 1
  | .nil => 1
  | .ptr d => uptoBulk d + 1
  | .slice elems spare => uptoBulkAll elems + uptoBulkAll spare + 1
  | .agg parts => uptoBulkAll parts + 1
  | .iface _ d => uptoBulk d + 1
  | .map entries => uptoBulkEntries entries + 1
  | .held _ => 1
def uptoBulkAll {H : Type} : List (DataW H) → Nat
  | [] => 0
  | d :: r => uptoBulk d + uptoBulkAll r
def uptoBulkEntries {H : Type} : List (Lit × DataW H) → Nat
  | [] => 0
  | x :: r => uptoBulkEntry x + uptoBulkEntries r
def uptoBulkEntry {H : Type} : Lit × DataW H → Nat
  | (.string bytes, d) => bytes.length + uptoBulk d + 1
  | (_, d) => uptoBulk d + 1
 end
def uptoSmall : (H : Type) → List (DataW H) → Bool := fun _ ds => decide (uptoBulkAll ds ≤ 1048576)
def OpenSpec.upto (s : _root_.Go.ChangeSpec) : _root_.Go.OpenSpec := { _root_.Go.OpenSpec.ofChange s with cond := some uptoSmall }

/-- 'cairnfieldlaw.StepStarts', WHERE WHAT IT READS IS OF BULK AT MOST 1048576: true; the input reads as it did. -/
def stepStartsUptoRow : OpenClaim := { program := "ytknbbondofijeaa", sum := "a68718e1d9a42263f22b04a4238514355db72ccee124c49a94833b2cd71c5b13", func := "cairnfield/cairnfieldlaw.StepStarts", spec := "stepStarts", unfollowed := true, recurses := true, apart := false, narrowed := true }
def StepStartsUptoSaid : Prop := stepStartsUptoRow.holds Try.pinned (OpenSpec.upto stepStartsSpec)

/-- 'cairnfieldlaw.StepTells', WHERE WHAT IT READS IS OF BULK AT MOST 1048576: true; the input reads as it did. -/
def stepTellsUptoRow : OpenClaim := { program := "ytknbbondofijeaa", sum := "a68718e1d9a42263f22b04a4238514355db72ccee124c49a94833b2cd71c5b13", func := "cairnfield/cairnfieldlaw.StepTells", spec := "stepTells", unfollowed := true, recurses := true, apart := false, narrowed := true }
def StepTellsUptoSaid : Prop := stepTellsUptoRow.holds Try.pinned (OpenSpec.upto stepTellsSpec)

/-- 'cairnfieldkeep.StepAll', WHERE WHAT IT READS IS OF BULK AT MOST 1048576: true; the input reads as it did. -/
def stepAllUptoRow : OpenClaim := { program := "ytknbbondofijeaa", sum := "a68718e1d9a42263f22b04a4238514355db72ccee124c49a94833b2cd71c5b13", func := "cairnfield/cairnfieldkeep.StepAll", spec := "stepAll", unfollowed := true, recurses := true, apart := false, narrowed := true }
def StepAllUptoSaid : Prop := stepAllUptoRow.holds Try.pinned (OpenSpec.upto stepAllSpec)

/-- 'cairnfieldkeep.StepWrites', WHERE WHAT IT READS IS OF BULK AT MOST 1048576: true; the input reads as it did. -/
def stepWritesUptoRow : OpenClaim := { program := "ytknbbondofijeaa", sum := "a68718e1d9a42263f22b04a4238514355db72ccee124c49a94833b2cd71c5b13", func := "cairnfield/cairnfieldkeep.StepWrites", spec := "stepWrites", unfollowed := true, recurses := true, apart := false, narrowed := true }
def StepWritesUptoSaid : Prop := stepWritesUptoRow.holds Try.pinned (OpenSpec.upto stepWritesSpec)

/-- 'cairnfieldkeep.StepEnds', WHERE WHAT IT READS IS OF BULK AT MOST 1048576: true; the input reads as it did. -/
def stepEndsUptoRow : OpenClaim := { program := "ytknbbondofijeaa", sum := "a68718e1d9a42263f22b04a4238514355db72ccee124c49a94833b2cd71c5b13", func := "cairnfield/cairnfieldkeep.StepEnds", spec := "stepEnds", unfollowed := true, recurses := true, apart := false, narrowed := true }
def StepEndsUptoSaid : Prop := stepEndsUptoRow.holds Try.pinned (OpenSpec.upto stepEndsSpec)

/-- 'cairnfieldlaw.PlanTells', WHERE WHAT IT READS IS OF BULK AT MOST 1048576: true; the input reads as it did. -/
def planTellsUptoRow : OpenClaim := { program := "ytknbbondofijeaa", sum := "a68718e1d9a42263f22b04a4238514355db72ccee124c49a94833b2cd71c5b13", func := "cairnfield/cairnfieldlaw.PlanTells", spec := "planTells", unfollowed := true, recurses := true, apart := false, narrowed := true }
def PlanTellsUptoSaid : Prop := planTellsUptoRow.holds Try.pinned (OpenSpec.upto planTellsSpec)

/-- 'cairnfieldkeep.PlanDown', WHERE WHAT IT READS IS OF BULK AT MOST 1048576: true; the input reads as it did. -/
def planDownUptoRow : OpenClaim := { program := "ytknbbondofijeaa", sum := "a68718e1d9a42263f22b04a4238514355db72ccee124c49a94833b2cd71c5b13", func := "cairnfield/cairnfieldkeep.PlanDown", spec := "planDown", apart := false, narrowed := true }
def PlanDownUptoSaid : Prop := planDownUptoRow.holds Try.pinned (OpenSpec.upto planDownSpec)

/-- 'cairnfieldkeep.PlanGaps', WHERE WHAT IT READS IS OF BULK AT MOST 1048576: true; the input reads as it did. -/
def planGapsUptoRow : OpenClaim := { program := "ytknbbondofijeaa", sum := "a68718e1d9a42263f22b04a4238514355db72ccee124c49a94833b2cd71c5b13", func := "cairnfield/cairnfieldkeep.PlanGaps", spec := "planGaps", apart := false, narrowed := true }
def PlanGapsUptoSaid : Prop := planGapsUptoRow.holds Try.pinned (OpenSpec.upto planGapsSpec)

end Rows
end Go.Proofs.Ytknbbondofijeaa
