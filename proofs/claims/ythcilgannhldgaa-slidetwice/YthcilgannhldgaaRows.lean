/-
  No cell of these rows narrows 'for every input' (looked for: loops, veiled, ifaces, maps, wideKeys, modest, calm, conditions, laid).
  DERIVED. THE GIVEN ROWS OF THIS SEAT. 4 by the template 'for every input the law returns true; each argument reads behind the call as it read before'; 0 by the template 'total and deterministic' (their statements: YthcilgannhldgaaTotals.lean).
  GIVEN WITH THE SEED: the statements are not yours to turn. If you find one false, say at which input.
  Laid BY PROGRAM, IN A SANDBOX (cutbox-rows.mjs): the forced cells as the released guide's own fill.sh prints them over the translation 6d939a4e41c157fe… (all of the seat's roots in one cut). By AI agents, Wed Nov 11 2026. No macro, syntax, notation, axiom, sorry.
-/
import Derived.Test.YthcilgannhldgaaChecked
import GoSem.Claim
import GoSem.ClaimJoined
import GoSem.ClaimMapViews
import Derived.JoinedTies
import Derived.KernelRfl
namespace Go.Proofs.Ythcilgannhldgaa
/- THE CELL 'sum', in the pinned program and in every row, IS THE sha256 OF THE DUMP (.gsa) THAT YthcilgannhldgaaProg.lean LOADS. Nothing in Lean hashes anything: it is a label: what it is worth is what the hold of that sum in a sandbox is worth. -/
noncomputable def Try.pinned : Pinned := { name := "ythcilgannhldgaa", sum := "6d939a4e41c157fee1814e5bf1e800ca752236c2f3bb5f5fd7e15cdd135a7e51", checked := Try.checked }
namespace Rows
def none {H : Type} : Left H := { results := [], args := [] }

/-- 'cairnfieldlaw.SlideTells': WHATEVER THE INPUT: true; the input reads as it did. -/
def slideTellsSpec : ChangeSpec := { name := "slideTells", fn := fun _ => fun
  | [d1, d2, d3] => { results := [.lit (.bool true)], args := [d1, d2, d3] }
  | _ => none }
def slideTellsRow : OpenClaim := { program := "ythcilgannhldgaa", sum := "6d939a4e41c157fee1814e5bf1e800ca752236c2f3bb5f5fd7e15cdd135a7e51", func := "cairnfield/cairnfieldlaw.SlideTells", spec := "slideTells", unfollowed := true, recurses := true, apart := false }
def SlideTellsSaid : Prop := slideTellsRow.holds Try.pinned (OpenSpec.ofChange slideTellsSpec)

/-- ITS FALSE NEIGHBOUR: 'it returns false'. Refute it at one input. -/
def slideTellsWrong : ChangeSpec := { name := "slideTells", fn := fun _ => fun
  | [d1, d2, d3] => { results := [.lit (.bool false)], args := [d1, d2, d3] }
  | _ => none }
def SlideTellsWrongFalsely : Prop := slideTellsRow.holds Try.pinned (OpenSpec.ofChange slideTellsWrong)

/-- 'cairnfieldlaw.SlideCleans': WHATEVER THE INPUT: true; the input reads as it did. -/
def slideCleansSpec : ChangeSpec := { name := "slideCleans", fn := fun _ => fun
  | [d1, d2, d3] => { results := [.lit (.bool true)], args := [d1, d2, d3] }
  | _ => none }
def slideCleansRow : OpenClaim := { program := "ythcilgannhldgaa", sum := "6d939a4e41c157fee1814e5bf1e800ca752236c2f3bb5f5fd7e15cdd135a7e51", func := "cairnfield/cairnfieldlaw.SlideCleans", spec := "slideCleans", unfollowed := true, recurses := true, apart := false }
def SlideCleansSaid : Prop := slideCleansRow.holds Try.pinned (OpenSpec.ofChange slideCleansSpec)

/-- ITS FALSE NEIGHBOUR: 'it returns false'. Refute it at one input. -/
def slideCleansWrong : ChangeSpec := { name := "slideCleans", fn := fun _ => fun
  | [d1, d2, d3] => { results := [.lit (.bool false)], args := [d1, d2, d3] }
  | _ => none }
def SlideCleansWrongFalsely : Prop := slideCleansRow.holds Try.pinned (OpenSpec.ofChange slideCleansWrong)

/-- 'cairnfieldkeep.SlideFull': WHATEVER THE INPUT: true; the input reads as it did. -/
def slideFullSpec : ChangeSpec := { name := "slideFull", fn := fun _ => fun
  | [d1, d2, d3] => { results := [.lit (.bool true)], args := [d1, d2, d3] }
  | _ => none }
def slideFullRow : OpenClaim := { program := "ythcilgannhldgaa", sum := "6d939a4e41c157fee1814e5bf1e800ca752236c2f3bb5f5fd7e15cdd135a7e51", func := "cairnfield/cairnfieldkeep.SlideFull", spec := "slideFull", unfollowed := true, recurses := true, apart := false }
def SlideFullSaid : Prop := slideFullRow.holds Try.pinned (OpenSpec.ofChange slideFullSpec)

/-- ITS FALSE NEIGHBOUR: 'it returns false'. Refute it at one input. -/
def slideFullWrong : ChangeSpec := { name := "slideFull", fn := fun _ => fun
  | [d1, d2, d3] => { results := [.lit (.bool false)], args := [d1, d2, d3] }
  | _ => none }
def SlideFullWrongFalsely : Prop := slideFullRow.holds Try.pinned (OpenSpec.ofChange slideFullWrong)

/-- 'cairnfieldkeep.SlideTwice': WHATEVER THE INPUT: true; the input reads as it did. -/
def slideTwiceSpec : ChangeSpec := { name := "slideTwice", fn := fun _ => fun
  | [d1, d2, d3] => { results := [.lit (.bool true)], args := [d1, d2, d3] }
  | _ => none }
def slideTwiceRow : OpenClaim := { program := "ythcilgannhldgaa", sum := "6d939a4e41c157fee1814e5bf1e800ca752236c2f3bb5f5fd7e15cdd135a7e51", func := "cairnfield/cairnfieldkeep.SlideTwice", spec := "slideTwice", unfollowed := true, recurses := true, apart := false }
def SlideTwiceSaid : Prop := slideTwiceRow.holds Try.pinned (OpenSpec.ofChange slideTwiceSpec)

/-- ITS FALSE NEIGHBOUR: 'it returns false'. Refute it at one input. -/
def slideTwiceWrong : ChangeSpec := { name := "slideTwice", fn := fun _ => fun
  | [d1, d2, d3] => { results := [.lit (.bool false)], args := [d1, d2, d3] }
  | _ => none }
def SlideTwiceWrongFalsely : Prop := slideTwiceRow.holds Try.pinned (OpenSpec.ofChange slideTwiceWrong)

/- THE SECOND FORM. 'bulk': how many values and letters a reading holds, each counted each time it is reached (what is shared counts as often as it is met; a slice's spare places count too). A statement '..UptoSaid' is the law's where the arguments, and the package variables that the reading takes, are together of bulk at most 1048576: NARROWER than '..Said'. Prove '..Said' where nothing that the law and all that it calls make is longer than what came in: it says more and counts as full. Else prove '..UptoSaid'. A law counts once. -/
mutual
def uptoBulk {H : Type} : DataW H → Nat
  | .lit (.string bytes) => bytes.length + 1
  | .lit _ => 1
  | .nil => 1
  | .ptr d => uptoBulk d + 1
  | .slice elems spare => uptoBulkAll elems + uptoBulkAll spare + 1
  | .agg parts => uptoBulkAll parts + 1
  | .iface _ d => uptoBulk d + 1
  | .map entries => uptoBulkEntries entries + 1
  | .held _ => 1
def uptoBulkAll {H : Type} : List (DataW H) → Nat
  | [] => 0
  | d :: r => uptoBulk d + uptoBulkAll r
def uptoBulkEntries {H : Type} : List (Lit × DataW H) → Nat
  | [] => 0
  | x :: r => uptoBulkEntry x + uptoBulkEntries r
def uptoBulkEntry {H : Type} : Lit × DataW H → Nat
  | (.string bytes, d) => bytes.length + uptoBulk d + 1
  | (_, d) => uptoBulk d + 1
 end
def uptoSmall : (H : Type) → List (DataW H) → Bool := fun _ ds => decide (uptoBulkAll ds ≤ 1048576)
def OpenSpec.upto (s : _root_.Go.ChangeSpec) : _root_.Go.OpenSpec := { _root_.Go.OpenSpec.ofChange s with cond := some uptoSmall }

/-- 'cairnfieldlaw.SlideTells', WHERE WHAT IT READS IS OF BULK AT MOST 1048576: true; the input reads as it did. -/
def slideTellsUptoRow : OpenClaim := { program := "ythcilgannhldgaa", sum := "6d939a4e41c157fee1814e5bf1e800ca752236c2f3bb5f5fd7e15cdd135a7e51", func := "cairnfield/cairnfieldlaw.SlideTells", spec := "slideTells", unfollowed := true, recurses := true, apart := false, narrowed := true }
def SlideTellsUptoSaid : Prop := slideTellsUptoRow.holds Try.pinned (OpenSpec.upto slideTellsSpec)

/-- 'cairnfieldlaw.SlideCleans', WHERE WHAT IT READS IS OF BULK AT MOST 1048576: true; the input reads as it did. -/
def slideCleansUptoRow : OpenClaim := { program := "ythcilgannhldgaa", sum := "6d939a4e41c157fee1814e5bf1e800ca752236c2f3bb5f5fd7e15cdd135a7e51", func := "cairnfield/cairnfieldlaw.SlideCleans", spec := "slideCleans", unfollowed := true, recurses := true, apart := false, narrowed := true }
def SlideCleansUptoSaid : Prop := slideCleansUptoRow.holds Try.pinned (OpenSpec.upto slideCleansSpec)

/-- 'cairnfieldkeep.SlideFull', WHERE WHAT IT READS IS OF BULK AT MOST 1048576: true; the input reads as it did. -/
def slideFullUptoRow : OpenClaim := { program := "ythcilgannhldgaa", sum := "6d939a4e41c157fee1814e5bf1e800ca752236c2f3bb5f5fd7e15cdd135a7e51", func := "cairnfield/cairnfieldkeep.SlideFull", spec := "slideFull", unfollowed := true, recurses := true, apart := false, narrowed := true }
def SlideFullUptoSaid : Prop := slideFullUptoRow.holds Try.pinned (OpenSpec.upto slideFullSpec)

/-- 'cairnfieldkeep.SlideTwice', WHERE WHAT IT READS IS OF BULK AT MOST 1048576: true; the input reads as it did. -/
def slideTwiceUptoRow : OpenClaim := { program := "ythcilgannhldgaa", sum := "6d939a4e41c157fee1814e5bf1e800ca752236c2f3bb5f5fd7e15cdd135a7e51", func := "cairnfield/cairnfieldkeep.SlideTwice", spec := "slideTwice", unfollowed := true, recurses := true, apart := false, narrowed := true }
def SlideTwiceUptoSaid : Prop := slideTwiceUptoRow.holds Try.pinned (OpenSpec.upto slideTwiceSpec)

end Rows
end Go.Proofs.Ythcilgannhldgaa
