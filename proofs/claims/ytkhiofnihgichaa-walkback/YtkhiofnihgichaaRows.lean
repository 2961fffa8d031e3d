/-
  No cell of these rows narrows 'for every input' (looked for: loops, veiled, ifaces, maps, wideKeys, modest, calm, conditions, laid).
  DERIVED. THE GIVEN ROWS OF THIS SEAT. 5 by the template 'for every input the law returns true; each argument reads behind the call as it read before'; 0 by the template 'total and deterministic' (their statements: YtkhiofnihgichaaTotals.lean).
  GIVEN WITH THE SEED: the statements are not yours to turn. If you find one false, say at which input.
  Laid BY PROGRAM, IN A SANDBOX (cutbox-rows.mjs): the forced cells as the released guide's own fill.sh prints them over the translation f44f664513f28d14… (all of the seat's roots in one cut). By AI agents, Wed Nov 11 2026. No macro, syntax, notation, axiom, sorry.
-/
import Derived.Test.YtkhiofnihgichaaChecked
import GoSem.Claim
import GoSem.ClaimJoined
import GoSem.ClaimMapViews
import Derived.JoinedTies
import Derived.KernelRfl
namespace Go.Proofs.Ytkhiofnihgichaa
/- THE CELL 'sum', in the pinned program and in every row, IS THE sha256 OF THE DUMP (.gsa) THAT YtkhiofnihgichaaProg.lean LOADS. Nothing in Lean hashes anything: it is a label: what it is worth is what the hold of that sum in a sandbox is worth. -/
noncomputable def Try.pinned : Pinned := { name := "ytkhiofnihgichaa", sum := "f44f664513f28d140c6418cc6c0daeae4bc1f3027dfdc0a4532025be757487a9", checked := Try.checked }
namespace Rows
def none {H : Type} : Left H := { results := [], args := [] }

/-- 'cairnfieldlaw.WalkTells': WHATEVER THE INPUT: true; the input reads as it did. -/
def walkTellsSpec : ChangeSpec := { name := "walkTells", fn := fun _ => fun
  | [d1, d2] => { results := [.lit (.bool true)], args := [d1, d2] }
  | _ => none }
def walkTellsRow : OpenClaim := { program := "ytkhiofnihgichaa", sum := "f44f664513f28d140c6418cc6c0daeae4bc1f3027dfdc0a4532025be757487a9", func := "cairnfield/cairnfieldlaw.WalkTells", spec := "walkTells", apart := false }
def WalkTellsSaid : Prop := walkTellsRow.holds Try.pinned (OpenSpec.ofChange walkTellsSpec)

/-- ITS FALSE NEIGHBOUR: 'it returns false'. Refute it at one input. -/
def walkTellsWrong : ChangeSpec := { name := "walkTells", fn := fun _ => fun
  | [d1, d2] => { results := [.lit (.bool false)], args := [d1, d2] }
  | _ => none }
def WalkTellsWrongFalsely : Prop := walkTellsRow.holds Try.pinned (OpenSpec.ofChange walkTellsWrong)

/-- 'cairnfieldlaw.WalkLays': WHATEVER THE INPUT: true; the input reads as it did. -/
def walkLaysSpec : ChangeSpec := { name := "walkLays", fn := fun _ => fun
  | [d1, d2] => { results := [.lit (.bool true)], args := [d1, d2] }
  | _ => none }
def walkLaysRow : OpenClaim := { program := "ytkhiofnihgichaa", sum := "f44f664513f28d140c6418cc6c0daeae4bc1f3027dfdc0a4532025be757487a9", func := "cairnfield/cairnfieldlaw.WalkLays", spec := "walkLays", apart := false }
def WalkLaysSaid : Prop := walkLaysRow.holds Try.pinned (OpenSpec.ofChange walkLaysSpec)

/-- ITS FALSE NEIGHBOUR: 'it returns false'. Refute it at one input. -/
def walkLaysWrong : ChangeSpec := { name := "walkLays", fn := fun _ => fun
  | [d1, d2] => { results := [.lit (.bool false)], args := [d1, d2] }
  | _ => none }
def WalkLaysWrongFalsely : Prop := walkLaysRow.holds Try.pinned (OpenSpec.ofChange walkLaysWrong)

/-- 'cairnfieldkeep.WalkTiles': WHATEVER THE INPUT: true; the input reads as it did. -/
def walkTilesSpec : ChangeSpec := { name := "walkTiles", fn := fun _ => fun
  | [d] => { results := [.lit (.bool true)], args := [d] }
  | _ => none }
def walkTilesRow : OpenClaim := { program := "ytkhiofnihgichaa", sum := "f44f664513f28d140c6418cc6c0daeae4bc1f3027dfdc0a4532025be757487a9", func := "cairnfield/cairnfieldkeep.WalkTiles", spec := "walkTiles", apart := false }
def WalkTilesSaid : Prop := walkTilesRow.holds Try.pinned (OpenSpec.ofChange walkTilesSpec)

/-- ITS FALSE NEIGHBOUR: 'it returns false'. Refute it at one input. -/
def walkTilesWrong : ChangeSpec := { name := "walkTiles", fn := fun _ => fun
  | [d] => { results := [.lit (.bool false)], args := [d] }
  | _ => none }
def WalkTilesWrongFalsely : Prop := walkTilesRow.holds Try.pinned (OpenSpec.ofChange walkTilesWrong)

/-- 'cairnfieldkeep.WalkBack': WHATEVER THE INPUT: true; the input reads as it did. -/
def walkBackSpec : ChangeSpec := { name := "walkBack", fn := fun _ => fun
  | [d1, d2, d3] => { results := [.lit (.bool true)], args := [d1, d2, d3] }
  | _ => none }
def walkBackRow : OpenClaim := { program := "ytkhiofnihgichaa", sum := "f44f664513f28d140c6418cc6c0daeae4bc1f3027dfdc0a4532025be757487a9", func := "cairnfield/cairnfieldkeep.WalkBack", spec := "walkBack", unfollowed := true, recurses := true, apart := false }
def WalkBackSaid : Prop := walkBackRow.holds Try.pinned (OpenSpec.ofChange walkBackSpec)

/-- ITS FALSE NEIGHBOUR: 'it returns false'. Refute it at one input. -/
def walkBackWrong : ChangeSpec := { name := "walkBack", fn := fun _ => fun
  | [d1, d2, d3] => { results := [.lit (.bool false)], args := [d1, d2, d3] }
  | _ => none }
def WalkBackWrongFalsely : Prop := walkBackRow.holds Try.pinned (OpenSpec.ofChange walkBackWrong)

/-- 'cairnfieldkeep.WalkAt': WHATEVER THE INPUT: true; the input reads as it did. -/
def walkAtSpec : ChangeSpec := { name := "walkAt", fn := fun _ => fun
  | [d1, d2] => { results := [.lit (.bool true)], args := [d1, d2] }
  | _ => none }
def walkAtRow : OpenClaim := { program := "ytkhiofnihgichaa", sum := "f44f664513f28d140c6418cc6c0daeae4bc1f3027dfdc0a4532025be757487a9", func := "cairnfield/cairnfieldkeep.WalkAt", spec := "walkAt", unfollowed := true, recurses := true, apart := false }
def WalkAtSaid : Prop := walkAtRow.holds Try.pinned (OpenSpec.ofChange walkAtSpec)

/-- ITS FALSE NEIGHBOUR: 'it returns false'. Refute it at one input. -/
def walkAtWrong : ChangeSpec := { name := "walkAt", fn := fun _ => fun
  | [d1, d2] => { results := [.lit (.bool false)], args := [d1, d2] }
  | _ => none }
def WalkAtWrongFalsely : Prop := walkAtRow.holds Try.pinned (OpenSpec.ofChange walkAtWrong)

/- THE SECOND FORM. 'bulk': how many values and letters a reading holds, each counted each time it is reached (what is shared counts as often as it is met; a slice's spare places count too). A statement '..UptoSaid' is the law's where the arguments, and the package variables that the reading takes, are together of bulk at most 1048576: NARROWER than '..Said'. Prove '..Said' where nothing that the law and all that it calls make is longer than what came in: it says more and counts as full. Else prove '..UptoSaid'. A law counts once. -/
mutual
def uptoBulk {H : Type} : DataW H → Nat
  | .lit (.string bytes) => bytes.length + 1
  | .lit _ => 1
  | .nil => 1
  | .ptr d => uptoBulk d + 1
  | .slice elems spare => uptoBulkAll elems + uptoBulkAll spare + 1
  | .agg parts => uptoBulkAll parts + 1
  | .iface _ d => uptoBulk d + 1
  | .map entries => uptoBulkEntries entries + 1
  | .held _ => 1
def uptoBulkAll {H : Type} : List (DataW H) → Nat
  | [] => 0
  | d :: r => uptoBulk d + uptoBulkAll r
def uptoBulkEntries {H : Type} : List (Lit × DataW H) → Nat
  | [] => 0
  | x :: r => uptoBulkEntry x + uptoBulkEntries r
def uptoBulkEntry {H : Type} : Lit × DataW H → Nat
  | (.string bytes, d) => bytes.length + uptoBulk d + 1
  | (_, d) => uptoBulk d + 1
 end
def uptoSmall : (H : Type) → List (DataW H) → Bool := fun _ ds => decide (uptoBulkAll ds ≤ 1048576)
def OpenSpec.upto (s : _root_.Go.ChangeSpec) : _root_.Go.OpenSpec := { _root_.Go.OpenSpec.ofChange s with cond := some uptoSmall }

/-- 'cairnfieldlaw.WalkTells', WHERE WHAT IT READS IS OF BULK AT MOST 1048576: true; the input reads as it did. -/
def walkTellsUptoRow : OpenClaim := { program := "ytkhiofnihgichaa", sum := "f44f664513f28d140c6418cc6c0daeae4bc1f3027dfdc0a4532025be757487a9", func := "cairnfield/cairnfieldlaw.WalkTells", spec := "walkTells", apart := false, narrowed := true }
def WalkTellsUptoSaid : Prop := walkTellsUptoRow.holds Try.pinned (OpenSpec.upto walkTellsSpec)

/-- 'cairnfieldlaw.WalkLays', WHERE WHAT IT READS IS OF BULK AT MOST 1048576: true; the input reads as it did. -/
def walkLaysUptoRow : OpenClaim := { program := "ytkhiofnihgichaa", sum := "f44f664513f28d140c6418cc6c0daeae4bc1f3027dfdc0a4532025be757487a9", func := "cairnfield/cairnfieldlaw.WalkLays", spec := "walkLays", apart := false, narrowed := true }
def WalkLaysUptoSaid : Prop := walkLaysUptoRow.holds Try.pinned (OpenSpec.upto walkLaysSpec)

/-- 'cairnfieldkeep.WalkTiles', WHERE WHAT IT READS IS OF BULK AT MOST 1048576: true; the input reads as it did. -/
def walkTilesUptoRow : OpenClaim := { program := "ytkhiofnihgichaa", sum := "f44f664513f28d140c6418cc6c0daeae4bc1f3027dfdc0a4532025be757487a9", func := "cairnfield/cairnfieldkeep.WalkTiles", spec := "walkTiles", apart := false, narrowed := true }
def WalkTilesUptoSaid : Prop := walkTilesUptoRow.holds Try.pinned (OpenSpec.upto walkTilesSpec)

/-- 'cairnfieldkeep.WalkBack', WHERE WHAT IT READS IS OF BULK AT MOST 1048576: true; the input reads as it did. -/
def walkBackUptoRow : OpenClaim := { program := "ytkhiofnihgichaa", sum := "f44f664513f28d140c6418cc6c0daeae4bc1f3027dfdc0a4532025be757487a9", func := "cairnfield/cairnfieldkeep.WalkBack", spec := "walkBack", unfollowed := true, recurses := true, apart := false, narrowed := true }
def WalkBackUptoSaid : Prop := walkBackUptoRow.holds Try.pinned (OpenSpec.upto walkBackSpec)

/-- 'cairnfieldkeep.WalkAt', WHERE WHAT IT READS IS OF BULK AT MOST 1048576: true; the input reads as it did. -/
def walkAtUptoRow : OpenClaim := { program := "ytkhiofnihgichaa", sum := "f44f664513f28d140c6418cc6c0daeae4bc1f3027dfdc0a4532025be757487a9", func := "cairnfield/cairnfieldkeep.WalkAt", spec := "walkAt", unfollowed := true, recurses := true, apart := false, narrowed := true }
def WalkAtUptoSaid : Prop := walkAtUptoRow.holds Try.pinned (OpenSpec.upto walkAtSpec)

end Rows
end Go.Proofs.Ytkhiofnihgichaa
