/-
  No cell of these rows narrows 'for every input' (looked for: loops, veiled, ifaces, maps, wideKeys, modest, calm, conditions, laid).
  DERIVED. THE GIVEN ROWS OF THIS SEAT. 3 by the template 'for every input the law returns true; each argument reads behind the call as it read before'; 0 by the template 'total and deterministic' (their statements: YtdpbdnnghcbaaaaTotals.lean).
  GIVEN WITH THE SEED: the statements are not yours to turn. If you find one false, say at which input.
  Laid BY PROGRAM, IN A SANDBOX (cutbox-rows.mjs): the forced cells as the released guide's own fill.sh prints them over the translation 9fd049ae417e4f69… (all of the seat's roots in one cut). By AI agents, Wed Nov 11 2026. No macro, syntax, notation, axiom, sorry.
-/
import Derived.Test.YtdpbdnnghcbaaaaChecked
import GoSem.Claim
import GoSem.ClaimJoined
import GoSem.ClaimMapViews
import Derived.JoinedTies
import Derived.KernelRfl
namespace Go.Proofs.Ytdpbdnnghcbaaaa
/- THE CELL 'sum', in the pinned program and in every row, IS THE sha256 OF THE DUMP (.gsa) THAT YtdpbdnnghcbaaaaProg.lean LOADS. Nothing in Lean hashes anything: it is a label: what it is worth is what the hold of that sum in a sandbox is worth. -/
noncomputable def Try.pinned : Pinned := { name := "ytdpbdnnghcbaaaa", sum := "9fd049ae417e4f699f374e649a9d7f0a4dc402758a8cc9d739d75fe8d51c8c8f", checked := Try.checked }
namespace Rows
def none {H : Type} : Left H := { results := [], args := [] }

/-- 'cairnfieldlaw.CarryTells': WHATEVER THE INPUT: true; the input reads as it did. -/
def carryTellsSpec : ChangeSpec := { name := "carryTells", fn := fun _ => fun
  | [d1, d2, d3] => { results := [.lit (.bool true)], args := [d1, d2, d3] }
  | _ => none }
def carryTellsRow : OpenClaim := { program := "ytdpbdnnghcbaaaa", sum := "9fd049ae417e4f699f374e649a9d7f0a4dc402758a8cc9d739d75fe8d51c8c8f", func := "cairnfield/cairnfieldlaw.CarryTells", spec := "carryTells", unfollowed := true, recurses := true, apart := false }
def CarryTellsSaid : Prop := carryTellsRow.holds Try.pinned (OpenSpec.ofChange carryTellsSpec)

/-- ITS FALSE NEIGHBOUR: 'it returns false'. Refute it at one input. -/
def carryTellsWrong : ChangeSpec := { name := "carryTells", fn := fun _ => fun
  | [d1, d2, d3] => { results := [.lit (.bool false)], args := [d1, d2, d3] }
  | _ => none }
def CarryTellsWrongFalsely : Prop := carryTellsRow.holds Try.pinned (OpenSpec.ofChange carryTellsWrong)

/-- 'cairnfieldkeep.CarryOrder': WHATEVER THE INPUT: true; the input reads as it did. -/
def carryOrderSpec : ChangeSpec := { name := "carryOrder", fn := fun _ => fun
  | [d1, d2] => { results := [.lit (.bool true)], args := [d1, d2] }
  | _ => none }
def carryOrderRow : OpenClaim := { program := "ytdpbdnnghcbaaaa", sum := "9fd049ae417e4f699f374e649a9d7f0a4dc402758a8cc9d739d75fe8d51c8c8f", func := "cairnfield/cairnfieldkeep.CarryOrder", spec := "carryOrder", unfollowed := true, recurses := true, apart := false }
def CarryOrderSaid : Prop := carryOrderRow.holds Try.pinned (OpenSpec.ofChange carryOrderSpec)

/-- ITS FALSE NEIGHBOUR: 'it returns false'. Refute it at one input. -/
def carryOrderWrong : ChangeSpec := { name := "carryOrder", fn := fun _ => fun
  | [d1, d2] => { results := [.lit (.bool false)], args := [d1, d2] }
  | _ => none }
def CarryOrderWrongFalsely : Prop := carryOrderRow.holds Try.pinned (OpenSpec.ofChange carryOrderWrong)

/-- 'cairnfieldkeep.SlideOwn': WHATEVER THE INPUT: true; the input reads as it did. -/
def slideOwnSpec : ChangeSpec := { name := "slideOwn", fn := fun _ => fun
  | [d1, d2, d3] => { results := [.lit (.bool true)], args := [d1, d2, d3] }
  | _ => none }
def slideOwnRow : OpenClaim := { program := "ytdpbdnnghcbaaaa", sum := "9fd049ae417e4f699f374e649a9d7f0a4dc402758a8cc9d739d75fe8d51c8c8f", func := "cairnfield/cairnfieldkeep.SlideOwn", spec := "slideOwn", unfollowed := true, recurses := true, apart := false }
def SlideOwnSaid : Prop := slideOwnRow.holds Try.pinned (OpenSpec.ofChange slideOwnSpec)

/-- ITS FALSE NEIGHBOUR: 'it returns false'. Refute it at one input. -/
def slideOwnWrong : ChangeSpec := { name := "slideOwn", fn := fun _ => fun
  | [d1, d2, d3] => { results := [.lit (.bool false)], args := [d1, d2, d3] }
  | _ => none }
def SlideOwnWrongFalsely : Prop := slideOwnRow.holds Try.pinned (OpenSpec.ofChange slideOwnWrong)

/- THE SECOND FORM. 'bulk': how many values and letters a reading holds, each counted each time it is reached (what is shared counts as often as it is met; a slice's spare places count too). A statement '..UptoSaid' is the law's where the arguments, and the package variables that the reading takes, are together of bulk at most 1048576: NARROWER than '..Said'. Prove '..Said' where nothing that the law and all that it calls make is longer than what came in: it says more and counts as full. Else prove '..UptoSaid'. A law counts once. -/
mutual
def uptoBulk {H : Type} : DataW H → Nat
  | .lit (.string bytes) => bytes.length + 1
  | .lit _ => 1
  | .nil => 1
  | .ptr d => uptoBulk d + 1
  | .slice elems spare => uptoBulkAll elems + uptoBulkAll spare + 1
  | .agg parts => uptoBulkAll parts + 1
  | .iface _ d => uptoBulk d + 1
  | .map entries => uptoBulkEntries entries + 1
  | .held _ => 1
def uptoBulkAll {H : Type} : List (DataW H) → Nat
  | [] => 0
  | d :: r => uptoBulk d + uptoBulkAll r
def uptoBulkEntries {H : Type} : List (Lit × DataW H) → Nat
  | [] => 0
  | x :: r => uptoBulkEntry x + uptoBulkEntries r
def uptoBulkEntry {H : Type} : Lit × DataW H → Nat
  | (.string bytes, d) => bytes.length + uptoBulk d + 1
  | (_, d) => uptoBulk d + 1
 end
def uptoSmall : (H : Type) → List (DataW H) → Bool := fun _ ds => decide (uptoBulkAll ds ≤ 1048576)
def OpenSpec.upto (s : _root_.Go.ChangeSpec) : _root_.Go.OpenSpec := { _root_.Go.OpenSpec.ofChange s with cond := some uptoSmall }

/-- 'cairnfieldlaw.CarryTells', WHERE WHAT IT READS IS OF BULK AT MOST 1048576: true; the input reads as it did. -/
def carryTellsUptoRow : OpenClaim := { program := "ytdpbdnnghcbaaaa", sum := "9fd049ae417e4f699f374e649a9d7f0a4dc402758a8cc9d739d75fe8d51c8c8f", func := "cairnfield/cairnfieldlaw.CarryTells", spec := "carryTells", unfollowed := true, recurses := true, apart := false, narrowed := true }
def CarryTellsUptoSaid : Prop := carryTellsUptoRow.holds Try.pinned (OpenSpec.upto carryTellsSpec)

/-- 'cairnfieldkeep.CarryOrder', WHERE WHAT IT READS IS OF BULK AT MOST 1048576: true; the input reads as it did. -/
def carryOrderUptoRow : OpenClaim := { program := "ytdpbdnnghcbaaaa", sum := "9fd049ae417e4f699f374e649a9d7f0a4dc402758a8cc9d739d75fe8d51c8c8f", func := "cairnfield/cairnfieldkeep.CarryOrder", spec := "carryOrder", unfollowed := true, recurses := true, apart := false, narrowed := true }
def CarryOrderUptoSaid : Prop := carryOrderUptoRow.holds Try.pinned (OpenSpec.upto carryOrderSpec)

/-- 'cairnfieldkeep.SlideOwn', WHERE WHAT IT READS IS OF BULK AT MOST 1048576: true; the input reads as it did. -/
def slideOwnUptoRow : OpenClaim := { program := "ytdpbdnnghcbaaaa", sum := "9fd049ae417e4f699f374e649a9d7f0a4dc402758a8cc9d739d75fe8d51c8c8f", func := "cairnfield/cairnfieldkeep.SlideOwn", spec := "slideOwn", unfollowed := true, recurses := true, apart := false, narrowed := true }
def SlideOwnUptoSaid : Prop := slideOwnUptoRow.holds Try.pinned (OpenSpec.upto slideOwnSpec)

end Rows
end Go.Proofs.Ytdpbdnnghcbaaaa
