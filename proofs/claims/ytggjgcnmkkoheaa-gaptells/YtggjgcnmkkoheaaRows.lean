/-
  No cell of these rows narrows 'for every input' (looked for: loops, veiled, ifaces, maps, wideKeys, modest, calm, conditions, laid).
  DERIVED. THE GIVEN ROWS OF THIS SEAT. 6 by the template 'for every input the law returns true; each argument reads behind the call as it read before'; 0 by the template 'total and deterministic' (their statements: YtggjgcnmkkoheaaTotals.lean).
  GIVEN WITH THE SEED: the statements are not yours to turn. If you find one false, say at which input.
  Laid BY PROGRAM, IN A SANDBOX (cutbox-rows.mjs): the forced cells as the released guide's own fill.sh prints them over the translation 84384353f21383ac… (all of the seat's roots in one cut). By AI agents, Wed Nov 11 2026. No macro, syntax, notation, axiom, sorry.
-/
import Derived.Test.YtggjgcnmkkoheaaChecked
import GoSem.Claim
import GoSem.ClaimJoined
import GoSem.ClaimMapViews
import Derived.JoinedTies
import Derived.KernelRfl
namespace Go.Proofs.Ytggjgcnmkkoheaa
/- THE CELL 'sum', in the pinned program and in every row, IS THE sha256 OF THE DUMP (.gsa) THAT YtggjgcnmkkoheaaProg.lean LOADS. Nothing in Lean hashes anything: it is a label: what it is worth is what the hold of that sum in a sandbox is worth. -/
noncomputable def Try.pinned : Pinned := { name := "ytggjgcnmkkoheaa", sum := "84384353f21383ace4a570b2c34bf10c4b313c0b20def1c1c6cd14b90adc43d2", checked := Try.checked }
namespace Rows
def none {H : Type} : Left H := { results := [], args := [] }

/-- 'cairnfieldlaw.GapTells': WHATEVER THE INPUT: true; the input reads as it did. -/
def gapTellsSpec : ChangeSpec := { name := "gapTells", fn := fun _ => fun
  | [d1, d2, d3] => { results := [.lit (.bool true)], args := [d1, d2, d3] }
  | _ => none }
def gapTellsRow : OpenClaim := { program := "ytggjgcnmkkoheaa", sum := "84384353f21383ace4a570b2c34bf10c4b313c0b20def1c1c6cd14b90adc43d2", func := "cairnfield/cairnfieldlaw.GapTells", spec := "gapTells", unfollowed := true, recurses := true, apart := false }
def GapTellsSaid : Prop := gapTellsRow.holds Try.pinned (OpenSpec.ofChange gapTellsSpec)

/-- ITS FALSE NEIGHBOUR: 'it returns false'. Refute it at one input. -/
def gapTellsWrong : ChangeSpec := { name := "gapTells", fn := fun _ => fun
  | [d1, d2, d3] => { results := [.lit (.bool false)], args := [d1, d2, d3] }
  | _ => none }
def GapTellsWrongFalsely : Prop := gapTellsRow.holds Try.pinned (OpenSpec.ofChange gapTellsWrong)

/-- 'cairnfieldlaw.GapFits': WHATEVER THE INPUT: true; the input reads as it did. -/
def gapFitsSpec : ChangeSpec := { name := "gapFits", fn := fun _ => fun
  | [d1, d2] => { results := [.lit (.bool true)], args := [d1, d2] }
  | _ => none }
def gapFitsRow : OpenClaim := { program := "ytggjgcnmkkoheaa", sum := "84384353f21383ace4a570b2c34bf10c4b313c0b20def1c1c6cd14b90adc43d2", func := "cairnfield/cairnfieldlaw.GapFits", spec := "gapFits", unfollowed := true, recurses := true, apart := false }
def GapFitsSaid : Prop := gapFitsRow.holds Try.pinned (OpenSpec.ofChange gapFitsSpec)

/-- ITS FALSE NEIGHBOUR: 'it returns false'. Refute it at one input. -/
def gapFitsWrong : ChangeSpec := { name := "gapFits", fn := fun _ => fun
  | [d1, d2] => { results := [.lit (.bool false)], args := [d1, d2] }
  | _ => none }
def GapFitsWrongFalsely : Prop := gapFitsRow.holds Try.pinned (OpenSpec.ofChange gapFitsWrong)

/-- 'cairnfieldkeep.GapJoins': WHATEVER THE INPUT: true; the input reads as it did. -/
def gapJoinsSpec : ChangeSpec := { name := "gapJoins", fn := fun _ => fun
  | [d] => { results := [.lit (.bool true)], args := [d] }
  | _ => none }
def gapJoinsRow : OpenClaim := { program := "ytggjgcnmkkoheaa", sum := "84384353f21383ace4a570b2c34bf10c4b313c0b20def1c1c6cd14b90adc43d2", func := "cairnfield/cairnfieldkeep.GapJoins", spec := "gapJoins", unfollowed := true, recurses := true, apart := false }
def GapJoinsSaid : Prop := gapJoinsRow.holds Try.pinned (OpenSpec.ofChange gapJoinsSpec)

/-- ITS FALSE NEIGHBOUR: 'it returns false'. Refute it at one input. -/
def gapJoinsWrong : ChangeSpec := { name := "gapJoins", fn := fun _ => fun
  | [d] => { results := [.lit (.bool false)], args := [d] }
  | _ => none }
def GapJoinsWrongFalsely : Prop := gapJoinsRow.holds Try.pinned (OpenSpec.ofChange gapJoinsWrong)

/-- 'cairnfieldkeep.GapOrders': WHATEVER THE INPUT: true; the input reads as it did. -/
def gapOrdersSpec : ChangeSpec := { name := "gapOrders", fn := fun _ => fun
  | [d1, d2, d3] => { results := [.lit (.bool true)], args := [d1, d2, d3] }
  | _ => none }
def gapOrdersRow : OpenClaim := { program := "ytggjgcnmkkoheaa", sum := "84384353f21383ace4a570b2c34bf10c4b313c0b20def1c1c6cd14b90adc43d2", func := "cairnfield/cairnfieldkeep.GapOrders", spec := "gapOrders", unfollowed := true, recurses := true, apart := false }
def GapOrdersSaid : Prop := gapOrdersRow.holds Try.pinned (OpenSpec.ofChange gapOrdersSpec)

/-- ITS FALSE NEIGHBOUR: 'it returns false'. Refute it at one input. -/
def gapOrdersWrong : ChangeSpec := { name := "gapOrders", fn := fun _ => fun
  | [d1, d2, d3] => { results := [.lit (.bool false)], args := [d1, d2, d3] }
  | _ => none }
def GapOrdersWrongFalsely : Prop := gapOrdersRow.holds Try.pinned (OpenSpec.ofChange gapOrdersWrong)

/-- 'cairnfieldkeep.GapTurns': WHATEVER THE INPUT: true; the input reads as it did. -/
def gapTurnsSpec : ChangeSpec := { name := "gapTurns", fn := fun _ => fun
  | [d1, d2, d3] => { results := [.lit (.bool true)], args := [d1, d2, d3] }
  | _ => none }
def gapTurnsRow : OpenClaim := { program := "ytggjgcnmkkoheaa", sum := "84384353f21383ace4a570b2c34bf10c4b313c0b20def1c1c6cd14b90adc43d2", func := "cairnfield/cairnfieldkeep.GapTurns", spec := "gapTurns", unfollowed := true, recurses := true, apart := false }
def GapTurnsSaid : Prop := gapTurnsRow.holds Try.pinned (OpenSpec.ofChange gapTurnsSpec)

/-- ITS FALSE NEIGHBOUR: 'it returns false'. Refute it at one input. -/
def gapTurnsWrong : ChangeSpec := { name := "gapTurns", fn := fun _ => fun
  | [d1, d2, d3] => { results := [.lit (.bool false)], args := [d1, d2, d3] }
  | _ => none }
def GapTurnsWrongFalsely : Prop := gapTurnsRow.holds Try.pinned (OpenSpec.ofChange gapTurnsWrong)

/-- 'cairnfieldkeep.WordOwn': WHATEVER THE INPUT: true; the input reads as it did. -/
def wordOwnSpec : ChangeSpec := { name := "wordOwn", fn := fun _ => fun
  | [d1, d2, d3, d4] => { results := [.lit (.bool true)], args := [d1, d2, d3, d4] }
  | _ => none }
def wordOwnRow : OpenClaim := { program := "ytggjgcnmkkoheaa", sum := "84384353f21383ace4a570b2c34bf10c4b313c0b20def1c1c6cd14b90adc43d2", func := "cairnfield/cairnfieldkeep.WordOwn", spec := "wordOwn", unfollowed := true, recurses := true, apart := false }
def WordOwnSaid : Prop := wordOwnRow.holds Try.pinned (OpenSpec.ofChange wordOwnSpec)

/-- ITS FALSE NEIGHBOUR: 'it returns false'. Refute it at one input. -/
def wordOwnWrong : ChangeSpec := { name := "wordOwn", fn := fun _ => fun
  | [d1, d2, d3, d4] => { results := [.lit (.bool false)], args := [d1, d2, d3, d4] }
  | _ => none }
def WordOwnWrongFalsely : Prop := wordOwnRow.holds Try.pinned (OpenSpec.ofChange wordOwnWrong)

/- THE SECOND FORM. 'bulk': how many values and letters a reading holds, each counted each time it is reached (what is shared counts as often as it is met; a slice's spare places count too). A statement '..UptoSaid' is the law's where the arguments, and the package variables that the reading takes, are together of bulk at most 1048576: NARROWER than '..Said'. Prove '..Said' where nothing that the law and all that it calls make is longer than what came in: it says more and counts as full. Else prove '..UptoSaid'. A law counts once. -/
mutual
def uptoBulk {H : Type} : DataW H → Nat
  | .lit (.string bytes) => bytes.length + 1
  | .lit _ => 1
  | .nil => 1
  | .ptr d => uptoBulk d + 1
  | .slice elems spare => uptoBulkAll elems + uptoBulkAll spare + 1
  | .agg parts => uptoBulkAll parts + 1
  | .iface _ d => uptoBulk d + 1
  | .map entries => uptoBulkEntries entries + 1
  | .held _ => 1
def uptoBulkAll {H : Type} : List (DataW H) → Nat
  | [] => 0
  | d :: r => uptoBulk d + uptoBulkAll r
def uptoBulkEntries {H : Type} : List (Lit × DataW H) → Nat
  | [] => 0
  | x :: r => uptoBulkEntry x + uptoBulkEntries r
def uptoBulkEntry {H : Type} : Lit × DataW H → Nat
  | (.string bytes, d) => bytes.length + uptoBulk d + 1
  | (_, d) => uptoBulk d + 1
 end
def uptoSmall : (H : Type) → List (DataW H) → Bool := fun _ ds => decide (uptoBulkAll ds ≤ 1048576)
def OpenSpec.upto (s : _root_.Go.ChangeSpec) : _root_.Go.OpenSpec := { _root_.Go.OpenSpec.ofChange s with cond := some uptoSmall }

/-- 'cairnfieldlaw.GapTells', WHERE WHAT IT READS IS OF BULK AT MOST 1048576: true; the input reads as it did. -/
def gapTellsUptoRow : OpenClaim := { program := "ytggjgcnmkkoheaa", sum := "84384353f21383ace4a570b2c34bf10c4b313c0b20def1c1c6cd14b90adc43d2", func := "cairnfield/cairnfieldlaw.GapTells", spec := "gapTells", unfollowed := true, recurses := true, apart := false, narrowed := true }
def GapTellsUptoSaid : Prop := gapTellsUptoRow.holds Try.pinned (OpenSpec.upto gapTellsSpec)

/-- 'cairnfieldlaw.GapFits', WHERE WHAT IT READS IS OF BULK AT MOST 1048576: true; the input reads as it did. -/
def gapFitsUptoRow : OpenClaim := { program := "ytggjgcnmkkoheaa", sum := "84384353f21383ace4a570b2c34bf10c4b313c0b20def1c1c6cd14b90adc43d2", func := "cairnfield/cairnfieldlaw.GapFits", spec := "gapFits", unfollowed := true, recurses := true, apart := false, narrowed := true }
def GapFitsUptoSaid : Prop := gapFitsUptoRow.holds Try.pinned (OpenSpec.upto gapFitsSpec)

/-- 'cairnfieldkeep.GapJoins', WHERE WHAT IT READS IS OF BULK AT MOST 1048576: true; the input reads as it did. -/
def gapJoinsUptoRow : OpenClaim := { program := "ytggjgcnmkkoheaa", sum := "84384353f21383ace4a570b2c34bf10c4b313c0b20def1c1c6cd14b90adc43d2", func := "cairnfield/cairnfieldkeep.GapJoins", spec := "gapJoins", unfollowed := true, recurses := true, apart := false, narrowed := true }
def GapJoinsUptoSaid : Prop := gapJoinsUptoRow.holds Try.pinned (OpenSpec.upto gapJoinsSpec)

/-- 'cairnfieldkeep.GapOrders', WHERE WHAT IT READS IS OF BULK AT MOST 1048576: true; the input reads as it did. -/
def gapOrdersUptoRow : OpenClaim := { program := "ytggjgcnmkkoheaa", sum := "84384353f21383ace4a570b2c34bf10c4b313c0b20def1c1c6cd14b90adc43d2", func := "cairnfield/cairnfieldkeep.GapOrders", spec := "gapOrders", unfollowed := true, recurses := true, apart := false, narrowed := true }
def GapOrdersUptoSaid : Prop := gapOrdersUptoRow.holds Try.pinned (OpenSpec.upto gapOrdersSpec)

/-- 'cairnfieldkeep.GapTurns', WHERE WHAT IT READS IS OF BULK AT MOST 1048576: true; the input reads as it did. -/
def gapTurnsUptoRow : OpenClaim := { program := "ytggjgcnmkkoheaa", sum := "84384353f21383ace4a570b2c34bf10c4b313c0b20def1c1c6cd14b90adc43d2", func := "cairnfield/cairnfieldkeep.GapTurns", spec := "gapTurns", unfollowed := true, recurses := true, apart := false, narrowed := true }
def GapTurnsUptoSaid : Prop := gapTurnsUptoRow.holds Try.pinned (OpenSpec.upto gapTurnsSpec)

/-- 'cairnfieldkeep.WordOwn', WHERE WHAT IT READS IS OF BULK AT MOST 1048576: true; the input reads as it did. -/
def wordOwnUptoRow : OpenClaim := { program := "ytggjgcnmkkoheaa", sum := "84384353f21383ace4a570b2c34bf10c4b313c0b20def1c1c6cd14b90adc43d2", func := "cairnfield/cairnfieldkeep.WordOwn", spec := "wordOwn", unfollowed := true, recurses := true, apart := false, narrowed := true }
def WordOwnUptoSaid : Prop := wordOwnUptoRow.holds Try.pinned (OpenSpec.upto wordOwnSpec)

end Rows
end Go.Proofs.Ytggjgcnmkkoheaa
