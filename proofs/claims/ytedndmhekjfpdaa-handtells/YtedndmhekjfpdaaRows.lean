/-
  No cell of these rows narrows 'for every input' (looked for: loops, veiled, ifaces, maps, wideKeys, modest, calm, conditions, laid).
  DERIVED. THE GIVEN ROWS OF THIS SEAT. 5 by the template 'for every input the law returns true; each argument reads behind the call as it read before'; 0 by the template 'total and deterministic' (their statements: YtedndmhekjfpdaaTotals.lean).
  GIVEN WITH THE SEED: the statements are not yours to turn. If you find one false, say at which input.
  Laid BY PROGRAM, IN A SANDBOX (cutbox-rows.mjs): the forced cells as the released guide's own fill.sh prints them over the translation 8cbbb55bf6bb1e43… (all of the seat's roots in one cut). By AI agents, Wed Nov 11 2026. No macro, syntax, notation, axiom, sorry.
-/
import Derived.Test.YtedndmhekjfpdaaChecked
import GoSem.Claim
import GoSem.ClaimJoined
import GoSem.ClaimMapViews
import Derived.JoinedTies
import Derived.KernelRfl
namespace Go.Proofs.Ytedndmhekjfpdaa
/- THE CELL 'sum', in the pinned program and in every row, IS THE sha256 OF THE DUMP (.gsa) THAT YtedndmhekjfpdaaProg.lean LOADS. Nothing in Lean hashes anything: it is a label: what it is worth is what the hold of that sum in a sandbox is worth. -/
noncomputable def Try.pinned : Pinned := { name := "ytedndmhekjfpdaa", sum := "8cbbb55bf6bb1e439447096c1dc15772e992202d9f4ca1e0216dab086936055e", checked := Try.checked }
namespace Rows
def none {H : Type} : Left H := { results := [], args := [] }

/-- 'cairnfieldlaw.HandTells': WHATEVER THE INPUT: true; the input reads as it did. -/
def handTellsSpec : ChangeSpec := { name := "handTells", fn := fun _ => fun
  | [d1, d2, d3, d4, d5] => { results := [.lit (.bool true)], args := [d1, d2, d3, d4, d5] }
  | _ => none }
def handTellsRow : OpenClaim := { program := "ytedndmhekjfpdaa", sum := "8cbbb55bf6bb1e439447096c1dc15772e992202d9f4ca1e0216dab086936055e", func := "cairnfield/cairnfieldlaw.HandTells", spec := "handTells", unfollowed := true, recurses := true, apart := false }
def HandTellsSaid : Prop := handTellsRow.holds Try.pinned (OpenSpec.ofChange handTellsSpec)

/-- ITS FALSE NEIGHBOUR: 'it returns false'. Refute it at one input. -/
def handTellsWrong : ChangeSpec := { name := "handTells", fn := fun _ => fun
  | [d1, d2, d3, d4, d5] => { results := [.lit (.bool false)], args := [d1, d2, d3, d4, d5] }
  | _ => none }
def HandTellsWrongFalsely : Prop := handTellsRow.holds Try.pinned (OpenSpec.ofChange handTellsWrong)

/-- 'cairnfieldkeep.HandOnce': WHATEVER THE INPUT: true; the input reads as it did. -/
def handOnceSpec : ChangeSpec := { name := "handOnce", fn := fun _ => fun
  | [d1, d2, d3] => { results := [.lit (.bool true)], args := [d1, d2, d3] }
  | _ => none }
def handOnceRow : OpenClaim := { program := "ytedndmhekjfpdaa", sum := "8cbbb55bf6bb1e439447096c1dc15772e992202d9f4ca1e0216dab086936055e", func := "cairnfield/cairnfieldkeep.HandOnce", spec := "handOnce", unfollowed := true, recurses := true, apart := false }
def HandOnceSaid : Prop := handOnceRow.holds Try.pinned (OpenSpec.ofChange handOnceSpec)

/-- ITS FALSE NEIGHBOUR: 'it returns false'. Refute it at one input. -/
def handOnceWrong : ChangeSpec := { name := "handOnce", fn := fun _ => fun
  | [d1, d2, d3] => { results := [.lit (.bool false)], args := [d1, d2, d3] }
  | _ => none }
def HandOnceWrongFalsely : Prop := handOnceRow.holds Try.pinned (OpenSpec.ofChange handOnceWrong)

/-- 'cairnfieldkeep.HandLooks': WHATEVER THE INPUT: true; the input reads as it did. -/
def handLooksSpec : ChangeSpec := { name := "handLooks", fn := fun _ => fun
  | [d1, d2, d3] => { results := [.lit (.bool true)], args := [d1, d2, d3] }
  | _ => none }
def handLooksRow : OpenClaim := { program := "ytedndmhekjfpdaa", sum := "8cbbb55bf6bb1e439447096c1dc15772e992202d9f4ca1e0216dab086936055e", func := "cairnfield/cairnfieldkeep.HandLooks", spec := "handLooks", unfollowed := true, recurses := true, apart := false }
def HandLooksSaid : Prop := handLooksRow.holds Try.pinned (OpenSpec.ofChange handLooksSpec)

/-- ITS FALSE NEIGHBOUR: 'it returns false'. Refute it at one input. -/
def handLooksWrong : ChangeSpec := { name := "handLooks", fn := fun _ => fun
  | [d1, d2, d3] => { results := [.lit (.bool false)], args := [d1, d2, d3] }
  | _ => none }
def HandLooksWrongFalsely : Prop := handLooksRow.holds Try.pinned (OpenSpec.ofChange handLooksWrong)

/-- 'cairnfieldkeep.HandLive': WHATEVER THE INPUT: true; the input reads as it did. -/
def handLiveSpec : ChangeSpec := { name := "handLive", fn := fun _ => fun
  | [d] => { results := [.lit (.bool true)], args := [d] }
  | _ => none }
def handLiveRow : OpenClaim := { program := "ytedndmhekjfpdaa", sum := "8cbbb55bf6bb1e439447096c1dc15772e992202d9f4ca1e0216dab086936055e", func := "cairnfield/cairnfieldkeep.HandLive", spec := "handLive", unfollowed := true, recurses := true, apart := false }
def HandLiveSaid : Prop := handLiveRow.holds Try.pinned (OpenSpec.ofChange handLiveSpec)

/-- ITS FALSE NEIGHBOUR: 'it returns false'. Refute it at one input. -/
def handLiveWrong : ChangeSpec := { name := "handLive", fn := fun _ => fun
  | [d] => { results := [.lit (.bool false)], args := [d] }
  | _ => none }
def HandLiveWrongFalsely : Prop := handLiveRow.holds Try.pinned (OpenSpec.ofChange handLiveWrong)

/-- 'cairnfieldkeep.PinOwn': WHATEVER THE INPUT: true; the input reads as it did. -/
def pinOwnSpec : ChangeSpec := { name := "pinOwn", fn := fun _ => fun
  | [d1, d2, d3, d4] => { results := [.lit (.bool true)], args := [d1, d2, d3, d4] }
  | _ => none }
def pinOwnRow : OpenClaim := { program := "ytedndmhekjfpdaa", sum := "8cbbb55bf6bb1e439447096c1dc15772e992202d9f4ca1e0216dab086936055e", func := "cairnfield/cairnfieldkeep.PinOwn", spec := "pinOwn", inPlace := ["slices.overlaps[cairnfield/api.Pin]"], unfollowed := true, recurses := true, apart := false }
def PinOwnSaid : Prop := pinOwnRow.holds Try.pinned (OpenSpec.ofChange pinOwnSpec)

/-- ITS FALSE NEIGHBOUR: 'it returns false'. Refute it at one input. -/
def pinOwnWrong : ChangeSpec := { name := "pinOwn", fn := fun _ => fun
  | [d1, d2, d3, d4] => { results := [.lit (.bool false)], args := [d1, d2, d3, d4] }
  | _ => none }
def PinOwnWrongFalsely : Prop := pinOwnRow.holds Try.pinned (OpenSpec.ofChange pinOwnWrong)

/- THE SECOND FORM. 'bulk': how many values and letters a reading holds, each counted each time it is reached (what is shared counts as often as it is met; a slice's spare places count too). A statement '..UptoSaid' is the law's where the arguments, and the package variables that the reading takes, are together of bulk at most 1048576: NARROWER than '..Said'. Prove '..Said' where nothing that the law and all that it calls make is longer than what came in: it says more and counts as full. Else prove '..UptoSaid'. A law counts once. -/
mutual
def uptoBulk {H : Type} : DataW H → Nat
  | .lit (.string bytes) => bytes.length + 1
  | .lit _ => 1
  | .nil => 1
  | .ptr d => uptoBulk d + 1
  | .slice elems spare => uptoBulkAll elems + uptoBulkAll spare + 1
  | .agg parts => uptoBulkAll parts + 1
  | .iface _ d => uptoBulk d + 1
  | .map entries => uptoBulkEntries entries + 1
  | .held _ => 1
def uptoBulkAll {H : Type} : List (DataW H) → Nat
  | [] => 0
  | d :: r => uptoBulk d + uptoBulkAll r
def uptoBulkEntries {H : Type} : List (Lit × DataW H) → Nat
  | [] => 0
  | x :: r => uptoBulkEntry x + uptoBulkEntries r
def uptoBulkEntry {H : Type} : Lit × DataW H → Nat
  | (.string bytes, d) => bytes.length + uptoBulk d + 1
  | (_, d) => uptoBulk d + 1
 end
def uptoSmall : (H : Type) → List (DataW H) → Bool := fun _ ds => decide (uptoBulkAll ds ≤ 1048576)
def OpenSpec.upto (s : _root_.Go.ChangeSpec) : _root_.Go.OpenSpec := { _root_.Go.OpenSpec.ofChange s with cond := some uptoSmall }

/-- 'cairnfieldlaw.HandTells', WHERE WHAT IT READS IS OF BULK AT MOST 1048576: true; the input reads as it did. -/
def handTellsUptoRow : OpenClaim := { program := "ytedndmhekjfpdaa", sum := "8cbbb55bf6bb1e439447096c1dc15772e992202d9f4ca1e0216dab086936055e", func := "cairnfield/cairnfieldlaw.HandTells", spec := "handTells", unfollowed := true, recurses := true, apart := false, narrowed := true }
def HandTellsUptoSaid : Prop := handTellsUptoRow.holds Try.pinned (OpenSpec.upto handTellsSpec)

/-- 'cairnfieldkeep.HandOnce', WHERE WHAT IT READS IS OF BULK AT MOST 1048576: true; the input reads as it did. -/
def handOnceUptoRow : OpenClaim := { program := "ytedndmhekjfpdaa", sum := "8cbbb55bf6bb1e439447096c1dc15772e992202d9f4ca1e0216dab086936055e", func := "cairnfield/cairnfieldkeep.HandOnce", spec := "handOnce", unfollowed := true, recurses := true, apart := false, narrowed := true }
def HandOnceUptoSaid : Prop := handOnceUptoRow.holds Try.pinned (OpenSpec.upto handOnceSpec)

/-- 'cairnfieldkeep.HandLooks', WHERE WHAT IT READS IS OF BULK AT MOST 1048576: true; the input reads as it did. -/
def handLooksUptoRow : OpenClaim := { program := "ytedndmhekjfpdaa", sum := "8cbbb55bf6bb1e439447096c1dc15772e992202d9f4ca1e0216dab086936055e", func := "cairnfield/cairnfieldkeep.HandLooks", spec := "handLooks", unfollowed := true, recurses := true, apart := false, narrowed := true }
def HandLooksUptoSaid : Prop := handLooksUptoRow.holds Try.pinned (OpenSpec.upto handLooksSpec)

/-- 'cairnfieldkeep.HandLive', WHERE WHAT IT READS IS OF BULK AT MOST 1048576: true; the input reads as it did. -/
def handLiveUptoRow : OpenClaim := { program := "ytedndmhekjfpdaa", sum := "8cbbb55bf6bb1e439447096c1dc15772e992202d9f4ca1e0216dab086936055e", func := "cairnfield/cairnfieldkeep.HandLive", spec := "handLive", unfollowed := true, recurses := true, apart := false, narrowed := true }
def HandLiveUptoSaid : Prop := handLiveUptoRow.holds Try.pinned (OpenSpec.upto handLiveSpec)

/-- 'cairnfieldkeep.PinOwn', WHERE WHAT IT READS IS OF BULK AT MOST 1048576: true; the input reads as it did. -/
def pinOwnUptoRow : OpenClaim := { program := "ytedndmhekjfpdaa", sum := "8cbbb55bf6bb1e439447096c1dc15772e992202d9f4ca1e0216dab086936055e", func := "cairnfield/cairnfieldkeep.PinOwn", spec := "pinOwn", inPlace := ["slices.overlaps[cairnfield/api.Pin]"], unfollowed := true, recurses := true, apart := false, narrowed := true }
def PinOwnUptoSaid : Prop := pinOwnUptoRow.holds Try.pinned (OpenSpec.upto pinOwnSpec)

end Rows
end Go.Proofs.Ytedndmhekjfpdaa
