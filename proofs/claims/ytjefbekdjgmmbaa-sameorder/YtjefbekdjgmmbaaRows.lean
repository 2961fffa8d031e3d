/-
  No cell of these rows narrows 'for every input' (looked for: loops, veiled, ifaces, maps, wideKeys, modest, calm, conditions, laid).
  DERIVED. THE GIVEN ROWS OF THIS SEAT. 7 by the template 'for every input the law returns true; each argument reads behind the call as it read before'; 0 by the template 'total and deterministic' (their statements: YtjefbekdjgmmbaaTotals.lean).
  GIVEN WITH THE SEED: the statements are not yours to turn. If you find one false, say at which input.
  Laid BY PROGRAM, IN A SANDBOX (cutbox-rows.mjs): the forced cells as the released guide's own fill.sh prints them over the translation 60f8a3a2cf15b58e… (all of the seat's roots in one cut). By AI agents, Wed Nov 11 2026. No macro, syntax, notation, axiom, sorry.
-/
import Derived.Test.YtjefbekdjgmmbaaChecked
import GoSem.Claim
import GoSem.ClaimJoined
import GoSem.ClaimMapViews
import Derived.JoinedTies
import Derived.KernelRfl
namespace Go.Proofs.Ytjefbekdjgmmbaa
/- THE CELL 'sum', in the pinned program and in every row, IS THE sha256 OF THE DUMP (.gsa) THAT YtjefbekdjgmmbaaProg.lean LOADS. Nothing in Lean hashes anything: it is a label: what it is worth is what the hold of that sum in a sandbox is worth. -/
noncomputable def Try.pinned : Pinned := { name := "ytjefbekdjgmmbaa", sum := "60f8a3a2cf15b58efa72bd58bb0edc77585b884e280af35baba59a4c494821fe", checked := Try.checked }
namespace Rows
def none {H : Type} : Left H := { results := [], args := [] }

/-- 'cairnfieldlaw.SameTells': WHATEVER THE INPUT: true; the input reads as it did. -/
def sameTellsSpec : ChangeSpec := { name := "sameTells", fn := fun _ => fun
  | [d1, d2, d3, d4] => { results := [.lit (.bool true)], args := [d1, d2, d3, d4] }
  | _ => none }
def sameTellsRow : OpenClaim := { program := "ytjefbekdjgmmbaa", sum := "60f8a3a2cf15b58efa72bd58bb0edc77585b884e280af35baba59a4c494821fe", func := "cairnfield/cairnfieldlaw.SameTells", spec := "sameTells", unfollowed := true, recurses := true, apart := false }
def SameTellsSaid : Prop := sameTellsRow.holds Try.pinned (OpenSpec.ofChange sameTellsSpec)

/-- ITS FALSE NEIGHBOUR: 'it returns false'. Refute it at one input. -/
def sameTellsWrong : ChangeSpec := { name := "sameTells", fn := fun _ => fun
  | [d1, d2, d3, d4] => { results := [.lit (.bool false)], args := [d1, d2, d3, d4] }
  | _ => none }
def SameTellsWrongFalsely : Prop := sameTellsRow.holds Try.pinned (OpenSpec.ofChange sameTellsWrong)

/-- 'cairnfieldlaw.SameBuilds': WHATEVER THE INPUT: true; the input reads as it did. -/
def sameBuildsSpec : ChangeSpec := { name := "sameBuilds", fn := fun _ => fun
  | [d1, d2] => { results := [.lit (.bool true)], args := [d1, d2] }
  | _ => none }
def sameBuildsRow : OpenClaim := { program := "ytjefbekdjgmmbaa", sum := "60f8a3a2cf15b58efa72bd58bb0edc77585b884e280af35baba59a4c494821fe", func := "cairnfield/cairnfieldlaw.SameBuilds", spec := "sameBuilds", apart := false }
def SameBuildsSaid : Prop := sameBuildsRow.holds Try.pinned (OpenSpec.ofChange sameBuildsSpec)

/-- ITS FALSE NEIGHBOUR: 'it returns false'. Refute it at one input. -/
def sameBuildsWrong : ChangeSpec := { name := "sameBuilds", fn := fun _ => fun
  | [d1, d2] => { results := [.lit (.bool false)], args := [d1, d2] }
  | _ => none }
def SameBuildsWrongFalsely : Prop := sameBuildsRow.holds Try.pinned (OpenSpec.ofChange sameBuildsWrong)

/-- 'cairnfieldkeep.SlideSame': WHATEVER THE INPUT: true; the input reads as it did. -/
def slideSameSpec : ChangeSpec := { name := "slideSame", fn := fun _ => fun
  | [d1, d2, d3] => { results := [.lit (.bool true)], args := [d1, d2, d3] }
  | _ => none }
def slideSameRow : OpenClaim := { program := "ytjefbekdjgmmbaa", sum := "60f8a3a2cf15b58efa72bd58bb0edc77585b884e280af35baba59a4c494821fe", func := "cairnfield/cairnfieldkeep.SlideSame", spec := "slideSame", unfollowed := true, recurses := true, apart := false }
def SlideSameSaid : Prop := slideSameRow.holds Try.pinned (OpenSpec.ofChange slideSameSpec)

/-- ITS FALSE NEIGHBOUR: 'it returns false'. Refute it at one input. -/
def slideSameWrong : ChangeSpec := { name := "slideSame", fn := fun _ => fun
  | [d1, d2, d3] => { results := [.lit (.bool false)], args := [d1, d2, d3] }
  | _ => none }
def SlideSameWrongFalsely : Prop := slideSameRow.holds Try.pinned (OpenSpec.ofChange slideSameWrong)

/-- 'cairnfieldkeep.CarrySame': WHATEVER THE INPUT: true; the input reads as it did. -/
def carrySameSpec : ChangeSpec := { name := "carrySame", fn := fun _ => fun
  | [d1, d2, d3] => { results := [.lit (.bool true)], args := [d1, d2, d3] }
  | _ => none }
def carrySameRow : OpenClaim := { program := "ytjefbekdjgmmbaa", sum := "60f8a3a2cf15b58efa72bd58bb0edc77585b884e280af35baba59a4c494821fe", func := "cairnfield/cairnfieldkeep.CarrySame", spec := "carrySame", unfollowed := true, recurses := true, apart := false }
def CarrySameSaid : Prop := carrySameRow.holds Try.pinned (OpenSpec.ofChange carrySameSpec)

/-- ITS FALSE NEIGHBOUR: 'it returns false'. Refute it at one input. -/
def carrySameWrong : ChangeSpec := { name := "carrySame", fn := fun _ => fun
  | [d1, d2, d3] => { results := [.lit (.bool false)], args := [d1, d2, d3] }
  | _ => none }
def CarrySameWrongFalsely : Prop := carrySameRow.holds Try.pinned (OpenSpec.ofChange carrySameWrong)

/-- 'cairnfieldkeep.CarrySlides': WHATEVER THE INPUT: true; the input reads as it did. -/
def carrySlidesSpec : ChangeSpec := { name := "carrySlides", fn := fun _ => fun
  | [d1, d2] => { results := [.lit (.bool true)], args := [d1, d2] }
  | _ => none }
def carrySlidesRow : OpenClaim := { program := "ytjefbekdjgmmbaa", sum := "60f8a3a2cf15b58efa72bd58bb0edc77585b884e280af35baba59a4c494821fe", func := "cairnfield/cairnfieldkeep.CarrySlides", spec := "carrySlides", unfollowed := true, recurses := true, apart := false }
def CarrySlidesSaid : Prop := carrySlidesRow.holds Try.pinned (OpenSpec.ofChange carrySlidesSpec)

/-- ITS FALSE NEIGHBOUR: 'it returns false'. Refute it at one input. -/
def carrySlidesWrong : ChangeSpec := { name := "carrySlides", fn := fun _ => fun
  | [d1, d2] => { results := [.lit (.bool false)], args := [d1, d2] }
  | _ => none }
def CarrySlidesWrongFalsely : Prop := carrySlidesRow.holds Try.pinned (OpenSpec.ofChange carrySlidesWrong)

/-- 'cairnfieldkeep.SameForms': WHATEVER THE INPUT: true; the input reads as it did. -/
def sameFormsSpec : ChangeSpec := { name := "sameForms", fn := fun _ => fun
  | [d1, d2, d3] => { results := [.lit (.bool true)], args := [d1, d2, d3] }
  | _ => none }
def sameFormsRow : OpenClaim := { program := "ytjefbekdjgmmbaa", sum := "60f8a3a2cf15b58efa72bd58bb0edc77585b884e280af35baba59a4c494821fe", func := "cairnfield/cairnfieldkeep.SameForms", spec := "sameForms", unfollowed := true, recurses := true, apart := false }
def SameFormsSaid : Prop := sameFormsRow.holds Try.pinned (OpenSpec.ofChange sameFormsSpec)

/-- ITS FALSE NEIGHBOUR: 'it returns false'. Refute it at one input. -/
def sameFormsWrong : ChangeSpec := { name := "sameForms", fn := fun _ => fun
  | [d1, d2, d3] => { results := [.lit (.bool false)], args := [d1, d2, d3] }
  | _ => none }
def SameFormsWrongFalsely : Prop := sameFormsRow.holds Try.pinned (OpenSpec.ofChange sameFormsWrong)

/-- 'cairnfieldkeep.SameOrder': WHATEVER THE INPUT: true; the input reads as it did. -/
def sameOrderSpec : ChangeSpec := { name := "sameOrder", fn := fun _ => fun
  | [d1, d2, d3, d4, d5, d6] => { results := [.lit (.bool true)], args := [d1, d2, d3, d4, d5, d6] }
  | _ => none }
def sameOrderRow : OpenClaim := { program := "ytjefbekdjgmmbaa", sum := "60f8a3a2cf15b58efa72bd58bb0edc77585b884e280af35baba59a4c494821fe", func := "cairnfield/cairnfieldkeep.SameOrder", spec := "sameOrder", unfollowed := true, recurses := true, apart := false }
def SameOrderSaid : Prop := sameOrderRow.holds Try.pinned (OpenSpec.ofChange sameOrderSpec)

/-- ITS FALSE NEIGHBOUR: 'it returns false'. Refute it at one input. -/
def sameOrderWrong : ChangeSpec := { name := "sameOrder", fn := fun _ => fun
  | [d1, d2, d3, d4, d5, d6] => { results := [.lit (.bool false)], args := [d1, d2, d3, d4, d5, d6] }
  | _ => none }
def SameOrderWrongFalsely : Prop := sameOrderRow.holds Try.pinned (OpenSpec.ofChange sameOrderWrong)

/- THE SECOND FORM. 'bulk': how many values and letters a reading holds, each counted each time it is reached (what is shared counts as often as it is met; a slice's spare places count too). A statement '..UptoSaid' is the law's where the arguments, and the package variables that the reading takes, are together of bulk at most 1048576: NARROWER than '..Said'. Prove '..Said' where nothing that the law and all that it calls make is longer than what came in: it says more and counts as full. Else prove '..UptoSaid'. A law counts once. -/
mutual
def uptoBulk {H : Type} : DataW H → Nat
  | .lit (.string bytes) => bytes.length + 1
  | .lit _ => 1
  | .nil => 1
  | .ptr d => uptoBulk d + 1
  | .slice elems spare => uptoBulkAll elems + uptoBulkAll spare + 1
  | .agg parts => uptoBulkAll parts + 1
  | .iface _ d => uptoBulk d + 1
  | .map entries => uptoBulkEntries entries + 1
  | .held _ => 1
def uptoBulkAll {H : Type} : List (DataW H) → Nat
  | [] => 0
  | d :: r => uptoBulk d + uptoBulkAll r
def uptoBulkEntries {H : Type} : List (Lit × DataW H) → Nat
  | [] => 0
  | x :: r => uptoBulkEntry x + uptoBulkEntries r
def uptoBulkEntry {H : Type} : Lit × DataW H → Nat
  | (.string bytes, d) => bytes.length + uptoBulk d + 1
  | (_, d) => uptoBulk d + 1
 end
def uptoSmall : (H : Type) → List (DataW H) → Bool := fun _ ds => decide (uptoBulkAll ds ≤ 1048576)
def OpenSpec.upto (s : _root_.Go.ChangeSpec) : _root_.Go.OpenSpec := { _root_.Go.OpenSpec.ofChange s with cond := some uptoSmall }

/-- 'cairnfieldlaw.SameTells', WHERE WHAT IT READS IS OF BULK AT MOST 1048576: true; the input reads as it did. -/
def sameTellsUptoRow : OpenClaim := { program := "ytjefbekdjgmmbaa", sum := "60f8a3a2cf15b58efa72bd58bb0edc77585b884e280af35baba59a4c494821fe", func := "cairnfield/cairnfieldlaw.SameTells", spec := "sameTells", unfollowed := true, recurses := true, apart := false, narrowed := true }
def SameTellsUptoSaid : Prop := sameTellsUptoRow.holds Try.pinned (OpenSpec.upto sameTellsSpec)

/-- 'cairnfieldlaw.SameBuilds', WHERE WHAT IT READS IS OF BULK AT MOST 1048576: true; the input reads as it did. -/
def sameBuildsUptoRow : OpenClaim := { program := "ytjefbekdjgmmbaa", sum := "60f8a3a2cf15b58efa72bd58bb0edc77585b884e280af35baba59a4c494821fe", func := "cairnfield/cairnfieldlaw.SameBuilds", spec := "sameBuilds", apart := false, narrowed := true }
def SameBuildsUptoSaid : Prop := sameBuildsUptoRow.holds Try.pinned (OpenSpec.upto sameBuildsSpec)

/-- 'cairnfieldkeep.SlideSame', WHERE WHAT IT READS IS OF BULK AT MOST 1048576: true; the input reads as it did. -/
def slideSameUptoRow : OpenClaim := { program := "ytjefbekdjgmmbaa", sum := "60f8a3a2cf15b58efa72bd58bb0edc77585b884e280af35baba59a4c494821fe", func := "cairnfield/cairnfieldkeep.SlideSame", spec := "slideSame", unfollowed := true, recurses := true, apart := false, narrowed := true }
def SlideSameUptoSaid : Prop := slideSameUptoRow.holds Try.pinned (OpenSpec.upto slideSameSpec)

/-- 'cairnfieldkeep.CarrySame', WHERE WHAT IT READS IS OF BULK AT MOST 1048576: true; the input reads as it did. -/
def carrySameUptoRow : OpenClaim := { program := "ytjefbekdjgmmbaa", sum := "60f8a3a2cf15b58efa72bd58bb0edc77585b884e280af35baba59a4c494821fe", func := "cairnfield/cairnfieldkeep.CarrySame", spec := "carrySame", unfollowed := true, recurses := true, apart := false, narrowed := true }
def CarrySameUptoSaid : Prop := carrySameUptoRow.holds Try.pinned (OpenSpec.upto carrySameSpec)

/-- 'cairnfieldkeep.CarrySlides', WHERE WHAT IT READS IS OF BULK AT MOST 1048576: true; the input reads as it did. -/
def carrySlidesUptoRow : OpenClaim := { program := "ytjefbekdjgmmbaa", sum := "60f8a3a2cf15b58efa72bd58bb0edc77585b884e280af35baba59a4c494821fe", func := "cairnfield/cairnfieldkeep.CarrySlides", spec := "carrySlides", unfollowed := true, recurses := true, apart := false, narrowed := true }
def CarrySlidesUptoSaid : Prop := carrySlidesUptoRow.holds Try.pinned (OpenSpec.upto carrySlidesSpec)

/-- 'cairnfieldkeep.SameForms', WHERE WHAT IT READS IS OF BULK AT MOST 1048576: true; the input reads as it did. -/
def sameFormsUptoRow : OpenClaim := { program := "ytjefbekdjgmmbaa", sum := "60f8a3a2cf15b58efa72bd58bb0edc77585b884e280af35baba59a4c494821fe", func := "cairnfield/cairnfieldkeep.SameForms", spec := "sameForms", unfollowed := true, recurses := true, apart := false, narrowed := true }
def SameFormsUptoSaid : Prop := sameFormsUptoRow.holds Try.pinned (OpenSpec.upto sameFormsSpec)

/-- 'cairnfieldkeep.SameOrder', WHERE WHAT IT READS IS OF BULK AT MOST 1048576: true; the input reads as it did. -/
def sameOrderUptoRow : OpenClaim := { program := "ytjefbekdjgmmbaa", sum := "60f8a3a2cf15b58efa72bd58bb0edc77585b884e280af35baba59a4c494821fe", func := "cairnfield/cairnfieldkeep.SameOrder", spec := "sameOrder", unfollowed := true, recurses := true, apart := false, narrowed := true }
def SameOrderUptoSaid : Prop := sameOrderUptoRow.holds Try.pinned (OpenSpec.upto sameOrderSpec)

end Rows
end Go.Proofs.Ytjefbekdjgmmbaa
