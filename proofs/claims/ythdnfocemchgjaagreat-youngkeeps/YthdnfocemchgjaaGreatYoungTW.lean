/-
  The walk of YoungTells, given what Check and Write answer: whatever the arguments and the memory, the call returns true and changes nothing that was there.
-/
import Derived.Test.YthdnfocemchgjaaGreatYoungN
import Derived.Test.YthdnfocemchgjaaGreatYoungR
import Derived.Test.YthdnfocemchgjaaGreatYoungE
namespace Go.Proofs.YthdnfocemchgjaaGreat
open Go.RowKit

structure YtI (w : World) (gX : Nat) (A G K : Option Addr) (n c ng cg nb cb : Nat) (zs g b : List Int) (A3 G3 K3 : Option Addr) (n3 c3 g3 cg3 k3 cb3 : Nat) (wx : World) : Prop where
  below : Below w.heap.size w wx
  arg : Box wx w.heap.size 25 #[.slice A n c, .slice G ng cg, .slice K nb cb]
  xb : Box wx gX 25 #[.slice A3 n3 c3, .slice G3 g3 cg3, .slice K3 k3 cb3]
  tri : TriIn wx A G K n c ng nb zs g b
section
variable {w wx wx' : World} {gX : Nat} {A G K : Option Addr} {n c ng cg nb cb : Nat} {zs g b : List Int} {A3 G3 K3 : Option Addr} {n3 c3 g3 cg3 k3 cb3 : Nat}
theorem YtI.next (h : YtI w gX A G K n c ng cg nb cb zs g b A3 G3 K3 n3 c3 g3 cg3 k3 cb3 wx) (hb : Below wx.heap.size wx wx') : YtI w gX A G K n c ng cg nb cb zs g b A3 G3 K3 n3 c3 g3 cg3 k3 cb3 wx' :=
  ⟨h.below.trans (hb.mono h.below.size), h.arg.below hb h.arg.lt, h.xb.below hb h.xb.lt, h.tri.next hb⟩
theorem YtI.acells (h : YtI w gX A G K n c ng cg nb cb zs g b A3 G3 K3 n3 c3 g3 cg3 k3 cb3 wx) : wx.cell? ⟨w.heap.size, 0, none⟩ = some (.slice A n c) ∧ wx.cell? ⟨w.heap.size, 1, none⟩ = some (.slice G ng cg) ∧ wx.cell? ⟨w.heap.size, 2, none⟩ = some (.slice K nb cb) := ⟨h.arg.cell 0, h.arg.cell 1, h.arg.cell 2⟩
theorem YtI.xcells (h : YtI w gX A G K n c ng cg nb cb zs g b A3 G3 K3 n3 c3 g3 cg3 k3 cb3 wx) : wx.cell? ⟨gX, 0, none⟩ = some (.slice A3 n3 c3) ∧ wx.cell? ⟨gX, 1, none⟩ = some (.slice G3 g3 cg3) ∧ wx.cell? ⟨gX, 2, none⟩ = some (.slice K3 k3 cb3) := ⟨h.xb.cell 0, h.xb.cell 1, h.xb.cell 2⟩
end
/-- Ages of empty lists are told the same as none. -/
theorem agesNone_any (A G K : Option Addr) (n c ng cg nb cb : Nat) (w : World) (h : TriIn w A G K n c ng nb [] [] []) :
    Calls Tryz.prog 8 #[.agg #[.slice A n c, .slice G ng cg, .slice K nb cb], .agg #[.slice none 0 0, .slice none 0 0, .slice none 0 0]] w fun e w' => e = .returned (.bool true) ∧ Below w.heap.size w w' := by
  have e1 : n = 0 := by have := h.arena.1; simpa using this.symm
  have e2 : ng = 0 := by have := h.grey.1; simpa using this.symm
  have e3 : nb = 0 := by have := h.blk.1; simpa using this.symm
  subst e1 e2 e3
  exact sameAges_any A G K none none none 0 c 0 cg 0 cb 0 0 0 [] [] [] w h.arena h.grey h.blk Arr.zero Arr.zero Arr.zero (Nat.zero_le _) (Nat.zero_le _) (Nat.zero_le _)

end Go.Proofs.YthdnfocemchgjaaGreat
