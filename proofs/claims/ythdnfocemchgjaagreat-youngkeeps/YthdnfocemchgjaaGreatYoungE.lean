/-
  Package young: Write.
-/
import Derived.Test.YthdnfocemchgjaaGreatYoungD
namespace Go.Proofs.YthdnfocemchgjaaGreat
open Go.RowKit

theorem AgesR.zero {base : Nat} {w : World} : AgesR base w none none none 0 0 0 0 0 0 ([], [], []) :=
  ⟨⟨TriV.zero, Nat.le_refl _, Nat.le_refl _, ⟨by decide, by decide, by decide⟩⟩, SpareI.nil, SpareI.nil, SpareI.nil⟩
/-- What holds in the middle of Write, of Grow: what came in, and the result that is still zero. -/
structure YI (w : World) (A G K : Option Addr) (n c ng cg nb cb : Nat) (zs g b : List Int) (wx : World) : Prop where
  below : Below w.heap.size w wx
  arg : Box wx w.heap.size 25 #[.slice A n c, .slice G ng cg, .slice K nb cb]
  res : Box wx (w.heap.size + 1) 25 #[.slice none 0 0, .slice none 0 0, .slice none 0 0]
  ages : AgesIn wx A G K n c ng cg nb cb zs g b
section
variable {w wx wx' : World} {A G K : Option Addr} {n c ng cg nb cb : Nat} {zs g b : List Int}
theorem YI.next (h : YI w A G K n c ng cg nb cb zs g b wx) (hb : Below wx.heap.size wx wx') : YI w A G K n c ng cg nb cb zs g b wx' :=
  ⟨h.below.trans (hb.mono h.below.size), h.arg.below hb h.arg.lt, h.res.below hb h.res.lt, h.ages.next hb⟩
theorem YI.cells (h : YI w A G K n c ng cg nb cb zs g b wx) : wx.cell? ⟨w.heap.size, 0, none⟩ = some (.slice A n c) ∧ wx.cell? ⟨w.heap.size, 1, none⟩ = some (.slice G ng cg) ∧ wx.cell? ⟨w.heap.size, 2, none⟩ = some (.slice K nb cb) := ⟨h.arg.cell 0, h.arg.cell 1, h.arg.cell 2⟩
theorem YI.rcells (h : YI w A G K n c ng cg nb cb zs g b wx) : wx.cell? ⟨w.heap.size + 1, 0, none⟩ = some (.slice none 0 0) ∧ wx.cell? ⟨w.heap.size + 1, 1, none⟩ = some (.slice none 0 0) ∧ wx.cell? ⟨w.heap.size + 1, 2, none⟩ = some (.slice none 0 0) ∧
    wx.frozen? ⟨w.heap.size + 1, 0, none⟩ = false ∧ wx.frozen? ⟨w.heap.size + 1, 1, none⟩ = false ∧ wx.frozen? ⟨w.heap.size + 1, 2, none⟩ = false := ⟨h.res.cell 0, h.res.cell 1, h.res.cell 2, h.res.soft 0, h.res.soft 1, h.res.soft 2⟩
theorem YI.new (h : AgesIn w A G K n c ng cg nb cb zs g b) : YI w A G K n c ng cg nb cb zs g b ((w.alloc (.cells #[.slice A n c, .slice G ng cg, .slice K nb cb] 25)).alloc (.cells #[.slice none 0 0, .slice none 0 0, .slice none 0 0] 25)) := by
  have b1 := (Below.refl _ w).alloc (Nat.le_refl _) (.cells #[.slice A n c, .slice G ng cg, .slice K nb cb] 25)
  have hs1 : (w.alloc (.cells #[.slice A n c, .slice G ng cg, .slice K nb cb] 25)).heap.size = w.heap.size + 1 := by simp
  have b2 := (Below.refl _ (w.alloc (.cells #[.slice A n c, .slice G ng cg, .slice K nb cb] 25))).alloc (Nat.le_refl _) (.cells #[.slice none 0 0, .slice none 0 0, .slice none 0 0] 25)
  have BX := Box.new w 25 #[.slice A n c, .slice G ng cg, .slice K nb cb]
  have BY := Box.new (w.alloc (.cells #[.slice A n c, .slice G ng cg, .slice K nb cb] 25)) 25 #[.slice none 0 0, .slice none 0 0, .slice none 0 0]
  rw [hs1] at BY
  exact ⟨bthen b1 b2, BX.below b2 BX.lt, BY, (h.next b1).next b2⟩
theorem wNoted_len (h : zs.length ≤ 256) {a z : Int} : (wNoted zs g b a z).length ≤ 256 := Nat.le_trans (List.length_filter_le _ _) (lives_len h)
end
end Go.Proofs.YthdnfocemchgjaaGreat
