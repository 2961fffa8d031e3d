/-
  Contracts of the reference's PlanFault, Planned, PlanGaps.
-/
import Derived.Test.YtjefbekdjgmmbaaPlanM
import Derived.Test.YtjefbekdjgmmbaaRefT
import Derived.Test.YtjefbekdjgmmbaaRefGap
import Derived.Test.YtjefbekdjgmmbaaLater
namespace Go.Proofs.Ytjefbekdjgmmbaa
open Go.RowKit

/-- What Planned answers. -/
def PlannedP (zs ks ps : List Int) (w : World) (e : Ending) (w' : World) : Prop := ∃ v, e = .returned v ∧ Own .i64 3 w' w.heap.size v (toL zs ks ps) ∧ Below w.heap.size w w'
/-- What holds while it goes over what is kept. -/
structure PdI (zs ks ps : List Int) (w : World) (v : Value) (i : Nat) (wr : World) : Prop where
  own : Own .i64 3 wr w.heap.size v (toTo zs ks ps i)
  below : Below w.heap.size w wr
theorem PdI.next {zs ks ps : List Int} {w wr wr' : World} {v : Value} {i : Nat} (h : PdI zs ks ps w v i wr) (hb : Below wr.heap.size wr wr') : PdI zs ks ps w v i wr' := ⟨h.own.below hb, h.below.trans (hb.mono h.below.size)⟩
theorem planI : (Try.prog.info? 3).map (fun i => (i.zero, i.size, i.bytes)) = some (some (.int .i64 0), 1, 8) := by kernel_rfl
/-- One more word. -/
theorem PdI.push {zs ks ps : List Int} {w wr : World} {v : Value} {i : Nat} (h : PdI zs ks ps w v i wr) (hi : i ≤ 256) {x : Int} (hx : (Lit.int .i64 x).wf = true) (he : x = toN zs ks ps i) :
    ∃ v' w', Sem.run Try.prog (Builtin.append_ #[23, 23] 23 #[v, .slice (some ⟨wr.heap.size, 0, none⟩) 1 1]) (wr.alloc (.cells #[.int .i64 x] 3)) = .ok v' w' ∧ PdI zs ks ps w v' (i + 1) w' := by
  obtain ⟨v', w', hrun, hO, hB⟩ := h.own.push (P := Try.prog) (t := 23) (ty := 23) Try.underlying23 planI (by omega) (x := x) hx (by rw [toTo_len]; omega) h.below.size
  exact ⟨v', w', hrun, by rw [toTo_succ, ← he]; exact hO, h.below.trans hB⟩

/-- The memory that the closure of PlanGaps reads. -/
structure GfI (zs ks ps : List Int) (A K D : Option Addr) (n c nk ck dc kb ab tb : Nat) (wx : World) : Prop where
  kbox : Box wx kb 23 #[.slice K nk ck]
  abox : Box wx ab 22 #[.slice A n c]
  tbox : Box wx tb 23 #[.slice D nk dc]
  arrK : Arr .i64 wx wx.heap.size K nk ks
  arrA : Arr .u64 wx wx.heap.size A n zs
  arrT : Arr .i64 wx wx.heap.size D nk (toL zs ks ps)
theorem GfI.next {zs ks ps : List Int} {A K D : Option Addr} {n c nk ck dc kb ab tb : Nat} {wx wy : World} (h : GfI zs ks ps A K D n c nk ck dc kb ab tb wx) (hb : Below wx.heap.size wx wy) : GfI zs ks ps A K D n c nk ck dc kb ab tb wy :=
  ⟨h.kbox.below hb h.kbox.lt, h.abox.below hb h.abox.lt, h.tbox.below hb h.tbox.lt, h.arrK.later hb, h.arrA.later hb, h.arrT.later hb⟩

end Go.Proofs.Ytjefbekdjgmmbaa
