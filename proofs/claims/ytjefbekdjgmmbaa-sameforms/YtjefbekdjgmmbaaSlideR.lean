/-
  Contract of the reference's Slid.
-/
import Derived.Test.YtjefbekdjgmmbaaSlideM
import Derived.Test.YtjefbekdjgmmbaaPlanR
import Derived.Test.YtjefbekdjgmmbaaRefGap
import Derived.Test.YtjefbekdjgmmbaaLater
import Derived.StillTailTactics
namespace Go.Proofs.Ytjefbekdjgmmbaa
open Go.RowKit

/-- What Slid answers. -/
def SlidP (zs ks ps : List Int) (w : World) (e : Ending) (w' : World) : Prop := Below w.heap.size w w' ∧
  ((heldB zs ks = true ∧ ∃ A m c, e = .returned (.tuple #[.slice A m c, .bool true]) ∧ Arr .u64 w' w'.heap.size A m (slidL zs ks ps)) ∨
   (heldB zs ks = false ∧ e = .returned (.tuple #[.slice none 0 0, .bool false])))
/-- The new arena, while it is written. -/
structure SlW (w w3 : World) (us : List Int) (wr : World) : Prop where
  whole : Whole .u64 47 wr w3.heap.size us
  below : Below w.heap.size w wr
  later : Below w3.heap.size w3 wr
theorem SlW.next {w w3 wr wr' : World} {us : List Int} (h : SlW w w3 us wr) (hb : Below wr.heap.size wr wr') : SlW w w3 us wr' := ⟨h.whole.below hb h.whole.lt, h.below.trans (hb.mono h.below.size), h.later.trans (hb.mono h.later.size)⟩
theorem SlW.set {w w3 wr : World} {us : List Int} (h : SlW w w3 us wr) (hs : w.heap.size ≤ w3.heap.size) (j : Nat) {v : Int} (hv : (Lit.int .u64 v).wf = true) : SlW w w3 (us.set j v) (wr.setCell ⟨w3.heap.size, j, none⟩ (.int .u64 v)) :=
  ⟨h.whole.set_ j v hv, below_set h.below hs _ _, below_set h.later (Nat.le_refl _) _ _⟩
theorem slideU64 : (Try.prog.info? 47).map (fun i => (i.zero, i.size, i.bytes)) = some (some (.int .u64 0), 1, 8) := by kernel_rfl
/-- Sums of places within an arena. -/
structure Sums (t k d n t1 t2 J : Nat) : Prop where
  lt : J < n
  s1 : IntKind.i64.wrap (t1 : Int) = (t1 : Int)
  s1' : (t : Int) + 1 = (t1 : Int)
  s2 : IntKind.i64.wrap (t2 : Int) = (t2 : Int)
  s2' : (t1 : Int) + (k : Int) = (t2 : Int)
  s3 : IntKind.i64.wrap (J : Int) = (J : Int)
  s3' : (t2 : Int) + (d : Int) = (J : Int)
  all : t + (1 + k + d) = J
theorem sums_of {t k d n : Nat} (h : t + 1 + k + d < n) (hn : n ≤ 256) : ∃ t1 t2 J, Sums t k d n t1 t2 J :=
  ⟨t + 1, t + 1 + k, t + 1 + k + d, h, IntWalk.i64_in _ (by omega), by omega, IntWalk.i64_in _ (by omega), by omega, IntWalk.i64_in _ (by omega), by omega, by omega⟩
structure Sums2 (t k n t1 J : Nat) : Prop where
  lt : J < n
  s1 : IntKind.i64.wrap (t1 : Int) = (t1 : Int)
  s1' : (t : Int) + 1 = (t1 : Int)
  s2 : IntKind.i64.wrap (J : Int) = (J : Int)
  s2' : (t1 : Int) + (k : Int) = (J : Int)
  all : t + (1 + k) = J
theorem sums2_of {t k n : Nat} (h : t + 1 + k < n) (hn : n ≤ 256) : ∃ t1 J, Sums2 t k n t1 J :=
  ⟨t + 1, t + 1 + k, h, IntWalk.i64_in _ (by omega), by omega, IntWalk.i64_in _ (by omega), by omega, by omega⟩
theorem wrap_ref {t : Nat} (h : t + 1 ≤ 256) : ∃ V : Int, (t : Int) + 1 = V ∧ IntKind.u64.wrap (t : Int) = (t : Int) ∧ IntKind.u64.wrap V = V ∧ (Lit.int .u64 V).wf = true :=
  ⟨(t : Int) + 1, rfl, IntWalk.u64_in _ (by omega), IntWalk.u64_in _ (by omega), wf_u64.2 (by omega)⟩

end Go.Proofs.Ytjefbekdjgmmbaa
