/-
  Object descriptions, over no program: as a value ('Raw', 'rawV'), and as what they say ('Ob'); 'ObV': the one reads as the other.
-/
import Derived.Test.YtknbbondofijeaaWalkR
namespace Go.Proofs.Ytknbbondofijeaa
open Go.RowKit

/-- A description's cells: a tag, two slices, a flag. -/
structure Raw where
  t : Int
  ra : Option Addr
  rn : Nat
  rc : Nat
  ba : Option Addr
  bn : Nat
  bc : Nat
  f : Bool
instance : Inhabited Raw := ⟨⟨0, none, 0, 0, none, 0, 0, false⟩⟩
def rawC (r : Raw) : List Value := [.int .i64 r.t, .slice r.ra r.rn r.rc, .slice r.ba r.bn r.bc, .bool r.f]
def rawV (r : Raw) : Value := .agg #[.int .i64 r.t, .slice r.ra r.rn r.rc, .slice r.ba r.bn r.bc, .bool r.f]
theorem rawC_len (r : Raw) : (rawC r).length = 4 := rfl
theorem rawC_one (r : Raw) : ∀ u ∈ rawC r, u.oneCell' = true := by
  intro u hu
  simp [rawC] at hu
  rcases hu with rfl | rfl | rfl | rfl <;> rfl
/-- What a description says: its tag, its references, its data words, whether it is free. -/
abbrev Ob := Int × List Int × List Int × Bool
def obOf (zs : List Int) (s : Nat) : Ob := (vT (nth zs s), (refWords zs s).map (fun v => (ixOf zs v).getD 0), bodyWords zs s, vF (nth zs s))
/-- The cells read as the description; the slices' rows lie from block 'lo' on, below block 'hi'. -/
structure ObV (w : World) (lo hi : Nat) (r : Raw) (o : Ob) : Prop where
  tag : r.t = o.1
  free : r.f = o.2.2.2
  rcap : r.rn ≤ r.rc
  bcap : r.bn ≤ r.bc
  refs : Arr .i64 w hi r.ra r.rn o.2.1
  rhigh : High lo r.ra r.rn
  body : Arr .u64 w hi r.ba r.bn o.2.2.1
  bhigh : High lo r.ba r.bn
section
variable {w w' : World} {lo hi : Nat} {r : Raw} {o : Ob}
theorem ObV.below {B : Nat} (h : ObV w lo hi r o) (hb : Below B w w') (hB : hi ≤ B) : ObV w' lo hi r o :=
  ⟨h.tag, h.free, h.rcap, h.bcap, h.refs.below hb hB, h.rhigh, h.body.below hb hB, h.bhigh⟩
theorem ObV.more (h : ObV w lo hi r o) {hi' : Nat} (hl : hi ≤ hi') : ObV w lo hi' r o := ⟨h.tag, h.free, h.rcap, h.bcap, h.refs.more hl, h.rhigh, h.body.more hl, h.bhigh⟩
theorem ObV.less (h : ObV w lo hi r o) {lo' : Nat} (hl : lo' ≤ lo) : ObV w lo' hi r o := ⟨h.tag, h.free, h.rcap, h.bcap, h.refs, h.rhigh.less hl, h.body, h.bhigh.less hl⟩
theorem ObV.drewN (h : ObV w lo hi r o) (q : Nat) : ObV (w.drewN q) lo hi r o := ⟨h.tag, h.free, h.rcap, h.bcap, h.refs, h.rhigh, h.body, h.bhigh⟩
theorem ObV.setOther (h : ObV w lo hi r o) {g : Nat} (hg : g < lo) (j : Nat) (d : Value) : ObV (w.setCell ⟨g, j, none⟩ d) lo hi r o :=
  ⟨h.tag, h.free, h.rcap, h.bcap, h.refs.setOther h.rhigh hg j d, h.rhigh, h.body.setOther h.bhigh hg j d, h.bhigh⟩
end
theorem Own.setOther {k : IntKind} {e : TypeId} {w : World} {base g : Nat} {v : Value} {xs : List Int} (h : Own k e w base v xs) (hg : g < base) (j : Nat) (d : Value) : Own k e (w.setCell ⟨g, j, none⟩ d) base v xs := by
  obtain ⟨⟨hl, h2⟩, h3⟩ := h
  refine ⟨⟨hl, h2.imp id ?_⟩, h3⟩
  rintro ⟨g', cap, cur, hv, hg', hh, r⟩
  refine ⟨g', cap, cur, hv, hg', ?_, r⟩
  show (w.heap.modify g _)[g']? = _
  rw [Array.getElem?_modify, if_neg (by omega)]
  exact hh
theorem Own.below {k : IntKind} {e : TypeId} {w w' : World} {base : Nat} {v : Value} {xs : List Int} (h : Own k e w base v xs) (hb : Below w.heap.size w w') : Own k e w' base v xs := by
  obtain ⟨⟨hl, h2⟩, h3⟩ := h
  refine ⟨⟨hl, h2.imp id ?_⟩, h3⟩
  rintro ⟨g, cap, cur, hv, hg, hh, r⟩
  refine ⟨g, cap, cur, hv, hg, ?_, r⟩
  rw [hb.block g ?_]; exact hh
  rcases Nat.lt_or_ge g w.heap.size with h | h
  · exact h
  · rw [Array.getElem?_eq_none h] at hh; cases hh
end Go.Proofs.Ytknbbondofijeaa
