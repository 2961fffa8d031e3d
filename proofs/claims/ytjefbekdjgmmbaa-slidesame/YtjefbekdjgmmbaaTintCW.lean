/-
  walk.At; the law's own begins, refsAt, within, small and tints; the walk of TintClosed.
-/
import Derived.Test.YtjefbekdjgmmbaaObjects
import Derived.Test.YtjefbekdjgmmbaaTintP
namespace Go.Proofs.Ytjefbekdjgmmbaa
open Go.RowKit

/-- What At answers. -/
def AtP (zs : List Int) (a : Int) (w : World) (e : Ending) (w' : World) : Prop := Below w.heap.size w w' ∧
  ((arErr zs ≠ 0 ∧ e = .returned (.tuple #[rawV zeroRaw, .int .i64 (arErr zs)])) ∨
   (arErr zs = 0 ∧ ∃ j, j < (begins zs 0).length ∧ a = st zs j ∧ ∃ r, e = .returned (.tuple #[rawV r, .int .i64 0]) ∧ ObV w' w.heap.size w'.heap.size r (obOf zs (st zs j))) ∨
   (arErr zs = 0 ∧ (∀ j, j < (begins zs 0).length → a ≠ st zs j) ∧ e = .returned (.tuple #[rawV zeroRaw, .int .i64 5])))

/-- What holds while At goes over the spots. -/
structure AtI (zs : List Int) (w : World) (A : Option Addr) (n c : Nat) (A2 : Option Addr) (m c2 b gh : Nat) (wr : World) : Prop where
  res : Box wr w.heap.size 41 #[.int .i64 0, .slice none 0 0, .slice none 0 0, .bool false]
  hb : Box wr gh 124 #[.slice A n c, .slice A2 m c2, .map (some b)]
  spots : ArrG spotC 5 wr gh A2 m (spList zs)
  map : MapF Try.prog .u64 .i64 47 3 wr b 300 (ixOf zs)
  below : Below w.heap.size w wr
theorem AtI.next {zs : List Int} {w : World} {A : Option Addr} {n c : Nat} {A2 : Option Addr} {m c2 b gh : Nat} {wr wr' : World} (h : AtI zs w A n c A2 m c2 b gh wr) (hb : Below wr.heap.size wr wr') : AtI zs w A n c A2 m c2 b gh wr' :=
  ⟨h.res.below hb h.res.lt, h.hb.below hb h.hb.lt, h.spots.below hb (Nat.le_of_lt h.hb.lt), h.map.below hb h.map.lt, h.below.trans (hb.mono h.below.size)⟩

theorem Own.lessTC {k : IntKind} {e : TypeId} {w : World} {base base' : Nat} {v : Value} {xs : List Int} (h : Own k e w base v xs) (hb : base' ≤ base) : Own k e w base' v xs := by
  obtain ⟨⟨hl, h2⟩, hw⟩ := h
  refine ⟨⟨hl, h2.imp id ?_⟩, hw⟩
  rintro ⟨g', cap, cur, hv, hg, r⟩
  exact ⟨g', cap, cur, hv, Nat.le_trans hb hg, r⟩
/-- All of a list is in another. -/
def inAll (l all : List Int) : Bool := !l.any fun x => !decide (x ∈ all)
theorem inAll_true {l all : List Int} (h : ∀ x ∈ l, x ∈ all) : inAll l all = true := by
  unfold inAll
  rw [Bool.not_eq_true', List.any_eq_false]
  intro x hx
  simp [h x hx]
theorem inAll_iff {l all : List Int} : inAll l all = true ↔ ∀ x ∈ l, x ∈ all := by
  constructor
  · intro h x hx
    unfold inAll at h
    rw [Bool.not_eq_true', List.any_eq_false] at h
    simpa using h x hx
  · exact inAll_true
/-- What the references of an object name, the empty ones left out. -/
def namesOf (zs : List Int) (s : Nat) : List Int := (named zs s).filter fun x => decide (0 ≤ x)
theorem nth_refs {zs : List Int} {t k : Nat} (hk : k < (refWords zs t).length) : nth (refWords zs t) k = nth zs (t + 1 + k) := by
  rw [nth_get _ _ hk]
  unfold refWords at hk ⊢
  rw [List.getElem_take, List.getElem_drop]
  exact (nth_get _ _ _).symm

theorem small_step : stepOk [1, 1] 0 = true := by decide
theorem small_long : sLong (nth [1, 1] 0) = 2 := by decide
theorem small_begins : begins [1, 1] 0 = [0] := by rw [begins_step (by decide) small_step, small_long, begins_end (by decide)]
theorem small_fine : fine [1, 1] 0 = true := by rw [fine_step (by decide) small_step, small_long]; exact fine_end (by decide)
theorem small_free : vF (nth [1, 1] 0) = false := by decide
theorem small_lives : livesI [1, 1] = [0] := by unfold livesI; rw [small_begins]; decide
theorem small_named : named [1, 1] 0 = [0] := by decide
theorem small_wf : ∀ z ∈ ([1, 1] : List Int), (Lit.int .u64 z).wf = true := by decide
theorem small_arena : arErr [1, 1] = 0 := by
  refine arErr_ok (spErr_ok (by decide) small_fine) ((refsOk_iff small_wf (by decide)).2 fun s hs _ x hx => ?_)
  rw [small_begins] at hs
  rw [List.mem_singleton.1 hs, small_named] at hx
  rw [small_lives]
  exact .inr hx
theorem small_from : fromE [1, 1] [0] = 0 := fromE_ok small_arena (by rw [small_lives]; simp)
theorem small_takes : takesN [1, 1] [0] = 2 := by
  have h0 : (0 : Int) ∈ reachL [1, 1] [0] := (reachL_mem small_wf small_from).2 (.base (by simp))
  unfold takesN
  rw [cnt_congr (g := fun _ => true) (b := 0) _ fun k hk => coversN_iff.2 ⟨0, List.mem_map.2 ⟨0, h0, rfl⟩, by omega, by
    have h1 : longN [1, 1] 0 = 2 := small_long
    have h2 : k < 2 := hk
    omega⟩, cnt_true]
  rfl
set_option maxHeartbeats 400000 in
theorem small_any (w : World) : Calls Try.prog 51 #[] w fun e w' => e = .returned (.slice (some ⟨w.heap.size, 0, none⟩) 2 2) ∧ w.alloc (.cells #[.int .u64 1, .int .u64 1] 47) = w' := by
  go_enter Try.func51, Try.ntmps51
  go_wp2
  go_ret
  exact ⟨rfl, rfl⟩
theorem Arr.later {k : IntKind} {w w' : World} {A : Option Addr} {n : Nat} {zs : List Int} (h : Arr k w w.heap.size A n zs) (hb : Below w.heap.size w w') : Arr k w' w'.heap.size A n zs := (h.below hb (Nat.le_refl _)).more hb.size
theorem bthen {w w1 w2 : World} (h : Below w.heap.size w w1) (h' : Below w1.heap.size w1 w2) : Below w.heap.size w w2 := h.trans (h'.mono h.size)
section
variable {zs fr : List Int}
theorem names_in (hz : ∀ z ∈ zs, (Lit.int .u64 z).wf = true) (h : fromE zs fr = 0) {t : Nat} (ht : (t : Int) ∈ reachL zs fr) : inAll (namesOf zs t) (reachL zs fr) = true := inAll_true fun y hy => by
  obtain ⟨h1, h2⟩ := List.mem_filter.1 hy
  rw [reachL_mem hz h] at ht ⊢
  exact .step ht (by unfold nxOf; rw [Int.toNat_natCast]; exact h1) (by simpa using h2)
theorem from_in (hz : ∀ z ∈ zs, (Lit.int .u64 z).wf = true) (h : fromE zs fr = 0) : inAll fr (reachL zs fr) = true := inAll_true fun y hy => by
  rw [reachL_mem hz h]; exact .base hy
end

end Go.Proofs.Ytjefbekdjgmmbaa
