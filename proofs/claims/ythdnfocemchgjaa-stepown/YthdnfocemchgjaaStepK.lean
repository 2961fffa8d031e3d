/-
  Contracts of the law's own threes and steps.
-/
import Derived.Test.YthdnfocemchgjaaStepH
namespace Go.Proofs.Ythdnfocemchgjaa
open Go.RowKit

theorem small_rising : risingTo [0] 256 = [0] := rise_ext (risingTo_rises _ _) (by simp) fun x => by
  rw [risingTo_mem, List.mem_singleton]
  constructor
  · exact fun h => h.1
  · intro h; subst h; exact ⟨rfl, by omega, by omega⟩
set_option maxHeartbeats 1000000 in
theorem threes_any (w : World) : Calls Try.prog 24 #[] w fun e w' => e = .returned (.bool true) ∧ Below w.heap.size w w' := by
  have HS := Lib.hid (small_any w)
  have b1 := (Below.refl _ w).alloc (Nat.le_refl _) (.cells #[.int .u64 1, .int .u64 1] 55)
  have W1 : Whole .u64 55 (w.alloc (.cells #[.int .u64 1, .int .u64 1] 55)) w.heap.size [1, 1] := whole_new .u64 55 w [1, 1] small_wf
  obtain ⟨w1, hw1⟩ : ∃ w1, w.alloc (.cells #[.int .u64 1, .int .u64 1] 55) = w1 := ⟨_, rfl⟩
  have hsz : w1.heap.size = w.heap.size + 1 := by rw [← hw1]; simp
  rw [hw1] at b1 W1 HS
  have b2 := (Below.refl _ w1).alloc (Nat.le_refl _) (.cells #[.int .i64 0] 3)
  have W2 : Whole .i64 3 (w1.alloc (.cells #[.int .i64 0] 3)) w1.heap.size [0] := whole_new .i64 3 w1 [0] (by decide)
  have HK := Lib.hid (Start_any (some ⟨w.heap.size, 0, none⟩) (some ⟨w1.heap.size, 0, none⟩) 2 2 1 1 [1, 1] [0] _ (by unfold maxLen; omega) (by omega) ((W1.alloc _).arr (by simp; omega)) (W2.arr W2.lt) (by omega))
  unfold StartP at HK
  rw [startT_ok small_from, small_rising, small_from] at HK
  have HB := Lib.hid (b1.trans (b2.mono b1.size))
  clear b1 W1 b2 W2 hw1 hsz
  go_enter Try.func24, Try.ntmps24
  go_wp2_with fail
  refine HS.out.mono ?_
  rintro e w' ⟨rfl, rfl⟩
  go_wp2_with fail
  refine HK.out.mono ?_
  rintro e w3 ⟨A, n, c, G, g, gc, K, k, kc, rfl, b3, hV⟩
  have HB3 := Lib.hid (HB.out.trans (b3.mono HB.out.size))
  have hg : g = 1 := hV.grey.1.symm
  subst hg
  clear b3 hV HK
  go_wp2
  go_ret
  exact ⟨rfl, HB3.out.alloc HB3.out.size _⟩

/-- What holds while steps goes on: 'm' steps were made from grey 'g' and black 'b'. -/
structure StI (zs g b : List Int) (m : Nat) (g' b' : List Int) : Prop where
  ok : TriOk (nxOf zs) (livesI zs) g' b'
  len : b'.length = b.length + m
  keeps : ∀ y, y ∈ g ∨ y ∈ b → y ∈ g' ∨ y ∈ b'
  sound : ∀ fr, (∀ y, y ∈ g ∨ y ∈ b → Reach (nxOf zs) fr y) → ∀ y, y ∈ g' ∨ y ∈ b' → Reach (nxOf zs) fr y
theorem StI.zero {zs g b : List Int} (h : TriOk (nxOf zs) (livesI zs) g b) : StI zs g b 0 g b := ⟨h, by omega, fun _ h => h, fun _ h => h⟩
theorem StI.step {zs g b : List Int} {m : Nat} {x : Int} {g' b' : List Int} (hz : ∀ z ∈ zs, (Lit.int .u64 z).wf = true) (h0 : arErr zs = 0) (h : StI zs g b m (x :: g') b') : StI zs g b (m + 1) (stepG (nxOf zs) x g' b') (stepB x b') := by
  have hL := lives_fit h0
  have hc := lives_closed hz h0
  obtain ⟨h1, h2⟩ := step_ok hL hc h.ok
  exact ⟨h1, by rw [h2, h.len]; omega, fun y hy => step_keeps hL hc h.ok (h.keeps y hy), fun fr hf y hy => step_sound hL hc h.ok (h.sound fr hf) hy⟩
/-- What steps answers. -/
def StepsP (zs g b : List Int) (w : World) (e : Ending) (w' : World) : Prop := ∃ A n c G ng cg K nb cb k bF, e = .returned (.tuple #[.agg #[.slice A n c, .slice G ng cg, .slice K nb cb], .int .i64 (k : Nat), .bool true]) ∧ Below w.heap.size w w' ∧ TriIn w' A G K n c ng nb zs [] bF ∧ StI zs g b k [] bF

/-- .. in memory. -/
def StM (w : World) (zs g b : List Int) (m : Nat) (wr : World) : Prop := ∃ A n c G ng cg K nb cb g' b', Below w.heap.size w wr ∧ Box wr w.heap.size 53 #[.slice A n c, .slice G ng cg, .slice K nb cb] ∧ Box wr (w.heap.size + 1) 53 #[.slice none 0 0, .slice none 0 0, .slice none 0 0] ∧ TriIn wr A G K n c ng nb zs g' b' ∧ StI zs g b m g' b'
end Go.Proofs.Ythdnfocemchgjaa
