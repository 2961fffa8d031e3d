/-
  Contract of spot.Runs, for every argument.
-/
import Derived.Test.YtcdlgohhjnpbmaaRunM
import Derived.Test.YtcdlgohhjnpbmaaSpot
namespace Go.Proofs.Ytcdlgohhjnpbmaa
open Go.RowKit

theorem run_info : (Try.prog.info? 38).map (fun i => (i.zero, i.size, i.bytes)) = some (some (.agg #[.int .i64 0, .int .i64 0]), 2, 16) := by kernel_rfl

/-- What a round of Runs does, in numbers. -/
theorem round_runs {zs : List Int} {q a : Nat} (ha : a < q) (hb : bit zs a = true) (h0 : a = 0 ∨ bit zs (a - 1) = false) :
    a < nextN zs false q a ∧ nextN zs false q a ≤ q ∧ nextN zs false q a ≤ nextN zs true q (nextN zs false q a) ∧ nextN zs true q (nextN zs false q a) ≤ q ∧
      runsTo (bit zs) (nextN zs true q (nextN zs false q a)) = runsTo (bit zs) a ++ [((a : Int), (nextN zs false q a : Int) - a)] ∧
      (nextN zs true q (nextN zs false q a) = q ∨ (bit zs (nextN zs true q (nextN zs false q a)) = true ∧ bit zs (nextN zs true q (nextN zs false q a) - 1) = false)) := by
  obtain ⟨e1, e2⟩ := nextN_le (zs := zs) (on := false) (n := q) (a := a) (by omega)
  have e3 : nextN zs false q a ≠ a := by
    intro h
    have := nextN_hit (zs := zs) (on := false) (n := q) (a := a) (by omega) (by omega)
    rw [h, hb] at this; cases this
  obtain ⟨f1, f2⟩ := nextN_le (zs := zs) (on := true) (n := q) (a := nextN zs false q a) (by omega)
  have hin : ∀ k, a ≤ k → k < nextN zs false q a → bit zs k = true := fun k h1 h2 => by
    have := nextN_none h1 h2; simpa using this
  have hgap : ∀ k, nextN zs false q a ≤ k → k < nextN zs true q (nextN zs false q a) → bit zs k = false := fun k h1 h2 => by
    have := nextN_none h1 h2; simpa using this
  have hhit : nextN zs true q (nextN zs false q a) < q → bit zs (nextN zs true q (nextN zs false q a)) = true := fun h => nextN_hit (by omega) h
  have hhit0 : nextN zs false q a < q → bit zs (nextN zs false q a) = false := fun h => nextN_hit (by omega) h
  generalize nextN zs false q a = e at *
  generalize nextN zs true q e = b at *
  refine ⟨by omega, e2, f1, f2, ?_, ?_⟩
  · have g1 := runsTo_gap (f := bit zs) (a := e) (b - e) fun k h1 h2 => hgap k h1 (by omega)
    have g2 := runsTo_run (f := bit zs) h0 (e - a - 1) fun k h1 h2 => hin k h1 (by omega)
    rw [show e + (b - e) = b by omega] at g1
    rw [show a + (e - a - 1 + 1) = e by omega, show ((e - a - 1 : Nat) : Int) + 1 = (e : Int) - a by omega] at g2
    rw [g1, g2]
  · rcases Nat.eq_or_lt_of_le f2 with h | h
    · exact .inl h
    · refine .inr ⟨hhit h, ?_⟩
      rcases Nat.eq_or_lt_of_le f1 with h1 | h1
      · have h2 := hhit h
        rw [← h1, hhit0 (by omega)] at h2; cases h2
      · exact hgap _ (by omega) (by omega)

/-- What Runs answers. -/
def RunsP (m : Int) (zs : List Int) (w : World) (e : Ending) (w' : World) : Prop := ∃ A k c, e = .returned (.tuple #[.slice A k c, .int .i64 (marksE zs m)]) ∧ Below w.heap.size w w' ∧ k ≤ c ∧
  ((marksE zs m ≠ 0 ∧ k = 0) ∨ (marksE zs m = 0 ∧ k = (runsTo (bit zs) m.toNat).length ∧ ArrG runC 2 w' w'.heap.size A k (runsTo (bit zs) m.toNat)))

set_option maxHeartbeats 1000000 in
theorem runs_good (A : Option Addr) (n c q : Nat) (zs : List Int) (w : World) (h : marksE zs q = 0) (ha : Arr .u64 w w.heap.size A n zs) :
    Calls Try.prog 17 #[.slice A n c, .int .i64 q] w (RunsP q zs w) := by
  obtain ⟨g1, g2, g3, g4, g5⟩ := marks_len h ha.1
  have HE := Lib.hid h
  obtain ⟨a1, a2⟩ := nextN_le (zs := zs) (on := true) (n := q) (a := 0) (by omega)
  have hst : runsTo (bit zs) (nextN zs true q 0) = [] := by
    have := runsTo_gap (f := bit zs) (a := 0) (nextN zs true q 0) fun k h1 h2 => by
      have := nextN_none h1 (by simpa using h2); simpa using this
    rwa [Nat.zero_add] at this
  have hst2 : nextN zs true q 0 = q ∨ (bit zs (nextN zs true q 0) = true ∧ (nextN zs true q 0 = 0 ∨ bit zs (nextN zs true q 0 - 1) = false)) := by
    rcases Nat.eq_or_lt_of_le a2 with h | h
    · exact .inl h
    · refine .inr ⟨nextN_hit (by omega) h, ?_⟩
      rcases Nat.eq_zero_or_pos (nextN zs true q 0) with h1 | h1
      · exact .inl h1
      · have := nextN_none (zs := zs) (on := true) (n := q) (a := 0) (k := nextN zs true q 0 - 1) (by omega) (by omega)
        exact .inr (by simpa using this)
  generalize hs : nextN zs true q 0 = s at *
  have HS := Lib.hid hs
  have HT := Lib.hid hst
  have HU := Lib.hid hst2
  clear hs hst hst2
  go_enter Try.func17, Try.ntmps17
  go_wp2_with fail
  refine (spotCheck_any A n c _ q zs _ g2 (wf_i64.2 (by omega)) ha).mono ?_
  rintro e w' ⟨rfl, rfl⟩
  rw [h]
  clear h
  go_wp2_with fail
  refine (next_any A n c _ q 0 true zs _ g1 (by omega) (by omega) ha).mono ?_
  rintro e w' ⟨rfl, rfl⟩
  rw [HS.out]
  go_wp2_with fail
  go_loopw [7, 8] (fun v i wr => ∃ a : Nat, a ≤ q ∧ i = .int .i64 a ∧ (a = q ∨ (bit zs a = true ∧ (a = 0 ∨ bit zs (a - 1) = false))) ∧ OwnG runC 2 38 wr w.heap.size v (runsTo (bit zs) a) ∧ Below w.heap.size w wr) (fun _ i _ => q - (intOf i).toNat)
  case atStart => exact ⟨s, a2, rfl, HU.out, by rw [HT.out]; exact OwnG.nil, Below.refl _ _⟩
  case round =>
    obtain ⟨a, haq, rfl, hq, hO, hB⟩ := hrel
    by_cases hlt : a < q
    · obtain ⟨hb, h0⟩ := hq.resolve_left (by omega)
      obtain ⟨r1, r2, r3, r4, r5, r6⟩ := round_runs hlt hb h0
      obtain ⟨E, hE⟩ : ∃ E, nextN zs false q a = E := ⟨_, rfl⟩
      rw [hE] at r1 r2 r3 r4 r5 r6
      obtain ⟨F, hF⟩ : ∃ F, nextN zs true q E = F := ⟨_, rfl⟩
      rw [hF] at r3 r4 r5 r6
      have HE1 := Lib.hid hE
      have HF1 := Lib.hid hF
      have hlen := runsTo_len (f := bit zs) a
      obtain ⟨v', w', hrun, hO', hB'⟩ := hO.push (P := Try.prog) (t := 32) (ty := 32) runC_len runC_one (by omega) Try.underlying32 run_info rfl (by omega) ((a : Int), (E : Int) - a) (by omega) hB.size
      rw [← r5] at hO'
      have haW := (ha.below hB (Nat.le_refl _))
      have haW' := (ha.below (hB.trans hB') (Nat.le_refl _))
      have HO := Lib.hid hO'
      have HB := Lib.hid (hB.trans hB')
      have HR := Lib.hid hrun
      have H6 : Hid (F = q ∨ (bit zs F = true ∧ (F = 0 ∨ bit zs (F - 1) = false))) := r6.imp id fun h => ⟨h.1, .inr h.2⟩
      clear hE hF hrun hO' hB' hO hB r5 r6 hb h0 hq ha HS HT HU
      go_wp2_with fail
      refine (next_any A n c _ q a false zs _ g1 (by omega) (by omega) haW).mono ?_
      rintro e w'' ⟨rfl, rfl⟩
      rw [HE1.out]
      go_wp2_with (at_builtin; refine wpList_append_run rfl (.tmp 26) (.tmp 32) 32 rfl rfl rfl HR.out ?_)
      refine (next_any A n c _ q E true zs _ g1 (by omega) (by omega) haW').mono ?_
      rintro e w'' ⟨rfl, rfl⟩
      rw [HF1.out]
      go_wp2
      go_roundw
      case rel => exact ⟨F, by omega, rfl, H6.out, HO.out, HB.out⟩
      case measure => simp [intOf]; omega
    · obtain rfl : q = a := by omega
      obtain ⟨A2, c2, rfl, hc2, hA⟩ := hO.arr runC_len
      have H1 := Lib.hid hA
      have H2 := Lib.hid hB
      clear hO hA hB hq ha HS HT HU
      go_wp2
      go_ret2
      exact ⟨_, _, _, by rw [HE.out]; rfl, H2.out, hc2, .inr ⟨HE.out, rfl, H1.out⟩⟩
set_option maxHeartbeats 400000 in
theorem runs_bad (A : Option Addr) (n c : Nat) (m : Int) (zs : List Int) (w : World) (hn : n ≤ maxLen) (hm : (Lit.int .i64 m).wf = true) (ha : Arr .u64 w w.heap.size A n zs) (h : marksE zs m ≠ 0) :
    Calls Try.prog 17 #[.slice A n c, .int .i64 m] w (RunsP m zs w) := by
  have hb : (marksE zs m != 0) = true := by simpa using h
  have HE := Lib.hid h
  clear h
  go_enter Try.func17, Try.ntmps17
  go_wp2_with fail
  refine (spotCheck_any A n c _ m zs _ hn hm ha).mono ?_
  rintro e w' ⟨rfl, rfl⟩
  go_wp2
  go_ret2
  exact ⟨_, _, _, rfl, Below.refl _ _, Nat.le_refl _, .inl ⟨HE.out, rfl⟩⟩
theorem Runs_any (A : Option Addr) (n c : Nat) (m : Int) (zs : List Int) (w : World) (hn : n ≤ maxLen) (hm : (Lit.int .i64 m).wf = true) (ha : Arr .u64 w w.heap.size A n zs) :
    Calls Try.prog 17 #[.slice A n c, .int .i64 m] w (RunsP m zs w) := by
  by_cases h : marksE zs m = 0
  · obtain ⟨h1, _⟩ := marksE_zero h
    obtain ⟨q, rfl⟩ := Int.eq_ofNat_of_zero_le h1
    exact runs_good A n c q zs w h ha
  · exact runs_bad A n c m zs w hn hm ha h
end Go.Proofs.Ytcdlgohhjnpbmaa
