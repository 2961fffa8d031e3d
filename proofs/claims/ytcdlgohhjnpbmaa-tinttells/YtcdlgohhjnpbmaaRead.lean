/-
  Contracts of package walk's reference, refs, read, Check, for every argument.
-/
import Derived.Test.YtcdlgohhjnpbmaaWalkR
import Derived.Test.YtcdlgohhjnpbmaaSpots
import Derived.IntWalk
import Derived.Carry
import Derived.StillTailTactics
namespace Go.Proofs.Ytcdlgohhjnpbmaa
open Go.RowKit

theorem mapT : MapT Try.prog .u64 .i64 122 44 3 := ⟨Try.underlying122, Try.underlying44, Try.underlying3, fun _ => by kernel_rfl⟩
theorem u64_size : (Try.prog.info? 44).map (·.size) = some 1 := by kernel_rfl

set_option maxHeartbeats 400000 in
theorem reference_any (s : Nat) (w : World) (h : s ≤ 256) : Calls Try.prog 101 #[.int .i64 s] w fun e w' => e = .returned (.int .u64 ((s : Int) + 1)) ∧ w = w' := by
  go_enter Try.func101, Try.ntmps101
  go_wp2
  go_ret
  exact ⟨rfl, rfl⟩

/-- The heap as a value. -/
def heapV (A : Option Addr) (n c : Nat) (A2 : Option Addr) (m c2 b : Nat) : Value := .agg #[.slice A n c, .slice A2 m c2, .map (some b)]

set_option maxHeartbeats 400000 in
theorem refs_any (A : Option Addr) (n c : Nat) (A2 : Option Addr) (m c2 b : Nat) (zs : List Int) (s : Nat) (w : World) (B : Nat) (ha : Arr .u64 w B A n zs) (hB : B ≤ w.heap.size) (hn : n ≤ 256) (hnc : n ≤ c) (hs : s < n) (hst : stepOk zs s = true) :
    Calls Try.prog 102 #[.agg #[.slice A n c, .slice A2 m c2, .map (some b)], .agg #[.int .i64 s, .int .i64 (vR (nth zs s)), .int .i64 (vB (nth zs s)), .int .i64 (vT (nth zs s)), .bool (vF (nth zs s))]] w fun e w' =>
      ∃ D d, e = .returned (.slice D (refWords zs s).length d) ∧ Below w.heap.size w w' ∧ Arr .u64 w' B D (refWords zs s).length (refWords zs s) := by
  have hl := ha.1
  obtain ⟨R, Bd, hR, hBd, f1, f2, f3, f4, f5, f6, f7, f8⟩ := spot_facts hst ha.2.1 (by omega)
  have hrl := refWords_len hst
  have hrw : refWords zs s = (zs.drop (s + 1)).take R := by unfold refWords; rw [hR]; rfl
  rw [hR] at hrl
  rw [hR, hBd]
  obtain ⟨D, hD, hD2⟩ := run_from (P := Try.prog) Try.underlying22 u64_size A n c (s + 1) ((s : Int) + 1) (by omega) (by omega) hnc
  obtain ⟨E, hE, hE2⟩ := run_upto (P := Try.prog) Try.underlying22 u64_size D (n - (s + 1)) (c - (s + 1)) R R rfl (by omega)
  have hA := ha.cut2 (p := s + 1) (q := R) (by omega) hD2 hE2
  rw [← hrw] at hA
  rw [show (refWords zs s).length = R by rw [hrl]; simp]
  have HA := Lib.hid hA
  have g1 : IntKind.i64.wrap ((s : Int) + 1) = s + 1 := IntWalk.i64_in _ (by omega)
  clear hA hrw hrl hD2 hE2 ha hst
  generalize vT (nth zs s) = T at *
  generalize vF (nth zs s) = F at *
  have b1 := (Box.new w 124 #[.slice A n c, .slice A2 m c2, .map (some b)]).alloc (.cells #[.int .i64 s, .int .i64 R, .int .i64 Bd, .int .i64 T, .bool F] 112)
  have b2 := Box.new (w.alloc (.cells #[.slice A n c, .slice A2 m c2, .map (some b)] 124)) 112 #[.int .i64 s, .int .i64 R, .int .i64 Bd, .int .i64 T, .bool F]
  have HB := Lib.hid (((Below.refl _ w).alloc (Nat.le_refl _) (.cells #[.slice A n c, .slice A2 m c2, .map (some b)] 124)).alloc (by simp) (.cells #[.int .i64 s, .int .i64 R, .int .i64 Bd, .int .i64 T, .bool F] 112))
  have e1 : (w.alloc (.cells #[.slice A n c, .slice A2 m c2, .map (some b)] 124)).heap.size = w.heap.size + 1 := by simp
  rw [e1] at b2
  have B1 := Lib.hid b1
  have B2 := Lib.hid b2
  clear b1 b2
  go_enter Try.func102, Try.ntmps102
  go_wp2_with fail
  generalize ((w.alloc (.cells #[.slice A n c, .slice A2 m c2, .map (some b)] 124)).alloc (.cells #[.int .i64 s, .int .i64 R, .int .i64 Bd, .int .i64 T, .bool F] 112)) = W at *
  have c0 : W.cell? ⟨w.heap.size, 0, none⟩ = some (.slice A n c) := B1.out.cell 0
  have d0 : W.cell? ⟨w.heap.size + 1, 0, none⟩ = some (.int .i64 s) := B2.out.cell 0
  have d1 : W.cell? ⟨w.heap.size + 1, 1, none⟩ = some (.int .i64 R) := B2.out.cell 1
  go_quiet (fail)
  go_wp2
  go_ret
  exact ⟨_, _, rfl, below_drewN HB.out _, ((HA.out.below HB.out hB)).drewN _⟩

/-- What read answers. -/
def ReadP (A : Option Addr) (n c : Nat) (zs : List Int) (w : World) (e : Ending) (w' : World) : Prop := Below w.heap.size w w' ∧
  ((arErr zs ≠ 0 ∧ e = .returned (.tuple #[.agg #[.slice none 0 0, .slice none 0 0, .map none], .int .i64 (arErr zs)])) ∨
   (arErr zs = 0 ∧ ∃ A2 c2 b, e = .returned (.tuple #[.agg #[.slice A n c, .slice A2 (begins zs 0).length c2, .map (some b)], .int .i64 0]) ∧ (begins zs 0).length ≤ c2 ∧
      ArrG spotC 5 w' w'.heap.size A2 (begins zs 0).length (spList zs) ∧ High w.heap.size A2 (begins zs 0).length ∧ w.heap.size ≤ b ∧ MapF Try.prog .u64 .i64 44 3 w' b 300 (ixOf zs)))

set_option maxHeartbeats 400000 in
theorem read_bad1 (A : Option Addr) (n c : Nat) (zs : List Int) (w : World) (hn : n ≤ maxLen) (ha : Arr .u64 w w.heap.size A n zs) (h : spErr zs ≠ 0) :
    Calls Try.prog 93 #[.slice A n c] w (ReadP A n c zs w) := by
  have he := arErr_sp h
  have hb : (spErr zs != 0) = true := by simpa using h
  have H := Lib.hid h
  have HN := Lib.hid hn
  have HE := Lib.hid he
  clear h he hn
  have b1 := (Below.refl _ w).alloc (Nat.le_refl _) (.cells #[.slice none 0 0, .slice none 0 0, .map none] 124)
  have HA := Lib.hid ((ha.below b1 (Nat.le_refl _)).more b1.size)
  clear b1 ha
  go_enter Try.func93, Try.ntmps93
  go_wp2_with fail
  refine (Spots_any A n c zs _ HN.out HA.out).mono ?_
  rintro e w1 ⟨A2, c2, rfl, b1, _, _, _⟩
  obtain ⟨bx, b1⟩ := boxed_call b1
  have s0 := bx.soft 0
  have s1 := bx.soft 1
  have s2 := bx.soft 2
  have d0 : w1.cell? ⟨w.heap.size, 0, none⟩ = some (.slice none 0 0) := bx.cell 0
  have d1 : w1.cell? ⟨w.heap.size, 1, none⟩ = some (.slice none 0 0) := bx.cell 1
  have d2 : w1.cell? ⟨w.heap.size, 2, none⟩ = some (.map none) := bx.cell 2
  have HB := Lib.hid b1
  have BX := Lib.hid bx
  clear b1 bx HA
  generalize (spList zs).length = m at *
  go_wp2
  have BY := ((BX.out.set 0 (.slice none 0 0)).set 1 (.slice none 0 0)).set 2 (.map none)
  have HB' := below_set (below_set (below_set HB.out (Nat.le_refl _) 0 (.slice none 0 0)) (Nat.le_refl _) 1 (.slice none 0 0)) (Nat.le_refl _) 2 (.map none)
  generalize (((w1.setCell ⟨w.heap.size, 0, none⟩ (.slice none 0 0)).setCell ⟨w.heap.size, 1, none⟩ (.slice none 0 0)).setCell ⟨w.heap.size, 2, none⟩ (.map none)) = W at *
  have x0 : W.cell? ⟨w.heap.size, 0, none⟩ = some (.slice none 0 0) := BY.cell 0
  have x1 : W.cell? ⟨w.heap.size, 1, none⟩ = some (.slice none 0 0) := BY.cell 1
  have x2 : W.cell? ⟨w.heap.size, 2, none⟩ = some (.map none) := BY.cell 2
  refine bodyPost_ret (v := .tuple #[.agg #[.slice none 0 0, .slice none 0 0, .map none], .int .i64 (spErr zs)]) (by simp [results, Try.results93, go_sem, x0, x1, x2]) rfl ⟨HB', .inl ⟨by rw [HE.out]; exact H.out, by rw [HE.out]⟩⟩
end Go.Proofs.Ytcdlgohhjnpbmaa
