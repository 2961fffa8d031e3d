/-
  Contracts of word.Move and of the first question that the statements on word arenas ask.
-/
import Derived.Test.YtggjgcnmkkoheaaWord
import Derived.StillTailTactics
import Derived.IntWalk
namespace Go.Proofs.Ytggjgcnmkkoheaa
open Go.RowKit

set_option maxHeartbeats 400000 in
theorem words_any (w : World) : Calls Try.prog 42 #[] w fun e w' => e = .returned (.bool true) ∧ Below w.heap.size w w' := by
  have hz : ∀ z ∈ ([5] : List Int), (Lit.int .u64 z).wf = true := by
    intro z hz
    rw [wf_u64]
    simp at hz
    omega
  go_enter Try.func42, Try.ntmps42
  go_wp2_with fail
  refine (load_ok _ 1 _ (w.heap.size + 1) 0 [5] _ (by decide) (by decide) (by decide) ?_).mono ?_
  · exact Whole.arr (t := 42) (whole_at .u64 42 [5] hz rfl) (by omega)
  rintro e w' ⟨rfl, rfl⟩
  go_wp2
  go_ret
  exact ⟨rfl, (Below.refl _ _).alloc (Nat.le_refl _) _⟩

set_option maxHeartbeats 400000 in
theorem move_bad1 (A : Option Addr) (n c : Nat) (i j m : Int) (w : World) (hn : n ≤ maxLen) (hi : (Lit.int .i64 i).wf = true) (hm : (Lit.int .i64 m).wf = true) (hE : rangeE n i m ≠ 0) :
    Calls Try.prog 44 #[.slice A n c, .int .i64 i, .int .i64 j, .int .i64 m] w fun e w' => e = .returned (.tuple #[.slice none 0 0, .int .i64 (rangeE n i m)]) ∧ w = w' := by
  have hb : (rangeE n i m != 0) = true := by simpa using hE
  clear hE
  go_enter Try.func44, Try.ntmps44
  go_wp2_with fail
  refine (checkRange_any A n c i m _ hn hi hm).mono ?_
  rintro e w' ⟨rfl, rfl⟩
  go_wp2
  go_ret2
  exact ⟨rfl, rfl⟩

set_option maxHeartbeats 400000 in
theorem move_bad2 (A : Option Addr) (n c : Nat) (i j m : Int) (w : World) (hn : n ≤ maxLen) (hi : (Lit.int .i64 i).wf = true) (hj : (Lit.int .i64 j).wf = true) (hm : (Lit.int .i64 m).wf = true) (h0 : rangeE n i m = 0) (hE : rangeE n j m ≠ 0) :
    Calls Try.prog 44 #[.slice A n c, .int .i64 i, .int .i64 j, .int .i64 m] w fun e w' => e = .returned (.tuple #[.slice none 0 0, .int .i64 (rangeE n j m)]) ∧ w = w' := by
  have hb : (rangeE n j m != 0) = true := by simpa using hE
  clear hE
  have H0 := Lib.hid h0
  clear h0
  go_enter Try.func44, Try.ntmps44
  go_wp2_with fail
  refine (checkRange_any A n c i m _ hn hi hm).mono ?_
  rintro e w' ⟨rfl, rfl⟩
  rw [H0.out]
  go_wp2_with fail
  refine (checkRange_any A n c j m _ hn hj hm).mono ?_
  rintro e w' ⟨rfl, rfl⟩
  go_wp2
  go_ret2
  exact ⟨rfl, rfl⟩

set_option maxHeartbeats 400000 in
set_option maxRecDepth 8000 in
theorem move_ok (A : Option Addr) (n c : Nat) (i j m : Int) (zs : List Int) (w : World) (hn : n ≤ 256) (hnc : n ≤ c) (h0 : 0 ≤ i) (h1 : i ≤ n) (h2 : 0 ≤ m) (h3 : m ≤ n - i) (h4 : 0 ≤ j) (h5 : j ≤ n) (h6 : m ≤ n - j) (ha : Arr .u64 w w.heap.size A n zs) :
    Calls Try.prog 44 #[.slice A n c, .int .i64 i, .int .i64 j, .int .i64 m] w fun e w' =>
      e = .returned (.tuple #[.slice (some ⟨w.heap.size, 0, none⟩) n n, .int .i64 0]) ∧ Whole .u64 42 w' w.heap.size (splice zs j.toNat ((zs.drop i.toNat).take m.toNat)) ∧ Below w.heap.size w w' := by
  obtain ⟨p, rfl⟩ := Int.eq_ofNat_of_zero_le h0
  obtain ⟨q, rfl⟩ := Int.eq_ofNat_of_zero_le h2
  obtain ⟨r, rfl⟩ := Int.eq_ofNat_of_zero_le h4
  rw [Int.toNat_natCast, Int.toNat_natCast, Int.toNat_natCast]
  have HL := Lib.hid ha.1
  go_enter Try.func44, Try.ntmps44
  go_wp2_with fail
  refine (checkRange_any _ n c p q _ (by unfold maxLen; omega) (wf_i64.2 (by omega)) (wf_i64.2 (by omega))).mono ?_
  rintro e w' ⟨rfl, rfl⟩
  rw [rangeE_ok hn ⟨h0, h1, h2, h3⟩]
  go_wp2_with fail
  refine (checkRange_any _ n c r q _ (by unfold maxLen; omega) (wf_i64.2 (by omega)) (wf_i64.2 (by omega))).mono ?_
  rintro e w' ⟨rfl, rfl⟩
  rw [rangeE_ok hn ⟨h4, h5, h2, h6⟩]
  go_wp2_with fail
  refine (clone_any A n c zs _ hn ha).mono ?_
  rintro e w1 ⟨rfl, hW, hB⟩
  obtain ⟨D, hs1, hD⟩ := run_cut (P := Try.prog) Try.underlying22 u64_one (some ⟨w.heap.size, 0, none⟩) n n r (r + q) r q rfl rfl (by omega)
  obtain ⟨E, hs2, hE⟩ := run_cut (P := Try.prog) Try.underlying22 u64_one A n c p (p + q) p q rfl rfl (by omega)
  have ha1 : Arr .u64 w1 w.heap.size E q ((zs.drop p).take q) := (ha.below hB (Nat.le_refl _)).cut (by omega) hE
  have hcp := fun nq => run_copy_ints (P := Try.prog) (sT := 22) (ty := 3) (dc := n - r) (sc := c - p) (off := r) (w := w1.drewN nq) Try.underlying22 u64_one hW (ha1.drewN nq) (fun hq => by simpa using hD _ _ rfl hq) (by have := HL.out; omega)
  have hwf : ∀ z ∈ splice zs r ((zs.drop p).take q), (Lit.int .u64 z).wf = true := by
    intro z hz
    rcases mem_splice hz with h | h
    · exact hW.2 z h
    · exact ha1.2.1 z h
  have H1 := Lib.hid (hW.setRow (ys := splice zs r ((zs.drop p).take q)) hwf)
  have H2 := Lib.hid (below_setRow hB (Nat.le_refl _) ((splice zs r ((zs.drop p).take q)).map (Value.int .u64)).toArray)
  clear hW hB ha ha1 hD hE hwf
  have e1 : IntKind.i64.wrap ((r : Int) + q) = r + q := IntWalk.i64_in _ (by omega)
  have e2 : IntKind.i64.wrap ((p : Int) + q) = p + q := IntWalk.i64_in _ (by omega)
  generalize hys : splice zs r ((zs.drop p).take q) = ys at *
  have HY := Lib.hid hys
  clear hys
  go_wp2_with fail
  go_still_tail 12, (by kernel_rfl)
  change wpList _ _ _ _ _ (w1.drewN 1)
  have hcp1 := hcp 1
  clear hcp hs1 hs2 e1 e2
  go_wp2
  go_ret2
  exact ⟨rfl, by rw [HY.out]; exact H1.out, below_drewN H2.out 1⟩
end Go.Proofs.Ytggjgcnmkkoheaa
