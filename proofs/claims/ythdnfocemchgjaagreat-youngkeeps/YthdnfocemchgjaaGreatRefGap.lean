/-
  Slices of runs, and the reference's runs and gaps.
-/
import Derived.Test.YthdnfocemchgjaaGreatRunM
import Derived.Test.YthdnfocemchgjaaGreatRef
import Derived.Test.YthdnfocemchgjaaGreatGapM
import Derived.Test.YthdnfocemchgjaaGreatHead
namespace Go.Proofs.YthdnfocemchgjaaGreat
open Go.RowKit

theorem ArrG.run {w : World} {B n : Nat} {A : Option Addr} {l : List (Int × Int)} (h : ArrG runC 2 w B A n l) {j : Nat} (hj : j < n) :
    ∃ b off, A = some ⟨b, off, none⟩ ∧ b < B ∧ w.cell? ⟨b, off + j * 2, none⟩ = some (.int .i64 (nthG l j).1) ∧ w.cell? ⟨b, off + j * 2 + 1, none⟩ = some (.int .i64 (nthG l j).2) := by
  obtain ⟨b, off, e, hb, hc⟩ := h.at_ hj
  exact ⟨b, off, e, hb, hc 0 (by omega), hc 1 (by omega)⟩
theorem any_true {f : Nat → Bool} {n k : Nat} (hk : k < n) (h : f k = true) : (List.range n).any f = true := List.any_eq_true.2 ⟨k, List.mem_range.2 hk, h⟩
theorem any_false {f : Nat → Bool} {n : Nat} (h : ∀ j, j < n → f j = false) : (List.range n).any f = false := by
  rw [List.any_eq_false]; intro j hj; rw [h j (List.mem_range.1 hj)]; decide

/-- The answer of IndexFunc: the first number that the rule marks, -1 if none. -/
def FoundAt (n : Nat) (f : Nat → Bool) (w : World) (e : Ending) (w' : World) : Prop := ∃ r : Int, e = .returned (.int .i64 r) ∧ Below w.heap.size w w' ∧
  ((∃ k : Nat, r = k ∧ k < n ∧ f k = true ∧ ∀ j, j < k → f j = false) ∨ (r = -1 ∧ ∀ j, j < n → f j = false))

theorem nthG_ext {α : Type} [Inhabited α] {xs ys : List α} (hl : xs.length = ys.length) (h : ∀ j, j < xs.length → nthG xs j = nthG ys j) : xs = ys := by
  apply List.ext_getElem hl
  intro i h1 h2
  have := h i h1
  simpa [nthG, h1, h2] using this

set_option maxHeartbeats 400000 in
theorem freeHead_any (n : Nat) (w : World) (h0 : 0 < n) (h1 : n ≤ 256) :
    Calls Tryz.prog 35 #[.int .i64 n] w fun e w' => e = .returned (.int .u64 (fWord n)) ∧ Below w.heap.size w w' := by
  have HW := Lib.hid (headWord_any 0 ((n : Int) - 1) 0 true w (fWord_fault h0 h1))
  change Hid (Calls _ _ _ w fun e w' => e = .returned (.int .u64 (fWord n)) ∧ Below w.heap.size w w') at HW
  generalize fWord n = V at *
  go_enter Tryz.func35, Tryz.ntmps35
  go_wp2_with fail
  refine HW.out.mono ?_
  rintro e w1 ⟨rfl, hb⟩
  have HB := Lib.hid hb
  clear hb
  go_wp2
  go_ret
  exact ⟨rfl, HB.out⟩

/-- What Emptied answers. -/
def EmptiedP (n : Nat) (ys : List Int) (w : World) (e : Ending) (w' : World) : Prop := ∃ A c, e = .returned (.slice A n c) ∧ Own .u64 54 w' w.heap.size (.slice A n c) ys ∧ Below w.heap.size w w'
theorem zero_step (zs : List Int) (p k : Nat) (h : p + k < zs.length) : (splice zs p (List.replicate k 0)).set (p + k) 0 = splice zs p (List.replicate (k + 1) 0) := splice_step zs p k 0 h
theorem splice_nil (zs : List Int) (p : Nat) : splice zs p [] = zs := by simp [splice]
theorem splice_len (zs : List Int) (p k : Nat) (h : p + k ≤ zs.length) : (splice zs p (List.replicate k (0 : Int))).length = zs.length := by unfold splice; simp; omega

set_option maxHeartbeats 1000000 in
theorem emptied_any (A : Option Addr) (n c p L : Nat) (zs : List Int) (w : World) (hn : n ≤ 256) (hp : p + L ≤ n) (ha : Arr .u64 w w.heap.size A n zs) :
    Calls Tryz.prog 17 #[.slice A n c, .int .i64 p, .int .i64 L] w (EmptiedP n (emptyL zs p L) w) := by
  have hlen := ha.1
  have HC := Lib.hid (refClone_any A n c zs w hn ha)
  unfold Cloned at HC
  clear ha
  go_enter Tryz.func17, Tryz.ntmps17
  go_wp2_with fail
  refine HC.out.mono ?_
  rintro e w1 ⟨A1, c1, rfl, hO1, hb1⟩
  have HO1 := Lib.hid hO1
  have HB1 := Lib.hid hb1
  clear hO1 hb1 HC
  go_wp2_with fail
  go_loopw [12] (fun i wr => ∃ k : Nat, k ≤ L ∧ i = .int .i64 k ∧ Own .u64 54 wr w.heap.size (.slice A1 n c1) (splice zs p (List.replicate k 0)) ∧ Below w.heap.size w wr) (fun i _ => L - (intOf i).toNat)
  case atStart => exact ⟨0, Nat.zero_le _, rfl, by rw [List.replicate_zero, splice_nil]; exact HO1.out, HB1.out⟩
  case round =>
    obtain ⟨k, hk, rfl, hO, hB⟩ := hrel
    have hsl := splice_len zs p k (by omega)
    by_cases hlt : k < L
    · obtain ⟨g, cap, hv, hg, hgl, hcells, hset⟩ := hO.form (by omega)
      injection hv with hv1 hv2 hv3
      subst hv1 hv3
      obtain ⟨cc, cf⟩ := hcells (p + k) (by omega)
      have HN := Lib.hid (hset (p + k) 0 (by omega) (by decide))
      rw [zero_step zs p k (by omega)] at HN
      have HBn := Lib.hid (below_set hB hg (p + k) (.int .u64 0))
      have hpk : (p : Int) + (k : Int) < (n : Int) := by omega
      clear hO hB hcells hset hv2 HO1 HB1 hsl
      generalize nth (splice zs p (List.replicate k 0)) (p + k) = X at *
      go_wp2
      go_roundw
      case rel => exact ⟨k + 1, by omega, by go_num, HN.out, HBn.out⟩
      case measure => simp [intOf]; omega
    · obtain rfl : k = L := by omega
      rcases Nat.eq_zero_or_pos k with h0 | h0
      · subst h0
        have he : emptyL zs p 0 = zs := by unfold emptyL; rw [if_pos rfl]
        rw [List.replicate_zero, splice_nil] at hO
        have HO := Lib.hid hO
        have HB := Lib.hid hB
        clear hO hB HO1 HB1
        go_wp2
        go_ret
        exact ⟨A1, c1, rfl, by rw [he]; exact HO.out, HB.out⟩
      · have he : emptyL zs p k = (splice zs p (List.replicate k 0)).set p (fWord k) := by unfold emptyL; rw [if_neg (by omega)]; rfl
        have HE := Lib.hid he
        have HF := Lib.hid (freeHead_any k wr h0 (by omega))
        have HWF := Lib.hid (fWord_facts (n := k) h0 (by omega)).2.2.2
        generalize fWord k = V at *
        have HO := Lib.hid hO
        have HB := Lib.hid hB
        clear hO hB HO1 HB1 he
        go_wp2_with fail
        refine HF.out.mono ?_
        rintro e w2 ⟨rfl, hb2⟩
        have hO2 := HO.out.below hb2
        obtain ⟨g, cap, hv, hg, hgl, hcells, hset⟩ := hO2.form (by omega)
        injection hv with hv1 hv2 hv3
        subst hv1 hv3
        obtain ⟨cc, cf⟩ := hcells p (by omega)
        have HN := Lib.hid (hset p V (by omega) HWF.out)
        have HBn := Lib.hid (below_set (HB.out.trans (hb2.mono HB.out.size)) hg p (.int .u64 V))
        have hpk : (p : Int) < (n : Int) := by omega
        clear hO2 hcells hset hv2 hb2 hsl HF
        generalize nth (splice zs p (List.replicate k 0)) p = X at *
        go_wp2
        go_ret
        exact ⟨_, _, rfl, by rw [HE.out]; exact HN.out, HBn.out⟩

end Go.Proofs.YthdnfocemchgjaaGreat
