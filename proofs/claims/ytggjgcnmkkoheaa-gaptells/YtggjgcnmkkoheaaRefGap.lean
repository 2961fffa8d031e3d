/-
  Contracts of the reference's FreeHead, Emptied and SameRuns.
-/
import Derived.Test.YtggjgcnmkkoheaaGapM
import Derived.Test.YtggjgcnmkkoheaaHead2
import Derived.Test.YtggjgcnmkkoheaaRef
import Derived.Test.YtggjgcnmkkoheaaRunFn
namespace Go.Proofs.Ytggjgcnmkkoheaa
open Go.RowKit

set_option maxHeartbeats 400000 in
theorem freeHead_any (n : Nat) (w : World) (h0 : 0 < n) (h1 : n ≤ 256) :
    Calls Try.prog 58 #[.int .i64 n] w fun e w' => e = .returned (.int .u64 (fWord n)) ∧ Below w.heap.size w w' := by
  have HW := Lib.hid (headWord_any 0 ((n : Int) - 1) 0 true w (fWord_fault h0 h1))
  change Hid (Calls _ _ _ w fun e w' => e = .returned (.int .u64 (fWord n)) ∧ Below w.heap.size w w') at HW
  generalize fWord n = V at *
  go_enter Try.func58, Try.ntmps58
  go_wp2_with fail
  refine HW.out.mono ?_
  rintro e w1 ⟨rfl, hb⟩
  have HB := Lib.hid hb
  clear hb
  go_wp2
  go_ret
  exact ⟨rfl, HB.out⟩

/-- What Emptied answers. -/
def EmptiedP (n : Nat) (ys : List Int) (w : World) (e : Ending) (w' : World) : Prop := ∃ A c, e = .returned (.slice A n c) ∧ Own .u64 42 w' w.heap.size (.slice A n c) ys ∧ Below w.heap.size w w'
theorem zero_step (zs : List Int) (p k : Nat) (h : p + k < zs.length) : (splice zs p (List.replicate k 0)).set (p + k) 0 = splice zs p (List.replicate (k + 1) 0) := splice_step zs p k 0 h
theorem splice_nil (zs : List Int) (p : Nat) : splice zs p [] = zs := by simp [splice]
theorem splice_len (zs : List Int) (p k : Nat) (h : p + k ≤ zs.length) : (splice zs p (List.replicate k (0 : Int))).length = zs.length := by unfold splice; simp; omega

set_option maxHeartbeats 1000000 in
theorem emptied_any (A : Option Addr) (n c p L : Nat) (zs : List Int) (w : World) (hn : n ≤ 256) (hp : p + L ≤ n) (ha : Arr .u64 w w.heap.size A n zs) :
    Calls Try.prog 17 #[.slice A n c, .int .i64 p, .int .i64 L] w (EmptiedP n (emptyL zs p L) w) := by
  have hlen := ha.1
  have HC := Lib.hid (refClone_any A n c zs w hn ha)
  unfold Cloned at HC
  clear ha
  go_enter Try.func17, Try.ntmps17
  go_wp2_with fail
  refine HC.out.mono ?_
  rintro e w1 ⟨A1, c1, rfl, hO1, hb1⟩
  have HO1 := Lib.hid hO1
  have HB1 := Lib.hid hb1
  clear hO1 hb1 HC
  go_wp2_with fail
  go_loopw [12] (fun i wr => ∃ k : Nat, k ≤ L ∧ i = .int .i64 k ∧ Own .u64 42 wr w.heap.size (.slice A1 n c1) (splice zs p (List.replicate k 0)) ∧ Below w.heap.size w wr) (fun i _ => L - (intOf i).toNat)
  case atStart => exact ⟨0, Nat.zero_le _, rfl, by rw [List.replicate_zero, splice_nil]; exact HO1.out, HB1.out⟩
  case round =>
    obtain ⟨k, hk, rfl, hO, hB⟩ := hrel
    have hsl := splice_len zs p k (by omega)
    by_cases hlt : k < L
    · obtain ⟨g, cap, hv, hg, hgl, hcells, hset⟩ := hO.form (by omega)
      injection hv with hv1 hv2 hv3
      subst hv1 hv3
      obtain ⟨cc, cf⟩ := hcells (p + k) (by omega)
      have HN := Lib.hid (hset (p + k) 0 (by omega) (by decide))
      rw [zero_step zs p k (by omega)] at HN
      have HBn := Lib.hid (below_set hB hg (p + k) (.int .u64 0))
      have hpk : (p : Int) + (k : Int) < (n : Int) := by omega
      clear hO hB hcells hset hv2 HO1 HB1 hsl
      generalize nth (splice zs p (List.replicate k 0)) (p + k) = X at *
      go_wp2
      go_roundw
      case rel => exact ⟨k + 1, by omega, by go_num, HN.out, HBn.out⟩
      case measure => simp [intOf]; omega
    · obtain rfl : k = L := by omega
      rcases Nat.eq_zero_or_pos k with h0 | h0
      · subst h0
        have he : emptyL zs p 0 = zs := by unfold emptyL; rw [if_pos rfl]
        rw [List.replicate_zero, splice_nil] at hO
        have HO := Lib.hid hO
        have HB := Lib.hid hB
        clear hO hB HO1 HB1
        go_wp2
        go_ret
        exact ⟨A1, c1, rfl, by rw [he]; exact HO.out, HB.out⟩
      · have he : emptyL zs p k = (splice zs p (List.replicate k 0)).set p (fWord k) := by unfold emptyL; rw [if_neg (by omega)]; rfl
        have HE := Lib.hid he
        have HF := Lib.hid (freeHead_any k wr h0 (by omega))
        have HWF := Lib.hid (fWord_facts (n := k) h0 (by omega)).2.2.2
        generalize fWord k = V at *
        have HO := Lib.hid hO
        have HB := Lib.hid hB
        clear hO hB HO1 HB1 he
        go_wp2_with fail
        refine HF.out.mono ?_
        rintro e w2 ⟨rfl, hb2⟩
        have hO2 := HO.out.below hb2
        obtain ⟨g, cap, hv, hg, hgl, hcells, hset⟩ := hO2.form (by omega)
        injection hv with hv1 hv2 hv3
        subst hv1 hv3
        obtain ⟨cc, cf⟩ := hcells p (by omega)
        have HN := Lib.hid (hset p V (by omega) HWF.out)
        have HBn := Lib.hid (below_set (HB.out.trans (hb2.mono HB.out.size)) hg p (.int .u64 V))
        have hpk : (p : Int) < (n : Int) := by omega
        clear hO2 hcells hset hv2 hb2 hsl HF
        generalize nth (splice zs p (List.replicate k 0)) p = X at *
        go_wp2
        go_ret
        exact ⟨_, _, rfl, by rw [HE.out]; exact HN.out, HBn.out⟩

set_option maxHeartbeats 400000 in
theorem sameRuns_same (A A' : Option Addr) (n c c' B : Nat) (xs : List (Int × Int)) (w : World) (hx : ArrG runC 2 w B A n xs) (hy : ArrG runC 2 w B A' n xs) (hn : n ≤ maxLen) :
    Calls Try.prog 18 #[.slice A n c, .slice A' n c'] w fun e w' => e = .returned (.bool true) ∧ ∃ q, w.drewN q = w' := by
  unfold maxLen at hn
  have ht : ((n : Int) != (n : Int)) = false := by simp
  go_enter Try.func18, Try.ntmps18
  go_wp2
  go_loopw [13] (fun i wr => ∃ k : Nat, k ≤ n ∧ i = .int .i64 k ∧ ∃ q, w.drewN q = wr) (fun i _ => n - (intOf i).toNat)
  case atStart => exact ⟨0, Nat.zero_le _, rfl, 0, rfl⟩
  case round =>
    obtain ⟨k, hk, rfl, q, rfl⟩ := hrel
    by_cases hlt : k < n
    · obtain ⟨b, off, rfl, _, hc0, hc1⟩ := hx.run hlt
      obtain ⟨b', off', rfl, _, hd0, hd1⟩ := hy.run hlt
      have hlt' : (k : Int) < (n : Int) := by omega
      clear hx hy
      generalize (nthG xs k).1 = X at *
      generalize (nthG xs k).2 = Y at *
      go_wp2
      go_quiet (fail)
      go_wp2
      go_roundw
      case rel => exact ⟨k + 1, by omega, by go_num, _, rfl⟩
      case measure => simp [intOf]; omega
    · obtain rfl : k = n := by omega
      clear hx hy
      go_wp2
      go_ret
      exact ⟨rfl, _, rfl⟩
end Go.Proofs.Ytggjgcnmkkoheaa
