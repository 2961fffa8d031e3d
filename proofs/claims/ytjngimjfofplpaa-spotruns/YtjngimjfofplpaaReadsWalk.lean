/-
  The walk of WordReads: whatever the arguments and the memory, the call returns true and changes nothing that was there.
-/
import Derived.Test.YtjngimjfofplpaaWord2
namespace Go.Proofs.Ytjngimjfofplpaa
open Go.RowKit

theorem nth_set_same (zs : List Int) (i : Nat) (v : Int) (h : i < zs.length) : nth (zs.set i v) i = v := by
  simp [nth, h]
theorem nth_set_other (zs : List Int) (i j : Nat) (v : Int) (h : i ≠ j) : nth (zs.set i v) j = nth zs j := by
  simp [nth, h]

set_option maxHeartbeats 1000000 in
theorem reads_walk (A : Option Addr) (n c : Nat) (i o v : Int) (zs : List Int) (w : World) (hn : n ≤ maxLen) (hi : (Lit.int .i64 i).wf = true) (ho : (Lit.int .i64 o).wf = true) (hv : (Lit.int .u64 v).wf = true) (ha : Arr .u64 w w.heap.size A n zs) :
    Calls Try.prog 6 #[.slice A n c, .int .i64 i, .int .i64 o, .int .u64 v] w fun e w' => e = .returned (.bool true) ∧ Below w.heap.size w w' := by
  by_cases hE : wordE n i = 0
  · have hok : n ≤ 256 ∧ 0 ≤ i ∧ i < n := by
      unfold wordE at hE
      split at hE
      · omega
      · split at hE <;> omega
    obtain ⟨h256, hi0, hi1⟩ := hok
    clear hE
    have HL := Lib.hid ha.1
    by_cases hO : 0 ≤ o ∧ o < n
    · obtain ⟨ho0, ho1⟩ := hO
      go_enter Try.func6, Try.ntmps6
      go_wp2_with fail
      refine (words_any _).mono ?_
      rintro e w1 ⟨rfl, hb1⟩
      go_wp2_with fail
      refine (store_ok A n c i v zs _ h256 hi0 hi1 hv ((ha.below hb1 (Nat.le_refl _)).more hb1.size)).mono ?_
      rintro e w2 ⟨rfl, hW, hb2⟩
      have hr : Arr .u64 w2 w2.heap.size (some ⟨w1.heap.size, 0, none⟩) n (zs.set i.toNat v) := by
        have := hW.arr (B := w2.heap.size) hW.lt
        rwa [List.length_set, HL.out] at this
      have hb := (hb1.trans (hb2.mono hb1.size))
      go_wp2_with fail
      refine (load_ok _ n n _ i _ _ h256 hi0 hi1 hr).mono ?_
      rintro e w' ⟨rfl, rfl⟩
      go_wp2_with fail
      refine (load_ok _ n n _ o _ _ h256 ho0 ho1 hr).mono ?_
      rintro e w' ⟨rfl, rfl⟩
      go_wp2_with fail
      refine (load_ok A n c _ o zs _ h256 ho0 ho1 (ha.below hb (Nat.le_refl _))).mono ?_
      rintro e w' ⟨rfl, rfl⟩
      have HB := Lib.hid hb
      have e1 : nth (zs.set i.toNat v) i.toNat = v := nth_set_same _ _ _ (by have := HL.out; omega)
      rw [e1]
      have c1 : (v == v) = true := by simp
      by_cases hio : o = i
      · have c2 : (o == i) = true := by simp [hio]
        clear hb1 hb2 hW hr hb ha e1 hio
        go_wp2
        go_ret
        exact ⟨rfl, HB.out⟩
      · have c2 : (o == i) = false := by simp [hio]
        have e2 : nth (zs.set i.toNat v) o.toNat = nth zs o.toNat := nth_set_other _ _ _ _ (by omega)
        rw [e2]
        have c3 : (nth zs o.toNat == nth zs o.toNat) = true := by simp
        generalize nth zs o.toNat = X at *
        clear hb1 hb2 hW hr hb ha e1 e2 hio
        go_wp2
        go_ret
        exact ⟨rfl, HB.out⟩
    · have hEo : wordE n o = 4 := wordE_out h256 hO
      go_enter Try.func6, Try.ntmps6
      go_wp2_with fail
      refine (words_any _).mono ?_
      rintro e w1 ⟨rfl, hb1⟩
      go_wp2_with fail
      refine (store_ok A n c i v zs _ h256 hi0 hi1 hv ((ha.below hb1 (Nat.le_refl _)).more hb1.size)).mono ?_
      rintro e w2 ⟨rfl, hW, hb2⟩
      have hr : Arr .u64 w2 w2.heap.size (some ⟨w1.heap.size, 0, none⟩) n (zs.set i.toNat v) := by
        have := hW.arr (B := w2.heap.size) hW.lt
        rwa [List.length_set, HL.out] at this
      have hb := (hb1.trans (hb2.mono hb1.size))
      go_wp2_with fail
      refine (load_ok _ n n _ i _ _ h256 hi0 hi1 hr).mono ?_
      rintro e w' ⟨rfl, rfl⟩
      go_wp2_with fail
      refine (load_bad _ n n o _ hn ho (by rw [hEo]; decide)).mono ?_
      rintro e w' ⟨rfl, rfl⟩
      go_wp2_with fail
      refine (load_bad A n c o _ hn ho (by rw [hEo]; decide)).mono ?_
      rintro e w' ⟨rfl, rfl⟩
      have HB := Lib.hid hb
      have e1 : nth (zs.set i.toNat v) i.toNat = v := nth_set_same _ _ _ (by have := HL.out; omega)
      rw [e1, hEo]
      have c1 : (v == v) = true := by simp
      have c2 : (o == i) = false := by simp; omega
      clear hb1 hb2 hW hr hb ha e1 hEo
      go_wp2
      go_ret
      exact ⟨rfl, HB.out⟩
  · have hb : (wordE n i != 0) = true := by simpa using hE
    go_enter Try.func6, Try.ntmps6
    go_wp2_with fail
    refine (words_any _).mono ?_
    rintro e w1 ⟨rfl, hb1⟩
    go_wp2_with fail
    refine (store_bad A n c i v _ hn hi hE).mono ?_
    rintro e w' ⟨rfl, rfl⟩
    have HB := Lib.hid hb1
    clear hb1
    go_wp2
    go_ret
    exact ⟨rfl, HB.out⟩
end Go.Proofs.Ytjngimjfofplpaa
