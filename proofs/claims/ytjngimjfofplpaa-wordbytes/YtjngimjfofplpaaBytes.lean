/-
  Contracts of word.Bytes and of the reference's ByteText: both return the words' bytes, least significant first.
-/
import Derived.Test.YtjngimjfofplpaaWord2
import Derived.Test.YtjngimjfofplpaaOwn
import Derived.Test.YtjngimjfofplpaaLe
import Derived.WalkLawsBesides
namespace Go.Proofs.Ytjngimjfofplpaa
open Go.RowKit
theorem u8_info : (Try.prog.info? 5).map (fun i => (i.zero, i.size, i.bytes)) = some (some (.int .u8 0), 1, 1) := by kernel_rfl

set_option maxHeartbeats 400000 in
theorem bytes_large (A : Option Addr) (n c : Nat) (w : World) (hn : n ≤ maxLen) (h : 256 < n) :
    Calls Try.prog 24 #[.slice A n c] w fun e w' => e = .returned (.tuple #[.string ⟨#[]⟩, .int .i64 2]) ∧ w = w' := by
  unfold maxLen at hn
  have h1 : (256 : Int) < n := by omega
  go_enter Try.func24, Try.ntmps24
  go_wp2
  go_ret2
  exact ⟨rfl, rfl⟩

set_option maxHeartbeats 1000000 in
theorem bytes_ok (A : Option Addr) (n c : Nat) (zs : List Int) (w : World) (hn : n ≤ 256) (ha : Arr .u64 w w.heap.size A n zs) :
    Calls Try.prog 24 #[.slice A n c] w fun e w' => e = .returned (.tuple #[.string (strOfNums (bytesL zs)), .int .i64 0]) ∧ Below w.heap.size w w' := by
  have h1 : ¬ (256 : Int) < n := by omega
  obtain ⟨i0, hi0, hz0, hs0, hb0⟩ := info_parts u8_info
  obtain ⟨W1, hrun, hown, hg⟩ := run_make_own (P := Try.prog) w w.heap.size 75 5 i0 (.int .u8 0) 1 Try.underlying75 hi0 hz0 hs0 .i64 .i64 (8 * n) (by rw [hb0]; omega) (by unfold maxLen; omega) (Nat.le_refl _)
  have e1 : (((8 * n : Nat)) : Int) = 8 * (n : Int) := by omega
  rw [e1] at hrun
  clear e1
  have H1 : Hid (Own .u8 5 W1 w.heap.size (.slice (some ⟨w.heap.size, 0, none⟩) 0 (8 * n)) []) := ⟨hown, fun x hx => by cases hx⟩
  have H2 := Lib.hid ((Below.refl w.heap.size w).grown hg (Nat.le_refl _) (fun _ h => by cases h))
  clear hown hg hi0 hz0 hs0 hb0
  obtain ⟨hl, hwf, hc⟩ := ha
  have HL := Lib.hid hl
  have HWF := Lib.hid hwf
  clear hl hwf
  go_enter Try.func24, Try.ntmps24
  go_wp2
  clear hrun
  go_loopw [19, 5] (fun i v wr => ∃ k : Nat, k ≤ n ∧ i = .int .i64 k ∧ Own .u8 5 wr w.heap.size v (bytesL (zs.take k)) ∧ Below w.heap.size w wr) (fun i _ _ => n - (intOf i).toNat)
  case atStart => exact ⟨0, Nat.zero_le _, rfl, by simpa [bytesL] using H1.out, H2.out⟩
  case round =>
    obtain ⟨k, hk, rfl, hO, hB⟩ := hrel
    by_cases hlt : k < n
    · obtain ⟨b, off, rfl, hbl, hcell⟩ := hc (by omega)
      have hck : wr.cell? ⟨b, off + k, none⟩ = some (.int .u64 (nth zs k)) := (hB.cell (p := ⟨b, off + k, none⟩) hbl).trans (hcell k hlt)
      have hX := wf_u64.1 (HWF.out (nth zs k) (by rw [nth_get _ _ (by have := HL.out; omega)]; exact List.getElem_mem _))
      have HT := Lib.hid (bytesL_take zs k (by have := HL.out; omega))
      have hlen : (bytesL (zs.take k)).length ≤ 2048 := by rw [bytesL_length]; simp; omega
      generalize bytesL (zs.take k) = ys0 at *
      generalize nth zs k = X at *
      obtain ⟨hX0, hX1⟩ := hX
      clear hcell hc
      have HO := Lib.hid hO
      have HB := Lib.hid hB
      clear hO hB
      go_wp2
      clear hck
      obtain ⟨wo, rfl⟩ : ∃ wo : World, wo = wr := ⟨_, rfl⟩
      go_loopw [23, 5, 7] (fun j v x wr => ∃ m : Nat, ∃ y, m ≤ 8 ∧ j = .int .i64 m ∧ x = .int .u64 y ∧ 0 ≤ y ∧ y ≤ 18446744073709551615 ∧ Hid (y = X / 256 ^ m) ∧ Own .u8 5 wr w.heap.size v (ys0 ++ b8 X m) ∧ Below w.heap.size w wr)
        (fun j _ _ _ => 8 - (intOf j).toNat)
      case atStart => exact ⟨0, X, by omega, rfl, rfl, hX0, hX1, (show _ = _ by simp), by simpa [b8] using HO.out, HB.out⟩
      case round =>
        obtain ⟨m, y, hm, rfl, rfl, hy0, hy1, HY, hO, hB⟩ := hrel
        by_cases hlt2 : m < 8
        · obtain ⟨v', w', hpush, hO', hB'⟩ := hO.push (P := Try.prog) (t := 75) (ty := 75) Try.underlying75 u8_info (by omega) (x := y % 256) (wf_u8.2 (by omega)) (by simp [b8_length]; omega) hB.size
          have e2 : ys0 ++ b8 X m ++ [y % 256] = ys0 ++ b8 X (m + 1) := by rw [List.append_assoc, b8_snoc, HY.out]
          rw [e2] at hO'
          have HO1 := Lib.hid hO'
          have HB1 := Lib.hid (hB.trans hB')
          have HP := Lib.hid hpush
          clear e2 hO' hB' hO hB hpush
          go_wp2_with (at_builtin; refine wpList_append_run rfl (.tmp 25) (.tmp 28) 75 rfl rfl rfl HP.out ?_)
          go_roundw
          case rel => exact ⟨m + 1, y / 256, by omega, by go_num, by go_num, by omega, by omega, shr8 y m X HY.out, HO1.out, HB1.out⟩
          case measure => simp [intOf]; omega
        · obtain rfl : m = 8 := by omega
          rw [← HT.out] at hO
          have HO1 := Lib.hid hO
          have HB1 := Lib.hid hB
          clear hO hB
          go_wp2
          go_roundw
          case rel => exact ⟨k + 1, by omega, by go_num, HO1.out, HB1.out⟩
          case measure => simp [intOf]; omega
    · obtain rfl : k = n := by omega
      rw [List.take_of_length_le (by have := HL.out; omega)] at hO
      have htx := hO.text (P := Try.prog) (src := 75) (dst := 9) Try.underlying75 Try.underlying5 Try.underlying9
      have HB := Lib.hid hB
      clear hO hB
      go_wp2
      go_ret2
      exact ⟨rfl, HB.out⟩

set_option maxHeartbeats 1000000 in
theorem text_ok (A : Option Addr) (n c : Nat) (zs : List Int) (w : World) (hn : n ≤ 256) (ha : Arr .u64 w w.heap.size A n zs) :
    Calls Try.prog 26 #[.slice A n c] w fun e w' => e = .returned (.string (strOfNums (bytesL zs))) ∧ Below w.heap.size w w' := by
  obtain ⟨hl, hwf, hc⟩ := ha
  have HL := Lib.hid hl
  have HWF := Lib.hid hwf
  clear hl hwf
  go_enter Try.func26, Try.ntmps26
  go_wp2
  go_loopw [8, 3] (fun i v wr => ∃ k : Nat, k ≤ n ∧ i = .int .i64 k ∧ Own .u8 5 wr w.heap.size v (bytesL (zs.take k)) ∧ Below w.heap.size w wr) (fun i _ _ => n - (intOf i).toNat)
  case atStart => exact ⟨0, Nat.zero_le _, rfl, by simpa [bytesL] using Own.nil, Below.refl _ _⟩
  case round =>
    obtain ⟨k, hk, rfl, hO, hB⟩ := hrel
    by_cases hlt : k < n
    · obtain ⟨b, off, rfl, hbl, hcell⟩ := hc (by omega)
      have hck : wr.cell? ⟨b, off + k, none⟩ = some (.int .u64 (nth zs k)) := (hB.cell (p := ⟨b, off + k, none⟩) hbl).trans (hcell k hlt)
      have hX := wf_u64.1 (HWF.out (nth zs k) (by rw [nth_get _ _ (by have := HL.out; omega)]; exact List.getElem_mem _))
      have HT := Lib.hid (bytesL_take zs k (by have := HL.out; omega))
      have hlen : (bytesL (zs.take k)).length ≤ 2048 := by rw [bytesL_length]; simp; omega
      generalize bytesL (zs.take k) = ys0 at *
      generalize nth zs k = X at *
      obtain ⟨hX0, hX1⟩ := hX
      clear hcell hc
      have HO := Lib.hid hO
      have HB := Lib.hid hB
      clear hO hB
      go_wp2
      clear hck
      obtain ⟨wo, rfl⟩ : ∃ wo : World, wo = wr := ⟨_, rfl⟩
      go_loopw [12, 3, 5] (fun j v x wr => ∃ m : Nat, ∃ y, m ≤ 8 ∧ j = .int .i64 m ∧ x = .int .u64 y ∧ 0 ≤ y ∧ y ≤ 18446744073709551615 ∧ Hid (y = X / 256 ^ m) ∧ Own .u8 5 wr w.heap.size v (ys0 ++ b8 X m) ∧ Below w.heap.size w wr)
        (fun j _ _ _ => 8 - (intOf j).toNat)
      case atStart => exact ⟨0, X, by omega, rfl, rfl, hX0, hX1, (show _ = _ by simp), by simpa [b8] using HO.out, HB.out⟩
      case round =>
        obtain ⟨m, y, hm, rfl, rfl, hy0, hy1, HY, hO, hB⟩ := hrel
        by_cases hlt2 : m < 8
        · obtain ⟨v', w', hpush, hO', hB'⟩ := hO.push (P := Try.prog) (t := 75) (ty := 75) Try.underlying75 u8_info (by omega) (x := y % 256) (wf_u8.2 (by omega)) (by simp [b8_length]; omega) hB.size
          have e2 : ys0 ++ b8 X m ++ [y % 256] = ys0 ++ b8 X (m + 1) := by rw [List.append_assoc, b8_snoc, HY.out]
          rw [e2] at hO'
          have HO1 := Lib.hid hO'
          have HB1 := Lib.hid (hB.trans hB')
          have HP := Lib.hid hpush
          clear e2 hO' hB' hO hB hpush
          go_wp2_with (at_builtin; refine wpList_append_run rfl (.tmp 14) (.tmp 18) 75 rfl rfl rfl HP.out ?_)
          go_roundw
          case rel => exact ⟨m + 1, y / 256, by omega, by go_num, by go_num, by omega, by omega, shr8 y m X HY.out, HO1.out, HB1.out⟩
          case measure => simp [intOf]; omega
        · obtain rfl : m = 8 := by omega
          rw [← HT.out] at hO
          have HO1 := Lib.hid hO
          have HB1 := Lib.hid hB
          clear hO hB
          go_wp2
          go_roundw
          case rel => exact ⟨k + 1, by omega, by go_num, HO1.out, HB1.out⟩
          case measure => simp [intOf]; omega
    · obtain rfl : k = n := by omega
      rw [List.take_of_length_le (by have := HL.out; omega)] at hO
      have htx := hO.text (P := Try.prog) (src := 75) (dst := 9) Try.underlying75 Try.underlying5 Try.underlying9
      have HB := Lib.hid hB
      clear hO hB
      go_wp2
      go_ret
      exact ⟨rfl, HB.out⟩
end Go.Proofs.Ytjngimjfofplpaa
