/-
  Contract of the reference's Takes.
-/
import Derived.Test.YtdpbdnnghcbaaaaRefT
import Derived.Test.YtdpbdnnghcbaaaaCarryM
namespace Go.Proofs.Ytdpbdnnghcbaaaa
open Go.RowKit

theorem tkL_le {zs l : List Int} (h : ∀ x ∈ l, longN zs x.toNat ≤ 256) : tkL zs l ≤ l.length * 256 := by
  induction l with
  | nil => exact Nat.le_refl _
  | cons a l ih =>
    have h1 := h a (by simp)
    have h2 := ih fun x hx => h x (by simp [hx])
    have e : tkL zs (a :: l) = longN zs a.toNat + tkL zs l := by unfold tkL; simp
    rw [e, List.length_cons]
    omega

set_option maxRecDepth 8000 in
set_option maxHeartbeats 1000000 in
theorem takes_any (A F : Option Addr) (n c nf cf : Nat) (zs l : List Int) (w : World) (ha : Arr .u64 w w.heap.size A n zs) (h : arErr zs = 0) (hnf : nf ≤ 256) (hl : Arr .i64 w w.heap.size F nf l) (hs : ∀ x ∈ l, x ∈ livesI zs) :
    Calls Try.prog 11 #[.slice A n c, .slice F nf cf] w fun e w' => e = .returned (.int .i64 (tkL zs l : Nat)) ∧ Below w.heap.size w w' := by
  have HA := Lib.hid ha
  have HF := Lib.hid hl
  have H0 := Lib.hid h
  have HS := Lib.hid hs
  have hll := hl.1
  have h256 := arena_len h
  clear ha hl h hs
  go_enter Try.func11, Try.ntmps11
  go_wp2_with fail
  go_loopw [5, 12] (fun v i wr => ∃ k : Nat, k ≤ nf ∧ i = .int .i64 k ∧ v = .int .i64 (tkL zs (l.take k) : Nat) ∧ Hid (Below w.heap.size w wr)) (fun _ i _ => nf - (intOf i).toNat)
  case atStart => exact ⟨0, Nat.zero_le _, rfl, rfl, Below.refl _ _⟩
  case round =>
    obtain ⟨k, hk, rfl, rfl, HB⟩ := hrel
    by_cases hlt : k < nf
    · have hkl : k < l.length := by omega
      have hmem := HS.out _ (nth_mem hkl)
      obtain ⟨t, ht, q1, q2, q3, q4, q5, q6, q7, q8, q9⟩ := live_facts HA.out.2.1 hmem
      obtain ⟨b, off, rfl, _, hcs⟩ := (HF.out.later HB.out).2.2 (by omega)
      have hc := hcs k hlt
      have hsum : tkL zs (l.take (k + 1)) = tkL zs (l.take k) + longN zs t := by rw [take_nth hkl, tkL_snoc, ht, Int.toNat_natCast]
      have hle : tkL zs (l.take k) ≤ 65536 := by
        have h1 := tkL_le (zs := zs) (l := l.take k) fun x hx => by
          obtain ⟨t', e, _, _, _, _, _, _, h7, _⟩ := live_facts HA.out.2.1 (HS.out x (List.mem_of_mem_take hx))
          rw [e, Int.toNat_natCast]; omega
        rw [List.length_take] at h1
        omega
      rw [ht] at hc hmem
      have HHD := Lib.hid (headLive_any A n c t zs wr (HA.out.later HB.out) H0.out hmem)
      have HHL := Lib.hid (fun w => headLong_any (vR (nth zs t)) (vB (nth zs t)) (vT (nth zs t)) false w q2 (by omega) q3 (by omega))
      have HSU := Lib.hid hsum
      obtain ⟨N, hN⟩ : ∃ N, longN zs t = N := ⟨_, rfl⟩
      rw [hN] at q6 q7 HSU
      rw [← q6] at HHL
      clear hcs ht hmem hkl q8 q9 q5 hN hsum
      generalize vR (nth zs t) = R at *
      generalize vB (nth zs t) = Bd at *
      generalize vT (nth zs t) = T at *
      generalize tkL zs (l.take k) = V at *
      clear q6
      go_wp2_with fail
      refine HHD.out.mono ?_
      rintro e w1 ⟨rfl, b1⟩
      have bx := Box.new w1 67 #[.int .i64 R, .int .i64 Bd, .int .i64 T, .bool false]
      have HB1 := Lib.hid (bthen (bthen HB.out b1) ((Below.refl _ w1).alloc (Nat.le_refl _) (.cells #[.int .i64 R, .int .i64 Bd, .int .i64 T, .bool false] 67)))
      clear b1 HHD bx hc
      go_wp2_with fail
      refine (HHL.out _).mono ?_
      rintro e w2 ⟨rfl, b2⟩
      have HB2 := Lib.hid (bthen HB1.out b2)
      clear b2 HHL HB1
      go_wp2
      go_roundw
      case rel => exact ⟨k + 1, by omega, by go_num, by rw [HSU.out]; go_num, HB2.out⟩
      case measure => simp [intOf]; omega
    · obtain rfl : k = nf := by omega
      have HL : Hid (l.take k = l) := by show _ = _; rw [List.take_of_length_le (by omega)]
      rw [HL.out]
      obtain ⟨V, hV⟩ : ∃ V, tkL zs l = V := ⟨_, rfl⟩
      rw [hV]
      have HV := Lib.hid hV
      clear hV HL
      go_wp2
      go_ret
      exact ⟨by rw [HV.out]; rfl, HB.out⟩
end Go.Proofs.Ytdpbdnnghcbaaaa
