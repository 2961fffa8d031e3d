/-
  Contracts of the reference's Marked, MarksFault and RunsOf.
-/
import Derived.Test.YtcdlgohhjnpbmaaSpotRun
namespace Go.Proofs.Ytcdlgohhjnpbmaa
open Go.RowKit

set_option maxHeartbeats 400000 in
theorem marked_any (A : Option Addr) (n c B p : Nat) (zs : List Int) (w : World) (hn : n ≤ 4) (h1 : p / 64 < n) (ha : Arr .u64 w B A n zs) :
    Calls Try.prog 23 #[.slice A n c, .int .i64 p] w fun e w' => e = .returned (.bool (bit zs p)) ∧ w = w' := by
  have hX := nth_u64 ha.2.1 (p / 64)
  have HB : Hid (bit zs p = decide ((nth zs (p / 64)).toNat / 2 ^ (p % 64) % 2 = 1)) := Nat.testBit_eq_decide_div_mod_eq
  obtain ⟨_, _, hc⟩ := ha
  obtain ⟨b, off, rfl, _, hc⟩ := hc (by omega)
  have hcj := hc (p / 64) (by omega)
  clear hc
  generalize nth zs (p/64) = X at *
  obtain ⟨x, rfl⟩ := Int.eq_ofNat_of_zero_le hX.1
  rw [Int.toNat_natCast] at HB
  have hx : x < 18446744073709551616 := by omega
  clear hX
  go_enter Try.func23, Try.ntmps23
  go_wp2
  go_loop [5, 13] (fun v i => ∃ j : Nat, j ≤ p % 64 ∧ i = .int .i64 j ∧ v = .int .u64 (x / 2 ^ j : Nat)) (fun _ i => p % 64 - (intOf i).toNat)
  case atStart => exact ⟨0, Nat.zero_le _, rfl, by simp⟩
  case round =>
    obtain ⟨j, hj, rfl, rfl⟩ := hrel
    have hle : x / 2 ^ j ≤ x := Nat.div_le_self _ _
    by_cases hlt : j < p % 64
    · have HS : Hid (x / 2 ^ (j + 1) = x / 2 ^ j / 2) := by show _ = _; rw [Nat.pow_succ, Nat.div_div_eq_div_mul]
      generalize x / 2 ^ j = y at *
      have hlt' : (j : Int) < (p : Int) % 64 := by omega
      go_wp2
      go_round
      case rel => exact ⟨j + 1, by omega, by go_num, by rw [HS.out]; go_num⟩
      case measure => simp [intOf]; omega
    · obtain rfl : j = p % 64 := by omega
      generalize x / 2 ^ (p % 64) = y at *
      have HR : Hid (((y : Int) % 2 == 1) = decide (y % 2 = 1)) := by show _ = _; rw [Bool.eq_iff_iff]; simp; omega
      have hlt' : ¬ ((p % 64 : Nat) : Int) < (p : Int) % 64 := by omega
      go_wp2
      go_ret
      exact ⟨by rw [HB.out, ← HR.out]; rfl, rfl⟩

set_option maxHeartbeats 1000000 in
theorem marksFault_any (A : Option Addr) (n c B : Nat) (m : Int) (zs : List Int) (w : World) (hn : n ≤ maxLen) (hm : (Lit.int .i64 m).wf = true) (ha : Arr .u64 w B A n zs) :
    Calls Try.prog 18 #[.slice A n c, .int .i64 m] w fun e w' => e = .returned (.int .i64 (marksE zs m)) ∧ w = w' := by
  unfold maxLen at hn
  rw [wf_i64] at hm
  obtain ⟨hm1, hm2⟩ := hm
  by_cases h0 : m < 0
  · rw [marksE_four (.inl h0)]
    go_enter Try.func18, Try.ntmps18
    go_wp2
    go_ret
    exact ⟨rfl, rfl⟩
  · by_cases h1 : 256 < m
    · rw [marksE_four (.inr h1)]
      go_enter Try.func18, Try.ntmps18
      go_wp2
      go_ret
      exact ⟨rfl, rfl⟩
    · obtain ⟨p, rfl⟩ := Int.eq_ofNat_of_zero_le (by omega : 0 ≤ m)
      have hp : p ≤ 256 := by omega
      have hp' : ¬ 256 < p := by omega
      have HL := Lib.hid ha.1
      go_enter Try.func18, Try.ntmps18
      go_wp2
      go_loop [5] (fun v => ∃ k : Nat, k ≤ (p + 63) / 64 ∧ v = .int .i64 k) (fun v => 5 - (intOf v).toNat)
      case atStart => exact ⟨0, Nat.zero_le _, rfl⟩
      case round =>
        obtain ⟨k, hk, rfl⟩ := hrel
        by_cases hlt : 64 * k < p
        · have hlt' : (64 : Int) * (k : Int) < (p : Int) := by omega
          go_wp2
          go_round
          case rel => exact ⟨k + 1, by omega, by go_num⟩
          case measure => simp [intOf]; omega
        · have hlt' : ¬ (64 : Int) * (k : Int) < (p : Int) := by omega
          have hkk : k = (p + 63) / 64 := by omega
          by_cases h2 : n = k
          · subst h2
            have hlen : (zs.length : Int) = ((p : Int) + 63) / 64 := by have := HL.out; omega
            have d0 : ((n : Int) != (n : Int)) = false := by simp
            have HK := Lib.hid hkk
            have HLen := Lib.hid hlen
            clear hkk hlen
            go_wp2
            go_loop [6] (fun v => ∃ j : Nat, p ≤ j ∧ j ≤ 64 * n ∧ v = .int .i64 j ∧ Hid (∀ i, p ≤ i → i < j → bit zs i = false)) (fun v => 64 * n - (intOf v).toNat)
            case atStart => exact ⟨p, Nat.le_refl _, by omega, rfl, fun i h1 h2 => absurd h1 (by omega)⟩
            case round =>
              obtain ⟨j, hpj, hj, rfl, HE⟩ := hrel
              by_cases hjl : j < 64 * n
              · have hjl' : (j : Int) < (64 : Int) * (n : Int) := by omega
                cases hb : bit zs j
                · have Hb := Lib.hid hb
                  go_wp2_with fail
                  refine (marked_any A n c B j zs _ (by omega) (by omega) ha).mono ?_
                  rintro e w' ⟨rfl, rfl⟩
                  rw [hb]
                  clear hb
                  go_wp2
                  go_round
                  case rel =>
                    refine ⟨j + 1, by omega, by omega, by go_num, fun i h1 h2 => ?_⟩
                    rcases Nat.lt_succ_iff_lt_or_eq.1 h2 with h | h
                    · exact HE.out i h1 h
                    · rw [h]; exact Hb.out
                  case measure => simp [intOf]; omega
                · have HR : Hid (marksE zs p = 3) := marksE_stray (by omega) HLen.out (stray_true (k := j) (by have := HL.out; omega) (by omega) hb)
                  go_wp2_with fail
                  refine (marked_any A n c B j zs _ (by omega) (by omega) ha).mono ?_
                  rintro e w' ⟨rfl, rfl⟩
                  rw [hb]
                  clear hb
                  go_wp2
                  go_ret
                  exact ⟨by rw [HR.out]; rfl, rfl⟩
              · have hjl' : ¬ (j : Int) < (64 : Int) * (n : Int) := by omega
                have HR : Hid (marksE zs p = 0) := marksE_ok (by omega) HLen.out (stray_false.2 fun i h1 h2 => HE.out i (by omega) (by have := HL.out; omega))
                go_wp2
                go_ret
                exact ⟨by rw [HR.out]; rfl, rfl⟩
          · have d0 : ((n : Int) != (k : Int)) = true := by simp; omega
            have HR : Hid (marksE zs p = 3) := marksE_len (by omega) (by have := HL.out; omega)
            clear hkk
            go_wp2
            go_ret
            exact ⟨by rw [HR.out]; rfl, rfl⟩

/-- What RunsOf answers. -/
def RunsOfP (f : Nat → Bool) (n : Nat) (w : World) (e : Ending) (w' : World) : Prop := ∃ v, e = .returned v ∧ OwnG runC 2 38 w' w.heap.size v (runsTo f n) ∧ Below w.heap.size w w'
set_option maxHeartbeats 1000000 in
theorem runsOf_any (n fid : Nat) (caps : Array Value) (f : Nat → Bool) (w : World) (hn : n ≤ 100000) (hcall : ∀ args wx, Sem.run Try.prog (callFunc fid args) wx = .ok (.enter fid args) wx)
    (hF : ∀ wx, Below w.heap.size w wx → ∀ k : Nat, k < n → Calls Try.prog fid (#[.int .i64 k] ++ caps) wx (fun e w' => e = .returned (.bool (f k)) ∧ Below wx.heap.size wx w')) :
    Calls Try.prog 21 #[.int .i64 n, .func (.func fid) #[] caps] w (RunsOfP f n w) := by
  have HF := Lib.hid hF
  clear hF
  go_enter Try.func21, Try.ntmps21
  go_wp2
  go_loopw [5, 8] (fun v i wr => ∃ k : Nat, k ≤ n ∧ i = .int .i64 k ∧ OwnG runC 2 38 wr w.heap.size v (runsTo f k) ∧ Below w.heap.size w wr) (fun _ i _ => n - (intOf i).toNat)
  case atStart => exact ⟨0, Nat.zero_le _, rfl, OwnG.nil, Below.refl _ _⟩
  case round =>
    obtain ⟨k, hk, rfl, hO, hB⟩ := hrel
    by_cases hlt : k < n
    · have HC := Lib.hid (HF.out wr hB k hlt)
      have hlen := runsTo_len (f := f) k
      cases hf : f k
      · rw [hf] at HC
        have Hf := Lib.hid (runsTo_off hf)
        have HO := Lib.hid hO
        have HB := Lib.hid hB
        clear hf hO hB
        go_wp2_with fail
        refine HC.out.mono ?_
        rintro e w1 ⟨rfl, hb1⟩
        have HO1 := Lib.hid (HO.out.below hb1)
        have HB1 := Lib.hid (HB.out.trans (hb1.mono HB.out.size))
        clear hb1
        go_wp2
        go_roundw
        case rel => exact ⟨k + 1, by omega, by go_num, by rw [Hf.out]; exact HO1.out, HB1.out⟩
        case measure => simp [intOf]; omega
      · rw [hf] at HC
        have HO := Lib.hid hO
        have HB := Lib.hid hB
        clear hO hB
        have Hf := Lib.hid hf
        clear hf
        by_cases h0 : 0 < k
        · obtain ⟨i, rfl⟩ : ∃ i, k = i + 1 := ⟨k - 1, by omega⟩
          have hRk := runs_ok f (i + 1)
          go_wp2_with fail
          refine HC.out.mono ?_
          rintro e w1 ⟨rfl, hb1⟩
          have HO1 := Lib.hid (HO.out.below hb1)
          have HB1 := Lib.hid (HB.out.trans (hb1.mono HB.out.size))
          have HC1 := Lib.hid (HF.out w1 HB1.out i (by omega))
          clear hb1
          cases hi : f i
          · rw [hi] at HC1
            have Hi := Lib.hid hi
            clear hi hRk
            go_wp2_with fail
            refine HC1.out.mono ?_
            rintro e w2 ⟨rfl, hb2⟩
            have HO2 := Lib.hid (HO1.out.below hb2)
            have HB2 := Lib.hid (HB1.out.trans (hb2.mono HB1.out.size))
            clear hb2
            obtain ⟨v', w', hrun, hO', hB'⟩ := HO2.out.push (P := Try.prog) (t := 32) (ty := 32) runC_len runC_one (by omega) Try.underlying32 run_info rfl (by omega) (((i + 1 : Nat) : Int), (1 : Int)) (by omega) HB2.out.size
            rw [← runsTo_new Hf.out (by rintro ⟨_, h⟩; rw [Nat.add_sub_cancel, Hi.out] at h; cases h)] at hO'
            have HO3 := Lib.hid hO'
            have HB3 := Lib.hid (HB2.out.trans hB')
            have HR := Lib.hid hrun
            clear hO' hB' hrun
            go_wp2_with (at_builtin; refine wpList_append_run rfl (.tmp 33) (.tmp 36) 32 rfl rfl rfl HR.out ?_)
            go_roundw
            case rel => exact ⟨i + 1 + 1, by omega, by go_num, HO3.out, HB3.out⟩
            case measure => simp [intOf]; omega
          · rw [hi] at HC1
            have Hi := Lib.hid hi
            have hpos := runsTo_some i hi
            have hp := hRk.pos ((runsTo f (i + 1)).length - 1) (by omega)
            clear hi hRk
            go_wp2_with fail
            refine HC1.out.mono ?_
            rintro e w2 ⟨rfl, hb2⟩
            have hO2 := HO1.out.below hb2
            have hB2 := HB1.out.trans (hb2.mono HB1.out.size)
            have HOn := Lib.hid (runsTo_on Hf.out ⟨by omega, by rw [Nat.add_sub_cancel]; exact Hi.out⟩)
            clear hb2
            obtain ⟨q, hq⟩ : ∃ q, (runsTo f (i + 1)).length = q + 1 := ⟨(runsTo f (i + 1)).length - 1, by omega⟩
            rw [hq, Nat.add_sub_cancel] at hp
            generalize hL : runsTo f (i + 1) = L at *
            obtain ⟨g, cap, rfl, hcap, hg, hglt, hcells, hset⟩ := hO2.form runC_len (by omega)
            obtain ⟨hca, hfa⟩ := hcells q (by omega) 1 (by omega)
            have hca' : w2.cell? ⟨g, q * 2 + 1, none⟩ = some (.int .i64 (nthG L q).2) := hca
            have HS := Lib.hid (hset q 1 ((nthG L q).1, (nthG L q).2 + 1) (.int .i64 ((nthG L q).2 + 1)) (by omega) (by omega) rfl)
            have HB3 := Lib.hid (hB2.setCell (p := ⟨g, q * 2 + 1, none⟩) hg (.int .i64 ((nthG L q).2 + 1)))
            have HBump : Hid (bump L = L.set q ((nthG L q).1, (nthG L q).2 + 1)) := by show _ = _; unfold bump; rw [hq, Nat.add_sub_cancel]
            rw [hq] at hcap HS ⊢
            have hq9 : q ≤ 100000 := by omega
            clear hcells hset hO2 hB2 hca hlen
            have HQ := Lib.hid hq
            have HLL := Lib.hid hL
            clear hq hL
            generalize (nthG L q).2 = Y at *
            generalize (nthG L q).1 = X at *
            go_wp2
            go_roundw
            case rel => exact ⟨i + 1 + 1, by omega, by go_num, by rw [HOn.out, HBump.out]; exact HS.out, HB3.out⟩
            case measure => simp [intOf]; omega
        · obtain rfl : k = 0 := by omega
          have Hn := Lib.hid (runsTo_new Hf.out (by omega))
          go_wp2_with fail
          refine HC.out.mono ?_
          rintro e w1 ⟨rfl, hb1⟩
          have HO1 := Lib.hid (HO.out.below hb1)
          have HB1 := Lib.hid (HB.out.trans (hb1.mono HB.out.size))
          clear hb1
          obtain ⟨v', w', hrun, hO', hB'⟩ := HO1.out.push (P := Try.prog) (t := 32) (ty := 32) runC_len runC_one (by omega) Try.underlying32 run_info rfl (by omega) (((0 : Nat) : Int), (1 : Int)) (by omega) HB1.out.size
          rw [← Hn.out] at hO'
          have HO3 := Lib.hid hO'
          have HB3 := Lib.hid (HB1.out.trans hB')
          have HR := Lib.hid hrun
          clear hO' hB' hrun
          go_wp2_with (at_builtin; refine wpList_append_run rfl (.tmp 33) (.tmp 36) 32 rfl rfl rfl HR.out ?_)
          go_roundw
          case rel => exact ⟨0 + 1, by omega, by go_num, HO3.out, HB3.out⟩
          case measure => simp [intOf]; omega
    · obtain rfl : n = k := by omega
      have HO := Lib.hid hO
      have HB := Lib.hid hB
      clear hO hB
      go_wp2
      go_ret
      exact ⟨_, rfl, HO.out, HB.out⟩

end Go.Proofs.Ytcdlgohhjnpbmaa
