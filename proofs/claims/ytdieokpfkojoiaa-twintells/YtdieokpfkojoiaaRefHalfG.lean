/-
  Contract of the reference's HalfGaps.
-/
import Derived.Test.YtdieokpfkojoiaaRefTwin
namespace Go.Proofs.Ytdieokpfkojoiaa
open Go.RowKit

theorem gapB_not {l : List Room} {k a t : Nat} (h : a % pw t ≠ 0) : gapB l k a t = false := by simp [gapB, h]
theorem gapB_top {l : List Room} {k a t : Nat} (h1 : a % pw t = 0) (h2 : hit l a (pw t) = false) (h3 : k < t + 1) : gapB l k a t = true := by simp [gapB, h1, h2, h3]
theorem gapB_low {l : List Room} {k a t : Nat} (h1 : a % pw t = 0) (h2 : hit l a (pw t) = false) (h3 : ¬ k < t + 1) : gapB l k a t = hit l (twice a t) (pw (t + 1)) := by simp [gapB, h1, h2, h3]
theorem levTo_skip {l : List Room} {k a t : Nat} (h : gapB l k a t = false) : levTo l k a (t + 1) = levTo l k a t := by
  rw [levTo, levG, if_neg (by rw [h]; decide), List.append_nil]
theorem levTo_push {l : List Room} {k a t : Nat} (h : gapB l k a t = true) : levTo l k a (t + 1) = levTo l k a t ++ [((a : Int), ((pw t : Nat) : Int))] := by
  rw [levTo, levG, if_pos h]

theorem twice_facts (a t : Nat) (ha : a ≤ 1000) : ∃ Q TW : Nat, (a : Int).tdiv (2 * ((pw t : Nat) : Int)) = (Q : Int) ∧ (Q : Int) * (2 * ((pw t : Nat) : Int)) = (TW : Int) ∧ Q ≤ 1000 ∧ TW ≤ 1000 ∧ twice a t = TW := by
  have hs := pw_succ t
  have e : (2 : Int) * ((pw t : Nat) : Int) = ((pw (t + 1) : Nat) : Int) := by omega
  refine ⟨a / pw (t + 1), a / pw (t + 1) * pw (t + 1), ?_, ?_, Nat.le_trans (Nat.div_le_self _ _) ha, Nat.le_trans (Nat.div_mul_le_self _ _) ha, rfl⟩
  · rw [e]; rfl
  · rw [e]; exact (Int.natCast_mul _ _).symm

set_option maxRecDepth 16000 in
set_option maxHeartbeats 4000000 in
theorem halfGaps_any (k : Nat) (A : Option Addr) (n c : Nat) (l : List Room) (w : World) (hr : Right k l) (hn : n ≤ maxLen) (hx : ArrG roomC 3 w w.heap.size A n l) :
    Calls Try.prog 15 #[.agg #[.int .i64 k, .slice A n c]] w fun e w' => ∃ v, e = .returned v ∧ OwnG runC 2 29 w' w.heap.size v (freeL l k 0) ∧ Below w.heap.size w w' := by
  have hk := hr.small
  have h256 := pw_256 hk
  have hW2 := wrap_pw hk
  rw [← halfGaps_free]
  have b0 := (Below.refl _ w).alloc (Nat.le_refl _) (.cells #[.int .i64 k, .slice A n c] 24)
  have bx := Box.new w 24 #[.int .i64 k, .slice A n c]
  have hsz : (w.alloc (.cells #[.int .i64 k, .slice A n c] 24)).heap.size = w.heap.size + 1 := by simp
  have c0 : (w.alloc (.cells #[.int .i64 k, .slice A n c] 24)).cell? ⟨w.heap.size, 0, none⟩ = some (.int .i64 k) := bx.cell 0
  have HOp : Hid (∀ (a L : Nat) (wx : World), Below w.heap.size w wx → a ≤ 1000 → L ≤ 1000 → 1 ≤ L → Calls Try.prog 43 #[.agg #[.int .i64 k, .slice A n c], .int .i64 a, .int .i64 L] wx fun e w' => e = .returned (.bool (!hit l a L)) ∧ Below wx.heap.size wx w') := fun a L wx hwx h1 h2 h3 =>
    open_any k A n c l a L wx hn ((hx.below hwx (Nat.le_refl _)).more hwx.size) hr.smallR (fun j hj => by rw [nthG_get _ _ hj]; exact (hr.good _ (List.getElem_mem hj)).pos.2.1) h1 h2 h3
  have HBX := Lib.hid bx
  have HB0 := Lib.hid b0
  have HPK : Hid (∀ t, (t < k → pw (t + 1) ≤ pw k) ∧ (k < t + 1 → pw k < pw (t + 1))) := fun t => ⟨fun h => pw_le h, fun h => pw_lt h⟩
  have hkn : ¬ (k : Int) < 0 := by omega
  clear b0 bx hx hr
  obtain ⟨PK, hPK⟩ : ∃ PK, pw k = PK := ⟨_, rfl⟩
  rw [hPK] at h256 hW2 HPK ⊢
  have HPKe := Lib.hid hPK
  clear hPK
  go_enter Try.func15, Try.ntmps15
  go_wp2_with fail
  generalize (w.alloc (.cells #[.int .i64 k, .slice A n c] 24)) = W at *
  go_loopw [4, 12] (fun v i wr => ∃ a : Nat, a ≤ PK ∧ i = .int .i64 a ∧ Hid (OwnG runC 2 29 wr (w.heap.size + 1) v (segL l k 0 a)) ∧ Hid (Below (w.heap.size + 1) W wr)) (fun _ i _ => PK - (intOf i).toNat)
  case atStart => exact ⟨0, Nat.zero_le _, rfl, OwnG.nil, Below.refl _ _⟩
  case round => as_aux_lemma =>
    obtain ⟨a, ha, rfl, HO, HB⟩ := hrel
    clear c0 hW2
    by_cases hlt : a < PK
    · have hlt' : (a : Int) < (PK : Int) := by omega
      have HSt : Hid (segL l k 0 (a + 1) = segL l k 0 a ++ levTo l k a (k + 1)) := by show _ = _; rw [segL, Nat.zero_add]
      have hsl : (segL l k 0 a).length ≤ 3000 := by
        have h1 := segL_len (l := l) (k := k) (a := 0) a
        have h2 : a * (k + 1) ≤ 256 * 9 := Nat.mul_le_mul (by omega) (by omega)
        omega
      generalize segL l k 0 a = SG at *
      go_wp2_with fail
      go_loopw [4, 6] (fun v s wr => ∃ t : Nat, t ≤ k + 1 ∧ s = .int .i64 (pw t) ∧ Hid (OwnG runC 2 29 wr (w.heap.size + 1) v (SG ++ levTo l k a t)) ∧ Hid (Below (w.heap.size + 1) W wr)) (fun _ s _ => 1000 - (intOf s).toNat)
      case atStart => exact ⟨0, Nat.zero_le _, rfl, by rw [levTo, List.append_nil]; exact HO, HB⟩
      case round => as_aux_lemma =>
        obtain ⟨t, ht, rfl, HO2, HB2⟩ := hrel
        clear HO HB
        have hp1 := pw_pos t
        have hp512 : pw t ≤ 512 := pw_le (by omega : t ≤ 9)
        by_cases htk : t < k + 1
        · have hbx := HBX.out.below HB2.out (by omega)
          have hlw := hbx.lt
          have hle : pw t ≤ PK := by rw [← HPKe.out]; exact pw_le (by omega)
          have hle' : ((pw t : Nat) : Int) ≤ (PK : Int) := by omega
          have hs := pw_succ t
          have HS := Lib.hid hs
          have HBw := Lib.hid (HB0.out.trans (HB2.out.mono (by omega)))
          have z0 := fun p => Later.cell (W := wr) (a := ⟨w.heap.size, 0, none⟩) (v := .int .i64 k) hlw (hbx.cell 0) p
          have z1 := fun p => Later.cell (W := wr) (a := ⟨w.heap.size, 1, none⟩) (v := .slice A n c) hlw (hbx.cell 1) p
          have hlen : (SG ++ levTo l k a t).length ≤ 4000 := by
            have := levTo_len (l := l) (k := k) (a := a) t
            rw [List.length_append]; omega
          have htm : (a : Int).tmod ((pw t : Nat) : Int) = ((a % pw t : Nat) : Int) := rfl
          have hml : a % pw t < pw t := Nat.mod_lt _ hp1
          have hP0 : ¬ pw t = 0 := by omega
          have HO1 := Lib.hid (fun wx (hwx : Below wr.heap.size wr wx) => HOp.out a (pw t) wx (HBw.out.trans (hwx.mono HBw.out.size)) (by omega) (by omega) hp1)
          by_cases hm : a % pw t = 0
          · cases hh : hit l a (pw t)
            · have HO1' := HO1
              rw [hh] at HO1'
              clear HO1
              by_cases htop : k < t + 1
              · have HG := Lib.hid (levTo_push (gapB_top (l := l) hm hh htop))
                have htw : (PK : Int) < 2 * ((pw t : Nat) : Int) := by have := (HPK.out t).2 htop; omega
                rw [hm] at htm
                clear hm hh htop hml hs HOp HSt hbx
                go_wp2_with fail
                refine wp_region_later (by kernel_rfl) (by kernel_rfl) ?_
                repeat (go_big_quiet_step (first
                  | (go_at_call 43; exact Later.call (HO1'.out _ (Later.below _)))))
                refine wpQuiet_nil ?_
                rintro _ ⟨p, rfl⟩
                have hO5 := HO2.out.below p.below
                have hb5 := HB2.out.trans (p.below.mono (Nat.succ_le_of_lt hlw))
                obtain ⟨v', w', hrun, hO', hB'⟩ := hO5.push (P := Try.prog) (t := 33) (ty := 33) runC_len runC_one (by omega) Try.underlying33 runI rfl (by omega) ((a : Int), ((pw t : Nat) : Int)) (by omega) (Nat.le_trans (Nat.succ_le_of_lt hlw) p.below.size)
                rw [List.append_assoc, ← HG.out] at hO'
                have HR := Lib.hid hrun
                have HO6 := Lib.hid hO'
                have HB6 := Lib.hid (hb5.trans hB')
                clear hrun hO' hB' hO5 hb5 z0 z1 HG HO1'
                generalize p.w = wp at *
                go_wp2_with (at_builtin; refine wpList_append_run rfl (.tmp 48) (.tmp 52) 33 rfl rfl rfl HR.out ?_)
                go_roundw
                case rel => exact ⟨t + 1, by omega, by rw [HS.out]; go_num, HO6, HB6⟩
                case measure => simp [intOf]; omega
              · have hgl := gapB_low (l := l) hm hh htop
                have htw : ((PK : Int) < 2 * ((pw t : Nat) : Int)) = False := eq_false (by have := (HPK.out t).1 (by omega); omega)
                obtain ⟨Q, TW, htd, htd2, hq1, hq2, hTW⟩ := twice_facts a t (by omega)
                have hw1 : IntKind.i64.wrap (Q : Int) = (Q : Int) := IntWalk.i64_in _ (by omega)
                have hw2 : IntKind.i64.wrap (TW : Int) = (TW : Int) := IntWalk.i64_in _ (by omega)
                have hw3 : wrap64 (Q : Int) = (Q : Int) := by unfold wrap64; omega
                have hw4 : wrap64 (TW : Int) = (TW : Int) := by unfold wrap64; omega
                rw [hTW] at hgl
                have hpz : ¬ 2 * ((pw t : Nat) : Int) = 0 := by omega
                have HO3 := Lib.hid (fun wx (hwx : Below wr.heap.size wr wx) => HOp.out TW (pw (t + 1)) wx (HBw.out.trans (hwx.mono HBw.out.size)) hq2 (by omega) (by omega))
                have e2 : ((pw (t + 1) : Nat) : Int) = 2 * ((pw t : Nat) : Int) := by omega
                rw [e2] at HO3 hgl
                rw [hm] at htm
                clear hTW
                cases hh2 : hit l (TW : Int) (2 * ((pw t : Nat) : Int))
                · rw [hh2] at HO3 hgl
                  have HG := Lib.hid (levTo_skip hgl)
                  clear hm hh htop hml hs HOp HSt hbx hh2 hgl e2
                  go_wp2_with fail
                  refine wp_region_later (by kernel_rfl) (by kernel_rfl) ?_
                  iterate 9 (go_big_quiet_step ((go_at_call 43; exact Later.call (HO1'.out _ (Later.below _)))))
                  repeat (go_big_quiet_step ((go_at_call 43; exact Later.call (HO3.out _ (Later.below _)))))
                  refine wpQuiet_nil ?_
                  rintro _ ⟨p, rfl⟩
                  have HO6 := Lib.hid (HO2.out.below p.below)
                  have HB6 := Lib.hid (HB2.out.trans (p.below.mono (Nat.succ_le_of_lt hlw)))
                  clear z0 z1 HO1' HO3
                  generalize p.w = wp at *
                  go_wp2
                  go_roundw
                  case rel => exact ⟨t + 1, by omega, by rw [HS.out]; go_num, by rw [HG.out]; exact HO6, HB6⟩
                  case measure => simp [intOf]; omega
                · rw [hh2] at HO3 hgl
                  have HG := Lib.hid (levTo_push hgl)
                  clear hm hh htop hml hs HOp HSt hbx hh2 hgl e2
                  go_wp2_with fail
                  refine wp_region_later (by kernel_rfl) (by kernel_rfl) ?_
                  iterate 9 (go_big_quiet_step ((go_at_call 43; exact Later.call (HO1'.out _ (Later.below _)))))
                  repeat (go_big_quiet_step ((go_at_call 43; exact Later.call (HO3.out _ (Later.below _)))))
                  refine wpQuiet_nil ?_
                  rintro _ ⟨p, rfl⟩
                  have hO5 := HO2.out.below p.below
                  have hb5 := HB2.out.trans (p.below.mono (Nat.succ_le_of_lt hlw))
                  obtain ⟨v', w', hrun, hO', hB'⟩ := hO5.push (P := Try.prog) (t := 33) (ty := 33) runC_len runC_one (by omega) Try.underlying33 runI rfl (by omega) ((a : Int), ((pw t : Nat) : Int)) (by omega) (Nat.le_trans (Nat.succ_le_of_lt hlw) p.below.size)
                  rw [List.append_assoc, ← HG.out] at hO'
                  have HR := Lib.hid hrun
                  have HO6 := Lib.hid hO'
                  have HB6 := Lib.hid (hb5.trans hB')
                  clear hrun hO' hB' hO5 hb5 z0 z1 HG HO1' HO3
                  generalize p.w = wp at *
                  go_wp2_with (at_builtin; refine wpList_append_run rfl (.tmp 48) (.tmp 52) 33 rfl rfl rfl HR.out ?_)
                  go_roundw
                  case rel => exact ⟨t + 1, by omega, by rw [HS.out]; go_num, HO6, HB6⟩
                  case measure => simp [intOf]; omega
            · have HG := Lib.hid (levTo_skip (gapB_hit (k := k) hh))
              rw [hh] at HO1
              rw [hm] at htm
              clear hm hh hml hs HOp HSt hbx
              go_wp2_with fail
              refine wp_region_later (by kernel_rfl) (by kernel_rfl) ?_
              repeat (go_big_quiet_step (first
                | (go_at_call 43; exact Later.call (HO1.out _ (Later.below _)))))
              refine wpQuiet_nil ?_
              rintro _ ⟨p, rfl⟩
              have HO6 := Lib.hid (HO2.out.below p.below)
              have HB6 := Lib.hid (HB2.out.trans (p.below.mono (Nat.succ_le_of_lt hlw)))
              clear z0 z1 HO1
              generalize p.w = wp at *
              go_wp2
              go_roundw
              case rel => exact ⟨t + 1, by omega, by rw [HS.out]; go_num, by rw [HG.out]; exact HO6, HB6⟩
              case measure => simp [intOf]; omega
          · have HG := Lib.hid (levTo_skip (gapB_not (l := l) (k := k) hm))
            have hM : (((a % pw t : Nat) : Int) == 0) = false := by simp; omega
            clear HOp HSt hbx HO1 hs
            generalize a % pw t = M at *
            go_wp2_with fail
            refine wp_region_later (by kernel_rfl) (by kernel_rfl) ?_
            repeat (go_big_quiet_step (fail))
            refine wpQuiet_nil ?_
            rintro _ ⟨p, rfl⟩
            have HO6 := Lib.hid (HO2.out.below p.below)
            have HB6 := Lib.hid (HB2.out.trans (p.below.mono (Nat.succ_le_of_lt hlw)))
            clear z0 z1
            generalize p.w = wp at *
            go_wp2
            go_roundw
            case rel => exact ⟨t + 1, by omega, by rw [HS.out]; go_num, by rw [HG.out]; exact HO6, HB6⟩
            case measure => simp [intOf]; omega
        · obtain rfl : t = k + 1 := by omega
          have hgt : ¬ ((pw (k + 1) : Nat) : Int) ≤ (PK : Int) := by have := (HPK.out k).2 (by omega); omega
          rw [← HSt.out] at HO2
          clear HOp HBX HPK
          generalize pw (k + 1) = P1 at *
          go_wp2
          go_roundw
          case rel => exact ⟨a + 1, by omega, by go_num, HO2, HB2⟩
          case measure => simp [intOf]; omega
    · obtain rfl : a = PK := by omega
      have hend : ¬ (a : Int) < (a : Int) := by omega
      have HBe := Lib.hid (HB0.out.trans (HB.out.mono (by omega)))
      have HOe := Lib.hid (HO.out.less (base' := w.heap.size) (by omega))
      clear HOp HBX HPK HO HB
      go_wp2
      go_ret
      exact ⟨_, rfl, HOe.out, HBe.out⟩
end Go.Proofs.Ytdieokpfkojoiaa
