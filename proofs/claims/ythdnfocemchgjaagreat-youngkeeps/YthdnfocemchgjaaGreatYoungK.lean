/-
  Contract of the reference's KeptYoung.
-/
import Derived.Test.YthdnfocemchgjaaGreatYoungR
import Derived.Test.YthdnfocemchgjaaGreatRefV
namespace Go.Proofs.YthdnfocemchgjaaGreat
open Go.RowKit

/-- The list while it grows. -/
structure YX (zs os ns fr : List Int) (w1 : World) (ext : List Int) (v : Value) (wr : World) : Prop where
  own : Own .i64 3 wr w1.heap.size v ext
  nod : ext.Nodup
  sub : ∀ x ∈ ext, x ∈ livesI zs
  off : ∀ x ∈ ext, x ∉ os
  reach : ∀ x ∈ ext, Reach (yNx zs os) (yFr zs os ns fr) x
  below : Below w1.heap.size w1 wr
/-- Nothing brings 'x' in. -/
def Settled (zs os ns fr X : List Int) (x : Int) : Prop := x ∈ os ∨ x ∈ X ∨ (x ∉ fr ∧ ∀ y ∈ ns ++ X, x ∉ nxOf zs y)
def YoungJ (zs os ns fr : List Int) (w1 : World) (m : Nat) (p : Value × Value × World) : Prop :=
  ∃ ext ag, p.2.1 = .bool ag ∧ YX zs os ns fr w1 ext p.1 p.2.2 ∧ (ag = false → ∀ x ∈ livesI zs, Settled zs os ns fr ext x) ∧ 2 * (256 - ext.length) + (if ag = true then 1 else 0) = m
section
variable {zs os ns fr ext : List Int} {w1 wr wr' : World} {v v' : Value}
theorem YX.len (h : YX zs os ns fr w1 ext v wr) (hl : (livesI zs).length ≤ 256) : ext.length ≤ 256 := Nat.le_trans (sub_length h.nod h.sub) hl
theorem YX.next (h : YX zs os ns fr w1 ext v wr) (hb : Below wr.heap.size wr wr') : YX zs os ns fr w1 ext v wr' := ⟨h.own.below hb, h.nod, h.sub, h.off, h.reach, h.below.trans (hb.mono h.below.size)⟩
theorem YX.push (h : YX zs os ns fr w1 ext v wr) {y : Int} (hy : y ∈ livesI zs) (ho : y ∉ os) (hr : Reach (yNx zs os) (yFr zs os ns fr) y) (hn : y ∉ ext) (hw : Own .i64 3 wr' w1.heap.size v' (ext ++ [y])) (hg : Grew wr v wr' v') : YX zs os ns fr w1 (ext ++ [y]) v' wr' :=
  ⟨hw, nodup_snoc h.nod hn, fun x hx => by
    rcases List.mem_append.1 hx with hx | hx
    · exact h.sub x hx
    · rw [List.mem_singleton.1 hx]; exact hy, fun x hx => by
    rcases List.mem_append.1 hx with hx | hx
    · exact h.off x hx
    · rw [List.mem_singleton.1 hx]; exact ho, fun x hx => by
    rcases List.mem_append.1 hx with hx | hx
    · exact h.reach x hx
    · rw [List.mem_singleton.1 hx]; exact hr, h.below.trans (hg.below h.below.size h.own.row)⟩
/-- What is there when nothing more comes. -/
theorem settled_kept (hz : ∀ z ∈ zs, (Lit.int .u64 z).wf = true) (h : AgesOk zs os ns) (hf : ∀ x ∈ fr, x ∈ livesI zs) (hx : YX zs os ns fr w1 ext v wr) (hs : ∀ x ∈ livesI zs, Settled zs os ns fr ext x) : risingTo ext 256 = keptL zs os ns fr := by
  have hmem := reach_list (nx := yNx zs os) (fr := yFr zs os ns fr) (X := ext) (fun x hx' => by
    have hl := yFr_live hz h hf x hx'
    obtain ⟨h1, _, h3⟩ := yFr_mem.1 hx'
    rcases hs x hl with h4 | h4 | ⟨h4, h5⟩
    · exact absurd h4 h3
    · exact h4
    · rcases h1 with h1 | ⟨y, hy, h1⟩
      · exact absurd h1 h4
      · exact absurd h1 (h5 y (List.mem_append_left _ hy))) (fun x hx' y hy h0 => by
    have hl := (yNx_closed hz h x (hx.sub x hx') y hy).resolve_left (by omega)
    obtain ⟨h1, h2⟩ := yNx_mem.1 hy
    rcases hs y hl with h4 | h4 | ⟨_, h5⟩
    · exact absurd h4 h2
    · exact h4
    · exact absurd h1 (h5 x (List.mem_append_right _ hx'))) hx.reach
  refine rise_ext (risingTo_rises _ _) kept_rise fun x => ?_
  rw [risingTo_mem, hmem, kept_mem hz h hf]
  constructor
  · exact fun h => h.1
  · intro hr
    have h1 := lives_lt (hx.sub x ((hmem x).2 hr))
    have h2 := arena_len h.arena
    exact ⟨hr, by omega, by omega⟩
end

set_option maxRecDepth 16000 in
set_option maxHeartbeats 4000000 in
theorem keptYoung_any (A G K F : Option Addr) (n c ng cg nb cb nf cf : Nat) (zs g b fr : List Int) (w : World) (h : TriIn w A G K n c ng nb zs g b) (hok : AgesOk zs g b) (hnf : nf ≤ maxLen) (hfr : Arr .i64 w w.heap.size F nf fr) (hf : ∀ x ∈ fr, x ∈ livesI zs) :
    Calls Tryz.prog 9 #[.agg #[.slice A n c, .slice G ng cg, .slice K nb cb], .slice F nf cf] w fun e w' => ∃ A' c', e = .returned (.slice A' (keptL zs g b fr).length c') ∧ Below w.heap.size w w' ∧ Arr .i64 w' w'.heap.size A' (keptL zs g b fr).length (keptL zs g b fr) := by
  have b1 := (Below.refl _ w).alloc (Nat.le_refl _) (.cells #[.slice A n c, .slice G ng cg, .slice K nb cb] 25)
  have HI := Lib.hid (show AgI w A G K n c ng cg nb cb zs g b (w.alloc (.cells #[.slice A n c, .slice G ng cg, .slice K nb cb] 25)) from ⟨b1, Box.new w 25 #[.slice A n c, .slice G ng cg, .slice K nb cb], h.next b1⟩)
  have HF := Lib.hid hfr
  have HFL := Lib.hid hf
  have HOK := Lib.hid hok
  have HNF := Lib.hid hnf
  have HZ := Lib.hid h.arena.2.1
  have HN := Lib.hid (show n ≤ maxLen ∧ ng ≤ maxLen ∧ nb ≤ maxLen from ⟨h.hn, h.hg, h.hb⟩)
  have hl256 := lives_len (arena_len hok.arena)
  have hb256 : nb ≤ 256 := by
    have := sub_length (hok.nr.imp (fun h => Int.ne_of_lt h)) (fun x hx => hok.ol x (hok.no x hx))
    have := h.blk.1
    omega
  clear b1 h hfr hf hok hnf
  go_enter Tryz.func9, Tryz.ntmps9
  go_wp2_with fail
  generalize (w.alloc (.cells #[.slice A n c, .slice G ng cg, .slice K nb cb] 25)) = w1 at *
  obtain ⟨μ, hμ⟩ := least_fn (YoungJ zs g b fr w1)
  have HMU := Lib.hid hμ
  have HJ0 : Hid (∃ m, YoungJ zs g b fr w1 m (.slice none 0 0, .bool true, w1)) := ⟨_, [], true, rfl, ⟨Own.nil, List.nodup_nil, by simp, by simp, by simp, Below.refl _ _⟩, (fun h => by cases h), rfl⟩
  clear hμ
  obtain ⟨ln, hln⟩ : ∃ q, (livesI zs).length = q := ⟨_, rfl⟩
  rw [hln] at hl256
  have HLN := Lib.hid hln
  clear hln
  go_loopw [5, 6] (fun v a wr => Hid (∃ m, YoungJ zs g b fr w1 m (v, a, wr))) (fun v a wr => μ (v, a, wr))
  case atStart => exact HJ0
  case round =>
    clear HJ0
    obtain ⟨ext0, ag, hag, hX, hcl, hmu⟩ := (HMU.out _ hrel.out).1
    simp only at hag hX hmu
    subst hag
    have hel := hX.len (by rw [HLN.out]; exact hl256)
    cases ag
    · obtain ⟨A6, c6, hv, _, hA6⟩ := hX.own.arr
      have hR := settled_kept HZ.out HOK.out HFL.out hX (hcl rfl)
      have HRS := Lib.hid (rising_any A6 ext0.length c6 ext0 wr (by unfold maxLen; omega) hA6)
      rw [hR] at HRS
      have HBw := Lib.hid (bthen HI.out.below hX.below)
      subst hv
      clear hX hcl hR hA6 hmu hrel
      obtain ⟨N, hN⟩ : ∃ N, ext0.length = N := ⟨_, rfl⟩
      rw [hN] at HRS ⊢
      clear hN
      go_wp2_with fail
      refine HRS.out.mono ?_
      rintro e w4 ⟨A4, c4, rfl, b4, hA4⟩
      have HB4 := Lib.hid (bthen HBw.out b4)
      have HA4 := Lib.hid hA4
      clear b4 hA4 HRS
      obtain ⟨q, hq⟩ : ∃ q, (keptL zs g b fr).length = q := ⟨_, rfl⟩
      rw [hq] at HA4 ⊢
      have HQ := Lib.hid hq
      clear hq
      go_wp2
      go_ret
      exact ⟨A4, c4, by rw [HQ.out]; rfl, HB4.out, by rw [HQ.out]; exact HA4.out⟩
    · have HMU0 := Lib.hid hmu
      have HI1 := Lib.hid (HI.out.next hX.below)
      have HBG := Lib.hid (beginsH_any A n c zs wr HI1.out.tri.arena (arErr_zero HOK.out.arena).1)
      have HX1 := Lib.hid hX
      clear hcl hrel hX hmu
      generalize wr = W1 at *
      obtain ⟨a0, a1, a2⟩ := HI1.out.cells
      go_wp2_with fail
      refine HBG.out.mono ?_
      rintro e w2 ⟨A2, c2, rfl, b2, hA2, hi2⟩
      have HX0 := Lib.hid (HX1.out.next b2)
      have HA0 := Lib.hid hA2
      have HO0 := Lib.hid (Off.of_high hi2 fun bb e => HX1.out.own.rowLt bb e)
      rw [HLN.out] at HA0 HO0 ⊢
      clear b2 hA2 hi2 HBG HX1 a0 a1 a2 HI1
      go_wp2_with fail
      go_loopw [5, 6, 17] (fun v a i wr => ∃ (k : Nat) (ext : List Int) (ag : Bool), k ≤ ln ∧ i = .int .i64 k ∧ a = .bool ag ∧ Hid (YX zs g b fr w1 ext v wr) ∧ Hid (Arr .i64 wr w2.heap.size A2 ln (livesI zs)) ∧ Hid (Off v.ownBlock A2 ln) ∧ Hid (w2.heap.size ≤ wr.heap.size) ∧ Hid (ext0.length ≤ ext.length ∧ (ag = true → ext0.length < ext.length) ∧ (ag = false → ext = ext0 ∧ ∀ j, j < k → Settled zs g b fr ext0 (nth (livesI zs) j)))) (fun _ _ i _ => ln - (intOf i).toNat)
      case atStart => exact ⟨0, ext0, false, Nat.zero_le _, rfl, rfl, HX0, HA0, HO0, Nat.le_refl _, Nat.le_refl _, (fun h => by cases h), fun _ => ⟨rfl, fun j hj => absurd hj (by omega)⟩⟩
      case round =>
        clear HX0 HA0 HO0
        obtain ⟨k, ext, ag, hk, rfl, rfl, HXk, HAk, HOk, HSk, HP⟩ := hrel
        have hel2 := HXk.out.len (by rw [HLN.out]; exact hl256)
        have HIk := Lib.hid (HI.out.next HXk.out.below)
        by_cases hlt : k < ln
        · have hkl : k < (livesI zs).length := by rw [HLN.out]; exact hlt
          have hmem : nth (livesI zs) k ∈ livesI zs := nth_mem hkl
          obtain ⟨t, ht, _⟩ := live_facts HZ.out hmem
          obtain ⟨bb, off, rfl, _, hcs⟩ := HAk.out.2.2 (by omega)
          have hc := hcs k hlt
          obtain ⟨A6, c6, hv, hcap, hA6⟩ := HXk.out.own.arr
          subst hv
          have HIN1 := Lib.hid (in_ref G ng cg _ (t : Int) g wr HIk.out.tri.hg HIk.out.tri.grey)
          have HIN2 := Lib.hid (in_ref A6 ext.length c6 _ (t : Int) ext wr (by unfold maxLen; omega) hA6)
          have HIN3 := Lib.hid (in_ref F nf cf _ (t : Int) fr wr HNF.out (HF.out.later HIk.out.below))
          have HA6 := Lib.hid hA6
          rw [ht] at hc hmem
          have HTK := Lib.hid ht
          have HML := Lib.hid hmem
          have HSET : Hid (Settled zs g b fr ext (t : Int) → (ext0.length ≤ ext.length ∧ (ag = true → ext0.length < ext.length) ∧ (ag = false → ext = ext0 ∧ ∀ j, j < k + 1 → Settled zs g b fr ext0 (nth (livesI zs) j)))) := fun hs => by
            refine ⟨HP.out.1, HP.out.2.1, fun h => ?_⟩
            obtain ⟨h1, h2⟩ := HP.out.2.2 h
            refine ⟨h1, fun j hj => ?_⟩
            rcases Nat.lt_succ_iff_lt_or_eq.1 hj with h4 | h4
            · exact h2 j h4
            · rw [h4, HTK.out, ← h1]; exact hs
          clear hcs ht hkl hA6 hmem
          obtain ⟨N, hN⟩ : ∃ N, ext.length = N := ⟨_, rfl⟩
          rw [hN] at HIN2 HXk HA6 HOk hcap hel2
          rw [hN]
          have HNN := Lib.hid hN
          clear hN
          obtain ⟨a0, a1, a2⟩ := HIk.out.cells
          by_cases hg : (t : Int) ∈ g
          · rw [show decide ((t : Int) ∈ g) = true by simpa using hg] at HIN1
            have HP2 := Lib.hid (HSET.out (.inl hg))
            clear hg HSET HP
            go_wp2_with fail
            refine HIN1.out.mono ?_
            rintro e w3 ⟨rfl, rfl⟩
            clear hc
            go_wp2
            go_roundw
            case rel => exact ⟨k + 1, ext, ag, by omega, by go_num, rfl, HXk, HAk, HOk, HSk, HP2⟩
            case measure => simp [intOf]; omega
          · rw [show decide ((t : Int) ∈ g) = false by simpa using hg] at HIN1
            by_cases he : (t : Int) ∈ ext
            · rw [show decide ((t : Int) ∈ ext) = true by simpa using he] at HIN2
              have HP2 := Lib.hid (HSET.out (.inr (.inl he)))
              clear hg he HSET HP
              go_wp2_with fail
              refine HIN1.out.mono ?_
              rintro e w3 ⟨rfl, rfl⟩
              go_wp2_with fail
              refine HIN2.out.mono ?_
              rintro e w3 ⟨rfl, rfl⟩
              clear hc
              go_wp2
              go_roundw
              case rel => exact ⟨k + 1, ext, ag, by omega, by go_num, rfl, HXk, HAk, HOk, HSk, HP2⟩
              case measure => simp [intOf]; omega
            · rw [show decide ((t : Int) ∈ ext) = false by simpa using he] at HIN2
              have HNG := Lib.hid hg
              have HNE := Lib.hid he
              clear hg he
              obtain ⟨v4, w4, hrun4, hO4, hB4⟩ := Own.madeB (P := Tryz.prog) (t := 23) (ty := 23) (base := wr.heap.size) (c := cb) Tryz.underlying23 intI_info HIk.out.tri.blk (by omega) (Nat.le_refl _)
              have hbl := HIk.out.tri.blk.1
              obtain ⟨v5, w5, hrun5, hO5, hB5⟩ := hO4.cat (P := Tryz.prog) (t := 23) (ty := 23) Tryz.underlying23 intI_info (Nat.le_refl _) (c := c6) (HA6.out.later hB4) (by omega) hB4.size
              obtain ⟨A5, c5, hv5, _, hA5⟩ := hO5.arr
              subst hv5
              have HR4 := Lib.hid hrun4
              have HR5 := Lib.hid hrun5
              have HB5 := Lib.hid (hB4.trans hB5)
              have HA5 := Lib.hid hA5
              have hby : (b ++ ext).length ≤ 512 := by rw [List.length_append]; have := HNN.out; omega
              clear hrun4 hO4 hrun5 hO5 hB4 hB5 hA5 hbl
              obtain ⟨M, hM⟩ : ∃ M, (b ++ ext).length = M := ⟨_, rfl⟩
              rw [hM] at HR5 HA5 hby
              have HMM := Lib.hid hM
              clear hM
              go_wp2_with fail
              refine HIN1.out.mono ?_
              rintro e w3 ⟨rfl, rfl⟩
              go_wp2_with fail
              refine HIN2.out.mono ?_
              rintro e w3 ⟨rfl, rfl⟩
              go_wp2_with fail
              refine HIN3.out.mono ?_
              rintro e w3 ⟨rfl, rfl⟩
              clear hc HIN1 HIN2 HIN3
              go_wp2_with (at_builtin; first | refine wpList_append_run rfl (.const (.slice none 0 0)) (.tmp 34) 23 rfl rfl rfl HR4.out ?_ | refine wpList_append_run rfl (.tmp 35) (.tmp 36) 23 rfl rfl rfl HR5.out ?_)
              have HXW := Lib.hid (HXk.out.next (HB5.out))
              have HAW := Lib.hid (HAk.out.below HB5.out HSk.out)
              have HSW : Hid (w2.heap.size ≤ w5.heap.size) := Nat.le_trans HSk.out HB5.out.size
              clear HR4 HR5 HXk HAk HSk HIk HA6 HB5 a0 a1 a2
              generalize wr = W2 at *
              go_loopw [9, 39] (fun s i wr => ∃ (q : Nat) (sb : Bool), q ≤ M ∧ i = .int .i64 q ∧ s = .bool sb ∧ Hid (Below w5.heap.size w5 wr) ∧ Hid (sb = true ↔ ((t : Int) ∈ fr ∨ ∃ i, i < q ∧ (t : Int) ∈ nxOf zs (nth (b ++ ext) i)))) (fun _ i _ => M - (intOf i).toNat)
              case atStart => exact ⟨0, decide ((t : Int) ∈ fr), Nat.zero_le _, rfl, rfl, Below.refl _ _, by
                show _ ↔ _
                rw [decide_eq_true_eq]
                constructor
                · exact .inl
                · rintro (h | ⟨i, hi, _⟩)
                  · exact h
                  · omega⟩
              case round =>
                obtain ⟨q, sb, hq, rfl, rfl, HBw, HSB⟩ := hrel
                have HXw := Lib.hid (HXW.out.next HBw.out)
                have HIw := Lib.hid (HI.out.next HXw.out.below)
                obtain ⟨a0, a1, a2⟩ := HIw.out.cells
                by_cases hlq : q < M
                · have hqm : q < (b ++ ext).length := by rw [HMM.out]; exact hlq
                  have hlv : nth (b ++ ext) q ∈ livesI zs := by
                    rcases List.mem_append.1 (nth_mem hqm) with hx | hx
                    · exact HOK.out.ol _ (HOK.out.no _ hx)
                    · exact HXw.out.sub _ hx
                  obtain ⟨s, hs, _⟩ := live_facts HZ.out hlv
                  obtain ⟨bb7, off7, rfl, _, hcs⟩ := (HA5.out.later HBw.out).2.2 (by omega)
                  have hc := hcs q hlq
                  rw [hs] at hc hlv
                  have HST := Lib.hid hs
                  have HNM := Lib.hid (namedAt_any A n c s zs wr HIw.out.tri.arena HOK.out.arena hlv)
                  have hn256 : (named zs s).length ≤ 256 := Nat.le_trans named_len (arena_len HOK.out.arena)
                  clear hcs hs hlv hqm
                  cases sb
                  · go_wp2_with fail
                    refine HNM.out.mono ?_
                    rintro e w7 ⟨A7, c7, rfl, b7, hA7, _⟩
                    have HIN := Lib.hid (in_ref A7 (named zs s).length c7 _ (t : Int) (named zs s) w7 (by unfold maxLen; omega) hA7)
                    have HB7 := Lib.hid (bthen HBw.out b7)
                    have HSB7 : Hid (decide ((t : Int) ∈ named zs s) = true ↔ ((t : Int) ∈ fr ∨ ∃ i, i < q + 1 ∧ (t : Int) ∈ nxOf zs (nth (b ++ ext) i))) := by
                      show _ ↔ _
                      rw [decide_eq_true_eq]
                      have h0 : ¬ ((t : Int) ∈ fr ∨ ∃ i, i < q ∧ (t : Int) ∈ nxOf zs (nth (b ++ ext) i)) := fun h => by cases HSB.out.2 h
                      have e : nxOf zs (nth (b ++ ext) q) = named zs s := by rw [HST.out]; unfold nxOf; rw [Int.toNat_natCast]
                      constructor
                      · exact fun h => .inr ⟨q, by omega, by rw [e]; exact h⟩
                      · rintro (h | ⟨i, hi, h⟩)
                        · exact absurd (.inl h) h0
                        · rcases Nat.lt_succ_iff_lt_or_eq.1 hi with h4 | h4
                          · exact absurd (.inr ⟨i, h4, h⟩) h0
                          · rw [h4, e] at h; exact h
                    clear b7 hA7 HNM HSB
                    obtain ⟨nn, hnn⟩ : ∃ q, (named zs s).length = q := ⟨_, rfl⟩
                    rw [hnn] at HIN hn256 ⊢
                    clear hnn
                    go_wp2_with fail
                    refine HIN.out.mono ?_
                    rintro e w8 ⟨rfl, rfl⟩
                    go_wp2
                    go_roundw
                    case rel => exact ⟨q + 1, _, by omega, by go_num, rfl, HB7, HSB7.out⟩
                    case measure => simp [intOf]; omega
                  · have HSB7 : Hid (true = true ↔ ((t : Int) ∈ fr ∨ ∃ i, i < q + 1 ∧ (t : Int) ∈ nxOf zs (nth (b ++ ext) i))) := by
                      show _ ↔ _
                      refine ⟨fun _ => ?_, fun _ => rfl⟩
                      rcases HSB.out.1 rfl with h | ⟨i, hi, h⟩
                      · exact .inl h
                      · exact .inr ⟨i, by omega, h⟩
                    clear HNM HSB
                    go_wp2
                    go_roundw
                    case rel => exact ⟨q + 1, true, by omega, by go_num, rfl, HBw, HSB7.out⟩
                    case measure => simp [intOf]; omega
                · obtain rfl : q = M := by omega
                  have HAw := Lib.hid (HAW.out.below HBw.out HSW.out)
                  have HSw : Hid (w2.heap.size ≤ wr.heap.size) := Nat.le_trans HSW.out HBw.out.size
                  clear HXW HAW HSW HA5 a0 a1 a2
                  cases sb
                  · have HP2 := Lib.hid (HSET.out (.inr (.inr ⟨(fun h => absurd (HSB.out.2 (.inl h)) (by decide)), fun y hy hx => by
                      obtain ⟨i, hi, e⟩ := List.getElem_of_mem hy
                      rw [HMM.out] at hi
                      refine absurd (HSB.out.2 (.inr ⟨i, hi, ?_⟩)) (by decide)
                      rw [nth_get _ _ (by rw [HMM.out]; exact hi), e]
                      exact hx⟩)))
                    clear HSB HSET HP
                    go_wp2
                    go_roundw
                    case rel => exact ⟨k + 1, ext, ag, by omega, by go_num, rfl, HXw, HAw, HOk, HSw, HP2⟩
                    case measure => simp [intOf]; omega
                  · have hr : Reach (yNx zs g) (yFr zs g b fr) (t : Int) := by
                      rcases HSB.out.1 rfl with h | ⟨i, hi, h⟩
                      · exact .base (yFr_mem.2 ⟨.inl h, by omega, HNG.out⟩)
                      · have hm : nth (b ++ ext) i ∈ b ++ ext := nth_mem (by rw [HMM.out]; exact hi)
                        rcases List.mem_append.1 hm with hm | hm
                        · exact .base (yFr_mem.2 ⟨.inr ⟨_, hm, h⟩, by omega, HNG.out⟩)
                        · exact .step (HXw.out.reach _ hm) (yNx_mem.2 ⟨h, HNG.out⟩) (by omega)
                    have ht256 := lives_lt HML.out
                    have h256 := arena_len HOK.out.arena
                    obtain ⟨v', w6, hrun, hO', hG⟩ := HXw.out.own.pushG (P := Tryz.prog) (t := 23) (ty := 23) Tryz.underlying23 intI_info (Nat.le_refl _) (x := (t : Int)) (wf_i64.2 (by omega)) (by have := HNN.out; omega) HXw.out.below.size
                    have hX6 := HXw.out.push HML.out HNG.out hr HNE.out hO' hG
                    obtain ⟨hA6, hO6⟩ := HAw.out.grew hG HOk.out HSw.out
                    obtain ⟨A8, c8, hv8, _, _⟩ := hO'.arr
                    subst hv8
                    have HX6 := Lib.hid hX6
                    have HA6 := Lib.hid hA6
                    have HO6 := Lib.hid hO6
                    have HS6 : Hid (w2.heap.size ≤ w6.heap.size) := Nat.le_trans HSw.out hG.size
                    have HRN := Lib.hid hrun
                    have HI6 : Hid (ext0.length ≤ (ext ++ [(t : Int)]).length ∧ ext0.length < (ext ++ [(t : Int)]).length) := by
                      show _ ∧ _
                      have := HP.out.1
                      rw [List.length_append, List.length_singleton]
                      omega
                    clear hrun hO' hG hX6 hA6 hO6 hr ht256 h256 HXw HAw HOk HSw HSB HSET HP
                    obtain ⟨N8, hN8⟩ : ∃ N, (ext ++ [(t : Int)]).length = N := ⟨_, rfl⟩
                    rw [hN8] at HX6 HO6 HRN
                    clear hN8
                    go_wp2_with (at_builtin; refine wpList_append_run rfl (.tmp 54) (.tmp 56) 23 rfl rfl rfl HRN.out ?_)
                    go_roundw
                    case rel => exact ⟨k + 1, ext ++ [(t : Int)], true, by omega, by go_num, rfl, HX6, HA6, HO6, HS6, HI6.out.1, (fun _ => HI6.out.2), fun h => by cases h⟩
                    case measure => simp [intOf]; omega
        · obtain rfl : k = ln := by omega
          obtain ⟨A6, c6, hv, _, hA6⟩ := HXk.out.own.arr
          subst hv
          have HJ : Hid (∃ m, YoungJ zs g b fr w1 m (.slice A6 ext.length c6, .bool ag, wr) ∧ m < 2 * (256 - ext0.length) + 1) := by
            refine ⟨_, ⟨ext, ag, rfl, HXk.out, fun h => ?_, rfl⟩, ?_⟩
            · obtain ⟨h1, h2⟩ := HP.out.2.2 h
              intro x hx
              obtain ⟨j, hj, e⟩ := List.getElem_of_mem hx
              have h3 := h2 j (by rw [HLN.out] at hj; exact hj)
              rw [nth_get _ _ hj, e] at h3
              rw [h1]
              exact h3
            · cases ag
              · obtain ⟨h1, _⟩ := HP.out.2.2 rfl
                rw [h1]
                simp
              · have := HP.out.2.1 rfl
                simp
                omega
          obtain ⟨N, hN⟩ : ∃ N, ext.length = N := ⟨_, rfl⟩
          rw [hN] at HJ HXk
          rw [hN]
          clear hA6 hN HP
          go_wp2
          go_roundw
          case rel =>
            obtain ⟨m, h1, _⟩ := HJ.out
            exact ⟨m, h1⟩
          case measure =>
            obtain ⟨m, h1, h2⟩ := HJ.out
            refine Nat.lt_of_le_of_lt ((HMU.out _ ⟨m, h1⟩).2 m h1) ?_
            rw [← HMU0.out]
            simpa using h2
end Go.Proofs.YthdnfocemchgjaaGreat
