/-
  Contracts of walk's header and of the reference's HeadOf; of place.
-/
import Derived.Test.YtjefbekdjgmmbaaLayM
import Derived.Test.YtjefbekdjgmmbaaObjects
import Derived.Test.YtjefbekdjgmmbaaWalkM
namespace Go.Proofs.Ytjefbekdjgmmbaa
open Go.RowKit

set_option maxRecDepth 8000 in
set_option maxHeartbeats 1000000 in
theorem header_any (r : Raw) (w : World) (h1 : r.rn ≤ maxLen) (h2 : r.bn ≤ maxLen) :
    Calls Try.prog 102 #[.agg #[.int .i64 r.t, .slice r.ra r.rn r.rc, .slice r.ba r.bn r.bc, .bool r.f]] w fun e w' => e = .returned (.agg #[.int .i64 r.rn, .int .i64 r.bn, .int .i64 r.t, .bool r.f]) ∧ Below w.heap.size w w' := by
  unfold maxLen at h1 h2
  obtain ⟨t, ra, rn, rc, ba, bn, bc, f⟩ := r
  simp only at h1 h2 ⊢
  have bb := ((Below.refl _ w).alloc (Nat.le_refl _) (.cells #[.int .i64 t, .slice ra rn rc, .slice ba bn bc, .bool f] 41)).alloc (by simp) (.cells #[.int .i64 rn, .int .i64 bn, .int .i64 t, .bool f] 44)
  have n2 := Box.new (w.alloc (.cells #[.int .i64 t, .slice ra rn rc, .slice ba bn bc, .bool f] 41)) 44 #[.int .i64 rn, .int .i64 bn, .int .i64 t, .bool f]
  rw [show (w.alloc (.cells #[.int .i64 t, .slice ra rn rc, .slice ba bn bc, .bool f] 41)).heap.size = w.heap.size + 1 by simp] at n2
  have HB := Lib.hid bb
  have N2 := Lib.hid n2
  clear bb n2
  go_enter Try.func102, Try.ntmps102
  go_wp2
  generalize ((w.alloc (.cells #[.int .i64 t, .slice ra rn rc, .slice ba bn bc, .bool f] 41)).alloc (.cells #[.int .i64 rn, .int .i64 bn, .int .i64 t, .bool f] 44)) = W at *
  have x0 : W.cell? ⟨w.heap.size + 1, 0, none⟩ = some (.int .i64 rn) := N2.out.cell 0
  have x1 : W.cell? ⟨w.heap.size + 1, 1, none⟩ = some (.int .i64 bn) := N2.out.cell 1
  have x2 : W.cell? ⟨w.heap.size + 1, 2, none⟩ = some (.int .i64 t) := N2.out.cell 2
  have x3 : W.cell? ⟨w.heap.size + 1, 3, none⟩ = some (.bool f) := N2.out.cell 3
  refine bodyPost_ret (v := .agg #[.int .i64 rn, .int .i64 bn, .int .i64 t, .bool f]) (by simp [results, Try.results102, go_sem, x0, x1, x2, x3]) rfl ⟨rfl, HB.out⟩
set_option maxRecDepth 8000 in
set_option maxHeartbeats 1000000 in
theorem headOf_any (r : Raw) (w : World) (h1 : r.rn ≤ maxLen) (h2 : r.bn ≤ maxLen) :
    Calls Try.prog 18 #[.agg #[.int .i64 r.t, .slice r.ra r.rn r.rc, .slice r.ba r.bn r.bc, .bool r.f]] w fun e w' => e = .returned (.agg #[.int .i64 r.rn, .int .i64 r.bn, .int .i64 r.t, .bool r.f]) ∧ Below w.heap.size w w' := by
  unfold maxLen at h1 h2
  obtain ⟨t, ra, rn, rc, ba, bn, bc, f⟩ := r
  simp only at h1 h2 ⊢
  have bb := ((Below.refl _ w).alloc (Nat.le_refl _) (.cells #[.int .i64 t, .slice ra rn rc, .slice ba bn bc, .bool f] 41)).alloc (by simp) (.cells #[.int .i64 rn, .int .i64 bn, .int .i64 t, .bool f] 44)
  have n2 := Box.new (w.alloc (.cells #[.int .i64 t, .slice ra rn rc, .slice ba bn bc, .bool f] 41)) 44 #[.int .i64 rn, .int .i64 bn, .int .i64 t, .bool f]
  rw [show (w.alloc (.cells #[.int .i64 t, .slice ra rn rc, .slice ba bn bc, .bool f] 41)).heap.size = w.heap.size + 1 by simp] at n2
  have HB := Lib.hid bb
  have N2 := Lib.hid n2
  clear bb n2
  go_enter Try.func18, Try.ntmps18
  go_wp2
  generalize ((w.alloc (.cells #[.int .i64 t, .slice ra rn rc, .slice ba bn bc, .bool f] 41)).alloc (.cells #[.int .i64 rn, .int .i64 bn, .int .i64 t, .bool f] 44)) = W at *
  have x0 : W.cell? ⟨w.heap.size + 1, 0, none⟩ = some (.int .i64 rn) := N2.out.cell 0
  have x1 : W.cell? ⟨w.heap.size + 1, 1, none⟩ = some (.int .i64 bn) := N2.out.cell 1
  have x2 : W.cell? ⟨w.heap.size + 1, 2, none⟩ = some (.int .i64 t) := N2.out.cell 2
  have x3 : W.cell? ⟨w.heap.size + 1, 3, none⟩ = some (.bool f) := N2.out.cell 3
  refine bodyPost_ret (v := .agg #[.int .i64 rn, .int .i64 bn, .int .i64 t, .bool f]) (by simp [results, Try.results18, go_sem, x0, x1, x2, x3]) rfl ⟨rfl, HB.out⟩

theorem mapT2 : MapT Try.prog .i64 .u64 129 3 47 := ⟨Try.underlying129, Try.underlying3, Try.underlying47, fun _ => by kernel_rfl⟩

/-- What place answers. -/
def PlaceQ (os : List Ob) (n : Nat) (w : World) (e : Ending) (w' : World) : Prop := Below w.heap.size w w' ∧
  ((pErr os n ≠ 0 ∧ e = .returned (.tuple #[.map none, .int .i64 0, .int .i64 (pErr os n)])) ∨
   (pErr os n = 0 ∧ ∃ b, e = .returned (.tuple #[.map (some b), .int .i64 (offs os os.length), .int .i64 0]) ∧ w.heap.size ≤ b ∧ MapF Try.prog .i64 .u64 3 47 w' b (os.length + 1) (pMap os n os.length)))

set_option maxRecDepth 8000 in
set_option maxHeartbeats 4000000 in
theorem lplace_any (A : Option Addr) (N c n B lo : Nat) (raws : List Raw) (os : List Ob) (w : World) (hn : n ≤ 256) (hN : N ≤ 140737488355328) (hB : B ≤ w.heap.size) (ha : ArrG rawC 4 w B A N raws) (hl : os.length = N) (hv : ∀ j, j < N → ObV w lo B (nthG raws j) (nthG os j))
    (hs : ∀ j, j < N → (nthG raws j).rn ≤ maxLen ∧ (nthG raws j).bn ≤ maxLen) :
    Calls Try.prog 74 #[.slice A N c, .int .i64 n] w (PlaceQ os n w) := by
  have HA := Lib.hid ha
  have HV : Hid (∀ j, j < N → (nthG raws j).t = (nthG os j).1 ∧ (nthG raws j).f = (nthG os j).2.2.2 ∧ (nthG raws j).rn = (nthG os j).2.1.length ∧ (nthG raws j).bn = (nthG os j).2.2.1.length) := fun j hj => ⟨(hv j hj).tag, (hv j hj).free, (hv j hj).refs.1.symm, (hv j hj).body.1.symm⟩
  have HS := Lib.hid hs
  have HL := Lib.hid hl
  clear ha hv hs
  have hmm := @run_makeMap Try.prog
  go_enter Try.func74, Try.ntmps74
  go_wp2_with (refine wpList_insert_map mapT2 _ rfl _ _ _ rfl rfl rfl rfl (MapF.made Try.prog .i64 .u64 3 47 w) (by unfold maxLen; omega) (by decide) (by decide) ?_; intro w2 hm2 hg2)
  have bm : Below w.heap.size w w2 := ((Below.refl _ w).alloc (Nat.le_refl _) _).trans (grown_below hg2 (Nat.le_refl _) (by simp))
  have HM := Lib.hid hm2
  have HB := Lib.hid bm
  clear hm2 hg2 bm hmm
  obtain ⟨gm, hgm⟩ : ∃ g, w.heap.size = g := ⟨_, rfl⟩
  rw [hgm] at HM ⊢
  have HGM := Lib.hid hgm
  clear hgm
  go_loopw [8, 17] (fun a i wr => ∃ k : Nat, k ≤ N ∧ i = .int .i64 k ∧ a = .int .i64 (offs os k) ∧ Hid (∀ j, j < k → oFault (nthG os j) = 0) ∧ Hid (MapF Try.prog .i64 .u64 3 47 wr gm (k + 1) (pMap os n k)) ∧ Hid (Below w.heap.size w wr)) (fun _ i _ => N - (intOf i).toNat)
  case atStart => exact ⟨0, Nat.zero_le _, rfl, rfl, (fun j hj => absurd hj (by omega)), HM, HB⟩
  case round =>
    obtain ⟨k, hk, rfl, rfl, HF, hM, hBw⟩ := hrel
    clear HM HB
    have hof := offs_le k (by omega) HF.out
    by_cases hlt : k < N
    · obtain ⟨b, off, rfl, hb, x0, x1, x2, x3⟩ := (HA.out.below hBw.out hB).raw hlt
      obtain ⟨v1, v2, v3, v4⟩ := HV.out k hlt
      obtain ⟨s1, s2⟩ := HS.out k hlt
      have hfl : oFault (nthG os k) = hFault (nthG raws k).rn (nthG raws k).bn (nthG raws k).t (nthG raws k).f := by unfold oFault; rw [v1, v2, v3, v4]
      have hlg : oLong (nthG os k) = 1 + (nthG raws k).rn + (nthG raws k).bn := by unfold oLong; rw [v3, v4]
      have hfr : (nthG os k).2.2.2 = (nthG raws k).f := v2.symm
      have hstep := offs_step (os := os) (k := k) (by omega)
      rw [hlg] at hstep
      clear v1 v2 v3 v4
      have HH := Lib.hid (fun wx => header_any (nthG raws k) wx s1 s2)
      have HFL := Lib.hid hfl
      have HLG := Lib.hid hlg
      have HFR := Lib.hid hfr
      clear hfl hlg hfr s1 s2
      obtain ⟨r, hr⟩ : ∃ r, nthG raws k = r := ⟨_, rfl⟩
      rw [hr] at x0 x1 x2 x3 HH HFL HLG HFR hstep
      clear hr
      obtain ⟨t, ra, rn, rc, ba, bn, bc, f⟩ := r
      simp only at x0 x1 x2 x3 HH HFL HLG HFR hstep
      have ba1 := (Below.refl _ wr).alloc (Nat.le_refl _) (.cells #[.int .i64 t, .slice ra rn rc, .slice ba bn bc, .bool f] 41)
      have BX := Lib.hid (Box.new wr 41 #[.int .i64 t, .slice ra rn rc, .slice ba bn bc, .bool f])
      have HBA := Lib.hid ba1
      clear ba1
      obtain ⟨a, hoa⟩ : ∃ a, offs os k = a := ⟨_, rfl⟩
      rw [hoa] at hof hstep ⊢
      have HOA := Lib.hid hoa
      clear hoa
      by_cases hz : hFault rn bn t f = 0
      · obtain ⟨f1, f2, f3, f4, f5, f6⟩ := hFault_ok hz
        have HLo := Lib.hid (fun wx => lengthOk rn bn t f wx hz)
        have HFn : Hid (∀ j, j < k + 1 → oFault (nthG os j) = 0) := fun j hj => by
          rcases Nat.lt_succ_iff_lt_or_eq.1 hj with h | h
          · exact HF.out j h
          · rw [h, HFL.out]; exact hz
        clear hz f3 f4 f6 HF
        go_wp2_with fail
        refine (HH.out _).mono ?_
        rintro e w3 ⟨rfl, b3⟩
        have HB3 := Lib.hid (HBA.out.trans (b3.mono HBA.out.size))
        have BX3 := Lib.hid (BX.out.below b3 BX.out.lt)
        clear b3
        go_wp2_with fail
        refine (HLo.out _).mono ?_
        rintro e w4 ⟨rfl, b4⟩
        have HB4 := Lib.hid (HB3.out.trans (b4.mono HB3.out.size))
        have bx4 := BX3.out.below b4 BX3.out.lt
        have c3 : w4.cell? ⟨wr.heap.size, 3, none⟩ = some (.bool f) := bx4.cell 3
        have hM4 := hM.out.below HB4.out hM.out.lt
        have HM4 := Lib.hid hM4
        have HBW4 := Lib.hid (hBw.out.trans (HB4.out.mono hBw.out.size))
        clear b4 bx4 hM4 hM hBw HB3 BX3 x0 x1 x2 x3
        have hstep' : ((offs os (k + 1) : Nat) : Int) = (a : Int) + (1 + rn + bn) := by rw [hstep]; omega
        have HST := Lib.hid hstep'
        clear hstep hstep'
        cases f
        · by_cases hfit : a + (1 + rn + bn) ≤ n
          · have hfit' : (a : Int) + (1 + rn + bn) ≤ n := by omega
            go_wp2_with fail
            refine (reference_any a w4 (by omega)).mono ?_
            rintro e w5 ⟨rfl, rfl⟩
            go_wp2_with (refine wpList_store_map mapT2 _ rfl _ _ _ rfl rfl rfl rfl HM4.out (by unfold maxLen; omega) (wf_i64.2 (by omega)) (wf_u64.2 (by omega)) ?_; intro w6 hm6 hg6)
            have HM6 : Hid (MapF Try.prog .i64 .u64 3 47 w6 gm (k + 1 + 1) (pMap os n (k + 1))) := Lib.hid (by rw [pMap_in (by rw [HFR.out]) (by rw [HOA.out, HLG.out]; omega), HOA.out]; exact hm6)
            have HB6 := Lib.hid (HBW4.out.trans (grown_below hg6 (Nat.le_of_eq HGM.out) HBW4.out.size))
            clear hm6 hg6
            go_roundw
            case rel => exact ⟨k + 1, by omega, by go_num, by rw [HST.out], HFn, HM6, HB6⟩
            case measure => simp [intOf]; omega
          · have hfit' : ¬ ((a : Int) + (1 + rn + bn) ≤ n) := by omega
            have HM6 : Hid (MapF Try.prog .i64 .u64 3 47 w4 gm (k + 1 + 1) (pMap os n (k + 1))) := Lib.hid (by rw [pMap_out (by rw [HOA.out, HLG.out]; omega)]; exact HM4.out.mono (by omega))
            go_wp2
            go_roundw
            case rel => exact ⟨k + 1, by omega, by go_num, by rw [HST.out], HFn, HM6, HBW4⟩
            case measure => simp [intOf]; omega
        · have HM6 : Hid (MapF Try.prog .i64 .u64 3 47 w4 gm (k + 1 + 1) (pMap os n (k + 1))) := Lib.hid (by rw [pMap_free (by rw [HFR.out])]; exact HM4.out.mono (by omega))
          go_wp2
          go_roundw
          case rel => exact ⟨k + 1, by omega, by go_num, by rw [HST.out], HFn, HM6, HBW4⟩
          case measure => simp [intOf]; omega
      · have HLo := Lib.hid (fun wx => lengthBad rn bn t f wx hz)
        have hbz : (hFault rn bn t f != 0) = true := by simpa using hz
        have HPE : Hid (pErr os n = hFault rn bn t f) := Lib.hid (by
          have h1 := fault_at (os := os) (k := k) (by rw [HL.out]; exact hlt) HF.out (by rw [HFL.out]; exact hz)
          rw [HFL.out] at h1
          rw [pErr_fault (by rw [h1]; exact hz), h1])
        have HZ := Lib.hid hz
        clear hz HF
        generalize hFault rn bn t f = E at *
        go_wp2_with fail
        refine (HH.out _).mono ?_
        rintro e w3 ⟨rfl, b3⟩
        have HB3 := Lib.hid (HBA.out.trans (b3.mono HBA.out.size))
        clear b3
        go_wp2_with fail
        refine (HLo.out _).mono ?_
        rintro e w4 ⟨rfl, b4⟩
        have HB4 := Lib.hid (hBw.out.trans ((HB3.out.trans (b4.mono HB3.out.size)).mono hBw.out.size))
        clear b4
        go_wp2
        go_ret3
        exact ⟨HB4.out, .inl ⟨by rw [HPE.out]; exact HZ.out, by rw [HPE.out]; rfl⟩⟩
    · obtain rfl : k = N := by omega
      have hfz := fault_ok (os := os) (fun j hj => HF.out j (by rw [HL.out] at hj; exact hj))
      have HZ := Lib.hid hfz
      clear hfz HF
      have hge := offs_ge (os := os) k (by omega)
      by_cases hfull : n < offs os k
      · have HPE : Hid (pErr os n = 7) := Lib.hid (pErr_full HZ.out (by rw [HL.out]; exact hfull))
        have hf' : (n : Int) < (offs os k : Nat) := by omega
        generalize offs os k = a at *
        go_wp2
        go_ret3
        exact ⟨hBw.out, .inl ⟨by rw [HPE.out]; decide, by rw [HPE.out]; rfl⟩⟩
      · have HPE : Hid (pErr os n = 0) := Lib.hid (pErr_ok HZ.out (by rw [HL.out]; omega))
        have hf' : ¬ (n : Int) < (offs os k : Nat) := by omega
        have HO : Hid (offs os os.length = offs os k) := Lib.hid (by rw [HL.out])
        have HM9 : Hid (MapF Try.prog .i64 .u64 3 47 wr gm (os.length + 1) (pMap os n os.length)) := Lib.hid (by rw [HL.out]; exact hM.out)
        generalize offs os k = a at *
        clear hM
        go_wp2
        go_ret3
        exact ⟨hBw.out, .inr ⟨HPE.out, gm, by rw [HO.out]; rfl, Nat.le_of_eq HGM.out, HM9.out⟩⟩
end Go.Proofs.Ytjefbekdjgmmbaa
