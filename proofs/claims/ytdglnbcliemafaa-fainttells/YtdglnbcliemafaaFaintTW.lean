/-
  The walk of FaintTells, given what Keep and Clear answer ('FKeepC', 'FClearC').
-/
import Derived.Test.YtdglnbcliemafaaFaintD
import Derived.Test.YtdglnbcliemafaaFaintR
import Derived.Deep.DeepCutAuto
namespace Go.Proofs.Ytdglnbcliemafaa
open Go.RowKit

def badT (zs : List Int) (E : Int) (ps : List (Int × Int)) : Nat → Int
  | 0 => E
  | k + 1 => if badT zs E ps k = 0 then fromE zs [(nthG ps k).1, (nthG ps k).2] else badT zs E ps k
/-- The pairs that are left of the first 'k'. -/
def clearTo (L : List Int) (ps : List (Int × Int)) (k : Nat) : List (Int × Int) := (ps.take k).filter fun p => decide (p.1 ∈ L)
section
variable {zs fr L : List Int} {ps : List (Int × Int)} {k : Nat}
theorem badT_stays {E : Int} (h : E ≠ 0) : ∀ k, badT zs E ps k = E
  | 0 => rfl
  | k + 1 => by
    show (if badT zs E ps k = 0 then _ else badT zs E ps k) = E
    rw [badT_stays h k, if_neg h]
theorem pairW_take (h : k < ps.length) : pairW (ps.take (k + 1)) = pairW (ps.take k) ++ [(nthG ps k).1, (nthG ps k).2] := by
  unfold pairW
  rw [List.take_succ_eq_append_getElem h, List.flatMap_append, ← nthG_get _ _ h]
  simp
theorem badT_from (h : arErr zs = 0) : ∀ k, k ≤ ps.length → badT zs 0 ps k = fromE zs (pairW (ps.take k))
  | 0, _ => (fromE_ok h (by intro x hx; cases hx)).symm
  | k + 1, hk => by
    show (if badT zs 0 ps k = 0 then fromE zs [(nthG ps k).1, (nthG ps k).2] else badT zs 0 ps k) = _
    rw [badT_from h k (by omega), pairW_take (by omega)]
    by_cases h1 : fromE zs (pairW (ps.take k)) = 0
    · rw [if_pos h1]
      have h2 := (fromE_zero h1).2
      by_cases h3 : ∀ x ∈ [(nthG ps k).1, (nthG ps k).2], x ∈ livesI zs
      · rw [fromE_ok h h3]
        exact (fromE_ok h fun x hx => (List.mem_append.1 hx).elim (h2 x) (h3 x)).symm
      · obtain ⟨x, hx, hn⟩ : ∃ x, x ∈ [(nthG ps k).1, (nthG ps k).2] ∧ x ∉ livesI zs := Classical.byContradiction fun hc => h3 fun x hx => Classical.byContradiction fun hn => hc ⟨x, hx, hn⟩
        rw [fromE_none h hx hn]
        exact (fromE_none h (List.mem_append_right _ hx) hn).symm
    · rw [if_neg h1]
      obtain ⟨x, hx, hn⟩ : ∃ x, x ∈ pairW (ps.take k) ∧ x ∉ livesI zs := Classical.byContradiction fun hc => h1 (fromE_ok h fun x hx => Classical.byContradiction fun hn => hc ⟨x, hx, hn⟩)
      rw [fromE_none h hx hn]
      exact (fromE_none h (List.mem_append_left _ hx) hn).symm
theorem bad_all : badT zs (headE zs fr ps.length) ps ps.length = faintE zs fr ps := by
  unfold headE
  by_cases h : fromE zs fr = 0
  · by_cases h1 : 32 < ps.length
    · rw [if_pos ⟨h, h1⟩, badT_stays (by decide), faintE_many h h1]
    · rw [if_neg (fun h => h1 h.2), h, badT_from (fromE_zero h).1 _ (Nat.le_refl _), List.take_length, faintE_ok h h1]
  · rw [if_neg (fun h' => h h'.1), badT_stays h, faintE_from h]
theorem badT_yes {E : Int} (h : badT zs E ps k = 0) : badT zs E ps (k + 1) = fromE zs [(nthG ps k).1, (nthG ps k).2] := if_pos h
theorem badT_no {E : Int} (h : badT zs E ps k ≠ 0) : badT zs E ps (k + 1) = badT zs E ps k := if_neg h
theorem clearTo_more (h : k < ps.length) (hk : (nthG ps k).1 ∈ L) : clearTo L ps (k + 1) = clearTo L ps k ++ [nthG ps k] := by
  unfold clearTo
  rw [List.take_succ_eq_append_getElem h, List.filter_append, ← nthG_get _ _ h]
  simp [hk]
theorem clearTo_skip (h : k < ps.length) (hk : (nthG ps k).1 ∉ L) : clearTo L ps (k + 1) = clearTo L ps k := by
  unfold clearTo
  rw [List.take_succ_eq_append_getElem h, List.filter_append, ← nthG_get _ _ h]
  simp [hk]
theorem clearTo_all : clearTo (faintL zs fr ps) ps ps.length = clearL zs fr ps := by unfold clearTo clearL; rw [List.take_length]
theorem clearTo_len : (clearTo L ps k).length ≤ ps.length := Nat.le_trans (List.length_filter_le _ _) (List.length_take_le' _ _)
end

set_option maxRecDepth 8000 in
set_option maxHeartbeats 4000000 in
theorem faintTells_of (hK : FKeepC) (hC : FClearC) (A F P : Option Addr) (n c nf cf np cp : Nat) (zs fr : List Int) (ps : List (Int × Int)) (w : World) (h : ArenaFrom w A F n c nf cf zs fr) (hnf : nf * 8 ≤ 140737488351232) (hp : FaintsIn w P np cp ps) (hpz : np * 16 ≤ 140737488351232) :
    Calls Try.prog 3 #[.slice A n c, .slice F nf cf, .slice P np cp] w fun e w' => e = .returned (.bool true) ∧ Below w.heap.size w w' := by
  have HPL := Lib.hid hp.row.1
  have HPM := Lib.hid hpz
  have HKE := Lib.hid (fun wx (hb : Below w.heap.size w wx) => hK A F P n c nf cf np cp zs fr ps wx (h.later hb) (hp.later hb) (by omega))
  have HCL := Lib.hid (fun wx (hb : Below w.heap.size w wx) => hC A F P n c nf cf np cp zs fr ps wx (h.later hb) (hp.later hb) (by omega))
  have HFF := Lib.hid (fun wx (hb : Below w.heap.size w wx) g (hg : g < wx.heap.size) hc => fromFault_any A F n c nf cf g zs fr wx (by have := h.hn; unfold maxLen; omega) (h.later hb).arena (by unfold maxLen; omega) (h.later hb).from_ hg hc)
  have HF2 := Lib.hid (fun wx (hb : Below w.heap.size w wx) g (hg : g < wx.heap.size) (X : Option Addr) xs hx hc => fromFault_any A X n c 2 2 g zs xs wx (by have := h.hn; unfold maxLen; omega) (h.later hb).arena (by unfold maxLen; omega) hx hg hc)
  have HFK := Lib.hid (fun wx (hb : Below w.heap.size w wx) hE => faintKept_any A F P n c nf cf np cp zs fr ps wx (h.later hb) hnf (hp.later hb) hE)
  have HPR := Lib.hid (fun wx (hb : Below w.heap.size w wx) => (hp.later hb).row)
  have HBA := Lib.hid (bad_all (zs := zs) (fr := fr) (ps := ps))
  have HWP := Lib.hid hp.wf
  clear hK hC h hnf hp
  unfold FKeepP at HKE
  unfold FClearP at HCL
  unfold AddP at HFK
  rw [HPL.out] at HBA
  go_enter Try.func3, Try.ntmps3
  go_wp2_with fail
  refine (HKE.out w (Below.refl _ _)).mono ?_
  rintro e w1 ⟨K, m, d, rfl, b1, _, hK1⟩
  have HB1 := Lib.hid b1
  have HK1 := Lib.hid hK1
  clear b1 hK1 HKE
  go_wp2_with fail
  refine (HCL.out w1 HB1.out).mono ?_
  rintro e w2 ⟨M, mm, md, rfl, b2, _, hM2⟩
  have HB2 := Lib.hid (bthen HB1.out b2)
  have HK2 := Lib.hid (HK1.out.later b2)
  have HM2 := Lib.hid hM2
  clear b2 hM2 HB1 HK1 HCL
  have ba := (Below.refl _ w2).alloc (Nat.le_refl _) (.cells #[.slice F nf cf] 23)
  have bx := Box.new w2 23 #[.slice F nf cf]
  have HQ := Lib.hid (HFF.out _ (bthen HB2.out ba) w2.heap.size bx.lt (bx.cell 0))
  have HBA2 := Lib.hid ba
  clear ba bx HFF
  go_wp2_with fail
  refine HQ.out.mono ?_
  rintro e w3 ⟨rfl, b3⟩
  have b23 := bthen HBA2.out b3
  have HB3 := Lib.hid (bthen HB2.out b23)
  have HK3 := Lib.hid (HK2.out.later b23)
  have HM3 := Lib.hid (show ArrG runC 2 w3 w3.heap.size M mm (clearO zs fr ps) from (HM2.out.below b23 (Nat.le_refl _)).more b23.size)
  clear b23 b3 HB2 HK2 HM2 HQ HBA2
  obtain ⟨E0, hE0⟩ : ∃ E0, fromE zs fr = E0 := ⟨_, rfl⟩
  obtain ⟨E1, hE1⟩ : ∃ E1, headE zs fr np = E1 := ⟨_, rfl⟩
  obtain ⟨FE, hFE⟩ : ∃ FE, faintE zs fr ps = FE := ⟨_, rfl⟩
  rw [hE1, hFE] at HBA
  rw [hE0, hFE]
  have HH : Hid (E1 = if E0 = 0 ∧ 32 < np then 2 else E0) := by show _ = _; rw [← hE1, ← hE0]; rfl
  have HFE := Lib.hid hFE
  clear hE0 hE1 hFE
  obtain ⟨CC, hCC⟩ : ∃ CC, (decide (E0 = 0) && decide (32 < np)) = CC := ⟨_, rfl⟩
  have HCC := Lib.hid hCC
  clear hCC
  go_upto_region 4 with fail
  go_cut [42] (fun s wx => s = .bool CC ∧ w3 = wx)
  case first =>
    by_cases h0 : E0 = 0
    · have hb : (E0 == 0) = true := by simpa using h0
      have HF : Hid (CC = decide (32 < np)) := by show _ = _; rw [← HCC.out]; simp [h0]
      clear h0
      go_wp2
      go_meet
      exact ⟨by rw [HF.out]; congr 1; simp; omega, rfl⟩
    · have hb : (E0 == 0) = false := by simpa using h0
      have HF : Hid (CC = false) := by show _ = _; rw [← HCC.out]; simp [h0]
      clear h0
      go_wp2
      go_meet
      exact ⟨by rw [HF.out], rfl⟩
  case rest =>
    obtain ⟨rfl, rfl⟩ := hcut
    go_upto_if 42 with fail
    go_cut [11] (fun s wx => s = .int .i64 E1 ∧ w3 = wx)
    case first =>
      rcases (by cases CC <;> simp : CC = false ∨ CC = true) with rfl | rfl
      · have HF : Hid (E1 = E0) := by
          have h1 := HCC.out
          show _ = _
          rw [HH.out, if_neg (by rintro ⟨h2, h3⟩; simp [h2, h3] at h1)]
        go_wp2
        go_meet
        exact ⟨by rw [HF.out], rfl⟩
      · have HF : Hid (E1 = 2) := by
          have h1 := HCC.out
          simp at h1
          show _ = _
          rw [HH.out, if_pos h1]
        go_wp2
        go_meet
        exact ⟨by rw [HF.out], rfl⟩
    case rest =>
      obtain ⟨rfl, rfl⟩ := hcut
      clear HH HCC
      go_wp2_with fail
      go_loopw [11, 45] (fun v i wr => ∃ k : Nat, k ≤ np ∧ i = .int .i64 k ∧ v = .int .i64 (badT zs E1 ps k) ∧ Hid (Below w3.heap.size w3 wr)) (fun _ i _ => np - (intOf i).toNat)
      case atStart => exact ⟨0, Nat.zero_le _, rfl, rfl, Below.refl _ _⟩
      case round =>
        obtain ⟨k, hk, rfl, rfl, HB⟩ := hrel
        by_cases hkl : k < np
        · have hm : nthG ps k ∈ ps := by rw [nthG_get _ _ (by have := HPL.out; omega)]; exact List.getElem_mem _
          obtain ⟨b, off, rfl, _, hc0, hc1⟩ := (HPR.out wr (bthen HB3.out HB.out)).run hkl
          obtain ⟨hwu, hwv⟩ := HWP.out _ hm
          have HY := Lib.hid (fun h => badT_yes (zs := zs) (E := E1) (ps := ps) (k := k) h)
          have HN := Lib.hid (fun h => badT_no (zs := zs) (E := E1) (ps := ps) (k := k) h)
          clear hm
          generalize (nthG ps k).1 = U at *
          generalize (nthG ps k).2 = V at *
          obtain ⟨T, hT⟩ : ∃ T, badT zs E1 ps k = T := ⟨_, rfl⟩
          rw [hT] at HY HN ⊢
          clear hT
          have b4 := (Below.refl _ wr).alloc (Nat.le_refl _) (.cells #[.int .i64 U, .int .i64 V] 32)
          have HB4 := Lib.hid (bthen HB.out b4)
          by_cases hT0 : T = 0
          · subst hT0
            have x4 := Box.new wr 32 #[.int .i64 U, .int .i64 V]
            have d0 := x4.cell 0
            have d1 := x4.cell 1
            have b5 := (Below.refl _ (wr.alloc (.cells #[.int .i64 U, .int .i64 V] 32))).alloc (Nat.le_refl _) (.cells #[.int .i64 U, .int .i64 V] 3)
            have hW : Whole .i64 3 ((wr.alloc (.cells #[.int .i64 U, .int .i64 V] 32)).alloc (.cells #[.int .i64 U, .int .i64 V] 3)) (wr.heap.size + 1) [U, V] := whole_at .i64 3 (w := wr.alloc (.cells #[.int .i64 U, .int .i64 V] 32)) [U, V] (by simpa using ⟨hwu, hwv⟩) (by simp)
            have b6 := (Below.refl _ ((wr.alloc (.cells #[.int .i64 U, .int .i64 V] 32)).alloc (.cells #[.int .i64 U, .int .i64 V] 3))).alloc (Nat.le_refl _) (.cells #[.slice (some ⟨wr.heap.size + 1, 0, none⟩) 2 2] 23)
            have x6 := Box.new ((wr.alloc (.cells #[.int .i64 U, .int .i64 V] 32)).alloc (.cells #[.int .i64 U, .int .i64 V] 3)) 23 #[.slice (some ⟨wr.heap.size + 1, 0, none⟩) 2 2]
            have b46 := bthen (bthen b4 b5) b6
            have hW6 := hW.below b6 hW.lt
            have HQ := Lib.hid (HF2.out _ (bthen HB3.out (bthen HB.out b46)) _ x6.lt (some ⟨wr.heap.size + 1, 0, none⟩) [U, V] (hW6.arr hW6.lt) (x6.cell 0))
            rw [← HY.out rfl] at HQ
            have HB6 := Lib.hid (bthen HB.out b46)
            have hs5 : ((wr.alloc (.cells #[.int .i64 U, .int .i64 V] 32)).alloc (.cells #[.int .i64 U, .int .i64 V] 3)).heap.size = wr.heap.size + 2 := by simp
            rw [hs5] at HQ
            clear b4 b5 b6 b46 hW hW6 x4 x6 hwu hwv HY HN HB4 hs5
            go_wp2_with fail
            refine HQ.out.mono ?_
            rintro e w7 ⟨rfl, b7⟩
            have HB7 := Lib.hid (bthen HB6.out b7)
            clear b7 HQ HB6 hc0 hc1
            go_wp2
            go_roundw
            case rel => exact ⟨k + 1, by omega, by go_num, rfl, HB7⟩
            case measure => simp [intOf]; omega
          · have hb : (T == 0) = false := by simpa using hT0
            have HE : Hid (badT zs E1 ps (k + 1) = T) := HN.out hT0
            clear hT0 HY HN hwu hwv b4
            go_wp2
            go_roundw
            case rel => exact ⟨k + 1, by omega, by go_num, by rw [HE.out], HB4⟩
            case measure => simp [intOf]; omega
        · obtain rfl : np = k := by omega
          rw [HBA.out]
          have HBX := Lib.hid (bthen HB3.out HB.out)
          by_cases hF : FE = 0
          · subst hF
            obtain ⟨h0, h32, _⟩ := faintE_zero HFE.out
            have HN32 : Hid (np ≤ 32) := by show _ ≤ _; rw [← HPL.out]; exact h32
            have HAR := Lib.hid (arena_len (fromE_zero h0).1)
            have hk0 := HK3.out.later HB.out
            rw [faintO_ok HFE.out] at hk0
            have hm0 : ArrG runC 2 wr wr.heap.size M mm (clearO zs fr ps) := (HM3.out.below HB.out (Nat.le_refl _)).more HB.out.size
            rw [clearO_ok HFE.out] at hm0
            have HQ := Lib.hid (HFK.out wr HBX.out HFE.out)
            have HK4 := Lib.hid hk0
            have HM4 := Lib.hid hm0
            clear hk0 hm0 HK3 HM3 HFK HB HB3 HF2 h0 h32
            generalize wr = W4 at *
            go_wp2_with fail
            refine HQ.out.mono ?_
            rintro e w5 ⟨A5, c5, rfl, b5, hA5⟩
            have HB5 := Lib.hid (bthen HBX.out b5)
            have HK5 := Lib.hid (HK4.out.later b5)
            have HM5 := Lib.hid (show ArrG runC 2 w5 w5.heap.size M mm (clearL zs fr ps) from (HM4.out.below b5 (Nat.le_refl _)).more b5.size)
            have HA5 := Lib.hid hA5
            clear b5 hA5 HQ HK4 HM4 HBX
            have hmq : m = (faintL zs fr ps).length := HK5.out.1.symm
            rw [← hmq] at HA5 ⊢
            clear hmq
            go_wp2_with fail
            go_loopw [15, 86] (fun v i wr => ∃ k : Nat, k ≤ np ∧ i = .int .i64 k ∧ Hid (OwnG runC 2 32 wr w5.heap.size v (clearTo (faintL zs fr ps) ps k)) ∧ Hid (Below w5.heap.size w5 wr)) (fun _ i _ => np - (intOf i).toNat)
            case atStart => exact ⟨0, Nat.zero_le _, rfl, OwnG.nil, Below.refl _ _⟩
            case round =>
              obtain ⟨k, hk, rfl, HO, HB⟩ := hrel
              have hn32 := HN32.out
              by_cases hkl : k < np
              · have hkp : k < ps.length := by have := HPL.out; omega
                obtain ⟨b, off, hP, _, hc0, hc1⟩ := (HPR.out wr (bthen HB5.out HB.out)).run hkl
                subst hP
                have b4 := (Below.refl _ wr).alloc (Nat.le_refl _) (.cells #[.int .i64 (nthG ps k).1, .int .i64 (nthG ps k).2] 32)
                have HB4 := Lib.hid (bthen HB.out b4)
                have HO4 := Lib.hid (HO.out.below b4)
                have hm256 : m ≤ 256 := by rw [← HK5.out.1]; exact faintL_len HAR.out
                have HIN := Lib.hid (in_ref A5 m c5 _ (nthG ps k).1 (faintL zs fr ps) _ (by unfold maxLen; omega) (HA5.out.later HB4.out))
                by_cases hin : (nthG ps k).1 ∈ faintL zs fr ps
                · rw [show decide ((nthG ps k).1 ∈ faintL zs fr ps) = true by simpa using hin] at HIN
                  have hcl : (clearTo (faintL zs fr ps) ps k).length ≤ ps.length := clearTo_len
                  obtain ⟨v', w', hrun, hO', hB'⟩ := HO4.out.push (P := Try.prog) (t := 24) (ty := 24) runC_len runC_one (by omega) Try.underlying24 faint_info rfl (by omega) (nthG ps k) (by have := HPL.out; omega) HB4.out.size
                  rw [← clearTo_more hkp hin] at hO'
                  have HO6 := Lib.hid hO'
                  have HB6 := Lib.hid (HB4.out.trans hB')
                  have hs4 : (wr.alloc (.cells #[.int .i64 (nthG ps k).1, .int .i64 (nthG ps k).2] 32)).heap.size = wr.heap.size + 1 := by simp
                  rw [hs4] at hrun
                  have HR := Lib.hid hrun
                  clear hs4
                  have x4 := Box.new wr 32 #[.int .i64 (nthG ps k).1, .int .i64 (nthG ps k).2]
                  have d0 := x4.cell 0
                  have d1 := x4.cell 1
                  clear hin b4 HO hkp hO' hB' hrun hcl HO4 HB4 x4
                  unfold runC at HR
                  generalize (nthG ps k).1 = U at *
                  generalize (nthG ps k).2 = V at *
                  go_wp2_with fail
                  refine HIN.out.mono ?_
                  rintro e w6 ⟨rfl, rfl⟩
                  go_wp2_with (at_builtin; refine wpList_append_run rfl (.tmp 94) (.tmp 96) 24 rfl rfl rfl HR.out ?_)
                  go_roundw
                  case rel => exact ⟨k + 1, by omega, by go_num, HO6, HB6⟩
                  case measure => simp [intOf]; omega
                · rw [show decide ((nthG ps k).1 ∈ faintL zs fr ps) = false by simpa using hin] at HIN
                  rw [← clearTo_skip hkp hin] at HO4
                  have x4 := Box.new wr 32 #[.int .i64 (nthG ps k).1, .int .i64 (nthG ps k).2]
                  have d0 := x4.cell 0
                  clear hin b4 HO hkp x4
                  generalize (nthG ps k).1 = U at *
                  generalize (nthG ps k).2 = V at *
                  go_wp2_with fail
                  refine HIN.out.mono ?_
                  rintro e w6 ⟨rfl, rfl⟩
                  go_wp2
                  go_roundw
                  case rel => exact ⟨k + 1, by omega, by go_num, HO4, HB4⟩
                  case measure => simp [intOf]; omega
              · obtain rfl : np = k := by omega
                have hO := HO.out
                rw [← HPL.out, clearTo_all] at hO
                obtain ⟨L', lc, hv, _, hL⟩ := hO.arr runC_len
                subst hv
                have hmm : mm = (clearL zs fr ps).length := HM5.out.1.symm
                rw [← hmm] at hL ⊢
                have HL := Lib.hid hL
                have hm256 : m ≤ 256 := by rw [← HK5.out.1]; exact faintL_len HAR.out
                have hmm32 : mm ≤ 32 := by rw [hmm]; exact Nat.le_trans clearL_len (by have := HPL.out; omega)
                have HE := Lib.hid (equalInts K A5 m m d c5 _ _ _ wr (HK5.out.later HB.out) (HA5.out.later HB.out) (by unfold maxLen; omega) (by unfold maxLen; omega))
                rw [show decide (faintL zs fr ps = faintL zs fr ps) = true by simp] at HE
                have HM6 := Lib.hid (show ArrG runC 2 wr wr.heap.size M mm (clearL zs fr ps) from (HM5.out.below HB.out (Nat.le_refl _)).more HB.out.size)
                have HBZ := Lib.hid (bthen HB5.out HB.out)
                clear hO hL hmm HO HK5 HA5 HM5 HB HB5
                go_wp2_with fail
                refine HE.out.mono ?_
                rintro e w6 ⟨rfl, q6, rfl⟩
                have HS := Lib.hid (sameFaint_any M L' mm md lc _ _ (wr.drewN q6) (by unfold maxLen; omega) (ArrG.drewN HM6.out q6) (ArrG.drewN HL.out q6))
                go_wp2_with fail
                refine HS.out.mono ?_
                rintro e w7 ⟨rfl, q7, rfl⟩
                go_wp2
                go_ret
                exact ⟨rfl, below_drewN HBZ.out _⟩
          · have hb : (FE != 0) = true := by simpa using hF
            have hb2 : (FE == FE) = true := by simp
            have hk0 := HK3.out
            rw [faintO_bad (by rw [HFE.out]; exact hF)] at hk0
            have hm0 := HM3.out.1
            rw [clearO_bad (by rw [HFE.out]; exact hF)] at hm0
            obtain rfl : m = 0 := hk0.1.symm
            obtain rfl : mm = 0 := hm0.symm
            clear hk0 hm0 hF HK3 HM3
            go_wp2
            go_ret
            exact ⟨rfl, HBX.out⟩
end Go.Proofs.Ytdglnbcliemafaa
