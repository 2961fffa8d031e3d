/-
  The walk of SameBuilds, given what Build answers.
-/
import Derived.Test.YtjefbekdjgmmbaaSameN
import Derived.Test.YtjefbekdjgmmbaaRefLaid
import Derived.Test.YtjefbekdjgmmbaaRefT
import Derived.Test.YtjefbekdjgmmbaaRef
import Derived.Test.YtjefbekdjgmmbaaSameJ
namespace Go.Proofs.Ytjefbekdjgmmbaa
open Go.RowKit

/-- The error so far. -/
def curE (os : List Ob) (ps : List Int) (n : Int) (j : Nat) : Int := if layErr os n ≠ 0 then layErr os n else if (ps.take j).all (atB os) = true then 0 else 5
section
variable {os : List Ob} {ps : List Int} {n : Int} {j : Nat}
theorem curE_zero : curE os ps n 0 = layErr os n := by
  unfold curE
  by_cases h : layErr os n = 0
  · rw [if_neg (by simp [h]), if_pos (by simp), h]
  · rw [if_pos h]
theorem curE_all (h : ps.length = j) : curE os ps n j = bldE os ps n := by unfold curE bldE; rw [List.take_of_length_le (by omega)]
theorem curE_ok (h : curE os ps n j = 0) : layErr os n = 0 ∧ (ps.take j).all (atB os) = true := by
  unfold curE at h
  split at h
  · rename_i h0; exact absurd h h0
  · rename_i h0
    split at h
    · rename_i h1; exact ⟨by simpa using h0, h1⟩
    · omega
theorem takeAll_next (hj : j < ps.length) : (ps.take (j + 1)).all (atB os) = ((ps.take j).all (atB os) && atB os (nth ps j)) := by
  rw [List.take_succ_eq_append_getElem hj, List.all_append, nth_get _ _ hj]
  simp
theorem curE_bad (hj : j < ps.length) (h : curE os ps n j ≠ 0) : curE os ps n (j + 1) = curE os ps n j := by
  by_cases h0 : layErr os n = 0
  · have e : ∀ j, curE os ps n j = if (ps.take j).all (atB os) = true then 0 else 5 := fun j => if_neg (by simp [h0])
    rw [e] at h
    have h1 : (ps.take j).all (atB os) = false := by
      cases h1 : (ps.take j).all (atB os)
      · rfl
      · rw [if_pos h1] at h; exact absurd rfl h
    rw [e, e, takeAll_next hj, h1]
    rfl
  · have e : ∀ j, curE os ps n j = layErr os n := fun j => if_pos h0
    rw [e, e]
theorem curE_none (hj : j < ps.length) (h : curE os ps n j = 0) (h1 : atB os (nth ps j) = false) : curE os ps n (j + 1) = 5 := by
  obtain ⟨h2, h3⟩ := curE_ok h
  unfold curE
  rw [if_neg (by simp [h2]), takeAll_next hj, h1]
  simp
theorem curE_next (hj : j < ps.length) (h : curE os ps n j = 0) (h1 : atB os (nth ps j) = true) : curE os ps n (j + 1) = 0 := by
  obtain ⟨h2, h3⟩ := curE_ok h
  unfold curE
  rw [if_neg (by simp [h2]), takeAll_next hj, h1, h3]
  simp
theorem lay_long {n : Int} (h : layErr os n = 0) : 0 ≤ n ∧ n ≤ 256 ∧ offs os os.length ≤ 256 ∧ ∀ j, j < os.length → oFault (nthG os j) = 0 := by
  have h0 : ¬ (n < 0 ∨ 256 < n) := fun h1 => by rw [layErr_range h1] at h; cases h
  obtain ⟨q, rfl⟩ := Int.eq_ofNat_of_zero_le (show 0 ≤ n by omega)
  have hp : pErr os q = 0 := by
    by_cases hp : pErr os q = 0
    · exact hp
    · rw [layErr_place (by omega) hp] at h; exact absurd h hp
  obtain ⟨h1, h2⟩ := pErr_zero hp
  exact ⟨by omega, by omega, by omega, fault_zero h1⟩
theorem lay_len {n : Int} (h : layErr os n = 0) : (layWords os n.toNat).length ≤ maxLen := by
  obtain ⟨h0, h1, h2, _⟩ := lay_long h
  obtain ⟨q, rfl⟩ := Int.eq_ofNat_of_zero_le h0
  unfold layWords layObs
  rw [flat_words_len, List.map_append, List.sum_append]
  have e1 : (os.map oLong).sum = offs os os.length := by unfold offs; rw [List.take_length]
  have e2 : ((restObs ((q : Int).toNat - offs os os.length)).map oLong).sum ≤ 257 := by
    unfold restObs
    split
    · simp
    · simp [oLong]; omega
  rw [e1]
  simp only [Int.toNat_natCast] at e2 ⊢
  unfold maxLen
  omega
theorem len_pow {k : Nat} (h : k * 8 ≤ 140737488355328) : k ≤ maxLen := by unfold maxLen; omega
end

/-- What holds while the law goes over the places. -/
structure SbI (os : List Ob) (ps : List Int) (n : Int) (w : World) (base : Nat) (j : Nat) (L : List Int) (v : Value) (wr : World) : Prop where
  own : Own .i64 3 wr base v L
  len : L.length = j
  are : curE os ps n j = 0 → L = (ps.take j).map fun x => (offs os x.toNat : Int)
  below : Below base w wr

set_option maxRecDepth 16000 in
set_option maxHeartbeats 8000000 in
theorem sameBuilds_of (hB : BuildC) (D F : Option Addr) (m c k d : Nat) (raws : List Raw) (os : List Ob) (ps : List Int) (n : Int) (w : World) (h : FormIn w D m c F k d raws os ps) (hn : (Lit.int .i64 n).wf = true) :
    Calls Try.prog 4 #[.agg #[.slice D m c, .slice F k d], .int .i64 n] w fun e w' => e = .returned (.bool true) ∧ Below w.heap.size w w' := by
  have bf := (Below.refl _ w).alloc (Nat.le_refl _) (.cells #[.slice D m c, .slice F k d] 26)
  have BX := Lib.hid (Box.new w 26 #[.slice D m c, .slice F k d])
  have HI := Lib.hid (h.later bf)
  have HB0 := Lib.hid bf
  have HQ := Lib.hid (hB D F m c k d raws os ps n _ HI.out hn)
  unfold BuildP at HQ
  clear bf h hB hn
  have y0 : (w.alloc (.cells #[.slice D m c, .slice F k d] 26)).cell? ⟨w.heap.size, 0, none⟩ = some (.slice D m c) := BX.out.cell 0
  have y1 : (w.alloc (.cells #[.slice D m c, .slice F k d] 26)).cell? ⟨w.heap.size, 1, none⟩ = some (.slice F k d) := BX.out.cell 1
  go_enter Try.func4, Try.ntmps4
  go_wp2_with fail
  refine HQ.out.mono ?_
  rintro e w1 ⟨B, bm, bc, G, gk, gd, rfl, b1, hbm, hgk, hA, hG⟩
  have HB1 := Lib.hid (bthen HB0.out b1)
  have HI1 := Lib.hid (HI.out.later b1)
  have HX1 := Lib.hid (BX.out.below b1 BX.out.lt)
  have HA1 := Lib.hid hA
  have HG1 := Lib.hid hG
  have x0 : w1.cell? ⟨w.heap.size, 0, none⟩ = some (.slice D m c) := HX1.out.cell 0
  have x1 : w1.cell? ⟨w.heap.size, 1, none⟩ = some (.slice F k d) := HX1.out.cell 1
  clear b1 hA hG HQ HI BX HB0 y0 y1
  by_cases hbig : 60 < m
  · have hbig' : (60 : Int) < m := by omega
    generalize bldE os ps n = E at *
    go_wp2
    go_ret
    exact ⟨rfl, HB1.out⟩
  have hbig' : ¬ (60 : Int) < m := by omega
  have HL := Lib.hid (Laid_any D m c w1.heap.size 0 n raws os w1 (by omega) (Nat.le_refl _) HI1.out.objs HI1.out.lens)
  unfold LayP at HL
  obtain ⟨BE, hBE⟩ : ∃ E, bldE os ps n = E := ⟨_, rfl⟩
  have HBE := Lib.hid hBE
  rw [hBE]
  clear hBE
  go_wp2_with fail
  refine HL.out.mono ?_
  rintro e w2 ⟨b2, A2, k2, c2, rfl, hc2, h2⟩
  have HB2 := Lib.hid (bthen HB1.out b2)
  have HI2 := Lib.hid (HI1.out.later b2)
  have HX2 := Lib.hid (HX1.out.below b2 HX1.out.lt)
  have HA2 := Lib.hid (HA1.out.later b2)
  have HG2 := Lib.hid (HG1.out.later b2)
  have HL2 := Lib.hid h2
  have z1 : w2.cell? ⟨w.heap.size, 1, none⟩ = some (.slice F k d) := HX2.out.cell 1
  have hkz := HI2.out.kz
  clear b2 h2 HL HB1 HI1 HX1 HA1 HG1 x0 x1
  obtain ⟨LE, hLE⟩ : ∃ E, layErr os n = E := ⟨_, rfl⟩
  have HLE := Lib.hid hLE
  rw [hLE]
  clear hLE
  go_wp2_with fail
  clear z1
  generalize w2 = W2 at *
  go_loopw [9, 10, 36] (fun e v i wr => ∃ (j : Nat) (L : List Int), j ≤ k ∧ i = .int .i64 j ∧ e = .int .i64 (curE os ps n j) ∧ Hid (SbI os ps n W2 W2.heap.size j L v wr)) (fun _ _ i _ => k - (intOf i).toNat)
  case atStart => exact ⟨0, [], Nat.zero_le _, rfl, by rw [curE_zero, HLE.out], ⟨Own.nil, rfl, fun _ => rfl, Below.refl _ _⟩⟩
  case round =>
    obtain ⟨j, L, hj, rfl, rfl, hJ⟩ := hrel
    have hpl := HI2.out.places.1
    have bx := HX2.out.below hJ.out.below HX2.out.lt
    by_cases hlt : j < k
    · obtain ⟨b, off, rfl, _, hcs⟩ := (HI2.out.places.below hJ.out.below (Nat.le_refl _)).2.2 (by omega)
      have hc := hcs j hlt
      have z0 : wr.cell? ⟨w.heap.size, 0, none⟩ = some (.slice D m c) := bx.cell 0
      have hLl := hJ.out.len
      have hsz := hJ.out.below.size
      have hE := curE_bad (os := os) (ps := ps) (n := n) (j := j) (by omega)
      clear hcs bx
      by_cases hE0 : curE os ps n j = 0
      · rw [hE0]
        obtain ⟨hl0, _⟩ := curE_ok hE0
        obtain ⟨_, _, hof, hff⟩ := lay_long hl0
        have hmo : os.length = m := HI2.out.objs.1
        have HE5 := Lib.hid fun h1 => curE_none (os := os) (ps := ps) (n := n) (j := j) (by omega) hE0 h1
        have HEN := Lib.hid fun h1 => curE_next (os := os) (ps := ps) (n := n) (j := j) (by omega) hE0 h1
        obtain ⟨X, hX⟩ : ∃ X, nth ps j = X := ⟨_, rfl⟩
        have HX := Lib.hid hX
        rw [hX] at hc HE5 HEN
        clear hX hE
        by_cases hX0 : X < 0
        · have HN : Hid (curE os ps n (j + 1) = 5) := HE5.out (by unfold atB; rw [decide_eq_false (by omega)]; rfl)
          have hEb : ((5 : Int) == 0) = false := rfl
          have hEn : (5 : Int) ≠ 0 := by decide
          clear HE5 HEN
          go_wp2_with fail
          clear z0 hc
          generalize wr = WR at *
          go_loopw [13, 14] (fun a i wr' => a = .int .i64 0 ∧ i = .int .i64 0 ∧ wr' = WR) (fun _ _ _ => 0)
          case atStart => exact ⟨rfl, rfl, rfl⟩
          case round =>
            obtain ⟨rfl, rfl, rfl⟩ := hrel
            obtain ⟨v', w5, hrun, hO', hG'⟩ := hJ.out.own.pushGB (P := Try.prog) (t := 23) (ty := 23) Try.underlying23 intI_info (x := 0) (by decide) (by omega) hsz
            have HR := Lib.hid hrun
            have HNX : Hid (SbI os ps n W2 W2.heap.size (j + 1) (L ++ [0]) v' w5) := ⟨hO', by rw [List.length_append, hLl]; rfl, fun h => absurd (HN.out.symm.trans h) hEn, hJ.out.below.trans (hG'.below hsz hJ.out.own.row)⟩
            clear hrun hO' hG' hJ
            go_wp2_with (at_builtin; refine wpList_append_run rfl (.tmp 79) (.tmp 81) 23 rfl rfl rfl HR.out ?_)
            go_roundw
            case rel => exact ⟨j + 1, _, by omega, by go_num, by rw [HN.out], HNX.out⟩
            case measure => simp [intOf]; omega
        by_cases hXm : (m : Int) ≤ X
        · have HN : Hid (curE os ps n (j + 1) = 5) := HE5.out (by unfold atB; rw [decide_eq_false (by omega : ¬ X < (os.length : Int))]; simp)
          have hEb : ((5 : Int) == 0) = false := rfl
          have hEn : (5 : Int) ≠ 0 := by decide
          clear HE5 HEN
          go_wp2_with fail
          clear z0 hc
          generalize wr = WR at *
          go_loopw [13, 14] (fun a i wr' => a = .int .i64 0 ∧ i = .int .i64 0 ∧ wr' = WR) (fun _ _ _ => 0)
          case atStart => exact ⟨rfl, rfl, rfl⟩
          case round =>
            obtain ⟨rfl, rfl, rfl⟩ := hrel
            obtain ⟨v', w5, hrun, hO', hG'⟩ := hJ.out.own.pushGB (P := Try.prog) (t := 23) (ty := 23) Try.underlying23 intI_info (x := 0) (by decide) (by omega) hsz
            have HR := Lib.hid hrun
            have HNX : Hid (SbI os ps n W2 W2.heap.size (j + 1) (L ++ [0]) v' w5) := ⟨hO', by rw [List.length_append, hLl]; rfl, fun h => absurd (HN.out.symm.trans h) hEn, hJ.out.below.trans (hG'.below hsz hJ.out.own.row)⟩
            clear hrun hO' hG' hJ
            go_wp2_with (at_builtin; refine wpList_append_run rfl (.tmp 79) (.tmp 81) 23 rfl rfl rfl HR.out ?_)
            go_roundw
            case rel => exact ⟨j + 1, _, by omega, by go_num, by rw [HN.out], HNX.out⟩
            case measure => simp [intOf]; omega
        obtain ⟨x, rfl⟩ := Int.eq_ofNat_of_zero_le (show 0 ≤ X by omega)
        have hxm : x < m := by omega
        obtain ⟨b2, off2, rfl, _, q0, q1, q2, q3⟩ := (HI2.out.objs.2.1.below hJ.out.below (Nat.le_refl _)).raw hxm
        have hVx := HI2.out.objs.2.2 x hxm
        have hfr : (nthG raws x).f = (nthG os x).2.2.2 := hVx.free
        have hatB : atB os (x : Int) = !(nthG os x).2.2.2 := by
          unfold atB
          rw [decide_eq_true (by omega : (0 : Int) ≤ x), decide_eq_true (by omega : (x : Int) < os.length), Int.toNat_natCast]
          rfl
        rw [hatB] at HE5 HEN
        rw [hfr] at q3
        clear hVx hfr hatB q0 q1 q2
        cases hfx : (nthG os x).2.2.2
        · rw [hfx] at q3
          have HN : Hid (curE os ps n (j + 1) = 0) := HEN.out (by rw [hfx]; rfl)
          have HFF := Lib.hid hff
          have HAR := Lib.hid (hJ.out.are hE0)
          have HTK : Hid (ps.take (j + 1) = ps.take j ++ [(x : Int)]) := by
            show _ = _
            rw [List.take_succ_eq_append_getElem (by omega), ← nth_get _ _ (by omega), HX.out]
          have c0 : ((0 : Int) == 0) = true := rfl
          have hx0 : ¬ (x : Int) < 0 := by omega
          clear HE5 HEN hfx hff hX0
          go_wp2_with fail
          clear z0 hc q3
          generalize wr = WR at *
          go_loopw [13, 14] (fun a i wr' => ∃ q : Nat, q ≤ x ∧ i = .int .i64 q ∧ a = .int .i64 (offs os q) ∧ Hid (Below WR.heap.size WR wr')) (fun _ i _ => x - (intOf i).toNat)
          case atStart => exact ⟨0, Nat.zero_le _, rfl, rfl, Below.refl _ _⟩
          case round =>
            obtain ⟨q, hq, rfl, rfl, hW⟩ := hrel
            have hBW := hJ.out.below.trans (hW.out.mono hsz)
            have hoq : offs os q ≤ 256 := Nat.le_trans (offs_mono (os := os) (i := q) (j := os.length) (by omega) (Nat.le_refl _)) hof
            by_cases hqx : q < x
            · obtain ⟨b3, off3, e3, _, q0, q1, q2, q3⟩ := (HI2.out.objs.2.1.below hBW (Nat.le_refl _)).raw (show q < m by omega)
              injection e3 with e3
              injection e3 with e4 e5
              subst e4 e5
              have hVq := HI2.out.objs.2.2 q (by omega)
              have hfl : oFault (nthG os q) = hFault (nthG raws q).rn (nthG raws q).bn (nthG raws q).t (nthG raws q).f := by unfold oFault; rw [hVq.tag, hVq.free, ← hVq.refs.1, ← hVq.body.1]
              have hlg : oLong (nthG os q) = 1 + (nthG raws q).rn + (nthG raws q).bn := by unfold oLong; rw [← hVq.refs.1, ← hVq.body.1]
              have hz := (HFF.out q (by omega)).symm.trans hfl
              have hstep := offs_step (os := os) (k := q) (by omega)
              rw [hlg] at hstep
              have hls := HI2.out.lens q (by omega)
              have HH := Lib.hid (fun wx => headOf_any (nthG raws q) wx hls.1 hls.2)
              have z0 : wr.cell? ⟨w.heap.size, 0, none⟩ = some (.slice (some ⟨b2, off2, none⟩) m c) := (HX2.out.below hBW HX2.out.lt).cell 0
              clear hfl hlg hVq hls
              generalize nthG raws q = r at *
              obtain ⟨t, ra, rn, rc, ba, bn, bc, f⟩ := r
              simp only at q0 q1 q2 q3 HH hstep hz
              obtain ⟨f1, f2, f3, f4, f5, f6⟩ := hFault_ok hz.symm
              have HLo := Lib.hid (fun wx => headLong_any rn bn t f wx (by omega) (by omega) (by omega) (by omega))
              have hstep' : ((offs os (q + 1) : Nat) : Int) = (offs os q : Int) + (1 + rn + bn) := by rw [hstep]; omega
              have HST := Lib.hid hstep'
              have hrb : rn + bn ≤ 255 := by omega
              clear hstep hstep' hz f3 f4 f6 hBW
              obtain ⟨a0, ha0⟩ : ∃ a, offs os q = a := ⟨_, rfl⟩
              rw [ha0] at HST hoq ⊢
              clear ha0
              go_wp2_with fail
              refine (HH.out _).mono ?_
              rintro e w3 ⟨rfl, b3⟩
              have HW3 := Lib.hid (hW.out.trans (b3.mono hW.out.size))
              clear b3 z0 q0 q1 q2 q3
              go_wp2_with fail
              refine (HLo.out _).mono ?_
              rintro e w4 ⟨rfl, b4⟩
              have HW4 := Lib.hid (HW3.out.trans (b4.mono HW3.out.size))
              have e1 : IntKind.i64.wrap ((a0 : Int) + (1 + rn + bn)) = (a0 : Int) + (1 + rn + bn) := IntWalk.i64_in _ (by omega)
              clear b4
              go_wp2
              go_roundw
              case rel => exact ⟨q + 1, by omega, by go_num, by rw [HST.out], HW4.out⟩
              case measure => simp [intOf]; omega
            · obtain rfl : q = x := by omega
              have hqx' : ¬ (q : Int) < q := by omega
              have HIJ := Lib.hid (hJ.out.own.below hW.out)
              have HBJ := Lib.hid hBW
              clear hBW hJ
              obtain ⟨v', w5, hrun, hO', hG'⟩ := HIJ.out.pushGB (P := Try.prog) (t := 23) (ty := 23) Try.underlying23 intI_info (x := (offs os q : Int)) (wf_i64.2 (by omega)) (by omega) HBJ.out.size
              have HR := Lib.hid hrun
              have HNX : Hid (SbI os ps n W2 W2.heap.size (j + 1) (L ++ [(offs os q : Int)]) v' w5) := ⟨hO', by rw [List.length_append, hLl]; rfl, fun _ => by rw [HTK.out, List.map_append, HAR.out]; rfl, HBJ.out.trans (hG'.below HBJ.out.size HIJ.out.row)⟩
              clear hrun hO' hG' HIJ HBJ HAR HTK
              obtain ⟨a0, ha0⟩ : ∃ a, offs os q = a := ⟨_, rfl⟩
              rw [ha0] at HR HNX ⊢
              clear ha0
              go_wp2_with (at_builtin; refine wpList_append_run rfl (.tmp 79) (.tmp 81) 23 rfl rfl rfl HR.out ?_)
              go_roundw
              case rel => exact ⟨j + 1, _, by omega, by go_num, by rw [HN.out], HNX.out⟩
              case measure => simp [intOf]; omega
        · rw [hfx] at q3
          have HN : Hid (curE os ps n (j + 1) = 5) := HE5.out (by rw [hfx]; rfl)
          have hEb : ((5 : Int) == 0) = false := rfl
          have hEn : (5 : Int) ≠ 0 := by decide
          clear HE5 HEN hfx
          go_wp2_with fail
          clear z0 hc
          generalize wr = WR at *
          go_loopw [13, 14] (fun a i wr' => a = .int .i64 0 ∧ i = .int .i64 0 ∧ wr' = WR) (fun _ _ _ => 0)
          case atStart => exact ⟨rfl, rfl, rfl⟩
          case round =>
            obtain ⟨rfl, rfl, rfl⟩ := hrel
            obtain ⟨v', w5, hrun, hO', hG'⟩ := hJ.out.own.pushGB (P := Try.prog) (t := 23) (ty := 23) Try.underlying23 intI_info (x := 0) (by decide) (by omega) hsz
            have HR := Lib.hid hrun
            have HNX : Hid (SbI os ps n W2 W2.heap.size (j + 1) (L ++ [0]) v' w5) := ⟨hO', by rw [List.length_append, hLl]; rfl, fun h => absurd (HN.out.symm.trans h) hEn, hJ.out.below.trans (hG'.below hsz hJ.out.own.row)⟩
            clear hrun hO' hG' hJ
            go_wp2_with (at_builtin; refine wpList_append_run rfl (.tmp 79) (.tmp 81) 23 rfl rfl rfl HR.out ?_)
            go_roundw
            case rel => exact ⟨j + 1, _, by omega, by go_num, by rw [HN.out], HNX.out⟩
            case measure => simp [intOf]; omega
      · have HN := Lib.hid (hE hE0)
        have hEb : (curE os ps n j == 0) = false := by simpa using hE0
        have hEn := hE0
        clear hE
        obtain ⟨X, hX⟩ : ∃ X, nth ps j = X := ⟨_, rfl⟩
        rw [hX] at hc
        clear hX hE0
        obtain ⟨Eb, hEbb⟩ : ∃ E, curE os ps n j = E := ⟨_, rfl⟩
        rw [hEbb] at HN hEb hEn ⊢
        clear hEbb
        go_wp2_with fail
        clear z0 hc
        generalize wr = WR at *
        go_loopw [13, 14] (fun a i wr' => a = .int .i64 0 ∧ i = .int .i64 0 ∧ wr' = WR) (fun _ _ _ => 0)
        case atStart => exact ⟨rfl, rfl, rfl⟩
        case round =>
          obtain ⟨rfl, rfl, rfl⟩ := hrel
          obtain ⟨v', w5, hrun, hO', hG'⟩ := hJ.out.own.pushGB (P := Try.prog) (t := 23) (ty := 23) Try.underlying23 intI_info (x := 0) (by decide) (by omega) hsz
          have HR := Lib.hid hrun
          have HNX : Hid (SbI os ps n W2 W2.heap.size (j + 1) (L ++ [0]) v' w5) := ⟨hO', by rw [List.length_append, hLl]; rfl, fun h => absurd (HN.out.symm.trans h) hEn, hJ.out.below.trans (hG'.below hsz hJ.out.own.row)⟩
          clear hrun hO' hG' hJ
          go_wp2_with (at_builtin; refine wpList_append_run rfl (.tmp 79) (.tmp 81) 23 rfl rfl rfl HR.out ?_)
          go_roundw
          case rel => exact ⟨j + 1, _, by omega, by go_num, by rw [HN.out], HNX.out⟩
          case measure => simp [intOf]; omega
    · obtain rfl : j = k := by omega
      have hce := curE_all (os := os) (n := n) (ps := ps) (j := j) hpl
      rw [hce, HBE.out]
      have hBW := hJ.out.below
      have HBW := Lib.hid (HB2.out.trans (hBW.mono HB2.out.size))
      clear bx
      by_cases hb0 : BE = 0
      · subst hb0
        have hbz := HBE.out
        obtain ⟨hl0, _⟩ := bldE_zero hbz
        have hLs := hJ.out.are (hce.trans hbz)
        rw [List.take_of_length_le (by omega), ← bldF_ok hbz] at hLs
        have hAW := HA2.out.later hBW
        rw [bldA_ok hbz] at hAW
        have hGW := HG2.out.later hBW
        obtain ⟨A5, c5, rfl, _, hA5⟩ := hJ.out.own.arr
        rw [hLs] at hA5 ⊢
        rcases HL2.out with ⟨hx, _⟩ | ⟨_, hk2, hAL⟩
        · exact absurd hl0 hx
        have hkl := lay_len hl0
        have hgk : gk ≤ maxLen := by
          have h1 := hGW.1
          rw [bldF_ok hbz, List.length_map] at h1
          rw [← h1, hpl]
          exact len_pow hkz
        have HE1 := Lib.hid (equalWords B A2 bm k2 bc c2 wr.heap.size _ _ wr hAW (hAL.later hBW) (by rw [← hAW.1]; exact hkl) (by rw [hk2]; exact hkl))
        have HE2 := Lib.hid (fun q => equalInts G A5 gk _ gd c5 wr.heap.size _ _ (wr.drewN q) (hGW.drewN q) (hA5.drewN q) hgk (by rw [← hA5.1, hGW.1]; exact hgk))
        rw [decide_eq_true rfl] at HE1 HE2
        obtain ⟨ln, hln⟩ : ∃ ln, (bldF os ps n).length = ln := ⟨_, rfl⟩
        rw [hln] at HE2 ⊢
        have c0 : ((0 : Int) == 0) = true := rfl
        have c1 : ((0 : Int) != 0) = false := rfl
        clear hJ hBW hAW hGW hA5 hAL hln hkl hgk hLs hk2
        go_wp2_with fail
        refine HE1.out.mono ?_
        rintro e w5 ⟨rfl, q5, rfl⟩
        go_wp2_with fail
        refine (HE2.out q5).mono ?_
        rintro e w6 ⟨rfl, q6, rfl⟩
        go_wp2
        go_ret
        exact ⟨rfl, below_drewN HBW.out _⟩
      · have hb1 : (BE == 0) = false := by simpa using hb0
        have hb2 : (BE != 0) = true := by simpa using hb0
        have hb3 : (BE == BE) = true := by simp
        have h1 := HA2.out.1
        have h2 := HG2.out.1
        rw [bldA_bad (by rw [HBE.out]; exact hb0)] at h1
        rw [bldF_bad (by rw [HBE.out]; exact hb0)] at h2
        obtain rfl : bm = 0 := by simpa using h1.symm
        obtain rfl : gk = 0 := by simpa using h2.symm
        clear hJ hBW
        go_wp2
        go_ret
        exact ⟨rfl, HBW.out⟩
end Go.Proofs.Ytjefbekdjgmmbaa
