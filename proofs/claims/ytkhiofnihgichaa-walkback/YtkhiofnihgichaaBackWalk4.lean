/-
  The walk of WalkBack: whatever the arguments and the memory, the call returns true and changes nothing that was there.
-/
import Derived.Test.YtkhiofnihgichaaBackM
import Derived.Test.YtkhiofnihgichaaObjects
import Derived.Test.YtkhiofnihgichaaSpotFn
import Derived.Test.YtkhiofnihgichaaTilesWalk
namespace Go.Proofs.Ytkhiofnihgichaa
open Go.RowKit

theorem obOf_small2 {w : World} {lo hi s : Nat} {r : Raw} {zs : List Int} (h : ObV w lo hi r (obOf zs s)) (hl : zs.length ≤ 256) : r.rn ≤ maxLen ∧ r.bn ≤ maxLen := by
  have h1 := h.refs.1
  have h2 := h.body.1
  have h3 : (refWords zs s).length ≤ zs.length := by unfold refWords; simp; omega
  have h4 : (bodyWords zs s).length ≤ zs.length := by unfold bodyWords; simp; omega
  unfold obOf at h1 h2
  simp only [List.length_map] at h1 h2
  unfold maxLen
  omega

theorem run_uptoG {P : Program} {t e : TypeId} {sz : Nat} (ht : P.underlying t = some (.slice e)) (hs : (P.info? e).map (·.size) = some sz) (A : Option Addr) (len cap q : Nat) (h : Int) (hh : h = q) (hc : q ≤ cap) :
    ∃ D, (∀ wx, Sem.run P (Instr.slice t (.slice A len cap) none (some (.int .i64 h)) none) wx = .ok (.slice D q cap) wx) ∧ ∀ b off, A = some ⟨b, off, none⟩ → D = some ⟨b, off, none⟩ := by
  have he : P.elem t = e := by simp [Program.elem, ht]
  have ht' : P.underlying t = some (.slice (P.elem t)) := by rw [he]; exact ht
  refine ⟨if cap = 0 then A else A.map (·.add 0), fun wx => ?_, fun b off hA => ?_⟩
  · rw [run_slice_h wx t A len cap ht' .i64 h (by omega) (by omega)]
    cases hi : P.info? e with
    | none => simp [hi] at hs
    | some i =>
      have e1 : h.toNat = q := by omega
      simp [he, sizeOf, typeInfo, hi, sliced, e1]
  · subst hA
    split
    · rfl
    · simp [Addr.add]
theorem obj_size2 : (Try.prog.info? 32).map (·.size) = some 4 := by kernel_rfl

set_option maxRecDepth 8000 in
set_option maxHeartbeats 2000000 in
theorem equalFunc_any (A A' : Option Addr) (n c c' B lo lo' : Nat) (l l' : List Raw) (o : Nat → Ob) (w : World) (hn : n ≤ maxLen) (hB : B ≤ w.heap.size) (hl : ArrG rawC 4 w B A n l) (hl' : ArrG rawC 4 w B A' n l')
    (ho : ∀ j, j < n → ObV w lo B (nthG l j) (o j)) (ho' : ∀ j, j < n → ObV w lo' B (nthG l' j) (o j)) (h1 : ∀ j, j < n → (nthG l j).rn ≤ maxLen ∧ (nthG l j).bn ≤ maxLen) :
    Calls Try.prog 22 #[.slice A n c, .slice A' n c', .func (.func 23) #[] #[]] w fun e w' => e = .returned (.bool true) ∧ Below w.heap.size w w' := by
  unfold maxLen at hn
  have HL := Lib.hid hl
  have HL' := Lib.hid hl'
  have HO := Lib.hid ho
  have HO' := Lib.hid ho'
  have H1 := Lib.hid h1
  have hne : ((n : Int) != (n : Int)) = false := by simp
  have hcall := Try.call23
  clear hl hl' ho ho' h1
  go_enter Try.func22, Try.ntmps22
  go_wp2_with fail
  go_loopw [17] (fun i wr => ∃ k : Nat, k ≤ n ∧ i = .int .i64 k ∧ Hid (Below w.heap.size w wr)) (fun i _ => n - (intOf i).toNat)
  case atStart => exact ⟨0, Nat.zero_le _, rfl, Below.refl _ _⟩
  case round =>
    obtain ⟨k, hk, rfl, hBw⟩ := hrel
    by_cases hlt : k < n
    · obtain ⟨b, off, rfl, hb, x0, x1, x2, x3⟩ := (HL.out.below hBw.out hB).raw hlt
      obtain ⟨b', off', rfl, hb', y0, y1, y2, y3⟩ := (HL'.out.below hBw.out hB).raw hlt
      have hr := (HO.out k hlt).below hBw.out hB
      have hq := (HO'.out k hlt).below hBw.out hB
      have hm := H1.out k hlt
      have hsz := hBw.out.size
      generalize nthG l k = r at *
      generalize nthG l' k = q at *
      have a1 := (Below.refl _ wr).alloc (Nat.le_refl _) (.cells #[.int .i64 r.t, .slice r.ra r.rn r.rc, .slice r.ba r.bn r.bc, .bool r.f] 32)
      have a2 := a1.alloc (by simp) (.cells #[.int .i64 q.t, .slice q.ra q.rn q.rc, .slice q.ba q.bn q.bc, .bool q.f] 32)
      have HC := Lib.hid (sameObject_any r q (o k) lo lo' _ ((hr.below a2 (by omega)).more (Nat.le_trans (by omega) a2.size)) ((hq.below a2 (by omega)).more (Nat.le_trans (by omega) a2.size)) hm.1 hm.2)
      unfold rawV at HC
      obtain ⟨t, ra, rn, rc, ba, bn, bc, f⟩ := r
      obtain ⟨t', ra', rn', rc', ba', bn', bc', f'⟩ := q
      simp only at x0 x1 x2 x3 y0 y1 y2 y3 a1 a2 HC
      have z0 := (a1.cell (p := ⟨b', off' + k * 4, none⟩) (show b' < wr.heap.size by omega)).trans y0
      have z1 := (a1.cell (p := ⟨b', off' + k * 4 + 1, none⟩) (show b' < wr.heap.size by omega)).trans y1
      have z2 := (a1.cell (p := ⟨b', off' + k * 4 + 2, none⟩) (show b' < wr.heap.size by omega)).trans y2
      have z3 := (a1.cell (p := ⟨b', off' + k * 4 + 3, none⟩) (show b' < wr.heap.size by omega)).trans y3
      have HB2 := Lib.hid a2
      clear hr hq a1 a2 hm hsz
      go_wp2_with fail
      refine HC.out.mono ?_
      rintro e w1 ⟨rfl, b1⟩
      have HB3 := Lib.hid (hBw.out.trans ((HB2.out.trans (b1.mono HB2.out.size)).mono hBw.out.size))
      clear x0 x1 x2 x3 y0 y1 y2 y3 z0 z1 z2 z3 b1
      go_wp2
      go_roundw
      case rel => exact ⟨k + 1, by omega, by go_num, HB3⟩
      case measure => simp [intOf]; omega
    · obtain rfl : k = n := by omega
      go_wp2
      go_ret
      exact ⟨rfl, hBw.out⟩

set_option maxRecDepth 8000 in
set_option maxHeartbeats 8000000 in
theorem walkBack_walk (A : Option Addr) (N c : Nat) (n : Int) (raws : List Raw) (os : List Ob) (A2 : Option Addr) (m2 c2 : Nat) (zs : List Int) (w : World) (hn : (Lit.int .i64 n).wf = true) (hN : N ≤ 140737488355328) (hv : ObsAt w 0 w.heap.size A N raws os) (hs : ∀ j, j < N → (nthG raws j).rn ≤ maxLen ∧ (nthG raws j).bn ≤ maxLen)
    (hm2 : m2 ≤ maxLen) (hnc : m2 ≤ c2) (ha : Arr .u64 w w.heap.size A2 m2 zs) :
    Calls Try.prog 6 #[.slice A N c, .int .i64 n, .slice A2 m2 c2] w fun e w' => e = .returned (.bool true) ∧ Below w.heap.size w w' := by
  have HV := Lib.hid hv
  have HS := Lib.hid hs
  have HA := Lib.hid ha
  have HN2 := Lib.hid hm2
  have HN := Lib.hid hn
  clear hv hs ha hm2 hn
  go_enter Try.func6, Try.ntmps6
  go_wp2_with fail
  refine (walks_any w).mono ?_
  rintro e w1 ⟨rfl, b1⟩
  have HB1 := Lib.hid b1
  have HLY := Lib.hid (Lay_any A N c w.heap.size 0 n raws os w1 HN.out hN b1.size ⟨HV.out.1, HV.out.2.1.below b1 (Nat.le_refl _), fun j hj => (HV.out.2.2 j hj).below b1 (Nat.le_refl _)⟩ HS.out)
  clear b1
  go_wp2_with fail
  refine HLY.out.mono ?_
  rintro e w2 ⟨b2, A3, k3, c3, rfl, hc3, h3⟩
  have HB2 := Lib.hid (HB1.out.trans (b2.mono HB1.out.size))
  clear b2 HLY
  by_cases hz : layErr os n = 0
  · have hr : ¬ (n < 0 ∨ 256 < n) := fun h => by rw [layErr_range h] at hz; cases hz
    obtain ⟨q, rfl⟩ := Int.eq_ofNat_of_zero_le (show 0 ≤ n by omega)
    obtain ⟨t1, t2, t3, t4⟩ := lay_told hz
    obtain ⟨hq, hp, _⟩ := lay_zero hz
    obtain ⟨hk3, ha3⟩ : k3 = q ∧ Arr .u64 w2 w2.heap.size A3 k3 (layWords os q) := by
      rcases h3 with h3 | ⟨_, h3, h4⟩
      · exact absurd hz h3.1
      · rw [Int.toNat_natCast] at h3 h4
        exact ⟨by rw [h3, t1], h4⟩
    subst hk3
    have hLL : N ≤ (layObs os k3).length ∧ (layObs os k3).length ≤ N + 1 := by
      unfold layObs
      rw [List.length_append]
      have h1 := HV.out.1
      have h2 := restObs_len (k3 - offs os os.length)
      omega
    have hNq : N ≤ 256 := by
      obtain ⟨_, ht⟩ := pErr_zero hp
      have := offs_ge (os := os) os.length (Nat.le_refl _)
      have := HV.out.1
      omega
    have HOBJ := Lib.hid (Objects_any A3 k3 c3 (layWords os k3) w2 (by unfold maxLen; omega) hc3 ha3)
    have HT2 := Lib.hid t2
    have HT3 := Lib.hid t3
    have HT4 := Lib.hid t4
    have hq' : k3 ≤ 256 := by omega
    rw [hz]
    clear h3 hz t1 t2 t3 t4 hp ha3 hr
    go_wp2_with fail
    refine HOBJ.out.mono ?_
    rintro e w3 ⟨A4, k4, c4, rfl, b3, hc4, h4⟩
    rw [HT2.out]
    obtain ⟨hk4, raws4, hA4, hO4⟩ : k4 = (begins (layWords os k3) 0).length ∧ ∃ raws, ArrG rawC 4 w3 w3.heap.size A4 k4 raws ∧ ∀ j, j < k4 → ObV w3 w2.heap.size w3.heap.size (nthG raws j) (obOf (layWords os k3) (st (layWords os k3) j)) := by
      rcases h4 with h4 | h4
      · exact absurd HT2.out h4.1
      · exact h4.2
    rw [HT3.out] at hk4
    rw [← hk4] at hLL
    have hO4' : ∀ j, j < k4 → ObV w3 w2.heap.size w3.heap.size (nthG raws4 j) (nthG (layObs os k3) j) := fun j hj => by
      rw [← HT4.out j (by rw [← hk4]; exact hj)]; exact hO4 j hj
    have hb03 : Below w.heap.size w w3 := HB2.out.trans (b3.mono HB2.out.size)
    obtain ⟨D, hD, hD2⟩ := run_uptoG (P := Try.prog) (sz := 4) Try.underlying27 obj_size2 A4 k4 c4 N N rfl (by omega)
    have hcut := hA4.cut (p := 0) (q := N) (by omega) (D := D) (fun b off hA _ => by rw [Nat.zero_mul, Nat.add_zero]; exact hD2 b off hA)
    have hnk : ∀ j, j < N → nthG ((raws4.drop 0).take N) j = nthG raws4 j := fun j hj => by
      have := hA4.1
      rw [nthG_get _ _ (by simp; omega), nthG_get _ _ (by omega)]
      simp
    have hlo : ∀ j, j < N → nthG (layObs os k3) j = nthG os j := fun j hj => by unfold layObs; exact nthG_app_left _ _ (by rw [HV.out.1]; exact hj)
    have HEF := Lib.hid (equalFunc_any D A N c4 c w3.heap.size 0 0 ((raws4.drop 0).take N) raws (fun j => nthG os j) w3 (by unfold maxLen; omega) (Nat.le_refl _) hcut ((HV.out.2.1.below hb03 (Nat.le_refl _)).more hb03.size)
      (fun j hj => by rw [hnk j hj]; exact (by rw [← hlo j hj]; exact (hO4' j (by omega)).less (Nat.zero_le _)))
      (fun j hj => ((HV.out.2.2 j hj).below hb03 (Nat.le_refl _)).more hb03.size)
      (fun j hj => by
        rw [hnk j hj]
        have h1 := hO4' j (by omega)
        rw [hlo j hj] at h1
        have h2 := HV.out.2.2 j hj
        have h3 := HS.out j hj
        exact ⟨by rw [← h1.refs.1, h2.refs.1]; exact h3.1, by rw [← h1.body.1, h2.body.1]; exact h3.2⟩))
    have HB3 := Lib.hid hb03
    have hfree : N < k4 → (nthG raws4 N).f = true := fun hlt => by
      have h1 := hO4' N hlt
      rw [h1.free]
      have hm : nthG (layObs os k3) N ∈ restObs (k3 - offs os os.length) := by
        unfold layObs
        have hlr : (layObs os k3).length = os.length + (restObs (k3 - offs os os.length)).length := by unfold layObs; rw [List.length_append]
        have hos := HV.out.1
        rw [nthG_app_right _ _ (by omega) (by omega), nthG_get _ _ (by omega)]
        exact List.getElem_mem _
      rw [rest_mem hm]
    have HFR := Lib.hid hfree
    have HA4 := Lib.hid hA4
    have hk4' : k4 ≤ 257 := by omega
    clear h4 hO4 hO4' hcut hnk hlo hb03 hD2 hfree hA4 b3 HOBJ hk4
    obtain ⟨l1, l2⟩ := hLL
    have g1 : ¬ ((k4 : Int) < N) := by omega
    have g2 : ¬ ((N : Int) + 1 < k4) := by omega
    have g3 : ((k3 : Int) != (k3 : Int)) = false := by simp
    by_cases hmore : N < k4
    · have g4 : (N : Int) < k4 := by omega
      go_wp2_with fail
      refine HEF.out.mono ?_
      rintro e w4 ⟨rfl, b4⟩
      obtain ⟨b7, o7, rfl, _, z0, z1, z2, z3⟩ := (HA4.out.below b4 (Nat.le_refl _)).raw hmore
      rw [HFR.out hmore] at z3
      have HBW0 := Lib.hid (HB3.out.trans (b4.mono HB3.out.size))
      clear b4 z0 z1 z2 HEF HFR HA4
      obtain ⟨W, hW⟩ : ∃ W, W = w4 := ⟨_, rfl⟩
      rw [← hW] at HBW0 z3 ⊢
      have HBW := HBW0
      clear hW HBW0
      go_wp2_with fail
      clear z3
      refine (Objects_any A2 m2 c2 zs W HN2.out hnc ((HA.out.below HBW.out (Nat.le_refl _)).more HBW.out.size)).mono ?_
      rintro e w5 ⟨A5, k5, c5, rfl, b5, hc5, h5⟩
      have HB5 := Lib.hid (HBW.out.trans (b5.mono HBW.out.size))
      by_cases h0 : arErr zs = 0
      · obtain ⟨hk5, raws5, hA5, hO5⟩ : k5 = (begins zs 0).length ∧ ∃ raws, ArrG rawC 4 w5 w5.heap.size A5 k5 raws ∧ ∀ j, j < k5 → ObV w5 W.heap.size w5.heap.size (nthG raws j) (obOf zs (st zs j)) := by
          rcases h5 with h5 | h5
          · exact absurd h0 h5.1
          · exact h5.2
        have h256 := (spErr_zero (arErr_zero h0).1).1
        obtain ⟨hL1, hL2⟩ := told_laid HA.out.2.1 h0
        have hbl := begins_len (zs := zs) (a := 0)
        have hl := HA.out.1
        have HLY := Lib.hid (Lay_any A5 k5 c5 w5.heap.size W.heap.size (zs.length : Int) raws5 (toldObs zs) w5 (wf_i64.2 (by omega)) (by omega) (Nat.le_refl _) ⟨by rw [told_len, hk5], hA5, fun j hj => by rw [told_nth (by omega)]; exact hO5 j hj⟩ (fun j hj => obOf_small2 (hO5 j hj) h256))
        rw [h0]
        have HL1 := Lib.hid hL1
        have HL2 := Lib.hid hL2
        have HHL := Lib.hid hl
        have hm256 : m2 ≤ 256 := by omega
        rw [hl] at HLY
        clear h5 hk5 hA5 hO5 h0 h256 hL1 hL2 hbl hl b5 hc5
        go_wp2_with fail
        refine HLY.out.mono ?_
        rintro e w6 ⟨b6, A6, k6, c6, rfl, hc6, h6⟩
        rw [show layErr (toldObs zs) (m2 : Int) = 0 by rw [← HHL.out]; exact HL1.out]
        have HEQ : Hid (Calls Try.prog 19 #[.slice A2 m2 c2, .slice A6 k6 c6] w6 fun e w' => e = .returned (.bool true) ∧ ∃ q, w6.drewN q = w') := by
          rcases h6 with ⟨hz, _⟩ | ⟨_, hk, ha⟩
          · exact absurd (by rw [← HHL.out]; exact HL1.out) hz
          · have e1 : layWords (toldObs zs) ((m2 : Int)).toNat = zs := by rw [Int.toNat_natCast, ← HHL.out]; exact HL2.out
            rw [e1] at hk ha
            rw [HHL.out] at hk
            subst hk
            have hb := HB5.out.trans (b6.mono HB5.out.size)
            exact (equalWords A2 A6 _ _ c2 c6 w6.heap.size zs zs w6 ((HA.out.below hb (Nat.le_refl _)).more hb.size) ha (by unfold maxLen; omega) (by unfold maxLen; omega)).mono fun e w' h => ⟨by rw [h.1]; simp, h.2⟩
        have HB6 := Lib.hid (HB5.out.trans (b6.mono HB5.out.size))
        clear b6 h6 hc6 HLY
        go_wp2_with fail
        refine HEQ.out.mono ?_
        rintro e w7 ⟨rfl, q, rfl⟩
        go_wp2
        go_ret
        exact ⟨rfl, below_drewN HB6.out q⟩
      · obtain rfl : k5 = 0 := by
          rcases h5 with h5 | h5
          · exact h5.2
          · exact absurd h5.1 h0
        have hbz : (arErr zs != 0) = true := by simpa using h0
        clear h5 h0 b5 hc5
        go_wp2
        go_ret
        exact ⟨rfl, HB5.out⟩
    · have g4 : ¬ (N : Int) < k4 := by omega
      go_wp2_with fail
      refine HEF.out.mono ?_
      rintro e w4 ⟨rfl, b4⟩
      have HBW0 := Lib.hid (HB3.out.trans (b4.mono HB3.out.size))
      clear b4 HEF HFR HA4
      obtain ⟨W, hW⟩ : ∃ W, W = w4 := ⟨_, rfl⟩
      rw [← hW] at HBW0 ⊢
      have HBW := HBW0
      clear hW HBW0
      go_wp2_with fail
      refine (Objects_any A2 m2 c2 zs W HN2.out hnc ((HA.out.below HBW.out (Nat.le_refl _)).more HBW.out.size)).mono ?_
      rintro e w5 ⟨A5, k5, c5, rfl, b5, hc5, h5⟩
      have HB5 := Lib.hid (HBW.out.trans (b5.mono HBW.out.size))
      by_cases h0 : arErr zs = 0
      · obtain ⟨hk5, raws5, hA5, hO5⟩ : k5 = (begins zs 0).length ∧ ∃ raws, ArrG rawC 4 w5 w5.heap.size A5 k5 raws ∧ ∀ j, j < k5 → ObV w5 W.heap.size w5.heap.size (nthG raws j) (obOf zs (st zs j)) := by
          rcases h5 with h5 | h5
          · exact absurd h0 h5.1
          · exact h5.2
        have h256 := (spErr_zero (arErr_zero h0).1).1
        obtain ⟨hL1, hL2⟩ := told_laid HA.out.2.1 h0
        have hbl := begins_len (zs := zs) (a := 0)
        have hl := HA.out.1
        have HLY := Lib.hid (Lay_any A5 k5 c5 w5.heap.size W.heap.size (zs.length : Int) raws5 (toldObs zs) w5 (wf_i64.2 (by omega)) (by omega) (Nat.le_refl _) ⟨by rw [told_len, hk5], hA5, fun j hj => by rw [told_nth (by omega)]; exact hO5 j hj⟩ (fun j hj => obOf_small2 (hO5 j hj) h256))
        rw [h0]
        have HL1 := Lib.hid hL1
        have HL2 := Lib.hid hL2
        have HHL := Lib.hid hl
        have hm256 : m2 ≤ 256 := by omega
        rw [hl] at HLY
        clear h5 hk5 hA5 hO5 h0 h256 hL1 hL2 hbl hl b5 hc5
        go_wp2_with fail
        refine HLY.out.mono ?_
        rintro e w6 ⟨b6, A6, k6, c6, rfl, hc6, h6⟩
        rw [show layErr (toldObs zs) (m2 : Int) = 0 by rw [← HHL.out]; exact HL1.out]
        have HEQ : Hid (Calls Try.prog 19 #[.slice A2 m2 c2, .slice A6 k6 c6] w6 fun e w' => e = .returned (.bool true) ∧ ∃ q, w6.drewN q = w') := by
          rcases h6 with ⟨hz, _⟩ | ⟨_, hk, ha⟩
          · exact absurd (by rw [← HHL.out]; exact HL1.out) hz
          · have e1 : layWords (toldObs zs) ((m2 : Int)).toNat = zs := by rw [Int.toNat_natCast, ← HHL.out]; exact HL2.out
            rw [e1] at hk ha
            rw [HHL.out] at hk
            subst hk
            have hb := HB5.out.trans (b6.mono HB5.out.size)
            exact (equalWords A2 A6 _ _ c2 c6 w6.heap.size zs zs w6 ((HA.out.below hb (Nat.le_refl _)).more hb.size) ha (by unfold maxLen; omega) (by unfold maxLen; omega)).mono fun e w' h => ⟨by rw [h.1]; simp, h.2⟩
        have HB6 := Lib.hid (HB5.out.trans (b6.mono HB5.out.size))
        clear b6 h6 hc6 HLY
        go_wp2_with fail
        refine HEQ.out.mono ?_
        rintro e w7 ⟨rfl, q, rfl⟩
        go_wp2
        go_ret
        exact ⟨rfl, below_drewN HB6.out q⟩
      · obtain rfl : k5 = 0 := by
          rcases h5 with h5 | h5
          · exact h5.2
          · exact absurd h5.1 h0
        have hbz : (arErr zs != 0) = true := by simpa using h0
        clear h5 h0 b5 hc5
        go_wp2
        go_ret
        exact ⟨rfl, HB5.out⟩
  · obtain rfl : k3 = 0 := by
      rcases h3 with h3 | h3
      · exact h3.2
      · exact absurd h3.1 hz
    have hbz : (layErr os n != 0) = true := by simpa using hz
    clear h3 hz
    obtain ⟨W, hW⟩ : ∃ W, W = w2 := ⟨_, rfl⟩
    rw [← hW] at HB2 ⊢
    have HBW := HB2
    clear hW HB2
    go_wp2_with fail
    refine (Objects_any A2 m2 c2 zs W HN2.out hnc ((HA.out.below HBW.out (Nat.le_refl _)).more HBW.out.size)).mono ?_
    rintro e w5 ⟨A5, k5, c5, rfl, b5, hc5, h5⟩
    have HB5 := Lib.hid (HBW.out.trans (b5.mono HBW.out.size))
    by_cases h0 : arErr zs = 0
    · obtain ⟨hk5, raws5, hA5, hO5⟩ : k5 = (begins zs 0).length ∧ ∃ raws, ArrG rawC 4 w5 w5.heap.size A5 k5 raws ∧ ∀ j, j < k5 → ObV w5 W.heap.size w5.heap.size (nthG raws j) (obOf zs (st zs j)) := by
        rcases h5 with h5 | h5
        · exact absurd h0 h5.1
        · exact h5.2
      have h256 := (spErr_zero (arErr_zero h0).1).1
      obtain ⟨hL1, hL2⟩ := told_laid HA.out.2.1 h0
      have hbl := begins_len (zs := zs) (a := 0)
      have hl := HA.out.1
      have HLY := Lib.hid (Lay_any A5 k5 c5 w5.heap.size W.heap.size (zs.length : Int) raws5 (toldObs zs) w5 (wf_i64.2 (by omega)) (by omega) (Nat.le_refl _) ⟨by rw [told_len, hk5], hA5, fun j hj => by rw [told_nth (by omega)]; exact hO5 j hj⟩ (fun j hj => obOf_small2 (hO5 j hj) h256))
      rw [h0]
      have HL1 := Lib.hid hL1
      have HL2 := Lib.hid hL2
      have HHL := Lib.hid hl
      have hm256 : m2 ≤ 256 := by omega
      rw [hl] at HLY
      clear h5 hk5 hA5 hO5 h0 h256 hL1 hL2 hbl hl b5 hc5
      go_wp2_with fail
      refine HLY.out.mono ?_
      rintro e w6 ⟨b6, A6, k6, c6, rfl, hc6, h6⟩
      rw [show layErr (toldObs zs) (m2 : Int) = 0 by rw [← HHL.out]; exact HL1.out]
      have HEQ : Hid (Calls Try.prog 19 #[.slice A2 m2 c2, .slice A6 k6 c6] w6 fun e w' => e = .returned (.bool true) ∧ ∃ q, w6.drewN q = w') := by
        rcases h6 with ⟨hz, _⟩ | ⟨_, hk, ha⟩
        · exact absurd (by rw [← HHL.out]; exact HL1.out) hz
        · have e1 : layWords (toldObs zs) ((m2 : Int)).toNat = zs := by rw [Int.toNat_natCast, ← HHL.out]; exact HL2.out
          rw [e1] at hk ha
          rw [HHL.out] at hk
          subst hk
          have hb := HB5.out.trans (b6.mono HB5.out.size)
          exact (equalWords A2 A6 _ _ c2 c6 w6.heap.size zs zs w6 ((HA.out.below hb (Nat.le_refl _)).more hb.size) ha (by unfold maxLen; omega) (by unfold maxLen; omega)).mono fun e w' h => ⟨by rw [h.1]; simp, h.2⟩
      have HB6 := Lib.hid (HB5.out.trans (b6.mono HB5.out.size))
      clear b6 h6 hc6 HLY
      go_wp2_with fail
      refine HEQ.out.mono ?_
      rintro e w7 ⟨rfl, q, rfl⟩
      go_wp2
      go_ret
      exact ⟨rfl, below_drewN HB6.out q⟩
    · obtain rfl : k5 = 0 := by
        rcases h5 with h5 | h5
        · exact h5.2
        · exact absurd h5.1 h0
      have hbz : (arErr zs != 0) = true := by simpa using h0
      clear h5 h0 b5 hc5
      go_wp2
      go_ret
      exact ⟨rfl, HB5.out⟩
end Go.Proofs.Ytkhiofnihgichaa
