/-
  The walk of WordTells: whatever the arguments and the memory, the call returns true and changes nothing that was there.
-/
import Derived.Test.YtjngimjfofplpaaRef
import Derived.Deep.DeepCutAuto
namespace Go.Proofs.Ytjngimjfofplpaa
open Go.RowKit

theorem splice_push (zs xs : List Int) (r : Nat) (x : Int) (h : r + xs.length < zs.length) : (splice zs r xs).set (r + xs.length) x = splice zs r (xs ++ [x]) := by
  have e1 : (zs.take r).length = r := by simp; omega
  have e2 : zs.drop (r + xs.length) = zs[r + xs.length] :: zs.drop (r + xs.length + 1) := List.drop_eq_getElem_cons h
  unfold splice
  rw [List.set_append_right _ _ (by omega), e1, Nat.add_sub_cancel_left, List.set_append_right _ _ (by omega), Nat.sub_self, e2, List.set_cons_zero]
  simp [Nat.add_assoc]
theorem cut_snoc (zs : List Int) (p k : Nat) (h : p + k < zs.length) : (zs.drop p).take (k + 1) = (zs.drop p).take k ++ [nth zs (p + k)] := by
  rw [List.take_succ_eq_append_getElem (by simp; omega), nth_get _ _ h]
  simp

set_option maxHeartbeats 4000000 in
set_option maxRecDepth 100000 in
theorem tells_walk (A : Option Addr) (n c : Nat) (i j m v : Int) (zs : List Int) (w : World) (hn : n ≤ maxLen) (hnc : n ≤ c) (hi : (Lit.int .i64 i).wf = true) (hj : (Lit.int .i64 j).wf = true) (hm : (Lit.int .i64 m).wf = true)
    (hv : (Lit.int .u64 v).wf = true) (ha : Arr .u64 w w.heap.size A n zs) :
    Calls Try.prog 4 #[.slice A n c, .int .i64 i, .int .i64 j, .int .i64 m, .int .u64 v] w fun e w' => e = .returned (.bool true) ∧ Below w.heap.size w w' := by
  go_enter Try.func4, Try.ntmps4
  go_wp2_with fail
  refine (new_any m _ hm).mono ?_
  rintro e w1 ⟨A1, k1, c1, E1, rfl, hb1, h1⟩
  go_wp2_with fail
  refine (load_any A n c i zs _ hn hi ((ha.below hb1 (Nat.le_refl _)).more hb1.size)).mono ?_
  rintro e w' ⟨rfl, rfl⟩
  go_wp2_with fail
  refine (store_any A n c i v zs _ hn hi hv ((ha.below hb1 (Nat.le_refl _)).more hb1.size)).mono ?_
  rintro e w2 ⟨A2, k2, c2, rfl, hb2, h2⟩
  have hB2 := hb1.trans (hb2.mono hb1.size)
  go_wp2_with fail
  refine (move_any A n c i j m zs _ hn hnc hi hj hm ((ha.below hB2 (Nat.le_refl _)).more hB2.size)).mono ?_
  rintro e w3 ⟨A3, k3, c3, rfl, hb3, h3⟩
  have hB3 := hB2.trans (hb3.mono hB2.size)
  go_wp2_with fail
  refine (fill_any A n c i m v zs _ hn hi hm hv ((ha.below hB3 (Nat.le_refl _)).more hB3.size)).mono ?_
  rintro e w4 ⟨A4, k4, c4, rfl, hb4, h4⟩
  have hB4 := hB3.trans (hb4.mono hB3.size)
  have b14 : Below w1.heap.size w1 w4 := hb2.trans ((hb3.trans (hb4.mono hb3.size)).mono hb2.size)
  have b24 : Below w2.heap.size w2 w4 := hb3.trans (hb4.mono hb3.size)
  have HA := Lib.hid ((ha.below hB4 (Nat.le_refl _)).more hB4.size)
  have HB := Lib.hid hB4
  have H1 : Hid (((m < 0 ∨ 256 < m) ∧ k1 = 0 ∧ E1 = 4) ∨ (0 ≤ m ∧ m ≤ 256 ∧ k1 = m.toNat ∧ E1 = 0 ∧ Arr .u64 w4 w4.heap.size A1 k1 (List.replicate k1 0))) :=
    h1.imp id fun ⟨a, b, c, d, e⟩ => ⟨a, b, c, d, (e.below b14 (Nat.le_refl _)).more b14.size⟩
  have H2 : Hid ((wordE n i ≠ 0 ∧ k2 = 0) ∨ (wordE n i = 0 ∧ k2 = n ∧ Arr .u64 w4 w4.heap.size A2 n (zs.set i.toNat v))) :=
    h2.imp id fun ⟨a, b, c⟩ => ⟨a, b, (c.below b24 (Nat.le_refl _)).more b24.size⟩
  have H3 : Hid ((moveE n i j m ≠ 0 ∧ k3 = 0) ∨ (moveE n i j m = 0 ∧ k3 = n ∧ Arr .u64 w4 w4.heap.size A3 n (splice zs j.toNat ((zs.drop i.toNat).take m.toNat)))) :=
    h3.imp id fun ⟨a, b, c⟩ => ⟨a, b, (c.below hb4 (Nat.le_refl _)).more hb4.size⟩
  have H4 := Lib.hid h4
  clear hb1 hb2 hb3 hb4 hB2 hB3 hB4 b14 b24 ha h1 h2 h3 h4
  go_upto_region 6 with fail
  go_cut [64] (fun s wx => s = .bool (decide (m < 0 ∨ 256 < m)) ∧ w4 = wx)
  case first =>
    by_cases h0 : m < 0
    · have e : Hid (decide (m < 0 ∨ 256 < m) = true) := by show _ = _; simp; omega
      go_wp2_with fail
      go_meet
      exact ⟨by rw [e.out], rfl⟩
    · by_cases h1 : 256 < m
      · have e : Hid (decide (m < 0 ∨ 256 < m) = true) := by show _ = _; simp; omega
        go_wp2_with fail
        go_meet
        exact ⟨by rw [e.out], rfl⟩
      · have e : Hid (decide (m < 0 ∨ 256 < m) = false) := by show _ = _; simp; omega
        have d : decide (256 < m) = false := by simp; omega
        go_wp2_with fail
        go_meet
        exact ⟨by rw [e.out], rfl⟩
  case rest =>
    obtain ⟨rfl, rfl⟩ := hcut
    go_upto_if 64 with (fail)
    go_cut [] (fun wx => Below w4.heap.size w4 wx)
    case first =>
      by_cases hN : m < 0 ∨ 256 < m
      · obtain ⟨rfl, rfl⟩ : k1 = 0 ∧ E1 = 4 := by
          rcases H1.out with h | h
          · exact h.2
          · omega
        have hd : decide (m < 0 ∨ 256 < m) = true := by simpa using hN
        clear H1 H2 H3 H4 HA HB hN
        rw [hd]
        go_wp2
        go_meet
        exact Below.refl _ _
      · obtain ⟨m0, m1, rfl, rfl, har⟩ : 0 ≤ m ∧ m ≤ 256 ∧ k1 = m.toNat ∧ E1 = 0 ∧ Arr .u64 w4 w4.heap.size A1 k1 (List.replicate k1 0) := by
          rcases H1.out with h | h
          · exact absurd h.1 hN
          · exact h
        have hd : decide (m < 0 ∨ 256 < m) = false := by simpa using hN
        rw [hd]
        clear H1 H2 H3 H4 HA HB hN hd
        obtain ⟨p, rfl⟩ := Int.eq_ofNat_of_zero_le m0
        rw [Int.toNat_natCast] at har ⊢
        have hmk := fun wx => run_make_row' (P := Try.prog) 27 28 (.int .u64 0) 8 Try.underlying27 u64_info rfl .i64 .i64 p (by omega) (by omega) wx
        have hW : Whole .u64 28 (w4.alloc (.cells (madeCells #[Value.int .u64 0] p) 28)) w4.heap.size (List.replicate p 0) := by
          rw [made_replicate]
          exact whole_new .u64 28 w4 _ (fun z hz => by rw [List.eq_of_mem_replicate hz]; rfl)
        have a1 : Arr .u64 (w4.alloc (.cells (madeCells #[Value.int .u64 0] p) 28)) (w4.heap.size + 1) A1 p (List.replicate p 0) := (har.below ((Below.refl _ _).alloc (Nat.le_refl _) _) (Nat.le_refl _)).more (by omega)
        have a2 := hW.arr (B := w4.heap.size + 1) (by omega)
        rw [List.length_replicate] at a2
        go_wp2_with fail
        refine (equalWords _ _ p p _ _ (w4.heap.size + 1) _ _ _ a1 a2 (by unfold maxLen; omega) (by unfold maxLen; omega)).mono ?_
        rintro e w5 ⟨rfl, q, rfl⟩
        rw [show decide (List.replicate p (0 : Int) = List.replicate p 0) = true by simp]
        clear a1 a2 hW har hmk
        go_wp2_with fail
        go_meet
        exact below_drewN ((Below.refl _ _).alloc (Nat.le_refl _) _) _
    case rest =>
      obtain ⟨w5, rfl⟩ : ∃ w5, w5 = wc := ⟨_, rfl⟩
      have hb5 : Below w4.heap.size w4 w5 := hcut
      have HB5 := Lib.hid (HB.out.trans (hb5.mono HB.out.size))
      have HA5 := Lib.hid ((HA.out.below hb5 (Nat.le_refl _)).more hb5.size)
      have G2 : Hid ((wordE n i ≠ 0 ∧ k2 = 0) ∨ (wordE n i = 0 ∧ k2 = n ∧ Arr .u64 w5 w5.heap.size A2 n (zs.set i.toNat v))) :=
        H2.out.imp id fun ⟨a, b, c⟩ => ⟨a, b, (c.below hb5 (Nat.le_refl _)).more hb5.size⟩
      have G3 : Hid ((moveE n i j m ≠ 0 ∧ k3 = 0) ∨ (moveE n i j m = 0 ∧ k3 = n ∧ Arr .u64 w5 w5.heap.size A3 n (splice zs j.toNat ((zs.drop i.toNat).take m.toNat)))) :=
        H3.out.imp id fun ⟨a, b, c⟩ => ⟨a, b, (c.below hb5 (Nat.le_refl _)).more hb5.size⟩
      have G4 : Hid ((rangeE n i m ≠ 0 ∧ k4 = 0) ∨ (rangeE n i m = 0 ∧ k4 = n ∧ Arr .u64 w5 w5.heap.size A4 n (splice zs i.toNat (List.replicate m.toNat v)))) :=
        H4.out.imp id fun ⟨a, b, c⟩ => ⟨a, b, (c.below hb5 (Nat.le_refl _)).more hb5.size⟩
      clear hcut hb5 H1 H2 H3 H4 HA HB
      by_cases hl : 256 < n
      · have hl' : (256 : Int) < n := by omega
        have e1 : wordE n i = 2 := wordE_large hl
        have e2 : rangeE n i m = 2 := rangeE_large hl
        have e3 : moveE n i j m = 2 := by rw [moveE, if_neg (by rw [e2]; decide), e2]
        have e4 : loadV n i zs = 0 := by rw [loadV, if_neg (by rw [e1]; decide)]
        obtain rfl : k2 = 0 := by
          rcases G2.out with h | h
          · exact h.2
          · omega
        obtain rfl : k3 = 0 := by
          rcases G3.out with h | h
          · exact h.2
          · omega
        obtain rfl : k4 = 0 := by
          rcases G4.out with h | h
          · exact h.2
          · omega
        clear G2 G3 G4 HA5
        unfold maxLen at hn
        go_wp2
        go_ret
        exact ⟨rfl, HB5.out⟩
      · have hn256 : n ≤ 256 := by omega
        have hl' : ¬ (256 : Int) < n := by omega
        have HL := Lib.hid HA5.out.1
        go_wp2_with fail
        refine (stretch_any n i 1 _ hn hi (by decide)).mono ?_
        rintro e w' ⟨rfl, rfl⟩
        go_upto_if 117 with (fail)
        go_cut [13, 14, 16] (fun _ _ _ wx => Below w5.heap.size w5 wx)
        case first =>
          by_cases hE : wordE n i = 0
          · obtain ⟨_, i0, i1⟩ := wordE_zero hE
            have hs : strB n i 1 = true := by unfold strB; simp; omega
            have hlv : loadV n i zs = nth zs i.toNat := by rw [loadV, if_pos hE]
            obtain ⟨_, rfl, ha2⟩ : wordE n i = 0 ∧ k2 = n ∧ Arr .u64 w5 w5.heap.size A2 n (zs.set i.toNat v) := by
              rcases G2.out with h | h
              · exact absurd hE h.1
              · exact h
            rw [hs, hlv, hE]
            clear hs hlv hE G2 G3 G4
            obtain ⟨p, rfl⟩ := Int.eq_ofNat_of_zero_le i0
            rw [Int.toNat_natCast] at ha2 ⊢
            go_wp2_with fail
            refine (refClone_any A k2 c zs _ hn256 HA5.out).mono ?_
            rintro e w6 ⟨A6, c6, rfl, hO, hb6⟩
            obtain ⟨g, cap, hv6, hg, hglt, hcells, hset⟩ := hO.form (by have := HL.out; omega)
            injection hv6 with e1 e4 e5
            subst e1
            clear e4 e5
            obtain ⟨hcj, hfj⟩ := hcells p (by have := HL.out; omega)
            have hO2 := hset p v (by have := HL.out; omega) hv
            have hB6 := hb6.setCell (p := ⟨g, p, none⟩) hg (.int .u64 v)
            obtain ⟨b, off, rfl, hbl, hca⟩ := HA5.out.2.2 (by omega)
            have hc1 : w6.cell? ⟨b, off + p, none⟩ = some (.int .u64 (nth zs p)) := (hb6.cell (p := ⟨b, off + p, none⟩) hbl).trans (hca p (by omega))
            have hc2 : (w6.setCell ⟨g, p, none⟩ (.int .u64 v)).cell? ⟨b, off + p, none⟩ = some (.int .u64 (nth zs p)) := (hB6.cell (p := ⟨b, off + p, none⟩) hbl).trans (hca p (by omega))
            have hbg : ¬ b = g := by omega
            have hgb : ¬ g = b := by omega
            obtain ⟨A7, c7, hv7, _, ha7⟩ := hO2.arr
            injection hv7 with e2 e3 e4
            subst e2
            clear e4
            have HO2 := Lib.hid ha7
            have HA2 := Lib.hid (ha2.below hB6 (Nat.le_refl _))
            have HB6 := Lib.hid hB6
            have HC2 := Lib.hid hc2
            clear hset hcells hO hb6 hO2 ha7 hca hB6 ha2 hc2 e3
            have hB : w5.heap.size ≤ (w6.setCell ⟨g, p, none⟩ (.int .u64 v)).heap.size := HB6.out.size
            have aw := HO2.out
            rw [List.length_set, HL.out] at aw
            go_wp2_with fail
            refine (equalWords A2 _ k2 k2 _ _ _ (zs.set p v) (zs.set p v) _ (HA2.out.more hB) aw hn hn).mono ?_
            rintro e w8 ⟨rfl, q, rfl⟩
            rw [show decide (zs.set p v = zs.set p v) = true by simp]
            clear aw hB hcj hfj hc1
            go_wp2_with fail
            go_meet
            exact below_drewN HB6.out _
          · have e1 : wordE n i = 4 := by
              refine wordE_out hn256 ?_
              intro h
              exact hE (wordE_ok hn256 h)
            have hs : strB n i 1 = false := by
              unfold strB
              simp
              intro h1 h2
              have h3 : ¬ i < n := fun h3 => hE (wordE_ok hn256 ⟨h1, h3⟩)
              omega
            have hlv : loadV n i zs = 0 := by rw [loadV, if_neg hE]
            obtain rfl : k2 = 0 := by
              rcases G2.out with h | h
              · exact h.2
              · exact absurd h.1 hE
            rw [hs, hlv, e1]
            clear hs hlv e1 hE G2 G3 G4
            go_wp2_with fail
            go_meet
            exact Below.refl _ _
        case rest =>
          obtain ⟨w6, rfl⟩ : ∃ w6, w6 = wc := ⟨_, rfl⟩
          have hb6 : Below w5.heap.size w5 w6 := hcut
          have HB6 := Lib.hid (HB5.out.trans (hb6.mono HB5.out.size))
          have HA6 := Lib.hid ((HA5.out.below hb6 (Nat.le_refl _)).more hb6.size)
          have F3 : Hid ((moveE n i j m ≠ 0 ∧ k3 = 0) ∨ (moveE n i j m = 0 ∧ k3 = n ∧ Arr .u64 w6 w6.heap.size A3 n (splice zs j.toNat ((zs.drop i.toNat).take m.toNat)))) :=
            G3.out.imp id fun ⟨a, b, c⟩ => ⟨a, b, (c.below hb6 (Nat.le_refl _)).more hb6.size⟩
          have F4 : Hid ((rangeE n i m ≠ 0 ∧ k4 = 0) ∨ (rangeE n i m = 0 ∧ k4 = n ∧ Arr .u64 w6 w6.heap.size A4 n (splice zs i.toNat (List.replicate m.toNat v)))) :=
            G4.out.imp id fun ⟨a, b, c⟩ => ⟨a, b, (c.below hb6 (Nat.le_refl _)).more hb6.size⟩
          clear hcut hb6 G2 G3 G4 HA5 HB5
          go_wp2_with fail
          refine (refClone_any A n c zs _ hn256 HA6.out).mono ?_
          rintro e w7 ⟨A7, c7, rfl, hO7, hb7⟩
          have HB7 := Lib.hid (HB6.out.trans (hb7.mono HB6.out.size))
          have HO7 := Lib.hid hO7
          have Hb7 := Lib.hid hb7
          clear hO7 hb7
          go_wp2_with fail
          refine (stretch_any n i m _ hn hi hm).mono ?_
          rintro e w' ⟨rfl, rfl⟩
          by_cases hR : rangeE n i m = 0
          · obtain ⟨_, i0, i1, m0, m1⟩ := rangeE_zero hR
            have hs : strB n i m = true := by unfold strB; simp; omega
            obtain ⟨rfl, ha4⟩ : k4 = n ∧ Arr .u64 w6 w6.heap.size A4 n (splice zs i.toNat (List.replicate m.toNat v)) := by
              rcases F4.out with h | h
              · exact absurd hR h.1
              · exact h.2
            have HR := Lib.hid hR
            have HA4 := Lib.hid ha4
            rw [hs, hR]
            clear hs hR ha4 F4
            obtain ⟨p, rfl⟩ := Int.eq_ofNat_of_zero_le i0
            obtain ⟨q, rfl⟩ := Int.eq_ofNat_of_zero_le m0
            go_wp2_with fail
            go_loopw [182] (fun t wr => ∃ k : Nat, k ≤ q ∧ t = .int .i64 k ∧ Own .u64 28 wr w6.heap.size (.slice A7 k4 c7) (splice zs p (List.replicate k v)) ∧ Below w6.heap.size w6 wr) (fun t _ => q - (intOf t).toNat)
            case atStart => exact ⟨0, Nat.zero_le _, rfl, by simpa [splice] using HO7.out, Hb7.out⟩
            case round =>
              obtain ⟨k, hk, rfl, hO, hB⟩ := hrel
              have hlen : (splice zs p (List.replicate k v)).length = k4 := by rw [length_splice _ _ _ (by have := HL.out; simp; omega), HL.out]
              by_cases hlt : k < q
              · obtain ⟨g, cap, hv6, hg, hglt, hcells, hset⟩ := hO.form (by omega)
                injection hv6 with e1 e4 e5
                subst e1
                clear e4 e5
                obtain ⟨hcj, hfj⟩ := hcells (p + k) (by omega)
                have hO2 := hset (p + k) v (by omega) hv
                have e2 := splice_push zs (List.replicate k v) p v (by have := HL.out; simp; omega)
                rw [List.length_replicate, ← List.replicate_succ'] at e2
                rw [e2] at hO2
                have HO2 := Lib.hid hO2
                have HB2 := Lib.hid (hB.setCell (p := ⟨g, p + k, none⟩) hg (.int .u64 v))
                have g1 : ((p : Int) + (k : Int)) < (k4 : Int) := by omega
                have g2 : (0 : Int) ≤ (p : Int) + (k : Int) := by omega
                have g3 : ((p : Int) + (k : Int)).toNat = p + k := by omega
                generalize nth (splice zs p (List.replicate k v)) (p + k) = X at hcj
                clear hcells hset hO hB hO2 e2 hlen
                go_wp2_with fail
                go_roundw
                case rel => exact ⟨k + 1, by omega, by go_num, HO2.out, HB2.out⟩
                case measure => simp [intOf]; omega
              · obtain rfl : k = q := by omega
                obtain ⟨A8, c8, hv8, _, ha8⟩ := hO.arr
                injection hv8 with e1 e2 e3
                subst e1
                rw [hlen] at ha8
                have a4 := (HA4.out.below hB (Nat.le_refl _)).more hB.size
                rw [Int.toNat_natCast, Int.toNat_natCast] at a4
                have HBr := Lib.hid hB
                clear hO hB hlen e2 e3
                go_wp2_with fail
                refine (equalWords A4 _ k4 k4 _ _ wr.heap.size (splice zs p (List.replicate k v)) (splice zs p (List.replicate k v)) _ a4 ha8 hn hn).mono ?_
                rintro e w9 ⟨rfl, q, rfl⟩
                rw [show decide (splice zs p (List.replicate k v) = splice zs p (List.replicate k v)) = true by simp]
                clear a4 ha8
                go_wp2_with fail
                refine (stretch_any k4 j k _ hn hj hm).mono ?_
                rintro e w' ⟨rfl, rfl⟩
                by_cases hR2 : rangeE k4 j k = 0
                · obtain ⟨_, j0, j1, _, m2⟩ := rangeE_zero hR2
                  have hs : strB k4 j k = true := by unfold strB; simp; omega
                  have e0 : moveE k4 p j k = 0 := by rw [moveE, if_pos HR.out, hR2]
                  obtain ⟨rfl, ha3⟩ : k3 = k4 ∧ Arr .u64 w6 w6.heap.size A3 k4 (splice zs j.toNat ((zs.drop (p : Int).toNat).take (k : Int).toNat)) := by
                    rcases F3.out with h | h
                    · exact absurd e0 h.1
                    · exact h.2
                  rw [hs, e0]
                  have HA3 := Lib.hid ha3
                  clear hs e0 ha3 F3 hR2
                  obtain ⟨r, rfl⟩ := Int.eq_ofNat_of_zero_le j0
                  have HBq := Lib.hid (below_drewN HBr.out q)
                  go_wp2_with fail
                  refine (refClone_any A k3 c zs _ hn256 ((HA6.out.below HBq.out (Nat.le_refl _)).more HBq.out.size)).mono ?_
                  rintro e w8 ⟨A9, c9, rfl, hO8, hb8⟩
                  have HO8 := Lib.hid hO8
                  have Hb8 := Lib.hid hb8
                  clear hO8 hb8
                  have HB8 := Lib.hid (HBq.out.trans (Hb8.out.mono HBq.out.size))
                  have HA8 := Lib.hid (HA6.out.below HB8.out (Nat.le_refl _))
                  go_wp2_with fail
                  obtain ⟨wl, rfl⟩ : ∃ wl, wl = wr := ⟨_, rfl⟩
                  go_loopw [216] (fun t wr => ∃ x : Nat, x ≤ k ∧ t = .int .i64 x ∧ Own .u64 28 wr wl.heap.size (.slice A9 k3 c9) (splice zs r ((zs.drop p).take x)) ∧ Below wl.heap.size wl wr) (fun t _ => k - (intOf t).toNat)
                  case atStart => exact ⟨0, Nat.zero_le _, rfl, by simpa [splice] using HO8.out, (below_drewN (Below.refl _ _) q).trans Hb8.out⟩
                  case round =>
                    obtain ⟨x, hx, rfl, hO, hB⟩ := hrel
                    have hlen : (splice zs r ((zs.drop p).take x)).length = k3 := by rw [length_splice _ _ _ (by have := HL.out; simp; omega), HL.out]
                    have hBx := HBr.out.trans (hB.mono HBr.out.size)
                    by_cases hlt2 : x < k
                    · obtain ⟨g, cap, hv6, hg, hglt, hcells, hset⟩ := hO.form (by omega)
                      injection hv6 with e1 e4 e5
                      subst e1
                      clear e4 e5
                      obtain ⟨b, off, rfl, hbl, hca⟩ := (HA6.out.below hBx (Nat.le_refl _)).2.2 (by omega)
                      have hc1 := hca (p + x) (by omega)
                      obtain ⟨hcj, hfj⟩ := hcells (r + x) (by omega)
                      have hwx : (Lit.int .u64 (nth zs (p + x))).wf = true := HA6.out.2.1 _ (by rw [nth_get _ _ (by have := HL.out; omega)]; exact List.getElem_mem _)
                      have hO2 := hset (r + x) (nth zs (p + x)) (by omega) hwx
                      have e2 := splice_push zs ((zs.drop p).take x) r (nth zs (p + x)) (by have := HL.out; simp; omega)
                      have e3 : ((zs.drop p).take x).length = x := by have := HL.out; simp; omega
                      rw [e3, ← cut_snoc zs p x (by have := HL.out; omega)] at e2
                      rw [e2] at hO2
                      have HO2 := Lib.hid hO2
                      have HB2 := Lib.hid (hB.setCell (p := ⟨g, r + x, none⟩) hg (.int .u64 (nth zs (p + x))))
                      have g1 : ((p : Int) + (x : Int)) < (k3 : Int) := by omega
                      have g2 : (0 : Int) ≤ (p : Int) + (x : Int) := by omega
                      have g3 : ((p : Int) + (x : Int)).toNat = p + x := by omega
                      have g4 : ((r : Int) + (x : Int)) < (k3 : Int) := by omega
                      have g5 : (0 : Int) ≤ (r : Int) + (x : Int) := by omega
                      have g6 : ((r : Int) + (x : Int)).toNat = r + x := by omega
                      have g7 : off + (p + x) = off + (p + x) := rfl
                      generalize nth (splice zs r ((zs.drop p).take x)) (r + x) = X at hcj
                      generalize nth zs (p + x) = Z at *
                      clear hcells hset hO hB hO2 e2 e3 hlen hca hBx g7
                      go_wp2_with fail
                      go_roundw
                      case rel => exact ⟨x + 1, by omega, by go_num, HO2.out, HB2.out⟩
                      case measure => simp [intOf]; omega
                    · obtain rfl : x = k := by omega
                      obtain ⟨A8, c8, hv8, _, ha8⟩ := hO.arr
                      injection hv8 with e1 e2 e3
                      subst e1
                      rw [hlen] at ha8
                      have a3 := (HA3.out.below hBx (Nat.le_refl _)).more hBx.size
                      rw [Int.toNat_natCast, Int.toNat_natCast, Int.toNat_natCast] at a3
                      have HBr2 := Lib.hid (HB6.out.trans (hBx.mono HB6.out.size))
                      clear hO hB hlen e2 e3 hBx
                      go_wp2_with fail
                      refine (equalWords A3 _ k3 k3 _ _ wr.heap.size (splice zs r ((zs.drop p).take x)) (splice zs r ((zs.drop p).take x)) _ a3 ha8 hn hn).mono ?_
                      rintro e w9 ⟨rfl, q2, rfl⟩
                      rw [show decide (splice zs r ((zs.drop p).take x) = splice zs r ((zs.drop p).take x)) = true by simp]
                      clear a3 ha8
                      go_wp2
                      go_ret
                      exact ⟨rfl, below_drewN HBr2.out _⟩
                · have e4 : rangeE k4 j k = 4 := by
                    refine rangeE_out hn256 ?_
                    intro h
                    exact hR2 (rangeE_ok hn256 h)
                  have hs : strB k4 j k = false := by
                    unfold strB
                    simp
                    intro h1 h2
                    have h3 : ¬ ((k : Int) ≤ k4 - j) := fun h3 => hR2 (rangeE_ok hn256 ⟨h1, by omega, by omega, h3⟩)
                    omega
                  have e0 : moveE k4 p j k = 4 := by rw [moveE, if_pos HR.out, e4]
                  obtain rfl : k3 = 0 := by
                    rcases F3.out with h | h
                    · exact h.2
                    · omega
                  rw [hs, e0]
                  have HBr2 := Lib.hid (HB6.out.trans (HBr.out.mono HB6.out.size))
                  clear hs e0 e4 F3 hR2
                  go_wp2
                  go_ret
                  exact ⟨rfl, below_drewN HBr2.out _⟩
          · have e4 : rangeE n i m = 4 := by
              refine rangeE_out hn256 ?_
              intro h
              exact hR (rangeE_ok hn256 h)
            have hs : strB n i m = false := by
              cases hb : strB n i m with
              | false => rfl
              | true =>
                exfalso
                apply hR
                unfold strB at hb
                have := of_decide_eq_true hb
                exact rangeE_ok hn256 ⟨this.2.1, this.2.2.1, this.1, this.2.2.2⟩
            have e0 : moveE n i j m = 4 := by rw [moveE, if_neg hR, e4]
            obtain rfl : k3 = 0 := by
              rcases F3.out with h | h
              · exact h.2
              · omega
            obtain rfl : k4 = 0 := by
              rcases F4.out with h | h
              · exact h.2
              · exact absurd h.1 hR
            rw [hs, e0, e4]
            clear hs e0 e4 F3 F4 hR
            go_wp2
            go_ret
            exact ⟨rfl, HB7.out⟩
end Go.Proofs.Ytjngimjfofplpaa
